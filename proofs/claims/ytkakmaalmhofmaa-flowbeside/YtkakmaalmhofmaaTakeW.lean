/- takeWay: a way from s to t out of the steps. -/
import Derived.Test.YtkakmaalmhofmaaLeast
import Derived.Test.YtkakmaalmhofmaaWaysM
namespace Go.Proofs.Ytkakmaalmhofmaa
open Go.RowKit Go.Maps
attribute [local go_sem ↓] Go.wp_at_zero Go.wp_at_succ

open Classical in
noncomputable def memW (w : World) (b u : Nat) : Nat := if ∃ N S, SetN w b N S ∧ N ≤ 1000000 ∧ u < N ∧ S u = true then 1 else 0
theorem SetN.mem {w : World} {b N u : Nat} {S : Nat → Bool} (h : SetN w b N S) (hN : N ≤ 1000000) (hu : u < N) : memW w b u = if S u = true then 1 else 0 := by
  unfold memW
  by_cases hs : S u = true
  · rw [if_pos hs, if_pos ⟨N, S, h, hN, hu, hs⟩]
  · rw [if_neg hs, if_neg]
    rintro ⟨N', S', h', hN', hu', hs'⟩
    have h1 := h.look hN hu
    have h2 := h'.look hN' hu'
    rw [h1] at h2
    injection h2 with h2
    injection h2 with h2
    simp at h2
    rw [hs'] at h2
    exact hs h2
noncomputable def totW (w : World) (bl : Nat → Nat) (N : Nat) : Nat := ((List.range N).map fun a => ((List.range N).map fun b => memW w (bl a) b).sum).sum
theorem NearsAt.tot {w : World} {ao : Option Addr} {N : Nat} {bl : Nat → Nat} {e : Nat → Nat → Bool} (h : NearsAt w ao N bl e) (hN : N ≤ 1000000) : totW w bl N = totE e N := by
  unfold totW totE
  congr 1
  refine List.map_congr_left fun a ha => ?_
  congr 1
  refine List.map_congr_left fun b hb => ?_
  exact (h.sets a (by simpa using ha)).mem hN (by simpa using hb)
theorem NearsAt.less {w w' : World} {ao : Option Addr} {n : Nat} {bl : Nat → Nat} {e : Nat → Nat → Bool} (h : NearsAt w ao n bl e) {a b : Nat} (ha : a < n) (hs : SetN w' (bl a) n (fun k => e a k && k != b)) (ht : Turns (fun k => k = bl a) w w') : NearsAt w' ao n bl (lessE e a b) := by
  refine ⟨h.inj, fun i hi => ?_, fun i hi => ?_⟩
  · obtain ⟨g, e1, c⟩ := h.row i hi
    exact ⟨g, e1, cell_turns c ht (not_map c (h.sets a ha))⟩
  · by_cases he : i = a
    · subst he
      exact hs.congr (fun k _ => by
        by_cases hk : k = b
        · subst hk; simp [lessE]
        · simp [lessE, bne])
    · have := (h.sets i hi).turns ht (fun e => he (h.inj i a hi ha e))
      exact this.congr (fun k _ => by simp [lessE, he])
theorem own_not_set {w : World} {base b N : Nat} {S : Nat → Bool} {t : TypeId} {v : Value} {n : Nat} {xs : List Value} (h : w.ownsRow base t 1 v n xs) (hs : SetN w b N S) : v.ownBlock ≠ some b := fun hb => by
  obtain ⟨cur, hc⟩ := own_cells h hb
  obtain ⟨es, c, hm⟩ := hs.isMap
  rw [hc] at hm
  cases hm
theorem own_cut {w : World} {base i : Nat} {wo : Option Addr} {wc : Nat} {L : List Nat} (h : w.ownsRow base 3 1 (.slice wo L.length wc) L.length (qv L)) (hi : i ≤ L.length) : w.ownsRow base 3 1 (.slice wo (L.take i).length wc) (L.take i).length (qv (L.take i)) := by
  have hl : (L.take i).length = i := by simp; omega
  rw [hl]
  refine ⟨by simp [qv]; omega, ?_⟩
  rcases h.2 with ⟨h1, h2⟩ | ⟨g, cap, cur, h1, h2, h3, h4, h5, h6, h7⟩
  · obtain ⟨rfl, _, rfl⟩ : wo = none ∧ L.length = 0 ∧ wc = 0 := by simpa using h1
    have : i = 0 := by omega
    subst this
    exact Or.inl ⟨rfl, rfl⟩
  · obtain ⟨rfl, rfl⟩ : wo = some ⟨g, 0, none⟩ ∧ wc = cap := by simpa using h1
    refine Or.inr ⟨g, wc, cur, rfl, h2, h3, by omega, h5, h6, ?_⟩
    have : cur.toList.take (i * 1) = (cur.toList.take (L.length * 1)).take i := by rw [List.take_take]; congr 1; omega
    rw [this, h7]
    simp [qv, List.map_take]

/-- How the memory stands while a way is taken. -/
structure WI (w wr : World) (ao : Option Addr) (N : Nat) (bl : Nat → Nat) (e e' : Nat → Nat → Bool) (s t : Nat) (x : Int) (v : Nat) (L : List Nat) (wo : Option Addr) (wc : Nat) : Prop where
  own : wr.ownsRow w.heap.size 3 1 (.slice wo L.length wc) L.length (qv L)
  near : NearsAt wr ao N bl e'
  bal : Bal e' N s t x v
  way : WayTo N e e' s v L
  turns : Turns (Marks N bl) w wr
theorem WI.len {w wr : World} {ao : Option Addr} {N : Nat} {bl : Nat → Nat} {e e' : Nat → Nat → Bool} {s t : Nat} {x : Int} {v : Nat} {L : List Nat} {wo : Option Addr} {wc : Nat} (h : WI w wr ao N bl e e' s t x v L wo wc) : L.length ≤ N := by
  have := nat_nodup_len L (List.range N) h.way.nodup (fun a ha => by simpa using h.way.lt a ha)
  simpa using this
/-- A step more. -/
theorem WI.next {w wr w1 w2 : World} {ao : Option Addr} {N : Nat} {bl : Nat → Nat} {e e' : Nat → Nat → Bool} {s t : Nat} {x : Int} {v m : Nat} {L L1 : List Nat} {wo : Option Addr} {wc g c : Nat} {o : Obj} (h : WI w wr ao N bl e e' s t x v L wo wc) (hv : v < N) (hm : m < N) (he : e' v m = true)
    (hs : SetN w1 (bl v) N (fun k => e' v k && k != m)) (ht : Turns (fun k => k = bl v) wr w1) (hw : WayTo N e (lessE e' v m) s m (L1 ++ [m])) (hao : ∀ g, ao = some ⟨g, 0, none⟩ → g < w.heap.size) (hbl : ∀ i, i < N → bl i < w.heap.size)
    (hown : w2.ownsRow w.heap.size 3 1 (.slice (some ⟨g, 0, none⟩) (L1 ++ [m]).length c) (L1 ++ [m]).length (qv (L1 ++ [m]))) (hg : (w1.alloc o).grownBy w2 (Value.slice wo L1.length wc).ownBlock) (hob : ∀ b, (Value.slice wo L1.length wc).ownBlock = some b → w.heap.size ≤ b) :
    WI w w2 ao N bl e (lessE e' v m) s t x m (L1 ++ [m]) (some ⟨g, 0, none⟩) c := by
  have n1 := h.near.less hv hs ht
  have T2 := (alloc_turns w1 o (fun k => some k = (Value.slice wo L1.length wc).ownBlock)).trans (Turns.of_grown hg)
  have n2 := n1.turns T2 (fun i hi hk => by have := hob _ hk.symm; have := hbl i hi; omega) (fun g hg hk => by have := hob _ hk.symm; have := hao g hg; omega)
  have hsz := h.turns.size
  refine ⟨hown, n2, h.bal.step hv hm he, hw, ?_⟩
  have t1 : Turns (Marks N bl) wr w1 := ht.mono (fun k _ hk => ⟨v, hv, hk⟩)
  have t2 := h.turns.trans t1
  exact ⟨T2.os.trans t2.os, T2.tape.trans t2.tape, T2.output.trans t2.output, Nat.le_trans t2.size T2.size, fun k hk hn => (T2.block k (Nat.lt_of_lt_of_le hk t2.size) (fun hq => by have := hob _ hq.symm; omega)).trans (t2.block k hk hn)⟩

set_option maxHeartbeats 1000000 in
theorem takeWay_call {w : World} {ao : Option Addr} {N cap : Nat} {bl : Nat → Nat} {e : Nat → Nat → Bool} {s t : Nat} {x : Int} (hn : NearsAt w ao N bl e) (hN : N ≤ 100) (hs : s < N) (hx : 1 ≤ x) (hb : Bal e N s t x s) :
    Calls Try.prog 58 #[.slice ao N cap, .int .i64 (s : Int), .int .i64 (t : Int)] w fun r w' => ∃ wo wc L e', r = .returned (.slice wo L.length wc) ∧ WI w w' ao N bl e e' s t x t L wo wc := by
  have hao : ∀ g, ao = some ⟨g, 0, none⟩ → g < w.heap.size := fun g hg => by
    obtain ⟨g', e1, c⟩ := hn.row s hs
    rw [e1] at hg; cases hg
    exact World.block_lt_of_cell? w _ c
  have hbl : ∀ i, i < N → bl i < w.heap.size := fun i hi => (hn.sets i hi).lt
  have HN : Hid (NearsAt w ao N bl e) := hn
  have HB : Hid (Bal e N s t x s) := hb
  have HAO : Hid (∀ g, ao = some ⟨g, 0, none⟩ → g < w.heap.size) := hao
  have HBL : Hid (∀ i, i < N → bl i < w.heap.size) := hbl
  clear hn hb hao hbl
  go_enter Try.func58, Try.ntmps58
  go_wp2
  go_loopw [7, 8, 9] (fun wv vv _ wr => ∃ (e' : Nat → Nat → Bool) (v : Nat) (L : List Nat) (wo : Option Addr) (wc : Nat), wv = .slice wo L.length wc ∧ vv = .int .i64 (v : Int) ∧ v < N ∧ WI w wr ao N bl e e' s t x v L wo wc) (fun _ _ _ wr => totW wr bl N)
  case atStart =>
    exact ⟨e, s, [s], _, _, rfl, rfl, hs, ownsRow_one w _ _ _ (Nat.le_refl _), NearsAt.below HN.out (below_alloc (Below.refl _ w) _), HB.out, WayTo.start hs, alloc_turns _ _ _⟩
  case round =>
    obtain ⟨e', v, L, wo, wc, rfl, rfl, hv, hwi⟩ := hrel
    have HW : Hid (WI w wr ao N bl e e' s t x v L wo wc) := hwi
    clear hwi
    by_cases hvt : v = t
    · subst hvt
      go_wp2
      go_ret
      exact ⟨wo, wc, L, e', rfl, HW.out⟩
    · have j1 : ((v : Int) == (t : Int)) = false := by rw [beq_eq_false_iff_ne]; omega
      obtain ⟨u, hu, heu⟩ := HW.out.bal.more hx hv hvt
      obtain ⟨g, rfl, hcv⟩ := HW.out.near.row v hv
      have i1 : (0 : Int) ≤ (v : Int) := by omega
      have i2 : (v : Int) < (N : Int) := by omega
      go_upto_region 5 with (first | (go_at_call 68; refine Calls.mono (takeLeast_call (HW.out.near.sets v hv) (by omega) hu heu) ?_; rintro r w1 ⟨m, rfl, hm, hem, hs1, ht1⟩) | go_in)
      have hown1 : w1.ownsRow w.heap.size 3 1 (.slice wo L.length wc) L.length (qv L) := ownsRow_blocks HW.out.own (fun b hb => ht1.block b (HW.out.own.lt b hb).2 (fun hk => own_not_set HW.out.own (HW.out.near.sets v hv) (by rw [hb, hk])))
      have HO1 : Hid (w1.ownsRow w.heap.size 3 1 (.slice wo L.length wc) L.length (qv L)) := hown1
      have HS1 : Hid (SetN w1 (bl v) N (fun k => e' v k && k != m)) := hs1
      have HT1 : Hid (Turns (fun k => k = bl v) wr w1) := ht1
      have hsz1 : w.heap.size ≤ w1.heap.size := Nat.le_trans HW.out.turns.size ht1.size
      have hlen := HW.out.len
      clear hs1 ht1 hown1 hcv heu
      go_upto_region 6 with (first | (go_at_call 69; refine Calls.mono (index_call (numsAt_own HO1.out) (by omega) m) ?_; rintro r w2 ⟨⟨k, rfl, hk⟩, hw2⟩; rw [hw2]; clear hw2) | go_in)
      have hmeas : totE (lessE e' v m) N < totW wr bl N := by rw [HW.out.near.tot (by omega)]; exact totE_lt hv hm hem
      have HME : Hid (totE (lessE e' v m) N < totW wr bl N) := hmeas
      clear hmeas
      rcases hk with ⟨rfl, hnm⟩ | ⟨i, rfl, hi⟩
      · have HNM : Hid (m ∉ L) := hnm
        clear hnm
        go_wp2_with (first | (at_builtin; refine wpList_pushA (x := m) rfl _ _ rfl rfl rfl HO1.out (by omega) hsz1 ?_; intro g2 c2 w3 ho3 hg3 hat3) | go_in)
        have hwi2 := WI.next HW.out hv hm hem HS1.out HT1.out (HW.out.way.on hm hem HNM.out) HAO.out HBL.out ho3 hg3 (fun b hb => (HO1.out.lt b hb).1)
        have HW2 : Hid (WI w w3 (some ⟨g, 0, none⟩) N bl e (lessE e' v m) s t x m (L ++ [m]) (some ⟨g2, 0, none⟩) c2) := hwi2
        clear hwi2 ho3 hg3 hat3
        go_wp2
        go_roundw
        case rel => exact ⟨lessE e' v m, m, L ++ [m], _, _, by simp, rfl, hm, HW2.out⟩
        case measure => rw [HW2.out.near.tot (by omega)]; exact HME.out
      · have hil := (List.getElem?_eq_some_iff.1 hi).1
        have ho1' := own_cut HO1.out (i := i) (by omega)
        have hway := HW.out.way.back hi
        obtain ⟨L1, hL1⟩ : ∃ L1, L1 = L.take i := ⟨_, rfl⟩
        rw [← hL1] at ho1' hway
        have hli : i = L1.length := by rw [hL1]; simp; omega
        subst hli
        have HO1' : Hid (w1.ownsRow w.heap.size 3 1 (.slice wo L1.length wc) L1.length (qv L1)) := ho1'
        have HWY : Hid (WayTo N e (lessE e' v m) s m (L1 ++ [m])) := hway
        obtain ⟨gw, rfl⟩ : ∃ gw, wo = some ⟨gw, 0, none⟩ := by
          obtain ⟨g', h1, _⟩ := numsAt_own HO1.out _ _ hi
          exact ⟨g', h1⟩
        have hcap : L.length ≤ wc := by
          rcases HO1.out.2 with ⟨h1, _⟩ | ⟨_, _, _, h1, _, _, h4, _⟩
          · cases h1
          · cases h1; exact h4
        have k1 : (0 : Int) ≤ (L1.length : Int) := by omega
        have k2 : (L1.length : Int) ≤ (wc : Int) := by omega
        clear hL1 ho1' hway hi
        go_wp2_with (first | (at_builtin; refine wpList_pushA (x := m) rfl _ _ rfl rfl rfl HO1'.out (by omega) hsz1 ?_; intro g2 c2 w3 ho3 hg3 hat3) | go_in)
        have hwi2 := WI.next HW.out hv hm hem HS1.out HT1.out HWY.out HAO.out HBL.out ho3 hg3 (fun b hb => (HO1'.out.lt b hb).1)
        have HW2 : Hid (WI w w3 (some ⟨g, 0, none⟩) N bl e (lessE e' v m) s t x m (L1 ++ [m]) (some ⟨g2, 0, none⟩) c2) := hwi2
        clear hwi2 ho3 hg3 hat3
        go_wp2
        go_roundw
        case rel => exact ⟨lessE e' v m, m, L1 ++ [m], _, _, by simp, rfl, hm, HW2.out⟩
        case measure => rw [HW2.out.near.tot (by omega)]; exact HME.out
end Go.Proofs.Ytkakmaalmhofmaa
