/- nearestPairs of any even number of nodes. The document's Mates: the least sum of distances of nodes in pairs. -/
import Derived.Test.YtkbgcbbloogdjacPairsN
import Derived.Test.YtkbgcbbloogdjacMakeEven
import Derived.Deep.RegionHeld3
namespace Go.Proofs.Ytkbgcbbloogdjac
open Go.RowKit Go.Maps
attribute [local go_sem ↓] Go.wp_at_zero Go.wp_at_succ

/-- A best one of all pairings. -/
def LeastOf (O : Nat → Nat → Option Nat) (od : List Nat) (ps : List Pair) : Prop := PairOf ps od ∧ ∀ qs, PairOf qs od → sumD O ps ≤ sumD O qs

set_option maxRecDepth 4000 in
set_option maxHeartbeats 2000000 in
theorem nearestN_call {w : World} {N n : Nat} {e : Nat → Nat → Bool} {oo : Option Addr} {oc bx gf : Nat} {bf : Nat → Nat} {od : List Nat} {O : Nat → Nat → Option Nat} (hnum : NumsAt w oo od) (hoc : od.length ≤ oc) (hlen : od.length = 2 * n) (hn : n ≤ 6) (hlt : ∀ u, u ∈ od → u < N) (hN : N ≤ 100) (hcell : w.cell? ⟨bx, 0, none⟩ = some (.slice (some ⟨gf, 0, none⟩) N N)) (hft : FarT w gf N e od bf O) (hO : ∀ u v, u ∈ od → v ∈ od → ∃ D, O u v = some D) :
    Calls Try.prog 57 #[.slice oo od.length oc, .func (.func 58) #[] #[.pointer (some ⟨bx, 0, none⟩)]] w fun r w' => ∃ po pc ps, r = .returned (.slice po ps.length pc) ∧ EdgesAt w' (.slice po ps.length pc) ps ∧ LeastOf O od ps ∧ (∀ x, po = some x → w.heap.size ≤ x.block) ∧ Below w.heap.size w w' := by
  have HNUM : Hid _ := hnum
  have HFT : Hid _ := hft
  have HO : Hid _ := hO
  have HLT : Hid _ := hlt
  have HCE : Hid _ := hcell
  have HLN : Hid _ := hlen
  have hol : od.length ≤ 12 := by omega
  clear hnum hft hO hlt hcell hlen
  have hF := enter68
  go_enter Try.func57, Try.ntmps57
  go_upto_region 1 with (fail)
  obtain ⟨fv, hfv⟩ : ∃ fv, fv = Value.func (.func 58) #[] #[.pointer (some ⟨bx, 0, none⟩)] := ⟨_, rfl⟩
  rw [← hfv]
  have t6 : One (w.alloc (Obj.cells #[fv] 92)) w.heap.size fv 92 := one_new w _ _
  have hB := below_alloc (Below.refl w.heap.size w) (Obj.cells #[fv] 92)
  have hz : (w.alloc (Obj.cells #[fv] 92)).heap.size = w.heap.size + 1 := by simp
  generalize w.alloc (Obj.cells #[fv] 92) = W0 at t6 hB hz ⊢
  go_upto_region 2 with (fail)
  have u6 := one_alloc (one_alloc t6 (Obj.cells #[.slice none 0 0] 22)) (Obj.cells #[.slice none 0 0] 22)
  have u3 := one_alloc (one_new W0 (.slice none 0 0) 22) (Obj.cells #[.slice none 0 0] 22)
  have u4 := one_new (W0.alloc (Obj.cells #[.slice none 0 0] 22)) (.slice none 0 0) 22
  have hB1 := below_alloc (below_alloc hB (Obj.cells #[.slice none 0 0] 22)) (Obj.cells #[.slice none 0 0] 22)
  have hz1 : ((W0.alloc (Obj.cells #[.slice none 0 0] 22)).alloc (Obj.cells #[.slice none 0 0] 22)).heap.size = w.heap.size + 3 := by simp [hz]
  have hz1' : (W0.alloc (Obj.cells #[.slice none 0 0] 22)).heap.size = w.heap.size + 2 := by simp [hz]
  rw [hz1'] at u4
  rw [hz] at u3
  generalize (W0.alloc (Obj.cells #[.slice none 0 0] 22)).alloc (Obj.cells #[.slice none 0 0] 22) = W1 at u6 u3 u4 hB1 hz1 ⊢
  clear t6 hB hz1'
  go_upto_region 3 with (fail)
  have x6 := one_alloc u6 (Obj.cells #[.int .i64 (-1)] 3)
  have x3 := one_alloc u3 (Obj.cells #[.int .i64 (-1)] 3)
  have x4 := one_alloc u4 (Obj.cells #[.int .i64 (-1)] 3)
  have x2 := one_new W1 (.int .i64 (-1)) 3
  have hB2 := below_alloc hB1 (Obj.cells #[.int .i64 (-1)] 3)
  have hz2 : (W1.alloc (Obj.cells #[.int .i64 (-1)] 3)).heap.size = w.heap.size + 4 := by simp [hz1]
  rw [hz1] at x2
  generalize W1.alloc (Obj.cells #[.int .i64 (-1)] 3) = W2 at x6 x3 x4 x2 hB2 hz2 ⊢
  clear u6 u3 u4 hB1 hz1 hz
  go_upto_region 4 with (fail)
  have y6 := one_alloc x6 (Obj.cells #[.nilFunc] 111)
  have y3 := one_alloc x3 (Obj.cells #[.nilFunc] 111)
  have y4 := one_alloc x4 (Obj.cells #[.nilFunc] 111)
  have y2 := one_alloc x2 (Obj.cells #[.nilFunc] 111)
  have y5 := one_new W2 .nilFunc 111
  have hB3 := below_alloc hB2 (Obj.cells #[.nilFunc] 111)
  have hz3 : (W2.alloc (Obj.cells #[.nilFunc] 111)).heap.size = w.heap.size + 5 := by simp [hz2]
  rw [hz2] at y5
  generalize W2.alloc (Obj.cells #[.nilFunc] 111) = W3 at y6 y3 y4 y2 y5 hB3 hz3 ⊢
  clear x6 x3 x4 x2 hB2 hz2
  have c5 := cell_of_one y5
  have f5 := one_free y5
  go_upto_region 5 with (fail)
  obtain ⟨cl, hcl⟩ : ∃ cl, cl = Value.func (.func 68) #[] #[.pointer (some ⟨w.heap.size + 3, 0, none⟩), .pointer (some ⟨w.heap.size + 1, 0, none⟩), .pointer (some ⟨w.heap.size + 1 + 1, 0, none⟩), .pointer (some ⟨w.heap.size + 4, 0, none⟩), .pointer (some ⟨w.heap.size, 0, none⟩)] := ⟨_, rfl⟩
  rw [← hcl]
  have z6 := one_far (b' := w.heap.size + 4) (o := 0) (u := cl) y6 (by omega)
  have z3 := one_far (b' := w.heap.size + 4) (o := 0) (u := cl) y3 (by omega)
  have z4 := one_far (b' := w.heap.size + 4) (o := 0) (u := cl) y4 (by omega)
  have z2 := one_far (b' := w.heap.size + 4) (o := 0) (u := cl) y2 (by omega)
  have z5 := one_set (y := cl) y5
  have hB4 := hB3.setCell (p := ⟨w.heap.size + 4, 0, none⟩) (by simp) cl
  generalize W3.setCell ⟨w.heap.size + 4, 0, none⟩ cl = W4 at z6 z3 z4 z2 z5 hB4 ⊢
  clear y6 y3 y4 y2 y5 hB3 hz3 c5 f5
  have k5 := cell_of_one z5
  rw [hcl] at k5
  rw [hfv] at z6
  have hps : PS W4 w.heap.size (w.heap.size + 3) (w.heap.size + 1) (w.heap.size + 1 + 1) (w.heap.size + 4) w.heap.size bx (-1) [] [] none 0 := by
    refine ⟨z2, z3, World.ownsRow_nil _ _ _ _, ⟨none, 0, z4, edgesAt_nil _, (fun x hx => by cases hx)⟩, by rw [← hcl]; exact z5, z6, by omega, by omega⟩
  have hcall := try_call (O := O) (w0 := w) (od := od) (fun u hu => by have := HLT.out u hu; omega) (fun u v hu hv => by
      obtain ⟨D, hD⟩ := HO.out u v hu hv
      exact ⟨D, hD, by have := (HFT.out.dist u hu).lt (HLT.out v hv) hD; omega⟩) (fun w' hb u v D hu hv hD => by
      have hr := HFT.out.row.cell (HLT.out u hu)
      simp only [if_pos hu] at hr
      have hr2 := (HFT.out.rows u hu).1.cell (HLT.out v hv)
      have hz : farZ (O u v) = (D : Int) := by rw [hD]; rfl
      rw [hz] at hr2
      exact farOf_call (N := N) ((hb.cell (by exact World.block_lt_of_cell? w _ HCE.out)).trans HCE.out) ((hb.cell (by exact World.block_lt_of_cell? w _ hr)).trans hr) ((hb.cell (by exact World.block_lt_of_cell? w _ hr2)).trans hr2) (HLT.out u hu) (HLT.out v hv)) n W4 od oo oc 0 (-1) [] [] none 0 HLN.out (fun x hx => hx) (fun k u hu => by
      obtain ⟨b, h1, h2⟩ := HNUM.out k u hu
      exact ⟨b, h1, (hB4.cell (by exact World.block_lt_of_cell? w _ h2)).trans h2⟩) hoc ?hlb hps hB4 (fun _ _ => rfl) (fun e he => by simp at he) (by simp; omega) (by omega) (by omega) (by omega)
  case hlb =>
    intro x hx hne
    have hpos : 0 < od.length := List.length_pos_iff.2 hne
    obtain ⟨b, h1, h2⟩ := HNUM.out 0 (od[0]) (List.getElem?_eq_getElem hpos)
    rw [hx] at h1
    cases h1
    have hl := World.block_lt_of_cell? w _ h2
    have hl' : b < w.heap.size := hl
    refine ⟨Nat.lt_of_lt_of_le hl hB4.size, fun hm => ?_⟩
    rcases hm with h | h | h | h
    · have h' : b = w.heap.size + 3 := h; omega
    · have h' : b = w.heap.size + 1 := h; omega
    · have h' : b = w.heap.size + 1 + 1 := h; omega
    · cases h
  have HC : Hid _ := hcall
  clear hcall
  go_wp2_with (first
    | (go_at_call 68; refine Calls.mono HC.out ?_; rintro r wa ⟨rfl, lst', best', co', ⟨cc', hpsE⟩, hbest, hblk, kT, hl'⟩; obtain ⟨bo, bc, k4, kE, kb⟩ := hpsE.h4; have c4 := cell_of_one k4)
    | go_in)
  go_ret
  have hfin : LeastOf O od best' := by
    obtain ⟨qs, hq⟩ := pair_ex n od HLN.out
    rcases hbest with ⟨_, _, h⟩ | ⟨ps, h1, h2, h3, h4, _⟩
    · have := (h qs hq).1
      omega
    · have e : best' = ps := by simpa using h3
      rw [e]
      refine ⟨h1, fun qs hq => ?_⟩
      have := h4 qs hq
      omega
  exact ⟨bo, bc, best', rfl, kE, hfin, fun x hx => (kb x hx).1, kT.below hB4 hB4.size (fun k hk => by
    rcases hk with h | h | h | h
    · omega
    · omega
    · omega
    · cases h)⟩
end Go.Proofs.Ytkbgcbbloogdjac

namespace Go.Proofs.Ytkbgcbbloogdjac
open Go.RowKit Go.Maps
attribute [local go_sem ↓] Go.wp_at_zero Go.wp_at_succ

/-- A table of distances, a row a node. -/
def DT (w : World) (gd N : Nat) (O : Nat → Nat → Option Nat) : Prop := ∀ u, u < N → ∃ bu, w.cell? ⟨gd, u, none⟩ = some (.slice (some ⟨bu, 0, none⟩) N N) ∧ RowV w bu 3 N (fun x => .int .i64 (farZ (O u x)))
theorem DT.below {w w' : World} {gd N : Nat} {O : Nat → Nat → Option Nat} (h : DT w gd N O) (hb : Below w.heap.size w w') : DT w' gd N O := fun u hu => by
  obtain ⟨bu, h1, h2⟩ := h u hu
  exact ⟨bu, (hb.cell (by exact World.block_lt_of_cell? w _ h1)).trans h1, RowV.below h2 hb⟩
/-- s is the least sum of a pairing in S; -1: there is none in it. -/
def MinS (O : Nat → Nat → Option Nat) (S : List Pair → Prop) (z : Int) : Prop := (z = -1 ∧ ∀ qs, ¬ S qs) ∨ ∃ ps, S ps ∧ z = sumD O ps ∧ ∀ qs, S qs → sumD O ps ≤ sumD O qs
theorem MinS.step {O : Nat → Nat → Option Nat} {S S' : List Pair → Prop} {z : Int} {u v D : Nat} (hO : O u v = some D) (h : MinS O S z) {ps : List Pair} (h1 : S' ps) (h2 : ∀ qs, S' qs → sumD O ps ≤ sumD O qs) : MinS O (fun qs => S qs ∨ ∃ qs', qs = ((u : Int), (v : Int)) :: qs' ∧ S' qs') (if z < 0 ∨ (D : Int) + sumD O ps < z then (D : Int) + sumD O ps else z) := by
  have hsum : ∀ qs', sumD O (((u : Int), (v : Int)) :: qs') = D + sumD O qs' := fun qs' => by simp [sumD, hO]
  by_cases c : z < 0 ∨ (D : Int) + sumD O ps < z
  · rw [if_pos c]
    refine Or.inr ⟨((u : Int), (v : Int)) :: ps, Or.inr ⟨ps, rfl, h1⟩, by rw [hsum]; simp, fun qs hq => ?_⟩
    rw [hsum]
    rcases hq with hq | ⟨qs', rfl, hq⟩
    · rcases h with ⟨_, h⟩ | ⟨ps0, _, h3, h4⟩
      · exact absurd hq (h qs)
      · have := h4 qs hq
        omega
    · rw [hsum]
      have := h2 qs' hq
      omega
  · rw [if_neg c]
    rcases h with ⟨h, _⟩ | ⟨ps0, h3, h4, h5⟩
    · omega
    · refine Or.inr ⟨ps0, Or.inl h3, h4, fun qs hq => ?_⟩
      rcases hq with hq | ⟨qs', rfl, hq⟩
      · exact h5 qs hq
      · rw [hsum]
        have := h2 qs' hq
        omega
theorem MinS.congr {O : Nat → Nat → Option Nat} {S T : List Pair → Prop} {z : Int} (h : MinS O S z) (he : ∀ qs, S qs ↔ T qs) : MinS O T z := by
  have : S = T := funext fun qs => propext (he qs)
  rw [← this]; exact h
theorem erase_take {t : List Nat} {k q x : Nat} (hx : t[q]? = some x) : (t.take (q + 1)).eraseIdx k = (t.take q).eraseIdx k ++ (if q = k then [] else [x]) := by
  have hq := (List.getElem?_eq_some_iff.1 hx).1
  rw [take_at hx]
  by_cases c : q = k
  · subst c
    rw [if_pos rfl, List.append_nil, List.eraseIdx_of_length_le (l := t.take q) (by simp; omega)]
    have e : (t.take q).length = q := by simp; omega
    rw [List.eraseIdx_append_of_length_le (by omega), e, Nat.sub_self]
    simp
  · rw [if_neg c]
    by_cases h : k < q
    · rw [List.eraseIdx_append_of_lt_length (by simp; omega)]
    · rw [List.eraseIdx_of_length_le (l := t.take q) (by simp; omega), List.eraseIdx_of_length_le (by simp; omega)]

set_option maxRecDepth 8000 in
set_option maxHeartbeats 8000000 in
theorem mates_call {N : Nat} {O : Nat → Nat → Option Nat} {od : List Nat} (hlt : ∀ u, u ∈ od → u < N) (hO : ∀ u v, u ∈ od → v ∈ od → ∃ D, O u v = some D ∧ D ≤ 100) :
    ∀ (n : Nat) (w : World) (l : List Nat) (gd dc : Nat) (lo : Option Addr) (lc : Nat), l.length = 2 * n → n ≤ 6 → (∀ x, x ∈ l → x ∈ od) → NumsAt w lo l → DT w gd N O →
    Calls Try.prog 27 #[.slice (some ⟨gd, 0, none⟩) N dc, .slice lo l.length lc] w fun r w' => ∃ ps, r = .returned (.int .i64 (sumD O ps : Int)) ∧ LeastOf O l ps ∧ sumD O ps ≤ 100 * n ∧ Below w.heap.size w w' := by
  intro n
  induction n with
  | zero =>
    intro w l gd dc lo lc hlen _ _ _ _
    have hnil : l = [] := List.eq_nil_of_length_eq_zero (by omega)
    subst hnil
    go_enter Try.func27, Try.ntmps27
    go_wp2
    go_ret
    exact ⟨[], by simp [sumD], ⟨rfl, fun qs _ => by simp [sumD]⟩, by simp [sumD], Below.refl _ _⟩
  | succ n ih =>
    intro w l gd dc lo lc hlen hn hmem hnum hdt
    cases l with
    | nil => simp at hlen
    | cons u t =>
      have htl : t.length = 2 * n + 1 := by simp at hlen; omega
      obtain ⟨go, rfl, c0⟩ := hnum 0 u rfl
      have huo := hmem u (by simp)
      have huN := hlt u huo
      obtain ⟨M, hM⟩ : ∃ M, M = (u :: t).length := ⟨_, rfl⟩
      rw [← hM]
      have hM2 : M = t.length + 1 := by rw [hM]; simp
      have e0 : ((M : Int) == 0) = false := by rw [beq_eq_false_iff_ne]; omega
      have e00 : (M == 0) = false := by rw [beq_eq_false_iff_ne]; omega
      have HIH : Hid _ := ih
      have HMEM : Hid _ := hmem
      have HNUM : Hid _ := hnum
      have HO : Hid _ := hO
      have HLT : Hid _ := hlt
      have HDT : Hid _ := hdt
      have HM2 : Hid _ := hM2
      have HTL : Hid _ := htl
      have hM4 : M ≤ 13 := by omega
      have hM5 : 2 ≤ M := by omega
      clear ih hmem hnum hO hlt hdt hlen hM hM2 htl
      go_enter Try.func27, Try.ntmps27
      go_upto_region 5 with (fail)
      go_loopw [5, 6] (fun z i wr => ∃ (k : Nat) (zz : Int), k ≤ t.length ∧ i = .int .i64 ((k : Int) + 1) ∧ z = .int .i64 zz ∧ MinS O (FirstK u t k) zz ∧ -1 ≤ zz ∧ zz ≤ 100 * (n + 1 : Nat) ∧ Below w.heap.size w wr) (fun _ i _ => M - (numOf i).toNat)
      case atStart => exact ⟨0, -1, Nat.zero_le _, rfl, rfl, Or.inl ⟨rfl, fun qs ⟨j, _, _, h, _⟩ => by omega⟩, by omega, by omega, Below.refl _ _⟩
      case round =>
        obtain ⟨k, zz, hk, rfl, rfl, hmin, hz1, hz2, hB⟩ := hrel
        have HMI : Hid _ := hmin
        clear hmin c0
        by_cases hkt : k < t.length
        · obtain ⟨v, hv⟩ : ∃ v, t[k]? = some v := ⟨t[k], List.getElem?_eq_getElem hkt⟩
          have hvo := HMEM.out v (by simp [List.mem_of_getElem? hv])
          have hvN := HLT.out v hvo
          obtain ⟨D, hD, hD1⟩ := HO.out u v huo hvo
          have HV : Hid _ := hv
          have HDD : Hid _ := hD
          clear hv hD
          have i2 : (k : Int) + 1 < (M : Int) := by have := HM2.out; omega
          go_upto_region 9 with (fail)
          go_loopw [7, 8] (fun r i wq => ∃ q : Nat, q ≤ t.length ∧ i = .int .i64 ((q : Int) + 1) ∧ wq.ownsRow w.heap.size 3 1 r ((t.take q).eraseIdx k).length (qv ((t.take q).eraseIdx k)) ∧ Below w.heap.size w wq) (fun _ i _ => M - (numOf i).toNat)
          case atStart => exact ⟨0, Nat.zero_le _, rfl, by simpa [qv] using World.ownsRow_nil _ _ _ _, hB⟩
          case round =>
            obtain ⟨q, hq, rfl, hown, hBq⟩ := hrel
            clear hB
            obtain ⟨ro, rc, rfl⟩ := form_row hown
            have hrl : ((t.take q).eraseIdx k).length ≤ 13 := by
              have := HM2.out
              rw [List.length_eraseIdx]
              split <;> (simp; omega)
            have hsz := hBq.size
            by_cases hqt : q < t.length
            · obtain ⟨x, hx⟩ : ∃ x, t[q]? = some x := ⟨t[q], List.getElem?_eq_getElem hqt⟩
              obtain ⟨go', e1, cx0⟩ := HNUM.out (q + 1) x (by simpa using hx)
              cases e1
              have cx := (hBq.cell (by exact World.block_lt_of_cell? w _ cx0)).trans cx0
              have het := erase_take (k := k) hx
              have HET : Hid _ := het
              have m1 : (q : Int) + 1 < (M : Int) := by have := HM2.out; omega
              have m2 : (0 : Int) ≤ (q : Int) + 1 := by omega
              clear hx het cx0
              by_cases c : q = k
              · subst c
                rw [if_pos rfl, List.append_nil] at HET
                go_wp2
                go_roundw
                case rel => exact ⟨q + 1, by omega, by go_num, by rw [HET.out]; exact hown, hBq⟩
                case measure => have := HM2.out; simp [numOf]; omega
              · rw [if_neg c] at HET
                have c2 : ¬ (q : Int) = (k : Int) := by omega
                obtain ⟨L, hL⟩ : ∃ L, L = (t.take q).eraseIdx k := ⟨_, rfl⟩
                rw [← hL] at hown hrl HET ⊢
                clear hL
                go_wp2_with (first
                  | (at_builtin; refine wpList_push (x := x) rfl _ _ rfl rfl rfl hown (by omega) (by omega) ?_; intro v' w3 hown1 hgr1)
                  | go_in)
                have T1 := (alloc_turns wr (Obj.cells #[.int .i64 (x : Int)] 3) _).trans (Turns.of_grown hgr1)
                have hB3 := T1.below hBq hsz (fun j hj => (hown.lt j hj.symm).1)
                go_roundw
                case rel => exact ⟨q + 1, by omega, by go_num, by rw [HET.out]; exact hown1, hB3⟩
                case measure => have := HM2.out; simp [numOf]; omega
            · have hqe : t.length = q := by omega
              subst hqe
              rw [List.take_length] at hown hrl
              have m1 : ¬ (t.length : Int) + 1 < (M : Int) := by have := HM2.out; omega
              obtain ⟨L, hL⟩ : ∃ L, L = t.eraseIdx k := ⟨_, rfl⟩
              rw [List.take_length, ← hL]
              rw [← hL] at hown hrl
              have HL : Hid _ := hL
              clear hL
              obtain ⟨go', e1, cu0⟩ := HNUM.out 0 u rfl
              cases e1
              obtain ⟨go', e1, cv0⟩ := HNUM.out (k + 1) v (by simpa using HV.out)
              cases e1
              obtain ⟨bu, cd0, hrow0⟩ := HDT.out u huN
              have hrow := RowV.below hrow0 (hBq.mono (Nat.le_refl _))
              have cu := (hBq.cell (by exact World.block_lt_of_cell? w _ cu0)).trans cu0
              have cv := (hBq.cell (by exact World.block_lt_of_cell? w _ cv0)).trans cv0
              have cd := (hBq.cell (by exact World.block_lt_of_cell? w _ cd0)).trans cd0
              have hlr0 : bu < w.heap.size := RowV.lt hrow0
              have hrow1 : RowV wr bu 3 N (fun x => .int .i64 (farZ (O u x))) := RowV.block hrow0 (hBq.block bu hlr0)
              have cD := hrow1.cell hvN
              have hzD : farZ (O u v) = (D : Int) := by rw [HDD.out]; rfl
              rw [hzD] at cD
              have hkeep : ∀ w', Below wr.heap.size wr w' → w'.cell? ⟨go, 0, none⟩ = some (.int .i64 (u : Int)) ∧ w'.cell? ⟨go, k + 1, none⟩ = some (.int .i64 (v : Int)) ∧ w'.cell? ⟨gd, u, none⟩ = some (.slice (some ⟨bu, 0, none⟩) N N) ∧ w'.cell? ⟨bu, v, none⟩ = some (.int .i64 (D : Int)) := fun w' hb =>
                ⟨(hb.cell (by exact World.block_lt_of_cell? wr _ cu)).trans cu, (hb.cell (by exact World.block_lt_of_cell? wr _ cv)).trans cv, (hb.cell (by exact World.block_lt_of_cell? wr _ cd)).trans cd, (hb.cell (by exact World.block_lt_of_cell? wr _ cD)).trans cD⟩
              have HK : Hid _ := hkeep
              have hih := HIH.out wr.drew L gd dc ro rc (by rw [HL.out, List.length_eraseIdx, if_pos hkt]; have := HTL.out; omega) (by omega) (fun x hx => HMEM.out x (by rw [HL.out] at hx; simp [List.mem_of_mem_eraseIdx hx])) (NumsAt.below (nums_row hown) (Below.refl _ wr).drew) (DT.below (DT.below HDT.out hBq) (Below.refl _ wr).drew)
              have HI2 : Hid _ := hih
              have n1 : (0 : Int) ≤ (k : Int) + 1 := by omega
              have n2 : (0 : Int) < (M : Int) := by omega
              have n7 : 0 < M := by omega
              have n8 : ¬ M = 0 := by omega
              have n3 : (0 : Int) ≤ (u : Int) := by omega
              have n4 : (u : Int) < (N : Int) := by omega
              have n5 : (0 : Int) ≤ (v : Int) := by omega
              have n6 : (v : Int) < (N : Int) := by omega
              clear hkeep hih cu0 cv0 cd0 hrow0 hrow1 hzD hrow hown
              go_upto_region 13 with (fail)
              go_region_held3 (fun w' => w'.cell? ⟨go, 0, none⟩ = some (.int .i64 (u : Int)) ∧ w'.cell? ⟨go, k + 1, none⟩ = some (.int .i64 (v : Int)) ∧ w'.cell? ⟨gd, u, none⟩ = some (.slice (some ⟨bu, 0, none⟩) N N) ∧ w'.cell? ⟨bu, v, none⟩ = some (.int .i64 (D : Int)))
                (first | exact hkk | exact HK.out _ (Below.refl _ _).drew | assumption | go_keep)
                ((go_at_call 27; refine Calls.mono HI2.out ?_; rintro r wx ⟨ps, rfl, hps, hsl, hbX⟩; have hbx := (Below.refl wr.heap.size wr).drew.trans hbX; have hkk := HK.out _ hbx; have j11 : IntKind.i64.wrap ((D : Int) + (sumD O ps : Int)) = (D : Int) + (sumD O ps : Int) := Go.IntWalk.i64_in _ (by omega)))
              all_goals
                have hst := (MinS.step HDD.out HMI.out (S' := fun qs => PairOf qs (t.eraseIdx k)) (ps := ps) (by rw [← HL.out]; exact hps.1) (fun qs hq => hps.2 qs (by rw [HL.out]; exact hq))).congr (fun qs => (firstK_next HV.out qs).symm)
                have hBx := below_next hBq hbx
                obtain ⟨sp, hsp⟩ : ∃ sp, sp = sumD O ps := ⟨_, rfl⟩
                rw [← hsp] at hst hsl j11 ⊢
                clear hsp hkk hps
                by_cases hc : zz < 0
                · have e1 : zz < 0 := hc
                  rw [if_pos (Or.inl hc)] at hst
                  have HST : Hid _ := hst
                  clear hst
                  go_wp2
                  go_roundw
                  case rel => exact ⟨k + 1, (D : Int) + (sp : Int), by omega, by go_num, by first | rfl | go_num, HST.out, by omega, by omega, hBx⟩
                  case measure => have := HM2.out; simp [numOf]; omega
                · by_cases hd : (D : Int) + (sp : Int) < zz
                  · have e1 : ¬ zz < 0 := hc
                    rw [if_pos (Or.inr hd)] at hst
                    have HST : Hid _ := hst
                    clear hst
                    go_wp2
                    go_roundw
                    case rel => exact ⟨k + 1, (D : Int) + (sp : Int), by omega, by go_num, by first | rfl | go_num, HST.out, by omega, by omega, hBx⟩
                    case measure => have := HM2.out; simp [numOf]; omega
                  · have e1 : ¬ zz < 0 := hc
                    rw [if_neg (fun h => h.elim hc hd)] at hst
                    have HST : Hid _ := hst
                    clear hst
                    go_wp2
                    go_roundw
                    case rel => exact ⟨k + 1, zz, by omega, by go_num, by first | rfl | go_num, HST.out, by omega, by omega, hBx⟩
                    case measure => have := HM2.out; simp [numOf]; omega
        · have hke : t.length = k := by omega
          subst hke
          have i2 : ¬ (t.length : Int) + 1 < (M : Int) := by have := HM2.out; omega
          obtain ⟨qs0, hq0⟩ := pair_ex (n + 1) (u :: t) (by have := HTL.out; simp; omega)
          have hfin : ∃ ps, zz = (sumD O ps : Int) ∧ LeastOf O (u :: t) ps := by
            rcases HMI.out with ⟨_, h⟩ | ⟨ps, h1, h2, h3⟩
            · exact absurd ((firstK_all qs0).2 hq0) (h qs0)
            · exact ⟨ps, h2, (firstK_all ps).1 h1, fun qs hq => h3 qs ((firstK_all qs).2 hq)⟩
          obtain ⟨ps, rfl, hps⟩ := hfin
          have HPS : Hid _ := hps
          clear hps hq0
          go_wp2
          go_ret
          exact ⟨ps, rfl, HPS.out, by omega, hB⟩
end Go.Proofs.Ytkbgcbbloogdjac
