/- planOf and add: how often a walk has yet to go along each edge. -/
import Derived.Test.YtkbgcbbloogdjacHome
namespace Go.Proofs.Ytkbgcbbloogdjac
open Go.RowKit Go.Maps
attribute [local go_sem ↓] Go.wp_at_zero Go.wp_at_succ

/-- A table of numbers of its own. -/
structure PlanL (w : World) (base g N : Nat) (bs : Nat → Nat) (P : Nat → Nat → Int) : Prop where
  row : RowV w g 29 N (fun i => .slice (some ⟨bs i, 0, none⟩) N N)
  rows : ∀ i, i < N → RowV w (bs i) 3 N (fun j => .int .i64 (P i j))
  inj : ∀ i j, i < N → j < N → bs i = bs j → i = j
  ne : ∀ i, i < N → bs i ≠ g
  ge : base ≤ g ∧ ∀ i, i < N → base ≤ bs i
theorem PlanL.below {w w' : World} {base g N : Nat} {bs : Nat → Nat} {P : Nat → Nat → Int} (h : PlanL w base g N bs P) (hb : Below w.heap.size w w') : PlanL w' base g N bs P :=
  ⟨RowV.below h.row hb, fun i hi => RowV.below (h.rows i hi) hb, h.inj, h.ne, h.ge⟩
theorem PlanL.congr {w : World} {base g N : Nat} {bs : Nat → Nat} {P P' : Nat → Nat → Int} (h : PlanL w base g N bs P) (he : ∀ i j, i < N → j < N → P i j = P' i j) : PlanL w base g N bs P' :=
  ⟨h.row, fun i hi => (h.rows i hi).congr (fun j hj => by rw [he i j hi hj]), h.inj, h.ne, h.ge⟩
theorem PlanL.set {w : World} {base g N : Nat} {bs : Nat → Nat} {P : Nat → Nat → Int} (h : PlanL w base g N bs P) {i : Nat} (hi : i < N) (j : Nat) (x : Int) : PlanL (w.setCell ⟨bs i, j, none⟩ (.int .i64 x)) base g N bs (fun a c => if a = i ∧ c = j then x else P a c) := by
  refine ⟨h.row.block (Below.heap_setCell _ _ _ _ (fun e => h.ne i hi e.symm)), fun a ha => ?_, h.inj, h.ne, h.ge⟩
  by_cases e : a = i
  · subst e
    refine ((h.rows a ha).set j (.int .i64 x)).congr (fun c _ => ?_)
    by_cases e2 : c = j
    · simp [e2]
    · simp [e2]
  · refine ((h.rows a ha).block (Below.heap_setCell _ _ _ _ (fun e' => e (h.inj a i ha hi e')))).congr (fun c _ => ?_)
    simp [e]
theorem PlanL.turns {M : Nat → Prop} {w w' : World} {base g N : Nat} {bs : Nat → Nat} {P : Nat → Nat → Int} (h : PlanL w base g N bs P) (ht : Turns M w w') (hm : ∀ k, M k → k ≠ g ∧ ∀ i, i < N → k ≠ bs i) : PlanL w' base g N bs P :=
  ⟨h.row.block (ht.block _ h.row.lt (fun hh => (hm _ hh).1 rfl)), fun i hi => (h.rows i hi).block (ht.block _ (h.rows i hi).lt (fun hh => (hm _ hh).2 i hi rfl)), h.inj, h.ne, h.ge⟩

/-- u-v is z more often. -/
def addP (P : Nat → Nat → Int) (u v : Nat) (z : Int) (a b : Nat) : Int := if (a = u ∧ b = v) ∨ (a = v ∧ b = u) then P a b + z else P a b

set_option maxHeartbeats 1000000 in
theorem planAdd_call {w : World} {base g N : Nat} {cap : Nat} {bs : Nat → Nat} {P : Nat → Nat → Int} (h : PlanL w base g N bs P) {u v : Nat} (hu : u < N) (hv : v < N) (huv : u ≠ v) {z : Int} (h1 : -1000000 ≤ P u v + z ∧ P u v + z ≤ 1000000) (h2 : -1000000 ≤ P v u + z ∧ P v u + z ≤ 1000000) :
    Calls Try.prog 55 #[.slice (some ⟨g, 0, none⟩) N cap, .int .i64 (u : Int), .int .i64 (v : Int), .int .i64 z] w fun r w' => r = .returned (.tuple #[]) ∧ PlanL w' base g N bs (addP P u v z) ∧ Turns (fun k => k = bs u ∨ k = bs v) w w' := by
  have c1 := h.row.cell hu
  have c2 := (h.rows u hu).cell hv
  have f2 := (h.rows u hu).free v
  have hset := h.set hu v (P u v + z)
  have HS : Hid _ := hset
  have i1 : (0 : Int) ≤ (u : Int) := by omega
  have i2 : (u : Int) < (N : Int) := by omega
  have i3 : (0 : Int) ≤ (v : Int) := by omega
  have i4 : (v : Int) < (N : Int) := by omega
  clear hset h
  go_enter Try.func55, Try.ntmps55
  go_upto_region 1 with (fail)
  have hT1 := setCell_turns w (bs u) v (.int .i64 (P u v + z))
  have c3 := HS.out.row.cell hv
  have c4 := (HS.out.rows v hv).cell hu
  have f4 := (HS.out.rows v hv).free u
  have e4 : (if v = u ∧ u = v then P u v + z else P v u) = P v u := if_neg (by omega)
  simp only [e4] at c4
  have hset2 := HS.out.set hv u (P v u + z)
  have HS2 : Hid _ := hset2
  clear hset2 c1 c2 f2 e4
  generalize w.setCell ⟨bs u, v, none⟩ (.int .i64 (P u v + z)) = W at HS HS2 c3 c4 f4 hT1 ⊢
  go_wp2
  go_end0
  refine ⟨rfl, HS2.out.congr (fun a b _ _ => ?_), (hT1.mono (fun k _ hk => Or.inl hk)).trans ((setCell_turns _ _ _ _).mono (fun k _ hk => Or.inr hk))⟩
  unfold addP
  by_cases e1 : a = u ∧ b = v
  · obtain ⟨rfl, rfl⟩ := e1
    rw [if_pos (Or.inl ⟨rfl, rfl⟩)]
    simp [huv]
  · by_cases e2 : a = v ∧ b = u
    · obtain ⟨rfl, rfl⟩ := e2
      rw [if_pos (Or.inr ⟨rfl, rfl⟩)]
      simp
    · rw [if_neg e2, if_neg e1, if_neg (fun h => h.elim e1 e2)]

set_option maxRecDepth 4000 in
set_option maxHeartbeats 4000000 in
theorem planOf_call {w : World} {ao : Option Addr} {N cap : Nat} {ls : Nat → List Nat} (hn : NearR w ao N ls) (hr : ∀ u x, u < N → x ∈ ls u → x < N) (hl : ∀ u, u < N → (ls u).length ≤ 1000) (hN : N ≤ 100) :
    Calls Try.prog 40 #[.slice ao N cap] w fun r w' => ∃ g bs, r = .returned (.slice (some ⟨g, 0, none⟩) N N) ∧ PlanL w' w.heap.size g N bs (fun a b => if b ∈ ls a then 1 else 0) ∧ Below w.heap.size w w' := by
  obtain ⟨i29, hi29, hz0, hz1, hz2⟩ := info_parts Try.info29
  obtain ⟨i3, hi3, hy0, hy1, hy2⟩ := info_parts Try.info3
  have HN : Hid _ := hn
  have HR : Hid _ := hr
  have HL : Hid _ := hl
  clear hn hr hl
  go_enter Try.func40, Try.ntmps40
  go_wp2_with (first
    | (at_make; refine wpList_make_full _ rfl _ _ 67 rfl w.heap.size 29 i29 (.slice none 0 0) 1 Try.underlying67 hi29 hz0 hz1 .i64 .i64 _ _ N rfl rfl rfl rfl ?_ ?_ ?_ ?_; (rw [hz2]; omega); (unfold maxLen; omega); (omega); intro W1 hmade hg1)
    | go_in)
  have hrow0 := rowV_made rfl hmade
  have hB0 : Below w.heap.size w W1 := (Below.refl _ _).grown hg1 (Nat.le_refl _) (fun k hk => by cases hk)
  clear hmade hg1
  go_loopw [13] (fun i wr => ∃ (k : Nat) (bs : Nat → Nat), k ≤ N ∧ i = .int .i64 (k : Int) ∧ RowV wr w.heap.size 29 N (fun i => if i < k then .slice (some ⟨bs i, 0, none⟩) N N else .slice none 0 0) ∧ (∀ i, i < k → RowV wr (bs i) 3 N (fun j => .int .i64 (if j ∈ ls i then 1 else 0))) ∧ (∀ i j, i < k → j < k → bs i = bs j → i = j) ∧ (∀ i, i < k → w.heap.size < bs i) ∧ Below w.heap.size w wr) (fun i _ => N - (numOf i).toNat)
  case atStart => exact ⟨0, fun _ => 0, Nat.zero_le _, rfl, hrow0.congr (fun j _ => by simp), fun i h => by omega, fun i j h => by omega, fun i h => by omega, hB0⟩
  case round =>
    obtain ⟨k, bs, hk, rfl, hrow, hrows, hinj, hge, hB⟩ := hrel
    have HRS : Hid _ := hrows
    have HIN : Hid _ := hinj
    have HGE : Hid _ := hge
    clear hrow0 hB0 hrows hinj hge
    by_cases hkN : k < N
    · obtain ⟨g, xo, xc, rfl, g0w, g1w⟩ := HN.out k hkN
      have g0 := (hB.cell (by exact World.block_lt_of_cell? w _ g0w)).trans g0w
      have HG1 : Hid _ := g1w
      have hlk := HL.out k hkN
      have i1 : (0 : Int) ≤ (k : Int) := by omega
      have i2 : (k : Int) < (N : Int) := by omega
      have hsz := hB.size
      have hrl := hrow.lt
      clear g0w g1w
      go_upto_region 6 with (first
        | (at_make; refine wpList_make_full _ rfl _ _ 29 rfl w.heap.size 3 i3 (.int .i64 0) 1 Try.underlying29 hi3 hy0 hy1 .i64 .i64 _ _ N rfl rfl rfl rfl ?_ ?_ ?_ ?_; (rw [hy2]; omega); (unfold maxLen; omega); (omega); intro W2 hmade hg1; have hbG := below_grown hg1; have hrw := RowV.below hrow hbG; have ck := hrw.cell hkN; have fk := hrw.free k)
        | go_in)
      have hnew := rowV_made rfl hmade
      obtain ⟨bk, hbk⟩ : ∃ bk, bk = wr.heap.size := ⟨_, rfl⟩
      rw [← hbk] at hnew ⊢
      have hbkl : w.heap.size < bk := by omega
      have hrows2 : ∀ i, i < k → bs i < bk ∧ RowV W2 (bs i) 3 N (fun j => .int .i64 (if j ∈ ls i then 1 else 0)) := fun i hi => by
        have h1 := HRS.out i hi
        have := RowV.lt h1
        exact ⟨by omega, RowV.below h1 hbG⟩
      have hB2 := below_next hB hbG
      have HR2 : Hid _ := hrows2
      have hrowS := (hrw.set k (.slice (some ⟨bk, 0, none⟩) N N)).congr (g := fun i => if i < k + 1 then .slice (some ⟨if i = k then bk else bs i, 0, none⟩) N N else .slice none 0 0) (fun j _ => by
        by_cases e : j = k
        · subst e; simp
        · by_cases h : j < k
          · rw [if_neg e, if_pos h, if_pos (show j < k + 1 by omega), if_neg e]
          · rw [if_neg e, if_neg h, if_neg (show ¬ j < k + 1 by omega)])
      have hnewS := hnew.block (w' := W2.setCell ⟨w.heap.size, k, none⟩ (.slice (some ⟨bk, 0, none⟩) N N)) (Below.heap_setCell _ _ _ _ (show bk ≠ w.heap.size by omega))
      have hBS := hB2.setCell (p := ⟨w.heap.size, k, none⟩) (Nat.le_refl _) (.slice (some ⟨bk, 0, none⟩) N N)
      have hrowsS : ∀ i, i < k → RowV (W2.setCell ⟨w.heap.size, k, none⟩ (.slice (some ⟨bk, 0, none⟩) N N)) (bs i) 3 N (fun j => .int .i64 (if j ∈ ls i then 1 else 0)) := fun i hi => RowV.block (HR2.out i hi).2 (Below.heap_setCell _ _ _ _ (show bs i ≠ w.heap.size by have := HGE.out i hi; omega))
      have HRSS : Hid _ := hrowsS
      generalize W2.setCell ⟨w.heap.size, k, none⟩ (.slice (some ⟨bk, 0, none⟩) N N) = W3 at hrowS hnewS hBS HRSS ⊢
      clear hmade hg1 hbG hrw ck fk hnew hbk hrows2 hB2 hrowsS hrow hB g0 hsz hrl
      go_wp2
      go_loopw [26] (fun i wq => ∃ t : Nat, t ≤ (ls k).length ∧ i = .int .i64 (t : Int) ∧ RowV wq bk 3 N (fun j => .int .i64 (if j ∈ (ls k).take t then 1 else 0)) ∧ Turns (fun j => j = bk) W3 wq) (fun i _ => (ls k).length - (numOf i).toNat)
      case atStart => exact ⟨0, Nat.zero_le _, rfl, hnewS.congr (fun j _ => by simp), Turns.refl _ _⟩
      case round =>
        obtain ⟨t, ht, rfl, hrt, hT⟩ := hrel
        clear hnewS
        by_cases htl : t < (ls k).length
        · obtain ⟨x, hx?⟩ : ∃ x, (ls k)[t]? = some x := ⟨(ls k)[t], List.getElem?_eq_getElem htl⟩
          have hxN := HR.out k x hkN (List.mem_of_getElem? hx?)
          obtain ⟨bx, rfl, c1⟩ := HG1.out t x hx?
          have hBq := hT.below hBS hBS.size (fun j hj => by omega)
          rw [← hBq.cell (by exact World.block_lt_of_cell? w _ c1)] at c1
          have hrq := RowV.turns hrowS hT (by omega)
          have ck := hrq.cell hkN
          simp only [if_pos (show k < k + 1 by omega)] at ck
          have cx := hrt.cell hxN
          have fx := hrt.free x
          have HX : Hid _ := hx?
          have j1 : (0 : Int) ≤ (t : Int) := by omega
          have j2 : (t : Int) < ((ls k).length : Int) := by omega
          have j3 : (0 : Int) ≤ (x : Int) := by omega
          have j4 : (x : Int) < (N : Int) := by omega
          clear hx?
          go_wp2
          go_roundw
          case rel =>
            refine ⟨t + 1, by omega, by go_num, (hrt.set x (.int .i64 1)).congr (fun j _ => ?_), hT.trans (setCell_turns _ _ _ _)⟩
            rw [take_at HX.out]
            by_cases e : j = x
            · subst e; simp
            · simp [e]
          case measure => simp [numOf]; omega
        · have hte : (ls k).length = t := by omega
          subst hte
          rw [List.take_length] at hrt
          have hBq := hT.below hBS hBS.size (fun j hj => by omega)
          have hrq := RowV.turns hrowS hT (by omega)
          go_wp2
          go_roundw
          case rel =>
            refine ⟨k + 1, fun i => if i = k then bk else bs i, by omega, by go_num, hrq, fun i hi => ?_, fun i j hi hj he => ?_, fun i hi => ?_, hBq⟩
            · by_cases e : i = k
              · subst e; simpa using hrt
              · simp only [if_neg e]
                have := (HR2.out i (by omega)).1
                exact RowV.turns (HRSS.out i (by omega)) hT (by omega)
            · by_cases e1 : i = k
              · by_cases e2 : j = k
                · omega
                · simp only [if_pos e1, if_neg e2] at he
                  have := (HR2.out j (by omega)).1
                  omega
              · by_cases e2 : j = k
                · simp only [if_neg e1, if_pos e2] at he
                  have := (HR2.out i (by omega)).1
                  omega
                · simp only [if_neg e1, if_neg e2] at he
                  exact HIN.out i j (by omega) (by omega) he
            · by_cases e : i = k
              · simp only [if_pos e]; exact hbkl
              · simp only [if_neg e]; exact HGE.out i (by omega)
          case measure => simp [numOf]; omega
    · have hke : N = k := by omega
      subst hke
      go_wp2
      go_ret
      exact ⟨_, bs, rfl, ⟨hrow.congr (fun j hj => if_pos hj), HRS.out, HIN.out, fun i hi e => by have := HGE.out i hi; omega, ⟨Nat.le_refl _, fun i hi => by have := HGE.out i hi; omega⟩⟩, hB⟩
end Go.Proofs.Ytkbgcbbloogdjac
