/- Rising and Matching, as the document's definitions stand. -/
import Derived.BigQuiet
import Derived.Test.YtenjkhgpfmfgmaaDoorPairsW
import Derived.Test.YtenjkhgpfmfgmaaDoorNewS
import Derived.Deep.CutRange
namespace Go.Proofs.YtenjkhgpfmfgmaaDoor
open Go.RowKit Go.Maps
attribute [local go_sem ↓] Go.wp_at_zero Go.wp_at_succ

/-- The slice at lo holds these numbers. -/
def NumsAt (w : World) (lo : Option Addr) (L : List Nat) : Prop := ∀ k u : Nat, L[k]? = some u → ∃ b, lo = some ⟨b, 0, none⟩ ∧ w.cell? ⟨b, k, none⟩ = some (.int .i64 (u : Int))
theorem NumsAt.below {w w' : World} {lo : Option Addr} {L : List Nat} (h : NumsAt w lo L) (hb : Below w.heap.size w w') : NumsAt w' lo L := fun k u hu => by
  obtain ⟨b, h1, h2⟩ := h k u hu
  exact ⟨b, h1, (hb.cell (by exact World.block_lt_of_cell? w _ h2)).trans h2⟩
theorem numsAt_own {w : World} {base : Nat} {lo : Option Addr} {c : Nat} {L : List Nat} (h : w.ownsRow base 3 1 (.slice lo L.length c) L.length (qv L)) : NumsAt w lo L := fun _ _ hu => qcell h hu

set_option maxRecDepth 4000 in
set_option maxHeartbeats 2000000 in
theorem rising_true {w : World} {lo : Option Addr} {c N : Nat} {L : List Nat} (h : NumsAt w lo L) (hl : L.length ≤ 1000) (hlt : ∀ x ∈ L, x < N) (hr : ∀ k a b, L[k]? = some a → L[k + 1]? = some b → a < b) :
    Calls Tryd.prog 14 #[.slice lo L.length c, .int .i64 (N : Int)] w fun r w' => r = .returned (.bool true) ∧ Below w.heap.size w w' := by
  have H : Hid _ := h
  have HLT : Hid _ := hlt
  have HR : Hid _ := hr
  clear h hlt hr
  go_enter Tryd.func14, Tryd.ntmps14
  go_wp2
  go_loopw [4, 5] (fun _ i wr => ∃ k : Nat, k ≤ L.length ∧ i = .int .i64 (k : Int) ∧ Below w.heap.size w wr) (fun _ i _ => L.length - (numOf i).toNat)
  case atStart => exact ⟨0, Nat.zero_le _, rfl, Below.refl _ _⟩
  case round =>
    obtain ⟨k, hk, rfl, hB⟩ := hrel
    by_cases hkl : k < L.length
    · obtain ⟨u, hu?⟩ : ∃ u, L[k]? = some u := ⟨L[k], List.getElem?_eq_getElem hkl⟩
      have huN := HLT.out u (List.mem_of_getElem? hu?)
      obtain ⟨b, rfl, cu0⟩ := H.out k u hu?
      have cu := (hB.cell (by exact World.block_lt_of_cell? w _ cu0)).trans cu0
      have i1 : (0 : Int) ≤ (k : Int) := by omega
      have i2 : (k : Int) < (L.length : Int) := by omega
      have z1 : ¬ (u : Int) < 0 := by omega
      have z2 : ¬ (N : Int) ≤ (u : Int) := by omega
      have HU : Hid _ := hu?
      clear hu? cu0
      cases k with
      | zero =>
        go_upto_region 4 with (fail)
        go_quiet (fail)
        all_goals
          go_wp2
          go_roundw
          case rel => exact ⟨1, by omega, by go_num, below_drewN hB _⟩
          case measure => simp [numOf]; omega
      | succ j =>
        obtain ⟨v, hv?⟩ : ∃ v, L[j]? = some v := ⟨L[j]'(by omega), List.getElem?_eq_getElem (by omega)⟩
        have hvu := HR.out j v u hv? HU.out
        obtain ⟨b', e', cv0⟩ := H.out j v hv?
        cases e'
        have cv := (hB.cell (by exact World.block_lt_of_cell? w _ cv0)).trans cv0
        have z3 : ¬ (u : Int) ≤ (v : Int) := by omega
        have j1 : (0 : Int) ≤ (j : Int) := by omega
        have j2 : (j : Int) < (L.length : Int) := by omega
        have j7 : (0 : Int) ≤ (j : Int) + 1 := by omega
        have j8 : (j : Int) + 1 < (L.length : Int) := by omega
        clear hv? cv0
        go_upto_region 4 with (fail)
        go_quiet (fail)
        all_goals
          go_wp2
          go_roundw
          case rel => exact ⟨j + 1 + 1, by omega, by go_num, below_drewN hB _⟩
          case measure => simp [numOf]; omega
    · have hke : L.length = k := by omega
      subst hke
      go_wp2
      go_ret
      exact ⟨rfl, hB⟩

def usedB (PL : List (Nat × Nat)) (i z : Nat) : Bool := (PL.take i).any fun e => e.1 == z || e.2 == z
theorem usedB_succ {PL : List (Nat × Nat)} {i x y : Nat} (h : PL[i]? = some (x, y)) (z : Nat) : usedB PL (i + 1) z = (usedB PL i z || (x == z || y == z)) := by
  obtain ⟨h1, h2⟩ := List.getElem?_eq_some_iff.1 h
  unfold usedB
  rw [List.take_succ_eq_append_getElem h1, h2, List.any_append]
  simp
/-- A matching, in form. -/
structure MForm (N : Nat) (p : Int → Int → Bool) (PL : List (Nat × Nat)) : Prop where
  ok : ∀ i x y : Nat, PL[i]? = some (x, y) → x < y ∧ y < N ∧ p x y = true ∧ usedB PL i x = false ∧ usedB PL i y = false
  up : ∀ i x y x' y' : Nat, PL[i]? = some (x, y) → PL[i + 1]? = some (x', y') → x < x'
def castL (PL : List (Nat × Nat)) : List Pair := PL.map fun e => ((e.1 : Int), (e.2 : Int))

set_option maxRecDepth 8000 in
set_option maxHeartbeats 8000000 in
theorem matching_true {w : World} {ao : Option Addr} {cap N : Nat} {p : Int → Int → Bool} {v : Value} {PL : List (Nat × Nat)} (hG : GridAt w (.slice ao N cap) N p) (hE : EdgesAt w v (castL PL)) (hN : N ≤ 100) (hl : PL.length ≤ 1000) (hf : MForm N p PL) :
    Calls Tryd.prog 13 #[.slice ao N cap, v] w fun r w' => r = .returned (.bool true) ∧ Below w.heap.size w w' := by
  obtain ⟨ao', cap', e0, hgrid⟩ := hG
  cases e0
  obtain ⟨lo, lc, rfl, _, _, hcells⟩ := hE
  have hlen : (castL PL).length = PL.length := by simp [castL]
  have hcl : ∀ k x y : Nat, PL[k]? = some (x, y) → ∃ b off, lo = some ⟨b, off, none⟩ ∧ w.cell? ⟨b, off + k * 2, none⟩ = some (.int .i64 (x : Int)) ∧ w.cell? ⟨b, off + k * 2 + 1, none⟩ = some (.int .i64 (y : Int)) := fun k x y hk => by
    obtain ⟨h1, h2⟩ := List.getElem?_eq_some_iff.1 hk
    obtain ⟨b, off, e, c0, c1⟩ := hcells k (by rw [hlen]; exact h1)
    have he : (castL PL)[k]'(by rw [hlen]; exact h1) = ((x : Int), (y : Int)) := by simp [castL, h2]
    rw [he] at c0 c1
    exact ⟨b, off, e, c0, c1⟩
  rw [hlen]
  have hmk := make44 N (by omega)
  have HG : Hid _ := hgrid
  have HC : Hid _ := hcl
  have HF : Hid _ := hf
  have hr0 : RowB (w.alloc (.cells (rep N (.bool false)) 4)) w.heap.size N (fun _ => false) := rowB_rep (heap_alloc_new _ _)
  have hB0 : Below w.heap.size w (w.alloc (.cells (rep N (.bool false)) 4)) := below_alloc (Below.refl _ _) _
  clear hgrid hcl hf hcells hlen
  go_enter Tryd.func13, Tryd.ntmps13
  go_wp2
  have HR0 : Hid _ := hr0
  clear hr0 hmk
  generalize w.alloc (.cells (rep N (.bool false)) 4) = W0 at HR0 hB0 ⊢
  go_loopw [4, 6] (fun _ i wr => ∃ k : Nat, k ≤ PL.length ∧ i = .int .i64 (k : Int) ∧ RowB wr w.heap.size N (usedB PL k) ∧ Below w.heap.size w wr) (fun _ i _ => PL.length - (numOf i).toNat)
  case atStart => exact ⟨0, Nat.zero_le _, rfl, RowB.congr HR0.out (fun j _ => by simp [usedB]), hB0⟩
  case round =>
    obtain ⟨k, hk, rfl, hrow, hB⟩ := hrel
    clear HR0 hB0
    by_cases hkl : k < PL.length
    · obtain ⟨x, y, hxy⟩ : ∃ x y : Nat, PL[k]? = some (x, y) := ⟨PL[k].1, PL[k].2, List.getElem?_eq_getElem hkl⟩
      obtain ⟨o1, o2, o3, o4, o5⟩ := HF.out.ok k x y hxy
      obtain ⟨b, off, rfl, cx0, cy0⟩ := HC.out k x y hxy
      have cx := (hB.cell (by exact World.block_lt_of_cell? w _ cx0)).trans cx0
      have cy := (hB.cell (by exact World.block_lt_of_cell? w _ cy0)).trans cy0
      have i1 : (0 : Int) ≤ (k : Int) := by omega
      have i2 : (k : Int) < (PL.length : Int) := by omega
      have xN : x < N := by omega
      obtain ⟨gg, gb, rfl, g0w, g1w⟩ := HG.out x xN
      have g0 := (hB.cell (by exact World.block_lt_of_cell? w _ g0w)).trans g0w
      have g1k := g1w y o2
      rw [o3] at g1k
      have g1 := (hB.cell (by exact World.block_lt_of_cell? w _ g1k)).trans g1k
      have z1 : ¬ (x : Int) < 0 := by omega
      have z2 : ¬ (N : Int) ≤ (y : Int) := by omega
      have z3 : ¬ (y : Int) ≤ (x : Int) := by omega
      have j3 : (0 : Int) ≤ (x : Int) := by omega
      have j4 : (x : Int) < (N : Int) := by omega
      have j5 : (0 : Int) ≤ (y : Int) := by omega
      have j6 : (y : Int) < (N : Int) := by omega
      have HXY : Hid _ := hxy
      have HG0 : Hid _ := g0w
      have HG1 : Hid _ := g1k
      have HO4 : Hid _ := o4
      have HO5 : Hid _ := o5
      clear hxy cx0 cy0 g0w g1w g1k o3 o4 o5 g0 g1
      go_upto_region 5 with (fail)
      go_quiet (fail)
      have hB1 := below_drewN hB nq
      have hrow1 : RowB (wr.drewN nq) w.heap.size N (usedB PL k) := RowB.block hrow ((below_drewN (Below.refl wr.heap.size wr) nq).block _ hrow.lt)
      generalize wr.drewN nq = W1 at hB1 hrow1 ⊢
      clear hrow hB cx cy
      have g0 := (hB1.cell (by exact World.block_lt_of_cell? w _ HG0.out)).trans HG0.out
      have g1 := (hB1.cell (by exact World.block_lt_of_cell? w _ HG1.out)).trans HG1.out
      have ux := hrow1.cell xN
      have uy := hrow1.cell o2
      rw [HO4.out] at ux
      rw [HO5.out] at uy
      have fx := hrow1.free x
      have cy2 := (hrow1.set x).cell o2
      have fy2 := (hrow1.set x).free y
      have hyx : (y == x) = false := by simp; omega
      rw [hyx, HO5.out] at cy2
      simp only [Bool.or_self] at cy2
      have hrowN := ((hrow1.set x).set y).congr (r := usedB PL (k + 1)) (fun j _ => by
        rw [usedB_succ HXY.out j]
        have e1 : (x == j) = (j == x) := by rw [Bool.eq_iff_iff]; simp; exact ⟨fun h => h.symm, fun h => h.symm⟩
        have e2 : (y == j) = (j == y) := by rw [Bool.eq_iff_iff]; simp; exact ⟨fun h => h.symm, fun h => h.symm⟩
        rw [e1, e2]
        cases usedB PL k j <;> cases (j == x) <;> cases (j == y) <;> rfl)
      have hBN := (hB1.setCell (p := ⟨w.heap.size, x, none⟩) (Nat.le_refl _) (.bool true)).setCell (p := ⟨w.heap.size, y, none⟩) (Nat.le_refl _) (.bool true)
      have HRN : Hid _ := hrowN
      clear hrow1 hrowN hyx
      go_upto_region 6 with (fail)
      cases k with
      | zero =>
        go_wp2
        go_roundw
        case rel => exact ⟨1, by omega, by go_num, HRN.out, hBN⟩
        case measure => simp [numOf]; omega
      | succ j =>
        obtain ⟨x', y', hxy'⟩ : ∃ x' y' : Nat, PL[j]? = some (x', y') := ⟨(PL[j]'(by omega)).1, (PL[j]'(by omega)).2, List.getElem?_eq_getElem (by omega)⟩
        have hup := HF.out.up j x' y' x y hxy' HXY.out
        obtain ⟨b', off', e', cx0, _⟩ := HC.out j x' y' hxy'
        cases e'
        have cx := (hB1.cell (by exact World.block_lt_of_cell? w _ cx0)).trans cx0
        have z4 : ¬ (x : Int) ≤ (x' : Int) := by omega
        have k1 : (0 : Int) ≤ (j : Int) := by omega
        have k2 : (j : Int) < (PL.length : Int) := by omega
        have k7 : (0 : Int) ≤ (j : Int) + 1 := by omega
        have k8 : (j : Int) + 1 < (PL.length : Int) := by omega
        clear cx0 hxy'
        go_wp2
        go_roundw
        case rel => exact ⟨j + 1 + 1, by omega, by go_num, HRN.out, hBN⟩
        case measure => simp [numOf]; omega
    · have hke : PL.length = k := by omega
      subst hke
      go_wp2
      go_ret
      exact ⟨rfl, hB⟩
end Go.Proofs.YtenjkhgpfmfgmaaDoor
