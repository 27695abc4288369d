/- The document's own table: what its loops have. -/
import Derived.Test.YtmeodnkmhakidaaTutW
import Derived.Test.YtmeodnkmhakidaaPowW
namespace Go.Proofs.Ytmeodnkmhakidaa
set_option maxRecDepth 8000
open Go.RowKit Go.Maps
/-- What a set of edges adds to the table. -/
def tG (N w : Nat) (B : List E2) (i j : Nat) : Int := co (kf N B - w) i * co (kf N B + B.length - N) j
/-- The table of the first s sets. -/
def tS (N w : Nat) (es : List E2) (s i j : Nat) : Int := sm s fun t => tG N w (sel es t) i j
theorem tS_all (N w : Nat) (es : List E2) (i j : Nat) : tS N w es (2 ^ es.length) i j = tT N w es i j := sum_sel es (fun B => tG N w B i j)
/-- An array of 13 rows of 14 numbers. -/
def AT (w : World) (b : Nat) (T : Nat → Nat → Int) : Prop := RowV w b 48 182 (fun x => .int .i64 (T (x / 14) (x % 14)))
theorem AT.cell {w : World} {b : Nat} {T : Nat → Nat → Int} (h : AT w b T) {i j : Nat} (hi : i < 13) (hj : j < 14) : w.cell? ⟨b, i * 14 + j, none⟩ = some (.int .i64 (T i j)) := by
  have := RowV.cell h (j := i * 14 + j) (by omega)
  rw [show (i * 14 + j) / 14 = i by omega, show (i * 14 + j) % 14 = j by omega] at this
  exact this
theorem AT.set {w : World} {b : Nat} {T : Nat → Nat → Int} (h : AT w b T) {i j : Nat} (hj : j < 14) (x : Int) : AT (w.setCell ⟨b, i * 14 + j, none⟩ (.int .i64 x)) b (fun a c => if a = i ∧ c = j then x else T a c) := by
  refine (RowV.set h (i * 14 + j) _).congr fun y hy => ?_
  show (if y = i * 14 + j then Value.int .i64 x else .int .i64 (T (y / 14) (y % 14))) = .int .i64 (if y / 14 = i ∧ y % 14 = j then x else T (y / 14) (y % 14))
  by_cases e : y = i * 14 + j
  · rw [if_pos e, if_pos (by omega)]
  · rw [if_neg e, if_neg (by omega)]
theorem AT.congr {w : World} {b : Nat} {T T' : Nat → Nat → Int} (h : AT w b T) (e : ∀ i j, i < 13 → j < 14 → T i j = T' i j) : AT w b T' := RowV.congr h fun x hx => by rw [e _ _ (by omega) (by omega)]
theorem zero48 : Try.zeroCells48 = rep 182 (.int .i64 0) := by kernel_rfl
theorem AT.start (w : World) : AT (w.alloc (Obj.cells Try.zeroCells48 48)) w.heap.size (fun _ _ => 0) := by
  have := heap_alloc_new w (Obj.cells Try.zeroCells48 48)
  rw [zero48] at this ⊢
  exact rowV_rep this
/-- Those that a number chooses of the first i edges. -/
def selK (es : List E2) (s i : Nat) : List E2 := ((List.range i).filter s.testBit).filterMap fun j => es[j]?
theorem selK_all (es : List E2) (s : Nat) : selK es s es.length = sel es s := (sel_bits es s).symm
theorem selK_take {es : List E2} {s i : Nat} (hi : i < es.length) (h : s.testBit i = true) : selK es s (i + 1) = selK es s i ++ [es[i]] := by
  unfold selK
  rw [List.range_succ, List.filter_append, List.filterMap_append]
  simp [h, List.getElem?_eq_getElem hi]
theorem selK_skip {es : List E2} {s i : Nat} (h : s.testBit i = false) : selK es s (i + 1) = selK es s i := by
  unfold selK
  rw [List.range_succ, List.filter_append, List.filterMap_append]
  simp [h]
theorem selK_len (es : List E2) (s i : Nat) : (selK es s i).length ≤ i := by
  unfold selK
  refine Nat.le_trans (List.length_filterMap_le _ _) (Nat.le_trans (List.length_filter_le _ _) (by simp))
theorem sel_mem : ∀ {es : List E2} {s : Nat}, sel es s ∈ sub es
  | [], s => by simp [sel, sub]
  | e :: r, s => by
    unfold sel sub
    split
    · exact List.mem_append.2 (Or.inr (List.mem_map.2 ⟨_, sel_mem, rfl⟩))
    · exact List.mem_append.2 (Or.inl sel_mem)
theorem selK_in {es : List E2} {s i : Nat} {e : E2} (h : e ∈ selK es s i) : e ∈ es := by
  unfold selK at h
  obtain ⟨j, _, h2⟩ := List.mem_filterMap.1 h
  exact List.mem_of_getElem? h2
theorem pzT_app (a b : List E2) : pzT (a ++ b) = pzT a ++ pzT b := List.map_append
theorem pzT_mem {es : List E2} {e : E2} (h : e ∈ es) : ((e.1 : Int), (e.2 : Int)) ∈ pzT es := List.mem_map.2 ⟨e, h, rfl⟩
theorem tG_small {N w : Nat} {B : List E2} (h1 : kf N B - w ≤ 13) (h2 : kf N B + B.length - N ≤ 13) (i j : Nat) : -67108864 ≤ tG N w B i j ∧ tG N w B i j ≤ 67108864 := mul_small (co_small h1 i) (co_small h2 j)
theorem tS_small {N : Nat} {es : List E2} (hes : ∀ e ∈ es, e.1 < N ∧ e.2 < N) (hN : N ≤ 12) (hm : es.length ≤ 12) (i j : Nat) : ∀ s : Nat, -(67108864 * (s : Int)) ≤ tS N (kf N es) es s i j ∧ tS N (kf N es) es s i j ≤ 67108864 * (s : Int)
  | 0 => by simp [tS, sm]
  | s + 1 => by
    have h := tS_small hes hN hm i j s
    have h2 := kf_sub hes (sel_mem (es := es) (s := s))
    have h3 := tG_small (N := N) (w := kf N es) (B := sel es s) (by omega) (by omega) i j
    show -(67108864 * ((s + 1 : Nat) : Int)) ≤ tS N (kf N es) es s i j + tG N (kf N es) (sel es s) i j ∧ tS N (kf N es) es s i j + tG N (kf N es) (sel es s) i j ≤ 67108864 * ((s + 1 : Nat) : Int)
    omega
end Go.Proofs.Ytmeodnkmhakidaa
