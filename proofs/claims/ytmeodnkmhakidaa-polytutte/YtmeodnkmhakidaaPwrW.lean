/- How many sets of edges have which powers: powers. -/
import Derived.Test.YtmeodnkmhakidaaTryW
namespace Go.Proofs.Ytmeodnkmhakidaa
set_option maxRecDepth 8000
open Go.RowKit Go.Maps Go.WideElems Go.ChangeMaps
attribute [local go_sem ↓] Go.wp_at_zero Go.wp_at_succ
/-- How many sets of edges have which powers. -/
def cntE (N whole : Nat) (es : List E2) : Cts := addC whole N (fun _ => none) (trL es id N 0)
theorem makeMap42 (W : World) : (Instr.makeMap 42 none).run Try.prog W = .ok (.map (some W.heap.size)) (W.alloc (.map #[] 0)) := by
  simp [Instr.makeMap, go_sem]
set_option maxHeartbeats 4000000 in
theorem powers_call {w : World} {N whole : Nat} {ao : Option Addr} {cap : Nat} {es : List E2} (hE : EdgesAt w (.slice ao es.length cap) (pzT es)) (hes : ∀ e ∈ es, e.1 < N ∧ e.2 < N) (hm : es.length ≤ 12) (hN : N ≤ 100) (hwh : whole = kf N es) :
    Calls Try.prog 16 #[.agg #[.int .i64 (N : Int), .slice ao es.length cap], .int .i64 (whole : Int)] w fun e w' => (∃ mb, e = .returned (.map (some mb)) ∧ w.heap.size ≤ mb ∧ CntM w' mb (2 ^ es.length) (cntE N whole es)) ∧ Below w.heap.size w w' := by
  have HH : Hid (EdgesAt w (.slice ao es.length cap) (pzT es) ∧ (∀ e ∈ es, e.1 < N ∧ e.2 < N) ∧ whole = kf N es) := ⟨hE, hes, hwh⟩
  clear hE hes hwh
  have hmk := makeMap42
  go_enter Try.func16, Try.ntmps16
  go_upto_region 2 with (fail)
  obtain ⟨W1, hW1⟩ : ∃ W1, W1 = ((((w.alloc (Obj.cells #[Value.int IntKind.i64 (N : Int), Value.slice ao es.length cap] 24)).alloc (Obj.cells #[Value.int IntKind.i64 (whole : Int)] 3)).alloc (Obj.map #[] 0)).alloc (Obj.cells #[Value.map (some (w.heap.size + 1 + 1))] 42)) := ⟨_, rfl⟩
  have t0 : Two W1 w.heap.size (.int .i64 (N : Int)) (.slice ao es.length cap) 24 := by
    rw [hW1]; exact two_alloc (two_alloc (two_alloc (two_new w _ _ 24) _) _) _
  have t1 : One W1 (w.heap.size + 1) (.int .i64 (whole : Int)) 3 := by
    rw [hW1]
    refine one_alloc (one_alloc ?_ _) _
    have := one_new (w.alloc (Obj.cells #[Value.int IntKind.i64 (N : Int), Value.slice ao es.length cap] 24)) (Value.int .i64 (whole : Int)) 3
    simpa using this
  have t2 : CntM W1 (w.heap.size + 2) 0 (fun _ => none) := by
    rw [hW1]
    have := cntM_made ((w.alloc (Obj.cells #[Value.int IntKind.i64 (N : Int), Value.slice ao es.length cap] 24)).alloc (Obj.cells #[Value.int IntKind.i64 (whole : Int)] 3))
    have h2 := this.under (below_alloc (Below.refl _ _) (Obj.cells #[Value.map (some (w.heap.size + 1 + 1))] 42))
    simpa using h2
  have t3 : One W1 (w.heap.size + 3) (.map (some (w.heap.size + 2))) 42 := by
    rw [hW1]
    have := one_new (((w.alloc (Obj.cells #[Value.int IntKind.i64 (N : Int), Value.slice ao es.length cap] 24)).alloc (Obj.cells #[Value.int IntKind.i64 (whole : Int)] 3)).alloc (Obj.map #[] 0)) (Value.map (some (w.heap.size + 1 + 1))) 42
    simpa using this
  have hB1 : Below w.heap.size w W1 := by
    rw [hW1]
    exact below_alloc (below_alloc (below_alloc (below_alloc (Below.refl _ w) _) _) _) _
  rw [← hW1]
  clear hW1 hmk
  obtain ⟨S, hS⟩ : ∃ S, S = w.heap.size := ⟨_, rfl⟩
  rw [← hS] at t0 t1 t2 t3 ⊢
  simp only [Nat.add_assoc, Nat.reduceAdd]
  have I : Hid (Calls Try.prog 28 #[.agg #[.int .i64 (N : Int), .slice ao es.length cap], .func (.func 29) #[] #[ptr (S + 3), ptr (S + 1), ptr S]] W1 fun e w' => e = .returned (.tuple #[]) ∧ CntM w' (S + 2) (0 + 2 ^ es.length) (addC whole N (fun _ => none) (trL es id N 0)) ∧ Turns (fun x => x = S + 2) W1 w') := tryEdges_call (HH.out.1.below hB1) t3 t1 t0 t2 (fun k => Nat.le_refl _) (by omega) HH.out.2.1 hm hN HH.out.2.2
  have HB : Hid (Below w.heap.size w W1 ∧ w.heap.size ≤ S + 2 ∧ One W1 (S + 3) (.map (some (S + 2))) 42 ∧ w.heap.size ≤ W1.heap.size) := ⟨hB1, by omega, t3, hB1.size⟩
  obtain ⟨c0, c1⟩ := cell_two t0
  clear t0 t1 t2 t3 hB1 hS
  go_upto_region 3 with (first | (go_at_call 28; refine Calls.mono I.out ?_; rintro e1 V4 ⟨rfl, g2, g3⟩; have HG : Hid _ := And.intro g2 g3; clear g2 g3) | fail)
  have c3 : V4.cell? ⟨S + 3, 0, none⟩ = some (.map (some (S + 2))) := box_cell (i := 0) (one_turns HB.out.2.2.1 HG.out.2 (by omega)) rfl
  go_wp2
  go_ret
  refine ⟨⟨S + 2, rfl, HB.out.2.1, ?_⟩, HG.out.2.below HB.out.1 HB.out.2.2.2 (fun k hk => by rw [hk]; exact HB.out.2.1)⟩
  have := HG.out.1
  rw [Nat.zero_add] at this
  exact this
end Go.Proofs.Ytmeodnkmhakidaa
