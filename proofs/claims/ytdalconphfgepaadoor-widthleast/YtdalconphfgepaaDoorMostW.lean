/- smallFault and mostOf. -/
import Derived.Test.YtdalconphfgepaaDoorLeastFB
namespace Go.Proofs.YtdalconphfgepaaDoor
set_option maxRecDepth 8000
open Go.RowKit Go.Maps
attribute [local go_sem ↓] Go.wp_at_zero Go.wp_at_succ
set_option maxHeartbeats 4000000 in
theorem small_call {w : World} {ao : Option Addr} {cap : Nat} {n : Int} {es : List Pair} (hE : EdgesAt w (.slice ao es.length cap) es) (hcap : es.length ≤ cap) :
    Calls Tryd.prog 7 #[.agg #[.int .i64 n, .slice ao es.length cap], .int .i64 12] w fun e w' => e = .returned (.agg #[.int .i64 (smallR n es).1, .int .i64 (smallR n es).2]) ∧ Below w.heap.size w w' := by
  have C24 : Hid (∀ A, Below w.heap.size w A → Calls Tryd.prog 24 #[.agg #[.int .i64 n, .slice ao es.length cap]] A fun e w' => e = .returned (.agg #[.int .i64 (chk n es).1, .int .i64 (chk n es).2]) ∧ Below A.heap.size A w') := fun A hA => refCheck_any n ao cap es A (hE.below hA) hcap
  have CF : Hid (∀ (a b : Int) A, Calls Tryd.prog 20 #[.int .i64 a, .int .i64 b] A fun e w' => e = .returned (.agg #[.int .i64 a, .int .i64 b]) ∧ Below A.heap.size A w') := fun a b A => refF_any a b A
  have HSR : Hid (smallR n es = if (chk n es).1 = 0 ∧ 12 < n then (2, 0) else chk n es) := rfl
  generalize smallR n es = SR at *
  generalize chk n es = CK at *
  obtain ⟨c, d⟩ := CK
  obtain ⟨rc, rd⟩ := SR
  generalize es.length = el at *
  simp only at C24 HSR ⊢
  clear hE hcap
  go_enter Tryd.func7, Tryd.ntmps7
  go_upto_region 1 with (fail)
  have x1 := two_new w (.int .i64 n) (.slice ao el cap) 24
  have hB2 : Below w.heap.size w ((w.alloc (Obj.cells #[.int .i64 n, .slice ao el cap] 24)).alloc (Obj.cells #[.int .i64 0, .int .i64 0] 27)) := below_alloc (below_alloc (Below.refl _ w) _) _
  have y1 : Two ((w.alloc (Obj.cells #[.int .i64 n, .slice ao el cap] 24)).alloc (Obj.cells #[.int .i64 0, .int .i64 0] 27)) w.heap.size (.int .i64 n) (.slice ao el cap) 24 := two_alloc x1 _
  have y5 : Two ((w.alloc (Obj.cells #[.int .i64 n, .slice ao el cap] 24)).alloc (Obj.cells #[.int .i64 0, .int .i64 0] 27)) (w.heap.size + 1) (.int .i64 0) (.int .i64 0) 27 := two_nxt _ _ _ _ _
  obtain ⟨q, hq⟩ : ∃ q, q = w.heap.size := ⟨_, rfl⟩
  obtain ⟨b4, hb4⟩ : ∃ b, b = w.heap.size + 1 := ⟨_, rfl⟩
  rw [← hb4] at y5 ⊢
  rw [← hq] at y1 ⊢
  generalize (w.alloc (Obj.cells #[.int .i64 n, .slice ao el cap] 24)).alloc (Obj.cells #[.int .i64 0, .int .i64 0] 27) = W2 at *
  have HB2 : Hid (Below w.heap.size w W2 ∧ Two W2 b4 (.int .i64 0) (.int .i64 0) 27 ∧ w.heap.size ≤ b4 ∧ Two W2 q (.int .i64 n) (.slice ao el cap) 24) := ⟨hB2, y5, by omega, y1⟩
  obtain ⟨c0, c1⟩ := cell_two y1
  have C24' : Hid _ := C24.out W2 hB2
  clear hq hb4 x1 hB2 y1 y5 C24
  go_upto_region 2 with (first | (go_at_call 24; refine Calls.mono C24'.out ?_; rintro e w3 ⟨rfl, h3⟩) | fail)
  have hB4 : Below W2.heap.size W2 (w3.alloc (Obj.cells #[.int .i64 c, .int .i64 d] 27)) := below_alloc h3 _
  have x6 := two_new w3 (.int .i64 c) (.int .i64 d) 27
  obtain ⟨b5, hb5⟩ : ∃ b, b = w3.heap.size := ⟨_, rfl⟩
  have hne : b4 ≠ b5 ∧ w.heap.size ≤ b5 := ⟨by have h1 := lt_of_block (two_next HB2.out.2.1 h3); omega, by have h1 := h3.size; have h2 := HB2.out.1.size; omega⟩
  rw [← hb5] at x6 ⊢
  generalize w3.alloc (Obj.cells #[.int .i64 c, .int .i64 d] 27) = w4 at *
  obtain ⟨a0, a1⟩ := cell_two x6
  have HNE : Hid (b4 ≠ b5 ∧ w.heap.size ≤ b5) := hne
  have HW4 : Hid (Below w.heap.size w w4 ∧ Two w4 b4 (.int .i64 0) (.int .i64 0) 27 ∧ Two w4 q (.int .i64 n) (.slice ao el cap) 24 ∧ Two w4 b5 (.int .i64 c) (.int .i64 d) 27) := ⟨below_next HB2.out.1 hB4, two_next HB2.out.2.1 hB4, two_next HB2.out.2.2.2 hB4, x6⟩
  obtain ⟨d0, d1⟩ := cell_two HW4.out.2.2.1
  clear h3 hB4 C24' c0 c1 x6 hb5 hne
  by_cases hc : c = 0
  · subst hc
    by_cases h12 : 12 < n
    · have k1 : decide ((12 : Int) < n) = true := by simpa using h12
      have HR : Hid ((rc, rd) = ((2 : Int), (0 : Int))) := HSR.out.trans (if_pos ⟨rfl, h12⟩)
      clear HSR
      go_upto_region 4 with (first | (go_at_call 20; refine Calls.mono (CF.out _ _ _) ?_; rintro e w5 ⟨rfl, h5⟩; obtain ⟨q1, q2, q3, q4, q5, q6⟩ := store_two' (two_next HW4.out.2.2.2 h5) (.int .i64 2) (.int .i64 0)) | fail)
      have t4 : Two ((w5.setCell ⟨b5, 0, none⟩ (.int .i64 2)).setCell ⟨b5, 1, none⟩ (.int .i64 0)) b4 (.int .i64 0) (.int .i64 0) 27 := two_far (two_far (two_next HW4.out.2.1 h5) HNE.out.1) HNE.out.1
      have hB6 : Below w.heap.size w ((w5.setCell ⟨b5, 0, none⟩ (.int .i64 2)).setCell ⟨b5, 1, none⟩ (.int .i64 0)) := ((below_next HW4.out.1 h5).setCell HNE.out.2 _).setCell HNE.out.2 _
      clear q1 q2 q3 q4 h5
      generalize (w5.setCell ⟨b5, 0, none⟩ (.int .i64 2)).setCell ⟨b5, 1, none⟩ (.int .i64 0) = w6 at *
      obtain ⟨p1, p2, p3, p4, p5, p6⟩ := store_two' t4 (.int .i64 2) (.int .i64 0)
      go_wp2
      have e := HR.out
      simp only [Prod.mk.injEq] at e
      obtain ⟨rfl, rfl⟩ := e
      refine bodyPost_ret (v := .agg #[.int .i64 2, .int .i64 0]) ?_ rfl ⟨rfl, (hB6.setCell HB2.out.2.2.1 _).setCell HB2.out.2.2.1 _⟩
      simp [results, Tryd.results7, go_sem, p5, p6]
    · have k1 : decide ((12 : Int) < n) = false := by simpa using h12
      have HR : Hid ((rc, rd) = ((0 : Int), d)) := HSR.out.trans (if_neg (fun h => h12 h.2))
      obtain ⟨p1, p2, p3, p4, p5, p6⟩ := store_two' HW4.out.2.1 (.int .i64 0) (.int .i64 d)
      clear HSR
      go_wp2
      have e := HR.out
      simp only [Prod.mk.injEq] at e
      obtain ⟨rfl, rfl⟩ := e
      refine bodyPost_ret (v := .agg #[.int .i64 0, .int .i64 rd]) ?_ rfl ⟨rfl, (HW4.out.1.setCell HB2.out.2.2.1 _).setCell HB2.out.2.2.1 _⟩
      simp [results, Tryd.results7, go_sem, p5, p6]
  · have kc : (c == 0) = false := by simpa using hc
    have HR : Hid ((rc, rd) = (c, d)) := HSR.out.trans (if_neg (fun h => hc h.1))
    obtain ⟨p1, p2, p3, p4, p5, p6⟩ := store_two' HW4.out.2.1 (.int .i64 c) (.int .i64 d)
    clear HSR hc
    go_wp2
    have e := HR.out
    simp only [Prod.mk.injEq] at e
    obtain ⟨rfl, rfl⟩ := e
    refine bodyPost_ret (v := .agg #[.int .i64 rc, .int .i64 rd]) ?_ rfl ⟨rfl, (HW4.out.1.setCell HB2.out.2.2.1 _).setCell HB2.out.2.2.1 _⟩
    simp [results, Tryd.results7, go_sem, p5, p6]
/-- The greatest number of nodes of a bag, less 1. -/
def mostL (g : Nat → Nat) : Nat → Int
  | 0 => -1
  | k + 1 => max (mostL g k) ((g k : Int) - 1)
theorem mostL_bd (g : Nat → Nat) (hg : ∀ i, g i ≤ 1000) : ∀ k, -1 ≤ mostL g k ∧ mostL g k ≤ 1000
  | 0 => ⟨Int.le_refl _, by show (-1 : Int) ≤ 1000; decide⟩
  | k + 1 => by
    have h1 := mostL_bd g hg k
    have h2 := hg k
    unfold mostL
    omega
set_option maxHeartbeats 1000000 in
theorem most_call {w : World} {xo : Option Addr} {m xc : Nat} {g : Nat → Nat} (hm : m ≤ 1000) (hg : ∀ i, g i ≤ 1000) (hx : ∀ i, i < m → ∃ b off vo vc, xo = some ⟨b, off, none⟩ ∧ w.cell? ⟨b, off + i, none⟩ = some (.slice vo (g i) vc)) :
    Calls Tryd.prog 13 #[.slice xo m xc] w fun e w' => e = .returned (.int .i64 (mostL g m)) ∧ w' = w := by
  have HX : Hid _ := hx
  have HG : Hid (∀ i, g i ≤ 1000) := hg
  clear hx hg
  go_enter Tryd.func13, Tryd.ntmps13
  go_upto_region 3 with (fail)
  go_loopw [3, 4] (fun s3 s4 wz => ∃ k : Nat, k ≤ m ∧ s4 = .int .i64 (k : Int) ∧ s3 = .int .i64 (mostL g k) ∧ wz = w) (fun _ s4 _ => m - (numOf s4).toNat)
  case atStart => exact ⟨0, Nat.zero_le _, rfl, rfl, rfl⟩
  case round =>
    obtain ⟨k, hk, rfl, rfl, hwr⟩ := hrel
    have hwr' := hwr.symm
    clear hwr
    subst hwr'
    have hbd := mostL_bd g HG.out k
    by_cases hlt : k < m
    · obtain ⟨b, off, vo, vc, rfl, cx⟩ := HX.out k hlt
      have hgk := HG.out k
      have HS : Hid (mostL g (k + 1) = max (mostL g k) ((g k : Int) - 1)) := rfl
      have i1 : (0 : Int) ≤ (k : Int) := by omega
      have i2 : (k : Int) < (m : Int) := by omega
      generalize mostL g k = mk at *
      generalize g k = gk at *
      go_wp2
      go_roundw
      case rel => exact ⟨k + 1, by omega, by go_num, by rw [HS.out], trivial⟩
      case measure => simp [numOf]; omega
    · obtain rfl : k = m := by omega
      go_wp2
      go_ret
      exact ⟨rfl, rfl⟩
end Go.Proofs.YtdalconphfgepaaDoor
