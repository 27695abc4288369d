/- slices.Contains of pairs. -/
import Derived.Test.YtkakmaalmhofmaaWithout
namespace Go.Proofs.Ytkakmaalmhofmaa
open Go.RowKit Go.Maps
attribute [local go_sem ↓] Go.wp_at_zero Go.wp_at_succ

theorem eql51d {x y x' y' : Int} (hx : I64 x) (hy : I64 y) (hx' : I64 x') (hy' : I64 y') (w : World) : (binOp .eql 51 (.agg #[.int .i64 x, .int .i64 y]) (.agg #[.int .i64 x', .int .i64 y'])).run Try.prog w = .ok (.bool (decide ((x, y) = (x', y')))) w := by
  obtain ⟨r, h1, h2⟩ := run_equal_deep (P := Try.prog) w (m := Try.prog.types.size + 1) (of_decide_eq_true (by kernel_rfl)) (k := 51) (by kernel_rfl) (by kernel_rfl) (key_mk hx hy) (key_mk hx' hy')
  have h3 : r = decide ((x, y) = (x', y')) := by
    rw [Bool.eq_iff_iff, h2, decide_eq_true_iff]
    constructor
    · intro h; have := key_inj hx hy hx' hy' h; simp [this]
    · intro h; simp at h; rw [h.1, h.2]
  rw [h3] at h1
  simp only [binOp]
  simp only [Sem.run_bind, h1]
  by_cases h : (x, y) = (x', y') <;> simp [h, Result.andThen]

set_option maxRecDepth 4000 in
set_option maxHeartbeats 1500000 in
theorem indexP_call {v : Value} {es : List Pair} {w : World} (hE : EdgesAt w v es) (hl : es.length ≤ 1000) {x y : Int} (hx : I64 x) (hy : I64 y) :
    Calls Try.prog 61 #[v, .agg #[.int .i64 x, .int .i64 y]] w fun e w' => (∃ k : Int, e = .returned (.int .i64 k) ∧ ((k = -1 ∧ (x, y) ∉ es) ∨ (0 ≤ k ∧ (x, y) ∈ es))) ∧ Below w.heap.size w w' := by
  obtain ⟨ao, cap, rfl⟩ := hE.form
  have HE : Hid (EdgesAt w (.slice ao es.length cap) es) := hE
  clear hE
  go_enter Try.func61, Try.ntmps61
  go_wp2
  go_loopw [5, 8] (fun _ iv wr => ∃ k : Nat, iv = .int .i64 (k : Int) ∧ k ≤ es.length ∧ (x, y) ∉ es.take k ∧ Two wr w.heap.size (.int .i64 x) (.int .i64 y) 51 ∧ Below w.heap.size w wr) (fun _ iv _ => es.length - (numOf iv).toNat)
  case atStart => exact ⟨0, rfl, Nat.zero_le _, by simp, two_new w _ _ 51, below_alloc (Below.refl _ w) _⟩
  case round =>
    obtain ⟨k, rfl, hk, hn, t3, hB⟩ := hrel
    have HN : Hid ((x, y) ∉ es.take k) := hn
    clear hn
    by_cases hlt : k < es.length
    · obtain ⟨_, _, e, hl2, hI, hcells⟩ := EdgesAt.below HE.out hB
      cases e
      obtain ⟨b, off, rfl, cx, cy⟩ := hcells k hlt
      obtain ⟨a, d, had⟩ : ∃ a d, es[k] = (a, d) := ⟨es[k].1, es[k].2, rfl⟩
      have hI2 := hI es[k] (List.getElem_mem _)
      rw [had] at cx cy hI2
      have HK : Hid (es[k]? = some (a, d)) := by show _ = _; rw [List.getElem?_eq_getElem hlt, had]
      have heq := eql51d hx hy hI2.1 hI2.2
      have i1 : (0 : Int) ≤ (k : Int) := by omega
      have i2 : (k : Int) < (es.length : Int) := by omega
      obtain ⟨z0, z1⟩ := cell_two t3
      clear hcells hI had hI2
      by_cases he : (x, y) = (a, d)
      · rw [decide_eq_true he] at heq
        have HM : Hid ((x, y) ∈ es) := by show _ ∈ _; rw [he]; exact List.mem_of_getElem? HK.out
        clear he
        go_upto_region 4 with (fail)
        go_quiet (fail)
        go_wp2
        go_ret
        exact ⟨⟨(k : Int), rfl, Or.inr ⟨by omega, HM.out⟩⟩, below_drewN hB _⟩
      · rw [decide_eq_false he] at heq
        have HN2 : Hid ((x, y) ∉ es.take (k + 1)) := by
          show _ ∉ _
          obtain ⟨g1, g2⟩ := List.getElem?_eq_some_iff.1 HK.out
          rw [List.take_succ_eq_append_getElem g1, g2]
          intro hm
          rcases List.mem_append.1 hm with hm | hm
          · exact HN.out hm
          · rw [List.mem_singleton] at hm; exact he hm
        clear he
        go_upto_region 4 with (fail)
        go_quiet (fail)
        have t3q : Two (wr.drewN nq) w.heap.size (.int .i64 x) (.int .i64 y) 51 := t3
        go_wp2
        go_roundw
        case rel => exact ⟨k + 1, by go_num, by omega, HN2.out, t3q, below_drewN hB _⟩
        case measure => simp [numOf]; omega
    · have i2 : ¬ (k : Int) < (es.length : Int) := by omega
      have HN2 : Hid ((x, y) ∉ es) := by have := HN.out; rwa [List.take_of_length_le (by omega)] at this
      go_wp2
      go_ret
      exact ⟨⟨-1, rfl, Or.inl ⟨rfl, HN2.out⟩⟩, hB⟩
theorem containsP_call {v : Value} {es : List Pair} {w : World} (hE : EdgesAt w v es) (hl : es.length ≤ 1000) {x y : Int} (hx : I64 x) (hy : I64 y) :
    Calls Try.prog 42 #[v, .agg #[.int .i64 x, .int .i64 y]] w fun e w' => e = .returned (.bool (decide ((x, y) ∈ es))) ∧ Below w.heap.size w w' := by
  obtain ⟨ao, cap, rfl⟩ := hE.form
  have t3 := two_new w (.int .i64 x) (.int .i64 y) 51
  have h61 := indexP_call (hE.below (below_alloc (Below.refl _ w) (Obj.cells #[.int .i64 x, .int .i64 y] 51))) hl hx hy
  have hB0 := below_alloc (Below.refl _ w) (Obj.cells #[.int .i64 x, .int .i64 y] 51)
  obtain ⟨g, hg⟩ : ∃ g, g = decide ((x, y) ∈ es) := ⟨_, rfl⟩
  rw [← hg]
  have HG : Hid (g = decide ((x, y) ∈ es)) := hg
  go_enter Try.func42, Try.ntmps42
  go_upto_region 1 with (fail)
  generalize w.alloc (Obj.cells #[.int .i64 x, .int .i64 y] 51) = W0 at t3 h61 hB0 ⊢
  have H61 : Hid (Calls Try.prog 61 #[.slice ao es.length cap, .agg #[.int .i64 x, .int .i64 y]] W0 fun e w' => (∃ k : Int, e = .returned (.int .i64 k) ∧ ((k = -1 ∧ (x, y) ∉ es) ∨ (0 ≤ k ∧ (x, y) ∈ es))) ∧ Below W0.heap.size W0 w') := h61
  obtain ⟨z0, z1⟩ := cell_two t3
  clear h61 hE hg hx hy
  go_wp2_with (first | (go_at_call 61; refine Calls.mono H61.out ?_; rintro e W1 ⟨⟨k, rfl, hk⟩, hb1⟩; have HK : Hid ((k = -1 ∧ (x, y) ∉ es) ∨ (0 ≤ k ∧ (x, y) ∈ es)) := hk; clear hk) | go_in)
  go_ret
  refine ⟨?_, below_next hB0 hb1⟩
  have hgo := HG.out
  rcases HK.out with ⟨rfl, hn⟩ | ⟨h0, hm⟩
  · rw [decide_eq_false hn] at hgo
    subst hgo
    simp
  · rw [decide_eq_true hm] at hgo
    subst hgo
    simp [h0]
end Go.Proofs.Ytkakmaalmhofmaa
