/- The document's example of a house. -/
import Derived.Test.YtfdlndljpmamgaaActW
namespace Go.Proofs.Ytfdlndljpmamgaa
set_option maxRecDepth 8000
open Go.RowKit Go.Maps
attribute [local go_sem ↓] Go.wp_at_zero Go.wp_at_succ
/-- A house that was begun behind a world. -/
def Lv (w0 W : World) (b : Nat) (L : List ByteArray) (E : Ed) (K : List Ck) (n : Nat) : Prop := ∃ p : Hp, p.b = b ∧ Hse W p L E K n ∧ (∀ x, p.mine x → w0.heap.size ≤ x) ∧ Below w0.heap.size w0 W
theorem Lv.chg {w0 W W' : World} {p : Hp} {L' : List ByteArray} {E' : Ed} {K' : List Ck} {n' : Nat} (hm : ∀ x, p.mine x → w0.heap.size ≤ x) (hB : Below w0.heap.size w0 W) (h : ChgQ W W' p L' E' K' n') : Lv w0 W' p.b L' E' K' n' := by
  obtain ⟨p', h1, h2, h3, h4⟩ := h
  exact ⟨p', h1, h2, fun x hx => (h4 x hx).elim (hm x) (fun h => Nat.le_trans hB.size h), Turns.below hB h3 hB.size hm⟩
abbrev sA : ByteArray := ⟨#[97]⟩
abbrev sB : ByteArray := ⟨#[98]⟩
theorem bA : nameB sA = true := by decide +kernel
theorem bB : nameB sB = true := by decide +kernel
theorem sAB : sA ≠ sB := by decide
theorem iA : idx [sA, sB] sA = 0 := by simp [idx]
theorem iB : idx [sA, sB] sB = 1 := by simp [idx]
theorem beg_a {w0 W : World} {b : Nat} (h : Lv w0 W b [] noE [] 0) : Calls Try.prog 6 #[ptr b, .string sA] W fun e w' => e = .returned (.agg #[.int .i64 0, .int .i64 0]) ∧ Lv w0 w' b [sA] noE [none] 1 := by
  obtain ⟨p, rfl, h1, h2, h3⟩ := h
  refine Calls.mono (node_ok (s := sA) h1 (by simp) (by simp) (by omega) (by decide) bA (by simp)) ?_
  rintro e w' ⟨rfl, hq⟩
  exact ⟨rfl, Lv.chg h2 h3 hq⟩
theorem beg_b {w0 W : World} {b : Nat} (h : Lv w0 W b [sA] noE [none] 1) : Calls Try.prog 6 #[ptr b, .string sB] W fun e w' => e = .returned (.agg #[.int .i64 0, .int .i64 0]) ∧ Lv w0 w' b [sA, sB] noE [none, none] 2 := by
  obtain ⟨p, rfl, h1, h2, h3⟩ := h
  refine Calls.mono (node_ok (s := sB) h1 (by simp) (by simp) (by omega) (by decide) bB (by simp)) ?_
  rintro e w' ⟨rfl, hq⟩
  exact ⟨rfl, Lv.chg h2 h3 hq⟩
abbrev oneE : Ed := updE noE 0 1 true
theorem beg_e {w0 W : World} {b : Nat} (h : Lv w0 W b [sA, sB] noE [none, none] 2) : Calls Try.prog 8 #[ptr b, .string sA, .string sB] W fun e w' => e = .returned (.agg #[.int .i64 0, .int .i64 0]) ∧ Lv w0 w' b [sA, sB] oneE [none, none, some (true, 0, 1)] 3 := by
  obtain ⟨p, rfl, h1, h2, h3⟩ := h
  obtain ⟨k1, k2⟩ := w0_hse h1
  have hp := pair_ok (a := sA) (b := sB) k1 k2 (by decide) (by decide) (by simp) (by simp)
  rw [iA, iB] at hp
  refine Calls.mono (edge_ok (a := sA) (b := sB) (u := 0) (v := 1) h1 (by omega) (by omega) (by omega) rfl (by simp) (by omega) hp) ?_
  rintro e w' ⟨rfl, hq⟩
  exact ⟨rfl, Lv.chg h2 h3 hq⟩
theorem oneE_true {u v : Nat} (h : oneE u v = true) : u = 0 ∧ v = 1 := by
  rcases updE_true h with ⟨h1, h2, _⟩ | h
  · exact ⟨h1, h2⟩
  · cases h
theorem fnd_one {lab : List Nat} {c : Nat} (h : Fnd 2 oneE lab c) : c = 1 := by
  have h1 := (h.same 0 1 (by omega) (by omega)).2 (Star.one ⟨by omega, Or.inl rfl⟩)
  have h2 := (h.low 0 (by omega)).1
  have h3 : lab.getD 0 0 = 0 := by omega
  have h4 : lab.getD 1 0 = 0 := by omega
  rw [h.count]
  simp only [List.range_succ, List.range_zero, List.nil_append, List.cons_append, List.filter_cons, List.filter_nil, h3, h4]
  rfl
theorem fnd_two {lab : List Nat} {c : Nat} {E : Ed} (hE : ∀ u v, E u v = false) (h : Fnd 2 E lab c) : c = 2 := by
  have h2 := (h.low 0 (by omega)).1
  have h3 : lab.getD 0 0 = 0 := by omega
  have h5 := (h.low 1 (by omega)).1
  have h4 : lab.getD 1 0 = 1 := by
    refine Nat.le_antisymm h5 (Nat.pos_of_ne_zero fun e => ?_)
    have := (h.same 0 1 (by omega) (by omega)).1 (by rw [h3, e])
    have : (1 : Nat) = 0 := Star.closed (P := fun x => x = 0) (fun a b _ hs => by rcases hs.2 with h | h <;> rw [hE] at h <;> cases h) this rfl
    omega
  rw [h.count]
  simp only [List.range_succ, List.range_zero, List.nil_append, List.cons_append, List.filter_cons, List.filter_nil, h3, h4]
  rfl
theorem beg_p {w0 W : World} {b n : Nat} {E : Ed} {K : List Ck} {k : Nat} (hE : EdOk 2 E) (hk : ∀ lab c, Fnd 2 E lab c → c = k) (h : Lv w0 W b [sA, sB] E K n) : Calls Try.prog 20 #[ptr b] W fun e w' => e = .returned (.int .i64 (k : Int)) ∧ Lv w0 w' b [sA, sB] E K n := by
  obtain ⟨p, rfl, h1, h2, h3⟩ := h
  refine Calls.mono (parts_house h1 (by simp) hE) ?_
  rintro e w' ⟨lab, c, hf, rfl, hq⟩
  rw [hk lab c hf]
  exact ⟨rfl, Lv.chg h2 h3 hq⟩
theorem beg_u {w0 W : World} {b : Nat} (h : Lv w0 W b [sA, sB] oneE [none, none, some (true, 0, 1)] 3) : Calls Try.prog 10 #[ptr b] W fun e w' => e = .returned (.agg #[.int .i64 0, .int .i64 0]) ∧ Lv w0 w' b [sA, sB] (updE oneE 0 1 false) [none, none] 3 := by
  obtain ⟨p, rfl, h1, h2, h3⟩ := h
  refine Calls.mono (undo_call (K := [none, none]) h1 (by simp) fun W' hW => undo_hyp_edge (K := [none, none]) hW.1 (by omega) (by omega)) ?_
  rintro e w' ⟨rfl, hq⟩
  exact ⟨rfl, Lv.chg h2 h3 hq⟩
set_option maxHeartbeats 1000000 in
theorem begun_call (w : World) : Calls Try.prog 4 #[] w fun e w' => e = .returned (.bool true) ∧ Below w.heap.size w w' := by
  have e1 : EdOk 2 oneE := fun u v h => by obtain ⟨rfl, rfl⟩ := oneE_true h; omega
  have f2 : ∀ u v, updE oneE 0 1 false u v = false := fun u v => by unfold oneE updE; split <;> simp_all
  have e2 : EdOk 2 (updE oneE 0 1 false) := fun u v h => by rw [f2] at h; cases h
  have P1 := hid (fun (W : World) (b : Nat) => beg_p (w0 := w) (W := W) (b := b) (n := 3) (K := [none, none, some (true, 0, 1)]) e1 (fun lab c => fnd_one))
  have P2 := hid (fun (W : World) (b : Nat) => beg_p (w0 := w) (W := W) (b := b) (n := 3) (K := [none, none]) e2 (fun lab c => fnd_two f2))
  have HU := hid (fun (W : World) (b : Nat) => beg_u (w0 := w) (W := W) (b := b))
  clear e1 e2 f2
  have hfd : ∀ (w : World), (Instr.field 31 (.agg #[.int .i64 0, .int .i64 0]) 0).run Try.prog w = .ok (.int .i64 0) w := fun w => by kernel_rfl
  go_enter Try.func4, Try.ntmps4
  go_wp2_with (first
    | (go_at_call 5; refine Calls.mono (new_call _) ?_; rintro e w1 ⟨p, rfl, q1, q2, q3⟩; have H1 := hid (show Lv w w1 p.b [] noE [] 0 from ⟨p, rfl, q1, q2, q3⟩); clear q1 q2 q3; generalize p.b = b at *)
    | (go_at_call 6; with_reducible refine Calls.mono (beg_a H1.out) ?_; rintro e w2 ⟨rfl, q⟩; have H2 := hid q; clear q)
    | (go_at_call 6; with_reducible refine Calls.mono (beg_b H2.out) ?_; rintro e w3 ⟨rfl, q⟩; have H3 := hid q; clear q)
    | (go_at_call 8; with_reducible refine Calls.mono (beg_e H3.out) ?_; rintro e w4 ⟨rfl, q⟩; have H4 := hid q; clear q)
    | (go_at_call 20; with_reducible refine Calls.mono (P1.out _ _ H4.out) ?_; rintro e w5 ⟨rfl, q⟩; have H5 := hid q; clear q)
    | (go_at_call 10; with_reducible refine Calls.mono (HU.out _ _ H5.out) ?_; rintro e w6 ⟨rfl, q⟩; have H6 := hid q; clear q)
    | (go_at_call 20; with_reducible refine Calls.mono (P2.out _ _ H6.out) ?_; rintro e w7 ⟨rfl, q⟩; have H7 := hid q; clear q))
  obtain ⟨p, _, _, _, hB⟩ := H7.out
  go_ret
  exact ⟨rfl, hB⟩
end Go.Proofs.Ytfdlndljpmamgaa
