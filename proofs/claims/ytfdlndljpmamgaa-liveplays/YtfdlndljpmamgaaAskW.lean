/- Parts and Joined of a house. -/
import Derived.Test.YtfdlndljpmamgaaTogW
namespace Go.Proofs.Ytfdlndljpmamgaa
set_option maxRecDepth 8000
open Go.RowKit Go.Maps
attribute [local go_sem ↓] Go.wp_at_zero Go.wp_at_succ
theorem Known.hse {w : World} {p : Hp} {L : List ByteArray} {E : Ed} {K : List Ck} {n : Nat} (hs : Hs w p L E K n) (hk : Known w p L.length E) : Hse w p L E K n := by
  obtain ⟨lab, c, h1, h2, h3⟩ := hk
  exact ⟨hs, Or.inr ⟨lab, c, h1, h2, h3⟩⟩
/-- What asking leaves of a house. -/
def AskQ (w w' : World) (p : Hp) (L : List ByteArray) (E : Ed) (K : List Ck) (n : Nat) : Prop := ∃ p' : Hp, p'.b = p.b ∧ Hse w' p' L E K n ∧ Turns p.mine w w' ∧ ∀ x, p'.mine x → p.mine x ∨ w.heap.size ≤ x
theorem ask_mk {w w' : World} {p : Hp} {L : List ByteArray} {E : Ed} {K : List Ck} {n : Nat} {pv : Value} (h1 : Hse w' { p with pv := pv } L E K n) (h2 : Turns p.mine w w') (h3 : ∀ x, pv.ownBlock = some x → p.pv.ownBlock = some x ∨ w.heap.size ≤ x) : AskQ w w' p L E K n := by
  refine ⟨{ p with pv := pv }, rfl, h1, h2, fun x hx => ?_⟩
  rcases hx with h | h | h | h | h | h | h
  · exact Or.inl (by simp [Hp.mine]; exact Or.inl h)
  · exact Or.inl (by simp [Hp.mine]; exact Or.inr (Or.inl h))
  · exact Or.inl (by simp [Hp.mine]; exact Or.inr (Or.inr (Or.inl h)))
  · exact Or.inl (by simp [Hp.mine]; exact Or.inr (Or.inr (Or.inr (Or.inl h))))
  · exact Or.inl (by simp [Hp.mine]; exact Or.inr (Or.inr (Or.inr (Or.inr (Or.inl h)))))
  · exact Or.inl (by simp [Hp.mine]; exact Or.inr (Or.inr (Or.inr (Or.inr (Or.inr (Or.inl h))))))
  · exact (h3 x h).imp (fun h => by simp [Hp.mine, h]) id
theorem Known.fnd {w : World} {p : Hp} {N : Nat} {E : Ed} (h : Known w p N E) : ∃ lab c, Fnd N E lab c ∧ w.cell? ⟨p.tb, 3, none⟩ = some (.int .i64 ((c : Nat) : Int)) ∧ w.cell? ⟨p.tb, 4, none⟩ = some p.pv ∧ LabAt w p.pv N lab := by
  obtain ⟨lab, c, h1, h2, h3⟩ := h
  exact ⟨lab, c, h1, box_cell h3 rfl, box_cell h3 rfl, h2⟩
set_option maxHeartbeats 1000000 in
theorem parts_house {w : World} {p : Hp} {L : List ByteArray} {E : Ed} {K : List Ck} {n : Nat} (h : Hse w p L E K n) (hL : L.length ≤ 100) (hE : EdOk L.length E) :
    Calls Try.prog 20 #[ptr p.b] w fun e w' => ∃ lab c, Fnd L.length E lab c ∧ e = .returned (.int .i64 ((c : Nat) : Int)) ∧ AskQ w w' p L E K n := by
  have CT := hid (together_call h hL hE)
  clear h hL hE
  go_enter Try.func20, Try.ntmps20
  go_wp2_with (first | (go_at_call 40; refine Calls.mono CT.out ?_; rintro e w2 ⟨rfl, pv, hs, hk, hT, hm⟩; obtain ⟨lab, c, hf, c3, c4, hla⟩ := hk.fnd; have HP := hid (ask_mk (Known.hse hs hk) hT hm); have HF := hid hf; clear hs hk hT hm hf hla; simp only at c3 c4) | go_in)
  go_ret
  exact ⟨lab, c, HF.out, rfl, HP.out⟩
abbrev fz : Value := .agg #[.int .i64 0, .int .i64 0]
abbrev fv (c d : Int) : Value := .agg #[.int .i64 c, .int .i64 d]
theorem ask_below {w w' : World} {p : Hp} {L : List ByteArray} {E : Ed} {K : List Ck} {n : Nat} (h : Hse w p L E K n) (hb : Below w.heap.size w w') : AskQ w w' p L E K n := ⟨p, rfl, h.below hb, Turns.of_below hb _, fun _ hx => Or.inl hx⟩
theorem AskQ.next {w w1 w2 : World} {p : Hp} {L : List ByteArray} {E : Ed} {K : List Ck} {n : Nat} (hb : Below w.heap.size w w1) (h : AskQ w1 w2 p L E K n) : AskQ w w2 p L E K n := by
  obtain ⟨p', h1, h2, h3, h4⟩ := h
  exact ⟨p', h1, h2, (Turns.of_below hb _).trans h3, fun x hx => (h4 x hx).imp id (fun h => Nat.le_trans hb.size h)⟩
theorem AskQ.after {w w1 w2 : World} {p : Hp} {L : List ByteArray} {E : Ed} {K : List Ck} {n b : Nat} (h : AskQ w w1 p L E K n) (ht : Turns (fun k => k = b) w1 w2) (hb : ¬ p.mine b) (hw : w.heap.size ≤ b) (hx : ∀ q : Hp, Hse w1 q L E K n → q.b = p.b → ¬ q.mine b) (hB : ∀ cs t, w1.heap[b]? = some (.cells cs t (0, 0)) → t ≠ 24 ∧ t ≠ 59) : AskQ w w2 p L E K n := by
  obtain ⟨p', h1, h2, h3, h4⟩ := h
  refine ⟨p', h1, h2.turns ht (fun x e => by subst e; exact hx p' h2 h1) (fun x e => by subst e; exact hB), ?_, h4⟩
  exact ⟨ht.os.trans h3.os, ht.tape.trans h3.tape, ht.output.trans h3.output, Nat.le_trans h3.size ht.size, fun k hk hn => (ht.block k (Nat.lt_of_lt_of_le hk h3.size) (fun e => by omega)).trans (h3.block k hk hn)⟩
/-- A box of certain types is none of a house's own blocks. -/
theorem Hse.off {w : World} {p : Hp} {L : List ByteArray} {E : Ed} {K : List Ck} {n : Nat} (h : Hse w p L E K n) {b : Nat} {cs : Array Value} {t : TypeId} (hb : Box w b cs t) (ht : ¬ OwnT t) : ¬ p.mine b := fun hm => by
  rcases h.types hm with ⟨es, c, h1⟩ | ⟨cs', t', h1, h2⟩
  · rw [hb] at h1; cases h1
  · rw [hb] at h1
    cases h1
    exact ht h2
set_option maxHeartbeats 2000000 in
theorem joined_bad {w : World} {p : Hp} {L : List ByteArray} {E : Ed} {K : List Ck} {n : Nat} (h : Hse w p L E K n) {a b : ByteArray} {c d : Int} (hc : c = 10) (hp : Calls Try.prog 30 #[ptr p.b, .string a, .string b] (w.alloc (Obj.cells #[.int .i64 0, .int .i64 0] 31)) fun e w' => e = .returned (.tuple #[fz, fv c d]) ∧ Below (w.alloc (Obj.cells #[.int .i64 0, .int .i64 0] 31)).heap.size (w.alloc (Obj.cells #[.int .i64 0, .int .i64 0] 31)) w') :
    Calls Try.prog 14 #[ptr p.b, .string a, .string b] w fun e w' => e = .returned (.tuple #[.bool false, fv c d]) ∧ AskQ w w' p L E K n := by
  subst hc
  have CP := hid hp
  have HH := hid h
  clear h hp
  go_enter Try.func14, Try.ntmps14
  go_wp2_with (first | (go_at_call 30; refine Calls.mono CP.out ?_; rintro e w2 ⟨rfl, hB⟩) | go_in)
  have hB0 := below_alloc (Below.refl _ w) (Obj.cells #[.int .i64 0, .int .i64 0] 31)
  have hBW : Below w.heap.size w ((w2.alloc (Obj.cells #[.int .i64 0, .int .i64 0] 59)).alloc (Obj.cells #[.int .i64 10, .int .i64 d] 31)) := below_next hB0 (below_next hB (below2 _ _))
  have t7 : Two ((w2.alloc (Obj.cells #[.int .i64 0, .int .i64 0] 59)).alloc (Obj.cells #[.int .i64 10, .int .i64 d] 31)) w.heap.size (.int .i64 0) (.int .i64 0) 31 := two_next (two_new w (.int .i64 0) (.int .i64 0) 31) (below_next hB (below2 _ _))
  have t9 := two_nxt w2 (Obj.cells #[.int .i64 0, .int .i64 0] 59) (.int .i64 10) (.int .i64 d) 31
  have hne : w.heap.size ≠ w2.heap.size + 1 := by have := hB.size; simp at this; omega
  have HBW := hid hBW
  clear CP hB hB0 hBW
  obtain ⟨b7, hb7⟩ : ∃ b, b = w.heap.size := ⟨_, rfl⟩
  rw [← hb7] at t7 hne ⊢
  have HB7 := hid hb7
  clear hb7
  generalize w2.heap.size + 1 = b9 at *
  generalize w2.heap.size = b8 at *
  generalize (w2.alloc (Obj.cells #[.int .i64 0, .int .i64 0] 59)).alloc (Obj.cells #[.int .i64 10, .int .i64 d] 31) = W3 at *
  obtain ⟨c0, c1⟩ := cell_two t7
  have f0 := free_two t7 0
  have f1 := free_two t7 1
  obtain ⟨d0, d1⟩ := cell_two t9
  have T7 := hid t7
  clear t7 t9
  go_wp2
  go_region
  all_goals go_wp2
  all_goals
    have hW := two_setN (x' := .int .i64 10) (y' := .int .i64 d) T7.out
    have hT4 := (setCell_turns W3 b7 0 (.int .i64 10)).trans (setCell_turns _ b7 1 (.int .i64 d))
    generalize (W3.setCell ⟨b7, 0, none⟩ (.int .i64 10)).setCell ⟨b7, 1, none⟩ (.int .i64 d) = W4 at hW hT4 ⊢
    have g0 : W4.drew.cell? ⟨b7, 0, none⟩ = some (.int .i64 10) := (cell_two hW).1
    have g1 : W4.drew.cell? ⟨b7, 1, none⟩ = some (.int .i64 d) := (cell_two hW).2
    refine bodyPost_ret (v := .tuple #[.bool false, fv 10 d]) ?_ rfl ⟨rfl, ask_below HH.out ?_⟩
    · simp [results, Try.results14, go_sem, g0, g1]
    · have hT5 : Turns (fun k => k = b7) W3 W4.drew := hT4.trans (Turns.of_below (Below.refl _ _).drew _)
      exact Turns.below HBW.out hT5 HBW.out.size (fun k e => by rw [e, HB7.out]; exact Nat.le_refl _)
set_option maxHeartbeats 4000000 in
theorem joined_ok {w : World} {p : Hp} {L : List ByteArray} {E : Ed} {K : List Ck} {n : Nat} (h : Hse w p L E K n) (hL : L.length ≤ 100) (hE : EdOk L.length E) {a b : ByteArray} {u v : Nat} (hu : u < L.length) (hv : v < L.length)
    (hp : Calls Try.prog 30 #[ptr p.b, .string a, .string b] (w.alloc (Obj.cells #[.int .i64 0, .int .i64 0] 31)) fun e w' => e = .returned (.tuple #[.agg #[.int .i64 (u : Int), .int .i64 (v : Int)], fz]) ∧ Below (w.alloc (Obj.cells #[.int .i64 0, .int .i64 0] 31)).heap.size (w.alloc (Obj.cells #[.int .i64 0, .int .i64 0] 31)) w') :
    Calls Try.prog 14 #[ptr p.b, .string a, .string b] w fun e w' => ∃ r, e = .returned (.tuple #[.bool r, fz]) ∧ (r = true ↔ Star (St2 L.length E) u v) ∧ AskQ w w' p L E K n := by
  have CP := hid hp
  have HH : Hid (Hse w p L E K n ∧ L.length ≤ 100 ∧ EdOk L.length E ∧ u < L.length ∧ v < L.length) := ⟨h, hL, hE, hu, hv⟩
  clear h hp hL hE hu hv
  go_enter Try.func14, Try.ntmps14
  go_upto_region 4 with (first | (go_at_call 30; refine Calls.mono CP.out ?_; rintro e w2 ⟨rfl, hB⟩) | go_in)
  have hB0 := below_alloc (Below.refl _ w) (Obj.cells #[.int .i64 0, .int .i64 0] 31)
  have hBW : Below w.heap.size w ((w2.alloc (Obj.cells #[.int .i64 (u : Int), .int .i64 (v : Int)] 59)).alloc (Obj.cells #[.int .i64 0, .int .i64 0] 31)) := below_next hB0 (below_next hB (below2 _ _))
  have t7 : Two ((w2.alloc (Obj.cells #[.int .i64 (u : Int), .int .i64 (v : Int)] 59)).alloc (Obj.cells #[.int .i64 0, .int .i64 0] 31)) w.heap.size (.int .i64 0) (.int .i64 0) 31 := two_next (two_new w (.int .i64 0) (.int .i64 0) 31) (below_next hB (below2 _ _))
  have t8 : Two ((w2.alloc (Obj.cells #[.int .i64 (u : Int), .int .i64 (v : Int)] 59)).alloc (Obj.cells #[.int .i64 0, .int .i64 0] 31)) w2.heap.size (.int .i64 (u : Int)) (.int .i64 (v : Int)) 59 := two_alloc (two_new w2 _ _ 59) _
  have HH3 := hid (HH.out.1.below hBW)
  have HBW := hid hBW
  clear CP hB hB0 hBW
  obtain ⟨b7, hb7⟩ : ∃ b, b = w.heap.size := ⟨_, rfl⟩
  rw [← hb7] at t7 ⊢
  have HB7 := hid hb7
  clear hb7
  generalize w2.heap.size + 1 = b9 at *
  generalize w2.heap.size = b8 at *
  generalize (w2.alloc (Obj.cells #[.int .i64 (u : Int), .int .i64 (v : Int)] 59)).alloc (Obj.cells #[.int .i64 0, .int .i64 0] 31) = W3 at *
  have T7 := hid t7
  have T8 := hid t8
  have CT := hid (together_call HH3.out HH.out.2.1 HH.out.2.2.1)
  clear t7 t8
  go_upto_region 5 with (first | (go_at_call 40; refine Calls.mono CT.out ?_; rintro e w4 ⟨rfl, pv, hs, hk, hT, hm⟩; obtain ⟨lab, c, hf, c3, c4, hla⟩ := hk.fnd; simp only at c3 c4 hla) | go_in)
  have hASK := ask_mk (Known.hse hs hk) hT hm
  have t7 := two_turns T7.out hT (HH3.out.off T7.out (by simp [OwnT]))
  have t8 := two_turns T8.out hT (HH3.out.off T8.out (by simp [OwnT]))
  rcases hla with ⟨h0, _⟩ | ⟨g, cap, rfl, hrow⟩
  · have := HH.out.2.2.2.1; omega
  have q0 := hrow.cell HH.out.2.2.2.1
  have q1 := hrow.cell HH.out.2.2.2.2
  have HF : Hid (Fnd L.length E lab c) := hf
  have HR : Hid ((lab.getD u 0 = lab.getD v 0) ↔ Star (St2 L.length E) u v) := hf.same u v HH.out.2.2.2.1 HH.out.2.2.2.2
  have i1 : (0 : Int) ≤ (u : Int) := by omega
  have i2 : (u : Int) < (L.length : Int) := by have := HH.out.2.2.2.1; omega
  have i3 : (0 : Int) ≤ (v : Int) := by omega
  have i4 : (v : Int) < (L.length : Int) := by have := HH.out.2.2.2.2; omega
  obtain ⟨lu, hlu⟩ : ∃ x, lab.getD u 0 = x := ⟨_, rfl⟩
  obtain ⟨lv, hlv⟩ : ∃ x, lab.getD v 0 = x := ⟨_, rfl⟩
  rw [hlu, hlv] at HR
  rw [hlu] at q0
  rw [hlv] at q1
  have HAS := hid hASK
  have T7' := hid t7
  have HFA : Hid (∀ q : Hp, Hse w4 q L E K n → ¬ q.mine b7) := fun q hq => hq.off T7'.out (by simp [OwnT])
  obtain ⟨o0, o1⟩ := cell_two t8
  clear hs hk hT hm hf c3 c4 hrow hlu hlv hASK t8 CT
  obtain ⟨c0, c1⟩ := cell_two t7
  have f0 := free_two t7 0
  have f1 := free_two t7 1
  clear t7
  go_region
  all_goals
    go_wp2
    have hW := two_setN (x' := .int .i64 0) (y' := .int .i64 0) T7'.out
    have hT4 := (setCell_turns w4 b7 0 (.int .i64 0)).trans (setCell_turns _ b7 1 (.int .i64 0))
    generalize (w4.setCell ⟨b7, 0, none⟩ (.int .i64 0)).setCell ⟨b7, 1, none⟩ (.int .i64 0) = W6 at hW hT4 ⊢
    have g0 : W6.drew.cell? ⟨b7, 0, none⟩ = some (.int .i64 0) := (cell_two hW).1
    have g1 : W6.drew.cell? ⟨b7, 1, none⟩ = some (.int .i64 0) := (cell_two hW).2
    refine bodyPost_ret (v := .tuple #[.bool ((lu : Int) == (lv : Int)), fz]) ?_ rfl ⟨_, rfl, ?_, ?_⟩
    · simp [results, Try.results14, go_sem, g0, g1]
    · rw [← HR.out]; simp; omega
    · have hA : AskQ w w4 p L E K n := HAS.out.next HBW.out
      refine hA.after (b := b7) (hT4.trans (Turns.of_below (Below.refl _ _).drew _)) ?_ (by rw [HB7.out]; exact Nat.le_refl _) (fun q hq _ => HFA.out q hq) (fun cs t hc => ?_)
      · intro hm
        have := HH.out.1.lt hm
        rw [HB7.out] at this
        omega
      · have h2 : w4.heap[b7]? = some (.cells #[.int .i64 0, .int .i64 0] 31 (0, 0)) := T7'.out
        rw [hc] at h2
        cases h2
        decide
end Go.Proofs.Ytfdlndljpmamgaa
