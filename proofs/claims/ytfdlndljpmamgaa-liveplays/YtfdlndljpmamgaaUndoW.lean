/- Undo of a house. -/
import Derived.Test.YtfdlndljpmamgaaEdgeW
namespace Go.Proofs.Ytfdlndljpmamgaa
set_option maxRecDepth 8000
open Go.RowKit Go.Maps
attribute [local go_sem ↓] Go.wp_at_zero Go.wp_at_succ
theorem leave_hs {w w' : World} {p : Hp} {L : List ByteArray} {E : Ed} {K : List Ck} {n : Nat} {s : ByteArray} (h : Hs w p (L ++ [s]) E K n) (hs : ¬ s ∈ L) {nv' : Value} (h1 : w'.ownsRow 0 9 1 nv' L.length (sv L)) (h2 : NumM w' p.nm n (updN (nmOf (L ++ [s])) s none)) (h3 : Box w' p.b (hcells { p with nv := nv' }) 81)
    (h4 : Turns (fun k => k = p.nm ∨ k = p.b) w w') : Hs w' { p with nv := nv' } L E K n := by
  obtain ⟨a1, a2⟩ := h.apart
  have hty := fun x hx => h.types (x := x) hx
  obtain ⟨b1, b2, b3, b4⟩ := h.bOff
  obtain ⟨g1, g2, g3, g4, g5, ks, g6, g7⟩ := h
  refine ⟨h3, h1, h2.congr (nmOf_pop hs), g4.block (h4.block _ g4.lt (fun e => ?_)), g5, ks, row_turns g6 h4 (fun x hx e => ?_), fun i c hc => ?_⟩
  · rcases e with e | e
    · exact g5 e.symm
    · exact b2 e.symm
  · rcases e with e | e
    · exact (a1 x hx).1 e
    · exact (a1 x hx).2.2.1 e
  · obtain ⟨v, hv, hcl⟩ := g7 i c hc
    refine ⟨v, hv, hcl.turns h4 (fun x hx => hty x ?_)⟩
    rcases hx with e | e
    · exact Or.inr (Or.inl e)
    · exact Or.inl e
theorem undo_hyp_node {w : World} {p : Hp} {L : List ByteArray} {E : Ed} {K : List Ck} {n : Nat} {s : ByteArray} (h : Hs w p (L ++ [s]) E (K ++ [none]) n) (hs : ¬ s ∈ L) (hsz : s.size ≤ maxLen) (hL : L.length ≤ 1000) :
    ∀ v, ClosAt w p.b none v → ∃ G fs cs, v = .func (.func G) fs cs ∧ (∀ args w, (callFunc G args).run Try.prog w = .ok (.enter G args) w) ∧
      Calls Try.prog G (fs ++ cs) w fun e w1 => e = .returned (.tuple #[]) ∧ ∃ p1 : Hp, p1.b = p.b ∧ p1.kv = p.kv ∧ Hs w1 p1 L E (K ++ [none]) n ∧ Turns p.mine w w1 ∧ (∀ x, p1.mine x → p.mine x ∨ w.heap.size ≤ x) := by
  intro v hv
  refine ⟨27, #[ptr p.b], #[], hv, enters_of Try.func27 (by kernel_rfl) rfl, ?_⟩
  have hn := h.names
  have hn' : w.ownsRow 0 9 1 p.nv (L.length + 1) (sv L ++ [.string s]) := by simpa [sv] using hn
  refine Calls.mono (leave_call h.box h.nums hn' hsz hL) ?_
  rintro e w1 ⟨rfl, nv', h1, h2, h3, h4, h5⟩
  refine ⟨rfl, { p with nv := nv' }, rfl, rfl, leave_hs h hs h1 h2 h3 h4, h4.mono fun k _ e => ?_, fun x hx => Or.inl ?_⟩
  · rcases e with e | e
    · exact Or.inr (Or.inl e)
    · exact Or.inl e
  · rcases hx with e | e | e | e | e | e | e
    · exact Or.inl e
    · exact Or.inr (Or.inl e)
    · exact Or.inr (Or.inr (Or.inl e))
    · exact Or.inr (Or.inr (Or.inr (Or.inl e)))
    · exact Or.inr (Or.inr (Or.inr (Or.inr (Or.inl (by rw [← h5]; exact e)))))
    · exact Or.inr (Or.inr (Or.inr (Or.inr (Or.inr (Or.inl e)))))
    · exact Or.inr (Or.inr (Or.inr (Or.inr (Or.inr (Or.inr e)))))
theorem undo_hyp_edge {w : World} {p : Hp} {L : List ByteArray} {E : Ed} {K : List Ck} {n u v : Nat} (h : Hs w p L E (K ++ [some (true, u, v)]) n) (hu : u < 1000) (hv : v < 1000) :
    ∀ c, ClosAt w p.b (some (true, u, v)) c → ∃ G fs cs, c = .func (.func G) fs cs ∧ (∀ args w, (callFunc G args).run Try.prog w = .ok (.enter G args) w) ∧
      Calls Try.prog G (fs ++ cs) w fun e w1 => e = .returned (.tuple #[]) ∧ ∃ p1 : Hp, p1.b = p.b ∧ p1.kv = p.kv ∧ Hs w1 p1 L (updE E u v false) (K ++ [some (true, u, v)]) n ∧ Turns p.mine w w1 ∧ (∀ x, p1.mine x → p.mine x ∨ w.heap.size ≤ x) := by
  rintro c ⟨hb, eb, hc, h1, h2⟩
  refine ⟨34, #[], #[ptr hb, ptr eb], hc, enters_of Try.func34 (by kernel_rfl) rfl, ?_⟩
  refine Calls.mono (takeA_call h hu hv h1 h2) ?_
  rintro e w1 ⟨rfl, q1, _, _, q2⟩
  exact ⟨rfl, p, rfl, rfl, q1, q2.mono (fun k _ e => by have e : k = p.em := e; subst e; exact Or.inr (Or.inr (Or.inl rfl))), fun x hx => Or.inl hx⟩
theorem undo_hyp_cut {w : World} {p : Hp} {L : List ByteArray} {E : Ed} {K : List Ck} {n u v : Nat} (h : Hs w p L E (K ++ [some (false, u, v)]) n) (hu : u < 1000) (hv : v < 1000) (hn : n < 1000000000) :
    ∀ c, ClosAt w p.b (some (false, u, v)) c → ∃ G fs cs, c = .func (.func G) fs cs ∧ (∀ args w, (callFunc G args).run Try.prog w = .ok (.enter G args) w) ∧
      Calls Try.prog G (fs ++ cs) w fun e w1 => e = .returned (.tuple #[]) ∧ ∃ p1 : Hp, p1.b = p.b ∧ p1.kv = p.kv ∧ Hs w1 p1 L (updE E u v true) (K ++ [some (false, u, v)]) (n + 1) ∧ Turns p.mine w w1 ∧ (∀ x, p1.mine x → p.mine x ∨ w.heap.size ≤ x) := by
  rintro c ⟨hb, eb, hc, h1, h2⟩
  refine ⟨37, #[], #[ptr hb, ptr eb], hc, enters_of Try.func37 (by kernel_rfl) rfl, ?_⟩
  refine Calls.mono (putB_call h hu hv hn h1 h2) ?_
  rintro e w1 ⟨rfl, q1, _, _, q2⟩
  exact ⟨rfl, p, rfl, rfl, q1, q2.mono (fun k _ e => by have e : k = p.em := e; subst e; exact Or.inr (Or.inr (Or.inl rfl))), fun x hx => Or.inl hx⟩
set_option maxHeartbeats 2000000 in
theorem undo_none {w : World} {p : Hp} {L : List ByteArray} {E : Ed} {n : Nat} (h : Hse w p L E [] n) :
    Calls Try.prog 10 #[ptr p.b] w fun e w' => e = .returned (fv 11 0) ∧ ChgQ w w' p L E [] n := by
  have HH := hid h
  obtain ⟨hs, _⟩ := h
  obtain ⟨hbox, _, _, _, _, kl, hk, _⟩ := hs
  obtain ⟨ao, cap, hkv⟩ := form_own hk
  have c3 : ∀ o, (w.alloc o).cell? ⟨p.b, 3, none⟩ = some (.slice ao 0 cap) := fun o => by
    have := (hbox_cells (one_alloc hbox o)).2.2.2.1
    rwa [hkv] at this
  have z1 : (((0 : Nat) : Int) == 0) = true := by simp
  clear hbox hk hkv
  go_enter Try.func10, Try.ntmps10
  go_wp2
  exact bodyPost_ret (v := fv 11 0) (by simp [results, Try.results10, go_sem]) rfl ⟨rfl, chg_same HH.out (below_alloc (Below.refl _ w) _)⟩
set_option maxHeartbeats 2000000 in
theorem undo_call {w : World} {p : Hp} {L L' : List ByteArray} {E E' : Ed} {K : List Ck} {c : Ck} {n n' : Nat} (h : Hse w p L E (K ++ [c]) n) (hK : K.length ≤ 1000)
    (hdo : ∀ W, Hse W p L E (K ++ [c]) n → ∀ v, ClosAt W p.b c v → ∃ G fs cs, v = .func (.func G) fs cs ∧ (∀ args w, (callFunc G args).run Try.prog w = .ok (.enter G args) w) ∧
      Calls Try.prog G (fs ++ cs) W fun e w1 => e = .returned (.tuple #[]) ∧ ∃ p1 : Hp, p1.b = p.b ∧ p1.kv = p.kv ∧ Hs w1 p1 L' E' (K ++ [c]) n' ∧ Turns p.mine W w1 ∧ (∀ x, p1.mine x → p.mine x ∨ W.heap.size ≤ x)) :
    Calls Try.prog 10 #[ptr p.b] w fun e w' => e = .returned (fv 0 0) ∧ ChgQ w w' p L' E' K n' := by
  have HH := hid h
  have hB := below_alloc (Below.refl _ w) (Obj.cells #[.int .i64 0, .int .i64 0] 31)
  have h1 := h.below hB
  have CT := hid (takeBack_call h1.1 hK (hdo _ h1))
  obtain ⟨hbox, _, _, _, _, kl, hk, _⟩ := h.1
  obtain ⟨ao, cap, hkv⟩ := form_own hk
  have c3 : ∀ o, (w.alloc o).cell? ⟨p.b, 3, none⟩ = some (.slice ao (K.length + 1) cap) := fun o => by
    have := (hbox_cells (one_alloc hbox o)).2.2.2.1
    rw [hkv] at this
    simpa using this
  have t2 := two_new w (.int .i64 0) (.int .i64 0) 31
  have HN : Hid (¬ p.mine w.heap.size) := h1.off t2 (by simp [OwnT])
  have HT := hid t2
  have HB := hid hB
  have z1 : (((K.length : Int) + 1) == 0) = false := by simp; omega
  have z2 : ¬ ((K.length : Int) + 1) = 0 := by omega
  clear h h1 hdo hbox hk hkv t2 hB
  go_enter Try.func10, Try.ntmps10
  go_wp2_with (first | (go_at_call 38; refine Calls.mono CT.out ?_; rintro e w2 ⟨rfl, p2, q1, q2, q3, q4⟩; have t2 := two_turns HT.out q3 HN.out; have f0 := free_two t2 0; have f1 := free_two t2 1; obtain ⟨d0, d1⟩ := cell_two t2) | go_in)
  have hW := two_setN (x' := .int .i64 0) (y' := .int .i64 0) t2
  have hQ := chg_end (ChgQ.next HB.out ⟨p2, q1, q2, q3, q4⟩) t2 (Nat.le_refl _) 0 0
  generalize (w2.setCell ⟨w.heap.size, 0, none⟩ (.int .i64 0)).setCell ⟨w.heap.size, 1, none⟩ (.int .i64 0) = W6 at hW hQ ⊢
  obtain ⟨g0, g1⟩ := cell_two hW
  exact bodyPost_ret (v := fv 0 0) (by simp [results, Try.results10, go_sem, g0, g1]) rfl ⟨rfl, hQ⟩
end Go.Proofs.Ytfdlndljpmamgaa
