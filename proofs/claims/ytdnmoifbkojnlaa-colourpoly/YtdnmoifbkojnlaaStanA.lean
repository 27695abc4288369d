/- Stanley, the one half: in how many ways edges can be given a direction without a ring, by taking an edge away and by making its two nodes one. -/
import Derived.Test.YtdnmoifbkojnlaaBirk
namespace Go.Proofs.Ytdnmoifbkojnlaa

abbrev NP := Nat × Nat
/-- A way of arcs. -/
inductive Rc (A : List NP) : Nat → Nat → Prop
  | refl (a : Nat) : Rc A a a
  | step {a b c : Nat} : Rc A a b → (b, c) ∈ A → Rc A a c
theorem Rc.trans {A : List NP} {a b c : Nat} (h : Rc A a b) (h2 : Rc A b c) : Rc A a c := by
  induction h2 with
  | refl => exact h
  | step _ hm ih => exact ih.step hm
theorem Rc.one {A : List NP} {a b : Nat} (h : (a, b) ∈ A) : Rc A a b := (Rc.refl a).step h
theorem Rc.mono {A B : List NP} (hs : ∀ e ∈ A, e ∈ B) {a b : Nat} (h : Rc A a b) : Rc B a b := by
  induction h with
  | refl => exact .refl _
  | step _ hm ih => exact ih.step (hs _ hm)
theorem Rc.first {A : List NP} {a b : Nat} (h : Rc A a b) (hne : a ≠ b) : ∃ z, (a, z) ∈ A ∧ Rc A z b := by
  induction h with
  | refl => exact absurd rfl hne
  | @step y z h1 hm ih =>
    by_cases e : a = y
    · subst e; exact ⟨z, hm, .refl _⟩
    · obtain ⟨x, hx, hr⟩ := ih e
      exact ⟨x, hx, hr.step hm⟩
/-- No ring of arcs. -/
def Ac (A : List NP) : Prop := ∀ e ∈ A, ¬ Rc A e.2 e.1
theorem rc_cons {A : List NP} {a b u v : Nat} (h : Rc ((a, b) :: A) u v) : Rc A u v ∨ (Rc A u a ∧ Rc A b v) := by
  induction h with
  | refl => exact Or.inl (.refl _)
  | @step y z _ hm ih =>
    rcases List.mem_cons.1 hm with e | hm
    · simp only [Prod.mk.injEq] at e
      obtain ⟨rfl, rfl⟩ := e
      rcases ih with ih | ih
      · exact Or.inr ⟨ih, .refl _⟩
      · exact Or.inr ⟨ih.1, .refl _⟩
    · rcases ih with ih | ih
      · exact Or.inl (ih.step hm)
      · exact Or.inr ⟨ih.1, ih.2.step hm⟩
theorem ac_cons {A : List NP} {a b : Nat} : Ac ((a, b) :: A) ↔ Ac A ∧ ¬ Rc A b a := by
  have up : ∀ e ∈ A, e ∈ (a, b) :: A := fun e he => List.mem_cons_of_mem _ he
  constructor
  · intro h
    exact ⟨fun e he hr => h e (up e he) (hr.mono up), fun hr => h (a, b) (by simp) (hr.mono up)⟩
  · rintro ⟨h1, h2⟩ e he hr
    rcases List.mem_cons.1 he with rfl | he
    · rcases rc_cons hr with h | h
      · exact h2 h
      · exact h2 h.1
    · rcases rc_cons hr with h | h
      · exact h1 e he h
      · exact h2 ((h.2.step (c := e.2) he).trans h.1)
/-- b is made a. -/
def mg (a b z : Nat) : Nat := if z = b then a else z
def mgp (a b : Nat) (e : NP) : NP := (mg a b e.1, mg a b e.2)
theorem rc_map {A : List NP} (f : Nat → Nat) {u v : Nat} (h : Rc A u v) : Rc (A.map fun e => (f e.1, f e.2)) (f u) (f v) := by
  induction h with
  | refl => exact .refl _
  | step _ hm ih => exact ih.step (List.mem_map.2 ⟨_, hm, rfl⟩)
/-- A way in the graph in which b is made a. -/
theorem rc_lift {A : List NP} {a b u v : Nat} (h : Rc (A.map (mgp a b)) u v) : Rc A u v ∨ ((Rc A u a ∨ Rc A u b) ∧ (Rc A a v ∨ Rc A b v)) := by
  induction h with
  | refl => exact Or.inl (.refl _)
  | @step y z _ hm ih =>
    obtain ⟨⟨p, q⟩, hpq, e⟩ := List.mem_map.1 hm
    simp only [mgp, Prod.mk.injEq] at e
    obtain ⟨e1, e2⟩ := e
    have hz : (q = b ∧ z = a) ∨ z = q := by
      unfold mg at e2
      by_cases hq : q = b
      · rw [if_pos hq] at e2; exact Or.inl ⟨hq, e2.symm⟩
      · rw [if_neg hq] at e2; exact Or.inr e2.symm
    by_cases hp : p = b
    · subst hp
      have hy : y = a := by unfold mg at e1; rw [if_pos rfl] at e1; exact e1.symm
      subst hy
      have hua : Rc A u y ∨ Rc A u p := by
        rcases ih with ih | ih
        · exact Or.inl ih
        · exact ih.1
      refine Or.inr ⟨hua, ?_⟩
      rcases hz with ⟨_, rfl⟩ | rfl
      · exact Or.inl (.refl _)
      · exact Or.inr (.one hpq)
    · have hy : y = p := by unfold mg at e1; rw [if_neg hp] at e1; exact e1.symm
      subst hy
      rcases hz with ⟨rfl, rfl⟩ | rfl
      · refine Or.inr ⟨?_, Or.inl (.refl _)⟩
        rcases ih with ih | ih
        · exact Or.inr (ih.step hpq)
        · exact ih.1
      · rcases ih with ih | ih
        · exact Or.inl (ih.step hpq)
        · exact Or.inr ⟨ih.1, ih.2.elim (fun h => Or.inl (h.step hpq)) (fun h => Or.inr (h.step hpq))⟩
theorem ac_map {A : List NP} {a b : Nat} (hne : a ≠ b) : Ac (A.map (mgp a b)) ↔ Ac A ∧ ¬ Rc A a b ∧ ¬ Rc A b a := by
  have ma : mg a b a = a := by unfold mg; rw [if_neg hne]
  have mb : mg a b b = a := by unfold mg; rw [if_pos rfl]
  have mp : ∀ {u v}, Rc A u v → Rc (A.map (mgp a b)) (mg a b u) (mg a b v) := fun h => rc_map (mg a b) h
  constructor
  · intro h
    refine ⟨fun e he hr => h (mgp a b e) (List.mem_map.2 ⟨e, he, rfl⟩) (mp hr), fun hr => ?_, fun hr => ?_⟩
    · obtain ⟨z, hz, hr⟩ := hr.first hne
      have := mp hr
      refine h (mgp a b (a, z)) (List.mem_map.2 ⟨_, hz, rfl⟩) ?_
      show Rc _ (mg a b z) (mg a b a)
      rw [ma]; rw [mb] at this; exact this
    · obtain ⟨z, hz, hr⟩ := hr.first (Ne.symm hne)
      have := mp hr
      refine h (mgp a b (b, z)) (List.mem_map.2 ⟨_, hz, rfl⟩) ?_
      show Rc _ (mg a b z) (mg a b b)
      rw [mb]; rw [ma] at this; exact this
  · rintro ⟨h1, h2, h3⟩ e he hr
    obtain ⟨⟨p, q⟩, hpq, rfl⟩ := List.mem_map.1 he
    simp only [mgp] at hr
    have cyc : ¬ Rc A q p := h1 (p, q) hpq
    have gq : ∀ {t}, Rc A (mg a b q) t → Rc A q t ∨ (q = b ∧ Rc A a t) := fun {t} h => by
      unfold mg at h
      by_cases hq : q = b
      · rw [if_pos hq] at h; exact Or.inr ⟨hq, h⟩
      · rw [if_neg hq] at h; exact Or.inl h
    have gp : ∀ {t}, Rc A t (mg a b p) → Rc A t p ∨ (p = b ∧ Rc A t a) := fun {t} h => by
      unfold mg at h
      by_cases hp : p = b
      · rw [if_pos hp] at h; exact Or.inr ⟨hp, h⟩
      · rw [if_neg hp] at h; exact Or.inl h
    have hq' : (Rc A (mg a b q) a ∨ Rc A (mg a b q) b) → (Rc A q a ∨ Rc A q b) := fun h => by
      rcases h with h | h
      · rcases gq h with h | ⟨rfl, _⟩
        · exact Or.inl h
        · exact Or.inr (.refl _)
      · rcases gq h with h | ⟨rfl, _⟩
        · exact Or.inr h
        · exact Or.inr (.refl _)
    have hp' : (Rc A a (mg a b p) ∨ Rc A b (mg a b p)) → (Rc A a p ∨ Rc A b p) := fun h => by
      rcases h with h | h
      · rcases gp h with h | ⟨rfl, _⟩
        · exact Or.inl h
        · exact Or.inr (.refl _)
      · rcases gp h with h | ⟨rfl, _⟩
        · exact Or.inr h
        · exact Or.inr (.refl _)
    have fin : (Rc A q a ∨ Rc A q b) → (Rc A a p ∨ Rc A b p) → False := fun h h' => by
      rcases h with h | h <;> rcases h' with h' | h'
      · exact cyc (h.trans h')
      · exact h3 ((h'.step hpq).trans h)
      · exact h2 ((h'.step hpq).trans h)
      · exact cyc (h.trans h')
    rcases rc_lift hr with h | ⟨h, h'⟩
    · rcases gq h with h | ⟨rfl, h⟩
      · rcases gp h with h | ⟨rfl, h4⟩
        · exact cyc h
        · exact h3 ((Rc.one hpq).trans h4)
      · rcases gp h with h | ⟨rfl, h⟩
        · exact h2 (h.step hpq)
        · exact cyc (.refl _)
    · exact fin (hq' h) (hp' h')
open Classical in
noncomputable def ind (P : Prop) : Int := if P then 1 else 0
theorem ind_pos {P : Prop} (h : P) : ind P = 1 := if_pos h
theorem ind_neg {P : Prop} (h : ¬ P) : ind P = 0 := if_neg h
theorem ac_four {A : List NP} {a b : Nat} (hne : a ≠ b) : ind (Ac ((a, b) :: A)) + ind (Ac ((b, a) :: A)) = ind (Ac A) + ind (Ac (A.map (mgp a b))) := by
  by_cases hA : Ac A
  · rw [ind_pos hA]
    by_cases h1 : Rc A a b
    · rw [ind_neg (P := Ac ((b, a) :: A)) (fun h => (ac_cons.1 h).2 h1), ind_neg (P := Ac (A.map (mgp a b))) (fun h => ((ac_map hne).1 h).2.1 h1)]
      have h2 : ¬ Rc A b a := fun h2 => by
        obtain ⟨z, hz, hr⟩ := h1.first hne
        exact hA _ hz (hr.trans h2)
      rw [ind_pos (ac_cons.2 ⟨hA, h2⟩)]
    · rw [ind_pos (P := Ac ((b, a) :: A)) (ac_cons.2 ⟨hA, h1⟩)]
      by_cases h2 : Rc A b a
      · rw [ind_neg (P := Ac ((a, b) :: A)) (fun h => (ac_cons.1 h).2 h2), ind_neg (P := Ac (A.map (mgp a b))) (fun h => ((ac_map hne).1 h).2.2 h2)]
        omega
      · rw [ind_pos (ac_cons.2 ⟨hA, h2⟩), ind_pos ((ac_map hne).2 ⟨hA, h1, h2⟩)]
  · rw [ind_neg hA, ind_neg (fun h => hA (ac_cons.1 h).1), ind_neg (fun h => hA (ac_cons.1 h).1), ind_neg (fun h => hA ((ac_map hne).1 h).1)]
/-- The arcs, by the bits of s. -/
def arcs : Nat → List NP → List NP
  | _, [] => []
  | s, e :: E => (if s % 2 = 1 then (e.2, e.1) else e) :: arcs (s / 2) E
theorem arcs_map (f : Nat → Nat) : ∀ (E : List NP) (s : Nat), arcs s (E.map fun e => (f e.1, f e.2)) = (arcs s E).map fun e => (f e.1, f e.2)
  | [], _ => rfl
  | e :: E, s => by
    show (if s % 2 = 1 then (f e.2, f e.1) else (f e.1, f e.2)) :: arcs (s / 2) (E.map fun e => (f e.1, f e.2)) = (f (if s % 2 = 1 then (e.2, e.1) else e).1, f (if s % 2 = 1 then (e.2, e.1) else e).2) :: (arcs (s / 2) E).map fun e => (f e.1, f e.2)
    rw [arcs_map f E]
    by_cases h : s % 2 = 1
    · simp only [if_pos h]
    · simp only [if_neg h]
/-- In how many ways. -/
noncomputable def acy (E : List NP) : Int := sm (fun s => ind (Ac (arcs s E))) (2 ^ E.length)
theorem sm_two (f : Nat → Int) : ∀ n, sm f (2 * n) = sm (fun t => f (2 * t) + f (2 * t + 1)) n
  | 0 => rfl
  | n + 1 => by
    show sm f (2 * n + 1 + 1) = _
    simp only [sm]
    rw [sm_two f n]
    omega
theorem acy_cons {E : List NP} {a b : Nat} (hne : a ≠ b) : acy ((a, b) :: E) = acy E + acy (E.map (mgp a b)) := by
  unfold acy
  rw [show 2 ^ ((a, b) :: E).length = 2 * 2 ^ E.length by simp [Nat.pow_succ, Nat.mul_comm], sm_two, List.length_map, ← sm_add]
  refine sm_congr fun t _ => ?_
  have e1 : arcs (2 * t) ((a, b) :: E) = (a, b) :: arcs t E := by
    show (if 2 * t % 2 = 1 then _ else _) :: arcs (2 * t / 2) E = _
    rw [if_neg (by omega), show 2 * t / 2 = t by omega]
  have e2 : arcs (2 * t + 1) ((a, b) :: E) = (b, a) :: arcs t E := by
    show (if (2 * t + 1) % 2 = 1 then _ else _) :: arcs ((2 * t + 1) / 2) E = _
    rw [if_pos (by omega), show (2 * t + 1) / 2 = t by omega]
  rw [e1, e2, ac_four hne]
  have : arcs t (E.map (mgp a b)) = (arcs t E).map (mgp a b) := arcs_map (mg a b) E t
  rw [this]
theorem acy_loop {E : List NP} {a : Nat} : acy ((a, a) :: E) = 0 := by
  unfold acy
  refine (sm_congr (g := fun _ => 0) fun s _ => ?_).trans (sm_zero _)
  refine ind_neg fun h => ?_
  refine h (a, a) ?_ (.refl _)
  show _ ∈ (if s % 2 = 1 then _ else _) :: _
  split <;> exact List.mem_cons_self
theorem acy_nil : acy [] = 1 := by
  unfold acy
  show sm _ 1 = 1
  simp only [sm]
  rw [ind_pos (P := Ac (arcs 0 [])) (fun e he => by cases he)]
  rfl
end Go.Proofs.Ytdnmoifbkojnlaa
