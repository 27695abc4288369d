/- Tutte's table: powers of x - 1, nodes that stand for their components, all sets of edges. -/
namespace Go.Proofs.Ytmeodnkmhakidaa
/-- The coefficients of (x - 1)^p. -/
def co : Nat → Nat → Int
  | 0, 0 => 1
  | 0, _ + 1 => 0
  | p + 1, 0 => - co p 0
  | p + 1, i + 1 => co p i - co p (i + 1)
theorem co_out : ∀ {p i : Nat}, p < i → co p i = 0
  | 0, 0, h => by omega
  | 0, _ + 1, _ => rfl
  | p + 1, 0, h => by omega
  | p + 1, i + 1, h => by rw [co, co_out (show p < i by omega), co_out (show p < i + 1 by omega)]; rfl
theorem co_top : ∀ p : Nat, co p p = 1
  | 0 => rfl
  | p + 1 => by rw [co, co_top p, co_out (Nat.lt_succ_self p)]; rfl
theorem co_bd : ∀ (p i : Nat), -(2 ^ p : Int) ≤ co p i ∧ co p i ≤ 2 ^ p
  | 0, 0 => by decide
  | 0, i + 1 => by simp [co]
  | p + 1, 0 => by have h1 := co_bd p 0; rw [co, Int.pow_succ]; omega
  | p + 1, i + 1 => by have h1 := co_bd p i; have h2 := co_bd p (i + 1); rw [co, Int.pow_succ]; omega
def sm : Nat → (Nat → Int) → Int
  | 0, _ => 0
  | n + 1, f => sm n f + f n
theorem sm_succ (n : Nat) (f : Nat → Int) : sm (n + 1) f = sm n f + f n := rfl
theorem sm_congr {f g : Nat → Int} : ∀ n, (∀ i, i < n → f i = g i) → sm n f = sm n g
  | 0, _ => rfl
  | n + 1, h => by rw [sm, sm, sm_congr n (fun i hi => h i (by omega)), h n (by omega)]
theorem sm_add (f g : Nat → Int) : ∀ n, sm n (fun i => f i + g i) = sm n f + sm n g
  | 0 => rfl
  | n + 1 => by rw [sm, sm, sm, sm_add f g n]; omega
theorem sm_mul (c : Int) (f : Nat → Int) : ∀ n, sm n (fun i => c * f i) = c * sm n f
  | 0 => by simp [sm]
  | n + 1 => by rw [sm, sm, sm_mul c f n, Int.mul_add]
theorem sm_zero : ∀ n, sm n (fun _ => 0) = 0
  | 0 => rfl
  | n + 1 => by rw [sm, sm_zero n]; rfl
theorem co_two_step (p : Nat) : ∀ n, sm (n + 1) (fun i => co (p + 1) i * 2 ^ i) = 2 * sm n (fun i => co p i * 2 ^ i) - sm (n + 1) (fun i => co p i * 2 ^ i)
  | 0 => by simp [sm, co]
  | n + 1 => by
    rw [sm_succ, co_two_step p n, sm_succ (n + 1) (fun i => co p i * 2 ^ i), sm_succ n (fun i => co p i * 2 ^ i), co]
    rw [Int.sub_mul, Int.pow_succ]
    have e : co p n * (2 ^ n * 2) = 2 * (co p n * 2 ^ n) := by rw [← Int.mul_assoc, Int.mul_comm]
    rw [e]
    omega
theorem co_two : ∀ (p n : Nat), p < n → sm n (fun i => co p i * 2 ^ i) = 1
  | 0, n, h => by
    obtain ⟨n, rfl⟩ : ∃ k, n = k + 1 := ⟨n - 1, by omega⟩
    clear h
    induction n with
    | zero => rfl
    | succ n ih => rw [sm, ih]; simp [co]
  | p + 1, n, h => by
    obtain ⟨n, rfl⟩ : ∃ k, n = k + 1 := ⟨n - 1, by omega⟩
    rw [co_two_step, co_two p n (by omega), co_two p (n + 1) (by omega)]
    rfl
/-- From v on, at most k times, to a node that is its own up. -/
def topF : Nat → (Nat → Nat) → Nat → Nat
  | 0, _, v => v
  | k + 1, up, v => if up v = v then v else topF k up (up v)
def updN (up : Nat → Nat) (a b : Nat) : Nat → Nat := fun v => if v = a then b else up v
/-- k times are enough. -/
structure Rt (N : Nat) (up : Nat → Nat) (k : Nat) : Prop where
  lt : ∀ v, v < N → up v < N
  top : ∀ v, v < N → up (topF k up v) = topF k up v
theorem topF_lt {N : Nat} {up : Nat → Nat} (h : ∀ v, v < N → up v < N) : ∀ k v, v < N → topF k up v < N
  | 0, v, hv => hv
  | k + 1, v, hv => by unfold topF; split; exact hv; exact topF_lt h k _ (h v hv)
theorem topF_more {up : Nat → Nat} : ∀ {k v : Nat}, up (topF k up v) = topF k up v → topF (k + 1) up v = topF k up v
  | 0, v, h => by
    have h' : up v = v := h
    show (if up v = v then v else topF 0 up (up v)) = v
    rw [if_pos h']
  | k + 1, v, h => by
    have e : topF (k + 1) up v = if up v = v then v else topF k up (up v) := rfl
    have e2 : topF (k + 1 + 1) up v = if up v = v then v else topF (k + 1) up (up v) := rfl
    rw [e] at h
    rw [e, e2]
    split
    · rfl
    · next hv =>
      rw [if_neg hv] at h
      exact topF_more h
theorem topF_root {up : Nat → Nat} {v : Nat} (h : up v = v) : ∀ k, topF k up v = v
  | 0 => rfl
  | k + 1 => by unfold topF; rw [if_pos h]
theorem Rt.more {N k : Nat} {up : Nat → Nat} (h : Rt N up k) : Rt N up (k + 1) := ⟨h.lt, fun v hv => by rw [topF_more (h.top v hv)]; exact h.top v hv⟩
theorem topF_upd {up : Nat → Nat} {a b : Nat} (ha : up a = a) (hb : up b = b) (hab : a ≠ b) : ∀ {k v : Nat}, up (topF k up v) = topF k up v → topF (k + 1) (updN up a b) v = if topF k up v = a then b else topF k up v
  | 0, v, h => by
    have h' : up v = v := h
    show (if updN up a b v = v then v else updN up a b v) = if v = a then b else v
    unfold updN
    by_cases hv : v = a
    · subst hv
      rw [if_pos rfl, if_pos rfl]
      split
      · next e => exact e.symm
      · rfl
    · rw [if_neg hv, h', if_pos rfl]
      rw [if_neg hv]
  | k + 1, v, h => by
    have e : topF (k + 1) up v = if up v = v then v else topF k up (up v) := rfl
    have e2 : topF (k + 1 + 1) (updN up a b) v = if updN up a b v = v then v else topF (k + 1) (updN up a b) (updN up a b v) := rfl
    rw [e] at h
    rw [e, e2]
    by_cases hv : up v = v
    · rw [if_pos hv]
      by_cases hva : v = a
      · subst hva
        have u1 : updN up v b v = b := by simp [updN]
        have u2 : updN up v b b = b := by simp [updN, hb]
        rw [u1, if_neg (fun e => hab e.symm), if_pos rfl, topF_root u2]
      · have u1 : updN up a b v = v := by simp [updN, hva, hv]
        rw [u1, if_pos rfl, if_neg hva]
    · rw [if_neg hv] at h ⊢
      have hva : v ≠ a := fun e => hv (by rw [e]; exact ha)
      have u1 : updN up a b v = up v := by simp [updN, hva]
      rw [u1, if_neg hv]
      exact topF_upd ha hb hab h
theorem Rt.upd {N k a b : Nat} {up : Nat → Nat} (h : Rt N up k) (hbN : b < N) (ha : up a = a) (hb : up b = b) (hab : a ≠ b) : Rt N (updN up a b) (k + 1) := by
  refine ⟨fun v hv => ?_, fun v hv => ?_⟩
  · unfold updN; split; exact hbN; exact h.lt v hv
  · rw [topF_upd ha hb hab (h.top v hv)]
    split
    · unfold updN; rw [if_neg (fun e => hab e.symm)]; exact hb
    · next hne => unfold updN; rw [if_neg hne]; exact h.top v hv
abbrev E2 := Nat × Nat
/-- Two nodes hang together by these edges. -/
inductive Cn (A : List E2) : Nat → Nat → Prop
  | refl (u : Nat) : Cn A u u
  | step {u v x : Nat} : Cn A u v → ((v, x) ∈ A ∨ (x, v) ∈ A) → Cn A u x
theorem Cn.trans {A : List E2} {u v x : Nat} (h : Cn A u v) (h2 : Cn A v x) : Cn A u x := by
  induction h2 with
  | refl => exact h
  | step _ he ih => exact ih.step he
theorem Cn.symm {A : List E2} {u v : Nat} (h : Cn A u v) : Cn A v u := by
  induction h with
  | refl => exact .refl _
  | step _ he ih => exact ((Cn.refl _).step (he.symm)).trans ih
theorem Cn.mono {A B : List E2} (hAB : ∀ e ∈ A, e ∈ B) {u v : Nat} (h : Cn A u v) : Cn B u v := by
  induction h with
  | refl => exact .refl _
  | step _ he ih => exact ih.step (he.imp (hAB _) (hAB _))
/-- What up tells of the edges A. -/
def Tl (N : Nat) (up : Nat → Nat) (k : Nat) (A : List E2) : Prop := ∀ u v, u < N → v < N → (topF k up u = topF k up v ↔ Cn A u v)
theorem Cn.lt {A : List E2} {N : Nat} (hA : ∀ e ∈ A, e.1 < N ∧ e.2 < N) {u v : Nat} (h : Cn A u v) (hu : u < N) : v < N := by
  induction h with
  | refl => exact hu
  | step _ he _ => rcases he with he | he <;> have := hA _ he <;> simp only at this <;> omega
theorem Tl.same {N k : Nat} {up : Nat → Nat} {A : List E2} (hA : ∀ e ∈ A, e.1 < N ∧ e.2 < N) (hR : Rt N up k) (h : Tl N up k A) {x y : Nat} (hx : x < N) (hy : y < N) (he : topF k up x = topF k up y) : Tl N up (k + 1) (A ++ [(x, y)]) := fun u v hu hv => by
  rw [topF_more (hR.top u hu), topF_more (hR.top v hv), h u v hu hv]
  have hxy : Cn A x y := (h x y hx hy).1 he
  refine ⟨fun h => h.mono (fun e he => by simp [he]), fun h => ?_⟩
  induction h with
  | refl => exact .refl _
  | @step b c hab hbc ih =>
    have hB : ∀ e ∈ A ++ [(x, y)], e.1 < N ∧ e.2 < N := fun e he => by
      rcases List.mem_append.1 he with h1 | h1
      · exact hA e h1
      · simp at h1; subst h1; exact ⟨hx, hy⟩
    have hb := hab.lt hB hu
    have := ih hb
    rcases hbc with h1 | h1
    · rcases List.mem_append.1 h1 with h2 | h2
      · exact this.step (Or.inl h2)
      · simp at h2; obtain ⟨rfl, rfl⟩ := h2; exact this.trans hxy
    · rcases List.mem_append.1 h1 with h2 | h2
      · exact this.step (Or.inr h2)
      · simp at h2; obtain ⟨rfl, rfl⟩ := h2; exact this.trans hxy.symm
theorem Tl.upd {N k : Nat} {up : Nat → Nat} {A : List E2} (hA : ∀ e ∈ A, e.1 < N ∧ e.2 < N) (hR : Rt N up k) (h : Tl N up k A) {x y : Nat} (hx : x < N) (hy : y < N) (he : topF k up x ≠ topF k up y) : Tl N (updN up (topF k up x) (topF k up y)) (k + 1) (A ++ [(x, y)]) := fun u v hu hv => by
  have t := fun v hv => topF_upd (hR.top x hx) (hR.top y hy) he (hR.top v hv)
  rw [t u hu, t v hv]
  have c1 : ∀ u v, Cn A u v → Cn (A ++ [(x, y)]) u v := fun u v h => h.mono (fun e he => by simp [he])
  have cxy : Cn (A ++ [(x, y)]) x y := (Cn.refl x).step (Or.inl (by simp))
  have hB : ∀ e ∈ A ++ [(x, y)], e.1 < N ∧ e.2 < N := fun e he => by
    rcases List.mem_append.1 he with h1 | h1
    · exact hA e h1
    · simp at h1; subst h1; exact ⟨hx, hy⟩
  constructor
  · intro hh
    by_cases h1 : topF k up u = topF k up x
    · have k1 := c1 _ _ ((h u x hu hx).1 h1)
      rw [if_pos h1] at hh
      by_cases h2 : topF k up v = topF k up x
      · exact k1.trans (c1 _ _ ((h v x hv hx).1 h2)).symm
      · rw [if_neg h2] at hh
        exact (k1.trans cxy).trans (c1 _ _ ((h y v hy hv).1 hh))
    · rw [if_neg h1] at hh
      by_cases h2 : topF k up v = topF k up x
      · rw [if_pos h2] at hh
        exact ((c1 _ _ ((h u y hu hy).1 hh)).trans cxy.symm).trans (c1 _ _ ((h v x hv hx).1 h2)).symm
      · rw [if_neg h2] at hh
        exact c1 _ _ ((h u v hu hv).1 hh)
  · intro hh
    induction hh with
    | refl => rfl
    | @step b c hab hbc ih =>
      have hb := hab.lt hB hu
      rw [ih hb]
      have key : ∀ p q, p < N → q < N → (p, q) ∈ A ++ [(x, y)] → (if topF k up p = topF k up x then topF k up y else topF k up p) = if topF k up q = topF k up x then topF k up y else topF k up q := fun p q hp hq hm => by
        rcases List.mem_append.1 hm with h2 | h2
        · rw [(h p q hp hq).2 ((Cn.refl p).step (Or.inl h2))]
        · simp at h2
          obtain ⟨rfl, rfl⟩ := h2
          rw [if_pos rfl]
          split <;> rfl
      rcases hbc with h1 | h1
      · exact key _ _ hb hv h1
      · exact (key _ _ hv hb h1).symm
end Go.Proofs.Ytmeodnkmhakidaa
