/- Tutte's table: powers of x - 1, nodes that stand for their components, all sets of edges. Tutte's table: how many components, all sets of edges, the table's last row and column. -/
namespace Go.Proofs.YtmeodnkmhakidaaDoor
/-- The coefficients of (x - 1)^p. -/
def co : Nat → Nat → Int
  | 0, 0 => 1
  | 0, _ + 1 => 0
  | p + 1, 0 => - co p 0
  | p + 1, i + 1 => co p i - co p (i + 1)
theorem co_out : ∀ {p i : Nat}, p < i → co p i = 0
  | 0, 0, h => by omega
  | 0, _ + 1, _ => rfl
  | p + 1, 0, h => by omega
  | p + 1, i + 1, h => by rw [co, co_out (show p < i by omega), co_out (show p < i + 1 by omega)]; rfl
theorem co_top : ∀ p : Nat, co p p = 1
  | 0 => rfl
  | p + 1 => by rw [co, co_top p, co_out (Nat.lt_succ_self p)]; rfl
theorem co_bd : ∀ (p i : Nat), -(2 ^ p : Int) ≤ co p i ∧ co p i ≤ 2 ^ p
  | 0, 0 => by decide
  | 0, i + 1 => by simp [co]
  | p + 1, 0 => by have h1 := co_bd p 0; rw [co, Int.pow_succ]; omega
  | p + 1, i + 1 => by have h1 := co_bd p i; have h2 := co_bd p (i + 1); rw [co, Int.pow_succ]; omega
def sm : Nat → (Nat → Int) → Int
  | 0, _ => 0
  | n + 1, f => sm n f + f n
theorem sm_succ (n : Nat) (f : Nat → Int) : sm (n + 1) f = sm n f + f n := rfl
theorem sm_congr {f g : Nat → Int} : ∀ n, (∀ i, i < n → f i = g i) → sm n f = sm n g
  | 0, _ => rfl
  | n + 1, h => by rw [sm, sm, sm_congr n (fun i hi => h i (by omega)), h n (by omega)]
theorem sm_add (f g : Nat → Int) : ∀ n, sm n (fun i => f i + g i) = sm n f + sm n g
  | 0 => rfl
  | n + 1 => by rw [sm, sm, sm, sm_add f g n]; omega
theorem sm_mul (c : Int) (f : Nat → Int) : ∀ n, sm n (fun i => c * f i) = c * sm n f
  | 0 => by simp [sm]
  | n + 1 => by rw [sm, sm, sm_mul c f n, Int.mul_add]
theorem sm_zero : ∀ n, sm n (fun _ => 0) = 0
  | 0 => rfl
  | n + 1 => by rw [sm, sm_zero n]; rfl
theorem co_two_step (p : Nat) : ∀ n, sm (n + 1) (fun i => co (p + 1) i * 2 ^ i) = 2 * sm n (fun i => co p i * 2 ^ i) - sm (n + 1) (fun i => co p i * 2 ^ i)
  | 0 => by simp [sm, co]
  | n + 1 => by
    rw [sm_succ, co_two_step p n, sm_succ (n + 1) (fun i => co p i * 2 ^ i), sm_succ n (fun i => co p i * 2 ^ i), co]
    rw [Int.sub_mul, Int.pow_succ]
    have e : co p n * (2 ^ n * 2) = 2 * (co p n * 2 ^ n) := by rw [← Int.mul_assoc, Int.mul_comm]
    rw [e]
    omega
theorem co_two : ∀ (p n : Nat), p < n → sm n (fun i => co p i * 2 ^ i) = 1
  | 0, n, h => by
    obtain ⟨n, rfl⟩ : ∃ k, n = k + 1 := ⟨n - 1, by omega⟩
    clear h
    induction n with
    | zero => rfl
    | succ n ih => rw [sm, ih]; simp [co]
  | p + 1, n, h => by
    obtain ⟨n, rfl⟩ : ∃ k, n = k + 1 := ⟨n - 1, by omega⟩
    rw [co_two_step, co_two p n (by omega), co_two p (n + 1) (by omega)]
    rfl
/-- From v on, at most k times, to a node that is its own up. -/
def topF : Nat → (Nat → Nat) → Nat → Nat
  | 0, _, v => v
  | k + 1, up, v => if up v = v then v else topF k up (up v)
def updN (up : Nat → Nat) (a b : Nat) : Nat → Nat := fun v => if v = a then b else up v
/-- k times are enough. -/
structure Rt (N : Nat) (up : Nat → Nat) (k : Nat) : Prop where
  lt : ∀ v, v < N → up v < N
  top : ∀ v, v < N → up (topF k up v) = topF k up v
theorem topF_lt {N : Nat} {up : Nat → Nat} (h : ∀ v, v < N → up v < N) : ∀ k v, v < N → topF k up v < N
  | 0, v, hv => hv
  | k + 1, v, hv => by unfold topF; split; exact hv; exact topF_lt h k _ (h v hv)
theorem topF_more {up : Nat → Nat} : ∀ {k v : Nat}, up (topF k up v) = topF k up v → topF (k + 1) up v = topF k up v
  | 0, v, h => by
    have h' : up v = v := h
    show (if up v = v then v else topF 0 up (up v)) = v
    rw [if_pos h']
  | k + 1, v, h => by
    have e : topF (k + 1) up v = if up v = v then v else topF k up (up v) := rfl
    have e2 : topF (k + 1 + 1) up v = if up v = v then v else topF (k + 1) up (up v) := rfl
    rw [e] at h
    rw [e, e2]
    split
    · rfl
    · next hv =>
      rw [if_neg hv] at h
      exact topF_more h
theorem topF_root {up : Nat → Nat} {v : Nat} (h : up v = v) : ∀ k, topF k up v = v
  | 0 => rfl
  | k + 1 => by unfold topF; rw [if_pos h]
theorem Rt.more {N k : Nat} {up : Nat → Nat} (h : Rt N up k) : Rt N up (k + 1) := ⟨h.lt, fun v hv => by rw [topF_more (h.top v hv)]; exact h.top v hv⟩
theorem topF_upd {up : Nat → Nat} {a b : Nat} (ha : up a = a) (hb : up b = b) (hab : a ≠ b) : ∀ {k v : Nat}, up (topF k up v) = topF k up v → topF (k + 1) (updN up a b) v = if topF k up v = a then b else topF k up v
  | 0, v, h => by
    have h' : up v = v := h
    show (if updN up a b v = v then v else updN up a b v) = if v = a then b else v
    unfold updN
    by_cases hv : v = a
    · subst hv
      rw [if_pos rfl, if_pos rfl]
      split
      · next e => exact e.symm
      · rfl
    · rw [if_neg hv, h', if_pos rfl]
      rw [if_neg hv]
  | k + 1, v, h => by
    have e : topF (k + 1) up v = if up v = v then v else topF k up (up v) := rfl
    have e2 : topF (k + 1 + 1) (updN up a b) v = if updN up a b v = v then v else topF (k + 1) (updN up a b) (updN up a b v) := rfl
    rw [e] at h
    rw [e, e2]
    by_cases hv : up v = v
    · rw [if_pos hv]
      by_cases hva : v = a
      · subst hva
        have u1 : updN up v b v = b := by simp [updN]
        have u2 : updN up v b b = b := by simp [updN, hb]
        rw [u1, if_neg (fun e => hab e.symm), if_pos rfl, topF_root u2]
      · have u1 : updN up a b v = v := by simp [updN, hva, hv]
        rw [u1, if_pos rfl, if_neg hva]
    · rw [if_neg hv] at h ⊢
      have hva : v ≠ a := fun e => hv (by rw [e]; exact ha)
      have u1 : updN up a b v = up v := by simp [updN, hva]
      rw [u1, if_neg hv]
      exact topF_upd ha hb hab h
theorem Rt.upd {N k a b : Nat} {up : Nat → Nat} (h : Rt N up k) (hbN : b < N) (ha : up a = a) (hb : up b = b) (hab : a ≠ b) : Rt N (updN up a b) (k + 1) := by
  refine ⟨fun v hv => ?_, fun v hv => ?_⟩
  · unfold updN; split; exact hbN; exact h.lt v hv
  · rw [topF_upd ha hb hab (h.top v hv)]
    split
    · unfold updN; rw [if_neg (fun e => hab e.symm)]; exact hb
    · next hne => unfold updN; rw [if_neg hne]; exact h.top v hv
abbrev E2 := Nat × Nat
/-- Two nodes hang together by these edges. -/
inductive Cn (A : List E2) : Nat → Nat → Prop
  | refl (u : Nat) : Cn A u u
  | step {u v x : Nat} : Cn A u v → ((v, x) ∈ A ∨ (x, v) ∈ A) → Cn A u x
theorem Cn.trans {A : List E2} {u v x : Nat} (h : Cn A u v) (h2 : Cn A v x) : Cn A u x := by
  induction h2 with
  | refl => exact h
  | step _ he ih => exact ih.step he
theorem Cn.symm {A : List E2} {u v : Nat} (h : Cn A u v) : Cn A v u := by
  induction h with
  | refl => exact .refl _
  | step _ he ih => exact ((Cn.refl _).step (he.symm)).trans ih
theorem Cn.mono {A B : List E2} (hAB : ∀ e ∈ A, e ∈ B) {u v : Nat} (h : Cn A u v) : Cn B u v := by
  induction h with
  | refl => exact .refl _
  | step _ he ih => exact ih.step (he.imp (hAB _) (hAB _))
/-- What up tells of the edges A. -/
def Tl (N : Nat) (up : Nat → Nat) (k : Nat) (A : List E2) : Prop := ∀ u v, u < N → v < N → (topF k up u = topF k up v ↔ Cn A u v)
theorem Cn.lt {A : List E2} {N : Nat} (hA : ∀ e ∈ A, e.1 < N ∧ e.2 < N) {u v : Nat} (h : Cn A u v) (hu : u < N) : v < N := by
  induction h with
  | refl => exact hu
  | step _ he _ => rcases he with he | he <;> have := hA _ he <;> simp only at this <;> omega
theorem Tl.same {N k : Nat} {up : Nat → Nat} {A : List E2} (hA : ∀ e ∈ A, e.1 < N ∧ e.2 < N) (hR : Rt N up k) (h : Tl N up k A) {x y : Nat} (hx : x < N) (hy : y < N) (he : topF k up x = topF k up y) : Tl N up (k + 1) (A ++ [(x, y)]) := fun u v hu hv => by
  rw [topF_more (hR.top u hu), topF_more (hR.top v hv), h u v hu hv]
  have hxy : Cn A x y := (h x y hx hy).1 he
  refine ⟨fun h => h.mono (fun e he => by simp [he]), fun h => ?_⟩
  induction h with
  | refl => exact .refl _
  | @step b c hab hbc ih =>
    have hB : ∀ e ∈ A ++ [(x, y)], e.1 < N ∧ e.2 < N := fun e he => by
      rcases List.mem_append.1 he with h1 | h1
      · exact hA e h1
      · simp at h1; subst h1; exact ⟨hx, hy⟩
    have hb := hab.lt hB hu
    have := ih hb
    rcases hbc with h1 | h1
    · rcases List.mem_append.1 h1 with h2 | h2
      · exact this.step (Or.inl h2)
      · simp at h2; obtain ⟨rfl, rfl⟩ := h2; exact this.trans hxy
    · rcases List.mem_append.1 h1 with h2 | h2
      · exact this.step (Or.inr h2)
      · simp at h2; obtain ⟨rfl, rfl⟩ := h2; exact this.trans hxy.symm
theorem Tl.upd {N k : Nat} {up : Nat → Nat} {A : List E2} (hA : ∀ e ∈ A, e.1 < N ∧ e.2 < N) (hR : Rt N up k) (h : Tl N up k A) {x y : Nat} (hx : x < N) (hy : y < N) (he : topF k up x ≠ topF k up y) : Tl N (updN up (topF k up x) (topF k up y)) (k + 1) (A ++ [(x, y)]) := fun u v hu hv => by
  have t := fun v hv => topF_upd (hR.top x hx) (hR.top y hy) he (hR.top v hv)
  rw [t u hu, t v hv]
  have c1 : ∀ u v, Cn A u v → Cn (A ++ [(x, y)]) u v := fun u v h => h.mono (fun e he => by simp [he])
  have cxy : Cn (A ++ [(x, y)]) x y := (Cn.refl x).step (Or.inl (by simp))
  have hB : ∀ e ∈ A ++ [(x, y)], e.1 < N ∧ e.2 < N := fun e he => by
    rcases List.mem_append.1 he with h1 | h1
    · exact hA e h1
    · simp at h1; subst h1; exact ⟨hx, hy⟩
  constructor
  · intro hh
    by_cases h1 : topF k up u = topF k up x
    · have k1 := c1 _ _ ((h u x hu hx).1 h1)
      rw [if_pos h1] at hh
      by_cases h2 : topF k up v = topF k up x
      · exact k1.trans (c1 _ _ ((h v x hv hx).1 h2)).symm
      · rw [if_neg h2] at hh
        exact (k1.trans cxy).trans (c1 _ _ ((h y v hy hv).1 hh))
    · rw [if_neg h1] at hh
      by_cases h2 : topF k up v = topF k up x
      · rw [if_pos h2] at hh
        exact ((c1 _ _ ((h u y hu hy).1 hh)).trans cxy.symm).trans (c1 _ _ ((h v x hv hx).1 h2)).symm
      · rw [if_neg h2] at hh
        exact c1 _ _ ((h u v hu hv).1 hh)
  · intro hh
    induction hh with
    | refl => rfl
    | @step b c hab hbc ih =>
      have hb := hab.lt hB hu
      rw [ih hb]
      have key : ∀ p q, p < N → q < N → (p, q) ∈ A ++ [(x, y)] → (if topF k up p = topF k up x then topF k up y else topF k up p) = if topF k up q = topF k up x then topF k up y else topF k up q := fun p q hp hq hm => by
        rcases List.mem_append.1 hm with h2 | h2
        · rw [(h p q hp hq).2 ((Cn.refl p).step (Or.inl h2))]
        · simp at h2
          obtain ⟨rfl, rfl⟩ := h2
          rw [if_pos rfl]
          split <;> rfl
      rcases hbc with h1 | h1
      · exact key _ _ hb hv h1
      · exact (key _ _ hv hb h1).symm
end Go.Proofs.YtmeodnkmhakidaaDoor

namespace Go.Proofs.YtmeodnkmhakidaaDoor
theorem nodupT_len {α : Type} [DecidableEq α] : ∀ {l l' : List α}, l.Nodup → (∀ x ∈ l, x ∈ l') → l.length ≤ l'.length
  | [], _, _, _ => Nat.zero_le _
  | a :: l, l', hn, h => by
    have ha := h a (by simp)
    have hn' := List.nodup_cons.1 hn
    have := nodupT_len (l := l) (l' := l'.erase a) hn'.2 (fun x hx => (List.mem_erase_of_ne (fun e => hn'.1 (by rw [← e]; exact hx))).2 (h x (by simp [hx])))
    rw [List.length_erase_of_mem ha] at this
    have := List.length_pos_of_mem ha
    simp only [List.length_cons]
    omega
theorem nodupT_map {α β : Type} {f : α → β} : ∀ {l : List α}, l.Nodup → (∀ x ∈ l, ∀ y ∈ l, f x = f y → x = y) → (l.map f).Nodup
  | [], _, _ => List.nodup_nil
  | a :: l, hn, h => by
    have hn' := List.nodup_cons.1 hn
    rw [List.map_cons, List.nodup_cons]
    refine ⟨fun hm => ?_, nodupT_map hn'.2 (fun x hx y hy => h x (by simp [hx]) y (by simp [hy]))⟩
    obtain ⟨x, hx, e⟩ := List.mem_map.1 hm
    exact hn'.1 ((h x (by simp [hx]) a (by simp) e) ▸ hx)
/-- How many nodes are the first of their kind. -/
def fr (N : Nat) (c : Nat → Nat) : Nat := ((List.range N).filter fun v => (List.range v).all fun u => c u != c v).length
def rts (N : Nat) (up : Nat → Nat) : Nat := ((List.range N).filter fun v => up v == v).length
theorem fr_is {N v : Nat} {c : Nat → Nat} : v ∈ ((List.range N).filter fun v => (List.range v).all fun u => c u != c v) ↔ v < N ∧ ∀ u, u < v → c u ≠ c v := by simp
theorem least_of {P : Nat → Prop} : ∀ {n : Nat}, P n → ∃ m, m ≤ n ∧ P m ∧ ∀ u, u < m → ¬ P u := fun {n} => by
  induction n using Nat.strongRecOn with
  | _ n ih =>
    intro h
    by_cases hx : ∃ u, u < n ∧ P u
    · obtain ⟨u, hu, hp⟩ := hx
      obtain ⟨m, h1, h2, h3⟩ := ih u hu hp
      exact ⟨m, by omega, h2, h3⟩
    · exact ⟨n, Nat.le_refl _, h, fun u hu hp => hx ⟨u, hu, hp⟩⟩
theorem fr_roots {N : Nat} {c : Nat → Nat} (hlt : ∀ v, v < N → c v < N) (hid : ∀ v, v < N → c (c v) = c v) : fr N c = rts N c := by
  refine Nat.le_antisymm ?_ ?_
  · have h := nodupT_len (l := ((List.range N).filter fun v => (List.range v).all fun u => c u != c v).map c) (l' := (List.range N).filter fun v => c v == v) (nodupT_map (List.Pairwise.filter _ List.nodup_range) fun x hx y hy e => ?_) (fun x hx => ?_)
    · rw [List.length_map] at h
      exact h
    · obtain ⟨_, h1⟩ := fr_is.1 hx
      obtain ⟨_, h2⟩ := fr_is.1 hy
      rcases Nat.lt_trichotomy x y with h | h | h
      · exact absurd e (h2 x h)
      · exact h
      · exact absurd e.symm (h1 y h)
    · obtain ⟨v, hv, rfl⟩ := List.mem_map.1 hx
      obtain ⟨h1, _⟩ := fr_is.1 hv
      simp [hlt v h1, hid v h1]
  · have pick : ∀ v, v < N → ∃ m, m ≤ v ∧ c m = c v ∧ ∀ u, u < m → ¬ c u = c v := fun v _ => least_of (P := fun u => c u = c v) rfl
    let g : Nat → Nat := fun v => if h : v < N then Classical.choose (pick v h) else 0
    have hg : ∀ v, v < N → g v ≤ v ∧ c (g v) = c v ∧ ∀ u, u < g v → ¬ c u = c v := fun v hv => by
      show (if h : v < N then Classical.choose (pick v h) else 0) ≤ v ∧ c (if h : v < N then Classical.choose (pick v h) else 0) = c v ∧ ∀ u, u < (if h : v < N then Classical.choose (pick v h) else 0) → ¬ c u = c v
      rw [dif_pos hv]
      exact Classical.choose_spec (pick v hv)
    have h := nodupT_len (l := ((List.range N).filter fun v => c v == v).map g) (l' := (List.range N).filter fun v => (List.range v).all fun u => c u != c v) (nodupT_map (List.Pairwise.filter _ List.nodup_range) fun x hx y hy e => ?_) (fun x hx => ?_)
    · rw [List.length_map] at h
      exact h
    · simp at hx hy
      have h1 := (hg x hx.1).2.1
      have h2 := (hg y hy.1).2.1
      rw [e] at h1
      rw [← hx.2, ← hy.2, ← h1, ← h2]
    · obtain ⟨v, hv, rfl⟩ := List.mem_map.1 hx
      simp at hv
      obtain ⟨h1, h2, h3⟩ := hg v hv.1
      exact fr_is.2 ⟨by omega, fun u hu e => h3 u hu (e.trans h2)⟩
theorem filter_len_congr {p q : Nat → Bool} {l : List Nat} (h : ∀ x ∈ l, p x = q x) : (l.filter p).length = (l.filter q).length := by
  rw [List.filter_congr h]
theorem fr_congr {N : Nat} {c d : Nat → Nat} (h : ∀ u v, u < N → v < N → (c u = c v ↔ d u = d v)) : fr N c = fr N d := by
  refine filter_len_congr fun v hv => ?_
  rw [List.mem_range] at hv
  rw [Bool.eq_iff_iff, List.all_eq_true, List.all_eq_true]
  constructor
  · intro k u hu
    have := k u hu
    rw [List.mem_range] at hu
    simp only [bne_iff_ne, ne_eq] at this ⊢
    rwa [← h u v (by omega) hv]
  · intro k u hu
    have := k u hu
    rw [List.mem_range] at hu
    simp only [bne_iff_ne, ne_eq] at this ⊢
    rwa [h u v (by omega) hv]
theorem rts_top {N k : Nat} {up : Nat → Nat} (h : Rt N up k) : rts N (topF k up) = rts N up := by
  refine filter_len_congr fun v hv => ?_
  rw [List.mem_range] at hv
  rw [Bool.eq_iff_iff]
  simp only [beq_iff_eq]
  constructor
  · intro e; have := h.top v hv; rw [e] at this; exact this
  · intro e; exact topF_root e k
theorem rts_fr {N k : Nat} {up : Nat → Nat} (h : Rt N up k) : rts N up = fr N (topF k up) := by
  rw [← rts_top h]
  exact (fr_roots (fun v hv => topF_lt h.lt k v hv) (fun v hv => topF_root (h.top v hv) k)).symm
theorem filter_drop {p q : Nat → Bool} {a : Nat} (hp : p a = true) (hq : q a = false) (h : ∀ x, x ≠ a → p x = q x) : ∀ {n : Nat}, a < n → ((List.range n).filter q).length + 1 = ((List.range n).filter p).length
  | 0, hn => by omega
  | n + 1, hn => by
    rw [List.range_succ, List.filter_append, List.filter_append, List.length_append, List.length_append]
    by_cases e : a = n
    · subst e
      have : ((List.range a).filter q).length = ((List.range a).filter p).length := filter_len_congr fun x hx => by
        rw [List.mem_range] at hx
        exact (h x (by omega)).symm
      rw [this]
      simp [hp, hq]
    · have ih := filter_drop hp hq h (n := n) (by omega)
      have : [n].filter p = [n].filter q := List.filter_congr fun x hx => by simp at hx; subst hx; exact h x (fun e' => e e'.symm)
      rw [this]
      omega
theorem rts_upd {N : Nat} {up : Nat → Nat} {a b : Nat} (ha : up a = a) (haN : a < N) (hab : a ≠ b) : rts N (updN up a b) + 1 = rts N up := by
  refine filter_drop (a := a) ?_ ?_ (fun x hx => ?_) haN
  · simp [ha]
  · simp [updN]; exact fun e => hab e.symm
  · simp [updN, hx]
theorem rts_id (N : Nat) : rts N id = N := by
  unfold rts
  rw [List.filter_eq_self.2 (fun v _ => by simp), List.length_range]
/-- How many components the edges leave, from up on. -/
def ufG : (Nat → Nat) → Nat → Nat → List E2 → Nat
  | _, _, p, [] => p
  | up, k, p, e :: r => if topF k up e.1 = topF k up e.2 then ufG up (k + 1) p r else ufG (updN up (topF k up e.1) (topF k up e.2)) (k + 1) (p - 1) r
/-- How many components these edges leave of N nodes. -/
def kf (N : Nat) (B : List E2) : Nat := ufG id 0 N B
/-- Up tells of A, and there are p components. -/
structure Uf (N : Nat) (up : Nat → Nat) (k p : Nat) (A : List E2) : Prop where
  rt : Rt N up k
  tl : Tl N up k A
  cnt : p = rts N up
theorem Uf.start (N : Nat) : Uf N id 0 N [] := ⟨⟨fun v hv => hv, fun v _ => rfl⟩, fun u v _ _ => ⟨fun e => by have e' : u = v := e; subst e'; exact .refl _, fun h => by
  cases h with
  | refl => rfl
  | step _ he => rcases he with he | he <;> cases he⟩, (rts_id N).symm⟩
theorem Uf.same {N k p : Nat} {up : Nat → Nat} {A : List E2} (h : Uf N up k p A) (hA : ∀ e ∈ A, e.1 < N ∧ e.2 < N) {e : E2} (he : e.1 < N ∧ e.2 < N) (ht : topF k up e.1 = topF k up e.2) : Uf N up (k + 1) p (A ++ [e]) :=
  ⟨h.rt.more, h.tl.same hA h.rt he.1 he.2 ht, h.cnt⟩
theorem Uf.upd {N k p : Nat} {up : Nat → Nat} {A : List E2} (h : Uf N up k p A) (hA : ∀ e ∈ A, e.1 < N ∧ e.2 < N) {e : E2} (he : e.1 < N ∧ e.2 < N) (ht : topF k up e.1 ≠ topF k up e.2) : Uf N (updN up (topF k up e.1) (topF k up e.2)) (k + 1) (p - 1) (A ++ [e]) ∧ 1 ≤ p :=by
  have h1 := rts_upd (N := N) (b := topF k up e.2) (h.rt.top e.1 he.1) (topF_lt h.rt.lt k _ he.1) ht
  have := h.cnt
  exact ⟨⟨h.rt.upd (topF_lt h.rt.lt k _ he.2) (h.rt.top _ he.1) (h.rt.top _ he.2) ht, h.tl.upd hA h.rt he.1 he.2 ht, by omega⟩, by omega⟩
theorem nodes_app {N : Nat} {A : List E2} {e : E2} (hA : ∀ e ∈ A, e.1 < N ∧ e.2 < N) (he : e.1 < N ∧ e.2 < N) : ∀ x ∈ A ++ [e], x.1 < N ∧ x.2 < N := fun x hx => by
  rcases List.mem_append.1 hx with h | h
  · exact hA x h
  · simp at h; subst h; exact he
theorem ufG_is {N : Nat} : ∀ (B : List E2) {up : Nat → Nat} {k p : Nat} {A : List E2}, Uf N up k p A → (∀ e ∈ A, e.1 < N ∧ e.2 < N) → (∀ e ∈ B, e.1 < N ∧ e.2 < N) → (∃ up' k', Uf N up' k' (ufG up k p B) (A ++ B)) ∧ ufG up k p B ≤ p ∧ p ≤ ufG up k p B + B.length
  | [], up, k, p, A, h, _, _ => ⟨⟨up, k, by rw [List.append_nil]; exact h⟩, Nat.le_refl _, Nat.le_refl _⟩
  | e :: r, up, k, p, A, h, hA, hB => by
    have he := hB e (by simp)
    have hr : ∀ x ∈ r, x.1 < N ∧ x.2 < N := fun x hx => hB x (by simp [hx])
    have ea : A ++ e :: r = (A ++ [e]) ++ r := by simp
    unfold ufG
    by_cases ht : topF k up e.1 = topF k up e.2
    · rw [if_pos ht, ea]
      obtain ⟨h1, h2, h3⟩ := ufG_is r (h.same hA he ht) (nodes_app hA he) hr
      exact ⟨h1, h2, by simp only [List.length_cons]; omega⟩
    · rw [if_neg ht, ea]
      obtain ⟨h0, hp⟩ := h.upd hA he ht
      obtain ⟨h1, h2, h3⟩ := ufG_is r h0 (nodes_app hA he) hr
      exact ⟨h1, by omega, by simp only [List.length_cons]; omega⟩
theorem kf_is {N : Nat} {B : List E2} (hB : ∀ e ∈ B, e.1 < N ∧ e.2 < N) : ∃ up k, Uf N up k (kf N B) B := (ufG_is B (Uf.start N) (fun e he => by cases he) hB).1
theorem kf_le {N : Nat} {B : List E2} (hB : ∀ e ∈ B, e.1 < N ∧ e.2 < N) : kf N B ≤ N ∧ N ≤ kf N B + B.length := (ufG_is B (Uf.start N) (fun e he => by cases he) hB).2
theorem uf_uniq {N : Nat} {up up' : Nat → Nat} {k k' p p' : Nat} {A B : List E2} (h : Uf N up k p A) (h' : Uf N up' k' p' B) (hAB : ∀ u v, u < N → v < N → (Cn A u v ↔ Cn B u v)) : p = p' := by
  rw [h.cnt, h'.cnt, rts_fr h.rt, rts_fr h'.rt]
  exact fr_congr fun u v hu hv => by rw [h.tl u v hu hv, h'.tl u v hu hv, hAB u v hu hv]
theorem kf_app {N : Nat} {B C : List E2} (hB : ∀ e ∈ B, e.1 < N ∧ e.2 < N) (hC : ∀ e ∈ C, e.1 < N ∧ e.2 < N) : kf N (B ++ C) ≤ kf N B ∧ kf N B ≤ kf N (B ++ C) + C.length := by
  obtain ⟨up, k, h⟩ := kf_is hB
  obtain ⟨⟨up', k', h1⟩, h2, h3⟩ := ufG_is C h hB hC
  obtain ⟨up2, k2, h4⟩ := kf_is (N := N) (B := B ++ C) (fun e he => (List.mem_append.1 he).elim (hB e) (hC e))
  have := uf_uniq h1 h4 (fun _ _ _ _ => Iff.rfl)
  omega
/-- All sets of these edges. -/
def sub : List E2 → List (List E2)
  | [] => [[]]
  | e :: r => sub r ++ (sub r).map (e :: ·)
theorem sub_len : ∀ es : List E2, (sub es).length = 2 ^ es.length
  | [] => rfl
  | e :: r => by simp [sub, sub_len r, Nat.pow_succ]; omega
theorem sub_rest : ∀ {es B : List E2}, B ∈ sub es → ∃ C : List E2, (∀ e, (e ∈ B ∨ e ∈ C) ↔ e ∈ es) ∧ B.length + C.length = es.length
  | [], B, h => by simp [sub] at h; subst h; exact ⟨[], fun e => by simp, rfl⟩
  | e :: r, B, h => by
    rcases List.mem_append.1 h with h | h
    · obtain ⟨C, h1, h2⟩ := sub_rest h
      refine ⟨e :: C, fun x => ?_, by simp only [List.length_cons]; omega⟩
      have := h1 x
      simp only [List.mem_cons]
      rw [← this]
      constructor
      · rintro (h | h | h)
        · exact Or.inr (Or.inl h)
        · exact Or.inl h
        · exact Or.inr (Or.inr h)
      · rintro (h | h | h)
        · exact Or.inr (Or.inl h)
        · exact Or.inl h
        · exact Or.inr (Or.inr h)
    · obtain ⟨B', hB', rfl⟩ := List.mem_map.1 h
      obtain ⟨C, h1, h2⟩ := sub_rest hB'
      refine ⟨C, fun x => ?_, by simp only [List.length_cons]; omega⟩
      have := h1 x
      simp only [List.mem_cons]
      rw [← this]
      constructor
      · rintro ((h | h) | h)
        · exact Or.inl h
        · exact Or.inr (Or.inl h)
        · exact Or.inr (Or.inr h)
      · rintro (h | h | h)
        · exact Or.inl (Or.inl h)
        · exact Or.inl (Or.inr h)
        · exact Or.inr h
theorem sub_nodes {N : Nat} {es B : List E2} (hes : ∀ e ∈ es, e.1 < N ∧ e.2 < N) (h : B ∈ sub es) : ∀ e ∈ B, e.1 < N ∧ e.2 < N := fun e he => by
  obtain ⟨C, h1, _⟩ := sub_rest h
  exact hes e ((h1 e).1 (Or.inl he))
theorem kf_sub {N : Nat} {es B : List E2} (hes : ∀ e ∈ es, e.1 < N ∧ e.2 < N) (h : B ∈ sub es) : kf N es ≤ kf N B ∧ kf N B ≤ N ∧ N ≤ kf N B + B.length ∧ kf N B + B.length ≤ kf N es + es.length := by
  obtain ⟨C, h1, h2⟩ := sub_rest h
  have hB := sub_nodes hes h
  have hC : ∀ e ∈ C, e.1 < N ∧ e.2 < N := fun e he => hes e ((h1 e).1 (Or.inr he))
  obtain ⟨u1, k1, e1⟩ := kf_is (N := N) (B := B ++ C) (fun e he => (List.mem_append.1 he).elim (hB e) (hC e))
  obtain ⟨u2, k2, e2⟩ := kf_is hes
  have hm : ∀ e, e ∈ B ++ C ↔ e ∈ es := fun e => List.mem_append.trans (h1 e)
  have := uf_uniq e1 e2 (fun u v _ _ => ⟨fun h => h.mono fun e he => (hm e).1 he, fun h => h.mono fun e he => (hm e).2 he⟩)
  have h3 := kf_app hB hC
  have h4 := kf_le hB
  omega
/-- What tryEdges tells, in its order. -/
def trL : List E2 → (Nat → Nat) → Nat → Nat → List (Nat × Nat)
  | [], _, p, s => [(p, s)]
  | e :: r, up, p, s => trL r up p s ++ if topF s up e.1 = topF s up e.2 then trL r up p (s + 1) else trL r (updN up (topF s up e.1) (topF s up e.2)) (p - 1) (s + 1)
theorem trL_eq : ∀ (es : List E2) (up : Nat → Nat) (p s : Nat), trL es up p s = (sub es).map fun B => (ufG up s p B, s + B.length)
  | [], up, p, s => rfl
  | e :: r, up, p, s => by
    rw [trL, sub, List.map_append, List.map_map, ← trL_eq r up p s]
    congr 1
    split
    · next h =>
      rw [trL_eq r up p (s + 1)]
      refine List.map_congr_left fun B _ => ?_
      show _ = (ufG up s p (e :: B), s + (e :: B).length)
      rw [ufG, if_pos h]
      simp only [List.length_cons, Prod.mk.injEq, true_and]
      omega
    · next h =>
      rw [trL_eq r _ (p - 1) (s + 1)]
      refine List.map_congr_left fun B _ => ?_
      show _ = (ufG up s p (e :: B), s + (e :: B).length)
      rw [ufG, if_neg h]
      simp only [List.length_cons, Prod.mk.injEq, true_and]
      omega
theorem trL_all (N : Nat) (es : List E2) : trL es id N 0 = (sub es).map fun B => (kf N B, B.length) := by
  rw [trL_eq]
  refine List.map_congr_left fun B _ => ?_
  rw [kf, Nat.zero_add]
/-- The table of Tutte's polynomial. -/
def tT (N w : Nat) (es : List E2) (i j : Nat) : Int := ((sub es).map fun B => co (kf N B - w) i * co (kf N B + B.length - N) j).sum
theorem sum_zero {α : Type} : ∀ {l : List α} {f : α → Int}, (∀ x ∈ l, f x = 0) → (l.map f).sum = 0
  | [], _, _ => rfl
  | a :: l, f, h => by rw [List.map_cons, List.sum_cons, h a (by simp), sum_zero (l := l) (fun x hx => h x (by simp [hx]))]; rfl
theorem tT_row {N : Nat} {es : List E2} (hes : ∀ e ∈ es, e.1 < N ∧ e.2 < N) {i : Nat} (hi : N - kf N es < i) (j : Nat) : tT N (kf N es) es i j = 0 :=
  sum_zero fun B hB => by have := kf_sub hes hB; rw [co_out (show kf N B - kf N es < i by omega), Int.zero_mul]
theorem tT_col {N : Nat} {es : List E2} (hes : ∀ e ∈ es, e.1 < N ∧ e.2 < N) (i : Nat) {j : Nat} (hj : kf N es + es.length - N < j) : tT N (kf N es) es i j = 0 :=
  sum_zero fun B hB => by have := kf_sub hes hB; rw [co_out (show kf N B + B.length - N < j by omega), Int.mul_zero]
theorem sm_sum {α : Type} (n : Nat) : ∀ (l : List α) (f : α → Nat → Int), sm n (fun j => (l.map fun x => f x j).sum) = (l.map fun x => sm n (f x)).sum
  | [], f => by simp [sm_zero]
  | a :: l, f => by
    simp only [List.map_cons, List.sum_cons]
    rw [← sm_sum n l f, ← sm_add]
theorem sm_mul' (c : Int) (f : Nat → Int) (n : Nat) : sm n (fun i => f i * c) = sm n f * c := by
  have := sm_mul c f n
  rw [Int.mul_comm] at this
  rw [← this]
  exact sm_congr n fun i _ => Int.mul_comm _ _
theorem sum_mul {α : Type} (c : Int) : ∀ (l : List α) (f : α → Int), (l.map f).sum * c = (l.map fun x => f x * c).sum
  | [], f => by simp
  | a :: l, f => by simp only [List.map_cons, List.sum_cons]; rw [Int.add_mul, sum_mul c l f]
theorem sum_ones {α : Type} : ∀ {l : List α} {f : α → Int}, (∀ x ∈ l, f x = 0 ∨ f x = 1) → 0 ≤ (l.map f).sum ∧ (l.map f).sum ≤ l.length ∧ ((∃ x ∈ l, f x = 1) → 1 ≤ (l.map f).sum)
  | [], f, _ => ⟨Int.le_refl _, Int.le_refl _, fun ⟨x, hx, _⟩ => by cases hx⟩
  | a :: l, f, h => by
    obtain ⟨h1, h2, h3⟩ := sum_ones (l := l) (f := f) (fun x hx => h x (by simp [hx]))
    have ha := h a (by simp)
    rw [List.map_cons, List.sum_cons, List.length_cons]
    refine ⟨by omega, by omega, ?_⟩
    rintro ⟨x, hx, e⟩
    rcases List.mem_cons.1 hx with rfl | hx
    · omega
    · have := h3 ⟨x, hx, e⟩; omega
theorem sm_dvd {d : Int} {f : Nat → Int} : ∀ {n : Nat}, (∀ i, i < n → d ∣ f i) → d ∣ sm n f
  | 0, _ => Int.dvd_zero d
  | n + 1, h => by rw [sm]; exact Int.dvd_add (sm_dvd fun i hi => h i (by omega)) (h n (by omega))
theorem co_hit {p r : Nat} (h : p ≤ r) : co p r = 0 ∨ co p r = 1 := by
  by_cases e : p = r
  · subst e; exact Or.inr (co_top p)
  · exact Or.inl (co_out (by omega))
theorem sub_nil : ∀ es : List E2, [] ∈ sub es
  | [] => by simp [sub]
  | e :: r => List.mem_append.2 (Or.inl (sub_nil r))
theorem sub_self : ∀ es : List E2, es ∈ sub es
  | [] => by simp [sub]
  | e :: r => List.mem_append.2 (Or.inr (List.mem_map.2 ⟨r, sub_self r, rfl⟩))
theorem kf_nil (N : Nat) : kf N [] = N := rfl
theorem last_row {N : Nat} {es : List E2} (hes : ∀ e ∈ es, e.1 < N ∧ e.2 < N) (hm : es.length ≤ 12) : ∃ j, j < kf N es + es.length - N + 1 ∧ ¬ (18446744073709551616 : Int) ∣ tT N (kf N es) es (N - kf N es) j := by
  refine Classical.byContradiction fun hno => ?_
  have hall : ∀ j, j < kf N es + es.length - N + 1 → (18446744073709551616 : Int) ∣ tT N (kf N es) es (N - kf N es) j := fun j hj => Classical.byContradiction fun h => hno ⟨j, hj, h⟩
  have hd := sm_dvd (f := fun j => tT N (kf N es) es (N - kf N es) j * 2 ^ j) (fun j hj => Int.dvd_trans (hall j hj) (Int.dvd_mul_right _ _))
  have e : sm (kf N es + es.length - N + 1) (fun j => tT N (kf N es) es (N - kf N es) j * 2 ^ j) = ((sub es).map fun B => co (kf N B - kf N es) (N - kf N es)).sum := by
    have e0 : ∀ j, tT N (kf N es) es (N - kf N es) j * 2 ^ j = ((sub es).map fun B => co (kf N B - kf N es) (N - kf N es) * co (kf N B + B.length - N) j * 2 ^ j).sum := fun j => sum_mul (2 ^ j) (sub es) (fun B => co (kf N B - kf N es) (N - kf N es) * co (kf N B + B.length - N) j)
    rw [sm_congr _ (fun j _ => e0 j)]
    rw [sm_sum]
    congr 1
    refine List.map_congr_left fun B hB => ?_
    have := kf_sub hes hB
    rw [sm_congr _ (fun j _ => Int.mul_assoc _ _ _), sm_mul, co_two _ _ (by omega), Int.mul_one]
  rw [e] at hd
  obtain ⟨h1, h2, h3⟩ := sum_ones (l := sub es) (f := fun B => co (kf N B - kf N es) (N - kf N es)) (fun B hB => co_hit (by have := kf_sub hes hB; omega))
  have h4 := h3 ⟨[], sub_nil es, by rw [kf_nil]; exact co_top _⟩
  rw [sub_len] at h2
  have h5 : (2 : Nat) ^ es.length ≤ 2 ^ 12 := Nat.pow_le_pow_right (by decide) hm
  have h6 := Int.le_of_dvd (by omega) hd
  omega
theorem last_col {N : Nat} {es : List E2} (hes : ∀ e ∈ es, e.1 < N ∧ e.2 < N) (hm : es.length ≤ 12) : ∃ i, i < N - kf N es + 1 ∧ ¬ (18446744073709551616 : Int) ∣ tT N (kf N es) es i (kf N es + es.length - N) := by
  refine Classical.byContradiction fun hno => ?_
  have hall : ∀ i, i < N - kf N es + 1 → (18446744073709551616 : Int) ∣ tT N (kf N es) es i (kf N es + es.length - N) := fun i hi => Classical.byContradiction fun h => hno ⟨i, hi, h⟩
  have hd := sm_dvd (f := fun i => tT N (kf N es) es i (kf N es + es.length - N) * 2 ^ i) (fun i hi => Int.dvd_trans (hall i hi) (Int.dvd_mul_right _ _))
  have e : sm (N - kf N es + 1) (fun i => tT N (kf N es) es i (kf N es + es.length - N) * 2 ^ i) = ((sub es).map fun B => co (kf N B + B.length - N) (kf N es + es.length - N)).sum := by
    have e0 : ∀ i, tT N (kf N es) es i (kf N es + es.length - N) * 2 ^ i = ((sub es).map fun B => co (kf N B - kf N es) i * co (kf N B + B.length - N) (kf N es + es.length - N) * 2 ^ i).sum := fun i => sum_mul (2 ^ i) (sub es) (fun B => co (kf N B - kf N es) i * co (kf N B + B.length - N) (kf N es + es.length - N))
    rw [sm_congr _ (fun i _ => e0 i)]
    rw [sm_sum]
    congr 1
    refine List.map_congr_left fun B hB => ?_
    have := kf_sub hes hB
    have e2 : ∀ i : Nat, co (kf N B - kf N es) i * co (kf N B + B.length - N) (kf N es + es.length - N) * 2 ^ i = co (kf N B - kf N es) i * 2 ^ i * co (kf N B + B.length - N) (kf N es + es.length - N) := fun i => by
      rw [Int.mul_assoc, Int.mul_assoc, Int.mul_comm (co (kf N B + B.length - N) _) (2 ^ i)]
    rw [sm_congr _ (fun i _ => e2 i), sm_mul', co_two _ _ (by omega), Int.one_mul]
  rw [e] at hd
  obtain ⟨h1, h2, h3⟩ := sum_ones (l := sub es) (f := fun B => co (kf N B + B.length - N) (kf N es + es.length - N)) (fun B hB => co_hit (by have := kf_sub hes hB; omega))
  have h4 := h3 ⟨es, sub_self es, co_top _⟩
  rw [sub_len] at h2
  have h5 : (2 : Nat) ^ es.length ≤ 2 ^ 12 := Nat.pow_le_pow_right (by decide) hm
  have h6 := Int.le_of_dvd (by omega) hd
  omega
/-- The edges that a number chooses. -/
def sel : List E2 → Nat → List E2
  | [], _ => []
  | e :: r, s => if s % 2 = 1 then e :: sel r (s / 2) else sel r (s / 2)
theorem sm_double (f : Nat → Int) : ∀ n, sm (2 * n) f = sm n fun t => f (2 * t) + f (2 * t + 1)
  | 0 => rfl
  | n + 1 => by
    rw [show 2 * (n + 1) = 2 * n + 1 + 1 by omega, sm_succ, sm_succ, sm_double f n, sm_succ]
    omega
theorem sum_sel : ∀ (es : List E2) (h : List E2 → Int), sm (2 ^ es.length) (fun s => h (sel es s)) = ((sub es).map h).sum
  | [], h => by simp [sm, sel, sub]
  | e :: r, h => by
    rw [List.length_cons, Nat.pow_succ, Nat.mul_comm, sm_double]
    have e1 : ∀ t, h (sel (e :: r) (2 * t)) + h (sel (e :: r) (2 * t + 1)) = h (sel r t) + h (e :: sel r t) := fun t => by
      have d1 : sel (e :: r) (2 * t) = sel r t := by rw [sel, if_neg (by omega), show 2 * t / 2 = t by omega]
      have d2 : sel (e :: r) (2 * t + 1) = e :: sel r t := by rw [sel, if_pos (by omega), show (2 * t + 1) / 2 = t by omega]
      rw [d1, d2]
    rw [sm_congr _ (fun t _ => e1 t), sm_add, sum_sel r h, sum_sel r (fun B => h (e :: B)), sub, List.map_append, List.sum_append, List.map_map]
    rfl
/-- Those that it chooses of the first k. -/
theorem sel_bits : ∀ (es : List E2) (s : Nat), sel es s = ((List.range es.length).filter s.testBit).filterMap (fun i => es[i]?)
  | [], s => rfl
  | e :: r, s => by
    unfold sel
    rw [sel_bits r (s / 2), List.length_cons, List.range_succ_eq_map, List.filter_cons, List.filter_map, Nat.testBit_zero]
    have e1 : (s.testBit ∘ Nat.succ) = (s / 2).testBit := by funext i; simp [Nat.testBit_succ]
    rw [e1]
    by_cases h : s % 2 = 1
    · simp only [h, decide_true, if_true, List.filterMap_cons, List.filterMap_map]
      rfl
    · rw [if_neg h]
      simp only [h, decide_false, Bool.false_eq_true, if_false, List.filterMap_map]
      rfl
end Go.Proofs.YtmeodnkmhakidaaDoor
