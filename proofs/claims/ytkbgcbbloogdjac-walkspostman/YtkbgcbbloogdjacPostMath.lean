/- The plan's numbers: how many steps are planned in all, and that adding walks keeps a plan a plan. -/
import Derived.Test.YtkbgcbbloogdjacEulerMath
import Derived.Test.YtkbgcbbloogdjacMakeEven
import Derived.Test.YtkbgcbbloogdjacWay
namespace Go.Proofs.Ytkbgcbbloogdjac
open Go.RowKit Go.Maps

def totI (N : Nat) (P : Nat → Nat → Int) : Int := sumI (fun a => degI P a N) N
theorem sum_sumI {f : Nat → Nat} {g : Nat → Int} : ∀ {k : Nat}, (∀ a, a < k → (f a : Int) = g a) → (((List.range k).map f).sum : Int) = sumI g k
  | 0, _ => rfl
  | k + 1, h => by
    rw [List.range_succ, List.map_append, List.sum_append]
    unfold sumI
    rw [← sum_sumI (k := k) (fun a ha => h a (by omega)), ← h k (by omega)]
    simp
theorem tot_eq {N : Nat} {P : Nat → Nat → Int} (hp : ∀ a b, 0 ≤ P a b) : (tot N P : Int) = totI N P := by
  unfold tot totI
  refine sum_sumI fun a _ => ?_
  rw [degI_eq]
  refine sum_sumI fun b _ => ?_
  have := hp a b
  omega
theorem sumI_ind {N u : Nat} (hu : u < N) (z : Int) : sumI (fun a => ind a u * z) N = z := by
  have key : ∀ k, sumI (fun a => ind a u * z) k = if u < k then z else 0 := by
    intro k
    induction k with
    | zero => simp [sumI]
    | succ k ih =>
      unfold sumI
      rw [ih]
      unfold ind
      by_cases h1 : u < k
      · simp [h1, show ¬ k = u by omega, show u < k + 1 by omega]
      · by_cases h2 : k = u
        · subst h2; simp
        · simp [h1, h2, show ¬ u < k + 1 by omega]
  rw [key, if_pos hu]
theorem totI_add {P : Nat → Nat → Int} {N u v : Nat} (huv : u ≠ v) (hu : u < N) (hv : v < N) (z : Int) : totI N (addP P u v z) = totI N P + 2 * z := by
  unfold totI
  rw [sumI_congr (g := fun a => degI P a N + (ind a u * z + ind a v * z)) (fun a _ => by rw [deg_add huv hu hv, Int.add_mul]), sumI_add, sumI_add, sumI_ind hu, sumI_ind hv]
  omega
theorem sumI_le {f : Nat → Int} {c : Int} : ∀ {k : Nat}, (∀ a, a < k → f a ≤ c) → sumI f k ≤ k * c
  | 0, _ => by simp [sumI]
  | k + 1, h => by
    have h1 := sumI_le (k := k) (fun a ha => h a (by omega))
    have h2 := h k (by omega)
    unfold sumI
    have : ((k + 1 : Nat) : Int) * c = k * c + c := by
      rw [Int.natCast_add, Int.add_mul]
      simp
    omega

/-- A plan whose numbers are at most c. -/
structure GoodC (P : Nat → Nat → Int) (c : Int) : Prop where
  pos : ∀ a b, 0 ≤ P a b ∧ P a b ≤ c
  sym : ∀ a b, P a b = P b a
  diag : ∀ a, P a a = 0
theorem GoodC.good {P : Nat → Nat → Int} {c : Int} (h : GoodC P c) (hc : c ≤ 1000) (N : Nat) : Good N P := ⟨fun a b => by have := h.pos a b; omega, h.sym, h.diag⟩
theorem GoodC.add {P : Nat → Nat → Int} {c : Int} (h : GoodC P c) {u v : Nat} (huv : u ≠ v) : GoodC (addP P u v 1) (c + 1) := by
  refine ⟨addP_le h.pos u v, fun a b => ?_, fun a => ?_⟩
  · unfold addP
    by_cases x : (a = u ∧ b = v) ∨ (a = v ∧ b = u)
    · rw [if_pos x, if_pos (by omega), h.sym a b]
    · rw [if_neg x, if_neg (by omega), h.sym a b]
  · unfold addP
    rw [if_neg (by omega), h.diag]
theorem HomeTo.ne {N : Nat} {e : Nat → Nat → Bool} {o : Nat → Option Nat} {v D : Nat} {S : Nat → Nat} (h : HomeTo N e o v D D S) {t : Nat} (ht : t < D) : S t ≠ S (t + 1) := fun hh => by
  have h1 := (h.lt t (by omega)).2
  have h2 := (h.lt (t + 1) (by omega)).2
  rw [hh, h2] at h1
  have := Option.some.inj h1
  omega
theorem addWay_good {N : Nat} {e : Nat → Nat → Bool} {o : Nat → Option Nat} {v D : Nat} {S : Nat → Nat} (h : HomeTo N e o v D D S) {P : Nat → Nat → Int} {c : Int} (hp : GoodC P c) : ∀ k, k ≤ D → GoodC (addWay S P k) (c + k) ∧ totI N (addWay S P k) = totI N P + 2 * k
  | 0, _ => ⟨by simpa [addWay] using hp, by simp [addWay]⟩
  | k + 1, hk => by
    obtain ⟨h1, h2⟩ := addWay_good h hp k (by omega)
    have hne := h.ne (t := k) (by omega)
    refine ⟨?_, ?_⟩
    · have := h1.add hne
      have e1 : c + (k : Int) + 1 = c + ((k + 1 : Nat) : Int) := by omega
      rw [e1] at this
      exact this
    · show totI N (addP (addWay S P k) (S k) (S (k + 1)) 1) = _
      rw [totI_add hne (h.lt k (by omega)).1 (h.lt (k + 1) (by omega)).1, h2]
      omega
/-- The degrees of a plan to which a walk is added. -/
theorem addWay_deg {N : Nat} {e : Nat → Nat → Bool} {o : Nat → Option Nat} {v D : Nat} {S : Nat → Nat} (h : HomeTo N e o v D D S) {P : Nat → Nat → Int} : ∀ k, k ≤ D → ∀ a, degI (addWay S P k) a N % 2 = (degI P a N + ind a (S 0) + ind a (S k)) % 2
  | 0, _ => fun a => by show degI P a N % 2 = _; omega
  | k + 1, hk => fun a => by
    have ih := addWay_deg h (P := P) k (by omega) a
    show degI (addP (addWay S P k) (S k) (S (k + 1)) 1) a N % 2 = _
    rw [deg_add (h.ne (t := k) (by omega)) (h.lt k (by omega)).1 (h.lt (k + 1) (by omega)).1]
    omega
/-- How long the walks are that the pairs have between them. -/
def sumD (O : Nat → Nat → Option Nat) : List Pair → Nat
  | [] => 0
  | p :: ps => ((O p.1.toNat p.2.toNat).getD 0) + sumD O ps
theorem waysAdd_good {N : Nat} {e : Nat → Nat → Bool} {O : Nat → Nat → Option Nat} (hN : N ≤ 100) : ∀ {ps : List Pair} {P P' : Nat → Nat → Int} {c : Int}, WaysAdd N e O ps P P' → GoodC P c → GoodC P' (c + 100 * ps.length) ∧ totI N P' = totI N P + 2 * sumD O ps
  | [], P, P', c, h, hp => by
    have h' : P' = P := h
    subst h'
    exact ⟨by simpa using hp, by simp [sumD]⟩
  | p :: ps, P, P', c, h, hp => by
    obtain ⟨u, v, D, S, rfl, hu, hD, hO, hh, h'⟩ := h
    obtain ⟨h1, h2⟩ := addWay_good hh hp D (Nat.le_refl _)
    have h1' : GoodC (addWay S P D) (c + 100) := ⟨fun a b => by have := h1.pos a b; omega, h1.sym, h1.diag⟩
    obtain ⟨h3, h4⟩ := waysAdd_good hN h' h1'
    refine ⟨?_, ?_⟩
    · have e1 : c + 100 + 100 * (ps.length : Int) = c + 100 * (((u : Int), (v : Int)) :: ps).length := by simp; omega
      rw [e1] at h3
      exact h3
    · rw [h4, h2]
      simp [sumD, hO]
      omega
theorem waysAdd_up {N : Nat} {e : Nat → Nat → Bool} {O : Nat → Nat → Option Nat} : ∀ {ps : List Pair} {P P' : Nat → Nat → Int}, WaysAdd N e O ps P P' → (∀ a b, 0 < P a b → a < N ∧ b < N ∧ (e a b = true ∨ e b a = true)) → (∀ a b, P a b ≤ P' a b) ∧ ∀ a b, 0 < P' a b → a < N ∧ b < N ∧ (e a b = true ∨ e b a = true)
  | [], P, P', h, hp => by
    have h' : P' = P := h
    subst h'
    exact ⟨fun a b => Int.le_refl _, hp⟩
  | p :: ps, P, P', h, hp => by
    obtain ⟨u, v, D, S, rfl, hu, _, hO, hh, h'⟩ := h
    have key : ∀ k, k ≤ D → (∀ a b, P a b ≤ addWay S P k a b) ∧ ∀ a b, 0 < addWay S P k a b → a < N ∧ b < N ∧ (e a b = true ∨ e b a = true) := by
      intro k
      induction k with
      | zero => exact fun _ => ⟨fun a b => Int.le_refl _, hp⟩
      | succ k ih =>
        intro hk
        obtain ⟨h1, h2⟩ := ih (by omega)
        have he := hh.edge k (by omega)
        have l1 := (hh.lt k (by omega)).1
        have l2 := (hh.lt (k + 1) (by omega)).1
        refine ⟨fun a b => ?_, fun a b h0 => ?_⟩
        · have := h1 a b
          show P a b ≤ addP (addWay S P k) (S k) (S (k + 1)) 1 a b
          unfold addP
          split <;> omega
        · have h0' : 0 < addP (addWay S P k) (S k) (S (k + 1)) 1 a b := h0
          unfold addP at h0'
          by_cases x : (a = S k ∧ b = S (k + 1)) ∨ (a = S (k + 1) ∧ b = S k)
          · rcases x with ⟨rfl, rfl⟩ | ⟨rfl, rfl⟩
            · exact ⟨l1, l2, Or.inl he⟩
            · exact ⟨l2, l1, Or.inr he⟩
          · rw [if_neg x] at h0'
            exact h2 a b h0'
    obtain ⟨h1, h2⟩ := key D (Nat.le_refl _)
    obtain ⟨h3, h4⟩ := waysAdd_up h' h2
    exact ⟨fun a b => Int.le_trans (h1 a b) (h3 a b), h4⟩

/-- Each edge once. -/
def plan0 (m : Nat) (es : List Pair) (a b : Nat) : Int := if b ∈ nbL m es a then 1 else 0
theorem hasB_range {m : Nat} {es : List Pair} (hgood : ∀ e ∈ es, (0 ≤ e.1 ∧ e.1 < (m : Int) ∧ 0 ≤ e.2 ∧ e.2 < (m : Int)) ∧ e.1 ≠ e.2) {a b : Nat} (h : hasB es a b = true) : a < m ∧ b < m ∧ a ≠ b := by
  unfold hasB at h
  obtain ⟨x, hx, h2⟩ := List.any_eq_true.1 h
  have := hgood x hx
  simp at h2
  rcases h2 with ⟨h3, h4⟩ | ⟨h3, h4⟩
  · refine ⟨by omega, by omega, fun e => this.2 (by omega)⟩
  · refine ⟨by omega, by omega, fun e => this.2 (by omega)⟩
theorem plan0_iff {m : Nat} {es : List Pair} (hgood : ∀ e ∈ es, (0 ≤ e.1 ∧ e.1 < (m : Int) ∧ 0 ≤ e.2 ∧ e.2 < (m : Int)) ∧ e.1 ≠ e.2) (a b : Nat) : plan0 m es a b = if hasB es a b = true then 1 else 0 := by
  unfold plan0
  by_cases h : hasB es a b = true
  · have := hasB_range hgood h
    rw [if_pos h, if_pos (by unfold nbL; rw [List.mem_filter]; simp [this.2.1, h])]
  · rw [if_neg h, if_neg (fun hh => h (by unfold nbL at hh; exact (List.mem_filter.1 hh).2))]
theorem plan0_good {m : Nat} {es : List Pair} (hgood : ∀ e ∈ es, (0 ≤ e.1 ∧ e.1 < (m : Int) ∧ 0 ≤ e.2 ∧ e.2 < (m : Int)) ∧ e.1 ≠ e.2) : GoodC (plan0 m es) 1 := by
  refine ⟨fun a b => ?_, fun a b => ?_, fun a => ?_⟩
  · rw [plan0_iff hgood]; split <;> omega
  · rw [plan0_iff hgood, plan0_iff hgood, hasB_comm]
  · rw [plan0_iff hgood, if_neg (fun h => (hasB_range hgood h).2.2 rfl)]
theorem plan0_deg (m : Nat) (es : List Pair) (a : Nat) : degI (plan0 m es) a m = ((nbL m es a).length : Nat) := by
  have h1 := deg_rows (fun (b : Nat) => hasB es a b) a m
  rw [← degI_congr (P := fun _ b => if hasB es a b = true then (1 : Int) else 0) (Q := plan0 m es) (a := a) (k := m) (fun b hb => by
    unfold plan0 nbL
    by_cases h : hasB es a b = true
    · rw [if_pos h, if_pos (by rw [List.mem_filter]; simp [hb, h])]
    · rw [if_neg h, if_neg (fun (hh : b ∈ List.filter (fun (x : Nat) => hasB es a x) (List.range m)) => h (List.mem_filter.1 hh).2)])]
  exact h1
theorem plan0_tot {m : Nat} (hm : m ≤ 100) (es : List Pair) : totI m (plan0 m es) ≤ 10000 := by
  have h1 : totI m (plan0 m es) ≤ m * 100 := sumI_le fun a _ => by
    rw [plan0_deg]
    have : (nbL m es a).length ≤ m := Nat.le_trans (List.length_filter_le _ _) (by simp)
    omega
  omega
theorem star_rev {N : Nat} {e : Nat → Nat → Bool} (hs : ∀ a b, a < N → b < N → e a b = true → e b a = true) {a b : Nat} (ha : a < N) (h : Star (St N e allB) a b) : b < N ∧ Star (St N e allB) b a :=
  Star.ind (P := fun b => b < N ∧ Star (St N e allB) b a) ⟨ha, .refl _⟩ (fun _ _ _ hbc ih => ⟨hbc.1, Star.head ⟨ih.1, hs _ _ ih.1 hbc.1 hbc.2.1, rfl⟩ ih.2⟩) h
/-- Where all edges hang together, each node with an edge is so far from each other one. -/
theorem hang_some {N : Nat} {e : Nat → Nat → Bool} (hs : ∀ a b, a < N → b < N → e a b = true → e b a = true) {ls : Nat → List Nat} {K : Nat} {o : Nat → Option Nat} (hd : Dist N e K o) (hK : K < N) (hh : ∀ x, x < N → o x = none → ls x = []) {u v : Nat} (hu : u < N) (hv : v < N) (lu : ls u ≠ []) (lv : ls v ≠ []) {o' : Nat → Option Nat} (hd' : Dist N e u o') : ∃ D, o' v = some D := by
  have s1 : Star (St N e allB) K u := by
    cases h : o u with
    | none => exact absurd (hh u hu h) lu
    | some d => exact hd.star d u hu h
  have s2 : Star (St N e allB) K v := by
    cases h : o v with
    | none => exact absurd (hh v hv h) lv
    | some d => exact hd.star d v hv h
  exact hd'.some hu ((star_rev hs hK s1).2.trans s2)
end Go.Proofs.Ytkbgcbbloogdjac
