/- Ways out of steps: at each node as many steps end as begin, but for two. -/
import Derived.Test.YtkakmaalmhofmaaGomoryM
namespace Go.Proofs.Ytkakmaalmhofmaa

def b01 (b : Bool) : Int := if b = true then 1 else 0
def outE (e : Nat → Nat → Bool) (N z : Nat) : Int := sumN (fun u => b01 (e z u)) N
def inE (e : Nat → Nat → Bool) (N z : Nat) : Int := sumN (fun u => b01 (e u z)) N
def lessE (e : Nat → Nat → Bool) (a b : Nat) : Nat → Nat → Bool := fun x y => e x y && !(x == a && y == b)
def d1 (p : Prop) [Decidable p] : Int := if p then 1 else 0
/-- Of all steps that are left x - 1 ways go from s to t, and one from v. -/
def Bal (e : Nat → Nat → Bool) (N : Nat) (s t : Nat) (x : Int) (v : Nat) : Prop := ∀ z, z < N → outE e N z - inE e N z = (if z = s then x - 1 else 0) + (if z = v then 1 else 0) - (if z = t then x else 0)
theorem sumN_only {f g : Nat → Int} {k : Nat} : ∀ {n : Nat}, k < n → (∀ j, j < n → j ≠ k → f j = g j) → sumN f n = sumN g n + (f k - g k)
  | 0, h, _ => absurd h (Nat.not_lt_zero _)
  | n + 1, h, he => by
    show sumN f n + f n = sumN g n + g n + (f k - g k)
    by_cases e : k = n
    · subst e
      have : sumN f k = sumN g k := sumN_congr (fun j hj => he j (by omega) (by omega))
      omega
    · have := sumN_only (f := f) (g := g) (k := k) (n := n) (by omega) (fun j hj hk => he j (by omega) hk)
      have := he n (by omega) (fun h => e h.symm)
      omega
theorem lessE_eq {e : Nat → Nat → Bool} {a b x y : Nat} : lessE e a b x y = if x = a ∧ y = b then false else e x y := by
  unfold lessE
  by_cases h : x = a ∧ y = b
  · simp [h]
  · rw [if_neg h]
    have : (x == a && y == b) = false := by simpa using h
    simp [this]
theorem lessE_le {e : Nat → Nat → Bool} {a b x y : Nat} (h : lessE e a b x y = true) : e x y = true := by
  unfold lessE at h
  simp at h
  exact h.1
theorem outE_less {e : Nat → Nat → Bool} {N a b z : Nat} (hb : b < N) (he : e a b = true) : outE (lessE e a b) N z = outE e N z - (if z = a then 1 else 0) := by
  unfold outE
  by_cases h : z = a
  · subst h
    rw [sumN_only (k := b) (g := fun u => b01 (e z u)) hb (fun j _ hj => by rw [lessE_eq, if_neg (by omega)])]
    simp only [lessE_eq, and_self, if_pos, he, b01]
    simp
    omega
  · rw [if_neg h]
    have : sumN (fun u => b01 (lessE e a b z u)) N = sumN (fun u => b01 (e z u)) N := sumN_congr (fun j _ => by rw [lessE_eq, if_neg (by omega)])
    omega
theorem inE_less {e : Nat → Nat → Bool} {N a b z : Nat} (ha : a < N) (he : e a b = true) : inE (lessE e a b) N z = inE e N z - (if z = b then 1 else 0) := by
  unfold inE
  by_cases h : z = b
  · subst h
    rw [sumN_only (k := a) (g := fun u => b01 (e u z)) ha (fun j _ hj => by rw [lessE_eq, if_neg (by omega)])]
    simp only [lessE_eq, and_self, if_pos, he, b01]
    simp
    omega
  · rw [if_neg h]
    have : sumN (fun u => b01 (lessE e a b u z)) N = sumN (fun u => b01 (e u z)) N := sumN_congr (fun j _ => by rw [lessE_eq, if_neg (by omega)])
    omega
theorem Bal.step {e : Nat → Nat → Bool} {N s t v u : Nat} {x : Int} (h : Bal e N s t x v) (hv : v < N) (hu : u < N) (he : e v u = true) : Bal (lessE e v u) N s t x u := fun z hz => by
  have := h z hz
  rw [outE_less hu he, inE_less hv he]
  split at this <;> split at this <;> split at this <;> (repeat' split) <;> omega
theorem b01_pos (b : Bool) : 0 ≤ b01 b := by unfold b01; split <;> omega
theorem sum_zero {f : Nat → Int} : ∀ {n : Nat}, (∀ j, j < n → f j = 0) → sumN f n = 0
  | 0, _ => rfl
  | n + 1, h => by
    show sumN f n + f n = 0
    rw [sum_zero (fun j hj => h j (by omega)), h n (by omega)]; rfl
theorem Bal.more {e : Nat → Nat → Bool} {N s t v : Nat} {x : Int} (h : Bal e N s t x v) (hx : 1 ≤ x) (hv : v < N) (hvt : v ≠ t) : ∃ u, u < N ∧ e v u = true := by
  have h1 := h v hv
  rw [if_pos rfl, if_neg hvt] at h1
  have h2 : 0 ≤ inE e N v := sumN_pos (fun k _ => b01_pos _)
  have h3 : 1 ≤ outE e N v := by split at h1 <;> omega
  refine Classical.byContradiction fun hc => ?_
  have : outE e N v = 0 := sum_zero (fun j hj => by
    have : e v j = false := by
      cases hq : e v j
      · rfl
      · exact absurd ⟨j, hj, hq⟩ hc
    rw [this]; rfl)
  omega
/-- The way so far: from s to v, no node twice, along steps that were there and are taken. -/
structure WayTo (N : Nat) (e e' : Nat → Nat → Bool) (s v : Nat) (L : List Nat) : Prop where
  head : L[0]? = some s
  last : L[L.length - 1]? = some v
  nodup : L.Nodup
  lt : ∀ u ∈ L, u < N
  took : ∀ i a b, L[i]? = some a → L[i + 1]? = some b → e a b = true ∧ e' a b = false
  le : ∀ a b, e' a b = true → e a b = true
theorem WayTo.start {N s : Nat} {e : Nat → Nat → Bool} (hs : s < N) : WayTo N e e s s [s] where
  head := rfl
  last := rfl
  nodup := by simp
  lt := fun u hu => by simp at hu; omega
  took := fun i a b _ h2 => by simp at h2
  le := fun _ _ h => h
theorem WayTo.pos {N : Nat} {e e' : Nat → Nat → Bool} {s v : Nat} {L : List Nat} (h : WayTo N e e' s v L) : 0 < L.length := by
  have := (List.getElem?_eq_some_iff.1 h.head).1
  exact this
theorem WayTo.on {N : Nat} {e e' : Nat → Nat → Bool} {s v u : Nat} {L : List Nat} (h : WayTo N e e' s v L) (hu : u < N) (he : e' v u = true) (hn : u ∉ L) : WayTo N e (lessE e' v u) s u (L ++ [u]) where
  head := by rw [List.getElem?_append_left h.pos]; exact h.head
  last := by simp
  nodup := by
    rw [List.nodup_append]
    exact ⟨h.nodup, by simp, fun a ha b hb => by simp at hb; subst hb; exact fun e => hn (e ▸ ha)⟩
  lt := fun x hx => by
    rcases List.mem_append.1 hx with hx | hx
    · exact h.lt x hx
    · simp at hx; omega
  took := fun i a b h1 h2 => by
    have hi := (List.getElem?_eq_some_iff.1 h2).1
    rw [List.length_append] at hi
    simp at hi
    rw [List.getElem?_append_left (by omega)] at h1
    by_cases hl : i + 1 < L.length
    · rw [List.getElem?_append_left hl] at h2
      obtain ⟨g1, g2⟩ := h.took i a b h1 h2
      refine ⟨g1, ?_⟩
      rw [lessE_eq, g2]; split <;> rfl
    · have e1 : i = L.length - 1 := by omega
      rw [e1, h.last] at h1
      cases h1
      rw [List.getElem?_append_right (by omega), show i + 1 - L.length = 0 from by omega] at h2
      simp at h2
      subst h2
      exact ⟨h.le _ _ he, by rw [lessE_eq, if_pos ⟨rfl, rfl⟩]⟩
  le := fun a b h1 => h.le a b (lessE_le h1)
theorem WayTo.back {N : Nat} {e e' : Nat → Nat → Bool} {s v u i : Nat} {L : List Nat} (h : WayTo N e e' s v L) (hi : L[i]? = some u) : WayTo N e (lessE e' v u) s u (L.take i ++ [u]) := by
  obtain ⟨hl, hx⟩ := List.getElem?_eq_some_iff.1 hi
  have et : L.take i ++ [u] = L.take (i + 1) := by rw [List.take_succ_eq_append_getElem hl, hx]
  rw [et]
  have hg : ∀ {j a : Nat}, (L.take (i + 1))[j]? = some a → L[j]? = some a := fun {j a} hj => by
    rw [List.getElem?_take] at hj
    split at hj
    · exact hj
    · cases hj
  refine ⟨?_, ?_, ?_, fun x hx => h.lt x (List.mem_of_mem_take hx), fun j a b h1 h2 => ?_, fun a b h1 => h.le a b (lessE_le h1)⟩
  · rw [List.getElem?_take, if_pos (by omega)]; exact h.head
  · rw [List.length_take, Nat.min_eq_left (by omega), List.getElem?_take, if_pos (by omega)]
    exact hi
  · exact List.Sublist.nodup (List.take_sublist _ _) h.nodup
  · obtain ⟨g1, g2⟩ := h.took j a b (hg h1) (hg h2)
    refine ⟨g1, ?_⟩
    rw [lessE_eq, g2]; split <;> rfl
/-- How many steps are left. -/
def totE (e : Nat → Nat → Bool) (N : Nat) : Nat := ((List.range N).map fun a => ((List.range N).map fun b => if e a b = true then 1 else 0).sum).sum
theorem lsum_le {l : List Nat} {f g : Nat → Nat} (h : ∀ x ∈ l, f x ≤ g x) : (l.map f).sum ≤ (l.map g).sum := by
  induction l with
  | nil => simp
  | cons a l ih =>
    simp only [List.map_cons, List.sum_cons]
    have := h a (by simp)
    have := ih (fun x hx => h x (by simp [hx]))
    omega
theorem lsum_lt {l : List Nat} {f g : Nat → Nat} (h : ∀ x ∈ l, f x ≤ g x) {y : Nat} (hy : y ∈ l) (hlt : f y < g y) : (l.map f).sum < (l.map g).sum := by
  induction l with
  | nil => simp at hy
  | cons a l ih =>
    simp only [List.map_cons, List.sum_cons]
    have h1 := h a (by simp)
    have h2 := lsum_le (fun x hx => h x (List.mem_cons_of_mem a hx))
    rcases List.mem_cons.1 hy with rfl | hy
    · omega
    · have := ih (fun x hx => h x (by simp [hx])) hy
      omega
theorem totE_lt {e : Nat → Nat → Bool} {N a b : Nat} (ha : a < N) (hb : b < N) (he : e a b = true) : totE (lessE e a b) N < totE e N := by
  have hle : ∀ x y, (if lessE e a b x y = true then 1 else 0) ≤ (if e x y = true then 1 else 0) := fun x y => by
    by_cases h : lessE e a b x y = true
    · rw [if_pos h, if_pos (lessE_le h)]; exact Nat.le_refl _
    · rw [if_neg h]; exact Nat.zero_le _
  refine lsum_lt (fun x _ => lsum_le (fun y _ => hle x y)) (y := a) (by simp [ha]) (lsum_lt (fun y _ => hle a y) (y := b) (by simp [hb]) ?_)
  rw [if_pos he, if_neg (by rw [lessE_eq, if_pos ⟨rfl, rfl⟩]; simp)]
  omega
end Go.Proofs.Ytkakmaalmhofmaa
