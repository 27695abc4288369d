/- What plan.walk's literal does is one thing alone; and what it does to the doubled path of three nodes. What the walk of a plan is: where two nodes alone are odd in it, or none, it goes along all that hangs together with its start, as often as was planned. -/
import Derived.Test.YtkbgcbbloogdjacTourWalk
namespace Go.Proofs.Ytkbgcbbloogdjac

theorem goN_det {N : Nat} : ∀ {n v u : Nat} {P P1 : Nat → Nat → Int} {A1 : List Nat}, GoN N n v u P P1 A1 → ∀ {k : Nat} {P2 : Nat → Nat → Int} {A2 : List Nat}, GoN N k v u P P2 A2 → P1 = P2 ∧ A1 = A2
  | 0, _, _, _, _, _, h, k, _, _, h' => by
    obtain ⟨rfl, rfl, rfl⟩ := h
    cases k with
    | zero => obtain ⟨_, rfl, rfl⟩ := h'; exact ⟨rfl, rfl⟩
    | succ k =>
      rcases h' with ⟨_, rfl, rfl⟩ | ⟨h1, _⟩ | ⟨h1, _⟩
      · exact ⟨rfl, rfl⟩
      · omega
      · omega
  | n + 1, _, _, _, _, _, h, k, _, _, h' => by
    rcases h with ⟨rfl, rfl, rfl⟩ | ⟨h1, h2, h3⟩ | ⟨h1, h2, Q, B1, B2, h3, h4, rfl⟩
    · cases k with
      | zero => obtain ⟨_, rfl, rfl⟩ := h'; exact ⟨rfl, rfl⟩
      | succ k =>
        rcases h' with ⟨_, rfl, rfl⟩ | ⟨g1, _⟩ | ⟨g1, _⟩
        · exact ⟨rfl, rfl⟩
        · omega
        · omega
    · cases k with
      | zero => obtain ⟨e, _⟩ := h'; omega
      | succ k =>
        rcases h' with ⟨e, _⟩ | ⟨_, _, g3⟩ | ⟨_, g2, _⟩
        · omega
        · exact goN_det h3 g3
        · exact absurd g2 h2
    · cases k with
      | zero => obtain ⟨e, _⟩ := h'; omega
      | succ k =>
        rcases h' with ⟨e, _⟩ | ⟨_, g2, _⟩ | ⟨_, _, Q', C1, C2, g3, g4, rfl⟩
        · omega
        · exact absurd h2 g2
        · obtain ⟨rfl, rfl⟩ := goN_det h3 g3
          obtain ⟨rfl, rfl⟩ := goN_det h4 g4
          exact ⟨rfl, rfl⟩
theorem goOn_det {N v u : Nat} {P P1 P2 : Nat → Nat → Int} {A1 A2 : List Nat} (h : GoOn N v u P P1 A1) (h' : GoOn N v u P P2 A2) : P1 = P2 ∧ A1 = A2 := by
  obtain ⟨n, h⟩ := h
  obtain ⟨k, h'⟩ := h'
  exact goN_det h h'

/-- The path of three nodes, each edge twice. -/
def path3 (a b : Nat) : Int := if (a = 0 ∧ b = 1) ∨ (a = 1 ∧ b = 0) ∨ (a = 1 ∧ b = 2) ∨ (a = 2 ∧ b = 1) then 2 else 0
theorem go_path3 : ∃ P', GoOn 3 0 0 path3 P' [0, 1, 2, 1] := by
  have d0 : GoOn 3 0 0 (addP (addP path3 1 0 (-1)) 0 1 (-1)) (addP (addP path3 1 0 (-1)) 0 1 (-1)) [] := .next (by omega) (by decide) (.next (by omega) (by decide) (.next (by omega) (by decide) (.done _ _)))
  have d1 : GoOn 3 1 0 (addP (addP (addP (addP path3 1 0 (-1)) 0 1 (-1)) 2 1 (-1)) 1 2 (-1)) (addP (addP (addP (addP path3 1 0 (-1)) 0 1 (-1)) 2 1 (-1)) 1 2 (-1)) [] := .next (by omega) (by decide) (.next (by omega) (by decide) (.next (by omega) (by decide) (.done _ _)))
  have d2 : GoOn 3 2 0 (addP (addP (addP path3 1 0 (-1)) 0 1 (-1)) 2 1 (-1)) (addP (addP (addP (addP path3 1 0 (-1)) 0 1 (-1)) 2 1 (-1)) 1 2 (-1)) (([] ++ [1]) ++ []) := .next (by omega) (by decide) (.take (by omega) (by decide) d1 (.next (by omega) (by decide) (.next (by omega) (by decide) (.done _ _))))
  have d3 : GoOn 3 1 0 (addP path3 1 0 (-1)) (addP (addP (addP (addP path3 1 0 (-1)) 0 1 (-1)) 2 1 (-1)) 1 2 (-1)) (([] ++ [0]) ++ (((([] ++ [1]) ++ []) ++ [2]) ++ [])) := .take (by omega) (by decide) d0 (.next (by omega) (by decide) (.next (by omega) (by decide) (.take (by omega) (by decide) d2 (.next (by omega) (by decide) (.done _ _)))))
  have d4 := GoOn.next (N := 3) (v := 0) (u := 0) (P := path3) (by omega) (by decide) (GoOn.take (by omega) (by decide) d3 (.next (by omega) (by decide) (.next (by omega) (by decide) (.done _ _))))
  exact ⟨_, by simpa using d4⟩
end Go.Proofs.Ytkbgcbbloogdjac

namespace Go.Proofs.Ytkbgcbbloogdjac

/-- How many of P's steps go from a. -/
def degI (P : Nat → Nat → Int) (a : Nat) : Nat → Int
  | 0 => 0
  | k + 1 => degI P a k + P a k
theorem degI_congr {P Q : Nat → Nat → Int} {a : Nat} : ∀ {k : Nat}, (∀ b, b < k → P a b = Q a b) → degI P a k = degI Q a k
  | 0, _ => rfl
  | k + 1, h => by
    unfold degI
    rw [degI_congr (fun b hb => h b (by omega)), h k (by omega)]
theorem degI_zero {P : Nat → Nat → Int} {a : Nat} : ∀ {k : Nat}, (∀ b, b < k → P a b = 0) → degI P a k = 0
  | 0, _ => rfl
  | k + 1, h => by
    unfold degI
    rw [degI_zero (fun b hb => h b (by omega)), h k (by omega)]
    rfl
theorem degI_one {P Q : Nat → Nat → Int} {a c : Nat} {z : Int} (hc : Q a c = P a c + z) (hn : ∀ b, b ≠ c → Q a b = P a b) : ∀ k, degI Q a k = degI P a k + if c < k then z else 0
  | 0 => by simp [degI]
  | k + 1 => by
    unfold degI
    rw [degI_one hc hn k]
    by_cases h : k = c
    · subst h
      rw [hc, if_neg (by omega), if_pos (by omega)]
      omega
    · rw [hn k h]
      by_cases h2 : c < k
      · rw [if_pos h2, if_pos (by omega)]; omega
      · rw [if_neg h2, if_neg (by omega)]; omega
def ind (a b : Nat) : Int := if a = b then 1 else 0
theorem deg_add {P : Nat → Nat → Int} {N u v : Nat} (huv : u ≠ v) (hu : u < N) (hv : v < N) (z : Int) (a : Nat) : degI (addP P u v z) a N = degI P a N + (ind a u + ind a v) * z := by
  unfold ind
  by_cases h1 : a = u
  · subst h1
    rw [degI_one (P := P) (Q := addP P a v z) (c := v) (z := z) (by simp [addP]) (fun b hb => by unfold addP; rw [if_neg (by omega)]) N, if_pos hv, if_pos rfl, if_neg huv]
    omega
  · by_cases h2 : a = v
    · subst h2
      rw [degI_one (P := P) (Q := addP P u a z) (c := u) (z := z) (by simp [addP]) (fun b hb => by unfold addP; rw [if_neg (by omega)]) N, if_pos hu, if_neg h1, if_pos rfl]
      omega
    · rw [degI_congr (P := addP P u v z) (Q := P) (fun b hb => by unfold addP; rw [if_neg (by omega)]), if_neg h1, if_neg h2]
      omega

/-- How often a walk goes from a to b or from b to a. -/
def cntW : List Nat → Nat → Nat → Int
  | x :: y :: l, a, b => (if (x = a ∧ y = b) ∨ (x = b ∧ y = a) then 1 else 0) + cntW (y :: l) a b
  | _, _, _ => 0
theorem cntW_nonneg : ∀ (l : List Nat) (a b : Nat), 0 ≤ cntW l a b
  | [], _, _ => by simp [cntW]
  | [_], _, _ => by simp [cntW]
  | x :: y :: l, a, b => by
    have := cntW_nonneg (y :: l) a b
    unfold cntW
    by_cases c : (x = a ∧ y = b) ∨ (x = b ∧ y = a)
    · rw [if_pos c]; omega
    · rw [if_neg c]; omega
theorem cntW_join : ∀ (l : List Nat) (u v : Nat) (r : List Nat) (a b : Nat), cntW ((l ++ [u]) ++ (v :: r)) a b = cntW (l ++ [u]) a b + (if (u = a ∧ v = b) ∨ (u = b ∧ v = a) then 1 else 0) + cntW (v :: r) a b
  | [], u, v, r, a, b => by simp [cntW]
  | [x], u, v, r, a, b => by
    simp [cntW]
    omega
  | x :: y :: l, u, v, r, a, b => by
    have := cntW_join (y :: l) u v r a b
    simp only [List.cons_append, cntW] at this ⊢
    omega
theorem cntW_mem : ∀ {l : List Nat} {a b : Nat}, 0 < cntW l a b → a ∈ l ∧ b ∈ l
  | [], _, _, h => by simp [cntW] at h
  | [_], _, _, h => by simp [cntW] at h
  | x :: y :: l, a, b, h => by
    unfold cntW at h
    by_cases c : (x = a ∧ y = b) ∨ (x = b ∧ y = a)
    · rcases c with ⟨rfl, rfl⟩ | ⟨rfl, rfl⟩ <;> simp
    · rw [if_neg c] at h
      have := cntW_mem (l := y :: l) (a := a) (b := b) (by omega)
      exact ⟨List.mem_cons_of_mem _ this.1, List.mem_cons_of_mem _ this.2⟩
theorem cntW_step : ∀ {l : List Nat} {i x y : Nat}, l[i]? = some x → l[i + 1]? = some y → 0 < cntW l x y
  | [], _, _, _, h, _ => by simp at h
  | [_], 0, _, _, _, h => by simp at h
  | [_], i + 1, _, _, h, _ => by simp at h
  | a :: b :: l, 0, x, y, h1, h2 => by
    simp at h1 h2
    subst h1 h2
    have := cntW_nonneg (b :: l) a b
    unfold cntW
    rw [if_pos (Or.inl ⟨rfl, rfl⟩)]
    omega
  | a :: b :: l, i + 1, x, y, h1, h2 => by
    have := cntW_step (l := b :: l) (i := i) (x := x) (y := y) (by simpa using h1) (by simpa using h2)
    unfold cntW
    by_cases c : (a = x ∧ b = y) ∨ (a = y ∧ b = x)
    · rw [if_pos c]; omega
    · rw [if_neg c]; omega

/-- What GoN does to a plan in which all degrees are even but those of v and t. -/
structure Toured (N v t : Nat) (P P' : Nat → Nat → Int) (A : List Nat) : Prop where
  good : Good N P'
  done : ∀ x, x < N → P' v x = 0
  used : ∀ y, y ∈ A → y < N ∧ ∀ x, x < N → P' y x = 0
  head : ∃ r, A ++ [v] = t :: r
  count : ∀ a b, P a b = P' a b + cntW (A ++ [v]) a b
  even : ∀ a, a < N → degI P' a N % 2 = 0

theorem toured {N : Nat} : ∀ {n v u : Nat} {P P' : Nat → Nat → Int} {A : List Nat}, GoN N n v u P P' A → u ≤ N → v < N → Good N P → (∀ x, x < u → P v x = 0) → ∀ {t : Nat}, (∀ a, a < N → degI P a N % 2 = (ind a v + ind a t) % 2) → Toured N v t P P' A := by
  have base : ∀ {v u : Nat} {P P' : Nat → Nat → Int} {A : List Nat}, (u = N ∧ P' = P ∧ A = []) → v < N → Good N P → (∀ x, x < u → P v x = 0) → ∀ {t : Nat}, (∀ a, a < N → degI P a N % 2 = (ind a v + ind a t) % 2) → Toured N v t P P' A := by
    rintro v u P P' A ⟨rfl, rfl, rfl⟩ hv hg hz t hp
    have h0 := hp v hv
    rw [degI_zero hz] at h0
    have htv : v = t := by
      by_cases c : v = t
      · exact c
      · unfold ind at h0
        rw [if_pos rfl, if_neg c] at h0
        omega
    subst htv
    refine ⟨hg, hz, fun y hy => by simp at hy, ⟨[], rfl⟩, fun a b => by simp [cntW], fun a ha => ?_⟩
    rw [hp a ha]
    omega
  intro n
  induction n with
  | zero => intro v u P P' A h _ hv hg hz t hp; exact base h hv hg hz hp
  | succ n ih =>
    intro v u P P' A h hu hv hg hz t hp
    rcases h with h | ⟨h1, h2, h3⟩ | ⟨h1, h2, P1, A1, A2, h3, h4, rfl⟩
    · exact base h hv hg hz hp
    · refine ih h3 (by omega) hv hg (fun x hx => ?_) hp
      by_cases c : x = u
      · subst c
        have := (hg.pos v x).1
        omega
      · exact hz x (by omega)
    · obtain ⟨hg1, huv⟩ := hg.take h2
      have hp1 : ∀ a, a < N → degI (addP P u v (-1)) a N % 2 = (ind a u + ind a t) % 2 := fun a ha => by
        rw [deg_add huv h1 hv]
        have := hp a ha
        omega
      have T1 := ih h3 (by omega) h1 hg1 (fun x hx => by omega) hp1
      have hle : ∀ a b, P1 a b ≤ P a b := fun a b => by
        have h5 := T1.count a b
        have h6 := cntW_nonneg (A1 ++ [u]) a b
        unfold addP at h5
        by_cases c : (a = u ∧ b = v) ∨ (a = v ∧ b = u)
        · rw [if_pos c] at h5; omega
        · rw [if_neg c] at h5; omega
      have T2 := ih h4 (by omega) hv T1.good (fun x hx => by
        have h5 := hle v x
        have h6 := hz x hx
        have h7 := (T1.good.pos v x).1
        omega) (t := v) (fun a ha => by rw [T1.even a ha]; omega)
      have hle2 : ∀ a b, P' a b ≤ P1 a b := fun a b => by
        have h5 := T2.count a b
        have h6 := cntW_nonneg (A2 ++ [v]) a b
        omega
      have hz2 : ∀ y, (∀ x, x < N → P1 y x = 0) → ∀ x, x < N → P' y x = 0 := fun y hy x hx => by
        have h5 := hle2 y x
        have h6 := hy x hx
        have h7 := (T2.good.pos y x).1
        omega
      obtain ⟨r1, e1⟩ := T1.head
      obtain ⟨r2, e2⟩ := T2.head
      refine ⟨T2.good, T2.done, fun y hy => ?_, ?_, fun a b => ?_, T2.even⟩
      · rcases List.mem_append.1 hy with hy | hy
        · rcases List.mem_append.1 hy with hy | hy
          · exact ⟨(T1.used y hy).1, hz2 y (T1.used y hy).2⟩
          · simp at hy
            subst hy
            exact ⟨h1, hz2 y T1.done⟩
        · exact T2.used y hy
      · refine ⟨r1 ++ (A2 ++ [v]), ?_⟩
        rw [List.append_assoc (A1 ++ [u]), e1, List.cons_append]
      · rw [List.append_assoc (A1 ++ [u]), e2, cntW_join]
        have h5 := T1.count a b
        have h6 := T2.count a b
        rw [e2] at h6
        unfold addP at h5
        by_cases c : (a = u ∧ b = v) ∨ (a = v ∧ b = u)
        · rw [if_pos c] at h5
          rw [if_pos (by omega)]
          omega
        · rw [if_neg c] at h5
          rw [if_neg (by omega)]
          omega

theorem Toured.mem_lt {N v t : Nat} {P P' : Nat → Nat → Int} {A : List Nat} (T : Toured N v t P P' A) (hv : v < N) {x : Nat} (hx : x ∈ A ++ [v]) : x < N := by
  rcases List.mem_append.1 hx with h | h
  · exact (T.used x h).1
  · simp at h; omega
theorem Toured.off {N v t : Nat} {P P' : Nat → Nat → Int} {A : List Nat} (T : Toured N v t P P' A) {x y : Nat} (hx : x ∈ A ++ [v]) (hy : y < N) : P' x y = 0 := by
  rcases List.mem_append.1 hx with h | h
  · exact (T.used x h).2 y hy
  · simp at h; subst h; exact T.done y hy
theorem Toured.next {N v t : Nat} {P P' : Nat → Nat → Int} {A : List Nat} (T : Toured N v t P P' A) {x y : Nat} (hx : x ∈ A ++ [v]) (hy : y < N) (hp : 0 < P x y) : y ∈ A ++ [v] := by
  have h1 := T.count x y
  rw [T.off hx hy] at h1
  exact (cntW_mem (a := x) (b := y) (by omega)).2
/-- Where all hangs together, the walk goes along all that was planned, as often as was planned. -/
theorem Toured.all {N v t : Nat} {P P' : Nat → Nat → Int} {A : List Nat} (T : Toured N v t P P' A) (hv : v < N) {e : Nat → Nat → Bool} {s : Nat} {o : Nat → Option Nat} (hd : Dist N e s o) (hs : s < N) (hsy : ∀ a b, a < N → b < N → e a b = true → e b a = true) (he : ∀ a b, a < N → b < N → e a b = true → 0 < P a b) (hin : ∀ a b, a < N → b < N → 0 < P a b → o a ≠ none) (hov : o v ≠ none) : ∀ a b, a < N → b < N → P a b = cntW (A ++ [v]) a b := by
  have up : ∀ d x, x < N → x ∈ A ++ [v] → o x = some d → s ∈ A ++ [v] := by
    intro d
    induction d with
    | zero =>
      intro x hx hm ho
      rcases hd.par x 0 hx ho with ⟨h, _⟩ | ⟨p, d', _, _, _, h⟩
      · subst h; exact hm
      · omega
    | succ d ih =>
      intro x hx hm ho
      rcases hd.par x _ hx ho with ⟨_, h⟩ | ⟨p, d', h1, h2, h3, h4⟩
      · omega
      · have : d' = d := by omega
        subst this
        exact ih p h1 (T.next hm h1 (he x p hx h1 (hsy p x h1 hx h2))) h3
  have hsm : s ∈ A ++ [v] := by
    cases h : o v with
    | none => exact absurd h hov
    | some d => exact up d v hv (by simp) h
  have down : ∀ d x, x < N → o x = some d → x ∈ A ++ [v] := by
    intro d
    induction d with
    | zero =>
      intro x hx ho
      rcases hd.par x 0 hx ho with ⟨h, _⟩ | ⟨p, d', _, _, _, h⟩
      · subst h; exact hsm
      · omega
    | succ d ih =>
      intro x hx ho
      rcases hd.par x _ hx ho with ⟨_, h⟩ | ⟨p, d', h1, h2, h3, h4⟩
      · omega
      · have : d' = d := by omega
        subst this
        exact T.next (ih p h1 h3) hx (he p x h1 hx h2)
  intro a b ha hb
  by_cases hp : 0 < P a b
  · have hm : a ∈ A ++ [v] := by
      cases h : o a with
      | none => exact absurd h (hin a b ha hb hp)
      | some d => exact down d a ha h
    have h1 := T.count a b
    rw [T.off hm hb] at h1
    omega
  · have h1 := T.count a b
    have h2 := cntW_nonneg (A ++ [v]) a b
    have h3 := (T.good.pos a b).1
    omega

def sumI (f : Nat → Int) : Nat → Int
  | 0 => 0
  | k + 1 => sumI f k + f k
theorem sumI_add (f g : Nat → Int) : ∀ k, sumI (fun a => f a + g a) k = sumI f k + sumI g k
  | 0 => by simp [sumI]
  | k + 1 => by
    unfold sumI
    rw [sumI_add f g k]
    omega
theorem sumI_congr {f g : Nat → Int} : ∀ {k : Nat}, (∀ a, a < k → f a = g a) → sumI f k = sumI g k
  | 0, _ => rfl
  | k + 1, h => by
    unfold sumI
    rw [sumI_congr (fun b hb => h b (by omega)), h k (by omega)]
theorem degI_eq (P : Nat → Nat → Int) (a : Nat) : ∀ k, degI P a k = sumI (P a) k
  | 0 => rfl
  | k + 1 => by
    unfold degI sumI
    rw [degI_eq P a k]
theorem hands {P : Nat → Nat → Int} (hs : ∀ a b, P a b = P b a) (hd : ∀ a, P a a = 0) : ∀ k, sumI (fun a => degI P a k) k % 2 = 0
  | 0 => rfl
  | k + 1 => by
    have ih := hands hs hd k
    have h1 : sumI (fun a => degI P a (k + 1)) k = sumI (fun a => degI P a k) k + sumI (fun a => P a k) k := by
      rw [← sumI_add]
      rfl
    have h2 : degI P k (k + 1) = sumI (fun a => P a k) k := by
      show degI P k k + P k k = _
      rw [hd, degI_eq, sumI_congr (fun a _ => hs k a)]
      omega
    show (sumI (fun a => degI P a (k + 1)) k + degI P k (k + 1)) % 2 = 0
    rw [h1, h2]
    omega
theorem odd_count (f : Nat → Int) : ∀ k, ((((List.range k).filter fun v => f v % 2 == 1).length : Nat) : Int) % 2 = sumI f k % 2
  | 0 => rfl
  | k + 1 => by
    have ih := odd_count f k
    rw [List.range_succ, List.filter_append, List.length_append]
    unfold sumI
    by_cases h : f k % 2 = 1
    · simp [h]
      omega
    · simp [h]
      omega
/-- Just two nodes are odd, or none: what the degrees are. -/
theorem odd_two {P : Nat → Nat → Int} {N : Nat} (hs : ∀ a b, P a b = P b a) (hd : ∀ a, P a a = 0) {L : List Nat} (hL : L = (List.range N).filter fun v => degI P v N % 2 == 1) (h2 : L.length ≤ 2) : (L = [] ∧ ∀ a, a < N → degI P a N % 2 = 0) ∨ ∃ v t, L = [v, t] ∧ v < N ∧ t < N ∧ ∀ a, a < N → degI P a N % 2 = (ind a v + ind a t) % 2 := by
  have hc := odd_count (fun a => degI P a N) N
  rw [← hL, hands hs hd N] at hc
  have hm : ∀ a, a ∈ L ↔ a < N ∧ degI P a N % 2 = 1 := fun a => by rw [hL]; simp
  have hn : L.Nodup := by rw [hL]; exact List.Nodup.sublist (List.filter_sublist) List.nodup_range
  match L, h2, hc, hm, hn with
  | [], _, _, hm, _ => exact Or.inl ⟨rfl, fun a ha => by
      have := hm a
      simp at this
      have := this ha
      omega⟩
  | [x], _, hc, _, _ => simp at hc
  | [v, t], _, _, hm, hn =>
    have hvt : v ≠ t := by simpa using hn
    refine Or.inr ⟨v, t, rfl, ((hm v).1 (by simp)).1, ((hm t).1 (by simp)).1, fun a ha => ?_⟩
    have h := hm a
    simp at h
    unfold ind
    by_cases h1 : a = v
    · rw [if_pos h1, if_neg (by omega)]
      have := h.1 (Or.inl h1)
      omega
    · by_cases h3 : a = t
      · rw [if_neg h1, if_pos h3]
        have := h.1 (Or.inr h3)
        omega
      · rw [if_neg h1, if_neg h3]
        have : ¬ degI P a N % 2 = 1 := fun hh => (h.2 ⟨ha, hh⟩).elim h1 h3
        omega
  | _ :: _ :: _ :: _, h2, _, _, _ => simp at h2
theorem deg_rows (f : Nat → Bool) (a : Nat) : ∀ k, degI (fun _ b => if f b then 1 else 0) a k = (((List.range k).filter f).length : Nat)
  | 0 => rfl
  | k + 1 => by
    unfold degI
    rw [deg_rows f a k, List.range_succ, List.filter_append, List.length_append]
    by_cases h : f k = true
    · simp [h]
    · simp [h]
end Go.Proofs.Ytkbgcbbloogdjac
