/- A shortest way from a node near v to another one near it, through nodes that are not near it, is a ring without a chord with v. How the search for a shortest way goes on. -/
import Derived.Test.YtkkfjfphmlcieaaGreatDirac
namespace Go.Proofs.YtkkfjfphmlcieaaGreat
section
variable {N : Nat} {adj : Nat → Nat → Bool}
/-- A way of different nodes without a chord. -/
def Ind (adj : Nat → Nat → Bool) : List Nat → Prop
  | [] => True
  | x :: l => x ∉ l ∧ (match l with
    | [] => True
    | y :: l' => adj x y = true ∧ ∀ z ∈ l', adj x z = false) ∧ Ind adj l
theorem Ind.at : ∀ {l : List Nat}, Ind adj l → ∀ i j, i < j → j < l.length → l.getD i 0 ≠ l.getD j 0 ∧ (j = i + 1 → adj (l.getD i 0) (l.getD j 0) = true) ∧ (i + 1 < j → adj (l.getD i 0) (l.getD j 0) = false)
  | [], _, i, j, _, hj => by simp at hj
  | x :: l, h, i, j, hij, hj => by
    obtain ⟨h1, h2, h3⟩ := h
    cases j with
    | zero => omega
    | succ j =>
      have hj' : j < l.length := by simpa using hj
      have hm : ∀ k, k < l.length → l.getD k 0 ∈ l := fun k hk => by
        simp only [List.getD, List.getElem?_eq_getElem hk, Option.getD_some]
        exact List.getElem_mem hk
      cases i with
      | succ i =>
        have := Ind.at h3 i j (by omega) hj'
        simp only [List.getD_cons_succ]
        exact ⟨this.1, fun e => this.2.1 (by omega), fun e => this.2.2 (by omega)⟩
      | zero =>
        simp only [List.getD_cons_succ, List.getD_cons_zero]
        refine ⟨fun e => h1 (by rw [e]; exact hm j hj'), fun e => ?_, fun e => ?_⟩
        · have : j = 0 := by omega
          subst this
          cases l with
          | nil => simp at hj'
          | cons y l' => simpa using h2.1
        · cases l with
          | nil => simp at hj'
          | cons y l' =>
            refine h2.2 _ ?_
            cases j with
            | zero => omega
            | succ j =>
              have hj2 : j < l'.length := by simpa using hj'
              rw [List.getD_cons_succ]
              simp only [List.getD, List.getElem?_eq_getElem hj2, Option.getD_some]
              exact List.getElem_mem hj2
/-- A ring of four nodes or more without a chord. -/
structure IsHole (N : Nat) (adj : Nat → Nat → Bool) (h : List Nat) : Prop where
  len : 4 ≤ h.length
  lt : ∀ x ∈ h, x < N
  ne : ∀ i j, i < j → j < h.length → h.getD i 0 ≠ h.getD j 0
  next : ∀ i, i + 1 < h.length → adj (h.getD i 0) (h.getD (i + 1) 0) = true
  last : adj (h.getD (h.length - 1) 0) (h.getD 0 0) = true
  no : ∀ i j, i + 1 < j → j < h.length → ¬ (i = 0 ∧ j = h.length - 1) → adj (h.getD i 0) (h.getD j 0) = false
theorem hole_of (hs : ∀ x y, adj x y = adj y x) {l : List Nat} {v : Nat} (hi : Ind adj l) (h3 : 3 ≤ l.length) (hlt : ∀ x ∈ l, x < N) (hv : v < N) (h0 : adj v (l.getD 0 0) = true) (h1 : adj v (l.getD (l.length - 1) 0) = true)
    (hm : ∀ i, 0 < i → i + 1 < l.length → adj v (l.getD i 0) = false) (hne : ∀ x ∈ l, x ≠ v) : IsHole N adj (l ++ [v]) := by
  have hl : (l ++ [v]).length = l.length + 1 := by simp
  have e1 : ∀ i, i < l.length → (l ++ [v]).getD i 0 = l.getD i 0 := fun i h => by simp [List.getD, List.getElem?_append_left h]
  have e2 : (l ++ [v]).getD l.length 0 = v := by simp [List.getD]
  have hmem : ∀ k, k < l.length → l.getD k 0 ∈ l := fun k hk => by
    simp only [List.getD, List.getElem?_eq_getElem hk, Option.getD_some]
    exact List.getElem_mem hk
  refine ⟨by omega, fun x hx => ?_, fun i j hij hj => ?_, fun i h => ?_, ?_, fun i j hij hj hn => ?_⟩
  · rcases List.mem_append.1 hx with h | h
    · exact hlt x h
    · rw [List.mem_singleton.1 h]; exact hv
  · rw [hl] at hj
    by_cases e : j = l.length
    · rw [e, e2, e1 i (by omega)]; exact hne _ (hmem i (by omega))
    · rw [e1 i (by omega), e1 j (by omega)]; exact (hi.at i j hij (by omega)).1
  · rw [hl] at h
    by_cases e : i + 1 = l.length
    · rw [e, e2, e1 i (by omega), hs]
      have : i = l.length - 1 := by omega
      rw [this]; exact h1
    · rw [e1 i (by omega), e1 (i + 1) (by omega)]; exact (hi.at i (i + 1) (by omega) (by omega)).2.1 rfl
  · rw [hl, show l.length + 1 - 1 = l.length by omega, e2, e1 0 (by omega)]; exact h0
  · rw [hl] at hj hn
    by_cases e : j = l.length
    · rw [e, e2, e1 i (by omega), hs]
      have hi0 : i ≠ 0 := fun h => hn ⟨h, by omega⟩
      exact hm i (by omega) (by omega)
    · rw [e1 i (by omega), e1 j (by omega)]; exact (hi.at i j (by omega) (by omega)).2.2 hij
/-- From node to node back, to the one that was met from itself. -/
inductive Chain (bk : Nat → Int) : Nat → List Nat → Prop
  | one {v : Nat} : bk v = (v : Int) → Chain bk v [v]
  | cons {v p : Nat} {l : List Nat} : bk v = (p : Int) → p ≠ v → Chain bk p l → Chain bk v (v :: l)
/-- How far the search has come: the nodes of Q were met, in this order, each from the first that is near it; of the first i all near nodes were looked at. -/
structure Bq (N : Nat) (adj : Nat → Nat → Bool) (opn lst : Nat → Bool) (a : Nat) (Q : List Nat) (bk : Nat → Int) (i : Nat) : Prop where
  pos : 0 < Q.length
  first : Q.getD 0 0 = a
  lt : ∀ x ∈ Q, x < N
  nd : Q.Nodup
  self : bk a = (a : Int)
  met : ∀ x, x < N → (bk x = -1 ↔ x ∉ Q)
  back : ∀ k, 0 < k → k < Q.length → opn (Q.getD k 0) = true ∧ lst (Q.getD k 0) = false ∧ ∃ p, p < k ∧ p ≤ i ∧ bk (Q.getD k 0) = (Q.getD p 0 : Int) ∧ adj (Q.getD p 0) (Q.getD k 0) = true ∧ ∀ l, l < p → adj (Q.getD l 0) (Q.getD k 0) = false
  shut : ∀ l, l < i → l < Q.length → ∀ y, y < N → adj (Q.getD l 0) y = true → y ∈ Q ∨ (lst y = false ∧ opn y = false)
variable {opn lst : Nat → Bool} {a : Nat} {Q : List Nat} {bk : Nat → Int} {i : Nat}
theorem getD_memC {L : List Nat} {i : Nat} (h : i < L.length) : L.getD i 0 ∈ L := by
  simp only [List.getD, List.getElem?_eq_getElem h, Option.getD_some]
  exact List.getElem_mem h
theorem getD_injC {L : List Nat} (hn : L.Nodup) {i j : Nat} (hi : i < L.length) (hj : j < L.length) (e : L.getD i 0 = L.getD j 0) : i = j := by
  have e1 : L.getD i 0 = L[i] := by simp [List.getD, List.getElem?_eq_getElem hi]
  have e2 : L.getD j 0 = L[j] := by simp [List.getD, List.getElem?_eq_getElem hj]
  rw [e1, e2] at e
  rcases Nat.lt_trichotomy i j with h | h | h
  · exact absurd e (List.pairwise_iff_getElem.1 hn i j hi hj h)
  · exact h
  · exact absurd e.symm (List.pairwise_iff_getElem.1 hn j i hj hi h)
/-- A search that has come to its end without an answer. -/
theorem Bq.none (h : Bq N adj opn lst a Q bk Q.length) {x y u : Nat} (hx : adj a x = true) (hxy : Cn (fun a b => adj a b = true) (fun z => z < N ∧ opn z = true) x y) (hyu : adj y u = true) (hu : u < N) (hua : u ≠ a) (hl : lst u = true) : False := by
  have inQ : ∀ z, z ∈ Q → ∀ w, w < N → adj z w = true → w ∈ Q ∨ (lst w = false ∧ opn w = false) := fun z hz w hw hzw => by
    obtain ⟨k, hk, rfl⟩ := List.getElem_of_mem hz
    have e : Q[k] = Q.getD k 0 := by simp [List.getD, List.getElem?_eq_getElem hk]
    rw [e] at hzw
    exact h.shut k hk hk w hw hzw
  have ha : a ∈ Q := by rw [← h.first]; exact getD_memC h.pos
  have all : ∀ z, Cn (fun a b => adj a b = true) (fun z => z < N ∧ opn z = true) x z → z ∈ Q := fun z hz => by
    induction hz with
    | refl hx' =>
      rcases inQ a ha x hx'.1 hx with h1 | h1
      · exact h1
      · rw [h1.2] at hx'; cases hx'.2
    | step _ h2 h3 ih =>
      rcases inQ _ ih _ h3.1 h2 with h1 | h1
      · exact h1
      · rw [h1.2] at h3; cases h3.2
  rcases inQ y (all y hxy) u hu hyu with h1 | h1
  · obtain ⟨k, hk, e⟩ := List.getElem_of_mem h1
    have e' : Q.getD k 0 = u := by simp [List.getD, List.getElem?_eq_getElem hk, e]
    have hk0 : 0 < k := Nat.pos_of_ne_zero fun h0 => by
      subst h0
      rw [h.first] at e'
      exact hua e'.symm
    have := (h.back k hk0 hk).2.1
    rw [e', hl] at this
    cases this
  · rw [hl] at h1; cases h1.1
/-- The way back from a node of Q. -/
theorem Bq.chain (h : Bq N adj opn lst a Q bk i) (hs : ∀ x y, adj x y = adj y x) : ∀ k, k < Q.length → ∀ W, Chain bk (Q.getD k 0) W →
    Ind adj W ∧ 0 < W.length ∧ W.getD 0 0 = Q.getD k 0 ∧ W.getD (W.length - 1) 0 = a ∧ (∀ t, 0 < t → t < W.length → ∃ l, l < k ∧ W.getD t 0 = Q.getD l 0) ∧ (∀ x ∈ W, x ∈ Q ∧ (x = a ∨ opn x = true)) ∧ (∀ t, t + 1 < W.length → W.getD t 0 ≠ a) ∧ (0 < k → 1 < W.length) := by
  intro k
  induction k using Nat.strongRecOn with
  | _ k ih =>
    intro hk W hW
    by_cases hk0 : k = 0
    · subst hk0
      rw [h.first] at hW ⊢
      cases hW with
      | one _ => exact ⟨⟨by simp, trivial, trivial⟩, by simp, by simp, by simp, fun t h1 h2 => by simp at h2; omega, fun x hx => by
          rw [List.mem_singleton.1 hx]
          exact ⟨by rw [← h.first]; exact getD_memC h.pos, Or.inl rfl⟩, fun t ht => by simp at ht, fun h => absurd h (Nat.lt_irrefl _)⟩
      | cons h1 h2 _ => rw [h.self] at h1; omega
    · obtain ⟨ho, _, p, hp, _, hbk, hadj, hfirst⟩ := h.back k (by omega) hk
      have hka : Q.getD k 0 ≠ a := fun e => by
        rw [← h.first] at e
        exact hk0 (getD_injC h.nd hk h.pos e)
      generalize hv : Q.getD k 0 = v at hW
      cases hW with
      | one h1 =>
        rw [← hv, hbk] at h1
        have e : Q.getD p 0 = Q.getD k 0 := by omega
        have := getD_injC h.nd (by omega) hk e
        omega
      | @cons _ p' l h1 h2 h3 =>
        have hpp : p' = Q.getD p 0 := by rw [← hv, hbk] at h1; omega
        subst hpp
        obtain ⟨i1, i2, i3, i4, i5, i6, i7, _⟩ := ih p hp (by omega) l h3
        have hidx : ∀ z, z ∈ l → ∃ q, q ≤ p ∧ z = Q.getD q 0 := fun z hz => by
          obtain ⟨t, ht, e⟩ := List.getElem_of_mem hz
          have e' : l.getD t 0 = z := by simp [List.getD, List.getElem?_eq_getElem ht, e]
          by_cases h0 : t = 0
          · subst h0; exact ⟨p, Nat.le_refl _, by rw [← e', i3]⟩
          · obtain ⟨q, hq, e2⟩ := i5 t (by omega) ht
            exact ⟨q, by omega, by rw [← e', e2]⟩
        refine ⟨⟨fun hm => ?_, ?_, i1⟩, by simp, by simp, ?_, fun t h1 h2 => ?_, fun x hx => ?_, fun t ht => ?_, fun _ => by simp; omega⟩
        · obtain ⟨q, hq, e⟩ := hidx _ hm
          rw [← hv] at e
          have := getD_injC h.nd hk (by omega) e
          omega
        · cases l with
          | nil => trivial
          | cons y l' =>
            refine ⟨?_, fun z hz => ?_⟩
            · have : y = Q.getD p 0 := by simpa using i3
              rw [this, ← hv, hs]; exact hadj
            · obtain ⟨t, ht, e⟩ := List.getElem_of_mem hz
              have e' : (y :: l').getD (t + 1) 0 = z := by simp [List.getD, List.getElem?_eq_getElem ht, e]
              obtain ⟨q, hq, e2⟩ := i5 (t + 1) (by omega) (by simpa using ht)
              rw [← e', e2, ← hv, hs]
              exact hfirst q hq
        · cases l with
          | nil => simp at i2
          | cons y l' => simpa using i4
        · cases t with
          | zero => omega
          | succ t =>
            have ht : t < l.length := by simpa using h2
            obtain ⟨q, hq, e⟩ := hidx (l.getD t 0) (getD_memC ht)
            exact ⟨q, by omega, by simpa using e⟩
        · rcases List.mem_cons.1 hx with rfl | hx
          · rw [← hv]; exact ⟨getD_memC hk, Or.inr ho⟩
          · exact i6 x hx
        · cases t with
          | zero => rw [List.getD_cons_zero, ← hv]; exact hka
          | succ t =>
            simp only [List.getD_cons_succ]
            exact i7 t (by simpa using ht)
/-- What the search answers is, with v, a ring without a chord. -/
theorem Bq.hole (h : Bq N adj opn lst a Q bk i) (hs : ∀ x y, adj x y = adj y x) (hi : ∀ x, adj x x = false) {v u : Nat} (hv : v < N) (ha : adj v a = true) (hop : ∀ x, x < N → opn x = true → x ≠ v ∧ adj v x = false) (hls : ∀ x, lst x = true → adj v x = true ∧ adj a x = false)
    (hiq : i < Q.length) (hu : u < N) (hau : adj (Q.getD i 0) u = true) (hnu : bk u = -1) (hlu : lst u = true) {W : List Nat} (hW : Chain (fun x => if x = u then (Q.getD i 0 : Int) else bk x) u W) : IsHole N adj (W ++ [v]) := by
  have huQ : u ∉ Q := (h.met u hu).1 hnu
  have hno : ∀ l, l < i → adj (Q.getD l 0) u = false := fun l hl => by
    cases hc : adj (Q.getD l 0) u with
    | false => rfl
    | true =>
      rcases h.shut l hl (by omega) u hu hc with h1 | h1
      · exact absurd h1 huQ
      · rw [hlu] at h1; cases h1.1
  have hne : ∀ x ∈ Q, x ≠ u := fun x hx e => huQ (e ▸ hx)
  have conv : ∀ k, k < Q.length → ∀ W, Chain (fun x => if x = u then (Q.getD i 0 : Int) else bk x) (Q.getD k 0) W → Chain bk (Q.getD k 0) W := by
    intro k
    induction k using Nat.strongRecOn with
    | _ k ih =>
      intro hk W hW
      have hku := hne _ (getD_memC hk)
      generalize hg : Q.getD k 0 = w at hW hku
      cases hW with
      | one h1 => rw [if_neg hku] at h1; exact Chain.one h1
      | @cons _ p l h1 h2 h3 =>
        rw [if_neg hku] at h1
        by_cases hk0 : k = 0
        · subst hk0
          rw [h.first] at hg
          rw [← hg, h.self] at h1
          omega
        · obtain ⟨_, _, p', hp', _, hb, _⟩ := h.back k (by omega) hk
          rw [hg, h1] at hb
          have e : p = Q.getD p' 0 := by omega
          rw [e] at h3 h1 h2
          exact Chain.cons h1 h2 (ih p' hp' (by omega) l h3)
  cases hW with
  | one h1 =>
    rw [if_pos rfl] at h1
    have e : Q.getD i 0 = u := by omega
    exact absurd (e ▸ getD_memC hiq) huQ
  | @cons _ p l h1 h2 h3 =>
    rw [if_pos rfl] at h1
    have e : p = Q.getD i 0 := by omega
    rw [e] at h3
    obtain ⟨c1, c2, c3, c4, c5, c6, c7, c8⟩ := h.chain hs i hiq l (conv i hiq l h3)
    have hua : adj a u = false := (hls u hlu).2
    have hi0 : 0 < i := Nat.pos_of_ne_zero fun h0 => by
      subst h0
      rw [h.first, hua] at hau
      cases hau
    have hl2 := c8 hi0
    refine hole_of hs ⟨fun hm => huQ (c6 u hm).1, ?_, c1⟩ (by simp; omega) (fun x hx => ?_) hv ?_ ?_ (fun t h0 h1 => ?_) (fun x hx => ?_)
    · cases l with
      | nil => trivial
      | cons y l' =>
        refine ⟨?_, fun z hz => ?_⟩
        · have : y = Q.getD i 0 := by simpa using c3
          rw [this, hs]; exact hau
        · obtain ⟨t, ht, e⟩ := List.getElem_of_mem hz
          have e' : (y :: l').getD (t + 1) 0 = z := by simp [List.getD, List.getElem?_eq_getElem ht, e]
          obtain ⟨q, hq, e2⟩ := c5 (t + 1) (by omega) (by simpa using ht)
          rw [← e', e2, hs]
          exact hno q hq
    · rcases List.mem_cons.1 hx with rfl | hx
      · exact hu
      · exact h.lt x (c6 x hx).1
    · simpa using (hls u hlu).1
    · have e9 : (u :: l).getD ((u :: l).length - 1) 0 = a := by
        rw [List.length_cons, Nat.add_sub_cancel]
        obtain ⟨n, hn⟩ : ∃ n, l.length = n + 1 := ⟨l.length - 1, by omega⟩
        rw [hn, List.getD_cons_succ]
        rw [hn, Nat.add_sub_cancel] at c4
        exact c4
      rw [e9]; exact ha
    · cases t with
      | zero => omega
      | succ t =>
        rw [List.getD_cons_succ]
        have ht : t + 1 < l.length := by simpa using h1
        have hm := getD_memC (L := l) (show t < l.length by omega)
        rcases (c6 _ hm).2 with h2 | h2
        · exact absurd h2 (c7 t ht)
        · exact (hop _ (h.lt _ (c6 _ hm).1) h2).2
    · rcases List.mem_cons.1 hx with rfl | hx
      · intro e
        have := (hls x hlu).1
        rw [e, hi] at this
        cases this
      · rcases (c6 x hx).2 with h2 | h2
        · intro e
          rw [← h2, e, hi] at ha
          cases ha
        · exact (hop x (h.lt x (c6 x hx).1) h2).1
end
end Go.Proofs.YtkkfjfphmlcieaaGreat

namespace Go.Proofs.YtkkfjfphmlcieaaGreat
section
variable {N : Nat} {adj : Nat → Nat → Bool} {opn lst : Nat → Bool} {a : Nat} {Q : List Nat} {bk : Nat → Int} {i : Nat}
def updB (bk : Nat → Int) (u : Nat) (x : Int) : Nat → Int := fun z => if z = u then x else bk z
theorem Bq.start (ha : a < N) : Bq N adj opn lst a [a] (updB (fun _ => -1) a a) 0 where
  pos := by simp
  first := rfl
  lt := fun x hx => by rw [List.mem_singleton.1 hx]; exact ha
  nd := by simp
  self := if_pos rfl
  met := fun x _ => by
    unfold updB
    by_cases e : x = a
    · subst e; simp
    · simp [e]
  back := fun k h0 h1 => by simp at h1; omega
  shut := fun l h => by omega
theorem getD_pushC {L : List Nat} {x k : Nat} (h : k < L.length) : (L ++ [x]).getD k 0 = L.getD k 0 := by simp [List.getD, List.getElem?_append_left h]
theorem getD_lastC {L : List Nat} {x : Nat} : (L ++ [x]).getD L.length 0 = x := by simp [List.getD]
theorem Bq.push (h : Bq N adj opn lst a Q bk i) (hi : i < Q.length) {u : Nat} (hu : u < N) (hb : bk u = -1) (hl : lst u = false) (ho : opn u = true) (ha : adj (Q.getD i 0) u = true) : Bq N adj opn lst a (Q ++ [u]) (updB bk u (Q.getD i 0)) i := by
  have huQ := (h.met u hu).1 hb
  have hne : ∀ x ∈ Q, x ≠ u := fun x hx e => huQ (e ▸ hx)
  have haQ : a ∈ Q := by rw [← h.first]; exact getD_memC h.pos
  refine ⟨by simp, by rw [getD_pushC h.pos]; exact h.first, fun x hx => ?_, ?_, ?_, fun x hx => ?_, fun k h0 h1 => ?_, fun l h1 h2 y hy hya => ?_⟩
  · rcases List.mem_append.1 hx with h1 | h1
    · exact h.lt x h1
    · rw [List.mem_singleton.1 h1]; exact hu
  · rw [List.nodup_append]
    exact ⟨h.nd, by simp, fun x hx y hy e => by rw [List.mem_singleton.1 hy] at e; exact hne x hx e⟩
  · unfold updB; rw [if_neg (hne a haQ)]; exact h.self
  · unfold updB
    by_cases e : x = u
    · subst e
      rw [if_pos rfl]
      simp
    · rw [if_neg e, h.met x hx]
      simp [e]
  · by_cases hk : k < Q.length
    · obtain ⟨h2, h3, p, hp, hpi, hbk, had, hf⟩ := h.back k h0 hk
      rw [getD_pushC hk]
      refine ⟨h2, h3, p, hp, hpi, ?_, ?_, fun l hl => ?_⟩
      · unfold updB; rw [if_neg (hne _ (getD_memC hk)), getD_pushC (by omega)]; exact hbk
      · rw [getD_pushC (by omega)]; exact had
      · rw [getD_pushC (by omega)]; exact hf l hl
    · have hkq : k = Q.length := by simp at h1; omega
      subst hkq
      rw [getD_lastC]
      refine ⟨ho, hl, i, hi, Nat.le_refl _, ?_, ?_, fun l hl' => ?_⟩
      · unfold updB; rw [if_pos rfl, getD_pushC hi]
      · rw [getD_pushC hi]; exact ha
      · rw [getD_pushC (by omega)]
        cases hc : adj (Q.getD l 0) u with
        | false => rfl
        | true =>
          rcases h.shut l hl' (by omega) u hu hc with h1 | h1
          · exact absurd h1 huQ
          · rw [ho] at h1; cases h1.2
  · have hl2 : l < Q.length := by omega
    rw [getD_pushC hl2] at hya
    rcases h.shut l h1 hl2 y hy hya with h3 | h3
    · exact Or.inl (List.mem_append.2 (Or.inl h3))
    · exact Or.inr h3
theorem Bq.next (h : Bq N adj opn lst a Q bk i) (hall : ∀ y, y < N → adj (Q.getD i 0) y = true → y ∈ Q ∨ (lst y = false ∧ opn y = false)) : Bq N adj opn lst a Q bk (i + 1) := by
  refine ⟨h.pos, h.first, h.lt, h.nd, h.self, h.met, fun k h0 h1 => ?_, fun l h1 h2 y hy hya => ?_⟩
  · obtain ⟨h2, h3, p, hp, hpi, hr⟩ := h.back k h0 h1
    exact ⟨h2, h3, p, hp, by omega, hr⟩
  · by_cases e : l = i
    · subst e; exact hall y hy hya
    · exact h.shut l (by omega) h2 y hy hya
theorem Bq.len (h : Bq N adj opn lst a Q bk i) : Q.length ≤ N := by
  have : ∀ (l m : List Nat), l.Nodup → (∀ e ∈ l, e ∈ m) → l.length ≤ m.length := by
    intro l
    induction l with
    | nil => intro m _ _; exact Nat.zero_le _
    | cons x l ih =>
      intro m hn hs
      have hn' := List.nodup_cons.1 hn
      have hx := hs x (by simp)
      have h1 := ih (m.erase x) hn'.2 (fun e he => (List.mem_erase_of_ne (fun (h : e = x) => hn'.1 (h ▸ he))).2 (hs e (by simp [he])))
      rw [List.length_erase_of_mem hx] at h1
      have := List.length_pos_of_mem hx
      simp
      omega
  have := this Q (List.range N) h.nd (fun e he => List.mem_range.2 (h.lt e he))
  simpa using this
/-- There is a way back. -/
theorem Bq.some (h : Bq N adj opn lst a Q bk i) : ∀ k, k < Q.length → ∃ W, Chain bk (Q.getD k 0) W ∧ (∀ x ∈ W, x ∈ Q) ∧ W.length ≤ k + 1 := by
  intro k
  induction k using Nat.strongRecOn with
  | _ k ih =>
    intro hk
    by_cases hk0 : k = 0
    · subst hk0
      refine ⟨[Q.getD 0 0], Chain.one (by rw [h.first]; exact h.self), fun x hx => ?_, by simp⟩
      rw [List.mem_singleton.1 hx]; exact getD_memC hk
    · obtain ⟨_, _, p, hp, _, hbk, _⟩ := h.back k (by omega) hk
      obtain ⟨W, h1, h2, h3⟩ := ih p hp (by omega)
      refine ⟨Q.getD k 0 :: W, Chain.cons hbk (fun e => ?_) h1, fun x hx => ?_, by simp; omega⟩
      · have := getD_injC h.nd (by omega) hk e
        omega
      · rcases List.mem_cons.1 hx with rfl | hx
        · exact getD_memC hk
        · exact h2 x hx
/-- .. and from the last node. -/
theorem Bq.back' (h : Bq N adj opn lst a Q bk i) (hi : i < Q.length) {u : Nat} (hu : u < N) (hb : bk u = -1) : ∃ W, Chain (updB bk u (Q.getD i 0)) u W ∧ (∀ x ∈ W, x < N) ∧ W.length ≤ N + 1 := by
  have huQ := (h.met u hu).1 hb
  have conv : ∀ {v W}, Chain bk v W → (∀ x ∈ W, x ∈ Q) → Chain (updB bk u (Q.getD i 0)) v W := fun {v W} hc => by
    induction hc with
    | @one z h1 =>
      intro hq
      have hz : z ≠ u := fun e => huQ (by rw [← e]; exact hq z (by simp))
      exact Chain.one (by unfold updB; rw [if_neg hz]; exact h1)
    | @cons z p l h1 h2 _ ih =>
      intro hq
      have hz : z ≠ u := fun e => huQ (by rw [← e]; exact hq z (by simp))
      exact Chain.cons (by unfold updB; rw [if_neg hz]; exact h1) h2 (ih (fun x hx => hq x (by simp [hx])))
  obtain ⟨W, h1, h2, h3⟩ := h.some i hi
  have := h.len
  refine ⟨u :: W, Chain.cons (p := Q.getD i 0) (by unfold updB; rw [if_pos rfl]) (fun e => huQ (e ▸ getD_memC hi)) (conv h1 h2), fun x hx => ?_, by simp; omega⟩
  rcases List.mem_cons.1 hx with rfl | hx
  · exact hu
  · exact h.lt x (h2 x hx)
theorem chain_head {bk : Nat → Int} {v : Nat} {W : List Nat} (h : Chain bk v W) : ∃ l, W = v :: l := by
  cases h with
  | one _ => exact ⟨[], rfl⟩
  | cons _ _ _ => exact ⟨_, rfl⟩
end
end Go.Proofs.YtkkfjfphmlcieaaGreat
