/- Kuhn's method: what a search tells, what its numbers become, whom each row has then. -/
import Derived.Below
namespace Go.Proofs.Ytmbnaegcichoeaa

theorem nodup_le : ∀ (l : List Nat) (n : Nat), l.Nodup → (∀ a ∈ l, a < n) → l.length ≤ n
  | l, 0, _, h => by
    cases l with
    | nil => simp
    | cons a l => exact absurd (h a (by simp)) (by omega)
  | l, n + 1, hn, h => by
    have h1 := nodup_le (l.filter fun a => decide (a ≠ n)) n (hn.filter _) (fun a ha => by
      have h2 := List.mem_filter.1 ha
      have h3 := h a h2.1
      have h4 : a ≠ n := by simpa using h2.2
      omega)
    by_cases hm : n ∈ l
    · have h2 : l.length ≤ (l.filter fun a => decide (a ≠ n)).length + 1 := by
        have h3 := hn.erase n
        have h4 : (l.erase n).length = l.length - 1 := List.length_erase_of_mem hm
        have h5 : l.erase n = l.filter fun a => decide (a ≠ n) := by
          rw [List.Nodup.erase_eq_filter hn]
          congr 1
          funext a
          by_cases e : a = n <;> simp [e]
        rw [← h5, h4]
        omega
      omega
    · have h2 : l.filter (fun a => decide (a ≠ n)) = l := by
        rw [List.filter_eq_self]
        intro a ha
        have : a ≠ n := fun e => hm (e ▸ ha)
        simpa using this
      rw [h2] at h1
      omega
section
variable {n s : Nat} {C : Nat → Nat → Int} {r u tk ow : Nat → Int}
/-- s rows have a column, and the numbers show that it is as cheap as can be. -/
structure Mt (n s : Nat) (C : Nat → Nat → Int) (r u tk ow : Nat → Int) : Prop where
  low : ∀ i j, i < n → j < n → r i + u j ≤ C i j
  eq : ∀ i, i < s → ∃ j : Nat, j < n ∧ tk i = j ∧ ow j = i ∧ r i + u j = C i j
  off : ∀ i, s ≤ i → i < n → tk i = -1
  own : ∀ j, j < n → ow j = -1 ∨ ∃ i : Nat, i < s ∧ ow j = i ∧ tk i = j
  rlow : ∀ i, i < n → -1000000 ≤ r i
  uup : ∀ j, j < n → u j ≤ 0
  free : ∀ j, j < n → ow j = -1 → u j = 0
  rbnd : ∀ i, i < n → r i ≤ 10000000
  ubnd : ∀ j, j < n → -10000000 ≤ u j
/-- A list of columns that are had is no longer than the rows that have one. -/
theorem Mt.short (h : Mt n s C r u tk ow) {L : List Nat} (hn : L.Nodup) (hl : ∀ d ∈ L, d < n) (hm : ∀ d ∈ L, ow d ≠ -1) : L.length ≤ s := by
  have h1 := nodup_le (L.map fun d => (ow d).toNat) s (by
    rw [List.Nodup, List.pairwise_map]
    refine List.Pairwise.imp_of_mem (fun {a b} ha hb hab => ?_) hn
    obtain ⟨i, _, e1, e2⟩ := (h.own a (hl a ha)).resolve_left (hm a ha)
    obtain ⟨i', _, e3, e4⟩ := (h.own b (hl b hb)).resolve_left (hm b hb)
    intro e
    rw [e1, e3] at e
    have : i = i' := by omega
    subst this
    rw [e2] at e4
    exact hab (by omega)) (fun a ha => by
    obtain ⟨d, hd, rfl⟩ := List.mem_map.1 ha
    obtain ⟨i, hi, e1, _⟩ := (h.own d (hl d hd)).resolve_left (hm d hd)
    rw [e1]; omega)
  simpa using h1
theorem Mt.some (h : Mt n s C r u tk ow) (hs : s < n) {L : List Nat} (hm : ∀ d ∈ L, ow d ≠ -1) : ∃ j, j < n ∧ j ∉ L ∧ ow j = -1 := by
  apply Classical.byContradiction
  intro hno
  have h1 : ∀ j, j < n → ow j = -1 → j ∈ L := fun j hj ho => Classical.byContradiction fun hjl => hno ⟨j, hj, hjl, ho⟩
  have h2 := h.short (L := List.range n) List.nodup_range (fun d hd => by simpa using hd) (fun d hd ho => hm d (h1 d (by simpa using hd) ho) ho)
  simp at h2
  omega
theorem Mt.tight (h : Mt n s C r u tk ow) (hs : s < n) (hC : ∀ i j, i < n → j < n → -1000000 ≤ C i j ∧ C i j ≤ 1000000) : (∀ i, i < n → r i ≤ 1000000) ∧ ∀ j, j < n → -2000000 ≤ u j := by
  obtain ⟨j0, hj0, _, ho⟩ := h.some hs (L := []) (fun d hd => by cases hd)
  have hu := h.free j0 hj0 ho
  have hr : ∀ i, i < n → r i ≤ 1000000 := fun i hi => by
    have := h.low i j0 hi hj0
    have := hC i j0 hi hj0
    omega
  refine ⟨hr, fun j hj => ?_⟩
  rcases h.own j hj with h1 | ⟨i, hi, h1, h2⟩
  · rw [h.free j hj h1]; omega
  · obtain ⟨j', hj', e1, e2, e3⟩ := h.eq i hi
    have : j' = j := by omega
    subst this
    have := hr i (by omega)
    have := hC i j' (by omega) hj'
    omega
/-- A search from row s: the columns L are done, all of them had by rows. -/
structure Sr (n s : Nat) (C : Nat → Nat → Int) (r u ow : Nat → Int) (L : List Nat) (fa fr : Nat → Int) : Prop where
  nodup : L.Nodup
  lt : ∀ d ∈ L, d < n
  mat : ∀ d ∈ L, ow d ≠ -1
  mono : ∀ d ∈ L, ∀ j, j < n → j ∉ L → fa d ≤ fa j
  pos : ∀ j, j < n → 0 ≤ fa j
  up : ∀ j, j < n → fa j ≤ C s j - r s - u j
  rel : ∀ d ∈ L, ∀ i : Nat, ow d = i → ∀ j, j < n → fa j ≤ fa d + (C i j - r i - u j)
  frm : ∀ j, j < n → (fr j = s ∧ fa j = C s j - r s - u j) ∨ ∃ (q d i : Nat), L[q]? = some d ∧ (∀ p, L[p]? = some j → q < p) ∧ ow d = i ∧ fr j = i ∧ fa j = fa d + (C i j - r i - u j)
variable {L : List Nat} {fa fr : Nat → Int}
theorem Sr.start (h : Mt n s C r u tk ow) (hs : s < n) : Sr n s C r u ow [] (fun j => C s j - r s - u j) (fun _ => s) where
  nodup := List.nodup_nil
  lt := fun d hd => by cases hd
  mat := fun d hd => by cases hd
  mono := fun d hd => by cases hd
  pos := fun j hj => by have := h.low s j hs hj; omega
  up := fun j _ => Int.le_refl _
  rel := fun d hd => by cases hd
  frm := fun j _ => Or.inl ⟨rfl, rfl⟩
def relF (fa : Nat → Int) (x : Int) (rs : Nat → Int) (k j : Nat) : Int := if j < k ∧ x + rs j < fa j then x + rs j else fa j
def relR (fa fr : Nat → Int) (x : Int) (rs : Nat → Int) (i : Int) (k j : Nat) : Int := if j < k ∧ x + rs j < fa j then i else fr j
theorem Sr.step (h : Mt n s C r u tk ow) (hs : s < n) (hr : Sr n s C r u ow L fa fr) {col i : Nat} (hc : col < n) (hcl : col ∉ L) (hmin : ∀ j, j < n → j ∉ L → fa col ≤ fa j) (ho : ow col = i) :
    Sr n s C r u ow (L ++ [col]) (relF fa (fa col) (fun j => C i j - r i - u j) n) (relR fa fr (fa col) (fun j => C i j - r i - u j) i n) := by
  obtain ⟨i', hi', e1, e2⟩ := (h.own col hc).resolve_left (by omega)
  have hii : i' = i := by omega
  subst hii
  have hin : i' < n := by omega
  have hrest : ∀ j, j < n → 0 ≤ C i' j - r i' - u j := fun j hj => by have := h.low i' j hin hj; omega
  have hle : ∀ j, j < n → relF fa (fa col) (fun j => C i' j - r i' - u j) n j ≤ fa j ∧ relF fa (fa col) (fun j => C i' j - r i' - u j) n j ≤ fa col + (C i' j - r i' - u j) := fun j hj => by
    unfold relF
    by_cases hq : j < n ∧ fa col + (fun j => C i' j - r i' - u j) j < fa j
    · rw [if_pos hq]; have := hq.2; simp only at this ⊢; omega
    · rw [if_neg hq]
      have : ¬ fa col + (C i' j - r i' - u j) < fa j := fun h' => hq ⟨hj, h'⟩
      omega
  have hsame : ∀ j, j < n → (j ∈ L ∨ j = col) → relF fa (fa col) (fun j => C i' j - r i' - u j) n j = fa j ∧ relR fa fr (fa col) (fun j => C i' j - r i' - u j) i' n j = fr j := fun j hj hm => by
    have h1 := hrest j hj
    have h2 : fa j ≤ fa col := by
      rcases hm with hm | rfl
      · exact hr.mono j hm col hc hcl
      · exact Int.le_refl _
    have hq : ¬ (j < n ∧ fa col + (fun j => C i' j - r i' - u j) j < fa j) := fun h' => by have := h'.2; simp only at this; omega
    exact ⟨if_neg hq, if_neg hq⟩
  have hge : ∀ j, j < n → j ∉ L → fa col ≤ relF fa (fa col) (fun j => C i' j - r i' - u j) n j := fun j hj hjl => by
    have h1 := hrest j hj
    have h2 := hmin j hj hjl
    unfold relF
    by_cases hq : j < n ∧ fa col + (fun j => C i' j - r i' - u j) j < fa j
    · rw [if_pos hq]; simp only; omega
    · rw [if_neg hq]; exact h2
  refine ⟨?_, ?_, ?_, ?_, ?_, ?_, ?_, ?_⟩
  · rw [List.nodup_append]
    exact ⟨hr.nodup, by simp, fun a ha b hb e => by simp at hb; subst hb; subst e; exact hcl ha⟩
  · intro d hd
    rcases List.mem_append.1 hd with hd | hd
    · exact hr.lt d hd
    · simp at hd; subst hd; exact hc
  · intro d hd
    rcases List.mem_append.1 hd with hd | hd
    · exact hr.mat d hd
    · simp at hd; subst hd; omega
  · intro d hd j hj hjl
    have hj1 : j ∉ L := fun h' => hjl (List.mem_append.2 (Or.inl h'))
    rcases List.mem_append.1 hd with hd | hd
    · rw [(hsame d (hr.lt d hd) (Or.inl hd)).1]
      exact Int.le_trans (hr.mono d hd col hc hcl) (hge j hj hj1)
    · simp at hd; subst hd
      rw [(hsame d hc (Or.inr rfl)).1]
      exact hge j hj hj1
  · intro j hj
    unfold relF
    have h1 := hrest j hj
    have h2 := hr.pos col hc
    by_cases hq : j < n ∧ fa col + (fun j => C i' j - r i' - u j) j < fa j
    · rw [if_pos hq]; simp only; omega
    · rw [if_neg hq]; exact hr.pos j hj
  · intro j hj
    exact Int.le_trans (hle j hj).1 (hr.up j hj)
  · intro d hd i ho' j hj
    rcases List.mem_append.1 hd with hd | hd
    · rw [(hsame d (hr.lt d hd) (Or.inl hd)).1]
      exact Int.le_trans (hle j hj).1 (hr.rel d hd i ho' j hj)
    · simp at hd; subst hd
      rw [(hsame d hc (Or.inr rfl)).1]
      have : i = i' := by omega
      subst this
      exact (hle j hj).2
  · intro j hj
    by_cases hq : j < n ∧ fa col + (fun j => C i' j - r i' - u j) j < fa j
    · have hjn : ¬ (j ∈ L ∨ j = col) := fun hm => by
        have := (hsame j hj hm).1
        unfold relF at this
        rw [if_pos hq] at this
        have := hq.2
        omega
      refine Or.inr ⟨L.length, col, i', by simp, fun p hp => ?_, ho, if_pos hq, ?_⟩
      · exfalso
        have := List.mem_of_getElem? hp
        rcases List.mem_append.1 this with h1 | h1
        · exact hjn (Or.inl h1)
        · simp at h1; exact hjn (Or.inr h1)
      · rw [(hsame col hc (Or.inr rfl)).1]
        exact if_pos hq
    · have e3 : relF fa (fa col) (fun j => C i' j - r i' - u j) n j = fa j := if_neg hq
      have e4 : relR fa fr (fa col) (fun j => C i' j - r i' - u j) i' n j = fr j := if_neg hq
      rw [e3, e4]
      rcases hr.frm j hj with h1 | ⟨q, d, i, h1, h2, h3, h4, h5⟩
      · exact Or.inl h1
      · have hql := (List.getElem?_eq_some_iff.1 h1).1
        have hd := List.mem_of_getElem? h1
        refine Or.inr ⟨q, d, i, by rw [List.getElem?_append_left hql]; exact h1, fun p hp => ?_, h3, h4, by rw [(hsame d (hr.lt d hd) (Or.inl hd)).1]; exact h5⟩
        by_cases hpl : p < L.length
        · rw [List.getElem?_append_left hpl] at hp
          exact h2 p hp
        · omega
end
/-- The rows' numbers, and the columns', when those on the way are shifted. -/
def shR (ow fa : Nat → Int) (W : Int) (L : List Nat) (r : Nat → Int) : Nat → Int := L.foldl (fun r d => fun i => if (i : Int) = ow d then r i + (W - fa d) else r i) r
def shU (fa : Nat → Int) (W : Int) (L : List Nat) (u : Nat → Int) : Nat → Int := L.foldl (fun u d => fun j => if j = d then u j - (W - fa d) else u j) u
theorem shR_snoc (ow fa : Nat → Int) (W : Int) (L : List Nat) (d : Nat) (r : Nat → Int) : shR ow fa W (L ++ [d]) r = fun (i : Nat) => if (i : Int) = ow d then shR ow fa W L r i + (W - fa d) else shR ow fa W L r i := by
  unfold shR; rw [List.foldl_append]; rfl
theorem shU_snoc (fa : Nat → Int) (W : Int) (L : List Nat) (d : Nat) (u : Nat → Int) : shU fa W (L ++ [d]) u = fun j => if j = d then shU fa W L u j - (W - fa d) else shU fa W L u j := by
  unfold shU; rw [List.foldl_append]; rfl
theorem shR_out {ow fa : Nat → Int} {W : Int} {i : Nat} : ∀ (L : List Nat) (r : Nat → Int), (∀ d ∈ L, ow d ≠ i) → shR ow fa W L r i = r i
  | [], r, _ => rfl
  | d :: L, r, h => by
    have h1 := shR_out (fa := fa) (W := W) L (fun i => if (i : Int) = ow d then r i + (W - fa d) else r i) (fun e he => h e (by simp [he]))
    have h2 := h d (by simp)
    show shR ow fa W L (fun i => if (i : Int) = ow d then r i + (W - fa d) else r i) i = r i
    rw [h1, if_neg (fun e => h2 e.symm)]
theorem shR_in {ow fa : Nat → Int} {W : Int} {i d : Nat} : ∀ (L : List Nat) (r : Nat → Int), L.Nodup → (∀ a ∈ L, ∀ b ∈ L, ow a = ow b → a = b) → d ∈ L → ow d = i → shR ow fa W L r i = r i + (W - fa d)
  | [], r, _, _, h, _ => by cases h
  | a :: L, r, hn, hinj, h, ho => by
    show shR ow fa W L (fun i => if (i : Int) = ow a then r i + (W - fa a) else r i) i = _
    have hn' := List.nodup_cons.1 hn
    by_cases e : d = a
    · subst e
      rw [shR_out L _ (fun b hb hob => by
        have := hinj b (by simp [hb]) d (by simp) (by rw [hob, ho])
        subst this
        exact hn'.1 hb), if_pos ho.symm]
    · have hd : d ∈ L := by simpa [e] using h
      rw [shR_in L _ hn'.2 (fun x hx y hy => hinj x (by simp [hx]) y (by simp [hy])) hd ho]
      rw [if_neg (fun e' => e (hinj d (by simp [hd]) a (by simp) (by rw [ho, e'])))]
theorem shU_out {fa : Nat → Int} {W : Int} {j : Nat} : ∀ (L : List Nat) (u : Nat → Int), j ∉ L → shU fa W L u j = u j
  | [], u, _ => rfl
  | d :: L, u, h => by
    have h1 : j ≠ d ∧ j ∉ L := by simpa using h
    show shU fa W L (fun j => if j = d then u j - (W - fa d) else u j) j = u j
    rw [shU_out L _ h1.2, if_neg h1.1]
theorem shU_in {fa : Nat → Int} {W : Int} {j : Nat} : ∀ (L : List Nat) (u : Nat → Int), L.Nodup → j ∈ L → shU fa W L u j = u j - (W - fa j)
  | [], u, _, h => by cases h
  | d :: L, u, hn, h => by
    have hn' := List.nodup_cons.1 hn
    show shU fa W L (fun j => if j = d then u j - (W - fa d) else u j) j = _
    by_cases e : j = d
    · subst e
      rw [shU_out L _ hn'.1, if_pos rfl]
    · rw [shU_in L _ hn'.2 (by simpa [e] using h), if_neg e]
section
variable {n s : Nat} {C : Nat → Nat → Int} {r u tk ow : Nat → Int} {L : List Nat} {fa fr : Nat → Int} {col : Nat}
/-- The numbers behind a search that ended at col. -/
def endR (s : Nat) (ow fa : Nat → Int) (W : Int) (L : List Nat) (r : Nat → Int) : Nat → Int := shR ow fa W L (fun i => if i = s then r i + W else r i)
theorem Mt.inj (h : Mt n s C r u tk ow) {a b : Nat} (ha : a < n) (hb : b < n) (hoa : ow a ≠ -1) (he : ow a = ow b) : a = b := by
  obtain ⟨i, _, e1, e2⟩ := (h.own a ha).resolve_left hoa
  obtain ⟨i', _, e3, e4⟩ := (h.own b hb).resolve_left (by rw [← he]; exact hoa)
  have : i = i' := by omega
  subst this
  omega
structure Ended (n : Nat) (ow fa : Nat → Int) (L : List Nat) (col : Nat) : Prop where
  lt : col < n
  new : col ∉ L
  min : ∀ j, j < n → j ∉ L → fa col ≤ fa j
  free : ow col = -1
theorem shift_vals (h : Mt n s C r u tk ow) (hr : Sr n s C r u ow L fa fr) (W : Int) :
    endR s ow fa W L r s = r s + W ∧ (∀ d ∈ L, ∀ i : Nat, ow d = i → endR s ow fa W L r i = r i + (W - fa d)) ∧ (∀ i : Nat, i ≠ s → (∀ d ∈ L, ow d ≠ i) → endR s ow fa W L r i = r i) ∧ (∀ j ∈ L, shU fa W L u j = u j - (W - fa j)) ∧ (∀ j, j ∉ L → shU fa W L u j = u j) := by
  have hns : ∀ d ∈ L, ow d ≠ s := fun d hd e => by
    obtain ⟨i, hi, e1, _⟩ := (h.own d (hr.lt d hd)).resolve_left (hr.mat d hd)
    omega
  refine ⟨?_, ?_, ?_, fun j hj => shU_in L u hr.nodup hj, fun j hj => shU_out L u hj⟩
  · unfold endR; rw [shR_out L _ hns, if_pos rfl]
  · intro d hd i ho
    unfold endR
    rw [shR_in L _ hr.nodup (fun a ha b hb e => h.inj (hr.lt a ha) (hr.lt b hb) (hr.mat a ha) e) hd ho, if_neg (fun e => hns d hd (by rw [ho, e]))]
  · intro i hi hno
    unfold endR
    rw [shR_out L _ hno, if_neg hi]
theorem shift_mt (h : Mt n s C r u tk ow) (hs : s < n) (hC : ∀ i j, i < n → j < n → -1000000 ≤ C i j ∧ C i j ≤ 1000000) (hr : Sr n s C r u ow L fa fr) (he : Ended n ow fa L col) :
    Mt n s C (endR s ow fa (fa col) L r) (shU fa (fa col) L u) tk ow ∧ ∀ j, j < n → (j ∈ L ∨ j = col) → ∀ i : Nat, fr j = i → endR s ow fa (fa col) L r i + shU fa (fa col) L u j = C i j := by
  obtain ⟨v1, v2, v3, v4, v5⟩ := shift_vals h hr (fa col)
  have hW0 := hr.pos col he.lt
  have hWu := hr.up col he.lt
  obtain ⟨t1, t2⟩ := h.tight hs hC
  have hW : fa col ≤ 4000000 := by
    have := t2 col he.lt
    have := h.rlow s hs
    have := hC s col hs he.lt
    omega
  have hfaL : ∀ d ∈ L, 0 ≤ fa d ∧ fa d ≤ fa col := fun d hd => ⟨hr.pos d (hr.lt d hd), hr.mono d hd col he.lt he.new⟩
  have hrow : ∀ i : Nat, i < n → (i = s ∧ endR s ow fa (fa col) L r i = r i + fa col ∧ ∀ j, j < n → fa j ≤ C i j - r i - u j) ∨ (∃ d ∈ L, ow d = i ∧ endR s ow fa (fa col) L r i = r i + (fa col - fa d) ∧ ∀ j, j < n → fa j ≤ fa d + (C i j - r i - u j)) ∨ (i ≠ s ∧ (∀ d ∈ L, ow d ≠ i) ∧ endR s ow fa (fa col) L r i = r i) := fun i hi => by
    by_cases e : i = s
    · subst e; exact Or.inl ⟨rfl, v1, hr.up⟩
    · by_cases hd : ∃ d ∈ L, ow d = i
      · obtain ⟨d, hd, ho⟩ := hd
        exact Or.inr (Or.inl ⟨d, hd, ho, v2 d hd i ho, hr.rel d hd i ho⟩)
      · have hno : ∀ d ∈ L, ow d ≠ i := fun d hd' ho => hd ⟨d, hd', ho⟩
        exact Or.inr (Or.inr ⟨e, hno, v3 i e hno⟩)
  have hcolm : ∀ j, j < n → j ∉ L → fa col ≤ fa j := he.min
  constructor
  · refine ⟨?_, ?_, h.off, h.own, ?_, ?_, ?_, ?_, ?_⟩
    · intro i j hi hj
      have hl := h.low i j hi hj
      by_cases hjL : j ∈ L
      · rw [v4 j hjL]
        have := hfaL j hjL
        rcases hrow i hi with ⟨_, e1, e2⟩ | ⟨d, hd, ho, e1, e2⟩ | ⟨_, _, e1⟩
        · have := e2 j hj; omega
        · have := e2 j hj; omega
        · omega
      · rw [v5 j hjL]
        have := hcolm j hj hjL
        rcases hrow i hi with ⟨_, e1, e2⟩ | ⟨d, hd, ho, e1, e2⟩ | ⟨_, _, e1⟩
        · have := e2 j hj; omega
        · have := e2 j hj; omega
        · omega
    · intro i hi
      obtain ⟨j, hj, e1, e2, e3⟩ := h.eq i hi
      refine ⟨j, hj, e1, e2, ?_⟩
      by_cases hjL : j ∈ L
      · rw [v4 j hjL, v2 j hjL i e2]; omega
      · rw [v5 j hjL, v3 i (by omega) (fun d hd ho => ?_)]
        · exact e3
        · have := h.inj (hr.lt d hd) hj (hr.mat d hd) (by rw [ho, e2])
          subst this
          exact hjL hd
    · intro i hi
      have := h.rlow i hi
      rcases hrow i hi with ⟨_, e1, _⟩ | ⟨d, hd, _, e1, _⟩ | ⟨_, _, e1⟩
      · omega
      · have := hfaL d hd; omega
      · omega
    · intro j hj
      have := h.uup j hj
      by_cases hjL : j ∈ L
      · rw [v4 j hjL]; have := hfaL j hjL; omega
      · rw [v5 j hjL]; exact this
    · intro j hj ho
      have hjL : j ∉ L := fun hm => hr.mat j hm ho
      rw [v5 j hjL]; exact h.free j hj ho
    · intro i hi
      have := t1 i hi
      rcases hrow i hi with ⟨_, e1, _⟩ | ⟨d, hd, _, e1, _⟩ | ⟨_, _, e1⟩
      · omega
      · have := hfaL d hd; omega
      · omega
    · intro j hj
      have := t2 j hj
      by_cases hjL : j ∈ L
      · rw [v4 j hjL]; have := hfaL j hjL; omega
      · rw [v5 j hjL]; omega
  · intro j hj hm i hfr
    have hu : shU fa (fa col) L u j = u j - (fa col - fa j) := by
      rcases hm with hm | rfl
      · exact v4 j hm
      · rw [v5 j he.new]; omega
    rw [hu]
    rcases hr.frm j hj with ⟨h1, h2⟩ | ⟨q, d, i', h1, _, h3, h4, h5⟩
    · have : i = s := by omega
      subst this
      rw [v1]; omega
    · have : i = i' := by omega
      subst this
      rw [v2 d (List.mem_of_getElem? h1) i h3]; omega
/-- Columns are handed on, down to the one at place p of the list. -/
structure Hd (n s : Nat) (C : Nat → Nat → Int) (r u ow : Nat → Int) (D : List Nat) (p col : Nat) (tk' ow' : Nat → Int) : Prop where
  at' : D[p]? = some col
  eq : ∀ i, i < s → ∃ j : Nat, j < n ∧ tk' i = j ∧ ow' j = i ∧ r i + u j = C i j
  off : ∀ i, s ≤ i → i < n → tk' i = -1
  own : ∀ j, j < n → j ≠ col → ow' j = -1 ∨ ∃ i : Nat, i < s ∧ ow' j = i ∧ tk' i = j
  lone : ∀ i, i < n → tk' i ≠ col
  old : ∀ q d, q < p → D[q]? = some d → ow' d = ow d ∧ ∃ i : Nat, i < s ∧ ow d = i ∧ tk' i = d
  free : ∀ j, j < n → ow' j = -1 → ow j = -1
variable {D : List Nat} {p : Nat} {tk' ow' : Nat → Int}
theorem Hd.start (h : Mt n s C r u tk ow) (hn : ∀ d ∈ D, d < n) (hp : D[p]? = some col) (ho : ow col = -1) (hold : ∀ q d, q < p → D[q]? = some d → ow d ≠ -1) : Hd n s C r u ow D p col tk ow where
  at' := hp
  eq := h.eq
  off := h.off
  own := fun j hj _ => h.own j hj
  lone := fun i hi e => by
    by_cases his : i < s
    · obtain ⟨j, hj, e1, e2, _⟩ := h.eq i his
      have : j = col := by omega
      subst this
      omega
    · have := h.off i (by omega) hi; omega
  old := fun q d hq hd => ⟨rfl, by
    obtain ⟨i, hi, e1, e2⟩ := (h.own d (hn d (List.mem_of_getElem? hd))).resolve_left (hold q d hq hd)
    exact ⟨i, hi, e1, e2⟩⟩
  free := fun _ _ h => h
/-- One step: the taker is a row that had the column at an earlier place. -/
theorem Hd.step (hd : Hd n s C r u ow D p col tk' ow') (hDn : D.Nodup) (hlt : ∀ d ∈ D, d < n) (hs : s < n) {q d i : Nat} (hq : D[q]? = some d) (hqp : q < p) (hi : ow d = i) (ht : r i + u col = C i col) :
    i < s ∧ tk' i = d ∧ Hd n s C r u ow D q d (fun k => if k = i then (col : Int) else tk' k) (fun j => if j = col then (i : Int) else ow' j) := by
  obtain ⟨_, i', hi', e1, e2⟩ := hd.old q d hqp hq
  have hii : i' = i := by omega
  subst hii
  have hcol : col < n := hlt col (List.mem_of_getElem? hd.at')
  have hdn : d < n := hlt d (List.mem_of_getElem? hq)
  have hdc : d ≠ col := fun e => by
    subst e
    obtain ⟨g1, g2⟩ := List.getElem?_eq_some_iff.1 hq
    obtain ⟨g3, g4⟩ := List.getElem?_eq_some_iff.1 hd.at'
    exact List.pairwise_iff_getElem.1 hDn q p g1 g3 hqp (by rw [g2, g4])
  refine ⟨hi', e2, ⟨hq, ?_, ?_, ?_, ?_, ?_, ?_⟩⟩
  · intro k hk
    by_cases e : k = i'
    · subst e
      exact ⟨col, hcol, if_pos rfl, if_pos rfl, ht⟩
    · obtain ⟨j, hj, h1, h2, h3⟩ := hd.eq k hk
      have hjc : j ≠ col := fun e' => hd.lone k (by omega) (by rw [h1, e'])
      exact ⟨j, hj, by rw [if_neg e]; exact h1, by rw [if_neg hjc]; exact h2, h3⟩
  · intro k hk hkn
    have : k ≠ i' := by omega
    rw [if_neg this]; exact hd.off k hk hkn
  · intro j hj hjd
    by_cases e : j = col
    · subst e
      exact Or.inr ⟨i', hi', if_pos rfl, if_pos rfl⟩
    · rcases hd.own j hj e with h1 | ⟨k, hk, h1, h2⟩
      · exact Or.inl (by rw [if_neg e]; exact h1)
      · have hki : k ≠ i' := fun e' => by subst e'; omega
        exact Or.inr ⟨k, hk, by rw [if_neg e]; exact h1, by rw [if_neg hki]; exact h2⟩
  · intro k hk
    by_cases e : k = i'
    · subst e; rw [if_pos rfl]; omega
    · rw [if_neg e]
      intro h1
      by_cases hks : k < s
      · obtain ⟨j, hj, h3, h4, _⟩ := hd.eq k hks
        obtain ⟨j', hj', h5, h6, _⟩ := hd.eq i' hi'
        have a1 : j = d := by omega
        have a2 : j' = d := by omega
        subst a1; subst a2
        omega
      · have := hd.off k (by omega) hk; omega
  · intro q' d' hq' hd'
    obtain ⟨h1, k, hk, h2, h3⟩ := hd.old q' d' (by omega) hd'
    have hne : d' ≠ col := fun e => by
      subst e
      obtain ⟨g1, g2⟩ := List.getElem?_eq_some_iff.1 hd'
      obtain ⟨g3, g4⟩ := List.getElem?_eq_some_iff.1 hd.at'
      exact List.pairwise_iff_getElem.1 hDn q' p g1 g3 (by omega) (by rw [g2, g4])
    have hki : k ≠ i' := fun e => by
      subst e
      have : d' = d := by omega
      subst this
      obtain ⟨g1, g2⟩ := List.getElem?_eq_some_iff.1 hd'
      obtain ⟨g3, g4⟩ := List.getElem?_eq_some_iff.1 hq
      exact List.pairwise_iff_getElem.1 hDn q' q g1 g3 hq' (by rw [g2, g4])
    exact ⟨by rw [if_neg hne]; exact h1, k, hk, h2, by rw [if_neg hki]; exact h3⟩
  · intro j hj h1
    by_cases e : j = col
    · subst e; rw [if_pos rfl] at h1; omega
    · rw [if_neg e] at h1; exact hd.free j hj h1
/-- The last step: the row that is served takes the column. -/
theorem Hd.last (hd : Hd n s C r u ow D p col tk' ow') (h : Mt n s C r u tk ow) (hlt : ∀ d ∈ D, d < n) (hs : s < n) (ht : r s + u col = C s col) :
    tk' s = -1 ∧ Mt n (s + 1) C r u (fun k => if k = s then (col : Int) else tk' k) (fun j => if j = col then (s : Int) else ow' j) := by
  have hcol : col < n := hlt col (List.mem_of_getElem? hd.at')
  refine ⟨hd.off s (Nat.le_refl _) hs, ⟨h.low, ?_, ?_, ?_, h.rlow, h.uup, ?_, h.rbnd, h.ubnd⟩⟩
  · intro k hk
    by_cases e : k = s
    · subst e
      exact ⟨col, hcol, if_pos rfl, if_pos rfl, ht⟩
    · obtain ⟨j, hj, h1, h2, h3⟩ := hd.eq k (by omega)
      have hjc : j ≠ col := fun e' => hd.lone k (by omega) (by rw [h1, e'])
      exact ⟨j, hj, by rw [if_neg e]; exact h1, by rw [if_neg hjc]; exact h2, h3⟩
  · intro k hk hkn
    rw [if_neg (by omega)]; exact hd.off k (by omega) hkn
  · intro j hj
    by_cases e : j = col
    · subst e
      exact Or.inr ⟨s, by omega, if_pos rfl, if_pos rfl⟩
    · rcases hd.own j hj e with h1 | ⟨k, hk, h1, h2⟩
      · exact Or.inl (by rw [if_neg e]; exact h1)
      · exact Or.inr ⟨k, by omega, by rw [if_neg e]; exact h1, by rw [if_neg (by omega)]; exact h2⟩
  · intro j hj h1
    by_cases e : j = col
    · subst e; rw [if_pos rfl] at h1; omega
    · rw [if_neg e] at h1; exact h.free j hj (hd.free j hj h1)
end
end Go.Proofs.Ytmbnaegcichoeaa
