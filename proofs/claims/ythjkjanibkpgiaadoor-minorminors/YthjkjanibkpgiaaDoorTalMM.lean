/- How often 0, 1, .. were counted. Matchings, by what the least node is paired with. -/
namespace Go.Proofs.YthjkjanibkpgiaaDoor
/-- One more of k. -/
def bump (L : List Nat) (k : Nat) : List Nat := (L ++ List.replicate (k + 1 - L.length) 0).set k (L.getD k 0 + 1)
theorem bump_len (L : List Nat) (k : Nat) : (bump L k).length = max L.length (k + 1) := by
  unfold bump
  simp
  omega
theorem bump_get (L : List Nat) (k i : Nat) : (bump L k).getD i 0 = L.getD i 0 + if i = k then 1 else 0 := by
  unfold bump
  simp only [List.getD_eq_getElem?_getD, List.getElem?_set, List.length_append, List.length_replicate]
  by_cases h : k = i
  · subst h
    rw [if_pos rfl, if_pos (by omega), if_pos rfl]
    rfl
  · rw [if_neg h, if_neg (fun e => h e.symm)]
    by_cases h2 : i < L.length
    · rw [List.getElem?_append_left h2]; rfl
    · rw [List.getElem?_append_right (by omega), List.getElem?_eq_none (l := L) (by omega), List.getElem?_replicate]
      split <;> rfl
def mxL (l : List Nat) : Nat := l.foldr (fun k m => max (k + 1) m) 0
theorem mxL_le {l : List Nat} {m : Nat} : mxL l ≤ m ↔ ∀ k ∈ l, k + 1 ≤ m := by
  induction l with
  | nil => simp [mxL]
  | cons a l ih =>
    show max (a + 1) (mxL l) ≤ m ↔ _
    simp only [List.mem_cons, forall_eq_or_imp]
    rw [← ih]
    omega
theorem fold_bump : ∀ (l L : List Nat), (l.foldl bump L).length = max L.length (mxL l) ∧ ∀ i, (l.foldl bump L).getD i 0 = L.getD i 0 + l.count i
  | [], L => ⟨by simp [mxL], fun i => by simp⟩
  | k :: l, L => by
    obtain ⟨h1, h2⟩ := fold_bump l (bump L k)
    refine ⟨?_, fun i => ?_⟩
    · show (l.foldl bump (bump L k)).length = max L.length (max (k + 1) (mxL l))
      rw [h1, bump_len]
      omega
    · show (l.foldl bump (bump L k)).getD i 0 = _
      rw [h2, bump_get, List.count_cons]
      by_cases h : i = k
      · subst h; simp; omega
      · rw [if_neg h]
        have : (k == i) = false := by simp; exact fun e => h e.symm
        simp [this]
theorem list_ext {a b : List Nat} (h1 : a.length = b.length) (h2 : ∀ i, a.getD i 0 = b.getD i 0) : a = b := by
  refine List.ext_getElem h1 fun i hi hi' => ?_
  have := h2 i
  simpa [List.getD_eq_getElem?_getD, List.getElem?_eq_getElem hi, List.getElem?_eq_getElem hi'] using this
/-- What was counted is told by how often each was told. -/
theorem tally_eq {l l' : List Nat} (h : ∀ i, l.count i = l'.count i) : l.foldl bump [] = l'.foldl bump [] := by
  obtain ⟨h1, h2⟩ := fold_bump l []
  obtain ⟨h3, h4⟩ := fold_bump l' []
  refine list_ext ?_ (fun i => by rw [h2, h4, h])
  have hm : ∀ k, k ∈ l ↔ k ∈ l' := fun k => by rw [← List.count_pos_iff, ← List.count_pos_iff, h]
  have e : mxL l = mxL l' := Nat.le_antisymm (mxL_le.2 fun k hk => mxL_le.1 (Nat.le_refl _) k ((hm k).1 hk)) (mxL_le.2 fun k hk => mxL_le.1 (Nat.le_refl _) k ((hm k).2 hk))
  rw [h1, h3, e]
/-- The matchings of edges, one edge behind the other: how many edges each has. -/
def mtR : List (Nat × Nat) → (Nat → Bool) → Nat → List Nat
  | [], _, n => [n]
  | e :: l, used, n => mtR l used n ++ if used e.1 = false ∧ used e.2 = false then mtR l (fun v => used v || v == e.1 || v == e.2) (n + 1) else []
/-- One behind. -/
def pr (f : Nat → Nat) : Nat → Nat
  | 0 => 0
  | k + 1 => f k
/-- Two nodes more are used. -/
abbrev use2 (used : Nat → Bool) (a b : Nat) : Nat → Bool := fun x => used x || x == a || x == b
/-- How many matchings of k edges go to no node that is used. -/
def mC : List (Nat × Nat) → (Nat → Bool) → Nat → Nat
  | [], _, k => if k = 0 then 1 else 0
  | e :: l, used, k => mC l used k + pr (fun j => if used e.1 = false ∧ used e.2 = false then mC l (use2 used e.1 e.2) j else 0) k
theorem mtR_count : ∀ (l : List (Nat × Nat)) (used : Nat → Bool) (n i : Nat), (mtR l used n).count i = if n ≤ i then mC l used (i - n) else 0
  | [], used, n, i => by
    unfold mtR mC
    rw [List.count_singleton]
    by_cases h : n = i
    · subst h; simp
    · have : (n == i) = false := by simpa using h
      simp only [this, Bool.false_eq_true, if_false]
      split
      · rw [if_neg (by omega)]
      · rfl
  | e :: l, used, n, i => by
    unfold mtR
    rw [List.count_append, mtR_count l used n i, mC]
    by_cases hf : used e.1 = false ∧ used e.2 = false
    · rw [if_pos hf, mtR_count l _ (n + 1) i]
      by_cases h1 : n ≤ i
      · rw [if_pos h1, if_pos h1]
        by_cases h2 : n + 1 ≤ i
        · rw [if_pos h2]
          obtain ⟨d, hd⟩ : ∃ d, i - n = d + 1 := ⟨i - n - 1, by omega⟩
          rw [hd, show i - (n + 1) = d by omega, pr, if_pos hf]
        · rw [if_neg h2, show i - n = 0 by omega, pr]
      · rw [if_neg h1, if_neg h1, if_neg (by omega)]
    · rw [if_neg hf, List.count_nil]
      by_cases h1 : n ≤ i
      · rw [if_pos h1, if_pos h1]
        cases hd : i - n with
        | zero => rw [pr]
        | succ d => rw [pr, if_neg hf]
      · rw [if_neg h1, if_neg h1]
end Go.Proofs.YthjkjanibkpgiaaDoor

namespace Go.Proofs.YthjkjanibkpgiaaDoor
def ns : Nat → (Nat → Nat) → Nat
  | 0, _ => 0
  | n + 1, f => ns n f + f n
theorem ns_congr {f g : Nat → Nat} : ∀ {n : Nat}, (∀ i, i < n → f i = g i) → ns n f = ns n g
  | 0, _ => rfl
  | n + 1, h => by rw [ns, ns, ns_congr (fun i hi => h i (by omega)), h n (by omega)]
theorem ns_add (f g : Nat → Nat) : ∀ n, ns n (fun i => f i + g i) = ns n f + ns n g
  | 0 => rfl
  | n + 1 => by rw [ns, ns, ns, ns_add f g n]; omega
theorem ns_zero : ∀ n, ns n (fun _ => 0) = 0
  | 0 => rfl
  | n + 1 => by rw [ns, ns_zero n]
theorem ns_one {f : Nat → Nat} {u : Nat} : ∀ {n : Nat}, ns n (fun i => if i = u then f i else 0) = if u < n then f u else 0
  | 0 => by simp [ns]
  | n + 1 => by
    rw [ns, ns_one]
    by_cases h : n = u
    · subst h; simp
    · rw [if_neg h]
      by_cases h2 : u < n
      · rw [if_pos h2, if_pos (by omega)]; rfl
      · rw [if_neg h2, if_neg (by omega)]
theorem pr_add (f g : Nat → Nat) : ∀ k, pr (fun j => f j + g j) k = pr f k + pr g k
  | 0 => rfl
  | _ + 1 => rfl
theorem pr_congr {f g : Nat → Nat} (h : ∀ j, f j = g j) (k : Nat) : pr f k = pr g k := by rw [funext h]
theorem pr_zero : ∀ k, pr (fun _ => 0) k = 0
  | 0 => rfl
  | _ + 1 => rfl
theorem ns_pr (f : Nat → Nat → Nat) (k n : Nat) : ns n (fun x => pr (f x) k) = pr (fun j => ns n fun x => f x j) k := by
  cases k with
  | zero => exact ns_zero n
  | succ k => rfl
abbrev use1 (used : Nat → Bool) (v : Nat) : Nat → Bool := fun x => used x || x == v
theorem mC_congr : ∀ (l : List (Nat × Nat)) {u u' : Nat → Bool} (k : Nat), (∀ x, u x = u' x) → mC l u k = mC l u' k := fun l u u' k h => by
  have : u = u' := funext h
  rw [this]
/-- An edge between v and x. -/
def adjE (l : List (Nat × Nat)) (v x : Nat) : Bool := l.any fun e => (e.1 == v && e.2 == x) || (e.1 == x && e.2 == v)
theorem adjE_cons (e : Nat × Nat) (l : List (Nat × Nat)) (v x : Nat) : adjE (e :: l) v x = (((e.1 == v && e.2 == x) || (e.1 == x && e.2 == v)) || adjE l v x) := rfl
/-- The edges are apart, and none is a loop. -/
def Simp : List (Nat × Nat) → Prop
  | [] => True
  | e :: l => e.1 ≠ e.2 ∧ adjE l e.1 e.2 = false ∧ Simp l
theorem adjE_comm (l : List (Nat × Nat)) (v x : Nat) : adjE l v x = adjE l x v := by
  unfold adjE
  congr 1
  funext e
  exact Bool.or_comm _ _
theorem pr_ite {c : Prop} [Decidable c] (f : Nat → Nat) (k : Nat) : (if c then pr f k else 0) = pr (fun j => if c then f j else 0) k := by
  by_cases h : c
  · simp only [if_pos h]
  · simp only [if_neg h, pr_zero]
/-- The node v is alone, or paired with one that it has an edge with. -/
theorem mC_node {N : Nat} : ∀ (l : List (Nat × Nat)) (used : Nat → Bool) (v k : Nat), Simp l → (∀ e ∈ l, e.1 < N ∧ e.2 < N) → used v = false →
    mC l used k = mC l (use1 used v) k + pr (fun j => ns N fun x => if used x = false ∧ x ≠ v ∧ adjE l v x = true then mC l (use2 used v x) j else 0) k
  | [], used, v, k, _, _, _ => by
    have : ∀ j, (ns N fun x => if used x = false ∧ x ≠ v ∧ adjE [] v x = true then mC [] (use2 used v x) j else 0) = 0 := fun j => by
      rw [ns_congr (g := fun _ => 0) (fun x _ => by simp [adjE])]
      exact ns_zero N
    rw [pr_congr this, pr_zero]
    rfl
  | e :: l, used, v, k, hS, hN, hv => by
    obtain ⟨hne, hapart, hS'⟩ := hS
    have hN' : ∀ e ∈ l, e.1 < N ∧ e.2 < N := fun e he => hN e (by simp [he])
    have heN := hN e (by simp)
    have ih := mC_node l used v k hS' hN' hv
    rw [mC, mC, ih]
    by_cases hve : e.1 = v ∨ e.2 = v
    · obtain ⟨x0, hx0, hor⟩ : ∃ x0, x0 ≠ v ∧ ((e.1 = v ∧ e.2 = x0) ∨ (e.1 = x0 ∧ e.2 = v)) := by
        rcases hve with h | h
        · exact ⟨e.2, fun h' => hne (by rw [h, h']), Or.inl ⟨h, rfl⟩⟩
        · exact ⟨e.1, fun h' => hne (by rw [h, h']), Or.inr ⟨rfl, h⟩⟩
      have hx0N : x0 < N := by rcases hor with ⟨h1, h2⟩ | ⟨h1, h2⟩ <;> omega
      have hnot : adjE l v x0 = false := by
        rcases hor with ⟨h1, h2⟩ | ⟨h1, h2⟩
        · rw [← h1, ← h2]; exact hapart
        · rw [← h1, ← h2, adjE_comm]; exact hapart
      have hbusy : ¬ (use1 used v e.1 = false ∧ use1 used v e.2 = false) := by
        rcases hor with ⟨h1, h2⟩ | ⟨h1, h2⟩ <;> simp [use1, h1, h2]
      simp only [if_neg hbusy, pr_zero]
      have hm : ∀ x j, mC (e :: l) (use2 used v x) j = mC l (use2 used v x) j := fun x j => by
        have hb2 : ¬ (use2 used v x e.1 = false ∧ use2 used v x e.2 = false) := by
          rcases hor with ⟨h1, h2⟩ | ⟨h1, h2⟩ <;> simp [use2, h1, h2]
        rw [mC]
        simp only [if_neg hb2, pr_zero]
        rfl
      have hterm : ∀ j x, (if used x = false ∧ x ≠ v ∧ adjE (e :: l) v x = true then mC (e :: l) (use2 used v x) j else 0) = (if used x = false ∧ x ≠ v ∧ adjE l v x = true then mC l (use2 used v x) j else 0) + if x = x0 then (if used x = false then mC l (use2 used v x) j else 0) else 0 := fun j x => by
        rw [hm]
        by_cases hx : x = x0
        · subst hx
          have ha : adjE (e :: l) v x = true := by
            rw [adjE_cons]
            rcases hor with ⟨h1, h2⟩ | ⟨h1, h2⟩ <;> simp [h1, h2]
          rw [if_pos rfl]
          by_cases hu : used x = false
          · rw [if_pos ⟨hu, hx0, ha⟩, if_neg (fun h => by rw [hnot] at h; cases h.2.2), if_pos hu]; omega
          · rw [if_neg (fun h => hu h.1), if_neg (fun h => hu h.1), if_neg hu]
        · have ha : adjE (e :: l) v x = adjE l v x := by
            rw [adjE_cons]
            have hx' : x0 ≠ x := fun h => hx h.symm
            have hf : ((e.1 == v && e.2 == x) || (e.1 == x && e.2 == v)) = false := by
              rcases hor with ⟨h1, h2⟩ | ⟨h1, h2⟩
              · rw [h1, h2]
                simp [hx', hx0]
              · rw [h1, h2]
                simp [hx', hx0]
            rw [hf]
            rfl
          rw [if_neg hx, ha]
          rfl
      rw [pr_congr (fun j => (ns_congr (fun x _ => hterm j x)).trans ((ns_add _ _ N).trans (by rw [ns_one (f := fun x => if used x = false then mC l (use2 used v x) j else 0), if_pos hx0N]))), pr_add]
      have hfree : (used e.1 = false ∧ used e.2 = false) ↔ used x0 = false := by
        rcases hor with ⟨h1, h2⟩ | ⟨h1, h2⟩ <;> simp [h1, h2, hv]
      have hlast : ∀ j, (if used e.1 = false ∧ used e.2 = false then mC l (use2 used e.1 e.2) j else 0) = if used x0 = false then mC l (use2 used v x0) j else 0 := fun j => by
        by_cases hu : used x0 = false
        · rw [if_pos (hfree.2 hu), if_pos hu]
          refine mC_congr l j fun x => ?_
          rcases hor with ⟨h1, h2⟩ | ⟨h1, h2⟩
          · rw [h1, h2]
          · rw [h1, h2]
            show (used x || x == x0 || x == v) = (used x || x == v || x == x0)
            cases used x <;> cases x == x0 <;> cases x == v <;> rfl
        · rw [if_neg (fun h => hu (hfree.1 h)), if_neg hu]
      rw [pr_congr hlast]
      omega
    · have h1 : e.1 ≠ v := fun h => hve (Or.inl h)
      have h2 : e.2 ≠ v := fun h => hve (Or.inr h)
      have ha : ∀ x, adjE (e :: l) v x = adjE l v x := fun x => by
        rw [adjE_cons]
        have e1 : (e.1 == v) = false := by simpa using h1
        have e2 : (e.2 == v) = false := by simpa using h2
        simp [e1, e2]
      have hu1 : (use1 used v e.1 = false ∧ use1 used v e.2 = false) ↔ (used e.1 = false ∧ used e.2 = false) := by
        simp [use1, h1, h2]
      by_cases hf : used e.1 = false ∧ used e.2 = false
      · simp only [if_pos hf, if_pos (hu1.2 hf)]
        have hv2 : use2 used e.1 e.2 v = false := by
          simp [use2, hv]
          exact ⟨fun h => h1 h.symm, fun h => h2 h.symm⟩
        rw [pr_congr (fun j => mC_node l (use2 used e.1 e.2) v j hS' hN' hv2), pr_add]
        have hc1 : ∀ j, mC l (use1 (use2 used e.1 e.2) v) j = mC l (use2 (use1 used v) e.1 e.2) j := fun j => mC_congr l j fun x => by
          show (used x || x == e.1 || x == e.2 || x == v) = (used x || x == v || x == e.1 || x == e.2)
          cases used x <;> cases x == e.1 <;> cases x == e.2 <;> cases x == v <;> rfl
        rw [pr_congr hc1]
        have hterm : ∀ j x, (if used x = false ∧ x ≠ v ∧ adjE (e :: l) v x = true then mC (e :: l) (use2 used v x) j else 0) = (if used x = false ∧ x ≠ v ∧ adjE l v x = true then mC l (use2 used v x) j else 0) + pr (fun i => if use2 used e.1 e.2 x = false ∧ x ≠ v ∧ adjE l v x = true then mC l (use2 (use2 used e.1 e.2) v x) i else 0) j := fun j x => by
          rw [ha]
          by_cases hx : used x = false ∧ x ≠ v ∧ adjE l v x = true
          · rw [if_pos hx, if_pos hx, mC]
            congr 1
            refine pr_congr (fun i => ?_) j
            by_cases hx2 : x = e.1 ∨ x = e.2
            · rw [if_neg (by rcases hx2 with h | h <;> simp [use2, h]), if_neg (by rcases hx2 with h | h <;> simp [use2, h])]
            · have x1 : x ≠ e.1 := fun h => hx2 (Or.inl h)
              have x2 : x ≠ e.2 := fun h => hx2 (Or.inr h)
              have c1 : use2 used v x e.1 = false ∧ use2 used v x e.2 = false := by
                simp [use2, hf.1, hf.2, h1, h2]
                exact ⟨fun h => x1 h.symm, fun h => x2 h.symm⟩
              have c2 : use2 used e.1 e.2 x = false ∧ x ≠ v ∧ adjE l v x = true := ⟨by simp [use2, hx.1, x1, x2], hx.2.1, hx.2.2⟩
              rw [if_pos c1, if_pos c2]
              exact mC_congr l i fun y => by
                show (used y || y == v || y == x || y == e.1 || y == e.2) = (used y || y == e.1 || y == e.2 || y == v || y == x)
                cases used y <;> cases y == e.1 <;> cases y == e.2 <;> cases y == v <;> cases y == x <;> rfl
          · rw [if_neg hx, if_neg hx]
            have : ∀ i, (if use2 used e.1 e.2 x = false ∧ x ≠ v ∧ adjE l v x = true then mC l (use2 (use2 used e.1 e.2) v x) i else 0) = 0 := fun i => if_neg (fun h => hx ⟨by have := h.1; simp [use2] at this; exact this.1.1, h.2⟩)
            rw [pr_congr this, pr_zero]
        have hsum : ∀ j, (ns N fun x => if used x = false ∧ x ≠ v ∧ adjE (e :: l) v x = true then mC (e :: l) (use2 used v x) j else 0) = (ns N fun x => if used x = false ∧ x ≠ v ∧ adjE l v x = true then mC l (use2 used v x) j else 0) + pr (fun i => ns N fun x => if use2 used e.1 e.2 x = false ∧ x ≠ v ∧ adjE l v x = true then mC l (use2 (use2 used e.1 e.2) v x) i else 0) j := fun j => by
          rw [ns_congr (fun x _ => hterm j x), ns_add, ns_pr]
        rw [pr_congr hsum, pr_add]
        have eta : pr (fun j => mC l (use2 (use1 used v) e.1 e.2) j) k = pr (mC l (use2 (use1 used v) e.1 e.2)) k := rfl
        omega
      · simp only [if_neg hf, if_neg (fun h => hf (hu1.1 h)), pr_zero]
        have hterm : ∀ j x, (if used x = false ∧ x ≠ v ∧ adjE (e :: l) v x = true then mC (e :: l) (use2 used v x) j else 0) = (if used x = false ∧ x ≠ v ∧ adjE l v x = true then mC l (use2 used v x) j else 0) := fun j x => by
          have hm : mC (e :: l) (use2 used v x) j = mC l (use2 used v x) j := by
            have hb2 : ¬ (use2 used v x e.1 = false ∧ use2 used v x e.2 = false) := fun h => hf ⟨by have := h.1; simp [use2] at this; exact this.1.1, by have := h.2; simp [use2] at this; exact this.1.1⟩
            rw [mC]
            simp only [if_neg hb2, pr_zero]
            rfl
          rw [ha, hm]
        rw [pr_congr (fun j => ns_congr (fun x _ => hterm j x))]
        omega
end Go.Proofs.YthjkjanibkpgiaaDoor
