/- The least list of nodes, one for each node of the wanted graph. -/
namespace Go.Proofs.YthjkjanibkpgiaaDoor
/-- The first v below N for which f has an answer. -/
def firstSome (f : Nat → Option (List Nat)) : Nat → Nat → Option (List Nat)
  | 0, _ => none
  | c + 1, v => match f v with
    | some l => some l
    | none => firstSome f c (v + 1)
/-- May v come behind l? -/
def fitsAt (g h : Nat → Nat → Bool) (l : List Nat) (v : Nat) : Bool := !(l.contains v) && (List.range l.length).all fun i => !(h l.length i) || g v (l.getD i 0)
/-- The first list that goes on with l, c nodes more, of the nodes below N. -/
def fitL (N : Nat) (g h : Nat → Nat → Bool) : Nat → List Nat → Option (List Nat)
  | 0, l => some l
  | c + 1, l => firstSome (fun v => if fitsAt g h l v = true then fitL N g h c (l ++ [v]) else none) N 0
theorem firstSome_congr {f f' : Nat → Option (List Nat)} : ∀ (c v : Nat), (∀ x, v ≤ x → x < v + c → f x = f' x) → firstSome f c v = firstSome f' c v
  | 0, _, _ => rfl
  | c + 1, v, h => by
    rw [firstSome, firstSome, h v (Nat.le_refl _) (by omega), firstSome_congr c (v + 1) (fun x h1 h2 => h x (by omega) (by omega))]
/-- The nodes of which f has none may be passed over. -/
theorem firstSome_skip {f : Nat → Option (List Nat)} : ∀ (k c v : Nat), (∀ x, v ≤ x → x < v + k → f x = none) → firstSome f (k + c) v = firstSome f c (v + k)
  | 0, c, v, _ => by simp
  | k + 1, c, v, h => by
    rw [show k + 1 + c = (k + c) + 1 by omega, firstSome, h v (Nat.le_refl _) (by omega)]
    simp only
    rw [firstSome_skip k c (v + 1) (fun x h1 h2 => h x (by omega) (by omega)), show v + 1 + k = v + (k + 1) by omega]
theorem firstSome_none {f : Nat → Option (List Nat)} {c v : Nat} (h : ∀ x, v ≤ x → x < v + c → f x = none) : firstSome f c v = none := by
  have := firstSome_skip c 0 v h
  rw [Nat.add_zero] at this
  rw [this]
  rfl
theorem fitsAt_congr {g g' h h' : Nat → Nat → Bool} {N M : Nat} (hg : ∀ x y, x < N → y < N → g x y = g' x y) (hh : ∀ x y, x < M → y < M → h x y = h' x y) {l : List Nat} {v : Nat} (hl : ∀ x ∈ l, x < N) (hv : v < N) (hm : l.length < M) : fitsAt g h l v = fitsAt g' h' l v := by
  unfold fitsAt
  congr 1
  rw [Bool.eq_iff_iff, List.all_eq_true, List.all_eq_true]
  have e : ∀ i, i ∈ List.range l.length → ((!(h l.length i) || g v (l.getD i 0)) = (!(h' l.length i) || g' v (l.getD i 0))) := fun i hi => by
    have hi' := List.mem_range.1 hi
    rw [hh _ _ hm (by omega), hg v (l.getD i 0) hv (hl _ (by
      rw [List.getD_eq_getElem?_getD, List.getElem?_eq_getElem hi']
      exact List.getElem_mem _))]
  exact ⟨fun q i hi => by rw [← e i hi]; exact q i hi, fun q i hi => by rw [e i hi]; exact q i hi⟩
theorem fitL_congr {g g' h h' : Nat → Nat → Bool} {N M : Nat} (hg : ∀ x y, x < N → y < N → g x y = g' x y) (hh : ∀ x y, x < M → y < M → h x y = h' x y) : ∀ (c : Nat) (l : List Nat), l.length + c ≤ M → (∀ x ∈ l, x < N) → fitL N g h c l = fitL N g' h' c l
  | 0, _, _, _ => rfl
  | c + 1, l, hc, hl => by
    rw [fitL, fitL]
    refine firstSome_congr N 0 fun v _ hv => ?_
    rw [fitsAt_congr hg hh hl (by omega) (by omega), fitL_congr hg hh c (l ++ [v]) (by simp; omega) (fun x hx => by
      rcases List.mem_append.1 hx with h1 | h1
      · exact hl x h1
      · simp at h1; omega)]
/-- What is found has as many nodes as it should, all of them below N. -/
theorem firstSome_mem {f : Nat → Option (List Nat)} {Q : List Nat → Prop} : ∀ (c v : Nat) {l : List Nat}, (∀ x, v ≤ x → x < v + c → ∀ l, f x = some l → Q l) → firstSome f c v = some l → Q l
  | 0, _, _, _, h => by cases h
  | c + 1, v, l, hf, h => by
    rw [firstSome] at h
    split at h
    · next l' e => cases h; exact hf v (Nat.le_refl _) (by omega) _ e
    · exact firstSome_mem c (v + 1) (fun x h1 h2 => hf x (by omega) (by omega)) h
theorem fitL_len {N : Nat} {g h : Nat → Nat → Bool} : ∀ (c : Nat) (l l' : List Nat), fitL N g h c l = some l' → l'.length = l.length + c
  | 0, l, l', e => by rw [fitL] at e; cases e; rfl
  | c + 1, l, l', e => by
    rw [fitL] at e
    refine firstSome_mem (Q := fun l' => l'.length = l.length + (c + 1)) N 0 (fun v _ _ l2 h2 => ?_) e
    split at h2
    · have := fitL_len c _ _ h2
      simp at this
      omega
    · cases h2
end Go.Proofs.YthjkjanibkpgiaaDoor
