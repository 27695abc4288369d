/- What R.Over asks, and what width.lies tells. -/
import Derived.Test.YtdalconphfgepaaDoorLiesF
import Derived.Test.YtdalconphfgepaaDoorReachR
import Derived.Test.YtdalconphfgepaaDoorHasF
namespace Go.Proofs.YtdalconphfgepaaDoor
theorem cnt_one {p : Nat → Bool} : ∀ n, (((List.range n).filter p).length = 1 ↔ ∃ r, (r < n ∧ p r = true) ∧ ∀ s, s < n → p s = true → s = r)
  | 0 => by simp
  | n + 1 => by
    have ih := cnt_one (p := p) n
    rw [List.range_succ, List.filter_append, List.length_append]
    by_cases hp : p n = true
    · rw [show ([n].filter p) = [n] by simp [hp]]
      constructor
      · intro h
        have h0 : ((List.range n).filter p).length = 0 := by simp at h ⊢; exact h
        rw [List.length_eq_zero_iff, List.filter_eq_nil_iff] at h0
        refine ⟨n, ⟨by omega, hp⟩, fun s hs hps => ?_⟩
        by_cases e : s = n
        · exact e
        · exact absurd hps (h0 s (List.mem_range.2 (by omega)))
      · rintro ⟨r, ⟨hr, hpr⟩, hu⟩
        have e := hu n (by omega) hp
        subst e
        have h0 : (List.range n).filter p = [] := List.filter_eq_nil_iff.2 fun s hs hps => by
          have hs' := List.mem_range.1 hs
          have := hu s (by omega) hps
          omega
        rw [h0]
        rfl
    · rw [show ([n].filter p) = [] by simp [hp], List.length_nil, Nat.add_zero, ih]
      constructor
      · rintro ⟨r, ⟨hr, hpr⟩, hu⟩
        refine ⟨r, ⟨by omega, hpr⟩, fun s hs hps => ?_⟩
        by_cases e : s = n
        · subst e; exact absurd hps hp
        · exact hu s (by omega) hps
      · rintro ⟨r, ⟨hr, hpr⟩, hu⟩
        have : r ≠ n := fun e => by subst e; exact hp hpr
        exact ⟨r, ⟨by omega, hpr⟩, fun s hs hps => hu s (by omega) hps⟩
section
variable {n : Nat} {e : Nat → Nat → Bool} {L : Nat → Bool} {R : Nat → Nat → Bool}
theorem star_sym (hs : ∀ a b, e a b = true → e b a = true) {a b : Nat} (ha : a < n ∧ L a = true) (h : Star (St n e L) a b) : (b < n ∧ L b = true) ∧ Star (St n e L) b a := by
  refine Star.closed (e := St n e L) (P := fun b => (b < n ∧ L b = true) ∧ Star (St n e L) b a) (fun x y hx hxy => ?_) h ⟨ha, Star.refl _⟩
  exact ⟨⟨hxy.1, hxy.2.2⟩, Star.trans (Star.one ⟨hx.1.1, hs _ _ hxy.2.1, hx.1.2⟩) hx.2⟩
/-- One part: there is a node, and all hang together. -/
theorem parts_one (hs : ∀ a b, e a b = true → e b a = true) (hR : ∀ v x, R v x = true ↔ Star (St n e L) v x) : partsN n L R = 1 ↔ (∃ x, x < n ∧ L x = true) ∧ ∀ a b, a < n → L a = true → b < n → L b = true → Star (St n e L) a b := by
  unfold partsN
  rw [cnt_one]
  have hmin : ∀ a, a < n → L a = true → ∃ u, u < n ∧ firstB L R u = true ∧ Star (St n e L) u a := fun a ha hL => by
    obtain ⟨u, hu, ⟨h1, h2, h3⟩, h4⟩ := least_ex (P := fun x => x < n ∧ L x = true ∧ Star (St n e L) x a) (v := a) ⟨ha, hL, Star.refl _⟩
    refine ⟨u, h1, firstB_iff.2 ⟨h2, fun x hx hLx => ?_⟩, h3⟩
    cases hq : R x u with
    | false => rfl
    | true => exact absurd ⟨by omega, hLx, Star.trans ((hR x u).1 hq) h3⟩ (h4 x hx)
  constructor
  · rintro ⟨r, ⟨hr, hf⟩, hu⟩
    refine ⟨⟨r, hr, (firstB_iff.1 hf).1⟩, fun a b ha hLa hb hLb => ?_⟩
    obtain ⟨u, h1, h2, h3⟩ := hmin a ha hLa
    obtain ⟨u', h1', h2', h3'⟩ := hmin b hb hLb
    rw [hu u h1 h2] at h3
    rw [hu u' h1' h2'] at h3'
    exact Star.trans (star_sym hs ⟨hr, (firstB_iff.1 hf).1⟩ h3).2 h3'
  · rintro ⟨⟨x, hx, hLx⟩, hc⟩
    obtain ⟨u, h1, h2, h3⟩ := hmin x hx hLx
    refine ⟨u, ⟨h1, h2⟩, fun s hs' hfs => ?_⟩
    have hLu := (firstB_iff.1 h2).1
    have hLs := (firstB_iff.1 hfs).1
    rcases Nat.lt_trichotomy s u with h | h | h
    · have := (firstB_iff.1 h2).2 s h hLs
      rw [(hR s u).2 (hc s u hs' hLs h1 hLu)] at this
      cases this
    · exact h
    · have := (firstB_iff.1 hfs).2 u h hLu
      rw [(hR u s).2 (hc u s h1 hLu hs' hLs)] at this
      cases this
end
theorem hasB_iff' {es : List Pair} {x y : Int} : hasB es x y = true ↔ ((x, y) ∈ es ∨ (y, x) ∈ es) := by
  unfold hasB
  rw [List.any_eq_true]
  constructor
  · rintro ⟨⟨a, b⟩, he, h⟩
    simp only [Bool.or_eq_true, Bool.and_eq_true, beq_iff_eq] at h
    rcases h with ⟨rfl, rfl⟩ | ⟨rfl, rfl⟩
    · exact Or.inl he
    · exact Or.inr he
  · rintro (h | h)
    · exact ⟨_, h, by simp⟩
    · exact ⟨_, h, by simp⟩
def linksL (f : Nat → Int) (k : Nat) : List Pair := (List.range k).filterMap fun i => if f i = -1 then none else some ((i : Int), f i)
theorem linksL_succ (f : Nat → Int) (k : Nat) : linksL f (k + 1) = linksL f k ++ if f k = -1 then [] else [((k : Int), f k)] := by
  unfold linksL
  rw [List.range_succ, List.filterMap_append]
  congr 1
  by_cases h : f k = -1 <;> simp [h]
theorem linksL_mem {f : Nat → Int} {k : Nat} {x : Pair} : x ∈ linksL f k ↔ ∃ i, i < k ∧ f i ≠ -1 ∧ x = ((i : Int), f i) := by
  unfold linksL
  rw [List.mem_filterMap]
  constructor
  · rintro ⟨i, hi, h⟩
    by_cases e : f i = -1
    · simp [e] at h
    · simp [e] at h
      exact ⟨i, List.mem_range.1 hi, e, h.symm⟩
  · rintro ⟨i, hi, h, rfl⟩
    exact ⟨i, List.mem_range.2 hi, by simp [h]⟩
theorem linksL_len (f : Nat → Int) (k : Nat) : (linksL f k).length ≤ k := by
  unfold linksL
  have := List.length_filterMap_le (fun i => if f i = -1 then none else some ((i : Int), f i)) (List.range k)
  simpa using this
theorem links_has {f : Nat → Int} {n a b : Nat} (ha : a < n) (hb : b < n) : pn (hasB (linksL f n)) a b = true ↔ (f a = b ∨ f b = a) := by
  unfold pn
  rw [hasB_iff']
  constructor
  · rintro (h | h)
    · obtain ⟨i, hi, h1, h2⟩ := linksL_mem.1 h
      simp only [Prod.mk.injEq] at h2
      obtain rfl : a = i := by omega
      exact Or.inl h2.2.symm
    · obtain ⟨i, hi, h1, h2⟩ := linksL_mem.1 h
      simp only [Prod.mk.injEq] at h2
      obtain rfl : b = i := by omega
      exact Or.inr h2.2.symm
  · rintro (h | h)
    · exact Or.inl (linksL_mem.2 ⟨a, ha, by omega, by rw [h]⟩)
    · exact Or.inr (linksL_mem.2 ⟨b, hb, by omega, by rw [h]⟩)
theorem links_star {f : Nat → Int} {n : Nat} {L : Nat → Bool} {a b : Nat} (ha : a < n ∧ L a = true) : Star (St n (pn (hasB (linksL f n))) L) a b ↔ Lk f (fun j => j < n ∧ L j = true) a b := by
  constructor
  · intro h
    refine (Star.closed (e := St n (pn (hasB (linksL f n))) L) (P := fun b => (b < n ∧ L b = true) ∧ Lk f (fun j => j < n ∧ L j = true) a b) (fun x y hx hxy => ?_) h ⟨ha, .refl⟩).2
    refine ⟨⟨hxy.1, hxy.2.2⟩, ?_⟩
    rcases (links_has hx.1.1 hxy.1).1 hxy.2.1 with h1 | h1
    · exact .up hx.2 hx.1 ⟨hxy.1, hxy.2.2⟩ h1
    · exact .down hx.2 hx.1 ⟨hxy.1, hxy.2.2⟩ h1
  · intro h
    induction h with
    | refl => exact Star.refl _
    | up _ p q e ih => exact ih.step ⟨q.1, (links_has p.1 q.1).2 (Or.inl e), q.2⟩
    | down _ p q e ih => exact ih.step ⟨q.1, (links_has p.1 q.1).2 (Or.inr e), q.2⟩
theorem links_parts {f : Nat → Int} {n : Nat} {L : Nat → Bool} {R : Nat → Nat → Bool} (hR : ∀ v x, R v x = true ↔ Star (St n (pn (hasB (linksL f n))) L) v x) : partsN n L R = 1 ↔ (∃ x, x < n ∧ L x = true) ∧ ∀ a b, (a < n ∧ L a = true) → (b < n ∧ L b = true) → Lk f (fun j => j < n ∧ L j = true) a b := by
  rw [parts_one (fun a b h => by
    unfold pn at h ⊢
    rw [hasB_iff'] at h ⊢
    exact h.symm) hR]
  constructor
  · rintro ⟨h1, h2⟩
    exact ⟨h1, fun a b ha hb => (links_star ha).1 (h2 a b ha.1 ha.2 hb.1 hb.2)⟩
  · rintro ⟨h1, h2⟩
    exact ⟨h1, fun a b ha hLa hb hLb => (links_star ⟨ha, hLa⟩).2 (h2 a b ⟨ha, hLa⟩ ⟨hb, hLb⟩)⟩
/-- The bags of v hang together, and there is one. -/
def HangP (f : Nat → Int) (m : Nat) (bags : List Nat) (v : Nat) : Prop := (∃ j, j < m ∧ (at' bags j).testBit v = true) ∧ ∀ a b, (a < m ∧ (at' bags a).testBit v = true) → (b < m ∧ (at' bags b).testBit v = true) → Lk f (fun j => j < m ∧ (at' bags j).testBit v = true) a b
theorem tops_iff {f : Nat → Int} {m : Nat} {bags : List Nat} {v : Nat} (ht : ∀ j, j < m → hops m f m (j : Int) = -1) : topsN bags f m v = 1 ↔ HangP f m bags v := by
  unfold topsN HangP
  have h1 := hang_iff (n := m) (f := f) (P := fun j => j < m ∧ (at' bags j).testBit v = true) (fun j h => h.1) ht
  rw [h1, cnt_one]
  have key : ∀ t, (t < m ∧ (topS bags f t).testBit v = true) ↔ Top f (fun j => j < m ∧ (at' bags j).testBit v = true) t := fun t => by
    unfold Top topS aboveS
    constructor
    · rintro ⟨htm, hb⟩
      rw [bit_less, Bool.and_eq_true, Bool.not_eq_true'] at hb
      refine ⟨⟨htm, hb.1⟩, fun u eu hu => ?_⟩
      rw [if_neg (by omega), eu] at hb
      have : (at' bags u).testBit v = false := hb.2
      rw [hu.2] at this
      cases this
    · rintro ⟨⟨htm, hb⟩, hu⟩
      refine ⟨htm, ?_⟩
      rw [bit_less, Bool.and_eq_true, Bool.not_eq_true']
      refine ⟨hb, ?_⟩
      rcases tree_up ht htm with h | h
      · rw [if_pos h]; simp
      · rw [if_neg (by omega)]
        obtain ⟨u, e⟩ := Int.eq_ofNat_of_zero_le h.1.1
        have := hu u e
        rw [e]
        cases hq : (at' bags u).testBit v with
        | false => exact hq
        | true => exact absurd ⟨by omega, hq⟩ this
  constructor
  · rintro ⟨r, hr, hu⟩
    exact ⟨r, (key r).1 hr, fun s hs => hu s ((key s).2 hs).1 ((key s).2 hs).2⟩
  · rintro ⟨r, hr, hu⟩
    exact ⟨r, (key r).2 hr, fun s hs hs2 => hu s ((key s).1 ⟨hs, hs2⟩)⟩
def ConP (f : Nat → Int) (m : Nat) : Prop := ∀ a b, a < m → b < m → Lk f (· < m) a b
/-- What lies tells, as R.Over asks it. -/
theorem lies_iff {N : Nat} {es : List Pair} {bags : List Nat} {f : Nat → Int} (hes : ∀ e ∈ es, 0 ≤ e.1 ∧ e.1 < N ∧ 0 ≤ e.2 ∧ e.2 < N) : liesB N es bags f = true ↔ UpOk bags.length f ∧ (0 < bags.length → roots f bags.length = 1 ∧ ConP f bags.length) ∧ holdB es bags = true ∧ ∀ v, v < N → HangP f bags.length bags v := by
  unfold liesB
  generalize hm : bags.length = m
  by_cases h0 : m = 0
  · subst h0
    rw [if_pos rfl, beq_iff_eq]
    constructor
    · rintro rfl
      refine ⟨fun j hj => by omega, fun h => by omega, ?_, fun v hv => by omega⟩
      unfold holdB
      rw [List.all_eq_true]
      intro e he
      have := hes e he
      omega
    · rintro ⟨_, _, _, h⟩
      cases N with
      | zero => rfl
      | succ N =>
        obtain ⟨⟨j, hj, _⟩, _⟩ := h 0 (by omega)
        omega
  · rw [if_neg h0, Bool.and_eq_true, Bool.and_eq_true, treeB_iff]
    constructor
    · rintro ⟨⟨⟨h1, h2, h3⟩, h4⟩, h5⟩
      have ht := (treeB_all (treeB_iff.2 ⟨h1, h2, h3⟩)).1
      refine ⟨h1, fun _ => ⟨h2, h3⟩, h4, fun v hv => (tops_iff ht).1 ?_⟩
      unfold hangB at h5
      rw [List.all_eq_true] at h5
      exact beq_iff_eq.1 (h5 v (List.mem_range.2 hv))
    · rintro ⟨h1, h2, h4, h5⟩
      obtain ⟨h2, h3⟩ := h2 (by omega)
      have ht := (treeB_all (treeB_iff.2 ⟨h1, h2, h3⟩)).1
      refine ⟨⟨⟨h1, h2, h3⟩, h4⟩, ?_⟩
      unfold hangB
      rw [List.all_eq_true]
      exact fun v hv => beq_iff_eq.2 ((tops_iff ht).2 (h5 v (List.mem_range.1 hv)))
theorem bag_full {N : Nat} {l : List Int} (h : (bagS N l 0).2 = 0) : (bagS N l 0).1 = setTo N l l.length ∧ ∀ j, j < l.length → 0 ≤ l.getD j 0 := by
  have : ∀ d k, k + d = l.length → (bagS N (l.drop k) (setTo N l k)).2 = 0 → (bagS N (l.drop k) (setTo N l k)).1 = setTo N l l.length ∧ ∀ j, k ≤ j → j < l.length → 0 ≤ l.getD j 0 := fun d => by
    induction d with
    | zero =>
      intro k hk _
      obtain rfl : k = l.length := by omega
      rw [List.drop_length]
      exact ⟨rfl, fun j h1 h2 => by omega⟩
    | succ d ih =>
      intro k hk hb
      have hkl : k < l.length := by omega
      rw [bag_step hkl] at hb ⊢
      by_cases h1 : l[k] < 0 ∨ (N : Int) ≤ l[k]
      · rw [if_pos h1] at hb; simp at hb
      · rw [if_neg h1] at hb ⊢
        by_cases h2 : (setTo N l k).testBit l[k].toNat = true
        · rw [if_pos h2] at hb; simp at hb
        · rw [if_neg h2] at hb ⊢
          obtain ⟨h3, h4⟩ := ih (k + 1) (by omega) hb
          refine ⟨h3, fun j hj1 hj2 => ?_⟩
          by_cases e : j = k
          · subst e
            simp only [List.getD_eq_getElem?_getD, List.getElem?_eq_getElem hkl, Option.getD_some]
            omega
          · exact h4 j (by omega) hj2
  obtain ⟨h1, h2⟩ := this l.length 0 (by omega) h
  exact ⟨h1, fun j hj => h2 j (by omega) hj⟩
theorem openR_all {N : Nat} : ∀ (ls : List (List Int)) (k : Nat), (openR N ls k).1 = 0 → ∀ l ∈ ls, (bagS N l 0).2 = 0
  | [], _, _, l, hl => by cases hl
  | b :: ls, k, h, l, hl => by
    unfold openR at h
    by_cases hb : (bagS N b 0).2 = 0
    · rw [if_pos hb] at h
      rcases List.mem_cons.1 hl with rfl | hl
      · exact hb
      · exact openR_all ls (k + 1) h l hl
    · rw [if_neg hb] at h
      exact absurd h hb
/-- A number is in a bag just where its bit is set. -/
theorem bag_in {N : Nat} {ls : List (List Int)} (h : (openR N ls 0).1 = 0) {i : Nat} (hi : i < ls.length) (x : Nat) : inB ls[i].length (fun j => ls[i].getD j 0) (x : Int) = (at' (setsL N ls) i).testBit x := by
  have h0 := openR_all ls 0 h ls[i] (List.getElem_mem hi)
  obtain ⟨h1, h2⟩ := bag_full h0
  have e : at' (setsL N ls) i = (bagS N ls[i] 0).1 := by
    unfold at' setsL
    simp [List.getD_eq_getElem?_getD, List.getElem?_map, List.getElem?_eq_getElem hi]
  rw [e, h1, Bool.eq_iff_iff, setTo_bit x _ (Nat.le_refl _) h2]
  unfold inB
  rw [List.any_eq_true]
  constructor
  · rintro ⟨j, hj, h3⟩
    exact ⟨j, List.mem_range.1 hj, by simpa using h3⟩
  · rintro ⟨j, hj, h3⟩
    exact ⟨j, List.mem_range.2 hj, by simpa using h3⟩
end Go.Proofs.YtdalconphfgepaaDoor
