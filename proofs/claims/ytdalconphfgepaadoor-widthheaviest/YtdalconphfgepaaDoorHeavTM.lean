/- Bags below a bag: what a tree of bags tells of them. The heaviest loads: what is told of a bag and all below it. -/
import Derived.Test.YtdalconphfgepaaDoorSgSW
import Derived.Test.YtdalconphfgepaaDoorOverM
namespace Go.Proofs.YtdalconphfgepaaDoor
open Go.RowKit Go.Maps
abbrev Hs (bags : List Nat) (m v : Nat) (j : Nat) : Prop := j < m ∧ (at' bags j).testBit v = true
abbrev Sub (f : Nat → Int) (m at_ j : Nat) : Prop := Up f (· < m) j at_
structure TD (m N : Nat) (f : Nat → Int) (bags near : List Nat) (d : Nat → Nat) : Prop where
  dep : ∀ j u : Nat, j < m → u < m → f j = u → d u < d j
  hang : ∀ v, v < N → ∃ t, Top f (Hs bags m v) t ∧ ∀ s, Top f (Hs bags m v) s → s = t
  bit : ∀ j v, (at' bags j).testBit v = true → v < N
  edge : ∀ a b, (at' near a).testBit b = true → ∃ j, Hs bags m a j ∧ Hs bags m b j
  sym : ∀ a b, (at' near a).testBit b = true → (at' near b).testBit a = true
  up : ∀ j, j < m → f j = -1 ∨ ∃ u : Nat, f j = u ∧ u < m
section
variable {f : Nat → Int} {P Q : Nat → Prop}
theorem Up.trans {a b c : Nat} (h1 : Up f P a b) (h2 : Up f P b c) : Up f P a c := by
  induction h1 with
  | refl => exact h2
  | step p q e _ ih => exact .step p q e (ih h2)
theorem Up.mono {a b : Nat} (h : Up f P a b) (hPQ : ∀ j, P j → Q j) : Up f Q a b := by
  induction h with
  | refl => exact .refl
  | step p q e _ ih => exact .step (hPQ _ p) (hPQ _ q) e ih
theorem Up.cmp {b t k : Nat} (h : Up f P b t) (h2 : Up f Q b k) : Up f Q t k ∨ Up f P k t := by
  induction h with
  | refl => exact Or.inl h2
  | step p q e h3 ih =>
    cases h2 with
    | refl => exact Or.inr (.step p q e h3)
    | step _ _ e2 h4 =>
      have e3 := Int.ofNat.inj (e.symm.trans e2)
      subst e3
      exact ih h4
theorem Up.self {k t : Nat} (h : Up f P k t) (ht : P t) : P k := by
  cases h with
  | refl => exact ht
  | step p _ _ _ => exact p
theorem Up.first {k t u : Nat} (h : Up f P k t) (hne : k ≠ t) (hu : f k = u) : P u ∧ Up f P u t := by
  cases h with
  | refl => exact absurd rfl hne
  | step _ q e h3 =>
    have e3 := Int.ofNat.inj (e.symm.trans hu)
    subst e3
    exact ⟨q, h3⟩
end
section
variable {m N : Nat} {f : Nat → Int} {bags near : List Nat} {d : Nat → Nat} (T : TD m N f bags near d)
include T
theorem sub_depth {a t : Nat} (h : Sub f m t a) : d t ≤ d a := by
  induction h with
  | refl => exact Nat.le_refl _
  | step p q e _ ih => have := T.dep _ _ p q e; omega
theorem hs_top {v b : Nat} (hb : Hs bags m v b) : ∃ t, Top f (Hs bags m v) t ∧ Up f (Hs bags m v) b t :=
  up_top (n := m) (fun _ h => h.1) T.dep (d b) b (Nat.le_refl _) hb
/-- All bags that have u stand below kid. -/
theorem below_all {u kid at_ b b' : Nat} (hk : f kid = at_) (hb : Hs bags m u b) (hs : Sub f m kid b) (hn : ¬ Hs bags m u at_) (hb' : Hs bags m u b') : Sub f m kid b' := by
  obtain ⟨t, ht, hu⟩ := hs_top T hb
  obtain ⟨t', ht', hu'⟩ := hs_top T hb'
  obtain ⟨t0, _, huni⟩ := T.hang u (T.bit b u hb.2)
  have e1 := huni t ht
  have e2 := huni t' ht'
  subst e1
  subst e2
  have h1 : Sub f m kid t' := by
    rcases hu.cmp hs with h | h
    · exact h
    · by_cases e : kid = t'
      · rw [e]; exact .refl
      · exact absurd (h.first e hk).1 hn
  exact (hu'.mono (fun _ h => h.1)).trans h1
/-- What is in a bag and somewhere below kid is in kid's bag. -/
theorem in_kid {v kid at_ b : Nat} (hkm : kid < m) (hk : f kid = at_) (hat : Hs bags m v at_) (hb : Hs bags m v b) (hs : Sub f m kid b) : Hs bags m v kid := by
  apply Classical.byContradiction
  intro hn
  obtain ⟨t, ht, hu⟩ := hs_top T hb
  obtain ⟨t', ht', hu'⟩ := hs_top T hat
  obtain ⟨t0, _, huni⟩ := T.hang v (T.bit b v hb.2)
  have e1 := huni t ht
  have e2 := huni t' ht'
  subst e1
  subst e2
  rcases hu.cmp hs with h | h
  · have h1 := sub_depth T h
    have h2 := sub_depth T (hu'.mono (Q := (· < m)) (fun _ h => h.1))
    have h3 := T.dep kid at_ hkm hat.1 hk
    omega
  · exact hn (h.self ht.1)
theorem sub_split {at_ j : Nat} (h : Sub f m at_ j) : j = at_ ∨ ∃ kid, kid < m ∧ f kid = at_ ∧ Sub f m kid j := by
  have _ := T
  induction h with
  | refl => exact Or.inl rfl
  | step p q e _ ih =>
    rcases ih with rfl | ⟨kid, h1, h2, h3⟩
    · exact Or.inr ⟨_, p, e, .refl⟩
    · exact Or.inr ⟨kid, h1, h2, .step p q e h3⟩
theorem sub_kid {at_ kid j : Nat} (ham : at_ < m) (hkm : kid < m) (hk : f kid = at_) (h : Sub f m kid j) : Sub f m at_ j := by
  have _ := T
  exact h.trans (.step hkm ham hk .refl)
theorem sub_apart {at_ k1 k2 j : Nat} (ham : at_ < m) (h1m : k1 < m) (h2m : k2 < m) (e1 : f k1 = at_) (e2 : f k2 = at_) (h1 : Sub f m k1 j) (h2 : Sub f m k2 j) : k1 = k2 := by
  have key : ∀ a b, a < m → b < m → f a = at_ → f b = at_ → Sub f m b a → a = b := fun a b ha hb ea eb h => by
    by_cases e : a = b
    · exact e
    · have h3 := (h.first e ea).2
      have h4 := sub_depth T h3
      have h5 := T.dep b at_ hb ham eb
      omega
  rcases h1.cmp h2 with h | h
  · exact key k1 k2 h1m h2m e1 e2 h
  · exact (key k2 k1 h2m h1m e2 e1 h).symm
theorem not_up {at_ kid par : Nat} (ham : at_ < m) (hkm : kid < m) (hpm : par < m) (hk : f kid = at_) (hp : f at_ = par) : ¬ Sub f m kid par := fun h => by
  have h1 := sub_depth T h
  have h2 := T.dep kid at_ hkm ham hk
  have h3 := T.dep at_ par ham hpm hp
  omega
end
end Go.Proofs.YtdalconphfgepaaDoor

namespace Go.Proofs.YtdalconphfgepaaDoor
open Go.RowKit Go.Maps
def wS (wt : Nat → Int) (s : Nat) : Nat → Int
  | 0 => 0
  | n + 1 => wS wt s n + if s.testBit n = true then wt n else 0
theorem wS_eq (wt : Nat → Int) (s : Nat) : ∀ n, (((List.range n).filter s.testBit).map wt).sum = wS wt s n
  | 0 => rfl
  | n + 1 => by
    rw [List.range_succ, List.filter_append, List.map_append, List.sum_append, wS_eq wt s n, wS]
    congr 1
    by_cases h : s.testBit n = true
    · simp [h]
    · simp [h]
theorem wsum_eq (wt : Nat → Int) (s : Nat) : wsum wt s = wS wt s 128 := wS_eq wt s 128
theorem wS_or {wt : Nat → Int} {s t u : Nat} (hu : ∀ x, u.testBit x = true ↔ (s.testBit x = true ∨ t.testBit x = true)) (hd : ∀ x, s.testBit x = true → t.testBit x = true → False) : ∀ n, wS wt u n = wS wt s n + wS wt t n
  | 0 => rfl
  | n + 1 => by
    rw [wS, wS, wS, wS_or hu hd n]
    have h1 := hu n
    have h2 := hd n
    by_cases hs : s.testBit n = true
    · have ht : ¬ t.testBit n = true := fun h => h2 hs h
      rw [if_pos hs, if_neg ht, if_pos (h1.2 (Or.inl hs))]
      omega
    · by_cases ht : t.testBit n = true
      · rw [if_neg hs, if_pos ht, if_pos (h1.2 (Or.inr ht))]
        omega
      · rw [if_neg hs, if_neg ht, if_neg (fun h => (h1.1 h).elim hs ht)]
        omega
theorem wsum_or {wt : Nat → Int} {s t u : Nat} (hu : ∀ x, u.testBit x = true ↔ (s.testBit x = true ∨ t.testBit x = true)) (hd : ∀ x, s.testBit x = true → t.testBit x = true → False) : wsum wt u = wsum wt s + wsum wt t := by
  rw [wsum_eq, wsum_eq, wsum_eq]
  exact wS_or hu hd 128
theorem wsum_zero (wt : Nat → Int) : wsum wt 0 = 0 := by
  have h : ∀ n, wS wt 0 n = 0 := fun n => by
    induction n with
    | zero => rfl
    | succ n ih => rw [wS, ih, if_neg (by rw [Nat.zero_testBit]; simp)]; rfl
  rw [wsum_eq, h]
/-- Those of I of which P holds. -/
noncomputable def res (I : Nat) (P : Nat → Prop) : Nat := setOf ((List.range 128).filter fun x => @decide (I.testBit x = true ∧ P x) (Classical.propDecidable _))
theorem res_bit {I : Nat} (hI : I < 2 ^ 128) (P : Nat → Prop) (x : Nat) : (res I P).testBit x = true ↔ (I.testBit x = true ∧ P x) := by
  unfold res
  rw [bit_setOf, decide_eq_true_eq, List.mem_filter, List.mem_range]
  exact ⟨fun h => @of_decide_eq_true _ (Classical.propDecidable _) h.2, fun h => ⟨bit_lt hI h.1, @decide_eq_true _ (Classical.propDecidable _) h⟩⟩
theorem res_lt {I : Nat} (hI : I < 2 ^ 128) (P : Nat → Prop) : res I P < 2 ^ 128 := lt_of_bits fun i h => bit_lt hI ((res_bit hI P i).1 h).1
theorem or_bit (s t x : Nat) : (s ||| t).testBit x = true ↔ (s.testBit x = true ∨ t.testBit x = true) := by rw [Nat.testBit_or, Bool.or_eq_true]
theorem and_bit (s t x : Nat) : (s &&& t).testBit x = true ↔ (s.testBit x = true ∧ t.testBit x = true) := by rw [Nat.testBit_and, Bool.and_eq_true]
theorem less_bit (s t x : Nat) : (sLess s t).testBit x = true ↔ (s.testBit x = true ∧ ¬ t.testBit x = true) := by rw [bit_less, Bool.and_eq_true, Bool.not_eq_true', Bool.not_eq_true]
/-- x is in some bag below. -/
def InS (f : Nat → Int) (bags : List Nat) (m at_ x : Nat) : Prop := ∃ j, Sub f m at_ j ∧ Hs bags m x j
/-- What the loads of a bag tell: they are loads, and none is heavier. -/
structure UR (near bags : List Nat) (f : Nat → Int) (m : Nat) (wt : Nat → Int) (at_ above : Nat) (R : Lds) : Prop where
  is : ∀ k r, R k = some r → r.2 < 2 ^ 128 ∧ r.1 = wsum wt r.2 ∧ (∀ x, k.testBit x = true → (at' bags at_).testBit x = true ∧ above.testBit x = true) ∧ (∀ x, r.2.testBit x = true → ¬ above.testBit x = true ∧ InS f bags m at_ x) ∧ Ind near (k ||| r.2)
  best : ∀ I, I < 2 ^ 128 → Ind near I → (∀ x, I.testBit x = true → InS f bags m at_ x) → ∃ r, R (I &&& at' bags at_ &&& above) = some r ∧ wsum wt (sLess I above) ≤ r.1
/-- The same, in the midst of the bags that hang at it. -/
structure AR (near bags : List Nat) (f : Nat → Int) (m : Nat) (wt : Nat → Int) (at_ : Nat) (K : List Nat) (F : Lds) : Prop where
  is : ∀ s p, F s = some p → ChoL near (elems (at' bags at_)) s ∧ p.2 < 2 ^ 128 ∧ p.1 = wsum wt p.2 ∧ (∀ x, p.2.testBit x = true → ¬ (at' bags at_).testBit x = true ∧ ∃ kid ∈ K, InS f bags m kid x) ∧ Ind near (s ||| p.2)
  best : ∀ I, I < 2 ^ 128 → Ind near I → ∃ p, F (I &&& at' bags at_) = some p ∧ wsum wt (res I fun x => ¬ (at' bags at_).testBit x = true ∧ ∃ kid ∈ K, InS f bags m kid x) ≤ p.1
section
variable {m N : Nat} {f : Nat → Int} {bags near : List Nat} {d : Nat → Nat} (T : TD m N f bags near d) {wt : Nat → Int} {at_ : Nat} (ham : at_ < m) (hbl : at' bags at_ < 2 ^ 128)
include T
theorem ar_start (hbl : at' bags at_ < 2 ^ 128) {F : Lds} (hF : ChoF near (elems (at' bags at_)) F) : AR near bags f m wt at_ [] F := by
  have _ := T
  refine ⟨fun s p hp => ?_, fun I hI hInd => ?_⟩
  · obtain ⟨rfl, h⟩ := hF.2 s p hp
    exact ⟨h, by decide, (wsum_zero wt).symm, fun x hx => by simp at hx, by simpa using h.2.2⟩
  · refine ⟨(0, 0), hF.1 _ ⟨and_lt hI, fun x hx => (mem_elems hbl).2 ((and_bit _ _ x).1 hx).2, hInd.sub fun x hx => ((and_bit _ _ x).1 hx).1⟩, ?_⟩
    have e : (res I fun x => ¬ (at' bags at_).testBit x = true ∧ ∃ kid ∈ ([] : List Nat), InS f bags m kid x) = 0 := by
      refine Nat.eq_of_testBit_eq fun x => ?_
      rw [Nat.zero_testBit]
      cases h : (res I fun x => ¬ (at' bags at_).testBit x = true ∧ ∃ kid ∈ ([] : List Nat), InS f bags m kid x).testBit x with
      | false => rfl
      | true =>
        obtain ⟨_, _, k, hk, _⟩ := (res_bit hI _ x).1 h
        cases hk
    rw [e, wsum_zero]
    exact Int.le_refl _
theorem ins_apart {k1 k2 x : Nat} (ham : at_ < m) (h1m : k1 < m) (h2m : k2 < m) (e1 : f k1 = at_) (e2 : f k2 = at_) (hn : ¬ (at' bags at_).testBit x = true) (h1 : InS f bags m k1 x) (h2 : InS f bags m k2 x) : k1 = k2 := by
  obtain ⟨j1, s1, b1⟩ := h1
  obtain ⟨j2, s2, b2⟩ := h2
  exact sub_apart T ham h1m h2m e1 e2 (below_all T e1 b1 s1 (fun h => hn h.2) b2) s2
include ham hbl
theorem ar_step {K : List Nat} {F B : Lds} {kid : Nat} (hF : AR near bags f m wt at_ K F) (hkm : kid < m) (hk : f kid = at_) (hK : ∀ k ∈ K, (k < m ∧ f k = at_) ∧ k ≠ kid) (hB : UR near bags f m wt kid (at' bags at_) B) : AR near bags f m wt at_ (K ++ [kid]) (andF F B (at' bags kid)) := by
  have hins : ∀ x, (at' bags kid).testBit x = true → InS f bags m kid x := fun x hx => ⟨kid, .refl, hkm, hx⟩
  have hap : ∀ x, ¬ (at' bags at_).testBit x = true → InS f bags m kid x → (∃ k ∈ K, InS f bags m k x) → False := fun x hn h1 ⟨k, hkK, h2⟩ => (hK k hkK).2 (ins_apart T ham (hK k hkK).1.1 hkm (hK k hkK).1.2 hk hn h2 h1)
  refine ⟨fun s p' hp' => ?_, fun I hI hInd => ?_⟩
  · unfold andF at hp'
    cases hFs : F s with
    | none => rw [hFs] at hp'; cases hp'
    | some p =>
      obtain ⟨hC, hp2, hp1, hpb, hpi⟩ := hF.is s p hFs
      have hsb : ∀ x, s.testBit x = true → (at' bags at_).testBit x = true := fun x hx => (mem_elems hbl).1 (hC.2.1 x hx)
      have hI2 : s &&& at' bags kid < 2 ^ 128 := and_lt hC.1
      obtain ⟨r, hr, _⟩ := hB.best (s &&& at' bags kid) hI2 (hC.2.2.sub fun x hx => ((and_bit _ _ x).1 hx).1) (fun x hx => hins x ((and_bit _ _ x).1 hx).2)
      have e : (s &&& at' bags kid) &&& at' bags kid &&& at' bags at_ = s &&& at' bags kid := by
        refine Nat.eq_of_testBit_eq fun x => ?_
        rw [Bool.eq_iff_iff, and_bit, and_bit, and_bit]
        exact ⟨fun h => h.1.1, fun h => ⟨⟨h, h.2⟩, hsb x h.1⟩⟩
      rw [e] at hr
      rw [hFs, hr] at hp'
      simp only [Option.map_some, Option.getD_some, Option.some.injEq] at hp'
      subst hp'
      obtain ⟨hr2, hr1, hrk, hrb, hri⟩ := hB.is _ _ hr
      refine ⟨hC, or_lt hp2 hr2, ?_, fun x hx => ?_, fun a b ha hb => ?_⟩
      · show p.1 + r.1 = _
        rw [hp1, hr1]
        exact (wsum_or (fun x => or_bit _ _ x) (fun x h1 h2 => hap x (hrb x h2).1 (hrb x h2).2 (hpb x h1).2)).symm
      · rcases (or_bit _ _ x).1 hx with h | h
        · obtain ⟨h1, k, h2, h3⟩ := hpb x h
          exact ⟨h1, k, List.mem_append_left _ h2, h3⟩
        · exact ⟨(hrb x h).1, kid, by simp, (hrb x h).2⟩
      · have cross : ∀ a b, r.2.testBit a = true → (s ||| p.2).testBit b = true → (at' near a).testBit b = false := fun a b ha hb => by
          cases hE : (at' near a).testBit b with
          | false => rfl
          | true =>
            obtain ⟨j, hja, hjb⟩ := T.edge a b hE
            obtain ⟨hna, j0, hs0, hb0⟩ := hrb a ha
            have hsj := below_all T hk hb0 hs0 (fun h => hna h.2) hja
            rcases (or_bit _ _ b).1 hb with h | h
            · have hk2 := in_kid T hkm hk ⟨ham, hsb b h⟩ hjb hsj
              have := hri a b ((or_bit _ _ a).2 (Or.inr ha)) ((or_bit _ _ b).2 (Or.inl ((and_bit _ _ b).2 ⟨h, hk2.2⟩)))
              rw [hE] at this
              exact this
            · obtain ⟨hnb, k, hkK, hin⟩ := hpb b h
              exact (hap b hnb ⟨j, hsj, hjb⟩ ⟨k, hkK, hin⟩).elim
        have hA : (s ||| p.2).testBit a = true ∨ r.2.testBit a = true := by
          rw [or_bit] at ha
          rcases ha with h | h
          · exact Or.inl ((or_bit _ _ a).2 (Or.inl h))
          · rcases (or_bit _ _ a).1 h with h | h
            · exact Or.inl ((or_bit _ _ a).2 (Or.inr h))
            · exact Or.inr h
        have hBb : (s ||| p.2).testBit b = true ∨ r.2.testBit b = true := by
          rw [or_bit] at hb
          rcases hb with h | h
          · exact Or.inl ((or_bit _ _ b).2 (Or.inl h))
          · rcases (or_bit _ _ b).1 h with h | h
            · exact Or.inl ((or_bit _ _ b).2 (Or.inr h))
            · exact Or.inr h
        rcases hA with ha | ha
        · rcases hBb with hb | hb
          · exact hpi a b ha hb
          · cases hE : (at' near a).testBit b with
            | false => rfl
            | true => have := cross b a hb ha; rw [T.sym a b hE] at this; cases this
        · rcases hBb with hb | hb
          · exact cross a b ha hb
          · exact hri a b ((or_bit _ _ a).2 (Or.inr ha)) ((or_bit _ _ b).2 (Or.inr hb))
  · obtain ⟨p, hp, hle⟩ := hF.best I hI hInd
    have hres := res_bit hI (fun x => InS f bags m kid x)
    obtain ⟨r, hr, hle2⟩ := hB.best (res I fun x => InS f bags m kid x) (res_lt hI _) (hInd.sub fun x hx => ((hres x).1 hx).1) (fun x hx => ((hres x).1 hx).2)
    have e : (res I fun x => InS f bags m kid x) &&& at' bags kid &&& at' bags at_ = (I &&& at' bags at_) &&& at' bags kid := by
      refine Nat.eq_of_testBit_eq fun x => ?_
      rw [Bool.eq_iff_iff, and_bit, and_bit, and_bit, and_bit, hres]
      exact ⟨fun h => ⟨⟨h.1.1.1, h.2⟩, h.1.2⟩, fun h => ⟨⟨⟨h.1.1, hins x h.2⟩, h.2⟩, h.1.2⟩⟩
    rw [e] at hr
    refine ⟨addL p r, ?_, ?_⟩
    · unfold andF
      rw [hp, hr]
      rfl
    · show _ ≤ p.1 + r.1
      have hs : wsum wt (res I fun x => ¬ (at' bags at_).testBit x = true ∧ ∃ k ∈ K ++ [kid], InS f bags m k x) = wsum wt (res I fun x => ¬ (at' bags at_).testBit x = true ∧ ∃ k ∈ K, InS f bags m k x) + wsum wt (sLess (res I fun x => InS f bags m kid x) (at' bags at_)) := by
        refine wsum_or (fun x => ?_) (fun x h1 h2 => ?_)
        · rw [res_bit hI, res_bit hI, less_bit, hres]
          constructor
          · rintro ⟨h1, h2, k, h3, h4⟩
            rcases List.mem_append.1 h3 with h5 | h5
            · exact Or.inl ⟨h1, h2, k, h5, h4⟩
            · simp at h5; subst h5; exact Or.inr ⟨⟨h1, h4⟩, h2⟩
          · rintro (⟨h1, h2, k, h3, h4⟩ | ⟨⟨h1, h2⟩, h3⟩)
            · exact ⟨h1, h2, k, List.mem_append_left _ h3, h4⟩
            · exact ⟨h1, h3, kid, by simp, h2⟩
        · rw [res_bit hI] at h1
          rw [less_bit, hres] at h2
          exact hap x h2.2 h2.1.2 h1.2.2
      rw [hs]
      omega
/-- All bags that hang at it are done: what settle leaves. -/
theorem ur_of {K : List Nat} {F R : Lds} {above : Nat} (hF : AR near bags f m wt at_ K F) (hK : ∀ k, k ∈ K ↔ (k < m ∧ f k = at_)) (hab : (f at_ = -1 ∧ above = 0) ∨ ∃ par : Nat, f at_ = par ∧ par < m ∧ above = at' bags par) (hR : SetR wt above F R) : UR near bags f m wt at_ above R := by
  have hnab : ∀ x, ¬ (at' bags at_).testBit x = true → (∃ k ∈ K, InS f bags m k x) → ¬ above.testBit x = true := fun x hn ⟨k, hk, j, hs, hb⟩ hx => by
    rcases hab with ⟨_, rfl⟩ | ⟨par, hp, hpm, rfl⟩
    · simp at hx
    · have hkk := (hK k).1 hk
      exact not_up T ham hkk.1 hpm hkk.2 hp (below_all T hkk.2 hb hs (fun h => hn h.2) ⟨hpm, hx⟩)
  refine ⟨fun k r hr => ?_, fun I hI hInd hIn => ?_⟩
  · obtain ⟨s, p, hp, rfl, rfl⟩ := hR.2 k r hr
    obtain ⟨hC, hp2, hp1, hpb, hpi⟩ := hF.is s p hp
    have hsb : ∀ x, s.testBit x = true → (at' bags at_).testBit x = true := fun x hx => (mem_elems hbl).1 (hC.2.1 x hx)
    refine ⟨or_lt hp2 (less_lt hC.1), ?_, fun x hx => ?_, fun x hx => ?_, fun a b ha hb => ?_⟩
    · show p.1 + _ = _
      rw [hp1]
      exact (wsum_or (fun x => or_bit _ _ x) (fun x h1 h2 => (hpb x h1).1 (hsb x ((less_bit _ _ x).1 h2).1))).symm
    · have := (and_bit _ _ x).1 hx
      exact ⟨hsb x this.1, this.2⟩
    · rcases (or_bit _ _ x).1 hx with h | h
      · obtain ⟨h1, k, h2, j, h3, h4⟩ := hpb x h
        exact ⟨hnab x h1 ⟨k, h2, j, h3, h4⟩, j, sub_kid T ham ((hK k).1 h2).1 ((hK k).1 h2).2 h3, h4⟩
      · have := (less_bit _ _ x).1 h
        exact ⟨this.2, at_, .refl, ham, hsb x this.1⟩
    · have key : ∀ y, ((s &&& above) ||| (stl wt above s p).2).testBit y = true → (s ||| p.2).testBit y = true := fun y hy => by
        rw [or_bit] at hy ⊢
        rcases hy with h | h
        · exact Or.inl ((and_bit _ _ y).1 h).1
        · rcases (or_bit _ _ y).1 h with h | h
          · exact Or.inr h
          · exact Or.inl ((less_bit _ _ y).1 h).1
      exact hpi a b (key a ha) (key b hb)
  · obtain ⟨p, hp, hle⟩ := hF.best I hI hInd
    obtain ⟨r, hr, hle2⟩ := hR.1 _ p hp
    refine ⟨r, hr, Int.le_trans ?_ hle2⟩
    show _ ≤ p.1 + _
    have hs : wsum wt (sLess I above) = wsum wt (res I fun x => ¬ (at' bags at_).testBit x = true ∧ ∃ k ∈ K, InS f bags m k x) + wsum wt (sLess (I &&& at' bags at_) above) := by
      refine wsum_or (fun x => ?_) (fun x h1 h2 => ?_)
      · rw [less_bit, res_bit hI, less_bit, and_bit]
        constructor
        · rintro ⟨h1, h2⟩
          by_cases hx : (at' bags at_).testBit x = true
          · exact Or.inr ⟨⟨h1, hx⟩, h2⟩
          · refine Or.inl ⟨h1, hx, ?_⟩
            obtain ⟨j, hs, hb⟩ := hIn x h1
            rcases sub_split T hs with rfl | ⟨k, h3, h4, h5⟩
            · exact absurd hb.2 hx
            · exact ⟨k, (hK k).2 ⟨h3, h4⟩, j, h5, hb⟩
        · rintro (⟨h1, h2, h3⟩ | ⟨⟨h1, _⟩, h2⟩)
          · exact ⟨h1, hnab x h2 h3⟩
          · exact ⟨h1, h2⟩
      · rw [res_bit hI] at h1
        rw [less_bit, and_bit] at h2
        exact h1.2.1 h2.1.2
    rw [hs]
    omega
end
end Go.Proofs.YtdalconphfgepaaDoor
