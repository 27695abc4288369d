/- Choices of nodes of which no two have an edge: the mathematics. All choices of nodes of a bag: scale.choices. -/
import Derived.Test.YtdalconphfgepaaDoorAndW
namespace Go.Proofs.YtdalconphfgepaaDoor
open Go.RowKit Go.Maps
def Ind (near : List Nat) (s : Nat) : Prop := ∀ a b, s.testBit a = true → s.testBit b = true → (at' near a).testBit b = false
def ChoL (near L : List Nat) (s : Nat) : Prop := s < 2 ^ 128 ∧ (∀ x, s.testBit x = true → x ∈ L) ∧ Ind near s
/-- A map has just the choices of L, with nothing below them. -/
def ChoF (near L : List Nat) (F : Lds) : Prop := (∀ s, ChoL near L s → F s = some (0, 0)) ∧ ∀ s p, F s = some p → p = (0, 0) ∧ ChoL near L s
theorem Ind.sub {near : List Nat} {s t : Nat} (h : Ind near s) (ht : ∀ x, t.testBit x = true → s.testBit x = true) : Ind near t := fun a b ha hb => h a b (ht a ha) (ht b hb)
theorem and_zero {s t : Nat} : s &&& t = 0 ↔ ∀ x, s.testBit x = true → t.testBit x = false := by
  constructor
  · intro h x hx
    have : (s &&& t).testBit x = false := by rw [h]; exact Nat.zero_testBit x
    rw [Nat.testBit_and, hx, Bool.true_and] at this
    exact this
  · intro h
    refine Nat.eq_of_testBit_eq fun x => ?_
    rw [Nat.testBit_and, Nat.zero_testBit]
    cases hx : s.testBit x with
    | false => rfl
    | true => rw [h x hx]; rfl
section
variable {near L : List Nat} {v : Nat} (hv : v < 128) (hsym : ∀ a b, (at' near a).testBit b = true → (at' near b).testBit a = true) (hirr : ∀ a, (at' near a).testBit a = false)
include hv hsym hirr
theorem cho_add {s : Nat} (h : ChoL near L s) (h0 : s &&& at' near v = 0) : ChoL near (L ++ [v]) (sAdd s v) := by
  refine ⟨add_lt h.1 hv, fun x hx => ?_, fun a b ha hb => ?_⟩
  · rw [bit_add] at hx
    simp only [Bool.or_eq_true, decide_eq_true_eq] at hx
    rcases hx with hx | rfl
    · exact List.mem_append_left _ (h.2.1 x hx)
    · simp
  · rw [bit_add] at ha hb
    simp only [Bool.or_eq_true, decide_eq_true_eq] at ha hb
    have key : ∀ x, s.testBit x = true → (at' near v).testBit x = false := and_zero.1 h0
    rcases ha with ha | rfl
    · rcases hb with hb | rfl
      · exact h.2.2 a b ha hb
      · cases e : (at' near a).testBit b with
        | false => rfl
        | true => have := key a ha; rw [hsym a b e] at this; cases this
    · rcases hb with hb | rfl
      · exact key b hb
      · exact hirr b
omit hv hsym hirr in
theorem cho_mono {s : Nat} (h : ChoL near L s) : ChoL near (L ++ [v]) s := ⟨h.1, fun x hx => List.mem_append_left _ (h.2.1 x hx), h.2.2⟩
omit hv hsym hirr in
theorem cho_split {s : Nat} (h : ChoL near (L ++ [v]) s) : ChoL near L s ∨ ∃ t, ChoL near L t ∧ t &&& at' near v = 0 ∧ s = sAdd t v := by
  by_cases hb : s.testBit v = true
  · refine Or.inr ⟨sDrop s v, ⟨drop_lt h.1, fun x hx => ?_, h.2.2.sub fun x hx => ?_⟩, and_zero.2 fun x hx => ?_, ?_⟩
    · rw [bit_drop] at hx
      simp only [Bool.and_eq_true, Bool.not_eq_true', decide_eq_false_iff_not] at hx
      rcases List.mem_append.1 (h.2.1 x hx.1) with h1 | h1
      · exact h1
      · simp at h1; exact absurd h1 hx.2
    · rw [bit_drop] at hx
      exact (Bool.and_eq_true_iff.1 hx).1
    · rw [bit_drop] at hx
      exact h.2.2 v x hb (Bool.and_eq_true_iff.1 hx).1
    · refine Nat.eq_of_testBit_eq fun x => ?_
      rw [bit_add, bit_drop]
      by_cases e : x = v
      · subst e; simp [hb]
      · simp [e]
  · refine Or.inl ⟨h.1, fun x hx => ?_, h.2.2⟩
    rcases List.mem_append.1 (h.2.1 x hx) with h1 | h1
    · exact h1
    · simp at h1; subst h1; exact absurd hx hb
/-- What one more node adds. -/
theorem choF_step {F G : Lds} (hF : ChoF near L F) (h1 : ∀ s, F s ≠ none → G s = some (0, 0) ∧ (s &&& at' near v = 0 → G (sAdd s v) = some (0, 0))) (h2 : ∀ k p, G k = some p → p = (0, 0) ∧ ∃ s, F s ≠ none ∧ (k = s ∨ (s &&& at' near v = 0 ∧ k = sAdd s v))) : ChoF near (L ++ [v]) G := by
  constructor
  · intro s hs
    rcases cho_split hs with h | ⟨t, ht, h0, rfl⟩
    · exact (h1 s (by rw [hF.1 s h]; simp)).1
    · exact (h1 t (by rw [hF.1 t ht]; simp)).2 h0
  · intro k p hk
    obtain ⟨hp, s, hs, hc⟩ := h2 k p hk
    refine ⟨hp, ?_⟩
    obtain ⟨q, hq⟩ : ∃ q, F s = some q := by
      cases e : F s with
      | none => exact absurd e hs
      | some q => exact ⟨q, rfl⟩
    have hS := (hF.2 s q hq).2
    rcases hc with rfl | ⟨h0, rfl⟩
    · exact cho_mono hS
    · exact cho_add hv hsym hirr hS h0
end
/-- What the inner loop of choices keeps. -/
structure CI (w3 wz : World) (bf bm r n v nv : Nat) (F : Lds) (V : Nat → Prop) (cnt n' : Nat) (G : Lds) : Prop where
  ran : RanL wz bf r n F V cnt
  map : MapL wz bm n' G
  bel : Below w3.heap.size w3 wz
  le : n' + 2 * cnt ≤ 2 * n
  vis : ∀ s, V s → G s = some (0, 0) ∧ (s &&& nv = 0 → G (sAdd s v) = some (0, 0))
  out : ∀ k p, G k = some p → p = (0, 0) ∧ ∃ s, (V s ∧ F s ≠ none) ∧ (k = s ∨ (s &&& nv = 0 ∧ k = sAdd s v))
end Go.Proofs.YtdalconphfgepaaDoor

namespace Go.Proofs.YtdalconphfgepaaDoor
set_option maxRecDepth 8000
open Go.RowKit Go.Maps
attribute [local go_sem ↓] Go.wp_at_zero Go.wp_at_succ
theorem sv_zero : sv 0 = .agg #[.int .u64 0, .int .u64 0] := rfl
theorem lv_zero : lv (0, 0) = .agg #[.int .i64 0, .int .u64 0, .int .u64 0] := rfl
def ChoA (w : World) (near : List Nat) (bag : Nat) (e : Ending) (w' : World) : Prop := ∃ bm n F, e = .returned (.map (some bm)) ∧ MapL w' bm n F ∧ n ≤ 2 ^ countS bag ∧ w.heap.size ≤ bm ∧ ChoF near (elems bag) F
section
variable {F G : Lds} {V : Nat → Prop} {s v nv : Nat}
theorem updL_ne {t : Nat} {p : Int × Nat} (h : t ≠ s) : updL G s p t = G t := if_neg h
theorem updL_keep {k t : Nat} (h : G k = some (0, 0)) : updL G t (0, 0) k = some (0, 0) := by
  by_cases e : k = t
  · rw [e, updL_same]
  · rw [updL_ne e]; exact h
theorem cho_vis1 (h : ∀ s, V s → G s = some (0, 0) ∧ (s &&& nv = 0 → G (sAdd s v) = some (0, 0))) (hne : ¬ (s &&& nv = 0)) : ∀ t, (V t ∨ t = s) → updL G s (0, 0) t = some (0, 0) ∧ (t &&& nv = 0 → updL G s (0, 0) (sAdd t v) = some (0, 0)) := fun t ht => by
  rcases ht with ht | rfl
  · exact ⟨updL_keep (h t ht).1, fun h0 => updL_keep ((h t ht).2 h0)⟩
  · exact ⟨updL_same _ _ _, fun h0 => absurd h0 hne⟩
theorem cho_out1 (h : ∀ k p, G k = some p → p = (0, 0) ∧ ∃ s, (V s ∧ F s ≠ none) ∧ (k = s ∨ (s &&& nv = 0 ∧ k = sAdd s v))) (hF : F s ≠ none) : ∀ k p, updL G s (0, 0) k = some p → p = (0, 0) ∧ ∃ t, ((V t ∨ t = s) ∧ F t ≠ none) ∧ (k = t ∨ (t &&& nv = 0 ∧ k = sAdd t v)) := fun k p hk => by
  by_cases e : k = s
  · subst e
    rw [updL_same] at hk
    exact ⟨(Option.some.inj hk).symm, k, ⟨Or.inr rfl, hF⟩, Or.inl rfl⟩
  · rw [updL_ne e] at hk
    obtain ⟨h1, t, h2, h3⟩ := h k p hk
    exact ⟨h1, t, ⟨Or.inl h2.1, h2.2⟩, h3⟩
theorem cho_vis2 (h : ∀ s, V s → G s = some (0, 0) ∧ (s &&& nv = 0 → G (sAdd s v) = some (0, 0))) : ∀ t, (V t ∨ t = s) → updL (updL G s (0, 0)) (sAdd s v) (0, 0) t = some (0, 0) ∧ (t &&& nv = 0 → updL (updL G s (0, 0)) (sAdd s v) (0, 0) (sAdd t v) = some (0, 0)) := fun t ht => by
  rcases ht with ht | rfl
  · exact ⟨updL_keep (updL_keep (h t ht).1), fun h0 => updL_keep (updL_keep ((h t ht).2 h0))⟩
  · exact ⟨updL_keep (updL_same _ _ _), fun _ => updL_same _ _ _⟩
theorem cho_out2 (h : ∀ k p, G k = some p → p = (0, 0) ∧ ∃ s, (V s ∧ F s ≠ none) ∧ (k = s ∨ (s &&& nv = 0 ∧ k = sAdd s v))) (hF : F s ≠ none) (h0 : s &&& nv = 0) : ∀ k p, updL (updL G s (0, 0)) (sAdd s v) (0, 0) k = some p → p = (0, 0) ∧ ∃ t, ((V t ∨ t = s) ∧ F t ≠ none) ∧ (k = t ∨ (t &&& nv = 0 ∧ k = sAdd t v)) := fun k p hk => by
  by_cases e : k = sAdd s v
  · subst e
    rw [updL_same] at hk
    exact ⟨(Option.some.inj hk).symm, s, ⟨Or.inr rfl, hF⟩, Or.inr ⟨h0, rfl⟩⟩
  · rw [updL_ne e] at hk
    exact cho_out1 h hF k p hk
end
set_option maxHeartbeats 8000000 in
theorem choices_call {w : World} {bn N bag : Nat} {x1 x2 x3 x4 : Value} {near : List Nat} (hS : SetsAt w bn near) (hl : near.length = N) (hN : N ≤ 100) (hsym : ∀ a b, (at' near a).testBit b = true → (at' near b).testBit a = true) (hirr : ∀ a, (at' near a).testBit a = false) (hbag : bag < 2 ^ 128) (hb : ∀ x, bag.testBit x = true → x < N) (hc : countS bag ≤ 12) (ht : T64 w) :
    Calls Tryd.prog 74 #[.agg #[sl bn N, x1, x2, x3, x4], sv bag] w fun e w' => ChoA w near bag e w' ∧ Below w.heap.size w w' := by
  have C43 : Hid (∀ A, T64 A → Calls Tryd.prog 43 #[sv bag] A fun e w' => RisA A w' e (elems bag)) := fun A hA => rising_call hbag hA
  have HEB : Hid (∀ x, x ∈ elems bag → x < N) := fun x hx => hb x ((mem_elems hbag).1 hx)
  have hEl : (elems bag).length ≤ 12 := hc
  have HCH : Hid (ChoA w near bag = fun e w' => ∃ bm n F, e = .returned (.map (some bm)) ∧ MapL w' bm n F ∧ n ≤ 2 ^ (elems bag).length ∧ w.heap.size ≤ bm ∧ ChoF near (elems bag) F) := rfl
  have HH : Hid (SetsAt w bn near ∧ near.length = N ∧ T64 w ∧ (∀ a b, (at' near a).testBit b = true → (at' near b).testBit a = true) ∧ (∀ a, (at' near a).testBit a = false)) := ⟨hS, hl, ht, hsym, hirr⟩
  generalize elems bag = E at *
  generalize ChoA w near bag = CA at *
  clear hS hl hsym hirr hbag hb hc ht
  have hmm := @run_makeMap Tryd.prog
  go_enter Tryd.func74, Tryd.ntmps74
  go_upto_region 1 with (fail)
  have y2 : Box ((w.alloc (Obj.cells #[sl bn N, x1, x2, x3, x4] 80)).alloc (Obj.cells #[.int .u64 (lo64 bag : Int), .int .u64 (hi64 bag : Int)] 76)) w.heap.size #[sl bn N, x1, x2, x3, x4] 80 := (below_alloc (Below.refl _ _) _).block _ (by simp) |>.trans (heap_alloc_new _ _)
  have y3 := two_new (w.alloc (Obj.cells #[sl bn N, x1, x2, x3, x4] 80)) (.int .u64 (lo64 bag : Int)) (.int .u64 (hi64 bag : Int)) 76
  have hB := below_alloc (below_alloc (Below.refl _ w) (Obj.cells #[sl bn N, x1, x2, x3, x4] 80)) (Obj.cells #[.int .u64 (lo64 bag : Int), .int .u64 (hi64 bag : Int)] 76)
  have e3 : (w.alloc (Obj.cells #[sl bn N, x1, x2, x3, x4] 80)).heap.size = w.heap.size + 1 := by simp
  rw [e3] at y3
  generalize (w.alloc (Obj.cells #[sl bn N, x1, x2, x3, x4] 80)).alloc (Obj.cells #[.int .u64 (lo64 bag : Int), .int .u64 (hi64 bag : Int)] 76) = W0 at *
  obtain ⟨b2, hb2⟩ : ∃ b, b = w.heap.size := ⟨_, rfl⟩
  obtain ⟨b3, hb3⟩ : ∃ b, b = w.heap.size + 1 := ⟨_, rfl⟩
  rw [← hb3] at y3 ⊢
  rw [← hb2] at y2 ⊢
  have HW0 : Hid (Box W0 b2 #[sl bn N, x1, x2, x3, x4] 80 ∧ SBox W0 b3 bag ∧ Below w.heap.size w W0) := ⟨y2, y3, hB⟩
  clear y2 y3 hB hb2 hb3 e3
  obtain ⟨w1, hrun0, m1, ht1⟩ := (mapL_made W0).store (s := 0) (by decide) (0, 0) (by omega)
  rw [sv_zero, lv_zero] at hrun0
  have hB1 : Below W0.heap.size W0 w1 := (grown_turns ht1.grown).below (below_alloc (Below.refl _ W0) _) (by simp) (fun z hz => by omega)
  obtain ⟨bf0, hbf⟩ : ∃ b, b = W0.heap.size := ⟨_, rfl⟩
  have HW1 : Hid (MapL w1 bf0 1 (updL (fun _ => none) 0 (0, 0)) ∧ Box w1 b2 #[sl bn N, x1, x2, x3, x4] 80 ∧ SBox w1 b3 bag ∧ Below w.heap.size w w1 ∧ w.heap.size ≤ bf0) := ⟨by rw [hbf]; exact m1, box_next HW0.out.1 hB1, two_next HW0.out.2.1 hB1, below_next HW0.out.2.2 hB1, by rw [hbf]; exact HW0.out.2.2.size⟩
  clear m1 ht1 hB1
  go_upto_region 2 with (fail)
  rw [← hbf]
  obtain ⟨c0, c1⟩ := cell_two HW1.out.2.2.1
  have T1 : T64 w1 := HH.out.2.2.1.under HW1.out.2.2.2.1
  clear hbf hrun0 hmm HW0
  go_upto_region 3 with (first | (go_at_call 43; refine Calls.mono (C43.out _ T1) ?_; rintro e w3 ⟨lo, rc, rfl, hR, h3⟩) | fail)
  have HW3 : Hid (∀ A, Below w3.heap.size w3 A → Box A b2 #[sl bn N, x1, x2, x3, x4] 80 ∧ Below w.heap.size w A ∧ SetsAt A bn near ∧ ∀ (k u : Nat), E[k]? = some u → ∃ g, lo = some ⟨g, 0, none⟩ ∧ A.cell? ⟨g, k, none⟩ = some (.int .i64 (u : Int))) := fun A hA => ⟨box_next HW1.out.2.1 (below_next h3 hA), below_next HW1.out.2.2.2.1 (below_next h3 hA), HH.out.1.under (below_next HW1.out.2.2.2.1 (below_next h3 hA)), fun k u hu => by
    obtain ⟨g, e, c⟩ := qcell hR hu
    exact ⟨g, e, by rw [hA.cell (World.block_lt_of_cell? w3 _ c)]; exact c⟩⟩
  have HM3 : Hid (MapL w3 bf0 1 (updL (fun _ => none) 0 (0, 0)) ∧ w.heap.size ≤ w3.heap.size) := ⟨HW1.out.1.under h3, (below_next HW1.out.2.2.2.1 h3).size⟩
  clear c0 c1 T1 h3 hR C43
  go_loopw [5, 7, 8, 9, 17] (fun s5 _ _ _ s17 wz => ∃ (i bf n : Nat) (F : Lds), i ≤ E.length ∧ s17 = .int .i64 (i : Int) ∧ s5 = .map (some bf) ∧ Hid (MapL wz bf n F ∧ n ≤ 2 ^ i ∧ ChoF near (E.take i) F ∧ Below w3.heap.size w3 wz ∧ w.heap.size ≤ bf)) (fun _ _ _ _ s17 _ => E.length - (numOf s17).toNat)
  case atStart =>
    refine ⟨0, bf0, 1, _, Nat.zero_le _, rfl, rfl, ⟨HM3.out.1, by decide, ⟨fun s hs => ?_, fun s p hp => ?_⟩, Below.refl _ _, HW1.out.2.2.2.2⟩⟩
    · have : s = 0 := by
        refine Nat.eq_of_testBit_eq fun x => ?_
        rw [Nat.zero_testBit]
        cases e : s.testBit x with
        | false => rfl
        | true => have := hs.2.1 x e; simp at this
      rw [this, updL_same]
    · unfold updL at hp
      split at hp
      · next e =>
        subst e
        refine ⟨(Option.some.inj hp).symm, by decide, fun x hx => ?_, fun a b ha => ?_⟩
        · rw [Nat.zero_testBit] at hx; cases hx
        · rw [Nat.zero_testBit] at ha; cases ha
      · cases hp
  case round =>
    have HM3' : Hid (w.heap.size ≤ w3.heap.size) := HM3.out.2
    clear HM3
    obtain ⟨i, bf, n, F, hi, rfl, rfl, hI⟩ := hrel
    by_cases hlt : i < E.length
    · obtain ⟨v, hv⟩ : ∃ v, E[i]? = some v := ⟨_, List.getElem?_eq_getElem hlt⟩
      obtain ⟨_, _, _, hrow⟩ := HW3.out _ hI.out.2.2.2.1
      obtain ⟨gq, rfl, cq⟩ := hrow i v hv
      have hvN := HEB.out v (List.mem_of_getElem? hv)
      have HTK : Hid (E.take (i + 1) = E.take i ++ [v]) := by
        show _ = _
        rw [List.take_succ_eq_append_getElem hlt]
        rw [List.getElem?_eq_getElem hlt] at hv
        rw [Option.some.inj hv]
      obtain ⟨nv, hnv⟩ : ∃ nv, near[v]? = some nv := ⟨_, List.getElem?_eq_getElem (show v < near.length by rw [HH.out.2.1]; exact hvN)⟩
      have HNV : Hid (near[v]? = some nv ∧ at' near v = nv) := ⟨hnv, by simp [at', hnv]⟩
      obtain ⟨kl, hkl, hlen⟩ := hI.out.1.len 3
      have hp2 : 2 ^ i ≤ 2 ^ 11 := Nat.pow_le_pow_right (by decide) (by omega)
      have hk1 : (kl : Int) ≤ 100000 := by have := hI.out.2.1; omega
      have hk0 : (0 : Int) ≤ (kl : Int) := by omega
      have hn11 : n ≤ 2048 := by have := hI.out.2.1; omega
      have i1 : (0 : Int) ≤ (i : Int) := by omega
      have i2 : (i : Int) < (E.length : Int) := by omega
      have hmm := makeMap_hint
      clear hrow hv hnv
      go_upto_region 6 with (fail)
      have m0 := mapL_made wr
      have hBa := below_alloc (Below.refl _ wr) (Obj.map #[] 0)
      obtain ⟨bm, hbm⟩ : ∃ b, b = wr.heap.size := ⟨_, rfl⟩
      rw [← hbm] at m0 ⊢
      generalize wr.alloc (Obj.map #[] 0) = W1 at *
      have HW4 : Hid (MapL W1 bm 0 (fun _ => none) ∧ MapL W1 bf n F ∧ Below w3.heap.size w3 W1 ∧ w3.heap.size ≤ bm ∧ bf < bm) := ⟨m0, hI.out.1.under hBa, below_next hI.out.2.2.2.1 hBa, by rw [hbm]; exact hI.out.2.2.2.1.size, by rw [hbm]; exact hI.out.1.lt⟩
      have HCF : Hid (ChoF near (E.take i) F ∧ n ≤ 2 ^ i) := ⟨hI.out.2.2.1, hI.out.2.1⟩
      clear m0 hBa hbm hmm hlen hkl hk1 hk0 cq hI
      go_wp2_with (first | (at_range; refine wpList_range_L rfl _ rfl rfl HW4.out.2.1 ?_; intro w4 cnt0 hc0 hR0 hg0 hs0) | go_in)
      go_frame
      have hB2 : Below W1.heap.size W1 w4 := (Turns.of_grown hg0).below (Below.refl _ _) (Nat.le_refl _) (fun z hz => by cases hz)
      have HI0 : Hid (CI w3 w4 bf bm W1.heap.size n v nv F (fun _ => False) cnt0 0 (fun _ => none)) := ⟨hR0, HW4.out.1.under hB2, below_next HW4.out.2.2.1 hB2, by omega, fun _ h => h.elim, fun _ _ h => by cases h⟩
      have HAP : Hid (w3.heap.size ≤ bm ∧ bm < W1.heap.size ∧ bf < bm) := ⟨HW4.out.2.2.2.1, HW4.out.1.lt, HW4.out.2.2.2.2⟩
      clear hR0 hg0 hs0 hc0 hB2 HW4
      generalize W1.heap.size = r at *
      go_loopw [9] (fun _ wz => ∃ V cnt n' G, Hid (CI w3 wz bf bm r n v nv F V cnt n' G)) (fun _ wz => wz.rangeLeft bf r)
      case atStart => exact ⟨_, _, _, _, HI0⟩
      case round =>
        clear HI0
        obtain ⟨V, cnt, n', G, hJ⟩ := hrel
        go_wp2_with (first | (at_next; refine wpList_next_L rfl _ rfl rfl hJ.out.ran ?_ ?_) | go_in)
        · intro hall
          have HD : Hid (MapL wr bm n' G ∧ n' ≤ 2 ^ (i + 1) ∧ ChoF near (E.take (i + 1)) G ∧ Below w3.heap.size w3 wr ∧ w.heap.size ≤ bm) := by
            refine ⟨hJ.out.map, ?_, ?_, hJ.out.bel, by have := HAP.out; have := HM3'.out; omega⟩
            · have h1 := hJ.out.le
              have h2 := HCF.out.2
              rw [Nat.pow_succ]; omega
            · rw [HTK.out]
              refine choF_step (by omega) HH.out.2.2.2.1 HH.out.2.2.2.2 HCF.out.1 (fun s hs => ?_) (fun k p hk => ?_)
              · rw [HNV.out.2]
                exact hJ.out.vis s (hall s hs)
              · rw [HNV.out.2]
                obtain ⟨h1, s, h2, h3⟩ := hJ.out.out k p hk
                exact ⟨h1, s, h2.2, h3⟩
          clear hJ hall
          go_wp2
          go_roundw
          case rel => exact ⟨i + 1, bm, n', G, by omega, by go_num, rfl, HD⟩
          case measure => simp [numOf]; omega
        · intro s p1 p2 w5 cnt5 hs hp hnV hR5 hlt5 hg5 hs5 hen
          have hB5 : Below w3.heap.size w3 w5 := (grown_turns hg5).below hJ.out.bel hJ.out.bel.size (fun z hz => by subst hz; have := HAP.out; omega)
          have m5 : MapL w5 bm n' G := hJ.out.map.block (hg5.block bm hJ.out.map.lt (fun e => by cases e; have := HAP.out; omega))
          have HQ : Hid (cnt5 < cnt ∧ wr.rangeLeft bf r = cnt ∧ n' + 2 * cnt ≤ 2 * n) := ⟨hlt5, hJ.out.ran.left_eq, hJ.out.le⟩
          have HV : Hid ((∀ s, V s → G s = some (0, 0) ∧ (s &&& nv = 0 → G (sAdd s v) = some (0, 0))) ∧ (∀ k p, G k = some p → p = (0, 0) ∧ ∃ s, (V s ∧ F s ≠ none) ∧ (k = s ∨ (s &&& nv = 0 ∧ k = sAdd s v))) ∧ F s = some (p1, p2) ∧ s < 2 ^ 128) := ⟨hJ.out.vis, hJ.out.out, hp, hs⟩
          have HR5 : Hid (RanL w5 bf r n F (fun t => V t ∨ t = s) cnt5) := hR5
          clear hJ hR5 hg5 hs5 hlt5 hnV hp
          go_upto_region 9 with (fail)
          have y9 := two_new w5 (.int .u64 (lo64 s : Int)) (.int .u64 (hi64 s : Int)) 76
          have hB6 := below_alloc (Below.refl _ w5) (Obj.cells #[.int .u64 (lo64 s : Int), .int .u64 (hi64 s : Int)] 76)
          have m6 := m5.under hB6
          have hlt9 : bm < w5.heap.size := m5.lt
          obtain ⟨b9, hb9⟩ : ∃ b, b = w5.heap.size := ⟨_, rfl⟩
          rw [← hb9] at y9 ⊢
          generalize w5.alloc (Obj.cells #[.int .u64 (lo64 s : Int), .int .u64 (hi64 s : Int)] 76) = W6 at *
          obtain ⟨w7, hrun7, m7, ht7⟩ := m6.store (s := s) hs (0, 0) (by have := HQ.out; omega)
          rw [lv_zero] at hrun7
          have HAP2 : Hid (bm < b9) := by show bm < b9; omega
          have HI7 : Hid (RanL w7 bf r n F (fun t => V t ∨ t = s) cnt5 ∧ MapL w7 bm (n' + 1) (updL G s (0, 0)) ∧ Below w3.heap.size w3 w7 ∧ SBox w7 b9 s) := by
            have hap := HAP.out
            have hap2 := HAP2.out
            refine ⟨(HR5.out.kept (row := none) ⟨hB6.os, hB6.tape, hB6.output, hB6.size, fun k hk _ => hB6.block k hk⟩ (by simp) (by simp)).kept ht7.grown (fun e => by cases e; omega) (fun e => by cases e; omega), m7, (grown_turns ht7.grown).below (below_next hB5 hB6) (below_next hB5 hB6).size (fun z hz => by subst hz; omega), two_turns y9 (grown_turns ht7.grown) (by omega)⟩
          obtain ⟨a0, a1⟩ := cell_two y9
          clear y9 hB6 m6 m7 ht7 hb9 hlt9 m5 hB5 HR5 hen
          go_upto_region 10 with (fail)
          obtain ⟨z2, _, zS, _⟩ := HW3.out _ HI7.out.2.2.1
          obtain ⟨e0, e1⟩ := cell_two HI7.out.2.2.2
          obtain ⟨c0, c1⟩ := zS.cell HNV.out.1
          have hnv128 := zS.bound HNV.out.1
          have k2 : w7.cell? ⟨b2, 0, none⟩ = some (sl bn N) := box_cell z2 (i := 0) rfl
          have C66 : Hid (∀ A, Calls Tryd.prog 66 #[sv s, sv nv] A fun e w' => e = .returned (sv (s &&& nv)) ∧ Below A.heap.size A w') := fun A => both_call hs hnv128
          have C68 : Hid (∀ A, Calls Tryd.prog 68 #[sv (s &&& nv)] A fun e w' => e = .returned (.bool (s &&& nv == 0)) ∧ Below A.heap.size A w') := fun A => isEmpty_call (and_lt hs)
          have C53 : Hid (∀ A, Calls Tryd.prog 53 #[sv s, .int .i64 (v : Int)] A fun e w' => e = .returned (sv (sAdd s v)) ∧ Below A.heap.size A w') := fun A => with_call hs (by omega)
          have j1 : (0 : Int) ≤ (v : Int) := by omega
          have j2 : (v : Int) < (N : Int) := by omega
          have g0 := cell_growD e0
          have g1 := cell_growD e1
          have g2 := cell_growD c0
          have g3 := cell_growD c1
          have g4 := cell_growD k2
          clear z2 zS e0 e1 c0 c1 k2 a0 a1 hrun7 hnv128
          obtain ⟨em, hem⟩ : ∃ em, em = (s &&& nv == 0) := ⟨_, rfl⟩
          rw [← hem] at C68
          generalize hsn : s &&& nv = sn at C66 C68
          have HEM : Hid (em = (s &&& nv == 0)) := hem
          clear hem hsn
          refine wp_region_below (by kernel_rfl) (by kernel_rfl) ?_
          repeat (go_big_quiet_step (first | (go_at_call 66; exact Calls.belowQ (fun W hW => C66.out W)) | (go_at_call 68; exact Calls.belowQ (fun W hW => C68.out W))))
          refine wpQuiet_nil ?_
          rintro _ ⟨gp, rfl⟩
          have hB8 := growD_below w7 gp
          clear g0 g1 g2 g3 g4
          generalize growD w7 gp = W8 at *
          cases em with
          | false =>
            have HN : Hid (CI w3 W8 bf bm r n v nv F (fun t => V t ∨ t = s) cnt5 (n' + 1) (updL G s (0, 0))) := by
              obtain ⟨f1, f2, f3, f4⟩ := HI7.out
              have hq := HQ.out
              obtain ⟨k1, k2, k3, k4⟩ := HV.out
              have hne : ¬ (s &&& nv = 0) := fun e => by have := HEM.out; rw [e] at this; cases this
              exact ⟨f1.kept (row := none) ⟨hB8.os, hB8.tape, hB8.output, hB8.size, fun k hk _ => hB8.block k hk⟩ (by simp) (by simp), f2.under hB8, below_next f3 hB8, by omega, cho_vis1 k1 hne, cho_out1 k2 (by rw [k3]; simp)⟩
            clear HI7 hB8 C66 C68 C53
            go_wp2
            go_roundw
            case rel => exact ⟨_, _, _, _, HN⟩
            case measure => rw [HN.out.ran.left_eq, HQ.out.2.1]; exact HQ.out.1
          | true =>
            obtain ⟨e0, e1⟩ := cell_two (two_next HI7.out.2.2.2 hB8)
            have HS9 : Hid (∀ A, Below W8.heap.size W8 A → ∃ w10, (Instr.mapUpdate 106 (.map (some bm)) (sv (sAdd s v)) (.agg #[.int .i64 0, .int .u64 0, .int .u64 0])).run Tryd.prog A = .ok () w10 ∧ CI w3 w10 bf bm r n v nv F (fun t => V t ∨ t = s) cnt5 (n' + 2) (updL (updL G s (0, 0)) (sAdd s v) (0, 0))) := fun A hA => by
              obtain ⟨f1, f2, f3, f4⟩ := HI7.out
              have hq := HQ.out
              have hap := HAP.out
              obtain ⟨k1, k2, k3, k4⟩ := HV.out
              have h0 : s &&& nv = 0 := by have := HEM.out; simpa using this.symm
              have hA' := below_next hB8 hA
              obtain ⟨w10, hrun, m10, ht10⟩ := (f2.under hA').store (s := sAdd s v) (add_lt k4 (by omega)) (0, 0) (by omega)
              exact ⟨w10, hrun, (f1.kept (row := none) ⟨hA'.os, hA'.tape, hA'.output, hA'.size, fun k hk _ => hA'.block k hk⟩ (by simp) (by simp)).kept ht10.grown (fun e => by cases e; omega) (fun e => by cases e; omega), m10, (grown_turns ht10.grown).below (below_next f3 hA') (below_next f3 hA').size (fun z hz => by subst hz; omega), by omega, cho_vis2 k1, cho_out2 k2 (by rw [k3]; simp) h0⟩
            clear HI7 hB8 C66 C68 HV HEM
            go_wp2_with (first | (go_at_call 53; refine Calls.mono (C53.out _) ?_; rintro e w9 ⟨rfl, h9⟩; obtain ⟨w10, hrun10, hCI⟩ := HS9.out _ h9; have HN : Hid _ := hCI; clear hCI) | go_in)
            go_roundw
            case rel => exact ⟨_, _, _, _, HN⟩
            case measure => rw [HN.out.ran.left_eq, HQ.out.2.1]; exact HQ.out.1
    · obtain rfl : i = E.length := by omega
      have HR : Hid (CA (.returned (.map (some bf))) wr ∧ Below w.heap.size w wr) := by
        rw [HCH.out]
        have h := hI.out
        rw [List.take_length] at h
        exact ⟨⟨bf, n, F, rfl, h.1, h.2.1, h.2.2.2.2, h.2.2.1⟩, (HW3.out _ h.2.2.2.1).2.1⟩
      clear hI
      go_wp2
      go_ret
      exact HR.out
end Go.Proofs.YtdalconphfgepaaDoor
