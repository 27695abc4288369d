/- Mathematics of minors: what hangs together, counted; lists that fit. Mathematics of minors: what is found is one; where none is found there is none. -/
import Derived.Test.YthjkjanibkpgiaaDoorSetsM
namespace Go.Proofs.YthjkjanibkpgiaaDoor
theorem mask_ex (f : Nat → Bool) : ∀ N, ∃ c, c < 2 ^ N ∧ ∀ i, c.testBit i = (decide (i < N) && f i)
  | 0 => ⟨0, by simp, fun i => by simp⟩
  | N + 1 => by
    obtain ⟨c, h1, h2⟩ := mask_ex f N
    have hp : (2 : Nat) ^ N < 2 ^ (N + 1) := Nat.pow_lt_pow_right (by decide) (by omega)
    cases hf : f N with
    | false =>
      refine ⟨c, Nat.lt_trans h1 hp, fun i => ?_⟩
      rw [h2]
      by_cases h : i = N
      · subst h; simp [hf]
      · have : decide (i < N + 1) = decide (i < N) := by rw [decide_eq_decide]; omega
        rw [this]
    | true =>
      refine ⟨c ||| 2 ^ N, Nat.or_lt_two_pow (Nat.lt_trans h1 hp) hp, fun i => ?_⟩
      rw [Nat.testBit_or, Nat.testBit_two_pow, h2]
      by_cases h : i = N
      · subst h; simp [hf]
      · have : decide (i < N + 1) = decide (i < N) := by rw [decide_eq_decide]; omega
        have h' : ¬ N = i := fun e => h e.symm
        simp [this, h']
section
variable {es : List E2} {N : Nat}
theorem pn_near (hne : ∀ e ∈ es, e.1 ≠ e.2) (a b : Nat) : pn (hasB (pzT es)) a b = (nearF es a).testBit b := by
  unfold pn
  rw [hasB_adj, nearF_bit es hne]
theorem rch_star (hne : ∀ e ∈ es, e.1 ≠ e.2) {s u : Nat} (hs : s < 2 ^ N) (hu : s.testBit u = true) : Rch (nearF es) N s u s ↔ ∀ v, s.testBit v = true → Star (St N (pn (hasB (pzT es))) s.testBit) u v := by
  constructor
  · rintro ⟨_, _, h3⟩ v hv
    obtain ⟨R, hR⟩ := ex2 (fun a b => Star (St N (pn (hasB (pzT es))) s.testBit) a b)
    obtain ⟨c, _, hc⟩ := mask_ex (R u) N
    have huN := bit_lt hs hu
    have h4 := h3 c (by rw [hc, (hR u u).2 (Star.refl u)]; simpa using huN) (fun i hi hsi => by
      rw [anyN_bit, List.any_eq_true] at hi
      obtain ⟨j, hj, hji⟩ := hi
      rw [Bool.and_eq_true, hc] at hji
      simp only [Bool.and_eq_true] at hji
      have hiN := bit_lt hs hsi
      rw [hc, (hR u i).2 (((hR u j).1 hji.1.2).step ⟨hiN, by rw [pn_near hne]; exact hji.2, hsi⟩)]
      simpa using hiN) v hv
    rw [hc, Bool.and_eq_true] at h4
    exact (hR u v).1 h4.2
  · intro h
    refine ⟨hu, fun i hi => hi, fun c hc hcl i hi => ?_⟩
    refine (Star.ind (P := fun b => c.testBit b = true ∧ b < N) ⟨hc, bit_lt hs hu⟩ (fun a b _ hst ih => ?_) (h i hi)).1
    obtain ⟨h1, h2, h3⟩ := hst
    refine ⟨hcl b ?_ h3, h1⟩
    rw [anyN_bit, List.any_eq_true]
    exact ⟨a, List.mem_range.2 ih.2, by rw [ih.1, ← pn_near hne, h2]; rfl⟩
end
theorem nodup_one {l : List Nat} {u : Nat} (hn : l.Nodup) (hu : u ∈ l) (h : ∀ x ∈ l, x = u) : l.length = 1 := by
  match l, hn, hu, h with
  | [a], _, _, _ => rfl
  | a :: b :: l, hn, _, h =>
    have h1 := h a (by simp)
    have h2 := h b (by simp)
    have := (List.nodup_cons.1 hn).1
    exact absurd (by rw [h1, h2]; simp) this
theorem parts_one {N u : Nat} {e : Nat → Nat → Bool} {L : Nat → Bool} {R : Nat → Nat → Bool} (hu : L u = true) (huN : u < N) (hleast : ∀ x, x < u → L x = false) (hL : ∀ v, L v = true → v < N) (hR : ∀ v x, R v x = true ↔ Star (St N e L) v x) : partsN N L R = 1 ↔ ∀ v, L v = true → Star (St N e L) u v := by
  have hfu : firstB L R u = true := firstB_iff.2 ⟨hu, fun x hx h => by rw [hleast x hx] at h; cases h⟩
  have hum : u ∈ (List.range N).filter (firstB L R) := List.mem_filter.2 ⟨List.mem_range.2 huN, hfu⟩
  constructor
  · intro h1
    unfold partsN at h1
    have hone : ∀ v, v < N → firstB L R v = true → v = u := fun v hv hf => by
      have hm : v ∈ (List.range N).filter (firstB L R) := List.mem_filter.2 ⟨List.mem_range.2 hv, hf⟩
      match hl : (List.range N).filter (firstB L R), h1 with
      | [a], _ =>
        rw [hl] at hm hum
        simp at hm hum
        rw [hm, hum]
    have key : ∀ n v, v < n → L v = true → Star (St N e L) u v := by
      intro n
      induction n with
      | zero => intro v h; omega
      | succ n ih =>
        intro v hv hLv
        by_cases hvu : v = u
        · subst hvu; exact Star.refl v
        · have hf : ¬ firstB L R v = true := fun hf => hvu (hone v (hL v hLv) hf)
          rw [firstB_iff] at hf
          have : ∃ x, x < v ∧ L x = true ∧ R x v = true := by
            apply Classical.byContradiction
            intro hno
            refine hf ⟨hLv, fun x hx hLx => ?_⟩
            cases hRx : R x v with
            | false => rfl
            | true => exact absurd ⟨x, hx, hLx, hRx⟩ hno
          obtain ⟨x, hx, hLx, hRx⟩ := this
          exact (ih x (by omega) hLx).trans ((hR x v).1 hRx)
    exact fun v hv => key (v + 1) v (by omega) hv
  · intro h
    unfold partsN
    refine nodup_one (List.Pairwise.filter _ List.nodup_range) hum fun x hx => ?_
    obtain ⟨hxN, hf⟩ := List.mem_filter.1 hx
    rw [firstB_iff] at hf
    rcases Nat.lt_trichotomy x u with h1 | h1 | h1
    · rw [hleast x h1] at hf; cases hf.1
    · exact h1
    · have := hf.2 u h1 hu
      rw [(hR u x).2 (h x hf.1)] at this
      cases this
theorem okK_iff {es : List E2} {N s k : Nat} {G pq : Nat → Nat} (hne : ∀ e ∈ es, e.1 ≠ e.2) (hN : N ≤ 10) (hs : s < 2 ^ N) (hG : ∀ x, (G x == k) = s.testBit x)
    (hpq : ∃ R : Nat → Nat → Bool, (∀ v x, R v x = true ↔ Star (St N (pn (hasB (pzT es))) (openB (fun x => !(G x == k)))) v x) ∧ pq k = partsN N (openB (fun x => !(G x == k))) R) :
    okK pq G N k = true ↔ s ≠ 0 ∧ Rch (nearF es) N s (Lib.ctz 32 s) s := by
  obtain ⟨R, hR, hp⟩ := hpq
  have ho : openB (fun x => !(G x == k)) = s.testBit := by
    funext x
    show (!(!(G x == k))) = _
    rw [hG]; simp
  rw [ho] at hR hp
  have hcnt : cntK G N k = 0 ↔ s = 0 := by
    unfold cntK
    rw [List.length_eq_zero_iff, List.filter_eq_nil_iff]
    constructor
    · intro h
      apply Nat.eq_of_testBit_eq
      intro i
      rw [Nat.zero_testBit]
      cases e : s.testBit i with
      | false => rfl
      | true => exact absurd (by rw [hG]; exact e) (h i (List.mem_range.2 (bit_lt hs e)))
    · rintro rfl x _
      rw [hG]; simp
  have h1024 : (2 : Nat) ^ N ≤ 1024 := Nat.pow_le_pow_right (by decide) hN
  unfold okK
  rw [Bool.and_eq_true, Bool.not_eq_true', beq_eq_false_iff_ne, ne_eq, hcnt, beq_iff_eq, hp]
  by_cases h0 : s = 0
  · simp [h0]
  · obtain ⟨d1, _, _⟩ := ctz_bits h0 (show s < 4294967296 by omega)
    have d4 := ctz_low h0 (show s < 4294967296 by omega)
    rw [parts_one d1 (bit_lt hs d1) d4 (fun v hv => bit_lt hs hv) hR, rch_star hne hs d1]
theorem fitL_ok {N : Nat} {g h : Nat → Nat → Bool} : ∀ (c : Nat) (l l' : List Nat), fitL N g h c l = some l' → ∃ t, l' = l ++ t ∧ t.length = c ∧ ∀ k, k < c → fitsAt g h ((l ++ t).take (l.length + k)) ((l ++ t).getD (l.length + k) 0) = true
  | 0, l, l', e => by
    rw [fitL] at e; cases e
    exact ⟨[], by simp, rfl, fun k hk => by omega⟩
  | c + 1, l, l', e => by
    rw [fitL] at e
    refine firstSome_mem (Q := fun l' => ∃ t, l' = l ++ t ∧ t.length = c + 1 ∧ ∀ k, k < c + 1 → fitsAt g h ((l ++ t).take (l.length + k)) ((l ++ t).getD (l.length + k) 0) = true) N 0 (fun v _ _ l2 h2 => ?_) e
    split at h2
    · next hf =>
      obtain ⟨t, rfl, ht, hk⟩ := fitL_ok c _ _ h2
      refine ⟨v :: t, by simp, by simp [ht], fun k hkc => ?_⟩
      cases k with
      | zero => simpa using hf
      | succ k =>
        have := hk k (by omega)
        have e1 : (l ++ [v]) ++ t = l ++ v :: t := by simp
        have e2 : (l ++ [v]).length + k = l.length + (k + 1) := by simp; omega
        rw [e1, e2] at this
        exact this
    · cases h2
theorem firstSome_all {f : Nat → Option (List Nat)} : ∀ (c v : Nat), firstSome f c v = none → ∀ x, v ≤ x → x < v + c → f x = none
  | 0, _, _, x, h1, h2 => by omega
  | c + 1, v, h, x, h1, h2 => by
    rw [firstSome] at h
    split at h
    · cases h
    · next e =>
      by_cases hx : x = v
      · subst hx; exact e
      · exact firstSome_all c (v + 1) h x (by omega) (by omega)
theorem fitL_no {N : Nat} {g h : Nat → Nat → Bool} : ∀ (c : Nat) (l t : List Nat), fitL N g h c l = none → t.length = c → (∀ x ∈ t, x < N) → ∃ k, k < c ∧ fitsAt g h ((l ++ t).take (l.length + k)) ((l ++ t).getD (l.length + k) 0) = false
  | 0, l, t, e, _, _ => by rw [fitL] at e; cases e
  | c + 1, l, [], _, ht, _ => by simp at ht
  | c + 1, l, v :: t, e, ht, hx => by
    rw [fitL] at e
    have h1 := firstSome_all N 0 e v (Nat.zero_le _) (by have := hx v (by simp); omega)
    by_cases hf : fitsAt g h l v = true
    · rw [if_pos hf] at h1
      obtain ⟨k, hk, h2⟩ := fitL_no c (l ++ [v]) t h1 (by simpa using ht) (fun x hx' => hx x (by simp [hx']))
      refine ⟨k + 1, by omega, ?_⟩
      have e1 : (l ++ [v]) ++ t = l ++ v :: t := by simp
      have e2 : (l ++ [v]).length + k = l.length + (k + 1) := by simp; omega
      rw [e1, e2] at h2
      exact h2
    · refine ⟨0, by omega, ?_⟩
      have : fitsAt g h l v = false := by simpa using hf
      simpa using this
theorem take_getD {t : List Nat} {k i : Nat} (h : i < k) : (t.take k).getD i 0 = t.getD i 0 := by
  rw [List.getD_eq_getElem?_getD, List.getD_eq_getElem?_getD, List.getElem?_take_of_lt h]
theorem fitsAt_iff {g h : Nat → Nat → Bool} {t : List Nat} {k : Nat} (hk : k < t.length) : fitsAt g h (t.take k) (t.getD k 0) = true ↔ (∀ i, i < k → t.getD i 0 ≠ t.getD k 0) ∧ ∀ i, i < k → h k i = true → g (t.getD k 0) (t.getD i 0) = true := by
  have hl : (t.take k).length = k := by rw [List.length_take]; omega
  unfold fitsAt
  rw [Bool.and_eq_true, hl, List.all_eq_true, Bool.not_eq_true', ← Bool.not_eq_true, List.contains_iff_mem]
  constructor
  · rintro ⟨h1, h2⟩
    refine ⟨fun i hi e => h1 ?_, fun i hi hh => ?_⟩
    · rw [← e, ← take_getD hi]
      exact getD_memN (by omega)
    · have := h2 i (List.mem_range.2 hi)
      rw [hh, take_getD hi] at this
      simpa using this
  · rintro ⟨h1, h2⟩
    refine ⟨fun hm => ?_, fun i hi => ?_⟩
    · obtain ⟨i, hi, e⟩ := List.mem_iff_getElem.1 hm
      have hi' : i < k := by omega
      refine h1 i hi' ?_
      rw [← take_getD hi', List.getD_eq_getElem?_getD, List.getElem?_eq_getElem hi, e]; rfl
    · have hi' := List.mem_range.1 hi
      rw [take_getD hi']
      cases hh : h k i with
      | false => rfl
      | true => rw [h2 i hi' hh]; rfl
end Go.Proofs.YthjkjanibkpgiaaDoor

namespace Go.Proofs.YthjkjanibkpgiaaDoor
theorem and_ne {a b : Nat} : a &&& b ≠ 0 ↔ ∃ i, a.testBit i = true ∧ b.testBit i = true := by
  constructor
  · intro h
    apply Classical.byContradiction
    intro hno
    refine h (Nat.eq_of_testBit_eq fun i => ?_)
    rw [Nat.testBit_and, Nat.zero_testBit]
    cases h1 : a.testBit i with
    | false => rfl
    | true =>
      cases h2 : b.testBit i with
      | false => rfl
      | true => exact absurd ⟨i, h1, h2⟩ hno
  · rintro ⟨i, h1, h2⟩ h
    have := congrArg (fun n => n.testBit i) h
    simp only [Nat.testBit_and, h1, h2, Nat.zero_testBit] at this
    cases this
theorem drw_bit (ps : Nat → Nat) (about i j : Nat) : ∀ m, (drw ps about i m).testBit j = true ↔ j < m ∧ j ≠ i ∧ about &&& ps j ≠ 0
  | 0 => by simp [drw]
  | m + 1 => by
    rw [drw, Nat.testBit_or, Bool.or_eq_true, drw_bit ps about i j m]
    constructor
    · rintro (⟨h1, h2⟩ | h)
      · exact ⟨by omega, h2⟩
      · split at h
        · next hc =>
          rw [Nat.testBit_two_pow] at h
          have : m = j := by simpa using h
          subst this
          exact ⟨by omega, hc⟩
        · simp at h
    · rintro ⟨h1, h2⟩
      by_cases hj : j = m
      · subst hj
        refine Or.inr ?_
        rw [if_pos h2, Nat.testBit_two_pow]; simp
      · exact Or.inl ⟨by omega, h2⟩
/-- An edge goes from the one set to the other one. -/
def touch (near : Nat → Nat) (N p q : Nat) : Prop := ∃ j i, j < N ∧ p.testBit j = true ∧ (near j).testBit i = true ∧ q.testBit i = true
theorem gB_iff {near ps : Nat → Nat} {N K v x : Nat} : gB (drA near ps N K) v x = true ↔ v < K ∧ v ≠ x ∧ touch near N (ps x) (ps v) := by
  unfold gB drA
  rw [drw_bit, and_ne]
  refine and_congr Iff.rfl (and_congr Iff.rfl ?_)
  constructor
  · rintro ⟨i, h1, h2⟩
    rw [anyN_bit, List.any_eq_true] at h1
    obtain ⟨j, hj, hji⟩ := h1
    rw [Bool.and_eq_true] at hji
    exact ⟨j, i, List.mem_range.1 hj, hji.1, hji.2, h2⟩
  · rintro ⟨j, i, hj, h1, h2, h3⟩
    refine ⟨i, ?_, h3⟩
    rw [anyN_bit, List.any_eq_true]
    exact ⟨j, List.mem_range.2 hj, by rw [h1, h2]; rfl⟩
theorem edT_iff {pg : Int → Int → Bool} {g : Nat → Nat} {N a b : Nat} : edT pg g N a b N 0 = true ↔ ∃ v x, v < N ∧ x < N ∧ edB pg g a b v x = true := by
  unfold edT
  simp only [List.range_zero, List.any_nil, Bool.or_false, List.any_eq_true, List.mem_range]
  exact ⟨fun ⟨v, hv, x, hx, h⟩ => ⟨v, x, hv, hx, h⟩, fun ⟨v, x, hv, hx, h⟩ => ⟨v, hv, x, hx, h⟩⟩
theorem cho_sub {tog : Nat → Bool} : ∀ {c : List Nat} {L : Nat → Bool}, Cho tog L c → ∀ q ∈ c, (∀ i, q.testBit i = true → L i = true) ∧ q ≠ 0 ∧ tog q = true
  | [], _, _, q, hq => by cases hq
  | p :: c, L, ⟨h1, h2, h3, h4⟩, q, hq => by
    rcases List.mem_cons.1 hq with rfl | hq
    · exact ⟨h2, h1, h3⟩
    · obtain ⟨k1, k2, k3⟩ := cho_sub h4 q hq
      exact ⟨fun i hi => by
        have := k1 i hi
        simp only [Bool.and_eq_true] at this
        exact this.1.1, k2, k3⟩
theorem cho_disj {tog : Nat → Bool} : ∀ {c : List Nat} {L : Nat → Bool}, Cho tog L c → ∀ a b, a < b → b < c.length → ∀ i, (c.getD a 0).testBit i = true → (c.getD b 0).testBit i = false
  | [], _, _, a, b, _, hb, _, _ => by simp at hb
  | p :: c, L, ⟨h1, h2, h3, h4⟩, a, b, hab, hb, i, hi => by
    cases b with
    | zero => omega
    | succ b =>
      have hb' : b < c.length := by simpa using hb
      cases a with
      | zero =>
        have hm : c.getD b 0 ∈ c := getD_memN hb'
        have hs := (cho_sub h4 _ hm).1 i
        cases e : ((p :: c).getD (b + 1) 0).testBit i with
        | false => rfl
        | true =>
          have := hs (by simpa using e)
          simp only [Bool.and_eq_true, Bool.not_eq_true'] at this
          have hp : p.testBit i = true := by simpa using hi
          rw [hp] at this
          exact absurd this.1.2 (by decide)
      | succ a =>
        have := cho_disj h4 a b (by omega) hb' i (by simpa using hi)
        simpa using this
theorem bl_mem {s x : Nat} (hs : s < 4294967296) : x ∈ bl s ↔ s.testBit x = true := by
  unfold bl
  rw [List.mem_filter, List.mem_range]
  refine ⟨fun h => h.2, fun h => ⟨bit_lt (show s < 2 ^ 32 from hs) h, h⟩⟩
theorem bl_nodup (s : Nat) : (bl s).Nodup := List.Pairwise.filter _ List.nodup_range
theorem bl_rise (s : Nat) : ∀ j, j + 1 < (bl s).length → (bl s).getD j 0 < (bl s).getD (j + 1) 0 := fun j hj => by
  have h : (bl s).Pairwise (· < ·) := List.Pairwise.filter _ List.pairwise_lt_range
  have := List.pairwise_iff_getElem.1 h j (j + 1) (by omega) hj (by omega)
  rw [List.getD_eq_getElem?_getD, List.getD_eq_getElem?_getD, List.getElem?_eq_getElem (show j < (bl s).length by omega), List.getElem?_eq_getElem hj]
  exact this
theorem map_getD {f : Nat → List Nat} {l : List Nat} {i : Nat} (hi : i < l.length) : (l.map f).getD i [] = f (l.getD i 0) := by
  rw [List.getD_eq_getElem?_getD, List.getElem?_map, getD_some hi]; rfl
section
variable {eg eh : List E2} {N M : Nat} {tog : Nat → Bool}
theorem minor_sound (hne : ∀ e ∈ eg, e.1 ≠ e.2) (hneh : ∀ e ∈ eh, e.1 ≠ e.2) (hN : N ≤ 10) (htog : ∀ x, x ≠ 0 → (tog x = true ↔ Rch (nearF eg) N x (Lib.ctz 32 x) x)) {c l : List Nat} (hc : Cho tog (2 ^ N - 1).testBit c) (hcl : c.length = M) (hf : fitP (nearF eg) (nearF eh) N M c = some l) :
    ∃ G : Nat → Nat, (l.map fun at_ => bl (c.getD at_ 0)).length = M ∧
      (∀ i, i < M → ((l.map fun at_ => bl (c.getD at_ 0)).getD i []).length ≤ 32 ∧ (∀ x ∈ (l.map fun at_ => bl (c.getD at_ 0)).getD i [], x < N) ∧ ∀ j, j + 1 < ((l.map fun at_ => bl (c.getD at_ 0)).getD i []).length → ((l.map fun at_ => bl (c.getD at_ 0)).getD i []).getD j 0 < ((l.map fun at_ => bl (c.getD at_ 0)).getD i []).getD (j + 1) 0) ∧
      (∀ i, i < M → ∀ v, G v = i + 1 ↔ v ∈ (l.map fun at_ => bl (c.getD at_ 0)).getD i []) ∧ (∀ v, G v ≤ M) ∧ (∀ i, i < M → ((l.map fun at_ => bl (c.getD at_ 0)).getD i []).Nodup) ∧
      ∀ pq : Nat → Nat, (∀ k, ∃ R : Nat → Nat → Bool, (∀ v x, R v x = true ↔ Star (St N (pn (hasB (pzT eg))) (openB (fun x => !(G x == k)))) v x) ∧ pq k = partsN N (openB (fun x => !(G x == k))) R) → modB (hasB (pzT eg)) (hasB (pzT eh)) pq G N M = true := by
  obtain ⟨t, ht, htl, hfit⟩ := fitL_ok M [] l hf
  rw [List.nil_append] at ht
  subst ht
  have hll : l.length = M := htl
  have hfit' : ∀ k, k < M → (∀ i, i < k → l.getD i 0 ≠ l.getD k 0) ∧ ∀ i, i < k → hB (nearF eh) k i = true → gB (drA (nearF eg) (fun j => c.getD j 0) N M) (l.getD k 0) (l.getD i 0) = true := fun k hk => by
    have := hfit k hk
    simp only [List.nil_append, List.length_nil, Nat.zero_add] at this
    exact (fitsAt_iff (by omega)).1 this
  have hlt : ∀ i, i < M → l.getD i 0 < M := fun i hi => fitL_lt M [] l (fun x hx => by cases hx) hf _ (getD_memN (by omega))
  have hlN : ∀ i, (2 ^ N - 1).testBit i = true → i < N := fun i hi => by rw [Nat.testBit_two_pow_sub_one] at hi; simpa using hi
  obtain ⟨pm, hpm⟩ : ∃ pm : Nat → Nat, pm = fun i => c.getD (l.getD i 0) 0 := ⟨_, rfl⟩
  have hpmc : ∀ i, i < M → pm i ∈ c := fun i hi => by rw [hpm]; exact getD_memN (by have := hlt i hi; omega)
  have hpml : ∀ i, i < M → pm i < 2 ^ N := fun i hi => cho_lt hlN hc _ (hpmc i hi)
  have h1024 : (2 : Nat) ^ N ≤ 1024 := Nat.pow_le_pow_right (by decide) hN
  have hdis : ∀ i j, i < M → j < M → i ≠ j → ∀ x, (pm i).testBit x = true → (pm j).testBit x = false := by
    have key : ∀ i j, i < M → j < M → i ≠ j → l.getD i 0 ≠ l.getD j 0 := fun i j hi hj hij => by
      rcases Nat.lt_trichotomy i j with h | h | h
      · exact (hfit' j hj).1 i h
      · exact absurd h hij
      · exact fun e => (hfit' i hi).1 j h e.symm
    intro i j hi hj hij x hx
    rw [hpm] at hx ⊢
    have hne' := key i j hi hj hij
    rcases Nat.lt_trichotomy (l.getD i 0) (l.getD j 0) with h | h | h
    · exact cho_disj hc _ _ h (by have := hlt j hj; omega) x hx
    · exact absurd h hne'
    · cases e : (c.getD (l.getD j 0) 0).testBit x with
      | false => rfl
      | true =>
        have := cho_disj hc _ _ h (by have := hlt i hi; omega) x e
        rw [this] at hx; cases hx
  have hls : ∀ i, i < M → (l.map fun at_ => bl (c.getD at_ 0)).getD i [] = bl (pm i) := fun i hi => by
    rw [map_getD (f := fun at_ => bl (c.getD at_ 0)) (by omega), hpm]
  obtain ⟨G, hG⟩ : ∃ G : Nat → Nat, ∀ v i, G v = i + 1 ↔ (i < M ∧ (pm i).testBit v = true) := by
    refine Classical.axiomOfChoice (r := fun v n => ∀ i, n = i + 1 ↔ (i < M ∧ (pm i).testBit v = true)) fun v => ?_
    by_cases h : ∃ i, i < M ∧ (pm i).testBit v = true
    · obtain ⟨i, hi, hv⟩ := h
      refine ⟨i + 1, fun j => ⟨fun e => ?_, fun ⟨hj, hjv⟩ => ?_⟩⟩
      · have : i = j := by omega
        subst this; exact ⟨hi, hv⟩
      · by_cases e : i = j
        · rw [e]
        · have := hdis i j hi hj e v hv
          rw [hjv] at this; cases this
    · exact ⟨0, fun j => ⟨fun e => by omega, fun h2 => absurd ⟨j, h2⟩ h⟩⟩
  refine ⟨G, by rw [List.length_map, hll], fun i hi => ?_, fun i hi v => ?_, fun v => ?_, fun i hi => by rw [hls i hi]; exact bl_nodup _, fun pq hpq => ?_⟩
  · rw [hls i hi]
    exact ⟨bl_len_le _, fun x hx => bit_lt (hpml i hi) ((bl_mem (by have := hpml i hi; omega)).1 hx), bl_rise _⟩
  · rw [hls i hi, bl_mem (by have := hpml i hi; omega), hG]
    exact ⟨fun h => h.2, fun h => ⟨hi, h⟩⟩
  · match hv : G v with
    | 0 => omega
    | i + 1 => have := (hG v i).1 hv; omega
  · have hGk : ∀ i, i < M → ∀ x, (G x == i + 1) = (pm i).testBit x := fun i hi x => by
      rw [Bool.eq_iff_iff, beq_iff_eq, hG]
      exact ⟨fun h => h.2, fun h => ⟨hi, h⟩⟩
    unfold modB
    rw [Bool.and_eq_true, List.all_eq_true, List.all_eq_true]
    refine ⟨fun i hi => ?_, fun a ha => ?_⟩
    · have hi' := List.mem_range.1 hi
      obtain ⟨_, k2, k3⟩ := cho_sub hc _ (hpmc i hi')
      exact (okK_iff hne hN (hpml i hi') (hGk i hi') (hpq (i + 1))).2 ⟨k2, (htog _ k2).1 k3⟩
    · have ha' := List.mem_range.1 ha
      rw [List.all_eq_true]
      intro b hb
      have hb' := List.mem_range.1 hb
      have hbM : b < M := by omega
      unfold prB
      cases hh : hasB (pzT eh) (a : Int) (b : Int) with
      | false => rfl
      | true =>
        have h1 : hB (nearF eh) a b = true := by
          unfold hB
          rw [nearF_bit eh hneh, ← hasB_adj]; exact hh
        obtain ⟨_, _, j, i, hj, q1, q2, q3⟩ := gB_iff.1 ((hfit' a ha').2 b hb' h1)
        have q1' : (pm b).testBit j = true := by rw [hpm]; exact q1
        have q3' : (pm a).testBit i = true := by rw [hpm]; exact q3
        show edT _ _ _ _ _ _ _ = true
        rw [edT_iff]
        refine ⟨i, j, bit_lt (hpml a ha') q3', hj, ?_⟩
        unfold edB
        rw [(hG i a).2 ⟨ha', q3'⟩, (hG j b).2 ⟨hbM, q1'⟩, hasB_adj, adjE_comm, ← nearF_bit eg hne, q2]
        simp
theorem cho_of : ∀ (c : List Nat) (L : Nat → Bool), c.Pairwise (fun p q => lowP p ≤ lowP q) → c.Nodup → (∀ p ∈ c, p ≠ 0 ∧ p < 4294967296 ∧ tog p = true ∧ ∀ i, p.testBit i = true → L i = true) → (∀ p ∈ c, ∀ q ∈ c, p ≠ q → ∀ i, p.testBit i = true → q.testBit i = false) → Cho tog L c
  | [], _, _, _, _, _ => trivial
  | p :: c, L, hs, hn, he, hd => by
    obtain ⟨hs1, hs2⟩ := List.pairwise_cons.1 hs
    obtain ⟨hn1, hn2⟩ := List.nodup_cons.1 hn
    obtain ⟨k1, k2, k3, k4⟩ := he p (by simp)
    refine ⟨k1, k4, k3, cho_of c _ hs2 hn2 (fun q hq => ?_) (fun q hq r hr => hd q (by simp [hq]) r (by simp [hr]))⟩
    obtain ⟨m1, m2, m3, m4⟩ := he q (by simp [hq])
    have hpq : p ≠ q := fun e => hn1 (e ▸ hq)
    refine ⟨m1, m2, m3, fun i hi => ?_⟩
    simp only [Bool.and_eq_true, Bool.not_eq_true', decide_eq_true_eq]
    have hqp := hd q (by simp [hq]) p (by simp) (fun e => hpq e.symm) i hi
    refine ⟨⟨m4 i hi, hqp⟩, ?_⟩
    have hle := hs1 q hq
    obtain ⟨d1, _, _⟩ := ctz_bits m1 m2
    have d4 := ctz_low m1 m2
    obtain ⟨e1, _, _⟩ := ctz_bits k1 k2
    have hli : lowP q ≤ i := by
      apply Classical.byContradiction
      intro h
      have := d4 i (show i < lowP q by omega)
      rw [hi] at this; cases this
    have hne : lowP p ≠ lowP q := fun e => by
      have := hd p (by simp) q (by simp [hq]) hpq (lowP p) e1
      rw [e] at this
      rw [show (q.testBit (lowP q)) = true from d1] at this
      cases this
    omega
theorem minor_complete (hne : ∀ e ∈ eg, e.1 ≠ e.2) (hneh : ∀ e ∈ eh, e.1 ≠ e.2) (hN : N ≤ 10) (htog : ∀ x, x ≠ 0 → (tog x = true ↔ Rch (nearF eg) N x (Lib.ctz 32 x) x)) {PQ : (Nat → Nat) → Nat → Nat} (hPQ : ∀ G k, ∃ R : Nat → Nat → Bool, (∀ v x, R v x = true ↔ Star (St N (pn (hasB (pzT eg))) (openB (fun x => !(G x == k)))) v x) ∧ PQ G k = partsN N (openB (fun x => !(G x == k))) R)
    (hno : ∀ c, Cho tog (2 ^ N - 1).testBit c → c.length = M → fitP (nearF eg) (nearF eh) N M c = none) : NoM (hasB (pzT eg)) (hasB (pzT eh)) PQ N M [] := by
  intro l' hlen _
  simp only [List.nil_append] at hlen ⊢
  rw [← Bool.not_eq_true]
  intro hmod
  obtain ⟨G, hGd⟩ : ∃ G : Nat → Nat, G = fun v => l'.getD v 0 := ⟨_, rfl⟩
  rw [← hGd] at hmod
  have hG0 : ∀ v, N ≤ v → G v = 0 := fun v hv => by
    rw [hGd]
    show l'.getD v 0 = 0
    rw [List.getD_eq_getElem?_getD, List.getElem?_eq_none (by omega)]; rfl
  obtain ⟨pm, hpm⟩ : ∃ pm : Nat → Nat, ∀ i, pm i < 2 ^ N ∧ ∀ x, (pm i).testBit x = (decide (x < N) && (G x == i + 1)) :=
    Classical.axiomOfChoice (r := fun i c => c < 2 ^ N ∧ ∀ x, c.testBit x = (decide (x < N) && (G x == i + 1))) fun i => mask_ex (fun x => G x == i + 1) N
  have hGk : ∀ i x, (G x == i + 1) = (pm i).testBit x := fun i x => by
    rw [(hpm i).2]
    by_cases h : x < N
    · simp [h]
    · rw [hG0 x (by omega)]
      simp [h]
  have h1024 : (2 : Nat) ^ N ≤ 1024 := Nat.pow_le_pow_right (by decide) hN
  unfold modB at hmod
  rw [Bool.and_eq_true, List.all_eq_true, List.all_eq_true] at hmod
  have hok : ∀ i, i < M → pm i ≠ 0 ∧ tog (pm i) = true := fun i hi => by
    have h := (okK_iff hne hN (hpm i).1 (hGk i) (hPQ G (i + 1))).1 (hmod.1 i (List.mem_range.2 hi))
    exact ⟨h.1, (htog _ h.1).2 h.2⟩
  have hdis : ∀ i j, i ≠ j → ∀ x, (pm i).testBit x = true → (pm j).testBit x = false := fun i j hij x hx => by
    rw [← hGk] at hx ⊢
    rw [beq_iff_eq] at hx
    rw [hx]
    simp; omega
  have hinj : ∀ i j, i < M → j < M → pm i = pm j → i = j := fun i j hi hj e => by
    apply Classical.byContradiction
    intro hij
    obtain ⟨d1, _, _⟩ := ctz_bits (hok i hi).1 (show pm i < 4294967296 by have := (hpm i).1; omega)
    have := hdis i j hij _ d1
    rw [← e, d1] at this; cases this
  obtain ⟨P0, hP0⟩ : ∃ P0, P0 = (List.range M).map pm := ⟨_, rfl⟩
  obtain ⟨c, hcd⟩ : ∃ c, c = P0.mergeSort (fun p q => decide (lowP p ≤ lowP q)) := ⟨_, rfl⟩
  have hperm : c.Perm P0 := by rw [hcd]; exact List.mergeSort_perm _ _
  have hsort : c.Pairwise (fun p q => lowP p ≤ lowP q) := by
    have := List.pairwise_mergeSort (le := fun p q => decide (lowP p ≤ lowP q)) (fun a b d h1 h2 => by simp at h1 h2 ⊢; omega) (fun a b => by simp; omega) P0
    rw [← hcd] at this
    exact this.imp fun h => by simpa using h
  have hmem : ∀ p, p ∈ c ↔ ∃ i, i < M ∧ p = pm i := fun p => by
    rw [hperm.mem_iff, hP0, List.mem_map]
    exact ⟨fun ⟨i, hi, e⟩ => ⟨i, List.mem_range.1 hi, e.symm⟩, fun ⟨i, hi, e⟩ => ⟨i, List.mem_range.2 hi, e.symm⟩⟩
  have hclen : c.length = M := by rw [hperm.length_eq, hP0, List.length_map, List.length_range]
  have hnd0 : P0.Nodup := by
    rw [hP0]
    refine List.pairwise_iff_getElem.2 fun i j hi hj hij => ?_
    simp only [List.length_map, List.length_range] at hi hj
    simp only [List.getElem_map, List.getElem_range]
    exact fun e => by have := hinj i j hi hj e; omega
  have hnd : c.Nodup := hperm.symm.nodup hnd0
  have hlN : ∀ i, i < N → (2 ^ N - 1).testBit i = true := fun i hi => by rw [Nat.testBit_two_pow_sub_one]; simpa using hi
  have hcho : Cho tog (2 ^ N - 1).testBit c := by
    refine cho_of c _ hsort hnd (fun p hp => ?_) (fun p hp q hq hpq x hx => ?_)
    · obtain ⟨i, hi, rfl⟩ := (hmem p).1 hp
      exact ⟨(hok i hi).1, by have := (hpm i).1; omega, (hok i hi).2, fun x hx => hlN x (bit_lt (hpm i).1 hx)⟩
    · obtain ⟨i, hi, rfl⟩ := (hmem p).1 hp
      obtain ⟨j, hj, rfl⟩ := (hmem q).1 hq
      exact hdis i j (fun e => hpq (by rw [e])) x hx
  obtain ⟨T, hT⟩ : ∃ T : Nat → Nat, ∀ i, i < M → T i < M ∧ c.getD (T i) 0 = pm i := by
    refine Classical.axiomOfChoice (r := fun i j => i < M → j < M ∧ c.getD j 0 = pm i) fun i => ?_
    by_cases hi : i < M
    · obtain ⟨j, hj, e⟩ := List.mem_iff_getElem.1 ((hmem (pm i)).2 ⟨i, hi, rfl⟩)
      refine ⟨j, fun _ => ⟨by omega, ?_⟩⟩
      rw [List.getD_eq_getElem?_getD, List.getElem?_eq_getElem hj, e]; rfl
    · exact ⟨0, fun h => absurd h hi⟩
  have hfn := hno c hcho hclen
  have htg : ∀ k, k < M → ((List.range M).map T).getD k 0 = T k := fun k hk => by
    rw [List.getD_eq_getElem?_getD, List.getElem?_map, List.getElem?_range hk]; rfl
  obtain ⟨k, hk, hbad⟩ := fitL_no M [] ((List.range M).map T) hfn (by simp) (fun x hx => by
    obtain ⟨i, hi, rfl⟩ := List.mem_map.1 hx
    exact (hT i (List.mem_range.1 hi)).1)
  simp only [List.nil_append, List.length_nil, Nat.zero_add] at hbad
  have hgood : fitsAt (gB (drA (nearF eg) (fun j => c.getD j 0) N M)) (hB (nearF eh)) (((List.range M).map T).take k) (((List.range M).map T).getD k 0) = true := by
    refine (fitsAt_iff (by simpa using hk)).2 ⟨fun i hi e => ?_, fun i hi hh => ?_⟩
    · rw [htg i (by omega), htg k hk] at e
      have h1 := (hT i (by omega)).2
      rw [e, (hT k hk).2] at h1
      have := hinj k i hk (by omega) h1
      omega
    · rw [htg i (by omega), htg k hk, gB_iff]
      refine ⟨(hT k hk).1, fun e => ?_, ?_⟩
      · have h1 := (hT i (by omega)).2
        rw [← e, (hT k hk).2] at h1
        have := hinj k i hk (by omega) h1
        omega
      · show touch (nearF eg) N (c.getD (T i) 0) (c.getD (T k) 0)
        rw [(hT i (by omega)).2, (hT k hk).2]
        have h2 := hmod.2 k (List.mem_range.2 hk)
        rw [List.all_eq_true] at h2
        have h3 := h2 i (List.mem_range.2 hi)
        unfold prB at h3
        have h4 : hasB (pzT eh) (k : Int) (i : Int) = true := by
          rw [hasB_adj, ← nearF_bit eh hneh]; exact hh
        rw [h4] at h3
        obtain ⟨v, x, hv, hx, he⟩ := edT_iff.1 (by simpa using h3)
        unfold edB at he
        rw [Bool.and_eq_true, Bool.and_eq_true, hGk, hGk, hasB_adj, adjE_comm, ← nearF_bit eg hne] at he
        exact ⟨x, v, hx, he.2.2, he.1, he.2.1⟩
  unfold fitP at hfn
  rw [hgood] at hbad
  cases hbad
end
end Go.Proofs.YthjkjanibkpgiaaDoor
