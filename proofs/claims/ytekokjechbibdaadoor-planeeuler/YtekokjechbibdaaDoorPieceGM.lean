/- What pieces are: they hang together, and are closed. Edges taken out; the pieces of what is open. The search for a way through a piece finds one. What holds of the pieces while a block is laid. Counts: nodes laid, pieces, edges left. What holds of the faces while a block is laid: Euler's count. -/
import Derived.Test.YtekokjechbibdaaDoorRingM
import Derived.Test.YtekokjechbibdaaDoorWayW
namespace Go.Proofs.YtekokjechbibdaaDoor
theorem bit_or (s t i : Nat) : (s ||| t).testBit i = (s.testBit i || t.testBit i) := Nat.testBit_or s t i
theorem bit_and (s t i : Nat) : (s &&& t).testBit i = (s.testBit i && t.testBit i) := Nat.testBit_and s t i
theorem zero_bits {s : Nat} (h : ∀ i, s.testBit i = false) : s = 0 := Nat.eq_of_testBit_eq fun i => by rw [h, Nat.zero_testBit]
theorem some_bit {s : Nat} (h : s ≠ 0) : ∃ i, s.testBit i = true := by
  refine Classical.byContradiction fun hn => h (zero_bits fun i => ?_)
  cases e : s.testBit i with
  | false => rfl
  | true => exact absurd ⟨i, e⟩ hn
def Adj (near : List Nat) (u v : Nat) : Prop := (at' near u).testBit v = true
/-- Edges of N nodes, as each node's set of those beside it. -/
structure NearG (N : Nat) (near : List Nat) : Prop where
  len : near.length = N
  le : N ≤ 128
  lt : ∀ {u v}, Adj near u v → v < N
  sym : ∀ {u v}, Adj near u v → Adj near v u
  irr : ∀ {u v}, Adj near u v → u ≠ v
theorem NearG.lt' {N : Nat} {near : List Nat} (h : NearG N near) {u v : Nat} (a : Adj near u v) : u < N := h.lt (h.sym a)
/-- In s one comes from a to a node along edges. -/
inductive Con (near : List Nat) (s a : Nat) : Nat → Prop where
  | refl : s.testBit a = true → Con near s a a
  | step {b c : Nat} : Con near s a b → Adj near b c → s.testBit c = true → Con near s a c
theorem Con.mono {near : List Nat} {s t a b : Nat} (h : Con near s a b) (hs : ∀ i, s.testBit i = true → t.testBit i = true) : Con near t a b := by
  induction h with
  | refl h => exact .refl (hs _ h)
  | step _ a h ih => exact .step ih a (hs _ h)
theorem Con.mem {near : List Nat} {s a b : Nat} (h : Con near s a b) : s.testBit a = true ∧ s.testBit b = true := by
  induction h with
  | refl h => exact ⟨h, h⟩
  | step _ _ h ih => exact ⟨ih.1, h⟩
theorem Con.trans {near : List Nat} {s a b c : Nat} (h : Con near s a b) (k : Con near s b c) : Con near s a c := by
  induction k with
  | refl _ => exact h
  | step _ a h ih => exact .step ih a h
theorem Con.symm {N : Nat} {near : List Nat} (hg : NearG N near) {s a b : Nat} (h : Con near s a b) : Con near s b a := by
  induction h with
  | refl h => exact .refl h
  | @step b c k ad h ih => exact Con.trans (.step (.refl h) (hg.sym ad) k.mem.2) ih
/-- What holds of a, and goes on along edges in s, holds of all to which one comes. -/
theorem Con.closed {near : List Nat} {s a b : Nat} (h : Con near s a b) {P : Nat → Prop} (ha : P a) (hp : ∀ u v, P u → Adj near u v → s.testBit v = true → P v) : P b := by
  induction h with
  | refl _ => exact ha
  | step _ ad h ih => exact hp _ _ ih ad h
theorem filter_lt {p q : Nat → Bool} (hpq : ∀ i, p i = true → q i = true) : ∀ {l : List Nat} {v : Nat}, v ∈ l → q v = true → p v = false → (l.filter p).length < (l.filter q).length
  | [], _, h, _, _ => by cases h
  | a :: l, v, h, h1, h2 => by
    have hle : (l.filter p).length ≤ (l.filter q).length := by
      rw [← List.countP_eq_length_filter, ← List.countP_eq_length_filter]
      exact List.countP_mono_left fun i _ hi => hpq i hi
    rcases List.mem_cons.1 h with e | e
    · subst e
      rw [List.filter_cons_of_neg (by simp [h2]), List.filter_cons_of_pos h1, List.length_cons]
      omega
    · have ih := filter_lt hpq e h1 h2
      cases ep : p a with
      | true => rw [List.filter_cons_of_pos ep, List.filter_cons_of_pos (hpq a ep), List.length_cons, List.length_cons]; omega
      | false =>
        rw [List.filter_cons_of_neg (by simp [ep])]
        cases eq : q a with
        | true => rw [List.filter_cons_of_pos eq, List.length_cons]; omega
        | false => rw [List.filter_cons_of_neg (by simp [eq])]; exact ih
theorem count_lt {s t v : Nat} (hs : s < 2 ^ 128) (h : ∀ i, t.testBit i = true → s.testBit i = true) (h1 : s.testBit v = true) (h2 : t.testBit v = false) : countS t < countS s := by
  unfold countS elems
  exact filter_lt h (List.mem_range.2 (bit_lt hs h1)) h1 h2
theorem countS_le (s : Nat) : countS s ≤ 128 := by
  unfold countS elems
  exact Nat.le_trans (List.length_filter_le _ _) (by simp)
theorem count_pos {s v : Nat} (hs : s < 2 ^ 128) (h : s.testBit v = true) : 0 < countS s := by
  unfold countS
  exact List.length_pos_of_mem ((mem_elems hs).2 h)
/-- A piece that grew in rest, from r. -/
structure GrowG (near : List Nat) (laid rest r : Nat) (p : Piece) : Prop where
  sub : ∀ v, p.inner.testBit v = true → rest.testBit v = true
  root : p.inner.testBit r = true
  con : ∀ v, p.inner.testBit v = true → Con near p.inner r v
  closed : ∀ u v, p.inner.testBit u = true → Adj near u v → rest.testBit v = true → p.inner.testBit v = true
  feet : ∀ f, p.feet.testBit f = true ↔ (laid.testBit f = true ∧ ∃ u, p.inner.testBit u = true ∧ Adj near u f)
theorem growL_good {near : List Nat} {laid rest r : Nat} (hr : rest < 2 ^ 128) : ∀ (f : Nat) (p : Piece) (op : Nat),
    (∀ v, p.inner.testBit v = true → rest.testBit v = true) → (∀ v, op.testBit v = true → rest.testBit v = true ∧ p.inner.testBit v = false ∧ (v = r ∨ ∃ u, p.inner.testBit u = true ∧ Adj near u v)) →
    (∀ v, p.inner.testBit v = true → Con near p.inner r v) → (∀ u v, p.inner.testBit u = true → Adj near u v → rest.testBit v = true → p.inner.testBit v = true ∨ op.testBit v = true) →
    (∀ f, p.feet.testBit f = true ↔ (laid.testBit f = true ∧ ∃ u, p.inner.testBit u = true ∧ Adj near u f)) → (p.inner.testBit r = true ∨ op.testBit r = true) → countS (sLess rest p.inner) ≤ f →
    GrowG near laid rest r (growL near laid rest f p op) := by
  intro f
  induction f with
  | zero =>
    intro p op h1 h2 h3 h4 h5 h6 h7
    have h0 : ∀ v, op.testBit v = false := fun v => by
      cases e : op.testBit v with
      | false => rfl
      | true =>
        have := h2 v e
        have := count_pos (less_lt hr) (show (sLess rest p.inner).testBit v = true by rw [bit_less, this.1, this.2.1]; rfl)
        omega
    exact ⟨h1, h6.resolve_right (by simp [h0]), h3, fun u v hu ha hv => (h4 u v hu ha hv).resolve_right (by simp [h0]), h5⟩
  | succ f ih =>
    intro p op h1 h2 h3 h4 h5 h6 h7
    rw [growL]
    split
    · rename_i h0
      subst h0
      exact ⟨h1, h6.resolve_right (by simp), h3, fun u v hu ha hv => (h4 u v hu ha hv).resolve_right (by simp), h5⟩
    · rename_i h0
      have hop : op < 2 ^ 128 := lt_of_bits fun i hi => bit_lt hr (h2 i hi).1
      obtain ⟨hf, _⟩ := first_spec hop h0
      obtain ⟨v, hv⟩ : ∃ v, v = firstS op := ⟨_, rfl⟩
      simp only [← hv]
      rw [← hv] at hf
      obtain ⟨g1, g2, g3⟩ := h2 v hf
      have hin : ∀ i, (sAdd p.inner v).testBit i = (p.inner.testBit i || decide (i = v)) := fun i => bit_add _ _ _
      refine ih _ _ (fun i hi => ?_) (fun i hi => ?_) (fun i hi => ?_) (fun a b ha hab hb => ?_) (fun i => ?_) ?_ ?_
      · simp only [hin, Bool.or_eq_true, decide_eq_true_eq] at hi
        rcases hi with hi | hi
        · exact h1 i hi
        · rw [hi]; exact g1
      · simp only [bit_or, bit_drop, bit_less, bit_and, hin, Bool.or_eq_true, Bool.and_eq_true, Bool.not_eq_true', decide_eq_false_iff_not, Bool.or_eq_false_iff] at hi
        rcases hi with ⟨hi, hne⟩ | ⟨⟨ha, hr'⟩, hn, hne⟩
        · obtain ⟨k1, k2, k3⟩ := h2 i hi
          refine ⟨k1, by simp [hin, k2, hne], k3.imp id fun ⟨u, hu, hau⟩ => ⟨u, by simp [hin, hu], hau⟩⟩
        · exact ⟨hr', by simp [hin, hn, hne], Or.inr ⟨v, by simp [hin], ha⟩⟩
      · simp only [hin, Bool.or_eq_true, decide_eq_true_eq] at hi
        have up : ∀ j, p.inner.testBit j = true → (sAdd p.inner v).testBit j = true := fun j hj => by simp [hin, hj]
        rcases hi with hi | hi
        · exact (h3 i hi).mono up
        · subst hi
          rcases g3 with e | ⟨u, hu, hau⟩
          · subst e; exact .refl (by simp [hin])
          · exact .step ((h3 u hu).mono up) hau (by simp [hin])
      · simp only [hin, Bool.or_eq_true, decide_eq_true_eq] at ha ⊢
        simp only [bit_or, bit_drop, bit_less, bit_and, hin, Bool.or_eq_true, Bool.and_eq_true, Bool.not_eq_true', decide_eq_false_iff_not, Bool.or_eq_false_iff]
        by_cases hbv : b = v
        · exact Or.inl (Or.inr hbv)
        · cases hbi : p.inner.testBit b with
          | true => exact Or.inl (Or.inl rfl)
          | false =>
            right
            rcases ha with ha | ha
            · exact Or.inl ⟨(h4 a b ha hab hb).resolve_left (by simp [hbi]), hbv⟩
            · subst ha; exact Or.inr ⟨⟨hab, hb⟩, rfl, hbv⟩
      · simp only [bit_or, bit_and, hin, Bool.or_eq_true, Bool.and_eq_true, decide_eq_true_eq, h5]
        constructor
        · rintro (⟨k1, u, k2, k3⟩ | ⟨k1, k2⟩)
          · exact ⟨k1, u, Or.inl k2, k3⟩
          · exact ⟨k2, v, Or.inr rfl, k1⟩
        · rintro ⟨k1, u, k2 | k2, k3⟩
          · exact Or.inl ⟨k1, u, k2, k3⟩
          · subst k2; exact Or.inr ⟨k3, k1⟩
      · simp only [bit_or, bit_drop, hin, Bool.or_eq_true, Bool.and_eq_true, Bool.not_eq_true', decide_eq_false_iff_not, decide_eq_true_eq]
        rcases h6 with h | h
        · exact Or.inl (Or.inl h)
        · by_cases e : r = v
          · exact Or.inl (Or.inr e)
          · exact Or.inr (Or.inl ⟨h, e⟩)
      · have := count_lt (t := sLess rest (sAdd p.inner v)) (less_lt (t := p.inner) hr) (v := v) (fun i hi => by
          simp only [bit_less, hin, Bool.and_eq_true, Bool.not_eq_true', Bool.or_eq_false_iff] at hi ⊢
          exact ⟨hi.1, hi.2.1⟩) (by simp [bit_less, g1, g2]) (by simp [bit_less, hin])
        show countS (sLess rest (sAdd p.inner v)) ≤ f
        omega
theorem grow_good {near : List Nat} {laid rest : Nat} (hr : rest < 2 ^ 128) (h0 : rest ≠ 0) : GrowG near laid rest (firstS rest) (grow near laid rest) := by
  obtain ⟨hf, _⟩ := first_spec hr h0
  refine growL_good hr 128 ⟨0, 0⟩ _ (by simp) (fun v hv => ?_) (by simp) (by simp) (by simp) (by simp [bit_setOf]) (countS_le _)
  rw [bit_setOf] at hv
  simp only [List.mem_singleton, decide_eq_true_eq] at hv
  subst hv
  exact ⟨hf, by simp, Or.inl rfl⟩
/-- The pieces of rest: their nodes lie apart, each is closed in rest, and each node of rest is in one that grew, which is told if it has two feet. -/
theorem restL_good {N : Nat} {near : List Nat} (hg : NearG N near) {laid : Nat} : ∀ (f : Nat) (rest : Nat), rest < 2 ^ 128 → countS rest ≤ f →
    (∀ p ∈ restL near laid f rest, 1 < countS p.feet ∧ ∃ r, GrowG near laid rest r p) ∧
    (restL near laid f rest).Pairwise (fun p q => ∀ v, ¬ (p.inner.testBit v = true ∧ q.inner.testBit v = true)) ∧
    ∀ v, rest.testBit v = true → ∃ p r, GrowG near laid rest r p ∧ p.inner.testBit v = true ∧ (1 < countS p.feet → p ∈ restL near laid f rest)
  | 0, rest, hr, hc => by
    refine ⟨by simp [restL], by simp [restL], fun v hv => ?_⟩
    have := count_pos hr hv
    omega
  | f + 1, rest, hr, hc => by
    rw [restL]
    by_cases h0 : rest = 0
    · subst h0
      simp
    · rw [if_neg h0]
      have G := grow_good (near := near) (laid := laid) hr h0
      obtain ⟨q, hq⟩ : ∃ q, q = grow near laid rest := ⟨_, rfl⟩
      rw [← hq] at G
      simp only [← hq]
      have hlt := count_lt (s := rest) (t := sLess rest q.inner) (v := firstS rest) hr (fun i hi => by
        simp only [bit_less, Bool.and_eq_true] at hi
        exact hi.1) (first_spec hr h0).1 (by simp [bit_less, G.root])
      obtain ⟨i1, i2, i3⟩ := restL_good hg (laid := laid) f (sLess rest q.inner) (less_lt hr) (by omega)
      have lift : ∀ {p r}, GrowG near laid (sLess rest q.inner) r p → GrowG near laid rest r p := by
        intro p r g
        have hs : ∀ v, p.inner.testBit v = true → rest.testBit v = true ∧ q.inner.testBit v = false := fun v hv => by
          have := g.sub v hv
          simpa [bit_less] using this
        refine ⟨fun v hv => (hs v hv).1, g.root, g.con, fun u v hu ha hv => ?_, g.feet⟩
        refine g.closed u v hu ha ?_
        cases e : q.inner.testBit v with
        | false => simp [bit_less, hv, e]
        | true =>
          have := G.closed v u e (hg.sym ha) (hs u hu).1
          rw [(hs u hu).2] at this
          cases this
      refine ⟨fun p hp => ?_, ?_, fun v hv => ?_⟩
      · rcases List.mem_append.1 hp with h | h
        · split at h
          · rename_i h2
            rw [List.mem_singleton.1 h]
            exact ⟨h2, _, G⟩
          · cases h
        · obtain ⟨h1, r, h2⟩ := i1 p h
          exact ⟨h1, r, lift h2⟩
      · refine List.pairwise_append.2 ⟨?_, i2, fun a ha b hb v hv => ?_⟩
        · split <;> simp
        · split at ha
          · rw [List.mem_singleton.1 ha] at hv
            obtain ⟨_, r, h2⟩ := i1 b hb
            have := h2.sub v hv.2
            simp [bit_less, hv.1] at this
          · cases ha
      · cases e : q.inner.testBit v with
        | true => exact ⟨q, _, G, e, fun h => List.mem_append_left _ (by rw [if_pos h]; exact List.mem_singleton.2 rfl)⟩
        | false =>
          obtain ⟨p, r, h1, h2, h3⟩ := i3 v (by simp [bit_less, hv, e])
          exact ⟨p, r, lift h1, h2, fun h => List.mem_append_right _ (h3 h)⟩
/-- The edges from fresh nodes to what is laid. -/
theorem freshL_good (near : List Nat) : ∀ (fresh : List Nat) (laid : Nat), (∀ i, (freshL near laid fresh).2.testBit i = (laid.testBit i || decide (i ∈ fresh)))
  | [], laid, i => by simp [freshL]
  | v :: l, laid, i => by
    rw [freshL]
    simp only [freshL_good near l, bit_add, List.mem_cons]
    by_cases h1 : i = v <;> by_cases h2 : i ∈ l <;> simp [h1, h2]
theorem freshL_mem {N : Nat} {near : List Nat} (hg : NearG N near) (p : Piece) : ∀ (fresh : List Nat) (laid : Nat), p ∈ (freshL near laid fresh).1 ↔ ∃ i u v, fresh[i]? = some v ∧ Adj near v u ∧ (laid.testBit u = true ∨ u ∈ fresh.take i) ∧ p = ⟨0, setOf [u, v]⟩
  | [], laid => by simp [freshL]
  | x :: l, laid => by
    have hb : ∀ v u, (at' near v &&& laid).testBit u = true → u < 128 := fun v u h => by
      rw [bit_and, Bool.and_eq_true] at h
      exact Nat.lt_of_lt_of_le (hg.lt h.1) hg.le
    rw [freshL]
    simp only [List.mem_append, List.mem_map, freshL_mem hg p l]
    constructor
    · rintro (⟨u, hu, rfl⟩ | ⟨i, u, v, h1, h2, h3, h4⟩)
      · have hu := (mem_elems (lt_of_bits (hb x))).1 hu
        rw [bit_and, Bool.and_eq_true] at hu
        exact ⟨0, u, x, rfl, hu.1, Or.inl hu.2, rfl⟩
      · refine ⟨i + 1, u, v, by simpa using h1, h2, ?_, h4⟩
        rw [bit_add, Bool.or_eq_true, decide_eq_true_eq] at h3
        rw [List.take_succ_cons, List.mem_cons]
        rcases h3 with (h | h) | h
        · exact Or.inl h
        · exact Or.inr (Or.inl h)
        · exact Or.inr (Or.inr h)
    · rintro ⟨i, u, v, h1, h2, h3, h4⟩
      cases i with
      | zero =>
        simp only [List.getElem?_cons_zero, Option.some.injEq] at h1
        subst h1
        refine Or.inl ⟨u, (mem_elems (lt_of_bits (hb x))).2 ?_, h4.symm⟩
        rw [bit_and, Bool.and_eq_true]
        exact ⟨h2, h3.resolve_right (by simp)⟩
      | succ i =>
        refine Or.inr ⟨i, u, v, by simpa using h1, h2, ?_, h4⟩
        rw [bit_add, Bool.or_eq_true, decide_eq_true_eq]
        rw [List.take_succ_cons, List.mem_cons] at h3
        rcases h3 with h | h | h
        · exact Or.inl (Or.inl h)
        · exact Or.inl (Or.inr h)
        · exact Or.inr h
end Go.Proofs.YtekokjechbibdaaDoor

namespace Go.Proofs.YtekokjechbibdaaDoor
/-- v comes right behind u. -/
def Nxt (l : List Nat) (u v : Nat) : Prop := ∃ k, l[k]? = some u ∧ l[k + 1]? = some v
theorem nxt_cons {a b : Nat} {l : List Nat} {u v : Nat} : Nxt (a :: b :: l) u v ↔ ((u = a ∧ v = b) ∨ Nxt (b :: l) u v) := by
  constructor
  · rintro ⟨k, h1, h2⟩
    cases k with
    | zero => simp at h1 h2; exact Or.inl ⟨h1.symm, h2.symm⟩
    | succ k => exact Or.inr ⟨k, by simpa using h1, by simpa using h2⟩
  · rintro (⟨rfl, rfl⟩ | ⟨k, h1, h2⟩)
    · exact ⟨0, rfl, rfl⟩
    · exact ⟨k + 1, by simpa using h1, by simpa using h2⟩
theorem nxt_one {a u v : Nat} : ¬ Nxt [a] u v := by rintro ⟨k, _, h⟩; simp at h
theorem nxt_nil {u v : Nat} : ¬ Nxt [] u v := by rintro ⟨k, h, _⟩; simp at h
theorem Nxt.mem {l : List Nat} {u v : Nat} (h : Nxt l u v) : u ∈ l ∧ v ∈ l := by
  obtain ⟨k, h1, h2⟩ := h
  exact ⟨List.mem_of_getElem? h1, List.mem_of_getElem? h2⟩
theorem chn_nxt {P : Nat → Nat → Prop} : ∀ {l : List Nat}, Chn P l → ∀ {u v}, Nxt l u v → P u v
  | [], _, _, _, h => absurd h nxt_nil
  | [_], _, _, _, h => absurd h nxt_one
  | _ :: _ :: _, hc, u, v, h => by
    rcases nxt_cons.1 h with ⟨rfl, rfl⟩ | h
    · exact hc.1
    · exact chn_nxt hc.2 h
/-- In a way with inner nodes, each edge has one of them. -/
theorem nxt_inner {a b : Nat} : ∀ {S : List Nat}, S ≠ [] → ∀ {u v}, Nxt (a :: S ++ [b]) u v → u ∈ S ∨ v ∈ S
  | [], h, _, _, _ => absurd rfl h
  | c :: S, _, u, v, h => by
    rw [List.cons_append, List.cons_append] at h
    rcases nxt_cons.1 h with ⟨rfl, rfl⟩ | h
    · exact Or.inr (by simp)
    · by_cases hS : S = []
      · subst hS
        rcases nxt_cons.1 h with ⟨rfl, rfl⟩ | h
        · exact Or.inl (by simp)
        · exact absurd h nxt_one
      · have := nxt_inner (a := c) hS h
        exact this.imp (List.mem_cons_of_mem _) (List.mem_cons_of_mem _)
theorem at_setG {near : List Nat} {u s : Nat} (hu : u < near.length) (a : Nat) : at' (near.set u s) a = if a = u then s else at' near a := by
  unfold at'
  by_cases h : a = u
  · subst h; simp [List.getD_eq_getElem?_getD, hu]
  · simp [h, List.getD_eq_getElem?_getD, List.getElem?_set_ne (Ne.symm h)]
theorem adj_part {near : List Nat} {u v : Nat} (hu : u < near.length) (hv : v < near.length) (a b : Nat) : Adj (part near u v) a b ↔ (Adj near a b ∧ ¬ (a = u ∧ b = v) ∧ ¬ (a = v ∧ b = u)) := by
  unfold Adj part
  simp only
  rw [at_setG (by simpa using hv), at_setG hu v, at_setG hu a]
  by_cases h1 : a = v
  · subst h1
    by_cases h2 : a = u
    · subst h2; simp [bit_drop]
    · simp [h2, bit_drop]
  · by_cases h2 : a = u
    · subst h2; simp [h1, bit_drop]
    · simp [h1, h2]
theorem NearG.part {N : Nat} {near : List Nat} (h : NearG N near) {u v : Nat} (hu : u < N) (hv : v < N) : NearG N (part near u v) := by
  have k := adj_part (near := near) (by rw [h.len]; exact hu) (by rw [h.len]; exact hv)
  refine ⟨by simp [YtekokjechbibdaaDoor.part, h.len], h.le, fun a => h.lt ((k _ _).1 a).1, fun {a b} x => ?_, fun a => h.irr ((k _ _).1 a).1⟩
  have := (k _ _).1 x
  exact (k _ _).2 ⟨h.sym this.1, fun e => this.2.2 ⟨e.2, e.1⟩, fun e => this.2.1 ⟨e.2, e.1⟩⟩
theorem partWay_good {N : Nat} : ∀ (l : List Nat) {near : List Nat}, NearG N near → (∀ v ∈ l, v < N) → NearG N (partWay near l) ∧ ∀ a b, Adj (partWay near l) a b ↔ (Adj near a b ∧ ¬ Nxt l a b ∧ ¬ Nxt l b a)
  | [], near, h, _ => ⟨h, fun a b => by simp [partWay, nxt_nil]⟩
  | [x], near, h, _ => ⟨h, fun a b => by simp [partWay, nxt_one]⟩
  | x :: y :: l, near, h, hl => by
    have hx := hl x (by simp)
    have hy := hl y (by simp)
    obtain ⟨i1, i2⟩ := partWay_good (y :: l) (h.part hx hy) fun v hv => hl v (List.mem_cons_of_mem _ hv)
    rw [partWay]
    refine ⟨i1, fun a b => ?_⟩
    rw [i2, adj_part (by rw [h.len]; exact hx) (by rw [h.len]; exact hy), nxt_cons, nxt_cons]
    constructor
    · rintro ⟨⟨h1, h2, h3⟩, h4, h5⟩
      refine ⟨h1, ?_, ?_⟩
      · rintro (e | e)
        · exact h2 e
        · exact h4 e
      · rintro (e | e)
        · exact h3 ⟨e.2, e.1⟩
        · exact h5 e
    · rintro ⟨h1, h2, h3⟩
      exact ⟨⟨h1, fun e => h2 (Or.inl e), fun e => h3 (Or.inl ⟨e.2, e.1⟩)⟩, fun e => h2 (Or.inr e), fun e => h3 (Or.inr e)⟩
/-- A piece of what is laid and open. -/
structure PG (N : Nat) (near : List Nat) (laid : Nat) (p : Piece) : Prop where
  small : ∀ v, p.inner.testBit v = true → v < N
  apart : ∀ v, p.inner.testBit v = true → laid.testBit v = false
  feetL : ∀ f, p.feet.testBit f = true → laid.testBit f = true
  edge : p.inner = 0 → ∃ u v, p.feet = setOf [u, v] ∧ Adj near u v
  con : ∀ a b, p.inner.testBit a = true → p.inner.testBit b = true → Con near p.inner a b
  closed : ∀ u v, p.inner.testBit u = true → Adj near u v → p.inner.testBit v = true ∨ laid.testBit v = true
  feet : p.inner ≠ 0 → ∀ f, p.feet.testBit f = true ↔ (laid.testBit f = true ∧ ∃ u, p.inner.testBit u = true ∧ Adj near u f)
  two : p.inner ≠ 0 → 1 < countS p.feet
def Apart2 (p q : Piece) : Prop := (∀ v, ¬ (p.inner.testBit v = true ∧ q.inner.testBit v = true)) ∧ (p.inner = 0 → q.inner = 0 → p.feet ≠ q.feet)
/-- c hangs on what is laid by one node at most. -/
structure Lone (near : List Nat) (laid c v : Nat) : Prop where
  mem : c.testBit v = true
  out : ∀ u, c.testBit u = true → laid.testBit u = false
  closed : ∀ u w, c.testBit u = true → Adj near u w → c.testBit w = true ∨ laid.testBit w = true
  one : ∀ u w f g, c.testBit u = true → c.testBit w = true → Adj near u f → Adj near w g → laid.testBit f = true → laid.testBit g = true → f = g
theorem two_in {s f g : Nat} (hs : s < 2 ^ 128) (hf : s.testBit f = true) (hg : s.testBit g = true) (h : f ≠ g) : 1 < countS s := by
  have h1 := (mem_elems hs).2 hf
  have h2 := (mem_elems hs).2 hg
  unfold countS
  match he : elems s, h1, h2 with
  | [], h1, _ => cases h1
  | [a], h1, h2 => simp at h1 h2; omega
  | _ :: _ :: _, _, _ => simp
theorem in_two {s : Nat} (hs : s < 2 ^ 128) (h : 1 < countS s) : ∃ f g, f ≠ g ∧ s.testBit f = true ∧ s.testBit g = true := by
  unfold countS at h
  have hn := elems_sorted s
  match he : elems s with
  | [] => rw [he] at h; simp at h
  | [a] => rw [he] at h; simp at h
  | a :: b :: l =>
    rw [he] at hn
    refine ⟨a, b, Nat.ne_of_lt (List.rel_of_pairwise_cons hn (by simp)), (mem_elems hs).1 (by rw [he]; simp), (mem_elems hs).1 (by rw [he]; simp)⟩
theorem freshL_apart {N : Nat} {near : List Nat} (hg : NearG N near) : ∀ (fresh : List Nat) (laid : Nat), fresh.Nodup → (∀ v ∈ fresh, laid.testBit v = false) → (freshL near laid fresh).1.Pairwise Apart2
  | [], laid, _, _ => by simp [freshL]
  | x :: l, laid, hn, hl => by
    have hb : at' near x &&& laid < 2 ^ 128 := lt_of_bits fun u h => by
      rw [bit_and, Bool.and_eq_true] at h
      exact Nat.lt_of_lt_of_le (hg.lt h.1) hg.le
    have hn' := List.nodup_cons.1 hn
    have hlx := hl x (by simp)
    rw [freshL]
    simp only
    refine List.pairwise_append.2 ⟨?_, freshL_apart hg l _ hn'.2 fun v hv => ?_, fun p hp q hq => ?_⟩
    · rw [List.pairwise_map]
      refine (elems_sorted (at' near x &&& laid)).imp_of_mem fun {a b} ha hb' hab => ⟨by simp, fun _ _ e => ?_⟩
      have ha := (mem_elems hb).1 ha
      rw [bit_and, Bool.and_eq_true] at ha
      have h1 : (setOf [b, x]).testBit a = true := by rw [← (show setOf [a, x] = setOf [b, x] from e), bit_setOf]; simp
      rw [bit_setOf] at h1
      simp only [List.mem_cons, List.not_mem_nil, or_false, decide_eq_true_eq] at h1
      rcases h1 with h1 | h1
      · omega
      · subst h1; rw [hlx] at ha; cases ha.2
    · rw [bit_add]
      have : v ≠ x := fun e => hn'.1 (by rw [← e]; exact hv)
      simp [hl v (List.mem_cons_of_mem _ hv), this]
    · obtain ⟨u, hu, rfl⟩ := List.mem_map.1 hp
      have hu := (mem_elems hb).1 hu
      rw [bit_and, Bool.and_eq_true] at hu
      obtain ⟨i, u', v', h1, h2, h3, rfl⟩ := (freshL_mem hg q l _).1 hq
      refine ⟨by simp, fun _ _ e => ?_⟩
      have hv' := List.mem_of_getElem? h1
      have h4 : (setOf [u, x]).testBit v' = true := by rw [show setOf [u, x] = setOf [u', v'] from e, bit_setOf]; simp
      rw [bit_setOf] at h4
      simp only [List.mem_cons, List.not_mem_nil, or_false, decide_eq_true_eq] at h4
      rcases h4 with h4 | h4
      · subst h4
        have := hl v' (List.mem_cons_of_mem _ hv')
        rw [hu.2] at this; cases this
      · subst h4; exact hn'.1 hv'
theorem piecesOf_good {N : Nat} {near : List Nat} (hg : NearG N near) {laid laid' rest : Nat} {fresh : List Nat} (hn : fresh.Nodup) (hl : ∀ v ∈ fresh, laid.testBit v = false) (hL : ∀ i, laid'.testBit i = (laid.testBit i || decide (i ∈ fresh)))
    (hr : ∀ v, rest.testBit v = true → v < N ∧ laid'.testBit v = false) (hc : ∀ u v, rest.testBit u = true → Adj near u v → rest.testBit v = true ∨ laid'.testBit v = true) :
    (∀ p ∈ piecesOf near laid fresh rest, PG N near laid' p ∧ ∀ v, p.inner.testBit v = true → rest.testBit v = true) ∧ (piecesOf near laid fresh rest).Pairwise Apart2 ∧
    (∀ p ∈ piecesOf near laid fresh rest, p.inner = 0 → ∃ u v, p.feet = setOf [u, v] ∧ u ∈ fresh) ∧
    (∀ u v, u ∈ fresh → laid'.testBit v = true → Adj near u v → ∃ p ∈ piecesOf near laid fresh rest, p.inner = 0 ∧ p.feet = setOf [u, v]) ∧
    ∀ v, rest.testBit v = true → (∃ p ∈ piecesOf near laid fresh rest, p.inner.testBit v = true) ∨ ∃ c, Lone near laid' c v ∧ ∀ u, c.testBit u = true → rest.testBit u = true := by
  have hr128 : rest < 2 ^ 128 := lt_of_bits fun i hi => Nat.lt_of_lt_of_le (hr i hi).1 hg.le
  have e2 : (freshL near laid fresh).2 = laid' := Nat.eq_of_testBit_eq fun i => by rw [freshL_good, hL]
  obtain ⟨i1, i2, i3⟩ := restL_good hg (laid := laid') 128 rest hr128 (countS_le _)
  have two : ∀ u v, setOf [u, v] = setOf [v, u] := fun u v => Nat.eq_of_testBit_eq fun i => by
    rw [bit_setOf, bit_setOf]
    simp only [List.mem_cons, List.not_mem_nil, or_false, decide_eq_decide]
    exact Or.comm
  have hnz : ∀ {p r}, GrowG near laid' rest r p → p.inner ≠ 0 := fun g e => by
    have := g.root
    rw [e] at this
    simp at this
  unfold piecesOf
  simp only [e2]
  have hF : ∀ p, p ∈ (freshL near laid fresh).1 → ∃ u v, p = ⟨0, setOf [u, v]⟩ ∧ v ∈ fresh ∧ Adj near v u ∧ laid'.testBit u = true := fun p hp => by
    obtain ⟨i, u, v, h1, h2, h3, h4⟩ := (freshL_mem hg p fresh laid).1 hp
    refine ⟨u, v, h4, List.mem_of_getElem? h1, h2, ?_⟩
    rw [hL, Bool.or_eq_true, decide_eq_true_eq]
    exact h3.imp id fun h => List.mem_of_mem_take h
  refine ⟨fun p hp => ?_, ?_, fun p hp h0 => ?_, fun u v hu hv ha => ?_, fun v hv => ?_⟩
  · rcases List.mem_append.1 hp with h | h
    · obtain ⟨u, v, rfl, hv, ha, hu⟩ := hF p h
      refine ⟨⟨by simp, by simp, fun f hf => ?_, fun _ => ⟨u, v, rfl, hg.sym ha⟩, by simp, by simp, by simp, by simp⟩, by simp⟩
      rw [bit_setOf] at hf
      simp only [List.mem_cons, List.not_mem_nil, or_false, decide_eq_true_eq] at hf
      rcases hf with rfl | rfl
      · exact hu
      · rw [hL]; simp [hv]
    · obtain ⟨h1, r, g⟩ := i1 p h
      refine ⟨⟨fun v hv => (hr v (g.sub v hv)).1, fun v hv => (hr v (g.sub v hv)).2, fun f hf => ((g.feet f).1 hf).1, fun e => absurd e (hnz g), fun a b ha hb => Con.trans (Con.symm hg (g.con a ha)) (g.con b hb), fun u v hu ha => ?_, fun _ => g.feet, fun _ => h1⟩, g.sub⟩
      rcases hc u v (g.sub u hu) ha with h | h
      · exact Or.inl (g.closed u v hu ha h)
      · exact Or.inr h
  · refine List.pairwise_append.2 ⟨freshL_apart hg fresh laid hn hl, ?_, fun p hp q hq => ?_⟩
    · refine i2.imp_of_mem fun {p q} hp _ h => ⟨h, fun e => ?_⟩
      obtain ⟨_, r, g⟩ := i1 p hp
      exact absurd e (hnz g)
    · obtain ⟨u, v, rfl, _⟩ := hF p hp
      obtain ⟨_, r, g⟩ := i1 q hq
      exact ⟨by simp, fun _ e => absurd e (hnz g)⟩
  · rcases List.mem_append.1 hp with h | h
    · obtain ⟨u, v, rfl, hv, ha, hu⟩ := hF p h
      exact ⟨v, u, two u v, hv⟩
    · obtain ⟨_, r, g⟩ := i1 p h
      exact absurd h0 (hnz g)
  · obtain ⟨i, hi⟩ := List.getElem?_of_mem hu
    rw [hL, Bool.or_eq_true, decide_eq_true_eq] at hv
    by_cases hb : laid.testBit v = true ∨ v ∈ fresh.take i
    · exact ⟨_, List.mem_append_left _ ((freshL_mem hg _ fresh laid).2 ⟨i, v, u, hi, ha, hb, rfl⟩), rfl, two v u⟩
    · have hvf := hv.resolve_left fun h => hb (Or.inl h)
      obtain ⟨j, hj⟩ := List.getElem?_of_mem hvf
      have hij : i < j := by
        rcases Nat.lt_trichotomy i j with h | h | h
        · exact h
        · subst h
          rw [hi] at hj
          cases hj
          exact absurd rfl (hg.irr ha)
        · exact absurd (Or.inr (List.mem_of_getElem? (by rw [List.getElem?_take_of_lt h]; exact hj))) hb
      refine ⟨_, List.mem_append_left _ ((freshL_mem hg _ fresh laid).2 ⟨j, u, v, hj, hg.sym ha, Or.inr (List.mem_of_getElem? (by rw [List.getElem?_take_of_lt hij]; exact hi)), rfl⟩), rfl, rfl⟩
  · obtain ⟨p, r, g, h1, h2⟩ := i3 v hv
    by_cases h3 : 1 < countS p.feet
    · exact Or.inl ⟨p, List.mem_append_right _ (h2 h3), h1⟩
    · refine Or.inr ⟨p.inner, ⟨h1, fun u hu => (hr u (g.sub u hu)).2, fun u w hu ha => ?_, fun u w f g' hu hw hf hg' hlf hlg => Classical.byContradiction fun hne => h3 ?_⟩, g.sub⟩
      · rcases hc u w (g.sub u hu) ha with h | h
        · exact Or.inl (g.closed u w hu ha h)
        · exact Or.inr h
      · have hf128 : p.feet < 2 ^ 128 := lt_of_bits fun i hi => by
          obtain ⟨_, u, _, ha⟩ := (g.feet i).1 hi
          exact Nat.lt_of_lt_of_le (hg.lt ha) hg.le
        exact two_in hf128 ((g.feet f).2 ⟨hlf, u, hu, hf⟩) ((g.feet g').2 ⟨hlg, w, hw, hg'⟩) hne
end Go.Proofs.YtekokjechbibdaaDoor

namespace Go.Proofs.YtekokjechbibdaaDoor
theorem nodup_few : ∀ (n : Nat) (l : List Nat), l.Nodup → (∀ x ∈ l, x < n) → l.length ≤ n
  | 0, l, _, h => by
    cases l with
    | nil => simp
    | cons a l => exact absurd (h a (by simp)) (by omega)
  | n + 1, l, hn, h => by
    have ih := nodup_few n (l.erase n) (hn.erase n) fun x hx => by
      have := (hn.mem_erase_iff.1 hx)
      have := h x this.2
      omega
    by_cases hm : n ∈ l
    · rw [List.length_erase_of_mem hm] at ih
      omega
    · rw [List.erase_of_not_mem hm] at ih
      omega
theorem nodup_at {l : List Nat} (h : l.Nodup) {i j x : Nat} (hi : l[i]? = some x) (hj : l[j]? = some x) : i = j := (List.getElem?_inj (List.getElem?_eq_some_iff.1 hi).1 h).1 (by rw [hi, hj])
theorem fold_set_len (v : Nat) : ∀ (l back : List Nat), (l.foldl (fun b u => b.set u v) back).length = back.length
  | [], _ => rfl
  | a :: l, back => by rw [List.foldl_cons, fold_set_len v l, List.length_set]
theorem fold_set_get (v : Nat) : ∀ (l back : List Nat) (u : Nat), u < back.length → (l.foldl (fun b u => b.set u v) back).getD u 0 = if u ∈ l then v else back.getD u 0
  | [], _, _, _ => by simp
  | a :: l, back, u, hu => by
    rw [List.foldl_cons, fold_set_get v l (back.set a v) u (by simpa using hu)]
    by_cases h1 : u ∈ l
    · simp [h1]
    · by_cases h2 : u = a
      · subst h2; simp [h1, List.getD_eq_getElem?_getD, hu]
      · simp [h1, h2, List.getD_eq_getElem?_getD, List.getElem?_set_ne (Ne.symm h2)]
/-- Each node met but the first was met from one that was met before it. -/
def BackIn (near L back : List Nat) : Prop := ∀ i u, 0 < i → L[i]? = some u → ∃ j, j < i ∧ L[j]? = some (back.getD u 0) ∧ Adj near (back.getD u 0) u
theorem goBack_good {N : Nat} {near L back : List Nat} {fr : Nat} (hg : NearG N near) (hb : BackIn near L back) (hl : back.length = N) (hL : ∀ u ∈ L, u < N) (hn : L.Nodup) (h0 : L[0]? = some fr) : ∀ (f i u : Nat), L[i]? = some u → i ≤ f →
    goBackOk back fr f u = true ∧ ∃ S, goBack back fr f u = S ++ [fr] ∧ (S ++ [fr]).head? = some u ∧ Chn (Adj near) (S ++ [fr]) ∧ S.Nodup ∧ ∀ x ∈ S, ∃ k, k ≤ i ∧ 0 < k ∧ L[k]? = some x := by
  intro f
  induction f with
  | zero =>
    intro i u hu hi
    have e : i = 0 := by omega
    subst e
    rw [h0] at hu
    cases hu
    exact ⟨goBackOk_at 0, [], rfl, rfl, trivial, List.nodup_nil, by simp⟩
  | succ f ih =>
    intro i u hu hi
    by_cases e : i = 0
    · subst e
      rw [h0] at hu
      cases hu
      exact ⟨goBackOk_at _, [], goBack_at _, rfl, trivial, List.nodup_nil, by simp⟩
    · obtain ⟨j, hj, hju, ha⟩ := hb i u (by omega) hu
      have hne : u ≠ fr := fun he => by
        subst he
        have hi2 := (List.getElem?_eq_some_iff.1 hu).1
        exact e (nodup_at hn hu h0)
      obtain ⟨k1, S, k2, k3, k4, k5, k6⟩ := ih j _ hju (by omega)
      refine ⟨?_, u :: S, ?_, rfl, ?_, ?_, ?_⟩
      · simp only [goBackOk, Bool.or_eq_true, Bool.and_eq_true, decide_eq_true_eq]
        exact Or.inr ⟨by rw [hl]; exact hL u (List.mem_of_getElem? hu), k1⟩
      · rw [goBack, if_neg hne, k2, List.cons_append]
      · rw [List.cons_append]
        cases hS : S ++ [fr] with
        | nil => simp at hS
        | cons c l =>
          rw [hS] at k3 k4
          simp only [List.head?_cons, Option.some.injEq] at k3
          rw [k3]
          rw [k3] at k4
          exact ⟨hg.sym ha, k4⟩
      · refine List.nodup_cons.2 ⟨fun hm => ?_, k5⟩
        obtain ⟨k, hk1, _, hk⟩ := k6 u hm
        have hi2 := (List.getElem?_eq_some_iff.1 hu).1
        have := nodup_at hn hk hu
        omega
      · intro x hx
        rcases List.mem_cons.1 hx with rfl | hx
        · exact ⟨i, Nat.le_refl _, by omega, hu⟩
        · obtain ⟨k, a1, a2, a3⟩ := k6 x hx
          exact ⟨k, by omega, a2, a3⟩
/-- A way from another foot through inner nodes back to the first. -/
def WayIs (near : List Nat) (inner others fr : Nat) (W : List Nat) : Prop := ∃ la S, W = la :: S ++ [fr] ∧ others.testBit la = true ∧ S ≠ [] ∧ S.Nodup ∧ (∀ x ∈ S, inner.testBit x = true) ∧ Chn (Adj near) W
structure Search (N : Nat) (near : List Nat) (inner others fr : Nat) (back : List Nat) (met : Nat) (done queue : List Nat) : Prop where
  nd : (done ++ queue).Nodup
  hd : (done ++ queue)[0]? = some fr
  met : ∀ i, met.testBit i = decide (i ∈ done ++ queue)
  inn : ∀ u ∈ done ++ queue, u = fr ∨ inner.testBit u = true
  bk : BackIn near (done ++ queue) back
  len : back.length = N
  dn : ∀ u ∈ done, (u ≠ fr → at' near u &&& others = 0) ∧ ∀ x, Adj near u x → inner.testBit x = true → x ∈ done ++ queue
theorem wayL_good {N : Nat} {near : List Nat} {inner others fr : Nat} (hg : NearG N near) (hi : ∀ v, inner.testBit v = true → v < N) (ho : ∀ v, others.testBit v = true → inner.testBit v = false ∧ v ≠ fr) (hfr : inner.testBit fr = false) (hfN : fr < N)
    (hc : ∀ a b, inner.testBit a = true → inner.testBit b = true → Con near inner a b) (h1 : ∃ x, inner.testBit x = true ∧ Adj near fr x) (h2 : ∃ u y, inner.testBit u = true ∧ Adj near u y ∧ others.testBit y = true) :
    ∀ (f : Nat) (back : List Nat) (met : Nat) (queue done : List Nat), Search N near inner others fr back met done queue → 128 ≤ f + done.length →
      wayOk near inner others fr f back met queue = true ∧ WayIs near inner others fr (wayL near inner others fr f back met queue) := by
  have hLt : ∀ {back met done queue}, Search N near inner others fr back met done queue → ∀ u ∈ done ++ queue, u < N := fun s u hu => by
    rcases s.inn u hu with e | e
    · rw [e]; exact hfN
    · exact hi u e
  have hEmpty : ∀ {back met done}, ¬ Search N near inner others fr back met done [] := fun {back met done} s => by
    obtain ⟨x, hx, hax⟩ := h1
    obtain ⟨u, y, hu, hay, hy⟩ := h2
    have hd := s.hd
    have hdn := s.dn
    simp only [List.append_nil] at hd hdn
    have hx' : x ∈ done := (hdn fr (List.mem_of_getElem? hd)).2 x hax hx
    have hu' : u ∈ done := (hc x u hx hu).closed (P := fun v => v ∈ done) hx' fun a b ha hab hb => (hdn a ha).2 b hab hb
    have := (hdn u hu').1 (fun e => by rw [e, hfr] at hu; cases hu)
    have hb : (at' near u &&& others).testBit y = true := by rw [bit_and, Bool.and_eq_true]; exact ⟨hay, hy⟩
    rw [this] at hb
    simp at hb
  intro f
  induction f with
  | zero =>
    intro back met queue done s hf
    cases queue with
    | nil => exact absurd s hEmpty
    | cons v q =>
      have := nodup_few N _ s.nd (hLt s)
      have := hg.le
      simp at *
      omega
  | succ f ih =>
    intro back met queue done s hf
    cases queue with
    | nil => exact absurd s hEmpty
    | cons v q =>
      have hvm : v ∈ done ++ v :: q := by simp
      have hvN := hLt s v hvm
      have hlen : (done ++ v :: q).length ≤ 128 := Nat.le_trans (nodup_few N _ s.nd (hLt s)) hg.le
      have hiv : (done ++ v :: q)[done.length]? = some v := by simp
      rw [wayOk, wayL]
      by_cases hcond : v ≠ fr ∧ at' near v &&& others ≠ 0
      · simp only [if_pos hcond]
        obtain ⟨hvf, hne⟩ := hcond
        have h128 : at' near v &&& others < 2 ^ 128 := lt_of_bits fun i h => by
          rw [bit_and, Bool.and_eq_true] at h
          exact Nat.lt_of_lt_of_le (hg.lt h.1) hg.le
        obtain ⟨hla, _⟩ := first_spec h128 hne
        generalize firstS (at' near v &&& others) = la at hla ⊢
        rw [bit_and, Bool.and_eq_true] at hla
        obtain ⟨hav, hlo⟩ := hla
        obtain ⟨hlin, hlf⟩ := ho la hlo
        have hlL : la ∉ done ++ v :: q := fun hm => by
          rcases s.inn la hm with e | e
          · exact hlf e
          · rw [hlin] at e; cases e
        have hget : ∀ u, u ≠ la → (back.set la v).getD u 0 = back.getD u 0 := fun u hu => by
          simp [List.getD_eq_getElem?_getD, List.getElem?_set_ne (Ne.symm hu)]
        have hB : BackIn near (done ++ v :: q) (back.set la v) := fun i u h0 hu => by
          rw [hget u (fun e => hlL (by rw [← e]; exact List.mem_of_getElem? hu))]
          exact s.bk i u h0 hu
        obtain ⟨k1, S, k2, k3, k4, k5, k6⟩ := goBack_good hg hB (by simpa using s.len) (hLt s) s.nd s.hd 127 done.length v hiv (by simp at hlen; omega)
        have hlaN : la < back.length := by rw [s.len]; exact hg.lt hav
        have hgl : (back.set la v).getD la 0 = v := by simp [List.getD_eq_getElem?_getD, hlaN]
        refine ⟨?_, la, S, ?_, hlo, fun e => ?_, k5, fun x hx => ?_, ?_⟩
        · rw [goBackOk]
          simp only [Bool.or_eq_true, Bool.and_eq_true, decide_eq_true_eq]
          exact Or.inr ⟨by simpa using hlaN, by rw [hgl]; exact k1⟩
        · rw [goBack, if_neg hlf, hgl, k2, List.cons_append]
        · subst e
          simp at k3
          exact hvf k3.symm
        · obtain ⟨k, _, a2, a3⟩ := k6 x hx
          rcases s.inn x (List.mem_of_getElem? a3) with e | e
          · exfalso
            subst e
            have hi2 := (List.getElem?_eq_some_iff.1 a3).1
            have := nodup_at s.nd s.hd a3
            omega
          · exact e
        · rw [goBack, if_neg hlf, hgl, k2]
          cases hS : S ++ [fr] with
          | nil => simp at hS
          | cons c l =>
            rw [hS] at k3 k4
            simp only [List.head?_cons, Option.some.injEq] at k3
            rw [k3]
            rw [k3] at k4
            exact ⟨hg.sym hav, k4⟩
      · simp only [if_neg hcond]
        have h128 : sLess (at' near v &&& inner) met < 2 ^ 128 := less_lt (lt_of_bits fun i h => by
          rw [bit_and, Bool.and_eq_true] at h
          exact Nat.lt_of_lt_of_le (hg.lt h.1) hg.le)
        have hnew : ∀ u, u ∈ elems (sLess (at' near v &&& inner) met) ↔ (Adj near v u ∧ inner.testBit u = true ∧ u ∉ done ++ v :: q) := fun u => by
          rw [mem_elems h128, bit_less, bit_and, s.met]
          simp only [Bool.and_eq_true, Bool.not_eq_true', decide_eq_false_iff_not, and_assoc]
          exact Iff.rfl
        have hnd : (elems (sLess (at' near v &&& inner) met)).Nodup := (elems_sorted _).imp fun h => Nat.ne_of_lt h
        generalize elems (sLess (at' near v &&& inner) met) = new at hnew hnd ⊢
        have hcut : done ++ [v] ++ (q ++ new) = (done ++ v :: q) ++ new := by simp
        refine ih _ _ _ (done ++ [v]) ⟨?_, ?_, fun i => ?_, fun u hu => ?_, fun i u h0 hu => ?_, ?_, fun u hu => ?_⟩ (by simp; omega)
        · rw [hcut]
          refine List.nodup_append.2 ⟨s.nd, hnd, fun a ha b hb e => ?_⟩
          subst e
          exact ((hnew a).1 hb).2.2 ha
        · rw [hcut, List.getElem?_append_left (by simp; omega)]
          exact s.hd
        · rw [hcut, bit_set_foldl, s.met]
          by_cases a1 : i ∈ done ++ v :: q <;> by_cases a2 : i ∈ new <;> simp only [List.mem_append, a1, a2, decide_true, decide_false, or_true, true_or, or_self, Bool.or_true, Bool.or_false, Bool.or_self] <;> simp_all
        · rw [hcut] at hu
          rcases List.mem_append.1 hu with h | h
          · exact s.inn u h
          · exact Or.inr ((hnew u).1 h).2.1
        · rw [hcut] at hu ⊢
          have huN : u < back.length := by
            rw [s.len]
            rcases List.mem_append.1 (List.mem_of_getElem? hu) with h | h
            · exact hLt s u h
            · exact hi u ((hnew u).1 h).2.1
          rw [fold_set_get v new back u huN]
          by_cases hil : i < (done ++ v :: q).length
          · rw [List.getElem?_append_left hil] at hu
            obtain ⟨j, b1, b2, b3⟩ := s.bk i u h0 hu
            rw [if_neg (fun hm => ((hnew u).1 hm).2.2 (List.mem_of_getElem? hu))]
            exact ⟨j, b1, by rw [List.getElem?_append_left (by omega)]; exact b2, b3⟩
          · rw [List.getElem?_append_right (by omega)] at hu
            have hm := List.mem_of_getElem? hu
            rw [if_pos hm]
            refine ⟨done.length, by simp at hil; omega, ?_, ((hnew u).1 hm).1⟩
            rw [List.getElem?_append_left (by simp)]
            exact hiv
        · rw [fold_set_len]; exact s.len
        · rw [hcut]
          rcases List.mem_append.1 hu with h | h
          · exact ⟨(s.dn u h).1, fun x a b => List.mem_append_left _ ((s.dn u h).2 x a b)⟩
          · rw [List.mem_singleton.1 h]
            refine ⟨fun hvf => Classical.byContradiction fun hne => hcond ⟨hvf, hne⟩, fun x a b => ?_⟩
            by_cases hm : x ∈ done ++ v :: q
            · exact List.mem_append_left _ hm
            · exact List.mem_append_right _ ((hnew x).2 ⟨a, b, hm⟩)
end Go.Proofs.YtekokjechbibdaaDoor

namespace Go.Proofs.YtekokjechbibdaaDoor
structure Lays (N : Nat) (near : List Nat) (laid : Nat) (ps : List Piece) : Prop where
  g : NearG N near
  lN : ∀ v, laid.testBit v = true → v < N
  pg : ∀ p ∈ ps, PG N near laid p
  ap : ps.Pairwise Apart2
  cov1 : ∀ u v, laid.testBit u = true → laid.testBit v = true → Adj near u v → ∃ p ∈ ps, p.inner = 0 ∧ p.feet = setOf [u, v]
  cov2 : ∀ v, v < N → laid.testBit v = false → (∃ p ∈ ps, p.inner.testBit v = true) ∨ ∃ c, Lone near laid c v
/-- A way through a piece: from foot to foot, by inner nodes where there are such. -/
structure Through (near : List Nat) (p : Piece) (a : Nat) (S : List Nat) (b : Nat) : Prop where
  ne : a ≠ b
  fa : p.feet.testBit a = true
  fb : p.feet.testBit b = true
  nil : S = [] ↔ p.inner = 0
  nd : S.Nodup
  inn : ∀ x ∈ S, p.inner.testBit x = true
  chn : Chn (Adj near) (a :: S ++ [b])
  two : p.inner = 0 → p.feet = setOf [a, b]
theorem way_good {N laid : Nat} {near : List Nat} (hg : NearG N near) (hlN : ∀ v, laid.testBit v = true → v < N) {p : Piece} (hp : PG N near laid p) : p.feet ≠ 0 ∧ sDrop p.feet (firstS p.feet) ≠ 0 ∧ throughOk near p = true ∧ ∃ a S b, wayThrough near p = a :: S ++ [b] ∧ Through near p a S b := by
  have hf128 : p.feet < 2 ^ 128 := lt_of_bits fun i hi => Nat.lt_of_lt_of_le (hlN i (hp.feetL i hi)) hg.le
  have hne2 : ∃ f g, f ≠ g ∧ p.feet.testBit f = true ∧ p.feet.testBit g = true := by
    by_cases h0 : p.inner = 0
    · obtain ⟨u, v, e, ha⟩ := hp.edge h0
      exact ⟨u, v, hg.irr ha, by rw [e, bit_setOf]; simp, by rw [e, bit_setOf]; simp⟩
    · exact in_two hf128 (hp.two h0)
  obtain ⟨f, g, hfg, hf, hgf⟩ := hne2
  have h0 : p.feet ≠ 0 := fun e => by rw [e] at hf; simp at hf
  obtain ⟨hfr, _⟩ := first_spec hf128 h0
  obtain ⟨fr, efr⟩ : ∃ fr, fr = firstS p.feet := ⟨_, rfl⟩
  unfold throughOk wayThrough
  simp only [← efr]
  rw [← efr] at hfr
  have hother : ∃ y, (sDrop p.feet fr).testBit y = true := by
    by_cases e : f = fr
    · exact ⟨g, by rw [bit_drop]; simp [hgf, show g ≠ fr from fun e' => hfg (e.trans e'.symm)]⟩
    · exact ⟨f, by rw [bit_drop]; simp [hf, e]⟩
  have h1 : sDrop p.feet fr ≠ 0 := fun e => by
    obtain ⟨y, hy⟩ := hother
    rw [e] at hy; simp at hy
  refine ⟨h0, h1, ?_⟩
  by_cases hi : p.inner = 0
  · obtain ⟨hla, _⟩ := first_spec (less_lt (t := 1 <<< fr) hf128) h1
    obtain ⟨la, ela⟩ : ∃ la, la = firstS (sDrop p.feet fr) := ⟨_, rfl⟩
    have hla' : (sDrop p.feet fr).testBit la = true := by rw [ela]; exact hla
    rw [bit_drop] at hla'
    simp only [Bool.and_eq_true, Bool.not_eq_true', decide_eq_false_iff_not] at hla'
    simp only [if_pos hi, ← ela]
    obtain ⟨u, v, e, ha⟩ := hp.edge hi
    have hm : ∀ i, p.feet.testBit i = true ↔ (i = u ∨ i = v) := fun i => by rw [e, bit_setOf]; simp
    have m1 := (hm fr).1 hfr
    have m2 := (hm la).1 hla'.1
    have hcase : (fr = u ∧ la = v) ∨ (fr = v ∧ la = u) := by
      rcases m1 with m1 | m1 <;> rcases m2 with m2 | m2
      · exact absurd (m2.trans m1.symm) hla'.2
      · exact Or.inl ⟨m1, m2⟩
      · exact Or.inr ⟨m1, m2⟩
      · exact absurd (m2.trans m1.symm) hla'.2
    refine ⟨by simp [hi], fr, [], la, rfl, ⟨fun e => hla'.2 e.symm, hfr, hla'.1, by simp [hi], List.nodup_nil, by simp, ⟨?_, trivial⟩, fun _ => ?_⟩⟩
    · rcases hcase with ⟨rfl, rfl⟩ | ⟨rfl, rfl⟩
      · exact ha
      · exact hg.sym ha
    · refine Nat.eq_of_testBit_eq fun i => Bool.eq_iff_iff.2 ?_
      rw [hm, bit_setOf]
      simp only [List.mem_cons, List.not_mem_nil, or_false, decide_eq_true_eq]
      rcases hcase with ⟨rfl, rfl⟩ | ⟨rfl, rfl⟩
      · exact Iff.rfl
      · exact Or.comm
  · have hfi : p.inner.testBit fr = false := by
      cases e : p.inner.testBit fr with
      | false => rfl
      | true =>
        have := hp.apart fr e
        rw [hp.feetL fr hfr] at this; cases this
    obtain ⟨k1, la, S, k2, k3, k4, k5, k6, k7⟩ := wayL_good (inner := p.inner) (others := sDrop p.feet fr) (fr := fr) hg hp.small (fun v hv => by
        rw [bit_drop] at hv
        simp only [Bool.and_eq_true, Bool.not_eq_true', decide_eq_false_iff_not] at hv
        refine ⟨?_, hv.2⟩
        cases e : p.inner.testBit v with
        | false => rfl
        | true =>
          have := hp.apart v e
          rw [hp.feetL v hv.1] at this; cases this) hfi (hlN fr (hp.feetL fr hfr)) hp.con
      (by
        obtain ⟨_, u, hu, ha⟩ := (hp.feet hi fr).1 hfr
        exact ⟨u, hu, hg.sym ha⟩)
      (by
        obtain ⟨y, hy⟩ := hother
        have hy' := hy
        rw [bit_drop, Bool.and_eq_true] at hy'
        obtain ⟨_, u, hu, ha⟩ := (hp.feet hi y).1 hy'.1
        exact ⟨u, y, hu, ha, hy⟩) 128 (List.replicate near.length 0) (setOf [fr]) [fr] []
      ⟨by simp, rfl, fun i => by rw [bit_setOf]; rfl, fun u hu => Or.inl (by simpa using hu), fun i u h0 hu => by
        obtain ⟨k, rfl⟩ : ∃ k, i = k + 1 := ⟨i - 1, by omega⟩
        simp at hu, by simp [hg.len], by simp⟩ (by simp)
    rw [bit_drop] at k3
    simp only [Bool.and_eq_true, Bool.not_eq_true', decide_eq_false_iff_not] at k3
    rw [if_neg hi]
    refine ⟨by simp [k1], la, S, fr, k2, ⟨k3.2, k3.1, hfr, ⟨fun e => absurd e k4, fun e => absurd e hi⟩, k5, k6, by rw [← k2]; exact k7, fun e => absurd e hi⟩⟩
theorem inside_way (a b : Nat) (S : List Nat) : inside (a :: S ++ [b]) = S := by simp [inside]
theorem Apart2.symm {p q : Piece} (h : Apart2 p q) : Apart2 q p := ⟨fun v hv => h.1 v ⟨hv.2, hv.1⟩, fun a b e => h.2 b a e.symm⟩
theorem apart_at {ps : List Piece} (h : ps.Pairwise Apart2) {i j : Nat} {p q : Piece} (hi : ps[i]? = some p) (hj : ps[j]? = some q) (hij : i ≠ j) : Apart2 p q := by
  obtain ⟨hi', rfl⟩ := List.getElem?_eq_some_iff.1 hi
  obtain ⟨hj', rfl⟩ := List.getElem?_eq_some_iff.1 hj
  rcases Nat.lt_or_gt_of_ne hij with h1 | h1
  · exact List.pairwise_iff_getElem.1 h _ _ hi' hj' h1
  · exact (List.pairwise_iff_getElem.1 h _ _ hj' hi' h1).symm
theorem Lays.step {N laid : Nat} {near : List Nat} {ps : List Piece} (h : Lays N near laid ps) {i : Nat} {p : Piece} (hi : ps[i]? = some p) {a b : Nat} {S : List Nat} (ht : Through near p a S b) :
    Lays N (partWay near (a :: S ++ [b])) (laid ||| setOf S) (ps.eraseIdx i ++ piecesOf (partWay near (a :: S ++ [b])) laid S (sLess p.inner (setOf S))) := by
  have hp := h.pg p (List.mem_of_getElem? hi)
  have hfeet : ∀ {f}, p.feet.testBit f = true → f < N := fun hf => h.lN _ (hp.feetL _ hf)
  obtain ⟨hg', hA⟩ := partWay_good (a :: S ++ [b]) h.g fun v hv => by
    rw [List.cons_append, List.mem_cons, List.mem_append, List.mem_singleton] at hv
    rcases hv with rfl | hv | rfl
    · exact hfeet ht.fa
    · exact hp.small v (ht.inn v hv)
    · exact hfeet ht.fb
  generalize hW : a :: S ++ [b] = W at *
  have hWm : ∀ v ∈ W, p.inner.testBit v = true ∨ laid.testBit v = true := fun v hv => by
    rw [← hW, List.cons_append, List.mem_cons, List.mem_append, List.mem_singleton] at hv
    rcases hv with rfl | hv | rfl
    · exact Or.inr (hp.feetL _ ht.fa)
    · exact Or.inl (ht.inn v hv)
    · exact Or.inr (hp.feetL _ ht.fb)
  have hL : ∀ i, (laid ||| setOf S).testBit i = (laid.testBit i || decide (i ∈ S)) := fun i => by rw [bit_or, bit_setOf]
  have hSl : ∀ v ∈ S, laid.testBit v = false := fun v hv => hp.apart v (ht.inn v hv)
  have hdown : ∀ {u v}, Adj (partWay near W) u v → Adj near u v := fun x => ((hA _ _).1 x).1
  have hup : ∀ {v}, laid.testBit v = true → (laid ||| setOf S).testBit v = true := fun x => by rw [hL, x]; rfl
  have hrest : ∀ v, (sLess p.inner (setOf S)).testBit v = true ↔ (p.inner.testBit v = true ∧ v ∉ S) := fun v => by rw [bit_less, bit_setOf]; simp
  obtain ⟨q1, q2, q3, q4, q5⟩ := piecesOf_good hg' (laid := laid) (laid' := laid ||| setOf S) (rest := sLess p.inner (setOf S)) (fresh := S) ht.nd hSl hL (fun v hv => by
      have := (hrest v).1 hv
      refine ⟨hp.small v this.1, ?_⟩
      rw [hL, hp.apart v this.1]; simp [this.2]) (fun u v hu ha => by
      rcases hp.closed u v ((hrest u).1 hu).1 (hdown ha) with k | k
      · by_cases hs : v ∈ S
        · exact Or.inr (by rw [hL]; simp [hs])
        · exact Or.inl ((hrest v).2 ⟨k, hs⟩)
      · exact Or.inr (hup k))
  generalize piecesOf (partWay near W) laid S (sLess p.inner (setOf S)) = R at *
  have hold : ∀ q ∈ ps.eraseIdx i, q ∈ ps ∧ Apart2 p q := fun q hq => by
    obtain ⟨j, hj, hjq⟩ := List.mem_eraseIdx_iff_getElem?.1 hq
    exact ⟨List.mem_of_getElem? hjq, apart_at h.ap hi hjq (Ne.symm hj)⟩
  have hkeep : ∀ q ∈ ps, q = p ∨ q ∈ ps.eraseIdx i := fun q hq => by
    obtain ⟨j, hj⟩ := List.getElem?_of_mem hq
    by_cases e : j = i
    · subst e
      rw [hi] at hj
      cases hj
      exact Or.inl rfl
    · exact Or.inr (List.mem_eraseIdx_iff_getElem?.2 ⟨j, e, hj⟩)
  have htwo : ∀ u v, setOf [u, v] = setOf [v, u] := fun u v => Nat.eq_of_testBit_eq fun i => by
    rw [bit_setOf, bit_setOf]
    simp only [List.mem_cons, List.not_mem_nil, or_false, decide_eq_decide]
    exact Or.comm
  have hnxt : ∀ {u v}, laid.testBit u = true → laid.testBit v = true → Nxt W u v → p.inner = 0 ∧ p.feet = setOf [u, v] := fun {u v} hu hv hn => by
    by_cases hS : S = []
    · have h0 := ht.nil.1 hS
      refine ⟨h0, ?_⟩
      rw [ht.two h0]
      subst hS
      rw [← hW] at hn
      rcases nxt_cons.1 hn with ⟨rfl, rfl⟩ | hn
      · rfl
      · exact absurd hn nxt_one
    · rw [← hW] at hn
      rcases nxt_inner hS hn with k | k
      · rw [hSl u k] at hu; cases hu
      · rw [hSl v k] at hv; cases hv
  refine ⟨hg', fun v hv => ?_, fun q hq => ?_, ?_, fun u v hu hv ha => ?_, fun v hvN hv => ?_⟩
  · rw [hL, Bool.or_eq_true, decide_eq_true_eq] at hv
    rcases hv with k | k
    · exact h.lN v k
    · exact hp.small v (ht.inn v k)
  · rcases List.mem_append.1 hq with hq | hq
    · obtain ⟨hqp, hap⟩ := hold q hq
      have Q := h.pg q hqp
      have hqW : ∀ v, q.inner.testBit v = true → v ∉ W := fun v hv hm => by
        rcases hWm v hm with k | k
        · exact hap.1 v ⟨k, hv⟩
        · rw [Q.apart v hv] at k; cases k
      have hqS : ∀ v, q.inner.testBit v = true → v ∉ S := fun v hv hm => hap.1 v ⟨ht.inn v hm, hv⟩
      have hto : ∀ {u v}, q.inner.testBit u = true → Adj near u v → Adj (partWay near W) u v := fun hu ha => (hA _ _).2 ⟨ha, fun hn => hqW _ hu hn.mem.1, fun hn => hqW _ hu hn.mem.2⟩
      refine ⟨Q.small, fun v hv => ?_, fun f hf => hup (Q.feetL f hf), fun h0 => ?_, fun x y hx hy => ?_, fun u v hu ha => ?_, fun h0 f => ?_, Q.two⟩
      · rw [hL, Q.apart v hv]; simp [hqS v hv]
      · obtain ⟨u, v, e, ha⟩ := Q.edge h0
        have hu := Q.feetL u (by rw [e, bit_setOf]; simp)
        have hv := Q.feetL v (by rw [e, bit_setOf]; simp)
        refine ⟨u, v, e, (hA u v).2 ⟨ha, fun hn => ?_, fun hn => ?_⟩⟩
        · obtain ⟨k1, k2⟩ := hnxt hu hv hn
          exact hap.2 k1 h0 (k2.trans e.symm)
        · obtain ⟨k1, k2⟩ := hnxt hv hu hn
          exact hap.2 k1 h0 (k2.trans ((htwo v u).trans e.symm))
      · have := Q.con x y hx hy
        clear hy
        induction this with
        | refl k => exact .refl k
        | step k ad k' ih => exact .step ih (hto k.mem.2 ad) k'
      · exact (Q.closed u v hu (hdown ha)).imp id hup
      · rw [Q.feet h0, hL, Bool.or_eq_true, decide_eq_true_eq]
        constructor
        · rintro ⟨k1, u, k2, k3⟩
          exact ⟨Or.inl k1, u, k2, hto k2 k3⟩
        · rintro ⟨k1, u, k2, k3⟩
          refine ⟨?_, u, k2, hdown k3⟩
          rcases k1 with k1 | k1
          · exact k1
          · rcases Q.closed u f k2 (hdown k3) with k | k
            · exact absurd k1 (hqS f k)
            · exact k
    · exact (q1 q hq).1
  · refine List.pairwise_append.2 ⟨h.ap.sublist (List.eraseIdx_sublist ps i), q2, fun q hq r hr => ?_⟩
    obtain ⟨hqp, hap⟩ := hold q hq
    refine ⟨fun v hv => hap.1 v ⟨((hrest v).1 ((q1 r hr).2 v hv.2)).1, hv.1⟩, fun e1 e2 e => ?_⟩
    obtain ⟨u, v, k1, k2⟩ := q3 r hr e2
    have := (h.pg q hqp).feetL u (by rw [e, k1, bit_setOf]; simp)
    rw [hSl u k2] at this; cases this
  · by_cases hSu : u ∈ S
    · obtain ⟨q, k1, k2, k3⟩ := q4 u v hSu hv ha
      exact ⟨q, List.mem_append_right _ k1, k2, k3⟩
    · by_cases hSv : v ∈ S
      · obtain ⟨q, k1, k2, k3⟩ := q4 v u hSv hu (hg'.sym ha)
        exact ⟨q, List.mem_append_right _ k1, k2, k3.trans (htwo v u)⟩
      · rw [hL, Bool.or_eq_true, decide_eq_true_eq] at hu hv
        have hu := hu.resolve_right hSu
        have hv := hv.resolve_right hSv
        obtain ⟨q, k1, k2, k3⟩ := h.cov1 u v hu hv (hdown ha)
        rcases hkeep q k1 with e | k
        · exfalso
          subst e
          have hS := ht.nil.2 k2
          subst hS
          have e2 := ht.two k2
          rw [k3] at e2
          obtain ⟨_, n1, n2⟩ := (hA u v).1 ha
          have m1 : (setOf [a, b]).testBit u = true := by rw [← e2, bit_setOf]; simp
          have m2 : (setOf [a, b]).testBit v = true := by rw [← e2, bit_setOf]; simp
          rw [bit_setOf] at m1 m2
          simp only [List.mem_cons, List.not_mem_nil, or_false, decide_eq_true_eq] at m1 m2
          have hne := hg'.irr ha
          rw [← hW] at n1 n2
          rcases m1 with rfl | rfl <;> rcases m2 with rfl | rfl
          · exact hne rfl
          · exact n1 (nxt_cons.2 (Or.inl ⟨rfl, rfl⟩))
          · exact n2 (nxt_cons.2 (Or.inl ⟨rfl, rfl⟩))
          · exact hne rfl
        · exact ⟨q, List.mem_append_left _ k, k2, k3⟩
  · rw [hL, Bool.or_eq_false_iff, decide_eq_false_iff_not] at hv
    cases hpv : p.inner.testBit v with
    | true =>
      rcases q5 v ((hrest v).2 ⟨hpv, hv.2⟩) with ⟨q, k1, k2⟩ | ⟨c, k1, _⟩
      · exact Or.inl ⟨q, List.mem_append_right _ k1, k2⟩
      · exact Or.inr ⟨c, k1⟩
    | false =>
      rcases h.cov2 v hvN hv.1 with ⟨q, k1, k2⟩ | ⟨c, C⟩
      · rcases hkeep q k1 with e | k
        · rw [e, hpv] at k2; cases k2
        · exact Or.inl ⟨q, List.mem_append_left _ k, k2⟩
      · have hcp : ∀ u, c.testBit u = true → p.inner.testBit u = false := fun u hu => by
          cases hpu : p.inner.testBit u with
          | false => rfl
          | true =>
            exfalso
            have hi0 : p.inner ≠ 0 := fun e => by rw [e] at hpu; simp at hpu
            have hall : ∀ x, p.inner.testBit x = true → c.testBit x = true := fun x hx => (hp.con u x hpu hx).closed (P := fun y => c.testBit y = true) hu fun y z hy hyz hz => by
              rcases C.closed y z hy hyz with k | k
              · exact k
              · rw [hp.apart z hz] at k; cases k
            obtain ⟨f, g, hfg, hf, hgf⟩ := in_two (lt_of_bits fun i hi => Nat.lt_of_lt_of_le (hfeet hi) h.g.le) (hp.two hi0)
            obtain ⟨f1, x, f2, f3⟩ := (hp.feet hi0 f).1 hf
            obtain ⟨g1, y, g2, g3⟩ := (hp.feet hi0 g).1 hgf
            exact hfg (C.one x y f g (hall x f2) (hall y g2) f3 g3 f1 g1)
        have hcl : ∀ {u f}, c.testBit u = true → Adj near u f → (laid ||| setOf S).testBit f = true → laid.testBit f = true := fun {u f} hu ha hf => by
          rw [hL, Bool.or_eq_true, decide_eq_true_eq] at hf
          rcases hf with k | k
          · exact k
          · rcases C.closed u f hu ha with k' | k'
            · have := hcp f k'
              rw [ht.inn f k] at this; cases this
            · exact k'
        refine Or.inr ⟨c, ⟨C.mem, fun u hu => ?_, fun u w hu ha => (C.closed u w hu (hdown ha)).imp id hup, fun u w f g hu hw hf hg hlf hlg => C.one u w f g hu hw (hdown hf) (hdown hg) (hcl hu (hdown hf) hlf) (hcl hw (hdown hg) hlg)⟩⟩
        rw [hL, C.out u hu]
        simp only [Bool.false_or, decide_eq_false_iff_not]
        intro hm
        have := hcp u hu
        rw [ht.inn u hm] at this; cases this
end Go.Proofs.YtekokjechbibdaaDoor

namespace Go.Proofs.YtekokjechbibdaaDoor
theorem count_list {s : Nat} {l : List Nat} (hs : s < 2 ^ 128) (hn : l.Nodup) (h : ∀ i, s.testBit i = true ↔ i ∈ l) : countS s = l.length := by
  unfold countS
  refine List.Perm.length_eq ((List.perm_ext_iff_of_nodup ((elems_sorted s).imp fun h => Nat.ne_of_lt h) hn).2 fun i => ?_)
  rw [mem_elems hs, h]
theorem count_more {s : Nat} {l : List Nat} (hs : s < 2 ^ 128) (hn : l.Nodup) (hl : ∀ v ∈ l, v < 128 ∧ s.testBit v = false) : countS (s ||| setOf l) = countS s + l.length := by
  have hb : ∀ i, (s ||| setOf l).testBit i = true ↔ (s.testBit i = true ∨ i ∈ l) := fun i => by rw [bit_or, bit_setOf]; simp
  refine (count_list (l := elems s ++ l) (lt_of_bits fun i hi => ?_) ?_ fun i => ?_).trans (by rw [List.length_append]; rfl)
  · rcases (hb i).1 hi with h | h
    · exact bit_lt hs h
    · exact (hl i h).1
  · refine List.nodup_append.2 ⟨(elems_sorted s).imp fun h => Nat.ne_of_lt h, hn, fun a ha b hb e => ?_⟩
    subst e
    have := (mem_elems hs).1 ha
    rw [(hl a hb).2] at this; cases this
  · rw [hb, List.mem_append, mem_elems hs]
/-- The lesser and the greater of the feet. -/
def feetU (p : Piece) : Nat := firstS p.feet
def feetV (p : Piece) : Nat := firstS (sDrop p.feet (firstS p.feet))
def codeP (N : Nat) (p : Piece) : Nat := if p.inner = 0 then feetU p * N + feetV p else (N - 1) * N + firstS p.inner
theorem feet_edge {N laid : Nat} {near : List Nat} (hg : NearG N near) (hlN : ∀ v, laid.testBit v = true → v < N) {p : Piece} (hp : PG N near laid p) (h0 : p.inner = 0) : feetU p < feetV p ∧ feetV p < N ∧ p.feet = setOf [feetU p, feetV p] := by
  have hf128 : p.feet < 2 ^ 128 := lt_of_bits fun i hi => Nat.lt_of_lt_of_le (hlN i (hp.feetL i hi)) hg.le
  obtain ⟨k0, k1, _⟩ := way_good hg hlN hp
  obtain ⟨a1, a2⟩ := first_spec hf128 k0
  obtain ⟨b1, b2⟩ := first_spec (less_lt (t := 1 <<< firstS p.feet) hf128) k1
  have b1' : (sDrop p.feet (firstS p.feet)).testBit (feetV p) = true := b1
  rw [bit_drop] at b1'
  simp only [Bool.and_eq_true, Bool.not_eq_true', decide_eq_false_iff_not] at b1'
  have hlt : feetU p < feetV p := by
    have := a2 _ b1'.1
    have := b1'.2
    unfold feetU
    omega
  obtain ⟨u, v, e, ha⟩ := hp.edge h0
  have hm : ∀ i, p.feet.testBit i = true ↔ (i = u ∨ i = v) := fun i => by rw [e, bit_setOf]; simp
  have m1 := (hm (feetU p)).1 a1
  have m2 := (hm (feetV p)).1 b1'.1
  refine ⟨hlt, hlN _ (hp.feetL _ b1'.1), Nat.eq_of_testBit_eq fun i => Bool.eq_iff_iff.2 ?_⟩
  rw [hm, bit_setOf]
  simp only [List.mem_cons, List.not_mem_nil, or_false, decide_eq_true_eq]
  omega
theorem code_lt {N laid : Nat} {near : List Nat} (hg : NearG N near) (hlN : ∀ v, laid.testBit v = true → v < N) {p : Piece} (hp : PG N near laid p) : codeP N p < N * N := by
  unfold codeP
  have hmul : ∀ {a}, a + 1 ≤ N → a * N + N ≤ N * N := fun {a} h => by
    rw [show a * N + N = (a + 1) * N by rw [Nat.add_mul, Nat.one_mul]]
    exact Nat.mul_le_mul_right N h
  split
  · rename_i h0
    obtain ⟨h1, h2, _⟩ := feet_edge hg hlN hp h0
    have := hmul (a := feetU p) (by omega)
    omega
  · rename_i h0
    have h128 : p.inner < 2 ^ 128 := lt_of_bits fun i hi => Nat.lt_of_lt_of_le (hp.small i hi) hg.le
    have h1 := hp.small _ (first_spec h128 h0).1
    have := hmul (a := N - 1) (by omega)
    omega
theorem code_ne {N laid : Nat} {near : List Nat} (hg : NearG N near) (hlN : ∀ v, laid.testBit v = true → v < N) {p q : Piece} (hp : PG N near laid p) (hq : PG N near laid q) (h : Apart2 p q) : codeP N p ≠ codeP N q := by
  unfold codeP
  have hmul : ∀ {a b}, a + 1 ≤ b → a * N + N ≤ b * N := fun {a b} h => by
    rw [show a * N + N = (a + 1) * N by rw [Nat.add_mul, Nat.one_mul]]
    exact Nat.mul_le_mul_right N h
  have h128 : ∀ {p}, PG N near laid p → p.inner < 2 ^ 128 := fun hp => lt_of_bits fun i hi => Nat.lt_of_lt_of_le (hp.small i hi) hg.le
  intro e
  split at e <;> split at e
  · rename_i h0 h1
    obtain ⟨a1, a2, a3⟩ := feet_edge hg hlN hp h0
    obtain ⟨b1, b2, b3⟩ := feet_edge hg hlN hq h1
    refine h.2 h0 h1 ?_
    have e1 : feetU p = feetU q := by
      rcases Nat.lt_trichotomy (feetU p) (feetU q) with k | k | k
      · have := hmul (a := feetU p) (b := feetU q) (by omega); omega
      · exact k
      · have := hmul (a := feetU q) (b := feetU p) (by omega); omega
    rw [e1] at e
    rw [a3, b3, e1, show feetV p = feetV q by omega]
  · rename_i h0 h1
    obtain ⟨a1, a2, _⟩ := feet_edge hg hlN hp h0
    have := hmul (a := feetU p) (b := N - 1) (by omega)
    omega
  · rename_i h0 h1
    obtain ⟨a1, a2, _⟩ := feet_edge hg hlN hq h1
    have := hmul (a := feetU q) (b := N - 1) (by omega)
    omega
  · rename_i h0 h1
    have e1 : firstS p.inner = firstS q.inner := by omega
    exact h.1 _ ⟨(first_spec (h128 hp) h0).1, by rw [e1]; exact (first_spec (h128 hq) h1).1⟩
theorem Lays.few {N laid : Nat} {near : List Nat} {ps : List Piece} (h : Lays N near laid ps) : ps.length ≤ N * N := by
  have := nodup_few (N * N) (ps.map (codeP N)) ?_ ?_
  · simpa using this
  · unfold List.Nodup
    rw [List.pairwise_map]
    exact h.ap.imp_of_mem fun {p q} hp hq k => code_ne h.g h.lN (h.pg p hp) (h.pg q hq) k
  · intro x hx
    obtain ⟨p, hp, rfl⟩ := List.mem_map.1 hx
    exact code_lt h.g h.lN (h.pg p hp)
/-- How many of the edges are left. -/
def left (es : List E2) (near : List Nat) : Nat := es.countP fun e => (at' near e.1).testBit e.2
theorem left_part {N : Nat} {near : List Nat} (hg : NearG N near) {es : List E2} (hn : es.Nodup) (hlt : ∀ e ∈ es, e.1 < e.2) {u v : Nat} (hu : u < N) (hv : v < N) : left es near ≤ left es (part near u v) + 1 := by
  have hone : es.countP (fun e => decide (e = (min u v, max u v))) ≤ 1 := by
    have h1 : es.countP (fun e => decide (e = (min u v, max u v))) = es.count (min u v, max u v) := by
      rw [List.count_eq_countP]
      refine List.countP_congr fun e _ => ?_
      simp
    rw [h1]
    exact List.nodup_iff_count.1 hn _
  have key : ∀ (l : List E2), (∀ e ∈ l, e.1 < e.2) → l.countP (fun e => (at' near e.1).testBit e.2) ≤ l.countP (fun e => (at' (part near u v) e.1).testBit e.2) + l.countP (fun e => decide (e = (min u v, max u v))) := by
    intro l
    induction l with
    | nil => simp
    | cons e l ih =>
      intro hl
      have ih := ih fun x hx => hl x (List.mem_cons_of_mem _ hx)
      have hel := hl e (by simp)
      rw [List.countP_cons, List.countP_cons, List.countP_cons]
      have : (at' near e.1).testBit e.2 = true → (at' (part near u v) e.1).testBit e.2 = true ∨ e = (min u v, max u v) := fun ha => by
        by_cases hb : (at' (part near u v) e.1).testBit e.2 = true
        · exact Or.inl hb
        · refine Or.inr ?_
          have h2 : ¬ Adj (part near u v) e.1 e.2 := hb
          rw [adj_part (by rw [hg.len]; exact hu) (by rw [hg.len]; exact hv)] at h2
          have h3 : Adj near e.1 e.2 := ha
          have h4 : (e.1 = u ∧ e.2 = v) ∨ (e.1 = v ∧ e.2 = u) := by
            refine Classical.byContradiction fun hn => h2 ⟨h3, fun k => hn (Or.inl k), fun k => hn (Or.inr k)⟩
          obtain ⟨x, y⟩ := e
          simp only at h4 hel
          simp only [Prod.mk.injEq]
          omega
      by_cases h1 : (at' near e.1).testBit e.2 = true
      · rcases this h1 with k | k
        · simp only [h1, k, if_true]
          omega
        · simp only [h1, if_true]
          rw [if_pos (show decide (e = (min u v, max u v)) = true by simp [← k])]
          omega
      · simp only [h1, Bool.false_eq_true, if_false]
        omega
  have := key es hlt
  unfold left
  omega
theorem left_way {N : Nat} {es : List E2} (hn : es.Nodup) (hlt : ∀ e ∈ es, e.1 < e.2) : ∀ (l : List Nat) {near : List Nat}, NearG N near → (∀ v ∈ l, v < N) → left es near ≤ left es (partWay near l) + (l.length - 1)
  | [], _, _, _ => by simp [partWay]
  | [_], _, _, _ => by simp [partWay]
  | a :: b :: l, near, hg, hl => by
    have ha := hl a (by simp)
    have hb := hl b (by simp)
    have h1 := left_part hg hn hlt ha hb
    have h2 := left_way hn hlt (b :: l) (hg.part ha hb) fun v hv => hl v (List.mem_cons_of_mem _ hv)
    rw [partWay]
    simp only [List.length_cons] at h2 ⊢
    omega
end Go.Proofs.YtekokjechbibdaaDoor

namespace Go.Proofs.YtekokjechbibdaaDoor
theorem sum_set (g : Face → Nat) (f : Face) : ∀ (F : List Face) (r : Nat), r < F.length → ((F.set r f).map g).sum + g (F.getD r ⟨[], 0⟩) = (F.map g).sum + g f
  | [], _, h => by simp at h
  | x :: F, 0, _ => by simp; omega
  | x :: F, r + 1, h => by
    have := sum_set g f F r (by simpa using h)
    simp only [List.set_cons_succ, List.map_cons, List.sum_cons, List.getD_cons_succ]
    omega
theorem sum_three : ∀ (F : List Face), (∀ f ∈ F, 3 ≤ f.walk.length) → 3 * F.length ≤ (F.map (·.walk.length)).sum
  | [], _ => by simp
  | x :: F, h => by
    have h1 := h x (by simp)
    have h2 := sum_three F fun f hf => h f (List.mem_cons_of_mem _ hf)
    simp only [List.length_cons, List.map_cons, List.sum_cons]
    omega
/-- The faces of what is laid, and its E edges: no edge is left between nodes that come one behind the other on a face. -/
structure FG (near : List Nat) (laid : Nat) (F : List Face) (E : Nat) : Prop where
  nodes : ∀ f ∈ F, f.nodes = setOf f.walk
  nd : ∀ f ∈ F, f.walk.Nodup
  on : ∀ f ∈ F, ∀ v ∈ f.walk, laid.testBit v = true
  ring : ∀ f ∈ F, RingP (fun x y => ¬ Adj near x y) f.walk
  long : (∀ f ∈ F, 3 ≤ f.walk.length) ∨ (F.length = 1 ∧ countS laid = 2 ∧ E = 1)
  sum : (F.map (·.walk.length)).sum = 2 * E
  euler : F.length + countS laid = E + 2
theorem FG.bound {near : List Nat} {laid E : Nat} {F : List Face} (h : FG near laid F E) : F.length ≤ 2 * countS laid ∧ (E + 6 ≤ 3 * countS laid ∨ (E = 1 ∧ countS laid = 2)) := by
  have h1 := h.euler
  rcases h.long with k | ⟨k1, k2, k3⟩
  · have := sum_three F k
    rw [h.sum] at this
    omega
  · omega
theorem chn_mono {P Q : Nat → Nat → Prop} (h : ∀ x y, P x y → Q x y) : ∀ {l : List Nat}, Chn P l → Chn Q l
  | [], _ => trivial
  | [_], _ => trivial
  | _ :: _ :: _, hc => ⟨h _ _ hc.1, chn_mono h hc.2⟩
theorem chn_of_nxt {P : Nat → Nat → Prop} : ∀ {l : List Nat}, (∀ u v, Nxt l u v → P u v) → Chn P l
  | [], _ => trivial
  | [_], _ => trivial
  | _ :: _ :: _, h => ⟨h _ _ (nxt_cons.2 (Or.inl ⟨rfl, rfl⟩)), chn_of_nxt fun u v k => h u v (nxt_cons.2 (Or.inr k))⟩
theorem idx_at {l : List Nat} {a : Nat} (h : a ∈ l) : l[l.idxOf a]? = some a := by
  have h1 := List.idxOf_lt_length_iff.2 h
  rw [List.getElem?_eq_getElem h1]
  simp
theorem FG.step {N : Nat} {near : List Nat} {laid E : Nat} {F : List Face} (hg : NearG N near) (hlN : ∀ v, laid.testBit v = true → v < N) (h : FG near laid F E) {room : Nat} (hr : room < F.length) {p : Piece} (hp : PG N near laid p) {a b : Nat} {S : List Nat} (ht : Through near p a S b)
    (ha : a ∈ (F.getD room ⟨[], 0⟩).walk) (hb : b ∈ (F.getD room ⟨[], 0⟩).walk) :
    FG (partWay near (a :: S ++ [b])) (laid ||| setOf S) (cross F room (a :: S ++ [b])) (E + (S.length + 1)) := by
  have hfeet : ∀ {f}, p.feet.testBit f = true → f < N := fun hf => hlN _ (hp.feetL _ hf)
  obtain ⟨hg', hA⟩ := partWay_good (a :: S ++ [b]) hg fun v hv => by
    rw [List.cons_append, List.mem_cons, List.mem_append, List.mem_singleton] at hv
    rcases hv with rfl | hv | rfl
    · exact hfeet ht.fa
    · exact hp.small v (ht.inn v hv)
    · exact hfeet ht.fb
  have hL : ∀ i, (laid ||| setOf S).testBit i = (laid.testBit i || decide (i ∈ S)) := fun i => by rw [bit_or, bit_setOf]
  have hSl : ∀ v ∈ S, v < 128 ∧ laid.testBit v = false := fun v hv => ⟨Nat.lt_of_lt_of_le (hp.small v (ht.inn v hv)) hg.le, hp.apart v (ht.inn v hv)⟩
  have hl128 : laid < 2 ^ 128 := lt_of_bits fun i hi => Nat.lt_of_lt_of_le (hlN i hi) hg.le
  have hcount : countS (laid ||| setOf S) = countS laid + S.length := count_more hl128 ht.nd hSl
  have hF0 : F.getD room ⟨[], 0⟩ ∈ F := by
    rw [List.getD_eq_getElem?_getD, List.getElem?_eq_getElem hr]
    exact List.getElem_mem hr
  have hchn := ht.chn
  have hwayP : Chn (fun x y => ¬ Adj (partWay near (a :: S ++ [b])) x y) (a :: S ++ [b]) := chn_of_nxt fun u v hn k => ((hA u v).1 k).2.1 hn
  have hmono : ∀ x y, ¬ Adj near x y → ¬ Adj (partWay near (a :: S ++ [b])) x y := fun x y k k' => k ((hA x y).1 k').1
  have hcr : cross F room (a :: S ++ [b]) = F.set room (faceOf (along (F.getD room ⟨[], 0⟩).walk ((F.getD room ⟨[], 0⟩).walk.idxOf b) ((F.getD room ⟨[], 0⟩).walk.idxOf a) ++ S)) ++ [faceOf (along (F.getD room ⟨[], 0⟩).walk ((F.getD room ⟨[], 0⟩).walk.idxOf a) ((F.getD room ⟨[], 0⟩).walk.idxOf b) ++ S.reverse)] := by
    have e1 : (a :: S ++ [b]).getLastD 0 = b := by rw [List.getLastD_eq_getLast?, List.getLast?_append]; rfl
    unfold cross
    simp only [inside_way, e1]
    rfl
  rw [hcr]
  have hnd := h.nd _ hF0
  have hon := h.on _ hF0
  have hring := h.ring _ hF0
  have hsum := sum_set (·.walk.length) (faceOf (along (F.getD room ⟨[], 0⟩).walk ((F.getD room ⟨[], 0⟩).walk.idxOf b) ((F.getD room ⟨[], 0⟩).walk.idxOf a) ++ S)) F room hr
  clear hcr
  generalize (F.getD room ⟨[], 0⟩).walk = W0 at ha hb hnd hon hring hsum ⊢
  obtain ⟨X, Y, T⟩ := along_two (idx_at ha) (idx_at hb) (fun e => ht.ne (by
    have h1 := idx_at ha
    have h2 := idx_at hb
    rw [e, h2] at h1
    exact (Option.some.inj h1).symm))
  generalize W0.idxOf a = i at T hsum ⊢
  generalize W0.idxOf b = j at T hsum ⊢
  have hsym : ∀ x y, ¬ Adj (partWay near (a :: S ++ [b])) x y → ¬ Adj (partWay near (a :: S ++ [b])) y x := fun x y k k' => k (hg'.sym k')
  have hring' : RingP (fun x y => ¬ Adj (partWay near (a :: S ++ [b])) x y) W0 := chn_mono hmono hring
  have r1 := T.one hring' hwayP
  have r2 := T.other hsym hring' hwayP
  obtain ⟨n1, n2⟩ := T.nodup hnd ht.nd fun x hx hx' => by
    have := hon x hx'
    rw [(hSl x hx).2] at this; cases this
  obtain ⟨l1, l2, l3⟩ := T.len
  have hm : ∀ x, (x ∈ along W0 j i → x ∈ W0) ∧ (x ∈ along W0 i j → x ∈ W0) := fun x => by
    have hpm := fun y => (T.perm.mem_iff (a := y)).1
    refine ⟨fun k => hpm x ?_, fun k => hpm x ?_⟩
    · rw [T.ji] at k
      simp at k ⊢
      rcases k with k | k | k
      · exact Or.inl k
      · exact Or.inr (Or.inl k)
      · exact Or.inr (Or.inr (Or.inl k))
    · rw [T.ij] at k
      simp at k ⊢
      rcases k with k | k | k
      · exact Or.inr (Or.inr (Or.inl k))
      · exact Or.inr (Or.inr (Or.inr k))
      · exact Or.inl k
  have hXY : 1 ≤ X.length + S.length ∧ 1 ≤ Y.length + S.length := by
    by_cases hS : S = []
    · subst hS
      have hab : Adj near a b := hchn.1
      obtain ⟨c1, c2⟩ := T.chains hring
      have hX : X ≠ [] := fun e => by subst e; exact c1.1 (hg.sym hab)
      have hY : Y ≠ [] := fun e => by subst e; exact c2.1 hab
      have := List.length_pos_iff.2 hX
      have := List.length_pos_iff.2 hY
      simp only [List.length_nil]
      omega
    · have := List.length_pos_iff.2 hS
      omega
  have hmem : ∀ f ∈ F.set room (faceOf (along W0 j i ++ S)) ++ [faceOf (along W0 i j ++ S.reverse)], f ∈ F ∨ f = faceOf (along W0 j i ++ S) ∨ f = faceOf (along W0 i j ++ S.reverse) := fun f hf => by
    rcases List.mem_append.1 hf with k | k
    · rcases List.mem_or_eq_of_mem_set k with k | k
      · exact Or.inl k
      · exact Or.inr (Or.inl k)
    · exact Or.inr (Or.inr (List.mem_singleton.1 k))
  have hlaidS : ∀ v, v ∈ S → (laid ||| setOf S).testBit v = true := fun v hv => by rw [hL]; simp [hv]
  have hlaidL : ∀ v, laid.testBit v = true → (laid ||| setOf S).testBit v = true := fun v hv => by rw [hL, hv]; rfl
  refine ⟨fun f hf => ?_, fun f hf => ?_, fun f hf v hv => ?_, fun f hf => ?_, Or.inl fun f hf => ?_, ?_, ?_⟩
  · rcases hmem f hf with k | rfl | rfl
    · exact h.nodes f k
    · rfl
    · rfl
  · rcases hmem f hf with k | rfl | rfl
    · exact h.nd f k
    · exact n1
    · exact n2
  · rcases hmem f hf with k | rfl | rfl
    · exact hlaidL v (h.on f k v hv)
    · rcases List.mem_append.1 hv with k | k
      · exact hlaidL v (hon v ((hm v).1 k))
      · exact hlaidS v k
    · rcases List.mem_append.1 hv with k | k
      · exact hlaidL v (hon v ((hm v).2 k))
      · exact hlaidS v (List.mem_reverse.1 k)
  · rcases hmem f hf with k | rfl | rfl
    · exact chn_mono hmono (h.ring f k)
    · exact r1
    · exact r2
  · have q1 : 3 ≤ (faceOf (along W0 j i ++ S)).walk.length := by
      show 3 ≤ (along W0 j i ++ S).length
      rw [List.length_append, l1]; omega
    have q2 : 3 ≤ (faceOf (along W0 i j ++ S.reverse)).walk.length := by
      show 3 ≤ (along W0 i j ++ S.reverse).length
      rw [List.length_append, List.length_reverse, l2]; omega
    rcases h.long with hl | ⟨hl, _⟩
    · rcases hmem f hf with k | rfl | rfl
      · exact hl f k
      · exact q1
      · exact q2
    · obtain ⟨g, hgF⟩ := List.length_eq_one_iff.1 hl
      have hr0 : room = 0 := by omega
      rw [hgF, hr0] at hf
      simp only [List.set_cons_zero, List.cons_append, List.nil_append, List.mem_cons, List.not_mem_nil, or_false] at hf
      rcases hf with rfl | rfl
      · exact q1
      · exact q2
  · rw [List.map_append, List.sum_append]
    have e1 : (faceOf (along W0 j i ++ S)).walk.length = X.length + 2 + S.length := by
      show (along W0 j i ++ S).length = _
      rw [List.length_append, l1]
    have e2 : (List.map (·.walk.length) [faceOf (along W0 i j ++ S.reverse)]).sum = Y.length + 2 + S.length := by
      simp only [List.map_cons, List.map_nil, List.sum_cons, List.sum_nil, Nat.add_zero]
      show (along W0 i j ++ S.reverse).length = _
      rw [List.length_append, List.length_reverse, l2]
    rw [e2]
    rw [e1, h.sum] at hsum
    omega
  · rw [List.length_append, List.length_set, hcount]
    have := h.euler
    simp only [List.length_cons, List.length_nil]
    omega
end Go.Proofs.YtekokjechbibdaaDoor
