/- The way of two colours from a node at which the other one is free: it meets no node twice, and is shut. -/
import Derived.Test.YtdnmoifbkojnlaaVizM
namespace Go.Proofs.Ytdnmoifbkojnlaa

/-- The colour of step i. -/
def alt (a b i : Nat) : Nat := if i % 2 = 0 then a else b
/-- L is a way from u: step i goes from L[i] to L[i + 1] by the colour alt a b i. -/
def Way (n : Nat) (D : Nat → Nat → Int) (a b u : Nat) (L : List Nat) : Prop := 0 < L.length ∧ L.getD 0 0 = u ∧ (∀ i, i < L.length → L.getD i 0 < n) ∧ ∀ i, i + 1 < L.length → D (L.getD i 0) (alt a b i) = (L.getD (i + 1) 0 : Nat)
theorem alt_lt {a b i k : Nat} (ha : a < k) (hb : b < k) : alt a b i < k := by
  unfold alt
  split
  · exact ha
  · exact hb
/-- Two places of the same evenness with the same node: there is u itself further on. -/
theorem way_even {n k : Nat} {D : Nat → Nat → Int} (h : Dye n k D) {a b u : Nat} (ha : a < k) (hb : b < k) {L : List Nat} (hw : Way n D a b u L) (hf : D u b = -1) : ∀ i j, i < j → j < L.length → i % 2 = j % 2 → L.getD i 0 ≠ L.getD j 0
  | 0, j, hij, hj, he, e => by
    obtain ⟨j, rfl⟩ : ∃ j', j = j' + 1 := ⟨j - 1, by omega⟩
    have h1 := h.back (hw.2.2.1 j (by omega)) (alt_lt (i := j) ha hb) (hw.2.2.2 j hj)
    rw [← e, hw.2.1] at h1
    have : alt a b j = b := by unfold alt; rw [if_neg (by omega)]
    rw [this, hf] at h1
    omega
  | i + 1, j, hij, hj, he, e => by
    obtain ⟨j, rfl⟩ : ∃ j', j = j' + 1 := ⟨j - 1, by omega⟩
    have h1 := (h.back (hw.2.2.1 i (by omega)) (alt_lt (i := i) ha hb) (hw.2.2.2 i (by omega))).2.2
    have h2 := (h.back (hw.2.2.1 j (by omega)) (alt_lt (i := j) ha hb) (hw.2.2.2 j hj)).2.2
    have ea : alt a b i = alt a b j := by unfold alt; rw [show i % 2 = j % 2 by omega]
    rw [e, ea, h2] at h1
    exact way_even h ha hb hw hf i j (by omega) (by omega) (by omega) (by omega)
/-- Two places of other evenness. -/
theorem way_odd {n k : Nat} {D : Nat → Nat → Int} (h : Dye n k D) {a b u : Nat} (ha : a < k) (hb : b < k) {L : List Nat} (hw : Way n D a b u L) : ∀ d i, i + (2 * d + 1) < L.length → L.getD i 0 ≠ L.getD (i + (2 * d + 1)) 0
  | 0, i, hj, e => by
    have h1 := h.back (hw.2.2.1 i (by omega)) (alt_lt (i := i) ha hb) (hw.2.2.2 i (by omega))
    exact h1.2.1 e.symm
  | d + 1, i, hj, e => by
    have h1 := hw.2.2.2 i (by omega)
    have h2 := (h.back (hw.2.2.1 (i + (2 * (d + 1))) (by omega)) (alt_lt (i := i + (2 * (d + 1))) ha hb) (hw.2.2.2 (i + (2 * (d + 1))) (by omega))).2.2
    have ea : alt a b (i + (2 * (d + 1))) = alt a b i := by unfold alt; rw [show (i + (2 * (d + 1))) % 2 = i % 2 by omega]
    rw [ea, show i + 2 * (d + 1) + 1 = i + (2 * (d + 1) + 1) by omega, ← e, h1] at h2
    refine way_odd h ha hb hw d (i + 1) (by omega) ?_
    rw [show i + 1 + (2 * d + 1) = i + 2 * (d + 1) by omega]
    omega
theorem way_ne {n k : Nat} {D : Nat → Nat → Int} (h : Dye n k D) {a b u : Nat} (ha : a < k) (hb : b < k) {L : List Nat} (hw : Way n D a b u L) (hf : D u b = -1) {i j : Nat} (hij : i < j) (hj : j < L.length) : L.getD i 0 ≠ L.getD j 0 := by
  by_cases he : i % 2 = j % 2
  · exact way_even h ha hb hw hf i j hij hj he
  · obtain ⟨d, rfl⟩ : ∃ d, j = i + (2 * d + 1) := ⟨(j - i) / 2, by omega⟩
    exact way_odd h ha hb hw d i hj
theorem Way.snoc {n k : Nat} {D : Nat → Nat → Int} (h : Dye n k D) {a b u : Nat} (ha : a < k) (hb : b < k) {L : List Nat} (hw : Way n D a b u L) {v : Nat} (hv : D (L.getD (L.length - 1) 0) (alt a b (L.length - 1)) = (v : Int)) : Way n D a b u (L ++ [v]) := by
  obtain ⟨h0, h1, h2, h3⟩ := hw
  have hvn := (h.back (h2 _ (by omega)) (alt_lt ha hb) hv).1
  refine ⟨by simp, by rw [getD_left h0]; exact h1, fun i hi => ?_, fun i hi => ?_⟩
  · rw [List.length_append] at hi
    by_cases e : i = L.length
    · subst e; rw [getD_last]; exact hvn
    · have hi' : i < L.length := by simp at hi; omega
      rw [getD_left hi']; exact h2 i hi'
  · rw [List.length_append] at hi
    have hi2 : i < L.length := by simp at hi; omega
    rw [getD_left hi2]
    by_cases e : i + 1 = L.length
    · rw [e, getD_last, show i = L.length - 1 by omega]; exact hv
    · rw [getD_left (by omega)]; exact h3 i (by omega)
theorem nodup_lenN : ∀ (l m : List Nat), l.Nodup → (∀ e ∈ l, e ∈ m) → l.length ≤ m.length
  | [], _, _, _ => Nat.zero_le _
  | a :: l, m, hn, hs => by
    have hn' := List.nodup_cons.1 hn
    have ha := hs a (by simp)
    have h := nodup_lenN l (m.erase a) hn'.2 (fun e he => (List.mem_erase_of_ne (fun (h : e = a) => hn'.1 (h ▸ he))).2 (hs e (by simp [he])))
    rw [List.length_erase_of_mem ha] at h
    have : 0 < m.length := List.length_pos_of_mem ha
    simp
    omega
/-- A way of distinct nodes is no longer than there are nodes. -/
theorem nodup_below {n : Nat} : ∀ (L : List Nat), (∀ i, i < L.length → L.getD i 0 < n) → (∀ i j, i < j → j < L.length → L.getD i 0 ≠ L.getD j 0) → L.length ≤ n := fun L h1 h2 => by
  have hnd : L.Nodup := by
    unfold List.Nodup
    rw [List.pairwise_iff_getElem]
    intro i j hi hj hij e
    refine h2 i j hij hj ?_
    simp only [List.getD, List.getElem?_eq_getElem hi, List.getElem?_eq_getElem hj, Option.getD_some]
    exact e
  have hsub : ∀ x ∈ L, x ∈ List.range n := fun x hx => by
    obtain ⟨i, hi, rfl⟩ := List.getElem_of_mem hx
    have := h1 i hi
    simp only [List.getD, List.getElem?_eq_getElem hi, Option.getD_some] at this
    exact List.mem_range.2 this
  have := nodup_lenN L (List.range n) hnd hsub
  simpa using this
theorem mem_getD {L : List Nat} {x : Nat} (h : x ∈ L) : ∃ i, i < L.length ∧ L.getD i 0 = x := by
  obtain ⟨i, hi, rfl⟩ := List.getElem_of_mem h
  exact ⟨i, hi, by simp [List.getD, List.getElem?_eq_getElem hi]⟩
theorem getD_mem {L : List Nat} {i : Nat} (h : i < L.length) : L.getD i 0 ∈ L := by
  simp only [List.getD, List.getElem?_eq_getElem h, Option.getD_some]
  exact List.getElem_mem h
theorem alt_two (a b i : Nat) : (alt a b i = a ∧ alt a b (i + 1) = b) ∨ (alt a b i = b ∧ alt a b (i + 1) = a) := by
  unfold alt
  by_cases h : i % 2 = 0
  · exact Or.inl ⟨if_pos h, if_neg (by omega)⟩
  · exact Or.inr ⟨if_neg h, if_pos (by omega)⟩
/-- A way that has ended is shut. -/
theorem way_shut {n k : Nat} {D : Nat → Nat → Int} (h : Dye n k D) {a b u : Nat} (ha : a < k) (hb : b < k) {L : List Nat} (hw : Way n D a b u L) (hf : D u b = -1) (hend : D (L.getD (L.length - 1) 0) (alt a b (L.length - 1)) = -1) : Shut n D (fun x => L.contains x) a b := by
  obtain ⟨h0, h1, h2, h3⟩ := hw
  have key : ∀ x v : Nat, (D x a = (v : Int) ∨ D x b = (v : Int)) → x ∈ L → v ∈ L := fun x v hv hx => by
    obtain ⟨i, hi, rfl⟩ := mem_getD hx
    have fwd : D (L.getD i 0) (alt a b i) = (v : Int) → v ∈ L := fun e => by
      by_cases hl : i + 1 < L.length
      · have := h3 i hl
        rw [e] at this
        have e2 : v = L.getD (i + 1) 0 := by omega
        rw [e2]; exact getD_mem hl
      · rw [show i = L.length - 1 by omega, hend] at e
        omega
    cases i with
    | zero =>
      rw [h1] at hv fwd
      rcases hv with hv | hv
      · exact fwd hv
      · rw [hf] at hv; omega
    | succ i =>
      have hb1 := (h.back (h2 i (by omega)) (alt_lt (i := i) ha hb) (h3 i hi)).2.2
      have bwd : D (L.getD (i + 1) 0) (alt a b i) = (v : Int) → v ∈ L := fun e => by
        rw [e] at hb1
        have e2 : v = L.getD i 0 := by omega
        rw [e2]; exact getD_mem (by omega)
      rcases alt_two a b i with ⟨e1, e2⟩ | ⟨e1, e2⟩
      · rw [e1] at bwd; rw [e2] at fwd
        rcases hv with hv | hv
        · exact bwd hv
        · exact fwd hv
      · rw [e1] at bwd; rw [e2] at fwd
        rcases hv with hv | hv
        · exact fwd hv
        · exact bwd hv
  intro x v hx hv
  simp only [List.contains_iff_mem]
  constructor
  · exact key x v hv
  · intro hm
    refine key v x ?_ hm
    rcases hv with hv | hv
    · exact Or.inl (h.back hx ha hv).2.2
    · exact Or.inr (h.back hx hb hv).2.2
/-- At one node at most of a way that goes on from u the first colour is free: the last. -/
theorem way_free {n k : Nat} {D : Nat → Nat → Int} (h : Dye n k D) {a b u : Nat} (ha : a < k) (hb : b < k) {L : List Nat} (hw : Way n D a b u L) (hl : 1 < L.length) {x : Nat} (hx : x ∈ L) (hfx : D x a = -1) : x = L.getD (L.length - 1) 0 := by
  obtain ⟨h0, h1, h2, h3⟩ := hw
  obtain ⟨i, hi, rfl⟩ := mem_getD hx
  by_cases hlast : i + 1 < L.length
  · exfalso
    have f := h3 i hlast
    cases i with
    | zero =>
      have : alt a b 0 = a := rfl
      rw [this, hfx] at f
      omega
    | succ i =>
      have hb1 := (h.back (h2 i (by omega)) (alt_lt (i := i) ha hb) (h3 i hi)).2.2
      rcases alt_two a b i with ⟨e1, e2⟩ | ⟨e1, e2⟩
      · rw [e1, hfx] at hb1; omega
      · rw [e2, hfx] at f; omega
  · rw [show i = L.length - 1 by omega]
end Go.Proofs.Ytdnmoifbkojnlaa
