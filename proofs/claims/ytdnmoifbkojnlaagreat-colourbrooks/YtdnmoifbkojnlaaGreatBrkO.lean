/- Brooks: where no node is a cut, a node and two nodes near it without an edge, without which all others hang together. Brooks: colours that are given one node after the other. -/
import Derived.Test.YtdnmoifbkojnlaaGreatRows
namespace Go.Proofs.YtdnmoifbkojnlaaGreat

/-- A way from x to y through nodes of S. -/
inductive Cn (e : Nat → Nat → Prop) (S : Nat → Prop) (x : Nat) : Nat → Prop
  | refl : S x → Cn e S x x
  | step {y z : Nat} : Cn e S x y → e y z → S z → Cn e S x z
section
variable {e : Nat → Nat → Prop} {S S' : Nat → Prop} {x y z : Nat}
theorem Cn.left (h : Cn e S x y) : S x := by
  induction h with
  | refl h => exact h
  | step _ _ _ ih => exact ih
theorem Cn.right (h : Cn e S x y) : S y := by
  cases h with
  | refl h => exact h
  | step _ _ h => exact h
theorem Cn.trans (h : Cn e S x y) (k : Cn e S y z) : Cn e S x z := by
  induction k with
  | refl _ => exact h
  | step _ h1 h2 ih => exact Cn.step ih h1 h2
theorem Cn.symm (hs : ∀ a b, e a b → e b a) (h : Cn e S x y) : Cn e S y x := by
  induction h with
  | refl h => exact Cn.refl h
  | step h1 h2 h3 ih => exact Cn.trans (Cn.step (Cn.refl h3) (hs _ _ h2) h1.right) ih
theorem Cn.mono (hm : ∀ a, S a → S' a) (h : Cn e S x y) : Cn e S' x y := by
  induction h with
  | refl h => exact Cn.refl (hm _ h)
  | step _ h2 h3 ih => exact Cn.step ih h2 (hm _ h3)
/-- A way keeps off c, or it comes to it. -/
theorem Cn.off {c : Nat} (h : Cn e S x y) (hx : x ≠ c) : Cn e (fun a => S a ∧ a ≠ c) x y ∨ ∃ u, Cn e (fun a => S a ∧ a ≠ c) x u ∧ e u c := by
  induction h with
  | refl h => exact Or.inl (Cn.refl ⟨h, hx⟩)
  | @step y z h1 h2 h3 ih =>
    rcases ih with ih | ih
    · by_cases hz : z = c
      · subst hz; exact Or.inr ⟨y, ih, h2⟩
      · exact Or.inl (Cn.step ih h2 ⟨h3, hz⟩)
    · exact Or.inr ih
theorem Cn.to {c : Nat} (h : Cn e S x c) (hx : x ≠ c) : ∃ u, Cn e (fun a => S a ∧ a ≠ c) x u ∧ e u c := by
  rcases h.off hx with h | h
  · exact absurd rfl h.right.2
  · exact h
/-- The same way, where all of it is in another set too. -/
theorem Cn.also (h : Cn e S x y) (hm : ∀ u, Cn e S x u → S' u) : Cn e (fun a => S a ∧ S' a) x y := by
  induction h with
  | refl h => exact Cn.refl ⟨h, hm _ (Cn.refl h)⟩
  | step h1 h2 h3 ih => exact Cn.step ih h2 ⟨h3, hm _ (Cn.step h1 h2 h3)⟩
end
/-- All of S hangs together. -/
def Hang (e : Nat → Nat → Prop) (S : Nat → Prop) : Prop := ∀ x y, S x → S y → Cn e S x y
noncomputable def szOf (N : Nat) (K : Nat → Prop) : Nat := by
  classical
  exact ((List.range N).filter (fun z => decide (K z))).length
theorem filter_ltB {p q : Nat → Bool} : ∀ (l : List Nat), (∀ z, p z = true → q z = true) → (∃ z, z ∈ l ∧ q z = true ∧ p z = false) → (l.filter p).length < (l.filter q).length
  | [], _, h => by obtain ⟨z, hz, _⟩ := h; simp at hz
  | a :: l, hm, h => by
    obtain ⟨z, hz, h1, h2⟩ := h
    have hle : (l.filter p).length ≤ (l.filter q).length := by
      clear hz h1 h2
      induction l with
      | nil => simp
      | cons b l ih =>
        rw [List.filter_cons, List.filter_cons]
        cases hp : p b with
        | true =>
          rw [hm b hp]
          simp only [if_true, List.length_cons]
          omega
        | false =>
          simp only [Bool.false_eq_true, if_false]
          split
          · simp only [List.length_cons]; omega
          · exact ih
    rw [List.filter_cons, List.filter_cons]
    by_cases hza : z = a
    · subst hza
      rw [h1, h2]
      simp only [if_true, Bool.false_eq_true, if_false, List.length_cons]
      omega
    · have hzl : z ∈ l := by
        rcases List.mem_cons.1 hz with h | h
        · exact absurd h hza
        · exact h
      have ih := filter_ltB l hm ⟨z, hzl, h1, h2⟩
      cases hp : p a with
      | true =>
        rw [hm a hp]
        simp only [if_true, List.length_cons]
        omega
      | false =>
        simp only [Bool.false_eq_true, if_false]
        split
        · simp only [List.length_cons]; omega
        · exact ih
theorem szOf_lt {N : Nat} {K K' : Nat → Prop} (hm : ∀ z, K' z → K z) {z : Nat} (hz : z < N) (h1 : K z) (h2 : ¬ K' z) : szOf N K' < szOf N K := by
  classical
  unfold szOf
  refine filter_ltB _ (fun z hp => ?_) ⟨z, List.mem_range.2 hz, ?_, ?_⟩
  · simp only [decide_eq_true_eq] at hp ⊢
    exact hm z hp
  · simpa using h1
  · simpa using h2
section
variable {N : Nat} {e : Nat → Nat → Prop}
/-- In a piece that is cut off by one node besides x there is a node near x without which the rest still hangs together. -/
theorem pick (hs : ∀ a b, e a b → e b a) (hcut : ∀ c, c < N → Hang e (fun a => a < N ∧ a ≠ c)) {x : Nat} (hx : x < N) :
    ∀ (m y p : Nat), y < N → y ≠ x → p < N ∧ p ≠ x → p ≠ y → szOf N (Cn e (fun a => (a < N ∧ a ≠ x) ∧ a ≠ y) p) = m →
      ∃ a, Cn e (fun a => (a < N ∧ a ≠ x) ∧ a ≠ y) p a ∧ e x a ∧ Hang e (fun b => (b < N ∧ b ≠ x) ∧ b ≠ a) := by
  intro m
  induction m using Nat.strongRecOn with
  | _ m ih =>
    intro y p hy hyx hp hpy hm
    have hH := hcut x hx
    by_cases hall : ∃ a, Cn e (fun a => (a < N ∧ a ≠ x) ∧ a ≠ y) p a ∧ ¬ Hang e (fun b => (b < N ∧ b ≠ x) ∧ b ≠ a)
    · obtain ⟨a, ha, hna⟩ := hall
      have haH := ha.right
      -- what can't come to y without a is in the piece
      have inC : ∀ q, ((q < N ∧ q ≠ x) ∧ q ≠ a) → ¬ Cn e (fun b => (b < N ∧ b ≠ x) ∧ b ≠ a) q y → Cn e (fun a => (a < N ∧ a ≠ x) ∧ a ≠ y) p q := fun q hq hnq => by
        apply Classical.byContradiction
        intro hn
        have hqy : q ≠ y := fun h => by
          subst h
          exact hnq (Cn.refl hq)
        obtain ⟨u, hu, huy⟩ := (hH q y hq.1 ⟨hy, hyx⟩).to hqy
        apply hnq
        have h1 := hu.also (S' := fun b => b ≠ a) (fun w hw h => by
          subst h
          exact hn (ha.trans (hw.symm hs)))
        refine Cn.step (h1.mono (fun b hb => ⟨hb.1.1, hb.2⟩)) huy ⟨⟨hy, hyx⟩, fun h => ?_⟩
        exact haH.2 h.symm
      obtain ⟨p1, hp1, hnp1⟩ : ∃ p1, ((p1 < N ∧ p1 ≠ x) ∧ p1 ≠ a) ∧ ¬ Cn e (fun b => (b < N ∧ b ≠ x) ∧ b ≠ a) p1 y := by
        apply Classical.byContradiction
        intro hno
        apply hna
        intro u v hu hv
        have h1 : Cn e (fun b => (b < N ∧ b ≠ x) ∧ b ≠ a) u y := Classical.byContradiction fun h => hno ⟨u, hu, h⟩
        have h2 : Cn e (fun b => (b < N ∧ b ≠ x) ∧ b ≠ a) v y := Classical.byContradiction fun h => hno ⟨v, hv, h⟩
        exact h1.trans (h2.symm hs)
      have sub : ∀ z, Cn e (fun b => (b < N ∧ b ≠ x) ∧ b ≠ a) p1 z → Cn e (fun a => (a < N ∧ a ≠ x) ∧ a ≠ y) p z := fun z hz =>
        inC z hz.right (fun h => hnp1 (hz.trans h))
      have hlt := szOf_lt (N := N) sub haH.1.1 ha (fun h => h.right.2 rfl)
      obtain ⟨a', h1, h2, h3⟩ := ih _ (by rw [← hm]; exact hlt) a p1 haH.1.1 haH.1.2 hp1.1 hp1.2 rfl
      exact ⟨a', sub a' h1, h2, h3⟩
    · -- no node of the piece is a cut: one of them is near x
      have hG := hcut y hy
      have hw := hG p x ⟨hp.1, hpy⟩ ⟨hx, fun h => hyx h.symm⟩
      obtain ⟨u, hu, hux⟩ := hw.to hp.2
      have hu' : Cn e (fun a => (a < N ∧ a ≠ x) ∧ a ≠ y) p u := hu.mono (fun b hb => ⟨⟨hb.1.1, hb.2⟩, hb.1.2⟩)
      exact ⟨u, hu', hs _ _ hux, Classical.byContradiction fun h => hall ⟨u, hu', h⟩⟩
/-- BROOKS, the third case. -/
theorem fork_some (hs : ∀ a b, e a b → e b a) (hirr : ∀ a, ¬ e a a) (he : ∀ a b, e a b → a < N ∧ b < N) (hconn : Hang e (fun a => a < N)) (hcut : ∀ c, c < N → Hang e (fun a => a < N ∧ a ≠ c))
    (hdeg : ∀ x, x < N → ∀ a b, ∃ y, e x y ∧ y ≠ a ∧ y ≠ b) (hnf : ∃ x y, x < N ∧ y < N ∧ x ≠ y ∧ ¬ e x y) :
    ∃ v a b, e v a ∧ e v b ∧ a ≠ b ∧ ¬ e a b ∧ Hang e (fun x => (x < N ∧ x ≠ a) ∧ x ≠ b) := by
  by_cases h3 : ∀ a b, a < N → b < N → Hang e (fun x => (x < N ∧ x ≠ a) ∧ x ≠ b)
  · obtain ⟨x, y, hx, hy, hxy, hn⟩ := hnf
    apply Classical.byContradiction
    intro hno
    have key : ∀ z, Cn e (fun a => a < N) x z → x = z ∨ e x z := fun z hz => by
      induction hz with
      | refl _ => exact Or.inl rfl
      | @step y z h1 h2 h3' ih =>
        rcases ih with rfl | ih
        · exact Or.inr h2
        · by_cases hxz : x = z
          · exact Or.inl hxz
          · refine Or.inr (Classical.byContradiction fun hne => hno ⟨y, x, z, hs _ _ ih, h2, hxz, hne, h3 x z (he _ _ ih).1 h3'⟩)
    rcases key y (hconn x y hx hy) with h | h
    · exact hxy h
    · exact hn h
  · obtain ⟨x, y, hx, hy, hnh⟩ : ∃ x y, x < N ∧ y < N ∧ ¬ Hang e (fun z => (z < N ∧ z ≠ x) ∧ z ≠ y) := by
      apply Classical.byContradiction
      intro hno
      exact h3 (fun a b ha hb => Classical.byContradiction fun h => hno ⟨a, b, ha, hb, h⟩)
    have hH := hcut x hx
    have hyx : y ≠ x := fun h => by
      subst h
      apply hnh
      intro u v hu hv
      exact (hH u v hu.1 hv.1).mono (fun b hb => ⟨hb, hb.2⟩)
    obtain ⟨p, q, hp, hq, hnpq⟩ : ∃ p q, ((p < N ∧ p ≠ x) ∧ p ≠ y) ∧ ((q < N ∧ q ≠ x) ∧ q ≠ y) ∧ ¬ Cn e (fun z => (z < N ∧ z ≠ x) ∧ z ≠ y) p q := by
      apply Classical.byContradiction
      intro hno
      apply hnh
      intro u v hu hv
      exact Classical.byContradiction fun h => hno ⟨u, v, hu, hv, h⟩
    obtain ⟨a, ha, hxa, hHa⟩ := pick hs hcut hx _ y p hy hyx hp.1 hp.2 rfl
    obtain ⟨b, hb, hxb, hHb⟩ := pick hs hcut hx _ y q hy hyx hq.1 hq.2 rfl
    have haH := ha.right
    have hbH := hb.right
    have hab : a ≠ b := fun h => by
      subst h
      exact hnpq (ha.trans (hb.symm hs))
    have hnab : ¬ e a b := fun h => hnpq ((Cn.step ha h hbH).trans (hb.symm hs))
    refine ⟨x, a, b, hxa, hxb, hab, hnab, ?_⟩
    have toy : ∀ z, ((z < N ∧ z ≠ x) ∧ z ≠ a) ∧ z ≠ b → Cn e (fun w => (w < N ∧ w ≠ a) ∧ w ≠ b) z y := fun z hz => by
      have hyS : (y < N ∧ y ≠ a) ∧ y ≠ b := ⟨⟨hy, fun h => haH.2 h.symm⟩, fun h => hbH.2 h.symm⟩
      by_cases hzy : z = y
      · subst hzy; exact Cn.refl hyS
      · by_cases hzC : Cn e (fun w => (w < N ∧ w ≠ x) ∧ w ≠ y) p z
        · obtain ⟨u, hu, huy⟩ := (hHa z y hz.1 ⟨⟨hy, hyx⟩, fun h => haH.2 h.symm⟩).to hzy
          have h1 := hu.also (S' := fun w => w ≠ b) (fun w hw h => by
            subst h
            exact hnpq ((hzC.trans (hw.mono (fun c hc => ⟨hc.1.1, hc.2⟩))).trans (hb.symm hs)))
          exact Cn.step (h1.mono (fun c hc => ⟨⟨hc.1.1.1.1, hc.1.1.2⟩, hc.2⟩)) huy hyS
        · obtain ⟨u, hu, huy⟩ := (hHb z y ⟨hz.1.1, hz.2⟩ ⟨⟨hy, hyx⟩, fun h => hbH.2 h.symm⟩).to hzy
          have h1 := hu.also (S' := fun w => w ≠ a) (fun w hw h => by
            subst h
            exact hzC (ha.trans ((hw.mono (fun c hc => ⟨hc.1.1, hc.2⟩)).symm hs)))
          exact Cn.step (h1.mono (fun c hc => ⟨⟨hc.1.1.1.1, hc.2⟩, hc.1.1.2⟩)) huy hyS
    have all : ∀ z, (z < N ∧ z ≠ a) ∧ z ≠ b → Cn e (fun w => (w < N ∧ w ≠ a) ∧ w ≠ b) z y := fun z hz => by
      by_cases hzx : z = x
      · subst hzx
        obtain ⟨w, hw, hwa, hwb⟩ := hdeg z hx a b
        have hwN := (he _ _ hw).2
        have hwz : w ≠ z := fun h => hirr z (h ▸ hw)
        exact (Cn.step (Cn.refl hz) hw ⟨⟨hwN, hwa⟩, hwb⟩).trans (toy w ⟨⟨⟨hwN, hwz⟩, hwa⟩, hwb⟩)
      · exact toy z ⟨⟨⟨hz.1.1, hzx⟩, hz.1.2⟩, hz.2⟩
    intro u v hu hv
    exact (all u hu).trans ((all v hv).symm hs)
end
end Go.Proofs.YtdnmoifbkojnlaaGreat

namespace Go.Proofs.YtdnmoifbkojnlaaGreat

/-- c is the least colour that none of nb has. -/
def Lst (nb : List Nat) (col : Nat → Int) (c : Nat) : Prop := (∀ x ∈ nb, col x ≠ (c : Int)) ∧ ∀ d, d < c → ∃ x, x ∈ nb ∧ col x = (d : Int)
theorem nodup_lenI : ∀ (l m : List Int), l.Nodup → (∀ e ∈ l, e ∈ m) → l.length ≤ m.length
  | [], _, _, _ => Nat.zero_le _
  | a :: l, m, hn, hs => by
    have hn' := List.nodup_cons.1 hn
    have ha := hs a (by simp)
    have h := nodup_lenI l (m.erase a) hn'.2 (fun e he => (List.mem_erase_of_ne (fun (h : e = a) => hn'.1 (h ▸ he))).2 (hs e (by simp [he])))
    rw [List.length_erase_of_mem ha] at h
    have : 0 < m.length := List.length_pos_of_mem ha
    simp
    omega
theorem pig {l : List Nat} {col : Nat → Int} {c : Nat} (h : ∀ d, d < c → ∃ x, x ∈ l ∧ col x = (d : Int)) : c ≤ l.length := by
  have := nodup_lenI ((List.range c).map (fun (d : Nat) => (d : Int))) (l.map col) (by
    unfold List.Nodup
    rw [List.pairwise_map]
    exact List.Pairwise.imp (fun {a b} (hab : a ≠ b) => by omega) List.nodup_range) (fun e he => by
    obtain ⟨d, hd, rfl⟩ := List.mem_map.1 he
    obtain ⟨x, hx, hc⟩ := h d (List.mem_range.1 hd)
    exact List.mem_map.2 ⟨x, hx, hc⟩)
  simpa using this
theorem Lst.le {nb : List Nat} {col : Nat → Int} {c : Nat} (h : Lst nb col c) : c ≤ nb.length := pig h.2
/-- One of the nodes has no colour. -/
theorem Lst.lt {nb : List Nat} {col : Nat → Int} {c y : Nat} (h : Lst nb col c) (hy : y ∈ nb) (hc : col y = -1) : c < nb.length := by
  have h1 := pig (l := nb.erase y) (col := col) (c := c) (fun d hd => by
    obtain ⟨x, hx, e⟩ := h.2 d hd
    exact ⟨x, (List.mem_erase_of_ne (fun hxy => by rw [hxy, hc] at e; omega)).2 hx, e⟩)
  rw [List.length_erase_of_mem hy] at h1
  have := List.length_pos_of_mem hy
  omega
/-- Two of them have the same. -/
theorem Lst.two {nb : List Nat} {col : Nat → Int} {c a b : Nat} (h : Lst nb col c) (ha : a ∈ nb) (hb : b ∈ nb) (hab : a ≠ b) (hc : col a = col b) : c < nb.length := by
  have h1 := pig (l := nb.erase b) (col := col) (c := c) (fun d hd => by
    obtain ⟨x, hx, e⟩ := h.2 d hd
    by_cases hxb : x = b
    · subst hxb
      exact ⟨a, (List.mem_erase_of_ne hab).2 ha, by rw [hc]; exact e⟩
    · exact ⟨x, (List.mem_erase_of_ne hxb).2 hx, e⟩)
  rw [List.length_erase_of_mem hb] at h1
  have := List.length_pos_of_mem hb
  omega
/-- Colours below m, or none; and no two nodes with an edge have the same. -/
structure Pc (N m : Nat) (adj : Nat → Nat → Bool) (col : Nat → Int) : Prop where
  rng : ∀ x, x < N → col x = -1 ∨ (0 ≤ col x ∧ col x < (m : Int))
  ne : ∀ x y, x < N → y < N → adj x y = true → col x ≠ -1 → col x ≠ col y
def updC (col : Nat → Int) (v : Nat) (c : Int) : Nat → Int := fun x => if x = v then c else col x
theorem updC_same (col : Nat → Int) (v : Nat) (c : Int) : updC col v c v = c := if_pos rfl
theorem updC_ne {col : Nat → Int} {v x : Nat} {c : Int} (h : x ≠ v) : updC col v c x = col x := if_neg h
/-- One node gets the least colour that is free. -/
theorem Pc.paint {N m : Nat} {adj : Nat → Nat → Bool} {col : Nat → Int} (h : Pc N m adj col) (hs : ∀ x y, adj x y = adj y x) (hi : ∀ x, adj x x = false) {v c : Nat} {nb : List Nat} (hv : v < N) (hnb : ∀ x, x < N → adj v x = true → x ∈ nb) (hl : Lst nb col c) (hc : c < m) : Pc N m adj (updC col v c) := by
  refine ⟨fun x hx => ?_, fun x y hx hy hxy hne => ?_⟩
  · by_cases e : x = v
    · subst e; rw [updC_same]; exact Or.inr ⟨by omega, by omega⟩
    · rw [updC_ne e]; exact h.rng x hx
  · by_cases e1 : x = v
    · subst e1
      by_cases e2 : y = x
      · subst e2; rw [hi] at hxy; cases hxy
      · rw [updC_same, updC_ne e2]
        exact fun e => hl.1 y (hnb y hy hxy) e.symm
    · by_cases e2 : y = v
      · subst e2
        rw [updC_same, updC_ne e1]
        rw [updC_ne e1] at hne
        exact fun e => hl.1 x (hnb x hx (by rw [hs]; exact hxy)) e
      · rw [updC_ne e1, updC_ne e2]
        rw [updC_ne e1] at hne
        exact h.ne x y hx hy hxy hne
/-- The nodes to which open ways lead, the nearer ones ahead of the farther ones. -/
structure Bfo (N : Nat) (adj : Nat → Nat → Bool) (opn : Nat → Bool) (s : Nat) (L : List Nat) : Prop where
  pos : 0 < L.length
  first : L.getD 0 0 = s
  lt : ∀ x ∈ L, x < N
  nodup : L.Nodup
  open' : ∀ i, 0 < i → i < L.length → opn (L.getD i 0) = true
  back : ∀ i, 0 < i → i < L.length → ∃ j, j < i ∧ adj (L.getD j 0) (L.getD i 0) = true
  shut : ∀ x y, x ∈ L → y < N → adj x y = true → opn y = true → y ∈ L
/-- So far the fill has come: r nodes from the list's end have a colour. -/
structure FillI (N m : Nat) (adj : Nat → Nat → Bool) (L : List Nat) (col0 : Nat → Int) (r : Nat) (col : Nat → Int) : Prop where
  pc : Pc N m adj col
  out : ∀ x, x ∉ L → col x = col0 x
  done : ∀ i, 0 < i → i < L.length → L.length ≤ i + r → col (L.getD i 0) ≠ -1
  todo : ∀ i, i < L.length → i + r < L.length → col (L.getD i 0) = -1
theorem getD_inj {L : List Nat} (hn : L.Nodup) {i j : Nat} (hi : i < L.length) (hj : j < L.length) (e : L.getD i 0 = L.getD j 0) : i = j := by
  have e1 : L.getD i 0 = L[i] := by simp [List.getD, List.getElem?_eq_getElem hi]
  have e2 : L.getD j 0 = L[j] := by simp [List.getD, List.getElem?_eq_getElem hj]
  rw [e1, e2] at e
  rcases Nat.lt_trichotomy i j with h | h | h
  · exact absurd e (List.pairwise_iff_getElem.1 hn i j hi hj h)
  · exact h
  · exact absurd e.symm (List.pairwise_iff_getElem.1 hn j i hj hi h)
theorem getD_mem' {L : List Nat} {i : Nat} (h : i < L.length) : L.getD i 0 ∈ L := by
  simp only [List.getD, List.getElem?_eq_getElem h, Option.getD_some]
  exact List.getElem_mem h
theorem FillI.start {N m : Nat} {adj : Nat → Nat → Bool} {L : List Nat} {col0 : Nat → Int} {s : Nat} (h : Pc N m adj col0) (hb : Bfo N adj (fun x => col0 x == -1) s L) (hs : col0 s = -1) : FillI N m adj L col0 0 col0 :=
  ⟨h, fun _ _ => rfl, fun i _ h1 h2 => by omega, fun i hi _ => by
    by_cases e : i = 0
    · subst e; rw [hb.first]; exact hs
    · have := hb.open' i (by omega) hi
      simpa using this⟩
/-- One node more. -/
theorem FillI.next {N m : Nat} {adj : Nat → Nat → Bool} {L : List Nat} {col0 col : Nat → Int} {s r c : Nat} {opn : Nat → Bool} {nb : List Nat} (h : FillI N m adj L col0 r col) (hb : Bfo N adj opn s L) (hs : ∀ x y, adj x y = adj y x) (hi : ∀ x, adj x x = false)
    (hr : r + 1 < L.length) (hnb : ∀ x, x < N → adj (L.getD (L.length - 1 - r) 0) x = true → x ∈ nb) (hlen : nb.length ≤ m) (hl : Lst nb col c) : c < m ∧ FillI N m adj L col0 (r + 1) (updC col (L.getD (L.length - 1 - r) 0) c) := by
  obtain ⟨k, hk⟩ : ∃ k, k = L.length - 1 - r := ⟨_, rfl⟩
  rw [← hk] at hnb ⊢
  have hkl : k < L.length := by omega
  have hk0 : 0 < k := by omega
  obtain ⟨j, hj, hjk⟩ := hb.back k hk0 hkl
  have hmem := hnb (L.getD j 0) (hb.lt _ (getD_mem' (by omega))) (by rw [hs]; exact hjk)
  have hclt := hl.lt hmem (h.todo j (by omega) (by omega))
  have hcm : c < m := by omega
  refine ⟨hcm, h.pc.paint hs hi (hb.lt _ (getD_mem' hkl)) hnb hl hcm, fun x hx => ?_, fun i h0 h1 h2 => ?_, fun i h1 h2 => ?_⟩
  · rw [updC_ne (fun e => hx (by rw [e]; exact getD_mem' hkl))]; exact h.out x hx
  · by_cases e : i = k
    · subst e; rw [updC_same]; omega
    · rw [updC_ne (fun e2 => e (getD_inj hb.nodup h1 hkl e2))]; exact h.done i h0 h1 (by omega)
  · rw [updC_ne (fun e2 => by have := getD_inj hb.nodup h1 hkl e2; omega)]; exact h.todo i h1 (by omega)
/-- What the fill leaves: all of the list but the first have a colour. -/
theorem FillI.end' {N m : Nat} {adj : Nat → Nat → Bool} {L : List Nat} {col0 col : Nat → Int} {s : Nat} {opn : Nat → Bool} (h : FillI N m adj L col0 (L.length - 1) col) (hb : Bfo N adj opn s L) : Pc N m adj col ∧ (∀ x, x ∉ L → col x = col0 x) ∧ (∀ x, x ∈ L → x ≠ s → col x ≠ -1) ∧ col s = -1 := by
  refine ⟨h.pc, h.out, fun x hx hxs => ?_, ?_⟩
  · obtain ⟨i, hi, rfl⟩ := List.getElem_of_mem hx
    have e : L[i] = L.getD i 0 := by simp [List.getD, List.getElem?_eq_getElem hi]
    rw [e] at hxs ⊢
    have hi0 : 0 < i := Nat.pos_of_ne_zero fun h0 => by
      subst h0
      exact hxs hb.first
    exact h.done i hi0 hi (by omega)
  · have := h.todo 0 hb.pos (by have := hb.pos; omega)
    rw [hb.first] at this
    exact this
/-- The nodes that are reached hang together, and are all that can be. -/
theorem Bfo.mem {N : Nat} {adj : Nat → Nat → Bool} {opn : Nat → Bool} {s : Nat} {L : List Nat} (hb : Bfo N adj opn s L) {y : Nat} (h : Cn (fun a b => adj a b = true) (fun a => a < N ∧ (a = s ∨ opn a = true)) s y) : y ∈ L := by
  have hs : s ∈ L := by rw [← hb.first]; exact getD_mem' hb.pos
  induction h with
  | refl _ => exact hs
  | @step y z _ h2 h3 ih =>
    rcases h3.2 with rfl | ho
    · exact hs
    · exact hb.shut y z ih h3.1 h2 ho
theorem Bfo.cn {N : Nat} {adj : Nat → Nat → Bool} {opn : Nat → Bool} {s : Nat} {L : List Nat} (hb : Bfo N adj opn s L) : ∀ i, i < L.length → Cn (fun a b => adj a b = true) (fun a => a < N ∧ (a = s ∨ opn a = true)) s (L.getD i 0) := by
  intro i
  induction i using Nat.strongRecOn with
  | _ i ih =>
    intro hi
    by_cases e : i = 0
    · subst e
      rw [hb.first]
      exact Cn.refl ⟨hb.lt s (by rw [← hb.first]; exact getD_mem' hb.pos), Or.inl rfl⟩
    · obtain ⟨j, hj, ha⟩ := hb.back i (by omega) hi
      exact Cn.step (ih j hj (by omega)) ha ⟨hb.lt _ (getD_mem' hi), Or.inr (hb.open' i (by omega) hi)⟩
end Go.Proofs.YtdnmoifbkojnlaaGreat
