/- Ways: what can be reached. Plain mathematics. Blocks, bridges, cuts: plain mathematics. -/
import Derived.Below
namespace Go.Proofs.Ytfdlndljpmamgaa

def Steps (e : Nat → Nat → Prop) : Nat → Nat → Nat → Prop
  | 0, a, b => a = b
  | n + 1, a, c => ∃ b, Steps e n a b ∧ e b c
/-- A way leads from a to b. -/
def Star (e : Nat → Nat → Prop) (a b : Nat) : Prop := ∃ n, Steps e n a b
theorem Star.refl {e : Nat → Nat → Prop} (a : Nat) : Star e a a := ⟨0, rfl⟩
theorem Star.step {e : Nat → Nat → Prop} {a b c : Nat} (h : Star e a b) (h2 : e b c) : Star e a c := by
  obtain ⟨n, hn⟩ := h
  exact ⟨n + 1, b, hn, h2⟩
theorem Star.ind {e : Nat → Nat → Prop} {a : Nat} {P : Nat → Prop} (h0 : P a) (hs : ∀ b c, Star e a b → e b c → P b → P c) {b : Nat} (h : Star e a b) : P b := by
  obtain ⟨n, hn⟩ := h
  induction n generalizing b with
  | zero => exact (show a = b from hn) ▸ h0
  | succ n ih =>
    obtain ⟨c, hc, hcb⟩ := hn
    exact hs c b ⟨n, hc⟩ hcb (ih hc)

theorem Star.one {e : Nat → Nat → Prop} {a b : Nat} (h : e a b) : Star e a b := .step (.refl a) h
theorem Star.trans {e : Nat → Nat → Prop} {a b c : Nat} (h : Star e a b) (h2 : Star e b c) : Star e a c :=
  Star.ind (P := fun c => Star e a c) h (fun _ _ _ hs ih => .step ih hs) h2
theorem Star.head {e : Nat → Nat → Prop} {a b c : Nat} (h : e a b) (h2 : Star e b c) : Star e a c := (Star.one h).trans h2
theorem Star.mono {e f : Nat → Nat → Prop} (hm : ∀ a b, e a b → f a b) {a b : Nat} (h : Star e a b) : Star f a b :=
  Star.ind (P := fun b => Star f a b) (.refl _) (fun _ _ _ hs ih => .step ih (hm _ _ hs)) h
theorem Star.closed {e : Nat → Nat → Prop} {P : Nat → Prop} (hc : ∀ a b, P a → e a b → P b) {a b : Nat} (h : Star e a b) (ha : P a) : P b :=
  Star.ind (P := P) ha (fun _ _ _ hs ih => hc _ _ ih hs) h
/-- Within a closed set a way may use what holds there. -/
theorem Star.within {e f : Nat → Nat → Prop} {P : Nat → Prop} (hc : ∀ a b, P a → e a b → P b ∧ f a b) {a b : Nat} (h : Star e a b) (ha : P a) : P b ∧ Star f a b :=
  Star.ind (P := fun b => P b ∧ Star f a b) ⟨ha, .refl _⟩ (fun _ _ _ hs ih => ⟨(hc _ _ ih.1 hs).1, .step ih.2 (hc _ _ ih.1 hs).2⟩) h
theorem Star.symm {e : Nat → Nat → Prop} (hs : ∀ a b, e a b → e b a) {a b : Nat} (h : Star e a b) : Star e b a :=
  Star.ind (P := fun b => Star e b a) (.refl _) (fun _ _ _ h1 ih => Star.head (hs _ _ h1) ih) h
/-- A way whose nodes, but for the first, keep to L: backwards it does so if its first node keeps to L. -/
theorem Star.back {e : Nat → Nat → Prop} {L : Nat → Prop} (hs : ∀ a b, e a b → e b a) {a b : Nat} (h : Star (fun x y => e x y ∧ L y) a b) (ha : L a) : Star (fun x y => e x y ∧ L y) b a ∧ L b :=
  Star.ind (P := fun b => Star (fun x y => e x y ∧ L y) b a ∧ L b) ⟨.refl _, ha⟩ (fun _ _ _ h1 ih => ⟨Star.head ⟨hs _ _ h1.1, ih.2⟩ ih.1, h1.2⟩) h
theorem Star.iff {e f : Nat → Nat → Prop} (hm : ∀ a b, e a b ↔ f a b) (a b : Nat) : Star e a b ↔ Star f a b := ⟨Star.mono fun a b h => (hm a b).1 h, Star.mono fun a b h => (hm a b).2 h⟩

theorem ex2 (P : Nat → Nat → Prop) : ∃ R : Nat → Nat → Bool, ∀ v w, R v w = true ↔ P v w := by
  classical exact ⟨fun v w => decide (P v w), by simp⟩
theorem ex3 (P : Nat → Nat → Nat → Prop) : ∃ R : Nat → Nat → Nat → Bool, ∀ x v w, R x v w = true ↔ P x v w := by
  classical exact ⟨fun x v w => decide (P x v w), by simp⟩

/-- v is the least of its class, of those in L. -/
def firstB (L : Nat → Bool) (R : Nat → Nat → Bool) (v : Nat) : Bool := L v && (List.range v).all fun u => !(L u && R u v)
def classL (n : Nat) (R : Nat → Nat → Bool) (v : Nat) : List Nat := (List.range n).filter (R v)
/-- What hangs together, up to k. -/
def piecesTo (n : Nat) (L : Nat → Bool) (R : Nat → Nat → Bool) (k : Nat) : List (List Nat) := ((List.range k).filter (firstB L R)).map (classL n R)
def piecesS (n : Nat) (L : Nat → Bool) (R : Nat → Nat → Bool) : List (List Nat) := piecesTo n L R n
theorem piecesTo_succ (n : Nat) (L : Nat → Bool) (R : Nat → Nat → Bool) (k : Nat) : piecesTo n L R (k + 1) = piecesTo n L R k ++ (if firstB L R k = true then [classL n R k] else []) := by
  unfold piecesTo
  rw [List.range_succ, List.filter_append, List.map_append]
  congr 1
  by_cases h : firstB L R k = true
  · rw [if_pos h]; simp [h]
  · rw [if_neg h]; simp [h]
theorem firstB_iff {L : Nat → Bool} {R : Nat → Nat → Bool} {v : Nat} : firstB L R v = true ↔ L v = true ∧ ∀ u, u < v → L u = true → R u v = false := by
  simp [firstB]
  intro _
  constructor
  · intro h u hu hl
    rcases h u hu with h | h
    · rw [hl] at h; cases h
    · exact h
  · intro h u hu
    cases hl : L u
    · exact Or.inl rfl
    · exact Or.inr (h u hu hl)

/-- Each node has a least one in its class. -/
theorem least_ex {P : Nat → Prop} : ∀ {v : Nat}, P v → ∃ u, u ≤ v ∧ P u ∧ ∀ x, x < u → ¬ P x := by
  intro v
  induction v using Nat.strongRecOn with
  | _ v ih =>
    intro hv
    by_cases h : ∃ u, u < v ∧ P u
    · obtain ⟨u, hu, hp⟩ := h
      obtain ⟨x, hx, h1, h2⟩ := ih u hu hp
      exact ⟨x, by omega, h1, h2⟩
    · exact ⟨v, Nat.le_refl _, hv, fun x hx hp => h ⟨x, hx, hp⟩⟩

/-- How many classes there are. -/
def partsN (n : Nat) (L : Nat → Bool) (R : Nat → Nat → Bool) : Nat := ((List.range n).filter (firstB L R)).length

theorem filter_lt {l : List Nat} {p q : Nat → Bool} (h : ∀ x ∈ l, p x = true → q x = true) {y : Nat} (hy : y ∈ l) (hp : p y = false) (hq : q y = true) : (l.filter p).length < (l.filter q).length := by
  induction l with
  | nil => cases hy
  | cons a l ih =>
    have hle : ∀ l' : List Nat, (∀ x ∈ l', p x = true → q x = true) → (l'.filter p).length ≤ (l'.filter q).length := by
      intro l'
      induction l' with
      | nil => intro _; simp
      | cons b l' ih' =>
        intro h'
        have := ih' (fun x hx => h' x (by simp [hx]))
        have hb := h' b (by simp)
        simp only [List.filter_cons]
        split
        · rename_i h1; rw [if_pos (hb h1)]; simp; omega
        · split <;> simp <;> omega
    have hle' := hle l (fun x hx => h x (by simp [hx]))
    simp only [List.filter_cons]
    rcases List.mem_cons.1 hy with rfl | hy
    · rw [hp, hq]; simp; omega
    · have := ih (fun x hx => h x (by simp [hx])) hy
      have ha := h a (by simp)
      split
      · rename_i h1; rw [if_pos (ha h1)]; simp; omega
      · split <;> simp <;> omega
theorem filter_le {l : List Nat} {p q : Nat → Bool} (h : ∀ x ∈ l, p x = true → q x = true) : (l.filter p).length ≤ (l.filter q).length := by
  induction l with
  | nil => simp
  | cons b l ih' =>
    have := ih' (fun x hx => h x (by simp [hx]))
    have hb := h b (by simp)
    simp only [List.filter_cons]
    split
    · rename_i h1; rw [if_pos (hb h1)]; simp; omega
    · split <;> simp <;> omega
end Go.Proofs.Ytfdlndljpmamgaa

namespace Go.Proofs.Ytfdlndljpmamgaa

theorem nat_nodup_len : ∀ (l m : List Nat), l.Nodup → (∀ e ∈ l, e ∈ m) → l.length ≤ m.length
  | [], _, _, _ => Nat.zero_le _
  | a :: l, m, hn, hs => by
    have hn' := List.nodup_cons.1 hn
    have ha := hs a (by simp)
    have h := nat_nodup_len l (m.erase a) hn'.2 (fun e he => (List.mem_erase_of_ne (fun (h : e = a) => hn'.1 (h ▸ he))).2 (hs e (by simp [he])))
    rw [List.length_erase_of_mem ha] at h
    have : 0 < m.length := List.length_pos_of_mem ha
    simp
    omega

theorem Star.exit {e : Nat → Nat → Prop} {P : Nat → Prop} {a b : Nat} (h : Star e a b) (ha : P a) (hb : ¬ P b) : ∃ c d, P c ∧ e c d ∧ ¬ P d := by
  refine Star.ind (P := fun b => ¬ P b → ∃ c d, P c ∧ e c d ∧ ¬ P d) (fun hb => absurd ha hb) (fun b c _ h2 ih hc => ?_) h hb
  by_cases hp : P b
  · exact ⟨b, c, hp, h2, hc⟩
  · exact ih hp

/-- A graph: n nodes, which are near each other. -/
structure Gr (n : Nat) (E : Nat → Nat → Prop) : Prop where
  lt : ∀ a b, E a b → a < n ∧ b < n
  symm : ∀ a b, E a b → E b a
  irr : ∀ a, ¬ E a a

/-- Without the node x a way leads from a to b. -/
def Con (E : Nat → Nat → Prop) (x a b : Nat) : Prop := Star (fun u v => E u v ∧ v ≠ x) a b
/-- The edges but for one. -/
def Less (E : Nat → Nat → Prop) (s t : Nat) (a b : Nat) : Prop := E a b ∧ ¬ ((a = s ∧ b = t) ∨ (a = t ∧ b = s))

theorem Con.back {n : Nat} {E : Nat → Nat → Prop} (g : Gr n E) {x a b : Nat} (h : Con E x a b) (ha : a ≠ x) : Con E x b a ∧ b ≠ x := Star.back (L := fun v => v ≠ x) g.symm h ha
theorem Con.trans {E : Nat → Nat → Prop} {x a b c : Nat} (h : Con E x a b) (h2 : Con E x b c) : Con E x a c := Star.trans h h2
theorem Con.whole {E : Nat → Nat → Prop} {x a b : Nat} (h : Con E x a b) : Star E a b := Star.mono (fun _ _ h => h.1) h
theorem less_symm {n : Nat} {E : Nat → Nat → Prop} (g : Gr n E) {s t : Nat} : ∀ a b, Less E s t a b → Less E s t b a :=
  fun a b h => ⟨g.symm _ _ h.1, fun h' => h.2 (by rcases h' with ⟨h1, h2⟩ | ⟨h1, h2⟩ <;> simp [h1, h2])⟩

section count
variable {n : Nat} {E : Nat → Nat → Prop}

def allB : Nat → Bool := fun _ => true

theorem first_all {R : Nat → Nat → Bool} {v : Nat} : firstB allB R v = true ↔ ∀ u, u < v → R u v = false := by
  rw [firstB_iff]; simp [allB]

/-- Without an edge there are more components just if no other way joins its ends. -/
theorem bridge_count (g : Gr n E) {s t : Nat} (hst : E s t) {R R' : Nat → Nat → Bool} (hR : ∀ v w, R v w = true ↔ Star E v w) (hR' : ∀ v w, R' v w = true ↔ Star (Less E s t) v w) :
    (partsN n allB R < partsN n allB R' ↔ ¬ Star (Less E s t) s t) := by
  have hsub : ∀ v w, R' v w = true → R v w = true := fun v w h => (hR v w).2 (Star.mono (fun _ _ h => h.1) ((hR' v w).1 h))
  constructor
  · intro h hs
    have he : R = R' := by
      funext v w
      rw [Bool.eq_iff_iff]
      refine ⟨fun h => (hR' v w).2 ?_, hsub v w⟩
      have : Star E v w := (hR v w).1 h
      refine Star.ind (P := fun w => Star (Less E s t) v w) (.refl _) (fun b c _ h2 ih => ih.trans ?_) this
      by_cases e : (b = s ∧ c = t) ∨ (b = t ∧ c = s)
      · rcases e with ⟨rfl, rfl⟩ | ⟨rfl, rfl⟩
        · exact hs
        · exact hs.symm (less_symm g)
      · exact .one ⟨h2, e⟩
    rw [he] at h
    exact absurd h (Nat.lt_irrefl _)
  · intro hs
    obtain ⟨a, ha, pa, la⟩ := least_ex (P := fun v => Star (Less E s t) v s) (v := s) (.refl _)
    obtain ⟨b, hb, pb, lb⟩ := least_ex (P := fun v => Star (Less E s t) v t) (v := t) (.refl _)
    have hl := g.lt _ _ hst
    have hab : a ≠ b := fun e => hs ((pa.symm (less_symm g)).trans (e ▸ pb))
    have pe : ∀ v w, Star (Less E s t) v w → Star E v w := fun v w h => h.mono (fun _ _ h => h.1)
    have big : Star E a b := ((pe _ _ pa).trans (.one hst)).trans ((pe _ _ pb).symm g.symm)
    have fa : firstB allB R' a = true := first_all.2 fun u hu => by
      cases h : R' u a
      · rfl
      · exact absurd (((hR' _ _).1 h).trans pa) (la u hu)
    have fb : firstB allB R' b = true := first_all.2 fun u hu => by
      cases h : R' u b
      · rfl
      · exact absurd (((hR' _ _).1 h).trans pb) (lb u hu)
    have mono : ∀ x ∈ List.range n, firstB allB R x = true → firstB allB R' x = true := fun x _ h => first_all.2 fun u hu => by
      cases h' : R' u x
      · rfl
      · have := first_all.1 h u hu
        rw [hsub _ _ h'] at this
        cases this
    rcases Nat.lt_or_gt_of_ne hab with h | h
    · exact filter_lt mono (y := b) (by simp; omega) (by
        cases h' : firstB allB R b
        · rfl
        · have := first_all.1 h' a h
          rw [(hR _ _).2 big] at this
          cases this) fb
    · exact filter_lt mono (y := a) (by simp; omega) (by
        cases h' : firstB allB R a
        · rfl
        · have := first_all.1 h' b h
          rw [(hR _ _).2 (big.symm g.symm)] at this
          cases this) fa

/-- If all that are near x hang together without it, so do all others as before. -/
theorem con_of_near (g : Gr n E) {x : Nat} (hnear : ∀ u w, E x u → E x w → Con E x u w) {a b : Nat} (ha : a ≠ x) (hb : b ≠ x) (h : Star E a b) : Con E x a b := by
  have key : ∀ b, Star E a b → (b ≠ x → Con E x a b) ∧ (b = x → ∃ u, E x u ∧ Con E x a u) := by
    intro b h
    refine Star.ind (P := fun b => (b ≠ x → Con E x a b) ∧ (b = x → ∃ u, E x u ∧ Con E x a u)) ⟨fun _ => .refl _, fun e => absurd e ha⟩ (fun b c _ h2 ih => ?_) h
    constructor
    · intro hc
      by_cases hbx : b = x
      · obtain ⟨u, hu, hau⟩ := ih.2 hbx
        subst hbx
        exact hau.trans (hnear u c hu h2)
      · exact Star.step (ih.1 hbx) ⟨h2, hc⟩
    · intro hc
      subst hc
      have hbx : b ≠ c := fun e => g.irr c (e ▸ h2)
      exact ⟨b, g.symm _ _ h2, ih.1 hbx⟩
  exact (key b h).1 hb

def notB (x : Nat) : Nat → Bool := fun v => v != x

/-- Without a node there are more components just if two nodes near it do not hang together without it. -/
theorem cut_count (g : Gr n E) {x : Nat} (hx : x < n) {R Rx : Nat → Nat → Bool} (hR : ∀ v w, R v w = true ↔ Star E v w) (hRx : ∀ v w, Rx v w = true ↔ Con E x v w) :
    (partsN n allB R < partsN n (notB x) Rx ↔ ∃ u w, E x u ∧ E x w ∧ ¬ Con E x u w) := by
  have nx : ∀ v, notB x v = true ↔ v ≠ x := fun v => by simp [notB]
  have symR : ∀ {v w}, R v w = true → R w v = true := fun {v w} h => (hR _ _).2 (((hR _ _).1 h).symm g.symm)
  have trR : ∀ {u v w}, R u v = true → R v w = true → R u w = true := fun h h2 => (hR _ _).2 (((hR _ _).1 h).trans ((hR _ _).1 h2))
  have uniqR : ∀ {u v}, firstB allB R u = true → firstB allB R v = true → R u v = true → u = v := by
    intro u v hu hv h
    rcases Nat.lt_trichotomy u v with h' | h' | h'
    · have := first_all.1 hv u h'; rw [h] at this; cases this
    · exact h'
    · have := first_all.1 hu v h'; rw [symR h] at this; cases this
  have uniqX : ∀ {u v}, firstB (notB x) Rx u = true → firstB (notB x) Rx v = true → Rx u v = true → u = v := by
    intro u v hu hv h
    have hu' := firstB_iff.1 hu
    have hv' := firstB_iff.1 hv
    rcases Nat.lt_trichotomy u v with h' | h' | h'
    · have := hv'.2 u h' hu'.1; rw [h] at this; cases this
    · exact h'
    · have h2 := (hRx _ _).2 (Con.back g ((hRx _ _).1 h) ((nx _).1 hu'.1)).1
      have := hu'.2 v h' hv'.1; rw [h2] at this; cases this
  have nodR : ((List.range n).filter (firstB allB R)).Nodup := List.nodup_range.filter _
  have nodX : ((List.range n).filter (firstB (notB x) Rx)).Nodup := List.nodup_range.filter _
  constructor
  · intro h
    refine Classical.byContradiction fun hno => ?_
    have hnear : ∀ u w, E x u → E x w → Con E x u w := fun u w h1 h2 => Classical.byContradiction fun h3 => hno ⟨u, w, h1, h2, h3⟩
    obtain ⟨r, hr, pr, lr⟩ := least_ex (P := fun v => Star E v x) (v := x) (.refl _)
    have fr : firstB allB R r = true := first_all.2 fun u hu => by
      cases h : R u r
      · rfl
      · exact absurd (((hR _ _).1 h).trans pr) (lr u hu)
    have hrx := (hR _ _).2 pr
    have hin : ∀ v, v ∈ (List.range n).filter (firstB (notB x) Rx) → (if R x v = true then r else v) ∈ (List.range n).filter (firstB allB R) := by
      intro v hv
      simp at hv ⊢
      obtain ⟨hvn, hv⟩ := hv
      have hv' := firstB_iff.1 hv
      split
      · exact ⟨by omega, fr⟩
      · rename_i hxv
        refine ⟨hvn, first_all.2 fun u hu => ?_⟩
        cases h : R u v
        · rfl
        · have hux : u ≠ x := fun e => hxv (e ▸ h)
          have := hv'.2 u hu ((nx u).2 hux)
          rw [(hRx _ _).2 (con_of_near g hnear hux ((nx _).1 hv'.1) ((hR _ _).1 h))] at this
          cases this
    have hinj : (((List.range n).filter (firstB (notB x) Rx)).map fun v => if R x v = true then r else v).Nodup := by
      rw [List.Nodup, List.pairwise_map]
      refine List.Pairwise.imp_of_mem ?_ nodX
      intro a b ha hb hne
      simp at ha hb
      have ha' := firstB_iff.1 ha.2
      have hb' := firstB_iff.1 hb.2
      have hnab : R a b ≠ true := fun h => hne (uniqX ha.2 hb.2 ((hRx _ _).2 (con_of_near g hnear ((nx _).1 ha'.1) ((nx _).1 hb'.1) ((hR _ _).1 h))))
      intro e
      by_cases h1 : R x a = true
      · by_cases h2 : R x b = true
        · exact hnab (trR (symR h1) h2)
        · rw [if_pos h1, if_neg h2] at e
          exact h2 (e ▸ symR hrx)
      · by_cases h2 : R x b = true
        · rw [if_neg h1, if_pos h2] at e
          exact h1 (e ▸ symR hrx)
        · rw [if_neg h1, if_neg h2] at e
          exact hne e
    have := nat_nodup_len _ ((List.range n).filter (firstB allB R)) hinj (fun e he => by
      obtain ⟨v, hv, rfl⟩ := List.mem_map.1 he
      exact hin v hv)
    simp only [List.length_map] at this
    unfold partsN at h
    omega
  · rintro ⟨u0, w0, hu0, hw0, hno⟩
    have hux : u0 ≠ x := fun e => g.irr x (e ▸ hu0)
    have hwx : w0 ≠ x := fun e => g.irr x (e ▸ hw0)
    obtain ⟨a, ha, ⟨pa, pax⟩, la⟩ := least_ex (P := fun v => Con E x v u0 ∧ v ≠ x) (v := u0) ⟨.refl _, hux⟩
    obtain ⟨b, hb, ⟨pb, pbx⟩, lb⟩ := least_ex (P := fun v => Con E x v w0 ∧ v ≠ x) (v := w0) ⟨.refl _, hwx⟩
    have hab : a ≠ b := fun e => hno (((Con.back g pa pax).1).trans (e ▸ pb))
    have fa : firstB (notB x) Rx a = true := firstB_iff.2 ⟨(nx _).2 pax, fun u hu hux => by
      cases h : Rx u a
      · rfl
      · exact absurd ⟨((hRx _ _).1 h).trans pa, (nx _).1 hux⟩ (la u hu)⟩
    have fb : firstB (notB x) Rx b = true := firstB_iff.2 ⟨(nx _).2 pbx, fun u hu hux => by
      cases h : Rx u b
      · rfl
      · exact absurd ⟨((hRx _ _).1 h).trans pb, (nx _).1 hux⟩ (lb u hu)⟩
    have hxa : R x a = true := (hR _ _).2 ((Star.one hu0).trans (pa.whole.symm g.symm))
    have hxb : R x b = true := (hR _ _).2 ((Star.one hw0).trans (pb.whole.symm g.symm))
    have hl := g.lt _ _ hu0
    have hl2 := g.lt _ _ hw0
    have hnot : ∀ v, firstB allB R v = true → R x v ≠ true → firstB (notB x) Rx v = true := by
      intro v hv hxv
      refine firstB_iff.2 ⟨(nx _).2 fun e => hxv (e ▸ (hR _ _).2 (.refl _)), fun u hu _ => ?_⟩
      cases h : Rx u v
      · rfl
      · have := first_all.1 hv u hu
        rw [(hR _ _).2 ((hRx _ _).1 h).whole] at this
        cases this
    have hinj : (b :: ((List.range n).filter (firstB allB R)).map fun v => if R x v = true then a else v).Nodup := by
      refine List.nodup_cons.2 ⟨?_, ?_⟩
      · intro h
        obtain ⟨v, hv, e⟩ := List.mem_map.1 h
        by_cases h1 : R x v = true
        · rw [if_pos h1] at e; exact hab e
        · rw [if_neg h1] at e; exact h1 (e ▸ hxb)
      · rw [List.Nodup, List.pairwise_map]
        refine List.Pairwise.imp_of_mem ?_ nodR
        intro c d hc hd hne e
        simp at hc hd
        by_cases h1 : R x c = true
        · by_cases h2 : R x d = true
          · exact hne (uniqR hc.2 hd.2 (trR (symR h1) h2))
          · rw [if_pos h1, if_neg h2] at e
            exact h2 (e ▸ hxa)
        · by_cases h2 : R x d = true
          · rw [if_neg h1, if_pos h2] at e
            exact h1 (e ▸ hxa)
          · rw [if_neg h1, if_neg h2] at e
            exact hne e
    have := nat_nodup_len _ ((List.range n).filter (firstB (notB x) Rx)) hinj (fun e he => by
      rcases List.mem_cons.1 he with rfl | he
      · simp; exact ⟨by omega, fb⟩
      · obtain ⟨v, hv, rfl⟩ := List.mem_map.1 he
        simp at hv ⊢
        split
        · exact ⟨by omega, fa⟩
        · rename_i h1
          exact ⟨hv.1, hnot v hv.2 h1⟩)
    simp only [List.length_map, List.length_cons] at this
    unfold partsN
    omega
end count

section edges
variable {n m : Nat} {E : Nat → Nat → Prop} {el : Nat → Nat × Nat}

/-- The edges of a graph, by their numbers. -/
structure Edges (n m : Nat) (E : Nat → Nat → Prop) (el : Nat → Nat × Nat) : Prop where
  ok : ∀ i, i < m → (el i).1 < (el i).2 ∧ E (el i).1 (el i).2
  all : ∀ a b, a < b → E a b → ∃ i, i < m ∧ el i = (a, b)
  inj : ∀ i j, i < m → j < m → el i = el j → i = j

/-- Edge i goes from v to u. -/
def Inc (el : Nat → Nat × Nat) (i v u : Nat) : Prop := el i = (v, u) ∨ el i = (u, v)
/-- Edges at one node, whose other ends hang together without it. -/
def LkB (m : Nat) (E : Nat → Nat → Prop) (el : Nat → Nat × Nat) (i j : Nat) : Prop := i < m ∧ j < m ∧ ∃ v u w, Inc el i v u ∧ Inc el j v w ∧ Con E v u w
def otherN (e : Nat × Nat) (x : Nat) : Nat := if e.1 = x then e.2 else e.1

theorem Inc.edge (g : Gr n E) (h : Edges n m E el) {i v u : Nat} (hi : i < m) (hc : Inc el i v u) : E v u ∧ v ≠ u := by
  have := h.ok i hi
  rcases hc with e | e
  · rw [e] at this; exact ⟨this.2, fun e => g.irr v (e ▸ this.2)⟩
  · rw [e] at this; exact ⟨g.symm _ _ this.2, fun e => g.irr v (e ▸ this.2)⟩
theorem Inc.swap {i v u : Nat} (h : Inc el i v u) : Inc el i u v := h.symm
theorem Edges.inc (g : Gr n E) (h : Edges n m E el) {a b : Nat} (he : E a b) : ∃ i, i < m ∧ Inc el i a b := by
  rcases Nat.lt_trichotomy a b with h' | h' | h'
  · obtain ⟨i, hi, e⟩ := h.all a b h' he
    exact ⟨i, hi, Or.inl e⟩
  · exact absurd (h' ▸ he) (g.irr a)
  · obtain ⟨i, hi, e⟩ := h.all b a h' (g.symm _ _ he)
    exact ⟨i, hi, Or.inr e⟩
theorem Inc.other (g : Gr n E) (h : Edges n m E el) {i v u : Nat} (hi : i < m) (hc : Inc el i v u) : otherN (el i) v = u := by
  have hne := (hc.edge g h hi).2
  unfold otherN
  rcases hc with e | e
  · rw [e, if_pos rfl]
  · rw [e, if_neg (fun e => hne e.symm)]
theorem other_cases (_g : Gr n E) (h : Edges n m E el) {i : Nat} (hi : i < m) (x : Nat) : ∃ y, Inc el i (otherN (el i) x) y ∧ otherN (el i) x ≠ x := by
  have := h.ok i hi
  unfold otherN
  split
  · rename_i e; exact ⟨_, Or.inr rfl, by omega⟩
  · rename_i e; exact ⟨_, Or.inl rfl, e⟩
/-- An end of an edge that is not x hangs together with the other one that is not. -/
theorem con_other (g : Gr n E) (h : Edges n m E el) {i v u x : Nat} (hi : i < m) (hc : Inc el i v u) (hv : v ≠ x) : Con E x (otherN (el i) x) v ∧ Con E x v (otherN (el i) x) := by
  obtain ⟨y, hy, hne⟩ := other_cases g h hi x
  have hyE := (hy.edge g h hi).1
  by_cases e : otherN (el i) x = v
  · rw [e]; exact ⟨.refl _, .refl _⟩
  · have : y = v := by
      rcases hy with h1 | h1 <;> rcases hc with h2 | h2 <;> rw [h1] at h2 <;> simp at h2 <;> omega
    subst this
    exact ⟨.one ⟨hyE, hv⟩, .one ⟨g.symm _ _ hyE, hne⟩⟩

theorem link_con (g : Gr n E) (h : Edges n m E el) {i j : Nat} (hl : LkB m E el i j) (x : Nat) : Con E x (otherN (el i) x) (otherN (el j) x) := by
  obtain ⟨hi, hj, v, u, w, h1, h2, hc⟩ := hl
  by_cases e : v = x
  · subst e
    rw [h1.other g h hi, h2.other g h hj]; exact hc
  · exact (con_other g h hi h1 e).1.trans (con_other g h hj h2 e).2
theorem star_con (g : Gr n E) (h : Edges n m E el) {i j : Nat} (hl : Star (LkB m E el) i j) (x : Nat) : Con E x (otherN (el i) x) (otherN (el j) x) :=
  Star.ind (P := fun j => Con E x (otherN (el i) x) (otherN (el j) x)) (.refl _) (fun _ _ _ h2 ih => ih.trans (link_con g h h2 x)) hl
theorem star_at (g : Gr n E) (h : Edges n m E el) {i j v u w : Nat} (hi : i < m) (hj : j < m) (h1 : Inc el i v u) (h2 : Inc el j v w) : Star (LkB m E el) i j ↔ Con E v u w := by
  constructor
  · intro hs
    have := star_con g h hs v
    rwa [h1.other g h hi, h2.other g h hj] at this
  · intro hc
    exact .one ⟨hi, hj, v, u, w, h1, h2, hc⟩
theorem link_symm (g : Gr n E) (h : Edges n m E el) : ∀ i j, LkB m E el i j → LkB m E el j i := by
  rintro i j ⟨hi, hj, v, u, w, h1, h2, hc⟩
  have := (h1.edge g h hi).2
  exact ⟨hj, hi, v, w, u, h2, h1, (Con.back g hc (fun e => this e.symm)).1⟩

/-- An edge is alone in its block just if no other way joins its ends. -/
theorem alone_bridge (g : Gr n E) (h : Edges n m E el) {i s t : Nat} (hi : i < m) (he : el i = (s, t)) : (∀ j, j < m → Star (LkB m E el) i j → j = i) ↔ ¬ Star (Less E s t) s t := by
  have hinc : Inc el i s t := Or.inl he
  have hE := hinc.edge g h hi
  constructor
  · intro hal hs
    obtain ⟨a, b, ⟨ha, hat⟩, hab, hb⟩ := Star.exit (P := fun x => Con E t s x ∧ x ≠ t) hs ⟨.refl _, hE.2⟩ (fun h => h.2 rfl)
    have hbt : b = t := Classical.byContradiction fun hbt => hb ⟨Star.step ha ⟨hab.1, hbt⟩, hbt⟩
    subst hbt
    have has : a ≠ s := fun e => hab.2 (Or.inl ⟨e, rfl⟩)
    obtain ⟨j, hj, hinc2⟩ := h.inc g hab.1
    have := hal j hj (.one ⟨hi, hj, b, s, a, hinc.swap, hinc2.swap, ha⟩)
    subst this
    rcases hinc2 with h2 | h2 <;> rw [he] at h2 <;> simp at h2 <;> omega
  · intro hno j hj hs
    refine Classical.byContradiction fun hne => hno ?_
    obtain ⟨c, k, rfl, hk, hki⟩ := Star.exit (P := fun x => x = i) hs rfl hne
    obtain ⟨_, hk', v, u, w, h1, h2, hc⟩ := hk
    have hvu := (h1.edge g h hi).2
    have hvw := h2.edge g h hk'
    have hwu : w ≠ u := fun e => hki (h.inj _ _ hk' hi (by
      subst e
      have a1 := h.ok c hi
      have a2 := h.ok k hk'
      rcases h1 with e1 | e1 <;> rcases h2 with e2 | e2
      · rw [e1, e2]
      · rw [e1] at a1; rw [e2] at a2; simp at a1 a2; omega
      · rw [e1] at a1; rw [e2] at a2; simp at a1 a2; omega
      · rw [e1, e2]))
    have hset : (v = s ∧ u = t) ∨ (v = t ∧ u = s) := by
      rcases h1 with e1 | e1 <;> rw [he] at e1 <;> simp at e1 <;> omega
    have way : Star (Less E s t) u w ∧ w ≠ v := by
      have hw := Star.within (e := fun a b => E a b ∧ b ≠ v) (f := Less E s t) (P := fun x => x ≠ v) (fun a b ha hab => ⟨hab.2, hab.1, fun hh => by
        have := hab.2
        rcases hh with ⟨rfl, rfl⟩ | ⟨rfl, rfl⟩ <;> rcases hset with ⟨rfl, rfl⟩ | ⟨rfl, rfl⟩ <;> first | exact ha rfl | exact this rfl⟩) hc (fun e => hvu e.symm)
      exact ⟨hw.2, hw.1⟩
    have last : Less E s t w v := ⟨g.symm _ _ hvw.1, fun hh => by
      rcases hh with ⟨h3, h4⟩ | ⟨h3, h4⟩ <;> rcases hset with ⟨h5, h6⟩ | ⟨h5, h6⟩ <;> omega⟩
    have huv : Star (Less E s t) u v := way.1.step last
    rcases hset with ⟨rfl, rfl⟩ | ⟨rfl, rfl⟩
    · exact huv.symm (less_symm g)
    · exact huv

/-- Edges that no node keeps apart are in one block. -/
theorem block_of_apart (g : Gr n E) (h : Edges n m E el) {i j : Nat} (hi : i < m) (hj : j < m) (hx : ∀ x, x < n → Con E x (otherN (el i) x) (otherN (el j) x)) : Star (LkB m E el) i j := by
  -- the nodes of the block of i
  let V : Nat → Prop := fun v => ∃ k u, k < m ∧ Star (LkB m E el) i k ∧ Inc el k v u
  -- if an end of j is there, so is j
  have hB : ∀ v w, Inc el j v w → V v → Star (LkB m E el) i j := by
    rintro v w hjv ⟨k, u, hk, hik, hkv⟩
    have hv := (g.lt _ _ (hjv.edge g h hj).1).1
    have h1 := star_con g h hik v
    have h2 := hx v hv
    rw [hjv.other g h hj] at h2
    rw [hkv.other g h hk] at h1
    obtain ⟨y, hy, hne⟩ := other_cases g h hi v
    exact hik.trans (.one ⟨hk, hj, v, u, w, hkv, hjv, ((Con.back g h1 hne).1).trans h2⟩)
  by_cases hV : V (el j).1
  · exact hB _ _ (Or.inl rfl) hV
  by_cases hV2 : V (el j).2
  · exact hB _ _ (Or.inr rfl) hV2
  exfalso
  have hj' := h.ok j hj
  have hi' := h.ok i hi
  have hln := g.lt _ _ hi'.2
  -- a way from an end of i to an end of j
  have hway : Star E (otherN (el i) (el i).1) (otherN (el j) (el i).1) := (hx _ hln.1).whole
  have hstart : V (otherN (el i) (el i).1) := by
    obtain ⟨y, hy, _⟩ := other_cases g h hi (el i).1
    exact ⟨i, y, hi, .refl _, hy⟩
  have hend : ¬ V (otherN (el j) (el i).1) := by
    unfold otherN
    split <;> assumption
  -- the last node of the way that is in the block: here by the set of those that hang together with the end outside of it
  have hend2 : ∀ v, V v → Con E v (otherN (el j) v) (otherN (el j) (el i).1) := by
    intro v hv
    have n1 : (el j).1 ≠ v := fun e => hV (e ▸ hv)
    have n2 : (el j).2 ≠ v := fun e => hV2 (e ▸ hv)
    have e1 : otherN (el j) v = (el j).1 := by unfold otherN; rw [if_neg n1]
    rw [e1]
    unfold otherN
    split
    · exact .one ⟨hj'.2, n2⟩
    · exact .refl _
  -- backwards: the nodes that lead to the end outside V
  obtain ⟨c, d, hc, hcd, hd⟩ := Star.exit (P := fun x => Star (fun a b => E a b ∧ ¬ V b) (otherN (el j) (el i).1) x ∧ ¬ V x) (hway.symm g.symm) ⟨.refl _, hend⟩ (fun hh => hh.2 hstart)
  have hVd : V d := Classical.byContradiction fun hn => hd ⟨hc.1.step ⟨hcd, hn⟩, hn⟩
  -- so c is near d, and hangs together with j without d
  have hcon : Con E d (otherN (el j) (el i).1) c := hc.1.mono fun a b hab => ⟨hab.1, fun e => hab.2 (e ▸ hVd)⟩
  obtain ⟨k, u, hk, hik, hkv⟩ := hVd
  have hdn := (g.lt _ _ hcd).2
  have h1 := star_con g h hik d
  rw [hkv.other g h hk] at h1
  obtain ⟨y, hy, hne⟩ := other_cases g h hi d
  have h2 := (hx d hdn).trans ((hend2 d ⟨k, u, hk, hik, hkv⟩).trans hcon)
  obtain ⟨l, hl, hlc⟩ := h.inc g (g.symm _ _ hcd)
  have : Star (LkB m E el) i l := hik.trans (.one ⟨hk, hl, d, u, c, hkv, hlc, ((Con.back g h1 hne).1).trans h2⟩)
  exact hc.2 ⟨l, d, hl, this, hlc.swap⟩
end edges
end Go.Proofs.Ytfdlndljpmamgaa
