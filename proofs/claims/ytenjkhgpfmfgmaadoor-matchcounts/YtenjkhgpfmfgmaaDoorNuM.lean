/- Of which nodes a greatest matching may leave alone, and how many pairs there are at most among some nodes: plain mathematics. How many matchings go to all nodes of a set: from whichever node one begins: plain mathematics. -/
import Derived.Test.YtenjkhgpfmfgmaaDoorTutteM
namespace Go.Proofs.YtenjkhgpfmfgmaaDoor

theorem cnt_or_le (N : Nat) (p q : Nat → Bool) : cnt N (fun z => p z || q z) ≤ cnt N p + cnt N q := by
  induction N with
  | zero => simp [cnt]
  | succ N ih =>
    rw [cnt_succ, cnt_succ, cnt_succ]
    cases p N <;> cases q N <;> simp <;> omega
theorem cnt_le {N : Nat} {p q : Nat → Bool} (h : ∀ z, z < N → p z = true → q z = true) : cnt N p ≤ cnt N q := cnt_map (fun z => z) (fun z hz hp => ⟨hz, h z hz hp⟩) (fun _ _ _ _ _ _ e => e)
theorem cnt_eq1 {N c : Nat} (hc : c < N) : cnt N (fun z => z == c) = 1 := by
  have h1 := cnt_one (N := N) (p := fun z => z == c) c (fun z _ h => by simpa using h)
  have h2 := cnt_pos (p := fun z => z == c) hc (by simp)
  omega
theorem cnt_add {N c : Nat} {p : Nat → Bool} (hc : c < N) (h : p c = false) : cnt N (fun z => z == c || p z) = cnt N p + 1 := by
  rw [cnt_or (fun z _ hz => by simp at hz; rw [hz]; exact h), cnt_eq1 hc]
  omega

/-- How many nodes m pairs. -/
def szM (N : Nat) (m : Nat → Option Nat) : Nat := cnt N fun z => (m z).isSome
def loneN (N : Nat) (m : Nat → Option Nat) : Nat := cnt N fun z => (m z).isNone
theorem lone_sz (N : Nat) (m : Nat → Option Nat) : loneN N m + szM N m = N := by
  have h := cnt_split N (fun _ => true) (fun z => (m z).isSome)
  rw [cnt_true] at h
  have h1 : cnt N (fun z => true && (m z).isSome) = szM N m := cnt_congr fun z _ => by simp
  have h2 : cnt N (fun z => true && !(m z).isSome) = loneN N m := cnt_congr fun z _ => by cases m z <;> rfl
  omega

section
variable {N : Nat} {E : Nat → Nat → Prop} {m : Nat → Option Nat}
theorem sz_prs (hM : Mat N E m) (hir : ∀ a, ¬ E a a) : szM N m = 2 * (prs m N).length := by
  have h := cnt_mate hM hir (p := fun z => (m z).isSome) (fun z _ hz => by
    obtain ⟨x, hx⟩ := Option.isSome_iff_exists.1 hz
    exact ⟨x, hx, by simp [hM.sym _ _ hx]⟩)
  have e : cnt N (fun z => (m z).isSome && upB m z) = (prs m N).length := by
    unfold prs
    rw [List.length_map]
    refine cnt_congr fun z hz => ?_
    cases hm : m z with
    | none => simp [upB, hm]
    | some x => simp
  unfold szM
  omega

variable {evs : Nat → Nat → Bool} {Ods : Nat → Nat → Prop} {ks : Nat → Nat → Nat}

theorem Gal.evlt (h : Gal N E m evs Ods ks) (hM : Mat N E m) {r z : Nat} (hr : r < N) (hl : m r = none) (he : evs r z = true) : z < N := by
  obtain ⟨f, l, _, hw, _⟩ := (h.ways r hr hl).reach z he
  cases l with
  | nil => rw [show z = r from hw]; exact hr
  | cons d l =>
    obtain ⟨_, x, w, h2, _⟩ := hw
    exact (hM.lt _ _ h2).1

/-- Out of each part of D some node has no mate within it. -/
theorem Gal.escape (h : Gal N E m evs Ods ks) (hM : Mat N E m) (hs : ∀ a b, E a b → E b a) (hir : ∀ a, ¬ E a a) {m' : Nat → Option Nat} (hM' : Mat N E m') {r b : Nat} (hr : r < N) (hl : m r = none) (hb : evs r b = true) (hk : ks r b = b) :
    ∃ z, evs r z = true ∧ ks r z = b ∧ (m' z = none ∨ ∃ x, m' z = some x ∧ InA N E m evs x) := by
  have ht := h.trap r hr hl
  obtain ⟨K, hK⟩ : ∃ K : Nat → Bool, K = fun z => evs r z && (ks r z == b) := ⟨_, rfl⟩
  have hKi : ∀ z, K z = true ↔ evs r z = true ∧ ks r z = b := fun z => by rw [hK]; simp
  have hodd : cnt N K % 2 = 1 := by
    have h1 := cnt_split N K (fun z => z == b)
    have h2 : cnt N (fun z => K z && (z == b)) = 1 := by
      rw [← cnt_eq1 (h.evlt hM hr hl hb)]
      refine cnt_congr fun z _ => ?_
      by_cases e : z = b
      · subst e; simp [(hKi z).2 ⟨hb, hk⟩]
      · simp [e]
    have h3 := cnt_mate hM hir (p := fun z => K z && !(z == b)) (fun z hz hp => by
      simp only [Bool.and_eq_true, Bool.not_eq_true', beq_eq_false_iff_ne] at hp
      obtain ⟨he, hkz⟩ := (hKi z).1 hp.1
      obtain ⟨x, h4, h5, h6⟩ := ht.inn z he (by rw [hkz]; exact fun e => hp.2 e.symm)
      refine ⟨x, h4, ?_⟩
      have hxb : x ≠ b := fun e => by
        subst e
        have hm := hM.sym _ _ h4
        rcases ht.out x hb hk with ⟨h7, _⟩ | ⟨y, h7, h8⟩
        · rw [h7] at hm; cases hm
        · have e : y = z := Option.some.inj (h7.symm.trans hm)
          rw [e] at h8
          exact ht.disj z he h8
      simp [(hKi x).2 ⟨h5, h6.trans hkz⟩, hxb])
    omega
  by_cases hx : ∃ z, z < N ∧ K z = true ∧ ¬ ∃ x, m' z = some x ∧ K x = true
  · obtain ⟨z, _, hz, hno⟩ := hx
    obtain ⟨he, hkz⟩ := (hKi z).1 hz
    refine ⟨z, he, hkz, ?_⟩
    cases hm : m' z with
    | none => exact Or.inl rfl
    | some x =>
      refine Or.inr ⟨x, rfl, ?_⟩
      rcases h.nb hM hs hr hl he (hM'.edge _ _ hm) with ⟨g1, g2⟩ | g
      · exact absurd ⟨x, hm, (hKi x).2 ⟨g1, g2.trans hkz⟩⟩ hno
      · exact g
  · exfalso
    have h3 := cnt_mate hM' hir (p := K) (fun z hz hp => Classical.byContradiction fun hno => hx ⟨z, hz, hp, hno⟩)
    omega

/-- Parts of D with a node together are the same. -/
theorem Gal.same (h : Gal N E m evs Ods ks) (hM : Mat N E m) (hs : ∀ a b, E a b → E b a) {r1 r2 z : Nat} (hr1 : r1 < N) (hl1 : m r1 = none) (hr2 : r2 < N) (hl2 : m r2 = none) (h1 : evs r1 z = true) (h2 : evs r2 z = true) : ks r1 z = ks r2 z := by
  have hst := (h.ways r2 hr2 hl2).con z h2
  have key : evs r1 (ks r2 z) = true ∧ ks r1 (ks r2 z) = ks r1 z := Star.ind (P := fun y => evs r1 y = true ∧ ks r1 y = ks r1 z) ⟨h1, rfl⟩ (fun b c _ hbc ih => by
    rcases h.nb hM hs hr1 hl1 ih.1 hbc.1 with g | g
    · exact ⟨g.1, g.2.trans ih.2⟩
    · exact absurd ⟨r2, hr2, hl2, hbc.2.1⟩ g.1) hst
  have hb := (h.trap r2 hr2 hl2).base z h2
  have hB : Bse N E m evs (ks r2 z) := (h.base hM hs hr2 hl2 hb.1).2 hb.2
  have := (h.base hM hs hr1 hl1 key.1).1 hB
  rw [← key.2, this]

/-- No matching leaves fewer nodes alone; one that leaves a node out of D alone leaves more. -/
theorem Gal.bound (h : Gal N E m evs Ods ks) (hM : Mat N E m) (hs : ∀ a b, E a b → E b a) (hir : ∀ a, ¬ E a a) {m' : Nat → Option Nat} (hM' : Mat N E m') {X : Nat → Bool} (hX : ∀ z, z < N → (X z = true ↔ m' z = none ∧ InD N m evs z)) : szM N m' + cnt N (fun z => (m' z).isNone && !X z) ≤ szM N m := by
  obtain ⟨aB, ha⟩ := ex1 (InA N E m evs)
  obtain ⟨bB, hb⟩ := ex1 (Bse N E m evs)
  have hbs := h.bases hM hir (aB := aB) (bB := bB) (fun z _ => ha z) (fun z _ => hb z)
  have e1 := sz_prs hM hir
  have e2 := lone_sz N m'
  have hesc : ∀ b, b < N → bB b = true → ∃ z, (∃ r, r < N ∧ m r = none ∧ evs r z = true ∧ ks r z = b) ∧ (m' z = none ∨ ∃ x, m' z = some x ∧ InA N E m evs x) := fun b hbN hbb => by
    have hB := (hb b).1 hbb
    have hD : InD N m evs b := by
      rcases hB with h1 | ⟨x, h1, h2⟩
      · exact h.lone hbN h1
      · obtain ⟨y, g1, g2⟩ := h.mateA h2
        rw [hM.sym _ _ h1] at g1; cases g1
        exact g2
    obtain ⟨r, hr, hl, he⟩ := hD
    obtain ⟨z, h3, h4, h5⟩ := h.escape hM hs hir hM' hr hl he ((h.base hM hs hr hl he).1 hB)
    exact ⟨z, ⟨r, hr, hl, h3, h4⟩, h5⟩
  have hch : ∃ s : Nat → Nat, ∀ b, b < N → bB b = true → (∃ r, r < N ∧ m r = none ∧ evs r (s b) = true ∧ ks r (s b) = b) ∧ (m' (s b) = none ∨ ∃ x, m' (s b) = some x ∧ InA N E m evs x) := by
    refine ⟨fun b => if hh : b < N ∧ bB b = true then Classical.choose (hesc b hh.1 hh.2) else 0, fun b hbN hbb => ?_⟩
    simp only [dif_pos (And.intro hbN hbb)]
    exact Classical.choose_spec (hesc b hbN hbb)
  obtain ⟨s, hs'⟩ := hch
  have hle : cnt N bB ≤ cnt N (fun z => X z || ((m' z).any fun x => aB x)) := by
    refine cnt_map s (fun z hz hp => ?_) (fun a b ha' hb' pa pb e => ?_)
    · obtain ⟨⟨r, hr, hl, he, _⟩, h2⟩ := hs' z hz hp
      refine ⟨h.evlt hM hr hl he, ?_⟩
      rcases h2 with h2 | ⟨x, h2, h3⟩
      · simp [(hX (s z) (h.evlt hM hr hl he)).2 ⟨h2, r, hr, hl, he⟩]
      · simp [h2, (ha x).2 h3]
    · obtain ⟨⟨r1, hr1, hl1, he1, hk1⟩, _⟩ := hs' a ha' pa
      obtain ⟨⟨r2, hr2, hl2, he2, hk2⟩, _⟩ := hs' b hb' pb
      rw [e] at he1 hk1
      exact hk1.symm.trans ((h.same hM hs hr1 hl1 hr2 hl2 he1 he2).trans hk2)
  have h3 := cnt_or_le N X (fun z => (m' z).any fun x => aB x)
  have h4 : cnt N (fun z => (m' z).any fun x => aB x) ≤ cnt N aB := by
    refine cnt_map (fun z => (m' z).getD 0) (fun z hz hp => ?_) (fun a b ha' hb' pa pb e => ?_)
    · cases hm : m' z with
      | none => rw [hm] at hp; simp at hp
      | some x => rw [hm] at hp; exact ⟨(hM'.lt _ _ hm).2, by simpa using hp⟩
    · cases hma : m' a with
      | none => rw [hma] at pa; simp at pa
      | some x =>
        cases hmb : m' b with
        | none => rw [hmb] at pb; simp at pb
        | some y =>
          rw [hma, hmb] at e
          simp at e
          subst e
          exact hM'.inj hma hmb
  have h5 := cnt_split N (fun z => (m' z).isNone) X
  have h6 : cnt N (fun z => (m' z).isNone && X z) = cnt N X := cnt_congr fun z hz => by
    cases hx : X z with
    | false => simp
    | true => simp [((hX z hz).1 hx).1]
  unfold loneN at e2
  omega

/-- A node of D can be left alone. -/
theorem way_turn (hM : Mat N E m) (hs : ∀ a b, E a b → E b a) {r : Nat} (hr : m r = none) (hrN : r < N) : ∀ {f : Nat → Option Nat} {l : List Nat} {y : Nat}, (∀ x w, f x = some w → E x w) → Way m f y l r → Simple m l r → (∀ a b, E a b → a < N ∧ b < N) →
    ∃ m', Mat N E m' ∧ m' y = none ∧ szM N m' = szM N m ∧ y < N ∧ ∀ z, z ≠ r → z ∉ l → (∀ a ∈ l, m a ≠ some z) → m' z = m z
  | f, [], y, _, hw, _, _ => by
    have : y = r := hw
    subst this
    exact ⟨m, hM, hr, rfl, hrN, fun _ _ _ _ => rfl⟩
  | f, d :: l, y, hf, ⟨h1, x, w, h2, h3, h4⟩, hS, hlt => by
    subst h1
    have hS' : Simple m l r := ⟨(List.nodup_cons.1 hS.nodup).2, fun h => hS.last (by simp [h]), fun a ha c hc => ⟨fun h => (hS.off a (by simp [ha]) c hc).1 (by simp [h]), (hS.off a (by simp [ha]) c hc).2⟩⟩
    obtain ⟨m1, hM1, hw1, hz1, hwN, hk1⟩ := way_turn hM hs hr hrN hf h4 hS' hlt
    have hdl := (List.nodup_cons.1 hS.nodup).1
    have hxo := hS.off d (by simp) x h2
    have m1d : m1 d = some x := by
      rw [hk1 d (fun e => hS.last (by simp [e])) hdl (fun a ha e => (hS.off a (by simp [ha]) d e).1 (by simp))]
      exact h2
    have m1x : m1 x = some d := hM1.sym _ _ m1d
    have hxw : x ≠ w := fun e => by rw [e, hw1] at m1x; cases m1x
    have hdw : d ≠ w := fun e => by rw [e, hw1] at m1d; cases m1d
    have hdx : d ≠ x := fun e => hxo.1 (by rw [← e]; simp)
    have hE := hf x w h3
    have hdN := (hM.lt _ _ h2).1
    refine ⟨fun z => if z = d then none else if z = x then some w else if z = w then some x else m1 z, ⟨fun a b hab => ?_, fun a b hab => ?_, fun a b hab => ?_⟩, by simp, ?_, hdN, fun z hzr hzl hzm => ?_⟩
    · by_cases e1 : a = d
      · simp [e1] at hab
      · by_cases e2 : a = x
        · subst e2; rw [if_neg e1, if_pos rfl] at hab; cases hab; exact hlt _ _ hE
        · by_cases e3 : a = w
          · subst e3; rw [if_neg e1, if_neg e2, if_pos rfl] at hab; cases hab; exact (hlt _ _ hE).symm
          · rw [if_neg e1, if_neg e2, if_neg e3] at hab; exact hM1.lt _ _ hab
    · by_cases e1 : a = d
      · simp [e1] at hab
      · by_cases e2 : a = x
        · subst e2; rw [if_neg e1, if_pos rfl] at hab; cases hab
          simp [hdw.symm, hxw.symm]
        · by_cases e3 : a = w
          · subst e3; rw [if_neg e1, if_neg e2, if_pos rfl] at hab; cases hab
            simp [hdx.symm]
          · rw [if_neg e1, if_neg e2, if_neg e3] at hab
            have hba := hM1.sym _ _ hab
            have c1 : b ≠ d := fun e => by rw [e, m1d] at hba; cases hba; exact e2 rfl
            have c2 : b ≠ x := fun e => by rw [e, m1x] at hba; cases hba; exact e1 rfl
            have c3 : b ≠ w := fun e => by rw [e, hw1] at hba; cases hba
            rw [if_neg c1, if_neg c2, if_neg c3]
            exact hba
    · by_cases e1 : a = d
      · simp [e1] at hab
      · by_cases e2 : a = x
        · subst e2; rw [if_neg e1, if_pos rfl] at hab; cases hab; exact hE
        · by_cases e3 : a = w
          · subst e3; rw [if_neg e1, if_neg e2, if_pos rfl] at hab; cases hab; exact hs _ _ hE
          · rw [if_neg e1, if_neg e2, if_neg e3] at hab; exact hM1.edge _ _ hab
    · rw [← hz1]
      have q1 := cnt_add (N := N) (c := w) (p := fun z => !(z == d) && (m1 z).isSome) hwN (by simp [hw1])
      have q2 := cnt_add (N := N) (c := d) (p := fun z => !(z == d) && (m1 z).isSome) hdN (by simp)
      have r1 : cnt N (fun z => z == w || !(z == d) && (m1 z).isSome) = szM N (fun z => if z = d then none else if z = x then some w else if z = w then some x else m1 z) := cnt_congr fun z _ => by
        by_cases e1 : z = d
        · subst e1
          have b3 : (z == w) = false := by simpa using hdw
          simp [b3]
        · have b1 : (z == d) = false := by simpa using e1
          by_cases e2 : z = x
          · subst e2; simp [e1, b1, m1x]
          · by_cases e3 : z = w
            · subst e3; simp [e1, e2]
            · have b3 : (z == w) = false := by simpa using e3
              simp [e1, e2, e3, b1, b3]
      have r2 : cnt N (fun z => z == d || !(z == d) && (m1 z).isSome) = szM N m1 := cnt_congr fun z _ => by
        by_cases e1 : z = d
        · subst e1; simp [m1d]
        · have b1 : (z == d) = false := by simpa using e1
          simp [b1]
      omega
    · have e1 : z ≠ d := fun e => hzl (by simp [e])
      have e2 : z ≠ x := fun e => hzm d (by simp) (by rw [e]; exact h2)
      have e4 := hk1 z hzr (fun e => hzl (by simp [e])) (fun a ha => hzm a (by simp [ha]))
      have e3 : z ≠ w := fun e => by
        cases hl : l with
        | nil => rw [hl] at h4; exact hzr (e.trans (show w = r from h4))
        | cons c l' => rw [hl] at h4; exact hzl (by rw [e, ← h4.1, hl]; simp)
      simp [e1, e2, e3, e4]

theorem Gal.free (h : Gal N E m evs Ods ks) (hM : Mat N E m) (hs : ∀ a b, E a b → E b a) (hlt : ∀ a b, E a b → a < N ∧ b < N) {v : Nat} (hv : InD N m evs v) : ∃ m', Mat N E m' ∧ m' v = none ∧ szM N m' = szM N m := by
  obtain ⟨r, hr, hl, he⟩ := hv
  obtain ⟨f, l, hf, hw, hS⟩ := (h.ways r hr hl).reach v he
  obtain ⟨m', h1, h2, h3, _⟩ := way_turn hM hs hl hr hf hw hS hlt
  exact ⟨m', h1, h2, h3⟩

/-- k pairs are the most among the nodes of s. -/
def IsNu (N : Nat) (E : Nat → Nat → Prop) (s : Nat → Bool) (k : Nat) : Prop :=
  (∃ m', Mat N E m' ∧ (∀ z, s z = false → m' z = none) ∧ szM N m' = 2 * k) ∧ ∀ m', Mat N E m' → (∀ z, s z = false → m' z = none) → szM N m' ≤ 2 * k
theorem IsNu.uniq {s : Nat → Bool} {k k' : Nat} (h : IsNu N E s k) (h' : IsNu N E s k') : k = k' := by
  obtain ⟨⟨m1, a1, a2, a3⟩, a4⟩ := h
  obtain ⟨⟨m2, b1, b2, b3⟩, b4⟩ := h'
  have := a4 m2 b1 b2
  have := b4 m1 a1 a2
  omega

theorem isNu_none {s : Nat → Bool} (h : ∀ z, z < N → s z = false) : IsNu N E s 0 := by
  refine ⟨⟨fun _ => none, ⟨fun _ _ h => (by cases h), fun _ _ h => (by cases h), fun _ _ h => (by cases h)⟩, fun _ _ => rfl, cnt_zero fun _ _ => rfl⟩, fun m' hM' hs => ?_⟩
  have : szM N m' = 0 := cnt_zero fun z hz => by rw [hs z (h z hz)]; rfl
  omega

/-- So far: those that pair v with none, or with one below j. -/
def NuTo (N : Nat) (E : Nat → Nat → Prop) (s : Nat → Bool) (v j b : Nat) : Prop :=
  (∃ m', Mat N E m' ∧ (∀ z, s z = false → m' z = none) ∧ szM N m' = 2 * b) ∧ ∀ m', Mat N E m' → (∀ z, s z = false → m' z = none) → (∀ x, m' v = some x → x < j) → szM N m' ≤ 2 * b

def outB (s : Nat → Bool) (v : Nat) (z : Nat) : Bool := s z && !(z == v)
theorem outB_false {s : Nat → Bool} {v z : Nat} : outB s v z = false ↔ s z = false ∨ z = v := by
  unfold outB
  cases s z <;> simp

theorem nuTo_start (hir : ∀ a, ¬ E a a) {s : Nat → Bool} {v k : Nat} (hlow : ∀ z, z < v → s z = false) (h : IsNu N E (outB s v) k) : NuTo N E s v (v + 1) k := by
  obtain ⟨⟨m1, a1, a2, a3⟩, a4⟩ := h
  refine ⟨⟨m1, a1, fun z hz => a2 z (outB_false.2 (Or.inl hz)), a3⟩, fun m' hM' hs hx => a4 m' hM' fun z hz => ?_⟩
  rcases outB_false.1 hz with h1 | h1
  · exact hs z h1
  · subst h1
    cases e : m' z with
    | none => rfl
    | some x =>
      exfalso
      have h1 := hx x e
      by_cases hxz : x = z
      · subst hxz; exact hir x (hM'.edge _ _ e)
      · have := hs x (hlow x (by omega))
        rw [hM'.sym _ _ e] at this; cases this

theorem nuTo_skip {s : Nat → Bool} {v j b : Nat} (h : NuTo N E s v j b) (hno : ¬ (s j = true ∧ E v j)) : NuTo N E s v (j + 1) b := by
  refine ⟨h.1, fun m' hM' hs hx => h.2 m' hM' hs fun x e => ?_⟩
  have h1 := hx x e
  by_cases hxj : x = j
  · exfalso
    subst hxj
    refine hno ⟨?_, hM'.edge _ _ e⟩
    cases h2 : s x with
    | true => rfl
    | false =>
      have := hs x h2
      rw [hM'.sym _ _ e] at this; cases this
  · omega

/-- A pair more. -/
theorem mat_put {m' : Nat → Option Nat} (hs : ∀ a b, E a b → E b a) (hir : ∀ a, ¬ E a a) (hM' : Mat N E m') {v w : Nat} (hv : v < N) (hw : w < N) (he : E v w) (h1 : m' v = none) (h2 : m' w = none) : ∃ n, Mat N E n ∧ szM N n = szM N m' + 2 ∧ ∀ z, z ≠ v → z ≠ w → n z = m' z := by
  have hvw : v ≠ w := fun e => hir v (by rw [← e] at he; exact he)
  refine ⟨fun z => if z = v then some w else if z = w then some v else m' z, ⟨fun a b hab => ?_, fun a b hab => ?_, fun a b hab => ?_⟩, ?_, fun z h3 h4 => by simp [h3, h4]⟩
  · by_cases e1 : a = v
    · subst e1; rw [if_pos rfl] at hab; cases hab; exact ⟨hv, hw⟩
    · by_cases e2 : a = w
      · subst e2; rw [if_neg e1, if_pos rfl] at hab; cases hab; exact ⟨hw, hv⟩
      · rw [if_neg e1, if_neg e2] at hab; exact hM'.lt _ _ hab
  · by_cases e1 : a = v
    · subst e1; rw [if_pos rfl] at hab; cases hab; simp [hvw.symm]
    · by_cases e2 : a = w
      · subst e2; rw [if_neg e1, if_pos rfl] at hab; cases hab; simp
      · rw [if_neg e1, if_neg e2] at hab
        have hba := hM'.sym _ _ hab
        have c1 : b ≠ v := fun e => by rw [e, h1] at hba; cases hba
        have c2 : b ≠ w := fun e => by rw [e, h2] at hba; cases hba
        rw [if_neg c1, if_neg c2]; exact hba
  · by_cases e1 : a = v
    · subst e1; rw [if_pos rfl] at hab; cases hab; exact he
    · by_cases e2 : a = w
      · subst e2; rw [if_neg e1, if_pos rfl] at hab; cases hab; exact hs _ _ he
      · rw [if_neg e1, if_neg e2] at hab; exact hM'.edge _ _ hab
  · have bvw : (v == w) = false := by simpa using hvw
    have q1 := cnt_add (N := N) (c := w) (p := fun z => (m' z).isSome) hw (by simp [h2])
    have q2 := cnt_add (N := N) (c := v) (p := fun z => z == w || (m' z).isSome) hv (by simp [h1, bvw])
    have r1 : cnt N (fun z => z == v || (z == w || (m' z).isSome)) = szM N (fun z => if z = v then some w else if z = w then some v else m' z) := cnt_congr fun z _ => by
      by_cases e1 : z = v
      · simp [e1]
      · have b1 : (z == v) = false := by simpa using e1
        by_cases e2 : z = w
        · subst e2; simp [e1]
        · have b2 : (z == w) = false := by simpa using e2
          simp [e1, e2, b1, b2]
    have r2 : szM N m' = cnt N (fun z => (m' z).isSome) := rfl
    omega
/-- A pair less. -/
theorem mat_cut {m' : Nat → Option Nat} (hir : ∀ a, ¬ E a a) (hM' : Mat N E m') {v w : Nat} (h1 : m' v = some w) : ∃ n, Mat N E n ∧ szM N n + 2 = szM N m' ∧ n v = none ∧ n w = none ∧ ∀ z, m' z = none → n z = none := by
  have h2 := hM'.sym _ _ h1
  have hvw : v ≠ w := fun e => hir v (by have := hM'.edge _ _ h1; rwa [← e] at this)
  have hl := hM'.lt _ _ h1
  refine ⟨fun z => if z = v then none else if z = w then none else m' z, ⟨fun a b hab => ?_, fun a b hab => ?_, fun a b hab => ?_⟩, ?_, by simp, by simp, fun z hz => by simp [hz]⟩
  · by_cases e1 : a = v
    · simp [e1] at hab
    · by_cases e2 : a = w
      · simp [e2] at hab
      · rw [if_neg e1, if_neg e2] at hab; exact hM'.lt _ _ hab
  · by_cases e1 : a = v
    · simp [e1] at hab
    · by_cases e2 : a = w
      · simp [e2] at hab
      · rw [if_neg e1, if_neg e2] at hab
        have hba := hM'.sym _ _ hab
        have c1 : b ≠ v := fun e => by rw [e, h1] at hba; cases hba; exact e2 rfl
        have c2 : b ≠ w := fun e => by rw [e, h2] at hba; cases hba; exact e1 rfl
        rw [if_neg c1, if_neg c2]; exact hba
  · by_cases e1 : a = v
    · simp [e1] at hab
    · by_cases e2 : a = w
      · simp [e2] at hab
      · rw [if_neg e1, if_neg e2] at hab; exact hM'.edge _ _ hab
  · have bvw : (v == w) = false := by simpa using hvw
    have q1 := cnt_add (N := N) (c := w) (p := fun z => ((if z = v then none else if z = w then none else m' z) : Option Nat).isSome) hl.2 (by simp)
    have q2 := cnt_add (N := N) (c := v) (p := fun z => z == w || ((if z = v then none else if z = w then none else m' z) : Option Nat).isSome) hl.1 (by simp [bvw])
    have r1 : cnt N (fun z => z == v || (z == w || ((if z = v then none else if z = w then none else m' z) : Option Nat).isSome)) = szM N m' := cnt_congr fun z _ => by
      by_cases e1 : z = v
      · simp [e1, h1]
      · have b1 : (z == v) = false := by simpa using e1
        by_cases e2 : z = w
        · simp [e2, h2]
        · have b2 : (z == w) = false := by simpa using e2
          simp [e1, e2, b1, b2]
    have r2 : szM N (fun z => if z = v then none else if z = w then none else m' z) = cnt N (fun z => ((if z = v then none else if z = w then none else m' z) : Option Nat).isSome) := rfl
    omega

theorem nuTo_take (hs : ∀ a b, E a b → E b a) (hir : ∀ a, ¬ E a a) (hlt : ∀ a b, E a b → a < N ∧ b < N) {s : Nat → Bool} {v j b k : Nat} (h : NuTo N E s v j b) (hv : s v = true) (hj : s j = true) (he : E v j) (hk : IsNu N E (outB (outB s v) j) k) : NuTo N E s v (j + 1) (max b (1 + k)) := by
  obtain ⟨⟨m1, a1, a2, a3⟩, a4⟩ := h
  obtain ⟨⟨m2, b1, b2, b3⟩, b4⟩ := hk
  have hl := hlt _ _ he
  refine ⟨?_, fun m' hM' hw hx => ?_⟩
  · by_cases hc : 1 + k ≤ b
    · exact ⟨m1, a1, a2, by rw [a3]; omega⟩
    · obtain ⟨n, c1, c2, c3⟩ := mat_put hs hir b1 hl.1 hl.2 he (b2 v (outB_false.2 (Or.inl (outB_false.2 (Or.inr rfl))))) (b2 j (outB_false.2 (Or.inr rfl)))
      refine ⟨n, c1, fun z hz => ?_, by rw [c2, b3]; omega⟩
      have e1 : z ≠ v := fun e => by rw [e, hv] at hz; cases hz
      have e2 : z ≠ j := fun e => by rw [e, hj] at hz; cases hz
      rw [c3 z e1 e2]
      exact b2 z (outB_false.2 (Or.inl (outB_false.2 (Or.inl hz))))
  · by_cases hc : m' v = some j
    · obtain ⟨n, c1, c2, c3, c4, c5⟩ := mat_cut hir hM' hc
      have := b4 n c1 (fun z hz => by
        rcases outB_false.1 hz with h1 | h1
        · rcases outB_false.1 h1 with h1 | h1
          · exact c5 z (hw z h1)
          · rw [h1]; exact c3
        · rw [h1]; exact c4)
      omega
    · have := a4 m' hM' hw (fun x e => by
        have h1 := hx x e
        have : x ≠ j := fun e2 => hc (by rw [e, e2])
        omega)
      omega

theorem nuTo_end {s : Nat → Bool} {v b : Nat} (h : NuTo N E s v N b) : IsNu N E s b := ⟨h.1, fun m' hM' hw => h.2 m' hM' hw fun _ e => (hM'.lt _ _ e).2⟩

/-- Just the nodes of D can be left out without loss. -/
theorem Gal.split (h : Gal N E m evs Ods ks) (hM : Mat N E m) (hs : ∀ a b, E a b → E b a) (hir : ∀ a, ¬ E a a) (hlt : ∀ a b, E a b → a < N ∧ b < N) {v k k' : Nat} {s s' : Nat → Bool} (hs1 : ∀ z, z < N → s z = true) (hs2 : ∀ z, z < N → (s' z = true ↔ z ≠ v)) (hv : v < N) (h1 : IsNu N E s k) (h2 : IsNu N E s' k') : k' = k ↔ InD N m evs v := by
  have hk : szM N m = 2 * k := by
    obtain ⟨⟨m1, a1, a2, a3⟩, a4⟩ := h1
    have q1 := a4 m hM (fun z hz => by
      cases e : m z with
      | none => rfl
      | some x => rw [hs1 z (hM.lt _ _ e).1] at hz; cases hz)
    obtain ⟨X, hX⟩ := ex1 (fun z => m1 z = none ∧ InD N m evs z)
    have q2 := h.bound hM hs hir a1 (X := X) (fun z _ => hX z)
    omega
  constructor
  · intro e
    obtain ⟨⟨m2, b1, b2, b3⟩, b4⟩ := h2
    apply Classical.byContradiction
    intro hnd
    obtain ⟨X, hX⟩ := ex1 (fun z => m2 z = none ∧ InD N m evs z)
    have q2 := h.bound hM hs hir b1 (X := X) (fun z _ => hX z)
    have hv2 : m2 v = none := b2 v (by
      cases e : s' v with
      | false => rfl
      | true => exact absurd rfl ((hs2 v hv).1 e))
    have q3 := cnt_pos (p := fun z => (m2 z).isNone && !X z) hv (by
      have : X v = false := by
        cases e : X v with
        | false => rfl
        | true => exact absurd ((hX v).1 e).2 hnd
      simp [hv2, this])
    omega
  · intro hd
    obtain ⟨m', g1, g2, g3⟩ := h.free hM hs hlt hd
    obtain ⟨⟨m2, b1, b2, b3⟩, b4⟩ := h2
    have q1 := b4 m' g1 (fun z hz => by
      cases e : m' z with
      | none => rfl
      | some x =>
        exfalso
        have hzN := (g1.lt _ _ e).1
        by_cases hzv : z = v
        · rw [hzv, g2] at e; cases e
        · rw [(hs2 z hzN).2 hzv] at hz; cases hz)
    obtain ⟨_, a4⟩ := h1
    have q2 := a4 m2 b1 (fun z hz => by
      cases e : m2 z with
      | none => rfl
      | some x => rw [hs1 z (b1.lt _ _ e).1] at hz; cases hz)
    omega
end
end Go.Proofs.YtenjkhgpfmfgmaaDoor

namespace Go.Proofs.YtenjkhgpfmfgmaaDoor

def sumN : Nat → (Nat → Nat) → Nat
  | 0, _ => 0
  | n + 1, f => sumN n f + f n
theorem sumN_congr {f g : Nat → Nat} : ∀ {N : Nat}, (∀ z, z < N → f z = g z) → sumN N f = sumN N g
  | 0, _ => rfl
  | n + 1, h => by rw [sumN, sumN, sumN_congr (fun z hz => h z (by omega)), h n (by omega)]
theorem sumN_add (f g : Nat → Nat) : ∀ N : Nat, sumN N (fun z => f z + g z) = sumN N f + sumN N g
  | 0 => rfl
  | n + 1 => by rw [sumN, sumN, sumN, sumN_add f g n]; omega
theorem sumN_zero : ∀ {N : Nat} {f : Nat → Nat}, (∀ z, z < N → f z = 0) → sumN N f = 0
  | 0, _, _ => rfl
  | n + 1, f, h => by rw [sumN, sumN_zero (fun z hz => h z (by omega)), h n (by omega)]
theorem sumN_one {c A : Nat} : ∀ {N : Nat}, c < N → sumN N (fun z => if z = c then A else 0) = A
  | 0, h => absurd h (Nat.not_lt_zero _)
  | n + 1, h => by
    rw [sumN]
    by_cases e : n = c
    · rw [if_pos e, sumN_zero (fun z hz => if_neg (by omega))]; omega
    · rw [if_neg e, sumN_one (by omega)]
      omega
theorem sumN_swap (f : Nat → Nat → Nat) (M : Nat) : ∀ N : Nat, sumN N (fun a => sumN M (fun b => f a b)) = sumN M (fun b => sumN N (fun a => f a b))
  | 0 => (sumN_zero (fun _ _ => rfl)).symm
  | n + 1 => by
    rw [sumN, sumN_swap f M n, ← sumN_add]
    rfl

/-- The least node of s. -/
def lowB (N : Nat) (s : Nat → Bool) : Option Nat := (List.range N).find? s
theorem lowB_some {N : Nat} {s : Nat → Bool} {l : Nat} (h : lowB N s = some l) : l < N ∧ s l = true := by
  have h1 := List.mem_of_find?_eq_some h
  have h2 := List.find?_some h
  exact ⟨by simpa using h1, h2⟩
theorem lowB_none {N : Nat} {s : Nat → Bool} (h : lowB N s = none) {z : Nat} (hz : z < N) : s z = false := by
  have := List.find?_eq_none.1 h z (by simpa using hz)
  simpa using this
theorem cnt_out {N : Nat} {s : Nat → Bool} {v : Nat} (hv : v < N) (h : s v = true) : cnt N (outB s v) + 1 = cnt N s := by
  have := cnt_add (N := N) (c := v) (p := outB s v) hv (by simp [outB])
  rw [← this]
  refine cnt_congr fun z _ => ?_
  unfold outB
  by_cases e : z = v
  · subst e; simp [h]
  · have b1 : (z == v) = false := by simpa using e
    simp [b1]
theorem cnt_out_le (N : Nat) (s : Nat → Bool) (v : Nat) : cnt N (outB s v) ≤ cnt N s := cnt_le fun z _ h => by unfold outB at h; simp at h; exact h.1

/-- How many matchings go to all nodes of s. -/
def pm (N : Nat) (e : Nat → Nat → Bool) (s : Nat → Bool) : Nat :=
  match _h : lowB N s with
  | none => 1
  | some l => sumN N fun w => if s w && !(w == l) && e l w then pm N e (outB (outB s l) w) else 0
  termination_by cnt N s
  decreasing_by
    have h1 := lowB_some _h
    have h2 := cnt_out h1.1 h1.2
    have h3 := cnt_out_le N (outB s l) w
    omega

theorem outB_comm (s : Nat → Bool) (a b : Nat) : outB (outB s a) b = outB (outB s b) a := by
  funext z
  unfold outB
  cases s z <;> cases (z == a) <;> cases (z == b) <;> rfl

theorem pm_none {N : Nat} {e : Nat → Nat → Bool} {s : Nat → Bool} (h : ∀ z, z < N → s z = false) : pm N e s = 1 := by
  rw [pm]
  split
  · rfl
  · rename_i l hl
    have := lowB_some hl
    rw [h l this.1] at this
    cases this.2
theorem pm_low {N : Nat} {e : Nat → Nat → Bool} {s : Nat → Bool} {l : Nat} (h : lowB N s = some l) : pm N e s = sumN N fun w => if s w && !(w == l) && e l w then pm N e (outB (outB s l) w) else 0 := by
  rw [pm]
  split
  · rename_i h'
    rw [h] at h'; cases h'
  · rename_i l' h'
    rw [h] at h'; cases h'
    rfl

/-- From whichever node one begins. -/
theorem pm_any {N : Nat} {e : Nat → Nat → Bool} (he : ∀ a b, e a b = e b a) : ∀ (n : Nat) (s : Nat → Bool) (v : Nat), cnt N s ≤ n → v < N → s v = true → pm N e s = sumN N fun w => if s w && !(w == v) && e v w then pm N e (outB (outB s v) w) else 0
  | 0, s, v, hn, hv, hs => by
    have := cnt_pos hv hs
    omega
  | n + 1, s, v, hn, hv, hs => by
    cases hl : lowB N s with
    | none => rw [lowB_none hl hv] at hs; cases hs
    | some l =>
      obtain ⟨hlN, hls⟩ := lowB_some hl
      by_cases hlv : l = v
      · subst hlv; exact pm_low hl
      · have bvl : (v == l) = false := by simp; omega
        have blv : (l == v) = false := by simp; omega
        rw [pm_low hl]
        have IH := pm_any (N := N) he n
        have L1 : sumN N (fun w => if s w && !(w == l) && e l w then pm N e (outB (outB s l) w) else 0) = sumN N (fun w => (if w = v then (if e l v = true then pm N e (outB (outB s l) v) else 0) else 0) + sumN N (fun x => if (s w && !(w == l) && !(w == v) && e l w) && (s x && !(x == l) && !(x == v) && !(x == w) && e v x) then pm N e (outB (outB (outB (outB s l) w) v) x) else 0)) := sumN_congr fun w hw => by
          by_cases e1 : w = v
          · subst e1
            rw [if_pos rfl, sumN_zero (fun x _ => by simp)]
            simp [hs, bvl]
          · have b1 : (w == v) = false := by simpa using e1
            rw [if_neg e1]
            cases hc : s w && !(w == l) && e l w with
            | false =>
              rw [sumN_zero (fun x _ => by
                have : (s w && !(w == l) && !(w == v) && e l w) = false := by
                  rw [b1]; simpa using hc
                rw [this]; simp)]
              simp
            | true =>
              have hvin : outB (outB s l) w v = true := by
                unfold outB
                have : (v == w) = false := by simp; omega
                simp [hs, bvl, this]
              have hcn : cnt N (outB (outB s l) w) ≤ n := by
                have h2 := cnt_out hlN hls
                have h3 := cnt_out_le N (outB s l) w
                omega
              rw [if_pos rfl, IH _ v hcn hv hvin, Nat.zero_add]
              refine sumN_congr fun x _ => ?_
              have h4 : (s w && !(w == l) && !(w == v) && e l w) = true := by
                rw [b1]; simpa using hc
              rw [h4]
              unfold outB
              cases s x <;> cases (x == l) <;> cases (x == w) <;> cases (x == v) <;> cases e v x <;> rfl
        have R1 : sumN N (fun x => if s x && !(x == v) && e v x then pm N e (outB (outB s v) x) else 0) = sumN N (fun x => (if x = l then (if e l v = true then pm N e (outB (outB s l) v) else 0) else 0) + sumN N (fun w => if (s w && !(w == l) && !(w == v) && e l w) && (s x && !(x == l) && !(x == v) && !(x == w) && e v x) then pm N e (outB (outB (outB (outB s l) w) v) x) else 0)) := sumN_congr fun x hx => by
          by_cases e1 : x = l
          · subst e1
            rw [if_pos rfl, sumN_zero (fun w _ => by simp), he v x, outB_comm s v x]
            simp [hls, blv]
          · have b1 : (x == l) = false := by simpa using e1
            rw [if_neg e1]
            cases hc : s x && !(x == v) && e v x with
            | false =>
              rw [sumN_zero (fun w _ => by
                have : (s x && !(x == l) && !(x == v) && !(x == w) && e v x) = false := by
                  rw [b1]
                  revert hc
                  cases s x <;> cases (x == v) <;> cases (x == w) <;> cases e v x <;> simp
                rw [this]; simp)]
              simp
            | true =>
              have hlin : outB (outB s v) x l = true := by
                unfold outB
                have : (l == x) = false := by simp; omega
                simp [hls, blv, this]
              have hcn : cnt N (outB (outB s v) x) ≤ n := by
                have h2 := cnt_out hv hs
                have h3 := cnt_out_le N (outB s v) x
                omega
              rw [if_pos rfl, IH _ l hcn hlN hlin, Nat.zero_add]
              refine sumN_congr fun w _ => ?_
              have ex : outB (outB (outB (outB s v) x) l) w = outB (outB (outB (outB s l) w) v) x := by
                funext z
                unfold outB
                cases s z <;> cases (z == v) <;> cases (z == x) <;> cases (z == l) <;> cases (z == w) <;> rfl
              rw [ex]
              have hwx : (x == w) = (w == x) := by rw [Bool.eq_iff_iff]; simp; exact ⟨fun h => h.symm, fun h => h.symm⟩
              have h5 : (s x && !(x == l) && !(x == v) && !(x == w) && e v x) = !(w == x) := by
                rw [b1, hwx]
                cases h6 : s x <;> cases h7 : (x == v) <;> cases h8 : e v x <;> simp [h6, h7, h8] at hc ⊢
              rw [h5]
              congr 1
              unfold outB
              cases s w <;> cases (w == v) <;> cases (w == x) <;> cases (w == l) <;> cases e l w <;> rfl
        rw [L1, R1, sumN_add, sumN_add, sumN_one hv, sumN_one hlN, sumN_swap]
end Go.Proofs.YtenjkhgpfmfgmaaDoor
