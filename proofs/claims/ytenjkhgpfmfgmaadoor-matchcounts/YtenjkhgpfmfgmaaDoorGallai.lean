/- What all searches show together, and how many odd parts there are: plain mathematics. -/
import Derived.Test.YtenjkhgpfmfgmaaDoorFlowers
import Derived.Test.YtenjkhgpfmfgmaaDoorWalk0
import Derived.Test.YtenjkhgpfmfgmaaDoorPairsW
namespace Go.Proofs.YtenjkhgpfmfgmaaDoor

def cnt (N : Nat) (p : Nat → Bool) : Nat := ((List.range N).filter p).length
theorem cnt_succ (N : Nat) (p : Nat → Bool) : cnt (N + 1) p = cnt N p + (if p N = true then 1 else 0) := by
  unfold cnt
  rw [List.range_succ, List.filter_append, List.length_append]
  by_cases h : p N = true
  · simp [h]
  · simp [h]
theorem cnt_congr {N : Nat} {p q : Nat → Bool} (h : ∀ z, z < N → p z = q z) : cnt N p = cnt N q := by
  induction N with
  | zero => rfl
  | succ N ih => rw [cnt_succ, cnt_succ, ih (fun z hz => h z (by omega)), h N (by omega)]
theorem cnt_or {N : Nat} {p q : Nat → Bool} (h : ∀ z, z < N → p z = true → q z = false) : cnt N (fun z => p z || q z) = cnt N p + cnt N q := by
  induction N with
  | zero => rfl
  | succ N ih =>
    rw [cnt_succ, cnt_succ, cnt_succ, ih (fun z hz => h z (by omega))]
    have hN := h N (by omega)
    cases hp : p N
    · simp; omega
    · rw [hN hp]; simp; omega
theorem cnt_split (N : Nat) (p q : Nat → Bool) : cnt N p = cnt N (fun z => p z && q z) + cnt N (fun z => p z && !q z) := by
  rw [← cnt_or (fun z _ h => by simp at h; simp [h.2])]
  exact cnt_congr fun z _ => by cases p z <;> cases q z <;> rfl
theorem cnt_true (N : Nat) : cnt N (fun _ => true) = N := by
  induction N with
  | zero => rfl
  | succ N ih => rw [cnt_succ, ih]; simp
theorem cnt_zero {N : Nat} {p : Nat → Bool} (h : ∀ z, z < N → p z = false) : cnt N p = 0 := by
  induction N with
  | zero => rfl
  | succ N ih => rw [cnt_succ, ih (fun z hz => h z (by omega)), h N (by omega)]; simp
theorem mem_rf {N : Nat} {p : Nat → Bool} {z : Nat} : z ∈ (List.range N).filter p ↔ z < N ∧ p z = true := by simp
theorem cnt_map {N : Nat} {p q : Nat → Bool} (s : Nat → Nat) (h : ∀ z, z < N → p z = true → s z < N ∧ q (s z) = true) (hi : ∀ a b, a < N → b < N → p a = true → p b = true → s a = s b → a = b) : cnt N p ≤ cnt N q := by
  have hn : ∀ l : List Nat, l.Nodup → (∀ a ∈ l, a < N ∧ p a = true) → (l.map s).Nodup := by
    intro l
    induction l with
    | nil => intro _ _; simp
    | cons a l ih =>
      intro hn hl
      have hn' := List.nodup_cons.1 hn
      rw [List.map_cons]
      refine List.nodup_cons.2 ⟨fun hm => ?_, ih hn'.2 (fun b hb => hl b (by simp [hb]))⟩
      obtain ⟨b, hb, e⟩ := List.mem_map.1 hm
      have h1 := hl a (by simp)
      have h2 := hl b (by simp [hb])
      have := hi b a h2.1 h1.1 h2.2 h1.2 e
      exact hn'.1 (this ▸ hb)
  have := nat_nodup_len (((List.range N).filter p).map s) ((List.range N).filter q) (hn _ (List.nodup_range.filter _) (fun a ha => mem_rf.1 ha)) (fun e he => by
    obtain ⟨z, hz, rfl⟩ := List.mem_map.1 he
    have := mem_rf.1 hz
    exact mem_rf.2 (h z this.1 this.2))
  simpa [cnt] using this
theorem cnt_one {N : Nat} {p : Nat → Bool} (c : Nat) (h : ∀ z, z < N → p z = true → z = c) : cnt N p ≤ 1 := by
  have := nat_nodup_len ((List.range N).filter p) [c] (List.nodup_range.filter _) (fun e he => by
    have := mem_rf.1 he
    simp [h e this.1 this.2])
  simpa [cnt] using this
theorem cnt_pos {N : Nat} {p : Nat → Bool} {c : Nat} (hc : c < N) (h : p c = true) : 1 ≤ cnt N p := List.length_pos_of_mem (mem_rf.2 ⟨hc, h⟩)

section
variable {N : Nat} {E : Nat → Nat → Prop} {m : Nat → Option Nat}

theorem cnt_mate (hM : Mat N E m) (hir : ∀ a, ¬ E a a) {p : Nat → Bool} (h : ∀ z, z < N → p z = true → ∃ x, m z = some x ∧ p x = true) : cnt N p = 2 * cnt N (fun z => p z && upB m z) := by
  have h1 := cnt_split N p (upB m)
  have hg : ∀ z, z < N → p z = true → ∃ x, m z = some x ∧ x < N ∧ p x = true ∧ z ≠ x ∧ (m z).getD 0 = x := fun z hz hp => by
    obtain ⟨x, hx, hpx⟩ := h z hz hp
    exact ⟨x, hx, (hM.lt _ _ hx).2, hpx, fun e => hir z (by have := hM.edge _ _ hx; rwa [← e] at this), by rw [hx]; rfl⟩
  have inj : ∀ a b, a < N → b < N → p a = true → p b = true → (m a).getD 0 = (m b).getD 0 → a = b := fun a b ha hb pa pb e => by
    obtain ⟨x, hx, _, _, _, e1⟩ := hg a ha pa
    obtain ⟨y, hy, _, _, _, e2⟩ := hg b hb pb
    rw [e1, e2] at e
    subst e
    exact hM.inj hx hy
  have up : ∀ z x, m z = some x → z ≠ x → upB m z = !upB m x := fun z x hz hne => by
    have := hM.sym _ _ hz
    simp only [upB, hz, this]
    by_cases c : z < x
    · simp [c]; omega
    · simp [c]; omega
  have a1 : cnt N (fun z => p z && upB m z) ≤ cnt N (fun z => p z && !upB m z) := cnt_map (fun z => (m z).getD 0) (fun z hz hp => by
    simp only [Bool.and_eq_true] at hp
    obtain ⟨x, hx, hxN, hpx, hne, e⟩ := hg z hz hp.1
    rw [e]
    refine ⟨hxN, ?_⟩
    have := up z x hx hne
    rw [hp.2] at this
    simp [hpx, ← this]) (fun a b ha hb pa pb e => by
    simp only [Bool.and_eq_true] at pa pb
    exact inj a b ha hb pa.1 pb.1 e)
  have a2 : cnt N (fun z => p z && !upB m z) ≤ cnt N (fun z => p z && upB m z) := cnt_map (fun z => (m z).getD 0) (fun z hz hp => by
    simp only [Bool.and_eq_true] at hp
    obtain ⟨x, hx, hxN, hpx, hne, e⟩ := hg z hz hp.1
    rw [e]
    refine ⟨hxN, ?_⟩
    have := up z x hx hne
    have h3 := hp.2
    rw [this] at h3
    simp at h3
    simp [hpx, h3]) (fun a b ha hb pa pb e => by
    simp only [Bool.and_eq_true] at pa pb
    exact inj a b ha hb pa.1 pb.1 e)
  omega

/-- The searches from all lone nodes below K. -/
structure Gal (K : Nat) (E : Nat → Nat → Prop) (m : Nat → Option Nat) (evs : Nat → Nat → Bool) (Ods : Nat → Nat → Prop) (ks : Nat → Nat → Nat) : Prop where
  trap : ∀ r, r < K → m r = none → Trap E m r (fun z => evs r z = true) (Ods r) (ks r)
  ways : ∀ r, r < K → m r = none → Ways E m r (fun z => evs r z = true) (ks r)

def InD (K : Nat) (m : Nat → Option Nat) (evs : Nat → Nat → Bool) (x : Nat) : Prop := ∃ r, r < K ∧ m r = none ∧ evs r x = true
def InA (K : Nat) (E : Nat → Nat → Prop) (m : Nat → Option Nat) (evs : Nat → Nat → Bool) (x : Nat) : Prop := ¬ InD K m evs x ∧ ∃ y, InD K m evs y ∧ E y x

variable {evs : Nat → Nat → Bool} {Ods : Nat → Nat → Prop} {ks : Nat → Nat → Nat}

theorem Gal.odd_d (h : Gal N E m evs Ods ks) (hM : Mat N E m) (hs : ∀ a b, E a b → E b a) {s x : Nat} (hsN : s < N) (hsl : m s = none) (hx : Ods s x) : ¬ InD N m evs x := by
  rintro ⟨r, hr, hl, he⟩
  obtain ⟨f, l, hf, hw, hS⟩ := (h.ways r hr hl).reach x he
  have ht := h.trap s hsN hsl
  by_cases e : x = r
  · obtain ⟨y, h1, _⟩ := ht.odd x hx
    rw [e, hl] at h1; cases h1
  · exact ht.even hM hs hf hl hw hS x (hw.head e) hx
theorem Gal.odd_a (h : Gal N E m evs Ods ks) (hM : Mat N E m) (hs : ∀ a b, E a b → E b a) {s x : Nat} (hsN : s < N) (hsl : m s = none) (hx : Ods s x) : InA N E m evs x := by
  refine ⟨h.odd_d hM hs hsN hsl hx, ?_⟩
  obtain ⟨w, h1, h2⟩ := (h.trap s hsN hsl).hang x hx
  exact ⟨w, ⟨s, hsN, hsl, h1⟩, hs _ _ h2⟩
theorem Gal.a_odd (h : Gal N E m evs Ods ks) {x : Nat} (hx : InA N E m evs x) : ∃ s, s < N ∧ m s = none ∧ Ods s x := by
  obtain ⟨h1, y, ⟨r, hr, hl, he⟩, h2⟩ := hx
  rcases (h.trap r hr hl).nb y x he h2 with ⟨g, _⟩ | g
  · exact absurd ⟨r, hr, hl, g⟩ h1
  · exact ⟨r, hr, hl, g⟩
theorem Gal.nb (h : Gal N E m evs Ods ks) (hM : Mat N E m) (hs : ∀ a b, E a b → E b a) {r y u : Nat} (hr : r < N) (hl : m r = none) (he : evs r y = true) (hu : E y u) : (evs r u = true ∧ ks r u = ks r y) ∨ InA N E m evs u := by
  rcases (h.trap r hr hl).nb y u he hu with g | g
  · exact Or.inl g
  · exact Or.inr (h.odd_a hM hs hr hl g)
def Bse (N : Nat) (E : Nat → Nat → Prop) (m : Nat → Option Nat) (evs : Nat → Nat → Bool) (z : Nat) : Prop := m z = none ∨ ∃ x, m z = some x ∧ InA N E m evs x
theorem Gal.base (h : Gal N E m evs Ods ks) (hM : Mat N E m) (hs : ∀ a b, E a b → E b a) {r z : Nat} (hr : r < N) (hl : m r = none) (he : evs r z = true) : Bse N E m evs z ↔ ks r z = z := by
  have ht := h.trap r hr hl
  constructor
  · intro hb
    by_cases e : ks r z = z
    · exact e
    · obtain ⟨x, h1, h2, _⟩ := ht.inn z he e
      rcases hb with hb | ⟨y, hb, hA⟩
      · rw [hb] at h1; cases h1
      · rw [h1] at hb; cases hb
        exact absurd ⟨r, hr, hl, h2⟩ hA.1
  · intro e
    rcases ht.out z he e with ⟨h1, _⟩ | ⟨x, h1, h2⟩
    · exact Or.inl h1
    · exact Or.inr ⟨x, h1, h.odd_a hM hs hr hl h2⟩
theorem Gal.lone (h : Gal N E m evs Ods ks) {z : Nat} (hz : z < N) (hl : m z = none) : InD N m evs z := ⟨z, hz, hl, (h.trap z hz hl).root⟩
theorem Gal.mateA (h : Gal N E m evs Ods ks) {x : Nat} (hx : InA N E m evs x) : ∃ z, m x = some z ∧ InD N m evs z := by
  obtain ⟨s, h1, h2, h3⟩ := h.a_odd hx
  obtain ⟨y, g1, g2, _⟩ := (h.trap s h1 h2).odd x h3
  exact ⟨y, g1, s, h1, h2, g2⟩

/-- Whichever part is left without A: it is odd just if it has a base. -/
theorem Gal.part (h : Gal N E m evs Ods ks) (hM : Mat N E m) (hs : ∀ a b, E a b → E b a) (hir : ∀ a, ¬ E a a) (hlt : ∀ a b, E a b → a < N ∧ b < N) {aB bB Rv : Nat → Bool} (ha : ∀ z, z < N → (aB z = true ↔ InA N E m evs z)) (hb : ∀ z, z < N → (bB z = true ↔ Bse N E m evs z)) {v : Nat} (hv : v < N) (hva : aB v = false)
    (hR : ∀ z, z < N → (Rv z = true ↔ Star (fun a b => E a b ∧ aB b = false) v z)) : cnt N Rv % 2 = cnt N (fun z => Rv z && bB z) := by
  have hlt' : ∀ z, Star (fun a b => E a b ∧ aB b = false) v z → z < N := fun z hz => Star.closed (P := fun z => z < N) (fun a b _ hab => (hlt a b hab.1).2) hz hv
  have hna : ∀ z, Star (fun a b => E a b ∧ aB b = false) v z → aB z = false := fun z hz => Star.ind (P := fun z => aB z = false) hva (fun _ _ _ h2 _ => h2.2) hz
  have hvA : ¬ InA N E m evs v := fun hh => by rw [(ha v hv).2 hh] at hva; cases hva
  have step : ∀ a b, Star (fun a b => E a b ∧ aB b = false) v a → E a b → ¬ InA N E m evs b → Star (fun a b => E a b ∧ aB b = false) v b := fun a b h1 h2 h3 => h1.step ⟨h2, by
    cases e : aB b
    · rfl
    · exact absurd ((ha b (hlt a b h2).2).1 e) h3⟩
  have closed : ∀ z, z < N → (Rv z && !bB z) = true → ∃ x, m z = some x ∧ (Rv x && !bB x) = true := by
    intro z hz hp
    simp only [Bool.and_eq_true, Bool.not_eq_true'] at hp
    have hzS := (hR z hz).1 hp.1
    have hnb : ¬ Bse N E m evs z := fun hh => by
      have := (hb z hz).2 hh
      rw [hp.2] at this; cases this
    have hnA : ¬ InA N E m evs z := fun hh => by
      have := (ha z hz).2 hh
      rw [hna z hzS] at this; cases this
    cases hmz : m z with
    | none => exact absurd (Or.inl hmz) hnb
    | some x =>
      have hxN := (hM.lt _ _ hmz).2
      have hxA : ¬ InA N E m evs x := fun hh => hnb (Or.inr ⟨x, hmz, hh⟩)
      have hxS := step z x hzS (hM.edge _ _ hmz) hxA
      refine ⟨x, rfl, ?_⟩
      have hbx : bB x = false := by
        cases e : bB x
        · rfl
        · exfalso
          rcases (hb x hxN).1 e with h1 | ⟨y, h1, h2⟩
          · have := hM.sym _ _ hmz
            rw [h1] at this; cases this
          · have := hM.sym _ _ hmz
            rw [h1] at this; cases this
            exact hnA h2
      simp [(hR x hxN).2 hxS, hbx]
  have h1 := cnt_split N Rv bB
  have h2 := cnt_mate hM hir closed
  have h3 : cnt N (fun z => Rv z && bB z) ≤ 1 := by
    by_cases hd : InD N m evs v
    · obtain ⟨r, hr, hl, he⟩ := hd
      refine cnt_one (ks r v) fun z hz hp => ?_
      simp only [Bool.and_eq_true] at hp
      have hzS := (hR z hz).1 hp.1
      have hc : evs r z = true ∧ ks r z = ks r v := Star.ind (P := fun z => evs r z = true ∧ ks r z = ks r v) ⟨he, rfl⟩ (fun b c hsb hbc ih => by
        rcases h.nb hM hs hr hl ih.1 hbc.1 with g | g
        · exact ⟨g.1, g.2.trans ih.2⟩
        · have := (ha c (hlt b c hbc.1).2).2 g
          rw [hbc.2] at this; cases this) hzS
      have := (h.base hM hs hr hl hc.1).1 ((hb z hz).1 hp.2)
      rw [← this, hc.2]
    · have : cnt N (fun z => Rv z && bB z) = 0 := cnt_zero fun z hz => by
        cases e : Rv z && bB z
        · rfl
        · exfalso
          simp only [Bool.and_eq_true] at e
          have hzS := (hR z hz).1 e.1
          have hnd : ¬ InD N m evs z := Star.ind (P := fun z => ¬ InD N m evs z) hd (fun b c hsb hbc ih => fun ⟨r, hr, hl, he⟩ => by
            rcases h.nb hM hs hr hl he (hs _ _ hbc.1) with g | g
            · exact ih ⟨r, hr, hl, g.1⟩
            · have hbN := hlt' b hsb
              have := (ha b hbN).2 g
              rw [hna b hsb] at this; cases this) hzS
          rcases (hb z hz).1 e.2 with h1 | ⟨x, h1, h2⟩
          · exact hnd (h.lone hz h1)
          · obtain ⟨y, g1, g2⟩ := h.mateA h2
            rw [hM.sym _ _ h1] at g1; cases g1
            exact hnd g2
      omega
  omega

/-- How many bases there are. -/
theorem Gal.bases (h : Gal N E m evs Ods ks) (hM : Mat N E m) (hir : ∀ a, ¬ E a a) {aB bB : Nat → Bool} (ha : ∀ z, z < N → (aB z = true ↔ InA N E m evs z)) (hb : ∀ z, z < N → (bB z = true ↔ Bse N E m evs z)) : cnt N bB + 2 * (prs m N).length = N + cnt N aB := by
  have e1 : cnt N bB = cnt N (fun z => (m z).isNone) + cnt N (fun z => bB z && (m z).isSome) := by
    rw [← cnt_or (fun z _ h => by cases hm : m z <;> simp [hm] at h ⊢)]
    refine cnt_congr fun z hz => ?_
    cases hm : m z with
    | none => simp [(hb z hz).2 (Or.inl hm)]
    | some x => simp
  have e2 : cnt N (fun z => bB z && (m z).isSome) = cnt N aB := by
    apply Nat.le_antisymm
    · refine cnt_map (fun z => (m z).getD 0) (fun z hz hp => ?_) (fun a b ha' hb' pa pb e => ?_)
      · simp only [Bool.and_eq_true] at hp
        rcases (hb z hz).1 hp.1 with h1 | ⟨x, h1, h2⟩
        · rw [h1] at hp; simp at hp
        · have hxN := (hM.lt _ _ h1).2
          simp only [h1, Option.getD_some]
          exact ⟨hxN, (ha x hxN).2 h2⟩
      · simp only [Bool.and_eq_true] at pa pb
        obtain ⟨x, hx⟩ := Option.isSome_iff_exists.1 pa.2
        obtain ⟨y, hy⟩ := Option.isSome_iff_exists.1 pb.2
        simp only [hx, hy, Option.getD_some] at e
        subst e
        exact hM.inj hx hy
    · refine cnt_map (fun z => (m z).getD 0) (fun z hz hp => ?_) (fun a b ha' hb' pa pb e => ?_)
      · obtain ⟨y, h1, h2⟩ := h.mateA ((ha z hz).1 hp)
        have hyN := (hM.lt _ _ h1).2
        simp only [h1, Option.getD_some]
        refine ⟨hyN, ?_⟩
        have hyz := hM.sym _ _ h1
        simp [(hb y hyN).2 (Or.inr ⟨z, hyz, (ha z hz).1 hp⟩), hyz]
      · obtain ⟨x, hx, _⟩ := h.mateA ((ha a ha').1 pa)
        obtain ⟨y, hy, _⟩ := h.mateA ((ha b hb').1 pb)
        simp only [hx, hy, Option.getD_some] at e
        subst e
        exact hM.inj hx hy
  have e3 := cnt_split N (fun _ => true) (fun z => (m z).isSome)
  rw [cnt_true] at e3
  have e4 := cnt_mate hM hir (p := fun z => true && (m z).isSome) (fun z hz hp => by
    simp only [Bool.true_and] at hp
    obtain ⟨x, hx⟩ := Option.isSome_iff_exists.1 hp
    exact ⟨x, hx, by simp [hM.sym _ _ hx]⟩)
  have e5 : cnt N (fun z => (true && (m z).isSome) && upB m z) = (prs m N).length := by
    unfold prs
    rw [List.length_map]
    refine cnt_congr fun z hz => ?_
    cases hm : m z with
    | none => simp [upB, hm]
    | some x => simp
  have e6 : cnt N (fun z => true && !(m z).isSome) = cnt N (fun z => (m z).isNone) := cnt_congr fun z _ => by cases m z <;> rfl
  omega
end
end Go.Proofs.YtenjkhgpfmfgmaaDoor
