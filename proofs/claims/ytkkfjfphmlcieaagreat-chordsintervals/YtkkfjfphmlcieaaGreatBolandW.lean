/- LEKKERKERKER AND BOLAND: where no ring is without a chord and of no three nodes each can be gone round, no arc of the complement forces itself the other way round. Plain mathematics. Where there is an order (each node's later near nodes are a clique) no ring is without a chord. Plain mathematics. Intervals out of a direction of the complement: they meet just where there are edges. Plain mathematics. -/
import Derived.Test.YtkkfjfphmlcieaaGreatDirac
import Derived.Test.YtkkfjfphmlcieaaGreatForcedW
import Derived.Test.YtkkfjfphmlcieaaGreatOrderM
namespace Go.Proofs.YtkkfjfphmlcieaaGreat
theorem exAdj (P : Nat → Nat → Prop) : ∃ R : Nat → Nat → Bool, ∀ v w, R v w = true ↔ P v w := by
  classical exact ⟨fun v w => decide (P v w), by simp⟩
/-- Where no arc forces itself the other way round, there is a direction that goes on. -/
theorem Good.dir {N : Nat} : ∀ (m : Nat) (h : Nat → Nat → Bool), szOf (N * N) (fun z => h (z / N) (z % N) = true) = m → (∀ x y, h x y = h y x) → (∀ x, h x x = false) → (∀ x y, h x y = true → x < N ∧ y < N) → Good h → ∃ T, Dir h T := by
  intro m
  induction m using Nat.strongRecOn with
  | _ m ih =>
    intro h hm hs hi hN hg
    by_cases hex : ∃ x y, h x y = true
    · obtain ⟨x, y, hxy⟩ := hex
      obtain ⟨h', hl⟩ := exAdj (fun u v => h u v = true ∧ ¬ Hat h (x, y) u v)
      have hl : FLess h (x, y) h' := hl
      have hx := (hN x y hxy).1
      have hy := (hN x y hxy).2
      have hlt : szOf (N * N) (fun z => h' (z / N) (z % N) = true) < m := by
        rw [← hm]
        refine szOf_lt (N := N * N) (z := x * N + y) (fun z hz => ((hl _ _).1 hz).1) ?_ ?_ ?_
        · have : x * N + N ≤ N * N := by rw [← Nat.succ_mul]; exact Nat.mul_le_mul_right N hx
          omega
        · have h1 : (x * N + y) / N = x := by rw [Nat.mul_comm, Nat.mul_add_div (by omega), Nat.div_eq_of_lt hy]; rfl
          have h2 : (x * N + y) % N = y := by rw [Nat.mul_comm, Nat.mul_add_mod, Nat.mod_eq_of_lt hy]
          rw [h1, h2]; exact hxy
        · have h1 : (x * N + y) / N = x := by rw [Nat.mul_comm, Nat.mul_add_div (by omega), Nat.div_eq_of_lt hy]; rfl
          have h2 : (x * N + y) % N = y := by rw [Nat.mul_comm, Nat.mul_add_mod, Nat.mod_eq_of_lt hy]
          rw [h1, h2]
          exact fun hh => ((hl _ _).1 hh).2 (Or.inl .refl)
      obtain ⟨T, hT⟩ := ih _ hlt h' rfl (hl.sym hs) (fun z => by
        cases e : h' z z with
        | false => rfl
        | true =>
          have := ((hl z z).1 e).1
          rw [hi] at this; cases this) (fun u v huv => hN u v ((hl u v).1 huv).1) (hg.less hs hi hxy hl)
      exact ⟨_, hT.more hs hi hxy hl (fun u v h1 h2 => hg (u, v) (h1.edge hxy) ((h1.sym hs hxy).trans h2))⟩
    · refine ⟨fun _ _ => False, ⟨fun x y h => h.elim, fun x y h => absurd ⟨x, y, h⟩ hex, fun x y h => h.elim, fun x y z h => h.elim⟩⟩

/-- The nodes without an edge: of the nodes of V. -/
def CoOf (e : Nat → Nat → Prop) (V : Nat → Prop) (h : Nat → Nat → Bool) : Prop := ∀ x y, h x y = true ↔ (V x ∧ V y ∧ x ≠ y ∧ ¬ e x y)
/-- z is neither c nor near it. -/
def Far (e : Nat → Nat → Prop) (V : Nat → Prop) (c z : Nat) : Prop := V z ∧ z ≠ c ∧ ¬ e c z
/-- Of three nodes any two are on a way that keeps away from the third one. -/
def Ast (e : Nat → Nat → Prop) (V : Nat → Prop) : Prop := ∃ a b c, Cn e (Far e V c) a b ∧ Cn e (Far e V a) b c ∧ Cn e (Far e V b) a c
section
variable {e : Nat → Nat → Prop} {V : Nat → Prop}
theorem CoOf.sym (hs : ∀ a b, e a b → e b a) {h : Nat → Nat → Bool} (hc : CoOf e V h) (x y : Nat) : h x y = h y x := by
  rw [Bool.eq_iff_iff, hc x y, hc y x]
  exact ⟨fun ⟨h1, h2, h3, h4⟩ => ⟨h2, h1, fun e => h3 e.symm, fun e => h4 (hs _ _ e)⟩, fun ⟨h1, h2, h3, h4⟩ => ⟨h2, h1, fun e => h3 e.symm, fun e => h4 (hs _ _ e)⟩⟩
theorem CoOf.irr {h : Nat → Nat → Bool} (hc : CoOf e V h) (x : Nat) : h x x = false := by
  cases hh : h x x with
  | false => rfl
  | true => exact absurd rfl ((hc x x).1 hh).2.2.1
/-- What forces what in the complement: one end goes along an edge. -/
theorem CoOf.step {h : Nat → Nat → Bool} (hc : CoOf e V h) {p q : Nat × Nat} (hp : h p.1 p.2 = true) (hf : Fc h p q) : h q.1 q.2 = true ∧ ((p.1 = q.1 ∧ e p.2 q.2) ∨ (p.2 = q.2 ∧ e p.1 q.1)) := by
  obtain ⟨h0, ⟨e1, e2, e3⟩ | ⟨e1, e2, e3⟩⟩ := hf
  · refine ⟨h0, Or.inl ⟨e1, Classical.byContradiction fun hn => ?_⟩⟩
    have := (hc p.2 q.2).2 ⟨((hc _ _).1 hp).2.1, ((hc _ _).1 h0).2.1, e2, hn⟩
    rw [e3] at this; cases this
  · refine ⟨h0, Or.inr ⟨e1, Classical.byContradiction fun hn => ?_⟩⟩
    have := (hc p.1 q.1).2 ⟨((hc _ _).1 hp).1, ((hc _ _).1 h0).1, e2, hn⟩
    rw [e3] at this; cases this
theorem CoOf.off {h : Nat → Nat → Bool} (hc : CoOf e V h) {x y : Nat} (hxy : e x y) : h x y = false := by
  cases hh : h x y with
  | false => rfl
  | true => exact absurd hxy ((hc x y).1 hh).2.2.2

/-- A direction of the complement goes along with an edge. -/
theorem Dir.right (hs : ∀ a b, e a b → e b a) (hi : ∀ a, ¬ e a a) {h : Nat → Nat → Bool} (hc : CoOf e V h) {T : Nat → Nat → Prop} (hT : Dir h T) {a b c : Nat} (hab : T a b) (hbc : e b c) (hV : V c) (hne : a ≠ c) (hn : ¬ e a c) : T a c := by
  have hac : h a c = true := (hc a c).2 ⟨((hc _ _).1 (hT.edge _ _ hab)).1, hV, hne, hn⟩
  exact hT.forced (hc.sym hs) (p := (a, b)) (q := (a, c)) (Fs.refl.step ⟨hac, Or.inl ⟨rfl, fun hh => by
    have hh : b = c := hh
    rw [hh] at hbc
    exact hi c hbc, hc.off hbc⟩⟩) hab

/-! The step: s is an end of the graph: the nodes near it are a clique, those far from it hang together. -/
structure EndAt (e : Nat → Nat → Prop) (V : Nat → Prop) (s : Nat) : Prop where
  sym : ∀ a b, e a b → e b a
  irr : ∀ a, ¬ e a a
  hs : V s
  clq : ∀ a b, V a → V b → e s a → e s b → a ≠ b → e a b
  hang : ∀ x y, Far e V s x → Far e V s y → Cn e (Far e V s) x y
  four : ∀ a b c d, V a → V b → V c → V d → e a b → e b c → e c d → e d a → a ≠ c → b ≠ d → ¬ e a c → e b d
  ast : ¬ Ast e V
/-- The nodes near s. -/
def Kn (e : Nat → Nat → Prop) (V : Nat → Prop) (s k : Nat) : Prop := V k ∧ e s k
/-- Far from s, and far from one near s. -/
def Dn (e : Nat → Nat → Prop) (V : Nat → Prop) (s z : Nat) : Prop := Far e V s z ∧ ∃ k, Kn e V s k ∧ ¬ e z k
/-- Far from s, near all that are near s. -/
def Mn (e : Nat → Nat → Prop) (V : Nat → Prop) (s z : Nat) : Prop := Far e V s z ∧ ∀ k, Kn e V s k → e z k
def Ln (e : Nat → Nat → Prop) (V : Nat → Prop) (s : Nat) (T : Nat → Nat → Prop) (z : Nat) : Prop := Far e V s z ∧ ∃ k, Kn e V s k ∧ T z k
/-- What is near a part of the far ones (q's) is near all of another (p's). -/
def NearTo (e : Nat → Nat → Prop) (V : Nat → Prop) (s p q : Nat) : Prop := ∀ z, V z → ¬ Dn e V s z → (∃ q', Cn e (Dn e V s) q q' ∧ e z q') → ∀ p', Cn e (Dn e V s) p p' → e z p'
variable {s : Nat} {T : Nat → Nat → Prop} {h : Nat → Nat → Bool}
theorem EndAt.cases (_E : EndAt e V s) {z : Nat} (hz : V z) : z = s ∨ Kn e V s z ∨ Mn e V s z ∨ Dn e V s z := by
  by_cases h1 : z = s
  · exact Or.inl h1
  by_cases h2 : e s z
  · exact Or.inr (Or.inl ⟨hz, h2⟩)
  have hf : Far e V s z := ⟨hz, h1, h2⟩
  by_cases h3 : ∃ k, Kn e V s k ∧ ¬ e z k
  · exact Or.inr (Or.inr (Or.inr ⟨hf, h3⟩))
  · exact Or.inr (Or.inr (Or.inl ⟨hf, fun k hk => Classical.byContradiction fun hn => h3 ⟨k, hk, hn⟩⟩))
theorem EndAt.kd (_E : EndAt e V s) {k : Nat} (hk : Kn e V s k) : ¬ Dn e V s k := fun hd => hd.1.2.2 hk.2
theorem EndAt.md {m : Nat} (hm : Mn e V s m) : ¬ Dn e V s m := fun hd => by
  obtain ⟨k, hk, hn⟩ := hd.2
  exact hn (hm.2 k hk)
/-- From s round b to what hangs with a. -/
theorem EndAt.route (E : EndAt e V s) {z a b : Nat} (hb : Dn e V s b) (hz : V z) (hzd : ¬ Dn e V s z) (hza : e z a) (ha : Dn e V s a) (hab : ¬ Cn e (Dn e V s) a b) (hzb : ¬ e z b) {a' : Nat} (haa : Cn e (Dn e V s) a a') : Cn e (Far e V b) s a' := by
  have far : ∀ y, Cn e (Dn e V s) a y → Far e V b y := fun y hy => ⟨hy.right.1.1, fun hh => hab (hh ▸ hy), fun hh => hab (hy.step (E.sym _ _ hh) hb)⟩
  have hsb : Far e V b s := ⟨E.hs, fun hh => hb.1.2.1 hh.symm, fun hh => hb.1.2.2 (E.sym _ _ hh)⟩
  have hzf : Far e V b z := ⟨hz, fun hh => hzd (hh ▸ hb), fun hh => hzb (E.sym _ _ hh)⟩
  have toz : Cn e (Far e V b) s z := by
    rcases E.cases hz with h1 | h1 | h1 | h1
    · subst h1; exact Cn.refl hsb
    · exact (Cn.refl hsb).step h1.2 hzf
    · obtain ⟨k, hk, hn⟩ := hb.2
      exact ((Cn.refl hsb).step hk.2 ⟨hk.1, fun hh => E.kd hk (hh ▸ hb), hn⟩).step (E.sym _ _ (h1.2 k hk)) hzf
    · exact absurd h1 hzd
  have hay : Cn e (Far e V b) a a' := (haa.also (S' := Far e V b) (fun u hu => far u hu)).mono (fun _ hh => hh.2)
  exact (toz.step hza (far a (Cn.refl ha))).trans hay
/-- Of any two parts of the far ones what is near the one is near all of the other, or the other way round. -/
theorem EndAt.near (E : EndAt e V s) {p q : Nat} (hpq : ¬ Cn e (Dn e V s) p q) : NearTo e V s p q ∨ NearTo e V s q p := by
  refine Classical.byContradiction fun hn => ?_
  have h1 : ¬ NearTo e V s p q := fun hh => hn (Or.inl hh)
  have h2 : ¬ NearTo e V s q p := fun hh => hn (Or.inr hh)
  have ex : ∀ {p q : Nat}, ¬ NearTo e V s p q → ∃ z q' p', V z ∧ ¬ Dn e V s z ∧ Cn e (Dn e V s) q q' ∧ e z q' ∧ Cn e (Dn e V s) p p' ∧ ¬ e z p' := fun {p q} hh => by
    refine Classical.byContradiction fun hc => hh fun z hz hzd ⟨q', h1, h2⟩ p' h3 => ?_
    exact Classical.byContradiction fun h4 => hc ⟨z, q', p', hz, hzd, h1, h2, h3, h4⟩
  obtain ⟨z, q1, p1, a1, a2, a3, a4, a5, a6⟩ := ex h1
  obtain ⟨y, p2, q2, b1, b2, b3, b4, b5, b6⟩ := ex h2
  have apart : ∀ {u v}, Cn e (Dn e V s) p u → Cn e (Dn e V s) q v → ¬ Cn e (Dn e V s) u v := fun hu hv hh => hpq ((hu.trans hh).trans (hv.symm E.sym))
  have r1 := E.route a5.right a1 a2 a4 a3.right (fun hh => apart a5 a3 (hh.symm E.sym)) a6 (a' := q2) ((a3.symm E.sym).trans b5)
  have r2 := E.route b5.right b1 b2 b4 b3.right (apart b3 b5) b6 (a' := p1) ((b3.symm E.sym).trans a5)
  exact E.ast ⟨p1, q2, s, E.hang _ _ a5.right.1 b5.right.1, r1.symm E.sym, r2.symm E.sym⟩

/-- What a direction of the rest tells: those ahead of one near s, and those behind one. -/
structure DirAt (e : Nat → Nat → Prop) (V : Nat → Prop) (s : Nat) (h : Nat → Nat → Bool) (T : Nat → Nat → Prop) : Prop extends EndAt e V s where
  co : CoOf e (fun z => V z ∧ z ≠ s) h
  dir : Dir h T
def flipT (T : Nat → Nat → Prop) : Nat → Nat → Prop := fun x y => T y x
theorem DirAt.flip (E : DirAt e V s h T) : DirAt e V s h (flipT T) :=
  { E with dir := ⟨fun x y hh => by rw [E.co.sym E.sym]; exact E.dir.edge _ _ hh, fun x y hh => (E.dir.some x y hh).symm, fun x y h1 h2 => E.dir.one _ _ h1 h2, fun x y z h1 h2 => E.dir.on _ _ _ h2 h1⟩ }
theorem DirAt.or (E : DirAt e V s h T) {a b : Nat} (ha : V a) (hb : V b) (has : a ≠ s) (hbs : b ≠ s) (hne : a ≠ b) (hn : ¬ e a b) : T a b ∨ T b a :=
  E.dir.some a b ((E.co a b).2 ⟨⟨ha, has⟩, ⟨hb, hbs⟩, hne, hn⟩)
theorem DirAt.non (E : DirAt e V s h T) {a b : Nat} (hh : T a b) : (V a ∧ a ≠ s) ∧ (V b ∧ b ≠ s) ∧ a ≠ b ∧ ¬ e a b := (E.co a b).1 (E.dir.edge _ _ hh)
theorem DirAt.go (E : DirAt e V s h T) {a b c : Nat} (hab : T a b) (hbc : e b c) (hV : V c) (hcs : c ≠ s) (hne : a ≠ c) (hn : ¬ e a c) : T a c :=
  E.dir.right E.sym E.irr E.co hab hbc ⟨hV, hcs⟩ hne hn
theorem DirAt.back (E : DirAt e V s h T) {a b c : Nat} (hab : T a b) (hac : e a c) (hV : V c) (hcs : c ≠ s) (hne : c ≠ b) (hn : ¬ e c b) : T c b :=
  E.flip.go (T := flipT T) (a := b) (b := a) (c := c) hab hac hV hcs (fun hh => hne hh.symm) (fun hh => hn (E.sym _ _ hh))
theorem DirAt.kns (E : DirAt e V s h T) {k : Nat} (hk : Kn e V s k) : k ≠ s := fun hh => E.irr s (hh ▸ hk.2)
theorem DirAt.split (E : DirAt e V s h T) {z : Nat} (hz : Dn e V s z) : Ln e V s T z ∨ Ln e V s (flipT T) z := by
  obtain ⟨hf, k, hk, hn⟩ := hz
  have hzk : z ≠ k := fun hh => hf.2.2 (hh ▸ hk.2)
  rcases E.or hf.1 hk.1 hf.2.1 (E.kns hk) hzk hn with h1 | h1
  · exact Or.inl ⟨hf, k, hk, h1⟩
  · exact Or.inr ⟨hf, k, hk, h1⟩
theorem DirAt.ld (E : DirAt e V s h T) {z : Nat} (hz : Ln e V s T z) : Dn e V s z := by
  obtain ⟨hf, k, hk, ht⟩ := hz
  exact ⟨hf, k, hk, (E.non ht).2.2.2⟩
theorem DirAt.kk (E : DirAt e V s h T) {k k' : Nat} (hk : Kn e V s k) (hk' : Kn e V s k') : ¬ T k k' := fun hh => by
  have := E.non hh
  exact this.2.2.2 (E.clq _ _ hk.1 hk'.1 hk.2 hk'.2 this.2.2.1)
theorem DirAt.one (E : DirAt e V s h T) {z : Nat} (h1 : Ln e V s T z) (h2 : Ln e V s (flipT T) z) : False := by
  obtain ⟨_, k, hk, ht⟩ := h1
  obtain ⟨_, k', hk', ht'⟩ := h2
  exact E.kk hk' hk (E.dir.on _ _ _ ht' ht)
theorem DirAt.apart (E : DirAt e V s h T) {x y : Nat} (hx : Ln e V s T x) (hy : Ln e V s (flipT T) y) : ¬ e x y := fun hxy => by
  have hx0 := hx
  have hy0 := hy
  obtain ⟨fx, v, hv, hxv⟩ := hx
  obtain ⟨fy, u, hu, huy⟩ := hy
  have huy : T u y := huy
  have nv := E.non hxv
  have nu := E.non huy
  have hyv : e y v := Classical.byContradiction fun hn => by
    have : T y v := E.back hxv hxy fy.1 fy.2.1 (fun hh => fy.2.2 (hh ▸ hv.2)) hn
    exact E.one ⟨fy, v, hv, this⟩ hy0
  have hxu : e u x := Classical.byContradiction fun hn => by
    have : T u x := E.go huy (E.sym _ _ hxy) fx.1 fx.2.1 (fun hh => fx.2.2 (hh ▸ hu.2)) hn
    exact E.one hx0 ⟨fx, u, hu, this⟩
  by_cases huv : u = v
  · subst huv
    exact nu.2.2.2 (E.sym _ _ hyv)
  · have hvu := E.clq v u hv.1 hu.1 hv.2 hu.2 (fun hh => huv hh.symm)
    exact nu.2.2.2 (E.sym _ _ (E.four x y v u fx.1 fy.1 hv.1 hu.1 hxy hyv hvu hxu nv.2.2.1 (fun hh => nu.2.2.1 hh.symm) nv.2.2.2))
theorem DirAt.keepL (E : DirAt e V s h T) {x y : Nat} (hx : Ln e V s T x) (hxy : Cn e (Dn e V s) x y) : Ln e V s T y := by
  induction hxy with
  | refl _ => exact hx
  | step _ h2 h3 ih =>
    rcases E.split h3 with h4 | h4
    · exact h4
    · exact absurd h2 (E.apart ih h4)
theorem DirAt.mL (E : DirAt e V s h T) {m p : Nat} (hm : Mn e V s m) (hp : Ln e V s T p) : ¬ T m p := fun hh => by
  obtain ⟨_, k, hk, ht⟩ := hp
  exact (E.non (E.dir.on _ _ _ hh ht)).2.2.2 (hm.2 k hk)
theorem DirAt.kL (E : DirAt e V s h T) {k p : Nat} (hk : Kn e V s k) (hp : Ln e V s T p) : ¬ T k p := fun hh => E.one hp ⟨hp.1, k, hk, hh⟩

/-- The arcs of s's class keep to these. -/
def Jn (e : Nat → Nat → Prop) (V : Nat → Prop) (s : Nat) (T : Nat → Nat → Prop) (p q : Nat) : Prop :=
  p = s ∨ Kn e V s p ∨ (Mn e V s p ∧ Dn e V s q) ∨ (Mn e V s p ∧ Mn e V s q ∧ T p q) ∨ (Dn e V s p ∧ Dn e V s q ∧ ¬ Cn e (Dn e V s) p q ∧ NearTo e V s p q) ∨
    (Cn e (Dn e V s) p q ∧ Ln e V s (flipT T) p ∧ T p q) ∨ (Cn e (Dn e V s) p q ∧ Ln e V s T p ∧ T q p)
theorem NearTo.same {p q p' q' : Nat} (hh : NearTo e V s p q) (hp : Cn e (Dn e V s) p p') (hq : Cn e (Dn e V s) q q') : NearTo e V s p' q' :=
  fun z hz hzd ⟨y, h1, h2⟩ x hx => hh z hz hzd ⟨y, hq.trans h1, h2⟩ x (hp.trans hx)
/-- Where one outside is near p', which is far, and far from q. -/
theorem DirAt.enter (E : DirAt e V s h T) {p q p' : Nat} (hp : V p) (hpd : ¬ Dn e V s p) (hq : Dn e V s q) (hp' : Dn e V s p') (hpp : e p p') (hpq : ¬ e p q) (hne : p' ≠ q) (hn : ¬ e p' q)
    (hL : Ln e V s T q → T q p) (hR : Ln e V s (flipT T) q → T p q) : Jn e V s T p' q := by
  have q0 := hq.1
  by_cases hc : Cn e (Dn e V s) p' q
  · rcases E.split hp' with h1 | h1
    · have h2 := E.keepL h1 hc
      exact Or.inr (Or.inr (Or.inr (Or.inr (Or.inr (Or.inr ⟨hc, h1, E.go (hL h2) hpp hp'.1.1 hp'.1.2.1 (fun hh => hne hh.symm) (fun hh => hn (E.sym _ _ hh))⟩)))))
    · have h2 := E.flip.keepL h1 hc
      exact Or.inr (Or.inr (Or.inr (Or.inr (Or.inr (Or.inl ⟨hc, h1, E.back (hR h2) hpp hp'.1.1 hp'.1.2.1 hne hn⟩)))))
  · rcases E.near hc with h1 | h1
    · exact Or.inr (Or.inr (Or.inr (Or.inr (Or.inl ⟨hp', hq, hc, h1⟩))))
    · exact absurd (h1 p hp hpd ⟨p', Cn.refl hp', hpp⟩ q (Cn.refl hq)) hpq
theorem DirAt.ofK (E : DirAt e V s h T) {p q : Nat} (hp : Kn e V s p) (hq : V q) (hne : p ≠ q) (hn : ¬ e p q) : Dn e V s q := by
  rcases E.cases hq with h1 | h1 | h1 | h1
  · exact absurd (E.sym _ _ hp.2) (h1 ▸ hn)
  · exact absurd (E.clq _ _ hp.1 h1.1 hp.2 h1.2 hne) hn
  · exact absurd (E.sym _ _ (h1.2 p hp)) hn
  · exact h1
theorem DirAt.first (E : DirAt e V s h T) (hA : ∀ m m' x, Mn e V s m → Mn e V s m' → m ≠ m' → Ln e V s T x → e m x → e m m') {p q p' : Nat} (hp : V p) (hq : V q) (hp' : V p') (hne0 : p ≠ q) (hn0 : ¬ e p q) (hne : p' ≠ q) (hn : ¬ e p' q) (hpp : e p p') (hj : Jn e V s T p q) : Jn e V s T p' q := by
  rcases hj with hj | hj | hj | hj | hj | hj | hj
  · exact Or.inr (Or.inl ⟨hp', hj ▸ hpp⟩)
  · have hd := E.ofK hj hq hne0 hn0
    rcases E.cases hp' with h1 | h1 | h1 | h1
    · exact Or.inl h1
    · exact Or.inr (Or.inl h1)
    · exact Or.inr (Or.inr (Or.inl ⟨h1, hd⟩))
    · refine E.enter hp (E.kd hj) hd h1 hpp hn0 hne hn (fun hl => ?_) (fun hl => ?_)
      · exact (E.or hq hp hd.1.2.1 (E.kns hj) (fun hh => hne0 hh.symm) (fun hh => hn0 (E.sym _ _ hh))).elim id (fun hh => absurd hh (E.kL hj hl))
      · exact (E.or hp hq (E.kns hj) hd.1.2.1 hne0 hn0).elim id (fun hh => absurd hh (E.flip.kL hj hl))
  · obtain ⟨hm, hd⟩ := hj
    rcases E.cases hp' with h1 | h1 | h1 | h1
    · exact Or.inl h1
    · exact Or.inr (Or.inl h1)
    · exact Or.inr (Or.inr (Or.inl ⟨h1, hd⟩))
    · refine E.enter hp (EndAt.md hm) hd h1 hpp hn0 hne hn (fun hl => ?_) (fun hl => ?_)
      · exact (E.or hq hp hd.1.2.1 hm.1.2.1 (fun hh => hne0 hh.symm) (fun hh => hn0 (E.sym _ _ hh))).elim id (fun hh => absurd hh (E.mL hm hl))
      · exact (E.or hp hq hm.1.2.1 hd.1.2.1 hne0 hn0).elim id (fun hh => absurd hh (E.flip.mL hm hl))
  · obtain ⟨hm, hm', ht⟩ := hj
    rcases E.cases hp' with h1 | h1 | h1 | h1
    · exact Or.inl h1
    · exact Or.inr (Or.inl h1)
    · exact Or.inr (Or.inr (Or.inr (Or.inl ⟨h1, hm', E.back ht hpp hp' h1.1.2.1 hne hn⟩)))
    · rcases E.split h1 with h2 | h2
      · exact absurd (hA p q p' hm hm' hne0 h2 hpp) hn0
      · exact absurd (E.back ht hpp hp' h1.1.2.1 hne hn) (E.flip.mL hm' h2)
  · obtain ⟨h1, h2, h3, h4⟩ := hj
    rcases E.cases hp' with h5 | h5 | h5 | h5
    · exact Or.inl h5
    · exact Or.inr (Or.inl h5)
    · exact Or.inr (Or.inr (Or.inl ⟨h5, h2⟩))
    · have hc : Cn e (Dn e V s) p p' := (Cn.refl h1).step hpp h5
      exact Or.inr (Or.inr (Or.inr (Or.inr (Or.inl ⟨h5, h2, fun hh => h3 (hc.trans hh), h4.same hc (Cn.refl h2)⟩))))
  · obtain ⟨h1, h2, h3⟩ := hj
    rcases E.cases hp' with h5 | h5 | h5 | h5
    · exact Or.inl h5
    · exact Or.inr (Or.inl h5)
    · exact Or.inr (Or.inr (Or.inl ⟨h5, h1.right⟩))
    · have hc : Cn e (Dn e V s) p p' := (Cn.refl h1.left).step hpp h5
      exact Or.inr (Or.inr (Or.inr (Or.inr (Or.inr (Or.inl ⟨(hc.symm E.sym).trans h1, E.flip.keepL h2 hc, E.back h3 hpp hp' h5.1.2.1 hne hn⟩)))))
  · obtain ⟨h1, h2, h3⟩ := hj
    rcases E.cases hp' with h5 | h5 | h5 | h5
    · exact Or.inl h5
    · exact Or.inr (Or.inl h5)
    · exact Or.inr (Or.inr (Or.inl ⟨h5, h1.right⟩))
    · have hc : Cn e (Dn e V s) p p' := (Cn.refl h1.left).step hpp h5
      exact Or.inr (Or.inr (Or.inr (Or.inr (Or.inr (Or.inr ⟨(hc.symm E.sym).trans h1, E.keepL h2 hc, E.go h3 hpp hp' h5.1.2.1 (fun hh => hne hh.symm) (fun hh => hn (E.sym _ _ hh))⟩)))))
theorem DirAt.second (E : DirAt e V s h T) (hA : ∀ m m' x, Mn e V s m → Mn e V s m' → m ≠ m' → Ln e V s T x → e m x → e m m') {p q q' : Nat} (hp : V p) (hq : V q) (hq' : V q') (hne0 : p ≠ q) (hn0 : ¬ e p q) (hne : p ≠ q') (hn : ¬ e p q') (hqq : e q q') (hj : Jn e V s T p q) : Jn e V s T p q' := by
  rcases hj with hj | hj | hj | hj | hj | hj | hj
  · exact Or.inl hj
  · exact Or.inr (Or.inl hj)
  · obtain ⟨hm, hd⟩ := hj
    rcases E.cases hq' with h1 | h1 | h1 | h1
    · exact absurd (E.sym _ _ hqq) (h1 ▸ hd.1.2.2)
    · exact absurd (hm.2 q' h1) hn
    · rcases E.split hd with h2 | h2
      · exact absurd (E.sym _ _ (hA q' p q h1 hm (fun hh => hne hh.symm) h2 (E.sym _ _ hqq))) hn
      · have ht : T p q := (E.or hp hq hm.1.2.1 hd.1.2.1 hne0 hn0).elim id (fun hh => absurd hh (E.flip.mL hm h2))
        exact Or.inr (Or.inr (Or.inr (Or.inl ⟨hm, h1, E.go ht hqq hq' h1.1.2.1 hne hn⟩)))
    · exact Or.inr (Or.inr (Or.inl ⟨hm, h1⟩))
  · obtain ⟨hm, hm', ht⟩ := hj
    rcases E.cases hq' with h1 | h1 | h1 | h1
    · exact absurd (E.sym _ _ hqq) (h1 ▸ hm'.1.2.2)
    · exact absurd (hm.2 q' h1) hn
    · exact Or.inr (Or.inr (Or.inr (Or.inl ⟨hm, h1, E.go ht hqq hq' h1.1.2.1 hne hn⟩)))
    · exact Or.inr (Or.inr (Or.inl ⟨hm, h1⟩))
  · obtain ⟨h1, h2, h3, h4⟩ := hj
    by_cases hd : Dn e V s q'
    · have hc : Cn e (Dn e V s) q q' := (Cn.refl h2).step hqq hd
      exact Or.inr (Or.inr (Or.inr (Or.inr (Or.inl ⟨h1, hd, fun hh => h3 (hh.trans (hc.symm E.sym)), h4.same (Cn.refl h1) hc⟩))))
    · exact absurd (E.sym _ _ (h4 q' hq' hd ⟨q, Cn.refl h2, E.sym _ _ hqq⟩ p (Cn.refl h1))) hn
  · obtain ⟨h1, h2, h3⟩ := hj
    have hqs : q' ≠ s := fun hh => h1.right.1.2.2 (E.sym _ _ (hh ▸ hqq))
    have ht := E.go h3 hqq hq' hqs hne hn
    rcases E.cases hq' with h5 | h5 | h5 | h5
    · exact absurd h5 hqs
    · exact absurd ht (E.flip.kL h5 h2)
    · exact absurd ht (E.flip.mL h5 h2)
    · exact Or.inr (Or.inr (Or.inr (Or.inr (Or.inr (Or.inl ⟨h1.step hqq h5, h2, ht⟩)))))
  · obtain ⟨h1, h2, h3⟩ := hj
    have hqs : q' ≠ s := fun hh => h1.right.1.2.2 (E.sym _ _ (hh ▸ hqq))
    have ht := E.back h3 hqq hq' hqs (fun hh => hne hh.symm) (fun hh => hn (E.sym _ _ hh))
    rcases E.cases hq' with h5 | h5 | h5 | h5
    · exact absurd h5 hqs
    · exact absurd ht (E.kL h5 h2)
    · exact absurd ht (E.mL h5 h2)
    · exact Or.inr (Or.inr (Or.inr (Or.inr (Or.inr (Or.inr ⟨h1.step hqq h5, h2, ht⟩)))))
theorem DirAt.turned (E : DirAt e V s h T) {m m' x y : Nat} (hm : Mn e V s m) (hm' : Mn e V s m') (hne : m ≠ m') (hx : Ln e V s T x) (hmx : e m x) (hn : ¬ e m m') (hy : Ln e V s (flipT T) y) : ¬ e m y := fun hmy => by
  obtain ⟨fx, v, hv, hxv⟩ := id hx
  obtain ⟨fy, u, hu, huy⟩ := id hy
  have huy : T u y := huy
  have nv := E.non hxv
  have nu := E.non huy
  have ht : T m m' := by
    rcases E.or hm.1.1 hm'.1.1 hm.1.2.1 hm'.1.2.1 hne hn with h1 | h1
    · exact h1
    · by_cases h2 : e m' x
      · exact absurd (E.four x m v m' fx.1 hm.1.1 hv.1 hm'.1.1 (E.sym _ _ hmx) (hm.2 v hv) (E.sym _ _ (hm'.2 v hv)) h2 nv.2.2.1 hne nv.2.2.2) hn
      · exact absurd (E.go h1 hmx fx.1 fx.2.1 (fun hh => EndAt.md hm' (hh ▸ E.ld hx)) h2) (E.mL hm' hx)
  by_cases h2 : e y m'
  · exact hn (E.four u m y m' hu.1 hm.1.1 fy.1 hm'.1.1 (E.sym _ _ (hm.2 u hu)) hmy h2 (hm'.2 u hu) nu.2.2.1 hne nu.2.2.2)
  · exact E.flip.mL hm' hy (E.back ht hmy fy.1 fy.2.1 (fun hh => EndAt.md hm' (hh ▸ E.flip.ld hy)) h2)
/-- The end's arcs don't come back. -/
theorem DirAt.noBack (E : DirAt e V s h T) {h0 : Nat → Nat → Bool} (hc : CoOf e V h0) {y : Nat} (hy : h0 s y = true) : ¬ Fs h0 (s, y) (y, s) := by
  have main : ∀ {T : Nat → Nat → Prop}, DirAt e V s h T → (∀ m m' x, Mn e V s m → Mn e V s m' → m ≠ m' → Ln e V s T x → e m x → e m m') → ¬ Fs h0 (s, y) (y, s) := fun {T} E hA hf => by
    have := Fs.ind (P := fun q => h0 q.1 q.2 = true ∧ Jn e V s T q.1 q.2) ⟨hy, Or.inl rfl⟩ (fun q r _ hr ih => by
      obtain ⟨h1, h2⟩ := hc.step ih.1 hr
      refine ⟨h1, ?_⟩
      obtain ⟨q1, q2⟩ := q
      obtain ⟨r1, r2⟩ := r
      obtain ⟨i1, i2⟩ := ih
      simp only at h1 h2 i1 i2 ⊢
      obtain ⟨a1, a2, a3, a4⟩ := (hc _ _).1 i1
      obtain ⟨b1, b2, b3, b4⟩ := (hc _ _).1 h1
      rcases h2 with ⟨rfl, h2⟩ | ⟨rfl, h2⟩
      · exact E.second hA a1 a2 b2 a3 a4 b3 b4 h2 i2
      · exact E.first hA a1 a2 b1 a3 a4 b3 b4 h2 i2) hf
    obtain ⟨_, hj⟩ := this
    have hys := ((hc _ _).1 hy)
    simp only at hj
    rcases hj with hj | hj | hj | hj | hj | hj | hj
    · exact hys.2.2.1 hj.symm
    · exact hys.2.2.2 hj.2
    · exact hj.2.1.2.1 rfl
    · exact hj.2.1.1.2.1 rfl
    · exact hj.2.1.1.2.1 rfl
    · exact hj.1.right.1.2.1 rfl
    · exact hj.1.right.1.2.1 rfl
  by_cases hA : ∀ m m' x, Mn e V s m → Mn e V s m' → m ≠ m' → Ln e V s T x → e m x → e m m'
  · exact main E hA
  · refine main E.flip fun n n' y' hn hn' hnn hy' hny => Classical.byContradiction fun hno => hA fun m m' x hm hm' hmm hx hmx => Classical.byContradiction fun hmo => ?_
    have n1 := E.turned hm hm' hmm hx hmx hmo hy'
    have n2 := E.flip.turned hn hn' hnn hy' hny hno (y := x) hx
    have ap : ¬ Cn e (Dn e V s) x y' := fun hh => E.one (E.keepL hx hh) hy'
    have r1 := E.route (E.flip.ld hy') hm.1.1 (EndAt.md hm) hmx (E.ld hx) ap n1 (Cn.refl (E.ld hx))
    have r2 := E.route (E.ld hx) hn.1.1 (EndAt.md hn) hny (E.flip.ld hy') (fun hh => ap (hh.symm E.sym)) n2 (Cn.refl (E.flip.ld hy'))
    exact E.ast ⟨x, y', s, E.hang _ _ hx.1 hy'.1, r2.symm E.sym, r1.symm E.sym⟩
/-- An end can be put back. -/
theorem EndAt.good {N : Nat} (E : EndAt e V s) (hV : ∀ z, V z → z < N) {h' h0 : Nat → Nat → Bool} (hc' : CoOf e (fun z => V z ∧ z ≠ s) h') (hg : Good h') (hc : CoOf e V h0) : Good h0 := by
  obtain ⟨T, hT⟩ := Good.dir (N := N) _ h' rfl (hc'.sym E.sym) hc'.irr (fun x y hxy => ⟨hV x ((hc' x y).1 hxy).1.1, hV y ((hc' x y).1 hxy).2.1.1⟩) hg
  have D : DirAt e V s h' T := { E with co := hc', dir := hT }
  have hs0 := hc.sym E.sym
  intro p hp hf
  by_cases h1 : ∃ y, Fs h0 p (s, y)
  · obtain ⟨y, hy⟩ := h1
    have := ((hy.sym hs0 hp).trans hf).trans (hy.turn hs0)
    exact D.noBack hc (hy.edge hp) this
  by_cases h2 : ∃ y, Fs h0 p (y, s)
  · obtain ⟨y, hy⟩ := h2
    have := (hy.turn hs0).sym hs0 (by rw [hs0]; exact hp)
    have := (this.trans (hf.sym hs0 hp)).trans hy
    exact D.noBack hc (by rw [hs0]; exact hy.edge hp) this
  have : Fs h' p (p.2, p.1) ∧ h' p.1 p.2 = true := by
    have hp' : h' p.1 p.2 = true := by
      obtain ⟨a1, a2, a3, a4⟩ := (hc _ _).1 hp
      exact (hc' _ _).2 ⟨⟨a1, fun hh => h1 ⟨p.2, by rw [← hh]; exact Fs.refl⟩⟩, ⟨a2, fun hh => h2 ⟨p.1, by rw [← hh]; exact Fs.refl⟩⟩, a3, a4⟩
    refine ⟨Fs.ind (P := fun q => Fs h' p q) .refl (fun q r hq hr ih => ?_) hf, hp'⟩
    obtain ⟨i1, i2⟩ := hc.step (hq.edge hp) hr
    have hpr := hq.step hr
    obtain ⟨b1, b2, b3, b4⟩ := (hc _ _).1 i1
    have hr' : h' r.1 r.2 = true := (hc' _ _).2 ⟨⟨b1, fun hh => h1 ⟨r.2, by rw [← hh]; exact hpr⟩⟩, ⟨b2, fun hh => h2 ⟨r.1, by rw [← hh]; exact hpr⟩⟩, b3, b4⟩
    refine ih.step ⟨hr', ?_⟩
    rcases i2 with ⟨i2, i3⟩ | ⟨i2, i3⟩
    · exact Or.inl ⟨i2, fun hh => E.irr q.2 (by rw [← hh] at i3; exact i3), hc'.off i3⟩
    · exact Or.inr ⟨i2, fun hh => E.irr q.1 (by rw [← hh] at i3; exact i3), hc'.off i3⟩
  exact hg p this.2 this.1

theorem NoHole.mono {V' : Nat → Prop} (hm : ∀ z, V' z → V z) (hh : NoHole e V) : NoHole e V' :=
  fun v a u x y hv ha hu h1 h2 h3 h4 h5 h6 h7 => hh v a u x y (hm v hv) (hm a ha) (hm u hu) h1 h2 h3 h4 h5 (h6.mono fun _ hz => ⟨hm _ hz.1, hz.2⟩) h7
theorem Ast.mono {V' : Nat → Prop} (hm : ∀ z, V' z → V z) (hh : Ast e V') : Ast e V := by
  obtain ⟨a, b, c, h1, h2, h3⟩ := hh
  exact ⟨a, b, c, h1.mono fun _ hz => ⟨hm _ hz.1, hz.2⟩, h2.mono fun _ hz => ⟨hm _ hz.1, hz.2⟩, h3.mono fun _ hz => ⟨hm _ hz.1, hz.2⟩⟩
/-- A set whose nodes the others see alike: the complement is good if it is so within the set, and with one node for all of the set. -/
theorem module_good (hs : ∀ a b, e a b → e b a) (hi : ∀ a, ¬ e a a) {M : Nat → Prop} {s : Nat} (hM : ∀ z, M z → V z) (hsM : M s) (hmod : ∀ x y z, M x → M y → V z → ¬ M z → e x z → e y z) {hm h1 h0 : Nat → Nat → Bool} (cm : CoOf e M hm) (c1 : CoOf e (fun z => V z ∧ (M z → z = s)) h1) (c0 : CoOf e V h0) (gm : Good hm) (g1 : Good h1) : Good h0 := by
  intro p hp hf
  by_cases hpm : M p.1 ∧ M p.2
  · have : Fs hm p (p.2, p.1) := by
      have := Fs.ind (P := fun q => (M q.1 ∧ M q.2) ∧ Fs hm p q) ⟨hpm, .refl⟩ (fun q r hq hr ih => by
        obtain ⟨i1, i2⟩ := c0.step (hq.edge hp) hr
        obtain ⟨⟨m1, m2⟩, ih⟩ := ih
        obtain ⟨b1, b2, b3, b4⟩ := (c0 _ _).1 i1
        obtain ⟨a1, a2, a3, a4⟩ := (c0 _ _).1 (hq.edge hp)
        rcases i2 with ⟨i2, i3⟩ | ⟨i2, i3⟩
        · have hr2 : M r.2 := Classical.byContradiction fun hn => b4 (by rw [← i2]; exact hmod q.2 q.1 r.2 m2 m1 b2 hn i3)
          have hr1 : M r.1 := by rw [← i2]; exact m1
          exact ⟨⟨hr1, hr2⟩, ih.step ⟨(cm _ _).2 ⟨hr1, hr2, b3, b4⟩, Or.inl ⟨i2, fun hh => hi q.2 (by rw [← hh] at i3; exact i3), cm.off i3⟩⟩⟩
        · have hr1 : M r.1 := Classical.byContradiction fun hn => b4 (hs _ _ (by rw [← i2]; exact hmod q.1 q.2 r.1 m1 m2 b1 hn i3))
          have hr2 : M r.2 := by rw [← i2]; exact m2
          exact ⟨⟨hr1, hr2⟩, ih.step ⟨(cm _ _).2 ⟨hr1, hr2, b3, b4⟩, Or.inr ⟨i2, fun hh => hi q.1 (by rw [← hh] at i3; exact i3), cm.off i3⟩⟩⟩) hf
      exact this.2
    obtain ⟨a1, a2, a3, a4⟩ := (c0 _ _).1 hp
    exact gm p ((cm _ _).2 ⟨hpm.1, hpm.2, a3, a4⟩) this
  · obtain ⟨f, hfM, hfN⟩ : ∃ f : Nat → Nat, (∀ z, M z → f z = s) ∧ (∀ z, ¬ M z → f z = z) := by
      classical
      exact ⟨fun z => if M z then s else z, fun z hz => if_pos hz, fun z hz => if_neg hz⟩
    have hfV : ∀ z, V z → V (f z) ∧ (M (f z) → f z = s) := fun z hz => by
      by_cases hz' : M z
      · rw [hfM z hz']; exact ⟨hM s hsM, fun _ => rfl⟩
      · rw [hfN z hz']; exact ⟨hz, fun hh => absurd hh hz'⟩
    have img : ∀ x y, V x → V y → x ≠ y → ¬ (M x ∧ M y) → f x ≠ f y ∧ (e (f x) (f y) ↔ e x y) := fun x y hx hy hne hxy => by
      by_cases mx : M x
      · have my : ¬ M y := fun hh => hxy ⟨mx, hh⟩
        rw [hfM x mx, hfN y my]
        exact ⟨fun hh => my (hh ▸ hsM), fun hh => hmod s x y hsM mx hy my hh, fun hh => hmod x s y mx hsM hy my hh⟩
      · by_cases my : M y
        · rw [hfM y my, hfN x mx]
          exact ⟨fun hh => mx (hh ▸ hsM), fun hh => hs _ _ (hmod s y x hsM my hx mx (hs _ _ hh)), fun hh => hs _ _ (hmod y s x my hsM hx mx (hs _ _ hh))⟩
        · rw [hfN y my, hfN x mx]; exact ⟨hne, Iff.rfl⟩
    have co : ∀ x y, h0 x y = true → ¬ (M x ∧ M y) → h1 (f x) (f y) = true := fun x y hxy hn => by
      obtain ⟨a1, a2, a3, a4⟩ := (c0 _ _).1 hxy
      have := img x y a1 a2 a3 hn
      exact (c1 _ _).2 ⟨hfV x a1, hfV y a2, this.1, fun hh => a4 (this.2.1 hh)⟩
    have := Fs.ind (P := fun q => ¬ (M q.1 ∧ M q.2) ∧ Fs h1 (f p.1, f p.2) (f q.1, f q.2)) ⟨hpm, .refl⟩ (fun q r hq hr ih => by
        obtain ⟨i1, i2⟩ := c0.step (hq.edge hp) hr
        obtain ⟨m1, ih⟩ := ih
        obtain ⟨b1, b2, b3, b4⟩ := (c0 _ _).1 i1
        obtain ⟨a1, a2, a3, a4⟩ := (c0 _ _).1 (hq.edge hp)
        rcases i2 with ⟨i2, i3⟩ | ⟨i2, i3⟩
        · have hn : ¬ (M r.1 ∧ M r.2) := fun ⟨n1, n2⟩ => by
            have n1 : M q.1 := by rw [i2]; exact n1
            have hq2 : ¬ M q.2 := fun hh => m1 ⟨n1, hh⟩
            exact a4 (hmod r.2 q.1 q.2 n2 n1 a2 hq2 (hs _ _ i3))
          refine ⟨hn, ?_⟩
          have hc := co _ _ i1 hn
          by_cases hb : M q.2 ∧ M r.2
          · rw [hfM _ hb.1] at ih
            rw [hfM _ hb.2, ← i2]; exact ih
          · have := img q.2 r.2 a2 b2 (fun hh => hi q.2 (by rw [← hh] at i3; exact i3)) hb
            exact ih.step ⟨hc, Or.inl ⟨by simp only; rw [i2], this.1, c1.off (this.2.2 i3)⟩⟩
        · have hn : ¬ (M r.1 ∧ M r.2) := fun ⟨n1, n2⟩ => by
            have n2 : M q.2 := by rw [i2]; exact n2
            have hq1 : ¬ M q.1 := fun hh => m1 ⟨hh, n2⟩
            exact a4 (hs _ _ (hmod r.1 q.2 q.1 n1 n2 a1 hq1 (hs _ _ i3)))
          refine ⟨hn, ?_⟩
          have hc := co _ _ i1 hn
          by_cases hb : M q.1 ∧ M r.1
          · rw [hfM _ hb.1] at ih
            rw [hfM _ hb.2, ← i2]; exact ih
          · have := img q.1 r.1 a1 b1 (fun hh => hi q.1 (by rw [← hh] at i3; exact i3)) hb
            exact ih.step ⟨hc, Or.inr ⟨by simp only; rw [i2], this.1, c1.off (this.2.2 i3)⟩⟩) hf
    exact g1 (f p.1, f p.2) (co _ _ hp hpm) this.2
/-- LEKKERKERKER AND BOLAND. -/
theorem boland {N : Nat} (hs : ∀ a b, e a b → e b a) (hi : ∀ a, ¬ e a a) : ∀ (m : Nat) (V : Nat → Prop), szOf N V = m → (∀ z, V z → z < N) → NoHole e V → ¬ Ast e V → ∀ h, CoOf e V h → Good h := by
  intro m
  induction m using Nat.strongRecOn with
  | _ m ih =>
    intro V hm hV hno hast h hc
    by_cases hall : ∃ v c, V v ∧ V c ∧ v ≠ c ∧ ¬ e v c
    · obtain ⟨v0, c0, h1, h2, h3, h4⟩ := hall
      obtain ⟨k, ⟨s, c, hv, hc', hvc, hnvc, hk⟩, hmax⟩ := max_ex (P := fun k => ∃ v c, V v ∧ V c ∧ v ≠ c ∧ ¬ e v c ∧ szOf N (Cn e (Far e V v) c) = k) (B := N) (fun k h => by
        obtain ⟨v, c, _, _, _, _, h⟩ := h
        rw [← h]; exact szOf_le _) N _ ⟨v0, c0, h1, h2, h3, h4, rfl⟩ (by omega)
      obtain ⟨C, hC⟩ : ∃ C : Nat → Prop, C = Cn e (Far e V s) c := ⟨_, rfl⟩
      have cC : C c := by rw [hC]; exact Cn.refl ⟨hc', fun hh => hvc hh.symm, hnvc⟩
      have Cfar : ∀ z, C z → Far e V s z := fun z hz => by rw [hC] at hz; exact hz.right
      have Cstep : ∀ y z, C y → e y z → Far e V s z → C z := fun y z hy hyz hz => by rw [hC] at hy ⊢; exact hy.step hyz hz
      -- S: near C, outside it
      have Sn : ∀ y z, C y → e y z → V z → ¬ C z → e s z := fun y z hy hyz hz hnz => Classical.byContradiction fun hn => by
        by_cases hzs : z = s
        · exact (Cfar y hy).2.2 (hs _ _ (hzs ▸ hyz))
        · exact hnz (Cstep y z hy hyz ⟨hz, hzs, hn⟩)
      obtain ⟨M, hM⟩ : ∃ M : Nat → Prop, ∀ z, M z ↔ (V z ∧ ¬ C z ∧ ¬ ∃ x, C x ∧ e x z) := ⟨fun z => V z ∧ ¬ C z ∧ ¬ ∃ x, C x ∧ e x z, fun _ => Iff.rfl⟩
      have sM : M s := (hM s).2 ⟨hv, fun hh => (Cfar s hh).2.1 rfl, fun ⟨x, hx, hxs⟩ => (Cfar x hx).2.2 (hs _ _ hxs)⟩
      have comp : ∀ v x y, V v → ¬ C v → C y → e y v → M x → e x v := fun v x y hvv hvC hy hyv hx => Classical.byContradiction fun hn => by
        obtain ⟨x1, x2, x3⟩ := (hM x).1 hx
        have off : ∀ z, C z → Far e V x z := fun z hz => ⟨(Cfar z hz).1, fun hh => x2 (hh ▸ hz), fun hh => x3 ⟨z, hz, hs _ _ hh⟩⟩
        have sub : ∀ z, C z → Cn e (Far e V x) c z := fun z hz => by
          have hz' := hz
          rw [hC] at hz'
          exact (hz'.also (S' := Far e V x) (fun u hu => off u (by rw [hC]; exact hu))).mono (fun _ hh => hh.2)
        have hvx : v ≠ x := fun hh => x3 ⟨y, hy, hh ▸ hyv⟩
        have hvD : Cn e (Far e V x) c v := (sub y hy).step hyv ⟨hvv, hvx, hn⟩
        have hle := hmax (szOf N (Cn e (Far e V x) c)) ⟨x, c, x1, hc', fun hh => x2 (hh ▸ cC), (off c cC).2.2, rfl⟩
        have hlt := szOf_lt (N := N) (K := Cn e (Far e V x) c) (K' := C) sub (hV v hvv) hvD hvC
        rw [hC, hk] at hlt
        omega
      have hmod : ∀ x y z, M x → M y → V z → ¬ M z → e x z → e y z := fun x y z hx hy hz hnz hxz => by
        by_cases zC : C z
        · exact absurd ⟨z, zC, hs _ _ hxz⟩ ((hM x).1 hx).2.2
        · have : ∃ u, C u ∧ e u z := Classical.byContradiction fun hn => hnz ((hM z).2 ⟨hz, zC, hn⟩)
          obtain ⟨u, hu, huz⟩ := this
          exact comp z y u hz zC hu huz hy
      by_cases hr : ∃ r, M r ∧ r ≠ s
      · obtain ⟨r, hrM, hrs⟩ := hr
        obtain ⟨hm', cm⟩ := exAdj (fun x y => M x ∧ M y ∧ x ≠ y ∧ ¬ e x y)
        obtain ⟨h1', c1⟩ := exAdj (fun x y => (V x ∧ (M x → x = s)) ∧ (V y ∧ (M y → y = s)) ∧ x ≠ y ∧ ¬ e x y)
        have cm : CoOf e M hm' := cm
        have c1 : CoOf e (fun z => V z ∧ (M z → z = s)) h1' := c1
        have lt1 : szOf N M < m := by
          rw [← hm]
          exact szOf_lt (fun z hz => ((hM z).1 hz).1) (hV c hc') hc' (fun hh => ((hM c).1 hh).2.1 cC)
        have lt2 : szOf N (fun z => V z ∧ (M z → z = s)) < m := by
          rw [← hm]
          exact szOf_lt (fun z hz => hz.1) (hV r ((hM r).1 hrM).1) ((hM r).1 hrM).1 (fun hh => hrs (hh.2 hrM))
        have gm := ih _ lt1 M rfl (fun z hz => hV z ((hM z).1 hz).1) (hno.mono fun z hz => ((hM z).1 hz).1) (fun hh => hast (hh.mono fun z hz => ((hM z).1 hz).1)) _ cm
        have g1 := ih _ lt2 _ rfl (fun z hz => hV z hz.1) (hno.mono fun z hz => hz.1) (fun hh => hast (hh.mono fun z hz => hz.1)) _ c1
        exact module_good hs hi (fun z hz => ((hM z).1 hz).1) sM hmod cm c1 hc gm g1
      · have only : ∀ z, V z → ¬ C z → z ≠ s → ∃ x, C x ∧ e x z := fun z hz hzC hzs => Classical.byContradiction fun hn => hr ⟨z, (hM z).2 ⟨hz, hzC, hn⟩, hzs⟩
        have farC : ∀ z, Far e V s z → C z := fun z hz => Classical.byContradiction fun hn => by
          obtain ⟨x, hx, hxz⟩ := only z hz.1 hn hz.2.1
          exact hn (Cstep x z hx hxz hz)
        have E : EndAt e V s :=
          { sym := hs, irr := hi, hs := hv, ast := hast
            hang := fun x y hx hy => by
              have h1 := farC x hx
              have h2 := farC y hy
              rw [hC] at h1 h2
              exact (h1.symm hs).trans h2
            clq := fun a b ha hb hsa hsb hab => Classical.byContradiction fun hn => by
              obtain ⟨x, hx, hxa⟩ := only a ha (fun hh => (Cfar a hh).2.2 hsa) (fun hh => hi s (hh ▸ hsa))
              obtain ⟨y, hy, hyb⟩ := only b hb (fun hh => (Cfar b hh).2.2 hsb) (fun hh => hi s (hh ▸ hsb))
              rw [hC] at hx hy
              exact hno s a b x y hv ha hb hsa hsb hab hn hxa ((hx.symm hs).trans hy) hyb
            four := fun a b c d ha hb hc hd hab hbc hcd hda hac hbd hn => Classical.byContradiction fun hbdn => 
              hno a b d c c ha hb hd hab (hs _ _ hda) hbd hbdn (hs _ _ hbc) (Cn.refl ⟨hc, fun hh => hac hh.symm, hn⟩) hcd }
        obtain ⟨h', c1⟩ := exAdj (fun x y => (V x ∧ x ≠ s) ∧ (V y ∧ y ≠ s) ∧ x ≠ y ∧ ¬ e x y)
        have c1 : CoOf e (fun z => V z ∧ z ≠ s) h' := c1
        have lt2 : szOf N (fun z => V z ∧ z ≠ s) < m := by
          rw [← hm]
          exact szOf_lt (fun z hz => hz.1) (hV s hv) hv (fun hh => hh.2 rfl)
        have g1 := ih _ lt2 _ rfl (fun z hz => hV z hz.1) (hno.mono fun z hz => hz.1) (fun hh => hast (hh.mono fun z hz => hz.1)) _ c1
        exact E.good hV c1 g1 hc
    · intro p hp
      obtain ⟨a1, a2, a3, a4⟩ := (hc _ _).1 hp
      exact absurd ⟨_, _, a1, a2, a3, a4⟩ hall
end
end Go.Proofs.YtkkfjfphmlcieaaGreat

namespace Go.Proofs.YtkkfjfphmlcieaaGreat
variable {N : Nat} {adj : Nat → Nat → Bool}
theorem IsOrd.at {O : List Nat} (h : IsOrd N adj O) {z : Nat} (hz : z < N) : ∃ i, i < N ∧ O.getD i 0 = z := by
  have hmem : z ∈ O := by
    apply Classical.byContradiction
    intro hn
    have := nat_nodup_len (z :: O) (List.range N) (List.nodup_cons.2 ⟨hn, h.nd⟩) (fun x hx => by
      rcases List.mem_cons.1 hx with rfl | hx
      · exact List.mem_range.2 hz
      · exact List.mem_range.2 (h.lt x hx))
    simp [h.len] at this
    omega
  obtain ⟨i, hi, e⟩ := List.getElem_of_mem hmem
  exact ⟨i, by rw [← h.len]; exact hi, by simp [List.getD, hi, e]⟩
theorem leastOf {P : Nat → Prop} : ∀ n, P n → ∃ m, P m ∧ ∀ k, k < m → ¬ P k := by
  intro n
  induction n using Nat.strongRecOn with
  | _ n ih =>
    intro hn
    by_cases h : ∃ k, k < n ∧ P k
    · obtain ⟨k, hk, hp⟩ := h
      exact ih k hk hp
    · exact ⟨n, hn, fun k hk hp => h ⟨k, hk, hp⟩⟩
theorem IsOrd.first (hs : ∀ x y, adj x y = adj y x) (hi : ∀ x, adj x x = false) {O : List Nat} (h : IsOrd N adj O) {W : Nat → Prop} {z : Nat} (hz : W z) (hW : ∀ z, W z → z < N) : ∃ f, W f ∧ ∀ a b, W a → W b → adj f a = true → adj f b = true → a ≠ b → adj a b = true := by
  obtain ⟨i0, hi0, e0⟩ := h.at (hW z hz)
  obtain ⟨i, ⟨hi1, hi2⟩, hmin⟩ := leastOf (P := fun i => i < N ∧ W (O.getD i 0)) i0 ⟨hi0, by rw [e0]; exact hz⟩
  refine ⟨_, hi2, fun a b ha hb hfa hfb hab => ?_⟩
  obtain ⟨j, hj, ej⟩ := h.at (hW a ha)
  obtain ⟨k, hk, ek⟩ := h.at (hW b hb)
  have gt : ∀ t, t < N → W (O.getD t 0) → adj (O.getD i 0) (O.getD t 0) = true → i < t := fun t ht hw hat => by
    rcases Nat.lt_trichotomy i t with h1 | h1 | h1
    · exact h1
    · rw [h1, hi] at hat; cases hat
    · exact absurd ⟨ht, hw⟩ (hmin t h1)
  have hij := gt j hj (by rw [ej]; exact ha) (by rw [ej]; exact hfa)
  have hik := gt k hk (by rw [ek]; exact hb) (by rw [ek]; exact hfb)
  rcases Nat.lt_trichotomy j k with h1 | h1 | h1
  · have := h.ok i k j hij h1 hk (by rw [ek]; exact hfb) (by rw [ej]; exact hfa)
    rw [ej, ek] at this
    rw [hs]; exact this
  · exact absurd (by rw [← ej, ← ek, h1]) hab
  · have := h.ok i j k hik h1 hj (by rw [ej]; exact hfa) (by rw [ek]; exact hfb)
    rw [ej, ek] at this
    exact this
theorem IsOrd.none (hs : ∀ x y, adj x y = adj y x) (hi : ∀ x, adj x x = false) {O : List Nat} (h : IsOrd N adj O) : ∀ (m : Nat) (D : Nat → Prop), szOf N D = m → (∀ z, D z → z < N) → (∀ x y, D x → D y → Cn (fun a b => adj a b = true) D x y) → ∀ v a u x y, v < N → a < N → u < N → adj v a = true → adj v u = true → a ≠ u → ¬ adj a u = true → (∀ z, D z → z ≠ v ∧ ¬ adj v z = true) → D x → adj x a = true → D y → adj y u = true → False := by
  intro m
  induction m using Nat.strongRecOn with
  | _ m ih =>
    intro D hm hD hang v a u x y hv ha hu hva hvu hau hn hoff hx hxa hy hyu
    have hsym : ∀ a b, adj a b = true → adj b a = true := fun a b h => by rw [hs]; exact h
    obtain ⟨f, hf, hcl⟩ := h.first hs hi (W := fun z => D z ∨ z = v ∨ z = a ∨ z = u) (z := v) (Or.inr (Or.inl rfl)) (fun z hz => by
      rcases hz with hz | rfl | rfl | rfl
      · exact hD z hz
      · exact hv
      · exact ha
      · exact hu)
    have wv : D v ∨ v = v ∨ v = a ∨ v = u := Or.inr (Or.inl rfl)
    have wa : D a ∨ a = v ∨ a = a ∨ a = u := Or.inr (Or.inr (Or.inl rfl))
    have wu : D u ∨ u = v ∨ u = a ∨ u = u := Or.inr (Or.inr (Or.inr rfl))
    rcases hf with hf | rfl | rfl | rfl
    · have nbr : ∀ w, D w → w ≠ f → ∃ r, (D r ∧ r ≠ f) ∧ adj f r = true := fun w hw hwf => by
        obtain ⟨r, hr, hrf⟩ := (hang w f hw hf).to hwf
        exact ⟨r, hr.right, hsym _ _ hrf⟩
      have outD : ∀ b, adj v b = true → ¬ D b := fun b hb hd => (hoff b hd).2 hb
      have hang' : ∀ p q, D p ∧ p ≠ f → D q ∧ q ≠ f → Cn (fun a b => adj a b = true) (fun z => D z ∧ z ≠ f) p q := fun p q hp hq => by
        have gen : ∀ q, Cn (fun a b => adj a b = true) D p q → (q ≠ f → Cn (fun a b => adj a b = true) (fun z => D z ∧ z ≠ f) p q) ∧ (q = f → ∃ w, Cn (fun a b => adj a b = true) (fun z => D z ∧ z ≠ f) p w ∧ adj w f = true) := fun q hq => by
          induction hq with
          | refl _ => exact ⟨fun _ => Cn.refl hp, fun hh => absurd hh hp.2⟩
          | @step q r h1 h2 h3 ih2 =>
            by_cases hqf : q = f
            · obtain ⟨w, hw, hwf⟩ := ih2.2 hqf
              subst hqf
              refine ⟨fun hr => ?_, fun hr => ?_⟩
              · by_cases hwr : w = r
                · rw [← hwr]; exact hw
                · exact hw.step (hcl w r (Or.inl hw.right.1) (Or.inl h3) (hsym _ _ hwf) h2 hwr) ⟨h3, hr⟩
              · rw [hr, hi] at h2; cases h2
            · have := ih2.1 hqf
              refine ⟨fun hr => this.step h2 ⟨h3, hr⟩, fun hr => ⟨q, this, hr ▸ h2⟩⟩
        exact (gen q (hang p q hp.1 hq.1)).1 hq.2
      have both : ¬ (adj f a = true ∧ adj f u = true) := fun ⟨h1, h2⟩ => hn (hcl a u wa wu h1 h2 hau)
      have other : ∀ b, adj v b = true → (D b ∨ b = v ∨ b = a ∨ b = u) → ∀ w, D w → w ≠ f → ∀ t, D t → adj t b = true → ∃ t', (D t' ∧ t' ≠ f) ∧ adj t' b = true := fun b hvb wb w hw hwf t ht htb => by
        by_cases htf : t = f
        · obtain ⟨r, hr, hfr⟩ := nbr w hw hwf
          exact ⟨r, hr, hcl r b (Or.inl hr.1) wb hfr (htf ▸ htb) (fun hh => outD b hvb (hh ▸ hr.1))⟩
        · exact ⟨t, ⟨ht, htf⟩, htb⟩
      obtain ⟨w, hw, hwf⟩ : ∃ w, D w ∧ w ≠ f := by
        by_cases hxf : x = f
        · by_cases hyf : y = f
          · exact absurd ⟨hxf ▸ hxa, hyf ▸ hyu⟩ both
          · exact ⟨y, hy, hyf⟩
        · exact ⟨x, hx, hxf⟩
      obtain ⟨x', hx', hxa'⟩ := other a hva wa w hw hwf x hx hxa
      obtain ⟨y', hy', hyu'⟩ := other u hvu wu w hw hwf y hy hyu
      have hlt : szOf N (fun z => D z ∧ z ≠ f) < m := by
        rw [← hm]
        exact szOf_lt (fun z hz => hz.1) (hD f hf) hf (fun hh => hh.2 rfl)
      exact ih _ hlt _ rfl (fun z hz => hD z hz.1) hang' v a u x' y' hv ha hu hva hvu hau hn (fun z hz => hoff z hz.1) hx' hxa' hy' hyu'
    · exact hn (hcl a u wa wu hva hvu hau)
    · exact (hoff x hx).2 (hcl v x wv (Or.inl hx) (hsym _ _ hva) (hsym _ _ hxa) (fun hh => (hoff x hx).1 hh.symm))
    · exact (hoff y hy).2 (hcl v y wv (Or.inl hy) (hsym _ _ hvu) (hsym _ _ hyu) (fun hh => (hoff y hy).1 hh.symm))
theorem IsOrd.noHole (hs : ∀ x y, adj x y = adj y x) (hi : ∀ x, adj x x = false) {O : List Nat} (h : IsOrd N adj O) : NoHole (fun a b => adj a b = true) (fun z => z < N) := by
  intro v a u x y hv ha hu hva hvu hau hn hxa hxy hyu
  have hsym : ∀ a b, adj a b = true → adj b a = true := fun a b h => by rw [hs]; exact h
  refine h.none hs hi _ (fun z => Cn (fun a b => adj a b = true) (fun z => z < N ∧ z ≠ v ∧ ¬ adj v z = true) x z) rfl (fun z hz => hz.right.1) (fun p q hp hq => ?_) v a u x y hv ha hu hva hvu hau hn (fun z hz => hz.right.2) (Cn.refl hxy.left) hxa hxy hyu
  have : Cn (fun a b => adj a b = true) (fun z => z < N ∧ z ≠ v ∧ ¬ adj v z = true) p q := (hp.symm hsym).trans hq
  refine (this.also (S' := fun z => Cn (fun a b => adj a b = true) (fun z => z < N ∧ z ≠ v ∧ ¬ adj v z = true) x z) (fun w hw => hp.trans hw)).mono (fun _ hh => hh.2)
/-- An order, and no three nodes that can be gone round: no arc of the complement forces itself the other way round. -/
theorem IsOrd.co (hs : ∀ x y, adj x y = adj y x) (hi : ∀ x, adj x x = false) {O : List Nat} (h : IsOrd N adj O) (hast : ¬ Ast (fun a b => adj a b = true) (fun z => z < N)) {hc : Nat → Nat → Bool} (hco : CoOf (fun a b => adj a b = true) (fun z => z < N) hc) : Good hc :=
  boland (N := N) (fun a b h => by rw [hs]; exact h) (fun a h => by rw [hi] at h; cases h) _ _ rfl (fun _ h => h) (h.noHole hs hi) hast hc hco
end Go.Proofs.YtkkfjfphmlcieaaGreat

namespace Go.Proofs.YtkkfjfphmlcieaaGreat
theorem NoHole.four {e : Nat → Nat → Prop} {V : Nat → Prop} (hs : ∀ a b, e a b → e b a) (hno : NoHole e V) {a b c d : Nat} (ha : V a) (hb : V b) (hc : V c) (hd : V d) (hab : e a b) (hbc : e b c) (hcd : e c d) (hda : e d a) (hac : a ≠ c) (hbd : b ≠ d) (hn : ¬ e a c) (hm : ¬ e b d) : False :=
  hno a b d c c ha hb hd hab (hs _ _ hda) hbd hm (hs _ _ hbc) (Cn.refl ⟨hc, fun hh => hac hh.symm, hn⟩) hcd
/-- How many arcs lead to v. -/
def begN (L : List (Nat × Nat)) (v : Nat) : Nat := (L.filter fun p => p.2 == v).length
/-- What is right ahead of where the first one behind v begins. -/
def endZ (b : Nat → Nat) (n : Int) : List (Nat × Nat) → Nat → Int
  | [], _ => n
  | p :: L, v => endZ b (if p.1 = v then min n ((b p.2 : Int) - 1) else n) L v
theorem endZ_le {b : Nat → Nat} : ∀ (L : List (Nat × Nat)) (n : Int) (v : Nat), endZ b n L v ≤ n
  | [], _, _ => Int.le_refl _
  | p :: L, n, v => by
    unfold endZ
    have := endZ_le L (if p.1 = v then min n ((b p.2 : Int) - 1) else n) v (b := b)
    split at this
    · rw [if_pos (by assumption)]; omega
    · rw [if_neg (by assumption)]; omega
theorem endZ_arc {b : Nat → Nat} : ∀ (L : List (Nat × Nat)) (n : Int) (v w : Nat), (v, w) ∈ L → endZ b n L v ≤ (b w : Int) - 1
  | p :: L, n, v, w, h => by
    unfold endZ
    rcases List.mem_cons.1 h with h | h
    · subst h
      rw [if_pos rfl]
      have := endZ_le L (min n ((b w : Int) - 1)) v (b := b)
      simp only at this ⊢
      omega
    · exact endZ_arc L _ v w h
theorem endZ_ge {b : Nat → Nat} {c : Int} : ∀ (L : List (Nat × Nat)) (n : Int) (v : Nat), c ≤ n → (∀ w, (v, w) ∈ L → c ≤ (b w : Int) - 1) → c ≤ endZ b n L v
  | [], _, _, h, _ => h
  | p :: L, n, v, h, h2 => by
    unfold endZ
    refine endZ_ge L _ v ?_ (fun w hw => h2 w (List.mem_cons_of_mem _ hw))
    split
    · rename_i e
      have := h2 p.2 (by rw [← e]; exact List.mem_cons_self ..)
      omega
    · exact h
theorem endZ_snoc {b : Nat → Nat} : ∀ (L : List (Nat × Nat)) (n : Int) (p : Nat × Nat) (v : Nat), endZ b n (L ++ [p]) v = if p.1 = v then min (endZ b n L v) ((b p.2 : Int) - 1) else endZ b n L v
  | [], n, p, v => by simp [endZ]
  | q :: L, n, p, v => by
    rw [List.cons_append]
    unfold endZ
    exact endZ_snoc L _ p v
section
variable {N : Nat} {adj hc : Nat → Nat → Bool} {L : List (Nat × Nat)}
theorem begN_mem {v x : Nat} : x ∈ ((L.filter fun p => p.2 == v).map (·.1)) ↔ (x, v) ∈ L := by
  rw [List.mem_map]
  constructor
  · rintro ⟨p, hp, rfl⟩
    have := List.mem_filter.1 hp
    have e : p.2 = v := by simpa using this.2
    rw [← e]; exact this.1
  · intro h
    exact ⟨(x, v), List.mem_filter.2 ⟨h, by simp⟩, rfl⟩
theorem begN_nodup (hnd : L.Nodup) (v : Nat) : ((L.filter fun p => p.2 == v).map (·.1)).Nodup := by
  refine List.pairwise_map.2 ((hnd.filter _).imp_of_mem fun {p q} hp hq hne e => hne ?_)
  have h1 := (List.mem_filter.1 hp).2
  have h2 := (List.mem_filter.1 hq).2
  exact Prod.ext e (by simp at h1 h2; omega)
theorem begN_lt (hnd : L.Nodup) {u w x0 : Nat} (hsub : ∀ x, (x, u) ∈ L → (x, w) ∈ L) (h1 : (x0, w) ∈ L) (h2 : (x0, u) ∉ L) : begN L u < begN L w := by
  have := nat_nodup_len (x0 :: ((L.filter fun p => p.2 == u).map (·.1))) ((L.filter fun p => p.2 == w).map (·.1)) (List.nodup_cons.2 ⟨fun h => h2 (begN_mem.1 h), begN_nodup hnd u⟩) (fun x hx => by
    rcases List.mem_cons.1 hx with rfl | hx
    · exact begN_mem.2 h1
    · exact begN_mem.2 (hsub x (begN_mem.1 hx)))
  simp at this
  unfold begN
  omega
theorem begN_le (hnd : L.Nodup) (hN : ∀ x y, (x, y) ∈ L → x < N) (v : Nat) : begN L v ≤ N := by
  have := nat_nodup_len ((L.filter fun p => p.2 == v).map (·.1)) (List.range N) (begN_nodup hnd v) (fun x hx => List.mem_range.2 (hN x v (begN_mem.1 hx)))
  simpa [begN] using this
/-- The intervals: in them, and in whether they meet. -/
theorem meets (hs : ∀ x y, adj x y = adj y x) (hno : NoHole (fun a b => adj a b = true) (fun z => z < N)) (hco : CoOf (fun a b => adj a b = true) (fun z => z < N) hc) (hd : Dir hc (fun x y => (x, y) ∈ L)) (hnd : L.Nodup) :
    (∀ v, v < N → (begN L v : Int) ≤ endZ (begN L) N L v) ∧ (∀ u v, u < N → v < N → u ≠ v → (((begN L u : Int) ≤ endZ (begN L) N L v ∧ (begN L v : Int) ≤ endZ (begN L) N L u) ↔ adj u v = true)) := by
  have hsym : ∀ a b, adj a b = true → adj b a = true := fun a b h => by rw [hs]; exact h
  have non : ∀ x y, (x, y) ∈ L → x < N ∧ y < N ∧ x ≠ y ∧ ¬ adj x y = true := fun x y h => (hco x y).1 (hd.edge x y h)
  have hle := begN_le hnd (fun x y h => (non x y h).1)
  have cmp : ∀ x y, x < N → y < N → x ≠ y → ¬ adj x y = true → (x, y) ∈ L ∨ (y, x) ∈ L := fun x y hx hy hne hn => hd.some x y ((hco x y).2 ⟨hx, hy, hne, hn⟩)
  have chain : ∀ u w, u < N → w < N → (∀ x, (x, u) ∈ L → (x, w) ∈ L) ∨ (∀ x, (x, w) ∈ L → (x, u) ∈ L) := fun u w hu hw => by
    refine Classical.byContradiction fun hn => ?_
    have h1 : ∃ x, (x, u) ∈ L ∧ (x, w) ∉ L := Classical.byContradiction fun h => hn (Or.inl fun x hx => Classical.byContradiction fun h' => h ⟨x, hx, h'⟩)
    have h2 : ∃ y, (y, w) ∈ L ∧ (y, u) ∉ L := Classical.byContradiction fun h => hn (Or.inr fun x hx => Classical.byContradiction fun h' => h ⟨x, hx, h'⟩)
    obtain ⟨x, hxu, hxw⟩ := h1
    obtain ⟨y, hyw, hyu⟩ := h2
    have nx := non _ _ hxu
    have ny := non _ _ hyw
    have a1 : adj w x = true := Classical.byContradiction fun h => by
      by_cases e : w = x
      · subst e; exact hyu (hd.on _ _ _ hyw hxu)
      · rcases cmp w x hw nx.1 e h with h | h
        · exact hyu (hd.on _ _ _ (hd.on _ _ _ hyw h) hxu)
        · exact hxw h
    have a2 : adj y u = true := Classical.byContradiction fun h => by
      by_cases e : y = u
      · subst e; exact hxw (hd.on _ _ _ hxu hyw)
      · rcases cmp y u ny.1 hu e h with h | h
        · exact hyu h
        · exact hxw (hd.on _ _ _ (hd.on _ _ _ hxu h) hyw)
    have a3 : adj x y = true := Classical.byContradiction fun h => by
      by_cases e : x = y
      · subst e; exact hxw hyw
      · rcases cmp x y nx.1 ny.1 e h with h | h
        · exact hxw (hd.on _ _ _ h hyw)
        · exact hyu (hd.on _ _ _ h hxu)
    have a4 : adj u w = true := Classical.byContradiction fun h => by
      by_cases e : u = w
      · subst e; exact hxw hxu
      · rcases cmp u w hu hw e h with h | h
        · exact hxw (hd.on _ _ _ hxu h)
        · exact hyu (hd.on _ _ _ hyw h)
    exact hno.four (fun a b h => hsym a b h) (a := x) (b := y) (c := u) (d := w) nx.1 ny.1 hu hw a3 a2 a4 a1 nx.2.2.1 ny.2.2.1 nx.2.2.2 ny.2.2.2
  have before : ∀ v w, (v, w) ∈ L → begN L v < begN L w := fun v w h => by
    refine begN_lt hnd (fun x hx => hd.on _ _ _ hx h) h (fun h' => hd.one _ _ h' h')
  have reach : ∀ u v, u < N → v < N → u ≠ v → adj u v = true → (begN L u : Int) ≤ endZ (begN L) N L v := fun u v hu hv hne hadj => by
    refine endZ_ge L _ v (by have := hle u; omega) (fun w hw => ?_)
    have hvu : (v, u) ∉ L := fun h => (non _ _ h).2.2.2 (hsym _ _ hadj)
    have : begN L u < begN L w := by
      rcases chain u w hu (non _ _ hw).2.1 with h | h
      · exact begN_lt hnd h hw hvu
      · exact absurd (h v hw) hvu
    omega
  refine ⟨fun v hv => endZ_ge L _ v (by have := hle v; omega) (fun w hw => by have := before v w hw; omega), fun u v hu hv hne => ⟨fun ⟨h1, h2⟩ => ?_, fun h => ⟨reach u v hu hv hne h, reach v u hv hu (fun e => hne e.symm) (hsym _ _ h)⟩⟩⟩
  refine Classical.byContradiction fun hn => ?_
  rcases cmp u v hu hv hne hn with h | h
  · have := endZ_arc (b := begN L) L N u v h
    omega
  · have := endZ_arc (b := begN L) L N v u h
    omega
end
end Go.Proofs.YtkkfjfphmlcieaaGreat
