/- LEKKERKERKER AND BOLAND: where no ring is without a chord and of no three nodes each can be gone round, no arc of the complement forces itself the other way round. Plain mathematics. Where there is an order (each node's later near nodes are a clique) no ring is without a chord. Plain mathematics. Intervals out of a direction of the complement: they meet just where there are edges. Plain mathematics. The document's Reach and Parts. A ring without a chord as a set of nodes: each has just two others near it, and it hangs together. Three nodes that can be gone round. Plain mathematics. The document's Stars: three nodes that can be gone round. The document's Hole: a ring of four nodes or more without a chord, by all sets of nodes. -/
import Derived.Test.YtkkfjfphmlcieaaGreatDirac
import Derived.Test.YtkkfjfphmlcieaaGreatForcedW
import Derived.Test.YtkkfjfphmlcieaaGreatOrderM
import Derived.Test.YtkkfjfphmlcieaaGreatKitC
import Derived.Test.YtkkfjfphmlcieaaGreatWays
import Derived.Test.YtkkfjfphmlcieaaGreatBlocks
import Derived.Test.YtkkfjfphmlcieaaGreatParts
import Derived.Test.YtkkfjfphmlcieaaGreatGrid
import Derived.Deep.LoopGhost
import Derived.Test.YtkkfjfphmlcieaaGreatOfQ
import Derived.Test.YtkkfjfphmlcieaaGreatCompTW
import Derived.BigQuiet
namespace Go.Proofs.YtkkfjfphmlcieaaGreat
theorem exAdj (P : Nat → Nat → Prop) : ∃ R : Nat → Nat → Bool, ∀ v w, R v w = true ↔ P v w := by
  classical exact ⟨fun v w => decide (P v w), by simp⟩
/-- Where no arc forces itself the other way round, there is a direction that goes on. -/
theorem Good.dir {N : Nat} : ∀ (m : Nat) (h : Nat → Nat → Bool), szOf (N * N) (fun z => h (z / N) (z % N) = true) = m → (∀ x y, h x y = h y x) → (∀ x, h x x = false) → (∀ x y, h x y = true → x < N ∧ y < N) → Good h → ∃ T, Dir h T := by
  intro m
  induction m using Nat.strongRecOn with
  | _ m ih =>
    intro h hm hs hi hN hg
    by_cases hex : ∃ x y, h x y = true
    · obtain ⟨x, y, hxy⟩ := hex
      obtain ⟨h', hl⟩ := exAdj (fun u v => h u v = true ∧ ¬ Hat h (x, y) u v)
      have hl : FLess h (x, y) h' := hl
      have hx := (hN x y hxy).1
      have hy := (hN x y hxy).2
      have hlt : szOf (N * N) (fun z => h' (z / N) (z % N) = true) < m := by
        rw [← hm]
        refine szOf_lt (N := N * N) (z := x * N + y) (fun z hz => ((hl _ _).1 hz).1) ?_ ?_ ?_
        · have : x * N + N ≤ N * N := by rw [← Nat.succ_mul]; exact Nat.mul_le_mul_right N hx
          omega
        · have h1 : (x * N + y) / N = x := by rw [Nat.mul_comm, Nat.mul_add_div (by omega), Nat.div_eq_of_lt hy]; rfl
          have h2 : (x * N + y) % N = y := by rw [Nat.mul_comm, Nat.mul_add_mod, Nat.mod_eq_of_lt hy]
          rw [h1, h2]; exact hxy
        · have h1 : (x * N + y) / N = x := by rw [Nat.mul_comm, Nat.mul_add_div (by omega), Nat.div_eq_of_lt hy]; rfl
          have h2 : (x * N + y) % N = y := by rw [Nat.mul_comm, Nat.mul_add_mod, Nat.mod_eq_of_lt hy]
          rw [h1, h2]
          exact fun hh => ((hl _ _).1 hh).2 (Or.inl .refl)
      obtain ⟨T, hT⟩ := ih _ hlt h' rfl (hl.sym hs) (fun z => by
        cases e : h' z z with
        | false => rfl
        | true =>
          have := ((hl z z).1 e).1
          rw [hi] at this; cases this) (fun u v huv => hN u v ((hl u v).1 huv).1) (hg.less hs hi hxy hl)
      exact ⟨_, hT.more hs hi hxy hl (fun u v h1 h2 => hg (u, v) (h1.edge hxy) ((h1.sym hs hxy).trans h2))⟩
    · refine ⟨fun _ _ => False, ⟨fun x y h => h.elim, fun x y h => absurd ⟨x, y, h⟩ hex, fun x y h => h.elim, fun x y z h => h.elim⟩⟩

/-- The nodes without an edge: of the nodes of V. -/
def CoOf (e : Nat → Nat → Prop) (V : Nat → Prop) (h : Nat → Nat → Bool) : Prop := ∀ x y, h x y = true ↔ (V x ∧ V y ∧ x ≠ y ∧ ¬ e x y)
/-- z is neither c nor near it. -/
def Far (e : Nat → Nat → Prop) (V : Nat → Prop) (c z : Nat) : Prop := V z ∧ z ≠ c ∧ ¬ e c z
/-- Of three nodes any two are on a way that keeps away from the third one. -/
def Ast (e : Nat → Nat → Prop) (V : Nat → Prop) : Prop := ∃ a b c, Cn e (Far e V c) a b ∧ Cn e (Far e V a) b c ∧ Cn e (Far e V b) a c
section
variable {e : Nat → Nat → Prop} {V : Nat → Prop}
theorem CoOf.sym (hs : ∀ a b, e a b → e b a) {h : Nat → Nat → Bool} (hc : CoOf e V h) (x y : Nat) : h x y = h y x := by
  rw [Bool.eq_iff_iff, hc x y, hc y x]
  exact ⟨fun ⟨h1, h2, h3, h4⟩ => ⟨h2, h1, fun e => h3 e.symm, fun e => h4 (hs _ _ e)⟩, fun ⟨h1, h2, h3, h4⟩ => ⟨h2, h1, fun e => h3 e.symm, fun e => h4 (hs _ _ e)⟩⟩
theorem CoOf.irr {h : Nat → Nat → Bool} (hc : CoOf e V h) (x : Nat) : h x x = false := by
  cases hh : h x x with
  | false => rfl
  | true => exact absurd rfl ((hc x x).1 hh).2.2.1
/-- What forces what in the complement: one end goes along an edge. -/
theorem CoOf.step {h : Nat → Nat → Bool} (hc : CoOf e V h) {p q : Nat × Nat} (hp : h p.1 p.2 = true) (hf : Fc h p q) : h q.1 q.2 = true ∧ ((p.1 = q.1 ∧ e p.2 q.2) ∨ (p.2 = q.2 ∧ e p.1 q.1)) := by
  obtain ⟨h0, ⟨e1, e2, e3⟩ | ⟨e1, e2, e3⟩⟩ := hf
  · refine ⟨h0, Or.inl ⟨e1, Classical.byContradiction fun hn => ?_⟩⟩
    have := (hc p.2 q.2).2 ⟨((hc _ _).1 hp).2.1, ((hc _ _).1 h0).2.1, e2, hn⟩
    rw [e3] at this; cases this
  · refine ⟨h0, Or.inr ⟨e1, Classical.byContradiction fun hn => ?_⟩⟩
    have := (hc p.1 q.1).2 ⟨((hc _ _).1 hp).1, ((hc _ _).1 h0).1, e2, hn⟩
    rw [e3] at this; cases this
theorem CoOf.off {h : Nat → Nat → Bool} (hc : CoOf e V h) {x y : Nat} (hxy : e x y) : h x y = false := by
  cases hh : h x y with
  | false => rfl
  | true => exact absurd hxy ((hc x y).1 hh).2.2.2

/-- A direction of the complement goes along with an edge. -/
theorem Dir.right (hs : ∀ a b, e a b → e b a) (hi : ∀ a, ¬ e a a) {h : Nat → Nat → Bool} (hc : CoOf e V h) {T : Nat → Nat → Prop} (hT : Dir h T) {a b c : Nat} (hab : T a b) (hbc : e b c) (hV : V c) (hne : a ≠ c) (hn : ¬ e a c) : T a c := by
  have hac : h a c = true := (hc a c).2 ⟨((hc _ _).1 (hT.edge _ _ hab)).1, hV, hne, hn⟩
  exact hT.forced (hc.sym hs) (p := (a, b)) (q := (a, c)) (Fs.refl.step ⟨hac, Or.inl ⟨rfl, fun hh => by
    have hh : b = c := hh
    rw [hh] at hbc
    exact hi c hbc, hc.off hbc⟩⟩) hab

/-! The step: s is an end of the graph: the nodes near it are a clique, those far from it hang together. -/
structure EndAt (e : Nat → Nat → Prop) (V : Nat → Prop) (s : Nat) : Prop where
  sym : ∀ a b, e a b → e b a
  irr : ∀ a, ¬ e a a
  hs : V s
  clq : ∀ a b, V a → V b → e s a → e s b → a ≠ b → e a b
  hang : ∀ x y, Far e V s x → Far e V s y → Cn e (Far e V s) x y
  four : ∀ a b c d, V a → V b → V c → V d → e a b → e b c → e c d → e d a → a ≠ c → b ≠ d → ¬ e a c → e b d
  ast : ¬ Ast e V
/-- The nodes near s. -/
def Kn (e : Nat → Nat → Prop) (V : Nat → Prop) (s k : Nat) : Prop := V k ∧ e s k
/-- Far from s, and far from one near s. -/
def Dn (e : Nat → Nat → Prop) (V : Nat → Prop) (s z : Nat) : Prop := Far e V s z ∧ ∃ k, Kn e V s k ∧ ¬ e z k
/-- Far from s, near all that are near s. -/
def Mn (e : Nat → Nat → Prop) (V : Nat → Prop) (s z : Nat) : Prop := Far e V s z ∧ ∀ k, Kn e V s k → e z k
def Ln (e : Nat → Nat → Prop) (V : Nat → Prop) (s : Nat) (T : Nat → Nat → Prop) (z : Nat) : Prop := Far e V s z ∧ ∃ k, Kn e V s k ∧ T z k
/-- What is near a part of the far ones (q's) is near all of another (p's). -/
def NearTo (e : Nat → Nat → Prop) (V : Nat → Prop) (s p q : Nat) : Prop := ∀ z, V z → ¬ Dn e V s z → (∃ q', Cn e (Dn e V s) q q' ∧ e z q') → ∀ p', Cn e (Dn e V s) p p' → e z p'
variable {s : Nat} {T : Nat → Nat → Prop} {h : Nat → Nat → Bool}
theorem EndAt.cases (_E : EndAt e V s) {z : Nat} (hz : V z) : z = s ∨ Kn e V s z ∨ Mn e V s z ∨ Dn e V s z := by
  by_cases h1 : z = s
  · exact Or.inl h1
  by_cases h2 : e s z
  · exact Or.inr (Or.inl ⟨hz, h2⟩)
  have hf : Far e V s z := ⟨hz, h1, h2⟩
  by_cases h3 : ∃ k, Kn e V s k ∧ ¬ e z k
  · exact Or.inr (Or.inr (Or.inr ⟨hf, h3⟩))
  · exact Or.inr (Or.inr (Or.inl ⟨hf, fun k hk => Classical.byContradiction fun hn => h3 ⟨k, hk, hn⟩⟩))
theorem EndAt.kd (_E : EndAt e V s) {k : Nat} (hk : Kn e V s k) : ¬ Dn e V s k := fun hd => hd.1.2.2 hk.2
theorem EndAt.md {m : Nat} (hm : Mn e V s m) : ¬ Dn e V s m := fun hd => by
  obtain ⟨k, hk, hn⟩ := hd.2
  exact hn (hm.2 k hk)
/-- From s round b to what hangs with a. -/
theorem EndAt.route (E : EndAt e V s) {z a b : Nat} (hb : Dn e V s b) (hz : V z) (hzd : ¬ Dn e V s z) (hza : e z a) (ha : Dn e V s a) (hab : ¬ Cn e (Dn e V s) a b) (hzb : ¬ e z b) {a' : Nat} (haa : Cn e (Dn e V s) a a') : Cn e (Far e V b) s a' := by
  have far : ∀ y, Cn e (Dn e V s) a y → Far e V b y := fun y hy => ⟨hy.right.1.1, fun hh => hab (hh ▸ hy), fun hh => hab (hy.step (E.sym _ _ hh) hb)⟩
  have hsb : Far e V b s := ⟨E.hs, fun hh => hb.1.2.1 hh.symm, fun hh => hb.1.2.2 (E.sym _ _ hh)⟩
  have hzf : Far e V b z := ⟨hz, fun hh => hzd (hh ▸ hb), fun hh => hzb (E.sym _ _ hh)⟩
  have toz : Cn e (Far e V b) s z := by
    rcases E.cases hz with h1 | h1 | h1 | h1
    · subst h1; exact Cn.refl hsb
    · exact (Cn.refl hsb).step h1.2 hzf
    · obtain ⟨k, hk, hn⟩ := hb.2
      exact ((Cn.refl hsb).step hk.2 ⟨hk.1, fun hh => E.kd hk (hh ▸ hb), hn⟩).step (E.sym _ _ (h1.2 k hk)) hzf
    · exact absurd h1 hzd
  have hay : Cn e (Far e V b) a a' := (haa.also (S' := Far e V b) (fun u hu => far u hu)).mono (fun _ hh => hh.2)
  exact (toz.step hza (far a (Cn.refl ha))).trans hay
/-- Of any two parts of the far ones what is near the one is near all of the other, or the other way round. -/
theorem EndAt.near (E : EndAt e V s) {p q : Nat} (hpq : ¬ Cn e (Dn e V s) p q) : NearTo e V s p q ∨ NearTo e V s q p := by
  refine Classical.byContradiction fun hn => ?_
  have h1 : ¬ NearTo e V s p q := fun hh => hn (Or.inl hh)
  have h2 : ¬ NearTo e V s q p := fun hh => hn (Or.inr hh)
  have ex : ∀ {p q : Nat}, ¬ NearTo e V s p q → ∃ z q' p', V z ∧ ¬ Dn e V s z ∧ Cn e (Dn e V s) q q' ∧ e z q' ∧ Cn e (Dn e V s) p p' ∧ ¬ e z p' := fun {p q} hh => by
    refine Classical.byContradiction fun hc => hh fun z hz hzd ⟨q', h1, h2⟩ p' h3 => ?_
    exact Classical.byContradiction fun h4 => hc ⟨z, q', p', hz, hzd, h1, h2, h3, h4⟩
  obtain ⟨z, q1, p1, a1, a2, a3, a4, a5, a6⟩ := ex h1
  obtain ⟨y, p2, q2, b1, b2, b3, b4, b5, b6⟩ := ex h2
  have apart : ∀ {u v}, Cn e (Dn e V s) p u → Cn e (Dn e V s) q v → ¬ Cn e (Dn e V s) u v := fun hu hv hh => hpq ((hu.trans hh).trans (hv.symm E.sym))
  have r1 := E.route a5.right a1 a2 a4 a3.right (fun hh => apart a5 a3 (hh.symm E.sym)) a6 (a' := q2) ((a3.symm E.sym).trans b5)
  have r2 := E.route b5.right b1 b2 b4 b3.right (apart b3 b5) b6 (a' := p1) ((b3.symm E.sym).trans a5)
  exact E.ast ⟨p1, q2, s, E.hang _ _ a5.right.1 b5.right.1, r1.symm E.sym, r2.symm E.sym⟩

/-- What a direction of the rest tells: those ahead of one near s, and those behind one. -/
structure DirAt (e : Nat → Nat → Prop) (V : Nat → Prop) (s : Nat) (h : Nat → Nat → Bool) (T : Nat → Nat → Prop) : Prop extends EndAt e V s where
  co : CoOf e (fun z => V z ∧ z ≠ s) h
  dir : Dir h T
def flipT (T : Nat → Nat → Prop) : Nat → Nat → Prop := fun x y => T y x
theorem DirAt.flip (E : DirAt e V s h T) : DirAt e V s h (flipT T) :=
  { E with dir := ⟨fun x y hh => by rw [E.co.sym E.sym]; exact E.dir.edge _ _ hh, fun x y hh => (E.dir.some x y hh).symm, fun x y h1 h2 => E.dir.one _ _ h1 h2, fun x y z h1 h2 => E.dir.on _ _ _ h2 h1⟩ }
theorem DirAt.or (E : DirAt e V s h T) {a b : Nat} (ha : V a) (hb : V b) (has : a ≠ s) (hbs : b ≠ s) (hne : a ≠ b) (hn : ¬ e a b) : T a b ∨ T b a :=
  E.dir.some a b ((E.co a b).2 ⟨⟨ha, has⟩, ⟨hb, hbs⟩, hne, hn⟩)
theorem DirAt.non (E : DirAt e V s h T) {a b : Nat} (hh : T a b) : (V a ∧ a ≠ s) ∧ (V b ∧ b ≠ s) ∧ a ≠ b ∧ ¬ e a b := (E.co a b).1 (E.dir.edge _ _ hh)
theorem DirAt.go (E : DirAt e V s h T) {a b c : Nat} (hab : T a b) (hbc : e b c) (hV : V c) (hcs : c ≠ s) (hne : a ≠ c) (hn : ¬ e a c) : T a c :=
  E.dir.right E.sym E.irr E.co hab hbc ⟨hV, hcs⟩ hne hn
theorem DirAt.back (E : DirAt e V s h T) {a b c : Nat} (hab : T a b) (hac : e a c) (hV : V c) (hcs : c ≠ s) (hne : c ≠ b) (hn : ¬ e c b) : T c b :=
  E.flip.go (T := flipT T) (a := b) (b := a) (c := c) hab hac hV hcs (fun hh => hne hh.symm) (fun hh => hn (E.sym _ _ hh))
theorem DirAt.kns (E : DirAt e V s h T) {k : Nat} (hk : Kn e V s k) : k ≠ s := fun hh => E.irr s (hh ▸ hk.2)
theorem DirAt.split (E : DirAt e V s h T) {z : Nat} (hz : Dn e V s z) : Ln e V s T z ∨ Ln e V s (flipT T) z := by
  obtain ⟨hf, k, hk, hn⟩ := hz
  have hzk : z ≠ k := fun hh => hf.2.2 (hh ▸ hk.2)
  rcases E.or hf.1 hk.1 hf.2.1 (E.kns hk) hzk hn with h1 | h1
  · exact Or.inl ⟨hf, k, hk, h1⟩
  · exact Or.inr ⟨hf, k, hk, h1⟩
theorem DirAt.ld (E : DirAt e V s h T) {z : Nat} (hz : Ln e V s T z) : Dn e V s z := by
  obtain ⟨hf, k, hk, ht⟩ := hz
  exact ⟨hf, k, hk, (E.non ht).2.2.2⟩
theorem DirAt.kk (E : DirAt e V s h T) {k k' : Nat} (hk : Kn e V s k) (hk' : Kn e V s k') : ¬ T k k' := fun hh => by
  have := E.non hh
  exact this.2.2.2 (E.clq _ _ hk.1 hk'.1 hk.2 hk'.2 this.2.2.1)
theorem DirAt.one (E : DirAt e V s h T) {z : Nat} (h1 : Ln e V s T z) (h2 : Ln e V s (flipT T) z) : False := by
  obtain ⟨_, k, hk, ht⟩ := h1
  obtain ⟨_, k', hk', ht'⟩ := h2
  exact E.kk hk' hk (E.dir.on _ _ _ ht' ht)
theorem DirAt.apart (E : DirAt e V s h T) {x y : Nat} (hx : Ln e V s T x) (hy : Ln e V s (flipT T) y) : ¬ e x y := fun hxy => by
  have hx0 := hx
  have hy0 := hy
  obtain ⟨fx, v, hv, hxv⟩ := hx
  obtain ⟨fy, u, hu, huy⟩ := hy
  have huy : T u y := huy
  have nv := E.non hxv
  have nu := E.non huy
  have hyv : e y v := Classical.byContradiction fun hn => by
    have : T y v := E.back hxv hxy fy.1 fy.2.1 (fun hh => fy.2.2 (hh ▸ hv.2)) hn
    exact E.one ⟨fy, v, hv, this⟩ hy0
  have hxu : e u x := Classical.byContradiction fun hn => by
    have : T u x := E.go huy (E.sym _ _ hxy) fx.1 fx.2.1 (fun hh => fx.2.2 (hh ▸ hu.2)) hn
    exact E.one hx0 ⟨fx, u, hu, this⟩
  by_cases huv : u = v
  · subst huv
    exact nu.2.2.2 (E.sym _ _ hyv)
  · have hvu := E.clq v u hv.1 hu.1 hv.2 hu.2 (fun hh => huv hh.symm)
    exact nu.2.2.2 (E.sym _ _ (E.four x y v u fx.1 fy.1 hv.1 hu.1 hxy hyv hvu hxu nv.2.2.1 (fun hh => nu.2.2.1 hh.symm) nv.2.2.2))
theorem DirAt.keepL (E : DirAt e V s h T) {x y : Nat} (hx : Ln e V s T x) (hxy : Cn e (Dn e V s) x y) : Ln e V s T y := by
  induction hxy with
  | refl _ => exact hx
  | step _ h2 h3 ih =>
    rcases E.split h3 with h4 | h4
    · exact h4
    · exact absurd h2 (E.apart ih h4)
theorem DirAt.mL (E : DirAt e V s h T) {m p : Nat} (hm : Mn e V s m) (hp : Ln e V s T p) : ¬ T m p := fun hh => by
  obtain ⟨_, k, hk, ht⟩ := hp
  exact (E.non (E.dir.on _ _ _ hh ht)).2.2.2 (hm.2 k hk)
theorem DirAt.kL (E : DirAt e V s h T) {k p : Nat} (hk : Kn e V s k) (hp : Ln e V s T p) : ¬ T k p := fun hh => E.one hp ⟨hp.1, k, hk, hh⟩

/-- The arcs of s's class keep to these. -/
def Jn (e : Nat → Nat → Prop) (V : Nat → Prop) (s : Nat) (T : Nat → Nat → Prop) (p q : Nat) : Prop :=
  p = s ∨ Kn e V s p ∨ (Mn e V s p ∧ Dn e V s q) ∨ (Mn e V s p ∧ Mn e V s q ∧ T p q) ∨ (Dn e V s p ∧ Dn e V s q ∧ ¬ Cn e (Dn e V s) p q ∧ NearTo e V s p q) ∨
    (Cn e (Dn e V s) p q ∧ Ln e V s (flipT T) p ∧ T p q) ∨ (Cn e (Dn e V s) p q ∧ Ln e V s T p ∧ T q p)
theorem NearTo.same {p q p' q' : Nat} (hh : NearTo e V s p q) (hp : Cn e (Dn e V s) p p') (hq : Cn e (Dn e V s) q q') : NearTo e V s p' q' :=
  fun z hz hzd ⟨y, h1, h2⟩ x hx => hh z hz hzd ⟨y, hq.trans h1, h2⟩ x (hp.trans hx)
/-- Where one outside is near p', which is far, and far from q. -/
theorem DirAt.enter (E : DirAt e V s h T) {p q p' : Nat} (hp : V p) (hpd : ¬ Dn e V s p) (hq : Dn e V s q) (hp' : Dn e V s p') (hpp : e p p') (hpq : ¬ e p q) (hne : p' ≠ q) (hn : ¬ e p' q)
    (hL : Ln e V s T q → T q p) (hR : Ln e V s (flipT T) q → T p q) : Jn e V s T p' q := by
  have q0 := hq.1
  by_cases hc : Cn e (Dn e V s) p' q
  · rcases E.split hp' with h1 | h1
    · have h2 := E.keepL h1 hc
      exact Or.inr (Or.inr (Or.inr (Or.inr (Or.inr (Or.inr ⟨hc, h1, E.go (hL h2) hpp hp'.1.1 hp'.1.2.1 (fun hh => hne hh.symm) (fun hh => hn (E.sym _ _ hh))⟩)))))
    · have h2 := E.flip.keepL h1 hc
      exact Or.inr (Or.inr (Or.inr (Or.inr (Or.inr (Or.inl ⟨hc, h1, E.back (hR h2) hpp hp'.1.1 hp'.1.2.1 hne hn⟩)))))
  · rcases E.near hc with h1 | h1
    · exact Or.inr (Or.inr (Or.inr (Or.inr (Or.inl ⟨hp', hq, hc, h1⟩))))
    · exact absurd (h1 p hp hpd ⟨p', Cn.refl hp', hpp⟩ q (Cn.refl hq)) hpq
theorem DirAt.ofK (E : DirAt e V s h T) {p q : Nat} (hp : Kn e V s p) (hq : V q) (hne : p ≠ q) (hn : ¬ e p q) : Dn e V s q := by
  rcases E.cases hq with h1 | h1 | h1 | h1
  · exact absurd (E.sym _ _ hp.2) (h1 ▸ hn)
  · exact absurd (E.clq _ _ hp.1 h1.1 hp.2 h1.2 hne) hn
  · exact absurd (E.sym _ _ (h1.2 p hp)) hn
  · exact h1
theorem DirAt.first (E : DirAt e V s h T) (hA : ∀ m m' x, Mn e V s m → Mn e V s m' → m ≠ m' → Ln e V s T x → e m x → e m m') {p q p' : Nat} (hp : V p) (hq : V q) (hp' : V p') (hne0 : p ≠ q) (hn0 : ¬ e p q) (hne : p' ≠ q) (hn : ¬ e p' q) (hpp : e p p') (hj : Jn e V s T p q) : Jn e V s T p' q := by
  rcases hj with hj | hj | hj | hj | hj | hj | hj
  · exact Or.inr (Or.inl ⟨hp', hj ▸ hpp⟩)
  · have hd := E.ofK hj hq hne0 hn0
    rcases E.cases hp' with h1 | h1 | h1 | h1
    · exact Or.inl h1
    · exact Or.inr (Or.inl h1)
    · exact Or.inr (Or.inr (Or.inl ⟨h1, hd⟩))
    · refine E.enter hp (E.kd hj) hd h1 hpp hn0 hne hn (fun hl => ?_) (fun hl => ?_)
      · exact (E.or hq hp hd.1.2.1 (E.kns hj) (fun hh => hne0 hh.symm) (fun hh => hn0 (E.sym _ _ hh))).elim id (fun hh => absurd hh (E.kL hj hl))
      · exact (E.or hp hq (E.kns hj) hd.1.2.1 hne0 hn0).elim id (fun hh => absurd hh (E.flip.kL hj hl))
  · obtain ⟨hm, hd⟩ := hj
    rcases E.cases hp' with h1 | h1 | h1 | h1
    · exact Or.inl h1
    · exact Or.inr (Or.inl h1)
    · exact Or.inr (Or.inr (Or.inl ⟨h1, hd⟩))
    · refine E.enter hp (EndAt.md hm) hd h1 hpp hn0 hne hn (fun hl => ?_) (fun hl => ?_)
      · exact (E.or hq hp hd.1.2.1 hm.1.2.1 (fun hh => hne0 hh.symm) (fun hh => hn0 (E.sym _ _ hh))).elim id (fun hh => absurd hh (E.mL hm hl))
      · exact (E.or hp hq hm.1.2.1 hd.1.2.1 hne0 hn0).elim id (fun hh => absurd hh (E.flip.mL hm hl))
  · obtain ⟨hm, hm', ht⟩ := hj
    rcases E.cases hp' with h1 | h1 | h1 | h1
    · exact Or.inl h1
    · exact Or.inr (Or.inl h1)
    · exact Or.inr (Or.inr (Or.inr (Or.inl ⟨h1, hm', E.back ht hpp hp' h1.1.2.1 hne hn⟩)))
    · rcases E.split h1 with h2 | h2
      · exact absurd (hA p q p' hm hm' hne0 h2 hpp) hn0
      · exact absurd (E.back ht hpp hp' h1.1.2.1 hne hn) (E.flip.mL hm' h2)
  · obtain ⟨h1, h2, h3, h4⟩ := hj
    rcases E.cases hp' with h5 | h5 | h5 | h5
    · exact Or.inl h5
    · exact Or.inr (Or.inl h5)
    · exact Or.inr (Or.inr (Or.inl ⟨h5, h2⟩))
    · have hc : Cn e (Dn e V s) p p' := (Cn.refl h1).step hpp h5
      exact Or.inr (Or.inr (Or.inr (Or.inr (Or.inl ⟨h5, h2, fun hh => h3 (hc.trans hh), h4.same hc (Cn.refl h2)⟩))))
  · obtain ⟨h1, h2, h3⟩ := hj
    rcases E.cases hp' with h5 | h5 | h5 | h5
    · exact Or.inl h5
    · exact Or.inr (Or.inl h5)
    · exact Or.inr (Or.inr (Or.inl ⟨h5, h1.right⟩))
    · have hc : Cn e (Dn e V s) p p' := (Cn.refl h1.left).step hpp h5
      exact Or.inr (Or.inr (Or.inr (Or.inr (Or.inr (Or.inl ⟨(hc.symm E.sym).trans h1, E.flip.keepL h2 hc, E.back h3 hpp hp' h5.1.2.1 hne hn⟩)))))
  · obtain ⟨h1, h2, h3⟩ := hj
    rcases E.cases hp' with h5 | h5 | h5 | h5
    · exact Or.inl h5
    · exact Or.inr (Or.inl h5)
    · exact Or.inr (Or.inr (Or.inl ⟨h5, h1.right⟩))
    · have hc : Cn e (Dn e V s) p p' := (Cn.refl h1.left).step hpp h5
      exact Or.inr (Or.inr (Or.inr (Or.inr (Or.inr (Or.inr ⟨(hc.symm E.sym).trans h1, E.keepL h2 hc, E.go h3 hpp hp' h5.1.2.1 (fun hh => hne hh.symm) (fun hh => hn (E.sym _ _ hh))⟩)))))
theorem DirAt.second (E : DirAt e V s h T) (hA : ∀ m m' x, Mn e V s m → Mn e V s m' → m ≠ m' → Ln e V s T x → e m x → e m m') {p q q' : Nat} (hp : V p) (hq : V q) (hq' : V q') (hne0 : p ≠ q) (hn0 : ¬ e p q) (hne : p ≠ q') (hn : ¬ e p q') (hqq : e q q') (hj : Jn e V s T p q) : Jn e V s T p q' := by
  rcases hj with hj | hj | hj | hj | hj | hj | hj
  · exact Or.inl hj
  · exact Or.inr (Or.inl hj)
  · obtain ⟨hm, hd⟩ := hj
    rcases E.cases hq' with h1 | h1 | h1 | h1
    · exact absurd (E.sym _ _ hqq) (h1 ▸ hd.1.2.2)
    · exact absurd (hm.2 q' h1) hn
    · rcases E.split hd with h2 | h2
      · exact absurd (E.sym _ _ (hA q' p q h1 hm (fun hh => hne hh.symm) h2 (E.sym _ _ hqq))) hn
      · have ht : T p q := (E.or hp hq hm.1.2.1 hd.1.2.1 hne0 hn0).elim id (fun hh => absurd hh (E.flip.mL hm h2))
        exact Or.inr (Or.inr (Or.inr (Or.inl ⟨hm, h1, E.go ht hqq hq' h1.1.2.1 hne hn⟩)))
    · exact Or.inr (Or.inr (Or.inl ⟨hm, h1⟩))
  · obtain ⟨hm, hm', ht⟩ := hj
    rcases E.cases hq' with h1 | h1 | h1 | h1
    · exact absurd (E.sym _ _ hqq) (h1 ▸ hm'.1.2.2)
    · exact absurd (hm.2 q' h1) hn
    · exact Or.inr (Or.inr (Or.inr (Or.inl ⟨hm, h1, E.go ht hqq hq' h1.1.2.1 hne hn⟩)))
    · exact Or.inr (Or.inr (Or.inl ⟨hm, h1⟩))
  · obtain ⟨h1, h2, h3, h4⟩ := hj
    by_cases hd : Dn e V s q'
    · have hc : Cn e (Dn e V s) q q' := (Cn.refl h2).step hqq hd
      exact Or.inr (Or.inr (Or.inr (Or.inr (Or.inl ⟨h1, hd, fun hh => h3 (hh.trans (hc.symm E.sym)), h4.same (Cn.refl h1) hc⟩))))
    · exact absurd (E.sym _ _ (h4 q' hq' hd ⟨q, Cn.refl h2, E.sym _ _ hqq⟩ p (Cn.refl h1))) hn
  · obtain ⟨h1, h2, h3⟩ := hj
    have hqs : q' ≠ s := fun hh => h1.right.1.2.2 (E.sym _ _ (hh ▸ hqq))
    have ht := E.go h3 hqq hq' hqs hne hn
    rcases E.cases hq' with h5 | h5 | h5 | h5
    · exact absurd h5 hqs
    · exact absurd ht (E.flip.kL h5 h2)
    · exact absurd ht (E.flip.mL h5 h2)
    · exact Or.inr (Or.inr (Or.inr (Or.inr (Or.inr (Or.inl ⟨h1.step hqq h5, h2, ht⟩)))))
  · obtain ⟨h1, h2, h3⟩ := hj
    have hqs : q' ≠ s := fun hh => h1.right.1.2.2 (E.sym _ _ (hh ▸ hqq))
    have ht := E.back h3 hqq hq' hqs (fun hh => hne hh.symm) (fun hh => hn (E.sym _ _ hh))
    rcases E.cases hq' with h5 | h5 | h5 | h5
    · exact absurd h5 hqs
    · exact absurd ht (E.kL h5 h2)
    · exact absurd ht (E.mL h5 h2)
    · exact Or.inr (Or.inr (Or.inr (Or.inr (Or.inr (Or.inr ⟨h1.step hqq h5, h2, ht⟩)))))
theorem DirAt.turned (E : DirAt e V s h T) {m m' x y : Nat} (hm : Mn e V s m) (hm' : Mn e V s m') (hne : m ≠ m') (hx : Ln e V s T x) (hmx : e m x) (hn : ¬ e m m') (hy : Ln e V s (flipT T) y) : ¬ e m y := fun hmy => by
  obtain ⟨fx, v, hv, hxv⟩ := id hx
  obtain ⟨fy, u, hu, huy⟩ := id hy
  have huy : T u y := huy
  have nv := E.non hxv
  have nu := E.non huy
  have ht : T m m' := by
    rcases E.or hm.1.1 hm'.1.1 hm.1.2.1 hm'.1.2.1 hne hn with h1 | h1
    · exact h1
    · by_cases h2 : e m' x
      · exact absurd (E.four x m v m' fx.1 hm.1.1 hv.1 hm'.1.1 (E.sym _ _ hmx) (hm.2 v hv) (E.sym _ _ (hm'.2 v hv)) h2 nv.2.2.1 hne nv.2.2.2) hn
      · exact absurd (E.go h1 hmx fx.1 fx.2.1 (fun hh => EndAt.md hm' (hh ▸ E.ld hx)) h2) (E.mL hm' hx)
  by_cases h2 : e y m'
  · exact hn (E.four u m y m' hu.1 hm.1.1 fy.1 hm'.1.1 (E.sym _ _ (hm.2 u hu)) hmy h2 (hm'.2 u hu) nu.2.2.1 hne nu.2.2.2)
  · exact E.flip.mL hm' hy (E.back ht hmy fy.1 fy.2.1 (fun hh => EndAt.md hm' (hh ▸ E.flip.ld hy)) h2)
/-- The end's arcs don't come back. -/
theorem DirAt.noBack (E : DirAt e V s h T) {h0 : Nat → Nat → Bool} (hc : CoOf e V h0) {y : Nat} (hy : h0 s y = true) : ¬ Fs h0 (s, y) (y, s) := by
  have main : ∀ {T : Nat → Nat → Prop}, DirAt e V s h T → (∀ m m' x, Mn e V s m → Mn e V s m' → m ≠ m' → Ln e V s T x → e m x → e m m') → ¬ Fs h0 (s, y) (y, s) := fun {T} E hA hf => by
    have := Fs.ind (P := fun q => h0 q.1 q.2 = true ∧ Jn e V s T q.1 q.2) ⟨hy, Or.inl rfl⟩ (fun q r _ hr ih => by
      obtain ⟨h1, h2⟩ := hc.step ih.1 hr
      refine ⟨h1, ?_⟩
      obtain ⟨q1, q2⟩ := q
      obtain ⟨r1, r2⟩ := r
      obtain ⟨i1, i2⟩ := ih
      simp only at h1 h2 i1 i2 ⊢
      obtain ⟨a1, a2, a3, a4⟩ := (hc _ _).1 i1
      obtain ⟨b1, b2, b3, b4⟩ := (hc _ _).1 h1
      rcases h2 with ⟨rfl, h2⟩ | ⟨rfl, h2⟩
      · exact E.second hA a1 a2 b2 a3 a4 b3 b4 h2 i2
      · exact E.first hA a1 a2 b1 a3 a4 b3 b4 h2 i2) hf
    obtain ⟨_, hj⟩ := this
    have hys := ((hc _ _).1 hy)
    simp only at hj
    rcases hj with hj | hj | hj | hj | hj | hj | hj
    · exact hys.2.2.1 hj.symm
    · exact hys.2.2.2 hj.2
    · exact hj.2.1.2.1 rfl
    · exact hj.2.1.1.2.1 rfl
    · exact hj.2.1.1.2.1 rfl
    · exact hj.1.right.1.2.1 rfl
    · exact hj.1.right.1.2.1 rfl
  by_cases hA : ∀ m m' x, Mn e V s m → Mn e V s m' → m ≠ m' → Ln e V s T x → e m x → e m m'
  · exact main E hA
  · refine main E.flip fun n n' y' hn hn' hnn hy' hny => Classical.byContradiction fun hno => hA fun m m' x hm hm' hmm hx hmx => Classical.byContradiction fun hmo => ?_
    have n1 := E.turned hm hm' hmm hx hmx hmo hy'
    have n2 := E.flip.turned hn hn' hnn hy' hny hno (y := x) hx
    have ap : ¬ Cn e (Dn e V s) x y' := fun hh => E.one (E.keepL hx hh) hy'
    have r1 := E.route (E.flip.ld hy') hm.1.1 (EndAt.md hm) hmx (E.ld hx) ap n1 (Cn.refl (E.ld hx))
    have r2 := E.route (E.ld hx) hn.1.1 (EndAt.md hn) hny (E.flip.ld hy') (fun hh => ap (hh.symm E.sym)) n2 (Cn.refl (E.flip.ld hy'))
    exact E.ast ⟨x, y', s, E.hang _ _ hx.1 hy'.1, r2.symm E.sym, r1.symm E.sym⟩
/-- An end can be put back. -/
theorem EndAt.good {N : Nat} (E : EndAt e V s) (hV : ∀ z, V z → z < N) {h' h0 : Nat → Nat → Bool} (hc' : CoOf e (fun z => V z ∧ z ≠ s) h') (hg : Good h') (hc : CoOf e V h0) : Good h0 := by
  obtain ⟨T, hT⟩ := Good.dir (N := N) _ h' rfl (hc'.sym E.sym) hc'.irr (fun x y hxy => ⟨hV x ((hc' x y).1 hxy).1.1, hV y ((hc' x y).1 hxy).2.1.1⟩) hg
  have D : DirAt e V s h' T := { E with co := hc', dir := hT }
  have hs0 := hc.sym E.sym
  intro p hp hf
  by_cases h1 : ∃ y, Fs h0 p (s, y)
  · obtain ⟨y, hy⟩ := h1
    have := ((hy.sym hs0 hp).trans hf).trans (hy.turn hs0)
    exact D.noBack hc (hy.edge hp) this
  by_cases h2 : ∃ y, Fs h0 p (y, s)
  · obtain ⟨y, hy⟩ := h2
    have := (hy.turn hs0).sym hs0 (by rw [hs0]; exact hp)
    have := (this.trans (hf.sym hs0 hp)).trans hy
    exact D.noBack hc (by rw [hs0]; exact hy.edge hp) this
  have : Fs h' p (p.2, p.1) ∧ h' p.1 p.2 = true := by
    have hp' : h' p.1 p.2 = true := by
      obtain ⟨a1, a2, a3, a4⟩ := (hc _ _).1 hp
      exact (hc' _ _).2 ⟨⟨a1, fun hh => h1 ⟨p.2, by rw [← hh]; exact Fs.refl⟩⟩, ⟨a2, fun hh => h2 ⟨p.1, by rw [← hh]; exact Fs.refl⟩⟩, a3, a4⟩
    refine ⟨Fs.ind (P := fun q => Fs h' p q) .refl (fun q r hq hr ih => ?_) hf, hp'⟩
    obtain ⟨i1, i2⟩ := hc.step (hq.edge hp) hr
    have hpr := hq.step hr
    obtain ⟨b1, b2, b3, b4⟩ := (hc _ _).1 i1
    have hr' : h' r.1 r.2 = true := (hc' _ _).2 ⟨⟨b1, fun hh => h1 ⟨r.2, by rw [← hh]; exact hpr⟩⟩, ⟨b2, fun hh => h2 ⟨r.1, by rw [← hh]; exact hpr⟩⟩, b3, b4⟩
    refine ih.step ⟨hr', ?_⟩
    rcases i2 with ⟨i2, i3⟩ | ⟨i2, i3⟩
    · exact Or.inl ⟨i2, fun hh => E.irr q.2 (by rw [← hh] at i3; exact i3), hc'.off i3⟩
    · exact Or.inr ⟨i2, fun hh => E.irr q.1 (by rw [← hh] at i3; exact i3), hc'.off i3⟩
  exact hg p this.2 this.1

theorem NoHole.mono {V' : Nat → Prop} (hm : ∀ z, V' z → V z) (hh : NoHole e V) : NoHole e V' :=
  fun v a u x y hv ha hu h1 h2 h3 h4 h5 h6 h7 => hh v a u x y (hm v hv) (hm a ha) (hm u hu) h1 h2 h3 h4 h5 (h6.mono fun _ hz => ⟨hm _ hz.1, hz.2⟩) h7
theorem Ast.mono {V' : Nat → Prop} (hm : ∀ z, V' z → V z) (hh : Ast e V') : Ast e V := by
  obtain ⟨a, b, c, h1, h2, h3⟩ := hh
  exact ⟨a, b, c, h1.mono fun _ hz => ⟨hm _ hz.1, hz.2⟩, h2.mono fun _ hz => ⟨hm _ hz.1, hz.2⟩, h3.mono fun _ hz => ⟨hm _ hz.1, hz.2⟩⟩
/-- A set whose nodes the others see alike: the complement is good if it is so within the set, and with one node for all of the set. -/
theorem module_good (hs : ∀ a b, e a b → e b a) (hi : ∀ a, ¬ e a a) {M : Nat → Prop} {s : Nat} (hM : ∀ z, M z → V z) (hsM : M s) (hmod : ∀ x y z, M x → M y → V z → ¬ M z → e x z → e y z) {hm h1 h0 : Nat → Nat → Bool} (cm : CoOf e M hm) (c1 : CoOf e (fun z => V z ∧ (M z → z = s)) h1) (c0 : CoOf e V h0) (gm : Good hm) (g1 : Good h1) : Good h0 := by
  intro p hp hf
  by_cases hpm : M p.1 ∧ M p.2
  · have : Fs hm p (p.2, p.1) := by
      have := Fs.ind (P := fun q => (M q.1 ∧ M q.2) ∧ Fs hm p q) ⟨hpm, .refl⟩ (fun q r hq hr ih => by
        obtain ⟨i1, i2⟩ := c0.step (hq.edge hp) hr
        obtain ⟨⟨m1, m2⟩, ih⟩ := ih
        obtain ⟨b1, b2, b3, b4⟩ := (c0 _ _).1 i1
        obtain ⟨a1, a2, a3, a4⟩ := (c0 _ _).1 (hq.edge hp)
        rcases i2 with ⟨i2, i3⟩ | ⟨i2, i3⟩
        · have hr2 : M r.2 := Classical.byContradiction fun hn => b4 (by rw [← i2]; exact hmod q.2 q.1 r.2 m2 m1 b2 hn i3)
          have hr1 : M r.1 := by rw [← i2]; exact m1
          exact ⟨⟨hr1, hr2⟩, ih.step ⟨(cm _ _).2 ⟨hr1, hr2, b3, b4⟩, Or.inl ⟨i2, fun hh => hi q.2 (by rw [← hh] at i3; exact i3), cm.off i3⟩⟩⟩
        · have hr1 : M r.1 := Classical.byContradiction fun hn => b4 (hs _ _ (by rw [← i2]; exact hmod q.1 q.2 r.1 m1 m2 b1 hn i3))
          have hr2 : M r.2 := by rw [← i2]; exact m2
          exact ⟨⟨hr1, hr2⟩, ih.step ⟨(cm _ _).2 ⟨hr1, hr2, b3, b4⟩, Or.inr ⟨i2, fun hh => hi q.1 (by rw [← hh] at i3; exact i3), cm.off i3⟩⟩⟩) hf
      exact this.2
    obtain ⟨a1, a2, a3, a4⟩ := (c0 _ _).1 hp
    exact gm p ((cm _ _).2 ⟨hpm.1, hpm.2, a3, a4⟩) this
  · obtain ⟨f, hfM, hfN⟩ : ∃ f : Nat → Nat, (∀ z, M z → f z = s) ∧ (∀ z, ¬ M z → f z = z) := by
      classical
      exact ⟨fun z => if M z then s else z, fun z hz => if_pos hz, fun z hz => if_neg hz⟩
    have hfV : ∀ z, V z → V (f z) ∧ (M (f z) → f z = s) := fun z hz => by
      by_cases hz' : M z
      · rw [hfM z hz']; exact ⟨hM s hsM, fun _ => rfl⟩
      · rw [hfN z hz']; exact ⟨hz, fun hh => absurd hh hz'⟩
    have img : ∀ x y, V x → V y → x ≠ y → ¬ (M x ∧ M y) → f x ≠ f y ∧ (e (f x) (f y) ↔ e x y) := fun x y hx hy hne hxy => by
      by_cases mx : M x
      · have my : ¬ M y := fun hh => hxy ⟨mx, hh⟩
        rw [hfM x mx, hfN y my]
        exact ⟨fun hh => my (hh ▸ hsM), fun hh => hmod s x y hsM mx hy my hh, fun hh => hmod x s y mx hsM hy my hh⟩
      · by_cases my : M y
        · rw [hfM y my, hfN x mx]
          exact ⟨fun hh => mx (hh ▸ hsM), fun hh => hs _ _ (hmod s y x hsM my hx mx (hs _ _ hh)), fun hh => hs _ _ (hmod y s x my hsM hx mx (hs _ _ hh))⟩
        · rw [hfN y my, hfN x mx]; exact ⟨hne, Iff.rfl⟩
    have co : ∀ x y, h0 x y = true → ¬ (M x ∧ M y) → h1 (f x) (f y) = true := fun x y hxy hn => by
      obtain ⟨a1, a2, a3, a4⟩ := (c0 _ _).1 hxy
      have := img x y a1 a2 a3 hn
      exact (c1 _ _).2 ⟨hfV x a1, hfV y a2, this.1, fun hh => a4 (this.2.1 hh)⟩
    have := Fs.ind (P := fun q => ¬ (M q.1 ∧ M q.2) ∧ Fs h1 (f p.1, f p.2) (f q.1, f q.2)) ⟨hpm, .refl⟩ (fun q r hq hr ih => by
        obtain ⟨i1, i2⟩ := c0.step (hq.edge hp) hr
        obtain ⟨m1, ih⟩ := ih
        obtain ⟨b1, b2, b3, b4⟩ := (c0 _ _).1 i1
        obtain ⟨a1, a2, a3, a4⟩ := (c0 _ _).1 (hq.edge hp)
        rcases i2 with ⟨i2, i3⟩ | ⟨i2, i3⟩
        · have hn : ¬ (M r.1 ∧ M r.2) := fun ⟨n1, n2⟩ => by
            have n1 : M q.1 := by rw [i2]; exact n1
            have hq2 : ¬ M q.2 := fun hh => m1 ⟨n1, hh⟩
            exact a4 (hmod r.2 q.1 q.2 n2 n1 a2 hq2 (hs _ _ i3))
          refine ⟨hn, ?_⟩
          have hc := co _ _ i1 hn
          by_cases hb : M q.2 ∧ M r.2
          · rw [hfM _ hb.1] at ih
            rw [hfM _ hb.2, ← i2]; exact ih
          · have := img q.2 r.2 a2 b2 (fun hh => hi q.2 (by rw [← hh] at i3; exact i3)) hb
            exact ih.step ⟨hc, Or.inl ⟨by simp only; rw [i2], this.1, c1.off (this.2.2 i3)⟩⟩
        · have hn : ¬ (M r.1 ∧ M r.2) := fun ⟨n1, n2⟩ => by
            have n2 : M q.2 := by rw [i2]; exact n2
            have hq1 : ¬ M q.1 := fun hh => m1 ⟨hh, n2⟩
            exact a4 (hs _ _ (hmod r.1 q.2 q.1 n1 n2 a1 hq1 (hs _ _ i3)))
          refine ⟨hn, ?_⟩
          have hc := co _ _ i1 hn
          by_cases hb : M q.1 ∧ M r.1
          · rw [hfM _ hb.1] at ih
            rw [hfM _ hb.2, ← i2]; exact ih
          · have := img q.1 r.1 a1 b1 (fun hh => hi q.1 (by rw [← hh] at i3; exact i3)) hb
            exact ih.step ⟨hc, Or.inr ⟨by simp only; rw [i2], this.1, c1.off (this.2.2 i3)⟩⟩) hf
    exact g1 (f p.1, f p.2) (co _ _ hp hpm) this.2
/-- LEKKERKERKER AND BOLAND. -/
theorem boland {N : Nat} (hs : ∀ a b, e a b → e b a) (hi : ∀ a, ¬ e a a) : ∀ (m : Nat) (V : Nat → Prop), szOf N V = m → (∀ z, V z → z < N) → NoHole e V → ¬ Ast e V → ∀ h, CoOf e V h → Good h := by
  intro m
  induction m using Nat.strongRecOn with
  | _ m ih =>
    intro V hm hV hno hast h hc
    by_cases hall : ∃ v c, V v ∧ V c ∧ v ≠ c ∧ ¬ e v c
    · obtain ⟨v0, c0, h1, h2, h3, h4⟩ := hall
      obtain ⟨k, ⟨s, c, hv, hc', hvc, hnvc, hk⟩, hmax⟩ := max_ex (P := fun k => ∃ v c, V v ∧ V c ∧ v ≠ c ∧ ¬ e v c ∧ szOf N (Cn e (Far e V v) c) = k) (B := N) (fun k h => by
        obtain ⟨v, c, _, _, _, _, h⟩ := h
        rw [← h]; exact szOf_le _) N _ ⟨v0, c0, h1, h2, h3, h4, rfl⟩ (by omega)
      obtain ⟨C, hC⟩ : ∃ C : Nat → Prop, C = Cn e (Far e V s) c := ⟨_, rfl⟩
      have cC : C c := by rw [hC]; exact Cn.refl ⟨hc', fun hh => hvc hh.symm, hnvc⟩
      have Cfar : ∀ z, C z → Far e V s z := fun z hz => by rw [hC] at hz; exact hz.right
      have Cstep : ∀ y z, C y → e y z → Far e V s z → C z := fun y z hy hyz hz => by rw [hC] at hy ⊢; exact hy.step hyz hz
      -- S: near C, outside it
      have Sn : ∀ y z, C y → e y z → V z → ¬ C z → e s z := fun y z hy hyz hz hnz => Classical.byContradiction fun hn => by
        by_cases hzs : z = s
        · exact (Cfar y hy).2.2 (hs _ _ (hzs ▸ hyz))
        · exact hnz (Cstep y z hy hyz ⟨hz, hzs, hn⟩)
      obtain ⟨M, hM⟩ : ∃ M : Nat → Prop, ∀ z, M z ↔ (V z ∧ ¬ C z ∧ ¬ ∃ x, C x ∧ e x z) := ⟨fun z => V z ∧ ¬ C z ∧ ¬ ∃ x, C x ∧ e x z, fun _ => Iff.rfl⟩
      have sM : M s := (hM s).2 ⟨hv, fun hh => (Cfar s hh).2.1 rfl, fun ⟨x, hx, hxs⟩ => (Cfar x hx).2.2 (hs _ _ hxs)⟩
      have comp : ∀ v x y, V v → ¬ C v → C y → e y v → M x → e x v := fun v x y hvv hvC hy hyv hx => Classical.byContradiction fun hn => by
        obtain ⟨x1, x2, x3⟩ := (hM x).1 hx
        have off : ∀ z, C z → Far e V x z := fun z hz => ⟨(Cfar z hz).1, fun hh => x2 (hh ▸ hz), fun hh => x3 ⟨z, hz, hs _ _ hh⟩⟩
        have sub : ∀ z, C z → Cn e (Far e V x) c z := fun z hz => by
          have hz' := hz
          rw [hC] at hz'
          exact (hz'.also (S' := Far e V x) (fun u hu => off u (by rw [hC]; exact hu))).mono (fun _ hh => hh.2)
        have hvx : v ≠ x := fun hh => x3 ⟨y, hy, hh ▸ hyv⟩
        have hvD : Cn e (Far e V x) c v := (sub y hy).step hyv ⟨hvv, hvx, hn⟩
        have hle := hmax (szOf N (Cn e (Far e V x) c)) ⟨x, c, x1, hc', fun hh => x2 (hh ▸ cC), (off c cC).2.2, rfl⟩
        have hlt := szOf_lt (N := N) (K := Cn e (Far e V x) c) (K' := C) sub (hV v hvv) hvD hvC
        rw [hC, hk] at hlt
        omega
      have hmod : ∀ x y z, M x → M y → V z → ¬ M z → e x z → e y z := fun x y z hx hy hz hnz hxz => by
        by_cases zC : C z
        · exact absurd ⟨z, zC, hs _ _ hxz⟩ ((hM x).1 hx).2.2
        · have : ∃ u, C u ∧ e u z := Classical.byContradiction fun hn => hnz ((hM z).2 ⟨hz, zC, hn⟩)
          obtain ⟨u, hu, huz⟩ := this
          exact comp z y u hz zC hu huz hy
      by_cases hr : ∃ r, M r ∧ r ≠ s
      · obtain ⟨r, hrM, hrs⟩ := hr
        obtain ⟨hm', cm⟩ := exAdj (fun x y => M x ∧ M y ∧ x ≠ y ∧ ¬ e x y)
        obtain ⟨h1', c1⟩ := exAdj (fun x y => (V x ∧ (M x → x = s)) ∧ (V y ∧ (M y → y = s)) ∧ x ≠ y ∧ ¬ e x y)
        have cm : CoOf e M hm' := cm
        have c1 : CoOf e (fun z => V z ∧ (M z → z = s)) h1' := c1
        have lt1 : szOf N M < m := by
          rw [← hm]
          exact szOf_lt (fun z hz => ((hM z).1 hz).1) (hV c hc') hc' (fun hh => ((hM c).1 hh).2.1 cC)
        have lt2 : szOf N (fun z => V z ∧ (M z → z = s)) < m := by
          rw [← hm]
          exact szOf_lt (fun z hz => hz.1) (hV r ((hM r).1 hrM).1) ((hM r).1 hrM).1 (fun hh => hrs (hh.2 hrM))
        have gm := ih _ lt1 M rfl (fun z hz => hV z ((hM z).1 hz).1) (hno.mono fun z hz => ((hM z).1 hz).1) (fun hh => hast (hh.mono fun z hz => ((hM z).1 hz).1)) _ cm
        have g1 := ih _ lt2 _ rfl (fun z hz => hV z hz.1) (hno.mono fun z hz => hz.1) (fun hh => hast (hh.mono fun z hz => hz.1)) _ c1
        exact module_good hs hi (fun z hz => ((hM z).1 hz).1) sM hmod cm c1 hc gm g1
      · have only : ∀ z, V z → ¬ C z → z ≠ s → ∃ x, C x ∧ e x z := fun z hz hzC hzs => Classical.byContradiction fun hn => hr ⟨z, (hM z).2 ⟨hz, hzC, hn⟩, hzs⟩
        have farC : ∀ z, Far e V s z → C z := fun z hz => Classical.byContradiction fun hn => by
          obtain ⟨x, hx, hxz⟩ := only z hz.1 hn hz.2.1
          exact hn (Cstep x z hx hxz hz)
        have E : EndAt e V s :=
          { sym := hs, irr := hi, hs := hv, ast := hast
            hang := fun x y hx hy => by
              have h1 := farC x hx
              have h2 := farC y hy
              rw [hC] at h1 h2
              exact (h1.symm hs).trans h2
            clq := fun a b ha hb hsa hsb hab => Classical.byContradiction fun hn => by
              obtain ⟨x, hx, hxa⟩ := only a ha (fun hh => (Cfar a hh).2.2 hsa) (fun hh => hi s (hh ▸ hsa))
              obtain ⟨y, hy, hyb⟩ := only b hb (fun hh => (Cfar b hh).2.2 hsb) (fun hh => hi s (hh ▸ hsb))
              rw [hC] at hx hy
              exact hno s a b x y hv ha hb hsa hsb hab hn hxa ((hx.symm hs).trans hy) hyb
            four := fun a b c d ha hb hc hd hab hbc hcd hda hac hbd hn => Classical.byContradiction fun hbdn => 
              hno a b d c c ha hb hd hab (hs _ _ hda) hbd hbdn (hs _ _ hbc) (Cn.refl ⟨hc, fun hh => hac hh.symm, hn⟩) hcd }
        obtain ⟨h', c1⟩ := exAdj (fun x y => (V x ∧ x ≠ s) ∧ (V y ∧ y ≠ s) ∧ x ≠ y ∧ ¬ e x y)
        have c1 : CoOf e (fun z => V z ∧ z ≠ s) h' := c1
        have lt2 : szOf N (fun z => V z ∧ z ≠ s) < m := by
          rw [← hm]
          exact szOf_lt (fun z hz => hz.1) (hV s hv) hv (fun hh => hh.2 rfl)
        have g1 := ih _ lt2 _ rfl (fun z hz => hV z hz.1) (hno.mono fun z hz => hz.1) (fun hh => hast (hh.mono fun z hz => hz.1)) _ c1
        exact E.good hV c1 g1 hc
    · intro p hp
      obtain ⟨a1, a2, a3, a4⟩ := (hc _ _).1 hp
      exact absurd ⟨_, _, a1, a2, a3, a4⟩ hall
end
end Go.Proofs.YtkkfjfphmlcieaaGreat

namespace Go.Proofs.YtkkfjfphmlcieaaGreat
variable {N : Nat} {adj : Nat → Nat → Bool}
theorem IsOrd.at {O : List Nat} (h : IsOrd N adj O) {z : Nat} (hz : z < N) : ∃ i, i < N ∧ O.getD i 0 = z := by
  have hmem : z ∈ O := by
    apply Classical.byContradiction
    intro hn
    have := nat_nodup_len (z :: O) (List.range N) (List.nodup_cons.2 ⟨hn, h.nd⟩) (fun x hx => by
      rcases List.mem_cons.1 hx with rfl | hx
      · exact List.mem_range.2 hz
      · exact List.mem_range.2 (h.lt x hx))
    simp [h.len] at this
    omega
  obtain ⟨i, hi, e⟩ := List.getElem_of_mem hmem
  exact ⟨i, by rw [← h.len]; exact hi, by simp [List.getD, hi, e]⟩
theorem leastOf {P : Nat → Prop} : ∀ n, P n → ∃ m, P m ∧ ∀ k, k < m → ¬ P k := by
  intro n
  induction n using Nat.strongRecOn with
  | _ n ih =>
    intro hn
    by_cases h : ∃ k, k < n ∧ P k
    · obtain ⟨k, hk, hp⟩ := h
      exact ih k hk hp
    · exact ⟨n, hn, fun k hk hp => h ⟨k, hk, hp⟩⟩
theorem IsOrd.first (hs : ∀ x y, adj x y = adj y x) (hi : ∀ x, adj x x = false) {O : List Nat} (h : IsOrd N adj O) {W : Nat → Prop} {z : Nat} (hz : W z) (hW : ∀ z, W z → z < N) : ∃ f, W f ∧ ∀ a b, W a → W b → adj f a = true → adj f b = true → a ≠ b → adj a b = true := by
  obtain ⟨i0, hi0, e0⟩ := h.at (hW z hz)
  obtain ⟨i, ⟨hi1, hi2⟩, hmin⟩ := leastOf (P := fun i => i < N ∧ W (O.getD i 0)) i0 ⟨hi0, by rw [e0]; exact hz⟩
  refine ⟨_, hi2, fun a b ha hb hfa hfb hab => ?_⟩
  obtain ⟨j, hj, ej⟩ := h.at (hW a ha)
  obtain ⟨k, hk, ek⟩ := h.at (hW b hb)
  have gt : ∀ t, t < N → W (O.getD t 0) → adj (O.getD i 0) (O.getD t 0) = true → i < t := fun t ht hw hat => by
    rcases Nat.lt_trichotomy i t with h1 | h1 | h1
    · exact h1
    · rw [h1, hi] at hat; cases hat
    · exact absurd ⟨ht, hw⟩ (hmin t h1)
  have hij := gt j hj (by rw [ej]; exact ha) (by rw [ej]; exact hfa)
  have hik := gt k hk (by rw [ek]; exact hb) (by rw [ek]; exact hfb)
  rcases Nat.lt_trichotomy j k with h1 | h1 | h1
  · have := h.ok i k j hij h1 hk (by rw [ek]; exact hfb) (by rw [ej]; exact hfa)
    rw [ej, ek] at this
    rw [hs]; exact this
  · exact absurd (by rw [← ej, ← ek, h1]) hab
  · have := h.ok i j k hik h1 hj (by rw [ej]; exact hfa) (by rw [ek]; exact hfb)
    rw [ej, ek] at this
    exact this
theorem IsOrd.none (hs : ∀ x y, adj x y = adj y x) (hi : ∀ x, adj x x = false) {O : List Nat} (h : IsOrd N adj O) : ∀ (m : Nat) (D : Nat → Prop), szOf N D = m → (∀ z, D z → z < N) → (∀ x y, D x → D y → Cn (fun a b => adj a b = true) D x y) → ∀ v a u x y, v < N → a < N → u < N → adj v a = true → adj v u = true → a ≠ u → ¬ adj a u = true → (∀ z, D z → z ≠ v ∧ ¬ adj v z = true) → D x → adj x a = true → D y → adj y u = true → False := by
  intro m
  induction m using Nat.strongRecOn with
  | _ m ih =>
    intro D hm hD hang v a u x y hv ha hu hva hvu hau hn hoff hx hxa hy hyu
    have hsym : ∀ a b, adj a b = true → adj b a = true := fun a b h => by rw [hs]; exact h
    obtain ⟨f, hf, hcl⟩ := h.first hs hi (W := fun z => D z ∨ z = v ∨ z = a ∨ z = u) (z := v) (Or.inr (Or.inl rfl)) (fun z hz => by
      rcases hz with hz | rfl | rfl | rfl
      · exact hD z hz
      · exact hv
      · exact ha
      · exact hu)
    have wv : D v ∨ v = v ∨ v = a ∨ v = u := Or.inr (Or.inl rfl)
    have wa : D a ∨ a = v ∨ a = a ∨ a = u := Or.inr (Or.inr (Or.inl rfl))
    have wu : D u ∨ u = v ∨ u = a ∨ u = u := Or.inr (Or.inr (Or.inr rfl))
    rcases hf with hf | rfl | rfl | rfl
    · have nbr : ∀ w, D w → w ≠ f → ∃ r, (D r ∧ r ≠ f) ∧ adj f r = true := fun w hw hwf => by
        obtain ⟨r, hr, hrf⟩ := (hang w f hw hf).to hwf
        exact ⟨r, hr.right, hsym _ _ hrf⟩
      have outD : ∀ b, adj v b = true → ¬ D b := fun b hb hd => (hoff b hd).2 hb
      have hang' : ∀ p q, D p ∧ p ≠ f → D q ∧ q ≠ f → Cn (fun a b => adj a b = true) (fun z => D z ∧ z ≠ f) p q := fun p q hp hq => by
        have gen : ∀ q, Cn (fun a b => adj a b = true) D p q → (q ≠ f → Cn (fun a b => adj a b = true) (fun z => D z ∧ z ≠ f) p q) ∧ (q = f → ∃ w, Cn (fun a b => adj a b = true) (fun z => D z ∧ z ≠ f) p w ∧ adj w f = true) := fun q hq => by
          induction hq with
          | refl _ => exact ⟨fun _ => Cn.refl hp, fun hh => absurd hh hp.2⟩
          | @step q r h1 h2 h3 ih2 =>
            by_cases hqf : q = f
            · obtain ⟨w, hw, hwf⟩ := ih2.2 hqf
              subst hqf
              refine ⟨fun hr => ?_, fun hr => ?_⟩
              · by_cases hwr : w = r
                · rw [← hwr]; exact hw
                · exact hw.step (hcl w r (Or.inl hw.right.1) (Or.inl h3) (hsym _ _ hwf) h2 hwr) ⟨h3, hr⟩
              · rw [hr, hi] at h2; cases h2
            · have := ih2.1 hqf
              refine ⟨fun hr => this.step h2 ⟨h3, hr⟩, fun hr => ⟨q, this, hr ▸ h2⟩⟩
        exact (gen q (hang p q hp.1 hq.1)).1 hq.2
      have both : ¬ (adj f a = true ∧ adj f u = true) := fun ⟨h1, h2⟩ => hn (hcl a u wa wu h1 h2 hau)
      have other : ∀ b, adj v b = true → (D b ∨ b = v ∨ b = a ∨ b = u) → ∀ w, D w → w ≠ f → ∀ t, D t → adj t b = true → ∃ t', (D t' ∧ t' ≠ f) ∧ adj t' b = true := fun b hvb wb w hw hwf t ht htb => by
        by_cases htf : t = f
        · obtain ⟨r, hr, hfr⟩ := nbr w hw hwf
          exact ⟨r, hr, hcl r b (Or.inl hr.1) wb hfr (htf ▸ htb) (fun hh => outD b hvb (hh ▸ hr.1))⟩
        · exact ⟨t, ⟨ht, htf⟩, htb⟩
      obtain ⟨w, hw, hwf⟩ : ∃ w, D w ∧ w ≠ f := by
        by_cases hxf : x = f
        · by_cases hyf : y = f
          · exact absurd ⟨hxf ▸ hxa, hyf ▸ hyu⟩ both
          · exact ⟨y, hy, hyf⟩
        · exact ⟨x, hx, hxf⟩
      obtain ⟨x', hx', hxa'⟩ := other a hva wa w hw hwf x hx hxa
      obtain ⟨y', hy', hyu'⟩ := other u hvu wu w hw hwf y hy hyu
      have hlt : szOf N (fun z => D z ∧ z ≠ f) < m := by
        rw [← hm]
        exact szOf_lt (fun z hz => hz.1) (hD f hf) hf (fun hh => hh.2 rfl)
      exact ih _ hlt _ rfl (fun z hz => hD z hz.1) hang' v a u x' y' hv ha hu hva hvu hau hn (fun z hz => hoff z hz.1) hx' hxa' hy' hyu'
    · exact hn (hcl a u wa wu hva hvu hau)
    · exact (hoff x hx).2 (hcl v x wv (Or.inl hx) (hsym _ _ hva) (hsym _ _ hxa) (fun hh => (hoff x hx).1 hh.symm))
    · exact (hoff y hy).2 (hcl v y wv (Or.inl hy) (hsym _ _ hvu) (hsym _ _ hyu) (fun hh => (hoff y hy).1 hh.symm))
theorem IsOrd.noHole (hs : ∀ x y, adj x y = adj y x) (hi : ∀ x, adj x x = false) {O : List Nat} (h : IsOrd N adj O) : NoHole (fun a b => adj a b = true) (fun z => z < N) := by
  intro v a u x y hv ha hu hva hvu hau hn hxa hxy hyu
  have hsym : ∀ a b, adj a b = true → adj b a = true := fun a b h => by rw [hs]; exact h
  refine h.none hs hi _ (fun z => Cn (fun a b => adj a b = true) (fun z => z < N ∧ z ≠ v ∧ ¬ adj v z = true) x z) rfl (fun z hz => hz.right.1) (fun p q hp hq => ?_) v a u x y hv ha hu hva hvu hau hn (fun z hz => hz.right.2) (Cn.refl hxy.left) hxa hxy hyu
  have : Cn (fun a b => adj a b = true) (fun z => z < N ∧ z ≠ v ∧ ¬ adj v z = true) p q := (hp.symm hsym).trans hq
  refine (this.also (S' := fun z => Cn (fun a b => adj a b = true) (fun z => z < N ∧ z ≠ v ∧ ¬ adj v z = true) x z) (fun w hw => hp.trans hw)).mono (fun _ hh => hh.2)
/-- An order, and no three nodes that can be gone round: no arc of the complement forces itself the other way round. -/
theorem IsOrd.co (hs : ∀ x y, adj x y = adj y x) (hi : ∀ x, adj x x = false) {O : List Nat} (h : IsOrd N adj O) (hast : ¬ Ast (fun a b => adj a b = true) (fun z => z < N)) {hc : Nat → Nat → Bool} (hco : CoOf (fun a b => adj a b = true) (fun z => z < N) hc) : Good hc :=
  boland (N := N) (fun a b h => by rw [hs]; exact h) (fun a h => by rw [hi] at h; cases h) _ _ rfl (fun _ h => h) (h.noHole hs hi) hast hc hco
end Go.Proofs.YtkkfjfphmlcieaaGreat

namespace Go.Proofs.YtkkfjfphmlcieaaGreat
theorem NoHole.four {e : Nat → Nat → Prop} {V : Nat → Prop} (hs : ∀ a b, e a b → e b a) (hno : NoHole e V) {a b c d : Nat} (ha : V a) (hb : V b) (hc : V c) (hd : V d) (hab : e a b) (hbc : e b c) (hcd : e c d) (hda : e d a) (hac : a ≠ c) (hbd : b ≠ d) (hn : ¬ e a c) (hm : ¬ e b d) : False :=
  hno a b d c c ha hb hd hab (hs _ _ hda) hbd hm (hs _ _ hbc) (Cn.refl ⟨hc, fun hh => hac hh.symm, hn⟩) hcd
/-- How many arcs lead to v. -/
def begN (L : List (Nat × Nat)) (v : Nat) : Nat := (L.filter fun p => p.2 == v).length
/-- What is right ahead of where the first one behind v begins. -/
def endZ (b : Nat → Nat) (n : Int) : List (Nat × Nat) → Nat → Int
  | [], _ => n
  | p :: L, v => endZ b (if p.1 = v then min n ((b p.2 : Int) - 1) else n) L v
theorem endZ_le {b : Nat → Nat} : ∀ (L : List (Nat × Nat)) (n : Int) (v : Nat), endZ b n L v ≤ n
  | [], _, _ => Int.le_refl _
  | p :: L, n, v => by
    unfold endZ
    have := endZ_le L (if p.1 = v then min n ((b p.2 : Int) - 1) else n) v (b := b)
    split at this
    · rw [if_pos (by assumption)]; omega
    · rw [if_neg (by assumption)]; omega
theorem endZ_arc {b : Nat → Nat} : ∀ (L : List (Nat × Nat)) (n : Int) (v w : Nat), (v, w) ∈ L → endZ b n L v ≤ (b w : Int) - 1
  | p :: L, n, v, w, h => by
    unfold endZ
    rcases List.mem_cons.1 h with h | h
    · subst h
      rw [if_pos rfl]
      have := endZ_le L (min n ((b w : Int) - 1)) v (b := b)
      simp only at this ⊢
      omega
    · exact endZ_arc L _ v w h
theorem endZ_ge {b : Nat → Nat} {c : Int} : ∀ (L : List (Nat × Nat)) (n : Int) (v : Nat), c ≤ n → (∀ w, (v, w) ∈ L → c ≤ (b w : Int) - 1) → c ≤ endZ b n L v
  | [], _, _, h, _ => h
  | p :: L, n, v, h, h2 => by
    unfold endZ
    refine endZ_ge L _ v ?_ (fun w hw => h2 w (List.mem_cons_of_mem _ hw))
    split
    · rename_i e
      have := h2 p.2 (by rw [← e]; exact List.mem_cons_self ..)
      omega
    · exact h
theorem endZ_snoc {b : Nat → Nat} : ∀ (L : List (Nat × Nat)) (n : Int) (p : Nat × Nat) (v : Nat), endZ b n (L ++ [p]) v = if p.1 = v then min (endZ b n L v) ((b p.2 : Int) - 1) else endZ b n L v
  | [], n, p, v => by simp [endZ]
  | q :: L, n, p, v => by
    rw [List.cons_append]
    unfold endZ
    exact endZ_snoc L _ p v
section
variable {N : Nat} {adj hc : Nat → Nat → Bool} {L : List (Nat × Nat)}
theorem begN_mem {v x : Nat} : x ∈ ((L.filter fun p => p.2 == v).map (·.1)) ↔ (x, v) ∈ L := by
  rw [List.mem_map]
  constructor
  · rintro ⟨p, hp, rfl⟩
    have := List.mem_filter.1 hp
    have e : p.2 = v := by simpa using this.2
    rw [← e]; exact this.1
  · intro h
    exact ⟨(x, v), List.mem_filter.2 ⟨h, by simp⟩, rfl⟩
theorem begN_nodup (hnd : L.Nodup) (v : Nat) : ((L.filter fun p => p.2 == v).map (·.1)).Nodup := by
  refine List.pairwise_map.2 ((hnd.filter _).imp_of_mem fun {p q} hp hq hne e => hne ?_)
  have h1 := (List.mem_filter.1 hp).2
  have h2 := (List.mem_filter.1 hq).2
  exact Prod.ext e (by simp at h1 h2; omega)
theorem begN_lt (hnd : L.Nodup) {u w x0 : Nat} (hsub : ∀ x, (x, u) ∈ L → (x, w) ∈ L) (h1 : (x0, w) ∈ L) (h2 : (x0, u) ∉ L) : begN L u < begN L w := by
  have := nat_nodup_len (x0 :: ((L.filter fun p => p.2 == u).map (·.1))) ((L.filter fun p => p.2 == w).map (·.1)) (List.nodup_cons.2 ⟨fun h => h2 (begN_mem.1 h), begN_nodup hnd u⟩) (fun x hx => by
    rcases List.mem_cons.1 hx with rfl | hx
    · exact begN_mem.2 h1
    · exact begN_mem.2 (hsub x (begN_mem.1 hx)))
  simp at this
  unfold begN
  omega
theorem begN_le (hnd : L.Nodup) (hN : ∀ x y, (x, y) ∈ L → x < N) (v : Nat) : begN L v ≤ N := by
  have := nat_nodup_len ((L.filter fun p => p.2 == v).map (·.1)) (List.range N) (begN_nodup hnd v) (fun x hx => List.mem_range.2 (hN x v (begN_mem.1 hx)))
  simpa [begN] using this
/-- The intervals: in them, and in whether they meet. -/
theorem meets (hs : ∀ x y, adj x y = adj y x) (hno : NoHole (fun a b => adj a b = true) (fun z => z < N)) (hco : CoOf (fun a b => adj a b = true) (fun z => z < N) hc) (hd : Dir hc (fun x y => (x, y) ∈ L)) (hnd : L.Nodup) :
    (∀ v, v < N → (begN L v : Int) ≤ endZ (begN L) N L v) ∧ (∀ u v, u < N → v < N → u ≠ v → (((begN L u : Int) ≤ endZ (begN L) N L v ∧ (begN L v : Int) ≤ endZ (begN L) N L u) ↔ adj u v = true)) := by
  have hsym : ∀ a b, adj a b = true → adj b a = true := fun a b h => by rw [hs]; exact h
  have non : ∀ x y, (x, y) ∈ L → x < N ∧ y < N ∧ x ≠ y ∧ ¬ adj x y = true := fun x y h => (hco x y).1 (hd.edge x y h)
  have hle := begN_le hnd (fun x y h => (non x y h).1)
  have cmp : ∀ x y, x < N → y < N → x ≠ y → ¬ adj x y = true → (x, y) ∈ L ∨ (y, x) ∈ L := fun x y hx hy hne hn => hd.some x y ((hco x y).2 ⟨hx, hy, hne, hn⟩)
  have chain : ∀ u w, u < N → w < N → (∀ x, (x, u) ∈ L → (x, w) ∈ L) ∨ (∀ x, (x, w) ∈ L → (x, u) ∈ L) := fun u w hu hw => by
    refine Classical.byContradiction fun hn => ?_
    have h1 : ∃ x, (x, u) ∈ L ∧ (x, w) ∉ L := Classical.byContradiction fun h => hn (Or.inl fun x hx => Classical.byContradiction fun h' => h ⟨x, hx, h'⟩)
    have h2 : ∃ y, (y, w) ∈ L ∧ (y, u) ∉ L := Classical.byContradiction fun h => hn (Or.inr fun x hx => Classical.byContradiction fun h' => h ⟨x, hx, h'⟩)
    obtain ⟨x, hxu, hxw⟩ := h1
    obtain ⟨y, hyw, hyu⟩ := h2
    have nx := non _ _ hxu
    have ny := non _ _ hyw
    have a1 : adj w x = true := Classical.byContradiction fun h => by
      by_cases e : w = x
      · subst e; exact hyu (hd.on _ _ _ hyw hxu)
      · rcases cmp w x hw nx.1 e h with h | h
        · exact hyu (hd.on _ _ _ (hd.on _ _ _ hyw h) hxu)
        · exact hxw h
    have a2 : adj y u = true := Classical.byContradiction fun h => by
      by_cases e : y = u
      · subst e; exact hxw (hd.on _ _ _ hxu hyw)
      · rcases cmp y u ny.1 hu e h with h | h
        · exact hyu h
        · exact hxw (hd.on _ _ _ (hd.on _ _ _ hxu h) hyw)
    have a3 : adj x y = true := Classical.byContradiction fun h => by
      by_cases e : x = y
      · subst e; exact hxw hyw
      · rcases cmp x y nx.1 ny.1 e h with h | h
        · exact hxw (hd.on _ _ _ h hyw)
        · exact hyu (hd.on _ _ _ h hxu)
    have a4 : adj u w = true := Classical.byContradiction fun h => by
      by_cases e : u = w
      · subst e; exact hxw hxu
      · rcases cmp u w hu hw e h with h | h
        · exact hxw (hd.on _ _ _ hxu h)
        · exact hyu (hd.on _ _ _ hyw h)
    exact hno.four (fun a b h => hsym a b h) (a := x) (b := y) (c := u) (d := w) nx.1 ny.1 hu hw a3 a2 a4 a1 nx.2.2.1 ny.2.2.1 nx.2.2.2 ny.2.2.2
  have before : ∀ v w, (v, w) ∈ L → begN L v < begN L w := fun v w h => by
    refine begN_lt hnd (fun x hx => hd.on _ _ _ hx h) h (fun h' => hd.one _ _ h' h')
  have reach : ∀ u v, u < N → v < N → u ≠ v → adj u v = true → (begN L u : Int) ≤ endZ (begN L) N L v := fun u v hu hv hne hadj => by
    refine endZ_ge L _ v (by have := hle u; omega) (fun w hw => ?_)
    have hvu : (v, u) ∉ L := fun h => (non _ _ h).2.2.2 (hsym _ _ hadj)
    have : begN L u < begN L w := by
      rcases chain u w hu (non _ _ hw).2.1 with h | h
      · exact begN_lt hnd h hw hvu
      · exact absurd (h v hw) hvu
    omega
  refine ⟨fun v hv => endZ_ge L _ v (by have := hle v; omega) (fun w hw => by have := before v w hw; omega), fun u v hu hv hne => ⟨fun ⟨h1, h2⟩ => ?_, fun h => ⟨reach u v hu hv hne h, reach v u hv hu (fun e => hne e.symm) (hsym _ _ h)⟩⟩⟩
  refine Classical.byContradiction fun hn => ?_
  rcases cmp u v hu hv hne hn with h | h
  · have := endZ_arc (b := begN L) L N u v h
    omega
  · have := endZ_arc (b := begN L) L N v u h
    omega
end
end Go.Proofs.YtkkfjfphmlcieaaGreat

namespace Go.Proofs.YtkkfjfphmlcieaaGreat
set_option maxRecDepth 4000
open Go.RowKit Go.Maps
attribute [local go_sem ↓] Go.wp_at_zero Go.wp_at_succ
def St (N : Nat) (e : Nat → Nat → Bool) (L : Nat → Bool) (a b : Nat) : Prop := b < N ∧ e a b = true ∧ L b = true

/-- The slice sv of bools shuts the nodes that sh tells. -/
def ShutAt (w : World) (sv : Value) (N : Nat) (sh : Nat → Bool) : Prop :=
  ∃ so sn sc, sv = .slice so sn sc ∧ sn ≤ 1000 ∧ ∀ j, j < N → (j < sn ∧ ∃ b, so = some ⟨b, 0, none⟩ ∧ w.cell? ⟨b, j, none⟩ = some (.bool (sh j))) ∨ (sn ≤ j ∧ sh j = false)
theorem shutAt_nil (w : World) (N : Nat) : ShutAt w (.slice none 0 0) N (fun _ => false) := ⟨none, 0, 0, rfl, by omega, fun j _ => Or.inr ⟨Nat.zero_le _, rfl⟩⟩
theorem ShutAt.below {w w' : World} {sv : Value} {N : Nat} {sh : Nat → Bool} (h : ShutAt w sv N sh) (hb : Below w.heap.size w w') : ShutAt w' sv N sh := by
  obtain ⟨so, sn, sc, h1, h2, h3⟩ := h
  refine ⟨so, sn, sc, h1, h2, fun j hj => ?_⟩
  rcases h3 j hj with ⟨h4, b, h5, h6⟩ | h4
  · exact Or.inl ⟨h4, b, h5, by rw [hb.cell (by exact World.block_lt_of_cell? w _ h6)]; exact h6⟩
  · exact Or.inr h4
theorem shutAt_row {w : World} {b N : Nat} {sh : Nat → Bool} (h : RowB w b N sh) (hN : N ≤ 1000) : ShutAt w (.slice (some ⟨b, 0, none⟩) N N) N sh := ⟨_, _, _, rfl, hN, fun _ hj => Or.inl ⟨hj, b, rfl, h.cell hj⟩⟩

def pn (p : Int → Int → Bool) (a b : Nat) : Bool := p a b
def openB (sh : Nat → Bool) (x : Nat) : Bool := !sh x

def miss (N : Nat) (I : Nat → Bool) : Nat := ((List.range N).filter fun x => !I x).length
theorem miss_lt {N : Nat} {I J : Nat → Bool} (h : ∀ x, x < N → I x = true → J x = true) {y : Nat} (hy : y < N) (hI : I y = false) (hJ : J y = true) : miss N J < miss N I := by
  unfold miss
  refine filter_lt (y := y) (fun x hx hp => ?_) (by simpa using hy) (by simp [hJ]) (by simp [hI])
  cases hi : I x
  · rfl
  · rw [h x (by simpa using hx) hi] at hp; simp at hp
theorem miss_le {N : Nat} {I J : Nat → Bool} (h : ∀ x, x < N → I x = true → J x = true) : miss N J ≤ miss N I := by
  unfold miss
  refine filter_le (fun x hx hp => ?_)
  cases hi : I x
  · rfl
  · rw [h x (by simpa using hx) hi] at hp; simp at hp

/-- What is known of the nodes reached so far, J, in a round that began with I. -/
structure Rnd (N : Nat) (p : Int → Int → Bool) (sh : Nat → Bool) (v : Nat) (I J : Nat → Bool) (ag : Bool) : Prop where
  up : ∀ x, x < N → I x = true → J x = true
  sound : ∀ x, x < N → J x = true → Star (St N (pn p) (openB sh)) v x
  same : ag = false → ∀ x, x < N → J x = I x
  less : ag = true → miss N J < miss N I
theorem Rnd.start {N : Nat} {p : Int → Int → Bool} {sh : Nat → Bool} {v : Nat} {I : Nat → Bool} (hs : ∀ x, x < N → I x = true → Star (St N (pn p) (openB sh)) v x) : Rnd N p sh v I I false := ⟨fun _ _ h => h, hs, fun _ _ _ => rfl, fun h => by cases h⟩
theorem Rnd.put {N : Nat} {p : Int → Int → Bool} {sh : Nat → Bool} {v : Nat} {I J : Nat → Bool} {ag : Bool} (h : Rnd N p sh v I J ag) {i j : Nat} (hi : i < N) (hj : j < N) (hJi : J i = true) (hp : pn p i j = true) (hJj : J j = false) (hs : sh j = false) : Rnd N p sh v I (fun x => x == j || J x) true := by
  refine ⟨fun x hx hI => by simp [h.up x hx hI], fun x hx hJ => ?_, fun h => (by cases h), fun _ => ?_⟩
  · by_cases e : x = j
    · subst e; exact (h.sound i hi hJi).step ⟨hx, hp, by simp [openB, hs]⟩
    · exact h.sound x hx (by simpa [e] using hJ)
  · have h1 : miss N (fun x => x == j || J x) < miss N J := miss_lt (fun x _ hx => by simp [hx]) hj hJj (by simp)
    have h2 := miss_le h.up
    omega

theorem miss_congr {N : Nat} {I J : Nat → Bool} (h : ∀ x, x < N → J x = I x) : miss N J = miss N I :=
  Nat.le_antisymm (miss_le fun x hx hI => by rw [h x hx]; exact hI) (miss_le fun x hx hJ => by rw [← h x hx]; exact hJ)
def trueCell : Option Value → Bool
  | some (.bool true) => true
  | _ => false
def missW (w : World) (b N : Nat) : Nat := ((List.range N).filter fun j => !trueCell (w.cell? ⟨b, j, none⟩)).length
theorem RowB.miss {w : World} {b N : Nat} {I : Nat → Bool} (h : RowB w b N I) : missW w b N = miss N I := by
  unfold missW YtkkfjfphmlcieaaGreat.miss
  congr 1
  refine List.filter_congr fun j hj => ?_
  rw [h.cell (by simpa using hj)]
  cases I j <;> rfl

set_option maxHeartbeats 4000000 in
theorem reach_call (N : Nat) (ao : Option Addr) (cap : Nat) (p : Int → Int → Bool) (w : World) (hG : GridAt w (.slice ao N cap) N p) (hN : N ≤ 100) {v : Nat} (hv : v < N) {sv : Value} {sh : Nat → Bool} (hsh : ShutAt w sv N sh) :
    Calls Tryz.prog 28 #[.slice ao N cap, .int .i64 (v : Int), sv] w fun r w' => ∃ b, r = .returned (.slice (some ⟨b, 0, none⟩) N N) ∧ w.heap.size ≤ b ∧ ∃ I : Nat → Bool, RowB w' b N I ∧ (∀ x, x < N → (I x = true ↔ Star (St N (pn p) (openB sh)) v x)) ∧ Below w.heap.size w w' := by
  obtain ⟨i0, hi, hz0, hz1, hz2⟩ := info_parts Tryz.info4
  obtain ⟨so, sn, sc, rfl, hsn, hsh⟩ := hsh
  obtain ⟨ao', cap', e0, hgrid⟩ := hG
  cases e0
  have HGR : Hid _ := hgrid
  have HSH : Hid _ := hsh
  clear hgrid hsh
  go_enter Tryz.func28, Tryz.ntmps28
  go_upto_region 2 with (first | (at_make; refine wpList_make_full _ rfl _ _ 39 rfl w.heap.size 4 i0 (.bool false) 1 Tryz.underlying39 hi hz0 hz1 .i64 .i64 _ _ N rfl rfl rfl rfl ?_ ?_ ?_ ?_; (rw [hz2]; omega); (unfold maxLen; omega); (omega); intro W1 hmade hg1) | go_in)
  have hrow0 := rowB_made hmade
  have hB1 : Below w.heap.size w W1 := (Below.refl _ _).grown hg1 (Nat.le_refl _) (fun k hk => by cases hk)
  have c0 := hrow0.cell hv
  have f0 := hrow0.free v
  have i1 : (0 : Int) ≤ (v : Int) := by omega
  have i2 : (v : Int) < (N : Int) := by omega
  clear hmade hg1
  go_wp2
  have hrow1 := hrow0.set v
  have hB2 := hB1.setCell (p := ⟨w.heap.size, v, none⟩) (Nat.le_refl _) (.bool true)
  generalize W1.setCell ⟨w.heap.size, v, none⟩ (.bool true) = W2 at hrow1 hB2 ⊢
  clear c0 f0 i1 i2 hrow0 hB1
  go_loopw [8] (fun ag wr => ∃ (I : Nat → Bool) (ab : Bool), ag = .bool ab ∧ RowB wr w.heap.size N I ∧ Below w.heap.size w wr ∧ I v = true ∧ (∀ x, x < N → I x = true → Star (St N (pn p) (openB sh)) v x) ∧ (ab = false → ∀ i j, i < N → j < N → I i = true → pn p i j = true → sh j = false → I j = true)) (fun ag wr => 2 * missW wr w.heap.size N + bnum ag)
  case atStart => exact ⟨_, true, rfl, hrow1, hB2, by simp, fun x hx hI => by simp at hI; subst hI; exact .refl _, fun h => by cases h⟩
  case round =>
    obtain ⟨I, ab, rfl, hrow, hB, hIv, hsnd, hcl⟩ := hrel
    have hmi := hrow.miss
    have HMI : Hid _ := hmi
    clear hmi
    clear hrow1 hB2
    have HIV : Hid _ := hIv
    have HSN : Hid _ := hsnd
    have HCL : Hid _ := hcl
    clear hIv hsnd hcl
    by_cases hab : ab = true
    · subst hab
      go_wp2
      go_loopw [8, 9] (fun ag i wr => ∃ (n : Nat) (J : Nat → Bool) (bb : Bool), n ≤ N ∧ ag = .bool bb ∧ i = .int .i64 (n : Int) ∧ RowB wr w.heap.size N J ∧ Below w.heap.size w wr ∧ Rnd N p sh v I J bb ∧ (bb = false → ∀ i j, i < n → j < N → I i = true → pn p i j = true → sh j = false → I j = true)) (fun _ i _ => N - (numOf i).toNat)
      case atStart => exact ⟨0, I, false, Nat.zero_le _, rfl, rfl, hrow, hB, Rnd.start HSN.out, fun _ i j h => by omega⟩
      case round =>
        obtain ⟨n, J, bb, hn, rfl, rfl, hrowJ, hBJ, hrnd, hdone⟩ := hrel
        have HRN : Hid _ := hrnd
        have HDN : Hid _ := hdone
        clear hrow hB hrnd hdone
        by_cases hnN : n < N
        · go_wp2
          go_loopw [8, 10] (fun ag i wr => ∃ (t : Nat) (K : Nat → Bool) (cb : Bool), t ≤ N ∧ ag = .bool cb ∧ i = .int .i64 (t : Int) ∧ RowB wr w.heap.size N K ∧ Below w.heap.size w wr ∧ Rnd N p sh v I K cb ∧ (cb = false → (∀ i j, i < n → j < N → I i = true → pn p i j = true → sh j = false → I j = true) ∧ ∀ j, j < t → I n = true → pn p n j = true → sh j = false → I j = true)) (fun _ i _ => N - (numOf i).toNat)
          case atStart => exact ⟨0, J, bb, Nat.zero_le _, rfl, rfl, hrowJ, hBJ, HRN.out, fun h => ⟨HDN.out h, fun j hj => by omega⟩⟩
          case round =>
            obtain ⟨t, K, cb, ht, rfl, rfl, hrowK, hBK, hrk, hdk⟩ := hrel
            have HRK : Hid _ := hrk
            have HDK : Hid _ := hdk
            clear hrowJ hBJ hrk hdk
            by_cases htN : t < N
            · obtain ⟨g, b, rfl, g0, g1⟩ := HGR.out n hnN
              have g2 := g1 t htN
              have l0 := World.block_lt_of_cell? w _ g0
              have l2 := World.block_lt_of_cell? w _ g2
              rw [← hBK.cell (by exact l0)] at g0
              rw [← hBK.cell (by exact l2)] at g2
              clear g1
              have cn := hrowK.cell hnN
              have ct := hrowK.cell htN
              have ft := hrowK.free t
              have i1 : (0 : Int) ≤ (n : Int) := by omega
              have i2 : (n : Int) < (N : Int) := by omega
              have j1 : (0 : Int) ≤ (t : Int) := by omega
              have j2 : (t : Int) < (N : Int) := by omega
              by_cases hall : K n = true ∧ p n t = true ∧ K t = false ∧ sh t = false
              · obtain ⟨h1, h2, h3, h4⟩ := hall
                have hput := HRK.out.put hnN htN h1 h2 h3 h4
                have HPU : Hid _ := hput
                rw [h1] at cn
                rw [h2] at g2
                rw [h3] at ct
                rcases HSH.out t htN with ⟨hts, b', rfl, c'⟩ | ⟨hts, _⟩
                · have l' := World.block_lt_of_cell? w _ c'
                  rw [← hBK.cell (by exact l'), h4] at c'
                  clear hput h1 h2 h3 h4
                  have k1 : (t : Int) < (sn : Int) := by omega
                  go_wp2
                  go_roundw
                  case rel => exact ⟨t + 1, _, true, by omega, rfl, by go_num, hrowK.set t, hBK.setCell (Nat.le_refl _) _, HPU.out, fun h => by cases h⟩
                  case measure => simp [numOf]; omega
                · clear hput h1 h2 h3 h4
                  have k1 : ¬ (t : Int) < (sn : Int) := by omega
                  go_wp2
                  go_roundw
                  case rel => exact ⟨t + 1, _, true, by omega, rfl, by go_num, hrowK.set t, hBK.setCell (Nat.le_refl _) _, HPU.out, fun h => by cases h⟩
                  case measure => simp [numOf]; omega
              · have hnext : cb = false → (∀ i j, i < n → j < N → I i = true → pn p i j = true → sh j = false → I j = true) ∧ ∀ j, j < t + 1 → I n = true → pn p n j = true → sh j = false → I j = true := by
                  intro h
                  obtain ⟨d1, d2⟩ := HDK.out h
                  have hsm := HRK.out.same h
                  refine ⟨d1, fun j hj hI hp hs => ?_⟩
                  by_cases e : j = t
                  · subst e
                    cases hIj : I j
                    · exact absurd ⟨(hsm n hnN).trans hI, hp, (hsm j htN).trans hIj, hs⟩ hall
                    · rfl
                  · exact d2 j (by omega) hI hp hs
                have HNX : Hid _ := hnext
                clear hnext
                by_cases h1 : K n = true
                · rw [h1] at cn
                  by_cases h2 : p n t = true
                  · rw [h2] at g2
                    by_cases h3 : K t = true
                    · rw [h3] at ct
                      clear hall h1 h2 h3
                      go_wp2
                      go_roundw
                      case rel => exact ⟨t + 1, K, cb, by omega, rfl, by go_num, hrowK, hBK, HRK.out, HNX.out⟩
                      case measure => simp [numOf]; omega
                    · have h3' : K t = false := by simpa using h3
                      have h4 : sh t = true := by
                        cases hs : sh t
                        · exact absurd ⟨h1, h2, h3', hs⟩ hall
                        · rfl
                      rw [h3'] at ct
                      rcases HSH.out t htN with ⟨hts, b', rfl, c'⟩ | ⟨hts, h5⟩
                      · have l' := World.block_lt_of_cell? w _ c'
                        rw [← hBK.cell (by exact l'), h4] at c'
                        have k1 : (t : Int) < (sn : Int) := by omega
                        clear hall h1 h2 h3 h3' h4
                        go_wp2
                        go_roundw
                        case rel => exact ⟨t + 1, K, cb, by omega, rfl, by go_num, hrowK, hBK, HRK.out, HNX.out⟩
                        case measure => simp [numOf]; omega
                      · rw [h4] at h5; cases h5
                  · have h2' : p n t = false := by simpa using h2
                    rw [h2'] at g2
                    clear hall h1 h2 h2'
                    go_wp2
                    go_roundw
                    case rel => exact ⟨t + 1, K, cb, by omega, rfl, by go_num, hrowK, hBK, HRK.out, HNX.out⟩
                    case measure => simp [numOf]; omega
                · have h1' : K n = false := by simpa using h1
                  rw [h1'] at cn
                  clear hall h1 h1'
                  go_wp2
                  go_roundw
                  case rel => exact ⟨t + 1, K, cb, by omega, rfl, by go_num, hrowK, hBK, HRK.out, HNX.out⟩
                  case measure => simp [numOf]; omega
            · have : t = N := by omega
              subst this
              go_wp2
              go_roundw
              case rel =>
                refine ⟨n + 1, K, cb, by omega, rfl, by go_num, hrowK, hBK, HRK.out, fun h i j hi hj => ?_⟩
                obtain ⟨d1, d2⟩ := HDK.out h
                by_cases e : i = n
                · subst e; exact d2 j hj
                · exact d1 i j (by omega) hj
              case measure => simp [numOf]; omega
        · go_wp2
          go_roundw
          case rel =>
            have hnE : n = N := by omega
            subst hnE
            refine ⟨J, bb, rfl, hrowJ, hBJ, HRN.out.up v hv HIV.out, HRN.out.sound, fun h i j hi hj hI hp hs => ?_⟩
            have hsm := HRN.out.same h
            rw [hsm j hj]
            rw [hsm i hi] at hI
            exact HDN.out h i j hi hj hI hp hs
          case measure =>
            rw [hrowJ.miss, HMI.out]
            cases bb
            · have hs := HRN.out.same rfl
              rw [miss_congr hs]
              show _ + 0 < _ + 1
              omega
            · have := HRN.out.less rfl
              show _ + 1 < _ + 1
              omega
    · have hab' : ab = false := by simpa using hab
      subst hab'
      clear hab
      go_wp2
      go_ret
      refine ⟨_, rfl, Nat.le_refl _, I, hrow, fun x hx => ⟨HSN.out x hx, fun hs => ?_⟩, hB⟩
      exact (Star.closed (P := fun y => y < N ∧ I y = true) (fun a b ha hab => ⟨hab.1, HCL.out (by first | rfl | trivial) a b ha.1 hab.1 ha.2 hab.2.1 (by simpa [openB] using hab.2.2)⟩) hs ⟨hv, HIV.out⟩).2
def doneL (L : Nat → Bool) (R : Nat → Nat → Bool) (k x : Nat) : Bool := (List.range k).any fun u => L u && R u x
theorem doneL_iff {L : Nat → Bool} {R : Nat → Nat → Bool} {k x : Nat} : doneL L R k x = true ↔ ∃ u, u < k ∧ L u = true ∧ R u x = true := by
  simp [doneL]
theorem doneL_succ (L : Nat → Bool) (R : Nat → Nat → Bool) (k x : Nat) : doneL L R (k + 1) x = (doneL L R k x || (L k && R k x)) := by
  unfold doneL; rw [List.range_succ, List.any_append]; simp
theorem first_done (L : Nat → Bool) (R : Nat → Nat → Bool) (k : Nat) : firstB L R k = (L k && !doneL L R k k) := by
  rw [Bool.eq_iff_iff, firstB_iff]
  simp [doneL]
theorem doneL_skip {N : Nat} {e : Nat → Nat → Bool} {L : Nat → Bool} {R : Nat → Nat → Bool} {k : Nat} (hR : ∀ v x, R v x = true ↔ Star (St N e L) v x) (hf : firstB L R k = false) (x : Nat) : doneL L R (k + 1) x = doneL L R k x := by
  rw [doneL_succ]
  cases hL : L k
  · simp
  · cases hx : R k x
    · simp
    · rw [first_done, hL] at hf
      have hd : doneL L R k k = true := by simpa using hf
      obtain ⟨u, hu, h1, h2⟩ := doneL_iff.1 hd
      have : doneL L R k x = true := doneL_iff.2 ⟨u, hu, h1, (hR u x).2 (((hR u k).1 h2).trans ((hR k x).1 hx))⟩
      simp [this]

theorem RowB.cells {w : World} {b m : Nat} {q : Nat → Bool} (h : RowB w b m q) : ∃ cur, w.heap[b]? = some (.cells cur 4 (0, 0)) := by
  obtain ⟨cur, h1, _⟩ := h; exact ⟨cur, h1⟩
def partsTo (L : Nat → Bool) (R : Nat → Nat → Bool) (k : Nat) : Nat := ((List.range k).filter (firstB L R)).length
theorem partsTo_succ (L : Nat → Bool) (R : Nat → Nat → Bool) (k : Nat) : partsTo L R (k + 1) = partsTo L R k + if firstB L R k = true then 1 else 0 := by
  unfold partsTo
  rw [List.range_succ, List.filter_append, List.length_append]
  congr 1
  by_cases h : firstB L R k = true <;> simp [h]
theorem partsTo_le (L : Nat → Bool) (R : Nat → Nat → Bool) (k : Nat) : partsTo L R k ≤ k := Nat.le_trans (List.length_filter_le _ _) (by simp)

set_option maxHeartbeats 2000000 in
theorem parts_call (N : Nat) (ao : Option Addr) (cap : Nat) (p : Int → Int → Bool) (w : World) (hG : GridAt w (.slice ao N cap) N p) (hN : N ≤ 100) {sv : Value} {sh : Nat → Bool} (hsh : ShutAt w sv N sh) (R : Nat → Nat → Bool) (hR : ∀ v x, R v x = true ↔ Star (St N (pn p) (openB sh)) v x) :
    Calls Tryz.prog 29 #[.slice ao N cap, sv] w fun r w' => r = .returned (.int .i64 (partsN N (openB sh) R : Int)) ∧ Below w.heap.size w w' := by
  obtain ⟨i0, hi, hz0, hz1, hz2⟩ := info_parts Tryz.info4
  have HG : Hid _ := hG
  have HS0 : Hid _ := hsh
  have HR : Hid _ := hR
  obtain ⟨so, sn, sc, rfl, hsn, hsh⟩ := hsh
  have HSH : Hid _ := hsh
  clear hG hsh hR
  go_enter Tryz.func29, Tryz.ntmps29
  go_wp2_with (first | (at_make; refine wpList_make_full _ rfl _ _ 39 rfl w.heap.size 4 i0 (.bool false) 1 Tryz.underlying39 hi hz0 hz1 .i64 .i64 _ _ N rfl rfl rfl rfl ?_ ?_ ?_ ?_; (rw [hz2]; omega); (unfold maxLen; omega); (omega); intro W1 hmade hg1) | go_in)
  have hrow0 := rowB_made hmade
  have hB0 : Below w.heap.size w W1 := (Below.refl _ _).grown hg1 (Nat.le_refl _) (fun k hk => by cases hk)
  clear hmade hg1
  go_loopw [6, 7] (fun c i wr => ∃ k : Nat, k ≤ N ∧ c = .int .i64 (partsTo (openB sh) R k : Int) ∧ i = .int .i64 (k : Int) ∧ RowB wr w.heap.size N (doneL (openB sh) R k) ∧ Below w.heap.size w wr) (fun _ i _ => N - (numOf i).toNat)
  case atStart => exact ⟨0, Nat.zero_le _, rfl, rfl, hrow0.congr (fun j _ => by simp [doneL]), hB0⟩
  case round =>
    obtain ⟨k, hk, rfl, rfl, hrow, hB⟩ := hrel
    clear hrow0 hB0
    have hpl := partsTo_le (openB sh) R k
    by_cases hkN : k < N
    · have ck := hrow.cell hkN
      have i1 : (0 : Int) ≤ (k : Int) := by omega
      have i2 : (k : Int) < (N : Int) := by omega
      by_cases hf : firstB (openB sh) R k = true
      · have hf' := hf
        rw [first_done] at hf'
        simp at hf'
        obtain ⟨h1, h2⟩ := hf'
        have h3 : sh k = false := by simpa [openB] using h1
        have HF : Hid _ := hf
        clear hf h1
        rw [h2] at ck
        rcases HSH.out k hkN with ⟨hts, b', rfl, c'⟩ | ⟨hts, _⟩
        · have l' := World.block_lt_of_cell? w _ c'
          rw [← hB.cell (by exact l'), h3] at c'
          have k1 : (k : Int) < (sn : Int) := by omega
          clear h2 h3
          go_wp2_with (first | (go_at_call 28; refine (reach_call N _ cap p _ (GridAt.below HG.out hB) hN hkN (ShutAt.below HS0.out hB)).mono ?_; rintro r wa ⟨bI, rfl, hbI, I, hrI, hI, hbA⟩) | go_in)
          have hrowA := hrow.block (hbA.block _ hrow.lt)
          have hBA := below_next hB hbA
          have hne : bI ≠ w.heap.size := by have := hrow.lt; omega
          have hIR : ∀ x, x < N → I x = R k x := fun x hx => by rw [Bool.eq_iff_iff, hI x hx, HR.out]
          have HIR : Hid _ := hIR
          clear hI hIR hrow hB hbA
          go_loopw [9] (fun i wr => ∃ t : Nat, t ≤ N ∧ i = .int .i64 (t : Int) ∧ RowB wr w.heap.size N (fun x => doneL (openB sh) R k x || (decide (x < t) && R k x)) ∧ RowB wr bI N I ∧ Below w.heap.size w wr) (fun i _ => N - (numOf i).toNat)
          case atStart => exact ⟨0, Nat.zero_le _, rfl, hrowA.congr (fun x _ => by simp), hrI, hBA⟩
          case round =>
            obtain ⟨t, ht, rfl, hrt, hrit, hBt⟩ := hrel
            clear hrowA hrI hBA
            by_cases htN : t < N
            · have ct := hrt.cell htN
              have cI := hrit.cell htN
              have ft := hrt.free t
              have et : (doneL (openB sh) R k t || (decide (t < t) && R k t)) = doneL (openB sh) R k t := by simp
              rw [et] at ct
              have j1 : (0 : Int) ≤ (t : Int) := by omega
              have j2 : (t : Int) < (N : Int) := by omega
              have hnx : ∀ b : Bool, b = (doneL (openB sh) R k t || I t) → RowB (wr.setCell ⟨w.heap.size, t, none⟩ (.bool b)) w.heap.size N (fun x => doneL (openB sh) R k x || (decide (x < t + 1) && R k x)) := fun b hb => (hrt.put t b).congr (fun x hx => by
                by_cases e : x = t
                · subst e; rw [if_pos rfl, hb, HIR.out x hx]; simp
                · rw [if_neg e]
                  have : decide (x < t + 1) = decide (x < t) := by rw [Bool.eq_iff_iff]; simp; omega
                  rw [this])
              have HNX : Hid _ := hnx
              clear hnx et
              by_cases hd : doneL (openB sh) R k t = true
              · rw [hd] at ct
                have HD : Hid _ := hd
                clear hd
                go_wp2
                go_roundw
                case rel => exact ⟨t + 1, by omega, by go_num, HNX.out true (by rw [HD.out]; rfl), hrit.turns (setCell_turns _ _ _ _) hne, hBt.setCell (Nat.le_refl _) _⟩
                case measure => simp [numOf]; omega
              · have hd' : doneL (openB sh) R k t = false := by simpa using hd
                rw [hd'] at ct
                have HD : Hid _ := hd'
                clear hd hd'
                go_wp2
                go_roundw
                case rel => exact ⟨t + 1, by omega, by go_num, HNX.out (I t) (by rw [HD.out]; rfl), hrit.turns (setCell_turns _ _ _ _) hne, hBt.setCell (Nat.le_refl _) _⟩
                case measure => simp [numOf]; omega
            · go_wp2
              go_roundw
              case rel =>
                have htE : t = N := by omega
                subst htE
                refine ⟨k + 1, by omega, by rw [partsTo_succ, if_pos HF.out]; go_num, by go_num, hrt.congr (fun x hx => ?_), hBt⟩
                have hL : openB sh k = true := (firstB_iff.1 HF.out).1
                rw [doneL_succ, hL]
                simp [hx]
              case measure => simp [numOf]; omega
        · have k1 : ¬ (k : Int) < (sn : Int) := by omega
          clear h2 h3
          go_wp2_with (first | (go_at_call 28; refine (reach_call N _ cap p _ (GridAt.below HG.out hB) hN hkN (ShutAt.below HS0.out hB)).mono ?_; rintro r wa ⟨bI, rfl, hbI, I, hrI, hI, hbA⟩) | go_in)
          have hrowA := hrow.block (hbA.block _ hrow.lt)
          have hBA := below_next hB hbA
          have hne : bI ≠ w.heap.size := by have := hrow.lt; omega
          have hIR : ∀ x, x < N → I x = R k x := fun x hx => by rw [Bool.eq_iff_iff, hI x hx, HR.out]
          have HIR : Hid _ := hIR
          clear hI hIR hrow hB hbA
          go_loopw [9] (fun i wr => ∃ t : Nat, t ≤ N ∧ i = .int .i64 (t : Int) ∧ RowB wr w.heap.size N (fun x => doneL (openB sh) R k x || (decide (x < t) && R k x)) ∧ RowB wr bI N I ∧ Below w.heap.size w wr) (fun i _ => N - (numOf i).toNat)
          case atStart => exact ⟨0, Nat.zero_le _, rfl, hrowA.congr (fun x _ => by simp), hrI, hBA⟩
          case round =>
            obtain ⟨t, ht, rfl, hrt, hrit, hBt⟩ := hrel
            clear hrowA hrI hBA
            by_cases htN : t < N
            · have ct := hrt.cell htN
              have cI := hrit.cell htN
              have ft := hrt.free t
              have et : (doneL (openB sh) R k t || (decide (t < t) && R k t)) = doneL (openB sh) R k t := by simp
              rw [et] at ct
              have j1 : (0 : Int) ≤ (t : Int) := by omega
              have j2 : (t : Int) < (N : Int) := by omega
              have hnx : ∀ b : Bool, b = (doneL (openB sh) R k t || I t) → RowB (wr.setCell ⟨w.heap.size, t, none⟩ (.bool b)) w.heap.size N (fun x => doneL (openB sh) R k x || (decide (x < t + 1) && R k x)) := fun b hb => (hrt.put t b).congr (fun x hx => by
                by_cases e : x = t
                · subst e; rw [if_pos rfl, hb, HIR.out x hx]; simp
                · rw [if_neg e]
                  have : decide (x < t + 1) = decide (x < t) := by rw [Bool.eq_iff_iff]; simp; omega
                  rw [this])
              have HNX : Hid _ := hnx
              clear hnx et
              by_cases hd : doneL (openB sh) R k t = true
              · rw [hd] at ct
                have HD : Hid _ := hd
                clear hd
                go_wp2
                go_roundw
                case rel => exact ⟨t + 1, by omega, by go_num, HNX.out true (by rw [HD.out]; rfl), hrit.turns (setCell_turns _ _ _ _) hne, hBt.setCell (Nat.le_refl _) _⟩
                case measure => simp [numOf]; omega
              · have hd' : doneL (openB sh) R k t = false := by simpa using hd
                rw [hd'] at ct
                have HD : Hid _ := hd'
                clear hd hd'
                go_wp2
                go_roundw
                case rel => exact ⟨t + 1, by omega, by go_num, HNX.out (I t) (by rw [HD.out]; rfl), hrit.turns (setCell_turns _ _ _ _) hne, hBt.setCell (Nat.le_refl _) _⟩
                case measure => simp [numOf]; omega
            · go_wp2
              go_roundw
              case rel =>
                have htE : t = N := by omega
                subst htE
                refine ⟨k + 1, by omega, by rw [partsTo_succ, if_pos HF.out]; go_num, by go_num, hrt.congr (fun x hx => ?_), hBt⟩
                have hL : openB sh k = true := (firstB_iff.1 HF.out).1
                rw [doneL_succ, hL]
                simp [hx]
              case measure => simp [numOf]; omega
      · have hf' : firstB (openB sh) R k = false := by simpa using hf
        have hrow' := hrow.congr (fun j _ => (doneL_skip HR.out hf' j).symm)
        have hp' : partsTo (openB sh) R (k + 1) = partsTo (openB sh) R k := by rw [partsTo_succ, if_neg hf]; rfl
        have HRW : Hid _ := hrow'
        have HPP : Hid _ := hp'
        clear hrow' hp'
        by_cases hd : doneL (openB sh) R k k = true
        · rw [hd] at ck
          clear hf hf' hd
          go_wp2
          go_roundw
          case rel => exact ⟨k + 1, by omega, by rw [HPP.out], by go_num, HRW.out, hB⟩
          case measure => simp [numOf]; omega
        · have hd' : doneL (openB sh) R k k = false := by simpa using hd
          have h4 : sh k = true := by
            rw [first_done, hd'] at hf'
            simpa [openB] using hf'
          rw [hd'] at ck
          rcases HSH.out k hkN with ⟨hts, b', rfl, c'⟩ | ⟨hts, h5⟩
          · have l' := World.block_lt_of_cell? w _ c'
            rw [← hB.cell (by exact l'), h4] at c'
            have k1 : (k : Int) < (sn : Int) := by omega
            clear hf hf' hd hd' h4
            go_wp2
            go_roundw
            case rel => exact ⟨k + 1, by omega, by rw [HPP.out], by go_num, HRW.out, hB⟩
            case measure => simp [numOf]; omega
          · rw [h4] at h5; cases h5
    · have : k = N := by omega
      subst this
      go_wp2
      go_ret
      exact ⟨rfl, hB⟩
end Go.Proofs.YtkkfjfphmlcieaaGreat

namespace Go.Proofs.YtkkfjfphmlcieaaGreat
section
variable {N : Nat} {adj : Nat → Nat → Bool} {h : List Nat}
theorem nodup_two {l : List Nat} (hn : l.Nodup) {a b : Nat} (hab : a ≠ b) (hm : ∀ x, x ∈ l ↔ x = a ∨ x = b) : l.length = 2 := by
  have h1 := nat_nodup_len l [a, b] hn (fun x hx => by rcases (hm x).1 hx with rfl | rfl <;> simp)
  have h2 := nat_nodup_len [a, b] l (by simp [hab]) (fun x hx => (hm x).2 (by simpa using hx))
  simp at h1 h2
  omega
theorem IsHole.nodup (hh : IsHole N adj h) : h.Nodup := by
  rw [List.Nodup, List.pairwise_iff_getElem]
  intro i j hi hj hij e
  refine hh.ne i j hij hj ?_
  simp [List.getD, List.getElem?_eq_getElem hi, List.getElem?_eq_getElem hj, e]
theorem IsHole.mem (x : Nat) : x ∈ h ↔ ∃ i, i < h.length ∧ h.getD i 0 = x := by
  constructor
  · intro hx
    obtain ⟨i, hi, e⟩ := List.getElem_of_mem hx
    exact ⟨i, hi, by simp [List.getD, List.getElem?_eq_getElem hi, e]⟩
  · rintro ⟨i, hi, rfl⟩
    simp [List.getD, List.getElem?_eq_getElem hi]
/-- Each node of a ring without a chord has just two near it. -/
theorem IsHole.two (hs : ∀ x y, adj x y = adj y x) (hi : ∀ x, adj x x = false) (hh : IsHole N adj h) {x : Nat} (hx : x ∈ h) : (h.filter (adj x)).length = 2 := by
  obtain ⟨i, hil, rfl⟩ := (IsHole.mem x).1 hx
  have hm := hh.len
  obtain ⟨nx, hnx⟩ : ∃ nx, nx = if i + 1 < h.length then i + 1 else 0 := ⟨_, rfl⟩
  obtain ⟨pv, hpv⟩ : ∃ pv, pv = if i = 0 then h.length - 1 else i - 1 := ⟨_, rfl⟩
  have hnl : nx < h.length := by rw [hnx]; split <;> omega
  have hpl : pv < h.length := by rw [hpv]; split <;> omega
  have inj : ∀ a b, a < h.length → b < h.length → h.getD a 0 = h.getD b 0 → a = b := fun a b ha hb e => by
    rcases Nat.lt_trichotomy a b with h1 | h1 | h1
    · exact absurd e (hh.ne a b h1 hb)
    · exact h1
    · exact absurd e.symm (hh.ne b a h1 ha)
  have hne : nx ≠ pv := by rw [hnx, hpv]; split <;> split <;> omega
  have a1 : adj (h.getD i 0) (h.getD nx 0) = true := by
    rw [hnx]
    split
    · rename_i h1; exact hh.next i h1
    · rename_i h1
      have e : i = h.length - 1 := by omega
      rw [e]; exact hh.last
  have a2 : adj (h.getD i 0) (h.getD pv 0) = true := by
    rw [hpv]
    split
    · rename_i h1; subst h1; rw [hs]; exact hh.last
    · rename_i h1
      have := hh.next (i - 1) (by omega)
      have e : i - 1 + 1 = i := by omega
      rw [e] at this
      rw [hs]; exact this
  refine nodup_two (hh.nodup.filter _) (a := h.getD nx 0) (b := h.getD pv 0) (fun e => hne (inj _ _ hnl hpl e)) (fun y => ?_)
  rw [List.mem_filter]
  constructor
  · rintro ⟨hy, ha⟩
    obtain ⟨j, hj, rfl⟩ := (IsHole.mem y).1 hy
    by_cases e1 : j = nx
    · left; rw [e1]
    · by_cases e2 : j = pv
      · right; rw [e2]
      · exfalso
        by_cases e3 : j = i
        · rw [e3, hi] at ha; cases ha
        · rcases Nat.lt_or_gt_of_ne e3 with h1 | h1
          · have := hh.no j i (by
              rw [hpv] at e2
              split at e2 <;> omega) hil (fun ⟨q1, q2⟩ => e1 (by rw [hnx, if_neg (by omega)]; exact q1))
            rw [hs, this] at ha; cases ha
          · have := hh.no i j (by
              rw [hnx] at e1
              split at e1 <;> omega) hj (fun ⟨q1, q2⟩ => e2 (by rw [hpv, if_pos q1]; exact q2))
            rw [this] at ha; cases ha
  · rintro (rfl | rfl)
    · exact ⟨(IsHole.mem _).2 ⟨nx, hnl, rfl⟩, a1⟩
    · exact ⟨(IsHole.mem _).2 ⟨pv, hpl, rfl⟩, a2⟩
/-- The nodes of a ring hang together. -/
theorem IsHole.star (hs : ∀ x y, adj x y = adj y x) (hh : IsHole N adj h) {S : Nat → Bool} (hS : ∀ x, S x = true ↔ x ∈ h) {x y : Nat} (hx : x ∈ h) (hy : y ∈ h) : Star (St N adj S) x y := by
  have inh : ∀ i, i < h.length → h.getD i 0 ∈ h := fun i hi => (IsHole.mem _).2 ⟨i, hi, rfl⟩
  have up : ∀ i, i < h.length → Star (St N adj S) (h.getD 0 0) (h.getD i 0) := fun i => by
    induction i with
    | zero => intro _; exact Star.refl _
    | succ i ih =>
      intro hi
      exact (ih (by omega)).step ⟨hh.lt _ (inh _ hi), hh.next i hi, (hS _).2 (inh _ hi)⟩
  have down : ∀ i, i < h.length → Star (St N adj S) (h.getD i 0) (h.getD 0 0) := fun i => by
    induction i with
    | zero => intro _; exact Star.refl _
    | succ i ih =>
      intro hi
      refine Star.head ⟨hh.lt _ (inh i (by omega)), ?_, (hS _).2 (inh i (by omega))⟩ (ih (by omega))
      rw [hs]; exact hh.next i hi
  obtain ⟨i, hi, rfl⟩ := (IsHole.mem x).1 hx
  obtain ⟨j, hj, rfl⟩ := (IsHole.mem y).1 hy
  exact (down i hi).trans (up j hj)
theorem IsHole.parts (hs : ∀ x y, adj x y = adj y x) (hh : IsHole N adj h) {S : Nat → Bool} (hS : ∀ x, S x = true ↔ x ∈ h) {R : Nat → Nat → Bool} (hR : ∀ v x, R v x = true ↔ Star (St N adj S) v x) : partsN N S R = 1 := by
  have hm := hh.len
  have h0 : h.getD 0 0 ∈ h := (IsHole.mem _).2 ⟨0, by omega, rfl⟩
  obtain ⟨f, ⟨hf1, hf2⟩, hmin⟩ := leastOf (P := fun z => z < N ∧ z ∈ h) (h.getD 0 0) ⟨hh.lt _ h0, h0⟩
  unfold partsN
  have hone : ∀ v, v ∈ (List.range N).filter (firstB S R) ↔ v = f := fun v => by
    rw [List.mem_filter, List.mem_range, firstB_iff]
    constructor
    · rintro ⟨h1, h2, h3⟩
      have hv := (hS v).1 h2
      rcases Nat.lt_trichotomy v f with h4 | h4 | h4
      · exact absurd ⟨h1, hv⟩ (hmin v h4)
      · exact h4
      · have := h3 f h4 ((hS f).2 hf2)
        rw [(hR f v).2 (hh.star hs hS hf2 hv)] at this; cases this
    · rintro rfl
      exact ⟨hf1, (hS v).2 hf2, fun u hu hSu => absurd ⟨by omega, (hS u).1 hSu⟩ (hmin u hu)⟩
  have hnd : ((List.range N).filter (firstB S R)).Nodup := List.nodup_range.filter _
  have h1 := nat_nodup_len _ [f] hnd (fun x hx => by simp [(hone x).1 hx])
  have h2 := nat_nodup_len [f] ((List.range N).filter (firstB S R)) (by simp) (fun x hx => (hone x).2 (by simpa using hx))
  simp at h1 h2
  omega
/-- A way through the nodes far from c, as a table of what is open tells it. -/
theorem cn_star {S : Nat → Bool} {a b c : Nat} (hS : ∀ x, x < N → (S x = true ↔ (x ≠ c ∧ ¬ adj c x = true))) (ha : a < N) : Cn (fun x y => adj x y = true) (Far (fun x y => adj x y = true) (fun z => z < N) c) a b ↔ (S a = true ∧ Star (St N adj S) a b) := by
  constructor
  · intro h
    refine ⟨(hS a ha).2 h.left.2, ?_⟩
    induction h with
    | refl _ => exact Star.refl _
    | step _ h2 h3 ih => exact ih.step ⟨h3.1, h2, (hS _ h3.1).2 h3.2⟩
  · rintro ⟨h1, h2⟩
    exact Star.ind (P := fun b => Cn (fun x y => adj x y = true) (Far (fun x y => adj x y = true) (fun z => z < N) c) a b) (Cn.refl ⟨ha, (hS a ha).1 h1⟩) (fun _ _ _ hs ih => ih.step hs.2.1 ⟨hs.1, (hS _ hs.1).1 hs.2.2⟩) h2
/-- Three nodes that can be gone round, in falling order. -/
theorem Ast.sorted (hs : ∀ x y, adj x y = adj y x) (h : Ast (fun x y => adj x y = true) (fun z => z < N)) : ∃ a b c, a < N ∧ b < a ∧ c < b ∧ Cn (fun x y => adj x y = true) (Far (fun x y => adj x y = true) (fun z => z < N) c) a b ∧ Cn (fun x y => adj x y = true) (Far (fun x y => adj x y = true) (fun z => z < N) a) b c ∧ Cn (fun x y => adj x y = true) (Far (fun x y => adj x y = true) (fun z => z < N) b) a c := by
  have hsym : ∀ a b, adj a b = true → adj b a = true := fun a b h => by rw [hs]; exact h
  obtain ⟨a, b, c, h1, h2, h3⟩ := h
  have n1 : a ≠ c := h1.left.2.1
  have n2 : b ≠ a := h2.left.2.1
  have n3 : a ≠ b := h3.left.2.1
  have n4 : b ≠ c := h1.right.2.1
  have la := h1.left.1
  have lb := h2.left.1
  have lc := h2.right.1
  have s1 := h1.symm hsym
  have s2 := h2.symm hsym
  have s3 := h3.symm hsym
  rcases Nat.lt_or_gt_of_ne n3 with e1 | e1
  · rcases Nat.lt_or_gt_of_ne n1 with e2 | e2
    · rcases Nat.lt_or_gt_of_ne n4 with e3 | e3
      · exact ⟨c, b, a, lc, e3, e1, s2, s1, s3⟩
      · exact ⟨b, c, a, lb, e3, e2, h2, s3, s1⟩
    · exact ⟨b, a, c, lb, e1, e2, s1, h3, h2⟩
  · rcases Nat.lt_or_gt_of_ne n4 with e2 | e2
    · rcases Nat.lt_or_gt_of_ne n1 with e3 | e3
      · exact ⟨c, a, b, lc, e3, e1, s3, h1, s2⟩
      · exact ⟨a, c, b, la, e3, e2, h3, s2, h1⟩
    · exact ⟨a, b, c, la, e1, e2, h1, h2, h3⟩
end
end Go.Proofs.YtkkfjfphmlcieaaGreat

namespace Go.Proofs.YtkkfjfphmlcieaaGreat
set_option maxRecDepth 8000
open Go.RowKit Go.Maps
attribute [local go_sem ↓] Go.wp_at_zero Go.wp_at_succ
/-- A way leads from a to b past c and what is near it. -/
def FarP (N : Nat) (p : Int → Int → Bool) (a b c : Nat) : Prop := Cn (fun x y => pn p x y = true) (Far (fun x y => pn p x y = true) (fun z => z < N) c) a b
def shF (p : Int → Int → Bool) (c j : Nat) : Bool := j == c || pn p c j
theorem farP_iff {N : Nat} {p : Int → Int → Bool} {a b c : Nat} (ha : a < N) : FarP N p a b c ↔ (shF p c a = false ∧ Star (St N (pn p) (openB (shF p c))) a b) := by
  have := cn_star (N := N) (adj := pn p) (S := openB (shF p c)) (a := a) (b := b) (c := c) (fun x _ => by
    simp [openB, shF]) ha
  unfold FarP
  rw [this]
  simp [openB]
theorem farP_right {N : Nat} {p : Int → Int → Bool} {a b c : Nat} (h : FarP N p a b c) : shF p c b = false := by
  have := h.right
  have h1 := this.2.1
  have h2 : ¬ pn p c b = true := this.2.2
  have h2' : pn p c b = false := by simpa using h2
  simp [shF, h1, h2']
/-- What the literal answers. -/
def FarE (P : Prop) (w : World) (e : Ending) (w' : World) : Prop := ∃ fb : Bool, e = .returned (.bool fb) ∧ (fb = true ↔ P) ∧ Below w.heap.size w w'
set_option maxHeartbeats 4000000 in
theorem farL_call {N : Nat} {gao : Option Addr} {gcap : Nat} {p : Int → Int → Bool} {w : World} {b3 : Nat} (hG : GridAt w (.slice gao N gcap) N p) (h3 : One w b3 (.slice gao N gcap) 34) (hN : N ≤ 100) {a b c : Nat} (ha : a < N) (hb : b < N) (hc : c < N) :
    Calls Tryz.prog 27 #[.int .i64 (a : Int), .int .i64 (b : Int), .int .i64 (c : Int), ptr b3] w fun e w' => FarE (FarP N p a b c) w e w' := by
  obtain ⟨i0, hi, hz0, hz1, hz2⟩ := info_parts Tryz.info4
  have HG : Hid (GridAt w (.slice gao N gcap) N p) := hG
  have H3 : Hid (One w b3 (.slice gao N gcap) 34) := h3
  have q0 : w.cell? ⟨b3, 0, none⟩ = some (.slice gao N gcap) := box_cell h3 rfl
  have a1 : (0 : Int) ≤ (a : Int) := by omega
  have a2 : (a : Int) < (N : Int) := by omega
  have b1 : (0 : Int) ≤ (b : Int) := by omega
  have b2 : (b : Int) < (N : Int) := by omega
  have c1 : (0 : Int) ≤ (c : Int) := by omega
  have c2 : (c : Int) < (N : Int) := by omega
  clear hG h3
  go_enter Tryz.func27, Tryz.ntmps27
  go_upto_region 3 with (first | (at_make; refine wpList_make_full _ rfl _ _ 39 rfl w.heap.size 4 i0 (.bool false) 1 Tryz.underlying39 hi hz0 hz1 .i64 .i64 _ _ N rfl rfl rfl rfl ?_ ?_ ?_ ?_; (rw [hz2]; omega); (unfold maxLen; omega); (omega); intro W1 hmade hg1) | go_in)
  have hrow0 := rowV_made rfl hmade
  have hB1 : Below w.heap.size w W1 := (Below.refl _ _).grown hg1 (Nat.le_refl _) (fun k hk => by cases hk)
  clear hmade hg1 q0
  obtain ⟨bS, hbS⟩ : ∃ b, b = w.heap.size := ⟨_, rfl⟩
  have HBS : Hid (w.heap.size ≤ bS) := by show w.heap.size ≤ bS; omega
  rw [← hbS] at hrow0 ⊢
  clear hbS
  go_loopw [9] (fun s9 wz => ∃ k : Nat, k ≤ N ∧ s9 = .int .i64 (k : Int) ∧ RowV wz bS 4 N (fun j => .bool (decide (j < k) && shF p c j)) ∧ Below w.heap.size w wz) (fun s9 _ => N - (numOf s9).toNat)
  case atStart => exact ⟨0, Nat.zero_le _, rfl, hrow0.congr (fun j _ => by simp), hB1⟩
  case round =>
    obtain ⟨k, hk, rfl, hR, hB⟩ := hrel
    clear hrow0 hB1
    have q0 : wr.cell? ⟨b3, 0, none⟩ = some (.slice gao N gcap) := box_cell ((hB.block b3 (lt_of_block H3.out)).trans H3.out) rfl
    by_cases hkN : k < N
    · have k1 : (0 : Int) ≤ (k : Int) := by omega
      have k2 : (k : Int) < (N : Int) := by omega
      have hcell := hR.cell hkN
      have hfr := hR.free k
      have HR : Hid (RowV wr bS 4 N (fun j => .bool (decide (j < k) && shF p c j))) := hR
      obtain ⟨ao', cap', e0, hgrid⟩ := HG.out.below hB
      cases e0
      obtain ⟨g, bg, rfl, g0, g1⟩ := hgrid c hc
      have gv := g1 k hkN
      have fin : ∀ v : Bool, v = shF p c k → RowV (wr.setCell ⟨bS, k, none⟩ (.bool v)) bS 4 N (fun j => .bool (decide (j < k + 1) && shF p c j)) ∧ Below w.heap.size w (wr.setCell ⟨bS, k, none⟩ (.bool v)) := fun v hv => by
        refine ⟨(HR.out.set k (.bool v)).congr (fun j hj => ?_), hB.setCell HBS.out _⟩
        by_cases e : j = k
        · rw [if_pos e, e, hv]; simp
        · rw [if_neg e]
          have : decide (j < k + 1) = decide (j < k) := by rw [decide_eq_decide]; omega
          rw [this]
      have FIN : Hid (∀ v : Bool, v = shF p c k → RowV (wr.setCell ⟨bS, k, none⟩ (.bool v)) bS 4 N (fun j => .bool (decide (j < k + 1) && shF p c j)) ∧ Below w.heap.size w (wr.setCell ⟨bS, k, none⟩ (.bool v))) := fin
      clear hR g1 hgrid fin
      by_cases hkc : k = c
      · subst hkc
        have e1 : ((k : Int) == (k : Int)) = true := by simp
        go_wp2
        go_roundw
        case rel => exact ⟨k + 1, by omega, by go_num, (FIN.out true (by simp [shF])).1, (FIN.out true (by simp [shF])).2⟩
        case measure => simp [numOf]; omega
      · have e1 : ((k : Int) == (c : Int)) = false := by rw [beq_eq_false_iff_ne]; omega
        have hv : p c k = shF p c k := by
          have : (k == c) = false := by simpa using hkc
          simp [shF, this, pn]
        clear hkc
        go_wp2
        go_roundw
        case rel => exact ⟨k + 1, by omega, by go_num, (FIN.out _ rfl).1, (FIN.out _ rfl).2⟩
        case measure => simp [numOf]; omega
    · have k2 : ¬ (k : Int) < (N : Int) := by omega
      have hR' : RowV wr bS 4 N (fun j => .bool (shF p c j)) := hR.congr (fun j hj => by
        have : decide (j < k) = true := by simp; omega
        rw [this]; rfl)
      have ca := hR'.cell ha
      have cb := hR'.cell hb
      have HRR : Hid (RowV wr bS 4 N (fun j => .bool (shF p c j))) := hR'
      clear hR hR'
      cases h1 : shF p c a with
      | true =>
        rw [h1] at ca
        have HNO : Hid (¬ FarP N p a b c) := fun h => by
          rw [((farP_iff ha).1 h).1] at h1; cases h1
        clear h1
        go_wp2
        go_ret
        exact ⟨false, rfl, ⟨fun h => (by cases h), fun h => absurd h HNO.out⟩, hB⟩
      | false =>
        rw [h1] at ca
        have HA : Hid (shF p c a = false) := h1
        clear h1
        cases h2 : shF p c b with
        | true =>
          rw [h2] at cb
          have HNO : Hid (¬ FarP N p a b c) := fun h => by
            rw [farP_right h] at h2; cases h2
          clear h2
          go_wp2
          go_ret
          exact ⟨false, rfl, ⟨fun h => (by cases h), fun h => absurd h HNO.out⟩, hB⟩
        | false =>
          rw [h2] at cb
          clear h2
          have hsh : ShutAt wr (.slice (some ⟨bS, 0, none⟩) N N) N (shF p c) := ⟨_, _, _, rfl, by omega, fun j hj => Or.inl ⟨hj, bS, rfl, HRR.out.cell hj⟩⟩
          have h28 := reach_call N gao gcap p wr (HG.out.below hB) hN ha hsh
          have H28 : Hid (Calls Tryz.prog 28 #[.slice gao N gcap, .int .i64 (a : Int), .slice (some ⟨bS, 0, none⟩) N N] wr fun r w' => ∃ (br : Nat) (I : Nat → Bool), r = .returned (.slice (some ⟨br, 0, none⟩) N N) ∧ w'.cell? ⟨br, b, none⟩ = some (.bool (I b)) ∧ (I b = true ↔ FarP N p a b c) ∧ Below wr.heap.size wr w') := by
            refine Calls.mono h28 ?_
            rintro r w' ⟨br, rfl, _, I, hI, hII, hbb⟩
            refine ⟨br, I, rfl, hI.cell hb, ?_, hbb⟩
            rw [hII b hb, farP_iff ha]
            exact ⟨fun h => ⟨HA.out, h⟩, fun h => h.2⟩
          clear h28 hsh
          go_wp2_with (first | (go_at_call 28; refine Calls.mono H28.out ?_; rintro e' w8 ⟨br, I, rfl, hcI, hIb, hb8⟩) | go_in)
          go_ret
          exact ⟨I b, rfl, hIb, below_next hB hb8⟩
/-- Whether three nodes can be gone round. -/
def Star3 (N : Nat) (p : Int → Int → Bool) (a b c : Nat) : Prop := FarP N p a b c ∧ FarP N p b c a ∧ FarP N p a c b
/-- Whether some three nodes can be gone round. -/
def AnyStar (N : Nat) (p : Int → Int → Bool) : Prop := ∃ x y z, x < N ∧ y < x ∧ z < y ∧ Star3 N p x y z
theorem anyStar_of {N : Nat} {p : Int → Int → Bool} (hsym : ∀ x y : Nat, pn p x y = pn p y x) (h : Ast (fun x y => pn p x y = true) (fun z => z < N)) : AnyStar N p := by
  obtain ⟨x, y, z, h1, h2, h3, h4, h5, h6⟩ := h.sorted hsym
  exact ⟨x, y, z, h1, h2, h3, h4, h5, h6⟩
theorem enter27 : ∀ args w', (callFunc 27 args).run Tryz.prog w' = .ok (.enter 27 args) w' := enters_of Tryz.func27 (by kernel_rfl) rfl
theorem FarE.one {P : Prop} {F : FuncId} {args : Array Value} {w : World} (h : Calls Tryz.prog F args w fun e w' => FarE P w e w') : ∃ fb : Bool, (fb = true ↔ P) ∧ Calls Tryz.prog F args w fun e w' => e = .returned (.bool fb) ∧ Below w.heap.size w w' := by
  by_cases hp : P
  · refine ⟨true, by simp [hp], h.mono ?_⟩
    rintro e w' ⟨fb, rfl, hfb, hb⟩
    rw [hfb.2 hp]; exact ⟨rfl, hb⟩
  · refine ⟨false, by simp [hp], h.mono ?_⟩
    rintro e w' ⟨fb, rfl, hfb, hb⟩
    have : fb = false := by
      cases fb with
      | false => rfl
      | true => exact absurd (hfb.1 rfl) hp
    rw [this]; exact ⟨rfl, hb⟩
set_option maxHeartbeats 4000000 in
theorem stars_call {N : Nat} {gao : Option Addr} {gcap : Nat} {p : Int → Int → Bool} {w : World} (hG : GridAt w (.slice gao N gcap) N p) (hN : N ≤ 100) :
    Calls Tryz.prog 12 #[.slice gao N gcap] w fun e w' => FarE (AnyStar N p) w e w' := by
  have HG : Hid (GridAt w (.slice gao N gcap) N p) := hG
  have h27 := enter27
  clear hG
  go_enter Tryz.func12, Tryz.ntmps12
  go_upto_region 3 with (fail)
  have o1 := one_new w (.slice gao N gcap) 34
  have hB0 := below_alloc (Below.refl _ w) (Obj.cells #[.slice gao N gcap] 34)
  obtain ⟨b1, hb1⟩ : ∃ b, b = w.heap.size := ⟨_, rfl⟩
  rw [← hb1] at o1 ⊢
  clear hb1
  generalize w.alloc (Obj.cells #[.slice gao N gcap] 34) = W0 at o1 hB0 ⊢
  have HO : Hid (One W0 b1 (.slice gao N gcap) 34) := o1
  have HGW : Hid (∀ W, Below W0.heap.size W0 W → GridAt W (.slice gao N gcap) N p ∧ One W b1 (.slice gao N gcap) 34) := fun W hW => ⟨HG.out.below (below_next hB0 hW), (hW.block b1 (lt_of_block HO.out)).trans HO.out⟩
  have hBB := Below.refl W0.heap.size W0
  clear o1
  go_loopw [4] (fun s4 wz => ∃ a : Nat, a ≤ N ∧ s4 = .int .i64 (a : Int) ∧ (∀ x y z, x < a → y < x → z < y → ¬ Star3 N p x y z) ∧ Below W0.heap.size W0 wz) (fun s4 _ => N - (numOf s4).toNat)
  case atStart => exact ⟨0, Nat.zero_le _, rfl, fun x y z h => absurd h (by omega), hBB⟩
  case round =>
    obtain ⟨a, ha, rfl, hda, hBa⟩ := hrel
    have HDA : Hid (∀ x y z, x < a → y < x → z < y → ¬ Star3 N p x y z) := hda
    clear hda hBB
    have q0 : wr.cell? ⟨b1, 0, none⟩ = some (.slice gao N gcap) := box_cell (HGW.out wr hBa).2 rfl
    by_cases haN : a < N
    · have a2 : (a : Int) < (N : Int) := by omega
      go_upto_region 6 with (fail)
      clear q0
      go_loopw [5] (fun s5 wz => ∃ b : Nat, b ≤ a ∧ s5 = .int .i64 (b : Int) ∧ (∀ y z, y < b → z < y → ¬ Star3 N p a y z) ∧ Below W0.heap.size W0 wz) (fun s5 _ => a - (numOf s5).toNat)
      case atStart => exact ⟨0, Nat.zero_le _, rfl, fun y z h => absurd h (by omega), hBa⟩
      case round =>
        obtain ⟨b, hb, rfl, hdb, hBb⟩ := hrel
        have HDB : Hid (∀ y z, y < b → z < y → ¬ Star3 N p a y z) := hdb
        clear hdb hBa
        by_cases hba : b < a
        · have b2 : (b : Int) < (a : Int) := by omega
          go_upto_region 9 with (fail)
          go_loopw [6] (fun s6 wz => ∃ c : Nat, c ≤ b ∧ s6 = .int .i64 (c : Int) ∧ (∀ z, z < c → ¬ Star3 N p a b z) ∧ Below W0.heap.size W0 wz) (fun s6 _ => b - (numOf s6).toNat)
          case atStart => exact ⟨0, Nat.zero_le _, rfl, fun z h => absurd h (by omega), hBb⟩
          case round =>
            obtain ⟨c, hc, rfl, hdc, hBc⟩ := hrel
            have HDC : Hid (∀ z, z < c → ¬ Star3 N p a b z) := hdc
            clear hdc hBb
            by_cases hcb : c < b
            · have c2 : (c : Int) < (b : Int) := by omega
              obtain ⟨hGr, hOr⟩ := HGW.out wr hBc
              obtain ⟨f1, hf1, C1⟩ := FarE.one (farL_call hGr hOr hN haN (show b < N by omega) (show c < N by omega))
              have NXT : Hid (¬ Star3 N p a b c → ∀ z, z < c + 1 → ¬ Star3 N p a b z) := fun hn z hz => by
                by_cases e : z = c
                · rw [e]; exact hn
                · exact HDC.out z (by omega)
              have HC1 : Hid (Calls Tryz.prog 27 #[.int .i64 (a : Int), .int .i64 (b : Int), .int .i64 (c : Int), ptr b1] wr fun e w' => e = .returned (.bool f1) ∧ Below wr.heap.size wr w') := C1
              clear C1 hGr hOr
              cases f1 with
              | false =>
                have HNO : Hid (¬ Star3 N p a b c) := fun h => by have := hf1.2 h.1; cases this
                clear hf1
                go_wp2_with (first | (go_at_call 27; refine Calls.mono HC1.out ?_; rintro e' w1 ⟨rfl, hb1⟩) | go_in)
                go_roundw
                case rel => exact ⟨c + 1, by omega, by go_num, NXT.out HNO.out, below_next hBc hb1⟩
                case measure => simp [numOf]; omega
              | true =>
                obtain ⟨f2, hf2⟩ : ∃ f2 : Bool, (f2 = true ↔ FarP N p b c a) := by
                  by_cases h : FarP N p b c a
                  · exact ⟨true, by simp [h]⟩
                  · exact ⟨false, by simp [h]⟩
                obtain ⟨f3, hf3⟩ : ∃ f3 : Bool, (f3 = true ↔ FarP N p a c b) := by
                  by_cases h : FarP N p a c b
                  · exact ⟨true, by simp [h]⟩
                  · exact ⟨false, by simp [h]⟩
                have same : ∀ {f g : Bool} {P : Prop}, (f = true ↔ P) → (g = true ↔ P) → f = g := fun {f g P} h1 h2 => by
                  rw [Bool.eq_iff_iff, h1, h2]
                have HC2 : Hid (∀ W, Below W0.heap.size W0 W → Calls Tryz.prog 27 #[.int .i64 (b : Int), .int .i64 (c : Int), .int .i64 (a : Int), ptr b1] W fun e w' => e = .returned (.bool f2) ∧ Below W.heap.size W w') := fun W hW => by
                  obtain ⟨f, hf, C⟩ := FarE.one (farL_call (HGW.out W hW).1 (HGW.out W hW).2 hN (show b < N by omega) (show c < N by omega) haN)
                  rw [same hf2 hf]; exact C
                have HC3 : Hid (∀ W, Below W0.heap.size W0 W → Calls Tryz.prog 27 #[.int .i64 (a : Int), .int .i64 (c : Int), .int .i64 (b : Int), ptr b1] W fun e w' => e = .returned (.bool f3) ∧ Below W.heap.size W w') := fun W hW => by
                  obtain ⟨f, hf, C⟩ := FarE.one (farL_call (HGW.out W hW).1 (HGW.out W hW).2 hN haN (show c < N by omega) (show b < N by omega))
                  rw [same hf3 hf]; exact C
                cases f2 with
                | false =>
                  have HNO : Hid (¬ Star3 N p a b c) := fun h => by have := hf2.2 h.2.1; cases this
                  clear hf1 hf2 hf3 same
                  go_wp2_with (first
                    | (go_at_call 27; have hh := hb1; clear hh; refine Calls.mono (HC2.out _ (below_next hBc hb1)) ?_; rintro e' w2 ⟨rfl, hb2⟩)
                    | (go_at_call 27; refine Calls.mono HC1.out ?_; rintro e' w1 ⟨rfl, hb1⟩) | go_in)
                  go_roundw
                  case rel => exact ⟨c + 1, by omega, by go_num, NXT.out HNO.out, below_next hBc (below_next hb1 hb2)⟩
                  case measure => simp [numOf]; omega
                | true =>
                  cases f3 with
                  | false =>
                    have HNO : Hid (¬ Star3 N p a b c) := fun h => by have := hf3.2 h.2.2; cases this
                    clear hf1 hf2 hf3 same
                    go_wp2_with (first
                      | (go_at_call 27; have hh := hb2; clear hh; refine Calls.mono (HC3.out _ (below_next hBc (below_next hb1 hb2))) ?_; rintro e' w3 ⟨rfl, hb3⟩)
                      | (go_at_call 27; have hh := hb1; clear hh; refine Calls.mono (HC2.out _ (below_next hBc hb1)) ?_; rintro e' w2 ⟨rfl, hb2⟩)
                      | (go_at_call 27; refine Calls.mono HC1.out ?_; rintro e' w1 ⟨rfl, hb1⟩) | go_in)
                    go_roundw
                    case rel => exact ⟨c + 1, by omega, by go_num, NXT.out HNO.out, below_next hBc (below_next hb1 (below_next hb2 hb3))⟩
                    case measure => simp [numOf]; omega
                  | true =>
                    have HST : Hid (AnyStar N p) := ⟨a, b, c, haN, hba, hcb, hf1.1 rfl, hf2.1 rfl, hf3.1 rfl⟩
                    clear hf1 hf2 hf3 same
                    go_wp2_with (first
                      | (go_at_call 27; have hh := hb2; clear hh; refine Calls.mono (HC3.out _ (below_next hBc (below_next hb1 hb2))) ?_; rintro e' w3 ⟨rfl, hb3⟩)
                      | (go_at_call 27; have hh := hb1; clear hh; refine Calls.mono (HC2.out _ (below_next hBc hb1)) ?_; rintro e' w2 ⟨rfl, hb2⟩)
                      | (go_at_call 27; refine Calls.mono HC1.out ?_; rintro e' w1 ⟨rfl, hb1⟩) | go_in)
                    go_ret
                    exact ⟨true, rfl, ⟨fun _ => HST.out, fun _ => rfl⟩, below_next hB0 (below_next hBc (below_next hb1 (below_next hb2 hb3)))⟩
            · have c2 : ¬ (c : Int) < (b : Int) := by omega
              go_wp2
              go_roundw
              case rel => exact ⟨b + 1, by omega, by go_num, fun y z hy hz => by
                by_cases e : y = b
                · subst e; exact HDC.out z (by omega)
                · exact HDB.out y z (by omega) hz, hBc⟩
              case measure => simp [numOf]; omega
        · have b2 : ¬ (b : Int) < (a : Int) := by omega
          go_wp2
          go_roundw
          case rel => exact ⟨a + 1, by omega, by go_num, fun x y z hx hy hz => by
            by_cases e : x = a
            · subst e; exact HDB.out y z (by omega) hz
            · exact HDA.out x y z (by omega) hy hz, hBb⟩
          case measure => simp [numOf]; omega
    · have a2 : ¬ (a : Int) < (N : Int) := by omega
      have HNA : Hid (¬ AnyStar N p) := fun ⟨x, y, z, h1, h2, h3, h4⟩ => HDA.out x y z (by omega) h2 h3 h4
      go_wp2
      go_ret
      exact ⟨false, rfl, ⟨fun h => (by cases h), fun h => absurd h HNA.out⟩, below_next hB0 hBa⟩
end Go.Proofs.YtkkfjfphmlcieaaGreat

namespace Go.Proofs.YtkkfjfphmlcieaaGreat
set_option maxRecDepth 8000
open Go.RowKit Go.Maps
attribute [local go_sem ↓] Go.wp_at_zero Go.wp_at_succ
theorem set_number : ∀ (N : Nat) (S : Nat → Bool), ∃ s, s < 2 ^ N ∧ ∀ x, x < N → s.testBit x = S x
  | 0, _ => ⟨0, by simp, fun x h => absurd h (by omega)⟩
  | N + 1, S => by
    obtain ⟨s, h1, h2⟩ := set_number N (fun x => S (x + 1))
    refine ⟨2 * s + (if S 0 = true then 1 else 0), ?_, fun x hx => ?_⟩
    · rw [Nat.pow_succ]; split <;> omega
    · cases x with
      | zero =>
        rw [Nat.testBit_zero]
        cases h : S 0 <;> simp
      | succ x =>
        rw [Nat.testBit_succ]
        have e : (2 * s + (if S 0 = true then 1 else 0)) / 2 = s := by split <;> omega
        rw [e]
        exact h2 x (by omega)
theorem bit_atz (S k : Nat) : bits .and .i64 ((S : Int) / 2 ^ k) 1 = if S.testBit k = true then 1 else 0 := by
  rw [and1z]
  have e : (S : Int) / 2 ^ k % 2 = ((S / 2 ^ k % 2 : Nat) : Int) := by push_cast; rfl
  rw [e, Nat.testBit_eq_decide_div_mod_eq]
  rcases Nat.mod_two_eq_zero_or_one (S / 2 ^ k) with h | h <;> simp [h]
/-- The nodes below k of the set s. -/
def lsT (s k : Nat) : List Nat := (List.range k).filter s.testBit
theorem lsT_succ (s k : Nat) : lsT s (k + 1) = lsT s k ++ if s.testBit k = true then [k] else [] := by
  unfold lsT
  rw [List.range_succ, List.filter_append]
  congr 1
  cases h : s.testBit k <;> simp [h]
theorem lsT_mem {s k x : Nat} : x ∈ lsT s k ↔ x < k ∧ s.testBit x = true := by simp [lsT]
theorem lsT_len (s k : Nat) : (lsT s k).length ≤ k := Nat.le_trans (List.length_filter_le _ _) (by simp)
/-- What a hole is as a number. -/
structure HoleS (N : Nat) (p : Int → Int → Bool) (s : Nat) : Prop where
  lt : s < 2 ^ N
  four : 4 ≤ (lsT s N).length
  two : ∀ x ∈ lsT s N, ((lsT s N).filter (pn p x)).length = 2
  one : ∀ R : Nat → Nat → Bool, (∀ v x, R v x = true ↔ Star (St N (pn p) (openB (fun j => !s.testBit j))) v x) → partsN N (openB (fun j => !s.testBit j)) R = 1
theorem holeS_of {N : Nat} {p : Int → Int → Bool} {h : List Nat} (hs : ∀ x y : Nat, pn p x y = pn p y x) (hi : ∀ x : Nat, pn p x x = false) (hh : IsHole N (pn p) h) : ∃ s, HoleS N p s := by
  obtain ⟨s, h1, h2⟩ := set_number N (fun x => decide (x ∈ h))
  have hmem : ∀ x, x ∈ lsT s N ↔ x ∈ h := fun x => by
    rw [lsT_mem]
    constructor
    · rintro ⟨a, b⟩
      rw [h2 x a] at b
      simpa using b
    · intro hx
      have := hh.lt x hx
      exact ⟨this, by rw [h2 x this]; simpa using hx⟩
  have hnd : (lsT s N).Nodup := List.nodup_range.filter _
  have hbit : ∀ x, s.testBit x = true ↔ x ∈ h := fun x => by
    by_cases hx : x < N
    · rw [← hmem, lsT_mem]; simp [hx]
    · rw [Nat.testBit_lt_two_pow (Nat.lt_of_lt_of_le h1 (Nat.pow_le_pow_right (by omega) (by omega)))]
      constructor
      · intro h; cases h
      · intro h; have := hh.lt x h; omega
  refine ⟨s, h1, ?_, fun x hx => ?_, fun R hR => ?_⟩
  · have := nat_nodup_len h (lsT s N) hh.nodup (fun x hx => (hmem x).2 hx)
    have := hh.len
    omega
  · have e1 := nat_nodup_len ((lsT s N).filter (pn p x)) (h.filter (pn p x)) (hnd.filter _) (fun y hy => by
      have := List.mem_filter.1 hy
      exact List.mem_filter.2 ⟨(hmem y).1 this.1, this.2⟩)
    have e2 := nat_nodup_len (h.filter (pn p x)) ((lsT s N).filter (pn p x)) (hh.nodup.filter _) (fun y hy => by
      have := List.mem_filter.1 hy
      exact List.mem_filter.2 ⟨(hmem y).2 this.1, this.2⟩)
    have := hh.two hs hi ((hmem x).1 hx)
    omega
  · refine hh.parts hs (S := openB (fun j => !s.testBit j)) (fun x => ?_) hR
    rw [← hbit]
    simp [openB]
def OkAt (P : Prop) (v : Value) : Prop := ∃ ok : Bool, v = .bool ok ∧ (P → ok = true)
set_option maxHeartbeats 8000000 in
theorem hole_call {N : Nat} {gao : Option Addr} {gcap : Nat} {p : Int → Int → Bool} {w : World} (hG : GridAt w (.slice gao N gcap) N p) (hN : N ≤ 12) {s0 : Nat} (hs0 : HoleS N p s0) :
    Calls Tryz.prog 13 #[.slice gao N gcap] w fun e w' => e = .returned (.bool true) ∧ Below w.heap.size w w' := by
  obtain ⟨i0, hi, hz0, hz1, hz2⟩ := info_parts Tryz.info4
  have HG : Hid (GridAt w (.slice gao N gcap) N p) := hG
  have HS : Hid (HoleS N p s0) := hs0
  have i7 : min N 64 = N := by omega
  have hM : 2 ^ N ≤ 2 ^ 12 := Nat.pow_le_pow_right (by omega) hN
  obtain ⟨M, hMe⟩ : ∃ M : Nat, M = 2 ^ N := ⟨_, rfl⟩
  have hM' : M ≤ 4096 := by rw [hMe]; exact hM
  have i8 : wrap64 (2 ^ N) = (M : Int) := by
    have : (2 ^ N : Int) = (M : Int) := by rw [hMe]; push_cast; rfl
    rw [this]
    unfold wrap64
    omega
  have hsM : s0 < M := by rw [hMe]; exact hs0.lt
  clear hM hMe hG hs0
  go_enter Tryz.func13, Tryz.ntmps13
  go_upto_region 2 with (fail)
  go_loopw [3] (fun s3 wz => ∃ s : Nat, s ≤ s0 ∧ s3 = .int .i64 (s : Int) ∧ Below w.heap.size w wz) (fun s3 _ => M - (numOf s3).toNat)
  case atStart => exact ⟨0, Nat.zero_le _, rfl, Below.refl _ _⟩
  case round =>
    obtain ⟨s, hs, rfl, hBs⟩ := hrel
    have a2 : (s : Int) < (M : Int) := by omega
    go_upto_region 6 with (fail)
    rw [i8]
    clear i8
    go_loopw [4, 5] (fun s4 s5 wz => ∃ (v : Nat), v ≤ N ∧ s5 = .int .i64 (v : Int) ∧ wz.ownsRow w.heap.size 3 1 s4 (lsT s v).length (qv (lsT s v)) ∧ Below w.heap.size w wz) (fun _ s5 _ => N - (numOf s5).toNat)
    case atStart => exact ⟨0, Nat.zero_le _, rfl, World.ownsRow_nil _ _ _ _, hBs⟩
    case round =>
      obtain ⟨v, hv, rfl, hrow, hBv⟩ := hrel
      obtain ⟨vo, vc, rfl⟩ := form_row hrow
      have HROW : Hid (wr.ownsRow w.heap.size 3 1 (.slice vo (lsT s v).length vc) (lsT s v).length (qv (lsT s v))) := hrow
      have hll := lsT_len s v
      clear hrow hBs
      by_cases hvN : v < N
      · have b2 : (v : Int) < (N : Int) := by omega
        have m1 : min v 64 = v := by omega
        have hbit := bit_atz s v
        cases hb : s.testBit v with
        | true =>
          rw [hb, if_pos rfl] at hbit
          have HLS : Hid (lsT s (v + 1) = lsT s v ++ [v]) := by show _ = _; rw [lsT_succ, hb, if_pos rfl]
          have hrow1 := HROW.out
          have hsz := hBv.size
          clear hb
          obtain ⟨ll, hlle⟩ : ∃ ll, ll = lsT s v := ⟨_, rfl⟩
          rw [← hlle] at hrow1 hll HLS ⊢
          have HRW : Hid (wr.ownsRow w.heap.size 3 1 (.slice vo ll.length vc) ll.length (qv ll)) := hrow1
          clear hlle HROW
          go_wp2_with (first | (at_builtin; refine wpList_pushA (x := v) rfl _ _ rfl rfl rfl hrow1 (by omega) hsz ?_; intro g9 c9 w9 hown9 hg9 hgg9) | go_in)
          go_roundw
          case rel => exact ⟨v + 1, by omega, by go_num, by rw [HLS.out, List.length_append]; rw [List.length_append] at hown9; exact hown9, (below_alloc hBv _).grown hg9 (below_alloc hBv _).size (fun k hk => (HRW.out.lt k hk).1)⟩
          case measure => simp [numOf]; omega
        | false =>
          rw [hb, if_neg (by simp)] at hbit
          have HLS : Hid (lsT s (v + 1) = lsT s v) := by show _ = _; rw [lsT_succ, hb, if_neg (by simp), List.append_nil]
          clear hb
          go_wp2
          go_roundw
          case rel => exact ⟨v + 1, by omega, by go_num, by rw [HLS.out]; exact HROW.out, hBv⟩
          case measure => simp [numOf]; omega
      · have b2 : ¬ (v : Int) < (N : Int) := by omega
        have hvN' : v = N := by omega
        subst hvN'
        obtain ⟨ll, hlle⟩ : ∃ ll, ll = lsT s v := ⟨_, rfl⟩
        have HLL : Hid (ll = lsT s v) := hlle
        rw [← hlle] at hll ⊢
        have HRW : Hid (wr.ownsRow w.heap.size 3 1 (.slice vo ll.length vc) ll.length (qv ll)) := by
          have := HROW.out
          rw [← hlle] at this; exact this
        clear hlle HROW
        by_cases hl4 : ll.length < 4
        · have d1 : (ll.length : Int) < 4 := by omega
          have hne : s ≠ s0 := fun e => by
            have h1 := HS.out.four
            rw [← e, ← HLL.out] at h1
            omega
          go_wp2
          go_roundw
          case rel => exact ⟨s + 1, by omega, by go_num, hBv⟩
          case measure => simp [numOf]; omega
        · have d1 : ¬ (ll.length : Int) < 4 := by omega
          generalize wr = Wl at HRW hBv ⊢
          have HCL : Hid (∀ W, Below Wl.heap.size Wl W → ∀ (k u : Nat), ll[k]? = some u → ∃ g, vo = some ⟨g, 0, none⟩ ∧ W.cell? ⟨g, k, none⟩ = some (.int .i64 (u : Int))) := fun W hW k u hu => by
            obtain ⟨g, e, hc⟩ := qcell HRW.out hu
            exact ⟨g, e, by rw [hW.cell (World.block_lt_of_cell? _ _ hc)]; exact hc⟩
          clear HRW
          go_upto_region 13 with (first | (at_make; refine wpList_make_full _ rfl _ _ 39 rfl Wl.heap.size 4 i0 (.bool false) 1 Tryz.underlying39 hi hz0 hz1 .i64 .i64 _ _ v rfl rfl rfl rfl ?_ ?_ ?_ ?_; (rw [hz2]; omega); (unfold maxLen; omega); (omega); intro W1 hmade hg1) | go_in)
          have hrow0 := rowV_made rfl hmade
          have hB1 : Below Wl.heap.size Wl W1 := (Below.refl _ _).grown hg1 (Nat.le_refl _) (fun k hk => by cases hk)
          clear hmade hg1
          obtain ⟨bS, hbS⟩ : ∃ b, b = Wl.heap.size := ⟨_, rfl⟩
          have HBS : Hid (Wl.heap.size ≤ bS) := by show Wl.heap.size ≤ bS; omega
          rw [← hbS] at hrow0 ⊢
          clear hbS
          go_loopw [7] (fun s7 wz => ∃ k : Nat, k ≤ v ∧ s7 = .int .i64 (k : Int) ∧ RowV wz bS 4 v (fun j => .bool (decide (j < k) && !s.testBit j)) ∧ Below Wl.heap.size Wl wz) (fun s7 _ => v - (numOf s7).toNat)
          case atStart => exact ⟨0, Nat.zero_le _, rfl, hrow0.congr (fun j _ => by simp), hB1⟩
          case round =>
            obtain ⟨k, hk, rfl, hR, hB⟩ := hrel
            clear hrow0 hB1
            by_cases hkN : k < v
            · have k1 : (0 : Int) ≤ (k : Int) := by omega
              have k2 : (k : Int) < (v : Int) := by omega
              have hcell := hR.cell hkN
              have hfr := hR.free k
              have m1 : min k 64 = k := by omega
              have hbit := bit_atz s k
              have HR : Hid (RowV wr bS 4 v (fun j => .bool (decide (j < k) && !s.testBit j))) := hR
              have FIN : Hid (∀ b : Bool, b = !s.testBit k → RowV (wr.setCell ⟨bS, k, none⟩ (.bool b)) bS 4 v (fun j => .bool (decide (j < k + 1) && !s.testBit j)) ∧ Below Wl.heap.size Wl (wr.setCell ⟨bS, k, none⟩ (.bool b))) := fun b hv => by
                refine ⟨(HR.out.set k (.bool b)).congr (fun j hj => ?_), hB.setCell HBS.out _⟩
                by_cases e : j = k
                · rw [if_pos e, e, hv]; simp
                · rw [if_neg e]
                  have : decide (j < k + 1) = decide (j < k) := by rw [decide_eq_decide]; omega
                  rw [this]
              clear hR
              cases hb : s.testBit k with
              | true =>
                rw [hb, if_pos rfl] at hbit
                rw [hb] at FIN
                clear hb HR
                go_wp2
                go_roundw
                case rel => exact ⟨k + 1, by omega, by go_num, (FIN.out false rfl).1, (FIN.out false rfl).2⟩
                case measure => simp [numOf]; omega
              | false =>
                rw [hb, if_neg (by simp)] at hbit
                rw [hb] at FIN
                clear hb HR
                go_wp2
                go_roundw
                case rel => exact ⟨k + 1, by omega, by go_num, (FIN.out true rfl).1, (FIN.out true rfl).2⟩
                case measure => simp [numOf]; omega
            · have k2 : ¬ (k : Int) < (v : Int) := by omega
              have hR' : RowV wr bS 4 v (fun j => .bool (!s.testBit j)) := hR.congr (fun j hj => by
                have : decide (j < k) = true := by simp; omega
                rw [this]; rfl)
              have HSH : Hid (ShutAt wr (.slice (some ⟨bS, 0, none⟩) v v) v (fun j => !s.testBit j)) := ⟨_, _, _, rfl, by omega, fun j hj => Or.inl ⟨hj, bS, rfl, hR'.cell hj⟩⟩
              clear hR hR'
              go_upto_region 18 with (fail)
              generalize wr = W3 at HSH hB ⊢
              have hB3 := Below.refl W3.heap.size W3
              go_loopw [8, 9] (fun s8 s9 wz => ∃ i : Nat, i ≤ ll.length ∧ OkAt (s = s0) s8 ∧ s9 = .int .i64 (i : Int) ∧ Below W3.heap.size W3 wz) (fun _ s9 _ => ll.length - (numOf s9).toNat)
              case atStart => exact ⟨0, Nat.zero_le _, ⟨true, rfl, fun _ => rfl⟩, rfl, hB3⟩
              case round =>
                obtain ⟨i, hi9, ⟨ok, rfl, hok⟩, rfl, hBi⟩ := hrel
                have HOK : Hid (s = s0 → ok = true) := hok
                clear hok hB3
                have FIN : Hid (∀ W, Below W3.heap.size W3 W → ok = true → True) := fun _ _ _ => trivial
                clear FIN
                cases ok with
                | false =>
                  have hne : s ≠ s0 := fun e => by have := HOK.out e; cases this
                  by_cases hil : i < ll.length
                  · have a3 : (i : Int) < (ll.length : Int) := by omega
                    go_wp2
                    go_roundw
                    case rel => exact ⟨s + 1, by omega, by go_num, below_next hBv (below_next hB hBi)⟩
                    case measure => simp [numOf]; omega
                  · have a3 : ¬ (i : Int) < (ll.length : Int) := by omega
                    go_wp2
                    go_roundw
                    case rel => exact ⟨s + 1, by omega, by go_num, below_next hBv (below_next hB hBi)⟩
                    case measure => simp [numOf]; omega
                | true =>
                  by_cases hil : i < ll.length
                  · have a3 : (i : Int) < (ll.length : Int) := by omega
                    have a4 : (0 : Int) ≤ (i : Int) := by omega
                    obtain ⟨x, hx⟩ : ∃ x, ll[i]? = some x := ⟨_, List.getElem?_eq_getElem hil⟩
                    have hxN : x < v := by
                      have := List.mem_of_getElem? hx
                      rw [HLL.out] at this
                      exact (lsT_mem.1 this).1
                    have HX : Hid (ll[i]? = some x) := hx
                    clear hx
                    go_upto_region 22 with (fail)
                    go_loopw [10, 11] (fun s10 s11 wz => ∃ j : Nat, j ≤ ll.length ∧ s10 = .int .i64 (((ll.take j).filter (pn p x)).length : Int) ∧ s11 = .int .i64 (j : Int) ∧ Below W3.heap.size W3 wz) (fun _ s11 _ => ll.length - (numOf s11).toNat)
                    case atStart => exact ⟨0, Nat.zero_le _, rfl, rfl, hBi⟩
                    case round =>
                      obtain ⟨j, hj, rfl, rfl, hBj⟩ := hrel
                      clear hBi
                      by_cases hjl : j < ll.length
                      · have b2 : (j : Int) < (ll.length : Int) := by omega
                        have b1 : (0 : Int) ≤ (j : Int) := by omega
                        obtain ⟨y, hy⟩ : ∃ y, ll[j]? = some y := ⟨_, List.getElem?_eq_getElem hjl⟩
                        have hyN : y < v := by
                          have := List.mem_of_getElem? hy
                          rw [HLL.out] at this
                          exact (lsT_mem.1 this).1
                        obtain ⟨gl, rfl, cx⟩ := HCL.out wr (below_next hB hBj) i x HX.out
                        obtain ⟨gl', e', cy⟩ := HCL.out wr (below_next hB hBj) j y hy
                        cases e'
                        obtain ⟨ao', cap', e0, hgrid⟩ := HG.out.below (below_next hBv (below_next hB hBj))
                        cases e0
                        obtain ⟨g, bg, rfl, g0, g1⟩ := hgrid x hxN
                        have gv := g1 y hyN
                        have x1 : (0 : Int) ≤ (x : Int) := by omega
                        have x2 : (x : Int) < (v : Int) := by omega
                        have y1 : (0 : Int) ≤ (y : Int) := by omega
                        have y2 : (y : Int) < (v : Int) := by omega
                        have NX : Hid ((ll.take (j + 1)).filter (pn p x) = (ll.take j).filter (pn p x) ++ if pn p x y = true then [y] else []) := by
                          show _ = _
                          rw [List.take_add_one, hy, List.filter_append]
                          cases h : pn p x y <;> simp [h]
                        have hfl : ((ll.take j).filter (pn p x)).length ≤ 12 := Nat.le_trans (List.length_filter_le _ _) (by rw [List.length_take]; omega)
                        clear hgrid g1 hy
                        obtain ⟨fl, hfle⟩ : ∃ fl, fl = (ll.take j).filter (pn p x) := ⟨_, rfl⟩
                        rw [← hfle] at NX hfl ⊢
                        clear hfle
                        cases hp : p x y with
                        | true =>
                          rw [hp] at gv
                          have NX' : Hid ((((ll.take (j + 1)).filter (pn p x)).length : Int) = (fl.length : Int) + 1) := by
                            show _ = _
                            rw [NX.out, if_pos (show pn p x y = true from hp)]; simp
                          clear hp NX
                          go_upto_region 24 with (fail)
                          go_quiet (fail)
                          go_wp2
                          go_roundw
                          case rel => exact ⟨j + 1, by omega, by rw [NX'.out], by go_num, below_drewN hBj _⟩
                          case measure => simp [numOf]; omega
                        | false =>
                          rw [hp] at gv
                          have NX' : Hid ((((ll.take (j + 1)).filter (pn p x)).length : Int) = (fl.length : Int)) := by
                            show _ = _
                            rw [NX.out, if_neg (show ¬ pn p x y = true by unfold pn; simp [hp])]; simp
                          clear hp NX
                          go_upto_region 24 with (fail)
                          go_quiet (fail)
                          go_wp2
                          go_roundw
                          case rel => exact ⟨j + 1, by omega, by rw [NX'.out], by go_num, below_drewN hBj _⟩
                          case measure => simp [numOf]; omega
                      · have b2 : ¬ (j : Int) < (ll.length : Int) := by omega
                        have hj' : j = ll.length := by omega
                        subst hj'
                        rw [List.take_length]
                        have HTW : Hid (s = s0 → (ll.filter (pn p x)).length = 2) := fun e => by
                          have := HS.out.two x (by rw [← e, ← HLL.out]; exact List.mem_of_getElem? HX.out)
                          rw [← e, ← HLL.out] at this
                          exact this
                        obtain ⟨fl, hfle⟩ : ∃ fl, fl = ll.filter (pn p x) := ⟨_, rfl⟩
                        rw [← hfle] at HTW ⊢
                        clear hfle
                        go_wp2
                        go_roundw
                        case rel => exact ⟨i + 1, by omega, ⟨_, rfl, fun e => by rw [HTW.out e]; rfl⟩, by go_num, hBj⟩
                        case measure => simp [numOf]; omega
                  · have a3 : ¬ (i : Int) < (ll.length : Int) := by omega
                    obtain ⟨R, hR⟩ := ex2 (fun a b => Star (St v (pn p) (openB (fun j => !s.testBit j))) a b)
                    have HPA : Hid (s = s0 → partsN v (openB (fun j => !s.testBit j)) R = 1) := fun e => by
                      subst e; exact HS.out.one R hR
                    have H29 : Hid (Calls Tryz.prog 29 #[.slice gao v gcap, .slice (some ⟨bS, 0, none⟩) v v] wr fun r w' => r = .returned (.int .i64 (partsN v (openB (fun j => !s.testBit j)) R : Int)) ∧ Below wr.heap.size wr w') := parts_call v gao gcap p wr (HG.out.below (below_next hBv (below_next hB hBi))) (by omega) (HSH.out.below hBi) R hR
                    clear hR
                    obtain ⟨q, hq⟩ : ∃ q, q = partsN v (openB (fun j => !s.testBit j)) R := ⟨_, rfl⟩
                    rw [← hq] at HPA H29
                    clear hq
                    by_cases hq1 : q = 1
                    · subst hq1
                      go_wp2_with (first | (go_at_call 29; refine Calls.mono H29.out ?_; rintro e' w9 ⟨rfl, hb9⟩) | go_in)
                      go_ret
                      exact ⟨rfl, below_next hBv (below_next hB (below_next hBi hb9))⟩
                    · have d2 : ((q : Int) == 1) = false := by rw [beq_eq_false_iff_ne]; omega
                      have hne : s ≠ s0 := fun e => hq1 (HPA.out e)
                      go_wp2_with (first | (go_at_call 29; refine Calls.mono H29.out ?_; rintro e' w9 ⟨rfl, hb9⟩) | go_in)
                      go_roundw
                      case rel => exact ⟨s + 1, by omega, by go_num, below_next hBv (below_next hB (below_next hBi hb9))⟩
                      case measure => simp [numOf]; omega
end Go.Proofs.YtkkfjfphmlcieaaGreat
