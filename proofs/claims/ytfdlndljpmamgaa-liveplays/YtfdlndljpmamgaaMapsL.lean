/- A house's maps: names to numbers, and the set of edges. -/
import Derived.Test.YtfdlndljpmamgaaHoldM
import Derived.Test.YtfdlndljpmamgaaNameW
namespace Go.Proofs.Ytfdlndljpmamgaa
set_option maxRecDepth 8000
open Go.RowKit Go.Maps Go.WideElems Go.ChangeMaps
attribute [local go_sem ↓] Go.wp_at_zero Go.wp_at_succ
abbrev Nm := ByteArray → Option Nat
def ks (s : ByteArray) : Lit := .string s.data.toList
theorem ks_inj {s t : ByteArray} (h : ks s = ks t) : s = t := by
  unfold ks at h
  injection h with h
  exact ByteArray.ext (Array.toList_inj.1 h)
theorem key_ks {s : ByteArray} (h : s.size ≤ maxLen) : keyOf Try.prog 9 (.string s) = some (ks s) := Go.WideMaps.keyOf_string_mk Try.underlying9 h
theorem Try.keyed9 : Keyed Try.prog 9 := string_keyed Try.underlying9
theorem Try.zero3 (w : World) : (zeroValue 3).run Try.prog w = .ok (.int .i64 0) w := by kernel_rfl
theorem natI {u : Nat} (h : u < 1000000000) : I64 (u : Int) := ⟨by omega, by omega⟩
def NumF' (D : DataW Unit) (F : Nm) : Prop := ∀ s : ByteArray, s.size ≤ maxLen → Maps.has D (ks s) = (F s).isSome ∧ D.atKey (ks s) (.lit (.int .i64 0)) = .lit (.int .i64 (((F s).getD 0 : Nat) : Int))
/-- The map of names to numbers. -/
def NumM (w : World) (b n : Nat) (F : Nm) : Prop := ∃ D : DataW Unit, w.ownsMap Try.prog 9 (plainElem Try.prog 3) b n D ∧ NumF' D F
theorem NumM.block {w w' : World} {b n : Nat} {F : Nm} (h : NumM w b n F) (hb : w'.heap[b]? = w.heap[b]?) : NumM w' b n F := by
  obtain ⟨D, ⟨es, clock, h1, h2⟩, h3⟩ := h
  exact ⟨D, ⟨es, clock, by rw [hb]; exact h1, h2⟩, h3⟩
theorem NumM.lt {w : World} {b n : Nat} {F : Nm} (h : NumM w b n F) : b < w.heap.size := by
  obtain ⟨D, h1, _⟩ := h; exact h1.lt
theorem NumM.obj {w : World} {b n : Nat} {F : Nm} (h : NumM w b n F) : ∃ es c, w.heap[b]? = some (.map es c) := by
  obtain ⟨D, ⟨es, clock, h1, h2⟩, h3⟩ := h
  exact ⟨es, clock, h1⟩
theorem NumM.congr {w : World} {b n : Nat} {F G : Nm} (h : NumM w b n F) (e : ∀ s, F s = G s) : NumM w b n G := by
  have : F = G := funext e
  rw [← this]; exact h
theorem numM_made (w : World) : NumM (w.alloc (.map #[] 0)) w.heap.size 0 (fun _ => none) := ⟨.map [], World.ownsMap_made _ _ _ _, fun _ _ => ⟨rfl, rfl⟩⟩
theorem NumM.get {w : World} {b n : Nat} {F : Nm} (h : NumM w b n F) {s : ByteArray} (hs : s.size ≤ maxLen) :
    (Instr.lookup 61 (.map (some b)) (.string s) true).run Try.prog w = .ok (.tuple #[.int .i64 (((F s).getD 0 : Nat) : Int), .bool (F s).isSome]) w := by
  obtain ⟨D, h1, h2⟩ := h
  obtain ⟨x, ps, hrun, hx⟩ := h1.look_ok Try.keyed9 Try.underlying61 (Try.zero3 w) (plainElem_int Try.underlying3 (a := 0) (by decide)) (key_ks hs)
  obtain ⟨c, rfl, hc, _⟩ := plainElem_int_inv Try.underlying3 hx
  simp only [Prod.mk.injEq] at hc
  have h3 := h2 s hs
  rw [hc.1] at h3
  rw [h3.1] at hrun
  have h4 := h3.2
  simp at h4
  rw [h4] at hrun
  exact hrun
def updN (F : Nm) (k : ByteArray) (c : Option Nat) : Nm := fun t => if t = k then c else F t
theorem NumM.store {w : World} {b n : Nat} {F : Nm} (h : NumM w b n F) {s : ByteArray} (hs : s.size ≤ maxLen) {c : Nat} (hc : c < 1000000000) (hn : n < 1000000000) :
    ∃ w', (Instr.mapUpdate 61 (.map (some b)) (.string s) (.int .i64 (c : Int))).run Try.prog w = .ok () w' ∧ NumM w' b (n + 1) (updN F s (some c)) ∧ w.mapTurned w' b := by
  obtain ⟨D, h1, h2⟩ := h
  obtain ⟨w', hrun, hown, hturn⟩ := h1.store Try.keyed9 Try.underlying61 (by unfold maxLen; omega) (key_ks hs) (plainElem_int Try.underlying3 (a := (c : Int)) (natI (u := c) hc).wf)
  refine ⟨w', hrun, ⟨_, hown, fun t ht => ?_⟩, hturn⟩
  unfold updN
  by_cases e : t = s
  · subst e
    rw [if_pos rfl, has_put_same h1.isMap (Try.keyed9.key (key_ks hs)), atKey_put_same h1.isMap (Try.keyed9.key (key_ks hs))]
    exact ⟨rfl, rfl⟩
  · rw [if_neg e, has_put_other (fun hk' => e (ks_inj hk')), atKey_put_other (fun hk' => e (ks_inj hk'))]
    exact h2 t ht
theorem NumM.drop {w : World} {b n : Nat} {F : Nm} (h : NumM w b n F) {s : ByteArray} (hs : s.size ≤ maxLen) (ty : TypeId) :
    ∃ w', (Builtin.delete_ #[61, 9] ty #[.map (some b), .string s]).run Try.prog w = .ok (.tuple #[]) w' ∧ NumM w' b n (updN F s none) ∧ w.mapTurned w' b := by
  obtain ⟨D, h1, h2⟩ := h
  obtain ⟨w', hrun, hown, hturn⟩ := h1.drop Try.keyed9 Try.underlying61 (key_ks hs) ty
  refine ⟨w', hrun, ⟨_, hown, fun t ht => ?_⟩, hturn⟩
  unfold updN
  by_cases e : t = s
  · subst e
    rw [if_pos rfl, has_del_same, atKey_del_same]
    exact ⟨rfl, rfl⟩
  · rw [if_neg e, has_del_other (fun hk' => e (ks_inj hk')), atKey_del_other (fun hk' => e (ks_inj hk'))]
    exact h2 t ht
abbrev Ed := Nat → Nat → Bool
/-- What the set of edges reads as. -/
def inE (E : Ed) (l : Lit) : Prop := ∃ u v : Nat, u < 1000 ∧ v < 1000 ∧ E u v = true ∧ l = kl (u : Int) (v : Int)
def EdM (w : World) (b n : Nat) (E : Ed) : Prop := MapP w b n (inE E)
theorem kl_inj {u v u' v' : Nat} (hu : u < 1000) (hv : v < 1000) (hu' : u' < 1000) (hv' : v' < 1000) (h : kl (u : Int) (v : Int) = kl (u' : Int) (v' : Int)) : u = u' ∧ v = v' := by
  have := key_inj (natI (u := u) (by omega)) (natI (u := v) (by omega)) (natI (u := u') (by omega)) (natI (u := v') (by omega)) h
  omega
theorem inE_iff {E : Ed} {u v : Nat} (hu : u < 1000) (hv : v < 1000) : inE E (kl (u : Int) (v : Int)) ↔ E u v = true := by
  constructor
  · rintro ⟨a, b, ha, hb, h1, h2⟩
    obtain ⟨rfl, rfl⟩ := kl_inj hu hv ha hb h2
    exact h1
  · exact fun h => ⟨u, v, hu, hv, h, rfl⟩
def updE (E : Ed) (u v : Nat) (x : Bool) : Ed := fun a b => if a = u ∧ b = v then x else E a b
theorem EdM.block {w w' : World} {b n : Nat} {E : Ed} (h : EdM w b n E) (hb : w'.heap[b]? = w.heap[b]?) : EdM w' b n E := MapP.block h hb
theorem EdM.lt {w : World} {b n : Nat} {E : Ed} (h : EdM w b n E) : b < w.heap.size := MapP.lt h
theorem EdM.obj {w : World} {b n : Nat} {E : Ed} (h : EdM w b n E) : ∃ es c, w.heap[b]? = some (.map es c) := by
  obtain ⟨D, ⟨es, clock, h1, h2⟩, h3⟩ := h
  exact ⟨es, clock, h1⟩
theorem EdM.congr {w : World} {b n : Nat} {E G : Ed} (h : EdM w b n E) (e : ∀ u v, E u v = G u v) : EdM w b n G := by
  have : E = G := by funext u v; exact e u v
  rw [← this]; exact h
theorem edM_made (w : World) : EdM (w.alloc (.map #[] 0)) w.heap.size 0 (fun _ _ => false) := (mapP_made w).congr fun l => ⟨fun h => h.elim, fun ⟨_, _, _, _, h, _⟩ => by cases h⟩
theorem EdM.mono {w : World} {b n n' : Nat} {E : Ed} (h : EdM w b n E) (hn : n ≤ n') : EdM w b n' E := by
  obtain ⟨D, h1, h2⟩ := h
  exact ⟨D, h1.mono hn, h2⟩
theorem NumM.mono {w : World} {b n n' : Nat} {F : Nm} (h : NumM w b n F) (hn : n ≤ n') : NumM w b n' F := by
  obtain ⟨D, h1, h2⟩ := h
  exact ⟨D, h1.mono hn, h2⟩
theorem EdM.get {w : World} {b n : Nat} {E : Ed} (h : EdM w b n E) {u v : Nat} (hu : u < 1000) (hv : v < 1000) :
    (Instr.lookup 62 (.map (some b)) (.agg #[.int .i64 (u : Int), .int .i64 (v : Int)]) true).run Try.prog w = .ok (.tuple #[.agg #[], .bool (E u v)]) w := by
  obtain ⟨D, h1, h2⟩ := h
  obtain ⟨x, ps, hrun, hx⟩ := h1.look_ok Try.law59 Try.underlying62 (Try.zero64 w) unitElem_mk (key_mk (natI (u := u) (by omega)) (natI (u := v) (by omega)))
  obtain ⟨rfl, _⟩ := unitElem_inv hx
  have e : Maps.has D (kl (u : Int) (v : Int)) = E u v := by
    rw [Bool.eq_iff_iff, h2, inE_iff hu hv]
  rw [e] at hrun
  exact hrun
theorem EdM.store {w : World} {b n : Nat} {E : Ed} (h : EdM w b n E) {u v : Nat} (hu : u < 1000) (hv : v < 1000) (hn : n < 1000000000) :
    ∃ w', (Instr.mapUpdate 62 (.map (some b)) (.agg #[.int .i64 (u : Int), .int .i64 (v : Int)]) (.agg #[])).run Try.prog w = .ok () w' ∧ EdM w' b (n + 1) (updE E u v true) ∧ w.mapTurned w' b := by
  obtain ⟨w', hrun, h2, ht⟩ := MapP.store h (natI (u := u) (by omega)) (natI (u := v) (by omega)) hn
  refine ⟨w', hrun, h2.congr fun l => ?_, ht⟩
  constructor
  · rintro (⟨a, c, ha, hc, h3, rfl⟩ | rfl)
    · exact ⟨a, c, ha, hc, by unfold updE; split <;> simp [h3], rfl⟩
    · exact ⟨u, v, hu, hv, by simp [updE], rfl⟩
  · rintro ⟨a, c, ha, hc, h3, rfl⟩
    by_cases e : a = u ∧ c = v
    · obtain ⟨rfl, rfl⟩ := e; exact Or.inr rfl
    · exact Or.inl ⟨a, c, ha, hc, by unfold updE at h3; rwa [if_neg e] at h3, rfl⟩
theorem EdM.drop {w : World} {b n : Nat} {E : Ed} (h : EdM w b n E) {u v : Nat} (hu : u < 1000) (hv : v < 1000) (ty : TypeId) :
    ∃ w', (Builtin.delete_ #[62, 59] ty #[.map (some b), .agg #[.int .i64 (u : Int), .int .i64 (v : Int)]]).run Try.prog w = .ok (.tuple #[]) w' ∧ EdM w' b n (updE E u v false) ∧ w.mapTurned w' b := by
  obtain ⟨D, h1, h2⟩ := h
  obtain ⟨w', hrun, hown, hturn⟩ := h1.drop Try.law59 Try.underlying62 (key_mk (natI (u := u) (by omega)) (natI (u := v) (by omega))) ty
  refine ⟨w', hrun, ⟨_, hown, fun l => ?_⟩, hturn⟩
  by_cases e : l = kl (u : Int) (v : Int)
  · subst e
    rw [has_del_same, inE_iff hu hv]
    simp [updE]
  · rw [has_del_other e, h2 l]
    constructor
    · rintro ⟨a, c, ha, hc, h3, rfl⟩
      refine ⟨a, c, ha, hc, ?_, rfl⟩
      unfold updE
      rw [if_neg (fun h => e (by rw [h.1, h.2]))]
      exact h3
    · rintro ⟨a, c, ha, hc, h3, rfl⟩
      refine ⟨a, c, ha, hc, ?_, rfl⟩
      unfold updE at h3
      rwa [if_neg (fun h => e (by rw [h.1, h.2]))] at h3
theorem EdM.size {w : World} {b n : Nat} {E : Ed} (h : EdM w b n E) (ty : TypeId) : ∃ m : Nat, m ≤ n ∧ (Builtin.len_ #[62] ty #[.map (some b)]).run Try.prog w = .ok (.int .i64 (m : Int)) w := by
  obtain ⟨D, h1, h2⟩ := h
  exact ⟨Maps.size D, h1.size_le, h1.len Try.underlying62 ty⟩
end Go.Proofs.Ytfdlndljpmamgaa
