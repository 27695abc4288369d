/- Sets of numbers, kept in maps: what they hold; the methods of set. -/
import Derived.Test.YtmeodnkmhakidaaBase
import Derived.Test.YtmeodnkmhakidaaKitC
import Derived.Test.YtmeodnkmhakidaaWays
import Derived.Test.YtmeodnkmhakidaaBlocks
import Derived.Maps.RangeWalk
import Derived.Lib.SlKeysI
namespace Go.Proofs.Ytmeodnkmhakidaa
open Go.RowKit Go.Maps

theorem Try.lawI : Keyed Try.prog 3 := int_keyed Try.underlying3
theorem hkeyI {u : Int} (hu : I64 u) : keyOf Try.prog 3 (.int .i64 u) = some (.int .i64 u) := keyOf_int_mk Try.underlying3 hu.wf
theorem isKeyI (u : Int) : WideAt.IsKeyLit (Lit.int .i64 u) := trivial

/-- Block b is a map whose keys are just the numbers below N that S tells. -/
def SetN (w : World) (b N : Nat) (S : Nat → Bool) : Prop :=
  ∃ D : DataW Unit, w.ownsMap Try.prog 3 unitElem b N D ∧ ∀ u : Int, I64 u → Maps.has D (.int .i64 u) = (decide (0 ≤ u ∧ u < N) && S u.toNat)

theorem SetN.block {w w' : World} {b N : Nat} {S : Nat → Bool} (h : SetN w b N S) (hb : w'.heap[b]? = w.heap[b]?) : SetN w' b N S := by
  obtain ⟨D, ⟨es, clock, h1, h2⟩, h3⟩ := h
  exact ⟨D, ⟨es, clock, by rw [hb]; exact h1, h2⟩, h3⟩
theorem SetN.lt {w : World} {b N : Nat} {S : Nat → Bool} (h : SetN w b N S) : b < w.heap.size := by
  obtain ⟨D, h1, _⟩ := h; exact h1.lt
theorem SetN.isMap {w : World} {b N : Nat} {S : Nat → Bool} (h : SetN w b N S) : ∃ es c, w.heap[b]? = some (.map es c) := by
  obtain ⟨D, ⟨es, clock, h1, _⟩, _⟩ := h; exact ⟨es, clock, h1⟩
theorem SetN.turns {w w' : World} {b N : Nat} {S : Nat → Bool} {M : Nat → Prop} (h : SetN w b N S) (ht : Turns M w w') (hm : ¬ M b) : SetN w' b N S := h.block (ht.block b h.lt hm)
theorem SetN.below {w w' : World} {b N B : Nat} {S : Nat → Bool} (h : SetN w b N S) (hb : Below B w w') (hB : b < B) : SetN w' b N S := h.block (hb.block b hB)
theorem SetN.congr {w : World} {b N : Nat} {S T : Nat → Bool} (h : SetN w b N S) (he : ∀ k, k < N → S k = T k) : SetN w b N T := by
  obtain ⟨D, h1, h2⟩ := h
  refine ⟨D, h1, fun u hu => ?_⟩
  rw [h2 u hu]
  by_cases hb : 0 ≤ u ∧ u < N
  · rw [he u.toNat (by omega)]
  · simp [hb]

/-- A map whose keys are numbers below N has no more than N. -/
theorem tight {H : Type} {R : Value → Option (DataW H × List MemPlace)} {w : World} {b n N : Nat} {D : DataW H} (h : w.ownsMap Try.prog 3 R b n D) (hk : ∀ u : Int, I64 u → Maps.has D (.int .i64 u) = true → 0 ≤ u ∧ u < N) : w.ownsMap Try.prog 3 R b N D := by
  obtain ⟨es, hD, hpw, _⟩ := h.entries Try.lawI
  obtain ⟨es', hD', hko⟩ := h.keysOf
  obtain rfl : es = es' := by rw [hD] at hD'; simpa using hD'
  have hkey : ∀ p ∈ es, ∃ k : Nat, k < N ∧ p.1 = .int .i64 (k : Int) := by
    intro p hp
    obtain ⟨v, hv⟩ := hko p hp
    obtain ⟨x, _, hx, hw⟩ := Maps.keyOf_i64 Try.underlying3 hv
    have hb := wf_bounds hw
    have := hk x ⟨hb.1, hb.2⟩ (by rw [hD, has_eq, List.any_eq_true]; exact ⟨p, hp, by rw [hx]; simp [Lit.sameKey]⟩)
    exact ⟨x.toNat, by omega, by rw [hx, Int.toNat_of_nonneg this.1]⟩
  have hlen : es.length ≤ N := by
    have := nat_nodup_len (es.map fun p => (Go.intOf p.1).toNat) (List.range N) (by
      refine List.pairwise_map.2 (hpw.imp_of_mem fun {p q} hp' hq' hne e => hne ?_)
      obtain ⟨a, _, ha⟩ := hkey p hp'
      obtain ⟨b, _, hb⟩ := hkey q hq'
      rw [ha, hb] at e ⊢
      simp [Go.intOf] at e
      rw [e]) (fun x hx => by
      obtain ⟨p, hp, rfl⟩ := List.mem_map.1 hx
      obtain ⟨a, ha, e⟩ := hkey p hp
      rw [e]; simpa [Go.intOf] using ha)
    simpa using this
  obtain ⟨es0, clock, h1, h2, h3, h4⟩ := h
  refine ⟨es0, clock, h1, h2, ?_, h4⟩
  rw [hD] at h4
  have := congrArg List.length (show es = _ by simpa using h4)
  rw [length_sorted] at this
  simp at this
  omega

theorem setN_made (w : World) (N : Nat) : SetN (w.alloc (.map #[] 0)) w.heap.size N (fun _ => false) :=
  ⟨.map [], (World.ownsMap_made _ _ _ _).mono (Nat.zero_le _), fun _ _ => by simp [Maps.has]⟩

theorem natI {N u : Nat} (hN : N ≤ 1000000) (hu : u < N) : I64 (u : Int) := by constructor <;> omega

theorem SetN.look {w : World} {b N : Nat} {S : Nat → Bool} (h : SetN w b N S) {u : Nat} (hN : N ≤ 1000000) (hu : u < N) :
    (Instr.lookup 58 (.map (some b)) (.int .i64 (u : Int)) true).run Try.prog w = .ok (.tuple #[.agg #[], .bool (S u)]) w := by
  obtain ⟨D, h1, h2⟩ := h
  obtain ⟨x, ps, hrun, hx⟩ := h1.look_ok Try.lawI Try.underlying58 (Try.zero79 w) unitElem_mk (hkeyI (natI hN hu))
  obtain ⟨rfl, _⟩ := unitElem_inv hx
  rw [h2 u (natI hN hu)] at hrun
  simpa [hu] using hrun

theorem SetN.store {w : World} {b N : Nat} {S : Nat → Bool} (h : SetN w b N S) {u : Nat} (hN : N ≤ 1000000) (hu : u < N) :
    ∃ w', (Instr.mapUpdate 58 (.map (some b)) (.int .i64 (u : Int)) (.agg #[])).run Try.prog w = .ok () w' ∧ SetN w' b N (fun k => k == u || S k) ∧ w.mapTurned w' b := by
  obtain ⟨D, h1, h2⟩ := h
  obtain ⟨w', hrun, hown, hturn⟩ := h1.store Try.lawI Try.underlying58 (by unfold maxLen; omega) (hkeyI (natI hN hu)) unitElem_mk
  have hh : ∀ x : Int, I64 x → Maps.has (D.put (.int .i64 (u : Int)) (.agg [])) (.int .i64 x) = (decide (0 ≤ x ∧ x < N) && (x.toNat == u || S x.toNat)) := by
    intro x hx
    by_cases e : x = u
    · subst e
      rw [has_put_same h1.isMap (isKeyI _)]
      simp; omega
    · rw [has_put_other (by simpa using e), h2 x hx]
      by_cases hb : 0 ≤ x ∧ x < N
      · have : (x.toNat == u) = false := by simp; omega
        simp [this]
      · simp [hb]
  refine ⟨w', hrun, ⟨_, tight hown (fun x hx hk => ?_), hh⟩, hturn⟩
  rw [hh x hx] at hk
  simp at hk
  exact hk.1

theorem SetN.drop {w : World} {b N : Nat} {S : Nat → Bool} (h : SetN w b N S) {u : Nat} (hN : N ≤ 1000000) (hu : u < N) (ty : TypeId) :
    ∃ w', (Builtin.delete_ #[58, 3] ty #[.map (some b), .int .i64 (u : Int)]).run Try.prog w = .ok (.tuple #[]) w' ∧ SetN w' b N (fun k => S k && k != u) ∧ w.mapTurned w' b := by
  obtain ⟨D, h1, h2⟩ := h
  obtain ⟨w', hrun, hown, hturn⟩ := h1.drop Try.lawI Try.underlying58 (hkeyI (natI hN hu)) ty
  refine ⟨w', hrun, ⟨_, hown, fun x hx => ?_⟩, hturn⟩
  by_cases e : x = u
  · subst e
    rw [has_del_same]
    simp
  · rw [has_del_other (by simpa using e), h2 x hx]
    by_cases hb : 0 ≤ x ∧ x < N
    · have : (x.toNat != u) = true := by simp; omega
      simp [this]
    · simp [hb]

theorem turned_turns {w w' : World} {b : Nat} (h : w.mapTurned w' b) : Turns (fun k => k = b) w w' := (Turns.of_grown h.grown).mono (fun k _ e => by simpa using e)

set_option maxHeartbeats 400000 in
theorem has_call {w : World} {b N : Nat} {S : Nat → Bool} (h : SetN w b N S) {u : Nat} (hN : N ≤ 1000000) (hu : u < N) :
    Calls Try.prog 34 #[.map (some b), .int .i64 (u : Int)] w fun e w' => e = .returned (.bool (S u)) ∧ Below w.heap.size w w' := by
  have hl := h.look hN hu
  go_enter Try.func34, Try.ntmps34
  go_wp2
  go_ret
  exact ⟨rfl, (Below.refl _ _).alloc (Nat.le_refl _) _⟩

set_option maxHeartbeats 400000 in
theorem add_call {w : World} {b N : Nat} {S : Nat → Bool} (h : SetN w b N S) {u : Nat} (hN : N ≤ 1000000) (hu : u < N) :
    Calls Try.prog 39 #[.map (some b), .int .i64 (u : Int)] w fun e w' => e = .returned (.tuple #[]) ∧ SetN w' b N (fun k => k == u || S k) ∧ Turns (fun k => k = b) w w' := by
  obtain ⟨w1, hrun, hS, ht⟩ := h.store hN hu
  go_enter Try.func39, Try.ntmps39
  go_wp2
  go_end0
  exact ⟨rfl, hS, turned_turns ht⟩
end Go.Proofs.Ytmeodnkmhakidaa
