/- Sets of numbers, kept in maps: what they hold; the methods of set. Of each node the set of those near it: made empty, filled from edges. take: what can be reached is taken out, and told with how far it is. -/
import Derived.Test.YtnboonhlffkimaaGreatDoorBase
import Derived.Test.YtnboonhlffkimaaGreatDoorKitC
import Derived.Test.YtnboonhlffkimaaGreatDoorWaysM
import Derived.Maps.RangeWalk
import Derived.Lib.SlKeysI
import Derived.Test.YtnboonhlffkimaaGreatDoorGrid
import Derived.Maps.AppendAt
namespace Go.Proofs.YtnboonhlffkimaaGreatDoor
open Go.RowKit Go.Maps

theorem Tryz.lawI : Keyed Tryz.prog 3 := int_keyed Tryz.underlying3
theorem hkeyI {u : Int} (hu : I64 u) : keyOf Tryz.prog 3 (.int .i64 u) = some (.int .i64 u) := keyOf_int_mk Tryz.underlying3 hu.wf
theorem isKeyI (u : Int) : WideAt.IsKeyLit (Lit.int .i64 u) := trivial

/-- Block b is a map whose keys are just the numbers below N that S tells. -/
def SetN (w : World) (b N : Nat) (S : Nat → Bool) : Prop :=
  ∃ D : DataW Unit, w.ownsMap Tryz.prog 3 unitElem b N D ∧ ∀ u : Int, I64 u → Maps.has D (.int .i64 u) = (decide (0 ≤ u ∧ u < N) && S u.toNat)

theorem SetN.block {w w' : World} {b N : Nat} {S : Nat → Bool} (h : SetN w b N S) (hb : w'.heap[b]? = w.heap[b]?) : SetN w' b N S := by
  obtain ⟨D, ⟨es, clock, h1, h2⟩, h3⟩ := h
  exact ⟨D, ⟨es, clock, by rw [hb]; exact h1, h2⟩, h3⟩
theorem SetN.lt {w : World} {b N : Nat} {S : Nat → Bool} (h : SetN w b N S) : b < w.heap.size := by
  obtain ⟨D, h1, _⟩ := h; exact h1.lt
theorem SetN.isMap {w : World} {b N : Nat} {S : Nat → Bool} (h : SetN w b N S) : ∃ es c, w.heap[b]? = some (.map es c) := by
  obtain ⟨D, ⟨es, clock, h1, _⟩, _⟩ := h; exact ⟨es, clock, h1⟩
theorem SetN.turns {w w' : World} {b N : Nat} {S : Nat → Bool} {M : Nat → Prop} (h : SetN w b N S) (ht : Turns M w w') (hm : ¬ M b) : SetN w' b N S := h.block (ht.block b h.lt hm)
theorem SetN.below {w w' : World} {b N B : Nat} {S : Nat → Bool} (h : SetN w b N S) (hb : Below B w w') (hB : b < B) : SetN w' b N S := h.block (hb.block b hB)
theorem SetN.congr {w : World} {b N : Nat} {S T : Nat → Bool} (h : SetN w b N S) (he : ∀ k, k < N → S k = T k) : SetN w b N T := by
  obtain ⟨D, h1, h2⟩ := h
  refine ⟨D, h1, fun u hu => ?_⟩
  rw [h2 u hu]
  by_cases hb : 0 ≤ u ∧ u < N
  · rw [he u.toNat (by omega)]
  · simp [hb]

/-- A map whose keys are numbers below N has no more than N. -/
theorem tight {H : Type} {R : Value → Option (DataW H × List MemPlace)} {w : World} {b n N : Nat} {D : DataW H} (h : w.ownsMap Tryz.prog 3 R b n D) (hk : ∀ u : Int, I64 u → Maps.has D (.int .i64 u) = true → 0 ≤ u ∧ u < N) : w.ownsMap Tryz.prog 3 R b N D := by
  obtain ⟨es, hD, hpw, _⟩ := h.entries Tryz.lawI
  obtain ⟨es', hD', hko⟩ := h.keysOf
  obtain rfl : es = es' := by rw [hD] at hD'; simpa using hD'
  have hkey : ∀ p ∈ es, ∃ k : Nat, k < N ∧ p.1 = .int .i64 (k : Int) := by
    intro p hp
    obtain ⟨v, hv⟩ := hko p hp
    obtain ⟨x, _, hx, hw⟩ := Maps.keyOf_i64 Tryz.underlying3 hv
    have hb := wf_bounds hw
    have := hk x ⟨hb.1, hb.2⟩ (by rw [hD, has_eq, List.any_eq_true]; exact ⟨p, hp, by rw [hx]; simp [Lit.sameKey]⟩)
    exact ⟨x.toNat, by omega, by rw [hx, Int.toNat_of_nonneg this.1]⟩
  have hlen : es.length ≤ N := by
    have := nat_nodup_len (es.map fun p => (Go.intOf p.1).toNat) (List.range N) (by
      refine List.pairwise_map.2 (hpw.imp_of_mem fun {p q} hp' hq' hne e => hne ?_)
      obtain ⟨a, _, ha⟩ := hkey p hp'
      obtain ⟨b, _, hb⟩ := hkey q hq'
      rw [ha, hb] at e ⊢
      simp [Go.intOf] at e
      rw [e]) (fun x hx => by
      obtain ⟨p, hp, rfl⟩ := List.mem_map.1 hx
      obtain ⟨a, ha, e⟩ := hkey p hp
      rw [e]; simpa [Go.intOf] using ha)
    simpa using this
  obtain ⟨es0, clock, h1, h2, h3, h4⟩ := h
  refine ⟨es0, clock, h1, h2, ?_, h4⟩
  rw [hD] at h4
  have := congrArg List.length (show es = _ by simpa using h4)
  rw [length_sorted] at this
  simp at this
  omega

theorem setN_made (w : World) (N : Nat) : SetN (w.alloc (.map #[] 0)) w.heap.size N (fun _ => false) :=
  ⟨.map [], (World.ownsMap_made _ _ _ _).mono (Nat.zero_le _), fun _ _ => by simp [Maps.has]⟩

theorem natI {N u : Nat} (hN : N ≤ 1000000) (hu : u < N) : I64 (u : Int) := by constructor <;> omega

theorem SetN.look {w : World} {b N : Nat} {S : Nat → Bool} (h : SetN w b N S) {u : Nat} (hN : N ≤ 1000000) (hu : u < N) :
    (Instr.lookup 119 (.map (some b)) (.int .i64 (u : Int)) true).run Tryz.prog w = .ok (.tuple #[.agg #[], .bool (S u)]) w := by
  obtain ⟨D, h1, h2⟩ := h
  obtain ⟨x, ps, hrun, hx⟩ := h1.look_ok Tryz.lawI Tryz.underlying119 (Tryz.zero70 w) unitElem_mk (hkeyI (natI hN hu))
  obtain ⟨rfl, _⟩ := unitElem_inv hx
  rw [h2 u (natI hN hu)] at hrun
  simpa [hu] using hrun

theorem SetN.store {w : World} {b N : Nat} {S : Nat → Bool} (h : SetN w b N S) {u : Nat} (hN : N ≤ 1000000) (hu : u < N) :
    ∃ w', (Instr.mapUpdate 119 (.map (some b)) (.int .i64 (u : Int)) (.agg #[])).run Tryz.prog w = .ok () w' ∧ SetN w' b N (fun k => k == u || S k) ∧ w.mapTurned w' b := by
  obtain ⟨D, h1, h2⟩ := h
  obtain ⟨w', hrun, hown, hturn⟩ := h1.store Tryz.lawI Tryz.underlying119 (by unfold maxLen; omega) (hkeyI (natI hN hu)) unitElem_mk
  have hh : ∀ x : Int, I64 x → Maps.has (D.put (.int .i64 (u : Int)) (.agg [])) (.int .i64 x) = (decide (0 ≤ x ∧ x < N) && (x.toNat == u || S x.toNat)) := by
    intro x hx
    by_cases e : x = u
    · subst e
      rw [has_put_same h1.isMap (isKeyI _)]
      simp; omega
    · rw [has_put_other (by simpa using e), h2 x hx]
      by_cases hb : 0 ≤ x ∧ x < N
      · have : (x.toNat == u) = false := by simp; omega
        simp [this]
      · simp [hb]
  refine ⟨w', hrun, ⟨_, tight hown (fun x hx hk => ?_), hh⟩, hturn⟩
  rw [hh x hx] at hk
  simp at hk
  exact hk.1

theorem SetN.drop {w : World} {b N : Nat} {S : Nat → Bool} (h : SetN w b N S) {u : Nat} (hN : N ≤ 1000000) (hu : u < N) (ty : TypeId) :
    ∃ w', (Builtin.delete_ #[119, 3] ty #[.map (some b), .int .i64 (u : Int)]).run Tryz.prog w = .ok (.tuple #[]) w' ∧ SetN w' b N (fun k => S k && k != u) ∧ w.mapTurned w' b := by
  obtain ⟨D, h1, h2⟩ := h
  obtain ⟨w', hrun, hown, hturn⟩ := h1.drop Tryz.lawI Tryz.underlying119 (hkeyI (natI hN hu)) ty
  refine ⟨w', hrun, ⟨_, hown, fun x hx => ?_⟩, hturn⟩
  by_cases e : x = u
  · subst e
    rw [has_del_same]
    simp
  · rw [has_del_other (by simpa using e), h2 x hx]
    by_cases hb : 0 ≤ x ∧ x < N
    · have : (x.toNat != u) = true := by simp; omega
      simp [this]
    · simp [hb]

theorem turnedP_turns {w w' : World} {b : Nat} (h : w.mapTurned w' b) : Turns (fun k => k = b) w w' := (Turns.of_grown h.grown).mono (fun k _ e => by simpa using e)

set_option maxHeartbeats 400000 in
theorem hasP_call {w : World} {b N : Nat} {S : Nat → Bool} (h : SetN w b N S) {u : Nat} (hN : N ≤ 1000000) (hu : u < N) :
    Calls Tryz.prog 94 #[.map (some b), .int .i64 (u : Int)] w fun e w' => e = .returned (.bool (S u)) ∧ Below w.heap.size w w' := by
  have hl := h.look hN hu
  go_enter Tryz.func94, Tryz.ntmps94
  go_wp2
  go_ret
  exact ⟨rfl, (Below.refl _ _).alloc (Nat.le_refl _) _⟩

set_option maxHeartbeats 400000 in
theorem add_call {w : World} {b N : Nat} {S : Nat → Bool} (h : SetN w b N S) {u : Nat} (hN : N ≤ 1000000) (hu : u < N) :
    Calls Tryz.prog 99 #[.map (some b), .int .i64 (u : Int)] w fun e w' => e = .returned (.tuple #[]) ∧ SetN w' b N (fun k => k == u || S k) ∧ Turns (fun k => k = b) w w' := by
  obtain ⟨w1, hrun, hS, ht⟩ := h.store hN hu
  go_enter Tryz.func99, Tryz.ntmps99
  go_wp2
  go_end0
  exact ⟨rfl, hS, turnedP_turns ht⟩
end Go.Proofs.YtnboonhlffkimaaGreatDoor

namespace Go.Proofs.YtnboonhlffkimaaGreatDoor
open Go.RowKit Go.Maps
attribute [local go_sem ↓] Go.wp_at_zero Go.wp_at_succ

theorem Tryz.info119 : (Tryz.prog.info? 119).map (fun i => (i.zero, i.size, i.bytes)) = some (some (.map none), 1, 8) := by kernel_rfl

/-- The slice v of n sets, set i in block bl i, tells e. -/
structure NearsAt (w : World) (ao : Option Addr) (n : Nat) (bl : Nat → Nat) (e : Nat → Nat → Bool) : Prop where
  inj : ∀ i j, i < n → j < n → bl i = bl j → i = j
  row : ∀ i, i < n → ∃ g, ao = some ⟨g, 0, none⟩ ∧ w.cell? ⟨g, i, none⟩ = some (.map (some (bl i)))
  sets : ∀ i, i < n → SetN w (bl i) n (e i)

theorem not_map {w : World} {p : Addr} {x : Value} (h : w.cell? p = some x) {b N : Nat} {S : Nat → Bool} (hs : SetN w b N S) : p.block ≠ b := by
  intro e
  obtain ⟨es, c, hm⟩ := hs.isMap
  rw [← e] at hm
  simp [World.cell?, hm] at h
theorem NearsAt.turns {M : Nat → Prop} {w w' : World} {ao : Option Addr} {n : Nat} {bl : Nat → Nat} {e : Nat → Nat → Bool} (h : NearsAt w ao n bl e) (ht : Turns M w w') (hm : ∀ i, i < n → ¬ M (bl i)) (hg : ∀ g, ao = some ⟨g, 0, none⟩ → ¬ M g) : NearsAt w' ao n bl e := by
  refine ⟨h.inj, fun i hi => ?_, fun i hi => (h.sets i hi).turns ht (hm i hi)⟩
  obtain ⟨g, e1, c⟩ := h.row i hi
  exact ⟨g, e1, cell_turns c ht (hg g e1)⟩
theorem NearsAt.below {w w' : World} {ao : Option Addr} {n : Nat} {bl : Nat → Nat} {e : Nat → Nat → Bool} (h : NearsAt w ao n bl e) (ht : Below w.heap.size w w') : NearsAt w' ao n bl e :=
  h.turns (M := fun _ => False) (Turns.of_below ht _) (fun _ _ h => h) (fun _ _ h => h)
theorem NearsAt.congr {w : World} {ao : Option Addr} {n : Nat} {bl : Nat → Nat} {e f : Nat → Nat → Bool} (h : NearsAt w ao n bl e) (he : ∀ i j, i < n → j < n → e i j = f i j) : NearsAt w ao n bl f :=
  ⟨h.inj, h.row, fun i hi => (h.sets i hi).congr (fun k hk => he i k hi hk)⟩
theorem NearsAt.put {w w' : World} {ao : Option Addr} {n : Nat} {bl : Nat → Nat} {e : Nat → Nat → Bool} (h : NearsAt w ao n bl e) {a b : Nat} (ha : a < n) (hs : SetN w' (bl a) n (fun k => k == b || e a k)) (ht : Turns (fun k => k = bl a) w w') :
    NearsAt w' ao n bl (fun x y => (x == a && y == b) || e x y) := by
  refine ⟨h.inj, fun i hi => ?_, fun i hi => ?_⟩
  · obtain ⟨g, e1, c⟩ := h.row i hi
    exact ⟨g, e1, cell_turns c ht (not_map c (h.sets a ha))⟩
  · by_cases he : i = a
    · subst he; simpa using hs
    · have := (h.sets i hi).turns ht (fun e => he (h.inj i a hi ha e))
      exact this.congr (fun k _ => by simp [he])

def MarksP (n : Nat) (bl : Nat → Nat) : Nat → Prop := fun k => ∃ i, i < n ∧ k = bl i

set_option maxHeartbeats 400000 in
theorem all_call (n : Nat) (w : World) (hn : n ≤ 1000000) : Calls Tryz.prog 82 #[.int .i64 (n : Int)] w fun e w' => ∃ b, e = .returned (.map (some b)) ∧ w.heap.size ≤ b ∧ SetN w' b n (fun _ => true) ∧ Below w.heap.size w w' := by
  have hmm := @run_makeMap Tryz.prog
  go_enter Tryz.func82, Tryz.ntmps82
  go_wp2
  go_loopw [7] (fun i wr => ∃ k : Nat, k ≤ n ∧ i = .int .i64 (k : Int) ∧ SetN wr w.heap.size n (fun x => decide (x < k)) ∧ Below w.heap.size w wr) (fun i _ => n - (numOf i).toNat)
  case atStart => exact ⟨0, Nat.zero_le _, rfl, setN_made w n, (Below.refl _ _).alloc (Nat.le_refl _) _⟩
  case round =>
    obtain ⟨k, hk, rfl, hS, hB⟩ := hrel
    by_cases hlt : k < n
    · go_wp2_with (go_at_call 99; refine (add_call hS hn hlt).mono ?_; rintro e w1 ⟨rfl, hS1, ht1⟩)
      go_roundw
      case rel => exact ⟨k + 1, by omega, by go_num, hS1.congr (fun x _ => by rw [Bool.eq_iff_iff]; simp; omega), ht1.below hB hB.size (fun k e => by omega)⟩
      case measure => simp [numOf]; omega
    · go_wp2
      go_ret
      exact ⟨_, rfl, Nat.le_refl _, hS.congr (fun x hx => by simp; omega), hB⟩

set_option maxHeartbeats 400000 in
theorem empties_call (n : Nat) (w : World) (hn : n ≤ 1000000) : Calls Tryz.prog 97 #[.int .i64 (n : Int)] w fun e w' => ∃ ao, e = .returned (.slice ao n n) ∧ (∀ g, ao = some g → w.heap.size ≤ g.block) ∧ ∃ bl, NearsAt w' ao n bl (fun _ _ => false) ∧ (∀ i, i < n → w.heap.size ≤ bl i) ∧ Below w.heap.size w w' := by
  have hmm := @run_makeMap Tryz.prog
  obtain ⟨i0, hi, hz0, hz1, hz2⟩ := info_parts Tryz.info119
  go_enter Tryz.func97, Tryz.ntmps97
  go_wp2_with (at_make; refine wpList_make_full _ rfl _ _ 116 rfl w.heap.size 119 i0 (.map none) 1 Tryz.underlying116 hi hz0 hz1 .i64 .i64 _ _ n rfl rfl rfl rfl ?_ ?_ ?_ ?_; (rw [hz2]; omega); (unfold maxLen; omega); (omega); intro w1 hmade hg1)
  have hrow := rowV_made rfl hmade
  have hB1 : Below w.heap.size w w1 := (Below.refl _ _).grown hg1 (Nat.le_refl _) (fun k hk => by cases hk)
  clear hmade hg1
  go_loopw [9] (fun i wr => ∃ (k : Nat) (bl : Nat → Nat), k ≤ n ∧ i = .int .i64 (k : Int) ∧ RowV wr w.heap.size 119 n (fun j => if j < k then .map (some (bl j)) else .map none) ∧ (∀ i j, i < k → j < k → bl i = bl j → i = j) ∧ (∀ i, i < k → SetN wr (bl i) n (fun _ => false) ∧ w.heap.size < bl i) ∧ Below w.heap.size w wr) (fun i _ => n - (numOf i).toNat)
  case atStart => exact ⟨0, fun _ => 0, Nat.zero_le _, rfl, hrow.congr (fun j _ => by simp), fun i j h => absurd h (by omega), fun i h => absurd h (by omega), hB1⟩
  case round =>
    obtain ⟨k, bl, hk, rfl, hR, hinj, hsets, hB⟩ := hrel
    clear hrow hB1
    by_cases hlt : k < n
    · have c1 := all_alloc (hR.cell hlt)
      have f1 := all_free (a := ⟨w.heap.size, k, none⟩) hR.lt (hR.free k)
      have i1 : (0 : Int) ≤ (k : Int) := by omega
      have i2 : (k : Int) < (n : Int) := by omega
      go_wp2
      go_roundw
      case rel =>
        have hlR := hR.lt
        have hR2 := (hR.turns (alloc_turns wr (.map #[] 0) (fun _ => False)) (fun h => h)).set k (.map (some wr.heap.size))
        have ht : Turns (fun j => j = w.heap.size) wr ((wr.alloc (.map #[] 0)).setCell ⟨w.heap.size, k, none⟩ (.map (some wr.heap.size))) := (alloc_turns _ _ _).trans (setCell_turns _ _ _ _)
        have hlt2 : ∀ i, i < k → bl i < wr.heap.size := fun i h => (hsets i h).1.lt
        refine ⟨k + 1, fun j => if j = k then wr.heap.size else bl j, by omega, by go_num, hR2.congr (fun j _ => ?_), ?_, ?_, (hB.alloc hB.size _).setCell (by simp) _⟩
        · by_cases e : j = k
          · subst e; simp
          · simp [e]
            by_cases h2 : j < k
            · rw [if_pos h2, if_pos (by omega)]
            · rw [if_neg h2, if_neg (by omega)]
        · intro i j hi hj e
          by_cases h1 : i = k <;> by_cases h2 : j = k <;> simp [h1, h2] at e ⊢
          · have := hlt2 j (by omega); omega
          · have := hlt2 i (by omega); omega
          · exact hinj i j (by omega) (by omega) e
        · intro i hi
          by_cases h1 : i = k
          · simp [h1]
            exact ⟨(setN_made wr n).turns (setCell_turns _ _ _ _) (by omega), by omega⟩
          · simp [h1]
            have h3 := hsets i (by omega)
            exact ⟨h3.1.turns ht (by omega), h3.2⟩
      case measure => simp [numOf]; omega
    · have : k = n := by omega
      subst this
      go_wp2
      go_ret
      exact ⟨_, rfl, fun g e => by cases e; exact Nat.le_refl _, bl, ⟨hinj, fun i hi => ⟨_, rfl, by have := hR.cell hi; simpa [hi] using this⟩, fun i hi => (hsets i hi).1⟩, fun i hi => by have := (hsets i hi).2; omega, hB⟩

set_option maxHeartbeats 400000 in
theorem join_call {w : World} {ao : Option Addr} {cap n : Nat} {bl : Nat → Nat} {e : Nat → Nat → Bool} (h : NearsAt w ao n bl e) (hn : n ≤ 1000000) {a b : Nat} (ha : a < n) (hb : b < n) :
    Calls Tryz.prog 98 #[.slice ao n cap, .int .i64 (a : Int), .int .i64 (b : Int)] w fun r w' => r = .returned (.tuple #[]) ∧ NearsAt w' ao n bl (fun x y => (x == b && y == a) || ((x == a && y == b) || e x y)) ∧ Turns (MarksP n bl) w w' := by
  obtain ⟨g, rfl, c1⟩ := h.row a ha
  have i1 : (0 : Int) ≤ (a : Int) := by omega
  have i2 : (a : Int) < (n : Int) := by omega
  have j1 : (0 : Int) ≤ (b : Int) := by omega
  have j2 : (b : Int) < (n : Int) := by omega
  go_enter Tryz.func98, Tryz.ntmps98
  go_upto_region 1 with (go_at_call 99; refine (add_call (h.sets a ha) hn hb).mono ?_; rintro r w1 ⟨rfl, hS1, ht1⟩)
  have h1 := h.put ha hS1 ht1
  obtain ⟨g', e', c2⟩ := h1.row b hb
  cases e'
  clear c1
  go_wp2_with (go_at_call 99; refine (add_call (h1.sets b hb) hn ha).mono ?_; rintro r w2 ⟨rfl, hS2, ht2⟩)
  go_end0
  exact ⟨rfl, h1.put hb hS2 ht2, (ht1.mono (fun k _ e => ⟨a, ha, e⟩)).trans (ht2.mono (fun k _ e => ⟨b, hb, e⟩))⟩

theorem hasB_take (es : List Pair) (k : Nat) (hk : k < es.length) (a b : Nat) (x y : Nat) (he : es[k] = ((x : Int), (y : Int))) : hasB (es.take (k + 1)) a b = ((a == y && b == x) || ((a == x && b == y) || hasB (es.take k) a b)) := by
  rw [List.take_succ_eq_append_getElem hk, he, hasB_snoc]
  have q : ∀ p q : Nat, ((p : Int) == (q : Int)) = (q == p) := fun p q => by rw [Bool.eq_iff_iff]; simp; omega
  rw [q, q, q, q]
  cases hasB (es.take k) a b <;> cases (a == x) <;> cases (b == y) <;> cases (a == y) <;> cases (b == x) <;> rfl

def bothB (es : List Pair) (a b : Nat) : Bool := hasB es a b

set_option maxHeartbeats 1000000 in
theorem bothWays_call (n : Nat) (v : Value) (es : List Pair) (w : World) (hE : EdgesAt w v es) (hn : n ≤ 1000) (hgood : ∀ e ∈ es, 0 ≤ e.1 ∧ e.1 < n ∧ 0 ≤ e.2 ∧ e.2 < n) :
    Calls Tryz.prog 81 #[.int .i64 (n : Int), v] w fun r w' => ∃ ao, r = .returned (.slice ao n n) ∧ (∀ g, ao = some g → w.heap.size ≤ g.block) ∧ ∃ bl, NearsAt w' ao n bl (bothB es) ∧ (∀ i, i < n → w.heap.size ≤ bl i) ∧ Below w.heap.size w w' := by
  obtain ⟨eo, cap, rfl, hl2, hI, hcells⟩ := hE
  clear hI
  have HG : Hid _ := hgood
  have HC : Hid _ := hcells
  clear hgood hcells
  go_enter Tryz.func81, Tryz.ntmps81
  go_wp2_with (go_at_call 97; refine (empties_call n _ (by omega)).mono ?_; rintro r w1 ⟨ao, rfl, hao, bl, hN1, hbl, hB1⟩)
  go_loopw [12] (fun i wr => ∃ k : Nat, k ≤ es.length ∧ i = .int .i64 (k : Int) ∧ NearsAt wr ao n bl (bothB (es.take k)) ∧ Below w.heap.size w wr) (fun i _ => es.length - (numOf i).toNat)
  case atStart => exact ⟨0, Nat.zero_le _, rfl, hN1.congr (fun i j _ _ => by simp [bothB, hasB]), hB1⟩
  case round =>
    obtain ⟨k, hk, rfl, hN, hB⟩ := hrel
    clear hN1 hB1
    by_cases hlt : k < es.length
    · obtain ⟨b, off, rfl, cx, cy⟩ := HC.out k hlt
      obtain ⟨x, y, hxy⟩ : ∃ x y, es[k] = (x, y) := ⟨es[k].1, es[k].2, rfl⟩
      have hgx := HG.out es[k] (List.getElem_mem _)
      rw [hxy] at cx cy hgx
      have hb := World.block_lt_of_cell? w _ cx
      rw [← hB.cell (by exact hb)] at cx cy
      obtain ⟨x0, x1, y0, y1⟩ := hgx
      obtain ⟨i, rfl⟩ : ∃ i : Nat, x = i := ⟨x.toNat, by omega⟩
      obtain ⟨j, rfl⟩ : ∃ j : Nat, y = j := ⟨y.toNat, by omega⟩
      have HXY : Hid _ := hxy
      clear hxy
      go_wp2_with (go_at_call 98; refine (join_call (hN.below (below_alloc (Below.refl _ _) _)) (by omega) (a := i) (b := j) (by omega) (by omega)).mono ?_; rintro r w2 ⟨rfl, hN2, ht2⟩)
      go_roundw
      case rel =>
        refine ⟨k + 1, by omega, by go_num, hN2.congr (fun a c _ _ => (hasB_take es k hlt a c i j HXY.out).symm), ht2.below (hB.alloc hB.size _) (by have := hB.size; simp; omega) ?_⟩
        rintro k ⟨i, hi, rfl⟩
        exact hbl i hi
      case measure => simp [numOf]; omega
    · have : k = es.length := by omega
      subst this
      rw [List.take_length] at hN
      go_wp2
      go_ret
      exact ⟨ao, rfl, hao, bl, hN, hbl, hB⟩
end Go.Proofs.YtnboonhlffkimaaGreatDoor

namespace Go.Proofs.YtnboonhlffkimaaGreatDoor
set_option maxRecDepth 4000
open Go.RowKit Go.Maps
attribute [local go_sem ↓] Go.wp_at_zero Go.wp_at_succ

/-- Block b is a map from numbers below N to numbers. -/
def FarAt (w : World) (b N : Nat) (F : Nat → Option Nat) : Prop :=
  ∃ D : DataW Unit, w.ownsMap Tryz.prog 3 (plainElem Tryz.prog 3) b N D ∧ (∀ u : Int, I64 u → Maps.has D (.int .i64 u) = (decide (0 ≤ u ∧ u < N) && (F u.toNat).isSome)) ∧
    ∀ k d, k < N → F k = some d → D.atKey (.int .i64 (k : Int)) (.lit (.int .i64 0)) = .lit (.int .i64 (d : Int))

theorem FarAt.block {w w' : World} {b N : Nat} {F : Nat → Option Nat} (h : FarAt w b N F) (hb : w'.heap[b]? = w.heap[b]?) : FarAt w' b N F := by
  obtain ⟨D, ⟨es, clock, h1, h2⟩, h3⟩ := h
  exact ⟨D, ⟨es, clock, by rw [hb]; exact h1, h2⟩, h3⟩
theorem FarAt.lt {w : World} {b N : Nat} {F : Nat → Option Nat} (h : FarAt w b N F) : b < w.heap.size := by
  obtain ⟨D, h1, _⟩ := h; exact h1.lt
theorem FarAt.turns {w w' : World} {b N : Nat} {F : Nat → Option Nat} {M : Nat → Prop} (h : FarAt w b N F) (ht : Turns M w w') (hm : ¬ M b) : FarAt w' b N F := h.block (ht.block b h.lt hm)
theorem FarAt.congr {w : World} {b N : Nat} {F G : Nat → Option Nat} (h : FarAt w b N F) (he : ∀ k, k < N → F k = G k) : FarAt w b N G := by
  obtain ⟨D, h1, h2, h3⟩ := h
  refine ⟨D, h1, fun u hu => ?_, fun k d hk hd => h3 k d hk (by rw [he k hk]; exact hd)⟩
  rw [h2 u hu]
  by_cases hb : 0 ≤ u ∧ u < N
  · rw [he u.toNat (by omega)]
  · simp [hb]
theorem farAt_made (w : World) (N : Nat) : FarAt (w.alloc (.map #[] 0)) w.heap.size N (fun _ => none) :=
  ⟨.map [], (World.ownsMap_made _ _ _ _).mono (Nat.zero_le _), fun _ _ => by simp [Maps.has], fun _ _ _ h => by cases h⟩
theorem Tryz.zero3 (w : World) : (zeroValue 3).run Tryz.prog w = .ok (.int .i64 0) w := by kernel_rfl

theorem FarAt.look {w : World} {b N : Nat} {F : Nat → Option Nat} (h : FarAt w b N F) (hN : N ≤ 1000000) {k d : Nat} (hk : k < N) (hd : F k = some d) :
    (Instr.lookup 137 (.map (some b)) (.int .i64 (k : Int)) false).run Tryz.prog w = .ok (.int .i64 (d : Int)) w := by
  obtain ⟨D, h1, h2, h3⟩ := h
  obtain ⟨c, hrun, hat, _⟩ := h1.lookup_int Tryz.lawI Tryz.underlying137 Tryz.underlying3 (Tryz.zero3 w) (hkeyI (natI hN hk))
  rw [h3 k d hk hd] at hat
  simp at hat
  rw [hat]; exact hrun

theorem FarAt.store {w : World} {b N : Nat} {F : Nat → Option Nat} (h : FarAt w b N F) (hN : N ≤ 1000000) {k d : Nat} (hk : k < N) (hd : d ≤ 1000000) {c : Int} (hc : c = (d : Int)) :
    ∃ w', (Instr.mapUpdate 137 (.map (some b)) (.int .i64 (k : Int)) (.int .i64 c)).run Tryz.prog w = .ok () w' ∧ FarAt w' b N (fun x => if x = k then some d else F x) ∧ w.mapTurned w' b := by
  subst hc
  obtain ⟨D, h1, h2, h3⟩ := h
  obtain ⟨w', hrun, hown, hturn⟩ := h1.store Tryz.lawI Tryz.underlying137 (by unfold maxLen; omega) (hkeyI (natI hN hk)) (plainElem_int Tryz.underlying3 (a := (d : Int)) (I64.wf ⟨by omega, by omega⟩))
  have hh : ∀ x : Int, I64 x → Maps.has (D.put (.int .i64 (k : Int)) (.lit (.int .i64 (d : Int)))) (.int .i64 x) = (decide (0 ≤ x ∧ x < N) && (if x.toNat = k then some d else F x.toNat).isSome) := by
    intro x hx
    by_cases e : x = k
    · subst e
      rw [has_put_same h1.isMap (isKeyI _)]
      simp; omega
    · rw [has_put_other (by simpa using e), h2 x hx]
      by_cases hb : 0 ≤ x ∧ x < N
      · rw [if_neg (by omega)]
      · simp [hb]
  refine ⟨w', hrun, ⟨_, tight hown (fun x hx hk => ?_), hh, fun x c hx hc => ?_⟩, hturn⟩
  · rw [hh x hx] at hk
    simp at hk
    exact hk.1
  · replace hc : (if x = k then some d else F x) = some c := hc
    by_cases e : x = k
    · subst e
      rw [if_pos rfl] at hc
      cases hc
      exact atKey_put_same h1.isMap (isKeyI _) _ _
    · rw [if_neg e] at hc
      rw [atKey_put_other (by simp; omega)]
      exact h3 x c hx hc

theorem setN_del {w : World} {b N : Nat} {S : Nat → Bool} {D : DataW Unit} (h2 : ∀ u : Int, I64 u → Maps.has D (.int .i64 u) = (decide (0 ≤ u ∧ u < N) && S u.toNat)) {u : Nat} (hown : w.ownsMap Tryz.prog 3 unitElem b N (D.del (.int .i64 (u : Int)))) : SetN w b N (fun k => S k && k != u) := by
  refine ⟨_, hown, fun x hx => ?_⟩
  by_cases e : x = u
  · subst e
    rw [has_del_same]
    simp
  · rw [has_del_other (by simpa using e), h2 x hx]
    by_cases hb : 0 ≤ x ∧ x < N
    · have : (x.toNat != u) = true := by simp; omega
      simp [this]
    · simp [hb]

theorem has_as {w : World} {b N : Nat} {S : Nat → Bool} (h : SetN w b N S) {u : Nat} (hN : N ≤ 1000000) (hu : u < N) {r : Bool} (hr : S u = r) :
    Calls Tryz.prog 94 #[.map (some b), .int .i64 (u : Int)] w fun e w' => e = .returned (.bool r) ∧ Below w.heap.size w w' := hr ▸ hasP_call h hN hu

def farF (Q : List Nat) (d : Nat → Nat) (k : Nat) : Option Nat := if k ∈ Q then some (d k) else none
def leftF (L : Nat → Bool) (Q : List Nat) (k : Nat) : Bool := L k && !decide (k ∈ Q)

/-- How the memory stands while take goes on. -/
structure TI (w wr : World) (bL bF N : Nat) (ao : Option Addr) (bl : Nat → Nat) (e : Nat → Nat → Bool) (L : Nat → Bool) (q : Value) (Q : List Nat) (d : Nat → Nat) : Prop where
  own : wr.ownsRow w.heap.size 3 1 q Q.length (qv Q)
  far : FarAt wr bF N (farF Q d)
  left : SetN wr bL N (leftF L Q)
  near : NearsAt wr ao N bl e
  turns : Turns (fun k => k = bL) w wr
  neF : w.heap.size ≤ bF
  neL : bL < w.heap.size
  neB : ∀ i, i < N → bl i < w.heap.size ∧ bl i ≠ bL
  neG : ∀ g, ao = some ⟨g, 0, none⟩ → g < w.heap.size ∧ g ≠ bL

theorem TI.step {w wr wr' : World} {bL bF N : Nat} {ao : Option Addr} {bl : Nat → Nat} {e : Nat → Nat → Bool} {L : Nat → Bool} {q : Value} {Q : List Nat} {d : Nat → Nat} {M : Nat → Prop} (h : TI w wr bL bF N ao bl e L q Q d) (ht : Turns M wr wr') (hm : ∀ k, M k → w.heap.size ≤ k ∧ k ≠ bF ∧ q.ownBlock ≠ some k) : TI w wr' bL bF N ao bl e L q Q d := by
  refine ⟨ownsRow_blocks h.own fun b hb => ?_, h.far.turns ht (fun h' => (hm _ h').2.1 rfl), h.left.turns ht (fun h' => by have := hm _ h'; have := h.neL; omega), h.near.turns ht (fun i hi h' => by have := hm _ h'; have := (h.neB i hi).1; omega) (fun g hg h' => by have := hm _ h'; have := (h.neG _ hg).1; omega), h.turns.after ht (fun k hk => Or.inr (hm k hk).1), h.neF, h.neL, h.neB, h.neG⟩
  exact ht.block b (h.own.lt b hb).2 (fun h' => (hm _ h').2.2 hb)

/-- A node more. -/
theorem TI.push {w wr w2 w3 w4 : World} {bL bF N : Nat} {ao : Option Addr} {bl : Nat → Nat} {e : Nat → Nat → Bool} {L : Nat → Bool} {q q' : Value} {Q : List Nat} {d : Nat → Nat} {y c : Nat} {o : Obj} (h : TI w wr bL bF N ao bl e L q Q d) (hy : y ∉ Q)
    (h2 : SetN w2 bL N (fun k => leftF L Q k && k != y)) (t2 : wr.mapTurned w2 bL) (h3 : FarAt w3 bF N (fun x => if x = y then some c else farF Q d x)) (t3 : w2.mapTurned w3 bF)
    (hown : w4.ownsRow w.heap.size 3 1 q' (Q.length + 1) (qv Q ++ [.int .i64 (y : Int)])) (hg : (w3.alloc o).grownBy w4 q.ownBlock) : TI w w4 bL bF N ao bl e L q' (Q ++ [y]) (fun x => if x = y then c else d x) := by
  have hs := h.turns.size
  have T2 := turnedP_turns t2
  have T3 := turnedP_turns t3
  have T4 := (alloc_turns w3 o (fun k => some k = q.ownBlock)).trans (Turns.of_grown hg)
  have hq : ∀ k, some k = q.ownBlock → w.heap.size ≤ k ∧ ∃ cur, wr.heap[k]? = some (.cells cur 3 (0, 0)) := fun k hk => ⟨(h.own.lt k hk.symm).1, own_cells h.own hk.symm⟩
  have hl3 := h3.lt
  have hl2 : bL < w3.heap.size := by have := h2.lt; have := T3.size; omega
  have hFL : bF ≠ bL := by have := h.neF; have := h.neL; omega
  -- block bF is a map in w3
  have nF : ¬ some bF = q.ownBlock := fun hk => by
    obtain ⟨_, cur, hc⟩ := hq bF hk
    obtain ⟨D, ⟨es, ck, hb, _⟩, _⟩ := h.far
    rw [hc] at hb; cases hb
  have tw : Turns (fun k => k = bL) w w4 := ((h.turns.trans T2).after T3 (fun k hk => Or.inr (by rw [hk]; exact h.neF))).after T4 (fun k hk => Or.inr (hq k hk).1)
  refine ⟨by simpa [qv] using hown, ?_, ?_, ?_, tw, h.neF, h.neL, h.neB, h.neG⟩
  · refine (h3.turns T4 nF).congr fun k hk => ?_
    unfold farF
    by_cases e1 : k = y
    · subst e1; simp
    · simp [e1]
  · refine ((h2.turns T3 (fun e => hFL e.symm)).turns T4 (fun hk => by have := (hq _ hk).1; have := h.neL; omega)).congr fun k hk => ?_
    unfold leftF
    rw [Bool.eq_iff_iff]
    simp
    constructor
    · rintro ⟨⟨h1, h2⟩, h3⟩; exact ⟨h1, h2, h3⟩
    · rintro ⟨h1, h2, h3⟩; exact ⟨⟨h1, h2⟩, h3⟩
  · have n2 := h.near.turns T2 (fun i hi => (h.neB i hi).2) (fun g hg => (h.neG _ hg).2)
    have n3 := n2.turns T3 (fun i hi e => by have := (h.neB i hi).1; have := h.neF; omega) (fun g hg e => by have := (h.neG _ hg).1; have := h.neF; omega)
    exact n3.turns T4 (fun i hi hk => by have := (h.neB i hi).1; have := (hq _ hk).1; omega) (fun g hg hk => by have := (h.neG _ hg).1; have := (hq _ hk).1; omega)

theorem strike_other {lf : Lit → Bool} {z y : Nat} (h : ¬ z = y) (hl : (lf (.int .i64 (z : Int)) && !(Lit.int .i64 (z : Int)).sameKey (.int .i64 (y : Int))) = false) : lf (.int .i64 (z : Int)) = false := by
  rw [sameKey_ne (fun e => h (by injection e with _ e; omega))] at hl
  simpa using hl

set_option maxHeartbeats 2000000 in
theorem take_call {w : World} {bL N v : Nat} {ao : Option Addr} {cap : Nat} {bl : Nat → Nat} {e : Nat → Nat → Bool} {L : Nat → Bool} (hnear : NearsAt w ao N bl e) (hleft : SetN w bL N L) (hne : ∀ i, i < N → bl i ≠ bL) (hN : N ≤ 1000) (hv : v < N) :
    Calls Tryz.prog 96 #[.slice ao N cap, .map (some bL), .int .i64 (v : Int)] w fun r w' => ∃ b Q d, r = .returned (.map (some b)) ∧ Bfs N e L v Q d Q.length ∧ FarAt w' b N (farF Q d) ∧ SetN w' bL N (leftF L Q) ∧ w.heap.size ≤ b ∧ Turns (fun k => k = bL) w w' := by
  have hmm := @run_makeMap Tryz.prog
  obtain ⟨i0, hi, hz0, hz1, hz2⟩ := info_parts Tryz.info3
  have hN6 : N ≤ 1000000 := by omega
  have hgG : ∀ g, ao = some ⟨g, 0, none⟩ → g < w.heap.size ∧ g ≠ bL := by
    intro g hg
    obtain ⟨g', e1, c⟩ := hnear.row v hv
    rw [hg] at e1; cases e1
    have h1 := World.block_lt_of_cell? w _ c
    have h2 := not_map c hleft
    exact ⟨h1, h2⟩
  have hgB : ∀ i, i < N → bl i < w.heap.size ∧ bl i ≠ bL := fun i hi => ⟨(hnear.sets i hi).lt, hne i hi⟩
  have hLlt := hleft.lt
  obtain ⟨DL, hownL, hhasL⟩ := hleft
  go_enter Tryz.func96, Tryz.ntmps96
  go_upto_region 2 with (first | (at_delete; refine wpList_delete_own _ rfl _ _ 119 3 rfl 70 Tryz.lawI Tryz.underlying119 _ bL N DL rfl hownL _ _ rfl (hkeyI (natI hN6 hv)) ?_; intro w1 hown1 hturn1) | go_in)
  have hS1 := setN_del hhasL hown1
  have T1 := turnedP_turns hturn1
  have n1 := hnear.turns T1 (fun i hi => (hgB i hi).2) (fun g hg => (hgG _ hg).2)
  obtain ⟨w2, hrun2, hF2, ht2⟩ := (farAt_made w1 N).store hN6 hv (d := 0) (by omega) (c := 0) rfl
  have T2 := (alloc_turns w1 (.map #[] 0) (fun k => k = w1.heap.size)).trans (turnedP_turns ht2)
  have hs1 := T1.size
  have hs2 := T2.size
  have hti : TI w (w2.alloc (Obj.cells #[.int .i64 (v : Int)] 3)) bL w1.heap.size N ao bl e L (.slice (some ⟨w2.heap.size, 0, none⟩) 1 1) [v] (fun _ => 0) := by
    have T3 := alloc_turns w2 (Obj.cells #[.int .i64 (v : Int)] 3) (fun _ => False)
    refine ⟨ownsRow_one w2 _ _ 3 (by omega), (hF2.turns T3 (fun h => h)).congr (fun k _ => by simp [farF]), ((hS1.turns T2 (by have := hS1.lt; omega)).turns T3 (fun h => h)).congr (fun k _ => by unfold leftF; by_cases e : k = v <;> simp [e]), (n1.turns T2 (fun i hi => by have := (hgB i hi).1; omega) (fun g hg => by have := (hgG _ hg).1; omega)).turns T3 (fun _ _ h => h) (fun _ _ h => h), (T1.after T2 (fun k hk => Or.inr (by omega))).after T3 (fun _ h => h.elim), by omega, hLlt, hgB, hgG⟩
  have HTI : Hid _ := hti
  clear hti hown1 hturn1 hhasL hownL hnear n1 hS1 ht2 hF2 T1 T2
  go_wp2
  go_loopw [8, 9] (fun q i wr => ∃ (Q : List Nat) (d : Nat → Nat) (k : Nat), k ≤ Q.length ∧ i = .int .i64 (k : Int) ∧ Bfs N e L v Q d k ∧ TI w wr bL w1.heap.size N ao bl e L q Q d) (fun _ i _ => N - (numOf i).toNat)
  case atStart => exact ⟨[v], fun _ => 0, 0, by simp, rfl, bfs_start hv, HTI.out⟩
  case round =>
    obtain ⟨Q, d, k, hk, rfl, hbfs, hti⟩ := hrel
    clear HTI hrun2 hmm
    obtain ⟨qo, qc, rfl⟩ := form_row hti.own
    have hql := hbfs.len
    by_cases hlt : k < Q.length
    · obtain ⟨u, hu⟩ : ∃ u, Q[k]? = some u := ⟨Q[k], List.getElem?_eq_getElem hlt⟩
      obtain ⟨g, rfl, cq⟩ := qcell hti.own hu
      have huN := hbfs.lt u (List.mem_of_getElem? hu)
      obtain ⟨gn, rfl, cn⟩ := hti.near.row u huN
      obtain ⟨DN, hownN, hhasN⟩ := hti.near.sets u huN
      have i1 : (0 : Int) ≤ (k : Int) := by omega
      have i2 : (k : Int) < (Q.length : Int) := by omega
      have j1 : (0 : Int) ≤ (u : Int) := by omega
      have j2 : (u : Int) < (N : Int) := by omega
      go_wp2_with (first | (at_range; refine wpList_range_own _ rfl _ 119 rfl 3 70 Tryz.lawI Tryz.underlying119 _ (bl u) N DN rfl hownN ?_; intro w5 hrg0 hg0 hs0) | go_in)
      go_frame
      have hti5 := hti.step (Turns.of_grown hg0) (fun k hk => by cases hk)
      have hr0 := hti.far.lt
      obtain ⟨r, hr⟩ : ∃ r, r = wr.heap.size := ⟨_, rfl⟩
      rw [← hr] at hrg0 ⊢
      have hrL : bL < r := by have := hti.left.lt; omega
      have hrB : ∀ i, i < N → bl i < r := fun i hi => by have := (hti.near.sets i hi).lt; omega
      have hrF : w1.heap.size < r := by omega
      have hrg : gn < r := by have := World.block_lt_of_cell? wr _ cn; simp at this; omega
      have hrQ : g < r := by have := World.block_lt_of_cell? wr _ cq; simp at this; omega
      have hBF : bl u ≠ w1.heap.size := by have := (hgB u huN).1; omega
      clear hg0 hs0 hr cn cq hownN hti
      go_loopw [8] (fun q wz => ∃ (Q' : List Nat) (d' : Nat → Nat) (lf : Lit → Bool) (cnt : Nat), wz.ranges Tryz.prog 3 unitElem (bl u) r N DN lf cnt ∧ TI w wz bL w1.heap.size N (some ⟨gn, 0, none⟩) bl e L q Q' d' ∧ Bfs N e L v Q' d' k ∧ Q'[k]? = some u ∧ (∀ y, y < N → e u y = true → lf (.int .i64 (y : Int)) = false → L y = true → y ∈ Q' ∧ d' y ≤ d' u + 1)) (fun _ wz => wz.rangeLeft (bl u) r)
      case atStart => exact ⟨Q, d, _, _, hrg0, hti5, hbfs, hu, fun y hy he hl => by rw [hhasN y (natI hN6 hy)] at hl; simp [hy, he] at hl⟩
      case round =>
        obtain ⟨Q', d', lf, cnt, hrgz, htiz, hbz, huz, hseen⟩ := hrel
        obtain ⟨qo', qc', rfl⟩ := form_row htiz.own
        have hqr := row_ne_iter htiz.own hrgz
        have hkl := (List.getElem?_eq_some_iff.1 huz).1
        have hql' := hbz.len
        have hdu := hbz.far u (List.mem_of_getElem? huz)
        have HB : Hid _ := hbz
        have HU : Hid _ := huz
        have HS : Hid _ := hseen
        clear hti5 hrg0 hbfs hu hbz huz hseen
        go_wp2_with (first | (at_next; refine wpList_next_ranges _ rfl _ rfl 3 Tryz.lawI unitElem encZ (fun _ : Unit => .agg #[]) (fun key kl hk => by obtain ⟨x, hx, _⟩ := Maps.keyOf_i64 Tryz.underlying3 hk; exact ⟨x, hx⟩) (fun v _ hv => ⟨(), (unitElem_inv hv).1⟩) (bl u) r N _ _ _ rfl hrgz ?_ ?_) | go_in)
        · intro hc0 hl0
          go_wp2
          go_roundw
          case rel => exact ⟨Q', d', k + 1, by omega, by go_num, Bfs.next HB.out HU.out (fun y hy he hL => HS.out y hy he (hl0 _) hL), htiz⟩
          case measure => simp [numOf]; omega
        · intro x kl yd yp w6 cnt6 hkey hlk hvv hat hrg6 hcl hg6 hs6 hen
          obtain ⟨x', ex, rfl, hwf⟩ := Maps.keyOf_i64 Tryz.underlying3 hkey
          obtain rfl : x = x' := encZ_inj ex
          have hhas := has_true_of_atKey hat
          have hxI : I64 x := ⟨(wf_bounds hwf).1, (wf_bounds hwf).2⟩
          rw [hhasN x hxI] at hhas
          simp only [Bool.and_eq_true, decide_eq_true_eq] at hhas
          obtain ⟨⟨hx0, hxN⟩, hex⟩ := hhas
          obtain ⟨y, rfl⟩ : ∃ y : Nat, x = y := ⟨x.toNat, by omega⟩
          have hyN : y < N := by omega
          have hex' : e u y = true := by simpa using hex
          have HE : Hid _ := hex'
          clear hex'
          have hti6 := htiz.step (Turns.of_grown hg6) (fun k hk => by
            simp at hk; subst hk
            exact ⟨by have := htiz.neF; omega, by omega, fun e => hqr e.symm⟩)
          clear hs6 hex hat hkey hvv hlk
          have huQ := List.mem_of_getElem? HU.out
          have hbN := huN
          have hqF : ∀ b, (Value.slice qo' Q'.length qc').ownBlock = some b → b ≠ w1.heap.size := fun b hb e => by
            obtain ⟨cur, hc⟩ := own_cells htiz.own hb
            obtain ⟨D, ⟨es, ck, hm, _⟩, _⟩ := htiz.far
            rw [← e, hc] at hm; cases hm
          have HCL : Hid _ := hcl
          clear hcl
          by_cases hLy : leftF L Q' y = true
          · have hLy' := hLy
            simp [leftF] at hLy'
            have HLY : Hid _ := hLy'
            clear hLy'
            go_wp2_with (first
              | (go_at_call 94; refine (has_as hti6.left hN6 hyN hLy).mono ?_; rintro r7 w7 ⟨rfl, hb7⟩; have hti7 := hti6.step (Turns.of_below hb7 (fun _ => False)) (fun _ h => h.elim); obtain ⟨DL7, hownL7, hhasL7⟩ := hti7.left)
              | (at_delete; refine wpList_delete_own _ rfl _ _ 119 3 rfl 70 Tryz.lawI Tryz.underlying119 _ bL N DL7 rfl hownL7 _ _ rfl (hkeyI (natI hN6 hyN)) ?_; intro w8 hown8 hturn8; have h8 := setN_del hhasL7 hown8; have T8 := turnedP_turns hturn8; have hF8 := hti7.far.turns T8 (by have := hti7.neF; have := hti7.neL; omega); have hlook := hF8.look hN6 (hbN) (d := d' u) (if_pos huQ); obtain ⟨w9, hrun9, hF9, ht9⟩ := hF8.store hN6 hyN (d := d' u + 1) (by omega) (c := (d' u : Int) + 1) (by omega); have hown9 := ownsRow_blocks (ownsRow_blocks hti7.own (w' := w8) (fun b hb => T8.block b (hti7.own.lt b hb).2 (by have := (hti7.own.lt b hb).1; have := hti7.neL; omega))) (w' := w9) (fun b hb => (turnedP_turns ht9).block b (by have := T8.size; have := (hti7.own.lt b hb).2; omega) (fun e => hqF b hb e)))
              | (at_builtin; refine wpList_append_own _ rfl _ _ 62 rfl w.heap.size 3 i0 (.int .i64 0) 1 8 Tryz.underlying62 hi hz0 hz1 hz2 rfl (by decide) _ _ _ rfl (hown9.alloc _) ⟨w9.heap.size, 0, none⟩ 1 1 [.int .i64 (y : Int)] rfl rfl ?n1 ?n2 ?n3 ?n4 ?n5 ?_)
              | go_in)
            case n1 => exact cell_one_new _ _ _
            case n2 => first | rfl | (intro y hy; simp at hy; subst hy; rfl)
            case n3 => unfold maxLen; omega
            case n4 => omega
            case n5 => have := hti7.turns.size; have := T8.size; have := (turnedP_turns ht9).size; simp; omega
            intro v' w10 hown' hgrow _
            have hti10 := hti7.push HLY.out.2 h8 hturn8 hF9 ht9 hown' hgrow
            have hr7 := hrg6.kept (row := none) (w' := w7) ⟨hb7.os, hb7.tape, hb7.output, hb7.size, fun k hk _ => hb7.block k hk⟩ (by simp) (by simp)
            have hr8 := hr7.kept hturn8.grown (by simp; exact (hgB u huN).2) (by simp; omega)
            have hr9 := (hr8.kept ht9.grown (by simp; exact hBF) (by simp; omega)).alloc (Obj.cells #[.int .i64 (y : Int)] 3)
            have hr10 := hr9.kept hgrow (fun h' => by have := (htiz.own.lt _ h'.symm).1; have := (hgB u huN).1; omega) hqr
            clear hown' hgrow hr7 hr8 hr9
            go_wp2
            go_roundw
            case rel =>
              have hbz := HB.out
              have huz := HU.out
              refine ⟨Q' ++ [y], fun x => if x = y then d' u + 1 else d' x, _, cnt6, hr10, hti10, hbz.push huz hyN HE.out HLY.out.1 HLY.out.2, by rw [List.getElem?_append_left hkl]; exact huz, fun z hz hez hl hLz => ?_⟩
              have huy : u ≠ y := fun e => HLY.out.2 (e ▸ huQ)
              show z ∈ Q' ++ [y] ∧ (if z = y then d' u + 1 else d' z) ≤ (if u = y then d' u + 1 else d' u) + 1
              rw [if_neg huy]
              by_cases e1 : z = y
              · subst e1; simp
              · rw [if_neg e1]
                have h1 := HS.out z hz hez (strike_other e1 hl) hLz
                exact ⟨by simp [h1.1], h1.2⟩
            case measure => rw [hr10.left_eq, hrgz.left_eq]; exact HCL.out
          · have hLy' : leftF L Q' y = false := by simpa using hLy
            clear hLy
            go_wp2_with (first
              | (go_at_call 94; refine (has_as hti6.left hN6 hyN hLy').mono ?_; rintro r7 w7 ⟨rfl, hb7⟩; have hti7 := hti6.step (Turns.of_below hb7 (fun _ => False)) (fun _ h => h.elim))
              | go_in)
            have hr7 := hrg6.kept (row := none) (w' := w7) ⟨hb7.os, hb7.tape, hb7.output, hb7.size, fun k hk _ => hb7.block k hk⟩ (by simp) (by simp)
            go_roundw
            case rel =>
              refine ⟨Q', d', _, cnt6, hr7, hti7, HB.out, HU.out, fun z hz hez hl hLz => ?_⟩
              by_cases e1 : z = y
              · subst e1
                have hzQ : z ∈ Q' := by
                  simp [leftF] at hLy'
                  exact hLy' hLz
                exact ⟨hzQ, Bfs.near HB.out u z HU.out hzQ⟩
              · exact HS.out z hz hez (strike_other e1 hl) hLz
            case measure => rw [hr7.left_eq, hrgz.left_eq]; exact HCL.out
    · have : k = Q.length := by omega
      subst this
      go_wp2
      go_ret
      exact ⟨_, Q, d, rfl, hbfs, hti.far, hti.left, hti.neF, hti.turns⟩
end Go.Proofs.YtnboonhlffkimaaGreatDoor
