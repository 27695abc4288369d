/- Sets of numbers, kept in maps: what they hold; the methods of set. Of each node the set of those near it: made empty, filled from edges. -/
import Derived.Test.YtmeodnkmhakidaaDoorBase
import Derived.Test.YtmeodnkmhakidaaDoorKitC
import Derived.Test.YtmeodnkmhakidaaDoorWaysM
import Derived.Maps.RangeWalk
import Derived.Lib.SlKeysI
import Derived.Test.YtmeodnkmhakidaaDoorGrid
namespace Go.Proofs.YtmeodnkmhakidaaDoor
open Go.RowKit Go.Maps

theorem Tryd.lawI : Keyed Tryd.prog 3 := int_keyed Tryd.underlying3
theorem hkeyI {u : Int} (hu : I64 u) : keyOf Tryd.prog 3 (.int .i64 u) = some (.int .i64 u) := keyOf_int_mk Tryd.underlying3 hu.wf
theorem isKeyI (u : Int) : WideAt.IsKeyLit (Lit.int .i64 u) := trivial

/-- Block b is a map whose keys are just the numbers below N that S tells. -/
def SetN (w : World) (b N : Nat) (S : Nat → Bool) : Prop :=
  ∃ D : DataW Unit, w.ownsMap Tryd.prog 3 unitElem b N D ∧ ∀ u : Int, I64 u → Maps.has D (.int .i64 u) = (decide (0 ≤ u ∧ u < N) && S u.toNat)

theorem SetN.block {w w' : World} {b N : Nat} {S : Nat → Bool} (h : SetN w b N S) (hb : w'.heap[b]? = w.heap[b]?) : SetN w' b N S := by
  obtain ⟨D, ⟨es, clock, h1, h2⟩, h3⟩ := h
  exact ⟨D, ⟨es, clock, by rw [hb]; exact h1, h2⟩, h3⟩
theorem SetN.lt {w : World} {b N : Nat} {S : Nat → Bool} (h : SetN w b N S) : b < w.heap.size := by
  obtain ⟨D, h1, _⟩ := h; exact h1.lt
theorem SetN.isMap {w : World} {b N : Nat} {S : Nat → Bool} (h : SetN w b N S) : ∃ es c, w.heap[b]? = some (.map es c) := by
  obtain ⟨D, ⟨es, clock, h1, _⟩, _⟩ := h; exact ⟨es, clock, h1⟩
theorem SetN.turns {w w' : World} {b N : Nat} {S : Nat → Bool} {M : Nat → Prop} (h : SetN w b N S) (ht : Turns M w w') (hm : ¬ M b) : SetN w' b N S := h.block (ht.block b h.lt hm)
theorem SetN.below {w w' : World} {b N B : Nat} {S : Nat → Bool} (h : SetN w b N S) (hb : Below B w w') (hB : b < B) : SetN w' b N S := h.block (hb.block b hB)
theorem SetN.congr {w : World} {b N : Nat} {S T : Nat → Bool} (h : SetN w b N S) (he : ∀ k, k < N → S k = T k) : SetN w b N T := by
  obtain ⟨D, h1, h2⟩ := h
  refine ⟨D, h1, fun u hu => ?_⟩
  rw [h2 u hu]
  by_cases hb : 0 ≤ u ∧ u < N
  · rw [he u.toNat (by omega)]
  · simp [hb]

/-- A map whose keys are numbers below N has no more than N. -/
theorem tight {H : Type} {R : Value → Option (DataW H × List MemPlace)} {w : World} {b n N : Nat} {D : DataW H} (h : w.ownsMap Tryd.prog 3 R b n D) (hk : ∀ u : Int, I64 u → Maps.has D (.int .i64 u) = true → 0 ≤ u ∧ u < N) : w.ownsMap Tryd.prog 3 R b N D := by
  obtain ⟨es, hD, hpw, _⟩ := h.entries Tryd.lawI
  obtain ⟨es', hD', hko⟩ := h.keysOf
  obtain rfl : es = es' := by rw [hD] at hD'; simpa using hD'
  have hkey : ∀ p ∈ es, ∃ k : Nat, k < N ∧ p.1 = .int .i64 (k : Int) := by
    intro p hp
    obtain ⟨v, hv⟩ := hko p hp
    obtain ⟨x, _, hx, hw⟩ := Maps.keyOf_i64 Tryd.underlying3 hv
    have hb := wf_bounds hw
    have := hk x ⟨hb.1, hb.2⟩ (by rw [hD, has_eq, List.any_eq_true]; exact ⟨p, hp, by rw [hx]; simp [Lit.sameKey]⟩)
    exact ⟨x.toNat, by omega, by rw [hx, Int.toNat_of_nonneg this.1]⟩
  have hlen : es.length ≤ N := by
    have := nat_nodup_len (es.map fun p => (Go.intOf p.1).toNat) (List.range N) (by
      refine List.pairwise_map.2 (hpw.imp_of_mem fun {p q} hp' hq' hne e => hne ?_)
      obtain ⟨a, _, ha⟩ := hkey p hp'
      obtain ⟨b, _, hb⟩ := hkey q hq'
      rw [ha, hb] at e ⊢
      simp [Go.intOf] at e
      rw [e]) (fun x hx => by
      obtain ⟨p, hp, rfl⟩ := List.mem_map.1 hx
      obtain ⟨a, ha, e⟩ := hkey p hp
      rw [e]; simpa [Go.intOf] using ha)
    simpa using this
  obtain ⟨es0, clock, h1, h2, h3, h4⟩ := h
  refine ⟨es0, clock, h1, h2, ?_, h4⟩
  rw [hD] at h4
  have := congrArg List.length (show es = _ by simpa using h4)
  rw [length_sorted] at this
  simp at this
  omega

theorem setN_made (w : World) (N : Nat) : SetN (w.alloc (.map #[] 0)) w.heap.size N (fun _ => false) :=
  ⟨.map [], (World.ownsMap_made _ _ _ _).mono (Nat.zero_le _), fun _ _ => by simp [Maps.has]⟩

theorem natI {N u : Nat} (hN : N ≤ 1000000) (hu : u < N) : I64 (u : Int) := by constructor <;> omega

theorem SetN.look {w : World} {b N : Nat} {S : Nat → Bool} (h : SetN w b N S) {u : Nat} (hN : N ≤ 1000000) (hu : u < N) :
    (Instr.lookup 86 (.map (some b)) (.int .i64 (u : Int)) true).run Tryd.prog w = .ok (.tuple #[.agg #[], .bool (S u)]) w := by
  obtain ⟨D, h1, h2⟩ := h
  obtain ⟨x, ps, hrun, hx⟩ := h1.look_ok Tryd.lawI Tryd.underlying86 (Tryd.zero93 w) unitElem_mk (hkeyI (natI hN hu))
  obtain ⟨rfl, _⟩ := unitElem_inv hx
  rw [h2 u (natI hN hu)] at hrun
  simpa [hu] using hrun

theorem SetN.store {w : World} {b N : Nat} {S : Nat → Bool} (h : SetN w b N S) {u : Nat} (hN : N ≤ 1000000) (hu : u < N) :
    ∃ w', (Instr.mapUpdate 86 (.map (some b)) (.int .i64 (u : Int)) (.agg #[])).run Tryd.prog w = .ok () w' ∧ SetN w' b N (fun k => k == u || S k) ∧ w.mapTurned w' b := by
  obtain ⟨D, h1, h2⟩ := h
  obtain ⟨w', hrun, hown, hturn⟩ := h1.store Tryd.lawI Tryd.underlying86 (by unfold maxLen; omega) (hkeyI (natI hN hu)) unitElem_mk
  have hh : ∀ x : Int, I64 x → Maps.has (D.put (.int .i64 (u : Int)) (.agg [])) (.int .i64 x) = (decide (0 ≤ x ∧ x < N) && (x.toNat == u || S x.toNat)) := by
    intro x hx
    by_cases e : x = u
    · subst e
      rw [has_put_same h1.isMap (isKeyI _)]
      simp; omega
    · rw [has_put_other (by simpa using e), h2 x hx]
      by_cases hb : 0 ≤ x ∧ x < N
      · have : (x.toNat == u) = false := by simp; omega
        simp [this]
      · simp [hb]
  refine ⟨w', hrun, ⟨_, tight hown (fun x hx hk => ?_), hh⟩, hturn⟩
  rw [hh x hx] at hk
  simp at hk
  exact hk.1

theorem SetN.drop {w : World} {b N : Nat} {S : Nat → Bool} (h : SetN w b N S) {u : Nat} (hN : N ≤ 1000000) (hu : u < N) (ty : TypeId) :
    ∃ w', (Builtin.delete_ #[86, 3] ty #[.map (some b), .int .i64 (u : Int)]).run Tryd.prog w = .ok (.tuple #[]) w' ∧ SetN w' b N (fun k => S k && k != u) ∧ w.mapTurned w' b := by
  obtain ⟨D, h1, h2⟩ := h
  obtain ⟨w', hrun, hown, hturn⟩ := h1.drop Tryd.lawI Tryd.underlying86 (hkeyI (natI hN hu)) ty
  refine ⟨w', hrun, ⟨_, hown, fun x hx => ?_⟩, hturn⟩
  by_cases e : x = u
  · subst e
    rw [has_del_same]
    simp
  · rw [has_del_other (by simpa using e), h2 x hx]
    by_cases hb : 0 ≤ x ∧ x < N
    · have : (x.toNat != u) = true := by simp; omega
      simp [this]
    · simp [hb]

theorem turned_turns {w w' : World} {b : Nat} (h : w.mapTurned w' b) : Turns (fun k => k = b) w w' := (Turns.of_grown h.grown).mono (fun k _ e => by simpa using e)

set_option maxHeartbeats 400000 in
theorem has_call {w : World} {b N : Nat} {S : Nat → Bool} (h : SetN w b N S) {u : Nat} (hN : N ≤ 1000000) (hu : u < N) :
    Calls Tryd.prog 57 #[.map (some b), .int .i64 (u : Int)] w fun e w' => e = .returned (.bool (S u)) ∧ Below w.heap.size w w' := by
  have hl := h.look hN hu
  go_enter Tryd.func57, Tryd.ntmps57
  go_wp2
  go_ret
  exact ⟨rfl, (Below.refl _ _).alloc (Nat.le_refl _) _⟩

set_option maxHeartbeats 400000 in
theorem add_call {w : World} {b N : Nat} {S : Nat → Bool} (h : SetN w b N S) {u : Nat} (hN : N ≤ 1000000) (hu : u < N) :
    Calls Tryd.prog 62 #[.map (some b), .int .i64 (u : Int)] w fun e w' => e = .returned (.tuple #[]) ∧ SetN w' b N (fun k => k == u || S k) ∧ Turns (fun k => k = b) w w' := by
  obtain ⟨w1, hrun, hS, ht⟩ := h.store hN hu
  go_enter Tryd.func62, Tryd.ntmps62
  go_wp2
  go_end0
  exact ⟨rfl, hS, turned_turns ht⟩
end Go.Proofs.YtmeodnkmhakidaaDoor

namespace Go.Proofs.YtmeodnkmhakidaaDoor
open Go.RowKit Go.Maps
attribute [local go_sem ↓] Go.wp_at_zero Go.wp_at_succ

theorem Tryd.info86 : (Tryd.prog.info? 86).map (fun i => (i.zero, i.size, i.bytes)) = some (some (.map none), 1, 8) := by kernel_rfl

/-- The slice v of n sets, set i in block bl i, tells e. -/
structure NearsAt (w : World) (ao : Option Addr) (n : Nat) (bl : Nat → Nat) (e : Nat → Nat → Bool) : Prop where
  inj : ∀ i j, i < n → j < n → bl i = bl j → i = j
  row : ∀ i, i < n → ∃ g, ao = some ⟨g, 0, none⟩ ∧ w.cell? ⟨g, i, none⟩ = some (.map (some (bl i)))
  sets : ∀ i, i < n → SetN w (bl i) n (e i)

theorem not_map {w : World} {p : Addr} {x : Value} (h : w.cell? p = some x) {b N : Nat} {S : Nat → Bool} (hs : SetN w b N S) : p.block ≠ b := by
  intro e
  obtain ⟨es, c, hm⟩ := hs.isMap
  rw [← e] at hm
  simp [World.cell?, hm] at h
theorem NearsAt.turns {M : Nat → Prop} {w w' : World} {ao : Option Addr} {n : Nat} {bl : Nat → Nat} {e : Nat → Nat → Bool} (h : NearsAt w ao n bl e) (ht : Turns M w w') (hm : ∀ i, i < n → ¬ M (bl i)) (hg : ∀ g, ao = some ⟨g, 0, none⟩ → ¬ M g) : NearsAt w' ao n bl e := by
  refine ⟨h.inj, fun i hi => ?_, fun i hi => (h.sets i hi).turns ht (hm i hi)⟩
  obtain ⟨g, e1, c⟩ := h.row i hi
  exact ⟨g, e1, cell_turns c ht (hg g e1)⟩
theorem NearsAt.below {w w' : World} {ao : Option Addr} {n : Nat} {bl : Nat → Nat} {e : Nat → Nat → Bool} (h : NearsAt w ao n bl e) (ht : Below w.heap.size w w') : NearsAt w' ao n bl e :=
  h.turns (M := fun _ => False) (Turns.of_below ht _) (fun _ _ h => h) (fun _ _ h => h)
theorem NearsAt.congr {w : World} {ao : Option Addr} {n : Nat} {bl : Nat → Nat} {e f : Nat → Nat → Bool} (h : NearsAt w ao n bl e) (he : ∀ i j, i < n → j < n → e i j = f i j) : NearsAt w ao n bl f :=
  ⟨h.inj, h.row, fun i hi => (h.sets i hi).congr (fun k hk => he i k hi hk)⟩
theorem NearsAt.put {w w' : World} {ao : Option Addr} {n : Nat} {bl : Nat → Nat} {e : Nat → Nat → Bool} (h : NearsAt w ao n bl e) {a b : Nat} (ha : a < n) (hs : SetN w' (bl a) n (fun k => k == b || e a k)) (ht : Turns (fun k => k = bl a) w w') :
    NearsAt w' ao n bl (fun x y => (x == a && y == b) || e x y) := by
  refine ⟨h.inj, fun i hi => ?_, fun i hi => ?_⟩
  · obtain ⟨g, e1, c⟩ := h.row i hi
    exact ⟨g, e1, cell_turns c ht (not_map c (h.sets a ha))⟩
  · by_cases he : i = a
    · subst he; simpa using hs
    · have := (h.sets i hi).turns ht (fun e => he (h.inj i a hi ha e))
      exact this.congr (fun k _ => by simp [he])

def Marks (n : Nat) (bl : Nat → Nat) : Nat → Prop := fun k => ∃ i, i < n ∧ k = bl i

set_option maxHeartbeats 400000 in
theorem all_call (n : Nat) (w : World) (hn : n ≤ 1000000) : Calls Tryd.prog 49 #[.int .i64 (n : Int)] w fun e w' => ∃ b, e = .returned (.map (some b)) ∧ w.heap.size ≤ b ∧ SetN w' b n (fun _ => true) ∧ Below w.heap.size w w' := by
  have hmm := @run_makeMap Tryd.prog
  go_enter Tryd.func49, Tryd.ntmps49
  go_wp2
  go_loopw [7] (fun i wr => ∃ k : Nat, k ≤ n ∧ i = .int .i64 (k : Int) ∧ SetN wr w.heap.size n (fun x => decide (x < k)) ∧ Below w.heap.size w wr) (fun i _ => n - (numOf i).toNat)
  case atStart => exact ⟨0, Nat.zero_le _, rfl, setN_made w n, (Below.refl _ _).alloc (Nat.le_refl _) _⟩
  case round =>
    obtain ⟨k, hk, rfl, hS, hB⟩ := hrel
    by_cases hlt : k < n
    · go_wp2_with (go_at_call 62; refine (add_call hS hn hlt).mono ?_; rintro e w1 ⟨rfl, hS1, ht1⟩)
      go_roundw
      case rel => exact ⟨k + 1, by omega, by go_num, hS1.congr (fun x _ => by rw [Bool.eq_iff_iff]; simp; omega), ht1.below hB hB.size (fun k e => by omega)⟩
      case measure => simp [numOf]; omega
    · go_wp2
      go_ret
      exact ⟨_, rfl, Nat.le_refl _, hS.congr (fun x hx => by simp; omega), hB⟩

set_option maxHeartbeats 400000 in
theorem empties_call (n : Nat) (w : World) (hn : n ≤ 1000000) : Calls Tryd.prog 60 #[.int .i64 (n : Int)] w fun e w' => ∃ ao, e = .returned (.slice ao n n) ∧ (∀ g, ao = some g → w.heap.size ≤ g.block) ∧ ∃ bl, NearsAt w' ao n bl (fun _ _ => false) ∧ (∀ i, i < n → w.heap.size ≤ bl i) ∧ Below w.heap.size w w' := by
  have hmm := @run_makeMap Tryd.prog
  obtain ⟨i0, hi, hz0, hz1, hz2⟩ := info_parts Tryd.info86
  go_enter Tryd.func60, Tryd.ntmps60
  go_wp2_with (at_make; refine wpList_make_full _ rfl _ _ 83 rfl w.heap.size 86 i0 (.map none) 1 Tryd.underlying83 hi hz0 hz1 .i64 .i64 _ _ n rfl rfl rfl rfl ?_ ?_ ?_ ?_; (rw [hz2]; omega); (unfold maxLen; omega); (omega); intro w1 hmade hg1)
  have hrow := rowV_made rfl hmade
  have hB1 : Below w.heap.size w w1 := (Below.refl _ _).grown hg1 (Nat.le_refl _) (fun k hk => by cases hk)
  clear hmade hg1
  go_loopw [9] (fun i wr => ∃ (k : Nat) (bl : Nat → Nat), k ≤ n ∧ i = .int .i64 (k : Int) ∧ RowV wr w.heap.size 86 n (fun j => if j < k then .map (some (bl j)) else .map none) ∧ (∀ i j, i < k → j < k → bl i = bl j → i = j) ∧ (∀ i, i < k → SetN wr (bl i) n (fun _ => false) ∧ w.heap.size < bl i) ∧ Below w.heap.size w wr) (fun i _ => n - (numOf i).toNat)
  case atStart => exact ⟨0, fun _ => 0, Nat.zero_le _, rfl, hrow.congr (fun j _ => by simp), fun i j h => absurd h (by omega), fun i h => absurd h (by omega), hB1⟩
  case round =>
    obtain ⟨k, bl, hk, rfl, hR, hinj, hsets, hB⟩ := hrel
    clear hrow hB1
    by_cases hlt : k < n
    · have c1 := all_alloc (hR.cell hlt)
      have f1 := all_free (a := ⟨w.heap.size, k, none⟩) hR.lt (hR.free k)
      have i1 : (0 : Int) ≤ (k : Int) := by omega
      have i2 : (k : Int) < (n : Int) := by omega
      go_wp2
      go_roundw
      case rel =>
        have hlR := hR.lt
        have hR2 := (hR.turns (alloc_turns wr (.map #[] 0) (fun _ => False)) (fun h => h)).set k (.map (some wr.heap.size))
        have ht : Turns (fun j => j = w.heap.size) wr ((wr.alloc (.map #[] 0)).setCell ⟨w.heap.size, k, none⟩ (.map (some wr.heap.size))) := (alloc_turns _ _ _).trans (setCell_turns _ _ _ _)
        have hlt2 : ∀ i, i < k → bl i < wr.heap.size := fun i h => (hsets i h).1.lt
        refine ⟨k + 1, fun j => if j = k then wr.heap.size else bl j, by omega, by go_num, hR2.congr (fun j _ => ?_), ?_, ?_, (hB.alloc hB.size _).setCell (by simp) _⟩
        · by_cases e : j = k
          · subst e; simp
          · simp [e]
            by_cases h2 : j < k
            · rw [if_pos h2, if_pos (by omega)]
            · rw [if_neg h2, if_neg (by omega)]
        · intro i j hi hj e
          by_cases h1 : i = k <;> by_cases h2 : j = k <;> simp [h1, h2] at e ⊢
          · have := hlt2 j (by omega); omega
          · have := hlt2 i (by omega); omega
          · exact hinj i j (by omega) (by omega) e
        · intro i hi
          by_cases h1 : i = k
          · simp [h1]
            exact ⟨(setN_made wr n).turns (setCell_turns _ _ _ _) (by omega), by omega⟩
          · simp [h1]
            have h3 := hsets i (by omega)
            exact ⟨h3.1.turns ht (by omega), h3.2⟩
      case measure => simp [numOf]; omega
    · have : k = n := by omega
      subst this
      go_wp2
      go_ret
      exact ⟨_, rfl, fun g e => by cases e; exact Nat.le_refl _, bl, ⟨hinj, fun i hi => ⟨_, rfl, by have := hR.cell hi; simpa [hi] using this⟩, fun i hi => (hsets i hi).1⟩, fun i hi => by have := (hsets i hi).2; omega, hB⟩

set_option maxHeartbeats 400000 in
theorem join_call {w : World} {ao : Option Addr} {cap n : Nat} {bl : Nat → Nat} {e : Nat → Nat → Bool} (h : NearsAt w ao n bl e) (hn : n ≤ 1000000) {a b : Nat} (ha : a < n) (hb : b < n) :
    Calls Tryd.prog 61 #[.slice ao n cap, .int .i64 (a : Int), .int .i64 (b : Int)] w fun r w' => r = .returned (.tuple #[]) ∧ NearsAt w' ao n bl (fun x y => (x == b && y == a) || ((x == a && y == b) || e x y)) ∧ Turns (Marks n bl) w w' := by
  obtain ⟨g, rfl, c1⟩ := h.row a ha
  have i1 : (0 : Int) ≤ (a : Int) := by omega
  have i2 : (a : Int) < (n : Int) := by omega
  have j1 : (0 : Int) ≤ (b : Int) := by omega
  have j2 : (b : Int) < (n : Int) := by omega
  go_enter Tryd.func61, Tryd.ntmps61
  go_upto_region 1 with (go_at_call 62; refine (add_call (h.sets a ha) hn hb).mono ?_; rintro r w1 ⟨rfl, hS1, ht1⟩)
  have h1 := h.put ha hS1 ht1
  obtain ⟨g', e', c2⟩ := h1.row b hb
  cases e'
  clear c1
  go_wp2_with (go_at_call 62; refine (add_call (h1.sets b hb) hn ha).mono ?_; rintro r w2 ⟨rfl, hS2, ht2⟩)
  go_end0
  exact ⟨rfl, h1.put hb hS2 ht2, (ht1.mono (fun k _ e => ⟨a, ha, e⟩)).trans (ht2.mono (fun k _ e => ⟨b, hb, e⟩))⟩

theorem hasB_take (es : List Pair) (k : Nat) (hk : k < es.length) (a b : Nat) (x y : Nat) (he : es[k] = ((x : Int), (y : Int))) : hasB (es.take (k + 1)) a b = ((a == y && b == x) || ((a == x && b == y) || hasB (es.take k) a b)) := by
  rw [List.take_succ_eq_append_getElem hk, he, hasB_snoc]
  have q : ∀ p q : Nat, ((p : Int) == (q : Int)) = (q == p) := fun p q => by rw [Bool.eq_iff_iff]; simp; omega
  rw [q, q, q, q]
  cases hasB (es.take k) a b <;> cases (a == x) <;> cases (b == y) <;> cases (a == y) <;> cases (b == x) <;> rfl

def bothB (es : List Pair) (a b : Nat) : Bool := hasB es a b

set_option maxHeartbeats 1000000 in
theorem bothWays_call (n : Nat) (v : Value) (es : List Pair) (w : World) (hE : EdgesAt w v es) (hn : n ≤ 1000) (hgood : ∀ e ∈ es, 0 ≤ e.1 ∧ e.1 < n ∧ 0 ≤ e.2 ∧ e.2 < n) :
    Calls Tryd.prog 48 #[.int .i64 (n : Int), v] w fun r w' => ∃ ao, r = .returned (.slice ao n n) ∧ (∀ g, ao = some g → w.heap.size ≤ g.block) ∧ ∃ bl, NearsAt w' ao n bl (bothB es) ∧ (∀ i, i < n → w.heap.size ≤ bl i) ∧ Below w.heap.size w w' := by
  obtain ⟨eo, cap, rfl, hl2, hI, hcells⟩ := hE
  clear hI
  have HG : Hid _ := hgood
  have HC : Hid _ := hcells
  clear hgood hcells
  go_enter Tryd.func48, Tryd.ntmps48
  go_wp2_with (go_at_call 60; refine (empties_call n _ (by omega)).mono ?_; rintro r w1 ⟨ao, rfl, hao, bl, hN1, hbl, hB1⟩)
  go_loopw [12] (fun i wr => ∃ k : Nat, k ≤ es.length ∧ i = .int .i64 (k : Int) ∧ NearsAt wr ao n bl (bothB (es.take k)) ∧ Below w.heap.size w wr) (fun i _ => es.length - (numOf i).toNat)
  case atStart => exact ⟨0, Nat.zero_le _, rfl, hN1.congr (fun i j _ _ => by simp [bothB, hasB]), hB1⟩
  case round =>
    obtain ⟨k, hk, rfl, hN, hB⟩ := hrel
    clear hN1 hB1
    by_cases hlt : k < es.length
    · obtain ⟨b, off, rfl, cx, cy⟩ := HC.out k hlt
      obtain ⟨x, y, hxy⟩ : ∃ x y, es[k] = (x, y) := ⟨es[k].1, es[k].2, rfl⟩
      have hgx := HG.out es[k] (List.getElem_mem _)
      rw [hxy] at cx cy hgx
      have hb := World.block_lt_of_cell? w _ cx
      rw [← hB.cell (by exact hb)] at cx cy
      obtain ⟨x0, x1, y0, y1⟩ := hgx
      obtain ⟨i, rfl⟩ : ∃ i : Nat, x = i := ⟨x.toNat, by omega⟩
      obtain ⟨j, rfl⟩ : ∃ j : Nat, y = j := ⟨y.toNat, by omega⟩
      have HXY : Hid _ := hxy
      clear hxy
      go_wp2_with (go_at_call 61; refine (join_call (hN.below (below_alloc (Below.refl _ _) _)) (by omega) (a := i) (b := j) (by omega) (by omega)).mono ?_; rintro r w2 ⟨rfl, hN2, ht2⟩)
      go_roundw
      case rel =>
        refine ⟨k + 1, by omega, by go_num, hN2.congr (fun a c _ _ => (hasB_take es k hlt a c i j HXY.out).symm), ht2.below (hB.alloc hB.size _) (by have := hB.size; simp; omega) ?_⟩
        rintro k ⟨i, hi, rfl⟩
        exact hbl i hi
      case measure => simp [numOf]; omega
    · have : k = es.length := by omega
      subst this
      rw [List.take_length] at hN
      go_wp2
      go_ret
      exact ⟨ao, rfl, hao, bl, hN, hbl, hB⟩
end Go.Proofs.YtmeodnkmhakidaaDoor
