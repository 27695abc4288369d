/- Maps from sets to loads: what lies in them, a range over one. What nodes weigh: width.weigh. Which load is to be taken: slices.Compare, isAhead, beats: no more than that the heavier one is. -/
import Derived.Test.YtdalconphfgepaaDoorLastMW
import Derived.Test.YtdalconphfgepaaDoorLiesF
namespace Go.Proofs.YtdalconphfgepaaDoor
set_option maxRecDepth 8000
open Go.RowKit Go.Maps
/-- A load as a value: what it weighs, and its nodes. -/
abbrev lv (p : Int × Nat) : Value := .agg #[.int .i64 p.1, .int .u64 (lo64 p.2 : Int), .int .u64 (hi64 p.2 : Int)]
def ldD (p : Int × Nat) : DataW Unit := .agg [.lit (.int .i64 p.1), .lit (.int .u64 (lo64 p.2 : Int)), .lit (.int .u64 (hi64 p.2 : Int))]
def loadElem : Value → Option (DataW Unit × List MemPlace)
  | .agg cs => match cs.toList with
    | [.int .i64 a, .int .u64 b, .int .u64 c] => some (.agg [.lit (.int .i64 a), .lit (.int .u64 b), .lit (.int .u64 c)], [])
    | _ => none
  | _ => none
theorem loadElem_mk (p : Int × Nat) : loadElem (lv p) = some (ldD p, []) := rfl
theorem loadElem_inv {v : Value} {y : DataW Unit × List MemPlace} (h : loadElem v = some y) : ∃ a b c, v = .agg #[.int .i64 a, .int .u64 b, .int .u64 c] ∧ y = (.agg [.lit (.int .i64 a), .lit (.int .u64 b), .lit (.int .u64 c)], []) := by
  unfold loadElem at h
  split at h
  · next cs =>
    split at h
    · next a b c e =>
      simp only [Option.some.injEq] at h
      refine ⟨a, b, c, ?_, h.symm⟩
      have h1 : cs = #[.int .i64 a, .int .u64 b, .int .u64 c] := Array.toList_inj.1 e
      rw [h1]
    · cases h
  · cases h
theorem loadElem_is {v : Value} {p : Int × Nat} {ps : List MemPlace} (h : loadElem v = some (ldD p, ps)) : v = lv p := by
  obtain ⟨a, b, c, rfl, e⟩ := loadElem_inv h
  unfold ldD at e
  simp only [Prod.mk.injEq, DataW.agg.injEq, List.cons.injEq, DataW.lit.injEq, Lit.int.injEq] at e
  obtain ⟨⟨⟨_, rfl⟩, ⟨_, rfl⟩, ⟨_, rfl⟩, _⟩, _⟩ := e
  rfl
theorem Tryd.zero78 (w : World) : (zeroValue 78).run Tryd.prog w = .ok (lv (0, 0)) w := by kernel_rfl
abbrev Lds := Nat → Option (Int × Nat)
def MapF (D : DataW Unit) (F : Lds) : Prop := (∀ s, s < 2 ^ 128 → Maps.has D (ks s) = (F s).isSome ∧ D.atKey (ks s) (ldD (0, 0)) = ldD ((F s).getD (0, 0))) ∧ (∀ s, F s ≠ none → s < 2 ^ 128) ∧ ∀ l, Maps.has D l = true → ∃ s, F s ≠ none ∧ l = ks s
def MapL (w : World) (b n : Nat) (F : Lds) : Prop := ∃ D : DataW Unit, w.ownsMap Tryd.prog 76 loadElem b n D ∧ MapF D F
theorem MapL.block {w w' : World} {b n : Nat} {F : Lds} (h : MapL w b n F) (hb : w'.heap[b]? = w.heap[b]?) : MapL w' b n F := by
  obtain ⟨D, ⟨es, clock, h1, h2⟩, h3⟩ := h
  exact ⟨D, ⟨es, clock, by rw [hb]; exact h1, h2⟩, h3⟩
theorem MapL.lt {w : World} {b n : Nat} {F : Lds} (h : MapL w b n F) : b < w.heap.size := by
  obtain ⟨D, h1, _⟩ := h; exact h1.lt
theorem MapL.under {w w' : World} {b n : Nat} {F : Lds} (h : MapL w b n F) (hb : Below w.heap.size w w') : MapL w' b n F := h.block (hb.block b h.lt)
theorem MapL.at_ {w : World} {b n : Nat} {F : Lds} (h : MapL w b n F) : ∃ es clock, w.heap[b]? = some (.map es clock) := by
  obtain ⟨D, ⟨es, clock, h1, h2⟩, h3⟩ := h
  exact ⟨es, clock, h1⟩
theorem MapL.bound {w : World} {b n : Nat} {F : Lds} (h : MapL w b n F) {s : Nat} (hs : F s ≠ none) : s < 2 ^ 128 := by
  obtain ⟨D, _, h3⟩ := h; exact h3.2.1 s hs
theorem mapL_made (w : World) : MapL (w.alloc (.map #[] 0)) w.heap.size 0 (fun _ => none) := ⟨.map [], World.ownsMap_made _ _ _ _, fun _ _ => ⟨rfl, rfl⟩, fun _ h => absurd rfl h, fun l h => by simp [Maps.has] at h⟩
theorem MapL.look {w : World} {b n : Nat} {F : Lds} (h : MapL w b n F) {s : Nat} (hs : s < 2 ^ 128) :
    (Instr.lookup 106 (.map (some b)) (sv s) true).run Tryd.prog w = .ok (.tuple #[lv ((F s).getD (0, 0)), .bool (F s).isSome]) w := by
  obtain ⟨D, h1, h2⟩ := h
  obtain ⟨x, ps, hrun, hx⟩ := h1.look_ok Tryd.law76 Tryd.underlying106 (Tryd.zero78 w) (loadElem_mk (0, 0)) (key_set hs)
  have h3 := h2.1 s hs
  rw [h3.2] at hx
  rw [h3.1, loadElem_is hx] at hrun
  exact hrun
theorem MapL.get {w : World} {b n : Nat} {F : Lds} (h : MapL w b n F) {s : Nat} (hs : s < 2 ^ 128) :
    (Instr.lookup 106 (.map (some b)) (sv s) false).run Tryd.prog w = .ok (lv ((F s).getD (0, 0))) w := by
  obtain ⟨D, h1, h2⟩ := h
  obtain ⟨x, ps, hrun, hx⟩ := h1.lookup Tryd.law76 Tryd.underlying106 (Tryd.zero78 w) (loadElem_mk (0, 0)) (key_set hs)
  have h3 := h2.1 s hs
  rw [h3.2] at hx
  rw [loadElem_is hx] at hrun
  exact hrun
theorem MapL.len {w : World} {b n : Nat} {F : Lds} (h : MapL w b n F) (ty : TypeId) : ∃ k : Nat, k ≤ n ∧ (Builtin.len_ #[106] ty #[.map (some b)]).run Tryd.prog w = .ok (.int .i64 (k : Int)) w := by
  obtain ⟨D, h1, _⟩ := h
  exact ⟨Maps.size D, h1.size_le, h1.len Tryd.underlying106 ty⟩
def updL (F : Lds) (s : Nat) (p : Int × Nat) : Lds := fun t => if t = s then some p else F t
theorem updL_same (F : Lds) (s : Nat) (p : Int × Nat) : updL F s p s = some p := if_pos rfl
theorem MapL.store {w : World} {b n : Nat} {F : Lds} (h : MapL w b n F) {s : Nat} (hs : s < 2 ^ 128) (p : Int × Nat) (hn : n < 1000000000) :
    ∃ w', (Instr.mapUpdate 106 (.map (some b)) (sv s) (lv p)).run Tryd.prog w = .ok () w' ∧ MapL w' b (n + 1) (updL F s p) ∧ w.mapTurned w' b := by
  obtain ⟨D, h1, h2⟩ := h
  obtain ⟨w', hrun, hown, hturn⟩ := h1.store Tryd.law76 Tryd.underlying106 (by unfold maxLen; omega) (key_set hs) (loadElem_mk p)
  refine ⟨w', hrun, ⟨_, hown, fun t ht => ?_, fun t ht => ?_, fun l hl => ?_⟩, hturn⟩
  · unfold updL
    by_cases e : t = s
    · subst e
      rw [if_pos rfl, has_put_same h1.isMap (Tryd.law76.key (key_set hs)), atKey_put_same h1.isMap (Tryd.law76.key (key_set hs))]
      exact ⟨rfl, rfl⟩
    · rw [if_neg e, has_put_other (fun hk => e (ks_inj ht hs hk)), atKey_put_other (fun hk => e (ks_inj ht hs hk))]
      exact h2.1 t ht
  · unfold updL at ht
    by_cases e : t = s
    · rw [e]; exact hs
    · rw [if_neg e] at ht; exact h2.2.1 t ht
  · by_cases e : l = ks s
    · exact ⟨s, by rw [updL_same]; simp, e⟩
    · rw [has_put_other e] at hl
      obtain ⟨t, h3, h4⟩ := h2.2.2 l hl
      refine ⟨t, ?_, h4⟩
      unfold updL
      split
      · simp
      · exact h3
/-- A range that is under way: V are the sets that were met. -/
def RanL (w : World) (b r n : Nat) (F : Lds) (V : Nat → Prop) (cnt : Nat) : Prop := ∃ (D : DataW Unit) (left : Lit → Bool), w.ranges Tryd.prog 76 loadElem b r n D left cnt ∧ MapF D F ∧ ∀ s, F s ≠ none → (left (ks s) = false ↔ V s)
theorem RanL.map {w : World} {b r n cnt : Nat} {F : Lds} {V : Nat → Prop} (h : RanL w b r n F V cnt) : MapL w b n F := by
  obtain ⟨D, left, h1, h2, _⟩ := h
  exact ⟨D, h1.owns, h2⟩
theorem RanL.kept {w w' : World} {b r n cnt : Nat} {F : Lds} {V : Nat → Prop} {row : Option Nat} (h : RanL w b r n F V cnt) (hg : w.grownBy w' row) (h1 : some b ≠ row) (h2 : some r ≠ row) : RanL w' b r n F V cnt := by
  obtain ⟨D, left, h3, h4⟩ := h
  exact ⟨D, left, h3.kept hg h1 h2, h4⟩
theorem RanL.left_eq {w : World} {b r n cnt : Nat} {F : Lds} {V : Nat → Prop} (h : RanL w b r n F V cnt) : w.rangeLeft b r = cnt := by
  obtain ⟨D, left, h1, _⟩ := h
  exact h1.left_eq
theorem key_inv76 {v : Value} {l : Lit} {s : Nat} (hs : s < 2 ^ 128) (h : keyOf Tryd.prog 76 v = some l) (e : l = ks s) : v = sv s := by
  subst e
  exact Tryd.law76.inj h (key_set hs)
section
variable {w : World} {ops : Array Oper} {rest : List Oper} {o : Oper} {a : Act} {Q : Exit → Act → World → Prop}
theorem wpList_range_L (hg : o.guard = none) (m : Operand) (hop : o.op = Op.range 106 m) {b n : Nat} {F : Lds} (hm : a.eval m = .map (some b)) (h : MapL w b n F)
    (hK : ∀ w' cnt, cnt ≤ n → RanL w' b w.heap.size n F (fun _ => False) cnt → w.grownBy w' none → w'.heap.size = w.heap.size + 1 → wpList Tryd.prog ops Q rest (a.put o.dst (.pointer (some ⟨w.heap.size, 0, none⟩))) w') :
    wpList Tryd.prog ops Q (o :: rest) a w := by
  obtain ⟨D, h1, h2⟩ := h
  exact wpList_range_own w hg m 106 hop 76 78 Tryd.law76 Tryd.underlying106 loadElem b n D hm h1 fun w' r1 r2 r3 => hK w' _ h1.size_le ⟨D, _, r1, h2, fun s hs => by
    rw [(h2.1 s (h2.2.1 s hs)).1]
    cases hF : F s with
    | none => exact absurd hF hs
    | some p => simp⟩ r2 r3
theorem wpList_next_L (hg : o.guard = none) (it : Operand) (hop : o.op = Op.next it false) {b r n cnt : Nat} {F : Lds} {V : Nat → Prop} (hit : a.eval it = .pointer (some ⟨r, 0, none⟩)) (h : RanL w b r n F V cnt)
    (hDone : (∀ s, F s ≠ none → V s) → wpList Tryd.prog ops Q rest (a.put o.dst (.tuple #[.bool false])) w)
    (hMore : ∀ (s : Nat) (p : Int × Nat) (w' : World) (cnt' : Nat), s < 2 ^ 128 → F s = some p → ¬ V s → RanL w' b r n F (fun t => V t ∨ t = s) cnt' → cnt' < cnt → w.grownBy w' (some r) → w'.heap.size = w.heap.size →
      (Instr.entry (.pointer (some ⟨r, 0, none⟩))).run Tryd.prog w' = .ok (.tuple #[sv s, lv p]) w' → wpList Tryd.prog ops Q rest (a.put o.dst (.tuple #[.bool true, sv s, lv p])) w') :
    wpList Tryd.prog ops Q (o :: rest) a w := by
  obtain ⟨D, left, h1, h2, h3⟩ := h
  refine wpList_next_ranges (α := Value) (β := Int × Int × Int) w hg it hop 76 Tryd.law76 loadElem id (fun c => .agg #[.int .i64 c.1, .int .u64 c.2.1, .int .u64 c.2.2]) (fun key _ _ => ⟨key, rfl⟩) (fun v y hv => by
    obtain ⟨x, y1, z, rfl, _⟩ := loadElem_inv hv
    exact ⟨(x, y1, z), rfl⟩) b r n D left cnt hit h1 (fun _ hl => hDone fun s hs => (h3 s hs).1 (hl _)) ?_
  intro x c l y w' cnt' hkey hlk hv hat hrg hlt hgr hsz hen
  obtain ⟨s, hF, rfl⟩ := h2.2.2 l (has_true_of_atKey hat)
  have hs := h2.2.1 s hF
  have hx : x = sv s := key_inv76 hs hkey rfl
  subst hx
  obtain ⟨p, hp⟩ : ∃ p, F s = some p := by
    cases e : F s with
    | none => exact absurd e hF
    | some p => exact ⟨p, rfl⟩
  have hd := hat (ldD (0, 0))
  rw [(h2.1 s hs).2, hp, Option.getD_some] at hd
  have hvv : loadElem (.agg #[.int .i64 c.1, .int .u64 c.2.1, .int .u64 c.2.2]) = some (ldD p, y.2) := by rw [hv, hd]
  have hc := loadElem_is hvv
  simp only [id] at hkey hen ⊢
  simp only [hc] at hen ⊢
  refine hMore s p w' cnt' hs hp (fun hV => ?_) ⟨D, _, hrg, h2, fun t ht => ?_⟩ hlt hgr hsz hen
  · rw [(h3 s hF).2 hV] at hlk
    cases hlk
  · by_cases e : t = s
    · subst e
      have hk : (ks t).sameKey (ks t) = true := WideAt.sameKey_self (Tryd.law76.key (key_set hs))
      simp [hk]
    · have hne : ks t ≠ ks s := fun h => e (ks_inj (h2.2.1 t ht) hs h)
      rw [sameKey_ne hne]
      simp only [Bool.not_false, Bool.and_true]
      rw [h3 t ht]
      simp [e]
end
end Go.Proofs.YtdalconphfgepaaDoor

namespace Go.Proofs.YtdalconphfgepaaDoor
set_option maxRecDepth 8000
open Go.RowKit Go.Maps
attribute [local go_sem ↓] Go.wp_at_zero Go.wp_at_succ
def wsum (wt : Nat → Int) (s : Nat) : Int := ((elems s).map wt).sum
theorem sum_bd {wt : Nat → Int} (hw : ∀ i, -1000000 ≤ wt i ∧ wt i ≤ 1000000) : ∀ l : List Nat, -(1000000 * (l.length : Int)) ≤ (l.map wt).sum ∧ (l.map wt).sum ≤ 1000000 * (l.length : Int)
  | [] => by simp
  | x :: l => by
    have h1 := sum_bd hw l
    have h2 := hw x
    simp only [List.map_cons, List.sum_cons, List.length_cons]
    omega
theorem wsum_bd {wt : Nat → Int} (hw : ∀ i, -1000000 ≤ wt i ∧ wt i ≤ 1000000) (s : Nat) : -128000000 ≤ wsum wt s ∧ wsum wt s ≤ 128000000 := by
  have h1 := sum_bd hw (elems s)
  have h2 : (elems s).length ≤ 128 := count_le s
  unfold wsum
  omega
theorem sum_take {wt : Nat → Int} {l : List Nat} {i v : Nat} (h : l[i]? = some v) : ((l.take (i + 1)).map wt).sum = ((l.take i).map wt).sum + wt v := by
  have hlt := (List.getElem?_eq_some_iff.1 h).1
  rw [List.take_succ_eq_append_getElem hlt]
  rw [List.getElem?_eq_getElem hlt] at h
  rw [Option.some.inj h, List.map_append, List.sum_append]
  simp
/-- The scale as a value. -/
abbrev scv (x0 : Value) (wo : Option Addr) (N wc : Nat) (x2 x3 x4 : Value) : Value := .agg #[x0, .slice wo N wc, x2, x3, x4]
set_option maxHeartbeats 2000000 in
theorem weigh_call {w : World} {x0 x2 x3 x4 : Value} {wo : Option Addr} {N wc s : Nat} {wt : Nat → Int} (hF : NumF w wo N wt) (hw : ∀ i, -1000000 ≤ wt i ∧ wt i ≤ 1000000) (hs : s < 2 ^ 128) (hb : ∀ x, s.testBit x = true → x < N) (ht : T64 w) :
    Calls Tryd.prog 77 #[scv x0 wo N wc x2 x3 x4, sv s] w fun e w' => e = .returned (.int .i64 (wsum wt s)) ∧ Below w.heap.size w w' := by
  have C43 : Hid (∀ A, T64 A → Calls Tryd.prog 43 #[sv s] A fun e w' => RisA A w' e (elems s)) := fun A hA => rising_call hs hA
  have HEB : Hid (∀ x, x ∈ elems s → x < N) := fun x hx => hb x ((mem_elems hs).1 hx)
  have HSW : Hid (wsum wt s = ((elems s).map wt).sum) := rfl
  have hEl : (elems s).length ≤ 128 := count_le s
  have HH : Hid (NumF w wo N wt ∧ (∀ i, -1000000 ≤ wt i ∧ wt i ≤ 1000000) ∧ T64 w) := ⟨hF, hw, ht⟩
  generalize elems s = E at *
  generalize wsum wt s = RES at *
  clear hF hw ht hs hb
  go_enter Tryd.func77, Tryd.ntmps77
  go_upto_region 2 with (fail)
  have y2 : Box ((w.alloc (Obj.cells #[x0, .slice wo N wc, x2, x3, x4] 80)).alloc (Obj.cells #[.int .u64 (lo64 s : Int), .int .u64 (hi64 s : Int)] 76)) w.heap.size #[x0, .slice wo N wc, x2, x3, x4] 80 := (below_alloc (Below.refl _ _) _).block _ (by simp) |>.trans (heap_alloc_new _ _)
  have y3 := two_new (w.alloc (Obj.cells #[x0, .slice wo N wc, x2, x3, x4] 80)) (.int .u64 (lo64 s : Int)) (.int .u64 (hi64 s : Int)) 76
  have hB := below_alloc (below_alloc (Below.refl _ w) (Obj.cells #[x0, .slice wo N wc, x2, x3, x4] 80)) (Obj.cells #[.int .u64 (lo64 s : Int), .int .u64 (hi64 s : Int)] 76)
  have e3 : (w.alloc (Obj.cells #[x0, .slice wo N wc, x2, x3, x4] 80)).heap.size = w.heap.size + 1 := by simp
  rw [e3] at y3
  generalize (w.alloc (Obj.cells #[x0, .slice wo N wc, x2, x3, x4] 80)).alloc (Obj.cells #[.int .u64 (lo64 s : Int), .int .u64 (hi64 s : Int)] 76) = W0 at *
  obtain ⟨b2, hb2⟩ : ∃ b, b = w.heap.size := ⟨_, rfl⟩
  obtain ⟨b3, hb3⟩ : ∃ b, b = w.heap.size + 1 := ⟨_, rfl⟩
  rw [← hb3] at y3 ⊢
  rw [← hb2] at y2 ⊢
  have HW0 : Hid (Box W0 b2 #[x0, .slice wo N wc, x2, x3, x4] 80 ∧ Below w.heap.size w W0) := ⟨y2, hB⟩
  obtain ⟨c0, c1⟩ := cell_two y3
  have T0 : T64 W0 := HH.out.2.2.under hB
  clear y2 y3 hB hb2 hb3 e3
  go_upto_region 3 with (first | (go_at_call 43; refine Calls.mono (C43.out _ T0) ?_; rintro e w3 ⟨lo, rc, rfl, hR, h3⟩) | fail)
  have HW3 : Hid (Box w3 b2 #[x0, .slice wo N wc, x2, x3, x4] 80 ∧ Below w.heap.size w w3 ∧ w3.ownsRow W0.heap.size 3 1 (.slice lo E.length rc) E.length (qv E)) := ⟨(h3.block b2 (lt_of_block HW0.out.1)).trans HW0.out.1, below_next HW0.out.2 h3, hR⟩
  have k1 : w3.cell? ⟨b2, 1, none⟩ = some (.slice wo N wc) := box_cell HW3.out.1 (i := 1) rfl
  have hFw := HH.out.1.below HW3.out.2.1
  clear c0 c1 T0 h3 hR C43
  go_loopw [5, 7, 11] (fun s5 _ s11 wz => ∃ i : Nat, i ≤ E.length ∧ s11 = .int .i64 (i : Int) ∧ s5 = .int .i64 (((E.take i).map wt).sum) ∧ wz = w3) (fun _ _ s11 _ => E.length - (numOf s11).toNat)
  case atStart => exact ⟨0, Nat.zero_le _, rfl, by simp, rfl⟩
  case round =>
    obtain ⟨i, hi, rfl, rfl, rfl⟩ := hrel
    by_cases hlt : i < E.length
    · obtain ⟨v, hv⟩ : ∃ v, E[i]? = some v := ⟨_, List.getElem?_eq_getElem hlt⟩
      obtain ⟨gq, rfl, cq⟩ := qcell HW3.out.2.2 hv
      have hvN := HEB.out v (List.mem_of_getElem? hv)
      obtain ⟨wb, woff, rfl, cw⟩ := hFw v hvN
      have hs1 := sum_bd HH.out.2.1 (E.take i)
      have hs2 := HH.out.2.1 v
      have hst := sum_take (wt := wt) hv
      have hl2 : (E.take i).length ≤ 128 := by rw [List.length_take]; omega
      generalize ((E.take i).map wt).sum = S at *
      have HST : Hid _ := hst
      have i1 : (0 : Int) ≤ (i : Int) := by omega
      have i2 : (i : Int) < (E.length : Int) := by omega
      have j1 : (0 : Int) ≤ (v : Int) := by omega
      have j2 : (v : Int) < (N : Int) := by omega
      have b1 : -9223372036854775808 ≤ S + wt v := by omega
      have b2' : S + wt v < 9223372036854775808 := by omega
      clear hst hFw hs1 hs2 hv
      go_wp2
      go_roundw
      case rel => exact ⟨i + 1, by omega, by go_num, by rw [HST.out], trivial⟩
      case measure => simp [numOf]; omega
    · obtain rfl : i = E.length := by omega
      rw [List.take_length, ← HSW.out]
      go_wp2
      go_ret
      exact ⟨rfl, HW3.out.2.1⟩
end Go.Proofs.YtdalconphfgepaaDoor

namespace Go.Proofs.YtdalconphfgepaaDoor
set_option maxRecDepth 8000
open Go.RowKit Go.Maps
attribute [local go_sem ↓] Go.wp_at_zero Go.wp_at_succ
theorem isNaN_call (x : Int) (w : World) : Calls Tryd.prog 82 #[.int .u64 x] w fun e w' => e = .returned (.bool false) ∧ w' = w := by
  go_enter Tryd.func82, Tryd.ntmps82
  go_wp2
  go_ret
  exact ⟨rfl, rfl⟩
theorem compare_call (x y : Int) (w : World) : Calls Tryd.prog 81 #[.int .u64 x, .int .u64 y] w fun e w' => (∃ c : Int, e = .returned (.int .i64 c)) ∧ w' = w := by
  have C82 : Hid (∀ z A, Calls Tryd.prog 82 #[.int .u64 z] A fun e w' => e = .returned (.bool false) ∧ w' = A) := isNaN_call
  go_enter Tryd.func81, Tryd.ntmps81
  go_upto_region 2 with (first | (go_at_call 82; refine Calls.mono (C82.out _ _) ?_; rintro e w1 ⟨rfl, rfl⟩) | fail)
  go_upto_region 9 with (first | (go_at_call 82; refine Calls.mono (C82.out _ _) ?_; rintro e w2 ⟨rfl, rfl⟩) | fail)
  by_cases h1 : x < y
  · have k1 : decide (x < y) = true := by simpa using h1
    go_wp2
    go_ret
    exact ⟨⟨_, rfl⟩, rfl⟩
  · have k1 : decide (x < y) = false := by simpa using h1
    by_cases h2 : y < x
    · have k2 : decide (y < x) = true := by simpa using h2
      go_wp2
      go_ret
      exact ⟨⟨_, rfl⟩, rfl⟩
    · have k2 : decide (y < x) = false := by simpa using h2
      go_wp2
      go_ret
      exact ⟨⟨_, rfl⟩, rfl⟩
set_option maxHeartbeats 1000000 in
theorem cmp_call {w : World} {b c : Nat} {f g : Nat → Int} (hf : ∀ i, i < 2 → w.cell? ⟨b, i, none⟩ = some (.int .u64 (f i))) (hg : ∀ i, i < 2 → w.cell? ⟨c, i, none⟩ = some (.int .u64 (g i))) :
    Calls Tryd.prog 80 #[.slice (some ⟨b, 0, none⟩) 2 2, .slice (some ⟨c, 0, none⟩) 2 2] w fun e w' => (∃ c : Int, e = .returned (.int .i64 c)) ∧ w' = w := by
  have C81 : Hid (∀ x y A, Calls Tryd.prog 81 #[.int .u64 x, .int .u64 y] A fun e w' => (∃ c : Int, e = .returned (.int .i64 c)) ∧ w' = A) := compare_call
  go_enter Tryd.func80, Tryd.ntmps80
  go_upto_region 2 with (fail)
  go_loopw [5, 6, 7, 8, 11] (fun _ _ _ _ s11 wz => ∃ k : Nat, k ≤ 2 ∧ s11 = .int .i64 (k : Int) ∧ wz = w) (fun _ _ _ _ s11 _ => 2 - (numOf s11).toNat)
  case atStart => exact ⟨0, by omega, rfl, rfl⟩
  case round =>
    obtain ⟨k, hk, rfl, rfl⟩ := hrel
    by_cases hlt : k < 2
    · have c1 := hf k hlt
      have c2 := hg k hlt
      have i1 : (0 : Int) ≤ (k : Int) := by omega
      have i2 : (k : Int) < 2 := by omega
      have i3 : decide ((2 : Int) ≤ (k : Int)) = false := by simp; omega
      go_upto_region 8 with (first | (go_at_call 81; refine Calls.mono (C81.out _ _ _) ?_; rintro e w1 ⟨⟨z, rfl⟩, rfl⟩) | fail)
      by_cases hz : z = 0
      · have kz : (z != 0) = false := by simpa using hz
        go_wp2
        go_roundw
        case rel => exact ⟨k + 1, by omega, by go_num, trivial⟩
        case measure => simp [numOf]; omega
      · have kz : (z != 0) = true := by simpa using hz
        go_wp2
        go_ret
        exact ⟨⟨_, rfl⟩, rfl⟩
    · obtain rfl : k = 2 := by omega
      go_wp2
      go_ret
      exact ⟨⟨_, rfl⟩, rfl⟩
set_option maxHeartbeats 1000000 in
theorem ahead_call {w : World} {s t : Nat} : Calls Tryd.prog 79 #[sv s, sv t] w fun e w' => (∃ x : Bool, e = .returned (.bool x)) ∧ Below w.heap.size w w' := by
  obtain ⟨s0, hs0⟩ : ∃ x : Int, x = (lo64 s : Int) := ⟨_, rfl⟩
  obtain ⟨s1, hs1⟩ : ∃ x : Int, x = (hi64 s : Int) := ⟨_, rfl⟩
  obtain ⟨t0, ht0⟩ : ∃ x : Int, x = (lo64 t : Int) := ⟨_, rfl⟩
  obtain ⟨t1, ht1⟩ : ∃ x : Int, x = (hi64 t : Int) := ⟨_, rfl⟩
  show Calls Tryd.prog 79 #[.agg #[.int .u64 (lo64 s : Int), .int .u64 (hi64 s : Int)], .agg #[.int .u64 (lo64 t : Int), .int .u64 (hi64 t : Int)]] w _
  rw [← hs0, ← hs1, ← ht0, ← ht1]
  clear hs0 hs1 ht0 ht1
  go_enter Tryd.func79, Tryd.ntmps79
  go_upto_region 1 with (fail)
  have y2 : Two ((w.alloc (Obj.cells #[.int .u64 s0, .int .u64 s1] 76)).alloc (Obj.cells #[.int .u64 t0, .int .u64 t1] 76)) w.heap.size (.int .u64 s0) (.int .u64 s1) 76 := two_alloc (two_new _ _ _ _) _
  have y3 : Two ((w.alloc (Obj.cells #[.int .u64 s0, .int .u64 s1] 76)).alloc (Obj.cells #[.int .u64 t0, .int .u64 t1] 76)) (w.heap.size + 1) (.int .u64 t0) (.int .u64 t1) 76 := two_nxt _ _ _ _ _
  have hB : Below w.heap.size w ((w.alloc (Obj.cells #[.int .u64 s0, .int .u64 s1] 76)).alloc (Obj.cells #[.int .u64 t0, .int .u64 t1] 76)) := below_alloc (below_alloc (Below.refl _ w) _) _
  generalize (w.alloc (Obj.cells #[.int .u64 s0, .int .u64 s1] 76)).alloc (Obj.cells #[.int .u64 t0, .int .u64 t1] 76) = W0 at *
  have HB : Hid _ := hB
  have C80 : Hid (∀ A, Below W0.heap.size W0 A → Calls Tryd.prog 80 #[.slice (some ⟨w.heap.size, 0, none⟩) 2 2, .slice (some ⟨w.heap.size + 1, 0, none⟩) 2 2] A fun e w' => (∃ c : Int, e = .returned (.int .i64 c)) ∧ w' = A) := fun A hA => cmp_call (f := fun i => if i = 0 then s0 else s1) (g := fun i => if i = 0 then t0 else t1) (fun i hi => by
    obtain ⟨c0, c1⟩ := cell_two (two_next y2 hA)
    match i, hi with
    | 0, _ => exact c0
    | 1, _ => exact c1) (fun i hi => by
    obtain ⟨c0, c1⟩ := cell_two (two_next y3 hA)
    match i, hi with
    | 0, _ => exact c0
    | 1, _ => exact c1)
  clear y2 y3 hB
  refine wp_region_tailT 2 (by kernel_rfl) (by kernel_rfl) (by kernel_rfl) (by decide) ?_
  simp only [List.take_succ_cons, List.take_zero, List.drop_succ_cons, List.drop_zero]
  repeat (go_big_quiet_step (fail))
  refine wpQuiet_nil ?_
  rintro _ ⟨gp, rfl⟩
  have hB8 := growD_below W0 gp
  generalize growD W0 gp = W1 at *
  have HC : Hid _ := C80.out _ hB8
  have HB8 : Hid _ := below_next HB.out hB8
  clear C80 hB8
  go_wp2_with (first | (go_at_call 80; refine Calls.mono HC.out ?_; rintro e w2 ⟨⟨z, rfl⟩, rfl⟩) | go_in)
  go_ret
  exact ⟨⟨_, rfl⟩, HB8.out⟩
def BeatA (p q : Int) (e : Ending) : Prop := ∃ x : Bool, e = .returned (.bool x) ∧ (q < p → x = true) ∧ (p < q → x = false)
set_option maxHeartbeats 2000000 in
theorem beats_call {w : World} {p q : Int × Nat} : Calls Tryd.prog 78 #[lv p, lv q] w fun e w' => BeatA p.1 q.1 e ∧ Below w.heap.size w w' := by
  obtain ⟨p1, p2⟩ := p
  obtain ⟨q1, q2⟩ := q
  have C79 : Hid (∀ A, Calls Tryd.prog 79 #[.agg #[.int .u64 (lo64 p2 : Int), .int .u64 (hi64 p2 : Int)], .agg #[.int .u64 (lo64 q2 : Int), .int .u64 (hi64 q2 : Int)]] A fun e w' => (∃ x : Bool, e = .returned (.bool x)) ∧ Below A.heap.size A w') := fun A => ahead_call
  show Calls Tryd.prog 78 #[.agg #[.int .i64 p1, .int .u64 (lo64 p2 : Int), .int .u64 (hi64 p2 : Int)], .agg #[.int .i64 q1, .int .u64 (lo64 q2 : Int), .int .u64 (hi64 q2 : Int)]] w _
  simp only
  generalize (lo64 p2 : Int) = s0 at *
  generalize (hi64 p2 : Int) = s1 at *
  generalize (lo64 q2 : Int) = t0 at *
  generalize (hi64 q2 : Int) = t1 at *
  go_enter Tryd.func78, Tryd.ntmps78
  go_upto_region 1 with (fail)
  have y2 : Box ((w.alloc (Obj.cells #[.int .i64 p1, .int .u64 s0, .int .u64 s1] 78)).alloc (Obj.cells #[.int .i64 q1, .int .u64 t0, .int .u64 t1] 78)) w.heap.size #[.int .i64 p1, .int .u64 s0, .int .u64 s1] 78 := (below_alloc (Below.refl _ _) _).block _ (by simp) |>.trans (heap_alloc_new _ _)
  have y3 : Box ((w.alloc (Obj.cells #[.int .i64 p1, .int .u64 s0, .int .u64 s1] 78)).alloc (Obj.cells #[.int .i64 q1, .int .u64 t0, .int .u64 t1] 78)) (w.heap.size + 1) #[.int .i64 q1, .int .u64 t0, .int .u64 t1] 78 := by
    have := heap_alloc_new (w.alloc (Obj.cells #[.int .i64 p1, .int .u64 s0, .int .u64 s1] 78)) (Obj.cells #[.int .i64 q1, .int .u64 t0, .int .u64 t1] 78)
    have e : (w.alloc (Obj.cells #[.int .i64 p1, .int .u64 s0, .int .u64 s1] 78)).heap.size = w.heap.size + 1 := by simp
    rw [e] at this
    exact this
  have hB : Below w.heap.size w ((w.alloc (Obj.cells #[.int .i64 p1, .int .u64 s0, .int .u64 s1] 78)).alloc (Obj.cells #[.int .i64 q1, .int .u64 t0, .int .u64 t1] 78)) := below_alloc (below_alloc (Below.refl _ w) _) _
  generalize (w.alloc (Obj.cells #[.int .i64 p1, .int .u64 s0, .int .u64 s1] 78)).alloc (Obj.cells #[.int .i64 q1, .int .u64 t0, .int .u64 t1] 78) = W0 at *
  have a0 : W0.cell? ⟨w.heap.size, 0, none⟩ = some (.int .i64 p1) := box_cell y2 (i := 0) rfl
  have a1 : W0.cell? ⟨w.heap.size, 1, none⟩ = some (.int .u64 s0) := box_cell y2 (i := 1) rfl
  have a2 : W0.cell? ⟨w.heap.size, 2, none⟩ = some (.int .u64 s1) := box_cell y2 (i := 2) rfl
  have c0 : W0.cell? ⟨w.heap.size + 1, 0, none⟩ = some (.int .i64 q1) := box_cell y3 (i := 0) rfl
  have c1 : W0.cell? ⟨w.heap.size + 1, 1, none⟩ = some (.int .u64 t0) := box_cell y3 (i := 1) rfl
  have c2 : W0.cell? ⟨w.heap.size + 1, 2, none⟩ = some (.int .u64 t1) := box_cell y3 (i := 2) rfl
  have HB : Hid _ := hB
  clear y2 y3 hB
  by_cases h1 : q1 < p1
  · have k1 : decide (q1 < p1) = true := by simpa using h1
    go_wp2
    go_ret
    exact ⟨⟨true, rfl, fun _ => rfl, fun h => absurd h (by omega)⟩, HB.out⟩
  · have k1 : decide (q1 < p1) = false := by simpa using h1
    by_cases h2 : p1 = q1
    · have k2 : (p1 == q1) = true := by simpa using h2
      have HE : Hid (p1 = q1) := h2
      clear h1 h2
      go_wp2_with (first | (go_at_call 79; refine Calls.mono (C79.out _) ?_; rintro e w2 ⟨⟨z, rfl⟩, h2⟩) | go_in)
      go_ret
      refine ⟨⟨_, rfl, fun h => ?_, fun h => ?_⟩, below_next HB.out h2⟩
      · have := HE.out; omega
      · have := HE.out; omega
    · have k2 : (p1 == q1) = false := by simpa using h2
      have HE : Hid (¬ q1 < p1) := h1
      clear h1 h2
      go_wp2
      go_ret
      exact ⟨⟨false, rfl, fun h => absurd h (by have := HE.out; omega), fun _ => rfl⟩, HB.out⟩
end Go.Proofs.YtdalconphfgepaaDoor
