/- nearIn: it tells the first fault of a graph, or hands back a function that knows its edges. -/
import Derived.Test.YtkbgcbbloogdjacNear
import Derived.BigQuiet
import Derived.Deep.Light
import Derived.Deep.QuietTactic
namespace Go.Proofs.Ytkbgcbbloogdjac
open Go.RowKit Go.Maps
attribute [local go_sem ↓] Go.wp_at_zero Go.wp_at_succ


theorem cell_two {w : World} {b : Nat} {x y : Value} {t : TypeId} (h : w.heap[b]? = some (.cells #[x, y] t (0, 0))) : w.cell? ⟨b, 0, none⟩ = some x ∧ w.cell? ⟨b, 1, none⟩ = some y := by
  constructor <;> simp [World.cell?, h]
theorem free_two {w : World} {b : Nat} {x y : Value} {t : TypeId} (h : w.heap[b]? = some (.cells #[x, y] t (0, 0))) (o : Nat) : w.frozen? ⟨b, o, none⟩ = false := by
  simp [World.frozen?, h]

theorem all_alloc {w : World} {a : Addr} {v : Value} (h : w.cell? a = some v) : ∀ o, (w.alloc o).cell? a = some v := fun o => by
  rw [World.cell?_alloc_some _ _ _ (by rw [h]; rfl)]; exact h
theorem all_free {w : World} {a : Addr} (ha : a.block < w.heap.size) (h : w.frozen? a = false) : ∀ o, (w.alloc o).frozen? a = false := fun o => by
  rw [((Below.refl _ _).alloc (Nat.le_refl _) o : Below w.heap.size w (w.alloc o)).frozen ha]; exact h

structure NI (w wr : World) (n : Int) (ao : Option Addr) (cap : Nat) (es : List Pair) (k : Nat) : Prop where
  b0 : wr.heap[w.heap.size]? = some (.cells #[.int .i64 n, .slice ao es.length cap] 24 (0, 0))
  b1 : wr.heap[w.heap.size + 1]? = some (.cells #[.int .i64 0, .int .i64 0] 27 (0, 0))
  b3 : wr.heap[w.heap.size + 1 + 1 + 1]? = some (.cells #[.map (some (w.heap.size + 1 + 1))] 113 (0, 0))
  set : SetAt wr (w.heap.size + 1 + 1) k (setE (es.take k))
  below : Below w.heap.size w wr
  hc : chkFrom n [] es = chkFrom n (es.take k) (es.drop k)

theorem NI.step {w wr wr' : World} {n : Int} {ao : Option Addr} {cap : Nat} {es : List Pair} {k : Nat} (h : NI w wr n ao cap es k) (hb : Below wr.heap.size wr wr') : NI w wr' n ao cap es k :=
  ⟨(hb.block _ (lt_of_block h.b0)).trans h.b0, (hb.block _ (lt_of_block h.b1)).trans h.b1, (hb.block _ (lt_of_block h.b3)).trans h.b3, h.set.below hb h.set.lt, below_next h.below hb, h.hc⟩

theorem NI.near {w wr : World} {n : Int} {ao : Option Addr} {cap : Nat} {es : List Pair} {k : Nat} (h : NI w wr n ao cap es k) : NearAt wr (w.heap.size + 1 + 1 + 1) (es.take k) :=
  ⟨_, k, h.b3, h.set⟩

theorem NI.start (w : World) (n : Int) (ao : Option Addr) (cap : Nat) (es : List Pair) : NI w ((((w.alloc (Obj.cells #[Value.int IntKind.i64 n, Value.slice ao es.length cap] 24)).alloc (Obj.cells #[Value.int IntKind.i64 0, Value.int IntKind.i64 0] 27)).alloc (Obj.map #[] 0)).alloc (Obj.cells #[Value.map (some (w.heap.size + 1 + 1))] 113)) n ao cap es 0 := by
  refine ⟨?_, ?_, ?_, ?_, below_alloc (below_alloc (below_alloc (below_alloc (Below.refl _ _) _) _) _) _, rfl⟩
  · rw [Below.heap_alloc _ _ _ (by simp; omega), Below.heap_alloc _ _ _ (by simp <;> omega), Below.heap_alloc _ _ _ (by simp <;> omega)]; exact heap_alloc_new _ _
  · rw [Below.heap_alloc _ _ _ (by simp <;> omega), Below.heap_alloc _ _ _ (by simp <;> omega)]; simpa using heap_alloc_new (w.alloc (Obj.cells #[Value.int IntKind.i64 n, Value.slice ao es.length cap] 24)) (Obj.cells #[Value.int IntKind.i64 0, Value.int IntKind.i64 0] 27)
  · simpa using heap_alloc_new (((w.alloc (Obj.cells #[Value.int IntKind.i64 n, Value.slice ao es.length cap] 24)).alloc (Obj.cells #[Value.int IntKind.i64 0, Value.int IntKind.i64 0] 27)).alloc (Obj.map #[] 0)) (Obj.cells #[Value.map (some (w.heap.size + 1 + 1))] 113)
  · have := setAt_made ((w.alloc (Obj.cells #[Value.int IntKind.i64 n, Value.slice ao es.length cap] 24)).alloc (Obj.cells #[Value.int IntKind.i64 0, Value.int IntKind.i64 0] 27))
    have h2 := this.block (Below.heap_alloc _ (Obj.cells #[Value.map (some (w.heap.size + 1 + 1))] 113) _ this.lt)
    have e : (setE (es.take 0)) = fun _ _ => false := by funext x y; simp [setE]
    rw [e]
    simpa using h2


/-- upd tells the world behind the store of a pair into the set. -/
def IsUpd (b : Nat) (u v : Int) (upd : World → World) : Prop :=
  ∀ (w : World) (n : Nat) (S : Int → Int → Bool), SetAt w b n S → n < maxLen →
    (Instr.mapUpdate 113 (.map (some b)) (.agg #[.int .i64 u, .int .i64 v]) (.agg #[])).run Try.prog w = .ok () (upd w) ∧ SetAt (upd w) b (n + 1) (fun x y => (x == u && y == v) || S x y) ∧ w.mapTurned (upd w) b

theorem upd_exists (b : Nat) {u v : Int} (hu : I64 u) (hv : I64 v) : ∃ upd, IsUpd b u v upd := by
  refine ⟨fun w => match (Instr.mapUpdate 113 (.map (some b)) (.agg #[.int .i64 u, .int .i64 v]) (.agg #[])).run Try.prog w with
    | .ok _ w' => w'
    | _ => w, fun w n S h hn => ?_⟩
  obtain ⟨w', h1, h2, h3⟩ := h.store hu hv hn
  simp only [h1]
  exact ⟨trivial, h2, h3⟩

theorem NI.upd {w wr : World} {n : Int} {ao : Option Addr} {cap : Nat} {es : List Pair} {k : Nat} (h : NI w wr n ao cap es k) {x y : Int} (hk : k < es.length) (hxy : es[k] = (x, y)) (hl : es.length ≤ 1000) (hb : bad n (es.take k) (x, y) = 0) {upd : World → World} (hU : IsUpd (w.heap.size + 1 + 1) (min x y) (max x y) upd) :
    NI w (upd wr) n ao cap es (k + 1) := by
  obtain ⟨_, h2, h3⟩ := hU _ _ _ h.set (by unfold maxLen; omega)
  have hg := h3.grown
  have q : ∀ j, j < wr.heap.size → j ≠ w.heap.size + 1 + 1 → (upd wr).heap[j]? = wr.heap[j]? := fun j hj hne => hg.block j hj (fun e => hne (by cases e; rfl))
  have l3 := lt_of_block h.b3
  refine ⟨(q _ (lt_of_block h.b0) (by omega)).trans h.b0, (q _ (lt_of_block h.b1) (by omega)).trans h.b1, (q _ l3 (by omega)).trans h.b3, ?_, h.below.grown hg h.below.size (fun j hj => by cases hj; omega), ?_⟩
  · have e : setE (es.take (k + 1)) = fun x_1 y_1 => (x_1 == min x y && y_1 == max x y) || setE (es.take k) x_1 y_1 := by
      funext p q
      rw [List.take_succ_eq_append_getElem hk, hxy, setE_snoc]
    rw [e]
    exact h2
  · rw [h.hc, chk_step hk, hxy, if_pos hb]

theorem NI.S15 {w wr : World} {n : Int} {ao : Option Addr} {cap : Nat} {es : List Pair} {k : Nat} (h : NI w wr n ao cap es k) {x y : Int} (hk : k ≤ 1001) {upd : World → World} (hU : IsUpd (w.heap.size + 1 + 1) (min x y) (max x y) upd) :
    wr.cell? ⟨w.heap.size + 1 + 1 + 1, 0, none⟩ = some (.map (some (w.heap.size + 1 + 1))) ∧
    (Instr.mapUpdate 113 (.map (some (w.heap.size + 1 + 1))) (.agg #[.int .i64 (min x y), .int .i64 (max x y)]) (.agg #[])).run Try.prog wr = .ok () (upd wr) :=
  ⟨cell_of_one h.b3, (hU _ _ _ h.set (by unfold maxLen; omega)).1⟩

theorem NI.fault {w wr : World} {n : Int} {ao : Option Addr} {cap : Nat} {es : List Pair} {k : Nat} (h : NI w wr n ao cap es k) {x y : Int} (hk : k < es.length) (hxy : es[k] = (x, y)) {c : Int} (hc : c ≠ 0) (hb : bad n (es.take k) (x, y) = c) {w' : World} (hw : Below w.heap.size w w') :
    Below w.heap.size w w' ∧
      (((chkFrom n [] es).1 ≠ 0 ∧ Ending.returned (.tuple #[.nilFunc, .agg #[.int .i64 c, .int .i64 k]]) = .returned (.tuple #[.nilFunc, .agg #[.int .i64 (chkFrom n [] es).1, .int .i64 (chkFrom n [] es).2]])) ∨
       ((chkFrom n [] es).1 = 0 ∧ ∃ Bx, Ending.returned (.tuple #[.nilFunc, .agg #[.int .i64 c, .int .i64 k]]) = .returned (.tuple #[.func (.func 70) #[] #[.pointer (some ⟨Bx, 0, none⟩)], .agg #[.int .i64 0, .int .i64 0]]) ∧ NearAt w' Bx es)) := by
  have e : chkFrom n [] es = (c, (k : Int)) := by
    rw [h.hc, chk_step hk, hxy, hb, if_neg hc]
  exact ⟨hw, Or.inl ⟨by rw [e]; exact hc, by rw [e]⟩⟩

theorem NI.fine {w wr : World} {n : Int} {ao : Option Addr} {cap : Nat} {es : List Pair} (h : NI w wr n ao cap es es.length) {w' : World} (hw : Below w.heap.size w w') (hs : NearAt w' (w.heap.size + 1 + 1 + 1) es) :
    Below w.heap.size w w' ∧
      (((chkFrom n [] es).1 ≠ 0 ∧ Ending.returned (.tuple #[.func (.func 70) #[] #[.pointer (some ⟨w.heap.size + 1 + 1 + 1, 0, none⟩)], .agg #[.int .i64 0, .int .i64 0]]) = .returned (.tuple #[.nilFunc, .agg #[.int .i64 (chkFrom n [] es).1, .int .i64 (chkFrom n [] es).2]])) ∨
       ((chkFrom n [] es).1 = 0 ∧ ∃ Bx, Ending.returned (.tuple #[.func (.func 70) #[] #[.pointer (some ⟨w.heap.size + 1 + 1 + 1, 0, none⟩)], .agg #[.int .i64 0, .int .i64 0]]) = .returned (.tuple #[.func (.func 70) #[] #[.pointer (some ⟨Bx, 0, none⟩)], .agg #[.int .i64 0, .int .i64 0]]) ∧ NearAt w' Bx es)) := by
  have e : chkFrom n [] es = (0, 0) := by rw [h.hc, chk_end]
  exact ⟨hw, Or.inr ⟨by rw [e], _, rfl, hs⟩⟩

theorem NI.near_set {w wr : World} {n : Int} {ao : Option Addr} {cap : Nat} {es : List Pair} (h : NI w wr n ao cap es es.length) (o o' : Nat) (u u' : Value) :
    NearAt ((wr.setCell ⟨w.heap.size + 1, o, none⟩ u).setCell ⟨w.heap.size + 1, o', none⟩ u') (w.heap.size + 1 + 1 + 1) es := by
  have q : ∀ j, j ≠ w.heap.size + 1 → ((wr.setCell ⟨w.heap.size + 1, o, none⟩ u).setCell ⟨w.heap.size + 1, o', none⟩ u').heap[j]? = wr.heap[j]? := fun j hj =>
    (Below.heap_setCell _ _ _ _ hj).trans (Below.heap_setCell _ _ _ _ hj)
  have hs := h.set
  rw [List.take_length] at hs
  exact ⟨w.heap.size + 1 + 1, es.length, (q _ (by omega)).trans h.b3, hs.block (q _ (by omega))⟩

theorem isN_out {n x : Int} (h : isN n x = false) : ¬ (0 ≤ x ∧ x < n) := by simpa [isN] using h
theorem isN_in {n x : Int} (h : isN n x = true) : 0 ≤ x ∧ x < n := by simpa [isN] using h

set_option maxHeartbeats 2000000 in
theorem nearIn_go (n : Int) (v : Value) (es : List Pair) (w : World) (hE : EdgesAt w v es) (hn0 : 0 ≤ n) (hn1 : n ≤ 100) (hl : es.length ≤ 1000) :
    Calls Try.prog 59 #[.agg #[.int .i64 n, v]] w fun e w' => Below w.heap.size w w' ∧
      (((chkFrom n [] es).1 ≠ 0 ∧ e = .returned (.tuple #[.nilFunc, .agg #[.int .i64 (chkFrom n [] es).1, .int .i64 (chkFrom n [] es).2]])) ∨
       ((chkFrom n [] es).1 = 0 ∧ ∃ Bx, e = .returned (.tuple #[.func (.func 70) #[] #[.pointer (some ⟨Bx, 0, none⟩)], .agg #[.int .i64 0, .int .i64 0]]) ∧ NearAt w' Bx es)) := by
  have hmm := @run_makeMap Try.prog
  obtain ⟨ao, cap, rfl, hl2, hI, hcells⟩ := hE
  have hl3 : ¬ (1000 : Int) < (es.length : Int) := by omega
  have hn2 : ¬ n < 0 := by omega
  have hn3 : ¬ 100 < n := by omega
  go_enter Try.func59, Try.ntmps59
  go_wp2
  go_loopw [30] (fun i wr => ∃ k : Nat, k ≤ es.length ∧ i = .int .i64 k ∧ NI w wr n ao cap es k) (fun i _ => es.length - (intOf i).toNat)
  case atStart => exact ⟨0, Nat.zero_le _, rfl, NI.start _ _ _ _ _⟩
  case round =>
    obtain ⟨k, hk, rfl, hni⟩ := hrel
    have c0 := all_alloc (cell_two hni.b0).1
    have c10 := all_alloc (cell_two hni.b1).1
    have c11 := all_alloc (cell_two hni.b1).2
    have f10 := all_free (a := ⟨w.heap.size + 1, 0, none⟩) (lt_of_block hni.b1) (free_two hni.b1 0)
    have f11 := all_free (a := ⟨w.heap.size + 1, 1, none⟩) (lt_of_block hni.b1) (free_two hni.b1 1)
    by_cases hlt : k < es.length
    · obtain ⟨b, off, rfl, cx, cy⟩ := hcells k hlt
      obtain ⟨x, y, hxy⟩ : ∃ x y, es[k] = (x, y) := ⟨es[k].1, es[k].2, rfl⟩
      have hIx := hI es[k] (List.getElem_mem _)
      rw [hxy] at cx cy hIx
      have hb := World.block_lt_of_cell? w _ cx
      rw [← hni.below.cell (by exact hb)] at cx cy
      have HXY : Hid _ := hxy
      clear hxy hcells hI hmm
      by_cases hx : isN n x = true
      · by_cases hy : isN n y = true
        · by_cases hne : x = y
          · go_wp2_with (go_at_call 72; refine (isNode_any _ _ _).mono ?_; rintro e w' ⟨rfl, rfl⟩)
            go_quiet (fail)
            go_wp2_with (go_at_call 72; refine (isNode_any _ _ _).mono ?_; rintro e w' ⟨rfl, rfl⟩)
            refine bodyPost_ret (v := .tuple #[.nilFunc, .agg #[.int .i64 4, .int .i64 k]]) ?_ rfl (hni.fault hlt HXY.out (by decide) (by rw [hne]; exact bad_loop (isN_in hy)) (((below_drewN (below_alloc hni.below _) _).setCell (by simp) _).setCell (by simp) _))
            simp [results, Try.results59, go_sem, c10, c11]
          · by_cases hh : hasB (es.take k) x y = true
            · go_wp2_with (go_at_call 72; refine (isNode_any _ _ _).mono ?_; rintro e w' ⟨rfl, rfl⟩)
              go_quiet (fail)
              go_wp2_with (first | (go_at_call 72; refine (isNode_any _ _ _).mono ?_; rintro e w' ⟨rfl, rfl⟩) | (go_at_call 70; refine (near_has (hni.step (below_drewN (below_alloc (Below.refl _ _) _) _)).near hIx.1 hIx.2).mono ?_; rintro e w' ⟨rfl, hbw⟩; have hni2 := (hni.step (below_drewN (below_alloc (Below.refl _ _) _) _)).step hbw; have c10' := (cell_two hni2.b1).1; have c11' := (cell_two hni2.b1).2; have f10' := free_two hni2.b1 0; have f11' := free_two hni2.b1 1))
              refine bodyPost_ret (v := .tuple #[.nilFunc, .agg #[.int .i64 5, .int .i64 k]]) ?_ rfl (hni2.fault hlt HXY.out (by decide) (bad_twice ⟨(isN_in hx).1, (isN_in hx).2, (isN_in hy).1, (isN_in hy).2⟩ hne hh) ((hni2.below.setCell (by simp) _).setCell (by simp) _))
              simp [results, Try.results59, go_sem, c10', c11']
            · have hh' : hasB (es.take k) x y = false := by simpa using hh
              obtain ⟨upd, hU⟩ := upd_exists (w.heap.size + 1 + 1) (u := min x y) (v := max x y) (by unfold I64 at *; omega) (by unfold I64 at *; omega)
              go_wp2_with (go_at_call 72; refine (isNode_any _ _ _).mono ?_; rintro e w' ⟨rfl, rfl⟩)
              go_quiet (fail)
              go_wp2_with (first | (go_at_call 72; refine (isNode_any _ _ _).mono ?_; rintro e w' ⟨rfl, rfl⟩) | (go_at_call 70; refine (near_has (hni.step (below_drewN (below_alloc (Below.refl _ _) _) _)).near hIx.1 hIx.2).mono ?_; rintro e w2 ⟨rfl, hbw⟩; have hni2 := (hni.step (below_drewN (below_alloc (Below.refl _ _) _) _)).step hbw))
              go_region_held3 (fun w' => w'.cell? ⟨w.heap.size + 1 + 1 + 1, 0, none⟩ = some (.map (some (w.heap.size + 1 + 1))) ∧ (Instr.mapUpdate 113 (.map (some (w.heap.size + 1 + 1))) (.agg #[.int .i64 (min x y), .int .i64 (max x y)]) (.agg #[])).run Try.prog w' = .ok () (upd w'))
                (first | assumption | exact (hni2.step (Below.refl _ _).drew).S15 (by omega) hU | exact (hni2.step ((Below.refl _ _).drew.trans hb3)).S15 (by omega) hU | exact ((hni2.step ((Below.refl _ _).drew.trans hb3)).upd hlt HXY.out hl (bad_none ⟨(isN_in hx).1, (isN_in hx).2, (isN_in hy).1, (isN_in hy).2⟩ hne hh') hU).S15 (by omega) hU)
                ((go_at_call 71; refine (lesser_any _ _ _).mono ?_; rintro e w3 ⟨rfl, hb3⟩))
              all_goals
                have hni4 := (hni2.step ((Below.refl _ _).drew.trans hb3)).upd hlt HXY.out hl (bad_none ⟨(isN_in hx).1, (isN_in hx).2, (isN_in hy).1, (isN_in hy).2⟩ hne hh') hU
                go_wp2
                go_roundw
                case rel => exact ⟨k + 1, by omega, by go_num, hni4⟩
                case measure => simp [intOf]; omega
        · have hy' : isN n y = false := by simpa using hy
          go_wp2_with (go_at_call 72; refine (isNode_any _ _ _).mono ?_; rintro e w' ⟨rfl, rfl⟩)
          go_quiet (fail)
          go_wp2_with (go_at_call 72; refine (isNode_any _ _ _).mono ?_; rintro e w' ⟨rfl, rfl⟩)
          refine bodyPost_ret (v := .tuple #[.nilFunc, .agg #[.int .i64 3, .int .i64 k]]) ?_ rfl (hni.fault hlt HXY.out (by decide) (bad_range (by have := isN_out hy'; omega)) (((below_drewN (below_alloc hni.below _) _).setCell (by simp) _).setCell (by simp) _))
          simp [results, Try.results59, go_sem, c10, c11]
      · have hx' : isN n x = false := by simpa using hx
        go_wp2_with (go_at_call 72; refine (isNode_any _ _ _).mono ?_; rintro e w' ⟨rfl, rfl⟩)
        go_quiet (fail)
        go_wp2_with (go_at_call 72; refine (isNode_any _ _ _).mono ?_; rintro e w' ⟨rfl, rfl⟩)
        refine bodyPost_ret (v := .tuple #[.nilFunc, .agg #[.int .i64 3, .int .i64 k]]) ?_ rfl (hni.fault hlt HXY.out (by decide) (bad_range (by have := isN_out hx'; omega)) (((below_drewN (below_alloc hni.below _) _).setCell (by simp) _).setCell (by simp) _))
        simp [results, Try.results59, go_sem, c10, c11]
    · have hke : k = es.length := by omega
      subst hke
      have d10 := (cell_two hni.b1).1
      have d11 := (cell_two hni.b1).2
      have g10 := free_two hni.b1 0
      have g11 := free_two hni.b1 1
      clear hcells hI hmm
      go_wp2
      refine bodyPost_ret (v := .tuple #[.func (.func 70) #[] #[.pointer (some ⟨w.heap.size + 1 + 1 + 1, 0, none⟩)], .agg #[.int .i64 0, .int .i64 0]]) ?_ rfl (hni.fine ((hni.below.setCell (by simp) _).setCell (by simp) _) ?_)
      · simp [results, Try.results59, go_sem, d10, d11]
      · exact hni.near_set _ _ _ _

/-- nearIn, whatever it is given. -/
theorem nearIn_any (n : Int) (v : Value) (es : List Pair) (w : World) (hE : EdgesAt w v es) :
    Calls Try.prog 59 #[.agg #[.int .i64 n, v]] w fun e w' => Below w.heap.size w w' ∧
      (((chk n es).1 ≠ 0 ∧ e = .returned (.tuple #[.nilFunc, .agg #[.int .i64 (chk n es).1, .int .i64 (chk n es).2]])) ∨
       ((chk n es).1 = 0 ∧ ∃ Bx, e = .returned (.tuple #[.func (.func 70) #[] #[.pointer (some ⟨Bx, 0, none⟩)], .agg #[.int .i64 0, .int .i64 0]]) ∧ NearAt w' Bx es)) := by
  by_cases hm : many n es.length = true
  · have e : chk n es = (2, 0) := by unfold chk; rw [if_pos hm]
    rw [e]
    obtain ⟨ao, cap, rfl, hl, _⟩ := hE
    refine (nearIn_many n ao es.length cap w hl hm).mono ?_
    rintro e w' ⟨rfl, hb⟩
    exact ⟨hb, Or.inl ⟨by decide, rfl⟩⟩
  · have e : chk n es = chkFrom n [] es := by unfold chk; rw [if_neg hm]
    rw [e]
    simp [many] at hm
    exact nearIn_go n v es w hE hm.1 hm.2.1 hm.2.2

end Go.Proofs.Ytkbgcbbloogdjac
