/- Form, with the room of its edges. Embed: a plane order round the nodes, or edges that show that there is none. planeBegun: the document's examples, reckoned out. -/
import Derived.Test.YtekokjechbibdaaDoorFormW
import Derived.Test.YtekokjechbibdaaDoorRoundW
import Derived.Test.YtekokjechbibdaaDoorFullW
namespace Go.Proofs.YtekokjechbibdaaDoor
open Go.RowKit Go.Maps
def TellsC (F : FuncId) (args : Array Value) (w : World) (a : Ans) : Prop :=
  Calls Tryd.prog F args w fun e w' => Below w.heap.size w w' ∧ ∃ ao cap, e = .returned (.tuple #[.agg #[.int .i64 a.n, .slice ao a.es.length cap], .agg #[.int .i64 a.c, .int .i64 a.pos]]) ∧ EdgesAt w' (.slice ao a.es.length cap) a.es ∧ (∀ x, ao = some x → w.heap.size ≤ x.block) ∧ a.es.length ≤ cap
theorem owns_cap {w : World} {base : Nat} {t : TypeId} {sz n c m : Nat} {ao : Option Addr} {xs : List Value} (h : w.ownsRow base t sz (.slice ao n c) m xs) : n ≤ c := by
  rcases h.2 with ⟨e, _⟩ | ⟨g, cap, cur, e, _, _, h1, _⟩
  · cases e; exact Nat.le_refl _
  · cases e; exact h1
theorem build_tellsC (n : Nat) (F : FuncId) (caps : Array Value) (p : Int → Int → Bool) (w : World) (hF : ∀ args w', (callFunc F args).run Tryd.prog w' = .ok (.enter F args) w')
    (hnear : n ≤ 100 → ∀ w', Below w.heap.size w w' → ∀ u v : Nat, u < v → v < n → Calls Tryd.prog F (#[.int .i64 u, .int .i64 v] ++ caps) w' fun e w'' => e = .returned (.bool (p u v)) ∧ Below w'.heap.size w' w'') :
    TellsC 39 #[.int .i64 n, .func (.func F) #[] caps] w (buildS n p) := by
  by_cases hn : n ≤ 100
  · refine (build_any n F caps p w hn hF (hnear hn)).mono ?_
    rintro e w' ⟨hb, ⟨hl, rfl⟩ | ⟨hl, v, rfl, hown⟩⟩
    · rw [buildS_many (Or.inr hl)]
      exact ⟨hb, _, _, rfl, edgesAt_nil _, (fun x h => by cases h), Nat.le_refl _⟩
    · rw [buildS_ok hn hl]
      have hE := edgesAt_row hown ?_ (by omega)
      · obtain ⟨ao, cap, rfl⟩ := hE.form
        exact ⟨hb, ao, cap, rfl, hE, fun x hx => (hown.lt _ (by rw [hx]; rfl)).1, owns_cap hown⟩
      intro e he
      obtain ⟨u, v, h1, h2, _, rfl⟩ := allP_mem.1 he
      constructor <;> unfold I64 <;> simp <;> omega
  · refine (build_many n _ w (by omega)).mono ?_
    rintro e w' ⟨hb, rfl⟩
    rw [buildS_many (Or.inl (by omega))]
    exact ⟨hb, _, _, rfl, edgesAt_nil _, (fun x h => by cases h), Nat.le_refl _⟩

set_option maxHeartbeats 1000000 in
theorem form_tellsC (n : Int) (v : Value) (es : List Pair) (w : World) (hE : EdgesAt w v es) : TellsC 23 #[.agg #[.int .i64 n, v]] w (formS n es) := by
  unfold TellsC
  go_enter Tryd.func23, Tryd.ntmps23
  by_cases hc0 : (chk n es).1 = 0
  · have hc1 : ((chk n es).1 != 0) = false := by simpa using hc0
    obtain ⟨hck, hn0, hn1, hl, hgood⟩ := chk_good hc0
    obtain ⟨m, rfl⟩ : ∃ m : Nat, n = m := ⟨n.toNat, by omega⟩
    have HG : Hid _ := hgood
    clear hgood
    go_wp2_with (first | (go_at_call 38; refine (nearIn_any _ v es _ ?_).mono ?_; exact hE.below (below_alloc (below_alloc (below_alloc (Below.refl _ _) _) _) _); rintro e w1 ⟨hb, ⟨hc, rfl⟩ | ⟨hc, Bx, rfl, hnear⟩⟩; exact absurd hc0 hc; obtain ⟨bc, bf, bc1, bf1, bc2, bf2⟩ := bcell hb; have hz := hb.size; simp at hz) | (go_at_call 39; refine (build_tellsC m 51 #[.pointer (some ⟨Bx, 0, none⟩)] (hasB es) _ enter51 ?_).mono ?_; exact fun hm w' hw' u v h1 h2 => near_has ((hnear.below (below_alloc (Below.refl _ _) _)).below hw') (by constructor <;> omega) (by constructor <;> omega); rintro e w2 ⟨hb2, ao2, cap2, rfl, hE2, hfr, hcap2⟩; have hb3 := below_next (below_alloc hb _) hb2; obtain ⟨bc3, bf3, bc4, bf4, bc5, bf5⟩ := bcell hb3))
    rw [show formS m es = buildS m (hasB es) by unfold formS; rw [if_pos hc0]; simp]
    refine bodyPost_ret (v := .tuple #[.agg #[.int .i64 (buildS m (hasB es)).n, .slice ao2 (buildS m (hasB es)).es.length cap2], .agg #[.int .i64 (buildS m (hasB es)).c, .int .i64 (buildS m (hasB es)).pos]]) ?_ rfl ⟨?_, ao2, cap2, rfl, ?_, ?_, hcap2⟩
    · simp [results, Tryd.results23, go_sem, bc3]
    · exact below_set4 (below_next (below_alloc (below_alloc (below_alloc (Below.refl _ _) _) _) _) hb3) (by simp) (by simp) (by simp; omega) (by simp; omega)
    · have q : ∀ x, ao2 = some x → w.heap.size + 1 + 1 < x.block := fun x hx => by have := hfr x hx; simp at this; omega
      exact (((hE2.setCell (fun x hx => by have := q x hx; simp; omega) _).setCell (fun x hx => by have := q x hx; simp; omega) _).setCell (fun x hx => by have := q x hx; simp; omega) _).setCell (fun x hx => by have := q x hx; simp; omega) _
    · intro x hx; have := hfr x hx; simp at this; omega
  · have hc1 : ((chk n es).1 != 0) = true := by simpa using hc0
    go_wp2_with (go_at_call 38; refine (nearIn_any n v es _ ?_).mono ?_; exact hE.below (below_alloc (below_alloc (below_alloc (Below.refl _ _) _) _) _); rintro e w1 ⟨hb, ⟨hc, rfl⟩ | ⟨hc, Bx, rfl, hnear⟩⟩; rotate_left; exact absurd hc hc0; obtain ⟨bc, bf, bc1, bf1, bc2, bf2⟩ := bcell hb; have hz := hb.size; simp at hz)
    go_region
    go_wp2
    rw [show formS n es = ⟨0, [], (chk n es).1, (chk n es).2⟩ by unfold formS; rw [if_neg hc0]]
    refine bodyPost_ret (v := .tuple #[.agg #[.int .i64 0, .slice none 0 0], .agg #[.int .i64 (chk n es).1, .int .i64 (chk n es).2]]) ?_ rfl ⟨?_, none, 0, rfl, edgesAt_nil _, (fun x h => by cases h), Nat.le_refl _⟩
    · simp [results, Tryd.results23, go_sem, bc1]
    · exact (below_set4 (below_alloc (below_next (below_alloc (below_alloc (below_alloc (Below.refl _ _) _) _) _) hb) _) (by simp) (by simp) (by simp; omega) (by simp; omega)).drew
/-- The edges of a graph in form, as numbers. -/
def allE (n : Nat) (p : Int → Int → Bool) : List E2 := (List.range n).flatMap fun (i : Nat) => ((List.range n).filter (fun (j : Nat) => decide (i < j) && p (i : Int) (j : Int))).map fun (j : Nat) => (i, j)
theorem allP_pz (n : Nat) (p : Int → Int → Bool) : allP n p = pz (allE n p) := by
  unfold allP rowsTo rowTo pz allE
  rw [List.map_flatMap]
  congr 1
  funext i
  rw [List.map_map]
  rfl
theorem allE_lt {n : Nat} {p : Int → Int → Bool} {e : E2} (h : e ∈ allE n p) : e.1 < n ∧ e.2 < n := by
  unfold allE at h
  obtain ⟨i, hi, h⟩ := List.mem_flatMap.1 h
  obtain ⟨j, hj, rfl⟩ := List.mem_map.1 h
  have := List.mem_range.1 hi
  have := List.mem_range.1 (List.mem_filter.1 hj).1
  exact ⟨by assumption, by assumption⟩
theorem nearStep_bits {n : Nat} {near : List Nat} {e : E2} (h : ∀ s ∈ near, ∀ v, s.testBit v = true → v < n) (he : e.1 < n ∧ e.2 < n) : ∀ s ∈ nearStep near e, ∀ v, s.testBit v = true → v < n := by
  have at_ok : ∀ (l : List Nat), (∀ s ∈ l, ∀ v, s.testBit v = true → v < n) → ∀ k v, (at' l k).testBit v = true → v < n := fun l hl k v hv => by
    unfold at' at hv
    rw [List.getD_eq_getElem?_getD] at hv
    cases hh : l[k]? with
    | none => rw [hh] at hv; simp at hv
    | some x => rw [hh] at hv; exact hl x (List.mem_of_getElem? hh) v hv
  have st : ∀ (l : List Nat), (∀ s ∈ l, ∀ v, s.testBit v = true → v < n) → ∀ a b, b < n → ∀ s ∈ l.set a (sAdd (at' l a) b), ∀ v, s.testBit v = true → v < n := fun l hl a b hb s hs v hv => by
    rcases List.mem_or_eq_of_mem_set hs with h1 | rfl
    · exact hl s h1 v hv
    · rw [bit_add] at hv
      rcases Bool.or_eq_true_iff.1 hv with h1 | h1
      · exact at_ok l hl a v h1
      · have := of_decide_eq_true h1; omega
  unfold nearStep
  exact st _ (st near h e.1 e.2 he.2) e.2 e.1 he.1
theorem nearBy_bits {n : Nat} {es : List E2} (h : ∀ e ∈ es, e.1 < n ∧ e.2 < n) : ∀ s ∈ nearBy n es, ∀ v, s.testBit v = true → v < n := by
  rw [nearBy_eq]
  have : ∀ (l near : List Nat) (es : List E2), (∀ e ∈ es, e.1 < n ∧ e.2 < n) → (∀ s ∈ near, ∀ v, s.testBit v = true → v < n) → ∀ s ∈ es.foldl nearStep near, ∀ v, s.testBit v = true → v < n := fun _ near es => by
    induction es generalizing near with
    | nil => intro _ h; exact h
    | cons e es ih => intro he hn; exact ih (nearStep near e) (fun e' h' => he e' (by simp [h'])) (nearStep_bits hn (he e (by simp)))
  exact this [] _ es h (fun s hs v hv => by
    rw [List.eq_of_mem_replicate hs] at hv
    simp at hv)
theorem layEOk_len : ∀ (l : List E2) (near : List Nat) (faces F : List Face), layEOk near faces l = true → layE near faces l = some F → F.length ≤ 100000
  | [], near, faces, F, h1, h2 => by
    rw [layE] at h2
    cases h2
    rw [layEOk] at h1
    exact of_decide_eq_true h1
  | e :: l, near, faces, F, h1, h2 => by
    cases hb : (at' near e.1).testBit e.2 with
    | false =>
      rw [layEOk_no hb, Bool.and_eq_true] at h1
      rw [layE_no hb] at h2
      exact layEOk_len l near faces F h1.2 h2
    | true =>
      rw [layEOk_yes hb, Bool.and_eq_true, Bool.and_eq_true] at h1
      rw [layE_yes hb] at h2
      cases hL : layBlock near e with
      | none => rw [hL] at h2; cases h2
      | some q =>
        rw [hL] at h1 h2
        obtain ⟨b, near'⟩ := q
        simp only [Bool.and_eq_true] at h1 h2
        exact layEOk_len l near' _ F h1.2.2.2 h2
end Go.Proofs.YtekokjechbibdaaDoor

namespace Go.Proofs.YtekokjechbibdaaDoor
set_option maxRecDepth 8000
open Go.RowKit Go.Maps
attribute [local go_sem ↓] Go.wp_at_zero Go.wp_at_succ
/-- What Embed answers for n nodes with the edges E in form. -/
def EmbR (w w' : World) (n : Nat) (E : List E2) (R : Option (List Face)) (e : Ending) : Prop := Below w.heap.size w w' ∧ match R with
  | none => ∃ x, e = .returned (.tuple #[.slice none 0 0, x, .agg #[.int .i64 0, .int .i64 0]]) ∧ ERow w' w.heap.size x (needed n E)
  | some F => ∃ bt xs, e = .returned (.tuple #[sl bt n, .slice none 0 0, .agg #[.int .i64 0, .int .i64 0]]) ∧ w.heap.size ≤ bt ∧ RowsW w' bt (bt + 2) (roundL (nearBy n E) F) xs
set_option maxHeartbeats 4000000 in
theorem embed_ok {w : World} {n : Nat} {v : Value} {es : List Pair} {E : List E2} (hE : EdgesAt w v es) (hc : (chk n es).1 = 0) (hEE : E = allE n (hasB es)) (hl : E.length ≤ 1000) (ht : T64 w) (hok : layNOk n E = true) (hnd : lay n E = none → needOk n E = true) :
    Calls Tryd.prog 8 #[.agg #[.int .i64 (n : Int), v]] w fun e w' => EmbR w w' n E (lay n E) e := by
  obtain ⟨R, hR⟩ : ∃ R, R = lay n E := ⟨_, rfl⟩
  rw [← hR]
  have HR : Hid (R = lay n E) := hR
  clear hR
  obtain ⟨_, hn0, hn1, _, _⟩ := chk_good hc
  have hn : n ≤ 100 := by omega
  have HT : Hid (T64 w) := ht
  have HOK : Hid (layNOk n E = true ∧ (lay n E = none → needOk n E = true) ∧ ∀ e ∈ E, e.1 < n ∧ e.2 < n) := ⟨hok, hnd, fun e he => allE_lt (by rw [hEE] at he; exact he)⟩
  have hfS : formS n es = ⟨n, pz E, 0, 0⟩ := by
    unfold formS
    rw [if_pos hc, buildS_ok (by omega) (by rw [show ((n : Int).toNat) = n by omega, allP_pz, pz_len, ← hEE]; exact hl), show ((n : Int).toNat) = n by omega, allP_pz, ← hEE]
  have C23 : Hid (∀ A, Below w.heap.size w A → Calls Tryd.prog 23 #[.agg #[.int .i64 (n : Int), v]] A fun e w' => Below A.heap.size A w' ∧ ∃ ao cap, e = .returned (.tuple #[.agg #[.int .i64 (n : Int), .slice ao E.length cap], .agg #[.int .i64 0, .int .i64 0]]) ∧ EdgesAt w' (.slice ao E.length cap) (pz E) ∧ (∀ x, ao = some x → A.heap.size ≤ x.block) ∧ E.length ≤ cap) := fun A hA => by
    have := form_tellsC n v es A (hE.below hA)
    unfold TellsC at this
    rw [hfS] at this
    simp only [pz_len] at this
    exact this
  obtain ⟨m, hm⟩ : ∃ m, m = E.length := ⟨_, rfl⟩
  rw [← hm] at C23 hl
  have HM : Hid (m = E.length) := hm
  obtain ⟨ao0, cap0, hv⟩ := hE.form
  subst hv
  clear hE hc hEE ht hok hnd hfS hm hn0 hn1
  go_enter Tryd.func8, Tryd.ntmps8
  go_upto_region 1 with (fail)
  obtain ⟨q, hq⟩ : ∃ q, q = w.heap.size := ⟨_, rfl⟩
  have x1 : Two ((w.alloc (Obj.cells #[Value.int IntKind.i64 (n : Int), Value.slice ao0 es.length cap0] 24)).alloc (Obj.cells #[Value.int IntKind.i64 0, Value.int IntKind.i64 0] 27)) q (.int .i64 (n : Int)) (.slice ao0 es.length cap0) 24 := by rw [hq]; exact two_alloc (two_new _ _ _ _) _
  have x4 : Two ((w.alloc (Obj.cells #[Value.int IntKind.i64 (n : Int), Value.slice ao0 es.length cap0] 24)).alloc (Obj.cells #[Value.int IntKind.i64 0, Value.int IntKind.i64 0] 27)) (q + 1) (.int .i64 0) (.int .i64 0) 27 := by rw [hq]; exact two_nxt _ _ _ _ _
  have hB2 : Below w.heap.size w ((w.alloc (Obj.cells #[Value.int IntKind.i64 (n : Int), Value.slice ao0 es.length cap0] 24)).alloc (Obj.cells #[Value.int IntKind.i64 0, Value.int IntKind.i64 0] 27)) := below_alloc (below_alloc (Below.refl _ w) _) _
  rw [← hq]
  generalize ((w.alloc (Obj.cells #[Value.int IntKind.i64 (n : Int), Value.slice ao0 es.length cap0] 24)).alloc (Obj.cells #[Value.int IntKind.i64 0, Value.int IntKind.i64 0] 27)) = W2 at *
  have C23' : Hid (Calls Tryd.prog 23 #[.agg #[.int .i64 (n : Int), .slice ao0 es.length cap0]] W2 fun e w' => Below W2.heap.size W2 w' ∧ ∃ ao cap, e = .returned (.tuple #[.agg #[.int .i64 (n : Int), .slice ao m cap], .agg #[.int .i64 0, .int .i64 0]]) ∧ EdgesAt w' (.slice ao m cap) (pz E) ∧ (∀ x, ao = some x → W2.heap.size ≤ x.block) ∧ m ≤ cap) := C23.out W2 hB2
  have HB2 : Hid (Below w.heap.size w W2 ∧ Two W2 (q + 1) (.int .i64 0) (.int .i64 0) 27 ∧ w.heap.size = q) := ⟨hB2, x4, hq.symm⟩
  obtain ⟨c0, c1⟩ := cell_two x1
  clear hq hB2 C23 x1 x4
  generalize es.length = el at *
  go_upto_region 2 with (first | (go_at_call 23; refine Calls.mono C23'.out ?_; rintro e w3 ⟨h3, ao, cap, rfl, hE3, hao, hmc⟩; have y4 : Two (w3.alloc (Obj.cells #[.int .i64 (n : Int), .slice ao m cap] 24)) (q + 1) (.int .i64 0) (.int .i64 0) 27 := two_alloc (two_next HB2.out.2.1 h3) _; obtain ⟨d0, d1⟩ := cell_two y4; have f0 := box_free y4 0; have f1 := box_free y4 1; have z4 := box_set y4 0 (.int .i64 0); have d2 := box_cell z4 (i := 1) rfl; have f2 := box_free z4 1) | fail)
  have hq3 : q + 1 < w3.heap.size := lt_of_block (two_next HB2.out.2.1 h3)
  have y5 : Two (((w3.alloc (Obj.cells #[.int .i64 (n : Int), .slice ao m cap] 24)).setCell ⟨q + 1, 0, none⟩ (.int .i64 0)).setCell ⟨q + 1, 1, none⟩ (.int .i64 0)) w3.heap.size (.int .i64 (n : Int)) (.slice ao m cap) 24 := two_far (two_far (two_new _ _ _ _) (by omega)) (by omega)
  have y6 : Two (((w3.alloc (Obj.cells #[.int .i64 (n : Int), .slice ao m cap] 24)).setCell ⟨q + 1, 0, none⟩ (.int .i64 0)).setCell ⟨q + 1, 1, none⟩ (.int .i64 0)) (q + 1) (.int .i64 0) (.int .i64 0) 27 := two_setN y4
  have hqw : w.heap.size ≤ q + 1 := by have := HB2.out.2.2; omega
  have hB4 : Below w.heap.size w (((w3.alloc (Obj.cells #[.int .i64 (n : Int), .slice ao m cap] 24)).setCell ⟨q + 1, 0, none⟩ (.int .i64 0)).setCell ⟨q + 1, 1, none⟩ (.int .i64 0)) := ((below_alloc (below_next HB2.out.1 h3) _).setCell hqw _).setCell hqw _
  have hE4 : EdgesAt (((w3.alloc (Obj.cells #[.int .i64 (n : Int), .slice ao m cap] 24)).setCell ⟨q + 1, 0, none⟩ (.int .i64 0)).setCell ⟨q + 1, 1, none⟩ (.int .i64 0)) (.slice ao m cap) (pz E) := by
    have hq2 := lt_of_block HB2.out.2.1
    exact ((hE3.below (below_alloc (Below.refl _ _) _)).setCell (fun x hx => by have := hao x hx; simp only; omega) _).setCell (fun x hx => by have := hao x hx; simp only; omega) _
  generalize hb5 : w3.heap.size = b5 at *
  generalize ((w3.alloc (Obj.cells #[.int .i64 (n : Int), .slice ao m cap] 24)).setCell ⟨q + 1, 0, none⟩ (.int .i64 0)).setCell ⟨q + 1, 1, none⟩ (.int .i64 0) = w4 at *
  have HW4 : Hid (Two w4 b5 (.int .i64 (n : Int)) (.slice ao m cap) 24 ∧ Two w4 (q + 1) (.int .i64 0) (.int .i64 0) 27 ∧ Below w.heap.size w w4 ∧ EdgesAt w4 (.slice ao m cap) (pz E) ∧ w.heap.size ≤ q + 1) := ⟨y5, y6, hB4, hE4, hqw⟩
  have C24 : Hid (Calls Tryd.prog 24 #[.int .i64 (n : Int), .slice ao m cap] w4 fun e w' => LayEAns w4 w' (lay n E) e) := by
    rw [HM.out]
    exact lay_call (by rw [← HM.out]; exact hE4) hn HOK.out.2.2 (by have := HM.out; omega) (HT.out.under hB4) HOK.out.1
  obtain ⟨e0, e1⟩ := cell_two y5
  obtain ⟨e2, e3⟩ := cell_two y6
  clear c0 c1 d0 d1 f0 f1 f2 d2 z4 y4 y5 y6 hB4 hE4 hq3 hqw hb5 hao hE3 h3 C23'
  rw [← HR.out] at C24
  cases R with
  | none =>
    have C24' : Hid (Calls Tryd.prog 24 #[.int .i64 (n : Int), .slice ao m cap] w4 fun e w' => e = .returned (.tuple #[.slice none 0 0, .bool false]) ∧ Below w4.heap.size w4 w') := C24.out.mono fun e w' h => ⟨h.2, h.1⟩
    clear C24
    have C25 : Hid (∀ A, Below w4.heap.size w4 A → Calls Tryd.prog 25 #[.int .i64 (n : Int), .slice ao m cap] A fun e w' => ∃ x, e = .returned x ∧ ERow w' A.heap.size x (needed n E) ∧ Below A.heap.size A w') := fun A hA => by
      have hE5 := HW4.out.2.2.2.1.below hA
      rw [HM.out] at hE5 ⊢
      exact needed_call hE5 hn HOK.out.2.2 (by have := HM.out; omega) (by rw [← HM.out]; exact hmc) (HT.out.under (below_next HW4.out.2.2.1 hA)) (HOK.out.2.1 HR.out.symm)
    have CC : Hid (∀ A, Below w4.heap.size w4 A → A.cell? ⟨b5, 0, none⟩ = some (.int .i64 (n : Int)) ∧ A.cell? ⟨b5, 1, none⟩ = some (.slice ao m cap) ∧ Two A (q + 1) (.int .i64 0) (.int .i64 0) 27) := fun A hA => ⟨(cell_two (two_next HW4.out.1 hA)).1, (cell_two (two_next HW4.out.1 hA)).2, two_next HW4.out.2.1 hA⟩
    go_wp2_with (first | (go_at_call 24; refine Calls.mono C24'.out ?_; rintro e w5 ⟨rfl, h5⟩; obtain ⟨g0, g1, _⟩ := CC.out w5 h5) | (go_at_call 25; refine Calls.mono (C25.out w5 h5) ?_; rintro e w6 ⟨x, rfl, hx6, h6⟩; have y6 := (CC.out w6 (below_next h5 h6)).2.2; obtain ⟨k0, k1⟩ := cell_two y6; have f0 := box_free y6 0; have f1 := box_free y6 1; have z6 := box_set y6 0 (.int .i64 0); have k2 := box_cell z6 (i := 1) rfl; have f2 := box_free z6 1) | go_in)
    refine bodyPost_ret (v := .tuple #[.slice none 0 0, x, .agg #[.int .i64 0, .int .i64 0]]) ?_ rfl ?_
    · have y7 := two_setN (x' := .int .i64 0) (y' := .int .i64 0) y6
      obtain ⟨l0, l1⟩ := cell_two y7
      simp [results, Tryd.results8, go_sem, l0, l1]
    · have hB6 := below_next HW4.out.2.2.1 (below_next h5 h6)
      have hq1 := HW4.out.2.2.2.2
      have hq2 := lt_of_block HW4.out.2.1
      refine ⟨(hB6.setCell hq1 _).setCell hq1 _, x, rfl, ?_⟩
      have h9 := ownsRow_setCell_below (ownsRow_setCell_below hx6 (a := ⟨q + 1, 0, none⟩) (by have := h5.size; simp only; omega) (.int .i64 0)) (a := ⟨q + 1, 1, none⟩) (by have := h5.size; simp only; omega) (.int .i64 0)
      exact ownsRow_base h9 (by have := h5.size; have := HW4.out.2.2.1.size; omega)
  | some F =>
    have C24' : Hid (Calls Tryd.prog 24 #[.int .i64 (n : Int), .slice ao m cap] w4 fun e w' => ∃ x, e = .returned (.tuple #[x, .bool true]) ∧ ∃ H, FRow w' w4.heap.size x H F ∧ Below w4.heap.size w4 w') := C24.out.mono fun e w' h => by
      obtain ⟨h1, x, H, h2, h3⟩ := h
      exact ⟨x, h2, H, h3, h1⟩
    clear C24
    have C27 : Hid (∀ A, Below w4.heap.size w4 A → Calls Tryd.prog 27 #[.int .i64 (n : Int), .slice ao m cap] A fun e w' => ∃ b, e = .returned (sl b n) ∧ SetsAt w' b (nearBy n E) ∧ A.heap.size ≤ b ∧ Below A.heap.size A w') := fun A hA => by
      have hE5 := HW4.out.2.2.2.1.below hA
      rw [HM.out] at hE5 ⊢
      exact nearBy_call hE5 hn HOK.out.2.2 (by have := HM.out; omega)
    have HFL : Hid (F.length ≤ 100000) := layEOk_len E (nearBy n E) [] F HOK.out.1 HR.out.symm
    have C26 : Hid (∀ A b x H, SetsAt A b (nearBy n E) → FRow A w4.heap.size x H F → Below w.heap.size w A → Calls Tryd.prog 26 #[sl b n, x] A fun e w' => RoundAns A w' e n (roundL (nearBy n E) F)) := fun A b x H hs hf hb => by
      have := roundBy_call hs (by rw [nearBy_len]; exact hn) (by rw [nearBy_len]; exact nearBy_bits HOK.out.2.2) hf HFL.out (HT.out.under hb)
      rw [nearBy_len] at this
      exact this
    have CC : Hid (∀ A, Below w4.heap.size w4 A → A.cell? ⟨b5, 0, none⟩ = some (.int .i64 (n : Int)) ∧ A.cell? ⟨b5, 1, none⟩ = some (.slice ao m cap) ∧ Two A (q + 1) (.int .i64 0) (.int .i64 0) 27) := fun A hA => ⟨(cell_two (two_next HW4.out.1 hA)).1, (cell_two (two_next HW4.out.1 hA)).2, two_next HW4.out.2.1 hA⟩
    go_wp2_with (first | (go_at_call 24; refine Calls.mono C24'.out ?_; rintro e w5 ⟨x, rfl, H, hf5, h5⟩; obtain ⟨g0, g1, _⟩ := CC.out w5 h5) | (go_at_call 27; refine Calls.mono (C27.out w5 h5) ?_; rintro e w6 ⟨bb, rfl, hs6, hb6, h6⟩) | (go_at_call 26; refine Calls.mono (C26.out w6 bb x H hs6 (hf5.under h6) (below_next HW4.out.2.2.1 (below_next h5 h6))) ?_; rintro e w7 ⟨bt, xs, rfl, hbt, hr7, h7⟩; have y6 := (CC.out w7 (below_next (below_next h5 h6) h7)).2.2; obtain ⟨k0, k1⟩ := cell_two y6; have f0 := box_free y6 0; have f1 := box_free y6 1; have z6 := box_set y6 0 (.int .i64 0); have k2 := box_cell z6 (i := 1) rfl; have f2 := box_free z6 1) | go_in)
    refine bodyPost_ret (v := .tuple #[sl bt n, .slice none 0 0, .agg #[.int .i64 0, .int .i64 0]]) ?_ rfl ?_
    · have y7 := two_setN (x' := .int .i64 0) (y' := .int .i64 0) y6
      obtain ⟨l0, l1⟩ := cell_two y7
      simp [results, Tryd.results8, go_sem, l0, l1]
    · have hB7 := below_next HW4.out.2.2.1 (below_next (below_next h5 h6) h7)
      have hq1 := HW4.out.2.2.2.2
      have hq2 := lt_of_block HW4.out.2.1
      have hs5 := h5.size
      have hs6' := h6.size
      have hs4 := HW4.out.2.2.1.size
      refine ⟨(hB7.setCell hq1 _).setCell hq1 _, bt, xs, rfl, by omega, ?_⟩
      have hT := (setCell_turns w7 (q + 1) 0 (.int .i64 0)).trans (setCell_turns _ (q + 1) 1 (.int .i64 0))
      exact hr7.turns hT (by omega) (fun j x hx g hg => by have := (hr7.lt hx hg).1; omega)
end Go.Proofs.YtekokjechbibdaaDoor

namespace Go.Proofs.YtekokjechbibdaaDoor
set_option maxRecDepth 100000
open Go.RowKit Go.Maps
attribute [local go_sem ↓] Go.wp_at_zero Go.wp_at_succ
def k5 : List E2 := [(0, 1), (0, 2), (0, 3), (0, 4), (1, 2), (1, 3), (1, 4), (2, 3), (2, 4), (3, 4)]
def k4 : List E2 := [(0, 1), (0, 2), (0, 3), (1, 2), (1, 3), (2, 3)]
theorem k5_eq : k5 = allE 5 (hasB (fullP 5)) := by decide +kernel
theorem k4_eq : k4 = allE 4 (hasB (fullP 4)) := by decide +kernel
theorem chk5 : (chk (5 : Nat) (fullP 5)).1 = 0 := by decide +kernel
theorem chk4 : (chk (4 : Nat) (fullP 4)).1 = 0 := by decide +kernel
theorem lay5 : (lay 5 k5).isNone = true := by decide +kernel
theorem lay4 : (lay 4 k4).isSome = true := by decide +kernel
theorem ok5 : layNOk 5 k5 = true := by decide +kernel
theorem ok4 : layNOk 4 k4 = true := by decide +kernel
theorem need5 : needOk 5 k5 = true := by decide +kernel
theorem len5 : (needed 5 k5).length = 10 := by decide +kernel
set_option maxHeartbeats 2000000 in
theorem begun_call {w : World} (ht : T64 w) : Calls Tryd.prog 9 #[] w fun e w' => e = .returned (.bool true) ∧ Below w.heap.size w w' := by
  have HT : Hid (T64 w) := ht
  have F5 : Hid (∀ A : World, Calls Tryd.prog 21 #[.int .i64 5] A fun e w' => Below A.heap.size A w' ∧ ∃ ao' c l, e = .returned (.agg #[.int .i64 5, .slice ao' l c]) ∧ EdgesAt w' (.slice ao' l c) (fullP 5)) := fun A => (full_call 5 A (by omega)).mono fun e w' ⟨h1, ao, c, h2, h3⟩ => ⟨h1, ao, c, _, h2, h3⟩
  have F4 : Hid (∀ A : World, Calls Tryd.prog 21 #[.int .i64 4] A fun e w' => Below A.heap.size A w' ∧ ∃ ao' c l, e = .returned (.agg #[.int .i64 4, .slice ao' l c]) ∧ EdgesAt w' (.slice ao' l c) (fullP 4)) := fun A => (full_call 4 A (by omega)).mono fun e w' ⟨h1, ao, c, h2, h3⟩ => ⟨h1, ao, c, _, h2, h3⟩
  have E5 : Hid (∀ A v, Below w.heap.size w A → EdgesAt A v (fullP 5) → Calls Tryd.prog 8 #[.agg #[.int .i64 5, v]] A fun e w' => ∃ po pc, e = .returned (.tuple #[.slice none 0 0, .slice po 10 pc, .agg #[.int .i64 0, .int .i64 0]]) ∧ Below A.heap.size A w') := fun A v hA hE => by
    have h := embed_ok (n := 5) hE chk5 k5_eq (by decide) (HT.out.under hA) ok5 (fun _ => need5)
    refine h.mono fun e w' hr => ?_
    have hl : lay 5 k5 = none := by
      have := lay5
      cases hh : lay 5 k5 with
      | none => rfl
      | some F => rw [hh] at this; cases this
    unfold EmbR at hr
    rw [hl] at hr
    obtain ⟨h1, x, rfl, hx⟩ := hr
    rcases hx.2 with ⟨_, e0⟩ | ⟨g, cap, cur, e, _⟩
    · rw [len5] at e0; cases e0
    · rw [len5] at e
      subst e
      exact ⟨_, _, rfl, h1⟩
  have E4 : Hid (∀ A v, Below w.heap.size w A → EdgesAt A v (fullP 4) → Calls Tryd.prog 8 #[.agg #[.int .i64 4, v]] A fun e w' => ∃ bt, e = .returned (.tuple #[.slice (some ⟨bt, 0, none⟩) 4 4, .slice none 0 0, .agg #[.int .i64 0, .int .i64 0]]) ∧ Below A.heap.size A w') := fun A v hA hE => by
    have h := embed_ok (n := 4) hE chk4 k4_eq (by decide) (HT.out.under hA) ok4 (fun h => by have := lay4; rw [h] at this; cases this)
    refine h.mono fun e w' hr => ?_
    unfold EmbR at hr
    cases hl : lay 4 k4 with
    | none => have := lay4; rw [hl] at this; cases this
    | some F =>
      rw [hl] at hr
      obtain ⟨h1, bt, xs, rfl, _⟩ := hr
      exact ⟨bt, rfl, h1⟩
  clear ht
  go_enter Tryd.func9, Tryd.ntmps9
  go_upto_region 2 with (first | (go_at_call 21; refine Calls.mono (F5.out _) ?_; rintro e w1 ⟨h1, ao1, c1, l1, rfl, hE1⟩) | (go_at_call 8; refine Calls.mono (E5.out _ _ h1 hE1) ?_; rintro e w2 ⟨po, pc, rfl, h2⟩) | fail)
  have hB2 := below_next h1 h2
  have x3 := two_new w2 (.int .i64 0) (.int .i64 0) 27
  have hB3 : Below w.heap.size w (w2.alloc (Obj.cells #[.int .i64 0, .int .i64 0] 27)) := below_alloc hB2 _
  generalize w2.alloc (Obj.cells #[.int .i64 0, .int .i64 0] 27) = w3 at *
  generalize w2.heap.size = b3 at *
  have HX : Hid (Two w3 b3 (.int .i64 0) (.int .i64 0) 27 ∧ Below w.heap.size w w3) := ⟨x3, hB3⟩
  clear h1 h2 hB2 x3 hB3 hE1
  go_upto_region 3 with (first | (go_at_call 21; refine Calls.mono (F4.out _) ?_; rintro e w4 ⟨h4, ao4, c4, l4, rfl, hE4⟩) | (go_at_call 8; refine Calls.mono (E4.out _ _ (below_next HX.out.2 h4) hE4) ?_; rintro e w5 ⟨bt, rfl, h5⟩) | fail)
  have hB5 := below_next h4 h5
  have hB6 : Below w3.heap.size w3 (w5.alloc (Obj.cells #[.int .i64 0, .int .i64 0] 27)) := below_alloc hB5 _
  have x6 := two_new w5 (.int .i64 0) (.int .i64 0) 27
  obtain ⟨c0, _⟩ := cell_two x6
  obtain ⟨c1, _⟩ := cell_two (two_next HX.out.1 hB6)
  have HB6 : Hid (Below w.heap.size w (w5.alloc (Obj.cells #[.int .i64 0, .int .i64 0] 27))) := below_next HX.out.2 hB6
  generalize w5.alloc (Obj.cells #[.int .i64 0, .int .i64 0] 27) = w6 at *
  generalize w5.heap.size = b6 at *
  clear h4 h5 hB5 hB6 x6
  go_wp2
  go_ret
  exact ⟨rfl, HB6.out⟩
end Go.Proofs.YtekokjechbibdaaDoor
