/- needed: edges without a plane order, of which none is too much. -/
import Derived.Test.YtekokjechbibdaaDoorLayEW
import Derived.Test.YtekokjechbibdaaDoorDelE
import Derived.Test.YtekokjechbibdaaDoorSmallM
namespace Go.Proofs.YtekokjechbibdaaDoor
set_option maxRecDepth 8000
open Go.RowKit Go.Maps
attribute [local go_sem ↓] Go.wp_at_zero Go.wp_at_succ
theorem pz_take (es : List E2) (k : Nat) : pz (es.take k) = (pz es).take k := by simp [pz]
theorem erow_cells {w : World} {base g c : Nat} {L : List E2} (h : ERow w base (.slice (some ⟨g, 0, none⟩) L.length c) L) : ∀ (k : Nat) (e : E2), L[k]? = some e → w.cell? ⟨g, 0 + k * 2, none⟩ = some (.int .i64 (e.1 : Int)) ∧ w.cell? ⟨g, 0 + k * 2 + 1, none⟩ = some (.int .i64 (e.2 : Int)) := fun k e hk => by
  have hc := h.cells (g := g) rfl
  have hd : (flatE L).drop (k * 2) = ecell e ++ flatE (L.drop (k + 1)) := by
    rw [flatE_drop]
    obtain ⟨hlt, rfl⟩ := List.getElem?_eq_some_iff.1 hk
    rw [List.drop_eq_getElem_cons hlt]
    rfl
  have at2 : ∀ j u, (ecell e)[j]? = some u → (flatE L)[k * 2 + j]? = some u := fun j u hu => by
    rw [← List.getElem?_drop, hd, List.getElem?_append_left (List.getElem?_eq_some_iff.1 hu).1]
    exact hu
  rw [Nat.zero_add]
  refine ⟨?_, ?_⟩
  · have := hc _ _ (at2 0 _ rfl)
    rw [add_none] at this
    exact this
  · have := hc _ _ (at2 1 _ rfl)
    rw [add_none] at this
    exact this
theorem erow_edges {w : World} {base g c n : Nat} {L : List E2} (h : ERow w base (.slice (some ⟨g, 0, none⟩) L.length c) L) (hn : n ≤ 100) (hes : ∀ e ∈ L, e.1 < n ∧ e.2 < n) (hl : L.length ≤ 1000000) : EdgesAt w (.slice (some ⟨g, 0, none⟩) L.length c) (pz L) := by
  refine ⟨_, c, by rw [pz_len], by rw [pz_len]; omega, fun e he => ?_, fun k hk => ⟨g, 0, rfl, ?_⟩⟩
  · simp only [pz, List.mem_map] at he
    obtain ⟨e', he', rfl⟩ := he
    have := hes e' he'
    unfold I64
    simp only
    omega
  · rw [pz_len] at hk
    have := erow_cells h k L[k] (List.getElem?_eq_getElem hk)
    simpa [pz] using this
theorem edges_at {w : World} {ao : Option Addr} {n cap : Nat} {es : List E2} (h : EdgesAt w (.slice ao n cap) (pz es)) (h0 : 0 < es.length) : ∃ b off, ao = some ⟨b, off, none⟩ ∧ ∀ (k : Nat) (e : E2), es[k]? = some e → w.cell? ⟨b, off + k * 2, none⟩ = some (.int .i64 (e.1 : Int)) ∧ w.cell? ⟨b, off + k * 2 + 1, none⟩ = some (.int .i64 (e.2 : Int)) := by
  obtain ⟨ao', cap', e1, _, _, hc⟩ := h
  simp only [Value.slice.injEq] at e1
  obtain ⟨rfl, _, _⟩ := e1
  obtain ⟨b, off, rfl, _⟩ := hc 0 (by rw [pz_len]; exact h0)
  refine ⟨b, off, rfl, fun k e hk => ?_⟩
  obtain ⟨hkl, rfl⟩ := List.getElem?_eq_some_iff.1 hk
  obtain ⟨b', off', e2, c1, c2⟩ := hc k (by rw [pz_len]; exact hkl)
  cases e2
  simp [pz] at c1 c2
  exact ⟨c1, c2⟩
set_option maxHeartbeats 2000000 in
theorem bad_call {w : World} {ao : Option Addr} {cap n b2 : Nat} {es : List E2} (h2 : One w b2 (.int .i64 (n : Int)) 3) (hE : EdgesAt w (.slice ao es.length cap) (pz es)) (hn : n ≤ 100) (hes : ∀ e ∈ es, e.1 < n ∧ e.2 < n) (hlen : es.length ≤ 1000000) (ht : T64 w) (hok : layNOk n es = true) :
    Calls Tryd.prog 42 #[.slice ao es.length cap, .pointer (some ⟨b2, 0, none⟩)] w fun e w' => e = .returned (.bool (lay n es).isNone) ∧ Below w.heap.size w w' := by
  have C24 : Hid (Calls Tryd.prog 24 #[.int .i64 (n : Int), .slice ao es.length cap] w fun e w' => LayEAns w w' (lay n es) e) := lay_call hE hn hes hlen ht hok
  have c2 := box_cell h2 (i := 0) rfl
  obtain ⟨R, hR⟩ : ∃ R, R = lay n es := ⟨_, rfl⟩
  rw [← hR] at C24 ⊢
  generalize es.length = m at *
  clear hE hes hlen ht hok h2 hR
  cases R with
  | none =>
    have C24' : Hid (Calls Tryd.prog 24 #[.int .i64 (n : Int), .slice ao m cap] w fun e w' => e = .returned (.tuple #[.slice none 0 0, .bool false]) ∧ Below w.heap.size w w') := C24.out.mono fun e w' h => ⟨h.2, h.1⟩
    clear C24
    go_enter Tryd.func42, Tryd.ntmps42
    go_wp2_with (first | (go_at_call 24; refine Calls.mono C24'.out ?_; rintro e w9 ⟨rfl, t9⟩) | go_in)
    go_ret
    exact ⟨rfl, t9⟩
  | some F =>
    have C24' : Hid (Calls Tryd.prog 24 #[.int .i64 (n : Int), .slice ao m cap] w fun e w' => ∃ x, e = .returned (.tuple #[x, .bool true]) ∧ Below w.heap.size w w') := C24.out.mono fun e w' h => by
      obtain ⟨h1, x, H, h2, _⟩ := h
      exact ⟨x, h2, h1⟩
    clear C24
    go_enter Tryd.func42, Tryd.ntmps42
    go_wp2_with (first | (go_at_call 24; refine Calls.mono C24'.out ?_; rintro e w9 ⟨x, rfl, t9⟩) | go_in)
    go_ret
    exact ⟨rfl, t9⟩
theorem enter42 (args : Array Value) (w : World) : (callFunc 42 args).run Tryd.prog w = .ok (.enter 42 args) w := by
  simp [callFunc, Tryd.func42, go_sem]
  rw [if_neg (of_decide_eq_true (by kernel_rfl)), if_neg (by intro h; have : Tryd.f42.body.isSome = true := (by kernel_rfl); rw [h] at this; cases this)]
theorem enter44 (args : Array Value) (w : World) : (callFunc 44 args).run Tryd.prog w = .ok (.enter 44 args) w := by
  simp [callFunc, Tryd.func44, go_sem]
  rw [if_neg (of_decide_eq_true (by kernel_rfl)), if_neg (by intro h; have : Tryd.f44.body.isSome = true := (by kernel_rfl); rw [h] at this; cases this)]
set_option maxHeartbeats 2000000 in
theorem badTo_call {w : World} {ao : Option Addr} {cap n b2 b3 b5 k : Nat} {es : List E2} (h2 : One w b2 (.int .i64 (n : Int)) 3) (h3 : One w b3 (.slice ao es.length cap) 22) (h5 : One w b5 (.func (.func 42) #[] #[.pointer (some ⟨b2, 0, none⟩)]) 79) (hE : EdgesAt w (.slice ao es.length cap) (pz es)) (hn : n ≤ 100) (hes : ∀ e ∈ es, e.1 < n ∧ e.2 < n) (hlen : es.length ≤ 1000000) (hc : es.length ≤ cap) (ht : T64 w) (hk : k < es.length) (hok : layNOk n (es.take k) = true) :
    Calls Tryd.prog 44 #[.int .i64 (k : Int), .pointer (some ⟨b5, 0, none⟩), .pointer (some ⟨b3, 0, none⟩)] w fun e w' => e = .returned (.bool (lay n (es.take k)).isNone) ∧ Below w.heap.size w w' := by
  have C42 : Hid (∀ A c, Below w.heap.size w A → Calls Tryd.prog 42 #[.slice ao k c, .pointer (some ⟨b2, 0, none⟩)] A fun e w' => e = .returned (.bool (lay n (es.take k)).isNone) ∧ Below A.heap.size A w') := fun A c hA => by
    have hE2 := (hE.below hA).take k (by rw [pz_len]; omega) c
    rw [← pz_take] at hE2
    have hl2 : (es.take k).length = k := by rw [List.length_take]; omega
    have := bad_call (es := es.take k) (cap := c) (ao := ao) ((hA.block _ (lt_of_block h2)).trans h2) (by rw [hl2]; exact hE2) hn (fun e he => hes e (List.mem_of_mem_take he)) (by omega) (ht.under hA) hok
    rw [hl2] at this
    exact this
  obtain ⟨b, off, rfl, _⟩ := edges_at hE (by omega)
  have g3 := cell_growD (box_cell h3 (i := 0) rfl)
  have g5 := cell_growD (box_cell h5 (i := 0) rfl)
  have hF := enter42
  have k1 : (k : Int) ≤ (cap : Int) := by omega
  have k2 : (0 : Int) ≤ (k : Int) := by omega
  generalize (lay n (es.take k)).isNone = R at *
  generalize es.length = m at *
  clear hE hes hlen ht hok h2 h3 h5
  go_enter Tryd.func44, Tryd.ntmps44
  go_upto_region 1 with (fail)
  refine wp_region_below (by kernel_rfl) (by kernel_rfl) ?_
  repeat (quiet_step (first | (go_at_call 42; exact Calls.belowQ (fun W hW => C42.out W _ hW))))
  refine wpQuiet_nil ?_
  rintro _ ⟨gp, rfl⟩
  have hB8 := growD_below w gp
  clear g3 g5
  generalize growD w gp = w8 at *
  go_wp2
  go_ret
  exact ⟨rfl, hB8⟩
def needLOk (n : Nat) : Nat → Nat → List E2 → Bool
  | 0, _, _ => false
  | f + 1, k, bad => if k < bad.length then layNOk n (bad.eraseIdx k) && (if (lay n (bad.eraseIdx k)).isNone then needLOk n f k (bad.eraseIdx k) else needLOk n f (k + 1) bad) else true
def manyE (n : Nat) (es : List E2) : Nat := search (fun k => (lay n (es.take k)).isNone) 64 0 es.length
def needOk (n : Nat) (es : List E2) : Bool := (List.range es.length).all (fun k => layNOk n (es.take k)) && decide (0 < manyE n es) && decide (manyE n es ≤ es.length) && needLOk n (es.length + 1) 0 (es.take (manyE n es))
set_option maxHeartbeats 4000000 in
theorem needed_call {w : World} {ao : Option Addr} {cap n : Nat} {es : List E2} (hE : EdgesAt w (.slice ao es.length cap) (pz es)) (hn : n ≤ 100) (hes : ∀ e ∈ es, e.1 < n ∧ e.2 < n) (hlen : es.length ≤ 1000000) (hc : es.length ≤ cap) (ht : T64 w) (hok : needOk n es = true) :
    Calls Tryd.prog 25 #[.int .i64 (n : Int), .slice ao es.length cap] w fun e w' => ∃ x, e = .returned x ∧ ERow w' w.heap.size x (needed n es) ∧ Below w.heap.size w w' := by
  have HE : Hid (EdgesAt w (.slice ao es.length cap) (pz es)) := hE
  have HES : Hid (∀ e ∈ es, e.1 < n ∧ e.2 < n) := hes
  have HT : Hid (T64 w) := ht
  simp only [needOk, Bool.and_eq_true, List.all_eq_true, List.mem_range, decide_eq_true_eq] at hok
  obtain ⟨⟨⟨o1, o2⟩, o3⟩, o4⟩ := hok
  have HOK : Hid (∀ k, k < es.length → layNOk n (es.take k) = true) := o1
  obtain ⟨R, hR⟩ : ∃ R, R = needed n es := ⟨_, rfl⟩
  rw [← hR]
  have hR' : R = needL n (es.length + 1) 0 (es.take (manyE n es)) := hR
  have C43 : Hid (∀ A b2 b3 b5, Below w.heap.size w A → One A b2 (.int .i64 (n : Int)) 3 → One A b3 (.slice ao es.length cap) 22 → One A b5 (.func (.func 42) #[] #[.pointer (some ⟨b2, 0, none⟩)]) 79 → Calls Tryd.prog 43 #[.int .i64 (es.length : Int), .func (.func 44) #[] #[.pointer (some ⟨b5, 0, none⟩), .pointer (some ⟨b3, 0, none⟩)]] A fun e w' => e = .returned (.int .i64 (manyE n es : Int)) ∧ Below A.heap.size A w') := fun A b2 b3 b5 hA h2 h3 h5 =>
    search_call (p := fun k => (lay n (es.take k)).isNone) enter44 hlen fun B k hB hk => badTo_call (k := k) ((hB.block _ (lt_of_block h2)).trans h2) ((hB.block _ (lt_of_block h3)).trans h3) ((hB.block _ (lt_of_block h5)).trans h5) (hE.below (below_next hA hB)) hn hes hlen hc (ht.under (below_next hA hB)) hk (o1 k hk)
  obtain ⟨b, off, rfl, hcl⟩ := edges_at hE (by omega)
  have HCL : Hid _ := hcl
  generalize hmm : manyE n es = mm at *
  have HRR : Hid (R = needL n (es.length + 1) 0 (es.take mm) ∧ needLOk n (es.length + 1) 0 (es.take mm) = true) := ⟨hR', o4⟩
  obtain ⟨m, hm⟩ : ∃ m, m = es.length := ⟨_, rfl⟩
  have hmt : (es.take mm).length = mm := by rw [List.length_take]; omega
  have C45 : Hid (∀ A c, Below w.heap.size w A → Calls Tryd.prog 45 #[.slice (some ⟨b, off, none⟩) mm c] A fun e w' => ∃ g' c', e = .returned (.slice (some ⟨g', 0, none⟩) mm c') ∧ ERow w' A.heap.size (.slice (some ⟨g', 0, none⟩) mm c') (es.take mm) ∧ Below A.heap.size A w') := fun A c hA => by
    have := cloneE_call (w := A) (g := b) (o := off) (pc := c) (l := es.take mm) (by omega) (by omega) (fun k e hk => by
      rw [List.getElem?_take] at hk
      split at hk
      · obtain ⟨c1, c2⟩ := hcl k e hk
        exact ⟨(hA.cell (World.block_lt_of_cell? _ _ c1)).trans c1, (hA.cell (World.block_lt_of_cell? _ _ c2)).trans c2⟩
      · cases hk)
    rw [hmt] at this
    exact this
  rw [← hm] at hlen hc C43 o3 ⊢
  have HM : Hid (m = es.length ∧ (es.take mm).length = mm) := ⟨hm, hmt⟩
  clear hE hes ht o1 o4 hR hR' hcl hmm hm hmt
  have k1 : (mm : Int) ≤ (cap : Int) := by omega
  have k2 : (0 : Int) ≤ (mm : Int) := by omega
  go_enter Tryd.func25, Tryd.ntmps25
  go_upto_region 2 with (fail)
  have x2 : One (((w.alloc (Obj.cells #[Value.int IntKind.i64 (n : Int)] 3)).alloc (Obj.cells #[Value.slice (some ⟨b, off, none⟩) m cap] 22)).alloc (Obj.cells #[Value.func (Fn.func 42) #[] #[Value.pointer (some ⟨w.heap.size, 0, none⟩)]] 79)) w.heap.size (.int .i64 (n : Int)) 3 := (Below.heap_alloc _ _ _ (by simp; omega)).trans ((Below.heap_alloc _ _ _ (by simp)).trans (one_new _ _ _))
  have x3 : One (((w.alloc (Obj.cells #[Value.int IntKind.i64 (n : Int)] 3)).alloc (Obj.cells #[Value.slice (some ⟨b, off, none⟩) m cap] 22)).alloc (Obj.cells #[Value.func (Fn.func 42) #[] #[Value.pointer (some ⟨w.heap.size, 0, none⟩)]] 79)) (w.heap.size + 1) (.slice (some ⟨b, off, none⟩) m cap) 22 := by
    refine (Below.heap_alloc _ _ _ (by simp)).trans ?_
    have := one_new (w.alloc (Obj.cells #[Value.int IntKind.i64 (n : Int)] 3)) (Value.slice (some ⟨b, off, none⟩) m cap) 22
    rw [World.size_alloc] at this
    exact this
  have x5 : One (((w.alloc (Obj.cells #[Value.int IntKind.i64 (n : Int)] 3)).alloc (Obj.cells #[Value.slice (some ⟨b, off, none⟩) m cap] 22)).alloc (Obj.cells #[Value.func (Fn.func 42) #[] #[Value.pointer (some ⟨w.heap.size, 0, none⟩)]] 79)) (w.heap.size + 2) (.func (.func 42) #[] #[.pointer (some ⟨w.heap.size, 0, none⟩)]) 79 := by
    have := one_new ((w.alloc (Obj.cells #[Value.int IntKind.i64 (n : Int)] 3)).alloc (Obj.cells #[Value.slice (some ⟨b, off, none⟩) m cap] 22)) (Value.func (Fn.func 42) #[] #[Value.pointer (some ⟨w.heap.size, 0, none⟩)]) 79
    rw [World.size_alloc, World.size_alloc] at this
    exact this
  have hB5 : Below w.heap.size w (((w.alloc (Obj.cells #[Value.int IntKind.i64 (n : Int)] 3)).alloc (Obj.cells #[Value.slice (some ⟨b, off, none⟩) m cap] 22)).alloc (Obj.cells #[Value.func (Fn.func 42) #[] #[Value.pointer (some ⟨w.heap.size, 0, none⟩)]] 79)) := below_alloc (below_alloc (below_alloc (Below.refl _ w) _) _) _
  generalize (((w.alloc (Obj.cells #[Value.int IntKind.i64 (n : Int)] 3)).alloc (Obj.cells #[Value.slice (some ⟨b, off, none⟩) m cap] 22)).alloc (Obj.cells #[Value.func (Fn.func 42) #[] #[Value.pointer (some ⟨w.heap.size, 0, none⟩)]] 79)) = W5 at *
  generalize hq : w.heap.size = q at *
  have HQ : Hid (w.heap.size = q) := hq
  have HX : Hid (One W5 q (.int .i64 (n : Int)) 3 ∧ One W5 (q + 2) (.func (.func 42) #[] #[.pointer (some ⟨q, 0, none⟩)]) 79 ∧ Below w.heap.size w W5) := ⟨x2, x5, by rw [hq]; exact hB5⟩
  have C43' : Hid (Calls Tryd.prog 43 #[.int .i64 (m : Int), .func (.func 44) #[] #[.pointer (some ⟨q + 2, 0, none⟩), .pointer (some ⟨q + 1, 0, none⟩)]] W5 fun e w' => e = .returned (.int .i64 (mm : Int)) ∧ Below W5.heap.size W5 w') := C43.out W5 q (q + 1) (q + 2) hB5 x2 x3 x5
  have K3 : Hid (∀ A, Below W5.heap.size W5 A → A.cell? ⟨q + 1, 0, none⟩ = some (.slice (some ⟨b, off, none⟩) m cap)) := fun A hA => box_cell ((hA.block _ (lt_of_block x3)).trans x3) (i := 0) rfl
  have c3 := K3.out W5 (Below.refl _ _)
  clear hq x2 x3 x5 hB5 C43
  go_upto_region 3 with (first | (go_at_call 43; refine Calls.mono C43'.out ?_; rintro e w6 ⟨rfl, h6⟩) | fail)
  have c4 := K3.out w6 h6
  have C45' : Hid (Calls Tryd.prog 45 #[.slice (some ⟨b, off, none⟩) mm cap] w6 fun e w' => ∃ g' c', e = .returned (.slice (some ⟨g', 0, none⟩) mm c') ∧ ERow w' w6.heap.size (.slice (some ⟨g', 0, none⟩) mm c') (es.take mm) ∧ Below w6.heap.size w6 w') := C45.out w6 cap (by have := below_next HX.out.2.2 h6; rw [HQ.out] at this; exact this)
  have H6 : Hid (Below W5.heap.size W5 w6) := h6
  clear C45 C43' h6 c3
  go_upto_region 5 with (first | (go_at_call 45; refine Calls.mono C45'.out ?_; rintro e w7 ⟨g7, c7, rfl, hr7, h7⟩) | fail)
  have HR7 : Hid (ERow w7 W5.heap.size (.slice (some ⟨g7, 0, none⟩) mm c7) (es.take mm)) := by
    have := ownsRow_base hr7 H6.out.size
    exact this
  have H7 : Hid (Below W5.heap.size W5 w7) := below_next H6.out h7
  clear hr7 h7 C45' c4
  go_loopw [7, 8] (fun s7 s8 wz => ∃ (fu k : Nat) (bad : List E2), s8 = .int .i64 (k : Int) ∧ ERow wz W5.heap.size s7 bad ∧ Below W5.heap.size W5 wz ∧ bad.length ≤ mm ∧ k ≤ bad.length ∧ (∀ e ∈ bad, e.1 < n ∧ e.2 < n) ∧ R = needL n fu k bad ∧ needLOk n fu k bad = true) (fun s7 s8 _ => lenV s7 - (numOf s8).toNat)
  case atStart => exact ⟨m + 1, 0, es.take mm, rfl, HR7.out, H7.out, by rw [HM.out.2]; exact Nat.le_refl _, Nat.zero_le _, fun e he => HES.out e (List.mem_of_mem_take he), by rw [HM.out.1]; exact HRR.out.1, by rw [HM.out.1]; exact HRR.out.2⟩
  case round =>
    obtain ⟨fu, k, bad, rfl, hrw, hB, hbl, hkl, hbs, hR, hok⟩ := hrel
    obtain ⟨fu, rfl⟩ : ∃ f, fu = f + 1 := by
      cases fu with
      | zero => simp [needLOk] at hok
      | succ f => exact ⟨f, rfl⟩
    by_cases hlt : k < bad.length
    · obtain ⟨g, c, hs7, _⟩ := hrw.form (by omega)
      subst hs7
      obtain ⟨t, ht⟩ : ∃ t, bad.length = t + 1 := ⟨bad.length - 1, by omega⟩
      obtain ⟨wo, hwo⟩ : ∃ wo, wo = bad.eraseIdx k := ⟨_, rfl⟩
      have hwl : wo.length = t := by rw [hwo, List.length_eraseIdx, if_pos hlt]; omega
      have hwm : ∀ e ∈ wo, e.1 < n ∧ e.2 < n := fun e he => hbs e (by rw [hwo] at he; exact List.mem_of_mem_eraseIdx he)
      have hok' : layNOk n wo = true ∧ (if (lay n wo).isNone then needLOk n fu k wo else needLOk n fu (k + 1) bad) = true := by
        rw [needLOk, if_pos hlt, ← hwo, Bool.and_eq_true] at hok
        exact hok
      have hR' : R = if (lay n wo).isNone then needL n fu k wo else needL n fu (k + 1) bad := by
        rw [hR, needL, if_pos hlt, ← hwo]
      have C45 : Hid (Calls Tryd.prog 45 #[.slice (some ⟨g, 0, none⟩) (t + 1) c] wr fun e w' => ∃ g' c', e = .returned (.slice (some ⟨g', 0, none⟩) (t + 1) c') ∧ w'.ownsRow wr.heap.size 49 2 (.slice (some ⟨g', 0, none⟩) (t + 1) c') (t + 1) (flatE bad) ∧ Below wr.heap.size wr w') := by
        have := cloneE_call (w := wr) (g := g) (o := 0) (pc := c) (l := bad) (by omega) (by omega) (erow_cells hrw)
        unfold ERow at this
        rw [ht] at this
        exact this
      have C46 : Hid (∀ A g' c', A.ownsRow wr.heap.size 49 2 (.slice (some ⟨g', 0, none⟩) (t + 1) c') (t + 1) (flatE bad) → Calls Tryd.prog 46 #[.slice (some ⟨g', 0, none⟩) (t + 1) c', .int .i64 (k : Int), .int .i64 ((k : Int) + 1)] A fun e w' => e = .returned (.slice (some ⟨g', 0, none⟩) t c') ∧ ERow w' wr.heap.size (.slice (some ⟨g', 0, none⟩) t c') wo ∧ Turns (fun k => k = g') A w') := fun A g' c' hA => by
        rw [hwo]
        exact deleteE_call (P := bad) (by unfold ERow; rw [ht]; exact hA) ht (by omega) (by omega)
      have HB : Hid (Below W5.heap.size W5 wr ∧ ERow wr W5.heap.size (.slice (some ⟨g, 0, none⟩) bad.length c) bad) := ⟨hB, hrw⟩
      have HH : Hid (bad.length = t + 1 ∧ wo.length = t ∧ bad.length ≤ mm ∧ (∀ e ∈ wo, e.1 < n ∧ e.2 < n) ∧ (∀ e ∈ bad, e.1 < n ∧ e.2 < n)) := ⟨ht, hwl, hbl, hwm, hbs⟩
      have HRK : Hid _ := hR'
      have HOK2 : Hid (layNOk n wo = true ∧ (if (lay n wo).isNone then needLOk n fu k wo else needLOk n fu (k + 1) bad) = true) := hok'
      have q1 : (k : Int) < (t : Int) + 1 := by omega
      have q2 : k ≤ t := by omega
      have q3 : t ≤ 1000000 := by omega
      rw [ht]
      clear hrw hB hbl hkl hbs hR hok hlt hwo hwl hwm hok' hR' ht
      go_upto_region 7 with (first | (go_at_call 45; refine Calls.mono C45.out ?_; rintro e w8 ⟨g8, c8, rfl, hr8, h8⟩) | (go_at_call 46; refine Calls.mono (C46.out _ _ _ hr8) ?_; rintro e w9 ⟨rfl, hr9, t9⟩) | fail)
      have hg8 := hr8.lt g8 rfl
      have hB9 : Below wr.heap.size wr w9 := t9.below h8 h8.size (fun k e => by rw [e]; exact hg8.1)
      have H9 : Hid (Below wr.heap.size wr w9 ∧ Below W5.heap.size W5 w9) := ⟨hB9, below_next HB.out.1 hB9⟩
      have HR9 : Hid (ERow w9 W5.heap.size (.slice (some ⟨g8, 0, none⟩) t c8) wo) := ownsRow_base hr9 HB.out.1.size
      have x2 : One w9 q (.int .i64 (n : Int)) 3 := (H9.out.2.block _ (lt_of_block HX.out.1)).trans HX.out.1
      have x5 : One w9 (q + 2) (.func (.func 42) #[] #[.pointer (some ⟨q, 0, none⟩)]) 79 := (H9.out.2.block _ (lt_of_block HX.out.2.1)).trans HX.out.2.1
      have C42 : Hid (Calls Tryd.prog 42 #[.slice (some ⟨g8, 0, none⟩) t c8, .pointer (some ⟨q, 0, none⟩)] w9 fun e w' => e = .returned (.bool (lay n wo).isNone) ∧ Below w9.heap.size w9 w') := by
        have := bad_call (w := w9) (ao := some ⟨g8, 0, none⟩) (cap := c8) (es := wo) x2 (erow_edges (base := W5.heap.size) (by have := HR9.out; unfold ERow at this ⊢; rw [HH.out.2.1] at this ⊢; exact this) hn HH.out.2.2.2.1 (by have := HH.out.2.1; omega)) hn HH.out.2.2.2.1 (by have := HH.out.2.1; omega) (HT.out.under (below_next HX.out.2.2 H9.out.2)) HOK2.out.1
        rw [HH.out.2.1] at this
        exact this
      have c5 := box_cell x5 (i := 0) rfl
      have hF := enter42
      clear C45 C46 hr8 h8 hr9 t9 hg8 hB9 x2 x5
      obtain ⟨bb, hbb⟩ : ∃ bb, bb = (lay n wo).isNone := ⟨_, rfl⟩
      rw [← hbb] at C42
      have HBB : Hid _ := hbb
      clear hbb
      cases bb with
      | true =>
        go_wp2_with (first | (go_at_call 42; refine Calls.mono C42.out ?_; rintro e w10 ⟨rfl, h10⟩) | go_in)
        go_roundw
        case rel =>
          refine ⟨fu, k, wo, rfl, ?_, below_next H9.out.2 h10, by have := HH.out; omega, by have := HH.out; omega, HH.out.2.2.2.1, ?_, ?_⟩
          · exact ownsRow_blocks HR9.out (fun g hg => h10.block g (HR9.out.lt g hg).2)
          · rw [HRK.out, if_pos HBB.out.symm]
          · have := HOK2.out.2
            rw [if_pos HBB.out.symm] at this
            exact this
        case measure => simp [numOf, lenV]; omega
      | false =>
        have hnb : ¬ (lay n wo).isNone = true := by rw [← HBB.out]; simp
        go_wp2_with (first | (go_at_call 42; refine Calls.mono C42.out ?_; rintro e w10 ⟨rfl, h10⟩) | go_in)
        go_roundw
        case rel =>
          refine ⟨fu, k + 1, bad, by go_num, ?_, below_next H9.out.2 h10, by have := HH.out; omega, by have := HH.out; omega, HH.out.2.2.2.2, ?_, ?_⟩
          · have h11 := below_next H9.out.1 h10
            have := ownsRow_blocks HB.out.2 (fun g hg => h11.block g (HB.out.2.lt g hg).2)
            rw [HH.out.1] at this
            unfold ERow
            rw [HH.out.1]
            exact this
          · rw [HRK.out, if_neg hnb]
          · have := HOK2.out.2
            rw [if_neg hnb] at this
            exact this
        case measure => simp [numOf, lenV]; omega
    · have hRs : R = bad := by rw [hR, needL, if_neg hlt]
      have hs7 : ∃ po pc, u7 = .slice po bad.length pc := by
        rcases hrw.2 with ⟨e, e0⟩ | ⟨g, cap, cur, e, _⟩
        · rw [e0]; exact ⟨_, _, e⟩
        · exact ⟨_, _, e⟩
      obtain ⟨po, pc, rfl⟩ := hs7
      have HB : Hid (Below W5.heap.size W5 wr ∧ ERow wr W5.heap.size (.slice po bad.length pc) bad) := ⟨hB, hrw⟩
      have HRs : Hid (R = bad) := hRs
      have q1 : ¬ (k : Int) < (bad.length : Int) := by omega
      generalize hbl2 : bad.length = bl at *
      have HBL : Hid (bad.length = bl) := hbl2
      clear hrw hB hbs hR hok hRs hbl2 hlt
      go_wp2
      go_ret
      refine ⟨_, rfl, ?_, below_next HX.out.2.2 HB.out.1⟩
      rw [HRs.out]
      have h9 : ERow wr w.heap.size (.slice po bl pc) bad := ownsRow_base HB.out.2 (by have := lt_of_block HX.out.1; have := HQ.out; omega)
      exact h9
end Go.Proofs.YtekokjechbibdaaDoor
