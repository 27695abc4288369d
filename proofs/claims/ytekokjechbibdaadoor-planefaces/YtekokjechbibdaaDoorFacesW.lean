/- Faces: the faces of an order round the nodes, or what is wrong with it. -/
import Derived.Test.YtekokjechbibdaaDoorTraceW
namespace Go.Proofs.YtekokjechbibdaaDoor
set_option maxRecDepth 8000
open Go.RowKit Go.Maps
attribute [local go_sem ↓] Go.wp_at_zero Go.wp_at_succ
theorem eachB_out : ∀ (l : List Int) (told s : Nat), eachB l told s = true → ∃ m : List Nat, l = castL m ∧ m.Nodup ∧ (∀ x ∈ m, x < 100 ∧ told.testBit x = false) ∧ ∀ z, s.testBit z = (told.testBit z || decide (z ∈ m))
  | [], told, s, h => by
    rw [eachB] at h
    have : told = s := by simpa using h
    subst this
    exact ⟨[], rfl, List.nodup_nil, fun x hx => (by cases hx), fun z => (by simp)⟩
  | x :: l, told, s, h => by
    by_cases hx : x < 0 ∨ 100 ≤ x ∨ told.testBit x.toNat = true
    · rw [eachB_bad hx] at h; cases h
    · have h1 : ¬ x < 0 := fun e => hx (Or.inl e)
      have h2 : ¬ 100 ≤ x := fun e => hx (Or.inr (Or.inl e))
      have h3 : told.testBit x.toNat = false := by
        cases hh : told.testBit x.toNat with
        | false => rfl
        | true => exact absurd (Or.inr (Or.inr hh)) hx
      rw [eachB_go h1 h2 h3] at h
      obtain ⟨m, e1, e2, e3, e4⟩ := eachB_out l _ s h
      refine ⟨x.toNat :: m, ?_, List.nodup_cons.2 ⟨fun hm => ?_, e2⟩, fun y hy => ?_, fun z => ?_⟩
      · rw [e1]
        show _ = ((x.toNat : Nat) : Int) :: castL m
        rw [show ((x.toNat : Nat) : Int) = x by omega]
      · have := (e3 _ hm).2
        rw [bit_add] at this
        simp at this
      · rcases List.mem_cons.1 hy with rfl | hy
        · exact ⟨by omega, h3⟩
        · have := e3 y hy
          rw [bit_add] at this
          simp at this
          exact ⟨this.1, this.2.1⟩
      · rw [e4, bit_add]
        simp only [List.mem_cons]
        by_cases e : z = x.toNat
        · simp [e]
        · simp [e]
theorem eachB_in : ∀ (m : List Nat) (told s : Nat), m.Nodup → (∀ x ∈ m, x < 100 ∧ told.testBit x = false) → (∀ z, s.testBit z = (told.testBit z || decide (z ∈ m))) → eachB (castL m) told s = true
  | [], told, s, _, _, h => by
    have : told = s := Nat.eq_of_testBit_eq fun i => by rw [h]; simp
    show (told == s) = true
    simp [this]
  | x :: m, told, s, hn, hm, h => by
    obtain ⟨h1, h2⟩ := List.nodup_cons.1 hn
    obtain ⟨h3, h4⟩ := hm x (by simp)
    show eachB ((x : Int) :: castL m) told s = true
    rw [eachB_go (by omega) (by omega) (by simpa using h4), show ((x : Int)).toNat = x by omega]
    refine eachB_in m _ s h2 (fun y hy => ⟨(hm y (by simp [hy])).1, ?_⟩) (fun z => ?_)
    · rw [bit_add, (hm y (by simp [hy])).2]
      have : ¬ y = x := fun e => h1 (e ▸ hy)
      simp [this]
    · rw [h, bit_add]
      simp only [List.mem_cons]
      by_cases e : z = x
      · simp [e]
      · simp [e]
theorem castL_inj : ∀ {a b : List Nat}, castL a = castL b → a = b
  | [], [], _ => rfl
  | [], _ :: _, h => by simp [castL] at h
  | _ :: _, [], h => by simp [castL] at h
  | x :: a, y :: b, h => by
    simp only [castL, List.map_cons, List.cons.injEq] at h
    rw [castL_inj h.2, show x = y by omega]
/-- The rows are in order: each has just the nodes near its own, once. -/
def RowsOk (near : List Nat) (rs : List (List Nat)) : Prop := rs.length = near.length ∧ ∀ (v : Nat) (l : List Nat), rs[v]? = some l → l.Nodup ∧ ∀ z, (at' near v).testBit z = decide (z ∈ l)
theorem roundBad_good (near : List Nat) : ∀ (ls : List (List Int)) (v : Nat), (roundBad near v ls).1 = 0 → roundBad near v ls = (0, 0) ∧ ∃ rs, ls = castR rs ∧ ∀ (i : Nat) (l : List Nat), rs[i]? = some l → l.Nodup ∧ (∀ x ∈ l, x < 100) ∧ ∀ z, (at' near (v + i)).testBit z = decide (z ∈ l)
  | [], v, _ => ⟨rfl, [], rfl, fun i l h => by simp at h⟩
  | l :: ls, v, h => by
    by_cases he : eachB l 0 (at' near v) = true
    · rw [roundBad, if_pos he] at h ⊢
      obtain ⟨h1, rs, h2, h3⟩ := roundBad_good near ls (v + 1) h
      obtain ⟨m, e1, e2, e3, e4⟩ := eachB_out l 0 _ he
      refine ⟨h1, m :: rs, by rw [e1, h2]; rfl, fun i l' hi => ?_⟩
      cases i with
      | zero =>
        simp at hi
        subst hi
        exact ⟨e2, fun x hx => (e3 x hx).1, fun z => by rw [Nat.add_zero, e4]; simp⟩
      | succ i =>
        have := h3 i l' (by simpa using hi)
        rw [show v + 1 + i = v + (i + 1) by omega] at this
        exact this
    · rw [roundBad, if_neg he] at h
      simp at h
theorem roundS_good {near : List Nat} {ls : List (List Int)} (h : (roundS near ls).1 = 0) : roundS near ls = (0, 0) ∧ ∃ rs, ls = castR rs ∧ RowsOk near rs ∧ ∀ l ∈ rs, ∀ x ∈ l, x < 100 := by
  unfold roundS at h ⊢
  by_cases hl : ls.length = near.length
  · rw [if_pos hl] at h ⊢
    obtain ⟨h1, rs, h2, h3⟩ := roundBad_good near ls 0 h
    refine ⟨h1, rs, h2, ⟨by rw [← hl, h2, castR_len], fun v l hv => ?_⟩, fun l hm x hx => ?_⟩
    · have := h3 v l hv
      rw [Nat.zero_add] at this
      exact ⟨this.1, this.2.2⟩
    · obtain ⟨i, hi⟩ := List.getElem?_of_mem hm
      exact (h3 i l hi).2.1 x hx
  · rw [if_neg hl] at h; simp at h
theorem nodupN_len {n : Nat} : ∀ {l : List Nat}, l.Nodup → (∀ x ∈ l, x < n) → l.length ≤ n := by
  induction n with
  | zero =>
    intro l _ h
    cases l with
    | nil => simp
    | cons x l => have := h x (by simp); omega
  | succ n ih =>
    intro l hn h
    have h1 := ih (l := l.filter (fun x => decide (x ≠ n))) (List.Nodup.sublist List.filter_sublist hn) (fun x hx => by
      have := List.mem_filter.1 hx
      have h2 := h x this.1
      have h3 := of_decide_eq_true this.2
      omega)
    have h2 : l.length ≤ (l.filter (fun x => decide (x ≠ n))).length + 1 := by
      clear ih h1 h
      induction l with
      | nil => simp
      | cons x l ih2 =>
        obtain ⟨k1, k2⟩ := List.nodup_cons.1 hn
        by_cases e : x = n
        · subst e
          rw [List.filter_cons_of_neg (by simp)]
          have : l.filter (fun y => decide (y ≠ x)) = l := List.filter_eq_self.2 fun y hy => by
            have : y ≠ x := fun e => k1 (e ▸ hy)
            simpa using this
          rw [this]
          simp
        · rw [List.filter_cons_of_pos (by simpa using e)]
          have := ih2 k2
          rw [List.length_cons, List.length_cons]; omega
    omega
theorem fillR_mem (v : Nat) (l : List Nat) : ∀ (k : Nat) (M : Nat → Nat → Nat) (a b : Nat), (fillR v l k M a b = M a b) ∨ (a = v ∧ (fillR v l k M a b ∈ l ∨ fillR v l k M a b = 0))
  | 0, M, a, b => Or.inl rfl
  | k + 1, M, a, b => by
    rw [fillR_succ]
    unfold stepR upd2
    split
    · rename_i h
      refine Or.inr ⟨h.1, ?_⟩
      rw [List.getD_eq_getElem?_getD]
      cases hh : l[(k + 1) % l.length]? with
      | none => exact Or.inr rfl
      | some x => exact Or.inl (List.mem_of_getElem? hh)
    · exact fillR_mem v l k M a b
theorem turnsR_lt {rs : List (List Nat)} {n : Nat} (h : ∀ l ∈ rs, ∀ x ∈ l, x < n) : ∀ (k a b : Nat), a < n → turnsR rs k a b < n
  | 0, a, b, ha => by show 0 < n; omega
  | k + 1, a, b, ha => by
    show fillR k (rs.getD k []) (rs.getD k []).length (turnsR rs k) a b < n
    rcases fillR_mem k (rs.getD k []) (rs.getD k []).length (turnsR rs k) a b with h1 | ⟨_, h1 | h1⟩
    · rw [h1]; exact turnsR_lt h k a b ha
    · rw [List.getD_eq_getElem?_getD] at h1 ⊢
      cases hh : rs[k]? with
      | none => rw [hh] at h1; cases h1
      | some l => rw [hh] at h1; exact h l (List.mem_of_getElem? hh) _ h1
    · rw [h1]; omega
/-- What Faces tells: the faults first. -/
def faceF (n : Nat) (es : List Pair) (E : List E2) (ls : List (List Int)) : Int × Int := if (chk n es).1 = 0 then roundS (nearBy n E) ls else chk n es
set_option maxHeartbeats 2000000 in
theorem faces_bad0 {w : World} {n : Int} {v x : Value} {es : List Pair} {ls : List (List Int)} (hE : EdgesAt w v es) (hx : RowsAt w x ls) (hc : (chk n es).1 ≠ 0) :
    Calls Tryd.prog 18 #[.agg #[.int .i64 n, v], x] w fun e w' => e = .returned (.tuple #[.slice none 0 0, .agg #[.int .i64 (chk n es).1, .int .i64 (chk n es).2]]) ∧ Below w.heap.size w w' := by
  obtain ⟨ao0, cap0, hv⟩ := hE.form
  subst hv
  obtain ⟨xo, xc, hxe, hx9⟩ := hx
  clear hx9
  generalize ls.length = xl at hxe
  subst hxe
  have C31 : Hid (∀ A, Below w.heap.size w A → Calls Tryd.prog 31 #[.agg #[.int .i64 n, .slice ao0 es.length cap0]] A fun e w' => e = .returned (.agg #[.int .i64 (chk n es).1, .int .i64 (chk n es).2]) ∧ Below A.heap.size A w') := fun A hA => check_any n _ es A (hE.below hA)
  generalize chk n es = ck at *
  generalize es.length = el at *
  obtain ⟨c, d⟩ := ck
  simp only at hc C31 ⊢
  clear hE
  go_enter Tryd.func18, Tryd.ntmps18
  go_upto_region 1 with (fail)
  have x2 := two_new w (.int .i64 n) (.slice ao0 el cap0) 24
  have hB2 : Below w.heap.size w ((w.alloc (Obj.cells #[.int .i64 n, .slice ao0 el cap0] 24)).alloc (Obj.cells #[.int .i64 0, .int .i64 0] 27)) := below_alloc (below_alloc (Below.refl _ w) _) _
  have y2 : Two ((w.alloc (Obj.cells #[.int .i64 n, .slice ao0 el cap0] 24)).alloc (Obj.cells #[.int .i64 0, .int .i64 0] 27)) w.heap.size (.int .i64 n) (.slice ao0 el cap0) 24 := two_alloc x2 _
  have y5 : Two ((w.alloc (Obj.cells #[.int .i64 n, .slice ao0 el cap0] 24)).alloc (Obj.cells #[.int .i64 0, .int .i64 0] 27)) (w.heap.size + 1) (.int .i64 0) (.int .i64 0) 27 := two_nxt _ _ _ _ _
  obtain ⟨q, hq⟩ : ∃ q, q = w.heap.size := ⟨_, rfl⟩
  rw [← hq] at y2 y5 ⊢
  generalize (w.alloc (Obj.cells #[.int .i64 n, .slice ao0 el cap0] 24)).alloc (Obj.cells #[.int .i64 0, .int .i64 0] 27) = W2 at *
  have HB2 : Hid (Below w.heap.size w W2 ∧ Two W2 (q + 1) (.int .i64 0) (.int .i64 0) 27 ∧ w.heap.size = q) := ⟨hB2, y5, hq.symm⟩
  obtain ⟨c0, c1⟩ := cell_two y2
  have C31' : Hid (Calls Tryd.prog 31 #[.agg #[.int .i64 n, .slice ao0 el cap0]] W2 fun e w' => e = .returned (.agg #[.int .i64 c, .int .i64 d]) ∧ Below W2.heap.size W2 w') := C31.out W2 hB2
  have hc1 : (c != 0) = true := by simpa using hc
  clear hq x2 hB2 y2 y5 C31
  go_upto_region 3 with (first | (go_at_call 31; refine Calls.mono C31'.out ?_; rintro e w3 ⟨rfl, h3⟩) | fail)
  have hB4 : Below W2.heap.size W2 (w3.alloc (Obj.cells #[.int .i64 c, .int .i64 d] 27)) := below_alloc h3 _
  have x6 := two_new w3 (.int .i64 c) (.int .i64 d) 27
  have x5 : Two (w3.alloc (Obj.cells #[.int .i64 c, .int .i64 d] 27)) (q + 1) (.int .i64 0) (.int .i64 0) 27 := two_next HB2.out.2.1 hB4
  generalize w3.alloc (Obj.cells #[.int .i64 c, .int .i64 d] 27) = w4 at *
  generalize w3.heap.size = b6 at *
  have HW4 : Hid (Below w.heap.size w w4 ∧ Two w4 (q + 1) (.int .i64 0) (.int .i64 0) 27) := ⟨below_next HB2.out.1 hB4, x5⟩
  obtain ⟨a0, a1⟩ := cell_two x6
  have g0 := cell_growD a0
  have g1 := cell_growD a1
  clear h3 hB4 C31' c0 c1 a0 a1 x6 x5
  refine wp_region_tailT 2 (by kernel_rfl) (by kernel_rfl) (by kernel_rfl) (by decide) ?_
  simp only [List.take_succ_cons, List.take_zero, List.drop_succ_cons, List.drop_zero]
  repeat (quiet_step (fail))
  refine wpQuiet_nil ?_
  rintro _ ⟨gp, rfl⟩
  have hB8 := growD_below w4 gp
  clear g0 g1
  generalize growD w4 gp = w8 at *
  have y5 := two_next HW4.out.2 hB8
  obtain ⟨k0, k1⟩ := cell_two y5
  have f0 := box_free y5 0
  have z6 := box_set y5 0 (.int .i64 c)
  have k2 := box_cell z6 (i := 1) rfl
  have f2 := box_free z6 1
  have y7 := two_setN (x' := .int .i64 c) (y' := .int .i64 d) y5
  obtain ⟨l0, l1⟩ := cell_two y7
  have HB8 : Hid (Below w.heap.size w w8) := below_next HW4.out.1 hB8
  clear hB8 y5 z6 y7
  go_wp2
  refine bodyPost_ret (v := .tuple #[.slice none 0 0, .agg #[.int .i64 c, .int .i64 d]]) ?_ rfl ?_
  · simp [results, Tryd.results18, go_sem, l0, l1]
  · have hq1 : w.heap.size ≤ q + 1 := by have := HB2.out.2.2; omega
    exact ⟨rfl, (HB8.out.setCell hq1 _).setCell hq1 _⟩
/-- What Faces answers, where graph.Check tells no fault. -/
def FacesR (w w' : World) (near : List Nat) (ls : List (List Int)) (e : Ending) : Prop := Below w.heap.size w w' ∧
  if (roundS near ls).1 = 0 then ∃ rs, ls = castR rs ∧ RowsOk near rs ∧ ∃ x hi q vs, e = .returned (.tuple #[x, .agg #[.int .i64 0, .int .i64 0]]) ∧ FacesAt w' w.heap.size hi q x (traceL (turnsR rs near.length) near near.length).2 vs
  else e = .returned (.tuple #[.slice none 0 0, .agg #[.int .i64 (roundS near ls).1, .int .i64 (roundS near ls).2]])
set_option maxHeartbeats 4000000 in
theorem faces_ok {w : World} {n : Nat} {v x : Value} {es : List Pair} {E : List E2} {ls : List (List Int)} (hE : EdgesAt w v es) (hx : RowsAt w x ls) (hc : (chk n es).1 = 0) (hEE : es = pz E) (ht : T64 w) :
    Calls Tryd.prog 18 #[.agg #[.int .i64 (n : Int), v], x] w fun e w' => FacesR w w' (nearBy n E) ls e := by
  obtain ⟨hck, hn0, hn1, hel, hgood⟩ := chk_good hc
  have hEn : ∀ e ∈ E, e.1 < n ∧ e.2 < n := fun e he => by
    have := (hgood ((e.1 : Int), (e.2 : Int)) (by rw [hEE]; exact List.mem_map.2 ⟨e, he, rfl⟩)).1
    simp only at this
    omega
  have hn : n ≤ 100 := by omega
  subst hEE
  rw [pz_len] at hel
  have HE : Hid (EdgesAt w v (pz E) ∧ RowsAt w x ls ∧ T64 w ∧ ∀ e ∈ E, e.1 < n ∧ e.2 < n) := ⟨hE, hx, ht, hEn⟩
  obtain ⟨ao0, cap0, hv⟩ := hE.form
  rw [pz_len] at hv
  subst hv
  obtain ⟨xo, xc, hxe, hx9⟩ := hx
  clear hx9
  generalize hxl : ls.length = xl at hxe
  subst hxe
  have C31 : Hid (∀ A, Below w.heap.size w A → Calls Tryd.prog 31 #[.agg #[.int .i64 (n : Int), .slice ao0 E.length cap0]] A fun e w' => e = .returned (.agg #[.int .i64 0, .int .i64 0]) ∧ Below A.heap.size A w') := fun A hA => check_as (hE.below hA) hck
  have C27 : Hid (∀ A, Below w.heap.size w A → Calls Tryd.prog 27 #[.int .i64 (n : Int), .slice ao0 E.length cap0] A fun e w' => ∃ b, e = .returned (sl b n) ∧ SetsAt w' b (nearBy n E) ∧ A.heap.size ≤ b ∧ Below A.heap.size A w') := fun A hA => nearBy_call (HE.out.1.below hA) hn hEn (by omega)
  have C32 : Hid (∀ A b, SetsAt A b (nearBy n E) → Below w.heap.size w A → Calls Tryd.prog 32 #[sl b n, .slice xo xl xc] A fun e w' => e = .returned (.agg #[.int .i64 (roundS (nearBy n E) ls).1, .int .i64 (roundS (nearBy n E) ls).2]) ∧ Below A.heap.size A w') := fun A b hs hA => by
    have := checkRound_call hs (by rw [nearBy_len]; exact hn) (HE.out.2.1.below hA)
    rw [nearBy_len] at this
    exact this
  obtain ⟨near, hnear⟩ : ∃ near, near = nearBy n E := ⟨_, rfl⟩
  rw [← hnear] at C27 C32 ⊢
  have HNR : Hid (near = nearBy n E ∧ near.length = n ∧ ∀ s ∈ near, ∀ v, s.testBit v = true → v < n) := ⟨hnear, by rw [hnear, nearBy_len], by rw [hnear]; exact nearBy_bits hEn⟩
  generalize E.length = el at *
  clear hE hc hck hn0 hn1 hgood hEn ht hnear hxl
  go_enter Tryd.func18, Tryd.ntmps18
  go_upto_region 1 with (fail)
  have x2 := two_new w (.int .i64 (n : Int)) (.slice ao0 el cap0) 24
  have hB2 : Below w.heap.size w ((w.alloc (Obj.cells #[.int .i64 (n : Int), .slice ao0 el cap0] 24)).alloc (Obj.cells #[.int .i64 0, .int .i64 0] 27)) := below_alloc (below_alloc (Below.refl _ w) _) _
  have y2 : Two ((w.alloc (Obj.cells #[.int .i64 (n : Int), .slice ao0 el cap0] 24)).alloc (Obj.cells #[.int .i64 0, .int .i64 0] 27)) w.heap.size (.int .i64 (n : Int)) (.slice ao0 el cap0) 24 := two_alloc x2 _
  have y5 : Two ((w.alloc (Obj.cells #[.int .i64 (n : Int), .slice ao0 el cap0] 24)).alloc (Obj.cells #[.int .i64 0, .int .i64 0] 27)) (w.heap.size + 1) (.int .i64 0) (.int .i64 0) 27 := two_nxt _ _ _ _ _
  obtain ⟨q, hq⟩ : ∃ q, q = w.heap.size := ⟨_, rfl⟩
  rw [← hq] at y2 y5 ⊢
  generalize (w.alloc (Obj.cells #[.int .i64 (n : Int), .slice ao0 el cap0] 24)).alloc (Obj.cells #[.int .i64 0, .int .i64 0] 27) = W2 at *
  have HB2 : Hid (Below w.heap.size w W2 ∧ Two W2 (q + 1) (.int .i64 0) (.int .i64 0) 27 ∧ w.heap.size = q ∧ Two W2 q (.int .i64 (n : Int)) (.slice ao0 el cap0) 24) := ⟨hB2, y5, hq.symm, y2⟩
  obtain ⟨c0, c1⟩ := cell_two y2
  have C31' : Hid (Calls Tryd.prog 31 #[.agg #[.int .i64 (n : Int), .slice ao0 el cap0]] W2 fun e w' => e = .returned (.agg #[.int .i64 0, .int .i64 0]) ∧ Below W2.heap.size W2 w') := C31.out W2 hB2
  clear hq x2 hB2 y2 y5 C31
  go_upto_region 2 with (first | (go_at_call 31; refine Calls.mono C31'.out ?_; rintro e w3 ⟨rfl, h3⟩) | fail)
  have hB4 : Below W2.heap.size W2 (w3.alloc (Obj.cells #[.int .i64 0, .int .i64 0] 27)) := below_alloc h3 _
  have x6 := two_new w3 (.int .i64 0) (.int .i64 0) 27
  generalize w3.alloc (Obj.cells #[.int .i64 0, .int .i64 0] 27) = w4 at *
  generalize w3.heap.size = b6 at *
  have HW4 : Hid (Below W2.heap.size W2 w4) := hB4
  obtain ⟨a0, a1⟩ := cell_two x6
  obtain ⟨d0, d1⟩ := cell_two (two_next HB2.out.2.2.2 hB4)
  have C27' : Hid (Calls Tryd.prog 27 #[.int .i64 (n : Int), .slice ao0 el cap0] w4 fun e w' => ∃ b, e = .returned (sl b n) ∧ SetsAt w' b near ∧ w4.heap.size ≤ b ∧ Below w4.heap.size w4 w') := C27.out w4 (below_next HB2.out.1 hB4)
  clear h3 hB4 C31' c0 c1 x6 C27
  go_upto_region 5 with (first | (go_at_call 27; refine Calls.mono C27'.out ?_; rintro e w5 ⟨bn, rfl, hs5, hbn, h5⟩) | fail)
  have HW5 : Hid (Below W2.heap.size W2 w5 ∧ SetsAt w5 bn near) := ⟨below_next HW4.out h5, hs5⟩
  have C32' : Hid (Calls Tryd.prog 32 #[sl bn n, .slice xo xl xc] w5 fun e w' => e = .returned (.agg #[.int .i64 (roundS near ls).1, .int .i64 (roundS near ls).2]) ∧ Below w5.heap.size w5 w') := C32.out w5 bn hs5 (below_next HB2.out.1 HW5.out.1)
  clear hs5 hbn h5 C27' C32 a0 a1 d0 d1
  obtain ⟨ck, hck⟩ : ∃ ck, ck = roundS near ls := ⟨_, rfl⟩
  have HCK : Hid (ck = roundS near ls) := hck
  rw [← hck] at C32'
  clear hck
  obtain ⟨c, d⟩ := ck
  simp only at C32'
  go_upto_region 6 with (first | (go_at_call 32; refine Calls.mono C32'.out ?_; rintro e w6 ⟨rfl, h6⟩) | fail)
  have x8 := two_new w6 (.int .i64 c) (.int .i64 d) 27
  have hB7 : Below w5.heap.size w5 (w6.alloc (Obj.cells #[.int .i64 c, .int .i64 d] 27)) := below_alloc h6 _
  generalize w6.alloc (Obj.cells #[.int .i64 c, .int .i64 d] 27) = w7 at *
  generalize w6.heap.size = b8 at *
  have HW7 : Hid (Below W2.heap.size W2 w7 ∧ SetsAt w7 bn near) := ⟨below_next HW5.out.1 hB7, HW5.out.2.under hB7⟩
  obtain ⟨a0, a1⟩ := cell_two x8
  have hq1 : w.heap.size ≤ q + 1 := by have := HB2.out.2.2.1; omega
  clear h6 hB7 C32' x8
  by_cases hc0 : c = 0
  · have hS0 : (roundS near ls).1 = 0 := by rw [← HCK.out]; exact hc0
    obtain ⟨_, rs, hrs, hok, h100⟩ := roundS_good hS0
    have hrsN : ∀ l ∈ rs, l.length ≤ 100 ∧ ∀ u ∈ l, u < near.length := fun l hl => by
      obtain ⟨i, hi⟩ := List.getElem?_of_mem hl
      obtain ⟨k1, k2⟩ := hok.2 i l hi
      refine ⟨nodupN_len k1 (h100 l hl), fun u hu => ?_⟩
      have hb : (at' near i).testBit u = true := by rw [k2]; simpa using hu
      have hil : i < near.length := by rw [← hok.1]; exact (List.getElem?_eq_some_iff.1 hi).1
      rw [HNR.out.2.1]
      exact HNR.out.2.2 _ (List.mem_of_getElem? (at_some hil)) u hb
    have C33 : Hid (Calls Tryd.prog 33 #[sl bn n, .slice xo xl xc] w7 fun e w' => FacesAns w7 w' e (traceL (turnsR rs near.length) near near.length).2) := by
      have hw7 := below_next HB2.out.1 HW7.out.1
      have := trace_call (rs := rs) HW7.out.2 (by rw [HNR.out.2.1]; exact hn) (by rw [HNR.out.2.1]; exact HNR.out.2.2) (by rw [← hrs]; exact HE.out.2.1.below hw7) hok.1 hrsN (HE.out.2.2.1.under hw7) (fun a b ha => turnsR_lt (fun l hl => (hrsN l hl).2) near.length a b ha)
      rw [HNR.out.2.1] at this ⊢
      exact this
    have HRS : Hid (ls = castR rs ∧ RowsOk near rs ∧ (roundS near ls).1 = 0) := ⟨hrs, hok, hS0⟩
    subst hc0
    clear hS0 hrs hok h100 hrsN
    go_wp2_with (first | (go_at_call 33; refine Calls.mono C33.out ?_; rintro e w8 ⟨z, hi, qq, vs, rfl, hf8, h8⟩; have y5 := two_next HB2.out.2.1 (below_next HW7.out.1 h8); obtain ⟨k0, k1⟩ := cell_two y5; have f0 := box_free y5 0; have z6 := box_set y5 0 (.int .i64 0); have k2 := box_cell z6 (i := 1) rfl; have f2 := box_free z6 1; have y7 := two_setN (x' := .int .i64 0) (y' := .int .i64 0) y5; obtain ⟨l0, l1⟩ := cell_two y7; clear z6 y7) | go_in)
    refine bodyPost_ret (v := .tuple #[z, .agg #[.int .i64 0, .int .i64 0]]) ?_ rfl ?_
    · simp [results, Tryd.results18, go_sem, l0, l1]
    · have hB8 := below_next HB2.out.1 (below_next HW7.out.1 h8)
      have hqw := lt_of_block HB2.out.2.1
      have hw7s := HW7.out.1.size
      have hw2s := HB2.out.1.size
      refine ⟨(hB8.setCell hq1 _).setCell hq1 _, ?_⟩
      rw [if_pos HRS.out.2.2]
      refine ⟨rs, HRS.out.1, HRS.out.2.1, z, hi, qq, vs, rfl, ?_⟩
      have hlow : FacesAt w8 w7.heap.size hi qq z (traceL (turnsR rs near.length) near near.length).2 vs := hf8
      have h9 : FacesAt ((w8.setCell ⟨q + 1, 0, none⟩ (.int .i64 0)).setCell ⟨q + 1, 1, none⟩ (.int .i64 0)) w7.heap.size hi qq z (traceL (turnsR rs near.length) near near.length).2 vs := hlow.keep (fun g h1 _ _ => by
        rw [Below.heap_setCell _ _ _ _ (by simp only; omega), Below.heap_setCell _ _ _ _ (by simp only; omega)])
      exact h9.cellsK (fun _ _ _ _ _ => rfl) (by omega)
  · have hc1 : (c != 0) = true := by simpa using hc0
    have hSn : ¬ (roundS near ls).1 = 0 := by rw [← HCK.out]; exact hc0
    have g0 := cell_growD a0
    have g1 := cell_growD a1
    have HSN : Hid (¬ (roundS near ls).1 = 0) := hSn
    clear hSn hc0
    go_upto_region 7 with (fail)
    clear a0 a1
    refine wp_region_tailT 2 (by kernel_rfl) (by kernel_rfl) (by kernel_rfl) (by decide) ?_
    simp only [List.take_succ_cons, List.take_zero, List.drop_succ_cons, List.drop_zero]
    repeat (quiet_step (fail))
    refine wpQuiet_nil ?_
    rintro _ ⟨gp, rfl⟩
    have hB8 := growD_below w7 gp
    clear g0 g1
    generalize growD w7 gp = w8 at *
    have y5 := two_next HB2.out.2.1 (below_next HW7.out.1 hB8)
    obtain ⟨k0, k1⟩ := cell_two y5
    have f0 := box_free y5 0
    have z6 := box_set y5 0 (.int .i64 c)
    have k2 := box_cell z6 (i := 1) rfl
    have f2 := box_free z6 1
    have y7 := two_setN (x' := .int .i64 c) (y' := .int .i64 d) y5
    obtain ⟨l0, l1⟩ := cell_two y7
    have HB8 : Hid (Below w.heap.size w w8) := below_next HB2.out.1 (below_next HW7.out.1 hB8)
    clear hB8 y5 z6 y7
    go_wp2
    refine bodyPost_ret (v := .tuple #[.slice none 0 0, .agg #[.int .i64 c, .int .i64 d]]) ?_ rfl ?_
    · simp [results, Tryd.results18, go_sem, l0, l1]
    · refine ⟨(HB8.out.setCell hq1 _).setCell hq1 _, ?_⟩
      rw [if_neg HSN.out, ← HCK.out]
end Go.Proofs.YtekokjechbibdaaDoor
