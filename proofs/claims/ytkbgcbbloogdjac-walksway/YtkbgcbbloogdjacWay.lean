/- open, told of a graph out of form or of a number that is no node: its fault. Way. -/
import Derived.Test.YtkbgcbbloogdjacOpen
import Derived.Test.YtkbgcbbloogdjacHome
namespace Go.Proofs.Ytkbgcbbloogdjac
open Go.RowKit Go.Maps
attribute [local go_sem ↓] Go.wp_at_zero Go.wp_at_succ

set_option maxHeartbeats 2000000 in
theorem open_bad (n : Int) (v nv : Value) (es : List Pair) (w : World) (hE : EdgesAt w v es) (hc : (chk n es).1 ≠ 0) :
    Calls Try.prog 28 #[.agg #[.int .i64 n, v], nv] w fun r w' => r = .returned (.tuple #[.slice none 0 0, .agg #[.int .i64 (chk n es).1, .int .i64 (chk n es).2]]) ∧ Below w.heap.size w w' := by
  have hc1 : ((chk n es).1 != 0) = true := by simpa using hc
  have hfs : formS n es = ⟨0, [], (chk n es).1, (chk n es).2⟩ := by unfold formS; rw [if_neg hc]
  obtain ⟨c, hcv⟩ : ∃ c, c = (chk n es).1 := ⟨_, rfl⟩
  obtain ⟨d, hdv⟩ : ∃ d, d = (chk n es).2 := ⟨_, rfl⟩
  rw [← hcv, ← hdv] at hfs ⊢
  rw [← hcv] at hc1
  clear hcv hdv hc
  go_enter Try.func28, Try.ntmps28
  go_upto_region 2 with (go_at_call 44; refine (form_as (a := ⟨0, [], c, d⟩) ?_ hfs).mono ?_; exact hE.below (below2 _ _); rintro e w1 ⟨hb, lo, lc, rfl, hEl, hfr⟩; have hz := hb.size; simp at hz)
  have t5 : Two ((w1.alloc (Obj.cells #[.int .i64 0, .slice lo 0 lc] 24)).alloc (Obj.cells #[.int .i64 c, .int .i64 d] 27)) (w.heap.size + 1) (.int .i64 0) (.int .i64 0) 27 := two_alloc (two_alloc (two_next (two_new1 w _ _ _ _) hb) _) _
  have t7 : Two ((w1.alloc (Obj.cells #[.int .i64 0, .slice lo 0 lc] 24)).alloc (Obj.cells #[.int .i64 c, .int .i64 d] 27)) (w1.heap.size + 1) (.int .i64 c) (.int .i64 d) 27 := two_new1 w1 _ _ _ _
  have hB := below_alloc (below_alloc (below_next (below2 (w := w) (Obj.cells #[.int .i64 n, v] 24) (Obj.cells #[.int .i64 0, .int .i64 0] 27)) hb) (Obj.cells #[.int .i64 0, .slice lo 0 lc] 24)) (Obj.cells #[.int .i64 c, .int .i64 d] 27)
  clear hEl hfr
  generalize (w1.alloc (Obj.cells #[.int .i64 0, .slice lo 0 lc] 24)).alloc (Obj.cells #[.int .i64 c, .int .i64 d] 27) = W at t5 t7 hB ⊢
  generalize w1.heap.size = b6 at t7 hz ⊢
  clear hb
  obtain ⟨y1, y2⟩ := cell_two t5
  obtain ⟨y3, y4⟩ := cell_two t7
  have f1 := free_two t5 0
  have f2 := free_two t5 1
  go_wp2_with fail
  go_region
  all_goals
    go_wp2
    refine bodyPost_ret (v := .tuple #[.slice none 0 0, .agg #[.int .i64 c, .int .i64 d]]) ?_ rfl ⟨rfl, ?_⟩
    · simp [results, Try.results28, go_sem, y1, y2]
    · exact ((hB.setCell (by simp) _).setCell (by simp) _).drew

set_option maxHeartbeats 4000000 in
theorem open_range (m : Nat) (ao : Option Addr) (cap : Nat) (es : List Pair) (nv : Value) (ns : List Int) (w : World) (hE : EdgesAt w (.slice ao es.length cap) es) (hI : IntsAt w nv ns) (hl : ns.length ≤ 10) (hc : (chk m es).1 = 0) {K : Nat} {x : Int} (hK : ns[K]? = some x) (hbad : x < 0 ∨ (m : Int) ≤ x) (hgood : ∀ (j : Nat) (y : Int), j < K → ns[j]? = some y → 0 ≤ y ∧ y < m) :
    Calls Try.prog 28 #[.agg #[.int .i64 (m : Int), .slice ao es.length cap], nv] w fun r w' => r = .returned (.tuple #[.slice none 0 0, .agg #[.int .i64 3, .int .i64 (K : Int)]]) ∧ Below w.heap.size w w' := by
  obtain ⟨hck, hn0, hn1, hle, _⟩ := chk_good hc
  have hm : m ≤ 100 := by omega
  have hfs := formS_good hc
  obtain ⟨fes, hfes⟩ : ∃ fes, fes = allP m (hasB es) := ⟨_, rfl⟩
  rw [← hfes] at hfs
  obtain ⟨no, nc, rfl, hnl, hnI, hncells⟩ := hI
  have hKl := (List.getElem?_eq_some_iff.1 hK).1
  have HE : Hid _ := hE
  have HFS : Hid _ := hfs
  have HNC : Hid _ := hncells
  have HK : Hid _ := hK
  have HBD : Hid _ := hbad
  have HGD : Hid _ := hgood
  clear hE hfs hncells hfes hck hn0 hn1 hle hc hnI hnl hK hbad hgood
  go_enter Try.func28, Try.ntmps28
  go_upto_region 2 with (go_at_call 44; refine (form_as (a := ⟨m, fes, 0, 0⟩) ?_ HFS.out).mono ?_; exact EdgesAt.below HE.out (below2 _ _); rintro e w1 ⟨hb, lo, lc, rfl, hEl, hfr⟩; have hz := hb.size; simp at hz)
  have t5 : Two ((w1.alloc (Obj.cells #[.int .i64 (m : Int), .slice lo fes.length lc] 24)).alloc (Obj.cells #[.int .i64 0, .int .i64 0] 27)) (w.heap.size + 1) (.int .i64 0) (.int .i64 0) 27 := two_alloc (two_alloc (two_next (two_new1 w _ _ _ _) hb) _) _
  have t6 : Two ((w1.alloc (Obj.cells #[.int .i64 (m : Int), .slice lo fes.length lc] 24)).alloc (Obj.cells #[.int .i64 0, .int .i64 0] 27)) w1.heap.size (.int .i64 (m : Int)) (.slice lo fes.length lc) 24 := two_alloc (two_new w1 _ _ _) _
  have t7 : Two ((w1.alloc (Obj.cells #[.int .i64 (m : Int), .slice lo fes.length lc] 24)).alloc (Obj.cells #[.int .i64 0, .int .i64 0] 27)) (w1.heap.size + 1) (.int .i64 0) (.int .i64 0) 27 := two_new1 w1 _ _ _ _
  have hB := below_alloc (below_alloc (below_next (below2 (w := w) (Obj.cells #[.int .i64 (m : Int), .slice ao es.length cap] 24) (Obj.cells #[.int .i64 0, .int .i64 0] 27)) hb) (Obj.cells #[.int .i64 (m : Int), .slice lo fes.length lc] 24)) (Obj.cells #[.int .i64 0, .int .i64 0] 27)
  clear hEl hfr
  generalize (w1.alloc (Obj.cells #[.int .i64 (m : Int), .slice lo fes.length lc] 24)).alloc (Obj.cells #[.int .i64 0, .int .i64 0] 27) = W at t5 t6 t7 hB ⊢
  clear hb HE HFS
  generalize w1.heap.size = b6 at t6 t7 hz ⊢
  obtain ⟨y1, y2⟩ := cell_two t6
  obtain ⟨y3, y4⟩ := cell_two t7
  go_wp2
  go_loopw [4, 24] (fun p i wr => ∃ k : Nat, p = .slice none 0 0 ∧ k ≤ K ∧ i = .int .i64 (k : Int) ∧ wr = W) (fun _ i _ => ns.length - (numOf i).toNat)
  case atStart => exact ⟨0, rfl, Nat.zero_le _, rfl, rfl⟩
  case round =>
    obtain ⟨k, rfl, hk, rfl, rfl⟩ := hrel
    have hkl : k < ns.length := by omega
    obtain ⟨b, off, rfl, c1⟩ := HNC.out k hkl
    rw [← hB.cell (by exact World.block_lt_of_cell? w _ c1)] at c1
    have i1 : (0 : Int) ≤ (k : Int) := by omega
    have i2 : (k : Int) < (ns.length : Int) := by omega
    by_cases hkK : k = K
    · subst hkK
      have hx : ns[k] = x := (List.getElem?_eq_some_iff.1 HK.out).2
      rw [hx] at c1
      clear hx
      obtain ⟨s1, s2⟩ := cell_two t5
      have f1 := free_two t5 0
      have f2 := free_two t5 1
      rcases HBD.out with hb | hb
      · go_wp2
        refine bodyPost_ret (v := .tuple #[.slice none 0 0, .agg #[.int .i64 3, .int .i64 (k : Int)]]) ?_ rfl ⟨rfl, (hB.setCell (by simp) _).setCell (by simp) _⟩
        simp [results, Try.results28, go_sem, s1, s2]
      · have hb0 : ¬ x < 0 := by omega
        go_wp2
        refine bodyPost_ret (v := .tuple #[.slice none 0 0, .agg #[.int .i64 3, .int .i64 (k : Int)]]) ?_ rfl ⟨rfl, (hB.setCell (by simp) _).setCell (by simp) _⟩
        simp [results, Try.results28, go_sem, s1, s2]
    · obtain ⟨x0, x1⟩ := HGD.out k ns[k] (by omega) (List.getElem?_eq_getElem hkl)
      obtain ⟨y, hy⟩ : ∃ y, y = ns[k] := ⟨_, rfl⟩
      rw [← hy] at c1 x0 x1
      clear hy
      have z1 : ¬ y < 0 := by omega
      have z2 : ¬ (m : Int) ≤ y := by omega
      go_wp2
      go_roundw
      case rel => exact ⟨k + 1, rfl, by omega, by go_num, trivial⟩
      case measure => simp [numOf]; omega
end Go.Proofs.Ytkbgcbbloogdjac

namespace Go.Proofs.Ytkbgcbbloogdjac
open Go.RowKit Go.Maps
attribute [local go_sem ↓] Go.wp_at_zero Go.wp_at_succ

theorem NearL.toR {w : World} {base g N : Nat} {vs : Nat → Value} {ls : Nat → List Nat} (h : NearL w base g N vs ls) : NearR w (some ⟨g, 0, none⟩) N ls := fun i hi => by
  obtain ⟨xo, xc, hv⟩ := form_row (h.own i hi)
  have hrow := h.own i hi
  rw [hv] at hrow
  refine ⟨g, xo, xc, rfl, by rw [h.row.cell hi, hv], fun k u hu => ?_⟩
  obtain ⟨b, h1, h2⟩ := qcell hrow hu
  exact ⟨b, h1, h2⟩
/-- The nodes that have an edge with i. -/
def nbL (m : Nat) (es : List Pair) (i : Nat) : List Nat := (List.range m).filter fun (x : Nat) => hasB es i x
theorem rows_nb (m : Nat) (es : List Pair) (hm : m ≤ 100) : Rows m (nbL m es) (pn (hasB es)) := by
  refine ⟨fun u x _ hx => ?_, fun u x _ hx => ?_, fun u _ => ?_⟩
  · have := (List.mem_filter.1 hx).1
    simpa using this
  · unfold nbL
    rw [List.mem_filter]
    simp [pn, hx]
  · exact Nat.le_trans (List.length_filter_le _ _) (by simp; omega)
theorem pn_symm (es : List Pair) (m : Nat) : ∀ a b, a < m → b < m → pn (hasB es) a b = true → pn (hasB es) b a = true := fun a b _ _ h => by unfold pn at *; rw [hasB_comm]; exact h
theorem intsAt_two (W : World) (x y : Int) (hx : I64 x) (hy : I64 y) : IntsAt (W.alloc (Obj.cells #[.int .i64 x, .int .i64 y] 3)) (.slice (some ⟨W.heap.size, 0, none⟩) 2 2) [x, y] := by
  refine ⟨some ⟨W.heap.size, 0, none⟩, 2, rfl, by simp, fun z hz => ?_, fun k hk => ⟨W.heap.size, 0, rfl, ?_⟩⟩
  · simp at hz
    rcases hz with rfl | rfl
    · exact hx
    · exact hy
  · match k, hk with
    | 0, _ => simp
    | 1, _ => simp

set_option maxRecDepth 4000 in
set_option maxHeartbeats 2000000 in
/-- A fault of open is that of Way. -/
theorem way_fault (n x y : Int) (v : Value) (w : World) {c d : Int} (hc : c ≠ 0) (hopen : ∀ W o, Below w.heap.size w W → W.heap.size = o → Calls Try.prog 28 #[.agg #[.int .i64 n, v], .slice (some ⟨o, 0, none⟩) 2 2] (W.alloc (Obj.cells #[.int .i64 x, .int .i64 y] 3)) fun r w' => r = .returned (.tuple #[.slice none 0 0, .agg #[.int .i64 c, .int .i64 d]]) ∧ Below (W.heap.size + 1) (W.alloc (Obj.cells #[.int .i64 x, .int .i64 y] 3)) w') :
    Calls Try.prog 17 #[.agg #[.int .i64 n, v], .int .i64 x, .int .i64 y] w fun r w' => r = .returned (.tuple #[.slice none 0 0, .agg #[.int .i64 c, .int .i64 d]]) ∧ Below w.heap.size w w' := by
  have hc1 : (c != 0) = true := by simpa using hc
  have HO : Hid _ := hopen
  clear hopen hc
  go_enter Try.func17, Try.ntmps17
  go_upto_region 1 with (fail)
  have t3 : Two ((w.alloc (Obj.cells #[.int .i64 n, v] 24)).alloc (Obj.cells #[.int .i64 0, .int .i64 0] 27)) w.heap.size (.int .i64 n) v 24 := two_alloc (two_new w _ _ _) _
  have t7 : Two ((w.alloc (Obj.cells #[.int .i64 n, v] 24)).alloc (Obj.cells #[.int .i64 0, .int .i64 0] 27)) (w.heap.size + 1) (.int .i64 0) (.int .i64 0) 27 := two_new1 w _ _ _ _
  have hB := below2 (w := w) (Obj.cells #[.int .i64 n, v] 24) (Obj.cells #[.int .i64 0, .int .i64 0] 27)
  generalize (w.alloc (Obj.cells #[.int .i64 n, v] 24)).alloc (Obj.cells #[.int .i64 0, .int .i64 0] 27) = W at t3 t7 hB ⊢
  obtain ⟨y1, y2⟩ := cell_two t3
  go_upto_region 2 with (first
    | (go_at_call 28; refine (HO.out W W.heap.size hB rfl).mono ?_; rintro r wa ⟨rfl, hbA⟩)
    | go_in)
  have hbW := below_next (below_alloc (Below.refl _ W) (Obj.cells #[.int .i64 x, .int .i64 y] 3)) (by simpa using hbA)
  have t7a := two_alloc (two_next t7 hbW) (Obj.cells #[.int .i64 c, .int .i64 d] 27)
  have t9a := two_new wa (.int .i64 c) (.int .i64 d) 27
  have hB2 := below_alloc (below_next hB hbW) (Obj.cells #[.int .i64 c, .int .i64 d] 27)
  have hsz : w.heap.size + 1 < wa.heap.size := by have := lt_of_block (two_next t7 hbW); omega
  generalize wa.heap.size = b9 at t9a hsz ⊢
  generalize wa.alloc (Obj.cells #[.int .i64 c, .int .i64 d] 27) = W2 at t7a t9a hB2 ⊢
  clear y1 y2 hbA hbW t3 t7
  obtain ⟨s1, s2⟩ := cell_two t7a
  obtain ⟨s3, s4⟩ := cell_two t9a
  have f1 := free_two t7a 0
  have f2 := free_two t7a 1
  go_wp2_with fail
  go_region
  all_goals
    go_wp2
    refine bodyPost_ret (v := .tuple #[.slice none 0 0, .agg #[.int .i64 c, .int .i64 d]]) ?_ rfl ⟨rfl, ((hB2.setCell (by simp) _).setCell (by simp) _).drew⟩
    simp [results, Try.results17, go_sem, s1, s2]

set_option maxRecDepth 4000 in
set_option maxHeartbeats 4000000 in
theorem way_ok (m : Nat) (ao : Option Addr) (cap : Nat) (es : List Pair) (w : World) (hE : EdgesAt w (.slice ao es.length cap) es) (hc : (chk m es).1 = 0) {x y : Nat} (hx : x < m) (hy : y < m) :
    Calls Try.prog 17 #[.agg #[.int .i64 (m : Int), .slice ao es.length cap], .int .i64 (x : Int), .int .i64 (y : Int)] w fun r w' => ∃ o, Dist m (pn (hasB es)) y o ∧ Below w.heap.size w w' ∧
      ((o x = none ∧ r = .returned (.tuple #[.slice none 0 0, .agg #[.int .i64 9, .int .i64 0]])) ∨
       ∃ D S pv, o x = some D ∧ HomeTo m (pn (hasB es)) o x D D S ∧ r = .returned (.tuple #[pv, .agg #[.int .i64 0, .int .i64 0]]) ∧ w'.ownsRow w.heap.size 3 1 pv (firstK S (D + 1)).length (qv (firstK S (D + 1)))) := by
  obtain ⟨hck, hn0, hn1, hle, hgood⟩ := chk_good hc
  have hm : m ≤ 100 := by omega
  have HE : Hid _ := hE
  have HC : Hid _ := hc
  clear hE hc hck hn0 hn1 hle hgood
  go_enter Try.func17, Try.ntmps17
  go_upto_region 1 with (fail)
  have t3 : Two ((w.alloc (Obj.cells #[.int .i64 (m : Int), .slice ao es.length cap] 24)).alloc (Obj.cells #[.int .i64 0, .int .i64 0] 27)) w.heap.size (.int .i64 (m : Int)) (.slice ao es.length cap) 24 := two_alloc (two_new w _ _ _) _
  have t7 : Two ((w.alloc (Obj.cells #[.int .i64 (m : Int), .slice ao es.length cap] 24)).alloc (Obj.cells #[.int .i64 0, .int .i64 0] 27)) (w.heap.size + 1) (.int .i64 0) (.int .i64 0) 27 := two_new1 w _ _ _ _
  have hB := below2 (w := w) (Obj.cells #[.int .i64 (m : Int), .slice ao es.length cap] 24) (Obj.cells #[.int .i64 0, .int .i64 0] 27)
  generalize (w.alloc (Obj.cells #[.int .i64 (m : Int), .slice ao es.length cap] 24)).alloc (Obj.cells #[.int .i64 0, .int .i64 0] 27) = W at t3 t7 hB ⊢
  obtain ⟨y1, y2⟩ := cell_two t3
  have hopen := open_ok m ao cap es _ [(x : Int), (y : Int)] (W.alloc (Obj.cells #[.int .i64 (x : Int), .int .i64 (y : Int)] 3)) (EdgesAt.below HE.out (below_alloc hB _)) (intsAt_two W x y ⟨by omega, by omega⟩ ⟨by omega, by omega⟩) (fun z hz => by simp at hz; omega) (by simp) HC.out
  have HO : Hid _ := hopen
  clear hopen
  go_upto_region 2 with (first
    | (go_at_call 28; refine Calls.mono HO.out ?_; rintro r wa ⟨g, vs, rfl, hgg, hnl, hbA⟩)
    | go_in)
  have hbW := below_next (below_alloc (Below.refl _ W) (Obj.cells #[.int .i64 (x : Int), .int .i64 (y : Int)] 3)) hbA
  have hnr : NearR (wa.alloc (Obj.cells #[.int .i64 0, .int .i64 0] 27)) (some ⟨g, 0, none⟩) m (nbL m es) := (NearL.toR hnl).below (below_alloc (Below.refl _ wa) _)
  have t7a := two_alloc (two_next t7 hbW) (Obj.cells #[.int .i64 0, .int .i64 0] 27)
  have t9a := two_new wa (.int .i64 0) (.int .i64 0) 27
  have hB2 := below_alloc (below_next hB hbW) (Obj.cells #[.int .i64 0, .int .i64 0] 27)
  generalize wa.heap.size = b9 at t9a ⊢
  generalize wa.alloc (Obj.cells #[.int .i64 0, .int .i64 0] 27) = W2 at t7a t9a hB2 hnr ⊢
  clear y1 y2 hbA hbW t3 t7 hnl hgg
  obtain ⟨s3, s4⟩ := cell_two t9a
  have HNR : Hid _ := hnr
  clear hnr
  go_upto_region 5 with (first
    | (go_at_call 29; refine (farFrom_call HNR.out (rows_nb m es hm) hm hy).mono ?_; rintro r wb ⟨b, o, rfl, hb, hrow, hd, hbB⟩)
    | go_in)
  have cx := hrow.cell hx
  have i1 : (0 : Int) ≤ (x : Int) := by omega
  have i2 : (x : Int) < (m : Int) := by omega
  have t7b := two_next t7a hbB
  have hB3 := below_next hB2 hbB
  have HD : Hid _ := hd
  clear hd s3 s4 t9a
  cases hox : o x with
  | none =>
    have z1 : farZ (o x) < 0 := farZ_neg.2 hox
    obtain ⟨s1, s2⟩ := cell_two t7b
    have f1 := free_two t7b 0
    have f2 := free_two t7b 1
    have HOX : Hid _ := hox
    clear hox
    go_wp2
    refine bodyPost_ret (v := .tuple #[.slice none 0 0, .agg #[.int .i64 9, .int .i64 0]]) ?_ rfl ⟨o, HD.out, (hB3.setCell (by simp) _).setCell (by simp) _, Or.inl ⟨HOX.out, rfl⟩⟩
    simp [results, Try.results17, go_sem, s1, s2]
  | some D =>
    have z1 : ¬ farZ (o x) < 0 := fun h => by rw [farZ_neg, hox] at h; cases h
    have hhome := home_call (cap := m) (NearR.below HNR.out hbB) (fun i _ => rfl) hm hrow HD.out (pn_symm es m) hx hox
    have HH : Hid _ := hhome
    have HOX : Hid _ := hox
    clear hox hhome
    go_wp2_with (first
      | (go_at_call 32; refine Calls.mono HH.out ?_; rintro r wc ⟨pv, S, rfl, hS, hown, hbC⟩; have t7c := two_next t7b hbC; obtain ⟨s1, s2⟩ := cell_two t7c; have f1 := free_two t7c 0; have f2 := free_two t7c 1)
      | go_in)
    obtain ⟨po, pc, rfl⟩ := form_row hown
    have hsz := lt_of_block t7b
    refine bodyPost_ret (v := .tuple #[.slice po (firstK S (D + 1)).length pc, .agg #[.int .i64 0, .int .i64 0]]) ?_ rfl ⟨o, HD.out, ((below_next hB3 hbC).setCell (by simp) _).setCell (by simp) _, Or.inr ⟨D, S, _, HOX.out, hS, rfl, ?_⟩⟩
    · simp [results, Try.results17, go_sem, s1, s2]
    · refine ownsRow_mono (ownsRow_blocks (ownsRow_blocks hown (fun b hb => Below.heap_setCell _ _ _ _ (fun hh => ?_))) (fun b hb => Below.heap_setCell _ _ _ _ (fun hh => ?_))) (by have := hB3.size; omega)
      · have hh' : b = w.heap.size + 1 := hh
        have := (hown.lt b hb).1
        omega
      · have hh' : b = w.heap.size + 1 := hh
        have := (hown.lt b hb).1
        omega
end Go.Proofs.Ytkbgcbbloogdjac
