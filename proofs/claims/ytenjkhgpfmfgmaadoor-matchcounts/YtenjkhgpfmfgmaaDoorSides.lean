/- Sides: of each node on which of two sides it is, or a ring with an odd number of nodes. -/
import Derived.Test.YtenjkhgpfmfgmaaDoorOddRing
import Derived.Test.YtenjkhgpfmfgmaaDoorWholeM
namespace Go.Proofs.YtenjkhgpfmfgmaaDoor
open Go.RowKit Go.Maps
attribute [local go_sem ↓] Go.wp_at_zero Go.wp_at_succ

section
variable {N : Nat} {e R : Nat → Nat → Bool} {far : Nat → Nat}
theorem FarAll.at (h : FarAll N e R far N) (hR : ∀ v x, R v x = true ↔ Star (St N e allB) v x) {x : Nat} (hx : x < N) : ∃ f o, f < N ∧ firstB allB R f = true ∧ Dist N e f o ∧ R f x = true ∧ ∀ y, y < N → R f y = true → o y = some (far y) := by
  obtain ⟨f, hf, h1, h2⟩ := least_ex (P := fun u => R u x = true) ((hR x x).2 (.refl _))
  have hff : firstB allB R f = true := firstB_iff.2 ⟨rfl, fun u hu _ => by
    cases hc : R u f
    · rfl
    · exact absurd ((hR u x).2 (((hR u f).1 hc).trans ((hR f x).1 h1))) (h2 u hu)⟩
  obtain ⟨o, h3, h4⟩ := h f (by omega) hff
  exact ⟨f, o, by omega, hff, h3, h1, h4⟩
theorem FarAll.lt (h : FarAll N e R far N) (hR : ∀ v x, R v x = true ↔ Star (St N e allB) v x) {x : Nat} (hx : x < N) : far x < N := by
  obtain ⟨f, o, _, _, h1, h2, h3⟩ := h.at hR hx
  exact h1.lt hx (h3 x hx h2)
/-- Ends of an edge are at most one apart. -/
theorem FarAll.near (h : FarAll N e R far N) (hR : ∀ v x, R v x = true ↔ Star (St N e allB) v x) {a b : Nat} (ha : a < N) (hb : b < N) (hab : e a b = true) : far b ≤ far a + 1 := by
  obtain ⟨f, o, _, _, h1, h2, h3⟩ := h.at hR ha
  have hfb : R f b = true := (hR f b).2 (((hR f a).1 h2).step ⟨hb, hab, rfl⟩)
  obtain ⟨d, h4, h5⟩ := h1.tri a b _ ha hb hab (h3 a ha h2)
  rw [h3 b hb hfb] at h4
  cases h4
  exact h5
theorem FarAll.ways (h : FarAll N e R far N) (hR : ∀ v x, R v x = true ↔ Star (St N e allB) v x) (hs : ∀ a b, a < N → b < N → e a b = true → e b a = true) {a b : Nat} (ha : a < N) (hb : b < N) (hab : e a b = true) :
    ∃ P : Nat → Prop, P a ∧ P b ∧ (∀ x, P x → far x ≠ 0 → ∃ p, p < N ∧ e x p = true ∧ far p + 1 = far x) ∧ (∀ x y, P x → y < N → e x y = true → P y) ∧ (∀ x y, P x → P y → far x = 0 → far y = 0 → x = y) := by
  obtain ⟨f, o, hf, _, h1, h2, h3⟩ := h.at hR ha
  have hz : ∀ x, x < N ∧ R f x = true → far x = 0 → x = f := fun x hx h0 => by
    have := h3 x hx.1 hx.2
    rw [h0] at this
    rcases h1.par x 0 hx.1 this with ⟨h4, _⟩ | ⟨_, _, _, _, _, h4⟩
    · exact h4
    · omega
  refine ⟨fun x => x < N ∧ R f x = true, ⟨ha, h2⟩, ⟨hb, (hR f b).2 (((hR f a).1 h2).step ⟨hb, hab, rfl⟩)⟩, fun x hx h0 => ?_, fun x y hx hy hxy => ⟨hy, (hR f y).2 (((hR f x).1 hx.2).step ⟨hy, hxy, rfl⟩)⟩, fun x y hx hy h4 h5 => (hz x hx h4).trans (hz y hy h5).symm⟩
  rcases h1.par x _ hx.1 (h3 x hx.1 hx.2) with ⟨_, h4⟩ | ⟨p, d, hp, hpx, hop, h4⟩
  · exact absurd h4 h0
  · have hfp := (hR f p).2 (h1.star d p hp hop)
    rw [h3 p hp hfp] at hop
    cases hop
    exact ⟨p, hp, hs _ _ hp hx.1 hpx, h4.symm⟩
end

theorem two_set {w : World} {b : Nat} {x y x' y' : Value} {t : TypeId} (h : Two w b x y t) : Two ((w.setCell ⟨b, 0, none⟩ x').setCell ⟨b, 1, none⟩ y') b x' y' t := by
  have hl := lt_of_block h
  have h' : w.heap[b]? = some (.cells #[x, y] t (0, 0)) := h
  show ((w.setCell ⟨b, 0, none⟩ x').setCell ⟨b, 1, none⟩ y').heap[b]? = _
  simp [World.setCell, Array.getElem?_modify, h']

set_option maxHeartbeats 1000000 in
theorem sides_bad (n : Int) (v : Value) (es : List Pair) (w : World) (hE : EdgesAt w v es) (hc : (chk n es).1 ≠ 0) :
    Calls Tryd.prog 32 #[.agg #[.int .i64 n, v]] w fun r w' => r = .returned (.tuple #[.slice none 0 0, .slice none 0 0, .agg #[.int .i64 (chk n es).1, .int .i64 (chk n es).2]]) ∧ Below w.heap.size w w' := by
  have hc1 : ((chk n es).1 != 0) = true := by simpa using hc
  have hfs : formS n es = ⟨0, [], (chk n es).1, (chk n es).2⟩ := by unfold formS; rw [if_neg hc]
  obtain ⟨c, hcv⟩ : ∃ c, c = (chk n es).1 := ⟨_, rfl⟩
  obtain ⟨d, hdv⟩ : ∃ d, d = (chk n es).2 := ⟨_, rfl⟩
  rw [← hcv, ← hdv] at hfs ⊢
  rw [← hcv] at hc1
  clear hcv hdv hc
  go_enter Tryd.func32, Tryd.ntmps32
  go_upto_region 2 with (go_at_call 42; refine (form_as (a := ⟨0, [], c, d⟩) ?_ hfs).mono ?_; exact hE.below (below2 _ _); rintro e w1 ⟨hb, lo, lc, rfl, hEl, hfr⟩; obtain ⟨bc, bf, bc1, bf1, bc2, bf2⟩ := bcell hb; have hz := hb.size; simp at hz)
  have t4 := two_set (x' := .int .i64 c) (y' := .int .i64 d) (two_alloc (two_next (two_new1 w (Obj.cells #[.int .i64 n, v] 24) (.int .i64 0) (.int .i64 0) 27) hb) (Obj.cells #[.int .i64 0, .slice lo 0 lc] 24))
  have hB := ((below_alloc (below_next (below2 (w := w) (Obj.cells #[.int .i64 n, v] 24) (Obj.cells #[.int .i64 0, .int .i64 0] 27)) hb) (Obj.cells #[.int .i64 0, .slice lo 0 lc] 24)).setCell (p := ⟨w.heap.size + 1, 0, none⟩) (by simp) (.int .i64 c)).setCell (p := ⟨w.heap.size + 1, 1, none⟩) (by simp) (.int .i64 d)
  clear bc bf bc1 bf1 bc2 bf2 hz hEl hfr
  generalize ((w1.alloc (Obj.cells #[.int .i64 0, .slice lo 0 lc] 24)).setCell ⟨w.heap.size + 1, 0, none⟩ (.int .i64 c)).setCell ⟨w.heap.size + 1, 1, none⟩ (.int .i64 d) = W at t4 hB ⊢
  clear hb
  obtain ⟨y1, y2⟩ := cell_two t4
  have f1 := free_two t4 0
  have f2 := free_two t4 1
  go_wp2_with fail
  go_region
  all_goals
    go_wp2
    refine bodyPost_ret (v := .tuple #[.slice none 0 0, .slice none 0 0, .agg #[.int .i64 c, .int .i64 d]]) ?_ rfl ⟨rfl, ?_⟩
    · simp [results, Tryd.results32, go_sem, y1, y2]
    · exact ((hB.setCell (by simp) _).setCell (by simp) _).drew

theorem pn_symm (es : List Pair) (m : Nat) : ∀ a b, a < m → b < m → pn (hasB es) a b = true → pn (hasB es) b a = true := fun a b _ _ h => by unfold pn at *; rw [hasB_comm]; exact h
/-- What Sides answers of a graph in form. -/
def SidesTo (m : Nat) (e R : Nat → Nat → Bool) (base : Nat) (w' : World) (v1 v2 : Value) (far : Nat → Nat) : Prop :=
  FarAll m e R far m ∧
  ((v2 = .slice none 0 0 ∧ w'.ownsRow base 3 1 v1 m (qv ((List.range m).map fun x => far x % 2)) ∧ ∀ a b, a < m → b < m → e a b = true → far a ≠ far b) ∨
   (v1 = .slice none 0 0 ∧ (∃ g n c rg, v2 = .slice (some ⟨g, 0, none⟩) n c ∧ n ≤ 3000 ∧ n % 2 = 1 ∧ base ≤ g ∧ RowN w' g n rg ∧ RingF m e n rg) ∧ ∃ a b, a < m ∧ b < m ∧ e a b = true ∧ far a = far b))

set_option maxHeartbeats 4000000 in
theorem sides_ok (m : Nat) (ao : Option Addr) (cap : Nat) (es : List Pair) (w : World) (hE : EdgesAt w (.slice ao es.length cap) es) (hc : (chk m es).1 = 0) (R : Nat → Nat → Bool) (hR : ∀ v x, R v x = true ↔ Star (St m (pn (hasB es)) allB) v x) :
    Calls Tryd.prog 32 #[.agg #[.int .i64 (m : Int), .slice ao es.length cap]] w fun r w' => ∃ v1 v2 far, r = .returned (.tuple #[v1, v2, .agg #[.int .i64 0, .int .i64 0]]) ∧ SidesTo m (pn (hasB es)) R w.heap.size w' v1 v2 far ∧ Below w.heap.size w w' := by
  obtain ⟨hck, hn0, hn1, hl, hgood⟩ := chk_good hc
  have hm : m ≤ 100 := by omega
  have hfs := formS_good hc
  have hfl : (allP m (hasB es)).length ≤ 1000 := Nat.le_trans (allP_has_le m es) hl
  have hff := formed_all m (hasB es)
  have heq : bothB (allP m (hasB es)) = pn (hasB es) := by
    funext a b
    rw [Bool.eq_iff_iff]
    exact has_allP hgood a b
  have hsym := pn_symm es m
  obtain ⟨e, he⟩ : ∃ e, e = pn (hasB es) := ⟨_, rfl⟩
  rw [← he] at heq hR hsym ⊢
  obtain ⟨fes, hfes⟩ : ∃ fes, fes = allP m (hasB es) := ⟨_, rfl⟩
  rw [← hfes] at hfs hfl hff heq
  have hgd : ∀ x ∈ fes, 0 ≤ x.1 ∧ x.1 < m ∧ 0 ≤ x.2 ∧ x.2 < m := fun x hx => by
    obtain ⟨i, hi⟩ := List.mem_iff_getElem?.1 hx
    obtain ⟨a, b, rfl, h1, h2⟩ := hff.ok i x hi
    simp; omega
  have HE : Hid _ := hE
  have HR : Hid _ := hR
  have HFS : Hid _ := hfs
  have HFF : Hid _ := hff
  have HEQ : Hid _ := heq
  have HSY : Hid _ := hsym
  have HGD : Hid _ := hgd
  clear hE hR hfs hff heq hsym hgd hfes hck hn0 hn1 hl hc he hgood
  go_enter Tryd.func32, Tryd.ntmps32
  go_upto_region 2 with (go_at_call 42; refine (form_as (a := ⟨m, fes, 0, 0⟩) ?_ HFS.out).mono ?_; exact EdgesAt.below HE.out (below2 _ _); rintro e w1 ⟨hb, lo, lc, rfl, hEl, hfr⟩; obtain ⟨bc, bf, bc1, bf1, bc2, bf2⟩ := bcell hb; have hz := hb.size; simp at hz)
  have t4 := two_set (x' := .int .i64 0) (y' := .int .i64 0) (two_alloc (two_next (two_new1 w (Obj.cells #[.int .i64 (m : Int), .slice ao es.length cap] 24) (.int .i64 0) (.int .i64 0) 27) hb) (Obj.cells #[.int .i64 (m : Int), .slice lo fes.length lc] 24))
  have t5 : Two (((w1.alloc (Obj.cells #[.int .i64 (m : Int), .slice lo fes.length lc] 24)).setCell ⟨w.heap.size + 1, 0, none⟩ (.int .i64 0)).setCell ⟨w.heap.size + 1, 1, none⟩ (.int .i64 0)) w1.heap.size (.int .i64 (m : Int)) (.slice lo fes.length lc) 24 := two_far (two_far (two_new w1 _ _ _) (by omega)) (by omega)
  have hB := ((below_alloc (below_next (below2 (w := w) (Obj.cells #[.int .i64 (m : Int), .slice ao es.length cap] 24) (Obj.cells #[.int .i64 0, .int .i64 0] 27)) hb) (Obj.cells #[.int .i64 (m : Int), .slice lo fes.length lc] 24)).setCell (p := ⟨w.heap.size + 1, 0, none⟩) (by simp) (.int .i64 0)).setCell (p := ⟨w.heap.size + 1, 1, none⟩) (by simp) (.int .i64 0)
  have hEf := ((hEl.below (below_alloc (Below.refl _ w1) (Obj.cells #[.int .i64 (m : Int), .slice lo fes.length lc] 24))).setCell (p := ⟨w.heap.size + 1, 0, none⟩) (fun x hx => by have := hfr x hx; simp at this ⊢; omega) (.int .i64 0)).setCell (p := ⟨w.heap.size + 1, 1, none⟩) (fun x hx => by have := hfr x hx; simp at this ⊢; omega) (.int .i64 0)
  have hw1 : w.heap.size + 1 < w1.heap.size := by omega
  clear bc bf bc1 bf1 bc2 bf2 hz hEl hfr
  generalize ((w1.alloc (Obj.cells #[.int .i64 (m : Int), .slice lo fes.length lc] 24)).setCell ⟨w.heap.size + 1, 0, none⟩ (.int .i64 0)).setCell ⟨w.heap.size + 1, 1, none⟩ (.int .i64 0) = W at t4 t5 hB hEf ⊢
  clear hb HE HFS
  generalize w1.heap.size = b5 at t5 hw1 ⊢
  obtain ⟨y1, y2⟩ := cell_two t4
  obtain ⟨y3, y4⟩ := cell_two t5
  go_upto_region 6 with (first
    | (go_at_call 43; refine (bothWays_call m _ fes _ hEf (by omega) HGD.out).mono ?_; rintro r wa ⟨na, rfl, hna, bl, hnr, hbl, hbA⟩; rw [HEQ.out] at hnr; obtain ⟨y5, y6⟩ := cell_two (two_next t5 hbA))
    | (go_at_call 44; refine (farFirst_call hnr (by omega) HSY.out R HR.out).mono ?_; rintro r wb ⟨bF, far, rfl, hbF, hrow, hall, hbB⟩; obtain ⟨y7, y8⟩ := cell_two (two_next (two_next t5 hbA) hbB))
    | go_in)
  have hbw := below_next hbA hbB
  replace t4 := two_next t4 hbw
  replace t5 := two_next t5 hbw
  replace hEf := hEf.below hbw
  replace hB := below_next hB hbw
  replace hnr := hnr.below hbB
  have HA : Hid _ := hall
  have HNR : Hid _ := hnr
  have HEF : Hid _ := hEf
  have hf1000 : ∀ x, x < m → far x ≤ 1000 := fun x hx => by have := hall.lt HR.out hx; omega
  have HF1 : Hid _ := hf1000
  clear hbw hbA hbB y1 y2 y3 y4 y5 y6 y7 y8 hna hbl hall hnr hEf hf1000 hbF
  obtain ⟨y1, y2⟩ := cell_two t5
  go_wp2
  clear y1 y2
  go_loopw [2, 3, 31] (fun p q i wr => ∃ k : Nat, p = .slice none 0 0 ∧ q = .slice none 0 0 ∧ k ≤ fes.length ∧ i = .int .i64 (k : Int) ∧ (∀ (j x y : Nat), j < k → fes[j]? = some ((x : Int), (y : Int)) → far x ≠ far y) ∧ Below wb.heap.size wb wr) (fun _ _ i _ => fes.length - (numOf i).toNat)
  case atStart => exact ⟨0, rfl, rfl, Nat.zero_le _, rfl, fun j _ _ h => by omega, Below.refl _ _⟩
  case round =>
    obtain ⟨k, rfl, rfl, hk, rfl, hsf, hBr⟩ := hrel
    have HSF : Hid _ := hsf
    clear hsf
    by_cases hkl : k < fes.length
    · obtain ⟨yo, yc, ey, _, _, hcells⟩ := EdgesAt.below HEF.out hBr
      cases ey
      obtain ⟨b, off, rfl, c1, c2⟩ := hcells k hkl
      obtain ⟨x, y, hxy, hlt, hym⟩ := HFF.out.ok k _ (List.getElem?_eq_getElem hkl)
      rw [hxy] at c1 c2
      have hget : fes[k]? = some ((x : Int), (y : Int)) := by rw [List.getElem?_eq_getElem hkl, hxy]
      have hed : e x y = true := by
        rw [← HEQ.out]
        unfold bothB hasB
        exact List.any_eq_true.2 ⟨_, List.mem_of_getElem? hget, by simp⟩
      have HGT : Hid _ := hget
      have HED : Hid _ := hed
      clear hcells hxy hget hed
      have j1 : (0 : Int) ≤ (k : Int) := by omega
      have j2 : (k : Int) < (fes.length : Int) := by omega
      go_upto_region 9 with (fail)
      have t9 := two_new wr (.int .i64 (x : Int)) (.int .i64 (y : Int)) 50
      have hBx := below_alloc hBr (Obj.cells #[.int .i64 (x : Int), .int .i64 (y : Int)] 50)
      generalize wr.heap.size = b9 at t9 ⊢
      generalize wr.alloc (Obj.cells #[.int .i64 (x : Int), .int .i64 (y : Int)] 50) = wx at t9 hBx ⊢
      obtain ⟨z1, z2⟩ := cell_two t9
      clear c1 c2 hBr
      have hrx := hrow.below hBx
      have cx := hrx.cell (show x < m by omega)
      have cy := hrx.cell hym
      have i1 : (0 : Int) ≤ (x : Int) := by omega
      have i2 : (x : Int) < (m : Int) := by omega
      have i3 : (0 : Int) ≤ (y : Int) := by omega
      have i4 : (y : Int) < (m : Int) := by omega
      by_cases hfe : far x = far y
      · have hfe' : (far x : Int) = (far y : Int) := by rw [hfe]
        obtain ⟨P, p1, p2, p3, p4, p5⟩ := FarAll.ways HA.out HR.out HSY.out (show x < m by omega) hym HED.out
        have hcall := fun (w' : World) (hb : Below wx.heap.size wx w') => oddRing_call (cap := m) (NearsAt.below HNR.out (below_next hBx hb)) (by omega) (hrx.below hb) HF1.out HSY.out p3 p4 p5 (show x < m by omega) hym p1 p2 (by omega) HED.out hfe
        have HCALL : Hid _ := hcall
        have HFE : Hid _ := hfe
        clear hcall p1 p2 p3 p4 p5 hfe
        go_region
        all_goals
          have t9' := two_next t9 (Below.refl _ wx).drew
          obtain ⟨z3, z4⟩ := cell_two t9'
          clear z1 z2 cx cy
          go_wp2_with (first
            | (go_at_call 45; refine (HCALL.out _ (Below.refl _ _).drew).mono ?_; rintro r wc ⟨g, n, c, rg, rfl, hn3, hn2, hgg, hrn, hring, hbC⟩; have hBc := below_next (hBx.drew) hbC; have t4c := two_next t4 hBc; have f1 := free_two t4c 0; have f2 := free_two t4c 1; obtain ⟨s1, s2⟩ := cell_two t4c)
            | go_in)
          refine bodyPost_ret (v := .tuple #[.slice none 0 0, .slice (some ⟨g, 0, none⟩) n c, .agg #[.int .i64 0, .int .i64 0]]) ?_ rfl ⟨_, _, far, rfl, ⟨HA.out, Or.inr ⟨rfl, ⟨g, n, c, rg, rfl, hn3, hn2, ?_, ?_, hring⟩, x, y, by omega, hym, HED.out, HFE.out⟩⟩, ?_⟩
          · simp [results, Tryd.results32, go_sem, s1, s2]
          · have := hB.size; have := hBx.size; have := lt_of_block t4; simp at hgg; omega
          · have := hBx.size; have := lt_of_block t4; simp at hgg
            exact (hrn.block (Below.heap_setCell _ _ _ _ (by simp; omega))).block (Below.heap_setCell _ _ _ _ (by simp; omega))
          · exact ((below_next hB hBc).setCell (by simp) _).setCell (by simp) _
      · have hfe' : ¬ (far x : Int) = (far y : Int) := by omega
        have HFE : Hid _ := hfe
        clear hfe
        go_region
        all_goals
          go_wp2
          go_roundw
          case rel =>
            refine ⟨k + 1, rfl, rfl, by omega, by go_num, fun j x' y' hj hget => ?_, hBx.drew⟩
            by_cases c : j = k
            · subst c
              rw [HGT.out] at hget
              simp at hget
              obtain ⟨rfl, rfl⟩ : x = x' ∧ y = y' := by omega
              exact HFE.out
            · exact HSF.out j x' y' (by omega) hget
          case measure => simp [numOf]; omega
    · have hke : fes.length = k := by omega
      subst hke
      have hno : ∀ a b, a < m → b < m → e a b = true → far a ≠ far b := by
        have key : ∀ a b : Nat, hasB fes (a : Int) (b : Int) = true → far a ≠ far b := fun a b hab => by
          unfold hasB at hab
          obtain ⟨q, hq, hqq⟩ := List.any_eq_true.1 hab
          obtain ⟨i, hi⟩ := List.mem_iff_getElem?.1 hq
          obtain ⟨x, y, rfl, _, _⟩ := HFF.out.ok i q hi
          have hxy := HSF.out i x y (List.getElem?_eq_some_iff.1 hi).1 hi
          simp at hqq
          rcases hqq with ⟨h1, h2⟩ | ⟨h1, h2⟩
          · obtain ⟨rfl, rfl⟩ : x = a ∧ y = b := by omega
            exact hxy
          · obtain ⟨rfl, rfl⟩ : x = b ∧ y = a := by omega
            exact fun h => hxy h.symm
        intro a b _ _ hab
        refine key a b ?_
        have := HEQ.out
        rw [← this] at hab
        exact hab
      have HNO : Hid _ := hno
      clear hno HSF
      have hrr := hrow.below hBr
      go_wp2
      go_loopw [2, 54] (fun v i wq => ∃ k : Nat, k ≤ m ∧ i = .int .i64 (k : Int) ∧ wq.ownsRow wb.heap.size 3 1 v ((List.range k).map fun x => far x % 2).length (qv ((List.range k).map fun x => far x % 2)) ∧ Below wb.heap.size wb wq) (fun _ i _ => m - (numOf i).toNat)
      case atStart => exact ⟨0, Nat.zero_le _, rfl, by simpa [qv] using World.ownsRow_nil _ _ _ _, hBr⟩
      case round =>
        obtain ⟨k, hkm, rfl, hown, hBq⟩ := hrel
        obtain ⟨vo, vc, rfl⟩ := form_row hown
        have hlk : ((List.range k).map fun x => far x % 2).length ≤ k := by simp
        by_cases hkm' : k < m
        · have ck := (hrow.below hBq).cell hkm'
          have hmod : (far k : Int).tmod 2 = ((far k % 2 : Nat) : Int) := by rw [Int.tmod_eq_emod_of_nonneg (by omega)]; omega
          have HSU : Hid (((List.range (k + 1)).map fun x => far x % 2) = ((List.range k).map fun x => far x % 2) ++ [far k % 2]) := show ((List.range (k + 1)).map fun x => far x % 2) = ((List.range k).map fun x => far x % 2) ++ [far k % 2] by rw [List.range_succ, List.map_append]; rfl
          generalize ((List.range k).map fun x => far x % 2) = sl at hown hlk HSU ⊢
          have i1 : (0 : Int) ≤ (k : Int) := by omega
          have i2 : (k : Int) < (m : Int) := by omega
          have hsz := hBq.size
          go_wp2_with (first
            | (at_builtin; refine wpList_push2 (x := far k % 2) rfl _ _ rfl rfl rfl hown (by omega) hsz ?_; intro g1 c1 w3 hown1 hgr1 hat1)
            | go_in)
          have T1 := (alloc_turns wr (Obj.cells #[.int .i64 ((far k % 2 : Nat) : Int)] 3) _).trans (Turns.of_grown hgr1)
          have hB3 := T1.below hBq hsz (fun j hj => (hown.lt j hj.symm).1)
          go_roundw
          case rel => exact ⟨k + 1, by omega, by go_num, by rw [HSU.out]; simpa using hown1, hB3⟩
          case measure => simp [numOf]; omega
        · have hke : m = k := by omega
          subst hke
          have hle : ((List.range m).map fun x => far x % 2).length = m := by simp
          rw [hle] at hown ⊢
          have t4q := two_next t4 hBq
          obtain ⟨s1, s2⟩ := cell_two t4q
          have f1 := free_two t4q 0
          have f2 := free_two t4q 1
          clear hlk hle
          go_wp2
          refine bodyPost_ret (v := .tuple #[.slice vo m vc, .slice none 0 0, .agg #[.int .i64 0, .int .i64 0]]) ?_ rfl ⟨_, _, far, rfl, ⟨HA.out, Or.inl ⟨rfl, ?_, HNO.out⟩⟩, ?_⟩
          · simp [results, Tryd.results32, go_sem, s1, s2]
          · have hl4 := lt_of_block t4
            have hge := hB.size
            refine ownsRow_mono (ownsRow_blocks (ownsRow_blocks hown (fun b hb => Below.heap_setCell _ _ _ _ (fun hh => ?_))) (fun b hb => Below.heap_setCell _ _ _ _ (fun hh => ?_))) (by omega)
            · have := (hown.lt b hb).1
              have hh' : b = w.heap.size + 1 := hh
              omega
            · have := (hown.lt b hb).1
              have hh' : b = w.heap.size + 1 := hh
              omega
          · exact ((below_next hB hBq).setCell (by simp) _).setCell (by simp) _
end Go.Proofs.YtenjkhgpfmfgmaaDoor
