/- cross: a way is laid through a face. -/
import Derived.Test.YtekokjechbibdaaDoorCrossN
namespace Go.Proofs.YtekokjechbibdaaDoor
set_option maxRecDepth 8000
open Go.RowKit Go.Maps
attribute [local go_sem ↓] Go.wp_at_zero Go.wp_at_succ
theorem Tryd.info86 : (Tryd.prog.info? 86).map (fun i => (i.zero, i.size, i.bytes)) = some (some (.agg #[.slice none 0 0, .int .u64 0, .int .u64 0]), 3, 40) := by kernel_rfl
theorem own_numL {w : World} {base g c : Nat} {l : List Nat} (h : w.ownsRow base 3 1 (.slice (some ⟨g, 0, none⟩) l.length c) l.length (qv l)) : NumL w g 0 l := fun k u hk => by
  obtain ⟨g', e, hc⟩ := qcell h hk
  cases e
  rw [Nat.zero_add]; exact hc
theorem numL_rev {w : World} {g n : Nat} {l : List Nat} (h : RowN w g n (fun x => l.getD (n - 1 - x) 0)) (hn : n = l.length) : NumL w g 0 l.reverse := fun k u hk => by
  subst hn
  have hkl := (List.getElem?_eq_some_iff.1 hk).1
  rw [List.length_reverse] at hkl
  rw [Nat.zero_add, h.cell hkl]
  rw [List.getElem?_reverse hkl] at hk
  rw [List.getD_eq_getElem?_getD, hk]
  rfl
set_option maxHeartbeats 8000000 in
theorem cross_call {w : World} {lo room gw wc : Nat} {x : Value} {H : List Value} {F : List Face} {way : List Nat} (hF : FRow w lo x H F) (hlo : lo ≤ w.heap.size) (hr : room < F.length) (hFl : F.length ≤ 10000) (hw : NumL w gw 0 way) (hgw : gw < w.heap.size ∧ x.ownBlock ≠ some gw) (hwl : 2 ≤ way.length) (hwl2 : way.length ≤ 200) (hwc : way.length ≤ wc)
    (ha : way.headD 0 ∈ (F.getD room ⟨[], 0⟩).walk) (hb : way.getLastD 0 ∈ (F.getD room ⟨[], 0⟩).walk) (hok : ∀ f ∈ cross F room way, (∀ v ∈ f.walk, v < 128) ∧ f.walk.length ≤ 1000 ∧ f.nodes = setOf f.walk) :
    Calls Tryd.prog 60 #[x, .int .i64 (room : Int), .slice (some ⟨gw, 0, none⟩) way.length wc] w fun e w' => ∃ x' H', e = .returned x' ∧ FRow w' lo x' H' (cross F room way) ∧ Turns (fun k => x.ownBlock = some k) w w' ∧ (∀ b, x'.ownBlock = some b → x.ownBlock = some b ∨ w.heap.size ≤ b) ∧ (∀ hv ∈ H', hv ∈ H ∨ ∀ b, hv.ownBlock = some b → w.heap.size ≤ b) := by
  obtain ⟨g, c, hx, hFc⟩ := hF.form (by omega)
  have hrow0 : F[room]? = some (F.getD room ⟨[], 0⟩) := by rw [List.getD_eq_getElem?_getD, List.getElem?_eq_getElem hr]; rfl
  have hHr : H[room]? = some (H[room]'(by rw [hF.hl]; exact hr)) := List.getElem?_eq_getElem _
  obtain ⟨wg, woff, wcap, hwe, hwl3, hnw, hwlo, hwlt⟩ := hF.walks room _ _ hHr hrow0
  obtain ⟨hv0, hv1, hv2⟩ := hF.cells hx hHr hrow0
  have hokr := hF.ok _ (List.mem_of_getElem? hrow0)
  rw [hwe] at hv0
  generalize hWk : (F.getD room ⟨[], 0⟩).walk = walk at *
  have e1 : cross F room way = F.set room (faceOf (along walk (walk.idxOf (way.getLastD 0)) (walk.idxOf (way.headD 0)) ++ inside way)) ++ [faceOf (along walk (walk.idxOf (way.headD 0)) (walk.idxOf (way.getLastD 0)) ++ (inside way).reverse)] := by
    unfold cross; rw [hWk]
  rw [e1] at hok ⊢
  have hai := List.idxOf_lt_length_of_mem ha
  have hbi := List.idxOf_lt_length_of_mem hb
  have C72 : Hid (∀ A z, Below w.heap.size w A → z ∈ walk → Calls Tryd.prog 72 #[.slice (some ⟨wg, woff, none⟩) walk.length wcap, .int .i64 (z : Int)] A fun e w' => e = .returned (.int .i64 (walk.idxOf z : Int)) ∧ w' = A) := fun A z hA hz => indexL_call (hnw.under hA hwlt) hokr.2.1 hz
  have C72a : Hid (∀ A, Below w.heap.size w A → Calls Tryd.prog 72 #[.slice (some ⟨wg, woff, none⟩) walk.length wcap, .int .i64 (way.headD 0 : Int)] A fun e w' => e = .returned (.int .i64 (walk.idxOf (way.headD 0) : Int)) ∧ Below A.heap.size A w') := fun A hA => (C72.out A _ hA ha).mono fun e w' h => ⟨h.1, by rw [h.2]; exact Below.refl _ _⟩
  have C72b : Hid (∀ A, Below w.heap.size w A → Calls Tryd.prog 72 #[.slice (some ⟨wg, woff, none⟩) walk.length wcap, .int .i64 (way.getLastD 0 : Int)] A fun e w' => e = .returned (.int .i64 (walk.idxOf (way.getLastD 0) : Int)) ∧ Below A.heap.size A w') := fun A hA => (C72.out A _ hA hb).mono fun e w' h => ⟨h.1, by rw [h.2]; exact Below.refl _ _⟩
  have c0 : w.cell? ⟨gw, 0, none⟩ = some (.int .i64 (way.headD 0 : Int)) := by
    cases way with
    | nil => simp at hwl
    | cons a l => exact hw 0 a rfl
  have cl : w.cell? ⟨gw, way.length - 1, none⟩ = some (.int .i64 (way.getLastD 0 : Int)) := by
    have hlast : way[way.length - 1]? = some (way.getLastD 0) := by
      cases way with
      | nil => simp at hwl
      | cons a l => rw [List.getLastD_cons, ← List.getLast?_eq_getElem?]; simp [List.getLast?_cons]
    have := hw _ _ hlast
    rwa [Nat.zero_add] at this
  generalize walk.idxOf (way.headD 0) = ia at *
  generalize walk.idxOf (way.getLastD 0) = ib at *
  generalize way.headD 0 = za at *
  generalize way.getLastD 0 = zb at *
  have hin : NumL w gw 1 (inside way) := by
    have : inside way = (way.take (way.length - 1)).drop 1 := by
      unfold inside
      rw [List.dropLast_eq_take, List.length_drop, List.drop_take]
    rw [this]
    have h9 := (hw.take (way.length - 1)).drop 1
    rwa [Nat.zero_add] at h9
  have hil : (inside way).length = way.length - 2 := by unfold inside; simp; omega
  have C73 : Hid (∀ A, Below w.heap.size w A → Calls Tryd.prog 73 #[.slice (some ⟨gw, 1, none⟩) (way.length - 2) (wc - 1)] A fun e w' => ∃ g' c', e = .returned (.slice (some ⟨g', 0, none⟩) (way.length - 2) c') ∧ w'.ownsRow A.heap.size 3 1 (.slice (some ⟨g', 0, none⟩) (way.length - 2) c') (way.length - 2) (qv (inside way)) ∧ A.heap.size ≤ g' ∧ Below A.heap.size A w') := fun A hA => by
    have := cloneL_call (w := A) (g := gw) (o := 1) (pc := wc - 1) (l := inside way) (by omega) (hin.under hA hgw.1)
    rw [hil] at this
    exact this
  have C74 : Hid (∀ A p q, Below w.heap.size w A → p < walk.length → q < walk.length → Calls Tryd.prog 74 #[.slice (some ⟨wg, woff, none⟩) walk.length wcap, .int .i64 (p : Int), .int .i64 (q : Int)] A fun e w' => NumsA A w' e (along walk p q)) := fun A p q hA hp hq => along_call (hnw.under hA hwlt) hokr.2.1 hwl3 hp hq
  have halen : ∀ p q, p < walk.length → q < walk.length → (along walk p q).length ≤ 2 * walk.length := fun p q hp hq => by
    unfold along; split
    · rw [List.length_drop, List.length_take]; omega
    · rw [List.length_append, List.length_drop, List.length_take]; omega
  have HAL : Hid ((along walk ib ia).length ≤ 2000 ∧ (along walk ia ib).length ≤ 2000 ∧ (inside way).length ≤ 200) := ⟨by have := halen ib ia hbi hai; have := hokr.2.1; omega, by have := halen ia ib hai hbi; have := hokr.2.1; omega, by omega⟩
  have HFR : Hid (FRow w lo x H F) := hF
  have HOK : Hid _ := hok
  obtain ⟨t, ht⟩ : ∃ t, way.length = t + 2 := ⟨way.length - 2, by omega⟩
  have HIL : Hid ((inside way).length = t) := by show _ = _; omega
  rw [ht] at cl C73 hwc hwl2 ⊢
  simp only [Nat.add_sub_cancel] at C73
  rw [show t + 2 - 1 = t + 1 by omega] at cl
  obtain ⟨n, hn⟩ : ∃ n, n = F.length := ⟨_, rfl⟩
  have hx' : x = .slice (some ⟨g, 0, none⟩) n c := by rw [hn]; exact hx
  have hrn : room < n := by omega
  have HNN : Hid (n = F.length ∧ n ≤ 10000 ∧ n ≤ c) := ⟨hn, by omega, by omega⟩
  have HGW : Hid (gw < w.heap.size ∧ gw ≠ g) := ⟨hgw.1, fun e => hgw.2 (by rw [hx, e]; rfl)⟩
  have HWG : Hid (wg < w.heap.size ∧ lo ≤ wg) := ⟨hwlt, hwlo⟩
  have HLO : Hid (lo ≤ w.heap.size) := hlo
  have HIA : Hid (ia < walk.length ∧ ib < walk.length) := ⟨hai, hbi⟩
  have hia : ia ≤ 1000 := by have := hokr.2.1; omega
  have hib : ib ≤ 1000 := by have := hokr.2.1; omega
  generalize walk.length = wn at *
  subst hx'
  clear hx hn ht hv1 hv2 hrow0 hHr hwe hnw hwlo hwlt hokr hF hlo hr hFl hw hgw hwl ha hb hok e1 hai hbi hin hil halen C72 hFc hwl3
  have i1 : (0 : Int) ≤ (room : Int) := by omega
  have i2 : (room : Int) < (n : Int) := by omega
  have i3 : IntKind.i64.wrap ((t : Int) + 2 - 1) = (t : Int) + 1 := by rw [IntKind.wrap_i64]; omega
  have i4 : (0 : Int) ≤ (t : Int) + 1 := by omega
  have i5 : (t : Int) + 1 < (t : Int) + 2 := by omega
  have i6 : ((t : Int) + 1).toNat = t + 1 := by omega
  have i7 : (0 : Int) < (t : Int) + 2 := by omega
  have g0 := cell_growD c0
  have gl := cell_growD cl
  go_enter Tryd.func60, Tryd.ntmps60
  go_upto_region 2 with (fail)
  refine wp_region_below (by kernel_rfl) (by kernel_rfl) ?_
  have Q1 : Hid (∀ p : GrB, Calls Tryd.prog 72 #[.slice (some ⟨wg, woff, none⟩) wn wcap, .int .i64 (za : Int)] (growD w p) fun e w'' => e = .returned (.int .i64 (ia : Int)) ∧ ∃ p' : GrB, w'' = growD w p') := fun p => Calls.belowQ (fun W hW => C72a.out W hW)
  have Q2 : Hid (∀ p : GrB, Calls Tryd.prog 72 #[.slice (some ⟨wg, woff, none⟩) wn wcap, .int .i64 (zb : Int)] (growD w p) fun e w'' => e = .returned (.int .i64 (ib : Int)) ∧ ∃ p' : GrB, w'' = growD w p') := fun p => Calls.belowQ (fun W hW => C72b.out W hW)
  repeat (quiet_step (first | (go_at_call 72; with_reducible exact Q1.out _) | (go_at_call 72; with_reducible exact Q2.out _)))
  refine wpQuiet_nil ?_
  rintro _ ⟨gp, rfl⟩
  have hB1 := growD_below w gp
  clear g0 gl Q1 Q2
  generalize growD w gp = w1 at *
  have HB1 : Hid _ := hB1
  clear hB1
  have C73' : Hid _ := C73.out w1 HB1.out
  have k1 : (t : Int) + 2 - 1 = (t : Int) + 1 := by omega
  have k2 : (t : Int) + 1 ≤ (wc : Int) := by omega
  have k3 : ¬ wc = 1 := by omega
  have k4 : (1 : Int) ≤ (t : Int) + 1 := by omega
  have k5 : t + 1 - 1 = t := by omega
  go_upto_region 4 with (first | (go_at_call 73; refine Calls.mono C73'.out ?_; rintro e w2 ⟨g3, c3, rfl, hr3, hg3, h2⟩) | fail)
  have hB2 : Below w.heap.size w w2 := below_next HB1.out h2
  have HR3 : Hid (w2.ownsRow w1.heap.size 3 1 (.slice (some ⟨g3, 0, none⟩) (inside way).length c3) (inside way).length (qv (inside way))) := by
    show World.ownsRow _ _ _ _ _ _ _
    rw [HIL.out]; exact hr3
  have HG3 : Hid (w.heap.size ≤ g3 ∧ g3 < w2.heap.size) := ⟨by have := HB1.out.size; show _ ≤ _; omega, (hr3.lt g3 rfl).2⟩
  generalize hI : inside way = I at *
  have HI : Hid (inside way = I) := hI
  clear hI
  have C74a : Hid _ := C74.out w2 ib ia hB2 HIA.out.2 HIA.out.1
  have HB2 : Hid _ := hB2
  clear hr3 hg3 h2 hB2 C73 C73'
  go_upto_region 5 with (first | (go_at_call 74; refine Calls.mono C74a.out ?_; rintro e w3 ⟨gA, cA, rfl, hrA, hBA⟩) | (at_builtin; refine wpList_appL (A := along walk ib ia) (B := I) (gb := g3) (ob := 0) (cb := c3) rfl _ _ rfl rfl ?hy hrA ((own_numL HR3.out).under hBA HG3.out.2) (by have := HAL.out; omega) hBA.size ?_; (case hy => rw [HIL.out]; rfl); intro g5 c5 w5 hr5 hg5) | fail)
  have hB3 : Below w.heap.size w w3 := below_next HB2.out hBA
  have hgA := hrA.lt gA rfl
  have hB5 : Below w.heap.size w w5 := (Turns.of_grown hg5).below hB3 hB3.size (fun k e => by
    have h9 : k = gA := (by simpa using e)
    have := HB2.out.size
    omega)
  have hr3' : w5.ownsRow w1.heap.size 3 1 (.slice (some ⟨g3, 0, none⟩) I.length c3) I.length (qv I) := ownsRow_blocks HR3.out (fun b hb => by
    have e : g3 = b := by simpa [Value.ownBlock] using hb
    have hg := HG3.out
    have hs3 := hBA.size
    exact (hg5.block b (by omega) (fun e2 => by
      have h9 : b = gA := (by simpa using e2)
      omega)).trans (hBA.block b (by omega)))
  have HRN : Hid (RowN w5 g3 t (fun j => I.getD j 0)) := by
    have := rowN_own hr3'
    rw [HIL.out] at this
    exact this
  obtain ⟨P1, hP1⟩ : ∃ P1, P1 = along walk ib ia ++ I := ⟨_, rfl⟩
  rw [← List.length_append, ← hP1]
  rw [← hP1] at hr5
  have HR5 : Hid (w5.ownsRow w2.heap.size 3 1 (.slice (some ⟨g5, 0, none⟩) P1.length c5) P1.length (qv P1)) := hr5
  have hg5lt := hr5.lt g5 rfl
  have HG5 : Hid (w.heap.size ≤ g5 ∧ g5 < w5.heap.size ∧ g5 ≠ g3) := ⟨by have := HB2.out.size; show _ ≤ _; omega, hg5lt.2, by have := HG3.out.2; omega⟩
  have HP1 : Hid (P1 = along walk ib ia ++ I) := hP1
  have HB5 : Hid _ := hB5
  have C75 : Hid _ := reverse_call (cap := c3) HRN.out (show t ≤ 1000 by omega)
  clear hP1 hr5 hg5 hB3 hgA hB5 hr3' hBA hrA hg5lt C74a
  go_upto_region 6 with (first | (go_at_call 75; refine Calls.mono C75.out ?_; rintro e w6 ⟨rfl, hr6, t6⟩) | fail)
  have hB6 : Below w.heap.size w w6 := t6.below HB5.out HB5.out.size (fun k e => by rw [e]; exact HG3.out.1)
  have HR56 : Hid (w6.ownsRow w2.heap.size 3 1 (.slice (some ⟨g5, 0, none⟩) P1.length c5) P1.length (qv P1)) := ownsRow_blocks HR5.out (fun b hb => by
    have e : g5 = b := by simpa [Value.ownBlock] using hb
    subst e
    exact t6.block g5 HG5.out.2.1 HG5.out.2.2)
  have HN6 : Hid (NumL w6 g3 0 I.reverse) := numL_rev hr6 HIL.out.symm
  have HG36 : Hid (g3 < w6.heap.size ∧ g5 < w6.heap.size) := ⟨hr6.lt, by have := HG5.out.2.1; have := t6.size; show _ < _; omega⟩
  have HB6 : Hid _ := hB6
  have C74b : Hid _ := C74.out w6 ia ib hB6 HIA.out.1 HIA.out.2
  have HIR : Hid (I.reverse.length = t) := by show _ = _; rw [List.length_reverse]; exact HIL.out
  clear hr6 t6 hB6 HR5 HRN C75
  go_upto_region 7 with (first | (go_at_call 74; refine Calls.mono C74b.out ?_; rintro e w7 ⟨gB, cB, rfl, hrB, hBB⟩) | (at_builtin; refine wpList_appL (A := along walk ia ib) (B := I.reverse) (gb := g3) (ob := 0) (cb := c3) rfl _ _ rfl rfl ?hy hrB (HN6.out.under hBB HG36.out.1) (by have := HAL.out; rw [List.length_reverse]; omega) hBB.size ?_; (case hy => rw [HIR.out]; rfl); intro g8 c8 w8 hr8 hg8) | fail)
  have hB7 : Below w.heap.size w w7 := below_next HB6.out hBB
  have hgB := hrB.lt gB rfl
  have hB8 : Below w.heap.size w w8 := (Turns.of_grown hg8).below hB7 hB7.size (fun k e => by
    have h9 : k = gB := (by simpa using e)
    have := HB6.out.size
    omega)
  have hr58 : w8.ownsRow w2.heap.size 3 1 (.slice (some ⟨g5, 0, none⟩) P1.length c5) P1.length (qv P1) := ownsRow_blocks HR56.out (fun b hb => by
    have e : g5 = b := (by simpa [Value.ownBlock] using hb)
    have hg := HG36.out.2
    have hs3 := hBB.size
    exact (hg8.block b (by omega) (fun e2 => by
      have h9 : b = gB := (by simpa using e2)
      omega)).trans (hBB.block b (by omega)))
  obtain ⟨P2, hP2⟩ : ∃ P2, P2 = along walk ia ib ++ I.reverse := ⟨_, rfl⟩
  rw [← hP2] at hr8
  have hl2 : (along walk ia ib).length + I.length = P2.length := by rw [hP2, List.length_append, List.length_reverse]
  rw [hl2]
  have hok1 := HOK.out (faceOf P1) (by rw [HP1.out]; refine List.mem_append.2 (Or.inl ?_); rw [List.mem_iff_getElem?]; exact ⟨room, by rw [List.getElem?_set]; simp; have := HNN.out; omega⟩)
  have hok2 := HOK.out (faceOf P2) (by rw [hP2]; simp)
  have HX2 : Hid (F.set room (faceOf (along walk ib ia ++ I)) ++ [faceOf (along walk ia ib ++ I.reverse)] = F.set room (faceOf P1) ++ [faceOf P2]) := by show _ = _; rw [HP1.out, hP2]
  have HN1 : Hid (NumL w8 g5 0 P1) := own_numL hr58
  have HN2 : Hid (NumL w8 g8 0 P2) := own_numL hr8
  have hg8lt := hr8.lt g8 rfl
  have HC5 : Hid (P1.length ≤ c5 ∧ P2.length ≤ c8) := ⟨own_cap hr58, own_cap hr8⟩
  have HGG : Hid (w.heap.size ≤ g5 ∧ g5 < w8.heap.size ∧ w.heap.size ≤ g8 ∧ g8 < w8.heap.size ∧ g < w.heap.size) := ⟨HG5.out.1, (hr58.lt g5 rfl).2, by have := HB6.out.size; omega, hg8lt.2, (HFR.out.row.lt g rfl).2⟩
  have HB8 : Hid _ := hB8
  have HCUR : Hid (∀ A, Below w8.heap.size w8 A → ∃ cur, Box A g cur 86 ∧ room * 3 + 2 < cur.size) := fun A hA => by
    have hF9 := HFR.out.under (below_next HB8.out hA)
    have hr9 := hF9.row
    rw [← HNN.out.1] at hr9
    obtain ⟨cur, bx, bs, _, hnc, _⟩ := owns_block hr9
    exact ⟨cur, bx, by rw [bs]; omega⟩
  have C57 : Hid (Calls Tryd.prog 57 #[.slice (some ⟨g5, 0, none⟩) P1.length c5] w8 fun e w' => e = .returned (.agg #[.slice (some ⟨g5, 0, none⟩) P1.length c5, .int .u64 (lo64 (setOf P1) : Int), .int .u64 (hi64 (setOf P1) : Int)]) ∧ Below w8.heap.size w8 w') := faceOf_call HN1.out hok1.1 hok1.2.1
  have HO1 : Hid _ := hok1
  have HO2 : Hid _ := hok2
  clear hok1 hok2 hB7 hgB hB8 hr58 hP2 hr8 hl2 hg8 hBB hrB hg8lt HR56 C74 C74b HOK HN6
  go_upto_region 8 with (first | (go_at_call 57; refine Calls.mono C57.out ?_; rintro e w9 ⟨rfl, h9⟩; obtain ⟨cur, bx, hsz3⟩ := HCUR.out _ h9; have f0 := box_free bx (room * 3); have q0 := box_cell bx (i := room * 3) (Array.getElem?_eq_getElem (by omega)); have bx1 := box_set bx (room * 3) (.slice (some ⟨g5, 0, none⟩) P1.length c5); have f1 := box_free bx1 (room * 3 + 1); have q1 := box_cell bx1 (i := room * 3 + 1) (Array.getElem?_eq_getElem (by simp; omega)); have bx2 := box_set bx1 (room * 3 + 1) (.int .u64 (lo64 (setOf P1) : Int)); have f2 := box_free bx2 (room * 3 + 2); have q2 := box_cell bx2 (i := room * 3 + 2) (Array.getElem?_eq_getElem (by simp; omega))) | fail)
  have hB9 : Below w.heap.size w w9 := below_next HB8.out h9
  have hF9 := HFR.out.under hB9
  have hlt5 : g5 < w9.heap.size := by have := HGG.out; have := h9.size; omega
  have hst := hF9.store (g := g) (c := c) (i := room) (hv := .slice (some ⟨g5, 0, none⟩) P1.length c5) (f := faceOf P1) (by rw [← HNN.out.1]) (by rw [← HNN.out.1]; exact hrn) ⟨g5, 0, c5, rfl, HC5.out.1, HN1.out.under h9 HGG.out.2.1, by have := HGG.out; have := HLO.out; omega, hlt5⟩ (fun b hb => by
    have e : g5 = b := (by simpa [Value.ownBlock] using hb)
    have := HGG.out
    omega) HO1.out
  have hT10 := ((setCell_turns w9 g (room * 3) (.slice (some ⟨g5, 0, none⟩) P1.length c5)).trans (setCell_turns _ g (room * 3 + 1) (.int .u64 (lo64 (faceOf P1).nodes : Int)))).trans (setCell_turns _ g (room * 3 + 2) (.int .u64 (hi64 (faceOf P1).nodes : Int)))
  have e3 : (faceOf P1).nodes = setOf P1 := rfl
  rw [e3] at hst hT10
  generalize ((w9.setCell ⟨g, room * 3, none⟩ (.slice (some ⟨g5, 0, none⟩) P1.length c5)).setCell ⟨g, room * 3 + 1, none⟩ (.int .u64 (lo64 (setOf P1) : Int))).setCell ⟨g, room * 3 + 2, none⟩ (.int .u64 (hi64 (setOf P1) : Int)) = w10 at *
  have HN2b : Hid (NumL w10 g8 0 P2) := (HN2.out.under h9 HGG.out.2.2.2.1).turns hT10 (by have := HGG.out; omega)
  have hlt8 : g8 < w10.heap.size := by have := HGG.out; have := h9.size; have := hT10.size; omega
  have HST : Hid _ := hst
  have HT10 : Hid (Turns (fun k => k = g) w w10) := (Turns.of_below hB9 _).trans hT10
  have HL8 : Hid (g8 < w10.heap.size) := hlt8
  have C57b : Hid (Calls Tryd.prog 57 #[.slice (some ⟨g8, 0, none⟩) P2.length c8] w10 fun e w' => e = .returned (.agg #[.slice (some ⟨g8, 0, none⟩) P2.length c8, .int .u64 (lo64 (setOf P2) : Int), .int .u64 (hi64 (setOf P2) : Int)]) ∧ Below w10.heap.size w10 w') := faceOf_call HN2b.out HO2.out.1 HO2.out.2.1
  obtain ⟨i3, hi3, hy0, hy1, hy2⟩ := info_parts Tryd.info86
  clear f0 q0 bx1 f1 q1 bx2 f2 q2 bx hsz3 hB9 hF9 hlt5 hst hT10 e3 hlt8 h9
  have hFS : (F.set room (faceOf P1)).length = n := by rw [List.length_set]; exact HNN.out.1.symm
  go_wp2_with (first | (go_at_call 57; refine Calls.mono C57b.out ?_; rintro e w11 ⟨rfl, h11⟩; have hrow11 := (HST.out.under h11).row; rw [hFS] at hrow11; have HRW : Hid _ := hrow11; have HB11 : Hid _ := h11; clear hrow11 h11) | (at_builtin; refine wpList_append_lies _ rfl _ _ 53 rfl lo 86 i3 (.agg #[.slice none 0 0, .int .u64 0, .int .u64 0]) 3 40 Tryd.underlying53 hi3 hy0 hy1 hy2 rfl (by decide) (.slice (some ⟨g, 0, none⟩) n c) n (flatF (H.set room (.slice (some ⟨g5, 0, none⟩) P1.length c5)) (F.set room (faceOf P1))) rfl (World.ownsRow.alloc HRW.out _) ⟨w11.heap.size, 0, none⟩ 1 1 (fcell (.slice (some ⟨g8, 0, none⟩) P2.length c8) (faceOf P2)) rfl rfl (World.news_of_block (heap_alloc_new _ _)) (by intro z hz; simp [fcell] at hz; rcases hz with rfl | rfl | rfl <;> rfl) (by omega) (by have := HNN.out; unfold maxLen; omega) (by have := HNN.out; omega) (by have := HLO.out; have := HT10.out.size; have := HB11.out.size; simp; omega) (w11.heap.size + 1) (by simp) ?_; intro g12 c12 w12 hr12 hg12 hl12 _) | go_in)
  go_ret
  rw [HI.out, HX2.out]
  have hB12 : Below w10.heap.size w10 (w11.alloc (Obj.cells #[.slice (some ⟨g8, 0, none⟩) P2.length c8, .int .u64 (lo64 (setOf P2) : Int), .int .u64 (hi64 (setOf P2) : Int)] 86)) := below_alloc HB11.out _
  have hp := HST.out.push (hv := .slice (some ⟨g8, 0, none⟩) P2.length c8) (f := faceOf P2) hB12 hg12 (y := .slice (some ⟨g12, 0, none⟩) (n + 1) c12) (by rw [hFS]; exact hr12) (fun b hb => by
      have e : g12 = b := (by simpa [Value.ownBlock] using hb)
      subst e
      rcases hl12 with h | h
      · exact Or.inl h
      · right; rw [World.size_alloc]; omega) ⟨g8, 0, c8, rfl, HC5.out.2, HN2b.out, by have := HGG.out; have := HLO.out; omega, HL8.out⟩ (fun b hb e => by
      have e1 : g8 = b := (by simpa [Value.ownBlock] using hb)
      have e2 : g = b := (by simpa [Value.ownBlock] using e)
      have := HGG.out
      omega) HO2.out
  refine ⟨_, _, rfl, hp, ?_, fun b hb => ?_, fun hv hm => ?_⟩
  · refine (HT10.out.mono (fun k _ e => by rw [e]; rfl)).trans ((Turns.of_below hB12 _).trans ?_)
    exact ⟨hg12.os, hg12.tape, hg12.output, hg12.size, fun k hk hm => hg12.block k hk (fun e => hm e.symm)⟩
  · have e : g12 = b := (by simpa [Value.ownBlock] using hb)
    subst e
    rcases hl12 with h | h
    · exact Or.inl h
    · right
      have h1 := HT10.out.size
      have h2 := HB11.out.size
      omega
  · rcases List.mem_append.1 hm with hm | hm
    · rcases List.mem_or_eq_of_mem_set hm with hm | rfl
      · exact Or.inl hm
      · refine Or.inr (fun b hb => ?_)
        have e1 := (by simpa [Value.ownBlock] using hb)
        have := HGG.out
        omega
    · rw [List.mem_singleton] at hm
      subst hm
      refine Or.inr (fun b hb => ?_)
      have e1 : g8 = b := (by simpa [Value.ownBlock] using hb)
      have := HGG.out
      omega
end Go.Proofs.YtekokjechbibdaaDoor
