/- Euler. -/
import Derived.Test.YtkbgcbbloogdjacPostman
import Derived.Test.YtkbgcbbloogdjacOn
namespace Go.Proofs.Ytkbgcbbloogdjac
open Go.RowKit Go.Maps
attribute [local go_sem ↓] Go.wp_at_zero Go.wp_at_succ

set_option maxRecDepth 4000 in
set_option maxHeartbeats 2000000 in
theorem euler_bad (n : Int) (v : Value) (es : List Pair) (w : World) (hE : EdgesAt w v es) (hc : (chk n es).1 ≠ 0) :
    Calls Try.prog 21 #[.agg #[.int .i64 n, v]] w fun r w' => r = .returned (.tuple #[.slice none 0 0, .agg #[.int .i64 (chk n es).1, .int .i64 (chk n es).2]]) ∧ Below w.heap.size w w' := by
  have hc1 : ((chk n es).1 != 0) = true := by simpa using hc
  have hop := fun (W : World) (hB : Below w.heap.size w W) => open_bad n v (.slice none 0 0) es W (hE.below hB) hc
  obtain ⟨c, hcv⟩ : ∃ c, c = (chk n es).1 := ⟨_, rfl⟩
  obtain ⟨d, hdv⟩ : ∃ d, d = (chk n es).2 := ⟨_, rfl⟩
  rw [← hcv, ← hdv] at hop ⊢
  rw [← hcv] at hc1
  have HO : Hid _ := hop
  clear hop hcv hdv hc
  go_enter Try.func21, Try.ntmps21
  go_upto_region 1 with (fail)
  have t1 : Two ((w.alloc (Obj.cells #[.int .i64 n, v] 24)).alloc (Obj.cells #[.int .i64 0, .int .i64 0] 27)) w.heap.size (.int .i64 n) v 24 := two_alloc (two_new w _ _ _) _
  have t3 : Two ((w.alloc (Obj.cells #[.int .i64 n, v] 24)).alloc (Obj.cells #[.int .i64 0, .int .i64 0] 27)) (w.heap.size + 1) (.int .i64 0) (.int .i64 0) 27 := two_new1 w _ _ _ _
  have hB := below2 (w := w) (Obj.cells #[.int .i64 n, v] 24) (Obj.cells #[.int .i64 0, .int .i64 0] 27)
  generalize (w.alloc (Obj.cells #[.int .i64 n, v] 24)).alloc (Obj.cells #[.int .i64 0, .int .i64 0] 27) = W at t1 t3 hB ⊢
  obtain ⟨y1, y2⟩ := cell_two t1
  go_upto_region 2 with (first
    | (go_at_call 28; refine (HO.out W hB).mono ?_; rintro r wa ⟨rfl, hbA⟩)
    | go_in)
  have t3a := two_alloc (two_next t3 hbA) (Obj.cells #[.int .i64 c, .int .i64 d] 27)
  have t5a := two_new wa (.int .i64 c) (.int .i64 d) 27
  have hB2 := below_alloc (below_next hB hbA) (Obj.cells #[.int .i64 c, .int .i64 d] 27)
  have hsz : w.heap.size + 1 < wa.heap.size := by have := lt_of_block (two_next t3 hbA); omega
  generalize wa.heap.size = b5 at t5a hsz ⊢
  generalize wa.alloc (Obj.cells #[.int .i64 c, .int .i64 d] 27) = W2 at t3a t5a hB2 ⊢
  clear y1 y2 hbA t1 t3
  obtain ⟨s1, s2⟩ := cell_two t3a
  obtain ⟨s3, s4⟩ := cell_two t5a
  have f1 := free_two t3a 0
  have f2 := free_two t3a 1
  go_wp2_with fail
  go_region
  all_goals
    go_wp2
    refine bodyPost_ret (v := .tuple #[.slice none 0 0, .agg #[.int .i64 c, .int .i64 d]]) ?_ rfl ⟨rfl, ((hB2.setCell (by simp) _).setCell (by simp) _).drew⟩
    simp [results, Try.results21, go_sem, s1, s2]

/-- How Euler ends. -/
def EulEnd (m : Nat) (es : List Pair) (base : Nat) (w' : World) (v : Value) (c : Int) : Prop :=
  (v = .slice none 0 0 ∧ c = 0 ∧ ∀ i, i < m → nbL m es i = []) ∨
  (v = .slice none 0 0 ∧ c = 9 ∧ ∃ K, FirstE m es K ∧ (2 < (odds m es).length ∨ ¬ Hang m es K)) ∨
  (c = 0 ∧ ∃ K, FirstE m es K ∧ Hang m es K ∧ (odds m es).length ≤ 2 ∧ ∃ s P2 A, s < m ∧ ((odds m es = [] ∧ s = K) ∨ (odds m es)[0]? = some s) ∧ GoOn m s 0 (plan0 m es) P2 A ∧ A.length ≤ 20000 ∧ w'.ownsRow base 3 1 v (A ++ [s]).length (qv (A ++ [s])))

set_option maxRecDepth 4000 in
set_option maxHeartbeats 4000000 in
theorem euler_ok (m : Nat) (ao : Option Addr) (cap : Nat) (es : List Pair) (w : World) (hE : EdgesAt w (.slice ao es.length cap) es) (hc : (chk m es).1 = 0) :
    Calls Try.prog 21 #[.agg #[.int .i64 (m : Int), .slice ao es.length cap]] w fun r w' => ∃ v c, r = .returned (.tuple #[v, .agg #[.int .i64 c, .int .i64 0]]) ∧ Below w.heap.size w w' ∧ EulEnd m es w.heap.size w' v c := by
  obtain ⟨hck, hn0, hn1, hle, hgood⟩ := chk_good hc
  have hm : m ≤ 100 := by omega
  have hop := fun (W : World) (hB : Below w.heap.size w W) => open_ok m ao cap es (.slice none 0 0) [] W (hE.below hB) (intsAt_nil W) (fun x hx => by cases hx) (by simp) hc
  have HO : Hid _ := hop
  have HG : Hid _ := hgood
  clear hE hc hck hn0 hn1 hle hgood hop
  go_enter Try.func21, Try.ntmps21
  go_upto_region 1 with (fail)
  have t1 : Two ((w.alloc (Obj.cells #[.int .i64 (m : Int), .slice ao es.length cap] 24)).alloc (Obj.cells #[.int .i64 0, .int .i64 0] 27)) w.heap.size (.int .i64 (m : Int)) (.slice ao es.length cap) 24 := two_alloc (two_new w _ _ _) _
  have t3 : Two ((w.alloc (Obj.cells #[.int .i64 (m : Int), .slice ao es.length cap] 24)).alloc (Obj.cells #[.int .i64 0, .int .i64 0] 27)) (w.heap.size + 1) (.int .i64 0) (.int .i64 0) 27 := two_new1 w _ _ _ _
  have hB := below2 (w := w) (Obj.cells #[.int .i64 (m : Int), .slice ao es.length cap] 24) (Obj.cells #[.int .i64 0, .int .i64 0] 27)
  generalize (w.alloc (Obj.cells #[.int .i64 (m : Int), .slice ao es.length cap] 24)).alloc (Obj.cells #[.int .i64 0, .int .i64 0] 27) = W at t1 t3 hB ⊢
  obtain ⟨y1, y2⟩ := cell_two t1
  go_upto_region 2 with (first
    | (go_at_call 28; refine (HO.out W hB).mono ?_; rintro r wa ⟨g, vs, rfl, hgg, hnl, hbA⟩)
    | go_in)
  have hnr : NearR (wa.alloc (Obj.cells #[.int .i64 0, .int .i64 0] 27)) (some ⟨g, 0, none⟩) m (nbL m es) := (NearL.toR hnl).below (below_alloc (Below.refl _ wa) _)
  have t3a := two_alloc (two_next t3 hbA) (Obj.cells #[.int .i64 0, .int .i64 0] 27)
  have t5a := two_new wa (.int .i64 0) (.int .i64 0) 27
  have hB2 := below_alloc (below_next hB hbA) (Obj.cells #[.int .i64 0, .int .i64 0] 27)
  generalize wa.heap.size = b5 at t5a ⊢
  generalize wa.alloc (Obj.cells #[.int .i64 0, .int .i64 0] 27) = W2 at t3a t5a hB2 hnr ⊢
  clear y1 y2 hbA t1 t3 hnl hgg
  obtain ⟨s3, s4⟩ := cell_two t5a
  have HNR : Hid _ := hnr
  clear hnr
  obtain ⟨s1, s2⟩ := cell_two t3a
  have f1 := free_two t3a 0
  have f2 := free_two t3a 1
  go_upto_region 5 with (first
    | (go_at_call 37; refine (firstEdge_call (cap := m) HNR.out hm).mono ?_; rintro r wb ⟨z, rfl, hz, rfl⟩)
    | go_in)
  rcases hz with ⟨rfl, hall⟩ | ⟨K, rfl, hKm, hKl, hKf⟩
  · have HAL : Hid _ := hall
    clear hall
    go_wp2
    refine bodyPost_ret (v := .tuple #[.slice none 0 0, .agg #[.int .i64 0, .int .i64 0]]) ?_ rfl ⟨_, 0, rfl, (hB2.setCell (by simp) _).setCell (by simp) _, Or.inl ⟨rfl, rfl, HAL.out⟩⟩
    simp [results, Try.results21, go_sem, s1, s2]
  · have hFE : FirstE m es K := ⟨hKm, hKl, hKf⟩
    have HFE : Hid _ := hFE
    clear hFE hKl hKf
    have z0 : ¬ (K : Int) < 0 := by omega
    clear s1 s2 f1 f2
    have hgc := plan0_good HG.out
    have hgood1 : Good m (plan0 m es) := hgc.good (by omega) m
    have htot : (tot m (plan0 m es) : Int) = totI m (plan0 m es) := tot_eq (fun a b => (hgc.pos a b).1)
    have ht0 := plan0_tot hm es
    have ht2 : tot m (plan0 m es) ≤ 20000 := by omega
    have HGD1 : Hid _ := hgood1
    clear hgc hgood1 htot ht0
    go_upto_region 8 with (first
      | (go_at_call 38; refine (oddNodes_call (cap := m) HNR.out (fun u hu => (rows_nb m es hm).len u hu) hm).mono ?_; rintro r wd ⟨pv, rfl, hown, hbD⟩)
      | go_in)
    obtain ⟨po, pc, rfl⟩ := form_row hown
    have t3d := two_next t3a hbD
    have hBd := below_next hB2 hbD
    have hnd := NearR.below HNR.out hbD
    have HND : Hid _ := hnd
    have HOW : Hid _ := hown
    clear hnd hown
    by_cases h2 : 2 < (odds m es).length
    · have z2 : (2 : Int) < ((odds m es).length : Int) := by omega
      obtain ⟨s1, s2⟩ := cell_two t3d
      have f1 := free_two t3d 0
      have f2 := free_two t3d 1
      go_wp2
      refine bodyPost_ret (v := .tuple #[.slice none 0 0, .agg #[.int .i64 9, .int .i64 0]]) ?_ rfl ⟨_, 9, rfl, (hBd.setCell (by simp) _).setCell (by simp) _, Or.inr (Or.inl ⟨rfl, rfl, K, HFE.out, Or.inl h2⟩)⟩
      simp [results, Try.results21, go_sem, s1, s2]
    · have z2 : ¬ (2 : Int) < ((odds m es).length : Int) := by omega
      have h2' : (odds m es).length ≤ 2 := by omega
      go_upto_region 10 with (first
        | (go_at_call 39; refine (hang_call (cap := m) HND.out (rows_nb m es hm) hm hKm).mono ?_; rintro r wc ⟨q, o, rfl, hd, hq, hbC⟩; have HD : Hid _ := hd; have HQ : Hid _ := hq; clear hd hq; have t3c := two_next t3d hbC; obtain ⟨s1, s2⟩ := cell_two t3c; have f1 := free_two t3c 0; have f2 := free_two t3c 1; cases q)
        | go_in)
      · refine bodyPost_ret (v := .tuple #[.slice none 0 0, .agg #[.int .i64 9, .int .i64 0]]) ?_ rfl ⟨_, 9, rfl, ((below_next hBd hbC).setCell (by simp) _).setCell (by simp) _, Or.inr (Or.inl ⟨rfl, rfl, K, HFE.out, Or.inr (hang_not HD.out (fun h => by have := HQ.out.2 h; cases this))⟩)⟩
        simp [results, Try.results21, go_sem, s1, s2]
      · have HHG : Hid (Hang m es K) := ⟨o, HD.out, HQ.out.1 trivial⟩
        clear s1 s2 f1 f2
        have hBc := below_next hBd hbC
        have hnc := NearR.below HND.out hbC
        have HNC : Hid _ := hnc
        have hoc := row_on HOW.out hbC
        have HOC : Hid _ := hoc
        have hb3 := lt_of_block t3c
        clear hnc hoc
        have hwalk := fun (s : Nat) (hs : s < m) (we : World) (g2 : Nat) (bs : Nat → Nat) (hpl : PlanL we wc.heap.size g2 m bs (plan0 m es)) => walk_call hpl hm HGD1.out (by omega) hs
        have HW : Hid _ := hwalk
        clear hwalk
        have hend : ∀ (s : Nat) (P2 : Nat → Nat → Int) (A : List Nat) (wg : World) (qo : Option Addr) (qc : Nat), s < m → ((odds m es = [] ∧ s = K) ∨ (odds m es)[0]? = some s) → GoOn m s 0 (plan0 m es) P2 A → A.length ≤ tot m (plan0 m es) → wg.ownsRow wc.heap.size 3 1 (.slice qo (A ++ [s]).length qc) (A ++ [s]).length (qv (A ++ [s])) → EulEnd m es w.heap.size ((wg.setCell ⟨w.heap.size + 1, 0, none⟩ (.int .i64 0)).setCell ⟨w.heap.size + 1, 1, none⟩ (.int .i64 0)) (.slice qo (A ++ [s]).length qc) 0 := fun s P2 A wg qo qc hs hso hgo hA hown2 => by
          refine Or.inr (Or.inr ⟨rfl, K, HFE.out, HHG.out, h2', s, P2, A, hs, hso, hgo, by omega, ?_⟩)
          refine ownsRow_mono (ownsRow_blocks (ownsRow_blocks hown2 (fun b hb => Below.heap_setCell _ _ _ _ (fun hh => ?_))) (fun b hb => Below.heap_setCell _ _ _ _ (fun hh => ?_))) hBc.size
          · have hh' : b = w.heap.size + 1 := hh
            have := (hown2.lt b hb).1
            omega
          · have hh' : b = w.heap.size + 1 := hh
            have := (hown2.lt b hb).1
            omega
        have HEN : Hid _ := hend
        clear hend
        cases hod : odds m es with
        | nil =>
          have HOD : Hid (odds m es = []) := show odds m es = [] from hod
          have zl : ¬ (0 : Int) < ((oddTo (nbL m es) m).length : Int) := by rw [show oddTo (nbL m es) m = [] from hod]; simp
          clear hod
          go_wp2_with (first
            | (go_at_call 40; refine (planOf_call (cap := m) HNC.out (rows_nb m es hm).lt (rows_nb m es hm).len hm).mono ?_; rintro r we ⟨g2, bs, rfl, hpl, hbE⟩; have hwk := HW.out K hKm we g2 bs hpl; have HWK : Hid _ := hwk; clear hwk hpl)
            | (go_at_call 41; refine Calls.mono HWK.out ?_; rintro r wg ⟨qv2, P2, A, rfl, hgo, hAl, hown2, hbG⟩; have t3g : Two wg (w.heap.size + 1) (.int .i64 0) (.int .i64 0) 27 := (hbG.block _ (by exact hb3)).trans (two_next t3c hbE); obtain ⟨s1, s2⟩ := cell_two t3g; have f1 := free_two t3g 0; have f2 := free_two t3g 1)
            | go_in)
          obtain ⟨qo, qc, rfl⟩ := form_row hown2
          have hBg : Below w.heap.size w wg := (below_next hBc hbE).trans (hbG.mono hBc.size)
          refine bodyPost_ret (v := .tuple #[.slice qo (A ++ [K]).length qc, .agg #[.int .i64 0, .int .i64 0]]) ?_ rfl ⟨_, 0, rfl, (hBg.setCell (by simp) _).setCell (by simp) _, HEN.out K P2 A wg qo qc hKm (Or.inl ⟨HOD.out, rfl⟩) hgo hAl hown2⟩
          simp [results, Try.results21, go_sem, s1, s2]
        | cons s ol =>
          have hsm : s < m := (odds_mem (by rw [hod]; simp)).1
          have HOD : Hid ((odds m es)[0]? = some s) := show (odds m es)[0]? = some s by rw [hod]; rfl
          obtain ⟨gs, rfl, cs⟩ := qcell HOC.out (k := 0) (u := s) HOD.out
          have zl : (0 : Int) < ((oddTo (nbL m es) m).length : Int) := by rw [show oddTo (nbL m es) m = s :: ol from hod]; simp
          clear hod
          go_wp2_with (first
            | (go_at_call 40; refine (planOf_call (cap := m) HNC.out (rows_nb m es hm).lt (rows_nb m es hm).len hm).mono ?_; rintro r we ⟨g2, bs, rfl, hpl, hbE⟩; have hwk := HW.out s hsm we g2 bs hpl; have HWK : Hid _ := hwk; clear hwk hpl)
            | (go_at_call 41; refine Calls.mono HWK.out ?_; rintro r wg ⟨qv2, P2, A, rfl, hgo, hAl, hown2, hbG⟩; have t3g : Two wg (w.heap.size + 1) (.int .i64 0) (.int .i64 0) 27 := (hbG.block _ (by exact hb3)).trans (two_next t3c hbE); obtain ⟨s1, s2⟩ := cell_two t3g; have f1 := free_two t3g 0; have f2 := free_two t3g 1)
            | go_in)
          obtain ⟨qo, qc, rfl⟩ := form_row hown2
          have hBg : Below w.heap.size w wg := (below_next hBc hbE).trans (hbG.mono hBc.size)
          refine bodyPost_ret (v := .tuple #[.slice qo (A ++ [s]).length qc, .agg #[.int .i64 0, .int .i64 0]]) ?_ rfl ⟨_, 0, rfl, (hBg.setCell (by simp) _).setCell (by simp) _, HEN.out s P2 A wg qo qc hsm (Or.inr HOD.out) hgo hAl hown2⟩
          simp [results, Try.results21, go_sem, s1, s2]
end Go.Proofs.Ytkbgcbbloogdjac
