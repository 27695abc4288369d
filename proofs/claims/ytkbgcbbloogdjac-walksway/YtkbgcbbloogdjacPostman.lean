/- Postman. -/
import Derived.Test.YtkbgcbbloogdjacPostMath
import Derived.Test.YtkbgcbbloogdjacTour1
import Derived.Test.YtkbgcbbloogdjacGirth
namespace Go.Proofs.Ytkbgcbbloogdjac
open Go.RowKit Go.Maps
attribute [local go_sem ↓] Go.wp_at_zero Go.wp_at_succ

set_option maxRecDepth 4000 in
set_option maxHeartbeats 2000000 in
theorem postman_bad (n : Int) (v : Value) (es : List Pair) (w : World) (hE : EdgesAt w v es) (hc : (chk n es).1 ≠ 0) :
    Calls Try.prog 26 #[.agg #[.int .i64 n, v]] w fun r w' => r = .returned (.tuple #[.slice none 0 0, .agg #[.int .i64 (chk n es).1, .int .i64 (chk n es).2]]) ∧ Below w.heap.size w w' := by
  have hc1 : ((chk n es).1 != 0) = true := by simpa using hc
  have hop := fun (W : World) (hB : Below w.heap.size w W) => open_bad n v (.slice none 0 0) es W (hE.below hB) hc
  obtain ⟨c, hcv⟩ : ∃ c, c = (chk n es).1 := ⟨_, rfl⟩
  obtain ⟨d, hdv⟩ : ∃ d, d = (chk n es).2 := ⟨_, rfl⟩
  rw [← hcv, ← hdv] at hop ⊢
  rw [← hcv] at hc1
  have HO : Hid _ := hop
  clear hop hcv hdv hc
  go_enter Try.func26, Try.ntmps26
  go_upto_region 1 with (fail)
  have t1 : Two ((w.alloc (Obj.cells #[.int .i64 n, v] 24)).alloc (Obj.cells #[.int .i64 0, .int .i64 0] 27)) w.heap.size (.int .i64 n) v 24 := two_alloc (two_new w _ _ _) _
  have t3 : Two ((w.alloc (Obj.cells #[.int .i64 n, v] 24)).alloc (Obj.cells #[.int .i64 0, .int .i64 0] 27)) (w.heap.size + 1) (.int .i64 0) (.int .i64 0) 27 := two_new1 w _ _ _ _
  have hB := below2 (w := w) (Obj.cells #[.int .i64 n, v] 24) (Obj.cells #[.int .i64 0, .int .i64 0] 27)
  generalize (w.alloc (Obj.cells #[.int .i64 n, v] 24)).alloc (Obj.cells #[.int .i64 0, .int .i64 0] 27) = W at t1 t3 hB ⊢
  obtain ⟨y1, y2⟩ := cell_two t1
  go_upto_region 2 with (first
    | (go_at_call 28; refine (HO.out W hB).mono ?_; rintro r wa ⟨rfl, hbA⟩)
    | go_in)
  have t3a := two_alloc (two_next t3 hbA) (Obj.cells #[.int .i64 c, .int .i64 d] 27)
  have t5a := two_new wa (.int .i64 c) (.int .i64 d) 27
  have hB2 := below_alloc (below_next hB hbA) (Obj.cells #[.int .i64 c, .int .i64 d] 27)
  have hsz : w.heap.size + 1 < wa.heap.size := by have := lt_of_block (two_next t3 hbA); omega
  generalize wa.heap.size = b5 at t5a hsz ⊢
  generalize wa.alloc (Obj.cells #[.int .i64 c, .int .i64 d] 27) = W2 at t3a t5a hB2 ⊢
  clear y1 y2 hbA t1 t3
  obtain ⟨s1, s2⟩ := cell_two t3a
  obtain ⟨s3, s4⟩ := cell_two t5a
  have f1 := free_two t3a 0
  have f2 := free_two t3a 1
  go_wp2_with fail
  go_region
  all_goals
    go_wp2
    refine bodyPost_ret (v := .tuple #[.slice none 0 0, .agg #[.int .i64 c, .int .i64 d]]) ?_ rfl ⟨rfl, ((hB2.setCell (by simp) _).setCell (by simp) _).drew⟩
    simp [results, Try.results26, go_sem, s1, s2]

theorem own_cap {w : World} {base : Nat} {t : TypeId} {sz : Nat} {o : Option Addr} {n m c : Nat} {xs : List Value} (h : w.ownsRow base t sz (.slice o n c) m xs) : m ≤ c := by
  rcases h.2 with ⟨h1, e⟩ | ⟨g, c', cur, e, _, _, h3, _⟩
  · omega
  · cases e; exact h3
theorem sumD_le {N : Nat} (hN : N ≤ 100) {e : Nat → Nat → Bool} {O : Nat → Nat → Option Nat} : ∀ {ps : List Pair} {P P' : Nat → Nat → Int}, WaysAdd N e O ps P P' → sumD O ps ≤ 100 * ps.length
  | [], _, _, _ => by simp [sumD]
  | p :: ps, P, P', h => by
    obtain ⟨u, v, D, S, rfl, hu, hD, hO, hh, h'⟩ := h
    have := sumD_le hN h'
    simp [sumD, hO]
    omega
/-- K is the first node that has an edge. -/
def FirstE (m : Nat) (es : List Pair) (K : Nat) : Prop := K < m ∧ nbL m es K ≠ [] ∧ ∀ j, j < K → nbL m es j = []
/-- All edges hang together with K. -/
def Hang (m : Nat) (es : List Pair) (K : Nat) : Prop := ∃ o, Dist m (pn (hasB es)) K o ∧ ∀ x, x < m → o x = none → nbL m es x = []
abbrev odds (m : Nat) (es : List Pair) : List Nat := oddTo (nbL m es) m
theorem odds_mem {m : Nat} {es : List Pair} {u : Nat} (h : u ∈ odds m es) : u < m ∧ nbL m es u ≠ [] := by
  have := List.mem_filter.1 h
  refine ⟨by simpa using this.1, fun e => ?_⟩
  have h2 := this.2
  rw [e] at h2
  simp at h2
/-- How Postman ends. -/
def PostEnd (m : Nat) (es : List Pair) (R : (Nat → Nat → Option Nat) → List Pair → Prop) (base : Nat) (w' : World) (v : Value) (c : Int) : Prop :=
  (v = .slice none 0 0 ∧ c = 0 ∧ ∀ i, i < m → nbL m es i = []) ∨
  (v = .slice none 0 0 ∧ c = 9 ∧ ∃ K, FirstE m es K ∧ ¬ Hang m es K) ∨
  (v = .slice none 0 0 ∧ c = 2 ∧ ∃ K, FirstE m es K ∧ Hang m es K ∧ 12 < (odds m es).length) ∨
  (c = 0 ∧ ∃ K, FirstE m es K ∧ Hang m es K ∧ (odds m es).length ≤ 12 ∧ ∃ O ps P1 P2 A, (∀ v, v ∈ odds m es → Dist m (pn (hasB es)) v (O v)) ∧ R O ps ∧ WaysAdd m (pn (hasB es)) O ps (plan0 m es) P1 ∧ GoOn m K 0 P1 P2 A ∧ A.length ≤ 20000 ∧ w'.ownsRow base 3 1 v (A ++ [K]).length (qv (A ++ [K])))

theorem hang_not {m : Nat} {es : List Pair} {K : Nat} {o : Nat → Option Nat} (hd : Dist m (pn (hasB es)) K o) (h : ¬ ∀ x, x < m → o x = none → nbL m es x = []) : ¬ Hang m es K := fun ⟨o', hd', h'⟩ => h fun x hx ho => h' x hx (by rw [← ho]; exact hd'.same hd hx)

set_option maxRecDepth 4000 in
set_option maxHeartbeats 4000000 in
theorem postman_ok (m : Nat) (ao : Option Addr) (cap : Nat) (es : List Pair) (w : World) (hE : EdgesAt w (.slice ao es.length cap) es) (hc : (chk m es).1 = 0)
    {R : (Nat → Nat → Option Nat) → List Pair → Prop} (hpd : ∀ wn oo oc, (∃ K, FirstE m es K ∧ Hang m es K) → (odds m es).length ≤ 12 → (odds m es).length ≤ oc → (∀ k u : Nat, (odds m es)[k]? = some u → u < m ∧ ∃ b, oo = some ⟨b, 0, none⟩ ∧ wn.cell? ⟨b, k, none⟩ = some (.int .i64 (u : Int))) → PairsDo wn m (pn (hasB es)) oo oc (odds m es) R)
    (hR : ∀ O ps, (odds m es).length ≤ 12 → R O ps → ps.length ≤ 6 ∧ ∀ p ∈ ps, ∃ u v : Nat, p = ((u : Int), (v : Int)) ∧ u ∈ odds m es ∧ v ∈ odds m es) :
    Calls Try.prog 26 #[.agg #[.int .i64 (m : Int), .slice ao es.length cap]] w fun r w' => ∃ v c, r = .returned (.tuple #[v, .agg #[.int .i64 c, .int .i64 0]]) ∧ Below w.heap.size w w' ∧ PostEnd m es R w.heap.size w' v c := by
  obtain ⟨hck, hn0, hn1, hle, hgood⟩ := chk_good hc
  have hm : m ≤ 100 := by omega
  have hop := fun (W : World) (hB : Below w.heap.size w W) => open_ok m ao cap es (.slice none 0 0) [] W (hE.below hB) (intsAt_nil W) (fun x hx => by cases hx) (by simp) hc
  have HO : Hid _ := hop
  have HPD : Hid _ := hpd
  have HRR : Hid _ := hR
  have HG : Hid _ := hgood
  clear hE hc hck hn0 hn1 hle hgood hop hpd hR
  go_enter Try.func26, Try.ntmps26
  go_upto_region 1 with (fail)
  have t1 : Two ((w.alloc (Obj.cells #[.int .i64 (m : Int), .slice ao es.length cap] 24)).alloc (Obj.cells #[.int .i64 0, .int .i64 0] 27)) w.heap.size (.int .i64 (m : Int)) (.slice ao es.length cap) 24 := two_alloc (two_new w _ _ _) _
  have t3 : Two ((w.alloc (Obj.cells #[.int .i64 (m : Int), .slice ao es.length cap] 24)).alloc (Obj.cells #[.int .i64 0, .int .i64 0] 27)) (w.heap.size + 1) (.int .i64 0) (.int .i64 0) 27 := two_new1 w _ _ _ _
  have hB := below2 (w := w) (Obj.cells #[.int .i64 (m : Int), .slice ao es.length cap] 24) (Obj.cells #[.int .i64 0, .int .i64 0] 27)
  generalize (w.alloc (Obj.cells #[.int .i64 (m : Int), .slice ao es.length cap] 24)).alloc (Obj.cells #[.int .i64 0, .int .i64 0] 27) = W at t1 t3 hB ⊢
  obtain ⟨y1, y2⟩ := cell_two t1
  go_upto_region 2 with (first
    | (go_at_call 28; refine (HO.out W hB).mono ?_; rintro r wa ⟨g, vs, rfl, hgg, hnl, hbA⟩)
    | go_in)
  have hnr : NearR (wa.alloc (Obj.cells #[.int .i64 0, .int .i64 0] 27)) (some ⟨g, 0, none⟩) m (nbL m es) := (NearL.toR hnl).below (below_alloc (Below.refl _ wa) _)
  have t3a := two_alloc (two_next t3 hbA) (Obj.cells #[.int .i64 0, .int .i64 0] 27)
  have t5a := two_new wa (.int .i64 0) (.int .i64 0) 27
  have hB2 := below_alloc (below_next hB hbA) (Obj.cells #[.int .i64 0, .int .i64 0] 27)
  generalize wa.heap.size = b5 at t5a ⊢
  generalize wa.alloc (Obj.cells #[.int .i64 0, .int .i64 0] 27) = W2 at t3a t5a hB2 hnr ⊢
  clear y1 y2 hbA t1 t3 hnl hgg
  obtain ⟨s3, s4⟩ := cell_two t5a
  have HNR : Hid _ := hnr
  clear hnr
  obtain ⟨s1, s2⟩ := cell_two t3a
  have f1 := free_two t3a 0
  have f2 := free_two t3a 1
  go_upto_region 5 with (first
    | (go_at_call 37; refine (firstEdge_call (cap := m) HNR.out hm).mono ?_; rintro r wb ⟨z, rfl, hz, rfl⟩)
    | go_in)
  rcases hz with ⟨rfl, hall⟩ | ⟨K, rfl, hKm, hKl, hKf⟩
  · have HAL : Hid _ := hall
    clear hall
    go_wp2
    refine bodyPost_ret (v := .tuple #[.slice none 0 0, .agg #[.int .i64 0, .int .i64 0]]) ?_ rfl ⟨_, 0, rfl, (hB2.setCell (by simp) _).setCell (by simp) _, Or.inl ⟨rfl, rfl, HAL.out⟩⟩
    simp [results, Try.results26, go_sem, s1, s2]
  · have hFE : FirstE m es K := ⟨hKm, hKl, hKf⟩
    have HFE : Hid _ := hFE
    clear hFE hKl hKf
    have z0 : ¬ (K : Int) < 0 := by omega
    clear s1 s2 f1 f2
    go_upto_region 10 with (first
      | (go_at_call 39; refine (hang_call (cap := m) HNR.out (rows_nb m es hm) hm hKm).mono ?_; rintro r wc ⟨q, o, rfl, hd, hq, hbC⟩; have HD : Hid _ := hd; have HQ : Hid _ := hq; clear hd hq; have t3c := two_next t3a hbC; obtain ⟨s1, s2⟩ := cell_two t3c; have f1 := free_two t3c 0; have f2 := free_two t3c 1; cases q)
      | (go_at_call 38; refine (oddNodes_call (cap := m) (NearR.below HNR.out hbC) (fun u hu => (rows_nb m es hm).len u hu) hm).mono ?_; rintro r wd ⟨pv, rfl, hown, hbD⟩)
      | go_in)
    · refine bodyPost_ret (v := .tuple #[.slice none 0 0, .agg #[.int .i64 9, .int .i64 0]]) ?_ rfl ⟨_, 9, rfl, ((below_next hB2 hbC).setCell (by simp) _).setCell (by simp) _, Or.inr (Or.inl ⟨rfl, rfl, K, HFE.out, hang_not HD.out (fun h => by have := HQ.out.2 h; cases this)⟩)⟩
      simp [results, Try.results26, go_sem, s1, s2]
    · have hhang := HQ.out.1 trivial
      have HH : Hid _ := hhang
      have HHG : Hid (Hang m es K) := ⟨o, HD.out, hhang⟩
      clear hhang s1 s2 f1 f2
      obtain ⟨po, pc, rfl⟩ := form_row hown
      have hcap : (odds m es).length ≤ pc := own_cap hown
      have t3d := two_next t3c hbD
      obtain ⟨s1, s2⟩ := cell_two t3d
      have f1 := free_two t3d 0
      have f2 := free_two t3d 1
      have hBd := below_next (below_next hB2 hbC) hbD
      have hnd := NearR.below (NearR.below HNR.out hbC) hbD
      have HND : Hid _ := hnd
      clear hnd
      have hod : ∀ k u : Nat, (odds m es)[k]? = some u → u < m ∧ ∃ b, po = some ⟨b, 0, none⟩ ∧ wd.cell? ⟨b, k, none⟩ = some (.int .i64 (u : Int)) := fun k u hu => ⟨(odds_mem (List.mem_of_getElem? hu)).1, qcell hown hu⟩
      have HOD : Hid _ := hod
      clear hod hown
      by_cases h12 : 12 < (odds m es).length
      · have z12 : (12 : Int) < ((odds m es).length : Int) := by omega
        go_wp2
        refine bodyPost_ret (v := .tuple #[.slice none 0 0, .agg #[.int .i64 2, .int .i64 0]]) ?_ rfl ⟨_, 2, rfl, (hBd.setCell (by simp) _).setCell (by simp) _, Or.inr (Or.inr (Or.inl ⟨rfl, rfl, K, HFE.out, HHG.out, h12⟩))⟩
        simp [results, Try.results26, go_sem, s1, s2]
      · have z12 : ¬ (12 : Int) < ((odds m es).length : Int) := by omega
        have h12' : (odds m es).length ≤ 12 := by omega
        have hsy := pn_symm es m
        have HSY : Hid _ := hsy
        clear hsy h12 s1 s2 f1 f2
        go_upto_region 13 with (first
          | (go_at_call 40; refine (planOf_call (cap := m) HND.out (rows_nb m es hm).lt (rows_nb m es hm).len hm).mono ?_; rintro r we ⟨g2, bs, rfl, hpl, hbE⟩)
          | go_in)
        have hpl0 : PlanL we wd.heap.size g2 m bs (plan0 m es) := hpl
        have hme := makeEven_call (cap := m) (oc := pc) hpl0 (fun a b => (plan0_good HG.out).pos a b) HND.out (rows_nb m es hm) (fun i _ => rfl) HSY.out hm hbE HOD.out (by omega) (HPD.out wd po pc ⟨K, HFE.out, HHG.out⟩ h12' hcap HOD.out) (fun O ps hdist hr => by
          obtain ⟨h1, h2⟩ := HRR.out O ps h12' hr
          refine ⟨h1, fun p hp => ?_⟩
          obtain ⟨u, v, rfl, hu, hv⟩ := h2 p hp
          obtain ⟨D, hD⟩ := hang_some HSY.out HD.out hKm HH.out (odds_mem hu).1 (odds_mem hv).1 (odds_mem hu).2 (odds_mem hv).2 (hdist u hu)
          exact ⟨u, v, D, rfl, hu, (odds_mem hv).1, hD⟩)
        have HME : Hid _ := hme
        clear hme hpl hpl0
        go_upto_region 14 with (first
          | (go_at_call 43; refine Calls.mono HME.out ?_; rintro r wf ⟨rfl, P1, O, ps, hplf, hdist, hRps, hways, hbF⟩)
          | go_in)
        have hps := (HRR.out O ps h12' hRps).1
        obtain ⟨hgc, htt⟩ := waysAdd_good hm hways (plan0_good HG.out)
        have hsum := sumD_le hm hways
        have ht0 := plan0_tot hm es
        have hgood1 : Good m P1 := hgc.good (by omega) m
        have htot : (tot m P1 : Int) = totI m P1 := tot_eq (fun a b => (hgc.pos a b).1)
        have hwk := walk_call hplf hm hgood1 (by omega) hKm
        have HWK : Hid _ := hwk
        have HDI : Hid _ := hdist
        have HRP : Hid _ := hRps
        have HWA : Hid _ := hways
        have ht2 : tot m P1 ≤ 20000 := by omega
        have T3 := two_next t3d hbE
        have hB5 : Below w.heap.size w we := below_next hBd hbE
        have hszd := hBd.size
        have hb3 := lt_of_block t3d
        have t3f : Two wf (w.heap.size + 1) (.int .i64 0) (.int .i64 0) 27 := (hbF.block _ (by exact hb3)).trans T3
        clear hwk hdist hRps hways hgc htt hsum ht0 hgood1 htot T3 hplf
        go_wp2_with (first
          | (go_at_call 41; refine Calls.mono HWK.out ?_; rintro r wg ⟨qv2, P2, A, rfl, hgo, hAl, hown2, hbG⟩; have t3g : Two wg (w.heap.size + 1) (.int .i64 0) (.int .i64 0) 27 := (hbG.block _ (by exact hb3)).trans t3f; obtain ⟨s1, s2⟩ := cell_two t3g; have f1 := free_two t3g 0; have f2 := free_two t3g 1)
          | go_in)
        obtain ⟨qo, qc, rfl⟩ := form_row hown2
        have hBg : Below w.heap.size w wg := (hB5.trans (hbF.mono hszd)).trans (hbG.mono hszd)
        refine bodyPost_ret (v := .tuple #[.slice qo (A ++ [K]).length qc, .agg #[.int .i64 0, .int .i64 0]]) ?_ rfl ⟨_, 0, rfl, (hBg.setCell (by simp) _).setCell (by simp) _, Or.inr (Or.inr (Or.inr ⟨rfl, K, HFE.out, HHG.out, h12', O, ps, P1, P2, A, HDI.out, HRP.out, HWA.out, hgo, by omega, ?_⟩))⟩
        · simp [results, Try.results26, go_sem, s1, s2]
        · refine ownsRow_mono (ownsRow_blocks (ownsRow_blocks hown2 (fun b hb => Below.heap_setCell _ _ _ _ (fun hh => ?_))) (fun b hb => Below.heap_setCell _ _ _ _ (fun hh => ?_))) hszd
          · have hh' : b = w.heap.size + 1 := hh
            have := (hown2.lt b hb).1
            omega
          · have hh' : b = w.heap.size + 1 := hh
            have := (hown2.lt b hb).1
            omega
end Go.Proofs.Ytkbgcbbloogdjac
