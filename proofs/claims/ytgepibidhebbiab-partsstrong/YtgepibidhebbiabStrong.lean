/- Strong, told of arcs that are in form: the strong parts in their order. -/
import Derived.Test.YtgepibidhebbiabSetLen
import Derived.Test.YtgepibidhebbiabStrongBad
import Derived.Test.YtgepibidhebbiabRinged
namespace Go.Proofs.Ytgepibidhebbiab
open Go.RowKit Go.Maps
attribute [local go_sem ↓] Go.wp_at_zero Go.wp_at_succ

def lenOf : Value → Nat | .slice _ n _ => n | _ => 0
def cntL (N : Nat) (L : Nat → Bool) : Nat := ((List.range N).filter L).length
theorem cntL_le (N : Nat) (L : Nat → Bool) : cntL N L ≤ N := Nat.le_trans (List.length_filter_le _ _) (by simp)
theorem cntL_lt {N v : Nat} {L L' : Nat → Bool} (h : ∀ x, x < N → L' x = true → L x = true) (hv : v < N) (h0 : L' v = false) (h1 : L v = true) : cntL N L' < cntL N L :=
  filter_lt (fun x hx => h x (by simpa using hx)) (by simpa using hv) h0 h1
def takenL (L : Nat → Bool) (l : List Nat) (t x : Nat) : Bool := L x && !decide (x ∈ l.take t)
theorem takenL_zero (L : Nat → Bool) (l : List Nat) (x : Nat) : takenL L l 0 x = L x := by simp [takenL]
theorem takenL_succ {L : Nat → Bool} {l : List Nat} {t u : Nat} (hu : l[t]? = some u) (x : Nat) : (takenL L l t x && x != u) = takenL L l (t + 1) x := by
  have ht := (List.getElem?_eq_some_iff.1 hu).1
  have he : l[t] = u := (List.getElem?_eq_some_iff.1 hu).2
  unfold takenL
  rw [List.take_succ_eq_append_getElem ht, he, Bool.and_assoc]
  congr 1
  rw [Bool.eq_iff_iff]
  simp
theorem mutTo_self {R : Nat → Nat → Bool} (hr : ∀ i, R i i = true) {v N : Nat} (hv : v < N) : v ∈ mutTo R v N := by
  unfold mutTo
  exact List.mem_filter.2 ⟨by simpa using hv, by simp [hr]⟩
theorem mutTo_lt {R : Nat → Nat → Bool} {v N x : Nat} (h : x ∈ mutTo R v N) : x < N := by
  unfold mutTo at h
  simpa using (List.mem_filter.1 h).1

set_option maxHeartbeats 4000000 in
theorem strong_good (n : Nat) (ao : Option Addr) (cap : Nat) (es : List Pair) (w : World) (hE : EdgesAt w (.slice ao es.length cap) es) (hn1 : n ≤ 100) (hl : es.length ≤ 1000) (hgood : ∀ e ∈ es, ArcIn n e) {R : Nat → Nat → Bool} (hR : ∀ v x, R v x = true ↔ Star (St n (arcB es) allB) v x) :
    Calls Try.prog 28 #[.int .i64 (n : Int), .slice ao es.length cap] w fun r w' => ∃ v ls L', r = .returned (.tuple #[v, .agg #[.int .i64 0, .int .i64 0]]) ∧ ListsAt w' w.heap.size v ls ∧ StrongTo R n allB ls L' ∧ (∀ x, x < n → L' x = false) ∧ ls.length ≤ n ∧ Below w.heap.size w w' := by
  obtain ⟨i0, hi, hz0, hz1, hz2⟩ := info_parts Try.info34
  have hr : ∀ i, R i i = true := fun i => (hR i i).2 (.refl _)
  have ht : ∀ i j k, R i j = true → R j k = true → R i k = true := fun i j k h1 h2 => (hR i k).2 (((hR i j).1 h1).trans ((hR j k).1 h2))
  have hl3 : ¬ (1000 : Int) < (es.length : Int) := by omega
  have hn2 : ¬ (n : Int) < 0 := by omega
  have hn3 : ¬ 100 < (n : Int) := by omega
  have hn6 : n ≤ 1000000 := by omega
  have HE : Hid _ := hE
  have HGD : Hid _ := hgood
  have HR : Hid _ := hR
  have HRR : Hid _ := hr
  have HRT : Hid _ := ht
  clear hE hgood hR hr ht
  go_enter Try.func28, Try.ntmps28
  go_upto_region 3 with (fail)
  have t5 := two_new w (.int .i64 0) (.int .i64 0) 27
  have hB := below_alloc (Below.refl _ w) (Obj.cells #[.int .i64 0, .int .i64 0] 27)
  generalize w.alloc (Obj.cells #[.int .i64 0, .int .i64 0] 27) = W at t5 hB ⊢
  go_wp2
  go_loopw [28] (fun i wr => ∃ k : Nat, k ≤ es.length ∧ i = .int .i64 (k : Int) ∧ Below W.heap.size W wr) (fun i _ => es.length - (numOf i).toNat)
  case atStart => exact ⟨0, Nat.zero_le _, rfl, Below.refl _ _⟩
  case round =>
    obtain ⟨k, hk, rfl, hBr⟩ := hrel
    by_cases hkl : k < es.length
    · obtain ⟨yo, yc, ey, _, _, hcells⟩ := EdgesAt.below HE.out (below_next hB hBr)
      cases ey
      obtain ⟨b, off, rfl, c1, c2⟩ := hcells k hkl
      obtain ⟨x, y, hxy⟩ : ∃ x y, es[k] = (x, y) := ⟨es[k].1, es[k].2, rfl⟩
      have hin := HGD.out es[k] (List.getElem_mem _)
      rw [hxy] at c1 c2 hin
      clear hcells hxy
      have j1 : (0 : Int) ≤ (k : Int) := by omega
      have j2 : (k : Int) < (es.length : Int) := by omega
      go_upto_region 6 with (fail)
      have t5' := two_alloc (two_next t5 hBr) (Obj.cells #[.int .i64 x, .int .i64 y] 63)
      have t7 := two_new wr (.int .i64 x) (.int .i64 y) 63
      have hBx := below_alloc hBr (Obj.cells #[.int .i64 x, .int .i64 y] 63)
      generalize wr.heap.size = b7 at t7 ⊢
      generalize wr.alloc (Obj.cells #[.int .i64 x, .int .i64 y] 63) = wx at t5' t7 hBx ⊢
      obtain ⟨z1, z2⟩ := cell_two t7
      clear c1 c2
      have l1 := isNode_call (n : Int) x wx
      have l2 := fun (w' : World) => isNode_call (n : Int) y w'
      have e1 : (decide (0 ≤ x) && decide (x < (n : Int))) = true := by simpa using ⟨hin.1, hin.2.2.1⟩
      have e2 : (decide (0 ≤ y) && decide (y < (n : Int))) = true := by simpa using ⟨hin.2.1, hin.2.2.2⟩
      simp only [e1] at l1
      simp only [e2] at l2
      have H1 : Hid _ := l1
      have H2 : Hid _ := l2
      clear l1 l2 e1 e2 hin
      go_wp2_with (first
        | (go_at_call 50; (fail_if_success (have hh := hbA)); refine Calls.mono H1.out ?_; rintro r wa ⟨rfl, hbA⟩; obtain ⟨s1, s2⟩ := cell_two (two_next t7 hbA))
        | (go_at_call 50; refine (H2.out _).mono ?_; rintro r wb ⟨rfl, hbB⟩)
        | go_in)
      go_roundw
      case rel => exact ⟨k + 1, by omega, by go_num, below_next hBx (below_next hbA hbB)⟩
      case measure => simp [numOf]; omega
    · have hke : k = es.length := by omega
      subst hke
      have hB2 := below_next hB hBr
      have t52 := two_next t5 hBr
      clear t5 hB hBr
      go_upto_region 12 with (first
        | (go_at_call 52; refine (oneWay_call n _ es _ (EdgesAt.below HE.out hB2) (by omega) HGD.out).mono ?_; rintro r wa ⟨na, rfl, hna, bl, hnr, hbl, hbA⟩)
        | (go_at_call 51; refine (reached_call hnr (by omega) HR.out).mono ?_; rintro r wb ⟨ro, rfl, hre, hbB⟩)
        | (go_at_call 38; refine (all_call n _ (by omega)).mono ?_; rintro r wc ⟨bL, rfl, hbL, hS, hbC⟩)
        | go_in)
      have hB3 := below_next hB2 (below_next hbA hbB)
      have t53 := two_next t52 (below_next hbA hbB)
      clear hB2 t52 hbA hnr hna hbl
      have HRE : Hid _ := hre
      clear hre hbB
      go_wp2
      go_loopw [10] (fun v wr => ∃ ls L, ListsAt wr wb.heap.size v ls ∧ SetN wr bL n L ∧ StrongTo R n allB ls L ∧ ls.length + cntL n L ≤ n ∧ Below wb.heap.size wb wr) (fun v _ => n - lenOf v)
      case atStart => exact ⟨[], fun _ => true, listsAt_nil _ _, hS, fun x _ => rfl, by have := cntL_le n (fun _ => true); simpa using this, hbC⟩
      case round =>
        obtain ⟨ls, L, hls, hset, hst, hcnt, hBd⟩ := hrel
        clear hS hbC
        obtain ⟨vo, vc, rfl⟩ := hls.form
        obtain ⟨z, hzn, hrun, hpos⟩ := hset.len hn6 3
        have hzn' : (z : Int) ≤ 100 := by omega
        by_cases hz : 0 < z
        · obtain ⟨y, hy, hLy⟩ := hpos.1 hz
          obtain ⟨v, hv, hh, hleast⟩ := head_least HRR.out HRT.out hy hLy
          have hcl : cntL n (fun x => L x && !decide (x ∈ mutTo R v n)) < cntL n L := cntL_lt (fun x _ h => by simp at h; exact h.1) hv (by simp [mutTo_self HRR.out hv]) hh.1
          have hz' : (0 : Int) < (z : Int) := by omega
          have hlt : ls.length < n := by omega
          have hmn := mutTo_le R v n
          have HH : Hid _ := hh
          have HL : Hid _ := hleast
          have HST : Hid _ := hst
          have HCL : Hid _ := hcl
          clear hh hleast hst hcl hpos hLy
          go_upto_region 14 with (first
            | (go_at_call 53; refine (firstPart_call (ReachAt.below HRE.out hBd) hset (by omega) hv HH.out HL.out).mono ?_; rintro r wd ⟨pv, rfl, hpv, hbD⟩; obtain ⟨po, pc, rfl⟩ := form_row hpv)
            | go_in)
          have hs0 := hBd.size
          have hlsD := hls.turns (Turns.of_below hbD (fun _ => False)) (fun _ h => h.elim)
          have hsetD := SetN.stay hset hbD
          have hBD := below_self hBd hbD hBd.size
          have hpvD := ownsRow_mono hpv (b' := wb.heap.size) hs0
          obtain ⟨m, hm⟩ : ∃ m, m = mutTo R v n := ⟨_, rfl⟩
          have hmem : ∀ x, x ∈ m → x < n := fun x hx => mutTo_lt (by rw [← hm]; exact hx)
          rw [← hm] at hpvD hmn ⊢
          have HM : Hid _ := hm
          have HME : Hid _ := hmem
          clear hls hset hpv hbD hBd hm hmem hrun hs0
          go_wp2
          go_loopw [62] (fun i wr => ∃ t : Nat, t ≤ m.length ∧ i = .int .i64 (t : Int) ∧ wr.ownsRow wb.heap.size 3 1 (.slice po m.length pc) m.length (qv m) ∧ SetN wr bL n (takenL L m t) ∧ ListsAt wr wb.heap.size (.slice vo ls.length vc) ls ∧ Below wb.heap.size wb wr) (fun i _ => m.length - (numOf i).toNat)
          case atStart => exact ⟨0, Nat.zero_le _, rfl, hpvD, hsetD.congr (fun x _ => (takenL_zero L m x).symm), hlsD, hBD⟩
          case round =>
            obtain ⟨t, htm, rfl, hpv, hset, hls, hBd⟩ := hrel
            clear hpvD hsetD hlsD hBD
            by_cases htl : t < m.length
            · obtain ⟨u, hu?⟩ : ∃ u, m[t]? = some u := ⟨m[t], List.getElem?_eq_getElem htl⟩
              obtain ⟨gx, rfl, cu⟩ := qcell hpv hu?
              have hun : u < n := HME.out u (List.mem_of_getElem? hu?)
              have HU : Hid _ := hu?
              have hmap := hset.isMap
              obtain ⟨DL, hownL, hhasL⟩ := hset
              clear hu?
              have i1 : (0 : Int) ≤ (t : Int) := by omega
              have i2 : (t : Int) < (m.length : Int) := by omega
              go_wp2_with (first
                | (at_delete; refine wpList_delete_own _ rfl _ _ 72 3 rfl 108 Try.lawI Try.underlying72 _ bL n DL rfl hownL _ _ rfl (hkeyI (natI hn6 hun)) ?_; intro we howne hturne)
                | go_in)
              have hSe := (setN_del hhasL howne).congr (T := takenL L m (t + 1)) (fun x _ => takenL_succ HU.out x)
              have Te := turned_turns hturne
              go_roundw
              case rel => exact ⟨t + 1, by omega, by go_num, ownsRow_marks hpv Te (fun k hk => by rw [hk]; exact hmap), hSe, hls.turns Te (fun k hk => Or.inr (by rw [hk]; exact hmap)), Te.below hBd hBd.size (fun k hk => by omega)⟩
              case measure => simp [numOf]; omega
            · have : t = m.length := by omega
              subst this
              obtain ⟨vs, hvs, hrow, hel⟩ := hls
              go_wp2_with (first
                | (at_builtin; refine wpList_append_own _ rfl _ _ 29 rfl wb.heap.size 34 i0 (.slice none 0 0) 1 24 Try.underlying29 hi hz0 hz1 hz2 rfl (by decide) _ _ _ rfl (hrow.alloc _) ⟨wr.heap.size, 0, none⟩ 1 1 [.slice po m.length pc] rfl rfl ?n1 ?n2 ?n3 ?n4 ?n5 ?_)
                | go_in)
              case n1 => exact cell_one_new _ _ _
              case n2 => first | rfl | (intro y hy; simp at hy; subst hy; rfl)
              case n3 => unfold maxLen; omega
              case n4 => omega
              case n5 => have := hBd.size; simp; omega
              intro v' w4 hown' hgrow _
              have hls4 := ListsAt.push (l := m) hpv hvs hrow hel hown' hgrow
              have T4 := (alloc_turns wr (Obj.cells #[.slice po m.length pc] 34) _).trans (Turns.of_grown hgrow)
              have hMM : ∀ j, some j = (Value.slice vo ls.length vc).ownBlock → wb.heap.size ≤ j := fun j hj => (hrow.lt j hj.symm).1
              have hmap := hset.isMap
              have hset4 := hset.turns T4 (fun h' => by
                obtain ⟨ms, c, h1⟩ := hmap
                obtain ⟨cur, h2⟩ := own_cells hrow h'.symm
                rw [h1] at h2; cases h2)
              have hB4 := T4.below hBd hBd.size (fun k hk => hMM k hk)
              have hfrm := hls4.form
              obtain ⟨vo4, vc4, rfl⟩ := hfrm
              clear hown' hgrow T4 hMM hrow hel hpv hset hBd
              go_wp2
              go_roundw
              case rel =>
                refine ⟨ls ++ [m], fun x => L x && !decide (x ∈ m), hls4, hset4.congr (fun x _ => by simp [takenL]), ?_, ?_, hB4⟩
                · rw [HM.out]
                  exact strongTo_snoc hv HH.out HL.out (fun x _ => rfl) ls allB HST.out
                · have := HCL.out
                  rw [← HM.out] at this
                  simp only [List.length_append, List.length_cons, List.length_nil]
                  omega
              case measure => simp [lenOf]; omega
        · have hz0' : z = 0 := by omega
          subst hz0'
          have hno : ∀ x, x < n → L x = false := fun x hx => by
            cases hL : L x
            · rfl
            · have := hpos.2 ⟨x, hx, hL⟩
              omega
          have HNO : Hid _ := hno
          have HST : Hid _ := hst
          clear hno hst hpos
          have t54 := two_next t53 hBd
          obtain ⟨f1, f2⟩ := cell_two t54
          have g1 := free_two t54 0
          have g2 := free_two t54 1
          go_wp2
          refine bodyPost_ret (v := .tuple #[.slice vo ls.length vc, .agg #[.int .i64 0, .int .i64 0]]) ?_ rfl ⟨_, ls, L, rfl, ?_, HST.out, HNO.out, by omega, ?_⟩
          · simp [results, Try.results28, go_sem, f1, f2]
          · have hlt := lt_of_block t53
            exact (hls.turns ((setCell_turns wr w.heap.size 0 _).trans (setCell_turns _ w.heap.size 1 _)) (fun k hk => Or.inl (by omega))).mono (Nat.le_of_lt hlt)
          · exact ((below_next hB3 hBd).setCell (by simp) _).setCell (by simp) _
end Go.Proofs.Ytgepibidhebbiab
