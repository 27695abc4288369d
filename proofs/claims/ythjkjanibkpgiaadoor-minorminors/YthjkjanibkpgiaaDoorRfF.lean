/- The document's own lists: R.First. -/
import Derived.Test.YthjkjanibkpgiaaDoorRfH
import Derived.Test.YthjkjanibkpgiaaDoorFitM
import Derived.Test.YthjkjanibkpgiaaDoorTailM
namespace Go.Proofs.YthjkjanibkpgiaaDoor
set_option maxRecDepth 8000
open Go.RowKit Go.Maps
attribute [local go_sem ↓] Go.wp_at_zero Go.wp_at_succ
theorem wpList_copyNilH {W : World} {ops : Array Oper} {rest : List Oper} {o : Oper} {a : Act} {Q : Exit → Act → World → Prop} {vo : Option Addr} {vc n : Nat} {L : List Nat} (hn : n = L.length) (hgd : Region.wanted o (yielded ops a.tmps) = true) (s y : Operand)
    (ho : o.op = .call { callee := .builtin .append, args := #[s, y], argTypes := #[39, 39] }) (hs : a.eval s = .slice none 0 0) (hy : a.eval y = .slice vo n vc)
    (hL : NumF W vo L.length (fun i => (L.getD i 0 : Int))) (hl : L.length ≤ 1000)
    (h : ∀ po pc w', w'.ownsRow W.heap.size 3 1 (.slice po n pc) n (qv L) → Below W.heap.size W w' → wpList Tryd.prog ops Q rest (a.put o.dst (.slice po n pc)) w') :
    wpList Tryd.prog ops Q (o :: rest) a W := by
  subst hn
  exact wpList_copyNilG hgd s y ho hs hy hL hl h
theorem wpList_pushH {W : World} {ops : Array Oper} {rest : List Oper} {o : Oper} {a : Act} {Q : Exit → Act → World → Prop} {base n : Nat} {po : Option Addr} {pc : Nat} {l : List Nat} {x : Nat} (hn : n = l.length) (hgd : Region.wanted o (yielded ops a.tmps) = true) (s y : Operand)
    (ho : o.op = .call { callee := .builtin .append, args := #[s, y], argTypes := #[39, 39] }) (hs : a.eval s = .slice po n pc) (hy : a.eval y = .slice (some ⟨W.heap.size, 0, none⟩) 1 1)
    (hown : W.ownsRow base 3 1 (.slice po n pc) n (qv l)) (hl : n ≤ 1000) (hbase : base ≤ W.heap.size)
    (h : ∀ g c w', w'.ownsRow base 3 1 (.slice (some ⟨g, 0, none⟩) (l ++ [x]).length c) (l ++ [x]).length (qv (l ++ [x])) → (W.alloc (Obj.cells #[.int .i64 (x : Int)] 3)).grownBy w' (Value.slice po n pc).ownBlock → wpList Tryd.prog ops Q rest (a.put o.dst (.slice (some ⟨g, 0, none⟩) (n + 1) c)) w') :
    wpList Tryd.prog ops Q (o :: rest) a (W.alloc (Obj.cells #[.int .i64 (x : Int)] 3)) := by
  subst hn
  refine wpList_pushG hgd s y ho hs hy hown (by omega) hbase fun g c w' h1 h2 => ?_
  have e : (l ++ [x]).length = l.length + 1 := by simp
  have := h g c w' h1 h2
  rw [e]
  exact this
theorem inB_mem (l : List Nat) (x : Nat) : inB l.length (fun i => (l.getD i 0 : Int)) (x : Int) = l.contains x := by
  rw [Bool.eq_iff_iff]
  unfold inB
  rw [List.any_eq_true, List.contains_iff_mem]
  constructor
  · rintro ⟨j, hj, e⟩
    have hj' := List.mem_range.1 hj
    rw [beq_iff_eq] at e
    simp only [List.getD_eq_getElem?_getD, List.getElem?_eq_getElem hj'] at e
    have e' : l[j] = x := by simp at e; omega
    rw [← e']
    exact List.getElem_mem _
  · intro h
    obtain ⟨j, hj, rfl⟩ := List.getElem_of_mem h
    exact ⟨j, List.mem_range.2 hj, by rw [beq_iff_eq]; simp only [List.getD_eq_getElem?_getD, List.getElem?_eq_getElem hj]; rfl⟩
def orL (r d : Option (List Nat)) : Option (List Nat) := match r with
  | some l => some l
  | none => d
theorem firstSome_or (f : Nat → Option (List Nat)) (c v : Nat) : firstSome f (c + 1) v = orL (f v) (firstSome f c (v + 1)) := by
  rw [firstSome]
  cases f v <;> rfl
/-- What First answers. -/
def FirA (r : Option (List Nat)) (e : Ending) (w' : World) : Prop := match r with
  | some l => ∃ po pc, e = .returned (.tuple #[.slice po l.length pc, .bool true]) ∧ NumF w' po l.length (fun i => (l.getD i 0 : Int))
  | none => e = .returned (.tuple #[.slice none 0 0, .bool false])
def okTo (g h : Nat → Nat → Bool) (l : List Nat) (v i : Nat) : Bool := !(l.contains v) && (List.range i).all fun j => !(h l.length j) || g v (l.getD j 0)
theorem okTo_succ (g h : Nat → Nat → Bool) (l : List Nat) (v i : Nat) : okTo g h l v (i + 1) = (okTo g h l v i && (!(h l.length i) || g v (l.getD i 0))) := by
  unfold okTo
  rw [List.range_succ, List.all_append, Bool.and_assoc]
  simp
set_option maxHeartbeats 32000000 in
theorem first_call {go ho : Option Addr} {gc hc N M : Nat} {pg ph : Int → Int → Bool} (hN : N ≤ 100) (hM : M ≤ 100) : ∀ (c : Nat) (l : List Nat) (w : World) (vo : Option Addr) (vc : Nat),
    l.length + c = M → NumF w vo l.length (fun i => (l.getD i 0 : Int)) → GridAt w (.slice go N gc) N pg → GridAt w (.slice ho M hc) M ph → (∀ x ∈ l, x < N) →
    Calls Tryd.prog 14 #[.slice go N gc, .slice ho M hc, .slice vo l.length vc] w fun e w' => FirA (fitL N (fun (i j : Nat) => pg i j) (fun (i j : Nat) => ph i j) c l) e w' ∧ Below w.heap.size w w' := by
  obtain ⟨g, hg⟩ : ∃ p : Nat → Nat → Bool, p = fun (i j : Nat) => pg i j := ⟨_, rfl⟩
  obtain ⟨h, hh⟩ : ∃ p : Nat → Nat → Bool, p = fun (i j : Nat) => ph i j := ⟨_, rfl⟩
  have HPQ : Hid ((∀ i j : Nat, pg i j = g i j) ∧ ∀ i j : Nat, ph i j = h i j) := ⟨fun i j => by rw [hg], fun i j => by rw [hh]⟩
  rw [← hg, ← hh]
  clear hg hh
  intro c
  induction c with
  | zero =>
    intro l w vo vc hlen hL _ _ _
    obtain ⟨m, hm⟩ : ∃ m, m = l.length := ⟨_, rfl⟩
    have HL : Hid (NumF w vo l.length (fun i => (l.getD i 0 : Int)) ∧ m = l.length) := ⟨hL, hm⟩
    rw [← hm] at hlen ⊢
    have hlen' : M = m := by omega
    subst hlen'
    have k1 : ((M : Int) == (M : Int)) = true := by simp
    clear hL hm hlen
    go_enter Tryd.func14, Tryd.ntmps14
    go_wp2
    refine bodyPost_ret (v := .tuple #[.slice vo M vc, .bool true]) ?_ rfl ⟨?_, Below.refl _ _⟩
    · simp [results, Tryd.results14, go_sem]
    · refine ⟨vo, vc, by rw [← HL.out.2], HL.out.1⟩
  | succ c ih =>
    intro l w vo vc hlen hL hG hH hlN
    obtain ⟨m, hm⟩ : ∃ m, m = l.length := ⟨_, rfl⟩
    have hgr : ∀ i : Nat, i < N → ∃ g b, go = some ⟨g, 0, none⟩ ∧ w.cell? ⟨g, i, none⟩ = some (.slice (some ⟨b, 0, none⟩) N N) ∧ ∀ j : Nat, j < N → w.cell? ⟨b, j, none⟩ = some (.bool (pg i j)) := by
      obtain ⟨ao, cap, e, h⟩ := hG
      cases e
      exact h
    have hhr : ∀ i : Nat, i < M → ∃ g b, ho = some ⟨g, 0, none⟩ ∧ w.cell? ⟨g, i, none⟩ = some (.slice (some ⟨b, 0, none⟩) M M) ∧ ∀ j : Nat, j < M → w.cell? ⟨b, j, none⟩ = some (.bool (ph i j)) := by
      obtain ⟨ao, cap, e, h⟩ := hH
      cases e
      exact h
    obtain ⟨F, hF⟩ : ∃ F : Nat → Option (List Nat), F = fun v => if fitsAt g h l v = true then fitL N g h c (l ++ [v]) else none := ⟨_, rfl⟩
    obtain ⟨R, hR⟩ : ∃ R, R = fitL N g h (c + 1) l := ⟨_, rfl⟩
    have HR : Hid (R = firstSome F N 0 ∧ ∀ v, F v = if fitsAt g h l v = true then fitL N g h c (l ++ [v]) else none) := ⟨by rw [hR, fitL, hF], fun v => by rw [hF]⟩
    have C31 : Hid (∀ (A : World) (x : Nat), Below w.heap.size w A → Calls Tryd.prog 31 #[.slice vo m vc, .int .i64 (x : Int)] A fun e w' => e = .returned (.bool (l.contains x)) ∧ A = w') := fun A x hA => by
      have h := has2_call (vc := vc) (hL.below hA) (by omega) (x : Int)
      rw [inB_mem, ← hm] at h
      exact h.mono fun e w' ⟨h1, h2⟩ => ⟨h1, h2.symm⟩
    have C14 : Hid (∀ (A : World) (x : Nat) po pc, Below w.heap.size w A → x < N → NumF A po (l ++ [x]).length (fun i => ((l ++ [x]).getD i 0 : Int)) → Calls Tryd.prog 14 #[.slice go N gc, .slice ho M hc, .slice po (m + 1) pc] A fun e w' => FirA (fitL N g h c (l ++ [x])) e w' ∧ Below A.heap.size A w') := fun A x po pc hA hx hnum => by
      have h := ih (l ++ [x]) A po pc (by simp; omega) hnum (hG.below hA) (hH.below hA) (fun y hy => by
        rcases List.mem_append.1 hy with h1 | h1
        · exact hlN y h1
        · simp at h1; omega)
      rw [show (l ++ [x]).length = m + 1 by simp [hm]] at h
      exact h
    have HL : Hid (NumF w vo l.length (fun i => (l.getD i 0 : Int)) ∧ m = l.length ∧ (∀ x ∈ l, x < N)) := ⟨hL, hm, hlN⟩
    have HCG : Hid (∀ A, Below w.heap.size w A → (∀ i : Nat, i < N → ∃ g' b, go = some ⟨g', 0, none⟩ ∧ A.cell? ⟨g', i, none⟩ = some (.slice (some ⟨b, 0, none⟩) N N) ∧ ∀ j : Nat, j < N → A.cell? ⟨b, j, none⟩ = some (.bool (g i j))) ∧ (∀ i : Nat, i < M → ∃ g' b, ho = some ⟨g', 0, none⟩ ∧ A.cell? ⟨g', i, none⟩ = some (.slice (some ⟨b, 0, none⟩) M M) ∧ ∀ j : Nat, j < M → A.cell? ⟨b, j, none⟩ = some (.bool (h i j)))) := fun A hA => by
      have k : ∀ {a : Addr} {z : Value}, w.cell? a = some z → A.cell? a = some z := fun h => (hA.cell (World.block_lt_of_cell? w _ h)).trans h
      refine ⟨fun i hi => ?_, fun i hi => ?_⟩
      · obtain ⟨g', b, e, c1, c2⟩ := hgr i hi
        exact ⟨g', b, e, k c1, fun j hj => by rw [← HPQ.out.1]; exact k (c2 j hj)⟩
      · obtain ⟨g', b, e, c1, c2⟩ := hhr i hi
        exact ⟨g', b, e, k c1, fun j hj => by rw [← HPQ.out.2]; exact k (c2 j hj)⟩
    have k1 : ((m : Int) == (M : Int)) = false := by simp; omega
    have hmM : m < M := by omega
    have hm100 : m ≤ 100 := by omega
    rw [← hm, ← hR]
    clear hL hG hH hgr hhr hF hR hm hlN ih hlen
    go_enter Tryd.func14, Tryd.ntmps14
    go_upto_region 5 with (fail)
    go_loopw [9, 10, 11, 12, 13] (fun s9 _ _ _ _ wz => ∃ v : Nat, v ≤ N ∧ s9 = .int .i64 (v : Int) ∧ Hid (R = firstSome F (N - v) v ∧ Below w.heap.size w wz)) (fun s9 _ _ _ _ _ => N - (numOf s9).toNat)
    case atStart => exact ⟨0, Nat.zero_le _, rfl, by rw [HR.out.1]; rfl, Below.refl _ _⟩
    case round =>
      obtain ⟨v, hv, rfl, hJ⟩ := hrel
      by_cases hvN : v < N
      · have i0 : (0 : Int) ≤ (v : Int) := by omega
        have i1 : (v : Int) < (N : Int) := by omega
        have D31 : Hid _ := C31.out wr v hJ.out.2
        obtain ⟨t, ht⟩ : ∃ t, t = l.contains v := ⟨_, rfl⟩
        rw [← ht] at D31
        have HT : Hid (t = l.contains v) := ht
        have HS : Hid (R = orL (F v) (firstSome F (N - (v + 1)) (v + 1))) := by
          show R = _
          rw [hJ.out.1, show N - v = (N - (v + 1)) + 1 by omega, firstSome_or]
        clear ht
        go_upto_region 9 with (first | (go_at_call 31; refine Calls.mono D31.out ?_; rintro e W2 ⟨rfl, rfl⟩) | fail)
        clear D31
        go_loopw [10, 11] (fun s10 s11 wz => ∃ (i : Nat) (o : Bool), i ≤ m ∧ s11 = .int .i64 (i : Int) ∧ s10 = .bool o ∧ Hid (o = okTo g h l v i ∧ Below w.heap.size w wz)) (fun _ s11 _ => m - (numOf s11).toNat)
        case atStart => exact ⟨0, !t, Nat.zero_le _, rfl, rfl, by rw [HT.out]; unfold okTo; simp, hJ.out.2⟩
        case round =>
          obtain ⟨i, o, hi, rfl, rfl, hK⟩ := hrel
          by_cases him : i < m
          · have j0 : (0 : Int) ≤ (i : Int) := by omega
            have j1 : (i : Int) < (m : Int) := by omega
            have j2 : (i : Int) < (M : Int) := by omega
            have j3 : (0 : Int) ≤ (m : Int) := by omega
            have j4 : (m : Int) < (M : Int) := by omega
            have kd : decide ((i : Int) < (m : Int)) = true := by simpa using j1
            have hml := HL.out.2.1
            obtain ⟨b0, off0, hvo, cl⟩ := HL.out.1.below hK.out.2 i (by omega)
            subst hvo
            obtain ⟨x, hx⟩ : ∃ x, x = l.getD i 0 := ⟨_, rfl⟩
            simp only [← hx] at cl
            have hxN : x < N := by
              rw [hx]
              refine HL.out.2.2 _ ?_
              rw [List.getD_eq_getElem?_getD, List.getElem?_eq_getElem (show i < l.length by omega)]
              exact List.getElem_mem _
            obtain ⟨hg1, hh1⟩ := HCG.out _ hK.out.2
            obtain ⟨g1, gb, hgo, cg, cgr⟩ := hg1 v hvN
            obtain ⟨h1, hb, hho, ch, chr⟩ := hh1 m hmM
            subst hgo hho
            have cg2 := cgr x hxN
            have ch2 := chr i (by omega)
            have n0 : (0 : Int) ≤ (x : Int) := by omega
            have n1 : (x : Int) < (N : Int) := by omega
            obtain ⟨B1, hB1⟩ : ∃ B, B = h m i := ⟨_, rfl⟩
            obtain ⟨B2, hB2⟩ : ∃ B, B = g v x := ⟨_, rfl⟩
            rw [← hB1] at ch2
            rw [← hB2] at cg2
            have HO : Hid (okTo g h l v (i + 1) = (o && (!B1 || B2))) := by
              show okTo g h l v (i + 1) = _
              rw [okTo_succ, ← hK.out.1, hB1, hB2, hml, hx]
            have HBk : Hid (Below w.heap.size w wr) := hK.out.2
            clear hml hx hg1 hh1 cgr chr hB1 hB2 hK
            have g0 := cell_growD cl
            have g1' := cell_growD cg
            have g2 := cell_growD cg2
            have g3 := cell_growD ch
            have g4 := cell_growD ch2
            clear cl cg cg2 ch ch2
            go_upto_region 11 with (fail)
            cases o with
            | false =>
              refine wp_region_below (by kernel_rfl) (by kernel_rfl) ?_
              repeat (go_big_quiet_step (fail))
              refine wpQuiet_nil ?_
              rintro _ ⟨gp, rfl⟩
              have HB8 : Hid (Below w.heap.size w (growD wr gp)) := below_next HBk.out (growD_below wr gp)
              clear g0 g1' g2 g3 g4
              generalize growD wr gp = w8 at *
              go_wp2
              go_roundw
              case rel => exact ⟨i + 1, false, by omega, by go_num, rfl, by rw [HO.out]; rfl, HB8.out⟩
              case measure => simp [numOf]; omega
            | true =>
              cases B1 with
              | false =>
                refine wp_region_below (by kernel_rfl) (by kernel_rfl) ?_
                repeat (go_big_quiet_step (fail))
                refine wpQuiet_nil ?_
                rintro _ ⟨gp, rfl⟩
                have HB8 : Hid (Below w.heap.size w (growD wr gp)) := below_next HBk.out (growD_below wr gp)
                clear g0 g1' g2 g3 g4
                generalize growD wr gp = w8 at *
                go_wp2
                go_roundw
                case rel => exact ⟨i + 1, true, by omega, by go_num, rfl, by rw [HO.out]; rfl, HB8.out⟩
                case measure => simp [numOf]; omega
              | true =>
                refine wp_region_below (by kernel_rfl) (by kernel_rfl) ?_
                repeat (go_big_quiet_step (fail))
                refine wpQuiet_nil ?_
                rintro _ ⟨gp, rfl⟩
                have HB8 : Hid (Below w.heap.size w (growD wr gp)) := below_next HBk.out (growD_below wr gp)
                clear g0 g1' g2 g3 g4
                generalize growD wr gp = w8 at *
                go_wp2
                go_roundw
                case rel => exact ⟨i + 1, B2, by omega, by go_num, rfl, by rw [HO.out]; rfl, HB8.out⟩
                case measure => simp [numOf]; omega
          · obtain rfl : i = m := by omega
            have kd : decide ((i : Int) < (i : Int)) = false := by simp
            have HFt : Hid (o = fitsAt g h l v) := by
              show o = _
              rw [hK.out.1]
              unfold okTo fitsAt
              rw [HL.out.2.1]
            cases o with
            | false =>
              have HN : Hid (R = firstSome F (N - (v + 1)) (v + 1)) := by
                have h1 := HS.out
                rw [HR.out.2, if_neg (by rw [← HFt.out]; decide)] at h1
                exact h1
              go_wp2
              go_roundw
              case rel => exact ⟨v + 1, by omega, by go_num, HN.out, hK.out.2⟩
              case measure => simp [numOf]; omega
            | true =>
              have HFv : Hid (F v = fitL N g h c (l ++ [v])) := by
                show F v = _
                rw [HR.out.2, if_pos HFt.out.symm]
              have HW : Hid (Below w.heap.size w wr) := hK.out.2
              obtain ⟨r, hr⟩ : ∃ r, r = fitL N g h c (l ++ [v]) := ⟨_, rfl⟩
              have D14 : Hid (∀ A po pc, Below w.heap.size w A → NumF A po (l ++ [v]).length (fun i => ((l ++ [v]).getD i 0 : Int)) → Calls Tryd.prog 14 #[.slice go N gc, .slice ho M hc, .slice po (i + 1) pc] A fun e w' => FirA r e w' ∧ Below A.heap.size A w') := fun A po pc hA hnum => by
                rw [hr]; exact C14.out A v po pc hA hvN hnum
              have HS2 : Hid (R = orL r (firstSome F (N - (v + 1)) (v + 1))) := by
                have h1 := HS.out
                rw [HFv.out, ← hr] at h1
                exact h1
              clear hr hK HS HFv
              cases r with
              | some l' =>
                go_wp2_with (first
                  | (at_builtin; (have hh := hR1; clear hh); refine wpList_pushH (x := v) HL.out.2.1 rfl _ _ rfl rfl rfl hR1.out.1 (by omega) hR1.out.2.2 ?_; intro g3 c3 W3 h3 h4; have hR2 : Hid _ := h3; have hR3 : Hid (Below w.heap.size w W3) := (below_alloc (below_next HW.out hR1.out.2.1) _).grown h4 (by have := HW.out.size; have := hR1.out.2.2; simp; omega) (fun q hq => Nat.le_trans HW.out.size (hR1.out.1.lt q hq).1); clear h3 h4)
                  | (at_builtin; refine wpList_copyNilH HL.out.2.1 rfl _ _ rfl rfl rfl (HL.out.1.below HW.out) (by have := HL.out.2.1; omega) ?_; intro po pc W2 h1 h2; have hR1 : Hid (W2.ownsRow wr.heap.size 3 1 (.slice po i pc) i (qv l) ∧ Below wr.heap.size wr W2 ∧ wr.heap.size ≤ W2.heap.size) := ⟨h1, h2, h2.size⟩; clear h1 h2)
                  | (go_at_call 14; refine Calls.mono (D14.out _ _ _ hR3.out (num_own hR2.out)) ?_; rintro e W4 ⟨⟨qo, qc, rfl, hnum⟩, h5⟩; have hR4 : Hid (Below w.heap.size w W4 ∧ NumF W4 qo l'.length (fun i => (l'.getD i 0 : Int))) := ⟨below_next hR3.out h5, hnum⟩; clear h5 hnum)
                  | fail)
                refine bodyPost_ret (v := .tuple #[.slice qo l'.length qc, .bool true]) ?_ rfl ⟨?_, hR4.out.1⟩
                · simp [results, Tryd.results14, go_sem]
                · rw [HS2.out]; exact ⟨qo, qc, rfl, hR4.out.2⟩
              | none =>
                go_wp2_with (first
                  | (at_builtin; (have hh := hR1; clear hh); refine wpList_pushH (x := v) HL.out.2.1 rfl _ _ rfl rfl rfl hR1.out.1 (by omega) hR1.out.2.2 ?_; intro g3 c3 W3 h3 h4; have hR2 : Hid _ := h3; have hR3 : Hid (Below w.heap.size w W3) := (below_alloc (below_next HW.out hR1.out.2.1) _).grown h4 (by have := HW.out.size; have := hR1.out.2.2; simp; omega) (fun q hq => Nat.le_trans HW.out.size (hR1.out.1.lt q hq).1); clear h3 h4)
                  | (at_builtin; refine wpList_copyNilH HL.out.2.1 rfl _ _ rfl rfl rfl (HL.out.1.below HW.out) (by have := HL.out.2.1; omega) ?_; intro po pc W2 h1 h2; have hR1 : Hid (W2.ownsRow wr.heap.size 3 1 (.slice po i pc) i (qv l) ∧ Below wr.heap.size wr W2 ∧ wr.heap.size ≤ W2.heap.size) := ⟨h1, h2, h2.size⟩; clear h1 h2)
                  | (go_at_call 14; refine Calls.mono (D14.out _ _ _ hR3.out (num_own hR2.out)) ?_; rintro e W4 ⟨rfl, h5⟩; have hR4 : Hid (Below w.heap.size w W4) := below_next hR3.out h5; clear h5)
                  | fail)
                go_roundw
                case rel => exact ⟨v + 1, by omega, by go_num, HS2.out, hR4.out⟩
                case measure => simp [numOf]; omega
      · obtain rfl : v = N := by omega
        have k2 : decide ((v : Int) < (v : Int)) = false := by simp
        have HN : Hid (R = none) := by show R = none; rw [hJ.out.1, Nat.sub_self]; rfl
        go_wp2
        refine bodyPost_ret (v := .tuple #[.slice none 0 0, .bool false]) ?_ rfl ⟨?_, hJ.out.2⟩
        · simp [results, Tryd.results14, go_sem]
        · rw [HN.out]; rfl
end Go.Proofs.YthjkjanibkpgiaaDoor
