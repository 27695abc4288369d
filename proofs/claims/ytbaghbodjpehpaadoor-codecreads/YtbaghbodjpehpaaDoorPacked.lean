/- The document's Packed: the bytes of a graph. -/
import Derived.Test.YtbaghbodjpehpaaDoorSmalls
import Derived.Deep.Cut
namespace Go.Proofs.YtbaghbodjpehpaaDoor
open Go.RowKit Go.Maps
attribute [local go_sem ↓] Go.wp_at_zero Go.wp_at_succ

theorem Tryd.info5 : (Tryd.prog.info? 5).map (fun i => (i.zero, i.size, i.bytes)) = some (some (.int .u8 0), 1, 1) := by kernel_rfl

abbrev i64s (L : List Int) : List Value := L.map (Value.int .i64)
abbrev u8s (L : List Int) : List Value := L.map (Value.int .u8)

theorem row_below {w w' : World} {base : Nat} {e : TypeId} {sz : Nat} {v : Value} {n : Nat} {xs : List Value} (h : w.ownsRow base e sz v n xs) (hb : Below w.heap.size w w') : w'.ownsRow base e sz v n xs :=
  h.kept (row := none) ⟨hb.os, hb.tape, hb.output, hb.size, fun k hk _ => hb.block k hk⟩ (by cases v.ownBlock <;> simp)

/-- Rows of different kinds lie apart. -/
theorem rows_apart {w : World} {b1 b2 : Nat} {e1 e2 : TypeId} {z1 z2 : Nat} {v1 v2 : Value} {n1 n2 : Nat} {x1 x2 : List Value} (h1 : w.ownsRow b1 e1 z1 v1 n1 x1) (h2 : w.ownsRow b2 e2 z2 v2 n2 x2) (hne : e1 ≠ e2) : v1.ownBlock = none ∨ v1.ownBlock ≠ v2.ownBlock := by
  cases e : v1.ownBlock with
  | none => exact Or.inl rfl
  | some g =>
    refine Or.inr fun e2' => ?_
    obtain ⟨c1, hc1⟩ := row_block h1 g e
    obtain ⟨c2, hc2⟩ := row_block h2 g e2'.symm
    rw [hc1] at hc2
    simp at hc2
    exact hne hc2.2

theorem below_row {W wr w1 : World} {B : Nat} {v : Value} (hb : Below B W wr) (hs : B ≤ wr.heap.size) (o : Obj) (hg : (wr.alloc o).grownBy w1 v.ownBlock) (hn : ∀ k, v.ownBlock = some k → B ≤ k) : Below B W w1 :=
  (hb.alloc hs o).grown hg (by simp; omega) hn

theorem run_convert_row {w : World} {base : Nat} {v : Value} {X : List Int} (h : w.ownsRow base 5 1 v X.length (u8s X)) {src dst : TypeId} (hs : Tryd.prog.underlying src = some (.slice 5)) (he : Tryd.prog.underlying 5 = some (.int .u8)) (hd : Tryd.prog.underlying dst = some .string) :
    (convert src dst v).run Tryd.prog w = .ok (.string (strOfNums X)) w := by
  rcases h.2 with ⟨rfl, e⟩ | ⟨g, cap, cur, rfl, hx⟩
  · rw [run_convert_bytes_nil w src 5 hs he 0 0 dst hd]
    have : X = [] := List.length_eq_zero_iff.1 e
    subst this
    rfl
  · refine run_convert_bytes_arg w src 5 hs he g 0 X.length cap X rfl (fun i hi => ?_) dst hd
    have := h.cellAt i (by omega)
    rw [Nat.zero_add, this, List.getElem?_map, List.getElem?_eq_getElem hi]
    simp [List.getD_eq_getElem?_getD, List.getElem?_eq_getElem hi]

def slen : Value → Nat
  | .slice _ n _ => n
  | _ => 0

set_option maxRecDepth 100000 in
set_option maxHeartbeats 8000000 in
theorem packed_any (m : Nat) (v : Value) (es : List Pair) (w : World) (hE : EdgesAt w v es) (hm : m ≤ 100) (hl : es.length ≤ 1000) (hgood : ∀ e ∈ es, (0 ≤ e.1 ∧ e.1 < m ∧ 0 ≤ e.2 ∧ e.2 < m) ∧ e.1 ≠ e.2) :
    Calls Tryd.prog 11 #[.agg #[.int .i64 m, v]] w fun e w' => e = .returned (.string (strOfNums (packB m (hasB es)))) ∧ Below w.heap.size w w' := by
  obtain ⟨i0, hi, hz0, hz1, hz2⟩ := info_parts Tryd.info3
  obtain ⟨i1, hi1, hy0, hy1, hy2⟩ := info_parts Tryd.info5
  have HE : Hid _ := hE
  have HG : Hid _ := hgood
  clear hgood hE
  go_enter Tryd.func11, Tryd.ntmps11
  go_upto_if 14 with fail
  go_cut [3] from 15 (fun s3 wc => Two wc w.heap.size (.int .i64 m) v 24 ∧ wc.ownsRow (w.heap.size + 1) 5 1 s3 (headB m).length (u8s (headB m)) ∧ Below w.heap.size w wc)
  case first =>
    by_cases h62 : m ≤ 62
    · have h63 : (m : Int) ≤ 62 := by omega
      go_wp2
      go_meet
      case rel =>
        refine ⟨two_alloc (two_new w _ _ _) _, ?_, below2 _ _⟩
        have := World.ownsRow_lit (base := w.heap.size + 1) (e := 5) (size := 1) (w.alloc (Obj.cells #[.int .i64 m, v] 24)) #[.int .u8 (63 + m)] 1 (by simp) (by decide) rfl
        simpa [headB, h62] using this
    · have h63 : ¬ (m : Int) ≤ 62 := by omega
      go_wp2
      go_meet
      case rel =>
        refine ⟨two_alloc (two_new w _ _ _) _, ?_, below2 _ _⟩
        have := World.ownsRow_lit (base := w.heap.size + 1) (e := 5) (size := 1) (w.alloc (Obj.cells #[.int .i64 m, v] 24)) #[.int .u8 126, .int .u8 (63 + m / 4096), .int .u8 (63 + m / 64 % 64), .int .u8 (63 + m % 64)] 4 (by simp) (by decide) rfl
        simpa [headB, h62] using this
  case rest =>
    obtain ⟨tg, hown1, hB⟩ := hcut
    obtain ⟨oo, oc, rfl⟩ := form_row hown1
    obtain ⟨k0, k1⟩ := cell_two tg
    go_upto_region 7 with (go_at_call 23; refine (gridOf_any m _ es _ (EdgesAt.below HE.out hB) hm hl HG.out).mono ?_; rintro e w1 ⟨hb1, to, tc, rfl, hG⟩)
    have tg1 := two_next tg hb1
    have hown2 := row_below hown1 hb1
    have hB1 := below_next hB hb1
    have HG1 : Hid _ := hG
    have HO : Hid _ := hown2
    clear hown1 hown2 k0 k1 tg hG
    generalize hp : hasB es = p at HG1 ⊢
    have HP : Hid _ := hp
    clear hp
    go_wp2
    go_loopw [5, 6] (fun s5 s6 wr => ∃ j : Nat, j ≤ m ∧ s6 = .int .i64 j ∧ Below w1.heap.size w1 wr ∧ wr.ownsRow w1.heap.size 3 1 s5 (colsTo p j).length (i64s (colsTo p j))) (fun _ i _ => m - (intOf i).toNat)
    case atStart => exact ⟨0, Nat.zero_le _, rfl, Below.refl _ _, World.ownsRow_nil _ _ _ _⟩
    case round =>
      obtain ⟨j, hj, rfl, hbr, hownr⟩ := hrel
      obtain ⟨bo, bc, rfl⟩ := form_row hownr
      obtain ⟨r0, r1⟩ := cell_two (two_next tg1 hbr)
      by_cases hlt : j < m
      · go_wp2
        go_loopw [5, 7] (fun s5 s7 wr => ∃ i : Nat, i ≤ j ∧ s7 = .int .i64 i ∧ Below w1.heap.size w1 wr ∧ wr.ownsRow w1.heap.size 3 1 s5 (colsTo p j ++ colTo p j i).length (i64s (colsTo p j ++ colTo p j i))) (fun _ i _ => j - (intOf i).toNat)
        case atStart => exact ⟨0, Nat.zero_le _, rfl, hbr, by simpa [colTo] using hownr⟩
        case round =>
          obtain ⟨i, hi', rfl, hbq, hownq⟩ := hrel
          clear hownr
          obtain ⟨bo', bc', rfl⟩ := form_row hownq
          by_cases hlt2 : i < j
          · obtain ⟨ao', cap', e, hgrid⟩ := HG1.out
            cases e
            obtain ⟨g, b, rfl, c0, c1⟩ := hgrid i (by omega)
            have c2 := c1 j hlt
            clear c1 hgrid
            rw [← hbq.cell (by exact World.block_lt_of_cell? w1 _ c0)] at c0
            rw [← hbq.cell (by exact World.block_lt_of_cell? w1 _ c2)] at c2
            have hll : (colsTo p j ++ colTo p j i).length ≤ 5100 := by
              rw [List.length_append, colsTo_len, colTo_len]
              have := prs_le100 j (by omega)
              omega
            obtain ⟨L, hL⟩ : ∃ L, L = colsTo p j ++ colTo p j i := ⟨_, rfl⟩
            rw [← hL] at hownq hll ⊢
            have hLs : colsTo p j ++ colTo p j (i + 1) = L ++ [b2i (p i j)] := by rw [colTo_succ, ← List.append_assoc, ← hL]
            have HL : Hid _ := hLs
            clear hLs hL
            have hn : ∀ k, Value.ownBlock (.slice bo' L.length bc') = some k → w1.heap.size ≤ k := fun k hk => (hownq.lt k hk).1
            have hz := hbq.size
            cases hpb : p i j
            · have hbi : b2i (p i j) = 0 := by rw [hpb]; rfl
              rw [hpb] at c2
              go_wp2_with (at_builtin; refine wpList_append_own _ rfl _ _ 47 rfl w1.heap.size 3 i0 (.int .i64 0) 1 8 Tryd.underlying47 hi hz0 hz1 hz2 rfl (by decide) _ _ _ rfl (hownq.alloc _) ⟨wr.heap.size, 0, none⟩ 1 1 [.int .i64 0] rfl rfl ?n1 ?n2 ?n3 ?n4 ?n5 ?_)
              case n1 =>
                intro j x hj
                match j, hj with
                | 0, hj => simp at hj; subst hj; simp [Addr.add]
              case n2 => first | rfl | (intro x hx; simp at hx; subst hx; rfl)
              case n3 => unfold maxLen; omega
              case n4 => omega
              case n5 => simp; omega
              intro v' w3 hown' hgrow _
              obtain ⟨vo', vc', rfl⟩ := form_row hown'
              have hb3 := below_row hbq hz _ hgrow hn
              go_wp2
              go_roundw
              case rel => exact ⟨i + 1, by omega, by go_num, hb3, by rw [HL.out, hbi]; simpa using hown'⟩
              case measure => simp [intOf]; omega
            · have hbi : b2i (p i j) = 1 := by rw [hpb]; rfl
              rw [hpb] at c2
              go_wp2_with (at_builtin; refine wpList_append_own _ rfl _ _ 47 rfl w1.heap.size 3 i0 (.int .i64 0) 1 8 Tryd.underlying47 hi hz0 hz1 hz2 rfl (by decide) _ _ _ rfl (hownq.alloc _) ⟨wr.heap.size, 0, none⟩ 1 1 [.int .i64 1] rfl rfl ?n1 ?n2 ?n3 ?n4 ?n5 ?_)
              case n1 =>
                intro j x hj
                match j, hj with
                | 0, hj => simp at hj; subst hj; simp [Addr.add]
              case n2 => first | rfl | (intro x hx; simp at hx; subst hx; rfl)
              case n3 => unfold maxLen; omega
              case n4 => omega
              case n5 => simp; omega
              intro v' w3 hown' hgrow _
              obtain ⟨vo', vc', rfl⟩ := form_row hown'
              have hb3 := below_row hbq hz _ hgrow hn
              go_wp2
              go_roundw
              case rel => exact ⟨i + 1, by omega, by go_num, hb3, by rw [HL.out, hbi]; simpa using hown'⟩
              case measure => simp [intOf]; omega
          · have : i = j := by omega
            subst this
            go_wp2
            go_roundw
            case rel => exact ⟨i + 1, by omega, by go_num, hbq, by rw [colsTo_succ]; exact hownq⟩
            case measure => simp [intOf]; omega
      · have : j = m := by omega
        subst this
        go_wp2
        have hcl := colsTo_len p j
        have hpl := prs_le100 j hm
        have h01 := colsTo_01 p j
        obtain ⟨N, hN⟩ : ∃ N, N = nby j := ⟨_, rfl⟩
        have hN1 : prs j ≤ 6 * N ∧ 6 * N ≤ prs j + 5 := by rw [hN]; unfold nby; omega
        rw [hcl] at hownr ⊢
        generalize hLe : colsTo p j = L at hownr hcl h01
        generalize hPe : prs j = P at hownr hcl hpl hN1 ⊢
        have H01 : Hid _ := h01
        have HLe : Hid _ := hLe
        have HN : Hid _ := hN
        have HPe : Hid _ := hPe
        have HCL : Hid _ := hcl
        clear h01 hLe hN hPe tg1 r0 r1 hcl
        go_loopw [5] (fun s5 wr => ∃ n : Nat, P ≤ n ∧ n ≤ 6 * N ∧ Below w1.heap.size w1 wr ∧ wr.ownsRow w1.heap.size 3 1 s5 n (i64s (padTo L n))) (fun s _ => 6 * N - slen s)
        case atStart => exact ⟨P, Nat.le_refl _, hN1.1, hbr, by have h := padTo_self L; rw [HCL.out] at h; rw [h]; exact hownr⟩
        case round =>
          obtain ⟨n, hn1, hn2, hbq, hownq⟩ := hrel
          clear hownr
          obtain ⟨bo', bc', rfl⟩ := form_row hownq
          have hn : ∀ k, Value.ownBlock (.slice bo' n bc') = some k → w1.heap.size ≤ k := fun k hk => (hownq.lt k hk).1
          have hz := hbq.size
          by_cases h6 : n % 6 = 0
          · have hb6 : ((n : Int) % 6 != 0) = false := by simp; omega
            have hnN : n = 6 * N := by omega
            subst hnN
            go_wp2
            have hO2 := row_below HO.out hbq
            have hB2 := below_next hB1 hbq
            have hzz := hB1.size
            go_loopw [3, 9] (fun s3 s9 wx => ∃ k : Nat, k ≤ N ∧ s9 = .int .i64 (6 * k : Nat) ∧ Below w.heap.size w wx ∧ wx.ownsRow (w.heap.size + 1) 5 1 s3 (headB j ++ sixes L k).length (u8s (headB j ++ sixes L k)) ∧ wx.ownsRow w1.heap.size 3 1 (.slice bo' (6 * N) bc') (6 * N) (i64s (padTo L (6 * N)))) (fun _ i _ => 6 * N - (intOf i).toNat)
            case atStart => exact ⟨0, Nat.zero_le _, rfl, hB2, by simpa [sixes] using hO2, hownq⟩
            case round =>
              obtain ⟨k, hk, rfl, hbx, hox, hoy⟩ := hrel
              obtain ⟨xo, xc, rfl⟩ := form_row hox
              clear hownq hO2
              by_cases hlt : k < N
              · obtain ⟨gb, rfl⟩ : ∃ gb, bo' = some ⟨gb, 0, none⟩ := by
                  rcases hoy.2 with ⟨_, h⟩ | ⟨g, cap, cur, h, _⟩
                  · exact absurd h (by omega)
                  · simp at h; exact ⟨g, h.1⟩
                have hcell : ∀ t, t < 6 → wr.cell? ⟨gb, 6 * k + t, none⟩ = some (.int .i64 (L.getD (6 * k + t) 0)) := fun t ht => by
                  rw [hoy.cellAt (6 * k + t) (by omega)]
                  have hlen := padTo_len L (6 * N) (by rw [HCL.out]; exact hN1.1)
                  rw [List.getElem?_map, List.getElem?_eq_getElem (by omega), ← padTo_getD L (6 * N)]
                  simp [List.getD_eq_getElem?_getD, List.getElem?_eq_getElem (show 6 * k + t < (padTo L (6 * N)).length by omega)]
                have HC : Hid _ := hcell
                clear hcell
                go_wp2
                go_loop [10, 11] (fun s10 s11 => ∃ t : Nat, t ≤ 6 ∧ s11 = .int .i64 t ∧ s10 = .int .i64 (hv L (6 * k) t)) (fun _ i => 6 - (intOf i).toNat)
                case atStart => exact ⟨0, Nat.zero_le _, rfl, rfl⟩
                case round =>
                  obtain ⟨t, ht, rfl, rfl⟩ := hrel
                  have hbd := hv_bd L H01.out (6 * k) t
                  have h64 : (2 : Int) ^ t ≤ 64 := by
                    match t, ht with
                    | 0, _ => decide
                    | 1, _ => decide
                    | 2, _ => decide
                    | 3, _ => decide
                    | 4, _ => decide
                    | 5, _ => decide
                    | 6, _ => decide
                  obtain ⟨hb0, hb1'⟩ := hbd
                  have hb2 : hv L (6 * k) t ≤ 63 := by omega
                  have HH : Hid _ := h64
                  clear h64 hb1'
                  by_cases hlt3 : t < 6
                  · have cx := HC.out t hlt3
                    have hx01 : L.getD (6 * k + t) 0 = 0 ∨ L.getD (6 * k + t) 0 = 1 := by
                      rw [List.getD_eq_getElem?_getD]
                      cases e : L[6 * k + t]? with
                      | none => simp
                      | some y => simpa using H01.out y (List.mem_of_getElem? e)
                    have hvs : hv L (6 * k) (t + 1) = 2 * hv L (6 * k) t + L.getD (6 * k + t) 0 := rfl
                    have HV : Hid _ := hvs
                    clear hvs
                    generalize L.getD (6 * k + t) 0 = x at cx hx01 HV
                    generalize hv L (6 * k) t = y at hb0 hb2 HV ⊢
                    have hx0 : 0 ≤ x := by omega
                    have hx1 : x ≤ 1 := by omega
                    clear hx01
                    go_wp2
                    go_round
                    case rel => exact ⟨t + 1, by omega, by go_num, by rw [HV.out]⟩
                    case measure => simp [intOf]; omega
                  · have : t = 6 := by omega
                    subst this
                    have hss : headB j ++ sixes L (k + 1) = (headB j ++ sixes L k) ++ [63 + hv L (6 * k) 6] := by rw [sixes_succ, List.append_assoc]
                    have HSS : Hid _ := hss
                    clear hss
                    have hlx : (headB j ++ sixes L k).length ≤ 1000 := by
                      rw [List.length_append, sixes_len]
                      unfold headB
                      split <;> simp <;> omega
                    generalize headB j ++ sixes L k = X at hox HSS hlx ⊢
                    generalize hv L (6 * k) 6 = y at hb0 hb2 HSS ⊢
                    go_wp2_with (at_builtin; refine wpList_append_own _ rfl _ _ 43 rfl (w.heap.size + 1) 5 i1 (.int .u8 0) 1 1 Tryd.underlying43 hi1 hy0 hy1 hy2 rfl (by decide) _ _ _ rfl (hox.alloc _) ⟨wr.heap.size, 0, none⟩ 1 1 [.int .u8 (63 + y)] rfl rfl ?n1 ?n2 ?n3 ?n4 ?n5 ?_)
                    case n2 => first | rfl | (intro x hx; simp at hx; subst hx; rfl)
                    case n3 => unfold maxLen; omega
                    case n4 => omega
                    case n5 => have := hbx.size; simp; omega
                    intro v' w3 hown' hgrow _
                    obtain ⟨vo', vc', rfl⟩ := form_row hown'
                    have hb3 := below_row hbx hbx.size _ hgrow (fun q hq => by have := (hox.lt q hq).1; omega)
                    have hoz := (hoy.alloc _).kept hgrow (rows_apart (hoy.alloc (Obj.cells #[.int .u8 (63 + y)] 5)) (hox.alloc _) (by decide))
                    go_wp2
                    go_roundw
                    case rel => exact ⟨k + 1, by omega, by go_num, hb3, by rw [HSS.out]; simpa using hown', hoz⟩
                    case measure => simp [intOf]; omega
              · have : k = N := by omega
                subst this
                have hpk : headB j ++ sixes L k = packB j p := by unfold packB; rw [HLe.out, ← HN.out]
                have hpk2 : headB j ++ sixes L k = packB j (hasB es) := by rw [HP.out]; exact hpk
                have HPK : Hid _ := hpk2
                clear hpk hpk2
                generalize headB j ++ sixes L k = X at hox HPK ⊢
                have hcv := run_convert_row hox Tryd.underlying43 Tryd.underlying5 Tryd.underlying9
                go_wp2
                go_ret
                exact ⟨by rw [HPK.out]; rfl, hbx⟩
          · have hb6 : ((n : Int) % 6 != 0) = true := by simp; omega
            go_wp2_with (at_builtin; refine wpList_append_own _ rfl _ _ 47 rfl w1.heap.size 3 i0 (.int .i64 0) 1 8 Tryd.underlying47 hi hz0 hz1 hz2 rfl (by decide) _ _ _ rfl (hownq.alloc _) ⟨wr.heap.size, 0, none⟩ 1 1 [.int .i64 0] rfl rfl ?q1 ?q2 ?q3 ?q4 ?q5 ?_)
            case q1 =>
              intro j x hj
              match j, hj with
              | 0, hj => simp at hj; subst hj; simp [Addr.add]
            case q2 => first | rfl | (intro x hx; simp at hx; subst hx; rfl)
            case q3 => unfold maxLen; omega
            case q4 => omega
            case q5 => simp; omega
            intro v' w3 hown' hgrow _
            obtain ⟨vo', vc', rfl⟩ := form_row hown'
            have hb3 := below_row hbq hz _ hgrow hn
            go_wp2
            go_roundw
            case rel => exact ⟨n + 1, by omega, by omega, hb3, by rw [padTo_succ L n (by rw [HCL.out]; exact hn1)]; simpa using hown'⟩
            case measure => simp [slen]; omega
end Go.Proofs.YtbaghbodjpehpaaDoor
