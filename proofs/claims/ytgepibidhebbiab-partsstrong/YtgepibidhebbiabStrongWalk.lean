/- The walk of PartsStrong: it answers true, and what was there stays. -/
import Derived.Test.YtgepibidhebbiabRefLeads
import Derived.Test.YtgepibidhebbiabStrong
namespace Go.Proofs.Ytgepibidhebbiab
open Go.RowKit Go.Maps
attribute [local go_sem ↓] Go.wp_at_zero Go.wp_at_succ

theorem run_copy0 (w : World) (ao : Option Addr) (cap : Nat) (ty : TypeId) : (Builtin.append_ #[22, 22] ty #[.slice none 0 0, .slice ao 0 cap]).run Try.prog w = .ok (.slice none 0 0) w := by
  cases ao with
  | none => simp [Builtin.append_, go_sem]
  | some a => simp [Builtin.append_, go_sem]
theorem run_copy {w : World} {ao : Option Addr} {cap : Nat} {es : List Pair} (hE : EdgesAt w (.slice ao es.length cap) es) (ty : TypeId) :
    ∃ oo oc w1, (Builtin.append_ #[22, 22] ty #[.slice none 0 0, .slice ao es.length cap]).run Try.prog w = .ok (.slice oo es.length oc) w1 ∧ EdgesAt w1 (.slice oo es.length oc) es ∧ Below w.heap.size w w1 := by
  obtain ⟨i0, hi, hz0, hz1, hz2⟩ := info_parts Try.info63
  cases es with
  | nil => exact ⟨none, 0, w, run_copy0 w ao cap ty, edgesAt_nil _, Below.refl _ _⟩
  | cons e r =>
    cases ao with
    | none =>
      obtain ⟨ao', cap', e', _, _, h⟩ := hE
      cases e'
      obtain ⟨b, off, h', _⟩ := h 0 (by simp)
      cases h'
    | some ad =>
      have hlen : (e :: r).length ≤ 8796093022208 := by obtain ⟨_, _, _, h, _⟩ := hE; exact h
      have hI : ∀ x ∈ e :: r, I64 x.1 ∧ I64 x.2 := by obtain ⟨_, _, _, _, h, _⟩ := hE; exact h
      obtain ⟨g, c, w', hr, hown, hg, _, _⟩ := run_append_lies (P := Try.prog) w 22 ty w.heap.size 63 i0 _ 2 16 Try.underlying22 hi hz0 hz1 hz2 rfl (by omega) (.slice none 0 0) 0 [] (World.ownsRow_nil _ _ _ _) ad (e :: r).length cap (flat (e :: r)) (flat_length _) (edges_news hE) (flat_one _) (by simp) (by unfold maxLen; omega) (by omega) (Nat.le_refl _) w.heap.size rfl
      refine ⟨some ⟨g, 0, none⟩, c, w', by simpa using hr, ?_, below_grown hg⟩
      exact edgesAt_row (base := w.heap.size) (L := e :: r) (by simpa using hown) hI hlen
theorem wpList_copy {w w1 : World} {ops : Array Oper} {rest : List Oper} {o : Oper} {a : Act} {Q : Exit → Act → World → Prop} {ao : Option Addr} {n cap : Nat} {v : Value} (hgd : o.guard = none) (s x : Operand)
    (ho : o.op = .call { callee := .builtin .append, args := #[s, x], argTypes := #[22, 22] }) (hs : a.eval s = .slice none 0 0) (hx : a.eval x = .slice ao n cap)
    (hr : (Builtin.append_ #[22, 22] o.type #[.slice none 0 0, .slice ao n cap]).run Try.prog w = .ok v w1) (h : wpList Try.prog ops Q rest (a.put o.dst v) w1) : wpList Try.prog ops Q (o :: rest) a w :=
  wpList_plain hgd fun _ hK => by
    unfold Oper.wp execOp
    simp only [ho, resolve, invoke, builtin, Sem.run_bind, Sem.run_pure, Result.andThen_ok, List.map_toArray, List.map_cons, List.map_nil, hs, hx, hr]
    exact hK _ _ h

/-- One number more at a row's end. -/
theorem wpList_push {W : World} {ops : Array Oper} {rest : List Oper} {o : Oper} {a : Act} {Q : Exit → Act → World → Prop} {base : Nat} {po : Option Addr} {pc : Nat} {l : List Nat} {x : Nat} (hgd : o.guard = none) (s y : Operand)
    (ho : o.op = .call { callee := .builtin .append, args := #[s, y], argTypes := #[34, 34] }) (hs : a.eval s = .slice po l.length pc) (hy : a.eval y = .slice (some ⟨W.heap.size, 0, none⟩) 1 1)
    (hown : W.ownsRow base 3 1 (.slice po l.length pc) l.length (qv l)) (hl : l.length ≤ 1000000) (hbase : base ≤ W.heap.size)
    (h : ∀ v' w', w'.ownsRow base 3 1 v' (l ++ [x]).length (qv (l ++ [x])) → (W.alloc (Obj.cells #[.int .i64 (x : Int)] 3)).grownBy w' (Value.slice po l.length pc).ownBlock → wpList Try.prog ops Q rest (a.put o.dst v') w') :
    wpList Try.prog ops Q (o :: rest) a (W.alloc (Obj.cells #[.int .i64 (x : Int)] 3)) := by
  obtain ⟨i3, hi3, hy0, hy1, hy2⟩ := info_parts Try.info3
  refine wpList_append_own _ hgd s y 34 ho base 3 i3 (.int .i64 0) 1 8 Try.underlying34 hi3 hy0 hy1 hy2 rfl (by decide) _ _ _ hs (hown.alloc _) ⟨W.heap.size, 0, none⟩ 1 1 [.int .i64 (x : Int)] hy rfl ?_ ?_ ?_ ?_ ?_ ?_
  · exact cell_one_new _ _ _
  · first | rfl | (intro y hy; simp at hy; subst hy; rfl)
  · unfold maxLen; omega
  · omega
  · simp; omega
  · intro v' w' h1 h2 _
    exact h v' w' (by simpa [qv] using h1) h2

def okTo (L : Nat → Bool) (R : Nat → Nat → Bool) (v u : Nat) : Bool := L v && (List.range u).all fun x => !L x || !R x v || R v x
theorem okTo_zero (L : Nat → Bool) (R : Nat → Nat → Bool) (v : Nat) : okTo L R v 0 = L v := by simp [okTo]
theorem okTo_succ (L : Nat → Bool) (R : Nat → Nat → Bool) (v u : Nat) : okTo L R v (u + 1) = (okTo L R v u && (!L u || !R u v || R v u)) := by
  unfold okTo
  rw [List.range_succ, List.all_append, Bool.and_assoc]
  simp
theorem okTo_heads {L : Nat → Bool} {R : Nat → Nat → Bool} {v N : Nat} : okTo L R v N = true ↔ Heads R N L v := by
  unfold okTo Heads
  simp only [Bool.and_eq_true, List.all_eq_true, List.mem_range, Bool.or_eq_true, Bool.not_eq_true']
  constructor
  · rintro ⟨h1, h2⟩
    refine ⟨h1, fun u hu hL hR => ?_⟩
    rcases h2 u hu with (h | h) | h
    · rw [hL] at h; cases h
    · rw [hR] at h; cases h
    · exact h
  · rintro ⟨h1, h2⟩
    refine ⟨h1, fun u hu => ?_⟩
    cases hL : L u
    · simp
    · cases hR : R u v
      · simp
      · simp [h2 u hu hL hR]

set_option maxRecDepth 20000 in
set_option maxHeartbeats 4000000 in
theorem strongLaw_bad (n : Int) (ao : Option Addr) (cap : Nat) (es : List Pair) (w : World) (hE : EdgesAt w (.slice ao es.length cap) es) {c d : Int} (hA : ArcsAre n es c d) (hc : c ≠ 0) :
    Calls Try.prog 6 #[.int .i64 n, .slice ao es.length cap] w fun e w' => e = .returned (.bool true) ∧ Below w.heap.size w w' := by
  have hS : ∀ (w' : World) (o : Option Addr) (k : Nat), EdgesAt w' (.slice o es.length k) es → Calls Try.prog 28 #[.int .i64 n, .slice o es.length k] w' fun r w'' => r = .returned (.tuple #[.slice none 0 0, .agg #[.int .i64 c, .int .i64 d]]) ∧ Below w'.heap.size w' w'' := by
    intro w' o k h
    rcases hA with ⟨h1, rfl, rfl⟩ | ⟨⟨h1, h2, h3⟩, ⟨K, e, h4, h5, h6, rfl, rfl⟩ | ⟨_, h4, _⟩⟩
    · exact strong_many n o es.length k w' h1
    · exact strong_range n o k es w' h h1 h2 h3 h4 h5 h6
    · exact absurd h4 hc
  have hc1 : (c != 0) = true := by simpa using hc
  have HS : Hid _ := hS
  have HA : Hid _ := hA
  have HE : Hid _ := hE
  clear hS hA hc
  obtain ⟨oo, oc, w1, hrun, hEo, hb1⟩ := run_copy (HE.out) 22
  have HRN : Hid _ := hrun
  clear hrun
  go_enter Try.func6, Try.ntmps6
  go_upto_region 3 with (first | (at_builtin; refine wpList_copy rfl _ _ rfl rfl rfl HRN.out ?_) | go_at_call 27; refine (refArcs_call n ao cap es _ (EdgesAt.below HE.out hb1) HA.out).mono ?_; rintro e w2 ⟨rfl, hb⟩)
  have tw := two_new w2 (.int .i64 c) (.int .i64 d) 27
  have hB := below_on hb1 hb (Obj.cells #[.int .i64 c, .int .i64 d] 27)
  replace hEo := hEo.on hb (Obj.cells #[.int .i64 c, .int .i64 d] 27)
  generalize w2.alloc (Obj.cells #[.int .i64 c, .int .i64 d] 27) = W2 at tw hB hEo ⊢
  clear hb HRN hb1
  go_upto_region 4 with (go_at_call 28; refine (HS.out _ _ _ hEo).mono ?_; rintro e w3 ⟨rfl, hb⟩)
  replace tw := two_on tw hb (Obj.cells #[.int .i64 c, .int .i64 d] 27)
  have tf := two_new w3 (.int .i64 c) (.int .i64 d) 27
  replace hB := below_on hB hb (Obj.cells #[.int .i64 c, .int .i64 d] 27)
  replace hEo := hEo.on hb (Obj.cells #[.int .i64 c, .int .i64 d] 27)
  generalize w3.alloc (Obj.cells #[.int .i64 c, .int .i64 d] 27) = W3 at tw tf hB hEo ⊢
  clear hb
  have hne := neq27 c d
  obtain ⟨z1, z2⟩ := cell_two tw
  go_wp2_with (first
    | (go_at_call 13; refine (begun_true _).mono ?_; rintro e w6 ⟨rfl, hb6⟩; replace tw := two_next tw hb6; replace tf := two_next tf hb6; replace hB := below_next hB hb6; replace hEo := hEo.below hb6; obtain ⟨a5, a6⟩ := cell_two tw; obtain ⟨a7, a8⟩ := cell_two tf)
    | (go_at_call 18; refine (pairs_true _ _ es _ hEo (EdgesAt.below HE.out hB)).mono ?_; rintro e w7 ⟨rfl, hb7⟩; obtain ⟨d5, d6⟩ := cell_two (two_next tw hb7)))
  go_ret
  exact ⟨rfl, below_next hB hb7⟩

theorem mutTo_mem {R : Nat → Nat → Bool} {v k x : Nat} : x ∈ mutTo R v k ↔ x < k ∧ R x v = true ∧ R v x = true := by
  unfold mutTo
  simp
theorem RowB.congr' {w : World} {b m : Nat} {q q' : Nat → Bool} (h : RowB w b m q) (he : ∀ j, j < m → q j = q' j) : RowB w b m q' := by
  obtain ⟨cur, h1, h2, h3⟩ := h
  exact ⟨cur, h1, h2, fun j hj => by rw [h3 j hj, he j hj]⟩

set_option maxRecDepth 20000 in
set_option maxHeartbeats 8000000 in
theorem strongLaw_good (n : Nat) (ao : Option Addr) (cap : Nat) (es : List Pair) (w : World) (hE : EdgesAt w (.slice ao es.length cap) es) (hn : n ≤ 100) (hl : es.length ≤ 1000) (hgood : ∀ e ∈ es, ArcIn n e) :
    Calls Try.prog 6 #[.int .i64 (n : Int), .slice ao es.length cap] w fun e w' => e = .returned (.bool true) ∧ Below w.heap.size w w' := by
  obtain ⟨R, hR⟩ := ex2 (fun v x => Star (St n (arcB es) allB) v x)
  obtain ⟨i4, hi4, hz0, hz1, hz2⟩ := info_parts Try.info4
  have hA : ArcsAre (n : Int) es 0 0 := Or.inr ⟨⟨by omega, by omega, hl⟩, Or.inr ⟨hgood, rfl, rfl⟩⟩
  have HA : Hid _ := hA
  have HE : Hid _ := hE
  have HG : Hid _ := hgood
  have HR : Hid _ := hR
  clear hA hE hgood hR
  obtain ⟨oo, oc, w1, hrun, hEo, hb1⟩ := run_copy (HE.out) 22
  have HRN : Hid _ := hrun
  clear hrun
  go_enter Try.func6, Try.ntmps6
  go_upto_region 3 with (first | (at_builtin; refine wpList_copy rfl _ _ rfl rfl rfl HRN.out ?_) | go_at_call 27; refine (refArcs_call n ao cap es _ (EdgesAt.below HE.out hb1) HA.out).mono ?_; rintro e w2 ⟨rfl, hb⟩)
  have tw := two_new w2 (.int .i64 0) (.int .i64 0) 27
  have hB := below_on hb1 hb (Obj.cells #[.int .i64 0, .int .i64 0] 27)
  replace hEo := hEo.on hb (Obj.cells #[.int .i64 0, .int .i64 0] 27)
  generalize w2.alloc (Obj.cells #[.int .i64 0, .int .i64 0] 27) = W2 at tw hB hEo ⊢
  clear hb HRN hb1
  go_upto_region 4 with (go_at_call 28; refine (strong_good n _ _ es _ hEo hn hl HG.out HR.out).mono ?_; rintro e w3 ⟨sv, ls, L', rfl, hls, hst, hend, hlsn, hb⟩; obtain ⟨so, sc, rfl⟩ := hls.form)
  replace tw := two_on tw hb (Obj.cells #[.int .i64 0, .int .i64 0] 27)
  have tf := two_new w3 (.int .i64 0) (.int .i64 0) 27
  replace hB := below_on hB hb (Obj.cells #[.int .i64 0, .int .i64 0] 27)
  replace hEo := hEo.on hb (Obj.cells #[.int .i64 0, .int .i64 0] 27)
  replace hls := lists_al hls (Obj.cells #[.int .i64 0, .int .i64 0] 27)
  generalize w3.alloc (Obj.cells #[.int .i64 0, .int .i64 0] 27) = W3 at tw tf hB hEo hls ⊢
  have HST : Hid _ := hst
  have HEND : Hid _ := hend
  clear hb hst hend
  have hne := neq27 0 0
  obtain ⟨z1, z2⟩ := cell_two tw
  have hnn : (n : Int) ≤ 100 := by omega
  by_cases h40 : 40 < n
  · have h41 : (40 : Int) < (n : Int) := by omega
    go_wp2_with (first
      | (go_at_call 13; refine (begun_true _).mono ?_; rintro e w6 ⟨rfl, hb6⟩; replace tw := two_next tw hb6; replace tf := two_next tf hb6; replace hB := below_next hB hb6; replace hEo := hEo.below hb6; obtain ⟨a5, a6⟩ := cell_two tw; obtain ⟨a7, a8⟩ := cell_two tf)
      | (go_at_call 18; refine (pairs_true _ _ es _ hEo (EdgesAt.below HE.out hB)).mono ?_; rintro e w7 ⟨rfl, hb7⟩; obtain ⟨d5, d6⟩ := cell_two (two_next tw hb7)))
    go_ret
    exact ⟨rfl, below_next hB hb7⟩
  · have h41 : ¬ (40 : Int) < (n : Int) := by omega
    go_upto_region 12 with (first
      | (go_at_call 13; refine (begun_true _).mono ?_; rintro e w6 ⟨rfl, hb6⟩; replace tw := two_next tw hb6; replace tf := two_next tf hb6; replace hB := below_next hB hb6; replace hEo := hEo.below hb6; replace hls := hls.below hb6; obtain ⟨a5, a6⟩ := cell_two tw; obtain ⟨a7, a8⟩ := cell_two tf)
      | (go_at_call 18; refine (pairs_true _ _ es _ hEo (EdgesAt.below HE.out hB)).mono ?_; rintro e w7 ⟨rfl, hb7⟩; replace hB := below_next hB hb7; replace hls := hls.below hb7; obtain ⟨d5, d6⟩ := cell_two (two_next tw hb7))
      | (go_at_call 29; refine (refLeads_call n ao cap es _ (EdgesAt.below HE.out hB) hn hl HG.out HR.out).mono ?_; rintro e Wd ⟨to, tc, rfl, hgrid, hb8⟩; replace hB := below_next hB hb8; replace hls := hls.below hb8)
      | (at_make; refine wpList_make_full _ rfl _ _ 61 rfl Wd.heap.size 4 i4 (.bool false) 1 Try.underlying61 hi4 hz0 hz1 .i64 .i64 _ _ n rfl rfl rfl rfl ?_ ?_ ?_ ?_; (rw [hz2]; omega); (unfold maxLen; omega); (omega); intro W1 hmade hg1)
      | go_in)
    have hrow0 := rowB_made hmade
    have hB1 : Below Wd.heap.size Wd W1 := (Below.refl _ _).grown hg1 (Nat.le_refl _) (fun k hk => by cases hk)
    obtain ⟨to', tc', e0, hcells⟩ := hgrid
    cases e0
    have HGR : Hid _ := hcells
    have HLS : Hid _ := hls
    clear hmade hg1 hcells hls d5 d6 a5 a6 a7 a8 z1 z2 tw tf hb6 hb7 hb8 hEo hne
    go_wp2
    go_loopw [11] (fun i wr => ∃ (k : Nat) (L : Nat → Bool), k ≤ ls.length ∧ i = .int .i64 (k : Int) ∧ RowB wr Wd.heap.size n (fun x => !L x) ∧ StrongTo R n L (ls.drop k) L' ∧ Below Wd.heap.size Wd wr) (fun i _ => ls.length - (numOf i).toNat)
    case atStart => exact ⟨0, allB, Nat.zero_le _, rfl, hrow0.congr' (fun j _ => by simp [allB]), by simpa using HST.out, hB1⟩
    case round =>
      obtain ⟨k, L, hk, rfl, hrow, hst, hBr⟩ := hrel
      clear hrow0 hB1 HST
      by_cases hkl : k < ls.length
      · rw [List.drop_eq_getElem_cons hkl] at hst
        obtain ⟨f, hf, hh, hleast, hlk, hrest⟩ := hst
        have HH : Hid _ := hh
        have HL : Hid _ := hleast
        have HLK : Hid _ := hlk
        have HRS : Hid _ := hrest
        clear hh hleast hlk hrest
        go_wp2
        go_loopw [12, 13] (fun a i wq => wq = wr ∧ ((∃ v : Nat, v ≤ f ∧ a = .int .i64 (-1) ∧ i = .int .i64 (v : Int)) ∨ (a = .int .i64 (f : Int) ∧ i = .int .i64 ((f : Int) + 1)))) (fun _ i _ => n - (numOf i).toNat)
        case atStart => exact ⟨rfl, Or.inl ⟨0, Nat.zero_le _, rfl, rfl⟩⟩
        case round =>
          obtain ⟨rfl, hrel⟩ := hrel
          rcases hrel with ⟨v, hv, rfl, rfl⟩ | ⟨rfl, rfl⟩
          · have hvn : v < n := by omega
            have cv := hrow.cell hvn
            have i1 : (0 : Int) ≤ (v : Int) := by omega
            have i2 : (v : Int) < (n : Int) := by omega
            go_wp2
            clear cv
            go_loopw [14, 15] (fun a i wq => wq = wr ∧ ∃ u : Nat, u ≤ n ∧ a = .bool (okTo L R v u) ∧ i = .int .i64 (u : Int)) (fun _ i _ => n - (numOf i).toNat)
            case atStart => exact ⟨rfl, 0, Nat.zero_le _, by rw [okTo_zero], rfl⟩
            case round =>
              obtain ⟨rfl, u, hu, rfl, rfl⟩ := hrel
              by_cases hun : u < n
              · have cu := hrow.cell hun
                obtain ⟨g, bu, rfl, g0, g1⟩ := HGR.out u hun
                obtain ⟨g', bv, eg, g2, g3⟩ := HGR.out v hvn
                cases eg
                have q1 := g1 v hvn
                have q2 := g3 u hun
                simp only [Int.toNat_natCast] at q1 q2
                have l0 := World.block_lt_of_cell? Wd _ g0
                have l1 := World.block_lt_of_cell? Wd _ q1
                have l2 := World.block_lt_of_cell? Wd _ g2
                have l3 := World.block_lt_of_cell? Wd _ q2
                rw [← hBr.cell (by exact l0)] at g0
                rw [← hBr.cell (by exact l1)] at q1
                rw [← hBr.cell (by exact l2)] at g2
                rw [← hBr.cell (by exact l3)] at q2
                clear g1 g3
                have j1 : (0 : Int) ≤ (u : Int) := by omega
                have j2 : (u : Int) < (n : Int) := by omega
                have hsc := okTo_succ L R v u
                have HSC : Hid _ := hsc
                clear hsc
                cases h1 : okTo L R v u
                · have HX : Hid (okTo L R v (u + 1) = false) := show okTo L R v (u + 1) = false by have := HSC.out; rw [h1] at this; simpa using this
                  clear h1
                  go_wp2
                  go_roundw
                  case rel => exact ⟨trivial, u + 1, by omega, by rw [HX.out], by go_num⟩
                  case measure => simp [numOf]; omega
                · cases h2 : L u
                  · have HX : Hid (okTo L R v (u + 1) = true) := show okTo L R v (u + 1) = true by have := HSC.out; rw [h1, h2] at this; simpa using this
                    rw [h2] at cu
                    clear h1 h2
                    go_wp2
                    go_roundw
                    case rel => exact ⟨trivial, u + 1, by omega, by rw [HX.out], by go_num⟩
                    case measure => simp [numOf]; omega
                  · cases h3 : R u v
                    · have HX : Hid (okTo L R v (u + 1) = true) := show okTo L R v (u + 1) = true by have := HSC.out; rw [h1, h2, h3] at this; simpa using this
                      rw [h2] at cu
                      rw [h3] at q1
                      clear h1 h2 h3
                      go_wp2
                      go_roundw
                      case rel => exact ⟨trivial, u + 1, by omega, by rw [HX.out], by go_num⟩
                      case measure => simp [numOf]; omega
                    · have HX : Hid (okTo L R v (u + 1) = R v u) := show okTo L R v (u + 1) = R v u by have := HSC.out; rw [h1, h2, h3] at this; simpa using this
                      rw [h2] at cu
                      rw [h3] at q1
                      clear h1 h2 h3
                      go_wp2
                      go_roundw
                      case rel => exact ⟨trivial, u + 1, by omega, by rw [HX.out], by go_num⟩
                      case measure => simp [numOf]; omega
              · have hue : n = u := by omega
                subst hue
                by_cases hvf : v = f
                · subst hvf
                  have hok : okTo L R v n = true := okTo_heads.2 HH.out
                  rw [hok]
                  go_wp2
                  go_roundw
                  case rel => exact ⟨trivial, Or.inr ⟨rfl, rfl⟩⟩
                  case measure => simp [numOf]; omega
                · have hok : okTo L R v n = false := by
                    cases hx : okTo L R v n
                    · rfl
                    · exact absurd (okTo_heads.1 hx) (HL.out v (by omega))
                  rw [hok]
                  go_wp2
                  go_roundw
                  case rel => exact ⟨trivial, Or.inl ⟨v + 1, by omega, rfl, by go_num⟩⟩
                  case measure => simp [numOf]; omega
          · have hf0 : ¬ (f : Int) < 0 := by omega
            obtain ⟨g, bf, rfl, g0, g1⟩ := HGR.out f hf
            have l0 := World.block_lt_of_cell? Wd _ g0
            have HG1 : Hid _ := g1
            clear g1
            rcases Classical.em ((f : Int) + 1 < (n : Int)) with hfn | hfn
            all_goals
              go_upto_region 29 with (fail)
              go_wp2
              clear hfn
              go_loopw [16, 17] (fun pv i wq => ∃ v : Nat, v ≤ n ∧ i = .int .i64 (v : Int) ∧ wq.ownsRow (Wd.heap.size + 1) 3 1 pv (mutTo R f v).length (qv (mutTo R f v)) ∧ RowB wq Wd.heap.size n (fun x => !L x || decide (x ∈ mutTo R f v)) ∧ Below Wd.heap.size Wd wq) (fun _ i _ => n - (numOf i).toNat)
              case atStart => exact ⟨0, Nat.zero_le _, rfl, by simpa [mutTo, qv] using World.ownsRow_nil _ _ _ _, hrow.congr' (fun j _ => by simp [mutTo]), hBr⟩
              case round =>
                obtain ⟨v, hv, rfl, hown, hrq, hBq⟩ := hrel
                clear hrow hBr
                obtain ⟨po, pc, rfl⟩ := form_row hown
                have hml := mutTo_le R f v
                have hlt1 := hrq.lt
                by_cases hvn : v < n
                · obtain ⟨g', bv, eg, g2, g3⟩ := HGR.out v hvn
                  cases eg
                  have q1 := HG1.out v hvn
                  have q2 := g3 f hf
                  simp only [Int.toNat_natCast] at q1 q2
                  have l1 := World.block_lt_of_cell? Wd _ q1
                  have l2 := World.block_lt_of_cell? Wd _ g2
                  have l3 := World.block_lt_of_cell? Wd _ q2
                  have g0' := g0
                  rw [← hBq.cell (by exact l0)] at g0'
                  rw [← hBq.cell (by exact l1)] at q1
                  rw [← hBq.cell (by exact l2)] at g2
                  rw [← hBq.cell (by exact l3)] at q2
                  clear g3
                  have i1 : (0 : Int) ≤ (v : Int) := by omega
                  have i2 : (v : Int) < (n : Int) := by omega
                  have j1 : (0 : Int) ≤ (f : Int) := by omega
                  have j2 : (f : Int) < (n : Int) := by omega
                  cases h1 : R f v
                  · have HX : Hid (mutTo R f (v + 1) = mutTo R f v) := show mutTo R f (v + 1) = mutTo R f v by rw [mutTo_succ, h1]; simp
                    rw [h1] at q1
                    clear h1
                    go_wp2
                    go_roundw
                    case rel => exact ⟨v + 1, by omega, by go_num, by rw [HX.out]; exact hown, by rw [HX.out]; exact hrq, hBq⟩
                    case measure => simp [numOf]; omega
                  · cases h2 : R v f
                    · have HX : Hid (mutTo R f (v + 1) = mutTo R f v) := show mutTo R f (v + 1) = mutTo R f v by rw [mutTo_succ, h1, h2]; simp
                      rw [h1] at q1
                      rw [h2] at q2
                      clear h1 h2
                      go_wp2
                      go_roundw
                      case rel => exact ⟨v + 1, by omega, by go_num, by rw [HX.out]; exact hown, by rw [HX.out]; exact hrq, hBq⟩
                      case measure => simp [numOf]; omega
                    · have HX : Hid (mutTo R f (v + 1) = mutTo R f v ++ [v]) := show mutTo R f (v + 1) = mutTo R f v ++ [v] by rw [mutTo_succ, h1, h2]; simp
                      rw [h1] at q1
                      rw [h2] at q2
                      clear h1 h2
                      go_upto_region 34 with (first | (at_builtin; refine wpList_push rfl _ _ rfl rfl rfl hown (by omega) (by omega) ?_; intro v' w3 hown' hgrow) | go_in)
                      have hs := hBq.size
                      have hB5 := (hBq.alloc hs _).grown hgrow (by simp; omega) (fun k hk => by have := (hown.lt k hk).1; omega)
                      have hrq3 := hrq.block (w' := w3) (by rw [hgrow.block _ (by simp; omega) (fun e => by have := (hown.lt _ e.symm).1; omega), Below.heap_alloc _ _ _ hlt1])
                      clear hgrow hown hrq hBq q1 q2 g2 g0'
                      have cv := hrq3.cell hvn
                      have fv := hrq3.free v
                      have hput := hrq3.put v true
                      have HP : Hid _ := hput
                      clear hput
                      go_wp2
                      go_roundw
                      case rel =>
                        refine ⟨v + 1, by omega, by go_num, ?_, RowB.congr' HP.out (fun j _ => ?_), hB5.setCell (Nat.le_refl _) _⟩
                        · rw [HX.out]
                          refine ownsRow_blocks hown' (fun b hb => Below.heap_setCell _ _ _ _ (fun e => ?_))
                          have e' : b = Wd.heap.size := e
                          have := (hown'.lt b hb).1
                          omega
                        · rw [HX.out]
                          by_cases e : j = v
                          · subst e; simp
                          · simp [e]
                      case measure => simp [numOf]; omega
                · have hve : n = v := by omega
                  subst hve
                  have hlsq := ListsAt.below HLS.out hBq
                  obtain ⟨gs, xo, xc, rfl, cs, hrl⟩ := hlsq.at (q := k) (l := ls[k]) (List.getElem?_eq_getElem hkl)
                  rw [HLK.out] at cs hrl
                  have hI1 := intsAt_q hrl (fun x hx => by have := mutTo_lt hx; omega) (by omega)
                  have hI2 := intsAt_q hown (fun x hx => by have := mutTo_lt hx; omega) (by omega)
                  have HI1 : Hid _ := hI1
                  have HI2 : Hid _ := hI2
                  have i1 : (0 : Int) ≤ (k : Int) := by omega
                  have i2 : (k : Int) < (ls.length : Int) := by omega
                  clear hlsq hrl hI1 hI2
                  go_wp2_with (first
                    | (go_at_call 20; refine (ints_true _ _ ((mutTo R f n).map fun (x : Nat) => (x : Int)) _ HI1.out HI2.out).mono ?_; rintro e we ⟨rfl, hbe⟩)
                    | go_in)
                  go_roundw
                  case rel =>
                    refine ⟨k + 1, fun x => L x && !decide (x ∈ ls[k]), by omega, by go_num, (hrq.block (hbe.block _ hlt1)).congr' (fun j _ => ?_), HRS.out, below_self hBq hbe hBq.size⟩
                    rw [HLK.out]
                    simp
                  case measure => simp [numOf]; omega
      · have hke : ls.length = k := by omega
        subst hke
        rw [List.drop_length] at hst
        have hall : ∀ x, x < n → L x = false := fun x hx => by
          have h1 : L x = L' x := hst x hx
          rw [h1]; exact HEND.out x hx
        have HALL : Hid _ := hall
        clear hall hst
        go_wp2
        go_loopw [18] (fun i wq => wq = wr ∧ ∃ v : Nat, v ≤ n ∧ i = .int .i64 (v : Int)) (fun i _ => n - (numOf i).toNat)
        case atStart => exact ⟨rfl, 0, Nat.zero_le _, rfl⟩
        case round =>
          obtain ⟨rfl, v, hv, rfl⟩ := hrel
          by_cases hvn : v < n
          · have cv := hrow.cell hvn
            have i1 : (0 : Int) ≤ (v : Int) := by omega
            have i2 : (v : Int) < (n : Int) := by omega
            rw [HALL.out v hvn] at cv
            go_wp2
            go_roundw
            case rel => exact ⟨trivial, v + 1, by omega, by go_num⟩
            case measure => simp [numOf]; omega
          · have hve : n = v := by omega
            subst hve
            go_wp2
            go_ret
            exact ⟨rfl, below_next hB hBr⟩
end Go.Proofs.Ytgepibidhebbiab
