/- The law. -/
import Derived.Test.YtfdlndljpmamgaaSw0
import Derived.Test.YtfdlndljpmamgaaSw1
import Derived.Test.YtfdlndljpmamgaaSw2
import Derived.Test.YtfdlndljpmamgaaSw3
import Derived.Test.YtfdlndljpmamgaaSw4
import Derived.Test.YtfdlndljpmamgaaRestW
namespace Go.Proofs.Ytfdlndljpmamgaa
set_option maxRecDepth 8000
open Go.RowKit Go.Maps
attribute [local go_sem ↓] Go.wp_at_zero Go.wp_at_succ
/-- A step of the law's input. -/
structure Stp where
  h : Int
  k : Int
  a : ByteArray
  b : ByteArray
def SAt (w : World) (v : Value) (ss : List Stp) : Prop := ∃ ao cap, v = .slice ao ss.length cap ∧ ss.length ≤ 8796093022208 ∧ ∀ (i : Nat) (s : Stp), ss[i]? = some s → ∃ g off, ao = some ⟨g, off, none⟩ ∧ w.cell? ⟨g, off + i * 4, none⟩ = some (.int .i64 s.h) ∧ w.cell? ⟨g, off + i * 4 + 1, none⟩ = some (.int .i64 s.k) ∧ w.cell? ⟨g, off + i * 4 + 2, none⟩ = some (.string s.a) ∧ w.cell? ⟨g, off + i * 4 + 3, none⟩ = some (.string s.b) ∧ s.a.size ≤ maxLen ∧ s.b.size ≤ maxLen
theorem li_start {w w1 w2 w3 : World} {p0 p1 : Hp} (hB0 : Below w.heap.size w w1) (h0 : Hse w2 p0 [] noE [] 0) (m0 : ∀ x, p0.mine x → w1.heap.size ≤ x) (hB1 : Below w1.heap.size w1 w2) (h1 : Hse w3 p1 [] noE [] 0) (m1 : ∀ x, p1.mine x → w2.heap.size ≤ x) (hB2 : Below w2.heap.size w2 w3) :
    LI w ((w3.alloc (Obj.cells #[ptr p0.b, ptr p1.b] 24)).alloc (Obj.cells #[.slice none 0 0, .slice none 0 0] 36)) w3.heap.size (w3.heap.size + 1) 0 (fun i => if i = 0 then p0 else p1) (fun i => if i = 0 then p0.b else p1.b) (fun _ => .slice none 0 0) (fun _ => []) (fun _ => []) := by
  have hB3 := below_next (below_next hB0 hB1) hB2
  have hBa := below2 (w := w3) (Obj.cells #[ptr p0.b, ptr p1.b] 24) (Obj.cells #[.slice none 0 0, .slice none 0 0] 36)
  have g0 := (h0.below hB2).below hBa
  have g1 := h1.below hBa
  refine ⟨two_alloc (two_new _ _ _ _) _, two_nxt w3 _ _ _ 36, fun i hi => ?_, fun i j hi hj hij x hx => ?_, fun i j hi hj hij x hx => (by cases hx), hB3.size, by have := hB3.size; omega, below_next hB3 hBa⟩
  · rcases i with _ | _ | i
    · exact ⟨rfl, ⟨_, _, _, _, g0, Dn.nil, Nat.le_refl _⟩, Nat.le_refl _, Nat.le_refl _, World.ownsRow_nil _ _ _ _, fun x hx => Nat.le_trans hB0.size (m0 x hx)⟩
    · exact ⟨rfl, ⟨_, _, _, _, g1, Dn.nil, Nat.le_refl _⟩, Nat.le_refl _, Nat.le_refl _, World.ownsRow_nil _ _ _ _, fun x hx => Nat.le_trans (below_next hB0 hB1).size (m1 x hx)⟩
    · omega
  · rcases i with _ | _ | i
    · rcases j with _ | _ | j
      · exact absurd rfl hij
      · intro hx2
        have := h0.lt (x := x) hx
        have := m1 x hx2
        omega
      · omega
    · rcases j with _ | _ | j
      · intro hx2
        have := h0.lt (x := x) hx2
        have := m1 x hx
        omega
      · exact absurd rfl hij
      · omega
    · omega
set_option maxHeartbeats 4000000 in
theorem law_call {w : World} {v : Value} {ss : List Stp} (hS : SAt w v ss) : Calls Try.prog 3 #[v] w fun e w' => e = .returned (.bool true) ∧ Below w.heap.size w w' := by
  obtain ⟨ao, cap, rfl, hl, hc⟩ := hS
  have HC := hid hc
  have HL := hid hl
  clear hc hl
  by_cases h200 : 200 < ss.length
  · have z1 : (200 : Int) < (ss.length : Int) := by omega
    go_enter Try.func3, Try.ntmps3
    go_wp2_with (go_at_call 4; refine Calls.mono (begun_call _) ?_; rintro e w1 ⟨rfl, hB⟩)
    go_ret
    exact ⟨rfl, hB⟩
  · have z1 : ¬ (200 : Int) < (ss.length : Int) := by omega
    have hms : ∀ w : World, (Instr.makeSlice 27 (.int .i64 2) (.int .i64 2)).run Try.prog w = .ok (.slice (some ⟨w.heap.size, 0, none⟩) 2 2) (w.alloc (Obj.cells #[.slice none 0 0, .slice none 0 0] 36)) := fun w => by kernel_rfl
    have HZ : Hid (ss.length ≤ 200) := by show _ ≤ _; omega
    go_enter Try.func3, Try.ntmps3
    go_wp2_with (first | (go_at_call 4; refine Calls.mono (begun_call _) ?_; rintro e w1 ⟨rfl, hB0⟩; have K0 := hid hB0; clear hB0) | (go_at_call 5; have k1 := K1.out; clear k1; refine Calls.mono (new_call _) ?_; rintro e w3 ⟨p1, rfl, q1, q2, q3⟩; have K2 := hid (And.intro q1 (And.intro q2 q3)); clear q1 q2 q3) | (go_at_call 5; refine Calls.mono (new_call _) ?_; rintro e w2 ⟨p0, rfl, q1, q2, q3⟩; have K1 := hid (And.intro q1 (And.intro q2 q3)); clear q1 q2 q3))
    have hli := li_start K0.out K1.out.1 K1.out.2.1 K1.out.2.2 K2.out.1 K2.out.2.1 K2.out.2.2
    have HLI := hid hli
    clear hli K0 K1 K2 hms
    generalize (w3.alloc (Obj.cells #[ptr p0.b, ptr p1.b] 24)).alloc (Obj.cells #[.slice none 0 0, .slice none 0 0] 36) = W0 at *
    generalize w3.heap.size + 1 = bd at *
    generalize w3.heap.size = bh at *
    go_loopw [5] (fun i wr => ∃ k : Nat, k ≤ ss.length ∧ i = .int .i64 k ∧ ∃ p b v ds, LI w wr bh bd k p b v ds ds) (fun i _ => ss.length - (numOf i).toNat)
    case atStart => exact ⟨0, Nat.zero_le _, rfl, _, _, _, _, HLI.out⟩
    case round =>
      obtain ⟨k, hk, rfl, p, b, v, ds, hli⟩ := hrel
      by_cases hlt : k < ss.length
      · obtain ⟨s, hs⟩ : ∃ s, ss[k]? = some s := ⟨_, List.getElem?_eq_getElem hlt⟩
        obtain ⟨g, off, rfl, c0, c1, c2, c3, hsa, hsb⟩ := HC.out k s hs
        obtain ⟨sh, sk, sa, sb⟩ := s
        simp only at c0 c1 c2 c3 hsa hsb
        have hb0 := World.block_lt_of_cell? w _ c0
        rw [← hli.below.cell (by exact hb0)] at c0 c1 c2 c3
        have H1 := hid hli
        clear hli HLI hs
        obtain ⟨i, hi, hside⟩ := side sh
        go_upto_region 12 with (fail)
        have hS4 : Box (wr.alloc (Obj.cells #[.int .i64 sh, .int .i64 sk, .string sa, .string sb] 29)) wr.heap.size #[.int .i64 sh, .int .i64 sk, .string sa, .string sb] 29 := heap_alloc_new _ _
        have h2 := H1.out.step (below_alloc (Below.refl _ _) (Obj.cells #[.int .i64 sh, .int .i64 sk, .string sa, .string sb] 29))
        have hlo := H1.out.below.size
        generalize wr.alloc (Obj.cells #[.int .i64 sh, .int .i64 sk, .string sa, .string sb] 29) = W1 at *
        generalize wr.heap.size = b6 at *
        have e1 := h2.cellH hi
        have H2 := hid h2
        have HS4 := hid hS4
        clear c0 c1 c2 c3 h2 hS4 hside H1
        go_upto_region 14 with (fail)
        have hBW := below2 (w := W1) (Obj.cells #[.int .i64 0, .int .i64 0] 31) (Obj.cells #[.int .i64 0, .int .i64 0] 31)
        have h3 := H2.out.step hBW
        have t9 : Two _ W1.heap.size (.int .i64 0) (.int .i64 0) 31 := two_alloc (two_new W1 (.int .i64 0) (.int .i64 0) 31) (Obj.cells #[.int .i64 0, .int .i64 0] 31)
        have t10 := two_nxt W1 (Obj.cells #[.int .i64 0, .int .i64 0] 31) (.int .i64 0) (.int .i64 0) 31
        have hS4 := (hBW.block _ (lt_of_block HS4.out)).trans HS4.out
        have hlo9 := H2.out.below.size
        have hne : W1.heap.size ≠ W1.heap.size + 1 := by omega
        obtain ⟨b9, hb9⟩ : ∃ x, x = W1.heap.size := ⟨_, rfl⟩
        obtain ⟨b10, hb10⟩ : ∃ x, x = W1.heap.size + 1 := ⟨_, rfl⟩
        have hlo10 : w.heap.size ≤ b10 := by omega
        rw [← hb10] at hne t10 ⊢
        rw [← hb9] at hne t9 hlo9 ⊢
        clear hb9 hb10 hBW
        generalize (W1.alloc (Obj.cells #[.int .i64 0, .int .i64 0] 31)).alloc (Obj.cells #[.int .i64 0, .int .i64 0] 31) = W2 at *
        have s1 := box_cell (i := 1) hS4 rfl
        have s2 := box_cell (i := 2) hS4 rfl
        have s3 := box_cell (i := 3) hS4 rfl
        have H3 := hid h3
        have HS5 := hid hS4
        have T9 := hid t9
        have T10 := hid t10
        clear h3 t9 t10 H2 HS4 e1 hS4
        go_upto_block 2 with (fail)
        go_cut [11, 12, 13, 14, 15, 16, 17, 18] from 35 to 287 (fun _ _ _ _ _ _ _ _ wd => Hid (Fin w bh bd (k + 1) b b9 b10 wd))
        case first =>
          clear s1 s2 s3
          by_cases hk0 : sk = 0
          · subst hk0
            refine sw0 H3.out HS5.out T9.out T10.out (by have := HZ.out; omega) hi hne (by omega) hlo10 hsa hsb ?_
            intros
            go_wp2
            go_meet
            case rel => assumption
          · by_cases hk1 : sk = 1
            · subst hk1
              refine sw1 H3.out HS5.out T9.out T10.out (by have := HZ.out; omega) hi hne (by omega) hlo10 hsa hsb ?_
              intros
              go_wp2
              go_meet
              case rel => assumption
            · by_cases hk2 : sk = 2
              · subst hk2
                refine sw2 H3.out HS5.out T9.out T10.out (by have := HZ.out; omega) hi hne (by omega) hlo10 hsa hsb ?_
                intros
                go_wp2
                go_meet
                case rel => assumption
              · by_cases hk3 : sk = 3
                · subst hk3
                  refine sw3 H3.out HS5.out T9.out T10.out (by have := HZ.out; omega) hi hne (by omega) hlo10 hsa hsb ?_
                  intros
                  go_wp2
                  go_meet
                  case rel => assumption
                · skip
                  refine sw4 H3.out HS5.out T9.out T10.out (by have := HZ.out; omega) hi hne (by omega) hlo10 hsa hsb hk0 hk1 hk2 hk3 ?_
                  intros
                  go_wp2
                  go_meet
                  case rel => assumption
        case rest =>
          clear s1 s2 s3
          go_step
          refine rest_call hcut (by have := HZ.out; omega) ?_
          intros
          rename_i hfin
          have H8 := hid hfin.out
          clear hfin hcut T9 T10 HS5 H3
          go_wp2
          go_roundw
          case rel =>
            obtain ⟨q9, v9, ds9, h9⟩ := H8.out
            exact ⟨k + 1, by omega, by go_num, q9, b, v9, ds9, h9⟩
          case measure => simp [numOf]; omega
      · have : k = ss.length := by omega
        subst this
        have h9 := hli.below
        have H9 := hid h9
        clear hli h9 HLI
        go_wp2
        go_ret
        exact ⟨rfl, H9.out⟩

end Go.Proofs.Ytfdlndljpmamgaa
