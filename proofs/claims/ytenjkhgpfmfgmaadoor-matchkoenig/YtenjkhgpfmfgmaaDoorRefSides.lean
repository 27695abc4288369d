/- The document's Sides. -/
import Derived.BigRegion
import Derived.BigQuiet
import Derived.Test.YtenjkhgpfmfgmaaDoorRefFar
import Derived.Test.YtenjkhgpfmfgmaaDoorRefP
import Derived.Test.YtenjkhgpfmfgmaaDoorSides
namespace Go.Proofs.YtenjkhgpfmfgmaaDoor
open Go.RowKit Go.Maps
attribute [local go_sem ↓] Go.wp_at_zero Go.wp_at_succ

theorem below_drewN {B : Nat} {a w : World} (h : Below B a w) (n : Nat) : Below B a (w.drewN n) := ⟨h.os, h.tape, h.output, h.size, h.block⟩
theorem class_first {N f : Nat} {R : Nat → Nat → Bool} (hf : f < N) (hff : R f f = true) (hno : ∀ u, u < f → R f u = false) : (classL N R f)[0]? = some f := by
  obtain ⟨k, hk⟩ : ∃ k, N = f + (k + 1) := ⟨N - f - 1, by omega⟩
  unfold classL
  rw [hk, List.range_add, List.filter_append]
  have h1 : (List.range f).filter (R f) = [] := List.filter_eq_nil_iff.2 fun u hu => by
    rw [hno u (by simpa using hu)]; decide
  rw [h1, List.nil_append, List.range_succ_eq_map, List.map_cons, List.filter_cons]
  simp [hff]
theorem piece_at {N : Nat} {R : Nat → Nat → Bool} {q : Nat} {l : List Nat} (h : (piecesS N allB R)[q]? = some l) : ∃ f, f < N ∧ firstB allB R f = true ∧ l = classL N R f := by
  have h1 := List.mem_of_getElem? h
  simp only [piecesS, piecesTo, List.mem_map, List.mem_filter, List.mem_range] at h1
  obtain ⟨f, ⟨h2, h3⟩, h4⟩ := h1
  exact ⟨f, h2, h3, h4.symm⟩
theorem piece_of {N : Nat} {R : Nat → Nat → Bool} {f : Nat} (hf : f < N) (hff : firstB allB R f = true) : ∃ q : Nat, (piecesS N allB R)[q]? = some (classL N R f) :=
  List.mem_iff_getElem?.1 (by
    simp only [piecesS, piecesTo, List.mem_map, List.mem_filter, List.mem_range]
    exact ⟨f, ⟨hf, hff⟩, rfl⟩)

set_option maxRecDepth 10000 in
set_option maxHeartbeats 8000000 in
theorem refSides_call (N : Nat) (ao : Option Addr) (cap : Nat) (p : Int → Int → Bool) (w : World) (hG : GridAt w (.slice ao N cap) N p) (hN : N ≤ 100) (hs : ∀ a b, a < N → b < N → pn p a b = true → pn p b a = true) (R : Nat → Nat → Bool) (hR : ∀ v x, R v x = true ↔ Star (St N (pn p) allB) v x) {far : Nat → Nat} (hfar : FarAll N (pn p) R far N) :
    Calls Tryd.prog 20 #[.slice ao N cap] w fun r w' => Below w.heap.size w w' ∧ ((∃ b, r = .returned (.tuple #[.slice (some ⟨b, 0, none⟩) N N, .bool true]) ∧ RowV w' b 3 N (fun x => .int .i64 (far x % 2 : Nat)) ∧ ∀ a b, a < N → b < N → pn p a b = true → far a % 2 ≠ far b % 2) ∨ (r = .returned (.tuple #[.slice none 0 0, .bool false]) ∧ ∃ a b, a < N ∧ b < N ∧ pn p a b = true ∧ far a % 2 = far b % 2)) := by
  obtain ⟨i3, hi3, hz0, hz1, hz2⟩ := info_parts Tryd.info3
  have hG' := hG
  obtain ⟨ao', cap', e0, hgrid⟩ := hG'
  cases e0
  have HGR : Hid _ := hgrid
  have HG : Hid _ := hG
  have HS : Hid _ := hs
  have HR : Hid _ := hR
  have HF : Hid _ := hfar
  clear hgrid hG hs hR hfar
  go_enter Tryd.func20, Tryd.ntmps20
  go_wp2_with (first
    | (at_make; refine wpList_make_full _ rfl _ _ 29 rfl w.heap.size 3 i3 (.int .i64 0) 1 Tryd.underlying29 hi3 hz0 hz1 .i64 .i64 _ _ N rfl rfl rfl rfl ?_ ?_ ?_ ?_; (rw [hz2]; omega); (unfold maxLen; omega); (omega); intro W1 hmade hg1; have hrow0 := rowV_made rfl hmade; have hB0 : Below w.heap.size w W1 := (Below.refl _ _).grown hg1 (Nat.le_refl _) (fun k hk => by cases hk))
    | (go_at_call 34; refine (refComps_call N ao cap p _ (GridAt.below HG.out hB0) hN R HR.out).mono ?_; rintro r W2 ⟨lv, rfl, hls, hbA⟩; obtain ⟨lo, lc, rfl⟩ := hls.form)
    | go_in)
  have hrow1 := hrow0.below hbA
  have hB1 := below_self hB0 hbA hB0.size
  have hl0 := hrow0.lt
  obtain ⟨PL, hPL⟩ : ∃ PL, PL = piecesS N allB R := ⟨_, rfl⟩
  rw [← hPL] at hls ⊢
  have hle : PL.length ≤ N := by rw [hPL]; exact piecesTo_le _ _ _ _
  have HPL : Hid _ := hPL
  have HLS : Hid _ := hls
  clear hmade hg1 hrow0 hB0 hPL hls
  go_loopw [6] (fun i wr => ∃ (k : Nat) (g : Nat → Nat), k ≤ PL.length ∧ i = .int .i64 (k : Int) ∧ RowV wr w.heap.size 3 N (fun x => .int .i64 (g x : Nat)) ∧ (∀ (q x : Nat) (l : List Nat), q < k → PL[q]? = some l → x ∈ l → g x = far x % 2) ∧ Turns (fun k => k = w.heap.size) W2 wr ∧ Below w.heap.size w wr) (fun i _ => PL.length - (numOf i).toNat)
  case atStart => exact ⟨0, fun _ => 0, Nat.zero_le _, rfl, hrow1, fun q _ _ h => by omega, Turns.refl _ _, hB1⟩
  case round =>
    obtain ⟨k, g, hk, rfl, hrow, hdone, hT, hB⟩ := hrel
    have HD : Hid _ := hdone
    clear hrow1 hB1 hdone
    by_cases hkl : k < PL.length
    · obtain ⟨l, hq?⟩ : ∃ l, PL[k]? = some l := ⟨PL[k], List.getElem?_eq_getElem hkl⟩
      obtain ⟨gl, xo, xc, rfl, cg, hrl⟩ := (ListsAt.turns HLS.out hT (fun k hk => Or.inl (by omega))).at hq?
      obtain ⟨f, hfN, hff, hlc⟩ := piece_at (N := N) (by rw [← HPL.out]; exact hq?)
      have hfirst : l[0]? = some f := by
        rw [hlc]
        refine class_first hfN ((HR.out f f).2 (.refl _)) (fun u hu => ?_)
        cases hc : R f u
        · rfl
        · have h1 := (St.back HS.out ((HR.out f u).1 hc) hfN rfl).1
          have := (firstB_iff.1 hff).2 u hu rfl
          rw [(HR.out u f).2 h1] at this
          cases this
      have hmem : ∀ x, x ∈ l → x < N ∧ R f x = true := fun x hx => by
        rw [hlc] at hx
        simpa [classL] using hx
      have hll : l.length ≤ N := by
        rw [hlc]
        exact Nat.le_trans (List.length_filter_le _ _) (by simp)
      obtain ⟨gx, rfl, c0⟩ := qcell hrl hfirst
      have hl0' : 0 < l.length := (List.getElem?_eq_some_iff.1 hfirst).1
      have HQ : Hid _ := hq?
      have HFF : Hid _ := hff
      have HM : Hid _ := hmem
      clear hq? hff hlc hfirst hmem
      have i1 : (0 : Int) ≤ (k : Int) := by omega
      have i2 : (k : Int) < (PL.length : Int) := by omega
      have i3 : (0 : Int) < (l.length : Int) := by omega
      go_wp2_with (first
        | (go_at_call 35; refine (refFar_call N ao cap p _ (GridAt.below HG.out hB) hN hfN).mono ?_; rintro r W3 ⟨b3, o3, rfl, hb3, hr3, hd3, hbC⟩)
        | go_in)
      have hfx : ∀ x, x ∈ l → o3 x = some (far x) := fun x hx => by
        obtain ⟨o, h1, h2⟩ := HF.out f hfN HFF.out
        rw [hd3.same h1 (HM.out x hx).1]
        exact h2 x (HM.out x hx).1 (HM.out x hx).2
      have HFX : Hid _ := hfx
      have hrowC := hrow.below hbC
      have hT2 := hT.trans (Turns.of_below hbC _)
      have hB2 := below_self hB hbC hB.size
      have hrlC := ownsRow_blocks hrl (w' := W3) (fun b hb => hbC.block b (hrl.lt b hb).2)
      have cgC : W3.cell? ⟨gl, k, none⟩ = some (.slice (some ⟨gx, 0, none⟩) l.length xc) := (hbC.cell (by exact World.block_lt_of_cell? wr _ cg)).trans cg
      have hbne : w.heap.size ≠ b3 := by have := hrow.lt; omega
      have hgxne : w.heap.size ≠ gx := by have := (hrl.lt gx rfl).1; omega
      have hglne : w.heap.size ≠ gl := fun h => by
        subst h
        have := hrow.cell (show k < N by omega)
        rw [cg] at this
        cases this
      clear hfx hrow hT hB hrl c0 cg hbC hd3
      go_loopw [8] (fun i wq => ∃ (t : Nat) (g' : Nat → Nat), t ≤ l.length ∧ i = .int .i64 (t : Int) ∧ RowV wq w.heap.size 3 N (fun x => .int .i64 (g' x : Nat)) ∧ (∀ (q x : Nat) (l : List Nat), q < k → PL[q]? = some l → x ∈ l → g' x = far x % 2) ∧ (∀ x, x ∈ l.take t → g' x = far x % 2) ∧ Turns (fun k => k = w.heap.size) W3 wq) (fun i _ => l.length - (numOf i).toNat)
      case atStart => exact ⟨0, g, Nat.zero_le _, rfl, hrowC, HD.out, fun x hx => by simp at hx, Turns.refl _ _⟩
      case round =>
        obtain ⟨t, g', htl, rfl, hrq, hd1, hd2, hTq⟩ := hrel
        have HD1 : Hid _ := hd1
        have HD2 : Hid _ := hd2
        clear hd1 hd2 hrowC
        have c1 := cell_turns cgC hTq (fun h => hglne h.symm)
        by_cases htl' : t < l.length
        · obtain ⟨u, hu?⟩ : ∃ u, l[t]? = some u := ⟨l[t], List.getElem?_eq_getElem htl'⟩
          obtain ⟨gx', e1, c2⟩ := qcell (ownsRow_blocks hrlC (w' := wr) (fun b hb => hTq.block b (hrlC.lt b hb).2 (fun h => by
            have : b = gx := by simpa [Value.ownBlock] using hb.symm
            omega))) hu?
          cases e1
          have huN := (HM.out u (List.mem_of_getElem? hu?)).1
          have c3 := (hr3.turns hTq (fun h => hbne h.symm)).cell huN
          rw [HFX.out u (List.mem_of_getElem? hu?)] at c3
          have c3' : wr.cell? ⟨b3, u, none⟩ = some (.int .i64 (far u : Int)) := c3
          have c4 := hrq.cell huN
          have f4 := hrq.free u
          have hmod : (far u : Int).tmod 2 = ((far u % 2 : Nat) : Int) := by rw [Int.tmod_eq_emod_of_nonneg (by omega)]; omega
          have HU : Hid _ := hu?
          clear hu? c3
          have j1 : (0 : Int) ≤ (t : Int) := by omega
          have j2 : (t : Int) < (l.length : Int) := by omega
          have j3 : (0 : Int) ≤ (u : Int) := by omega
          have j4 : (u : Int) < (N : Int) := by omega
          go_upto_region 10 with (fail)
          go_region
          all_goals
            go_wp2
            go_roundw
            case rel =>
              refine ⟨t + 1, fun x => if x = u then far u % 2 else g' x, by omega, by go_num, RowV.block (w := wr.setCell ⟨w.heap.size, u, none⟩ (.int .i64 ((far u % 2 : Nat) : Int))) ((hrq.set u (.int .i64 ((far u % 2 : Nat) : Int))).congr (fun x _ => ?_)) rfl, fun q x l' hq hl' hx => ?_, fun x hx => ?_, (hTq.trans (setCell_turns _ _ _ _)).trans (Turns.of_below (Below.refl _ _).drew _)⟩
              · by_cases e : x = u
                · simp [e]
                · simp [e]
              · by_cases e : x = u
                · simp [e]
                · simp only [if_neg e]; exact HD1.out q x l' hq hl' hx
              · by_cases e : x = u
                · simp [e]
                · simp only [if_neg e]
                  rw [take_at HU.out] at hx
                  simp [e] at hx
                  exact HD2.out x hx
            case measure => simp [numOf]; omega
        · have hte : l.length = t := by omega
          subst hte
          go_wp2
          go_roundw
          case rel =>
            refine ⟨k + 1, g', by omega, by go_num, hrq, fun q x l' hq hl' hx => ?_, hT2.trans hTq, hTq.below hB2 hB2.size (fun k hk => by omega)⟩
            by_cases c : q = k
            · subst c
              rw [HQ.out] at hl'
              cases hl'
              refine HD2.out x ?_
              rw [List.take_length]; exact hx
            · exact HD1.out q x l' (by omega) hl' hx
          case measure => simp [numOf]; omega
    · have hke : PL.length = k := by omega
      subst hke
      have hall : ∀ x, x < N → g x = far x % 2 := fun x hx => by
        obtain ⟨f, o, hf, hff, _, hfx, _⟩ := FarAll.at HF.out HR.out hx
        obtain ⟨q, hq⟩ := piece_of hf hff
        rw [← HPL.out] at hq
        exact HD.out q x _ (List.getElem?_eq_some_iff.1 hq).1 hq (by simp [classL, hx, hfx])
      have hrF := hrow.congr (g := fun x => .int .i64 (far x % 2 : Nat)) (fun j hj => by rw [hall j hj])
      clear HD hall hrow
      obtain ⟨W4, hW4⟩ : ∃ W4, W4 = wr := ⟨_, rfl⟩
      rw [← hW4] at hrF hB ⊢
      clear hW4 hT
      go_wp2
      go_loopw [9] (fun i wq => ∃ a : Nat, a ≤ N ∧ i = .int .i64 (a : Int) ∧ (∀ x y, x < a → y < N → pn p x y = true → far x % 2 ≠ far y % 2) ∧ Below W4.heap.size W4 wq) (fun i _ => N - (numOf i).toNat)
      case atStart => exact ⟨0, Nat.zero_le _, rfl, fun x y h => by omega, Below.refl _ _⟩
      case round =>
        obtain ⟨a, ha, rfl, hno, hB4⟩ := hrel
        have HNO : Hid _ := hno
        clear hno
        by_cases haN : a < N
        · go_wp2
          go_loopw [10] (fun i wq => ∃ c : Nat, c ≤ N ∧ i = .int .i64 (c : Int) ∧ (∀ y, y < c → pn p a y = true → far a % 2 ≠ far y % 2) ∧ Below W4.heap.size W4 wq) (fun i _ => N - (numOf i).toNat)
          case atStart => exact ⟨0, Nat.zero_le _, rfl, fun y h => by omega, hB4⟩
          case round =>
            obtain ⟨c, hc, rfl, hno2, hB5⟩ := hrel
            have HN2 : Hid _ := hno2
            clear hno2 hB4
            by_cases hcN : c < N
            · obtain ⟨gg, b, rfl, g0, g1⟩ := HGR.out a haN
              have g2 := g1 c hcN
              have hBw := below_next hB hB5
              have l0 := World.block_lt_of_cell? w _ g0
              have l2 := World.block_lt_of_cell? w _ g2
              rw [← hBw.cell (by exact l0)] at g0
              rw [← hBw.cell (by exact l2)] at g2
              have hr5 := hrF.below hB5
              have ca := hr5.cell haN
              have cc := hr5.cell hcN
              clear g1
              have i1 : (0 : Int) ≤ (a : Int) := by omega
              have i2 : (a : Int) < (N : Int) := by omega
              have j1 : (0 : Int) ≤ (c : Int) := by omega
              have j2 : (c : Int) < (N : Int) := by omega
              by_cases h2 : p a c = true
              · rw [h2] at g2
                have HP : Hid (pn p a c = true) := h2
                by_cases h3 : far a % 2 = far c % 2
                · have h3' : ((far a % 2 : Nat) : Int) = ((far c % 2 : Nat) : Int) := by rw [h3]
                  have H3 : Hid _ := h3
                  clear h2 h3
                  go_upto_region 17 with (fail)
                  go_quiet (fail)
                  all_goals
                    go_wp2
                    refine bodyPost_ret (v := .tuple #[.slice none 0 0, .bool false]) ?_ rfl ⟨below_drewN hBw _, Or.inr ⟨rfl, a, haN, c, hcN, HP.out, H3.out⟩⟩
                    simp [results, Tryd.results20, go_sem]
                · have h3' : ¬ ((far a % 2 : Nat) : Int) = ((far c % 2 : Nat) : Int) := by omega
                  have hn3 : ∀ y, y < c + 1 → pn p a y = true → far a % 2 ≠ far y % 2 := fun y hy hp => by
                    by_cases e : y = c
                    · subst e; exact h3
                    · exact HN2.out y (by omega) hp
                  have HN3 : Hid _ := hn3
                  clear h2 h3 hn3
                  go_upto_region 17 with (fail)
                  go_quiet (fail)
                  all_goals
                    go_wp2
                    go_roundw
                    case rel => exact ⟨c + 1, by omega, by go_num, HN3.out, below_drewN hB5 _⟩
                    case measure => simp [numOf]; omega
              · have h2' : p a c = false := by simpa using h2
                rw [h2'] at g2
                have hn3 : ∀ y, y < c + 1 → pn p a y = true → far a % 2 ≠ far y % 2 := fun y hy hp => by
                  by_cases e : y = c
                  · subst e; exact absurd hp h2
                  · exact HN2.out y (by omega) hp
                have HN3 : Hid _ := hn3
                clear h2 h2' hn3
                go_upto_region 17 with (fail)
                go_quiet (fail)
                all_goals
                  go_wp2
                  go_roundw
                  case rel => exact ⟨c + 1, by omega, by go_num, HN3.out, below_drewN hB5 _⟩
                  case measure => simp [numOf]; omega
            · have hce : N = c := by omega
              subst hce
              go_wp2
              go_roundw
              case rel =>
                refine ⟨a + 1, by omega, by go_num, fun x y hx hy hp => ?_, hB5⟩
                by_cases e : x = a
                · subst e; exact HN2.out y hy hp
                · exact HNO.out x y (by omega) hy hp
              case measure => simp [numOf]; omega
        · have hae : N = a := by omega
          subst hae
          go_wp2
          refine bodyPost_ret (v := .tuple #[.slice (some ⟨w.heap.size, 0, none⟩) N N, .bool true]) ?_ rfl ⟨below_next hB hB4, Or.inl ⟨_, rfl, hrF.below hB4, fun x y hx hy hp => HNO.out x y hx hy hp⟩⟩
          simp [results, Tryd.results20, go_sem]
end Go.Proofs.YtenjkhgpfmfgmaaDoor
