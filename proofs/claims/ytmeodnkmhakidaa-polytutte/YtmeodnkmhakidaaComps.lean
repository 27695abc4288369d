/- Components: the nodes of each. -/
import Derived.Test.YtmeodnkmhakidaaPieces
import Derived.Test.YtmeodnkmhakidaaParts
namespace Go.Proofs.Ytmeodnkmhakidaa
set_option maxRecDepth 4000
open Go.RowKit Go.Maps
attribute [local go_sem ↓] Go.wp_at_zero Go.wp_at_succ

theorem two_new1 (w : World) (o : Obj) (x y : Value) (t : TypeId) : Two ((w.alloc o).alloc (Obj.cells #[x, y] t)) (w.heap.size + 1) x y t := by
  simpa [Two] using heap_alloc_new (w.alloc o) (Obj.cells #[x, y] t)

theorem bothB_symm (es : List Pair) (m : Nat) : ∀ a b, a < m → b < m → bothB es a b = true → bothB es b a = true := fun a b _ _ h => by unfold bothB at *; rw [hasB_comm]; exact h

set_option maxHeartbeats 400000 in
theorem components_bad (n : Int) (v : Value) (es : List Pair) (w : World) (hE : EdgesAt w v es) (hc : (chk n es).1 ≠ 0) :
    Calls Try.prog 14 #[.agg #[.int .i64 n, v]] w fun r w' => r = .returned (.tuple #[.slice none 0 0, .agg #[.int .i64 (chk n es).1, .int .i64 (chk n es).2]]) ∧ Below w.heap.size w w' := by
  have hc1 : ((chk n es).1 != 0) = true := by simpa using hc
  go_enter Try.func14, Try.ntmps14
  go_wp2_with (go_at_call 23; refine (check_any n v es _ ?_).mono ?_; exact hE.below (below2 _ _); rintro e w1 ⟨rfl, hb⟩; obtain ⟨bc, bf, bc1, bf1, bc2, bf2⟩ := bcell hb; have hz := hb.size; simp at hz)
  go_region
  go_wp2
  refine bodyPost_ret (v := .tuple #[.slice none 0 0, .agg #[.int .i64 (chk n es).1, .int .i64 (chk n es).2]]) ?_ rfl ⟨rfl, ?_⟩
  · simp [results, Try.results14, go_sem, bc1]
  · exact (((below_alloc (below_next (below2 _ _) hb) _).setCell (by simp) _).setCell (by simp) _).drew

theorem ListsAt.mono {w : World} {base base' : Nat} {v : Value} {ls : List (List Nat)} (h : ListsAt w base v ls) (hb : base' ≤ base) : ListsAt w base' v ls := by
  obtain ⟨vs, h1, h2, h3⟩ := h
  exact ⟨vs, h1, ownsRow_mono h2 hb, fun i x l hx hl => ownsRow_mono (h3 i x l hx hl) hb⟩

/-- What is held while a region goes on: an old box, and one for the fault that is answered. -/
def HeldC (w : World) (b1 b3 : Nat) (x y : Value) (wz : World) : Prop :=
  Below w.heap.size w wz ∧ Two wz b1 x y 24 ∧ Two wz b3 (.int .i64 0) (.int .i64 0) 27 ∧ wz.cell? ⟨b1, 0, none⟩ = some x ∧ wz.cell? ⟨b1, 1, none⟩ = some y ∧ wz.cell? ⟨b3, 0, none⟩ = some (.int .i64 0) ∧ wz.cell? ⟨b3, 1, none⟩ = some (.int .i64 0) ∧ wz.frozen? ⟨b3, 0, none⟩ = false ∧ wz.frozen? ⟨b3, 1, none⟩ = false
theorem heldC_mk {w wz : World} {b1 b3 : Nat} {x y : Value} (hb : Below w.heap.size w wz) (t1 : Two wz b1 x y 24) (t3 : Two wz b3 (.int .i64 0) (.int .i64 0) 27) : HeldC w b1 b3 x y wz :=
  ⟨hb, t1, t3, (cell_two t1).1, (cell_two t1).2, (cell_two t3).1, (cell_two t3).2, free_two t3 0, free_two t3 1⟩
theorem two_zero {w : World} {b : Nat} {t : TypeId} (h : Two w b (.int .i64 0) (.int .i64 0) t) : Two ((w.setCell ⟨b, 0, none⟩ (.int .i64 0)).setCell ⟨b, 1, none⟩ (.int .i64 0)) b (.int .i64 0) (.int .i64 0) t := by
  have hl := lt_of_block h
  unfold Two at h ⊢
  simp [World.setCell, Array.getElem?_modify, h]
theorem heldC_set {w wz : World} {b1 b3 : Nat} {x y : Value} (hne : b1 ≠ b3) (h3 : w.heap.size ≤ b3) (hb : Below w.heap.size w wz) (t1 : Two wz b1 x y 24) (t3 : Two wz b3 (.int .i64 0) (.int .i64 0) 27) : HeldC w b1 b3 x y ((wz.setCell ⟨b3, 0, none⟩ (.int .i64 0)).setCell ⟨b3, 1, none⟩ (.int .i64 0)) :=
  heldC_mk ((hb.setCell h3 _).setCell h3 _) (two_far (two_far t1 hne) hne) (two_zero t3)
set_option maxHeartbeats 1000000 in
theorem components_ok (m : Nat) (ao : Option Addr) (cap : Nat) (es : List Pair) (w : World) (hE : EdgesAt w (.slice ao es.length cap) es) (hc : (chk m es).1 = 0) (R : Nat → Nat → Bool) (hR : ∀ v x, R v x = true ↔ Star (St m (bothB es) allB) v x) :
    Calls Try.prog 14 #[.agg #[.int .i64 (m : Int), .slice ao es.length cap]] w fun r w' => ∃ v', r = .returned (.tuple #[v', .agg #[.int .i64 0, .int .i64 0]]) ∧ ListsAt w' w.heap.size v' (piecesS m allB R) ∧ Below w.heap.size w w' := by
  have hc1 : ((chk m es).1 != 0) = false := by simpa using hc
  obtain ⟨hck, hn0, hn1, hl, hgood⟩ := chk_good hc
  have HG : Hid _ := hgood
  have HR : Hid _ := hR
  have HE : Hid _ := hE
  have hm : m ≤ 100 := by omega
  clear hgood hR hE hn0 hn1
  go_enter Try.func14, Try.ntmps14
  go_upto_region 4 with (go_at_call 23; refine (check_any m _ es _ ?_).mono ?_; exact EdgesAt.below HE.out (below2 _ _); rintro e w1 ⟨rfl, hb⟩; obtain ⟨bc, bf, bc1, bf1, bc2, bf2⟩ := bcell hb; have hz := hb.size; simp at hz)
  have t1 : Two (w1.alloc (Obj.cells #[.int .i64 0, .int .i64 0] 27)) w.heap.size (.int .i64 (m : Int)) (.slice ao es.length cap) 24 := two_alloc (two_next (two_alloc (two_new w _ _ _) _) hb) _
  have t3 : Two (w1.alloc (Obj.cells #[.int .i64 0, .int .i64 0] 27)) (w.heap.size + 1) (.int .i64 0) (.int .i64 0) 27 := two_alloc (two_next (two_new1 w _ _ _ _) hb) _
  have hB := below_alloc (below_next (below2 _ _) hb) (Obj.cells #[.int .i64 0, .int .i64 0] 27)
  generalize w1.alloc (Obj.cells #[.int .i64 0, .int .i64 0] 27) = W at t1 t3 hB ⊢
  clear bc bf bc1 bf1 bc2 bf2 hz hb hc1
  go_region_held3 (fun wz => Below w.heap.size w wz ∧ Two wz w.heap.size (.int .i64 (m : Int)) (.slice ao es.length cap) 24 ∧ Two wz (w.heap.size + 1) (.int .i64 0) (.int .i64 0) 27 ∧ wz.cell? ⟨w.heap.size, 0, none⟩ = some (.int .i64 (m : Int)) ∧ wz.cell? ⟨w.heap.size, 1, none⟩ = some (.slice ao es.length cap) ∧ wz.cell? ⟨w.heap.size + 1, 0, none⟩ = some (.int .i64 0) ∧ wz.cell? ⟨w.heap.size + 1, 1, none⟩ = some (.int .i64 0) ∧ wz.frozen? ⟨w.heap.size + 1, 0, none⟩ = false ∧ wz.frozen? ⟨w.heap.size + 1, 1, none⟩ = false)
    (first | assumption | exact heldC_mk hB.drew t1 t3 | (go_split_ands; exact heldC_mk (below_next (by assumption) hbk) (two_next (by assumption) hbk) (two_next (by assumption) hbk)) | (go_split_ands; exact heldC_mk hbP tP1 tP3) | (go_split_ands; exact heldC_set (by omega) (by omega) (by assumption) (by assumption) (by assumption)))
    ((first
      | (go_at_call 25; go_split_ands; refine (bothWays_call m _ es _ ?_ (by omega) ?_).mono ?_; exact EdgesAt.below HE.out (by assumption); exact fun e he => (HG.out e he).1; rintro r wa ⟨na, rfl, hna, bl, hN1, hbl, hbk⟩; have hbA := below_next hB.drew hbk; have tA1 := two_next (W := W.drew) t1 hbk; have tA3 := two_next (W := W.drew) t3 hbk)
      | (go_at_call 26; refine (all_call m _ (by omega)).mono ?_; rintro r wb ⟨bL, rfl, hbL, hS1, hbk⟩; have hN2 := hN1.below hbk; have hbW := below_next hbA hbk; have tW1 := two_next tA1 hbk; have tW3 := two_next tA3 hbk)
      | (go_at_call 24; go_split_ands; refine (pieces_call hN2 (hS1.congr (T := allB) (fun _ _ => rfl)) (fun i hi e => by have := (hN1.sets i hi).lt; omega) (by omega) (bothB_symm es m) R HR.out).mono ?_; rintro r wc ⟨vp, rfl, hls, htc⟩; have hbP := htc.below hbW hbW.size (fun k hk => by have := hbA.size; omega); have hlA := lt_of_block tA3; have tP1 := two_turns tW1 htc (by omega); have tP3 := two_turns tW3 htc (by omega); obtain ⟨po, pc, rfl⟩ := hls.form)))
  all_goals
    go_split_ands
    go_wp2
    refine bodyPost_ret (v := .tuple #[.slice po (piecesS m allB R).length pc, .agg #[.int .i64 0, .int .i64 0]]) ?_ rfl ⟨_, rfl, ?_, ?_⟩
    · simp [results, Try.results14, go_sem, *]
    · have hlb := lt_of_block tW3
      exact ((hls.turns (setCell_turns _ _ _ _) (fun k hk => Or.inl (by omega))).turns (setCell_turns _ _ _ _) (fun k hk => Or.inl (by omega))).mono hbW.size
    · exact (hbP.setCell (by simp) _).setCell (by simp) _
end Go.Proofs.Ytmeodnkmhakidaa
