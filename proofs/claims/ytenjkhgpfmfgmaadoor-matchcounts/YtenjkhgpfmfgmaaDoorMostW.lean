/- Most: a greatest matching, and what shows it. -/
import Derived.Test.YtenjkhgpfmfgmaaDoorPairUp
import Derived.Test.YtenjkhgpfmfgmaaDoorSplitW
import Derived.Test.YtenjkhgpfmfgmaaDoorParts
namespace Go.Proofs.YtenjkhgpfmfgmaaDoor
open Go.RowKit Go.Maps
attribute [local go_sem ↓] Go.wp_at_zero Go.wp_at_succ

set_option maxHeartbeats 2000000 in
theorem most_bad (n : Int) (v : Value) (es : List Pair) (w : World) (hE : EdgesAt w v es) {c d : Int} (hc : chk n es = (c, d)) (hcn : c ≠ 0) :
    Calls Tryd.prog 9 #[.agg #[.int .i64 n, v]] w fun r w' => r = .returned (.tuple #[.slice none 0 0, .slice none 0 0, .agg #[.int .i64 c, .int .i64 d]]) ∧ Below w.heap.size w w' := by
  have hc1 : (c == 0) = false := by simpa using hcn
  obtain ⟨vo, vn, vc, rfl⟩ : ∃ vo vn vc, v = .slice vo vn vc := by obtain ⟨ao, cap, e, _⟩ := hE; exact ⟨ao, _, cap, e⟩
  have hck := check_as (hE.below (below2 (w := w) (Obj.cells #[.int .i64 n, .slice vo vn vc] 24) (Obj.cells #[.int .i64 0, .int .i64 0] 27))) hc
  have HCK : Hid _ := hck
  clear hck hc hcn hE
  go_enter Tryd.func9, Tryd.ntmps9
  go_upto_region 2 with (go_at_call 26; refine Calls.mono HCK.out ?_; rintro e w1 ⟨rfl, hb⟩; obtain ⟨bc, bf, bc1, bf1, bc2, bf2⟩ := bcell hb)
  have t1 : Two (w1.alloc (Obj.cells #[.int .i64 c, .int .i64 d] 27)) w.heap.size (.int .i64 n) (.slice vo vn vc) 24 := two_alloc (two_next (two_alloc (two_new w _ _ _) _) hb) _
  have t4 : Two (w1.alloc (Obj.cells #[.int .i64 c, .int .i64 d] 27)) (w.heap.size + 1) (.int .i64 0) (.int .i64 0) 27 := two_alloc (two_next (two_new1 w _ _ _ _) hb) _
  have t5 : Two (w1.alloc (Obj.cells #[.int .i64 c, .int .i64 d] 27)) w1.heap.size (.int .i64 c) (.int .i64 d) 27 := two_new w1 _ _ _
  have hB := below_alloc (below_next (below2 (w := w) (Obj.cells #[.int .i64 n, .slice vo vn vc] 24) (Obj.cells #[.int .i64 0, .int .i64 0] 27)) hb) (Obj.cells #[.int .i64 c, .int .i64 d] 27)
  have hz : w.heap.size + 1 < w1.heap.size := by have := hb.size; simp at this; omega
  clear bc bf bc1 bf1 bc2 bf2 hb
  generalize w1.alloc (Obj.cells #[.int .i64 c, .int .i64 d] 27) = W at t1 t4 t5 hB ⊢
  generalize w1.heap.size = b5 at t5 hz ⊢
  obtain ⟨x1, x2⟩ := cell_two t1
  obtain ⟨y1, y2⟩ := cell_two t4
  obtain ⟨z1, z2⟩ := cell_two t5
  have f1 := free_two t4 0
  have f2 := free_two t4 1
  go_wp2_with fail
  go_region
  all_goals
    go_wp2
    have hX := two_setN (x' := .int .i64 c) (y' := .int .i64 d) t4
    obtain ⟨q1, q2⟩ := cell_two hX
    refine bodyPost_ret (v := .tuple #[.slice none 0 0, .slice none 0 0, .agg #[.int .i64 c, .int .i64 d]]) ?_ rfl ⟨rfl, ?_⟩
    · simp [results, Tryd.results9, go_sem, y1, y2]
    · exact ((hB.setCell (by simp) _).setCell (by simp) _).drew

set_option maxRecDepth 4000 in
set_option maxHeartbeats 4000000 in
theorem most_ok (N : Nat) (vo : Option Addr) (vc : Nat) (es : List Pair) (w : World) (hE : EdgesAt w (.slice vo es.length vc) es) {d : Int} (hc : chk N es = (0, d)) :
    Calls Tryd.prog 9 #[.agg #[.int .i64 (N : Int), .slice vo es.length vc]] w fun r w' => ∃ pv av, r = .returned (.tuple #[pv, av, .agg #[.int .i64 0, .int .i64 0]]) ∧ Below w.heap.size w w' ∧ ∃ m evs Ods ks dB nB, Mat N (Ef N es) m ∧ Knd N N (Ef N es) m evs Ods ks dB nB ∧ w'.ownsRow w.heap.size 50 2 pv (prs m N).length (flat (prs m N)) ∧ w'.ownsRow w.heap.size 3 1 av (listN N fun x => !dB x && nB x).length (qv (listN N fun x => !dB x && nB x)) := by
  obtain ⟨hck0, hn0, hn1, hle, hgood⟩ := chk_good (n := (N : Int)) (es := es) (by rw [hc])
  have hN : N ≤ 100 := by omega
  have hck := check_as (hE.below (below2 (w := w) (Obj.cells #[.int .i64 (N : Int), .slice vo es.length vc] 24) (Obj.cells #[.int .i64 0, .int .i64 0] 27))) hc
  have HCK : Hid _ := hck
  have HE : Hid _ := hE
  have HGD : Hid _ := hgood
  clear hck hc hE hgood hck0
  go_enter Tryd.func9, Tryd.ntmps9
  go_upto_region 2 with (go_at_call 26; refine Calls.mono HCK.out ?_; rintro e w1 ⟨rfl, hb⟩; obtain ⟨bc, bf, bc1, bf1, bc2, bf2⟩ := bcell hb)
  have t1 : Two (w1.alloc (Obj.cells #[.int .i64 0, .int .i64 d] 27)) w.heap.size (.int .i64 (N : Int)) (.slice vo es.length vc) 24 := two_alloc (two_next (two_alloc (two_new w _ _ _) _) hb) _
  have t4 : Two (w1.alloc (Obj.cells #[.int .i64 0, .int .i64 d] 27)) (w.heap.size + 1) (.int .i64 0) (.int .i64 0) 27 := two_alloc (two_next (two_new1 w _ _ _ _) hb) _
  have t5 : Two (w1.alloc (Obj.cells #[.int .i64 0, .int .i64 d] 27)) w1.heap.size (.int .i64 0) (.int .i64 d) 27 := two_new w1 _ _ _
  have hB := below_alloc (below_next (below2 (w := w) (Obj.cells #[.int .i64 (N : Int), .slice vo es.length vc] 24) (Obj.cells #[.int .i64 0, .int .i64 0] 27)) hb) (Obj.cells #[.int .i64 0, .int .i64 d] 27)
  have hz : w.heap.size + 1 < w1.heap.size := by have := hb.size; simp at this; omega
  clear bc bf bc1 bf1 bc2 bf2 hb
  generalize w1.alloc (Obj.cells #[.int .i64 0, .int .i64 d] 27) = W at t1 t4 t5 hB ⊢
  generalize w1.heap.size = b5 at t5 hz ⊢
  obtain ⟨x1, x2⟩ := cell_two t1
  obtain ⟨y1, y2⟩ := cell_two t4
  obtain ⟨z1, z2⟩ := cell_two t5
  have f1 := free_two t4 0
  have f2 := free_two t4 1
  have hEW : EdgesAt W (.slice vo es.length vc) es := EdgesAt.below HE.out hB
  have hl4 := lt_of_block t4
  have HPU : Hid _ := pairUp_call vo vc es W hEW hN hle HGD.out
  clear hEW
  go_upto_region 5 with (go_at_call 27; refine Calls.mono HPU.out ?_; rintro e W2 ⟨bp, rfl, hbp, hB2, g, bm, m, hpb, hnm, hmat, htr⟩)
  have hnb := nbs_of HGD.out hle
  have HSP : Hid _ := split_call hpb hN hmat hnb htr
  have t42 := two_next t4 hB2
  have hBW := below_next hB hB2
  have HM : Hid _ := hmat
  have hzz : w.heap.size ≤ W.heap.size := hB.size
  clear hpb hnm hmat htr t1 t4 t5 x1 x2 y1 y2 z1 z2 f1 f2 hB
  go_upto_region 6 with (go_at_call 28; refine Calls.mono HSP.out ?_; rintro e W3 ⟨dv, av, cv, rfl, hpb3, hT3, evs, Ods, ks, dB, nB, hkn, hod, hoa, hoc⟩)
  have HPR : Hid _ := pairs_call hpb3 (by omega)
  have t43 : Two W3 (w.heap.size + 1) (.int .i64 0) (.int .i64 0) 27 := two_turns t42 hT3 (fun (e : w.heap.size + 1 = bp) => by omega)
  have hB3 : Below w.heap.size w W3 := hT3.below hBW hBW.size (fun k e => by omega)
  have hsz3 : W.heap.size ≤ W3.heap.size := Nat.le_trans hB2.size hT3.size
  have hle2 : w.heap.size ≤ W2.heap.size := Nat.le_trans hzz hB2.size
  have hle3 := hB2.size
  have HKN : Hid _ := hkn
  have HOA : Hid _ := hoa
  clear hpb3 hkn hod hoa hoc hT3 t42 hBW
  go_wp2_with (first
    | (go_at_call 29; refine Calls.mono HPR.out ?_; rintro e W4 ⟨pv, rfl, hop, hB4⟩; have t44 := two_next t43 hB4; obtain ⟨y1, y2⟩ := cell_two t44; have f1 := free_two t44 0; have f2 := free_two t44 1)
    | go_in)
  have hX := two_setN (x' := .int .i64 0) (y' := .int .i64 0) t44
  have hB5 := ((below_next hB3 hB4).setCell (p := ⟨w.heap.size + 1, 0, none⟩) (by simp) (.int .i64 0)).setCell (p := ⟨w.heap.size + 1, 1, none⟩) (by simp) (.int .i64 0)
  have hne : ∀ k, k ≠ w.heap.size + 1 → ((W4.setCell ⟨w.heap.size + 1, 0, none⟩ (.int .i64 0)).setCell ⟨w.heap.size + 1, 1, none⟩ (.int .i64 0)).heap[k]? = W4.heap[k]? := fun k hk => by
    rw [Below.heap_setCell _ _ _ _ hk, Below.heap_setCell _ _ _ _ hk]
  refine bodyPost_ret (v := .tuple #[pv, av, .agg #[.int .i64 0, .int .i64 0]]) ?_ rfl ?_
  · obtain ⟨q1, q2⟩ := cell_two hX
    generalize (W4.setCell ⟨w.heap.size + 1, 0, none⟩ (.int .i64 0)).setCell ⟨w.heap.size + 1, 1, none⟩ (.int .i64 0) = W5 at q1 q2 ⊢
    simp [results, Tryd.results9, go_sem, q1, q2]
  · refine ⟨pv, av, rfl, hB5, m, evs, Ods, ks, dB, nB, HM.out, HKN.out, ?_, ?_⟩
    · exact ownsRow_mono (ownsRow_blocks hop (fun k hk => hne k (by have := (World.ownsRow.lt hop k hk).1; omega))) (by omega)
    · exact ownsRow_mono (ownsRow_blocks HOA.out (fun k hk => (hne k (by have := (World.ownsRow.lt HOA.out k hk).1; omega)).trans (hB4.block k (World.ownsRow.lt HOA.out k hk).2))) hle2
end Go.Proofs.YtenjkhgpfmfgmaaDoor
