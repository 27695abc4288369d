/- How many matchings go to all nodes: countWhole. Count. The walk of MatchCounts: it answers true, and what was there stays; what its examples ask is a condition still. -/
import Derived.Test.YtenjkhgpfmfgmaaDoorCntP
import Derived.Test.YtenjkhgpfmfgmaaDoorFmtD
import Derived.Test.YtenjkhgpfmfgmaaDoorMostW
import Derived.Deep.RegionHeld3
import Derived.Test.YtenjkhgpfmfgmaaDoorTutteLaw
namespace Go.Proofs.YtenjkhgpfmfgmaaDoor
open Go.RowKit Go.Maps
attribute [local go_sem ↓] Go.wp_at_zero Go.wp_at_succ

theorem wrapU_all {N : Nat} (hN : N ≤ 24) : IntKind.u32.wrap (IntKind.u32.wrap ((2 : Int) ^ N) - 1) = ((2 ^ N - 1 : Nat) : Int) := by
  have p24 : 2 ^ N ≤ 16777216 := by have : 2 ^ N ≤ 2 ^ 24 := Nat.pow_le_pow_right (by omega) hN; simpa using this
  have hP0 := Nat.two_pow_pos N
  have e : (2 : Int) ^ N = ((2 ^ N : Nat) : Int) := by push_cast; rfl
  rw [e, IntKind.wrap_u32, IntKind.wrap_u32]
  generalize 2 ^ N = P at p24 hP0 ⊢
  omega

set_option maxRecDepth 4000 in
set_option maxHeartbeats 4000000 in
theorem countWhole_call {w : World} {gn N : Nat} {es : List Pair} (hN : N ≤ 24) (hg : ∀ e ∈ es, (0 ≤ e.1 ∧ e.1 < (N : Int) ∧ 0 ≤ e.2 ∧ e.2 < (N : Int)) ∧ e.1 ≠ e.2) (hr : RowV w gn 92 N (fun i => .int .u32 (nearN es i : Nat))) (ht : T32 w) :
    Calls Tryd.prog 37 #[.slice (some ⟨gn, 0, none⟩) N N] w fun e w' => e = .returned (.int .u64 (pm N (pn (hasB es)) (2 ^ N - 1).testBit : Int)) ∧ Below w.heap.size w w' := by
  have hP0 := Nat.two_pow_pos N
  have p24 : 2 ^ N ≤ 16777216 := by have : 2 ^ N ≤ 2 ^ 24 := Nat.pow_le_pow_right (by omega) hN; simpa using this
  obtain ⟨AL, hAL⟩ : ∃ A, A = 2 ^ N - 1 := ⟨_, rfl⟩
  rw [← hAL]
  obtain ⟨qv, hqv⟩ : ∃ qv, qv = pm N (pn (hasB es)) AL.testBit := ⟨_, rfl⟩
  rw [← hqv]
  have HQV : Hid _ := hqv
  have HAL : Hid _ := hAL
  clear hqv hAL
  have hmm := @run_makeMap Tryd.prog
  have hE := enter49
  obtain ⟨A, hA⟩ : ∃ A, A = Obj.cells #[.slice (some ⟨gn, 0, none⟩) N N] 71 := ⟨_, rfl⟩
  have hmade := uAt_made (w.alloc A)
  have hsz : (w.alloc A).heap.size = w.heap.size + 1 := by simp
  rw [hsz] at hmade
  obtain ⟨w2, hst, hu2, ht2⟩ := hmade.store2 (by omega) (k := 0) (d := 1) (by omega) (by omega)
  have hst' : (Instr.mapUpdate 93 (.map (some (w.heap.size + 1))) (.int .u32 0) (.int .u64 1)).run Tryd.prog ((w.alloc A).alloc (.map #[] 0)) = .ok () w2 := hst
  have hB2 : Below w.heap.size w w2 := (turned_turns ht2).below (below_alloc (below_alloc (Below.refl _ w) A) (.map #[] 0)) (by simp; omega) (fun k e => by omega)
  have hA2 : Box w2 w.heap.size #[.slice (some ⟨gn, 0, none⟩) N N] 71 := by
    refine ((turned_turns ht2).block w.heap.size (by simp; omega) (fun e => by omega)).trans ?_
    rw [Below.heap_alloc _ _ _ (by simp), hA]
    exact heap_alloc_new _ _
  have hs2 : w.heap.size + 2 ≤ w2.heap.size := by have := (turned_turns ht2).size; simp at this; omega
  have hr2 := hr.block (hB2.block _ hr.lt)
  have ht2' := ht.below hB2
  rw [hA] at hst'
  have HR : Hid _ := hr2
  have HT : Hid _ := ht2'
  have HU : Hid _ := hu2
  have HA : Hid _ := hA2
  clear hr ht hmade hst hu2 ht2 hA2 hr2 ht2'
  go_enter Tryd.func37, Tryd.ntmps37
  go_upto_region 4 with (fail)
  have hB4 := below_alloc (below_alloc hB2 (Obj.cells #[.map (some (w.heap.size + 1))] 93)) (Obj.cells #[cwF w2.heap.size w.heap.size (w2.heap.size + 1)] 94)
  have hB24 := below_alloc (below_alloc (Below.refl w2.heap.size w2) (Obj.cells #[.map (some (w.heap.size + 1))] 93)) (Obj.cells #[cwF w2.heap.size w.heap.size (w2.heap.size + 1)] 94)
  have hcw : CG ((w2.alloc (Obj.cells #[.map (some (w.heap.size + 1))] 93)).alloc (Obj.cells #[cwF w2.heap.size w.heap.size (w2.heap.size + 1)] 94)) w2.heap.size w.heap.size (w2.heap.size + 1) (w.heap.size + 1) gn N es (0 + 1) (fun x => if x = 0 then some 1 else none) := by
    refine ⟨?_, (hB24.block _ (by omega)).trans HA.out, ?_, RowV.block HR.out (hB24.block _ (RowV.lt HR.out)), UAt.block HU.out (hB24.block _ (UAt.lt HU.out)), T32.below HT.out hB24, by simp, fun k d hk => ?_, ?_⟩
    · show ((w2.alloc _).alloc _).heap[w2.heap.size]? = _
      rw [Below.heap_alloc _ _ _ (by simp)]
      exact heap_alloc_new _ _
    · have := heap_alloc_new (w2.alloc (Obj.cells #[.map (some (w.heap.size + 1))] 93)) (Obj.cells #[cwF w2.heap.size w.heap.size (w2.heap.size + 1)] 94)
      simpa [Box] using this
    · by_cases e : k = 0
      · subst e
        simp at hk
        rw [← hk]
        exact (pm_none fun z _ => Nat.zero_testBit z).symm
      · simp [e] at hk
    · exact cnt_pos (c := 0) hP0 (by simp)
  clear hB24 hst' HR HT HU HA hB2
  generalize (w2.alloc (Obj.cells #[.map (some (w.heap.size + 1))] 93)).alloc (Obj.cells #[cwF w2.heap.size w.heap.size (w2.heap.size + 1)] 94) = W4 at hB4 hcw ⊢
  have c1 := box_cell hcw.nb (i := 0) rfl
  have c2 := box_cell hcw.cb (i := 0) rfl
  have hb4 := hB4.size
  have hcwd := hcw.below (Below.refl _ W4).drew
  have hcall := cg_call hN hg (AL + 1) AL (Nat.lt_succ_self _) (by rw [HAL.out]; omega) _ _ _ hcwd
  rw [← HQV.out] at hcall
  have HC : Hid _ := hcall
  clear hcw hcwd hcall
  have hw := wrapU_all hN
  rw [← HAL.out] at hw
  have HWW : Hid _ := hw
  clear hw
  go_region_with ((go_at_call 49; rw [HWW.out]; refine Calls.mono HC.out ?_; rintro e w5 ⟨n5, F5, rfl, hcg5, hk5, hT5⟩; clear hcg5 hk5))
  all_goals
    go_wp2
    go_ret
    exact ⟨rfl, hT5.below hB4.drew (by show w.heap.size ≤ W4.heap.size; omega) (fun k e => by omega)⟩
end Go.Proofs.YtenjkhgpfmfgmaaDoor

namespace Go.Proofs.YtenjkhgpfmfgmaaDoor
open Go.RowKit Go.Maps
attribute [local go_sem ↓] Go.wp_at_zero Go.wp_at_succ

abbrev P10 (w : World) : Prop := Lib.TabIs Tryd.prog w "internal/strconv.uint64pow10" .u64 Lib.pow10Tab
theorem P10.below {w w' : World} (h : P10 w) (hb : Below w.heap.size w w') : P10 w' := Lib.tabBelow_of_tabIs h w' hb

set_option maxHeartbeats 2000000 in
theorem count_bad (n : Int) (v : Value) (es : List Pair) (w : World) (hE : EdgesAt w v es) {c d : Int} (hc : chk n es = (c, d)) (hcn : c ≠ 0) :
    Calls Tryd.prog 22 #[.agg #[.int .i64 n, v]] w fun r w' => r = .returned (.tuple #[.string ⟨#[]⟩, .agg #[.int .i64 c, .int .i64 d]]) ∧ Below w.heap.size w w' := by
  have hc1 : (c == 0) = false := by simpa using hcn
  obtain ⟨vo, vn, vc, rfl⟩ : ∃ vo vn vc, v = .slice vo vn vc := by obtain ⟨ao, cap, e, _⟩ := hE; exact ⟨ao, _, cap, e⟩
  have hck := check_as (hE.below (below2 (w := w) (Obj.cells #[.int .i64 n, .slice vo vn vc] 24) (Obj.cells #[.int .i64 0, .int .i64 0] 27))) hc
  have HCK : Hid _ := hck
  clear hck hc hcn hE
  go_enter Tryd.func22, Tryd.ntmps22
  go_upto_region 2 with (go_at_call 26; refine Calls.mono HCK.out ?_; rintro e w1 ⟨rfl, hb⟩; obtain ⟨bc, bf, bc1, bf1, bc2, bf2⟩ := bcell hb)
  have t1 : Two (w1.alloc (Obj.cells #[.int .i64 c, .int .i64 d] 27)) w.heap.size (.int .i64 n) (.slice vo vn vc) 24 := two_alloc (two_next (two_alloc (two_new w _ _ _) _) hb) _
  have t4 : Two (w1.alloc (Obj.cells #[.int .i64 c, .int .i64 d] 27)) (w.heap.size + 1) (.int .i64 0) (.int .i64 0) 27 := two_alloc (two_next (two_new1 w _ _ _ _) hb) _
  have t5 : Two (w1.alloc (Obj.cells #[.int .i64 c, .int .i64 d] 27)) w1.heap.size (.int .i64 c) (.int .i64 d) 27 := two_new w1 _ _ _
  have hB := below_alloc (below_next (below2 (w := w) (Obj.cells #[.int .i64 n, .slice vo vn vc] 24) (Obj.cells #[.int .i64 0, .int .i64 0] 27)) hb) (Obj.cells #[.int .i64 c, .int .i64 d] 27)
  have hz : w.heap.size + 1 < w1.heap.size := by have := hb.size; simp at this; omega
  clear bc bf bc1 bf1 bc2 bf2 hb
  generalize w1.alloc (Obj.cells #[.int .i64 c, .int .i64 d] 27) = W at t1 t4 t5 hB ⊢
  generalize w1.heap.size = b5 at t5 hz ⊢
  obtain ⟨x1, x2⟩ := cell_two t1
  obtain ⟨y1, y2⟩ := cell_two t4
  obtain ⟨z1, z2⟩ := cell_two t5
  have f1 := free_two t4 0
  have f2 := free_two t4 1
  go_wp2_with fail
  go_region
  all_goals
    go_wp2
    have hX := two_setN (x' := .int .i64 c) (y' := .int .i64 d) t4
    obtain ⟨q1, q2⟩ := cell_two hX
    refine bodyPost_ret (v := .tuple #[.string ⟨#[]⟩, .agg #[.int .i64 c, .int .i64 d]]) ?_ rfl ⟨rfl, ?_⟩
    · simp [results, Tryd.results22, go_sem, y1, y2]
    · exact ((hB.setCell (by simp) _).setCell (by simp) _).drew

set_option maxRecDepth 4000 in
set_option maxHeartbeats 4000000 in
theorem count_many (N : Nat) (vo : Option Addr) (vc : Nat) (es : List Pair) (w : World) (hE : EdgesAt w (.slice vo es.length vc) es) (hc : chk N es = (0, 0)) (hN : 24 < N) :
    Calls Tryd.prog 22 #[.agg #[.int .i64 (N : Int), .slice vo es.length vc]] w fun r w' => r = .returned (.tuple #[.string ⟨#[]⟩, .agg #[.int .i64 2, .int .i64 0]]) ∧ Below w.heap.size w w' := by
  obtain ⟨hck0, hn0, hn1, hle, hgood⟩ := chk_good (n := (N : Int)) (es := es) (by rw [hc])
  have hN' : (24 : Int) < (N : Int) := by omega
  have hck := check_as (hE.below (below2 (w := w) (Obj.cells #[.int .i64 (N : Int), .slice vo es.length vc] 24) (Obj.cells #[.int .i64 0, .int .i64 0] 27))) hc
  have HCK : Hid _ := hck
  have HE : Hid _ := hE
  have HGD : Hid _ := hgood
  clear hck hc hE hgood hck0
  go_enter Tryd.func22, Tryd.ntmps22
  go_upto_region 2 with (go_at_call 26; refine Calls.mono HCK.out ?_; rintro e w1 ⟨rfl, hb⟩; obtain ⟨bc, bf, bc1, bf1, bc2, bf2⟩ := bcell hb)
  have t1 : Two (w1.alloc (Obj.cells #[.int .i64 0, .int .i64 0] 27)) w.heap.size (.int .i64 (N : Int)) (.slice vo es.length vc) 24 := two_alloc (two_next (two_alloc (two_new w _ _ _) _) hb) _
  have t4 : Two (w1.alloc (Obj.cells #[.int .i64 0, .int .i64 0] 27)) (w.heap.size + 1) (.int .i64 0) (.int .i64 0) 27 := two_alloc (two_next (two_new1 w _ _ _ _) hb) _
  have t5 : Two (w1.alloc (Obj.cells #[.int .i64 0, .int .i64 0] 27)) w1.heap.size (.int .i64 0) (.int .i64 0) 27 := two_new w1 _ _ _
  have hB := below_alloc (below_next (below2 (w := w) (Obj.cells #[.int .i64 (N : Int), .slice vo es.length vc] 24) (Obj.cells #[.int .i64 0, .int .i64 0] 27)) hb) (Obj.cells #[.int .i64 0, .int .i64 0] 27)
  have hz : w.heap.size + 1 < w1.heap.size := by have := hb.size; simp at this; omega
  clear bc bf bc1 bf1 bc2 bf2 hb
  generalize w1.alloc (Obj.cells #[.int .i64 0, .int .i64 0] 27) = W at t1 t4 t5 hB ⊢
  generalize w1.heap.size = b5 at t5 hz ⊢
  obtain ⟨x1, x2⟩ := cell_two t1
  obtain ⟨z1, z2⟩ := cell_two t5
  obtain ⟨y1, y2⟩ := cell_two t4
  have f1 := free_two t4 0
  have f2 := free_two t4 1
  go_wp2
  have hX := two_setN (x' := .int .i64 2) (y' := .int .i64 0) t4
  have hB5 := (hB.setCell (p := ⟨w.heap.size + 1, 0, none⟩) (by simp) (.int .i64 2)).setCell (p := ⟨w.heap.size + 1, 1, none⟩) (by simp) (.int .i64 0)
  refine bodyPost_ret (v := .tuple #[.string ⟨#[]⟩, .agg #[.int .i64 2, .int .i64 0]]) ?_ rfl ⟨rfl, hB5⟩
  obtain ⟨q1, q2⟩ := cell_two hX
  generalize (W.setCell ⟨w.heap.size + 1, 0, none⟩ (.int .i64 2)).setCell ⟨w.heap.size + 1, 1, none⟩ (.int .i64 0) = W5 at q1 q2 ⊢
  simp [results, Tryd.results22, go_sem, q1, q2]

set_option maxRecDepth 4000 in
set_option maxHeartbeats 4000000 in
theorem count_ok (N : Nat) (vo : Option Addr) (vc : Nat) (es : List Pair) (w : World) (hE : EdgesAt w (.slice vo es.length vc) es) (hc : chk N es = (0, 0)) (hN : N ≤ 24) (ht : T32 w) (hp : P10 w) :
    Calls Tryd.prog 22 #[.agg #[.int .i64 (N : Int), .slice vo es.length vc]] w fun r w' => r = .returned (.tuple #[.string (strB (Lib.decDigits (pm N (pn (hasB es)) (2 ^ N - 1).testBit))), .agg #[.int .i64 0, .int .i64 0]]) ∧ Below w.heap.size w w' := by
  obtain ⟨hck0, hn0, hn1, hle, hgood⟩ := chk_good (n := (N : Int)) (es := es) (by rw [hc])
  have hN' : ¬ (24 : Int) < (N : Int) := by omega
  obtain ⟨qv, hqv⟩ : ∃ qv, qv = pm N (pn (hasB es)) (2 ^ N - 1).testBit := ⟨_, rfl⟩
  have hq64 : qv < 18446744073709551616 := by have := pm_24 hN (pn (hasB es)) (2 ^ N - 1).testBit; rw [← hqv] at this; omega
  rw [← hqv]
  have HQV : Hid _ := hqv
  have HT : Hid _ := ht
  have HP : Hid _ := hp
  clear hqv ht hp
  have hck := check_as (hE.below (below2 (w := w) (Obj.cells #[.int .i64 (N : Int), .slice vo es.length vc] 24) (Obj.cells #[.int .i64 0, .int .i64 0] 27))) hc
  have HCK : Hid _ := hck
  have HE : Hid _ := hE
  have HGD : Hid _ := hgood
  clear hck hc hE hgood hck0
  go_enter Tryd.func22, Tryd.ntmps22
  go_upto_region 2 with (go_at_call 26; refine Calls.mono HCK.out ?_; rintro e w1 ⟨rfl, hb⟩; obtain ⟨bc, bf, bc1, bf1, bc2, bf2⟩ := bcell hb)
  have t1 : Two (w1.alloc (Obj.cells #[.int .i64 0, .int .i64 0] 27)) w.heap.size (.int .i64 (N : Int)) (.slice vo es.length vc) 24 := two_alloc (two_next (two_alloc (two_new w _ _ _) _) hb) _
  have t4 : Two (w1.alloc (Obj.cells #[.int .i64 0, .int .i64 0] 27)) (w.heap.size + 1) (.int .i64 0) (.int .i64 0) 27 := two_alloc (two_next (two_new1 w _ _ _ _) hb) _
  have t5 : Two (w1.alloc (Obj.cells #[.int .i64 0, .int .i64 0] 27)) w1.heap.size (.int .i64 0) (.int .i64 0) 27 := two_new w1 _ _ _
  have hB := below_alloc (below_next (below2 (w := w) (Obj.cells #[.int .i64 (N : Int), .slice vo es.length vc] 24) (Obj.cells #[.int .i64 0, .int .i64 0] 27)) hb) (Obj.cells #[.int .i64 0, .int .i64 0] 27)
  have hz : w.heap.size + 1 < w1.heap.size := by have := hb.size; simp at this; omega
  clear bc bf bc1 bf1 bc2 bf2 hb
  generalize w1.alloc (Obj.cells #[.int .i64 0, .int .i64 0] 27) = W at t1 t4 t5 hB ⊢
  generalize w1.heap.size = b5 at t5 hz ⊢
  obtain ⟨x1, x2⟩ := cell_two t1
  obtain ⟨z1, z2⟩ := cell_two t5
  have HNS : Hid _ := nearSets_call (EdgesAt.below HE.out hB) hN hle HGD.out
  go_wp2_with (first
    | (go_at_call 38; refine Calls.mono HNS.out ?_; rintro e W2 ⟨gn, rfl, hrow, hB2⟩; have hcw := countWhole_call hN HGD.out hrow (T32.below (T32.below HT.out hB) hB2); rw [← HQV.out] at hcw; have HCW : Hid _ := hcw; clear hrow hcw)
    | (go_at_call 37; refine Calls.mono HCW.out ?_; rintro e W3 ⟨rfl, hB3⟩; have HFM : Hid _ := fmtUint_call qv hq64 W3 (P10.below (P10.below (P10.below HP.out hB) hB2) hB3))
    | (go_at_call 36; refine Calls.mono HFM.out ?_; rintro e W4 ⟨rfl, hB4⟩; have t43 := two_next (two_next (two_next t4 hB2) hB3) hB4; obtain ⟨y1, y2⟩ := cell_two t43; have f1 := free_two t43 0; have f2 := free_two t43 1)
    | go_in)
  have hX := two_setN (x' := .int .i64 0) (y' := .int .i64 0) t43
  have hB5 := ((below_next (below_next (below_next hB hB2) hB3) hB4).setCell (p := ⟨w.heap.size + 1, 0, none⟩) (by simp) (.int .i64 0)).setCell (p := ⟨w.heap.size + 1, 1, none⟩) (by simp) (.int .i64 0)
  refine bodyPost_ret (v := .tuple #[.string (strB (Lib.decDigits qv)), .agg #[.int .i64 0, .int .i64 0]]) ?_ rfl ⟨rfl, hB5⟩
  obtain ⟨q1, q2⟩ := cell_two hX
  generalize (W4.setCell ⟨w.heap.size + 1, 0, none⟩ (.int .i64 0)).setCell ⟨w.heap.size + 1, 1, none⟩ (.int .i64 0) = W5 at q1 q2 ⊢
  simp [results, Tryd.results22, go_sem, q1, q2]
end Go.Proofs.YtenjkhgpfmfgmaaDoor

namespace Go.Proofs.YtenjkhgpfmfgmaaDoor
open Go.RowKit Go.Maps
attribute [local go_sem ↓] Go.wp_at_zero Go.wp_at_succ

theorem wrap_pow' {N : Nat} (hN : N ≤ 14) : wrap64 ((2 : Int) ^ N) = ((2 ^ N : Nat) : Int) := by
  have h1 : 2 ^ N ≤ 2 ^ 14 := Nat.pow_le_pow_right (by omega) hN
  have e : (2 : Int) ^ N = ((2 ^ N : Nat) : Int) := by push_cast; rfl
  rw [e]
  unfold wrap64
  generalize 2 ^ N = P at h1 ⊢
  omega

set_option maxRecDepth 20000 in
set_option maxHeartbeats 4000000 in
theorem countsLaw_bad (n : Int) (ao : Option Addr) (cap : Nat) (es : List Pair) (w : World) (hE : EdgesAt w (.slice ao es.length cap) es) (hcap : es.length ≤ cap) (hbg : BegunAt w) {c d : Int} (hck : chk n es = (c, d)) (hc : c ≠ 0) :
    Calls Tryd.prog 6 #[.agg #[.int .i64 n, .slice ao es.length cap]] w fun e w' => e = .returned (.bool true) ∧ Below w.heap.size w w' := by
  have hc1 : (c == 0) = false := by simpa using hc
  have hgi := fun (w' : World) (v : Value) (h : EdgesAt w' v es) => count_bad n v es w' h hck hc
  have HCK : Hid _ := hck
  have H2 : Hid _ := hgi
  have HE : Hid _ := hE
  have HBG : Hid _ := hbg
  clear hck hgi hc hE hbg
  go_enter Tryd.func6, Tryd.ntmps6
  go_upto_region 2 with (go_at_call 7; refine (own_any (n) ao cap es _ ?_).mono ?_; exact EdgesAt.below HE.out (below_alloc (Below.refl _ _) _); rintro e w1 ⟨hb, oo, oc, rfl, hEo, hocap⟩)
  have tg := two_on (two_new w (.int .i64 (n)) (.slice ao es.length cap) 24) hb (Obj.cells #[.int .i64 (n), .slice oo es.length oc] 24)
  have to' := two_new w1 (.int .i64 (n)) (.slice oo es.length oc) 24
  have hB := below_on (below_alloc (Below.refl _ w) (Obj.cells #[.int .i64 (n), .slice ao es.length cap] 24)) hb (Obj.cells #[.int .i64 (n), .slice oo es.length oc] 24)
  have hEg := EdgesAt.below HE.out hB
  replace hEo := hEo.below (below_alloc (Below.refl _ w1) (Obj.cells #[.int .i64 (n), .slice oo es.length oc] 24))
  generalize w1.alloc (Obj.cells #[.int .i64 (n), .slice oo es.length oc] 24) = W1 at tg to' hB hEg hEo ⊢
  clear hb
  obtain ⟨y1, y2⟩ := cell_two tg
  go_upto_region 3 with (go_at_call 8; refine (refCheck_as hEg hcap HCK.out).mono ?_; rintro e w2 ⟨rfl, hb⟩)
  replace tg := two_on tg hb (Obj.cells #[.int .i64 c, .int .i64 d] 27)
  replace to' := two_on to' hb (Obj.cells #[.int .i64 c, .int .i64 d] 27)
  have tw := two_new w2 (.int .i64 c) (.int .i64 d) 27
  replace hB := below_on hB hb (Obj.cells #[.int .i64 c, .int .i64 d] 27)
  replace hEg := hEg.on hb (Obj.cells #[.int .i64 c, .int .i64 d] 27)
  replace hEo := hEo.on hb (Obj.cells #[.int .i64 c, .int .i64 d] 27)
  generalize w2.alloc (Obj.cells #[.int .i64 c, .int .i64 d] 27) = W2 at tg to' tw hB hEg hEo ⊢
  clear hb y1 y2
  obtain ⟨y1, y2⟩ := cell_two to'
  obtain ⟨y3, y4⟩ := cell_two tw
  go_upto_region 6 with (go_at_call 22; refine (H2.out _ _ hEo).mono ?_; rintro e w3 ⟨rfl, hb⟩)
  replace tg := two_on tg hb (Obj.cells #[.int .i64 c, .int .i64 d] 27)
  replace to' := two_on to' hb (Obj.cells #[.int .i64 c, .int .i64 d] 27)
  replace tw := two_on tw hb (Obj.cells #[.int .i64 c, .int .i64 d] 27)
  have tf := two_new w3 (.int .i64 c) (.int .i64 d) 27
  replace hB := below_on hB hb (Obj.cells #[.int .i64 c, .int .i64 d] 27)
  replace hEg := hEg.on hb (Obj.cells #[.int .i64 c, .int .i64 d] 27)
  replace hEo := hEo.on hb (Obj.cells #[.int .i64 c, .int .i64 d] 27)
  generalize w3.alloc (Obj.cells #[.int .i64 c, .int .i64 d] 27) = W3 at tg to' tw tf hB hEg hEo ⊢
  clear hb y1 y2 y3 y4
  have heq := neq27 c d
  go_wp2_with (first
    | (go_at_call 10; refine (HBG.out _ hB).mono ?_; rintro e w6 ⟨rfl, hb6⟩; replace tg := two_next tg hb6; replace to' := two_next to' hb6; replace tf := two_next tf hb6; replace tw := two_next tw hb6; replace hB := below_next hB hb6; replace hEg := hEg.below hb6; replace hEo := hEo.below hb6; obtain ⟨a1, a2⟩ := cell_two tg; obtain ⟨a3, a4⟩ := cell_two to'; obtain ⟨a5, a6⟩ := cell_two tw; obtain ⟨a7, a8⟩ := cell_two tf)
    | (go_at_call 11; refine (kept_true (n) _ _ es _ hEo hEg).mono ?_; rintro e w7 ⟨rfl, hb7⟩; obtain ⟨d5, d6⟩ := cell_two (two_next tw hb7); obtain ⟨d7, d8⟩ := cell_two (two_next tf hb7); obtain ⟨d1, d2⟩ := cell_two (two_next tg hb7)))
  go_ret
  exact ⟨rfl, below_next hB hb7⟩

set_option maxRecDepth 20000 in
set_option maxHeartbeats 8000000 in
theorem countsLaw_many (m : Nat) (ao : Option Addr) (cap : Nat) (es : List Pair) (w : World) (hE : EdgesAt w (.slice ao es.length cap) es) (hcap : es.length ≤ cap) (hbg : BegunAt w) (hck : chk m es = (0, 0)) (hmany : 24 < m) :
    Calls Tryd.prog 6 #[.agg #[.int .i64 (m : Int), .slice ao es.length cap]] w fun e w' => e = .returned (.bool true) ∧ Below w.heap.size w w' := by
  have hc0 : (chk m es).1 = 0 := by rw [hck]
  obtain ⟨_, hn0, hn1, hle, hgood⟩ := chk_good hc0
  have hm : m ≤ 100 := by omega
  have hgi := fun (w' : World) (o : Option Addr) (c : Nat) (h : EdgesAt w' (.slice o es.length c) es) => count_many m o c es w' h hck hmany
  have hm24 : (24 : Int) < (m : Int) := by omega
  have hgrid := fun (W : World) (v : Value) (h : EdgesAt W v es) => gridOf_any m v es W h hm hle hgood
  have HGR : Hid _ := hgrid
  have H2 : Hid _ := hgi
  have HCK : Hid _ := hck
  have HE : Hid _ := hE
  have HG : Hid _ := hgood
  have HBG : Hid _ := hbg
  clear hck hgi hE hc0 hn0 hn1 hgood hgrid hbg
  go_enter Tryd.func6, Tryd.ntmps6
  go_upto_region 2 with (go_at_call 7; refine (own_any ((m : Int)) ao cap es _ ?_).mono ?_; exact EdgesAt.below HE.out (below_alloc (Below.refl _ _) _); rintro e w1 ⟨hb, oo, oc, rfl, hEo, hocap⟩)
  have tg := two_on (two_new w (.int .i64 ((m : Int))) (.slice ao es.length cap) 24) hb (Obj.cells #[.int .i64 ((m : Int)), .slice oo es.length oc] 24)
  have to' := two_new w1 (.int .i64 ((m : Int))) (.slice oo es.length oc) 24
  have hB := below_on (below_alloc (Below.refl _ w) (Obj.cells #[.int .i64 ((m : Int)), .slice ao es.length cap] 24)) hb (Obj.cells #[.int .i64 ((m : Int)), .slice oo es.length oc] 24)
  have hEg := EdgesAt.below HE.out hB
  replace hEo := hEo.below (below_alloc (Below.refl _ w1) (Obj.cells #[.int .i64 ((m : Int)), .slice oo es.length oc] 24))
  generalize w1.alloc (Obj.cells #[.int .i64 ((m : Int)), .slice oo es.length oc] 24) = W1 at tg to' hB hEg hEo ⊢
  clear hb
  obtain ⟨y1, y2⟩ := cell_two tg
  go_upto_region 3 with (go_at_call 8; refine (refCheck_as hEg hcap HCK.out).mono ?_; rintro e w2 ⟨rfl, hb⟩)
  have hB12 : Below W1.heap.size W1 (w2.alloc (Obj.cells #[.int .i64 0, .int .i64 0] 27)) := below_on (Below.refl _ W1) hb (Obj.cells #[.int .i64 0, .int .i64 0] 27)
  have hz12 : W1.heap.size ≤ w2.heap.size := hb.size
  have HEO1 : Hid _ := hEo
  have HTG1 : Hid _ := tg
  have HTO1 : Hid _ := to'
  have hlg := lt_of_block tg
  have hlo := lt_of_block to'
  replace tg := two_on tg hb (Obj.cells #[.int .i64 0, .int .i64 0] 27)
  replace to' := two_on to' hb (Obj.cells #[.int .i64 0, .int .i64 0] 27)
  have tw := two_new w2 (.int .i64 0) (.int .i64 0) 27
  have hw2 : w.heap.size ≤ w2.heap.size := (below_next hB hb).size
  replace hB := below_on hB hb (Obj.cells #[.int .i64 0, .int .i64 0] 27)
  replace hEg := hEg.on hb (Obj.cells #[.int .i64 0, .int .i64 0] 27)
  replace hEo := hEo.on hb (Obj.cells #[.int .i64 0, .int .i64 0] 27)
  generalize w2.alloc (Obj.cells #[.int .i64 0, .int .i64 0] 27) = W2 at tg to' tw hB hEg hEo hB12 ⊢
  clear hb y1 y2
  obtain ⟨y1, y2⟩ := cell_two tg
  obtain ⟨y3, y4⟩ := cell_two tw
  go_upto_region 5 with (first
    | (go_at_call 21; refine (refF_any 2 0 _).mono ?_; rintro e wF ⟨rfl, hbF⟩; have tw' := two_next tw hbF; obtain ⟨p1, p2⟩ := cell_two tw'; have f1 := free_two tw' 0; have f2 := free_two tw' 1)
    | go_in)
  have tx := two_setN (x' := .int .i64 2) (y' := .int .i64 0) tw'
  have hB1x := ((below_next hB12 hbF).setCell (p := ⟨w2.heap.size, 0, none⟩) hz12 (.int .i64 2)).setCell (p := ⟨w2.heap.size, 1, none⟩) hz12 (.int .i64 0)
  have hB9 := ((below_next hB hbF).setCell (p := ⟨w2.heap.size, 0, none⟩) hw2 (.int .i64 2)).setCell (p := ⟨w2.heap.size, 1, none⟩) hw2 (.int .i64 0)
  generalize (wF.setCell ⟨w2.heap.size, 0, none⟩ (.int .i64 2)).setCell ⟨w2.heap.size, 1, none⟩ (.int .i64 0) = WX at tx hB1x hB9 ⊢
  clear y1 y2 y3 y4 p1 p2 f1 f2 tw tw' tg to' hB hEg hEo hB12 hbF
  have tg := two_next HTG1.out hB1x
  have to' := two_next HTO1.out hB1x
  have tw := tx
  have hB := hB9
  have hEg := EdgesAt.below HE.out hB9
  have hEo := EdgesAt.below HEO1.out hB1x
  clear tx hB9 hB1x
  obtain ⟨y1, y2⟩ := cell_two to'
  go_upto_region 6 with (go_at_call 22; refine (H2.out _ _ _ hEo).mono ?_; rintro e w3 ⟨rfl, hb⟩)
  replace tg := two_on tg hb (Obj.cells #[.int .i64 2, .int .i64 0] 27)
  replace to' := two_on to' hb (Obj.cells #[.int .i64 2, .int .i64 0] 27)
  replace tw := two_on tw hb (Obj.cells #[.int .i64 2, .int .i64 0] 27)
  have tf := two_new w3 (.int .i64 2) (.int .i64 0) 27
  replace hB := below_on hB hb (Obj.cells #[.int .i64 2, .int .i64 0] 27)
  replace hEg := hEg.on hb (Obj.cells #[.int .i64 2, .int .i64 0] 27)
  replace hEo := hEo.on hb (Obj.cells #[.int .i64 2, .int .i64 0] 27)
  generalize w3.alloc (Obj.cells #[.int .i64 2, .int .i64 0] 27) = W3 at tg to' tw tf hB hEg hEo ⊢
  clear hb y1 y2
  have heq := neq27 2 0
  go_wp2_with (first
    | (go_at_call 10; refine (HBG.out _ hB).mono ?_; rintro e w6 ⟨rfl, hb6⟩; replace tg := two_next tg hb6; replace to' := two_next to' hb6; replace tf := two_next tf hb6; replace tw := two_next tw hb6; replace hB := below_next hB hb6; replace hEg := hEg.below hb6; replace hEo := hEo.below hb6; obtain ⟨a1, a2⟩ := cell_two tg; obtain ⟨a3, a4⟩ := cell_two to'; obtain ⟨a5, a6⟩ := cell_two tw; obtain ⟨a7, a8⟩ := cell_two tf)
    | (go_at_call 11; refine (kept_true ((m : Int)) _ _ es _ hEo hEg).mono ?_; rintro e w7 ⟨rfl, hb7⟩; obtain ⟨d5, d6⟩ := cell_two (two_next tw hb7); obtain ⟨d1, d2⟩ := cell_two (two_next tg hb7)))
  go_ret
  exact ⟨rfl, below_next hB hb7⟩

set_option maxRecDepth 20000 in
set_option maxHeartbeats 8000000 in
theorem countsLaw_ok (m : Nat) (ao : Option Addr) (cap : Nat) (es : List Pair) (w : World) (hE : EdgesAt w (.slice ao es.length cap) es) (hcap : es.length ≤ cap) (hbg : BegunAt w) (hck : chk m es = (0, 0)) (hfew : m ≤ 24) (ht : T32 w) (hp : P10 w) :
    Calls Tryd.prog 6 #[.agg #[.int .i64 (m : Int), .slice ao es.length cap]] w fun e w' => e = .returned (.bool true) ∧ Below w.heap.size w w' := by
  have hc0 : (chk m es).1 = 0 := by rw [hck]
  obtain ⟨_, hn0, hn1, hle, hgood⟩ := chk_good hc0
  have hm : m ≤ 100 := by omega
  have hgi := fun (w' : World) (o : Option Addr) (c : Nat) (h : EdgesAt w' (.slice o es.length c) es) (h32 : T32 w') (h10 : P10 w') => count_ok m o c es w' h hck hfew h32 h10
  have hm24 : ¬ (24 : Int) < (m : Int) := by omega
  have HT32 : Hid _ := ht
  have HP10 : Hid _ := hp
  clear ht hp
  have hgrid := fun (W : World) (v : Value) (h : EdgesAt W v es) => gridOf_any m v es W h hm hle hgood
  have HGR : Hid _ := hgrid
  have H2 : Hid _ := hgi
  have HCK : Hid _ := hck
  have HE : Hid _ := hE
  have HG : Hid _ := hgood
  have HBG : Hid _ := hbg
  clear hck hgi hE hc0 hn0 hn1 hgood hgrid hbg
  go_enter Tryd.func6, Tryd.ntmps6
  go_upto_region 2 with (go_at_call 7; refine (own_any ((m : Int)) ao cap es _ ?_).mono ?_; exact EdgesAt.below HE.out (below_alloc (Below.refl _ _) _); rintro e w1 ⟨hb, oo, oc, rfl, hEo, hocap⟩)
  have tg := two_on (two_new w (.int .i64 ((m : Int))) (.slice ao es.length cap) 24) hb (Obj.cells #[.int .i64 ((m : Int)), .slice oo es.length oc] 24)
  have to' := two_new w1 (.int .i64 ((m : Int))) (.slice oo es.length oc) 24
  have hB := below_on (below_alloc (Below.refl _ w) (Obj.cells #[.int .i64 ((m : Int)), .slice ao es.length cap] 24)) hb (Obj.cells #[.int .i64 ((m : Int)), .slice oo es.length oc] 24)
  have hEg := EdgesAt.below HE.out hB
  replace hEo := hEo.below (below_alloc (Below.refl _ w1) (Obj.cells #[.int .i64 ((m : Int)), .slice oo es.length oc] 24))
  generalize w1.alloc (Obj.cells #[.int .i64 ((m : Int)), .slice oo es.length oc] 24) = W1 at tg to' hB hEg hEo ⊢
  clear hb
  obtain ⟨y1, y2⟩ := cell_two tg
  go_upto_region 3 with (go_at_call 8; refine (refCheck_as hEg hcap HCK.out).mono ?_; rintro e w2 ⟨rfl, hb⟩)
  have hB12 : Below W1.heap.size W1 (w2.alloc (Obj.cells #[.int .i64 0, .int .i64 0] 27)) := below_on (Below.refl _ W1) hb (Obj.cells #[.int .i64 0, .int .i64 0] 27)
  have hz12 : W1.heap.size ≤ w2.heap.size := hb.size
  have HEO1 : Hid _ := hEo
  have HTG1 : Hid _ := tg
  have HTO1 : Hid _ := to'
  have hlg := lt_of_block tg
  have hlo := lt_of_block to'
  replace tg := two_on tg hb (Obj.cells #[.int .i64 0, .int .i64 0] 27)
  replace to' := two_on to' hb (Obj.cells #[.int .i64 0, .int .i64 0] 27)
  have tw := two_new w2 (.int .i64 0) (.int .i64 0) 27
  have hw2 : w.heap.size ≤ w2.heap.size := (below_next hB hb).size
  replace hB := below_on hB hb (Obj.cells #[.int .i64 0, .int .i64 0] 27)
  replace hEg := hEg.on hb (Obj.cells #[.int .i64 0, .int .i64 0] 27)
  replace hEo := hEo.on hb (Obj.cells #[.int .i64 0, .int .i64 0] 27)
  generalize w2.alloc (Obj.cells #[.int .i64 0, .int .i64 0] 27) = W2 at tg to' tw hB hEg hEo hB12 ⊢
  clear hb y1 y2
  obtain ⟨y1, y2⟩ := cell_two tg
  obtain ⟨y3, y4⟩ := cell_two tw
  obtain ⟨y5, y6⟩ := cell_two to'
  go_upto_region 6 with (first | (go_at_call 22; refine (H2.out _ _ _ hEo (T32.below HT32.out hB) (P10.below HP10.out hB)).mono ?_; rintro e w3 ⟨rfl, hb⟩) | go_in)
  replace tg := two_on tg hb (Obj.cells #[.int .i64 0, .int .i64 0] 27)
  replace to' := two_on to' hb (Obj.cells #[.int .i64 0, .int .i64 0] 27)
  replace tw := two_on tw hb (Obj.cells #[.int .i64 0, .int .i64 0] 27)
  have tf := two_new w3 (.int .i64 0) (.int .i64 0) 27
  replace hB := below_on hB hb (Obj.cells #[.int .i64 0, .int .i64 0] 27)
  replace hEg := hEg.on hb (Obj.cells #[.int .i64 0, .int .i64 0] 27)
  replace hEo := hEo.on hb (Obj.cells #[.int .i64 0, .int .i64 0] 27)
  obtain ⟨qv, hqv⟩ : ∃ qv, qv = pm m (pn (hasB es)) (2 ^ m - 1).testBit := ⟨_, rfl⟩
  rw [← hqv]
  obtain ⟨bs, hbs⟩ : ∃ bs, bs = strB (Lib.decDigits qv) := ⟨_, rfl⟩
  rw [← hbs]
  have HQV : Hid _ := hqv
  have HBS : Hid _ := hbs
  clear hqv hbs
  generalize w3.alloc (Obj.cells #[.int .i64 0, .int .i64 0] 27) = W3 at tg to' tw tf hB hEg hEo ⊢
  clear hb y1 y2 y3 y4 y5 y6 hB12
  have heq := neq27 0 0
  go_upto_region 10 with (first
    | (go_at_call 10; refine (HBG.out _ hB).mono ?_; rintro e w6 ⟨rfl, hb6⟩; replace tg := two_next tg hb6; replace to' := two_next to' hb6; replace tf := two_next tf hb6; replace tw := two_next tw hb6; replace hB := below_next hB hb6; replace hEg := hEg.below hb6; replace hEo := hEo.below hb6; obtain ⟨a1, a2⟩ := cell_two tg; obtain ⟨a3, a4⟩ := cell_two to'; obtain ⟨a5, a6⟩ := cell_two tw; obtain ⟨a7, a8⟩ := cell_two tf)
    | (go_at_call 11; refine (kept_true ((m : Int)) _ _ es _ hEo hEg).mono ?_; rintro e w7 ⟨rfl, hb7⟩; obtain ⟨d5, d6⟩ := cell_two (two_next tw hb7); obtain ⟨d1, d2⟩ := cell_two (two_next tg hb7)))
  replace tg := two_next tg hb7
  replace hB := below_next hB hb7
  replace hEg := hEg.below hb7
  clear a1 a2 a3 a4 a5 a6 a7 a8 d1 d2 d5 d6 tf tw to' hEo hb6 hb7
  obtain ⟨v1, v2⟩ := cell_two tg
  by_cases hm14 : 14 < m
  · have q1 : (14 : Int) < (m : Int) := by omega
    go_wp2
    go_ret
    exact ⟨rfl, hB⟩
  have hm14' : m ≤ 14 := by omega
  have q1 : ¬ (14 : Int) < (m : Int) := by omega
  clear hm14
  obtain ⟨AL, hAL⟩ : ∃ A, A = 2 ^ m - 1 := ⟨_, rfl⟩
  have hP0 := Nat.two_pow_pos m
  have hPle : 2 ^ m ≤ 16384 := by have : 2 ^ m ≤ 2 ^ 14 := Nat.pow_le_pow_right (by omega) hm14'; simpa using this
  have hww : IntKind.i64.wrap (IntKind.i64.wrap ((2 : Int) ^ m) - 1) = (AL : Int) := by
    rw [wrap_eq, wrap_eq, wrap_pow' hm14', hAL]
    unfold wrap64
    generalize 2 ^ m = P at hP0 hPle ⊢
    omega
  have hq14 : qv ≤ 135135 := by have := pm_14 hm14' (pn (hasB es)) (2 ^ m - 1).testBit; rw [← HQV.out] at this; exact this
  have HWW : Hid _ := hww
  have HG12 : Hid (∀ W', Below w7.heap.size w7 W' → Calls Tryd.prog 12 #[.agg #[.int .i64 (m : Int), .slice ao es.length cap]] W' fun e w'' => Below W'.heap.size W' w'' ∧ (∃ ao cap, e = .returned (.slice ao m cap) ∧ GridAt w'' (.slice ao m cap) m (hasB es)) ∧ Below w7.heap.size w7 w'' ∧ w''.cell? ⟨w.heap.size, 0, none⟩ = some (.int .i64 (m : Int)) ∧ w''.cell? ⟨w.heap.size, 1, none⟩ = some (.slice ao es.length cap)) := fun W' hb => by
    refine (HGR.out W' _ (hEg.below hb)).mono ?_
    rintro e w'' ⟨h1, h2⟩
    have h3 := below_next hb h1
    obtain ⟨c1, c2⟩ := cell_two (two_next tg h3)
    exact ⟨h1, h2, h3, c1, c2⟩
  have HP24 : Hid (∀ (W' : World) (b : Nat) (go' : Option Addr) (gc : Nat), Below w7.heap.size w7 W' → w7.heap.size ≤ b → GridAt W' (.slice go' m gc) m (hasB es) → FarAt W' b 16384 (fun _ => none) → Calls Tryd.prog 24 #[.slice go' m gc, .int .i64 (AL : Int), .map (some b)] W' fun r w'' => r = .returned (.int .i64 (qv : Int)) ∧ Below w7.heap.size w7 w'') := fun W' b go' gc h0 hb0 h1 h2 => by
    refine (perf_call hm14' (AL + 1) AL (Nat.lt_succ_self _) (by rw [hAL]; omega) W' (fun _ => none) h1 ⟨h2, fun _ _ h => by cases h⟩).mono ?_
    rintro r w'' ⟨F', rfl, _, hT⟩
    exact ⟨by rw [HQV.out, hAL], hT.below h0 h0.size (fun k e => by omega)⟩
  have HD23 : Hid (∀ W', Calls Tryd.prog 23 #[.int .i64 (qv : Int)] W' fun e w'' => e = .returned (.string bs) ∧ Below W'.heap.size W' w'') := fun W' => by
    rw [HBS.out]
    exact digits_any qv W' (by omega)
  have hmm := @run_makeMap Tryd.prog
  go_upto_region 12 with (fail)
  clear hAL hww hP0 hPle HQV HBS
  have HKP : Hid (∀ w', Below w7.heap.size w7 w' → Below w7.heap.size w7 w' ∧ w'.cell? ⟨w.heap.size, 0, none⟩ = some (.int .i64 (m : Int)) ∧ w'.cell? ⟨w.heap.size, 1, none⟩ = some (.slice ao es.length cap)) := fun w' hb => ⟨hb, (cell_two (two_next tg hb)).1, (cell_two (two_next tg hb)).2⟩
  go_region_held3 (fun w' => Below w7.heap.size w7 w' ∧ w'.cell? ⟨w.heap.size, 0, none⟩ = some (.int .i64 (m : Int)) ∧ w'.cell? ⟨w.heap.size, 1, none⟩ = some (.slice ao es.length cap))
    (first | exact (below_alloc (Below.refl _ _) _).drew | exact below_alloc (Below.refl _ _).drew _ | exact (Below.refl _ _).drew | exact hu7 | exact below_alloc hu7 _ | exact hu8 | exact hu9 | exact HKP.out _ (Below.refl _ _).drew | exact HKP.out _ (below_alloc (Below.refl _ _) _).drew | exact HKP.out _ hu7 | exact HKP.out _ (below_alloc hu7 _) | exact HKP.out _ hu8 | exact HKP.out _ hu9 | assumption | go_keep)
    ((first
      | (go_at_call 12; refine Calls.mono (HG12.out _ (by first | exact (Below.refl _ _).drew | exact (below_alloc (Below.refl _ _) _).drew | exact below_alloc (Below.refl _ _).drew _)) ?_; rintro e U1 ⟨hu1, ⟨go', gc, rfl, hgr⟩, hu7, k1, k2⟩)
      | (go_at_call 24; rw [HWW.out]; refine Calls.mono (HP24.out _ _ _ _ (by first | exact hu7 | exact below_alloc hu7 _) (by first | exact Nat.le_refl _ | exact hu7.size) (by first | exact hgr | exact hgr.below (below_alloc (Below.refl _ _) _)) (by first | exact farAt_made _ _ | exact (farAt_made w7 16384).block ((hu1.block _ (by simp [World.drew])).trans rfl))) ?_; rintro e U2 ⟨rfl, hu8⟩)
      | (go_at_call 23; refine Calls.mono (HD23.out _) ?_; rintro e U3 ⟨rfl, hb3⟩; have hu9 := below_next hu8 hb3)))
  all_goals
    go_wp2
    go_ret
    exact ⟨rfl, below_next hB hu9⟩
end Go.Proofs.YtenjkhgpfmfgmaaDoor
