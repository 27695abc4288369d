/- pipesAlong: two pipes for each edge of a graph, each of which can take its weight. -/
import Derived.Test.YtkakmaalmhofmaaPipes
namespace Go.Proofs.Ytkakmaalmhofmaa
open Go.RowKit Go.Maps
attribute [local go_sem ↓] Go.wp_at_zero Go.wp_at_succ

/-- The slice at wo holds the numbers ws. -/
def NumsZ (w : World) (wo : Option Addr) (ws : List Int) : Prop := ∀ (k : Nat) (x : Int), ws[k]? = some x → ∃ b off, wo = some ⟨b, off, none⟩ ∧ w.cell? ⟨b, off + k, none⟩ = some (.int .i64 x)
theorem NumsZ.below {w w' : World} {B : Nat} {wo : Option Addr} {ws : List Int} (h : NumsZ w wo ws) (hb : Below B w w') (hB : B = w.heap.size) : NumsZ w' wo ws := fun k x hx => by
  obtain ⟨b, off, e, c⟩ := h k x hx
  refine ⟨b, off, e, ?_⟩
  rw [hb.cell (p := ⟨b, off + k, none⟩) (by rw [hB]; exact World.block_lt_of_cell? w _ c)]
  exact c

def tsE (es : List Pair) : List Nat := pr (fun e : Pair => e.2.toNat) (fun e => e.1.toNat) es
def rsW (ws : List Int) : List Int := pr (fun x : Int => x) (fun x => x) ws

set_option maxRecDepth 4000 in
set_option maxHeartbeats 4000000 in
theorem pipesAlong_call {n : Nat} {v : Value} {es : List Pair} {wo : Option Addr} {wc : Nat} {ws : List Int} {w : World} (hE : EdgesAt w v es) (hW : NumsZ w wo ws) (hn : n ≤ 100) (hl : es.length ≤ 1000) (hwl : ws.length = es.length) (hg : ∀ e ∈ es, 0 ≤ e.1 ∧ e.1 < n ∧ 0 ≤ e.2 ∧ e.2 < n) :
    Calls Try.prog 35 #[.agg #[.int .i64 (n : Int), v], .slice wo es.length wc] w fun r w' => ∃ bp, r = .returned (ptr bp) ∧ Below w.heap.size w w' ∧ ∃ c : Pp, c.bp = bp ∧ c.N = n ∧ c.M = 2 * es.length ∧ c.T = (fun p => (tsE es).getD p 0) ∧ PS c w' (fun p => (rsW ws).getD p 0) ∧ Net c.N c.M c.T c.ls ∧ c.ub ≤ w'.heap.size ∧ c.br < w'.heap.size ∧ w.heap.size ≤ c.br := by
  obtain ⟨ao, cap, rfl⟩ := hE.form
  have HE : Hid _ := hE
  have HW : Hid _ := hW
  have HG : Hid _ := hg
  have HWL : Hid _ := hwl
  clear hE hW hg hwl
  go_enter Try.func35, Try.ntmps35
  go_upto_region 2 with (first | (go_at_call 51; refine (newPipes_call (n := n) (by omega) _).mono ?_; rintro r W1 ⟨bp, rfl, hB1, g, hls⟩) | go_in)
  have t0 : W1.heap[w.heap.size]? = some (.cells #[.int .i64 (n : Int), .slice ao es.length cap] 40 (0, 0)) := by
    rw [hB1.block _ (by simp)]
    exact heap_alloc_new _ _
  have hBw : Below w.heap.size w W1 := below_next (below_alloc (Below.refl _ w) _) hB1
  have hbz : w.heap.size < W1.heap.size ∧ w.heap.size < bp ∧ w.heap.size < g := by
    have := hls.lt
    have h2 := hB1.size
    simp at this h2
    omega
  have hls0 : LS W1 w.heap.size bp g W1.heap.size n (fun _ => .slice none 0 0) (fun _ => []) (.slice none 0 0) (.slice none 0 0) [] [] := ⟨hls.box, hls.near, hls.tos, hls.room, hls.sep, hls.two, by have := hls.lt; simp at this; omega⟩
  obtain ⟨base, hbase⟩ : ∃ base, base = W1.heap.size := ⟨_, rfl⟩
  rw [← hbase] at hls0 hbz
  have hb1 : base ≤ W1.heap.size := by omega
  have HLS : Hid _ := hls0
  have c1 := (cell_two t0).2
  clear hls hls0 hB1 hbase
  go_wp2
  clear c1 t0
  go_loopw [14] (fun i wr => ∃ (k : Nat) (vs : Nat → Value) (ls : Nat → List Nat) (ta : Option Addr) (tc : Nat) (ra : Option Addr) (rc : Nat), i = .int .i64 (k : Int) ∧ k ≤ es.length ∧ LS wr w.heap.size bp g base n vs ls (.slice ta (2 * k) tc) (.slice ra (2 * k) rc) (tsE (es.take k)) (rsW (ws.take k)) ∧ NetI n ls (tsE (es.take k)) ∧ Below w.heap.size w wr ∧ base ≤ wr.heap.size) (fun i _ => es.length - (numOf i).toNat)
  case atStart => exact ⟨0, _, _, none, 0, none, 0, rfl, Nat.zero_le _, HLS.out, NetI.nil n, hBw, hb1⟩
  case round =>
    obtain ⟨k, vs, ls, ta, tc, ra, rc, rfl, hk, hls, hni, hB, hb⟩ := hrel
    clear HLS hBw hb1
    have hwl := HWL.out
    by_cases hlt : k < es.length
    · obtain ⟨_, _, e, hl2, hI, hcells⟩ := HE.out
      cases e
      obtain ⟨b, off, rfl, cx, cy⟩ := hcells k hlt
      have hg := HG.out es[k] (List.getElem_mem hlt)
      obtain ⟨x, y, hxy⟩ : ∃ x y, es[k] = (x, y) := ⟨es[k].1, es[k].2, rfl⟩
      rw [hxy] at cx cy hg
      simp only at hg
      obtain ⟨x', rfl⟩ : ∃ x' : Nat, x = x' := ⟨x.toNat, by omega⟩
      obtain ⟨y', rfl⟩ : ∃ y' : Nat, y = y' := ⟨y.toNat, by omega⟩
      have hbl := World.block_lt_of_cell? w _ cx
      rw [← hB.cell (by exact hbl)] at cx cy
      obtain ⟨z, hz?⟩ : ∃ z, ws[k]? = some z := ⟨ws[k]'(by omega), List.getElem?_eq_getElem (by omega)⟩
      obtain ⟨bw, ow, rfl, cw⟩ := (NumsZ.below HW.out hB rfl) k z hz?
      have cwa := all_alloc cw
      have i1 : (0 : Int) ≤ (k : Int) := by omega
      have i2 : (k : Int) < (es.length : Int) := by omega
      have hxn : x' < n := by omega
      have hyn : y' < n := by omega
      have ht1 : tsE (es.take (k + 1)) = tsE (es.take k) ++ [y', x'] := by
        have := pr_take (fun e : Pair => e.2.toNat) (fun e => e.1.toNat) (l := es) (k := k) (List.getElem?_eq_some_iff.2 ⟨hlt, hxy⟩)
        simpa [tsE] using this
      have hr1 : rsW (ws.take (k + 1)) = rsW (ws.take k) ++ [z, z] := pr_take (fun x : Int => x) (fun x => x) hz?
      have hlT : (tsE (es.take k)).length = 2 * k := by unfold tsE; rw [pr_len]; simp; omega
      have hlR : (rsW (ws.take k)).length = 2 * k := by unfold rsW; rw [pr_len]; simp; omega
      have hni2 := hni.lay hxn hyn hlT
      have HNI : Hid _ := hni2
      have HT1 : Hid _ := ht1
      have HR1 : Hid _ := hr1
      go_upto_region 5 with (fail)
      have t7 := two_new wr (.int .i64 (x' : Int)) (.int .i64 (y' : Int)) 51
      have hls7 := hls.below (below_alloc (Below.refl _ wr) (Obj.cells #[.int .i64 (x' : Int), .int .i64 (y' : Int)] 51))
      have hB7 := below_alloc hB (Obj.cells #[.int .i64 (x' : Int), .int .i64 (y' : Int)] 51)
      have hb7 : base ≤ (wr.alloc (Obj.cells #[.int .i64 (x' : Int), .int .i64 (y' : Int)] 51)).heap.size := by simp; omega
      have cw7 := cwa (Obj.cells #[.int .i64 (x' : Int), .int .i64 (y' : Int)] 51)
      obtain ⟨b7, hb7e⟩ : ∃ b, b = wr.heap.size := ⟨_, rfl⟩
      rw [← hb7e] at t7 ⊢
      generalize wr.alloc (Obj.cells #[.int .i64 (x' : Int), .int .i64 (y' : Int)] 51) = W7 at t7 hls7 hB7 hb7 cw7 ⊢
      have hlay := lay_call (x := z) (y := z) hxn hyn (hls7.below (Below.refl _ W7).drew) hlT hlR (fun i => by have := hni.len i; omega) (by omega) hb7
      have HLY : Hid _ := hlay
      obtain ⟨z0, z1⟩ := cell_two t7
      have y0 := And.intro z0 (And.intro z1 cw7)
      clear hlay hni2 ht1 hr1 hlT hlR hls hls7 hni hcells hI hxy hg cx cy cw cwa hz? hb7e
      go_region_with ((go_at_call 52; refine Calls.mono HLY.out ?_; rintro r W2 ⟨rfl, hB2, hb2, vs', ta', tc', ra', rc', hls2⟩))
      all_goals
        go_wp2
        go_roundw
        case rel => exact ⟨k + 1, vs', _, ta', tc', ra', rc', by go_num, by omega, by rw [HT1.out, HR1.out, show 2 * (k + 1) = 2 * k + 2 by omega]; exact hls2, by rw [HT1.out]; exact HNI.out, hB7.drew.trans hB2, hb2⟩
        case measure => simp [numOf]; omega
    · have hke : es.length = k := by omega
      have hlT : (tsE (es.take k)).length = 2 * k := by unfold tsE; rw [pr_len]; simp; omega
      have hlR : (rsW (ws.take k)).length = 2 * k := by unfold rsW; rw [pr_len]; simp; omega
      have hp := hls.pipes (bz := w.heap.size) hni hlT hlR (by omega) (by omega) hb
      rw [show es.take k = es by rw [← hke, List.take_length], show ws.take k = ws by rw [← hke, ← hwl, List.take_length]] at hp
      obtain ⟨c, h1, h2, h3, _, h5, h6, h7, h8, h9, h10⟩ := hp
      have i2 : ¬ (k : Int) < (es.length : Int) := by omega
      have H6 : Hid _ := h6
      have H7 : Hid _ := h7
      have H1 : Hid _ := And.intro h1 (And.intro h2 (And.intro h3 h5))
      have HKE : Hid _ := hke
      clear h1 h2 h3 h5 h6 h7 hke hlT hlR hls hni hwl
      go_wp2
      go_ret
      exact ⟨bp, rfl, hB, c, H1.out.1, H1.out.2.1, by rw [H1.out.2.2.1, HKE.out], H1.out.2.2.2, H6.out, H7.out, h8, h9, h10⟩
end Go.Proofs.Ytkakmaalmhofmaa
