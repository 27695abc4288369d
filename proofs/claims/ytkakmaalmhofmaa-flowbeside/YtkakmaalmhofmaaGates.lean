/- gatesOf: each node a gate of two nodes. -/
import Derived.Test.YtkakmaalmhofmaaApartC
import Derived.Test.YtkakmaalmhofmaaLay2
import Derived.Deep.RegionHeld3
namespace Go.Proofs.Ytkakmaalmhofmaa
open Go.RowKit Go.Maps
attribute [local go_sem ↓] Go.wp_at_zero Go.wp_at_succ

theorem leaves_call {v : Nat} (hv : v ≤ 1000) (w : World) : Calls Try.prog 44 #[.int .i64 (v : Int)] w fun e w' => e = .returned (.int .i64 ((2 * v + 1 : Nat) : Int)) ∧ w' = w := by
  go_enter Try.func44, Try.ntmps44
  go_wp2
  go_ret
  exact ⟨by congr 2, rfl⟩
theorem enters_call {v : Nat} (hv : v ≤ 1000) (w : World) : Calls Try.prog 45 #[.int .i64 (v : Int)] w fun e w' => e = .returned (.int .i64 ((2 * v : Nat) : Int)) ∧ w' = w := by
  go_enter Try.func45, Try.ntmps45
  go_wp2
  go_ret
  exact ⟨by congr 2, rfl⟩
/-- Pipes: from, to, what they take. -/
abbrev Pip := Nat × Nat × Int
def tsG (gl : List Pip) : List Nat := pr (fun a => a.2.1) (fun a => a.1) gl
def rsG (gl : List Pip) : List Int := pr (fun a => a.2.2) (fun _ => 0) gl
def gE (N : Nat) (es : List Pair) : List Pip := es.flatMap fun e => [(2 * e.1.toNat + 1, 2 * e.2.toNat, (N : Int)), (2 * e.2.toNat + 1, 2 * e.1.toNat, (N : Int))]
def gV (s t k : Nat) : List Pip := ((List.range k).filter fun v => v != s && v != t).map fun v => (2 * v, 2 * v + 1, 1)
def gatesL (N s t : Nat) (es : List Pair) : List Pip := gE N es ++ gV s t N
theorem pr_app {α β : Type} (f g : α → β) (l m : List α) : pr f g (l ++ m) = pr f g l ++ pr f g m := by
  unfold pr
  rw [List.flatMap_append]
theorem pr_one {α β : Type} (f g : α → β) (a : α) : pr f g [a] = [f a, g a] := by simp [pr]
theorem tsG_put (gl : List Pip) (u v : Nat) (x : Int) : tsG (gl ++ [(u, v, x)]) = tsG gl ++ [v, u] := by unfold tsG; rw [pr_app, pr_one]
theorem rsG_put (gl : List Pip) (u v : Nat) (x : Int) : rsG (gl ++ [(u, v, x)]) = rsG gl ++ [x, 0] := by unfold rsG; rw [pr_app, pr_one]
theorem tsG_len (gl : List Pip) : (tsG gl).length = 2 * gl.length := pr_len _ _ _
theorem rsG_len (gl : List Pip) : (rsG gl).length = 2 * gl.length := pr_len _ _ _
theorem gE_len (N : Nat) (es : List Pair) : (gE N es).length = 2 * es.length := by
  unfold gE
  induction es with
  | nil => rfl
  | cons a l ih => simp only [List.flatMap_cons, List.length_append, ih]; simp; omega
theorem gV_len (s t k : Nat) : (gV s t k).length ≤ k := by
  unfold gV
  rw [List.length_map]
  exact Nat.le_trans (List.length_filter_le _ _) (by simp)
theorem gV_succ (s t k : Nat) : gV s t (k + 1) = gV s t k ++ (if k ≠ s ∧ k ≠ t then [(2 * k, 2 * k + 1, (1 : Int))] else []) := by
  unfold gV
  rw [List.range_succ, List.filter_append, List.map_append]
  congr 1
  by_cases h : k ≠ s ∧ k ≠ t
  · rw [if_pos h]; simp [h]
  · rw [if_neg h]
    have : (k != s && k != t) = false := by
      cases hq : (k != s && k != t)
      · rfl
      · simp at hq; exact absurd hq h
    simp [this]
theorem gE_take {N : Nat} {es : List Pair} {k : Nat} {x y : Nat} (h : es[k]? = some ((x : Int), (y : Int))) : gE N (es.take (k + 1)) = (gE N (es.take k) ++ [(2 * x + 1, 2 * y, (N : Int))]) ++ [(2 * y + 1, 2 * x, (N : Int))] := by
  obtain ⟨g1, g2⟩ := List.getElem?_eq_some_iff.1 h
  rw [List.take_succ_eq_append_getElem g1, g2]
  unfold gE
  rw [List.flatMap_append]
  simp
/-- Pipes as they are laid. -/
def LG (w wr : World) (bp g base n : Nat) (gl : List Pip) : Prop :=
  ∃ (vs : Nat → Value) (ls : Nat → List Nat) (ta : Option Addr) (tc : Nat) (ra : Option Addr) (rc : Nat), LS wr w.heap.size bp g base n vs ls (.slice ta (2 * gl.length) tc) (.slice ra (2 * gl.length) rc) (tsG gl) (rsG gl) ∧ NetI n ls (tsG gl) ∧ Below w.heap.size w wr ∧ base ≤ wr.heap.size
theorem LG.below {w wr wr' : World} {bp g base n : Nat} {gl : List Pip} (h : LG w wr bp g base n gl) (hb : Below wr.heap.size wr wr') : LG w wr' bp g base n gl := by
  obtain ⟨vs, ls, ta, tc, ra, rc, h1, h2, h3, h4⟩ := h
  exact ⟨vs, ls, ta, tc, ra, rc, h1.below hb, h2, below_next h3 hb, Nat.le_trans h4 hb.size⟩
theorem LG.lay {w wr : World} {bp g base n : Nat} {gl : List Pip} (h : LG w wr bp g base n gl) (hl : gl.length ≤ 10000) {u v : Nat} (hu : u < n) (hv : v < n) (x : Int) :
    Calls Try.prog 52 #[ptr bp, .int .i64 (u : Int), .int .i64 (v : Int), .int .i64 x, .int .i64 0] wr fun r w' => r = .returned (.tuple #[]) ∧ LG w w' bp g base n (gl ++ [(u, v, x)]) ∧ Below w.heap.size wr w' ∧ Keep51 wr w' := by
  obtain ⟨vs, ls, ta, tc, ra, rc, h1, h2, h3, h4⟩ := h
  refine (lay2_call (x := x) (y := 0) hu hv h1 (tsG_len gl) (rsG_len gl) (fun i => by have := h2.len i; rw [tsG_len] at this; omega) (by omega) h4).mono ?_
  rintro r w' ⟨rfl, ⟨hb, hkp⟩, hsz, vs', ta', tc', ra', rc', hls⟩
  refine ⟨rfl, ⟨vs', _, ta', tc', ra', rc', ?_, h2.lay hu hv (tsG_len gl) |> (fun h => by rw [tsG_put]; exact h), h3.trans hb, hsz⟩, hb, hkp⟩
  rw [tsG_put, rsG_put]
  have e : 2 * (gl ++ [(u, v, x)]).length = 2 * gl.length + 2 := by simp; omega
  rw [e]
  exact hls

set_option maxRecDepth 4000 in
set_option maxHeartbeats 3000000 in
theorem gatesOf_call {N s t : Nat} {v : Value} {es : List Pair} {w : World} (hE : EdgesAt w v es) (hN : N ≤ 100) (hl : es.length ≤ 1000) (hg : ∀ e ∈ es, 0 ≤ e.1 ∧ e.1 < N ∧ 0 ≤ e.2 ∧ e.2 < N) :
    Calls Try.prog 43 #[.agg #[.int .i64 (N : Int), v], .int .i64 (s : Int), .int .i64 (t : Int)] w fun r w' => ∃ bp, r = .returned (ptr bp) ∧ Below w.heap.size w w' ∧ ∃ c : Pp, c.bp = bp ∧ c.N = 2 * N ∧ c.M = 2 * (gatesL N s t es).length ∧ c.T = (fun p => (tsG (gatesL N s t es)).getD p 0) ∧ PS c w' (fun p => (rsG (gatesL N s t es)).getD p 0) ∧ Net c.N c.M c.T c.ls ∧ c.ub ≤ w'.heap.size ∧ c.br < w'.heap.size ∧ w.heap.size ≤ c.br := by
  obtain ⟨ao, cap, rfl⟩ := hE.form
  have HE : Hid (EdgesAt w (.slice ao es.length cap) es) := hE
  have HG : Hid (∀ e ∈ es, 0 ≤ e.1 ∧ e.1 < N ∧ 0 ≤ e.2 ∧ e.2 < N) := hg
  clear hE hg
  obtain ⟨n2, hn2⟩ : ∃ n2, n2 = 2 * N := ⟨_, rfl⟩
  have hw2 : IntKind.i64.wrap (2 * (N : Int)) = (n2 : Int) := by rw [IntKind.wrap_i64]; omega
  have HN2 : Hid (n2 = 2 * N) := hn2
  have hn2' : n2 ≤ 200 := by omega
  rw [← hn2]
  clear hn2
  go_enter Try.func43, Try.ntmps43
  go_upto_region 2 with (first | (go_at_call 51; refine (newPipes_call (n := n2) (by omega) _).mono ?_; rintro r W1 ⟨bp, rfl, hB1, g, hls⟩) | go_in)
  have t3 := two_new w (.int .i64 (N : Int)) (.slice ao es.length cap) 40
  have hB0 := below_alloc (Below.refl _ w) (Obj.cells #[.int .i64 (N : Int), .slice ao es.length cap] 40)
  have hs0 : (w.alloc (Obj.cells #[.int .i64 (N : Int), .slice ao es.length cap] 40)).heap.size = w.heap.size + 1 := by simp
  generalize w.alloc (Obj.cells #[.int .i64 (N : Int), .slice ao es.length cap] 40) = W0 at t3 hB0 hs0 hB1 hls ⊢
  have hbz : w.heap.size < W1.heap.size ∧ w.heap.size ≠ bp ∧ w.heap.size ≠ g := by
    have := hls.lt
    have h2 := hB1.size
    omega
  have hls0 : LG W0 W1 bp g W1.heap.size n2 [] := ⟨fun _ => .slice none 0 0, fun _ => [], none, 0, none, 0, hls, NetI.nil n2, hB1, Nat.le_refl _⟩
  obtain ⟨base, hbase⟩ : ∃ base, base = W1.heap.size := ⟨_, rfl⟩
  rw [← hbase] at hls0 hbz
  have HLS : Hid (LG W0 W1 bp g base n2 []) := hls0
  have HK3 : Hid (∀ W, Below W0.heap.size W0 W → Two W w.heap.size (.int .i64 (N : Int)) (.slice ao es.length cap) 40) := fun W h => two_next t3 h
  have HKE : Hid (∀ W, Below W0.heap.size W0 W → EdgesAt W (.slice ao es.length cap) es) := fun W h => EdgesAt.below HE.out (below_next hB0 h)
  have c1 := (cell_two (two_next t3 hB1)).2
  clear hls hls0 hbase
  go_wp2
  clear c1 t3
  go_loopw [18] (fun iv wr => ∃ k : Nat, iv = .int .i64 (k : Int) ∧ k ≤ es.length ∧ LG W0 wr bp g base n2 (gE N (es.take k))) (fun iv _ => es.length - (numOf iv).toNat)
  case atStart => exact ⟨0, rfl, Nat.zero_le _, by simpa [gE] using HLS.out⟩
  case round =>
    obtain ⟨k, rfl, hk, hlg⟩ := hrel
    clear HLS hB1
    have hlen : (gE N (es.take k)).length = 2 * k := by rw [gE_len, List.length_take, Nat.min_eq_left hk]
    by_cases hlt : k < es.length
    · have hBk : Below W0.heap.size W0 wr := by obtain ⟨_, _, _, _, _, _, _, _, h, _⟩ := hlg; exact h
      obtain ⟨_, _, e, hl2, hI, hcells⟩ := HKE.out wr hBk
      cases e
      obtain ⟨b, off, rfl, cx, cy⟩ := hcells k hlt
      have hg := HG.out es[k] (List.getElem_mem hlt)
      obtain ⟨x, y, hxy⟩ : ∃ x y, es[k] = (x, y) := ⟨es[k].1, es[k].2, rfl⟩
      have hk? : es[k]? = some (x, y) := by rw [List.getElem?_eq_getElem hlt, hxy]
      rw [hxy] at cx cy hg
      simp only at hg
      obtain ⟨x', rfl⟩ : ∃ x' : Nat, x = x' := ⟨x.toNat, by omega⟩
      obtain ⟨y', rfl⟩ : ∃ y' : Nat, y = y' := ⟨y.toNat, by omega⟩
      have i1 : (0 : Int) ≤ (k : Int) := by omega
      have i2 : (k : Int) < (es.length : Int) := by omega
      have hN2 := HN2.out
      have HK? : Hid (gE N (es.take (k + 1)) = (gE N (es.take k) ++ [(2 * x' + 1, 2 * y', (N : Int))]) ++ [(2 * y' + 1, 2 * x', (N : Int))]) := gE_take hk?
      obtain ⟨lx, hlx⟩ : ∃ z, z = 2 * x' + 1 := ⟨_, rfl⟩
      obtain ⟨ly, hly⟩ : ∃ z, z = 2 * y' + 1 := ⟨_, rfl⟩
      obtain ⟨ex, hex⟩ : ∃ z, z = 2 * x' := ⟨_, rfl⟩
      obtain ⟨ey, hey⟩ : ∃ z, z = 2 * y' := ⟨_, rfl⟩
      have hlt4 : lx < n2 ∧ ly < n2 ∧ ex < n2 ∧ ey < n2 := by omega
      have l1 := leaves_call (v := x') (by omega)
      have l2 := leaves_call (v := y') (by omega)
      have e1 := enters_call (v := x') (by omega)
      have e2 := enters_call (v := y') (by omega)
      rw [← hlx] at l1 HK?
      rw [← hly] at l2 HK?
      rw [← hex] at e1 HK?
      rw [← hey] at e2 HK?
      have L1 : Hid (∀ w : World, Calls Try.prog 44 #[.int .i64 (x' : Int)] w fun e w' => e = .returned (.int .i64 (lx : Int)) ∧ w' = w) := l1
      have L2 : Hid (∀ w : World, Calls Try.prog 44 #[.int .i64 (y' : Int)] w fun e w' => e = .returned (.int .i64 (ly : Int)) ∧ w' = w) := l2
      have E1 : Hid (∀ w : World, Calls Try.prog 45 #[.int .i64 (x' : Int)] w fun e w' => e = .returned (.int .i64 (ex : Int)) ∧ w' = w) := e1
      have E2 : Hid (∀ w : World, Calls Try.prog 45 #[.int .i64 (y' : Int)] w fun e w' => e = .returned (.int .i64 (ey : Int)) ∧ w' = w) := e2
      have HLG : Hid (LG W0 wr bp g base n2 (gE N (es.take k))) := hlg
      clear hcells hI hxy hk? hg l1 l2 e1 e2 hlx hly hex hey hlg hN2
      go_upto_region 5 with (fail)
      have t9 := two_new wr (.int .i64 (x' : Int)) (.int .i64 (y' : Int)) 51
      have hb9 := below_alloc (Below.refl _ wr) (Obj.cells #[.int .i64 (x' : Int), .int .i64 (y' : Int)] 51)
      obtain ⟨b9, hb9e⟩ : ∃ b, b = wr.heap.size := ⟨_, rfl⟩
      have hb9l : W0.heap.size ≤ b9 := by rw [hb9e]; exact hBk.size
      rw [← hb9e] at t9 ⊢
      have hlg9 := LG.below HLG.out hb9
      generalize wr.alloc (Obj.cells #[.int .i64 (x' : Int), .int .i64 (y' : Int)] 51) = W9 at t9 hb9 hlg9 ⊢
      have hB9 := below_next hBk hb9
      have HLG9 : Hid (LG W0 W9 bp g base n2 (gE N (es.take k))) := hlg9
      clear cx cy hb9 hlg9 hb9e HLG
      obtain ⟨z0, z1⟩ := cell_two t9
      obtain ⟨q0, q1⟩ := cell_two (HK3.out _ hB9)
      have h52 : Calls Try.prog 52 #[ptr bp, .int .i64 (lx : Int), .int .i64 (ey : Int), .int .i64 (N : Int), .int .i64 0] W9.drew fun r w' => r = .returned (.tuple #[]) ∧ LG W0 w' bp g base n2 (gE N (es.take k) ++ [(lx, ey, (N : Int))]) ∧ Below W0.heap.size W9.drew w' ∧ Keep51 W9.drew w' := LG.lay (LG.below HLG9.out (Below.refl _ W9).drew) (by omega) hlt4.1 hlt4.2.2.2 N
      have H52 : Hid (Calls Try.prog 52 #[ptr bp, .int .i64 (lx : Int), .int .i64 (ey : Int), .int .i64 (N : Int), .int .i64 0] W9.drew fun r w' => r = .returned (.tuple #[]) ∧ LG W0 w' bp g base n2 (gE N (es.take k) ++ [(lx, ey, (N : Int))]) ∧ Below W0.heap.size W9.drew w' ∧ Keep51 W9.drew w') := h52
      have hz := And.intro z0 (And.intro z1 (And.intro q0 q1))
      clear h52
      go_cut [] from 22 to 31 (fun wd => LG W0 wd bp g base n2 (gE N (es.take k) ++ [(lx, ey, (N : Int))]) ∧ Below W0.heap.size W0 wd ∧ Two wd b9 (.int .i64 (x' : Int)) (.int .i64 (y' : Int)) 51)
      case first =>
        go_region_with ((first
          | (go_at_call 44; refine (L1.out _).mono ?_; rintro r w2 ⟨rfl, hw2⟩; rw [hw2]; clear hw2)
          | (go_at_call 45; refine (E2.out _).mono ?_; rintro r w2 ⟨rfl, hw2⟩; rw [hw2]; clear hw2)
          | (go_at_call 52; refine Calls.mono H52.out ?_; rintro r W10 ⟨rfl, hlg10, hb10, hk10⟩)))
        all_goals
          go_wp2_with fail
          go_meet
          case rel => exact ⟨hlg10, hB9.drew.trans hb10, hk10 b9 _ _ t9⟩
      case rest =>
        clear z0 z1 q0 q1 hz H52 HLG9 t9 hB9
        obtain ⟨hlg10, hB10, t9⟩ := hcut
        have HLGA : Hid (LG W0 wc bp g base n2 (gE N (es.take k) ++ [(lx, ey, (N : Int))])) := hlg10
        clear hlg10
        obtain ⟨z0, z1⟩ := cell_two t9
        obtain ⟨q0, q1⟩ := cell_two (HK3.out _ hB10)
        have h52 : Calls Try.prog 52 #[ptr bp, .int .i64 (ly : Int), .int .i64 (ex : Int), .int .i64 (N : Int), .int .i64 0] wc.drew fun r w' => r = .returned (.tuple #[]) ∧ LG W0 w' bp g base n2 ((gE N (es.take k) ++ [(lx, ey, (N : Int))]) ++ [(ly, ex, (N : Int))]) ∧ Below W0.heap.size wc.drew w' ∧ Keep51 wc.drew w' := LG.lay (LG.below HLGA.out (Below.refl _ wc).drew) (by simp; omega) hlt4.2.1 hlt4.2.2.1 N
        have H52 : Hid (Calls Try.prog 52 #[ptr bp, .int .i64 (ly : Int), .int .i64 (ex : Int), .int .i64 (N : Int), .int .i64 0] wc.drew fun r w' => r = .returned (.tuple #[]) ∧ LG W0 w' bp g base n2 ((gE N (es.take k) ++ [(lx, ey, (N : Int))]) ++ [(ly, ex, (N : Int))]) ∧ Below W0.heap.size wc.drew w' ∧ Keep51 wc.drew w') := h52
        have hz := And.intro z0 (And.intro z1 (And.intro q0 q1))
        clear h52
        go_upto_region 6 with (fail)
        go_region_with ((first
          | (go_at_call 44; refine (L2.out _).mono ?_; rintro r w2 ⟨rfl, hw2⟩; rw [hw2]; clear hw2)
          | (go_at_call 45; refine (E1.out _).mono ?_; rintro r w2 ⟨rfl, hw2⟩; rw [hw2]; clear hw2)
          | (go_at_call 52; refine Calls.mono H52.out ?_; rintro r W10 ⟨rfl, hlg11, hb11, hk11⟩)))
        all_goals
          have HLGB : Hid (LG W0 W10 bp g base n2 (gE N (es.take (k + 1)))) := by show LG _ _ _ _ _ _ _; rw [HK?.out]; exact hlg11
          clear hlg11
          go_wp2
          go_roundw
          case rel => exact ⟨k + 1, by go_num, by omega, HLGB.out⟩
          case measure => simp [numOf]; omega
    · have i2 : ¬ (k : Int) < (es.length : Int) := by omega
      have hke : k = es.length := by omega
      subst hke
      rw [List.take_length] at hlg hlen
      have hBk : Below W0.heap.size W0 wr := by obtain ⟨_, _, _, _, _, _, _, _, h, _⟩ := hlg; exact h
      have HLG : Hid (LG W0 wr bp g base n2 (gE N es)) := hlg
      obtain ⟨q0, q1⟩ := cell_two (HK3.out _ hBk)
      clear hlg
      go_wp2
      clear q0 q1
      go_loopw [45] (fun iv wr => ∃ j : Nat, iv = .int .i64 (j : Int) ∧ j ≤ N ∧ LG W0 wr bp g base n2 (gE N es ++ gV s t j)) (fun iv _ => N - (numOf iv).toNat)
      case atStart => exact ⟨0, rfl, Nat.zero_le _, by simpa [gV] using HLG.out⟩
      case round =>
        clear HLG hBk
        obtain ⟨j, rfl, hj, hlg⟩ := hrel
        have hgl : (gE N es ++ gV s t j).length ≤ 5000 := by
          rw [List.length_append]
          have := gV_len s t j
          omega
        by_cases hltj : j < N
        · have i3 : (j : Int) < (N : Int) := by omega
          have hN2 := HN2.out
          obtain ⟨lj, hlj⟩ : ∃ z, z = 2 * j + 1 := ⟨_, rfl⟩
          obtain ⟨ej, hej⟩ : ∃ z, z = 2 * j := ⟨_, rfl⟩
          have hlt2 : lj < n2 ∧ ej < n2 := by omega
          have l1 := leaves_call (v := j) (by omega)
          have e1 := enters_call (v := j) (by omega)
          have hsu := gV_succ s t j
          rw [← hlj] at l1 hsu
          rw [← hej] at e1 hsu
          have L1 : Hid (∀ w : World, Calls Try.prog 44 #[.int .i64 (j : Int)] w fun e w' => e = .returned (.int .i64 (lj : Int)) ∧ w' = w) := l1
          have E1 : Hid (∀ w : World, Calls Try.prog 45 #[.int .i64 (j : Int)] w fun e w' => e = .returned (.int .i64 (ej : Int)) ∧ w' = w) := e1
          have HSU : Hid (gV s t (j + 1) = gV s t j ++ (if j ≠ s ∧ j ≠ t then [(ej, lj, (1 : Int))] else [])) := hsu
          have HLG : Hid (LG W0 wr bp g base n2 (gE N es ++ gV s t j)) := hlg
          have h52 := LG.lay HLG.out (by omega) hlt2.2 hlt2.1 1
          have H52 : Hid (Calls Try.prog 52 #[ptr bp, .int .i64 (ej : Int), .int .i64 (lj : Int), .int .i64 1, .int .i64 0] wr fun r w' => r = .returned (.tuple #[]) ∧ LG W0 w' bp g base n2 ((gE N es ++ gV s t j) ++ [(ej, lj, (1 : Int))]) ∧ Below W0.heap.size wr w' ∧ Keep51 wr w') := h52
          clear hlj hej l1 e1 hsu hlg h52 hN2
          by_cases hjs : j = s
          · have k1 : ((j : Int) != (s : Int)) = false := by simp [hjs]
            have HL2 : Hid (LG W0 wr bp g base n2 (gE N es ++ gV s t (j + 1))) := by show LG _ _ _ _ _ _ _; rw [HSU.out, if_neg (by simp [hjs]), List.append_nil]; exact HLG.out
            clear hjs
            go_wp2
            go_roundw
            case rel => exact ⟨j + 1, by go_num, by omega, HL2.out⟩
            case measure => simp [numOf]; omega
          · have k1 : ((j : Int) != (s : Int)) = true := by simp; omega
            by_cases hjt : j = t
            · have k2 : ((j : Int) != (t : Int)) = false := by simp [hjt]
              have HL2 : Hid (LG W0 wr bp g base n2 (gE N es ++ gV s t (j + 1))) := by show LG _ _ _ _ _ _ _; rw [HSU.out, if_neg (by simp [hjt]), List.append_nil]; exact HLG.out
              clear hjs hjt
              go_wp2
              go_roundw
              case rel => exact ⟨j + 1, by go_num, by omega, HL2.out⟩
              case measure => simp [numOf]; omega
            · have k2 : ((j : Int) != (t : Int)) = true := by simp; omega
              have HJ : Hid (j ≠ s ∧ j ≠ t) := ⟨hjs, hjt⟩
              clear hjs hjt
              go_wp2_with (first
                | (go_at_call 44; refine (L1.out _).mono ?_; rintro r w2 ⟨rfl, hw2⟩; rw [hw2]; clear hw2)
                | (go_at_call 45; refine (E1.out _).mono ?_; rintro r w2 ⟨rfl, hw2⟩; rw [hw2]; clear hw2)
                | (go_at_call 52; refine Calls.mono H52.out ?_; rintro r W10 ⟨rfl, hlg10, hb10, hk10⟩; have HL2 : Hid (LG W0 W10 bp g base n2 (gE N es ++ gV s t (j + 1))) := (by show LG _ _ _ _ _ _ _; rw [HSU.out, if_pos HJ.out, ← List.append_assoc]; exact hlg10); clear hlg10)
                | go_in)
              go_roundw
              case rel => exact ⟨j + 1, by go_num, by omega, HL2.out⟩
              case measure => simp [numOf]; omega
        · have i3 : ¬ (j : Int) < (N : Int) := by omega
          have hjN : j = N := by omega
          subst hjN
          obtain ⟨vs, ls, ta, tc, ra, rc, h1, h2, h3, h4⟩ := hlg
          have h1' : LS wr w.heap.size bp g base n2 vs ls (.slice ta (2 * (gE j es ++ gV s t j).length) tc) (.slice ra (2 * (gE j es ++ gV s t j).length) rc) (tsG (gE j es ++ gV s t j)) (rsG (gE j es ++ gV s t j)) := ⟨h1.box, h1.near, h1.tos, h1.room, h1.sep, h1.two, by have := h1.lt; omega⟩
          have hp := h1'.pipes (bz := w.heap.size) h2 (tsG_len _) (rsG_len _) (by omega) (by omega) h4
          have hBz := below_next hB0 h3
          have HP : Hid _ := hp
          clear h1 h1' h2 hp
          go_wp2
          go_ret
          obtain ⟨c, p1, p2, p3, _, p5, p6, p7, p8, p9, p10⟩ := HP.out
          exact ⟨bp, rfl, hBz, c, p1, p2, p3, p5, p6, p7, p8, p9, p10⟩
end Go.Proofs.Ytkakmaalmhofmaa
