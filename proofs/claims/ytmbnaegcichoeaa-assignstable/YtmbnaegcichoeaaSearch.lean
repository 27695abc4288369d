/- searchFrom: how the columns are reached from a row. -/
import Derived.Test.YtmbnaegcichoeaaDeal
import Derived.Test.YtmbnaegcichoeaaRepeat
namespace Go.Proofs.Ytmbnaegcichoeaa
open Go.RowKit Go.Maps
attribute [local go_sem ↓] Go.wp_at_zero Go.wp_at_succ

theorem Try.info54 : (Try.prog.info? 54).map (fun i => (i.zero, i.size, i.bytes)) = some (some (.agg #[.slice none 0 0, .slice none 0 0, .slice none 0 0]), 3, 72) := by kernel_rfl
theorem one_cellAt (w : World) (x : Value) (t : TypeId) {b : Nat} (h : w.heap.size = b) : (w.alloc (Obj.cells #[x] t)).drew.cell? ⟨b, 0, none⟩ = some x := by
  subst h; exact one_cell w x t
theorem one_cellAt1 (w : World) (x : Value) (t : TypeId) (o : Obj) {b : Nat} (h : w.heap.size = b) : ((w.alloc (Obj.cells #[x] t)).alloc o).drew.cell? ⟨b, 0, none⟩ = some x := by
  subst h; exact all_alloc (one_cell w x t) o
theorem one_cellAt2 (w : World) (x : Value) (t : TypeId) (o o' : Obj) {b : Nat} (h : w.heap.size = b) : (((w.alloc (Obj.cells #[x] t)).alloc o).alloc o').drew.cell? ⟨b, 0, none⟩ = some x := by
  subst h; exact all_alloc (all_alloc (one_cell w x t) o) o'
theorem box_alloc {w : World} {b : Nat} {cs : Array Value} {t : TypeId} (h : Box w b cs t) (o : Obj) : Box (w.alloc o) b cs t := (Below.heap_alloc _ _ _ (Array.getElem?_eq_some_iff.1 h).1).trans h
theorem after_new (w : World) (cs : Array Value) (t : TypeId) {i : Nat} {x : Value} (hx : cs[i]? = some x) (o : Obj) : ((w.alloc (Obj.cells cs t)).alloc o).cell? ⟨w.heap.size, i, none⟩ = some x ∧ ((w.alloc (Obj.cells cs t)).alloc o).frozen? ⟨w.heap.size, i, none⟩ = false := by
  have hb : Box ((w.alloc (Obj.cells cs t)).alloc o) w.heap.size cs t := (Below.heap_alloc _ _ _ (by simp)).trans (heap_alloc_new w _)
  exact ⟨box_cell hb hx, box_free hb i⟩
/-- What was made ahead of a call lies there behind it. -/
theorem keepA {w W Wq : World} {b bq : Nat} {cs : Array Value} {t : TypeId} (h : Box W b cs t) (hb : Below W.drew.heap.size W.drew Wq) (hq : W.drew.heap.size ≤ bq) (hw : w.heap.size ≤ b) : Box Wq b cs t ∧ w.heap.size ≤ b ∧ b ≠ bq := by
  have h1 : b < W.heap.size := (Array.getElem?_eq_some_iff.1 h).1
  have h2 : W.heap.size ≤ bq := hq
  exact ⟨(hb.block _ h1).trans h, hw, by omega⟩
theorem at2_0 (w : World) (cs : Array Value) (t : TypeId) (o : Obj) : Box ((w.alloc (Obj.cells cs t)).alloc o) w.heap.size cs t := box_alloc (heap_alloc_new _ _) _
theorem at2_1 (w : World) (cs : Array Value) (t : TypeId) (o : Obj) : Box ((w.alloc o).alloc (Obj.cells cs t)) (w.heap.size + 1) cs t := by
  have := heap_alloc_new (w.alloc o) (Obj.cells cs t)
  have hz : (w.alloc o).heap.size = w.heap.size + 1 := by simp
  rw [hz] at this
  exact this
theorem at3_2 (w : World) (cs : Array Value) (t : TypeId) (o o' : Obj) : Box (((w.alloc o).alloc o').alloc (Obj.cells cs t)) (w.heap.size + 1 + 1) cs t := by
  have := heap_alloc_new ((w.alloc o).alloc o') (Obj.cells cs t)
  have hz : ((w.alloc o).alloc o').heap.size = w.heap.size + 1 + 1 := by simp
  rw [hz] at this
  exact this
theorem cell_three {w : World} {b : Nat} {x y z : Value} {t : TypeId} (h : Box w b #[x, y, z] t) : w.cell? ⟨b, 0, none⟩ = some x ∧ w.cell? ⟨b, 1, none⟩ = some y ∧ w.cell? ⟨b, 2, none⟩ = some z := ⟨box_cell h rfl, box_cell h rfl, box_cell h rfl⟩
def Laid (W0 wd : World) (n : Nat) (s : Int) (bs bf bg : Nat) : Prop :=
  Box wd bs #[sl bf n, sl bg n, .slice none 0 0] 54 ∧ RowV wd bf 3 n (fun _ => .int .i64 0) ∧ RowV wd bg 3 n (fun _ => .int .i64 s) ∧ bs ≠ bf ∧ bs ≠ bg ∧ bf ≠ bg ∧ W0.heap.size ≤ bs ∧ W0.heap.size ≤ bf ∧ W0.heap.size ≤ bg ∧ Below W0.heap.size W0 wd
section
variable {W0 Wq : World} {n m bq a : Nat} {s : Int}
theorem box_lt {w : World} {b : Nat} {cs : Array Value} {t : TypeId} (h : Box w b cs t) : b < w.heap.size := (Array.getElem?_eq_some_iff.1 h).1
theorem laid_i (hB : Below W0.heap.size W0 Wq) (hM : Box Wq m (rep n (.int .i64 0)) 3) (hq : RowV Wq bq 3 n (fun _ => .int .i64 s)) (hm : W0.heap.size ≤ m) (hmq : m ≠ bq) (hbq : W0.heap.size ≤ bq) : Laid W0 (Wq.alloc (Obj.cells #[sl m n, sl bq n, .slice none 0 0] 54)) n s Wq.heap.size m bq := by
  have h1 := box_lt hM
  have h2 := hq.lt
  exact ⟨heap_alloc_new _ _, rowV_rep (box_alloc hM _), hq.block (Below.heap_alloc _ _ _ h2), by omega, by omega, hmq, hB.size, hm, hbq, below_alloc hB _⟩
theorem laid_iii (hB : Below W0.heap.size W0 Wq) (hq : RowV Wq bq 3 n (fun _ => .int .i64 s)) (hbq : W0.heap.size ≤ bq) : Laid W0 ((Wq.alloc (Obj.cells (rep n (.int .i64 0)) 3)).alloc (Obj.cells #[sl Wq.heap.size n, sl bq n, .slice none 0 0] 54)) n s (Wq.heap.size + 1) Wq.heap.size bq := by
  have h2 := hq.lt
  have h := laid_i (below_alloc hB (Obj.cells (rep n (.int .i64 0)) 3)) (m := Wq.heap.size) (bq := bq) (s := s) (heap_alloc_new _ _) (hq.block (Below.heap_alloc _ _ _ h2)) hB.size (by omega) hbq
  simpa using h
theorem laid_iv (hB : Below W0.heap.size W0 Wq) (hq : RowV Wq bq 3 n (fun _ => .int .i64 s)) (hbq : W0.heap.size ≤ bq) : Laid W0 ((Wq.alloc (Obj.cells #[sl (Wq.heap.size + 1) n, sl bq n, .slice none 0 0] 54)).alloc (Obj.cells (rep n (.int .i64 0)) 3)) n s Wq.heap.size (Wq.heap.size + 1) bq := by
  have h2 := hq.lt
  have h3 := hB.size
  have hn := heap_alloc_new (Wq.alloc (Obj.cells #[sl (Wq.heap.size + 1) n, sl bq n, .slice none 0 0] 54)) (Obj.cells (rep n (.int .i64 0)) 3)
  have hz : (Wq.alloc (Obj.cells #[sl (Wq.heap.size + 1) n, sl bq n, .slice none 0 0] 54)).heap.size = Wq.heap.size + 1 := by simp
  rw [hz] at hn
  exact ⟨box_alloc (heap_alloc_new _ _) _, rowV_rep hn, (hq.block (Below.heap_alloc _ _ _ h2)).block (Below.heap_alloc _ _ _ (by rw [hz]; omega)), by omega, by omega, by omega, hB.size, by omega, hbq, below_alloc (below_alloc hB _) _⟩
theorem laid_ii (hB : Below W0.heap.size W0 Wq) (hA : Box Wq a #[.slice none 0 0, .slice none 0 0, .slice none 0 0] 54) (hM : Box Wq m (rep n (.int .i64 0)) 3) (hq : RowV Wq bq 3 n (fun _ => .int .i64 s)) (ha : W0.heap.size ≤ a) (hm : W0.heap.size ≤ m) (hmq : m ≠ bq) (hbq : W0.heap.size ≤ bq) (haq : a ≠ bq) :
    Laid W0 (((Wq.setCell ⟨a, 0, none⟩ (sl m n)).setCell ⟨a, 1, none⟩ (sl bq n)).setCell ⟨a, 2, none⟩ (.slice none 0 0)) n s a m bq := by
  have ham : a ≠ m := fun e => by
    subst e
    have : Wq.heap[a]? = some (.cells (rep n (.int .i64 0)) 3 (0, 0)) := hM
    rw [hA] at this; simp at this
  have h1 := box_set (box_set (box_set hA 0 (sl m n)) 1 (sl bq n)) 2 (.slice none 0 0)
  have T : ∀ (w : World) (o : Nat) (x : Value), Turns (fun k => k = a) w (w.setCell ⟨a, o, none⟩ x) := fun w o x => setCell_turns w a o x
  exact ⟨h1, (((rowV_rep hM).turns (T _ 0 (sl m n)) (fun e => ham e.symm)).turns (T _ 1 (sl bq n)) (fun e => ham e.symm)).turns (T _ 2 (.slice none 0 0)) (fun e => ham e.symm), ((hq.turns (T _ 0 (sl m n)) (fun e => haq e.symm)).turns (T _ 1 (sl bq n)) (fun e => haq e.symm)).turns (T _ 2 (.slice none 0 0)) (fun e => haq e.symm), ham, haq, hmq, ha, hm, hbq, ((hB.setCell (p := ⟨a, 0, none⟩) ha _).setCell (p := ⟨a, 1, none⟩) ha _).setCell (p := ⟨a, 2, none⟩) ha _⟩
theorem laid_v (hB : Below W0.heap.size W0 Wq) (hA : Box Wq a #[.slice none 0 0, .slice none 0 0, .slice none 0 0] 54) (hq : RowV Wq bq 3 n (fun _ => .int .i64 s)) (ha : W0.heap.size ≤ a) (hbq : W0.heap.size ≤ bq) (haq : a ≠ bq) :
    Laid W0 ((((Wq.alloc (Obj.cells (rep n (.int .i64 0)) 3)).setCell ⟨a, 0, none⟩ (sl Wq.heap.size n)).setCell ⟨a, 1, none⟩ (sl bq n)).setCell ⟨a, 2, none⟩ (.slice none 0 0)) n s a Wq.heap.size bq := by
  have h2 := hq.lt
  exact laid_ii (below_alloc hB _) (box_alloc hA _) (heap_alloc_new _ _) (hq.block (Below.heap_alloc _ _ _ h2)) ha hB.size (by omega) hbq haq
end
def lenAt (w : World) (b : Nat) : Nat := match w.cell? ⟨b, 2, none⟩ with
  | some (.slice _ n _) => n
  | _ => 0
theorem SS.len {c : Sc} {w : World} {po : Option Addr} {m pc : Nat} {fa fr : Nat → Int} (h : SS c w (.slice po m pc) fa fr) : lenAt w c.bs = m := by
  unfold lenAt; rw [h.cellB.2.2]
theorem Turns.next {M M' : Nat → Prop} {a b d : World} (h : Turns M a b) (k : Turns M' b d) (hm : ∀ x, x < a.heap.size → M' x → M x) : Turns M a d :=
  ⟨k.os.trans h.os, k.tape.trans h.tape, k.output.trans h.output, Nat.le_trans h.size k.size, fun i hi hn => (k.block i (Nat.lt_of_lt_of_le hi h.size) (fun h' => hn (hm i hi h'))).trans (h.block i hi hn)⟩
/-- What a search answers. -/
def FoundAt (c : Dc) (s : Nat) (r u ow : Nat → Int) (B : Nat) (w' : World) (v : Value) : Prop :=
  ∃ (bf bg : Nat) (po : Option Addr) (pc : Nat) (L : List Nat) (col : Nat) (fa fr : Nat → Int), v = .agg #[sl bf c.n, sl bg c.n, .slice po (L ++ [col]).length pc] ∧ RowV w' bf 3 c.n (iv fa) ∧ RowV w' bg 3 c.n (iv fr) ∧ w'.ownsRow B 3 1 (.slice po (L ++ [col]).length pc) (L ++ [col]).length (qv (L ++ [col])) ∧ B ≤ bf ∧ B ≤ bg ∧ Sr c.n s c.C r u ow L fa fr ∧ Ended c.n ow fa L col
set_option maxRecDepth 4000 in
set_option maxHeartbeats 6000000 in
theorem search_call {c : Dc} {w : World} {r u tk ow : Nat → Int} {s : Nat} (hd : DS c w r u tk ow) (hm : Mt c.n s c.C r u tk ow) (hs : s < c.n) (hn : c.n ≤ 100) (hC : ∀ i j, i < c.n → j < c.n → -1000000 ≤ c.C i j ∧ c.C i j ≤ 1000000) :
    Calls Try.prog 28 #[ptr c.bp, .int .i64 (s : Int)] w fun e w' => ∃ v, e = .returned v ∧ FoundAt c s r u ow w.heap.size w' v ∧ Below w.heap.size w w' := by
  have HD : Hid (DS c w r u tk ow) := hd
  have HM : Hid (Mt c.n s c.C r u tk ow) := hm
  have HC : Hid (∀ i j, i < c.n → j < c.n → -1000000 ≤ c.C i j ∧ c.C i j ≤ 1000000) := hC
  obtain ⟨c0, _, _, _, c4⟩ := hd.cellB
  obtain ⟨ao, cap, ev⟩ := hd.grid.form
  rw [ev] at c0
  have HEV : Hid (c.v = .slice ao c.n cap) := ev
  clear hd hm hC ev
  go_enter Try.func28, Try.ntmps28
  go_upto_region 1 with (fail)
  have hB0 := below_alloc (Below.refl _ w) (Obj.cells #[.slice none 0 0, .slice none 0 0, .slice none 0 0] 54)
  have hx4 : Box (w.alloc (Obj.cells #[.slice none 0 0, .slice none 0 0, .slice none 0 0] 54)) w.heap.size #[.slice none 0 0, .slice none 0 0, .slice none 0 0] 54 := heap_alloc_new _ _
  generalize w.alloc (Obj.cells #[.slice none 0 0, .slice none 0 0, .slice none 0 0] 54) = W0 at hB0 hx4 ⊢
  have c0' := (hB0.cell (World.block_lt_of_cell? w _ c0)).trans c0
  clear c0
  go_upto_region 2 with (fail)
  clear c0'
  have hmk := make27 c.n (by omega)
  go_cut [6] from 15 to 21 (fun s6 wd => ∃ bs bf bg : Nat, s6 = ptr bs ∧ Laid W0 wd c.n s bs bf bg)
  case first =>
    go_region_with ((go_at_call 26; refine Calls.mono (repeat_call (x := (s : Int)) (by first | exact one_cellAt _ _ _ (by simp) | exact one_cellAt1 _ _ _ _ (by simp) | exact one_cellAt2 _ _ _ _ _ (by simp)) (by omega)) ?_; rintro e Wq ⟨bq, rfl, hbq, hrq, hbq2⟩; have hBq : Below W0.heap.size W0 Wq := (by first | exact below_next (below_alloc (Below.refl _ W0) _).drew hbq2 | exact below_next (below_alloc (below_alloc (Below.refl _ W0) _) _).drew hbq2 | exact below_next (below_alloc (below_alloc (below_alloc (Below.refl _ W0) _) _) _).drew hbq2); have hbqs : W0.heap.size ≤ bq := Nat.le_trans (by first | exact (below_alloc (Below.refl _ W0) _).size | exact (below_alloc (below_alloc (Below.refl _ W0) _) _).size | exact (below_alloc (below_alloc (below_alloc (Below.refl _ W0) _) _) _).size) hbq; (first | (have xM : Box Wq (W0.heap.size) (rep c.n (.int .i64 0)) 3 ∧ W0.heap.size ≤ W0.heap.size ∧ W0.heap.size ≠ bq := keepA (w := W0) (at2_0 _ _ _ _) hbq2 hbq (by omega)) | (have xM : Box Wq (W0.heap.size + 1) (rep c.n (.int .i64 0)) 3 ∧ W0.heap.size ≤ W0.heap.size + 1 ∧ W0.heap.size + 1 ≠ bq := keepA (w := W0) (at2_1 _ _ _ _) hbq2 hbq (by omega)) | (have xM : Box Wq (W0.heap.size) (rep c.n (.int .i64 0)) 3 ∧ W0.heap.size ≤ W0.heap.size ∧ W0.heap.size ≠ bq := keepA (w := W0) (box_alloc (at2_0 _ _ _ _) _) hbq2 hbq (by omega)) | (have xM : Box Wq (W0.heap.size + 1) (rep c.n (.int .i64 0)) 3 ∧ W0.heap.size ≤ W0.heap.size + 1 ∧ W0.heap.size + 1 ≠ bq := keepA (w := W0) (box_alloc (at2_1 _ _ _ _) _) hbq2 hbq (by omega)) | (have xM : Box Wq (W0.heap.size + 1 + 1) (rep c.n (.int .i64 0)) 3 ∧ W0.heap.size ≤ W0.heap.size + 1 + 1 ∧ W0.heap.size + 1 + 1 ≠ bq := keepA (w := W0) (at3_2 _ _ _ _ _) hbq2 hbq (by omega)) | skip); (first | (have x6 : Box Wq (W0.heap.size) #[.slice none 0 0, .slice none 0 0, .slice none 0 0] 54 ∧ W0.heap.size ≤ W0.heap.size ∧ W0.heap.size ≠ bq := keepA (w := W0) (at2_0 _ _ _ _) hbq2 hbq (by omega)) | (have x6 : Box Wq (W0.heap.size + 1) #[.slice none 0 0, .slice none 0 0, .slice none 0 0] 54 ∧ W0.heap.size ≤ W0.heap.size + 1 ∧ W0.heap.size + 1 ≠ bq := keepA (w := W0) (at2_1 _ _ _ _) hbq2 hbq (by omega)) | (have x6 : Box Wq (W0.heap.size) #[.slice none 0 0, .slice none 0 0, .slice none 0 0] 54 ∧ W0.heap.size ≤ W0.heap.size ∧ W0.heap.size ≠ bq := keepA (w := W0) (box_alloc (at2_0 _ _ _ _) _) hbq2 hbq (by omega)) | (have x6 : Box Wq (W0.heap.size + 1) #[.slice none 0 0, .slice none 0 0, .slice none 0 0] 54 ∧ W0.heap.size ≤ W0.heap.size + 1 ∧ W0.heap.size + 1 ≠ bq := keepA (w := W0) (box_alloc (at2_1 _ _ _ _) _) hbq2 hbq (by omega)) | (have x6 : Box Wq (W0.heap.size + 1 + 1) #[.slice none 0 0, .slice none 0 0, .slice none 0 0] 54 ∧ W0.heap.size ≤ W0.heap.size + 1 + 1 ∧ W0.heap.size + 1 + 1 ≠ bq := keepA (w := W0) (at3_2 _ _ _ _ _) hbq2 hbq (by omega)) | skip); first | (have f6 := box_free x6.1; obtain ⟨k0, k1, k2⟩ := cell_three x6.1; have k0' := all_alloc k0; have k1' := all_alloc k1; have k2' := all_alloc k2; have f6' := fun o => box_free (box_alloc x6.1 o)) | (have k0 := fun o => (after_new Wq #[.slice none 0 0, .slice none 0 0, .slice none 0 0] 54 (i := 0) rfl o).1; have k1 := fun o => (after_new Wq #[.slice none 0 0, .slice none 0 0, .slice none 0 0] 54 (i := 1) rfl o).1; have k2 := fun o => (after_new Wq #[.slice none 0 0, .slice none 0 0, .slice none 0 0] 54 (i := 2) rfl o).1; have f0 := fun o => (after_new Wq #[.slice none 0 0, .slice none 0 0, .slice none 0 0] 54 (i := 0) rfl o).2; have f1 := fun o => (after_new Wq #[.slice none 0 0, .slice none 0 0, .slice none 0 0] 54 (i := 1) rfl o).2; have f2 := fun o => (after_new Wq #[.slice none 0 0, .slice none 0 0, .slice none 0 0] 54 (i := 2) rfl o).2)))
    all_goals
      go_wp2_with fail
      go_meet
      case rel =>
        first
        | exact ⟨_, _, _, rfl, laid_i hBq xM.1 hrq xM.2.1 xM.2.2 hbqs⟩
        | exact ⟨_, _, _, rfl, laid_ii hBq x6.1 xM.1 hrq x6.2.1 xM.2.1 xM.2.2 hbqs x6.2.2⟩
        | exact ⟨_, _, _, rfl, laid_iii hBq hrq hbqs⟩
        | exact ⟨_, _, _, rfl, laid_iv hBq hrq hbqs⟩
        | exact ⟨_, _, _, rfl, laid_v hBq x6.1 hrq x6.2.1 hbqs x6.2.2⟩
  case rest =>
    clear c4 hmk
    obtain ⟨bs, bf, bg, rfl, hbox, hrf, hrg, hn1, hn2, hn3, hg1, hg2, hg3, hBc⟩ := hcut
    have hss0 : SS ⟨bs, bf, bg, c.n⟩ wc (.slice none 0 0) (fun _ => 0) (fun _ => (s : Int)) := ⟨hbox, hrf, hrg, hn1, hn2, hn3⟩
    have hlo : ∀ k, c.own k → k < w.heap.size := fun k hk => HD.out.lt hk
    have hclo : c.lo ≤ w.heap.size := by
      have h1 := HD.out.ge.1
      have h2 := hlo c.bp (Or.inl rfl)
      omega
    have hsep : ∀ k, W0.heap.size ≤ k → c.lo ≤ k ∧ ¬ c.own k := fun k hk => ⟨by have := hB0.size; omega, fun ho => by have := hlo k ho; have := hB0.size; omega⟩
    have HSEP : Hid (∀ k, W0.heap.size ≤ k → c.lo ≤ k ∧ ¬ c.own k) := hsep
    have HD1 : Hid (DS c wc r u tk ow) := (HD.out.below hB0).below hBc
    have hx4c : Box wc w.heap.size #[.slice none 0 0, .slice none 0 0, .slice none 0 0] 54 := (hBc.block _ (box_lt hx4)).trans hx4
    have hb4 : w.heap.size < W0.heap.size := box_lt hx4
    have hBw := below_next hB0 hBc
    have HSS0 : Hid (SS ⟨bs, bf, bg, c.n⟩ wc (.slice none 0 0) (fun _ => 0) (fun _ => (s : Int))) := hss0
    obtain ⟨rs, hrs⟩ : ∃ rs : Nat → Int, rs = fun j => c.C s j - r s - u j := ⟨_, rfl⟩
    have HRS : Hid (rs = fun j => c.C s j - r s - u j) := hrs
    obtain ⟨tt1, tt2⟩ := HM.out.tight hs HC.out
    have HT1 : Hid (∀ i, i < c.n → r i ≤ 1000000) := tt1
    have HT2 : Hid (∀ j, j < c.n → -2000000 ≤ u j) := tt2
    clear hbox hrf hrg hss0 hsep hlo hclo hrs tt1 tt2 hx4 HD
    go_wp2
    go_loopw [23] (fun iv' wr => ∃ k : Nat, k ≤ c.n ∧ iv' = .int .i64 (k : Int) ∧ SS ⟨bs, bf, bg, c.n⟩ wr (.slice none 0 0) (fun j => if j < k then rs j else 0) (fun _ => (s : Int)) ∧ Turns (fun k => k = bf) wc wr) (fun iv' _ => c.n - (numOf iv').toNat)
    case atStart => exact ⟨0, Nat.zero_le _, rfl, SS.congr HSS0.out (fun j _ => by simp) (fun _ _ => rfl), Turns.refl _ _⟩
    case round =>
      clear HSS0
      obtain ⟨k, hk, rfl, hss, ht⟩ := hrel
      by_cases hlt : k < c.n
      · have i1 : (0 : Int) ≤ (k : Int) := by omega
        have i2 : (k : Int) < (c.n : Int) := by omega
        have hd1 : DS c wr r u tk ow := DS.turns HD1.out ht (fun k hk => by rw [hk]; exact HSEP.out bf hg2)
        have q1 := HC.out s k hs hlt
        have q2 := HM.out.rlow s hs
        have q3 := HT1.out s hs
        have q4 := HT2.out k hlt
        have q5 := HM.out.uup k hlt
        have h35 := rest_call (w := wr.drew) (hd1.below (Below.refl _ wr).drew) hs hlt (by omega) (by omega) (by omega)
        have hrk : c.C s k - r s - u k = rs k := by rw [HRS.out]
        rw [hrk] at h35
        have H35 : Hid (Calls Try.prog 35 #[ptr c.bp, .int .i64 (s : Int), .int .i64 (k : Int)] wr.drew fun e w' => e = .returned (.int .i64 (rs k)) ∧ ∃ m, w' = wr.drew.drewN m) := h35
        obtain ⟨s0, _, _⟩ := hss.cellB
        have ck := hss.far.cell hlt
        have fk := hss.far.free k
        unfold iv at ck
        simp only at s0 ck fk
        have HSS : Hid (SS ⟨bs, bf, bg, c.n⟩ wr (.slice none 0 0) (fun j => if j < k then rs j else 0) (fun _ => (s : Int))) := hss
        clear hss hd1 h35 hrk q1 q2 q3 q4 q5
        go_upto_region 6 with (fail)
        go_region_with ((go_at_call 35; refine Calls.mono H35.out ?_; rintro e Wx ⟨rfl, mm, hWx⟩; have a0 : Wx.cell? ⟨bs, 0, none⟩ = some (sl bf c.n) := (by rw [hWx]; exact s0); have a1 : Wx.frozen? ⟨bf, k, none⟩ = false := (by rw [hWx]; exact fk); have a2 : Wx.cell? ⟨bf, k, none⟩ = some (.int .i64 (if k < k then rs k else 0)) := (by rw [hWx]; exact ck); have HWx : Hid (Wx = wr.drew.drewN mm) := hWx; clear hWx))
        all_goals
          have hbx : Below wr.heap.size wr Wx := by rw [HWx.out]; exact below_next (Below.refl _ wr).drew (drewN_below _ _)
          have hs1 := SS.setF (SS.below HSS.out hbx) k (rs k)
          have HS2 : Hid (SS ⟨bs, bf, bg, c.n⟩ (Wx.setCell ⟨bf, k, none⟩ (.int .i64 (rs k))) (.slice none 0 0) (fun j => if j < k + 1 then rs j else 0) (fun _ => (s : Int))) := SS.congr hs1 (fun j _ => by
            by_cases e : j = k
            · subst e; simp
            · by_cases e2 : j < k
              · simp [e, e2, show j < k + 1 by omega]
              · simp [e, e2, show ¬ j < k + 1 by omega]) (fun _ _ => rfl)
          have ht2 : Turns (fun k => k = bf) wc (Wx.setCell ⟨bf, k, none⟩ (.int .i64 (rs k))) := (ht.trans (Turns.of_below hbx _)).trans (setCell_turns _ _ _ _)
          clear hs1
          go_wp2
          go_roundw
          case rel => exact ⟨k + 1, by omega, by go_num, HS2.out, ht2⟩
          case measure => simp [numOf]; omega
      · have i2 : ¬ (k : Int) < (c.n : Int) := by omega
        have hkn : k = c.n := by omega
        subst hkn
        have HSS : Hid (SS ⟨bs, bf, bg, c.n⟩ wr (.slice none 0 0) rs (fun _ => (s : Int))) := SS.congr hss (fun j hj => if_pos hj) (fun _ _ => rfl)
        have HD2 : Hid (DS c wr r u tk ow) := DS.turns HD1.out ht (fun k hk => by rw [hk]; exact HSEP.out bf hg2)
        have hx4r : Box wr w.heap.size #[.slice none 0 0, .slice none 0 0, .slice none 0 0] 54 := box_turns hx4c ht (by omega)
        have hBr : Below w.heap.size w wr := Turns.below hBw ht hBw.size (fun k hk => by rw [hk]; have := hB0.size; omega)
        clear hss ht HD1 hx4c hBw hBc
        go_upto_region 9 with (first | (go_at_call 36; refine Calls.mono (repeatB_call (x := true) (one_cell _ _ _) (by omega)) ?_; rintro e Wl ⟨bo, rfl, hbo, hro, hbl⟩) | go_in)
        have hbl' := below_next (below_alloc (Below.refl _ wr) (Obj.cells #[.bool true] 4)) hbl
        have HSL : Hid (SS ⟨bs, bf, bg, c.n⟩ Wl (.slice none 0 0) rs (fun _ => (s : Int))) := SS.below HSS.out hbl'
        have HDL : Hid (DS c Wl r u tk ow) := DS.below HD2.out hbl'
        have hx4l : Box Wl w.heap.size #[.slice none 0 0, .slice none 0 0, .slice none 0 0] 54 := (hbl'.block _ (box_lt hx4r)).trans hx4r
        have hBl : Below w.heap.size w Wl := below_next hBr hbl'
        have hbo1 : wr.heap.size ≤ bo := by simp at hbo; omega
        have hlts : bs < wr.heap.size ∧ bf < wr.heap.size ∧ bg < wr.heap.size := ⟨HSS.out.lt (Or.inl rfl), HSS.out.lt (Or.inr (Or.inl rfl)), HSS.out.lt (Or.inr (Or.inr rfl))⟩
        have hWl : wr.heap.size ≤ Wl.heap.size := hbl'.size
        have hbo2 : bo < Wl.heap.size := hro.lt
        have HRO : Hid (RowV Wl bo 4 c.n (fun _ => .bool true)) := hro
        clear HSS HD2 hx4r hBr hbl hbl' hbo hro
        go_loopw [] (fun wr => ∃ (L : List Nat) (fa fr : Nat → Int) (po : Option Addr) (pc : Nat), SS ⟨bs, bf, bg, c.n⟩ wr (.slice po L.length pc) fa fr ∧ wr.ownsRow Wl.heap.size 3 1 (.slice po L.length pc) L.length (qv L) ∧ RowV wr bo 4 c.n (bv (fun j => decide (j ∉ L))) ∧ Sr c.n s c.C r u ow L fa fr ∧ Turns (fun k => k = bs ∨ k = bf ∨ k = bg ∨ k = bo) Wl wr) (fun wr => c.n - lenAt wr bs)
        case atStart => exact ⟨[], rs, fun _ => (s : Int), none, 0, HSL.out, by simpa [qv] using World.ownsRow_nil _ _ _ _, HRO.out.congr (fun j _ => by simp [bv]), by rw [HRS.out]; exact Sr.start HM.out hs, Turns.refl _ _⟩
        case round =>
          clear HSL HRO
          obtain ⟨L, fa, fr, po, pc, hss, hown, hro, hsr, ht⟩ := hrel
          have hLn : L.length ≤ s := HM.out.short hsr.nodup hsr.lt hsr.mat
          obtain ⟨j0, hj0, hj0L, _⟩ := HM.out.some hs hsr.mat
          have h37 := nearest_call (c := ⟨bs, bf, bg, c.n⟩) hss hro (by simp; omega) hj0 (by simpa using hj0L)
          simp only at h37
          have H37 : Hid (Calls Try.prog 37 #[ptr bs, sl bo c.n] wr fun e w' => ∃ m : Nat, e = .returned (.int .i64 (m : Int)) ∧ m < c.n ∧ decide (m ∉ L) = true ∧ (∀ j, j < c.n → decide (j ∉ L) = true → fa m ≤ fa j) ∧ Below wr.heap.size wr w') := h37
          have HSS : Hid (SS ⟨bs, bf, bg, c.n⟩ wr (.slice po L.length pc) fa fr) := hss
          have HOWN : Hid (wr.ownsRow Wl.heap.size 3 1 (.slice po L.length pc) L.length (qv L)) := hown
          have HRO : Hid (RowV wr bo 4 c.n (bv (fun j => decide (j ∉ L)))) := hro
          have HSR : Hid (Sr c.n s c.C r u ow L fa fr) := hsr
          have hmew : lenAt wr bs = L.length := SS.len hss
          clear hss hown hro hsr h37 hj0 hj0L
          go_upto_region 10 with (first | (go_at_call 37; refine Calls.mono H37.out ?_; rintro e W1 ⟨m, rfl, hm, hmL, hmin, hb1⟩) | go_in)
          have hss1 := SS.below HSS.out hb1
          have hro1 := RowV.block HRO.out (hb1.block _ (RowV.lt HRO.out))
          have hown1 := ownsRow_blocks HOWN.out (fun b hb => hb1.block b (HOWN.out.lt b hb).2)
          have ht1 := ht.trans (Turns.of_below hb1 _)
          have co := hro1.cell hm
          have fo := hro1.free m
          unfold bv at co
          simp only at co
          rw [hmL] at co
          have i1 : (0 : Int) ≤ (m : Int) := by omega
          have i2 : (m : Int) < (c.n : Int) := by omega
          have hmL' : m ∉ L := by simpa using hmL
          have HMIN : Hid (m ∉ L ∧ ∀ j, j < c.n → j ∉ L → fa m ≤ fa j) := ⟨hmL', fun j hj hjL => hmin j hj (by simpa using hjL)⟩
          have hss2 : SS ⟨bs, bf, bg, c.n⟩ (W1.setCell ⟨bo, m, none⟩ (.bool false)) (.slice po L.length pc) fa fr := SS.turns hss1 (setCell_turns W1 bo m (.bool false)) (fun k hk => by
            rw [hk]
            rintro (h | h | h)
            · have : bo = bs := h; omega
            · have : bo = bf := h; omega
            · have : bo = bg := h; omega)
          have hro2 : RowV (W1.setCell ⟨bo, m, none⟩ (.bool false)) bo 4 c.n (bv (fun j => decide (j ∉ L ++ [m]))) := (hro1.set m (.bool false)).congr (fun j _ => by
            unfold bv
            by_cases e : j = m
            · subst e; simp
            · simp [e])
          have ht2 : Turns (fun k => k = bs ∨ k = bf ∨ k = bg ∨ k = bo) Wl (W1.setCell ⟨bo, m, none⟩ (.bool false)) := ht1.trans ((setCell_turns W1 bo m (.bool false)).mono (fun _ _ h => Or.inr (Or.inr (Or.inr h))))
          have hown2 : (W1.setCell ⟨bo, m, none⟩ (.bool false)).ownsRow Wl.heap.size 3 1 (.slice po L.length pc) L.length (qv L) := ownsRow_setCell_below (a := ⟨bo, m, none⟩) hown1 hbo2 (.bool false)
          clear hss1 hro1 hown1 ht1 hmL hmin hb1 ht HSS HRO HOWN H37 hmL'
          go_upto_region 11 with (fail)
          clear co fo
          generalize W1.setCell ⟨bo, m, none⟩ (.bool false) = W2 at hss2 hro2 ht2 hown2 ⊢
          obtain ⟨_, _, d2⟩ := hss2.cellB
          have f2 := box_free hss2.box 2
          simp only at d2 f2
          have hsz2 := ht2.size
          have HRO : Hid (RowV W2 bo 4 c.n (bv (fun j => decide (j ∉ L ++ [m])))) := hro2
          have HSS : Hid (SS ⟨bs, bf, bg, c.n⟩ W2 (.slice po L.length pc) fa fr) := hss2
          have HOWN : Hid (W2.ownsRow Wl.heap.size 3 1 (.slice po L.length pc) L.length (qv L)) := hown2
          clear hro2 hss2 hown2
          go_upto_region 12 with (first
            | (at_builtin; refine wpList_pushA (x := m) rfl _ _ rfl rfl rfl HOWN.out (by omega) hsz2 ?_; intro g1 c1 W3 hown3 hgr3 hat3; have T3 := (alloc_turns W2 (Obj.cells #[.int .i64 (m : Int)] 3) (fun k => some k = (Value.slice po L.length pc).ownBlock)).trans (Turns.of_grown hgr3); have hlb : ∀ k, some k = (Value.slice po L.length pc).ownBlock → Wl.heap.size ≤ k := (fun k hk => (HOWN.out.lt k hk.symm).1); have hbox3 := box_turns HSS.out.box T3 (fun hk => (by have := hlb _ hk; simp only at this; omega)); have e2 := box_cell hbox3 (i := 2) rfl; have g2 := box_free hbox3 2; simp only at e2 g2; have HOWN3 : Hid (W3.ownsRow Wl.heap.size 3 1 (.slice (some ⟨g1, 0, none⟩) (L ++ [m]).length c1) (L ++ [m]).length (qv (L ++ [m]))) := hown3; have HT3 : Hid (Turns (fun k => some k = (Value.slice po L.length pc).ownBlock) W2 W3) := T3; clear hown3 hgr3 hat3 T3)
            | go_in)
          have hlen : (L ++ [m]).length = L.length + 1 := by simp
          have hT4 : Turns (fun k => k = bs ∨ k = bf ∨ k = bg ∨ k = bo) Wl (W3.setCell ⟨bs, 2, none⟩ (.slice (some ⟨g1, 0, none⟩) (L.length + 1) c1)) := (ht2.next HT3.out (fun x hx hk => by have := hlb x hk; omega)).trans ((setCell_turns W3 bs 2 _).mono (fun _ _ h => Or.inl h))
          have hss4 : SS ⟨bs, bf, bg, c.n⟩ (W3.setCell ⟨bs, 2, none⟩ (.slice (some ⟨g1, 0, none⟩) (L.length + 1) c1)) (.slice (some ⟨g1, 0, none⟩) (L.length + 1) c1) fa fr := ⟨box_set hbox3 2 _, (HSS.out.far.turns HT3.out (fun hk => by have := hlb _ hk; simp only at this; omega)).turns (setCell_turns W3 bs 2 _) (fun e => hn1 e.symm), (HSS.out.frm.turns HT3.out (fun hk => by have := hlb _ hk; simp only at this; omega)).turns (setCell_turns W3 bs 2 _) (fun e => hn2 e.symm), hn1, hn2, hn3⟩
          have hro4 : RowV (W3.setCell ⟨bs, 2, none⟩ (.slice (some ⟨g1, 0, none⟩) (L.length + 1) c1)) bo 4 c.n (bv (fun j => decide (j ∉ L ++ [m]))) := (HRO.out.turns HT3.out (fun hk => by have := hlb _ hk; omega)).turns (setCell_turns W3 bs 2 _) (fun e => by omega)
          have hown4 : (W3.setCell ⟨bs, 2, none⟩ (.slice (some ⟨g1, 0, none⟩) (L.length + 1) c1)).ownsRow Wl.heap.size 3 1 (.slice (some ⟨g1, 0, none⟩) (L ++ [m]).length c1) (L ++ [m]).length (qv (L ++ [m])) := ownsRow_setCell_below (a := ⟨bs, 2, none⟩) HOWN3.out (by show bs < Wl.heap.size; omega) _
          clear hbox3 e2 g2 HOWN3 HT3 HSS HRO HOWN ht2 hsz2 d2 f2
          generalize W3.setCell ⟨bs, 2, none⟩ (.slice (some ⟨g1, 0, none⟩) (L.length + 1) c1) = W4 at hT4 hss4 hro4 hown4 ⊢
          have hd4 : DS c W4 r u tk ow := DS.turns HDL.out hT4 (fun k hk => HSEP.out k (by rcases hk with rfl | rfl | rfl | rfl; exact hg1; exact hg2; exact hg3; have := hB0.size; omega))
          obtain ⟨_, _, _, _, e4⟩ := hd4.cellB
          have cw := hd4.bys.cell hm
          unfold iv at cw
          have HOWN4 : Hid (W4.ownsRow Wl.heap.size 3 1 (.slice (some ⟨g1, 0, none⟩) (L ++ [m]).length c1) (L ++ [m]).length (qv (L ++ [m]))) := hown4
          have HRO4 : Hid (RowV W4 bo 4 c.n (bv (fun j => decide (j ∉ L ++ [m])))) := hro4
          have HSS4 : Hid (SS ⟨bs, bf, bg, c.n⟩ W4 (.slice (some ⟨g1, 0, none⟩) (L.length + 1) c1) fa fr) := hss4
          have HD4 : Hid (DS c W4 r u tk ow) := hd4
          have hx44 : Box W4 w.heap.size #[.slice none 0 0, .slice none 0 0, .slice none 0 0] 54 := box_turns hx4l hT4 (fun hk => by have := hB0.size; omega)
          clear hown4 hro4 hss4 hd4
          rcases HM.out.own m hm with hom | ⟨i, hi, hoi, hti⟩
          · rw [hom] at cw
            obtain ⟨s0, s1, s2⟩ := HSS4.out.cellB
            simp only at s0 s1 s2
            have f4 := box_free hx44
            obtain ⟨y0, y1, y2⟩ := cell_three hx44
            have HOM : Hid (ow m = -1) := hom
            clear hom
            go_wp2
            have hx5 := box_set (box_set (box_set hx44 0 (sl bf c.n)) 1 (sl bg c.n)) 2 (.slice (some ⟨g1, 0, none⟩) (L.length + 1) c1)
            have hB5 : Below w.heap.size w (((W4.setCell ⟨w.heap.size, 0, none⟩ (sl bf c.n)).setCell ⟨w.heap.size, 1, none⟩ (sl bg c.n)).setCell ⟨w.heap.size, 2, none⟩ (.slice (some ⟨g1, 0, none⟩) (L.length + 1) c1)) := (((Turns.below hBl hT4 hBl.size (fun k hk => by have := hB0.size; rcases hk with rfl | rfl | rfl | rfl <;> omega)).setCell (p := ⟨w.heap.size, 0, none⟩) (Nat.le_refl _) _).setCell (p := ⟨w.heap.size, 1, none⟩) (Nat.le_refl _) _).setCell (p := ⟨w.heap.size, 2, none⟩) (Nat.le_refl _) _
            have T5 : Turns (fun k => k = w.heap.size) W4 (((W4.setCell ⟨w.heap.size, 0, none⟩ (sl bf c.n)).setCell ⟨w.heap.size, 1, none⟩ (sl bg c.n)).setCell ⟨w.heap.size, 2, none⟩ (.slice (some ⟨g1, 0, none⟩) (L.length + 1) c1)) := ((setCell_turns W4 w.heap.size 0 (sl bf c.n)).trans (setCell_turns _ w.heap.size 1 (sl bg c.n))).trans (setCell_turns _ w.heap.size 2 _)
            have hr5 := HSS4.out.far.turns T5 (fun e => by have := hB0.size; simp only at e; omega)
            have hr6 := HSS4.out.frm.turns T5 (fun e => by have := hB0.size; simp only at e; omega)
            have ho5 := ownsRow_mono (ownsRow_blocks HOWN4.out (fun b hb => T5.block b (HOWN4.out.lt b hb).2 (fun e => by have := (HOWN4.out.lt b hb).1; have := hB0.size; omega))) (b' := w.heap.size) hBl.size
            generalize ((W4.setCell ⟨w.heap.size, 0, none⟩ (sl bf c.n)).setCell ⟨w.heap.size, 1, none⟩ (sl bg c.n)).setCell ⟨w.heap.size, 2, none⟩ (.slice (some ⟨g1, 0, none⟩) (L.length + 1) c1) = W5 at hx5 hB5 hr5 hr6 ho5 ⊢
            obtain ⟨n0, n1, n2⟩ := cell_three (w := W5) (b := w.heap.size) (x := sl bf c.n) (y := sl bg c.n) (z := .slice (some ⟨g1, 0, none⟩) (L.length + 1) c1) (t := 54) hx5
            refine bodyPost_ret (v := .agg #[sl bf c.n, sl bg c.n, .slice (some ⟨g1, 0, none⟩) (L.length + 1) c1]) ?_ rfl ⟨_, rfl, ⟨bf, bg, some ⟨g1, 0, none⟩, c1, L, m, fa, fr, by rw [hlen], hr5, hr6, ho5, by have := hB0.size; omega, by have := hB0.size; omega, HSR.out, ⟨hm, HMIN.out.1, HMIN.out.2, HOM.out⟩⟩, hB5⟩
            simp [results, Try.results28, go_sem, n0, n1, n2]
          · rw [hoi] at cw
            have j1 : ((i : Int) == -1) = false := by rw [beq_eq_false_iff_ne]; omega
            have hin : i < c.n := by omega
            have hfm : 0 ≤ fa m ∧ fa m ≤ 100000000 := by
              have h1 := HSR.out.pos m hm
              have h2 := HSR.out.up m hm
              have h3 := HC.out s m hs hm
              have h4 := HM.out.rlow s hs
              have h5 := HT2.out m hm
              omega
            have h38 := goOn_call (c := c) (s := ⟨bs, bf, bg, c.n⟩) HD4.out HSS4.out rfl (by omega) (fun k hk => HSEP.out k (by rcases hk with h | h | h; (have : k = bs := h; omega); (have : k = bf := h; omega); (have : k = bg := h; omega))) hm hin hoi (fun j hj => by have := HC.out i j hin hj; omega) (by have := HM.out.rlow i hin; have := HT1.out i hin; omega) (fun j hj => by have := HT2.out j hj; have := HM.out.uup j hj; omega) hfm (by have := HM.out.low i m hin hm; omega)
            simp only at h38
            have H38 : Hid (Calls Try.prog 38 #[ptr bs, ptr c.bp, .int .i64 (m : Int)] W4 fun e w' => e = .returned (.tuple #[]) ∧ SS ⟨bs, bf, bg, c.n⟩ w' (.slice (some ⟨g1, 0, none⟩) (L.length + 1) c1) (relF fa (fa m) (fun j => c.C i j - r i - u j) c.n) (relR fa fr (fa m) (fun j => c.C i j - r i - u j) i c.n) ∧ Turns (fun k => k = bf ∨ k = bg) W4 w') := h38
            have HST : Hid (Sr c.n s c.C r u ow (L ++ [m]) (relF fa (fa m) (fun j => c.C i j - r i - u j) c.n) (relR fa fr (fa m) (fun j => c.C i j - r i - u j) i c.n)) := Sr.step HM.out hs HSR.out hm HMIN.out.1 HMIN.out.2 hoi
            have hL1 : L.length + 1 ≤ c.n := by omega
            clear h38
            go_wp2_with (first | (go_at_call 38; refine Calls.mono H38.out ?_; rintro e W5 ⟨rfl, hss5, ht5⟩) | go_in)
            have hro5 := HRO4.out.turns ht5 (fun e => by omega)
            have hown5 := ownsRow_blocks HOWN4.out (fun b hb => ht5.block b (HOWN4.out.lt b hb).2 (fun e => by have := (HOWN4.out.lt b hb).1; omega))
            have hT5 : Turns (fun k => k = bs ∨ k = bf ∨ k = bg ∨ k = bo) Wl W5 := hT4.trans (ht5.mono (fun _ _ h => by rcases h with h | h; exact Or.inr (Or.inl h); exact Or.inr (Or.inr (Or.inl h))))
            have HSS5 : Hid _ := hss5
            have hme : lenAt W5 bs = L.length + 1 := SS.len hss5
            clear hss5
            go_roundw
            case rel => exact ⟨L ++ [m], _, _, some ⟨g1, 0, none⟩, c1, by rw [hlen]; exact HSS5.out, hown5, hro5, HST.out, hT5⟩
            case measure => rw [hme, hmew]; omega
end Go.Proofs.Ytmbnaegcichoeaa
