/- newSearch: a search that knows of its root alone. -/
import Derived.Test.YtenjkhgpfmfgmaaDoorLed
import Derived.Deep.CutRange
namespace Go.Proofs.YtenjkhgpfmfgmaaDoor
open Go.RowKit Go.Maps
attribute [local go_sem ↓] Go.wp_at_zero Go.wp_at_succ
theorem Tryd.info3s : (Tryd.prog.info? 3).map (fun i => (i.zero, i.size, i.bytes)) = some (some (.int .i64 0), 1, 8) := by kernel_rfl
theorem Tryd.info4s : (Tryd.prog.info? 4).map (fun i => (i.zero, i.size, i.bytes)) = some (some (.bool false), 1, 1) := by kernel_rfl

/-- n times z. -/
abbrev rep (n : Nat) (z : Value) : Array Value := madeCells #[z] n
theorem make29 (N : Nat) (hN : N ≤ 1000) (w : World) : (Instr.makeSlice 29 (.int .i64 (N : Int)) (.int .i64 (N : Int))).run Tryd.prog w = .ok (.slice (some ⟨w.heap.size, 0, none⟩) N N) (w.alloc (.cells (rep N (.int .i64 0)) 3)) := by
  obtain ⟨i3, hi3, hy0, hy1, hy2⟩ := info_parts Tryd.info3s
  have hr := run_make (P := Tryd.prog) w 29 3 i3 (.int .i64 0) Tryd.underlying29 hi3 hy0 .i64 .i64 N N (by omega) (Int.le_refl _) (by rw [hy2]; omega) (by omega)
  simpa [hy1, Value.cells] using hr
theorem make44 (N : Nat) (hN : N ≤ 1000) (w : World) : (Instr.makeSlice 44 (.int .i64 (N : Int)) (.int .i64 (N : Int))).run Tryd.prog w = .ok (.slice (some ⟨w.heap.size, 0, none⟩) N N) (w.alloc (.cells (rep N (.bool false)) 4)) := by
  obtain ⟨i3, hi3, hy0, hy1, hy2⟩ := info_parts Tryd.info4s
  have hr := run_make (P := Tryd.prog) w 44 4 i3 (.bool false) Tryd.underlying44 hi3 hy0 .i64 .i64 N N (by omega) (Int.le_refl _) (by rw [hy2]; omega) (by omega)
  simpa [hy1, Value.cells] using hr
theorem rep_at {n j : Nat} (z : Value) (h : j < n) : (rep n z)[j]? = some z := by
  simp [madeCells, h, Nat.mod_one]
theorem rep_size (n : Nat) (z : Value) : (rep n z).size = n := by simp [madeCells]
theorem rowV_rep {w : World} {b N : Nat} {t : TypeId} {z : Value} (h : w.heap[b]? = some (.cells (rep N z) t (0, 0))) : RowV w b t N (fun _ => z) := ⟨_, h, rep_size N z, fun _ hj => rep_at z hj⟩
theorem rowB_rep {w : World} {b N : Nat} (h : w.heap[b]? = some (.cells (rep N (.bool false)) 4 (0, 0))) : RowB w b N (fun _ => false) := ⟨_, h, rep_size N _, fun _ hj => rep_at _ hj⟩

section
variable {w w' : World} {N : Nat}
/-- The four rows of a search in block b. -/
structure FSt (w : World) (b base N be bf bb : Nat) (q : Value) (ev : Nat → Bool) (f : Nat → Option Nat) (bs : Nat → Nat) (Q : List Nat) : Prop where
  box : Box w b #[sl be N, sl bf N, sl bb N, q] 78
  even : RowB w be N ev
  src : RowV w bf 3 N (fun x => .int .i64 (farZ (f x)))
  bas : RowV w bb 3 N (fun x => .int .i64 (bs x : Nat))
  own : w.ownsRow base 3 1 q Q.length (qv Q)
  ge : base ≤ be ∧ base ≤ bf ∧ base ≤ bb ∧ base ≤ b
  ne : be ≠ bf ∧ be ≠ bb ∧ bf ≠ bb ∧ q.ownBlock ≠ some be ∧ q.ownBlock ≠ some bf ∧ q.ownBlock ≠ some bb
  nb : b ≠ be ∧ b ≠ bf ∧ b ≠ bb


theorem FSt.below {w w' : World} {b base N be bf bb : Nat} {q : Value} {ev : Nat → Bool} {f : Nat → Option Nat} {bs : Nat → Nat} {Q : List Nat} (h : FSt w b base N be bf bb q ev f bs Q) (hb : Below w.heap.size w w') : FSt w' b base N be bf bb q ev f bs Q :=
  have ht : Turns (fun _ => False) w w' := Turns.of_below hb _
  ⟨box_turns h.box ht (fun h => h), h.even.turns ht (fun h => h), h.src.turns ht (fun h => h), h.bas.turns ht (fun h => h), ownsRow_blocks h.own (fun b hb => ht.block b (h.own.lt b hb).2 (fun h => h)), h.ge, h.ne, h.nb⟩
theorem FSt.setSrc {w : World} {b base N be bf bb : Nat} {q : Value} {ev : Nat → Bool} {f : Nat → Option Nat} {bs : Nat → Nat} {Q : List Nat} (h : FSt w b base N be bf bb q ev f bs Q) (y : Nat) (o : Option Nat) (hz : Int) (e : hz = farZ o) : FSt (w.setCell ⟨bf, y, none⟩ (.int .i64 hz)) b base N be bf bb q ev (fun x => if x = y then o else f x) bs Q := by
  have ht := setCell_turns w bf y (.int .i64 hz)
  have hne := h.ne
  refine ⟨box_turns h.box ht (fun hh => h.nb.2.1 hh), h.even.turns ht (fun hh => hne.1 hh), (h.src.set y (.int .i64 hz)).congr (fun j _ => ?_), h.bas.turns ht (fun hh => hne.2.2.1 hh.symm), ownsRow_blocks h.own (fun b hb => ht.block b (h.own.lt b hb).2 (fun hh => hne.2.2.2.2.1 (hh ▸ hb))), h.ge, h.ne, h.nb⟩
  by_cases c : j = y
  · simp [c, e]
  · simp [c]
theorem FSt.setBas {w : World} {b base N be bf bb : Nat} {q : Value} {ev : Nat → Bool} {f : Nat → Option Nat} {bs : Nat → Nat} {Q : List Nat} (h : FSt w b base N be bf bb q ev f bs Q) (y z : Nat) : FSt (w.setCell ⟨bb, y, none⟩ (.int .i64 (z : Int))) b base N be bf bb q ev f (fun x => if x = y then z else bs x) Q := by
  have ht := setCell_turns w bb y (.int .i64 (z : Int))
  have hne := h.ne
  refine ⟨box_turns h.box ht (fun hh => h.nb.2.2 hh), h.even.turns ht (fun hh => hne.2.1 hh), h.src.turns ht (fun hh => hne.2.2.1 hh), (h.bas.set y (.int .i64 (z : Int))).congr (fun j _ => ?_), ownsRow_blocks h.own (fun b hb => ht.block b (h.own.lt b hb).2 (fun hh => hne.2.2.2.2.2 (hh ▸ hb))), h.ge, h.ne, h.nb⟩
  by_cases c : j = y
  · simp [c]
  · simp [c]
theorem FSt.congr {w : World} {b base N be bf bb : Nat} {q : Value} {ev : Nat → Bool} {f : Nat → Option Nat} {bs : Nat → Nat} {Q : List Nat} {ev' : Nat → Bool} {f' : Nat → Option Nat} {bs' : Nat → Nat} (h : FSt w b base N be bf bb q ev f bs Q) (h1 : ∀ x, x < N → ev x = ev' x) (h2 : ∀ x, x < N → f x = f' x) (h3 : ∀ x, x < N → bs x = bs' x) : FSt w b base N be bf bb q ev' f' bs' Q :=
  ⟨h.box, h.even.congr h1, h.src.congr (fun j hj => by rw [h2 j hj]), h.bas.congr (fun j hj => by rw [h3 j hj]), h.own, h.ge, h.ne, h.nb⟩

set_option maxHeartbeats 1000000 in
/-- The root is reached. -/
theorem mark4_call {w : World} {b base N be bf bb : Nat} {f : Nat → Option Nat} {bs : Nat → Nat} {v : Nat} (h : FSt w b base N be bf bb (.slice none 0 0) (fun _ => false) f bs []) (hv : v < N) (hb : base ≤ w.heap.size) :
    Calls Tryd.prog 56 #[.pointer (some ⟨b, 0, none⟩), .int .i64 (v : Int)] w fun r w' => r = .returned (.tuple #[]) ∧ Below base w w' ∧ ∃ q', Box w' b #[sl be N, sl bf N, sl bb N, q'] 78 ∧ RowB w' be N (fun x => x == v) ∧ RowV w' bf 3 N (fun x => .int .i64 (farZ (f x))) ∧ RowV w' bb 3 N (fun x => .int .i64 (bs x : Nat)) ∧ w'.ownsRow base 3 1 q' 1 (qv [v]) ∧ q'.ownBlock ≠ some be ∧ q'.ownBlock ≠ some bf ∧ q'.ownBlock ≠ some bb := by
  have c2 := box_cell h.box (i := 0) rfl
  have c5 := box_cell h.box (i := 3) rfl
  have ce := h.even.cell hv
  have fe := h.even.free v
  have i1 : (0 : Int) ≤ (v : Int) := by omega
  have i2 : (v : Int) < (N : Int) := by omega
  have H : Hid _ := h
  have hge := h.ge
  have hnb := h.nb
  have T1 := setCell_turns w be v (.bool true)
  have hb1 := box_turns h.box T1 (fun hh => hnb.1 hh)
  have he1 := (h.even.set v).congr (r := fun x => x == v) (fun j _ => by simp)
  have hs1 := h.src.turns T1 (fun hh => h.ne.1 hh.symm)
  have ha1 := h.bas.turns T1 (fun hh => h.ne.2.1 hh.symm)
  have hB1 : Below base w (w.setCell ⟨be, v, none⟩ (.bool true)) := (Below.refl _ _).setCell (p := ⟨be, v, none⟩) hge.1 _
  clear h
  go_enter Tryd.func56, Tryd.ntmps56
  go_upto_region 2 with (fail)
  have hown0 : (w.setCell ⟨be, v, none⟩ (.bool true)).ownsRow base 3 1 (.slice none ([] : List Nat).length 0) ([] : List Nat).length (qv []) := World.ownsRow_nil _ _ _ _
  generalize w.setCell ⟨be, v, none⟩ (.bool true) = w1 at hb1 he1 hs1 ha1 hB1 T1 hown0 ⊢
  clear c2 c5 ce fe
  have hsz := T1.size
  have c5 := box_cell hb1 (i := 3) rfl
  have l1 := he1.lt
  have l2 := hs1.lt
  have l3 := ha1.lt
  have l4 := lt_of_block hb1
  have HB1 : Hid _ := hb1
  have HE1 : Hid _ := he1
  have HS1 : Hid _ := hs1
  have HA1 : Hid _ := ha1
  clear hb1 he1 hs1 ha1
  go_wp2_with (first
    | (at_builtin; refine wpList_pushA (x := v) (l := []) rfl _ _ rfl rfl rfl hown0 (by simp) (by omega) ?_; intro g1 c1 w2 hown1 hgr1 hat1; have T := (alloc_turns w1 (Obj.cells #[.int .i64 (v : Int)] 3) (fun k => some k = (Value.slice none ([] : List Nat).length 0).ownBlock)).trans (Turns.of_grown hgr1); have hb2 := box_turns HB1.out T (fun hh => by simp [Value.ownBlock] at hh); have f5 := box_free hb2 3; have c51 := box_cell hb2 (i := 3) rfl; have HB2 : Hid _ := hb2; clear hb2)
    | go_in)
  have hg1 : w1.heap.size ≤ g1 := by
    rcases hat1 with hh | hh
    · simp [Value.ownBlock] at hh
    · exact hh
  have no : ∀ k, ¬ some k = (Value.slice none ([] : List Nat).length 0).ownBlock := fun k hh => by simp [Value.ownBlock] at hh
  have T2 := setCell_turns w2 b 3 (.slice (some ⟨g1, 0, none⟩) (([] : List Nat) ++ [v]).length c1)
  go_end0
  refine ⟨rfl, ?_, .slice (some ⟨g1, 0, none⟩) (([] : List Nat) ++ [v]).length c1, ?_, ?_, ?_, ?_, ?_, ?_, ?_, ?_⟩
  · have := (T.below hB1 (by omega) (fun k hk => absurd hk (no k))).setCell (p := ⟨b, 3, none⟩) (by show base ≤ b; omega) (.slice (some ⟨g1, 0, none⟩) (([] : List Nat) ++ [v]).length c1)
    simpa using this
  · simpa using box_set HB2.out 3 (.slice (some ⟨g1, 0, none⟩) (([] : List Nat) ++ [v]).length c1)
  · simpa using RowB.turns (RowB.turns HE1.out T (no _)) T2 (fun hh => hnb.1 hh.symm)
  · simpa using RowV.turns (RowV.turns HS1.out T (no _)) T2 (fun hh => hnb.2.1 hh.symm)
  · simpa using RowV.turns (RowV.turns HA1.out T (no _)) T2 (fun hh => hnb.2.2 hh.symm)
  · have := ownsRow_blocks hown1 (fun k hk => T2.block k (hown1.lt k hk).2 (fun hh => by
      have : k = g1 := by simpa [Value.ownBlock] using hk.symm
      omega))
    simpa using this
  · simp [Value.ownBlock]; omega
  · simp [Value.ownBlock]; omega
  · simp [Value.ownBlock]; omega
theorem four_at {w : World} {A o0 o1 o2 o3 : Obj} {n : Nat} {o : Obj} (h : [o0, o1, o2, o3][n]? = some o) : (((((w.alloc A).alloc o0).alloc o1).alloc o2).alloc o3).heap[w.heap.size + 1 + n]? = some o := by
  have s1 : (w.alloc A).heap.size = w.heap.size + 1 := by simp
  have s2 : ((w.alloc A).alloc o0).heap.size = w.heap.size + 1 + 1 := by simp
  have s3 : (((w.alloc A).alloc o0).alloc o1).heap.size = w.heap.size + 1 + 2 := by simp
  have s4 : ((((w.alloc A).alloc o0).alloc o1).alloc o2).heap.size = w.heap.size + 1 + 3 := by simp
  have h1 := heap_alloc_new (w.alloc A) o0
  have h2 := heap_alloc_new ((w.alloc A).alloc o0) o1
  have h3 := heap_alloc_new (((w.alloc A).alloc o0).alloc o1) o2
  have h4 := heap_alloc_new ((((w.alloc A).alloc o0).alloc o1).alloc o2) o3
  rw [s1] at h1
  rw [s2] at h2
  rw [s3] at h3
  rw [s4] at h4
  match n, h with
  | 0, h =>
    cases h
    rw [Nat.add_zero, Below.heap_alloc _ _ _ (by rw [s4]; omega), Below.heap_alloc _ _ _ (by rw [s3]; omega), Below.heap_alloc _ _ _ (by rw [s2]; omega)]
    exact h1
  | 1, h =>
    cases h
    rw [Below.heap_alloc _ _ _ (by rw [s4]; omega), Below.heap_alloc _ _ _ (by rw [s3]; omega)]
    exact h2
  | 2, h =>
    cases h
    rw [Below.heap_alloc _ _ _ (by rw [s4]; omega)]
    exact h3
  | 3, h =>
    cases h
    exact h4
theorem leafS {w : World} {N : Nat} {o0 o1 o2 o3 : Obj} {R3 R4 : Array Value} (n5 ne nf nb : Nat)
    (h5 : [o0, o1, o2, o3][n5]? = some (.cells #[sl (w.heap.size + 1 + ne) N, sl (w.heap.size + 1 + nf) N, sl (w.heap.size + 1 + nb) N, .slice none 0 0] 78))
    (he : [o0, o1, o2, o3][ne]? = some (.cells R4 4)) (hf : [o0, o1, o2, o3][nf]? = some (.cells R3 3)) (hb : [o0, o1, o2, o3][nb]? = some (.cells R3 3)) (hR3 : R3 = rep N (.int .i64 0)) (hR4 : R4 = rep N (.bool false))
    (hn : n5 ≠ ne ∧ n5 ≠ nf ∧ n5 ≠ nb ∧ ne ≠ nf ∧ ne ≠ nb ∧ nf ≠ nb) {A : Obj} (hA : A = .cells #[.slice none 0 0, .slice none 0 0, .slice none 0 0, .slice none 0 0] 78) :
    ∃ b5 be bf bb, Value.pointer (some ⟨w.heap.size + 1 + n5, 0, none⟩) = .pointer (some ⟨b5, 0, none⟩) ∧ FSt (((((w.alloc A).alloc o0).alloc o1).alloc o2).alloc o3).drew b5 (w.heap.size + 1) N be bf bb (.slice none 0 0) (fun _ => false) (fun _ => some 0) (fun _ => 0) [] ∧ Below w.heap.size w (((((w.alloc A).alloc o0).alloc o1).alloc o2).alloc o3).drew ∧ Box (((((w.alloc A).alloc o0).alloc o1).alloc o2).alloc o3).drew w.heap.size #[.slice none 0 0, .slice none 0 0, .slice none 0 0, .slice none 0 0] 78 := by
  rw [hR3] at hf hb
  rw [hR4] at he
  refine ⟨_, _, _, _, rfl, ⟨four_at (w := w) (A := A) h5, rowB_rep (w := (((((w.alloc A).alloc o0).alloc o1).alloc o2).alloc o3).drew) (four_at (w := w) (A := A) he), rowV_rep (w := (((((w.alloc A).alloc o0).alloc o1).alloc o2).alloc o3).drew) (four_at (w := w) (A := A) hf), rowV_rep (w := (((((w.alloc A).alloc o0).alloc o1).alloc o2).alloc o3).drew) (four_at (w := w) (A := A) hb), World.ownsRow_nil _ _ _ _, ⟨by omega, by omega, by omega, by omega⟩, ⟨by omega, by omega, by omega, by simp [Value.ownBlock], by simp [Value.ownBlock], by simp [Value.ownBlock]⟩, by omega, by omega, by omega⟩, ?_, ?_⟩
  · exact Below.drew (below_alloc (below_alloc (below_alloc (below_alloc (below_alloc (Below.refl _ w) _) _) _) _) _)
  · subst hA
    show (((((w.alloc _).alloc o0).alloc o1).alloc o2).alloc o3).heap[w.heap.size]? = _
    rw [Below.heap_alloc _ _ _ (by simp; omega), Below.heap_alloc _ _ _ (by simp; omega), Below.heap_alloc _ _ _ (by simp; omega), Below.heap_alloc _ _ _ (by simp)]
    exact heap_alloc_new _ _

set_option maxRecDepth 4000 in
set_option maxHeartbeats 4000000 in
theorem newSearch_call (w : World) {r : Nat} (hN : N ≤ 1000) (hr : r < N) :
    Calls Tryd.prog 54 #[.int .i64 (N : Int), .int .i64 (r : Int)] w fun e w' => ∃ be bf bb q, e = .returned (.agg #[sl be N, sl bf N, sl bb N, q]) ∧ RowB w' be N (fun x => x == r) ∧ RowV w' bf 3 N (fun _ => .int .i64 (-1)) ∧ RowV w' bb 3 N (fun (x : Nat) => .int .i64 (x : Int)) ∧ w'.ownsRow w.heap.size 3 1 q 1 (qv [r]) ∧ (w.heap.size ≤ be ∧ w.heap.size ≤ bf ∧ w.heap.size ≤ bb) ∧ (be ≠ bf ∧ be ≠ bb ∧ bf ≠ bb ∧ q.ownBlock ≠ some be ∧ q.ownBlock ≠ some bf ∧ q.ownBlock ≠ some bb) ∧ Below w.heap.size w w' := by
  have hm1 := make29 N hN
  have hm2 := make44 N hN
  obtain ⟨R3, hR3⟩ : ∃ R, R = rep N (.int .i64 0) := ⟨_, rfl⟩
  obtain ⟨R4, hR4⟩ : ∃ R, R = rep N (.bool false) := ⟨_, rfl⟩
  rw [← hR3] at hm1
  rw [← hR4] at hm2
  have HR3 : Hid _ := hR3
  have HR4 : Hid _ := hR4
  clear hR3 hR4
  go_enter Tryd.func54, Tryd.ntmps54
  go_upto_region 1 with (fail)
  go_cut [5] from 7 to 13 (fun s5 wc => ∃ b5 be bf bb, s5 = .pointer (some ⟨b5, 0, none⟩) ∧ FSt wc b5 (w.heap.size + 1) N be bf bb (.slice none 0 0) (fun _ => false) (fun _ => some 0) (fun _ => 0) [] ∧ Below w.heap.size w wc ∧ Box wc w.heap.size #[.slice none 0 0, .slice none 0 0, .slice none 0 0, .slice none 0 0] 78)
  case first =>
    go_region
    all_goals (go_wp2_with fail; go_meet)
    all_goals (first | (refine leafS (w := w) 0 1 2 3 ?_ ?_ ?_ ?_ HR3.out HR4.out (by decide) rfl <;> rfl) | (refine leafS (w := w) 0 1 3 2 ?_ ?_ ?_ ?_ HR3.out HR4.out (by decide) rfl <;> rfl) | (refine leafS (w := w) 0 2 1 3 ?_ ?_ ?_ ?_ HR3.out HR4.out (by decide) rfl <;> rfl) | (refine leafS (w := w) 0 2 3 1 ?_ ?_ ?_ ?_ HR3.out HR4.out (by decide) rfl <;> rfl) | (refine leafS (w := w) 0 3 1 2 ?_ ?_ ?_ ?_ HR3.out HR4.out (by decide) rfl <;> rfl) | (refine leafS (w := w) 0 3 2 1 ?_ ?_ ?_ ?_ HR3.out HR4.out (by decide) rfl <;> rfl) | (refine leafS (w := w) 1 0 2 3 ?_ ?_ ?_ ?_ HR3.out HR4.out (by decide) rfl <;> rfl) | (refine leafS (w := w) 1 0 3 2 ?_ ?_ ?_ ?_ HR3.out HR4.out (by decide) rfl <;> rfl) | (refine leafS (w := w) 1 2 0 3 ?_ ?_ ?_ ?_ HR3.out HR4.out (by decide) rfl <;> rfl) | (refine leafS (w := w) 1 2 3 0 ?_ ?_ ?_ ?_ HR3.out HR4.out (by decide) rfl <;> rfl) | (refine leafS (w := w) 1 3 0 2 ?_ ?_ ?_ ?_ HR3.out HR4.out (by decide) rfl <;> rfl) | (refine leafS (w := w) 1 3 2 0 ?_ ?_ ?_ ?_ HR3.out HR4.out (by decide) rfl <;> rfl) | (refine leafS (w := w) 2 0 1 3 ?_ ?_ ?_ ?_ HR3.out HR4.out (by decide) rfl <;> rfl) | (refine leafS (w := w) 2 0 3 1 ?_ ?_ ?_ ?_ HR3.out HR4.out (by decide) rfl <;> rfl) | (refine leafS (w := w) 2 1 0 3 ?_ ?_ ?_ ?_ HR3.out HR4.out (by decide) rfl <;> rfl) | (refine leafS (w := w) 2 1 3 0 ?_ ?_ ?_ ?_ HR3.out HR4.out (by decide) rfl <;> rfl) | (refine leafS (w := w) 2 3 0 1 ?_ ?_ ?_ ?_ HR3.out HR4.out (by decide) rfl <;> rfl) | (refine leafS (w := w) 2 3 1 0 ?_ ?_ ?_ ?_ HR3.out HR4.out (by decide) rfl <;> rfl) | (refine leafS (w := w) 3 0 1 2 ?_ ?_ ?_ ?_ HR3.out HR4.out (by decide) rfl <;> rfl) | (refine leafS (w := w) 3 0 2 1 ?_ ?_ ?_ ?_ HR3.out HR4.out (by decide) rfl <;> rfl) | (refine leafS (w := w) 3 1 0 2 ?_ ?_ ?_ ?_ HR3.out HR4.out (by decide) rfl <;> rfl) | (refine leafS (w := w) 3 1 2 0 ?_ ?_ ?_ ?_ HR3.out HR4.out (by decide) rfl <;> rfl) | (refine leafS (w := w) 3 2 0 1 ?_ ?_ ?_ ?_ HR3.out HR4.out (by decide) rfl <;> rfl) | (refine leafS (w := w) 3 2 1 0 ?_ ?_ ?_ ?_ HR3.out HR4.out (by decide) rfl <;> rfl))
  case rest =>
    obtain ⟨b5, be, bf, bb, rfl, hF, hB, hX⟩ := hcut
    have hge := hF.ge
    have l1 := lt_of_block hF.box
    have HF : Hid _ := hF
    have HX : Hid _ := hX
    clear hF hX hm1 hm2 HR3 HR4
    go_wp2
    go_loopw [6, 15] (fun _ i wr => ∃ k : Nat, k ≤ N ∧ i = .int .i64 (k : Int) ∧ FSt wr b5 (w.heap.size + 1) N be bf bb (.slice none 0 0) (fun _ => false) (fun x => if x < k then none else some 0) (fun x => if x < k then x else 0) [] ∧ Below w.heap.size w wr ∧ Box wr w.heap.size #[.slice none 0 0, .slice none 0 0, .slice none 0 0, .slice none 0 0] 78 ∧ w.heap.size + 1 ≤ wr.heap.size) (fun _ i _ => N - (numOf i).toNat)
    case atStart => exact ⟨0, Nat.zero_le _, rfl, HF.out.congr (fun _ _ => rfl) (fun x _ => by simp) (fun x _ => by simp), hB, HX.out, by omega⟩
    case round =>
      obtain ⟨k, hk, rfl, hF, hB, hX, hsz⟩ := hrel
      clear HF HX
      by_cases hkN : k < N
      · have c1 := box_cell hF.box (i := 1) rfl
        have ck := hF.src.cell hkN
        have fk := hF.src.free k
        have hF1 := hF.setSrc k none (-1) rfl
        have d2 := box_cell hF1.box (i := 2) rfl
        have dk := hF1.bas.cell hkN
        have gk := hF1.bas.free k
        have hF2 := hF1.setBas k k
        have hF3 := hF2.congr (ev' := fun _ => false) (f' := fun x => if x < k + 1 then none else some 0) (bs' := fun x => if x < k + 1 then x else 0) (fun _ _ => rfl) (fun x _ => by
          by_cases e : x = k
          · simp [e]
          · by_cases e1 : x < k
            · simp [e, e1, show x < k + 1 by omega]
            · simp [e, e1, show ¬ x < k + 1 by omega]) (fun x _ => by
          by_cases e : x = k
          · simp [e]
          · by_cases e1 : x < k
            · simp [e, e1, show x < k + 1 by omega]
            · simp [e, e1, show ¬ x < k + 1 by omega])
        have hB1 := (hB.setCell (p := ⟨bf, k, none⟩) (by show w.heap.size ≤ bf; omega) (.int .i64 (-1))).setCell (p := ⟨bb, k, none⟩) (by show w.heap.size ≤ bb; omega) (.int .i64 (k : Int))
        have hX1 : Box ((wr.setCell ⟨bf, k, none⟩ (.int .i64 (-1))).setCell ⟨bb, k, none⟩ (.int .i64 (k : Int))) w.heap.size #[.slice none 0 0, .slice none 0 0, .slice none 0 0, .slice none 0 0] 78 := box_turns (box_turns hX (setCell_turns wr bf k _) (fun (e : w.heap.size = bf) => by omega)) (setCell_turns _ bb k _) (fun (e : w.heap.size = bb) => by omega)
        have i1 : (0 : Int) ≤ (k : Int) := by omega
        have i2 : (k : Int) < (N : Int) := by omega
        have HF3 : Hid _ := hF3
        have HX1 : Hid _ := hX1
        clear hF hF1 hF2 hF3 hX hX1
        go_wp2
        go_roundw
        case rel => exact ⟨k + 1, by omega, by go_num, HF3.out, hB1, HX1.out, by simpa using hsz⟩
        case measure => simp [numOf]; omega
      · have hke : N = k := by omega
        subst hke
        have HF0 : Hid _ := hF.ne
        have hmk := mark4_call hF hr hsz
        have HMK : Hid _ := hmk
        have HX1 : Hid _ := hX
        clear hF hmk hX
        go_upto_region 9 with (go_at_call 56; refine Calls.mono HMK.out ?_; rintro e W7 ⟨rfl, hB7, q', hb7, he7, hs7, ha7, ho7, hq1, hq2, hq3⟩)
        obtain ⟨qo, qc, rfl⟩ := form_row ho7
        have hX7 : Box W7 w.heap.size #[.slice none 0 0, .slice none 0 0, .slice none 0 0, .slice none 0 0] 78 := (hB7.block _ (by omega)).trans HX1.out
        have c0 := box_cell hb7 (i := 0) rfl
        have c1 := box_cell hb7 (i := 1) rfl
        have c2 := box_cell hb7 (i := 2) rfl
        have c3 := box_cell hb7 (i := 3) rfl
        have d0 := box_cell hX7 (i := 0) rfl
        have d1 := box_cell hX7 (i := 1) rfl
        have d2 := box_cell hX7 (i := 2) rfl
        have d3 := box_cell hX7 (i := 3) rfl
        have f0 := box_free hX7 0
        have f1 := box_free hX7 1
        have f2 := box_free hX7 2
        have f3 := box_free hX7 3
        have HE7 : Hid _ := he7
        have HS7 : Hid _ := hs7
        have HA7 : Hid _ := ha7
        have HO7 : Hid _ := ho7
        have hB8 : Below w.heap.size w W7 := hB.trans (hB7.mono (by omega))
        clear he7 hs7 ha7 ho7
        go_wp2
        have hne : ∀ k, k ≠ w.heap.size → ((((W7.setCell ⟨w.heap.size, 0, none⟩ (sl be N)).setCell ⟨w.heap.size, 1, none⟩ (sl bf N)).setCell ⟨w.heap.size, 2, none⟩ (sl bb N)).setCell ⟨w.heap.size, 3, none⟩ (.slice qo 1 qc)).heap[k]? = W7.heap[k]? := fun k hk => by
          rw [Below.heap_setCell _ _ _ _ hk, Below.heap_setCell _ _ _ _ hk, Below.heap_setCell _ _ _ _ hk, Below.heap_setCell _ _ _ _ hk]
        have hX8 := box_set (box_set (box_set (box_set hX7 0 (sl be N)) 1 (sl bf N)) 2 (sl bb N)) 3 (.slice qo 1 qc)
        simp at hX8
        have hBB := (((hB8.setCell (p := ⟨w.heap.size, 0, none⟩) (Nat.le_refl _) (sl be N)).setCell (p := ⟨w.heap.size, 1, none⟩) (Nat.le_refl _) (sl bf N)).setCell (p := ⟨w.heap.size, 2, none⟩) (Nat.le_refl _) (sl bb N)).setCell (p := ⟨w.heap.size, 3, none⟩) (Nat.le_refl _) (.slice qo 1 qc)
        refine bodyPost_ret (v := .agg #[sl be N, sl bf N, sl bb N, .slice qo 1 qc]) ?_ rfl ?_
        · generalize (((W7.setCell ⟨w.heap.size, 0, none⟩ (sl be N)).setCell ⟨w.heap.size, 1, none⟩ (sl bf N)).setCell ⟨w.heap.size, 2, none⟩ (sl bb N)).setCell ⟨w.heap.size, 3, none⟩ (.slice qo 1 qc) = W8 at hX8 ⊢
          have e0 := box_cell hX8 (i := 0) rfl
          have e1 := box_cell hX8 (i := 1) rfl
          have e2 := box_cell hX8 (i := 2) rfl
          have e3 := box_cell hX8 (i := 3) rfl
          simp at e0 e1 e2 e3
          simp [results, Tryd.results54, go_sem, e0, e1, e2, e3]
        · refine ⟨be, bf, bb, _, rfl, RowB.block HE7.out (hne _ (by omega)), ?_, ?_, ?_, ⟨by omega, by omega, by omega⟩, ⟨HF0.out.1, HF0.out.2.1, HF0.out.2.2.1, hq1, hq2, hq3⟩, hBB⟩
          · exact (RowV.block HS7.out (hne _ (by omega))).congr (fun j hj => by simp [hj, farZ])
          · exact (RowV.block HA7.out (hne _ (by omega))).congr (fun j hj => by simp [hj])
          · exact ownsRow_mono (ownsRow_blocks HO7.out (fun k hk => hne k (by have := (World.ownsRow.lt HO7.out k hk).1; omega))) (by omega)
end
end Go.Proofs.YtenjkhgpfmfgmaaDoor
