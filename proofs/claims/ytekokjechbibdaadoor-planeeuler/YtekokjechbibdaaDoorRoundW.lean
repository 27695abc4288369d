/- roundBy: the order round the nodes that has these faces. -/
import Derived.Test.YtekokjechbibdaaDoorRoundN
import Derived.Test.YtekokjechbibdaaDoorPieceM
namespace Go.Proofs.YtekokjechbibdaaDoor
set_option maxRecDepth 8000
open Go.RowKit Go.Maps
attribute [local go_sem ↓] Go.wp_at_zero Go.wp_at_succ
attribute [local go_sem] Oper.semAt_some
/-- What the dart at place i of a walk tells. -/
def stepT (l : List Nat) (M : Nat → Nat → Nat) (i : Nat) : Nat → Nat → Nat := upd2 M (l.getD i 0) (l.getD ((i + l.length - 1) % l.length) 0) (l.getD ((i + 1) % l.length) 0)
def fillT (l : List Nat) (k : Nat) (M : Nat → Nat → Nat) : Nat → Nat → Nat := (List.range k).foldl (stepT l) M
def turnsOf (F : List Face) : Nat → Nat → Nat := F.foldl (fun M f => fillT f.walk f.walk.length M) (fun _ _ => 0)
theorem fillT_succ (l : List Nat) (k : Nat) (M : Nat → Nat → Nat) : fillT l (k + 1) M = stepT l (fillT l k M) k := by unfold fillT; rw [List.range_succ, List.foldl_append]; rfl
def SmallM (M : Nat → Nat → Nat) : Prop := ∀ a b, M a b < 128
theorem SmallM.step {M : Nat → Nat → Nat} (h : SmallM M) {l : List Nat} (hl : ∀ v ∈ l, v < 128) (i : Nat) : SmallM (stepT l M i) := fun a b => by
  unfold stepT upd2
  split
  · rw [List.getD_eq_getElem?_getD]
    cases hh : l[(i + 1) % l.length]? with
    | none => decide
    | some x => exact hl x (List.mem_of_getElem? hh)
  · exact h a b
theorem turnsOf_take {F : List Face} {k : Nat} {f : Face} (h : F[k]? = some f) : turnsOf (F.take (k + 1)) = fillT f.walk f.walk.length (turnsOf (F.take k)) := by
  obtain ⟨hk, rfl⟩ := List.getElem?_eq_some_iff.1 h
  unfold turnsOf
  rw [List.take_succ_eq_append_getElem hk, List.foldl_append]
  rfl
/-- Round from u on, as long as there is something new. -/
def ringL (M : Nat → Nat → Nat) (v : Nat) : Nat → Nat → Nat × List Nat → Nat × List Nat
  | 0, _, s => s
  | f + 1, u, s => if s.1.testBit u then s else ringL M v f (M v u) (sAdd s.1 u, s.2 ++ [u])
def ringsL (M : Nat → Nat → Nat) (v : Nat) (l : List Nat) : Nat × List Nat := l.foldl (fun s u => ringL M v 129 u s) (0, [])
def rowBy (M : Nat → Nat → Nat) (near : List Nat) (v : Nat) : List Nat := (ringsL M v (elems (at' near v))).2
def roundL (near : List Nat) (F : List Face) : List (List Nat) := (List.range near.length).map (rowBy (turnsOf F) near)
/-- The frame of roundBy in its last loop. -/
def F26 (bn N bm bt : Nat) (v : Value) (f : Nat → Value) (ds : List Deferred) : Act := { tmps := #[sl bn N, f 1, f 2, f 3, f 4, Value.pointer (some ⟨bm + 1, 0, none⟩), f 6, f 7, f 8, f 9, f 10, f 11, Value.pointer (some ⟨bt + 1, 0, none⟩), f 13, f 14, f 15, f 16, f 17, f 18, f 19, f 20, f 21, f 22, f 23, f 24, f 25, f 26, f 27, f 28, f 29, f 30, f 31, f 32, f 33, f 34, f 35, f 36, f 37, f 38, f 39, f 40, f 41, f 42, f 43, f 44, f 45, f 46, f 47, f 48, f 49, f 50, f 51, f 52, f 53, f 54, f 55, f 56, f 57, f 58, f 59, f 60, f 61, f 62, f 63, f 64, f 65, sl bn N, Value.int .i64 (N : Int), v, f 69, f 70, f 71, f 72, f 73, f 74, f 75, f 76, f 77, f 78, f 79, f 80, f 81, f 82, f 83, f 84, f 85, f 86, f 87, f 88, f 89, f 90, f 91, f 92, f 93, f 94, f 95, f 96, f 97, f 98, f 99, f 100], defers := ds }
def IsF26 (bn N bm bt : Nat) (v : Value) (ds : List Deferred) (a : Act) : Prop := ∃ f, a = F26 bn N bm bt v f ds
theorem isF26 {bn N bm bt : Nat} {v : Value} {ds : List Deferred} {x1 x2 x3 x4 x6 x7 x8 x9 x10 x11 x13 x14 x15 x16 x17 x18 x19 x20 x21 x22 x23 x24 x25 x26 x27 x28 x29 x30 x31 x32 x33 x34 x35 x36 x37 x38 x39 x40 x41 x42 x43 x44 x45 x46 x47 x48 x49 x50 x51 x52 x53 x54 x55 x56 x57 x58 x59 x60 x61 x62 x63 x64 x65 x69 x70 x71 x72 x73 x74 x75 x76 x77 x78 x79 x80 x81 x82 x83 x84 x85 x86 x87 x88 x89 x90 x91 x92 x93 x94 x95 x96 x97 x98 x99 x100 : Value} : IsF26 bn N bm bt v ds { tmps := #[sl bn N, x1, x2, x3, x4, Value.pointer (some ⟨bm + 1, 0, none⟩), x6, x7, x8, x9, x10, x11, Value.pointer (some ⟨bt + 1, 0, none⟩), x13, x14, x15, x16, x17, x18, x19, x20, x21, x22, x23, x24, x25, x26, x27, x28, x29, x30, x31, x32, x33, x34, x35, x36, x37, x38, x39, x40, x41, x42, x43, x44, x45, x46, x47, x48, x49, x50, x51, x52, x53, x54, x55, x56, x57, x58, x59, x60, x61, x62, x63, x64, x65, sl bn N, Value.int .i64 (N : Int), v, x69, x70, x71, x72, x73, x74, x75, x76, x77, x78, x79, x80, x81, x82, x83, x84, x85, x86, x87, x88, x89, x90, x91, x92, x93, x94, x95, x96, x97, x98, x99, x100], defers := ds } := ⟨fun i => ([undef, x1, x2, x3, x4, undef, x6, x7, x8, x9, x10, x11, undef, x13, x14, x15, x16, x17, x18, x19, x20, x21, x22, x23, x24, x25, x26, x27, x28, x29, x30, x31, x32, x33, x34, x35, x36, x37, x38, x39, x40, x41, x42, x43, x44, x45, x46, x47, x48, x49, x50, x51, x52, x53, x54, x55, x56, x57, x58, x59, x60, x61, x62, x63, x64, x65, undef, undef, undef, x69, x70, x71, x72, x73, x74, x75, x76, x77, x78, x79, x80, x81, x82, x83, x84, x85, x86, x87, x88, x89, x90, x91, x92, x93, x94, x95, x96, x97, x98, x99, x100] : List Value).getD i undef, rfl⟩
theorem make29 (N : Nat) (hN : N ≤ 1000) (w : World) : (Instr.makeSlice 29 (.int .i64 (N : Int)) (.int .i64 (N : Int))).run Tryd.prog w = .ok (.slice (some ⟨w.heap.size, 0, none⟩) N N) (w.alloc (.cells (rep N (.slice none 0 0)) 61)) := by
  obtain ⟨i3, hi3, hy0, hy1, hy2⟩ := info_parts Tryd.info61
  have hr := run_make (P := Tryd.prog) w 29 61 i3 (.slice none 0 0) Tryd.underlying29 hi3 hy0 .i64 .i64 N N (by omega) (Int.le_refl _) (by rw [hy2]; omega) (by omega)
  simpa [hy1, Value.cells] using hr
/-- The frame of roundBy within a round. -/
def A23 (bn N bm bt b13 v nv : Nat) (x15 x16 x76 x77 : Value) (f h g : Nat → Value) : Act := { tmps := #[sl bn N, f 1, f 2, f 3, f 4, Value.pointer (some ⟨bm + 1, 0, none⟩), f 6, f 7, f 8, f 9, f 10, f 11, Value.pointer (some ⟨bt + 1, 0, none⟩), Value.pointer (some ⟨b13, 0, none⟩), Value.pointer (some ⟨b13 + 1, 0, none⟩), x15, x16, f 17, f 18, f 19, f 20, f 21, f 22, f 23, f 24, f 25, f 26, f 27, f 28, f 29, f 30, f 31, f 32, f 33, f 34, f 35, f 36, f 37, f 38, f 39, f 40, f 41, f 42, f 43, f 44, f 45, f 46, f 47, f 48, f 49, f 50, f 51, f 52, f 53, f 54, f 55, f 56, f 57, f 58, f 59, f 60, f 61, f 62, f 63, f 64, f 65, sl bn N, Value.int .i64 (N : Int), Value.int .i64 (v : Int), Value.bool true, Value.int .i64 (v : Int), sl bn N, Value.int .i64 (v : Int), Value.pointer (some ⟨bn, v * 2, none⟩), sv nv, Value.func (Fn.func 47) #[sv nv] #[], x76, x77, h 78, h 79, h 80, h 81, h 82, h 83, h 84, h 85, h 86, h 87, h 88, g 0, g 1, g 2, g 3, g 4, g 5, g 6, g 7, g 8, g 9, f 99, f 100], defers := [] }
theorem wpIn_A23 {F : Fence} {n : Nat} {C : Code} {Q : Exit → Act → World → Prop} {w : World} {bn N bm bt b13 v nv : Nat} {x15 x16 x76 x77 : Value} {f : Nat → Value} {y78 y79 y80 y81 y82 y83 y84 y85 y86 y87 y88 y89 y90 y91 y92 y93 y94 y95 y96 y97 y98 : Value} (H : ∀ h g : Nat → Value, C.wpIn F n Tryd.prog Q (A23 bn N bm bt b13 v nv x15 x16 x76 x77 f h g) w) :
    C.wpIn F n Tryd.prog Q { tmps := #[sl bn N, f 1, f 2, f 3, f 4, Value.pointer (some ⟨bm + 1, 0, none⟩), f 6, f 7, f 8, f 9, f 10, f 11, Value.pointer (some ⟨bt + 1, 0, none⟩), Value.pointer (some ⟨b13, 0, none⟩), Value.pointer (some ⟨b13 + 1, 0, none⟩), x15, x16, f 17, f 18, f 19, f 20, f 21, f 22, f 23, f 24, f 25, f 26, f 27, f 28, f 29, f 30, f 31, f 32, f 33, f 34, f 35, f 36, f 37, f 38, f 39, f 40, f 41, f 42, f 43, f 44, f 45, f 46, f 47, f 48, f 49, f 50, f 51, f 52, f 53, f 54, f 55, f 56, f 57, f 58, f 59, f 60, f 61, f 62, f 63, f 64, f 65, sl bn N, Value.int .i64 (N : Int), Value.int .i64 (v : Int), Value.bool true, Value.int .i64 (v : Int), sl bn N, Value.int .i64 (v : Int), Value.pointer (some ⟨bn, v * 2, none⟩), sv nv, Value.func (Fn.func 47) #[sv nv] #[], x76, x77, y78, y79, y80, y81, y82, y83, y84, y85, y86, y87, y88, y89, y90, y91, y92, y93, y94, y95, y96, y97, y98, f 99, f 100], defers := [] } w := H (fun i => ([y78, y79, y80, y81, y82, y83, y84, y85, y86, y87, y88] : List Value).getD (i - 78) undef) (fun i => ([y89, y90, y91, y92, y93, y94, y95, y96, y97, y98] : List Value).getD i undef)
/-- The frame with which a round begins. -/
def G26 (bn N bm bt b13 v nv u : Nat) (f : Nat → Value) : Act := { tmps := #[sl bn N, f 1, f 2, f 3, f 4, Value.pointer (some ⟨bm + 1, 0, none⟩), f 6, f 7, f 8, f 9, f 10, f 11, Value.pointer (some ⟨bt + 1, 0, none⟩), Value.pointer (some ⟨b13, 0, none⟩), Value.pointer (some ⟨b13 + 1, 0, none⟩), Value.int .i64 (u : Int), f 16, f 17, f 18, f 19, f 20, f 21, f 22, f 23, f 24, f 25, f 26, f 27, f 28, f 29, f 30, f 31, f 32, f 33, f 34, f 35, f 36, f 37, f 38, f 39, f 40, f 41, f 42, f 43, f 44, f 45, f 46, f 47, f 48, f 49, f 50, f 51, f 52, f 53, f 54, f 55, f 56, f 57, f 58, f 59, f 60, f 61, f 62, f 63, f 64, f 65, sl bn N, Value.int .i64 (N : Int), Value.int .i64 (v : Int), Value.bool true, Value.int .i64 (v : Int), sl bn N, Value.int .i64 (v : Int), Value.pointer (some ⟨bn, v * 2, none⟩), sv nv, Value.func (Fn.func 47) #[sv nv] #[], Value.int .i64 (u : Int), f 77, f 78, f 79, f 80, f 81, f 82, f 83, f 84, f 85, f 86, f 87, f 88, f 89, f 90, f 91, f 92, f 93, f 94, f 95, f 96, f 97, f 98, f 99, f 100], defers := [] }
def V23 (bt N v : Nat) (x : Value) (u : Nat) : Nat → Value
  | 0 => sl bt N
  | 1 => .int .i64 (v : Int)
  | 2 => sl bt N
  | 3 => .int .i64 (v : Int)
  | 4 => .pointer (some ⟨bt, v, none⟩)
  | 5 => x
  | 6 => .int .i64 (u : Int)
  | 9 => .pointer (some ⟨bt, v, none⟩)
  | _ => undef
theorem set_same' {α : Type} {l : List α} {i : Nat} {x : α} (h : l[i]? = some x) : l.set i x = l := by
  obtain ⟨hi, rfl⟩ := List.getElem?_eq_some_iff.1 h
  exact List.set_getElem_self hi
theorem ringL_stop {M : Nat → Nat → Nat} {v f u : Nat} {s : Nat × List Nat} (h : s.1.testBit u = true) : ringL M v f u s = s := by
  cases f with
  | zero => rfl
  | succ f => rw [ringL, if_pos h]
theorem ringL_go {M : Nat → Nat → Nat} {v f u told : Nat} {l : List Nat} (h : told.testBit u = false) : ringL M v (f + 1) u (told, l) = ringL M v f (M v u) (sAdd told u, l ++ [u]) := by
  rw [ringL, if_neg (by simp [h])]
theorem set_row {v N : Nat} (hv : v < N) (g : Nat → List Nat) : ((List.range v).map g ++ List.replicate (N - v) []).set v (g v) = (List.range (v + 1)).map g ++ List.replicate (N - (v + 1)) [] := by
  rw [List.set_append_right _ _ (by simp), List.range_succ, List.map_append]
  have : N - v = (N - (v + 1)) + 1 := by omega
  rw [this, List.replicate_succ]
  simp
/-- A table of rows of one's own: the answer of a function. -/
def RoundAns (w w' : World) (e : Ending) (N : Nat) (Ls : List (List Nat)) : Prop := ∃ bt xs, e = .returned (sl bt N) ∧ w.heap.size ≤ bt ∧ RowsW w' bt (bt + 2) Ls xs ∧ Below w.heap.size w w'
theorem turned_turns {w w' : World} {b : Nat} (h : w.mapTurned w' b) : Turns (fun k => k = b) w w' := (Turns.of_grown h.grown).mono (fun k _ e => by simpa using e)
set_option maxHeartbeats 8000000 in
theorem roundBy_call {w : World} {bn lo : Nat} {near : List Nat} {x : Value} {H : List Value} {F : List Face} (hn : SetsAt w bn near) (hl : near.length ≤ 100) (hnb : ∀ s ∈ near, ∀ v, s.testBit v = true → v < near.length) (hF : FRow w lo x H F) (hFl : F.length ≤ 100000) (ht : T64 w) :
    Calls Tryd.prog 26 #[sl bn near.length, x] w fun e w' => RoundAns w w' e near.length (roundL near F) := by
  have HN : Hid (SetsAt w bn near) := hn
  have HNB : Hid (∀ s ∈ near, ∀ v, s.testBit v = true → v < near.length) := hnb
  have HT : Hid (T64 w) := ht
  have HFR : Hid (FRow w lo x H F) := hF
  obtain ⟨N, hN⟩ : ∃ N, N = near.length := ⟨_, rfl⟩
  rw [← hN] at hl ⊢
  have HNN : Hid (N = near.length) := hN
  obtain ⟨m, hm⟩ : ∃ m, m = F.length := ⟨_, rfl⟩
  obtain ⟨po, pc, hx⟩ : ∃ po pc, x = .slice po m pc := by
    rcases hF.row.2 with ⟨e, e0⟩ | ⟨g, cap, cur, e, _⟩
    · rw [hm, e0]; exact ⟨_, _, e⟩
    · rw [hm]; exact ⟨_, _, e⟩
  subst hx
  rw [← hm] at hFl
  have HM : Hid (m = F.length) := hm
  clear hn hnb ht hF hN hm
  refine (callsIn_wide (n := 8)).1 (callsIn_of_wp_marks Tryd.func26 rfl trivial ?_ rfl)
  refine wpIn_wide.2 ?_
  simp only [Tryd.ntmps26, List.size_toArray, List.length_cons, List.length_nil, Nat.reduceAdd, Nat.reduceSub, Array.replicate_succ, Array.replicate_zero, List.push_toArray, List.append_toArray, List.nil_append, List.cons_append]
  have hmm := @run_makeMap Tryd.prog
  go_upto_region 3 with (fail)
  obtain ⟨bm, hbm⟩ : ∃ b, b = w.heap.size := ⟨_, rfl⟩
  have x0 : TurnM ((w.alloc (.map #[] 0)).alloc (Obj.cells #[.map (some bm)] 84)) bm 0 (fun _ _ => 0) := by
    rw [hbm]; exact (turnM_made w).block (Below.heap_alloc _ _ _ (by simp))
  have x5 : One ((w.alloc (.map #[] 0)).alloc (Obj.cells #[.map (some bm)] 84)) (bm + 1) (.map (some bm)) 84 := by
    have := one_new (w.alloc (.map #[] 0)) (.map (some bm)) 84
    rw [World.size_alloc, ← hbm] at this
    exact this
  have hB0 : Below w.heap.size w ((w.alloc (.map #[] 0)).alloc (Obj.cells #[.map (some bm)] 84)) := below_alloc (below_alloc (Below.refl _ w) _) _
  have HBM : Hid (w.heap.size ≤ bm) := Nat.le_of_eq hbm.symm
  rw [← hbm]
  generalize (w.alloc (.map #[] 0)).alloc (Obj.cells #[.map (some bm)] 84) = W1 at *
  have HX : Hid (TurnM W1 bm 0 (fun _ _ => 0) ∧ One W1 (bm + 1) (.map (some bm)) 84 ∧ Below w.heap.size w W1) := ⟨x0, x5, hB0⟩
  clear hbm x0 x5 hB0 hmm
  go_loopw [20] (fun s20 wz => ∃ k n : Nat, k ≤ m ∧ s20 = .int .i64 (k : Int) ∧ TurnM wz bm n (turnsOf (F.take k)) ∧ SmallM (turnsOf (F.take k)) ∧ n ≤ 1000 * k ∧ One wz (bm + 1) (.map (some bm)) 84 ∧ Below w.heap.size w wz) (fun s20 _ => m - (numOf s20).toNat)
  case atStart => exact ⟨0, 0, Nat.zero_le _, rfl, HX.out.1, fun _ _ => (by show (0 : Nat) < 128; decide), Nat.zero_le _, HX.out.2.1, HX.out.2.2⟩
  case round =>
    obtain ⟨k, n, hk, rfl, hM, hSm, hn, h5, hB⟩ := hrel
    by_cases hlt : k < m
    · obtain ⟨gf, fc, e, _⟩ := HFR.out.form (by have := HM.out; omega)
      simp only [Value.slice.injEq] at e
      obtain ⟨e1, e3, e2⟩ := e
      clear e3
      subst e1
      subst e2
      have hkF : k < F.length := by have := HM.out; omega
      obtain ⟨f, hf⟩ : ∃ f, F[k]? = some f := ⟨F[k], List.getElem?_eq_getElem hkF⟩
      obtain ⟨hv, hhv⟩ : ∃ hv, H[k]? = some hv := ⟨H[k]'(by rw [HFR.out.hl]; exact hkF), List.getElem?_eq_getElem _⟩
      obtain ⟨c0, c1, c2⟩ := (HFR.out.under hB).cells (by rw [HM.out]) hhv hf
      obtain ⟨g, off, c, rfl, hlc, hnum, _, hgl⟩ := (HFR.out.under hB).walks k hv f hhv hf
      have HGL : Hid (g < w.heap.size) := (HFR.out.walk_lt hhv rfl).2
      obtain ⟨fo1, fo2, fo3⟩ := HFR.out.ok f (List.mem_of_getElem? hf)
      clear fo3
      have HTK : Hid (turnsOf (F.take (k + 1)) = fillT f.walk f.walk.length (turnsOf (F.take k))) := turnsOf_take hf
      generalize f.walk = l at *
      obtain ⟨len, hlen⟩ : ∃ n, n = l.length := ⟨_, rfl⟩
      rw [← hlen] at c0 hlc fo2
      have HL : Hid (len = l.length ∧ (∀ v ∈ l, v < 128)) := ⟨hlen, fo1⟩
      have HM0 : Hid (TurnM wr bm n (turnsOf (F.take k)) ∧ SmallM (turnsOf (F.take k)) ∧ n ≤ 1000 * k ∧ One wr (bm + 1) (.map (some bm)) 84 ∧ Below w.heap.size w wr ∧ NumL wr g off l ∧ g < wr.heap.size) := ⟨hM, hSm, hn, h5, hB, hnum, hgl⟩
      have i1 : (0 : Int) ≤ (k : Int) := by omega
      have i2 : (k : Int) < (m : Int) := by omega
      have i3 : k ≤ 100000 := by omega
      clear hM hSm hn h5 hB hf hhv hnum hgl fo1 hlen hkF
      generalize f.nodes = fnd at *
      go_upto_region 6 with (fail)
      have x7 : Box (wr.alloc (Obj.cells #[.slice (some ⟨g, off, none⟩) len c, .int .u64 (lo64 fnd : Int), .int .u64 (hi64 fnd : Int)] 86)) wr.heap.size #[.slice (some ⟨g, off, none⟩) len c, .int .u64 (lo64 fnd : Int), .int .u64 (hi64 fnd : Int)] 86 := heap_alloc_new _ _
      have hBa := below_alloc (Below.refl _ wr) (Obj.cells #[.slice (some ⟨g, off, none⟩) len c, .int .u64 (lo64 fnd : Int), .int .u64 (hi64 fnd : Int)] 86)
      have hbm7 : bm + 1 < wr.heap.size := lt_of_block HM0.out.2.2.2.1
      generalize hb7 : wr.heap.size = b7 at x7 hbm7 hBa ⊢
      generalize wr.alloc (Obj.cells #[.slice (some ⟨g, off, none⟩) len c, .int .u64 (lo64 fnd : Int), .int .u64 (hi64 fnd : Int)] 86) = W7 at *
      have HA : Hid (Below wr.heap.size wr W7 ∧ Box W7 b7 #[.slice (some ⟨g, off, none⟩) len c, .int .u64 (lo64 fnd : Int), .int .u64 (hi64 fnd : Int)] 86 ∧ g < b7) := ⟨by rw [hb7]; exact hBa, x7, by rw [← hb7]; exact HM0.out.2.2.2.2.2.2⟩
      clear hb7 hBa x7 c0 c1 c2
      generalize wr = wa at *
      go_loopw [27] (fun s27 wz => ∃ i n' : Nat, i ≤ len ∧ s27 = .int .i64 (i : Int) ∧ TurnM wz bm n' (fillT l i (turnsOf (F.take k))) ∧ SmallM (fillT l i (turnsOf (F.take k))) ∧ n' ≤ 1000 * k + i ∧ Turns (fun k => k = bm) W7 wz) (fun s27 _ => len - (numOf s27).toNat)
      case atStart => exact ⟨0, n, Nat.zero_le _, rfl, HM0.out.1.under HA.out.1, HM0.out.2.1, HM0.out.2.2.1, Turns.refl _ _⟩
      case round =>
        obtain ⟨i, n', hi, rfl, hM, hSm, hn', htn⟩ := hrel
        have x7 := box_turns HA.out.2.1 htn (by omega)
        by_cases hil : i < len
        · have hgb : g ≠ bm := by have := HGL.out; have := HBM.out; omega
          have hnum := (HM0.out.2.2.2.2.2.1.under HA.out.1 HM0.out.2.2.2.2.2.2).turns htn hgb
          have hpos : 0 < len := by omega
          obtain ⟨pa, hpa⟩ : ∃ p, p = (i + len - 1) % len := ⟨_, rfl⟩
          obtain ⟨pc', hpc⟩ : ∃ p, p = (i + 1) % len := ⟨_, rfl⟩
          have hpal : pa < len := by rw [hpa]; exact Nat.mod_lt _ hpos
          have hpcl : pc' < len := by rw [hpc]; exact Nat.mod_lt _ hpos
          have hget : ∀ j, j < len → l[j]? = some (l.getD j 0) := fun j hj => by
            rw [List.getD_eq_getElem?_getD, List.getElem?_eq_getElem (by have := HL.out.1; omega)]; rfl
          have hst : stepT l (fillT l i (turnsOf (F.take k))) i = upd2 (fillT l i (turnsOf (F.take k))) (l.getD i 0) (l.getD pa 0) (l.getD pc' 0) := by
            unfold stepT
            rw [← HL.out.1, ← hpa, ← hpc]
          have hsb : ∀ j, j < len → l.getD j 0 < 128 := fun j hj => HL.out.2 _ (List.mem_of_getElem? (hget j hj))
          have ci := hnum i _ (hget i hil)
          have ca := cell_growD (hnum pa _ (hget pa hpal))
          have cc := cell_growD (hnum pc' _ (hget pc' hpcl))
          have ex1 : Int.tmod ((i : Int) + (len : Int) - 1) (len : Int) = (pa : Int) := by
            rw [hpa, show (i : Int) + (len : Int) - 1 = ((i + len - 1 : Nat) : Int) by omega]
            rfl
          have ex2 : Int.tmod ((i : Int) + 1) (len : Int) = (pc' : Int) := by
            rw [hpc, show (i : Int) + 1 = ((i + 1 : Nat) : Int) by omega]
            rfl
          have ex3 : IntKind.i64.wrap ((i : Int) + (len : Int)) = (i : Int) + (len : Int) := by rw [IntKind.wrap_i64]; omega
          have ex4 : IntKind.i64.wrap ((i : Int) + (len : Int) - 1) = (i : Int) + (len : Int) - 1 := by rw [IntKind.wrap_i64]; omega
          have ex5 : IntKind.i64.wrap ((i : Int) + 1) = (i : Int) + 1 := by rw [IntKind.wrap_i64]; omega
          have ex6 : ¬ (len : Int) = 0 := by omega
          have ex7 : ((len : Int) == 0) = false := by simp; omega
          have ex7a : ¬ len = 0 := by omega
          have ex7b : (len == 0) = false := by simp; omega
          have ex8 : IntKind.i64.wrap (pa : Int) = (pa : Int) := by rw [IntKind.wrap_i64]; omega
          have ex9 : IntKind.i64.wrap (pc' : Int) = (pc' : Int) := by rw [IntKind.wrap_i64]; omega
          have r1 : (0 : Int) ≤ (pa : Int) := by omega
          have r2 : (pa : Int) < (len : Int) := by omega
          have r3 : (0 : Int) ≤ (pc' : Int) := by omega
          have r4 : (pc' : Int) < (len : Int) := by omega
          have r5 : (0 : Int) ≤ (i : Int) := by omega
          have r6 : (i : Int) < (len : Int) := by omega
          have HSB : Hid (l.getD i 0 < 128 ∧ l.getD pa 0 < 128 ∧ l.getD pc' 0 < 128) := ⟨hsb i hil, hsb pa hpal, hsb pc' hpcl⟩
          have HST : Hid _ := hst
          have HMI : Hid (TurnM wr bm n' (fillT l i (turnsOf (F.take k))) ∧ SmallM (stepT l (fillT l i (turnsOf (F.take k))) i) ∧ n' ≤ 1000 * k + i ∧ Turns (fun k => k = bm) W7 wr) := ⟨hM, hSm.step HL.out.2 i, hn', htn⟩
          have b0 := box_cell x7 (i := 0) rfl
          have g0 := cell_growD b0
          generalize l.getD i 0 = li at *
          generalize l.getD pa 0 = la at *
          generalize l.getD pc' 0 = lc at *
          clear hpa hpc hget hst hsb hM hSm hn' htn hnum
          go_upto_region 8 with (fail)
          refine wp_region_below (by kernel_rfl) (by kernel_rfl) ?_
          repeat (quiet_step (fail))
          refine wpQuiet_nil ?_
          rintro _ ⟨gp, rfl⟩
          have hB8 := growD_below wr gp
          clear ca cc g0
          generalize growD wr gp = w8 at *
          have HT8 : Hid (Turns (fun k => k = bm) W7 w8) := HMI.out.2.2.2.trans (Turns.of_below hB8 _)
          have c5 := box_cell (one_turns ((HA.out.1.block _ (lt_of_block HM0.out.2.2.2.1)).trans HM0.out.2.2.2.1) HT8.out (by omega)) (i := 0) rfl
          obtain ⟨w9, hrun, hM9, ht9⟩ := (HMI.out.1.under hB8).store (u := li) (v := la) (c := lc) (by have := HSB.out; omega) (by have := HSB.out; omega) (by have := HSB.out; omega) (by have := HMI.out.2.2.1; omega)
          have HM9 : Hid (TurnM w9 bm (n' + 1) (stepT l (fillT l i (turnsOf (F.take k))) i) ∧ Turns (fun k => k = bm) W7 w9) := ⟨by rw [HST.out]; exact hM9, HT8.out.trans (turned_turns ht9)⟩
          clear hB8 hM9 ht9
          go_wp2
          go_roundw
          case rel => exact ⟨i + 1, n' + 1, by omega, by go_num, by rw [fillT_succ]; exact HM9.out.1, by rw [fillT_succ]; exact HMI.out.2.1, by have := HMI.out.2.2.1; omega, HM9.out.2⟩
          case measure => simp [numOf]; omega
        · have r6 : ¬ (i : Int) < (len : Int) := by omega
          have hil2 : i = len := by omega
          have HMI : Hid (TurnM wr bm n' (turnsOf (F.take (k + 1))) ∧ SmallM (turnsOf (F.take (k + 1))) ∧ n' ≤ 1000 * (k + 1) ∧ Turns (fun k => k = bm) W7 wr) := ⟨by rw [HTK.out, ← HL.out.1, ← hil2]; exact hM, by rw [HTK.out, ← HL.out.1, ← hil2]; exact hSm, by omega, htn⟩
          clear hM hSm hn' htn hil2 x7
          go_wp2
          go_roundw
          case rel => exact ⟨k + 1, n', by omega, by go_num, HMI.out.1, HMI.out.2.1, HMI.out.2.2.1, one_turns ((HA.out.1.block _ (lt_of_block HM0.out.2.2.2.1)).trans HM0.out.2.2.2.1) HMI.out.2.2.2 (by omega), HMI.out.2.2.2.below (below_next HM0.out.2.2.2.2.1 HA.out.1) (below_next HM0.out.2.2.2.2.1 HA.out.1).size (fun k e => by rw [e]; exact HBM.out)⟩
          case measure => simp [numOf]; omega
    · have hkm : k = m := by omega
      have i2 : ¬ (k : Int) < (m : Int) := by omega
      have HMM : Hid (TurnM wr bm n (turnsOf F) ∧ SmallM (turnsOf F) ∧ One wr (bm + 1) (.map (some bm)) 84 ∧ Below w.heap.size w wr) := by
        have e : F.take k = F := List.take_of_length_le (by have := HM.out; omega)
        rw [e] at hM hSm
        exact ⟨hM, hSm, h5, hB⟩
      clear hM hSm hn h5 hB hkm
      have hmk := make29 N (by omega) wr
      go_upto_region 14 with (fail)
      obtain ⟨bt, hbt⟩ : ∃ b, b = wr.heap.size := ⟨_, rfl⟩
      have xr : RowsW ((wr.alloc (Obj.cells (rep N (Value.slice none 0 0)) 61)).alloc (Obj.cells #[.slice (some ⟨bt, 0, none⟩) N N] 29)) bt (bt + 2) (List.replicate N []) (List.replicate N (Value.slice none 0 0)) := rowsW_nil (by rw [hbt]; exact (Below.heap_alloc _ _ _ (by simp)).trans (heap_alloc_new _ _))
      have x12 : One ((wr.alloc (Obj.cells (rep N (Value.slice none 0 0)) 61)).alloc (Obj.cells #[.slice (some ⟨bt, 0, none⟩) N N] 29)) (bt + 1) (sl bt N) 29 := by
        have := one_new (wr.alloc (Obj.cells (rep N (Value.slice none 0 0)) 61)) (.slice (some ⟨bt, 0, none⟩) N N) 29
        rw [World.size_alloc, ← hbt] at this
        exact this
      have hBb : Below wr.heap.size wr ((wr.alloc (Obj.cells (rep N (Value.slice none 0 0)) 61)).alloc (Obj.cells #[.slice (some ⟨bt, 0, none⟩) N N] 29)) := below_alloc (below_alloc (Below.refl _ wr) _) _
      have hbmt : bm + 1 < bt := by rw [hbt]; exact lt_of_block HMM.out.2.2.1
      rw [← hbt]
      generalize (wr.alloc (Obj.cells (rep N (Value.slice none 0 0)) 61)).alloc (Obj.cells #[.slice (some ⟨bt, 0, none⟩) N N] 29) = W3 at *
      have HW3 : Hid (RowsW W3 bt (bt + 2) (List.replicate N []) (List.replicate N (Value.slice none 0 0)) ∧ One W3 (bt + 1) (sl bt N) 29 ∧ TurnM W3 bm n (turnsOf F) ∧ One W3 (bm + 1) (.map (some bm)) 84 ∧ Below w.heap.size w W3) := ⟨xr, x12, HMM.out.1.under hBb, (hBb.block _ (lt_of_block HMM.out.2.2.1)).trans HMM.out.2.2.1, below_next HMM.out.2.2.2 hBb⟩
      have HSM : Hid (SmallM (turnsOf F)) := HMM.out.2.1
      have HBT : Hid (w.heap.size ≤ bm ∧ bm + 1 < bt) := ⟨HBM.out, hbmt⟩
      generalize hMt : turnsOf F = M at *
      have HMT : Hid (turnsOf F = M) := hMt
      clear hmk hbt xr x12 hBb hbmt HMM hMt
      refine wp_loop (fun a wz => ∃ (v : Nat) (ds : List Deferred) (hi : Nat) (xs : List Value), IsF26 bn N bm bt (.int .i64 (v : Int)) ds a ∧ v ≤ N ∧ RowsW wz bt (bt + 2) ((List.range v).map (rowBy M near) ++ List.replicate (N - v) []) xs ∧ One wz (bt + 1) (sl bt N) 29 ∧ TurnM wz bm n M ∧ One wz (bm + 1) (.map (some bm)) 84 ∧ Below w.heap.size w wz ∧ Marks (bt + 2) hi ds wz ∧ hi ≤ wz.heap.size) (fun a _ => N - (numOf (a.tmps.getD 68 undef)).toNat) ⟨0, [], 0, _, isF26, Nat.zero_le _, HW3.out.1, HW3.out.2.1, HW3.out.2.2.1, HW3.out.2.2.2.1, HW3.out.2.2.2.2, Marks.nil _ _ _, Nat.zero_le _⟩ ?_
      rintro a wr ⟨v, ds, hi, xs, ⟨f, rfl⟩, hv, hrows, htb, htm, hmp, hB, hmk, hhi⟩
      dsimp only [F26]
      by_cases hlt : v < N
      · have hvn : v < near.length := by have := HNN.out; omega
        have hal := at_lt HN.out.lt v
        have HNV : Hid (∀ A, Below w.heap.size w A → A.cell? ⟨bn, v * 2, none⟩ = some (.int .u64 (lo64 (at' near v) : Int)) ∧ A.cell? ⟨bn, v * 2 + 1, none⟩ = some (.int .u64 (hi64 (at' near v) : Int))) := fun A hA => (HN.out.below hA HN.out.ltS).cell (at_some hvn)
        have HAV : Hid (at' near v < 2 ^ 128 ∧ ∀ z, (at' near v).testBit z = true → z < N) := ⟨hal, fun z hz => by
          rw [HNN.out]
          exact HNB.out _ (List.mem_of_getElem? (at_some hvn)) z hz⟩
        have HRB : Hid (rowBy M near v = (ringsL M v (elems (at' near v))).2) := rfl
        generalize at' near v = nv at *
        have HR : Hid (RowsW wr bt (bt + 2) ((List.range v).map (rowBy M near) ++ List.replicate (N - v) []) xs ∧ One wr (bt + 1) (sl bt N) 29 ∧ TurnM wr bm n M ∧ One wr (bm + 1) (.map (some bm)) 84 ∧ Below w.heap.size w wr ∧ Marks (bt + 2) hi ds wr ∧ hi ≤ wr.heap.size) := ⟨hrows, htb, htm, hmp, hB, hmk, hhi⟩
        have j1 : (0 : Int) ≤ (v : Int) := by omega
        have j2 : (v : Int) < (N : Int) := by omega
        clear hrows htb htm hmp hB hmk hhi hal hvn
        go_upto_region 17 with (fail)
        have hB14 : Below wr.heap.size wr ((wr.alloc (Obj.cells #[.int .i64 (v : Int)] 3)).alloc (Obj.cells #[.int .u64 0, .int .u64 0] 76)) := below_alloc (below_alloc (Below.refl _ wr) _) _
        have x13 : One ((wr.alloc (Obj.cells #[.int .i64 (v : Int)] 3)).alloc (Obj.cells #[.int .u64 0, .int .u64 0] 76)) wr.heap.size (.int .i64 (v : Int)) 3 := (Below.heap_alloc _ _ _ (by simp)).trans (one_new _ _ _)
        have x14 : SBox ((wr.alloc (Obj.cells #[.int .i64 (v : Int)] 3)).alloc (Obj.cells #[.int .u64 0, .int .u64 0] 76)) (wr.heap.size + 1) 0 := sbox_zero (by
          have := two_new (wr.alloc (Obj.cells #[.int .i64 (v : Int)] 3)) (.int .u64 0) (.int .u64 0) 76
          rw [World.size_alloc] at this
          exact this)
        have hq : wr.heap.size + 2 = ((wr.alloc (Obj.cells #[.int .i64 (v : Int)] 3)).alloc (Obj.cells #[.int .u64 0, .int .u64 0] 76)).heap.size := by simp
        have hbw : bt + 1 < wr.heap.size := lt_of_block HR.out.2.1
        obtain ⟨b13, hb13⟩ : ∃ b, b = wr.heap.size := ⟨_, rfl⟩
        rw [← hb13] at x13 x14 hq hbw ⊢
        generalize (wr.alloc (Obj.cells #[.int .i64 (v : Int)] 3)).alloc (Obj.cells #[.int .u64 0, .int .u64 0] 76) = w4 at *
        have hAp : ApR w.heap.size bm bt b13 (b13 + 1) (b13 + 2) := ⟨HBT.out.1, HBT.out.2, hbw, by omega, by omega⟩
        have HAp : Hid (ApR w.heap.size bm bt b13 (b13 + 1) (b13 + 2)) := hAp
        have HQ4 : Hid (b13 + 2 = w4.heap.size) := hq
        have HRR : Hid (RR w w4 bm bt b13 (b13 + 1) (b13 + 2) n N v 0 M ((List.range v).map (rowBy M near) ++ List.replicate (N - v) []) xs) := ⟨(hB14.block _ (lt_of_block HR.out.2.2.2.1)).trans HR.out.2.2.2.1, HR.out.2.2.1.under hB14, (hB14.block _ (lt_of_block HR.out.2.1)).trans HR.out.2.1, HR.out.1.under hB14, x13, x14, below_next HR.out.2.2.2.2.1 hB14, fun j x hx g hg => by
          have := (HR.out.1.lt hx hg).2
          rw [← hb13] at this
          exact ⟨by omega, by omega, fun e => by have := e.1; omega⟩⟩
        have HMK : Hid (Marks (bt + 2) hi ds w4 ∧ hi ≤ b13) := ⟨HR.out.2.2.2.2.2.1.under hB14, by rw [hb13]; exact HR.out.2.2.2.2.2.2⟩
        have cv := box_cell x13 (i := 0) rfl
        obtain ⟨n0, n1⟩ := HNV.out w4 HRR.out.below
        clear hB14 x13 x14 hq hbw hb13 hAp HNV
        go_upto_region 18 with (fail)
        have HIn : Hid (Marks (bt + 2) hi ds w4 ∧ hi ≤ b13) := HMK.out
        obtain ⟨base, hbase⟩ : ∃ b, b = (List.range v).map (rowBy M near) ++ List.replicate (N - v) [] := ⟨_, rfl⟩
        rw [← hbase] at HRR
        have HBS : Hid (base = (List.range v).map (rowBy M near) ++ List.replicate (N - v) [] ∧ base[v]? = some []) := ⟨hbase, by
          rw [hbase, List.getElem?_append_right (by simp)]
          simp only [List.length_map, List.length_range, Nat.sub_self]
          rw [List.getElem?_replicate, if_pos (by omega)]⟩
        clear hbase n0 n1 cv
        refine wpIn_wide.1 (range_rising (n := 8) (by omega) (by omega) HAV.out.1 rfl
          (fun pre W => ∃ told l xs', RR w W bm bt b13 (b13 + 1) (b13 + 2) n N v told M (base.set v l) xs' ∧ (told, l) = ringsL M v pre ∧ told < 2 ^ 128 ∧ l.length ≤ countS told ∧ Marks (bt + 2) hi ds W) ?hI ?hT ?h0
          (fun u => G26 bn N bm bt b13 v nv u f) ?assign ?body ?done)
        case hI =>
          rintro pre A B hAs ⟨told, l, xs', p1, p2, p3, p4, p5⟩ hTu
          refine ⟨told, l, xs', p1.turns HAp.out hTu (fun k hk => by have := hk.1; have := HQ4.out; omega) (fun j x hx g hg => by rw [← HQ4.out]; exact (p1.nb j x hx g hg).2.2), p2, p3, p4, p5.turns hTu (fun k hk hm => by have := hm.1; have := HQ4.out; have := HIn.out.2; omega)⟩
        case hT =>
          rintro pre A ⟨told, l, xs', p1, _⟩
          exact HT.out.under p1.below
        case h0 =>
          refine ⟨0, [], xs, ?_, rfl, by decide, Nat.zero_le _, HIn.out.1⟩
          rw [set_same' HBS.out.2]
          exact HRR.out
        case assign =>
          intro l x W K hK
          gi_wp2
          exact hK
        case done =>
          rintro D W hD ⟨told, l, xs', p1, p2, p3, p4, p5⟩ hDW
          have hlr : l = rowBy M near v := by rw [HRB.out, ← p2]
          have hM5 : Marks (bt + 2) (D + 1) (mkD D :: ds) W := p5.cons (by rw [hD]; have := HQ4.out; have := HAp.out.2.2.1; omega) (by rw [hD]; have := HQ4.out; have := HIn.out.2; omega) hDW
          have hD5 : D + 1 ≤ W.heap.size := (Array.getElem?_eq_some_iff.1 hDW).1
          have HP : Hid (RowsW W bt (bt + 2) ((List.range (v + 1)).map (rowBy M near) ++ List.replicate (N - (v + 1)) []) xs' ∧ One W (bt + 1) (sl bt N) 29 ∧ TurnM W bm n M ∧ One W (bm + 1) (.map (some bm)) 84 ∧ Below w.heap.size w W ∧ Marks (bt + 2) (D + 1) (mkD D :: ds) W ∧ D + 1 ≤ W.heap.size) := ⟨by
            rw [← set_row hlt (rowBy M near), ← hlr, ← HBS.out.1]; exact p1.rows, p1.tb, p1.tm, p1.mp, p1.below, hM5, hD5⟩
          clear p1 p2 p3 p4 p5 hlr hM5 hD5 hDW hD
          go_wp2
          refine ⟨⟨v + 1, mkD D :: ds, D + 1, xs', isF26, by omega, HP.out.1, HP.out.2.1, HP.out.2.2.1, HP.out.2.2.2.1, HP.out.2.2.2.2.1, HP.out.2.2.2.2.2.1, HP.out.2.2.2.2.2.2⟩, ?_⟩
          simp [numOf]; omega
        case body =>
          rintro lb pre u post W he hsz ⟨told, l, xs', p1, p2, p3, p4, p5⟩
          have hu : u < N := HAV.out.2 u ((mem_elems HAV.out.1).1 (by rw [he]; simp))
          have HW : Hid (b13 + 2 + 3 ≤ W.heap.size ∧ w4.heap.size = b13 + 2) := ⟨by have := HQ4.out; omega, HQ4.out.symm⟩
          obtain ⟨R, hR⟩ : ∃ R, R = ringL M v 129 u (told, l) := ⟨_, rfl⟩
          have HRg : Hid (ringsL M v (pre ++ [u]) = R) := by
            show _ = _
            rw [hR, p2]
            unfold ringsL
            rw [List.foldl_append]
            rfl
          have HP0 : Hid (RR w W bm bt b13 (b13 + 1) (b13 + 2) n N v told M (base.set v l) xs' ∧ told < 2 ^ 128 ∧ l.length ≤ countS told ∧ Marks (bt + 2) hi ds W ∧ R = ringL M v 129 u (told, l)) := ⟨p1, p3, p4, p5, hR⟩
          clear p1 p2 p3 p4 p5 hR hsz he
          dsimp only [G26]
          gi_wp2
          have F40 : Fence.wide.fn 40 := trivial
          have F48 : Fence.wide.fn 48 := trivial
          gi_loopw [16] (fun s16 wz => ∃ (u' fu told' : Nat) (l' : List Nat) (xs2 : List Value), s16 = .int .i64 (u' : Int) ∧ RR w wz bm bt b13 (b13 + 1) (b13 + 2) n N v told' M (base.set v l') xs2 ∧ ringL M v fu u' (told', l') = R ∧ 129 ≤ countS told' + fu ∧ u' < 128 ∧ told' < 2 ^ 128 ∧ l'.length ≤ countS told' ∧ Marks (bt + 2) hi ds wz ∧ (∀ k, Own3 (b13 + 2) k → wz.heap[k]? = W.heap[k]?) ∧ W.heap.size ≤ wz.heap.size) (fun _ wz => 129 - boxCount wz (b13 + 1))
          case atStart => exact ⟨u, 129, told, l, xs', rfl, HP0.out.1, HP0.out.2.2.2.2.symm, by omega, by omega, HP0.out.2.1, HP0.out.2.2.1, HP0.out.2.2.2.1, fun _ _ => rfl, Nat.le_refl _⟩
          case round =>
            obtain ⟨u', fu, told', l', xs2, rfl, hrr, hrl, hcf, hu', htl, hll, hmk, hown, hWs⟩ := hrel
            have hbc := sbox_count hrr.s14
            have hcl := count_le told'
            obtain ⟨t0, t1⟩ := cell_two hrr.s14
            have C40 : Hid (Calls Tryd.prog 40 #[sv told', .int .i64 (u' : Int)] wr fun e w' => e = .returned (.bool (told'.testBit u')) ∧ Below wr.heap.size wr w') := has_call htl hu'
            have HRW : Hid (RR w wr bm bt b13 (b13 + 1) (b13 + 2) n N v told' M (base.set v l') xs2 ∧ Marks (bt + 2) hi ds wr ∧ (∀ k, Own3 (b13 + 2) k → wr.heap[k]? = W.heap[k]?) ∧ W.heap.size ≤ wr.heap.size) := ⟨hrr, hmk, hown, hWs⟩
            have HC : Hid (ringL M v fu u' (told', l') = R ∧ 129 ≤ countS told' + fu ∧ told' < 2 ^ 128 ∧ l'.length ≤ countS told' ∧ countS told' ≤ 128 ∧ boxCount wr (b13 + 1) = countS told') := ⟨hrl, hcf, htl, hll, hcl, hbc⟩
            clear hrr hrl hcf htl hll hmk hown hWs hbc hcl
            cases hbt : told'.testBit u' with
            | true =>
              rw [hbt] at C40
              gi_wp2_with (first | (gi_at_call 40; refine (CallsIn.inRound lb (callsIn_wide.2 C40.out)).mono ?_; rintro e w5 ⟨rfl, h5⟩))
              have hst := ringL_stop (M := M) (v := v) (f := fu) (s := (told', l')) hbt
              refine ⟨fun k hk => ?_, Nat.le_trans HRW.out.2.2.2 h5.size, told', l', xs2, HRW.out.1.under h5, ?_, HC.out.2.2.1, HC.out.2.2.2.1, HRW.out.2.1.under h5⟩
              · rw [HW.out.2] at hk
                exact (h5.block k (by have := hk.2; have := HW.out.1; have := HRW.out.2.2.2; omega)).trans (HRW.out.2.2.1 k hk)
              · rw [HRg.out, ← HC.out.1, hst]
            | false =>
              rw [hbt] at C40
              have C48 : Hid (∀ A, Below wr.heap.size wr A → Calls Tryd.prog 48 #[.pointer (some ⟨b13 + 1, 0, none⟩), .int .i64 (u' : Int)] A fun e w' => e = .returned (.tuple #[]) ∧ SBox w' (b13 + 1) (sAdd told' u') ∧ Turns (fun k => k = b13 + 1) A w') := fun A hA => add_sbox HC.out.2.2.1 hu' (HRW.out.1.under hA).s14
              have HBT2 : Hid (told'.testBit u' = false) := hbt
              clear hbt
              gi_wp2_with (first | (gi_at_call 40; refine (CallsIn.inRound lb (callsIn_wide.2 C40.out)).mono ?_; rintro e w5 ⟨rfl, h5⟩) | (gi_at_call 48; refine (CallsIn.inRound lb (callsIn_wide.2 (C48.out _ h5))).mono ?_; rintro e w6 ⟨rfl, h6, t6⟩))
              have hrr6 := (HRW.out.1.under h5).tell HAp.out t6 h6
              have hsz6 : W.heap.size ≤ w6.heap.size := Nat.le_trans HRW.out.2.2.2 (Nat.le_trans h5.size t6.size)
              have hmk6 : Marks (bt + 2) hi ds w6 := (HRW.out.2.1.under h5).turns t6 (fun k hk e => by have := HIn.out.2; omega)
              have hown6 : ∀ k, Own3 (b13 + 2) k → w6.heap[k]? = W.heap[k]? := fun k hk => by
                have h1 := hk.1
                have h2 := hk.2
                have h3 := HW.out.1
                have h4 := HRW.out.2.2.2
                have h7 := h5.size
                exact (t6.block k (by omega) (by omega)).trans ((h5.block k (by omega)).trans (HRW.out.2.2.1 k hk))
              have hbl : v < base.length := (List.getElem?_eq_some_iff.1 HBS.out.2).1
              have hLv : (base.set v l')[v]? = some l' := by rw [List.getElem?_set, if_pos rfl, if_pos hbl]
              obtain ⟨x, hx⟩ : ∃ x, xs2[v]? = some x := ⟨xs2[v]'(by rw [hrr6.rows.hl, List.length_set]; exact hbl), List.getElem?_eq_getElem _⟩
              have hxo := hrr6.rows.own v x l' hx hLv
              have hxb : ∀ g, x.ownBlock = some g → bt + 2 ≤ g ∧ g ≠ b13 := fun g hg => ⟨(hrr6.rows.lt hx hg).1, (hrr6.nb v x hx g hg).1⟩
              have HRR6 : Hid (RR w w6 bm bt b13 (b13 + 1) (b13 + 2) n N v (sAdd told' u') M (base.set v l') xs2 ∧ Marks (bt + 2) hi ds w6 ∧ (∀ k, Own3 (b13 + 2) k → w6.heap[k]? = W.heap[k]?) ∧ W.heap.size ≤ w6.heap.size ∧ v < base.length) := ⟨hrr6, hmk6, hown6, hsz6, hbl⟩
              have HX : Hid (xs2[v]? = some x ∧ (base.set v l')[v]? = some l') := ⟨hx, hLv⟩
              have cA : ∀ w1, Below w6.heap.size w6 w1 → w1.cell? ⟨bt + 1, 0, none⟩ = some (sl bt N) ∧ w1.cell? ⟨b13, 0, none⟩ = some (.int .i64 (v : Int)) ∧ w1.cell? ⟨bt, v, none⟩ = some x := fun w1 hb1 =>
                ⟨box_cell (hrr6.under hb1).tb (i := 0) rfl, box_cell (hrr6.under hb1).v13 (i := 0) rfl, (hrr6.under hb1).rows.cell hx⟩
              have cB : ∀ wa w1, Below w6.heap.size w6 wa → wa.grownBy w1 x.ownBlock → w1.cell? ⟨bt + 1, 0, none⟩ = some (sl bt N) ∧ w1.cell? ⟨b13, 0, none⟩ = some (.int .i64 (v : Int)) ∧ w1.cell? ⟨bt, v, none⟩ = some x ∧ w1.frozen? ⟨bt, v, none⟩ = false := fun wa w1 hba hg1 => by
                have hT := Turns.of_grown hg1
                have hra := hrr6.under hba
                refine ⟨box_cell (one_turns hra.tb hT (fun e => by have := (hxb _ e.symm).1; omega)) (i := 0) rfl, box_cell (one_turns hra.v13 hT (fun e => (hxb _ e.symm).2 rfl)) (i := 0) rfl, ?_, ?_⟩
                · exact cell_turns (hra.rows.cell hx) hT (fun e => by have := (hxb _ e.symm).1; simp only at this; omega)
                · have hRV := hra.rows.tab.turns hT (fun e => by have := (hxb _ e.symm).1; omega)
                  exact hRV.free v
              have k1 : (0 : Int) ≤ (v : Int) := by omega
              have k2 : (v : Int) < (N : Int) := by omega
              clear hrr6 hmk6 hown6 hsz6 hbl hLv hx h6 t6 h5
              refine wpIn_A23 ?_
              intro h g0
              refine region_invInC (J := fun L a w => ∃ g, a = A23 bn N bm bt b13 v nv (.int .i64 (u : Int)) (.int .i64 (u' : Int)) (.int .i64 (u : Int)) (.int .i64 (u : Int)) f h g ∧ SC w6 (V23 bt N v x u') u' bt v (fun z w1 => ∃ wa, Below w6.heap.size w6 wa ∧ wa.grownBy w1 x.ownBlock ∧ w1.ownsRow (bt + 2) 3 1 z (l' ++ [u']).length (qv (l' ++ [u'])) ∧ ∀ g, z.ownBlock = some g → x.ownBlock = some g ∨ w6.heap.size ≤ g) L g w) (by kernel_rfl) (by kernel_rfl) ⟨g0, rfl, SC.start⟩ ?_ ?_
              · intro j o hj L a' w1 hJ hLi hd hc
                obtain ⟨g, rfl, hS⟩ := hJ
                have c01 : ∀ i, L i = false → i < 10 → w1.cell? ⟨bt + 1, 0, none⟩ = some (sl bt N) ∧ w1.cell? ⟨b13, 0, none⟩ = some (.int .i64 (v : Int)) := fun i hi hi10 => by
                  cases e8 : L 8 with
                  | false => obtain ⟨e1, e2, _⟩ := cA w1 (hS.a0 e8); exact ⟨e1, e2⟩
                  | true =>
                    obtain ⟨wa, z1, z2, _⟩ := hS.b8 e8 (hS.open_ hi hi10)
                    obtain ⟨e1, e2, _⟩ := cB wa w1 z1 z2
                    exact ⟨e1, e2⟩
                have c85 : L 8 = true → L 5 = true ∧ L 7 = true := fun e8 => ⟨hc 8 _ rfl e8 ⟨5, .data⟩ (by simp) rfl, hc 8 _ rfl e8 ⟨7, .data⟩ (by simp) rfl⟩
                have c54 : L 5 = true → L 4 = true := fun e5 => hc 5 _ rfl e5 ⟨4, .data⟩ (by simp) rfl
                have c423 : L 4 = true → L 2 = true ∧ L 3 = true := fun e4 => ⟨hc 4 _ rfl e4 ⟨2, .data⟩ (by simp) rfl, hc 4 _ rfl e4 ⟨3, .data⟩ (by simp) rfl⟩
                have c76 : L 7 = true → L 6 = true := fun e7 => hc 7 _ rfl e7 ⟨6, .data⟩ (by simp) rfl
                have n8 : (L 2 = false ∨ L 3 = false ∨ L 4 = false ∨ L 5 = false ∨ L 6 = false ∨ L 7 = false) → L 8 = false := fun hn => by
                  cases e8 : L 8 with
                  | false => rfl
                  | true =>
                    have h5 := (c85 e8).1
                    have h7 := (c85 e8).2
                    have h4 := c54 h5
                    rcases hn with e | e | e | e | e | e
                    · rw [(c423 h4).1] at e; cases e
                    · rw [(c423 h4).2] at e; cases e
                    · rw [h4] at e; cases e
                    · rw [h5] at e; cases e
                    · rw [c76 h7] at e; cases e
                    · rw [h7] at e; cases e
                match j, hj with
                | 0, hj =>
                  cases hj
                  obtain ⟨e1, e2⟩ := c01 0 hLi (by omega)
                  refine wpOpIn_value ⟨(by intro _ h; cases h), (by intro _ h; cases h)⟩ rfl rfl (v := (V23 bt N v x u') 0) (w' := w1) ?_ ⟨updV g 0 _, rfl, hS.put hLi (by omega) (by omega) (by omega)⟩
                  simp [go_sem, A23, V23, Act.eval, e1]
                | 1, hj =>
                  cases hj
                  obtain ⟨e1, e2⟩ := c01 1 hLi (by omega)
                  refine wpOpIn_value ⟨(by intro _ h; cases h), (by intro _ h; cases h)⟩ rfl rfl (v := (V23 bt N v x u') 1) (w' := w1) ?_ ⟨updV g 1 _, rfl, hS.put hLi (by omega) (by omega) (by omega)⟩
                  simp [go_sem, A23, V23, Act.eval, e2]
                | 2, hj =>
                  cases hj
                  obtain ⟨e1, e2⟩ := c01 2 hLi (by omega)
                  refine wpOpIn_value ⟨(by intro _ h; cases h), (by intro _ h; cases h)⟩ rfl rfl (v := (V23 bt N v x u') 2) (w' := w1) ?_ ⟨updV g 2 _, rfl, hS.put hLi (by omega) (by omega) (by omega)⟩
                  simp [go_sem, A23, V23, Act.eval, e1]
                | 3, hj =>
                  cases hj
                  obtain ⟨e1, e2⟩ := c01 3 hLi (by omega)
                  refine wpOpIn_value ⟨(by intro _ h; cases h), (by intro _ h; cases h)⟩ rfl rfl (v := (V23 bt N v x u') 3) (w' := w1) ?_ ⟨updV g 3 _, rfl, hS.put hLi (by omega) (by omega) (by omega)⟩
                  simp [go_sem, A23, V23, Act.eval, e2]
                | 4, hj =>
                  cases hj
                  have d2 := hS.told 2 (by omega) (by omega) (by omega) (hd ⟨2, .data⟩ (by simp) rfl)
                  have d3 := hS.told 3 (by omega) (by omega) (by omega) (hd ⟨3, .data⟩ (by simp) rfl)
                  refine wpOpIn_value ⟨(by intro _ h; cases h), (by intro _ h; cases h)⟩ rfl rfl (v := (V23 bt N v x u') 4) (w' := w1) ?_ ⟨updV g 4 _, rfl, hS.put hLi (by omega) (by omega) (by omega)⟩
                  simp [go_sem, A23, V23, Act.eval, d2, d3, k1, k2]
                | 5, hj =>
                  cases hj
                  have d4 := hS.told 4 (by omega) (by omega) (by omega) (hd ⟨4, .data⟩ (by simp) rfl)
                  obtain ⟨e1, e2, e3⟩ := cA w1 (hS.a0 (n8 (by simp [hLi])))
                  refine wpOpIn_value ⟨(by intro _ h; cases h), (by intro _ h; cases h)⟩ rfl rfl (v := (V23 bt N v x u') 5) (w' := w1) ?_ ⟨updV g 5 _, rfl, hS.put hLi (by omega) (by omega) (by omega)⟩
                  simp [go_sem, A23, V23, Act.eval, d4, e3]
                | 6, hj =>
                  cases hj
                  refine wpOpIn_value ⟨(by intro _ h; cases h), (by intro _ h; cases h)⟩ rfl rfl (v := (V23 bt N v x u') 6) (w' := w1) ?_ ⟨updV g 6 _, rfl, hS.put hLi (by omega) (by omega) (by omega)⟩
                  simp [go_sem, A23, V23, Act.eval]
                | 7, hj =>
                  cases hj
                  have d6 := hS.told 6 (by omega) (by omega) (by omega) (hd ⟨6, .data⟩ (by simp) rfl)
                  refine wpOpIn_value ⟨(by intro _ h; cases h), (by intro _ h; cases h)⟩ rfl rfl (v := .slice (some ⟨w1.heap.size, 0, none⟩) 1 1) (w' := w1.alloc (Obj.cells #[.int .i64 (u' : Int)] 3)) ?_ ⟨updV g 7 _, rfl, hS.made hLi (n8 (by simp [hLi]))⟩
                  simp [go_sem, A23, V23, Act.eval, d6]
                | 8, hj =>
                  cases hj
                  have d5 := hS.told 5 (by omega) (by omega) (by omega) (hd ⟨5, .data⟩ (by simp) rfl)
                  obtain ⟨cb, d7, hcb, ocb⟩ := hS.f7 (hd ⟨7, .data⟩ (by simp) rfl) hLi
                  have hb := hS.a0 hLi
                  obtain ⟨i3, hi3, hy0, hy1, hy2⟩ := info_parts Tryd.info3
                  obtain ⟨gz, cp, w', hr, h2, h3, h4, _⟩ := run_append_lies (P := Tryd.prog) w1 61 61 (bt + 2) 3 i3 (.int .i64 0) 1 8 Tryd.underlying61 hi3 hy0 hy1 hy2 rfl (by decide) x l'.length (qv l') (ownsRow_blocks hxo (fun g hg => hb.block g (hxo.lt g hg).2)) ⟨cb, 0, none⟩ 1 1 [.int .i64 (u' : Int)] rfl (World.news_of_block ocb) (by intro z hz; simp at hz; subst hz; rfl) (by omega) (by unfold maxLen; have := HC.out; omega) (by have := HC.out; omega) (by have := lt_of_block HRR6.out.1.tb; have := hb.size; omega) w1.heap.size rfl
                  refine wpOpIn_append rfl rfl _ _ 61 rfl (v := x) (y := .slice (some ⟨cb, 0, none⟩) 1 1) (z := .slice (some ⟨gz, 0, none⟩) (l'.length + 1) cp) (w' := w') ?_ ?_ hr ⟨updV g 8 _, rfl, hS.app hLi ⟨w1, hb, h3, ?_, ?_⟩⟩
                  · simp [A23, V23, Act.eval, d5]
                  · simp [A23, Act.eval, d7]
                  · have e : qv l' ++ [.int .i64 (u' : Int)] = qv (l' ++ [u']) := by simp [qv]
                    rw [e] at h2
                    rw [List.length_append]
                    exact h2
                  · intro gg hgg
                    have e : gz = gg := by simpa [Value.ownBlock] using hgg
                    subst e
                    rcases h4 with h | h
                    · exact Or.inl h
                    · exact Or.inr (by have := hb.size; omega)
                | 9, hj =>
                  cases hj
                  have d0 := hS.told 0 (by omega) (by omega) (by omega) (hd ⟨0, .data⟩ (by simp) rfl)
                  have d1 := hS.told 1 (by omega) (by omega) (by omega) (hd ⟨1, .data⟩ (by simp) rfl)
                  refine wpOpIn_value ⟨(by intro _ h; cases h), (by intro _ h; cases h)⟩ rfl rfl (v := (V23 bt N v x u') 9) (w' := w1) ?_ ⟨updV g 9 _, rfl, hS.put hLi (by omega) (by omega) (by omega)⟩
                  simp [go_sem, A23, V23, Act.eval, d0, d1, k1, k2]
                | 10, hj =>
                  cases hj
                  have k8 := hd ⟨8, .data⟩ (by simp) rfl
                  have k9 := hd ⟨9, .data⟩ (by simp) rfl
                  have k5 := (c85 k8).1
                  have k7 := (c85 k8).2
                  have k4 := c54 k5
                  have k2' := (c423 k4).1
                  have k3 := (c423 k4).2
                  have k6 := c76 k7
                  have k0 := hc 9 _ rfl k9 ⟨0, .data⟩ (by simp) rfl
                  have k1' := hc 9 _ rfl k9 ⟨1, .data⟩ (by simp) rfl
                  have hall : ∀ j, j < 10 → L j = true := fun j hj => by
                    have : j = 0 ∨ j = 1 ∨ j = 2 ∨ j = 3 ∨ j = 4 ∨ j = 5 ∨ j = 6 ∨ j = 7 ∨ j = 8 ∨ j = 9 := by omega
                    rcases this with rfl | rfl | rfl | rfl | rfl | rfl | rfl | rfl | rfl | rfl <;> assumption
                  have d9 := hS.told 9 (by omega) (by omega) (by omega) k9
                  obtain ⟨wa, z1, z2, z3, z4⟩ := hS.b8 k8 hLi
                  obtain ⟨e1, e2, e3, e4⟩ := cB wa w1 z1 z2
                  obtain ⟨gz, cz, hz8, _⟩ := z3.form (by simp)
                  refine wpOpIn_skip ⟨(by intro _ h; cases h), (by intro _ h; cases h)⟩ rfl rfl (w' := w1.setCell ⟨bt, v, none⟩ (g 8)) ?_ ⟨updV g 10 undef, rfl, hS.store hLi hall undef⟩
                  simp [go_sem, A23, V23, Act.eval, d9, e3, e4, hz8]
                | j + 11, hj => cases hj
              · intro L a' w1 hJ hall
                obtain ⟨g, rfl, hS⟩ := hJ
                obtain ⟨_, wb, ⟨wa, z1, z2, z3, z4⟩, rfl⟩ := hS.c10 (hall 10 (by simp))
                obtain ⟨hrr7, ht7⟩ := HRR6.out.1.push HAp.out (by have := HRR6.out.2.2.2.1; have := HW.out.1; omega) HX.out.1 HX.out.2 z1 z2 z3 z4
                rw [List.set_set] at hrr7
                have hnb := HRR6.out.1.nb v x HX.out.1
                have hmk7 := HRR6.out.2.1.turns ht7 (fun k hk e => by
                  rcases e with e | e
                  · rw [e]
                    obtain ⟨cur, hcur, _⟩ := HRR6.out.1.rows.tab
                    exact ⟨_, _, _, hcur⟩
                  · obtain ⟨cur, hcur⟩ := own_cells hxo e
                    exact ⟨_, _, _, hcur⟩)
                have hown7 : ∀ k, Own3 (b13 + 2) k → (wb.setCell ⟨bt, v, none⟩ (g 8)).heap[k]? = W.heap[k]? := fun k hk => by
                  have h1 := hk.1
                  have h2 := hk.2
                  have h3 := HW.out.1
                  have h4 := HRR6.out.2.2.2.1
                  have h5 := HAp.out.2.2.1
                  refine (ht7.block k (by omega) ?_).trans (HRR6.out.2.2.1 k hk)
                  rintro (e | e)
                  · omega
                  · exact (hnb k e).2.2 hk
                have hsz7 : W.heap.size ≤ (wb.setCell ⟨bt, v, none⟩ (g 8)).heap.size := Nat.le_trans HRR6.out.2.2.2.1 ht7.size
                generalize wb.setCell ⟨bt, v, none⟩ (g 8) = w7 at *
                have HR7 : Hid (RR w w7 bm bt b13 (b13 + 1) (b13 + 2) n N v (sAdd told' u') M (base.set v (l' ++ [u'])) (xs2.set v (g 8)) ∧ Marks (bt + 2) hi ds w7 ∧ (∀ k, Own3 (b13 + 2) k → w7.heap[k]? = W.heap[k]?) ∧ W.heap.size ≤ w7.heap.size) := ⟨hrr7, hmk7, hown7, hsz7⟩
                have cm := box_cell hrr7.mp (i := 0) rfl
                have cv := box_cell hrr7.v13 (i := 0) rfl
                have hlk := hrr7.tm.look (u := v) (v := u') (by omega) (by omega)
                have hMv : M v u' < 128 := HSM.out v u'
                obtain ⟨fu', hfu⟩ : ∃ f', fu = f' + 1 := ⟨fu - 1, by have := HC.out; omega⟩
                have HG : Hid (ringL M v fu' (M v u') (sAdd told' u', l' ++ [u']) = R ∧ 129 ≤ countS (sAdd told' u') + fu' ∧ sAdd told' u' < 2 ^ 128 ∧ (l' ++ [u']).length ≤ countS (sAdd told' u') ∧ countS (sAdd told' u') = countS told' + 1) := by
                  have hca := count_add hu' HBT2.out
                  have hh := HC.out
                  obtain ⟨q1, q2, q3, q4, q5, q6⟩ := hh
                  refine ⟨?_, by omega, add_lt q3 hu', by rw [List.length_append]; simp; omega, hca⟩
                  rw [← q1, hfu, ringL_go HBT2.out]
                generalize M v u' = un at *
                clear hrr7 hmk7 hown7 hsz7 ht7 hS hall z1 z2 z3 z4 hnb cA cB hxb hxo hfu
                dsimp only [A23]
                gi_wp2
                go_roundw
                case rel => exact ⟨un, fu', sAdd told' u', l' ++ [u'], xs2.set v (g 8), rfl, HR7.out.1, HG.out.1, HG.out.2.1, hMv, HG.out.2.2.1, HG.out.2.2.2.1, HR7.out.2.1, HR7.out.2.2.1, HR7.out.2.2.2⟩
                case measure =>
                  have h1 := sbox_count HR7.out.1.s14
                  have h2 := HC.out
                  have h3 := HG.out.2.2.2.2
                  omega
      · have hvN : v = N := by omega
        have HP : Hid (RowsW wr bt (bt + 2) (roundL near F) xs ∧ One wr (bt + 1) (sl bt N) 29 ∧ Below w.heap.size w wr ∧ Marks (bt + 2) hi ds wr) := ⟨by
          unfold roundL
          rw [← HNN.out, HMT.out, ← hvN]
          rw [hvN, Nat.sub_self, List.replicate_zero, List.append_nil] at hrows
          rw [hvN]
          exact hrows, htb, hB, hmk⟩
        have i3 : ¬ (v : Int) < (N : Int) := by omega
        have c12 := box_cell htb (i := 0) rfl
        clear hrows htb htm hmp hB hmk hhi hvN
        go_wp2
        refine leaves_marks HP.out.2.2.2 (fun w' hc hb => ⟨sl bt N, ?_, bt, xs, rfl, by have := HBT.out; omega, ?_, ?_⟩)
        · simp [results, Tryd.results26, go_sem]
        · obtain ⟨cur, hcur, _⟩ := HP.out.1.tab
          refine HP.out.1.keep (hc bt _ _ _ hcur) (fun j x hx g hg => ?_)
          obtain ⟨l, _, hr⟩ := HP.out.1.row hx
          obtain ⟨cur2, hcur2⟩ := own_cells hr hg
          exact hc g _ _ _ hcur2
        · exact (HP.out.2.2.1).trans (hb.mono (by have := HBT.out; omega))
end Go.Proofs.YtekokjechbibdaaDoor
