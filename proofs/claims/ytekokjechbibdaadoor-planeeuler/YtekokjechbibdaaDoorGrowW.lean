/- grow: the piece of the first node of the rest. -/
import Derived.Test.YtekokjechbibdaaDoorNearM
import Derived.Test.YtekokjechbibdaaDoorTailM
namespace Go.Proofs.YtekokjechbibdaaDoor
set_option maxRecDepth 8000
open Go.RowKit Go.Maps
attribute [local go_sem ↓] Go.wp_at_zero Go.wp_at_succ
/-- A piece in a box. -/
abbrev PBox (w : World) (b i f : Nat) : Prop := Box w b #[.int .u64 (lo64 i : Int), .int .u64 (hi64 i : Int), .int .u64 (lo64 f : Int), .int .u64 (hi64 f : Int)] 103
theorem pbox_cells {w : World} {b i f : Nat} (h : PBox w b i f) : w.cell? ⟨b, 0, none⟩ = some (.int .u64 (lo64 i : Int)) ∧ w.cell? ⟨b, 1, none⟩ = some (.int .u64 (hi64 i : Int)) ∧ w.cell? ⟨b, 2, none⟩ = some (.int .u64 (lo64 f : Int)) ∧ w.cell? ⟨b, 3, none⟩ = some (.int .u64 (hi64 f : Int)) :=
  ⟨box_cell h rfl, box_cell h rfl, box_cell h rfl, box_cell h rfl⟩
theorem add_pinner {w : World} {s v b f : Nat} (hs : s < 2 ^ 128) (hv : v < 128) (h : PBox w b s f) : Calls Tryd.prog 48 #[.pointer (some ⟨b, 0, none⟩), .int .i64 (v : Int)] w fun e w' => e = .returned (.tuple #[]) ∧ PBox w' b (sAdd s v) f ∧ Turns (fun k => k = b) w w' := by
  obtain ⟨h0, h1, _⟩ := pbox_cells h
  refine Calls.mono (add_any hs hv h0 h1 (box_free h)) ?_
  rintro e w' ⟨rfl, hw⟩
  exact ⟨rfl, hw.cells h rfl rfl, hw.turns⟩
/-- What a store of two words asks. -/
theorem store_two {w : World} {b i : Nat} {cs : Array Value} {t : TypeId} {z0 z1 : Value} (h : Box w b cs t) (x : Value) (h0 : cs[i]? = some z0) (h1 : cs[i + 1]? = some z1) :
    w.frozen? ⟨b, i, none⟩ = false ∧ w.cell? ⟨b, i, none⟩ = some z0 ∧ (w.setCell ⟨b, i, none⟩ x).frozen? ⟨b, i + 1, none⟩ = false ∧ (w.setCell ⟨b, i, none⟩ x).cell? ⟨b, i + 1, none⟩ = some z1 :=
  ⟨box_free h i, box_cell h h0, box_free (box_set h i x) (i + 1), box_cell (box_set h i x) (by rw [Array.getElem?_setIfInBounds_ne (by omega)]; exact h1)⟩
theorem store_four {w : World} {b : Nat} {c0 c1 c2 c3 : Value} {t : TypeId} (h : Box w b #[c0, c1, c2, c3] t) (x0 x1 x2 x3 : Value) :
    w.frozen? ⟨b, 0, none⟩ = false ∧ w.cell? ⟨b, 0, none⟩ = some c0 ∧ (w.setCell ⟨b, 0, none⟩ x0).frozen? ⟨b, 1, none⟩ = false ∧ (w.setCell ⟨b, 0, none⟩ x0).cell? ⟨b, 1, none⟩ = some c1 ∧ ((w.setCell ⟨b, 0, none⟩ x0).setCell ⟨b, 1, none⟩ x1).frozen? ⟨b, 2, none⟩ = false ∧ ((w.setCell ⟨b, 0, none⟩ x0).setCell ⟨b, 1, none⟩ x1).cell? ⟨b, 2, none⟩ = some c2 ∧
    (((w.setCell ⟨b, 0, none⟩ x0).setCell ⟨b, 1, none⟩ x1).setCell ⟨b, 2, none⟩ x2).frozen? ⟨b, 3, none⟩ = false ∧ (((w.setCell ⟨b, 0, none⟩ x0).setCell ⟨b, 1, none⟩ x1).setCell ⟨b, 2, none⟩ x2).cell? ⟨b, 3, none⟩ = some c3 ∧ Box ((((w.setCell ⟨b, 0, none⟩ x0).setCell ⟨b, 1, none⟩ x1).setCell ⟨b, 2, none⟩ x2).setCell ⟨b, 3, none⟩ x3) b #[x0, x1, x2, x3] t := by
  have h1 := box_set h 0 x0
  have h2 := box_set h1 1 x1
  have h3 := box_set h2 2 x2
  have h4 := box_set h3 3 x3
  exact ⟨box_free h 0, box_cell h rfl, box_free h1 1, box_cell h1 rfl, box_free h2 2, box_cell h2 rfl, box_free h3 3, box_cell h3 rfl, h4⟩
def numAt (w : World) (b i : Nat) : Nat := match w.cell? ⟨b, i, none⟩ with | some (.int _ q) => q.toNat | _ => 0
/-- How many nodes the set at the start of a box has. -/
def boxCount (w : World) (b : Nat) : Nat := cntB (numAt w b 0) 64 + cntB (numAt w b 1) 64
theorem pbox_count {w : World} {b i f : Nat} (h : PBox w b i f) : boxCount w b = countS i := by
  obtain ⟨h0, h1, _⟩ := pbox_cells h
  unfold boxCount numAt
  rw [h0, h1, count_two]
  simp
theorem cntB_sAdd (s v : Nat) (h : s.testBit v = false) : ∀ n, cntB (sAdd s v) n = cntB s n + (if v < n then 1 else 0)
  | 0 => by simp [cntB]
  | n + 1 => by
    rw [cntB_succ, cntB_succ, cntB_sAdd s v h n, bit_add]
    by_cases e : n = v
    · subst e
      simp [h]
    · by_cases hv : v < n
      · have : v < n + 1 := by omega
        simp [e, hv, this]; omega
      · have : ¬ v < n + 1 := by omega
        simp [e, hv, this]
theorem count_add {s v : Nat} (hv : v < 128) (h : s.testBit v = false) : countS (sAdd s v) = countS s + 1 := by
  have := cntB_sAdd s v h 128
  rw [if_pos hv] at this
  exact this
theorem count_le (s : Nat) : countS s ≤ 128 := by
  unfold countS elems
  refine Nat.le_trans (List.length_filter_le _ _) (by simp)
theorem count_full {s v : Nat} (hv : v < 128) (h : s.testBit v = false) : countS s < 128 := by
  have h1 := count_add hv h
  have h2 := count_le (sAdd s v)
  omega
theorem or_lt {s t : Nat} (hs : s < 2 ^ 128) (ht : t < 2 ^ 128) : s ||| t < 2 ^ 128 := Nat.or_lt_two_pow hs ht
theorem and_lt {s t : Nat} (hs : s < 2 ^ 128) : s &&& t < 2 ^ 128 := Nat.lt_of_le_of_lt Nat.and_le_left hs
theorem first_lt {s : Nat} (hs : s < 2 ^ 128) (h0 : s ≠ 0) : firstS s < 128 := bit_lt hs (first_spec hs h0).1
theorem at_lt {near : List Nat} (h : ∀ s ∈ near, s < 2 ^ 128) (v : Nat) : at' near v < 2 ^ 128 := by
  unfold at'
  rw [List.getD_eq_getElem?_getD]
  cases hv : near[v]? with
  | none => simp
  | some s => exact h s (List.mem_of_getElem? hv)
theorem setOf_one {v : Nat} (hv : v < 128) (W : World) : Calls Tryd.prog 56 #[.slice (some ⟨W.heap.size, 0, none⟩) 1 1] (W.alloc (Obj.cells #[.int .i64 (v : Int)] 3)) fun e w' => e = .returned (sv (setOf [v])) ∧ Below W.heap.size W w' := by
  refine Calls.mono (setOf_call (l := [v]) (off := 0) (cap := 1) (fun k u hk => ?_) (by simpa using hv) (by simp)) ?_
  · cases k with
    | zero => simp at hk; subst hk; exact one_cell _ _ _
    | succ k => simp at hk
  · rintro e w' ⟨rfl, hb⟩
    exact ⟨rfl, below_next (below_alloc (Below.refl _ W) _) hb⟩
theorem setOf_two {u v : Nat} (hu : u < 128) (hv : v < 128) (W : World) : Calls Tryd.prog 56 #[.slice (some ⟨W.heap.size, 0, none⟩) 2 2] (W.alloc (Obj.cells #[.int .i64 (u : Int), .int .i64 (v : Int)] 3)) fun e w' => e = .returned (sv (setOf [u, v])) ∧ Below W.heap.size W w' := by
  obtain ⟨c0, c1⟩ := cell_two (two_new W (.int .i64 (u : Int)) (.int .i64 (v : Int)) 3)
  refine Calls.mono (setOf_call (l := [u, v]) (off := 0) (cap := 2) (fun k x hk => ?_) (by simpa using ⟨hu, hv⟩) (by simp)) ?_
  · match k with
    | 0 => simp at hk; subst hk; exact c0
    | 1 => simp at hk; subst hk; exact c1
    | k + 2 => simp at hk
  · rintro e w' ⟨rfl, hb⟩
    exact ⟨rfl, below_next (below_alloc (Below.refl _ W) _) hb⟩
/-- What lies in memory while a piece grows. -/
structure GwI (w wz : World) (b4 b5 b6 b7 b8 laid rest i f op : Nat) : Prop where
  l4 : SBox wz b4 laid
  l5 : SBox wz b5 rest
  z6 : PBox wz b6 0 0
  p7 : PBox wz b7 i f
  o8 : SBox wz b8 op
  below : Below w.heap.size w wz
/-- The boxes are five, and all new. -/
def Apart5 (n b4 b5 b6 b7 b8 : Nat) : Prop := n ≤ b4 ∧ b4 < b5 ∧ b5 < b6 ∧ b6 < b7 ∧ b7 < b8
theorem GwI.under {w wz wz' : World} {b4 b5 b6 b7 b8 laid rest i f op : Nat} (h : GwI w wz b4 b5 b6 b7 b8 laid rest i f op) (hb : Below wz.heap.size wz wz') : GwI w wz' b4 b5 b6 b7 b8 laid rest i f op :=
  have k : ∀ {b : Nat} {cs : Array Value} {t : TypeId}, Box wz b cs t → Box wz' b cs t := fun h => (hb.block _ (lt_of_block h)).trans h
  ⟨k h.l4, k h.l5, k h.z6, k h.p7, k h.o8, below_next h.below hb⟩
theorem GwI.set8 {w wz wz' : World} {b4 b5 b6 b7 b8 laid rest i f op op' : Nat} (h : GwI w wz b4 b5 b6 b7 b8 laid rest i f op) (ha : Apart5 w.heap.size b4 b5 b6 b7 b8) (ht : Turns (fun k => k = b8) wz wz') (h8 : SBox wz' b8 op') : GwI w wz' b4 b5 b6 b7 b8 laid rest i f op' := by
  obtain ⟨a1, a2, a3, a4, a5⟩ := ha
  exact ⟨box_turns h.l4 ht (by omega), box_turns h.l5 ht (by omega), box_turns h.z6 ht (by omega), box_turns h.p7 ht (by omega), h8, ht.below h.below h.below.size (fun k e => by omega)⟩
theorem GwI.set7 {w wz wz' : World} {b4 b5 b6 b7 b8 laid rest i f op i' f' : Nat} (h : GwI w wz b4 b5 b6 b7 b8 laid rest i f op) (ha : Apart5 w.heap.size b4 b5 b6 b7 b8) (ht : Turns (fun k => k = b7) wz wz') (h7 : PBox wz' b7 i' f') : GwI w wz' b4 b5 b6 b7 b8 laid rest i' f' op := by
  obtain ⟨a1, a2, a3, a4, a5⟩ := ha
  exact ⟨box_turns h.l4 ht (by omega), box_turns h.l5 ht (by omega), box_turns h.z6 ht (by omega), h7, box_turns h.o8 ht (by omega), ht.below h.below h.below.size (fun k e => by omega)⟩
/-- How far it has grown. -/
structure Gr (near : List Nat) (laid rest : Nat) (R : Piece) (i f op k : Nat) : Prop where
  il : i < 2 ^ 128
  fl : f < 2 ^ 128
  ol : op < 2 ^ 128
  fuel : k + countS i = 128
  apart : ∀ v, op.testBit v = true → i.testBit v = false
  lt : ∀ v, op.testBit v = true → v < near.length
  sum : growL near laid rest k ⟨i, f⟩ op = R
theorem Gr.next {near : List Nat} {laid rest : Nat} {R : Piece} {i f op k : Nat} (h : Gr near laid rest R i f op k) (h0 : op ≠ 0) (hin : ∀ v, rest.testBit v = true → v < near.length) (hnear : ∀ s ∈ near, s < 2 ^ 128) :
    ∃ k', Gr near laid rest R (sAdd i (firstS op)) (f ||| (at' near (firstS op) &&& laid)) (sDrop op (firstS op) ||| sLess (at' near (firstS op) &&& rest) (sAdd i (firstS op))) k' := by
  have hv := first_lt h.ol h0
  have hb := (first_spec h.ol h0).1
  have hi := h.apart _ hb
  have hc := count_add hv hi
  have hf := count_full hv hi
  have hfu := h.fuel
  obtain ⟨k', rfl⟩ : ∃ k', k = k' + 1 := ⟨k - 1, by omega⟩
  have ha := at_lt hnear (firstS op)
  refine ⟨k', add_lt h.il hv, or_lt h.fl (and_lt ha), or_lt (less_lt h.ol) (less_lt (and_lt ha)), by omega, fun v hvb => ?_, fun v hvb => ?_, ?_⟩
  · rw [Nat.testBit_or, bit_drop, bit_less, bit_add] at hvb
    rw [bit_add]
    simp at hvb ⊢
    rcases hvb with ⟨h1, h2⟩ | ⟨_, h2⟩
    · exact ⟨h.apart v h1, h2⟩
    · exact h2
  · rw [Nat.testBit_or, bit_drop, bit_less, Nat.testBit_and] at hvb
    simp at hvb
    rcases hvb with ⟨h1, h2⟩ | ⟨h1, h2⟩
    · exact h.lt v h1
    · exact hin v h1.2
  · have := h.sum
    rw [growL, if_neg h0] at this
    exact this
theorem Gr.done {near : List Nat} {laid rest : Nat} {R : Piece} {i f k : Nat} (h : Gr near laid rest R i f 0 k) : R = ⟨i, f⟩ := by
  have := h.sum
  cases k with
  | zero => rw [growL] at this; exact this.symm
  | succ k => rw [growL, if_pos rfl] at this; exact this.symm
theorem Gr.start {near : List Nat} {laid rest : Nat} (hrest : rest < 2 ^ 128) (h0 : rest ≠ 0) (hin : ∀ v, rest.testBit v = true → v < near.length) : Gr near laid rest (grow near laid rest) 0 0 (setOf [firstS rest]) 128 := by
  have hv := first_lt hrest h0
  refine ⟨by decide, by decide, setOf_lt (by simpa using hv), by decide, fun v _ => Nat.zero_testBit v, fun v hvb => ?_, rfl⟩
  rw [bit_setOf] at hvb
  have := of_decide_eq_true hvb
  simp at this
  rw [this]
  exact hin _ (first_spec hrest h0).1
/-- A piece, as a value. -/
abbrev pv (p : Piece) : Value := .agg #[.int .u64 (lo64 p.inner : Int), .int .u64 (hi64 p.inner : Int), .int .u64 (lo64 p.feet : Int), .int .u64 (hi64 p.feet : Int)]
set_option maxHeartbeats 4000000 in
theorem grow_call {w : World} {bn laid rest : Nat} {near : List Nat} (hn : SetsAt w bn near) (hlaid : laid < 2 ^ 128) (hrest : rest < 2 ^ 128) (h0 : rest ≠ 0) (hin : ∀ v, rest.testBit v = true → v < near.length) (ht : T64 w) :
    Calls Tryd.prog 68 #[sl bn near.length, sv laid, sv rest] w fun e w' => e = .returned (pv (grow near laid rest)) ∧ Below w.heap.size w w' := by
  have HN : Hid (SetsAt w bn near) := hn
  have HT : Hid (T64 w) := ht
  have HX : Hid (laid < 2 ^ 128 ∧ rest < 2 ^ 128 ∧ rest ≠ 0 ∧ ∀ v, rest.testBit v = true → v < near.length) := ⟨hlaid, hrest, h0, hin⟩
  have hfr := first_lt hrest h0
  have HG : Hid _ := Gr.start (laid := laid) hrest h0 hin
  obtain ⟨R, hR⟩ : ∃ R, R = grow near laid rest := ⟨_, rfl⟩
  rw [← hR] at HG ⊢
  clear hn ht hlaid hrest h0 hin hR
  obtain ⟨N, hN⟩ : ∃ N, N = near.length := ⟨_, rfl⟩
  rw [← hN]
  have HNN : Hid (N = near.length) := hN
  clear hN
  go_enter Tryd.func68, Tryd.ntmps68
  go_upto_region 2 with (fail)
  have z : ((0 : Nat) : Int) = 0 := rfl
  have zl : ((lo64 0 : Nat) : Int) = 0 := by decide
  have zh : ((hi64 0 : Nat) : Int) = 0 := by decide
  obtain ⟨o4, ho4⟩ : ∃ o, o = Obj.cells #[Value.int IntKind.u64 (lo64 laid : Int), Value.int IntKind.u64 (hi64 laid : Int)] 76 := ⟨_, rfl⟩
  obtain ⟨o5, ho5⟩ : ∃ o, o = Obj.cells #[Value.int IntKind.u64 (lo64 rest : Int), Value.int IntKind.u64 (hi64 rest : Int)] 76 := ⟨_, rfl⟩
  obtain ⟨o6, ho6⟩ : ∃ o, o = Obj.cells #[Value.int IntKind.u64 0, Value.int IntKind.u64 0, Value.int IntKind.u64 0, Value.int IntKind.u64 0] 103 := ⟨_, rfl⟩
  rw [← ho4, ← ho5, ← ho6]
  have hB0 : Below w.heap.size w ((((w.alloc o4).alloc o5).alloc o6).alloc o6) := below_alloc (below_alloc (below_alloc (below_alloc (Below.refl _ w) _) _) _) _
  have x4 : SBox ((((w.alloc o4).alloc o5).alloc o6).alloc o6) w.heap.size laid := by
    subst ho4
    exact (Below.heap_alloc _ _ _ (by simp only [World.size_alloc]; omega)).trans ((Below.heap_alloc _ _ _ (by simp only [World.size_alloc]; omega)).trans ((Below.heap_alloc _ _ _ (by simp)).trans (heap_alloc_new _ _)))
  have x5 : SBox ((((w.alloc o4).alloc o5).alloc o6).alloc o6) (w.heap.size + 1) rest := by
    subst ho5
    refine (Below.heap_alloc _ _ _ (by simp)).trans ((Below.heap_alloc _ _ _ (by simp)).trans ?_)
    have := heap_alloc_new (w.alloc o4) (Obj.cells #[Value.int IntKind.u64 (lo64 rest : Int), Value.int IntKind.u64 (hi64 rest : Int)] 76)
    simpa using this
  have x6 : PBox ((((w.alloc o4).alloc o5).alloc o6).alloc o6) (w.heap.size + 1 + 1) 0 0 := by
    refine (Below.heap_alloc _ _ _ (by simp)).trans ?_
    have := heap_alloc_new ((w.alloc o4).alloc o5) o6
    rw [zl, zh, ← ho6]
    simpa using this
  have x7 : PBox ((((w.alloc o4).alloc o5).alloc o6).alloc o6) (w.heap.size + 1 + 1 + 1) 0 0 := by
    have := heap_alloc_new (((w.alloc o4).alloc o5).alloc o6) o6
    show _ = _
    rw [zl, zh, ← ho6]
    simpa using this
  have hsz : ((((w.alloc o4).alloc o5).alloc o6).alloc o6).heap.size = w.heap.size + 1 + 1 + 1 + 1 := by simp
  obtain ⟨b7, hb7⟩ : ∃ b, b = w.heap.size + 1 + 1 + 1 := ⟨_, rfl⟩
  obtain ⟨b6, hb6⟩ : ∃ b, b = w.heap.size + 1 + 1 := ⟨_, rfl⟩
  obtain ⟨b5, hb5⟩ : ∃ b, b = w.heap.size + 1 := ⟨_, rfl⟩
  obtain ⟨b4, hb4⟩ : ∃ b, b = w.heap.size := ⟨_, rfl⟩
  have HA : Hid (w.heap.size ≤ b4 ∧ b4 < b5 ∧ b5 < b6 ∧ b6 < b7 ∧ ((((w.alloc o4).alloc o5).alloc o6).alloc o6).heap.size = b7 + 1) := ⟨by omega, by omega, by omega, by omega, by omega⟩
  rw [← hb7] at x7 ⊢
  rw [← hb6] at x6 ⊢
  rw [← hb5] at x5 ⊢
  rw [← hb4] at x4 ⊢
  clear hb4 hb5 hb6 hb7 hsz ho4 ho5 ho6
  generalize ((((w.alloc o4).alloc o5).alloc o6).alloc o6) = W0 at *
  obtain ⟨c50, c51⟩ := cell_two x5
  have C65 : Hid _ := first_call (w := W0) HX.out.2.1 HX.out.2.2.1 (HT.out.under hB0)
  have C56 : Hid (∀ W : World, Calls Tryd.prog 56 #[.slice (some ⟨W.heap.size, 0, none⟩) 1 1] (W.alloc (Obj.cells #[.int .i64 (firstS rest : Int)] 3)) fun e w' => e = .returned (sv (setOf [firstS rest])) ∧ Below W.heap.size W w') := fun W => setOf_one hfr W
  generalize setOf [firstS rest] = op0 at *
  go_upto_region 3 with (first | (go_at_call 65; refine Calls.mono C65.out ?_; rintro e w1 ⟨rfl, h1⟩) | (go_at_call 56; refine Calls.mono (C56.out _) ?_; rintro e w2 ⟨rfl, h2⟩) | fail)
  have h12 : Below W0.heap.size W0 w2 := below_next h1 h2
  have hB3 : Below W0.heap.size W0 (w2.alloc (Obj.cells #[Value.int IntKind.u64 (lo64 op0 : Int), Value.int IntKind.u64 (hi64 op0 : Int)] 76)) := below_alloc h12 _
  have g0 : GwI w (w2.alloc (Obj.cells #[Value.int IntKind.u64 (lo64 op0 : Int), Value.int IntKind.u64 (hi64 op0 : Int)] 76)) b4 b5 b6 b7 w2.heap.size laid rest 0 0 op0 := by
    have k : ∀ {b : Nat} {cs : Array Value} {t : TypeId}, Box W0 b cs t → Box (w2.alloc (Obj.cells #[Value.int IntKind.u64 (lo64 op0 : Int), Value.int IntKind.u64 (hi64 op0 : Int)] 76)) b cs t := fun h => (hB3.block _ (lt_of_block h)).trans h
    exact ⟨k x4, k x5, k x6, k x7, heap_alloc_new _ _, below_next hB0 hB3⟩
  have HA5 : Hid (Apart5 w.heap.size b4 b5 b6 b7 w2.heap.size) := by
    obtain ⟨a1, a2, a3, a4, a5⟩ := HA.out
    have := h12.size
    exact ⟨a1, a2, a3, a4, by omega⟩
  generalize w2.heap.size = b8 at *
  generalize w2.alloc (Obj.cells #[Value.int IntKind.u64 (lo64 op0 : Int), Value.int IntKind.u64 (hi64 op0 : Int)] 76) = W3 at *
  clear x4 x5 x6 x7 HA c50 c51 C65 C56 h1 h2 h12 hB3 hB0 z
  go_loopw [] (fun wz => ∃ i f op k, GwI w wz b4 b5 b6 b7 b8 laid rest i f op ∧ Gr near laid rest R i f op k) (fun wz => 128 - boxCount wz b7)
  case atStart => exact ⟨0, 0, op0, 128, g0, HG.out⟩
  case round =>
    obtain ⟨i, f, op, k, hg, hr⟩ := hrel
    clear g0
    obtain ⟨d0, d1⟩ := cell_two hg.o8
    have C64 : Hid _ := isEmpty_call (w := wr) hr.ol
    by_cases hop : op = 0
    · have HR : Hid (R = ⟨i, f⟩) := by
        have h := hr
        rw [hop] at h
        exact h.done
      have ho : (op == 0) = true := by simpa using hop
      rw [ho] at C64
      have HGI : Hid _ := hg
      clear hr hg hop ho
      go_wp2_with (first | (go_at_call 64; refine Calls.mono C64.out ?_; rintro e w4 ⟨rfl, h4⟩; have hg4 := HGI.out.under h4; obtain ⟨p0, p1, p2, p3⟩ := pbox_cells hg4.p7; obtain ⟨q1, q2, q3, q4, q5, q6, q7, q8, q9⟩ := store_four hg4.z6 (.int .u64 (lo64 i : Int)) (.int .u64 (hi64 i : Int)) (.int .u64 (lo64 f : Int)) (.int .u64 (hi64 f : Int)); have hBz := hg4.below; clear hg4 h4; rw [zl] at q2 q6; rw [zh] at q4 q8; have r0 := box_cell q9 (i := 0) rfl; have r1 := box_cell q9 (i := 1) rfl; have r2 := box_cell q9 (i := 2) rfl; have r3 := box_cell q9 (i := 3) rfl) | go_in)
      obtain ⟨a1, a2, a3, a4, a5⟩ := HA5.out
      refine bodyPost_ret (v := pv R) ?_ rfl ⟨rfl, (((hBz.setCell (by show _ ≤ b6; omega) _).setCell (by show _ ≤ b6; omega) _).setCell (by show _ ≤ b6; omega) _).setCell (by show _ ≤ b6; omega) _⟩
      simp [results, Tryd.results68, go_sem, r0, r1, r2, r3, HR.out]
    · have ho : (op == 0) = false := by simpa using hop
      rw [ho] at C64
      have HGI : Hid _ := hg
      obtain ⟨k', hr'⟩ := hr.next hop HX.out.2.2.2 HN.out.lt
      have hvl := hr.lt _ (first_spec hr.ol hop).1
      have hv := first_lt hr.ol hop
      have hcnt : Hid (countS (sAdd i (firstS op)) = countS i + 1 ∧ countS i < 128) := ⟨count_add hv (hr.apart _ (first_spec hr.ol hop).1), count_full hv (hr.apart _ (first_spec hr.ol hop).1)⟩
      have HTw : Hid (∀ W, Below w.heap.size w W → T64 W) := fun W hW => HT.out.below hW HT.out.pos
      have HNw : Hid (∀ W, Below w.heap.size w W → SetsAt W bn near) := fun W hW => HN.out.below hW HN.out.ltS
      have C65 : Hid (∀ W, Below w.heap.size w W → Calls Tryd.prog 65 #[sv op] W fun e w' => e = .returned (.int .i64 (firstS op : Int)) ∧ Below W.heap.size W w') := fun W hW => first_call hr.ol hop (HTw.out W hW)
      have hso := at_some hvl
      have hal := at_lt HN.out.lt (firstS op)
      rw [← HNN.out] at hvl
      have hil := hr.il
      have hfl := hr.fl
      have hol := hr.ol
      generalize firstS op = v at *
      have C66 : Hid (∀ W, SBox W b8 op → Calls Tryd.prog 66 #[.pointer (some ⟨b8, 0, none⟩), .int .i64 (v : Int)] W fun e w' => e = .returned (.tuple #[]) ∧ SBox w' b8 (sDrop op v) ∧ Turns (fun k => k = b8) W w') := fun W hW => drop_sbox hol hv hW
      have C48 : Hid (∀ W, PBox W b7 i f → Calls Tryd.prog 48 #[.pointer (some ⟨b7, 0, none⟩), .int .i64 (v : Int)] W fun e w' => e = .returned (.tuple #[]) ∧ PBox w' b7 (sAdd i v) f ∧ Turns (fun k => k = b7) W w') := fun W hW => add_pinner hil hv hW
      have hi' : sAdd i v < 2 ^ 128 := add_lt hil hv
      have hd' : sDrop op v < 2 ^ 128 := less_lt hol
      generalize at' near v = nv at *
      have C67 : Hid (∀ W : World, Calls Tryd.prog 67 #[sv nv, sv laid] W fun e w' => e = .returned (sv (nv &&& laid)) ∧ Below W.heap.size W w') := fun W => both_call hal HX.out.1
      have C63 : Hid (∀ W : World, Calls Tryd.prog 63 #[sv f, sv (nv &&& laid)] W fun e w' => e = .returned (sv (f ||| (nv &&& laid))) ∧ Below W.heap.size W w') := fun W => either_call hfl (and_lt hal)
      have C67b : Hid (∀ W : World, Calls Tryd.prog 67 #[sv nv, sv rest] W fun e w' => e = .returned (sv (nv &&& rest)) ∧ Below W.heap.size W w') := fun W => both_call hal HX.out.2.1
      have C62 : Hid (∀ W : World, Calls Tryd.prog 62 #[sv (nv &&& rest), sv (sAdd i v)] W fun e w' => e = .returned (sv (sLess (nv &&& rest) (sAdd i v))) ∧ Below W.heap.size W w') := fun W => less_call (and_lt hal) hi'
      have C63b : Hid (∀ W : World, Calls Tryd.prog 63 #[sv (sDrop op v), sv (sLess (nv &&& rest) (sAdd i v))] W fun e w' => e = .returned (sv (sDrop op v ||| sLess (nv &&& rest) (sAdd i v))) ∧ Below W.heap.size W w') := fun W => either_call hd' (less_lt (and_lt hal))
      have HR' : Hid _ := hr'
      have HSO : Hid _ := hso
      have i1 : (0 : Int) ≤ (v : Int) := by omega
      have i2 : (v : Int) < (N : Int) := by omega
      have HMW : Hid (boxCount wr b7 = countS i) := pbox_count hg.p7
      clear hr hg hop ho hr' hso hal hil hfl hol hi' hd'
      go_upto_region 7 with (first | (go_at_call 64; refine Calls.mono C64.out ?_; rintro e w4 ⟨rfl, h4⟩; have hg4 := HGI.out.under h4; obtain ⟨e0, e1⟩ := cell_two hg4.o8; clear h4) | (go_at_call 65; refine Calls.mono (C65.out _ hg4.below) ?_; rintro e w5 ⟨rfl, h5⟩; have hg5 := hg4.under h5; have h58 := hg5.o8; clear h5) | (go_at_call 66; refine Calls.mono (C66.out _ h58) ?_; rintro e w6 ⟨rfl, h6, t6⟩; have hg6 := hg5.set8 HA5.out t6 h6; have h67 := hg6.p7; clear h6 t6 h58) | (go_at_call 48; refine Calls.mono (C48.out _ h67) ?_; rintro e w7 ⟨rfl, h7, t7⟩; have hg7 := hg6.set7 HA5.out t7 h7; clear h7 t7 h67) | fail)
      clear hg4 hg5 hg6 e0 e1 d0 d1
      obtain ⟨p0, p1, p2, p3⟩ := pbox_cells hg7.p7
      obtain ⟨l0, l1⟩ := cell_two hg7.l4
      obtain ⟨n0, n1⟩ := (HNw.out _ hg7.below).cell HSO.out
      have gp2 := cell_growD p2
      have gp3 := cell_growD p3
      have gl0 := cell_growD l0
      have gl1 := cell_growD l1
      have gn0 := cell_growD n0
      have gn1 := cell_growD n1
      have HG7 : Hid _ := hg7
      clear hg7 p0 p1 p2 p3 l0 l1 n0 n1
      refine wp_region_tail 10 (by kernel_rfl) (by kernel_rfl) (by kernel_rfl) (by decide) ?_
      simp only [List.take_succ_cons, List.take_zero, List.drop_succ_cons, List.drop_zero]
      repeat (quiet_step (first | (go_at_call 67; exact Calls.belowQ (fun W _ => C67.out W)) | (go_at_call 63; exact Calls.belowQ (fun W _ => C63.out W))))
      refine wpQuiet_nil ?_
      rintro _ ⟨gp, rfl⟩
      have hg8 := HG7.out.under (growD_below w7 gp)
      clear gp2 gp3 gl0 gl1 gn0 gn1
      generalize growD w7 gp = w8 at *
      obtain ⟨q1, q2, q3, q4⟩ := store_two hg8.p7 (i := 2) (.int .u64 (lo64 (f ||| nv &&& laid) : Int)) rfl rfl
      have hs7 := box_set (box_set hg8.p7 2 (.int .u64 (lo64 (f ||| nv &&& laid) : Int))) 3 (.int .u64 (hi64 (f ||| nv &&& laid) : Int))
      have hg9 := hg8.set7 HA5.out ((setCell_turns w8 b7 2 (.int .u64 (lo64 (f ||| nv &&& laid) : Int))).trans (setCell_turns _ b7 3 (.int .u64 (hi64 (f ||| nv &&& laid) : Int)))) hs7
      have HG9 : Hid _ := hg9
      clear hg8 hs7 hg9 HG7
      go_upto_region 8 with (fail)
      generalize (w8.setCell ⟨b7, 2, none⟩ (.int .u64 (lo64 (f ||| nv &&& laid) : Int))).setCell ⟨b7, 3, none⟩ (.int .u64 (hi64 (f ||| nv &&& laid) : Int)) = w9 at *
      clear q1 q2 q3 q4
      have hg9 := HG9.out
      obtain ⟨p0, p1, p2, p3⟩ := pbox_cells hg9.p7
      obtain ⟨l0, l1⟩ := cell_two hg9.l5
      obtain ⟨o0, o1⟩ := cell_two hg9.o8
      obtain ⟨n0, n1⟩ := (HNw.out _ hg9.below).cell HSO.out
      have gp0 := cell_growD p0
      have gp1 := cell_growD p1
      have gl0 := cell_growD l0
      have gl1 := cell_growD l1
      have go0 := cell_growD o0
      have go1 := cell_growD o1
      have gn0 := cell_growD n0
      have gn1 := cell_growD n1
      clear hg9 p0 p1 p2 p3 l0 l1 n0 n1 o0 o1
      refine wp_region_tail 11 (by kernel_rfl) (by kernel_rfl) (by kernel_rfl) (by decide) ?_
      simp only [List.take_succ_cons, List.take_zero, List.drop_succ_cons, List.drop_zero]
      repeat (quiet_step (first | (go_at_call 67; exact Calls.belowQ (fun W _ => C67b.out W)) | (go_at_call 63; exact Calls.belowQ (fun W _ => C63b.out W)) | (go_at_call 62; exact Calls.belowQ (fun W _ => C62.out W))))
      refine wpQuiet_nil ?_
      rintro _ ⟨gp, rfl⟩
      have hg10 := HG9.out.under (growD_below w9 gp)
      clear gp0 gp1 gl0 gl1 go0 go1 gn0 gn1
      generalize growD w9 gp = w10 at *
      obtain ⟨q1, q2, q3, q4⟩ := store_two hg10.o8 (i := 0) (.int .u64 (lo64 (sDrop op v ||| sLess (nv &&& rest) (sAdd i v)) : Int)) rfl rfl
      have hs8 : SBox _ b8 (sDrop op v ||| sLess (nv &&& rest) (sAdd i v)) := two_setN (x' := .int .u64 (lo64 (sDrop op v ||| sLess (nv &&& rest) (sAdd i v)) : Int)) (y' := .int .u64 (hi64 (sDrop op v ||| sLess (nv &&& rest) (sAdd i v)) : Int)) hg10.o8
      have hg11 := hg10.set8 HA5.out ((setCell_turns w10 b8 0 (.int .u64 (lo64 (sDrop op v ||| sLess (nv &&& rest) (sAdd i v)) : Int))).trans (setCell_turns _ b8 1 (.int .u64 (hi64 (sDrop op v ||| sLess (nv &&& rest) (sAdd i v)) : Int)))) hs8
      have HG11 : Hid _ := hg11
      clear hg10 hs8 hg11
      go_wp2
      go_roundw
      case rel => exact ⟨_, _, _, k', HG11.out, HR'.out⟩
      case measure =>
        have h1 := pbox_count HG11.out.p7
        have h2 := HMW.out
        have h3 := hcnt.out
        omega
end Go.Proofs.YtekokjechbibdaaDoor
