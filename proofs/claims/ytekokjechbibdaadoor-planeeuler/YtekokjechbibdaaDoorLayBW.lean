/- layBlock: a block is laid, way by way. -/
import Derived.Test.YtekokjechbibdaaDoorLayN
namespace Go.Proofs.YtekokjechbibdaaDoor
set_option maxRecDepth 8000
open Go.RowKit Go.Maps
attribute [local go_sem ↓] Go.wp_at_zero Go.wp_at_succ
def LayAns (w w' : World) (bn : Nat) (r : Option (List Face × List Nat)) (e : Ending) : Prop := Turns (fun k => k = bn) w w' ∧ match r with | none => e = .returned (.tuple #[.slice none 0 0, .bool false]) | some (F, near') => ∃ x H, e = .returned (.tuple #[x, .bool true]) ∧ FRow w' w.heap.size x H F ∧ SetsAt w' bn near'
/-- The frame of layBlock in its last but one region. -/
def A26 (bn N e1 e2 b k z s laid g0 b13 gw t cw : Nat) (px fx : Value) (u8 u21 u22 u23 u24 u25 u26 u27 u28 u29 u30 u31 u32 u33 u34 : Value) (h f : Nat → Value) : Act := { tmps := #[sl bn N, Value.agg #[Value.int IntKind.i64 (e1 : Int), Value.int IntKind.i64 (e2 : Int)], undef, Value.pointer (some ⟨b, 0, none⟩), h 4, h 5, Value.pointer (some ⟨b + 1, 0, none⟩), Value.pointer (some ⟨b + 1 + 1, 0, none⟩), u8, f 11, fx, h 11, h 12, Value.pointer (some ⟨b13, 0, none⟩), h 14, h 15, Value.slice (some ⟨gw, 1, none⟩) t cw, sl bn N, Value.int IntKind.i64 (N : Int), Value.int IntKind.i64 (k : Int), Value.bool false, u21, u22, u23, u24, u25, u26, u27, u28, u29, u30, u31, u32, u33, u34, sl bn N, Value.pointer (some ⟨b, 0, none⟩), Value.int IntKind.i64 (e1 : Int), Value.pointer (some ⟨b, 1, none⟩), Value.int IntKind.i64 (e2 : Int), Value.tuple #[], sl bn N, Value.agg #[Value.int IntKind.u64 ((lo64 z : Nat) : Int), Value.int IntKind.u64 ((hi64 z : Nat) : Int)], Value.slice (some ⟨b, 0, none⟩) 2 2, Value.agg #[Value.int IntKind.u64 ((lo64 s : Nat) : Int), Value.int IntKind.u64 ((hi64 s : Nat) : Int)], px, Value.slice (some ⟨b, 0, none⟩) 2 2, sv laid, Value.slice (some ⟨b, 0, none⟩) 2 2, Value.agg #[Value.slice (some ⟨b, 0, none⟩) 2 2, Value.int IntKind.u64 ((lo64 laid : Nat) : Int), Value.int IntKind.u64 ((hi64 laid : Nat) : Int)], Value.slice (some ⟨g0, 0, none⟩) 1 1, h 51, h 52, h 53, h 54, h 55, h 56, h 57, h 58, h 59, h 60, h 61, h 62, h 63, h 64, h 65, h 66, h 67, h 68, h 69, h 70, h 71, h 72, h 73, h 74, h 75, h 76, h 77, h 78, h 79, h 80, h 81, h 82, h 83, h 84, h 85, h 86, h 87, h 88, h 89, h 90, h 91, h 92, h 93, h 94, h 95, h 96, h 97, h 98, h 99, h 100, f 0, f 1, f 2, f 3, f 4, f 5, f 6, f 7, f 8, f 9, f 10, h 112, h 113, h 114, h 115, undef], defers := [] }
theorem wp_A26 {C : Code} {Q : Exit → Act → World → Prop} {w : World} {bn N e1 e2 b k z s laid g0 b13 gw t cw : Nat} {px fx : Value} {u8 u21 u22 u23 u24 u25 u26 u27 u28 u29 u30 u31 u32 u33 u34 : Value} {x4 x5 x9 x11 x12 x14 x15 x51 x52 x53 x54 x55 x56 x57 x58 x59 x60 x61 x62 x63 x64 x65 x66 x67 x68 x69 x70 x71 x72 x73 x74 x75 x76 x77 x78 x79 x80 x81 x82 x83 x84 x85 x86 x87 x88 x89 x90 x91 x92 x93 x94 x95 x96 x97 x98 x99 x100 x101 x102 x103 x104 x105 x106 x107 x108 x109 x110 x111 x112 x113 x114 x115 : Value} (H : ∀ h f : Nat → Value, f 11 = x9 → C.wp Tryd.prog Q (A26 bn N e1 e2 b k z s laid g0 b13 gw t cw px fx u8 u21 u22 u23 u24 u25 u26 u27 u28 u29 u30 u31 u32 u33 u34 h f) w) :
    C.wp Tryd.prog Q { tmps := #[sl bn N, Value.agg #[Value.int IntKind.i64 (e1 : Int), Value.int IntKind.i64 (e2 : Int)], undef, Value.pointer (some ⟨b, 0, none⟩), x4, x5, Value.pointer (some ⟨b + 1, 0, none⟩), Value.pointer (some ⟨b + 1 + 1, 0, none⟩), u8, x9, fx, x11, x12, Value.pointer (some ⟨b13, 0, none⟩), x14, x15, Value.slice (some ⟨gw, 1, none⟩) t cw, sl bn N, Value.int IntKind.i64 (N : Int), Value.int IntKind.i64 (k : Int), Value.bool false, u21, u22, u23, u24, u25, u26, u27, u28, u29, u30, u31, u32, u33, u34, sl bn N, Value.pointer (some ⟨b, 0, none⟩), Value.int IntKind.i64 (e1 : Int), Value.pointer (some ⟨b, 1, none⟩), Value.int IntKind.i64 (e2 : Int), Value.tuple #[], sl bn N, Value.agg #[Value.int IntKind.u64 ((lo64 z : Nat) : Int), Value.int IntKind.u64 ((hi64 z : Nat) : Int)], Value.slice (some ⟨b, 0, none⟩) 2 2, Value.agg #[Value.int IntKind.u64 ((lo64 s : Nat) : Int), Value.int IntKind.u64 ((hi64 s : Nat) : Int)], px, Value.slice (some ⟨b, 0, none⟩) 2 2, sv laid, Value.slice (some ⟨b, 0, none⟩) 2 2, Value.agg #[Value.slice (some ⟨b, 0, none⟩) 2 2, Value.int IntKind.u64 ((lo64 laid : Nat) : Int), Value.int IntKind.u64 ((hi64 laid : Nat) : Int)], Value.slice (some ⟨g0, 0, none⟩) 1 1, x51, x52, x53, x54, x55, x56, x57, x58, x59, x60, x61, x62, x63, x64, x65, x66, x67, x68, x69, x70, x71, x72, x73, x74, x75, x76, x77, x78, x79, x80, x81, x82, x83, x84, x85, x86, x87, x88, x89, x90, x91, x92, x93, x94, x95, x96, x97, x98, x99, x100, x101, x102, x103, x104, x105, x106, x107, x108, x109, x110, x111, x112, x113, x114, x115, undef], defers := [] } w := H (fun i => ([undef, undef, undef, undef, x4, x5, undef, undef, undef, undef, undef, x11, x12, undef, x14, x15, undef, undef, undef, undef, undef, undef, undef, undef, undef, undef, undef, undef, undef, undef, undef, undef, undef, undef, undef, undef, undef, undef, undef, undef, undef, undef, undef, undef, undef, undef, undef, undef, undef, undef, undef, x51, x52, x53, x54, x55, x56, x57, x58, x59, x60, x61, x62, x63, x64, x65, x66, x67, x68, x69, x70, x71, x72, x73, x74, x75, x76, x77, x78, x79, x80, x81, x82, x83, x84, x85, x86, x87, x88, x89, x90, x91, x92, x93, x94, x95, x96, x97, x98, x99, x100, undef, undef, undef, undef, undef, undef, undef, undef, undef, undef, undef, x112, x113, x114, x115, undef] : List Value).getD i undef) (fun i => ([x101, x102, x103, x104, x105, x106, x107, x108, x109, x110, x111, x9] : List Value).getD i undef) rfl
def V26 (gp m pc bn N la gw t cw b13 qi fs rs : Nat) : Nat → Value
  | 0 => .slice (some ⟨gp, 0, none⟩) m pc
  | 1 => sl bn N
  | 2 => sv la
  | 3 => .slice (some ⟨gw, 1, none⟩) t cw
  | 4 => .pointer (some ⟨b13, 0, none⟩)
  | 5 => sv qi
  | 6 => .slice (some ⟨gw, 1, none⟩) t cw
  | 7 => sv fs
  | 8 => sv rs
  | _ => undef
theorem layL_step (fu : Nat) (nr : List Nat) (la : Nat) (F : List Face) (p : Piece) (l : List Piece) : layL (fu + 1) nr la F (p :: l) = match choose (p :: l) F with
    | (_, none) => none
    | (i, some room) => layL fu (partWay nr (wayThrough nr ((p :: l).getD i ⟨0, 0⟩))) (la ||| setOf (inside (wayThrough nr ((p :: l).getD i ⟨0, 0⟩)))) (cross F room (wayThrough nr ((p :: l).getD i ⟨0, 0⟩))) ((p :: l).eraseIdx i ++ piecesOf (partWay nr (wayThrough nr ((p :: l).getD i ⟨0, 0⟩))) la (inside (wayThrough nr ((p :: l).getD i ⟨0, 0⟩))) (sLess ((p :: l).getD i ⟨0, 0⟩).inner (setOf (inside (wayThrough nr ((p :: l).getD i ⟨0, 0⟩)))))) := rfl
theorem rest_eq {N e1 e2 s : Nat} (hs : ∀ v, s.testBit v = (decide (v < N) && !decide (v = e1) && !decide (v = e2))) : s = sDrop (sDrop (setOf (List.range N)) e1) e2 := Nat.eq_of_testBit_eq fun i => by
  rw [hs, bit_drop, bit_drop, bit_setOf]
  simp
set_option maxHeartbeats 8000000 in
theorem layBlock_call {w : World} {bn e1 e2 : Nat} {near : List Nat} (hn : SetsAt w bn near) (hl : near.length ≤ 100) (h1 : e1 < near.length) (h2 : e2 < near.length) (hbn : bn ≠ 0) (ht : T64 w) (hok : blockOk near (e1, e2) = true) :
    Calls Tryd.prog 41 #[sl bn near.length, .agg #[.int .i64 (e1 : Int), .int .i64 (e2 : Int)]] w fun e w' => LayAns w w' bn (layBlock near (e1, e2)) e := by
  have HT : Hid (T64 w) := ht
  have HN : Hid (SetsAt w bn near) := hn
  obtain ⟨R, hR⟩ : ∃ R, R = layBlock near (e1, e2) := ⟨_, rfl⟩
  rw [← hR]
  have HR : Hid (R = layBlock near (e1, e2) ∧ blockOk near (e1, e2) = true) := ⟨hR, hok⟩
  obtain ⟨N, hN⟩ : ∃ N, N = near.length := ⟨_, rfl⟩
  rw [← hN] at hl h1 h2 ⊢
  have HNN : Hid (N = near.length) := hN
  have HBN : Hid (bn < w.heap.size ∧ bn ≠ 0) := ⟨hn.ltS, hbn⟩
  clear hn ht hok hR hN hbn
  go_enter Tryd.func41, Tryd.ntmps41
  go_upto_region 3 with (fail)
  obtain ⟨b, hb⟩ : ∃ b, b = w.heap.size := ⟨_, rfl⟩
  have x3 : Two (((w.alloc (Obj.cells #[Value.int IntKind.i64 (e1 : Int), Value.int IntKind.i64 (e2 : Int)] 49)).alloc (Obj.cells #[Value.int IntKind.u64 0, Value.int IntKind.u64 0] 76)).alloc (Obj.cells #[Value.int IntKind.u64 0, Value.int IntKind.u64 0] 76)) b (.int .i64 (e1 : Int)) (.int .i64 (e2 : Int)) 49 := by rw [hb]; exact two_alloc (two_alloc (two_new _ _ _ _) _) _
  have x6 : SBox (((w.alloc (Obj.cells #[Value.int IntKind.i64 (e1 : Int), Value.int IntKind.i64 (e2 : Int)] 49)).alloc (Obj.cells #[Value.int IntKind.u64 0, Value.int IntKind.u64 0] 76)).alloc (Obj.cells #[Value.int IntKind.u64 0, Value.int IntKind.u64 0] 76)) (b + 1) 0 := by
    rw [hb]; exact sbox_zero (two_alloc (two_nxt _ _ _ _ _) _)
  have x7 : SBox (((w.alloc (Obj.cells #[Value.int IntKind.i64 (e1 : Int), Value.int IntKind.i64 (e2 : Int)] 49)).alloc (Obj.cells #[Value.int IntKind.u64 0, Value.int IntKind.u64 0] 76)).alloc (Obj.cells #[Value.int IntKind.u64 0, Value.int IntKind.u64 0] 76)) (b + 2) 0 := by
    rw [hb]
    have := two_nxt (w.alloc (Obj.cells #[Value.int IntKind.i64 (e1 : Int), Value.int IntKind.i64 (e2 : Int)] 49)) (Obj.cells #[Value.int IntKind.u64 0, Value.int IntKind.u64 0] 76) (Value.int IntKind.u64 0) (Value.int IntKind.u64 0) 76
    rw [World.size_alloc] at this
    exact sbox_zero this
  have hB0 : Below w.heap.size w (((w.alloc (Obj.cells #[Value.int IntKind.i64 (e1 : Int), Value.int IntKind.i64 (e2 : Int)] 49)).alloc (Obj.cells #[Value.int IntKind.u64 0, Value.int IntKind.u64 0] 76)).alloc (Obj.cells #[Value.int IntKind.u64 0, Value.int IntKind.u64 0] 76)) := below_alloc (below_alloc (below_alloc (Below.refl _ w) _) _) _

  rw [← hb]
  generalize ((w.alloc (Obj.cells #[Value.int IntKind.i64 (e1 : Int), Value.int IntKind.i64 (e2 : Int)] 49)).alloc (Obj.cells #[Value.int IntKind.u64 0, Value.int IntKind.u64 0] 76)).alloc (Obj.cells #[Value.int IntKind.u64 0, Value.int IntKind.u64 0] 76) = W1 at *
  have HWB : Hid (w.heap.size = b) := hb.symm
  have HX : Hid (Two W1 b (.int .i64 (e1 : Int)) (.int .i64 (e2 : Int)) 49 ∧ SBox W1 (b + 1) 0 ∧ SBox W1 (b + 2) 0 ∧ Below w.heap.size w W1) := ⟨x3, x6, x7, hB0⟩
  clear hb x3 x6 x7 hB0
  go_loopw [19] (fun s19 wz => ∃ k s : Nat, k ≤ N ∧ s19 = .int .i64 (k : Int) ∧ s < 2 ^ 128 ∧ (∀ v, s.testBit v = (decide (v < k) && !decide (v = e1) && !decide (v = e2))) ∧ SBox wz (b + 2) s ∧ Turns (fun k => k = b + 2) W1 wz) (fun s19 _ => N - (numOf s19).toNat)
  case atStart => exact ⟨0, 0, Nat.zero_le _, rfl, by decide, fun v => (by simp), HX.out.2.2.1, Turns.refl _ _⟩
  case round =>
    obtain ⟨k, s, hk, rfl, hs, hbit, hsb, htn⟩ := hrel
    have c3 := two_turns HX.out.1 htn (by omega)
    obtain ⟨p0, p1⟩ := cell_two c3
    have HSB : Hid (SBox wr (b + 2) s ∧ s < 2 ^ 128 ∧ Turns (fun k => k = b + 2) W1 wr) := ⟨hsb, hs, htn⟩
    have HBT : Hid (∀ v, s.testBit v = (decide (v < k) && !decide (v = e1) && !decide (v = e2))) := hbit
    clear hsb hs htn hbit c3
    by_cases hlt : k < N
    · have i1 : (k : Int) < (N : Int) := by omega
      by_cases q1 : k = e1
      · subst q1
        go_wp2
        go_roundw
        case rel => exact ⟨k + 1, s, by omega, by go_num, HSB.out.2.1, fun v => (by
          rw [HBT.out]
          by_cases e : v = k
          · subst e; simp
          · have : decide (v < k + 1) = decide (v < k) := by rw [decide_eq_decide]; omega
            rw [this]), HSB.out.1, HSB.out.2.2⟩
        case measure => simp [numOf]; omega
      · by_cases q2 : k = e2
        · subst q2
          have n1 : ¬ (k : Int) = (e1 : Int) := by omega
          have n2 : ¬ (e1 : Int) = (k : Int) := by omega
          have n3 : ((k : Int) == (e1 : Int)) = false := by simp; omega
          have n4 : (k == e1) = false := by simp; omega
          have m1 : ((k : Int) != (e1 : Int)) = true := by simp; omega
          go_wp2
          go_roundw
          case rel => exact ⟨k + 1, s, by omega, by go_num, HSB.out.2.1, fun v => (by
            rw [HBT.out]
            by_cases e : v = k
            · subst e; simp
            · have : decide (v < k + 1) = decide (v < k) := by rw [decide_eq_decide]; omega
              rw [this]), HSB.out.1, HSB.out.2.2⟩
          case measure => simp [numOf]; omega
        · have n1 : ¬ (k : Int) = (e1 : Int) := by omega
          have n2 : ¬ (e1 : Int) = (k : Int) := by omega
          have n3 : ((k : Int) == (e1 : Int)) = false := by simp; omega
          have n4 : (k == e1) = false := by simp; omega
          have m1 : ((k : Int) != (e1 : Int)) = true := by simp; omega
          have n5 : ¬ (k : Int) = (e2 : Int) := by omega
          have n6 : ¬ (e2 : Int) = (k : Int) := by omega
          have n7 : ((k : Int) == (e2 : Int)) = false := by simp; omega
          have n8 : (k == e2) = false := by simp; omega
          have m2 : ((k : Int) != (e2 : Int)) = true := by simp; omega
          have C48 : Hid (Calls Tryd.prog 48 #[.pointer (some ⟨b + 2, 0, none⟩), .int .i64 (k : Int)] wr fun e w' => e = .returned (.tuple #[]) ∧ SBox w' (b + 2) (sAdd s k) ∧ Turns (fun k => k = b + 2) wr w') := add_sbox HSB.out.2.1 (show k < 128 by omega) HSB.out.1
          go_wp2_with (first | (go_at_call 48; refine Calls.mono C48.out ?_; rintro e w1 ⟨rfl, y7, t1⟩) | go_in)
          go_roundw
          case rel => exact ⟨k + 1, sAdd s k, by omega, by go_num, add_lt HSB.out.2.1 (by omega), fun v => (by
            rw [bit_add, HBT.out]
            by_cases e : v = k
            · subst e; simp [q1, q2]
            · have : decide (v < k + 1) = decide (v < k) := by rw [decide_eq_decide]; omega
              rw [this]; simp [e]), y7, HSB.out.2.2.trans t1⟩
          case measure => simp [numOf]; omega
    · have hkN : k = N := by omega
      have i1 : ¬ (k : Int) < (N : Int) := by omega
      have hrest := rest_eq (N := k) HBT.out
      have HRS : Hid (s = sDrop (sDrop (setOf (List.range N)) e1) e2 ∧ s < 2 ^ 128 ∧ ∀ v, s.testBit v = true → v < N) := ⟨by rw [← hkN]; exact hrest, HSB.out.2.1, fun v hv => by rw [HBT.out] at hv; simp at hv; omega⟩
      clear hkN hrest
      have HN1 : Hid (SetsAt wr bn near) := (HN.out.below HX.out.2.2.2 HBN.out.1).turns HSB.out.2.2 (by have := HWB.out; have := HBN.out.1; omega)
      have C54 : Hid (Calls Tryd.prog 54 #[sl bn N, .int .i64 (e1 : Int), .int .i64 (e2 : Int)] wr fun e w' => e = .returned (.tuple #[]) ∧ SetsAt w' bn (part near e1 e2) ∧ Turns (fun k => k = bn) wr w') := by
        have := part_call (u := e1) (v := e2) HN1.out (by have := HNN.out; omega) (by have := HNN.out; omega) (by have := HNN.out; omega)
        rw [← HNN.out] at this
        exact this
      go_upto_region 9 with (first | (go_at_call 54; refine Calls.mono C54.out ?_; rintro e w2 ⟨rfl, hn2, t2⟩) | fail)
      clear C54
      obtain ⟨z, hz⟩ : ∃ z, z = 0 := ⟨_, rfl⟩
      have hbb := HBN.out
      have y3 : Two w2 b (.int .i64 (e1 : Int)) (.int .i64 (e2 : Int)) 49 := two_turns (two_turns HX.out.1 HSB.out.2.2 (by omega)) t2 (by have := HWB.out; omega)
      have y6 : SBox w2 (b + 1) z := by rw [hz]; exact two_turns (two_turns HX.out.2.1 HSB.out.2.2 (by omega)) t2 (by have := HWB.out; omega)
      have y7 : SBox w2 (b + 2) s := two_turns HSB.out.1 t2 (by have := HWB.out; omega)
      have hT2 : Turns (fun k => k = bn) w w2 := by
        refine Turns.trans ⟨HSB.out.2.2.os.trans HX.out.2.2.2.os, HSB.out.2.2.tape.trans HX.out.2.2.2.tape, HSB.out.2.2.output.trans HX.out.2.2.2.output, Nat.le_trans HX.out.2.2.2.size HSB.out.2.2.size, fun k hk _ => ?_⟩ t2
        have h9 := HWB.out
        exact (HSB.out.2.2.block k (by have := HX.out.2.2.2.size; omega) (by omega)).trans (HX.out.2.2.2.block k hk)
      have h64 : T64 w2 := HT.out.turns hT2 (by omega)
      obtain ⟨n1, hn1⟩ : ∃ n1, n1 = part near e1 e2 := ⟨_, rfl⟩
      rw [← hn1] at hn2
      have HL1 : Hid (n1.length = N ∧ n1 = part near e1 e2) := ⟨by rw [hn1, part_len]; exact HNN.out.symm, hn1⟩
      have HK2 : Hid (Two w2 b (.int .i64 (e1 : Int)) (.int .i64 (e2 : Int)) 49 ∧ SBox w2 (b + 1) z ∧ SBox w2 (b + 2) s ∧ SetsAt w2 bn n1 ∧ T64 w2 ∧ Turns (fun k => k = bn) w w2) := ⟨y3, y6, y7, hn2, h64, hT2⟩
      have HZ : Hid (z = 0) := hz
      obtain ⟨a0, a1⟩ := cell_two y6
      obtain ⟨a2, a3⟩ := cell_two y7
      have g0 := cell_growD a0
      have g1 := cell_growD a1
      have g2 := cell_growD a2
      have g3 := cell_growD a3
      have HNL : Hid (∀ A, Below w2.heap.size w2 A → NumL A b 0 [e1, e2]) := fun A hA => by
        have := cell_two (two_next y3 hA)
        intro k u hu
        match k, hu with
        | 0, hu => cases hu; exact this.1
        | 1, hu => cases hu; exact this.2
      have C55 : Hid (∀ A, Below w2.heap.size w2 A → Calls Tryd.prog 55 #[sl bn N, sv z, .slice (some ⟨b, 0, none⟩) 2 2, sv s] A fun e w' => ∃ x, e = .returned x ∧ PRow w' A.heap.size x (piecesOf n1 z [e1, e2] s) ∧ Below A.heap.size A w') := fun A hA => by
        have := piecesOf_call (near := n1) (laid := z) (bf := b) (off := 0) (cap := 2) (fresh := [e1, e2]) (rest := s) (HK2.out.2.2.2.1.under hA) (by have := HL1.out.1; omega) (by rw [HZ.out]; decide) HRS.out.2.1 (by rw [HL1.out.1]; exact HRS.out.2.2) (HNL.out A hA) (by rw [HL1.out.1]; intro x hx; simp at hx; omega) (by simp) (HK2.out.2.2.2.2.1.under hA)
        rw [HL1.out.1] at this
        exact this
      clear hz hbb y3 y6 y7 hT2 h64 hn1 hn2 t2 a0 a1 a2 a3 p0 p1
      refine wp_region_tailT 4 (by kernel_rfl) (by kernel_rfl) (by kernel_rfl) (by decide) ?_
      simp only [List.take_succ_cons, List.take_zero, List.drop_succ_cons, List.drop_zero]
      repeat (quiet_step (fail))
      refine wpQuiet_nil ?_
      rintro _ ⟨gp, rfl⟩
      have hB3 := growD_below w2 gp
      clear g0 g1 g2 g3
      generalize growD w2 gp = w3 at *
      have C55' : Hid (Calls Tryd.prog 55 #[sl bn N, sv z, .slice (some ⟨b, 0, none⟩) 2 2, sv s] w3 fun e w' => ∃ x, e = .returned x ∧ PRow w' w3.heap.size x (piecesOf n1 z [e1, e2] s) ∧ Below w3.heap.size w3 w') := C55.out w3 hB3
      have HB3 : Hid _ := hB3
      clear hB3
      go_upto_region 10 with (first | (go_at_call 55; refine Calls.mono C55'.out ?_; rintro e w4 ⟨px, rfl, hpx, hB4⟩) | fail)
      have hB24 : Below w2.heap.size w2 w4 := below_next HB3.out hB4
      have HP4 : Hid (PRow w4 (b + 3) px (piecesOf n1 z [e1, e2] s)) := ownsRow_base hpx (by have := lt_of_block HK2.out.2.2.1; have := HB3.out.size; omega)
      have HB24 : Hid _ := hB24
      have C56 : Hid (Calls Tryd.prog 56 #[.slice (some ⟨b, 0, none⟩) 2 2] w4 fun e w' => e = .returned (sv (setOf [e1, e2])) ∧ Below w4.heap.size w4 w') := setOf_call (cap := 2) (HNL.out w4 hB24) (by intro x hx; simp at hx; omega) (by simp)
      obtain ⟨laid, hlaid⟩ : ∃ l, l = setOf [e1, e2] := ⟨_, rfl⟩
      rw [← hlaid] at C56
      have HLA : Hid (laid = setOf [e1, e2] ∧ laid < 2 ^ 128) := ⟨hlaid, by rw [hlaid]; exact setOf_lt (by intro x hx; simp at hx; omega)⟩
      clear hlaid hpx hB4 hB24 C55 C55' HB3
      go_upto_region 11 with (first | (go_at_call 56; refine Calls.mono C56.out ?_; rintro e w5 ⟨rfl, h5⟩; have x6 : SBox w5 (b + 1) z := two_next HK2.out.2.1 (below_next HB24.out h5); obtain ⟨c0, c1⟩ := cell_two x6; have f0 := box_free x6 0; have f1 := box_free x6 1; have bx1 := box_set x6 0 (.int .u64 (lo64 laid : Int)); have q1 := box_cell bx1 (i := 1) rfl; have f2 := box_free bx1 1) | fail)
      have y6 : SBox ((w5.setCell ⟨b + 1, 0, none⟩ (.int .u64 (lo64 laid : Int))).setCell ⟨b + 1, 1, none⟩ (.int .u64 (hi64 laid : Int))) (b + 1) laid := two_setN x6
      have t6 : Turns (fun k => k = b + 1) w5 ((w5.setCell ⟨b + 1, 0, none⟩ (.int .u64 (lo64 laid : Int))).setCell ⟨b + 1, 1, none⟩ (.int .u64 (hi64 laid : Int))) := (setCell_turns w5 (b + 1) 0 _).trans (setCell_turns _ (b + 1) 1 _)
      generalize (w5.setCell ⟨b + 1, 0, none⟩ (.int .u64 (lo64 laid : Int))).setCell ⟨b + 1, 1, none⟩ (.int .u64 (hi64 laid : Int)) = w6 at *
      have hB25 := below_next HB24.out h5
      have HE6 : Hid (Two w6 b (.int .i64 (e1 : Int)) (.int .i64 (e2 : Int)) 49) := two_turns (two_next HK2.out.1 hB25) t6 (by omega)
      have HN6 : Hid (SetsAt w6 bn n1) := (HK2.out.2.2.2.1.under hB25).turns t6 (by have := HBN.out.1; have := HWB.out; omega)
      have HP6 : Hid (PRow w6 (b + 3) px (piecesOf n1 z [e1, e2] s)) := ownsRow_blocks HP4.out (fun g hg => (t6.block g (by have := (HP4.out.lt g hg).2; have := h5.size; omega) (by have := (HP4.out.lt g hg).1; omega)).trans (h5.block g (HP4.out.lt g hg).2))
      have HS6 : Hid (b + 2 < w6.heap.size ∧ ∀ g, px.ownBlock = some g → g < w6.heap.size) := ⟨by have := lt_of_block HK2.out.2.2.1; have := hB25.size; have := t6.size; omega, fun g hg => (HP6.out.lt g hg).2⟩
      have HT6 : Hid (Turns (fun k => k = bn) w w6) := by
        have h9 := HK2.out.2.2.2.2.2.trans (Turns.of_below hB25 _)
        refine ⟨t6.os.trans h9.os, t6.tape.trans h9.tape, t6.output.trans h9.output, Nat.le_trans h9.size t6.size, fun k hk hn => (t6.block k (Nat.lt_of_lt_of_le hk h9.size) (by have := HWB.out; omega)).trans (h9.block k hk hn)⟩
      have HL6 : Hid (SBox w6 (b + 1) laid) := y6
      have HNL6 : Hid (NumL w6 b 0 [e1, e2]) := by
        have := cell_two HE6.out
        intro k u hu
        match k, hu with
        | 0, hu => cases hu; exact this.1
        | 1, hu => cases hu; exact this.2
      have C57 : Hid (Calls Tryd.prog 57 #[.slice (some ⟨b, 0, none⟩) 2 2] w6 fun e w' => e = .returned (.agg #[.slice (some ⟨b, 0, none⟩) 2 2, .int .u64 (lo64 (setOf [e1, e2]) : Int), .int .u64 (hi64 (setOf [e1, e2]) : Int)]) ∧ Below w6.heap.size w6 w') := faceOf_call (cap := 2) HNL6.out (by intro x hx; simp at hx; omega) (by simp)
      rw [← HLA.out.1] at C57
      clear y6 t6 hB25 x6 c0 c1 f0 f1 bx1 q1 f2 h5 HP4 HB24 HK2 HNL C56 HSB HBT HN1 HN
      go_upto_region 12 with (first | (go_at_call 57; refine Calls.mono C57.out ?_; rintro e w7 ⟨rfl, h7⟩) | fail)
      have hLI : LI w (w7.alloc (Obj.cells #[.slice (some ⟨b, 0, none⟩) 2 2, .int .u64 (lo64 laid : Int), .int .u64 (hi64 laid : Int)] 86)) bn b e1 e2 n1 laid (.slice (some ⟨w7.heap.size, 0, none⟩) 1 1) px [.slice (some ⟨b, 0, none⟩) 2 2] [faceOf [e1, e2]] (piecesOf n1 z [e1, e2] s) := by
        have hb8 : Below w6.heap.size w6 (w7.alloc (Obj.cells #[.slice (some ⟨b, 0, none⟩) 2 2, .int .u64 (lo64 laid : Int), .int .u64 (hi64 laid : Int)] 86)) := below_alloc h7 _
        have hs := HS6.out
        have hs7 := h7.size
        have hs8 := hb8.size
        refine ⟨two_next HE6.out hb8, HN6.out.under hb8, two_next HL6.out hb8, ⟨rfl, ?_, ?_, ?_, ?_⟩, ownsRow_blocks HP6.out (fun g hg => hb8.block g (hs.2 g hg)), ?_, ?_, ?_, by omega, HT6.out.trans (Turns.of_below hb8 _)⟩
        · refine ⟨rfl, Or.inr ⟨w7.heap.size, 1, #[.slice (some ⟨b, 0, none⟩) 2 2, .int .u64 (lo64 laid : Int), .int .u64 (hi64 laid : Int)], rfl, by omega, heap_alloc_new _ _, Nat.le_refl _, by unfold maxLen; omega, rfl, ?_⟩⟩
          show _ = fcell _ _ ++ _
          rw [HLA.out.1]
          rfl
        · intro i hv f h1 h2
          match i, h1, h2 with
          | 0, h1, h2 =>
            cases h1; cases h2
            exact ⟨b, 0, 2, rfl, Nat.le_refl _, HNL6.out.under hb8 (by omega), Nat.le_refl _, by omega⟩
        · intro i hv h1 g hg
          match i, h1 with
          | 0, h1 =>
            cases h1; cases hg
            simp [Value.ownBlock]; omega
        · intro f hf
          rw [List.mem_singleton] at hf
          subst hf
          exact ⟨by intro x hx; simp [faceOf] at hx; omega, by simp [faceOf], rfl⟩
        · intro g hg
          have : w7.heap.size = g := by simpa [Value.ownBlock] using hg
          omega
        · intro g hg e
          have h9 : w7.heap.size = g := by simpa [Value.ownBlock] using hg
          have := hs.2 g e
          omega
        · intro hv hm g hg
          rw [List.mem_singleton] at hm
          subst hm
          have h9 : b = g := by simpa [Value.ownBlock] using hg
          refine ⟨by omega, fun e => ?_⟩
          have := (HP6.out.lt g e).1
          omega
      generalize w7.alloc (Obj.cells #[.slice (some ⟨b, 0, none⟩) 2 2, .int .u64 (lo64 laid : Int), .int .u64 (hi64 laid : Int)] 86) = w8 at *
      generalize w7.heap.size = g0 at *
      have HLI : Hid _ := hLI
      have HRR : Hid (R = layL 1000 n1 laid [faceOf [e1, e2]] (piecesOf n1 z [e1, e2] s) ∧ layOk N 1000 n1 laid [faceOf [e1, e2]] (piecesOf n1 z [e1, e2] s) = true) := by
        have h1 := HR.out
        unfold layBlock blockOk at h1
        simp only [] at h1
        rw [← HNN.out, ← HL1.out.2, ← HRS.out.1, ← HLA.out.1, show (0 : Nat) = z from HZ.out.symm] at h1
        exact h1
      generalize piecesOf n1 z [e1, e2] s = P0 at *
      clear hLI C57 HP6 HT6 HS6 HL6 HNL6 HE6 HN6 h7
      go_loopw [9, 10] (fun s9 s10 wz => ∃ (fu : Nat) (nr : List Nat) (la : Nat) (H : List Value) (F : List Face) (P : List Piece), LI w wz bn b e1 e2 nr la s10 s9 H F P ∧ la < 2 ^ 128 ∧ nr.length = N ∧ F.length + fu = 1001 ∧ 1 ≤ F.length ∧ R = layL fu nr la F P ∧ layOk N fu nr la F P = true) (fun _ s10 _ => 1001 - lenV s10)
      case atStart => exact ⟨1000, n1, laid, _, _, _, HLI.out, HLA.out.2, HL1.out.1, rfl, Nat.le_refl _, HRR.out.1, HRR.out.2⟩
      case round =>
        obtain ⟨fu, nr, la, H, F, P, hli, hla, hnr, hfu, hF1, hR, hok⟩ := hrel
        obtain ⟨fu, rfl⟩ : ∃ f, fu = f + 1 := by
          cases fu with
          | zero => simp [layOk] at hok
          | succ f => exact ⟨f, rfl⟩
        obtain ⟨gf, fc, rfl, hfc⟩ := hli.fr.form (by omega)
        cases P with
        | nil =>
          have hpx : lenV u9 = 0 ∧ ∃ po pc, u9 = .slice po 0 pc := by
            rcases hli.pr.2 with ⟨e, _⟩ | ⟨g, cap, cur, e, _⟩
            · subst e; exact ⟨rfl, _, _, rfl⟩
            · subst e; exact ⟨rfl, _, _, rfl⟩
          obtain ⟨_, po, pc, rfl⟩ := hpx
          have hRs : R = some (F, nr) := hR
          have HLr : Hid _ := hli
          clear hli hR hok
          go_wp2
          refine bodyPost_ret (v := .tuple #[.slice (some ⟨gf, 0, none⟩) F.length fc, .bool true]) ?_ rfl ?_
          · simp [results, Tryd.results41, go_sem]
          · rw [hRs]
            exact ⟨HLr.out.tn, _, H, rfl, by rw [HWB.out]; exact HLr.out.fr, HLr.out.nr⟩
        | cons p l =>
          obtain ⟨gp, pc, hs9, hpc⟩ : ∃ g c, u9 = .slice (some ⟨g, 0, none⟩) (p :: l).length c ∧ (p :: l).length ≤ c := by
            obtain ⟨g, c, e, _⟩ := hli.pr.form (by simp)
            have := hli.pr
            rw [e] at this
            exact ⟨g, c, e, own_cap this⟩
          subst hs9
          obtain ⟨PP, hPP⟩ : ∃ PP, PP = p :: l := ⟨_, rfl⟩
          rw [← hPP] at hli hR hok hpc ⊢
          have hPne : PP ≠ [] := by rw [hPP]; simp
          have hok' : (decide (F.length ≤ 10000) = true ∧ decide (PP.length ≤ 10000) = true ∧ feetOk PP = true) ∧ (match choose PP F with
              | (_, none) => true
              | (i, some room) =>
                let q := PP.getD i ⟨0, 0⟩
                let way := wayThrough nr q
                let near' := partWay nr way
                decide (i < PP.length) && decide (room < F.length) && pieceOk N q && throughOk nr q && wayFits N F room way &&
                decide ((piecesOf near' la (inside way) (sLess q.inner (setOf (inside way)))).length ≤ 10000) &&
                layOk N fu near' (la ||| setOf (inside way)) (cross F room way) (PP.eraseIdx i ++ piecesOf near' la (inside way) (sLess q.inner (setOf (inside way))))) = true := by
            subst hPP
            unfold layOk at hok
            simp only [Bool.and_eq_true] at hok
            exact ⟨⟨hok.1.1.1, hok.1.1.2, hok.1.2⟩, hok.2⟩
          have hR' : R = match choose PP F with
              | (_, none) => none
              | (i, some room) => layL fu (partWay nr (wayThrough nr (PP.getD i ⟨0, 0⟩))) (la ||| setOf (inside (wayThrough nr (PP.getD i ⟨0, 0⟩)))) (cross F room (wayThrough nr (PP.getD i ⟨0, 0⟩))) (PP.eraseIdx i ++ piecesOf (partWay nr (wayThrough nr (PP.getD i ⟨0, 0⟩))) la (inside (wayThrough nr (PP.getD i ⟨0, 0⟩))) (sLess (PP.getD i ⟨0, 0⟩).inner (setOf (inside (wayThrough nr (PP.getD i ⟨0, 0⟩)))))) := by
            subst hPP
            rw [hR, layL_step]
          have HF0 : Hid (F.length ≤ 10000 ∧ PP.length ≤ 10000 ∧ ∀ p ∈ PP, p.feet < 2 ^ 128) := ⟨of_decide_eq_true hok'.1.1, of_decide_eq_true hok'.1.2.1, fun p hp => of_decide_eq_true (List.all_eq_true.1 hok'.1.2.2 p hp)⟩
          have hok2 := hok'.2
          obtain ⟨pn, hpn⟩ : ∃ n, n = PP.length := ⟨_, rfl⟩
          obtain ⟨fn, hfn⟩ : ∃ n, n = F.length := ⟨_, rfl⟩
          have C58 : Hid (Calls Tryd.prog 58 #[.slice (some ⟨gp, 0, none⟩) pn pc, .slice (some ⟨gf, 0, none⟩) fn fc] wr fun e w' => e = .returned (.tuple #[.int .i64 ((choose PP F).1 : Int), .int .i64 (optI (choose PP F).2)]) ∧ Below wr.heap.size wr w') := by
            rw [hpn, hfn]
            exact choose_call (hli.pcells rfl) (hli.fr.fcells rfl) HF0.out.2.2 hli.fr.nodes_lt (by have := HF0.out; omega) hfc (by have := HF0.out; omega) hPne
          rw [← hpn, ← hfn] at hli
          rw [← hpn] at hpc ⊢
          rw [← hfn] at hfc hfu hF1 ⊢
          have HLr : Hid _ := hli
          have HNM : Hid (pn = PP.length ∧ fn = F.length ∧ fn + (fu + 1) = 1001 ∧ la < 2 ^ 128 ∧ nr.length = N) := ⟨hpn, hfn, hfu, hla, hnr⟩
          have hpn0 : 0 < (pn : Int) := by
            have : 0 < PP.length := List.length_pos_iff.2 hPne
            omega
          have hpn1 : (pn : Int) ≤ 10000 := by have := HF0.out; omega
          have hfn1 : (fn : Int) ≤ 10000 := by have := HF0.out; omega
          clear hok' hok hR hpn hfn hla hnr hli hPP hPne hfu
          rcases hch : choose PP F with ⟨i, room⟩
          rw [hch] at C58 hok2 hR'
          cases room with
          | none =>
            simp only [optI] at C58
            have hRn : R = none := hR'
            clear hok2 hR' hch
            go_wp2_with (first | (go_at_call 58; refine Calls.mono C58.out ?_; rintro e w9 ⟨rfl, h9⟩) | go_in)
            refine bodyPost_ret (v := .tuple #[.slice none 0 0, .bool false]) ?_ rfl ?_
            · simp [results, Tryd.results41, go_sem]
            · rw [hRn]
              exact ⟨(HLr.out.under h9).tn, rfl⟩
          | some room =>
            simp only [optI] at C58
            simp only [Bool.and_eq_true, decide_eq_true_eq] at hok2
            obtain ⟨⟨⟨⟨⟨⟨k1, k2⟩, k3⟩, k4⟩, k5⟩, k6⟩, k7⟩ := hok2
            have hq : PP[i]? = some (PP.getD i ⟨0, 0⟩) := by rw [List.getD_eq_getElem?_getD, List.getElem?_eq_getElem k1]; rfl
            simp only [] at hR'
            generalize PP.getD i ⟨0, 0⟩ = q at *
            obtain ⟨qi, qf⟩ := q
            obtain ⟨o1, o2, o3, o4, o5, o6⟩ := pieceOk_out k3
            have C59 : Hid (∀ A, Below wr.heap.size wr A → Calls Tryd.prog 59 #[pv ⟨qi, qf⟩, sl bn N] A fun e w' => Nums A w' e (wayThrough nr ⟨qi, qf⟩)) := fun A hA => by
              have := way_call (p := ⟨qi, qf⟩) ((HLr.out.under hA).nr) (by have := HNM.out; omega) o1 o2 o3 o4 (by rw [HNM.out.2.2.2.2]; exact o5) (by rw [HNM.out.2.2.2.2]; exact o6) (HT.out.turns (HLr.out.under hA).tn (fun e => HBN.out.2 e.symm)) k4
              rw [HNM.out.2.2.2.2] at this
              exact this
            simp only at o1 o5
            have HQ : Hid (qi < 2 ^ 128 ∧ ∀ v, qi.testBit v = true → v < N) := ⟨o1, o5⟩
            generalize hway : wayThrough nr ⟨qi, qf⟩ = way at *
            have HWF : Hid (wayFits N F room way = true) := k5
            have HOK : Hid _ := k7
            have HRW : Hid _ := hR'
            have HK6 : Hid _ := k6
            have HK2 : Hid (room < F.length ∧ i < PP.length) := ⟨k2, k1⟩
            have PC : Hid (∀ A, Below wr.heap.size wr A → A.cell? ⟨gp, i * 4, none⟩ = some (.int .u64 (lo64 qi : Int)) ∧ A.cell? ⟨gp, i * 4 + 1, none⟩ = some (.int .u64 (hi64 qi : Int)) ∧ A.cell? ⟨gp, i * 4 + 2, none⟩ = some (.int .u64 (lo64 qf : Int)) ∧ A.cell? ⟨gp, i * 4 + 3, none⟩ = some (.int .u64 (hi64 qf : Int))) := fun A hA => (HLr.out.under hA).pcells (by rw [HNM.out.1]) i ⟨qi, qf⟩ hq
            have j1 : ¬ (room : Int) = -1 := by omega
            have j2 : ((room : Int) == -1) = false := by simp
            have j3 : (0 : Int) ≤ (i : Int) := by omega
            have j4 : (i : Int) < (pn : Int) := by have := HNM.out.1; omega
            have j5 : i ≤ 10000 := by omega
            clear k1 k2 k3 k4 k5 k6 k7 hR' hq hway hch o1 o2 o3 o4 o5 o6
            go_upto_region 17 with (first | (go_at_call 58; refine Calls.mono C58.out ?_; rintro e w9 ⟨rfl, h9⟩; obtain ⟨d0, d1, d2, d3⟩ := PC.out w9 h9) | fail)
            have x13 : PBox (w9.alloc (Obj.cells #[.int .u64 (lo64 qi : Int), .int .u64 (hi64 qi : Int), .int .u64 (lo64 qf : Int), .int .u64 (hi64 qf : Int)] 103)) w9.heap.size qi qf := heap_alloc_new _ _
            have hBa : Below wr.heap.size wr (w9.alloc (Obj.cells #[.int .u64 (lo64 qi : Int), .int .u64 (hi64 qi : Int), .int .u64 (lo64 qf : Int), .int .u64 (hi64 qf : Int)] 103)) := below_alloc h9 _
            have hsz : wr.heap.size ≤ w9.heap.size := h9.size
            generalize w9.alloc (Obj.cells #[.int .u64 (lo64 qi : Int), .int .u64 (hi64 qi : Int), .int .u64 (lo64 qf : Int), .int .u64 (hi64 qf : Int)] 103) = w10 at *
            generalize w9.heap.size = b13 at *
            have HX13 : Hid (PBox w10 b13 qi qf ∧ Below wr.heap.size wr w10 ∧ wr.heap.size ≤ b13) := ⟨x13, hBa, hsz⟩
            have C59' : Hid (Calls Tryd.prog 59 #[pv ⟨qi, qf⟩, sl bn N] w10 fun e w' => Nums w10 w' e way) := C59.out w10 hBa
            obtain ⟨d0, d1, d2, d3⟩ := pbox_cells x13
            obtain ⟨wl, hwl⟩ : ∃ n, n = way.length := ⟨_, rfl⟩
            clear x13 hBa hsz C59 h9
            have r1 : 2 ≤ wl := by have := (wayFits_out HWF.out).1; omega
            have r2 : wl ≤ 200 := by have := (wayFits_out HWF.out).2.1; omega
            have HWL : Hid (wl = way.length) := hwl
            have C59'' : Hid (Calls Tryd.prog 59 #[pv ⟨qi, qf⟩, sl bn N] w10 fun e w' => ∃ g c, e = .returned (.slice (some ⟨g, 0, none⟩) wl c) ∧ wl ≤ c ∧ w'.ownsRow w10.heap.size 3 1 (.slice (some ⟨g, 0, none⟩) wl c) wl (qv way) ∧ Below w10.heap.size w10 w') := C59'.out.mono fun e w' h => by
              obtain ⟨g, c, h1, h2, h3⟩ := h
              rw [hwl]
              exact ⟨g, c, h1, own_cap h2, h2, h3⟩
            clear hwl C59'
            obtain ⟨t, ht⟩ : ∃ t, wl = t + 2 := ⟨wl - 2, by omega⟩
            subst ht
            go_upto_region 19 with (first | (go_at_call 59; refine Calls.mono C59''.out ?_; rintro e w11 ⟨gw, wc, rfl, hwc, hrw, h11⟩; have k1 : (1 : Int) ≤ (t : Int) + 2 := (by omega); have k2 : ¬ wc = 1 := (by omega)) | fail)
            have HR11 : Hid (NumL w11 gw 0 way ∧ gw < w11.heap.size ∧ w10.heap.size ≤ gw) := ⟨own_numL (c := wc) (by rw [← HWL.out]; exact hrw), (hrw.lt gw rfl).2, (hrw.lt gw rfl).1⟩
            have HB11 : Hid (Below w10.heap.size w10 w11) := h11
            clear hrw h11 C59'' C58 PC d0 d1 d2 d3 k1 k2
            generalize wr = wa at *
            have HLI11 : Hid (LI w w11 bn b e1 e2 nr la (Value.slice (some ⟨gf, 0, none⟩) fn fc) (Value.slice (some ⟨gp, 0, none⟩) pn pc) H F PP) := HLr.out.under (below_next HX13.out.2.1 HB11.out)
            go_loopw [72] (fun s72 wz => ∃ (k : Nat) (cur : List Nat), k ≤ t + 1 ∧ s72 = .int .i64 (k : Int) ∧ SetsAt wz bn cur ∧ cur.length = N ∧ partWay cur (way.drop k) = partWay nr way ∧ Turns (fun k => k = bn) w11 wz) (fun s72 _ => t + 1 - (numOf s72).toNat)
            case atStart => exact ⟨0, nr, Nat.zero_le _, rfl, HLI11.out.nr, HNM.out.2.2.2.2, rfl, Turns.refl _ _⟩
            case round =>
              obtain ⟨k', cur, hk', rfl, hsc, hcl, hpw, htc⟩ := hrel
              by_cases hlt : k' < t + 1
              · obtain ⟨x, y, rst, hdr⟩ : ∃ x y rst, way.drop k' = x :: y :: rst := by
                  have : (way.drop k').length = t + 2 - k' := by rw [List.length_drop, ← HWL.out]
                  match hd : way.drop k', this with
                  | [], h => simp at h; omega
                  | [_], h => simp at h; omega
                  | x :: y :: rst, _ => exact ⟨x, y, rst, rfl⟩
                have hx : way[k']? = some x := by
                  have := congrArg (fun l => l[0]?) hdr
                  simpa [List.getElem?_drop] using this
                have hy : way[k' + 1]? = some y := by
                  have := congrArg (fun l => l[1]?) hdr
                  simpa [List.getElem?_drop] using this
                have hdr1 : way.drop (k' + 1) = y :: rst := by
                  have := congrArg (List.drop 1) hdr
                  simpa [List.drop_drop, Nat.add_comm] using this
                have hxN := (wayFits_out HWF.out).2.2.1 x (List.mem_of_getElem? hx)
                have hyN := (wayFits_out HWF.out).2.2.1 y (List.mem_of_getElem? hy)
                have hnl := HR11.out.1.turns htc (by have := HR11.out.2.2; have := HX13.out.1; have := HBN.out.1; have := HWB.out; have := HLr.out.sz; have := HX13.out.2.1.size; omega)
                have cx := cell_growD (hnl k' x hx)
                have cy := cell_growD (hnl (k' + 1) y hy)
                rw [Nat.zero_add] at cx cy
                have C54 : Hid (∀ A, Below wr.heap.size wr A → Calls Tryd.prog 54 #[sl bn N, .int .i64 (x : Int), .int .i64 (y : Int)] A fun e w' => e = .returned (.tuple #[]) ∧ SetsAt w' bn (part cur x y) ∧ Turns (fun k => k = bn) A w') := fun A hA => by
                  have := part_call (u := x) (v := y) (hsc.under hA) (by omega) (by omega) (by omega)
                  rw [hcl] at this
                  exact this
                have HPW : Hid (partWay (part cur x y) (way.drop (k' + 1)) = partWay nr way ∧ (part cur x y).length = N) := ⟨by rw [← hpw, hdr, hdr1]; rfl, by rw [part_len]; exact hcl⟩
                have HTC : Hid (Turns (fun k => k = bn) w11 wr) := htc
                have q1 : (0 : Int) ≤ (k' : Int) := by omega
                have q2 : (k' : Int) < (t : Int) + 2 := by omega
                have q3 : (0 : Int) ≤ (k' : Int) + 1 := by omega
                have q4 : (k' : Int) + 1 < (t : Int) + 2 := by omega
                have q5 : ((k' : Int) + 1).toNat = k' + 1 := by omega
                have q6 : IntKind.i64.wrap ((k' : Int) + 1) = (k' : Int) + 1 := by rw [IntKind.wrap_i64]; omega
                have q7 : (k' : Int) < (t : Int) + 1 := by omega
                clear hsc hcl hpw htc hdr hx hy hdr1 hxN hyN hnl
                go_upto_region 21 with (fail)
                refine wp_region_tailT 10 (by kernel_rfl) (by kernel_rfl) (by kernel_rfl) (by decide) ?_
                simp only [List.take_succ_cons, List.take_zero, List.drop_succ_cons, List.drop_zero]
                repeat (quiet_step (fail))
                refine wpQuiet_nil ?_
                rintro _ ⟨gq, rfl⟩
                have hB3 := growD_below wr gq
                clear cx cy
                generalize growD wr gq = w12 at *
                have C54' : Hid (Calls Tryd.prog 54 #[sl bn N, .int .i64 (x : Int), .int .i64 (y : Int)] w12 fun e w' => e = .returned (.tuple #[]) ∧ SetsAt w' bn (part cur x y) ∧ Turns (fun k => k = bn) w12 w') := C54.out w12 hB3
                have HB12 : Hid (Below wr.heap.size wr w12) := hB3
                clear hB3
                go_wp2_with (first | (go_at_call 54; refine Calls.mono C54'.out ?_; rintro e w13 ⟨rfl, hs13, t13⟩) | go_in)
                go_roundw
                case rel => exact ⟨k' + 1, part cur x y, by omega, by go_num, hs13, HPW.out.2, HPW.out.1, (HTC.out.trans (Turns.of_below HB12.out _)).trans t13⟩
                case measure => simp [numOf]; omega
              · have hkt : k' = t + 1 := by omega
                have hcur : cur = partWay nr way := by
                  rw [hkt] at hpw
                  have : (way.drop (t + 1)).length = 1 := by rw [List.length_drop, ← HWL.out]; omega
                  match hd : way.drop (t + 1), this with
                  | [x], _ => rw [hd] at hpw; exact hpw
                have HLI12 : Hid (LI w wr bn b e1 e2 cur la (Value.slice (some ⟨gf, 0, none⟩) fn fc) (Value.slice (some ⟨gp, 0, none⟩) pn pc) H F PP) := HLI11.out.near' (by have := HBN.out.1; have := HWB.out; omega) hsc htc
                have HCU : Hid (cur = partWay nr way ∧ cur.length = N) := ⟨hcur, hcl⟩
                have HNW : Hid (NumL wr gw 0 way ∧ gw < wr.heap.size ∧ w10.heap.size ≤ gw) := ⟨HR11.out.1.turns htc (by have := HR11.out.2.2; have := HX13.out.1; have := HBN.out.1; have := HWB.out; have := HLr.out.sz; have := HX13.out.2.1.size; omega), by have := htc.size; have := HR11.out.2.1; omega, HR11.out.2.2⟩
                have HX12 : Hid (PBox wr b13 qi qf) := box_turns ((HB11.out.block _ (lt_of_block HX13.out.1)).trans HX13.out.1) htc (by have := HX13.out.2.2; have := HBN.out.1; have := HWB.out; have := HLr.out.sz; omega)
                have q7 : ¬ (k' : Int) < (t : Int) + 1 := by omega
                clear hkt hcur hsc hcl hpw htc
                obtain ⟨hw1, hw2, hw3, hw4, hw5, hw6⟩ := wayFits_out HWF.out
                have C60 : Hid (Calls Tryd.prog 60 #[Value.slice (some ⟨gf, 0, none⟩) fn fc, .int .i64 (room : Int), .slice (some ⟨gw, 0, none⟩) (t + 2) wc] wr fun e w' => ∃ x' H', e = .returned x' ∧ FRow w' b x' H' (cross F room way) ∧ Turns (fun k => (Value.slice (some ⟨gf, 0, none⟩) fn fc).ownBlock = some k) wr w' ∧ (∀ g, x'.ownBlock = some g → (Value.slice (some ⟨gf, 0, none⟩) fn fc).ownBlock = some g ∨ wr.heap.size ≤ g) ∧ (∀ hv ∈ H', hv ∈ H ∨ ∀ g, hv.ownBlock = some g → wr.heap.size ≤ g)) := by
                  have := cross_call (way := way) (wc := wc) (gw := gw) HLI12.out.fr (by have := HLI12.out.sz; omega) HK2.out.1 (by have := HF0.out; omega) HNW.out.1 ⟨HNW.out.2.1, fun e => by
                    have h9 : gf = gw := by simpa [Value.ownBlock] using e
                    have := (HLr.out.fr.row.lt gf rfl).2
                    have := HNW.out.2.2
                    have := HX13.out.2.1.size
                    omega⟩ hw1 hw2 (by rw [← HWL.out]; exact hwc) hw4 hw5 hw6
                  rw [← HWL.out] at this
                  exact this
                clear hw1 hw2 hw4 hw5 hw6
                have HW3 : Hid (∀ v ∈ way, v < N) := hw3
                clear hw3
                obtain ⟨m, hm⟩ : ∃ m, pn = m + 1 := ⟨pn - 1, by omega⟩
                subst hm
                have u1 : (t : Int) + 2 - 1 = (t : Int) + 1 := by omega
                have u2 : (t : Int) + 1 ≤ (wc : Int) := by omega
                have u3 : ¬ wc = 1 := by omega
                have u4 : (1 : Int) ≤ (t : Int) + 1 := by omega
                have u5 : t + 1 - 1 = t := by omega
                go_upto_region 25 with (first | (go_at_call 60; refine Calls.mono C60.out ?_; rintro e w14 ⟨fx, H', rfl, hf14, t14, hx14, hH14⟩) | fail)
                have HLI14 : Hid (LI w w14 bn b e1 e2 cur la fx (Value.slice (some ⟨gp, 0, none⟩) (m + 1) pc) H' (cross F room way) PP) := HLI12.out.faces' (by have := HBN.out.1; have := HWB.out; omega) (by have := HWB.out; omega) hf14 t14 hx14 hH14
                have hgf : gf < wa.heap.size := (HLr.out.fr.row.lt gf rfl).2
                have HNW14 : Hid (NumL w14 gw 0 way ∧ gw < w14.heap.size ∧ gp < gw) := ⟨HNW.out.1.turns t14 (fun e => by
                    have h9 : gf = gw := by simpa [Value.ownBlock] using e
                    have := HNW.out.2.2
                    have := HX13.out.2.1.size
                    omega), by have := HNW.out.2.1; have := t14.size; omega, by have := (HLr.out.pr.lt gp rfl).2; have := HNW.out.2.2; have := HX13.out.2.1.size; omega⟩
                have HX14 : Hid (PBox w14 b13 qi qf) := box_turns HX12.out t14 (fun e => by
                    have h9 : gf = b13 := by simpa [Value.ownBlock] using e
                    have := HX13.out.2.2
                    omega)
                have HG13 : Hid (gp < b13 ∧ b + 1 < b13) := ⟨by have := (HLr.out.pr.lt gp rfl).2; have := HX13.out.2.2; omega, by have := HLr.out.sz; have := HX13.out.2.2; omega⟩
                have C61 : Hid (Calls Tryd.prog 61 #[.slice (some ⟨gp, 0, none⟩) (m + 1) pc, .int .i64 (i : Int), .int .i64 ((i : Int) + 1)] w14 fun e w' => e = .returned (.slice (some ⟨gp, 0, none⟩) m pc) ∧ PRow w' (b + 3) (.slice (some ⟨gp, 0, none⟩) m pc) (PP.eraseIdx i) ∧ Turns (fun k => k = gp) w14 w') := deleteP_call HLI14.out.pr HNM.out.1.symm (by omega) (by omega)
                clear hf14 t14 hx14 hH14 C60 hgf
                go_upto_region 26 with (first | (go_at_call 61; refine Calls.mono C61.out ?_; rintro e w15 ⟨rfl, hp15, t15⟩) | fail)
                have HLI15 : Hid (LI w w15 bn b e1 e2 cur la fx (Value.slice (some ⟨gp, 0, none⟩) m pc) H' (cross F room way) (PP.eraseIdx i)) := HLI14.out.pieces' (by have := HBN.out.1; have := HWB.out; omega) (by have := HWB.out; omega) (Below.refl _ _) hp15 (t15.mono (fun k _ e => by rw [e]; rfl)) (fun g hg => Or.inl hg)
                have HNW15 : Hid (NumL w15 gw 1 (inside way) ∧ gw < w15.heap.size) := ⟨by
                    have h8 := HNW14.out.1.turns t15 (by have := HNW14.out.2.2; omega)
                    have : inside way = (way.take (way.length - 1)).drop 1 := by
                      unfold inside
                      rw [List.dropLast_eq_take, List.length_drop, List.drop_take]
                    rw [this]
                    have h9 := (h8.take (way.length - 1)).drop 1
                    rwa [Nat.zero_add] at h9, by have := HNW14.out.2.1; have := t15.size; omega⟩
                have HX15 : Hid (PBox w15 b13 qi qf) := box_turns HX14.out t15 (by have := HG13.out; omega)
                have HIL : Hid ((inside way).length = t ∧ ∀ x ∈ inside way, x < N) := ⟨by unfold inside; simp; have := HWL.out; omega, fun x hx => HW3.out x (by
                    unfold inside at hx
                    exact List.mem_of_mem_drop ((List.dropLast_sublist _).subset hx))⟩
                clear hp15 t15 C61
                obtain ⟨fs, hfs⟩ : ∃ fs, fs = setOf (inside way) := ⟨_, rfl⟩
                obtain ⟨rs, hrs⟩ : ∃ rs, rs = sLess qi fs := ⟨_, rfl⟩
                obtain ⟨NP, hNP⟩ : ∃ NP, NP = piecesOf cur la (inside way) rs := ⟨_, rfl⟩
                have hfs128 : fs < 2 ^ 128 := by rw [hfs]; exact setOf_lt (fun x hx => by have := HIL.out.2 x hx; omega)
                have HFS : Hid (fs = setOf (inside way) ∧ fs < 2 ^ 128) := ⟨hfs, hfs128⟩
                have HRS2 : Hid (rs = sLess qi fs ∧ rs < 2 ^ 128 ∧ ∀ v, rs.testBit v = true → v < N) := ⟨hrs, by rw [hrs]; exact less_lt HQ.out.1, fun v hv => by rw [hrs, bit_less] at hv; exact HQ.out.2 v (Bool.and_eq_true_iff.1 hv).1⟩
                have HNP : Hid (NP = piecesOf cur la (inside way) rs ∧ NP.length ≤ 10000) := ⟨hNP, by
                  rw [hNP, HRS2.out.1, HFS.out.1, HCU.out.1]; exact HK6.out⟩
                have C56 : Hid (∀ A, Below w15.heap.size w15 A → Calls Tryd.prog 56 #[.slice (some ⟨gw, 1, none⟩) t (wc - 1)] A fun e w' => e = .returned (sv fs) ∧ Below A.heap.size A w') := fun A hA => by
                  have := setOf_call (cap := wc - 1) (HNW15.out.1.under hA HNW15.out.2) (fun x hx => by have := HIL.out.2 x hx; omega) (by have := HIL.out.1; omega)
                  rw [HIL.out.1, ← hfs] at this
                  exact this
                have C62 : Hid (∀ A : World, Calls Tryd.prog 62 #[sv qi, sv fs] A fun e w' => e = .returned (sv rs) ∧ Below A.heap.size A w') := fun A => by rw [hrs]; exact less_call HQ.out.1 hfs128
                have C55 : Hid (∀ A, Below w15.heap.size w15 A → Calls Tryd.prog 55 #[sl bn N, sv la, .slice (some ⟨gw, 1, none⟩) t (wc - 1), sv rs] A fun e w' => ∃ x, e = .returned x ∧ PRow w' w15.heap.size x NP ∧ Below A.heap.size A w') := fun A hA => by
                  have := piecesOf_call (near := cur) (laid := la) (bf := gw) (off := 1) (cap := wc - 1) (fresh := inside way) (rest := rs) ((HLI15.out.under hA).nr) (by have := HCU.out.2; omega) HNM.out.2.2.2.1 HRS2.out.2.1 (by rw [HCU.out.2]; exact HRS2.out.2.2) (HNW15.out.1.under hA HNW15.out.2) (by rw [HCU.out.2]; exact HIL.out.2) (by have := HIL.out.1; omega) (HT.out.turns (HLI15.out.under hA).tn (fun e => HBN.out.2 e.symm))
                  rw [HCU.out.2, HIL.out.1, ← hNP] at this
                  exact this.mono fun e w' ⟨x, h1, h2, h3⟩ => ⟨x, h1, ownsRow_base h2 hA.size, h3⟩
                have HCELL : Hid (∀ A, Below w15.heap.size w15 A → A.cell? ⟨b + 1, 0, none⟩ = some (.int .u64 (lo64 la : Int)) ∧ A.cell? ⟨b + 1, 1, none⟩ = some (.int .u64 (hi64 la : Int)) ∧ A.cell? ⟨b13, 0, none⟩ = some (.int .u64 (lo64 qi : Int)) ∧ A.cell? ⟨b13, 1, none⟩ = some (.int .u64 (hi64 qi : Int))) := fun A hA =>
                  ⟨(cell_two (HLI15.out.under hA).la).1, (cell_two (HLI15.out.under hA).la).2, (pbox_cells ((hA.block _ (lt_of_block HX15.out)).trans HX15.out)).1, (pbox_cells ((hA.block _ (lt_of_block HX15.out)).trans HX15.out)).2.1⟩
                have hRst : ∀ (x : Value) (w w' : World), PRow w w15.heap.size x NP → Below w.heap.size w w' → PRow w' w15.heap.size x NP := fun x w w' h hb => ownsRow_blocks h (fun g hg => hb.block g (h.lt g hg).2)
                clear hfs hrs hNP hfs128
                refine wp_A26 ?_
                intro h0 f0 hf0
                refine region_invC (J := fun L a w => ∃ f, a = A26 bn N e1 e2 b k z s laid g0 b13 gw t (wc - 1) px fx u8 u21 u22 u23 u24 u25 u26 u27 u28 u29 u30 u31 u32 u33 u34 h0 f ∧ SB w15 9 (V26 gp m pc bn N la gw t (wc - 1) b13 qi fs rs) (.slice (some ⟨gp, 0, none⟩) m pc) (fun x w => PRow w w15.heap.size x NP) (fun x w => ∃ wy, Below w15.heap.size w15 wy ∧ PRow w (b + 3) x (PP.eraseIdx i ++ NP) ∧ wy.grownBy w (some gp) ∧ ∀ g, x.ownBlock = some g → some gp = some g ∨ wy.heap.size ≤ g) L f w) (by kernel_rfl) (by kernel_rfl) ⟨f0, rfl, SB.start hf0⟩ ?_ ?_
                · intro j o hj M a' w1 hJ hLi hd hc
                  obtain ⟨f, rfl, hS⟩ := hJ
                  match j, hj with
                  | 0, hj =>
                    cases hj
                    have d := hS.old (hS.open2 (hS.open_ hLi (by omega)))
                    refine wpOp_value rfl rfl (v := (V26 gp m pc bn N la gw t (wc - 1) b13 qi fs rs) 0) (w' := w1) ?_ ⟨updV f 0 _, rfl, hS.put hRst hLi (by omega) (Below.refl _ _)⟩
                    simp [go_sem, A26, V26, Act.eval, d]
                  | 1, hj =>
                    cases hj
                    refine wpOp_value rfl rfl (v := (V26 gp m pc bn N la gw t (wc - 1) b13 qi fs rs) 1) (w' := w1) ?_ ⟨updV f 1 _, rfl, hS.put hRst hLi (by omega) (Below.refl _ _)⟩
                    simp [go_sem, A26, V26, Act.eval]
                  | 2, hj =>
                    cases hj
                    obtain ⟨e1', e2', e3', e4'⟩ := HCELL.out _ (hS.early hLi (by omega))
                    refine wpOp_value rfl rfl (v := (V26 gp m pc bn N la gw t (wc - 1) b13 qi fs rs) 2) (w' := w1) ?_ ⟨updV f 2 _, rfl, hS.put hRst hLi (by omega) (Below.refl _ _)⟩
                    simp [go_sem, A26, V26, Act.eval, e1', e2']
                  | 3, hj =>
                    cases hj
                    refine wpOp_value rfl rfl (v := (V26 gp m pc bn N la gw t (wc - 1) b13 qi fs rs) 3) (w' := w1) ?_ ⟨updV f 3 _, rfl, hS.put hRst hLi (by omega) (Below.refl _ _)⟩
                    simp [go_sem, A26, V26, Act.eval]
                  | 4, hj =>
                    cases hj
                    refine wpOp_value rfl rfl (v := (V26 gp m pc bn N la gw t (wc - 1) b13 qi fs rs) 4) (w' := w1) ?_ ⟨updV f 4 _, rfl, hS.put hRst hLi (by omega) (Below.refl _ _)⟩
                    simp [go_sem, A26, V26, Act.eval]
                  | 5, hj =>
                    cases hj
                    obtain ⟨e1', e2', e3', e4'⟩ := HCELL.out _ (hS.early hLi (by omega))
                    have d4 := hS.told 4 (by omega) (hd ⟨4, .data⟩ (by simp) rfl)
                    refine wpOp_value rfl rfl (v := (V26 gp m pc bn N la gw t (wc - 1) b13 qi fs rs) 5) (w' := w1) ?_ ⟨updV f 5 _, rfl, hS.put hRst hLi (by omega) (Below.refl _ _)⟩
                    simp [go_sem, A26, V26, Act.eval, d4, e3', e4']
                  | 6, hj =>
                    cases hj
                    refine wpOp_value rfl rfl (v := (V26 gp m pc bn N la gw t (wc - 1) b13 qi fs rs) 6) (w' := w1) ?_ ⟨updV f 6 _, rfl, hS.put hRst hLi (by omega) (Below.refl _ _)⟩
                    simp [go_sem, A26, V26, Act.eval]
                  | 7, hj =>
                    cases hj
                    have d6 := hS.told 6 (by omega) (hd ⟨6, .data⟩ (by simp) rfl)
                    refine wpOp_call (f := 56) (args := #[.slice (some ⟨gw, 1, none⟩) t (wc - 1)]) rfl rfl (w' := w1) ?_ ?_
                    · simp [go_sem, A26, V26, Act.eval, d6]
                    · refine (C56.out w1 (hS.early hLi (by omega))).mono ?_
                      rintro e w3 ⟨rfl, hB3⟩
                      exact ⟨_, rfl, updV f 7 _, rfl, hS.put hRst hLi (by omega) hB3⟩
                  | 8, hj =>
                    cases hj
                    have d5 := hS.told 5 (by omega) (hd ⟨5, .data⟩ (by simp) rfl)
                    have d7 := hS.told 7 (by omega) (hd ⟨7, .data⟩ (by simp) rfl)
                    refine wpOp_call (f := 62) (args := #[sv qi, sv fs]) rfl rfl (w' := w1) ?_ ?_
                    · simp [go_sem, A26, V26, Act.eval, d5, d7]
                    · refine (C62.out w1).mono ?_
                      rintro e w3 ⟨rfl, hB3⟩
                      exact ⟨_, rfl, updV f 8 _, rfl, hS.put hRst hLi (by omega) hB3⟩
                  | 9, hj =>
                    cases hj
                    have d1 := hS.told 1 (by omega) (hd ⟨1, .data⟩ (by simp) rfl)
                    have d2 := hS.told 2 (by omega) (hd ⟨2, .data⟩ (by simp) rfl)
                    have d3 := hS.told 3 (by omega) (hd ⟨3, .data⟩ (by simp) rfl)
                    have d8 := hS.told 8 (by omega) (hd ⟨8, .data⟩ (by simp) rfl)
                    refine wpOp_call (f := 55) (args := #[sl bn N, sv la, .slice (some ⟨gw, 1, none⟩) t (wc - 1), sv rs]) rfl rfl (w' := w1) ?_ ?_
                    · simp [go_sem, A26, V26, Act.eval, d1, d2, d3, d8]
                    · refine (C55.out w1 (hS.early hLi (by omega))).mono ?_
                      rintro e w3 ⟨y, rfl, hy, hB3⟩
                      exact ⟨_, rfl, updV f 9 _, rfl, hS.call hLi hB3 hy⟩
                  | 10, hj =>
                    cases hj
                    have k0 := hd ⟨0, .data⟩ (by simp) rfl
                    have k9 := hd ⟨9, .data⟩ (by simp) rfl
                    have k1 := hc 9 _ rfl k9 ⟨1, .data⟩ (by simp) rfl
                    have k2 := hc 9 _ rfl k9 ⟨2, .data⟩ (by simp) rfl
                    have k3 := hc 9 _ rfl k9 ⟨3, .data⟩ (by simp) rfl
                    have k8 := hc 9 _ rfl k9 ⟨8, .data⟩ (by simp) rfl
                    have k5 := hc 8 _ rfl k8 ⟨5, .data⟩ (by simp) rfl
                    have k7 := hc 8 _ rfl k8 ⟨7, .data⟩ (by simp) rfl
                    have k4 := hc 5 _ rfl k5 ⟨4, .data⟩ (by simp) rfl
                    have k6 := hc 7 _ rfl k7 ⟨6, .data⟩ (by simp) rfl
                    have hall : ∀ j, j < 10 → M j = true := fun j hj => by
                      have : j = 0 ∨ j = 1 ∨ j = 2 ∨ j = 3 ∨ j = 4 ∨ j = 5 ∨ j = 6 ∨ j = 7 ∨ j = 8 ∨ j = 9 := by omega
                      rcases this with rfl | rfl | rfl | rfl | rfl | rfl | rfl | rfl | rfl | rfl <;> assumption
                    have d0 := hS.told 0 (by omega) k0
                    have hr9 := hS.rm k9 hLi
                    have hb1 := hS.w0 hLi
                    have hLI1 := HLI15.out.under hb1
                    obtain ⟨zz, w', hr, h2, h3, h4⟩ := run_appP (ty := 96) hLI1.pr hr9 (by rw [List.length_eraseIdx]; have := HF0.out; split <;> omega) (by have := HNP.out.2; omega) (by have := hLI1.sz; omega)
                    refine wpOp_append rfl rfl _ _ 96 rfl (v := .slice (some ⟨gp, 0, none⟩) m pc) (y := f 9) (z := zz) (w' := w') ?_ ?_ hr ⟨updV f 10 _, rfl, hS.app hLi hall ⟨w1, hb1, h2, h3, h4⟩⟩
                    · simp [A26, V26, Act.eval, d0]
                    · simp [A26, Act.eval]
                  | 11, hj =>
                    cases hj
                    have k10 := hd ⟨10, .data⟩ (by simp) rfl
                    refine wpOp_value rfl rfl (v := f 10) (w' := w1) ?_ ⟨updV f 11 _, rfl, hS.asg k10⟩
                    simp [go_sem, A26, Act.eval]
                  | j + 12, hj => cases hj
                · intro M a' w1 hJ hall
                  obtain ⟨f, rfl, hS⟩ := hJ
                  obtain ⟨wy, hby, hpz, hgz, hgz2⟩ := hS.zm (hall 10 (by simp))
                  have e11 : f 11 = f 10 := (hS.sa (hall 11 (by simp))).2
                  have HLI16 : Hid (LI w w1 bn b e1 e2 cur la fx (f 10) H' (cross F room way) (PP.eraseIdx i ++ NP)) := HLI15.out.pieces' (by have := HBN.out.1; have := HWB.out; omega) (by have := HWB.out; omega) hby hpz ((Turns.of_grown hgz).mono (fun k _ e => e.symm)) hgz2
                  have HNW16 : Hid (NumL w1 gw 1 (inside way) ∧ gw < w1.heap.size) := ⟨(HNW15.out.1.under hby HNW15.out.2).turns (Turns.of_grown hgz) (fun e => by
                      have h9 : gw = gp := by simpa using e
                      have := HNW14.out.2.2
                      omega), by have := HNW15.out.2; have := hby.size; have := hgz.size; omega⟩
                  have HFXL : Hid (lenV fx = fn + 1) := by
                    obtain ⟨gf', fc', hfx, _⟩ := HLI16.out.fr.form (by rw [cross_len]; omega)
                    rw [hfx]
                    show (cross F room way).length = _
                    rw [cross_len]
                    have := HNM.out.2.1
                    omega
                  dsimp only [A26]
                  rw [e11]
                  generalize f 10 = pz at *
                  clear hpz hgz hgz2 hby e11 hS hall hf0 hRst HCELL C55 C62
                  obtain ⟨l0, l1⟩ := cell_two HLI16.out.la
                  have g0' := cell_growD l0
                  have g1' := cell_growD l1
                  have Q56 : Hid (∀ A, Below w1.heap.size w1 A → Calls Tryd.prog 56 #[.slice (some ⟨gw, 1, none⟩) t (wc - 1)] A fun e w' => e = .returned (sv fs) ∧ Below A.heap.size A w') := fun A hA => by
                    have := setOf_call (cap := wc - 1) (HNW16.out.1.under hA HNW16.out.2) (fun x hx => by have := HIL.out.2 x hx; omega) (by have := HIL.out.1; omega)
                    rw [HIL.out.1, ← HFS.out.1] at this
                    exact this
                  obtain ⟨ln, hln⟩ : ∃ ln, ln = la ||| fs := ⟨_, rfl⟩
                  have Q63 : Hid (∀ A, Below w1.heap.size w1 A → Calls Tryd.prog 63 #[sv la, sv fs] A fun e w' => e = .returned (sv ln) ∧ Below A.heap.size A w') := fun A _ => by rw [hln]; exact either_call HNM.out.2.2.2.1 HFS.out.2
                  have HLN : Hid (ln = la ||| fs) := hln
                  clear hln C56 l0 l1
                  go_upto_region 27 with (fail)
                  refine wp_region_tailT 4 (by kernel_rfl) (by kernel_rfl) (by kernel_rfl) (by decide) ?_
                  simp only [List.take_succ_cons, List.take_zero, List.drop_succ_cons, List.drop_zero]
                  repeat (quiet_step (first | (go_at_call 56; exact Calls.belowQ (fun W hW => Q56.out W hW)) | (go_at_call 63; exact Calls.belowQ (fun W hW => Q63.out W hW))))
                  refine wpQuiet_nil ?_
                  rintro _ ⟨gq, rfl⟩
                  have hB3 := growD_below w1 gq
                  clear g0' g1'
                  generalize growD w1 gq = w17 at *
                  have HLI17 : Hid _ := HLI16.out.under hB3
                  have x6 := HLI17.out.la
                  obtain ⟨c0, c1⟩ := cell_two x6
                  have f0' := box_free x6 0
                  have f1' := box_free x6 1
                  have bx1 := box_set x6 0 (.int .u64 (lo64 ln : Int))
                  have q1 := box_cell bx1 (i := 1) rfl
                  have f2' := box_free bx1 1
                  have HL18 : Hid (LI w ((w17.setCell ⟨b + 1, 0, none⟩ (.int .u64 (lo64 ln : Int))).setCell ⟨b + 1, 1, none⟩ (.int .u64 (hi64 ln : Int))) bn b e1 e2 cur ln fx pz H' (cross F room way) (PP.eraseIdx i ++ NP)) := HLI17.out.laid' (by have := HBN.out.1; have := HWB.out; omega) (by have := HWB.out; omega) (two_setN x6) ((setCell_turns w17 (b + 1) 0 _).trans (setCell_turns _ (b + 1) 1 _))
                  clear hB3
                  go_wp2
                  go_roundw
                  case rel =>
                    refine ⟨fu, cur, ln, H', _, _, HL18.out, by rw [HLN.out]; exact Nat.or_lt_two_pow HNM.out.2.2.2.1 HFS.out.2, HCU.out.2, by rw [cross_len]; have := HNM.out; omega, by rw [cross_len]; omega, ?_, ?_⟩
                    · rw [HNP.out.1, HRS2.out.1, HLN.out, HFS.out.1, HCU.out.1]
                      exact HRW.out
                    · rw [HNP.out.1, HRS2.out.1, HLN.out, HFS.out.1, HCU.out.1]
                      exact HOK.out
                  case measure =>
                    rw [HFXL.out]
                    show _ < 1001 - fn
                    have := HNM.out
                    omega
end Go.Proofs.YtekokjechbibdaaDoor
