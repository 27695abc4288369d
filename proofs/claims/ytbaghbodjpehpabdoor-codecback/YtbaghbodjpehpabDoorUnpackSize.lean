/- unpackSize of package codec. -/
import Derived.Test.YtbaghbodjpehpabDoorStops
import Derived.Laws.BitsAllLaws
namespace Go.Proofs.YtbaghbodjpehpabDoor
open Go.RowKit Go.Maps
attribute [local go_sem ↓] Go.wp_at_zero Go.wp_at_succ

theorem ret_two {a b a' b' : Int} (h : a = a') (h' : b = b') : Ending.returned (.tuple #[.int .i64 a, .int .i64 b]) = .returned (.tuple #[.int .i64 a', .int .i64 b']) := by rw [h, h']

set_option maxHeartbeats 400000 in
theorem unpackSize_nil (s : ByteArray) (w : World) (hs : s.size = 0) : Calls Tryd.prog 18 #[.string s] w fun e w' => e = gaveUp 1 0 ∧ w' = w := by
  obtain rfl : s = ByteArray.mk #[] := by
    apply ByteArray.ext
    exact Array.eq_empty_of_size_eq_zero hs
  go_enter Tryd.func18, Tryd.ntmps18
  go_wp2_with (go_at_call 32; refine (giveUp_any _ _ _).mono ?_; rintro e w' ⟨rfl, rfl⟩)
  exact ⟨rfl, rfl, rfl⟩

theorem ne_empty {s : ByteArray} (h : 0 < s.size) : s.toList.isEmpty = false := by
  rw [ByteArray.toList_eq]
  have hl : s.data.toList.length = s.size := Array.length_toList
  cases e : s.data.toList with
  | nil => rw [e] at hl; simp at hl; omega
  | cons _ _ => rfl

set_option maxHeartbeats 400000 in
theorem unpackSize_short (s : ByteArray) (w : World) (hs : 0 < s.size) (h0 : 63 ≤ s[0].toNat) (h1 : s[0].toNat ≤ 125) : Calls Tryd.prog 18 #[.string s] w fun e w' => e = .returned (.tuple #[.int .i64 (s[0].toNat - 63 : Nat), .int .i64 1]) ∧ w' = w := by
  have he := ne_empty hs
  have g1 : ((s[0].toNat : Int) != 126) = true := by simp; omega
  go_enter Tryd.func18, Tryd.ntmps18
  go_wp2
  go_ret2
  exact ⟨ret_two (by omega) rfl, rfl⟩

set_option maxHeartbeats 400000 in
theorem unpackSize_cut (s : ByteArray) (w : World) (hs : 0 < s.size) (hl : s.size < 4) (h0 : s[0].toNat = 126) : Calls Tryd.prog 18 #[.string s] w fun e w' => e = gaveUp 1 s.size ∧ w' = w := by
  have he := ne_empty hs
  have g1 : ((s[0].toNat : Int) != 126) = false := by simp; omega
  have g2 : (s.size : Int) < 4 := by omega
  go_enter Tryd.func18, Tryd.ntmps18
  go_wp2_with (go_at_call 32; refine (giveUp_any _ _ _).mono ?_; rintro e w' ⟨rfl, rfl⟩)
  exact ⟨rfl, rfl, rfl⟩

theorem or64 (a x : Nat) (ha : a < 262144) (hx : x < 64) : bits .or .i64 ((a * 64 : Nat) : Int) (x : Int) = ((a * 64 + x : Nat) : Int) := by
  have h1 : a * 64 ||| x = a * 64 + x := by
    have := Nat.shiftLeft_add_eq_or_of_lt (i := 6) (b := x) (by omega) a
    rw [Nat.shiftLeft_eq] at this
    exact this.symm
  show IntKind.i64.wrap ((BitVec.ofInt 64 ((a * 64 : Nat) : Int) ||| BitVec.ofInt 64 (x : Int)).toNat : Int) = _
  rw [BitVec.toNat_or, BitVec.ofInt_natCast, BitVec.ofInt_natCast, BitVec.toNat_ofNat, BitVec.toNat_ofNat, Nat.mod_eq_of_lt (by omega), Nat.mod_eq_of_lt (by omega), h1, IntKind.wrap_i64]
  omega
theorem step64 {a x : Nat} {A y : Int} (ha : a < 262144) (hx : x ≤ 126) (h63 : 63 ≤ x) (hA : A = (a : Int) * 64) (hy : y = (x : Int) - 63) : Value.int .i64 (bits .or .i64 A y) = .int .i64 ((a * 64 + (x - 63) : Nat) : Int) := by
  have e1 : A = ((a * 64 : Nat) : Int) := by omega
  have e2 : y = ((x - 63 : Nat) : Int) := by omega
  rw [e1, e2, or64 a (x - 63) ha (by omega)]

def sz (x y z : Nat) : Nat → Nat
  | 0 => 0
  | 1 => x - 63
  | 2 => (x - 63) * 64 + (y - 63)
  | _ => ((x - 63) * 64 + (y - 63)) * 64 + (z - 63)

set_option maxHeartbeats 1000000 in
theorem unpackSize_long (s : ByteArray) (w : World) (hs : 4 ≤ s.size) (hl : s.size ≤ 20000) (h0 : s[0].toNat = 126) {x y z : Nat} (h1 : s[1].toNat = x) (h2 : s[2].toNat = y) (h3 : s[3].toNat = z) (hx : 63 ≤ x ∧ x ≤ 126) (hy : 63 ≤ y ∧ y ≤ 126) (hz : 63 ≤ z ∧ z ≤ 126) {N : Nat} (hN : sz x y z 3 = N) {E : Ending}
    (hE : (N < 63 ∧ E = gaveUp 7 0) ∨ (63 ≤ N ∧ 100 < N ∧ E = gaveUp 2 0) ∨ (63 ≤ N ∧ N ≤ 100 ∧ E = .returned (.tuple #[.int .i64 N, .int .i64 4]))) :
    Calls Tryd.prog 18 #[.string s] w fun e w' => e = E ∧ w' = w := by
  have he := ne_empty (show 0 < s.size by omega)
  have g1 : ((s[0].toNat : Int) != 126) = false := by simp; omega
  have g2 : ¬ (s.size : Int) < 4 := by omega
  obtain ⟨a1, a2⟩ := hx
  obtain ⟨b1, b2⟩ := hy
  obtain ⟨c1, c2⟩ := hz
  have q0 := step64 (a := 0) (A := 0) (x := x) (y := (x : Int) - 63) (by omega) a2 a1 (by omega) rfl
  rw [Nat.zero_mul, Nat.zero_add] at q0
  have HE : Hid _ := hE
  have HN : Hid _ := hN
  have Q0 : Hid _ := q0
  have hNb : N < 1000000 := by
    have e : ((x - 63) * 64 + (y - 63)) * 64 + (z - 63) = N := hN
    omega
  clear hE hN q0
  go_enter Tryd.func18, Tryd.ntmps18
  go_wp2
  go_loop [2, 4] (fun s2 s4 => ∃ c : Nat, c ≤ 3 ∧ s4 = .int .i64 (c + 1 : Nat) ∧ s2 = .int .i64 (sz x y z c)) (fun _ s4 => 4 - (intOf s4).toNat)
  case atStart => exact ⟨0, by omega, rfl, rfl⟩
  case round =>
    obtain ⟨c, hc, rfl, rfl⟩ := hrel
    match c, hc with
    | 0, _ =>
      rw [show sz x y z 0 = 0 from rfl]
      go_wp2
      go_round
      case rel => exact ⟨1, by omega, rfl, Q0.out⟩
      case measure => simp [intOf]
    | 1, _ =>
      rw [show sz x y z 1 = x - 63 from rfl]
      go_wp2
      go_round
      case rel => exact ⟨2, by omega, rfl, step64 (a := x - 63) (x := y) (by omega) b2 b1 rfl rfl⟩
      case measure => simp [intOf]
    | 2, _ =>
      rw [show sz x y z 2 = (x - 63) * 64 + (y - 63) from rfl]
      go_wp2
      go_round
      case rel => exact ⟨3, by omega, rfl, step64 (a := (x - 63) * 64 + (y - 63)) (x := z) (by omega) c2 c1 (by simp) rfl⟩
      case measure => simp [intOf]
    | 3, _ =>
      rw [HN.out]
      rcases HE.out with ⟨e1, rfl⟩ | ⟨e1, e2, rfl⟩ | ⟨e1, e2, rfl⟩
      · have e1' : (N : Int) < 63 := by omega
        go_wp2_with (go_at_call 32; refine (giveUp_any _ _ _).mono ?_; rintro e w' ⟨rfl, rfl⟩)
        exact ⟨rfl, rfl, rfl⟩
      · have e1' : ¬ (N : Int) < 63 := by omega
        have e2' : (100 : Int) < (N : Int) := by omega
        go_wp2_with (go_at_call 32; refine (giveUp_any _ _ _).mono ?_; rintro e w' ⟨rfl, rfl⟩)
        exact ⟨rfl, rfl, rfl⟩
      · have e1' : ¬ (N : Int) < 63 := by omega
        have e2' : ¬ (100 : Int) < (N : Int) := by omega
        go_wp2
        go_ret2
        exact ⟨rfl, rfl⟩
end Go.Proofs.YtbaghbodjpehpabDoor
