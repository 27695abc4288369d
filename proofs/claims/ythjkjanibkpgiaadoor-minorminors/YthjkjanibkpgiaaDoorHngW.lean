/- hangsTogether. -/
import Derived.Test.YthjkjanibkpgiaaDoorAnyW
namespace Go.Proofs.YthjkjanibkpgiaaDoor
set_option maxRecDepth 8000
open Go.RowKit Go.Maps
attribute [local go_sem ↓] Go.wp_at_zero Go.wp_at_succ
/-- Nothing of s that is near to r is outside of r. -/
def Cls (near : Nat → Nat) (N s r : Nat) : Prop := ∀ i, (anyN near N r).testBit i = true → s.testBit i = true → r.testBit i = true
/-- r is what is reached from u through s. -/
def Rch (near : Nat → Nat) (N s u r : Nat) : Prop := r.testBit u = true ∧ (∀ i, r.testBit i = true → s.testBit i = true) ∧ ∀ c, c.testBit u = true → Cls near N s c → ∀ i, r.testBit i = true → c.testBit i = true
theorem anyN_sub {near : Nat → Nat} {N r c : Nat} (h : ∀ i, r.testBit i = true → c.testBit i = true) (x : Nat) (hx : (anyN near N r).testBit x = true) : (anyN near N c).testBit x = true := by
  rw [anyN_bit, List.any_eq_true] at hx ⊢
  obtain ⟨i, hi, h1⟩ := hx
  rw [Bool.and_eq_true] at h1
  exact ⟨i, hi, by rw [h i h1.1, h1.2]; rfl⟩
theorem rch_start {near : Nat → Nat} {N s u : Nat} (hs : s.testBit u = true) : Rch near N s u (2 ^ u) := by
  refine ⟨by rw [Nat.testBit_two_pow]; simp, fun i hi => ?_, fun c hc _ i hi => ?_⟩
  · rw [Nat.testBit_two_pow] at hi
    have : u = i := by simpa using hi
    exact this ▸ hs
  · rw [Nat.testBit_two_pow] at hi
    have : u = i := by simpa using hi
    exact this ▸ hc
theorem rch_step {near : Nat → Nat} {N s u r : Nat} (h : Rch near N s u r) : Rch near N s u (r ||| (anyN near N r &&& s)) := by
  refine ⟨by rw [Nat.testBit_or, h.1]; rfl, fun i hi => ?_, fun c hc hcl i hi => ?_⟩
  · rw [Nat.testBit_or, Nat.testBit_and] at hi
    rcases Bool.or_eq_true _ _ ▸ hi with h1 | h1
    · exact h.2.1 i h1
    · exact (Bool.and_eq_true _ _ ▸ h1).2
  · have hs := h.2.2 c hc hcl
    rw [Nat.testBit_or, Nat.testBit_and, Bool.or_eq_true, Bool.and_eq_true] at hi
    rcases hi with h1 | ⟨h1, h2⟩
    · exact hs i h1
    · exact hcl i (anyN_sub hs i h1) h2
theorem rch_cls {near : Nat → Nat} {N s r : Nat} (h : r ||| (anyN near N r &&& s) = r) : Cls near N s r := fun i h1 h2 => by
  rw [← h, Nat.testBit_or, Nat.testBit_and, h1, h2]
  simp
theorem or_ge (a b : Nat) : a ≤ a ||| b := Nat.left_le_or
set_option maxHeartbeats 8000000 in
theorem hang_call {w : World} {nb N s u : Nat} {near : Nat → Nat} (hn : RowV w nb 53 N (nv near)) (hT : T32 w) (nl : ∀ v, near v < 2 ^ N) (hN : N ≤ 12) (hs : s < 2 ^ N) (hs0 : s ≠ 0) (hu : u = Lib.ctz 32 s) :
    Calls Tryd.prog 36 #[sl nb N, .int .u32 (s : Int)] w fun e w' => (∃ r, Rch near N s u r ∧ Cls near N s r ∧ e = .returned (.bool (decide (r = s)))) ∧ Below w.heap.size w w' := by
  have h24 : (2 : Nat) ^ N ≤ 4096 := (Nat.pow_le_pow_right (by decide) hN : 2 ^ N ≤ 2 ^ 12)
  have hs' : s < 4096 := Nat.lt_of_lt_of_le hs h24
  obtain ⟨d1, d2, d3⟩ := ctz_bits hs0 (show s < 4294967296 by omega)
  rw [← hu] at d1 d2 d3
  have huN : u < N := bit_lt hs d1
  have C42 : Hid (∀ (D : World) (r : Nat), Below w.heap.size w D → r < 2 ^ N → Calls Tryd.prog 42 #[sl nb N, .int .u32 (r : Int)] D fun e w' => e = .returned (.int .u32 (anyN near N r : Nat)) ∧ Below D.heap.size D w') := fun D r hD hr => any_call (hn.block (hD.block _ hn.lt)) (hT.below hD) nl hN hr
  have C39 : Hid (Calls Tryd.prog 39 #[.int .u32 (s : Int)] w fun e w' => e = .returned (.int .i64 (u : Int)) ∧ w' = w) := by
    rw [hu]
    exact least_call s (by omega) hT
  obtain ⟨q, hq⟩ : ∃ q, q = 2 ^ u := ⟨_, rfl⟩
  have C34 : Hid (∀ D : World, Calls Tryd.prog 34 #[.int .i64 (u : Int)] D fun e w' => e = .returned (.int .u32 (q : Int)) ∧ w' = D) := fun D => by
    rw [hq]
    exact only_call d3
  have hq2 : q < 2 ^ N := by rw [hq]; exact Nat.pow_lt_pow_right (by decide) huN
  have HH : Hid ((∀ v, near v < 2 ^ N) ∧ s < 2 ^ N ∧ 2 ^ N ≤ 4096 ∧ Rch near N s u q ∧ q < 2 ^ N) := ⟨nl, hs, h24, hq ▸ rch_start d1, hq2⟩
  clear hn hT nl hs h24 d1 d2 d3 hu hq hq2 huN hs0
  go_enter Tryd.func36, Tryd.ntmps36
  go_upto_region 2 with (first | (go_at_call 39; refine Calls.mono C39.out ?_; rintro e w2 ⟨rfl, rfl⟩) | (go_at_call 34; refine Calls.mono (C34.out _) ?_; rintro e w2 ⟨rfl, rfl⟩) | fail)
  clear C34
  go_loopw [5] (fun s5 wz => ∃ r : Nat, s5 = .int .u32 (r : Int) ∧ Hid (Rch near N s u r ∧ r < 2 ^ N ∧ Below w2.heap.size w2 wz)) (fun s5 _ => 4096 - (numOf s5).toNat)
  case atStart => exact ⟨q, rfl, HH.out.2.2.2.1, HH.out.2.2.2.2, Below.refl _ _⟩
  case round =>
    obtain ⟨r, rfl, hJ⟩ := hrel
    have hr : r < 4096 := Nat.lt_of_lt_of_le hJ.out.2.1 HH.out.2.2.1
    obtain ⟨Z, hZ⟩ : ∃ Z, Z = anyN near N r := ⟨_, rfl⟩
    have hZl : Z < 4096 := by rw [hZ]; exact Nat.lt_of_lt_of_le (anyN_lt HH.out.1 r N) HH.out.2.2.1
    have C42' : Hid (Calls Tryd.prog 42 #[sl nb N, .int .u32 (r : Int)] wr fun e w' => e = .returned (.int .u32 (Z : Int)) ∧ Below wr.heap.size wr w') := by rw [hZ]; exact C42.out wr r hJ.out.2.2 hJ.out.2.1
    obtain ⟨Y, hY⟩ : ∃ Y, Y = Z &&& s := ⟨_, rfl⟩
    have a1 := and_u32 (a := Z) (b := s) (by omega) (by omega)
    rw [← hY] at a1
    have hYl : Y < 2 ^ N := by rw [hY]; exact Nat.lt_of_le_of_lt Nat.and_le_right HH.out.2.1
    have hYl2 : Y < 4096 := Nat.lt_of_lt_of_le hYl HH.out.2.2.1
    obtain ⟨m, hm⟩ : ∃ m, m = r ||| Y := ⟨_, rfl⟩
    have a2 := or_u32 (a := r) (b := Y) (by omega) (by omega)
    rw [← hm] at a2
    have hml : m < 2 ^ N := by rw [hm]; exact Nat.or_lt_two_pow hJ.out.2.1 hYl
    have hml2 : m < 4096 := Nat.lt_of_lt_of_le hml HH.out.2.2.1
    have hge : r ≤ m := by rw [hm]; exact or_ge _ _
    have hme : m = r ||| (anyN near N r &&& s) := by rw [hm, hY, hZ]
    by_cases he : m = r
    · have k1 : ((m : Int) == (r : Int)) = true := by simp; omega
      have HC : Hid (Rch near N s u r ∧ Cls near N s r) := ⟨hJ.out.1, rch_cls (by rw [← hme]; exact he)⟩
      have k2 : ((r : Int) == (s : Int)) = decide (r = s) := by
        by_cases e : r = s
        · subst e; simp
        · have : ¬ (r : Int) = (s : Int) := by omega
          simp [e]
          exact this
      obtain ⟨db, hdb⟩ : ∃ db, db = decide (r = s) := ⟨_, rfl⟩
      have HDB : Hid (db = decide (r = s)) := hdb
      rw [← hdb] at k2
      clear hZ hY hm he hme hdb
      go_wp2_with (first | (go_at_call 42; refine Calls.mono C42'.out ?_; rintro e w3 ⟨rfl, h3⟩) | fail)
      go_ret
      exact ⟨⟨r, HC.out.1, HC.out.2, by rw [← HDB.out]; rfl⟩, below_next hJ.out.2.2 h3⟩
    · have k1 : ((m : Int) == (r : Int)) = false := by simp; omega
      have HC : Hid (Rch near N s u m) := by rw [hme]; exact rch_step hJ.out.1
      have hlt : r < m := by omega
      clear hZ hY hm he hme
      go_wp2_with (first | (go_at_call 42; refine Calls.mono C42'.out ?_; rintro e w3 ⟨rfl, h3⟩) | fail)
      go_roundw
      case rel => exact ⟨m, rfl, HC.out, hml, below_next hJ.out.2.2 h3⟩
      case measure => simp [numOf]; omega
end Go.Proofs.YthjkjanibkpgiaaDoor
