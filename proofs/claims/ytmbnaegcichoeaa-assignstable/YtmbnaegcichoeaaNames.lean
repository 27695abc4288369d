/- checkNames: what may be wrong with a list that is to name each. -/
import Derived.Test.YtmbnaegcichoeaaCost
namespace Go.Proofs.Ytmbnaegcichoeaa
open Go.RowKit Go.Maps
attribute [local go_sem ↓] Go.wp_at_zero Go.wp_at_succ

set_option maxHeartbeats 600000 in
theorem index_call {w : World} {vo : Option Addr} {n vc : Nat} {f : Nat → Int} (h : NumF w vo n f) (hn : n ≤ 1000000000000000) (x : Int) :
    Calls Try.prog 42 #[.slice vo n vc, .int .i64 x] w fun e w' => (∃ m : Int, e = .returned (.int .i64 m) ∧ ((m = -1 ∧ ∀ j, j < n → f j ≠ x) ∨ (0 ≤ m ∧ ∃ j, j < n ∧ f j = x))) ∧ w' = w := by
  have H : Hid (NumF w vo n f) := h
  clear h
  go_enter Try.func42, Try.ntmps42
  go_wp2
  go_loopw [8] (fun i wr => ∃ k : Nat, k ≤ n ∧ i = .int .i64 (k : Int) ∧ (∀ j, j < k → f j ≠ x) ∧ wr = w) (fun i _ => n - (numOf i).toNat)
  case atStart => exact ⟨0, Nat.zero_le _, rfl, fun j hj => by omega, rfl⟩
  case round =>
    obtain ⟨k, hk, rfl, hne, hwr⟩ := hrel
    have hwr' := hwr.symm
    clear hwr
    subst hwr'
    have HNE : Hid (∀ j, j < k → f j ≠ x) := hne
    clear hne
    by_cases hlt : k < n
    · obtain ⟨b, off, rfl, ck⟩ := H.out k hlt
      have i1 : (0 : Int) ≤ (k : Int) := by omega
      have i2 : (k : Int) < (n : Int) := by omega
      by_cases he : f k = x
      · have k1 : (x == f k) = true := by rw [beq_iff_eq]; exact he.symm
        have HE : Hid (f k = x) := he
        clear he
        go_wp2
        go_ret
        exact ⟨⟨(k : Int), rfl, Or.inr ⟨i1, k, hlt, HE.out⟩⟩, rfl⟩
      · have k1 : (x == f k) = false := by rw [beq_eq_false_iff_ne]; exact fun e => he e.symm
        have HE : Hid (f k ≠ x) := he
        clear he
        go_wp2
        go_roundw
        case rel => exact ⟨k + 1, by omega, by go_num, fun j hj => by
          by_cases e : j = k
          · subst e; exact HE.out
          · exact HNE.out j (by omega), trivial⟩
        case measure => simp [numOf]; omega
    · have i2 : ¬ (k : Int) < (n : Int) := by omega
      have hkn : k = n := by omega
      subst hkn
      go_wp2
      go_ret
      exact ⟨⟨-1, rfl, Or.inl ⟨rfl, HNE.out⟩⟩, rfl⟩
theorem contains_call {w : World} {vo : Option Addr} {n vc : Nat} {f : Nat → Int} (h : NumF w vo n f) (hn : n ≤ 1000000000000000) (x : Int) {g : Bool} (hg : g = true ↔ ∃ j, j < n ∧ f j = x) :
    Calls Try.prog 39 #[.slice vo n vc, .int .i64 x] w fun e w' => e = .returned (.bool g) ∧ w' = w := by
  have h42 := index_call (vc := vc) h hn x
  have H42 : Hid (Calls Try.prog 42 #[.slice vo n vc, .int .i64 x] w fun e w' => (∃ m : Int, e = .returned (.int .i64 m) ∧ ((m = -1 ∧ ∀ j, j < n → f j ≠ x) ∨ (0 ≤ m ∧ ∃ j, j < n ∧ f j = x))) ∧ w' = w) := h42
  have HG : Hid (g = true ↔ ∃ j, j < n ∧ f j = x) := hg
  clear h42 hg h
  go_enter Try.func39, Try.ntmps39
  go_wp2_with (first | (go_at_call 42; refine Calls.mono H42.out ?_; rintro r w2 ⟨⟨m, rfl, hm⟩, hw2⟩; rw [hw2]; have HMM : Hid ((m = -1 ∧ ∀ j, j < n → f j ≠ x) ∨ (0 ≤ m ∧ ∃ j, j < n ∧ f j = x)) := hm; clear hw2 hm) | go_in)
  go_ret
  have hb : decide (0 ≤ m) = g := by
    rw [Bool.eq_iff_iff, HG.out, decide_eq_true_eq]
    rcases HMM.out with ⟨h1, h2⟩ | ⟨h1, h2⟩
    · constructor
      · intro h3; omega
      · rintro ⟨j, hj, e⟩; exact absurd e (h2 j hj)
    · exact ⟨fun _ => h2, fun _ => h1⟩
  exact ⟨by rw [← hb]; rfl, rfl⟩
/-- What is wrong with a list of names: the first fault. -/
def nmFrom (n : Nat) (l : List Int) : Nat → List Int → Int
  | _, [] => 0
  | k, x :: xs => if x < 0 ∨ (n : Int) ≤ x then 3 else if x ∈ l.take k then 5 else nmFrom n l (k + 1) xs
def badNames (n : Nat) (l : List Int) : Int := if l.length ≠ n then 6 else nmFrom n l 0 l
theorem nmFrom_drop {n : Nat} {l : List Int} {k : Nat} (hk : k < l.length) : nmFrom n l k (l.drop k) = if l[k] < 0 ∨ (n : Int) ≤ l[k] then 3 else if l[k] ∈ l.take k then 5 else nmFrom n l (k + 1) (l.drop (k + 1)) := by
  rw [List.drop_eq_getElem_cons hk]; rfl

end Go.Proofs.Ytmbnaegcichoeaa
