/- Bits of pairs of nodes, and bytes of six bits: plain mathematics. -/
import Derived.Below
namespace Go.Proofs.YtbaghbodjpehpabDoor

def prs (n : Nat) : Nat := n * (n - 1) / 2
def nby (n : Nat) : Nat := (prs n + 5) / 6
def plc (i j : Nat) : Nat := prs j + i
def bitv (p : Nat) : Nat := 2 ^ (5 - p % 6)

theorem mul_pred (n : Nat) : ((n * (n - 1) : Nat) : Int) = (n : Int) * ((n : Int) - 1) := by
  cases n with
  | zero => rfl
  | succ k => simp
theorem sq_le (n : Nat) (hn : n ≤ 1000) : n * (n - 1) ≤ 1000000 := Nat.mul_le_mul hn (by omega : n - 1 ≤ 1000)
theorem prs_le (n : Nat) (hn : n ≤ 1000) : prs n ≤ 500000 := by have := sq_le n hn; unfold prs; omega
theorem prs_succ (n : Nat) : prs (n + 1) = prs n + n := by
  unfold prs
  have h : (n + 1) * (n + 1 - 1) = n * (n - 1) + 2 * n := by
    cases n with
    | zero => rfl
    | succ k => simp only [Nat.add_sub_cancel]; rw [Nat.mul_comm (k + 1) k, ← Nat.add_mul, Nat.mul_comm]
  rw [h]
  omega
theorem prs_mono {a b : Nat} (h : a ≤ b) : prs a ≤ prs b := by
  induction h with
  | refl => exact Nat.le_refl _
  | step _ ih => rw [prs_succ]; omega
theorem prs_le100 (n : Nat) (hn : n ≤ 100) : prs n ≤ 4950 := by have := prs_mono hn; have e : prs 100 = 4950 := by decide
                                                                rw [e] at this; exact this
theorem plc_lt {i j n : Nat} (hi : i < j) (hj : j < n) : plc i j < prs n := by
  have := prs_mono (show j + 1 ≤ n from hj)
  rw [prs_succ] at this
  unfold plc
  omega
theorem plc_inj {i j i' j' : Nat} (hi : i < j) (hi' : i' < j') (h : plc i j = plc i' j') : i = i' ∧ j = j' := by
  unfold plc at h
  rcases Nat.lt_trichotomy j j' with g | g | g
  · have := prs_mono (show j + 1 ≤ j' from g)
    rw [prs_succ] at this
    omega
  · subst g; omega
  · have := prs_mono (show j' + 1 ≤ j from g)
    rw [prs_succ] at this
    omega

def b2i (b : Bool) : Int := if b then 1 else 0
def colTo (p : Int → Int → Bool) (j i : Nat) : List Int := (List.range i).map fun (k : Nat) => b2i (p k j)
def colsTo (p : Int → Int → Bool) (j : Nat) : List Int := (List.range j).flatMap fun (t : Nat) => colTo p t t

theorem colTo_succ (p : Int → Int → Bool) (j i : Nat) : colTo p j (i + 1) = colTo p j i ++ [b2i (p i j)] := by
  simp [colTo, List.range_succ]
theorem colsTo_succ (p : Int → Int → Bool) (j : Nat) : colsTo p (j + 1) = colsTo p j ++ colTo p j j := by
  simp [colsTo, List.range_succ]
theorem colTo_len (p : Int → Int → Bool) (j i : Nat) : (colTo p j i).length = i := by simp [colTo]
theorem colsTo_len (p : Int → Int → Bool) : ∀ j, (colsTo p j).length = prs j
  | 0 => rfl
  | j + 1 => by rw [colsTo_succ, List.length_append, colsTo_len p j, colTo_len, prs_succ]

/-- A number of bits, the first of them the highest. -/
def hv (L : List Int) (i : Nat) : Nat → Int
  | 0 => 0
  | t + 1 => 2 * hv L i t + L.getD (i + t) 0

theorem hv_bd (L : List Int) (h : ∀ x ∈ L, x = 0 ∨ x = 1) (i : Nat) : ∀ t, 0 ≤ hv L i t ∧ hv L i t < 2 ^ t
  | 0 => by simp [hv]
  | t + 1 => by
    have ih := hv_bd L h i t
    have hx : L.getD (i + t) 0 = 0 ∨ L.getD (i + t) 0 = 1 := by
      rw [List.getD_eq_getElem?_getD]
      cases e : L[i + t]? with
      | none => simp
      | some y => simpa using h y (List.mem_of_getElem? e)
    rw [hv, Int.pow_succ]
    omega

theorem b2i_01 (b : Bool) : b2i b = 0 ∨ b2i b = 1 := by cases b <;> simp [b2i]
theorem colTo_01 (p : Int → Int → Bool) (j i : Nat) : ∀ x ∈ colTo p j i, x = 0 ∨ x = 1 := by
  intro x hx
  simp [colTo] at hx
  obtain ⟨k, _, rfl⟩ := hx
  exact b2i_01 _
theorem colsTo_01 (p : Int → Int → Bool) (j : Nat) : ∀ x ∈ colsTo p j, x = 0 ∨ x = 1 := by
  intro x hx
  simp only [colsTo, List.mem_flatMap] at hx
  obtain ⟨t, _, h⟩ := hx
  exact colTo_01 p t t x h

/-- Noughts behind. -/
def padTo (L : List Int) (n : Nat) : List Int := L ++ List.replicate (n - L.length) 0
theorem padTo_len (L : List Int) (n : Nat) (h : L.length ≤ n) : (padTo L n).length = n := by simp [padTo]; omega
theorem padTo_self (L : List Int) : padTo L L.length = L := by simp [padTo]
theorem padTo_succ (L : List Int) (n : Nat) (h : L.length ≤ n) : padTo L (n + 1) = padTo L n ++ [0] := by
  unfold padTo
  rw [show n + 1 - L.length = (n - L.length) + 1 by omega, List.replicate_succ', List.append_assoc]
theorem padTo_01 (L : List Int) (n : Nat) (h : ∀ x ∈ L, x = 0 ∨ x = 1) : ∀ x ∈ padTo L n, x = 0 ∨ x = 1 := by
  intro x hx
  simp only [padTo, List.mem_append, List.mem_replicate] at hx
  rcases hx with hx | hx
  · exact h x hx
  · exact Or.inl hx.2
theorem padTo_getD (L : List Int) (n t : Nat) : (padTo L n).getD t 0 = L.getD t 0 := by
  unfold padTo
  rw [List.getD_eq_getElem?_getD, List.getD_eq_getElem?_getD]
  by_cases h : t < L.length
  · rw [List.getElem?_append_left h]
  · rw [List.getElem?_append_right (by omega), List.getElem?_eq_none (l := L) (by omega)]
    by_cases h2 : t - L.length < n - L.length
    · simp [h2]
    · simp [h2]

def sixes (L : List Int) (k : Nat) : List Int := (List.range k).map fun (t : Nat) => 63 + hv L (6 * t) 6
theorem sixes_succ (L : List Int) (k : Nat) : sixes L (k + 1) = sixes L k ++ [63 + hv L (6 * k) 6] := by simp [sixes, List.range_succ]
theorem sixes_len (L : List Int) (k : Nat) : (sixes L k).length = k := by simp [sixes]

def headB (m : Nat) : List Int := if m ≤ 62 then [63 + m] else [126, 63 + m / 4096, 63 + m / 64 % 64, 63 + m % 64]
/-- The bytes of a graph of m nodes whose edges p tells. -/
def packB (m : Nat) (p : Int → Int → Bool) : List Int := headB m ++ sixes (colsTo p m) (nby m)

theorem hv_congr {L M : List Int} (h : ∀ t, L.getD t 0 = M.getD t 0) (i : Nat) : ∀ t, hv L i t = hv M i t
  | 0 => rfl
  | t + 1 => by rw [hv, hv, hv_congr h i t, h]
theorem sixes_pad (L : List Int) (n k : Nat) : sixes (padTo L n) k = sixes L k := by
  unfold sixes
  apply List.map_congr_left
  intro t _
  rw [hv_congr (padTo_getD L n)]

end Go.Proofs.YtbaghbodjpehpabDoor
