/- Lists of edges as plain mathematics: when a list is free of faults, which two nodes are near, and the pairs that a test keeps. -/
import Derived.Below
namespace Go.Proofs.Ytfdlndljpmamgaa

abbrev Pair := Int × Int

def isN (n v : Int) : Bool := decide (0 ≤ v ∧ v < n)
def setE (es : List Pair) (x y : Int) : Bool := es.any fun e => x == min e.1 e.2 && y == max e.1 e.2
def hasB (es : List Pair) (u v : Int) : Bool := es.any fun e => (e.1 == u && e.2 == v) || (e.1 == v && e.2 == u)

theorem setE_has (es : List Pair) (u v : Int) : setE es (min u v) (max u v) = hasB es u v := by
  unfold setE hasB
  congr 1
  funext e
  rw [Bool.eq_iff_iff]
  simp
  omega

theorem hasB_comm (es : List Pair) (u v : Int) : hasB es u v = hasB es v u := by
  unfold hasB
  congr 1
  funext e
  rw [Bool.eq_iff_iff]
  simp
  omega

theorem setE_snoc (es : List Pair) (a b x y : Int) : setE (es ++ [(a, b)]) x y = ((x == min a b && y == max a b) || setE es x y) := by
  simp [setE, Bool.or_comm]

theorem hasB_snoc (es : List Pair) (a b x y : Int) : hasB (es ++ [(a, b)]) x y = (hasB es x y || ((a == x && b == y) || (a == y && b == x))) := by
  simp [hasB]

/-- What is wrong with the edge that stands behind those of pre: 0: nothing. -/
def bad (n : Int) (pre : List Pair) (e : Pair) : Int :=
  if isN n e.1 && isN n e.2 then (if e.1 = e.2 then 4 else if hasB pre e.1 e.2 then 5 else 0) else 3

def chkFrom (n : Int) : List Pair → List Pair → Int × Int
  | _, [] => (0, 0)
  | pre, e :: r => if bad n pre e = 0 then chkFrom n (pre ++ [e]) r else (bad n pre e, (pre.length : Int))

def many (n : Int) (len : Nat) : Bool := decide (n < 0 ∨ 100 < n ∨ 1000 < len)

def chk (n : Int) (es : List Pair) : Int × Int := if many n es.length then (2, 0) else chkFrom n [] es

theorem chk_step {n : Int} {es : List Pair} {k : Nat} (hk : k < es.length) :
    chkFrom n (es.take k) (es.drop k) = if bad n (es.take k) es[k] = 0 then chkFrom n (es.take (k + 1)) (es.drop (k + 1)) else (bad n (es.take k) es[k], (k : Int)) := by
  rw [List.drop_eq_getElem_cons hk, chkFrom, List.take_succ_eq_append_getElem hk]
  have : (es.take k).length = k := by simp; omega
  rw [this]

theorem chk_end {n : Int} {es : List Pair} : chkFrom n (es.take es.length) (es.drop es.length) = (0, 0) := by
  simp [chkFrom]

theorem bad_range {n : Int} {pre : List Pair} {a b : Int} (h : ¬ (0 ≤ a ∧ a < n ∧ 0 ≤ b ∧ b < n)) : bad n pre (a, b) = 3 := by
  unfold bad isN
  rw [if_neg]
  simp
  omega
theorem bad_loop {n : Int} {pre : List Pair} {a : Int} (h : 0 ≤ a ∧ a < n) : bad n pre (a, a) = 4 := by
  simp [bad, isN, h]
theorem bad_twice {n : Int} {pre : List Pair} {a b : Int} (h : 0 ≤ a ∧ a < n ∧ 0 ≤ b ∧ b < n) (hne : a ≠ b) (hh : hasB pre a b = true) : bad n pre (a, b) = 5 := by
  simp [bad, isN, h, hne, hh]
theorem bad_none {n : Int} {pre : List Pair} {a b : Int} (h : 0 ≤ a ∧ a < n ∧ 0 ≤ b ∧ b < n) (hne : a ≠ b) (hh : hasB pre a b = false) : bad n pre (a, b) = 0 := by
  simp [bad, isN, h, hne, hh]

theorem bad_zero {n : Int} {pre : List Pair} {e : Pair} (h : bad n pre e = 0) : (0 ≤ e.1 ∧ e.1 < n ∧ 0 ≤ e.2 ∧ e.2 < n) ∧ e.1 ≠ e.2 ∧ hasB pre e.1 e.2 = false := by
  unfold bad isN at h
  split at h
  · rename_i hn
    simp at hn
    split at h
    · cases h
    · rename_i hne
      split at h
      · cases h
      · rename_i hh
        exact ⟨by omega, hne, by simpa using hh⟩
  · cases h

theorem bad_cases (n : Int) (pre : List Pair) (e : Pair) : bad n pre e = 0 ∨ bad n pre e = 3 ∨ bad n pre e = 4 ∨ bad n pre e = 5 := by
  unfold bad
  split
  · split
    · simp
    · split <;> simp
  · simp

theorem chkFrom_good {n : Int} : ∀ (es pre : List Pair), (chkFrom n pre es).1 = 0 → chkFrom n pre es = (0, 0) ∧ ∀ e ∈ es, (0 ≤ e.1 ∧ e.1 < n ∧ 0 ≤ e.2 ∧ e.2 < n) ∧ e.1 ≠ e.2
  | [], _, _ => ⟨rfl, fun e h => by cases h⟩
  | e :: r, pre, h => by
    rw [chkFrom] at h ⊢
    by_cases hb : bad n pre e = 0
    · rw [if_pos hb] at h ⊢
      obtain ⟨h1, h2⟩ := chkFrom_good r _ h
      refine ⟨h1, fun e' he' => ?_⟩
      rcases List.mem_cons.1 he' with rfl | he'
      · exact ⟨(bad_zero hb).1, (bad_zero hb).2.1⟩
      · exact h2 e' he'
    · rw [if_neg hb] at h
      exact absurd h hb

theorem chk_good {n : Int} {es : List Pair} (h : (chk n es).1 = 0) : chk n es = (0, 0) ∧ 0 ≤ n ∧ n ≤ 100 ∧ es.length ≤ 1000 ∧ ∀ e ∈ es, (0 ≤ e.1 ∧ e.1 < n ∧ 0 ≤ e.2 ∧ e.2 < n) ∧ e.1 ≠ e.2 := by
  unfold chk at h ⊢
  by_cases hm : many n es.length = true
  · rw [if_pos hm] at h; cases h
  · rw [if_neg hm] at h ⊢
    obtain ⟨h1, h2⟩ := chkFrom_good es [] h
    simp [many] at hm
    exact ⟨h1, by omega, by omega, by omega, h2⟩

end Go.Proofs.Ytfdlndljpmamgaa
