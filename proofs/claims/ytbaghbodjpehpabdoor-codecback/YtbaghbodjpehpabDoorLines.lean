/- What a line tells: plain mathematics. -/
import Derived.Test.YtbaghbodjpehpabDoorNumber
namespace Go.Proofs.YtbaghbodjpehpabDoor

def runEnd (s : ByteArray) (k : Nat) : Nat := k + ((s.data.toList.drop k).takeWhile fun x => digB x.toNat).length

theorem takeWhile_get {α : Type} (p : α → Bool) : ∀ (l : List α) (i : Nat), i < (l.takeWhile p).length → ∃ x, l[i]? = some x ∧ p x = true
  | [], i, h => by simp at h
  | a :: l, i, h => by
    by_cases ha : p a = true
    · rw [List.takeWhile_cons_of_pos ha] at h
      cases i with
      | zero => exact ⟨a, rfl, ha⟩
      | succ i => simpa using takeWhile_get p l i (by simpa using h)
    · rw [List.takeWhile_cons_of_neg ha] at h
      simp at h
theorem takeWhile_end {α : Type} (p : α → Bool) : ∀ (l : List α), (l.takeWhile p).length = l.length ∨ ∃ x, l[(l.takeWhile p).length]? = some x ∧ p x = false
  | [] => Or.inl rfl
  | a :: l => by
    by_cases ha : p a = true
    · rw [List.takeWhile_cons_of_pos ha]
      rcases takeWhile_end p l with h | ⟨x, h1, h2⟩
      · exact Or.inl (by simp [h])
      · exact Or.inr ⟨x, by simpa using h1, h2⟩
    · rw [List.takeWhile_cons_of_neg ha]
      exact Or.inr ⟨a, rfl, by simpa using ha⟩
theorem takeWhile_le {α : Type} (p : α → Bool) : ∀ (l : List α), (l.takeWhile p).length ≤ l.length
  | [] => Nat.le_refl _
  | a :: l => by
    by_cases ha : p a = true
    · rw [List.takeWhile_cons_of_pos ha]; have := takeWhile_le p l; simp; omega
    · rw [List.takeWhile_cons_of_neg ha]; simp

theorem run_at (s : ByteArray) (k : Nat) (hk : k ≤ s.size) : RunAt s k (runEnd s k) := by
  have hl : s.data.toList.length = s.size := Array.length_toList
  have hle := takeWhile_le (fun x : UInt8 => digB x.toNat) (s.data.toList.drop k)
  rw [List.length_drop, hl] at hle
  refine ⟨by unfold runEnd; omega, by unfold runEnd; omega, ?_, ?_⟩
  · intro i h1 h2
    obtain ⟨x, h3, h4⟩ := takeWhile_get (fun x : UInt8 => digB x.toNat) (s.data.toList.drop k) (i - k) (by unfold runEnd at h2; omega)
    rw [List.getElem?_drop, show k + (i - k) = i by omega] at h3
    unfold byteAt
    rw [List.getD_eq_getElem?_getD, h3]
    exact h4
  · rcases takeWhile_end (fun x : UInt8 => digB x.toNat) (s.data.toList.drop k) with h | ⟨x, h1, h2⟩
    · left
      rw [List.length_drop, hl] at h
      unfold runEnd
      omega
    · right
      rw [List.getElem?_drop] at h1
      unfold byteAt runEnd
      rw [List.getD_eq_getElem?_getD, h1]
      exact h2

instance (s : ByteArray) (k E : Nat) : Decidable (numOk s k E) := by unfold numOk; infer_instance

inductive Got where
  | fault (at_ : Nat)
  | edges (es : List Pair) (k : Nat)

def numAt (s : ByteArray) (k : Nat) : Nat := numV s k (runEnd s k - k)

/-- The edges that stand from k on. -/
def parseE (s : ByteArray) : Nat → Nat → List Pair → Got
  | 0, k, acc => .edges acc k
  | n + 1, k, acc =>
    if k < s.size ∧ byteAt s k = 32 then
      if numOk s (k + 1) (runEnd s (k + 1)) then
        if runEnd s (k + 1) < s.size ∧ byteAt s (runEnd s (k + 1)) = 45 then
          if numOk s (runEnd s (k + 1) + 1) (runEnd s (runEnd s (k + 1) + 1)) then
            parseE s n (runEnd s (runEnd s (k + 1) + 1)) (acc ++ [((numAt s (k + 1) : Int), (numAt s (runEnd s (k + 1) + 1) : Int))])
          else .fault (runEnd s (k + 1) + 1)
        else .fault (runEnd s (k + 1))
      else .fault (k + 1)
    else .edges acc k

def endS (s : ByteArray) (N : Nat) : Got → Got × Nat
  | .fault p => (.fault p, 0)
  | .edges es k => if k < s.size ∧ byteAt s k = 10 then (if k + 1 < s.size then (.fault (k + 1), 0) else (.edges es k, N)) else (.fault k, 0)

/-- What a line tells: N and the edges, or where it goes wrong. -/
def lineS (s : ByteArray) : Got × Nat :=
  if numOk s 0 (runEnd s 0) then
    if runEnd s 0 < s.size ∧ byteAt s (runEnd s 0) = 58 then endS s (numAt s 0) (parseE s (s.size + 1) (runEnd s 0 + 1) [])
    else (.fault (runEnd s 0), 0)
  else (.fault 0, 0)

def readS (s : ByteArray) : Ans :=
  if 20000 < s.size then ⟨0, [], 2, 0⟩
  else match lineS s with
    | (.fault p, _) => ⟨0, [], 1, p⟩
    | (.edges es _, n) => formS n es

theorem numAt_bd (s : ByteArray) (k : Nat) (hk : k ≤ s.size) (h : numOk s k (runEnd s k)) : numAt s k ≤ 999 := by
  have hr := run_at s k hk
  have h1 := hr.le
  refine numV_bd s k _ (fun i hi => ?_) (by have := h.2.1; omega)
  exact (digB_iff.1 (hr.digs (k + i) (by omega) (by omega))).2
end Go.Proofs.YtbaghbodjpehpabDoor
