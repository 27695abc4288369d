/- What Print writes is read as it was: plain mathematics. -/
import Derived.Test.YtbaghbodjpehpabDoorRead
namespace Go.Proofs.YtbaghbodjpehpabDoor
open Go.RowKit Go.Maps

def numL (d : List UInt8) : Nat := d.foldl (fun a x => 10 * a + (x.toNat - 48)) 0
def digOk (n : Nat) (d : List UInt8) : Bool := d.all (fun x => digB x.toNat) && !d.isEmpty && decide (d.length ≤ 3) && (decide ((d.getD 0 0).toNat ≠ 48) || decide (d.length = 1)) && numL d == n
theorem dig_one : ∀ n : Nat, n < 10 → digOk n [UInt8.ofNat (48 + n)] = true := by decide +kernel
theorem dig_two : ∀ n : Nat, n < 100 → 10 ≤ n → digOk n [UInt8.ofNat (48 + n / 10), UInt8.ofNat (48 + n % 10)] = true := by decide +kernel
theorem dec_ok {n : Nat} (h : n ≤ 100) : digOk n (Lib.decDigits n) = true := by
  by_cases h1 : n < 10
  · rw [Lib.decDigits_one h1]; exact dig_one n h1
  · by_cases h2 : n < 100
    · rw [Lib.decDigits_two h1 h2]; exact dig_two n h2 (by omega)
    · have : n = 100 := by omega
      subst this
      rw [dec_step (by omega), Lib.decDigits_two (by omega) (by omega)]
      decide +kernel

structure DigL (n : Nat) (d : List UInt8) : Prop where
  dig : ∀ x ∈ d, digB x.toNat = true
  pos : 0 < d.length
  len : d.length ≤ 3
  head : (d.getD 0 0).toNat ≠ 48 ∨ d.length = 1
  val : numL d = n
theorem dec_digL {n : Nat} (h : n ≤ 100) : DigL n (Lib.decDigits n) := by
  have := dec_ok h
  simp only [digOk, Bool.and_eq_true, Bool.or_eq_true, decide_eq_true_eq, List.all_eq_true, Bool.not_eq_true', beq_iff_eq] at this
  obtain ⟨⟨⟨⟨h1, h2⟩, h3⟩, h4⟩, h5⟩ := this
  refine ⟨h1, ?_, h3, h4, h5⟩
  cases e : Lib.decDigits n with
  | nil => rw [e] at h2; cases h2
  | cons a l => simp

theorem byte_mid {s : ByteArray} {pre d rest : List UInt8} (hs : s.data.toList = pre ++ (d ++ rest)) {j : Nat} (hj : j < d.length) : byteAt s (pre.length + j) = (d.getD j 0).toNat := by
  unfold byteAt
  rw [hs, List.getD_eq_getElem?_getD, List.getElem?_append_right (by omega), Nat.add_sub_cancel_left, List.getElem?_append_left hj, List.getD_eq_getElem?_getD]

theorem numV_list {s : ByteArray} {pre d rest : List UInt8} (hs : s.data.toList = pre ++ (d ++ rest)) : ∀ j, j ≤ d.length → numV s pre.length j = numL (d.take j)
  | 0, _ => rfl
  | j + 1, h => by
    have ih := numV_list hs j (by omega)
    have e : numV s pre.length (j + 1) = 10 * numV s pre.length j + (byteAt s (pre.length + j) - 48) := rfl
    rw [e, ih, byte_mid hs (by omega), List.take_succ_eq_append_getElem (by omega)]
    unfold numL
    rw [List.foldl_append]
    simp [List.getD_eq_getElem?_getD, List.getElem?_eq_getElem (show j < d.length by omega)]

theorem run_list {s : ByteArray} {pre d rest : List UInt8} {c : UInt8} (hs : s.data.toList = pre ++ (d ++ c :: rest)) (hd : ∀ x ∈ d, digB x.toNat = true) (hc : digB c.toNat = false) : runEnd s pre.length = pre.length + d.length := by
  unfold runEnd
  rw [hs, List.drop_left, List.takeWhile_append_of_pos hd, List.takeWhile_cons_of_neg (by rw [hc]; decide), List.append_nil]

theorem size_list (s : ByteArray) : s.data.toList.length = s.size := Array.length_toList

/-- A number that stands at some place, with a sign behind it. -/
theorem num_read {s : ByteArray} {pre rest : List UInt8} {c : UInt8} {n : Nat} (hn : n ≤ 100) (hs : s.data.toList = pre ++ (Lib.decDigits n ++ c :: rest)) (hc : digB c.toNat = false) :
    runEnd s pre.length = pre.length + (Lib.decDigits n).length ∧ numOk s pre.length (runEnd s pre.length) ∧ numAt s pre.length = n ∧ byteAt s (runEnd s pre.length) = c.toNat ∧ runEnd s pre.length < s.size := by
  have hD := dec_digL hn
  have h1 := run_list hs hD.dig hc
  have h0 := hD.pos
  have h3 := hD.len
  have hb0 := byte_mid hs (j := 0) h0
  have hlen := size_list s
  rw [hs] at hlen
  simp only [List.length_append, List.length_cons] at hlen
  refine ⟨h1, ?_, ?_, ?_, by omega⟩
  · rw [h1]
    refine ⟨by omega, by omega, ?_⟩
    rintro ⟨q1, q2⟩
    rcases hD.head with h | h
    · rw [Nat.add_zero] at hb0
      exact h (by rw [← hb0]; exact q1)
    · omega
  · unfold numAt
    rw [h1, Nat.add_sub_cancel_left, numV_list hs _ (Nat.le_refl _), List.take_length]
    exact hD.val
  · rw [h1]
    have hs2 : s.data.toList = (pre ++ Lib.decDigits n) ++ ([c] ++ rest) := by rw [hs]; simp
    have := byte_mid hs2 (j := 0) (by simp)
    rw [List.length_append, Nat.add_zero] at this
    rw [this]
    rfl

theorem edgesB_cons (e : Pair) (L : List Pair) : edgesB (e :: L) = edgeB e ++ edgesB L := by simp [edgesB]
theorem edgesB_head (L : List Pair) : ∃ c rest, edgesB L ++ [10] = c :: rest ∧ digB (UInt8.toNat c) = false := by
  cases L with
  | nil => exact ⟨10, [], rfl, by decide⟩
  | cons e L =>
    refine ⟨32, (Lib.decDigits e.1.toNat ++ 45 :: Lib.decDigits e.2.toNat) ++ (edgesB L ++ [10]), ?_, by decide⟩
    rw [edgesB_cons]
    simp [edgeB]
theorem edgesB_ge : ∀ L : List Pair, L.length ≤ (edgesB L).length
  | [] => Nat.zero_le _
  | e :: L => by
    have := edgesB_ge L
    rw [edgesB_cons, List.length_append, List.length_cons]
    simp [edgeB]
    omega

theorem parse_edges (s : ByteArray) : ∀ (L : List Pair) (pre : List UInt8) (acc : List Pair) (fuel : Nat), L.length < fuel → (∀ e ∈ L, 0 ≤ e.1 ∧ 0 ≤ e.2 ∧ e.1 ≤ 100 ∧ e.2 ≤ 100) → s.data.toList = pre ++ (edgesB L ++ [10]) →
    parseE s fuel pre.length acc = .edges (acc ++ L) (pre.length + (edgesB L).length)
  | [], pre, acc, 0, hf, _, _ => absurd hf (by simp)
  | [], pre, acc, fuel + 1, _, _, hs => by
    have hb : byteAt s pre.length = 10 := by
      have := byte_mid (pre := pre) (d := [10]) (rest := []) (s := s) (by rw [hs]; simp [edgesB]) (j := 0) (by simp)
      rw [Nat.add_zero] at this
      rw [this]; rfl
    unfold parseE
    rw [if_neg (by rw [hb]; omega)]
    simp [edgesB]
  | e :: L, pre, acc, 0, hf, _, _ => absurd hf (by simp)
  | e :: L, pre, acc, fuel + 1, hf, hr, hs => by
    obtain ⟨r1, r2, r3, r4⟩ := hr e (by simp)
    obtain ⟨a, ha⟩ : ∃ a : Nat, e.1 = a := ⟨e.1.toNat, by omega⟩
    obtain ⟨b, hb⟩ : ∃ b : Nat, e.2 = b := ⟨e.2.toNat, by omega⟩
    have hee : edgeB e = 32 :: (Lib.decDigits a ++ 45 :: Lib.decDigits b) := by unfold edgeB; rw [ha, hb]; rfl
    obtain ⟨c, rest, hc1, hc2⟩ := edgesB_head L
    have s0 : s.data.toList = pre ++ ([32] ++ (Lib.decDigits a ++ 45 :: (Lib.decDigits b ++ (edgesB L ++ [10])))) := by rw [hs, edgesB_cons, hee]; simp
    have s1 : s.data.toList = (pre ++ [32]) ++ (Lib.decDigits a ++ 45 :: (Lib.decDigits b ++ (edgesB L ++ [10]))) := by rw [s0]; simp
    have s2 : s.data.toList = ((pre ++ [32]) ++ Lib.decDigits a ++ [45]) ++ (Lib.decDigits b ++ c :: rest) := by rw [s1, ← hc1]; simp
    have s3 : s.data.toList = (((pre ++ [32]) ++ Lib.decDigits a ++ [45]) ++ Lib.decDigits b) ++ (edgesB L ++ [10]) := by rw [s1]; simp
    have hk : byteAt s pre.length = 32 := by
      have := byte_mid s0 (j := 0) (by simp)
      rw [Nat.add_zero] at this
      rw [this]; rfl
    have hks : pre.length < s.size := by
      have hlen := size_list s
      rw [s0] at hlen
      simp only [List.length_append, List.length_cons] at hlen
      omega
    obtain ⟨n1, n2, n3, n4, n5⟩ := num_read (n := a) (by omega) s1 (by decide)
    obtain ⟨m1, m2, m3, m4, m5⟩ := num_read (n := b) (by omega) s2 hc2
    have l1 : (pre ++ [32]).length = pre.length + 1 := by simp
    rw [l1] at n1 n2 n3 n4 n5
    have l2 : ((pre ++ [32]) ++ Lib.decDigits a ++ [45]).length = runEnd s (pre.length + 1) + 1 := by rw [n1]; simp only [List.length_append, List.length_cons, List.length_nil]
    rw [l2] at m1 m2 m3
    have ih := parse_edges s L _ (acc ++ [e]) fuel (by simp at hf; omega) (fun x hx => hr x (by simp [hx])) s3
    have l3 : (((pre ++ [32]) ++ Lib.decDigits a ++ [45]) ++ Lib.decDigits b).length = runEnd s (runEnd s (pre.length + 1) + 1) := by rw [List.length_append, l2, m1]
    rw [l3] at ih
    unfold parseE
    rw [if_pos ⟨hks, hk⟩, if_pos n2, if_pos ⟨n5, n4⟩, if_pos m2, n3, m3, ← ha, ← hb, ih, ← l3]
    rw [edgesB_cons, hee, List.append_assoc]
    simp only [List.length_append, List.length_cons, List.length_nil, List.singleton_append]
    congr 1
    omega

/-- The line that Print writes is read as the graph of its numbers. -/
theorem readS_line (m : Nat) (L : List Pair) (hm : m ≤ 100) (hl : L.length ≤ 1000) (hr : ∀ e ∈ L, 0 ≤ e.1 ∧ 0 ≤ e.2 ∧ e.1 ≤ 100 ∧ e.2 ≤ 100) : readS (strB (lineB m L)) = formS m L := by
  have hs : (strB (lineB m L)).data.toList = [] ++ (Lib.decDigits m ++ 58 :: (edgesB L ++ [10])) := by simp [strB, lineB]
  have hlen := edgesB_len L (fun e he => by have := hr e he; omega)
  have hge := edgesB_ge L
  have hd := dec_len hm
  have hsz : (strB (lineB m L)).size = (Lib.decDigits m).length + 1 + (edgesB L).length + 1 := by rw [strB_size]; simp [lineB]; omega
  generalize strB (lineB m L) = s at hs hsz
  obtain ⟨n1, n2, n3, n4, n5⟩ := num_read (n := m) hm hs (by decide)
  rw [List.length_nil] at n1 n2 n3 n4 n5
  have s2 : s.data.toList = (Lib.decDigits m ++ [58]) ++ (edgesB L ++ [10]) := by rw [hs]; simp
  have hp := parse_edges s L _ [] (s.size + 1) (by omega) hr s2
  have l2 : (Lib.decDigits m ++ [58]).length = runEnd s 0 + 1 := by rw [n1]; simp
  rw [l2, List.nil_append] at hp
  have s3 : s.data.toList = ((Lib.decDigits m ++ [58]) ++ edgesB L) ++ ([10] ++ []) := by rw [hs]; simp
  have hb := byte_mid s3 (j := 0) (by simp)
  rw [Nat.add_zero, List.length_append, l2] at hb
  have hb' : byteAt s (runEnd s 0 + 1 + (edgesB L).length) = 10 := hb
  unfold readS
  rw [if_neg (by omega)]
  unfold lineS
  rw [if_pos n2, if_pos ⟨n5, n4⟩, hp]
  unfold endS
  simp only
  rw [if_pos ⟨by omega, hb'⟩, if_neg (by omega), n3]
end Go.Proofs.YtbaghbodjpehpabDoor
