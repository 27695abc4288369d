/- The bags that Least makes, as lists: they can be opened, and their sets are what they should be. The bags that Least makes, in memory. -/
import Derived.Test.YtdalconphfgepaaDoorWidM
import Derived.Test.YtdalconphfgepaaDoorLiesF
namespace Go.Proofs.YtdalconphfgepaaDoor
open Go.RowKit Go.Maps
theorem bagS_nat {N : Nat} : ∀ (l : List Nat) (s : Nat), l.Nodup → (∀ x ∈ l, x < N) → (∀ x ∈ l, s.testBit x = false) → (bagS N (l.map fun (x : Nat) => (x : Int)) s).2 = 0 ∧ ∀ x, (bagS N (l.map fun (x : Nat) => (x : Int)) s).1.testBit x = true ↔ (s.testBit x = true ∨ x ∈ l)
  | [], s, _, _, _ => ⟨rfl, fun x => by simp [bagS]⟩
  | v :: l, s, hnd, hlt, hs => by
    have hv := hlt v (by simp)
    have hnd' := List.nodup_cons.1 hnd
    have ih := bagS_nat (N := N) l (sAdd s v) hnd'.2 (fun x hx => hlt x (by simp [hx])) (fun x hx => by
      rw [bit_add, hs x (by simp [hx])]
      have : x ≠ v := fun e => hnd'.1 (by rw [← e]; exact hx)
      simp [this])
    have e : bagS N ((v :: l).map fun (x : Nat) => (x : Int)) s = bagS N (l.map fun (x : Nat) => (x : Int)) (sAdd s v) := by
      rw [List.map_cons]
      conv => lhs; unfold bagS
      rw [if_neg (by omega), if_neg (by rw [Int.toNat_natCast, hs v (by simp)]; simp), Int.toNat_natCast]
    rw [e]
    refine ⟨ih.1, fun x => ?_⟩
    rw [ih.2 x, bit_add]
    simp only [Bool.or_eq_true, decide_eq_true_eq, List.mem_cons]
    constructor
    · rintro ((h | h) | h)
      · exact Or.inl h
      · exact Or.inr (Or.inl h)
      · exact Or.inr (Or.inr h)
    · rintro (h | h | h)
      · exact Or.inl (Or.inl h)
      · exact Or.inl (Or.inr h)
      · exact Or.inr h
/-- The bags, as lists of numbers. -/
def bagsZ (near : List Nat) (o : Nat → Nat) (N : Nat) : List (List Int) := (List.range N).map fun i => (bagO near o i).map fun (x : Nat) => (x : Int)
theorem openR_zero {N : Nat} : ∀ (ls : List (List Int)) (k : Nat), (∀ b ∈ ls, (bagS N b 0).2 = 0) → openR N ls k = (0, 0)
  | [], _, _ => rfl
  | b :: l, k, h => by
    unfold openR
    rw [if_pos (h b (by simp))]
    exact openR_zero l (k + 1) (fun b' hb => h b' (by simp [hb]))
section
variable {near : List Nat} {N : Nat} {o : Nat → Nat} (hn : ∀ s ∈ near, s < 2 ^ 128) (hN : N ≤ 128) (hbit : ∀ u x, (at' near u).testBit x = true → x < N) (h : OrdO N o (goneF o))
include hn hN h
theorem bagO_mem {i : Nat} (hi : i < N) (x : Nat) : x ∈ bagO near o i ↔ (x = o i ∨ (ledO near o (goneF o) i).testBit x = true) := by
  have hl : ledO near o (goneF o) i < 2 ^ 128 := behS_lt (near := near) (gone := goneF o i) hn (show o i < 128 by have := h.lt i hi; omega)
  have hv : o i < 128 := by have := h.lt i hi; omega
  unfold bagO
  rw [mem_elems (add_lt hl hv), bit_add, Bool.or_eq_true, decide_eq_true_eq]
  exact or_comm
include hbit
theorem bagO_below {i : Nat} (hi : i < N) {x : Nat} (hx : x ∈ bagO near o i) : x < N := by
  rcases (bagO_mem hn hN h hi x).1 hx with e | e
  · rw [e]; exact h.lt i hi
  · have := ((led_bit hn hN h hi).1 e).1
    cases this with
    | one h => exact hbit _ _ h
    | step _ _ h => exact hbit _ _ h
theorem bagO_set {i : Nat} (hi : i < N) : (bagS N ((bagO near o i).map fun (x : Nat) => (x : Int)) 0).2 = 0 ∧ ∀ x, (bagS N ((bagO near o i).map fun (x : Nat) => (x : Int)) 0).1.testBit x = true ↔ (x = o i ∨ (ledO near o (goneF o) i).testBit x = true) := by
  have := bagS_nat (N := N) (bagO near o i) 0 ((elems_sorted _).imp fun h => by omega) (fun x hx => bagO_below hn hN hbit h hi hx) (fun x _ => Nat.zero_testBit x)
  refine ⟨this.1, fun x => ?_⟩
  rw [this.2 x, Nat.zero_testBit, bagO_mem hn hN h hi]
  simp
theorem bagsZ_open : openR N (bagsZ near o N) 0 = (0, 0) := openR_zero _ _ fun b hb => by
  obtain ⟨i, hi, rfl⟩ := List.mem_map.1 hb
  exact (bagO_set hn hN hbit h (List.mem_range.1 hi)).1
theorem bagsZ_sets {i : Nat} (hi : i < N) (x : Nat) : (at' (setsL N (bagsZ near o N)) i).testBit x = true ↔ (x = o i ∨ (ledO near o (goneF o) i).testBit x = true) := by
  have e : at' (setsL N (bagsZ near o N)) i = (bagS N ((bagO near o i).map fun (x : Nat) => (x : Int)) 0).1 := by
    simp [at', setsL, bagsZ, hi]
  rw [e]
  exact (bagO_set hn hN hbit h hi).2 x
end
end Go.Proofs.YtdalconphfgepaaDoor

namespace Go.Proofs.YtdalconphfgepaaDoor
open Go.RowKit Go.Maps
theorem own_cap {w : World} {base : Nat} {t : TypeId} {sz : Nat} {ao : Option Addr} {n cap : Nat} {xs : List Value} (h : w.ownsRow base t sz (.slice ao n cap) n xs) : n ≤ cap := by
  rcases h.2 with ⟨_, e⟩ | ⟨g, c, cur, e, _, _, h3, _⟩
  · omega
  · cases e; exact h3
theorem br_rows {w : World} {base : Nat} {near : List Nat} {o : Nat → Nat} {N : Nat} {xs : List Value} {ba : Option Addr} {bc : Nat} {u : Value} (hN : N ≤ 12) (hown : w.ownsRow base 30 1 (.slice ba N bc) N xs) (hB : BR w base near o N xs u) : RowsC w (.slice ba N bc) (bagsZ near o N) := by
  have hl : (bagsZ near o N).length = N := by simp [bagsZ]
  refine ⟨ba, bc, by rw [hl], by omega, fun i hi => ?_⟩
  have hi' : i < N := by omega
  obtain ⟨lo, rc, hx, ho, _⟩ := hB.2 i hi'
  have e : (bagsZ near o N)[i] = (bagO near o i).map fun (x : Nat) => (x : Int) := by simp [bagsZ]
  have el : (bagsZ near o N)[i].length = (bagO near o i).length := by rw [e, List.length_map]
  obtain ⟨g, c, cur, e2, _⟩ : ∃ g c cur, Value.slice ba N bc = .slice (some ⟨g, 0, none⟩) N c ∧ (w.heap[g]? = some (.cells cur 30 (0, 0))) := by
    rcases hown.2 with ⟨_, e⟩ | ⟨g, c, cur, e, _, h2, _⟩
    · omega
    · exact ⟨g, c, cur, e, h2⟩
  cases e2
  have hc := hown.cells (g := g) rfl i _ hx
  rw [add_none] at hc
  refine ⟨g, 0, lo, rc, rfl, ?_, ?_, ?_, ?_⟩
  · rw [Nat.zero_add, el]
    first | exact hc | simpa using hc
  · rw [el]; exact own_cap ho
  · rw [el]
    have : (bagO near o i).length ≤ 128 := count_le _
    omega
  · rw [el]
    intro j hj
    have hu : (bagO near o i)[j]? = some (bagO near o i)[j] := List.getElem?_eq_getElem hj
    obtain ⟨b, eb, cb⟩ := numsAt_own ho j _ hu
    cases eb
    refine ⟨b, 0, rfl, ?_⟩
    rw [Nat.zero_add]
    have e3 : (bagsZ near o N)[i].getD j 0 = (((bagO near o i)[j] : Nat) : Int) := by
      rw [e, List.getD_eq_getElem?_getD, List.getElem?_map, hu]
      rfl
    show w.cell? ⟨b, j, none⟩ = some (.int .i64 ((bagsZ near o N)[i].getD j 0))
    rw [e3]
    exact cb
theorem ups_num {w : World} {base : Nat} {near : List Nat} {o : Nat → Nat} {N : Nat} {ua : Option Addr} {uc : Nat} (hown : w.ownsRow base 3 1 (.slice ua N uc) N (upsO near o N N)) : NumF w ua N (upO near o (goneF o) N) := by
  intro j hj
  obtain ⟨g, c, cur, e2, _⟩ : ∃ g c cur, Value.slice ua N uc = .slice (some ⟨g, 0, none⟩) N c ∧ (w.heap[g]? = some (.cells cur 3 (0, 0))) := by
    rcases hown.2 with ⟨_, e⟩ | ⟨g, c, cur, e, _, h2, _⟩
    · omega
    · exact ⟨g, c, cur, e, h2⟩
  cases e2
  have hc := hown.cells (g := g) rfl j (.int .i64 (upO near o (goneF o) N j)) (by simp [upsO, hj])
  rw [add_none] at hc
  exact ⟨g, 0, rfl, by rw [Nat.zero_add]; first | exact hc | simpa using hc⟩
end Go.Proofs.YtdalconphfgepaaDoor
