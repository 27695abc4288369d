/- The document's Named and Has; are two lists of names the same. -/
import Derived.Test.YtfdlndljpmamgaaNewW
import Derived.Test.YtfdlndljpmamgaaOfT
namespace Go.Proofs.Ytfdlndljpmamgaa
set_option maxRecDepth 8000
open Go.RowKit Go.Maps
attribute [local go_sem ↓] Go.wp_at_zero Go.wp_at_succ
/-- A list of texts in memory. -/
def StrsAt (w : World) (v : Value) (L : List ByteArray) : Prop := ∃ ao cap, v = .slice ao L.length cap ∧ ∀ (i : Nat) (s : ByteArray), L[i]? = some s → ∃ g, ao = some ⟨g, 0, none⟩ ∧ w.cell? ⟨g, i, none⟩ = some (.string s)
theorem strs_own {w : World} {base : Nat} {v : Value} {L : List ByteArray} (h : w.ownsRow base 9 1 v L.length (sv L)) : StrsAt w v L := by
  rcases h.2 with ⟨rfl, h0⟩ | ⟨g, cap, cur, rfl, _⟩
  · exact ⟨none, 0, by rw [h0], fun i s hi => by have := (List.getElem?_eq_some_iff.1 hi).1; omega⟩
  · refine ⟨_, cap, rfl, fun i s hi => ⟨g, rfl, ?_⟩⟩
    have := h.cells (g := g) rfl i (.string s) (by simp [sv, hi])
    rwa [add_none] at this
theorem StrsAt.below {w w' : World} {v : Value} {L : List ByteArray} (h : StrsAt w v L) (hb : Below w.heap.size w w') : StrsAt w' v L := by
  obtain ⟨ao, cap, rfl, h1⟩ := h
  refine ⟨ao, cap, rfl, fun i s hi => ?_⟩
  obtain ⟨g, h2, h3⟩ := h1 i s hi
  exact ⟨g, h2, (hb.cell (World.block_lt_of_cell? w _ h3)).trans h3⟩
theorem idx_spec {L : List ByteArray} {s : ByteArray} {k : Nat} (h : ∀ i, i < k → L[i]? ≠ some s) (hk : k ≤ L.length) : k ≤ idx L s := by
  have h1 := idx_le L s
  refine Nat.le_of_not_lt fun hlt => ?_
  exact h _ hlt (by rw [List.getElem?_eq_getElem (by omega), idx_get (by omega)])
theorem idx_hit {L : List ByteArray} {s : ByteArray} {k : Nat} (h : ∀ i, i < k → L[i]? ≠ some s) (hk : L[k]? = some s) : idx L s = k := by
  have h1 := (List.getElem?_eq_some_iff.1 hk).1
  have h2 := idx_spec h (Nat.le_of_lt h1)
  refine Nat.le_antisymm (Nat.le_of_not_lt fun hlt => ?_) h2
  have : ∀ (l : List ByteArray) (j : Nat), l[j]? = some s → idx l s ≤ j := by
    intro l
    induction l with
    | nil => intro j hj; simp at hj
    | cons x l ih =>
      intro j hj
      unfold idx
      split
      · omega
      · match j, hj with
        | 0, hj => simp at hj; contradiction
        | j + 1, hj => have := ih j (by simpa using hj); omega
  have := this L k hk
  omega
theorem str_ne {t s : ByteArray} (h : t ≠ s) : (t.toList == s.toList) = false := by
  rw [beq_eq_false_iff_ne]
  intro e
  rw [ByteArray.toList_eq, ByteArray.toList_eq] at e
  exact h (ByteArray.ext (Array.toList_inj.1 e))
theorem str_ne2 {t s : ByteArray} (h : t ≠ s) : (t.toList != s.toList) = true := by
  rw [bne, str_ne h]; rfl
set_option maxHeartbeats 1000000 in
theorem named_call {w : World} {v : Value} {L : List ByteArray} (h : StrsAt w v L) (hL : L.length ≤ 100000) (s : ByteArray) :
    Calls Try.prog 13 #[v, .string s] w fun e w' => e = .returned (.int .i64 (idx L s : Int)) ∧ w' = w := by
  obtain ⟨ao, cap, rfl, hc⟩ := h
  have HC := hid hc
  obtain ⟨r, hr⟩ : ∃ r, idx L s = r := ⟨_, rfl⟩
  have HR := hid hr
  rw [hr]
  obtain ⟨n, hn⟩ : ∃ n, L.length = n := ⟨_, rfl⟩
  have HN := hid hn
  rw [hn] at hL ⊢
  clear hc hr hn
  go_enter Try.func13, Try.ntmps13
  go_wp2
  go_loopw [5] (fun i wr => ∃ k : Nat, k ≤ n ∧ i = .int .i64 (k : Int) ∧ Hid (∀ i, i < k → L[i]? ≠ some s) ∧ wr = w) (fun i _ => n - (numOf i).toNat)
  case atStart => exact ⟨0, Nat.zero_le _, rfl, (fun i h => by omega), by first | rfl | trivial⟩
  case round =>
    obtain ⟨k, hk, rfl, hJ, rfl⟩ := hrel
    by_cases hlt : k < n
    · have i1 : (0 : Int) ≤ (k : Int) := by omega
      have i2 : (k : Int) < (n : Int) := by omega
      obtain ⟨t, ht⟩ : ∃ t, L[k]? = some t := ⟨L[k]'(by rw [HN.out]; exact hlt), List.getElem?_eq_getElem _⟩
      obtain ⟨g, rfl, c0⟩ := HC.out k t ht
      have HT := hid ht
      clear ht
      by_cases he : t = s
      · subst he
        go_wp2
        go_ret
        exact ⟨by rw [← HR.out, idx_hit hJ.out HT.out]; rfl, rfl⟩
      · have z := str_ne he
        have HE := hid he
        clear he
        go_wp2
        go_roundw
        case rel =>
          refine ⟨k + 1, by omega, by go_num, (fun i hi => ?_), by first | rfl | trivial⟩
          by_cases e : i = k
          · subst e
            rw [HT.out]
            exact fun e => HE.out (Option.some.inj e)
          · exact hJ.out i (by omega)
        case measure => simp [numOf]; omega
    · have hke : k = n := by omega
      subst hke
      have hrk : r = k := by
        have h1 := idx_spec hJ.out (by rw [HN.out]; exact Nat.le_refl _)
        have h2 := idx_le L s
        have := HR.out; have := HN.out
        omega
      subst hrk
      go_wp2
      go_ret
      exact ⟨rfl, rfl⟩
set_option maxHeartbeats 1000000 in
theorem names_same {w : World} {v v' : Value} {L : List ByteArray} (h : StrsAt w v L) (h' : StrsAt w v' L) (hL : L.length ≤ 100000) :
    Calls Try.prog 19 #[v, v'] w fun e w' => e = .returned (.bool true) ∧ Below w.heap.size w w' := by
  obtain ⟨ao, cap, rfl, hc⟩ := h
  obtain ⟨ao', cap', rfl, hc'⟩ := h'
  have HC := hid hc
  have HC' := hid hc'
  obtain ⟨n, hn⟩ : ∃ n, L.length = n := ⟨_, rfl⟩
  have HN := hid hn
  rw [hn] at hL ⊢
  have hnn : ((n : Int) != (n : Int)) = false := by simp
  clear hc hc' hn
  go_enter Try.func19, Try.ntmps19
  go_wp2
  go_loopw [5] (fun i wr => ∃ k : Nat, k ≤ n ∧ i = .int .i64 (k : Int) ∧ Hid (Below w.heap.size w wr)) (fun i _ => n - (numOf i).toNat)
  case atStart => exact ⟨0, Nat.zero_le _, rfl, Below.refl _ _⟩
  case round =>
    obtain ⟨k, hk, rfl, hJ⟩ := hrel
    by_cases hlt : k < n
    · have i1 : (0 : Int) ≤ (k : Int) := by omega
      have i2 : (k : Int) < (n : Int) := by omega
      obtain ⟨t, ht⟩ : ∃ t, L[k]? = some t := ⟨L[k]'(by rw [HN.out]; exact hlt), List.getElem?_eq_getElem _⟩
      obtain ⟨g, rfl, c0⟩ := HC.out k t ht
      obtain ⟨g', rfl, c1⟩ := HC'.out k t ht
      rw [← hJ.out.cell (World.block_lt_of_cell? w _ c0)] at c0
      rw [← hJ.out.cell (World.block_lt_of_cell? w _ c1)] at c1
      clear ht
      go_wp2
      go_region
      all_goals
        have HB : Hid (Below w.heap.size w wr.drew) := hJ.out.drew
        clear c0 c1
        generalize wr.drew = W1 at *
        go_wp2
        go_roundw
        case rel => exact ⟨k + 1, by omega, by go_num, HB⟩
        case measure => simp [numOf]; omega
    · have hke : k = n := by omega
      subst hke
      go_wp2
      go_ret
      exact ⟨rfl, hJ.out⟩
end Go.Proofs.Ytfdlndljpmamgaa
