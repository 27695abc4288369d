/- closedAt: how long a walk is that goes out to v and comes back by another edge. -/
import Derived.Test.YtkbgcbbloogdjacFarFrom
namespace Go.Proofs.Ytkbgcbbloogdjac
open Go.RowKit Go.Maps
attribute [local go_sem ↓] Go.wp_at_zero Go.wp_at_succ

/-- How many of a list are d far. -/
def cntD (o : Nat → Option Nat) (l : List Nat) (z : Int) : Nat := (l.filter fun u => farZ (o u) == z).length
theorem cntD_take {o : Nat → Option Nat} {l : List Nat} {t u : Nat} (h : l[t]? = some u) (z : Int) : cntD o (l.take (t + 1)) z = cntD o (l.take t) z + (if farZ (o u) = z then 1 else 0) := by
  unfold cntD
  rw [take_at h, List.filter_append, List.length_append]
  congr 1
  by_cases c : farZ (o u) = z
  · simp [c]
  · have : (farZ (o u) == z) = false := by simpa using c
    simp [this, c]
theorem cntD_le (o : Nat → Option Nat) (l : List Nat) (z : Int) : cntD o l z ≤ l.length := List.length_filter_le _ _
/-- What closedAt answers. -/
def closedS (o : Nat → Option Nat) (l : List Nat) (v : Nat) : Nat :=
  match o v with
  | none => 0
  | some d => if 1 < cntD o l ((d : Int) - 1) then 2 * d else if 0 < cntD o l (d : Int) then 2 * d + 1 else 0

set_option maxRecDepth 4000 in
set_option maxHeartbeats 4000000 in
theorem closedAt_call {w : World} {ao : Option Addr} {N cap : Nat} {ls : Nat → List Nat} {e : Nat → Nat → Bool} (hn : NearR w ao N ls) (hr : Rows N ls e) (hN : N ≤ 100) {b : Nat} {o : Nat → Option Nat} (hrow : RowV w b 3 N (fun x => .int .i64 (farZ (o x)))) (hd : ∀ x d, x < N → o x = some d → d < N) {v : Nat} (hv : v < N) :
    Calls Try.prog 33 #[.slice ao N cap, .slice (some ⟨b, 0, none⟩) N N, .int .i64 (v : Int)] w fun r w' => r = .returned (.int .i64 (closedS o (ls v) v : Nat)) ∧ Below w.heap.size w w' := by
  obtain ⟨g, xo, xc, rfl, g0, g1⟩ := hn v hv
  have cv := hrow.cell hv
  have i1 : (0 : Int) ≤ (v : Int) := by omega
  have i2 : (v : Int) < (N : Int) := by omega
  have hln := hr.len v hv
  have HG1 : Hid _ := g1
  have HRW : Hid _ := hr
  clear g1 hr hn
  cases hov : o v with
  | none =>
    have hz : farZ (o v) < 0 := by rw [hov]; decide
    have HA : Hid (closedS o (ls v) v = 0) := show closedS o (ls v) v = 0 by unfold closedS; rw [hov]
    clear hov
    go_enter Try.func33, Try.ntmps33
    go_wp2
    go_ret
    exact ⟨by rw [HA.out]; rfl, Below.refl _ _⟩
  | some d =>
    have hdN := hd v d hv hov
    have hzv : farZ (o v) = (d : Int) := by rw [hov]; rfl
    rw [hzv] at cv
    have HA : Hid (closedS o (ls v) v = if 1 < cntD o (ls v) ((d : Int) - 1) then 2 * d else if 0 < cntD o (ls v) (d : Int) then 2 * d + 1 else 0) := show closedS o (ls v) v = _ by unfold closedS; rw [hov]
    clear hov hzv
    go_enter Try.func33, Try.ntmps33
    go_wp2
    clear g0
    go_loopw [7, 8, 21] (fun p q i wr => ∃ t : Nat, t ≤ (ls v).length ∧ i = .int .i64 (t : Int) ∧ p = .int .i64 (cntD o ((ls v).take t) ((d : Int) - 1) : Nat) ∧ q = .int .i64 (cntD o ((ls v).take t) (d : Int) : Nat) ∧ wr = w) (fun _ _ i _ => (ls v).length - (numOf i).toNat)
    case atStart => exact ⟨0, Nat.zero_le _, rfl, by simp [cntD], by simp [cntD], rfl⟩
    case round =>
      obtain ⟨t, ht, rfl, rfl, rfl, rfl⟩ := hrel
      by_cases htl : t < (ls v).length
      · obtain ⟨x, hx?⟩ : ∃ x, (ls v)[t]? = some x := ⟨(ls v)[t], List.getElem?_eq_getElem htl⟩
        have hxN := HRW.out.lt v x hv (List.mem_of_getElem? hx?)
        obtain ⟨bx, rfl, c1⟩ := HG1.out t x hx?
        have cx := hrow.cell hxN
        have t1 := cntD_take (o := o) hx? ((d : Int) - 1)
        have t2 := cntD_take (o := o) hx? (d : Int)
        have l1 := cntD_le o ((ls v).take t) ((d : Int) - 1)
        have l2 := cntD_le o ((ls v).take t) (d : Int)
        have hlt : ((ls v).take t).length ≤ 1000 := by simp; omega
        have HT1 : Hid _ := t1
        have HT2 : Hid _ := t2
        clear hx? t1 t2
        have j1 : (0 : Int) ≤ (t : Int) := by omega
        have j2 : (t : Int) < ((ls v).length : Int) := by omega
        have j3 : (0 : Int) ≤ (x : Int) := by omega
        have j4 : (x : Int) < (N : Int) := by omega
        by_cases c1' : farZ (o x) = (d : Int) - 1
        · have hne : ¬ farZ (o x) = (d : Int) := by omega
          have HC : Hid _ := c1'
          have HC2 : Hid _ := hne
          clear hne
          go_wp2
          go_roundw
          case rel => exact ⟨t + 1, by omega, by go_num, by rw [HT1.out, if_pos HC.out]; simp, by rw [HT2.out, if_neg HC2.out]; simp, trivial⟩
          case measure => simp [numOf]; omega
        · by_cases c2' : farZ (o x) = (d : Int)
          · have HC : Hid _ := c1'
            have HC2 : Hid _ := c2'
            go_wp2
            go_roundw
            case rel => exact ⟨t + 1, by omega, by go_num, by rw [HT1.out, if_neg HC.out]; simp, by rw [HT2.out, if_pos HC2.out]; simp, trivial⟩
            case measure => simp [numOf]; omega
          · have HC : Hid _ := c1'
            have HC2 : Hid _ := c2'
            go_wp2
            go_roundw
            case rel => exact ⟨t + 1, by omega, by go_num, by rw [HT1.out, if_neg HC.out]; simp, by rw [HT2.out, if_neg HC2.out]; simp, trivial⟩
            case measure => simp [numOf]; omega
      · have hte : (ls v).length = t := by omega
        subst hte
        rw [List.take_length]
        by_cases k1 : 1 < cntD o (ls v) ((d : Int) - 1)
        · have k1' : (1 : Int) < (cntD o (ls v) ((d : Int) - 1) : Nat) := by omega
          have HF : Hid (closedS o (ls v) v = 2 * d) := show closedS o (ls v) v = 2 * d by rw [HA.out, if_pos k1]
          clear k1
          go_wp2
          go_ret
          exact ⟨by rw [HF.out]; simp, Below.refl _ _⟩
        · have k1' : ¬ (1 : Int) < (cntD o (ls v) ((d : Int) - 1) : Nat) := by omega
          by_cases k2 : 0 < cntD o (ls v) (d : Int)
          · have k2' : (0 : Int) < (cntD o (ls v) (d : Int) : Nat) := by omega
            have HF : Hid (closedS o (ls v) v = 2 * d + 1) := show closedS o (ls v) v = 2 * d + 1 by rw [HA.out, if_neg k1, if_pos k2]
            clear k1 k2
            go_wp2
            go_ret
            exact ⟨by rw [HF.out]; simp, Below.refl _ _⟩
          · have k2' : ¬ (0 : Int) < (cntD o (ls v) (d : Int) : Nat) := by omega
            have HF : Hid (closedS o (ls v) v = 0) := show closedS o (ls v) v = 0 by rw [HA.out, if_neg k1, if_neg k2]
            clear k1 k2
            go_wp2
            go_ret
            exact ⟨by rw [HF.out]; rfl, Below.refl _ _⟩
end Go.Proofs.Ytkbgcbbloogdjac
