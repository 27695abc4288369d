/- The document's Joined, Odd and Walk. -/
import Derived.BigQuiet
import Derived.Test.YtkbgcbbloogdjacRefComps
import Derived.Test.YtkbgcbbloogdjacTour1
import Derived.Test.YtkbgcbbloogdjacEulerMath
import Derived.Test.YtkbgcbbloogdjacOn
namespace Go.Proofs.Ytkbgcbbloogdjac
open Go.RowKit Go.Maps
attribute [local go_sem ↓] Go.wp_at_zero Go.wp_at_succ

/-- How many lists have two numbers at least. -/
def bigs (ls : List (List Nat)) : Nat := (ls.filter fun l => decide (1 < l.length)).length
theorem bigs_take {ls : List (List Nat)} {k : Nat} {l : List Nat} (h : ls[k]? = some l) : bigs (ls.take (k + 1)) = bigs (ls.take k) + if 1 < l.length then 1 else 0 := by
  unfold bigs
  rw [take_at h, List.filter_append, List.length_append]
  by_cases c : 1 < l.length <;> simp [c]
theorem bigs_le (ls : List (List Nat)) : bigs ls ≤ ls.length := List.length_filter_le _ _
theorem lists_cell {w : World} {base : Nat} {ao : Option Addr} {cap : Nat} {ls : List (List Nat)} (h : ListsAt w base (.slice ao ls.length cap) ls) {k : Nat} {l : List Nat} (hk : ls[k]? = some l) : ∃ g xo xc, ao = some ⟨g, 0, none⟩ ∧ w.cell? ⟨g, k, none⟩ = some (.slice xo l.length xc) := by
  obtain ⟨vs, h1, h2, h3⟩ := h
  have hkl := (List.getElem?_eq_some_iff.1 hk).1
  obtain ⟨x, hx⟩ : ∃ x, vs[k]? = some x := ⟨vs[k]'(by omega), List.getElem?_eq_getElem (by omega)⟩
  obtain ⟨xo, xc, rfl⟩ := form_row (h3 k x l hx hk)
  rcases h2.2 with ⟨_, e⟩ | ⟨g, c, cur, e, _⟩
  · omega
  · cases e
    refine ⟨g, xo, xc, rfl, ?_⟩
    have := h2.cells (g := g) rfl k (.slice xo l.length xc) (by simpa using hx)
    rw [add_none] at this
    exact this

set_option maxHeartbeats 1000000 in
theorem joined_call (N : Nat) (ao : Option Addr) (cap : Nat) (p : Int → Int → Bool) (w : World) (hG : GridAt w (.slice ao N cap) N p) (hN : N ≤ 100) (R : Nat → Nat → Bool) (hR : ∀ v x, R v x = true ↔ Star (St N (pn p) allB) v x) :
    Calls Try.prog 22 #[.slice ao N cap] w fun r w' => r = .returned (.bool (decide (bigs (piecesS N allB R) < 2))) ∧ Below w.heap.size w w' := by
  have hcall := refComps_call N ao cap p w hG hN R hR
  have HC : Hid _ := hcall
  clear hcall hG hR
  have hpl : (piecesS N allB R).length ≤ N := piecesTo_le N allB R N
  obtain ⟨ls, hls⟩ : ∃ ls, ls = piecesS N allB R := ⟨_, rfl⟩
  rw [← hls] at HC hpl ⊢
  clear hls
  go_enter Try.func22, Try.ntmps22
  go_wp2_with (first
    | (go_at_call 42; refine Calls.mono HC.out ?_; rintro r wa ⟨v, rfl, hla, hbA⟩)
    | go_in)
  obtain ⟨vo, vc, rfl⟩ := hla.form
  have HLA : Hid _ := hla
  clear hla
  go_loopw [4, 5] (fun n i wr => ∃ k : Nat, k ≤ ls.length ∧ i = .int .i64 (k : Int) ∧ n = .int .i64 (bigs (ls.take k) : Int) ∧ wr = wa) (fun _ i _ => ls.length - (numOf i).toNat)
  case atStart => exact ⟨0, Nat.zero_le _, rfl, by simp [bigs], rfl⟩
  case round =>
    obtain ⟨k, hk, rfl, rfl, rfl⟩ := hrel
    have hb := bigs_le (ls.take k)
    have hb2 : (ls.take k).length ≤ k := by simp; omega
    by_cases hkl : k < ls.length
    · obtain ⟨l, hl⟩ : ∃ l, ls[k]? = some l := ⟨ls[k], List.getElem?_eq_getElem hkl⟩
      obtain ⟨g, xo, xc, rfl, c1⟩ := lists_cell HLA.out hl
      have hbt := bigs_take hl
      have HBT : Hid _ := hbt
      have i1 : (0 : Int) ≤ (k : Int) := by omega
      have i2 : (k : Int) < (ls.length : Int) := by omega
      clear hbt hl
      generalize bigs (ls.take k) = B at hb HBT ⊢
      by_cases h1 : 1 < l.length
      · have z1 : (1 : Int) < (l.length : Int) := by omega
        have H1 : Hid _ := h1
        clear h1
        go_wp2
        go_roundw
        case rel => exact ⟨k + 1, by omega, by go_num, by rw [HBT.out, if_pos H1.out]; go_num, trivial⟩
        case measure => simp [numOf]; omega
      · have z1 : ¬ (1 : Int) < (l.length : Int) := by omega
        have H1 : Hid _ := h1
        clear h1
        go_wp2
        go_roundw
        case rel => exact ⟨k + 1, by omega, by go_num, by rw [HBT.out, if_neg H1.out]; rfl, trivial⟩
        case measure => simp [numOf]; omega
    · have hke : ls.length = k := by omega
      subst hke
      rw [List.take_length] at hb ⊢
      go_wp2
      go_ret
      refine ⟨?_, hbA⟩
      simp
      omega

/-- The first t of those that have an edge with v. -/
def seesTo (p : Int → Int → Bool) (v t : Nat) : Nat := ((List.range t).filter fun (x : Nat) => p v x).length
theorem seesTo_succ (p : Int → Int → Bool) (v t : Nat) : seesTo p v (t + 1) = seesTo p v t + if p v t = true then 1 else 0 := by
  unfold seesTo
  rw [List.range_succ, List.filter_append, List.length_append]
  by_cases c : p v t = true <;> simp [c]
theorem seesTo_le (p : Int → Int → Bool) (v t : Nat) : seesTo p v t ≤ t := Nat.le_trans (List.length_filter_le _ _) (by simp)

set_option maxHeartbeats 1000000 in
theorem refOdd_call (N : Nat) (ao : Option Addr) (cap : Nat) (p : Int → Int → Bool) (w : World) (hG : GridAt w (.slice ao N cap) N p) (hN : N ≤ 100) :
    Calls Try.prog 23 #[.slice ao N cap] w fun r w' => ∃ pv, r = .returned pv ∧ w'.ownsRow w.heap.size 3 1 pv (oddTo (fun (v : Nat) => (List.range N).filter fun (x : Nat) => p v x) N).length (qv (oddTo (fun (v : Nat) => (List.range N).filter fun (x : Nat) => p v x) N)) ∧ Below w.heap.size w w' := by
  obtain ⟨ls, hls⟩ : ∃ ls : Nat → List Nat, ls = fun (v : Nat) => (List.range N).filter fun (x : Nat) => p v x := ⟨_, rfl⟩
  rw [← hls]
  have hlen : ∀ v, (ls v).length = seesTo p v N := fun v => by rw [hls]; rfl
  obtain ⟨ao', cap', e0, hgrid⟩ := hG
  cases e0
  have HG : Hid _ := hgrid
  have HLN : Hid _ := hlen
  clear hgrid hlen hls
  go_enter Try.func23, Try.ntmps23
  go_wp2
  go_loopw [3, 4] (fun q i wr => ∃ k : Nat, k ≤ N ∧ i = .int .i64 (k : Int) ∧ wr.ownsRow w.heap.size 3 1 q (oddTo ls k).length (qv (oddTo ls k)) ∧ Below w.heap.size w wr) (fun _ i _ => N - (numOf i).toNat)
  case atStart => exact ⟨0, Nat.zero_le _, rfl, by simpa [oddTo, qv] using World.ownsRow_nil _ _ _ _, Below.refl _ _⟩
  case round =>
    obtain ⟨k, hk, rfl, hown, hB⟩ := hrel
    obtain ⟨po, pc, rfl⟩ := form_row hown
    have hol := oddTo_le ls k
    have hsz := hB.size
    by_cases hkN : k < N
    · obtain ⟨g, b, rfl, g0w, g1w⟩ := HG.out k hkN
      have g0 := (hB.cell (by exact World.block_lt_of_cell? w _ g0w)).trans g0w
      have HG1 : Hid _ := g1w
      have i1 : (0 : Int) ≤ (k : Int) := by omega
      have i2 : (k : Int) < (N : Int) := by omega
      clear g1w g0w
      go_upto_region 7 with (fail)
      go_loopw [5, 6] (fun n i wq => ∃ t : Nat, t ≤ N ∧ i = .int .i64 (t : Int) ∧ n = .int .i64 (seesTo p k t : Int) ∧ wq = wr) (fun _ i _ => N - (numOf i).toNat)
      case atStart => exact ⟨0, Nat.zero_le _, rfl, by simp [seesTo], rfl⟩
      case round =>
        obtain ⟨t, ht, rfl, rfl, hw⟩ := hrel
        subst hw
        have hse := seesTo_le p k t
        by_cases htN : t < N
        · have c1w := HG1.out t htN
          have c1 := (hB.cell (by exact World.block_lt_of_cell? w _ c1w)).trans c1w
          have j1 : (0 : Int) ≤ (t : Int) := by omega
          have j2 : (t : Int) < (N : Int) := by omega
          have hss := seesTo_succ p k t
          have HSS : Hid _ := hss
          clear hss c1w
          generalize seesTo p k t = B at hse HSS ⊢
          cases hp : p k t with
          | true =>
            rw [hp] at c1
            rw [hp] at HSS
            go_wp2
            go_roundw
            case rel => exact ⟨t + 1, by omega, by go_num, by rw [HSS.out]; go_num, trivial⟩
            case measure => simp [numOf]; omega
          | false =>
            rw [hp] at c1
            rw [hp] at HSS
            go_wp2
            go_roundw
            case rel => exact ⟨t + 1, by omega, by go_num, by rw [HSS.out]; rfl, trivial⟩
            case measure => simp [numOf]; omega
        · have hte : N = t := by omega
          subst hte
          have hos := oddTo_succ ls k
          rw [HLN.out k] at hos
          have HOS : Hid _ := hos
          clear hos
          generalize seesTo p k N = B at hse HOS ⊢
          by_cases h1 : B % 2 = 1
          · have hmod : (B : Int) % 2 = 1 := by omega
            have H1 : Hid _ := h1
            clear h1
            go_wp2_with (first
              | (at_builtin; refine wpList_push (x := k) rfl _ _ rfl rfl rfl hown (by omega) (by omega) ?_; intro v' w3 hown1 hgr1)
              | go_in)
            have T1 := (alloc_turns wr (Obj.cells #[.int .i64 (k : Int)] 3) _).trans (Turns.of_grown hgr1)
            have hB3 := T1.below hB hsz (fun j hj => (hown.lt j hj.symm).1)
            go_roundw
            case rel => exact ⟨k + 1, by omega, by go_num, by rw [HOS.out, if_pos H1.out]; exact hown1, hB3⟩
            case measure => simp [numOf]; omega
          · have hmod : ¬ (B : Int) % 2 = 1 := by omega
            have H1 : Hid _ := h1
            clear h1
            go_wp2
            go_roundw
            case rel => exact ⟨k + 1, by omega, by go_num, by rw [HOS.out, if_neg H1.out, List.append_nil]; exact hown, hB⟩
            case measure => simp [numOf]; omega
    · have hke : N = k := by omega
      subst hke
      go_wp2
      go_ret
      exact ⟨_, rfl, hown, hB⟩
end Go.Proofs.Ytkbgcbbloogdjac
