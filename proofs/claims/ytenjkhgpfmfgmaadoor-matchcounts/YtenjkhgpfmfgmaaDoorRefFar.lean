/- The document's Far. -/
import Derived.Test.YtenjkhgpfmfgmaaDoorDist
import Derived.Test.YtenjkhgpfmfgmaaDoorReach
namespace Go.Proofs.YtenjkhgpfmfgmaaDoor
open Go.RowKit Go.Maps
attribute [local go_sem ↓] Go.wp_at_zero Go.wp_at_succ

/-- A distance as it stands in a table: -1, if there is none. -/
def farZ : Option Nat → Int
  | none => -1
  | some d => d
theorem farZ_eq {x : Option Nat} {d : Nat} : farZ x = (d : Int) ↔ x = some d := by
  cases x with
  | none => simp [farZ]
  | some y => simp [farZ]; omega
theorem farZ_neg {x : Option Nat} : farZ x < 0 ↔ x = none := by
  cases x with
  | none => simp [farZ]
  | some y => simp [farZ]

set_option maxHeartbeats 4000000 in
theorem refFar_call (N : Nat) (ao : Option Addr) (cap : Nat) (p : Int → Int → Bool) (w : World) (hG : GridAt w (.slice ao N cap) N p) (hN : N ≤ 100) {v : Nat} (hv : v < N) :
    Calls Tryd.prog 35 #[.slice ao N cap, .int .i64 (v : Int)] w fun r w' => ∃ b o, r = .returned (.slice (some ⟨b, 0, none⟩) N N) ∧ w.heap.size ≤ b ∧ RowV w' b 3 N (fun x => .int .i64 (farZ (o x))) ∧ Dist N (pn p) v o ∧ Below w.heap.size w w' := by
  obtain ⟨i3, hi3, hz0, hz1, hz2⟩ := info_parts Tryd.info3
  obtain ⟨ao', cap', e0, hgrid⟩ := hG
  cases e0
  have HGR : Hid _ := hgrid
  clear hgrid
  go_enter Tryd.func35, Tryd.ntmps35
  go_wp2_with (first
    | (at_make; refine wpList_make_full _ rfl _ _ 29 rfl w.heap.size 3 i3 (.int .i64 0) 1 Tryd.underlying29 hi3 hz0 hz1 .i64 .i64 _ _ N rfl rfl rfl rfl ?_ ?_ ?_ ?_; (rw [hz2]; omega); (unfold maxLen; omega); (omega); intro W1 hmade hg1)
    | go_in)
  have hrow0 := rowV_made rfl hmade
  have hB0 : Below w.heap.size w W1 := (Below.refl _ _).grown hg1 (Nat.le_refl _) (fun k hk => by cases hk)
  clear hmade hg1
  go_loopw [6] (fun i wr => ∃ k : Nat, k ≤ N ∧ i = .int .i64 (k : Int) ∧ RowV wr w.heap.size 3 N (fun x => if x < k then .int .i64 (-1) else .int .i64 0) ∧ Below w.heap.size w wr) (fun i _ => N - (numOf i).toNat)
  case atStart => exact ⟨0, Nat.zero_le _, rfl, hrow0.congr (fun j _ => by simp), hB0⟩
  case round =>
    obtain ⟨k, hk, rfl, hrow, hB⟩ := hrel
    clear hrow0 hB0
    by_cases hkN : k < N
    · have ck := hrow.cell hkN
      have fk := hrow.free k
      have i1 : (0 : Int) ≤ (k : Int) := by omega
      have i2 : (k : Int) < (N : Int) := by omega
      go_wp2
      go_roundw
      case rel =>
        refine ⟨k + 1, by omega, by go_num, (hrow.set k (.int .i64 (-1))).congr (fun j _ => ?_), hB.setCell (Nat.le_refl _) _⟩
        by_cases e : j = k
        · subst e; simp
        · by_cases h : j < k
          · rw [if_neg e, if_pos h, if_pos (by omega)]
          · rw [if_neg e, if_neg h, if_neg (by omega)]
      case measure => simp [numOf]; omega
    · have hke : N = k := by omega
      subst hke
      have cv := hrow.cell hv
      have fv := hrow.free v
      have i1 : (0 : Int) ≤ (v : Int) := by omega
      have i2 : (v : Int) < (N : Int) := by omega
      go_upto_region 7 with (fail)
      have hrow1 := (hrow.set v (.int .i64 0)).congr (g := fun x => .int .i64 (farZ (if x = v then some 0 else none))) (fun j hj => by
        by_cases e : j = v
        · subst e; simp [farZ]
        · simp [e, hj, farZ])
      have hB1 := hB.setCell (p := ⟨w.heap.size, v, none⟩) (Nat.le_refl _) (.int .i64 0)
      generalize wr.setCell ⟨w.heap.size, v, none⟩ (.int .i64 0) = W2 at hrow1 hB1 ⊢
      clear cv fv i1 i2 hrow hB
      have hlev : Lev N (pn p) v (fun x => if x = v then some 0 else none) 0 0 0 := Lev.start (fun x => rfl)
      have HLV : Hid _ := hlev
      clear hlev
      go_wp2
      go_loopw [7] (fun i wr => ∃ (d : Nat) (o : Nat → Option Nat), d ≤ N ∧ i = .int .i64 (d : Int) ∧ RowV wr w.heap.size 3 N (fun x => .int .i64 (farZ (o x))) ∧ Lev N (pn p) v o d 0 0 ∧ Below w.heap.size w wr) (fun i _ => N - (numOf i).toNat)
      case atStart => exact ⟨0, _, Nat.zero_le _, rfl, hrow1, HLV.out, hB1⟩
      case round =>
        obtain ⟨d, o1, hd, rfl, hr1, hl1, hb1⟩ := hrel
        have HL1 : Hid _ := hl1
        clear hrow1 HLV hB1 hl1
        by_cases hdN : d < N
        · go_wp2
          go_loopw [8] (fun i wr => ∃ (a : Nat) (o : Nat → Option Nat), a ≤ N ∧ i = .int .i64 (a : Int) ∧ RowV wr w.heap.size 3 N (fun x => .int .i64 (farZ (o x))) ∧ Lev N (pn p) v o d a 0 ∧ Below w.heap.size w wr) (fun i _ => N - (numOf i).toNat)
          case atStart => exact ⟨0, _, Nat.zero_le _, rfl, hr1, HL1.out, hb1⟩
          case round =>
            obtain ⟨a, o2, ha, rfl, hr2, hl2, hb2⟩ := hrel
            have HL2 : Hid _ := hl2
            clear hr1 HL1 hb1 hl2
            by_cases haN : a < N
            · go_wp2
              go_loopw [9] (fun i wr => ∃ (c : Nat) (o : Nat → Option Nat), c ≤ N ∧ i = .int .i64 (c : Int) ∧ RowV wr w.heap.size 3 N (fun x => .int .i64 (farZ (o x))) ∧ Lev N (pn p) v o d a c ∧ Below w.heap.size w wr) (fun i _ => N - (numOf i).toNat)
              case atStart => exact ⟨0, _, Nat.zero_le _, rfl, hr2, HL2.out, hb2⟩
              case round =>
                obtain ⟨c, o, hc, rfl, hr3, hl3, hb3⟩ := hrel
                have HL3 : Hid _ := hl3
                clear hr2 HL2 hb2 hl3
                by_cases hcN : c < N
                · obtain ⟨g, b, rfl, g0, g1⟩ := HGR.out a haN
                  have g2 := g1 c hcN
                  have l0 := World.block_lt_of_cell? w _ g0
                  have l2 := World.block_lt_of_cell? w _ g2
                  rw [← hb3.cell (by exact l0)] at g0
                  rw [← hb3.cell (by exact l2)] at g2
                  clear g1
                  have ca := hr3.cell haN
                  have cc := hr3.cell hcN
                  have fc := hr3.free c
                  have i1 : (0 : Int) ≤ (a : Int) := by omega
                  have i2 : (a : Int) < (N : Int) := by omega
                  have j1 : (0 : Int) ≤ (c : Int) := by omega
                  have j2 : (c : Int) < (N : Int) := by omega
                  by_cases h1 : o a = some d
                  · have z1 : farZ (o a) = (d : Int) := farZ_eq.2 h1
                    by_cases h2 : p a c = true
                    · by_cases h3 : o c = none
                      · have z3 : farZ (o c) < 0 := farZ_neg.2 h3
                        have hput := HL3.out.put haN hcN h1 h2 h3 (o' := fun x => if x = c then some (d + 1) else o x) (fun x => rfl)
                        have HPU : Hid _ := hput
                        rw [z1] at ca
                        rw [h2] at g2
                        clear hput h1 h2 h3 z1
                        go_wp2
                        go_roundw
                        case rel =>
                          refine ⟨c + 1, _, by omega, by go_num, (hr3.set c (.int .i64 ((d : Int) + 1))).congr (fun x _ => ?_), HPU.out, hb3.setCell (Nat.le_refl _) _⟩
                          by_cases e : x = c
                          · subst e; simp [farZ]
                          · simp [e]
                        case measure => simp [numOf]; omega
                      · have z3 : ¬ farZ (o c) < 0 := fun h => h3 (farZ_neg.1 h)
                        have hsk := HL3.out.skip (fun _ _ => h3)
                        have HSK : Hid _ := hsk
                        rw [z1] at ca
                        rw [h2] at g2
                        clear hsk h1 h2 h3 z1
                        go_wp2
                        go_roundw
                        case rel => exact ⟨c + 1, _, by omega, by go_num, hr3, HSK.out, hb3⟩
                        case measure => simp [numOf]; omega
                    · have h2' : p a c = false := by simpa using h2
                      have hsk := HL3.out.skip (fun _ h => absurd h h2)
                      have HSK : Hid _ := hsk
                      rw [z1] at ca
                      rw [h2'] at g2
                      clear hsk h1 h2 h2' z1
                      go_wp2
                      go_roundw
                      case rel => exact ⟨c + 1, _, by omega, by go_num, hr3, HSK.out, hb3⟩
                      case measure => simp [numOf]; omega
                  · have z1 : ¬ farZ (o a) = (d : Int) := fun h => h1 (farZ_eq.1 h)
                    have hsk := HL3.out.skip (fun h _ => absurd h h1)
                    have HSK : Hid _ := hsk
                    clear hsk h1
                    go_wp2
                    go_roundw
                    case rel => exact ⟨c + 1, _, by omega, by go_num, hr3, HSK.out, hb3⟩
                    case measure => simp [numOf]; omega
                · have hce : N = c := by omega
                  subst hce
                  go_wp2
                  go_roundw
                  case rel => exact ⟨a + 1, _, by omega, by go_num, hr3, HL3.out.row, hb3⟩
                  case measure => simp [numOf]; omega
            · have hae : N = a := by omega
              subst hae
              go_wp2
              go_roundw
              case rel => exact ⟨d + 1, _, by omega, by go_num, hr2, HL2.out.next, hb2⟩
              case measure => simp [numOf]; omega
        · have hde : N = d := by omega
          subst hde
          go_wp2
          go_ret
          exact ⟨_, o1, rfl, Nat.le_refl _, hr1, HL1.out.fin, hb1⟩
end Go.Proofs.YtenjkhgpfmfgmaaDoor
