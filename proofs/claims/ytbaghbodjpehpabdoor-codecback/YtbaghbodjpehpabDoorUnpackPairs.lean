/- unpackPairs of package codec: the edges that the bits tell, in the order of the bits. -/
import Derived.Test.YtbaghbodjpehpabDoorCheckPairs
import Derived.Deep.Light
namespace Go.Proofs.YtbaghbodjpehpabDoor
open Go.RowKit Go.Maps
attribute [local go_sem ↓] Go.wp_at_zero Go.wp_at_succ

/-- Bit number q of six-bit bytes that begin at f. -/
def bitOf (s : ByteArray) (f q : Nat) : Bool := decide (((s.data.toList.getD (f + q / 6) 0).toNat - 63) / 2 ^ (5 - q % 6) % 2 = 1)

def colE (p : Nat → Bool) (j i : Nat) : List Pair := ((List.range i).filter fun k => p (plc k j)).map fun (k : Nat) => ((k : Int), (j : Int))
def colsE (p : Nat → Bool) (j : Nat) : List Pair := (List.range j).flatMap fun t => colE p t t
theorem colE_succ (p : Nat → Bool) (j i : Nat) : colE p j (i + 1) = colE p j i ++ (if p (plc i j) then [((i : Int), (j : Int))] else []) := by
  unfold colE
  rw [List.range_succ, List.filter_append, List.map_append]
  congr 1
  by_cases h : p (plc i j) = true
  · rw [if_pos h]; simp [h]
  · rw [if_neg h]; simp [h]
theorem colsE_succ (p : Nat → Bool) (j : Nat) : colsE p (j + 1) = colsE p j ++ colE p j j := by
  simp [colsE, List.range_succ]
theorem colE_le (p : Nat → Bool) (j i : Nat) : (colE p j i).length ≤ i := by
  unfold colE
  rw [List.length_map]
  exact Nat.le_trans (List.length_filter_le _ _) (by simp)
theorem colsE_le (p : Nat → Bool) : ∀ j, (colsE p j).length ≤ prs j
  | 0 => by simp [colsE]
  | j + 1 => by
    rw [colsE_succ, List.length_append, prs_succ]
    have := colsE_le p j
    have := colE_le p j j
    omega

theorem and_bit_dec : ∀ x : Nat, x < 64 → ∀ r : Nat, r < 6 → (bits .and .u8 (x : Int) ((2 ^ (5 - r) : Nat) : Int) != 0) = decide (x / 2 ^ (5 - r) % 2 = 1) := by decide

set_option maxRecDepth 100000 in
set_option maxHeartbeats 4000000 in
theorem unpackPairs_any (t : ByteArray) (n : Nat) (w : World) (hn : n ≤ 100) (hl : t.size = nby n) (hg : ∀ i (h : i < t.size), 63 ≤ t[i].toNat ∧ t[i].toNat ≤ 126) :
    Calls Tryd.prog 20 #[.string t, .int .i64 n] w fun e w' => Below w.heap.size w w' ∧ ∃ ao cap, e = .returned (.slice ao (colsE (bitOf t 0) n).length cap) ∧ EdgesAt w' (.slice ao (colsE (bitOf t 0) n).length cap) (colsE (bitOf t 0) n) := by
  obtain ⟨i0, hi, hz0, hz1, hz2⟩ := info_parts Tryd.info34
  have HG : Hid _ := hg
  clear hg
  have hpn : prs n ≤ 6 * nby n := by unfold nby; omega
  have hp100 := prs_le100 n hn
  have HL : Hid _ := hl
  clear hl
  generalize hp : bitOf t 0 = p
  have HP : Hid _ := hp
  clear hp
  go_enter Tryd.func20, Tryd.ntmps20
  go_wp2
  go_loopw [5, 10] (fun s5 s10 wr => ∃ j : Nat, j ≤ n ∧ s10 = .int .i64 j ∧ Below w.heap.size w wr ∧ wr.ownsRow w.heap.size 34 2 s5 (colsE p j).length (flat (colsE p j))) (fun _ i _ => n - (intOf i).toNat)
  case atStart => exact ⟨0, Nat.zero_le _, rfl, Below.refl _ _, World.ownsRow_nil _ _ _ _⟩
  case round =>
    obtain ⟨j, hj, rfl, hbr, hownr⟩ := hrel
    obtain ⟨bo, bc, rfl⟩ := form_row hownr
    by_cases hlt : j < n
    · go_wp2
      go_loopw [5, 14] (fun s5 s14 wr => ∃ i : Nat, i ≤ j ∧ s14 = .int .i64 i ∧ Below w.heap.size w wr ∧ wr.ownsRow w.heap.size 34 2 s5 (colsE p j ++ colE p j i).length (flat (colsE p j ++ colE p j i))) (fun _ i _ => j - (intOf i).toNat)
      case atStart => exact ⟨0, Nat.zero_le _, rfl, hbr, by simpa [colE] using hownr⟩
      case round =>
        obtain ⟨i, hi', rfl, hbq, hownq⟩ := hrel
        clear hownr
        obtain ⟨bo', bc', rfl⟩ := form_row hownq
        by_cases hlt2 : i < j
        · have hq := plc_lt hlt2 hlt
          have hq6 : plc i j / 6 < t.size := by rw [HL.out]; omega
          have hll : (colsE p j ++ colE p j i).length ≤ 5100 := by
            rw [List.length_append]
            have h1 := colsE_le p j
            have h2 := colE_le p j i
            have := prs_le100 j (by omega)
            omega
          obtain ⟨L, hL⟩ : ∃ L, L = colsE p j ++ colE p j i := ⟨_, rfl⟩
          rw [← hL] at hownq hll ⊢
          have hLs : colsE p j ++ colE p j (i + 1) = L ++ (if p (plc i j) then [((i : Int), (j : Int))] else []) := by rw [colE_succ, ← List.append_assoc, ← hL]
          have HLs : Hid _ := hLs
          clear hLs hL
          obtain ⟨x1, x2⟩ := HG.out (plc i j / 6) hq6
          obtain ⟨X, hX⟩ : ∃ X, t[plc i j / 6].toNat = X := ⟨_, rfl⟩
          rw [hX] at x1 x2
          have hand := and_bit_dec (X - 63) (by omega) (plc i j % 6) (Nat.mod_lt _ (by omega))
          have hX3 : ((X - 63 : Nat) : Int) = (X : Int) - 63 := by omega
          rw [hX3] at hand
          have hpv : p (plc i j) = decide ((X - 63) / 2 ^ (5 - plc i j % 6) % 2 = 1) := by
            rw [← HP.out]
            unfold bitOf
            rw [Nat.zero_add, List.getD_eq_getElem?_getD]
            have : t.data.toList[plc i j / 6]? = some t[plc i j / 6] := by
              rw [List.getElem?_eq_getElem (by simpa using hq6)]
              rfl
            rw [this]
            simp [hX]
          rw [← hpv] at hand
          clear hpv
          have hw1 : IntKind.i64.wrap ((plc i j : Int) / 6) = (plc i j : Int) / 6 := by
            rw [IntKind.wrap_i64]
            omega
          have ht1 : ((plc i j : Int) / 6).toNat = plc i j / 6 := by omega
          have p2 : (0 : Int) ≤ (plc i j : Int) / 6 ∧ (plc i j : Int) / 6 < (t.size : Int) := by omega
          have hpl : plc i j ≤ 4950 := by omega
          have HAND : Hid _ := hand
          clear hand hX3
          go_upto_region 9 with (go_at_call 26; refine (place_any i j _ (by omega) (by omega)).mono ?_; rintro e w' ⟨rfl, rfl⟩)
          have hbv : ((bitv (plc i j) : Nat) : Int) = ((2 ^ (5 - plc i j % 6) : Nat) : Int) := rfl
          have hcond : (bits .and .u8 ((X : Int) - 63) ((bitv (plc i j) : Nat) : Int) != 0) = p (plc i j) := by rw [hbv]; exact HAND.out
          clear hbv
          go_quiet ((go_at_call 27; exact Calls.quiet_of_same (bit_any (plc i j) _ (by omega))))
          have hown2 : (w'.drewN nq).ownsRow w.heap.size 34 2 (.slice bo' L.length bc') L.length (flat L) := hownq
          have hbn := below_drewN hbq nq
          clear hownq hbq
          generalize w'.drewN nq = V at hown2 hbn ⊢
          have hz := hbn.size
          have hnb : ∀ k, Value.ownBlock (.slice bo' L.length bc') = some k → w.heap.size ≤ k := fun k hk => (hown2.lt k hk).1
          cases hpb : p (plc i j)
          · have hLs : colsE p j ++ colE p j (i + 1) = L := by rw [HLs.out, hpb]; simp
            have HL2 : Hid _ := hLs
            clear hLs
            go_wp2
            go_roundw
            case rel => exact ⟨i + 1, by omega, by go_num, hbn, by rw [HL2.out]; exact hown2⟩
            case measure => simp [intOf]; omega
          · have hLs : colsE p j ++ colE p j (i + 1) = L ++ [((i : Int), (j : Int))] := by rw [HLs.out, hpb]; simp
            have HL2 : Hid _ := hLs
            clear hLs
            go_wp2_with (at_builtin; refine wpList_append_own _ rfl _ _ 22 rfl w.heap.size 34 i0 (.agg #[.int .i64 0, .int .i64 0]) 2 16 Tryd.underlying22 hi hz0 hz1 hz2 rfl (by decide) _ _ _ rfl (hown2.alloc _) ⟨V.heap.size, 0, none⟩ 1 1 [.int .i64 i, .int .i64 j] rfl rfl ?n1 ?n2 ?n3 ?n4 ?n5 ?_)
            case n1 =>
              intro k x hk
              match k, hk with
              | 0, hk => simp at hk; subst hk; simp [Addr.add]
              | 1, hk => simp at hk; subst hk; simp [Addr.add]
            case n2 => intro x hx; simp at hx; rcases hx with rfl | rfl <;> rfl
            case n3 => unfold maxLen; omega
            case n4 => omega
            case n5 => simp; omega
            intro v' w3 hown' hgrow _
            obtain ⟨vo', vc', rfl⟩ := form_row hown'
            have hb3 := below_row hbn hz _ hgrow hnb
            go_wp2
            go_roundw
            case rel => exact ⟨i + 1, by omega, by go_num, hb3, by rw [HL2.out, flat_snoc]; simpa using hown'⟩
            case measure => simp [intOf]; omega
        · have : i = j := by omega
          subst this
          go_wp2
          go_roundw
          case rel => exact ⟨i + 1, by omega, by go_num, hbq, by rw [colsE_succ]; exact hownq⟩
          case measure => simp [intOf]; omega
    · have : j = n := by omega
      subst this
      have hE := edgesAt_row hownr ?_ ?_
      · go_wp2
        go_ret
        exact ⟨hbr, bo, bc, rfl, hE⟩
      · intro e he
        simp only [colsE, colE, List.mem_flatMap, List.mem_map, List.mem_filter, List.mem_range] at he
        obtain ⟨a, ha, b, ⟨hb, _⟩, rfl⟩ := he
        constructor <;> unfold I64 <;> simp <;> omega
      · have := colsE_le p j
        omega
end Go.Proofs.YtbaghbodjpehpabDoor
