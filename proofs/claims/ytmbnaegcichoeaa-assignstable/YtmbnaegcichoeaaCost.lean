/- Min, checkCost: the least of a row; what may be wrong with costs. -/
import Derived.Test.YtmbnaegcichoeaaDeal
namespace Go.Proofs.Ytmbnaegcichoeaa
open Go.RowKit Go.Maps
attribute [local go_sem ↓] Go.wp_at_zero Go.wp_at_succ

/-- The first n numbers behind a place. -/
def NumF (w : World) (vo : Option Addr) (n : Nat) (f : Nat → Int) : Prop := ∀ j, j < n → ∃ b off, vo = some ⟨b, off, none⟩ ∧ w.cell? ⟨b, off + j, none⟩ = some (.int .i64 (f j))
theorem NumF.below {w w' : World} {vo : Option Addr} {n : Nat} {f : Nat → Int} (h : NumF w vo n f) (hb : Below w.heap.size w w') : NumF w' vo n f := fun j hj => by
  obtain ⟨b, off, e, hc⟩ := h j hj
  exact ⟨b, off, e, (hb.cell (World.block_lt_of_cell? w _ hc)).trans hc⟩

set_option maxHeartbeats 1000000 in
theorem min_call {w : World} {vo : Option Addr} {n vc : Nat} {f : Nat → Int} (h : NumF w vo n f) (h0 : 0 < n) (hn : n ≤ 1000) :
    Calls Try.prog 27 #[.slice vo n vc] w fun e w' => ∃ m, e = .returned (.int .i64 m) ∧ (∀ j, j < n → m ≤ f j) ∧ (∃ j, j < n ∧ m = f j) ∧ w' = w := by
  have H : Hid (NumF w vo n f) := h
  obtain ⟨b, off, rfl, c0⟩ := h 0 h0
  rw [Nat.add_zero] at c0
  have k1 : ¬ (n : Int) < 1 := by omega
  have k2 : (0 : Int) < (n : Int) := by omega
  clear h
  go_enter Try.func27, Try.ntmps27
  go_wp2
  clear c0
  go_loopw [3, 4] (fun mv i wr => ∃ (k : Nat) (m : Int), 1 ≤ k ∧ k ≤ n ∧ i = .int .i64 (k : Int) ∧ mv = .int .i64 m ∧ (∀ j, j < k → m ≤ f j) ∧ (∃ j, j < k ∧ m = f j) ∧ wr = w) (fun _ i _ => n - (numOf i).toNat)
  case atStart => exact ⟨1, f 0, Nat.le_refl _, h0, rfl, rfl, fun j hj => (show j = 0 by omega) ▸ Int.le_refl _, ⟨0, by omega, rfl⟩, rfl⟩
  case round =>
    obtain ⟨k, m, hk1, hk, rfl, rfl, hle, hex, hwr⟩ := hrel
    by_cases hlt : k < n
    · obtain ⟨b', off', e, ck⟩ := H.out k hlt
      cases e
      rw [← hwr] at ck
      have i1 : (0 : Int) ≤ (k : Int) := by omega
      have i2 : (k : Int) < (n : Int) := by omega
      have HL : Hid (∀ j, j < k → m ≤ f j) := hle
      have HX : Hid (∃ j, j < k ∧ m = f j) := hex
      have HWR : Hid (wr = w) := hwr
      clear hle hex hwr
      go_wp2
      go_roundw
      case rel => exact ⟨k + 1, min m (f k), by omega, by omega, by go_num, rfl, fun j hj => by
        by_cases e : j = k
        · subst e; omega
        · have := HL.out j (by omega); omega, by
        obtain ⟨j, hj, e⟩ := HX.out
        by_cases h : m ≤ f k
        · exact ⟨j, by omega, by omega⟩
        · exact ⟨k, by omega, by omega⟩, HWR.out⟩
      case measure => simp [numOf]; omega
    · have i2 : ¬ (k : Int) < (n : Int) := by omega
      have hkn : k = n := by omega
      subst hkn
      have HL : Hid (∀ j, j < k → m ≤ f j) := hle
      have HX : Hid (∃ j, j < k ∧ m = f j) := hex
      clear hle hex
      go_wp2
      go_ret
      exact ⟨m, rfl, HL.out, HX.out, rfl⟩
theorem isValue_call (x : Int) (w : World) : Calls Try.prog 25 #[.int .i64 x] w fun e w' => e = .returned (.bool (decide (-1000000 ≤ x ∧ x ≤ 1000000))) ∧ w' = w := by
  by_cases h1 : -1000000 ≤ x
  · by_cases h2 : x ≤ 1000000
    · go_enter Try.func25, Try.ntmps25
      go_wp2
      go_ret
      exact ⟨by simp [h1, h2], rfl⟩
    · go_enter Try.func25, Try.ntmps25
      go_wp2
      go_ret
      exact ⟨by simp [h2], rfl⟩
  · go_enter Try.func25, Try.ntmps25
    go_wp2
    go_ret
    exact ⟨by simp; omega, rfl⟩
/-- The fault of costs: what stands first. -/
def badRow (n : Nat) (l : List Int) : Int := if l.length ≠ n then 6 else if l.all (fun x => decide (-1000000 ≤ x ∧ x ≤ 1000000)) then 0 else 3
def costFrom (n : Nat) : Nat → List (List Int) → Int × Int
  | _, [] => (0, 0)
  | k, l :: ls => if badRow n l = 0 then costFrom n (k + 1) ls else (badRow n l, (k : Int))
def costF (ls : List (List Int)) : Int × Int := if 100 < ls.length then (2, 0) else costFrom ls.length 0 ls
/-- Slices of numbers, as they are handed in. -/
def RowsAt (w : World) (v : Value) (ls : List (List Int)) : Prop :=
  ∃ ao cap, v = .slice ao ls.length cap ∧ ls.length ≤ cap ∧ ls.length ≤ 5864062014805 ∧ ∀ i (h : i < ls.length), ∃ b off x, ao = some ⟨b, off, none⟩ ∧ w.cell? ⟨b, off + i, none⟩ = some x ∧ IntsAt w x ls[i]
theorem RowsAt.below {w w' : World} {v : Value} {ls : List (List Int)} (h : RowsAt w v ls) (hb : Below w.heap.size w w') : RowsAt w' v ls := by
  obtain ⟨ao, cap, h1, h2, h3, h4⟩ := h
  refine ⟨ao, cap, h1, h2, h3, fun i hi => ?_⟩
  obtain ⟨b, off, x, e, hc, hx⟩ := h4 i hi
  exact ⟨b, off, x, e, (hb.cell (World.block_lt_of_cell? w _ hc)).trans hc, hx.below hb⟩
theorem costFrom_good {n : Nat} : ∀ (ls : List (List Int)) (k : Nat), (costFrom n k ls).1 = 0 → costFrom n k ls = (0, 0) ∧ ∀ l ∈ ls, l.length = n ∧ ∀ x ∈ l, -1000000 ≤ x ∧ x ≤ 1000000
  | [], k, _ => ⟨rfl, fun l h => by cases h⟩
  | l :: ls, k, h => by
    unfold costFrom at h ⊢
    by_cases hb : badRow n l = 0
    · rw [if_pos hb] at h ⊢
      obtain ⟨h1, h2⟩ := costFrom_good ls (k + 1) h
      refine ⟨h1, fun m hm => ?_⟩
      rcases List.mem_cons.1 hm with rfl | hm
      · unfold badRow at hb
        by_cases hl : m.length ≠ n
        · rw [if_pos hl] at hb; omega
        · rw [if_neg hl] at hb
          by_cases ha : m.all (fun x => decide (-1000000 ≤ x ∧ x ≤ 1000000)) = true
          · exact ⟨by omega, fun x hx => by simpa using List.all_eq_true.1 ha x hx⟩
          · rw [if_neg ha] at hb; omega
      · exact h2 m hm
    · rw [if_neg hb] at h
      exact absurd h hb
theorem costF_good {ls : List (List Int)} (h : (costF ls).1 = 0) : costF ls = (0, 0) ∧ ls.length ≤ 100 ∧ ∀ l ∈ ls, l.length = ls.length ∧ ∀ x ∈ l, -1000000 ≤ x ∧ x ≤ 1000000 := by
  unfold costF at h ⊢
  by_cases h1 : 100 < ls.length
  · rw [if_pos h1] at h; simp at h
  · rw [if_neg h1] at h ⊢
    obtain ⟨h2, h3⟩ := costFrom_good ls 0 h
    exact ⟨h2, by omega, h3⟩
theorem costFrom_drop {n : Nat} {ls : List (List Int)} {k : Nat} (hk : k < ls.length) : costFrom n k (ls.drop k) = if badRow n ls[k] = 0 then costFrom n (k + 1) (ls.drop (k + 1)) else (badRow n ls[k], (k : Int)) := by
  rw [List.drop_eq_getElem_cons hk]; rfl
theorem two_start (w : World) (t : TypeId) : Two (w.alloc (Obj.cells #[.int .i64 0, .int .i64 0] t)) w.heap.size (.int .i64 0) (.int .i64 0) t := two_new _ _ _ _

set_option maxRecDepth 4000 in
set_option maxHeartbeats 2000000 in
theorem checkCost_call {w : World} {v : Value} {ls : List (List Int)} (h : RowsAt w v ls) :
    Calls Try.prog 18 #[v] w fun e w' => e = .returned (.agg #[.int .i64 (costF ls).1, .int .i64 (costF ls).2]) ∧ Below w.heap.size w w' := by
  obtain ⟨ao, cap, rfl, hcap, hbig, hrows⟩ := h
  have HR : Hid (∀ i (h : i < ls.length), ∃ b off x, ao = some ⟨b, off, none⟩ ∧ w.cell? ⟨b, off + i, none⟩ = some x ∧ IntsAt w x ls[i]) := hrows
  clear hrows
  obtain ⟨fc, fd, hf⟩ : ∃ fc fd, costF ls = (fc, fd) := ⟨_, _, rfl⟩
  rw [hf]
  have HF : Hid (costF ls = (fc, fd)) := hf
  clear hf
  go_enter Try.func18, Try.ntmps18
  go_upto_region 1 with (fail)
  have t2 := two_start w 25
  have hB0 := below_alloc (Below.refl _ w) (Obj.cells #[.int .i64 0, .int .i64 0] 25)
  generalize w.alloc (Obj.cells #[.int .i64 0, .int .i64 0] 25) = W0 at t2 hB0 ⊢
  have HT : Hid (Two W0 w.heap.size (.int .i64 0) (.int .i64 0) 25) := t2
  clear t2
  by_cases hmany : 100 < ls.length
  · have k1 : (ls.length : Int) > 100 := by omega
    have hE : (2, 0) = (fc, fd) := by
      have := HF.out
      unfold costF at this
      rwa [if_pos hmany] at this
    cases hE
    have ff := free_two HT.out
    obtain ⟨q0, q1⟩ := cell_two HT.out
    go_wp2
    have x9 := two_setN (x' := .int .i64 2) (y' := .int .i64 0) HT.out
    have hB4 := (hB0.setCell (p := ⟨w.heap.size, 0, none⟩) (Nat.le_refl _) (.int .i64 2)).setCell (p := ⟨w.heap.size, 1, none⟩) (Nat.le_refl _) (.int .i64 0)
    generalize ((W0.setCell ⟨w.heap.size, 0, none⟩ (.int .i64 2)).setCell ⟨w.heap.size, 1, none⟩ (.int .i64 0)) = W4 at x9 hB4 ⊢
    obtain ⟨n8, n81⟩ := cell_two x9
    refine bodyPost_ret (v := .agg #[.int .i64 2, .int .i64 0]) ?_ rfl ⟨rfl, hB4⟩
    simp [results, Try.results18, go_sem, n8, n81]
  · have k1 : ¬ (ls.length : Int) > 100 := by omega
    have HE : Hid (costFrom ls.length 0 ls = (fc, fd)) := by
      have := HF.out
      unfold costF at this
      rwa [if_neg hmany] at this
    clear HF
    go_wp2
    go_loopw [13] (fun iv' wr => ∃ k : Nat, k ≤ ls.length ∧ iv' = .int .i64 (k : Int) ∧ costFrom ls.length k (ls.drop k) = (fc, fd) ∧ wr = W0) (fun iv' _ => ls.length - (numOf iv').toNat)
    case atStart => exact ⟨0, Nat.zero_le _, rfl, by simpa using HE.out, rfl⟩
    case round =>
      clear HE
      obtain ⟨k, hk, rfl, hcf, hwr⟩ := hrel
      have hwr' := hwr.symm
      clear hwr
      subst hwr'
      by_cases hlt : k < ls.length
      · obtain ⟨b, off, x, rfl, cx, hx⟩ := HR.out k hlt
        obtain ⟨lo, lc, rfl, hl2, _, hcells⟩ := hx
        rw [costFrom_drop hlt] at hcf
        have HCE : Hid (if badRow ls.length ls[k] = 0 then costFrom ls.length (k + 1) (ls.drop (k + 1)) = (fc, fd) else (badRow ls.length ls[k], (k : Int)) = (fc, fd)) := by
          show if _ then _ else _
          by_cases hb : badRow ls.length ls[k] = 0
          · rw [if_pos hb] at hcf ⊢; exact hcf
          · rw [if_neg hb] at hcf ⊢; exact hcf
        have hcs : ∀ j (h : j < (ls[k]).length), ∃ b off, lo = some ⟨b, off, none⟩ ∧ W0.cell? ⟨b, off + j, none⟩ = some (.int .i64 (ls[k])[j]) := fun j hj => by
          obtain ⟨b', off', e, hc⟩ := hcells j hj
          exact ⟨b', off', e, (hB0.cell (World.block_lt_of_cell? w _ hc)).trans hc⟩
        have cx0 := (hB0.cell (World.block_lt_of_cell? w _ cx)).trans cx
        generalize ls[k] = l at hl2 HCE hcs cx0
        have HCS : Hid (∀ j (h : j < l.length), ∃ b off, lo = some ⟨b, off, none⟩ ∧ W0.cell? ⟨b, off + j, none⟩ = some (.int .i64 l[j])) := hcs
        have i1 : (0 : Int) ≤ (k : Int) := by omega
        have i2 : (k : Int) < (ls.length : Int) := by omega
        clear hcf cx hcells hcs
        by_cases hll : l.length = ls.length
        · have i3 : ((l.length : Int) != (ls.length : Int)) = false := by simp [hll]
          have HLL : Hid (l.length = ls.length) := hll
          clear hll
          go_wp2
          clear cx0
          go_loopw [27] (fun jv wr' => ∃ m : Nat, m ≤ l.length ∧ jv = .int .i64 (m : Int) ∧ (∀ x ∈ l.take m, -1000000 ≤ x ∧ x ≤ 1000000) ∧ wr' = W0) (fun jv _ => l.length - (numOf jv).toNat)
          case atStart => exact ⟨0, Nat.zero_le _, rfl, fun x hx => by simp at hx, rfl⟩
          case round =>
            obtain ⟨m, hm, rfl, hgood, hwr⟩ := hrel
            have hwr' := hwr.symm
            clear hwr
            subst hwr'
            have HGOOD : Hid (∀ x ∈ l.take m, -1000000 ≤ x ∧ x ≤ 1000000) := hgood
            clear hgood
            by_cases hltm : m < l.length
            · obtain ⟨b', off', rfl, cj⟩ := HCS.out m hltm
              have j1 : (0 : Int) ≤ (m : Int) := by omega
              have j2 : (m : Int) < (l.length : Int) := by omega
              have HTS : Hid (l.take (m + 1) = l.take m ++ [l[m]]) := List.take_succ_eq_append_getElem hltm
              have hmem : l[m] ∈ l := List.getElem_mem hltm
              have HMEM : Hid (l[m] ∈ l) := hmem
              clear hmem
              generalize l[m] = y at cj HTS HMEM
              have h25 := isValue_call y W0
              by_cases hy : -1000000 ≤ y ∧ y ≤ 1000000
              · rw [decide_eq_true hy] at h25
                have H25 : Hid (Calls Try.prog 25 #[.int .i64 y] W0 fun e w' => e = .returned (.bool true) ∧ w' = W0) := h25
                have HY : Hid (-1000000 ≤ y ∧ y ≤ 1000000) := hy
                clear h25 hy
                go_wp2_with (first | (go_at_call 25; refine Calls.mono H25.out ?_; rintro r w2 ⟨rfl, hw2⟩; rw [hw2]; clear hw2) | go_in)
                go_roundw
                case rel => exact ⟨m + 1, by omega, by go_num, fun x hx => by
                  rw [HTS.out] at hx
                  rcases List.mem_append.1 hx with h | h
                  · exact HGOOD.out x h
                  · simp at h; subst h; exact HY.out, trivial⟩
                case measure => simp [numOf]; omega
              · rw [decide_eq_false hy] at h25
                have H25 : Hid (Calls Try.prog 25 #[.int .i64 y] W0 fun e w' => e = .returned (.bool false) ∧ w' = W0) := h25
                have hbr : badRow ls.length l = 3 := by
                  unfold badRow
                  rw [if_neg (by simpa using HLL.out), if_neg (fun ha => hy (by simpa using List.all_eq_true.1 ha y HMEM.out))]
                have hE : ((3 : Int), (k : Int)) = (fc, fd) := by
                  have := HCE.out
                  rwa [hbr, if_neg (by omega)] at this
                cases hE
                clear h25 hy hbr HCE
                have ff := free_two HT.out
                obtain ⟨q0, q1⟩ := cell_two HT.out
                go_wp2_with (first | (go_at_call 25; refine Calls.mono H25.out ?_; rintro r w2 ⟨rfl, hw2⟩; rw [hw2]; clear hw2) | go_in)
                have x9 := two_setN (x' := .int .i64 3) (y' := .int .i64 (k : Int)) HT.out
                have hB4 := (hB0.setCell (p := ⟨w.heap.size, 0, none⟩) (Nat.le_refl _) (.int .i64 3)).setCell (p := ⟨w.heap.size, 1, none⟩) (Nat.le_refl _) (.int .i64 (k : Int))
                generalize ((W0.setCell ⟨w.heap.size, 0, none⟩ (.int .i64 3)).setCell ⟨w.heap.size, 1, none⟩ (.int .i64 (k : Int))) = W4 at x9 hB4 ⊢
                obtain ⟨n8, n81⟩ := cell_two x9
                refine bodyPost_ret (v := .agg #[.int .i64 3, .int .i64 (k : Int)]) ?_ rfl ⟨rfl, hB4⟩
                simp [results, Try.results18, go_sem, n8, n81]
            · have j2 : ¬ (m : Int) < (l.length : Int) := by omega
              have hml : m = l.length := by omega
              have hbr : badRow ls.length l = 0 := by
                unfold badRow
                rw [if_neg (by simpa using HLL.out), if_pos (List.all_eq_true.2 (fun x hx => by
                  have := HGOOD.out x (by rw [hml, List.take_length]; exact hx)
                  simpa using this))]
              have HNX : Hid (costFrom ls.length (k + 1) (ls.drop (k + 1)) = (fc, fd)) := by
                have := HCE.out
                rwa [hbr, if_pos rfl] at this
              clear hml hbr HCE
              go_wp2
              go_roundw
              case rel => exact ⟨k + 1, by omega, by go_num, HNX.out, trivial⟩
              case measure => simp [numOf]; omega
        · have i3 : ((l.length : Int) != (ls.length : Int)) = true := by simp; omega
          have hbr : badRow ls.length l = 6 := if_pos hll
          have hE : ((6 : Int), (k : Int)) = (fc, fd) := by
            have := HCE.out
            rwa [hbr, if_neg (by omega)] at this
          cases hE
          clear hll hbr HCE
          have ff := free_two HT.out
          obtain ⟨q0, q1⟩ := cell_two HT.out
          go_wp2
          have x9 := two_setN (x' := .int .i64 6) (y' := .int .i64 (k : Int)) HT.out
          have hB4 := (hB0.setCell (p := ⟨w.heap.size, 0, none⟩) (Nat.le_refl _) (.int .i64 6)).setCell (p := ⟨w.heap.size, 1, none⟩) (Nat.le_refl _) (.int .i64 (k : Int))
          generalize ((W0.setCell ⟨w.heap.size, 0, none⟩ (.int .i64 6)).setCell ⟨w.heap.size, 1, none⟩ (.int .i64 (k : Int))) = W4 at x9 hB4 ⊢
          obtain ⟨n8, n81⟩ := cell_two x9
          refine bodyPost_ret (v := .agg #[.int .i64 6, .int .i64 (k : Int)]) ?_ rfl ⟨rfl, hB4⟩
          simp [results, Try.results18, go_sem, n8, n81]
      · have i2 : ¬ (k : Int) < (ls.length : Int) := by omega
        have hE : ((0 : Int), (0 : Int)) = (fc, fd) := by
          rw [← hcf, List.drop_of_length_le (by omega)]; rfl
        cases hE
        clear hcf
        have ff := free_two HT.out
        obtain ⟨q0, q1⟩ := cell_two HT.out
        go_wp2
        have x9 := two_setN (x' := .int .i64 0) (y' := .int .i64 0) HT.out
        have hB4 := (hB0.setCell (p := ⟨w.heap.size, 0, none⟩) (Nat.le_refl _) (.int .i64 0)).setCell (p := ⟨w.heap.size, 1, none⟩) (Nat.le_refl _) (.int .i64 0)
        generalize ((W0.setCell ⟨w.heap.size, 0, none⟩ (.int .i64 0)).setCell ⟨w.heap.size, 1, none⟩ (.int .i64 0)) = W4 at x9 hB4 ⊢
        obtain ⟨n8, n81⟩ := cell_two x9
        refine bodyPost_ret (v := .agg #[.int .i64 0, .int .i64 0]) ?_ rfl ⟨rfl, hB4⟩
        simp [results, Try.results18, go_sem, n8, n81]
end Go.Proofs.Ytmbnaegcichoeaa
