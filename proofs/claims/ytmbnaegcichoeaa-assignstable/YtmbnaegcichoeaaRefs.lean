/- The document's own small answers: Ints, Lists, Rank, All, CostFault. -/
import Derived.Test.YtmbnaegcichoeaaCost
namespace Go.Proofs.Ytmbnaegcichoeaa
open Go.RowKit Go.Maps
attribute [local go_sem ↓] Go.wp_at_zero Go.wp_at_succ

theorem drewN_add (w : World) (a b : Nat) : (w.drewN a).drewN b = w.drewN (a + b) := World.drewN_drewN w a b
theorem cell_drewN {w : World} {a : Addr} {x : Value} (h : w.cell? a = some x) (m : Nat) : (w.drewN m).cell? a = some x := h

set_option maxHeartbeats 400000 in
theorem ints_true (va vb : Value) (l : List Int) (w : World) (hA : IntsAt w va l) (hB : IntsAt w vb l) :
    Calls Try.prog 21 #[va, vb] w fun e w' => e = .returned (.bool true) ∧ ∃ m, w' = w.drewN m := by
  obtain ⟨ao, cap, rfl, hl2, hI, hcells⟩ := hA
  obtain ⟨bo, bcap, rfl, _, _, hcells2⟩ := hB
  clear hI
  have hll : ((l.length : Int) != (l.length : Int)) = false := by simp
  go_enter Try.func21, Try.ntmps21
  go_wp2
  go_loopw [5] (fun i wr => ∃ k : Nat, k ≤ l.length ∧ i = .int .i64 k ∧ ∃ m, wr = w.drewN m) (fun i _ => l.length - (numOf i).toNat)
  case atStart => exact ⟨0, Nat.zero_le _, rfl, 0, rfl⟩
  case round =>
    obtain ⟨k, hk, rfl, m0, hm0⟩ := hrel
    have HM : Hid (wr = w.drewN m0) := hm0
    by_cases hlt : k < l.length
    · obtain ⟨b, off, rfl, cx⟩ := hcells k hlt
      obtain ⟨b', off', rfl, cx'⟩ := hcells2 k hlt
      have cx1 : wr.cell? ⟨b, off + k, none⟩ = some (.int .i64 l[k]) := by rw [hm0]; exact cx
      have cx2 : wr.cell? ⟨b', off' + k, none⟩ = some (.int .i64 l[k]) := by rw [hm0]; exact cx'
      generalize l[k] = x at cx1 cx2
      have hne : (x != x) = false := by simp
      clear hcells hcells2 hm0 cx cx'
      have hk1 : (0 : Int) ≤ (k : Int) := by omega
      have hk2 : (k : Int) < (l.length : Int) := by omega
      go_wp2
      go_quiet (fail)
      go_wp2
      go_roundw
      case rel => exact ⟨k + 1, by omega, by go_num, m0 + nq, by rw [HM.out, drewN_add]⟩
      case measure => simp [numOf]; omega
    · have hke : k = l.length := by omega
      subst hke
      clear hm0
      go_wp2
      go_ret
      exact ⟨rfl, m0, HM.out⟩

set_option maxHeartbeats 1000000 in
theorem lists_true (va vb : Value) (ls : List (List Int)) (w : World) (hA : RowsAt w va ls) (hB : RowsAt w vb ls) :
    Calls Try.prog 9 #[va, vb] w fun e w' => e = .returned (.bool true) ∧ ∃ m, w' = w.drewN m := by
  obtain ⟨ao, cap, rfl, _, _, hrA⟩ := hA
  obtain ⟨bo, bcap, rfl, _, _, hrB⟩ := hB
  have HA : Hid (∀ i (h : i < ls.length), ∃ b off x, ao = some ⟨b, off, none⟩ ∧ w.cell? ⟨b, off + i, none⟩ = some x ∧ IntsAt w x ls[i]) := hrA
  have HB : Hid (∀ i (h : i < ls.length), ∃ b off x, bo = some ⟨b, off, none⟩ ∧ w.cell? ⟨b, off + i, none⟩ = some x ∧ IntsAt w x ls[i]) := hrB
  clear hrA hrB
  have hll : ((ls.length : Int) != (ls.length : Int)) = false := by simp
  go_enter Try.func9, Try.ntmps9
  go_wp2
  go_loopw [5] (fun i wr => ∃ k : Nat, k ≤ ls.length ∧ i = .int .i64 k ∧ ∃ m, wr = w.drewN m) (fun i _ => ls.length - (numOf i).toNat)
  case atStart => exact ⟨0, Nat.zero_le _, rfl, 0, rfl⟩
  case round =>
    obtain ⟨k, hk, rfl, m0, hm0⟩ := hrel
    have HM : Hid (wr = w.drewN m0) := hm0
    by_cases hlt : k < ls.length
    · obtain ⟨b, off, x, rfl, cx, hx⟩ := HA.out k hlt
      obtain ⟨b', off', y, rfl, cy, hy⟩ := HB.out k hlt
      have cx1 : wr.cell? ⟨b, off + k, none⟩ = some x := by rw [hm0]; exact cx
      have cx2 : wr.cell? ⟨b', off' + k, none⟩ = some y := by rw [hm0]; exact cy
      have h21 : ∀ m, Calls Try.prog 21 #[x, y] (wr.drewN m) fun e w' => e = .returned (.bool true) ∧ ∃ m', w' = (wr.drewN m).drewN m' := fun m => ints_true x y ls[k] _ ((by rw [hm0]; exact hx.below (drewN_below w m0) : IntsAt wr x ls[k]).below (drewN_below wr m)) ((by rw [hm0]; exact hy.below (drewN_below w m0) : IntsAt wr y ls[k]).below (drewN_below wr m))
      have H21 : Hid (∀ m, Calls Try.prog 21 #[x, y] (wr.drewN m) fun e w' => e = .returned (.bool true) ∧ ∃ m', w' = (wr.drewN m).drewN m') := h21
      obtain ⟨xo, xc, rfl, _⟩ := hx
      obtain ⟨yo, yc, rfl, _⟩ := hy
      have hk1 : (0 : Int) ≤ (k : Int) := by omega
      have hk2 : (k : Int) < (ls.length : Int) := by omega
      clear hm0 cx cy h21
      go_upto_region 6 with (fail)
      go_quiet ((go_at_call 21; exact Calls.quiet_of (H21.out _)))
      go_wp2
      go_roundw
      case rel => exact ⟨k + 1, by omega, by go_num, m0 + nq, by rw [HM.out, drewN_add]⟩
      case measure => simp [numOf]; omega
    · have hke : k = ls.length := by omega
      subst hke
      clear hm0
      go_wp2
      go_ret
      exact ⟨rfl, m0, HM.out⟩

set_option maxHeartbeats 600000 in
theorem rank_call {w : World} {vo : Option Addr} {n vc : Nat} {f : Nat → Int} (h : NumF w vo n f) (hn : n ≤ 100000) (x : Int) :
    Calls Try.prog 16 #[.slice vo n vc, .int .i64 x] w fun e w' => (∃ m : Nat, e = .returned (.int .i64 (m : Int)) ∧ m ≤ n ∧ (∀ j, j < m → f j ≠ x) ∧ (m < n → f m = x)) ∧ w' = w := by
  have H : Hid (NumF w vo n f) := h
  clear h
  go_enter Try.func16, Try.ntmps16
  go_wp2
  go_loopw [4, 5] (fun _ i wr => ∃ k : Nat, k ≤ n ∧ i = .int .i64 (k : Int) ∧ (∀ j, j < k → f j ≠ x) ∧ wr = w) (fun _ i _ => n - (numOf i).toNat)
  case atStart => exact ⟨0, Nat.zero_le _, rfl, fun j hj => by omega, rfl⟩
  case round =>
    obtain ⟨k, hk, rfl, hne, hwr⟩ := hrel
    have hwr' := hwr.symm
    clear hwr
    subst hwr'
    have HNE : Hid (∀ j, j < k → f j ≠ x) := hne
    clear hne
    by_cases hlt : k < n
    · obtain ⟨b, off, rfl, ck⟩ := H.out k hlt
      have i1 : (0 : Int) ≤ (k : Int) := by omega
      have i2 : (k : Int) < (n : Int) := by omega
      by_cases he : f k = x
      · have k1 : (f k == x) = true := by rw [beq_iff_eq]; exact he
        have HE : Hid (f k = x) := he
        clear he
        go_wp2
        go_ret
        exact ⟨⟨k, rfl, hk, HNE.out, fun _ => HE.out⟩, rfl⟩
      · have k1 : (f k == x) = false := by rw [beq_eq_false_iff_ne]; exact he
        have HE : Hid (f k ≠ x) := he
        clear he
        go_wp2
        go_roundw
        case rel => exact ⟨k + 1, by omega, by go_num, fun j hj => by
          by_cases e : j = k
          · subst e; exact HE.out
          · exact HNE.out j (by omega), trivial⟩
        case measure => simp [numOf]; omega
    · have i2 : ¬ (k : Int) < (n : Int) := by omega
      have hkn : k = n := by omega
      subst hkn
      go_wp2
      go_ret
      exact ⟨⟨k, rfl, Nat.le_refl _, HNE.out, fun h => by omega⟩, rfl⟩

set_option maxHeartbeats 1000000 in
theorem all_true {w : World} {vo : Option Addr} {n vc : Nat} {f : Nat → Int} (h : NumF w vo n f) (hn : n ≤ 1000) (hc : n ≤ vc) (hlt : ∀ j, j < n → 0 ≤ f j ∧ f j < n) (hinj : ∀ i j, i < n → j < n → f i = f j → i = j) :
    Calls Try.prog 10 #[.slice vo n vc, .int .i64 (n : Int)] w fun e w' => e = .returned (.bool true) ∧ Below w.heap.size w w' := by
  have H : Hid (NumF w vo n f) := h
  have HL : Hid (∀ j, j < n → 0 ≤ f j ∧ f j < n) := hlt
  have HI : Hid (∀ i j, i < n → j < n → f i = f j → i = j) := hinj
  clear h hlt hinj
  have k0 : ((n : Int) != (n : Int)) = false := by simp
  go_enter Try.func10, Try.ntmps10
  go_wp2
  go_loopw [4, 5] (fun _ i wr => ∃ k : Nat, k ≤ n ∧ i = .int .i64 (k : Int) ∧ ∃ m, wr = w.drewN m) (fun _ i _ => n - (numOf i).toNat)
  case atStart => exact ⟨0, Nat.zero_le _, rfl, 0, rfl⟩
  case round =>
    obtain ⟨k, hk, rfl, m0, hm0⟩ := hrel
    have HM : Hid (wr = w.drewN m0) := hm0
    by_cases hltk : k < n
    · obtain ⟨b, off, rfl, ck⟩ := H.out k hltk
      have ck1 : wr.cell? ⟨b, off + k, none⟩ = some (.int .i64 (f k)) := by rw [hm0]; exact ck
      obtain ⟨hf1, hf2⟩ := HL.out k hltk
      have h16 : ∀ m, Calls Try.prog 16 #[.slice (some ⟨b, off, none⟩) k vc, .int .i64 (f k)] (wr.drewN m) fun e w' => e = .returned (.int .i64 (k : Int)) ∧ w' = wr.drewN m := fun m => (rank_call (n := k) (f := f) (fun j hj => by
        obtain ⟨b', off', e, hc'⟩ := H.out j (by omega)
        cases e
        exact ⟨b, off, rfl, by rw [hm0]; exact hc'⟩) (by omega) (f k)).mono (by
        rintro e w' ⟨⟨q, rfl, hq, h1, h2⟩, rfl⟩
        refine ⟨?_, rfl⟩
        have : q = k := by
          by_cases e : q < k
          · have := HI.out q k (by omega) hltk (h2 e)
            omega
          · omega
        rw [this])
      have H16 : Hid (∀ m, Calls Try.prog 16 #[.slice (some ⟨b, off, none⟩) k vc, .int .i64 (f k)] (wr.drewN m) fun e w' => e = .returned (.int .i64 (k : Int)) ∧ w' = wr.drewN m) := h16
      have i1 : (0 : Int) ≤ (k : Int) := by omega
      have i2 : (k : Int) < (n : Int) := by omega
      have i3 : ¬ f k < 0 := by omega
      have i4 : ¬ f k ≥ (n : Int) := by omega
      have i5 : ¬ (k : Int) < (k : Int) := by omega
      have i6 : (k : Int) ≤ (vc : Int) := by omega
      clear hm0 ck h16 hf1 hf2
      go_upto_region 6 with (fail)
      go_quiet ((go_at_call 16; exact Calls.quiet_of_same (H16.out _)))
      go_wp2
      go_roundw
      case rel => exact ⟨k + 1, by omega, by go_num, m0 + nq, by rw [HM.out, drewN_add]⟩
      case measure => simp [numOf]; omega
    · have i2 : ¬ (k : Int) < (n : Int) := by omega
      clear hm0
      go_wp2
      go_ret
      exact ⟨rfl, by rw [HM.out]; exact drewN_below w m0⟩

set_option maxRecDepth 4000 in
set_option maxHeartbeats 2000000 in
theorem costFault_call {w : World} {v : Value} {ls : List (List Int)} (h : RowsAt w v ls) :
    Calls Try.prog 6 #[v] w fun e w' => e = .returned (.agg #[.int .i64 (costF ls).1, .int .i64 (costF ls).2]) ∧ Below w.heap.size w w' := by
  obtain ⟨ao, cap, rfl, hcap, hbig, hrows⟩ := h
  have HR : Hid (∀ i (h : i < ls.length), ∃ b off x, ao = some ⟨b, off, none⟩ ∧ w.cell? ⟨b, off + i, none⟩ = some x ∧ IntsAt w x ls[i]) := hrows
  clear hrows
  obtain ⟨fc, fd, hf⟩ : ∃ fc fd, costF ls = (fc, fd) := ⟨_, _, rfl⟩
  rw [hf]
  have HF : Hid (costF ls = (fc, fd)) := hf
  clear hf
  go_enter Try.func6, Try.ntmps6
  go_upto_region 1 with (fail)
  have t2 := two_start w 25
  have hB0 := below_alloc (Below.refl _ w) (Obj.cells #[.int .i64 0, .int .i64 0] 25)
  generalize w.alloc (Obj.cells #[.int .i64 0, .int .i64 0] 25) = W0 at t2 hB0 ⊢
  have HT : Hid (Two W0 w.heap.size (.int .i64 0) (.int .i64 0) 25) := t2
  have hend : ∀ (a b : Int) (W1 : World), Below W0.heap.size W0 W1 → (Two ((W1.setCell ⟨w.heap.size, 0, none⟩ (.int .i64 a)).setCell ⟨w.heap.size, 1, none⟩ (.int .i64 b)) w.heap.size (.int .i64 a) (.int .i64 b) 25 ∧ Below w.heap.size w ((W1.setCell ⟨w.heap.size, 0, none⟩ (.int .i64 a)).setCell ⟨w.heap.size, 1, none⟩ (.int .i64 b))) := fun a b W1 hb => ⟨two_setN (two_next HT.out hb), ((below_next hB0 hb).setCell (p := ⟨w.heap.size, 0, none⟩) (Nat.le_refl _) _).setCell (p := ⟨w.heap.size, 1, none⟩) (Nat.le_refl _) _⟩
  have HEND : Hid (∀ (a b : Int) (W1 : World), Below W0.heap.size W0 W1 → (Two ((W1.setCell ⟨w.heap.size, 0, none⟩ (.int .i64 a)).setCell ⟨w.heap.size, 1, none⟩ (.int .i64 b)) w.heap.size (.int .i64 a) (.int .i64 b) 25 ∧ Below w.heap.size w ((W1.setCell ⟨w.heap.size, 0, none⟩ (.int .i64 a)).setCell ⟨w.heap.size, 1, none⟩ (.int .i64 b)))) := hend
  clear t2 hend
  by_cases hmany : 100 < ls.length
  · have k1 : (ls.length : Int) > 100 := by omega
    have hE : (2, 0) = (fc, fd) := by
      have := HF.out
      unfold costF at this
      rwa [if_pos hmany] at this
    cases hE
    go_wp2_with (first | (go_at_call 17; refine (refF_any 2 0 _).mono ?_; rintro e W1 ⟨rfl, hb1⟩; have y2 := two_next HT.out hb1; have ff := free_two y2; obtain ⟨q0, q1⟩ := cell_two y2) | go_in)
    obtain ⟨x9, hB4⟩ := HEND.out 2 0 W1 hb1
    generalize ((W1.setCell ⟨w.heap.size, 0, none⟩ (.int .i64 2)).setCell ⟨w.heap.size, 1, none⟩ (.int .i64 0)) = W4 at x9 hB4 ⊢
    obtain ⟨n8, n81⟩ := cell_two x9
    refine bodyPost_ret (v := .agg #[.int .i64 2, .int .i64 0]) ?_ rfl ⟨rfl, hB4⟩
    simp [results, Try.results6, go_sem, n8, n81]
  · have k1 : ¬ (ls.length : Int) > 100 := by omega
    have HE : Hid (costFrom ls.length 0 ls = (fc, fd)) := by
      have := HF.out
      unfold costF at this
      rwa [if_neg hmany] at this
    clear HF
    go_wp2
    go_loopw [3] (fun iv' wr => ∃ k : Nat, k ≤ ls.length ∧ iv' = .int .i64 (k : Int) ∧ costFrom ls.length k (ls.drop k) = (fc, fd) ∧ wr = W0) (fun iv' _ => ls.length - (numOf iv').toNat)
    case atStart => exact ⟨0, Nat.zero_le _, rfl, by simpa using HE.out, rfl⟩
    case round =>
      clear HE
      obtain ⟨k, hk, rfl, hcf, hwr⟩ := hrel
      have hwr' := hwr.symm
      clear hwr
      subst hwr'
      by_cases hlt : k < ls.length
      · obtain ⟨b, off, x, rfl, cx, hx⟩ := HR.out k hlt
        obtain ⟨lo, lc, rfl, hl2, _, hcells⟩ := hx
        rw [costFrom_drop hlt] at hcf
        have HCE : Hid (if badRow ls.length ls[k] = 0 then costFrom ls.length (k + 1) (ls.drop (k + 1)) = (fc, fd) else (badRow ls.length ls[k], (k : Int)) = (fc, fd)) := by
          show if _ then _ else _
          by_cases hb : badRow ls.length ls[k] = 0
          · rw [if_pos hb] at hcf ⊢; exact hcf
          · rw [if_neg hb] at hcf ⊢; exact hcf
        have hcs : ∀ j (h : j < (ls[k]).length), ∃ b off, lo = some ⟨b, off, none⟩ ∧ W0.cell? ⟨b, off + j, none⟩ = some (.int .i64 (ls[k])[j]) := fun j hj => by
          obtain ⟨b', off', e, hc⟩ := hcells j hj
          exact ⟨b', off', e, (hB0.cell (World.block_lt_of_cell? w _ hc)).trans hc⟩
        have cx0 := (hB0.cell (World.block_lt_of_cell? w _ cx)).trans cx
        generalize ls[k] = l at hl2 HCE hcs cx0
        have HCS : Hid (∀ j (h : j < l.length), ∃ b off, lo = some ⟨b, off, none⟩ ∧ W0.cell? ⟨b, off + j, none⟩ = some (.int .i64 l[j])) := hcs
        have i1 : (0 : Int) ≤ (k : Int) := by omega
        have i2 : (k : Int) < (ls.length : Int) := by omega
        clear hcf cx hcells hcs
        by_cases hll : l.length = ls.length
        · have i3 : ((l.length : Int) != (ls.length : Int)) = false := by simp [hll]
          have HLL : Hid (l.length = ls.length) := hll
          clear hll
          go_wp2
          go_loopw [4] (fun jv wr' => ∃ m : Nat, m ≤ ls.length ∧ jv = .int .i64 (m : Int) ∧ (∀ x ∈ l.take m, -1000000 ≤ x ∧ x ≤ 1000000) ∧ wr' = W0) (fun jv _ => ls.length - (numOf jv).toNat)
          case atStart => exact ⟨0, Nat.zero_le _, rfl, fun x hx => by simp at hx, rfl⟩
          case round =>
            obtain ⟨m, hm, rfl, hgood, hwr⟩ := hrel
            have hwr' := hwr.symm
            clear hwr
            subst hwr'
            have HGOOD : Hid (∀ x ∈ l.take m, -1000000 ≤ x ∧ x ≤ 1000000) := hgood
            clear hgood
            by_cases hltm : m < ls.length
            · have hltl : m < l.length := by have := HLL.out; omega
              obtain ⟨b', off', rfl, cj⟩ := HCS.out m hltl
              have j1 : (0 : Int) ≤ (m : Int) := by omega
              have j2 : (m : Int) < (ls.length : Int) := by omega
              have j3 : (m : Int) < (l.length : Int) := by omega
              have HTS : Hid (l.take (m + 1) = l.take m ++ [l[m]]) := List.take_succ_eq_append_getElem hltl
              have hmem : l[m] ∈ l := List.getElem_mem hltl
              have HMEM : Hid (l[m] ∈ l) := hmem
              clear hmem
              generalize l[m] = y at cj HTS HMEM
              by_cases hy : -1000000 ≤ y ∧ y ≤ 1000000
              · have y1 : ¬ y < -1000000 := by omega
                have y2 : ¬ y > 1000000 := by omega
                have HY : Hid (-1000000 ≤ y ∧ y ≤ 1000000) := hy
                clear hy
                go_wp2
                go_roundw
                case rel => exact ⟨m + 1, by omega, by go_num, fun x hx => by
                  rw [HTS.out] at hx
                  rcases List.mem_append.1 hx with h | h
                  · exact HGOOD.out x h
                  · simp at h; subst h; exact HY.out, trivial⟩
                case measure => simp [numOf]; omega
              · have hbr : badRow ls.length l = 3 := by
                  unfold badRow
                  rw [if_neg (by simpa using HLL.out), if_neg (fun ha => hy (by simpa using List.all_eq_true.1 ha y HMEM.out))]
                have hE : ((3 : Int), (k : Int)) = (fc, fd) := by
                  have := HCE.out
                  rwa [hbr, if_neg (by omega)] at this
                cases hE
                clear hbr HCE
                by_cases y1 : y < -1000000
                · clear hy
                  go_wp2_with (first | (go_at_call 17; refine (refF_any 3 (k : Int) _).mono ?_; rintro e W1 ⟨rfl, hb1⟩; have y2 := two_next HT.out hb1; have ff := free_two y2; obtain ⟨q0, q1⟩ := cell_two y2) | go_in)
                  obtain ⟨x9, hB4⟩ := HEND.out 3 (k : Int) W1 hb1
                  generalize ((W1.setCell ⟨w.heap.size, 0, none⟩ (.int .i64 3)).setCell ⟨w.heap.size, 1, none⟩ (.int .i64 (k : Int))) = W4 at x9 hB4 ⊢
                  obtain ⟨n8, n81⟩ := cell_two x9
                  refine bodyPost_ret (v := .agg #[.int .i64 3, .int .i64 (k : Int)]) ?_ rfl ⟨rfl, hB4⟩
                  simp [results, Try.results6, go_sem, n8, n81]
                · have y3 : y > 1000000 := by omega
                  clear hy
                  go_wp2_with (first | (go_at_call 17; refine (refF_any 3 (k : Int) _).mono ?_; rintro e W1 ⟨rfl, hb1⟩; have y2 := two_next HT.out hb1; have ff := free_two y2; obtain ⟨q0, q1⟩ := cell_two y2) | go_in)
                  obtain ⟨x9, hB4⟩ := HEND.out 3 (k : Int) W1 hb1
                  generalize ((W1.setCell ⟨w.heap.size, 0, none⟩ (.int .i64 3)).setCell ⟨w.heap.size, 1, none⟩ (.int .i64 (k : Int))) = W4 at x9 hB4 ⊢
                  obtain ⟨n8, n81⟩ := cell_two x9
                  refine bodyPost_ret (v := .agg #[.int .i64 3, .int .i64 (k : Int)]) ?_ rfl ⟨rfl, hB4⟩
                  simp [results, Try.results6, go_sem, n8, n81]
            · have j2 : ¬ (m : Int) < (ls.length : Int) := by omega
              have hml : m = l.length := by have := HLL.out; omega
              have hbr : badRow ls.length l = 0 := by
                unfold badRow
                rw [if_neg (by simpa using HLL.out), if_pos (List.all_eq_true.2 (fun x hx => by
                  have := HGOOD.out x (by rw [hml, List.take_length]; exact hx)
                  simpa using this))]
              have HNX : Hid (costFrom ls.length (k + 1) (ls.drop (k + 1)) = (fc, fd)) := by
                have := HCE.out
                rwa [hbr, if_pos rfl] at this
              clear hml hbr HCE
              go_wp2
              go_roundw
              case rel => exact ⟨k + 1, by omega, by go_num, HNX.out, trivial⟩
              case measure => simp [numOf]; omega
        · have i3 : ((l.length : Int) != (ls.length : Int)) = true := by simp; omega
          have hbr : badRow ls.length l = 6 := if_pos hll
          have hE : ((6 : Int), (k : Int)) = (fc, fd) := by
            have := HCE.out
            rwa [hbr, if_neg (by omega)] at this
          cases hE
          clear hll hbr HCE
          go_wp2_with (first | (go_at_call 17; refine (refF_any 6 (k : Int) _).mono ?_; rintro e W1 ⟨rfl, hb1⟩; have y2 := two_next HT.out hb1; have ff := free_two y2; obtain ⟨q0, q1⟩ := cell_two y2) | go_in)
          obtain ⟨x9, hB4⟩ := HEND.out 6 (k : Int) W1 hb1
          generalize ((W1.setCell ⟨w.heap.size, 0, none⟩ (.int .i64 6)).setCell ⟨w.heap.size, 1, none⟩ (.int .i64 (k : Int))) = W4 at x9 hB4 ⊢
          obtain ⟨n8, n81⟩ := cell_two x9
          refine bodyPost_ret (v := .agg #[.int .i64 6, .int .i64 (k : Int)]) ?_ rfl ⟨rfl, hB4⟩
          simp [results, Try.results6, go_sem, n8, n81]
      · have i2 : ¬ (k : Int) < (ls.length : Int) := by omega
        have hE : ((0 : Int), (0 : Int)) = (fc, fd) := by
          rw [← hcf, List.drop_of_length_le (by omega)]; rfl
        cases hE
        clear hcf
        have ff := free_two HT.out
        obtain ⟨q0, q1⟩ := cell_two HT.out
        go_wp2
        obtain ⟨x9, hB4⟩ := HEND.out 0 0 W0 (Below.refl _ _)
        generalize ((W0.setCell ⟨w.heap.size, 0, none⟩ (.int .i64 0)).setCell ⟨w.heap.size, 1, none⟩ (.int .i64 0)) = W4 at x9 hB4 ⊢
        obtain ⟨n8, n81⟩ := cell_two x9
        refine bodyPost_ret (v := .agg #[.int .i64 0, .int .i64 0]) ?_ rfl ⟨rfl, hB4⟩
        simp [results, Try.results6, go_sem, n8, n81]
end Go.Proofs.Ytmbnaegcichoeaa
