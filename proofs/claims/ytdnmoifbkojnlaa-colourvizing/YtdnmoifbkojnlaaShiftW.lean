/- The shift of a fan: each edge gets the colour of the next. -/
import Derived.Test.YtdnmoifbkojnlaaFanW
namespace Go.Proofs.Ytdnmoifbkojnlaa
open Go.RowKit Go.Maps
attribute [local go_sem ↓] Go.wp_at_zero Go.wp_at_succ

theorem Idx.hit {k : Nat} {f : Nat → Int} {x m : Int} (h : Idx k f x m) {j : Nat} (hj : j < k) (e : f j = x) : ∃ i : Nat, m = i ∧ i < k ∧ f i = x := by
  rcases h with ⟨_, h⟩ | ⟨i, h1, h2, h3, _⟩
  · exact absurd e (h j hj)
  · exact ⟨i, h1, h2, h3⟩
section
variable {w : World} {p t n k : Nat} {B : Nat → Nat} {D : Nat → Nat → Int}
set_option maxRecDepth 4000 in
set_option maxHeartbeats 3000000 in
theorem shift_call (h : DyeAt w p t n k B D) (hD : Dye n k D) (hk : k ≤ 1000) {u a g m1 cf : Nat} {f : List Nat} (hu : u < n) (ha : a < k) (hF : Fan n k D u f) (hnf : f.length = m1 + 1) (hcf : m1 + 1 ≤ cf) (hn : m1 ≤ 1000)
    (hc : ∀ i, i < m1 + 1 → w.cell? ⟨g, i, none⟩ = some (.int .i64 (f.getD i 0 : Nat))) (hg : ∀ v, v < n → B v ≠ g) :
    Calls Try.prog 55 #[ptr p, .int .i64 (u : Int), .slice (some ⟨g, 0, none⟩) (m1 + 1) cf, .int .i64 (a : Int)] w fun e w' => e = .returned (.tuple #[]) ∧ (∃ D', Shf k a u f D D' ∧ DyeAt w' p t n k B D') ∧ Turns (rowsOf n B) w w' := by
  have HS0 : Hid (Sh n k a u f D 0 D) := Sh.start hD hF
  have HW : Hid (DyeAt w p t n k B D) := h
  have HC : Hid (∀ i, i < m1 + 1 → w.cell? ⟨g, i, none⟩ = some (.int .i64 (f.getD i 0 : Nat))) := hc
  have HG : Hid (∀ v, v < n → B v ≠ g) := hg
  have HNF : Hid (f.length = m1 + 1) := hnf
  clear h hD hF hc hg hnf
  by_cases hcf1 : cf = 1
  · have hm0 : m1 = 0 := by omega
    subst hm0 hcf1
    obtain ⟨x, hx⟩ : ∃ x, x = f.getD 0 0 := ⟨_, rfl⟩
    have c0 := HC.out 0 (by omega)
    obtain ⟨g1, g2, g3⟩ := HS0.out.done (by rw [HNF.out])
    rw [← hx] at c0 g1 g2 g3
    have HG3 : Hid (Shf k a u f D (st D u x a)) := g3
    have H64 : Hid (Calls Try.prog 64 #[ptr p, .int .i64 (u : Int), .int .i64 (x : Int), .int .i64 (a : Int)] w fun e w' => e = .returned (.tuple #[]) ∧ DyeAt w' p t n k B (st D u x a) ∧ Turns (rowsOf n B) w w') := dset_call HW.out hu g1 ha g2
    clear hx g1 g2 g3
    go_enter Try.func55, Try.ntmps55
    go_upto_region 1 with (fail)
    go_loopw [14] (fun i wr => i = .int .i64 0 ∧ wr = w) (fun _ _ => 0)
    case atStart => exact ⟨rfl, rfl⟩
    case round =>
      obtain ⟨rfl, hwr⟩ := hrel
      have hwr' := hwr.symm
      clear hwr
      subst hwr'
      go_wp2_with (first | (go_at_call 64; refine Calls.mono H64.out ?_; rintro e W' ⟨rfl, hd', ht'⟩) | go_in)
      go_end0
      exact ⟨rfl, ⟨_, HG3.out, hd'⟩, ht'⟩
  · have hcf2 : ¬ 1 = cf := fun e => hcf1 e.symm
    have i0 : (1 : Int) ≤ ((m1 + 1 : Nat) : Int) := by omega
    have i1 : ((m1 + 1 : Nat) : Int) ≤ (cf : Int) := by omega
    go_enter Try.func55, Try.ntmps55
    go_upto_region 1 with (fail)
    go_loopw [14] (fun i wr => ∃ (j : Nat) (E : Nat → Nat → Int), j ≤ m1 ∧ i = .int .i64 (j : Int) ∧ Sh n k a u f D j E ∧ DyeAt wr p t n k B E ∧ Turns (rowsOf n B) w wr) (fun i _ => m1 - (numOf i).toNat)
    case atStart => exact ⟨0, D, Nat.zero_le _, rfl, HS0.out, HW.out, Turns.refl _ _⟩
    case round =>
      obtain ⟨j, E, hj, rfl, hs, hd, ht⟩ := hrel
      have HS : Hid (Sh n k a u f D j E) := hs
      have HD : Hid (DyeAt wr p t n k B E) := hd
      have HT : Hid (Turns (rowsOf n B) w wr) := ht
      have hcell : ∀ {w1 : World}, Turns (rowsOf n B) w w1 → ∀ i, i < m1 + 1 → w1.cell? ⟨g, i, none⟩ = some (.int .i64 (f.getD i 0 : Nat)) := fun ht i hi => cell_turns (HC.out i hi) ht (by
        rintro ⟨v, hv, e⟩
        exact HG.out v hv e.symm)
      have HCELL : Hid (∀ {w1 : World}, Turns (rowsOf n B) w w1 → ∀ i, i < m1 + 1 → w1.cell? ⟨g, i, none⟩ = some (.int .i64 (f.getD i 0 : Nat))) := @hcell
      clear hs hd ht hcell
      by_cases hlt : j < m1
      · obtain ⟨m, hm, he⟩ := HS.out.step (by rw [HNF.out]; omega)
        have h39 := colour_call HD.out hk hu (f.getD (j + 1) 0 : Nat)
        have cj := HCELL.out HT.out (j + 1) (by omega)
        have hnx : ∀ m, m < k → E u m = (f.getD (j + 1) 0 : Nat) → f.getD j 0 < n ∧ f.getD (j + 1) 0 < n ∧ f.getD j 0 ≠ u ∧ f.getD (j + 1) 0 ≠ u ∧ Sh n k a u f D (j + 1) (mv E u (f.getD j 0) (f.getD (j + 1) 0) m) := fun m hm he => HS.out.next hu (by rw [HNF.out]; omega) hm he
        have cj0 : ∀ {w1 : World}, Turns (rowsOf n B) w w1 → w1.cell? ⟨g, j, none⟩ = some (.int .i64 (f.getD j 0 : Nat)) := fun ht => HCELL.out ht j (by omega)
        obtain ⟨x, hx⟩ : ∃ x, x = f.getD j 0 := ⟨_, rfl⟩
        obtain ⟨y, hy⟩ : ∃ y, y = f.getD (j + 1) 0 := ⟨_, rfl⟩
        rw [← hy] at h39 cj he
        rw [← hx, ← hy] at hnx
        rw [← hx] at cj0
        obtain ⟨x1, x2, x3, x4, _⟩ := hnx m hm he
        have H39 : Hid (Calls Try.prog 39 #[ptr p, .int .i64 (u : Int), .int .i64 (y : Int)] wr fun e w' => (∃ m, e = .returned (.int .i64 m) ∧ Idx k (E u) y m) ∧ w' = wr) := h39
        have HNX : Hid (∀ m, m < k → E u m = (y : Int) → x < n ∧ y < n ∧ x ≠ u ∧ y ≠ u ∧ Sh n k a u f D (j + 1) (mv E u x y m)) := hnx
        have HE : Hid (E u m = (y : Int)) := he
        have CJ0 : Hid (∀ {w1 : World}, Turns (rowsOf n B) w w1 → w1.cell? ⟨g, j, none⟩ = some (.int .i64 (x : Int))) := @cj0
        have i2 : (0 : Int) ≤ (j : Int) := by omega
        have i3 : (j : Int) < (m1 : Int) := by omega
        have i4 : (j : Int) < ((m1 + 1 : Nat) : Int) := by omega
        have e1 : 1 + j = j + 1 := by omega
        rw [← e1] at cj
        clear h39 hnx he cj0 hx hy e1
        go_upto_region 4 with (first | (go_at_call 39; refine Calls.mono H39.out ?_; rintro e Wa ⟨⟨mm, rfl, hmm⟩, rfl⟩) | go_in)
        obtain ⟨q, rfl, hq, hqe⟩ := hmm.hit hm HE.out
        have HQ : Hid (Sh n k a u f D (j + 1) (mv E u x y q)) := (HNX.out q hq hqe).2.2.2.2
        have H63 : Hid (Calls Try.prog 63 #[ptr p, .int .i64 (u : Int), .int .i64 (y : Int), .int .i64 (q : Int)] Wa fun e w' => e = .returned (.tuple #[]) ∧ DyeAt w' p t n k B (un E u y q) ∧ Turns (rowsOf n B) Wa w') := dunset_call HD.out hu x2 hq x4
        clear hqe hmm H39 HNX
        go_upto_region 5 with (first | (go_at_call 63; refine Calls.mono H63.out ?_; rintro e Wb ⟨rfl, hdb, htb⟩) | go_in)
        have htb2 := HT.out.trans htb
        have cj1 := CJ0.out htb2
        have H64 : Hid (Calls Try.prog 64 #[ptr p, .int .i64 (u : Int), .int .i64 (x : Int), .int .i64 (q : Int)] Wb fun e w' => e = .returned (.tuple #[]) ∧ DyeAt w' p t n k B (st (un E u y q) u x q) ∧ Turns (rowsOf n B) Wb w') := dset_call hdb hu x1 hq x3
        clear hdb htb H63
        go_wp2_with (first | (go_at_call 64; refine Calls.mono H64.out ?_; rintro e Wc ⟨rfl, hdc, htc⟩) | go_in)
        rw [mv_eq] at hdc
        have htc2 := htb2.trans htc
        go_roundw
        case rel => exact ⟨j + 1, _, by omega, by go_num, HQ.out, hdc, htc2⟩
        case measure => simp [numOf]; omega
      · have hjm : j = m1 := by omega
        subst hjm
        obtain ⟨g1, g2, g3⟩ := HS.out.done (by rw [HNF.out])
        have c0 := HCELL.out HT.out j (by omega)
        obtain ⟨x, hx⟩ : ∃ x, x = f.getD j 0 := ⟨_, rfl⟩
        rw [← hx] at c0 g1 g2 g3
        have HG3 : Hid (Shf k a u f D (st E u x a)) := g3
        have H64 : Hid (Calls Try.prog 64 #[ptr p, .int .i64 (u : Int), .int .i64 (x : Int), .int .i64 (a : Int)] wr fun e w' => e = .returned (.tuple #[]) ∧ DyeAt w' p t n k B (st E u x a) ∧ Turns (rowsOf n B) wr w') := dset_call HD.out hu g1 ha g2
        have i2 : ¬ (j : Int) < (j : Int) := by omega
        have i3 : (0 : Int) ≤ (j : Int) := by omega
        have i4 : (j : Int) < ((j + 1 : Nat) : Int) := by omega
        clear hx g1 g2 g3
        go_wp2_with (first | (go_at_call 64; refine Calls.mono H64.out ?_; rintro e W' ⟨rfl, hd', ht'⟩) | go_in)
        go_end0
        exact ⟨rfl, ⟨_, HG3.out, hd'⟩, HT.out.trans ht'⟩
end
end Go.Proofs.Ytdnmoifbkojnlaa
