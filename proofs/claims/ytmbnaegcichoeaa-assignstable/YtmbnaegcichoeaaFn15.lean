/- What AssignStable does with each order. -/
import Derived.Test.YtmbnaegcichoeaaIsSt
namespace Go.Proofs.Ytmbnaegcichoeaa
open Go.RowKit Go.Maps
attribute [local go_sem ↓] Go.wp_at_zero Go.wp_at_succ

theorem set_same {w : World} {b : Nat} {x : Value} {t : TypeId} (h : Box w b #[x] t) : w.setCell ⟨b, 0, none⟩ x = w := by
  have h' : w.heap[b]? = some (.cells #[x] t (0, 0)) := h
  have hl : b < w.heap.size := (Array.getElem?_eq_some_iff.1 h').1
  have e : w.heap[b] = .cells #[x] t (0, 0) := (Array.getElem?_eq_some_iff.1 h').2
  have : (w.heap.modify b fun
      | .cells c elem frozen => .cells (if (none : Option Nat).isSome then c else c.setIfInBounds 0 x) elem frozen
      | o => o) = w.heap := by
    apply Array.ext (by simp)
    intro i h1 h2
    rw [Array.getElem_modify]
    by_cases e2 : b = i
    · subst e2; simp [e]
    · simp [e2]
  exact congrArg (fun h => ({ w with heap := h } : World)) this
theorem box1_set {w : World} {b : Nat} {x y : Value} {t : TypeId} (h : Box w b #[x] t) : Box (w.setCell ⟨b, 0, none⟩ y) b #[y] t := box_set h 0 y
set_option maxRecDepth 4000 in
set_option maxHeartbeats 4000000 in
theorem fn15_call {wB W : World} {va vb : Value} {la lb : List (List Int)} {n bt ba bb bn bo bok : Nat} {M0 M : Nat → Nat} {vo : Option Addr} {vc : Nat} (hA : RowsAt wB va la) (hB : RowsAt wB vb lb) (hla : la.length = n) (hlb : lb.length = n) (hn : n ≤ 100) (ha : ∀ l ∈ la, Nam n l) (hb : ∀ l ∈ lb, Nam n l)
    (c1 : wB.cell? ⟨ba, 0, none⟩ = some va) (c2 : wB.cell? ⟨bb, 0, none⟩ = some vb) (c3 : wB.cell? ⟨bn, 0, none⟩ = some (.int .i64 (n : Int))) (c5 : wB.cell? ⟨bo, 0, none⟩ = some (sl bt n)) (hrt : RowV wB bt 3 n (iv (fun i => (M0 i : Int)))) (hM0 : ∀ i, i < n → M0 i < n)
    (hbest : ∀ M, (∀ i, i < n → M i < n) → (∀ i j, i < n → j < n → M i = M j → i = j) → StM n (placeB la) (placeB lb) M → ∀ i, i < n → placeB la i (M0 i) ≤ placeB la i (M i))
    (hW : Below wB.heap.size wB W) (hbox : Box W bok #[.bool true] 4) (hge : wB.heap.size ≤ bok) (hM : NumF W vo n (fun i => (M i : Int))) (hl : ∀ i, i < n → M i < n) (hi : ∀ i j, i < n → j < n → M i = M j → i = j) (hvb : ∀ b off, vo = some ⟨b, off, none⟩ → b ≠ bok) :
    Calls Try.prog 15 #[.slice vo n vc, ptr ba, ptr bb, ptr bn, ptr bok, ptr bo] W fun e w' => e = .returned (.tuple #[]) ∧ Turns (fun k => k = bok) W w' ∧ Box w' bok #[.bool true] 4 := by
  have h13 := isStable_call (vc := vc) (hA.below hW) (hB.below hW) hla hlb hn ha hb hM hl hi
  have H13 : Hid (Calls Try.prog 13 #[va, vb, .slice vo n vc] W fun e w' => Says e (StM n (placeB la) (placeB lb) M) ∧ Below W.heap.size W w') := h13
  have HBEST : Hid (StM n (placeB la) (placeB lb) M → ∀ i, i < n → placeB la i (M0 i) ≤ placeB la i (M i)) := hbest M hl hi
  have HGA : Hid (GridS wB (fun k => k < wB.heap.size) va n (cellL la)) := by
    have := rows_grid hA (fun l hl => by rw [hla]; exact (ha l hl).len)
    rw [hla] at this
    exact this.gridS
  have HRA : Hid (∀ (W : World) (i : Nat) (vo : Option Addr) (vc : Nat), i < n → NumF W vo n (fun j => cellL la i j) → ∀ x, x < n → Calls Try.prog 16 #[.slice vo n vc, .int .i64 (x : Int)] W fun e w' => e = .returned (.int .i64 (placeB la i x : Int)) ∧ w' = W) := fun W i vo vc hi h x hx => rankP hla ha hi hn h hx
  have HM : Hid (NumF W vo n (fun i => (M i : Int))) := hM
  have HL : Hid (∀ i, i < n → M i < n) := hl
  have HL0 : Hid (∀ i, i < n → M0 i < n) := hM0
  have HVB : Hid (∀ b off, vo = some ⟨b, off, none⟩ → b ≠ bok) := hvb
  have HRT : Hid (RowV wB bt 3 n (iv (fun i => (M0 i : Int)))) := hrt
  obtain ⟨ao, acap, e1⟩ := HGA.out.form
  obtain ⟨bo', bcap, e2, _⟩ := id hB
  rw [hlb] at e2
  subst e1
  subst e2
  have l1 := World.block_lt_of_cell? _ _ c1
  have l3 := World.block_lt_of_cell? _ _ c3
  have l5 := World.block_lt_of_cell? _ _ c5
  have q1 := (hW.cell l1).trans c1
  have q2 := (hW.cell (World.block_lt_of_cell? _ _ c2)).trans c2
  have HC : Hid (wB.cell? ⟨ba, 0, none⟩ = some (.slice ao n acap) ∧ wB.cell? ⟨bn, 0, none⟩ = some (.int .i64 (n : Int)) ∧ wB.cell? ⟨bo, 0, none⟩ = some (sl bt n)) := ⟨c1, c3, c5⟩
  have HBOX : Hid (Box W bok #[.bool true] 4) := hbox
  obtain ⟨Q, hQ⟩ : ∃ Q, Q = placeB la := ⟨_, rfl⟩
  obtain ⟨P, hP⟩ : ∃ P, P = placeB lb := ⟨_, rfl⟩
  obtain ⟨CA, hCA⟩ : ∃ C, C = cellL la := ⟨_, rfl⟩
  rw [← hQ, ← hP] at H13 HBEST
  rw [← hQ, ← hCA] at HRA
  rw [← hCA] at HGA
  clear h13 hA hB hla hlb ha hb hM hl hi hQ hP hCA hbest hrt hM0 hvb c1 c2 c3 c5 hbox l1 l3 l5
  go_enter Try.func15, Try.ntmps15
  go_upto_if 11 with (first | (go_at_call 13; refine Calls.mono H13.out ?_; rintro e W1 ⟨⟨g, rfl, hg⟩, hb1⟩) | go_in)
  have HG : Hid (g = true ↔ StM n Q P M) := hg
  clear hg q1 q2
  cases g with
  | false =>
    go_wp2
    go_end0
    exact ⟨rfl, Turns.of_below hb1 _, (hb1.block _ (box_lt HBOX.out)).trans HBOX.out⟩
  | true =>
    have HQ : Hid (∀ i, i < n → Q i (M0 i) ≤ Q i (M i)) := HBEST.out (HG.out.1 rfl)
    have HBX1 : Hid (Box W1 bok #[.bool true] 4) := (hb1.block _ (box_lt HBOX.out)).trans HBOX.out
    have hBB : Below wB.heap.size wB W1 := below_next hW hb1
    go_wp2
    go_loopw [7] (fun iv' wr => ∃ k : Nat, k ≤ n ∧ iv' = .int .i64 (k : Int) ∧ Turns (fun x => x = bok) W1 wr ∧ Box wr bok #[.bool true] 4) (fun iv' _ => n - (numOf iv').toNat)
    case atStart => exact ⟨0, Nat.zero_le _, rfl, Turns.refl _ _, HBX1.out⟩
    case round =>
      clear HBX1
      obtain ⟨k, hk, rfl, ht, hbx⟩ := hrel
      have hBr : Below wB.heap.size wB wr := Turns.below hBB ht hBB.size (fun x hx => by omega)
      obtain ⟨c1, c3, c5⟩ := HC.out
      have q1 := (hBr.cell (World.block_lt_of_cell? _ _ c1)).trans c1
      have q3 := (hBr.cell (World.block_lt_of_cell? _ _ c3)).trans c3
      have q5 := (hBr.cell (World.block_lt_of_cell? _ _ c5)).trans c5
      have q4 : wr.cell? ⟨bok, 0, none⟩ = some (.bool true) := box_cell hbx rfl
      have f4 := box_free hbx 0
      have HBX : Hid (Box wr bok #[.bool true] 4) := hbx
      clear c1 c3 c5 hbx
      by_cases hlt : k < n
      · have j1 : (0 : Int) ≤ (k : Int) := by omega
        have j2 : (k : Int) < (n : Int) := by omega
        obtain ⟨ao', _, ev, hg⟩ := HGA.out
        cases ev
        obtain ⟨b1, o1, via, via2, rfl, _, g1, hg2⟩ := hg k hlt
        have g1' := (hBr.cell (World.block_lt_of_cell? _ _ g1)).trans g1
        have hnum : ∀ m, NumF (wr.drewN m) via n (fun j => CA k j) := fun m t ht => by
          obtain ⟨b', off', e, _, g⟩ := hg2 t ht
          exact ⟨b', off', e, (hBr.cell (World.block_lt_of_cell? _ _ g)).trans g⟩
        obtain ⟨bm, om, rfl, g5⟩ := HM.out k hlt
        simp only at g5
        have g5' : wr.cell? ⟨bm, om + k, none⟩ = some (.int .i64 (M k : Int)) := cell_turns ((hb1.cell (World.block_lt_of_cell? _ _ g5)).trans g5) ht (fun e => HVB.out bm om rfl e)
        have g6 := HRT.out.cell hlt
        unfold iv at g6
        simp only at g6
        have g6' := (hBr.cell (World.block_lt_of_cell? _ _ g6)).trans g6
        have r1 := fun m => HRA.out (wr.drewN m) k via via2 hlt (hnum m) (M0 k) (HL0.out k hlt)
        have r2 := fun m => HRA.out (wr.drewN m) k via via2 hlt (hnum m) (M k) (HL.out k hlt)
        have hle := HQ.out k hlt
        obtain ⟨m0, hm0⟩ : ∃ x, x = M0 k := ⟨_, rfl⟩
        obtain ⟨mk, hmk⟩ : ∃ x, x = M k := ⟨_, rfl⟩
        rw [← hm0] at r1 g6' hle
        rw [← hmk] at r2 g5' hle
        generalize Q k m0 = x1 at r1 hle
        generalize Q k mk = x2 at r2 hle
        have R1 : Hid (∀ m, Calls Try.prog 16 #[.slice via n via2, .int .i64 (m0 : Int)] (wr.drewN m) fun e w' => e = .returned (.int .i64 (x1 : Int)) ∧ w' = wr.drewN m) := r1
        have R2 : Hid (∀ m, Calls Try.prog 16 #[.slice via n via2, .int .i64 (mk : Int)] (wr.drewN m) fun e w' => e = .returned (.int .i64 (x2 : Int)) ∧ w' = wr.drewN m) := r2
        have c1 : (x1 : Int) ≤ (x2 : Int) := by omega
        have hset : ∀ m, (wr.drewN m).setCell ⟨bok, 0, none⟩ (.bool true) = wr.drewN m := fun m => set_same (w := wr.drewN m) HBX.out
        clear r1 r2 hnum hg hg2 g1 g5 g6 hm0 hmk hle
        go_upto_region 4 with (fail)
        go_quiet ((go_at_call 16; first | with_reducible exact Calls.quiet_of_same (R1.out _) | with_reducible exact Calls.quiet_of_same (R2.out _)))
        go_wp2
        go_roundw
        case rel => exact ⟨k + 1, by omega, by go_num, ht.trans (Turns.of_below (drewN_below _ _) _), HBX.out⟩
        case measure => simp [numOf]; omega
      · have j2 : ¬ (k : Int) < (n : Int) := by omega
        have HT : Hid (Turns (fun x => x = bok) W wr) := (Turns.of_below hb1 _).trans ht
        clear ht
        go_wp2
        go_end0
        exact ⟨rfl, HT.out, HBX.out⟩
end Go.Proofs.Ytmbnaegcichoeaa
