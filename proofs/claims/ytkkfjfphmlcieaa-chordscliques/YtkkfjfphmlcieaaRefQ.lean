/- The document's Cliques. -/
import Derived.BigQuiet
import Derived.Test.YtkkfjfphmlcieaaIsq
import Derived.Test.YtkkfjfphmlcieaaLstR
namespace Go.Proofs.Ytkkfjfphmlcieaa
open Go.RowKit Go.Maps
attribute [local go_sem ↓] Go.wp_at_zero Go.wp_at_succ
theorem lsN_succ (j : Nat) (K : Nat → Bool) : lsN (j + 1) K = lsN j K ++ (if K j = true then [j] else []) := by
  unfold lsN
  rw [List.range_succ, List.filter_append]
  congr 1
  by_cases h : K j = true
  · rw [if_pos h]; simp [h]
  · rw [if_neg h]; simp [h]
theorem ListsAt.slot {w : World} {base n c g : Nat} {ls : List (List Nat)} (h : ListsAt w base (.slice (some ⟨g, 0, none⟩) n c) ls) {k : Nat} (hk : k < ls.length) : ∃ x, w.cell? ⟨g, k, none⟩ = some x ∧ w.frozen? ⟨g, k, none⟩ = false := by
  obtain ⟨g', xo, xc, e, hc, _⟩ := h.row hk
  cases e
  obtain ⟨vs, h1, h2, h3⟩ := h
  obtain ⟨_, _, e2⟩ := form_row h2
  cases e2
  rcases h2.2 with ⟨e, _⟩ | ⟨g', cap, cur, e, _, hg, _⟩
  · cases e
  · cases e
    exact ⟨_, hc, box_free hg k⟩
theorem ListsAt.set {w : World} {base n c g : Nat} {ls : List (List Nat)} (h : ListsAt w base (.slice (some ⟨g, 0, none⟩) n c) ls) {k : Nat} (hk : k < ls.length) {x : Value} {l : List Nat} (hx : w.ownsRow base 3 1 x l.length (qv l)) : ListsAt (w.setCell ⟨g, k, none⟩ x) base (.slice (some ⟨g, 0, none⟩) n c) (ls.set k l) := by
  obtain ⟨vs, h1, h2, h3⟩ := h
  obtain ⟨_, _, e2⟩ := form_row h2
  cases e2
  have far : ∀ {y : Value} {m : List Nat}, w.ownsRow base 3 1 y m.length (qv m) → (w.setCell ⟨g, k, none⟩ x).ownsRow base 3 1 y m.length (qv m) := fun {y m} ho => by
    refine ownsRow_turnsC ho (setCell_turns w g k x) (fun b hb e => ?_)
    have e' : b = g := e
    obtain ⟨c1, q1⟩ := own_cells ho hb
    obtain ⟨c2, q2⟩ := own_cells h2 (g := g) rfl
    rw [e', q2] at q1
    simp at q1
  refine ⟨vs.set k x, by simp [h1], ?_, fun i y m hy hm => ?_⟩
  · have hl := h2.1
    rcases h2.2 with ⟨e, _⟩ | ⟨g', cap, cur, e, hb, hg, hn, hm, hs, ht⟩
    · cases e
    · cases e
      have hg' : Box w g cur 29 := hg
      refine ⟨by simp [h1], Or.inr ⟨g, c, cur.setIfInBounds k x, by simp, hb, box_set hg' k x, by simpa using hn, hm, by simpa using hs, ?_⟩⟩
      rw [Array.toList_setIfInBounds, List.take_set, List.length_set]
      rw [ht]
  · by_cases e : i = k
    · subst e
      rw [List.getElem?_set_self (by omega)] at hy hm
      cases hy
      cases hm
      exact far hx
    · rw [List.getElem?_set_ne (fun h => e h.symm)] at hy hm
      exact far (h3 i y m hy hm)
theorem set_mid {A B : List (List Nat)} {z y : List Nat} : (A ++ z :: B).set A.length y = A ++ y :: B := by
  induction A with
  | nil => rfl
  | cons a A ih => simp only [List.cons_append, List.length_cons, List.set_cons_succ, ih]
theorem row_far {w : World} {base n c g : Nat} {ls : List (List Nat)} (h : ListsAt w base (.slice (some ⟨g, 0, none⟩) n c) ls) {x y : Value} {k q : Nat} {m : List Nat} (ho : w.ownsRow base 3 1 y q (qv m)) : (w.setCell ⟨g, k, none⟩ x).ownsRow base 3 1 y q (qv m) := by
  obtain ⟨vs, h1, h2, h3⟩ := h
  obtain ⟨_, _, e2⟩ := form_row h2
  cases e2
  refine ownsRow_turnsC ho (setCell_turns w g k x) (fun b hb e => ?_)
  have e' : b = g := e
  obtain ⟨c1, q1⟩ := own_cells ho hb
  obtain ⟨c2, q2⟩ := own_cells h2 (g := g) rfl
  rw [e', q2] at q1
  simp at q1
theorem mid_row {w : World} {base n c g : Nat} {A B : List (List Nat)} {a z : List Nat} (h : ListsAt w base (.slice (some ⟨g, 0, none⟩) n c) ((A ++ [a]) ++ z :: B)) : ∃ xo xc, w.cell? ⟨g, A.length, none⟩ = some (.slice xo a.length xc) ∧ w.ownsRow base 3 1 (.slice xo a.length xc) a.length (qv a) := by
  have hl : A.length < ((A ++ [a]) ++ z :: B).length := by simp
  obtain ⟨g', xo, xc, e, h1, h2⟩ := h.row hl
  cases e
  have hg : ((A ++ [a]) ++ z :: B).getD A.length [] = a := by simp [List.getD]
  rw [hg] at h1 h2
  exact ⟨xo, xc, h1, h2⟩
theorem row_len {w : World} {base n c : Nat} {x : Option Addr} {m : List Nat} (h : w.ownsRow base 3 1 (.slice x n c) m.length (qv m)) : n = m.length := by
  obtain ⟨_, _, e⟩ := form_row h
  cases e
  rfl
theorem keep_push {w w' : World} {base n c q : Nat} {so : Option Addr} {vs : List Value} {o : Obj} (h2 : w.ownsRow base 29 1 (.slice so n c) n vs) (hg : (w.alloc o).grownBy w' (Value.slice so n c).ownBlock) {y : Value} {m : List Nat} (ho : w.ownsRow base 3 1 y q (qv m)) : w'.ownsRow base 3 1 y q (qv m) := by
  have T := (alloc_turns w o (fun k => some k = (Value.slice so n c).ownBlock)).trans (Turns.of_grown hg)
  refine ownsRow_turnsC ho T (fun b hb e => ?_)
  obtain ⟨c1, q1⟩ := own_cells ho hb
  obtain ⟨c2, q2⟩ := own_cells h2 e.symm
  rw [q1] at q2
  simp at q2
theorem ListsAt.below {w w' : World} {base : Nat} {v : Value} {ls : List (List Nat)} (h : ListsAt w base v ls) (hb : Below w.heap.size w w') : ListsAt w' base v ls := by
  obtain ⟨vs, h1, h2, h3⟩ := h
  exact ⟨vs, h1, ownsRow_blocks h2 (fun b hb' => hb.block b (h2.lt b hb').2), fun i x l hx hl => ownsRow_blocks (h3 i x l hx hl) (fun b hb' => hb.block b ((h3 i x l hx hl).lt b hb').2)⟩
theorem clq_of_max {N : Nat} {adj : Nat → Nat → Bool} {s : Nat} (h : MaxC N adj (tb s)) : Clq N adj s := fun v hv x hx h1 h2 => h.clq v x hv (by omega) h1 h2 (by omega)
theorem RefI.len {N : Nat} {adj : Nat → Nat → Bool} {s : Nat} {F : List (List Nat)} (h : RefI N adj s F) (hN : N ≤ 24) : F.length ≤ 16777216 := by
  refine many_lists hN ?_ (fun l hl => ?_)
  · refine h.srt.imp ?_
    intro a b hab e
    rw [e, cmpL_self] at hab
    omega
  · obtain ⟨t, _, _, _, e⟩ := (h.mem l).1 hl
    exact ⟨_, e⟩
theorem RefI.rows {N : Nat} {adj : Nat → Nat → Bool} {s : Nat} {F : List (List Nat)} (h : RefI N adj s F) : ∀ l ∈ F, l.length ≤ N := fun l hl => by
  obtain ⟨t, _, _, _, rfl⟩ := (h.mem l).1 hl
  exact lsN_length _ _
set_option maxRecDepth 10000 in
set_option maxHeartbeats 8000000 in
theorem refCliques_call {N : Nat} {ao : Option Addr} {cap : Nat} {es : List Pair} {w : World} (hG : GridAt w (.slice ao N cap) N (hasB es)) (hN : N ≤ 11) :
    Calls Try.prog 16 #[.slice ao N cap] w fun r w' => ∃ (so : Option Addr) (F : List (List Nat)) (sc : Nat), r = .returned (.slice so F.length sc) ∧ ListsAt w' w.heap.size (.slice so F.length sc) F ∧ RefI N (bothB es) (2 ^ N) F ∧ Below w.heap.size w w' := by
  have HG : Hid (GridAt w (.slice ao N cap) N (hasB es)) := hG
  have hsym := bothB_sym es
  have HSY : Hid (∀ x y, bothB es x y = bothB es y x) := hsym
  have H30 : Hid (∀ (W : World) (s : Nat), Below w.heap.size w W → Calls Try.prog 30 #[.slice ao N cap, .int .i64 (s : Int)] W fun r w' => (∃ b, r = .returned (.bool b) ∧ (b = true ↔ Clq N (bothB es) s)) ∧ w' = W) := fun W s hW => isq_call (HG.out.below hW) s hN
  clear hG hsym
  have hP : 2 ^ N ≤ 2048 := by
    have : 2 ^ N ≤ 2 ^ 11 := Nat.pow_le_pow_right (by omega) hN
    simpa using this
  have hP1 : 1 ≤ 2 ^ N := Nat.one_le_two_pow
  have hwp : wrap64 ((2 : Int) ^ N) = ((2 ^ N : Nat) : Int) := by
    have e : (2 : Int) ^ N = ((2 ^ N : Nat) : Int) := by push_cast; rfl
    rw [e]
    unfold wrap64
    generalize 2 ^ N = P at hP ⊢
    omega
  have i7 : min N 64 = N := by omega
  obtain ⟨P, hPe⟩ : ∃ P, P = 2 ^ N := ⟨_, rfl⟩
  have HPE : Hid (P = 2 ^ N) := hPe
  rw [← hPe] at hP hP1 hwp ⊢
  clear hPe
  go_enter Try.func16, Try.ntmps16
  go_wp2
  go_loopw [3, 4, 5, 6, 7, 8, 9] (fun o s _ _ _ _ _ wr => ∃ (n : Nat) (F : List (List Nat)) (so : Option Addr) (sc : Nat), (1 ≤ n ∧ n ≤ P) ∧ s = .int .i64 (n : Int) ∧ o = .slice so F.length sc ∧ ListsAt wr w.heap.size (.slice so F.length sc) F ∧ RefI N (bothB es) n F ∧ Below w.heap.size w wr) (fun _ s _ _ _ _ _ _ => P - (numOf s).toNat)
  case atStart => exact ⟨1, [], none, 0, ⟨Nat.le_refl _, hP1⟩, rfl, rfl, listsAt_nil _ _, RefI.start, Below.refl _ _⟩
  case round =>
    obtain ⟨n, F, so, sc, ⟨hn1, hnP⟩, rfl, rfl, hls, hri, hBr⟩ := hrel
    have HLS : Hid (ListsAt wr w.heap.size (.slice so F.length sc) F) := hls
    have HRI : Hid (RefI N (bothB es) n F) := hri
    have HBR : Hid (Below w.heap.size w wr) := hBr
    have hFl := hri.len (by omega)
    have hszr := hBr.size
    clear hls hri hBr
    obtain ⟨WR, hWR⟩ : ∃ WR, WR = wr := ⟨_, rfl⟩
    rw [← hWR] at HLS HBR hszr ⊢
    clear hWR
    obtain ⟨fl, hfl⟩ : ∃ fl, fl = F.length := ⟨_, rfl⟩
    have HFL : Hid (fl = F.length) := hfl
    rw [← hfl] at hFl HLS ⊢
    clear hfl
    by_cases hlt : n < P
    · have i1 : (n : Int) < (P : Int) := by omega
      obtain ⟨bc, hbc⟩ : ∃ bc : Bool, (bc = true ↔ Clq N (bothB es) n) := by
        by_cases h : Clq N (bothB es) n
        · exact ⟨true, by simp [h]⟩
        · exact ⟨false, by simp [h]⟩
      have hc30 : Calls Try.prog 30 #[.slice ao N cap, .int .i64 (n : Int)] WR fun r w' => r = .returned (.bool bc) ∧ w' = WR := by
        refine (H30.out WR n HBR.out).mono ?_
        rintro r w' ⟨⟨b, rfl, hb⟩, e⟩
        refine ⟨?_, e⟩
        have : b = bc := Bool.eq_iff_iff.2 (hb.trans hbc.symm)
        rw [this]
      have HC30 : Hid (Calls Try.prog 30 #[.slice ao N cap, .int .i64 (n : Int)] WR fun r w' => r = .returned (.bool bc) ∧ w' = WR) := hc30
      have HBC : Hid (bc = true ↔ Clq N (bothB es) n) := hbc
      clear hc30 hbc
      cases bc with
      | false =>
        go_wp2_with (first | (go_at_call 30; refine Calls.mono HC30.out ?_; rintro e Wq ⟨rfl, rfl⟩) | go_in)
        go_roundw
        case rel => exact ⟨n + 1, F, so, sc, ⟨by omega, by omega⟩, by go_num, by rw [HFL.out], by rw [← HFL.out]; exact HLS.out, HRI.out.skip (fun h => by have := HBC.out.2 (clq_of_max h); cases this), HBR.out⟩
        case measure => simp [numOf]; omega
      | true =>
        have HCL : Hid (Clq N (bothB es) n) := HBC.out.1 rfl
        clear HBC
        go_wp2_with (first | (go_at_call 30; refine Calls.mono HC30.out ?_; rintro e Wq ⟨rfl, hq⟩; have hq' := hq.symm; clear hq; subst hq') | go_in)
        go_loopw [5, 6] (fun m v wq => ∃ j : Nat, j ≤ N ∧ v = .int .i64 (j : Int) ∧ (∃ b : Bool, m = .bool b ∧ (b = true ↔ ∀ x, x < j → tb n x = true ∨ ¬ Clq N (bothB es) (n ||| 2 ^ x))) ∧ wq = WR) (fun _ v _ => N - (numOf v).toNat)
        case atStart => exact ⟨0, Nat.zero_le _, rfl, ⟨true, rfl, fun _ x hx => by omega, fun _ => rfl⟩, rfl⟩
        case round =>
          obtain ⟨j, hj, rfl, ⟨b, rfl, hb⟩, hwq⟩ := hrel
          have hwq' := hwq.symm
          clear hwq
          subst hwq'
          have HB : Hid (b = true ↔ ∀ x, x < j → tb n x = true ∨ ¬ Clq N (bothB es) (n ||| 2 ^ x)) := hb
          clear hb
          by_cases hjN : j < N
          · have j1 : (j : Int) < (N : Int) := by omega
            cases b with
            | false =>
              go_wp2
              go_roundw
              case rel => exact ⟨j + 1, by omega, by go_num, ⟨false, rfl, fun h => (by cases h), fun h => HB.out.2 (fun x hx => h x (by omega))⟩, trivial⟩
              case measure => simp [numOf]; omega
            | true =>
              have HBT := HB.out.1 rfl
              have HBT' : Hid (∀ x, x < j → tb n x = true ∨ ¬ Clq N (bothB es) (n ||| 2 ^ x)) := HBT
              clear HBT HB
              have m1 : min j 64 = j := by omega
              by_cases e1 : tb n j = true
              · have b1 : bits .and .i64 ((n : Int) / 2 ^ j) 1 = 1 := by rw [bit_at, if_pos e1]
                have HE1 : Hid (tb n j = true) := e1
                clear e1
                go_wp2
                go_roundw
                case rel => exact ⟨j + 1, by omega, by go_num, ⟨true, rfl, fun _ x hx => by
                  by_cases e : x = j
                  · rw [e]; exact Or.inl HE1.out
                  · exact HBT'.out x (by omega), fun _ => rfl⟩, trivial⟩
                case measure => simp [numOf]; omega
              · have b1 : bits .and .i64 ((n : Int) / 2 ^ j) 1 = 0 := by rw [bit_at, if_neg e1]
                have HE1 : Hid (¬ tb n j = true) := e1
                have hQ : 2 ^ j ≤ 2048 := by
                  have : 2 ^ j ≤ 2 ^ 11 := Nat.pow_le_pow_right (by omega) (by omega)
                  simpa using this
                have hor := or_at (S := n) (T := 2 ^ j) (by omega) (by omega)
                have hwq : wrap64 ((2 : Int) ^ j) = ((2 ^ j : Nat) : Int) := by
                  have e : (2 : Int) ^ j = ((2 ^ j : Nat) : Int) := by push_cast; rfl
                  rw [e]
                  unfold wrap64
                  generalize 2 ^ j = Q at hQ ⊢
                  omega
                obtain ⟨T, hT⟩ : ∃ T, T = n ||| 2 ^ j := ⟨_, rfl⟩
                obtain ⟨Q, hQe⟩ : ∃ Q, Q = 2 ^ j := ⟨_, rfl⟩
                rw [← hT] at hor
                rw [← hQe] at hor hwq
                have HT : Hid (T = n ||| 2 ^ j) := hT
                obtain ⟨bd, hbd⟩ : ∃ bd : Bool, (bd = true ↔ Clq N (bothB es) T) := by
                  by_cases h : Clq N (bothB es) T
                  · exact ⟨true, by simp [h]⟩
                  · exact ⟨false, by simp [h]⟩
                have hd30 : Calls Try.prog 30 #[.slice ao N cap, .int .i64 (T : Int)] WR fun r w' => r = .returned (.bool bd) ∧ w' = WR := by
                  refine (H30.out WR T HBR.out).mono ?_
                  rintro r w' ⟨⟨b, rfl, hb⟩, e⟩
                  refine ⟨?_, e⟩
                  have : b = bd := Bool.eq_iff_iff.2 (hb.trans hbd.symm)
                  rw [this]
                have HD30 : Hid (Calls Try.prog 30 #[.slice ao N cap, .int .i64 (T : Int)] WR fun r w' => r = .returned (.bool bd) ∧ w' = WR) := hd30
                have HBD : Hid (bd = true ↔ Clq N (bothB es) T) := hbd
                clear hd30 hbd e1 hT hQe hQ
                go_wp2_with (first | (go_at_call 30; refine Calls.mono HD30.out ?_; rintro e Wq ⟨rfl, rfl⟩) | go_in)
                go_roundw
                case rel => exact ⟨j + 1, by omega, by go_num, ⟨!bd, by simp, by
                  constructor
                  · intro h x hx
                    by_cases e : x = j
                    · rw [e, ← HT.out]
                      refine Or.inr fun hc => ?_
                      rw [HBD.out.2 hc] at h
                      cases h
                    · exact HBT'.out x (by omega)
                  · intro h
                    rcases h j (by omega) with h1 | h1
                    · exact absurd h1 HE1.out
                    · rw [← HT.out] at h1
                      cases bd with
                      | false => rfl
                      | true => exact absurd (HBD.out.1 rfl) h1⟩, trivial⟩
                case measure => simp [numOf]; omega
          · have j1 : ¬ (j : Int) < (N : Int) := by omega
            have hjN' : j = N := by omega
            have HMX : Hid (b = true ↔ MaxC N (bothB es) (tb n)) := by
              show b = true ↔ MaxC N (bothB es) (tb n)
              rw [maxC_iff HSY.out HCL.out, HB.out, hjN']
            clear HB hjN'
            cases b with
            | false =>
              go_wp2
              go_roundw
              case rel => exact ⟨n + 1, F, so, sc, ⟨by omega, by omega⟩, by go_num, by rw [HFL.out], by rw [← HFL.out]; exact HLS.out, HRI.out.skip (fun h => by have := HMX.out.2 h; cases this), HBR.out⟩
              case measure => simp [numOf]; omega
            | true =>
              have HMC : Hid (MaxC N (bothB es) (tb n)) := HMX.out.1 rfl
              clear HMX
              go_wp2
              go_loopw [7, 8] (fun l v wq => ∃ (j : Nat) (lo : Option Addr) (lc : Nat), j ≤ N ∧ v = .int .i64 (j : Int) ∧ l = .slice lo (lsN j (tb n)).length lc ∧ wq.ownsRow WR.heap.size 3 1 (.slice lo (lsN j (tb n)).length lc) (lsN j (tb n)).length (qv (lsN j (tb n))) ∧ Below WR.heap.size WR wq) (fun _ v _ => N - (numOf v).toNat)
              case atStart => exact ⟨0, none, 0, Nat.zero_le _, rfl, rfl, World.ownsRow_nil _ _ _ _, Below.refl _ _⟩
              case round =>
                obtain ⟨j, lo, lc, hj, rfl, rfl, hown, hbq⟩ := hrel
                have HOW : Hid (wr.ownsRow WR.heap.size 3 1 (.slice lo (lsN j (tb n)).length lc) (lsN j (tb n)).length (qv (lsN j (tb n)))) := hown
                have HBQ : Hid (Below WR.heap.size WR wr) := hbq
                have hsq := hbq.size
                have hll := lsN_length j (tb n)
                clear hown hbq
                by_cases hjN : j < N
                · have j1 : (j : Int) < (N : Int) := by omega
                  have m1 : min j 64 = j := by omega
                  by_cases e1 : tb n j = true
                  · have b1 : bits .and .i64 ((n : Int) / 2 ^ j) 1 = 1 := by rw [bit_at, if_pos e1]
                    have HE1 : Hid (lsN (j + 1) (tb n) = lsN j (tb n) ++ [j]) := by
                      show lsN (j + 1) (tb n) = lsN j (tb n) ++ [j]
                      rw [lsN_succ, if_pos e1]
                    clear e1
                    go_wp2_with (first | (at_builtin; refine wpList_pushA (x := j) rfl _ _ rfl rfl rfl HOW.out (by omega) hsq ?_; intro g1 c1 w7 hown1 hgr1 hat1) | go_in)
                    go_roundw
                    case rel =>
                      refine ⟨j + 1, some ⟨g1, 0, none⟩, c1, by omega, by go_num, by rw [HE1.out, List.length_append]; rfl, by rw [HE1.out]; exact hown1, ?_⟩
                      have T1 := (alloc_turns wr (Obj.cells #[.int .i64 (j : Int)] 3) (fun x => some x = (Value.slice lo (lsN j (tb n)).length lc).ownBlock)).trans (Turns.of_grown hgr1)
                      refine Turns.below HBQ.out T1 hsq (fun k hM => ?_)
                      exact (HOW.out.lt k hM.symm).1
                    case measure => simp [numOf]; omega
                  · have b1 : bits .and .i64 ((n : Int) / 2 ^ j) 1 = 0 := by rw [bit_at, if_neg e1]
                    have HE1 : Hid (lsN (j + 1) (tb n) = lsN j (tb n)) := by
                      show lsN (j + 1) (tb n) = lsN j (tb n)
                      rw [lsN_succ, if_neg e1, List.append_nil]
                    clear e1
                    go_wp2
                    go_roundw
                    case rel => exact ⟨j + 1, lo, lc, by omega, by go_num, by rw [HE1.out], by rw [HE1.out]; exact HOW.out, HBQ.out⟩
                    case measure => simp [numOf]; omega
                · have j1 : ¬ (j : Int) < (N : Int) := by omega
                  have hjN' : j = N := by omega
                  rw [hjN'] at HOW hll ⊢
                  obtain ⟨l, hl⟩ : ∃ l, l = lsN N (tb n) := ⟨_, rfl⟩
                  have HL : Hid (l = lsN N (tb n)) := hl
                  rw [← hl] at HOW hll ⊢
                  obtain ⟨vs, v1, v2, v3⟩ := HLS.out.below HBQ.out
                  have hv1 : vs.length = fl := by rw [v1, HFL.out]
                  have HV : Hid (wr.ownsRow w.heap.size 29 1 (.slice so fl sc) fl vs) := by
                    show wr.ownsRow w.heap.size 29 1 (.slice so fl sc) fl vs
                    rw [← HFL.out] at v2
                    exact v2
                  have HX : Hid (wr.ownsRow w.heap.size 3 1 (.slice lo l.length lc) l.length (qv l)) := ownsRow_mono HOW.out hszr
                  have HV3 : Hid (∀ (i : Nat) (x : Value) (l : List Nat), vs[i]? = some x → F[i]? = some l → wr.ownsRow w.heap.size 3 1 x l.length (qv l)) := v3
                  have hszq : w.heap.size ≤ wr.heap.size := Nat.le_trans hszr hsq
                  clear v1 v2 v3 hjN' hjN hl j1 hj
                  obtain ⟨ll, hlle⟩ : ∃ ll, ll = l.length := ⟨_, rfl⟩
                  have HLL : Hid (ll = l.length) := hlle
                  have HXl : Hid (wr.ownsRow w.heap.size 3 1 (.slice lo ll lc) l.length (qv l)) := by rw [hlle]; exact HX.out
                  rw [← hlle] at hll ⊢
                  clear hlle
                  have j2 : ¬ (N : Int) < (N : Int) := by omega
                  go_wp2_with (first | (at_builtin; refine wpList_pushL rfl _ _ rfl rfl rfl HV.out (by omega) hszq ?_; intro g c w6 hown6 hgr6 hat6) | go_in)
                  have T6 := (alloc_turns wr (Obj.cells #[.slice lo ll lc] 29) (fun k => some k = (Value.slice so fl sc).ownBlock)).trans (Turns.of_grown hgr6)
                  have HB6 : Hid (Below w.heap.size w w6) := by
                    have h1 := below_next HBR.out HBQ.out
                    refine Turns.below h1 T6 h1.size (fun k hM => ?_)
                    exact (HV.out.lt k hM.symm).1
                  have HX6 : Hid (w6.ownsRow w.heap.size 3 1 (.slice lo ll lc) l.length (qv l)) := keep_push HV.out hgr6 HXl.out
                  have HP6 : Hid (ListsAt w6 w.heap.size (.slice (some ⟨g, 0, none⟩) (fl + 1) c) (F ++ [l])) := by
                    have hv := HV.out
                    have h6 := hown6
                    have h7 := hgr6
                    show ListsAt w6 w.heap.size (.slice (some ⟨g, 0, none⟩) (fl + 1) c) (F ++ [l])
                    rw [HFL.out] at hv h6 h7 hv1 ⊢
                    exact ListsAt.push HXl.out hv1 hv HV3.out h6 h7
                  have HGE : Hid (w.heap.size ≤ g) := (hown6.lt g rfl).1
                  have HNN : Hid (1 ≤ n ∧ n < P) := ⟨hn1, hlt⟩
                  clear T6 hown6 hgr6 hat6 hv1 hsq hszq HV HV3 HX HXl HOW HLS j2
                  go_loopw [9] (fun k wz => ∃ (A B : List (List Nat)) (z : List Nat), k = .int .i64 (A.length : Int) ∧ A ++ B = F ∧ ListsAt wz w.heap.size (.slice (some ⟨g, 0, none⟩) (fl + 1) c) (A ++ z :: B) ∧ (∀ b ∈ B, cmpL l b < 0) ∧ wz.ownsRow w.heap.size 3 1 (.slice lo ll lc) l.length (qv l) ∧ Below w.heap.size w wz) (fun k _ => (numOf k).toNat)
                  case atStart => exact ⟨F, [], l, by rw [HFL.out], by simp, HP6.out, by simp, HX6.out, HB6.out⟩
                  case round =>
                    obtain ⟨A, B, z, rfl, hAB, hlz, hBl, hrow, hbz⟩ := hrel
                    have HAB : Hid (A ++ B = F) := hAB
                    have HLZ : Hid (ListsAt wr w.heap.size (.slice (some ⟨g, 0, none⟩) (fl + 1) c) (A ++ z :: B)) := hlz
                    have HBL : Hid (∀ b ∈ B, cmpL l b < 0) := hBl
                    have HRW : Hid (wr.ownsRow w.heap.size 3 1 (.slice lo ll lc) l.length (qv l)) := hrow
                    have HBZ : Hid (Below w.heap.size w wr) := hbz
                    have hAl : A.length ≤ fl := by rw [HFL.out, ← hAB]; simp
                    obtain ⟨ka, hka⟩ : ∃ ka, ka = A.length := ⟨_, rfl⟩
                    have HKA : Hid (ka = A.length) := hka
                    rw [← hka] at hAl ⊢
                    clear hAB hlz hBl hrow hbz hka HP6 HX6 HB6
                    have HEND : Hid (∀ W5, ListsAt W5 w.heap.size (.slice (some ⟨g, 0, none⟩) (fl + 1) c) (A ++ z :: B) → W5.ownsRow w.heap.size 3 1 (.slice lo ll lc) l.length (qv l) → Below w.heap.size w W5 → (∀ a, A.getLast? = some a → ¬ cmpL l a < 0) → ∃ F' : List (List Nat), fl + 1 = F'.length ∧ ListsAt (W5.setCell ⟨g, ka, none⟩ (.slice lo ll lc)) w.heap.size (.slice (some ⟨g, 0, none⟩) (fl + 1) c) F' ∧ RefI N (bothB es) (n + 1) F' ∧ Below w.heap.size w (W5.setCell ⟨g, ka, none⟩ (.slice lo ll lc))) := fun W5 h1 h2 h3 h4 => by
                      refine ⟨A ++ l :: B, ?_, ?_, ?_, h3.setCell (p := ⟨g, ka, none⟩) HGE.out _⟩
                      · rw [HFL.out, ← HAB.out]; simp; omega
                      · have h9 := h1.set (k := ka) (by rw [HKA.out]; simp) h2
                        rw [HKA.out, set_mid] at h9
                        rw [HKA.out]
                        exact h9
                      · rw [HL.out]
                        refine RefI.put (by rw [HAB.out]; exact HRI.out) HNN.out.1 (by rw [← HPE.out]; exact HNN.out.2) HMC.out (fun b hb => by rw [← HL.out]; exact HBL.out b hb) (fun a ha => by rw [← HL.out]; exact h4 a ha)
                    obtain ⟨y0, cy0, fy0⟩ := HLZ.out.slot (k := ka) (by rw [HKA.out]; simp)
                    have a1 : (0 : Int) ≤ (ka : Int) := by omega
                    have a2 : (ka : Int) < (fl : Int) + 1 := by omega
                    rcases List.eq_nil_or_concat A with hA | ⟨A', a, hA⟩
                    · have hk0 : ka = 0 := by rw [HKA.out, hA]; rfl
                      have k0 : ¬ (ka : Int) > 0 := by omega
                      obtain ⟨F', e1, e2, e3, e4⟩ := HEND.out wr HLZ.out HRW.out HBZ.out (fun a ha => by rw [hA] at ha; simp at ha)
                      have HF : Hid (fl + 1 = F'.length ∧ ListsAt (wr.setCell ⟨g, ka, none⟩ (.slice lo ll lc)) w.heap.size (.slice (some ⟨g, 0, none⟩) (fl + 1) c) F' ∧ RefI N (bothB es) (n + 1) F' ∧ Below w.heap.size w (wr.setCell ⟨g, ka, none⟩ (.slice lo ll lc))) := ⟨e1, e2, e3, e4⟩
                      clear e1 e2 e3 e4 hA hk0 HEND
                      go_wp2
                      go_roundw
                      case rel => exact ⟨n + 1, F', some ⟨g, 0, none⟩, c, ⟨by omega, by omega⟩, by go_num, by rw [HF.out.1], by rw [← HF.out.1]; exact HF.out.2.1, HF.out.2.2.1, HF.out.2.2.2⟩
                      case measure => simp [numOf]; omega
                    · have hA' : A = A' ++ [a] := by rw [hA, List.concat_eq_append]
                      clear hA
                      obtain ⟨m, hm⟩ : ∃ m, m = A'.length := ⟨_, rfl⟩
                      have hkm : ka = m + 1 := by rw [HKA.out, hA', hm]; simp
                      have HLZ' : Hid (ListsAt wr w.heap.size (.slice (some ⟨g, 0, none⟩) (fl + 1) c) ((A' ++ [a]) ++ z :: B)) := by
                        have := HLZ.out
                        rw [hA'] at this
                        exact this
                      obtain ⟨xo, xc, cx, ox⟩ := mid_row HLZ'.out
                      rw [← hm] at cx
                      have HOX : Hid (wr.ownsRow w.heap.size 3 1 (.slice xo a.length xc) a.length (qv a)) := ox
                      have hle := row_len HRW.out
                      have h31 : Calls Try.prog 31 #[.slice lo ll lc, .slice xo a.length xc] wr fun e w' => e = .returned (.bool (decide (cmpL l a < 0))) ∧ Below wr.heap.size wr w' := by
                        have hr := HRW.out
                        rw [hle] at hr ⊢
                        refine (before_call (numsAt_own hr) (numsAt_own HOX.out) (by omega)).mono ?_
                        rintro e w' ⟨rfl, q, rfl⟩
                        exact ⟨rfl, drewN_below _ _⟩
                      obtain ⟨al, hal⟩ : ∃ al, al = a.length := ⟨_, rfl⟩
                      rw [← hal] at cx h31
                      have HOX' : Hid (wr.ownsRow w.heap.size 3 1 (.slice xo al xc) a.length (qv a)) := by rw [hal]; exact HOX.out
                      obtain ⟨bb, hbb⟩ : ∃ bb, bb = decide (cmpL l a < 0) := ⟨_, rfl⟩
                      rw [← hbb] at h31
                      have H31 : Hid (Calls Try.prog 31 #[.slice lo ll lc, .slice xo al xc] wr fun e w' => e = .returned (.bool bb) ∧ Below wr.heap.size wr w') := h31
                      have HBB : Hid (bb = decide (cmpL l a < 0)) := hbb
                      have HA' : Hid (A = A' ++ [a]) := hA'
                      have HM : Hid (m = A'.length) := hm
                      have k0 : (ka : Int) > 0 := by omega
                      have ek : IntKind.i64.wrap ((ka : Int) - 1) = (m : Int) := by rw [IntKind.wrap_i64]; omega
                      have a3 : (0 : Int) ≤ (m : Int) := by omega
                      have a4 : (m : Int) < (fl : Int) + 1 := by omega
                      have HKM : Hid (ka = m + 1) := hkm
                      clear h31 hbb hA' hm ox hal hle HOX hkm
                      cases bb with
                      | true =>
                        go_wp2_with (first | (go_at_call 31; refine Calls.mono H31.out ?_; rintro e W5 ⟨rfl, hb5⟩; obtain ⟨y5, cy5, fy5⟩ := (HLZ.out.below hb5).slot (k := ka) (by rw [HKA.out]; simp); have cx5 : W5.cell? ⟨g, m, none⟩ = some (.slice xo al xc) := (hb5.cell (World.block_lt_of_cell? _ _ cx)).trans cx) | go_in)
                        go_roundw
                        case rel =>
                          have hX5 := ownsRow_blocks HOX'.out (fun b hb => hb5.block b (HOX'.out.lt b hb).2)
                          have hR5 := ownsRow_blocks HRW.out (fun b hb => hb5.block b (HRW.out.lt b hb).2)
                          refine ⟨A', a :: B, a, by rw [← HM.out], ?_, ?_, ?_, row_far (HLZ.out.below hb5) hR5, (below_next HBZ.out hb5).setCell (p := ⟨g, ka, none⟩) HGE.out _⟩
                          · rw [← HAB.out, HA'.out]; simp
                          · have h9 := (HLZ.out.below hb5).set (k := ka) (by rw [HKA.out]; simp) hX5
                            rw [HKA.out, set_mid, HA'.out] at h9
                            rw [HKA.out, HA'.out]
                            simpa using h9
                          · intro b hb
                            rcases List.mem_cons.1 hb with rfl | hb
                            · exact of_decide_eq_true HBB.out.symm
                            · exact HBL.out b hb
                        case measure =>
                          have := HKM.out
                          simp [numOf]; omega
                      | false =>
                        go_wp2_with (first | (go_at_call 31; refine Calls.mono H31.out ?_; rintro e W5 ⟨rfl, hb5⟩; obtain ⟨y5, cy5, fy5⟩ := (HLZ.out.below hb5).slot (k := ka) (by rw [HKA.out]; simp)) | go_in)
                        obtain ⟨F', e1, e2, e3, e4⟩ := HEND.out W5 (HLZ.out.below hb5) (ownsRow_blocks HRW.out (fun b hb => hb5.block b (HRW.out.lt b hb).2)) (below_next HBZ.out hb5) (fun a' ha' => by
                          rw [HA'.out] at ha'
                          simp at ha'
                          rw [← ha']
                          have h8 : ¬ cmpL l a < 0 := of_decide_eq_false HBB.out.symm
                          omega)
                        go_roundw
                        case rel => exact ⟨n + 1, F', some ⟨g, 0, none⟩, c, ⟨by omega, by omega⟩, by go_num, by rw [e1], by rw [← e1]; exact e2, e3, e4⟩
                        case measure => simp [numOf]; omega
    · have i1 : ¬ (n : Int) < (P : Int) := by omega
      have hnP' : n = P := by omega
      go_wp2
      go_ret
      exact ⟨so, F, sc, by rw [← HFL.out]; rfl, by rw [← HFL.out]; exact HLS.out, by rw [← hnP']; exact HRI.out, HBR.out⟩
end Go.Proofs.Ytkkfjfphmlcieaa
