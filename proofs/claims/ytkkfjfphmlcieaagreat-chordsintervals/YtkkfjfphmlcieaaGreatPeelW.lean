/- peel: nodes whose near nodes are a clique go, one after another. -/
import Derived.Test.YtkkfjfphmlcieaaGreatPeelM
import Derived.Test.YtkkfjfphmlcieaaGreatShortW
namespace Go.Proofs.YtkkfjfphmlcieaaGreat
set_option maxRecDepth 4000
open Go.RowKit Go.Maps
attribute [local go_sem ↓] Go.wp_at_zero Go.wp_at_succ
theorem marks_lt {w : World} {ao : Option Addr} {N : Nat} {bl : Nat → Nat} {e : Nat → Nat → Bool} (h : NearsAt w ao N bl e) {k : Nat} (hk : Marks N bl k) : k < w.heap.size := by
  obtain ⟨i, hi, rfl⟩ := hk
  exact (h.sets i hi).lt
theorem ownsRow_turnsC {M : Nat → Prop} {w w' : World} {base : Nat} {v : Value} {n : Nat} {xs : List Value} (h : w.ownsRow base 3 1 v n xs) (ht : Turns M w w') (hm : ∀ b, v.ownBlock = some b → ¬ M b) : w'.ownsRow base 3 1 v n xs :=
  ownsRow_blocks h (fun b hb => ht.block b (h.lt b hb).2 (hm b hb))
/-- What lies there in a round. -/
structure PwI (w wr : World) (b1 : Nat) (ao : Option Addr) (cap N : Nat) (bl : Nat → Nat) (e : Nat → Nat → Bool) (oo : Option Addr) (oc : Nat) (O : List Nat) (lo : Option Addr) (lc : Nat) (L : List Nat) : Prop where
  near : NearsAt wr ao N bl e
  ownO : wr.ownsRow (b1 + 1) 3 1 (.slice oo O.length oc) O.length (qv O)
  ownL : wr.ownsRow (b1 + 1) 3 1 (.slice lo L.length lc) L.length (qv L)
  sep : ∀ b, (Value.slice oo O.length oc).ownBlock = some b → (Value.slice lo L.length lc).ownBlock ≠ some b
  box : One wr b1 (.slice ao N cap) 61
  turns : Turns (Marks N bl) w wr
  size : b1 + 1 ≤ wr.heap.size
section
variable {w wr wr' : World} {b1 : Nat} {ao : Option Addr} {cap N : Nat} {bl : Nat → Nat} {e e' : Nat → Nat → Bool} {oo : Option Addr} {oc : Nat} {O : List Nat} {lo : Option Addr} {lc : Nat} {L : List Nat}
theorem PwI.next (h : PwI w wr b1 ao cap N bl e oo oc O lo lc L) (hb : Below wr.heap.size wr wr') : PwI w wr' b1 ao cap N bl e oo oc O lo lc L :=
  ⟨h.near.below hb, ownsRow_turnsC h.ownO (Turns.of_below hb (fun _ => False)) (fun _ _ h => h), ownsRow_turnsC h.ownL (Turns.of_below hb (fun _ => False)) (fun _ _ h => h), h.sep, (hb.block _ (lt_of_block h.box)).trans h.box, h.turns.trans (Turns.of_below hb _), Nat.le_trans h.size hb.size⟩
/-- Sets change. -/
theorem PwI.sets (h : PwI w wr b1 ao cap N bl e oo oc O lo lc L) (hlo : ∀ i, i < N → bl i < b1) (hn : NearsAt wr' ao N bl e') (ht : Turns (Marks N bl) wr wr') : PwI w wr' b1 ao cap N bl e' oo oc O lo lc L := by
  have far : ∀ b, b1 + 1 ≤ b → ¬ Marks N bl b := fun b hb ⟨i, hi, e⟩ => by have := hlo i hi; omega
  exact ⟨hn, ownsRow_turnsC h.ownO ht (fun b hb => far b (h.ownO.lt b hb).1), ownsRow_turnsC h.ownL ht (fun b hb => far b (h.ownL.lt b hb).1), h.sep, (ht.block _ (lt_of_block h.box) (fun ⟨i, hi, e⟩ => by have := hlo i hi; omega)).trans h.box, h.turns.trans ht, Nat.le_trans h.size ht.size⟩
end
def PeelEnd (w : World) (N : Nat) (adj : Nat → Nat → Bool) (ao : Option Addr) (bl : Nat → Nat) (r : Ending) (w' : World) : Prop :=
  ∃ (O L : List Nat) (oo : Option Addr) (oc : Nat), r = .returned (.slice oo O.length oc) ∧ w'.ownsRow w.heap.size 3 1 (.slice oo O.length oc) O.length (qv O) ∧ PeelI N adj O L ∧ (∀ x ∈ L, clqB N (offV adj O) (offV adj O x) = false) ∧ NearsAt w' ao N bl (offV adj O)
set_option maxHeartbeats 8000000 in
theorem peel_call {w : World} {ao : Option Addr} {cap N : Nat} {bl : Nat → Nat} {adj : Nat → Nat → Bool} (hnear : NearsAt w ao N bl adj) (hN : N ≤ 100) (hs : ∀ x y, adj x y = adj y x) :
    Calls Tryz.prog 35 #[.slice ao N cap] w fun r w' => PeelEnd w N adj ao bl r w' ∧ Turns (Marks N bl) w w' := by
  have HNR : Hid (NearsAt w ao N bl adj) := hnear
  have HS : Hid (∀ x y, adj x y = adj y x) := hs
  have hN6 : N ≤ 1000000 := by omega
  have h37 : ∀ args w', (callFunc 53 args).run Tryz.prog w' = .ok (.enter 53 args) w' := enters_of Tryz.func53 (by kernel_rfl) rfl
  clear hnear hs
  go_enter Tryz.func35, Tryz.ntmps35
  go_upto_region 1 with (fail)
  have o1 := one_new w (.slice ao N cap) 61
  have hB0 := below_alloc (Below.refl _ w) (Obj.cells #[.slice ao N cap] 61)
  have hs0 : (w.alloc (Obj.cells #[.slice ao N cap] 61)).heap.size = w.heap.size + 1 := World.size_alloc _ _
  obtain ⟨b1, hb1⟩ : ∃ b, b = w.heap.size := ⟨_, rfl⟩
  rw [← hb1] at o1 hs0 ⊢
  generalize w.alloc (Obj.cells #[.slice ao N cap] 61) = W0 at o1 hB0 hs0 ⊢
  have HLO : Hid (∀ i, i < N → bl i < b1) := fun i hi => by rw [hb1]; exact (HNR.out.sets i hi).lt
  have HO1 : Hid (One W0 b1 (.slice ao N cap) 61) := o1
  have q1 : W0.cell? ⟨b1, 0, none⟩ = some (.slice ao N cap) := box_cell o1 rfl
  have hb1' : w.heap.size ≤ b1 := by omega
  clear o1 hb1
  go_upto_region 3 with (first
    | (go_at_call 50; refine Calls.mono (all_call N W0 hN6) ?_; rintro e w1 ⟨bA, rfl, hbA, hSA, hB1⟩)
    | (go_at_call 51; refine Calls.mono (rising_call hSA hN6) ?_; rintro e w2 ⟨v, rfl, hown, hB2⟩; obtain ⟨lo, lc, rfl⟩ := form_row hown)
    | go_in)
  have hLr : listN N (fun _ => true) = List.range N := by unfold listN; simp
  rw [hLr] at hown ⊢
  have hst : PwI w w2 b1 ao cap N bl (offV adj []) none 0 [] lo lc (List.range N) := by
    have hb02 := below_next hB1 hB2
    have hbw := below_next hB0 hb02
    refine ⟨(HNR.out.below hbw).congr (fun i j _ _ => by simp [offV]), World.ownsRow_nil _ _ _ _, ownsRow_mono hown (by have := hB1.size; omega), fun b hb => (by cases hb), (hb02.block _ (lt_of_block HO1.out)).trans HO1.out, Turns.of_below hbw _, ?_⟩
    have := hb02.size
    omega
  have HST : Hid (PwI w w2 b1 ao cap N bl (offV adj []) none 0 [] lo lc (List.range N)) := hst
  clear hst hown hB2 hB1 hSA hbA hB0 hs0 q1 hLr HO1
  simp only [List.length_range]
  go_loopw [3, 4] (fun so sl' wr => ∃ (O L : List Nat) (oo : Option Addr) (oc : Nat) (lo : Option Addr) (lc : Nat), so = .slice oo O.length oc ∧ sl' = .slice lo L.length lc ∧ PeelI N adj O L ∧ PwI w wr b1 ao cap N bl (offV adj O) oo oc O lo lc L) (fun _ sl' _ => lenS sl')
  case atStart => exact ⟨[], List.range N, none, 0, lo, lc, rfl, by rw [List.length_range], PeelI.start N adj, HST.out⟩
  case round =>
    obtain ⟨O, L, oo, oc, lo, lc, rfl, rfl, hpi, hpw⟩ := hrel
    clear HST
    have HPI : Hid (PeelI N adj O L) := hpi
    have HPW : Hid (PwI w wr b1 ao cap N bl (offV adj O) oo oc O lo lc L) := hpw
    have nlen : ∀ (l : List Nat), l.Nodup → (∀ x ∈ l, x < N) → l.length ≤ N := fun l h1 h2 => by
      have := nat_nodup_len l (List.range N) h1 (fun x hx => List.mem_range.2 (h2 x hx))
      simpa using this
    have hLN := nlen L hpi.ndL hpi.ltL
    have hON := nlen O hpi.nd hpi.lt
    have q1 : wr.cell? ⟨b1, 0, none⟩ = some (.slice ao N cap) := box_cell hpw.box rfl
    have h36 := indexB_call (vc := lc) (numsAt_own hpw.ownL) (by omega) 53 #[ptr b1] h37 (fun x => clqB N (offV adj O) (offV adj O x)) (fun W hW x hx => peel1_call (hpw.near.below hW) (by omega) (box_cell ((hW.block _ (lt_of_block hpw.box)).trans hpw.box) rfl) (hpi.ltL x hx))
    have H36 : Hid (Calls Tryz.prog 52 #[.slice lo L.length lc, .func (.func 53) #[] #[ptr b1]] wr fun e w' => (∃ m, e = .returned (.int .i64 m) ∧ IdxF L (fun x => clqB N (offV adj O) (offV adj O x)) m) ∧ Below wr.heap.size wr w') := h36
    clear h36 hpi hpw nlen q1
    go_upto_region 4 with (first | (go_at_call 52; refine Calls.mono H36.out ?_; rintro e w3 ⟨⟨m, rfl, hm⟩, hb3⟩) | go_in)
    have HPW3 := HPW.out.next hb3
    clear HPW H36 hb3
    rcases hm with ⟨rfl, hnone⟩ | ⟨t, rfl, ht, hct⟩
    · have HX : Hid (∀ x ∈ L, clqB N (offV adj O) (offV adj O x) = false) := hnone
      have HP : Hid (PwI w w3 b1 ao cap N bl (offV adj O) oo oc O lo lc L) := HPW3
      clear hnone HPW3
      go_wp2
      go_ret
      exact ⟨⟨O, L, oo, oc, rfl, ownsRow_mono HP.out.ownO (by omega), HPI.out, HX.out, HP.out.near⟩, HP.out.turns⟩
    · have HP : Hid (PwI w w3 b1 ao cap N bl (offV adj O) oo oc O lo lc L) := HPW3
      have HCT : Hid (clqB N (offV adj O) (offV adj O (L.getD t 0)) = true) := hct
      obtain ⟨v, hv⟩ : ∃ v, v = L.getD t 0 := ⟨_, rfl⟩
      have hget : L[t]? = some v := by rw [hv]; simp [List.getD, List.getElem?_eq_getElem ht]
      have hvN : v < N := HPI.out.ltL v (List.mem_of_getElem? hget)
      obtain ⟨gl, rfl, cv⟩ := qcell HP.out.ownL hget
      have HV : Hid (v = L.getD t 0) := hv
      have q1 : w3.cell? ⟨b1, 0, none⟩ = some (.slice ao N cap) := box_cell HP.out.box rfl
      obtain ⟨gn, rfl, cn⟩ := HP.out.near.row v hvN
      obtain ⟨U, hU⟩ : ∃ U, U = listN N (offV adj O v) := ⟨_, rfl⟩
      have h35 := rising_call (HP.out.near.sets v hvN) hN6
      rw [← hU] at h35
      have HU : Hid (U = listN N (offV adj O v)) := hU
      have H35 : Hid (Calls Tryz.prog 51 #[.map (some (bl v))] w3 fun e w' => ∃ v, e = .returned v ∧ w'.ownsRow w3.heap.size 3 1 v U.length (qv U) ∧ Below w3.heap.size w3 w') := h35
      have hUN : U.length ≤ N := by
        rw [hU]; unfold listN
        exact Nat.le_trans (List.length_filter_le _ _) (by simp)
      have kt : decide ((t : Int) < 0) = false := by rw [decide_eq_false_iff_not]; omega
      have kt' : ¬ ((t : Int) < 0) := by omega
      have i1 : (0 : Int) ≤ (t : Int) := by omega
      have i2 : (t : Int) < (L.length : Int) := by omega
      have j1 : (0 : Int) ≤ (v : Int) := by omega
      have j2 : (v : Int) < (N : Int) := by omega
      clear HPW3 hct hv hget hU h35
      go_upto_region 8 with (first | (go_at_call 51; refine Calls.mono H35.out ?_; rintro e w4 ⟨vu, rfl, hown, hb4⟩; obtain ⟨uo, uc, rfl⟩ := form_row hown) | go_in)
      have HP4 : Hid (PwI w w4 b1 (some ⟨gn, 0, none⟩) cap N bl (offV adj O) oo oc O (some ⟨gl, 0, none⟩) lc L) := HP.out.next hb4
      have HNU : Hid (NumsAt w4 uo U) := numsAt_own hown
      have HUB : Hid (∀ b, uo = some ⟨b, 0, none⟩ → b1 + 1 ≤ b) := fun b e => by
        have h1 := (hown.lt b (by rw [e]; rfl)).1
        have := HP.out.size
        omega
      clear cv cn q1 H35 hown hb4 HP
      obtain ⟨W4, hW4⟩ : ∃ W4, W4 = w4 := ⟨_, rfl⟩
      rw [← hW4] at HP4 HNU ⊢
      clear hW4
      go_loopw [29] (fun s wz => ∃ j : Nat, j ≤ U.length ∧ s = .int .i64 (j : Int) ∧ PwI w wz b1 (some ⟨gn, 0, none⟩) cap N bl (offU (offV adj O) v (U.take j)) oo oc O (some ⟨gl, 0, none⟩) lc L ∧ NumsAt wz uo U) (fun s _ => U.length - (numOf s).toNat)
      case atStart => exact ⟨0, Nat.zero_le _, rfl, by rw [List.take_zero, offU_nil]; exact HP4.out, HNU.out⟩
      case round =>
        obtain ⟨j, hj, rfl, hpw, hnu⟩ := hrel
        have HPz : Hid (PwI w wr b1 (some ⟨gn, 0, none⟩) cap N bl (offU (offV adj O) v (U.take j)) oo oc O (some ⟨gl, 0, none⟩) lc L) := hpw
        have HNz : Hid (NumsAt wr uo U) := hnu
        clear hpw hnu HP4 HNU
        by_cases hjl : j < U.length
        · obtain ⟨u, hu⟩ : ∃ u, u = U.getD j 0 := ⟨_, rfl⟩
          have hget : U[j]? = some u := by rw [hu]; simp [List.getD, List.getElem?_eq_getElem hjl]
          have huN : u < N := by
            have : u ∈ listN N (offV adj O v) := by rw [← HU.out]; exact List.mem_of_getElem? hget
            exact (listN_mem.1 this).1
          obtain ⟨bu, rfl, cu⟩ := HNz.out j u hget
          have q1 : wr.cell? ⟨b1, 0, none⟩ = some (.slice (some ⟨gn, 0, none⟩) N cap) := box_cell HPz.out.box rfl
          have h39 := part_call (cap := cap) HPz.out.near (by omega) huN hvN
          have H39 : Hid (Calls Tryz.prog 44 #[.slice (some ⟨gn, 0, none⟩) N cap, .int .i64 (u : Int), .int .i64 (v : Int)] wr fun r w' => r = .returned (.tuple #[]) ∧ NearsAt w' (some ⟨gn, 0, none⟩) N bl (offE (offU (offV adj O) v (U.take j)) u v) ∧ Turns (Marks N bl) wr w') := h39
          have k1 : (0 : Int) ≤ (j : Int) := by omega
          have k2 : (j : Int) < (U.length : Int) := by omega
          have HTK : Hid (U.take (j + 1) = U.take j ++ [u]) := by
            rw [List.take_add_one, hget]; rfl
          clear hu hget h39
          go_wp2_with (first | (go_at_call 44; refine Calls.mono H39.out ?_; rintro e w5 ⟨rfl, hn5, ht5⟩) | go_in)
          go_roundw
          case rel =>
            refine ⟨j + 1, by omega, by go_num, ?_, HNz.out.turns ht5 (fun b e hM => ?_)⟩
            · rw [HTK.out, ← offU_snoc]; exact HPz.out.sets HLO.out hn5 ht5
            · obtain ⟨i, hi, e2⟩ := hM
              have h1 := HUB.out b e
              have h2 := HLO.out i hi
              omega
          case measure => simp [numOf]; omega
        · have k2 : ¬ (j : Int) < (U.length : Int) := by omega
          have hju : j = U.length := by omega
          have hnear' : NearsAt wr (some ⟨gn, 0, none⟩) N bl (offV adj (O ++ [v])) := by
            have h1 := HPz.out.near
            rw [hju, List.take_length] at h1
            exact h1.congr (fun x y hx hy => offU_all (N := N) HS.out (fun z hz => by rw [HU.out]; exact ⟨fun h => (listN_mem.1 h).2, fun h => listN_mem.2 ⟨hz, h⟩⟩) hx hy)
          have HNV : Hid (NearsAt wr (some ⟨gn, 0, none⟩) N bl (offV adj (O ++ [v]))) := hnear'
          have hszr := HPz.out.size
          have hje : IntKind.i64.wrap ((t : Int) + 1) = ((t + 1 : Nat) : Int) := by rw [IntKind.wrap_i64]; omega
          clear hnear' hju
          have HOL : Hid (wr.ownsRow (b1 + 1) 3 1 (.slice (some ⟨gl, 0, none⟩) L.length lc) L.length (qv L)) := HPz.out.ownL
          go_upto_region 13 with (first | (at_builtin; refine wpList_pushA (x := v) rfl _ _ rfl rfl rfl HPz.out.ownO (by omega) hszr ?_; intro g1 c1 w6 hown1 hgr1 hat1) | go_in)
          have T1 := (alloc_turns wr (Obj.cells #[.int .i64 (v : Int)] 3) (fun x => some x = (Value.slice oo O.length oc).ownBlock)).trans (Turns.of_grown hgr1)
          have HOL6 : Hid (w6.ownsRow (b1 + 1) 3 1 (.slice (some ⟨gl, 0, none⟩) L.length lc) L.length (qv L)) := ownsRow_turnsC HOL.out T1 (fun b hb e => HPz.out.sep b e.symm hb)
          have hfarO : ∀ b, b < b1 + 1 → ¬ (some b = (Value.slice oo O.length oc).ownBlock) := fun b hb e => by
            have := (HPz.out.ownO.lt b e.symm).1
            omega
          have HN6 : Hid (NearsAt w6 (some ⟨gn, 0, none⟩) N bl (offV adj (O ++ [v]))) := HNV.out.turns T1 (fun i hi => hfarO _ (by have := HLO.out i hi; omega)) (fun g e => by
            cases e
            refine hfarO _ ?_
            obtain ⟨_, e9, c9⟩ := HNR.out.row v hvN
            cases e9
            have := World.block_lt_of_cell? _ _ c9
            have h9 : gn < w.heap.size := this
            omega)
          have HBX6 : Hid (One w6 b1 (.slice (some ⟨gn, 0, none⟩) N cap) 61) := (T1.block _ (lt_of_block HPz.out.box) (hfarO _ (by omega))).trans HPz.out.box
          have HT6 : Hid (Turns (Marks N bl) w w6) := by
            refine ⟨T1.os.trans HPz.out.turns.os, T1.tape.trans HPz.out.turns.tape, T1.output.trans HPz.out.turns.output, Nat.le_trans HPz.out.turns.size T1.size, fun k hk hM => ?_⟩
            rw [T1.block k (Nat.lt_of_lt_of_le hk HPz.out.turns.size) (hfarO k (by omega)), HPz.out.turns.block k hk hM]
          have HSEP6 : Hid (g1 ≠ gl) := fun e => by
            rcases hat1 with h1 | h1
            · exact HPz.out.sep g1 h1 (by rw [e]; rfl)
            · have := (HOL.out.lt gl rfl).2
              omega
          have HOW6 : Hid (w6.ownsRow (b1 + 1) 3 1 (.slice (some ⟨g1, 0, none⟩) (O ++ [v]).length c1) (O ++ [v]).length (qv (O ++ [v]))) := hown1
          have hsz6 : b1 + 1 ≤ w6.heap.size := Nat.le_trans hszr T1.size
          have H40 : Hid (Calls Tryz.prog 55 #[.slice (some ⟨gl, 0, none⟩) L.length lc, .int .i64 (t : Int), .int .i64 ((t + 1 : Nat) : Int)] w6 fun e w' => e = .returned (.slice (some ⟨gl, 0, none⟩) (L.eraseIdx t).length lc) ∧ w'.ownsRow (b1 + 1) 3 1 (.slice (some ⟨gl, 0, none⟩) (L.eraseIdx t).length lc) (L.eraseIdx t).length (qv (L.eraseIdx t)) ∧ Turns (fun k => some k = (Value.slice (some ⟨gl, 0, none⟩) L.length lc).ownBlock) w6 w') := del_own HOL6.out ht (by omega)
          have hlen' : (L.eraseIdx t).length < L.length := by rw [List.length_eraseIdx]; simp [ht]; omega
          clear hown1 hgr1 hat1 T1 hfarO
          go_wp2_with (first | (go_at_call 55; refine Calls.mono H40.out ?_; rintro e w7 ⟨rfl, hown7, ht7⟩) | go_in)
          go_roundw
          case rel =>
            have hgl := (HOL6.out.lt gl rfl)
            have hm7 : ∀ b, b ≠ gl → ¬ (some b = (Value.slice (some ⟨gl, 0, none⟩) L.length lc).ownBlock) := fun b hb e => hb (by injection e)
            refine ⟨O ++ [v], L.eraseIdx t, some ⟨g1, 0, none⟩, c1, some ⟨gl, 0, none⟩, lc, by rw [List.length_append]; rfl, rfl, by rw [HV.out]; exact HPI.out.step ht HCT.out, ⟨?_, ?_, hown7, ?_, ?_, ?_, Nat.le_trans hsz6 ht7.size⟩⟩
            · refine HN6.out.turns ht7 (fun i hi => hm7 _ (by have := HLO.out i hi; omega)) (fun g e => hm7 _ ?_)
              cases e
              obtain ⟨_, e9, c9⟩ := HNR.out.row v hvN
              cases e9
              have h9 : gn < w.heap.size := World.block_lt_of_cell? _ _ c9
              omega
            · exact ownsRow_turnsC HOW6.out ht7 (fun b hb => hm7 b (fun e => HSEP6.out (by
                have : (Value.slice (some ⟨g1, 0, none⟩) (O ++ [v]).length c1).ownBlock = some g1 := rfl
                rw [this] at hb
                injection hb with hb
                rw [hb, e])))
            · intro b hb e
              have h1 : (Value.slice (some ⟨g1, 0, none⟩) (O ++ [v]).length c1).ownBlock = some g1 := rfl
              have h2 : (Value.slice (some ⟨gl, 0, none⟩) (L.eraseIdx t).length lc).ownBlock = some gl := rfl
              rw [h1] at hb
              rw [h2] at e
              injection hb with hb
              injection e with e
              exact HSEP6.out (by rw [hb, e])
            · exact (ht7.block _ (lt_of_block HBX6.out) (hm7 _ (by omega))).trans HBX6.out
            · refine ⟨ht7.os.trans HT6.out.os, ht7.tape.trans HT6.out.tape, ht7.output.trans HT6.out.output, Nat.le_trans HT6.out.size ht7.size, fun k hk hM => ?_⟩
              rw [ht7.block k (Nat.lt_of_lt_of_le hk HT6.out.size) (hm7 k (by omega)), HT6.out.block k hk hM]
          case measure => simp [lenS]; exact hlen'
end Go.Proofs.YtkkfjfphmlcieaaGreat
