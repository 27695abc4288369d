/- slices.DeleteFunc of a row of numbers. slices.Index of a row of numbers: the first place, or -1. spare's two literals. change: two colours change places at some nodes. slices.Clone of a row of numbers. spare: colour 0 is taken from the nodes near a cut. What spare keeps, and that no node near the cut has colour 0 behind it. -/
import Derived.Test.YtdnmoifbkojnlaaGreatReachW
import Derived.Lib.SliceRun
import Derived.Test.YtdnmoifbkojnlaaGreatTri
import Derived.Test.YtdnmoifbkojnlaaGreatUnW
namespace Go.Proofs.YtdnmoifbkojnlaaGreat
open Go.RowKit Go.Maps
attribute [local go_sem ↓] Go.wp_at_zero Go.wp_at_succ
theorem setCells_turns (b : Nat) : ∀ (vs : List Value) (o : Nat) (w : World), Turns (fun k => k = b) w (w.setCells b o vs)
  | [], _, w => Turns.refl _ w
  | v :: vs, o, w => (setCell_turns w b o v).trans (setCells_turns b vs (o + 1) _)
/-- The row as it is gone through: what is kept lies first, what is to come lies where it lay. -/
structure DelS (w : World) (g cap : Nat) (l : List Nat) (d : Nat → Bool) (i j : Nat) (wr : World) : Prop where
  turns : Turns (fun k => k = g) w wr
  row : ∃ f : Nat → Value, RowV wr g 3 cap f ∧ (∀ t x : Nat, ((l.take j).filter (fun x => !d x))[t]? = some x → f t = .int .i64 (x : Int)) ∧ ∀ t x : Nat, j ≤ t → l[t]? = some x → f t = .int .i64 (x : Int)
  len : i = ((l.take j).filter (fun x => !d x)).length
theorem take_filter_succ {l : List Nat} {d : Nat → Bool} {j x : Nat} (h : l[j]? = some x) : (l.take (j + 1)).filter (fun x => !d x) = (l.take j).filter (fun x => !d x) ++ (if d x then [] else [x]) := by
  rw [List.take_add_one, h, List.filter_append]
  cases hd : d x <;> simp [hd]
theorem DelS.drewn {w wr : World} {g cap : Nat} {l : List Nat} {d : Nat → Bool} {i j : Nat} (h : DelS w g cap l d i j wr) (mm : Nat) : DelS w g cap l d i j (wr.drewN mm) := by
  obtain ⟨f, h1, h2⟩ := h.row
  exact ⟨h.turns.trans (Turns.of_below (drewN_below wr mm) _), ⟨f, h1.block rfl, h2⟩, h.len⟩
theorem DelS.drop {w wr : World} {g cap : Nat} {l : List Nat} {d : Nat → Bool} {i j x : Nat} (h : DelS w g cap l d i j wr) (hx : l[j]? = some x) (hd : d x = true) : DelS w g cap l d i (j + 1) wr := by
  obtain ⟨f, h1, h2, h3⟩ := h.row
  have e := take_filter_succ (d := d) hx
  rw [hd, if_pos rfl, List.append_nil] at e
  exact ⟨h.turns, ⟨f, h1, by rw [e]; exact h2, fun t x ht => h3 t x (by omega)⟩, by rw [e]; exact h.len⟩
theorem DelS.keep {w wr : World} {g cap : Nat} {l : List Nat} {d : Nat → Bool} {i j x : Nat} (h : DelS w g cap l d i j wr) (hx : l[j]? = some x) (hd : d x = false) : DelS w g cap l d (i + 1) (j + 1) (wr.setCell ⟨g, i, none⟩ (.int .i64 (x : Int))) := by
  obtain ⟨f, h1, h2, h3⟩ := h.row
  have e := take_filter_succ (d := d) hx
  rw [hd, if_neg (by simp)] at e
  have hij : i ≤ j := by
    have := List.length_filter_le (fun x => !d x) (l.take j)
    rw [← h.len, List.length_take] at this
    omega
  refine ⟨h.turns.trans (setCell_turns wr g i _), ⟨_, h1.set i (.int .i64 (x : Int)), fun t y ht => ?_, fun t y ht hy => ?_⟩, by rw [e, List.length_append, ← h.len]; rfl⟩
  · rw [e] at ht
    by_cases et : t = i
    · rw [if_pos et]
      rw [et, h.len, List.getElem?_append_right (Nat.le_refl _)] at ht
      simp at ht
      rw [ht]
    · rw [if_neg et]
      refine h2 t y ?_
      have hlt : t < ((l.take j).filter (fun x => !d x)).length := by
        have := (List.getElem?_eq_some_iff.1 ht).1
        rw [List.length_append, ← h.len, List.length_singleton] at this
        rw [← h.len]
        omega
      rw [List.getElem?_append_left hlt] at ht
      exact ht
  · rw [if_neg (by omega)]
    exact h3 t y (by omega) hy
section
variable {w : World}
set_option maxRecDepth 4000 in
set_option maxHeartbeats 4000000 in
theorem delete_call {g base cap : Nat} {l : List Nat} (hown : w.ownsRow base 3 1 (.slice (some ⟨g, 0, none⟩) l.length cap) l.length (qv l)) (hl : l.length ≤ 1000) (F : FuncId) (caps : Array Value) (hF : ∀ args w', (callFunc F args).run Tryz.prog w' = .ok (.enter F args) w')
    (d : Nat → Bool) (hd : ∀ W, Turns (fun k => k = g) w W → ∀ x, x ∈ l → Calls Tryz.prog F (#[.int .i64 (x : Int)] ++ caps) W fun e w' => e = .returned (.bool (d x)) ∧ ∃ m, w' = W.drewN m) :
    Calls Tryz.prog 63 #[.slice (some ⟨g, 0, none⟩) l.length cap, .func (.func F) #[] caps] w fun e w' => ∃ c', e = .returned (.slice (some ⟨g, 0, none⟩) (l.filter (fun x => !d x)).length c') ∧ NumsAt w' (some ⟨g, 0, none⟩) (l.filter (fun x => !d x)) ∧ Turns (fun k => k = g) w w' := by
  have H82 := indexF_call (w := w) (vc := cap) (numsAt_own hown) hl F caps hF d (fun k x hx => hd (w.drewN k) (Turns.of_below (drewN_below w k) _) x hx)
  have HD : Hid (∀ W, Turns (fun k => k = g) w W → ∀ x, x ∈ l → Calls Tryz.prog F (#[.int .i64 (x : Int)] ++ caps) W fun e w' => e = .returned (.bool (d x)) ∧ ∃ m, w' = W.drewN m) := hd
  obtain ⟨cur, hcur, hcs, hct, hcap⟩ : ∃ cur, w.heap[g]? = some (.cells cur 3 (0, 0)) ∧ cur.size = cap ∧ cur.toList.take l.length = qv l ∧ l.length ≤ cap := by
    rcases hown.2 with ⟨e, _⟩ | ⟨g', c', cur, e, _, h3, h4, _, h6, h7⟩
    · cases e
    · cases e; exact ⟨cur, h3, by rw [h6, Nat.mul_one], by rw [Nat.mul_one] at h7; exact h7, h4⟩
  have HRV : Hid (RowV w g 3 cap (fun t => cur.getD t undef)) := ⟨cur, hcur, hcs, fun j hj => by simp [Array.getD, hcs, hj]⟩
  have HLV : Hid (∀ t x : Nat, l[t]? = some x → cur.getD t undef = .int .i64 (x : Int)) := fun t x hx => by
    have ht := (List.getElem?_eq_some_iff.1 hx).1
    have h1 : (qv l)[t]? = some (.int .i64 (x : Int)) := by unfold qv; rw [List.getElem?_map, hx]; rfl
    rw [← hct, List.getElem?_take_of_lt ht] at h1
    have h2 : t < cur.size := by omega
    simp at h1
    simp [Array.getD, h2]
    rw [Array.getElem?_eq_getElem h2] at h1
    exact Option.some.inj h1
  have HNA : Hid (NumsAt w (some ⟨g, 0, none⟩) l) := numsAt_own hown
  have H : Hid (Calls Tryz.prog 82 #[.slice (some ⟨g, 0, none⟩) l.length cap, .func (.func F) #[] caps] w fun e w' => (∃ m, e = .returned (.int .i64 m) ∧ IdxF l d m) ∧ ∃ k, w' = w.drewN k) := H82
  clear H82 hd hown hcur hcs hct
  go_enter Tryz.func63, Tryz.ntmps63
  go_upto_region 2 with (first | (go_at_call 82; refine Calls.mono H.out ?_; rintro e w' ⟨⟨m, rfl, hm⟩, k, rfl⟩) | go_in)
  rcases hm with ⟨rfl, hno⟩ | ⟨i0, rfl, hi0, hdi, hbef⟩
  · have hfl : l.filter (fun x => !d x) = l := List.filter_eq_self.2 (fun x hx => by rw [hno x hx]; rfl)
    have HFL : Hid (l.filter (fun x => !d x) = l) := hfl
    clear hfl hno
    go_wp2
    go_ret
    rw [HFL.out]
    exact ⟨cap, rfl, HNA.out.below (drewN_below w k), Turns.of_below (drewN_below w k) _⟩
  · have hne1 : ((i0 : Int) == -1) = false := by rw [beq_eq_false_iff_ne]; omega
    have HS0 : Hid (DelS w g cap l d i0 (i0 + 1) (w.drewN k)) := by
      have e : (l.take i0).filter (fun x => !d x) = l.take i0 := List.filter_eq_self.2 (fun x hx => by
        obtain ⟨t, ht, e⟩ := List.getElem_of_mem hx
        have ht2 : t < i0 ∧ t < l.length := by rw [List.length_take] at ht; omega
        rw [List.getElem_take] at e
        have := hbef t ht2.1
        rw [getD_lt ht2.2, e] at this
        rw [this]; rfl)
      have h0 : DelS w g cap l d i0 i0 (w.drewN k) := ⟨Turns.of_below (drewN_below w k) _, ⟨_, HRV.out.block rfl, fun t x hx => by
        rw [e] at hx
        have ht := (List.getElem?_eq_some_iff.1 hx).1
        rw [List.length_take] at ht
        rw [List.getElem?_take_of_lt (by omega)] at hx
        exact HLV.out t x hx, fun t x _ hx => HLV.out t x hx⟩, by rw [e, List.length_take]; omega⟩
      exact h0.drop (x := l.getD i0 0) (by rw [getD_lt hi0, List.getElem?_eq_getElem hi0]) hdi
    clear hdi hbef
    go_wp2
    go_loopw [5, 6] (fun s5 s6 wr => ∃ i j : Nat, s5 = .int .i64 (i : Int) ∧ s6 = .int .i64 (j : Int) ∧ i < j ∧ j ≤ l.length ∧ DelS w g cap l d i j wr) (fun _ s6 _ => l.length - (numOf s6).toNat)
    case atStart => exact ⟨i0, i0 + 1, rfl, by go_num, by omega, by omega, HS0.out⟩
    case round =>
      clear HS0
      obtain ⟨i, j, rfl, rfl, hij, hj, hS⟩ := hrel
      have HS : Hid (DelS w g cap l d i j wr) := hS
      clear hS
      by_cases hlt : j < l.length
      · obtain ⟨x, hx⟩ : ∃ x, l[j]? = some x := ⟨_, List.getElem?_eq_getElem hlt⟩
        obtain ⟨f, hrv, h2, h3⟩ := HS.out.row
        have cx : wr.cell? ⟨g, j, none⟩ = some (.int .i64 (x : Int)) := by rw [hrv.cell (by omega), h3 j x (Nat.le_refl _) hx]
        have ci : wr.cell? ⟨g, i, none⟩ = some (f i) := hrv.cell (by omega)
        have fi : wr.frozen? ⟨g, i, none⟩ = false := hrv.free i
        have HX : Hid (l[j]? = some x) := hx
        have hcall := HD.out wr HS.out.turns x (List.mem_of_getElem? hx)
        obtain ⟨dx, hdx⟩ : ∃ dx, dx = d x := ⟨_, rfl⟩
        rw [← hdx] at hcall
        have HDX : Hid (dx = d x) := hdx
        have HC : Hid (Calls Tryz.prog F (#[.int .i64 (x : Int)] ++ caps) wr fun e w' => e = .returned (.bool dx) ∧ ∃ m, w' = wr.drewN m) := hcall
        have i1 : (0 : Int) ≤ (j : Int) := by omega
        have i2 : (j : Int) < (l.length : Int) := by omega
        have i3 : (0 : Int) ≤ (i : Int) := by omega
        have i4 : (i : Int) < (l.length : Int) := by omega
        clear hx hdx hcall hrv h2 h3
        cases dx with
        | true =>
          go_wp2_with (first | (refine Calls.mono HC.out ?_; rintro e wa ⟨rfl, mm, rfl⟩) | go_in)
          exact ⟨⟨i, j + 1, rfl, by go_num, by omega, by omega, (HS.out.drop HX.out HDX.out.symm).drewn mm⟩, by simp [numOf]; omega⟩
        | false =>
          go_wp2_with (first | (refine Calls.mono HC.out ?_; rintro e wa ⟨rfl, mm, rfl⟩) | go_in)
          exact ⟨⟨i + 1, j + 1, by go_num, by go_num, by omega, by omega, (HS.out.drewn mm).keep HX.out HDX.out.symm⟩, by simp [numOf]; omega⟩
      · have i2 : ¬ (j : Int) < (l.length : Int) := by omega
        have i3 : (0 : Int) ≤ (i : Int) := by omega
        have i4 : (i : Int) ≤ (l.length : Int) := by omega
        have i5 : (i : Int) ≤ (cap : Int) := by omega
        have i6 : ¬ cap = i := by omega
        have hje : j = l.length := by omega
        have HLN : Hid (i = (l.filter (fun x => !d x)).length) := by
          have := HS.out.len
          rw [hje, List.take_length] at this
          exact this
        obtain ⟨W9, hW9⟩ : ∃ W9, W9 = wr.setCells g i (List.replicate (l.length - i) (.int .i64 0)) := ⟨_, rfl⟩
        have HEND : Hid (NumsAt W9 (some ⟨g, 0, none⟩) (l.filter (fun x => !d x)) ∧ Turns (fun k => k = g) w W9) := by
          obtain ⟨f, hrv, h2, _⟩ := HS.out.row
          rw [hje, List.take_length] at h2
          refine ⟨fun t x hx => ⟨g, rfl, ?_⟩, ?_⟩
          · have ht := (List.getElem?_eq_some_iff.1 hx).1
            rw [← HLN.out] at ht
            rw [hW9, World.cell?_setCells_out g _ i wr ⟨g, t, none⟩ (fun _ _ => Or.inl ht), hrv.cell (by omega), h2 t x hx]
          · rw [hW9]; exact HS.out.turns.trans (setCells_turns g _ i wr)
        have hcl : ∀ ty, (Builtin.clear_ #[29] ty #[.slice (some ⟨g, i, none⟩) (l.length - i) (cap - i)]).run Tryz.prog wr = .ok (.tuple #[]) W9 := fun ty => by
          obtain ⟨f, hrv, _, _⟩ := HS.out.row
          rw [hW9]
          exact Lib.run_clear_slice wr 29 3 ty (.int .i64 0) Tryz.underlying29 (fun w => Tryz.zeroValue3 w) rfl rfl g i (l.length - i) (cap - i) (by omega) (fun t ht => by rw [hrv.cell (by omega)]; rfl) (fun t ht => hrv.free _)
        clear hje hW9
        go_wp2
        go_ret
        rw [← HLN.out]
        exact ⟨⟨cap, rfl⟩, HEND.out.1, HEND.out.2⟩
end
end Go.Proofs.YtdnmoifbkojnlaaGreat

namespace Go.Proofs.YtdnmoifbkojnlaaGreat
open Go.RowKit Go.Maps
attribute [local go_sem ↓] Go.wp_at_zero Go.wp_at_succ

set_option maxHeartbeats 600000 in
theorem index_call {w : World} {vo : Option Addr} {n vc : Nat} {f : Nat → Int} (h : NumF w vo n f) (hn : n ≤ 1000000000000000) (x : Int) :
    Calls Tryz.prog 83 #[.slice vo n vc, .int .i64 x] w fun e w' => (∃ m : Int, e = .returned (.int .i64 m) ∧ ((m = -1 ∧ ∀ j, j < n → f j ≠ x) ∨ (∃ j : Nat, m = j ∧ j < n ∧ f j = x ∧ ∀ i, i < j → f i ≠ x))) ∧ w' = w := by
  have H : Hid (NumF w vo n f) := h
  clear h
  go_enter Tryz.func83, Tryz.ntmps83
  go_wp2
  go_loopw [8] (fun i wr => ∃ k : Nat, k ≤ n ∧ i = .int .i64 (k : Int) ∧ (∀ j, j < k → f j ≠ x) ∧ wr = w) (fun i _ => n - (numOf i).toNat)
  case atStart => exact ⟨0, Nat.zero_le _, rfl, fun j hj => by omega, rfl⟩
  case round =>
    obtain ⟨k, hk, rfl, hne, hwr⟩ := hrel
    have hwr' := hwr.symm
    clear hwr
    subst hwr'
    have HNE : Hid (∀ j, j < k → f j ≠ x) := hne
    clear hne
    by_cases hlt : k < n
    · obtain ⟨b, off, rfl, ck⟩ := H.out k hlt
      have i1 : (0 : Int) ≤ (k : Int) := by omega
      have i2 : (k : Int) < (n : Int) := by omega
      by_cases he : f k = x
      · have k1 : (x == f k) = true := by rw [beq_iff_eq]; exact he.symm
        have HE : Hid (f k = x) := he
        clear he
        go_wp2
        go_ret
        exact ⟨⟨(k : Int), rfl, Or.inr ⟨k, rfl, hlt, HE.out, HNE.out⟩⟩, rfl⟩
      · have k1 : (x == f k) = false := by rw [beq_eq_false_iff_ne]; exact fun e => he e.symm
        have HE : Hid (f k ≠ x) := he
        clear he
        go_wp2
        go_roundw
        case rel => exact ⟨k + 1, by omega, by go_num, fun j hj => by
          by_cases e : j = k
          · subst e; exact HE.out
          · exact HNE.out j (by omega), trivial⟩
        case measure => simp [numOf]; omega
    · have i2 : ¬ (k : Int) < (n : Int) := by omega
      have hkn : k = n := by omega
      subst hkn
      go_wp2
      go_ret
      exact ⟨⟨-1, rfl, Or.inl ⟨rfl, HNE.out⟩⟩, rfl⟩
set_option maxHeartbeats 600000 in
theorem contains_call {w : World} {vo : Option Addr} {vc : Nat} {l : List Nat} (hrow : NumsAt w vo l) (hl : l.length ≤ 1000) (x : Nat) :
    Calls Tryz.prog 66 #[.slice vo l.length vc, .int .i64 (x : Int)] w fun e w' => e = .returned (.bool (l.contains x)) ∧ w' = w := by
  have H83 : Hid (Calls Tryz.prog 83 #[.slice vo l.length vc, .int .i64 (x : Int)] w fun e w' => ∃ m : Int, e = .returned (.int .i64 m) ∧ (decide (m ≥ 0)) = l.contains x ∧ w' = w) := by
    refine Calls.mono (index_call (vo := vo) (vc := vc) (n := l.length) (f := fun k => ((l.getD k 0 : Nat) : Int)) (fun k hk => ?_) (by omega) (x : Int)) ?_
    · obtain ⟨b, e, hc⟩ := hrow k (l.getD k 0) (by rw [getD_lt hk, List.getElem?_eq_getElem hk])
      exact ⟨b, 0, e, by rw [Nat.zero_add]; exact hc⟩
    · rintro e w' ⟨⟨m, rfl, hm⟩, hw⟩
      refine ⟨m, rfl, ?_, hw⟩
      rw [Bool.eq_iff_iff, decide_eq_true_iff, List.contains_iff_mem]
      rcases hm with ⟨rfl, hno⟩ | ⟨j, rfl, hj, he, _⟩
      · constructor
        · intro h; omega
        · intro h
          obtain ⟨i, hi, hx⟩ := List.getElem_of_mem h
          exact absurd (by rw [getD_lt hi, hx]) (hno i hi)
      · constructor
        · intro _
          have : l.getD j 0 = x := by omega
          rw [← this, getD_lt hj]
          exact List.getElem_mem hj
        · intro _; omega
  obtain ⟨an, han⟩ : ∃ an, an = l.contains x := ⟨_, rfl⟩
  rw [← han] at H83 ⊢
  clear han hrow
  go_enter Tryz.func66, Tryz.ntmps66
  go_wp2_with (first | (go_at_call 83; refine Calls.mono H83.out ?_; rintro e w' ⟨m, rfl, hm, rfl⟩) | go_in)
  go_ret
  exact ⟨rfl, rfl⟩
end Go.Proofs.YtdnmoifbkojnlaaGreat

namespace Go.Proofs.YtdnmoifbkojnlaaGreat
open Go.RowKit Go.Maps
attribute [local go_sem ↓] Go.wp_at_zero Go.wp_at_succ
section
variable {w : World} {p q g N : Nat} {ls : Nat → List Nat} {col : Nat → Int}
set_option maxHeartbeats 600000 in
theorem spare1_call {b3 v cut : Nat} (h3 : w.cell? ⟨b3, 0, none⟩ = some (.int .i64 (cut : Int))) :
    Calls Tryz.prog 62 #[.int .i64 (v : Int), ptr b3] w fun e w' => e = .returned (.bool (v != cut)) ∧ Below w.heap.size w w' := by
  have e1 : (v != cut) = ((v : Int) != (cut : Int)) := by rw [Bool.eq_iff_iff]; simp; omega
  rw [e1]
  refine Calls.mono (R := fun e w' => e = .returned (.bool ((v : Int) != (cut : Int))) ∧ w' = w) ?_ (fun e w' ⟨h1, h2⟩ => ⟨h1, by rw [h2]; exact Below.refl _ _⟩)
  clear e1
  go_enter Tryz.func62, Tryz.ntmps62
  go_wp2
  go_ret
  exact ⟨rfl, rfl⟩
theorem enter62 (args : Array Value) (w : World) : (callFunc 62 args).run Tryz.prog w = .ok (.enter 62 args) w := by
  simp [callFunc, Tryz.func62, go_sem]
  rw [if_neg (of_decide_eq_true (by kernel_rfl)), if_neg (by intro h; have : Tryz.f62.body.isSome = true := (by kernel_rfl); rw [h] at this; cases this)]
theorem enter65 (args : Array Value) (w : World) : (callFunc 65 args).run Tryz.prog w = .ok (.enter 65 args) w := by
  simp [callFunc, Tryz.func65, go_sem]
  rw [if_neg (of_decide_eq_true (by kernel_rfl)), if_neg (by intro h; have : Tryz.f65.body.isSome = true := (by kernel_rfl); rw [h] at this; cases this)]
set_option maxHeartbeats 2000000 in
theorem spare2_call (h : Coat w p q g N ls col) {b2 b3 v cut : Nat} (h2 : w.cell? ⟨b2, 0, none⟩ = some (ptr p)) (h3 : w.cell? ⟨b3, 0, none⟩ = some (.int .i64 (cut : Int))) (hcut : cut < N) (hll : (ls cut).length ≤ 1000) :
    Calls Tryz.prog 65 #[.int .i64 (v : Int), ptr b2, ptr b3] w fun e w' => e = .returned (.bool (!(ls cut).contains v)) ∧ ∃ m, w' = w.drewN m := by
  have c1 := h.cells.1
  obtain ⟨xo, xc, cn, hnum⟩ := h.near.z cut hcut
  have i1 : (0 : Int) ≤ (cut : Int) := by omega
  have i2 : (cut : Int) < (N : Int) := by omega
  obtain ⟨ab, hab⟩ : ∃ ab, ab = (ls cut).contains v := ⟨_, rfl⟩
  have H66 : Hid (∀ k, Calls Tryz.prog 66 #[.slice xo (ls cut).length xc, .int .i64 (v : Int)] (w.drewN k) fun e w' => e = .returned (.bool ab) ∧ w' = w.drewN k) := fun k => by
    rw [hab]
    exact contains_call (hnum.below (drewN_below w k)) hll v
  rw [← hab]
  clear h hnum hab
  go_enter Tryz.func65, Tryz.ntmps65
  go_upto_region 1 with (fail)
  go_region_with (first | (go_at_call 66; refine Calls.mono (H66.out 1) ?_; rintro e w' ⟨rfl, rfl⟩) | go_in)
  all_goals
    go_wp2
    go_ret
    exact ⟨rfl, 1, rfl⟩
end
end Go.Proofs.YtdnmoifbkojnlaaGreat

namespace Go.Proofs.YtdnmoifbkojnlaaGreat
open Go.RowKit Go.Maps
attribute [local go_sem ↓] Go.wp_at_zero Go.wp_at_succ
def swC (one other c : Int) : Int := if c = one then other else if c = other then one else c
/-- .. at the nodes of P. -/
def chC (P : List Nat) (one other : Int) (col : Nat → Int) : Nat → Int := fun x => if x ∈ P then swC one other (col x) else col x
theorem chC_nil (one other : Int) (col : Nat → Int) : chC [] one other col = col := by
  funext x; simp [chC]
theorem chC_snoc {P : List Nat} {v : Nat} (hv : v ∉ P) (one other : Int) (col : Nat → Int) : chC (P ++ [v]) one other col = updC (chC P one other col) v (swC one other (col v)) := by
  funext x
  unfold chC updC
  by_cases e : x = v
  · subst e; simp
  · simp [e]
section
variable {w : World} {p q g N : Nat} {ls : Nat → List Nat} {col : Nat → Int}
set_option maxRecDepth 4000 in
set_option maxHeartbeats 4000000 in
theorem change_call {po : Option Addr} {pc : Nat} {P : List Nat} {one other : Int} (h : Coat w p q g N ls col) (hrow : ∀ W, Turns (fun k => k = q) w W → NumsAt W po P) (hP : ∀ x ∈ P, x < N) (hnd : P.Nodup) (hl : P.length ≤ 1000) :
    Calls Tryz.prog 67 #[ptr p, .slice po P.length pc, .int .i64 one, .int .i64 other] w fun e w' => (∃ v, e = .returned v) ∧ RowV w' q 3 N (iv (chC P one other col)) ∧ Turns (fun k => k = q) w w' := by
  have HC : Hid (Coat w p q g N ls col) := h
  have HR : Hid (∀ W, Turns (fun k => k = q) w W → NumsAt W po P) := hrow
  have HP : Hid (∀ x ∈ P, x < N) := hP
  have HND : Hid P.Nodup := hnd
  clear h hrow hP hnd
  go_enter Tryz.func67, Tryz.ntmps67
  go_wp2
  go_loopw [12] (fun s wr => ∃ k : Nat, k ≤ P.length ∧ s = .int .i64 (k : Int) ∧ RowV wr q 3 N (iv (chC (P.take k) one other col)) ∧ Turns (fun k => k = q) w wr) (fun s _ => P.length - (numOf s).toNat)
  case atStart => exact ⟨0, Nat.zero_le _, rfl, by rw [List.take_zero, chC_nil]; exact HC.out.row, Turns.refl _ _⟩
  case round =>
    obtain ⟨k, hk, rfl, hr, hT⟩ := hrel
    by_cases hlt : k < P.length
    · obtain ⟨v, hv⟩ : ∃ v, P[k]? = some v := ⟨_, List.getElem?_eq_getElem hlt⟩
      have hvN := HP.out v (List.mem_of_getElem? hv)
      have hvk : v ∉ P.take k := fun h => by
        obtain ⟨i, hi, e⟩ := List.getElem_of_mem h
        have hi2 : i < k ∧ i < P.length := by rw [List.length_take] at hi; omega
        rw [List.getElem_take] at e
        have e2 : P[k] = v := by
          have := hv; rw [List.getElem?_eq_getElem hlt] at this; exact Option.some.inj this
        have := getD_inj HND.out hi2.2 hlt (by rw [getD_lt hi2.2, getD_lt hlt, e, e2])
        omega
      have HTK : Hid (P.take (k + 1) = P.take k ++ [v]) := by
        show _ = _
        rw [List.take_add_one, hv]; rfl
      obtain ⟨bx, ex, cx⟩ := HR.out _ hT k v hv
      subst ex
      have hCW : Coat wr p q g N ls (chC (P.take k) one other col) := ⟨box_turns HC.out.box hT (fun e => HC.out.pq e), HC.out.near.turns hT (fun _ _ e => e), hr⟩
      have c1 := hCW.cells.2
      have hcv : chC (P.take k) one other col v = col v := if_neg hvk
      have c2 : wr.cell? ⟨q, v, none⟩ = some (.int .i64 (col v)) := by
        have : wr.cell? ⟨q, v, none⟩ = some (.int .i64 (chC (P.take k) one other col v)) := hr.cell hvN
        rw [hcv] at this; exact this
      have f2 : wr.frozen? ⟨q, v, none⟩ = false := hr.free v
      have HCW : Hid (Coat wr p q g N ls (chC (P.take k) one other col)) := hCW
      have HVK : Hid (v ∉ P.take k) := hvk
      have HT : Hid (Turns (fun k => k = q) w wr) := hT
      have i1 : (0 : Int) ≤ (k : Int) := by omega
      have i2 : (k : Int) < (P.length : Int) := by omega
      have i3 : (0 : Int) ≤ (v : Int) := by omega
      have i4 : (v : Int) < (N : Int) := by omega
      have HEND : Hid (∀ W : World, ∀ c : Int, c = swC one other (col v) → W = wr.setCell ⟨q, v, none⟩ (.int .i64 c) → RowV W q 3 N (iv (chC (P.take (k + 1)) one other col)) ∧ Turns (fun k => k = q) w W) := fun W c hc hW => by
        rw [HTK.out, chC_snoc HVK.out, hW, ← hc]
        exact ⟨(HCW.out.set v c).row, HT.out.after (setCell_turns wr q v _) (fun k hk => Or.inl hk)⟩
      clear hv hvk hr hT hCW hcv
      by_cases h1 : col v = one
      · have k1 : (col v == one) = true := by rw [beq_iff_eq]; exact h1
        have HS : Hid (other = swC one other (col v)) := by show _ = _; unfold swC; rw [if_pos h1]
        clear h1
        go_wp2
        exact ⟨⟨k + 1, by omega, by go_num, HEND.out _ _ HS.out rfl⟩, by simp [numOf]; omega⟩
      · by_cases h2 : col v = other
        · have k1 : (col v == one) = false := by rw [beq_eq_false_iff_ne]; exact h1
          have k2 : (col v == other) = true := by rw [beq_iff_eq]; exact h2
          have HS : Hid (one = swC one other (col v)) := by show _ = _; unfold swC; rw [if_neg h1, if_pos h2]
          clear h1 h2
          go_wp2
          exact ⟨⟨k + 1, by omega, by go_num, HEND.out _ _ HS.out rfl⟩, by simp [numOf]; omega⟩
        · have k1 : (col v == one) = false := by rw [beq_eq_false_iff_ne]; exact h1
          have k2 : (col v == other) = false := by rw [beq_eq_false_iff_ne]; exact h2
          have HSAME : Hid (RowV wr q 3 N (iv (chC (P.take (k + 1)) one other col))) := by
            show RowV _ _ _ _ _
            have e : chC (P.take (k + 1)) one other col = chC (P.take k) one other col := by
              rw [HTK.out, chC_snoc HVK.out]
              funext x
              unfold updC
              by_cases e : x = v
              · subst e; rw [if_pos rfl]; unfold chC swC; rw [if_neg HVK.out, if_neg h1, if_neg h2]
              · rw [if_neg e]
            rw [e]; exact HCW.out.row
          clear h1 h2
          go_wp2
          exact ⟨⟨k + 1, by omega, by go_num, HSAME.out, HT.out⟩, by simp [numOf]; omega⟩
    · have i2 : ¬ (k : Int) < (P.length : Int) := by omega
      have hke : k = P.length := by omega
      have HR2 : Hid (RowV wr q 3 N (iv (chC P one other col))) := by rw [hke, List.take_length] at hr; exact hr
      have HT : Hid (Turns (fun k => k = q) w wr) := hT
      clear hr hT
      go_wp2
      go_end0
      exact ⟨⟨_, rfl⟩, HR2.out, HT.out⟩
end
end Go.Proofs.YtdnmoifbkojnlaaGreat

namespace Go.Proofs.YtdnmoifbkojnlaaGreat
open Go.RowKit Go.Maps
attribute [local go_sem ↓] Go.wp_at_zero Go.wp_at_succ
set_option maxHeartbeats 1000000 in
theorem clone_call {w : World} {g pc : Nat} {l : List Nat} (hl : 0 < l.length) (hl2 : l.length ≤ 1000) (hc : ∀ (k u : Nat), l[k]? = some u → w.cell? ⟨g, k, none⟩ = some (.int .i64 (u : Int))) :
    Calls Tryz.prog 64 #[.slice (some ⟨g, 0, none⟩) l.length pc] w fun e w' => ∃ g' c', e = .returned (.slice (some ⟨g', 0, none⟩) l.length c') ∧ w'.ownsRow w.heap.size 3 1 (.slice (some ⟨g', 0, none⟩) l.length c') l.length (qv l) ∧ w.heap.size ≤ g' ∧ Below w.heap.size w w' := by
  obtain ⟨i3, hi3, hy0, hy1, hy2⟩ := info_parts Tryz.info3
  have HC : Hid (∀ (k u : Nat), l[k]? = some u → w.cell? ⟨g, k, none⟩ = some (.int .i64 (u : Int))) := hc
  have hB := below_alloc (Below.refl _ w) (Obj.cells #[] 3)
  have ho : (w.alloc (Obj.cells #[] 3)).ownsRow w.heap.size 3 1 (.slice (some ⟨w.heap.size, 0, none⟩) 0 0) 0 [] := ⟨rfl, Or.inr ⟨w.heap.size, 0, #[], rfl, Nat.le_refl _, heap_alloc_new _ _, Nat.le_refl _, by unfold maxLen; omega, rfl, rfl⟩⟩
  have hq : ∀ j u, (qv l)[j]? = some u → (w.alloc (Obj.cells #[] 3)).cell? ((⟨g, 0, none⟩ : Addr).add j) = some u := fun j u hj => by
    unfold qv at hj
    rw [List.getElem?_map] at hj
    obtain ⟨y, hy, rfl⟩ := Option.map_eq_some_iff.1 hj
    have h1 := HC.out j y hy
    rw [add_none]
    exact (hB.cell (World.block_lt_of_cell? w _ h1)).trans h1
  have HO : Hid ((w.alloc (Obj.cells #[] 3)).ownsRow w.heap.size 3 1 (.slice (some ⟨w.heap.size, 0, none⟩) 0 0) 0 []) := ho
  have HQ : Hid (∀ j u, (qv l)[j]? = some u → (w.alloc (Obj.cells #[] 3)).cell? ((⟨g, 0, none⟩ : Addr).add j) = some u) := hq
  have HL : Hid ((qv l).length = l.length * 1) := by show (qv l).length = l.length * 1; unfold qv; simp
  have H1 : Hid (∀ u ∈ qv l, u.oneCell' = true) := fun u hu => by
    unfold qv at hu
    obtain ⟨y, _, rfl⟩ := List.mem_map.1 hu
    rfl
  have hnil : ∀ w : World, (binOp .eql 29 (.slice (some ⟨g, 0, none⟩) l.length pc) (.slice none 0 0)).run Tryz.prog w = .ok (.bool false) w := fun _ => by kernel_rfl
  clear hc ho hq
  go_enter Tryz.func64, Tryz.ntmps64
  go_wp2_with (first | (at_builtin; refine wpList_append_lies _ rfl _ _ 29 rfl w.heap.size 3 i3 (.int .i64 0) 1 8 Tryz.underlying29 hi3 hy0 hy1 hy2 rfl (by decide) _ _ _ rfl HO.out ⟨g, 0, none⟩ l.length pc (qv l) rfl HL.out HQ.out H1.out hl (by unfold maxLen; omega) (by omega) (by simp) (w.heap.size + 1) (by simp) ?_; intro g1 c1 w1 hown1 hgr1 hat1 _) | go_in)
  have hown2 : w1.ownsRow w.heap.size 3 1 (.slice (some ⟨g1, 0, none⟩) l.length c1) l.length (qv l) := by simpa using hown1
  have hge := (hown2.lt g1 rfl).1
  have hB1 : Below w.heap.size w w1 := Turns.below hB (Turns.of_grown hgr1) hB.size (fun x hx => by
    have hx' : some x = some w.heap.size := hx
    have : x = w.heap.size := by simpa using hx'
    omega)
  clear hown1 hgr1 hat1
  go_ret
  exact ⟨g1, c1, rfl, hown2, hge, hB1⟩
end Go.Proofs.YtdnmoifbkojnlaaGreat

namespace Go.Proofs.YtdnmoifbkojnlaaGreat
open Go.RowKit Go.Maps
attribute [local go_sem ↓] Go.wp_at_zero Go.wp_at_succ
/-- What is done for one node near the cut. -/
def Sp1 (N : Nat) (adj : Nat → Nat → Bool) (lc : List Nat) (cut u : Nat) (col col' : Nat → Int) : Prop := ∃ (P : List Nat) (c : Nat), Bfo N adj (fun v => v != cut) u P ∧ Lst (P.filter (fun v => lc.contains v)) col c ∧ col' = chC P 0 c col
/-- .. and for some, one after another. -/
inductive SpF (N : Nat) (adj : Nat → Nat → Bool) (lc : List Nat) (cut : Nat) : List Nat → (Nat → Int) → (Nat → Int) → Prop
  | nil (col : Nat → Int) : SpF N adj lc cut [] col col
  | snoc {l : List Nat} {u : Nat} {col col1 col2 : Nat → Int} : SpF N adj lc cut l col col1 → Sp1 N adj lc cut u col1 col2 → SpF N adj lc cut (l ++ [u]) col col2
section
variable {w : World} {p q g N : Nat} {ls : Nat → List Nat} {col : Nat → Int}
set_option maxRecDepth 4000 in
set_option maxHeartbeats 6000000 in
theorem spare_call {adj : Nat → Nat → Bool} {cut : Nat} (h : Coat w p q g N ls col) (hn : N ≤ 100) (hls : ∀ x y, x < N → (y ∈ ls x ↔ y < N ∧ adj x y = true)) (hll : ∀ x, x < N → (ls x).length ≤ 1000) (hcut : cut < N) :
    Calls Tryz.prog 40 #[ptr p, .int .i64 (cut : Int)] w fun e w' => (∃ v, e = .returned v) ∧ ∃ col', SpF N adj (ls cut) cut (ls cut) col col' ∧ RowV w' q 3 N (iv col') ∧ Turns (fun k => k = q) w w' := by
  have HLS : Hid (∀ x y, x < N → (y ∈ ls x ↔ y < N ∧ adj x y = true)) := hls
  have HLL : Hid (∀ x, x < N → (ls x).length ≤ 1000) := hll
  have HC0 : Hid (Coat w p q g N ls col) := h
  clear h hls hll
  go_enter Tryz.func40, Tryz.ntmps40
  go_upto_region 1 with (fail)
  obtain ⟨w1, hw1⟩ : ∃ w1, w1 = (w.alloc (Obj.cells #[ptr p] 102)).alloc (Obj.cells #[.int .i64 (cut : Int)] 3) := ⟨_, rfl⟩
  have hB1 : Below w.heap.size w w1 := by rw [hw1]; exact below_alloc (below_alloc (Below.refl _ w) _) _
  obtain ⟨b2, hb2⟩ : ∃ b2, b2 = w.heap.size := ⟨_, rfl⟩
  obtain ⟨b3, hb3⟩ : ∃ b3, b3 = w.heap.size + 1 := ⟨_, rfl⟩
  have o2 : One w1 b2 (ptr p) 102 := by rw [hw1, hb2]; exact (Below.heap_alloc _ _ _ (by simp)).trans (one_new w _ 102)
  have hb32 : b3 = b2 + 1 := by omega
  have o3 : One w1 b3 (.int .i64 (cut : Int)) 3 := by
    have := one_new (w.alloc (Obj.cells #[ptr p] 102)) (.int .i64 (cut : Int)) 3
    rw [World.size_alloc] at this
    rw [hw1, hb3]; exact this
  have hqs : q < w.heap.size := HC0.out.row.lt
  have hb2q : ¬ b2 = q := by omega
  have hb3q : ¬ b3 = q := by omega
  have HC1 : Hid (Coat w1 p q g N ls col) := HC0.out.below hB1
  have HT1 : Hid (Turns (fun k => k = q) w w1) := Turns.of_below hB1 _
  have HO2 : Hid (One w1 b2 (ptr p) 102) := o2
  have HO3 : Hid (One w1 b3 (.int .i64 (cut : Int)) 3) := o3
  have c2 := box_cell o2 (i := 0) rfl
  have c3 := box_cell o3 (i := 0) rfl
  have cp := HC1.out.cells.1
  obtain ⟨xo, xc, cn, hnum⟩ := HC1.out.near.2 cut hcut
  have HNUM : Hid (∀ W : World, Turns (fun k => k = q) w1 W → NumsAt W xo (ls cut)) := fun W hW k u hu => by
    obtain ⟨b, e, hb, hc⟩ := hnum k u hu
    exact ⟨b, e, cell_turns hc hW hb⟩
  have hlc := HLL.out cut hcut
  have i1 : (0 : Int) ≤ (cut : Int) := by omega
  have i2 : (cut : Int) < (N : Int) := by omega
  rw [← hb2, ← hb32, ← hw1]
  clear hnum hw1 hb2 hb3 hb32 hB1 o2 o3
  go_quiet (fail)
  have HTN : Hid (Turns (fun k => k = q) w1 (w1.drewN nq)) := Turns.of_below (drewN_below w1 nq) _
  have hr0 : RowV (w1.drewN nq) q 3 N (iv col) := HC1.out.row.block rfl
  generalize w1.drewN nq = w2 at *
  go_wp2
  go_loopw [16] (fun s wr => ∃ (k : Nat) (col' : Nat → Int), k ≤ (ls cut).length ∧ s = .int .i64 (k : Int) ∧ SpF N adj (ls cut) cut ((ls cut).take k) col col' ∧ RowV wr q 3 N (iv col') ∧ Turns (fun k => k = q) w1 wr) (fun s _ => (ls cut).length - (numOf s).toNat)
  case atStart => exact ⟨0, col, Nat.zero_le _, rfl, by rw [List.take_zero]; exact SpF.nil col, hr0, HTN.out⟩
  case round =>
    obtain ⟨k, col', hk, rfl, hsp, hr, hT⟩ := hrel
    have HSP : Hid (SpF N adj (ls cut) cut ((ls cut).take k) col col') := hsp
    have HT : Hid (Turns (fun k => k = q) w1 wr) := hT
    have HCW : Hid (Coat wr p q g N ls col') := ⟨box_turns HC1.out.box hT (fun e => HC1.out.pq e), HC1.out.near.turns hT (fun _ _ e => e), hr⟩
    clear hsp hr hT
    by_cases hlt : k < (ls cut).length
    · obtain ⟨u, hu⟩ : ∃ u, (ls cut)[k]? = some u := ⟨_, List.getElem?_eq_getElem hlt⟩
      have huN := ((HLS.out cut u hcut).1 (List.mem_of_getElem? hu)).1
      have HTK : Hid ((ls cut).take (k + 1) = (ls cut).take k ++ [u]) := by
        show _ = _
        rw [List.take_add_one, hu]; rfl
      obtain ⟨bx, ex, cx⟩ := HNUM.out _ HT.out k u hu
      subst ex
      have c2w : wr.cell? ⟨b2, 0, none⟩ = some (ptr p) := cell_turns (box_cell HO2.out rfl) HT.out hb2q
      have c3w : wr.cell? ⟨b3, 0, none⟩ = some (.int .i64 (cut : Int)) := cell_turns (box_cell HO3.out rfl) HT.out hb3q
      have cpw := HCW.out.cells.1
      have HC2 : Hid (∀ W, Below wr.heap.size wr W → W.cell? ⟨b2, 0, none⟩ = some (ptr p)) := fun W hW => (hW.cell (p := ⟨b2, 0, none⟩) (World.block_lt_of_cell? _ _ c2w)).trans c2w
      have HC3 : Hid (∀ W, Below wr.heap.size wr W → W.cell? ⟨b3, 0, none⟩ = some (.int .i64 (cut : Int))) := fun W hW => (hW.cell (p := ⟨b3, 0, none⟩) (World.block_lt_of_cell? _ _ c3w)).trans c3w
      have H59 : Hid (Calls Tryz.prog 59 #[sl g N, .int .i64 (u : Int), .func (.func 62) #[] #[ptr b3]] wr fun e w' => ∃ gl pc P, e = .returned (.slice (some ⟨gl, 0, none⟩) P.length pc) ∧ Hid (w'.ownsRow wr.heap.size 3 1 (.slice (some ⟨gl, 0, none⟩) P.length pc) P.length (qv P)) ∧ Hid (Bfo N adj (fun v => v != cut) u P) ∧ Hid (Below wr.heap.size wr w')) := by
        refine Calls.mono (reachZ_call (caps := #[ptr b3]) hn HCW.out.near.z HLS.out HLL.out huN enter62 (opn := fun v => v != cut) (fun W hW x _ => spare1_call (HC3.out W hW))) ?_
        rintro e w' ⟨po, pc, P, rfl, ho, hb, hB⟩
        obtain ⟨gl, el, _⟩ := qcell ho (k := 0) (u := P.getD 0 0) (by rw [getD_lt hb.pos, List.getElem?_eq_getElem hb.pos])
        subst el
        exact ⟨gl, pc, P, rfl, ho, hb, hB⟩
      have j1 : (0 : Int) ≤ (k : Int) := by omega
      have j2 : (k : Int) < ((ls cut).length : Int) := by omega
      clear hu
      go_upto_region 5 with (first | (go_at_call 59; refine Calls.mono H59.out ?_; rintro e w3 ⟨gl, pc, P, rfl, HOW, HBF, HB3⟩) | go_in)
      have hPl : P.length ≤ 1000 := by
        have := nodup_lenZ P (List.range N) HBF.out.nodup (fun x hx => List.mem_range.2 (HBF.out.lt x hx))
        rw [List.length_range] at this
        omega
      have H64 : Hid (Calls Tryz.prog 64 #[.slice (some ⟨gl, 0, none⟩) P.length pc] w3 fun e w' => ∃ g' c', e = .returned (.slice (some ⟨g', 0, none⟩) P.length c') ∧ w'.ownsRow w3.heap.size 3 1 (.slice (some ⟨g', 0, none⟩) P.length c') P.length (qv P) ∧ w3.heap.size ≤ g' ∧ Below w3.heap.size w3 w') := clone_call HBF.out.pos hPl (fun t x hx => by
        obtain ⟨b', e', hc'⟩ := qcell HOW.out hx
        cases e'
        exact hc')
      obtain ⟨R, hR⟩ : ∃ R, R = P.filter (fun v => (ls cut).contains v) := ⟨_, rfl⟩
      have HR : Hid (R = P.filter (fun v => (ls cut).contains v)) := hR
      have h63 : ∀ (w4 : World) (g' c' : Nat), w4.ownsRow w3.heap.size 3 1 (.slice (some ⟨g', 0, none⟩) P.length c') P.length (qv P) → w3.heap.size ≤ g' → Below w3.heap.size w3 w4 → Calls Tryz.prog 63 #[.slice (some ⟨g', 0, none⟩) P.length c', .func (.func 65) #[] #[ptr b2, ptr b3]] w4 fun e w' => ∃ c9, e = .returned (.slice (some ⟨g', 0, none⟩) R.length c9) ∧ Hid (NumsAt w' (some ⟨g', 0, none⟩) R) ∧ Hid (Below w3.heap.size w3 w') := fun w4 g' c' ho hg hB4 => by
        have hbel : ∀ W, Turns (fun k => k = g') w4 W → Below w3.heap.size w3 W := fun W hW => Turns.below hB4 hW hB4.size (fun k hk => by omega)
        have := delete_call ho hPl 65 #[ptr b2, ptr b3] enter65 (fun v => !(ls cut).contains v) (fun W hW x _ => spare2_call (HCW.out.below (below_next HB3.out (hbel W hW))) (HC2.out W (below_next HB3.out (hbel W hW))) (HC3.out W (below_next HB3.out (hbel W hW))) hcut hlc)
        simp only [Bool.not_not] at this
        rw [← hR] at this
        refine Calls.mono this ?_
        rintro e w' ⟨c9, rfl, h1, h2⟩
        exact ⟨c9, rfl, h1, hbel w' h2⟩
      have H63 : Hid _ := h63
      clear h63 hR
      go_upto_region 6 with (first | (go_at_call 64; refine Calls.mono H64.out ?_; rintro e w4 ⟨g', c', rfl, ho4, hg4, hB4⟩; have h9 := H63.out w4 g' c' ho4 hg4 hB4; clear ho4 hB4) | (go_at_call 63; refine Calls.mono h9 ?_; clear h9; rintro e w5 ⟨c9, rfl, HNR, HB5⟩) | go_in)
      have HRl : Hid (R.length ≤ 1000) := by
        have := List.length_filter_le (fun v => (ls cut).contains v) P
        rw [← HR.out] at this
        show R.length ≤ 1000
        omega
      have HRP : Hid (∀ x ∈ R, x < N) := fun x hx => by
        rw [HR.out] at hx
        exact HBF.out.lt x (List.mem_filter.1 hx).1
      have hB5 : Below wr.heap.size wr w5 := below_next HB3.out HB5.out
      have c25 := HC2.out w5 hB5
      have HB5d : Hid (Below wr.heap.size wr (w5.drewN 1)) := below_next hB5 (drewN_below w5 1)
      have H42 : Hid (Calls Tryz.prog 42 #[ptr p, .slice (some ⟨g', 0, none⟩) R.length c9] (w5.drewN 1) fun e w' => (∃ c : Nat, e = .returned (.int .i64 (c : Int)) ∧ Lst R col' c) ∧ Below (w5.drewN 1).heap.size (w5.drewN 1) w') := unused_call (HCW.out.below HB5d.out) (HNR.out.below (drewN_below w5 1)) HRl.out HRP.out
      have hglq : gl ≠ q := fun e => by
        have h1 := (HOW.out.lt gl rfl).1
        have h2 := HCW.out.row.lt
        omega
      have HNP : Hid (∀ W, Below (w5.drewN 1).heap.size (w5.drewN 1) W → ∀ W', Turns (fun k => k = q) W W' → NumsAt W' (some ⟨gl, 0, none⟩) P) := fun W hW W' hT' t x hx => by
        obtain ⟨b', e', hc'⟩ := qcell HOW.out hx
        cases e'
        have h1 := (HB5.out.cell (p := ⟨gl, t, none⟩) (World.block_lt_of_cell? _ _ hc')).trans hc'
        have h2 : (w5.drewN 1).cell? ⟨gl, t, none⟩ = some (.int .i64 (x : Int)) := h1
        exact ⟨gl, rfl, cell_turns ((hW.cell (p := ⟨gl, t, none⟩) (World.block_lt_of_cell? _ _ h2)).trans h2) hT' hglq⟩
      clear hB5
      go_region_with (first
        | (go_at_call 42; refine Calls.mono H42.out ?_; rintro e w6 ⟨⟨c, rfl, hc⟩, hB6⟩; have hBw := below_next HB5d.out hB6; have c26 := HC2.out w6 hBw; have h67 := change_call (pc := pc) (one := 0) (other := (c : Int)) (HCW.out.below hBw) (HNP.out w6 hB6) HBF.out.lt HBF.out.nodup hPl)
        | (go_at_call 67; refine Calls.mono h67 ?_; rintro e w7 ⟨⟨v9, rfl⟩, hrow7, hT7⟩)
        | go_in)
      all_goals
        go_wp2
        exact ⟨⟨k + 1, chC P 0 c col', by omega, by go_num, by rw [HTK.out]; exact SpF.snoc HSP.out ⟨P, c, HBF.out, by rw [← HR.out]; exact hc, rfl⟩, hrow7, (HT.out.after (Turns.of_below hBw (fun _ => False)) (fun _ h => h.elim)).after hT7 (fun _ e => Or.inl e)⟩, by simp [numOf]; omega⟩
    · have i2' : ¬ (k : Int) < ((ls cut).length : Int) := by omega
      have hke : k = (ls cut).length := by omega
      have HSP2 : Hid (SpF N adj (ls cut) cut (ls cut) col col') := by
        have := HSP.out; rw [hke, List.take_length] at this; exact this
      go_wp2
      go_end0
      exact ⟨⟨_, rfl⟩, col', HSP2.out, HCW.out.row, HT1.out.after HT.out (fun _ e => Or.inl e)⟩
end
end Go.Proofs.YtdnmoifbkojnlaaGreat

namespace Go.Proofs.YtdnmoifbkojnlaaGreat
theorem swC_inj {c a b : Int} (h : swC 0 c a = swC 0 c b) : a = b := by
  unfold swC at h
  by_cases h1 : a = 0 <;> by_cases h2 : a = c <;> by_cases h3 : b = 0 <;> by_cases h4 : b = c <;> simp [h1, h2, h3, h4] at h <;> omega
structure SpI (N m : Nat) (adj : Nat → Nat → Bool) (cut : Nat) (l : List Nat) (col : Nat → Int) : Prop where
  pc : Pc N m adj col
  bare : col cut = -1
  all : ∀ x, x < N → x ≠ cut → col x ≠ -1
  zero : ∀ x ∈ l, col x ≠ 0
theorem SpI.step {N m : Nat} {adj : Nat → Nat → Bool} {cut u : Nat} {l lc : List Nat} {col col' : Nat → Int} (h : SpI N m adj cut l col) (hl : ∀ x ∈ l, x ∈ lc) (hu : u ∈ lc) (huc : u ≠ cut) (hs : ∀ x y, adj x y = adj y x)
    (hsep : ∀ P, Bfo N adj (fun v => v != cut) u P → (P.filter (fun v => lc.contains v)).length < m) (hp : Sp1 N adj lc cut u col col') : SpI N m adj cut (l ++ [u]) col' := by
  obtain ⟨P, c, hb, hc, rfl⟩ := hp
  have hcm : c < m := Nat.lt_of_le_of_lt hc.le (hsep P hb)
  have hout : ∀ x ∈ P, x ≠ cut := fun x hx => by
    obtain ⟨i, hi, rfl⟩ := List.getElem_of_mem hx
    have e : P[i] = P.getD i 0 := by simp [List.getD, List.getElem?_eq_getElem hi]
    rw [e]
    by_cases h0 : i = 0
    · subst h0; rw [hb.first]; exact huc
    · have := hb.open' i (by omega) hi
      simpa using this
  have hcutP : cut ∉ P := fun hx => hout cut hx rfl
  have hin : ∀ x, x ∈ P → chC P 0 c col x = swC 0 c (col x) := fun x hx => if_pos hx
  have hno : ∀ x, x ∉ P → chC P 0 c col x = col x := fun x hx => if_neg hx
  have hcl : ∀ x y, x ∈ P → y < N → adj x y = true → y ∉ P → y = cut := fun x y hx hy ha hyP => by
    by_cases e : y = cut
    · exact e
    · exact absurd (hb.shut x y hx hy ha (by simpa using e)) hyP
  have hsw : ∀ v : Int, swC 0 c v = -1 ↔ v = -1 := fun v => by
    unfold swC
    by_cases h1 : v = 0
    · rw [if_pos h1]; omega
    · rw [if_neg h1]
      by_cases h2 : v = (c : Int)
      · rw [if_pos h2]; omega
      · rw [if_neg h2]
  refine ⟨⟨fun x hx => ?_, fun x y hx hy hxy hne => ?_⟩, ?_, fun x hx hxc => ?_, fun x hx => ?_⟩
  · by_cases e : x ∈ P
    · rw [hin x e]
      rcases h.pc.rng x hx with h1 | h1
      · exact Or.inl ((hsw _).2 h1)
      · refine Or.inr ?_
        unfold swC
        by_cases h2 : col x = 0
        · rw [if_pos h2]; omega
        · rw [if_neg h2]
          by_cases h3 : col x = (c : Int)
          · rw [if_pos h3]; omega
          · rw [if_neg h3]; exact h1
    · rw [hno x e]; exact h.pc.rng x hx
  · by_cases ex : x ∈ P
    · rw [hin x ex] at hne ⊢
      by_cases ey : y ∈ P
      · rw [hin y ey]
        exact fun e => h.pc.ne x y hx hy hxy (fun e' => hne ((hsw _).2 e')) (swC_inj e)
      · rw [hno y ey, hcl x y ex hy hxy ey, h.bare]; exact hne
    · rw [hno x ex] at hne ⊢
      by_cases ey : y ∈ P
      · have := hcl y x ey hx (by rw [hs]; exact hxy) ex
        rw [this, h.bare] at hne
        exact absurd rfl hne
      · rw [hno y ey]; exact h.pc.ne x y hx hy hxy hne
  · rw [hno cut hcutP]; exact h.bare
  · by_cases e : x ∈ P
    · rw [hin x e]; exact fun e' => h.all x hx hxc ((hsw _).1 e')
    · rw [hno x e]; exact h.all x hx hxc
  · have hxl : x ∈ lc := by
      rcases List.mem_append.1 hx with h1 | h1
      · exact hl x h1
      · rw [List.mem_singleton.1 h1]; exact hu
    by_cases e : x ∈ P
    · rw [hin x e]
      have hne := hc.1 x (List.mem_filter.2 ⟨e, List.contains_iff_mem.2 hxl⟩)
      unfold swC
      by_cases h2 : col x = 0
      · rw [if_pos h2]; omega
      · rw [if_neg h2, if_neg hne]; exact h2
    · rw [hno x e]
      rcases List.mem_append.1 hx with h1 | h1
      · exact h.zero x h1
      · exfalso
        rw [List.mem_singleton.1 h1, ← hb.first] at e
        exact e (getD_mem' hb.pos)
theorem SpF.ok {N m : Nat} {adj : Nat → Nat → Bool} {cut : Nat} {l lc : List Nat} {col col' : Nat → Int} (h : SpF N adj lc cut l col col') (h0 : SpI N m adj cut [] col) (hl : ∀ x ∈ l, x ∈ lc) (hlc : ∀ x ∈ lc, x ≠ cut) (hs : ∀ x y, adj x y = adj y x)
    (hsep : ∀ u ∈ lc, ∀ P, Bfo N adj (fun v => v != cut) u P → (P.filter (fun v => lc.contains v)).length < m) : SpI N m adj cut l col' := by
  induction h with
  | nil col => exact h0
  | @snoc l u col col1 col2 _ h2 ih =>
    have hu := hl u (by simp)
    exact (ih h0 (fun x hx => hl x (by simp [hx]))).step (fun x hx => hl x (by simp [hx])) hu (hlc u hu) hs (hsep u hu) h2
end Go.Proofs.YtdnmoifbkojnlaaGreat
