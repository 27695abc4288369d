/- All sets of edges: tryEdges; how many have which powers: powers. How many sets of edges have which powers: powers. -/
import Derived.Test.YtmeodnkmhakidaaDoorFromW
namespace Go.Proofs.YtmeodnkmhakidaaDoor
set_option maxRecDepth 8000
open Go.RowKit Go.Maps Go.WideElems Go.ChangeMaps
attribute [local go_sem ↓] Go.wp_at_zero Go.wp_at_succ
theorem cell_map {w : World} {b o : Nat} {x : Value} {es : Array MapEntry} {c : Nat} (h : w.cell? ⟨b, o, none⟩ = some x) (h2 : w.heap[b]? = some (.map es c)) : False := by
  simp [World.cell?, h2] at h
theorem CntM.is_map {w : World} {b n : Nat} {F : Cts} (h : CntM w b n F) : ∃ es clock, w.heap[b]? = some (.map es clock) := by
  obtain ⟨D, ⟨es, clock, h1, h2⟩, h3⟩ := h
  exact ⟨es, clock, h1⟩
theorem one_map {w : World} {b mb n : Nat} {x : Value} {t : TypeId} {F : Cts} (h : One w b x t) (h2 : CntM w mb n F) : b ≠ mb := fun e => by
  subst e
  obtain ⟨es, c, h3⟩ := h2.is_map
  have h' : w.heap[b]? = _ := h
  rw [h3] at h'
  cases h'
theorem one_alloc {w : World} {b : Nat} {x : Value} {t : TypeId} (h : One w b x t) (o : Obj) : One (w.alloc o) b x t := (Below.heap_alloc _ _ _ (lt_of_block h)).trans h
theorem two_map {w : World} {b mb n : Nat} {x y : Value} {t : TypeId} {F : Cts} (h : Two w b x y t) (h2 : CntM w mb n F) : b ≠ mb := fun e => by
  subst e
  obtain ⟨es, c, h3⟩ := h2.is_map
  have h' : w.heap[b]? = _ := h
  rw [h3] at h'
  cases h'
theorem EdgesAt.turns {w w' : World} {v : Value} {es : List Pair} {M : Nat → Prop} (h : EdgesAt w v es) (ht : Turns M w w') (hm : ∀ b o x, w.cell? ⟨b, o, none⟩ = some x → ¬ M b) : EdgesAt w' v es := by
  obtain ⟨ao, cap, h1, h2, h3, h4⟩ := h
  refine ⟨ao, cap, h1, h2, h3, fun k hk => ?_⟩
  obtain ⟨b, off, e, c1, c2⟩ := h4 k hk
  exact ⟨b, off, e, cell_turns c1 ht (hm _ _ _ c1), cell_turns c2 ht (hm _ _ _ c2)⟩
set_option maxHeartbeats 8000000 in
theorem tryEdges_call {w : World} {bm bw bg2 mb N whole n : Nat} {ao : Option Addr} {cap : Nat} {es : List E2} {F : Cts} {ev : Value} (hE : EdgesAt w (.slice ao es.length cap) (pzT es)) (h1 : One w bm (.map (some mb)) 69) (h2 : One w bw (.int .i64 (whole : Int)) 3) (h3 : Two w bg2 (.int .i64 (N : Int)) ev 24) (hM : CntM w mb n F) (hcn : ∀ k, cn F k ≤ n) (hn : n ≤ 10)
    (hes : ∀ e ∈ es, e.1 < N ∧ e.2 < N) (hm : es.length ≤ 12) (hN : N ≤ 100) (hwh : whole = kf N es) :
    Calls Tryd.prog 51 #[.agg #[.int .i64 (N : Int), .slice ao es.length cap], .func (.func 52) #[] #[ptr bm, ptr bw, ptr bg2]] w fun e w' => e = .returned (.tuple #[]) ∧ CntM w' mb (n + 2 ^ es.length) (addC whole N F (trL es id N 0)) ∧ Turns (fun x => x = mb) w w' := by
  have hmk := make29 N (by omega)
  have hF40 := enter63
  have HH : Hid (EdgesAt w (.slice ao es.length cap) (pzT es) ∧ One w bm (.map (some mb)) 69 ∧ One w bw (.int .i64 (whole : Int)) 3 ∧ Two w bg2 (.int .i64 (N : Int)) ev 24 ∧ CntM w mb n F ∧ (∀ k, cn F k ≤ n) ∧ (∀ e ∈ es, e.1 < N ∧ e.2 < N) ∧ whole = kf N es) := ⟨hE, h1, h2, h3, hM, hcn, hes, hwh⟩
  clear hE h1 h2 h3 hM hcn hes hwh
  go_enter Tryd.func51, Tryd.ntmps51
  go_upto_region 2 with (fail)
  obtain ⟨W1, hW1⟩ : ∃ W1, W1 = ((((w.alloc (Obj.cells #[Value.int IntKind.i64 (N : Int), Value.slice ao es.length cap] 24)).alloc (Obj.cells #[Value.func (Fn.func 52) #[] #[ptr bm, ptr bw, ptr bg2]] 90)).alloc (Obj.cells (rep N (Value.int IntKind.i64 0)) 3)).alloc (Obj.cells #[Value.slice (some { block := w.heap.size + 1 + 1, off := 0 }) N N] 29)) := ⟨_, rfl⟩
  have t0 : Two W1 w.heap.size (.int .i64 (N : Int)) (.slice ao es.length cap) 24 := by
    rw [hW1]; exact two_alloc (two_alloc (two_alloc (two_new w _ _ 24) _) _) _
  have t1 : One W1 (w.heap.size + 1) (.func (.func 52) #[] #[ptr bm, ptr bw, ptr bg2]) 90 := by
    rw [hW1]
    refine one_alloc (one_alloc ?_ _) _
    have := one_new (w.alloc (Obj.cells #[Value.int IntKind.i64 (N : Int), Value.slice ao es.length cap] 24)) (Value.func (Fn.func 52) #[] #[ptr bm, ptr bw, ptr bg2]) 90
    simpa using this
  have t2 : RowV W1 (w.heap.size + 2) 3 N (fun _ => .int .i64 0) := by
    rw [hW1]
    refine rowV_rep ?_
    rw [Below.heap_alloc _ _ _ (by simp)]
    have := heap_alloc_new ((w.alloc (Obj.cells #[Value.int IntKind.i64 (N : Int), Value.slice ao es.length cap] 24)).alloc (Obj.cells #[Value.func (Fn.func 52) #[] #[ptr bm, ptr bw, ptr bg2]] 90)) (Obj.cells (rep N (Value.int IntKind.i64 0)) 3)
    simpa using this
  have t3 : One W1 (w.heap.size + 3) (sl (w.heap.size + 2) N) 29 := by
    rw [hW1]
    have := one_new (((w.alloc (Obj.cells #[Value.int IntKind.i64 (N : Int), Value.slice ao es.length cap] 24)).alloc (Obj.cells #[Value.func (Fn.func 52) #[] #[ptr bm, ptr bw, ptr bg2]] 90)).alloc (Obj.cells (rep N (Value.int IntKind.i64 0)) 3)) (Value.slice (some { block := w.heap.size + 1 + 1, off := 0 }) N N) 29
    simpa using this
  have hB1 : Below w.heap.size w W1 := by
    rw [hW1]
    exact below_alloc (below_alloc (below_alloc (below_alloc (Below.refl _ w) _) _) _) _
  have hs1 : W1.heap.size = w.heap.size + 4 := by rw [hW1]; simp
  rw [← hW1]
  clear hW1 hmk
  obtain ⟨S, hS⟩ : ∃ S, S = w.heap.size := ⟨_, rfl⟩
  rw [← hS] at t0 t1 t2 t3 hs1 ⊢
  simp only [Nat.add_assoc, Nat.reduceAdd]
  have HW : Hid (Two W1 S (.int .i64 (N : Int)) (.slice ao es.length cap) 24 ∧ One W1 (S + 1) (.func (.func 52) #[] #[ptr bm, ptr bw, ptr bg2]) 90 ∧ RowV W1 (S + 2) 3 N (fun _ => .int .i64 0) ∧ One W1 (S + 3) (sl (S + 2) N) 29 ∧ Below w.heap.size w W1 ∧ W1.heap.size = S + 4 ∧ S = w.heap.size) := ⟨t0, t1, t2, t3, hB1, hs1, hS⟩
  have c3 : W1.cell? ⟨S + 3, 0, none⟩ = some (sl (S + 2) N) := box_cell (i := 0) t3 rfl
  clear t0 t1 t2 t3 hB1 hs1 hS
  go_upto_region 3 with (fail)
  clear c3
  go_loopw [5, 12] (fun _ s12 wz => ∃ i : Nat, i ≤ N ∧ s12 = .int .i64 (i : Int) ∧ Hid (RowV wz (S + 2) 3 N (fun j => .int .i64 (if j < i then (j : Int) else 0)) ∧ Turns (fun x => x = S + 2) W1 wz)) (fun _ s12 _ => N - (numOf s12).toNat)
  case atStart => exact ⟨0, Nat.zero_le _, rfl, HW.out.2.2.1.congr (fun j _ => by simp), Turns.refl _ _⟩
  case round =>
    obtain ⟨i, hi, rfl, hJ⟩ := hrel
    have c3 : wr.cell? ⟨S + 3, 0, none⟩ = some (sl (S + 2) N) := box_cell (i := 0) (one_turns HW.out.2.2.2.1 hJ.out.2 (by omega)) rfl
    by_cases hlt : i < N
    · have k1 : decide ((i : Int) < (N : Int)) = true := by simp; omega
      have cr := hJ.out.1.cell (j := i) hlt
      have fr0 := hJ.out.1.free i
      have i0 : (0 : Int) ≤ (i : Int) := by omega
      have i1 : (i : Int) < (N : Int) := by omega
      go_wp2
      go_roundw
      case rel =>
        refine ⟨i + 1, by omega, by go_num, (hJ.out.1.set i (.int .i64 (i : Int))).congr (fun j hj => ?_), hJ.out.2.trans (setCell_turns _ _ _ _)⟩
        by_cases e : j = i
        · subst e; rw [if_pos rfl, if_pos (by omega)]
        · rw [if_neg e]
          by_cases e2 : j < i
          · rw [if_pos e2, if_pos (by omega)]
          · rw [if_neg e2, if_neg (by omega)]
      case measure => simp [numOf]; omega
    · obtain rfl : i = N := by omega
      have k1 : decide ((i : Int) < (i : Int)) = false := by simp
      clear c3
      go_upto_region 8 with (fail)
      obtain ⟨bf, hbf⟩ : ∃ bf, bf = wr.heap.size := ⟨_, rfl⟩
      have o2 := one_new wr Value.nilFunc 103
      have hb2 := below_alloc (Below.refl _ wr) (Obj.cells #[Value.nilFunc] 103)
      rw [← hbf] at o2 ⊢
      generalize wr.alloc (Obj.cells #[Value.nilFunc] 103) = W2 at *
      have HW2 : Hid (One W2 bf Value.nilFunc 103 ∧ Turns (fun x => x = S + 2) W1 W2 ∧ RowV W2 (S + 2) 3 i (upV id) ∧ S + 4 ≤ bf) := ⟨o2, hJ.out.2.trans (Turns.of_below hb2 _), (hJ.out.1.block (hb2.block _ hJ.out.1.lt)).congr (fun j hj => by rw [if_pos hj]; rfl), by have := hJ.out.2.size; have := HW.out.2.2.2.2.2.1; omega⟩
      have cf : W2.cell? ⟨bf, 0, none⟩ = some Value.nilFunc := box_cell (i := 0) o2 rfl
      have ff := one_free o2
      clear o2 hb2 hbf hJ
      go_upto_region 9 with (fail)
      have hbox : One (W2.setCell ⟨bf, 0, none⟩ (.func (.func 63) #[] #[ptr S, ptr (S + 1), ptr bf, ptr (S + 3)])) bf (.func (.func 63) #[] #[ptr S, ptr (S + 1), ptr bf, ptr (S + 3)]) 103 := box_set HW2.out.1 0 _
      have ht3 := setCell_turns W2 bf 0 (.func (.func 63) #[] #[ptr S, ptr (S + 1), ptr bf, ptr (S + 3)])
      obtain ⟨W3, hW3⟩ : ∃ W3, W3 = W2.setCell ⟨bf, 0, none⟩ (.func (.func 63) #[] #[ptr S, ptr (S + 1), ptr bf, ptr (S + 3)]) := ⟨_, rfl⟩
      rw [← hW3] at hbox ht3 ⊢
      have HT3 : Hid (Turns (fun x => x = S + 2 ∨ x = bf) W1 W3) := (HW2.out.2.1.mono fun x _ e => Or.inl e).trans (ht3.mono fun x _ e => Or.inr e)
      have k0 : Two W3 S (.int .i64 (i : Int)) (.slice ao es.length cap) 24 := two_turns HW.out.1 HT3.out (by have := HW2.out.2.2.2; omega)
      have k1 : One W3 (S + 1) (.func (.func 52) #[] #[ptr bm, ptr bw, ptr bg2]) 90 := one_turns HW.out.2.1 HT3.out (by have := HW2.out.2.2.2; omega)
      have k2 : RowV W3 (S + 2) 3 i (upV id) := HW2.out.2.2.1.turns ht3 (by have := HW2.out.2.2.2; omega)
      have k3 : One W3 (S + 3) (sl (S + 2) i) 29 := one_turns HW.out.2.2.2.1 HT3.out (by have := HW2.out.2.2.2; omega)
      have hSw := HW.out.2.2.2.2.2.2
      have HBW : Hid (Turns (fun x => x = S + 2 ∨ x = bf) w W3) := (Turns.of_below HW.out.2.2.2.2.1 _).trans HT3.out
      have hlow : ∀ b, b < w.heap.size → ¬ (b = S + 2 ∨ b = bf) := fun b hb => by have := HW2.out.2.2.2; omega
      have k4 : One W3 bm (.map (some mb)) 69 := one_turns HH.out.2.1 HBW.out (hlow _ (lt_of_block HH.out.2.1))
      have k5 : One W3 bw (.int .i64 (whole : Int)) 3 := one_turns HH.out.2.2.1 HBW.out (hlow _ (lt_of_block HH.out.2.2.1))
      have k6 : Two W3 bg2 (.int .i64 (i : Int)) ev 24 := two_turns HH.out.2.2.2.1 HBW.out (hlow _ (lt_of_block HH.out.2.2.2.1))
      have k7 : CntM W3 mb n F := HH.out.2.2.2.2.1.turns HBW.out (hlow _ HH.out.2.2.2.2.1.lt)
      have k8 : EdgesAt W3 (.slice ao es.length cap) (pzT es) := HH.out.1.turns HBW.out (fun b o x hc => hlow _ (World.block_lt_of_cell? w _ hc))
      have hlw : ∀ b o x, w.cell? ⟨b, o, none⟩ = some x → W3.cell? ⟨b, o, none⟩ = some x := fun b o x hc => cell_turns hc HBW.out (hlow _ (World.block_lt_of_cell? w _ hc))
      have hmb : mb < w.heap.size := HH.out.2.2.2.2.1.lt
      have hub : bm ≠ S + 2 ∧ bw ≠ S + 2 ∧ bg2 ≠ S + 2 := ⟨by have := lt_of_block HH.out.2.1; omega, by have := lt_of_block HH.out.2.2.1; omega, by have := lt_of_block HH.out.2.2.2.1; omega⟩
      have hFx : FxC (fun A => Turns (fun x => x = S + 2 ∨ x = mb) W3 A) S (S + 1) bf (S + 3) bm bw bg2 (S + 2) mb i whole ao cap es := by
        have hbf4 := HW2.out.2.2.2
        refine ⟨fun A A' h h' => h.trans h', fun A h => two_turns k0 h ?_, fun A h => ?_, fun A h => one_turns k1 h ?_, fun A h => one_turns hbox h ?_, fun A h => one_turns k3 h ?_, fun A h => one_turns k4 h ?_, fun A h => one_turns k5 h ?_, fun A h => ⟨ev, two_turns k6 h ?_⟩, by omega, HH.out.2.2.2.2.2.2.1, hm, by omega⟩
        · exact fun e => e.elim (by omega) (two_map k0 k7)
        · obtain ⟨ao', cap', h1, h2, h3, h4⟩ := HH.out.1
          refine ⟨ao', cap', h1, h2, h3, fun k hk => ?_⟩
          obtain ⟨b, off, e, c1, c2⟩ := h4 k hk
          have hb := World.block_lt_of_cell? w _ c1
          simp only at hb
          obtain ⟨ms, mc, hmap⟩ := k7.is_map
          have hne : ¬ (b = S + 2 ∨ b = mb) := fun e => e.elim (by omega) (fun e => by subst e; exact cell_map (hlw _ _ _ c1) hmap)
          exact ⟨b, off, e, cell_turns (hlw _ _ _ c1) h hne, cell_turns (hlw _ _ _ c2) h hne⟩
        · exact fun e => e.elim (by omega) (one_map k1 k7)
        · exact fun e => e.elim (by omega) (one_map hbox k7)
        · exact fun e => e.elim (by omega) (one_map k3 k7)
        · exact fun e => e.elim hub.1 (one_map k4 k7)
        · exact fun e => e.elim hub.2.1 (one_map k5 k7)
        · exact fun e => e.elim hub.2.2 (two_map k6 k7)
      have hwh := HH.out.2.2.2.2.2.2.2
      have I : Hid (Calls Tryd.prog 63 #[.int .i64 0, .int .i64 (i : Int), .int .i64 0, ptr S, ptr (S + 1), ptr bf, ptr (S + 3)] W3 fun e w' => e = .returned (.tuple #[]) ∧ RowV w' (S + 2) 3 i (upV id) ∧ CntM w' mb (n + 2 ^ es.length) (addC whole i F (trL es id i 0)) ∧ Turns (fun x => x = S + 2 ∨ x = mb) W3 w') := by
        refine from_call hFx es 0 id i 0 n [] F W3 rfl (by omega) (Uf.start i) (fun e he => by cases he) (Nat.le_refl _) hN (fun q hq => ?_) (Turns.refl _ _) k2 k7 HH.out.2.2.2.2.2.1 ?_
        · rw [trL_all] at hq
          obtain ⟨B, hB, rfl⟩ := List.mem_map.1 hq
          have h1 := kf_sub HH.out.2.2.2.2.2.2.1 hB
          obtain ⟨C, _, h2⟩ := sub_rest hB
          rw [hwh]
          exact ⟨h1.1, by simp only; omega, h1.2.2.1, by simp only; omega⟩
        · have : 2 ^ es.length ≤ 2 ^ 12 := Nat.pow_le_pow_right (by decide) hm
          omega
      obtain ⟨c0, c1⟩ := cell_two k0
      have c2 : W3.cell? ⟨bf, 0, none⟩ = some (.func (.func 63) #[] #[ptr S, ptr (S + 1), ptr bf, ptr (S + 3)]) := box_cell (i := 0) hbox rfl
      have HLOW : Hid (∀ b, b < w.heap.size → ¬ (b = S + 2 ∨ b = bf)) := hlow
      clear hbox ht3 hW3 HT3 k0 k1 k2 k3 k4 k5 k6 k7 k8 hlw hFx hwh hub hmb hlow cf ff hSw
      go_wp2_with (first | (go_at_call 63; refine Calls.mono I.out ?_; rintro e1 V4 ⟨rfl, g1, g2, g3⟩; have HG : Hid _ := And.intro g2 g3; clear g1 g2 g3) | fail)
      go_end0
      refine ⟨rfl, HG.out.1, ?_⟩
      have ht := HBW.out
      have ht2 := HG.out.2
      refine ⟨ht2.os.trans ht.os, ht2.tape.trans ht.tape, ht2.output.trans ht.output, Nat.le_trans ht.size ht2.size, fun b hb hne => ?_⟩
      rw [ht2.block b (by have := ht.size; omega) (fun e => e.elim (fun e => HLOW.out b hb (Or.inl e)) hne), ht.block b hb (HLOW.out b hb)]
end Go.Proofs.YtmeodnkmhakidaaDoor

namespace Go.Proofs.YtmeodnkmhakidaaDoor
set_option maxRecDepth 8000
open Go.RowKit Go.Maps Go.WideElems Go.ChangeMaps
attribute [local go_sem ↓] Go.wp_at_zero Go.wp_at_succ
/-- How many sets of edges have which powers. -/
def cntE (N whole : Nat) (es : List E2) : Cts := addC whole N (fun _ => none) (trL es id N 0)
theorem makeMap42 (W : World) : (Instr.makeMap 69 none).run Tryd.prog W = .ok (.map (some W.heap.size)) (W.alloc (.map #[] 0)) := by
  simp [Instr.makeMap, go_sem]
set_option maxHeartbeats 4000000 in
theorem powers_call {w : World} {N whole : Nat} {ao : Option Addr} {cap : Nat} {es : List E2} (hE : EdgesAt w (.slice ao es.length cap) (pzT es)) (hes : ∀ e ∈ es, e.1 < N ∧ e.2 < N) (hm : es.length ≤ 12) (hN : N ≤ 100) (hwh : whole = kf N es) :
    Calls Tryd.prog 41 #[.agg #[.int .i64 (N : Int), .slice ao es.length cap], .int .i64 (whole : Int)] w fun e w' => (∃ mb, e = .returned (.map (some mb)) ∧ w.heap.size ≤ mb ∧ CntM w' mb (2 ^ es.length) (cntE N whole es)) ∧ Below w.heap.size w w' := by
  have HH : Hid (EdgesAt w (.slice ao es.length cap) (pzT es) ∧ (∀ e ∈ es, e.1 < N ∧ e.2 < N) ∧ whole = kf N es) := ⟨hE, hes, hwh⟩
  clear hE hes hwh
  have hmk := makeMap42
  go_enter Tryd.func41, Tryd.ntmps41
  go_upto_region 2 with (fail)
  obtain ⟨W1, hW1⟩ : ∃ W1, W1 = ((((w.alloc (Obj.cells #[Value.int IntKind.i64 (N : Int), Value.slice ao es.length cap] 24)).alloc (Obj.cells #[Value.int IntKind.i64 (whole : Int)] 3)).alloc (Obj.map #[] 0)).alloc (Obj.cells #[Value.map (some (w.heap.size + 1 + 1))] 69)) := ⟨_, rfl⟩
  have t0 : Two W1 w.heap.size (.int .i64 (N : Int)) (.slice ao es.length cap) 24 := by
    rw [hW1]; exact two_alloc (two_alloc (two_alloc (two_new w _ _ 24) _) _) _
  have t1 : One W1 (w.heap.size + 1) (.int .i64 (whole : Int)) 3 := by
    rw [hW1]
    refine one_alloc (one_alloc ?_ _) _
    have := one_new (w.alloc (Obj.cells #[Value.int IntKind.i64 (N : Int), Value.slice ao es.length cap] 24)) (Value.int .i64 (whole : Int)) 3
    simpa using this
  have t2 : CntM W1 (w.heap.size + 2) 0 (fun _ => none) := by
    rw [hW1]
    have := cntM_made ((w.alloc (Obj.cells #[Value.int IntKind.i64 (N : Int), Value.slice ao es.length cap] 24)).alloc (Obj.cells #[Value.int IntKind.i64 (whole : Int)] 3))
    have h2 := this.under (below_alloc (Below.refl _ _) (Obj.cells #[Value.map (some (w.heap.size + 1 + 1))] 69))
    simpa using h2
  have t3 : One W1 (w.heap.size + 3) (.map (some (w.heap.size + 2))) 69 := by
    rw [hW1]
    have := one_new (((w.alloc (Obj.cells #[Value.int IntKind.i64 (N : Int), Value.slice ao es.length cap] 24)).alloc (Obj.cells #[Value.int IntKind.i64 (whole : Int)] 3)).alloc (Obj.map #[] 0)) (Value.map (some (w.heap.size + 1 + 1))) 69
    simpa using this
  have hB1 : Below w.heap.size w W1 := by
    rw [hW1]
    exact below_alloc (below_alloc (below_alloc (below_alloc (Below.refl _ w) _) _) _) _
  rw [← hW1]
  clear hW1 hmk
  obtain ⟨S, hS⟩ : ∃ S, S = w.heap.size := ⟨_, rfl⟩
  rw [← hS] at t0 t1 t2 t3 ⊢
  simp only [Nat.add_assoc, Nat.reduceAdd]
  have I : Hid (Calls Tryd.prog 51 #[.agg #[.int .i64 (N : Int), .slice ao es.length cap], .func (.func 52) #[] #[ptr (S + 3), ptr (S + 1), ptr S]] W1 fun e w' => e = .returned (.tuple #[]) ∧ CntM w' (S + 2) (0 + 2 ^ es.length) (addC whole N (fun _ => none) (trL es id N 0)) ∧ Turns (fun x => x = S + 2) W1 w') := tryEdges_call (HH.out.1.below hB1) t3 t1 t0 t2 (fun k => Nat.le_refl _) (by omega) HH.out.2.1 hm hN HH.out.2.2
  have HB : Hid (Below w.heap.size w W1 ∧ w.heap.size ≤ S + 2 ∧ One W1 (S + 3) (.map (some (S + 2))) 69 ∧ w.heap.size ≤ W1.heap.size) := ⟨hB1, by omega, t3, hB1.size⟩
  obtain ⟨c0, c1⟩ := cell_two t0
  clear t0 t1 t2 t3 hB1 hS
  go_upto_region 3 with (first | (go_at_call 51; refine Calls.mono I.out ?_; rintro e1 V4 ⟨rfl, g2, g3⟩; have HG : Hid _ := And.intro g2 g3; clear g2 g3) | fail)
  have c3 : V4.cell? ⟨S + 3, 0, none⟩ = some (.map (some (S + 2))) := box_cell (i := 0) (one_turns HB.out.2.2.1 HG.out.2 (by omega)) rfl
  go_wp2
  go_ret
  refine ⟨⟨S + 2, rfl, HB.out.2.1, ?_⟩, HG.out.2.below HB.out.1 HB.out.2.2.2 (fun k hk => by rw [hk]; exact HB.out.2.1)⟩
  have := HG.out.1
  rw [Nat.zero_add] at this
  exact this
end Go.Proofs.YtmeodnkmhakidaaDoor
