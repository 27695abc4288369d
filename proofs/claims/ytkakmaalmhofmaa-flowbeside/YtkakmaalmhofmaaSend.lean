/- send: something goes along the shortest ways. -/
import Derived.Test.YtkakmaalmhofmaaPush
import Derived.Test.YtkakmaalmhofmaaFarW
namespace Go.Proofs.Ytkakmaalmhofmaa
open Go.RowKit Go.Maps
attribute [local go_sem ↓] Go.wp_at_zero Go.wp_at_succ

theorem one_set {w : World} {b : Nat} {x y : Value} {t : TypeId} (h : One w b x t) : One (w.setCell ⟨b, 0, none⟩ y) b y t := by
  have h' : w.heap[b]? = some (.cells #[x] t (0, 0)) := h
  have hl := lt_of_block h'
  show (w.setCell ⟨b, 0, none⟩ y).heap[b]? = _
  simp [World.setCell, Array.getElem?_modify, h']
theorem NearP.mono {w : World} {x base base' g N : Nat} {ls : Nat → List Nat} (h : NearP w x base g N ls) (hb : base ≤ base') : NearP w x base' g N ls := by
  refine ⟨h.1, by have := h.2.1; omega, fun i hi => ?_⟩
  obtain ⟨xo, xc, h1, h2⟩ := h.2.2 i hi
  refine ⟨xo, xc, h1, fun k u hu => ?_⟩
  obtain ⟨b, e1, e2, e3, e4⟩ := h2 k u hu
  exact ⟨b, e1, by omega, e3, e4⟩
def Pp.up (c : Pp) (U : Nat) : Pp := { c with ub := U }
theorem PS.lift {c : Pp} {w : World} {R : Nat → Int} (h : PS c w R) {U : Nat} (hU : c.ub ≤ U) : PS (c.up U) w R :=
  ⟨h.box, h.near.mono hU, h.to, h.room, h.ne.1, Nat.lt_of_lt_of_le h.ne.2.1 hU, fun h0 => ⟨(h.ne.2.2 h0).1, Nat.lt_of_lt_of_le (h.ne.2.2 h0).2.1 hU, Nat.lt_of_lt_of_le (h.ne.2.2 h0).2.2 hU⟩⟩
theorem PS.drop {c : Pp} {w w' : World} {R R' : Nat → Int} {U : Nat} {K : Nat → Prop} (h : PS c w R) (ht : Turns K w w') (hm : ∀ k, K k → k = c.br ∨ c.ub ≤ k) (h' : PS (c.up U) w' R') : PS c w' R' := by
  refine ⟨box_turns h.box ht (fun hh => ?_), h.near.turns ht hm, fun h0 => ⟨(h.to h0).1, (h.to h0).2.turns ht (fun hh => ?_)⟩, h'.room, h.ne⟩
  · have := h.ne
    rcases hm _ hh with e | e
    · exact this.1 e
    · omega
  · have := h.ne.2.2 h0
    rcases hm _ hh with e | e
    · exact this.1 e
    · omega

set_option maxRecDepth 4000 in
set_option maxHeartbeats 4000000 in
theorem send_call {c : Pp} {w : World} {R : Nat → Int} {s t bf : Nat} {F : Nat → Int} (hn : Net c.N c.M c.T c.ls) (hN : c.N ≤ 1000) (hs : s < c.N) (ht : t < c.N) (hst : s ≠ t) (hps : PS c w R) (hub : c.ub ≤ w.heap.size) (hok : Ok c.M R) (hrow : RowV w bf 3 c.N (fun v => .int .i64 (F v))) (hbf : bf ≠ c.br) (hfar : Far c.N c.M c.T R s F) (hFt : 0 ≤ F t) :
    Calls Try.prog 54 #[ptr c.bp, .int .i64 (s : Int), .int .i64 (t : Int), sl bf c.N] w fun r w' => ∃ x, r = .returned (.int .i64 x) ∧ 0 < x ∧ x ≤ 4000000000000 ∧ ∃ R', Mv c.M c.T t s x R R' ∧ PS c w' R' ∧ Turns (fun k => k = c.br) w w' := by
  obtain ⟨i3, hi3, hy0, hy1, hy2⟩ := info_parts Try.info3
  have hF64 := enter64
  have HN : Hid _ := hn
  have HPS : Hid _ := hps
  have HOK : Hid _ := hok
  have HFR : Hid _ := hfar
  have HRW : Hid _ := hrow
  have cb0 := box_cell hps.box (i := 0) rfl
  have hbl := lt_of_block hps.box
  clear hn hps hok hfar hrow
  go_enter Try.func54, Try.ntmps54
  go_upto_region 1 with (fail)
  have a4 : One (((w.alloc (Obj.cells #[ptr c.bp] 66)).alloc (Obj.cells #[.int .i64 (t : Int)] 3)).alloc (Obj.cells #[sl bf c.N] 30)) w.heap.size (ptr c.bp) 66 := by
    show _ = _
    rw [Below.heap_alloc _ _ _ (by simp; omega), Below.heap_alloc _ _ _ (by simp)]
    exact heap_alloc_new _ _
  have a6 : One (((w.alloc (Obj.cells #[ptr c.bp] 66)).alloc (Obj.cells #[.int .i64 (t : Int)] 3)).alloc (Obj.cells #[sl bf c.N] 30)) (w.heap.size + 1) (.int .i64 (t : Int)) 3 := by
    show _ = _
    rw [Below.heap_alloc _ _ _ (by simp)]
    have := heap_alloc_new (w.alloc (Obj.cells #[ptr c.bp] 66)) (Obj.cells #[.int .i64 (t : Int)] 3)
    simpa using this
  have a7 : One (((w.alloc (Obj.cells #[ptr c.bp] 66)).alloc (Obj.cells #[.int .i64 (t : Int)] 3)).alloc (Obj.cells #[sl bf c.N] 30)) (w.heap.size + 1 + 1) (sl bf c.N) 30 := by
    show _ = _
    have := heap_alloc_new ((w.alloc (Obj.cells #[ptr c.bp] 66)).alloc (Obj.cells #[.int .i64 (t : Int)] 3)) (Obj.cells #[sl bf c.N] 30)
    simpa using this
  have hB0 := below_alloc (below_alloc (below_alloc (Below.refl _ w) (Obj.cells #[ptr c.bp] 66)) (Obj.cells #[.int .i64 (t : Int)] 3)) (Obj.cells #[sl bf c.N] 30)
  have hz0 : (((w.alloc (Obj.cells #[ptr c.bp] 66)).alloc (Obj.cells #[.int .i64 (t : Int)] 3)).alloc (Obj.cells #[sl bf c.N] 30)).heap.size = w.heap.size + 3 := by simp
  generalize ((w.alloc (Obj.cells #[ptr c.bp] 66)).alloc (Obj.cells #[.int .i64 (t : Int)] 3)).alloc (Obj.cells #[sl bf c.N] 30) = W0 at a4 a6 a7 hB0 hz0 ⊢
  have c4 := cell_of_one a4
  have cb1 : W0.cell? ⟨c.bp, 0, none⟩ = some (sl c.g c.N) := by rw [hB0.cell (p := ⟨c.bp, 0, none⟩) hbl]; exact cb0
  clear cb0
  go_upto_region 2 with (first | (at_make; refine wpList_make_full _ rfl _ _ 30 rfl w.heap.size 3 i3 (.int .i64 0) 1 Try.underlying30 hi3 hy0 hy1 .i64 .i64 _ _ c.N rfl rfl rfl rfl ?_ ?_ ?_ ?_; (rw [hy2]; omega); (unfold maxLen; omega); (omega); intro W1 hmade hg1) | go_in)
  have T1 := Turns.of_grown hg1
  have hu0 := rowV_made rfl hmade
  rw [hz0] at hu0
  have hz1 := hg1.size
  have hb9 : W1.heap.size ≥ w.heap.size + 3 + 1 := by have := hu0.lt; omega
  have hB1 := T1.below hB0 (by omega) (fun k hk => by cases hk)
  have T2 := alloc_turns W1 (Obj.cells #[sl (w.heap.size + 3) c.N] 30) (fun _ => False)
  have d4 := one_turns (one_turns a4 T1 (fun h => by cases h)) T2 (fun h => h)
  have d6 := one_turns (one_turns a6 T1 (fun h => by cases h)) T2 (fun h => h)
  have d7 := one_turns (one_turns a7 T1 (fun h => by cases h)) T2 (fun h => h)
  have du := hu0.turns T2 (fun h => h)
  have d9 := one_new W1 (sl (w.heap.size + 3) c.N) 30
  have hB2 := below_alloc hB1 (Obj.cells #[sl (w.heap.size + 3) c.N] 30)
  have hz2 : (W1.alloc (Obj.cells #[sl (w.heap.size + 3) c.N] 30)).heap.size = W1.heap.size + 1 := by simp
  generalize W1.alloc (Obj.cells #[.slice (some ⟨w.heap.size + 3, 0, none⟩) c.N c.N] 30) = W2 at d4 d6 d7 du d9 hB2 hz2 ⊢
  clear a4 a6 a7 hu0 T1 T2 hmade hg1 hB1 hB0 c4 cb1
  go_upto_region 4 with (fail)
  obtain ⟨q, hq⟩ : ∃ q : QC, q = { bf := bf, bu := w.heap.size + 3, b4 := w.heap.size, b6 := w.heap.size + 1, b7 := w.heap.size + 1 + 1, b9 := W1.heap.size, b10 := W1.heap.size + 1, t := t, F := F } := ⟨_, rfl⟩
  have T3 := alloc_turns W2 (Obj.cells #[.func (.func 64) #[] #[.pointer (some ⟨w.heap.size + 1, 0, none⟩), .pointer (some ⟨W1.heap.size, 0, none⟩), .pointer (some ⟨w.heap.size, 0, none⟩), .pointer (some ⟨w.heap.size + 1 + 1, 0, none⟩), .pointer (some ⟨W1.heap.size + 1, 0, none⟩)]] 106) (fun _ => False)
  have d10 := one_new W2 (.func (.func 64) #[] #[.pointer (some ⟨w.heap.size + 1, 0, none⟩), .pointer (some ⟨W1.heap.size, 0, none⟩), .pointer (some ⟨w.heap.size, 0, none⟩), .pointer (some ⟨w.heap.size + 1 + 1, 0, none⟩), .pointer (some ⟨W1.heap.size + 1, 0, none⟩)]) 106
  have hB3 := below_alloc hB2 (Obj.cells #[.func (.func 64) #[] #[.pointer (some ⟨w.heap.size + 1, 0, none⟩), .pointer (some ⟨W1.heap.size, 0, none⟩), .pointer (some ⟨w.heap.size, 0, none⟩), .pointer (some ⟨w.heap.size + 1 + 1, 0, none⟩), .pointer (some ⟨W1.heap.size + 1, 0, none⟩)]] 106)
  generalize W2.alloc (Obj.cells #[.func (.func 64) #[] #[.pointer (some ⟨w.heap.size + 1, 0, none⟩), .pointer (some ⟨W1.heap.size, 0, none⟩), .pointer (some ⟨w.heap.size, 0, none⟩), .pointer (some ⟨w.heap.size + 1 + 1, 0, none⟩), .pointer (some ⟨W1.heap.size + 1, 0, none⟩)]] 106) = W3 at T3 d10 hB3 ⊢
  rw [hz2] at d10
  have hbfl := RowV.lt HRW.out
  have hqs : QS (c.up w.heap.size) q W3 R (fun _ => 0) := by
    subst hq
    refine ⟨(HPS.out.lift hub).below hB3, RowV.block HRW.out (hB3.block _ hbfl), (du.turns T3 (fun h => h)).congr (fun _ _ => rfl), one_turns d4 T3 (fun h => h), one_turns d6 T3 (fun h => h), one_turns d7 T3 (fun h => h), one_turns d9 T3 (fun h => h), d10, ⟨⟨hbfl, hbf⟩, ?_⟩, ?_⟩
    · show w.heap.size ≤ _ ∧ w.heap.size ≤ _ ∧ w.heap.size ≤ _ ∧ w.heap.size ≤ _ ∧ w.heap.size ≤ _ ∧ w.heap.size ≤ _
      exact ⟨by simp, by simp, by simp, by simp; omega, by simp; omega, by simp; omega⟩
    · exact ⟨by simp, by simp, by simp, by simp; omega, by simp; omega⟩
  have hinv : Inv c.N c.T c.ls F t R (fun _ => 0) := ⟨fun _ _ => Nat.zero_le _, fun _ _ _ _ h => absurd h (Nat.not_lt_zero _)⟩
  have hF := HFR.out.low
  have hpu := push_call (c := c.up w.heap.size) (q := q) HN.out hN (by subst hq; exact hF) (c.N + 2) W3 R (fun _ => 0) s 9223372036854775807 hs (by subst hq; show 0 ≤ F s; rw [HFR.out.src]; exact Int.le_refl _) (by subst hq; show (c.N : Int) - F s < _; rw [HFR.out.src]; omega) (by omega) (by omega) hqs HOK.out (by subst hq; exact hinv)
  have c10 := cell_of_one d10
  subst hq
  have HPU : Hid _ := hpu
  clear hpu hqs hinv hF d4 d6 d7 du d9 d10 T3
  go_wp2_with (first
    | (go_at_call 64; refine Calls.mono HPU.out ?_; rintro r W4 ⟨x, rfl, hx0, hx1, R', fu', hsent, hends, hq4, hT4⟩)
    | go_in)
  have hxle : x ≤ 4000000 * (c.M : Int) := hsent.go.le hst 4000000 (by omega) (fun p hp => (Ok.le HOK.out HN.out.even hp).2)
  have hM := HN.out.many
  have hfin := hends (by omega)
  have hpos := HFR.out.some HN.out hs ht hFt hst hsent hx0 hfin.2
  have hT5 := hT4
  have hps' := hq4.ps
  have hmv := hsent.go
  have hlt4 := hq4.lt
  clear hsent hends hfin hT4 hq4
  go_ret
  refine ⟨x, rfl, hpos, by omega, R', hmv, ?_, ?_⟩
  · exact HPS.out.drop ((Turns.of_below hB3 (fun k => k = c.br ∨ c.ub ≤ k)).trans (hT5.mono (fun k _ hk => hk.imp id (fun e => by have h2 := hlt4.2.1; have e' : k = w.heap.size + 3 := e; omega)))) (fun k hk => hk) hps'
  · refine ⟨hT5.os.trans hB3.os, hT5.tape.trans hB3.tape, hT5.output.trans hB3.output, Nat.le_trans hB3.size hT5.size, fun k hk hn => ?_⟩
    rw [hT5.block k (Nat.lt_of_lt_of_le hk hB3.size) (fun hh => by
      rcases hh with e | e
      · exact hn e
      · have e' : k = w.heap.size + 3 := e
        omega)]
    exact hB3.block k hk

set_option maxRecDepth 4000 in
set_option maxHeartbeats 4000000 in
theorem fill_call {c : Pp} {w : World} {R : Nat → Int} {s t : Nat} (hn : Net c.N c.M c.T c.ls) (hN : c.N ≤ 1000) (hs : s < c.N) (ht : t < c.N) (hst : s ≠ t) (hps : PS c w R) (hub : c.ub ≤ w.heap.size) (hok : Ok c.M R) (hbr : c.br < w.heap.size) :
    Calls Try.prog 32 #[ptr c.bp, .int .i64 (s : Int), .int .i64 (t : Int)] w fun r w' => ∃ x bf, r = .returned (.tuple #[.int .i64 x, sl bf c.N]) ∧ 0 ≤ x ∧ w.heap.size ≤ bf ∧ ∃ R', Mv c.M c.T t s x R R' ∧ PS c w' R' ∧ ∃ F, RowV w' bf 3 c.N (fun v => .int .i64 (F v)) ∧ Far c.N c.M c.T R' s F ∧ F t = -1 ∧ Turns (fun k => k = c.br) w w' := by
  have HN : Hid _ := hn
  have HPS : Hid _ := hps
  have HOK : Hid _ := hok
  clear hn hps hok
  go_enter Try.func32, Try.ntmps32
  go_wp2
  go_loopw [6, 7] (fun tv _ wr => ∃ (x : Int) (R1 : Nat → Int), tv = .int .i64 x ∧ 0 ≤ x ∧ Mv c.M c.T t s x R R1 ∧ PS c wr R1 ∧ Turns (fun k => k = c.br) w wr) (fun tv _ _ => 4000000000001 - (numOf tv).toNat)
  case atStart => exact ⟨0, R, rfl, Int.le_refl _, Mv.refl t s (fun p hp => (HOK.out p hp).1), HPS.out, Turns.refl _ _⟩
  case round =>
    obtain ⟨x, R1, rfl, hx0, hmv, hps1, hT1⟩ := hrel
    have hok1 := Ok.go HOK.out hmv
    have hM := HN.out.many
    have hxle : x ≤ 4000000 * (c.M : Int) := hmv.le hst 4000000 (by omega) (fun p hp => (Ok.le HOK.out HN.out.even hp).2)
    have hsz := hT1.size
    have hff := farFrom_call HN.out hN hs hps1 hok1
    have i1 : (0 : Int) ≤ (t : Int) := by omega
    have i2 : (t : Int) < (c.N : Int) := by omega
    have HFF : Hid _ := hff
    have HMV : Hid _ := hmv
    have HPS1 : Hid _ := hps1
    have HT1 : Hid _ := hT1
    have HOK1 : Hid _ := hok1
    clear hff hmv hps1 hT1 hok1
    go_upto_region 2 with (first | (go_at_call 53; refine Calls.mono HFF.out ?_; rintro r W1 ⟨bf, rfl, hbf, F, hrow, hfar, hB1⟩) | go_in)
    have ct := hrow.cell ht
    have hlow := hfar.low t ht
    by_cases hF : F t = -1
    · have k1 : (F t == -1) = true := by rw [beq_iff_eq]; exact hF
      have HF : Hid _ := hF
      have HRW : Hid _ := hrow
      have HFR : Hid _ := hfar
      clear hF hrow hfar
      go_wp2
      refine bodyPost_ret (v := .tuple #[.int .i64 x, sl bf c.N]) (by simp [results, Try.results32, go_sem]) rfl ⟨x, bf, rfl, hx0, by omega, R1, HMV.out, HPS1.out.below hB1, F, HRW.out, HFR.out, HF.out, HT1.out.trans (Turns.of_below hB1 _)⟩
    · have k1 : (F t == -1) = false := by rw [beq_eq_false_iff_ne]; exact hF
      have hbs := hB1.size
      have hsd := send_call HN.out hN hs ht hst (HPS1.out.below hB1) (by omega) HOK1.out hrow (by omega) hfar (by omega)
      have HSD : Hid _ := hsd
      clear hsd hrow hfar hF
      go_wp2_with (first | (go_at_call 54; refine Calls.mono HSD.out ?_; rintro r W2 ⟨y, rfl, hy0, hy1, R2, hmv2, hps2, hT2⟩) | go_in)
      have hmv3 := HMV.out.trans hmv2
      have hle3 := hmv3.le hst 4000000 (by omega) (fun p hp => (Ok.le HOK.out HN.out.even hp).2)
      go_roundw
      case rel => exact ⟨x + y, R2, rfl, by omega, hmv3, hps2, (HT1.out.trans (Turns.of_below hB1 _)).trans hT2⟩
      case measure => simp [numOf]; omega
end Go.Proofs.Ytkakmaalmhofmaa
