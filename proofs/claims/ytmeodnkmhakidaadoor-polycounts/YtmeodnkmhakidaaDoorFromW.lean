/- All sets of edges, one edge behind the other: the literal of tryEdges. -/
import Derived.Test.YtmeodnkmhakidaaDoorSeeW
import Derived.Test.YtmeodnkmhakidaaDoorTopW
namespace Go.Proofs.YtmeodnkmhakidaaDoor
set_option maxRecDepth 8000
open Go.RowKit Go.Maps Go.WideElems Go.ChangeMaps
attribute [local go_sem ↓] Go.wp_at_zero Go.wp_at_succ
def pzT (es : List E2) : List Pair := es.map fun e => ((e.1 : Int), (e.2 : Int))
theorem enter63 (args : Array Value) (w : World) : (callFunc 63 args).run Tryd.prog w = .ok (.enter 63 args) w := by
  simp [callFunc, Tryd.func63, go_sem]
  rw [if_neg (of_decide_eq_true (by kernel_rfl)), if_neg (by intro h; have : Tryd.f63.body.isSome = true := (by kernel_rfl); rw [h] at this; cases this)]
theorem enter52 (args : Array Value) (w : World) : (callFunc 52 args).run Tryd.prog w = .ok (.enter 52 args) w := by
  simp [callFunc, Tryd.func52, go_sem]
  rw [if_neg (of_decide_eq_true (by kernel_rfl)), if_neg (by intro h; have : Tryd.f52.body.isSome = true := (by kernel_rfl); rw [h] at this; cases this)]
/-- What lies in memory and stays there. -/
structure FxC (Fx : World → Prop) (bg bs bf bu bm bw bg2 ub mb N whole : Nat) (ao : Option Addr) (cap : Nat) (es : List E2) : Prop where
  keep : ∀ A A', Fx A → Turns (fun x => x = ub ∨ x = mb) A A' → Fx A'
  g : ∀ A, Fx A → Two A bg (.int .i64 (N : Int)) (.slice ao es.length cap) 24
  ed : ∀ A, Fx A → EdgesAt A (.slice ao es.length cap) (pzT es)
  s : ∀ A, Fx A → One A bs (.func (.func 52) #[] #[ptr bm, ptr bw, ptr bg2]) 90
  f : ∀ A, Fx A → One A bf (.func (.func 63) #[] #[ptr bg, ptr bs, ptr bf, ptr bu]) 103
  u : ∀ A, Fx A → One A bu (sl ub N) 29
  m : ∀ A, Fx A → One A bm (.map (some mb)) 69
  w : ∀ A, Fx A → One A bw (.int .i64 (whole : Int)) 3
  g2 : ∀ A, Fx A → ∃ ev, Two A bg2 (.int .i64 (N : Int)) ev 24
  ne : ub ≠ mb
  hes : ∀ e ∈ es, e.1 < N ∧ e.2 < N
  hm : es.length ≤ 12
  hN : N ≤ 100
def keyC (whole N : Nat) (q : Nat × Nat) : Nat × Nat := (q.1 - whole, q.1 + q.2 - N)
def addC (whole N : Nat) (F : Cts) (l : List (Nat × Nat)) : Cts := l.foldl (fun F q => updC F (keyC whole N q) (cn F (keyC whole N q) + 1)) F
theorem addC_app (whole N : Nat) (F : Cts) (l l' : List (Nat × Nat)) : addC whole N F (l ++ l') = addC whole N (addC whole N F l) l' := List.foldl_append
theorem cn_upd (F : Cts) (k t : Nat × Nat) (c : Nat) : cn (updC F k c) t = if t = k then c else cn F t := by
  unfold cn updC
  split <;> rfl
theorem addC_le (whole N : Nat) : ∀ (l : List (Nat × Nat)) {F : Cts} {n : Nat}, (∀ k, cn F k ≤ n) → ∀ k, cn (addC whole N F l) k ≤ n + l.length
  | [], F, n, h, k => h k
  | q :: l, F, n, h, k => by
    have := addC_le whole N l (F := updC F (keyC whole N q) (cn F (keyC whole N q) + 1)) (n := n + 1) (fun t => by
      rw [cn_upd]
      split
      · have := h (keyC whole N q); omega
      · have := h t; omega) k
    rw [List.length_cons]
    show cn (addC whole N (updC F (keyC whole N q) (cn F (keyC whole N q) + 1)) l) k ≤ _
    omega
theorem trL_len : ∀ (r : List E2) (up : Nat → Nat) (p s : Nat), (trL r up p s).length = 2 ^ r.length := fun r up p s => by rw [trL_eq, List.length_map, sub_len]
def QOk (whole N : Nat) (q : Nat × Nat) : Prop := whole ≤ q.1 ∧ q.1 ≤ 100 ∧ N ≤ q.1 + q.2 ∧ q.2 ≤ 12
set_option maxHeartbeats 16000000 in
theorem from_call {Fx : World → Prop} {bg bs bf bu bm bw bg2 ub mb N whole : Nat} {ao : Option Addr} {cap : Nat} {es : List E2} (hF : FxC Fx bg bs bf bu bm bw bg2 ub mb N whole ao cap es) :
    ∀ (r : List E2) (at_ : Nat) (up : Nat → Nat) (p s n : Nat) (A : List E2) (F : Cts) (W : World), es.drop at_ = r → at_ + r.length = es.length → Uf N up s p A → (∀ e ∈ A, e.1 < N ∧ e.2 < N) → s ≤ at_ → p ≤ 100 → (∀ q ∈ trL r up p s, QOk whole N q) → Fx W → RowV W ub 3 N (upV up) → CntM W mb n F → (∀ k, cn F k ≤ n) → n + 2 ^ r.length ≤ 8192 →
      Calls Tryd.prog 63 #[.int .i64 (at_ : Int), .int .i64 (p : Int), .int .i64 (s : Int), ptr bg, ptr bs, ptr bf, ptr bu] W fun e w' => e = .returned (.tuple #[]) ∧ RowV w' ub 3 N (upV up) ∧ CntM w' mb (n + 2 ^ r.length) (addC whole N F (trL r up p s)) ∧ Turns (fun x => x = ub ∨ x = mb) W w' := by
  have HF : Hid _ := hF
  have hF40 := enter63
  have hF29 := enter52
  have hm12 := hF.hm
  clear hF
  intro r
  induction r with
  | nil =>
    intro at_ up p s n A F W hdr hat hU hA hs hp hq hFx hR hC hcn hn
    have hat' : at_ = es.length := by simpa using hat
    have q0 := hq (p, s) (by simp [trL])
    have HSEE : Hid (Calls Tryd.prog 52 #[.int .i64 (p : Int), .int .i64 (s : Int), ptr bm, ptr bw, ptr bg2] W fun e w' => e = .returned (.tuple #[]) ∧ CntM w' mb (n + 1) (updC F (p - whole, p + s - N) (cn F (p - whole, p + s - N) + 1)) ∧ Turns (fun x => x = mb) W w') := by
      obtain ⟨ev, hg2⟩ := HF.out.g2 W hFx
      exact see_call (HF.out.m W hFx) (HF.out.w W hFx) hg2 hC q0.1 (by have := q0.2.1; simp only at this; omega) (by have := q0.2.2.2; simp only at this; omega) (by have := q0.2.2.1; simp only at this; omega) (by have := hcn (p - whole, p + s - N); simp at hn; omega) (by simp at hn; omega)
    obtain ⟨c0, c1⟩ := cell_two (HF.out.g W hFx)
    have c2 : W.cell? ⟨bs, 0, none⟩ = some (.func (.func 52) #[] #[ptr bm, ptr bw, ptr bg2]) := box_cell (i := 0) (HF.out.s W hFx) rfl
    have HRW : Hid (RowV W ub 3 N (upV up)) := hR
    have k1 : ((at_ : Int) == (es.length : Int)) = true := by simp [hat']
    clear hdr hat hU hA hs hp hq hFx hR hC hcn hn q0 hat'
    go_enter Tryd.func63, Tryd.ntmps63
    go_wp2_with (first | (go_at_call 52; refine Calls.mono HSEE.out ?_; rintro e V1 ⟨rfl, g1, g2⟩; have HG : Hid _ := And.intro g1 g2; clear g1 g2) | fail)
    refine bodyPost_ret (v := .tuple #[]) ?_ rfl ⟨rfl, HRW.out.turns HG.out.2 (fun e => HF.out.ne e), HG.out.1, HG.out.2.mono (fun x _ e => Or.inr e)⟩
    simp [results, Tryd.results63, go_sem]
  | cons e r ih =>
    intro at_ up p s n A F W hdr hat hU hA hs hp hq hFx hR hC hcn hn
    have hlt : at_ < es.length := by simp only [List.length_cons] at hat; omega
    have he : es[at_] = e := by
      have h := List.drop_eq_getElem_cons hlt
      rw [hdr] at h
      exact (List.cons.inj h).1.symm
    have hdr' : es.drop (at_ + 1) = r := by
      have h := List.drop_eq_getElem_cons hlt
      rw [hdr] at h
      exact (List.cons.inj h).2.symm
    have heN : e.1 < N ∧ e.2 < N := HF.out.hes e (by rw [← he]; exact List.getElem_mem hlt)
    have hat' : at_ + 1 + r.length = es.length := by simp only [List.length_cons] at hat; omega
    have hpow : 2 ^ (e :: r).length = 2 ^ r.length + 2 ^ r.length := by rw [List.length_cons, Nat.pow_succ]; omega
    have hpos : 0 < 2 ^ r.length := Nat.pos_of_ne_zero (by simp)
    obtain ⟨T1, hT1⟩ : ∃ T, T = trL r up p s := ⟨_, rfl⟩
    have hq1 : ∀ q ∈ trL r up p s, QOk whole N q := fun q h => hq q (List.mem_append.2 (Or.inl h))
    have I1 : Hid _ := ih (at_ + 1) up p s n A F W hdr' hat' hU hA (by omega) hp hq1 hFx hR hC hcn (by omega)
    have hcn1 : ∀ k, cn (addC whole N F (trL r up p s)) k ≤ n + 2 ^ r.length := fun k => by
      have := addC_le whole N (trL r up p s) hcn k
      rw [trL_len] at this
      exact this
    have HQ2 : Hid (∀ q ∈ (if topF s up e.1 = topF s up e.2 then trL r up p (s + 1) else trL r (updN up (topF s up e.1) (topF s up e.2)) (p - 1) (s + 1)), QOk whole N q) := fun q h => hq q (List.mem_append.2 (Or.inr h))
    have HALL : Hid (trL (e :: r) up p s = trL r up p s ++ (if topF s up e.1 = topF s up e.2 then trL r up p (s + 1) else trL r (updN up (topF s up e.1) (topF s up e.2)) (p - 1) (s + 1))) := rfl
    have HC : Hid (Uf N up s p A ∧ (∀ e ∈ A, e.1 < N ∧ e.2 < N) ∧ (e.1 < N ∧ e.2 < N) ∧ (∀ k, cn (addC whole N F (trL r up p s)) k ≤ n + 2 ^ r.length) ∧ n + (2 ^ r.length + 2 ^ r.length) ≤ 8192 ∧ 2 ^ (r.length + 1) = 2 ^ r.length + 2 ^ r.length ∧ es.drop (at_ + 1) = r ∧ at_ + 1 + r.length = es.length ∧ Fx W) := ⟨hU, hA, heN, hcn1, by omega, hpow, hdr', hat', hFx⟩
    have HE : Hid (∀ B, Fx B → ∃ b off, ao = some ⟨b, off, none⟩ ∧ B.cell? ⟨b, off + at_ * 2, none⟩ = some (.int .i64 (e.1 : Int)) ∧ B.cell? ⟨b, off + at_ * 2 + 1, none⟩ = some (.int .i64 (e.2 : Int))) := fun B hB => by
      obtain ⟨ao', cap', e1, _, _, hc⟩ := HF.out.ed B hB
      simp only [Value.slice.injEq] at e1
      obtain ⟨rfl, _, rfl⟩ := e1
      obtain ⟨b, off, h1, h2, h3⟩ := hc at_ (by simp [pzT]; exact hlt)
      refine ⟨b, off, h1, ?_, ?_⟩
      · simpa [pzT, he] using h2
      · simpa [pzT, he] using h3
    have HIH : Hid (∀ (up : Nat → Nat) (p s n : Nat) (A : List E2) (F : Cts) (W : World), Uf N up s p A → (∀ e ∈ A, e.1 < N ∧ e.2 < N) → s ≤ at_ + 1 → p ≤ 100 → (∀ q ∈ trL r up p s, QOk whole N q) → Fx W → RowV W ub 3 N (upV up) → CntM W mb n F → (∀ k, cn F k ≤ n) → n + 2 ^ r.length ≤ 8192 →
      Calls Tryd.prog 63 #[.int .i64 ((at_ : Int) + 1), .int .i64 (p : Int), .int .i64 (s : Int), ptr bg, ptr bs, ptr bf, ptr bu] W fun e w' => e = .returned (.tuple #[]) ∧ RowV w' ub 3 N (upV up) ∧ CntM w' mb (n + 2 ^ r.length) (addC whole N F (trL r up p s)) ∧ Turns (fun x => x = ub ∨ x = mb) W w') := fun up p s n A F W h1 h2 h3 h4 h5 h6 h7 h8 h9 h10 => by
        have := ih (at_ + 1) up p s n A F W hdr' hat' h1 h2 h3 h4 h5 h6 h7 h8 h9 h10
        rw [show ((at_ + 1 : Nat) : Int) = (at_ : Int) + 1 by omega] at this
        exact this
    have I1' : Hid (Calls Tryd.prog 63 #[.int .i64 ((at_ : Int) + 1), .int .i64 (p : Int), .int .i64 (s : Int), ptr bg, ptr bs, ptr bf, ptr bu] W fun e w' => e = .returned (.tuple #[]) ∧ RowV w' ub 3 N (upV up) ∧ CntM w' mb (n + 2 ^ r.length) (addC whole N F (trL r up p s)) ∧ Turns (fun x => x = ub ∨ x = mb) W w') := by
      have := I1.out
      rw [show ((at_ + 1 : Nat) : Int) = (at_ : Int) + 1 by omega] at this
      exact this
    obtain ⟨c0, c1⟩ := cell_two (HF.out.g W hFx)
    have c2 : W.cell? ⟨bf, 0, none⟩ = some (.func (.func 63) #[] #[ptr bg, ptr bs, ptr bf, ptr bu]) := box_cell (i := 0) (HF.out.f W hFx) rfl
    have k1 : ((at_ : Int) == (es.length : Int)) = false := by simp; omega
    have a0 : (0 : Int) ≤ (at_ : Int) := by omega
    have a1 : (at_ : Int) < (es.length : Int) := by omega
    clear hdr hat hU hA hq hFx hR hC hcn hn he hdr' heN hat' hpow hpos hT1 hq1 I1 hcn1 ih T1 hlt
    go_enter Tryd.func63, Tryd.ntmps63
    go_upto_region 3 with (first | (go_at_call 63; refine Calls.mono I1'.out ?_; rintro e1 V1 ⟨rfl, g1, g2, g3⟩; have HG : Hid _ := And.intro g1 (And.intro g2 g3); clear g1 g2 g3) | fail)
    have hFx1 : Fx V1 := HF.out.keep _ _ HC.out.2.2.2.2.2.2.2.2 HG.out.2.2
    have HFx1 : Hid (Fx V1) := hFx1
    obtain ⟨eb, eoff, hao, ce0, ce1⟩ := HE.out V1 hFx1
    subst hao
    obtain ⟨d0, d1⟩ := cell_two (HF.out.g V1 hFx1)
    have d2 : V1.cell? ⟨bu, 0, none⟩ = some (sl ub N) := box_cell (i := 0) (HF.out.u V1 hFx1) rfl
    obtain ⟨ta, hta⟩ : ∃ ta, ta = topF s up e.1 := ⟨_, rfl⟩
    obtain ⟨tb, htb⟩ : ∃ tb, tb = topF s up e.2 := ⟨_, rfl⟩
    have D1 : Hid (∀ B, Below V1.heap.size V1 B → Calls Tryd.prog 64 #[sl ub N, .int .i64 (e.1 : Int)] B fun e w' => e = .returned (.int .i64 (ta : Int)) ∧ Below B.heap.size B w') := fun B hB => by
      rw [hta]
      exact (top_call (HG.out.1.block (hB.block _ HG.out.1.lt)) HC.out.1.rt HC.out.2.2.1.1).mono fun e w' ⟨h1, h2⟩ => ⟨h1, h2 ▸ Below.refl _ _⟩
    have D2 : Hid (∀ B, Below V1.heap.size V1 B → Calls Tryd.prog 64 #[sl ub N, .int .i64 (e.2 : Int)] B fun e w' => e = .returned (.int .i64 (tb : Int)) ∧ Below B.heap.size B w') := fun B hB => by
      rw [htb]
      exact (top_call (HG.out.1.block (hB.block _ HG.out.1.lt)) HC.out.1.rt HC.out.2.2.1.2).mono fun e w' ⟨h1, h2⟩ => ⟨h1, h2 ▸ Below.refl _ _⟩
    have m0 := cell_growD ce0
    have m1 := cell_growD ce1
    have m2 := cell_growD d0
    have m3 := cell_growD d1
    have m4 := cell_growD d2
    have HT : Hid (ta = topF s up e.1 ∧ tb = topF s up e.2) := ⟨hta, htb⟩
    clear ce0 ce1 d0 d1 d2 hFx1 hta htb c0 c1 c2
    refine wp_region_below (by kernel_rfl) (by kernel_rfl) ?_
    repeat (go_big_quiet_step (first | (go_at_call 64; first | with_reducible exact Calls.belowQ (fun W hW => D1.out W hW) | with_reducible exact Calls.belowQ (fun W hW => D2.out W hW))))
    refine wpQuiet_nil ?_
    rintro _ ⟨gp, rfl⟩
    have hB8 := growD_below V1 gp
    clear m0 m1 m2 m3 m4 D1 D2
    generalize growD V1 gp = V2 at *
    have HT2 : Hid (Turns (fun x => x = ub ∨ x = mb) V1 V2) := Turns.of_below hB8 _
    have HV : Hid (Fx V2 ∧ RowV V2 ub 3 N (upV up) ∧ CntM V2 mb (n + 2 ^ r.length) (addC whole N F (trL r up p s)) ∧ Turns (fun x => x = ub ∨ x = mb) W V2) := ⟨HF.out.keep _ _ HFx1.out HT2.out, HG.out.1.block (hB8.block _ HG.out.1.lt), HG.out.2.1.under hB8, HG.out.2.2.trans HT2.out⟩
    have c2 : V2.cell? ⟨bf, 0, none⟩ = some (.func (.func 63) #[] #[ptr bg, ptr bs, ptr bf, ptr bu]) := box_cell (i := 0) (HF.out.f V2 HV.out.1) rfl
    clear hB8 HG HT2 HFx1 I1'
    by_cases ht : ta = tb
    · have k2 : ((ta : Int) == (tb : Int)) = true := by simp [ht]
      have htt : topF s up e.1 = topF s up e.2 := by rw [← HT.out.1, ← HT.out.2]; exact ht
      have I2 : Hid (Calls Tryd.prog 63 #[.int .i64 ((at_ : Int) + 1), .int .i64 (p : Int), .int .i64 ((s : Int) + 1), ptr bg, ptr bs, ptr bf, ptr bu] V2 fun e' w' => e' = .returned (.tuple #[]) ∧ RowV w' ub 3 N (upV up) ∧ CntM w' mb (n + 2 ^ r.length + 2 ^ r.length) (addC whole N (addC whole N F (trL r up p s)) (trL r up p (s + 1))) ∧ Turns (fun x => x = ub ∨ x = mb) V2 w') := by
        have hq2 := HQ2.out
        rw [if_pos htt] at hq2
        have := HIH.out up p (s + 1) (n + 2 ^ r.length) (A ++ [e]) _ V2 (HC.out.1.same HC.out.2.1 HC.out.2.2.1 htt) (nodes_app HC.out.2.1 HC.out.2.2.1) (by omega) hp hq2 HV.out.1 HV.out.2.1 HV.out.2.2.1 HC.out.2.2.2.1 (by have := HC.out.2.2.2.2.1; omega)
        rw [show ((s + 1 : Nat) : Int) = (s : Int) + 1 by omega] at this
        exact this
      have HTT : Hid (topF s up e.1 = topF s up e.2) := htt
      clear htt
      go_wp2_with (first | (go_at_call 63; refine Calls.mono I2.out ?_; rintro e1 V3 ⟨rfl, g1, g2, g3⟩; have HG : Hid _ := And.intro g1 (And.intro g2 g3); clear g1 g2 g3) | fail)
      refine bodyPost_ret (v := .tuple #[]) ?_ rfl ⟨rfl, HG.out.1, ?_, HV.out.2.2.2.trans HG.out.2.2⟩
      · simp [results, Tryd.results63, go_sem]
      · rw [HALL.out, if_pos HTT.out, addC_app, HC.out.2.2.2.2.2.1, ← Nat.add_assoc]
        exact HG.out.2.1
    · have k2 : ((ta : Int) == (tb : Int)) = false := by simp; omega
      have htt : topF s up e.1 ≠ topF s up e.2 := by rw [← HT.out.1, ← HT.out.2]; exact ht
      obtain ⟨hU2, hp1⟩ := HC.out.1.upd HC.out.2.1 HC.out.2.2.1 htt
      have hta := topF_lt HC.out.1.rt.lt s e.1 HC.out.2.2.1.1
      have hra := HC.out.1.rt.top e.1 HC.out.2.2.1.1
      rw [← HT.out.1] at hta hra
      have cu : V2.cell? ⟨bu, 0, none⟩ = some (sl ub N) := box_cell (i := 0) (HF.out.u V2 HV.out.1) rfl
      have cr := HV.out.2.1.cell (j := ta) hta
      have fr0 := HV.out.2.1.free ta
      have i0 : (0 : Int) ≤ (ta : Int) := by omega
      have i1 : (ta : Int) < (N : Int) := by omega
      have HU2 : Hid (Uf N (updN up ta tb) (s + 1) (p - 1) (A ++ [e]) ∧ up ta = ta ∧ topF s up e.1 ≠ topF s up e.2) := ⟨by rw [HT.out.1, HT.out.2]; exact hU2, hra, htt⟩
      clear hU2 hra htt
      go_upto_region 7 with (fail)
      have HV3 : Hid (Fx (V2.setCell ⟨ub, ta, none⟩ (.int .i64 (tb : Int))) ∧ RowV (V2.setCell ⟨ub, ta, none⟩ (.int .i64 (tb : Int))) ub 3 N (upV (updN up ta tb)) ∧ CntM (V2.setCell ⟨ub, ta, none⟩ (.int .i64 (tb : Int))) mb (n + 2 ^ r.length) (addC whole N F (trL r up p s)) ∧ Turns (fun x => x = ub ∨ x = mb) W (V2.setCell ⟨ub, ta, none⟩ (.int .i64 (tb : Int)))) := by
        have t := (setCell_turns V2 ub ta (.int .i64 (tb : Int)))
        refine ⟨HF.out.keep _ _ HV.out.1 (t.mono fun x _ e => Or.inl e), (HV.out.2.1.set ta _).congr fun j hj => ?_, HV.out.2.2.1.turns t (fun e => HF.out.ne e.symm), HV.out.2.2.2.trans (t.mono fun x _ e => Or.inl e)⟩
        unfold upV updN
        split <;> rfl
      clear HV c2 cu cr fr0
      generalize V2.setCell ⟨ub, ta, none⟩ (.int .i64 (tb : Int)) = V3 at *
      have c2 : V3.cell? ⟨bf, 0, none⟩ = some (.func (.func 63) #[] #[ptr bg, ptr bs, ptr bf, ptr bu]) := box_cell (i := 0) (HF.out.f V3 HV3.out.1) rfl
      have I2 : Hid (Calls Tryd.prog 63 #[.int .i64 ((at_ : Int) + 1), .int .i64 ((p : Int) - 1), .int .i64 ((s : Int) + 1), ptr bg, ptr bs, ptr bf, ptr bu] V3 fun e' w' => e' = .returned (.tuple #[]) ∧ RowV w' ub 3 N (upV (updN up ta tb)) ∧ CntM w' mb (n + 2 ^ r.length + 2 ^ r.length) (addC whole N (addC whole N F (trL r up p s)) (trL r (updN up ta tb) (p - 1) (s + 1))) ∧ Turns (fun x => x = ub ∨ x = mb) V3 w') := by
        have hq2 := HQ2.out
        rw [if_neg HU2.out.2.2, ← HT.out.1, ← HT.out.2] at hq2
        have := HIH.out (updN up ta tb) (p - 1) (s + 1) (n + 2 ^ r.length) (A ++ [e]) _ V3 HU2.out.1 (nodes_app HC.out.2.1 HC.out.2.2.1) (by omega) (by omega) hq2 HV3.out.1 HV3.out.2.1 HV3.out.2.2.1 HC.out.2.2.2.1 (by have := HC.out.2.2.2.2.1; omega)
        rw [show ((s + 1 : Nat) : Int) = (s : Int) + 1 by omega, show ((p - 1 : Nat) : Int) = (p : Int) - 1 by omega] at this
        exact this
      go_upto_region 8 with (first | (go_at_call 63; refine Calls.mono I2.out ?_; rintro e1 V4 ⟨rfl, g1, g2, g3⟩; have HG : Hid _ := And.intro g1 (And.intro g2 g3); clear g1 g2 g3) | fail)
      have hFx4 := HF.out.keep _ _ HV3.out.1 HG.out.2.2
      have cu : V4.cell? ⟨bu, 0, none⟩ = some (sl ub N) := box_cell (i := 0) (HF.out.u V4 hFx4) rfl
      have cr := HG.out.1.cell (j := ta) hta
      have fr0 := HG.out.1.free ta
      clear c2 I2 hFx4
      go_wp2
      have t := (setCell_turns V4 ub ta (.int .i64 (ta : Int)))
      go_end0
      refine ⟨rfl, ?_, ?_, (HV3.out.2.2.2.trans HG.out.2.2).trans (t.mono fun x _ e => Or.inl e)⟩
      · refine (HG.out.1.set ta _).congr fun j hj => ?_
        unfold upV updN
        by_cases ej : j = ta
        · rw [if_pos ej, ej, HU2.out.2.1]
        · rw [if_neg ej, if_neg ej]
      · rw [HALL.out, if_neg HU2.out.2.2, ← HT.out.1, ← HT.out.2, addC_app, HC.out.2.2.2.2.2.1, ← Nat.add_assoc]
        exact HG.out.2.1.turns t (fun e => HF.out.ne e.symm)
end Go.Proofs.YtmeodnkmhakidaaDoor
