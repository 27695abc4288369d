/- together, Parts and Joined of a house. -/
import Derived.Test.YtfdlndljpmamgaaFindW
import Derived.Test.YtfdlndljpmamgaaChgW
namespace Go.Proofs.Ytfdlndljpmamgaa
set_option maxRecDepth 8000
open Go.RowKit Go.Maps
attribute [local go_sem ↓] Go.wp_at_zero Go.wp_at_succ
def EdOk (N : Nat) (E : Ed) : Prop := ∀ u v, E u v = true → u < v ∧ v < N
abbrev lock5 (x3 x4 : Value) : Array Value := on5 (.int .u32 0) (.int .i32 1) (.int .u32 0) x3 x4
def TogQ (W : World) (p : Hp) (N : Nat) (E : Ed) (y3 y4 : Value) (w' : World) : Prop := ∃ lab c, y3 = .int .i64 ((c : Nat) : Int) ∧ Fnd N E lab c ∧ LabAt w' y4 N lab ∧ (∀ x, y4.ownBlock = some x → W.heap.size ≤ x) ∧ Turns (fun k => k = p.tb) W w'
set_option maxHeartbeats 2000000 in
theorem tog1_call {W : World} {p : Hp} {L : List ByteArray} {E : Ed} {n hb : Nat} (hbx : Box W p.b (hcells p) 81) (hrow : W.ownsRow 0 9 1 p.nv L.length (sv L)) (he : EdM W p.em n E) (htb : Box W p.tb (lock5 (.int .i64 0) (.slice none 0 0)) 78) (hh : One W hb (ptr p.b) 24) (hL : L.length ≤ 100) (hE : EdOk L.length E) :
    Calls Try.prog 51 #[ptr hb] W fun e w' => e = .returned (.tuple #[]) ∧ ∃ y3 y4, Box w' p.tb (lock5 y3 y4) 78 ∧ TogQ W p L.length E y3 y4 w' := by
  obtain ⟨c0, c1, c2, c3, c4⟩ := hbox_cells hbx
  obtain ⟨ao, cap, hnv⟩ := form_own hrow
  rw [hnv] at c0
  have d0 : W.cell? ⟨hb, 0, none⟩ = some (ptr p.b) := box_cell hh rfl
  have c0g := cell_growD c0
  have c2g := cell_growD c2
  have c4g := cell_growD c4
  have d0g := cell_growD d0
  have HX : Hid (L.length ≤ 100 ∧ EdOk L.length E ∧ EdM W p.em n E ∧ Box W p.tb (lock5 (.int .i64 0) (.slice none 0 0)) 78) := ⟨hL, hE, he, htb⟩
  clear hbx hrow he htb hh hL hE c0 c1 c2 c3 c4 d0
  generalize L.length = N at *
  go_enter Try.func51, Try.ntmps51
  go_upto_region 0 with (fail)
  refine wp_region_tailT 13 (by kernel_rfl) (by kernel_rfl) (by kernel_rfl) (by decide) ?_
  simp only [List.take_succ_cons, List.take_zero, List.drop_succ_cons, List.drop_zero]
  repeat (go_big_quiet_step (fail))
  refine wpQuiet_nil ?_
  rintro _ ⟨gp, rfl⟩
  have hB := growD_below W gp
  have hT0 := Turns.of_below hB (fun _ => False)
  have CF := hid (find_call (n := n) (E := E) (box_turns HX.out.2.2.2 hT0 (fun h => h)) (HX.out.2.2.1.block (hT0.block _ HX.out.2.2.1.lt (fun h => h))) HX.out.1 HX.out.2.1)
  have HT0 := hid hT0
  clear hB hT0 c0g c2g c4g d0g
  generalize growD W gp = W1 at *
  go_wp2_with (first | (go_at_call 52; refine Calls.mono CF.out ?_; rintro e w2 ⟨rfl, lab, c, pv, q1, q2, q3, q4, q5⟩) | go_in)
  go_end0
  exact ⟨rfl, _, pv, q4, lab, c, rfl, q1, q2, fun x hx => Nat.le_trans HT0.out.size (q3 x hx), (HT0.out.mono fun _ _ h => h.elim).trans q5⟩
theorem Hs.tbOff {w : World} {p : Hp} {L : List ByteArray} {E : Ed} {K : List Ck} {n : Nat} (h : Hs w p L E K n) {cs : Array Value} (ht : Box w p.tb cs 78) : p.tb ≠ p.b ∧ p.tb ≠ p.nm ∧ p.tb ≠ p.em ∧ p.nv.ownBlock ≠ some p.tb ∧ p.kv.ownBlock ≠ some p.tb := by
  obtain ⟨h1, h2, h3, h4, h5, ks, h6, h7⟩ := h
  refine ⟨fun e => ?_, fun e => ?_, fun e => ?_, fun e => ?_, fun e => ?_⟩
  · rw [← e] at h1
    have h1 : w.heap[p.tb]? = _ := h1
    rw [ht] at h1; cases h1
  · obtain ⟨es, c, h⟩ := h3.obj; rw [← e, ht] at h; cases h
  · obtain ⟨es, c, h⟩ := h4.obj; rw [← e, ht] at h; cases h
  · obtain ⟨cs, h⟩ := row_obj h2 e; rw [ht] at h; cases h
  · obtain ⟨cs, h⟩ := row_obj h6 e; rw [ht] at h; cases h
/-- A house but for what hangs together, behind a turn of that alone. -/
theorem Hs.tog {w w' : World} {p : Hp} {L : List ByteArray} {E : Ed} {K : List Ck} {n : Nat} (h : Hs w p L E K n) {cs : Array Value} (htb : Box w p.tb cs 78) (ht : Turns (fun k => k = p.tb) w w') (pv : Value) : Hs w' { p with pv := pv } L E K n := by
  obtain ⟨o1, o2, o3, o4, o5⟩ := h.tbOff htb
  obtain ⟨h1, h2, h3, h4, h5, ks, h6, h7⟩ := h
  refine ⟨box_turns h1 ht (fun e => o1 e.symm), row_turns h2 ht (fun x hx e => o4 (by rw [hx, e])), h3.block (ht.block _ h3.lt (fun e => o2 e.symm)), h4.block (ht.block _ h4.lt (fun e => o3 e.symm)), h5, ks, row_turns h6 ht (fun x hx e => o5 (by rw [hx, e])), fun i c hc => ?_⟩
  obtain ⟨v, hv, hcl⟩ := h7 i c hc
  exact ⟨v, hv, hcl.turns ht (fun x hx cs' t hc' => by have hx : x = p.tb := hx; subst hx; rw [htb] at hc'; cases hc'; decide)⟩
/-- What hangs together is known. -/
def Known (w : World) (p : Hp) (N : Nat) (E : Ed) : Prop := ∃ lab c, Fnd N E lab c ∧ LabAt w p.pv N lab ∧ Box w p.tb (found5 c p.pv) 78
theorem one_alloc {w : World} {b : Nat} {cs : Array Value} {t : TypeId} (h : Box w b cs t) (o : Obj) : Box (w.alloc o) b cs t := (Below.heap_alloc _ _ _ (lt_of_block h)).trans h
theorem tog_end {w w' w2 : World} {p : Hp} {L : List ByteArray} {E : Ed} {K : List Ck} {n : Nat} {y3 y4 : Value} (hs : Hs w p L E K n) (htb : Box w p.tb fresh5 78) (q1 : Box w' p.tb (lock5 y3 y4) 78)
    (q2 : TogQ ((w.alloc (Obj.cells #[ptr p.b] 24)).setCell ⟨p.tb, 1, none⟩ (.int .i32 1)) p L.length E y3 y4 w') (q3 : w2 = (w'.drew.setCell ⟨p.tb, 0, none⟩ (.int .u32 1)).setCell ⟨p.tb, 1, none⟩ (.int .i32 0)) :
    Hs w2 { p with pv := y4 } L E K n ∧ Known w2 { p with pv := y4 } L.length E ∧ Turns (fun k => k = p.tb) w w2 ∧ (∀ x, y4.ownBlock = some x → w.heap.size ≤ x) ∧ w2.cell? ⟨w.heap.size, 0, none⟩ = some (ptr p.b) ∧ w2.cell? ⟨p.b, 4, none⟩ = some (ptr p.tb) := by
  obtain ⟨lab, c, rfl, hf, hla, hlo, hT⟩ := q2
  have htl : p.tb < w.heap.size := lt_of_block htb
  have hTa : Turns (fun k => k = p.tb) w (w.alloc (Obj.cells #[ptr p.b] 24)) := alloc_turns w _ _
  have hTl := setCell_turns (w.alloc (Obj.cells #[ptr p.b] 24)) p.tb 1 (.int .i32 1)
  have hTd : Turns (fun k => k = p.tb) w' w'.drew := Turns.of_below (Below.refl _ _).drew _
  have hTe : Turns (fun k => k = p.tb) w' w2 := by
    rw [q3]
    exact (hTd.trans (setCell_turns w'.drew p.tb 0 _)).trans (setCell_turns _ p.tb 1 _)
  have hA : Turns (fun k => k = p.tb) w w2 := ((hTa.trans hTl).trans hT).trans hTe
  have hsz : w.heap.size ≤ ((w.alloc (Obj.cells #[ptr p.b] 24)).setCell ⟨p.tb, 1, none⟩ (.int .i32 1)).heap.size := (hTa.trans hTl).size
  have hs2 := Hs.tog hs htb hA y4
  have hone : One w2 w.heap.size (ptr p.b) 24 := one_turns (one_new w (ptr p.b) 24) ((hTl.trans hT).trans hTe) (by show ¬ w.heap.size = p.tb; omega)
  have hb2 : Box w2 p.tb (found5 c y4) 78 := by
    rw [q3]
    exact box_set (box_set (w := w'.drew) q1 0 (.int .u32 1)) 1 (.int .i32 0)
  refine ⟨hs2, ⟨lab, c, hf, hla.turns hTe (fun x hx e => ?_), hb2⟩, hA, fun x hx => Nat.le_trans hsz (hlo x hx), box_cell hone rfl, (hbox_cells hs2.box).2.2.2.2⟩
  have := hlo x hx
  omega
set_option maxHeartbeats 4000000 in
theorem together_tb {w : World} {p : Hp} {L : List ByteArray} {E : Ed} {K : List Ck} {n : Nat} (h : Hse w p L E K n) (hL : L.length ≤ 100) (hE : EdOk L.length E) :
    Calls Try.prog 40 #[ptr p.b] w fun e w' => e = .returned (ptr p.tb) ∧ ∃ pv, Hs w' { p with pv := pv } L E K n ∧ Known w' { p with pv := pv } L.length E ∧ Turns (fun k => k = p.tb) w w' ∧ (∀ x, pv.ownBlock = some x → p.pv.ownBlock = some x ∨ w.heap.size ≤ x) := by
  obtain ⟨hs, ht⟩ := h
  have HS := hid hs
  have hE51 : ∀ args w, (callFunc 51 args).run Try.prog w = .ok (.enter 51 args) w := enters_of Try.func51 (by kernel_rfl) rfl
  have hmf : ∀ (fn : Fn) (first cap : Array Value) (w : World), (Instr.makeFunc fn first cap).run Try.prog w = .ok (.func fn first cap) w := fun _ _ _ _ => rfl
  have hbl : p.b < w.heap.size := lt_of_block hs.box
  have hbx1 := one_alloc hs.box (Obj.cells #[ptr p.b] 24)
  have c4 : (w.alloc (Obj.cells #[ptr p.b] 24)).cell? ⟨p.b, 4, none⟩ = some (ptr p.tb) := (hbox_cells hbx1).2.2.2.2
  have d0 : (w.alloc (Obj.cells #[ptr p.b] 24)).cell? ⟨w.heap.size, 0, none⟩ = some (ptr p.b) := box_cell (one_new w (ptr p.b) 24) rfl
  have hT1 : Turns (fun _ => False) w (w.alloc (Obj.cells #[ptr p.b] 24)) := alloc_turns w _ _
  have HL : Hid (L.length ≤ 100 ∧ EdOk L.length E) := ⟨hL, hE⟩
  rcases ht with ⟨hpv, htb⟩ | ⟨lab, c, hf, hla, htb⟩
  · have htl : p.tb < w.heap.size := lt_of_block htb
    have htb1 : Box (w.alloc (Obj.cells #[ptr p.b] 24)) p.tb (on5 (.int .u32 0) (.int .i32 0) (.int .u32 0) (.int .i64 0) (.slice none 0 0)) 78 := one_alloc htb _
    have o := hs.tbOff htb
    have hTl := setCell_turns (w.alloc (Obj.cells #[ptr p.b] 24)) p.tb 1 (.int .i32 1)
    have hn1 : ((w.alloc (Obj.cells #[ptr p.b] 24)).setCell ⟨p.tb, 1, none⟩ (.int .i32 1)).ownsRow 0 9 1 p.nv L.length (sv L) := row_turns (row_turns hs.names hT1 (fun _ _ h => h)) hTl (fun x hx e => o.2.2.2.1 (by rw [hx, e]))
    have he1 : EdM ((w.alloc (Obj.cells #[ptr p.b] 24)).setCell ⟨p.tb, 1, none⟩ (.int .i32 1)) p.em n E := by
      have h1 := hs.edges.block (hT1.block _ hs.edges.lt (fun h => h))
      exact EdM.block h1 (hTl.block _ h1.lt (fun e => o.2.2.1 e.symm))
    have hh1 : One ((w.alloc (Obj.cells #[ptr p.b] 24)).setCell ⟨p.tb, 1, none⟩ (.int .i32 1)) w.heap.size (ptr p.b) 24 := one_turns (one_new w (ptr p.b) 24) hTl (by show ¬ w.heap.size = p.tb; omega)
    have C51 := tog1_call (box_turns hbx1 hTl (by show ¬ p.b = p.tb; exact fun e => o.1 e.symm)) hn1 he1 (box_set htb1 1 (.int .i32 1)) hh1 hL hE
    have CD := hid (do_first htb1 hE51 C51)
    have HO := hid o
    have HT := hid htb
    clear hs hpv htb htb1 hTl hn1 he1 hh1 C51 o hL hE
    go_enter Try.func40, Try.ntmps40
    go_wp2_with (first | (go_at_call 50; refine Calls.mono CD.out ?_; rintro e w2 ⟨rfl, y3, y4, w', q1, q2, q3⟩; obtain ⟨r1, r2, r3, r4, r5, r6⟩ := tog_end HS.out HT.out q1 q2 q3; have R1 := hid r1; have R2 := hid r2; have R3 := hid r3; have R4 := hid r4; clear r1 r2 r3 r4 q1 q2 q3) | go_in)
    go_ret
    exact ⟨rfl, y4, R1.out, R2.out, R3.out, fun x hx => Or.inr (R4.out x hx)⟩
  · have htb1 : Box (w.alloc (Obj.cells #[ptr p.b] 24)) p.tb (on5 (.int .u32 1) (.int .i32 0) (.int .u32 0) (.int .i64 (c : Int)) p.pv) 78 := one_alloc htb _
    have CD := hid (fun fv => do_later fv htb1)
    have HT : Hid (Fnd L.length E lab c ∧ LabAt w p.pv L.length lab ∧ Box w p.tb (found5 c p.pv) 78) := ⟨hf, hla, htb⟩
    clear hs htb hf hla htb1 hL hE
    go_enter Try.func40, Try.ntmps40
    go_wp2_with (first | (go_at_call 50; refine Calls.mono (CD.out _) ?_; rintro e w2 ⟨rfl, rfl⟩) | go_in)
    go_ret
    refine ⟨rfl, p.pv, ?_, ⟨lab, c, HT.out.1, HT.out.2.1.turns hT1 (fun _ _ h => h), one_alloc HT.out.2.2 _⟩, hT1.mono fun _ _ h => h.elim, fun x hx => Or.inl hx⟩
    exact Hs.tog HS.out HT.out.2.2 (hT1.mono fun _ _ h => h.elim) p.pv
theorem together_call {w : World} {p : Hp} {L : List ByteArray} {E : Ed} {K : List Ck} {n : Nat} (h : Hse w p L E K n) (hL : L.length ≤ 100) (hE : EdOk L.length E) :
    Calls Try.prog 40 #[ptr p.b] w fun e w' => e = .returned (ptr p.tb) ∧ ∃ pv, Hs w' { p with pv := pv } L E K n ∧ Known w' { p with pv := pv } L.length E ∧ Turns p.mine w w' ∧ (∀ x, pv.ownBlock = some x → p.pv.ownBlock = some x ∨ w.heap.size ≤ x) :=
  (together_tb h hL hE).mono fun _ _ ⟨h1, pv, h2, h3, h4, h5⟩ => ⟨h1, pv, h2, h3, h4.mono fun k _ e => by simp [Hp.mine, e], h5⟩
end Go.Proofs.Ytfdlndljpmamgaa
