/- The document's DeedFault. -/
import Derived.Test.YtfdlndljpmamgaaBuilW
import Derived.Test.YtfdlndljpmamgaaActW
import Derived.Test.YtfdlndljpmamgaaSeen
namespace Go.Proofs.Ytfdlndljpmamgaa
set_option maxRecDepth 8000
open Go.RowKit Go.Maps
attribute [local go_sem ↓] Go.wp_at_zero Go.wp_at_succ
theorem has_eB {N : Nat} {E : Ed} (hE : EdOk N E) {i j : Nat} : hasB (allP N (eB E)) (i : Int) (j : Int) = E (min i j) (max i j) := by
  rw [Bool.eq_iff_iff]
  unfold hasB
  rw [List.any_eq_true]
  constructor
  · rintro ⟨e, he, h⟩
    obtain ⟨u, v, h1, h2, h3, rfl⟩ := allP_mem.1 he
    simp at h
    have h4 : E u v = true := by simpa [eB] using h3
    have e1 : min i j = u := by omega
    have e2 : max i j = v := by omega
    rw [e1, e2]; exact h4
  · intro h
    obtain ⟨h1, h2⟩ := hE _ _ h
    refine ⟨(((min i j : Nat) : Int), ((max i j : Nat) : Int)), allP_mem.2 ⟨_, _, h1, h2, by simpa [eB] using h, rfl⟩, ?_⟩
    simp
    omega
theorem edges_form {w : World} {v : Value} {es : List Pair} (h : EdgesAt w v es) : ∃ ao c, v = .slice ao es.length c := by
  obtain ⟨ao, c, h, _⟩ := h
  exact ⟨ao, c, h⟩
/-- What lies there while a fault is sought. -/
structure FI (w W : World) (b3 b4 b5 : Nat) (k : Int) (sa sb : ByteArray) (m : Nat) (ev nv : Value) (L : List ByteArray) (es : List Pair) : Prop where
  t3 : Box W b3 #[.int .i64 k, .string sa, .string sb] 33
  t4 : Two W b4 (.int .i64 0) (.int .i64 0) 31
  t5 : Two W b5 (.int .i64 (m : Int)) ev 42
  names : StrsAt W nv L
  edges : EdgesAt W ev es
  lo : w.heap.size ≤ b4
  below : Below w.heap.size w W
theorem FI.step {w W W' : World} {b3 b4 b5 : Nat} {k : Int} {sa sb : ByteArray} {m : Nat} {ev nv : Value} {L : List ByteArray} {es : List Pair} (h : FI w W b3 b4 b5 k sa sb m ev nv L es) (hb : Below W.heap.size W W') : FI w W' b3 b4 b5 k sa sb m ev nv L es :=
  ⟨(hb.block _ (lt_of_block h.t3)).trans h.t3, two_next h.t4 hb, two_next h.t5 hb, h.names.below hb, h.edges.below hb, h.lo, below_next h.below hb⟩
theorem FI.fin {w W : World} {b3 b4 b5 : Nat} {k : Int} {sa sb : ByteArray} {m : Nat} {ev nv : Value} {L : List ByteArray} {es : List Pair} (h : FI w W b3 b4 b5 k sa sb m ev nv L es) (c d : Int) :
    ((W.setCell ⟨b4, 0, none⟩ (.int .i64 c)).setCell ⟨b4, 1, none⟩ (.int .i64 d)).cell? ⟨b4, 0, none⟩ = some (.int .i64 c) ∧ ((W.setCell ⟨b4, 0, none⟩ (.int .i64 c)).setCell ⟨b4, 1, none⟩ (.int .i64 d)).cell? ⟨b4, 1, none⟩ = some (.int .i64 d) ∧ Below w.heap.size w ((W.setCell ⟨b4, 0, none⟩ (.int .i64 c)).setCell ⟨b4, 1, none⟩ (.int .i64 d)) := by
  obtain ⟨h1, h2⟩ := cell_two (two_setN (x' := .int .i64 c) (y' := .int .i64 d) h.t4)
  exact ⟨h1, h2, Turns.below h.below ((setCell_turns W b4 0 _).trans (setCell_turns _ b4 1 _)) h.below.size fun k e => by have := h.lo; omega⟩
/-- The fault of a deed about an edge. -/
def faultB (E : Ed) (N i j k : Nat) : Int × Int := if i = N then (10, 0) else if j = N then (10, 1) else if k = 3 then (if E (min i j) (max i j) = true then 0 else 9, 0) else (if i = j then 4 else if E (min i j) (max i j) = true then 5 else 0, 0)
theorem deedF_edge {L : List ByteArray} {E : Ed} {d : Dd} (hk : d.k ≠ 1) : deedF L E d = faultB E L.length (idx L d.a) (idx L d.b) d.k := by
  unfold deedF faultB
  rw [if_neg hk]
set_option maxHeartbeats 1000000 in
theorem fault_call {ds : List Dd} {L : List ByteArray} {E : Ed} {K : List Ck} (hS : Dn ds L E K) (hlen : ds.length ≤ 200) {w : World} {v : Value} (hv : DAt w v ds) (d : Dd) (hk : d.k = 1 ∨ d.k = 2 ∨ d.k = 3) (ha : d.a.size ≤ maxLen) :
    Calls Try.prog 7 #[v, .agg #[.int .i64 (d.k : Int), .string d.a, .string d.b]] w fun e w' => e = .returned (fv (deedF L E d).1 (deedF L E d).2) ∧ Below w.heap.size w w' := by
  obtain ⟨dk, sa, sb⟩ := d
  simp only at hk ha ⊢
  have hl := hS.len
  have hv2 := hv.below (below2 (w := w) (Obj.cells #[.int .i64 (dk : Int), .string sa, .string sb] 33) (Obj.cells #[.int .i64 0, .int .i64 0] 31))
  have HB := hid (built_call hS hlen hv2)
  have HS := hid hS
  obtain ⟨⟨c1, c2⟩, hF⟩ : ∃ F : Int × Int, deedF L E ⟨dk, sa, sb⟩ = F := ⟨_, rfl⟩
  have HF := hid hF
  rw [hF]
  simp only
  clear hS hv hv2 hF
  go_enter Try.func7, Try.ntmps7
  go_upto_region 2 with (go_at_call 12; refine Calls.mono HB.out ?_; rintro e w2 ⟨ev, nv, rfl, hE, hN, hB2⟩; obtain ⟨eo, ec, rfl⟩ := edges_form hE; obtain ⟨no, nc, rfl⟩ := form_own hN)
  have hFI : FI w (w2.alloc (Obj.cells #[.int .i64 (L.length : Int), .slice eo (allP L.length (eB E)).length ec] 42)) w.heap.size (w.heap.size + 1) w2.heap.size (dk : Int) sa sb L.length (.slice eo (allP L.length (eB E)).length ec) (.slice no L.length nc) L (allP L.length (eB E)) := by
    have hB3 := below_next hB2 (below_alloc (Below.refl _ w2) (Obj.cells #[.int .i64 (L.length : Int), .slice eo (allP L.length (eB E)).length ec] 42))
    refine ⟨?_, two_next (two_nxt w _ _ _ 31) hB3, two_new w2 _ _ 42, (strs_own (own_low hN (Nat.zero_le _))).below (below_alloc (Below.refl _ _) _), hE.below (below_alloc (Below.refl _ _) _), by omega, below_next (below2 _ _) hB3⟩
    refine (hB3.block _ (by simp; omega)).trans ?_
    rw [Below.heap_alloc _ _ _ (by simp)]
    exact heap_alloc_new _ _
  have hcnt := HS.out.count
  clear HB hE hN hB2
  generalize w2.alloc (Obj.cells #[.int .i64 (L.length : Int), .slice eo (allP L.length (eB E)).length ec] 42) = W at *
  generalize w.heap.size + 1 = b4 at *
  obtain ⟨b3, hb3⟩ : ∃ b, b = w.heap.size := ⟨_, rfl⟩
  rw [← hb3] at hFI ⊢
  clear hb3
  generalize w2.heap.size = b5 at *
  have a0 := box_cell (i := 0) hFI.t3 rfl
  have a1 := box_cell (i := 1) hFI.t3 rfl
  have a2 := box_cell (i := 2) hFI.t3 rfl
  obtain ⟨x0, x1⟩ := cell_two hFI.t4
  have y0 := free_two hFI.t4 0
  have y1 := free_two hFI.t4 1
  obtain ⟨g0, g1⟩ := cell_two hFI.t5
  have HFI := hid hFI
  have NA : Hid (∀ q, Calls Try.prog 13 #[.slice no L.length nc, .string sa] (W.drewN q) fun e w' => e = .returned (.int .i64 (idx L sa : Int)) ∧ w' = W.drewN q) := fun q => named_call (hFI.names.below (drewN_below _ _)) (by omega) sa
  have NB : Hid (∀ q, Calls Try.prog 13 #[.slice no L.length nc, .string sb] (W.drewN q) fun e w' => e = .returned (.int .i64 (idx L sb : Int)) ∧ w' = W.drewN q) := fun q => named_call (hFI.names.below (drewN_below _ _)) (by omega) sb
  have hHas := hid (fun (W' : World) (h : Below W.heap.size W W') => refHas_any (L.length : Int) (.slice eo (allP L.length (eB E)).length ec) (allP L.length (eB E)) (idx L sa : Int) (idx L sb : Int) W' (hFI.edges.below h))
  have HED := hid HS.out.ed
  have HCN := hid hcnt
  have la := idx_le L sa
  have lb := idx_le L sb
  clear hFI hcnt HS
  by_cases hk1 : dk = 1
  · subst hk1
    have NA0 : Hid (Calls Try.prog 13 #[.slice no L.length nc, .string sa] W fun e w' => e = .returned (.int .i64 (idx L sa : Int)) ∧ w' = W) := NA.out 0
    have e1 : deedF L E ⟨1, sa, sb⟩ = (nodeF L sa, 0) := by unfold deedF; rw [if_pos rfl]
    rw [e1] at HF
    have HF : Hid ((nodeF L sa, (0 : Int)) = (c1, c2)) := HF
    by_cases hn : nameB sa = false
    · have hf : nodeF L sa = 10 := by unfold nodeF; rw [if_pos hn]
      obtain ⟨rfl, rfl⟩ : 10 = c1 ∧ 0 = c2 := by have := HF.out; rw [hf] at this; exact Prod.mk.inj this
      have HN : Hid (∀ w, Calls Try.prog 28 #[.string sa] w fun e w' => e = .returned (.bool false) ∧ w' = w) := fun w => by rw [← hn]; exact house_call sa w
      clear NA NB NA0 hHas e1 HF hn hf
      go_wp2_with (first | (go_at_call 28; refine Calls.mono (HN.out _) ?_; rintro e w' ⟨rfl, rfl⟩) | (go_at_call 13; refine Calls.mono NA0.out ?_; rintro e w' ⟨rfl, rfl⟩) | (go_at_call 29; refine Calls.mono HH.out ?_; rintro e w8 ⟨rfl, h8⟩; replace HFI := hid (HFI.out.step h8); clear HH h8; have x0 := (cell_two HFI.out.t4).1; have x1 := (cell_two HFI.out.t4).2; have y0 := free_two HFI.out.t4 0; have y1 := free_two HFI.out.t4 1; have a0 := box_cell (i := 0) HFI.out.t3 rfl; have g0 := (cell_two HFI.out.t5).1; have g1 := (cell_two HFI.out.t5).2) | (go_at_call 11; refine Calls.mono (refF_any _ _ _) ?_; rintro e w9 ⟨rfl, h9⟩; have hf := HFI.out.step h9; obtain ⟨p0, p1⟩ := cell_two hf.t4; have q0 := free_two hf.t4 0; have q1 := free_two hf.t4 1; have HF9 := hid hf; clear hf))
      obtain ⟨z0, z1, z2⟩ := HF9.out.fin 10 0
      exact bodyPost_ret (v := fv 10 0) (by simp [results, Try.results7, go_sem, z0, z1]) rfl ⟨rfl, z2⟩
    · have hn : nameB sa = true := by simpa using hn
      have HN : Hid (∀ w, Calls Try.prog 28 #[.string sa] w fun e w' => e = .returned (.bool true) ∧ w' = w) := fun w => by rw [← hn]; exact house_call sa w
      have hnf : ¬ nameB sa = false := by rw [hn]; decide
      clear NA NB hHas e1
      by_cases hi : idx L sa < L.length
      · have hf : nodeF L sa = 5 := by unfold nodeF; rw [if_neg hnf, if_pos hi]
        obtain ⟨rfl, rfl⟩ : 5 = c1 ∧ 0 = c2 := by have := HF.out; rw [hf] at this; exact Prod.mk.inj this
        clear HF hn hf hnf
        generalize idx L sa = i at *
        go_wp2_with (first | (go_at_call 28; refine Calls.mono (HN.out _) ?_; rintro e w' ⟨rfl, rfl⟩) | (go_at_call 13; refine Calls.mono NA0.out ?_; rintro e w' ⟨rfl, rfl⟩) | (go_at_call 29; refine Calls.mono HH.out ?_; rintro e w8 ⟨rfl, h8⟩; replace HFI := hid (HFI.out.step h8); clear HH h8; have x0 := (cell_two HFI.out.t4).1; have x1 := (cell_two HFI.out.t4).2; have y0 := free_two HFI.out.t4 0; have y1 := free_two HFI.out.t4 1; have a0 := box_cell (i := 0) HFI.out.t3 rfl; have g0 := (cell_two HFI.out.t5).1; have g1 := (cell_two HFI.out.t5).2) | (go_at_call 11; refine Calls.mono (refF_any _ _ _) ?_; rintro e w9 ⟨rfl, h9⟩; have hf := HFI.out.step h9; obtain ⟨p0, p1⟩ := cell_two hf.t4; have q0 := free_two hf.t4 0; have q1 := free_two hf.t4 1; have HF9 := hid hf; clear hf))
        obtain ⟨z0, z1, z2⟩ := HF9.out.fin 5 0
        exact bodyPost_ret (v := fv 5 0) (by simp [results, Try.results7, go_sem, z0, z1]) rfl ⟨rfl, z2⟩
      · by_cases h100 : L.length = 100
        · have hf : nodeF L sa = 2 := by unfold nodeF; rw [if_neg hnf, if_neg hi, if_pos h100]
          obtain ⟨rfl, rfl⟩ : 2 = c1 ∧ 0 = c2 := by have := HF.out; rw [hf] at this; exact Prod.mk.inj this
          have z9 : ((L.length : Int) == 100) = true := by simp; omega
          clear HF hn hf hnf h100
          generalize idx L sa = i at *
          go_wp2_with (first | (go_at_call 28; refine Calls.mono (HN.out _) ?_; rintro e w' ⟨rfl, rfl⟩) | (go_at_call 13; refine Calls.mono NA0.out ?_; rintro e w' ⟨rfl, rfl⟩) | (go_at_call 29; refine Calls.mono HH.out ?_; rintro e w8 ⟨rfl, h8⟩; replace HFI := hid (HFI.out.step h8); clear HH h8; have x0 := (cell_two HFI.out.t4).1; have x1 := (cell_two HFI.out.t4).2; have y0 := free_two HFI.out.t4 0; have y1 := free_two HFI.out.t4 1; have a0 := box_cell (i := 0) HFI.out.t3 rfl; have g0 := (cell_two HFI.out.t5).1; have g1 := (cell_two HFI.out.t5).2) | (go_at_call 11; refine Calls.mono (refF_any _ _ _) ?_; rintro e w9 ⟨rfl, h9⟩; have hf := HFI.out.step h9; obtain ⟨p0, p1⟩ := cell_two hf.t4; have q0 := free_two hf.t4 0; have q1 := free_two hf.t4 1; have HF9 := hid hf; clear hf))
          obtain ⟨z0, z1, z2⟩ := HF9.out.fin 2 0
          exact bodyPost_ret (v := fv 2 0) (by simp [results, Try.results7, go_sem, z0, z1]) rfl ⟨rfl, z2⟩
        · have hf : nodeF L sa = 0 := by unfold nodeF; rw [if_neg hnf, if_neg hi, if_neg h100]
          obtain ⟨rfl, rfl⟩ : 0 = c1 ∧ 0 = c2 := by have := HF.out; rw [hf] at this; exact Prod.mk.inj this
          have z9 : ((L.length : Int) == 100) = false := by simp; omega
          clear HF hn hf hnf
          generalize idx L sa = i at *
          go_wp2_with (first | (go_at_call 28; refine Calls.mono (HN.out _) ?_; rintro e w' ⟨rfl, rfl⟩) | (go_at_call 13; refine Calls.mono NA0.out ?_; rintro e w' ⟨rfl, rfl⟩) | (go_at_call 29; refine Calls.mono HH.out ?_; rintro e w8 ⟨rfl, h8⟩; replace HFI := hid (HFI.out.step h8); clear HH h8; have x0 := (cell_two HFI.out.t4).1; have x1 := (cell_two HFI.out.t4).2; have y0 := free_two HFI.out.t4 0; have y1 := free_two HFI.out.t4 1; have a0 := box_cell (i := 0) HFI.out.t3 rfl; have g0 := (cell_two HFI.out.t5).1; have g1 := (cell_two HFI.out.t5).2))
          obtain ⟨z0, z1, z2⟩ := HFI.out.fin 0 0
          exact bodyPost_ret (v := fv 0 0) (by simp [results, Try.results7, go_sem, z0, z1]) rfl ⟨rfl, z2⟩
  · have z1 : ((dk : Int) == 1) = false := by simp; omega
    rw [deedF_edge (by simpa using hk1)] at HF
    have HF : Hid (faultB E L.length (idx L sa) (idx L sb) dk = (c1, c2)) := HF
    go_upto_region 10 with (fail)
    go_quiet (first | (go_at_call 13; with_reducible exact Calls.quiet_of_same (NA.out _)) | (go_at_call 13; with_reducible exact Calls.quiet_of_same (NB.out _)))
    replace HFI := hid (HFI.out.step (drewN_below W nq))
    have HH := hid (hHas.out (W.drewN nq) (drewN_below W nq))
    rw [has_eB HED.out] at HH
    clear NA NB hHas a0 a1 a2 x0 x1 y0 y1 g0 g1
    generalize W.drewN nq = W1 at *
    have a0 := box_cell (i := 0) HFI.out.t3 rfl
    have x0 := (cell_two HFI.out.t4).1
    have x1 := (cell_two HFI.out.t4).2
    have y0 := free_two HFI.out.t4 0
    have y1 := free_two HFI.out.t4 1
    have g0 := (cell_two HFI.out.t5).1
    have g1 := (cell_two HFI.out.t5).2
    generalize idx L sa = i at *
    generalize idx L sb = j at *
    by_cases hi : i = L.length
    · obtain ⟨rfl, rfl⟩ : 10 = c1 ∧ 0 = c2 := by have := HF.out; unfold faultB at this; rw [if_pos hi] at this; exact Prod.mk.inj this
      clear HF HH
      subst hi
      go_wp2_with (first | (go_at_call 28; refine Calls.mono (HN.out _) ?_; rintro e w' ⟨rfl, rfl⟩) | (go_at_call 13; refine Calls.mono NA0.out ?_; rintro e w' ⟨rfl, rfl⟩) | (go_at_call 29; refine Calls.mono HH.out ?_; rintro e w8 ⟨rfl, h8⟩; replace HFI := hid (HFI.out.step h8); clear HH h8; have x0 := (cell_two HFI.out.t4).1; have x1 := (cell_two HFI.out.t4).2; have y0 := free_two HFI.out.t4 0; have y1 := free_two HFI.out.t4 1; have a0 := box_cell (i := 0) HFI.out.t3 rfl; have g0 := (cell_two HFI.out.t5).1; have g1 := (cell_two HFI.out.t5).2) | (go_at_call 11; refine Calls.mono (refF_any _ _ _) ?_; rintro e w9 ⟨rfl, h9⟩; have hf := HFI.out.step h9; obtain ⟨p0, p1⟩ := cell_two hf.t4; have q0 := free_two hf.t4 0; have q1 := free_two hf.t4 1; have HF9 := hid hf; clear hf))
      obtain ⟨z0, z1, z2⟩ := HF9.out.fin 10 0
      exact bodyPost_ret (v := fv 10 0) (by simp [results, Try.results7, go_sem, z0, z1]) rfl ⟨rfl, z2⟩
    · by_cases hj : j = L.length
      · obtain ⟨rfl, rfl⟩ : 10 = c1 ∧ 1 = c2 := by have := HF.out; unfold faultB at this; rw [if_neg hi, if_pos hj] at this; exact Prod.mk.inj this
        clear HF HH
        subst hj
        go_wp2_with (first | (go_at_call 28; refine Calls.mono (HN.out _) ?_; rintro e w' ⟨rfl, rfl⟩) | (go_at_call 13; refine Calls.mono NA0.out ?_; rintro e w' ⟨rfl, rfl⟩) | (go_at_call 29; refine Calls.mono HH.out ?_; rintro e w8 ⟨rfl, h8⟩; replace HFI := hid (HFI.out.step h8); clear HH h8; have x0 := (cell_two HFI.out.t4).1; have x1 := (cell_two HFI.out.t4).2; have y0 := free_two HFI.out.t4 0; have y1 := free_two HFI.out.t4 1; have a0 := box_cell (i := 0) HFI.out.t3 rfl; have g0 := (cell_two HFI.out.t5).1; have g1 := (cell_two HFI.out.t5).2) | (go_at_call 11; refine Calls.mono (refF_any _ _ _) ?_; rintro e w9 ⟨rfl, h9⟩; have hf := HFI.out.step h9; obtain ⟨p0, p1⟩ := cell_two hf.t4; have q0 := free_two hf.t4 0; have q1 := free_two hf.t4 1; have HF9 := hid hf; clear hf))
        obtain ⟨z0, z1, z2⟩ := HF9.out.fin 10 1
        exact bodyPost_ret (v := fv 10 1) (by simp [results, Try.results7, go_sem, z0, z1]) rfl ⟨rfl, z2⟩
      · generalize hr : E (min i j) (max i j) = r at HH
        by_cases hk3 : dk = 3
        · cases r with
          | false =>
            obtain ⟨rfl, rfl⟩ : 9 = c1 ∧ 0 = c2 := by have := HF.out; unfold faultB at this; rw [if_neg hi, if_neg hj, if_pos hk3, hr, if_neg (by decide)] at this; exact Prod.mk.inj this
            clear HF hr
            subst hk3
            go_wp2_with (first | (go_at_call 28; refine Calls.mono (HN.out _) ?_; rintro e w' ⟨rfl, rfl⟩) | (go_at_call 13; refine Calls.mono NA0.out ?_; rintro e w' ⟨rfl, rfl⟩) | (go_at_call 29; refine Calls.mono HH.out ?_; rintro e w8 ⟨rfl, h8⟩; replace HFI := hid (HFI.out.step h8); clear HH h8; have x0 := (cell_two HFI.out.t4).1; have x1 := (cell_two HFI.out.t4).2; have y0 := free_two HFI.out.t4 0; have y1 := free_two HFI.out.t4 1; have a0 := box_cell (i := 0) HFI.out.t3 rfl; have g0 := (cell_two HFI.out.t5).1; have g1 := (cell_two HFI.out.t5).2) | (go_at_call 11; refine Calls.mono (refF_any _ _ _) ?_; rintro e w9 ⟨rfl, h9⟩; have hf := HFI.out.step h9; obtain ⟨p0, p1⟩ := cell_two hf.t4; have q0 := free_two hf.t4 0; have q1 := free_two hf.t4 1; have HF9 := hid hf; clear hf))
            obtain ⟨z0, z1, z2⟩ := HF9.out.fin 9 0
            exact bodyPost_ret (v := fv 9 0) (by simp [results, Try.results7, go_sem, z0, z1]) rfl ⟨rfl, z2⟩
          | true =>
            obtain ⟨rfl, rfl⟩ : 0 = c1 ∧ 0 = c2 := by have := HF.out; unfold faultB at this; rw [if_neg hi, if_neg hj, if_pos hk3, hr, if_pos rfl] at this; exact Prod.mk.inj this
            clear HF hr
            subst hk3
            go_wp2_with (first | (go_at_call 28; refine Calls.mono (HN.out _) ?_; rintro e w' ⟨rfl, rfl⟩) | (go_at_call 13; refine Calls.mono NA0.out ?_; rintro e w' ⟨rfl, rfl⟩) | (go_at_call 29; refine Calls.mono HH.out ?_; rintro e w8 ⟨rfl, h8⟩; replace HFI := hid (HFI.out.step h8); clear HH h8; have x0 := (cell_two HFI.out.t4).1; have x1 := (cell_two HFI.out.t4).2; have y0 := free_two HFI.out.t4 0; have y1 := free_two HFI.out.t4 1; have a0 := box_cell (i := 0) HFI.out.t3 rfl; have g0 := (cell_two HFI.out.t5).1; have g1 := (cell_two HFI.out.t5).2))
            obtain ⟨z0, z1, z2⟩ := HFI.out.fin 0 0
            exact bodyPost_ret (v := fv 0 0) (by simp [results, Try.results7, go_sem, z0, z1]) rfl ⟨rfl, z2⟩
        · have z3 : ((dk : Int) == 3) = false := by simp; omega
          by_cases hij : i = j
          · obtain ⟨rfl, rfl⟩ : 4 = c1 ∧ 0 = c2 := by have := HF.out; unfold faultB at this; rw [if_neg hi, if_neg hj, if_neg hk3, if_pos hij] at this; exact Prod.mk.inj this
            clear HF hr HH
            subst hij
            go_wp2_with (first | (go_at_call 28; refine Calls.mono (HN.out _) ?_; rintro e w' ⟨rfl, rfl⟩) | (go_at_call 13; refine Calls.mono NA0.out ?_; rintro e w' ⟨rfl, rfl⟩) | (go_at_call 29; refine Calls.mono HH.out ?_; rintro e w8 ⟨rfl, h8⟩; replace HFI := hid (HFI.out.step h8); clear HH h8; have x0 := (cell_two HFI.out.t4).1; have x1 := (cell_two HFI.out.t4).2; have y0 := free_two HFI.out.t4 0; have y1 := free_two HFI.out.t4 1; have a0 := box_cell (i := 0) HFI.out.t3 rfl; have g0 := (cell_two HFI.out.t5).1; have g1 := (cell_two HFI.out.t5).2) | (go_at_call 11; refine Calls.mono (refF_any _ _ _) ?_; rintro e w9 ⟨rfl, h9⟩; have hf := HFI.out.step h9; obtain ⟨p0, p1⟩ := cell_two hf.t4; have q0 := free_two hf.t4 0; have q1 := free_two hf.t4 1; have HF9 := hid hf; clear hf))
            obtain ⟨z0, z1, z2⟩ := HF9.out.fin 4 0
            exact bodyPost_ret (v := fv 4 0) (by simp [results, Try.results7, go_sem, z0, z1]) rfl ⟨rfl, z2⟩
          · cases r with
            | true =>
              obtain ⟨rfl, rfl⟩ : 5 = c1 ∧ 0 = c2 := by have := HF.out; unfold faultB at this; rw [if_neg hi, if_neg hj, if_neg hk3, if_neg hij, hr, if_pos rfl] at this; exact Prod.mk.inj this
              clear HF hr
              go_wp2_with (first | (go_at_call 28; refine Calls.mono (HN.out _) ?_; rintro e w' ⟨rfl, rfl⟩) | (go_at_call 13; refine Calls.mono NA0.out ?_; rintro e w' ⟨rfl, rfl⟩) | (go_at_call 29; refine Calls.mono HH.out ?_; rintro e w8 ⟨rfl, h8⟩; replace HFI := hid (HFI.out.step h8); clear HH h8; have x0 := (cell_two HFI.out.t4).1; have x1 := (cell_two HFI.out.t4).2; have y0 := free_two HFI.out.t4 0; have y1 := free_two HFI.out.t4 1; have a0 := box_cell (i := 0) HFI.out.t3 rfl; have g0 := (cell_two HFI.out.t5).1; have g1 := (cell_two HFI.out.t5).2) | (go_at_call 11; refine Calls.mono (refF_any _ _ _) ?_; rintro e w9 ⟨rfl, h9⟩; have hf := HFI.out.step h9; obtain ⟨p0, p1⟩ := cell_two hf.t4; have q0 := free_two hf.t4 0; have q1 := free_two hf.t4 1; have HF9 := hid hf; clear hf))
              obtain ⟨z0, z1, z2⟩ := HF9.out.fin 5 0
              exact bodyPost_ret (v := fv 5 0) (by simp [results, Try.results7, go_sem, z0, z1]) rfl ⟨rfl, z2⟩
            | false =>
              obtain ⟨rfl, rfl⟩ : 0 = c1 ∧ 0 = c2 := by have := HF.out; unfold faultB at this; rw [if_neg hi, if_neg hj, if_neg hk3, if_neg hij, hr, if_neg (by decide)] at this; exact Prod.mk.inj this
              clear HF hr
              have z9 : (((allP L.length (eB E)).length : Int) == 1000) = false := by have := HCN.out; simp; omega
              have z10 : ¬ (allP L.length (eB E)).length = 1000 := by have := HCN.out; omega
              go_wp2_with (first | (go_at_call 28; refine Calls.mono (HN.out _) ?_; rintro e w' ⟨rfl, rfl⟩) | (go_at_call 13; refine Calls.mono NA0.out ?_; rintro e w' ⟨rfl, rfl⟩) | (go_at_call 29; refine Calls.mono HH.out ?_; rintro e w8 ⟨rfl, h8⟩; replace HFI := hid (HFI.out.step h8); clear HH h8; have x0 := (cell_two HFI.out.t4).1; have x1 := (cell_two HFI.out.t4).2; have y0 := free_two HFI.out.t4 0; have y1 := free_two HFI.out.t4 1; have a0 := box_cell (i := 0) HFI.out.t3 rfl; have g0 := (cell_two HFI.out.t5).1; have g1 := (cell_two HFI.out.t5).2))
              obtain ⟨z0, z1, z2⟩ := HFI.out.fin 0 0
              exact bodyPost_ret (v := fv 0 0) (by simp [results, Try.results7, go_sem, z0, z1]) rfl ⟨rfl, z2⟩
end Go.Proofs.Ytfdlndljpmamgaa
