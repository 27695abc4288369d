/- Cover: of a graph with two sides a greatest matching, and a cover with as many nodes. -/
import Derived.Test.YtenjkhgpfmfgmaaDoorSortW
import Derived.Test.YtenjkhgpfmfgmaaDoorStarM
namespace Go.Proofs.YtenjkhgpfmfgmaaDoor
open Go.RowKit Go.Maps
attribute [local go_sem ↓] Go.wp_at_zero Go.wp_at_succ

theorem PB.past {W2 W3 wx : World} {bp g bm N : Nat} {ls : Nat → List Nat} {m : Nat → Option Nat} (h2 : PB W2 bp g bm N ls m) (h3 : PB W3 bp g bm N ls m) (T : Turns (fun k => k = bp) W2 W3) (hb : Below W2.heap.size W3 wx) : PB wx bp g bm N ls m := by
  obtain ⟨eo, en, ec, fo, fn, fc, bo, bn, bc, qo, qn, qc, hbox2⟩ := h2.box
  obtain ⟨eo, en, ec, fo, fn, fc, bo, bn, bc, qo, qn, qc, hbox⟩ := h3.box
  have hl := lt_of_block hbox2
  have ht : Turns (fun k => k = bp) W2 wx := ⟨hb.os.trans T.os, hb.tape.trans T.tape, hb.output.trans T.output, Nat.le_trans T.size hb.size, fun k hk hn => (hb.block k hk).trans (T.block k hk hn)⟩
  exact ⟨⟨_, _, _, _, _, _, _, _, _, _, _, _, (hb.block bp hl).trans hbox⟩, (h2.near.turns ht (fun _ h => Or.inl h)).mono ht.size, h2.mate.turns ht h2.ne, h2.ne⟩

/-- Which side, by how far. -/
def sgF (far : Nat → Nat) (x : Nat) : Bool := decide (far x % 2 = 1)
theorem sgF_ne {N : Nat} {es : List Pair} {R : Nat → Nat → Bool} {far : Nat → Nat} (h : FarAll N (pn (hasB es)) R far N) (hR : ∀ v x, R v x = true ↔ Star (St N (pn (hasB es)) allB) v x) (hf : ∀ a b, a < N → b < N → pn (hasB es) a b = true → far a ≠ far b) {a b : Nat} (he : Ef N es a b) : sgF far a ≠ sgF far b := by
  obtain ⟨ha, hb, hab⟩ := he
  have h1 := hf a b ha hb hab
  have h2 := h.near hR ha hb hab
  have h3 := h.near hR hb ha (pn_symm es N a b ha hb hab)
  unfold sgF
  intro e
  rw [decide_eq_decide] at e
  omega

/-- What Cover tells of a graph in form. -/
def CoverTo (N : Nat) (es : List Pair) (far : Nat → Nat) (base : Nat) (w' : World) (v1 v2 : Value) (c : Int) : Prop :=
  ((∃ a b, a < N ∧ b < N ∧ pn (hasB es) a b = true ∧ far a = far b) ∧ v1 = .slice none 0 0 ∧ v2 = .slice none 0 0 ∧ c = 8) ∨
  ((∀ a b, a < N → b < N → pn (hasB es) a b = true → far a ≠ far b) ∧ c = 0 ∧ ∃ (m : Nat → Option Nat) (S : Nat → Bool), Mat N (Ef N es) m ∧ (listN N S).length = (prs m N).length ∧ (∀ a b, Ef N es a b → S a = true ∨ S b = true) ∧ w'.ownsRow base 50 2 v1 (prs m N).length (flat (prs m N)) ∧ w'.ownsRow base 3 1 v2 (listN N S).length (qv (listN N S)))

theorem take_filter_succ {C : List Nat} {t v : Nat} (p : Nat → Bool) (h : C[t]? = some v) : (C.take (t + 1)).filter p = (C.take t).filter p ++ (if p v = true then [v] else []) := by
  obtain ⟨h1, h2⟩ := List.getElem?_eq_some_iff.1 h
  rw [List.take_succ_eq_append_getElem h1, h2, List.filter_append]
  congr 1
  by_cases e : p v = true <;> simp [e]

set_option maxRecDepth 4000 in
set_option maxHeartbeats 8000000 in
theorem cover_ok (N : Nat) (vo : Option Addr) (vc : Nat) (es : List Pair) (w : World) (hE : EdgesAt w (.slice vo es.length vc) es) (hc : (chk N es).1 = 0) (R : Nat → Nat → Bool) (hR : ∀ v x, R v x = true ↔ Star (St N (pn (hasB es)) allB) v x) :
    Calls Tryd.prog 19 #[.agg #[.int .i64 (N : Int), .slice vo es.length vc]] w fun r w' => ∃ v1 v2 c far, r = .returned (.tuple #[v1, v2, .agg #[.int .i64 c, .int .i64 0]]) ∧ FarAll N (pn (hasB es)) R far N ∧ Below w.heap.size w w' ∧ CoverTo N es far w.heap.size w' v1 v2 c := by
  obtain ⟨hck0, hn0, hn1, hle, hgood⟩ := chk_good (n := (N : Int)) (es := es) hc
  have hN : N ≤ 100 := by omega
  have hsd := sides_ok N vo vc es _ (hE.below (below2 (w := w) (Obj.cells #[.int .i64 (N : Int), .slice vo es.length vc] 24) (Obj.cells #[.int .i64 0, .int .i64 0] 27))) hc R hR
  have HSD : Hid _ := hsd
  have HE : Hid _ := hE
  have HR : Hid _ := hR
  have HGD : Hid _ := hgood
  clear hsd hE hR hgood hck0 hc
  go_enter Tryd.func19, Tryd.ntmps19
  go_upto_region 2 with (go_at_call 32; refine Calls.mono HSD.out ?_; rintro e w1 ⟨v1, v2, far, rfl, hs, hb⟩; have t4' := two_next (two_new1 w (Obj.cells #[.int .i64 (N : Int), .slice vo es.length vc] 24) (.int .i64 0) (.int .i64 0) 27) hb; obtain ⟨y1, y2⟩ := cell_two t4'; have f1 := free_two t4' 0; have f2 := free_two t4' 1)
  obtain ⟨hfar, hs⟩ := hs
  have t4 := two_setN (x' := .int .i64 0) (y' := .int .i64 0) t4'
  have t1 : Two ((w1.setCell ⟨w.heap.size + 1, 0, none⟩ (.int .i64 0)).setCell ⟨w.heap.size + 1, 1, none⟩ (.int .i64 0)) w.heap.size (.int .i64 (N : Int)) (.slice vo es.length vc) 24 := two_far (two_far (two_next (two_alloc (two_new w _ _ _) _) hb) (by omega)) (by omega)
  have hB := ((below_next (below2 (w := w) (Obj.cells #[.int .i64 (N : Int), .slice vo es.length vc] 24) (Obj.cells #[.int .i64 0, .int .i64 0] 27)) hb).setCell (p := ⟨w.heap.size + 1, 0, none⟩) (by simp) (.int .i64 0)).setCell (p := ⟨w.heap.size + 1, 1, none⟩) (by simp) (.int .i64 0)
  have hbz : ((w.alloc (Obj.cells #[.int .i64 (N : Int), .slice vo es.length vc] 24)).alloc (Obj.cells #[.int .i64 0, .int .i64 0] 27)).heap.size = w.heap.size + 2 := by simp
  rw [hbz] at hs
  have hne0 : ∀ k, k ≠ w.heap.size + 1 → ((w1.setCell ⟨w.heap.size + 1, 0, none⟩ (.int .i64 0)).setCell ⟨w.heap.size + 1, 1, none⟩ (.int .i64 0)).heap[k]? = w1.heap[k]? := fun k hk => by
    rw [Below.heap_setCell _ _ _ _ hk, Below.heap_setCell _ _ _ _ hk]
  have HFAR : Hid _ := hfar
  rcases hs with ⟨rfl, hs1, hs2⟩ | ⟨rfl, ⟨g2, n2, c2, rg, rfl, hn2, hod2, _⟩, hs2⟩
  · have hs3 := ownsRow_blocks hs1 (w' := (w1.setCell ⟨w.heap.size + 1, 0, none⟩ (.int .i64 0)).setCell ⟨w.heap.size + 1, 1, none⟩ (.int .i64 0)) (fun k hk => hne0 k (by have := (World.ownsRow.lt hs1 k hk).1; omega))
    have HS2 : Hid _ := hs2
    have HS3 : Hid _ := hs3
    clear hs1 hs2 hs3 hfar hb t4' y1 y2 f1 f2 HSD hne0 hbz
    generalize (w1.setCell ⟨w.heap.size + 1, 0, none⟩ (.int .i64 0)).setCell ⟨w.heap.size + 1, 1, none⟩ (.int .i64 0) = W at t1 t4 hB HS3 ⊢
    obtain ⟨x1, x2⟩ := cell_two t1
    obtain ⟨y1, y2⟩ := cell_two t4
    have hl4 := lt_of_block t4
    have HPU : Hid _ := pairUp_call (N := N) vo vc es W (EdgesAt.below HE.out hB) hN hle HGD.out
    go_upto_region 7 with (go_at_call 27; refine Calls.mono HPU.out ?_; rintro e W2 ⟨bp, rfl, hbp, hB2, g, bm, m, hpb, hnm, hmat, htr⟩)
    have hnb := nbs_of HGD.out hle
    have HSP : Hid _ := split_call2 hpb hN hmat hnb htr
    have HP2 : Hid _ := hpb
    have t42 := two_next t4 hB2
    have hBW := below_next hB hB2
    have HM : Hid _ := hmat
    have HNB : Hid _ := hnb
    have hs4 := ownsRow_blocks HS3.out (w' := W2) (fun k hk => hB2.block k (World.ownsRow.lt HS3.out k hk).2)
    have HS4 : Hid _ := hs4
    have hzW : w.heap.size ≤ W.heap.size := hB.size
    have hzW2 : W.heap.size ≤ W2.heap.size := hB2.size
    have hsl : ∀ k, v1.ownBlock = some k → k < W.heap.size := fun k hk => (World.ownsRow.lt HS3.out k hk).2
    clear hpb hnm hmat htr hnb t1 t4 x1 x2 y1 y2 hB hB2 hs4 HS3 HPU
    go_upto_region 8 with (go_at_call 28; refine Calls.mono HSP.out ?_; rintro e W3 ⟨dv, av, cv, rfl, hpb3, hT3, evs, Ods, ks, dB, nB, hkn, hod, hoa, hoc, hac⟩)
    have t43 : Two W3 (w.heap.size + 1) (.int .i64 0) (.int .i64 0) 27 := two_turns t42 hT3 (fun (e : w.heap.size + 1 = bp) => by omega)
    have hB3 : Below w.heap.size w W3 := hT3.below hBW hBW.size (fun k e => by omega)
    have hs5 := ownsRow_blocks HS4.out (w' := W3) (fun k hk => hT3.block k (World.ownsRow.lt HS4.out k hk).2 (fun e => by have := hsl k hk; omega))
    have hz4 := lt_of_block t42
    obtain ⟨A, hA⟩ : ∃ A, A = listN N fun x => !dB x && nB x := ⟨_, rfl⟩
    obtain ⟨C, hC⟩ : ∃ C, C = listN N fun x => !dB x && !nB x := ⟨_, rfl⟩
    rw [← hA] at hoa
    rw [← hC] at hoc
    have hAl : A.length ≤ N := by rw [hA]; exact listN_len _ _
    have hCl : C.length ≤ N := by rw [hC]; exact listN_len _ _
    have hClt : ∀ v ∈ C, v < N := fun v hv => by rw [hC] at hv; simp [listN] at hv; exact hv.1
    have hthr0 : Thr W3 W2.heap.size av cv (.slice none 0 0) A C [] := ⟨hoa, hoc, World.ownsRow_nil _ _ _ _, hac, fun k _ h => by simp [Value.ownBlock] at h, fun k h => by simp [Value.ownBlock] at h⟩
    obtain ⟨so, sc, rfl⟩ := form_row hoa
    obtain ⟨co, cc, rfl⟩ := form_row hoc
    obtain ⟨s1o, s1c, rfl⟩ := form_row hs5
    have HKN : Hid _ := hkn
    have HT3 : Hid _ := hT3
    have HPB3 : Hid _ := hpb3
    have HTH : Hid _ := hthr0
    have HS5 : Hid _ := hs5
    have HA : Hid _ := hA
    have HC : Hid _ := hC
    have HCLT : Hid _ := hClt
    have hz3 := hT3.size
    clear hpb3 hkn hod hoa hoc hac hT3 hBW HS4 hs5 hthr0 hA hC hClt HSP
    go_wp2
    go_loopw [3, 38] (fun s3 i wx => ∃ (t : Nat) (L : List Nat), t ≤ C.length ∧ i = .int .i64 (t : Int) ∧ L = A ++ (C.take t).filter (fun x => !sgF far x) ∧ Thr wx W2.heap.size s3 (.slice co C.length cc) (.slice none 0 0) L C [] ∧ Below W2.heap.size W3 wx) (fun _ i _ => C.length - (numOf i).toNat)
    case atStart => exact ⟨0, A, Nat.zero_le _, rfl, by simp, HTH.out, Below.refl _ _⟩
    case round =>
      obtain ⟨t, L, ht, rfl, hL, hthr, hBx⟩ := hrel
      obtain ⟨lo, lc, rfl⟩ := form_row hthr.oa
      have hLl : L.length ≤ 200 := by
        rw [hL, List.length_append]
        have := List.length_filter_le (fun x => !sgF far x) (C.take t)
        have := List.length_take_le t C
        omega
      have hzx := hBx.size
      by_cases htC : t < C.length
      · obtain ⟨v, hv?⟩ : ∃ v, C[t]? = some v := ⟨C[t], List.getElem?_eq_getElem htC⟩
        have hvN := HCLT.out v (List.mem_of_getElem? hv?)
        obtain ⟨gq, e1, cq⟩ := qcell hthr.ob hv?
        subst e1
        have hs6 := ownsRow_blocks HS5.out (w' := wr) (fun k hk => hBx.block k (by have := hsl k hk; omega))
        have hlm : ((List.range N).map fun x => far x % 2).length = N := by simp
        obtain ⟨gs, e2, cs⟩ := qcell (Q := (List.range N).map fun x => far x % 2) (ao := s1o) (cap := s1c) (k := v) (u := far v % 2) (by rw [hlm]; exact hs6) (by simp [hvN])
        subst e2
        have i1 : (0 : Int) ≤ (t : Int) := by omega
        have i2 : (t : Int) < (C.length : Int) := by omega
        have i3 : (0 : Int) ≤ (v : Int) := by omega
        have i4 : (v : Int) < (N : Int) := by omega
        have hob := hthr.ob
        have hoa := hthr.oa
        have hsm := take_filter_succ (fun x => !sgF far x) hv?
        cases hsg : sgF far v with
        | true =>
          have hf1 : far v % 2 = 1 := by simpa [sgF] using hsg
          rw [hf1] at cs
          rw [hsg] at hsm
          have HL : Hid _ := hL
          have HSM : Hid _ := hsm
          have HTR : Hid _ := hthr
          clear hL hsm hthr hs6 hv? hob hoa hsg hf1
          go_wp2
          go_roundw
          case rel => exact ⟨t + 1, L, by omega, by go_num, by rw [HL.out, HSM.out]; simp, HTR.out, hBx⟩
          case measure => simp [numOf]; omega
        | false =>
          have hf1 : far v % 2 = 0 := by
            have : ¬ far v % 2 = 1 := by simpa [sgF] using hsg
            omega
          rw [hf1] at cs
          rw [hsg] at hsm
          have HL : Hid _ := hL
          have HSM : Hid _ := hsm
          have HTR : Hid _ := hthr
          clear hL hsm hthr hs6 hv? hob hsg hf1
          go_wp2_with (first
            | (at_builtin; refine wpList_pushA (x := v) rfl _ _ rfl rfl rfl hoa (by omega) (by omega) ?_; intro g1 c1 w3 hown1 hgr1 hat1)
            | go_in)
          have T := (alloc_turns wr (Obj.cells #[.int .i64 (v : Int)] 3) _).trans (Turns.of_grown hgr1)
          have hB4 := T.below hBx (by omega) (fun q hq => (World.ownsRow.lt hoa q hq.symm).1)
          have ht3 := HTR.out.push hown1 hgr1 hat1
          rw [List.length_append] at ht3
          go_roundw
          case rel => exact ⟨t + 1, L ++ [v], by omega, by go_num, by rw [HL.out, HSM.out]; simp, ht3, hB4⟩
          case measure => simp [numOf]; omega
      · have hte : C.length = t := by omega
        have i2 : ¬ (t : Int) < (C.length : Int) := by omega
        obtain ⟨S, hS⟩ : ∃ S, S = cvB dB nB (sgF far) := ⟨_, rfl⟩
        have hperm : L.Perm (listN N S) := by
          rw [hL, ← hte, List.take_length, HA.out, HC.out, hS]
          exact cover_perm N dB nB (sgF far)
        have HSO : Hid _ := sort_own hthr.oa hperm (by omega) (by omega)
        have HPM : Hid _ := hperm
        have HSS : Hid _ := hS
        have hpl : L.length = (listN N S).length := hperm.length_eq
        have HPL : Hid _ := hpl
        have HPC : Hid _ := fun W4 (hB4 : Below W2.heap.size wr W4) => pairs_call (HP2.out.past HPB3.out HT3.out (hBx.trans hB4)) (by omega)
        have hBx' : Below W2.heap.size W3 wr := hBx
        clear hL hthr hperm hS hpl
        go_wp2_with (first
          | (go_at_call 33; refine Calls.mono HSO.out ?_; rintro e W4 ⟨rfl, hoS, hB4⟩; have hB34 := hBx'.trans hB4; have hz5 := hB34.size; have t44 : Two W4 (w.heap.size + 1) (.int .i64 0) (.int .i64 0) 27 := (hB34.block _ hz4).trans t43)
          | (go_at_call 29; refine Calls.mono (HPC.out _ hB4) ?_; rintro e W5 ⟨pv, rfl, hop, hB5⟩; have t45 := two_next t44 hB5; obtain ⟨y1, y2⟩ := cell_two t45; have f1 := free_two t45 0; have f2 := free_two t45 1)
          | go_in)
        have HX := two_setN (x' := .int .i64 0) (y' := .int .i64 0) t45
        obtain ⟨q1, q2⟩ := cell_two HX
        have hB40 : Below w.heap.size w W4 := ⟨hB34.os.trans hB3.os, hB34.tape.trans hB3.tape, hB34.output.trans hB3.output, Nat.le_trans hB3.size hB34.size, fun k hk => (hB34.block k (by omega)).trans (hB3.block k hk)⟩
        have hB6 := ((below_next hB40 hB5).setCell (p := ⟨w.heap.size + 1, 0, none⟩) (by simp) (.int .i64 0)).setCell (p := ⟨w.heap.size + 1, 1, none⟩) (by simp) (.int .i64 0)
        have hne : ∀ k, k ≠ w.heap.size + 1 → ((W5.setCell ⟨w.heap.size + 1, 0, none⟩ (.int .i64 0)).setCell ⟨w.heap.size + 1, 1, none⟩ (.int .i64 0)).heap[k]? = W5.heap[k]? := fun k hk => by
          rw [Below.heap_setCell _ _ _ _ hk, Below.heap_setCell _ _ _ _ hk]
        have hop6 := ownsRow_mono (ownsRow_blocks hop (fun k hk => hne k (by have := (World.ownsRow.lt hop k hk).1; omega))) hB40.size
        have hoS6 := ownsRow_mono (ownsRow_blocks hoS (fun k hk => (hne k (by have := (World.ownsRow.lt hoS k hk).1; omega)).trans (hB5.block k (World.ownsRow.lt hoS k hk).2))) (Nat.le_trans hzW hzW2)
        rw [HPL.out] at hoS6 ⊢
        refine bodyPost_ret (v := .tuple #[pv, .slice lo (listN N S).length lc, .agg #[.int .i64 0, .int .i64 0]]) ?_ rfl ?_
        · generalize (W5.setCell ⟨w.heap.size + 1, 0, none⟩ (.int .i64 0)).setCell ⟨w.heap.size + 1, 1, none⟩ (.int .i64 0) = W6 at q1 q2 ⊢
          simp [results, Tryd.results19, go_sem, q1, q2]
        · have hsg : ∀ a b, Ef N es a b → sgF far a ≠ sgF far b := fun a b he => sgF_ne HFAR.out HR.out HS2.out he
          refine ⟨_, _, 0, far, rfl, HFAR.out, hB6, Or.inr ⟨HS2.out, rfl, m, S, HM.out, ?_, ?_, hop6, hoS6⟩⟩
          · rw [HSS.out]; exact cover_len HKN.out HM.out HNB.out.sym HNB.out.irr hsg
          · intro a b he; rw [HSS.out]; exact cover_edge HKN.out HM.out HNB.out.sym hsg he
  · have HS2 : Hid _ := hs2
    have hn2' : (0 : Int) < (n2 : Int) := by omega
    clear hs2 hfar hb t4' y1 y2 f1 f2 HSD hne0 hbz hod2
    generalize (w1.setCell ⟨w.heap.size + 1, 0, none⟩ (.int .i64 0)).setCell ⟨w.heap.size + 1, 1, none⟩ (.int .i64 0) = W at t1 t4 hB ⊢
    obtain ⟨y1, y2⟩ := cell_two t4
    have f1 := free_two t4 0
    have f2 := free_two t4 1
    clear t1
    go_wp2
    have HX := two_setN (x' := .int .i64 8) (y' := .int .i64 0) t4
    obtain ⟨q1, q2⟩ := cell_two HX
    have hB6 := (hB.setCell (p := ⟨w.heap.size + 1, 0, none⟩) (by simp) (.int .i64 8)).setCell (p := ⟨w.heap.size + 1, 1, none⟩) (by simp) (.int .i64 0)
    refine bodyPost_ret (v := .tuple #[.slice none 0 0, .slice none 0 0, .agg #[.int .i64 8, .int .i64 0]]) ?_ rfl ?_
    · generalize (W.setCell ⟨w.heap.size + 1, 0, none⟩ (.int .i64 8)).setCell ⟨w.heap.size + 1, 1, none⟩ (.int .i64 0) = W6 at q1 q2 ⊢
      simp [results, Tryd.results19, go_sem, q1, q2]
    · exact ⟨_, _, 8, far, rfl, HFAR.out, hB6, Or.inl ⟨HS2.out, rfl, rfl, rfl⟩⟩

set_option maxHeartbeats 2000000 in
theorem cover_bad (n : Int) (v : Value) (es : List Pair) (w : World) (hE : EdgesAt w v es) {c d : Int} (hc : chk n es = (c, d)) (hcn : c ≠ 0) :
    Calls Tryd.prog 19 #[.agg #[.int .i64 n, v]] w fun r w' => r = .returned (.tuple #[.slice none 0 0, .slice none 0 0, .agg #[.int .i64 c, .int .i64 d]]) ∧ Below w.heap.size w w' := by
  have hc1 : (c == 0) = false := by simpa using hcn
  obtain ⟨vo, vn, vc, rfl⟩ : ∃ vo vn vc, v = .slice vo vn vc := by obtain ⟨ao, cap, e, _⟩ := hE; exact ⟨ao, _, cap, e⟩
  have hsd := sides_bad n (.slice vo vn vc) es _ (hE.below (below2 (w := w) (Obj.cells #[.int .i64 n, .slice vo vn vc] 24) (Obj.cells #[.int .i64 0, .int .i64 0] 27))) (by rw [hc]; exact hcn)
  rw [hc] at hsd
  have HSD : Hid _ := hsd
  clear hsd hc hcn hE
  go_enter Tryd.func19, Tryd.ntmps19
  go_upto_region 2 with (go_at_call 32; refine Calls.mono HSD.out ?_; rintro e w1 ⟨rfl, hb⟩; have t4' := two_next (two_new1 w (Obj.cells #[.int .i64 n, .slice vo vn vc] 24) (.int .i64 0) (.int .i64 0) 27) hb; obtain ⟨y1, y2⟩ := cell_two t4'; have f1 := free_two t4' 0; have f2 := free_two t4' 1)
  have t4 := two_setN (x' := .int .i64 c) (y' := .int .i64 d) t4'
  have hB := ((below_next (below2 (w := w) (Obj.cells #[.int .i64 n, .slice vo vn vc] 24) (Obj.cells #[.int .i64 0, .int .i64 0] 27)) hb).setCell (p := ⟨w.heap.size + 1, 0, none⟩) (by simp) (.int .i64 c)).setCell (p := ⟨w.heap.size + 1, 1, none⟩) (by simp) (.int .i64 d)
  clear hb t4' y1 y2 f1 f2 HSD
  generalize (w1.setCell ⟨w.heap.size + 1, 0, none⟩ (.int .i64 c)).setCell ⟨w.heap.size + 1, 1, none⟩ (.int .i64 d) = W at t4 hB ⊢
  obtain ⟨y1, y2⟩ := cell_two t4
  have f1 := free_two t4 0
  have f2 := free_two t4 1
  go_wp2_with fail
  go_region
  all_goals
    go_wp2
    have hX := two_setN (x' := .int .i64 c) (y' := .int .i64 d) t4
    obtain ⟨q1, q2⟩ := cell_two hX
    refine bodyPost_ret (v := .tuple #[.slice none 0 0, .slice none 0 0, .agg #[.int .i64 c, .int .i64 d]]) ?_ rfl ⟨rfl, ?_⟩
    · simp [results, Tryd.results19, go_sem, y1, y2]
    · exact ((hB.setCell (by simp) _).setCell (by simp) _).drew
end Go.Proofs.YtenjkhgpfmfgmaaDoor
