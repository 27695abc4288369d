/- Unpack of package codec, where the text tells a graph. -/
import Derived.Test.YtbaghbodjpehpabDoorUnpackFaults
import Derived.Lib.SlBytesRow
namespace Go.Proofs.YtbaghbodjpehpabDoor
open Go.RowKit Go.Maps
attribute [local go_sem ↓] Go.wp_at_zero Go.wp_at_succ

theorem bitOf_tail (s : ByteArray) (f : Nat) : bitOf (s.extract f s.size) 0 = bitOf s f := by
  funext q
  unfold bitOf
  have : (s.extract f s.size).data.toList = s.data.toList.drop f := by
    rw [Lib.extract_data]
    apply List.take_of_length_le
    rw [List.length_drop]
    exact Nat.le_of_eq (by rw [Array.length_toList]; rfl)
  rw [this, Nat.zero_add, List.getD_eq_getElem?_getD, List.getD_eq_getElem?_getD, List.getElem?_drop]

theorem tail_get (s : ByteArray) (f : Nat) (i : Nat) (h : i < (s.extract f s.size).size) : ∃ h', (s.extract f s.size)[i] = s[f + i]'h' := by
  have hs : (s.extract f s.size).size = s.size - f := by simp
  refine ⟨by omega, ?_⟩
  exact ByteArray.getElem_extract ..

set_option maxRecDepth 100000 in
set_option maxHeartbeats 2000000 in
theorem unpack_ok (s : ByteArray) (w : World) (h : s.size ≤ 20000) (hg : ∀ i (h : i < s.size), goodB s[i] = true) (n f : Nat) (hn : n ≤ 100) (hf : f ≤ 4) (hsz : s.size = f + nby n)
    (hS : ∀ w, Calls Tryd.prog 18 #[.string s] w fun e w' => e = .returned (.tuple #[.int .i64 n, .int .i64 f]) ∧ w' = w) (hP : ∀ w, Calls Tryd.prog 19 #[.string s, .int .i64 n, .int .i64 f] w fun e w' => e = .returned (.tuple #[]) ∧ Below w.heap.size w w') :
    Tells 7 #[.string s] w (formS n (colsE (bitOf s f) n)) := by
  have hmf : ∀ (fn : Fn) (first cap : Array Value) (w : World), (Instr.makeFunc fn first cap).run Tryd.prog w = .ok (.func fn first cap) w := fun _ _ _ _ => rfl
  have t2 := two_alloc (two_new w (.int .i64 0) (.slice none 0 0) 24) (Obj.cells #[.int .i64 0, .int .i64 0] 27)
  have t3 := two_newb w (Obj.cells #[.int .i64 0, .slice none 0 0] 24) (.int .i64 0) (.int .i64 0) 27
  have hb0 := below2 (w := w) (Obj.cells #[.int .i64 0, .slice none 0 0] 24) (Obj.cells #[.int .i64 0, .int .i64 0] 27)
  have hC : ∀ w, Calls Tryd.prog 17 #[.string s] w fun e w' => e = .returned (.tuple #[]) ∧ w' = w := fun w => by
    have := checkBytes_any s w h s.size (fun i hi _ => hg i hi) (Or.inl rfl)
    rw [if_pos rfl] at this
    exact this
  have hU : ∀ w, Calls Tryd.prog 20 #[.string (s.extract f s.size), .int .i64 n] w fun e w' => Below w.heap.size w w' ∧ ∃ ao cap, e = .returned (.slice ao (colsE (bitOf s f) n).length cap) ∧ EdgesAt w' (.slice ao (colsE (bitOf s f) n).length cap) (colsE (bitOf s f) n) := fun w => by
    have := unpackPairs_any (s.extract f s.size) n w hn (by simp; omega) (fun i hi => by
      obtain ⟨h', e⟩ := tail_get s f i hi
      rw [e]
      exact (goodB_iff _).1 (hg _ h'))
    rw [bitOf_tail] at this
    exact this
  have HC : Hid _ := hC
  have HU : Hid _ := hU
  have HS : Hid _ := hS
  have HP : Hid _ := hP
  clear hC hg hU hS hP
  have hf1 : (f : Int) ≤ (s.size : Int) := by omega
  have hf2 : (0 : Int) ≤ (f : Int) := by omega
  generalize colsE (bitOf s f) n = L at HU ⊢
  unfold Tells
  go_enter_defers Tryd.func7, Tryd.ntmps7
  go_upto_region 2 with fail
  generalize (w.alloc (Obj.cells #[.int .i64 0, .slice none 0 0] 24)).alloc (Obj.cells #[.int .i64 0, .int .i64 0] 27) = W at t2 t3 hb0 ⊢
  have HSZ : Hid _ := hsz
  clear hsz
  go_wp2_with (first | (go_at_call 16; refine (checkLength_ok s _ h).mono ?_; rintro e w' ⟨rfl, rfl⟩) | (go_at_call 17; refine (HC.out _).mono ?_; rintro e w' ⟨rfl, rfl⟩) | (go_at_call 18; refine (HS.out _).mono ?_; rintro e w' ⟨rfl, rfl⟩) | (go_at_call 19; refine (HP.out _).mono ?_; rintro e w2 ⟨rfl, hbp⟩) | (go_at_call 20; refine (HU.out _).mono ?_; rintro e w3 ⟨hb3, ao, cap, rfl, hE⟩) | (go_at_call 10; refine (form_tells n _ L _ hE).mono ?_; rintro e w4 ⟨hb4, xo, xc, rfl, hX, hfr⟩; have hq := below_next (below_next hbp hb3) hb4; obtain ⟨g0, g1, g2⟩ := kk (two_next t2 hq); obtain ⟨m0, m1, m2⟩ := kapart (two_next t3 hq) (show w.heap.size ≠ w.heap.size + 1 by omega)))
  refine leaves_cons (f := 14) (args := #[.pointer (some ⟨w.heap.size, 0, none⟩), .pointer (some ⟨w.heap.size + 1, 0, none⟩)]) (by simp) (by simp [go_sem]) ?_
  refine (catch_idle w.heap.size (w.heap.size + 1) _).mono ?_
  rintro e u' w'' ⟨rfl, rfl, rfl⟩
  generalize formS n L = A at hX hfr ⊢
  obtain ⟨r1, r2⟩ := xu_block (two_next t2 hq) (two_next t3 hq) (.int .i64 A.n) (.slice xo A.es.length xc) (.int .i64 A.c) (.int .i64 A.pos)
  obtain ⟨r3, r4⟩ := cell_two r1
  obtain ⟨r5, r6⟩ := cell_two r2
  have hb2 := below_set4 (below_next hb0 hq) (a := ⟨w.heap.size, 0, none⟩) (b := ⟨w.heap.size, 1, none⟩) (c := ⟨w.heap.size + 1, 0, none⟩) (d := ⟨w.heap.size + 1, 1, none⟩) (Nat.le_refl _) (Nat.le_refl _) (Nat.le_succ _) (Nat.le_succ _) (x := .int .i64 A.n) (y := .slice xo A.es.length xc) (z := .int .i64 A.c) (u := .int .i64 A.pos)
  have hfr2 : ∀ x, xo = some x → w.heap.size + 1 < x.block := fun x hx => by
    have h1 := hfr x hx
    have h2 := hb3.size
    have h3 := hbp.size
    have h4 := lt_of_block t3
    omega
  have hX2 : EdgesAt ((((w4.setCell ⟨w.heap.size, 0, none⟩ (.int .i64 A.n)).setCell ⟨w.heap.size, 1, none⟩ (.slice xo A.es.length xc)).setCell ⟨w.heap.size + 1, 0, none⟩ (.int .i64 A.c)).setCell ⟨w.heap.size + 1, 1, none⟩ (.int .i64 A.pos)) (.slice xo A.es.length xc) A.es :=
    (((hX.setCell (fun x hx => by have := hfr2 x hx; simp; omega) _).setCell (fun x hx => by have := hfr2 x hx; simp; omega) _).setCell (fun x hx => by have := hfr2 x hx; simp; omega) _).setCell (fun x hx => by have := hfr2 x hx; simp; omega) _
  generalize (((w4.setCell ⟨w.heap.size, 0, none⟩ (.int .i64 A.n)).setCell ⟨w.heap.size, 1, none⟩ (.slice xo A.es.length xc)).setCell ⟨w.heap.size + 1, 0, none⟩ (.int .i64 A.c)).setCell ⟨w.heap.size + 1, 1, none⟩ (.int .i64 A.pos) = V at r1 r2 r3 r4 r5 r6 hb2 hX2 ⊢
  simp [Leaves, settle, results, Tryd.results7, go_sem, r3, r4, r5, r6]
  exact ⟨hb2, xo, xc, ⟨rfl, rfl⟩, hX2, fun x hx => by have := hfr2 x hx; omega⟩
end Go.Proofs.YtbaghbodjpehpabDoor
