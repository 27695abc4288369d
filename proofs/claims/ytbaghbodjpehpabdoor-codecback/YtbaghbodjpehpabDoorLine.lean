/- line of package codec: a graph in form as a line. -/
import Derived.Test.YtbaghbodjpehpabDoorBuilders
import Derived.Deep.Cut
import Derived.Lib.QuietBelow
namespace Go.Proofs.YtbaghbodjpehpabDoor
open Go.RowKit Go.Maps
attribute [local go_sem ↓] Go.wp_at_zero Go.wp_at_succ

theorem builder_below {B b : Nat} {p : Value} {bs : List Value} {w w' : World} (h : Lib.BuilderAtF 57 5 B b p bs w) (hb : Below w.heap.size w w') : Lib.BuilderAtF 57 5 B b p bs w' := by
  obtain ⟨hB, v, hbk, hown, hne⟩ := h
  exact ⟨hB, v, (hb.block b (lt_of_block hbk)).trans hbk, hown.kept (row := none) ⟨hb.os, hb.tape, hb.output, hb.size, fun k hk _ => hb.block k hk⟩ (by cases v.ownBlock <;> simp), hne⟩

/-- The builder behind the blocks of W0 holds the bytes l. -/
structure LI (W0 wr : World) (l : List UInt8) : Prop where
  bld : Lib.IsBuilderF 57 5 W0.heap.size W0.heap.size (Lib.byteCells l) wr
  bel : Below W0.heap.size W0 wr

theorem LI.start (W0 : World) : LI W0 (W0.alloc (Obj.cells #[.pointer none, .slice none 0 0] 57)) [] :=
  ⟨.inl (Lib.BuilderAtF.of ⟨Nat.le_refl _, _, heap_alloc_new _ _, World.ownsRow_nil _ _ _ _, by simp [Value.ownBlock]⟩), below_alloc (Below.refl _ _) _⟩
theorem LI.step {W0 wr w' : World} {l : List UInt8} (h : LI W0 wr l) (hb : Below wr.heap.size wr w') : LI W0 w' l :=
  ⟨h.bld.imp (fun h => builder_below h hb) (fun h => builder_below h hb), below_next h.bel hb⟩

theorem cells_one (l : List UInt8) (x : UInt8) : Lib.byteCells l ++ [.int .u8 (x.toNat : Int)] = Lib.byteCells (l ++ [x]) := by simp [Lib.byteCells]
theorem cells_str (l l' : List UInt8) : Lib.byteCells l ++ Lib.strCells (strB l') = Lib.byteCells (l ++ l') := by simp [Lib.byteCells, Lib.strCells, strB]

theorem li_byte {W0 wr : World} {l : List UInt8} (h : LI W0 wr l) (hl : l.length ≤ 1000000) (x : UInt8) {c : Int} (hc : c = (x.toNat : Int)) {b : Nat} (hb : b = W0.heap.size) :
    Calls Tryd.prog 30 #[.pointer (some ⟨b, 0, none⟩), .int .u8 c] wr fun e w' => e = .returned .nilIface ∧ LI W0 w' (l ++ [x]) ∧ Lib.OthersKept 5 (some W0.heap.size) wr w' := by
  subst hc hb
  refine (writeByte_any W0.heap.size W0.heap.size (Lib.byteCells l) _ wr h.bld (by rw [Lib.byteCells_length]; exact hl) h.bel.size).mono ?_
  rintro e w' ⟨rfl, h1, h2, h3⟩
  rw [cells_one] at h1
  exact ⟨rfl, ⟨.inr h1, h.bel.trans h2⟩, h3⟩
theorem li_str {W0 wr : World} {l : List UInt8} (h : LI W0 wr l) (hl : l.length ≤ 1000000) (s : List UInt8) (hs : s.length ≤ 1000000) {b : Nat} (hb : b = W0.heap.size) :
    Calls Tryd.prog 28 #[.pointer (some ⟨b, 0, none⟩), .string (strB s)] wr fun e w' => e = .returned (.tuple #[.int .i64 (strB s).size, .nilIface]) ∧ LI W0 w' (l ++ s) ∧ Lib.OthersKept 5 (some W0.heap.size) wr w' := by
  subst hb
  refine (writeString_any W0.heap.size W0.heap.size (Lib.byteCells l) _ wr h.bld (by rw [Lib.byteCells_length]; exact hl) (by rw [strB_size]; exact hs) h.bel.size).mono ?_
  rintro e w' ⟨rfl, h1, h2, h3⟩
  rw [cells_str] at h1
  exact ⟨rfl, ⟨.inr h1, h.bel.trans h2⟩, h3⟩
theorem li_end {W0 wr : World} {l : List UInt8} (h : LI W0 wr l) {b : Nat} (hb : b = W0.heap.size) :
    Calls Tryd.prog 31 #[.pointer (some ⟨b, 0, none⟩)] wr fun e w' => e = .returned (.string (strB l)) ∧ Below W0.heap.size W0 w' := by
  subst hb
  refine (Tryd.Builder_String_any_k W0.heap.size W0.heap.size l wr h.bld h.bel.size).mono ?_
  rintro e w' ⟨rfl, h1, h2, h3⟩
  exact ⟨rfl, h.bel.trans h2⟩

/-- Itoa writes the number n. -/
def ItoaAt (w : World) (n : Nat) : Prop := ∀ w', Below w.heap.size w w' → Calls Tryd.prog 29 #[.int .i64 n] w' fun e w'' => e = .returned (.string (strB (Lib.decDigits n))) ∧ Below w'.heap.size w' w''

theorem itoa_small (w : World) {n : Nat} (h : n < 100) : ItoaAt w n := by
  intro w' _
  refine (Tryd.strconv_Itoa_small n h w').mono ?_
  rintro e w'' ⟨rfl, rfl⟩
  exact ⟨rfl, Below.refl _ _⟩
theorem ItoaAt.below {w w' : World} {n : Nat} (h : ItoaAt w n) (hb : Below w.heap.size w w') : ItoaAt w' n := fun w'' h' => h w'' (below_next hb h')

theorem kept_two {W0 wr w' : World} {b : Nat} {x y : Value} {t : TypeId} (h : Lib.OthersKept 5 (some W0.heap.size) wr w') (h2 : Two wr b x y t) (hb : b ≠ W0.heap.size) (ht : t ≠ 5) : Two w' b x y t :=
  h b _ h2 (by simpa using hb) (by intro c fz e; simp at e; exact ht e.2.1)

set_option maxRecDepth 100000 in
set_option maxHeartbeats 8000000 in
theorem line_any (m : Nat) (v : Value) (L : List Pair) (w : World) (hE : EdgesAt w v L) (hm : m ≤ 100) (hl : L.length ≤ 1000) (hin : ∀ e ∈ L, 0 ≤ e.1 ∧ 0 ≤ e.2 ∧ e.1 < m ∧ e.2 < m) (hI : ItoaAt w m) :
    Calls Tryd.prog 13 #[.agg #[.int .i64 m, v]] w fun e w' => e = .returned (.string (strB (lineB m L))) ∧ Below w.heap.size w w' := by
  obtain ⟨ao, cap, rfl, hl2, _, hcells⟩ := hE
  have HC : Hid _ := hcells
  have HIN : Hid _ := hin
  have HI : Hid _ := hI
  clear hcells hin hI
  have hd3 := dec_len hm
  have tg0 := two_new w (.int .i64 m) (.slice ao L.length cap) 24
  have hB0 := below_alloc (Below.refl w.heap.size w) (Obj.cells #[.int .i64 m, .slice ao L.length cap] 24)
  have hs0 : (w.alloc (Obj.cells #[.int .i64 m, .slice ao L.length cap] 24)).heap.size = w.heap.size + 1 := by simp
  go_enter Tryd.func13, Tryd.ntmps13
  go_upto_region 2 with fail
  have li0 := LI.start (w.alloc (Obj.cells #[.int .i64 m, .slice ao L.length cap] 24))
  generalize (w.alloc (Obj.cells #[.int .i64 m, .slice ao L.length cap] 24)) = W0 at tg0 hB0 hs0 li0 ⊢
  have hs1 : w.heap.size + 1 = W0.heap.size := hs0.symm
  generalize W0.alloc (Obj.cells #[.pointer none, .slice none 0 0] 57) = W1 at li0 ⊢
  obtain ⟨k0, k1⟩ := cell_two (two_next tg0 li0.bel)
  have HS : Hid _ := hs1
  clear hs0 hs1
  go_upto_region 4 with (first | (go_at_call 29; refine (HI.out _ (below_next hB0 li0.bel)).mono ?_; rintro e w2 ⟨rfl, hb2⟩; have li2 := li0.step hb2) | (go_at_call 28; refine (li_str li2 (by simp) (Lib.decDigits m) (by omega) HS.out).mono ?_; rintro e w3 ⟨rfl, li3, _⟩) | (go_at_call 30; refine (li_byte li3 (by simp; omega) 58 (by rfl) HS.out).mono ?_; rintro e w4 ⟨rfl, li4, _⟩))
  have hpre : (Lib.decDigits m ++ [58]).length ≤ 4 := by simp; omega
  have hfin : lineB m L = (Lib.decDigits m ++ [58]) ++ edgesB L ++ [10] := by simp [lineB]
  have li5 : LI W0 w4 (Lib.decDigits m ++ [58]) := by simpa using li4
  obtain ⟨X, hX⟩ : ∃ X, lineB m L = X := ⟨_, rfl⟩
  rw [hX] at hfin
  generalize Lib.decDigits m ++ [58] = pre at hpre hfin li5
  have HF : Hid _ := hfin
  have HX : Hid _ := hX
  clear hfin hX li4 li3 li2 li0 hb2 k0 k1
  obtain ⟨k0, k1⟩ := cell_two (two_next tg0 li5.bel)
  go_wp2
  go_loopw [14] (fun s14 wr => ∃ k : Nat, k ≤ L.length ∧ s14 = .int .i64 k ∧ LI W0 wr (pre ++ edgesB (L.take k))) (fun i _ => L.length - (intOf i).toNat)
  case atStart => exact ⟨0, Nat.zero_le _, rfl, by simpa [edgesB] using li5⟩
  case round =>
    obtain ⟨k, hk, rfl, li⟩ := hrel
    clear li5 k0 k1
    have hnn : ∀ e ∈ L.take k, e.1.toNat ≤ 100 ∧ e.2.toNat ≤ 100 := fun e he => by
      have := HIN.out e (List.mem_of_mem_take he)
      omega
    have hlen := edgesB_len (L.take k) hnn
    have hlen2 : (pre ++ edgesB (L.take k)).length ≤ 8100 := by
      have : (L.take k).length ≤ k := List.length_take_le _ _
      rw [List.length_append]
      omega
    clear hlen hnn
    by_cases hlt : k < L.length
    · have hnext : pre ++ edgesB (L.take (k + 1)) = (pre ++ edgesB (L.take k)) ++ edgeB L[k] := by rw [edgesB_take hlt, List.append_assoc]
      obtain ⟨b, off, rfl, cx, cy⟩ := HC.out k hlt
      obtain ⟨h0, h1, h2, h3⟩ := HIN.out L[k] (List.getElem_mem _)
      obtain ⟨i, hi⟩ : ∃ i : Nat, L[k].1 = i := ⟨L[k].1.toNat, by omega⟩
      obtain ⟨j, hj⟩ : ∃ j : Nat, L[k].2 = j := ⟨L[k].2.toNat, by omega⟩
      have he : edgeB L[k] = [32] ++ Lib.decDigits i ++ [45] ++ Lib.decDigits j := by simp [edgeB, hi, hj]
      rw [he] at hnext
      rw [hi] at cx h0 h2
      rw [hj] at cy h1 h3
      have hbw := below_next hB0 li.bel
      have hbx := World.block_lt_of_cell? w _ cx
      rw [← hbw.cell (by exact hbx)] at cx
      rw [← hbw.cell (by exact hbx)] at cy
      have hi1 : i < 100 := by omega
      have hj1 : j < 100 := by omega
      have di := dec_len (show i ≤ 100 by omega)
      have dj := dec_len (show j ≤ 100 by omega)
      have HN : Hid _ := hnext
      clear hnext he hi hj
      generalize pre ++ edgesB (L.take k) = P0 at li hlen2 HN
      have hk1 : (0 : Int) ≤ (k : Int) := by omega
      have hk2 : (k : Int) < (L.length : Int) := by omega
      have te := two_new wr (.int .i64 i) (.int .i64 j) 34
      have lia := li.step (below_alloc (Below.refl _ _) (Obj.cells #[.int .i64 i, .int .i64 j] 34))
      have hne : wr.heap.size ≠ W0.heap.size := by
        rcases li.bld with h | h <;> (have := h.lt; omega)
      have HNE : Hid _ := hne
      clear hne
      go_upto_region 8 with (go_at_call 30; refine (li_byte lia (by omega) 32 (by rfl) HS.out).mono ?_; rintro e w5 ⟨rfl, li5, hk5⟩)
      have te5 := kept_two hk5 te HNE.out (by decide)
      obtain ⟨f0, f1⟩ := cell_two te5
      go_upto_region 9 with (first | (go_at_call 29; refine (itoa_small _ hi1 _ (Below.refl _ _)).mono ?_; rintro e w6 ⟨rfl, hb6⟩; have li6 := li5.step hb6; have te6 := two_next te5 hb6) | (go_at_call 28; refine (li_str li6 (by simp; omega) (Lib.decDigits i) (by omega) HS.out).mono ?_; rintro e w7 ⟨rfl, li7, hk7⟩))
      have te7 := kept_two hk7 te6 HNE.out (by decide)
      clear f0 f1
      go_upto_region 10 with (go_at_call 30; refine (li_byte li7 (by simp; omega) 45 (by rfl) HS.out).mono ?_; rintro e w8 ⟨rfl, li8, hk8⟩)
      have te8 := kept_two hk8 te7 HNE.out (by decide)
      obtain ⟨g0, g1⟩ := cell_two te8
      go_upto_region 11 with (first | (go_at_call 29; refine (itoa_small _ hj1 _ (Below.refl _ _)).mono ?_; rintro e w9 ⟨rfl, hb9⟩; have li9 := li8.step hb9) | (go_at_call 28; refine (li_str li9 (by simp; omega) (Lib.decDigits j) (by omega) HS.out).mono ?_; rintro e wA ⟨rfl, liA, _⟩))
      have liB : LI W0 wA (pre ++ edgesB (L.take (k + 1))) := by rw [HN.out]; simpa using liA
      clear liA li9 li8 li7 li6 li5 lia te te5 te6 te7 te8 g0 g1
      go_wp2
      go_roundw
      case rel => exact ⟨k + 1, by omega, by go_num, liB⟩
      case measure => simp [intOf]; omega
    · have : k = L.length := by omega
      subst this
      rw [List.take_length] at li hlen2
      go_upto_region 13 with (go_at_call 30; refine (li_byte li (by omega) 10 (by rfl) HS.out).mono ?_; rintro e w5 ⟨rfl, li5, _⟩)
      go_wp2_with (go_at_call 31; refine (li_end li5 HS.out).mono ?_; rintro e w6 ⟨rfl, hb6⟩)
      go_ret
      refine ⟨?_, below_next hB0 hb6⟩
      rw [HX.out, HF.out]
      first | rfl | (rw [List.append_assoc]; rfl)
end Go.Proofs.YtbaghbodjpehpabDoor
