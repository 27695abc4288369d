/- The document's Printed: a graph as a line. -/
import Derived.Test.YtbaghbodjpehpaaDoorDigits
import Derived.Deep.Cut
namespace Go.Proofs.YtbaghbodjpehpaaDoor
open Go.RowKit Go.Maps
attribute [local go_sem ↓] Go.wp_at_zero Go.wp_at_succ

def edgeB (e : Pair) : List UInt8 := 32 :: (Lib.decDigits e.1.toNat ++ 45 :: Lib.decDigits e.2.toNat)
def edgesB (L : List Pair) : List UInt8 := L.flatMap edgeB
def lineB (m : Nat) (L : List Pair) : List UInt8 := Lib.decDigits m ++ 58 :: (edgesB L ++ [10])

theorem dec_len {n : Nat} (h : n ≤ 100) : (Lib.decDigits n).length ≤ 3 := by
  by_cases h1 : n < 10
  · rw [Lib.decDigits_one h1]; simp
  · rw [dec_step h1]
    by_cases h2 : n / 10 < 10
    · rw [Lib.decDigits_one h2]; simp
    · have : n / 10 = 10 := by omega
      rw [this, dec_step (by omega), Lib.decDigits_one (by omega)]; simp
theorem strB_size (l : List UInt8) : (strB l).size = l.length := by simp [strB, ByteArray.size]
theorem edgeB_len {e : Pair} (h : e.1.toNat ≤ 100 ∧ e.2.toNat ≤ 100) : (edgeB e).length ≤ 8 := by
  have := dec_len h.1
  have := dec_len h.2
  simp [edgeB]
  omega
theorem edgesB_len : ∀ (L : List Pair), (∀ e ∈ L, e.1.toNat ≤ 100 ∧ e.2.toNat ≤ 100) → (edgesB L).length ≤ 8 * L.length
  | [], _ => by simp [edgesB]
  | e :: L, h => by
    have h1 := edgeB_len (h e (by simp))
    have h2 := edgesB_len L (fun x hx => h x (by simp [hx]))
    have h3 : edgesB (e :: L) = edgeB e ++ edgesB L := by simp [edgesB]
    rw [h3, List.length_append, List.length_cons]
    omega
theorem edgesB_take {L : List Pair} {k : Nat} (h : k < L.length) : edgesB (L.take (k + 1)) = edgesB (L.take k) ++ edgeB L[k] := by
  unfold edgesB
  rw [List.take_succ_eq_append_getElem h, List.flatMap_append]
  simp

theorem field1 (x : Int) (a : Option Addr) (n c : Nat) (w : World) : (Instr.field 24 (.agg #[.int .i64 x, .slice a n c]) 1).run Tryd.prog w = .ok (.slice a n c) w := by kernel_rfl

theorem allP_in {m : Nat} {p : Int → Int → Bool} {e : Pair} (h : e ∈ allP m p) : 0 ≤ e.1 ∧ 0 ≤ e.2 ∧ e.1 < m ∧ e.2 < m := by
  obtain ⟨u, v, h1, h2, _, rfl⟩ := allP_mem.1 h
  simp
  omega

theorem keepxy {W w' : World} {b o o' : Nat} {x y : Value} (cx : W.cell? ⟨b, o, none⟩ = some x) (cy : W.cell? ⟨b, o', none⟩ = some y) (hb : Below W.heap.size W w') :
    Below W.heap.size W w' ∧ w'.cell? ⟨b, o, none⟩ = some x ∧ w'.cell? ⟨b, o', none⟩ = some y :=
  ⟨hb, by rw [hb.cell (by exact World.block_lt_of_cell? W _ cx)]; exact cx, by rw [hb.cell (by exact World.block_lt_of_cell? W _ cy)]; exact cy⟩

set_option maxRecDepth 100000 in
set_option maxHeartbeats 4000000 in
theorem printed_any (m : Nat) (v : Value) (es : List Pair) (w : World) (hE : EdgesAt w v es) (hm : m ≤ 100) (hl : es.length ≤ 1000) (hgood : ∀ e ∈ es, (0 ≤ e.1 ∧ e.1 < m ∧ 0 ≤ e.2 ∧ e.2 < m) ∧ e.1 ≠ e.2) :
    Calls Tryd.prog 12 #[.agg #[.int .i64 m, v]] w fun e w' => e = .returned (.string (strB (lineB m (allP m (hasB es))))) ∧ Below w.heap.size w w' := by
  have HE : Hid _ := hE
  have HG : Hid _ := hgood
  clear hgood hE
  have tg0 := two_new w (.int .i64 m) v 24
  have hB0 := below_alloc (Below.refl w.heap.size w) (Obj.cells #[.int .i64 m, v] 24)
  have hd3 := dec_len hm
  have hs1 : ¬ 9223372036854775807 < (strB (Lib.decDigits m)).size + (ByteArray.mk #[58]).size := by rw [strB_size]; simp [ByteArray.size]; omega
  go_enter Tryd.func12, Tryd.ntmps12
  go_upto_region 3 with (first | (go_at_call 24; refine (digits_any m _ (by omega)).mono ?_; rintro e w1 ⟨rfl, hb1⟩; have tg1 := two_next tg0 hb1; have hB1 := below_next hB0 hb1; obtain ⟨k0, k1⟩ := cell_two tg1) | (go_at_call 23; refine (gridOf_any m _ es _ (EdgesAt.below HE.out hB1) hm hl HG.out).mono ?_; rintro e w2 ⟨hb2, to, tc, rfl, hG⟩; have hB2 := below_next hB1 hb2) | (go_at_call 25; refine (ofGrid_any m _ _ (hasB es) _ hG hm).mono ?_; rintro e w3 ⟨hb3, oo, oc, rfl, hL⟩; have hB3 := below_next hB2 hb3; have hfd := field1))
  have hLl : (allP m (hasB es)).length ≤ 1000 := Nat.le_trans (allP_has_le m es) hl
  have hin : ∀ e ∈ allP m (hasB es), 0 ≤ e.1 ∧ 0 ≤ e.2 ∧ e.1 < m ∧ e.2 < m := fun e he => allP_in he
  obtain ⟨X, hX⟩ : ∃ X, lineB m (allP m (hasB es)) = X := ⟨_, rfl⟩
  have HX : Hid _ := hX
  have hfin : X = (Lib.decDigits m ++ [58]) ++ edgesB (allP m (hasB es)) ++ [10] := by rw [← hX]; simp [lineB]
  clear hX
  generalize allP m (hasB es) = L at hL hLl hin hfin ⊢
  have hpre : (strB (Lib.decDigits m)) ++ ByteArray.mk #[58] = strB (Lib.decDigits m ++ [58]) := strB_append _ [58]
  rw [hpre]
  have hp4 : (Lib.decDigits m ++ [58]).length ≤ 4 := by simp; omega
  generalize Lib.decDigits m ++ [58] = pre at hp4 hfin ⊢
  have HF : Hid _ := hfin
  have HIN : Hid _ := hin
  obtain ⟨ao', cap', e, _, _, hcells⟩ := hL
  cases e
  have HC : Hid _ := hcells
  clear hcells hfin hin hpre hs1 hfd hG k0 k1 tg0 tg1 hB0
  go_wp2
  go_loopw [3, 5] (fun s3 s5 wr => ∃ k : Nat, k ≤ L.length ∧ s5 = .int .i64 k ∧ s3 = .string (strB (pre ++ edgesB (L.take k))) ∧ Below w3.heap.size w3 wr) (fun _ i _ => L.length - (intOf i).toNat)
  case atStart => exact ⟨0, Nat.zero_le _, rfl, by simp [edgesB], Below.refl _ _⟩
  case round =>
    obtain ⟨k, hk, rfl, rfl, hbr⟩ := hrel
    have hnn : ∀ e ∈ L.take k, e.1.toNat ≤ 100 ∧ e.2.toNat ≤ 100 := fun e he => by
      have := HIN.out e (List.mem_of_mem_take he)
      omega
    have hlen := edgesB_len (L.take k) hnn
    have hlen2 : (pre ++ edgesB (L.take k)).length ≤ 8100 := by
      have : (L.take k).length ≤ k := List.length_take_le _ _
      rw [List.length_append]
      omega
    clear hlen hnn
    by_cases hlt : k < L.length
    · have hnext : pre ++ edgesB (L.take (k + 1)) = (pre ++ edgesB (L.take k)) ++ edgeB L[k] := by rw [edgesB_take hlt, List.append_assoc]
      obtain ⟨b, off, rfl, cx, cy⟩ := HC.out k hlt
      obtain ⟨h0, h1, h2, h3⟩ := HIN.out L[k] (List.getElem_mem _)
      obtain ⟨i, hi⟩ : ∃ i : Nat, L[k].1 = i := ⟨L[k].1.toNat, by omega⟩
      obtain ⟨j, hj⟩ : ∃ j : Nat, L[k].2 = j := ⟨L[k].2.toNat, by omega⟩
      have he : edgeB L[k] = (32 :: Lib.decDigits i ++ [45]) ++ Lib.decDigits j := by simp [edgeB, hi, hj]
      rw [he] at hnext
      rw [hi] at cx h0 h2
      rw [hj] at cy h1 h3
      have hbx := World.block_lt_of_cell? w3 _ cx
      have hby := World.block_lt_of_cell? w3 _ cy
      rw [← hbr.cell (by exact hbx)] at cx
      rw [← hbr.cell (by exact hby)] at cy
      have hi1 : i ≤ 100 := by omega
      have hj1 : j ≤ 100 := by omega
      have di := dec_len hi1
      have dj := dec_len hj1
      have HN : Hid _ := hnext
      clear hnext he hi hj
      have zi := strB_size (Lib.decDigits i)
      have zj := strB_size (Lib.decDigits j)
      have zp := strB_size (pre ++ edgesB (L.take k))
      have hS1 : ¬ 9223372036854775807 < 1 + (strB (Lib.decDigits i)).size := by omega
      have hS2 : ¬ 9223372036854775807 < 1 + (strB (Lib.decDigits i)).size + 1 := by omega
      have hS3 : ¬ 9223372036854775807 < 1 + (strB (Lib.decDigits i)).size + 1 + (strB (Lib.decDigits j)).size := by omega
      have hS4 : ¬ 9223372036854775807 < (strB (pre ++ edgesB (L.take k))).size + (1 + (strB (Lib.decDigits i)).size + 1 + (strB (Lib.decDigits j)).size) := by omega
      clear zi zj zp
      have hA4 : strB (pre ++ edgesB (L.take k)) ++ (ByteArray.mk #[32] ++ strB (Lib.decDigits i) ++ ByteArray.mk #[45] ++ strB (Lib.decDigits j)) = strB (pre ++ edgesB (L.take (k + 1))) := by
        rw [HN.out, show ByteArray.mk #[32] = strB [32] from rfl, show ByteArray.mk #[45] = strB [45] from rfl, strB_append, strB_append, strB_append, strB_append]
        simp
      have HA4 : Hid _ := hA4
      clear hA4
      have hk1 : (0 : Int) ≤ (k : Int) := by omega
      have hk2 : (k : Int) < (L.length : Int) := by omega
      clear hlen2
      go_wp2_with fail
      go_region_held3 (fun w' => Below wr.heap.size wr w' ∧ w'.cell? ⟨b, off + k * 2, none⟩ = some (.int .i64 i) ∧ w'.cell? ⟨b, off + k * 2 + 1, none⟩ = some (.int .i64 j))
        (first | exact keepxy cx cy (Below.refl _ _).drew | (go_split_ands; first | exact keepxy cx cy (below_next ‹_› hb) | exact keepxy cx cy (below_next (Below.refl _ _).drew hb)))
        ((go_at_call 24; refine (digits_any _ _ ?_).mono ?_; omega; rintro e w' ⟨rfl, hb⟩))
      all_goals
        go_split_ands
        go_wp2
        go_roundw
        case rel => exact ⟨k + 1, by omega, by go_num, by rw [HA4.out], below_next hbr (by assumption)⟩
        case measure => simp [intOf]; omega
    · have : k = L.length := by omega
      subst this
      rw [List.take_length] at hlen2 ⊢
      have zp := strB_size (pre ++ edgesB L)
      have hS : ¬ 9223372036854775807 < (strB (pre ++ edgesB L)).size + 1 := by omega
      clear zp
      go_wp2
      go_ret
      refine ⟨?_, below_next hB3 hbr⟩
      rw [HX.out, HF.out, ← strB_append]
      rfl
end Go.Proofs.YtbaghbodjpehpaaDoor
