/- The document's Printed: a graph as a line. -/
import Derived.Test.YtbaghbodjpehpabDoorDigits
import Derived.Deep.Cut
namespace Go.Proofs.YtbaghbodjpehpabDoor
open Go.RowKit Go.Maps
attribute [local go_sem ↓] Go.wp_at_zero Go.wp_at_succ

def edgeB (e : Pair) : List UInt8 := 32 :: (Lib.decDigits e.1.toNat ++ 45 :: Lib.decDigits e.2.toNat)
def edgesB (L : List Pair) : List UInt8 := L.flatMap edgeB
def lineB (m : Nat) (L : List Pair) : List UInt8 := Lib.decDigits m ++ 58 :: (edgesB L ++ [10])

theorem dec_len {n : Nat} (h : n ≤ 100) : (Lib.decDigits n).length ≤ 3 := by
  by_cases h1 : n < 10
  · rw [Lib.decDigits_one h1]; simp
  · rw [dec_step h1]
    by_cases h2 : n / 10 < 10
    · rw [Lib.decDigits_one h2]; simp
    · have : n / 10 = 10 := by omega
      rw [this, dec_step (by omega), Lib.decDigits_one (by omega)]; simp
theorem strB_size (l : List UInt8) : (strB l).size = l.length := by simp [strB, ByteArray.size]
theorem edgeB_len {e : Pair} (h : e.1.toNat ≤ 100 ∧ e.2.toNat ≤ 100) : (edgeB e).length ≤ 8 := by
  have := dec_len h.1
  have := dec_len h.2
  simp [edgeB]
  omega
theorem edgesB_len : ∀ (L : List Pair), (∀ e ∈ L, e.1.toNat ≤ 100 ∧ e.2.toNat ≤ 100) → (edgesB L).length ≤ 8 * L.length
  | [], _ => by simp [edgesB]
  | e :: L, h => by
    have h1 := edgeB_len (h e (by simp))
    have h2 := edgesB_len L (fun x hx => h x (by simp [hx]))
    have h3 : edgesB (e :: L) = edgeB e ++ edgesB L := by simp [edgesB]
    rw [h3, List.length_append, List.length_cons]
    omega
theorem edgesB_take {L : List Pair} {k : Nat} (h : k < L.length) : edgesB (L.take (k + 1)) = edgesB (L.take k) ++ edgeB L[k] := by
  unfold edgesB
  rw [List.take_succ_eq_append_getElem h, List.flatMap_append]
  simp

theorem field1 (x : Int) (a : Option Addr) (n c : Nat) (w : World) : (Instr.field 24 (.agg #[.int .i64 x, .slice a n c]) 1).run Tryd.prog w = .ok (.slice a n c) w := by kernel_rfl

theorem allP_in {m : Nat} {p : Int → Int → Bool} {e : Pair} (h : e ∈ allP m p) : 0 ≤ e.1 ∧ 0 ≤ e.2 ∧ e.1 < m ∧ e.2 < m := by
  obtain ⟨u, v, h1, h2, _, rfl⟩ := allP_mem.1 h
  simp
  omega

theorem keepxy {W w' : World} {b o o' : Nat} {x y : Value} (cx : W.cell? ⟨b, o, none⟩ = some x) (cy : W.cell? ⟨b, o', none⟩ = some y) (hb : Below W.heap.size W w') :
    Below W.heap.size W w' ∧ w'.cell? ⟨b, o, none⟩ = some x ∧ w'.cell? ⟨b, o', none⟩ = some y :=
  ⟨hb, by rw [hb.cell (by exact World.block_lt_of_cell? W _ cx)]; exact cx, by rw [hb.cell (by exact World.block_lt_of_cell? W _ cy)]; exact cy⟩

end Go.Proofs.YtbaghbodjpehpabDoor
