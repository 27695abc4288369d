/- R.Width: the least over all orders. The pairs of a table that is the same both ways tell it, off the diagonal. The most of the bags along an order is the order's width; what is in a bag. -/
import Derived.Test.YtdalconphfgepaaDoorLitW
namespace Go.Proofs.YtdalconphfgepaaDoor
set_option maxRecDepth 8000
open Go.RowKit Go.Maps
attribute [local go_sem ↓] Go.wp_at_zero Go.wp_at_succ
/-- What the literal reckons of an order. -/
def wdP (N : Nat) (pz : Int → Int → Bool) (L : List Nat) : Int := mostP (fun (i j : Nat) => hasB (allP N pz) i j) (fun i => L.getD i 0) N N
theorem lit_do {w wB : World} {N bo gb : Nat} {ao : Option Addr} {cap : Nat} {pz : Int → Int → Bool} (hN : N ≤ 6) (hb : Below w.heap.size w wB) (hgb : Box wB gb #[.slice ao N cap] 40) (hG : GridAt w (.slice ao N cap) N pz) : DoW wB bo N (wdP N pz) (.pointer (some ⟨gb, 0, none⟩)) (.pointer (some ⟨bo, 0, none⟩)) := by
  intro W L vo vc z hW hbox hlen hnd hlt hll
  have hBW : Below w.heap.size w W := below_next hb hW
  exact lit_call (p := fun (i j : Nat) => hasB (allP N pz) i j) (o := fun i => L.getD i 0) hN rfl rfl ((hW.block gb (lt_of_block hgb)).trans hgb) (hG.below hBW) hbox hlen hnd hlt hll
set_option maxHeartbeats 1000000 in
theorem width_call {w : World} {N : Nat} {ao : Option Addr} {cap : Nat} {pz : Int → Int → Bool} (hN : N ≤ 6) (hG : GridAt w (.slice ao N cap) N pz) :
    Calls Tryd.prog 14 #[.slice ao N cap] w fun e w' => Below w.heap.size w w' ∧ ∃ z : Int, e = .returned (.int .i64 z) ∧ (∀ M, Ext1 N [] M → z ≤ wdP N pz ([] ++ M)) ∧ (z = (N : Int) - 1 ∨ ∃ M, Ext1 N [] M ∧ z = wdP N pz ([] ++ M)) := by
  have hB1 : Below w.heap.size w (w.alloc (Obj.cells #[.slice ao N cap] 40)) := below_alloc (Below.refl _ _) _
  have hgb : Box (w.alloc (Obj.cells #[.slice ao N cap] 40)) w.heap.size #[.slice ao N cap] 40 := heap_alloc_new _ _
  have c0 := box_cell hgb (i := 0) rfl
  have hs : (w.alloc (Obj.cells #[.slice ao N cap] 40)).heap.size = w.heap.size + 1 := by simp
  have HD : Hid (∀ bo, DoW (w.alloc (Obj.cells #[.slice ao N cap] 40)) bo N (wdP N pz) (.pointer (some ⟨w.heap.size, 0, none⟩)) (.pointer (some ⟨bo, 0, none⟩))) := fun bo => lit_do hN hB1 hgb hG
  clear hG
  go_enter Tryd.func14, Tryd.ntmps14
  go_upto_region 2 with (fail)
  have hB2 : Below (w.alloc (Obj.cells #[.slice ao N cap] 40)).heap.size (w.alloc (Obj.cells #[.slice ao N cap] 40)) ((w.alloc (Obj.cells #[.slice ao N cap] 40)).alloc (Obj.cells #[.int .i64 ((N : Int) - 1)] 3)) := below_alloc (Below.refl _ _) _
  have hbo : Box ((w.alloc (Obj.cells #[.slice ao N cap] 40)).alloc (Obj.cells #[.int .i64 ((N : Int) - 1)] 3)) (w.heap.size + 1) #[.int .i64 ((N : Int) - 1)] 3 := by
    have := heap_alloc_new (w.alloc (Obj.cells #[.slice ao N cap] 40)) (Obj.cells #[.int .i64 ((N : Int) - 1)] 3)
    rw [hs] at this
    exact this
  have HA : Hid _ := allOrders_call (z := (N : Int) - 1) (by omega) (by rw [hs]; exact Nat.le_refl _) (HD.out (w.heap.size + 1)) hB2 hbo
  have HB : Hid _ := And.intro hB1 hB2
  have c1 := (hB2.cell (p := ⟨w.heap.size, 0, none⟩) (by rw [hs]; show w.heap.size < _; omega)).trans c0
  clear HD hB1 hB2 hbo hgb c0
  generalize (w.alloc (Obj.cells #[.slice ao N cap] 40)).alloc (Obj.cells #[.int .i64 ((N : Int) - 1)] 3) = w2 at *
  go_upto_region 3 with (first | (go_at_call 34; refine Calls.mono HA.out ?_; rintro e w3 ⟨rfl, z', ht, hbx, hz, h1, h2⟩) | fail)
  have c3 := box_cell hbx (i := 0) rfl
  have HR : Hid _ := And.intro ht (And.intro h1 h2)
  clear ht h1 h2 hbx
  go_wp2
  go_ret
  refine ⟨Turns.below (below_next HB.out.1 HB.out.2) HR.out.1 ?_ (fun k hk => by rw [hk]; omega), z', rfl, HR.out.2.1, HR.out.2.2⟩
  exact (below_next HB.out.1 HB.out.2).size
section
variable {near : List Nat} {N : Nat} {pz : Int → Int → Bool} (hl : near.length = N) (hn : ∀ s ∈ near, s < 2 ^ 128) (hN : N ≤ 6) (hbit : ∀ u x, (at' near u).testBit x = true → x < N) (hs : ∀ a b, (at' near a).testBit b = true → (at' near b).testBit a = true) (hp : ∀ a b : Nat, a < N → b < N → a ≠ b → (hasB (allP N pz) (a : Int) (b : Int) = true ↔ (at' near a).testBit b = true))
include hn hN hbit hs hp
theorem wd_eq {L : List Nat} (h1 : L.length = N) (h2 : L.Nodup) (h3 : ∀ x ∈ L, x < N) : wdP N pz L = wdL near N L := by
  unfold wdP wdL mostP wideO
  exact max_cong _ (fun i hi => nl_len hn (by omega) hbit hs (ord_of_list h1 h2 h3) hp (List.mem_range.1 hi))
include hl
/-- R.Width is the width that Least tells. -/
theorem width_is {w : World} {ao : Option Addr} {cap : Nat} (hG : GridAt w (.slice ao N cap) N pz) :
    Calls Tryd.prog 14 #[.slice ao N cap] w fun e w' => e = .returned (.int .i64 (lastL near (setOf (List.range N))).1) ∧ Below w.heap.size w w' := by
  refine Calls.mono (width_call hN hG) ?_
  rintro e w' ⟨hb, z, rfl, h1, h2⟩
  refine ⟨?_, hb⟩
  have key : ∀ M, Ext1 N [] M → wdP N pz ([] ++ M) = wdL near N ([] ++ M) := fun M hM => wd_eq hn hN hbit hs hp hM.1 hM.2.1 hM.2.2
  rw [best_is hl hn (by omega) hbit (z := z) (fun M hM => by rw [← key M hM]; exact h1 M hM) (h2.imp id fun ⟨M, hM, e⟩ => ⟨M, hM, by rw [← key M hM]; exact e⟩)]
end
end Go.Proofs.YtdalconphfgepaaDoor

namespace Go.Proofs.YtdalconphfgepaaDoor
theorem has_all {N : Nat} {p : Int → Int → Bool} (hs : ∀ x y, p x y = p y x) {a b : Nat} (ha : a < N) (hb : b < N) (hab : a ≠ b) : hasB (allP N p) (a : Int) (b : Int) = p a b := by
  rw [Bool.eq_iff_iff, hasB_iff', allP_mem, allP_mem]
  constructor
  · rintro (⟨u, v, _, _, h3, e⟩ | ⟨u, v, _, _, h3, e⟩)
    · obtain ⟨e1, e2⟩ := Prod.mk.inj e
      rw [e1, e2]; exact h3
    · obtain ⟨e1, e2⟩ := Prod.mk.inj e
      rw [hs, e1, e2]; exact h3
  · intro h
    by_cases hlt : a < b
    · exact Or.inl ⟨a, b, hlt, hb, h, rfl⟩
    · exact Or.inr ⟨b, a, by omega, ha, by rw [hs]; exact h, rfl⟩
theorem hasB_sym (es : List Pair) (x y : Int) : hasB es x y = hasB es y x := by
  rw [Bool.eq_iff_iff, hasB_iff', hasB_iff']
  exact or_comm
end Go.Proofs.YtdalconphfgepaaDoor

namespace Go.Proofs.YtdalconphfgepaaDoor
section
variable {near : List Nat} {N : Nat} {o : Nat → Nat}
theorem led_not (hn : ∀ s ∈ near, s < 2 ^ 128) (hN : N ≤ 128) (h : OrdO N o (goneF o)) {i : Nat} (hi : i < N) : (ledO near o (goneF o) i).testBit (o i) = false := by
  cases hq : (ledO near o (goneF o) i).testBit (o i) with
  | false => rfl
  | true => exact absurd rfl (((led_bit hn hN h hi).1 hq).2 i (Nat.le_refl _))
theorem bagO_len (hn : ∀ s ∈ near, s < 2 ^ 128) (hN : N ≤ 128) (h : OrdO N o (goneF o)) {i : Nat} (hi : i < N) : (bagO near o i).length = countS (ledO near o (goneF o) i) + 1 := by
  have hl : ledO near o (goneF o) i < 2 ^ 128 := behS_lt (near := near) (gone := goneF o i) hn (show o i < 128 by have := h.lt i hi; omega)
  have hv : o i < 128 := by have := h.lt i hi; omega
  have hs : sAdd (ledO near o (goneF o) i) (o i) < 2 ^ 128 := add_lt hl hv
  have hd := count_drop (v := o i) hs (by rw [bit_add]; simp)
  have e : sDrop (sAdd (ledO near o (goneF o) i) (o i)) (o i) = ledO near o (goneF o) i := Nat.eq_of_testBit_eq fun x => by
    rw [bit_drop, bit_add]
    by_cases hx : x = o i
    · subst hx
      rw [led_not hn hN h hi]
      simp
    · simp [hx]
  rw [e] at hd
  exact hd.symm
theorem most_bags (hn : ∀ s ∈ near, s < 2 ^ 128) (hN : N ≤ 128) (h : OrdO N o (goneF o)) : ∀ d, d ≤ N → mostL (fun i => (bagO near o i).length) d = wideO near o (goneF o) d
  | 0, _ => rfl
  | d + 1, hd => by
    rw [wideO_succ, ← most_bags hn hN h d (by omega)]
    have e := bagO_len hn hN h (show d < N by omega)
    show max (mostL (fun i => (bagO near o i).length) d) (((bagO near o d).length : Int) - 1) = _
    rw [e]
    omega
end
end Go.Proofs.YtdalconphfgepaaDoor
