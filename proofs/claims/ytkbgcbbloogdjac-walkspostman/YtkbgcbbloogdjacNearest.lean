/- nearestPairs of any even number of nodes. -/
import Derived.Test.YtkbgcbbloogdjacPairsN
import Derived.Test.YtkbgcbbloogdjacMakeEven
namespace Go.Proofs.Ytkbgcbbloogdjac
open Go.RowKit Go.Maps
attribute [local go_sem ↓] Go.wp_at_zero Go.wp_at_succ

/-- A best one of all pairings. -/
def LeastOf (O : Nat → Nat → Option Nat) (od : List Nat) (ps : List Pair) : Prop := PairOf ps od ∧ ∀ qs, PairOf qs od → sumD O ps ≤ sumD O qs

set_option maxRecDepth 4000 in
set_option maxHeartbeats 2000000 in
theorem nearestN_call {w : World} {N n : Nat} {e : Nat → Nat → Bool} {oo : Option Addr} {oc bx gf : Nat} {bf : Nat → Nat} {od : List Nat} {O : Nat → Nat → Option Nat} (hnum : NumsAt w oo od) (hoc : od.length ≤ oc) (hlen : od.length = 2 * n) (hn : n ≤ 6) (hlt : ∀ u, u ∈ od → u < N) (hN : N ≤ 100) (hcell : w.cell? ⟨bx, 0, none⟩ = some (.slice (some ⟨gf, 0, none⟩) N N)) (hft : FarT w gf N e od bf O) (hO : ∀ u v, u ∈ od → v ∈ od → ∃ D, O u v = some D) :
    Calls Try.prog 57 #[.slice oo od.length oc, .func (.func 58) #[] #[.pointer (some ⟨bx, 0, none⟩)]] w fun r w' => ∃ po pc ps, r = .returned (.slice po ps.length pc) ∧ EdgesAt w' (.slice po ps.length pc) ps ∧ LeastOf O od ps ∧ (∀ x, po = some x → w.heap.size ≤ x.block) ∧ Below w.heap.size w w' := by
  have HNUM : Hid _ := hnum
  have HFT : Hid _ := hft
  have HO : Hid _ := hO
  have HLT : Hid _ := hlt
  have HCE : Hid _ := hcell
  have HLN : Hid _ := hlen
  have hol : od.length ≤ 12 := by omega
  clear hnum hft hO hlt hcell hlen
  have hF := enter68
  go_enter Try.func57, Try.ntmps57
  go_upto_region 1 with (fail)
  obtain ⟨fv, hfv⟩ : ∃ fv, fv = Value.func (.func 58) #[] #[.pointer (some ⟨bx, 0, none⟩)] := ⟨_, rfl⟩
  rw [← hfv]
  have t6 : One (w.alloc (Obj.cells #[fv] 92)) w.heap.size fv 92 := one_new w _ _
  have hB := below_alloc (Below.refl w.heap.size w) (Obj.cells #[fv] 92)
  have hz : (w.alloc (Obj.cells #[fv] 92)).heap.size = w.heap.size + 1 := by simp
  generalize w.alloc (Obj.cells #[fv] 92) = W0 at t6 hB hz ⊢
  go_upto_region 2 with (fail)
  have u6 := one_alloc (one_alloc t6 (Obj.cells #[.slice none 0 0] 22)) (Obj.cells #[.slice none 0 0] 22)
  have u3 := one_alloc (one_new W0 (.slice none 0 0) 22) (Obj.cells #[.slice none 0 0] 22)
  have u4 := one_new (W0.alloc (Obj.cells #[.slice none 0 0] 22)) (.slice none 0 0) 22
  have hB1 := below_alloc (below_alloc hB (Obj.cells #[.slice none 0 0] 22)) (Obj.cells #[.slice none 0 0] 22)
  have hz1 : ((W0.alloc (Obj.cells #[.slice none 0 0] 22)).alloc (Obj.cells #[.slice none 0 0] 22)).heap.size = w.heap.size + 3 := by simp [hz]
  have hz1' : (W0.alloc (Obj.cells #[.slice none 0 0] 22)).heap.size = w.heap.size + 2 := by simp [hz]
  rw [hz1'] at u4
  rw [hz] at u3
  generalize (W0.alloc (Obj.cells #[.slice none 0 0] 22)).alloc (Obj.cells #[.slice none 0 0] 22) = W1 at u6 u3 u4 hB1 hz1 ⊢
  clear t6 hB hz1'
  go_upto_region 3 with (fail)
  have x6 := one_alloc u6 (Obj.cells #[.int .i64 (-1)] 3)
  have x3 := one_alloc u3 (Obj.cells #[.int .i64 (-1)] 3)
  have x4 := one_alloc u4 (Obj.cells #[.int .i64 (-1)] 3)
  have x2 := one_new W1 (.int .i64 (-1)) 3
  have hB2 := below_alloc hB1 (Obj.cells #[.int .i64 (-1)] 3)
  have hz2 : (W1.alloc (Obj.cells #[.int .i64 (-1)] 3)).heap.size = w.heap.size + 4 := by simp [hz1]
  rw [hz1] at x2
  generalize W1.alloc (Obj.cells #[.int .i64 (-1)] 3) = W2 at x6 x3 x4 x2 hB2 hz2 ⊢
  clear u6 u3 u4 hB1 hz1 hz
  go_upto_region 4 with (fail)
  have y6 := one_alloc x6 (Obj.cells #[.nilFunc] 111)
  have y3 := one_alloc x3 (Obj.cells #[.nilFunc] 111)
  have y4 := one_alloc x4 (Obj.cells #[.nilFunc] 111)
  have y2 := one_alloc x2 (Obj.cells #[.nilFunc] 111)
  have y5 := one_new W2 .nilFunc 111
  have hB3 := below_alloc hB2 (Obj.cells #[.nilFunc] 111)
  have hz3 : (W2.alloc (Obj.cells #[.nilFunc] 111)).heap.size = w.heap.size + 5 := by simp [hz2]
  rw [hz2] at y5
  generalize W2.alloc (Obj.cells #[.nilFunc] 111) = W3 at y6 y3 y4 y2 y5 hB3 hz3 ⊢
  clear x6 x3 x4 x2 hB2 hz2
  have c5 := cell_of_one y5
  have f5 := one_free y5
  go_upto_region 5 with (fail)
  obtain ⟨cl, hcl⟩ : ∃ cl, cl = Value.func (.func 68) #[] #[.pointer (some ⟨w.heap.size + 3, 0, none⟩), .pointer (some ⟨w.heap.size + 1, 0, none⟩), .pointer (some ⟨w.heap.size + 1 + 1, 0, none⟩), .pointer (some ⟨w.heap.size + 4, 0, none⟩), .pointer (some ⟨w.heap.size, 0, none⟩)] := ⟨_, rfl⟩
  rw [← hcl]
  have z6 := one_far (b' := w.heap.size + 4) (o := 0) (u := cl) y6 (by omega)
  have z3 := one_far (b' := w.heap.size + 4) (o := 0) (u := cl) y3 (by omega)
  have z4 := one_far (b' := w.heap.size + 4) (o := 0) (u := cl) y4 (by omega)
  have z2 := one_far (b' := w.heap.size + 4) (o := 0) (u := cl) y2 (by omega)
  have z5 := one_set (y := cl) y5
  have hB4 := hB3.setCell (p := ⟨w.heap.size + 4, 0, none⟩) (by simp) cl
  generalize W3.setCell ⟨w.heap.size + 4, 0, none⟩ cl = W4 at z6 z3 z4 z2 z5 hB4 ⊢
  clear y6 y3 y4 y2 y5 hB3 hz3 c5 f5
  have k5 := cell_of_one z5
  rw [hcl] at k5
  rw [hfv] at z6
  have hps : PS W4 w.heap.size (w.heap.size + 3) (w.heap.size + 1) (w.heap.size + 1 + 1) (w.heap.size + 4) w.heap.size bx (-1) [] [] none 0 := by
    refine ⟨z2, z3, World.ownsRow_nil _ _ _ _, ⟨none, 0, z4, edgesAt_nil _, (fun x hx => by cases hx)⟩, by rw [← hcl]; exact z5, z6, by omega, by omega⟩
  have hcall := try_call (O := O) (w0 := w) (od := od) (fun u hu => by have := HLT.out u hu; omega) (fun u v hu hv => by
      obtain ⟨D, hD⟩ := HO.out u v hu hv
      exact ⟨D, hD, by have := (HFT.out.dist u hu).lt (HLT.out v hv) hD; omega⟩) (fun w' hb u v D hu hv hD => by
      have hr := HFT.out.row.cell (HLT.out u hu)
      simp only [if_pos hu] at hr
      have hr2 := (HFT.out.rows u hu).1.cell (HLT.out v hv)
      have hz : farZ (O u v) = (D : Int) := by rw [hD]; rfl
      rw [hz] at hr2
      exact farOf_call (N := N) ((hb.cell (by exact World.block_lt_of_cell? w _ HCE.out)).trans HCE.out) ((hb.cell (by exact World.block_lt_of_cell? w _ hr)).trans hr) ((hb.cell (by exact World.block_lt_of_cell? w _ hr2)).trans hr2) (HLT.out u hu) (HLT.out v hv)) n W4 od oo oc 0 (-1) [] [] none 0 HLN.out (fun x hx => hx) (fun k u hu => by
      obtain ⟨b, h1, h2⟩ := HNUM.out k u hu
      exact ⟨b, h1, (hB4.cell (by exact World.block_lt_of_cell? w _ h2)).trans h2⟩) hoc ?hlb hps hB4 (fun _ _ => rfl) (fun e he => by simp at he) (by simp; omega) (by omega) (by omega) (by omega)
  case hlb =>
    intro x hx hne
    have hpos : 0 < od.length := List.length_pos_iff.2 hne
    obtain ⟨b, h1, h2⟩ := HNUM.out 0 (od[0]) (List.getElem?_eq_getElem hpos)
    rw [hx] at h1
    cases h1
    have hl := World.block_lt_of_cell? w _ h2
    have hl' : b < w.heap.size := hl
    refine ⟨Nat.lt_of_lt_of_le hl hB4.size, fun hm => ?_⟩
    rcases hm with h | h | h | h
    · have h' : b = w.heap.size + 3 := h; omega
    · have h' : b = w.heap.size + 1 := h; omega
    · have h' : b = w.heap.size + 1 + 1 := h; omega
    · cases h
  have HC : Hid _ := hcall
  clear hcall
  go_wp2_with (first
    | (go_at_call 68; refine Calls.mono HC.out ?_; rintro r wa ⟨rfl, lst', best', co', ⟨cc', hpsE⟩, hbest, hblk, kT, hl'⟩; obtain ⟨bo, bc, k4, kE, kb⟩ := hpsE.h4; have c4 := cell_of_one k4)
    | go_in)
  go_ret
  have hfin : LeastOf O od best' := by
    obtain ⟨qs, hq⟩ := pair_ex n od HLN.out
    rcases hbest with ⟨_, _, h⟩ | ⟨ps, h1, h2, h3, h4, _⟩
    · have := (h qs hq).1
      omega
    · have e : best' = ps := by simpa using h3
      rw [e]
      refine ⟨h1, fun qs hq => ?_⟩
      have := h4 qs hq
      omega
  exact ⟨bo, bc, best', rfl, kE, hfin, fun x hx => (kb x hx).1, kT.below hB4 hB4.size (fun k hk => by
    rcases hk with h | h | h | h
    · omega
    · omega
    · omega
    · cases h)⟩
end Go.Proofs.Ytkbgcbbloogdjac
