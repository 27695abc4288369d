/- Small callees of Postman: a lookup, slices.Grow and slices.Concat of nothing, slices.Clone of pairs. -/
import Derived.Laws.EntriesVeiled
import Derived.Test.YtkbgcbbloogdjacWay
import Derived.Test.YtkbgcbbloogdjacHome
namespace Go.Proofs.Ytkbgcbbloogdjac
open Go.RowKit Go.Maps
attribute [local go_sem ↓] Go.wp_at_zero Go.wp_at_succ

set_option maxHeartbeats 400000 in
theorem farOf_call {w : World} {b gf bu N : Nat} {u v : Nat} {z : Int} (h1 : w.cell? ⟨b, 0, none⟩ = some (.slice (some ⟨gf, 0, none⟩) N N)) (h2 : w.cell? ⟨gf, u, none⟩ = some (.slice (some ⟨bu, 0, none⟩) N N)) (h3 : w.cell? ⟨bu, v, none⟩ = some (.int .i64 z)) (hu : u < N) (hv : v < N) :
    Calls Try.prog 58 #[.int .i64 (u : Int), .int .i64 (v : Int), .pointer (some ⟨b, 0, none⟩)] w fun r w' => r = .returned (.int .i64 z) ∧ w' = w := by
  have i1 : (0 : Int) ≤ (u : Int) := by omega
  have i2 : (u : Int) < (N : Int) := by omega
  have i3 : (0 : Int) ≤ (v : Int) := by omega
  have i4 : (v : Int) < (N : Int) := by omega
  go_enter Try.func58, Try.ntmps58
  go_wp2
  go_ret
  exact ⟨rfl, rfl⟩

set_option maxHeartbeats 400000 in
theorem grow0_call (w : World) : Calls Try.prog 87 #[.slice none 0 0, .int .i64 0] w fun r w' => r = .returned (.slice none 0 0) ∧ w' = w := by
  go_enter Try.func87, Try.ntmps87
  go_wp2
  go_ret
  exact ⟨rfl, rfl⟩

theorem run_append0 (w : World) (ao : Option Addr) (cap : Nat) (ty : TypeId) : (Builtin.append_ #[29, 29] ty #[.slice none 0 0, .slice ao 0 cap]).run Try.prog w = .ok (.slice none 0 0) w := by
  cases ao with
  | none => simp [Builtin.append_, go_sem]
  | some a => simp [Builtin.append_, go_sem]

set_option maxHeartbeats 1000000 in
/-- slices.Concat of two empty slices. -/
theorem concat0_call {w : World} {b : Nat} {o1 o2 : Option Addr} {c1 c2 : Nat} (h1 : w.cell? ⟨b, 0, none⟩ = some (.slice o1 0 c1)) (h2 : w.cell? ⟨b, 1, none⟩ = some (.slice o2 0 c2)) :
    Calls Try.prog 65 #[.slice (some ⟨b, 0, none⟩) 2 2] w fun r w' => r = .returned (.slice none 0 0) ∧ w' = w := by
  go_enter Try.func65, Try.ntmps65
  go_wp2
  go_loopw [3, 11] (fun s i wr => ∃ k : Nat, k ≤ 2 ∧ i = .int .i64 (k : Int) ∧ s = .int .i64 0 ∧ wr = w) (fun _ i _ => 2 - (numOf i).toNat)
  case atStart => exact ⟨0, Nat.zero_le _, rfl, rfl, rfl⟩
  case round =>
    obtain ⟨k, hk, rfl, rfl, rfl⟩ := hrel
    match k, hk with
    | 0, _ =>
      go_wp2
      go_roundw
      case rel => exact ⟨1, by omega, rfl, rfl, trivial⟩
      case measure => simp [numOf]
    | 1, _ =>
      go_wp2
      go_roundw
      case rel => exact ⟨2, by omega, rfl, rfl, trivial⟩
      case measure => simp [numOf]
    | 2, _ =>
      go_wp2_with (first
        | (go_at_call 87; refine (grow0_call _).mono ?_; rintro r wa ⟨rfl, hwa⟩)
        | go_in)
      go_loopw [6, 27] (fun s i wq => ∃ k : Nat, k ≤ 2 ∧ i = .int .i64 (k : Int) ∧ s = .slice none 0 0 ∧ wq = wa) (fun _ i _ => 2 - (numOf i).toNat)
      case atStart => exact ⟨0, Nat.zero_le _, rfl, rfl, hwa.symm⟩
      case round =>
        obtain ⟨k, hk, rfl, rfl, hwq⟩ := hrel
        subst hwq hwa
        match k, hk with
        | 0, _ =>
          cases o1
          all_goals
            go_wp2
            go_roundw
            case rel => exact ⟨1, by omega, rfl, rfl, trivial⟩
            case measure => simp [numOf]
        | 1, _ =>
          cases o2
          all_goals
            go_wp2
            go_roundw
            case rel => exact ⟨2, by omega, rfl, rfl, trivial⟩
            case measure => simp [numOf]
        | 2, _ =>
          go_wp2
          go_ret
          exact ⟨rfl, rfl⟩

theorem eqlNil (ad : Addr) (n c : Nat) (w : World) : (binOp .eql 22 (.slice (some ad) n c) (.slice none 0 0)).run Try.prog w = .ok (.bool false) w := by
  simpa using Lib.run_eql_slice_nil (P := Try.prog) w 22 59 (some ad) n c 0 0 Try.underlying22

theorem ownsRow_none (w : World) (base : Nat) (t : TypeId) (sz : Nat) (hb : base ≤ w.heap.size) : (w.alloc (Obj.cells #[] t)).ownsRow base t sz (.slice (some ⟨w.heap.size, 0, none⟩) 0 0) 0 [] :=
  ⟨by simp, Or.inr ⟨w.heap.size, 0, #[], rfl, hb, heap_alloc_new _ _, by simp, by simp, by simp, by simp⟩⟩

set_option maxRecDepth 8000 in
set_option maxHeartbeats 1000000 in
/-- slices.Clone of some pairs. -/
theorem clone_call {w : World} {ad : Addr} {cap : Nat} {es : List Pair} (hE : EdgesAt w (.slice (some ad) es.length cap) es) (hpos : 0 < es.length) (hl : es.length ≤ 1000) :
    Calls Try.prog 69 #[.slice (some ad) es.length cap] w fun r w' => ∃ ao c, r = .returned (.slice ao es.length c) ∧ EdgesAt w' (.slice ao es.length c) es ∧ (∀ x, ao = some x → w.heap.size ≤ x.block) ∧ Below w.heap.size w w' := by
  have hI : ∀ e ∈ es, I64 e.1 ∧ I64 e.2 := by obtain ⟨_, _, _, _, h, _⟩ := hE; exact h
  have HE : Hid _ := hE
  have HI : Hid _ := hI
  have heq := eqlNil ad es.length cap
  clear hE hI
  go_enter Try.func69, Try.ntmps69
  obtain ⟨i0, hi, hz0, hz1, hz2⟩ := info_parts Try.info59
  go_wp2_with (first
    | (at_builtin; refine wpList_append_lies _ rfl _ _ 22 rfl w.heap.size 59 i0 (.agg #[.int .i64 0, .int .i64 0]) 2 16 Try.underlying22 hi hz0 hz1 hz2 rfl (by decide) (.slice (some ⟨w.heap.size, 0, none⟩) 0 0) 0 [] rfl (ownsRow_none w _ 59 2 (Nat.le_refl _)) ad es.length cap (flat es) rfl (flat_length es) (edges_news (EdgesAt.below HE.out (below_alloc (Below.refl _ w) _))) (flat_one es) hpos (by unfold maxLen; omega) (by omega) (by simp) (w.heap.size + 1) (by simp) ?_; intro g1 c1 w1 hown1 hgr1 hat1 hlt1)
    | go_in)
  go_ret
  have hE1 := edgesAt_row (base := w.heap.size) (L := es) (by simpa using hown1) HI.out (by omega)
  refine ⟨some ⟨g1, 0, none⟩, c1, by simp, hE1, fun x hx => by cases hx; exact (hown1.lt g1 rfl).1, ?_⟩
  exact ((alloc_turns w (Obj.cells #[] 59) (fun k => k = w.heap.size)).trans ((Turns.of_grown hgr1).mono (fun k _ hk => by simpa [Value.ownBlock] using hk))).below (Below.refl _ _) (Nat.le_refl _) (fun k hk => by omega)
end Go.Proofs.Ytkbgcbbloogdjac
