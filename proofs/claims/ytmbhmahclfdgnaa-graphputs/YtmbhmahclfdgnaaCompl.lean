/- Complement: the graph of the pairs that are not near. -/
import Derived.Test.YtmbhmahclfdgnaaSees
import Derived.Laws.EntriesVeiled
namespace Go.Proofs.Ytmbhmahclfdgnaa
open Go.RowKit Go.Maps

theorem enter35 (args : Array Value) (w : World) : (callFunc 35 args).run Try.prog w = .ok (.enter 35 args) w := by
  simp [callFunc, Try.func35, go_sem]
  rw [if_neg (of_decide_eq_true (by kernel_rfl)), if_neg (by intro h; have : Try.f35.body.isSome = true := (by kernel_rfl); rw [h] at this; cases this)]

set_option maxHeartbeats 400000 in
theorem compl_call {w : World} {By Bx : Nat} {es : List Pair} (hy : w.cell? ⟨By, 0, none⟩ = some (.func (.func 44) #[] #[.pointer (some ⟨Bx, 0, none⟩)])) (hN : NearAt w Bx es) {u v : Int} (hu : I64 u) (hv : I64 v) :
    Calls Try.prog 35 #[.int .i64 u, .int .i64 v, .pointer (some ⟨By, 0, none⟩)] w fun e w' => e = .returned (.bool (!hasB es u v)) ∧ Below w.heap.size w w' := by
  go_enter Try.func35, Try.ntmps35
  go_wp2_with (go_at_call 44; refine (near_has hN hu hv).mono ?_; rintro e w1 ⟨rfl, hb⟩)
  go_ret
  exact ⟨rfl, hb⟩

def complS (n : Int) (es : List Pair) : Ans := if (chk n es).1 = 0 then buildS n.toNat (fun u v => !hasB es u v) else ⟨0, [], (chk n es).1, (chk n es).2⟩

set_option maxHeartbeats 1000000 in
theorem compl_tells (n : Int) (v : Value) (es : List Pair) (w : World) (hE : EdgesAt w v es) : Tells 19 #[.agg #[.int .i64 n, v]] w (complS n es) := by
  unfold Tells
  go_enter Try.func19, Try.ntmps19
  by_cases hc0 : (chk n es).1 = 0
  · have hc1 : ((chk n es).1 != 0) = false := by simpa using hc0
    obtain ⟨hck, hn0, hn1, hl, hgood⟩ := chk_good hc0
    obtain ⟨m, rfl⟩ : ∃ m : Nat, n = m := ⟨n.toNat, by omega⟩
    clear hgood
    go_wp2_with (first | (go_at_call 32; refine (nearIn_any _ v es _ ?_).mono ?_; exact hE.below (below3 _ _ _); rintro e w1 ⟨hb, ⟨hc, rfl⟩ | ⟨hc, Bx, rfl, hnear⟩⟩; exact absurd hc0 hc; obtain ⟨bc, bf, bc1, bf1, bc2, bf2⟩ := bcell hb; have hz := hb.size; simp at hz) | (go_at_call 33; refine (build_tells m 35 #[.pointer (some ⟨w1.heap.size, 0, none⟩)] (fun u v => !hasB es u v) _ enter35 ?_).mono ?_; exact fun hm w' hw' u v h1 h2 => compl_call (By := w1.heap.size) (Bx := Bx) (es := es) (by rw [hw'.cell (by simp; omega)]; exact all_alloc (cell_of_one (heap_alloc_new w1 _)) _) ((hnear.below (below2 _ _)).below hw') (by constructor <;> omega) (by constructor <;> omega); rintro e w2 ⟨hb2, ao2, cap2, rfl, hE2, hfr⟩; have hb3 := below_next (below_alloc (below_alloc hb _) _) hb2; obtain ⟨bc3, bf3, bc4, bf4, bc5, bf5⟩ := bcell hb3))
    rw [show complS m es = buildS m (fun u v => !hasB es u v) by unfold complS; rw [if_pos hc0]; simp]
    refine bodyPost_ret (v := .tuple #[.agg #[.int .i64 (buildS m (fun u v => !hasB es u v)).n, .slice ao2 (buildS m (fun u v => !hasB es u v)).es.length cap2], .agg #[.int .i64 (buildS m (fun u v => !hasB es u v)).c, .int .i64 (buildS m (fun u v => !hasB es u v)).pos]]) ?_ rfl ⟨?_, ao2, cap2, rfl, ?_, ?_⟩
    · simp [results, Try.results19, go_sem, bc3]
    · exact below_set4 (below_next (below3 _ _ _) hb3) (by simp) (by simp) (by simp; omega) (by simp; omega)
    · have q : ∀ x, ao2 = some x → w.heap.size + 1 + 1 < x.block := fun x hx => by have := hfr x hx; simp at this; omega
      exact (((hE2.setCell (fun x hx => by have := q x hx; simp; omega) _).setCell (fun x hx => by have := q x hx; simp; omega) _).setCell (fun x hx => by have := q x hx; simp; omega) _).setCell (fun x hx => by have := q x hx; simp; omega) _
    · intro x hx; have := hfr x hx; simp at this; omega
  · have hc1 : ((chk n es).1 != 0) = true := by simpa using hc0
    go_wp2_with (go_at_call 32; refine (nearIn_any n v es _ ?_).mono ?_; exact hE.below (below3 _ _ _); rintro e w1 ⟨hb, ⟨hc, rfl⟩ | ⟨hc, Bx, rfl, hnear⟩⟩; rotate_left; exact absurd hc hc0; obtain ⟨bc, bf, bc1, bf1, bc2, bf2⟩ := bcell hb; have hz := hb.size; simp at hz)
    go_region
    go_wp2
    rw [show complS n es = ⟨0, [], (chk n es).1, (chk n es).2⟩ by unfold complS; rw [if_neg hc0]]
    refine bodyPost_ret (v := .tuple #[.agg #[.int .i64 0, .slice none 0 0], .agg #[.int .i64 (chk n es).1, .int .i64 (chk n es).2]]) ?_ rfl ⟨?_, none, 0, rfl, edgesAt_nil _, fun x h => by cases h⟩
    · simp [results, Try.results19, go_sem, bc2]
    · exact (below_set4 (below_alloc (below_alloc (below_next (below3 _ _ _) hb) _) _) (by simp) (by simp) (by simp; omega) (by simp; omega)).drew
end Go.Proofs.Ytmbhmahclfdgnaa
