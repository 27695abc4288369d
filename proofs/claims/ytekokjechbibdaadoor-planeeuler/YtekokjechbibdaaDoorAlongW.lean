/- along and faceOf. -/
import Derived.Test.YtekokjechbibdaaDoorSmallM
import Derived.Test.YtekokjechbibdaaDoorTail2
import Derived.Test.YtekokjechbibdaaDoorPiecesW
namespace Go.Proofs.YtekokjechbibdaaDoor
set_option maxRecDepth 8000
open Go.RowKit Go.Maps
attribute [local go_sem ↓] Go.wp_at_zero Go.wp_at_succ
set_option maxHeartbeats 2000000 in
theorem faceOf_call {w : World} {b off cap : Nat} {l : List Nat} (hn : NumL w b off l) (hl : ∀ x ∈ l, x < 128) (hlen : l.length ≤ 1000) :
    Calls Tryd.prog 57 #[.slice (some ⟨b, off, none⟩) l.length cap] w fun e w' => e = .returned (.agg #[.slice (some ⟨b, off, none⟩) l.length cap, .int .u64 (lo64 (setOf l) : Int), .int .u64 (hi64 (setOf l) : Int)]) ∧ Below w.heap.size w w' := by
  have hB0 : Below w.heap.size w (w.alloc (Obj.cells #[.slice none 0 0, .int .u64 0, .int .u64 0] 86)) := below_alloc (Below.refl _ w) _
  have hb2 : Box (w.alloc (Obj.cells #[.slice none 0 0, .int .u64 0, .int .u64 0] 86)) w.heap.size #[.slice none 0 0, .int .u64 0, .int .u64 0] 86 := heap_alloc_new _ _
  have C56 : Hid (Calls Tryd.prog 56 #[.slice (some ⟨b, off, none⟩) l.length cap] (w.alloc (Obj.cells #[.slice none 0 0, .int .u64 0, .int .u64 0] 86)) fun e w' => e = .returned (sv (setOf l)) ∧ Below (w.alloc (Obj.cells #[.slice none 0 0, .int .u64 0, .int .u64 0] 86)).heap.size (w.alloc (Obj.cells #[.slice none 0 0, .int .u64 0, .int .u64 0] 86)) w') := by
    refine setOf_call (fun k u hk => ?_) hl hlen
    have := hn k u hk
    exact (hB0.cell (World.block_lt_of_cell? _ _ this)).trans this
  have HB2 : Hid _ := hb2
  have HB0 : Hid _ := hB0
  clear hn hl hlen hb2 hB0
  generalize setOf l = S at *
  generalize l.length = n at *
  go_enter Tryd.func57, Tryd.ntmps57
  go_wp2_with (first | (go_at_call 56; refine Calls.mono C56.out ?_; rintro e w1 ⟨rfl, h1⟩; have hbx : Box w1 w.heap.size #[.slice none 0 0, .int .u64 0, .int .u64 0] 86 := (h1.block _ (lt_of_block HB2.out)).trans HB2.out; have q0 := box_free hbx 0; have q1 := box_cell hbx (i := 0) rfl; have hb1 := box_set hbx 0 (.slice (some ⟨b, off, none⟩) n cap); have q2 := box_free hb1 1; have q3 := box_cell hb1 (i := 1) rfl; have hb3 := box_set hb1 1 (.int .u64 (lo64 S : Int)); have q4 := box_free hb3 2; have q5 := box_cell hb3 (i := 2) rfl; have hb5 := box_set hb3 2 (.int .u64 (hi64 S : Int)); have r0 := box_cell hb5 (i := 0) rfl; have r1 := box_cell hb5 (i := 1) rfl; have r2 := box_cell hb5 (i := 2) rfl; have hBf := below_next HB0.out h1; clear hbx hb1 hb3 hb5) | go_in)
  refine bodyPost_ret (v := .agg #[.slice (some ⟨b, off, none⟩) n cap, .int .u64 (lo64 S : Int), .int .u64 (hi64 S : Int)]) ?_ rfl ⟨rfl, ((hBf.setCell (Nat.le_refl _) _).setCell (Nat.le_refl _) _).setCell (Nat.le_refl _) _⟩
  simp [results, Tryd.results57, go_sem, r0, r1, r2]
/-- A row of numbers of one's own: the answer of a function. -/
def NumsA (w0 w' : World) (e : Ending) (l : List Nat) : Prop := ∃ g c, e = .returned (.slice (some ⟨g, 0, none⟩) l.length c) ∧ w'.ownsRow w0.heap.size 3 1 (.slice (some ⟨g, 0, none⟩) l.length c) l.length (qv l) ∧ Below w0.heap.size w0 w'
theorem NumL.srcAt {w : World} {b off : Nat} {l : List Nat} (h : NumL w b off l) : SrcAt w (some ⟨b, off, none⟩) l := fun j u hj => ⟨⟨b, off, none⟩, rfl, by rw [show (⟨b, off, none⟩ : Addr).add j = ⟨b, off + j, none⟩ by simp [Addr.add]]; exact h j u hj⟩
set_option maxHeartbeats 2000000 in
theorem along_call {w : World} {b off cap fr to' : Nat} {l : List Nat} (hn : NumL w b off l) (hlen : l.length ≤ 1000) (hc : l.length ≤ cap) (hf : fr < l.length) (ht : to' < l.length) :
    Calls Tryd.prog 74 #[.slice (some ⟨b, off, none⟩) l.length cap, .int .i64 (fr : Int), .int .i64 (to' : Int)] w fun e w' => NumsA w w' e (along l fr to') := by
  by_cases hle : fr ≤ to'
  · have ha : along l fr to' = (l.take (to' + 1)).drop fr := by unfold along; rw [if_pos hle]
    have hal : ((l.take (to' + 1)).drop fr).length = to' + 1 - fr := by rw [List.length_drop, List.length_take]; omega
    have hsub : NumL w b (off + fr) ((l.take (to' + 1)).drop fr) := (hn.take (to' + 1)).drop fr
    have C73 := cloneL_call (w := w) (g := b) (o := off + fr) (pc := cap - fr) (l := (l.take (to' + 1)).drop fr) (by omega) hsub
    rw [ha]
    unfold NumsA
    rw [hal] at C73 ⊢
    have H73 : Hid _ := C73
    generalize (l.take (to' + 1)).drop fr = S at *
    generalize l.length = n at *
    clear C73 hn ha hal hsub
    have i1 : (0 : Int) ≤ (fr : Int) := by omega
    have i2 : (fr : Int) ≤ (to' : Int) := by omega
    have i3 : (fr : Int) ≤ (to' : Int) + 1 := by omega
    have i4 : (to' : Int) + 1 ≤ (cap : Int) := by omega
    have i5 : ¬ cap = fr := by omega
    have i6 : ¬ (cap : Int) = (fr : Int) := by omega
    go_enter Tryd.func74, Tryd.ntmps74
    go_wp2_with (first | (go_at_call 73; refine Calls.mono H73.out ?_; rintro e w1 ⟨g1, c1, rfl, h1, h2, h3⟩) | go_in)
    go_ret
    exact ⟨g1, c1, rfl, h1, h3⟩
  · have ha : along l fr to' = l.drop fr ++ l.take (to' + 1) := by unfold along; rw [if_neg hle]
    have hl1 : (l.drop fr).length = l.length - fr := List.length_drop
    have hl2 : (l.take (to' + 1)).length = to' + 1 := by rw [List.length_take]; omega
    have hA : NumL w b (off + fr) (l.drop fr) := hn.drop fr
    have hB : NumL w b off (l.take (to' + 1)) := hn.take (to' + 1)
    have C80 : Hid (∀ A : World, Below w.heap.size w A → Calls Tryd.prog 80 #[.slice (some ⟨A.heap.size, 0, none⟩) 2 2] (A.alloc (Obj.cells #[.slice (some ⟨b, off + fr, none⟩) (l.length - fr) (cap - fr), .slice (some ⟨b, off, none⟩) (to' + 1) cap] 61)) fun r w' => ∃ v, r = .returned v ∧ w'.ownsRow (A.alloc (Obj.cells #[.slice (some ⟨b, off + fr, none⟩) (l.length - fr) (cap - fr), .slice (some ⟨b, off, none⟩) (to' + 1) cap] 61)).heap.size 3 1 v (along l fr to').length (qv (along l fr to')) ∧ Below (A.alloc (Obj.cells #[.slice (some ⟨b, off + fr, none⟩) (l.length - fr) (cap - fr), .slice (some ⟨b, off, none⟩) (to' + 1) cap] 61)).heap.size (A.alloc (Obj.cells #[.slice (some ⟨b, off + fr, none⟩) (l.length - fr) (cap - fr), .slice (some ⟨b, off, none⟩) (to' + 1) cap] 61)) w') := fun A hA' => by
      obtain ⟨c0, c1⟩ := cell_two (two_new A (.slice (some ⟨b, off + fr, none⟩) (l.length - fr) (cap - fr)) (.slice (some ⟨b, off, none⟩) (to' + 1) cap) 61)
      have hBA : Below w.heap.size w (A.alloc (Obj.cells #[.slice (some ⟨b, off + fr, none⟩) (l.length - fr) (cap - fr), .slice (some ⟨b, off, none⟩) (to' + 1) cap] 61)) := below_alloc hA' _
      have := concat_call (w := A.alloc (Obj.cells #[.slice (some ⟨b, off + fr, none⟩) (l.length - fr) (cap - fr), .slice (some ⟨b, off, none⟩) (to' + 1) cap] 61)) (b := A.heap.size) (A := l.drop fr) (B := l.take (to' + 1)) (o1 := some ⟨b, off + fr, none⟩) (o2 := some ⟨b, off, none⟩) (c1 := cap - fr) (c2 := cap) (by rw [hl1]; exact c0) (by rw [hl2]; exact c1) (hA.srcAt.below hBA) (hB.srcAt.below hBA) (by omega) (by omega)
      rw [← ha] at this
      exact this
    have hpos : 0 < (along l fr to').length := by rw [ha, List.length_append]; omega
    generalize along l fr to' = R at *
    generalize l.length = n at *
    clear hA hB hl1 hl2 ha hn
    have i1 : (0 : Int) ≤ (fr : Int) := by omega
    have i2 : ¬ (fr : Int) ≤ (to' : Int) := by omega
    have i3 : (fr : Int) ≤ (n : Int) := by omega
    have i4 : (to' : Int) + 1 ≤ (cap : Int) := by omega
    have i5 : ¬ cap = fr := by omega
    have i6 : ¬ (cap : Int) = (fr : Int) := by omega
    have i7 : (n : Int) ≤ (cap : Int) := by omega
    have i8 : (0 : Int) ≤ (to' : Int) + 1 := by omega
    have i9 : IntKind.i64.wrap ((to' : Int) + 1) = (to' : Int) + 1 := by rw [IntKind.wrap_i64]; omega
    have i10 : ((to' : Int) + 1).toNat = to' + 1 := by omega
    have i11 : ¬ cap = 0 := by omega
    go_enter Tryd.func74, Tryd.ntmps74
    go_upto_region 3 with (fail)
    refine wp_region_tailT 7 (by kernel_rfl) (by kernel_rfl) (by kernel_rfl) (by decide) ?_
    simp only [List.take_succ_cons, List.take_zero, List.drop_succ_cons, List.drop_zero]
    repeat (quiet_step (fail))
    refine wpQuiet_nil ?_
    rintro _ ⟨gp, rfl⟩
    have hBg := growD_below w gp
    generalize growD w gp = wg at *
    have C80' : Hid _ := C80.out wg hBg
    go_wp2_with (first | (go_at_call 80; refine Calls.mono C80'.out ?_; rintro e w1 ⟨v, rfl, h1, h2⟩) | go_in)
    go_ret
    obtain ⟨g1, c1, hv, _⟩ := h1.form hpos
    subst hv
    have hBa := below_alloc hBg (Obj.cells #[.slice (some ⟨b, off + fr, none⟩) (n - fr) (cap - fr), .slice (some ⟨b, off, none⟩) (to' + 1) cap] 61)
    exact ⟨g1, c1, rfl, ownsRow_base h1 hBa.size, below_next hBa h2⟩
end Go.Proofs.YtekokjechbibdaaDoor
