/- Parts of the walk of GraphChecks. -/
import Derived.Test.YtmeodnkmhakidaaOf
import Derived.Test.YtmeodnkmhakidaaOwn
import Derived.Test.YtmeodnkmhakidaaRefCheck
import Derived.Deep.Light
namespace Go.Proofs.Ytmeodnkmhakidaa
open Go.RowKit Go.Maps
attribute [local go_sem ↓] Go.wp_at_zero Go.wp_at_succ

/- how many pairs a list of edges can make -/
theorem nodup_len : ∀ (l m : List Pair), l.Nodup → (∀ e ∈ l, e ∈ m) → l.length ≤ m.length
  | [], _, _, _ => Nat.zero_le _
  | a :: l, m, hn, hs => by
    have hn' := List.nodup_cons.1 hn
    have ha := hs a (by simp)
    have h := nodup_len l (m.erase a) hn'.2 (fun e he => (List.mem_erase_of_ne (fun (h : e = a) => hn'.1 (h ▸ he))).2 (hs e (by simp [he])))
    rw [List.length_erase_of_mem ha] at h
    have : 0 < m.length := List.length_pos_of_mem ha
    simp
    omega

theorem rowTo_nodup (p : Int → Int → Bool) (u v : Nat) : (rowTo p u v).Nodup := by
  unfold rowTo
  refine List.Pairwise.map _ (R := fun a b => a ≠ b) (fun a b h e => h ?_) (List.nodup_range.filter _)
  simp at e
  omega
theorem allP_nodup (n : Nat) (p : Int → Int → Bool) : (allP n p).Nodup := by
  unfold allP rowsTo List.Nodup
  rw [List.pairwise_flatMap]
  refine ⟨fun u _ => rowTo_nodup p u n, ?_⟩
  refine List.Pairwise.imp (fun {a b} (hne : a ≠ b) => ?_) List.nodup_range
  intro e h1 e' h2 ee
  subst ee
  simp [rowTo] at h1 h2
  obtain ⟨_, _, rfl⟩ := h1
  obtain ⟨_, _, h⟩ := h2
  simp at h
  omega
theorem allP_has_le (n : Nat) (es : List Pair) : (allP n (hasB es)).length ≤ es.length := by
  have h := nodup_len (allP n (hasB es)) (es.map fun e => (min e.1 e.2, max e.1 e.2)) (allP_nodup n _) (fun e he => by
    obtain ⟨u, v, h1, h2, h3, rfl⟩ := allP_mem.1 he
    simp only [hasB, List.any_eq_true] at h3
    obtain ⟨e, he, hb⟩ := h3
    refine List.mem_map.2 ⟨e, he, ?_⟩
    simp at hb
    ext <;> simp <;> omega)
  simpa using h

theorem formS_good {m : Nat} {es : List Pair} (h : (chk m es).1 = 0) : formS m es = ⟨m, allP m (hasB es), 0, 0⟩ := by
  obtain ⟨_, h1, h2, h3, _⟩ := chk_good h
  unfold formS
  rw [if_pos h]
  have := allP_has_le m es
  exact buildS_ok (by omega) (by simpa using Nat.le_trans this h3)
abbrev Two (w : World) (b : Nat) (x y : Value) (t : TypeId) : Prop := w.heap[b]? = some (.cells #[x, y] t (0, 0))
theorem two_next {W w1 : World} {b : Nat} {x y : Value} {t : TypeId} (h : Two W b x y t) (hb : Below W.heap.size W w1) : Two w1 b x y t := (hb.block b (lt_of_block h)).trans h
theorem two_alloc {w : World} {b : Nat} {x y : Value} {t : TypeId} (h : Two w b x y t) (o : Obj) : Two (w.alloc o) b x y t := (Below.heap_alloc _ _ _ (lt_of_block h)).trans h
theorem two_new (w : World) (x y : Value) (t : TypeId) : Two (w.alloc (Obj.cells #[x, y] t)) w.heap.size x y t := heap_alloc_new _ _
theorem k2 {w : World} {b : Nat} {x y : Value} {t : TypeId} (h : Two w b x y t) :
    w.cell? ⟨b, 0, none⟩ = some x ∧ w.cell? ⟨b, 1, none⟩ = some y ∧ (∀ o, (w.alloc o).cell? ⟨b, 0, none⟩ = some x) ∧ (∀ o, (w.alloc o).cell? ⟨b, 1, none⟩ = some y) ∧
    (∀ o o', ((w.alloc o).alloc o').cell? ⟨b, 0, none⟩ = some x) ∧ (∀ o o', ((w.alloc o).alloc o').cell? ⟨b, 1, none⟩ = some y) :=
  ⟨(cell_two h).1, (cell_two h).2, all_alloc (cell_two h).1, all_alloc (cell_two h).2, fun o o' => all_alloc (all_alloc (cell_two h).1 o) o', fun o o' => all_alloc (all_alloc (cell_two h).2 o) o'⟩


theorem Try.fields27 : Try.prog.fieldsOf 27 = #[{ name := "Code", type := 3, offset := 0, embedded := false, tag := "", pkgPath := "", byteOffset := 0 }, { name := "At", type := 3, offset := 1, embedded := false, tag := "", pkgPath := "", byteOffset := 8 }] := by kernel_rfl
theorem Try.stood27 : Try.prog.stoodInHeld 27 = false := by kernel_rfl
theorem equal27 (c d : Int) (w : World) : (Op.equal 27 (.agg #[.int .i64 c, .int .i64 d]) (.agg #[.int .i64 c, .int .i64 d])).run Try.prog w = .ok true w := by
  have ht : Try.prog.underlying 27 = some (.struct (Try.prog.fieldsOf 27)) := by rw [Try.fields27]; exact Try.underlying27
  unfold Op.equal Op.maxDepth
  rw [run_equalIn_struct w 9999 27 _ _ ht Try.stood27, Try.fields27]
  simp [Op.eqFields, go_sem, Try.underlying3]
theorem neq27 (c d : Int) (w : World) : (binOp .neq 27 (.agg #[.int .i64 c, .int .i64 d]) (.agg #[.int .i64 c, .int .i64 d])).run Try.prog w = .ok (.bool false) w := by
  simp only [binOp]
  simp [equal27 c d w, Result.andThen]
theorem eql27 (c d : Int) (w : World) : (binOp .eql 27 (.agg #[.int .i64 c, .int .i64 d]) (.agg #[.int .i64 c, .int .i64 d])).run Try.prog w = .ok (.bool true) w := by
  simp only [binOp]
  simp [equal27 c d w, Result.andThen]

theorem refCheck_as {n : Int} {ao : Option Addr} {cap : Nat} {es : List Pair} {w : World} (hE : EdgesAt w (.slice ao es.length cap) es) (hcap : es.length ≤ cap) {c d : Int} (h : chk n es = (c, d)) :
    Calls Try.prog 5 #[.agg #[.int .i64 n, .slice ao es.length cap]] w fun e w' => e = .returned (.agg #[.int .i64 c, .int .i64 d]) ∧ Below w.heap.size w w' := by
  have := refCheck_any n ao cap es w hE hcap
  rw [h] at this
  exact this
theorem check_as {n : Int} {v : Value} {es : List Pair} {w : World} (hE : EdgesAt w v es) {c d : Int} (h : chk n es = (c, d)) :
    Calls Try.prog 23 #[.agg #[.int .i64 n, v]] w fun e w' => e = .returned (.agg #[.int .i64 c, .int .i64 d]) ∧ Below w.heap.size w w' := by
  have := check_any n v es w hE
  rw [h] at this
  exact this

theorem keep5 {W : World} {bg bo bw bf : Nat} {n c d : Int} {sg so : Value} (tg : Two W bg (.int .i64 n) sg 24) (to : Two W bo (.int .i64 n) so 24) (tw : Two W bw (.int .i64 c) (.int .i64 d) 27) (tf : Two W bf (.int .i64 c) (.int .i64 d) 27) {w' : World} (hb : Below W.heap.size W w') :
    Below W.heap.size W w' ∧ w'.cell? ⟨bg, 0, none⟩ = some (.int .i64 n) ∧ w'.cell? ⟨bg, 1, none⟩ = some sg ∧ w'.cell? ⟨bo, 0, none⟩ = some (.int .i64 n) ∧ w'.cell? ⟨bo, 1, none⟩ = some so ∧ w'.cell? ⟨bw, 0, none⟩ = some (.int .i64 c) ∧ w'.cell? ⟨bw, 1, none⟩ = some (.int .i64 d) ∧ w'.cell? ⟨bf, 0, none⟩ = some (.int .i64 c) ∧ w'.cell? ⟨bf, 1, none⟩ = some (.int .i64 d) :=
  ⟨hb, (cell_two (two_next tg hb)).1, (cell_two (two_next tg hb)).2, (cell_two (two_next to hb)).1, (cell_two (two_next to hb)).2, (cell_two (two_next tw hb)).1, (cell_two (two_next tw hb)).2, (cell_two (two_next tf hb)).1, (cell_two (two_next tf hb)).2⟩
end Go.Proofs.Ytmeodnkmhakidaa
