/- The document's graph of a table. Parts of the walk of GraphChecks. -/
import Derived.Test.YtfdlndljpmamgaaGrid
import Derived.Deep.Light
namespace Go.Proofs.Ytfdlndljpmamgaa
open Go.RowKit Go.Maps

theorem rowTo_le (p : Int → Int → Bool) (u v : Nat) : (rowTo p u v).length ≤ v := by
  unfold rowTo
  rw [List.length_map]
  exact Nat.le_trans (List.length_filter_le _ _) (by simp)
theorem rowsTo_le (n : Nat) (p : Int → Int → Bool) : ∀ u, (rowsTo n p u).length ≤ u * n
  | 0 => by simp [rowsTo]
  | u + 1 => by
    rw [rowsTo_succ, List.length_append, Nat.succ_mul]
    have := rowsTo_le n p u
    have := rowTo_le p u n
    omega

structure OI (w wr : World) (m : Nat) (v : Value) (L : List Pair) : Prop where
  b0 : wr.heap[w.heap.size]? = some (.cells #[.int .i64 0, .slice none 0 0] 42 (0, 0))
  b1 : wr.heap[w.heap.size + 1]? = some (.cells #[.int .i64 m, v] 42 (0, 0))
  own : wr.ownsRow (w.heap.size + 2) 59 2 v L.length (flat L)
  below : Below w.heap.size w wr

theorem OI.push {w wr w1 : World} {m : Nat} {v v' : Value} {L : List Pair} {x y : Int} (h : OI w wr m v L) (hown : w1.ownsRow (w.heap.size + 2) 59 2 v' (L.length + 1) (flat L ++ [.int .i64 x, .int .i64 y])) (hg : (wr.alloc (Obj.cells #[.int .i64 x, .int .i64 y] 59)).grownBy w1 v.ownBlock) :
    w1.heap[w.heap.size + 1]? = some (.cells #[.int .i64 m, v] 42 (0, 0)) ∧ OI w (w1.setCell ⟨w.heap.size + 1, 1, none⟩ v') m v' (L ++ [(x, y)]) := by
  have hn : ∀ k, v.ownBlock = some k → w.heap.size + 2 ≤ k := fun k hk => (h.own.lt k hk).1
  have l0 := lt_of_block h.b0
  have l1 := lt_of_block h.b1
  have q : ∀ j, j < w.heap.size + 2 → w1.heap[j]? = wr.heap[j]? := fun j hj => by
    rw [hg.block j (by simp; omega) (fun e => by have := hn j e.symm; omega), Below.heap_alloc _ _ _ (by omega)]
  have hb1 := (q (w.heap.size + 1) (by omega)).trans h.b1
  refine ⟨hb1, ?_, ?_, ?_, ?_⟩
  · rw [Below.heap_setCell _ _ _ _ (by simp), q _ (by omega)]; exact h.b0
  · simp [World.setCell, Array.getElem?_modify, hb1]
  · have := ownsRow_setCell_below (a := ⟨w.heap.size + 1, 1, none⟩) hown (by simp) v'
    rw [flat_snoc]; simpa using this
  · exact ((h.below.alloc h.below.size _).grown hg (by simp; omega) (fun k hk => by have := hn k hk; omega)).setCell (by simp) _

end Go.Proofs.Ytfdlndljpmamgaa

namespace Go.Proofs.Ytfdlndljpmamgaa
open Go.RowKit Go.Maps
attribute [local go_sem ↓] Go.wp_at_zero Go.wp_at_succ

/- how many pairs a list of edges can make -/
theorem nodup_len : ∀ (l m : List Pair), l.Nodup → (∀ e ∈ l, e ∈ m) → l.length ≤ m.length
  | [], _, _, _ => Nat.zero_le _
  | a :: l, m, hn, hs => by
    have hn' := List.nodup_cons.1 hn
    have ha := hs a (by simp)
    have h := nodup_len l (m.erase a) hn'.2 (fun e he => (List.mem_erase_of_ne (fun (h : e = a) => hn'.1 (h ▸ he))).2 (hs e (by simp [he])))
    rw [List.length_erase_of_mem ha] at h
    have : 0 < m.length := List.length_pos_of_mem ha
    simp
    omega

theorem rowTo_nodup (p : Int → Int → Bool) (u v : Nat) : (rowTo p u v).Nodup := by
  unfold rowTo
  refine List.Pairwise.map _ (R := fun a b => a ≠ b) (fun a b h e => h ?_) (List.nodup_range.filter _)
  simp at e
  omega
theorem allP_nodup (n : Nat) (p : Int → Int → Bool) : (allP n p).Nodup := by
  unfold allP rowsTo List.Nodup
  rw [List.pairwise_flatMap]
  refine ⟨fun u _ => rowTo_nodup p u n, ?_⟩
  refine List.Pairwise.imp (fun {a b} (hne : a ≠ b) => ?_) List.nodup_range
  intro e h1 e' h2 ee
  subst ee
  simp [rowTo] at h1 h2
  obtain ⟨_, _, rfl⟩ := h1
  obtain ⟨_, _, h⟩ := h2
  simp at h
  omega
theorem allP_has_le (n : Nat) (es : List Pair) : (allP n (hasB es)).length ≤ es.length := by
  have h := nodup_len (allP n (hasB es)) (es.map fun e => (min e.1 e.2, max e.1 e.2)) (allP_nodup n _) (fun e he => by
    obtain ⟨u, v, h1, h2, h3, rfl⟩ := allP_mem.1 he
    simp only [hasB, List.any_eq_true] at h3
    obtain ⟨e, he, hb⟩ := h3
    refine List.mem_map.2 ⟨e, he, ?_⟩
    simp at hb
    ext <;> simp <;> omega)
  simpa using h

theorem formS_good {m : Nat} {es : List Pair} (h : (chk m es).1 = 0) : formS m es = ⟨m, allP m (hasB es), 0, 0⟩ := by
  obtain ⟨_, h1, h2, h3, _⟩ := chk_good h
  unfold formS
  rw [if_pos h]
  have := allP_has_le m es
  exact buildS_ok (by omega) (by simpa using Nat.le_trans this h3)
abbrev Two (w : World) (b : Nat) (x y : Value) (t : TypeId) : Prop := w.heap[b]? = some (.cells #[x, y] t (0, 0))
theorem two_next {W w1 : World} {b : Nat} {x y : Value} {t : TypeId} (h : Two W b x y t) (hb : Below W.heap.size W w1) : Two w1 b x y t := (hb.block b (lt_of_block h)).trans h
theorem two_alloc {w : World} {b : Nat} {x y : Value} {t : TypeId} (h : Two w b x y t) (o : Obj) : Two (w.alloc o) b x y t := (Below.heap_alloc _ _ _ (lt_of_block h)).trans h
theorem two_new (w : World) (x y : Value) (t : TypeId) : Two (w.alloc (Obj.cells #[x, y] t)) w.heap.size x y t := heap_alloc_new _ _
theorem k2 {w : World} {b : Nat} {x y : Value} {t : TypeId} (h : Two w b x y t) :
    w.cell? ⟨b, 0, none⟩ = some x ∧ w.cell? ⟨b, 1, none⟩ = some y ∧ (∀ o, (w.alloc o).cell? ⟨b, 0, none⟩ = some x) ∧ (∀ o, (w.alloc o).cell? ⟨b, 1, none⟩ = some y) ∧
    (∀ o o', ((w.alloc o).alloc o').cell? ⟨b, 0, none⟩ = some x) ∧ (∀ o o', ((w.alloc o).alloc o').cell? ⟨b, 1, none⟩ = some y) :=
  ⟨(cell_two h).1, (cell_two h).2, all_alloc (cell_two h).1, all_alloc (cell_two h).2, fun o o' => all_alloc (all_alloc (cell_two h).1 o) o', fun o o' => all_alloc (all_alloc (cell_two h).2 o) o'⟩


theorem Try.fields31 : Try.prog.fieldsOf 31 = #[{ name := "Code", type := 3, offset := 0, embedded := false, tag := "", pkgPath := "", byteOffset := 0 }, { name := "At", type := 3, offset := 1, embedded := false, tag := "", pkgPath := "", byteOffset := 8 }] := by kernel_rfl
theorem Try.stood31 : Try.prog.stoodInHeld 31 = false := by kernel_rfl
theorem equal31 (c d : Int) (w : World) : (Op.equal 31 (.agg #[.int .i64 c, .int .i64 d]) (.agg #[.int .i64 c, .int .i64 d])).run Try.prog w = .ok true w := by
  have ht : Try.prog.underlying 31 = some (.struct (Try.prog.fieldsOf 31)) := by rw [Try.fields31]; exact Try.underlying31
  unfold Op.equal Op.maxDepth
  rw [run_equalIn_struct w 9999 31 _ _ ht Try.stood31, Try.fields31]
  simp [Op.eqFields, go_sem, Try.underlying3]
theorem neq31 (c d : Int) (w : World) : (binOp .neq 31 (.agg #[.int .i64 c, .int .i64 d]) (.agg #[.int .i64 c, .int .i64 d])).run Try.prog w = .ok (.bool false) w := by
  simp only [binOp]
  simp [equal31 c d w, Result.andThen]
theorem eql31 (c d : Int) (w : World) : (binOp .eql 31 (.agg #[.int .i64 c, .int .i64 d]) (.agg #[.int .i64 c, .int .i64 d])).run Try.prog w = .ok (.bool true) w := by
  simp only [binOp]
  simp [equal31 c d w, Result.andThen]

theorem keep5 {W : World} {bg bo bw bf : Nat} {n c d : Int} {sg so : Value} (tg : Two W bg (.int .i64 n) sg 42) (to : Two W bo (.int .i64 n) so 42) (tw : Two W bw (.int .i64 c) (.int .i64 d) 31) (tf : Two W bf (.int .i64 c) (.int .i64 d) 31) {w' : World} (hb : Below W.heap.size W w') :
    Below W.heap.size W w' ∧ w'.cell? ⟨bg, 0, none⟩ = some (.int .i64 n) ∧ w'.cell? ⟨bg, 1, none⟩ = some sg ∧ w'.cell? ⟨bo, 0, none⟩ = some (.int .i64 n) ∧ w'.cell? ⟨bo, 1, none⟩ = some so ∧ w'.cell? ⟨bw, 0, none⟩ = some (.int .i64 c) ∧ w'.cell? ⟨bw, 1, none⟩ = some (.int .i64 d) ∧ w'.cell? ⟨bf, 0, none⟩ = some (.int .i64 c) ∧ w'.cell? ⟨bf, 1, none⟩ = some (.int .i64 d) :=
  ⟨hb, (cell_two (two_next tg hb)).1, (cell_two (two_next tg hb)).2, (cell_two (two_next to hb)).1, (cell_two (two_next to hb)).2, (cell_two (two_next tw hb)).1, (cell_two (two_next tw hb)).2, (cell_two (two_next tf hb)).1, (cell_two (two_next tf hb)).2⟩
end Go.Proofs.Ytfdlndljpmamgaa
