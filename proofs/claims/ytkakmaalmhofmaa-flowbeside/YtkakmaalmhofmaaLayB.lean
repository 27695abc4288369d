/- lay: two pipes more; newPipes. -/
import Derived.Test.YtkakmaalmhofmaaPipe
namespace Go.Proofs.Ytkakmaalmhofmaa
open Go.RowKit Go.Maps
attribute [local go_sem ↓] Go.wp_at_zero Go.wp_at_succ

def zv (l : List Int) : List Value := l.map fun x => Value.int .i64 x
theorem NearL.turns {K : Nat → Prop} {w w' : World} {base g N : Nat} {vs : Nat → Value} {ls : Nat → List Nat} (h : NearL w base g N vs ls) (ht : Turns K w w') (hg : ¬ K g) (hr : ∀ i b, i < N → (vs i).ownBlock = some b → ¬ K b) : NearL w' base g N vs ls :=
  ⟨h.row.turns ht hg, fun i hi => ownsRow_blocks (h.own i hi) (fun b hb => ht.block b ((h.own i hi).lt b hb).2 (hr i b hi hb)), h.sep⟩

/-- Pipes that are being laid. -/
structure LS (w : World) (b0 bp g base N : Nat) (vs : Nat → Value) (ls : Nat → List Nat) (tv rv : Value) (Ts : List Nat) (Rs : List Int) : Prop where
  box : Box w bp #[sl g N, tv, rv] 94
  near : NearL w base g N vs ls
  tos : w.ownsRow base 3 1 tv Ts.length (qv Ts)
  room : w.ownsRow base 3 1 rv Rs.length (zv Rs)
  sep : ∀ i b, i < N → (vs i).ownBlock = some b → tv.ownBlock ≠ some b ∧ rv.ownBlock ≠ some b
  two : ∀ b, tv.ownBlock = some b → rv.ownBlock ≠ some b
  lt : b0 ≤ bp ∧ b0 ≤ g ∧ bp < base ∧ g < base ∧ bp ≠ g

section
variable {w w' : World} {b0 bp g base N : Nat} {vs : Nat → Value} {ls : Nat → List Nat} {tv rv : Value} {Ts : List Nat} {Rs : List Int}
theorem LS.size (h : LS w b0 bp g base N vs ls tv rv Ts Rs) (hb : base ≤ w.heap.size) : b0 ≤ w.heap.size := by have := h.lt; omega
theorem LS.turns {K : Nat → Prop} (h : LS w b0 bp g base N vs ls tv rv Ts Rs) (ht : Turns K w w') (hk : ∀ k, ¬ K k) : LS w' b0 bp g base N vs ls tv rv Ts Rs :=
  ⟨box_turns h.box ht (hk _), h.near.turns ht (hk _) (fun _ b _ _ => hk b), ownsRow_blocks h.tos (fun b hb => ht.block b (h.tos.lt b hb).2 (hk b)), ownsRow_blocks h.room (fun b hb => ht.block b (h.room.lt b hb).2 (hk b)), h.sep, h.two, h.lt⟩
theorem LS.below (h : LS w b0 bp g base N vs ls tv rv Ts Rs) (hb : Below w.heap.size w w') : LS w' b0 bp g base N vs ls tv rv Ts Rs := h.turns (K := fun _ => False) (Turns.of_below hb _) (fun _ h => h)

/-- A pipe more of node i. -/
theorem LS.put {w1 : World} {o : Obj} (h : LS w b0 bp g base N vs ls tv rv Ts Rs) {i x g1 c1 : Nat} (hi : i < N)
    (hown : w1.ownsRow base 3 1 (.slice (some ⟨g1, 0, none⟩) ((ls i).length + 1) c1) ((ls i).length + 1) (qv (ls i) ++ [.int .i64 (x : Int)])) (hg : (w.alloc o).grownBy w1 (vs i).ownBlock) (hat : (vs i).ownBlock = some g1 ∨ w.heap.size ≤ g1) :
    LS (w1.setCell ⟨g, i, none⟩ (.slice (some ⟨g1, 0, none⟩) ((ls i).length + 1) c1)) b0 bp g base N (fun j => if j = i then .slice (some ⟨g1, 0, none⟩) ((ls i).length + 1) c1 else vs j) (fun j => if j = i then ls i ++ [x] else ls j) tv rv Ts Rs := by
  have T := (alloc_turns w o (fun k => some k = (vs i).ownBlock)).trans (Turns.of_grown hg)
  have T2 := setCell_turns w1 g i (.slice (some ⟨g1, 0, none⟩) ((ls i).length + 1) c1)
  have l := h.lt
  have hge : ∀ b, some b = (vs i).ownBlock → base ≤ b := fun b hb => ((h.near.own i hi).lt b hb.symm).1
  refine ⟨box_turns (box_turns h.box T (fun hh => by have := hge _ hh; omega)) T2 (by omega), h.near.put hi hown hg hat, ?_, ?_, fun j b hj hb => ?_, h.two, h.lt⟩
  · refine ownsRow_blocks (ownsRow_blocks h.tos (fun b hb => T.block b (h.tos.lt b hb).2 (fun hh => (h.sep i b hi hh.symm).1 hb))) (fun b hb => Below.heap_setCell _ _ _ _ (fun e => ?_))
    have := (h.tos.lt b hb).1
    have e' : b = g := e
    omega
  · refine ownsRow_blocks (ownsRow_blocks h.room (fun b hb => T.block b (h.room.lt b hb).2 (fun hh => (h.sep i b hi hh.symm).2 hb))) (fun b hb => Below.heap_setCell _ _ _ _ (fun e => ?_))
    have := (h.room.lt b hb).1
    have e' : b = g := e
    omega
  · by_cases e : j = i
    · subst e
      simp only [if_true] at hb
      have hgb : b = g1 := by simpa [Value.ownBlock] using hb.symm
      subst hgb
      rcases hat with h1 | h1
      · exact h.sep j b hj h1
      · exact ⟨fun hh => by have := (h.tos.lt b hh).2; omega, fun hh => by have := (h.room.lt b hh).2; omega⟩
    · simp only [if_neg e] at hb
      exact h.sep j b hj hb
theorem LS.pushTo {w1 : World} {o : Obj} (h : LS w b0 bp g base N vs ls tv rv Ts Rs) {g1 c1 : Nat} {Ts' : List Nat}
    (hown : w1.ownsRow base 3 1 (.slice (some ⟨g1, 0, none⟩) Ts'.length c1) Ts'.length (qv Ts')) (hg : (w.alloc o).grownBy w1 tv.ownBlock) (hat : tv.ownBlock = some g1 ∨ w.heap.size ≤ g1) :
    LS (w1.setCell ⟨bp, 1, none⟩ (.slice (some ⟨g1, 0, none⟩) Ts'.length c1)) b0 bp g base N vs ls (.slice (some ⟨g1, 0, none⟩) Ts'.length c1) rv Ts' Rs := by
  have T := (alloc_turns w o (fun k => some k = tv.ownBlock)).trans (Turns.of_grown hg)
  have T2 := setCell_turns w1 bp 1 (.slice (some ⟨g1, 0, none⟩) Ts'.length c1)
  have l := h.lt
  have hge : ∀ b, some b = tv.ownBlock → base ≤ b := fun b hb => (h.tos.lt b hb.symm).1
  have hgg : base ≤ g1 := (hown.lt g1 rfl).1
  refine ⟨box_set (box_turns h.box T (fun hh => by have := hge _ hh; omega)) 1 _, (h.near.turns T (fun hh => by have := hge _ hh; omega) (fun i b hi hb hh => (h.sep i b hi hb).1 hh.symm)).turns T2 (by omega) (fun i b hi hb e => by have := ((h.near.own i hi).lt b hb).1; omega), ?_, ?_, fun i b hi hb => ⟨fun hh => ?_, (h.sep i b hi hb).2⟩, fun b hb => ?_, h.lt⟩
  · refine ownsRow_blocks hown (fun b hb => Below.heap_setCell _ _ _ _ (fun e => ?_))
    have := (hown.lt b hb).1
    have e' : b = bp := e
    omega
  · refine ownsRow_blocks (ownsRow_blocks h.room (fun b hb => T.block b (h.room.lt b hb).2 (fun hh => h.two b hh.symm hb))) (fun b hb => Below.heap_setCell _ _ _ _ (fun e => ?_))
    have := (h.room.lt b hb).1
    have e' : b = bp := e
    omega
  · have e1 : g1 = b := by simpa [Value.ownBlock] using hh
    subst e1
    rcases hat with h1 | h1
    · exact (h.sep i g1 hi hb).1 h1
    · have := ((h.near.own i hi).lt g1 hb).2; omega
  · have e1 : g1 = b := by simpa [Value.ownBlock] using hb
    subst e1
    rcases hat with h1 | h1
    · exact h.two g1 h1
    · intro hh; have := (h.room.lt g1 hh).2; omega
theorem LS.pushRoom {w1 : World} {o : Obj} (h : LS w b0 bp g base N vs ls tv rv Ts Rs) {g1 c1 : Nat} {Rs' : List Int}
    (hown : w1.ownsRow base 3 1 (.slice (some ⟨g1, 0, none⟩) Rs'.length c1) Rs'.length (zv Rs')) (hg : (w.alloc o).grownBy w1 rv.ownBlock) (hat : rv.ownBlock = some g1 ∨ w.heap.size ≤ g1) :
    LS (w1.setCell ⟨bp, 2, none⟩ (.slice (some ⟨g1, 0, none⟩) Rs'.length c1)) b0 bp g base N vs ls tv (.slice (some ⟨g1, 0, none⟩) Rs'.length c1) Ts Rs' := by
  have T := (alloc_turns w o (fun k => some k = rv.ownBlock)).trans (Turns.of_grown hg)
  have T2 := setCell_turns w1 bp 2 (.slice (some ⟨g1, 0, none⟩) Rs'.length c1)
  have l := h.lt
  have hge : ∀ b, some b = rv.ownBlock → base ≤ b := fun b hb => (h.room.lt b hb.symm).1
  refine ⟨box_set (box_turns h.box T (fun hh => by have := hge _ hh; omega)) 2 _, (h.near.turns T (fun hh => by have := hge _ hh; omega) (fun i b hi hb hh => (h.sep i b hi hb).2 hh.symm)).turns T2 (by omega) (fun i b hi hb e => by have := ((h.near.own i hi).lt b hb).1; omega), ?_, ?_, fun i b hi hb => ⟨(h.sep i b hi hb).1, fun hh => ?_⟩, fun b hb hh => ?_, h.lt⟩
  · refine ownsRow_blocks (ownsRow_blocks h.tos (fun b hb => T.block b (h.tos.lt b hb).2 (fun hh => h.two b hb hh.symm))) (fun b hb => Below.heap_setCell _ _ _ _ (fun e => ?_))
    have := (h.tos.lt b hb).1
    have e' : b = bp := e
    omega
  · refine ownsRow_blocks hown (fun b hb => Below.heap_setCell _ _ _ _ (fun e => ?_))
    have := (hown.lt b hb).1
    have e' : b = bp := e
    omega
  · have e1 : g1 = b := by simpa [Value.ownBlock] using hh
    subst e1
    rcases hat with h1 | h1
    · exact (h.sep i g1 hi hb).2 h1
    · have := ((h.near.own i hi).lt g1 hb).2; omega
  · have e1 : g1 = b := by simpa [Value.ownBlock] using hh
    subst e1
    rcases hat with h1 | h1
    · exact h.two g1 hb h1
    · have := (h.tos.lt g1 hb).2; omega
end

def ls1 (ls : Nat → List Nat) (u L : Nat) : Nat → List Nat := fun j => if j = u then ls u ++ [L] else ls j

/-- Two numbers more at a row's end, and where it lies. -/
theorem wpList_pushB {W : World} {ops : Array Oper} {rest : List Oper} {o : Oper} {a : Act} {Q : Exit → Act → World → Prop} {base : Nat} {po : Option Addr} {n pc : Nat} {l : List Value} {x y : Int} (hgd : o.guard = none) (s z : Operand)
    (ho : o.op = .call { callee := .builtin .append, args := #[s, z], argTypes := #[30, 30] }) (hs : a.eval s = .slice po n pc) (hz : a.eval z = .slice (some ⟨W.heap.size, 0, none⟩) 2 2)
    (hown : W.ownsRow base 3 1 (.slice po n pc) n l) (hl : n ≤ 1000000) (hbase : base ≤ W.heap.size)
    (h : ∀ g c w', w'.ownsRow base 3 1 (.slice (some ⟨g, 0, none⟩) (n + 2) c) (n + 2) (l ++ [.int .i64 x, .int .i64 y]) → (W.alloc (Obj.cells #[.int .i64 x, .int .i64 y] 3)).grownBy w' (Value.slice po n pc).ownBlock → ((Value.slice po n pc).ownBlock = some g ∨ W.heap.size ≤ g) → wpList Try.prog ops Q rest (a.put o.dst (.slice (some ⟨g, 0, none⟩) (n + 2) c)) w') :
    wpList Try.prog ops Q (o :: rest) a (W.alloc (Obj.cells #[.int .i64 x, .int .i64 y] 3)) := by
  obtain ⟨i3, hi3, hy0, hy1, hy2⟩ := info_parts Try.info3
  refine wpList_append_lies _ hgd s z 30 ho base 3 i3 (.int .i64 0) 1 8 Try.underlying30 hi3 hy0 hy1 hy2 rfl (by decide) _ _ _ hs (hown.alloc _) ⟨W.heap.size, 0, none⟩ 2 2 [.int .i64 x, .int .i64 y] hz rfl ?_ ?_ (by omega) ?_ ?_ ?_ (W.heap.size + 1) (by simp) ?_
  · intro j u hj
    rw [add_none]
    have hb := heap_alloc_new W (Obj.cells #[.int .i64 x, .int .i64 y] 3)
    rw [cell_of_row _ _ j _ 3 (0, 0) hb]
    match j, hj with
    | 0, hj => simpa using hj
    | 1, hj => simpa using hj
  · intro y hy; simp at hy; rcases hy with rfl | rfl <;> rfl
  · unfold maxLen; omega
  · omega
  · simp; omega
  · intro g c w' h1 h2 h3 _
    exact h g c w' h1 h2 (h3.imp id (fun h => by omega))
end Go.Proofs.Ytkakmaalmhofmaa
