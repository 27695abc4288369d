/- What lies in memory while a way through a piece is sought. A region that draws its order: values that are told, one new set, and a store of it behind all. -/
import Derived.Test.YtekokjechbibdaaDoorPiecesW
import Derived.Test.YtekokjechbibdaaDoorSmallM
namespace Go.Proofs.YtekokjechbibdaaDoor
set_option maxRecDepth 8000
open Go.RowKit Go.Maps
/-- append of one number, in a round of a range over a function. -/
theorem wpListIn_push {F : Fence} {n : Nat} {W : World} {ops : Array Oper} {rest : List Oper} {o : Oper} {a : Act} {Q : Exit → Act → World → Prop} {base : Nat} {v : Value} {l : List Nat} {x : Nat} (hgd : o.guard = none) (s y : Operand)
    (ho : o.op = .call { callee := .builtin .append, args := #[s, y], argTypes := #[61, 61] }) (hs : a.eval s = v) (hy : a.eval y = .slice (some ⟨W.heap.size, 0, none⟩) 1 1)
    (hown : W.ownsRow base 3 1 v l.length (qv l)) (hl : l.length ≤ 1000000) (hbase : base ≤ W.heap.size)
    (h : ∀ g c w', w'.ownsRow base 3 1 (.slice (some ⟨g, 0, none⟩) (l ++ [x]).length c) (l ++ [x]).length (qv (l ++ [x])) → (W.alloc (Obj.cells #[.int .i64 (x : Int)] 3)).grownBy w' v.ownBlock → (v.ownBlock = some g ∨ W.heap.size ≤ g) → wpListIn F n Tryd.prog ops Q rest (a.put o.dst (.slice (some ⟨g, 0, none⟩) (l ++ [x]).length c)) w') :
    wpListIn F n Tryd.prog ops Q (o :: rest) a (W.alloc (Obj.cells #[.int .i64 (x : Int)] 3)) := by
  obtain ⟨i3, hi3, hy0, hy1, hy2⟩ := info_parts Tryd.info3
  obtain ⟨g, c, w', hr, h2, h3, h4, h5⟩ := run_append_lies (P := Tryd.prog) (W.alloc (Obj.cells #[.int .i64 (x : Int)] 3)) 61 o.type base 3 i3 (.int .i64 0) 1 8 Tryd.underlying61 hi3 hy0 hy1 hy2 rfl (by decide) v l.length (qv l) (hown.alloc _) ⟨W.heap.size, 0, none⟩ 1 1 [.int .i64 (x : Int)] rfl (cell_one_new _ _ _) (by intro z hz; simp at hz; subst hz; rfl) (by omega) (by unfold maxLen; omega) (by omega) (by simp; omega) (W.heap.size + 1) (by simp)
  refine wpListIn_plain hgd fun K hK => ?_
  unfold Oper.wpIn
  refine ⟨by simp [Oper.about, ho, resolve, Target.leads, Sem.run_pure], ?_⟩
  rw [Oper.semAt_plain F _ _ (by rw [ho]; intro c hc'; cases hc')]
  simp only [execOp, ho, resolve, invoke, builtin, Sem.run_bind, Sem.run_pure, Result.andThen_ok, List.map_toArray, List.map_cons, List.map_nil, hs, hy, hr]
  refine hK _ _ ?_
  have := h g c w' (by simpa [qv] using h2) h3 (h4.imp id (fun h => by omega))
  simpa using this
structure WI (w wz : World) (b2 b6 bk b7 b8 b9 N inner feet ot : Nat) (back : List Nat) (met : Nat) (qx : Value) (Q : List Nat) : Prop where
  p2 : PBox wz b2 inner feet
  o6 : SBox wz b6 ot
  rk : NRow wz bk back
  o7 : One wz b7 (sl bk N) 61
  m8 : SBox wz b8 met
  o9 : One wz b9 qx 61
  row : wz.ownsRow (b8 + 1) 3 1 qx Q.length (qv Q)
  qne : ∀ g, qx.ownBlock = some g → g ≠ b9
  below : Below w.heap.size w wz
def Apart6 (n b2 b6 bk b7 b8 b9 : Nat) : Prop := n ≤ b2 ∧ b2 < b6 ∧ b6 < bk ∧ bk < b7 ∧ b7 < b8 ∧ b8 < b9
section
variable {w wz wz' : World} {b2 b6 bk b7 b8 b9 N inner feet ot : Nat} {back : List Nat} {met : Nat} {qx : Value} {Q : List Nat}
theorem WI.under (h : WI w wz b2 b6 bk b7 b8 b9 N inner feet ot back met qx Q) (hb : Below wz.heap.size wz wz') : WI w wz' b2 b6 bk b7 b8 b9 N inner feet ot back met qx Q :=
  have k : ∀ {b : Nat} {cs : Array Value} {t : TypeId}, Box wz b cs t → Box wz' b cs t := fun h => (hb.block _ (lt_of_block h)).trans h
  ⟨k h.p2, k h.o6, h.rk.block (hb.block _ h.rk.lt), k h.o7, k h.m8, k h.o9, ownsRow_blocks h.row (fun g hg => hb.block g (h.row.lt g hg).2), h.qne, below_next h.below hb⟩
theorem WI.turns {M : Nat → Prop} (h : WI w wz b2 b6 bk b7 b8 b9 N inner feet ot back met qx Q) (ha : Apart6 w.heap.size b2 b6 bk b7 b8 b9) (ht : Turns M wz wz') (hM : ∀ k, M k → b9 < k) (hr : ∀ g, qx.ownBlock = some g → ¬ M g) : WI w wz' b2 b6 bk b7 b8 b9 N inner feet ot back met qx Q := by
  obtain ⟨a1, a2, a3, a4, a5, a6⟩ := ha
  exact ⟨box_turns h.p2 ht (fun e => by have := hM _ e; omega), box_turns h.o6 ht (fun e => by have := hM _ e; omega), h.rk.turns ht (fun e => by have := hM _ e; omega), box_turns h.o7 ht (fun e => by have := hM _ e; omega), box_turns h.m8 ht (fun e => by have := hM _ e; omega), box_turns h.o9 ht (fun e => by have := hM _ e; omega), ownsRow_blocks h.row (fun g hg => ht.block g (h.row.lt g hg).2 (hr g hg)), h.qne, ht.below h.below h.below.size (fun k e => by have := hM _ e; omega)⟩
theorem WI.set8 {met' : Nat} (h : WI w wz b2 b6 bk b7 b8 b9 N inner feet ot back met qx Q) (ha : Apart6 w.heap.size b2 b6 bk b7 b8 b9) (ht : Turns (fun k => k = b8) wz wz') (h8 : SBox wz' b8 met') : WI w wz' b2 b6 bk b7 b8 b9 N inner feet ot back met' qx Q := by
  obtain ⟨a1, a2, a3, a4, a5, a6⟩ := ha
  exact ⟨box_turns h.p2 ht (by omega), box_turns h.o6 ht (by omega), h.rk.turns ht (by omega), box_turns h.o7 ht (by omega), h8, box_turns h.o9 ht (by omega), ownsRow_blocks h.row (fun g hg => ht.block g (h.row.lt g hg).2 (by have := (h.row.lt g hg).1; omega)), h.qne, ht.below h.below h.below.size (fun k e => by omega)⟩
theorem nrow_set {w : World} {b : Nat} {l : List Nat} (h : NRow w b l) (i x : Nat) : NRow (w.setCell ⟨b, i, none⟩ (.int .i64 (x : Int))) b (l.set i x) := by
  have := (h.set i (.int .i64 (x : Int)))
  unfold NRow
  rw [List.length_set]
  refine this.congr fun j hj => ?_
  by_cases e : j = i
  · subst e
    simp [List.getD_eq_getElem?_getD, hj]
  · simp [e, List.getD_eq_getElem?_getD, show ¬ i = j by omega]
theorem WI.setk (h : WI w wz b2 b6 bk b7 b8 b9 N inner feet ot back met qx Q) (ha : Apart6 w.heap.size b2 b6 bk b7 b8 b9) (i x : Nat) : WI w (wz.setCell ⟨bk, i, none⟩ (.int .i64 (x : Int))) b2 b6 bk b7 b8 b9 N inner feet ot (back.set i x) met qx Q := by
  obtain ⟨a1, a2, a3, a4, a5, a6⟩ := ha
  have ht := setCell_turns wz bk i (.int .i64 (x : Int))
  exact ⟨box_turns h.p2 ht (by omega), box_turns h.o6 ht (by omega), nrow_set h.rk i x, box_turns h.o7 ht (by omega), box_turns h.m8 ht (by omega), box_turns h.o9 ht (by omega), ownsRow_blocks h.row (fun g hg => ht.block g (h.row.lt g hg).2 (by have := (h.row.lt g hg).1; omega)), h.qne, ht.below h.below h.below.size (fun k e => by omega)⟩
/-- A node more in the queue. -/
theorem WI.push {w6 w1 : World} {y : Value} {Q' : List Nat} (h : WI w wz b2 b6 bk b7 b8 b9 N inner feet ot back met qx Q) (ha : Apart6 w.heap.size b2 b6 bk b7 b8 b9) (hb : Below wz.heap.size wz w6) (hg : w6.grownBy w1 qx.ownBlock) (hr : w1.ownsRow (b8 + 1) 3 1 y Q'.length (qv Q')) (hy : ∀ g, y.ownBlock = some g → qx.ownBlock = some g ∨ wz.heap.size ≤ g) :
    WI w (w1.setCell ⟨b9, 0, none⟩ y) b2 b6 bk b7 b8 b9 N inner feet ot back met y Q' ∧ Turns (fun k => k = b9 ∨ qx.ownBlock = some k) wz (w1.setCell ⟨b9, 0, none⟩ y) := by
  have h6 := h.under hb
  obtain ⟨a1, a2, a3, a4, a5, a6⟩ := ha
  have hyb : ∀ g, y.ownBlock = some g → g ≠ b9 := fun g hgy e => by
    rcases hy g hgy with h' | h'
    · exact h.qne g h' e
    · have := lt_of_block h.o9; omega
  have hqb : ∀ k, some k = qx.ownBlock → b8 < k ∧ k ≠ b9 := fun k e => ⟨(h.row.lt k e.symm).1, h.qne k e.symm⟩
  have k1 : ∀ {c : Nat} {cs : Array Value} {t : TypeId}, (c ≤ b8 ∨ c = b9) → Box w6 c cs t → Box w1 c cs t := fun hc hh => (hg.block _ (lt_of_block hh) (fun e => by have := hqb _ e; omega)).trans hh
  have k2 : ∀ {c : Nat} {cs : Array Value} {t : TypeId}, c ≠ b9 → Box w1 c cs t → Box (w1.setCell ⟨b9, 0, none⟩ y) c cs t := fun hc hh => (Below.heap_setCell _ _ _ _ hc).trans hh
  have hs : w6.heap.size ≤ w1.heap.size := hg.size
  refine ⟨⟨k2 (by omega) (k1 (by omega) h6.p2), k2 (by omega) (k1 (by omega) h6.o6), ?_, k2 (by omega) (k1 (by omega) h6.o7), k2 (by omega) (k1 (by omega) h6.m8), ?_, ownsRow_blocks hr (fun g hgg => Below.heap_setCell _ _ _ _ (hyb g hgg)), hyb, ?_⟩, ?_⟩
  · refine (h6.rk.block (hg.block _ h6.rk.lt (fun e => by have := hqb _ e; omega))).block (Below.heap_setCell _ _ _ _ (by show bk ≠ b9; omega))
  · have := box_set (k1 (by omega) h6.o9) 0 y
    exact this
  · have ht : Turns (fun k => qx.ownBlock = some k) w6 w1 := ⟨hg.os, hg.tape, hg.output, hg.size, fun k hk hm => hg.block k hk (fun e => hm e.symm)⟩
    exact (ht.below h6.below h6.below.size (fun k e => by have := hqb k e.symm; omega)).setCell (by show _ ≤ b9; omega) _
  · refine ⟨?_, ?_, ?_, ?_, fun k hk hm => ?_⟩
    · exact hg.os.trans hb.os
    · exact hg.tape.trans hb.tape
    · exact hg.output.trans hb.output
    · rw [World.size_setCell]; exact Nat.le_trans hb.size hs
    · have h1 : k ≠ b9 := fun e => hm (Or.inl e)
      have h2 : ¬ some k = qx.ownBlock := fun e => hm (Or.inr e.symm)
      exact (Below.heap_setCell _ _ _ _ h1).trans ((hg.block k (Nat.lt_of_lt_of_le hk hb.size) h2).trans (hb.block k hk))
end
end Go.Proofs.YtekokjechbibdaaDoor

namespace Go.Proofs.YtekokjechbibdaaDoor
set_option maxRecDepth 8000
open Go.RowKit Go.Maps
theorem region_invA {P : Program} {ops : Array Oper} {Q : Exit → Act → World → Prop} {id : Nat} {a : Act} {w : World} {J : Act → (Nat → Bool) → Act → World → Prop} (hm : P.follows .mixedOrders = true) (hlow : lowB ops = true)
    (h0 : J a (fun _ => false) a w.drew)
    (hstep : ∀ i o, ops[i]? = some o → ∀ L a' w, J a L a' w → L i = false → (∀ e ∈ o.after, Region.binds .any e = true → L e.on = true) → wpOp P ops Q i (J a (also L i)) a' w)
    (hend : ∀ L a' w, J a L a' w → (∀ i, i < ops.size → L i = true) → Q .normal a' w) : (Code.region id ops true).wp P Q a w := region_inv (J := J a) hm hlow h0 hstep hend
/-- V i is what operation i leaves, for i below m; operation m makes a set; operation m + 1 stores s there. -/
structure SA (W : World) (m : Nat) (V : Nat → Value) (s : Nat) (L : Nat → Bool) (f : Nat → Value) (w : World) : Prop where
  told : ∀ i, i < m → L i = true → f i = V i
  w0 : L (m + 1) = false → Below W.heap.size W w
  am : L m = true → L (m + 1) = false → ∃ b, f m = .pointer (some ⟨b, 0, none⟩) ∧ W.heap.size ≤ b ∧ Two w b (.int .u64 0) (.int .u64 0) 76
  wm : L (m + 1) = true → ∃ w1 b, f m = .pointer (some ⟨b, 0, none⟩) ∧ Below W.heap.size W w1 ∧ W.heap.size ≤ b ∧ Two w1 b (.int .u64 0) (.int .u64 0) 76 ∧ w = (w1.setCell ⟨b, 0, none⟩ (.int .u64 (lo64 s : Int))).setCell ⟨b, 1, none⟩ (.int .u64 (hi64 s : Int))
  cl : L (m + 1) = true → ∀ j, j < m + 1 → L j = true
variable {W : World} {m : Nat} {V : Nat → Value} {s : Nat} {L : Nat → Bool} {f : Nat → Value} {w w' : World}
theorem SA.open_ (h : SA W m V s L f w) {i : Nat} (hL : L i = false) (hi : i < m + 1) : L (m + 1) = false := by
  cases e : L (m + 1) with
  | false => rfl
  | true => have := h.cl e i hi; rw [hL] at this; cases this
theorem SA.early (h : SA W m V s L f w) {i : Nat} (hL : L i = false) (hi : i < m + 1) : Below W.heap.size W w := h.w0 (h.open_ hL hi)
theorem SA.put (h : SA W m V s L f w) {i : Nat} (hL : L i = false) (hi : i < m) (hb : Below w.heap.size w w') : SA W m V s (also L i) (updV f i (V i)) w' := by
  have h7 := h.open_ hL (by omega)
  have a7 : also L i (m + 1) = false := by rw [also_at (by omega)]; exact h7
  refine ⟨fun j hj hk => ?_, fun _ => below_next (h.w0 h7) hb, fun hk _ => ?_, fun hk => (by rw [a7] at hk; cases hk), fun hk => (by rw [a7] at hk; cases hk)⟩
  · by_cases e : j = i
    · subst e; exact updV_same _ _ _
    · rw [updV_ne _ _ e]; exact h.told j hj (by rwa [also_at e] at hk)
  · rw [also_at (by omega)] at hk
    obtain ⟨b, h1, h2, h3⟩ := h.am hk h7
    exact ⟨b, by rw [updV_ne _ _ (by omega)]; exact h1, h2, (hb.block _ (lt_of_block h3)).trans h3⟩
theorem SA.alloc (h : SA W m V s L f w) (hL : L m = false) : SA W m V s (also L m) (updV f m (.pointer (some ⟨w.heap.size, 0, none⟩))) (w.alloc (Obj.cells #[.int .u64 0, .int .u64 0] 76)) := by
  have h7 := h.open_ hL (by omega)
  have a7 : also L m (m + 1) = false := by rw [also_at (by omega)]; exact h7
  refine ⟨fun j hj hk => ?_, fun _ => below_alloc (h.w0 h7) _, fun _ _ => ⟨w.heap.size, updV_same _ _ _, (h.w0 h7).size, two_new _ _ _ 76⟩, fun hk => (by rw [a7] at hk; cases hk), fun hk => (by rw [a7] at hk; cases hk)⟩
  rw [updV_ne _ _ (by omega)]
  exact h.told j hj (by rwa [also_at (by omega)] at hk)
theorem SA.store (h : SA W m V s L f w) (hL : L (m + 1) = false) (hall : ∀ j, j < m + 1 → L j = true) {b : Nat} (hb : f m = .pointer (some ⟨b, 0, none⟩)) (h2 : W.heap.size ≤ b) (h3 : Two w b (.int .u64 0) (.int .u64 0) 76) (x : Value) :
    SA W m V s (also L (m + 1)) (updV f (m + 1) x) ((w.setCell ⟨b, 0, none⟩ (.int .u64 (lo64 s : Int))).setCell ⟨b, 1, none⟩ (.int .u64 (hi64 s : Int))) := by
  have a7 : also L (m + 1) (m + 1) = true := also_self _ _
  refine ⟨fun j hj hk => ?_, fun hk => (by rw [a7] at hk; cases hk), fun _ hk => (by rw [a7] at hk; cases hk), fun _ => ⟨w, b, ?_, h.w0 hL, h2, h3, rfl⟩, fun _ j hj => also_of (hall j hj) _⟩
  · rw [updV_ne _ _ (by omega)]; exact h.told j hj (hall j (by omega))
  · rw [updV_ne _ _ (by omega)]; exact hb
theorem SA.start : SA W m V s (fun _ => false) f W.drew :=
  ⟨fun _ _ h => (by cases h), fun _ => (Below.refl _ W).drew, fun h => (by cases h), fun h => (by cases h), fun h => (by cases h)⟩
theorem SA.done (h : SA W m V s L f w) (hall : L (m + 1) = true) : ∃ b, f m = .pointer (some ⟨b, 0, none⟩) ∧ W.heap.size ≤ b ∧ SBox w b s ∧ Below W.heap.size W w := by
  obtain ⟨w1, b, h1, h2, h3, h4, rfl⟩ := h.wm hall
  exact ⟨b, h1, h3, two_setN h4, (h2.setCell h3 _).setCell h3 _⟩
end Go.Proofs.YtekokjechbibdaaDoor
