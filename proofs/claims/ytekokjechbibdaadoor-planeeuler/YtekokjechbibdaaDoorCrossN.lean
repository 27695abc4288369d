/- Rows of faces in memory. Rows of faces: what they keep, and one put behind or in another's place; append of a row that may be empty. -/
import Derived.Test.YtekokjechbibdaaDoorAlongW
import Derived.Test.YtekokjechbibdaaDoorChooseN
import Derived.Test.YtekokjechbibdaaDoorSmallM
namespace Go.Proofs.YtekokjechbibdaaDoor
set_option maxRecDepth 8000
open Go.RowKit Go.Maps
/-- A face's cells: where its walk lies, and its nodes. -/
def fcell (h : Value) (f : Face) : List Value := [h, .int .u64 (lo64 f.nodes : Int), .int .u64 (hi64 f.nodes : Int)]
def flatF : List Value → List Face → List Value
  | h :: H, f :: L => fcell h f ++ flatF H L
  | _, _ => []
theorem flatF_len : ∀ (H : List Value) (L : List Face), H.length = L.length → (flatF H L).length = L.length * 3
  | [], [], _ => rfl
  | h :: H, f :: L, e => by
    have := flatF_len H L (by simpa using e)
    simp only [flatF, List.length_append, this, List.length_cons]
    simp [fcell]; omega
  | [], _ :: _, e => by simp at e
  | _ :: _, [], e => by simp at e
theorem flatF_snoc : ∀ (H : List Value) (L : List Face) (h : Value) (f : Face), H.length = L.length → flatF (H ++ [h]) (L ++ [f]) = flatF H L ++ fcell h f
  | [], [], h, f, _ => by simp [flatF]
  | x :: H, y :: L, h, f, e => by
    simp only [List.cons_append, flatF]
    rw [flatF_snoc H L h f (by simpa using e), List.append_assoc]
  | [], _ :: _, _, _, e => by simp at e
  | _ :: _, [], _, _, e => by simp at e
theorem flatF_at : ∀ (H : List Value) (L : List Face) (i : Nat) (h : Value) (f : Face), H[i]? = some h → L[i]? = some f → (flatF H L)[i * 3]? = some h ∧ (flatF H L)[i * 3 + 1]? = some (.int .u64 (lo64 f.nodes : Int)) ∧ (flatF H L)[i * 3 + 2]? = some (.int .u64 (hi64 f.nodes : Int))
  | x :: H, y :: L, 0, h, f, e1, e2 => by
    simp at e1 e2
    subst e1 e2
    simp [flatF, fcell]
  | x :: H, y :: L, i + 1, h, f, e1, e2 => by
    obtain ⟨h1, h2, h3⟩ := flatF_at H L i h f (by simpa using e1) (by simpa using e2)
    have e : ∀ d, (flatF (x :: H) (y :: L))[(i + 1) * 3 + d]? = (flatF H L)[i * 3 + d]? := fun d => by
      simp only [flatF]
      rw [List.getElem?_append_right (by simp [fcell]; omega)]
      congr 1
      simp [fcell]; omega
    exact ⟨(e 0).trans h1, (e 1).trans h2, (e 2).trans h3⟩
  | [], _, _, _, _, e1, _ => by simp at e1
  | _ :: _, [], _, _, _, _, e2 => by simp at e2
/-- Putting a face in another's place. -/
theorem flatF_set : ∀ (H : List Value) (L : List Face) (i : Nat) (h : Value) (f : Face), H.length = L.length → i < L.length →
    flatF (H.set i h) (L.set i f) = (((flatF H L).set (i * 3) h).set (i * 3 + 1) (.int .u64 (lo64 f.nodes : Int))).set (i * 3 + 2) (.int .u64 (hi64 f.nodes : Int))
  | x :: H, y :: L, 0, h, f, _, _ => by simp [flatF, fcell]
  | x :: H, y :: L, i + 1, h, f, e, hi => by
    simp only [List.set_cons_succ, flatF]
    rw [flatF_set H L i h f (by simpa using e) (by simpa using hi)]
    rw [List.set_append_right _ _ (by simp [fcell]; omega), List.set_append_right _ _ (by simp [fcell]; omega), List.set_append_right _ _ (by simp [fcell]; omega)]
    have e0 : (i + 1) * 3 - (fcell x y).length = i * 3 := by simp [fcell]; omega
    have e1 : (i + 1) * 3 + 1 - (fcell x y).length = i * 3 + 1 := by simp [fcell]; omega
    have e2 : (i + 1) * 3 + 2 - (fcell x y).length = i * 3 + 2 := by simp [fcell]; omega
    rw [e0, e1, e2]
  | [], [], _, _, _, _, hi => by simp at hi
  | [], _ :: _, _, _, _, e, _ => by simp at e
  | _ :: _, [], _, _, _, e, _ => by simp at e
/-- A face's walk: where it lies. -/
def WalkAt (w : World) (lo : Nat) (h : Value) (f : Face) : Prop := ∃ g off c, h = .slice (some ⟨g, off, none⟩) f.walk.length c ∧ f.walk.length ≤ c ∧ NumL w g off f.walk ∧ lo ≤ g ∧ g < w.heap.size
/-- A row of faces x of one's own, from block lo on; H: where the walks lie. -/
structure FRow (w : World) (lo : Nat) (x : Value) (H : List Value) (L : List Face) : Prop where
  hl : H.length = L.length
  row : w.ownsRow lo 86 3 x L.length (flatF H L)
  walks : ∀ (i : Nat) (h : Value) (f : Face), H[i]? = some h → L[i]? = some f → WalkAt w lo h f
  apart : ∀ (i : Nat) (h : Value), H[i]? = some h → ∀ g, h.ownBlock = some g → x.ownBlock ≠ some g
  ok : ∀ f ∈ L, (∀ v ∈ f.walk, v < 128) ∧ f.walk.length ≤ 1000 ∧ f.nodes = setOf f.walk
theorem WalkAt.keep {w w' : World} {lo : Nat} {h : Value} {f : Face} (hw : WalkAt w lo h f) (hs : w.heap.size ≤ w'.heap.size) (hk : ∀ g, h.ownBlock = some g → w'.heap[g]? = w.heap[g]?) : WalkAt w' lo h f := by
  obtain ⟨g, off, c, rfl, h1, h2, h3, h4⟩ := hw
  refine ⟨g, off, c, rfl, h1, fun k u hu => ?_, h3, by omega⟩
  rw [World.cell?_of_block (w := w) (hk g rfl)]
  exact h2 k u hu
end Go.Proofs.YtekokjechbibdaaDoor

namespace Go.Proofs.YtekokjechbibdaaDoor
set_option maxRecDepth 8000
open Go.RowKit Go.Maps
theorem grownBy_refl (w : World) (r : Option Nat) : w.grownBy w r := ⟨rfl, rfl, rfl, Nat.le_refl _, fun _ _ _ => rfl⟩
theorem wpList_appL {W : World} {ops : Array Oper} {rest : List Oper} {o : Oper} {a : Act} {Q : Exit → Act → World → Prop} {base g c gb ob cb : Nat} {A B : List Nat} (hgd : o.guard = none) (s y : Operand)
    (ho : o.op = .call { callee := .builtin .append, args := #[s, y], argTypes := #[61, 61] }) (hs : a.eval s = .slice (some ⟨g, 0, none⟩) A.length c) (hy : a.eval y = .slice (some ⟨gb, ob, none⟩) B.length cb)
    (hown : W.ownsRow base 3 1 (.slice (some ⟨g, 0, none⟩) A.length c) A.length (qv A)) (hB : NumL W gb ob B) (hl : A.length + B.length ≤ 100000) (hbase : base ≤ W.heap.size)
    (h : ∀ g' c' w', w'.ownsRow base 3 1 (.slice (some ⟨g', 0, none⟩) (A ++ B).length c') (A ++ B).length (qv (A ++ B)) → W.grownBy w' (some g) → wpList Tryd.prog ops Q rest (a.put o.dst (.slice (some ⟨g', 0, none⟩) (A ++ B).length c')) w') :
    wpList Tryd.prog ops Q (o :: rest) a W := by
  obtain ⟨i3, hi3, hy0, hy1, hy2⟩ := info_parts Tryd.info3
  by_cases h0 : 0 < B.length
  · refine wpList_append_lies _ hgd s y 61 ho base 3 i3 (.int .i64 0) 1 8 Tryd.underlying61 hi3 hy0 hy1 hy2 rfl (by decide) _ _ _ hs hown ⟨gb, ob, none⟩ B.length cb (qv B) hy (by rw [qv_len, Nat.mul_one]) ?_ (qv_one B) h0 (by unfold maxLen; omega) (by omega) hbase W.heap.size rfl ?_
    · intro j u hj
      obtain ⟨ad, e1, hn⟩ := hB.srcAt.some h0
      cases e1
      exact hn j u hj
    · intro g' c' w' h1 h2 _ _
      have := h g' c' w' (by rw [qv_app, List.length_append]; exact h1) h2
      rw [List.length_append] at this
      exact this
  · have hb : B = [] := List.eq_nil_of_length_eq_zero (by omega)
    subst hb
    have hcap := own_cap hown
    refine Lib.wpList_append_run _ hgd s y 61 61 ho _ _ hs hy _ _ (run_appendE W (some ⟨g, 0, none⟩) A.length c (some ⟨gb, ob, none⟩) cb _ hcap) ?_
    have := h g c W (by simpa using hown) (grownBy_refl _ _)
    simpa using this
variable {w w' : World} {lo : Nat} {x : Value} {H : List Value} {L : List Face}
theorem FRow.keep (h : FRow w lo x H L) (hs : w.heap.size ≤ w'.heap.size) (hx : ∀ g, x.ownBlock = some g → w'.heap[g]? = w.heap[g]?) (hk : ∀ (i : Nat) (hv : Value), H[i]? = some hv → ∀ g, hv.ownBlock = some g → w'.heap[g]? = w.heap[g]?) : FRow w' lo x H L :=
  ⟨h.hl, ownsRow_blocks h.row hx, fun i hv f h1 h2 => (h.walks i hv f h1 h2).keep hs (hk i hv h1), h.apart, h.ok⟩
theorem FRow.walk_lt (h : FRow w lo x H L) {i : Nat} {hv : Value} (hi : H[i]? = some hv) {g : Nat} (hg : hv.ownBlock = some g) : lo ≤ g ∧ g < w.heap.size := by
  have hil := (List.getElem?_eq_some_iff.1 hi).1
  obtain ⟨g', off, c, rfl, _, _, h3, h4⟩ := h.walks i hv (L[i]'(by rw [← h.hl]; exact hil)) hi (List.getElem?_eq_getElem _)
  have : g' = g := by simpa [Value.ownBlock] using hg
  subst this
  exact ⟨h3, h4⟩
theorem FRow.under (h : FRow w lo x H L) (hb : Below w.heap.size w w') : FRow w' lo x H L :=
  h.keep hb.size (fun g hg => hb.block g (h.row.lt g hg).2) (fun _ _ hi g hg => hb.block g (h.walk_lt hi hg).2)
theorem FRow.form (h : FRow w lo x H L) (h0 : 0 < L.length) : ∃ g c, x = .slice (some ⟨g, 0, none⟩) L.length c ∧ L.length ≤ c := by
  obtain ⟨g, c, e, _⟩ := h.row.form h0
  subst e
  exact ⟨g, c, rfl, own_cap h.row⟩
theorem FRow.cells (h : FRow w lo x H L) {g c : Nat} (hx : x = .slice (some ⟨g, 0, none⟩) L.length c) {i : Nat} {hv : Value} {f : Face} (h1 : H[i]? = some hv) (h2 : L[i]? = some f) :
    w.cell? ⟨g, i * 3, none⟩ = some hv ∧ w.cell? ⟨g, i * 3 + 1, none⟩ = some (.int .u64 (lo64 f.nodes : Int)) ∧ w.cell? ⟨g, i * 3 + 2, none⟩ = some (.int .u64 (hi64 f.nodes : Int)) := by
  obtain ⟨a1, a2, a3⟩ := flatF_at H L i hv f h1 h2
  have hr := h.row
  rw [hx] at hr
  have k : ∀ j u, (flatF H L)[j]? = some u → w.cell? ⟨g, j, none⟩ = some u := fun j u hj => by
    have := hr.cells (g := g) rfl j u hj
    rwa [add_none] at this
  exact ⟨k _ _ a1, k _ _ a2, k _ _ a3⟩
theorem FRow.fcells (h : FRow w lo x H L) {g c : Nat} (hx : x = .slice (some ⟨g, 0, none⟩) L.length c) : FCells w g 0 L := fun i f hf => by
  have hi := (List.getElem?_eq_some_iff.1 hf).1
  have hh : H[i]? = some (H[i]'(by rw [h.hl]; exact hi)) := List.getElem?_eq_getElem _
  obtain ⟨a1, a2, a3⟩ := h.cells hx hh hf
  rw [Nat.zero_add]
  exact ⟨_, a1, a2, a3⟩
theorem FRow.nodes_lt (h : FRow w lo x H L) : ∀ f ∈ L, f.nodes < 2 ^ 128 := fun f hf => by
  obtain ⟨h1, _, h3⟩ := h.ok f hf
  rw [h3]; exact setOf_lt h1
/-- The block of a row of one's own, and its cells. -/
theorem owns_block {w : World} {base : Nat} {t : TypeId} {sz g n c : Nat} {xs : List Value} (h : w.ownsRow base t sz (.slice (some ⟨g, 0, none⟩) n c) n xs) : ∃ cur, w.heap[g]? = some (.cells cur t (0, 0)) ∧ cur.size = c * sz ∧ cur.toList.take (n * sz) = xs ∧ n ≤ c ∧ c ≤ maxLen ∧ base ≤ g ∧ xs.length = n * sz := by
  obtain ⟨hx, h2⟩ := h
  rcases h2 with ⟨e, _⟩ | ⟨g', cap, cur, e, h1, h2, h3, h4, h5, h6⟩
  · cases e
  · cases e
    exact ⟨cur, h2, h5, h6, h3, h4, h1, hx⟩
/-- A face is stored in another's place. -/
theorem FRow.store (h : FRow w lo x H L) {g c i : Nat} (hx : x = .slice (some ⟨g, 0, none⟩) L.length c) (hi : i < L.length) {hv : Value} {f : Face} (hw : WalkAt w lo hv f) (ha : ∀ b, hv.ownBlock = some b → b ≠ g) (hok : (∀ v ∈ f.walk, v < 128) ∧ f.walk.length ≤ 1000 ∧ f.nodes = setOf f.walk) :
    FRow (((w.setCell ⟨g, i * 3, none⟩ hv).setCell ⟨g, i * 3 + 1, none⟩ (.int .u64 (lo64 f.nodes : Int))).setCell ⟨g, i * 3 + 2, none⟩ (.int .u64 (hi64 f.nodes : Int))) lo x (H.set i hv) (L.set i f) := by
  have hr := h.row
  rw [hx] at hr
  obtain ⟨cur, h1, h2, h3, h4, h5, h6, h7⟩ := owns_block hr
  have hT := ((setCell_turns w g (i * 3) hv).trans (setCell_turns _ g (i * 3 + 1) (.int .u64 (lo64 f.nodes : Int)))).trans (setCell_turns _ g (i * 3 + 2) (.int .u64 (hi64 f.nodes : Int)))
  have hbox := box_set (box_set (box_set h1 (i * 3) hv) (i * 3 + 1) (.int .u64 (lo64 f.nodes : Int))) (i * 3 + 2) (.int .u64 (hi64 f.nodes : Int))
  refine ⟨by simp [h.hl], ?_, fun j hv' f' e1 e2 => ?_, fun j hv' e1 b hb e => ?_, fun f' hf' => ?_⟩
  · rw [hx, List.length_set]
    refine ⟨by rw [flatF_len _ _ (by simp [h.hl])]; simp, Or.inr ⟨g, c, _, rfl, h6, hbox, h4, h5, by simp [h2], ?_⟩⟩
    rw [flatF_set H L i hv f h.hl hi, ← h3]
    rw [Array.toList_setIfInBounds, Array.toList_setIfInBounds, Array.toList_setIfInBounds, List.take_set, List.take_set, List.take_set]
  · rw [List.getElem?_set] at e1 e2
    by_cases e : i = j
    · subst e
      rw [if_pos rfl] at e1 e2
      have hil : i < H.length := by rw [h.hl]; exact hi
      simp [hil, hi] at e1 e2
      subst e1 e2
      refine hw.keep hT.size (fun b hb => hT.block b ?_ (ha b hb))
      obtain ⟨gg, off, cc, rfl, _, _, _, q4⟩ := hw
      have : gg = b := by simpa [Value.ownBlock] using hb
      omega
    · rw [if_neg e] at e1 e2
      exact (h.walks j hv' f' e1 e2).keep hT.size (fun b hb => hT.block b (h.walk_lt e1 hb).2 (fun e3 => h.apart j hv' e1 b hb (by rw [hx, e3]; rfl)))
  · rw [List.getElem?_set] at e1
    by_cases e4 : i = j
    · subst e4
      have hil : i < H.length := by rw [h.hl]; exact hi
      simp [hil] at e1
      subst e1
      rw [hx] at e
      have : g = b := by simpa [Value.ownBlock] using e
      exact ha b hb this.symm
    · rw [if_neg e4] at e1
      exact h.apart j hv' e1 b hb e
  · rcases List.mem_or_eq_of_mem_set hf' with h8 | h8
    · exact h.ok f' h8
    · rw [h8]; exact hok
/-- A face is put behind the others; the row may lie elsewhere. -/
theorem FRow.push {w6 w1 : World} {y : Value} (h : FRow w lo x H L) (hb : Below w.heap.size w w6) (hg : w6.grownBy w1 x.ownBlock) {hv : Value} {f : Face} (hr : w1.ownsRow lo 86 3 y (L.length + 1) (flatF H L ++ fcell hv f)) (hy : ∀ b, y.ownBlock = some b → x.ownBlock = some b ∨ w6.heap.size ≤ b)
    (hw : WalkAt w lo hv f) (ha : ∀ b, hv.ownBlock = some b → x.ownBlock ≠ some b) (hok : (∀ v ∈ f.walk, v < 128) ∧ f.walk.length ≤ 1000 ∧ f.nodes = setOf f.walk) : FRow w1 lo y (H ++ [hv]) (L ++ [f]) := by
  have k : ∀ b, b < w.heap.size → x.ownBlock ≠ some b → w1.heap[b]? = w.heap[b]? := fun b hb1 hb2 => (hg.block b (Nat.lt_of_lt_of_le hb1 hb.size) (fun e => hb2 e.symm)).trans (hb.block b hb1)
  have hsz : w.heap.size ≤ w1.heap.size := Nat.le_trans hb.size hg.size
  have hwb : ∀ b, hv.ownBlock = some b → b < w.heap.size := fun b hb1 => by
    obtain ⟨gg, off, cc, rfl, _, _, _, q4⟩ := hw
    have : gg = b := by simpa [Value.ownBlock] using hb1
    omega
  have hget : ∀ (j : Nat) (hv' : Value), (H ++ [hv])[j]? = some hv' → (H[j]? = some hv' ∧ j < H.length) ∨ (hv' = hv ∧ j = H.length) := fun j hv' e => by
    rw [List.getElem?_append] at e
    split at e
    · rename_i hj; exact Or.inl ⟨e, hj⟩
    · rename_i hj
      have : j - H.length = 0 := by
        rcases Nat.eq_zero_or_pos (j - H.length) with h9 | h9
        · exact h9
        · rw [List.getElem?_eq_none (by simp; omega)] at e; cases e
      rw [this] at e
      simp at e
      exact Or.inr ⟨e.symm, by omega⟩
  refine ⟨by simp [h.hl], ?_, fun j hv' f' e1 e2 => ?_, fun j hv' e1 b hb1 e => ?_, fun f' hf' => ?_⟩
  · rw [flatF_snoc H L hv f h.hl, List.length_append]; exact hr
  · rcases hget j hv' e1 with ⟨e3, hj⟩ | ⟨rfl, hj⟩
    · rw [List.getElem?_append_left (by rw [← h.hl]; exact hj)] at e2
      exact (h.walks j hv' f' e3 e2).keep hsz (fun b hb1 => k b (h.walk_lt e3 hb1).2 (h.apart j hv' e3 b hb1))
    · rw [hj, h.hl, List.getElem?_append_right (Nat.le_refl _)] at e2
      simp at e2
      subst e2
      exact hw.keep hsz (fun b hb1 => k b (hwb b hb1) (ha b hb1))
  · have hbl : b < w.heap.size ∧ x.ownBlock ≠ some b := by
      rcases hget j hv' e1 with ⟨e3, _⟩ | ⟨rfl, _⟩
      · exact ⟨(h.walk_lt e3 hb1).2, h.apart j hv' e3 b hb1⟩
      · exact ⟨hwb b hb1, ha b hb1⟩
    rcases hy b e with h8 | h8
    · exact hbl.2 h8
    · have := hb.size; omega
  · rcases List.mem_append.1 hf' with h8 | h8
    · exact h.ok f' h8
    · have : f' = f := by simpa using h8
      rw [this]; exact hok
end Go.Proofs.YtekokjechbibdaaDoor
