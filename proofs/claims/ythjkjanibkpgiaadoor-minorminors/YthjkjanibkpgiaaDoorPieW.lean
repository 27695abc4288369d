/- What is fixed while pieces are tried, and what a try answers. -/
import Derived.Test.YthjkjanibkpgiaaDoorChoM
import Derived.Test.YthjkjanibkpgiaaDoorDrwW
namespace Go.Proofs.YthjkjanibkpgiaaDoor
set_option maxRecDepth 8000
open Go.RowKit Go.Maps
attribute [local go_sem] Oper.semAt_some
theorem Turns.next {M M' : Nat → Prop} {a b c : World} (h : Turns M a b) (k : Turns M' b c) (hm : ∀ i, i < a.heap.size → M' i → M i) : Turns M a c :=
  ⟨k.os.trans h.os, k.tape.trans h.tape, k.output.trans h.output, Nat.le_trans h.size k.size, fun i hi hn => (k.block i (Nat.lt_of_lt_of_le hi h.size) (fun h' => hn (hm i hi h'))).trans (h.block i hi hn)⟩
theorem info53 : (Tryd.prog.info? 53).map (fun i => (i.zero, i.size, i.bytes)) = some (some (.int .u32 0), 1, 4) := by kernel_rfl
/-- A row of sets in a box. -/
def PsV (A : World) (B bp : Nat) (v : Value) (P : List Nat) : Prop := (∃ vo vc, v = .slice vo P.length vc) ∧ One A bp v 47 ∧ A.ownsRow B 53 1 v P.length (uv P)
/-- The row's block is the one that it was, or was made later. -/
def Fresh (X : Nat) (v v' : Value) : Prop := ∀ g, v'.ownBlock = some g → v.ownBlock = some g ∨ X ≤ g
theorem Fresh.refl (X : Nat) (v : Value) : Fresh X v v := fun _ h => Or.inl h
theorem Fresh.trans {X X' : Nat} {a b c : Value} (h : Fresh X a b) (k : Fresh X' b c) (hx : X ≤ X') : Fresh X a c := fun g hg => by
  rcases k g hg with h1 | h1
  · exact h g h1
  · exact Or.inr (Nat.le_trans hx h1)
theorem PsV.below {A A' : World} {B bp : Nat} {v : Value} {P : List Nat} (h : PsV A B bp v P) {M : Nat → Prop} (ht : Turns M A A') (h1 : ¬ M bp) (h2 : ∀ g, v.ownBlock = some g → ¬ M g) : PsV A' B bp v P :=
  ⟨h.1, one_turns h.2.1 ht h1, ownsRow_blocks h.2.2 fun g hg => ht.block g (h.2.2.lt g hg).2 (h2 g hg)⟩
theorem PsV.pc {A : World} {B bp : Nat} {vo : Option Addr} {vc : Nat} {P : List Nat} (h : PsV A B bp (.slice vo P.length vc) P) : PcA A vo P.length (fun j => P.getD j 0) := fun j hj => by
  have hu : P[j]? = some (P.getD j 0) := by rw [List.getD_eq_getElem?_getD, List.getElem?_eq_getElem hj]; rfl
  have hu' : (uv P)[j]? = some (.int .u32 ((P.getD j 0 : Nat) : Int)) := by simp only [uv, List.getElem?_map, hu]; rfl
  rcases h.2.2.2 with ⟨_, e⟩ | ⟨g, c, cur, e, _⟩
  · omega
  · cases e
    refine ⟨g, rfl, ?_⟩
    have := h.2.2.cells (g := g) rfl j _ (by simpa using hu')
    rw [add_none] at this
    exact this
/-- One set more at a row's end, in a round. -/
theorem wpListIn_pushU {F : Fence} {n : Nat} {W : World} {ops : Array Oper} {rest : List Oper} {o : Oper} {a : Act} {Q : Exit → Act → World → Prop} {base : Nat} {v : Value} {k : Nat} {l : List Nat} {x : Nat} (hgd : o.guard = none) (s y : Operand) (hk : k = l.length)
    (ho : o.op = .call { callee := .builtin .append, args := #[s, y], argTypes := #[47, 47] }) (hs : a.eval s = v) (hy : a.eval y = .slice (some ⟨W.heap.size, 0, none⟩) 1 1)
    (hown : W.ownsRow base 53 1 v l.length (uv l)) (hl : l.length ≤ 1000000) (hbase : base ≤ W.heap.size)
    (h : ∀ g c w', w'.ownsRow base 53 1 (.slice (some ⟨g, 0, none⟩) (k + 1) c) (l ++ [x]).length (uv (l ++ [x])) → (W.alloc (Obj.cells #[.int .u32 (x : Int)] 53)).grownBy w' v.ownBlock → (v.ownBlock = some g ∨ W.heap.size ≤ g) → wpListIn F n Tryd.prog ops Q rest (a.put o.dst (.slice (some ⟨g, 0, none⟩) (k + 1) c)) w') :
    wpListIn F n Tryd.prog ops Q (o :: rest) a (W.alloc (Obj.cells #[.int .u32 (x : Int)] 53)) := by
  subst hk
  obtain ⟨i3, hi3, hy0, hy1, hy2⟩ := info_parts info53
  obtain ⟨g, c, w', hr, h1, h2, h3, _⟩ := run_append_lies (P := Tryd.prog) (w := W.alloc (Obj.cells #[.int .u32 (x : Int)] 53)) 47 o.type base 53 i3 (.int .u32 0) 1 4 Tryd.underlying47 hi3 hy0 hy1 hy2 rfl (by decide) v l.length (uv l) (hown.alloc _) ⟨W.heap.size, 0, none⟩ 1 1 [.int .u32 (x : Int)] rfl (cell_one_new _ _ _) (by intro y hy; simp at hy; subst hy; rfl) (by omega) (by unfold maxLen; omega) (by omega) (by simp; omega) _ rfl
  refine wpListIn_plain hgd fun K hK' => ?_
  unfold Oper.wpIn
  refine ⟨?_, ?_⟩
  · simp [Oper.about, ho, resolve, Target.leads, Sem.run_pure]
  · rw [Oper.semAt_plain F _ _ (by rw [ho]; intro c hc'; cases hc')]
    simp [execOp, ho, resolve, invoke, builtin, hs, hy, hr, Result.andThen]
    refine hK' _ _ (h g c w' ?_ h2 ?_)
    · have e : (l ++ [x]).length = l.length + 1 := by simp
      rw [e]
      simpa [uv] using h1
    · rcases h3 with h3 | h3
      · exact Or.inl h3
      · exact Or.inr (by simp at h3; omega)
/-- A row of sets that is made shorter. -/
theorem own_shortU {w : World} {base g c : Nat} {l : List Nat} {x : Nat} {n : Nat} (hn : n = (l ++ [x]).length) (h : w.ownsRow base 53 1 (.slice (some ⟨g, 0, none⟩) n c) n (uv (l ++ [x]))) : w.ownsRow base 53 1 (.slice (some ⟨g, 0, none⟩) l.length c) l.length (uv l) := by
  obtain ⟨h1, h2⟩ := h
  rcases h2 with ⟨h0, _⟩ | ⟨g', cap, cur, e1, h3, h4, h5, h6, h7, h8⟩
  · cases h0
  · cases e1
    have hl : (l ++ [x]).length = l.length + 1 := by simp
    refine ⟨by simp [uv], Or.inr ⟨g, c, cur, rfl, h3, h4, by omega, h6, h7, ?_⟩⟩
    have h9 : (cur.toList.take (n * 1)).take (l.length * 1) = (uv (l ++ [x])).take (l.length * 1) := by rw [h8]
    rw [List.take_take, Nat.min_eq_left (by omega)] at h9
    rw [h9]
    simp [uv]
/-- What is fixed while pieces are tried. -/
structure TrF (Fx : World → Prop) (B bm bp bs bt bf tb bn bw bq Z N K : Nat) (tog : Nat → Bool) (good : List Nat → Prop) (SeeT : Nat → List Nat → World → Prop) : Prop where
  keep : ∀ A A', Fx A → Turns (fun k => k = bp ∨ B ≤ k) A A' → Fx A'
  m : ∀ A, Fx A → One A bm (.int .i64 (K : Int)) 3
  s : ∀ A, Fx A → One A bs (.func (.func 21) #[] #[ptr bn, ptr bw, ptr bq]) 55
  t : ∀ A, Fx A → One A bt (sl tb Z) 60
  tr : ∀ A, Fx A → RowV A tb 4 Z (fun s => .bool (tog s))
  f : ∀ A, Fx A → One A bf (.func (.func 37) #[] #[ptr bm, ptr bp, ptr bs, ptr bt, ptr bf]) 65
  tab : ∀ A, Fx A → T32 A
  sz : ∀ A, Fx A → B ≤ A.heap.size
  hbp : bp < B
  hbq : bq < B ∧ bq ≠ bp
  hZ : Z = 2 ^ N
  hN : N ≤ 10
  hK : K ≤ 6
  see : ∀ A v Ps, Fx A → PsV A B bp v Ps → Ps.length = K → (∀ p ∈ Ps, p < 2 ^ N) → Calls Tryd.prog 21 #[v, ptr bn, ptr bw, ptr bq] A fun e w' =>
    (e = .returned (.bool true) ∧ good Ps ∧ SeeT A.heap.size Ps w' ∧ Turns (fun k => k = bq) A w') ∨ (e = .returned (.bool false) ∧ ¬ good Ps ∧ Below A.heap.size A w')
  seeK : ∀ X Ps A A', SeeT X Ps A → X ≤ A.heap.size → Turns (fun k => k = bp ∨ (B ≤ k ∧ k < X)) A A' → SeeT X Ps A'
  seeM : ∀ X X' Ps A, SeeT X Ps A → X' ≤ X → SeeT X' Ps A
/-- What a try answers. -/
def TrP (B bp bq K : Nat) (tog : Nat → Bool) (good : List Nat → Prop) (SeeT : Nat → List Nat → World → Prop) (left : Nat) (P : List Nat) (v : Value) (A : World) (e : Ending) (w' : World) : Prop :=
  (e = .returned (.bool true) ∧ ∃ c, Cho tog left.testBit c ∧ (P ++ c).length = K ∧ good (P ++ c) ∧ SeeT A.heap.size (P ++ c) w' ∧ Turns (fun k => k = bp ∨ v.ownBlock = some k ∨ k = bq) A w') ∨
  (e = .returned (.bool false) ∧ (∀ c, Cho tog left.testBit c → (P ++ c).length = K → ¬ good (P ++ c)) ∧ ∃ v', PsV w' B bp v' P ∧ Fresh A.heap.size v v' ∧ Turns (fun k => k = bp ∨ v.ownBlock = some k) A w')
theorem enter37 (args : Array Value) (w : World) : (callFunc 37 args).run Tryd.prog w = .ok (.enter 37 args) w := enters_of Tryd.func37 (by kernel_rfl) rfl args w
theorem enter21 (args : Array Value) (w : World) : (callFunc 21 args).run Tryd.prog w = .ok (.enter 21 args) w := enters_of Tryd.func21 (by kernel_rfl) rfl args w
theorem dif_bits (a b i : Nat) (ha : a < 4294967296) (hb : b < 4294967296) : (a &&& (4294967295 - b)).testBit i = (a.testBit i && !b.testBit i) := by
  have e : 4294967295 - b = 2 ^ 32 - (b + 1) := by
    have : (2 : Nat) ^ 32 = 4294967296 := rfl
    omega
  rw [Nat.testBit_and, e, Nat.testBit_two_pow_sub_succ (show b < 2 ^ 32 by simpa using hb)]
  cases h : a.testBit i with
  | false => simp
  | true =>
    have hz : i < 32 := by
      apply Classical.byContradiction
      intro hz
      have h2 : a < 2 ^ i := Nat.lt_of_lt_of_le ha (by have : (2 : Nat) ^ 32 ≤ 2 ^ i := Nat.pow_le_pow_right (by omega) (by omega); simpa using this)
      rw [Nat.testBit_lt_two_pow h2] at h; cases h
    simp [hz]
end Go.Proofs.YthjkjanibkpgiaaDoor
