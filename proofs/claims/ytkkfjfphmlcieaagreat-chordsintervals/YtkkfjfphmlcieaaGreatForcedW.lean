/- Sets of pairs of nodes, kept in maps: looked up, added to, gone through. Arcs that force one another; the triangle lemma; what is left of a graph without a class and its reverse. Plain mathematics. forced: all arcs that must go with one; its literal calls itself. forced: its contract. -/
import Derived.Test.YtkkfjfphmlcieaaGreatPartC
import Derived.Test.YtkkfjfphmlcieaaGreatConM
import Derived.Below
import Derived.Test.YtkkfjfphmlcieaaGreatGrowK
namespace Go.Proofs.YtkkfjfphmlcieaaGreat
set_option maxRecDepth 4000
open Go.RowKit Go.Maps
def pr (u v : Int) : Value := .agg #[.int .i64 u, .int .i64 v]
theorem lits_inv {m : Nat} {c : Value} {l : List Lit} (h : Tryz.prog.keyLits (m + 1) 3 [c] = some l) : ∃ u, c = .int .i64 u ∧ I64 u ∧ l = [.int .i64 u] := by
  rw [Program.keyLits.eq_def] at h
  simp only [Tryz.underlying3] at h
  split at h
  · rename_i h1 h2; simp at h1
  · rename_i q q' n h1 h2
    simp at h1 h2
    subst h1
    split at h
    · rename_i h3
      obtain ⟨rfl, hw⟩ := h3
      simp at h
      have := wf_bounds hw
      exact ⟨n, h2, ⟨this.1, this.2⟩, h.symm⟩
    · cases h
  · rename_i h1 h2; simp at h1
  · rename_i h1; simp at h1
  · rename_i h1; simp at h1
  · cases h
theorem key_pair {key : Value} {l : Lit} (h : keyOf Tryz.prog 38 key = some l) : ∃ u v, key = pr u v ∧ I64 u ∧ I64 v ∧ l = kl u v := by
  have h0 := h
  simp only [keyOf, Tryz.underlying38] at h
  split at h
  · rename_i hc
    simp only [Bool.and_eq_true] at hc
    obtain ⟨_, hf⟩ := hc
    cases key with
    | agg cs =>
      simp only [Value.formed, Tryz.underlying38, Tryz.cells38, beq_iff_eq] at hf
      obtain ⟨a, b, rfl⟩ : ∃ a b, cs = #[a, b] := by
        obtain ⟨l⟩ := cs
        match l, hf with
        | [a, b], _ => exact ⟨a, b, rfl⟩
      obtain ⟨m, hm⟩ := Tryz.tsize
      have e : Tryz.prog.keyLits (Tryz.prog.types.size + 1) 38 [a, b] = (if [a, b].length = Tryz.prog.cellsOf 38 then ((List.range 2).mapM fun i => Tryz.prog.keyLits (Tryz.prog.types.size) 3 (([a, b].drop (i * Tryz.prog.cellsOf 3)).take (Tryz.prog.cellsOf 3))).map List.flatten else none) := by
        rw [Program.keyLits.eq_def]
        simp only [Tryz.underlying38]
      have hcs : (Value.agg #[a, b]).cells.toList = [a, b] := rfl
      rw [hcs, e, Tryz.cells38, Tryz.cells3, hm] at h
      simp [show List.range 2 = [0, 1] from rfl] at h
      cases hx : Tryz.prog.keyLits (m + 2) 3 [a] with
      | none => simp [hx] at h
      | some x =>
        cases hy : Tryz.prog.keyLits (m + 2) 3 [b] with
        | none => simp [hx, hy] at h
        | some y =>
          simp [hx, hy] at h
          obtain ⟨u, rfl, hu, rfl⟩ := lits_inv hx
          obtain ⟨v, rfl, hv, rfl⟩ := lits_inv hy
          exact ⟨u, v, rfl, hu, hv, by rw [← h]; rfl⟩
    | _ => simp [Value.formed, Tryz.underlying38] at hf
  · cases h

/-- The pairs of numbers below N that S tells. -/
def inP (N : Nat) (S : Nat → Nat → Bool) (u v : Int) : Bool := decide (0 ≤ u ∧ u < N ∧ 0 ≤ v ∧ v < N) && S u.toNat v.toNat
def cardP (N : Nat) (S : Nat → Nat → Bool) : Nat := ((List.range (N * N)).filter fun z => S (z / N) (z % N)).length
theorem cardP_le (N : Nat) (S : Nat → Nat → Bool) : cardP N S ≤ N * N := Nat.le_trans (List.length_filter_le _ _) (by simp)
theorem pairNum {N u v : Nat} (hu : u < N) (hv : v < N) : u * N + v < N * N ∧ (u * N + v) / N = u ∧ (u * N + v) % N = v := by
  refine ⟨?_, ?_, ?_⟩
  · have : u * N + N ≤ N * N := by rw [← Nat.succ_mul]; exact Nat.mul_le_mul_right N hu
    omega
  · rw [Nat.mul_comm, Nat.mul_add_div (by omega), Nat.div_eq_of_lt hv]; rfl
  · rw [Nat.mul_comm, Nat.mul_add_mod, Nat.mod_eq_of_lt hv]
theorem cardP_lt {N : Nat} {S T : Nat → Nat → Bool} (h : ∀ x y, S x y = true → T x y = true) {u v : Nat} (hu : u < N) (hv : v < N) (h1 : S u v = false) (h2 : T u v = true) : cardP N S < cardP N T := by
  obtain ⟨e1, e2, e3⟩ := pairNum hu hv
  exact filter_ltB _ (fun z hz => h _ _ hz) ⟨u * N + v, List.mem_range.2 e1, by rw [e2, e3]; exact h2, by rw [e2, e3]; exact h1⟩
/-- Block b is the set S of pairs. -/
def PairS (w : World) (b N : Nat) (S : Nat → Nat → Bool) : Prop := SetAt w b (cardP N S) (inP N S)
section
variable {w w' : World} {b N : Nat} {S : Nat → Nat → Bool}
theorem PairS.block (h : PairS w b N S) (hb : w'.heap[b]? = w.heap[b]?) : PairS w' b N S := SetAt.block h hb
theorem PairS.lt (h : PairS w b N S) : b < w.heap.size := SetAt.lt h
theorem PairS.below (h : PairS w b N S) (hb : Below w.heap.size w w') : PairS w' b N S := h.block (hb.block b h.lt)
theorem PairS.turns {M : Nat → Prop} (h : PairS w b N S) (ht : Turns M w w') (hm : ¬ M b) : PairS w' b N S := h.block (ht.block b h.lt hm)
theorem PairS.isMap (h : PairS w b N S) : ∃ es c, w.heap[b]? = some (.map es c) := by
  obtain ⟨D, ⟨es, clock, h1, _⟩, _⟩ := h; exact ⟨es, clock, h1⟩
theorem pairS_made (w : World) (N : Nat) : PairS (w.alloc (.map #[] 0)) w.heap.size N (fun _ _ => false) := by
  refine ⟨.map [], (World.ownsMap_made _ _ _ _).mono (Nat.zero_le _), fun _ _ _ _ => ?_⟩
  simp [inP, Maps.has]
theorem inP_nat {u v : Nat} (hu : u < N) (hv : v < N) : inP N S (u : Int) (v : Int) = S u v := by
  simp [inP, hu, hv]
theorem PairS.look (h : PairS w b N S) (hN : N ≤ 1000000) {u v : Nat} (hu : u < N) (hv : v < N) :
    (Instr.lookup 73 (.map (some b)) (.agg #[.int .i64 (u : Int), .int .i64 (v : Int)]) true).run Tryz.prog w = .ok (.tuple #[.agg #[], .bool (S u v)]) w := by
  have := SetAt.look h (natI hN hu) (natI hN hv)
  rw [inP_nat hu hv] at this
  exact this
def addP (S : Nat → Nat → Bool) (u v : Nat) : Nat → Nat → Bool := fun x y => (x == u && y == v) || S x y
theorem PairS.store (h : PairS w b N S) (hN : N ≤ 1000) {u v : Nat} (hu : u < N) (hv : v < N) (hnew : S u v = false) :
    ∃ w', (Instr.mapUpdate 73 (.map (some b)) (.agg #[.int .i64 (u : Int), .int .i64 (v : Int)]) (.agg #[])).run Tryz.prog w = .ok () w' ∧ PairS w' b N (addP S u v) ∧ w.mapTurned w' b := by
  have hN6 : N ≤ 1000000 := by omega
  have hc := cardP_le N S
  have hNN : N * N ≤ 1000 * 1000 := Nat.mul_le_mul hN hN
  obtain ⟨w', h1, ⟨D, h2, h3⟩, h4⟩ := SetAt.store h (natI hN6 hu) (natI hN6 hv) (by simp only [maxLen]; omega)
  have hlt := cardP_lt (N := N) (S := S) (T := addP S u v) (fun x y hh => by simp [addP, hh]) hu hv hnew (by simp [addP])
  refine ⟨w', h1, ⟨D, h2.mono (by omega), fun x y hx hy => ?_⟩, h4⟩
  rw [h3 x y hx hy]
  simp only [inP, addP]
  by_cases hb : 0 ≤ x ∧ x < N ∧ 0 ≤ y ∧ y < N
  · have e1 : (x.toNat == u) = (x == (u : Int)) := by rw [Bool.eq_iff_iff]; simp; omega
    have e2 : (y.toNat == v) = (y == (v : Int)) := by rw [Bool.eq_iff_iff]; simp; omega
    simp [hb, e1, e2]
  · have : (x == (u : Int) && y == (v : Int)) = false := by
      rw [Bool.eq_false_iff]; intro hh
      simp at hh
      omega
    simp [hb, this]
end
/-- A set of pairs is gone through: lf tells what is left. -/
def RgP (w : World) (b r N : Nat) (S lf : Nat → Nat → Bool) (cnt : Nat) : Prop := ∃ (n : Nat) (D : DataW Unit) (LF : Lit → Bool), w.ranges Tryz.prog 38 unitElem b r n D LF cnt ∧ (∀ u v : Int, I64 u → I64 v → Maps.has D (kl u v) = inP N S u v) ∧ n = cardP N S ∧ ∀ x y : Nat, x < N → y < N → lf x y = LF (kl (x : Int) (y : Int))
section
variable {w w' : World} {b r N cnt : Nat} {S lf : Nat → Nat → Bool}
theorem RgP.kept {row : Option Nat} (h : RgP w b r N S lf cnt) (hg : w.grownBy w' row) (hb : some b ≠ row) (hr : some r ≠ row) : RgP w' b r N S lf cnt := by
  obtain ⟨n, D, LF, h1, h2, h3⟩ := h
  exact ⟨n, D, LF, h1.kept hg hb hr, h2, h3⟩
theorem RgP.below (h : RgP w b r N S lf cnt) (hb : Below w.heap.size w w') : RgP w' b r N S lf cnt := h.kept (grown_below hb) (by simp) (by simp)
theorem RgP.left (h : RgP w b r N S lf cnt) : w.rangeLeft b r = cnt := by
  obtain ⟨n, D, LF, h1, _⟩ := h
  exact h1.left_eq
theorem RgP.set (h : RgP w b r N S lf cnt) : PairS w b N S := by
  obtain ⟨n, D, LF, h1, h2, rfl, _⟩ := h
  exact ⟨D, h1.owns, h2⟩
theorem RgP.lt (h : RgP w b r N S lf cnt) : r < w.heap.size := by
  obtain ⟨n, D, LF, h1, _⟩ := h
  exact h1.lt
theorem RgP.ne (h : RgP w b r N S lf cnt) : r ≠ b := by
  obtain ⟨n, D, LF, h1, _⟩ := h
  exact h1.ne
theorem RgP.turns {M : Nat → Prop} (h : RgP w b r N S lf cnt) (ht : Turns M w w') (hb : ¬ M b) (hr : ¬ M r) : RgP w' b r N S lf cnt := by
  obtain ⟨n, D, LF, ⟨es, clock, since, seen, c0, h1, h2, h3, h4, h5, h6⟩, h7, h8⟩ := h
  exact ⟨n, D, LF, ⟨es, clock, since, seen, c0, (ht.block b (Array.getElem?_eq_some_iff.1 h1).1 hb).trans h1, h2, h3, h4, (ht.block r (Array.getElem?_eq_some_iff.1 h5).1 hr).trans h5, h6⟩, h7, h8⟩
theorem RgP.iter (h : RgP w b r N S lf cnt) : ∃ a b c d, w.heap[r]? = some (.mapIter a b c d) := by
  obtain ⟨n, D, LF, ⟨es, clock, since, seen, c0, h1, h2, h3, h4, h5, h6⟩, h7, h8⟩ := h
  exact ⟨_, _, _, _, h5⟩
variable {ops : Array Oper} {rest : List Oper} {o : Oper} {a : Act} {Q : Exit → Act → World → Prop}
theorem wpList_rangeP (hN : N ≤ 1000000) (hg : o.guard = none) (x : Operand) (hop : o.op = Op.range 73 x) (hx : a.eval x = .map (some b)) (h : PairS w b N S)
    (hRest : ∀ w5 cnt, RgP w5 b w.heap.size N S S cnt → Below w.heap.size w w5 → wpList Tryz.prog ops Q rest (a.put o.dst (.pointer (some ⟨w.heap.size, 0, none⟩))) w5) : wpList Tryz.prog ops Q (o :: rest) a w := by
  obtain ⟨D, hown, hhas⟩ := h
  refine wpList_range_own _ hg x 73 hop 38 75 Tryz.law38 Tryz.underlying73 _ b (cardP N S) D hx hown ?_
  intro w5 hrg0 hg0 hs0
  exact hRest w5 _ ⟨_, D, _, hrg0, hhas, rfl, fun u v hu hv => by rw [hhas u v (natI hN hu) (natI hN hv), inP_nat hu hv]⟩ ((Below.refl _ _).grown hg0 (Nat.le_refl _) (fun k hk => by cases hk))
theorem kl_ne {u v u' v' : Int} (hu : I64 u) (hv : I64 v) (hu' : I64 u') (hv' : I64 v') (h : ¬ (u = u' ∧ v = v')) : (kl u v).sameKey (kl u' v') = false := by
  cases hh : (kl u v).sameKey (kl u' v') with
  | false => rfl
  | true =>
    exfalso
    refine h (key_inj hu hv hu' hv' ?_)
    simpa [kl, Lit.sameKey] using hh
theorem kl_self (u v : Int) : (kl u v).sameKey (kl u v) = true := by simp [kl, Lit.sameKey]
/-- One pair less. -/
def offL (lf : Nat → Nat → Bool) (x y : Nat) : Nat → Nat → Bool := fun u v => lf u v && !(u == x && v == y)
theorem wpList_nextP (hN : N ≤ 1000000) (hg : o.guard = none) (it : Operand) (hop : o.op = Op.next it false) (hit : a.eval it = .pointer (some ⟨r, 0, none⟩)) (h : RgP w b r N S lf cnt)
    (hDone : (∀ x y, x < N → y < N → lf x y = false) → wpList Tryz.prog ops Q rest (a.put o.dst (.tuple #[.bool false])) w)
    (hMore : ∀ (x y : Nat) (w6 : World) (cnt6 : Nat), x < N → y < N → S x y = true → lf x y = true → RgP w6 b r N S (offL lf x y) cnt6 → cnt6 < cnt → w.grownBy w6 (some r) → (Instr.entry (.pointer (some ⟨r, 0, none⟩))).run Tryz.prog w6 = .ok (.tuple #[.agg #[.int .i64 (x : Int), .int .i64 (y : Int)], .agg #[]]) w6 → wpList Tryz.prog ops Q rest (a.put o.dst (.tuple #[.bool true, .agg #[.int .i64 (x : Int), .int .i64 (y : Int)], .agg #[]])) w6) : wpList Tryz.prog ops Q (o :: rest) a w := by
  obtain ⟨n, D, LF, hrg, hhas, hn, hlf⟩ := h
  refine wpList_next_ranges _ hg it hop 38 Tryz.law38 unitElem (fun p : Int × Int => pr p.1 p.2) (fun _ : Unit => .agg #[]) (fun key kl hk => by obtain ⟨u, v, hx, _⟩ := key_pair hk; exact ⟨(u, v), hx⟩) (fun v _ hv => ⟨(), (unitElem_inv hv).1⟩) b r n _ _ _ hit hrg ?_ ?_
  · intro _ hl0
    exact hDone (fun x y hx hy => by rw [hlf x y hx hy]; exact hl0 _)
  · rintro ⟨x0, y0⟩ _ kl0 yd w6 cnt6 hkey hlk hvv hat hrg6 hcl hg6 hs6 hen
    obtain ⟨u, v, ex, hu, hv, rfl⟩ := key_pair hkey
    simp only [pr] at ex
    simp at ex
    obtain ⟨rfl, rfl⟩ := ex
    have hh := has_true_of_atKey hat
    rw [hhas x0 y0 hu hv] at hh
    simp only [inP, Bool.and_eq_true, decide_eq_true_eq] at hh
    obtain ⟨⟨a1, a2, a3, a4⟩, a5⟩ := hh
    obtain ⟨x, rfl⟩ : ∃ x : Nat, x0 = x := ⟨x0.toNat, by omega⟩
    obtain ⟨y, rfl⟩ : ∃ y : Nat, y0 = y := ⟨y0.toNat, by omega⟩
    have hxN : x < N := by omega
    have hyN : y < N := by omega
    refine hMore x y w6 cnt6 hxN hyN (by simpa using a5) (by rw [hlf x y hxN hyN]; exact hlk) ⟨n, D, _, hrg6, hhas, hn, fun p q hp hq => ?_⟩ hcl hg6 hen
    show (lf p q && !(p == x && q == y)) = _
    rw [hlf p q hp hq]
    by_cases e : p = x ∧ q = y
    · obtain ⟨rfl, rfl⟩ := e; simp [kl_self]
    · have h1 : (p == x && q == y) = false := by rw [Bool.eq_false_iff]; intro hh; simp at hh; exact e hh
      rw [h1, kl_ne (natI hN hp) (natI hN hq) hu hv (by omega)]
end
end Go.Proofs.YtkkfjfphmlcieaaGreat

namespace Go.Proofs.YtkkfjfphmlcieaaGreat
/-- One arc forces another: they have an end together, of the same kind, and no edge is between their other ends. -/
def Fc (adj : Nat → Nat → Bool) (p q : Nat × Nat) : Prop := adj q.1 q.2 = true ∧ ((p.1 = q.1 ∧ p.2 ≠ q.2 ∧ adj p.2 q.2 = false) ∨ (p.2 = q.2 ∧ p.1 ≠ q.1 ∧ adj p.1 q.1 = false))
def Fsn (adj : Nat → Nat → Bool) : Nat → Nat × Nat → Nat × Nat → Prop
  | 0, p, q => p = q
  | n + 1, p, r => ∃ q, Fsn adj n p q ∧ Fc adj q r
def Fs (adj : Nat → Nat → Bool) (p q : Nat × Nat) : Prop := ∃ n, Fsn adj n p q
section
variable {adj : Nat → Nat → Bool}
theorem Fs.refl {p : Nat × Nat} : Fs adj p p := ⟨0, rfl⟩
theorem Fs.step {p q r : Nat × Nat} (h : Fs adj p q) (h2 : Fc adj q r) : Fs adj p r := by
  obtain ⟨n, hn⟩ := h
  exact ⟨n + 1, q, hn, h2⟩
theorem Fs.ind {p : Nat × Nat} {P : Nat × Nat → Prop} (h0 : P p) (hs : ∀ q r, Fs adj p q → Fc adj q r → P q → P r) {q : Nat × Nat} (h : Fs adj p q) : P q := by
  obtain ⟨n, hn⟩ := h
  induction n generalizing q with
  | zero => exact (show p = q from hn) ▸ h0
  | succ n ih =>
    obtain ⟨c, hc, hcb⟩ := hn
    exact hs c q ⟨n, hc⟩ hcb (ih hc)
theorem Fs.trans {p q r : Nat × Nat} (h1 : Fs adj p q) (h2 : Fs adj q r) : Fs adj p r :=
  Fs.ind (P := fun r => Fs adj p r) h1 (fun _ _ _ h ih => ih.step h) h2
theorem Fc.sym (hs : ∀ x y, adj x y = adj y x) {p q : Nat × Nat} (hp : adj p.1 p.2 = true) (h : Fc adj p q) : Fc adj q p := by
  obtain ⟨_, ⟨e1, e2, e3⟩ | ⟨e1, e2, e3⟩⟩ := h
  · exact ⟨hp, Or.inl ⟨e1.symm, fun e => e2 e.symm, by rw [hs]; exact e3⟩⟩
  · exact ⟨hp, Or.inr ⟨e1.symm, fun e => e2 e.symm, by rw [hs]; exact e3⟩⟩
theorem Fs.edge {p q : Nat × Nat} (hp : adj p.1 p.2 = true) (h : Fs adj p q) : adj q.1 q.2 = true :=
  Fs.ind (P := fun q => adj q.1 q.2 = true) hp (fun _ _ _ h _ => h.1) h
theorem Fs.sym (hs : ∀ x y, adj x y = adj y x) {p q : Nat × Nat} (hp : adj p.1 p.2 = true) (h : Fs adj p q) : Fs adj q p :=
  Fs.ind (P := fun q => Fs adj q p) .refl (fun _ _ h1 h2 ih => (Fs.refl.step (h2.sym hs (h1.edge hp))).trans ih) h
theorem Fc.turn (hs : ∀ x y, adj x y = adj y x) {p q : Nat × Nat} (h : Fc adj p q) : Fc adj (p.2, p.1) (q.2, q.1) := by
  obtain ⟨h0, h | h⟩ := h
  · exact ⟨by rw [hs]; exact h0, Or.inr h⟩
  · exact ⟨by rw [hs]; exact h0, Or.inl h⟩
theorem Fs.turn (hs : ∀ x y, adj x y = adj y x) {p q : Nat × Nat} (h : Fs adj p q) : Fs adj (p.2, p.1) (q.2, q.1) :=
  Fs.ind (P := fun q => Fs adj (p.2, p.1) (q.2, q.1)) .refl (fun _ _ _ h2 ih => ih.step (h2.turn hs)) h
/-- The triangle lemma. -/
theorem triangle (hs : ∀ x y, adj x y = adj y x) {a b c : Nat} (hab : adj a b = true) (hac : adj a c = true) (h1 : ¬ Fs adj (b, c) (a, c)) (h2 : ¬ Fs adj (b, c) (b, a)) {q : Nat × Nat} (h : Fs adj (b, c) q) :
    adj a q.1 = true ∧ adj a q.2 = true ∧ Fs adj (a, b) (a, q.1) ∧ Fs adj (a, c) (a, q.2) := by
  refine Fs.ind (P := fun q => adj a q.1 = true ∧ adj a q.2 = true ∧ Fs adj (a, b) (a, q.1) ∧ Fs adj (a, c) (a, q.2)) ⟨hab, hac, .refl, .refl⟩ (fun q r hq hr ih => ?_) h
  obtain ⟨i1, i2, i3, i4⟩ := ih
  obtain ⟨q1, q2⟩ := q
  obtain ⟨r1, r2⟩ := r
  have hr' := hr
  obtain ⟨h0, ⟨e1, e2, e3⟩ | ⟨e1, e2, e3⟩⟩ := hr'
  · simp only at e1 e2 e3 h0 i1 i2 i3 i4
    subst e1
    have back : Fs adj (q1, a) (b, a) := (i3.sym hs hab).turn hs
    have hne : r2 ≠ a := fun e => by
      rw [e] at hr
      exact h2 ((hq.step hr).trans back)
    have hadj : adj a r2 = true := by
      cases e : adj a r2 with
      | true => rfl
      | false =>
        exact absurd (((hq.step hr).step (r := (q1, a)) ⟨by rw [hs]; exact i1, Or.inl ⟨rfl, hne, by rw [hs]; exact e⟩⟩).trans back) h2
    exact ⟨i1, hadj, i3, i4.step ⟨hadj, Or.inl ⟨rfl, e2, e3⟩⟩⟩
  · simp only at e1 e2 e3 h0 i1 i2 i3 i4
    subst e1
    have back : Fs adj (a, q2) (a, c) := i4.sym hs hac
    have hne : r1 ≠ a := fun e => by
      rw [e] at hr
      exact h1 ((hq.step hr).trans back)
    have hadj : adj a r1 = true := by
      cases e : adj a r1 with
      | true => rfl
      | false =>
        exact absurd (((hq.step hr).step (r := (a, q2)) ⟨i2, Or.inr ⟨rfl, hne, by rw [hs]; exact e⟩⟩).trans back) h1
    exact ⟨hadj, i2, i3.step ⟨hadj, Or.inl ⟨rfl, e2, e3⟩⟩, i4⟩
/-- No arc of the class touches the third node. -/
theorem triangle_off (hs : ∀ x y, adj x y = adj y x) (hi : ∀ x, adj x x = false) {a b c : Nat} (hab : adj a b = true) (hac : adj a c = true) (h1 : ¬ Fs adj (b, c) (a, c)) (h2 : ¬ Fs adj (b, c) (b, a)) {q : Nat × Nat} (h : Fs adj (b, c) q) : q.1 ≠ a ∧ q.2 ≠ a := by
  obtain ⟨i1, i2, _⟩ := triangle hs hab hac h1 h2 h
  refine ⟨fun e => ?_, fun e => ?_⟩
  · rw [e, hi] at i1; cases i1
  · rw [e, hi] at i2; cases i2

/-- No arc forces itself the other way round. -/
def Good (adj : Nat → Nat → Bool) : Prop := ∀ p : Nat × Nat, adj p.1 p.2 = true → ¬ Fs adj p (p.2, p.1)
/-- The class of e, or its reverse. -/
def Hat (adj : Nat → Nat → Bool) (e : Nat × Nat) (x y : Nat) : Prop := Fs adj e (x, y) ∨ Fs adj e (y, x)
theorem Hat.sw {e : Nat × Nat} {x y : Nat} (h : Hat adj e x y) : Hat adj e y x := h.elim Or.inr Or.inl
theorem Hat.same (hs : ∀ x y, adj x y = adj y x) {e : Nat × Nat} {x y u v : Nat} (h : Hat adj e x y) (h2 : Fs adj (x, y) (u, v)) : Hat adj e u v :=
  h.elim (fun h => Or.inl (h.trans h2)) (fun h => Or.inr (h.trans (h2.turn hs)))
/-- Two arcs of the class and its reverse are in one class, or the one is in the other's reverse. -/
theorem Hat.two (hs : ∀ x y, adj x y = adj y x) {e : Nat × Nat} (he : adj e.1 e.2 = true) {x y u v : Nat} (h : Hat adj e x y) (h2 : Hat adj e u v) : Fs adj (x, y) (u, v) ∨ Fs adj (x, y) (v, u) := by
  rcases h with h | h <;> rcases h2 with h2 | h2
  · exact Or.inl ((h.sym hs he).trans h2)
  · exact Or.inr ((h.sym hs he).trans h2)
  · exact Or.inr (((h.sym hs he).trans h2).turn hs)
  · exact Or.inl (((h.sym hs he).trans h2).turn hs)
/-- Two classes (of p and of q) that a triangle over an edge of the class links. -/
def Tri (adj : Nat → Nat → Bool) (e p q : Nat × Nat) : Prop := ∃ a b c, adj a b = true ∧ adj a c = true ∧ adj b c = true ∧ Hat adj e b c ∧ ¬ Hat adj e a b ∧ ¬ Hat adj e a c ∧ Fs adj p (a, b) ∧ Fs adj q (a, c)

theorem Tri.next (hs : ∀ x y, adj x y = adj y x) (hi : ∀ x, adj x x = false) {e p q r : Nat × Nat} (he : adj e.1 e.2 = true) (hq : adj q.1 q.2 = true) (hr : adj r.1 r.2 = true) (h1 : Tri adj e p q) (h2 : Tri adj e q r) : Fs adj p r := by
  obtain ⟨a, b, c, ab, ac, bc, A, nab, nac, pab, qac⟩ := h1
  obtain ⟨a', b', c', ab', ac', bc', A', nab', nac', qab', rac'⟩ := h2
  have na1 : ¬ Fs adj (b', c') (a', c') := fun h => nac' (A'.same hs h)
  have na2 : ¬ Fs adj (b', c') (b', a') := fun h => nab' (A'.same hs h).sw
  have cb : adj c b = true := by rw [hs]; exact bc
  rcases A'.two hs he A with hh | hh
  · obtain ⟨j1, j2, j3, j4⟩ := triangle hs ab' ac' na1 na2 hh
    simp only at j1 j2 j3 j4
    have qa'b : Fs adj q (a', b) := qab'.trans j3
    have ra'c : Fs adj r (a', c) := rac'.trans j4
    have acq := qac.sym hs hq
    have pq : Fs adj p q := by
      refine Classical.byContradiction fun hn => ?_
      refine (triangle_off hs hi (a := b) (b := a) (c := c) (by rw [hs]; exact ab) bc (fun h => nac (A.same hs (h.sym hs ac))) (fun h => hn ?_) (acq.trans qa'b)).2 rfl
      exact pab.trans ((h.sym hs ac).trans acq)
    have qr : Fs adj q r := by
      refine Classical.byContradiction fun hn => ?_
      refine (triangle_off hs hi (a := c) (b := a') (c := b) (by rw [hs]; exact j2) cb (fun h => ?_) (fun h => hn ?_) ((qa'b.sym hs hq).trans qac)).2 rfl
      · exact nab' ((A.sw.same hs (h.sym hs j1)).same hs (j3.sym hs ab'))
      · exact qa'b.trans (h.trans (ra'c.sym hs hr))
    exact pq.trans qr
  · obtain ⟨j1, j2, j3, j4⟩ := triangle hs ab' ac' na1 na2 hh
    simp only at j1 j2 j3 j4
    have qa'c : Fs adj q (a', c) := qab'.trans j3
    have ra'b : Fs adj r (a', b) := rac'.trans j4
    have acq := qac.sym hs hq
    have fin : Fs adj (a, b) (a', b) → Fs adj p r := fun h => pab.trans (h.trans (ra'b.sym hs hr))
    by_cases pq : Fs adj p q
    · by_cases rq : Fs adj r q
      · exact pq.trans (rq.sym hs hr)
      · refine fin ?_
        have := (triangle hs (a := b) (b := a') (c := c) (by rw [hs]; exact j2) bc (fun h => ?_) (fun h => rq ?_) ((qa'c.sym hs hq).trans qac)).2.2.1
        · exact ((this.turn hs).sym hs j2)
        · exact nab' ((A.same hs (h.sym hs j1)).same hs (j3.sym hs ab'))
        · exact ra'b.trans ((h.sym hs j1).trans (qa'c.sym hs hq))
    · refine fin ?_
      have := (triangle hs (a := b) (b := a) (c := c) (by rw [hs]; exact ab) bc (fun h => nac (A.same hs (h.sym hs ac))) (fun h => pq ?_) (acq.trans qa'c)).2.2.1
      · exact this.turn hs
      · exact pab.trans ((h.sym hs ac).trans acq)

theorem Tri.nextTurn (hs : ∀ x y, adj x y = adj y x) (hi : ∀ x, adj x x = false) {e p q r : Nat × Nat} (he : adj e.1 e.2 = true) (hq : adj q.1 q.2 = true) (hr : adj r.1 r.2 = true) (h1 : Tri adj e p q) (h2 : Tri adj e (q.2, q.1) (r.2, r.1)) : Fs adj p r := by
  obtain ⟨a, b, c, ab, ac, bc, A, nab, nac, pab, qac⟩ := h1
  obtain ⟨a', b', c', ab', ac', bc', A', nab', nac', qab', rac'⟩ := h2
  have na1 : ¬ Fs adj (b', c') (a', c') := fun h => nac' (A'.same hs h)
  have na2 : ¬ Fs adj (b', c') (b', a') := fun h => nab' (A'.same hs h).sw
  have cb : adj c b = true := by rw [hs]; exact bc
  have qba : Fs adj q (b', a') := qab'.turn hs
  have rca : Fs adj r (c', a') := rac'.turn hs
  have acq := qac.sym hs hq
  rcases A'.two hs he A with hh | hh
  · obtain ⟨j1, j2, j3, j4⟩ := triangle hs ab' ac' na1 na2 hh
    simp only at j1 j2 j3 j4
    have qba' : Fs adj q (b, a') := qba.trans (j3.turn hs)
    have rca' : Fs adj r (c, a') := rca.trans (j4.turn hs)
    have pq : Fs adj p q := by
      refine Classical.byContradiction fun hn => ?_
      refine (triangle_off hs hi (a := b) (b := a) (c := c) (by rw [hs]; exact ab) bc (fun h => nac (A.same hs (h.sym hs ac))) (fun h => hn ?_) (acq.trans qba')).1 rfl
      exact pab.trans ((h.sym hs ac).trans acq)
    have qr : Fs adj q r := by
      refine Classical.byContradiction fun hn => ?_
      refine (triangle_off hs hi (a := c) (b := b) (c := a') cb (by rw [hs]; exact j2) (fun h => hn ?_) (fun h => ?_) ((qba'.sym hs hq).trans qac)).2 rfl
      · exact qba'.trans (h.trans (rca'.sym hs hr))
      · exact nab' (((A.same hs (h.sym hs (by rw [hs]; exact j1))).same hs ((j3.turn hs).sym hs (by rw [hs]; exact ab')))).sw
    exact pq.trans qr
  · obtain ⟨j1, j2, j3, j4⟩ := triangle hs ab' ac' na1 na2 hh
    simp only at j1 j2 j3 j4
    have qca' : Fs adj q (c, a') := qba.trans (j3.turn hs)
    have rba' : Fs adj r (b, a') := rca.trans (j4.turn hs)
    have pq : Fs adj p q := by
      refine Classical.byContradiction fun hn => ?_
      have := (triangle hs (a := b) (b := a) (c := c) (by rw [hs]; exact ab) bc (fun h => nac (A.same hs (h.sym hs ac))) (fun h => hn ?_) (acq.trans qca')).2.2.1
      · exact nab (A.same hs (this.sym hs (by rw [hs]; exact ab))).sw
      · exact pab.trans ((h.sym hs ac).trans acq)
    have qr : Fs adj q r := by
      refine Classical.byContradiction fun hn => ?_
      have := (triangle hs (a := b) (b := c) (c := a') bc (by rw [hs]; exact j2) (fun h => hn ?_) (fun h => ?_) ((qca'.sym hs hq).trans qac)).2.2.1
      · exact nab (A.same hs this).sw
      · exact qca'.trans (h.trans (rba'.sym hs hr))
      · exact nab' ((A.sw.same hs (h.sym hs (by rw [hs]; exact j1))).same hs ((j3.turn hs).sym hs (by rw [hs]; exact ab'))).sw
    exact pq.trans qr

/-- What is left without the class of e and its reverse. -/
def FLess (adj : Nat → Nat → Bool) (e : Nat × Nat) (adj' : Nat → Nat → Bool) : Prop := ∀ x y, adj' x y = true ↔ (adj x y = true ∧ ¬ Hat adj e x y)
theorem FLess.sym (hs : ∀ x y, adj x y = adj y x) {e : Nat × Nat} {adj' : Nat → Nat → Bool} (h : FLess adj e adj') (x y : Nat) : adj' x y = adj' y x := by
  rw [Bool.eq_iff_iff, h x y, h y x, hs x y]
  exact ⟨fun ⟨h1, h2⟩ => ⟨h1, fun h => h2 h.sw⟩, fun ⟨h1, h2⟩ => ⟨h1, fun h => h2 h.sw⟩⟩
theorem FLess.class (hs : ∀ x y, adj x y = adj y x) (hi : ∀ x, adj x x = false) {e : Nat × Nat} (he : adj e.1 e.2 = true) {adj' : Nat → Nat → Bool} (hl : FLess adj e adj') {p q : Nat × Nat} (hp : adj' p.1 p.2 = true) (h : Fs adj' p q) :
    Fs adj p q ∨ Tri adj e p q ∨ Tri adj e (p.2, p.1) (q.2, q.1) := by
  refine Fs.ind (P := fun q => Fs adj p q ∨ Tri adj e p q ∨ Tri adj e (p.2, p.1) (q.2, q.1)) (Or.inl .refl) (fun q r hq hr ih => ?_) h
  have p0 : adj p.1 p.2 = true := ((hl _ _).1 hp).1
  have q0 : adj' q.1 q.2 = true := hq.edge hp
  have q1 : adj q.1 q.2 = true := ((hl _ _).1 q0).1
  have r1 : adj r.1 r.2 = true := ((hl _ _).1 hr.1).1
  have p0t : adj p.2 p.1 = true := by rw [hs]; exact p0
  have q1t : adj q.2 q.1 = true := by rw [hs]; exact q1
  have r1t : adj r.2 r.1 = true := by rw [hs]; exact r1
  have step : Fc adj q r ∨ Tri adj e q r ∨ Tri adj e (q.2, q.1) (r.2, r.1) := by
    obtain ⟨x, y⟩ := q
    obtain ⟨u, v⟩ := r
    obtain ⟨h0, ⟨e1, e2, e3⟩ | ⟨e1, e2, e3⟩⟩ := hr
    · simp only at e1 e2 e3 h0 q0 q1 r1
      subst e1
      cases e4 : adj y v with
      | false => exact Or.inl ⟨r1, Or.inl ⟨rfl, e2, e4⟩⟩
      | true =>
        have : Hat adj e y v := Classical.byContradiction fun hn => by
          have := (hl y v).2 ⟨e4, hn⟩
          rw [e3] at this; cases this
        exact Or.inr (Or.inl ⟨x, y, v, q1, r1, e4, this, ((hl _ _).1 q0).2, ((hl _ _).1 h0).2, .refl, .refl⟩)
    · simp only at e1 e2 e3 h0 q0 q1 r1 q1t r1t
      subst e1
      cases e4 : adj x u with
      | false => exact Or.inl ⟨r1, Or.inr ⟨rfl, e2, e4⟩⟩
      | true =>
        have : Hat adj e x u := Classical.byContradiction fun hn => by
          have := (hl x u).2 ⟨e4, hn⟩
          rw [e3] at this; cases this
        exact Or.inr (Or.inr ⟨y, x, u, q1t, r1t, e4, this, fun h => ((hl _ _).1 q0).2 h.sw, fun h => ((hl _ _).1 h0).2 h.sw, .refl, .refl⟩)
  have toR : ∀ {x y z : Nat × Nat}, adj x.1 x.2 = true → Fs adj x y → Tri adj e y z → Tri adj e x z := fun hx hxy ⟨a, b, c, h1, h2, h3, h4, h5, h6, h7, h8⟩ => ⟨a, b, c, h1, h2, h3, h4, h5, h6, hxy.trans h7, h8⟩
  have toL : ∀ {x y z : Nat × Nat}, Tri adj e x y → Fs adj z y → Tri adj e x z := fun ⟨a, b, c, h1, h2, h3, h4, h5, h6, h7, h8⟩ hxy => ⟨a, b, c, h1, h2, h3, h4, h5, h6, h7, hxy.trans h8⟩
  rcases ih with ih | ih | ih <;> rcases step with st | st | st
  · exact Or.inl (ih.step st)
  · exact Or.inr (Or.inl (toR p0 ih st))
  · exact Or.inr (Or.inr (toR p0t (ih.turn hs) st))
  · exact Or.inr (Or.inl (toL ih ((Fs.refl.step st).sym hs q1)))
  · exact Or.inl (ih.next hs hi he q1 r1 st)
  · exact Or.inl (ih.nextTurn hs hi he q1 r1 st)
  · exact Or.inr (Or.inr (toL ih (((Fs.refl.step st).sym hs q1).turn hs)))
  · have := ih.nextTurn hs hi he (r := (r.2, r.1)) q1t r1t st
    exact Or.inl (this.turn hs)
  · have := ih.next hs hi he q1t r1t st
    exact Or.inl (this.turn hs)

theorem Tri.self (hs : ∀ x y, adj x y = adj y x) (hi : ∀ x, adj x x = false) {e p : Nat × Nat} (hp : adj p.1 p.2 = true) (h : Tri adj e p (p.2, p.1)) : Fs adj p (p.2, p.1) := by
  obtain ⟨a, b, c, ab, ac, bc, A, nab, nac, pab, qac⟩ := h
  refine Classical.byContradiction fun hn => ?_
  have pca : Fs adj p (c, a) := qac.turn hs
  refine (triangle_off hs hi (a := c) (b := a) (c := b) (by rw [hs]; exact ac) (by rw [hs]; exact bc) (fun h => nab (A.sw.same hs (h.sym hs ab))) (fun h => hn ?_) ((pab.sym hs hp).trans pca)).1 rfl
  exact pab.trans (h.trans ((qac.sym hs (by rw [hs]; exact hp))))

theorem Good.less (hs : ∀ x y, adj x y = adj y x) (hi : ∀ x, adj x x = false) {e : Nat × Nat} (he : adj e.1 e.2 = true) {adj' : Nat → Nat → Bool} (hl : FLess adj e adj') (hg : Good adj) : Good adj' := by
  intro p hp h
  have p0 : adj p.1 p.2 = true := ((hl _ _).1 hp).1
  rcases hl.class hs hi he hp h with h | h | h
  · exact hg p p0 h
  · exact hg p p0 (h.self hs hi p0)
  · have := h.self (p := (p.2, p.1)) hs hi (by rw [hs]; exact p0)
    exact hg (p.2, p.1) (by rw [hs]; exact p0) this

/-- A direction of the edges that goes on. -/
structure Dir (adj : Nat → Nat → Bool) (T : Nat → Nat → Prop) : Prop where
  edge : ∀ x y, T x y → adj x y = true
  some : ∀ x y, adj x y = true → T x y ∨ T y x
  one : ∀ x y, T x y → ¬ T y x
  on : ∀ x y z, T x y → T y z → T x z
theorem Dir.forced (hs : ∀ x y, adj x y = adj y x) {T : Nat → Nat → Prop} (hT : Dir adj T) {p q : Nat × Nat} (h : Fs adj p q) (hp : T p.1 p.2) : T q.1 q.2 := by
  refine Fs.ind (P := fun q => T q.1 q.2) hp (fun q r _ hr ih => ?_) h
  obtain ⟨x, y⟩ := q
  obtain ⟨u, v⟩ := r
  obtain ⟨h0, ⟨e1, e2, e3⟩ | ⟨e1, e2, e3⟩⟩ := hr
  · simp only at e1 e2 e3 h0 ih ⊢
    subst e1
    rcases hT.some _ _ h0 with h | h
    · exact h
    · have := hT.edge _ _ (hT.on _ _ _ h ih)
      rw [hs, e3] at this; cases this
  · simp only at e1 e2 e3 h0 ih ⊢
    subst e1
    rcases hT.some _ _ h0 with h | h
    · exact h
    · have := hT.edge _ _ (hT.on _ _ _ ih h)
      rw [e3] at this; cases this
theorem Dir.good (hs : ∀ x y, adj x y = adj y x) {T : Nat → Nat → Prop} (hT : Dir adj T) : Good adj := by
  intro p hp h
  rcases hT.some _ _ hp with h1 | h1
  · exact hT.one _ _ h1 (hT.forced hs h h1)
  · have := hT.forced hs (p := (p.2, p.1)) (q := (p.1, p.2)) (h.turn hs) h1
    exact hT.one _ _ h1 this
/-- A class with no arc both ways, and a direction of what is left, make a direction. -/
theorem Dir.more (hs : ∀ x y, adj x y = adj y x) (hi : ∀ x, adj x x = false) {e : Nat × Nat} (he : adj e.1 e.2 = true) {adj' : Nat → Nat → Bool} (hl : FLess adj e adj') (hone : ∀ x y, Fs adj e (x, y) → ¬ Fs adj e (y, x)) {T : Nat → Nat → Prop} (hT : Dir adj' T) : Dir adj (fun x y => Fs adj e (x, y) ∨ T x y) := by
  have cls : ∀ a b c, Fs adj e (a, b) → Fs adj e (b, c) → Fs adj e (a, c) := fun a b c h1 h2 => by
    have ab : adj a b = true := h1.edge he
    have bc : adj b c = true := h2.edge he
    have hac : adj a c = true := by
      cases e4 : adj a c with
      | true => rfl
      | false =>
        by_cases eac : a = c
        · exact absurd (eac ▸ h2) (hone _ _ h1)
        · exact absurd (h1.step (r := (c, b)) ⟨by rw [hs]; exact bc, Or.inr ⟨rfl, eac, e4⟩⟩) (hone _ _ h2)
    refine Classical.byContradiction fun hn => ?_
    exact (triangle_off hs hi (a := a) (b := b) (c := c) ab hac (fun h => hn (h2.trans h)) (fun h => hone _ _ h1 (h2.trans h)) ((h2.sym hs he).trans h1)).1 rfl
  have tl : ∀ x y, T x y → adj x y = true ∧ ¬ Hat adj e x y := fun x y h => (hl x y).1 (hT.edge x y h)
  have all : ∀ x y, adj x y = true → (Fs adj e (x, y) ∨ T x y) ∨ (Fs adj e (y, x) ∨ T y x) := fun x y h => by
    by_cases hh : Hat adj e x y
    · exact hh.elim (fun h => Or.inl (Or.inl h)) (fun h => Or.inr (Or.inl h))
    · exact (hT.some x y ((hl x y).2 ⟨h, hh⟩)).elim (fun h => Or.inl (Or.inr h)) (fun h => Or.inr (Or.inr h))
  refine ⟨fun x y h => h.elim (fun h => h.edge he) (fun h => (tl x y h).1), all, fun x y h h' => ?_, fun a b c h1 h2 => ?_⟩
  · rcases h with h | h <;> rcases h' with h' | h'
    · exact hone _ _ h h'
    · exact (tl y x h').2 (Or.inr h)
    · exact (tl x y h).2 (Or.inr h')
    · exact hT.one _ _ h h'
  · rcases h1 with h1 | h1 <;> rcases h2 with h2 | h2
    · exact Or.inl (cls _ _ _ h1 h2)
    · have hac : adj a c = true := by
        cases e4 : adj a c with
        | true => rfl
        | false =>
          have bc := (tl _ _ h2).1
          by_cases eac : a = c
          · subst eac; exact absurd (Or.inr h1) (tl _ _ h2).2
          · exact absurd (Or.inr (h1.step (r := (c, b)) ⟨by rw [hs]; exact bc, Or.inr ⟨rfl, eac, e4⟩⟩)) (tl _ _ h2).2
      rcases all _ _ hac with h | h | h
      · exact h
      · exact absurd (Or.inr (cls _ _ _ h h1)) (tl _ _ h2).2
      · exact absurd (Or.inr h1) (tl _ _ (hT.on _ _ _ h2 h)).2
    · have hac : adj a c = true := by
        cases e4 : adj a c with
        | true => rfl
        | false =>
          have ab := (tl _ _ h1).1
          by_cases eac : c = a
          · subst eac; exact absurd (Or.inr h2) (tl _ _ h1).2
          · exact absurd (Or.inr (h2.step (r := (b, a)) ⟨by rw [hs]; exact ab, Or.inl ⟨rfl, eac, by rw [hs]; exact e4⟩⟩)) (tl _ _ h1).2
      rcases all _ _ hac with h | h | h
      · exact h
      · exact absurd (Or.inr (cls _ _ _ h2 h)) (tl _ _ h1).2
      · exact absurd (Or.inr h2) (tl _ _ (hT.on _ _ _ h h1)).2
    · exact Or.inr (hT.on _ _ _ h1 h2)
end
end Go.Proofs.YtkkfjfphmlcieaaGreat

namespace Go.Proofs.YtkkfjfphmlcieaaGreat
set_option maxRecDepth 8000
open Go.RowKit Go.Maps
attribute [local go_sem ↓] Go.wp_at_zero Go.wp_at_succ
/-- What lies there while the arcs are followed. -/
structure FoM (w : World) (bk bn bg bC : Nat) (ao : Option Addr) (cap N : Nat) (bl : Nat → Nat) (adj S : Nat → Nat → Bool) : Prop where
  boxk : One w bk (.map (some bC)) 73
  boxn : One w bn (.slice ao N cap) 61
  boxg : One w bg (.func (.func 70) #[] #[ptr bk, ptr bn, ptr bg]) 98
  set : PairS w bC N S
  near : NearsAt w ao N bl adj
  ne : ∀ i, i < N → bl i ≠ bC
section
variable {w w' : World} {bk bn bg bC : Nat} {ao : Option Addr} {cap N : Nat} {bl : Nat → Nat} {adj S : Nat → Nat → Bool}
theorem FoM.next (h : FoM w bk bn bg bC ao cap N bl adj S) (hb : Below w.heap.size w w') : FoM w' bk bn bg bC ao cap N bl adj S :=
  ⟨(hb.block _ (lt_of_block h.boxk)).trans h.boxk, (hb.block _ (lt_of_block h.boxn)).trans h.boxn, (hb.block _ (lt_of_block h.boxg)).trans h.boxg, h.set.below hb, h.near.below hb, h.ne⟩
theorem FoM.iter (h : FoM w bk bn bg bC ao cap N bl adj S) {r : Nat} (hr : ∃ a b c d, w.heap[r]? = some (.mapIter a b c d)) (ht : Turns (fun k => k = r) w w') : FoM w' bk bn bg bC ao cap N bl adj S := by
  obtain ⟨i1, i2, i3, i4, hr⟩ := hr
  have hm : ∀ {b' : Nat} {x : Value} {t : TypeId}, One w b' x t → ¬ (b' = r) := fun {b' x t} ho e => by
    have h0 : w.heap[b']? = _ := ho
    rw [e, hr] at h0
    cases h0
  have hs : ∀ b, (∃ es c, w.heap[b]? = some (.map es c)) → ¬ b = r := fun b ⟨es, c, hm⟩ e => by
    rw [e, hr] at hm; cases hm
  refine ⟨one_turns h.boxk ht (hm h.boxk), one_turns h.boxn ht (hm h.boxn), one_turns h.boxg ht (hm h.boxg), h.set.turns ht (hs _ h.set.isMap), ⟨h.near.inj, fun i hi => ?_, fun i hi => (h.near.sets i hi).turns ht (hs _ (h.near.sets i hi).isMap)⟩, h.ne⟩
  obtain ⟨g, e1, c⟩ := h.near.row i hi
  refine ⟨g, e1, cell_turns c ht (fun e => ?_)⟩
  have e : g = r := e
  rw [e] at c
  simp [World.cell?, hr] at c
theorem FoM.put {S' : Nat → Nat → Bool} (h : FoM w bk bn bg bC ao cap N bl adj S) (hS : PairS w' bC N S') (ht : Turns (fun k => k = bC) w w') : FoM w' bk bn bg bC ao cap N bl adj S' := by
  have hm : ∀ {b' : Nat} {x : Value} {t : TypeId}, One w b' x t → ¬ (b' = bC) := fun {b' x t} ho e => by
    obtain ⟨es, c, hm⟩ := h.set.isMap
    have h0 : w.heap[b']? = _ := ho
    rw [e, hm] at h0
    cases h0
  refine ⟨one_turns h.boxk ht (hm h.boxk), one_turns h.boxn ht (hm h.boxn), one_turns h.boxg ht (hm h.boxg), hS, ⟨h.near.inj, fun i hi => ?_, fun i hi => (h.near.sets i hi).turns ht (h.ne i hi)⟩, h.ne⟩
  obtain ⟨g, e1, c⟩ := h.near.row i hi
  obtain ⟨es, c0, hmm⟩ := h.set.isMap
  refine ⟨g, e1, cell_turns c ht (fun e => ?_)⟩
  have e : g = bC := e
  rw [e] at c
  simp [World.cell?, hmm] at c
end
/-- What has come to the set, from p on. -/
structure FolP (adj S S' : Nat → Nat → Bool) (p : Nat × Nat) : Prop where
  sub : ∀ x y, S x y = true → S' x y = true
  frm : ∀ x y, S' x y = true → S x y = true ∨ Fs adj p (x, y)
  clo : ∀ x y u v, S' x y = true → S x y = false → Fc adj (x, y) (u, v) → S' u v = true
theorem FolP.refl (adj S : Nat → Nat → Bool) (p : Nat × Nat) : FolP adj S S p := ⟨fun _ _ h => h, fun _ _ h => Or.inl h, fun x y u v h1 h2 => by rw [h1] at h2; cases h2⟩
theorem FolP.trans {adj S S1 S2 : Nat → Nat → Bool} {p q : Nat × Nat} (h : FolP adj S S1 p) (h2 : FolP adj S1 S2 q) (hpq : Fs adj p q) : FolP adj S S2 p :=
  ⟨fun x y hh => h2.sub x y (h.sub x y hh), fun x y hh => (h2.frm x y hh).elim (h.frm x y) (fun hf => Or.inr (hpq.trans hf)), fun x y u v h3 h4 h5 => by
    cases e : S1 x y with
    | true => exact h2.sub _ _ (h.clo x y u v e h4 h5)
    | false => exact h2.clo x y u v h3 e h5⟩
theorem FolP.all {adj S S' : Nat → Nat → Bool} (hs : ∀ x y, adj x y = adj y x) {a b : Nat} (h : FolP adj (addP S a b) S' (a, b)) (h1 : ∀ z, adj a z = true → z ≠ b → adj b z = false → S' a z = true) (h2 : ∀ z, adj b z = true → z ≠ a → adj a z = false → S' z b = true) : FolP adj S S' (a, b) ∧ S' a b = true := by
  have hab : S' a b = true := h.sub a b (by simp [addP])
  refine ⟨⟨fun x y hh => h.sub x y (by simp [addP, hh]), fun x y hh => ?_, fun x y u v hh hn hf => ?_⟩, hab⟩
  · rcases h.frm x y hh with hx | hx
    · simp only [addP, Bool.or_eq_true, Bool.and_eq_true, beq_iff_eq] at hx
      rcases hx with ⟨rfl, rfl⟩ | hx
      · exact Or.inr .refl
      · exact Or.inl hx
    · exact Or.inr hx
  · by_cases e : x = a ∧ y = b
    · obtain ⟨rfl, rfl⟩ := e
      obtain ⟨h0, ⟨e1, e2, e3⟩ | ⟨e1, e2, e3⟩⟩ := hf
      · simp only at e1 e2 e3 h0
        subst e1
        exact h1 v h0 (fun hh => e2 hh.symm) e3
      · simp only at e1 e2 e3 h0
        subst e1
        exact h2 u (by rw [hs]; exact h0) (fun hh => e2 hh.symm) e3
    · refine h.clo x y u v hh ?_ hf
      have : (x == a && y == b) = false := by rw [Bool.eq_false_iff]; intro hh; simp at hh; exact e hh
      simp [addP, this, hn]
section
variable {bk bn bg bC : Nat} {ao : Option Addr} {cap N : Nat} {bl : Nat → Nat} {adj : Nat → Nat → Bool}
theorem enter70 : ∀ args w', (callFunc 70 args).run Tryz.prog w' = .ok (.enter 70 args) w' := enters_of Tryz.func70 (by kernel_rfl) rfl
/-- What a call of follow leaves. -/
def FolE (bk bn bg bC : Nat) (ao : Option Addr) (cap N : Nat) (bl : Nat → Nat) (adj S : Nat → Nat → Bool) (u v : Nat) (w w' : World) : Prop := ∃ S', FoM w' bk bn bg bC ao cap N bl adj S' ∧ FolP adj S S' (u, v) ∧ S' u v = true ∧ Turns (fun k => k = bC) w w'
set_option maxHeartbeats 1000000 in
theorem follow_done (hN : N ≤ 1000) {w : World} {S : Nat → Nat → Bool} {u v : Nat} (hF : FoM w bk bn bg bC ao cap N bl adj S) (hu : u < N) (hv : v < N) (hS : S u v = true) :
    Calls Tryz.prog 70 #[.int .i64 (u : Int), .int .i64 (v : Int), ptr bk, ptr bn, ptr bg] w fun e w' => e = .returned (.tuple #[]) ∧ FolE bk bn bg bC ao cap N bl adj S u v w w' := by
  have hN6 : N ≤ 1000000 := by omega
  have HF : Hid (FoM w bk bn bg bC ao cap N bl adj S) := hF
  have HS : Hid (S u v = true) := hS
  clear hF hS
  go_enter Tryz.func70, Tryz.ntmps70
  go_upto_region 1 with (fail)
  have t0 := two_new w (.int .i64 (u : Int)) (.int .i64 (v : Int)) 38
  have hB0 := below_alloc (Below.refl _ w) (Obj.cells #[.int .i64 (u : Int), .int .i64 (v : Int)] 38)
  obtain ⟨b0, hb0⟩ : ∃ b, b = w.heap.size := ⟨_, rfl⟩
  rw [← hb0] at t0 ⊢
  generalize w.alloc (Obj.cells #[.int .i64 (u : Int), .int .i64 (v : Int)] 38) = W0 at t0 hB0 ⊢
  have hF0 := HF.out.next hB0
  have c0 := cell_two t0
  have ck : W0.cell? ⟨bk, 0, none⟩ = some (.map (some bC)) := box_cell hF0.boxk rfl
  have hl := hF0.set.look hN6 hu hv
  rw [HS.out] at hl
  have HF0 : Hid (FoM W0 bk bn bg bC ao cap N bl adj S) := hF0
  clear hF0 hb0 t0
  go_wp2
  refine bodyPost_ret (results_none rfl _ _ _) rfl ?_
  have hB1 := below_alloc (Below.refl _ W0) (Obj.cells #[] 75)
  exact ⟨rfl, S, HF0.out.next hB1, FolP.refl _ _ _, HS.out, Turns.of_below (below_next hB0 hB1) _⟩
theorem filterLe {p q : Nat → Bool} : ∀ (l : List Nat), (∀ z, p z = true → q z = true) → (l.filter p).length ≤ (l.filter q).length
  | [], _ => Nat.le_refl _
  | a :: l, hm => by
    have ih := filterLe l hm
    cases hp : p a with
    | true => rw [List.filter_cons_of_pos hp, List.filter_cons_of_pos (hm a hp)]; simp; exact ih
    | false =>
      rw [List.filter_cons_of_neg (by simp [hp])]
      cases hq : q a with
      | true => rw [List.filter_cons_of_pos hq]; simp; omega
      | false => rw [List.filter_cons_of_neg (by simp [hq])]; exact ih
/-- What is known in the rounds: from the first state on. -/
structure FolR (w : World) (bk bn bg bC : Nat) (ao : Option Addr) (cap N : Nat) (bl : Nat → Nat) (adj S1 : Nat → Nat → Bool) (p : Nat × Nat) (Sz : Nat → Nat → Bool) (wz : World) : Prop where
  mem : FoM wz bk bn bg bC ao cap N bl adj Sz
  frm : FolP adj S1 Sz p
  turn : Turns (fun k => k = bC) w wz
theorem FolR.next {w wz w' : World} {S1 Sz : Nat → Nat → Bool} {p : Nat × Nat} (h : FolR w bk bn bg bC ao cap N bl adj S1 p Sz wz) (hb : Below wz.heap.size wz w') : FolR w bk bn bg bC ao cap N bl adj S1 p Sz w' :=
  ⟨h.mem.next hb, h.frm, h.turn.comp (Turns.of_below hb (fun _ => False)) (fun _ _ h => h.elim)⟩
theorem FolR.iter {w wz w' : World} {S1 Sz : Nat → Nat → Bool} {p : Nat × Nat} (h : FolR w bk bn bg bC ao cap N bl adj S1 p Sz wz) {r : Nat} (hr : ∃ a b c d, wz.heap[r]? = some (.mapIter a b c d)) (hrw : w.heap.size ≤ r) (ht : wz.grownBy w' (some r)) : FolR w bk bn bg bC ao cap N bl adj S1 p Sz w' :=
  ⟨h.mem.iter hr ((Turns.of_grown ht).mono (fun k _ e => by simpa using e)), h.frm, h.turn.comp (Turns.of_grown ht) (fun k hk e => by simp at e; omega)⟩
theorem FolR.call {w wz w' : World} {S1 Sz : Nat → Nat → Bool} {p q : Nat × Nat} (h : FolR w bk bn bg bC ao cap N bl adj S1 p Sz wz) (hpq : Fs adj p q) (he : FolE bk bn bg bC ao cap N bl adj Sz q.1 q.2 wz w') : ∃ S', FolR w bk bn bg bC ao cap N bl adj S1 p S' w' ∧ (∀ x y, Sz x y = true → S' x y = true) ∧ S' q.1 q.2 = true ∧ Turns (fun k => k = bC) wz w' := by
  obtain ⟨S', h1, h2, h3, h4⟩ := he
  exact ⟨S', ⟨h1, h.frm.trans h2 hpq, h.turn.trans h4⟩, h2.sub, h3, h4⟩
set_option maxHeartbeats 8000000 in
theorem follow_call (hN : N ≤ 1000) (hs : ∀ x y, adj x y = adj y x) (hlt : ∀ x y, adj x y = true → x < N ∧ y < N) : ∀ (m : Nat) (w : World) (S : Nat → Nat → Bool) (u v : Nat), N * N - cardP N S ≤ m → FoM w bk bn bg bC ao cap N bl adj S → u < N → v < N →
    Calls Tryz.prog 70 #[.int .i64 (u : Int), .int .i64 (v : Int), ptr bk, ptr bn, ptr bg] w fun e w' => e = .returned (.tuple #[]) ∧ FolE bk bn bg bC ao cap N bl adj S u v w w' := by
  have hN6 : N ≤ 1000000 := by omega
  have h70 := enter70
  intro m
  induction m with
  | zero =>
    intro w S u v hm hF hu hv
    cases hS : S u v with
    | true => exact follow_done hN hF hu hv hS
    | false =>
      have := cardP_lt (N := N) (S := S) (T := addP S u v) (fun x y hh => by simp [addP, hh]) hu hv hS (by simp [addP])
      have := cardP_le N (addP S u v)
      omega
  | succ m ih =>
    intro w S u v hm hF hu hv
    cases hS : S u v with
    | true => exact follow_done hN hF hu hv hS
    | false =>
      have hcs := cardP_lt (N := N) (S := S) (T := addP S u v) (fun x y hh => by simp [addP, hh]) hu hv hS (by simp [addP])
      have HCS : Hid (∀ Sz, FolP adj (addP S u v) Sz (u, v) → N * N - cardP N Sz ≤ m) := fun Sz hz => by
        have h1 : cardP N (addP S u v) ≤ cardP N Sz := filterLe _ (fun z hz' => hz.sub _ _ hz')
        omega
      have IH : Hid (∀ (w : World) (S : Nat → Nat → Bool) (u v : Nat), N * N - cardP N S ≤ m → FoM w bk bn bg bC ao cap N bl adj S → u < N → v < N →
    Calls Tryz.prog 70 #[.int .i64 (u : Int), .int .i64 (v : Int), ptr bk, ptr bn, ptr bg] w fun e w' => e = .returned (.tuple #[]) ∧ FolE bk bn bg bC ao cap N bl adj S u v w w') := ih
      have HF : Hid (FoM w bk bn bg bC ao cap N bl adj S) := hF
      have HSY : Hid (∀ x y, adj x y = adj y x) := hs
      have HLT : Hid (∀ x y, adj x y = true → x < N ∧ y < N) := hlt
      have HS : Hid (S u v = false) := hS
      clear hF hS ih hcs hm hs hlt
      have i1 : (0 : Int) ≤ (u : Int) := by omega
      have i2 : (u : Int) < (N : Int) := by omega
      have j1 : (0 : Int) ≤ (v : Int) := by omega
      have j2 : (v : Int) < (N : Int) := by omega
      go_enter Tryz.func70, Tryz.ntmps70
      go_upto_region 1 with (fail)
      have t0 := two_new w (.int .i64 (u : Int)) (.int .i64 (v : Int)) 38
      have hB0 := below_alloc (Below.refl _ w) (Obj.cells #[.int .i64 (u : Int), .int .i64 (v : Int)] 38)
      obtain ⟨b0, hb0⟩ : ∃ b, b = w.heap.size := ⟨_, rfl⟩
      rw [← hb0] at t0 ⊢
      generalize w.alloc (Obj.cells #[.int .i64 (u : Int), .int .i64 (v : Int)] 38) = W0 at t0 hB0 ⊢
      have hF0 := HF.out.next hB0
      have c0 := cell_two t0
      have ck : W0.cell? ⟨bk, 0, none⟩ = some (.map (some bC)) := box_cell hF0.boxk rfl
      have hl := hF0.set.look hN6 hu hv
      rw [HS.out] at hl
      have HF0 : Hid (FoM W0 bk bn bg bC ao cap N bl adj S) := hF0
      have HT0 : Hid (Two W0 b0 (.int .i64 (u : Int)) (.int .i64 (v : Int)) 38) := t0
      clear hF0 hb0 t0
      go_upto_region 3 with (fail)
      have hB1 := below_alloc (Below.refl _ W0) (Obj.cells #[] 75)
      have hB01 := below_next hB0 hB1
      obtain ⟨b1, hb1⟩ : ∃ b, b = W0.heap.size := ⟨_, rfl⟩
      rw [← hb1]
      clear c0 ck hl
      generalize W0.alloc (Obj.cells #[] 75) = W1 at hB1 hB01 ⊢
      have hF1 := HF0.out.next hB1
      have c1 := cell_two (two_next HT0.out hB1)
      have ck : W1.cell? ⟨bk, 0, none⟩ = some (.map (some bC)) := box_cell hF1.boxk rfl
      obtain ⟨W2, hst, hS2, ht2⟩ := hF1.set.store hN hu hv HS.out
      have HR2 : Hid (FolR w bk bn bg bC ao cap N bl adj (addP S u v) (u, v) (addP S u v) W2) := ⟨hF1.put hS2 (turned_turns ht2), FolP.refl _ _ _, (Turns.of_below hB01 _).trans (turned_turns ht2)⟩
      clear hF1 hb1 HF0 HT0 hS2 ht2 hB0 hB1 hB01 HF HS
      go_upto_region 4 with (fail)
      clear c1 ck hst
      have hF2 := HR2.out.mem
      have cn2 : W2.cell? ⟨bn, 0, none⟩ = some (.slice ao N cap) := box_cell hF2.boxn rfl
      obtain ⟨gn, hao, cr2⟩ := hF2.near.row u hu
      subst hao
      have hset2 := hF2.near.sets u hu
      clear hF2
      go_wp2_with (first | (at_range; refine wpList_rangeS hN6 rfl _ rfl rfl hset2 ?_; intro w5 cnt0 hrg0 hB5) | go_in)
      go_frame
      obtain ⟨r, hr⟩ : ∃ r, r = W2.heap.size := ⟨_, rfl⟩
      rw [← hr] at hrg0 ⊢
      have HRS : Hid (w.heap.size ≤ r) := by
        show w.heap.size ≤ r
        have := HR2.out.turn.size
        omega
      have HR5 : Hid (FolR w bk bn bg bC (some ⟨gn, 0, none⟩) cap N bl adj (addP S u v) (u, v) (addP S u v) w5) := HR2.out.next hB5
      clear hr hset2 cn2 cr2 hB5 HR2
      go_loopw [] (fun wz => ∃ (Sz : Nat → Nat → Bool) (lf : Nat → Bool) (cnt : Nat), RgN wz (bl u) r N (adj u) lf cnt ∧ FolR w bk bn bg bC (some ⟨gn, 0, none⟩) cap N bl adj (addP S u v) (u, v) Sz wz ∧ (∀ z, z < N → adj u z = true → lf z = false → z ≠ v → adj v z = false → Sz u z = true)) (fun wz => wz.rangeLeft (bl u) r)
      case atStart => exact ⟨_, _, _, hrg0, HR5.out, fun z _ h1 h2 => by rw [h1] at h2; cases h2⟩
      case round =>
        obtain ⟨Sz, lf, cnt, hrgz, hRz, hdz⟩ := hrel
        have HRZ : Hid (FolR w bk bn bg bC (some ⟨gn, 0, none⟩) cap N bl adj (addP S u v) (u, v) Sz wr) := hRz
        have HDZ : Hid (∀ z, z < N → adj u z = true → lf z = false → z ≠ v → adj v z = false → Sz u z = true) := hdz
        have HLZ : Hid (wr.rangeLeft (bl u) r = cnt) := hrgz.left
        clear hRz hdz hrg0 HR5
        go_wp2_with (first | (at_next; refine wpList_nextS rfl _ rfl rfl hrgz ?_ ?_) | go_in)
        · intro hl0
          have HD1 : Hid (∀ z, z < N → adj u z = true → z ≠ v → adj v z = false → Sz u z = true) := fun z hz h1 h2 h3 => HDZ.out z hz h1 (hl0 z hz) h2 h3
          clear hl0 hrgz HDZ HLZ
          generalize wr = Wa at HRZ ⊢
          have hFa := HRZ.out.mem
          have cna : Wa.cell? ⟨bn, 0, none⟩ = some (.slice (some ⟨gn, 0, none⟩) N cap) := box_cell hFa.boxn rfl
          obtain ⟨gn', hgn', cra⟩ := hFa.near.row v hv
          cases hgn'
          have hseta := hFa.near.sets v hv
          clear hFa
          go_wp2_with (first | (at_range; refine wpList_rangeS hN6 rfl _ rfl rfl hseta ?_; intro w7 cnt7 hrg7 hB7) | go_in)
          go_frame
          obtain ⟨r2, hr2⟩ : ∃ r, r = Wa.heap.size := ⟨_, rfl⟩
          rw [← hr2] at hrg7 ⊢
          have HRS2 : Hid (w.heap.size ≤ r2) := by
            show w.heap.size ≤ r2
            have := HRZ.out.turn.size
            omega
          have HR7 : Hid (FolR w bk bn bg bC (some ⟨gn, 0, none⟩) cap N bl adj (addP S u v) (u, v) Sz w7) := HRZ.out.next hB7
          clear hr2 hseta cna cra hB7 HRZ
          go_loopw [] (fun wz => ∃ (Sy : Nat → Nat → Bool) (lf : Nat → Bool) (cnt : Nat), RgN wz (bl v) r2 N (adj v) lf cnt ∧ FolR w bk bn bg bC (some ⟨gn, 0, none⟩) cap N bl adj (addP S u v) (u, v) Sy wz ∧ (∀ x y, Sz x y = true → Sy x y = true) ∧ (∀ z, z < N → adj v z = true → lf z = false → z ≠ u → adj u z = false → Sy z v = true)) (fun wz => wz.rangeLeft (bl v) r2)
          case atStart => exact ⟨_, _, _, hrg7, HR7.out, fun _ _ h => h, fun z _ h1 h2 => by rw [h1] at h2; cases h2⟩
          case round =>
            obtain ⟨Sy, lf2, cnt2, hrgz, hRz, hsz, hdz⟩ := hrel
            have HRZ : Hid (FolR w bk bn bg bC (some ⟨gn, 0, none⟩) cap N bl adj (addP S u v) (u, v) Sy wr) := hRz
            have HDZ : Hid (∀ z, z < N → adj v z = true → lf2 z = false → z ≠ u → adj u z = false → Sy z v = true) := hdz
            have HSZ : Hid (∀ x y, Sz x y = true → Sy x y = true) := hsz
            have HLZ : Hid (wr.rangeLeft (bl v) r2 = cnt2) := hrgz.left
            clear hRz hdz hsz hrg7 HR7
            go_wp2_with (first | (at_next; refine wpList_nextS rfl _ rfl rfl hrgz ?_ ?_) | go_in)
            · intro hl0
              have HD2 : Hid (∀ z, z < N → adj v z = true → z ≠ u → adj u z = false → Sy z v = true) := fun z hz h1 h2 h3 => HDZ.out z hz h1 (hl0 z hz) h2 h3
              clear hl0 hrgz HDZ HLZ
              go_wp2
              go_end0
              have hz := HRZ.out
              obtain ⟨h1, h2⟩ := hz.frm.all HSY.out (fun z h1 h2 h3 => HSZ.out _ _ (HD1.out z (HLT.out _ _ h1).2 h1 h2 h3)) (fun z h1 h2 h3 => HD2.out z (HLT.out _ _ h1).2 h1 h2 h3)
              exact ⟨rfl, Sy, hz.mem, h1, h2, hz.turn⟩
            · intro y w6 cnt6 hyN hSy hly hrg6 hcl hg6 hen
              have HR6 : Hid (FolR w bk bn bg bC (some ⟨gn, 0, none⟩) cap N bl adj (addP S u v) (u, v) Sy w6) := HRZ.out.iter hrgz.iter HRS2.out hg6
              have HRG6 : Hid (RgN w6 (bl v) r2 N (adj v) (fun k => lf2 k && k != y) cnt6) := hrg6
              have HCL : Hid (cnt6 < cnt2) := hcl
              have HSY1 : Hid (adj v y = true) := hSy
              have cn6 : w6.cell? ⟨bn, 0, none⟩ = some (.slice (some ⟨gn, 0, none⟩) N cap) := box_cell HR6.out.mem.boxn rfl
              obtain ⟨gn', hgn', cr6⟩ := HR6.out.mem.near.row u hu
              cases hgn'
              clear hrgz hcl hg6 hSy hly hrg6 HRZ
              by_cases hyv : y = u
              · subst hyv
                have k1 : ((y : Int) != (y : Int)) = false := by simp
                go_wp2
                go_roundw
                case rel =>
                  refine ⟨Sy, _, _, HRG6.out, HR6.out, HSZ.out, fun z hz h1 h2 h3 h4 => ?_⟩
                  have hne : (z != y) = true := by simpa using h3
                  exact HDZ.out z hz h1 (by simpa [hne] using h2) h3 h4
                case measure => rw [HRG6.out.left, HLZ.out]; exact HCL.out
              · have k1 : ((y : Int) != (u : Int)) = true := by simp; omega
                have h42 := has_call (HR6.out.mem.near.sets u hu) hN6 hyN
                have HYV : Hid (y ≠ u) := hyv
                clear hyv
                cases hb : adj u y with
                | true =>
                  rw [hb] at h42
                  have H42 : Hid (Calls Tryz.prog 42 #[.map (some (bl u)), .int .i64 (y : Int)] w6 fun e w' => e = .returned (.bool true) ∧ Below w6.heap.size w6 w') := h42
                  have HB : Hid (adj u y = true) := hb
                  clear h42 hb
                  go_wp2_with (first | (go_at_call 42; refine Calls.mono H42.out ?_; rintro e' w9 ⟨rfl, hB9⟩) | go_in)
                  go_roundw
                  case rel =>
                    refine ⟨Sy, _, _, HRG6.out.below hB9, HR6.out.next hB9, HSZ.out, fun z hz h1 h2 h3 h4 => ?_⟩
                    by_cases c : z = y
                    · subst c; rw [HB.out] at h4; cases h4
                    · have hne : (z != y) = true := by simpa using c
                      exact HDZ.out z hz h1 (by simpa [hne] using h2) h3 h4
                  case measure => rw [(HRG6.out.below hB9).left, HLZ.out]; exact HCL.out
                | false =>
                  rw [hb] at h42
                  have H42 : Hid (Calls Tryz.prog 42 #[.map (some (bl u)), .int .i64 (y : Int)] w6 fun e w' => e = .returned (.bool false) ∧ Below w6.heap.size w6 w') := h42
                  have HB : Hid (adj u y = false) := hb
                  clear h42 hb
                  go_upto_region 13 with (first | (go_at_call 42; refine Calls.mono H42.out ?_; rintro e' w9 ⟨rfl, hB9⟩) | go_in)
                  have HR9 : Hid (FolR w bk bn bg bC (some ⟨gn, 0, none⟩) cap N bl adj (addP S u v) (u, v) Sy w9) := HR6.out.next hB9
                  have HRG9 : Hid (RgN w9 (bl v) r2 N (adj v) (fun k => lf2 k && k != y) cnt6) := HRG6.out.below hB9
                  have cg9 : w9.cell? ⟨bg, 0, none⟩ = some (.func (.func 70) #[] #[ptr bk, ptr bn, ptr bg]) := box_cell HR9.out.mem.boxg rfl
                  have H70 : Hid (Calls Tryz.prog 70 #[.int .i64 (y : Int), .int .i64 (v : Int), ptr bk, ptr bn, ptr bg] w9 fun e w' => e = .returned (.tuple #[]) ∧ FolE bk bn bg bC (some ⟨gn, 0, none⟩) cap N bl adj Sy y v w9 w') := IH.out w9 Sy y v (HCS.out Sy HR9.out.frm) HR9.out.mem hyN hv
                  have HFC : Hid (Fs adj (u, v) (y, v)) := Fs.refl.step ⟨by rw [HSY.out]; exact HSY1.out, Or.inr ⟨rfl, fun hh => HYV.out hh.symm, HB.out⟩⟩
                  clear cn6 cr6 H42 hB9 HR6 HRG6
                  go_wp2_with (first | (go_at_call 70; refine Calls.mono H70.out ?_; rintro e' w8 ⟨rfl, he8⟩) | go_in)
                  obtain ⟨S8, hR8, hsub8, hin8, ht8⟩ := HR9.out.call HFC.out he8
                  have hrg8 := HRG9.out.turns ht8 (HR9.out.mem.ne v hv) (fun e => by
                    obtain ⟨a, b, c, d, hi⟩ := HRG9.out.iter
                    obtain ⟨es, c, hm⟩ := HR9.out.mem.set.isMap
                    rw [e, hm] at hi; cases hi)
                  go_roundw
                  case rel =>
                    refine ⟨S8, _, _, hrg8, hR8, fun x y h => hsub8 _ _ (HSZ.out x y h), fun z hz h1 h2 h3 h4 => ?_⟩
                    by_cases c : z = y
                    · subst c; exact hin8
                    · have hne : (z != y) = true := by simpa using c
                      exact hsub8 _ _ (HDZ.out z hz h1 (by simpa [hne] using h2) h3 h4)
                  case measure =>
                    rw [hrg8.left, HLZ.out]
                    exact HCL.out
        · intro y w6 cnt6 hyN hSy hly hrg6 hcl hg6 hen
          have HR6 : Hid (FolR w bk bn bg bC (some ⟨gn, 0, none⟩) cap N bl adj (addP S u v) (u, v) Sz w6) := HRZ.out.iter hrgz.iter HRS.out hg6
          have HRG6 : Hid (RgN w6 (bl u) r N (adj u) (fun k => lf k && k != y) cnt6) := hrg6
          have HCL : Hid (cnt6 < cnt) := hcl
          have HSY1 : Hid (adj u y = true) := hSy
          have cn6 : w6.cell? ⟨bn, 0, none⟩ = some (.slice (some ⟨gn, 0, none⟩) N cap) := box_cell HR6.out.mem.boxn rfl
          have cg6 : w6.cell? ⟨bg, 0, none⟩ = some (.func (.func 70) #[] #[ptr bk, ptr bn, ptr bg]) := box_cell HR6.out.mem.boxg rfl
          obtain ⟨gn', hgn', cr6⟩ := HR6.out.mem.near.row v hv
          cases hgn'
          clear hrgz hcl hg6 hSy hly hrg6 HRZ
          by_cases hyv : y = v
          · subst hyv
            have k1 : ((y : Int) != (y : Int)) = false := by simp
            go_wp2
            go_roundw
            case rel =>
              refine ⟨Sz, _, _, HRG6.out, HR6.out, fun z hz h1 h2 h3 h4 => ?_⟩
              have hne : (z != y) = true := by simpa using h3
              exact HDZ.out z hz h1 (by simpa [hne] using h2) h3 h4
            case measure => rw [HRG6.out.left, HLZ.out]; exact HCL.out
          · have k1 : ((y : Int) != (v : Int)) = true := by simp; omega
            have h42 := has_call (HR6.out.mem.near.sets v hv) hN6 hyN
            have HYV : Hid (y ≠ v) := hyv
            clear hyv
            cases hb : adj v y with
            | true =>
              rw [hb] at h42
              have H42 : Hid (Calls Tryz.prog 42 #[.map (some (bl v)), .int .i64 (y : Int)] w6 fun e w' => e = .returned (.bool true) ∧ Below w6.heap.size w6 w') := h42
              have HB : Hid (adj v y = true) := hb
              clear h42 hb
              go_wp2_with (first | (go_at_call 42; refine Calls.mono H42.out ?_; rintro e' w9 ⟨rfl, hB9⟩) | go_in)
              go_roundw
              case rel =>
                refine ⟨Sz, _, _, HRG6.out.below hB9, HR6.out.next hB9, fun z hz h1 h2 h3 h4 => ?_⟩
                by_cases c : z = y
                · subst c; rw [HB.out] at h4; cases h4
                · have hne : (z != y) = true := by simpa using c
                  exact HDZ.out z hz h1 (by simpa [hne] using h2) h3 h4
              case measure => rw [(HRG6.out.below hB9).left, HLZ.out]; exact HCL.out
            | false =>
              rw [hb] at h42
              have H42 : Hid (Calls Tryz.prog 42 #[.map (some (bl v)), .int .i64 (y : Int)] w6 fun e w' => e = .returned (.bool false) ∧ Below w6.heap.size w6 w') := h42
              have HB : Hid (adj v y = false) := hb
              clear h42 hb
              go_upto_region 8 with (first | (go_at_call 42; refine Calls.mono H42.out ?_; rintro e' w9 ⟨rfl, hB9⟩) | go_in)
              have HR9 : Hid (FolR w bk bn bg bC (some ⟨gn, 0, none⟩) cap N bl adj (addP S u v) (u, v) Sz w9) := HR6.out.next hB9
              have HRG9 : Hid (RgN w9 (bl u) r N (adj u) (fun k => lf k && k != y) cnt6) := HRG6.out.below hB9
              have cg9 : w9.cell? ⟨bg, 0, none⟩ = some (.func (.func 70) #[] #[ptr bk, ptr bn, ptr bg]) := box_cell HR9.out.mem.boxg rfl
              have H70 : Hid (Calls Tryz.prog 70 #[.int .i64 (u : Int), .int .i64 (y : Int), ptr bk, ptr bn, ptr bg] w9 fun e w' => e = .returned (.tuple #[]) ∧ FolE bk bn bg bC (some ⟨gn, 0, none⟩) cap N bl adj Sz u y w9 w') := IH.out w9 Sz u y (HCS.out Sz HR9.out.frm) HR9.out.mem hu hyN
              have HFC : Hid (Fs adj (u, v) (u, y)) := Fs.refl.step ⟨HSY1.out, Or.inl ⟨rfl, fun hh => HYV.out hh.symm, HB.out⟩⟩
              clear cn6 cg6 cr6 H42 hB9 HR6 HRG6
              go_wp2_with (first | (go_at_call 70; refine Calls.mono H70.out ?_; rintro e' w8 ⟨rfl, he8⟩) | go_in)
              obtain ⟨S8, hR8, hsub8, hin8, ht8⟩ := HR9.out.call HFC.out he8
              go_roundw
              case rel =>
                refine ⟨S8, _, _, HRG9.out.turns ht8 (HR9.out.mem.ne u hu) (fun e => ?_), hR8, fun z hz h1 h2 h3 h4 => ?_⟩
                · obtain ⟨a, b, c, d, hi⟩ := HRG9.out.iter
                  obtain ⟨es, c, hm⟩ := HR9.out.mem.set.isMap
                  rw [e, hm] at hi; cases hi
                · by_cases c : z = y
                  · subst c; exact hin8
                  · have hne : (z != y) = true := by simpa using c
                    exact hsub8 _ _ (HDZ.out z hz h1 (by simpa [hne] using h2) h3 h4)
              case measure =>
                rw [(HRG9.out.turns ht8 (HR9.out.mem.ne u hu) (fun e => by
                  obtain ⟨a, b, c, d, hi⟩ := HRG9.out.iter
                  obtain ⟨es, c, hm⟩ := HR9.out.mem.set.isMap
                  rw [e, hm] at hi; cases hi)).left, HLZ.out]
                exact HCL.out
end
end Go.Proofs.YtkkfjfphmlcieaaGreat

namespace Go.Proofs.YtkkfjfphmlcieaaGreat
set_option maxRecDepth 8000
open Go.RowKit Go.Maps
attribute [local go_sem ↓] Go.wp_at_zero Go.wp_at_succ
theorem FolP.whole {adj S' : Nat → Nat → Bool} {p : Nat × Nat} (h : FolP adj (fun _ _ => false) S' p) (hp : S' p.1 p.2 = true) (x y : Nat) : S' x y = true ↔ Fs adj p (x, y) := by
  refine ⟨fun hh => (h.frm x y hh).elim (fun e => by cases e) id, fun hf => ?_⟩
  exact Fs.ind (P := fun q => S' q.1 q.2 = true) hp (fun q r _ hr ih => h.clo q.1 q.2 r.1 r.2 ih rfl hr) hf
set_option maxHeartbeats 4000000 in
theorem forced_call {w : World} {ao : Option Addr} {cap N : Nat} {bl : Nat → Nat} {adj : Nat → Nat → Bool} (hN : N ≤ 1000) (hs : ∀ x y, adj x y = adj y x) (hlt : ∀ x y, adj x y = true → x < N ∧ y < N) (hnear : NearsAt w ao N bl adj) {u v : Nat} (hu : u < N) (hv : v < N) :
    Calls Tryz.prog 43 #[.slice ao N cap, .agg #[.int .i64 (u : Int), .int .i64 (v : Int)]] w fun e w' => ∃ (bC : Nat) (S : Nat → Nat → Bool), e = .returned (.map (some bC)) ∧ w.heap.size ≤ bC ∧ PairS w' bC N S ∧ (∀ x y, S x y = true ↔ Fs adj (u, v) (x, y)) ∧ Below w.heap.size w w' := by
  have hmm := @run_makeMap Tryz.prog
  have h70 := enter70
  have HNR : Hid (NearsAt w ao N bl adj) := hnear
  have HS : Hid (∀ x y, adj x y = adj y x) := hs
  have HLT : Hid (∀ x y, adj x y = true → x < N ∧ y < N) := hlt
  clear hnear hs hlt
  go_enter Tryz.func43, Tryz.ntmps43
  go_upto_region 4 with (fail)
  obtain ⟨W0, hW0⟩ : ∃ W0, W0 = (((((w.alloc (Obj.cells #[Value.slice ao N cap] 61)).alloc (Obj.cells #[Value.int IntKind.i64 (u : Int), Value.int IntKind.i64 (v : Int)] 38)).alloc (Obj.map #[] 0)).alloc (Obj.cells #[Value.map (some (w.heap.size + 1 + 1))] 73)).alloc (Obj.cells #[Value.func (Fn.func 70) #[] #[ptr (w.heap.size + 1 + 1 + 1), ptr w.heap.size, ptr (w.heap.size + 1 + 1 + 1 + 1)]] 98)) := ⟨_, rfl⟩
  have hgm : FoM W0 (w.heap.size + 1 + 1 + 1) w.heap.size (w.heap.size + 1 + 1 + 1 + 1) (w.heap.size + 1 + 1) ao cap N bl adj (fun _ _ => false) ∧ Two W0 (w.heap.size + 1) (.int .i64 (u : Int)) (.int .i64 (v : Int)) 38 ∧ Below w.heap.size w W0 := by
    rw [hW0]
    have B1 := below_alloc (Below.refl _ w) (Obj.cells #[Value.slice ao N cap] 61)
    have s1 := World.size_alloc w (Obj.cells #[Value.slice ao N cap] 61)
    have o1 := one_new w (Value.slice ao N cap) 61
    generalize w.alloc (Obj.cells #[Value.slice ao N cap] 61) = W1 at B1 s1 o1 ⊢
    have B2 := below_alloc (Below.refl _ W1) (Obj.cells #[Value.int IntKind.i64 (u : Int), Value.int IntKind.i64 (v : Int)] 38)
    have s2 := World.size_alloc W1 (Obj.cells #[Value.int IntKind.i64 (u : Int), Value.int IntKind.i64 (v : Int)] 38)
    have o2 := two_new W1 (Value.int IntKind.i64 (u : Int)) (Value.int IntKind.i64 (v : Int)) 38
    generalize W1.alloc (Obj.cells #[Value.int IntKind.i64 (u : Int), Value.int IntKind.i64 (v : Int)] 38) = W2 at B2 s2 o2 ⊢
    have B3 := below_alloc (Below.refl _ W2) (Obj.map #[] 0)
    have s3 := World.size_alloc W2 (Obj.map #[] 0)
    have o3 := pairS_made W2 N
    generalize W2.alloc (Obj.map #[] 0) = W3 at B3 s3 o3 ⊢
    have B4 := below_alloc (Below.refl _ W3) (Obj.cells #[Value.map (some (w.heap.size + 1 + 1))] 73)
    have s4 := World.size_alloc W3 (Obj.cells #[Value.map (some (w.heap.size + 1 + 1))] 73)
    have o4 := one_new W3 (Value.map (some (w.heap.size + 1 + 1))) 73
    generalize W3.alloc (Obj.cells #[Value.map (some (w.heap.size + 1 + 1))] 73) = W4 at B4 s4 o4 ⊢
    have B5 := below_alloc (Below.refl _ W4) (Obj.cells #[Value.func (Fn.func 70) #[] #[ptr (w.heap.size + 1 + 1 + 1), ptr w.heap.size, ptr (w.heap.size + 1 + 1 + 1 + 1)]] 98)
    have s5 := World.size_alloc W4 (Obj.cells #[Value.func (Fn.func 70) #[] #[ptr (w.heap.size + 1 + 1 + 1), ptr w.heap.size, ptr (w.heap.size + 1 + 1 + 1 + 1)]] 98)
    have o5 := one_new W4 (Value.func (Fn.func 70) #[] #[ptr (w.heap.size + 1 + 1 + 1), ptr w.heap.size, ptr (w.heap.size + 1 + 1 + 1 + 1)]) 98
    generalize W4.alloc (Obj.cells #[Value.func (Fn.func 70) #[] #[ptr (w.heap.size + 1 + 1 + 1), ptr w.heap.size, ptr (w.heap.size + 1 + 1 + 1 + 1)]] 98) = W5 at B5 s5 o5 ⊢
    have e2 : W1.heap.size = w.heap.size + 1 := s1
    have e3 : W2.heap.size = w.heap.size + 1 + 1 := by rw [s2, e2]
    have e4 : W3.heap.size = w.heap.size + 1 + 1 + 1 := by rw [s3, e3]
    have e5 : W4.heap.size = w.heap.size + 1 + 1 + 1 + 1 := by rw [s4, e4]
    rw [e2] at o2
    rw [e3] at o3
    rw [e4] at o4
    rw [e5] at o5
    have B15 := below_next (below_next (below_next B2 B3) B4) B5
    have B25 := below_next (below_next B3 B4) B5
    have B35 := below_next B4 B5
    have hbl : ∀ i, i < N → bl i < w.heap.size := fun i hi => (HNR.out.sets i hi).lt
    exact ⟨⟨(B5.block _ (by omega)).trans o4, (B15.block _ (by omega)).trans o1, o5, o3.below B35, HNR.out.below (below_next B1 B15), fun i hi => by have := hbl i hi; omega⟩, (B25.block _ (by omega)).trans o2, below_next B1 B15⟩
  have hW0' := hW0.symm
  simp only [ptr] at hW0'
  simp only [hW0']
  clear hW0 hW0'
  obtain ⟨bg, hbg⟩ : ∃ b, b = w.heap.size + 1 + 1 + 1 + 1 := ⟨_, rfl⟩
  obtain ⟨bk, hbk⟩ : ∃ b, b = w.heap.size + 1 + 1 + 1 := ⟨_, rfl⟩
  obtain ⟨bC, hbC⟩ : ∃ b, b = w.heap.size + 1 + 1 := ⟨_, rfl⟩
  obtain ⟨b3, hb3⟩ : ∃ b, b = w.heap.size + 1 := ⟨_, rfl⟩
  obtain ⟨bn, hbn⟩ : ∃ b, b = w.heap.size := ⟨_, rfl⟩
  have HB0 : Hid (Below w.heap.size w W0) := hgm.2.2
  have t3 := hgm.2.1
  have hgm1 := hgm.1
  have HLO : Hid (w.heap.size ≤ bC) := by
    show w.heap.size ≤ bC
    omega
  clear hgm
  rw [← hbg, ← hbk, ← hbC] at hgm1
  rw [← hb3] at t3
  rw [← hbg, ← hbk, ← hbC, ← hb3]
  rw [← hbn] at hgm1 ⊢
  clear hbg hbk hbC hb3 hbn
  have HGM : Hid (FoM W0 bk bn bg bC ao cap N bl adj (fun _ _ => false)) := hgm1
  have cg : W0.cell? ⟨bg, 0, none⟩ = some (.func (.func 70) #[] #[ptr bk, ptr bn, ptr bg]) := box_cell hgm1.boxg rfl
  have c3 := cell_two t3
  have H70 : Hid (Calls Tryz.prog 70 #[.int .i64 (u : Int), .int .i64 (v : Int), ptr bk, ptr bn, ptr bg] W0 fun e w' => e = .returned (.tuple #[]) ∧ FolE bk bn bg bC ao cap N bl adj (fun _ _ => false) u v W0 w') := follow_call hN HS.out HLT.out _ W0 _ u v (Nat.le_refl _) hgm1 hu hv
  clear hgm1 t3
  go_upto_region 5 with (first | (go_at_call 70; refine Calls.mono H70.out ?_; rintro e' w8 ⟨rfl, he8⟩) | go_in)
  obtain ⟨S8, hm8, hp8, hin8, ht8⟩ := he8
  have ck : w8.cell? ⟨bk, 0, none⟩ = some (.map (some bC)) := box_cell hm8.boxk rfl
  have HR : Hid (PairS w8 bC N S8 ∧ (∀ x y, S8 x y = true ↔ Fs adj (u, v) (x, y)) ∧ Below w.heap.size w w8) := ⟨hm8.set, hp8.whole hin8, ht8.below HB0.out HB0.out.size (fun k e => by rw [e]; exact HLO.out)⟩
  clear hm8 hp8 hin8 ht8 cg c3
  go_wp2
  go_ret
  exact ⟨bC, S8, rfl, HLO.out, HR.out.1, HR.out.2.1, HR.out.2.2⟩
end Go.Proofs.YtkkfjfphmlcieaaGreat
