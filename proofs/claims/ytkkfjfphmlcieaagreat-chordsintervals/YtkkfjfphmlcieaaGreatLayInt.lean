/- copy of elements of two cells. layOut: intervals out of arcs. The complement of a small graph, as a list of edges. Intervals. -/
import Derived.Test.YtkkfjfphmlcieaaGreatRepeat
import Derived.Test.YtkkfjfphmlcieaaGreatRingB
import Derived.Test.YtkkfjfphmlcieaaGreatOrdsM
import Derived.Lib.MinMax
import Derived.Test.YtkkfjfphmlcieaaGreatOrdsL1
namespace Go.Proofs.YtkkfjfphmlcieaaGreat
open Go.RowKit Go.Maps
section
variable {P : Program}
theorem run_copy2 (w : World) (dT sT ty elem : TypeId) (g o dLen dCap : Nat) (a : Addr) (sLen sCap : Nat) (cur : Array Value) (t : TypeId) (cs : List Value) (m : Nat)
    (hu : P.underlying dT = some (.slice elem)) (hs : (P.info? elem).map (·.size) = some 2)
    (hg : w.heap[g]? = some (.cells cur t (0, 0))) (hm : m = Nat.min sLen dLen) (hn : cs.length = m * 2)
    (hsrc : ∀ (j : Nat) v, cs[j]? = some v → w.cell? (a.add j) = some v) (hfit : o + cs.length ≤ cur.size) (h1 : ∀ v ∈ cs, v.oneCell' = true) :
    (Builtin.copy_ #[dT, sT] ty #[.slice (some ⟨g, o, none⟩) dLen dCap, .slice (some a) sLen sCap]).run P w =
      .ok (goInt m) (w.setRow g (cur.toList.take o ++ cs ++ cur.toList.drop (o + cs.length)).toArray) := by
  have hl := run_loadCells_list (P := P) w a cs hsrc
  have hst := run_storeCells_at P g o t cs 0 cur w hg (by simpa using hfit) h1
  rw [hn] at hl
  cases hq : P.info? elem with
  | none => simp [hq] at hs
  | some i =>
    have hi : i.size = 2 := by simpa [hq] using hs
    simp [Builtin.copy_, run_underlying hu, Builtin.lenOf, Builtin.firstCells, sizeOf, typeInfo, hq, hi, ← hm, hl, hst]
theorem run_copy2_none (w : World) (dT sT ty elem : TypeId) (d a : Option Addr) (dLen dCap sLen sCap : Nat) (hu : P.underlying dT = some (.slice elem)) (hs : (P.info? elem).map (·.size) = some 2) (hn : Nat.min sLen dLen = 0) :
    (Builtin.copy_ #[dT, sT] ty #[.slice d dLen dCap, .slice a sLen sCap]).run P w = .ok (goInt 0) w := by
  cases hq : P.info? elem with
  | none => simp [hq] at hs
  | some i =>
    have hl : ∀ (x : Addr), (loadCells x 0).run P w = .ok #[] w := fun x => by simpa using run_loadCells_list (P := P) w x [] (by simp)
    cases d <;> cases a <;> simp [Builtin.copy_, run_underlying hu, Builtin.lenOf, Builtin.firstCells, sizeOf, typeInfo, hq, hn, storeCells, hl]
theorem wpOne_copy2 {w : World} {o : Oper} {a : Act} {K : Act → World → Prop} {Q : Exit → Act → World → Prop} (d s : Operand) (dT sT : TypeId)
    (ho : o.op = .call { callee := .builtin .copy, args := #[d, s], argTypes := #[dT, sT] }) (elem : TypeId) (hu : P.underlying dT = some (.slice elem)) (hsz : (P.info? elem).map (·.size) = some 2)
    (dp sp : Option Addr) (dLen dCap sLen sCap : Nat) (hd : a.eval d = .slice dp dLen dCap) (hs : a.eval s = .slice sp sLen sCap)
    (g off : Nat) (cur : List Value) (t : TypeId) (hg : w.heap[g]? = some (.cells cur.toArray t (0, 0))) (cs : List Value) (m : Nat) (hm : m = Nat.min sLen dLen) (hn : cs.length = m * 2)
    (hpos : 0 < m → dp = some ⟨g, off, none⟩ ∧ ∃ ad, sp = some ad ∧ ∀ (j : Nat) v, cs[j]? = some v → w.cell? (ad.add j) = some v)
    (hfit : off + cs.length ≤ cur.length) (h1 : ∀ v ∈ cs, v.oneCell' = true) (B : Nat) (w0 : World) (hb : Below B w0 w) (hBg : B ≤ g)
    (h : ∀ w', Hid (w'.heap[g]? = some (.cells (splice cur off cs).toArray t (0, 0))) → Below B w0 w' → K (a.put o.dst (goInt m)) w') : Oper.wp P o a w K Q := by
  by_cases h0 : m = 0
  · subst h0
    obtain rfl : cs = [] := List.eq_nil_of_length_eq_zero (by omega)
    have hrun := run_copy2_none (P := P) w dT sT o.type elem dp sp dLen dCap sLen sCap hu hsz hm.symm
    unfold Oper.wp
    simp [execOp, ho, resolve, invoke, builtin, hd, hs, hrun, Result.andThen]
    exact h w (show _ = _ by simpa [splice] using hg) hb
  · obtain ⟨rfl, ad, rfl, hsrc⟩ := hpos (by omega)
    have hrun := run_copy2 (P := P) w dT sT o.type elem g off dLen dCap ad sLen sCap cur.toArray t cs m hu hsz hg hm hn hsrc (by simpa using hfit) h1
    unfold Oper.wp
    simp [execOp, ho, resolve, invoke, builtin, hd, hs, hrun, Result.andThen]
    exact h _ (show _ = _ by simpa [splice] using setRow_heap w g _ _ t _ hg) (below_setRow hb hBg _)
theorem wpList_copy2 {w : World} {ops : Array Oper} {rest : List Oper} {o : Oper} {a : Act} {Q : Exit → Act → World → Prop} (hgd : o.guard = none) (d s : Operand) (dT sT : TypeId)
    (ho : o.op = .call { callee := .builtin .copy, args := #[d, s], argTypes := #[dT, sT] }) (elem : TypeId) (hu : P.underlying dT = some (.slice elem)) (hsz : (P.info? elem).map (·.size) = some 2)
    (dp sp : Option Addr) (dLen dCap sLen sCap : Nat) (hd : a.eval d = .slice dp dLen dCap) (hs : a.eval s = .slice sp sLen sCap)
    (g off : Nat) (cur : List Value) (t : TypeId) (hg : w.heap[g]? = some (.cells cur.toArray t (0, 0))) (cs : List Value) (m : Nat) (hm : m = Nat.min sLen dLen) (hn : cs.length = m * 2)
    (hpos : 0 < m → dp = some ⟨g, off, none⟩ ∧ ∃ ad, sp = some ad ∧ ∀ (j : Nat) v, cs[j]? = some v → w.cell? (ad.add j) = some v)
    (hfit : off + cs.length ≤ cur.length) (h1 : ∀ v ∈ cs, v.oneCell' = true) (B : Nat) (w0 : World) (hb : Below B w0 w) (hBg : B ≤ g)
    (h : ∀ w', Hid (w'.heap[g]? = some (.cells (splice cur off cs).toArray t (0, 0))) → Below B w0 w' → wpList P ops Q rest (a.put o.dst (goInt m)) w') : wpList P ops Q (o :: rest) a w := by
  refine wpList_plain hgd fun K hK => ?_
  exact wpOne_copy2 d s dT sT ho elem hu hsz dp sp dLen dCap sLen sCap hd hs g off cur t hg cs m hm hn hpos hfit h1 B w0 hb hBg (fun w' h1 h2 => hK _ _ (h w' h1 h2))
theorem step_copy2 {ops : Array Oper} {o : Oper} {a : Act} {w : World} {K : Act → World → Prop} {Q : Exit → Act → World → Prop} {E : Prop} (hgd : o.guard = none) (d s : Operand) (dT sT : TypeId)
    (ho : o.op = .call { callee := .builtin .copy, args := #[d, s], argTypes := #[dT, sT] }) (elem : TypeId) (hu : P.underlying dT = some (.slice elem)) (hsz : (P.info? elem).map (·.size) = some 2)
    (dp sp : Option Addr) (dLen dCap sLen sCap : Nat) (hd : a.eval d = .slice dp dLen dCap) (hs : a.eval s = .slice sp sLen sCap)
    (g off : Nat) (cur : List Value) (t : TypeId) (hg : w.heap[g]? = some (.cells cur.toArray t (0, 0))) (cs : List Value) (m : Nat) (hm : m = Nat.min sLen dLen) (hn : cs.length = m * 2)
    (hpos : 0 < m → dp = some ⟨g, off, none⟩ ∧ ∃ ad, sp = some ad ∧ ∀ (j : Nat) v, cs[j]? = some v → w.cell? (ad.add j) = some v)
    (hfit : off + cs.length ≤ cur.length) (h1 : ∀ v ∈ cs, v.oneCell' = true) (B : Nat) (w0 : World) (hb : Below B w0 w) (hBg : B ≤ g)
    (h : ∀ w', Hid (w'.heap[g]? = some (.cells (splice cur off cs).toArray t (0, 0))) → Below B w0 w' → K (a.put o.dst (goInt m)) w') :
    if Region.wanted o (yielded ops a.tmps) = true then Oper.wp P o a w K Q else E := by
  have hw : Region.wanted o (yielded ops a.tmps) = true := by simp [Region.wanted, hgd]
  rw [if_pos hw]
  exact wpOne_copy2 d s dT sT ho elem hu hsz dp sp dLen dCap sLen sCap hd hs g off cur t hg cs m hm hn hpos hfit h1 B w0 hb hBg h
end
theorem made_two (n : Nat) (z : Value) : madeCells #[z, z] n = rep n z := by
  unfold rep madeCells
  refine Array.ext (by simp) fun i h1 h2 => ?_
  simp
  have : i % 2 = 0 ∨ i % 2 = 1 := by omega
  rcases this with h | h <;> simp [h, Nat.mod_one]
theorem make22 (N : Nat) (hN : N ≤ 1000) (w : World) : (Instr.makeSlice 22 (.int .i64 (N : Int)) (.int .i64 (N : Int))).run Tryz.prog w = .ok (.slice (some ⟨w.heap.size, 0, none⟩) N N) (w.alloc (.cells (rep (N * 2) (.int .i64 0)) 38)) := by
  obtain ⟨i3, hi3, hy0, hy1, hy2⟩ := info_parts Tryz.info38
  have hr := run_make (P := Tryz.prog) w 22 38 i3 (.agg #[.int .i64 0, .int .i64 0]) Tryz.underlying22 hi3 hy0 .i64 .i64 N N (by omega) (Int.le_refl _) (by rw [hy2]; omega) (by omega)
  rw [← made_two]
  simpa [hy1, Value.cells] using hr
/-- The first k pairs are (X, Y), what is behind them is Z. -/
def repP (X Y Z : Value) (k n : Nat) : List Value := (List.range (n * 2)).map fun t => if t < k * 2 then (if t % 2 = 0 then X else Y) else Z
def manyP (X Y : Value) (m : Nat) : List Value := (List.range (m * 2)).map fun t => if t % 2 = 0 then X else Y
theorem repP_len (X Y Z : Value) (k n : Nat) : (repP X Y Z k n).length = n * 2 := by simp [repP]
theorem manyP_len (X Y : Value) (m : Nat) : (manyP X Y m).length = m * 2 := by simp [manyP]
theorem repP_at {X Y Z : Value} {k n t : Nat} (h : t < n * 2) : (repP X Y Z k n)[t]? = some (if t < k * 2 then (if t % 2 = 0 then X else Y) else Z) := by
  simp [repP, h]
theorem manyP_at {X Y : Value} {m t : Nat} (h : t < m * 2) : (manyP X Y m)[t]? = some (if t % 2 = 0 then X else Y) := by simp [manyP, h]
theorem splice_repP {X Y Z : Value} {k n m : Nat} (h : k + m ≤ n) : splice (repP X Y Z k n) (k * 2) (manyP X Y m) = repP X Y Z (k + m) n := by
  unfold splice
  refine List.ext_getElem? fun t => ?_
  by_cases h1 : t < k * 2
  · rw [List.getElem?_append_left (by simp [repP_len]; omega), List.getElem?_take_of_lt h1, repP_at (by omega), repP_at (by omega), if_pos h1, if_pos (show t < (k + m) * 2 by omega)]
  · have hl : ((repP X Y Z k n).take (k * 2)).length = k * 2 := by simp [repP_len]; omega
    rw [List.getElem?_append_right (by omega), hl]
    by_cases h2 : t < (k + m) * 2
    · rw [List.getElem?_append_left (by rw [manyP_len]; omega), manyP_at (by omega), repP_at (by omega), if_pos h2]
      have : (t - k * 2) % 2 = t % 2 := by omega
      rw [this]
    · rw [List.getElem?_append_right (by rw [manyP_len]; omega), List.getElem?_drop, manyP_len]
      have e : k * 2 + m * 2 + (t - k * 2 - m * 2) = t := by omega
      rw [e]
      by_cases h3 : t < n * 2
      · rw [repP_at h3, repP_at h3, if_neg h1, if_neg h2]
      · rw [List.getElem?_eq_none (by rw [repP_len]; omega), List.getElem?_eq_none (by rw [repP_len]; omega)]
theorem rep_madeP {n : Nat} {X Y Z : Value} : rep (n * 2) Z = (repP X Y Z 0 n).toArray := by
  refine Array.ext (by simp [rep_size, repP_len]) fun i h1 h2 => ?_
  have hi : i < n * 2 := by simpa [rep_size] using h1
  have e1 := rep_at (n := n * 2) Z hi
  have e2 := repP_at (X := X) (Y := Y) (Z := Z) (k := 0) hi
  rw [if_neg (by omega)] at e2
  rw [Array.getElem?_eq_getElem h1] at e1
  injection e1 with e1
  rw [e1]
  have e3 : (repP X Y Z 0 n).toArray[i]? = some Z := by simpa using e2
  rw [Array.getElem?_eq_getElem h2] at e3
  injection e3 with e3
  exact e3.symm
attribute [local go_sem ↓] Go.wp_at_zero Go.wp_at_succ
set_option maxRecDepth 8000 in
set_option maxHeartbeats 4000000 in
theorem repeatP_call {x y : Int} {g0 c0 n : Nat} {w : World} (hc0 : w.cell? ⟨g0, 0, none⟩ = some (.int .i64 x)) (hc1' : w.cell? ⟨g0, 1, none⟩ = some (.int .i64 y)) (hn : n ≤ 1000) :
    Calls Tryz.prog 40 #[.slice (some ⟨g0, 0, none⟩) 1 c0, .int .i64 (n : Int)] w fun r w' => ∃ b, r = .returned (.slice (some ⟨b, 0, none⟩) n n) ∧ w.heap.size ≤ b ∧ w'.heap[b]? = some (.cells (repP (.int .i64 x) (.int .i64 y) (.int .i64 0) n n).toArray 38 (0, 0)) ∧ Below w.heap.size w w' := by
  have h4 : IntKind.u64.wrap (n : Int) = n := by rw [IntKind.wrap_u64]; omega
  have h1 : IntKind.u64.wrap (1 : Int) = 1 := by decide
  have h5 : IntKind.i64.wrap (n : Int) = n := by rw [IntKind.wrap_i64]; omega
  have h6 : ¬ (n : Int) < 0 := by omega
  have h7 : ¬ (n : Int) > 9223372036854775807 := by omega
  have hm := make22 n hn
  go_enter Tryz.func40, Tryz.ntmps40
  go_upto_region 7 with (first | (go_at_call 62; refine Calls.mono (mul_call n hn _) ?_; rintro r W1 ⟨rfl, rfl⟩) | go_in)
  have hb1 := below_alloc (Below.refl _ W1) (Obj.cells (rep (n * 2) (.int .i64 0)) 38)
  have hg1 : (W1.alloc (Obj.cells (rep (n * 2) (.int .i64 0)) 38)).heap[W1.heap.size]? = some (.cells (repP (.int .i64 x) (.int .i64 y) (.int .i64 0) 0 n).toArray 38 (0, 0)) := by
    rw [← rep_madeP]; exact heap_alloc_new _ _
  have hd0 := (hb1.cell (World.block_lt_of_cell? W1 _ hc0)).trans hc0
  have hd1 := (hb1.cell (World.block_lt_of_cell? W1 _ hc1')).trans hc1'
  clear hm
  obtain ⟨g, hg⟩ : ∃ g, g = W1.heap.size := ⟨_, rfl⟩
  rw [← hg] at hg1 ⊢
  have hge : W1.heap.size ≤ g := by omega
  generalize W1.alloc (Obj.cells (rep (n * 2) (.int .i64 0)) 38) = W2 at hb1 hg1 hd0 hd1 ⊢
  clear hg
  obtain ⟨k0, hk0, hk3, hk1, hk2⟩ : ∃ k0, k0 = Nat.min 1 n ∧ k0 ≤ 1 ∧ k0 ≤ n ∧ (k0 = 0 → n = 0) := by
    by_cases h : n = 0
    · exact ⟨0, by rw [h]; rfl, by omega, by omega, fun _ => h⟩
    · exact ⟨1, (Nat.min_eq_left (by omega)).symm, by omega, by omega, by omega⟩
  have hsz3 : (Tryz.prog.info? 38).map (·.size) = some 2 := by kernel_rfl
  have C2 : Hid (0 < k0 → (some (⟨g, 0, none⟩ : Addr)) = some ⟨g, 0, none⟩ ∧ ∃ ad, some (⟨g0, 0, none⟩ : Addr) = some ad ∧ ∀ (j : Nat) v, (manyP (.int .i64 x) (.int .i64 y) k0)[j]? = some v → W2.cell? (ad.add j) = some v) := by
    intro h0
    refine ⟨rfl, _, rfl, fun j v hj => ?_⟩
    have hjl := (List.getElem?_eq_some_iff.1 hj).1
    rw [manyP_len] at hjl
    rw [manyP_at hjl] at hj
    injection hj with hj
    rw [← hj, add_none]
    have : j = 0 ∨ j = 1 := by omega
    rcases this with rfl | rfl
    · exact hd0
    · exact hd1
  have C3 : Hid (0 + (manyP (.int .i64 x) (.int .i64 y) k0).length ≤ (repP (.int .i64 x) (.int .i64 y) (.int .i64 0) 0 n).length) := by
    show 0 + _ ≤ _
    rw [manyP_len, repP_len]
    omega
  have C4 : Hid (∀ v ∈ manyP (.int .i64 x) (.int .i64 y) k0, v.oneCell' = true) := by
    intro v hv
    obtain ⟨t, _, rfl⟩ := List.mem_map.1 hv
    split <;> rfl
  have HG1 : Hid (W2.heap[g]? = some (.cells (repP (.int .i64 x) (.int .i64 y) (.int .i64 0) 0 n).toArray 38 (0, 0))) := hg1
  have C1 : Hid (k0 = Nat.min 1 n) := hk0
  clear hg1 hk0
  go_wp2_with (first | (refine wpList_copy2 rfl _ _ 22 22 rfl 38 Tryz.underlying22 hsz3 _ _ _ _ _ _ rfl rfl g 0 (repP (.int .i64 x) (.int .i64 y) (.int .i64 0) 0 n) 38 HG1.out (manyP (.int .i64 x) (.int .i64 y) k0) k0 C1.out (manyP_len _ _ _) C2.out C3.out C4.out W1.heap.size W1 hb1 hge ?_; intro W3 HG3 hb3))
  have hrow : W3.heap[g]? = some (.cells (repP (.int .i64 x) (.int .i64 y) (.int .i64 0) k0 n).toArray 38 (0, 0)) := by
    have e := splice_repP (X := .int .i64 x) (Y := .int .i64 y) (Z := .int .i64 0) (k := 0) (n := n) (m := k0) (by omega)
    rw [Nat.zero_mul, Nat.zero_add] at e
    rw [HG3.out, e]
  clear HG1 HG3 hb1 hd0 hd1 C1 C2 C3 C4 hc0 hc1'
  try simp only [goInt]
  go_loopw [8] (fun i wr => ∃ k : Nat, k ≤ n ∧ (k = 0 → n = 0) ∧ i = .int .i64 (k : Int) ∧ wr.heap[g]? = some (.cells (repP (.int .i64 x) (.int .i64 y) (.int .i64 0) k n).toArray 38 (0, 0)) ∧ Below W1.heap.size W1 wr) (fun i _ => n - (numOf i).toNat)
  case atStart => exact ⟨k0, hk1, hk2, rfl, hrow, hb3⟩
  case round =>
    clear hrow hb3 hk1 hk2 hk3
    obtain ⟨k, hk, hkz, rfl, hrow, hbk⟩ := hrel
    by_cases hlt : k < n
    · have i1 : (0 : Int) ≤ (k : Int) := by omega
      have i2 : (k : Int) < (n : Int) := by omega
      have i3 : (k : Int) ≤ (n : Int) := by omega
      have i4 : ¬ n = k := by omega
      obtain ⟨m, hm1, hm2, hm3⟩ : ∃ m, m = Nat.min k (n - k) ∧ k + m ≤ n ∧ 0 < m := by
        by_cases h : k ≤ n - k
        · exact ⟨k, (Nat.min_eq_left h).symm, by omega, by omega⟩
        · exact ⟨n - k, (Nat.min_eq_right (by omega)).symm, by omega, by omega⟩
      have HR : Hid (wr.heap[g]? = some (.cells (repP (.int .i64 x) (.int .i64 y) (.int .i64 0) k n).toArray 38 (0, 0))) := hrow
      have HM : Hid (m ≤ k) := by rw [hm1]; exact Nat.min_le_left _ _
      have C1 : Hid (m = Nat.min k (n - k)) := hm1
      clear hrow hm1
      go_upto_region 9 with (fail)
      go_region_law (refine step_copy2 rfl (.tmp 41) (.tmp 44) 22 22 (by rfl) 38 Tryz.underlying22 hsz3 (some ⟨g, k * 2, none⟩) (some ⟨g, 0, none⟩) (n - k) (n - k) k n (by rfl) (by rfl) g (k * 2) (repP (.int .i64 x) (.int .i64 y) (.int .i64 0) k n) 38 (by exact HR.out) (manyP (.int .i64 x) (.int .i64 y) m) m (by exact C1.out) (manyP_len _ _ _) (fun _ => ⟨by rfl, _, rfl, fun j v hj => by
        have h1 := (List.getElem?_eq_some_iff.1 hj).1
        rw [manyP_len] at h1
        rw [manyP_at h1] at hj
        injection hj with hj
        rw [← hj, add_none]
        have h2 := cell_of_row wr.drew g j (repP (.int .i64 x) (.int .i64 y) (.int .i64 0) k n).toArray 38 (0, 0) HR.out
        rw [h2]
        have := HM.out
        have h3 := repP_at (X := .int .i64 x) (Y := .int .i64 y) (Z := .int .i64 0) (k := k) (n := n) (t := j) (by omega)
        rw [if_pos (by omega)] at h3
        simpa using h3⟩) (by rw [manyP_len, repP_len]; omega) (fun v hv => by obtain ⟨t, _, rfl⟩ := List.mem_map.1 hv; split <;> rfl) W1.heap.size W1 hbk.drew hge ?_; intro W4 HG4 hb4)
      all_goals
        go_wp2
        have e1 : IntKind.i64.wrap ((k : Int) + (m : Int)) = ((k + m : Nat) : Int) := by rw [IntKind.wrap_i64]; omega
        simp [Act.put, e1]
        refine ⟨⟨k + m, by omega, by omega, by omega, by rw [HG4.out, splice_repP (by omega)], hb4⟩, ?_⟩
        simp [numOf]
        omega
    · have i2 : ¬ (k : Int) < (n : Int) := by omega
      have hkn : k = n := by omega
      subst hkn
      go_wp2
      go_ret
      exact ⟨g, rfl, hge, hrow, hbk⟩
end Go.Proofs.YtkkfjfphmlcieaaGreat

namespace Go.Proofs.YtkkfjfphmlcieaaGreat
set_option maxRecDepth 8000
open Go.RowKit Go.Maps
attribute [local go_sem ↓] Go.wp_at_zero Go.wp_at_succ
theorem begN_take {L : List (Nat × Nat)} {k : Nat} {x y : Nat} (h : L[k]? = some (x, y)) (v : Nat) : begN (L.take (k + 1)) v = begN (L.take k) v + if y = v then 1 else 0 := by
  have hk := (List.getElem?_eq_some_iff.1 h).1
  have he := (List.getElem?_eq_some_iff.1 h).2
  unfold begN
  rw [List.take_succ_eq_append_getElem hk, List.filter_append, List.length_append, he]
  by_cases e : y = v <;> simp [e]
theorem begN_len (L : List (Nat × Nat)) (v : Nat) : begN L v ≤ L.length := List.length_filter_le _ _
theorem endZ_take {b : Nat → Nat} {n : Int} {L : List (Nat × Nat)} {k : Nat} {x y : Nat} (h : L[k]? = some (x, y)) (v : Nat) : endZ b n (L.take (k + 1)) v = if x = v then min (endZ b n (L.take k) v) ((b y : Int) - 1) else endZ b n (L.take k) v := by
  have hk := (List.getElem?_eq_some_iff.1 h).1
  have he := (List.getElem?_eq_some_iff.1 h).2
  rw [List.take_succ_eq_append_getElem hk, he, endZ_snoc]
theorem toP_at {L : List (Nat × Nat)} {k : Nat} {p q : Int} (h : (toP L)[k]? = some (p, q)) : ∃ x y : Nat, L[k]? = some (x, y) ∧ p = x ∧ q = y := by
  simp only [toP, List.getElem?_map] at h
  cases e : L[k]? with
  | none => rw [e] at h; cases h
  | some z =>
    rw [e] at h
    simp at h
    exact ⟨z.1, z.2, rfl, h.1.symm, h.2.symm⟩
/-- The row of intervals: from a, to b. -/
def ivF (a : Nat → Nat) (b : Nat → Int) (t : Nat) : Value := if t % 2 = 0 then .int .i64 (a (t / 2) : Int) else .int .i64 (b (t / 2))
theorem ivF0 (a : Nat → Nat) (b : Nat → Int) (v : Nat) : ivF a b (v * 2) = .int .i64 (a v : Int) := by
  unfold ivF
  rw [if_pos (by omega)]
  congr 2
  congr 1
  omega
theorem ivF1 (a : Nat → Nat) (b : Nat → Int) (v : Nat) : ivF a b (v * 2 + 1) = .int .i64 (b v) := by
  unfold ivF
  rw [if_neg (by omega)]
  congr 2
  omega
theorem ivF_set0 {a : Nat → Nat} {b : Nat → Int} {v m t : Nat} : (if t = v * 2 then Value.int .i64 (m : Int) else ivF a b t) = ivF (fun z => if z = v then m else a z) b t := by
  unfold ivF
  by_cases h : t % 2 = 0
  · rw [if_pos h, if_pos h]
    dsimp only
    by_cases e : t = v * 2
    · rw [if_pos e, if_pos (by omega)]
    · rw [if_neg e, if_neg (by omega)]
  · rw [if_neg h, if_neg h, if_neg (by omega)]
theorem ivF_set1 {a : Nat → Nat} {b : Nat → Int} {v t : Nat} {m : Int} : (if t = v * 2 + 1 then Value.int .i64 m else ivF a b t) = ivF a (fun z => if z = v then m else b z) t := by
  unfold ivF
  by_cases h : t % 2 = 0
  · rw [if_pos h, if_pos h, if_neg (by omega)]
  · rw [if_neg h, if_neg h]
    dsimp only
    by_cases e : t = v * 2 + 1
    · rw [if_pos e, if_pos (by omega)]
    · rw [if_neg e, if_neg (by omega)]
set_option maxHeartbeats 4000000 in
theorem layOut_call {w : World} {N : Nat} {lo : Option Addr} {lc : Nat} {L : List (Nat × Nat)} (hN : N ≤ 100) (hE : EdgesAt w (.slice lo (toP L).length lc) (toP L)) (hlt : ∀ p ∈ L, p.1 < N ∧ p.2 < N) (hLl : L.length ≤ 100000) :
    Calls Tryz.prog 23 #[.int .i64 (N : Int), .slice lo (toP L).length lc] w fun e w' => ∃ b, e = .returned (.slice (some ⟨b, 0, none⟩) N N) ∧ RowV w' b 38 (N * 2) (ivF (begN L) (endZ (begN L) N L)) ∧ Below w.heap.size w w' := by
  have HE : Hid (EdgesAt w (.slice lo (toP L).length lc) (toP L)) := hE
  have HLT : Hid (∀ p ∈ L, p.1 < N ∧ p.2 < N) := hlt
  have hPl : (toP L).length ≤ 100000 := by rw [toP_len]; exact hLl
  have HPL : Hid ((toP L).length = L.length) := toP_len L
  clear hE hlt
  obtain ⟨pl, hpl⟩ : ∃ pl, pl = (toP L).length := ⟨_, rfl⟩
  have HPE : Hid (pl = (toP L).length) := hpl
  rw [← hpl] at hPl ⊢
  clear hpl
  go_enter Tryz.func23, Tryz.ntmps23
  have H40 : Hid (Calls Tryz.prog 40 #[.slice (some ⟨w.heap.size, 0, none⟩) 1 1, .int .i64 (N : Int)] (w.alloc (Obj.cells #[.int .i64 0, .int .i64 (N : Int)] 38)) fun r w' => ∃ b, r = .returned (.slice (some ⟨b, 0, none⟩) N N) ∧ w.heap.size ≤ b ∧ RowV w' b 38 (N * 2) (ivF (begN (L.take 0)) (fun _ => (N : Int))) ∧ Below w.heap.size w w') := by
    obtain ⟨c0, c1⟩ := cell_two (two_new w (.int .i64 0) (.int .i64 (N : Int)) 38)
    refine Calls.mono (repeatP_call c0 c1 (by omega)) ?_
    rintro e w' ⟨b, rfl, h1, h2, h3⟩
    refine ⟨b, rfl, by simp at h1; omega, ⟨_, h2, by simp [repP_len], fun j hj => ?_⟩, below_next (below_alloc (Below.refl _ w) _) h3⟩
    have h4 := repP_at (X := .int .i64 0) (Y := .int .i64 (N : Int)) (Z := .int .i64 0) (k := N) (n := N) hj
    rw [if_pos hj] at h4
    rw [List.getElem?_toArray, h4]
    unfold ivF
    by_cases h : j % 2 = 0
    · rw [if_pos h, if_pos h]; simp [begN]
    · rw [if_neg h, if_neg h]
  go_upto_region 3 with (first | (go_at_call 40; refine Calls.mono H40.out ?_; rintro e W1 ⟨bI, rfl, hbI, hR1, hB1⟩) | go_in)
  have HBI : Hid (w.heap.size ≤ bI) := hbI
  clear H40 hbI
  go_loopw [18] (fun s18 wz => ∃ k : Nat, k ≤ pl ∧ s18 = .int .i64 (k : Int) ∧ RowV wz bI 38 (N * 2) (ivF (begN (L.take k)) (fun _ => (N : Int))) ∧ Below w.heap.size w wz) (fun s18 _ => pl - (numOf s18).toNat)
  case atStart => exact ⟨0, Nat.zero_le _, rfl, hR1, hB1⟩
  case round =>
    obtain ⟨k, hk, rfl, hR, hB⟩ := hrel
    clear hR1 hB1
    have HR : Hid (RowV wr bI 38 (N * 2) (ivF (begN (L.take k)) (fun _ => (N : Int)))) := hR
    clear hR
    by_cases hkl : k < pl
    · have a1 : (0 : Int) ≤ (k : Int) := by omega
      have a2 : (k : Int) < (pl : Int) := by omega
      obtain ⟨b, off, p, q, hlo, gk, _, _, c0, c1⟩ := (HE.out.below hB).get (by rw [← HPE.out]; exact hkl)
      cases hlo
      obtain ⟨x, y, gL, rfl, rfl⟩ := toP_at gk
      have hxy := HLT.out (x, y) (List.mem_of_getElem? gL)
      have HGL : Hid (L[k]? = some (x, y)) := gL
      have y1 : (0 : Int) ≤ (y : Int) := by omega
      have y2 : (y : Int) < (N : Int) := by omega
      clear gk gL
      go_upto_region 5 with (fail)
      have hB7 := below_alloc (Below.refl _ wr) (Obj.cells #[.int .i64 (x : Int), .int .i64 (y : Int)] 38)
      have t7 := two_new wr (.int .i64 (x : Int)) (.int .i64 (y : Int)) 38
      obtain ⟨b7, hb7⟩ : ∃ b, b = wr.heap.size := ⟨_, rfl⟩
      rw [← hb7] at t7 ⊢
      clear c0 c1
      generalize wr.alloc (Obj.cells #[.int .i64 (x : Int), .int .i64 (y : Int)] 38) = W7 at hB7 t7 ⊢
      have hBw := below_next hB hB7
      have hR7 := HR.out.block (hB7.block bI HR.out.lt)
      have HR7 : Hid (RowV W7 bI 38 (N * 2) (ivF (begN (L.take k)) (fun _ => (N : Int)))) := hR7
      obtain ⟨d0, d1⟩ := cell_two t7
      have hcell := hR7.cell (j := y * 2) (by omega)
      rw [ivF0] at hcell
      have hfr := hR7.free (y * 2)
      have hq := begN_len (L.take k) y
      rw [List.length_take] at hq
      have hfar : W7.cell? ⟨b7, 1, none⟩ = some (.int .i64 (y : Int)) := d1
      obtain ⟨q, hqe⟩ : ∃ q, q = begN (L.take k) y := ⟨_, rfl⟩
      rw [← hqe] at hcell hq
      have hadd : IntKind.i64.wrap ((q : Int) + 1) = ((q + 1 : Nat) : Int) := by rw [IntKind.wrap_i64]; omega
      have hadd' : wrap64 ((q : Int) + 1) = ((q + 1 : Nat) : Int) := by unfold wrap64; omega
      have HQE : Hid (q = begN (L.take k) y) := hqe
      obtain ⟨q1, hq1⟩ : ∃ q1, q1 = q + 1 := ⟨_, rfl⟩
      rw [← hq1] at hadd hadd'
      have HQ1 : Hid (q1 = q + 1) := hq1
      clear hqe hq1 hR7 t7 hb7 hB7 HR hB hq
      go_region
      all_goals
        have hRf : RowV (W7.setCell ⟨bI, y * 2, none⟩ (.int .i64 (q1 : Int))).drew bI 38 (N * 2) (ivF (begN (L.take (k + 1))) (fun _ => (N : Int))) := by
          have h1 := HR7.out.set (y * 2) (.int .i64 (q1 : Int))
          refine (h1.congr (g := ivF (begN (L.take (k + 1))) (fun _ => (N : Int))) (fun t ht => ?_)).block rfl
          rw [ivF_set0]
          unfold ivF
          by_cases h : t % 2 = 0
          · rw [if_pos h, if_pos h, begN_take HGL.out]
            dsimp only
            by_cases e : t / 2 = y
            · rw [if_pos e, if_pos e.symm, e, HQ1.out, HQE.out]
            · rw [if_neg e, if_neg (fun h => e h.symm), Nat.add_zero]
          · rw [if_neg h, if_neg h]
        have hBf : Below w.heap.size w (W7.setCell ⟨bI, y * 2, none⟩ (.int .i64 (q1 : Int))).drew := (hBw.setCell HBI.out _).drew
        go_wp2
        go_roundw
        case rel => exact ⟨k + 1, by omega, by go_num, hRf, hBf⟩
        case measure => simp [numOf]; omega
    · have a2 : ¬ (k : Int) < (pl : Int) := by omega
      have hke : k = L.length := by rw [← HPL.out, ← HPE.out]; omega
      have HR0 : Hid (RowV wr bI 38 (N * 2) (ivF (begN L) (endZ (begN L) N (L.take 0)))) := by
        have := HR.out
        rw [hke, List.take_length] at this
        exact this
      clear hke HR
      go_upto_region 8 with (fail)
      generalize wr = Wb at hB HR0 ⊢
      go_loopw [34] (fun s34 wz => ∃ k : Nat, k ≤ pl ∧ s34 = .int .i64 (k : Int) ∧ RowV wz bI 38 (N * 2) (ivF (begN L) (endZ (begN L) N (L.take k))) ∧ Below w.heap.size w wz) (fun s34 _ => pl - (numOf s34).toNat)
      case atStart => exact ⟨0, Nat.zero_le _, rfl, HR0.out, hB⟩
      case round =>
        obtain ⟨j, hj, rfl, hR, hB'⟩ := hrel
        have HR : Hid (RowV wr bI 38 (N * 2) (ivF (begN L) (endZ (begN L) N (L.take j)))) := hR
        clear hR HR0 hB
        by_cases hjl : j < pl
        · have a1 : (0 : Int) ≤ (j : Int) := by omega
          have a2 : (j : Int) < (pl : Int) := by omega
          obtain ⟨b, off, p, q, hlo, gk, _, _, c0, c1⟩ := (HE.out.below hB').get (by rw [← HPE.out]; exact hjl)
          cases hlo
          obtain ⟨x, y, gL, rfl, rfl⟩ := toP_at gk
          have hxy := HLT.out (x, y) (List.mem_of_getElem? gL)
          have HGL : Hid (L[j]? = some (x, y)) := gL
          have y1 : (0 : Int) ≤ (y : Int) := by omega
          have y2 : (y : Int) < (N : Int) := by omega
          have x1 : (0 : Int) ≤ (x : Int) := by omega
          have x2 : (x : Int) < (N : Int) := by omega
          clear gk gL
          go_upto_region 10 with (fail)
          have hB7 := below_alloc (Below.refl _ wr) (Obj.cells #[.int .i64 (x : Int), .int .i64 (y : Int)] 38)
          have t7 := two_new wr (.int .i64 (x : Int)) (.int .i64 (y : Int)) 38
          obtain ⟨b7, hb7⟩ : ∃ b, b = wr.heap.size := ⟨_, rfl⟩
          rw [← hb7] at t7 ⊢
          clear c0 c1
          generalize wr.alloc (Obj.cells #[.int .i64 (x : Int), .int .i64 (y : Int)] 38) = W7 at hB7 t7 ⊢
          have hBw := below_next hB' hB7
          have hR7 := HR.out.block (hB7.block bI HR.out.lt)
          have HR7 : Hid (RowV W7 bI 38 (N * 2) (ivF (begN L) (endZ (begN L) N (L.take j)))) := hR7
          obtain ⟨d0, d1⟩ := cell_two t7
          have hcb := hR7.cell (j := y * 2) (by omega)
          rw [ivF0] at hcb
          have hce := hR7.cell (j := x * 2 + 1) (by omega)
          rw [ivF1] at hce
          have hfr := hR7.free (x * 2 + 1)
          have hq := begN_len L y
          obtain ⟨bg, hbg⟩ : ∃ bg, bg = begN L y := ⟨_, rfl⟩
          obtain ⟨en, hen⟩ : ∃ en, en = endZ (begN L) N (L.take j) x := ⟨_, rfl⟩
          rw [← hbg] at hcb hq
          rw [← hen] at hce
          obtain ⟨b1, hb1⟩ : ∃ b1 : Int, b1 = (bg : Int) - 1 := ⟨_, rfl⟩
          have hsub : IntKind.i64.wrap ((bg : Int) - 1) = b1 := by rw [IntKind.wrap_i64, hb1]; omega
          have hsub' : wrap64 ((bg : Int) - 1) = b1 := by unfold wrap64; rw [hb1]; omega
          obtain ⟨mn, hmn⟩ : ∃ mn, mn = min en b1 := ⟨_, rfl⟩
          have hmn' : min en b1 = mn := hmn.symm
          have HMN : Hid (mn = min (endZ (begN L) N (L.take j) x) ((begN L y : Int) - 1)) := by
            show mn = _
            rw [hmn, hen, hb1, hbg]
          clear hbg hen hb1 hmn hR7 t7 hb7 hB7 HR hB' hq
          go_upto_region 11 with (fail)
          go_region
          all_goals
            have hRf : RowV (W7.setCell ⟨bI, x * 2 + 1, none⟩ (.int .i64 mn)).drew bI 38 (N * 2) (ivF (begN L) (endZ (begN L) N (L.take (j + 1)))) := by
              have h1 := HR7.out.set (x * 2 + 1) (.int .i64 mn)
              refine (h1.congr (g := ivF (begN L) (endZ (begN L) N (L.take (j + 1)))) (fun t ht => ?_)).block rfl
              rw [ivF_set1]
              unfold ivF
              by_cases h : t % 2 = 0
              · rw [if_pos h, if_pos h]
              · rw [if_neg h, if_neg h, endZ_take HGL.out]
                dsimp only
                by_cases e : t / 2 = x
                · rw [if_pos e, if_pos e.symm, e, HMN.out]
                · rw [if_neg e, if_neg (fun h => e h.symm)]
            have hBf : Below w.heap.size w (W7.setCell ⟨bI, x * 2 + 1, none⟩ (.int .i64 mn)).drew := (hBw.setCell HBI.out _).drew
            go_wp2
            go_roundw
            case rel => exact ⟨j + 1, by omega, by go_num, hRf, hBf⟩
            case measure => simp [numOf]; omega
        · have a2 : ¬ (j : Int) < (pl : Int) := by omega
          have hje : j = L.length := by rw [← HPL.out, ← HPE.out]; omega
          have HRE : Hid (RowV wr bI 38 (N * 2) (ivF (begN L) (endZ (begN L) N L))) := by
            have := HR.out
            rw [hje, List.take_length] at this
            exact this
          clear hje
          go_wp2
          go_ret
          exact ⟨bI, rfl, HRE.out, hB'⟩
end Go.Proofs.YtkkfjfphmlcieaaGreat

namespace Go.Proofs.YtkkfjfphmlcieaaGreat
open Go.RowKit Go.Maps
theorem flat_len {α : Type} (f : Nat → List α) {n : Nat} : ∀ k, (∀ u, u < k → (f u).length ≤ n) → ((List.range k).flatMap f).length ≤ k * n
  | 0, _ => by simp
  | k + 1, h => by
    rw [List.range_succ, List.flatMap_append, List.length_append, Nat.succ_mul]
    have := flat_len f k (fun u hu => h u (by omega))
    have := h k (by omega)
    rw [show (List.flatMap f [k]) = f k by simp]
    omega
theorem allP_few (N : Nat) (p : Int → Int → Bool) (hN : N ≤ 12) : (allP N p).length ≤ 144 := by
  have h := nodup_len (allP N p) ((List.range N).flatMap fun u : Nat => (List.range N).map fun v : Nat => ((u : Int), (v : Int))) (allP_nodup N p) (fun e he => by
    obtain ⟨u, v, h1, h2, _, rfl⟩ := allP_mem.1 he
    rw [List.mem_flatMap]
    exact ⟨u, List.mem_range.2 (by omega), List.mem_map.2 ⟨v, List.mem_range.2 h2, rfl⟩⟩)
  have h2 := flat_len (fun u : Nat => (List.range N).map fun v : Nat => ((u : Int), (v : Int))) (n := N) N (fun u _ => by simp)
  have h3 : N * N ≤ 12 * 12 := Nat.mul_le_mul hN hN
  omega
theorem apart_of : ∀ L : List Pair, L.Nodup → (∀ e ∈ L, e.1 < e.2) → apartE L
  | [], _, _ => trivial
  | e :: L, hn, hr => by
    have hn' := List.nodup_cons.1 hn
    refine ⟨?_, apart_of L hn'.2 (fun f hf => hr f (by simp [hf]))⟩
    have he := hr e (by simp)
    rw [Bool.eq_false_iff]
    intro h
    unfold hasB at h
    rw [List.any_eq_true] at h
    obtain ⟨f, hf, hb⟩ := h
    have hfr := hr f (by simp [hf])
    simp at hb
    have : f = e := by
      apply Prod.ext <;> omega
    exact hn'.1 (this ▸ hf)
theorem allP_good {N : Nat} {p : Int → Int → Bool} : ∀ e ∈ allP N p, (0 ≤ e.1 ∧ e.1 < (N : Int) ∧ 0 ≤ e.2 ∧ e.2 < (N : Int)) ∧ e.1 ≠ e.2 := fun e he => by
  obtain ⟨u, v, h1, h2, _, rfl⟩ := allP_mem.1 he
  simp
  omega
theorem chk_allP {N : Nat} {p : Int → Int → Bool} (hN : N ≤ 12) : chk N (allP N p) = (0, 0) := by
  have := allP_few N p hN
  unfold chk
  rw [if_neg (by simp [many]; omega)]
  exact chkFrom_apart _ _ allP_good (fun e _ => rfl) (apart_of _ (allP_nodup N p) (fun e he => by
    obtain ⟨a, b, h1, h2, _, rfl⟩ := allP_mem.1 he
    simp
    omega))
def coE (N : Nat) (es : List Pair) : List Pair := allP N (fun u v => !hasB es u v)
theorem complS_ok {N : Nat} {es : List Pair} (hs : (chk N es).1 = 0) (hN : N ≤ 12) : complS N es = ⟨N, coE N es, 0, 0⟩ := by
  unfold complS coE
  rw [if_pos hs]
  have := allP_few N (fun u v => !hasB es u v) hN
  rw [show ((N : Int)).toNat = N by simp]
  exact buildS_ok (by omega) (by omega)
theorem hasB_iff (L : List Pair) (x y : Int) : hasB L x y = true ↔ (x, y) ∈ L ∨ (y, x) ∈ L := by
  unfold hasB
  rw [List.any_eq_true]
  constructor
  · rintro ⟨⟨a, b⟩, hf, hb⟩
    simp at hb
    rcases hb with ⟨rfl, rfl⟩ | ⟨rfl, rfl⟩
    · exact Or.inl hf
    · exact Or.inr hf
  · rintro (h | h)
    · exact ⟨_, h, by simp⟩
    · exact ⟨_, h, by simp⟩
theorem coE_co (N : Nat) (es : List Pair) : CoOf (fun a b => bothB es a b = true) (fun z => z < N) (bothB (coE N es)) := by
  intro x y
  show hasB (coE N es) x y = true ↔ (x < N ∧ y < N ∧ x ≠ y ∧ ¬ hasB es x y = true)
  rw [hasB_iff]
  unfold coE
  constructor
  · rintro (h | h)
    · obtain ⟨u, v, h1, h2, h3, e⟩ := allP_mem.1 h
      have e1 := congrArg Prod.fst e
      have e2 := congrArg Prod.snd e
      simp only at e1 e2 h3
      have e1' : x = u := by omega
      have e2' : y = v := by omega
      subst e1' e2'
      exact ⟨by omega, h2, by omega, by simpa using h3⟩
    · obtain ⟨u, v, h1, h2, h3, e⟩ := allP_mem.1 h
      have e1 := congrArg Prod.fst e
      have e2 := congrArg Prod.snd e
      simp only at e1 e2 h3
      have e1' : y = u := by omega
      have e2' : x = v := by omega
      subst e1' e2'
      exact ⟨h2, by omega, by omega, by rw [hasB_comm]; simpa using h3⟩
  · rintro ⟨hx, hy, hne, hn⟩
    have hn' : hasB es (x : Int) (y : Int) = false := by simpa using hn
    rcases Nat.lt_or_ge x y with h | h
    · exact Or.inl (allP_mem.2 ⟨x, y, h, hy, by simp [hn'], rfl⟩)
    · exact Or.inr (allP_mem.2 ⟨y, x, by omega, hx, by rw [hasB_comm]; simp [hn'], rfl⟩)
end Go.Proofs.YtkkfjfphmlcieaaGreat

namespace Go.Proofs.YtkkfjfphmlcieaaGreat
set_option maxRecDepth 8000
open Go.RowKit Go.Maps
attribute [local go_sem ↓] Go.wp_at_zero Go.wp_at_succ
/-- Why there are no intervals. -/
def NoInt (N : Nat) (es : List Pair) : Prop := (∃ h, IsHole N (bothB es) h) ∨ ((∃ O, IsOrd N (bothB es) O) ∧ ¬ Good (bothB (coE N es)))
/-- The intervals at a block. -/
def IvsAt (N : Nat) (es : List Pair) (b : Nat) (w : World) : Prop := ∃ L : List (Nat × Nat), RowV w b 38 (N * 2) (ivF (begN L) (endZ (begN L) N L)) ∧ Dir (bothB (coE N es)) (fun x y => (x, y) ∈ L) ∧ L.Nodup ∧ ∃ O, IsOrd N (bothB es) O
/-- What Intervals answers. -/
def IntR (N : Nat) (es : List Pair) (f9 : Int) (lo : Option Addr) (ln lc : Nat) (w : World) : Prop :=
  (f9 = 9 ∧ lo = none ∧ ln = 0 ∧ lc = 0 ∧ NoInt N es) ∨ (f9 = 0 ∧ ln = N ∧ lc = N ∧ ∃ b, lo = some ⟨b, 0, none⟩ ∧ IvsAt N es b w)
theorem IvsAt.below {N : Nat} {es : List Pair} {b : Nat} {w w' : World} (h : IvsAt N es b w) (hb : Below w.heap.size w w') : IvsAt N es b w' := by
  obtain ⟨L, h1, h2⟩ := h
  exact ⟨L, h1.block (hb.block b h1.lt), h2⟩
theorem IntR.below {N : Nat} {es : List Pair} {f9 : Int} {lo : Option Addr} {ln lc : Nat} {w w' : World} (h : IntR N es f9 lo ln lc w) (hb : Below w.heap.size w w') : IntR N es f9 lo ln lc w' := by
  rcases h with h | ⟨h0, h1, h2, b, h3, h4⟩
  · exact Or.inl h
  · exact Or.inr ⟨h0, h1, h2, b, h3, h4.below hb⟩
def OrdOr (N : Nat) (es : List Pair) (pl : Nat) : Prop := (pl = 0 ∧ ∃ O, IsOrd N (bothB es) O) ∨ (0 < pl ∧ ∃ h, IsHole N (bothB es) h)
theorem order_as {w : World} {N : Nat} {vo : Option Addr} {vc : Nat} {es : List Pair} (hE : EdgesAt w (.slice vo es.length vc) es) (hs : (chk N es).1 = 0) :
    Calls Tryz.prog 21 #[.agg #[.int .i64 (N : Int), .slice vo es.length vc]] w fun e w' => ∃ (oo : Option Addr) (ol oc : Nat) (po : Option Addr) (pl pc : Nat), e = .returned (.tuple #[.slice oo ol oc, .slice po pl pc, .agg #[.int .i64 0, .int .i64 0]]) ∧ OrdOr N es pl ∧ Below w.heap.size w w' := by
  refine (order_ok hE hs).mono ?_
  rintro e w' ⟨⟨O, oo, oc, rfl, _, ho⟩ | ⟨h, po, pc, rfl, _, hh⟩, hb⟩
  · exact ⟨_, _, _, _, _, _, rfl, Or.inl ⟨rfl, O, ho⟩, hb⟩
  · exact ⟨_, _, _, _, _, _, rfl, Or.inr ⟨by have := hh.len; omega, h, hh⟩, hb⟩
theorem compl_as {w : World} {N : Nat} {v : Value} {es : List Pair} (hE : EdgesAt w v es) (hs : (chk N es).1 = 0) (hN : N ≤ 12) :
    Calls Tryz.prog 22 #[.agg #[.int .i64 (N : Int), v]] w fun e w' => Below w.heap.size w w' ∧ ∃ ao cap, e = .returned (.tuple #[.agg #[.int .i64 (N : Int), .slice ao (coE N es).length cap], .agg #[.int .i64 0, .int .i64 0]]) ∧ EdgesAt w' (.slice ao (coE N es).length cap) (coE N es) := by
  have h := compl_tells (N : Int) v es w hE
  rw [complS_ok hs hN] at h
  refine Calls.mono h ?_
  rintro e w' ⟨h1, ao, cap, rfl, h2, _⟩
  exact ⟨h1, ao, cap, rfl, h2⟩
set_option maxHeartbeats 4000000 in
theorem intervals_ok {w : World} {N : Nat} {vo : Option Addr} {vc : Nat} {es : List Pair} (hE : EdgesAt w (.slice vo es.length vc) es) (hs : (chk N es).1 = 0) (hN : N ≤ 12) :
    Calls Tryz.prog 7 #[.agg #[.int .i64 (N : Int), .slice vo es.length vc]] w fun e w' => ∃ (f9 : Int) (lo : Option Addr) (ln lc : Nat), e = .returned (.tuple #[.slice lo ln lc, .agg #[.int .i64 f9, .int .i64 0]]) ∧ IntR N es f9 lo ln lc w' ∧ Below w.heap.size w w' := by
  have HE : Hid (EdgesAt w (.slice vo es.length vc) es) := hE
  have HCHK : Hid ((chk N es).1 = 0) := hs
  have HS : Hid (smallF (N : Int) es 12 = (0, 0)) := by
    show smallF (N : Int) es 12 = (0, 0)
    unfold smallF
    rw [if_neg (fun h => h hs), if_neg (by omega)]
  obtain ⟨ces, hces⟩ : ∃ ces, ces = coE N es := ⟨_, rfl⟩
  have HCES : Hid (ces = coE N es) := hces
  have H22 : Hid (∀ W, Below w.heap.size w W → Calls Tryz.prog 22 #[.agg #[.int .i64 (N : Int), .slice vo es.length vc]] W fun e w' => Below W.heap.size W w' ∧ ∃ ao cap, e = .returned (.tuple #[.agg #[.int .i64 (N : Int), .slice ao ces.length cap], .agg #[.int .i64 0, .int .i64 0]]) ∧ EdgesAt w' (.slice ao ces.length cap) ces) := fun W hW => by
    rw [hces]; exact compl_as (hE.below hW) hs hN
  have hcl : ces.length ≤ 144 := by rw [hces]; exact allP_few N _ hN
  have HCG : Hid (∀ e ∈ ces, (0 ≤ e.1 ∧ e.1 < (N : Int) ∧ 0 ≤ e.2 ∧ e.2 < (N : Int)) ∧ e.1 ≠ e.2) := by
    rw [hces]; exact allP_good
  have H15 : Hid (∀ (W : World) (ao : Option Addr) (cap : Nat), EdgesAt W (.slice ao ces.length cap) ces → Calls Tryz.prog 15 #[.agg #[.int .i64 (N : Int), .slice ao ces.length cap]] W fun e w' => ∃ (f9 : Int) (lo : Option Addr) (ln lc : Nat), e = .returned (.tuple #[.slice lo ln lc, .agg #[.int .i64 f9, .int .i64 0]]) ∧ OrdsR ces f9 lo ln lc w' ∧ Below W.heap.size W w') := fun W ao cap hE =>
    ordsR_of (N := N) (by omega) (by omega) HCG.out (orders_ok hE (by rw [hces, show coE N es = allP N _ from rfl, chk_allP hN]))
  have HLT : Hid (∀ L : List (Nat × Nat), Dir (bothB ces) (fun x y => (x, y) ∈ L) → L.Nodup → (∀ p ∈ L, p.1 < N ∧ p.2 < N) ∧ L.length ≤ 144) := fun L hd hnd => by
    refine ⟨fun p hp => bothB_lt HCG.out (hd.edge p.1 p.2 hp), ?_⟩
    have h1 := hd.len HCG.out hnd
    have h2 := allP_few N (hasB ces) hN
    rw [toP_len] at h1
    omega
  clear hE hs hces
  go_enter Tryz.func7, Tryz.ntmps7
  go_upto_region 1 with (fail)
  have t1 := two_alloc (two_new w (.int .i64 (N : Int)) (.slice vo es.length vc) 24) (Obj.cells #[.int .i64 0, .int .i64 0] 27)
  have t4 := two_nxt w (Obj.cells #[.int .i64 (N : Int), .slice vo es.length vc] 24) (.int .i64 0) (.int .i64 0) 27
  have hB0 := below_alloc (below_alloc (Below.refl _ w) (Obj.cells #[.int .i64 (N : Int), .slice vo es.length vc] 24)) (Obj.cells #[.int .i64 0, .int .i64 0] 27)
  obtain ⟨b1, hb1⟩ : ∃ b, b = w.heap.size := ⟨_, rfl⟩
  obtain ⟨b4, hb4⟩ : ∃ b, b = w.heap.size + 1 := ⟨_, rfl⟩
  have HB4 : Hid (w.heap.size ≤ b4) := by show w.heap.size ≤ b4; omega
  rw [← hb4] at t4 ⊢
  rw [← hb1] at t1 ⊢
  generalize (w.alloc (Obj.cells #[.int .i64 (N : Int), .slice vo es.length vc] 24)).alloc (Obj.cells #[.int .i64 0, .int .i64 0] 27) = W0 at t1 t4 hB0 ⊢
  clear hb1 hb4
  obtain ⟨q0, q1⟩ := cell_two t1
  have H27 : Hid (Calls Tryz.prog 20 #[.agg #[.int .i64 (N : Int), .slice vo es.length vc], .int .i64 12] W0 fun e w' => e = .returned (.agg #[.int .i64 0, .int .i64 0]) ∧ Below W0.heap.size W0 w') := by
    have := small_call (n := (N : Int)) (vc := vc) (HE.out.below hB0) 12
    rw [HS.out] at this
    exact this
  go_upto_region 2 with (first | (go_at_call 20; refine Calls.mono H27.out ?_; rintro e W1 ⟨rfl, hb1⟩) | go_in)
  have hb1a := below_alloc hb1 (Obj.cells #[.int .i64 0, .int .i64 0] 27)
  have t5 := two_new W1 (.int .i64 0) (.int .i64 0) 27
  obtain ⟨b5, hb5⟩ : ∃ b, b = W1.heap.size := ⟨_, rfl⟩
  rw [← hb5] at t5 ⊢
  generalize W1.alloc (Obj.cells #[.int .i64 0, .int .i64 0] 27) = W2 at t5 hb1a ⊢
  have HT1 : Hid (Two W2 b1 (.int .i64 (N : Int)) (.slice vo es.length vc) 24) := two_next t1 hb1a
  have HT4 : Hid (Two W2 b4 (.int .i64 0) (.int .i64 0) 27) := two_next t4 hb1a
  have HBW : Hid (Below w.heap.size w W2) := below_next hB0 hb1a
  obtain ⟨q2, q3⟩ := cell_two t5
  clear q0 q1 H27 hb1 hb1a hb5 t5 t1 t4 hB0
  obtain ⟨q0, q1⟩ := cell_two HT1.out
  have H21 : Hid (Calls Tryz.prog 21 #[.agg #[.int .i64 (N : Int), .slice vo es.length vc]] W2 fun e w' => ∃ (oo : Option Addr) (ol oc : Nat) (po : Option Addr) (pl pc : Nat), e = .returned (.tuple #[.slice oo ol oc, .slice po pl pc, .agg #[.int .i64 0, .int .i64 0]]) ∧ OrdOr N es pl ∧ Below W2.heap.size W2 w') := order_as (HE.out.below HBW.out) HCHK.out
  go_upto_region 5 with (first | (go_at_call 21; refine Calls.mono H21.out ?_; rintro e W3 ⟨oo, ol, oc, po, pl, pc, rfl, hoo, hb3⟩) | go_in)
  have HOO : Hid (OrdOr N es pl) := hoo
  have hb3a := below_alloc hb3 (Obj.cells #[.int .i64 0, .int .i64 0] 27)
  have HB3 : Hid (Below W2.heap.size W2 (W3.alloc (Obj.cells #[.int .i64 0, .int .i64 0] 27))) := hb3a
  clear hoo q0 q1 q2 q3 H21 hb3 hb3a
  generalize W3.heap.size = b7
  generalize W3.alloc (Obj.cells #[.int .i64 0, .int .i64 0] 27) = W4 at HB3 ⊢
  have t14 := two_next HT1.out HB3.out
  have t44 := two_next HT4.out HB3.out
  have hBW4 := below_next HBW.out HB3.out
  have HT14 : Hid (Two W4 b1 (.int .i64 (N : Int)) (.slice vo es.length vc) 24) := t14
  have HT44 : Hid (Two W4 b4 (.int .i64 0) (.int .i64 0) 27) := t44
  clear HT1 HT4 HBW HB3 t14
  rcases HOO.out with ⟨rfl, hord⟩ | ⟨hpl, hhole⟩
  · have HORD : Hid (∃ O, IsOrd N (bothB es) O) := hord
    clear hord HOO t44
    obtain ⟨q0, q1⟩ := cell_two HT14.out
    have h22 := H22.out W4 hBW4
    go_upto_region 8 with (first | (go_at_call 22; refine Calls.mono h22 ?_; rintro e W5 ⟨hb5, ao5, cap5, rfl, hE5⟩) | go_in)
    have t8 := two_alloc (two_new W5 (.int .i64 (N : Int)) (.slice ao5 ces.length cap5) 24) (Obj.cells #[.int .i64 0, .int .i64 0] 27)
    have hB6 := below_alloc (below_alloc (Below.refl _ W5) (Obj.cells #[.int .i64 (N : Int), .slice ao5 ces.length cap5] 24)) (Obj.cells #[.int .i64 0, .int .i64 0] 27)
    obtain ⟨b8, hb8⟩ : ∃ b, b = W5.heap.size := ⟨_, rfl⟩
    obtain ⟨b9, hb9⟩ : ∃ b, b = W5.heap.size + 1 := ⟨_, rfl⟩
    rw [← hb9]
    rw [← hb8] at t8 ⊢
    generalize (W5.alloc (Obj.cells #[.int .i64 (N : Int), .slice ao5 ces.length cap5] 24)).alloc (Obj.cells #[.int .i64 0, .int .i64 0] 27) = W6 at t8 hB6 ⊢
    have HE6 : Hid (EdgesAt W6 (.slice ao5 ces.length cap5) ces) := hE5.below hB6
    have hb46 := below_next hb5 hB6
    have HT16 : Hid (Two W6 b1 (.int .i64 (N : Int)) (.slice vo es.length vc) 24) := two_next HT14.out hb46
    have HT46 : Hid (Two W6 b4 (.int .i64 0) (.int .i64 0) 27) := two_next HT44.out hb46
    have hBW6 := below_next hBW4 hb46
    clear q0 q1 h22 hE5 hB6 hb46 hb5 hb8 hb9 HT14 HT44 hBW4
    obtain ⟨q0, q1⟩ := cell_two t8
    have h15 := H15.out W6 _ _ HE6.out
    clear t8
    go_upto_region 9 with (first | (go_at_call 15; refine Calls.mono h15 ?_; rintro e W7 ⟨f9, lo, ln, lc, rfl, hor, hb7⟩) | go_in)
    have t11 := two_new W7 (.int .i64 f9) (.int .i64 0) 27
    have hb7a := below_alloc hb7 (Obj.cells #[.int .i64 f9, .int .i64 0] 27)
    have HOR : Hid (OrdsR ces f9 lo ln lc (W7.alloc (Obj.cells #[.int .i64 f9, .int .i64 0] 27))) := hor.below (below_alloc (Below.refl _ W7) _)
    obtain ⟨b11, hb11⟩ : ∃ b, b = W7.heap.size := ⟨_, rfl⟩
    rw [← hb11] at t11 ⊢
    generalize W7.alloc (Obj.cells #[.int .i64 f9, .int .i64 0] 27) = W8 at t11 hb7a HOR ⊢
    have t18 := two_next HT16.out hb7a
    have t48 := two_next HT46.out hb7a
    have HT48 : Hid (Two W8 b4 (.int .i64 0) (.int .i64 0) 27) := t48
    have hBW8 := below_next hBW6 hb7a
    clear q0 q1 h15 hor hb7 hb7a hb11 HT16 HT46 hBW6
    obtain ⟨q0, q1⟩ := cell_two t11
    obtain ⟨q4, q5⟩ := cell_two t18
    clear t11 t18
    rcases HOR.out with ⟨rfl, rfl, rfl, rfl, hng⟩ | ⟨rfl, L, rfl, hnl, hEL, hd, hnd, _⟩
    · have HNO : Hid (NoInt N es) := Or.inr ⟨HORD.out, by rw [← HCES.out]; exact hng⟩
      clear hng HOR q4 q5
      obtain ⟨q2, q3⟩ := cell_two t48
      have f0 := free_two t48
      go_upto_region 10 with (fail)
      go_region
      all_goals
        go_wp2
        obtain ⟨s0, s1⟩ := cell_two (two_setN (x' := .int .i64 9) (y' := .int .i64 0) HT48.out)
        have hBf := ((hBW8.setCell (p := ⟨b4, 0, none⟩) HB4.out (.int .i64 9)).setCell (p := ⟨b4, 1, none⟩) HB4.out (.int .i64 0)).drew
        refine bodyPost_ret (v := .tuple #[.slice none 0 0, .agg #[.int .i64 9, .int .i64 0]]) ?_ rfl ⟨9, none, 0, 0, rfl, Or.inl ⟨rfl, rfl, rfl, rfl, HNO.out⟩, hBf⟩
        simp [results, Tryz.results7, go_sem, s0, s1]
    · obtain ⟨hlt, hll⟩ := HLT.out L hd hnd
      have HD : Hid (Dir (bothB (coE N es)) (fun x y => (x, y) ∈ L) ∧ L.Nodup) := ⟨by rw [← HCES.out]; exact hd, hnd⟩
      have H23 : Hid (Calls Tryz.prog 23 #[.int .i64 (N : Int), .slice lo (toP L).length lc] W8 fun e w' => ∃ b, e = .returned (.slice (some ⟨b, 0, none⟩) N N) ∧ RowV w' b 38 (N * 2) (ivF (begN L) (endZ (begN L) N L)) ∧ Below W8.heap.size W8 w') := layOut_call (by omega) hEL hlt (by omega)
      obtain ⟨PL, hPL⟩ : ∃ PL, PL = toP L := ⟨_, rfl⟩
      rw [← hPL] at H23 ⊢
      clear hPL hd hnd hlt hll hEL hnl HOR t48
      go_wp2_with (first | (go_at_call 23; refine Calls.mono H23.out ?_; rintro e W9 ⟨bR, rfl, hR, hb9⟩; have t49 := two_next HT48.out hb9; obtain ⟨z0, z1⟩ := cell_two t49; have f0 := free_two t49 0; have f1 := free_two t49 1; have y0 : (W9.setCell ⟨b4, 0, none⟩ (.int .i64 0)).cell? ⟨b4, 1, none⟩ = some (.int .i64 0) := box_cell (box_set t49 0 (.int .i64 0)) rfl; have y1 : (W9.setCell ⟨b4, 0, none⟩ (.int .i64 0)).frozen? ⟨b4, 1, none⟩ = false := box_free (box_set t49 0 (.int .i64 0)) 1) | go_in)
      have tz := two_setN t49 (x' := .int .i64 0) (y' := .int .i64 0)
      obtain ⟨x0, x1⟩ := cell_two tz
      have hne : bR ≠ b4 := fun e => by
        subst e
        obtain ⟨cur, h1, h2, _⟩ := hR
        have h3 : W9.heap[bR]? = some (.cells #[.int .i64 0, .int .i64 0] 27 (0, 0)) := t49
        rw [h3] at h1
        cases h1
      have hR' : RowV ((W9.setCell ⟨b4, 0, none⟩ (.int .i64 0)).setCell ⟨b4, 1, none⟩ (.int .i64 0)) bR 38 (N * 2) (ivF (begN L) (endZ (begN L) N L)) := hR.turns ((setCell_turns W9 b4 0 _).trans (setCell_turns _ b4 1 _)) hne
      refine bodyPost_ret (v := .tuple #[.slice (some ⟨bR, 0, none⟩) N N, .agg #[.int .i64 0, .int .i64 0]]) ?_ rfl ⟨0, _, N, N, rfl, Or.inr ⟨rfl, rfl, rfl, bR, rfl, L, hR', HD.out.1, HD.out.2, HORD.out⟩, ((below_next hBW8 hb9).setCell HB4.out _).setCell HB4.out _⟩
      simp [results, Tryz.results7, go_sem, x0, x1]
  · have k1 : (0 : Int) < (pl : Int) := by omega
    have HNO : Hid (NoInt N es) := Or.inl hhole
    clear hhole HOO
    obtain ⟨z0, z1⟩ := cell_two t44
    have f0 := free_two t44 0
    have f1 := free_two t44 1
    have y0 : (W4.setCell ⟨b4, 0, none⟩ (.int .i64 9)).cell? ⟨b4, 1, none⟩ = some (.int .i64 0) := box_cell (box_set t44 0 (.int .i64 9)) rfl
    have y1 : (W4.setCell ⟨b4, 0, none⟩ (.int .i64 9)).frozen? ⟨b4, 1, none⟩ = false := box_free (box_set t44 0 (.int .i64 9)) 1
    obtain ⟨x0, x1⟩ := cell_two (two_setN t44 (x' := .int .i64 9) (y' := .int .i64 0))
    go_wp2
    refine bodyPost_ret (v := .tuple #[.slice none 0 0, .agg #[.int .i64 9, .int .i64 0]]) ?_ rfl ⟨9, none, 0, 0, rfl, Or.inl ⟨rfl, rfl, rfl, rfl, HNO.out⟩, (hBW4.setCell HB4.out _).setCell HB4.out _⟩
    simp [results, Tryz.results7, go_sem, *]
set_option maxHeartbeats 2000000 in
theorem intervals_bad {w : World} {n : Int} {vo : Option Addr} {vc : Nat} {es : List Pair} (hE : EdgesAt w (.slice vo es.length vc) es) {c d : Int} (hs : smallF n es 12 = (c, d)) (hc : c ≠ 0) :
    Calls Tryz.prog 7 #[.agg #[.int .i64 n, .slice vo es.length vc]] w fun e w' => e = .returned (.tuple #[.slice none 0 0, .agg #[.int .i64 c, .int .i64 d]]) ∧ Below w.heap.size w w' := by
  have HE : Hid (EdgesAt w (.slice vo es.length vc) es) := hE
  have HS : Hid (smallF n es 12 = (c, d)) := hs
  have kc : (c != 0) = true := by simp [hc]
  clear hE hs hc
  go_enter Tryz.func7, Tryz.ntmps7
  go_upto_region 1 with (fail)
  have t1 := two_alloc (two_new w (.int .i64 n) (.slice vo es.length vc) 24) (Obj.cells #[.int .i64 0, .int .i64 0] 27)
  have t4 := two_nxt w (Obj.cells #[.int .i64 n, .slice vo es.length vc] 24) (.int .i64 0) (.int .i64 0) 27
  have hB0 := below_alloc (below_alloc (Below.refl _ w) (Obj.cells #[.int .i64 n, .slice vo es.length vc] 24)) (Obj.cells #[.int .i64 0, .int .i64 0] 27)
  obtain ⟨b1, hb1⟩ : ∃ b, b = w.heap.size := ⟨_, rfl⟩
  obtain ⟨b4, hb4⟩ : ∃ b, b = w.heap.size + 1 := ⟨_, rfl⟩
  have HB4 : Hid (w.heap.size ≤ b4) := by show w.heap.size ≤ b4; omega
  rw [← hb4] at t4 ⊢
  rw [← hb1] at t1 ⊢
  generalize (w.alloc (Obj.cells #[.int .i64 n, .slice vo es.length vc] 24)).alloc (Obj.cells #[.int .i64 0, .int .i64 0] 27) = W0 at t1 t4 hB0 ⊢
  clear hb1 hb4
  obtain ⟨q0, q1⟩ := cell_two t1
  have H27 : Hid (Calls Tryz.prog 20 #[.agg #[.int .i64 n, .slice vo es.length vc], .int .i64 12] W0 fun e w' => e = .returned (.agg #[.int .i64 c, .int .i64 d]) ∧ Below W0.heap.size W0 w') := by
    have := small_call (n := n) (vc := vc) (HE.out.below hB0) 12
    rw [HS.out] at this
    exact this
  go_upto_region 2 with (first | (go_at_call 20; refine Calls.mono H27.out ?_; rintro e W1 ⟨rfl, hb1⟩) | go_in)
  have hb1a := below_alloc hb1 (Obj.cells #[.int .i64 c, .int .i64 d] 27)
  have t5 := two_new W1 (.int .i64 c) (.int .i64 d) 27
  obtain ⟨b5, hb5⟩ : ∃ b, b = W1.heap.size := ⟨_, rfl⟩
  rw [← hb5] at t5 ⊢
  generalize W1.alloc (Obj.cells #[.int .i64 c, .int .i64 d] 27) = W2 at t5 hb1a ⊢
  have t4' := two_next t4 hb1a
  have hBW := below_next hB0 hb1a
  clear q0 q1 H27 hb1 hb1a hb5 t1 t4 hB0
  obtain ⟨q0, q1⟩ := cell_two t5
  obtain ⟨q2, q3⟩ := cell_two t4'
  have f0 := free_two t4'
  go_upto_region 3 with (fail)
  go_region
  all_goals
    go_wp2
    obtain ⟨s0, s1⟩ := cell_two (two_setN (x' := .int .i64 c) (y' := .int .i64 d) t4')
    have hBf := ((hBW.setCell (p := ⟨b4, 0, none⟩) HB4.out (.int .i64 c)).setCell (p := ⟨b4, 1, none⟩) HB4.out (.int .i64 d)).drew
    refine bodyPost_ret (v := .tuple #[.slice none 0 0, .agg #[.int .i64 c, .int .i64 d]]) ?_ rfl ⟨rfl, hBf⟩
    simp [results, Tryz.results7, go_sem, s0, s1]
end Go.Proofs.YtkkfjfphmlcieaaGreat
