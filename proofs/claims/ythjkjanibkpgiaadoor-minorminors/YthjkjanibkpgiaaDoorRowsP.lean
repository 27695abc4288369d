/- Lists of numbers that came in: copied, held against each other, looked through. -/
import Derived.Test.YthjkjanibkpgiaaDoorKitC
import Derived.Deep.Strs
namespace Go.Proofs.YthjkjanibkpgiaaDoor
set_option maxRecDepth 8000
open Go.RowKit Go.Maps
attribute [local go_sem ↓] Go.wp_at_zero Go.wp_at_succ
def RowsAt (w : World) (v : Value) (ls : List (List Int)) : Prop :=
  ∃ ao cap, v = .slice ao ls.length cap ∧ ls.length ≤ cap ∧ ls.length ≤ 5864062014805 ∧ ∀ i (h : i < ls.length), ∃ b off x, ao = some ⟨b, off, none⟩ ∧ w.cell? ⟨b, off + i, none⟩ = some x ∧ IntsAt w x ls[i]
theorem RowsAt.below {w w' : World} {v : Value} {ls : List (List Int)} (h : RowsAt w v ls) (hb : Below w.heap.size w w') : RowsAt w' v ls := by
  obtain ⟨ao, cap, h1, h2, h3, h4⟩ := h
  refine ⟨ao, cap, h1, h2, h3, fun i hi => ?_⟩
  obtain ⟨b, off, x, e, hc, hx⟩ := h4 i hi
  exact ⟨b, off, x, e, (hb.cell (World.block_lt_of_cell? w _ hc)).trans hc, hx.below hb⟩
theorem drewN_add (w : World) (a b : Nat) : (w.drewN a).drewN b = w.drewN (a + b) := World.drewN_drewN w a b
theorem cell_drewN {w : World} {a : Addr} {x : Value} (h : w.cell? a = some x) (m : Nat) : (w.drewN m).cell? a = some x := h

set_option maxHeartbeats 400000 in
theorem ints_trueN (va vb : Value) (l : List Int) (w : World) (hA : IntsAt w va l) (hB : IntsAt w vb l) :
    Calls Tryd.prog 15 #[va, vb] w fun e w' => e = .returned (.bool true) ∧ ∃ m, w' = w.drewN m := by
  obtain ⟨ao, cap, rfl, hl2, hI, hcells⟩ := hA
  obtain ⟨bo, bcap, rfl, _, _, hcells2⟩ := hB
  clear hI
  have hll : ((l.length : Int) != (l.length : Int)) = false := by simp
  go_enter Tryd.func15, Tryd.ntmps15
  go_wp2
  go_loopw [5] (fun i wr => ∃ k : Nat, k ≤ l.length ∧ i = .int .i64 k ∧ ∃ m, wr = w.drewN m) (fun i _ => l.length - (numOf i).toNat)
  case atStart => exact ⟨0, Nat.zero_le _, rfl, 0, rfl⟩
  case round =>
    obtain ⟨k, hk, rfl, m0, hm0⟩ := hrel
    have HM : Hid (wr = w.drewN m0) := hm0
    by_cases hlt : k < l.length
    · obtain ⟨b, off, rfl, cx⟩ := hcells k hlt
      obtain ⟨b', off', rfl, cx'⟩ := hcells2 k hlt
      have cx1 : wr.cell? ⟨b, off + k, none⟩ = some (.int .i64 l[k]) := by rw [hm0]; exact cx
      have cx2 : wr.cell? ⟨b', off' + k, none⟩ = some (.int .i64 l[k]) := by rw [hm0]; exact cx'
      generalize l[k] = x at cx1 cx2
      have hne : (x != x) = false := by simp
      clear hcells hcells2 hm0 cx cx'
      have hk1 : (0 : Int) ≤ (k : Int) := by omega
      have hk2 : (k : Int) < (l.length : Int) := by omega
      go_wp2
      go_quiet (fail)
      go_wp2
      go_roundw
      case rel => exact ⟨k + 1, by omega, by go_num, m0 + nq, by rw [HM.out, drewN_add]⟩
      case measure => simp [numOf]; omega
    · have hke : k = l.length := by omega
      subst hke
      clear hm0
      go_wp2
      go_ret
      exact ⟨rfl, m0, HM.out⟩

def NumF (w : World) (vo : Option Addr) (n : Nat) (f : Nat → Int) : Prop := ∀ j, j < n → ∃ b off, vo = some ⟨b, off, none⟩ ∧ w.cell? ⟨b, off + j, none⟩ = some (.int .i64 (f j))
theorem ints_news {w : World} {ad : Addr} {n cap : Nat} {l : List Int} (h : IntsAt w (.slice (some ad) n cap) l) : ∀ j u, (l.map (Value.int .i64))[j]? = some u → w.cell? (ad.add j) = some u := by
  obtain ⟨ao', cap', e, _, _, hc⟩ := h
  cases e
  intro j u hj
  rw [List.getElem?_map] at hj
  have hjl : j < l.length := by
    by_cases h : j < l.length
    · exact h
    · rw [List.getElem?_eq_none (by omega)] at hj; simp at hj
  rw [List.getElem?_eq_getElem hjl] at hj
  simp at hj
  subst hj
  obtain ⟨b, off, e, c⟩ := hc j hjl
  cases e
  rw [show (⟨b, off, none⟩ : Addr).add j = ⟨b, off + j, none⟩ from by unfold Addr.add; split <;> simp_all]
  exact c
/-- A slice of slices of numbers, all of its own. -/
def OwnL (w : World) (base : Nat) (v : Value) (ls : List (List Int)) : Prop :=
  ∃ vs : List Value, vs.length = ls.length ∧ w.ownsRow base 39 1 v ls.length vs ∧ ∀ (i : Nat) (x : Value) (l : List Int), vs[i]? = some x → ls[i]? = some l → w.ownsRow base 3 1 x l.length (l.map (Value.int .i64))
theorem ownL_nil (w : World) (base : Nat) : OwnL w base (.slice none 0 0) [] := ⟨[], rfl, World.ownsRow_nil _ _ _ _, fun i x l h => by simp at h⟩
theorem OwnL.push {w w1 : World} {base : Nat} {v v' : Value} {ls : List (List Int)} {x : Value} {l : List Int} {o : Obj} (hx : w.ownsRow base 3 1 x l.length (l.map (Value.int .i64))) {vs : List Value} (hvs : vs.length = ls.length) (hrow : w.ownsRow base 39 1 v ls.length vs)
    (hel : ∀ (i : Nat) (x : Value) (l : List Int), vs[i]? = some x → ls[i]? = some l → w.ownsRow base 3 1 x l.length (l.map (Value.int .i64))) (hown : w1.ownsRow base 39 1 v' (ls.length + 1) (vs ++ [x])) (hg : (w.alloc o).grownBy w1 v.ownBlock) : OwnL w1 base v' (ls ++ [l]) := by
  have T := (alloc_turns w o (fun k => some k = v.ownBlock)).trans (Turns.of_grown hg)
  have key : ∀ {x : Value} {n : Nat} {xs : List Value}, w.ownsRow base 3 1 x n xs → w1.ownsRow base 3 1 x n xs := by
    intro x n xs ho
    refine ownsRow_blocks ho fun b hb => T.block b (ho.lt b hb).2 fun hmb => ?_
    obtain ⟨c1, h1⟩ := own_cells ho hb
    obtain ⟨c2, h2⟩ := own_cells hrow hmb.symm
    rw [h1] at h2; simp at h2
  refine ⟨vs ++ [x], by simp [hvs], by simpa using hown, fun i y m hy hm => ?_⟩
  by_cases hi : i < ls.length
  · rw [List.getElem?_append_left (by omega)] at hy hm
    exact key (hel i y m hy hm)
  · rw [List.getElem?_append_right (by omega)] at hy hm
    by_cases h0 : i - ls.length = 0
    · rw [hvs, h0] at hy; rw [h0] at hm
      simp at hy hm
      subst hy; subst hm
      exact key hx
    · rw [List.getElem?_eq_none (by simp; omega)] at hm; cases hm
theorem OwnL.rows {w : World} {base : Nat} {v : Value} {ls : List (List Int)} (h : OwnL w base v ls) (hl : ls.length ≤ 5864062014805) (hI : ∀ l ∈ ls, (∀ x ∈ l, I64 x) ∧ l.length ≤ 17592186044416) : RowsAt w v ls := by
  obtain ⟨vs, h1, h2, h3⟩ := h
  rcases h2.2 with ⟨rfl, e⟩ | ⟨g, cap, cur, rfl, _, _, hc, _⟩
  · exact ⟨none, 0, by rw [e], by omega, hl, fun i hi => by omega⟩
  · refine ⟨_, cap, rfl, hc, hl, fun i hi => ?_⟩
    obtain ⟨x, hx⟩ : ∃ x, vs[i]? = some x := ⟨vs[i]'(by omega), List.getElem?_eq_getElem (by omega)⟩
    have hmem := hI ls[i] (List.getElem_mem hi)
    refine ⟨g, 0, x, rfl, ?_, intsAt_row (h3 i x ls[i] hx (List.getElem?_eq_getElem hi)) hmem.1 hmem.2⟩
    have := h2.cells (g := g) rfl i _ hx
    rw [add_none] at this
    simpa using this

theorem one_cells (w : World) (x : Value) (t : TypeId) : ∀ j u, [x][j]? = some u → (w.alloc (Obj.cells #[x] t)).cell? ((⟨w.heap.size, 0, none⟩ : Addr).add j) = some u := fun j u h => by
  have hj : j = 0 := by
    have := (List.getElem?_eq_some_iff.1 h).1
    simp at this; exact this
  subst hj
  simp at h
  subst h
  rw [add_none]
  exact one_cell w x t
end Go.Proofs.YthjkjanibkpgiaaDoor
namespace Go.Proofs.YthjkjanibkpgiaaDoor
open Go.ChangeShapes Go.WideShapes Go.ChangeAt Go.RowKit Go.Joins Go.Deep
theorem Tryd.cells39 : Tryd.prog.cellsOf 39 = 1 := by kernel_rfl
theorem Tryd.bytes39 : Tryd.prog.bytesOf 39 = 24 := by kernel_rfl
theorem Tryd.bytes3 : Tryd.prog.bytesOf 3 = 8 := by kernel_rfl
theorem weights_all {H : Type} {P : Program} {e : TypeId} : ∀ {ds : List (DataW H)} {d : DataW H}, d ∈ ds → ∀ n ∈ d.weights P e, n ∈ DataW.weightsAll P e ds
  | d0 :: ds, d, hd, n, hn => by
    simp only [DataW.weightsAll, List.mem_append]
    rcases List.mem_cons.1 hd with rfl | hd
    · exact Or.inl hn
    · exact Or.inr (weights_all hd n hn)
section
variable {H : Type} {enc : TypeId × Value → H} {W : World} {sp : Nat → Bool} {held : Bool}

set_option maxRecDepth 100000 in
/-- Numbers that were read. -/
theorem open_ints {fuel : Nat} {cs : List Value} {x : DataW H × List MemPlace} (h : DataW.trod enc Tryd.prog W 0 sp held fuel 39 cs = some x) (hw : ∀ k ∈ x.1.weights Tryd.prog 39, k ≤ reachBytes) :
    ∃ v l, cs = [v] ∧ IntsAt W v l := by
  rcases open_slice1 Tryd.underlying39 Tryd.cells3 h with ⟨e1, _⟩ | ⟨a, len, cap, m, nn, V, D, Pl, e1, _, hlc, hcm, hm, hx, hel⟩
  · exact ⟨_, [], e1, intsAt_nil _⟩
  · have hml : len ≤ m := by rw [hm]; split <;> omega
    obtain ⟨X, hX⟩ := choose_lt (α := Int) (n := len) (p := fun i q => W.cell? (a.add i) = some (.int .i64 q) ∧ I64 q) (fun i hi => by
      obtain ⟨h1, h2⟩ := hel i (by omega)
      obtain ⟨q, e0, _, wq⟩ := DataW.trod_int Tryd.underlying3 h2
      simp at e0
      rw [e0] at h1
      exact ⟨q, h1, I64.of_wf wq⟩)
    have hlen : len ≤ 17592186044416 := by
      have := hw ((len + (m - len)) * Tryd.prog.bytesOf 3) (by
        rw [hx]
        simp [DataW.weights, Tryd.underlying39])
      rw [Tryd.bytes3] at this
      simp only [reachBytes] at this
      omega
    have hl : ((List.range len).map X).length = len := by simp
    refine ⟨_, (List.range len).map X, e1, some a, cap, by rw [hl], by rw [hl]; exact hlen, ?_, ?_⟩
    · intro e he
      simp at he
      obtain ⟨i, hi, rfl⟩ := he
      exact (hX i hi).2
    · intro k hk
      rw [hl] at hk
      obtain ⟨g0, _⟩ := hX k hk
      have hs := World.cell?_spot (hX 0 (by omega)).1
      obtain ⟨b, off, spot⟩ := a
      have hspot : spot = none := by simpa [Addr.add] using hs
      subst hspot
      refine ⟨b, off, rfl, ?_⟩
      have e : (⟨b, off, none⟩ : Addr).add k = ⟨b, off + k, none⟩ := by unfold Addr.add; split <;> simp_all
      rw [e] at g0
      simpa using g0

set_option maxRecDepth 100000 in
/-- Lists that came in. -/
theorem open_rows {r : Reach} {b0 : Nat} {v : Value} {d : DataW H} {p : List MemPlace} (hv : Value.okWide Tryd.prog W r b0 29 v) (h : DataW.Trod enc Tryd.prog W 0 sp held 29 v d p) (hw : ∀ k ∈ d.weights Tryd.prog 29, k ≤ reachBytes) :
    ∃ ls, RowsAt W v ls := by
  obtain ⟨a0, n0, c0, rfl⟩ := okWide_slice Tryd.underlying29 hv
  obtain ⟨fuel, hf⟩ := h
  have hf' : DataW.trod enc Tryd.prog W 0 sp held fuel 29 [.slice a0 n0 c0] = some (d, p) := hf
  rcases open_slice1 Tryd.underlying29 Tryd.cells39 hf' with ⟨e1, _⟩ | ⟨a, len, cap, m, nn, V, D, Pl, e1, _, hlc, hcm, hm, hx, hel⟩
  · simp at e1
    obtain ⟨rfl, rfl, rfl⟩ := e1
    exact ⟨[], none, 0, rfl, Nat.le_refl _, Nat.zero_le _, fun i hi => absurd hi (Nat.not_lt_zero _)⟩
  · simp at e1
    obtain ⟨rfl, rfl, rfl⟩ := e1
    have hml : n0 ≤ m := by rw [hm]; split <;> omega
    have hd : d = .slice ((List.range n0).map D) ((List.range (m - n0)).map fun j => D (n0 + j)) := congrArg Prod.fst hx
    obtain ⟨X, hX⟩ := choose_lt (α := List Int) (n := n0) (p := fun i l => W.cell? (a.add i) = some (V i) ∧ IntsAt W (V i) l) (fun i hi => by
      obtain ⟨h1, h2⟩ := hel i (by omega)
      obtain ⟨v', l, e, hl⟩ := open_ints h2 (fun k hk => hw k (by
        rw [hd]
        simp only [DataW.weights, Tryd.underlying29]
        refine List.mem_cons_of_mem _ (List.mem_append_left _ (weights_all (d := D i) ?_ k hk))
        exact List.mem_map.2 ⟨i, List.mem_range.2 hi, rfl⟩))
      simp at e
      subst e
      exact ⟨l, h1, hl⟩)
    have hlen : n0 ≤ 5864062014805 := by
      have := hw ((n0 + (m - n0)) * Tryd.prog.bytesOf 39) (by
        rw [hd]
        simp [DataW.weights, Tryd.underlying29])
      rw [Tryd.bytes39] at this
      simp only [reachBytes] at this
      omega
    have hl : ((List.range n0).map X).length = n0 := by simp
    refine ⟨(List.range n0).map X, some a, c0, by rw [hl], by rw [hl]; exact hlc, by rw [hl]; exact hlen, ?_⟩
    intro k hk
    have hk' : k < n0 := by rw [hl] at hk; exact hk
    obtain ⟨g0, g1⟩ := hX k hk'
    have hs := World.cell?_spot (hX 0 (by omega)).1
    obtain ⟨b, off, spot⟩ := a
    have hspot : spot = none := by simpa [Addr.add] using hs
    subst hspot
    have e : (⟨b, off, none⟩ : Addr).add k = ⟨b, off + k, none⟩ := by unfold Addr.add; split <;> simp_all
    rw [e] at g0
    exact ⟨b, off, V k, rfl, g0, by simpa using g1⟩
end
end Go.Proofs.YthjkjanibkpgiaaDoor
