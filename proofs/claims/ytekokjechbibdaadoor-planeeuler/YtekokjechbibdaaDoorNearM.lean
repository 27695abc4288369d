/- Sets in memory: a row of sets, a set in a box; add and drop there; setOf, nearBy, part. setOf and nearBy. nearBy: of each node the set of those near it. -/
import Derived.Test.YtekokjechbibdaaDoorSetWM
namespace Go.Proofs.YtekokjechbibdaaDoor
set_option maxRecDepth 8000
open Go.RowKit Go.Maps
attribute [local go_sem ↓] Go.wp_at_zero Go.wp_at_succ
/-- One of the two words of a set at (b, off) is written, so that the set is t. -/
def Wrote (b off s t : Nat) (w w' : World) : Prop := (w' = (w.setCell ⟨b, off, none⟩ (.int .u64 (lo64 t : Int))).drew ∧ hi64 t = hi64 s) ∨ (w' = (w.setCell ⟨b, off + 1, none⟩ (.int .u64 (hi64 t : Int))).drew ∧ lo64 t = lo64 s)
theorem Wrote.turns {b off s t : Nat} {w w' : World} (h : Wrote b off s t w w') : Turns (fun k => k = b) w w' := by
  rcases h with ⟨rfl, _⟩ | ⟨rfl, _⟩
  · have := setCell_turns w b off (.int .u64 (lo64 t : Int)); exact ⟨this.os, this.tape, this.output, this.size, this.block⟩
  · have := setCell_turns w b (off + 1) (.int .u64 (hi64 t : Int)); exact ⟨this.os, this.tape, this.output, this.size, this.block⟩
/-- The block behind it: two of its cells are the set's words. -/
theorem Wrote.cells {b off s t : Nat} {w w' : World} (h : Wrote b off s t w w') {cur : Array Value} {ty : TypeId} (hb : w.heap[b]? = some (.cells cur ty (0, 0))) (h0 : cur[off]? = some (.int .u64 (lo64 s : Int))) (h1 : cur[off + 1]? = some (.int .u64 (hi64 s : Int))) :
    w'.heap[b]? = some (.cells ((cur.setIfInBounds off (.int .u64 (lo64 t : Int))).setIfInBounds (off + 1) (.int .u64 (hi64 t : Int))) ty (0, 0)) := by
  have hl := (Array.getElem?_eq_some_iff.1 h1).1
  rcases h with ⟨rfl, e⟩ | ⟨rfl, e⟩
  · have := box_set (w := w) (b := b) (cs := cur) (t := ty) hb off (.int .u64 (lo64 t : Int))
    refine Eq.trans this ?_
    congr 2
    refine (Array.ext_getElem? fun i => ?_)
    by_cases hi : i = off + 1
    · subst hi
      rw [Array.getElem?_setIfInBounds_ne (by omega), h1, Array.getElem?_setIfInBounds_self_of_lt (by simpa using hl), e]
    · rw [Array.getElem?_setIfInBounds_ne (i := off + 1) (by omega)]
  · have := box_set (w := w) (b := b) (cs := cur) (t := ty) hb (off + 1) (.int .u64 (hi64 t : Int))
    refine Eq.trans this ?_
    congr 2
    congr 1
    refine (Array.ext_getElem? fun i => ?_)
    by_cases hi : i = off
    · subst hi
      rw [Array.getElem?_setIfInBounds_self_of_lt (by omega), h0, e]
    · rw [Array.getElem?_setIfInBounds_ne (by omega)]
theorem add_any {w : World} {s v b off : Nat} (hs : s < 2 ^ 128) (hv : v < 128) (h0 : w.cell? ⟨b, off, none⟩ = some (.int .u64 (lo64 s : Int))) (h1 : w.cell? ⟨b, off + 1, none⟩ = some (.int .u64 (hi64 s : Int))) (f0 : ∀ i, w.frozen? ⟨b, i, none⟩ = false) :
    Calls Tryd.prog 48 #[.pointer (some ⟨b, off, none⟩), .int .i64 (v : Int)] w fun e w' => e = .returned (.tuple #[]) ∧ Wrote b off s (sAdd s v) w w' := by
  by_cases h : v < 64
  · refine Calls.mono (add_lo h h0 (f0 _)) ?_
    rintro e w' ⟨rfl, rfl⟩
    exact ⟨rfl, Or.inl ⟨rfl, (lo_add s h).2⟩⟩
  · refine Calls.mono (add_hi hs (by omega) hv h1 (f0 _)) ?_
    rintro e w' ⟨rfl, rfl⟩
    exact ⟨rfl, Or.inr ⟨rfl, (hi_add s (by omega)).1⟩⟩
theorem drop_any {w : World} {s v b off : Nat} (hs : s < 2 ^ 128) (hv : v < 128) (h0 : w.cell? ⟨b, off, none⟩ = some (.int .u64 (lo64 s : Int))) (h1 : w.cell? ⟨b, off + 1, none⟩ = some (.int .u64 (hi64 s : Int))) (f0 : ∀ i, w.frozen? ⟨b, i, none⟩ = false) :
    Calls Tryd.prog 66 #[.pointer (some ⟨b, off, none⟩), .int .i64 (v : Int)] w fun e w' => e = .returned (.tuple #[]) ∧ Wrote b off s (sDrop s v) w w' := by
  by_cases h : v < 64
  · refine Calls.mono (drop_lo h h0 (f0 _)) ?_
    rintro e w' ⟨rfl, rfl⟩
    exact ⟨rfl, Or.inl ⟨rfl, (lo_drop s h).2⟩⟩
  · refine Calls.mono (drop_hi hs (by omega) hv h1 (f0 _)) ?_
    rintro e w' ⟨rfl, rfl⟩
    exact ⟨rfl, Or.inr ⟨rfl, (hi_drop s (by omega)).1⟩⟩
/-- A set in a box of its own. -/
abbrev SBox (w : World) (b s : Nat) : Prop := Two w b (.int .u64 (lo64 s : Int)) (.int .u64 (hi64 s : Int)) 76
theorem Wrote.sbox {b s t : Nat} {w w' : World} (h : Wrote b 0 s t w w') (hb : SBox w b s) : SBox w' b t := h.cells hb rfl rfl
theorem sbox_free {w : World} {b s : Nat} (h : SBox w b s) (i : Nat) : w.frozen? ⟨b, i, none⟩ = false := box_free h i
theorem add_sbox {w : World} {s v b : Nat} (hs : s < 2 ^ 128) (hv : v < 128) (h : SBox w b s) : Calls Tryd.prog 48 #[.pointer (some ⟨b, 0, none⟩), .int .i64 (v : Int)] w fun e w' => e = .returned (.tuple #[]) ∧ SBox w' b (sAdd s v) ∧ Turns (fun k => k = b) w w' := by
  refine Calls.mono (add_any hs hv (cell_two h).1 (cell_two h).2 (sbox_free h)) ?_
  rintro e w' ⟨rfl, hw⟩
  exact ⟨rfl, hw.sbox h, hw.turns⟩
theorem drop_sbox {w : World} {s v b : Nat} (hs : s < 2 ^ 128) (hv : v < 128) (h : SBox w b s) : Calls Tryd.prog 66 #[.pointer (some ⟨b, 0, none⟩), .int .i64 (v : Int)] w fun e w' => e = .returned (.tuple #[]) ∧ SBox w' b (sDrop s v) ∧ Turns (fun k => k = b) w w' := by
  refine Calls.mono (drop_any hs hv (cell_two h).1 (cell_two h).2 (sbox_free h)) ?_
  rintro e w' ⟨rfl, hw⟩
  exact ⟨rfl, hw.sbox h, hw.turns⟩
/-- Block b is a row of sets. -/
structure SetsAt (w : World) (b : Nat) (near : List Nat) : Prop where
  row : ∃ cur, w.heap[b]? = some (.cells cur 76 (0, 0)) ∧ cur.size = near.length * 2 ∧ ∀ v s, near[v]? = some s → cur[v * 2]? = some (.int .u64 (lo64 s : Int)) ∧ cur[v * 2 + 1]? = some (.int .u64 (hi64 s : Int))
  lt : ∀ s ∈ near, s < 2 ^ 128
theorem SetsAt.block {w w' : World} {b : Nat} {near : List Nat} (h : SetsAt w b near) (hb : w'.heap[b]? = w.heap[b]?) : SetsAt w' b near := by
  obtain ⟨⟨cur, h1, h2⟩, h3⟩ := h
  exact ⟨⟨cur, hb.trans h1, h2⟩, h3⟩
theorem SetsAt.ltS {w : World} {b : Nat} {near : List Nat} (h : SetsAt w b near) : b < w.heap.size := by
  obtain ⟨⟨cur, h1, h2⟩, h3⟩ := h
  exact lt_of_block h1
theorem SetsAt.below {w w' : World} {b B : Nat} {near : List Nat} (h : SetsAt w b near) (hb : Below B w w') (hB : b < B) : SetsAt w' b near := h.block (hb.block b hB)
theorem SetsAt.under {w w' : World} {b : Nat} {near : List Nat} (h : SetsAt w b near) (hb : Below w.heap.size w w') : SetsAt w' b near := h.below hb h.ltS
theorem SetsAt.turns {w w' : World} {M : Nat → Prop} {b : Nat} {near : List Nat} (h : SetsAt w b near) (ht : Turns M w w') (hm : ¬ M b) : SetsAt w' b near := h.block (ht.block b h.ltS hm)
theorem SetsAt.cell {w : World} {b : Nat} {near : List Nat} (h : SetsAt w b near) {v s : Nat} (hv : near[v]? = some s) : w.cell? ⟨b, v * 2, none⟩ = some (.int .u64 (lo64 s : Int)) ∧ w.cell? ⟨b, v * 2 + 1, none⟩ = some (.int .u64 (hi64 s : Int)) := by
  obtain ⟨⟨cur, h1, h2, h3⟩, _⟩ := h
  rw [cell_of_row w b _ cur 76 (0, 0) h1, cell_of_row w b _ cur 76 (0, 0) h1]
  exact h3 v s hv
theorem SetsAt.free {w : World} {b : Nat} {near : List Nat} (h : SetsAt w b near) (j : Nat) : w.frozen? ⟨b, j, none⟩ = false := by
  obtain ⟨⟨cur, h1, h2, h3⟩, _⟩ := h
  simp [World.frozen?, h1]
theorem SetsAt.bound {w : World} {b : Nat} {near : List Nat} (h : SetsAt w b near) {v s : Nat} (hv : near[v]? = some s) : s < 2 ^ 128 := h.lt s (List.mem_of_getElem? hv)
theorem SetsAt.set {w w' : World} {b : Nat} {near : List Nat} (h : SetsAt w b near) {v s t : Nat} (hv : near[v]? = some s) (ht : t < 2 ^ 128) (hw : Wrote b (v * 2) s t w w') : SetsAt w' b (near.set v t) := by
  obtain ⟨⟨cur, h1, h2, h3⟩, h4⟩ := h
  obtain ⟨e0, e1⟩ := h3 v s hv
  have hvl := (List.getElem?_eq_some_iff.1 hv).1
  refine ⟨⟨_, hw.cells h1 e0 e1, by simp [h2], fun x r hx => ?_⟩, fun r hr => ?_⟩
  · rw [List.getElem?_set] at hx
    by_cases e : v = x
    · subst e
      simp [hvl] at hx
      subst hx
      refine ⟨?_, ?_⟩
      · rw [Array.getElem?_setIfInBounds_ne (by omega), Array.getElem?_setIfInBounds_self_of_lt (by omega)]
      · rw [Array.getElem?_setIfInBounds_self_of_lt (by simp; omega)]
    · rw [if_neg e] at hx
      obtain ⟨g0, g1⟩ := h3 x r hx
      refine ⟨?_, ?_⟩
      · rw [Array.getElem?_setIfInBounds_ne (by omega), Array.getElem?_setIfInBounds_ne (by omega), g0]
      · rw [Array.getElem?_setIfInBounds_ne (by omega), Array.getElem?_setIfInBounds_ne (by omega), g1]
  · rcases List.mem_or_eq_of_mem_set hr with h | h
    · exact h4 r h
    · rw [h]; exact ht
theorem add_near {w : World} {near : List Nat} {u v s b : Nat} (h : SetsAt w b near) (hu : near[u]? = some s) (hv : v < 128) : Calls Tryd.prog 48 #[.pointer (some ⟨b, u * 2, none⟩), .int .i64 (v : Int)] w fun e w' => e = .returned (.tuple #[]) ∧ SetsAt w' b (near.set u (sAdd s v)) ∧ Turns (fun k => k = b) w w' := by
  refine Calls.mono (add_any (h.bound hu) hv (h.cell hu).1 (h.cell hu).2 h.free) ?_
  rintro e w' ⟨rfl, hw⟩
  exact ⟨rfl, h.set hu (add_lt (h.bound hu) hv) hw, hw.turns⟩
theorem drop_near {w : World} {near : List Nat} {u v s b : Nat} (h : SetsAt w b near) (hu : near[u]? = some s) (hv : v < 128) : Calls Tryd.prog 66 #[.pointer (some ⟨b, u * 2, none⟩), .int .i64 (v : Int)] w fun e w' => e = .returned (.tuple #[]) ∧ SetsAt w' b (near.set u (sDrop s v)) ∧ Turns (fun k => k = b) w w' := by
  refine Calls.mono (drop_any (h.bound hu) hv (h.cell hu).1 (h.cell hu).2 h.free) ?_
  rintro e w' ⟨rfl, hw⟩
  exact ⟨rfl, h.set hu (less_lt (h.bound hu)) hw, hw.turns⟩
theorem at_some {near : List Nat} {v : Nat} (h : v < near.length) : near[v]? = some (at' near v) := by
  unfold at'
  rw [List.getD_eq_getElem?_getD, List.getElem?_eq_getElem h]; rfl
set_option maxHeartbeats 1000000 in
theorem part_call {w : World} {near : List Nat} {u v b : Nat} (h : SetsAt w b near) (hl : near.length ≤ 100) (hu : u < near.length) (hv : v < near.length) :
    Calls Tryd.prog 54 #[sl b near.length, .int .i64 (u : Int), .int .i64 (v : Int)] w fun e w' => e = .returned (.tuple #[]) ∧ SetsAt w' b (part near u v) ∧ Turns (fun k => k = b) w w' := by
  have C1 : Hid _ := drop_near h (at_some hu) (v := v) (by omega)
  have C2 : Hid (∀ w1, SetsAt w1 b (near.set u (sDrop (at' near u) v)) → Calls Tryd.prog 66 #[.pointer (some ⟨b, v * 2, none⟩), .int .i64 (u : Int)] w1 fun e w' => e = .returned (.tuple #[]) ∧ SetsAt w' b (part near u v) ∧ Turns (fun k => k = b) w1 w') := fun w1 h1 => drop_near h1 (at_some (by simp; exact hv)) (by omega)
  have i1 : (0 : Int) ≤ (u : Int) := by omega
  have i2 : (u : Int) < (near.length : Int) := by omega
  have i3 : (0 : Int) ≤ (v : Int) := by omega
  have i4 : (v : Int) < (near.length : Int) := by omega
  have HP : Hid (∃ P, P = part near u v) := ⟨_, rfl⟩
  generalize part near u v = P at *
  generalize near.set u (sDrop (at' near u) v) = N1 at *
  clear h hu hv HP
  generalize near.length = N at *
  go_enter Tryd.func54, Tryd.ntmps54
  go_upto_region 1 with (first | (go_at_call 66; refine Calls.mono C1.out ?_; rintro e w1 ⟨rfl, h1, t1⟩) | fail)
  have C2' : Hid _ := C2.out _ h1
  go_wp2_with (first | (go_at_call 66; refine Calls.mono C2'.out ?_; rintro e w2 ⟨rfl, h2, t2⟩) | go_in)
  go_end0
  exact ⟨rfl, h2, t1.trans t2⟩
end Go.Proofs.YtekokjechbibdaaDoor

namespace Go.Proofs.YtekokjechbibdaaDoor
set_option maxRecDepth 8000
open Go.RowKit Go.Maps
attribute [local go_sem ↓] Go.wp_at_zero Go.wp_at_succ
/-- The numbers l lie at (b, off) and behind. -/
def NumL (w : World) (b off : Nat) (l : List Nat) : Prop := ∀ k u : Nat, l[k]? = some u → w.cell? ⟨b, off + k, none⟩ = some (.int .i64 (u : Int))
theorem NumL.under {w w' : World} {b off B : Nat} {l : List Nat} (h : NumL w b off l) (hb : Below B w w') (hB : b < B) : NumL w' b off l := fun k u hk => (hb.cell (p := ⟨b, off + k, none⟩) hB).trans (h k u hk)
theorem NumL.turns {w w' : World} {M : Nat → Prop} {b off : Nat} {l : List Nat} (h : NumL w b off l) (ht : Turns M w w') (hm : ¬ M b) : NumL w' b off l := fun k u hk => cell_turns (h k u hk) ht hm
theorem NumL.drop {w : World} {b off : Nat} {l : List Nat} (h : NumL w b off l) (n : Nat) : NumL w b (off + n) (l.drop n) := fun k u hk => by
  rw [List.getElem?_drop] at hk
  rw [Nat.add_assoc]; exact h _ u hk
theorem NumL.take {w : World} {b off : Nat} {l : List Nat} (h : NumL w b off l) (n : Nat) : NumL w b off (l.take n) := fun k u hk => by
  rw [List.getElem?_take] at hk
  split at hk
  · exact h _ u hk
  · cases hk
theorem setOf_snoc (l : List Nat) (v : Nat) : setOf (l ++ [v]) = sAdd (setOf l) v := by unfold setOf; rw [List.foldl_append]; rfl
theorem setOf_lt {l : List Nat} (h : ∀ x ∈ l, x < 128) : setOf l < 2 ^ 128 := lt_of_bits fun i hi => by
  rw [bit_setOf] at hi
  exact h i (of_decide_eq_true hi)
theorem take_snoc {l : List Nat} {k u : Nat} (h : l[k]? = some u) : l.take (k + 1) = l.take k ++ [u] := by
  obtain ⟨hk, rfl⟩ := List.getElem?_eq_some_iff.1 h
  exact List.take_succ_eq_append_getElem hk
theorem sbox_zero {w : World} {b : Nat} (h : Two w b (.int .u64 0) (.int .u64 0) 76) : SBox w b 0 := by
  have e0 : ((lo64 0 : Nat) : Int) = 0 := by decide
  have e1 : ((hi64 0 : Nat) : Int) = 0 := by decide
  unfold SBox
  rw [e0, e1]; exact h
set_option maxHeartbeats 1000000 in
theorem setOf_call {w : World} {b off cap : Nat} {l : List Nat} (hn : NumL w b off l) (hl : ∀ x ∈ l, x < 128) (hlen : l.length ≤ 1000) :
    Calls Tryd.prog 56 #[.slice (some ⟨b, off, none⟩) l.length cap] w fun e w' => e = .returned (sv (setOf l)) ∧ Below w.heap.size w w' := by
  have HN : Hid (NumL w b off l) := hn
  have HL : Hid (∀ x ∈ l, x < 128) := hl
  have HBB : Hid (l ≠ [] → b < w.heap.size) := fun h => by
    obtain ⟨x, r, rfl⟩ := List.exists_cons_of_ne_nil h
    exact World.block_lt_of_cell? w ⟨b, off + 0, none⟩ (hn 0 x rfl)
  clear hn hl
  obtain ⟨S, hS⟩ : ∃ S, S = setOf l := ⟨_, rfl⟩
  rw [← hS]
  have HS : Hid (S = setOf l) := hS
  clear hS
  obtain ⟨n, hN⟩ : ∃ n, n = l.length := ⟨_, rfl⟩
  rw [← hN] at hlen ⊢
  have HNl : Hid (n = l.length) := hN
  clear hN
  go_enter Tryd.func56, Tryd.ntmps56
  go_upto_region 3 with (fail)
  have a3 := two_nxt w (Obj.cells #[.int .u64 0, .int .u64 0] 76) (.int .u64 0) (.int .u64 0) 76
  have a2 := two_alloc (two_new w (.int .u64 0) (.int .u64 0) 76) (Obj.cells #[.int .u64 0, .int .u64 0] 76)
  have hB0 := below_alloc (below_alloc (Below.refl _ w) (Obj.cells #[.int .u64 0, .int .u64 0] 76)) (Obj.cells #[.int .u64 0, .int .u64 0] 76)
  obtain ⟨b3, hb3⟩ : ∃ b, b = w.heap.size + 1 := ⟨_, rfl⟩
  obtain ⟨b2, hb2⟩ : ∃ b, b = w.heap.size := ⟨_, rfl⟩
  have HNE : Hid (b2 ≠ b3 ∧ w.heap.size ≤ b3 ∧ w.heap.size ≤ b2) := ⟨by omega, by omega, by omega⟩
  rw [← hb3] at a3 ⊢
  rw [← hb2] at a2 ⊢
  generalize (w.alloc (Obj.cells #[.int .u64 0, .int .u64 0] 76)).alloc (Obj.cells #[.int .u64 0, .int .u64 0] 76) = W0 at a2 a3 hB0 ⊢
  clear hb2 hb3
  go_loopw [8] (fun s8 wz => ∃ k : Nat, k ≤ n ∧ s8 = .int .i64 (k : Int) ∧ SBox wz b3 (setOf (l.take k)) ∧ Two wz b2 (.int .u64 0) (.int .u64 0) 76 ∧ Below w.heap.size w wz) (fun s8 _ => n - (numOf s8).toNat)
  case atStart => exact ⟨0, Nat.zero_le _, rfl, sbox_zero a3, a2, hB0⟩
  case round =>
    obtain ⟨k, hk, rfl, h3, h2, hB⟩ := hrel
    clear a2 a3 hB0
    by_cases hlt : k < n
    · obtain ⟨u, hu⟩ : ∃ u, l[k]? = some u := ⟨l[k]'(by have := HNl.out; omega), by rw [List.getElem?_eq_getElem]⟩
      have hc : wr.cell? ⟨b, off + k, none⟩ = some (.int .i64 (u : Int)) := HN.out.under hB (HBB.out (by intro e; rw [e] at hu; cases hu)) k u hu
      have hs : setOf (l.take k) < 2 ^ 128 := setOf_lt (fun x hx => HL.out x (List.mem_of_mem_take hx))
      have CA : Hid _ := add_sbox hs (HL.out u (List.mem_of_getElem? hu)) h3
      have HT : Hid (setOf (l.take (k + 1)) = sAdd (setOf (l.take k)) u) := by
        show _ = _
        rw [take_snoc hu, setOf_snoc]
      have H2 : Hid (Two wr b2 (.int .u64 0) (.int .u64 0) 76) := h2
      have i1 : (0 : Int) ≤ (k : Int) := by omega
      have i2 : (k : Int) < (n : Int) := by omega
      clear h2 h3 hs hu
      go_wp2_with (first | (go_at_call 48; refine Calls.mono CA.out ?_; rintro e w1 ⟨rfl, h1, t1⟩) | go_in)
      go_roundw
      case rel => exact ⟨k + 1, by omega, by go_num, by rw [HT.out]; exact h1, two_turns H2.out t1 HNE.out.1, t1.below hB hB.size (fun k h => by subst h; exact HNE.out.2.1)⟩
      case measure => simp [numOf]; omega
    · obtain rfl : k = n := by omega
      have ht : l.take k = l := by rw [List.take_of_length_le (by have := HNl.out; omega)]
      rw [ht] at h3
      have f0 := free_two h2 0
      have f1 := free_two h2 1
      rw [← HS.out] at h3
      obtain ⟨c0, c1⟩ := cell_two h3
      have y1 : (wr.setCell ⟨b2, 0, none⟩ (.int .u64 (lo64 S : Int))).frozen? ⟨b2, 1, none⟩ = false := box_free (box_set h2 0 (.int .u64 (lo64 S : Int))) 1
      have y0 : (wr.setCell ⟨b2, 0, none⟩ (.int .u64 (lo64 S : Int))).cell? ⟨b2, 1, none⟩ = some (.int .u64 0) := box_cell (box_set h2 0 (.int .u64 (lo64 S : Int))) rfl
      obtain ⟨z0, z1⟩ := cell_two h2
      obtain ⟨x0, x1⟩ := cell_two (two_setN h2 (x' := .int .u64 (lo64 S : Int)) (y' := .int .u64 (hi64 S : Int)))
      clear h2 h3
      go_wp2
      refine bodyPost_ret (v := sv S) ?_ rfl ⟨rfl, (hB.setCell HNE.out.2.2 _).setCell HNE.out.2.2 _⟩
      simp [results, Tryd.results56, go_sem, x0, x1]
end Go.Proofs.YtekokjechbibdaaDoor

namespace Go.Proofs.YtekokjechbibdaaDoor
set_option maxRecDepth 8000
open Go.RowKit Go.Maps
attribute [local go_sem ↓] Go.wp_at_zero Go.wp_at_succ
/-- Edges between numbers, as the texts on graphs have them. -/
def pz (es : List E2) : List Pair := es.map fun e => ((e.1 : Int), (e.2 : Int))
theorem pz_len (es : List E2) : (pz es).length = es.length := by simp [pz]
theorem Tryd.info76 : (Tryd.prog.info? 76).map (fun i => (i.zero, i.size, i.bytes)) = some (some (.agg #[.int .u64 0, .int .u64 0]), 2, 16) := by kernel_rfl
abbrev rep2 (N : Nat) : Array Value := madeCells #[.int .u64 0, .int .u64 0] (N * 2)
theorem make58 (N : Nat) (hN : N ≤ 1000) (w : World) : (Instr.makeSlice 58 (.int .i64 (N : Int)) (.int .i64 (N : Int))).run Tryd.prog w = .ok (.slice (some ⟨w.heap.size, 0, none⟩) N N) (w.alloc (.cells (rep2 N) 76)) := by
  obtain ⟨i3, hi3, hy0, hy1, hy2⟩ := info_parts Tryd.info76
  have hr := run_make (P := Tryd.prog) w 58 76 i3 (.agg #[.int .u64 0, .int .u64 0]) Tryd.underlying58 hi3 hy0 .i64 .i64 N N (by omega) (Int.le_refl _) (by rw [hy2]; omega) (by omega)
  simpa [hy1, Value.cells] using hr
theorem setsAt_made {w : World} {b N : Nat} (h : w.heap[b]? = some (.cells (rep2 N) 76 (0, 0))) : SetsAt w b (List.replicate N 0) := by
  refine ⟨⟨_, h, by simp [madeCells], fun v s hv => ?_⟩, fun s hs => ?_⟩
  · rw [List.getElem?_replicate] at hv
    split at hv
    · cases hv
      have e0 : v * 2 % 2 = 0 := by omega
      have e1 : (v * 2 + 1) % 2 = 1 := by omega
      have z0 : ((lo64 0 : Nat) : Int) = 0 := by decide
      have z1 : ((hi64 0 : Nat) : Int) = 0 := by decide
      refine ⟨?_, ?_⟩
      · simp [madeCells, show v * 2 < N * 2 by omega, e0, z0]
      · simp [madeCells, show v * 2 + 1 < N * 2 by omega, e1, z1]
    · cases hv
  · have := (List.mem_replicate.1 hs).2
    subst this; decide
theorem drew_turns (w : World) (M : Nat → Prop) : Turns M w w.drew := ⟨rfl, rfl, rfl, Nat.le_refl _, fun _ _ _ => rfl⟩
def nearStep (near : List Nat) (e : E2) : List Nat := let near := near.set e.1 (sAdd (at' near e.1) e.2); near.set e.2 (sAdd (at' near e.2) e.1)
theorem nearBy_eq (n : Nat) (es : List E2) : nearBy n es = es.foldl nearStep (List.replicate n 0) := rfl
theorem nearStep_len (near : List Nat) (e : E2) : (nearStep near e).length = near.length := by simp [nearStep]
theorem foldl_len : ∀ (es : List E2) (near : List Nat), (es.foldl nearStep near).length = near.length
  | [], _ => rfl
  | e :: l, near => by rw [List.foldl_cons, foldl_len l, nearStep_len]
theorem nearBy_len (n : Nat) (es : List E2) : (nearBy n es).length = n := by rw [nearBy_eq, foldl_len]; simp
theorem nearBy_snoc (n : Nat) (es : List E2) (e : E2) : nearBy n (es ++ [e]) = nearStep (nearBy n es) e := by rw [nearBy_eq, List.foldl_append]; rfl
set_option maxHeartbeats 2000000 in
theorem nearBy_call {w : World} {ao : Option Addr} {cap n : Nat} {es : List E2} (hE : EdgesAt w (.slice ao es.length cap) (pz es)) (hn : n ≤ 100) (hes : ∀ e ∈ es, e.1 < n ∧ e.2 < n) (hlen : es.length ≤ 1000000) :
    Calls Tryd.prog 27 #[.int .i64 (n : Int), .slice ao es.length cap] w fun e w' => ∃ b, e = .returned (sl b n) ∧ SetsAt w' b (nearBy n es) ∧ w.heap.size ≤ b ∧ Below w.heap.size w w' := by
  have HE : Hid (EdgesAt w (.slice ao es.length cap) (pz es)) := hE
  have HES : Hid (∀ e ∈ es, e.1 < n ∧ e.2 < n) := hes
  clear hE hes
  have hmk := make58 n (by omega)
  obtain ⟨m, hm⟩ : ∃ m, m = es.length := ⟨_, rfl⟩
  rw [← hm] at hlen ⊢
  have HM : Hid (m = es.length) := hm
  clear hm
  go_enter Tryd.func27, Tryd.ntmps27
  go_upto_region 3 with (fail)
  obtain ⟨b, hb⟩ : ∃ b, b = w.heap.size := ⟨_, rfl⟩
  have s0 : SetsAt (w.alloc (.cells (rep2 n) 76)) b (List.replicate n 0) := setsAt_made (by rw [hb]; exact heap_alloc_new _ _)
  have hB0 : Below w.heap.size w (w.alloc (.cells (rep2 n) 76)) := below_alloc (Below.refl _ w) _
  have HBW : Hid (w.heap.size ≤ b) := Nat.le_of_eq hb.symm
  rw [← hb]
  generalize w.alloc (.cells (rep2 n) 76) = W0 at s0 hB0 ⊢
  clear hb hmk
  go_loopw [12] (fun s12 wz => ∃ k : Nat, k ≤ m ∧ s12 = .int .i64 (k : Int) ∧ SetsAt wz b (nearBy n (es.take k)) ∧ Below w.heap.size w wz) (fun s12 _ => m - (numOf s12).toNat)
  case atStart => exact ⟨0, Nat.zero_le _, rfl, s0, hB0⟩
  case round =>
    obtain ⟨k, hk, rfl, hs, hB⟩ := hrel
    clear s0 hB0
    by_cases hlt : k < m
    · have hlt' : k < es.length := by have := HM.out; omega
      obtain ⟨ao', cap', e1, _, _, hcells⟩ := HE.out
      simp only [pz_len, Value.slice.injEq] at e1
      obtain ⟨e1, _, e2⟩ := e1
      have e1' := e1.symm
      subst e1'
      clear e2
      obtain ⟨eb, eo, rfl, cx, cy⟩ := hcells k (by rw [pz_len]; exact hlt')
      obtain ⟨⟨x, y⟩, hxy⟩ : ∃ e : E2, es[k]'hlt' = e := ⟨_, rfl⟩
      have hpk : (pz es)[k]'(by rw [pz_len]; exact hlt') = ((x : Int), (y : Int)) := by simp [pz, hxy]
      rw [hpk] at cx cy
      have hbl := World.block_lt_of_cell? w _ cx
      rw [← hB.cell (by exact hbl)] at cx cy
      obtain ⟨hxn, hyn⟩ := HES.out (x, y) (by rw [← hxy]; exact List.getElem_mem _)
      simp only at cx cy hxn hyn
      have HT : Hid (nearBy n (es.take (k + 1)) = nearStep (nearBy n (es.take k)) (x, y)) := by
        show _ = _
        rw [List.take_succ_eq_append_getElem hlt', hxy, nearBy_snoc]
      have hL : (nearBy n (es.take k)).length = n := nearBy_len _ _
      generalize nearBy n (es.take k) = NB at *
      have C1 : Hid (∀ W, SetsAt W b NB → Calls Tryd.prog 48 #[.pointer (some ⟨b, x * 2, none⟩), .int .i64 (y : Int)] W fun e w' => e = .returned (.tuple #[]) ∧ SetsAt w' b (NB.set x (sAdd (at' NB x) y)) ∧ Turns (fun k => k = b) W w') := fun W hW => add_near hW (at_some (by omega)) (by omega)
      have C2 : Hid (∀ W, SetsAt W b (NB.set x (sAdd (at' NB x) y)) → Calls Tryd.prog 48 #[.pointer (some ⟨b, y * 2, none⟩), .int .i64 (x : Int)] W fun e w' => e = .returned (.tuple #[]) ∧ SetsAt w' b (nearStep NB (x, y)) ∧ Turns (fun k => k = b) W w') := fun W hW => add_near hW (at_some (by simp; omega)) (by omega)
      have i1 : (0 : Int) ≤ (x : Int) := by omega
      have i2 : (x : Int) < (n : Int) := by omega
      have i3 : (0 : Int) ≤ (y : Int) := by omega
      have i4 : (y : Int) < (n : Int) := by omega
      have j1 : (0 : Int) ≤ (k : Int) := by omega
      have j2 : (k : Int) < (m : Int) := by omega
      have HS : Hid (SetsAt wr b NB) := hs
      have HB : Hid (Below w.heap.size w wr) := hB
      clear hxy hpk hcells hbl hL hs hB hxn hyn
      go_upto_region 5 with (fail)
      have t7 := two_new wr (.int .i64 (x : Int)) (.int .i64 (y : Int)) 49
      have hBa := below_alloc (Below.refl _ wr) (Obj.cells #[.int .i64 (x : Int), .int .i64 (y : Int)] 49)
      have HSa : Hid _ := HS.out.under hBa
      have HBa : Hid _ := below_next HB.out hBa
      obtain ⟨b7, hb7⟩ : ∃ b, b = wr.heap.size := ⟨_, rfl⟩
      have hne : b7 ≠ b := by have := HS.out.ltS; omega
      rw [← hb7] at t7 ⊢
      generalize wr.alloc (Obj.cells #[.int .i64 (x : Int), .int .i64 (y : Int)] 49) = W7 at *
      clear hBa hb7
      have HT7 : Hid _ := t7
      go_cut [] from 16 to 22 (fun wd => SetsAt wd b (NB.set x (sAdd (at' NB x) y)) ∧ Two wd b7 (.int .i64 (x : Int)) (.int .i64 (y : Int)) 49 ∧ Below w.heap.size w wd)
      case first =>
        obtain ⟨p0, p1⟩ := cell_two t7
        have C1' : Hid _ := C1.out W7.drew (HSa.out.block rfl)
        go_region_with (first | (go_at_call 48; refine Calls.mono C1'.out ?_; rintro e w1 ⟨rfl, h1, t1⟩) | fail)
        all_goals
          go_wp2
          go_meet
          exact ⟨h1, two_turns HT7.out ((drew_turns W7 (fun k => k = b)).trans t1) hne, t1.below (HBa.out.drew) HBa.out.size (fun k h => by subst h; exact HBW.out)⟩
      case rest =>
        obtain ⟨h1, t7b, hB1⟩ := hcut
        obtain ⟨p0, p1⟩ := cell_two t7b
        have C2' : Hid _ := C2.out wc.drew (h1.block rfl)
        have HB1 : Hid (Below w.heap.size w wc) := hB1
        clear h1 t7b hB1 t7
        go_upto_region 6 with (fail)
        go_region_with (first | (go_at_call 48; refine Calls.mono C2'.out ?_; rintro e w2 ⟨rfl, h2, t2⟩) | fail)
        all_goals
          go_wp2
          go_roundw
          case rel => exact ⟨k + 1, by omega, by go_num, by rw [HT.out]; exact h2, t2.below (HB1.out.drew) HB1.out.size (fun k h => by subst h; exact HBW.out)⟩
          case measure => simp [numOf]; omega
    · obtain rfl : k = m := by omega
      have ht : es.take k = es := by rw [List.take_of_length_le (by have := HM.out; omega)]
      rw [ht] at hs
      go_wp2
      go_ret
      exact ⟨b, rfl, hs, HBW.out, hB⟩
end Go.Proofs.YtekokjechbibdaaDoor
