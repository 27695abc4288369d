/- way: a list of nodes is a way from one node to another one. A table of false, and writing into a table. What FlowApart looks at: no edge twice, a cut in order, none reached behind it. -/
import Derived.Test.YtkakmaalmhofmaaApartC
namespace Go.Proofs.Ytkakmaalmhofmaa
open Go.RowKit Go.Maps
attribute [local go_sem ↓] Go.wp_at_zero Go.wp_at_succ

set_option maxRecDepth 4000 in
set_option maxHeartbeats 2000000 in
theorem way_call {N : Nat} {ao : Option Addr} {cap : Nat} {p : Int → Int → Bool} {w : World} (hG : GridAt w (.slice ao N cap) N p) {lo : Option Addr} {lc : Nat} {L : List Nat} (hL : NumsAt w lo L) (hlt : ∀ u, u ∈ L → u < N) (hst : ∀ i x y : Nat, L[i]? = some x → L[i + 1]? = some y → p x y = true) (hl : L.length ≤ 1000) (h2 : 2 ≤ L.length) {s t : Nat} (hs : L[0]? = some s) (ht : L[L.length - 1]? = some t) (hnd : L.Nodup) :
    Calls Try.prog 18 #[.slice ao N cap, .slice lo L.length lc, .int .i64 (s : Int), .int .i64 (t : Int)] w fun r w' => r = .returned (.bool true) ∧ Below w.heap.size w w' := by
  have h40 := refWalk_call N ao cap p w hG (lc := lc) hL hlt hst (by omega)
  obtain ⟨b, rfl, hc0⟩ := hL 0 s hs
  obtain ⟨b', e, hcl⟩ := hL _ t ht
  cases e
  obtain ⟨m, hm⟩ : ∃ m, L.length = m + 1 := ⟨L.length - 1, by omega⟩
  rw [hm, Nat.add_sub_cancel] at hcl
  rw [hm] at h40 ⊢
  have HL : Hid (NumsAt w (some ⟨b, 0, none⟩) L) := hL
  have HND : Hid (L.Nodup) := hnd
  have HM : Hid (L.length = m + 1) := hm
  have H40 : Hid (Calls Try.prog 40 #[.slice ao N cap, .slice (some ⟨b, 0, none⟩) (m + 1) lc] w fun r w' => r = .returned (.bool true) ∧ Below w.heap.size w w') := h40
  have hm2 : 1 ≤ m ∧ m ≤ 1000 := by omega
  have k1 : ¬ ((m + 1 : Nat) : Int) < 2 := by omega
  have k2 : (0 : Int) < ((m + 1 : Nat) : Int) := by omega
  have k3 : (0 : Int) ≤ ((m + 1 : Nat) : Int) - 1 := by omega
  have k4 : ((m + 1 : Nat) : Int) - 1 < ((m + 1 : Nat) : Int) := by omega
  have k5 : IntKind.i64.wrap (((m + 1 : Nat) : Int) - 1) = (m : Int) := by rw [IntKind.wrap_i64]; omega
  have k6 : (m : Int) < ((m + 1 : Nat) : Int) := by omega
  have k7 : (0 : Int) ≤ (m : Int) := by omega
  clear h40 hG hL hlt hst hs ht hnd hm hl h2
  generalize hmm : m + 1 = M at *
  go_enter Try.func18, Try.ntmps18
  go_upto_if 36 with (first | (go_at_call 40; refine Calls.mono H40.out ?_; rintro r W1 ⟨rfl, hb1⟩) | go_in)
  clear hc0 hcl k2 k3 k4 k5 k6 k7
  go_wp2
  go_loopw [8, 9] (fun _ iv wr => ∃ i : Nat, i ≤ M ∧ iv = .int .i64 (i : Int) ∧ Below w.heap.size w wr) (fun _ iv _ => M - (numOf iv).toNat)
  case atStart => exact ⟨0, Nat.zero_le _, rfl, hb1⟩
  case round =>
    clear hb1
    obtain ⟨i, hi, rfl, hBi⟩ := hrel
    by_cases hlt : i < M
    · have i2 : (i : Int) < (M : Int) := by omega
      go_wp2
      go_loopw [8, 10] (fun _ jv wr => ∃ j : Nat, j ≤ i ∧ jv = .int .i64 (j : Int) ∧ Below w.heap.size w wr) (fun _ jv _ => i - (numOf jv).toNat)
      case atStart => exact ⟨0, Nat.zero_le _, rfl, hBi⟩
      case round =>
        clear hBi
        obtain ⟨j, hj, rfl, hBj⟩ := hrel
        by_cases hlt2 : j < i
        · have i3 : (j : Int) < (i : Int) := by omega
          have hM := HM.out
          obtain ⟨x, hx⟩ : ∃ x, L[i]? = some x := ⟨L[i]'(by omega), List.getElem?_eq_getElem (by omega)⟩
          obtain ⟨y, hy⟩ : ∃ y, L[j]? = some y := ⟨L[j]'(by omega), List.getElem?_eq_getElem (by omega)⟩
          have hxy : x ≠ y := fun e => by
            obtain ⟨g1, g2⟩ := List.getElem?_eq_some_iff.1 hx
            obtain ⟨g3, g4⟩ := List.getElem?_eq_some_iff.1 hy
            exact List.pairwise_iff_getElem.1 HND.out j i g3 g1 hlt2 (by rw [g2, g4, e])
          obtain ⟨_, e1, cx⟩ := NumsAt.below HL.out hBj i x hx
          cases e1
          obtain ⟨_, e1, cy⟩ := NumsAt.below HL.out hBj j y hy
          cases e1
          have k1 : ((x : Int) == (y : Int)) = false := by rw [beq_eq_false_iff_ne]; omega
          have k2 : (0 : Int) ≤ (i : Int) := by omega
          have k3 : (0 : Int) ≤ (j : Int) := by omega
          have k4 : (j : Int) < (M : Int) := by omega
          clear hx hy hxy hM
          go_upto_region 9 with (fail)
          go_quiet (fail)
          go_wp2
          go_roundw
          case rel => exact ⟨j + 1, by omega, by go_num, below_drewN hBj _⟩
          case measure => simp [numOf]; omega
        · have i3 : ¬ (j : Int) < (i : Int) := by omega
          go_wp2
          go_roundw
          case rel => exact ⟨i + 1, by omega, by go_num, hBj⟩
          case measure => simp [numOf]; omega
    · have i2 : ¬ (i : Int) < (M : Int) := by omega
      go_wp2
      go_ret
      exact ⟨rfl, hBi⟩
end Go.Proofs.Ytkakmaalmhofmaa

namespace Go.Proofs.Ytkakmaalmhofmaa
open Go.RowKit Go.Maps
attribute [local go_sem ↓] Go.wp_at_zero Go.wp_at_succ

/-- A table of one's own: rows bs, each of m bools, that tells p. -/
structure Tab (base : Nat) (wr : World) (m : Nat) (v : Value) (bs : List Nat) (p : Nat → Nat → Bool) : Prop where
  own : wr.ownsRow base 36 1 v bs.length (bs.map (rowV m))
  rows : ∀ i (h : i < bs.length), RowB wr bs[i] m (p i)
  nodup : ∀ i j (hi : i < bs.length) (hj : j < bs.length), bs[i] = bs[j] → i = j
  ge : ∀ b ∈ bs, base ≤ b

theorem GI.tab {w wr : World} {m : Nat} {x0 v0 v : Value} {bs : List Nat} {p : Nat → Nat → Bool} (h : GI w wr m x0 v0 v bs p) : Tab w.heap.size wr m v bs p :=
  ⟨ownsRow_mono h.own (by omega), h.rows, h.nodup, fun b hb => by have := h.ge b hb; omega⟩
theorem Tab.below {base : Nat} {wr wr' : World} {m : Nat} {v : Value} {bs : List Nat} {p : Nat → Nat → Bool} (h : Tab base wr m v bs p) (hb : Below wr.heap.size wr wr') : Tab base wr' m v bs p :=
  ⟨ownsRow_blocks h.own (fun b hb' => hb.block b (h.own.lt b hb').2), fun i hi => (h.rows i hi).block (hb.block _ (h.rows i hi).lt), h.nodup, h.ge⟩
theorem Tab.congr {base : Nat} {wr : World} {m : Nat} {v : Value} {bs : List Nat} {p q : Nat → Nat → Bool} (h : Tab base wr m v bs p) (he : ∀ i j, p i j = q i j) : Tab base wr m v bs q := by
  have : p = q := by funext i j; exact he i j
  rw [← this]; exact h
theorem Tab.put {base : Nat} {wr : World} {m : Nat} {v : Value} {bs : List Nat} {p : Nat → Nat → Bool} (h : Tab base wr m v bs p) {i : Nat} (hi : i < bs.length) (j : Nat) (x : Bool) :
    Tab base (wr.setCell ⟨bs[i], j, none⟩ (.bool x)) m v bs (fun a b => if a = i ∧ b = j then x else p a b) := by
  have q : ∀ k, k ≠ bs[i] → (wr.setCell ⟨bs[i], j, none⟩ (.bool x)).heap[k]? = wr.heap[k]? := fun k hk => Below.heap_setCell _ _ _ _ hk
  refine ⟨?_, ?_, h.nodup, h.ge⟩
  · refine h.own.kept (row := some bs[i]) ⟨rfl, rfl, rfl, by simp [World.setCell], fun k _ hk => q k (fun e => hk (by rw [e]))⟩ (Or.inr ((h.rows i hi).ne h.own))
  · intro a ha
    by_cases e : a = i
    · subst e
      have := (h.rows a ha).put j x
      simpa using this
    · have hne : bs[a] ≠ bs[i] := fun e' => e (h.nodup a i ha hi e')
      have e2 : (fun b => if a = i ∧ b = j then x else p a b) = p a := by funext b; simp [e]
      rw [e2]
      exact (h.rows a ha).block (q _ hne)
theorem Tab.at {base : Nat} {wr : World} {m : Nat} {ao : Option Addr} {n cap : Nat} {bs : List Nat} {p : Nat → Nat → Bool} (h : Tab base wr m (.slice ao n cap) bs p) (h0 : 0 < bs.length) :
    ∃ g, ao = some ⟨g, 0, none⟩ ∧ ∀ i (hi : i < bs.length), wr.cell? ⟨g, i, none⟩ = some (.slice (some ⟨bs[i], 0, none⟩) m m) := by
  rcases h.own.2 with ⟨_, e⟩ | ⟨g, c, cur, e, _⟩
  · omega
  · cases e
    refine ⟨g, rfl, fun i hi => ?_⟩
    have := h.own.cells (g := g) rfl i (rowV m bs[i]) (by simp [hi])
    rw [add_none] at this
    exact this
theorem Tab.grid {base : Nat} {wr : World} {m : Nat} {ao : Option Addr} {n cap : Nat} {bs : List Nat} {p : Int → Int → Bool} (h : Tab base wr m (.slice ao n cap) bs (fun i j => p i j)) (hl : bs.length = m) : GridAt wr (.slice ao m cap) m p := by
  refine ⟨ao, cap, rfl, fun i hi => ?_⟩
  have hb : i < bs.length := by omega
  obtain ⟨g, rfl, hat⟩ := h.at (by omega)
  exact ⟨g, bs[i], rfl, hat i hb, fun j hj => (h.rows i hb).cell hj⟩

set_option maxHeartbeats 1000000 in
theorem gridOf_new (m : Nat) (w : World) (hm : m ≤ 100) :
    Calls Try.prog 17 #[.agg #[.int .i64 m, .slice none 0 0]] w fun e w' => ∃ ao cap bs, e = .returned (.slice ao m cap) ∧ bs.length = m ∧ Tab w.heap.size w' m (.slice ao m cap) bs (fun _ _ => false) ∧ Below w.heap.size w w' := by
  obtain ⟨i0, hi, hz0, hz1, hz2⟩ := info_parts Try.info4
  obtain ⟨i1, hi1, hy0, hy1, hy2⟩ := info_parts Try.info36
  go_enter Try.func17, Try.ntmps17
  go_wp2
  go_loopw [3, 4] (fun t i wr => ∃ bs : List Nat, bs.length ≤ m ∧ i = .int .i64 bs.length ∧ GI w wr m (.int .i64 m) (.slice none 0 0) t bs (fun _ _ => false)) (fun _ i _ => m - (numOf i).toNat)
  case atStart => exact ⟨[], Nat.zero_le _, rfl, heap_alloc_new _ _, World.ownsRow_nil _ _ _ _, fun i h => absurd h (by simp), fun i j h => absurd h (by simp), (fun b h => by cases h), below_alloc (Below.refl _ _) _⟩
  case round =>
    obtain ⟨bs, hk, rfl, hgi⟩ := hrel
    have c0 := (cell_two hgi.b0).1
    obtain ⟨to1, tc, rfl⟩ := form_row hgi.own
    by_cases hlt : bs.length < m
    · go_wp2_with (first | (at_make; refine wpList_make_full _ rfl _ _ 36 rfl (w.heap.size + 1) 4 i0 (.bool false) 1 Try.underlying36 hi hz0 hz1 .i64 .i64 _ _ m rfl rfl rfl rfl ?_ ?_ ?_ ?_; (rw [hz2]; omega); (unfold maxLen; omega); (have := lt_of_block hgi.b0; omega); intro w1 hmade hg1) | (at_builtin; refine wpList_append_own _ rfl _ _ 48 rfl (w.heap.size + 1) 36 i1 (.slice none 0 0) 1 24 Try.underlying48 hi1 hy0 hy1 hy2 rfl (by decide) _ _ _ rfl ((hgi.own.kept hg1 (by cases to1 <;> simp [Value.ownBlock])).alloc _) ⟨w1.heap.size, 0, none⟩ 1 1 [rowV m wr.heap.size] rfl rfl ?c1 ?c2 ?c3 ?c4 ?c5 ?_))
      case c1 =>
        intro j x hj
        match j, hj with
        | 0, hj => simp at hj; subst hj; simp [Addr.add, rowV]
      case c2 => first | rfl | (intro x hx; simp at hx; subst hx; rfl)
      case c3 => unfold maxLen; omega
      case c4 => omega
      case c5 => have := lt_of_block hgi.b0; have := hg1.size; simp; omega
      intro v' w3 hown' hgrow _
      have hgi2 := hgi.push (rowB_made hmade) hg1 hown' hgrow
      clear hown' hgrow hmade
      go_wp2
      go_roundw
      case rel => exact ⟨bs ++ [wr.heap.size], by simp; omega, by simp, hgi2⟩
      case measure => simp [numOf]; omega
    · have hbm : m = bs.length := by omega
      subst hbm
      have c1 := (cell_two hgi.b0).2
      go_wp2
      go_loopw [5] (fun i wr => i = .int .i64 0 ∧ GI w wr bs.length (.int .i64 bs.length) (.slice none 0 0) (.slice to1 bs.length tc) bs (fun _ _ => false)) (fun _ _ => 0)
      case atStart => exact ⟨rfl, hgi⟩
      case round =>
        obtain ⟨rfl, hgj⟩ := hrel
        clear hgi c0 c1
        have c1 := (cell_two hgj.b0).2
        go_wp2
        go_ret
        exact ⟨to1, tc, bs, rfl, rfl, hgj.tab, hgj.below⟩
end Go.Proofs.Ytkakmaalmhofmaa

namespace Go.Proofs.Ytkakmaalmhofmaa
open Go.RowKit Go.Maps

/-- The step from a to b, or back, was taken by a way ahead. -/
def Took (ls : List (List Nat)) (i k a b : Nat) : Prop :=
  ∃ (j m : Nat) (l : List Nat) (x y : Nat), ls[j]? = some l ∧ l[m]? = some x ∧ l[m + 1]? = some y ∧ ((a = x ∧ b = y) ∨ (a = y ∧ b = x)) ∧ (j < i ∨ (j = i ∧ m + 1 < k))
theorem Took.next {ls : List (List Nat)} {i k a b : Nat} (h : Took ls i k a b) : Took ls i (k + 1) a b := by
  obtain ⟨j, m, l, x, y, h1, h2, h3, h4, h5⟩ := h
  exact ⟨j, m, l, x, y, h1, h2, h3, h4, h5.imp id (fun h => ⟨h.1, by omega⟩)⟩
theorem Took.over {ls : List (List Nat)} {i k a b : Nat} (h : Took ls i k a b) : Took ls (i + 1) 1 a b := by
  obtain ⟨j, m, l, x, y, h1, h2, h3, h4, h5⟩ := h
  exact ⟨j, m, l, x, y, h1, h2, h3, h4, Or.inl (by omega)⟩
section
variable {N s t : Nat} {e e' : Nat → Nat → Bool} {ls : List (List Nat)}
theorem Ways.chain {es : Nat → Nat → Nat → Bool} (h2 : ∀ (i : Nat) l, ls[i]? = some l → WayTo N (es i) (es (i + 1)) s t l) : ∀ (n i : Nat), i + n ≤ ls.length → ∀ a b, es (i + n) a b = true → es i a b = true
  | 0, _, _, _, _, h => h
  | n + 1, i, hi, a, b, h => by
    have hl : i + n < ls.length := by omega
    exact Ways.chain h2 n i (by omega) a b ((h2 (i + n) ls[i + n] (List.getElem?_eq_getElem hl)).le a b h)
theorem Ways.fresh (h : Ways N s t e e' ls) (ha : ∀ a b, e a b = true → e b a = false) {i m x y : Nat} {l : List Nat} (hl : ls[i]? = some l) (hx : l[m]? = some x) (hy : l[m + 1]? = some y) : ¬ Took ls i (m + 1) x y := by
  obtain ⟨es, h0, h1, h2⟩ := h
  rintro ⟨j, m', l', x', y', g1, g2, g3, g4, g5⟩
  have hi := (List.getElem?_eq_some_iff.1 hl).1
  have hj := (List.getElem?_eq_some_iff.1 g1).1
  have w1 := h2 i l hl
  have w2 := h2 j l' g1
  have t1 := w1.took m x y hx hy
  have t2 := w2.took m' x' y' g2 g3
  have c1 : e x y = true := by
    have := Ways.chain h2 i 0 (by omega) x y (by rw [Nat.zero_add]; exact t1.1)
    rwa [h0] at this
  have c2 : e x' y' = true := by
    have := Ways.chain h2 j 0 (by omega) x' y' (by rw [Nat.zero_add]; exact t2.1)
    rwa [h0] at this
  rcases g4 with ⟨rfl, rfl⟩ | ⟨rfl, rfl⟩
  · rcases g5 with g5 | ⟨rfl, g5⟩
    · have := Ways.chain h2 (i - (j + 1)) (j + 1) (by omega) x y (by rw [show j + 1 + (i - (j + 1)) = i by omega]; exact t1.1)
      rw [t2.2] at this
      cases this
    · rw [hl] at g1; cases g1
      obtain ⟨p1, p2⟩ := List.getElem?_eq_some_iff.1 hx
      obtain ⟨p3, p4⟩ := List.getElem?_eq_some_iff.1 g2
      exact List.pairwise_iff_getElem.1 w1.nodup m' m p3 p1 (by omega) (by rw [p2, p4])
  · rw [ha _ _ c1] at c2
    cases c2
theorem Ways.way (h : Ways N s t e e' ls) {i : Nat} {l : List Nat} (hl : ls[i]? = some l) : ∃ e1 e2, WayTo N e1 e2 s t l ∧ ∀ a b, e1 a b = true → e a b = true := by
  obtain ⟨es, h0, h1, h2⟩ := h
  have hi := (List.getElem?_eq_some_iff.1 hl).1
  refine ⟨es i, es (i + 1), h2 i l hl, fun a b hab => ?_⟩
  have := Ways.chain h2 i 0 (by omega) a b (by rw [Nat.zero_add]; exact hab)
  rwa [h0] at this
end
theorem WayTo.two {N : Nat} {e e' : Nat → Nat → Bool} {s t : Nat} {L : List Nat} (h : WayTo N e e' s t L) (hst : s ≠ t) : 2 ≤ L.length := by
  have h1 := h.pos
  have h2 := h.head
  have h3 := h.last
  by_cases e : L.length = 1
  · rw [e] at h3
    rw [h2] at h3
    simp at h3
    exact absurd h3 hst
  · omega
theorem WayTo.le_len {N : Nat} {e e' : Nat → Nat → Bool} {s t : Nat} {L : List Nat} (h : WayTo N e e' s t L) : L.length ≤ N := by
  have := nat_nodup_len L (List.range N) h.nodup (fun a ha => by simpa using h.lt a ha)
  simpa using this
theorem ListsAt.at {w : World} {base : Nat} {ao : Option Addr} {n cap : Nat} {ls : List (List Nat)} (h : ListsAt w base (.slice ao n cap) ls) {i : Nat} {l : List Nat} (hl : ls[i]? = some l) : ∃ g lo lc, ao = some ⟨g, 0, none⟩ ∧ w.cell? ⟨g, i, none⟩ = some (.slice lo l.length lc) ∧ NumsAt w lo l := by
  obtain ⟨vs, h1, h2, h3⟩ := h
  have hi := (List.getElem?_eq_some_iff.1 hl).1
  obtain ⟨x, hx⟩ : ∃ x, vs[i]? = some x := ⟨vs[i]'(by omega), List.getElem?_eq_getElem (by omega)⟩
  have hr := h3 i x l hx hl
  obtain ⟨lo, lc, rfl⟩ := form_row hr
  rcases h2.2 with ⟨_, h5⟩ | ⟨g, c, cur, h5, _⟩
  · omega
  · cases h5
    refine ⟨g, lo, lc, rfl, ?_, numsAt_own hr⟩
    have := h2.cells (g := g) rfl i _ hx
    rwa [add_none] at this
theorem ListsAt.below {w w' : World} {base : Nat} {v : Value} {ls : List (List Nat)} (h : ListsAt w base v ls) (hb : Below w.heap.size w w') : ListsAt w' base v ls := h.turns (M := fun _ => False) (Turns.of_below hb _) (fun _ h => h.elim)
/-- Pairs in order. -/
def lexP (a b : Pair) : Prop := a.1 < b.1 ∨ (a.1 = b.1 ∧ a.2 < b.2)
theorem allP_lex (n : Nat) (p : Int → Int → Bool) : (allP n p).Pairwise lexP := by
  unfold allP rowsTo
  rw [List.pairwise_flatMap]
  constructor
  · intro u _
    unfold rowTo
    refine List.Pairwise.map _ (R := fun a b => a < b) (fun a b h => Or.inr ⟨rfl, by simp; omega⟩) (List.Pairwise.filter _ List.pairwise_lt_range)
  · refine List.Pairwise.imp (fun {a b} (h : a < b) => ?_) List.pairwise_lt_range
    intro x hx y hy
    simp [rowTo] at hx hy
    obtain ⟨_, _, rfl⟩ := hx
    obtain ⟨_, _, rfl⟩ := hy
    exact Or.inl (by simp; omega)
/-- What is left of the table when i pairs of a list are taken out. -/
structure LeftI (N : Nat) (es cs : List Pair) (i : Nat) (p : Int → Int → Bool) : Prop where
  sym : ∀ a b : Nat, a < N → b < N → p a b = p b a
  irr : ∀ a : Nat, a < N → p a a = false
  iff : ∀ a b : Nat, a < b → b < N → (p a b = true ↔ hasB es a b = true ∧ ((a : Int), (b : Int)) ∉ cs.take i)
theorem hasB_sym (es : List Pair) (a b : Int) : hasB es a b = hasB es b a := by
  unfold hasB
  congr 1
  funext e
  exact Bool.or_comm _ _
theorem LeftI.start {N : Nat} {es cs : List Pair} (hg : ∀ e ∈ es, e.1 ≠ e.2) : LeftI N es cs 0 (hasB es) where
  sym := fun a b _ _ => hasB_sym es a b
  irr := fun a _ => by
    cases h : hasB es (a : Int) (a : Int)
    · rfl
    · simp only [hasB, List.any_eq_true] at h
      obtain ⟨e, he, h⟩ := h
      simp at h
      have := hg e he
      omega
  iff := fun a b _ _ => by simp
theorem hasB_less {N : Nat} {p : Int → Int → Bool} {c : Pair} {a b : Nat} : hasB (lessL (allP N p) c) a b = true ↔ ∃ u v : Nat, u < v ∧ v < N ∧ p u v = true ∧ ((u : Int), (v : Int)) ≠ c ∧ ((a = u ∧ b = v) ∨ (a = v ∧ b = u)) := by
  unfold hasB lessL
  simp only [List.any_eq_true, List.mem_filter, decide_eq_true_eq, Bool.or_eq_true, Bool.and_eq_true, beq_iff_eq]
  constructor
  · rintro ⟨e, ⟨he, hne⟩, h⟩
    obtain ⟨u, v, h1, h2, h3, rfl⟩ := allP_mem.1 he
    refine ⟨u, v, h1, h2, h3, hne, ?_⟩
    simp at h
    omega
  · rintro ⟨u, v, h1, h2, h3, h4, h5⟩
    refine ⟨((u : Int), (v : Int)), ⟨allP_mem.2 ⟨u, v, h1, h2, h3, rfl⟩, h4⟩, ?_⟩
    simp
    omega
theorem LeftI.step {N : Nat} {es cs : List Pair} {i : Nat} {p : Int → Int → Bool} {c : Pair} (h : LeftI N es cs i p) (hc : cs[i]? = some c) : LeftI N es cs (i + 1) (hasB (lessL (allP N p) c)) where
  sym := fun a b _ _ => hasB_sym _ _ _
  irr := fun a _ => by
    cases hq : hasB (lessL (allP N p) c) (a : Int) (a : Int)
    · rfl
    · obtain ⟨u, v, h1, _, _, _, h5⟩ := hasB_less.1 hq
      omega
  iff := fun a b hab hb => by
    obtain ⟨g1, g2⟩ := List.getElem?_eq_some_iff.1 hc
    rw [hasB_less, List.take_succ_eq_append_getElem g1, g2]
    constructor
    · rintro ⟨u, v, h1, h2, h3, h4, h5⟩
      have e1 : u = a ∧ v = b := by omega
      obtain ⟨rfl, rfl⟩ := e1
      have h6 := (h.iff u v h1 h2).1 h3
      refine ⟨h6.1, fun hm => ?_⟩
      rcases List.mem_append.1 hm with hm | hm
      · exact h6.2 hm
      · simp at hm; exact h4 hm
    · rintro ⟨h1, h2⟩
      refine ⟨a, b, hab, hb, (h.iff a b hab hb).2 ⟨h1, fun hm => h2 (List.mem_append.2 (Or.inl hm))⟩, fun e => h2 (List.mem_append.2 (Or.inr (by simp [e]))), Or.inl ⟨rfl, rfl⟩⟩
theorem LeftI.len {N : Nat} {es cs : List Pair} {i : Nat} {p : Int → Int → Bool} (h : LeftI N es cs i p) : (allP N p).length ≤ es.length := by
  refine Nat.le_trans (nodup_len (allP N p) (allP N (hasB es)) (allP_nodup N p) (fun e he => ?_)) (allP_has_le N es)
  obtain ⟨u, v, h1, h2, h3, rfl⟩ := allP_mem.1 he
  exact allP_mem.2 ⟨u, v, h1, h2, ((h.iff u v h1 h2).1 h3).1, rfl⟩
/-- Behind the cut nothing is reached. -/
theorem LeftI.shut {N s t : Nat} {es : List Pair} {F : Nat → Int} {p : Int → Int → Bool} {n : Nat} (h : LeftI N es (cutL F (allP N (hasB es))) n p) (hn : (cutL F (allP N (hasB es))).length ≤ n) (hs : s < N) (h0 : F s = 0) (ht : F t = -1) : ¬ Star (St N (pn p) (openB (fun _ => false))) s t := by
  intro hst
  have key := Star.closed (e := St N (pn p) (openB (fun _ => false))) (P := fun v => v < N ∧ F v ≠ -1) (fun a b ha hab => by
    refine ⟨hab.1, ?_⟩
    have hp : p a b = true := hab.2.1
    have hb := hab.1
    have hcut : ∀ u v : Nat, u < v → v < N → p u v = true → (F u = -1 ↔ F v = -1) := fun u v h1 h2 h3 => by
      obtain ⟨g1, g2⟩ := (h.iff u v h1 h2).1 h3
      rw [List.take_of_length_le hn] at g2
      have hm : ((u : Int), (v : Int)) ∈ allP N (hasB es) := allP_mem.2 ⟨u, v, h1, h2, g1, rfl⟩
      have hc : cutB F ((u : Int), (v : Int)) = false := by
        cases hq : cutB F ((u : Int), (v : Int))
        · rfl
        · exact absurd (List.mem_filter.2 ⟨hm, hq⟩) g2
      simp [cutB] at hc
      exact hc
    rcases Nat.lt_trichotomy a b with hlt | rfl | hlt
    · exact fun hF => ha.2 ((hcut a b hlt hb hp).2 hF)
    · exact ha.2
    · have hp' : p b a = true := by rw [h.sym b a hb ha.1]; exact hp
      exact fun hF => ha.2 ((hcut b a hlt ha.1 hp').1 hF)) hst ⟨hs, by rw [h0]; omega⟩
  exact key.2 ht
end Go.Proofs.Ytkakmaalmhofmaa
