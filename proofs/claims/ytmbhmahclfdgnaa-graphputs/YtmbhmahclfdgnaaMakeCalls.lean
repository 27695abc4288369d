/- The function values of Induced and of the statement on Complement, Line and Induced. -/
import Derived.Test.YtmbhmahclfdgnaaLine
import Derived.BigQuiet
import Derived.Deep.QuietTactic
namespace Go.Proofs.Ytmbhmahclfdgnaa
open Go.RowKit Go.Maps
attribute [local go_sem ↓] Go.wp_at_zero Go.wp_at_succ

/-- A place of a table. -/
theorem GridAt.place {w : World} {ao : Option Addr} {n cap m : Nat} {p : Int → Int → Bool} (h : GridAt w (.slice ao n cap) m p) {i j : Nat} (hi : i < m) (hj : j < m) :
    ∃ g b, ao = some ⟨g, 0, none⟩ ∧ w.cell? ⟨g, i, none⟩ = some (.slice (some ⟨b, 0, none⟩) m m) ∧ w.cell? ⟨b, j, none⟩ = some (.bool (p i j)) := by
  obtain ⟨ao', cap', e, h2⟩ := h
  cases e
  obtain ⟨g, b, e, c0, c1⟩ := h2 i hi
  exact ⟨g, b, e, c0, c1 j hj⟩

theorem enter23 (args : Array Value) (w : World) : (callFunc 23 args).run Try.prog w = .ok (.enter 23 args) w := by
  simp [callFunc, Try.func23, go_sem]
  rw [if_neg (of_decide_eq_true (by kernel_rfl)), if_neg (by intro h; have : Try.f23.body.isSome = true := (by kernel_rfl); rw [h] at this; cases this)]
theorem enter24 (args : Array Value) (w : World) : (callFunc 24 args).run Try.prog w = .ok (.enter 24 args) w := by
  simp [callFunc, Try.func24, go_sem]
  rw [if_neg (of_decide_eq_true (by kernel_rfl)), if_neg (by intro h; have : Try.f24.body.isSome = true := (by kernel_rfl); rw [h] at this; cases this)]
theorem enter26 (args : Array Value) (w : World) : (callFunc 26 args).run Try.prog w = .ok (.enter 26 args) w := by
  simp [callFunc, Try.func26, go_sem]
  rw [if_neg (of_decide_eq_true (by kernel_rfl)), if_neg (by intro h; have : Try.f26.body.isSome = true := (by kernel_rfl); rw [h] at this; cases this)]
theorem enter39 (args : Array Value) (w : World) : (callFunc 39 args).run Try.prog w = .ok (.enter 39 args) w := by
  simp [callFunc, Try.func39, go_sem]
  rw [if_neg (of_decide_eq_true (by kernel_rfl)), if_neg (by intro h; have : Try.f39.body.isSome = true := (by kernel_rfl); rw [h] at this; cases this)]

set_option maxHeartbeats 1000000 in
theorem complRef_call {w : World} {B : Nat} {to : Option Addr} {m tc : Nat} {es : List Pair} (hc : w.cell? ⟨B, 0, none⟩ = some (.slice to m tc)) (hG : GridAt w (.slice to m tc) m (hasB es)) {u v : Nat} (hu : u < m) (hv : v < m) (_hm : m ≤ 100) :
    Calls Try.prog 23 #[.int .i64 u, .int .i64 v, .pointer (some ⟨B, 0, none⟩)] w fun e w' => e = .returned (.bool (!hasB es u v)) ∧ Below w.heap.size w w' := by
  obtain ⟨g, b, rfl, c0, c1⟩ := hG.place hu hv
  clear hG
  go_enter Try.func23, Try.ntmps23
  go_wp2
  go_ret
  exact ⟨rfl, Below.refl _ _⟩

set_option maxHeartbeats 2000000 in
theorem lineRef_call {w : World} {B : Nat} {ao : Option Addr} {cap : Nat} {L : List Pair} (hc : w.cell? ⟨B, 0, none⟩ = some (.slice ao L.length cap)) (hE : EdgesAt w (.slice ao L.length cap) L) {u v : Nat} (hu : u < L.length) (hv : v < L.length) :
    Calls Try.prog 24 #[.int .i64 u, .int .i64 v, .pointer (some ⟨B, 0, none⟩)] w fun e w' => e = .returned (.bool (lineP L u v)) ∧ Below w.heap.size w w' := by
  rw [lineP_at hu hv]
  obtain ⟨bb, off, rfl, x0, x1⟩ := hE.at hu
  obtain ⟨b', off', e, y0, y1⟩ := hE.at hv
  cases e
  have hl : L.length ≤ 8796093022208 := by obtain ⟨_, _, _, h, _⟩ := hE; exact h
  clear hE
  obtain ⟨a, b, hxu⟩ : ∃ x y, L[u] = (x, y) := ⟨L[u].1, L[u].2, rfl⟩
  obtain ⟨c, d, hyv⟩ : ∃ x y, L[v] = (x, y) := ⟨L[v].1, L[v].2, rfl⟩
  rw [hxu] at x0 x1
  rw [hyv] at y0 y1
  rw [hxu, hyv]
  clear hxu hyv
  have u1 : (0 : Int) ≤ (u : Int) := by omega
  have u2 : (u : Int) < (L.length : Int) := by omega
  have v1 : (0 : Int) ≤ (v : Int) := by omega
  have v2 : (v : Int) < (L.length : Int) := by omega
  by_cases h1 : (a == c) = true
  · have e : meetB (a, b) (c, d) = true := by unfold meetB; simp only [h1]; rfl
    rw [e]
    go_enter Try.func24, Try.ntmps24
    go_wp2
    go_quiet (fail)
    go_wp2
    go_ret
    exact ⟨rfl, below_drewN (Below.refl _ _) _⟩
  · have h1' : (a == c) = false := by simpa using h1
    by_cases h2 : (a == d) = true
    · have e : meetB (a, b) (c, d) = true := by unfold meetB; simp only [h1', h2]; rfl
      rw [e]
      go_enter Try.func24, Try.ntmps24
      go_wp2
      go_quiet (fail)
      go_wp2
      go_ret
      exact ⟨rfl, below_drewN (Below.refl _ _) _⟩
    · have h2' : (a == d) = false := by simpa using h2
      by_cases h3 : (b == c) = true
      · have e : meetB (a, b) (c, d) = true := by unfold meetB; simp only [h1', h2', h3]; rfl
        rw [e]
        go_enter Try.func24, Try.ntmps24
        go_wp2
        go_quiet (fail)
        go_wp2
        go_ret
        exact ⟨rfl, below_drewN (Below.refl _ _) _⟩
      · have h3' : (b == c) = false := by simpa using h3
        have e : meetB (a, b) (c, d) = (b == d) := by unfold meetB; simp only [h1', h2', h3']; rfl
        rw [e]
        go_enter Try.func24, Try.ntmps24
        go_wp2
        go_quiet (fail)
        go_wp2
        go_ret
        exact ⟨rfl, below_drewN (Below.refl _ _) _⟩

/-- Which of the named nodes, by their places, are near each other. -/
def indP (es : List Pair) (l : List Int) (u v : Int) : Bool := hasB es (l.getD u.toNat 0) (l.getD v.toNat 0)
theorem indP_at {es : List Pair} {l : List Int} {u v : Nat} (hu : u < l.length) (hv : v < l.length) : indP es l u v = hasB es l[u] l[v] := by
  simp [indP, hu, hv]

theorem IntsAt.at {w : World} {ao : Option Addr} {n cap : Nat} {l : List Int} (h : IntsAt w (.slice ao n cap) l) {k : Nat} (hk : k < l.length) :
    ∃ b off, ao = some ⟨b, off, none⟩ ∧ w.cell? ⟨b, off + k, none⟩ = some (.int .i64 l[k]) := by
  obtain ⟨ao', cap', e, _, _, h4⟩ := h
  cases e
  exact h4 k hk

set_option maxHeartbeats 1000000 in
theorem indRef_call {w : World} {Bt Bn : Nat} {to no : Option Addr} {m tc nc : Nat} {es : List Pair} {l : List Int} (ht : w.cell? ⟨Bt, 0, none⟩ = some (.slice to m tc)) (hn : w.cell? ⟨Bn, 0, none⟩ = some (.slice no l.length nc)) (hG : GridAt w (.slice to m tc) m (hasB es)) (hI : IntsAt w (.slice no l.length nc) l) (hr : ∀ x ∈ l, 0 ≤ x ∧ x < m) {u v : Nat} (hu : u < l.length) (hv : v < l.length) (_hm : m ≤ 100) :
    Calls Try.prog 26 #[.int .i64 u, .int .i64 v, .pointer (some ⟨Bt, 0, none⟩), .pointer (some ⟨Bn, 0, none⟩)] w fun e w' => e = .returned (.bool (indP es l u v)) ∧ Below w.heap.size w w' := by
  rw [indP_at hu hv]
  have hl : l.length ≤ 17592186044416 := by obtain ⟨_, _, _, h, _⟩ := hI; exact h
  obtain ⟨b, off, rfl, x0⟩ := hI.at hu
  obtain ⟨b', off', e, y0⟩ := hI.at hv
  cases e
  have ru := hr l[u] (List.getElem_mem _)
  have rv := hr l[v] (List.getElem_mem _)
  generalize l[u] = x at x0 ru
  generalize l[v] = y at y0 rv
  obtain ⟨i, rfl⟩ : ∃ i : Nat, x = i := ⟨x.toNat, by omega⟩
  obtain ⟨j, rfl⟩ : ∃ j : Nat, y = j := ⟨y.toNat, by omega⟩
  obtain ⟨g, bb, rfl, c0, c1⟩ := hG.place (i := i) (j := j) (by omega) (by omega)
  clear hG hI hr
  have u1 : (0 : Int) ≤ (u : Int) := by omega
  have u2 : (u : Int) < (l.length : Int) := by omega
  have v1 : (0 : Int) ≤ (v : Int) := by omega
  have v2 : (v : Int) < (l.length : Int) := by omega
  go_enter Try.func26, Try.ntmps26
  go_wp2
  go_quiet (fail)
  go_wp2
  go_ret
  exact ⟨rfl, below_drewN (Below.refl _ _) _⟩

theorem keep_ind {w : World} {By Bn b off u v : Nat} {f s : Value} {x y : Int} (hf : w.cell? ⟨By, 0, none⟩ = some f) (hn : w.cell? ⟨Bn, 0, none⟩ = some s) (x0 : w.cell? ⟨b, off + u, none⟩ = some (.int .i64 x)) (y0 : w.cell? ⟨b, off + v, none⟩ = some (.int .i64 y)) {w' : World} (hb : Below w.heap.size w w') :
    Below w.heap.size w w' ∧ w'.cell? ⟨By, 0, none⟩ = some f ∧ w'.cell? ⟨Bn, 0, none⟩ = some s ∧ w'.cell? ⟨b, off + u, none⟩ = some (.int .i64 x) ∧ w'.cell? ⟨b, off + v, none⟩ = some (.int .i64 y) :=
  ⟨hb, (hb.cell (World.block_lt_of_cell? w _ hf)).trans hf, (hb.cell (World.block_lt_of_cell? w _ hn)).trans hn, (hb.cell (World.block_lt_of_cell? w _ x0)).trans x0, (hb.cell (World.block_lt_of_cell? w _ y0)).trans y0⟩

set_option maxHeartbeats 1000000 in
theorem ind_call {w : World} {By Bn Bx : Nat} {no : Option Addr} {nc : Nat} {es : List Pair} {l : List Int} (hy : w.cell? ⟨By, 0, none⟩ = some (.func (.func 44) #[] #[.pointer (some ⟨Bx, 0, none⟩)])) (hn : w.cell? ⟨Bn, 0, none⟩ = some (.slice no l.length nc)) (hN : NearAt w Bx es) (hI : IntsAt w (.slice no l.length nc) l) {u v : Nat} (hu : u < l.length) (hv : v < l.length) :
    Calls Try.prog 39 #[.int .i64 u, .int .i64 v, .pointer (some ⟨By, 0, none⟩), .pointer (some ⟨Bn, 0, none⟩)] w fun e w' => e = .returned (.bool (indP es l u v)) ∧ Below w.heap.size w w' := by
  rw [indP_at hu hv]
  have hl : l.length ≤ 17592186044416 := by obtain ⟨_, _, _, h, _⟩ := hI; exact h
  have hi64 : ∀ x ∈ l, I64 x := by obtain ⟨_, _, _, _, h, _⟩ := hI; exact h
  obtain ⟨b, off, rfl, x0⟩ := hI.at hu
  obtain ⟨b', off', e, y0⟩ := hI.at hv
  cases e
  have ru := hi64 l[u] (List.getElem_mem _)
  have rv := hi64 l[v] (List.getElem_mem _)
  generalize l[u] = x at x0 ru
  generalize l[v] = y at y0 rv
  have HN : Hid _ := hN
  clear hI hi64 hN
  have u1 : (0 : Int) ≤ (u : Int) := by omega
  have u2 : (u : Int) < (l.length : Int) := by omega
  have v1 : (0 : Int) ≤ (v : Int) := by omega
  have v2 : (v : Int) < (l.length : Int) := by omega
  go_enter Try.func39, Try.ntmps39
  go_wp2_with fail
  go_region_held3 (fun w' => Below w.heap.size w w' ∧ w'.cell? ⟨By, 0, none⟩ = some (.func (.func 44) #[] #[.pointer (some ⟨Bx, 0, none⟩)]) ∧ w'.cell? ⟨Bn, 0, none⟩ = some (.slice (some ⟨b, off, none⟩) l.length nc) ∧ w'.cell? ⟨b, off + u, none⟩ = some (.int .i64 x) ∧ w'.cell? ⟨b, off + v, none⟩ = some (.int .i64 y))
    (first | assumption | exact keep_ind hy hn x0 y0 (Below.refl _ _).drew | (go_split_ands; exact keep_ind hy hn x0 y0 (below_next (by assumption) hbk)))
    ((go_at_call 44; go_split_ands; refine (near_has (NearAt.below HN.out ?_) ru rv).mono ?_; assumption; rintro e w1 ⟨rfl, hbk⟩))
  all_goals
    go_split_ands
    go_wp2
    go_ret
    exact ⟨rfl, by assumption⟩
end Go.Proofs.Ytmbhmahclfdgnaa
