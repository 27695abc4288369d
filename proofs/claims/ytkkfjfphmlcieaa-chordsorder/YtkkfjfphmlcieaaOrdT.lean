/- What Order answers, as the law reads it. -/
import Derived.Test.YtkkfjfphmlcieaaRefO
namespace Go.Proofs.Ytkkfjfphmlcieaa
open Go.RowKit Go.Maps
structure OrdR (N : Nat) (es : List Pair) (w : World) (O h : List Nat) (oo : Option Addr) (oc : Nat) : Prop where
  hole : h.length = 0
  ord : IsOrd N (bothB es) O
  nums : NumsAt w oo O
  cap : O.length ≤ oc
structure HoleR (N : Nat) (es : List Pair) (w : World) (O h : List Nat) (po : Option Addr) : Prop where
  none : O.length = 0
  hole : IsHole N (bothB es) h
  nums : NumsAt w po h
def OrdOr (N : Nat) (es : List Pair) (w : World) (O h : List Nat) (oo : Option Addr) (oc : Nat) (po : Option Addr) : Prop := OrdR N es w O h oo oc ∨ HoleR N es w O h po
section
variable {N : Nat} {es : List Pair} {w w' : World} {O h : List Nat} {oo po : Option Addr} {oc : Nat}
theorem OrdR.below (H : OrdR N es w O h oo oc) (hb : Below w.heap.size w w') : OrdR N es w' O h oo oc := ⟨H.hole, H.ord, H.nums.below hb, H.cap⟩
theorem OrdOr.below (H : OrdOr N es w O h oo oc po) (hb : Below w.heap.size w w') : OrdOr N es w' O h oo oc po := by
  rcases H with H | H
  · exact Or.inl (H.below hb)
  · exact Or.inr ⟨H.none, H.hole, H.nums.below hb⟩
theorem getD_get {l : List Nat} {i : Nat} (hi : i < l.length) : l[i]? = some (l.getD i 0) := by simp [List.getD, List.getElem?_eq_getElem hi]
theorem OrdR.all (H : OrdR N es w O h oo oc) (hN : N ≤ 100) : Calls Try.prog 12 #[.slice oo N oc, .int .i64 (N : Int)] w fun e w' => e = .returned (.bool true) ∧ Below w.heap.size w w' := by
  have hl := H.ord.len
  refine all_true (f := fun i => (O.getD i 0 : Int)) (fun j hj => ?_) (by omega) (by have := H.cap; omega) (fun j hj => ?_) (fun i j hi hj e => ?_)
  · obtain ⟨b, e, hc⟩ := H.nums j _ (getD_get (by omega))
    exact ⟨b, 0, e, by rw [Nat.zero_add]; exact hc⟩
  · have := H.ord.lt _ (List.mem_of_getElem? (getD_get (l := O) (i := j) (by omega)))
    show (0 : Int) ≤ (O.getD j 0 : Int) ∧ (O.getD j 0 : Int) < (N : Int)
    omega
  · have e1 : O.getD i 0 = O.getD j 0 := by
      have e' : (O.getD i 0 : Int) = (O.getD j 0 : Int) := e
      omega
    have h1 := getD_get (l := O) (i := i) (by omega)
    have h2 := getD_get (l := O) (i := j) (by omega)
    rw [← e1] at h2
    exact (List.getElem?_inj (by omega) H.ord.nd).1 (h1.trans h2.symm)
theorem OrdR.three (H : OrdR N es w O h oo oc) {i j k : Nat} (hi : i < N) (hj : j < N) (hk : k < N) (hik : i < k) (hkj : k < j) (hb : Below w.heap.size w w') : ∃ x y z : Nat, x < N ∧ y < N ∧ z < N ∧ ∃ b, oo = some ⟨b, 0, none⟩ ∧ w'.cell? ⟨b, i, none⟩ = some (.int .i64 (x : Int)) ∧ w'.cell? ⟨b, j, none⟩ = some (.int .i64 (y : Int)) ∧ w'.cell? ⟨b, k, none⟩ = some (.int .i64 (z : Int)) ∧ (hasB es x y = true → hasB es x z = true → hasB es y z = true) := by
  have hl := H.ord.len
  have H' := H.below hb
  have g : ∀ {i}, i < N → O[i]? = some (O.getD i 0) := fun {i} hi => getD_get (by omega)
  have lt : ∀ {i}, i < N → O.getD i 0 < N := fun {i} hi => H.ord.lt _ (List.mem_of_getElem? (g hi))
  obtain ⟨b, e, c1⟩ := H'.nums i _ (g hi)
  obtain ⟨b2, e2, c2⟩ := H'.nums j _ (g hj)
  obtain ⟨b3, e3, c3⟩ := H'.nums k _ (g hk)
  subst e
  cases e2
  cases e3
  exact ⟨_, _, _, lt hi, lt hj, lt hk, b, rfl, c1, c2, c3, H.ord.ok i j k hik hkj hj⟩
theorem GridAt.row {ao : Option Addr} {cap : Nat} {p : Int → Int → Bool} (H : GridAt w (.slice ao N cap) N p) {x : Nat} (hx : x < N) (hb : Below w.heap.size w w') : ∃ g b, ao = some ⟨g, 0, none⟩ ∧ w'.cell? ⟨g, x, none⟩ = some (.slice (some ⟨b, 0, none⟩) N N) ∧ ∀ y : Nat, y < N → w'.cell? ⟨b, y, none⟩ = some (.bool (p x y)) := by
  obtain ⟨ao', cap', e, h⟩ := H.below hb
  cases e
  exact h x hx
theorem HoleR.many (H : HoleR N es w O h po) : h.length ≤ N := by
  have hn : h.Nodup := by
    rw [List.nodup_iff_pairwise_ne, List.pairwise_iff_getElem]
    intro i j hi hj hij
    have := H.hole.ne i j hij hj
    simpa [List.getD, List.getElem?_eq_getElem hi, List.getElem?_eq_getElem hj] using this
  have := nat_nodup_len h (List.range N) hn (fun x hx => List.mem_range.2 (H.hole.lt x hx))
  simpa using this
theorem HoleR.clear (H : HoleR N es w O h po) {ao : Option Addr} {cap pc : Nat} (hG : GridAt w (.slice ao N cap) N (hasB es)) (hN : N ≤ 100) : Calls Try.prog 11 #[.slice ao N cap, .slice po h.length pc] w fun e w' => e = .returned (.bool true) ∧ Below w.heap.size w w' := by
  have hm := H.many
  have h4 := H.hole.len
  have hs := bothB_sym es
  obtain ⟨b, e, _⟩ := H.nums 0 _ (getD_get (by omega))
  subst e
  refine clear_call N ao cap (hasB es) w hG (rg := fun i => h.getD i 0) (fun k hk => ?_) (by omega) ⟨by omega, fun i hi => ?_, fun i j hi hj => ?_, fun i hi => ?_⟩ (fun i j hij hi hno => ?_)
  · obtain ⟨b', e', c⟩ := H.nums k _ (getD_get hk)
    cases e'
    exact c
  · exact H.hole.lt _ (List.mem_of_getElem? (getD_get hi))
  · exact fun e => H.hole.ne j i hj hi e.symm
  · by_cases hl : i + 1 < h.length
    · have := H.hole.next i hl
      rw [Nat.mod_eq_of_lt hl]
      exact this
    · have hi' : i = h.length - 1 := by omega
      have e0 : (i + 1) % h.length = 0 := by rw [show i + 1 = h.length by omega]; exact Nat.mod_self _
      rw [e0, hi']
      exact H.hole.last
  · have := H.hole.no j i hij hi (fun ⟨a, b⟩ => hno ⟨b, a⟩)
    rw [hs] at this
    exact this
theorem row_cap {w : World} {base : Nat} {oo : Option Addr} {oc : Nat} {xs : List Value} {n : Nat} (h : w.ownsRow base 3 1 (.slice oo n oc) n xs) : n ≤ oc := by
  rcases h.2 with ⟨e, e2⟩ | ⟨g, cap, cur, e, r⟩
  · cases e
    omega
  · cases e
    exact r.2.2.1
theorem ordOr_of {f : Nat} {args : Array Value} {b : Nat} (H : Calls Try.prog f args w fun r w' => OrderEnd N es b r w' ∧ Below w.heap.size w w') : Calls Try.prog f args w fun r w' => ∃ (O h : List Nat) (oo : Option Addr) (oc : Nat) (po : Option Addr) (pc : Nat), r = .returned (.tuple #[.slice oo O.length oc, .slice po h.length pc, .agg #[.int .i64 0, .int .i64 0]]) ∧ OrdOr N es w' O h oo oc po ∧ Below w.heap.size w w' := by
  refine H.mono ?_
  rintro r w' ⟨⟨O, oo, oc, rfl, h1, h2⟩ | ⟨l, po, pc, rfl, h1, h2⟩, hb⟩
  · exact ⟨O, [], oo, oc, none, 0, rfl, Or.inl ⟨rfl, h2, numsAt_own h1, row_cap h1⟩, hb⟩
  · exact ⟨[], l, none, 0, po, pc, rfl, Or.inr ⟨rfl, h2, numsAt_own h1⟩, hb⟩
end
end Go.Proofs.Ytkkfjfphmlcieaa
