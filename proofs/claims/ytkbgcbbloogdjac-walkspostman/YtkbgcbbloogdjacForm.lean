/- Form: the graph in form, or its first fault. -/
import Derived.Test.YtkbgcbbloogdjacBuild
namespace Go.Proofs.Ytkbgcbbloogdjac
open Go.RowKit Go.Maps

theorem bcell {W w1 : World} (hb : Below W.heap.size W w1) :
    (∀ b o, b < W.heap.size → w1.cell? ⟨b, o, none⟩ = W.cell? ⟨b, o, none⟩) ∧ (∀ b o, b < W.heap.size → w1.frozen? ⟨b, o, none⟩ = W.frozen? ⟨b, o, none⟩) ∧
    (∀ b o ob, b < W.heap.size → (w1.alloc ob).cell? ⟨b, o, none⟩ = W.cell? ⟨b, o, none⟩) ∧ (∀ b o ob, b < W.heap.size → (w1.alloc ob).frozen? ⟨b, o, none⟩ = W.frozen? ⟨b, o, none⟩) ∧
    (∀ b o ob oc, b < W.heap.size → ((w1.alloc ob).alloc oc).cell? ⟨b, o, none⟩ = W.cell? ⟨b, o, none⟩) ∧ (∀ b o ob oc, b < W.heap.size → ((w1.alloc ob).alloc oc).frozen? ⟨b, o, none⟩ = W.frozen? ⟨b, o, none⟩) :=
  ⟨fun b o h => hb.cell (p := ⟨b, o, none⟩) h, fun b o h => hb.frozen (p := ⟨b, o, none⟩) h,
   fun b o _ h => (below_alloc hb _).cell (p := ⟨b, o, none⟩) h, fun b o _ h => (below_alloc hb _).frozen (p := ⟨b, o, none⟩) h,
   fun b o _ _ h => (below_alloc (below_alloc hb _) _).cell (p := ⟨b, o, none⟩) h, fun b o _ _ h => (below_alloc (below_alloc hb _) _).frozen (p := ⟨b, o, none⟩) h⟩

theorem below_set4 {w w1 : World} (h : Below w.heap.size w w1) {a b c d : Addr} (ha : w.heap.size ≤ a.block) (hb : w.heap.size ≤ b.block) (hc : w.heap.size ≤ c.block) (hd : w.heap.size ≤ d.block) {x y z u : Value} :
    Below w.heap.size w ((((w1.setCell a x).setCell b y).setCell c z).setCell d u) := (((h.setCell ha _).setCell hb _).setCell hc _).setCell hd _

/-- What a function that makes a graph answers. -/
structure Ans where
  n : Int
  es : List Pair
  c : Int
  pos : Int

def Tells (F : FuncId) (args : Array Value) (w : World) (a : Ans) : Prop :=
  Calls Try.prog F args w fun e w' => Below w.heap.size w w' ∧ ∃ ao cap, e = .returned (.tuple #[.agg #[.int .i64 a.n, .slice ao a.es.length cap], .agg #[.int .i64 a.c, .int .i64 a.pos]]) ∧ EdgesAt w' (.slice ao a.es.length cap) a.es ∧ ∀ x, ao = some x → w.heap.size ≤ x.block

theorem EdgesAt.setCell {w : World} {ao : Option Addr} {n cap : Nat} {es : List Pair} (h : EdgesAt w (.slice ao n cap) es) {p : Addr} (hp : ∀ x, ao = some x → x.block ≠ p.block) (u : Value) : EdgesAt (w.setCell p u) (.slice ao n cap) es := by
  obtain ⟨ao', cap', e, h2, h3, h4⟩ := h
  cases e
  refine ⟨ao, cap, rfl, h2, h3, fun k hk => ?_⟩
  obtain ⟨b, off, e, c0, c1⟩ := h4 k hk
  have hne : p.block ≠ b := fun e' => hp _ e e'.symm
  exact ⟨b, off, e, by rw [World.cell?_setCell_far _ _ _ _ hne]; exact c0, by rw [World.cell?_setCell_far _ _ _ _ hne]; exact c1⟩

theorem EdgesAt.form {w : World} {v : Value} {es : List Pair} (h : EdgesAt w v es) : ∃ ao cap, v = .slice ao es.length cap := by
  obtain ⟨ao, cap, rfl, _⟩ := h
  exact ⟨ao, cap, rfl⟩

theorem edgesAt_nil (w : World) : EdgesAt w (.slice none 0 0) [] := ⟨none, 0, rfl, by simp, by simp, fun k h => absurd h (by simp)⟩

theorem flat_get (L : List Pair) : ∀ k (h : k < L.length), (flat L)[k * 2]? = some (.int .i64 L[k].1) ∧ (flat L)[k * 2 + 1]? = some (.int .i64 L[k].2) := by
  induction L with
  | nil => intro k h; simp at h
  | cons e L ih =>
    intro k h
    cases k with
    | zero => simp [flat]
    | succ k =>
      have h2 := ih k (by simpa using h)
      have e1 : (k + 1) * 2 = k * 2 + 2 := by omega
      rw [e1]
      simpa [flat] using h2

theorem add_none (g j : Nat) : (⟨g, 0, none⟩ : Addr).add j = ⟨g, j, none⟩ := by unfold Addr.add; split <;> simp_all

theorem edgesAt_row {w : World} {base : Nat} {v : Value} {L : List Pair} (h : w.ownsRow base 59 2 v L.length (flat L)) (hI : ∀ e ∈ L, I64 e.1 ∧ I64 e.2) (hl : L.length ≤ 8796093022208) : EdgesAt w v L := by
  rcases h.2 with ⟨rfl, e⟩ | ⟨g, cap, cur, rfl, _⟩
  · exact ⟨none, 0, by rw [e], hl, hI, fun k hk => by omega⟩
  · refine ⟨_, cap, rfl, hl, hI, fun k hk => ⟨g, 0, rfl, ?_, ?_⟩⟩
    · have := h.cells (g := g) rfl _ _ (flat_get L k hk).1
      rw [add_none] at this
      simpa using this
    · have := h.cells (g := g) rfl _ _ (flat_get L k hk).2
      rw [add_none] at this
      simpa using this

theorem allP_mem {n : Nat} {p : Int → Int → Bool} {e : Pair} : e ∈ allP n p ↔ ∃ u v : Nat, u < v ∧ v < n ∧ p u v = true ∧ e = ((u : Int), (v : Int)) := by
  simp only [allP, rowsTo, List.mem_flatMap, List.mem_range, rowTo, List.mem_map, List.mem_filter, Bool.and_eq_true, decide_eq_true_eq]
  constructor
  · rintro ⟨u, hu, v, ⟨hv, huv, hp⟩, rfl⟩
    exact ⟨u, v, huv, hv, hp, rfl⟩
  · rintro ⟨u, v, huv, hv, hp, rfl⟩
    exact ⟨u, by omega, v, ⟨hv, huv, hp⟩, rfl⟩

def buildS (n : Nat) (p : Int → Int → Bool) : Ans := if 100 < n ∨ 1000 < (allP n p).length then ⟨0, [], 2, 0⟩ else ⟨n, allP n p, 0, 0⟩

theorem buildS_ok {n : Nat} {p : Int → Int → Bool} (hn : n ≤ 100) (hl : (allP n p).length ≤ 1000) : buildS n p = ⟨n, allP n p, 0, 0⟩ := by
  unfold buildS; rw [if_neg (by omega)]
theorem buildS_many {n : Nat} {p : Int → Int → Bool} (h : 100 < n ∨ 1000 < (allP n p).length) : buildS n p = ⟨0, [], 2, 0⟩ := by
  unfold buildS; rw [if_pos h]

set_option maxHeartbeats 400000 in
theorem build_many (n : Nat) (f : Value) (w : World) (hn : 100 < n) :
    Calls Try.prog 60 #[.int .i64 n, f] w fun e w' => Below w.heap.size w w' ∧ e = .returned (.tuple #[.agg #[.int .i64 0, .slice none 0 0], .agg #[.int .i64 2, .int .i64 0]]) := by
  have hn2 : (100 : Int) < (n : Int) := by omega
  go_enter Try.func60, Try.ntmps60
  go_wp2
  refine bodyPost_ret (v := .tuple #[.agg #[.int .i64 0, .slice none 0 0], .agg #[.int .i64 2, .int .i64 0]]) ?_ rfl ⟨below_alloc (below_alloc (Below.refl _ _) _) _, rfl⟩
  simp [results, Try.results60, go_sem]

theorem build_tells (n : Nat) (F : FuncId) (caps : Array Value) (p : Int → Int → Bool) (w : World) (hF : ∀ args w', (callFunc F args).run Try.prog w' = .ok (.enter F args) w')
    (hnear : n ≤ 100 → ∀ w', Below w.heap.size w w' → ∀ u v : Nat, u < v → v < n → Calls Try.prog F (#[.int .i64 u, .int .i64 v] ++ caps) w' fun e w'' => e = .returned (.bool (p u v)) ∧ Below w'.heap.size w' w'') :
    Tells 60 #[.int .i64 n, .func (.func F) #[] caps] w (buildS n p) := by
  by_cases hn : n ≤ 100
  · refine (build_any n F caps p w hn hF (hnear hn)).mono ?_
    rintro e w' ⟨hb, ⟨hl, rfl⟩ | ⟨hl, v, rfl, hown⟩⟩
    · rw [buildS_many (Or.inr hl)]
      exact ⟨hb, _, _, rfl, edgesAt_nil _, fun x h => by cases h⟩
    · rw [buildS_ok hn hl]
      have hE := edgesAt_row hown ?_ (by omega)
      · obtain ⟨ao, cap, rfl⟩ := hE.form
        exact ⟨hb, ao, cap, rfl, hE, fun x hx => (hown.lt _ (by rw [hx]; rfl)).1⟩
      intro e he
      obtain ⟨u, v, h1, h2, _, rfl⟩ := allP_mem.1 he
      constructor <;> unfold I64 <;> simp <;> omega
  · refine (build_many n _ w (by omega)).mono ?_
    rintro e w' ⟨hb, rfl⟩
    rw [buildS_many (Or.inl (by omega))]
    exact ⟨hb, _, _, rfl, edgesAt_nil _, fun x h => by cases h⟩

theorem enter70 (args : Array Value) (w : World) : (callFunc 70 args).run Try.prog w = .ok (.enter 70 args) w := by
  simp [callFunc, Try.func70, go_sem]
  rw [if_neg (of_decide_eq_true (by kernel_rfl)), if_neg (by intro h; have : Try.f70.body.isSome = true := (by kernel_rfl); rw [h] at this; cases this)]

def formS (n : Int) (es : List Pair) : Ans := if (chk n es).1 = 0 then buildS n.toNat (hasB es) else ⟨0, [], (chk n es).1, (chk n es).2⟩

set_option maxHeartbeats 1000000 in
theorem form_tells (n : Int) (v : Value) (es : List Pair) (w : World) (hE : EdgesAt w v es) : Tells 44 #[.agg #[.int .i64 n, v]] w (formS n es) := by
  unfold Tells
  go_enter Try.func44, Try.ntmps44
  by_cases hc0 : (chk n es).1 = 0
  · have hc1 : ((chk n es).1 != 0) = false := by simpa using hc0
    obtain ⟨hck, hn0, hn1, hl, hgood⟩ := chk_good hc0
    obtain ⟨m, rfl⟩ : ∃ m : Nat, n = m := ⟨n.toNat, by omega⟩
    have HG : Hid _ := hgood
    clear hgood
    go_wp2_with (first | (go_at_call 59; refine (nearIn_any _ v es _ ?_).mono ?_; exact hE.below (below_alloc (below_alloc (below_alloc (Below.refl _ _) _) _) _); rintro e w1 ⟨hb, ⟨hc, rfl⟩ | ⟨hc, Bx, rfl, hnear⟩⟩; exact absurd hc0 hc; obtain ⟨bc, bf, bc1, bf1, bc2, bf2⟩ := bcell hb; have hz := hb.size; simp at hz) | (go_at_call 60; refine (build_tells m 70 #[.pointer (some ⟨Bx, 0, none⟩)] (hasB es) _ enter70 ?_).mono ?_; exact fun hm w' hw' u v h1 h2 => near_has ((hnear.below (below_alloc (Below.refl _ _) _)).below hw') (by constructor <;> omega) (by constructor <;> omega); rintro e w2 ⟨hb2, ao2, cap2, rfl, hE2, hfr⟩; have hb3 := below_next (below_alloc hb _) hb2; obtain ⟨bc3, bf3, bc4, bf4, bc5, bf5⟩ := bcell hb3))
    rw [show formS m es = buildS m (hasB es) by unfold formS; rw [if_pos hc0]; simp]
    refine bodyPost_ret (v := .tuple #[.agg #[.int .i64 (buildS m (hasB es)).n, .slice ao2 (buildS m (hasB es)).es.length cap2], .agg #[.int .i64 (buildS m (hasB es)).c, .int .i64 (buildS m (hasB es)).pos]]) ?_ rfl ⟨?_, ao2, cap2, rfl, ?_, ?_⟩
    · simp [results, Try.results44, go_sem, bc3]
    · exact below_set4 (below_next (below_alloc (below_alloc (below_alloc (Below.refl _ _) _) _) _) hb3) (by simp) (by simp) (by simp; omega) (by simp; omega)
    · have q : ∀ x, ao2 = some x → w.heap.size + 1 + 1 < x.block := fun x hx => by have := hfr x hx; simp at this; omega
      exact (((hE2.setCell (fun x hx => by have := q x hx; simp; omega) _).setCell (fun x hx => by have := q x hx; simp; omega) _).setCell (fun x hx => by have := q x hx; simp; omega) _).setCell (fun x hx => by have := q x hx; simp; omega) _
    · intro x hx; have := hfr x hx; simp at this; omega
  · have hc1 : ((chk n es).1 != 0) = true := by simpa using hc0
    go_wp2_with (go_at_call 59; refine (nearIn_any n v es _ ?_).mono ?_; exact hE.below (below_alloc (below_alloc (below_alloc (Below.refl _ _) _) _) _); rintro e w1 ⟨hb, ⟨hc, rfl⟩ | ⟨hc, Bx, rfl, hnear⟩⟩; rotate_left; exact absurd hc hc0; obtain ⟨bc, bf, bc1, bf1, bc2, bf2⟩ := bcell hb; have hz := hb.size; simp at hz)
    go_region
    go_wp2
    rw [show formS n es = ⟨0, [], (chk n es).1, (chk n es).2⟩ by unfold formS; rw [if_neg hc0]]
    refine bodyPost_ret (v := .tuple #[.agg #[.int .i64 0, .slice none 0 0], .agg #[.int .i64 (chk n es).1, .int .i64 (chk n es).2]]) ?_ rfl ⟨?_, none, 0, rfl, edgesAt_nil _, fun x h => by cases h⟩
    · simp [results, Try.results44, go_sem, bc1]
    · exact (below_set4 (below_alloc (below_next (below_alloc (below_alloc (below_alloc (Below.refl _ _) _) _) _) hb) _) (by simp) (by simp) (by simp; omega) (by simp; omega)).drew
end Go.Proofs.Ytkbgcbbloogdjac
