/- Two boxes that are filled in whatever order: what they hold behind it. -/
import Derived.Test.YtmbhmahclfdgnaaPuts
import Derived.Test.YtmbhmahclfdgnaaPutRefs
import Derived.Test.YtmbhmahclfdgnaaOwnAt
import Derived.Test.YtmbhmahclfdgnaaMakesWalk
namespace Go.Proofs.Ytmbhmahclfdgnaa
open Go.RowKit Go.Maps

theorem keep2 {W : World} {ba bb : Nat} {x y x' y' : Value} (ta : Two W ba x y 24) (tb : Two W bb x' y' 24) {w' : World} (hb : Below W.heap.size W w') :
    Below W.heap.size W w' ∧ w'.cell? ⟨ba, 0, none⟩ = some x ∧ w'.cell? ⟨ba, 1, none⟩ = some y ∧ w'.cell? ⟨bb, 0, none⟩ = some x' ∧ w'.cell? ⟨bb, 1, none⟩ = some y' :=
  ⟨hb, (cell_two (two_next ta hb)).1, (cell_two (two_next ta hb)).2, (cell_two (two_next tb hb)).1, (cell_two (two_next tb hb)).2⟩
theorem below_set2 {W w : World} (h : Below W.heap.size W w) {b : Nat} (hb : W.heap.size ≤ b) {x y : Value} : Below W.heap.size W ((w.setCell ⟨b, 0, none⟩ x).setCell ⟨b, 1, none⟩ y) := (h.setCell hb _).setCell hb _
theorem two_drew {w : World} {b : Nat} {x y : Value} {t : TypeId} (h : Two w b x y t) : Two w.drew b x y t := h
theorem kkT {w : World} {b : Nat} {x y : Value} {t : TypeId} (h : Two w b x y t) :
    w.cell? ⟨b, 0, none⟩ = some x ∧ w.cell? ⟨b, 1, none⟩ = some y ∧ (∀ o, (w.alloc o).cell? ⟨b, 0, none⟩ = some x) ∧ (∀ o, (w.alloc o).cell? ⟨b, 1, none⟩ = some y) ∧
    (∀ o o', ((w.alloc o).alloc o').cell? ⟨b, 0, none⟩ = some x) ∧ (∀ o o', ((w.alloc o).alloc o').cell? ⟨b, 1, none⟩ = some y) ∧
    (∀ k, w.frozen? ⟨b, k, none⟩ = false) ∧ (∀ o k, (w.alloc o).frozen? ⟨b, k, none⟩ = false) ∧ (∀ o o' k, ((w.alloc o).alloc o').frozen? ⟨b, k, none⟩ = false) :=
  ⟨(cell_two h).1, (cell_two h).2, all_alloc (cell_two h).1, all_alloc (cell_two h).2, fun o o' => all_alloc (all_alloc (cell_two h).1 o) o', fun o o' => all_alloc (all_alloc (cell_two h).2 o) o', free_two h, fun o => free_two (two_alloc h o), fun o o' => free_two (two_alloc (two_alloc h o) o')⟩
theorem two_far {w : World} {b c : Nat} {x y : Value} {t : TypeId} (h : Two w b x y t) (hne : c ≠ b) (x' y' : Value) : Two ((w.setCell ⟨c, 0, none⟩ x').setCell ⟨c, 1, none⟩ y') b x y t := by
  rw [Two, Below.heap_setCell _ _ _ _ (by simpa using hne.symm), Below.heap_setCell _ _ _ _ (by simpa using hne.symm)]; exact h
theorem two_set {w : World} {b : Nat} {x y : Value} {t : TypeId} (h : Two w b x y t) (x' y' : Value) : Two ((w.setCell ⟨b, 0, none⟩ x').setCell ⟨b, 1, none⟩ y') b x' y' t := by
  simp [Two, World.setCell, Array.getElem?_modify, h]
theorem kapart {w : World} {b c : Nat} {x y x' y' : Value} {t : TypeId} (h : Two w b x y t) (_h2 : Two w c x' y' t) (hne : c ≠ b) :
    (∀ u v, ((w.setCell ⟨c, 0, none⟩ u).setCell ⟨c, 1, none⟩ v).cell? ⟨b, 0, none⟩ = some x) ∧ (∀ u v, ((w.setCell ⟨c, 0, none⟩ u).setCell ⟨c, 1, none⟩ v).cell? ⟨b, 1, none⟩ = some y) ∧
    (∀ u v k, ((w.setCell ⟨c, 0, none⟩ u).setCell ⟨c, 1, none⟩ v).frozen? ⟨b, k, none⟩ = false) :=
  ⟨fun u v => (cell_two (two_far h hne u v)).1, fun u v => (cell_two (two_far h hne u v)).2, fun u v => free_two (two_far h hne u v)⟩
def Packed2 (w : World) (b5 b6 : Nat) (n m : Int) (ao1 ao2 : Option Addr) (c1 c2 : Nat) (es fs : List Pair) : Prop :=
  Two w b5 (.int .i64 n) (.slice ao1 es.length c1) 24 ∧ Two w b6 (.int .i64 m) (.slice ao2 fs.length c2) 24 ∧ EdgesAt w (.slice ao1 es.length c1) es ∧ EdgesAt w (.slice ao2 fs.length c2) fs

theorem EdgesAt.set2 {w : World} {ao : Option Addr} {n cap : Nat} {es : List Pair} (h : EdgesAt w (.slice ao n cap) es) {b : Nat} (hb : ∀ x, ao = some x → x.block ≠ b) (u v : Value) : EdgesAt ((w.setCell ⟨b, 0, none⟩ u).setCell ⟨b, 1, none⟩ v) (.slice ao n cap) es :=
  (h.setCell (fun x hx => hb x hx) _).setCell (fun x hx => hb x hx) _
section
variable {w : World} {b c : Nat} {x y x' y' : Value} {n m : Int} {ao1 ao2 : Option Addr} {c1 c2 : Nat} {es fs : List Pair}
theorem packA (u : Two w b x y 24) (v : Two w c x' y' 24) (hne : b ≠ c) (e1 : EdgesAt w (.slice ao1 es.length c1) es) (h1 : ∀ x, ao1 = some x → x.block ≠ b ∧ x.block ≠ c) (e2 : EdgesAt w (.slice ao2 fs.length c2) fs) (h2 : ∀ x, ao2 = some x → x.block ≠ b ∧ x.block ≠ c) :
    Packed2 ((((w.setCell ⟨b, 0, none⟩ (.int .i64 n)).setCell ⟨b, 1, none⟩ (.slice ao1 es.length c1)).setCell ⟨c, 0, none⟩ (.int .i64 m)).setCell ⟨c, 1, none⟩ (.slice ao2 fs.length c2)) b c n m ao1 ao2 c1 c2 es fs :=
  ⟨two_far (two_set u _ _) hne.symm _ _, two_set (two_far v hne _ _) _ _, (e1.set2 (fun x hx => (h1 x hx).1) _ _).set2 (fun x hx => (h1 x hx).2) _ _, (e2.set2 (fun x hx => (h2 x hx).1) _ _).set2 (fun x hx => (h2 x hx).2) _ _⟩
theorem set2_size (w : World) (b : Nat) (u v : Value) : ((w.setCell ⟨b, 0, none⟩ u).setCell ⟨b, 1, none⟩ v).heap.size = w.heap.size := by simp [World.setCell]
theorem packB (u : Two w b x y 24) (e1 : EdgesAt w (.slice ao1 es.length c1) es) (h1 : ∀ x, ao1 = some x → x.block ≠ b) (e2 : EdgesAt w (.slice ao2 fs.length c2) fs) (h2 : ∀ x, ao2 = some x → x.block ≠ b) :
    Packed2 (((w.setCell ⟨b, 0, none⟩ (.int .i64 n)).setCell ⟨b, 1, none⟩ (.slice ao1 es.length c1)).alloc (Obj.cells #[.int .i64 m, .slice ao2 fs.length c2] 24)) b w.heap.size n m ao1 ao2 c1 c2 es fs :=
  ⟨two_alloc (two_set u _ _) _, by have := two_new ((w.setCell ⟨b, 0, none⟩ (.int .i64 n)).setCell ⟨b, 1, none⟩ (.slice ao1 es.length c1)) (.int .i64 m) (.slice ao2 fs.length c2) 24; rw [set2_size] at this; exact this, (e1.set2 h1 _ _).below (below_alloc (Below.refl _ _) _), (e2.set2 h2 _ _).below (below_alloc (Below.refl _ _) _)⟩
theorem packC (u : Two w b x y 24) (e1 : EdgesAt w (.slice ao1 es.length c1) es) (h1 : ∀ x, ao1 = some x → x.block ≠ b) (e2 : EdgesAt w (.slice ao2 fs.length c2) fs) (h2 : ∀ x, ao2 = some x → x.block ≠ b) :
    Packed2 (((w.setCell ⟨b, 0, none⟩ (.int .i64 m)).setCell ⟨b, 1, none⟩ (.slice ao2 fs.length c2)).alloc (Obj.cells #[.int .i64 n, .slice ao1 es.length c1] 24)) w.heap.size b n m ao1 ao2 c1 c2 es fs :=
  ⟨by have := two_new ((w.setCell ⟨b, 0, none⟩ (.int .i64 m)).setCell ⟨b, 1, none⟩ (.slice ao2 fs.length c2)) (.int .i64 n) (.slice ao1 es.length c1) 24; rw [set2_size] at this; exact this, two_alloc (two_set u _ _) _, (e1.set2 h1 _ _).below (below_alloc (Below.refl _ _) _), (e2.set2 h2 _ _).below (below_alloc (Below.refl _ _) _)⟩
theorem packC2 (u : Two w b x y 24) (e1 : EdgesAt w (.slice ao1 es.length c1) es) (h1 : ∀ x, ao1 = some x → x.block ≠ b) (e2 : EdgesAt w (.slice ao2 fs.length c2) fs) (h2 : ∀ x, ao2 = some x → x.block ≠ b) :
    Packed2 (((w.alloc (Obj.cells #[.int .i64 n, .slice ao1 es.length c1] 24)).setCell ⟨b, 0, none⟩ (.int .i64 m)).setCell ⟨b, 1, none⟩ (.slice ao2 fs.length c2)) w.heap.size b n m ao1 ao2 c1 c2 es fs :=
  ⟨two_far (two_new _ _ _ _) (by have := lt_of_block u; omega) _ _, two_set (two_alloc u _) _ _, (e1.below (below_alloc (Below.refl _ _) _)).set2 h1 _ _, (e2.below (below_alloc (Below.refl _ _) _)).set2 h2 _ _⟩
theorem packD1 (e1 : EdgesAt w (.slice ao1 es.length c1) es) (e2 : EdgesAt w (.slice ao2 fs.length c2) fs) :
    Packed2 ((w.alloc (Obj.cells #[.int .i64 n, .slice ao1 es.length c1] 24)).alloc (Obj.cells #[.int .i64 m, .slice ao2 fs.length c2] 24)) w.heap.size (w.heap.size + 1) n m ao1 ao2 c1 c2 es fs :=
  ⟨two_alloc (two_new _ _ _ _) _, two_newb _ _ _ _ _, e1.below (below2 _ _), e2.below (below2 _ _)⟩
theorem packD2 (e1 : EdgesAt w (.slice ao1 es.length c1) es) (e2 : EdgesAt w (.slice ao2 fs.length c2) fs) :
    Packed2 ((w.alloc (Obj.cells #[.int .i64 m, .slice ao2 fs.length c2] 24)).alloc (Obj.cells #[.int .i64 n, .slice ao1 es.length c1] 24)) (w.heap.size + 1) w.heap.size n m ao1 ao2 c1 c2 es fs :=
  ⟨two_newb _ _ _ _ _, two_alloc (two_new _ _ _ _) _, e1.below (below2 _ _), e2.below (below2 _ _)⟩
end


theorem one_alloc {w : World} {b : Nat} {x : Value} {t : TypeId} (h : One w b x t) (o : Obj) : One (w.alloc o) b x t := (Below.heap_alloc _ _ _ (lt_of_block h)).trans h
theorem one_new (w : World) (x : Value) (t : TypeId) : One (w.alloc (Obj.cells #[x] t)) w.heap.size x t := heap_alloc_new _ _
theorem one_newb (w : World) (o : Obj) (x : Value) (t : TypeId) : One ((w.alloc o).alloc (Obj.cells #[x] t)) (w.heap.size + 1) x t := by
  simpa [One] using heap_alloc_new (w.alloc o) (Obj.cells #[x] t)
theorem one_drew {w : World} {b : Nat} {x : Value} {t : TypeId} (h : One w b x t) : One w.drew b x t := h
theorem one_free {w : World} {b : Nat} {x : Value} {t : TypeId} (h : One w b x t) (k : Nat) : w.frozen? ⟨b, k, none⟩ = false := by simp [World.frozen?, h]
theorem one_far {w : World} {b c : Nat} {x : Value} {t : TypeId} (h : One w b x t) (hne : c ≠ b) (x' : Value) : One (w.setCell ⟨c, 0, none⟩ x') b x t := by
  rw [One, Below.heap_setCell _ _ _ _ (by simpa using hne.symm)]; exact h
theorem one_set {w : World} {b : Nat} {x : Value} {t : TypeId} (h : One w b x t) (x' : Value) : One (w.setCell ⟨b, 0, none⟩ x') b x' t := by
  simp [One, World.setCell, Array.getElem?_modify, h]
theorem kk1 {w : World} {b : Nat} {x : Value} {t : TypeId} (h : One w b x t) :
    w.cell? ⟨b, 0, none⟩ = some x ∧ (∀ o, (w.alloc o).cell? ⟨b, 0, none⟩ = some x) ∧ (∀ o o', ((w.alloc o).alloc o').cell? ⟨b, 0, none⟩ = some x) ∧
    (∀ k, w.frozen? ⟨b, k, none⟩ = false) ∧ (∀ o k, (w.alloc o).frozen? ⟨b, k, none⟩ = false) ∧ (∀ o o' k, ((w.alloc o).alloc o').frozen? ⟨b, k, none⟩ = false) :=
  ⟨cell_of_one h, all_alloc (cell_of_one h), fun o o' => all_alloc (all_alloc (cell_of_one h) o) o', one_free h, fun o => one_free (one_alloc h o), fun o o' => one_free (one_alloc (one_alloc h o) o')⟩
theorem kapart1 {w : World} {b c : Nat} {x x' : Value} {t : TypeId} (h : One w b x t) (_h2 : One w c x' t) (hne : c ≠ b) :
    (∀ u, (w.setCell ⟨c, 0, none⟩ u).cell? ⟨b, 0, none⟩ = some x) ∧ (∀ u k, (w.setCell ⟨c, 0, none⟩ u).frozen? ⟨b, k, none⟩ = false) :=
  ⟨fun u => cell_of_one (one_far h hne u), fun u => one_free (one_far h hne u)⟩
theorem below_set1 {W w : World} (h : Below W.heap.size W w) {b : Nat} (hb : W.heap.size ≤ b) {x : Value} : Below W.heap.size W (w.setCell ⟨b, 0, none⟩ x) := h.setCell hb _

/-- A table stays where a cell that holds no row and no bool is written. -/
theorem GridAt.put {w : World} {v : Value} {m : Nat} {p : Int → Int → Bool} (h : GridAt w v m p) {b : Nat} {t : TypeId} (hb : One w b (.slice none 0 0) t) (u : Value) : GridAt (w.setCell ⟨b, 0, none⟩ u) v m p := by
  have hc := cell_of_one hb
  obtain ⟨ao, cap, h1, h2⟩ := h
  refine ⟨ao, cap, h1, fun i hi => ?_⟩
  obtain ⟨g, b', e, c0, c1⟩ := h2 i hi
  refine ⟨g, b', e, ?_, fun j hj => ?_⟩
  · rw [World.cell?_setCell_other]
    · exact c0
    · intro e'
      rw [← e', hc] at c0
      simp at c0
  · rw [World.cell?_setCell_other]
    · exact c1 j hj
    · intro e'
      have := c1 j hj
      rw [← e', hc] at this
      simp at this

def PackedG (w : World) (b c : Nat) (ma mb : Nat) (so to : Option Addr) (sc tc : Nat) (p q : Int → Int → Bool) : Prop :=
  One w b (.slice so ma sc) 37 ∧ One w c (.slice to mb tc) 37 ∧ GridAt w (.slice so ma sc) ma p ∧ GridAt w (.slice to mb tc) mb q
section
variable {w : World} {b c : Nat} {ma mb : Nat} {so to : Option Addr} {sc tc : Nat} {p q : Int → Int → Bool}
theorem gridA (u : One w b (.slice none 0 0) 37) (v : One w c (.slice none 0 0) 37) (hne : b ≠ c) (e1 : GridAt w (.slice so ma sc) ma p) (e2 : GridAt w (.slice to mb tc) mb q) :
    PackedG ((w.setCell ⟨b, 0, none⟩ (.slice so ma sc)).setCell ⟨c, 0, none⟩ (.slice to mb tc)) b c ma mb so to sc tc p q :=
  ⟨one_far (one_set u _) hne.symm _, one_set (one_far v hne _) _, (e1.put u _).put (one_far v hne _) _, (e2.put u _).put (one_far v hne _) _⟩
theorem gridC (u : One w b (.slice none 0 0) 37) (e1 : GridAt w (.slice so ma sc) ma p) (e2 : GridAt w (.slice to mb tc) mb q) :
    PackedG ((w.alloc (Obj.cells #[.slice so ma sc] 37)).setCell ⟨b, 0, none⟩ (.slice to mb tc)) w.heap.size b ma mb so to sc tc p q :=
  ⟨one_far (one_new _ _ _) (by have := lt_of_block u; omega) _, one_set (one_alloc u _) _, (e1.below (below_alloc (Below.refl _ _) _)).put (one_alloc u _) _, (e2.below (below_alloc (Below.refl _ _) _)).put (one_alloc u _) _⟩
theorem gridD1 (e1 : GridAt w (.slice so ma sc) ma p) (e2 : GridAt w (.slice to mb tc) mb q) :
    PackedG ((w.alloc (Obj.cells #[.slice so ma sc] 37)).alloc (Obj.cells #[.slice to mb tc] 37)) w.heap.size (w.heap.size + 1) ma mb so to sc tc p q :=
  ⟨one_alloc (one_new _ _ _) _, one_newb _ _ _ _, e1.below (below2 _ _), e2.below (below2 _ _)⟩
theorem gridD2 (e1 : GridAt w (.slice so ma sc) ma p) (e2 : GridAt w (.slice to mb tc) mb q) :
    PackedG ((w.alloc (Obj.cells #[.slice to mb tc] 37)).alloc (Obj.cells #[.slice so ma sc] 37)) (w.heap.size + 1) w.heap.size ma mb so to sc tc p q :=
  ⟨one_newb _ _ _ _, one_alloc (one_new _ _ _) _, e1.below (below2 _ _), e2.below (below2 _ _)⟩
end
end Go.Proofs.Ytmbhmahclfdgnaa
