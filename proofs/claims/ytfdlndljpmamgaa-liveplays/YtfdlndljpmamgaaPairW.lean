/- pair, has, take, put of a house. -/
import Derived.Test.YtfdlndljpmamgaaHouseM
namespace Go.Proofs.Ytfdlndljpmamgaa
set_option maxRecDepth 8000
open Go.RowKit Go.Maps
attribute [local go_sem ↓] Go.wp_at_zero Go.wp_at_succ
theorem hbox_cells {w : World} {p : Hp} (h : Box w p.b (hcells p) 81) :
    w.cell? ⟨p.b, 0, none⟩ = some p.nv ∧ w.cell? ⟨p.b, 1, none⟩ = some (.map (some p.nm)) ∧ w.cell? ⟨p.b, 2, none⟩ = some (.map (some p.em)) ∧ w.cell? ⟨p.b, 3, none⟩ = some p.kv ∧ w.cell? ⟨p.b, 4, none⟩ = some (ptr p.tb) :=
  ⟨box_cell h rfl, box_cell h rfl, box_cell h rfl, box_cell h rfl, box_cell h rfl⟩
set_option maxHeartbeats 1000000 in
theorem pair_noA {w : World} {p : Hp} {n : Nat} {L : List ByteArray} (hb : Box w p.b (hcells p) 81) (hn : NumM w p.nm n (nmOf L)) {a b : ByteArray} (ha : a.size ≤ maxLen) (_ : b.size ≤ maxLen) (hA : ¬ a ∈ L) :
    Calls Try.prog 30 #[ptr p.b, .string a, .string b] w fun e w' => e = .returned (.tuple #[.agg #[.int .i64 0, .int .i64 0], .agg #[.int .i64 10, .int .i64 0]]) ∧ Below w.heap.size w w' := by
  obtain ⟨c0, c1, c2, c3, c4⟩ := hbox_cells hb
  have d1 : ∀ o o', ((w.alloc o).alloc o').cell? ⟨p.b, 1, none⟩ = some (.map (some p.nm)) := fun o o' => all_alloc (all_alloc c1 o) o'
  have hn2 : ∀ o o', NumM ((w.alloc o).alloc o') p.nm n (nmOf L) := fun o o' => hn.block (by rw [Below.heap_alloc _ _ _ (by have := hn.lt; simp; omega), Below.heap_alloc _ _ _ hn.lt])
  have g1 : ∀ o o', (Instr.lookup 61 (.map (some p.nm)) (.string a) true).run Try.prog ((w.alloc o).alloc o') = .ok (.tuple #[.int .i64 0, .bool false]) ((w.alloc o).alloc o') := fun o o' => by
    have := (hn2 o o').get ha
    rw [nmOf_out hA] at this
    exact this
  clear c0 c1 c2 c3 c4 hn hn2 hb
  go_enter Try.func30, Try.ntmps30
  go_wp2
  refine bodyPost_ret (v := .tuple #[.agg #[.int .i64 0, .int .i64 0], .agg #[.int .i64 10, .int .i64 0]]) ?_ rfl ⟨rfl, below2 _ _⟩
  simp [results, Try.results30, go_sem]
set_option maxHeartbeats 1000000 in
theorem pair_noB {w : World} {p : Hp} {n : Nat} {L : List ByteArray} (hb : Box w p.b (hcells p) 81) (hn : NumM w p.nm n (nmOf L)) {a b : ByteArray} (ha : a.size ≤ maxLen) (hbs : b.size ≤ maxLen) (hA : a ∈ L) (hB : ¬ b ∈ L) :
    Calls Try.prog 30 #[ptr p.b, .string a, .string b] w fun e w' => e = .returned (.tuple #[.agg #[.int .i64 0, .int .i64 0], .agg #[.int .i64 10, .int .i64 1]]) ∧ Below w.heap.size w w' := by
  obtain ⟨c0, c1, c2, c3, c4⟩ := hbox_cells hb
  have d1 : ∀ o o', ((w.alloc o).alloc o').cell? ⟨p.b, 1, none⟩ = some (.map (some p.nm)) := fun o o' => all_alloc (all_alloc c1 o) o'
  have hn2 : ∀ o o', NumM ((w.alloc o).alloc o') p.nm n (nmOf L) := fun o o' => hn.block (by rw [Below.heap_alloc _ _ _ (by have := hn.lt; simp; omega), Below.heap_alloc _ _ _ hn.lt])
  have g1 : ∀ o o', (Instr.lookup 61 (.map (some p.nm)) (.string a) true).run Try.prog ((w.alloc o).alloc o') = .ok (.tuple #[.int .i64 (idx L a : Int), .bool true]) ((w.alloc o).alloc o') := fun o o' => by
    have := (hn2 o o').get ha
    rw [nmOf_in hA] at this
    exact this
  have g2 : ∀ o o', (Instr.lookup 61 (.map (some p.nm)) (.string b) true).run Try.prog ((w.alloc o).alloc o') = .ok (.tuple #[.int .i64 0, .bool false]) ((w.alloc o).alloc o') := fun o o' => by
    have := (hn2 o o').get hbs
    rw [nmOf_out hB] at this
    exact this
  clear c0 c1 c2 c3 c4 hn hn2 hb
  go_enter Try.func30, Try.ntmps30
  go_wp2
  refine bodyPost_ret (v := .tuple #[.agg #[.int .i64 0, .int .i64 0], .agg #[.int .i64 10, .int .i64 1]]) ?_ rfl ⟨rfl, below2 _ _⟩
  simp [results, Try.results30, go_sem]
set_option maxHeartbeats 1000000 in
theorem pair_ok {w : World} {p : Hp} {n : Nat} {L : List ByteArray} (hb : Box w p.b (hcells p) 81) (hn : NumM w p.nm n (nmOf L)) {a b : ByteArray} (ha : a.size ≤ maxLen) (hbs : b.size ≤ maxLen) (hA : a ∈ L) (hB : b ∈ L) :
    Calls Try.prog 30 #[ptr p.b, .string a, .string b] w fun e w' => e = .returned (.tuple #[.agg #[.int .i64 (min (idx L a : Int) (idx L b : Int)), .int .i64 (max (idx L a : Int) (idx L b : Int))], .agg #[.int .i64 0, .int .i64 0]]) ∧ Below w.heap.size w w' := by
  obtain ⟨c0, c1, c2, c3, c4⟩ := hbox_cells hb
  have d1 : ∀ o o', ((w.alloc o).alloc o').cell? ⟨p.b, 1, none⟩ = some (.map (some p.nm)) := fun o o' => all_alloc (all_alloc c1 o) o'
  have hn2 : ∀ o o', NumM ((w.alloc o).alloc o') p.nm n (nmOf L) := fun o o' => hn.block (by rw [Below.heap_alloc _ _ _ (by have := hn.lt; simp; omega), Below.heap_alloc _ _ _ hn.lt])
  have g1 : ∀ o o', (Instr.lookup 61 (.map (some p.nm)) (.string a) true).run Try.prog ((w.alloc o).alloc o') = .ok (.tuple #[.int .i64 (idx L a : Int), .bool true]) ((w.alloc o).alloc o') := fun o o' => by
    have := (hn2 o o').get ha
    rw [nmOf_in hA] at this
    exact this
  have g2 : ∀ o o', (Instr.lookup 61 (.map (some p.nm)) (.string b) true).run Try.prog ((w.alloc o).alloc o') = .ok (.tuple #[.int .i64 (idx L b : Int), .bool true]) ((w.alloc o).alloc o') := fun o o' => by
    have := (hn2 o o').get hbs
    rw [nmOf_in hB] at this
    exact this
  generalize idx L a = u at g1 ⊢
  generalize idx L b = v at g2 ⊢
  clear c0 c1 c2 c3 c4 hn hn2 hb
  go_enter Try.func30, Try.ntmps30
  go_wp2
  refine bodyPost_ret (v := .tuple #[.agg #[.int .i64 (min (u : Int) (v : Int)), .int .i64 (max (u : Int) (v : Int))], .agg #[.int .i64 0, .int .i64 0]]) ?_ rfl ⟨rfl, below2 _ _⟩
  simp [results, Try.results30, go_sem]
set_option maxHeartbeats 1000000 in
theorem has_house {w : World} {p : Hp} {n : Nat} {E : Ed} (hb : Box w p.b (hcells p) 81) (he : EdM w p.em n E) {u v : Nat} (hu : u < 1000) (hv : v < 1000) :
    Calls Try.prog 31 #[ptr p.b, .agg #[.int .i64 (u : Int), .int .i64 (v : Int)]] w fun e w' => e = .returned (.bool (E u v)) ∧ Below w.heap.size w w' := by
  obtain ⟨c0, c1, c2, c3, c4⟩ := hbox_cells hb
  have d1 : ∀ o, (w.alloc o).cell? ⟨p.b, 2, none⟩ = some (.map (some p.em)) := fun o => all_alloc c2 o
  have d2 : ∀ o o', ((w.alloc o).alloc o').cell? ⟨p.b, 2, none⟩ = some (.map (some p.em)) := fun o o' => all_alloc (all_alloc c2 o) o'
  have g1 : ∀ o, (Instr.lookup 62 (.map (some p.em)) (.agg #[.int .i64 (u : Int), .int .i64 (v : Int)]) true).run Try.prog (w.alloc o).drew = .ok (.tuple #[.agg #[], .bool (E u v)]) (w.alloc o).drew := fun o => EdM.get (w := (w.alloc o).drew) (he.block (Below.heap_alloc _ _ _ he.lt)) hu hv
  have g2 : ∀ o o', (Instr.lookup 62 (.map (some p.em)) (.agg #[.int .i64 (u : Int), .int .i64 (v : Int)]) true).run Try.prog ((w.alloc o).alloc o').drew = .ok (.tuple #[.agg #[], .bool (E u v)]) ((w.alloc o).alloc o').drew := fun o o' => EdM.get (w := ((w.alloc o).alloc o').drew) (he.block ((Below.heap_alloc _ _ _ (by have := he.lt; simp; omega)).trans (Below.heap_alloc _ _ _ he.lt))) hu hv
  generalize E u v = r at g1 g2 ⊢
  clear c0 c1 c2 c3 c4 he hb
  go_enter Try.func31, Try.ntmps31
  go_wp2
  go_region
  all_goals go_wp2
  all_goals go_ret
  all_goals exact ⟨rfl, (below2 _ _).drew⟩
theorem turned_turns {w w' : World} {b : Nat} (h : w.mapTurned w' b) : Turns (fun k => k = b) w w' := (Turns.of_grown h.grown).mono fun k _ e => by cases e; rfl
set_option maxHeartbeats 1000000 in
theorem take_call {w : World} {p : Hp} {n : Nat} {E : Ed} (hb : Box w p.b (hcells p) 81) (he : EdM w p.em n E) {u v : Nat} (hu : u < 1000) (hv : v < 1000) :
    Calls Try.prog 35 #[ptr p.b, .agg #[.int .i64 (u : Int), .int .i64 (v : Int)]] w fun e w' => e = .returned (.tuple #[]) ∧ EdM w' p.em n (updE E u v false) ∧ Turns (fun k => k = p.em) w w' := by
  obtain ⟨c0, c1, c2, c3, c4⟩ := hbox_cells hb
  have d1 : ∀ o, (w.alloc o).cell? ⟨p.b, 2, none⟩ = some (.map (some p.em)) := fun o => all_alloc c2 o
  have he1 : EdM (w.alloc (Obj.cells #[.int .i64 (u : Int), .int .i64 (v : Int)] 59)).drew p.em n E := he.block (Below.heap_alloc _ _ _ he.lt)
  obtain ⟨W, hrun, h2, ht⟩ := EdM.drop he1 hu hv 0
  have HT : Hid _ := turned_turns ht
  have H2 : Hid _ := h2
  clear c0 c1 c2 c3 c4 he hb ht h2 he1
  go_enter Try.func35, Try.ntmps35
  go_wp2
  go_region
  all_goals go_wp2
  all_goals go_end0
  all_goals exact ⟨rfl, H2.out, (Turns.trans (alloc_turns w _ _) (Turns.of_below (Below.refl _ _).drew _)).trans HT.out⟩
set_option maxHeartbeats 1000000 in
theorem put_call {w : World} {p : Hp} {n : Nat} {E : Ed} (hb : Box w p.b (hcells p) 81) (he : EdM w p.em n E) {u v : Nat} (hu : u < 1000) (hv : v < 1000) (hn : n < 1000000000) :
    Calls Try.prog 33 #[ptr p.b, .agg #[.int .i64 (u : Int), .int .i64 (v : Int)]] w fun e w' => e = .returned (.tuple #[]) ∧ EdM w' p.em (n + 1) (updE E u v true) ∧ Turns (fun k => k = p.em) w w' := by
  obtain ⟨c0, c1, c2, c3, c4⟩ := hbox_cells hb
  have d1 : ∀ o, (w.alloc o).cell? ⟨p.b, 2, none⟩ = some (.map (some p.em)) := fun o => all_alloc c2 o
  have he1 : EdM (w.alloc (Obj.cells #[.int .i64 (u : Int), .int .i64 (v : Int)] 59)).drew p.em n E := he.block (Below.heap_alloc _ _ _ he.lt)
  obtain ⟨W, hrun, h2, ht⟩ := EdM.store he1 hu hv hn
  have HT : Hid _ := turned_turns ht
  have H2 : Hid _ := h2
  clear c0 c1 c2 c3 c4 he hb ht h2 he1
  go_enter Try.func33, Try.ntmps33
  go_wp2
  go_region
  all_goals go_wp2
  all_goals go_end0
  all_goals exact ⟨rfl, H2.out, (Turns.trans (alloc_turns w _ _) (Turns.of_below (Below.refl _ _).drew _)).trans HT.out⟩
end Go.Proofs.Ytfdlndljpmamgaa
