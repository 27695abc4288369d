/- Two triangles at one node: their blocks and their cut. -/
import Derived.Test.YtgepibidhebbiabCuts
import Derived.Test.YtgepibidhebbiabSame
namespace Go.Proofs.Ytgepibidhebbiab
open Go.RowKit Go.Maps
attribute [local go_sem ↓] Go.wp_at_zero Go.wp_at_succ

def bowE : List Pair := [(0, 1), (1, 2), (0, 2), (2, 3), (3, 4), (2, 4)]
def bowF : List Pair := [(0, 1), (0, 2), (1, 2), (2, 3), (2, 4), (3, 4)]
theorem bow_chk : chk 5 bowE = (0, 0) := by decide +kernel
theorem bow_form : allP 5 (hasB bowE) = bowF := by decide +kernel

theorem bow_near : ∀ a, a < 5 → ∀ b, b < 5 → bothB bowF a b = true → a < 2 → b ≠ 2 → b < 2 := by decide +kernel
theorem bow_formed : Formed 5 bowF := bow_form ▸ formed_all 5 (hasB bowE)

theorem bow_apart {u w : Nat} (h : Con (Ef 5 bowF) 2 u w) (hu : u < 2) : w < 2 :=
  Star.closed (P := fun x => x < 2) (fun a b ha hab => bow_near a hab.1.1 b hab.1.2.1 hab.1.2.2 ha hab.2) h hu

theorem bow_at : ∀ i, i < 6 → (i < 3 → (elf bowF i).1 < 2 ∧ (elf bowF i).2 ≤ 2) ∧ (3 ≤ i → 2 ≤ (elf bowF i).1 ∧ 2 < (elf bowF i).2) := by decide +kernel

theorem bow_side {i j : Nat} (h : LkF 5 bowF i j) : (i < 3) ↔ (j < 3) := by
  have key : ∀ {i j}, LkF 5 bowF i j → i < 3 → j < 3 := by
    intro i j h hi
    refine Classical.byContradiction fun hj => ?_
    obtain ⟨h1, h2, v, u, w, h3, h4, h5⟩ := h
    have a1 := (bow_at i h1).1 hi
    have a2 := (bow_at j h2).2 (by omega)
    have hv : v = 2 ∧ u < 2 ∧ 2 < w := by
      rcases h3 with e | e <;> rcases h4 with e' | e' <;> rw [e] at a1 <;> rw [e'] at a2 <;> simp at a1 a2 <;> omega
    obtain ⟨rfl, hu, hw⟩ := hv
    have := bow_apart h5 hu
    omega
  exact ⟨key h, key (link_symm (ef_gr bow_formed) (ef_edges bow_formed) _ _ h)⟩

theorem bow_one {a b : Nat} (ha : a < 5) (hb : b < 5) (h : bothB bowF a b = true) {x : Nat} (hx : b ≠ x) : Con (Ef 5 bowF) x a b := .one ⟨⟨ha, hb, h⟩, hx⟩
theorem bow_lk {i j v u w : Nat} (hi : i < 6) (hj : j < 6) (h1 : Inc (elf bowF) i v u) (h2 : Inc (elf bowF) j v w) (hu : u < 5) (hw : w < 5) (h : bothB bowF u w = true) (hx : w ≠ v) : LkF 5 bowF i j := ⟨hi, hj, v, u, w, h1, h2, bow_one hu hw h hx⟩
theorem inc_dec {i v u : Nat} (h : (decide (elf bowF i = (v, u)) || decide (elf bowF i = (u, v))) = true) : Inc (elf bowF) i v u := by
  simpa [Inc] using h
theorem bow_links : LkF 5 bowF 0 1 ∧ LkF 5 bowF 0 2 ∧ LkF 5 bowF 3 4 ∧ LkF 5 bowF 3 5 :=
  ⟨bow_lk (v := 0) (u := 1) (w := 2) (by omega) (by omega) (inc_dec (by decide +kernel)) (inc_dec (by decide +kernel)) (by omega) (by omega) (by decide +kernel) (by omega),
   bow_lk (v := 1) (u := 0) (w := 2) (by omega) (by omega) (inc_dec (by decide +kernel)) (inc_dec (by decide +kernel)) (by omega) (by omega) (by decide +kernel) (by omega),
   bow_lk (v := 2) (u := 3) (w := 4) (by omega) (by omega) (inc_dec (by decide +kernel)) (inc_dec (by decide +kernel)) (by omega) (by omega) (by decide +kernel) (by omega),
   bow_lk (v := 3) (u := 2) (w := 4) (by omega) (by omega) (inc_dec (by decide +kernel)) (inc_dec (by decide +kernel)) (by omega) (by omega) (by decide +kernel) (by omega)⟩

def bowK (i j : Nat) : Bool := decide (i < 3) == decide (j < 3)

theorem bow_star {i j : Nat} (hi : i < 6) (hj : j < 6) : Star (LkF 5 bowF) i j ↔ bowK i j = true := by
  have sy := link_symm (ef_gr bow_formed) (ef_edges bow_formed)
  constructor
  · intro h
    have := Star.closed (P := fun x => (i < 3) ↔ (x < 3)) (fun a b ha hab => ha.trans (bow_side hab)) h Iff.rfl
    simp [bowK, this]
  · intro h
    have hs : (i < 3) ↔ (j < 3) := by simpa [bowK] using h
    obtain ⟨l1, l2, l3, l4⟩ := bow_links
    have lo : ∀ x, x < 3 → Star (LkF 5 bowF) 0 x := fun x hx => by
      match x, hx with
      | 0, _ => exact .refl _
      | 1, _ => exact .one l1
      | 2, _ => exact .one l2
    have hig : ∀ x, x < 6 → ¬ x < 3 → Star (LkF 5 bowF) 3 x := fun x hx hn => by
      match x, hx, hn with
      | 0, _, h => exact absurd (by omega) h
      | 1, _, h => exact absurd (by omega) h
      | 2, _, h => exact absurd (by omega) h
      | 3, _, _ => exact .refl _
      | 4, _, _ => exact .one l3
      | 5, _, _ => exact .one l4
    by_cases h3 : i < 3
    · exact ((lo i h3).symm sy).trans (lo j (hs.1 h3))
    · exact ((hig i hi h3).symm sy).trans (hig j hj (fun h => h3 (hs.2 h)))

theorem bow_blocks {RK : Nat → Nat → Bool} (hRK : ∀ i j, RK i j = true ↔ Star (LkF 5 (allP 5 (hasB bowE))) i j) : (blocksS (allP 5 (hasB bowE)) RK).length = 2 ∧ cutsTo (blocksS (allP 5 (hasB bowE)) RK) 5 = [2] := by
  rw [bow_form] at hRK ⊢
  have e : blocksS bowF RK = blocksS bowF bowK := by
    unfold blocksS
    rw [piecesS_congr (R' := bowK) fun i j hi hj => by
      rw [Bool.eq_iff_iff, hRK]
      exact bow_star hi hj]
  rw [e]
  decide +kernel

set_option maxHeartbeats 400000 in
theorem bow_call (w : World) : Calls Try.prog 40 #[] w fun r w' => ∃ g, r = .returned (.agg #[.int .i64 5, .slice (some ⟨g, 0, none⟩) 6 6]) ∧ EdgesAt w' (.slice (some ⟨g, 0, none⟩) 6 6) bowE ∧ Below w.heap.size w w' := by
  go_enter Try.func40, Try.ntmps40
  go_wp2
  refine bodyPost_ret (v := .agg #[.int .i64 5, .slice (some ⟨w.heap.size + 1, 0, none⟩) 6 6]) ?_ rfl ⟨_, rfl, ?_, below2 _ _⟩
  · simp [results, Try.results40, go_sem]
  · refine ⟨_, _, rfl, by decide, fun e he => by simp [bowE] at he; rcases he with rfl | rfl | rfl | rfl | rfl | rfl <;> (constructor <;> constructor <;> simp), fun k hk => ⟨w.heap.size + 1, 0, rfl, ?_⟩⟩
    have hk' : k < 6 := hk
    match k, hk' with
    | 0, _ => simp [bowE]
    | 1, _ => simp [bowE]
    | 2, _ => simp [bowE]
    | 3, _ => simp [bowE]
    | 4, _ => simp [bowE]
    | 5, _ => simp [bowE]

theorem qv_ints (L : List Nat) : qv L = (L.map fun (x : Nat) => (x : Int)).map (Value.int .i64) := by simp [qv]
theorem intsAt_q {w : World} {base : Nat} {v : Value} {L : List Nat} (h : w.ownsRow base 3 1 v L.length (qv L)) (hb : ∀ x ∈ L, x ≤ 1000000) (hl : L.length ≤ 1000000) : IntsAt w v (L.map fun (x : Nat) => (x : Int)) := by
  rw [qv_ints] at h
  refine intsAt_row (by simpa using h) (fun x hx => ?_) (by simp; omega)
  obtain ⟨y, hy, rfl⟩ := List.mem_map.1 hx
  have := hb y hy
  constructor <;> omega

set_option maxHeartbeats 1000000 in
theorem begun_true (w : World) : Calls Try.prog 13 #[] w fun r w' => r = .returned (.bool true) ∧ Below w.heap.size w w' := by
  obtain ⟨RK, hRK⟩ := ex2 (fun i j => Star (LkF 5 (allP 5 (hasB bowE))) i j)
  obtain ⟨e1, e2⟩ := bow_blocks hRK
  have hc : (chk (5 : Nat) bowE).1 = 0 := by have := bow_chk; simp [this]
  have H1 : Hid _ := e1
  have H2 : Hid _ := e2
  have HR : Hid _ := hRK
  have HC : Hid _ := hc
  clear e1 e2 hRK hc
  go_enter Try.func13, Try.ntmps13
  go_upto_region 2 with (first
    | (go_at_call 40; refine (bow_call _).mono ?_; rintro r wa ⟨ga, rfl, hEa, hbk⟩)
    | (go_at_call 22; refine (blocks_ok 5 (some ⟨ga, 0, none⟩) 6 bowE _ hEa HC.out RK HR.out).mono ?_; rintro r wb ⟨bv, rfl, hbs, hbB⟩; obtain ⟨bo, bcp, hbv⟩ := hbs.form; rw [H1.out] at hbv; subst hbv))
  have t2 := two_new wb (.int .i64 0) (.int .i64 0) 27
  have hB := below_alloc (below_next hbk hbB) (Obj.cells #[.int .i64 0, .int .i64 0] 27)
  generalize wb.alloc (Obj.cells #[.int .i64 0, .int .i64 0] 27) = W at t2 hB ⊢
  clear hEa hbk hbB hbs
  go_upto_region 3 with (first
    | (go_at_call 40; refine (bow_call _).mono ?_; rintro r wd ⟨gd, rfl, hEd, hbk⟩)
    | (go_at_call 12; refine (cuts_ok 5 (some ⟨gd, 0, none⟩) 6 bowE _ hEd HC.out RK HR.out).mono ?_; rintro r wc ⟨cv, rfl, hcs, hbC⟩; rw [H2.out] at hcs; obtain ⟨co, ccp, rfl⟩ := form_row hcs))
  have t2' := two_alloc (two_next (two_next t2 hbk) hbC) (Obj.cells #[.int .i64 0, .int .i64 0] 27)
  have t4 := two_new wc (.int .i64 0) (.int .i64 0) 27
  have hB' := below_alloc (below_next (below_next hB hbk) hbC) (Obj.cells #[.int .i64 0, .int .i64 0] 27)
  have hIc : IntsAt (wc.alloc (Obj.cells #[.int .i64 0, .int .i64 0] 27)) (.slice co 1 ccp) [2] := (intsAt_q hcs (by simp) (by simp)).below (below_alloc (Below.refl _ wc) (Obj.cells #[.int .i64 0, .int .i64 0] 27))
  generalize wc.alloc (Obj.cells #[.int .i64 0, .int .i64 0] 27) = W2 at t2' t4 hB' hIc ⊢
  clear t2 hB hEd hbk hbC hcs
  obtain ⟨y1, y2⟩ := cell_two t2'
  obtain ⟨y3, y4⟩ := cell_two t4
  have hI2 : IntsAt (W2.alloc (Obj.cells #[.int .i64 2] 3)) (.slice (some ⟨W2.heap.size, 0, none⟩) 1 1) [2] := intsAt_q (L := [2]) (base := W2.heap.size) (ownsRow_one W2 _ _ 3 (Nat.le_refl _)) (by simp) (by simp)
  go_wp2_with (go_at_call 20; refine (ints_true _ _ [2] _ (hIc.below (below_alloc (Below.refl _ _) _)) hI2).mono ?_; rintro r wf ⟨rfl, hbf⟩)
  go_ret
  exact ⟨rfl, below_next (below_alloc hB' _) hbf⟩
end Go.Proofs.Ytgepibidhebbiab
