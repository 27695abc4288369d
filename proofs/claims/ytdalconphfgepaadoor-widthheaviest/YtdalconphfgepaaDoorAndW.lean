/- What goes with a choice below: loads.and. -/
import Derived.Test.YtdalconphfgepaaDoorLoadMW
namespace Go.Proofs.YtdalconphfgepaaDoor
set_option maxRecDepth 8000
open Go.RowKit Go.Maps
attribute [local go_sem ↓] Go.wp_at_zero Go.wp_at_succ
def LdOk (F : Lds) : Prop := ∀ s p, F s = some p → (-1000000000000 ≤ p.1 ∧ p.1 ≤ 1000000000000) ∧ p.2 < 2 ^ 128
def addL (p q : Int × Nat) : Int × Nat := (p.1 + q.1, p.2 ||| q.2)
def andF (F B : Lds) (bag s : Nat) : Option (Int × Nat) := (F s).map fun p => addL p ((B (s &&& bag)).getD (0, 0))
theorem LdOk.get {F : Lds} (h : LdOk F) (s : Nat) : (-1000000000000 ≤ ((F s).getD (0, 0)).1 ∧ ((F s).getD (0, 0)).1 ≤ 1000000000000) ∧ ((F s).getD (0, 0)).2 < 2 ^ 128 := by
  cases e : F s with
  | none => exact ⟨by decide, by decide⟩
  | some p => exact h s p e
theorem box_next {w w' : World} {b : Nat} {cs : Array Value} {t : TypeId} (h : Box w b cs t) (hb : Below w.heap.size w w') : Box w' b cs t := (hb.block b (lt_of_block h)).trans h
theorem box_new (w : World) (cs : Array Value) (t : TypeId) : Box (w.alloc (Obj.cells cs t)) w.heap.size cs t := heap_alloc_new _ _
theorem cell_three {w : World} {b : Nat} {x y z : Value} {t : TypeId} (h : Box w b #[x, y, z] t) : w.cell? ⟨b, 0, none⟩ = some x ∧ w.cell? ⟨b, 1, none⟩ = some y ∧ w.cell? ⟨b, 2, none⟩ = some z := ⟨box_cell h rfl, box_cell h rfl, box_cell h rfl⟩
abbrev LBox (w : World) (b : Nat) (p : Int × Nat) : Prop := Box w b #[.int .i64 p.1, .int .u64 (lo64 p.2 : Int), .int .u64 (hi64 p.2 : Int)] 78
theorem makeMap_hint (k : Int) (w : World) : (Instr.makeMap 106 (some (.int .i64 k))).run Tryd.prog w = .ok (.map (some w.heap.size)) (w.alloc (.map #[] 0)) := by
  unfold Instr.makeMap
  simp [go_sem]
/-- What the loop keeps. -/
structure AI (w wz : World) (b0 b1 b5 bm r n n1 bag : Nat) (F B : Lds) (V : Nat → Prop) (cnt n' : Nat) (G : Lds) : Prop where
  ran : RanL wz b0 r n F V cnt
  map : MapL wz bm n' G
  bel : Below w.heap.size w wz
  bx : SBox wz b5 bag
  le : n' + cnt ≤ n
  inn : ∀ s, V s → F s ≠ none
  vis : ∀ s, V s → G s = andF F B bag s
  out : ∀ s, ¬ V s → G s = none
theorem AI.under {w wz wy : World} {b0 b1 b5 bm r n n1 bag : Nat} {F B : Lds} {V : Nat → Prop} {cnt n' : Nat} {G : Lds} (h : AI w wz b0 b1 b5 bm r n n1 bag F B V cnt n' G) (hb : Below wz.heap.size wz wy) : AI w wy b0 b1 b5 bm r n n1 bag F B V cnt n' G :=
  ⟨h.ran.kept (row := none) ⟨hb.os, hb.tape, hb.output, hb.size, fun k hk _ => hb.block k hk⟩ (by simp) (by simp), h.map.under hb, below_next h.bel hb, two_next h.bx hb, h.le, h.inn, h.vis, h.out⟩
set_option maxHeartbeats 4000000 in
theorem and_call {w : World} {b0 b1 n n1 bag : Nat} {F B : Lds} (hF : MapL w b0 n F) (hB : MapL w b1 n1 B) (hbag : bag < 2 ^ 128) (hn : n ≤ 100000) (hoF : LdOk F) (hoB : LdOk B) :
    Calls Tryd.prog 75 #[.map (some b0), .map (some b1), sv bag] w fun e w' => (∃ bm G, e = .returned (.map (some bm)) ∧ MapL w' bm n G ∧ w.heap.size ≤ bm ∧ ∀ s, G s = andF F B bag s) ∧ Below w.heap.size w w' := by
  have HH : Hid (MapL w b0 n F ∧ MapL w b1 n1 B ∧ bag < 2 ^ 128 ∧ LdOk F ∧ LdOk B) := ⟨hF, hB, hbag, hoF, hoB⟩
  clear hF hB hbag hoF hoB
  have hmm := makeMap_hint
  go_enter Tryd.func75, Tryd.ntmps75
  go_upto_region 1 with (fail)
  have y5 := two_new w (.int .u64 (lo64 bag : Int)) (.int .u64 (hi64 bag : Int)) 76
  have hB0 := below_alloc (Below.refl _ w) (Obj.cells #[.int .u64 (lo64 bag : Int), .int .u64 (hi64 bag : Int)] 76)
  obtain ⟨b5, hb5⟩ : ∃ b, b = w.heap.size := ⟨_, rfl⟩
  rw [← hb5] at y5 ⊢
  generalize w.alloc (Obj.cells #[.int .u64 (lo64 bag : Int), .int .u64 (hi64 bag : Int)] 76) = W0 at *
  have HW0 : Hid (SBox W0 b5 bag ∧ Below w.heap.size w W0 ∧ b5 = w.heap.size) := ⟨y5, hB0, hb5⟩
  obtain ⟨kl, hkl, hlen⟩ := (HH.out.1.under hB0).len 3
  have hk1 : (kl : Int) ≤ 100000 := by omega
  have hk0 : (0 : Int) ≤ (kl : Int) := by omega
  clear y5 hB0 hb5
  go_upto_region 2 with (fail)
  have m0 := mapL_made W0
  have hB1 := below_alloc (Below.refl _ W0) (Obj.map #[] 0)
  obtain ⟨bm, hbm⟩ : ∃ b, b = W0.heap.size := ⟨_, rfl⟩
  rw [← hbm] at m0 ⊢
  generalize W0.alloc (Obj.map #[] 0) = W1 at *
  have HW1 : Hid (MapL W1 bm 0 (fun _ => none) ∧ SBox W1 b5 bag ∧ Below w.heap.size w W1 ∧ b5 < bm ∧ w.heap.size ≤ b5) := ⟨m0, two_next HW0.out.1 hB1, below_next HW0.out.2.1 hB1, by have := lt_of_block HW0.out.1; omega, Nat.le_of_eq HW0.out.2.2.symm⟩
  clear m0 hB1 hbm hmm hlen hkl hk1 hk0
  have HF1 : Hid (MapL W1 b0 n F) := HH.out.1.under HW1.out.2.2.1
  go_wp2_with (first | (at_range; refine wpList_range_L rfl _ rfl rfl HF1.out ?_; intro w2 cnt0 hc0 hR0 hg0 hs0) | go_in)
  go_frame
  have hB2 : Below W1.heap.size W1 w2 := (Turns.of_grown hg0).below (Below.refl _ _) (Nat.le_refl _) (fun z hz => by cases hz)
  have HI0 : Hid (AI w w2 b0 b1 b5 bm W1.heap.size n n1 bag F B (fun _ => False) cnt0 0 (fun _ => none) ∧ bm < W1.heap.size) := ⟨⟨hR0, HW1.out.1.under hB2, below_next HW1.out.2.2.1 hB2, two_next HW1.out.2.1 hB2, by omega, fun _ h => h.elim, fun _ h => h.elim, fun _ _ => rfl⟩, HW1.out.1.lt⟩
  have HAP : Hid (b5 < bm ∧ bm < W1.heap.size ∧ w.heap.size ≤ b5 ∧ b0 < w.heap.size) := ⟨HW1.out.2.2.2.1, HW1.out.1.lt, HW1.out.2.2.2.2, HH.out.1.lt⟩
  clear hR0 hg0 hs0 hc0 hB2 HF1 HW1 HW0
  generalize W1.heap.size = r at *
  go_loopw [8, 9, 10] (fun _ _ _ wz => ∃ V cnt n' G, Hid (AI w wz b0 b1 b5 bm r n n1 bag F B V cnt n' G)) (fun _ _ _ wz => wz.rangeLeft b0 r)
  case atStart => exact ⟨_, _, _, _, HI0.out.1⟩
  case round =>
    clear HI0
    obtain ⟨V, cnt, n', G, hI⟩ := hrel
    go_wp2_with (first | (at_next; refine wpList_next_L rfl _ rfl rfl hI.out.ran ?_ ?_) | go_in)
    · intro hall
      have HD : Hid (MapL wr bm n G ∧ ∀ s, G s = andF F B bag s) := by
        obtain ⟨D, h1, h2⟩ := hI.out.map
        have hle := hI.out.le
        refine ⟨⟨D, ?_, h2⟩, fun s => ?_⟩
        · obtain ⟨es, clock, k1, k2, k3, k4⟩ := h1
          exact ⟨es, clock, k1, k2, by omega, k4⟩
        · by_cases hV : V s
          · exact hI.out.vis s hV
          · rw [hI.out.out s hV]
            cases hFs : F s with
            | none => simp [andF, hFs]
            | some p => exact absurd (hall s (by rw [hFs]; simp)) hV
      have HB' : Hid (Below w.heap.size w wr ∧ w.heap.size ≤ bm) := ⟨hI.out.bel, by have := HAP.out; omega⟩
      clear hI hall
      go_wp2
      go_ret
      exact ⟨⟨bm, G, rfl, HD.out.1, HB'.out.2, HD.out.2⟩, HB'.out.1⟩
    · intro s p1 p2 w3 cnt3 hs hp hnV hR3 hlt3 hg3 hs3 hen
      have hB3 : Below w.heap.size w w3 := (grown_turns hg3).below hI.out.bel hI.out.bel.size (fun z hz => by subst hz; have := HAP.out; omega)
      have HI3 : Hid (RanL w3 b0 r n F (fun t => V t ∨ t = s) cnt3 ∧ MapL w3 bm n' G ∧ Below w.heap.size w w3 ∧ SBox w3 b5 bag) := ⟨hR3, hI.out.map.block (hg3.block bm hI.out.map.lt (fun e => by cases e; have := HAP.out; omega)), hB3, (hg3.block b5 (lt_of_block hI.out.bx) (fun e => by cases e; have := HAP.out; omega)).trans hI.out.bx⟩
      have HQ : Hid (cnt3 < cnt ∧ wr.rangeLeft b0 r = cnt ∧ n' + cnt ≤ n) := ⟨hlt3, hI.out.ran.left_eq, hI.out.le⟩
      have HV : Hid ((∀ s, V s → F s ≠ none) ∧ (∀ s, V s → G s = andF F B bag s) ∧ (∀ s, ¬ V s → G s = none) ∧ F s = some (p1, p2) ∧ ¬ V s ∧ s < 2 ^ 128) := ⟨hI.out.inn, hI.out.vis, hI.out.out, hp, hnV, hs⟩
      clear hI hR3 hg3 hs3 hB3 hlt3 hnV hp
      go_upto_region 5 with (fail)
      have y8 : SBox ((w3.alloc (Obj.cells #[.int .u64 (lo64 s : Int), .int .u64 (hi64 s : Int)] 76)).alloc (Obj.cells #[.int .i64 p1, .int .u64 (lo64 p2 : Int), .int .u64 (hi64 p2 : Int)] 78)) w3.heap.size s := two_alloc (two_new _ _ _ _) _
      have y9 : LBox ((w3.alloc (Obj.cells #[.int .u64 (lo64 s : Int), .int .u64 (hi64 s : Int)] 76)).alloc (Obj.cells #[.int .i64 p1, .int .u64 (lo64 p2 : Int), .int .u64 (hi64 p2 : Int)] 78)) (w3.heap.size + 1) (p1, p2) := by
        have := box_new (w3.alloc (Obj.cells #[.int .u64 (lo64 s : Int), .int .u64 (hi64 s : Int)] 76)) #[.int .i64 p1, .int .u64 (lo64 p2 : Int), .int .u64 (hi64 p2 : Int)] 78
        have e : (w3.alloc (Obj.cells #[.int .u64 (lo64 s : Int), .int .u64 (hi64 s : Int)] 76)).heap.size = w3.heap.size + 1 := by simp
        rw [e] at this
        exact this
      have hB4 : Below w3.heap.size w3 ((w3.alloc (Obj.cells #[.int .u64 (lo64 s : Int), .int .u64 (hi64 s : Int)] 76)).alloc (Obj.cells #[.int .i64 p1, .int .u64 (lo64 p2 : Int), .int .u64 (hi64 p2 : Int)] 78)) := below_alloc (below_alloc (Below.refl _ w3) _) _
      obtain ⟨b8, hb8⟩ : ∃ b, b = w3.heap.size := ⟨_, rfl⟩
      obtain ⟨b9, hb9⟩ : ∃ b, b = w3.heap.size + 1 := ⟨_, rfl⟩
      rw [← hb9] at y9 ⊢
      rw [← hb8] at y8 ⊢
      generalize (w3.alloc (Obj.cells #[.int .u64 (lo64 s : Int), .int .u64 (hi64 s : Int)] 76)).alloc (Obj.cells #[.int .i64 p1, .int .u64 (lo64 p2 : Int), .int .u64 (hi64 p2 : Int)] 78) = W4 at *
      have HI4 : Hid (∀ A, Below W4.heap.size W4 A → (RanL A b0 r n F (fun t => V t ∨ t = s) cnt3 ∧ MapL A bm n' G ∧ Below w.heap.size w A ∧ SBox A b5 bag) ∧ SBox A b8 s ∧ LBox A b9 (p1, p2) ∧ MapL A b1 n1 B) := fun A hA => by
        have hA' := below_next hB4 hA
        exact ⟨⟨HI3.out.1.kept (row := none) ⟨hA'.os, hA'.tape, hA'.output, hA'.size, fun k hk _ => hA'.block k hk⟩ (by simp) (by simp), HI3.out.2.1.under hA', below_next HI3.out.2.2.1 hA', two_next HI3.out.2.2.2 hA'⟩, two_next y8 hA, box_next y9 hA, HH.out.2.1.under (below_next HI3.out.2.2.1 hA')⟩
      obtain ⟨a0, a1⟩ := cell_two y8
      obtain ⟨d0, d1⟩ := cell_two (HI4.out _ (Below.refl _ _)).1.2.2.2
      have C66 : Hid (∀ A, Calls Tryd.prog 66 #[sv s, sv bag] A fun e w' => e = .returned (sv (s &&& bag)) ∧ Below A.heap.size A w') := fun A => both_call HV.out.2.2.2.2.2 HH.out.2.2.1
      have hlt : s &&& bag < 2 ^ 128 := and_lt HV.out.2.2.2.2.2
      obtain ⟨q, hq⟩ : ∃ q, q = (B (s &&& bag)).getD (0, 0) := ⟨_, rfl⟩
      have HGET : Hid (∀ A, Below W4.heap.size W4 A → (Instr.lookup 106 (.map (some b1)) (sv (s &&& bag)) false).run Tryd.prog A = .ok (lv q) A) := fun A hA => by
        rw [hq]
        exact (HI4.out A hA).2.2.2.get hlt
      have HAND : Hid (andF F B bag s = some (addL (p1, p2) q)) := by
        show _ = _
        unfold andF
        rw [HV.out.2.2.2.1, hq]
        rfl
      have hqk := HH.out.2.2.2.2.get (s &&& bag)
      have hpk := HH.out.2.2.2.1 s _ HV.out.2.2.2.1
      rw [← hq] at hqk
      clear hq y8 y9 hB4 hb8 hb9 HI3
      obtain ⟨q1, q2⟩ := q
      simp only at hqk hpk
      have C69 : Hid (∀ A, Calls Tryd.prog 69 #[sv p2, sv q2] A fun e w' => e = .returned (sv (p2 ||| q2)) ∧ Below A.heap.size A w') := fun A => either_call hpk.2 hqk.2
      generalize s &&& bag = sb at *
      go_upto_region 6 with (first | (go_at_call 66; refine Calls.mono (C66.out _) ?_; rintro e w5 ⟨rfl, h5⟩; have hlk := HGET.out _ h5) | fail)
      have y10 : LBox (w5.alloc (Obj.cells #[.int .i64 q1, .int .u64 (lo64 q2 : Int), .int .u64 (hi64 q2 : Int)] 78)) w5.heap.size (q1, q2) := box_new _ _ _
      have hB6 := below_alloc h5 (Obj.cells #[.int .i64 q1, .int .u64 (lo64 q2 : Int), .int .u64 (hi64 q2 : Int)] 78)
      generalize w5.alloc (Obj.cells #[.int .i64 q1, .int .u64 (lo64 q2 : Int), .int .u64 (hi64 q2 : Int)] 78) = W6 at *
      generalize w5.heap.size = b10 at *
      obtain ⟨⟨_, _, _, _⟩, z8, z9, _⟩ := HI4.out _ hB6
      obtain ⟨u0, u1⟩ := cell_two z8
      obtain ⟨v0, v1, v2⟩ := cell_three z9
      obtain ⟨x0, x1, x2⟩ := cell_three y10
      have HB6 : Hid (Below W4.heap.size W4 W6) := hB6
      have g0 := cell_growD u0
      have g1 := cell_growD u1
      have g2 := cell_growD v0
      have g3 := cell_growD v1
      have g4 := cell_growD v2
      have g5 := cell_growD x0
      have g6 := cell_growD x1
      have g7 := cell_growD x2
      have hw1 : -9223372036854775808 ≤ p1 + q1 := by omega
      have hw2 : p1 + q1 < 9223372036854775808 := by omega
      clear u0 u1 v0 v1 v2 x0 x1 x2 y10 hB6 h5 z8 z9 a0 a1 d0 d1 hlk C66 HGET hqk hpk hlt hen
      refine wp_region_tailT 13 (by kernel_rfl) (by kernel_rfl) (by kernel_rfl) (by decide) ?_
      simp only [List.take_succ_cons, List.take_zero, List.drop_succ_cons, List.drop_zero]
      repeat (go_big_quiet_step (first | (go_at_call 69; exact Calls.belowQ (fun W hW => C69.out W))))
      refine wpQuiet_nil ?_
      rintro _ ⟨gp, rfl⟩
      have hB7 := growD_below W6 gp
      clear g0 g1 g2 g3 g4 g5 g6 g7
      generalize growD W6 gp = W7 at *
      obtain ⟨⟨f1, f2, f3, f4⟩, _, _, _⟩ := HI4.out _ (below_next HB6.out hB7)
      obtain ⟨w8, hrun, m8, ht8⟩ := f2.store (s := s) hs (addL (p1, p2) (q1, q2)) (by have := HQ.out; omega)
      have HN : Hid (AI w w8 b0 b1 b5 bm r n n1 bag F B (fun t => V t ∨ t = s) cnt3 (n' + 1) (updL G s (addL (p1, p2) (q1, q2)))) := by
        have hap := HAP.out
        have hq := HQ.out
        obtain ⟨k1, k2, k3, k4, k5, k6⟩ := HV.out
        refine ⟨f1.kept ht8.grown (fun e => by cases e; omega) (fun e => by cases e; omega), m8, (grown_turns ht8.grown).below f3 f3.size (fun z hz => by subst hz; omega), two_turns f4 (grown_turns ht8.grown) (by omega), by omega, fun t ht => ?_, fun t ht => ?_, fun t ht => ?_⟩
        · rcases ht with h | rfl
          · exact k1 t h
          · rw [k4]; simp
        · rcases ht with h | rfl
          · have hne : t ≠ s := fun e => k5 (by rw [← e]; exact h)
            unfold updL
            rw [if_neg hne]
            exact k2 t h
          · rw [updL_same]; exact HAND.out.symm
        · unfold updL
          rw [if_neg (fun e => ht (Or.inr e))]
          exact k3 t (fun h => ht (Or.inl h))
      unfold addL at hrun
      simp only at hrun
      clear f1 f2 f3 f4 m8 ht8 hB7 HI4 HB6 C69 HV HAND
      go_wp2
      go_roundw
      case rel => exact ⟨_, _, _, _, HN⟩
      case measure => rw [HN.out.ran.left_eq, HQ.out.2.1]; exact HQ.out.1
end Go.Proofs.YtdalconphfgepaaDoor
