/- House.Graph. -/
import Derived.Test.YtfdlndljpmamgaaSortM
import Derived.Test.YtfdlndljpmamgaaIterM
import Derived.Test.YtfdlndljpmamgaaNewW
namespace Go.Proofs.Ytfdlndljpmamgaa
set_option maxRecDepth 8000
open Go.RowKit Go.Maps Go.Sort Go.Shelf
attribute [local go_sem ↓] Go.wp_at_zero Go.wp_at_succ
def ltP (x y : Pair) : Prop := x.1 < y.1 ∨ (x.1 = y.1 ∧ x.2 < y.2)
theorem strict_eq : ∀ (l m : List Pair), l.Pairwise ltP → m.Pairwise ltP → (∀ x, x ∈ l ↔ x ∈ m) → l = m
  | [], m, _, _, h => by
    cases m with
    | nil => rfl
    | cons b m => exact absurd ((h b).2 (by simp)) (by simp)
  | a :: l, [], _, _, h => absurd ((h a).1 (by simp)) (by simp)
  | a :: l, b :: m, h1, h2, h => by
    rw [List.pairwise_cons] at h1 h2
    have hab : a = b := by
      rcases List.mem_cons.1 ((h a).1 (by simp)) with e | e
      · exact e
      · rcases List.mem_cons.1 ((h b).2 (by simp)) with e' | e'
        · exact e'.symm
        · have k1 := h2.1 a e
          have k2 := h1.1 b e'
          unfold ltP at k1 k2
          omega
    subst hab
    congr 1
    refine strict_eq l m h1.2 h2.2 fun x => ⟨fun hx => ?_, fun hx => ?_⟩
    · rcases List.mem_cons.1 ((h x).1 (List.mem_cons_of_mem _ hx)) with e | e
      · have := h1.1 x hx; rw [e] at this; unfold ltP at this; omega
      · exact e
    · rcases List.mem_cons.1 ((h x).2 (List.mem_cons_of_mem _ hx)) with e | e
      · have := h2.1 x hx; rw [e] at this; unfold ltP at this; omega
      · exact e
theorem rowTo_strict (p : Int → Int → Bool) (u v : Nat) : (rowTo p u v).Pairwise ltP := by
  unfold rowTo
  refine List.Pairwise.map _ (R := fun a b => a < b) (fun a b h => Or.inr ⟨rfl, ?_⟩) (List.pairwise_lt_range.filter _)
  simpa using h
theorem allP_strict (n : Nat) (p : Int → Int → Bool) : (allP n p).Pairwise ltP := by
  unfold allP rowsTo
  rw [List.pairwise_flatMap]
  refine ⟨fun u _ => rowTo_strict p u n, ?_⟩
  refine List.Pairwise.imp (fun {a b} (hne : a < b) => ?_) List.pairwise_lt_range
  intro e h1 e' h2
  simp [rowTo] at h1 h2
  obtain ⟨_, _, rfl⟩ := h1
  obtain ⟨_, _, rfl⟩ := h2
  exact Or.inl (by simpa using hne)
theorem own_ge {w : World} {base : Nat} {t : TypeId} {sz : Nat} {v : Value} {n : Nat} {xs : List Value} (h : w.ownsRow base t sz v n xs) {k : Nat} (hk : v.ownBlock = some k) : base ≤ k := by
  rcases h.2 with ⟨rfl, _⟩ | ⟨g, cap, cur, rfl, hb, _⟩
  · cases hk
  · injection hk with hk; subst hk; exact hb
/-- Has a house an edge, as a table tells it. -/
def eB (E : Ed) (u v : Int) : Bool := E u.toNat v.toNat
theorem coll_sorted {E : Ed} {N : Nat} {ss L : List Pair} (h : Coll E (fun _ => false) ss) (hE : EdOk N E) (_ : N ≤ 100) (hp : L.Perm ss) (hs : L.Pairwise fun a b => 0 ≤ cmpP b a) : L = allP N (eB E) := by
  refine strict_eq L _ ?_ (allP_strict _ _) fun x => ?_
  · have hn : L.Nodup := hp.nodup_iff.2 h.nodup
    rw [List.pairwise_iff_getElem] at hs ⊢
    intro i j hi hj hij
    have h1 := hs i j hi hj hij
    have h2 : L[i] ≠ L[j] := fun e => by have := (List.getElem_inj hn).1 e; omega
    have h3 := mt (cmpP_lt L[j] L[i]).2 (by omega)
    have h4 : ¬ (L[i].1 = L[j].1 ∧ L[i].2 = L[j].2) := fun e => h2 (Prod.ext e.1 e.2)
    unfold ltP
    omega
  · rw [hp.mem_iff, h.mem, allP_mem]
    constructor
    · rintro ⟨u, v, rfl, h1, _⟩
      obtain ⟨h3, h4⟩ := hE u v h1
      exact ⟨u, v, h3, h4, by simpa [eB] using h1, rfl⟩
    · rintro ⟨u, v, _, _, h1, rfl⟩
      exact ⟨u, v, rfl, by simpa [eB] using h1, rfl⟩
set_option maxHeartbeats 2000000 in
theorem sortedF_call {E : Ed} {N em nn Bm : Nat} {w : World} (hE : EdOk N E) (hN : N ≤ 100) (hm : w.cell? ⟨Bm, 0, none⟩ = some (.map (some em))) (hM : EdM w em nn E) :
    Calls Try.prog 41 #[.func (.func 55) #[] #[ptr Bm], .func (.func 43) #[] #[]] w fun e w' => ∃ v, e = .returned v ∧ w'.ownsRow w.heap.size 59 2 v (allP N (eB E)).length (flat (allP N (eB E))) ∧ Below w.heap.size w w' := by
  have HA := hid (collect_call hE hN hm hM)
  have HE := hid (And.intro hE hN)
  clear hm hM hE hN
  go_enter Try.func41, Try.ntmps41
  go_wp2_with (first | (go_at_call 53; refine Calls.mono HA.out ?_; rintro e w2 ⟨v, ss, rfl, h1, h2, h3⟩; have H1 := hid h1; have H2 := hid h2; have H3 := hid h3; have HS := hid (sortP_call h2 (by have := h1.len HE.out.1 HE.out.2; omega)); clear h1 h2 h3) | (go_at_call 54; refine Calls.mono HS.out ?_; rintro e w3 ⟨rfl, L', h4, h5, h6, h7⟩; have H4 := hid h4; have H5 := hid h5; have H6 := hid h6; have H7 := hid h7; clear h4 h5 h6 h7) | go_in)
  go_ret
  have e := coll_sorted H1.out HE.out.1 HE.out.2 H4.out H5.out
  subst e
  exact ⟨_, rfl, H6.out, Turns.below H3.out H7.out H3.out.size fun k hk => own_ge H2.out hk.symm⟩
theorem own_low {w : World} {base base' : Nat} {t : TypeId} {sz : Nat} {v : Value} {n : Nat} {xs : List Value} (h : w.ownsRow base t sz v n xs) (hb : base' ≤ base) : w.ownsRow base' t sz v n xs := by
  refine ⟨h.1, ?_⟩
  rcases h.2 with h | ⟨g, cap, cur, e, h1, h2⟩
  · exact Or.inl h
  · exact Or.inr ⟨g, cap, cur, e, Nat.le_trans hb h1, h2⟩
theorem graph_end {w W2 w3 w4 : World} {v nv : Value} {n m : Nat} {xs ys : List Value} {x0 y0 : Value} (hB2 : Below w.heap.size w W2) (h1 : w3.ownsRow W2.heap.size 59 2 v n xs) (hB3 : Below w.heap.size w w3) (k1 : w4.ownsRow w3.drew.heap.size 9 1 nv m ys) (k2 : Below w3.heap.size w3 w4) (ht : Two w3 w.heap.size x0 y0 42) (x y : Value) :
    Two ((w4.setCell ⟨w.heap.size, 0, none⟩ x).setCell ⟨w.heap.size, 1, none⟩ y) w.heap.size x y 42 ∧ ((w4.setCell ⟨w.heap.size, 0, none⟩ x).setCell ⟨w.heap.size, 1, none⟩ y).ownsRow w.heap.size 59 2 v n xs ∧ ((w4.setCell ⟨w.heap.size, 0, none⟩ x).setCell ⟨w.heap.size, 1, none⟩ y).ownsRow w.heap.size 9 1 nv m ys ∧ Below w.heap.size w ((w4.setCell ⟨w.heap.size, 0, none⟩ x).setCell ⟨w.heap.size, 1, none⟩ y) := by
  have t4 := two_next ht k2
  have hT := (setCell_turns w4 w.heap.size 0 x).trans (setCell_turns _ w.heap.size 1 y)
  have hB4 := below_next hB3 k2
  have k1 : w4.ownsRow w3.heap.size 9 1 nv m ys := k1
  refine ⟨two_setN t4, own_low (ownsRow_blocks (ownsRow_blocks h1 fun b hb => k2.block b (h1.lt b hb).2) fun b hb => hT.block b ?_ ?_) hB2.size, own_low (ownsRow_blocks k1 fun b hb => hT.block b (k1.lt b hb).2 ?_) hB3.size, Turns.below hB4 hT hB4.size fun k e => by omega⟩
  · exact Nat.lt_of_lt_of_le (h1.lt b hb).2 k2.size
  · intro e
    subst e
    obtain ⟨cs, hc⟩ := own_cells h1 hb
    rw [show w3.heap[w.heap.size]? = _ from ht] at hc
    cases hc
  · intro e
    subst e
    obtain ⟨cs, hc⟩ := own_cells k1 hb
    rw [show w4.heap[w.heap.size]? = _ from t4] at hc
    cases hc
set_option maxHeartbeats 4000000 in
theorem graph_call {w : World} {p : Hp} {L : List ByteArray} {E : Ed} {K : List Ck} {n : Nat} (h : Hse w p L E K n) (hL : L.length ≤ 100) (hE : EdOk L.length E) :
    Calls Try.prog 17 #[ptr p.b] w fun e w' => ∃ ev nv, e = .returned (.tuple #[.agg #[.int .i64 (L.length : Int), ev], nv]) ∧ w'.ownsRow w.heap.size 59 2 ev (allP L.length (eB E)).length (flat (allP L.length (eB E))) ∧ w'.ownsRow w.heap.size 9 1 nv L.length (sv L) ∧ Below w.heap.size w w' := by
  obtain ⟨⟨hbox, hnm, _, hed, _, _⟩, _⟩ := h
  have hB1 := below_alloc (Below.refl _ w) (Obj.cells #[.int .i64 0, .slice none 0 0] 42)
  have hB2 := below_alloc hB1 (Obj.cells #[.map (some p.em)] 62)
  obtain ⟨W2, hW2⟩ : ∃ W2, W2 = (w.alloc (Obj.cells #[.int .i64 0, .slice none 0 0] 42)).alloc (Obj.cells #[.map (some p.em)] 62) := ⟨_, rfl⟩
  rw [← hW2] at hB2
  have hm : W2.cell? ⟨w.heap.size + 1, 0, none⟩ = some (.map (some p.em)) := by
    rw [hW2]
    have := one_new (w.alloc (Obj.cells #[.int .i64 0, .slice none 0 0] 42)) (.map (some p.em)) 62
    rw [World.size_alloc] at this
    exact box_cell this rfl
  have CS := hid (sortedF_call (w := W2) hE hL hm (hed.block (hB2.block _ hed.lt)))
  have t2 : Two W2 w.heap.size (.int .i64 0) (.slice none 0 0) 42 := by rw [hW2]; exact two_alloc (two_new _ _ _ _) _
  obtain ⟨ao, cap, hnv⟩ := form_own hnm
  have hlt2 := hB2.size
  have HW2 := hid hW2
  have HM : Hid (∀ W, Turns (fun k => k = w.heap.size) w W → W.ownsRow 0 9 1 p.nv L.length (sv L)) := fun W hT => row_turns hnm hT fun x hx e => by
    obtain ⟨cs, hc⟩ := row_obj hnm hx
    have := lt_of_block hc
    omega
  rw [hW2] at CS
  obtain ⟨c0, c1, c2, c3, c4⟩ := hbox_cells hbox
  rw [hnv] at c0 HM
  have e2 : ∀ o, (w.alloc o).cell? ⟨p.b, 2, none⟩ = some (.map (some p.em)) := fun o => all_alloc c2 o
  have KB := hid hB2
  clear hbox hnm hed hm hB1 hB2 c1 c3 c4
  go_enter Try.func17, Try.ntmps17
  go_upto_region 2 with (first | (go_at_call 42; refine Calls.mono (keysF_call p.em _) ?_; rintro e w2 ⟨rfl, rfl⟩) | (go_at_call 41; refine Calls.mono CS.out ?_; rintro e w3 ⟨ev, rfl, h1, h2⟩))
  rw [← HW2.out] at h1 h2
  have hB3 := below_next KB.out h2
  have t3 := two_next t2 h2
  obtain ⟨d0, d1⟩ := cell_two t3
  have f0 := free_two t3 0
  have f1 := free_two t3 1
  have g0 : w3.cell? ⟨p.b, 0, none⟩ = some (.slice ao L.length cap) := (hB3.cell (World.block_lt_of_cell? w _ c0)).trans c0
  obtain ⟨eo, ec, rfl⟩ := form_row h1
  have H1 := hid h1
  have HB3 := hid hB3
  have T3 := hid t3
  obtain ⟨b, hb⟩ : ∃ b, b = w.heap.size := ⟨_, rfl⟩
  rw [← hb] at d0 d1 f0 f1 ⊢
  have HBB := hid hb
  clear hb
  have hn2 : W2.heap.size ≠ 0 := by have := lt_of_block t2; omega
  have H0 := hid (HB3.out)
  have CC : Hid (Calls Try.prog 45 #[.slice ao L.length cap] w3.drew fun e w' => ∃ v', e = .returned v' ∧ w'.ownsRow w3.drew.heap.size 9 1 v' L.length (sv L) ∧ (Below w3.heap.size w3 w' ∧ w'.cell? ⟨p.b, 0, none⟩ = some (.slice ao L.length cap) ∧ w'.cell? ⟨b, 0, none⟩ = some (.int .i64 0) ∧ w'.cell? ⟨b, 1, none⟩ = some (.slice none 0 0) ∧ w'.frozen? ⟨b, 0, none⟩ = false ∧ w'.frozen? ⟨b, 1, none⟩ = false)) := by
    refine Calls.mono (cloneS_call (HM.out w3.drew (Turns.of_below H0.out.drew _)) (by omega)) ?_
    rintro e w' ⟨v', rfl, k1, k2⟩
    have k2' : Below w3.heap.size w3 w' := (Below.refl _ w3).drew.trans k2
    have t4 := two_next T3.out k2'
    obtain ⟨x0, x1⟩ := cell_two t4
    rw [HBB.out]
    exact ⟨_, rfl, k1, k2', (k2'.cell (World.block_lt_of_cell? w3 _ g0)).trans g0, x0, x1, free_two t4 0, free_two t4 1⟩
  clear h1 h2 hB3 t3 t2 c0 c2 e2 hlt2 CS hn2
  go_region_with (go_at_call 45; refine Calls.mono CC.out ?_; rintro e w4 ⟨nv, rfl, k1, k2, q0, q1, q2, q3, q4⟩)
  all_goals
    have hE := graph_end KB.out H1.out HB3.out k1 k2 T3.out (.int .i64 (L.length : Int)) (.slice eo (allP L.length (eB E)).length ec)
    rw [← HBB.out] at hE
    generalize (w4.setCell ⟨b, 0, none⟩ (.int .i64 (L.length : Int))).setCell ⟨b, 1, none⟩ (.slice eo (allP L.length (eB E)).length ec) = W5 at hE ⊢
    obtain ⟨z0, z1, z2, z3⟩ := hE
    rw [HBB.out] at z1 z2 z3
    obtain ⟨y0, y1⟩ := cell_two z0
    have Z := hid (And.intro z1 (And.intro z2 z3))
    clear z0 z1 z2 z3 k1 k2 q0 q1 q2 q3 q4 CC H0 HB3 T3 H1 KB HM HW2 hW2 g0 d0 d1 f0 f1
    go_wp2
    exact bodyPost_ret (v := .tuple #[.agg #[.int .i64 (L.length : Int), .slice eo (allP L.length (eB E)).length ec], nv]) (by simp [results, Try.results17, go_sem, y0, y1]) rfl ⟨_, _, rfl, Z.out.1, Z.out.2.1, Z.out.2.2⟩
end Go.Proofs.Ytfdlndljpmamgaa
