/- The heaviest load of all: the mathematics; and scale.best. width.Heaviest. -/
import Derived.Test.YtdalconphfgepaaDoorScaMW
import Derived.Test.YtdalconphfgepaaDoorChkW
import Derived.Test.YtdalconphfgepaaDoorOrdMN
namespace Go.Proofs.YtdalconphfgepaaDoor
set_option maxRecDepth 8000
open Go.RowKit Go.Maps
attribute [local go_sem ↓] Go.wp_at_zero Go.wp_at_succ
theorem bound_all (d : Nat → Nat) : ∀ m, ∃ D, ∀ j, j < m → d j ≤ D
  | 0 => ⟨0, fun j h => by omega⟩
  | m + 1 => by
    obtain ⟨D, h⟩ := bound_all d m
    refine ⟨max D (d m), fun j hj => ?_⟩
    by_cases e : j = m
    · subst e; omega
    · have := h j (by omega); omega
theorem td_of {N m : Nat} {es : List E2} {bags : List Nat} {f : Nat → Int} (hes : ∀ e ∈ es, e.1 < N ∧ e.2 < N) (hgood : ∀ e ∈ pz es, (0 ≤ e.1 ∧ e.1 < N ∧ 0 ≤ e.2 ∧ e.2 < N) ∧ e.1 ≠ e.2) (hl : liesB N (pz es) bags f = true) (hlb : bags.length = m) (hbit : ∀ j v, (at' bags j).testBit v = true → v < N) (h0 : 0 < m) : ∃ d D, TD m N f bags (nearBy N es) d ∧ (∀ j, j < m → d j ≤ D) ∧ ∃ r, (r < m ∧ f r = -1) ∧ (∀ s, s < m → f s = -1 → s = r) ∧ ∀ j, j < m → Sub f m r j := by
  have hl2 := (lies_iff (fun e he => (hgood e he).1)).1 hl
  rw [hlb] at hl2
  obtain ⟨hup, _, hhold, hhang⟩ := hl2
  unfold liesB at hl
  rw [if_neg (by omega), hlb] at hl
  simp only [Bool.and_eq_true] at hl
  obtain ⟨ht, hroots⟩ := treeB_all hl.1.1
  obtain ⟨d, hd⟩ := tree_depth ht
  obtain ⟨D, hD⟩ := bound_all d m
  obtain ⟨r, hr, hu⟩ := roots_one.1 hroots
  refine ⟨d, D, ⟨hd, fun v hv => ?_, hbit, fun a b hab => ?_, nearBy_sym hes, fun j hj => ?_⟩, hD, r, hr, hu, fun j hj => ?_⟩
  · exact (hang_iff (n := m) (f := f) (P := Hs bags m v) (fun j h => h.1) ht).1 (hhang v hv)
  · obtain ⟨e, he, hc⟩ := (nearBy_iff hes a b).1 hab
    unfold holdB at hhold
    rw [List.all_eq_true] at hhold
    have h1 := hhold ((e.1 : Int), (e.2 : Int)) (List.mem_map.2 ⟨e, he, rfl⟩)
    rw [List.any_eq_true] at h1
    obtain ⟨s, hs, hi⟩ := h1
    obtain ⟨j, hj, rfl⟩ := List.mem_iff_getElem.1 hs
    unfold inBag at hi
    simp only [Int.toNat_natCast, Bool.and_eq_true] at hi
    have ej : at' bags j = bags[j] := by simp [at', hj]
    rw [← ej] at hi
    rcases hc with ⟨rfl, rfl⟩ | ⟨rfl, rfl⟩
    · exact ⟨j, ⟨by omega, hi.1⟩, ⟨by omega, hi.2⟩⟩
    · exact ⟨j, ⟨by omega, hi.2⟩, ⟨by omega, hi.1⟩⟩
  · rcases hup j hj with h | h
    · exact Or.inl h
    · obtain ⟨u, e⟩ := Int.eq_ofNat_of_zero_le h.1.1
      exact Or.inr ⟨u, e, by omega⟩
  · obtain ⟨t, h1, h2⟩ := up_top (n := m) (f := f) (P := (· < m)) (fun _ h => h) hd (d j) j (Nat.le_refl _) hj
    have : t = r := by
      rcases hup t h1.1 with h | h
      · exact hu t h1.1 h
      · obtain ⟨u, e⟩ := Int.eq_ofNat_of_zero_le h.1.1
        exact absurd (show u < m by omega) (h1.2 u e)
    rw [← this]
    exact h2
/-- A load that none outweighs. -/
def HvA (near : List Nat) (wt : Nat → Int) (N : Nat) (p : Int × Nat) : Prop := p.2 < 2 ^ 128 ∧ p.1 = wsum wt p.2 ∧ Ind near p.2 ∧ (∀ x, p.2.testBit x = true → x < N) ∧ ∀ I, I < 2 ^ 128 → Ind near I → (∀ x, I.testBit x = true → x < N) → wsum wt I ≤ p.1
theorem hv_root {m N : Nat} {f : Nat → Int} {bags near : List Nat} {d : Nat → Nat} (T : TD m N f bags near d) {wt : Nat → Int} {r : Nat} (hs : ∀ j, j < m → Sub f m r j) {R : Lds} (h : UR near bags f m wt r 0 R) : ∃ p, R 0 = some p ∧ HvA near wt N p := by
  obtain ⟨p, hp, _⟩ := h.best 0 (by decide) (fun a b ha => by rw [Nat.zero_testBit] at ha; cases ha) (fun x hx => by rw [Nat.zero_testBit] at hx; cases hx)
  have e0 : ∀ I : Nat, I &&& at' bags r &&& 0 = 0 := fun I => Nat.and_zero _
  rw [e0] at hp
  obtain ⟨h1, h2, _, h4, h5⟩ := h.is 0 p hp
  refine ⟨p, hp, h1, h2, by simpa using h5, fun x hx => ?_, fun I hI hInd hb => ?_⟩
  · obtain ⟨_, j, _, hb⟩ := h4 x hx
    exact T.bit j x hb.2
  · obtain ⟨q, hq, hle⟩ := h.best I hI hInd (fun x hx => by
      obtain ⟨t, ht, _⟩ := T.hang x (hb x hx)
      exact ⟨t, hs t ht.1.1, ht.1⟩)
    rw [e0, hp] at hq
    cases hq
    have : sLess I 0 = I := by
      refine Nat.eq_of_testBit_eq fun x => ?_
      rw [bit_less, Nat.zero_testBit]
      simp
    rwa [this] at hle
set_option maxHeartbeats 2000000 in
theorem best_none {w : World} {x0 x1 x2 x3 : Value} : Calls Tryd.prog 42 #[.agg #[x0, x1, x2, x3, .int .i64 (-1)]] w fun e w' => e = .returned (.agg #[.int .i64 0, .int .u64 0, .int .u64 0]) ∧ Below w.heap.size w w' := by
  go_enter Tryd.func42, Tryd.ntmps42
  go_upto_region 1 with (fail)
  have y1 : Box ((w.alloc (Obj.cells #[x0, x1, x2, x3, .int .i64 (-1)] 80)).alloc (Obj.cells #[.int .i64 0, .int .u64 0, .int .u64 0] 78)) w.heap.size #[x0, x1, x2, x3, .int .i64 (-1)] 80 := (below_alloc (Below.refl _ _) _).block _ (by simp) |>.trans (heap_alloc_new _ _)
  have y2 := box_new (w.alloc (Obj.cells #[x0, x1, x2, x3, .int .i64 (-1)] 80)) #[.int .i64 0, .int .u64 0, .int .u64 0] 78
  have hB := below_alloc (below_alloc (Below.refl _ w) (Obj.cells #[x0, x1, x2, x3, .int .i64 (-1)] 80)) (Obj.cells #[.int .i64 0, .int .u64 0, .int .u64 0] 78)
  have e3 : (w.alloc (Obj.cells #[x0, x1, x2, x3, .int .i64 (-1)] 80)).heap.size = w.heap.size + 1 := by simp
  rw [e3] at y2
  generalize (w.alloc (Obj.cells #[x0, x1, x2, x3, .int .i64 (-1)] 80)).alloc (Obj.cells #[.int .i64 0, .int .u64 0, .int .u64 0] 78) = W0 at *
  have c4 : W0.cell? ⟨w.heap.size, 4, none⟩ = some (.int .i64 (-1)) := box_cell y1 (i := 4) rfl
  obtain ⟨q1, q2, q3, q4, q5, q6, q7, q8⟩ := store_three y2 (.int .i64 0) (.int .u64 0) (.int .u64 0)
  obtain ⟨r0, r1, r2⟩ := cell_three q7
  have HB : Hid _ := q8.below hB hB.size (fun z hz => by subst hz; omega)
  clear y1 y2 hB e3 q7 q8
  go_wp2
  refine bodyPost_ret (v := .agg #[.int .i64 0, .int .u64 0, .int .u64 0]) ?_ rfl ⟨rfl, HB.out⟩
  simp [results, Tryd.results42, go_sem, r0, r1, r2]
set_option maxHeartbeats 4000000 in
theorem best_call {w : World} {bn bb : Nat} {wo ko : Option Addr} {N m wc kc D r : Nat} {near bags : List Nat} {f : Nat → Int} {wt : Nat → Int} {kd : Nat → List Nat} {d : Nat → Nat} (S : Sd N m near bags f wt kd d D) (hSc : Sc w bn bb wo ko N m near bags wt kd) (hr : r < m) (hf : f r = -1) (hs : ∀ j, j < m → Sub f m r j) :
    Calls Tryd.prog 42 #[.agg #[sl bn N, .slice wo N wc, sl bb m, .slice ko m kc, .int .i64 (r : Int)]] w fun e w' => (∃ p, e = .returned (lv p) ∧ HvA near wt N p) ∧ Below w.heap.size w w' := by
  have hab : aboveS bags f r = 0 := by unfold aboveS; rw [if_pos hf]
  have C61 : Hid (∀ A, Below w.heap.size w A → Calls Tryd.prog 61 #[.agg #[sl bn N, .slice wo N wc, sl bb m, .slice ko m kc, .int .i64 (r : Int)], .int .i64 (r : Int), .agg #[.int .u64 0, .int .u64 0]] A fun e w' => (∃ b p, e = .returned (.map (some b)) ∧ HvA near wt N p ∧ (∀ A', Below w'.heap.size w' A' → (Instr.lookup 106 (.map (some b)) (.agg #[.int .u64 0, .int .u64 0]) false).run Tryd.prog A' = .ok (lv p) A')) ∧ Below A.heap.size A w') := fun A hA => by
    have := upTo_call (x4 := .int .i64 (r : Int)) (wc := wc) (kc := kc) S (D + 1) A r (hSc.below hA) hr (by omega)
    rw [hab, sv_zero] at this
    refine this.mono ?_
    rintro e w' ⟨⟨x, rfl, b, n, R, rfl, hM, _, hUR⟩, hB⟩
    obtain ⟨p, hp, hv⟩ := hv_root S.T hs hUR
    refine ⟨⟨b, p, rfl, hv, fun A' hA' => ?_⟩, hB⟩
    have h1 := (hM.under hA').get (s := 0) (by decide)
    rw [hp, sv_zero] at h1
    exact h1
  have hk : ((r : Int) == -1) = false := by simp
  have hk2 : ¬ ((r : Int) = -1) := by omega
  clear hSc hab hs
  go_enter Tryd.func42, Tryd.ntmps42
  go_upto_region 1 with (fail)
  have y1 : Box ((w.alloc (Obj.cells #[sl bn N, .slice wo N wc, sl bb m, .slice ko m kc, .int .i64 (r : Int)] 80)).alloc (Obj.cells #[.int .i64 0, .int .u64 0, .int .u64 0] 78)) w.heap.size #[sl bn N, .slice wo N wc, sl bb m, .slice ko m kc, .int .i64 (r : Int)] 80 := (below_alloc (Below.refl _ _) _).block _ (by simp) |>.trans (heap_alloc_new _ _)
  have y2 := box_new (w.alloc (Obj.cells #[sl bn N, .slice wo N wc, sl bb m, .slice ko m kc, .int .i64 (r : Int)] 80)) #[.int .i64 0, .int .u64 0, .int .u64 0] 78
  have hB := below_alloc (below_alloc (Below.refl _ w) (Obj.cells #[sl bn N, .slice wo N wc, sl bb m, .slice ko m kc, .int .i64 (r : Int)] 80)) (Obj.cells #[.int .i64 0, .int .u64 0, .int .u64 0] 78)
  have e3 : (w.alloc (Obj.cells #[sl bn N, .slice wo N wc, sl bb m, .slice ko m kc, .int .i64 (r : Int)] 80)).heap.size = w.heap.size + 1 := by simp
  rw [e3] at y2
  generalize (w.alloc (Obj.cells #[sl bn N, .slice wo N wc, sl bb m, .slice ko m kc, .int .i64 (r : Int)] 80)).alloc (Obj.cells #[.int .i64 0, .int .u64 0, .int .u64 0] 78) = W0 at *
  have c0 : W0.cell? ⟨w.heap.size, 0, none⟩ = some (sl bn N) := box_cell y1 (i := 0) rfl
  have c1 : W0.cell? ⟨w.heap.size, 1, none⟩ = some (.slice wo N wc) := box_cell y1 (i := 1) rfl
  have c2 : W0.cell? ⟨w.heap.size, 2, none⟩ = some (sl bb m) := box_cell y1 (i := 2) rfl
  have c3 : W0.cell? ⟨w.heap.size, 3, none⟩ = some (.slice ko m kc) := box_cell y1 (i := 3) rfl
  have c4 : W0.cell? ⟨w.heap.size, 4, none⟩ = some (.int .i64 (r : Int)) := box_cell y1 (i := 4) rfl
  obtain ⟨b2, hb2⟩ : ∃ b, b = w.heap.size + 1 := ⟨_, rfl⟩
  rw [← hb2] at y2 ⊢
  have HW0 : Hid (Box W0 b2 #[.int .i64 0, .int .u64 0, .int .u64 0] 78 ∧ Below w.heap.size w W0 ∧ w.heap.size ≤ b2) := ⟨y2, hB, by omega⟩
  clear y1 y2 hB e3 hb2
  have C61' : Hid _ := C61.out W0 HW0.out.2.1
  clear C61
  go_upto_region 3 with (fail)
  go_wp2_with (first | (go_at_call 61; refine Calls.mono C61'.out ?_; rintro e w2 ⟨⟨b, p, rfl, hv, hget⟩, hB2⟩; have hlk := hget w2 (Below.refl _ _); obtain ⟨p1, p2⟩ := p; obtain ⟨q1, q2, q3, q4, q5, q6, q7, q8⟩ := store_three (box_next HW0.out.1 hB2) (.int .i64 p1) (.int .u64 (lo64 p2 : Int)) (.int .u64 (hi64 p2 : Int)); obtain ⟨r0, r1, r2⟩ := cell_three q7; have HV : Hid _ := And.intro hv (And.intro q8 hB2); clear hv hget hB2 q7 q8) | go_in)
  have hBF := below_next HW0.out.2.1 HV.out.2.2
  refine bodyPost_ret (v := lv (p1, p2)) ?_ rfl ⟨⟨(p1, p2), rfl, HV.out.1⟩, HV.out.2.1.below hBF hBF.size (fun z hz => by subst hz; exact HW0.out.2.2)⟩
  simp [results, Tryd.results42, go_sem, r0, r1, r2]
end Go.Proofs.YtdalconphfgepaaDoor

namespace Go.Proofs.YtdalconphfgepaaDoor
set_option maxRecDepth 8000
open Go.RowKit Go.Maps
attribute [local go_sem ↓] Go.wp_at_zero Go.wp_at_succ
structure SQ (W : World) (m : Nat) (VP : Nat → Value → World → Prop) (FP : (Nat → Value) → World → Prop) (L : Nat → Bool) (f : Nat → Value) (w : World) : Prop where
  told : L m = false → ∀ i, i < m → L i = true → VP i (f i) w
  w0 : L m = false → Below W.heap.size W w
  fin : L m = true → FP f w
  cl : L m = true → ∀ j, j < m → L j = true
section
variable {W : World} {m : Nat} {VP : Nat → Value → World → Prop} {FP : (Nat → Value) → World → Prop} {L : Nat → Bool} {f : Nat → Value} {w w' : World}
theorem SQ.start : SQ W m VP FP (fun _ => false) f W.drew := ⟨fun _ _ _ h => (by cases h), fun _ => (Below.refl _ W).drew, fun h => (by cases h), fun h => (by cases h)⟩
theorem SQ.open_ (h : SQ W m VP FP L f w) {i : Nat} (hL : L i = false) (hi : i < m) : L m = false := by
  cases e : L m with
  | false => rfl
  | true => have := h.cl e i hi; rw [hL] at this; cases this
theorem SQ.early (h : SQ W m VP FP L f w) {i : Nat} (hL : L i = false) (hi : i < m) : Below W.heap.size W w := h.w0 (h.open_ hL hi)
theorem SQ.tl (h : SQ W m VP FP L f w) {i : Nat} (hL : L i = false) (hi : i < m) {j : Nat} (hj : j < m) (hl : L j = true) : VP j (f j) w := h.told (h.open_ hL hi) j hj hl
theorem SQ.put (h : SQ W m VP FP L f w) (hmono : ∀ i x w w', VP i x w → Below w.heap.size w w' → VP i x w') {i : Nat} {x : Value} (hL : L i = false) (hi : i < m) (hb : Below w.heap.size w w') (hx : VP i x w') : SQ W m VP FP (also L i) (updV f i x) w' := by
  have h7 := h.open_ hL hi
  have a7 : also L i m = false := by rw [also_at (by omega)]; exact h7
  refine ⟨fun _ j hj hk => ?_, fun _ => below_next (h.w0 h7) hb, fun hk => (by rw [a7] at hk; cases hk), fun hk => (by rw [a7] at hk; cases hk)⟩
  by_cases e : j = i
  · subst e; rw [updV_same]; exact hx
  · rw [updV_ne _ _ e]; exact hmono _ _ _ _ (h.told h7 j hj (by rwa [also_at e] at hk)) hb
theorem SQ.last (h : SQ W m VP FP L f w) (hall : ∀ j, j < m → L j = true) {x : Value} (hf : FP (updV f m x) w') : SQ W m VP FP (also L m) (updV f m x) w' := by
  have _ := h
  have a7 : also L m m = true := also_self _ _
  exact ⟨fun hk => (by rw [a7] at hk; cases hk), fun hk => (by rw [a7] at hk; cases hk), fun _ => hf, fun _ j hj => also_of (hall j hj) _⟩
end
/-- The faults of Heaviest. -/
def hvF (n : Int) (es : List Pair) (ls : List (List Int)) (f : Nat → Int) (ul : Nat) (wt : Nat → Int) (wl : Nat) : Int × Int :=
  if (fitsR n es ls f ul).2.1 ≠ 0 then (fitsR n es ls f ul).2
  else if (wtR n wt wl).1 ≠ 0 then wtR n wt wl
  else if (fitsR n es ls f ul).1 = false then (7, 0)
  else smF (fun i => countS (at' (setsL n.toNat ls) i)) ls.length 0
/-- What Heaviest answers. -/
def HyA (w' : World) (base : Nat) (n : Int) (es : List Pair) (wt : Nat → Int) (F : Int × Int) (e : Ending) : Prop :=
  (F.1 ≠ 0 ∧ e = .returned (.tuple #[.int .i64 0, .slice none 0 0, .agg #[.int .i64 F.1, .int .i64 F.2]])) ∨
  (F = (0, 0) ∧ ∃ (N : Nat) (es' : List E2) (p : Int × Nat) (lo : Option Addr) (lc : Nat), n = N ∧ es = pz es' ∧ (∀ e ∈ es', e.1 < N ∧ e.2 < N) ∧ HvA (nearBy N es') wt N p ∧ e = .returned (.tuple #[.int .i64 p.1, .slice lo (elems p.2).length lc, .agg #[.int .i64 0, .int .i64 0]]) ∧ w'.ownsRow base 3 1 (.slice lo (elems p.2).length lc) (elems p.2).length (qv (elems p.2)))
set_option maxHeartbeats 4000000 in
theorem heavy_bad {w : World} {n : Int} {v x : Value} {es : List Pair} {ls : List (List Int)} {uo wo : Option Addr} {ul uc wl wc : Nat} {f : Nat → Int} (hE : EdgesAt w v es) (hx : RowsAt w x ls) (hb : (fitsR n es ls f ul).2.1 ≠ 0) :
    Calls Tryd.prog 21 #[.agg #[.int .i64 n, v], .slice wo wl wc, x, .slice uo ul uc] w fun e w' => e = .returned (.tuple #[.int .i64 0, .slice none 0 0, .agg #[.int .i64 (fitsR n es ls f ul).2.1, .int .i64 (fitsR n es ls f ul).2.2]]) ∧ Below w.heap.size w w' := by
  obtain ⟨xo, xc, hxe, hx9⟩ := id hx
  clear hx9
  have C37 : Hid (∀ A, Below w.heap.size w A → Calls Tryd.prog 37 #[.agg #[.int .i64 n, v], x, .slice uo ul uc] A fun e w' => e = .returned (.tuple #[.slice none 0 0, .agg #[.int .i64 (fitsR n es ls f ul).2.1, .int .i64 (fitsR n es ls f ul).2.2]]) ∧ Below A.heap.size A w') := fun A hA => by
    by_cases hc : (chk n es).1 = 0
    · obtain ⟨hck, hn0, hn1, _⟩ := chk_good hc
      obtain ⟨N, rfl⟩ := Int.eq_ofNat_of_zero_le hn0
      refine (open_ok (hE.below hA) (hx.below hA) hck (by omega)).mono ?_
      rintro e w' ⟨hB, h⟩
      refine ⟨?_, hB⟩
      have hf : fitsR (N : Int) es ls f ul = if 100 < ls.length then (false, 2, 0) else if ul ≠ ls.length then (false, 6, 0) else if (openR N ls 0).1 = 0 then (liesB N es (setsL N ls) f, 0, 0) else (false, (openR N ls 0).1, (openR N ls 0).2) := by
        unfold fitsR
        rw [if_neg (by simpa using hc)]
        rfl
      by_cases h1 : 100 < ls.length
      · rw [if_pos h1] at h hf
        rw [hf]; exact h
      · rw [if_neg h1] at h hf
        by_cases h2 : ul ≠ ls.length
        · rw [if_pos h2] at h hf
          rw [hf]; exact h
        · rw [if_neg h2] at h hf
          by_cases h3 : (openR N ls 0).1 = 0
          · rw [if_pos h3] at hf
            rw [hf] at hb
            exact absurd rfl hb
          · rw [if_neg h3] at h hf
            rw [hf]; exact h
    · obtain ⟨ao, cap, rfl⟩ := hE.form'
      subst hxe
      refine (open_bad (hE.below hA) hc).mono ?_
      rintro e w' ⟨he, hB⟩
      refine ⟨?_, hB⟩
      unfold fitsR
      rw [if_pos (by simpa using hc)]
      exact he
  generalize (fitsR n es ls f ul).2 = FR at *
  obtain ⟨rc, rd⟩ := FR
  simp only at C37 hb ⊢
  have kc : (rc != 0) = true := by simpa using hb
  clear hE hx hxe hb
  go_enter Tryd.func21, Tryd.ntmps21
  go_upto_region 1 with (fail)
  have y4 : Two ((w.alloc (Obj.cells #[.int .i64 n, v] 24)).alloc (Obj.cells #[.int .i64 0, .int .i64 0] 27)) w.heap.size (.int .i64 n) v 24 := two_alloc (two_new _ _ _ _) _
  have y10 : Two ((w.alloc (Obj.cells #[.int .i64 n, v] 24)).alloc (Obj.cells #[.int .i64 0, .int .i64 0] 27)) (w.heap.size + 1) (.int .i64 0) (.int .i64 0) 27 := two_nxt _ _ _ _ _
  have hB2 : Below w.heap.size w ((w.alloc (Obj.cells #[.int .i64 n, v] 24)).alloc (Obj.cells #[.int .i64 0, .int .i64 0] 27)) := below_alloc (below_alloc (Below.refl _ w) _) _
  obtain ⟨b4, hb4⟩ : ∃ q, q = w.heap.size := ⟨_, rfl⟩
  obtain ⟨b10, hb10⟩ : ∃ b, b = w.heap.size + 1 := ⟨_, rfl⟩
  rw [← hb10] at y10 ⊢
  rw [← hb4] at y4 ⊢
  generalize (w.alloc (Obj.cells #[.int .i64 n, v] 24)).alloc (Obj.cells #[.int .i64 0, .int .i64 0] 27) = W2 at *
  have HB2 : Hid (Below w.heap.size w W2 ∧ Two W2 b10 (.int .i64 0) (.int .i64 0) 27 ∧ w.heap.size ≤ b10) := ⟨hB2, y10, by omega⟩
  obtain ⟨c0, c1⟩ := cell_two y4
  have C37' : Hid _ := C37.out W2 hB2
  clear hb4 hb10 y4 y10 hB2 C37
  go_upto_region 2 with (first | (go_at_call 37; refine Calls.mono C37'.out ?_; rintro e w3 ⟨rfl, h3⟩; obtain ⟨q1, q2, q3, q4, q5, q6⟩ := store_two' (two_next HB2.out.2.1 h3) (.int .i64 rc) (.int .i64 rd); have x10 := two_setN (x' := .int .i64 rc) (y' := .int .i64 rd) (two_next HB2.out.2.1 h3); have hBs := ((below_next HB2.out.1 h3).setCell (p := ⟨b10, 0, none⟩) HB2.out.2.2 (.int .i64 rc)).setCell (p := ⟨b10, 1, none⟩) HB2.out.2.2 (.int .i64 rd)) | fail)
  have HW4 : Hid _ := And.intro hBs x10
  clear h3 hBs q1 q2 q3 q4 q5 q6
  generalize (w3.setCell ⟨b10, 0, none⟩ (.int .i64 rc)).setCell ⟨b10, 1, none⟩ (.int .i64 rd) = W4 at *
  obtain ⟨a0, a1⟩ := cell_two x10
  clear x10 c0 c1 C37'
  go_upto_region 3 with (fail)
  have g0 := cell_growD a0
  have g1 := cell_growD a1
  clear a0 a1
  refine wp_region_tailT 3 (by kernel_rfl) (by kernel_rfl) (by kernel_rfl) (by decide) ?_
  simp only [List.take_succ_cons, List.take_zero, List.drop_succ_cons, List.drop_zero]
  repeat (go_big_quiet_step (fail))
  refine wpQuiet_nil ?_
  rintro _ ⟨gp, rfl⟩
  have hB8 := growD_below W4 gp
  clear g0 g1
  generalize growD W4 gp = w8 at *
  obtain ⟨q1, q2, q3, q4, q5, q6⟩ := store_two' (two_next HW4.out.2 hB8) (.int .i64 rc) (.int .i64 rd)
  have HB8 : Hid (Below w.heap.size w w8) := below_next HW4.out.1 hB8
  clear hB8
  go_wp2
  refine bodyPost_ret (v := .tuple #[.int .i64 0, .slice none 0 0, .agg #[.int .i64 rc, .int .i64 rd]]) ?_ rfl ⟨rfl, (HB8.out.setCell HB2.out.2.2 _).setCell HB2.out.2.2 _⟩
  simp [results, Tryd.results21, go_sem, q5, q6]
end Go.Proofs.YtdalconphfgepaaDoor
