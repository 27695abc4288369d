/- FlowBeside's walk. -/
import Derived.Test.YtkakmaalmhofmaaBesideW
import Derived.Test.YtkakmaalmhofmaaWayT
import Derived.Test.YtkakmaalmhofmaaMostB
import Derived.Test.YtkakmaalmhofmaaSame
import Derived.Deep.Cut
import Derived.Deep.CutRange
import Derived.Deep.RegionLaw
namespace Go.Proofs.Ytkakmaalmhofmaa
open Go.RowKit Go.Maps
attribute [local go_sem ↓] Go.wp_at_zero Go.wp_at_succ

theorem BesideIs.below {N s t : Nat} {fes : List Pair} {B : Nat} {w w' : World} {wv cv : Value} (h : BesideIs N s t fes B w wv cv) (hb : Below w.heap.size w w') : BesideIs N s t fes B w' wv cv := by
  obtain ⟨ls, e, e', F, h1, h2, h3, h4, h5, h6⟩ := h
  exact ⟨ls, e, e', F, h1.below hb, h2, h3, h4, ownsRow_blocks h5 (fun b hb' => hb.block b (h5.lt b hb').2), h6⟩
/-- What Beside answers, for the law. -/
structure BsL (N u z : Nat) (es : List Pair) (ls : List (List Nat)) (cs : List Nat) (e e' : Nat → Nat → Bool) (F : Nat → Int) : Prop where
  ways : Ways N u z e e' ls
  one : ∀ a b v, v ≠ z → e a v = true → e b v = true → a = b
  edge : ∀ a b, e a b = true → hasB es a b = true
  cut : cs = listN N (cutN F)
  len : ls.length = cs.length
  src : F (2 * u + 1) = 0
  snk : F (2 * z) = -1
  clo : ∀ a b : Nat, a < N → b < N → hasB es a b = true → F (2 * a + 1) ≠ -1 → F (2 * b) ≠ -1
theorem allP_ends {N : Nat} {es : List Pair} {k : Nat} (hk : k < (allP N (hasB es)).length) : ∃ x y : Nat, x < y ∧ y < N ∧ hasB es x y = true ∧ endA (allP N (hasB es)) k = x ∧ endB (allP N (hasB es)) k = y ∧ (allP N (hasB es))[k] = ((x : Int), (y : Int)) := by
  obtain ⟨x, y, g1, g2, g3, g4⟩ := allP_mem.1 (List.getElem_mem hk)
  refine ⟨x, y, g1, g2, g3, ?_, ?_, g4⟩
  · unfold endA; rw [getD_lt hk, g4]; simp
  · unfold endB; rw [getD_lt hk, g4]; simp
theorem BesideIs.law {N u z : Nat} {es : List Pair} {B : Nat} {w : World} {wv cv : Value} (h : BesideIs N u z (allP N (hasB es)) B w wv cv) (hne : ∀ e ∈ es, e.1 ≠ e.2) (hN : N ≤ 100) :
    ∃ ls cs e e' F wo wcp co cc, wv = .slice wo ls.length wcp ∧ cv = .slice co cs.length cc ∧ ListsAt w B (.slice wo ls.length wcp) ls ∧ w.ownsRow B 3 1 (.slice co cs.length cc) cs.length (qv cs) ∧ cs.length ≤ 100 ∧ BsL N u z es ls cs e e' F := by
  obtain ⟨ls, e, e', F, h1, h2, h3, h4, h5, h6, h7, h8, h9⟩ := h
  obtain ⟨wo, wcp, rfl⟩ := h1.form
  obtain ⟨co, cc, rfl⟩ := form_row h5
  have hle : (listN N (cutN F)).length ≤ 100 := Nat.le_trans (List.length_filter_le _ _) (by simp; omega)
  have ho : ∀ a b : Nat, a < N → b < N → hasB es a b = true → ∃ j, j < 2 * (allP N (hasB es)).length ∧ a = oaE (allP N (hasB es)) j ∧ b = obE (allP N (hasB es)) j := fun a b ha hb hab => by
    have hirr := (LeftI.start (N := N) (cs := []) hne).irr
    rcases Nat.lt_trichotomy a b with hlt | rfl | hlt
    · obtain ⟨k, hk, hke⟩ := List.getElem_of_mem (allP_mem.2 ⟨a, b, hlt, hb, hab, rfl⟩)
      obtain ⟨x, y, _, _, _, g1, g2, g3⟩ := allP_ends hk
      rw [g3, Prod.mk.injEq] at hke
      refine ⟨2 * k, by omega, ?_, ?_⟩
      · unfold oaE; rw [if_pos (by omega), show 2 * k / 2 = k by omega, g1]; omega
      · unfold obE; rw [if_pos (by omega), show 2 * k / 2 = k by omega, g2]; omega
    · rw [hirr a ha] at hab; cases hab
    · rw [hasB_sym] at hab
      obtain ⟨k, hk, hke⟩ := List.getElem_of_mem (allP_mem.2 ⟨b, a, hlt, ha, hab, rfl⟩)
      obtain ⟨x, y, _, _, _, g1, g2, g3⟩ := allP_ends hk
      rw [g3, Prod.mk.injEq] at hke
      refine ⟨2 * k + 1, by omega, ?_, ?_⟩
      · unfold oaE; rw [if_neg (by omega), show (2 * k + 1) / 2 = k by omega, g2]; omega
      · unfold obE; rw [if_neg (by omega), show (2 * k + 1) / 2 = k by omega, g1]; omega
  refine ⟨ls, _, e, e', F, wo, wcp, co, cc, rfl, rfl, h1, h5, hle, ⟨h2, h3, fun a b hab => ?_, rfl, h6, h7, h8, fun a b ha hb hab h10 => ?_⟩⟩
  · obtain ⟨j, hj, g1, g2⟩ := h4 a b hab
    obtain ⟨x, y, _, _, g3, g4, g5, _⟩ := allP_ends (k := j / 2) (N := N) (es := es) (by omega)
    unfold oaE at g1
    unfold obE at g2
    rw [g4, g5] at g1 g2
    by_cases e : j % 2 = 0
    · rw [if_pos e] at g1 g2; rw [g1, g2]; exact g3
    · rw [if_neg e] at g1 g2; rw [g1, g2, hasB_sym]; exact g3
  · obtain ⟨j, hj, g1, g2⟩ := ho a b ha hb hab
    rw [g1] at h10
    rw [g2]
    exact h9 j hj h10
/-- A way ahead goes through v. -/
def Pass (ls : List (List Nat)) (i k v : Nat) : Prop := ∃ (j m : Nat) (l : List Nat), ls[j]? = some l ∧ l[m + 1]? = some v ∧ (j < i ∨ (j = i ∧ m + 1 < k))
theorem Pass.next {ls : List (List Nat)} {i k v : Nat} (h : Pass ls i k v) : Pass ls i (k + 1) v := by
  obtain ⟨j, m, l, h1, h2, h3⟩ := h
  exact ⟨j, m, l, h1, h2, h3.imp id (fun h => ⟨h.1, by omega⟩)⟩
theorem Pass.over {ls : List (List Nat)} {i k v : Nat} (h : Pass ls i k v) : Pass ls (i + 1) 1 v := by
  obtain ⟨j, m, l, h1, h2, h3⟩ := h
  exact ⟨j, m, l, h1, h2, Or.inl (by omega)⟩
theorem BsL.fresh {N u z : Nat} {es : List Pair} {ls : List (List Nat)} {cs : List Nat} {e e' : Nat → Nat → Bool} {F : Nat → Int} (h : BsL N u z es ls cs e e' F) {i m v : Nat} {l : List Nat} (hl : ls[i]? = some l) (hv : l[m + 1]? = some v) (hm : m + 2 < l.length) : ¬ Pass ls i (m + 1) v := by
  obtain ⟨es', h0, h1, h2⟩ := h.ways
  rintro ⟨j, m', l', g1, g2, g5⟩
  have hi := (List.getElem?_eq_some_iff.1 hl).1
  have hj := (List.getElem?_eq_some_iff.1 g1).1
  have w1 := h2 i l hl
  have w2 := h2 j l' g1
  obtain ⟨x, hx⟩ : ∃ x, l[m]? = some x := ⟨l[m]'(by omega), List.getElem?_eq_getElem (by omega)⟩
  have hm'l := (List.getElem?_eq_some_iff.1 g2).1
  obtain ⟨x', hx'⟩ : ∃ x, l'[m']? = some x := ⟨l'[m']'(by omega), List.getElem?_eq_getElem (by omega)⟩
  have t1 := w1.took m x v hx hv
  have t2 := w2.took m' x' v hx' g2
  have c1 : e x v = true := by
    have := Ways.chain h2 i 0 (by omega) x v (by rw [Nat.zero_add]; exact t1.1)
    rwa [h0] at this
  have c2 : e x' v = true := by
    have := Ways.chain h2 j 0 (by omega) x' v (by rw [Nat.zero_add]; exact t2.1)
    rwa [h0] at this
  obtain ⟨p1, p2⟩ := List.getElem?_eq_some_iff.1 hv
  have hvz : v ≠ z := fun ee => by
    obtain ⟨p3, p4⟩ := List.getElem?_eq_some_iff.1 w1.last
    exact List.pairwise_iff_getElem.1 w1.nodup (m + 1) (l.length - 1) p1 p3 (by omega) (by rw [p2, p4, ee])
  have hxx := h.one x x' v hvz c1 c2
  subst hxx
  rcases g5 with g5 | ⟨rfl, g5⟩
  · have := Ways.chain h2 (i - (j + 1)) (j + 1) (by omega) x v (by rw [show j + 1 + (i - (j + 1)) = i by omega]; exact t1.1)
    rw [t2.2] at this
    cases this
  · rw [hl] at g1; cases g1
    obtain ⟨p3, p4⟩ := List.getElem?_eq_some_iff.1 g2
    exact List.pairwise_iff_getElem.1 w1.nodup (m' + 1) (m + 1) p3 p1 (by omega) (by rw [p2, p4])
theorem BsL.shut {N u z : Nat} {es : List Pair} {ls : List (List Nat)} {cs : List Nat} {e e' : Nat → Nat → Bool} {F : Nat → Int} (h : BsL N u z es ls cs e e' F) (hu : u < N) (huz : u ≠ z) : ¬ Star (St N (pn (hasB es)) (openB (fun v => decide (v ∈ cs)))) u z := by
  intro hst
  have key := Star.closed (e := St N (pn (hasB es)) (openB (fun v => decide (v ∈ cs)))) (P := fun v => v < N ∧ F (2 * v + 1) ≠ -1 ∧ v ≠ z) (fun a b ha hab => by
    have hb := hab.1
    have h1 := h.clo a b ha.1 hb hab.2.1 ha.2.1
    have h2 : b ∉ cs := by
      have := hab.2.2
      simpa [openB] using this
    rw [h.cut] at h2
    refine ⟨hb, fun hF => h2 ?_, fun ee => ?_⟩
    · unfold listN
      rw [List.mem_filter]
      exact ⟨by simpa using hb, by simp [cutN, hF, h1]⟩
    · rw [ee] at h1; exact h1 h.snk) hst ⟨hu, by rw [h.src]; omega, huz⟩
  exact key.2.2 rfl
theorem BsL.out {N u z : Nat} {es : List Pair} {ls : List (List Nat)} {cs : List Nat} {e e' : Nat → Nat → Bool} {F : Nat → Int} (h : BsL N u z es ls cs e e' F) : u ∉ cs ∧ z ∉ cs := by
  rw [h.cut]
  unfold listN
  constructor
  · intro hm
    have := (List.mem_filter.1 hm).2
    simp [cutN, h.src] at this
  · intro hm
    have := (List.mem_filter.1 hm).2
    simp [cutN, h.snk] at this
theorem besideF_eq (n : Int) (es : List Pair) (s t : Int) : besideF n es s t = if (decide ((apartF n es s t).1 = 0) && hasB es s t) = true then (8, 0) else apartF n es s t := by
  unfold besideF apartF
  by_cases h1 : (chk n es).1 = 0
  · rw [if_pos h1, if_pos h1]
    by_cases h2 : (endsF n s t).1 = 0
    · rw [if_pos h2, (endsF_zero h2).1]
      simp
    · rw [if_neg h2]; simp [h2]
  · rw [if_neg h1, if_neg h1]; simp [h1]
theorem listN_rises {m : Nat} {S : Nat → Bool} {k a b : Nat} (h1 : (listN m S)[k]? = some a) (h2 : (listN m S)[k + 1]? = some b) : a < b := by
  obtain ⟨g1, e1⟩ := List.getElem?_eq_some_iff.1 h1
  obtain ⟨g2, e2⟩ := List.getElem?_eq_some_iff.1 h2
  have hp : (listN m S).Pairwise (· < ·) := List.Pairwise.filter _ List.pairwise_lt_range
  have := List.pairwise_iff_getElem.1 hp k (k + 1) g1 g2 (by omega)
  rw [e1, e2] at this
  exact this

set_option maxRecDepth 4000 in
set_option maxHeartbeats 4000000 in
theorem besideLaw_any (n s t : Int) (ao : Option Addr) (ca : Nat) (es : List Pair) (w : World) (hE : EdgesAt w (.slice ao es.length ca) es) (hca : es.length ≤ ca) :
    Calls Try.prog 5 #[.agg #[.int .i64 n, .slice ao es.length ca], .int .i64 s, .int .i64 t] w fun e w' => e = .returned (.bool true) ∧ Below w.heap.size w w' := by
  obtain ⟨i0, hi4, hy0, hy1, hy2⟩ := info_parts Try.info4
  have HE : Hid (EdgesAt w (.slice ao es.length ca) es) := hE
  clear hE
  go_enter Try.func5, Try.ntmps5
  go_upto_region 1 with (fail)
  have t3 := two_new w (.int .i64 n) (.slice ao es.length ca) 40
  have hB0 := below_alloc (Below.refl _ w) (Obj.cells #[.int .i64 n, .slice ao es.length ca] 40)
  generalize w.alloc (Obj.cells #[.int .i64 n, .slice ao es.length ca] 40) = W0 at t3 hB0 ⊢
  obtain ⟨q0, q1⟩ := cell_two t3
  go_upto_region 2 with (first | (go_at_call 13; refine (own_any n ao ca es _ (EdgesAt.below HE.out hB0)).mono ?_; rintro e W1 ⟨hb1, o1, c1, rfl, hE1, hc1⟩) | go_in)
  have t7 := two_new W1 (.int .i64 n) (.slice o1 es.length c1) 40
  have hb1a := below_alloc hb1 (Obj.cells #[.int .i64 n, .slice o1 es.length c1] 40)
  have t3' := two_next t3 hb1a
  have hE7 := hE1.below (below_alloc (Below.refl _ W1) (Obj.cells #[.int .i64 n, .slice o1 es.length c1] 40))
  have hB1 := below_next hB0 hb1a
  obtain ⟨b7, hb7⟩ : ∃ b, b = W1.heap.size := ⟨_, rfl⟩
  rw [← hb7] at t7 ⊢
  generalize W1.alloc (Obj.cells #[.int .i64 n, .slice o1 es.length c1] 40) = W2 at t7 t3' hE7 hB1 ⊢
  clear t3 hB0 q0 q1 hb1 hb1a hE1 hb7
  obtain ⟨m1, m2, hm⟩ : ∃ m1 m2, chk n es = (m1, m2) := ⟨_, _, rfl⟩
  have h14 := refCheck_as (EdgesAt.below HE.out hB1) hca hm
  have H14 : Hid _ := h14
  have HM : Hid (chk n es = (m1, m2)) := hm
  clear h14 hm
  obtain ⟨q0, q1⟩ := cell_two t3'
  go_upto_region 3 with (first | (go_at_call 14; refine Calls.mono H14.out ?_; rintro e W3 ⟨rfl, hb3⟩) | go_in)
  have x3 := two_next t3' hb3
  have x7 := two_next t7 hb3
  have hE8 := hE7.below hb3
  have hB3 := below_next hB1 hb3
  obtain ⟨b8, hb8⟩ : ∃ b, b = W3.heap.size := ⟨_, rfl⟩
  have t8 := two_new W3 (.int .i64 m1) (.int .i64 m2) 26
  have hb4 := below_alloc (Below.refl _ W3) (Obj.cells #[.int .i64 m1, .int .i64 m2] 26)
  have hB38 : W3.heap.size ≤ b8 := by omega
  rw [← hb8] at t8 ⊢
  generalize W3.alloc (Obj.cells #[.int .i64 m1, .int .i64 m2] 26) = W4 at t8 hb4 ⊢
  clear t3' t7 hE7 hB1 hb3 q0 q1 H14 hb8
  have y3 := two_next x3 hb4
  obtain ⟨q0, q1⟩ := cell_two y3
  obtain ⟨q2, q3⟩ := cell_two t8
  obtain ⟨ac, ad, hac⟩ : ∃ ac ad, apartF n es s t = (ac, ad) := ⟨_, _, rfl⟩
  obtain ⟨fc, fd, hfc⟩ : ∃ fc fd, besideF n es s t = (fc, fd) := ⟨_, _, rfl⟩
  have HAC : Hid (apartF n es s t = (ac, ad)) := hac
  have HFC : Hid (besideF n es s t = (fc, fd)) := hfc
  clear hfc hac
  go_upto_if 24 with (fail)
  generalize hgm : (m1 == 0) = gm
  go_cut [] from 25 to 29 (fun wd => Two wd b8 (.int .i64 ac) (.int .i64 ad) 26 ∧ Below W3.heap.size W3 wd)
  case first =>
    cases gm with
    | true =>
      have hm0 : m1 = 0 := by rwa [beq_iff_eq] at hgm
      have hef : endsF n s t = (ac, ad) := by
        have := HAC.out
        unfold apartF at this
        rw [HM.out, if_pos hm0] at this
        exact this
      have h10 := ends10 n s t W4
      rw [hef] at h10
      have H10 : Hid (Calls Try.prog 10 #[.int .i64 n, .int .i64 s, .int .i64 t] W4 fun e w' => e = .returned (.agg #[.int .i64 ac, .int .i64 ad]) ∧ Below W4.heap.size W4 w') := h10
      clear h10 hef hm0 hgm
      go_wp2_with (first | (go_at_call 10; refine Calls.mono H10.out ?_; rintro e W5 ⟨rfl, hb5⟩; have z8 := two_next t8 hb5; have ff := free_two z8; obtain ⟨b2, b3⟩ := cell_two z8) | go_in)
      go_meet
      case rel => exact ⟨two_setN z8, ((below_next hb4 hb5).setCell (by simp; omega) _).setCell (by simp; omega) _⟩
    | false =>
      have hm0 : m1 ≠ 0 := by rwa [beq_eq_false_iff_ne] at hgm
      have hef : (m1, m2) = (ac, ad) := by
        have := HAC.out
        unfold apartF at this
        rw [HM.out, if_neg hm0] at this
        exact this
      cases hef
      clear hm0 hgm
      go_wp2_with fail
      go_meet
      case rel => exact ⟨t8, hb4⟩
  case rest =>
    obtain ⟨z8, hbc⟩ := hcut
    have u3 := two_next x3 hbc
    have h21 := refHas_any n (.slice ao es.length ca) es s t wc (EdgesAt.below HE.out (below_next hB3 hbc))
    have H21 : Hid (Calls Try.prog 21 #[.agg #[.int .i64 n, .slice ao es.length ca], .int .i64 s, .int .i64 t] wc fun e w' => e = .returned (.bool (hasB es s t)) ∧ Below wc.heap.size wc w') := h21
    have HBF := besideF_eq n es s t
    rw [HFC.out, HAC.out] at HBF
    have HBF2 : Hid ((fc, fd) = if (decide (ac = 0) && hasB es s t) = true then (8, 0) else (ac, ad)) := HBF
    clear hgm t8 hb4 y3 q0 q1 q2 q3 h21 HBF
    generalize wc = Wr at z8 u3 H21 hbc ⊢
    obtain ⟨q0, q1⟩ := cell_two u3
    obtain ⟨q2, q3⟩ := cell_two z8
    go_upto_region 5 with (fail)
    go_cut [38] from 30 to 38 (fun s38 wd => ∃ g : Bool, s38 = .bool g ∧ g = (decide (ac = 0) && hasB es s t) ∧ Two wd b8 (.int .i64 ac) (.int .i64 ad) 26 ∧ Below W3.heap.size W3 wd)
    case first =>
      by_cases ha : ac = 0
      · have k1 : (ac == 0) = true := by rw [beq_iff_eq]; exact ha
        have HA : Hid (ac = 0) := ha
        clear ha
        go_wp2_with (first | (go_at_call 21; refine Calls.mono H21.out ?_; rintro e W5 ⟨rfl, hb5⟩) | go_in)
        go_meet
        case rel => exact ⟨_, rfl, by simp [HA.out], two_next z8 hb5, below_next hbc hb5⟩
      · have k1 : (ac == 0) = false := by rw [beq_eq_false_iff_ne]; exact ha
        have HA : Hid (ac ≠ 0) := ha
        clear ha
        go_wp2_with fail
        go_meet
        case rel => exact ⟨_, rfl, by simp [HA.out], z8, hbc⟩
    case rest =>
      obtain ⟨g, rfl, hg, z9, hbd⟩ := hcut
      clear q0 q1 q2 q3 H21 z8 u3 hbc
      have HGG : Hid (g = (decide (ac = 0) && hasB es s t)) := hg
      clear hg
      go_upto_if 38 with (fail)
      go_cut [] from 39 to 39 (fun wd => Two wd b8 (.int .i64 fc) (.int .i64 fd) 26 ∧ Below W3.heap.size W3 wd)
      case first =>
        cases g with
        | true =>
          have hef : (fc, fd) = (8, 0) := by rw [HBF2.out, ← HGG.out, if_pos rfl]
          cases hef
          go_wp2_with (first | (go_at_call 22; refine (refF_any 8 0 _).mono ?_; rintro e W5 ⟨rfl, hb5⟩; have y8 := two_next z9 hb5; have ff := free_two y8; obtain ⟨b2, b3⟩ := cell_two y8) | go_in)
          go_meet
          case rel => exact ⟨two_setN y8, ((below_next hbd hb5).setCell (by simp; omega) _).setCell (by simp; omega) _⟩
        | false =>
          have hef : (fc, fd) = (ac, ad) := by rw [HBF2.out, ← HGG.out, if_neg (by simp)]
          cases hef
          go_wp2_with fail
          go_meet
          case rel => exact ⟨z9, hbd⟩
      case rest =>
        clear z9 hbd
        obtain ⟨z8, hbc⟩ := hcut
        have hwB : Below w.heap.size w wc := below_next hB3 hbc
        have u7 := two_next x7 hbc
        have u3 := two_next x3 hbc
        have hE9 := hE8.below hbc
        have h23 := beside_any n s t (.slice o1 es.length c1) es wc hE9
        rw [HFC.out] at h23
        have H23 : Hid _ := h23
        clear h23 x3 x7 hE8 hB3 hbc HGG HBF2
        generalize wc = Wr at z8 u7 u3 hE9 H23 hwB ⊢
        obtain ⟨q0, q1⟩ := cell_two u7
        go_upto_region 8 with (first | (go_at_call 23; refine Calls.mono H23.out ?_; rintro r W6 ⟨wv, cv, c', d', rfl, hcd, hans, hb6⟩; cases hcd) | go_in)
        obtain ⟨b11, hb11⟩ : ∃ b, b = W6.heap.size := ⟨_, rfl⟩
        have v11 := two_new W6 (.int .i64 fc) (.int .i64 fd) 26
        have hb6' := below_alloc (Below.refl _ W6) (Obj.cells #[.int .i64 fc, .int .i64 fd] 26)
        have hb6a := below_alloc hb6 (Obj.cells #[.int .i64 fc, .int .i64 fd] 26)
        have v8 := two_next z8 hb6a
        have v7 := two_next u7 hb6a
        have v3 := two_next u3 hb6a
        have hE10 := hE9.below hb6a
        have hB6 := below_next hwB hb6a
        rw [← hb11] at v11 ⊢
        generalize W6.alloc (Obj.cells #[.int .i64 fc, .int .i64 fd] 26) = W7 at v11 v8 v7 v3 hE10 hB6 hb6' ⊢
        have HAN : Hid _ := hans
        have hE10' := EdgesAt.below HE.out hB6
        have HE10 : Hid (EdgesAt W7 (.slice o1 es.length c1) es) := hE10
        have HE10' : Hid (EdgesAt W7 (.slice ao es.length ca) es) := hE10'
        clear z8 u7 u3 hE9 hwB hans hb6 hb6a H23 hb11 q0 q1 hE10 hE10'
        have hne := neq26 fc fd
        go_upto_if 60 with (first
          | (go_at_call 9; refine Calls.mono (begun_call _) ?_; rintro e Wa ⟨rfl, hba⟩; have a8 := two_next v8 hba; have a11 := two_next v11 hba; have a7 := two_next v7 hba; have a3 := two_next v3 hba; obtain ⟨p0, p1⟩ := cell_two a8; obtain ⟨p2, p3⟩ := cell_two a11; obtain ⟨p4, p5⟩ := cell_two a7; obtain ⟨p6, p7⟩ := cell_two a3)
          | (go_at_call 16; refine Calls.mono (kept_true n _ _ es _ (EdgesAt.below HE10.out hba) (EdgesAt.below HE10'.out hba)) ?_; rintro e Wb ⟨rfl, hbb⟩; have hbb' := below_next hba hbb)
          | go_in)
        have z8 := two_next v8 hbb'
        have z3 := two_next v3 hbb'
        have hB8 := below_next hB6 hbb'
        clear a8 a11 a7 a3 p0 p1 p2 p3 p4 p5 p6 p7 hba hbb v7 v11 hne
        have hans2 := HAN.out
        rcases hans2 with ⟨hc0, rfl, rfl⟩ | ⟨rfl, rfl, N, u, z, rfl, rfl, rfl, hN, hl, hg, hu, hz, huz, hno, hap⟩
        · have k1 : (fc != 0) = true := by simp [hc0]
          obtain ⟨p0, p1⟩ := cell_two z8
          clear HAN
          go_wp2
          go_ret
          exact ⟨rfl, hB8⟩
        · obtain ⟨ls, cs, e, e', F, wo, wcp, co, cc, rfl, rfl, hla, hce, hcl, hal⟩ := ((hap.below hb6').below hbb').law (fun e he => (hg e he).2) hN
          have hls1 : ls.length ≤ 100 := by rw [hal.len]; exact hcl
          have HLA : Hid (ListsAt Wb Wr.heap.size (.slice wo ls.length wcp) ls) := hla
          have HCE : Hid (Wb.ownsRow Wr.heap.size 3 1 (.slice co cs.length cc) cs.length (qv cs)) := hce
          have HAL : Hid (BsL N u z es ls cs e e' F) := hal
          have HG : Hid (∀ e ∈ es, (0 ≤ e.1 ∧ e.1 < (N : Int) ∧ 0 ≤ e.2 ∧ e.2 < (N : Int)) ∧ e.1 ≠ e.2) := hg
          clear HAN hap hla hce hal hg hb6' hbb' HE10 HE10' v8 v3 hB6 HM HFC HAC hB38 hno
          obtain ⟨p0, p1⟩ := cell_two z8
          obtain ⟨p2, p3⟩ := cell_two z3
          go_upto_region 13 with (first | (go_at_call 17; refine (gridOf_any N _ es _ (EdgesAt.below HE.out hB8) hN hl HG.out).mono ?_; rintro r W10 ⟨hb10, go, gc, rfl, hG10⟩) | go_in)
          have z3b := two_next z3 hb10
          have hBa := below_next hB8 hb10
          have HGR : Hid (GridAt W10 (.slice go N gc) N (hasB es)) := hG10
          have HLB : Hid (ListsAt W10 Wr.heap.size (.slice wo ls.length wcp) ls) := ListsAt.below HLA.out hb10
          have HCB : Hid (∀ W, Below W10.heap.size W10 W → NumsAt W co cs) := fun W hW => numsAt_own (ownsRow_blocks HCE.out (fun b hb => (below_next hb10 hW).block b (HCE.out.lt b hb).2))
          clear p0 p1 p2 p3 z8 z3 hb10 hG10 HLA HCE hB8
          obtain ⟨p2, p3⟩ := cell_two z3b
          go_upto_region 14 with (first | (at_make; refine wpList_make_full _ rfl _ _ 36 rfl W10.heap.size 4 i0 (.bool false) 1 Try.underlying36 hi4 hy0 hy1 .i64 .i64 _ _ N rfl rfl rfl rfl ?_ ?_ ?_ ?_; (rw [hy2]; omega); (unfold maxLen; omega); (omega); intro W11 hmade hg11) | go_in)
          have hrow0 := rowB_made hmade
          have hb11 : Below W10.heap.size W10 W11 := (Below.refl _ _).grown hg11 (Nat.le_refl _) (fun k hk => by cases hk)
          obtain ⟨bu, hbu⟩ : ∃ b, b = W10.heap.size := ⟨_, rfl⟩
          have hbuW : W10.heap.size ≤ bu := by omega
          rw [← hbu] at hrow0 ⊢
          clear p2 p3 hmade hg11 hbu
          go_wp2
          go_loopw [6, 14] (fun _ iv wr => ∃ i : Nat, i ≤ ls.length ∧ iv = .int .i64 (i : Int) ∧ ∃ q, RowB wr bu N q ∧ (∀ v, q v = true → Pass ls i 1 v) ∧ Below W10.heap.size W10 wr) (fun _ iv _ => ls.length - (numOf iv).toNat)
          case atStart => exact ⟨0, Nat.zero_le _, rfl, _, hrow0, fun v h => (by cases h), hb11⟩
          case round =>
            clear hrow0 hb11
            obtain ⟨i, hi, rfl, q, hrow, hq, hbi⟩ := hrel
            by_cases hlt : i < ls.length
            · have i2 : (i : Int) < (ls.length : Int) := by omega
              have i1 : (0 : Int) ≤ (i : Int) := by omega
              obtain ⟨l, hl?⟩ : ∃ l, ls[i]? = some l := ⟨ls[i], List.getElem?_eq_getElem hlt⟩
              obtain ⟨e1, e2, hway, hle1⟩ := HAL.out.ways.way hl?
              obtain ⟨g, lo, lc, rfl, hcw, hnl⟩ := (ListsAt.below HLB.out hbi).at hl?
              have hl2 := hway.two huz
              have hlN := hway.le_len
              have h18 := way_call (lc := lc) (GridAt.below HGR.out hbi) hnl hway.lt (fun j x y hx hy => HAL.out.edge x y (hle1 x y (hway.took j x y hx hy).1)) (by omega) hl2 hway.head hway.last hway.nodup
              have H18 : Hid (Calls Try.prog 18 #[.slice go N gc, .slice lo l.length lc, .int .i64 (u : Int), .int .i64 (z : Int)] wr fun r w' => r = .returned (.bool true) ∧ Below wr.heap.size wr w') := h18
              have HWAY : Hid (WayTo N e1 e2 u z l) := hway
              have HQ : Hid (∀ v, q v = true → Pass ls i 1 v) := hq
              have HL? : Hid (ls[i]? = some l) := hl?
              clear h18 hway hq hl? hle1 hnl
              go_upto_if 89 with (first | (go_at_call 18; refine Calls.mono H18.out ?_; rintro r Wi ⟨rfl, hbw⟩) | go_in)
              have hrow2 := hrow.block (hbw.block _ hrow.lt)
              have hbi2 := below_next hbi hbw
              clear hrow hbi hcw hbw H18
              go_wp2
              go_loopw [6, 15] (fun _ kv wr => ∃ m : Nat, m + 1 ≤ l.length ∧ kv = .int .i64 ((m + 1 : Nat) : Int) ∧ ∃ q, RowB wr bu N q ∧ (∀ v, q v = true → Pass ls i (m + 1) v) ∧ Below W10.heap.size W10 wr) (fun _ kv _ => l.length - (numOf kv).toNat)
              case atStart => exact ⟨0, by omega, rfl, q, hrow2, HQ.out, hbi2⟩
              case round =>
                clear hrow2 hbi2 HQ
                obtain ⟨m, hm, rfl, q, hrow, hq, hbk⟩ := hrel
                obtain ⟨g', lo', lc', eg, hcw, hnl⟩ := (ListsAt.below HLB.out hbk).at HL?.out
                cases eg
                by_cases hlt2 : m + 2 < l.length
                · obtain ⟨y, hy⟩ : ∃ y, l[m + 1]? = some y := ⟨l[m + 1], List.getElem?_eq_getElem (by omega)⟩
                  obtain ⟨bl, rfl, cy⟩ := hnl (m + 1) y hy
                  have hyN : y < N := HWAY.out.lt y (List.mem_of_getElem? hy)
                  have hfresh := HAL.out.fresh HL?.out hy hlt2
                  have hqf : q y = false := by
                    cases hqq : q y
                    · rfl
                    · exact absurd (hq y hqq) hfresh
                  have cyq := hrow.cell hyN
                  rw [hqf] at cyq
                  have fy := hrow.free y
                  have HROW : Hid (RowB wr bu N q) := hrow
                  have HX : Hid (l[m + 1]? = some y) := hy
                  have HQ : Hid (∀ v, q v = true → Pass ls i (m + 1) v) := hq
                  have j0 : (0 : Int) ≤ ((m + 1 : Nat) : Int) := by omega
                  have j1 : ((m + 1 : Nat) : Int) < (l.length : Int) := by omega
                  have j2 : ((m + 1 : Nat) : Int) + 1 < (l.length : Int) := by omega
                  have j3 : IntKind.i64.wrap (((m + 1 : Nat) : Int) + 1) = ((m + 1 : Nat) : Int) + 1 := by rw [IntKind.wrap_i64]; omega
                  have j8 : (0 : Int) ≤ (y : Int) := by omega
                  have j9 : (y : Int) < (N : Int) := by omega
                  have hMM : ∃ M : Nat, M = m + 1 := ⟨_, rfl⟩
                  obtain ⟨M, hM⟩ := hMM
                  rw [← hM] at j0 j1 j2 j3 cy ⊢
                  have HMM : Hid (M = m + 1) := hM
                  clear hM hfresh hq hy hnl hqf hrow
                  go_wp2
                  have hrow9 := RowB.set HROW.out y
                  have hb9 := hbk.setCell (p := ⟨bu, y, none⟩) hbuW (.bool true)
                  have HR9 : Hid (RowB (wr.setCell ⟨bu, y, none⟩ (.bool true)) bu N (fun j => j == y || q j)) := hrow9
                  have hM := HMM.out
                  clear hrow9 HROW
                  go_roundw
                  case rel => exact ⟨m + 1, by omega, by subst hM; go_num, _, HR9.out, fun v hv => by
                    simp only [Bool.or_eq_true, beq_iff_eq] at hv
                    rcases hv with rfl | hv
                    · exact ⟨i, m, l, HL?.out, HX.out, Or.inr ⟨rfl, by omega⟩⟩
                    · exact (HQ.out v hv).next, hb9⟩
                  case measure => simp [numOf]; omega
                · have j2 : ¬ ((m + 1 : Nat) : Int) + 1 < (l.length : Int) := by omega
                  have j3 : IntKind.i64.wrap (((m + 1 : Nat) : Int) + 1) = ((m + 1 : Nat) : Int) + 1 := by rw [IntKind.wrap_i64]; omega
                  have HR9 : Hid (RowB wr bu N q) := hrow
                  have HQ : Hid (∀ v, q v = true → Pass ls i (m + 1) v) := hq
                  generalize m + 1 = M at j2 j3 HQ ⊢
                  clear hrow hq hnl
                  go_wp2
                  go_roundw
                  case rel => exact ⟨i + 1, by omega, by go_num, q, HR9.out, fun v hv => (HQ.out v hv).over, hbk⟩
                  case measure => simp [numOf]; omega
            · have i2 : ¬ (i : Int) < (ls.length : Int) := by omega
              have hlen := HAL.out.len
              have hlI : ((ls.length : Int) != (cs.length : Int)) = false := by simp [hlen]
              have z3c := two_next z3b hbi
              obtain ⟨p2, p3⟩ := cell_two z3c
              clear hrow hq
              have h12 := rising_true (c := cc) (N := N) (HCB.out _ hbi) (by omega) (fun x hx => by rw [HAL.out.cut] at hx; exact (by simpa [listN] using (List.mem_filter.1 hx).1)) (fun k a b h1 h2 => by rw [HAL.out.cut] at h1 h2; exact listN_rises h1 h2)
              have H12 : Hid (Calls Try.prog 12 #[.slice co cs.length cc, .int .i64 (N : Int)] wr fun r w' => r = .returned (.bool true) ∧ Below wr.heap.size wr w') := h12
              clear h12
              go_upto_region 27 with (first | (go_at_call 12; refine Calls.mono H12.out ?_; rintro r W12 ⟨rfl, hb12⟩) | go_in)
              have z3d := two_next z3c hb12
              have hbj := below_next hbi hb12
              clear p2 p3 z3c hb12 hbi H12
              obtain ⟨p2, p3⟩ := cell_two z3d
              go_upto_region 28 with (first | (at_make; refine wpList_make_full _ rfl _ _ 36 rfl W12.heap.size 4 i0 (.bool false) 1 Try.underlying36 hi4 hy0 hy1 .i64 .i64 _ _ N rfl rfl rfl rfl ?_ ?_ ?_ ?_; (rw [hy2]; omega); (unfold maxLen; omega); (omega); intro W13 hmade hg13) | go_in)
              have hrow0 := rowB_made hmade
              have hb13 : Below W12.heap.size W12 W13 := (Below.refl _ _).grown hg13 (Nat.le_refl _) (fun k hk => by cases hk)
              have hbk := below_next hbj hb13
              obtain ⟨bv, hbv⟩ : ∃ b, b = W12.heap.size := ⟨_, rfl⟩
              have hbvW : W10.heap.size ≤ bv := by have := hbj.size; omega
              rw [← hbv] at hrow0 ⊢
              clear p2 p3 hmade hg13 hbv hb13 hbj z3d
              go_wp2
              go_loopw [17] (fun iv wr => ∃ i : Nat, i ≤ cs.length ∧ iv = .int .i64 (i : Int) ∧ RowB wr bv N (fun v => decide (v ∈ cs.take i)) ∧ Below W10.heap.size W10 wr) (fun iv _ => cs.length - (numOf iv).toNat)
              case atStart => exact ⟨0, Nat.zero_le _, rfl, RowB.congr hrow0 (fun j _ => by simp), hbk⟩
              case round =>
                clear hrow0 hbk
                obtain ⟨i, hi, rfl, hrow, hbi⟩ := hrel
                have HROW : Hid (RowB wr bv N (fun v => decide (v ∈ cs.take i))) := hrow
                by_cases hlt : i < cs.length
                · have i2 : (i : Int) < (cs.length : Int) := by omega
                  have i1 : (0 : Int) ≤ (i : Int) := by omega
                  obtain ⟨y, hy⟩ : ∃ y, cs[i]? = some y := ⟨cs[i], List.getElem?_eq_getElem hlt⟩
                  obtain ⟨bc, rfl, cy⟩ := HCB.out _ hbi i y hy
                  have hyN : y < N := by
                    have := List.mem_of_getElem? hy
                    rw [HAL.out.cut] at this
                    simpa [listN] using (List.mem_filter.1 this).1
                  have cyq := hrow.cell hyN
                  have fy := hrow.free y
                  have j8 : (0 : Int) ≤ (y : Int) := by omega
                  have j9 : (y : Int) < (N : Int) := by omega
                  have HY : Hid (cs[i]? = some y) := hy
                  generalize decide (y ∈ cs.take i) = qq at cyq
                  clear hrow hy
                  go_wp2
                  have hrow9 := RowB.congr (RowB.set HROW.out y) (r := fun v => decide (v ∈ cs.take (i + 1))) (fun j _ => by
                    obtain ⟨g1, g2⟩ := List.getElem?_eq_some_iff.1 HY.out
                    rw [List.take_succ_eq_append_getElem g1, g2]
                    rw [Bool.eq_iff_iff]
                    simp only [Bool.or_eq_true, beq_iff_eq, decide_eq_true_eq, List.mem_append, List.mem_singleton]
                    exact Or.comm)
                  have hb9 := hbi.setCell (p := ⟨bv, y, none⟩) hbvW (.bool true)
                  have HR9 : Hid (RowB (wr.setCell ⟨bv, y, none⟩ (.bool true)) bv N (fun v => decide (v ∈ cs.take (i + 1)))) := hrow9
                  clear hrow9 HROW
                  go_roundw
                  case rel => exact ⟨i + 1, by omega, by go_num, HR9.out, hb9⟩
                  case measure => simp [numOf]; omega
                · have i2 : ¬ (i : Int) < (cs.length : Int) := by omega
                  have hrow1 : RowB wr bv N (fun v => decide (v ∈ cs)) := RowB.congr hrow (fun j _ => by rw [List.take_of_length_le (by omega)])
                  have h20 := reach_call N go gc (hasB es) wr (GridAt.below HGR.out hbi) hN hu (shutAt_row hrow1 (by omega))
                  have H20 : Hid (Calls Try.prog 20 #[.slice go N gc, .int .i64 (u : Int), .slice (some ⟨bv, 0, none⟩) N N] wr fun r w' => ∃ b, r = .returned (.slice (some ⟨b, 0, none⟩) N N) ∧ wr.heap.size ≤ b ∧ ∃ I : Nat → Bool, RowB w' b N I ∧ (∀ x, x < N → (I x = true ↔ Star (St N (pn (hasB es)) (openB (fun v => decide (v ∈ cs)))) u x)) ∧ Below wr.heap.size wr w') := h20
                  have HSH : Hid (¬ Star (St N (pn (hasB es)) (openB (fun v => decide (v ∈ cs)))) u z) := HAL.out.shut hu huz
                  have cu := hrow1.cell hu
                  have cz0 := hrow1.cell hz
                  have d1 : decide (u ∈ cs) = false := by simpa using HAL.out.out.1
                  have d2 : decide (z ∈ cs) = false := by simpa using HAL.out.out.2
                  rw [d1] at cu
                  rw [d2] at cz0
                  have j1 : (0 : Int) ≤ (z : Int) := by omega
                  have j2 : (z : Int) < (N : Int) := by omega
                  have j3 : (0 : Int) ≤ (u : Int) := by omega
                  have j4 : (u : Int) < (N : Int) := by omega
                  clear h20 hrow hrow1 HROW d1 d2
                  go_wp2_with (first | (go_at_call 20; refine Calls.mono H20.out ?_; rintro r W12 ⟨bi, rfl, hge, I, hrow, hI, hb12⟩; have cz := hrow.cell hz; have hIz : I z = false := (by cases hq : I z; rfl; exact absurd ((hI z hz).1 hq) HSH.out); rw [hIz] at cz; clear hI) | go_in)
                  go_ret
                  exact ⟨rfl, below_next hBa (below_next hbi hb12)⟩
end Go.Proofs.Ytkakmaalmhofmaa
