/- FlowMost's walk. -/
import Derived.Test.YtkakmaalmhofmaaArcs
import Derived.Deep.Cut
import Derived.Deep.CutRange
import Derived.Deep.RegionLaw
namespace Go.Proofs.Ytkakmaalmhofmaa
open Go.RowKit Go.Maps
attribute [local go_sem ↓] Go.wp_at_zero Go.wp_at_succ

/-- What Most answers: a fault, or a flow. -/
def MostAns (n : Int) (al : List Arc3) (s t nc nd : Int) (B : Nat) (w' : World) (x : Int) (fv sv : Value) (c d : Int) : Prop :=
  c = nc ∧ d = nd ∧ ((nc ≠ 0 ∧ x = 0 ∧ fv = .slice none 0 0 ∧ sv = .slice none 0 0) ∨ (nc = 0 ∧ ∃ m u v : Nat, n = m ∧ s = u ∧ t = v ∧ m ≤ 100 ∧ al.length ≤ 1000 ∧ (∀ a ∈ al, goodA m a = true) ∧ u < m ∧ v < m ∧ u ≠ v ∧ MostIs m u v al B w' x fv sv))
def lawF (n : Int) (al : List Arc3) (s t : Int) : Int × Int := if (netF n al).1 = 0 then endsF n s t else netF n al
theorem most_any (n s t : Int) (v : Value) (al : List Arc3) (w : World) (hA : ArcsAt w v al) :
    Calls Try.prog 11 #[.agg #[.int .i64 n, v], .int .i64 s, .int .i64 t] w fun r w' => ∃ x fv sv c d, r = .returned (.tuple #[.int .i64 x, fv, sv, .agg #[.int .i64 c, .int .i64 d]]) ∧ MostAns n al s t (lawF n al s t).1 (lawF n al s t).2 w.heap.size w' x fv sv c d ∧ Below w.heap.size w w' := by
  unfold lawF
  by_cases h1 : (netF n al).1 = 0
  · rw [if_pos h1]
    obtain ⟨hz, hn0, hn1, hl, hg⟩ := netF_zero h1
    by_cases h2 : (endsF n s t).1 = 0
    · obtain ⟨m, rfl⟩ : ∃ m : Nat, n = m := ⟨n.toNat, by omega⟩
      have h3 : isN (m : Int) s = true ∧ isN (m : Int) t = true ∧ s ≠ t := by
        unfold endsF at h2
        by_cases a : isN (m : Int) s = false
        · rw [if_pos a] at h2; simp at h2
        · rw [if_neg a] at h2
          by_cases b : isN (m : Int) t = false
          · rw [if_pos b] at h2; simp at h2
          · rw [if_neg b] at h2
            by_cases c : s = t
            · rw [if_pos c] at h2; simp at h2
            · exact ⟨by simpa using a, by simpa using b, c⟩
      simp [isN] at h3
      obtain ⟨u, rfl⟩ : ∃ u : Nat, s = u := ⟨s.toNat, by omega⟩
      obtain ⟨v', rfl⟩ : ∃ v' : Nat, t = v' := ⟨t.toNat, by omega⟩
      have hu : u < m := by omega
      have hv : v' < m := by omega
      have huv : u ≠ v' := by omega
      refine (most_ok hA (by omega) hl hg hu hv huv).mono ?_
      rintro r w' ⟨x, fv, sv, rfl, hm, hb⟩
      rw [ends_ok hu hv huv]
      exact ⟨x, fv, sv, 0, 0, rfl, ⟨rfl, rfl, Or.inr ⟨rfl, m, u, v', rfl, rfl, rfl, by omega, hl, hg, hu, hv, huv, hm⟩⟩, hb⟩
    · refine (most_ends hA hz (c := (endsF n s t).1) (d := (endsF n s t).2) rfl h2).mono ?_
      rintro r w' ⟨rfl, hb⟩
      exact ⟨0, _, _, _, _, rfl, ⟨rfl, rfl, Or.inl ⟨h2, rfl, rfl, rfl⟩⟩, hb⟩
  · rw [if_neg h1]
    refine (most_net hA (c := (netF n al).1) (d := (netF n al).2) rfl h1).mono ?_
    rintro r w' ⟨rfl, hb⟩
    exact ⟨0, _, _, _, _, rfl, ⟨rfl, rfl, Or.inl ⟨h1, rfl, rfl, rfl⟩⟩, hb⟩

theorem MostIs.below {m u v : Nat} {al : List Arc3} {B : Nat} {w w' : World} {x : Int} {fv sv : Value} (h : MostIs m u v al B w x fv sv) (hb : Below w.heap.size w w') : MostIs m u v al B w' x fv sv := by
  obtain ⟨fl, S, h1, h2, h3⟩ := h
  exact ⟨fl, S, h1, ownsRow_blocks h2 (fun b hb' => hb.block b (h2.lt b hb').2), ownsRow_blocks h3 (fun b hb' => hb.block b (h3.lt b hb').2)⟩
theorem listN_rise {m : Nat} {S : Nat → Bool} {k a b : Nat} (h1 : (listN m S)[k]? = some a) (h2 : (listN m S)[k + 1]? = some b) : a < b := by
  obtain ⟨g1, e1⟩ := List.getElem?_eq_some_iff.1 h1
  obtain ⟨g2, e2⟩ := List.getElem?_eq_some_iff.1 h2
  have hp : (listN m S).Pairwise (· < ·) := List.Pairwise.filter _ List.pairwise_lt_range
  have := List.pairwise_iff_getElem.1 hp k (k + 1) g1 g2 (by omega)
  rw [e1, e2] at this
  exact this
def outF (al : List Arc3) (fl : List Int) (k z : Nat) : Int := sumN (fun a => (if fromA al a = z then fl.getD a 0 else 0) - (if toA al a = z then fl.getD a 0 else 0)) k
def cutF (al : List Arc3) (S : Nat → Bool) (k : Nat) : Int := sumN (fun a => if S (fromA al a) = true then (if S (toA al a) = true then 0 else capA al a) else 0) k
theorem outF_succ (al : List Arc3) (fl : List Int) (k z : Nat) : outF al fl (k + 1) z = outF al fl k z + ((if fromA al k = z then fl.getD k 0 else 0) - (if toA al k = z then fl.getD k 0 else 0)) := rfl
theorem cutF_succ (al : List Arc3) (S : Nat → Bool) (k : Nat) : cutF al S (k + 1) = cutF al S k + (if S (fromA al k) = true then (if S (toA al k) = true then 0 else capA al k) else 0) := rfl
theorem outF_le {al : List Arc3} {fl : List Int} (h : ∀ a, a < al.length → 0 ≤ fl.getD a 0 ∧ fl.getD a 0 ≤ 1000000) (z : Nat) : ∀ k : Nat, k ≤ al.length → -(1000000 * (k : Int)) ≤ outF al fl k z ∧ outF al fl k z ≤ 1000000 * (k : Int)
  | 0, _ => by simp [outF, sumN]
  | k + 1, hk => by
    have h1 := outF_le h z k (by omega)
    have h2 := h k (by omega)
    rw [outF_succ]
    split <;> split <;> omega
theorem cutF_le {al : List Arc3} {S : Nat → Bool} (h : ∀ a, a < al.length → 0 ≤ capA al a ∧ capA al a ≤ 1000000) : ∀ k : Nat, k ≤ al.length → 0 ≤ cutF al S k ∧ cutF al S k ≤ 1000000 * (k : Int)
  | 0, _ => by simp [cutF, sumN]
  | k + 1, hk => by
    have h1 := cutF_le (S := S) h k (by omega)
    have h2 := h k (by omega)
    rw [cutF_succ]
    split
    · split <;> omega
    · omega
theorem zcell {w : World} {base : Nat} {ao : Option Addr} {n cap : Nat} {l : List Int} (h : w.ownsRow base 3 1 (.slice ao n cap) n (zv l)) {k : Nat} (hk : k < n) (hl : k < l.length) : ∃ g, ao = some ⟨g, 0, none⟩ ∧ w.cell? ⟨g, k, none⟩ = some (.int .i64 (l.getD k 0)) := by
  rcases h.2 with ⟨_, e⟩ | ⟨g, c, cur, e, _⟩
  · omega
  · cases e
    refine ⟨g, rfl, ?_⟩
    have := h.cells (g := g) rfl k (.int .i64 (l.getD k 0)) (by simp [zv, List.getElem?_eq_getElem hl, List.getD])
    rw [add_none] at this
    exact this
theorem cell_three {w : World} {b : Nat} {x y z : Value} {t : TypeId} (h : w.heap[b]? = some (.cells #[x, y, z] t (0, 0))) : w.cell? ⟨b, 0, none⟩ = some x ∧ w.cell? ⟨b, 1, none⟩ = some y ∧ w.cell? ⟨b, 2, none⟩ = some z := by
  refine ⟨?_, ?_, ?_⟩
  all_goals (rw [cell_of_row _ _ _ _ t (0, 0) h]; rfl)
theorem three_new (w : World) (x y z : Value) (t : TypeId) : (w.alloc (Obj.cells #[x, y, z] t)).heap[w.heap.size]? = some (.cells #[x, y, z] t (0, 0)) := heap_alloc_new _ _

set_option maxRecDepth 4000 in
set_option maxHeartbeats 8000000 in
theorem mostLaw_any (n s t : Int) (ao : Option Addr) (cap : Nat) (al : List Arc3) (w : World) (hA : ArcsAt w (.slice ao al.length cap) al) :
    Calls Try.prog 3 #[.agg #[.int .i64 n, .slice ao al.length cap], .int .i64 s, .int .i64 t] w fun e w' => e = .returned (.bool true) ∧ Below w.heap.size w w' := by
  obtain ⟨i34, hi, hz0, hz1, hz2⟩ := info_parts Try.info34
  have hlen : al.length ≤ 5864062014805 := by obtain ⟨_, _, _, h, _⟩ := hA; exact h
  have HA : Hid _ := hA
  clear hA
  go_enter Try.func3, Try.ntmps3
  go_upto_region 1 with (fail)
  go_cut [7] from 21 to 26 (fun s7 wc => ∃ b7 o2 c2, s7 = ptr b7 ∧ (∀ x, o2 = some x → x.block < wc.heap.size) ∧ Two wc b7 (.int .i64 n) (.slice o2 al.length c2) 24 ∧ ArcsAt wc (.slice o2 al.length c2) al ∧ Two wc w.heap.size (.int .i64 n) (.slice ao al.length cap) 24 ∧ Below w.heap.size w wc)
  case first =>
    have t0 := two_new w (.int .i64 n) (.slice ao al.length cap) 24
    have hB0 := below_alloc (Below.refl _ w) (Obj.cells #[.int .i64 n, .slice ao al.length cap] 24)
    have hsz : (w.alloc (Obj.cells #[.int .i64 n, .slice ao al.length cap] 24)).heap.size = w.heap.size + 1 := by simp
    generalize w.alloc (Obj.cells #[.int .i64 n, .slice ao al.length cap] 24) = W0 at t0 hB0 hsz ⊢
    obtain ⟨q0, q1⟩ := cell_two t0
    have q0a := all_alloc q0
    have q1a := all_alloc q1
    have hN0 : Two (W0.alloc (Obj.cells #[.int .i64 n, .slice none 0 0] 24)).drew (w.heap.size + 1) (.int .i64 n) (.slice none 0 0) 24 := by
      have h := two_new W0 (.int .i64 n) (.slice none 0 0) 24
      rw [hsz] at h
      exact h
    by_cases hal : al = []
    · subst hal
      cases ao with
      | none =>
        go_region
        all_goals
          go_wp2_with fail
          go_meet
          case rel => exact ⟨w.heap.size + 1, none, 0, rfl, fun x hx => (by cases hx), hN0, arcsAt_nil _, two_alloc t0 _, (below_alloc hB0 _).drew⟩
      | some a =>
        go_region
        all_goals
          go_wp2_with fail
          go_meet
          case rel => exact ⟨w.heap.size + 1, none, 0, rfl, fun x hx => (by cases hx), hN0, arcsAt_nil _, two_alloc t0 _, (below_alloc hB0 _).drew⟩
    · have hpos : 0 < al.length := List.length_pos_iff.2 hal
      clear hal
      cases ao with
      | none =>
        obtain ⟨ao', cap', e', _, _, h⟩ := HA.out
        cases e'
        obtain ⟨b, off, h', _⟩ := h 0 hpos
        cases h'
      | some ad =>
        have hA1 := ArcsAt.below HA.out hB0
        have hI : ∀ a ∈ al, I64 a.1 ∧ I64 a.2.1 ∧ I64 a.2.2 := by obtain ⟨_, _, _, _, h, _⟩ := HA.out; exact h
        have HI : Hid _ := hI
        have hZ0 : Two (W0.alloc (Obj.cells #[.int .i64 0, .slice none 0 0] 24)).drew (w.heap.size + 1) (.int .i64 0) (.slice none 0 0) 24 := by
          have h := two_new W0 (.int .i64 0) (.slice none 0 0) 24
          rw [hsz] at h
          exact h
        clear hI
        go_region_held3 (fun w' => w'.cell? ⟨w.heap.size, 0, none⟩ = some (.int .i64 n) ∧ w'.cell? ⟨w.heap.size, 1, none⟩ = some (.slice (some ad) al.length cap))
          (first | exact hkk | exact ⟨q0, q1⟩ | exact ⟨q0a _, q1a _⟩ | assumption | go_keep)
          ((refine step_append_lies _ (by rfl) _ _ _ (by rfl) (w.heap.size + 1) 34 i34 _ 3 24 Try.underlying22 hi hz0 hz1 hz2 rfl (by omega) (.slice none 0 0) 0 [] (by rfl) (World.ownsRow_nil _ _ _ _) ad al.length cap (flat3 al) (by rfl) (flat3_length al) (by first | exact arcs_news (hA1.below (Below.refl _ W0).drew) | exact arcs_news (hA1.below (below_alloc (Below.refl _ W0) _).drew)) (flat3_one al) hpos (by unfold maxLen; omega) (by omega) (by show w.heap.size + 1 ≤ _; first | (show _ ≤ W0.heap.size; omega) | (simp; omega)) _ rfl ?_; intro g c w1 hown hgrow hat hlt; have hBg := below_grown hgrow; have hkk : w1.cell? ⟨w.heap.size, 0, none⟩ = some (.int .i64 n) ∧ w1.cell? ⟨w.heap.size, 1, none⟩ = some (.slice (some ad) al.length cap) := (by first | exact ⟨(hBg.cell (p := ⟨w.heap.size, 0, none⟩) (lt_of_block t0)).trans q0, (hBg.cell (p := ⟨w.heap.size, 1, none⟩) (lt_of_block t0)).trans q1⟩ | exact ⟨(hBg.cell (p := ⟨w.heap.size, 0, none⟩) (lt_of_block (two_alloc t0 _))).trans (q0a _), (hBg.cell (p := ⟨w.heap.size, 1, none⟩) (lt_of_block (two_alloc t0 _))).trans (q1a _)⟩); first | (have t8 : Two w1 (w.heap.size + 1) (.int .i64 0) (.slice none 0 0) 24 := (hBg.block _ (lt_of_block hZ0)).trans hZ0; have e0 := (cell_two t8).1; have e1 := (cell_two t8).2; have g0 := free_two t8) | skip))
        all_goals
          go_split_ands
          go_wp2_with fail
          go_meet
          case rel =>
            have hA2 := arcsAt_row (base := w.heap.size + 1) (L := al) (by simpa using hown) HI.out hlen
            first
              | exact ⟨w1.heap.size, some ⟨g, 0, none⟩, c, rfl, fun x hx => (by cases hx; simp; omega), two_new _ _ _ _, hA2.below (below_alloc (Below.refl _ w1) _), two_alloc ((hBg.block _ (lt_of_block t0)).trans t0) _, below_alloc (below_next hB0.drew hBg) _⟩
              | (have hg : w.heap.size + 1 < g := by
                  rcases hat with h | h
                  · cases h
                  · have h' : g = (W0.alloc (Obj.cells #[.int .i64 0, .slice none 0 0] 24)).heap.size := h
                    rw [h']; simp; omega
                 exact ⟨w.heap.size + 1, some ⟨g, 0, none⟩, c, rfl, fun x hx => (by cases hx; simp [World.setCell]; omega), two_setN t8, (hA2.setCell (fun x hx => by cases hx; simp; omega) _).setCell (fun x hx => by cases hx; simp; omega) _, two_far (two_far ((hBg.block _ (lt_of_block (two_alloc t0 _))).trans (two_alloc t0 _)) (by omega)) (by omega), ((below_next (below_alloc hB0 _).drew hBg).setCell (by simp) _).setCell (by simp) _⟩)
  case rest =>
    obtain ⟨b7, o2, c2, rfl, ho2, t7, hA7, t3, hB⟩ := hcut
    obtain ⟨m1, m2, hm⟩ : ∃ m1 m2, netF n al = (m1, m2) := ⟨_, _, rfl⟩
    obtain ⟨nc, nd, hnc⟩ : ∃ nc nd, lawF n al s t = (nc, nd) := ⟨_, _, rfl⟩
    have h7 := net7_any n (.slice ao al.length cap) al wc (ArcsAt.below HA.out hB)
    rw [hm] at h7
    have H7 : Hid _ := h7
    have HM : Hid _ := hm
    have HNC : Hid _ := hnc
    clear h7 hm hnc
    obtain ⟨q0, q1⟩ := cell_two t3
    go_upto_region 3 with (first | (go_at_call 7; refine Calls.mono H7.out ?_; rintro e W1 ⟨rfl, hb1⟩) | go_in)
    obtain ⟨b8, hb8⟩ : ∃ b8, b8 = W1.heap.size := ⟨_, rfl⟩
    have t8 := two_new W1 (.int .i64 m1) (.int .i64 m2) 26
    have hb1a := below_alloc hb1 (Obj.cells #[.int .i64 m1, .int .i64 m2] 26)
    have u7 := two_next t7 hb1a
    have u3 := two_next t3 hb1a
    have hA8 := hA7.below hb1a
    have hB1 := below_next hB hb1a
    have l7 := lt_of_block t7
    have l3 := lt_of_block t3
    have hs1 := hb1.size
    rw [← hb8] at t8 ⊢
    generalize W1.alloc (Obj.cells #[.int .i64 m1, .int .i64 m2] 26) = W2 at t8 u7 u3 hA8 hB1 ⊢
    have n78 : b7 ≠ b8 ∧ w.heap.size ≠ b8 ∧ w.heap.size ≤ b8 := by have := hB.size; omega
    have HO2 : Hid (∀ x, o2 = some x → x.block ≠ b8) := fun x hx => by have := ho2 x hx; omega
    clear t7 t3 hA7 hB hb1 hb1a q0 q1 l7 l3 hs1 hb8 ho2
    obtain ⟨a0, a1⟩ := cell_two u7
    obtain ⟨a2, a3⟩ := cell_two t8
    have hne := neq26 m1 m2
    have h8 := check8_any n (.slice o2 al.length c2) al W2.drew (hA8.below (Below.refl _ W2).drew)
    rw [HM.out] at h8
    have hkeep : ∀ w', Below W2.heap.size W2 w' → w'.cell? ⟨b7, 0, none⟩ = some (.int .i64 n) ∧ w'.cell? ⟨b7, 1, none⟩ = some (.slice o2 al.length c2) ∧ w'.cell? ⟨b8, 0, none⟩ = some (.int .i64 m1) ∧ w'.cell? ⟨b8, 1, none⟩ = some (.int .i64 m2) := fun w' hb => ⟨(cell_two (two_next u7 hb)).1, (cell_two (two_next u7 hb)).2, (cell_two (two_next t8 hb)).1, (cell_two (two_next t8 hb)).2⟩
    have HK : Hid _ := hkeep
    have H8 : Hid _ := h8
    clear hkeep h8
    go_region_held3 (fun w' => w'.cell? ⟨b7, 0, none⟩ = some (.int .i64 n) ∧ w'.cell? ⟨b7, 1, none⟩ = some (.slice o2 al.length c2) ∧ w'.cell? ⟨b8, 0, none⟩ = some (.int .i64 m1) ∧ w'.cell? ⟨b8, 1, none⟩ = some (.int .i64 m2))
      (first | exact hk4 | exact hk3 | exact HK.out _ (Below.refl _ _).drew | assumption | go_keep)
      ((first
        | (go_at_call 8; refine Calls.mono H8.out ?_; rintro e W3 ⟨rfl, hb3⟩; have hb3' := (Below.refl W2.heap.size W2).drew.trans hb3; have hk3 := HK.out _ hb3')
        | (go_at_call 9; refine Calls.mono (begun_call _) ?_; rintro e W4 ⟨rfl, hb4⟩; have hb4' := below_next hb3' hb4; have hk4 := HK.out _ hb4')))
    have v7 := two_next u7 hb4'
    have v8 := two_next t8 hb4'
    have v3 := two_next u3 hb4'
    have hA9 := hA8.below hb4'
    have hB4 := below_next hB1 hb4'
    clear u7 t8 u3 hA8 hB1 a0 a1 a2 a3 hk3 hk4 hb3 hb3' hb4 hb4' H7 H8 HK hne
    have e10 : Calls Try.prog 10 #[.int .i64 n, .int .i64 s, .int .i64 t] W4 fun e w' => e = .returned (.agg #[.int .i64 (endsF n s t).1, .int .i64 (endsF n s t).2]) ∧ Below W4.heap.size W4 w' := ends10 n s t W4
    obtain ⟨a2, a3⟩ := cell_two v8
    go_upto_if 39 with (fail)
    clear a2 a3
    go_cut [] from 39 to 44 (fun wd => Two wd b8 (.int .i64 nc) (.int .i64 nd) 26 ∧ Two wd b7 (.int .i64 n) (.slice o2 al.length c2) 24 ∧ Two wd w.heap.size (.int .i64 n) (.slice ao al.length cap) 24 ∧ ArcsAt wd (.slice o2 al.length c2) al ∧ Below w.heap.size w wd)
    case first =>
      obtain ⟨p0, p1⟩ := cell_two v3
      have hlw := HNC.out
      unfold lawF at hlw
      rw [HM.out] at hlw
      by_cases hm0 : m1 = 0
      · have k1 : (m1 == 0) = true := by rw [beq_iff_eq]; exact hm0
        have hlw' : endsF n s t = (nc, nd) := by simpa [hm0] using hlw
        rw [hlw'] at e10
        simp only at e10
        have H10 : Hid _ := e10
        clear hlw hlw' e10 hm0
        go_wp2_with (first | (go_at_call 10; refine Calls.mono H10.out ?_; rintro e W5 ⟨rfl, hb5⟩; have z8 := two_next v8 hb5; have ff := free_two z8; obtain ⟨b2, b3⟩ := cell_two z8) | go_in)
        go_meet
        case rel => exact ⟨two_setN z8, two_far (two_far (two_next v7 hb5) n78.1) n78.1, two_far (two_far (two_next v3 hb5) n78.2.1) n78.2.1, (by
          have := hA9.below hb5
          refine (this.setCell (fun x hx => ?_) _).setCell (fun x hx => ?_) _
          all_goals (exact HO2.out x hx)), (((below_next hB4 hb5).setCell (by simp; omega) _).setCell (by simp; omega) _)⟩
      · have k1 : (m1 == 0) = false := by rw [beq_eq_false_iff_ne]; exact hm0
        have hlw' : (m1, m2) = (nc, nd) := by simpa [hm0] using hlw
        have hx1 : m1 = nc := congrArg Prod.fst hlw'
        have hx2 : m2 = nd := congrArg Prod.snd hlw'
        rw [hx1, hx2] at v8
        have V8 : Hid _ := v8
        clear hlw hlw' e10 hm0 hx1 hx2 v8
        go_wp2_with fail
        go_meet
        case rel => exact ⟨V8.out, v7, v3, hA9, hB4⟩
    case rest =>
      clear v7 v8 v3 hA9 hB4 e10
      obtain ⟨t8, t7, t3, hA5, hB5⟩ := hcut
      have h11 := most_any n s t (.slice o2 al.length c2) al wc hA5
      rw [HNC.out] at h11
      have H11 : Hid _ := h11
      clear h11
      obtain ⟨a0, a1⟩ := cell_two t7
      go_upto_region 8 with (first | (go_at_call 11; refine Calls.mono H11.out ?_; rintro r W6 ⟨x, fv, sv, c, d, rfl, ⟨rfl, rfl, hans⟩, hb6⟩) | go_in)
      obtain ⟨b12, hb12⟩ : ∃ b12, b12 = W6.heap.size := ⟨_, rfl⟩
      have u12 := two_new W6 (.int .i64 c) (.int .i64 d) 26
      have hb6a := below_alloc hb6 (Obj.cells #[.int .i64 c, .int .i64 d] 26)
      have u8 := two_next t8 hb6a
      have u7 := two_next t7 hb6a
      have u3 := two_next t3 hb6a
      have hA6 := hA5.below hb6a
      have hB6 := below_next hB5 hb6a
      have hans2 : (c ≠ 0 ∧ x = 0 ∧ fv = .slice none 0 0 ∧ sv = .slice none 0 0) ∨ (c = 0 ∧ ∃ m u v : Nat, n = m ∧ s = u ∧ t = v ∧ m ≤ 100 ∧ al.length ≤ 1000 ∧ (∀ a ∈ al, goodA m a = true) ∧ u < m ∧ v < m ∧ u ≠ v ∧ MostIs m u v al wc.heap.size (W6.alloc (Obj.cells #[.int .i64 c, .int .i64 d] 26)) x fv sv) := by
        rcases hans with h | ⟨h0, m, u, v, h1, h2, h3, h4, h5, h6, h7, h8, h9, h10⟩
        · exact Or.inl h
        · exact Or.inr ⟨h0, m, u, v, h1, h2, h3, h4, h5, h6, h7, h8, h9, h10.below (below_alloc (Below.refl _ W6) _)⟩
      rw [← hb12] at u12 ⊢
      generalize W6.alloc (Obj.cells #[.int .i64 c, .int .i64 d] 26) = W7 at u12 u8 u7 u3 hA6 hB6 hans2 ⊢
      have HAN : Hid _ := hans2
      clear t8 t7 t3 hA5 hB5 a0 a1 hans hans2 hb6 hb6a H11 hb12
      obtain ⟨q0, q1⟩ := cell_two u3
      go_wp2
      clear q0 q1
      go_loopw [6, 13] (fun _ i wr => ∃ k : Nat, k ≤ al.length ∧ i = .int .i64 (k : Int) ∧ Below W7.heap.size W7 wr) (fun _ i _ => al.length - (numOf i).toNat)
      case atStart => exact ⟨0, Nat.zero_le _, rfl, Below.refl _ _⟩
      case round =>
        obtain ⟨k, hk, rfl, hBk⟩ := hrel
        have w3 := two_next u3 hBk
        have w7 := two_next u7 hBk
        obtain ⟨q0, q1⟩ := cell_two w3
        obtain ⟨a0, a1⟩ := cell_two w7
        by_cases hlt : k < al.length
        · obtain ⟨_, _, e', _, hI, hcells⟩ := ArcsAt.below HA.out (below_next hB6 hBk)
          cases e'
          obtain ⟨b, off, rfl, cx, cy, cz⟩ := hcells k hlt
          obtain ⟨_, _, e', _, _, hcells2⟩ := hA6.below hBk
          cases e'
          obtain ⟨b', off', rfl, cx', cy', cz'⟩ := hcells2 k hlt
          obtain ⟨xx, yy, zz, hxy⟩ : ∃ x y z, al[k] = (x, y, z) := ⟨al[k].1, al[k].2.1, al[k].2.2, rfl⟩
          rw [hxy] at cx cy cz cx' cy' cz'
          have hne := neq34 xx yy zz
          have i1 : (0 : Int) ≤ (k : Int) := by omega
          have i2 : (k : Int) < (al.length : Int) := by omega
          clear hcells hcells2 hI hxy
          go_upto_region 11 with (fail)
          go_quiet (fail)
          go_wp2
          go_roundw
          case rel => exact ⟨k + 1, by omega, by go_num, below_drewN hBk _⟩
          case measure => simp [numOf]; omega
        · have i2 : ¬ (k : Int) < (al.length : Int) := by omega
          have w8 := two_next u8 hBk
          have w12 := two_next u12 hBk
          obtain ⟨a2, a3⟩ := cell_two w8
          obtain ⟨a4, a5⟩ := cell_two w12
          have hne := neq26 c d
          have hB7 := below_next hB6 hBk
          rcases HAN.out with ⟨hc0, rfl, rfl, rfl⟩ | ⟨rfl, m, u, v, rfl, rfl, rfl, hm1, hl, hg, hu, hv, huv, hmi⟩
          · have k1 : (c == 0) = false := by rw [beq_eq_false_iff_ne]; exact hc0
            clear HAN
            go_wp2
            go_ret
            exact ⟨rfl, hB7⟩
          · obtain ⟨fl, S, hfi, hfo, hso⟩ := hmi.below hBk
            obtain ⟨fo, fc, rfl⟩ := form_row hfo
            obtain ⟨so, sc, rfl⟩ := form_row hso
            have hLm : (listN m S).length ≤ m := listN_le m S
            obtain ⟨L, hL⟩ : ∃ L, L = listN m S := ⟨_, rfl⟩
            rw [← hL] at hso hLm ⊢
            have hmemL : ∀ z, z ∈ L ↔ z < m ∧ S z = true := fun z => by rw [hL]; simp [listN]
            have hris := rising_true (w := wr) (lo := so) (c := sc) (N := m) (L := L) (numsAt_own hso) (by omega) (fun z hz => ((hmemL z).1 hz).1) (fun k a b h1 h2 => by rw [hL] at h1 h2; exact listN_rise h1 h2)
            have HR : Hid _ := hris
            have HFI : Hid _ := hfi
            have HFO : Hid _ := hfo
            have HSO : Hid _ := hso
            have HML : Hid _ := hmemL
            have HG : Hid _ := hg
            clear HAN hmi hris hfi hfo hso hmemL hg hL hne
            have hne := neq26 0 d
            generalize wr = Wb at w3 w8 w12 q0 q1 a0 a1 a2 a3 a4 a5 hB7 HR HFO HSO hBk w7 ⊢
            go_upto_region 19 with (first | (go_at_call 12; refine Calls.mono HR.out ?_; rintro e W8 ⟨rfl, hb8⟩) | go_in)
            have z3 := two_next w3 hb8
            obtain ⟨p0, p1⟩ := cell_two z3
            obtain ⟨i3, hi3, hy0, hy1, hy2⟩ := info_parts Try.info3
            obtain ⟨i4, hi4, hx0, hx1, hx2⟩ := info_parts Try.info4
            have hs8 := hb8.size
            go_upto_region 20 with (first | (at_make; refine wpList_make_full _ rfl _ _ 30 rfl W8.heap.size 3 i3 (.int .i64 0) 1 Try.underlying30 hi3 hy0 hy1 .i64 .i64 _ _ m rfl rfl rfl rfl ?_ ?_ ?_ ?_; (rw [hy2]; omega); (unfold maxLen; omega); (omega); intro W9 hmade9 hg9) | go_in)
            have r9 := rowV_made rfl hmade9
            have hb9 : Below W8.heap.size W8 W9 := (Below.refl _ _).grown hg9 (Nat.le_refl _) (fun k hk => by cases hk)
            have y3 := two_next z3 hb9
            have hs9 := hb9.size
            clear hmade9 hg9 p0 p1
            obtain ⟨p0, p1⟩ := cell_two y3
            go_upto_region 21 with (first | (at_make; refine wpList_make_full _ rfl _ _ 36 rfl W9.heap.size 4 i4 (.bool false) 1 Try.underlying36 hi4 hx0 hx1 .i64 .i64 _ _ m rfl rfl rfl rfl ?_ ?_ ?_ ?_; (rw [hx2]; omega); (unfold maxLen; omega); (omega); intro W10 hmade10 hg10) | go_in)
            have r10 := rowB_made hmade10
            have hb10 : Below W9.heap.size W9 W10 := (Below.refl _ _).grown hg10 (Nat.le_refl _) (fun k hk => by cases hk)
            have ro10 := r9.block (hb10.block _ r9.lt)
            have hbo : Wb.heap.size ≤ W8.heap.size := hs8
            have hbi : W8.heap.size < W9.heap.size := r9.lt
            have hBa := below_next (below_next hb8 hb9) hb10
            obtain ⟨bo, hbo2⟩ : ∃ bo, bo = W8.heap.size := ⟨_, rfl⟩
            obtain ⟨bi, hbi2⟩ : ∃ bi, bi = W9.heap.size := ⟨_, rfl⟩
            rw [← hbo2] at ro10 hbo hbi ⊢
            rw [← hbi2] at r10 hbi ⊢
            clear hmade10 hg10 p0 p1 y3 z3 r9 hb8 hb9 hb10 hs8 hs9 hbo2 hbi2
            go_wp2
            go_loopw [16] (fun i wr => ∃ k : Nat, k ≤ L.length ∧ i = .int .i64 (k : Int) ∧ RowB wr bi m (fun z => decide (z ∈ L.take k)) ∧ RowV wr bo 3 m (fun _ => .int .i64 0) ∧ Below Wb.heap.size Wb wr) (fun i _ => L.length - (numOf i).toNat)
            case atStart => exact ⟨0, Nat.zero_le _, rfl, r10.congr (fun _ _ => by simp), ro10, hBa⟩
            case round =>
              clear r10 ro10 hBa
              obtain ⟨k2, hk2, rfl, hrb, hro, hBc⟩ := hrel
              by_cases hlt2 : k2 < L.length
              · obtain ⟨z, hz?⟩ : ∃ z, L[k2]? = some z := ⟨L[k2], List.getElem?_eq_getElem hlt2⟩
                have hzm := ((HML.out z).1 (List.mem_of_getElem? hz?)).1
                obtain ⟨gs, e1, cs0⟩ := qcell HSO.out hz?
                have cs := (hBc.cell (by exact World.block_lt_of_cell? Wb _ cs0)).trans cs0
                subst e1
                have ci := hrb.cell hzm
                have fi := hrb.free z
                have j1 : (0 : Int) ≤ (k2 : Int) := by omega
                have j2 : (k2 : Int) < (L.length : Int) := by omega
                have j3 : (0 : Int) ≤ (z : Int) := by omega
                have j4 : (z : Int) < (m : Int) := by omega
                have hrb2 := (hrb.set z).congr (r := fun y => decide (y ∈ L.take (k2 + 1))) (fun y _ => by
                  obtain ⟨g1, g2⟩ := List.getElem?_eq_some_iff.1 hz?
                  rw [List.take_succ_eq_append_getElem g1, g2, Bool.eq_iff_iff]
                  simp
                  exact Or.comm)
                have hro2 := hro.turns (setCell_turns wr bi z (.bool true)) (by omega)
                have hBc2 := hBc.setCell (p := ⟨bi, z, none⟩) (by show Wb.heap.size ≤ bi; omega) (.bool true)
                have HB2 : Hid _ := hrb2
                have HO2' : Hid _ := hro2
                have HBC : Hid _ := hBc2
                clear hrb hro hrb2 hro2 hBc2 hz? cs0
                go_wp2
                go_roundw
                case rel => exact ⟨k2 + 1, by omega, by go_num, HB2.out, HO2'.out, HBC.out⟩
                case measure => simp [numOf]; omega
              · have j2 : ¬ (k2 : Int) < (L.length : Int) := by omega
                have hrb2 := hrb.congr (r := S) (fun y hy => by
                  rw [List.take_of_length_le (by omega), Bool.eq_iff_iff]
                  simp
                  exact ⟨fun h => ((HML.out y).1 h).2, fun h => (HML.out y).2 ⟨hy, h⟩⟩)
                have HRB : Hid _ := hrb2
                have HRO : Hid _ := hro
                have HBC : Hid _ := hBc
                clear hrb hrb2 hro hBc
                have hcap : ∀ a, a < al.length → 0 ≤ capA al a ∧ capA al a ≤ 1000000 := fun a ha => goodA_cap HG.out ha
                have hfit : ∀ a, a < al.length → 0 ≤ fl.getD a 0 ∧ fl.getD a 0 ≤ 1000000 := fun a ha => by
                  have h1 := HFI.out.fit a ha
                  have h2 := hcap a ha
                  omega
                have HCP : Hid _ := hcap
                have HFT : Hid _ := hfit
                have hfl := HFI.out.len
                have HFL : Hid _ := hfl
                clear hcap hfit hfl
                go_wp2
                go_loopw [6, 17, 18] (fun _ sv i wr => ∃ k : Nat, k ≤ al.length ∧ i = .int .i64 (k : Int) ∧ sv = .int .i64 (cutF al S k) ∧ RowV wr bo 3 m (fun z => .int .i64 (outF al fl k z)) ∧ RowB wr bi m S ∧ Below Wb.heap.size Wb wr) (fun _ _ i _ => al.length - (numOf i).toNat)
                case atStart => exact ⟨0, Nat.zero_le _, rfl, rfl, HRO.out, HRB.out, HBC.out⟩
                case round =>
                  clear HRO HRB HBC
                  obtain ⟨k3, hk3, rfl, rfl, hro, hrb, hBc⟩ := hrel
                  by_cases hlt3 : k3 < al.length
                  · obtain ⟨_, _, e', _, _, hcells⟩ := ArcsAt.below HA.out (below_next hB7 hBc)
                    cases e'
                    obtain ⟨b, off, rfl, cx, cy, cz⟩ := hcells k3 hlt3
                    have hgd := HG.out al[k3] (List.getElem_mem hlt3)
                    obtain ⟨x0, y0, zc, hxy⟩ : ∃ x y z, al[k3] = (x, y, z) := ⟨al[k3].1, al[k3].2.1, al[k3].2.2, rfl⟩
                    rw [hxy] at cx cy cz hgd
                    simp [goodA, isN, isV] at hgd
                    obtain ⟨f, rfl⟩ : ∃ f : Nat, x0 = f := ⟨x0.toNat, by omega⟩
                    obtain ⟨g, rfl⟩ : ∃ g : Nat, y0 = g := ⟨y0.toNat, by omega⟩
                    have hfm : f < m := by omega
                    have hgm : g < m := by omega
                    have e1 : fromA al k3 = f := by unfold fromA; rw [getD_lt hlt3, hxy]; simp
                    have e2 : toA al k3 = g := by unfold toA; rw [getD_lt hlt3, hxy]; simp
                    have e3 : capA al k3 = zc := by unfold capA; rw [getD_lt hlt3, hxy]
                    obtain ⟨gf, rfl, cl0⟩ := zcell HFO.out hlt3 (by have := HFL.out; omega)
                    have cl := (hBc.cell (by exact World.block_lt_of_cell? Wb _ cl0)).trans cl0
                    obtain ⟨lk, hlk⟩ : ∃ lk, lk = fl.getD k3 0 := ⟨_, rfl⟩
                    rw [← hlk] at cl
                    have hft := HFI.out.fit k3 hlt3
                    rw [← hlk, e3] at hft
                    have hzc : zc ≤ 1000000 ∧ lk ≤ 1000000 := by have h5 := (HCP.out k3 hlt3).2; rw [e3] at h5; omega
                    have hO := fun z => outF_le HFT.out z k3 (by omega)
                    have hC := cutF_le (S := S) HCP.out k3 (by omega)
                    have hO2 : ∀ z, outF al fl (k3 + 1) z = outF al fl k3 z + ((if f = z then lk else 0) - (if g = z then lk else 0)) := fun z => by rw [outF_succ, e1, e2, hlk]
                    have hC2 : cutF al S (k3 + 1) = cutF al S k3 + (if S f = true then (if S g = true then 0 else zc) else 0) := by rw [cutF_succ, e1, e2, e3]
                    have t3 := two_next w3 hBc
                    obtain ⟨p0, p1⟩ := cell_two t3
                    have j1 : (0 : Int) ≤ (k3 : Int) := by omega
                    have j2 : (k3 : Int) < (al.length : Int) := by omega
                    have HOO : Hid _ := hO
                    have HO3 : Hid _ := hO2
                    have HC3 : Hid _ := hC2
                    clear hcells hxy hgd e1 e2 e3 cl0 hO hO2 hC2 hlk
                    go_upto_region 30 with (fail)
                    have t19 := three_new wr (.int .i64 (f : Int)) (.int .i64 (g : Int)) (.int .i64 zc) 34
                    have hBd := below_alloc hBc (Obj.cells #[.int .i64 (f : Int), .int .i64 (g : Int), .int .i64 zc] 34)
                    have hro1 := hro.block (w' := wr.alloc (Obj.cells #[.int .i64 (f : Int), .int .i64 (g : Int), .int .i64 zc] 34)) (Below.heap_alloc _ _ _ hro.lt)
                    have hrb1 := hrb.block (w' := wr.alloc (Obj.cells #[.int .i64 (f : Int), .int .i64 (g : Int), .int .i64 zc] 34)) (Below.heap_alloc _ _ _ hrb.lt)
                    have cl1 := all_alloc cl (Obj.cells #[.int .i64 (f : Int), .int .i64 (g : Int), .int .i64 zc] 34)
                    obtain ⟨b19, hb19⟩ : ∃ b, b = wr.heap.size := ⟨_, rfl⟩
                    have lbo := hro.lt
                    have lbi := hrb.lt
                    have lgf := World.block_lt_of_cell? wr _ cl
                    have hsw := hBc.size
                    rw [← hb19] at t19 ⊢
                    generalize wr.alloc (Obj.cells #[.int .i64 (f : Int), .int .i64 (g : Int), .int .i64 zc] 34) = Wd at t19 hBd hro1 hrb1 cl1 ⊢
                    have nb : b19 ≠ bo ∧ b19 ≠ bi ∧ gf ≠ bo := by
                      have h9 : gf < Wb.heap.size := by have := (World.ownsRow.lt HFO.out gf rfl).2; exact this
                      simp at lbo lbi lgf
                      omega
                    clear hro hrb hBc cl cx cy cz p0 p1 t3 lbo lbi lgf hsw hb19
                    obtain ⟨c19, c19b, c19c⟩ := cell_three t19
                    have zn1 : ¬ lk < 0 := by omega
                    have zn2 : ¬ zc < lk := by omega
                    go_quiet (fail)
                    go_upto_region 32 with (fail)
                    have Tq : Turns (fun _ => False) Wd (Wd.drewN nq) := Turns.of_below (below_drewN (Below.refl _ Wd) nq) _
                    have roE := hro1.turns Tq (fun h => h)
                    have rbE := hrb1.turns Tq (fun h => h)
                    have clE := cell_turns cl1 Tq (fun h => h)
                    have t19E := (Tq.block _ (lt_of_block t19) (fun h => h)).trans t19
                    have hBE := below_drewN hBd nq
                    generalize Wd.drewN nq = We at roE rbE clE t19E hBE ⊢
                    clear hro1 hrb1 cl1 t19 hBd Tq c19 c19b c19c zn1 zn2
                    obtain ⟨c19, c19b, c19c⟩ := cell_three t19E
                    have co := roE.cell hfm
                    have fz := roE.free f
                    have hOf := HOO.out f
                    have kw1 : IntKind.i64.wrap (outF al fl k3 f + lk) = outF al fl k3 f + lk := by rw [IntKind.wrap_i64]; omega
                    have l1 : (0 : Int) ≤ (f : Int) := by omega
                    have l2 : (f : Int) < (m : Int) := by omega
                    have l3 : (0 : Int) ≤ (g : Int) := by omega
                    have l4 : (g : Int) < (m : Int) := by omega
                    have ro2 := (roE.set f (.int .i64 (outF al fl k3 f + lk))).congr (g := fun z => .int .i64 (if z = f then outF al fl k3 f + lk else outF al fl k3 z)) (fun z _ => by by_cases e : z = f <;> simp [e])
                    have Tf := setCell_turns We bo f (.int .i64 (outF al fl k3 f + lk))
                    have rb2 := rbE.turns Tf (by omega)
                    have cl2 := cell_turns clE Tf nb.2.2
                    have t192 := (Tf.block _ (lt_of_block t19E) nb.1).trans t19E
                    have hB2 := hBE.setCell (p := ⟨bo, f, none⟩) (by show Wb.heap.size ≤ bo; omega) (.int .i64 (outF al fl k3 f + lk))
                    have hd2 := hB2.drew
                    have RO2 : Hid (RowV (We.setCell ⟨bo, f, none⟩ (.int .i64 (outF al fl k3 f + lk))).drew bo 3 m (fun z => .int .i64 (if z = f then outF al fl k3 f + lk else outF al fl k3 z))) := ro2
                    have RB2 : Hid (RowB (We.setCell ⟨bo, f, none⟩ (.int .i64 (outF al fl k3 f + lk))).drew bi m S) := rb2
                    have CL2 : Hid ((We.setCell ⟨bo, f, none⟩ (.int .i64 (outF al fl k3 f + lk))).drew.cell? ⟨gf, k3, none⟩ = some (.int .i64 lk)) := cl2
                    have T192 : Hid ((We.setCell ⟨bo, f, none⟩ (.int .i64 (outF al fl k3 f + lk))).drew.heap[b19]? = some (.cells #[.int .i64 (f : Int), .int .i64 (g : Int), .int .i64 zc] 34 (0, 0))) := t192
                    have HB2 : Hid _ := hd2
                    clear ro2 rb2 cl2 t192 hB2 hd2 Tf
                    go_region
                    all_goals
                      generalize (We.setCell ⟨bo, f, none⟩ (.int .i64 (outF al fl k3 f + lk))).drew = Wf at RO2 RB2 CL2 T192 HB2 ⊢
                      clear roE rbE clE t19E hBE c19 c19b c19c co fz kw1
                      obtain ⟨c19, c19b, c19c⟩ := cell_three T192.out
                      obtain ⟨O1, hO1⟩ : ∃ O1 : Nat → Int, O1 = fun z => if z = f then outF al fl k3 f + lk else outF al fl k3 z := ⟨_, rfl⟩
                      have ro3 : RowV Wf bo 3 m (fun z => .int .i64 (O1 z)) := by rw [hO1]; exact RO2.out
                      have hOg := HOO.out g
                      have hO1g : -1000000000 - 1000000 ≤ O1 g ∧ O1 g ≤ 1000000000 + 1000000 := by
                        rw [hO1]
                        show _ ≤ (if g = f then outF al fl k3 f + lk else outF al fl k3 g) ∧ (if g = f then outF al fl k3 f + lk else outF al fl k3 g) ≤ _
                        split <;> omega
                      have hO3 : ∀ z, (if z = g then O1 g - lk else O1 z) = outF al fl (k3 + 1) z := fun z => by
                        rw [HO3.out z, hO1]
                        show (if z = g then (if g = f then outF al fl k3 f + lk else outF al fl k3 g) - lk else (if z = f then outF al fl k3 f + lk else outF al fl k3 z)) = _
                        by_cases a1 : z = g
                        · subst a1
                          by_cases a2 : z = f
                          · subst a2; simp
                          · have a3 : ¬ f = z := fun e => a2 e.symm
                            simp [a2, a3]; omega
                        · have a4 : ¬ g = z := fun e => a1 e.symm
                          by_cases a2 : z = f
                          · subst a2; simp [a1, a4]
                          · have a3 : ¬ f = z := fun e => a2 e.symm
                            simp [a1, a2, a3, a4]
                      have HO4 : Hid _ := hO3
                      clear hO1 hO3 RO2
                      have co := ro3.cell hgm
                      have fz := ro3.free g
                      have cl := CL2.out
                      have kw1 : IntKind.i64.wrap (O1 g - lk) = O1 g - lk := by rw [IntKind.wrap_i64]; omega
                      have ro4 := (ro3.set g (.int .i64 (O1 g - lk))).congr (g := fun z => .int .i64 (outF al fl (k3 + 1) z)) (fun z _ => by
                        rw [← HO4.out z]
                        by_cases e : z = g <;> simp [e])
                      have Tg := setCell_turns Wf bo g (.int .i64 (O1 g - lk))
                      have rb4 := RB2.out.turns Tg (by omega)
                      have t194 := (Tg.block _ (lt_of_block T192.out) nb.1).trans T192.out
                      have hB4 := (HB2.out.setCell (p := ⟨bo, g, none⟩) (by show Wb.heap.size ≤ bo; omega) (.int .i64 (O1 g - lk))).drew
                      have RO4 : Hid (RowV (Wf.setCell ⟨bo, g, none⟩ (.int .i64 (O1 g - lk))).drew bo 3 m (fun z => .int .i64 (outF al fl (k3 + 1) z))) := ro4
                      have RB4 : Hid (RowB (Wf.setCell ⟨bo, g, none⟩ (.int .i64 (O1 g - lk))).drew bi m S) := rb4
                      have T194 : Hid ((Wf.setCell ⟨bo, g, none⟩ (.int .i64 (O1 g - lk))).drew.heap[b19]? = some (.cells #[.int .i64 (f : Int), .int .i64 (g : Int), .int .i64 zc] 34 (0, 0))) := t194
                      have HB4 : Hid _ := hB4
                      clear ro4 rb4 t194 hB4 Tg ro3 CL2
                      go_upto_region 33 with (fail)
                      go_region
                      all_goals
                        generalize (Wf.setCell ⟨bo, g, none⟩ (.int .i64 (O1 g - lk))).drew = Wg at RO4 RB4 T194 HB4 ⊢
                        clear c19 c19b c19c co fz cl kw1
                        obtain ⟨c19, c19b, c19c⟩ := cell_three T194.out
                        have cif := RB4.out.cell hfm
                        have cig := RB4.out.cell hgm
                        have hc3 := HC3.out
                        cases hSf : S f
                        · rw [hSf] at cif hc3
                          have HC4 : Hid _ := hc3
                          clear hc3 hSf
                          go_wp2
                          go_roundw
                          case rel => exact ⟨k3 + 1, by omega, by go_num, by rw [HC4.out]; simp, RO4.out, RB4.out, HB4.out⟩
                          case measure => simp [numOf]; omega
                        · cases hSg : S g
                          · rw [hSf] at cif
                            rw [hSg] at cig
                            rw [hSf, hSg] at hc3
                            have HC4 : Hid _ := hc3
                            clear hc3 hSf hSg
                            go_wp2
                            go_roundw
                            case rel => exact ⟨k3 + 1, by omega, by go_num, by rw [HC4.out]; simp, RO4.out, RB4.out, HB4.out⟩
                            case measure => simp [numOf]; omega
                          · rw [hSf] at cif
                            rw [hSg] at cig
                            rw [hSf, hSg] at hc3
                            have HC4 : Hid _ := hc3
                            clear hc3 hSf hSg
                            go_wp2
                            go_roundw
                            case rel => exact ⟨k3 + 1, by omega, by go_num, by rw [HC4.out]; simp, RO4.out, RB4.out, HB4.out⟩
                            case measure => simp [numOf]; omega
                  · have j2 : ¬ (k3 : Int) < (al.length : Int) := by omega
                    have hke : k3 = al.length := by omega
                    have hcut : cutF al S k3 = x := by rw [hke]; exact HFI.out.cut.symm
                    have hbal : ∀ z, outF al fl k3 z = (if z = u then x else 0) - (if z = v then x else 0) := fun z => by rw [hke]; exact HFI.out.bal z
                    have hcS := HFI.out.ends
                    have HCT : Hid _ := hcut
                    have HBL : Hid _ := hbal
                    clear hcut hbal hke
                    rw [HCT.out]
                    generalize wr = Wc at hro hrb hBc ⊢
                    have HRO : Hid _ := hro
                    have HRB : Hid _ := hrb
                    clear hro hrb
                    go_wp2
                    go_loopw [6, 20] (fun _ i wr => ∃ k : Nat, k ≤ m ∧ i = .int .i64 (k : Int) ∧ Below Wc.heap.size Wc wr) (fun _ i _ => m - (numOf i).toNat)
                    case atStart => exact ⟨0, Nat.zero_le _, rfl, Below.refl _ _⟩
                    case round =>
                      obtain ⟨k4, hk4, rfl, hBf⟩ := hrel
                      have t3 := two_next (two_next w3 hBc) hBf
                      obtain ⟨p0, p1⟩ := cell_two t3
                      have roF := RowV.block HRO.out (hBf.block _ (RowV.lt HRO.out))
                      have rbF := RowB.block HRB.out (hBf.block _ (RowB.lt HRB.out))
                      by_cases hlt4 : k4 < m
                      · have co := roF.cell hlt4
                        have hb4 := HBL.out k4
                        have j3 : (0 : Int) ≤ (k4 : Int) := by omega
                        have j4 : (k4 : Int) < (m : Int) := by omega
                        by_cases a1 : k4 = u
                        · subst a1
                          clear hb4
                          go_wp2
                          go_roundw
                          case rel => exact ⟨k4 + 1, by omega, by go_num, hBf⟩
                          case measure => simp [numOf]; omega
                        · have a1s : ¬ u = k4 := fun e => a1 e.symm
                          have a1i : ¬ (k4 : Int) = (u : Int) := by omega
                          have a1j : ¬ (u : Int) = (k4 : Int) := by omega
                          have k6 : ((k4 : Int) == (u : Int)) = false := by rw [beq_eq_false_iff_ne]; omega
                          have k6n : (k4 == u) = false := by rw [beq_eq_false_iff_ne]; exact a1
                          by_cases a2 : k4 = v
                          · subst a2
                            clear hb4
                            go_wp2
                            go_roundw
                            case rel => exact ⟨k4 + 1, by omega, by go_num, hBf⟩
                            case measure => simp [numOf]; omega
                          · have a2s : ¬ v = k4 := fun e => a2 e.symm
                            have a2i : ¬ (k4 : Int) = (v : Int) := by omega
                            have a2j : ¬ (v : Int) = (k4 : Int) := by omega
                            have k7 : ((k4 : Int) == (v : Int)) = false := by rw [beq_eq_false_iff_ne]; omega
                            have k7n : (k4 == v) = false := by rw [beq_eq_false_iff_ne]; exact a2
                            rw [if_neg a1, if_neg a2] at hb4
                            rw [hb4] at co
                            have kz : ((0 : Int) - 0) = 0 := rfl
                            rw [kz] at co
                            clear hb4 kz
                            go_wp2
                            go_roundw
                            case rel => exact ⟨k4 + 1, by omega, by go_num, hBf⟩
                            case measure => simp [numOf]; omega
                      · have j4 : ¬ (k4 : Int) < (m : Int) := by omega
                        have cou := roF.cell hu
                        have ciu := rbF.cell hu
                        have civ := rbF.cell hv
                        have hbu := HBL.out u
                        rw [if_pos rfl, if_neg huv, Int.sub_zero] at hbu
                        rw [hbu] at cou
                        rw [hcS.1] at ciu
                        rw [hcS.2] at civ
                        have j5 : (0 : Int) ≤ (u : Int) := by omega
                        have j6 : (u : Int) < (m : Int) := by omega
                        have j7 : (0 : Int) ≤ (v : Int) := by omega
                        have j8 : (v : Int) < (m : Int) := by omega
                        clear hbu hcS
                        go_wp2
                        go_ret
                        exact ⟨rfl, below_next (below_next hB7 hBc) hBf⟩
end Go.Proofs.Ytkakmaalmhofmaa
