/- Sort, of one number. The star of four nodes: what its parts are. Cover, of the star of four nodes. -/
import Derived.Test.YtenjkhgpfmfgmaaDoorProg
import Derived.Test.YtenjkhgpfmfgmaaDoorPairBase
import Derived.Test.YtenjkhgpfmfgmaaDoorMostW
import Derived.Test.YtenjkhgpfmfgmaaDoorSides
import Derived.Test.YtenjkhgpfmfgmaaDoorTutteM
import Derived.Test.YtenjkhgpfmfgmaaDoorSame
import Derived.Test.YtenjkhgpfmfgmaaDoorRefMatch
import Derived.Test.YtenjkhgpfmfgmaaDoorNearMk
namespace Go.Proofs.YtenjkhgpfmfgmaaDoor
open Go.RowKit Go.Maps
attribute [local go_sem ↓] Go.wp_at_zero Go.wp_at_succ
set_option maxHeartbeats 1000000 in
theorem ins1 {lo : Option Addr} {c : Nat} (w : World) : Calls Tryd.prog 65 #[.slice lo 1 c, .int .i64 0, .int .i64 1] w fun e w' => e = .returned (.tuple #[]) ∧ w' = w := by
  go_enter Tryd.func65, Tryd.ntmps65
  go_wp2
  go_loopw [6] (fun i wr => i = .int .i64 1 ∧ wr = w) (fun _ _ => 0)
  case atStart => exact ⟨rfl, rfl⟩
  case round =>
    obtain ⟨rfl, rfl⟩ := hrel
    go_wp2
    go_end0
    exact ⟨rfl, rfl⟩
set_option maxHeartbeats 1000000 in
theorem pdq1 {lo : Option Addr} {c : Nat} {l : Int} (w : World) : Calls Tryd.prog 46 #[.slice lo 1 c, .int .i64 0, .int .i64 1, .int .i64 l] w fun e w' => e = .returned (.tuple #[]) ∧ w' = w := by
  go_enter Tryd.func46, Tryd.ntmps46
  go_wp2
  go_loopw [1, 2, 3, 8, 9] (fun b c' d e f wr => b = .int .i64 0 ∧ c' = .int .i64 1 ∧ d = .int .i64 l ∧ e = .bool true ∧ f = .bool true ∧ wr = w) (fun _ _ _ _ _ _ => 0)
  case atStart => exact ⟨rfl, rfl, rfl, rfl, rfl, rfl⟩
  case round =>
    obtain ⟨rfl, rfl, rfl, rfl, rfl, rfl⟩ := hrel
    go_wp2_with (first | (go_at_call 65; refine (ins1 _).mono ?_; rintro e w1 ⟨rfl, rfl⟩) | go_in)
    refine bodyPost_ret (v := .tuple #[]) ?_ rfl ⟨rfl, rfl⟩
    simp [results, Tryd.results46, go_sem]
set_option maxHeartbeats 1000000 in
theorem len64one (w : World) : Calls Tryd.prog 75 #[.int .u64 1] w fun e w' => ∃ z, e = .returned (.int .i64 z) ∧ w' = w := by
  go_enter Tryd.func75, Tryd.ntmps75
  go_wp2
  go_ret
  exact ⟨_, rfl, rfl⟩
set_option maxHeartbeats 1000000 in
theorem lenOne (w : World) : Calls Tryd.prog 47 #[.int .u64 1] w fun e w' => ∃ z, e = .returned (.int .i64 z) ∧ w' = w := by
  go_enter Tryd.func47, Tryd.ntmps47
  go_wp2_with (first | (go_at_call 75; refine (len64one _).mono ?_; rintro e w1 ⟨z, rfl, rfl⟩) | go_in)
  go_ret
  exact ⟨_, rfl, rfl⟩
set_option maxHeartbeats 1000000 in
theorem sort1 {lo : Option Addr} {c : Nat} (w : World) : Calls Tryd.prog 33 #[.slice lo 1 c] w fun e w' => e = .returned (.tuple #[]) ∧ w' = w := by
  go_enter Tryd.func33, Tryd.ntmps33
  go_wp2_with (first
    | (go_at_call 47; refine (lenOne _).mono ?_; rintro e w1 ⟨z, rfl, rfl⟩)
    | (go_at_call 46; refine (pdq1 _).mono ?_; rintro e w1 ⟨rfl, rfl⟩)
    | go_in)
  go_end0
  exact ⟨rfl, rfl⟩
end Go.Proofs.YtenjkhgpfmfgmaaDoor

namespace Go.Proofs.YtenjkhgpfmfgmaaDoor
open Go.RowKit Go.Maps
attribute [local go_sem ↓] Go.wp_at_zero Go.wp_at_succ

def esS : List Pair := [(0, 1), (0, 2), (0, 3)]
theorem chk_star : chk (4 : Nat) esS = (0, 0) := by decide +kernel
theorem star_edge {a b : Nat} (h : Ef 4 esS a b) : (a = 0 ∧ (b = 1 ∨ b = 2 ∨ b = 3)) ∨ (b = 0 ∧ (a = 1 ∨ a = 2 ∨ a = 3)) := by
  have h3 := h.2.2
  unfold bothB hasB esS at h3
  simp at h3
  omega
theorem star_to {a : Nat} (h : a = 1 ∨ a = 2 ∨ a = 3) : Ef 4 esS a 0 := by
  rcases h with rfl | rfl | rfl <;> exact ⟨by omega, by omega, by decide⟩
theorem star_from {a : Nat} (h : a = 1 ∨ a = 2 ∨ a = 3) : Ef 4 esS 0 a := by
  rcases h with rfl | rfl | rfl <;> exact ⟨by omega, by omega, by decide⟩

section
variable {m : Nat → Option Nat} {evs : Nat → Nat → Bool} {Ods : Nat → Nat → Prop} {ks : Nat → Nat → Nat} {dB nB : Nat → Bool}

/-- Two of the outer nodes are lone. -/
theorem star_lone (hM : Mat 4 (Ef 4 esS) m) : ∃ r s, (r = 1 ∨ r = 2 ∨ r = 3) ∧ (s = 1 ∨ s = 2 ∨ s = 3) ∧ r ≠ s ∧ m r = none ∧ m s = none := by
  have key : ∀ a b, (a = 1 ∨ a = 2 ∨ a = 3) → m a = some b → m 0 = some a := fun a b ha hab => by
    rcases star_edge (hM.edge _ _ hab) with ⟨h1, _⟩ | ⟨h1, _⟩
    · omega
    · rw [h1] at hab; exact hM.sym _ _ hab
  have two : ∀ a b, (a = 1 ∨ a = 2 ∨ a = 3) → (b = 1 ∨ b = 2 ∨ b = 3) → a ≠ b → m a = none ∨ m b = none := fun a b ha hb hab => by
    cases e1 : m a with
    | none => exact Or.inl rfl
    | some x =>
      cases e2 : m b with
      | none => exact Or.inr rfl
      | some y =>
        have h1 := key a x ha e1
        have h2 := key b y hb e2
        rw [h1] at h2; cases h2
        exact absurd rfl hab
  rcases two 1 2 (by omega) (by omega) (by omega) with h1 | h1
  · rcases two 2 3 (by omega) (by omega) (by omega) with h2 | h2
    · exact ⟨1, 2, by omega, by omega, by omega, h1, h2⟩
    · exact ⟨1, 3, by omega, by omega, by omega, h1, h2⟩
  · rcases two 1 3 (by omega) (by omega) (by omega) with h2 | h2
    · exact ⟨2, 1, by omega, by omega, by omega, h1, h2⟩
    · exact ⟨2, 3, by omega, by omega, by omega, h1, h2⟩

theorem star_kinds (hM : Mat 4 (Ef 4 esS) m) (h : Knd 4 4 (Ef 4 esS) m evs Ods ks dB nB) : (dB 0 = false ∧ nB 0 = true) ∧ ∀ a, (a = 1 ∨ a = 2 ∨ a = 3) → dB a = true := by
  have hnb := nbs_of (N := 4) (es := esS) (by intro e he; simp [esS] at he; rcases he with rfl | rfl | rfl <;> simp) (by simp [esS])
  obtain ⟨r, s, hr, hs, hrs, hmr, hms⟩ := star_lone hM
  have ht := h.gal.trap r (by omega) hmr
  have hk : ∀ z, evs r z = true → m z = none → ks r z = z := fun z hz hm => by
    by_cases e : ks r z = z
    · exact e
    · obtain ⟨x, hx, _⟩ := ht.inn z hz e
      rw [hm] at hx; cases hx
  have hod : Ods r 0 := by
    rcases ht.nb r 0 ht.root (star_to hr) with ⟨h1, h2⟩ | h1
    · exfalso
      rw [hk r ht.root hmr] at h2
      rcases ht.nb 0 s h1 (star_from hs) with ⟨h3, h4⟩ | h3
      · rw [hk s h3 hms, h2] at h4
        exact hrs h4.symm
      · obtain ⟨y, hy, _⟩ := ht.odd s h3
        rw [hms] at hy; cases hy
    · exact h1
  have hA := h.gal.odd_a hM hnb.sym (by omega) hmr hod
  have h0 := (h.inA 0).2 hA
  simp only [Bool.and_eq_true, Bool.not_eq_true'] at h0
  refine ⟨h0, fun a ha => ?_⟩
  obtain ⟨z, hz, hzD⟩ := h.gal.mateA hA
  cases hma : m a with
  | none => exact (h.d a).2 (h.gal.lone (by omega) hma)
  | some b =>
    have : m 0 = some a := by
      rcases star_edge (hM.edge _ _ hma) with ⟨h1, _⟩ | ⟨h1, _⟩
      · omega
      · rw [h1] at hma; exact hM.sym _ _ hma
    rw [hz] at this; cases this
    exact (h.d _).2 hzD

theorem star_lists (hM : Mat 4 (Ef 4 esS) m) (h : Knd 4 4 (Ef 4 esS) m evs Ods ks dB nB) : (listN 4 fun x => !dB x && nB x) = [0] ∧ (listN 4 fun x => !dB x && !nB x) = [] ∧ (prs m 4).length = 1 := by
  obtain ⟨⟨h0, h1⟩, h2⟩ := star_kinds hM h
  have d1 := h2 1 (by omega)
  have d2 := h2 2 (by omega)
  have d3 := h2 3 (by omega)
  have e1 : (listN 4 fun x => !dB x && nB x) = [0] := by simp [listN, List.range_succ, h0, h1, d1, d2, d3]
  refine ⟨e1, by simp [listN, List.range_succ, h0, h1, d1, d2, d3], ?_⟩
  obtain ⟨y, hy, _⟩ := h.gal.mateA ((h.inA 0).1 (by simp [h0, h1]))
  have hy' : y = 1 ∨ y = 2 ∨ y = 3 := by
    rcases star_edge (hM.edge _ _ hy) with ⟨_, h3⟩ | ⟨_, h3⟩ <;> omega
  have no : ∀ a, (a = 1 ∨ a = 2 ∨ a = 3) → upB m a = false := fun a ha => by
    unfold upB
    cases hma : m a with
    | none => rfl
    | some b =>
      rcases star_edge (hM.edge _ _ hma) with ⟨h3, _⟩ | ⟨h3, _⟩
      · omega
      · simp [h3]
  have yes : upB m 0 = true := by
    unfold upB
    rw [hy]
    simp; omega
  have n1 := no 1 (by omega)
  have n2 := no 2 (by omega)
  have n3 := no 3 (by omega)
  simp [prs, List.range_succ, yes, n1, n2, n3]
end
end Go.Proofs.YtenjkhgpfmfgmaaDoor

namespace Go.Proofs.YtenjkhgpfmfgmaaDoor
open Go.RowKit Go.Maps
attribute [local go_sem ↓] Go.wp_at_zero Go.wp_at_succ

theorem star_far {R : Nat → Nat → Bool} {far : Nat → Nat} (hR : ∀ v x, R v x = true ↔ Star (St 4 (pn (hasB esS)) allB) v x) (h : FarAll 4 (pn (hasB esS)) R far 4) {a b : Nat} (hab : pn (hasB esS) a b = true) (ha : a < 4) (hb : b < 4) : far a ≠ far b := by
  obtain ⟨o, ho, hx⟩ := h 0 (by omega) (by simp [firstB, allB])
  have h0 := hx 0 (by omega) ((hR 0 0).2 (.refl _))
  have key : ∀ i, (i = 1 ∨ i = 2 ∨ i = 3) → far i ≠ 0 := fun i hi e => by
    have h1 := hx i (by omega) ((hR 0 i).2 (.one ⟨by omega, (star_from hi).2.2, rfl⟩))
    rw [e] at h1
    rcases ho.par i 0 (by omega) h1 with ⟨h2, _⟩ | ⟨_, _, _, _, _, h2⟩
    · omega
    · omega
  have hz : far 0 = 0 := by
    rw [ho.base] at h0
    have h1 := Option.some.inj h0
    omega
  rcases star_edge (a := a) (b := b) ⟨ha, hb, hab⟩ with ⟨h1, h2⟩ | ⟨h1, h2⟩
  · rw [h1, hz]; exact fun e => key b h2 e.symm
  · rw [h1, hz]; exact key a h2

set_option maxRecDepth 4000 in
set_option maxHeartbeats 8000000 in
theorem cover_star {w : World} {vo : Option Addr} {vc : Nat} (hE : EdgesAt w (.slice vo 3 vc) esS) :
    Calls Tryd.prog 19 #[.agg #[.int .i64 4, .slice vo 3 vc]] w fun r w' => ∃ po pc co cc, r = .returned (.tuple #[.slice po 1 pc, .slice co 1 cc, .agg #[.int .i64 0, .int .i64 0]]) ∧ IntsAt w' (.slice co 1 cc) [0] ∧ Below w.heap.size w w' := by
  obtain ⟨R, hR⟩ := ex2 (Star (St 4 (pn (hasB esS)) allB))
  have hsd := sides_ok 4 vo vc esS _ (hE.below (below2 (w := w) (Obj.cells #[.int .i64 4, .slice vo 3 vc] 24) (Obj.cells #[.int .i64 0, .int .i64 0] 27))) (by rw [chk_star]) R hR
  have HSD : Hid _ := hsd
  have HE : Hid _ := hE
  have HR : Hid _ := hR
  clear hsd hE hR
  go_enter Tryd.func19, Tryd.ntmps19
  go_upto_region 2 with (go_at_call 32; refine Calls.mono HSD.out ?_; rintro e w1 ⟨v1, v2, far, rfl, hs, hb⟩; have t4' := two_next (two_new1 w (Obj.cells #[.int .i64 4, .slice vo 3 vc] 24) (.int .i64 0) (.int .i64 0) 27) hb; obtain ⟨y1, y2⟩ := cell_two t4'; have f1 := free_two t4' 0; have f2 := free_two t4' 1)
  obtain ⟨hfar, hs⟩ := hs
  have hv2 : v2 = .slice none 0 0 := by
    rcases hs with ⟨h1, _⟩ | ⟨_, _, a, b, ha, hb', hab, he⟩
    · exact h1
    · exact absurd he (star_far HR.out hfar hab ha hb')
  subst hv2
  have t4 := two_setN (x' := .int .i64 0) (y' := .int .i64 0) t4'
  have t1 : Two ((w1.setCell ⟨w.heap.size + 1, 0, none⟩ (.int .i64 0)).setCell ⟨w.heap.size + 1, 1, none⟩ (.int .i64 0)) w.heap.size (.int .i64 4) (.slice vo 3 vc) 24 := two_far (two_far (two_next (two_alloc (two_new w _ _ _) _) hb) (by omega)) (by omega)
  have hB := ((below_next (below2 (w := w) (Obj.cells #[.int .i64 4, .slice vo 3 vc] 24) (Obj.cells #[.int .i64 0, .int .i64 0] 27)) hb).setCell (p := ⟨w.heap.size + 1, 0, none⟩) (by simp) (.int .i64 0)).setCell (p := ⟨w.heap.size + 1, 1, none⟩) (by simp) (.int .i64 0)
  clear hs hfar hb t4' y1 y2 f1 f2 HSD
  generalize (w1.setCell ⟨w.heap.size + 1, 0, none⟩ (.int .i64 0)).setCell ⟨w.heap.size + 1, 1, none⟩ (.int .i64 0) = W at t1 t4 hB ⊢
  obtain ⟨x1, x2⟩ := cell_two t1
  obtain ⟨y1, y2⟩ := cell_two t4
  have hl4 := lt_of_block t4
  have hgood : ∀ e ∈ esS, (0 ≤ e.1 ∧ e.1 < ((4 : Nat) : Int) ∧ 0 ≤ e.2 ∧ e.2 < ((4 : Nat) : Int)) ∧ e.1 ≠ e.2 := by intro e he; simp [esS] at he; rcases he with rfl | rfl | rfl <;> simp
  have HPU : Hid _ := pairUp_call (N := 4) vo vc esS W (EdgesAt.below HE.out hB) (by omega) (by simp [esS]) hgood
  go_upto_region 7 with (go_at_call 27; refine Calls.mono HPU.out ?_; rintro e W2 ⟨bp, rfl, hbp, hB2, g, bm, m, hpb, hnm, hmat, htr⟩)
  have HSP : Hid _ := split_call hpb (by omega) hmat (nbs_of hgood (by simp [esS])) htr
  have t42 := two_next t4 hB2
  have hBW := below_next hB hB2
  have HM : Hid _ := hmat
  clear hpb hnm hmat htr t1 t4 x1 x2 y1 y2 hB
  go_upto_region 8 with (go_at_call 28; refine Calls.mono HSP.out ?_; rintro e W3 ⟨dv, av, cv, rfl, hpb3, hT3, evs, Ods, ks, dB, nB, hkn, hod, hoa, hoc⟩)
  obtain ⟨l1, l2, l3⟩ := star_lists HM.out hkn
  rw [l1] at hoa
  rw [l2] at hoc
  obtain ⟨so, sc, rfl⟩ := form_row hoa
  obtain ⟨co, cc, rfl⟩ := form_row hoc
  have HPR : Hid _ := pairs_call hpb3 (by omega)
  have t43 : Two W3 (w.heap.size + 1) (.int .i64 0) (.int .i64 0) 27 := two_turns t42 hT3 (fun (e : w.heap.size + 1 = bp) => by omega)
  have hB3 : Below w.heap.size w W3 := hT3.below hBW hBW.size (fun k e => by omega)
  have HOA : Hid _ := hoa
  have hle3 := hB2.size
  have hz4 := lt_of_block t42
  have HL3 : Hid _ := l3
  clear hpb3 hkn hod hoa hoc hT3 t42 hBW l1 l2 l3
  go_wp2
  go_loopw [3, 38] (fun s3 i wr => s3 = .slice so 1 sc ∧ i = .int .i64 0 ∧ wr = W3) (fun _ _ _ => 0)
  case atStart => exact ⟨rfl, rfl, rfl⟩
  case round =>
    obtain ⟨rfl, rfl, hwr⟩ := hrel
    have hwr' := hwr.symm
    subst hwr'
    go_wp2_with (first
      | (go_at_call 33; refine (sort1 _).mono ?_; rintro e W4 ⟨rfl, rfl⟩)
      | (go_at_call 29; refine Calls.mono HPR.out ?_; rintro e W5 ⟨pv, rfl, hop, hB5⟩; have t44 := two_next t43 hB5; obtain ⟨y1, y2⟩ := cell_two t44; have f1 := free_two t44 0; have f2 := free_two t44 1)
      | go_in)
    have HX := two_setN (x' := .int .i64 0) (y' := .int .i64 0) t44
    obtain ⟨q1, q2⟩ := cell_two HX
    obtain ⟨po, pc, rfl⟩ := form_row hop
    have hB6 := ((below_next hB3 hB5).setCell (p := ⟨w.heap.size + 1, 0, none⟩) (by simp) (.int .i64 0)).setCell (p := ⟨w.heap.size + 1, 1, none⟩) (by simp) (.int .i64 0)
    have hne : ∀ k, k ≠ w.heap.size + 1 → ((W5.setCell ⟨w.heap.size + 1, 0, none⟩ (.int .i64 0)).setCell ⟨w.heap.size + 1, 1, none⟩ (.int .i64 0)).heap[k]? = W5.heap[k]? := fun k hk => by
      rw [Below.heap_setCell _ _ _ _ hk, Below.heap_setCell _ _ _ _ hk]
    have ho6 := ownsRow_blocks HOA.out (fun k hk => (hne k (by have := (World.ownsRow.lt HOA.out k hk).1; omega)).trans (hB5.block k (World.ownsRow.lt HOA.out k hk).2))
    rw [HL3.out]
    refine bodyPost_ret (v := .tuple #[.slice po 1 pc, .slice so 1 sc, .agg #[.int .i64 0, .int .i64 0]]) ?_ rfl ?_
    · generalize (W5.setCell ⟨w.heap.size + 1, 0, none⟩ (.int .i64 0)).setCell ⟨w.heap.size + 1, 1, none⟩ (.int .i64 0) = W6 at q1 q2 ⊢
      simp [results, Tryd.results19, go_sem, q1, q2]
    · exact ⟨po, pc, so, sc, rfl, intsAt_row (l := [0]) (by simpa [qv] using ho6) (by intro x hx; simp at hx; subst hx; constructor <;> omega) (by simp), hB6⟩
end Go.Proofs.YtenjkhgpfmfgmaaDoor
