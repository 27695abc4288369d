/- slices.Grow of nothing, slices.Concat of two rows of numbers. -/
import Derived.Lib.AppendZeros
import Derived.Deep.AppendLies
import Derived.Test.YtkbgcbbloogdjacPairs0
import Derived.Test.YtkbgcbbloogdjacPostman
namespace Go.Proofs.Ytkbgcbbloogdjac
open Go.RowKit Go.Maps
attribute [local go_sem ↓] Go.wp_at_zero Go.wp_at_succ

/-- From an address on lie the numbers of L. -/
def SrcAt (w : World) (o : Option Addr) (L : List Nat) : Prop := ∀ j u : Nat, L[j]? = some u → ∃ ad, o = some ad ∧ w.cell? (ad.add j) = some (.int .i64 (u : Int))
theorem SrcAt.below {w w' : World} {o : Option Addr} {L : List Nat} (h : SrcAt w o L) (hb : Below w.heap.size w w') : SrcAt w' o L := fun j u hu => by
  obtain ⟨ad, h1, h2⟩ := h j u hu
  exact ⟨ad, h1, (hb.cell (by exact World.block_lt_of_cell? w _ h2)).trans h2⟩
theorem SrcAt.some {w : World} {o : Option Addr} {L : List Nat} (h : SrcAt w o L) (hL : 0 < L.length) : ∃ ad, o = some ad ∧ ∀ j v, (qv L)[j]? = some v → w.cell? (ad.add j) = some v := by
  obtain ⟨ad, h1, _⟩ := h 0 (L[0]) (List.getElem?_eq_getElem hL)
  refine ⟨ad, h1, fun j v hv => ?_⟩
  unfold qv at hv
  rw [List.getElem?_map] at hv
  cases hu : L[j]? with
  | none => rw [hu] at hv; cases hv
  | some u =>
    rw [hu] at hv
    obtain ⟨ad', h2, h3⟩ := h j u hu
    rw [h1] at h2
    cases h2
    simp at hv
    rw [h3, ← hv]
theorem qv_one (L : List Nat) : ∀ u ∈ qv L, u.oneCell' = true := fun u hu => by
  unfold qv at hu
  obtain ⟨x, _, rfl⟩ := List.mem_map.1 hu
  rfl
theorem qv_len (L : List Nat) : (qv L).length = L.length := by unfold qv; simp
theorem qv_app (A B : List Nat) : qv (A ++ B) = qv A ++ qv B := by unfold qv; simp

theorem run_appendE (w : World) (o : Option Addr) (n c : Nat) (ao : Option Addr) (cap : Nat) (ty : TypeId) (h : n ≤ c) : (Builtin.append_ #[29, 29] ty #[.slice o n c, .slice ao 0 cap]).run Try.prog w = .ok (.slice o n c) w := by
  cases ao with
  | none => cases o <;> simp [Builtin.append_, go_sem, h]
  | some a => cases o <;> simp [Builtin.append_, go_sem, h]

set_option maxHeartbeats 1000000 in
theorem grow_call (w : World) {n : Nat} (h0 : 0 < n) (hn : n ≤ 100000) : Calls Try.prog 87 #[.slice none 0 0, .int .i64 (n : Int)] w fun r w' => ∃ c, r = .returned (.slice (some ⟨w.heap.size, 0, none⟩) 0 c) ∧ w'.ownsRow w.heap.size 3 1 (.slice (some ⟨w.heap.size, 0, none⟩) 0 c) 0 [] ∧ Below w.heap.size w w' := by
  obtain ⟨i3, hi3, hy0, hy1, hy2⟩ := info_parts Try.info3
  have hrun := fun (ty : TypeId) => Lib.run_append_nil_zeros (P := Try.prog) w 29 3 ty 3 i3 (.int .i64 0) .i64 .i64 Try.underlying29 Try.underlying3 hi3 hy0 n h0 (by rw [hy1]; omega) (by omega) (by rw [hy2]; omega)
  have hge := grownCap_ge w n 0 3
  have hle := grownCap_le_maxLen w n 0 3 (by unfold maxLen; omega)
  obtain ⟨c, hc⟩ : ∃ c, c = grownCap w n 0 3 := ⟨_, rfl⟩
  rw [← hc] at hge hle
  simp only [← hc] at hrun
  have hsz : (Builtin.zeroCells (Value.int .i64 0).cells n ++ Builtin.zeroCells (Value.int .i64 0).cells (c - n)).size = c := by
    rw [Array.size_append, size_zeroCells, size_zeroCells]
    show n * 1 + (c - n) * 1 = c
    omega
  generalize Builtin.zeroCells (Value.int .i64 0).cells n ++ Builtin.zeroCells (Value.int .i64 0).cells (c - n) = cur at hrun hsz
  have HR : Hid _ := hrun
  have i1 : (0 : Int) < (n : Int) := by omega
  have i2 : ¬ (n : Int) < 0 := by omega
  clear hrun hc
  go_enter Try.func87, Try.ntmps87
  go_wp2_with (first
    | (at_builtin; refine Lib.wpList_append_run _ rfl _ _ _ _ rfl _ _ rfl rfl _ _ (HR.out _) ?_)
    | go_in)
  go_ret
  refine ⟨c, rfl, ⟨rfl, Or.inr ⟨w.heap.size, c, cur, rfl, Nat.le_refl _, ?_, Nat.zero_le _, hle, by omega, by simp⟩⟩, ?_⟩
  · exact heap_alloc_new w.drew _
  · exact below_alloc (Below.refl _ w).drew _

set_option maxRecDepth 4000 in
set_option maxHeartbeats 4000000 in
/-- slices.Concat of two rows. -/
theorem concat_call {w : World} {b : Nat} {o1 o2 : Option Addr} {c1 c2 : Nat} {A B : List Nat} (h1 : w.cell? ⟨b, 0, none⟩ = some (.slice o1 A.length c1)) (h2 : w.cell? ⟨b, 1, none⟩ = some (.slice o2 B.length c2)) (hA : SrcAt w o1 A) (hB : SrcAt w o2 B) (la : A.length ≤ 1000) (lb : B.length ≤ 1000) :
    Calls Try.prog 65 #[.slice (some ⟨b, 0, none⟩) 2 2] w fun r w' => ∃ v, r = .returned v ∧ w'.ownsRow w.heap.size 3 1 v (A ++ B).length (qv (A ++ B)) ∧ Below w.heap.size w w' := by
  obtain ⟨i3, hi3, hy0, hy1, hy2⟩ := info_parts Try.info3
  have HA : Hid _ := hA
  have HB : Hid _ := hB
  have hlt := World.block_lt_of_cell? w _ h1
  clear hA hB
  obtain ⟨T, hT⟩ : ∃ T, T = A.length + B.length := ⟨_, rfl⟩
  have hT1 : T ≤ 2000 := by omega
  have HT : Hid _ := hT
  have hgrow : Calls Try.prog 87 #[.slice none 0 0, .int .i64 (T : Int)] w fun r w' => ∃ v, r = .returned v ∧ w'.ownsRow w.heap.size 3 1 v 0 [] ∧ Below w.heap.size w w' := by
    by_cases h0 : 0 < T
    · refine (grow_call w h0 (by omega)).mono ?_
      rintro r w' ⟨c, h3, h4, h5⟩
      exact ⟨_, h3, h4, h5⟩
    · have e : T = 0 := by omega
      rw [e]
      refine (grow0_call w).mono ?_
      rintro r w' ⟨h3, rfl⟩
      exact ⟨_, h3, World.ownsRow_nil _ _ _ _, Below.refl _ _⟩
  have HGR : Hid _ := hgrow
  clear hgrow
  have z1 : ¬ (A.length : Int) < 0 := by omega
  have z2 : ¬ (T : Int) < 0 := by omega
  have z3 : (A.length : Int) + (B.length : Int) = (T : Int) := by omega
  clear hT
  go_enter Try.func65, Try.ntmps65
  go_wp2
  go_loopw [3, 11] (fun s i wr => ((i = .int .i64 0 ∧ s = .int .i64 0) ∨ (i = .int .i64 1 ∧ s = .int .i64 (A.length : Int)) ∨ (i = .int .i64 2 ∧ s = .int .i64 (T : Int))) ∧ wr = w) (fun _ i _ => 2 - (numOf i).toNat)
  case atStart => exact ⟨Or.inl ⟨rfl, rfl⟩, rfl⟩
  case round =>
    obtain ⟨hc, hw⟩ := hrel
    have hw' := hw.symm
    subst hw'
    clear hw
    rcases hc with ⟨rfl, rfl⟩ | ⟨rfl, rfl⟩ | ⟨rfl, rfl⟩
    · go_wp2
      go_roundw
      case rel => exact ⟨Or.inr (Or.inl ⟨rfl, by simp⟩), trivial⟩
      case measure => simp [numOf]
    · go_wp2
      go_roundw
      case rel => exact ⟨Or.inr (Or.inr ⟨rfl, by first | rfl | (rw [z3])⟩), trivial⟩
      case measure => simp [numOf]
    · go_upto_region 10 with (first
        | (go_at_call 87; refine Calls.mono HGR.out ?_; rintro r wa ⟨v, rfl, hown, hbA⟩)
        | go_in)
      have HAA : Hid _ := SrcAt.below HA.out hbA
      go_wp2
      go_loopw [6, 27] (fun s i wq => ∃ L : List Nat, ((i = .int .i64 0 ∧ L = []) ∨ (i = .int .i64 1 ∧ L = A) ∨ (i = .int .i64 2 ∧ L = A ++ B)) ∧ wq.ownsRow w.heap.size 3 1 s L.length (qv L) ∧ Below w.heap.size w wq) (fun _ i _ => 2 - (numOf i).toNat)
      case atStart => exact ⟨[], Or.inl ⟨rfl, rfl⟩, by simpa [qv] using hown, hbA⟩
      case round =>
        clear hown hbA HAA
        obtain ⟨L, hc, hown, hB⟩ := hrel
        obtain ⟨vo, vc, rfl⟩ := form_row hown
        have h1q := (hB.cell (by exact World.block_lt_of_cell? w _ h1)).trans h1
        have h2q := (hB.cell (by exact World.block_lt_of_cell? w _ h2)).trans h2
        rcases hc with ⟨rfl, rfl⟩ | ⟨rfl, rfl⟩ | ⟨rfl, rfl⟩
        · have hown0 : wr.ownsRow w.heap.size 3 1 (.slice vo 0 vc) 0 [] := by simpa [qv] using hown
          by_cases h0 : 0 < A.length
          · obtain ⟨ad, rfl, hnews⟩ := SrcAt.some (SrcAt.below HA.out hB) h0
            go_wp2_with (first
              | (at_builtin; refine wpList_append_lies _ rfl _ _ 29 rfl w.heap.size 3 i3 (.int .i64 0) 1 8 Try.underlying29 hi3 hy0 hy1 hy2 rfl (by decide) (.slice vo 0 vc) 0 [] rfl hown0 ad A.length c1 (qv A) rfl (by rw [qv_len, Nat.mul_one]) hnews (qv_one A) h0 (by unfold maxLen; omega) (by omega) hB.size wr.heap.size rfl ?_; intro g1 c3 w1 hown1 hgr1 hat1 hlt1)
              | go_in)
            have T1 := Turns.of_grown hgr1
            have hB3 := T1.below hB hB.size (fun j hj => (hown.lt j hj.symm).1)
            go_roundw
            case rel => exact ⟨A, Or.inr (Or.inl ⟨rfl, rfl⟩), by simpa [qv_app, qv] using hown1, hB3⟩
            case measure => simp [numOf]
          · have he : A = [] := by
              cases hh : A with
              | nil => rfl
              | cons a l => rw [hh] at h0; simp at h0
            have HS0 : Hid _ := he
            have z0 : A.length = 0 := by omega
            rw [z0] at h1q
            have hcap := own_cap hown
            have hrun := fun (ty : TypeId) => run_appendE wr vo 0 vc o1 c1 ty hcap
            have HRN : Hid _ := hrun
            clear hrun he z0 h0
            go_wp2_with (first
              | (at_builtin; refine Lib.wpList_append_run _ rfl _ _ _ _ rfl _ _ rfl rfl _ _ (HRN.out _) ?_)
              | go_in)
            go_roundw
            case rel => exact ⟨A, Or.inr (Or.inl ⟨rfl, rfl⟩), by rw [HS0.out]; simpa using hown, hB⟩
            case measure => simp [numOf]
        · by_cases h0 : 0 < B.length
          · obtain ⟨ad, rfl, hnews⟩ := SrcAt.some (SrcAt.below HB.out hB) h0
            go_wp2_with (first
              | (at_builtin; refine wpList_append_lies _ rfl _ _ 29 rfl w.heap.size 3 i3 (.int .i64 0) 1 8 Try.underlying29 hi3 hy0 hy1 hy2 rfl (by decide) (.slice vo L.length vc) L.length (qv L) rfl hown ad B.length c2 (qv B) rfl (by rw [qv_len, Nat.mul_one]) hnews (qv_one B) h0 (by unfold maxLen; omega) (by omega) hB.size wr.heap.size rfl ?_; intro g1 c3 w1 hown1 hgr1 hat1 hlt1)
              | go_in)
            have T1 := Turns.of_grown hgr1
            have hB3 := T1.below hB hB.size (fun j hj => (hown.lt j hj.symm).1)
            go_roundw
            case rel => exact ⟨L ++ B, Or.inr (Or.inr ⟨rfl, rfl⟩), by simpa [qv_app, qv] using hown1, hB3⟩
            case measure => simp [numOf]
          · have he : B = [] := by
              cases hh : B with
              | nil => rfl
              | cons a l => rw [hh] at h0; simp at h0
            have HS0 : Hid _ := he
            have z0 : B.length = 0 := by omega
            rw [z0] at h2q
            have hcap := own_cap hown
            have hrun := fun (ty : TypeId) => run_appendE wr vo L.length vc o2 c2 ty hcap
            have HRN : Hid _ := hrun
            clear hrun he z0 h0
            go_wp2_with (first
              | (at_builtin; refine Lib.wpList_append_run _ rfl _ _ _ _ rfl _ _ rfl rfl _ _ (HRN.out _) ?_)
              | go_in)
            go_roundw
            case rel => exact ⟨L ++ B, Or.inr (Or.inr ⟨rfl, rfl⟩), by rw [HS0.out]; simpa using hown, hB⟩
            case measure => simp [numOf]
        · go_wp2
          go_ret
          exact ⟨_, rfl, hown, hB⟩
end Go.Proofs.Ytkbgcbbloogdjac
