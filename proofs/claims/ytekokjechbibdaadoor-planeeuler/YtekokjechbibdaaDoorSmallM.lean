/- slices.Grow of nothing, slices.Concat of two rows of numbers. slices.Clone of a row of numbers. slices.Reverse of a row of numbers. slices.Index of a row of numbers: the first place, or -1. goBack: the way back to where a search began. sort.Search. -/
import Derived.Lib.AppendZeros
import Derived.Deep.AppendLies
import Derived.Test.YtekokjechbibdaaDoorNearM
namespace Go.Proofs.YtekokjechbibdaaDoor
open Go.RowKit Go.Maps
attribute [local go_sem ↓] Go.wp_at_zero Go.wp_at_succ

/-- From an address on lie the numbers of L. -/
def SrcAt (w : World) (o : Option Addr) (L : List Nat) : Prop := ∀ j u : Nat, L[j]? = some u → ∃ ad, o = some ad ∧ w.cell? (ad.add j) = some (.int .i64 (u : Int))
theorem SrcAt.below {w w' : World} {o : Option Addr} {L : List Nat} (h : SrcAt w o L) (hb : Below w.heap.size w w') : SrcAt w' o L := fun j u hu => by
  obtain ⟨ad, h1, h2⟩ := h j u hu
  exact ⟨ad, h1, (hb.cell (by exact World.block_lt_of_cell? w _ h2)).trans h2⟩
theorem SrcAt.some {w : World} {o : Option Addr} {L : List Nat} (h : SrcAt w o L) (hL : 0 < L.length) : ∃ ad, o = some ad ∧ ∀ j v, (qv L)[j]? = some v → w.cell? (ad.add j) = some v := by
  obtain ⟨ad, h1, _⟩ := h 0 (L[0]) (List.getElem?_eq_getElem hL)
  refine ⟨ad, h1, fun j v hv => ?_⟩
  unfold qv at hv
  rw [List.getElem?_map] at hv
  cases hu : L[j]? with
  | none => rw [hu] at hv; cases hv
  | some u =>
    rw [hu] at hv
    obtain ⟨ad', h2, h3⟩ := h j u hu
    rw [h1] at h2
    cases h2
    simp at hv
    rw [h3, ← hv]
theorem qv_one (L : List Nat) : ∀ u ∈ qv L, u.oneCell' = true := fun u hu => by
  unfold qv at hu
  obtain ⟨x, _, rfl⟩ := List.mem_map.1 hu
  rfl
theorem qv_len (L : List Nat) : (qv L).length = L.length := by unfold qv; simp
theorem qv_app (A B : List Nat) : qv (A ++ B) = qv A ++ qv B := by unfold qv; simp

theorem run_appendE (w : World) (o : Option Addr) (n c : Nat) (ao : Option Addr) (cap : Nat) (ty : TypeId) (h : n ≤ c) : (Builtin.append_ #[61, 61] ty #[.slice o n c, .slice ao 0 cap]).run Tryd.prog w = .ok (.slice o n c) w := by
  cases ao with
  | none => cases o <;> simp [Builtin.append_, go_sem, h]
  | some a => cases o <;> simp [Builtin.append_, go_sem, h]

theorem own_cap {w : World} {base : Nat} {t : TypeId} {sz : Nat} {o : Option Addr} {n m c : Nat} {xs : List Value} (h : w.ownsRow base t sz (.slice o n c) m xs) : m ≤ c := by
  rcases h.2 with ⟨h1, e⟩ | ⟨g, c', cur, e, _, _, h3, _⟩
  · omega
  · cases e; exact h3
theorem grow0_call (w : World) : Calls Tryd.prog 81 #[.slice none 0 0, .int .i64 0] w fun r w' => r = .returned (.slice none 0 0) ∧ w' = w := by
  go_enter Tryd.func81, Tryd.ntmps81
  go_wp2
  go_ret
  exact ⟨rfl, rfl⟩
set_option maxHeartbeats 1000000 in
theorem growN_call (w : World) {n : Nat} (h0 : 0 < n) (hn : n ≤ 100000) : Calls Tryd.prog 81 #[.slice none 0 0, .int .i64 (n : Int)] w fun r w' => ∃ c, r = .returned (.slice (some ⟨w.heap.size, 0, none⟩) 0 c) ∧ w'.ownsRow w.heap.size 3 1 (.slice (some ⟨w.heap.size, 0, none⟩) 0 c) 0 [] ∧ Below w.heap.size w w' := by
  obtain ⟨i3, hi3, hy0, hy1, hy2⟩ := info_parts Tryd.info3
  have hrun := fun (ty : TypeId) => Lib.run_append_nil_zeros (P := Tryd.prog) w 61 3 ty 3 i3 (.int .i64 0) .i64 .i64 Tryd.underlying61 Tryd.underlying3 hi3 hy0 n h0 (by rw [hy1]; omega) (by omega) (by rw [hy2]; omega)
  have hge := grownCap_ge w n 0 3
  have hle := grownCap_le_maxLen w n 0 3 (by unfold maxLen; omega)
  obtain ⟨c, hc⟩ : ∃ c, c = grownCap w n 0 3 := ⟨_, rfl⟩
  rw [← hc] at hge hle
  simp only [← hc] at hrun
  have hsz : (Builtin.zeroCells (Value.int .i64 0).cells n ++ Builtin.zeroCells (Value.int .i64 0).cells (c - n)).size = c := by
    rw [Array.size_append, size_zeroCells, size_zeroCells]
    show n * 1 + (c - n) * 1 = c
    omega
  generalize Builtin.zeroCells (Value.int .i64 0).cells n ++ Builtin.zeroCells (Value.int .i64 0).cells (c - n) = cur at hrun hsz
  have HR : Hid _ := hrun
  have i1 : (0 : Int) < (n : Int) := by omega
  have i2 : ¬ (n : Int) < 0 := by omega
  clear hrun hc
  go_enter Tryd.func81, Tryd.ntmps81
  go_wp2_with (first
    | (at_builtin; refine Lib.wpList_append_run _ rfl _ _ _ _ rfl _ _ rfl rfl _ _ (HR.out _) ?_)
    | go_in)
  go_ret
  refine ⟨c, rfl, ⟨rfl, Or.inr ⟨w.heap.size, c, cur, rfl, Nat.le_refl _, ?_, Nat.zero_le _, hle, by omega, by simp⟩⟩, ?_⟩
  · exact heap_alloc_new w.drew _
  · exact below_alloc (Below.refl _ w).drew _

set_option maxRecDepth 4000 in
set_option maxHeartbeats 4000000 in
/-- slices.Concat of two rows. -/
theorem concat_call {w : World} {b : Nat} {o1 o2 : Option Addr} {c1 c2 : Nat} {A B : List Nat} (h1 : w.cell? ⟨b, 0, none⟩ = some (.slice o1 A.length c1)) (h2 : w.cell? ⟨b, 1, none⟩ = some (.slice o2 B.length c2)) (hA : SrcAt w o1 A) (hB : SrcAt w o2 B) (la : A.length ≤ 1000) (lb : B.length ≤ 1000) :
    Calls Tryd.prog 80 #[.slice (some ⟨b, 0, none⟩) 2 2] w fun r w' => ∃ v, r = .returned v ∧ w'.ownsRow w.heap.size 3 1 v (A ++ B).length (qv (A ++ B)) ∧ Below w.heap.size w w' := by
  obtain ⟨i3, hi3, hy0, hy1, hy2⟩ := info_parts Tryd.info3
  have HA : Hid _ := hA
  have HB : Hid _ := hB
  have hlt := World.block_lt_of_cell? w _ h1
  clear hA hB
  obtain ⟨T, hT⟩ : ∃ T, T = A.length + B.length := ⟨_, rfl⟩
  have hT1 : T ≤ 2000 := by omega
  have HT : Hid _ := hT
  have hgrow : Calls Tryd.prog 81 #[.slice none 0 0, .int .i64 (T : Int)] w fun r w' => ∃ v, r = .returned v ∧ w'.ownsRow w.heap.size 3 1 v 0 [] ∧ Below w.heap.size w w' := by
    by_cases h0 : 0 < T
    · refine (growN_call w h0 (by omega)).mono ?_
      rintro r w' ⟨c, h3, h4, h5⟩
      exact ⟨_, h3, h4, h5⟩
    · have e : T = 0 := by omega
      rw [e]
      refine (grow0_call w).mono ?_
      rintro r w' ⟨h3, rfl⟩
      exact ⟨_, h3, World.ownsRow_nil _ _ _ _, Below.refl _ _⟩
  have HGR : Hid _ := hgrow
  clear hgrow
  have z1 : ¬ (A.length : Int) < 0 := by omega
  have z2 : ¬ (T : Int) < 0 := by omega
  have z3 : (A.length : Int) + (B.length : Int) = (T : Int) := by omega
  clear hT
  go_enter Tryd.func80, Tryd.ntmps80
  go_wp2
  go_loopw [3, 11] (fun s i wr => ((i = .int .i64 0 ∧ s = .int .i64 0) ∨ (i = .int .i64 1 ∧ s = .int .i64 (A.length : Int)) ∨ (i = .int .i64 2 ∧ s = .int .i64 (T : Int))) ∧ wr = w) (fun _ i _ => 2 - (numOf i).toNat)
  case atStart => exact ⟨Or.inl ⟨rfl, rfl⟩, rfl⟩
  case round =>
    obtain ⟨hc, hw⟩ := hrel
    have hw' := hw.symm
    subst hw'
    clear hw
    rcases hc with ⟨rfl, rfl⟩ | ⟨rfl, rfl⟩ | ⟨rfl, rfl⟩
    · go_wp2
      go_roundw
      case rel => exact ⟨Or.inr (Or.inl ⟨rfl, by simp⟩), trivial⟩
      case measure => simp [numOf]
    · go_wp2
      go_roundw
      case rel => exact ⟨Or.inr (Or.inr ⟨rfl, by first | rfl | (rw [z3])⟩), trivial⟩
      case measure => simp [numOf]
    · go_upto_region 10 with (first
        | (go_at_call 81; refine Calls.mono HGR.out ?_; rintro r wa ⟨v, rfl, hown, hbA⟩)
        | go_in)
      have HAA : Hid _ := SrcAt.below HA.out hbA
      go_wp2
      go_loopw [6, 27] (fun s i wq => ∃ L : List Nat, ((i = .int .i64 0 ∧ L = []) ∨ (i = .int .i64 1 ∧ L = A) ∨ (i = .int .i64 2 ∧ L = A ++ B)) ∧ wq.ownsRow w.heap.size 3 1 s L.length (qv L) ∧ Below w.heap.size w wq) (fun _ i _ => 2 - (numOf i).toNat)
      case atStart => exact ⟨[], Or.inl ⟨rfl, rfl⟩, by simpa [qv] using hown, hbA⟩
      case round =>
        clear hown hbA HAA
        obtain ⟨L, hc, hown, hB⟩ := hrel
        obtain ⟨vo, vc, rfl⟩ := form_row hown
        have h1q := (hB.cell (by exact World.block_lt_of_cell? w _ h1)).trans h1
        have h2q := (hB.cell (by exact World.block_lt_of_cell? w _ h2)).trans h2
        rcases hc with ⟨rfl, rfl⟩ | ⟨rfl, rfl⟩ | ⟨rfl, rfl⟩
        · have hown0 : wr.ownsRow w.heap.size 3 1 (.slice vo 0 vc) 0 [] := by simpa [qv] using hown
          by_cases h0 : 0 < A.length
          · obtain ⟨ad, rfl, hnews⟩ := SrcAt.some (SrcAt.below HA.out hB) h0
            go_wp2_with (first
              | (at_builtin; refine wpList_append_lies _ rfl _ _ 61 rfl w.heap.size 3 i3 (.int .i64 0) 1 8 Tryd.underlying61 hi3 hy0 hy1 hy2 rfl (by decide) (.slice vo 0 vc) 0 [] rfl hown0 ad A.length c1 (qv A) rfl (by rw [qv_len, Nat.mul_one]) hnews (qv_one A) h0 (by unfold maxLen; omega) (by omega) hB.size wr.heap.size rfl ?_; intro g1 c3 w1 hown1 hgr1 hat1 hlt1)
              | go_in)
            have T1 := Turns.of_grown hgr1
            have hB3 := T1.below hB hB.size (fun j hj => (hown.lt j hj.symm).1)
            go_roundw
            case rel => exact ⟨A, Or.inr (Or.inl ⟨rfl, rfl⟩), by simpa [qv_app, qv] using hown1, hB3⟩
            case measure => simp [numOf]
          · have he : A = [] := by
              cases hh : A with
              | nil => rfl
              | cons a l => rw [hh] at h0; simp at h0
            have HS0 : Hid _ := he
            have z0 : A.length = 0 := by omega
            rw [z0] at h1q
            have hcap := own_cap hown
            have hrun := fun (ty : TypeId) => run_appendE wr vo 0 vc o1 c1 ty hcap
            have HRN : Hid _ := hrun
            clear hrun he z0 h0
            go_wp2_with (first
              | (at_builtin; refine Lib.wpList_append_run _ rfl _ _ _ _ rfl _ _ rfl rfl _ _ (HRN.out _) ?_)
              | go_in)
            go_roundw
            case rel => exact ⟨A, Or.inr (Or.inl ⟨rfl, rfl⟩), by rw [HS0.out]; simpa using hown, hB⟩
            case measure => simp [numOf]
        · by_cases h0 : 0 < B.length
          · obtain ⟨ad, rfl, hnews⟩ := SrcAt.some (SrcAt.below HB.out hB) h0
            go_wp2_with (first
              | (at_builtin; refine wpList_append_lies _ rfl _ _ 61 rfl w.heap.size 3 i3 (.int .i64 0) 1 8 Tryd.underlying61 hi3 hy0 hy1 hy2 rfl (by decide) (.slice vo L.length vc) L.length (qv L) rfl hown ad B.length c2 (qv B) rfl (by rw [qv_len, Nat.mul_one]) hnews (qv_one B) h0 (by unfold maxLen; omega) (by omega) hB.size wr.heap.size rfl ?_; intro g1 c3 w1 hown1 hgr1 hat1 hlt1)
              | go_in)
            have T1 := Turns.of_grown hgr1
            have hB3 := T1.below hB hB.size (fun j hj => (hown.lt j hj.symm).1)
            go_roundw
            case rel => exact ⟨L ++ B, Or.inr (Or.inr ⟨rfl, rfl⟩), by simpa [qv_app, qv] using hown1, hB3⟩
            case measure => simp [numOf]
          · have he : B = [] := by
              cases hh : B with
              | nil => rfl
              | cons a l => rw [hh] at h0; simp at h0
            have HS0 : Hid _ := he
            have z0 : B.length = 0 := by omega
            rw [z0] at h2q
            have hcap := own_cap hown
            have hrun := fun (ty : TypeId) => run_appendE wr vo L.length vc o2 c2 ty hcap
            have HRN : Hid _ := hrun
            clear hrun he z0 h0
            go_wp2_with (first
              | (at_builtin; refine Lib.wpList_append_run _ rfl _ _ _ _ rfl _ _ rfl rfl _ _ (HRN.out _) ?_)
              | go_in)
            go_roundw
            case rel => exact ⟨L ++ B, Or.inr (Or.inr ⟨rfl, rfl⟩), by rw [HS0.out]; simpa using hown, hB⟩
            case measure => simp [numOf]
        · go_wp2
          go_ret
          exact ⟨_, rfl, hown, hB⟩
end Go.Proofs.YtekokjechbibdaaDoor

namespace Go.Proofs.YtekokjechbibdaaDoor
open Go.RowKit Go.Maps
attribute [local go_sem ↓] Go.wp_at_zero Go.wp_at_succ
set_option maxHeartbeats 1000000 in
theorem clone_call {w : World} {g o pc : Nat} {l : List Nat} (hl : 0 < l.length) (hl2 : l.length ≤ 1000) (hc : NumL w g o l) :
    Calls Tryd.prog 73 #[.slice (some ⟨g, o, none⟩) l.length pc] w fun e w' => ∃ g' c', e = .returned (.slice (some ⟨g', 0, none⟩) l.length c') ∧ w'.ownsRow w.heap.size 3 1 (.slice (some ⟨g', 0, none⟩) l.length c') l.length (qv l) ∧ w.heap.size ≤ g' ∧ Below w.heap.size w w' := by
  obtain ⟨i3, hi3, hy0, hy1, hy2⟩ := info_parts Tryd.info3
  have HC : Hid (NumL w g o l) := hc
  have hB := below_alloc (Below.refl _ w) (Obj.cells #[] 3)
  have ho : (w.alloc (Obj.cells #[] 3)).ownsRow w.heap.size 3 1 (.slice (some ⟨w.heap.size, 0, none⟩) 0 0) 0 [] := ⟨rfl, Or.inr ⟨w.heap.size, 0, #[], rfl, Nat.le_refl _, heap_alloc_new _ _, Nat.le_refl _, by unfold maxLen; omega, rfl, rfl⟩⟩
  have hq : ∀ j u, (qv l)[j]? = some u → (w.alloc (Obj.cells #[] 3)).cell? ((⟨g, o, none⟩ : Addr).add j) = some u := fun j u hj => by
    unfold qv at hj
    rw [List.getElem?_map] at hj
    obtain ⟨y, hy, rfl⟩ := Option.map_eq_some_iff.1 hj
    have h1 := HC.out j y hy
    rw [show (⟨g, o, none⟩ : Addr).add j = ⟨g, o + j, none⟩ by simp [Addr.add]]
    exact (hB.cell (World.block_lt_of_cell? w _ h1)).trans h1
  have HO : Hid ((w.alloc (Obj.cells #[] 3)).ownsRow w.heap.size 3 1 (.slice (some ⟨w.heap.size, 0, none⟩) 0 0) 0 []) := ho
  have HQ : Hid (∀ j u, (qv l)[j]? = some u → (w.alloc (Obj.cells #[] 3)).cell? ((⟨g, o, none⟩ : Addr).add j) = some u) := hq
  have HL : Hid ((qv l).length = l.length * 1) := by show (qv l).length = l.length * 1; unfold qv; simp
  have H1 : Hid (∀ u ∈ qv l, u.oneCell' = true) := fun u hu => by
    unfold qv at hu
    obtain ⟨y, _, rfl⟩ := List.mem_map.1 hu
    rfl
  have hnil : ∀ w : World, (binOp .eql 61 (.slice (some ⟨g, o, none⟩) l.length pc) (.slice none 0 0)).run Tryd.prog w = .ok (.bool false) w := fun _ => by kernel_rfl
  clear hc ho hq
  go_enter Tryd.func73, Tryd.ntmps73
  go_wp2_with (first | (at_builtin; refine wpList_append_lies _ rfl _ _ 61 rfl w.heap.size 3 i3 (.int .i64 0) 1 8 Tryd.underlying61 hi3 hy0 hy1 hy2 rfl (by decide) _ _ _ rfl HO.out ⟨g, o, none⟩ l.length pc (qv l) rfl HL.out HQ.out H1.out hl (by unfold maxLen; omega) (by omega) (by simp) (w.heap.size + 1) (by simp) ?_; intro g1 c1 w1 hown1 hgr1 hat1 _) | go_in)
  have hown2 : w1.ownsRow w.heap.size 3 1 (.slice (some ⟨g1, 0, none⟩) l.length c1) l.length (qv l) := by simpa using hown1
  have hge := (hown2.lt g1 rfl).1
  have hB1 : Below w.heap.size w w1 := Turns.below hB (Turns.of_grown hgr1) hB.size (fun x hx => by
    have hx' : some x = some w.heap.size := hx
    have : x = w.heap.size := by simpa using hx'
    omega)
  clear hown1 hgr1 hat1
  go_ret
  exact ⟨g1, c1, rfl, hown2, hge, hB1⟩
set_option maxHeartbeats 1000000 in
theorem clone0_call {w : World} {g o pc : Nat} :
    Calls Tryd.prog 73 #[.slice (some ⟨g, o, none⟩) 0 pc] w fun e w' => ∃ g' c', e = .returned (.slice (some ⟨g', 0, none⟩) 0 c') ∧ w'.ownsRow w.heap.size 3 1 (.slice (some ⟨g', 0, none⟩) 0 c') 0 [] ∧ w.heap.size ≤ g' ∧ Below w.heap.size w w' := by
  have hB := below_alloc (Below.refl _ w) (Obj.cells #[] 3)
  have ho : (w.alloc (Obj.cells #[] 3)).ownsRow w.heap.size 3 1 (.slice (some ⟨w.heap.size, 0, none⟩) 0 0) 0 [] := ⟨rfl, Or.inr ⟨w.heap.size, 0, #[], rfl, Nat.le_refl _, heap_alloc_new _ _, Nat.le_refl _, by unfold maxLen; omega, rfl, rfl⟩⟩
  have HO : Hid ((w.alloc (Obj.cells #[] 3)).ownsRow w.heap.size 3 1 (.slice (some ⟨w.heap.size, 0, none⟩) 0 0) 0 []) := ho
  have HR : Hid (∀ ty, (Builtin.append_ #[61, 61] ty #[.slice (some ⟨w.heap.size, 0, none⟩) 0 0, .slice (some ⟨g, o, none⟩) 0 pc]).run Tryd.prog (w.alloc (Obj.cells #[] 3)) = .ok (.slice (some ⟨w.heap.size, 0, none⟩) 0 0) (w.alloc (Obj.cells #[] 3))) := fun ty => run_appendE _ _ 0 0 _ _ ty (Nat.le_refl _)
  have hnil : ∀ w : World, (binOp .eql 61 (.slice (some ⟨g, o, none⟩) 0 pc) (.slice none 0 0)).run Tryd.prog w = .ok (.bool false) w := fun _ => by kernel_rfl
  clear ho
  go_enter Tryd.func73, Tryd.ntmps73
  go_wp2_with (first | (at_builtin; refine Lib.wpList_append_run _ rfl _ _ _ _ rfl _ _ rfl rfl _ _ (HR.out _) ?_) | go_in)
  go_ret
  exact ⟨w.heap.size, 0, rfl, HO.out, Nat.le_refl _, hB⟩
/-- slices.Clone, whatever the row. -/
theorem cloneL_call {w : World} {g o pc : Nat} {l : List Nat} (hl2 : l.length ≤ 1000) (hc : NumL w g o l) :
    Calls Tryd.prog 73 #[.slice (some ⟨g, o, none⟩) l.length pc] w fun e w' => ∃ g' c', e = .returned (.slice (some ⟨g', 0, none⟩) l.length c') ∧ w'.ownsRow w.heap.size 3 1 (.slice (some ⟨g', 0, none⟩) l.length c') l.length (qv l) ∧ w.heap.size ≤ g' ∧ Below w.heap.size w w' := by
  cases l with
  | nil => exact clone0_call
  | cons x l => exact clone_call (by simp) hl2 hc
end Go.Proofs.YtekokjechbibdaaDoor

namespace Go.Proofs.YtekokjechbibdaaDoor
open Go.RowKit Go.Maps
attribute [local go_sem ↓] Go.wp_at_zero Go.wp_at_succ

/-- The first n cells of block g are the numbers f tells. -/
def RowN (w : World) (g n : Nat) (f : Nat → Nat) : Prop := ∃ cur, w.heap[g]? = some (.cells cur 3 (0, 0)) ∧ n ≤ cur.size ∧ ∀ j, j < n → cur[j]? = some (.int .i64 (f j : Nat))
theorem RowN.block {w w' : World} {g n : Nat} {f : Nat → Nat} (h : RowN w g n f) (hb : w'.heap[g]? = w.heap[g]?) : RowN w' g n f := by
  obtain ⟨cur, h1, h2⟩ := h
  exact ⟨cur, hb.trans h1, h2⟩
theorem RowN.lt {w : World} {g n : Nat} {f : Nat → Nat} (h : RowN w g n f) : g < w.heap.size := by
  obtain ⟨cur, h1, _⟩ := h; exact lt_of_block h1
theorem RowN.cell {w : World} {g n : Nat} {f : Nat → Nat} (h : RowN w g n f) {j : Nat} (hj : j < n) : w.cell? ⟨g, j, none⟩ = some (.int .i64 (f j : Nat)) := by
  obtain ⟨cur, h1, _, h3⟩ := h
  rw [cell_of_row w g j cur 3 (0, 0) h1]
  exact h3 j hj
theorem RowN.free {w : World} {g n : Nat} {f : Nat → Nat} (h : RowN w g n f) (j : Nat) : w.frozen? ⟨g, j, none⟩ = false := by
  obtain ⟨cur, h1, _⟩ := h
  simp [World.frozen?, h1]
theorem RowN.set {w : World} {g n : Nat} {f : Nat → Nat} (h : RowN w g n f) (y x : Nat) : RowN (w.setCell ⟨g, y, none⟩ (.int .i64 (x : Int))) g n (fun j => if j = y then x else f j) := by
  obtain ⟨cur, h1, h2, h3⟩ := h
  refine ⟨cur.setIfInBounds y (.int .i64 (x : Int)), ?_, by simp [h2], fun j hj => ?_⟩
  · have hl := lt_of_block h1
    simp [World.setCell, Array.getElem?_modify, h1]
  · by_cases e : j = y
    · subst e
      rw [Array.getElem?_setIfInBounds_self_of_lt (by omega)]
      simp
    · rw [Array.getElem?_setIfInBounds_ne (by omega), h3 j hj]
      simp [e]
theorem RowN.congr {w : World} {g n : Nat} {f f' : Nat → Nat} (h : RowN w g n f) (he : ∀ j, j < n → f j = f' j) : RowN w g n f' := by
  obtain ⟨cur, h1, h2, h3⟩ := h
  exact ⟨cur, h1, h2, fun j hj => by rw [h3 j hj, he j hj]⟩
theorem rowN_own {w : World} {base g cap : Nat} {l : List Nat} (h : w.ownsRow base 3 1 (.slice (some ⟨g, 0, none⟩) l.length cap) l.length (qv l)) : RowN w g l.length (fun j => l.getD j 0) := by
  rcases h.2 with ⟨h1, _⟩ | ⟨g', cap', cur, h1, _, h2, h3, _, h4, h5⟩
  · cases h1
  · cases h1
    refine ⟨cur, h2, by omega, fun j hj => ?_⟩
    have : (cur.toList.take (l.length * 1))[j]? = some (.int .i64 (l.getD j 0 : Nat)) := by
      rw [h5]
      simp [qv, hj]
    rw [List.getElem?_take_of_lt (by omega)] at this
    simpa using this

def revF (f : Nat → Nat) (n i x : Nat) : Nat := if x < i ∨ n - 1 - x < i then f (n - 1 - x) else f x
theorem revF_swap {f : Nat → Nat} {n i : Nat} (h : i < n - 1 - i) {x : Nat} (hx : x < n) : revF f n (i + 1) x = if x = n - 1 - i then revF f n i i else if x = i then revF f n i (n - 1 - i) else revF f n i x := by
  unfold revF
  by_cases c1 : x = n - 1 - i
  · subst c1
    have e1 : n - 1 - (n - 1 - i) = i := by omega
    rw [if_pos rfl, if_pos (by omega), if_neg (by omega), e1]
  · rw [if_neg c1]
    by_cases c2 : x = i
    · subst c2
      rw [if_pos rfl, if_pos (by omega), if_neg (by omega)]
    · rw [if_neg c2]
      by_cases c3 : x < i ∨ n - 1 - x < i
      · rw [if_pos (by omega), if_pos c3]
      · rw [if_neg (by omega), if_neg c3]

set_option maxHeartbeats 2000000 in
theorem reverse_call {w : World} {g n cap : Nat} {f : Nat → Nat} (h : RowN w g n f) (hn : n ≤ 1000) :
    Calls Tryd.prog 75 #[.slice (some ⟨g, 0, none⟩) n cap] w fun r w' => r = .returned (.tuple #[]) ∧ RowN w' g n (fun x => f (n - 1 - x)) ∧ Turns (fun k => k = g) w w' := by
  go_enter Tryd.func75, Tryd.ntmps75
  go_wp2
  go_loopw [2, 3] (fun a b wr => ∃ i : Nat, i ≤ n ∧ a = .int .i64 (i : Int) ∧ b = .int .i64 ((n : Int) - 1 - i) ∧ (i : Int) ≤ (n : Int) - 1 - i + 2 ∧ RowN wr g n (revF f n i) ∧ Turns (fun k => k = g) w wr) (fun a _ _ => n - (numOf a).toNat)
  case atStart => exact ⟨0, Nat.zero_le _, rfl, by simp, by omega, h.congr (fun j _ => by simp [revF]), Turns.refl _ _⟩
  case round =>
    obtain ⟨i, hi, rfl, rfl, hi2, hrow, ht⟩ := hrel
    clear h
    by_cases hlt : (i : Int) < (n : Int) - 1 - i
    · obtain ⟨j, hj⟩ : ∃ j : Nat, (n : Int) - 1 - i = (j : Int) := ⟨n - 1 - i, by omega⟩
      have hj' : j = n - 1 - i := by omega
      have hjn : j < n := by omega
      have hin : i < n := by omega
      have hij : i ≠ j := by omega
      rw [hj] at hlt ⊢
      have ci := hrow.cell hin
      have cj := hrow.cell hjn
      have fi := hrow.free i
      have fj := hrow.free j
      have i1 : (0 : Int) ≤ (i : Int) := by omega
      have i2 : (i : Int) < (n : Int) := by omega
      have j1 : (0 : Int) ≤ (j : Int) := by omega
      have j2 : (j : Int) < (n : Int) := by omega
      have HR : Hid _ := hrow
      have HJ : Hid _ := hj
      have HJ' : Hid _ := hj'
      clear hrow hj hj'
      go_upto_region 3 with (fail)
      go_region
      all_goals
        go_wp2
        go_roundw
        case rel =>
          refine ⟨i + 1, by omega, by go_num, ?_, ?_, ?_, ?_⟩
          · have := HJ.out; simp; omega
          · have := HJ.out; omega
          · first
              | (refine RowN.block (w := (wr.setCell ⟨g, i, none⟩ (.int .i64 (revF f n i j : Nat))).setCell ⟨g, j, none⟩ (.int .i64 (revF f n i i : Nat))) (((RowN.set HR.out i _).set j _).congr (fun x hx => ?_)) rfl
                 rw [revF_swap (by have := HJ'.out; omega) hx, ← HJ'.out])
              | (refine RowN.block (w := (wr.setCell ⟨g, j, none⟩ (.int .i64 (revF f n i i : Nat))).setCell ⟨g, i, none⟩ (.int .i64 (revF f n i j : Nat))) (((RowN.set HR.out j _).set i _).congr (fun x hx => ?_)) rfl
                 rw [revF_swap (by have := HJ'.out; omega) hx, ← HJ'.out]
                 by_cases c1 : x = i
                 · subst c1; simp [hij]
                 · simp [c1])
          · exact (ht.trans ((setCell_turns _ _ _ _).trans (setCell_turns _ _ _ _))).trans (Turns.of_below (Below.refl _ _).drew _)
        case measure => simp [numOf]; omega
    · go_wp2
      go_end0
      refine ⟨rfl, hrow.congr (fun x hx => ?_), ht⟩
      unfold revF
      by_cases c : x < i ∨ n - 1 - x < i
      · rw [if_pos c]
      · rw [if_neg c]
        have : n - 1 - x = x := by omega
        rw [this]
end Go.Proofs.YtekokjechbibdaaDoor

namespace Go.Proofs.YtekokjechbibdaaDoor
open Go.RowKit Go.Maps
attribute [local go_sem ↓] Go.wp_at_zero Go.wp_at_succ

def NumF (w : World) (vo : Option Addr) (n : Nat) (f : Nat → Int) : Prop := ∀ j, j < n → ∃ b off, vo = some ⟨b, off, none⟩ ∧ w.cell? ⟨b, off + j, none⟩ = some (.int .i64 (f j))
set_option maxHeartbeats 600000 in
theorem index_call {w : World} {vo : Option Addr} {n vc : Nat} {f : Nat → Int} (h : NumF w vo n f) (hn : n ≤ 1000000000000000) (x : Int) :
    Calls Tryd.prog 72 #[.slice vo n vc, .int .i64 x] w fun e w' => (∃ m : Int, e = .returned (.int .i64 m) ∧ ((m = -1 ∧ ∀ j, j < n → f j ≠ x) ∨ (∃ j : Nat, m = j ∧ j < n ∧ f j = x ∧ ∀ i, i < j → f i ≠ x))) ∧ w' = w := by
  have H : Hid (NumF w vo n f) := h
  clear h
  go_enter Tryd.func72, Tryd.ntmps72
  go_wp2
  go_loopw [8] (fun i wr => ∃ k : Nat, k ≤ n ∧ i = .int .i64 (k : Int) ∧ (∀ j, j < k → f j ≠ x) ∧ wr = w) (fun i _ => n - (numOf i).toNat)
  case atStart => exact ⟨0, Nat.zero_le _, rfl, fun j hj => by omega, rfl⟩
  case round =>
    obtain ⟨k, hk, rfl, hne, hwr⟩ := hrel
    have hwr' := hwr.symm
    clear hwr
    subst hwr'
    have HNE : Hid (∀ j, j < k → f j ≠ x) := hne
    clear hne
    by_cases hlt : k < n
    · obtain ⟨b, off, rfl, ck⟩ := H.out k hlt
      have i1 : (0 : Int) ≤ (k : Int) := by omega
      have i2 : (k : Int) < (n : Int) := by omega
      by_cases he : f k = x
      · have k1 : (x == f k) = true := by rw [beq_iff_eq]; exact he.symm
        have HE : Hid (f k = x) := he
        clear he
        go_wp2
        go_ret
        exact ⟨⟨(k : Int), rfl, Or.inr ⟨k, rfl, hlt, HE.out, HNE.out⟩⟩, rfl⟩
      · have k1 : (x == f k) = false := by rw [beq_eq_false_iff_ne]; exact fun e => he e.symm
        have HE : Hid (f k ≠ x) := he
        clear he
        go_wp2
        go_roundw
        case rel => exact ⟨k + 1, by omega, by go_num, fun j hj => by
          by_cases e : j = k
          · subst e; exact HE.out
          · exact HNE.out j (by omega), trivial⟩
        case measure => simp [numOf]; omega
    · have i2 : ¬ (k : Int) < (n : Int) := by omega
      have hkn : k = n := by omega
      subst hkn
      go_wp2
      go_ret
      exact ⟨⟨-1, rfl, Or.inl ⟨rfl, HNE.out⟩⟩, rfl⟩
/-- The place of a number that stands in a row. -/
theorem indexL_call {w : World} {b off cap x : Nat} {l : List Nat} (h : NumL w b off l) (hl : l.length ≤ 1000) (hx : x ∈ l) :
    Calls Tryd.prog 72 #[.slice (some ⟨b, off, none⟩) l.length cap, .int .i64 (x : Int)] w fun e w' => e = .returned (.int .i64 (l.idxOf x : Int)) ∧ w' = w := by
  refine (index_call (f := fun j => ((l.getD j 0 : Nat) : Int)) (fun j hj => ⟨b, off, rfl, ?_⟩) (by omega) (x : Int)).mono ?_
  · exact h j _ (by rw [List.getD_eq_getElem?_getD, List.getElem?_eq_getElem hj]; rfl)
  · rintro e w' ⟨⟨m, rfl, hm⟩, rfl⟩
    refine ⟨?_, rfl⟩
    have hi := List.idxOf_lt_length_of_mem hx
    have hg : l.getD (l.idxOf x) 0 = x := by rw [List.getD_eq_getElem?_getD, List.getElem?_eq_getElem hi]; simp
    rcases hm with ⟨_, h2⟩ | ⟨j, rfl, hj, h3, h4⟩
    · exact absurd (by rw [hg]) (h2 _ hi)
    · have hj2 : ¬ l.idxOf x < j := fun hlt => h4 _ hlt (by rw [hg])
      have hj3 : ¬ j < l.idxOf x := fun hlt => by
        have := List.not_of_lt_findIdx (p := (· == x)) (show j < l.findIdx (· == x) from hlt)
        have h5 : l.getD j 0 = x := by omega
        rw [List.getD_eq_getElem?_getD, List.getElem?_eq_getElem hj] at h5
        simp at h5
        simp [h5] at this
      have : l.idxOf x = j := by omega
      rw [this]
end Go.Proofs.YtekokjechbibdaaDoor

namespace Go.Proofs.YtekokjechbibdaaDoor
set_option maxRecDepth 8000
open Go.RowKit Go.Maps
attribute [local go_sem ↓] Go.wp_at_zero Go.wp_at_succ
def lenV : Value → Nat | .slice _ n _ => n | _ => 0
/-- It comes there, and never leaves the row. -/
def goBackOk (back : List Nat) (fr : Nat) : Nat → Nat → Bool
  | 0, v => v == fr
  | f + 1, v => v == fr || (decide (v < back.length) && goBackOk back fr f (back.getD v 0))
/-- A row of numbers as a list. -/
abbrev NRow (w : World) (b : Nat) (l : List Nat) : Prop := RowV w b 3 l.length (fun j => .int .i64 (l.getD j 0 : Nat))
theorem goBack_at {back : List Nat} {fr : Nat} : ∀ f, goBack back fr f fr = [fr]
  | 0 => rfl
  | f + 1 => by simp [goBack]
theorem goBackOk_at {back : List Nat} {fr : Nat} : ∀ f, goBackOk back fr f fr = true
  | 0 => by simp [goBackOk]
  | f + 1 => by simp [goBackOk]
set_option maxHeartbeats 2000000 in
theorem goBack_call {w : World} {bb v fr : Nat} {back : List Nat} (hr : NRow w bb back) (hok : goBackOk back fr 128 v = true) :
    Calls Tryd.prog 71 #[sl bb back.length, .int .i64 (v : Int), .int .i64 (fr : Int)] w fun e w' => ∃ g c, e = .returned (.slice (some ⟨g, 0, none⟩) (goBack back fr 128 v).length c) ∧ w'.ownsRow w.heap.size 3 1 (.slice (some ⟨g, 0, none⟩) (goBack back fr 128 v).length c) (goBack back fr 128 v).length (qv (goBack back fr 128 v)) ∧ Below w.heap.size w w' := by
  obtain ⟨R, hR⟩ : ∃ R, R = goBack back fr 128 v := ⟨_, rfl⟩
  rw [← hR]
  have HR : Hid (R = goBack back fr 128 v ∧ goBackOk back fr 128 v = true) := ⟨hR, hok⟩
  have HB : Hid (NRow w bb back) := hr
  obtain ⟨N, hN⟩ : ∃ N, N = back.length := ⟨_, rfl⟩
  rw [← hN]
  have HN : Hid (N = back.length) := hN
  clear hr hok hR hN
  go_enter Tryd.func71, Tryd.ntmps71
  go_upto_region 2 with (fail)
  have ho0 : (w.alloc (Obj.cells #[.int .i64 (v : Int)] 3)).ownsRow w.heap.size 3 1 (.slice (some ⟨w.heap.size, 0, none⟩) 1 1) 1 (qv [v]) := ownsRow_one w _ _ 3 (Nat.le_refl _)
  have hB0 : Below w.heap.size w (w.alloc (Obj.cells #[.int .i64 (v : Int)] 3)) := below_alloc (Below.refl _ w) _
  have HO : Hid _ := ho0
  have HB0 : Hid _ := hB0
  clear ho0 hB0
  generalize w.alloc (Obj.cells #[.int .i64 (v : Int)] 3) = W0 at *
  go_loopw [1, 7] (fun s1 s7 wz => ∃ (u f : Nat) (l : List Nat) (g c : Nat), s1 = .int .i64 (u : Int) ∧ s7 = .slice (some ⟨g, 0, none⟩) (l ++ [u]).length c ∧ Hid (wz.ownsRow w.heap.size 3 1 (.slice (some ⟨g, 0, none⟩) (l ++ [u]).length c) (l ++ [u]).length (qv (l ++ [u]))) ∧ Hid (R = l ++ goBack back fr f u ∧ goBackOk back fr f u = true ∧ l.length + f = 128) ∧ Hid (Below w.heap.size w wz)) (fun _ s7 _ => 129 - lenV s7)
  case atStart => exact ⟨v, 128, [], w.heap.size, 1, rfl, rfl, HO.out, ⟨HR.out.1, HR.out.2, rfl⟩, HB0.out⟩
  case round =>
    obtain ⟨u, f, l, g, c, rfl, rfl, ho, hr, hB⟩ := hrel
    by_cases hu : u = fr
    · have h1 : R = l ++ [u] := by rw [hr.out.1, hu, goBack_at]
      have e1 : ((u : Int) != (fr : Int)) = false := by simp [hu]
      have e2 : (u : Int) = (fr : Int) := by omega
      rw [← h1] at ho ⊢
      clear h1 hr
      rw [hu] at e1 ⊢
      clear e2 hu
      go_wp2
      go_ret
      exact ⟨g, c, rfl, ho.out, hB.out⟩
    · obtain ⟨f', rfl⟩ : ∃ f', f = f' + 1 := by
        cases f with
        | zero => have := hr.out.2.1; simp [goBackOk, hu] at this
        | succ f => exact ⟨f, rfl⟩
      have hok := hr.out.2.1
      simp only [goBackOk, Bool.or_eq_true, beq_iff_eq, hu, false_or, Bool.and_eq_true, decide_eq_true_eq] at hok
      have hgb : goBack back fr (f' + 1) u = u :: goBack back fr f' (back.getD u 0) := by rw [goBack, if_neg hu]
      have hcell : wr.cell? ⟨bb, u, none⟩ = some (.int .i64 ((back.getD u 0 : Nat) : Int)) := (HB.out.block (hB.out.block _ HB.out.lt)).cell hok.1
      have HS : Hid (R = (l ++ [u]) ++ goBack back fr f' (back.getD u 0) ∧ goBackOk back fr f' (back.getD u 0) = true ∧ (l ++ [u]).length + f' = 128) := ⟨by rw [hr.out.1, hgb]; simp, hok.2, by have := hr.out.2.2; simp; omega⟩
      have hll : (l ++ [u]).length ≤ 128 := by have := hr.out.2.2; simp; omega
      have i1 : (0 : Int) ≤ (u : Int) := by omega
      have i2 : (u : Int) < (N : Int) := by have := HN.out; have := hok.1; omega
      have e1 : ((u : Int) != (fr : Int)) = true := by simp; omega
      have e3 : ¬ (u : Int) = (fr : Int) := by omega
      generalize back.getD u 0 = t at *
      obtain ⟨Q, hQ⟩ : ∃ Q, Q = l ++ [u] := ⟨_, rfl⟩
      rw [← hQ] at HS ho hll ⊢
      have HBb : Hid _ := hB.out.size
      clear hok hgb hr hQ hu
      go_wp2_with (first | (at_builtin; refine wpList_pushA rfl _ _ rfl rfl rfl ho.out (by omega) HBb.out ?_; intro g2 c2 w2 h2 h3 h4) | go_in)
      have hB2 : Below w.heap.size w w2 := by
        have hg := ho.out.lt g rfl
        refine Turns.below (below_alloc hB.out (Obj.cells #[.int .i64 (t : Int)] 3)) (Turns.of_grown h3) (by have := hB.out.size; simp; omega) (fun k e => ?_)
        cases e; exact hg.1
      have HB2 : Hid (Below w.heap.size w w2) := hB2
      have HO2 : Hid _ := h2
      clear hB2 h2 h3 h4
      go_roundw
      case rel => exact ⟨t, f', Q, g2, c2, rfl, by simp, HO2.out, HS.out, HB2.out⟩
      case measure => simp [lenV]; omega
end Go.Proofs.YtekokjechbibdaaDoor

namespace Go.Proofs.YtekokjechbibdaaDoor
set_option maxRecDepth 8000
open Go.RowKit Go.Maps
attribute [local go_sem ↓] Go.wp_at_zero Go.wp_at_succ
set_option maxHeartbeats 2000000 in
theorem search_call {w : World} {n F : Nat} {caps : Array Value} {p : Nat → Bool} (hE : ∀ args w, (callFunc F args).run Tryd.prog w = .ok (.enter F args) w) (hn : n ≤ 1000000)
    (hp : ∀ A k, Below w.heap.size w A → k < n → Calls Tryd.prog F (#[.int .i64 (k : Int)] ++ caps) A fun e w' => e = .returned (.bool (p k)) ∧ Below A.heap.size A w') :
    Calls Tryd.prog 43 #[.int .i64 (n : Int), .func (.func F) #[] caps] w fun e w' => e = .returned (.int .i64 (search p 64 0 n : Int)) ∧ Below w.heap.size w w' := by
  obtain ⟨R, hR⟩ : ∃ R, R = search p 64 0 n := ⟨_, rfl⟩
  rw [← hR]
  have HR : Hid (R = search p 64 0 n) := hR
  have HP : Hid _ := hp
  clear hR hp
  go_enter Tryd.func43, Tryd.ntmps43
  go_upto_region 2 with (fail)
  go_loopw [5, 6] (fun s5 s6 wz => ∃ i j f : Nat, s5 = .int .i64 (i : Int) ∧ s6 = .int .i64 (j : Int) ∧ i ≤ j ∧ j ≤ n ∧ Hid (R = search p f i j ∧ j - i < 2 ^ f) ∧ Below w.heap.size w wz) (fun s5 s6 _ => (numOf s6).toNat - (numOf s5).toNat)
  case atStart => exact ⟨0, n, 64, rfl, rfl, Nat.zero_le _, Nat.le_refl _, ⟨HR.out, by omega⟩, Below.refl _ _⟩
  case round =>
    obtain ⟨i, j, f, rfl, rfl, hij, hjn, hs, hB⟩ := hrel
    have HB : Hid (Below w.heap.size w wr) := hB
    by_cases hlt : i < j
    · obtain ⟨f', rfl⟩ : ∃ f', f = f' + 1 := by
        cases f with
        | zero => have := hs.out.2; omega
        | succ f => exact ⟨f, rfl⟩
      obtain ⟨h, hh⟩ : ∃ h, h = (i + j) / 2 := ⟨_, rfl⟩
      have hstep : R = if p h = true then search p f' i h else search p f' (h + 1) j := by
        rw [hs.out.1, search, if_pos hlt, hh]
      have hpow : j - i < 2 * 2 ^ f' := by have := hs.out.2; rw [Nat.pow_succ] at this; omega
      have hhn : h < n := by omega
      have hhij : i ≤ h ∧ h < j := by omega
      have HC : Hid _ := HP.out wr h HB.out hhn
      have HST : Hid (R = if p h = true then search p f' i h else search p f' (h + 1) j) := hstep
      have HSZ : Hid (h - i < 2 ^ f' ∧ j - (h + 1) < 2 ^ f') := ⟨by omega, by omega⟩
      have e1 : IntKind.u64.wrap ((i : Int) + (j : Int)) = (i : Int) + (j : Int) := by simp [IntKind.wrap, IntKind.bits, IntKind.signed]; omega
      have e2 : ((i : Int) + (j : Int)) / 2 = (h : Int) := by omega
      have e3 : IntKind.i64.wrap (h : Int) = (h : Int) := by rw [IntKind.wrap_i64]; omega
      have i1 : (i : Int) < (j : Int) := by omega
      clear hs hstep hpow hh hB
      go_upto_region 4 with (fail)
      have HC' : Hid (Calls Tryd.prog F (#[.int .i64 (h : Int)] ++ caps) wr fun e w' => e = .returned (.bool (p h)) ∧ Below wr.heap.size wr w') := HC.out
      clear HC
      cases hb : p h with
      | true =>
        rw [hb] at HC'
        rw [hb, if_pos rfl] at HST
        clear hb
        go_wp2_with (first | (with_reducible refine Calls.mono HC'.out ?_; rintro e w1 ⟨rfl, h1⟩) | go_in)
        go_roundw
        case rel => exact ⟨i, h, f', rfl, rfl, by omega, by omega, ⟨HST.out, HSZ.out.1⟩, below_next HB.out h1⟩
        case measure => simp [numOf]; omega
      | false =>
        rw [hb] at HC'
        rw [hb, if_neg (by simp)] at HST
        clear hb
        go_wp2_with (first | (with_reducible refine Calls.mono HC'.out ?_; rintro e w1 ⟨rfl, h1⟩) | go_in)
        go_roundw
        case rel => exact ⟨h + 1, j, f', by go_num, rfl, by omega, by omega, ⟨HST.out, HSZ.out.2⟩, below_next HB.out h1⟩
        case measure => simp [numOf]; omega
    · have hr2 : R = i := by
        rw [hs.out.1]
        cases f <;> simp [search, hlt]
      have i1 : ¬ (i : Int) < (j : Int) := by omega
      have HR2 : Hid (R = i) := hr2
      clear hs hr2
      go_wp2
      go_ret
      exact ⟨by rw [HR2.out]; rfl, HB.out⟩
end Go.Proofs.YtekokjechbibdaaDoor
