/- One edge gets a colour. -/
import Derived.Test.YtdnmoifbkojnlaaSwapW
import Derived.Test.YtdnmoifbkojnlaaShiftW
namespace Go.Proofs.Ytdnmoifbkojnlaa
open Go.RowKit Go.Maps
attribute [local go_sem ↓] Go.wp_at_zero Go.wp_at_succ

/-- The first number with q. -/
def Fst (q : Nat → Prop) (k a : Nat) : Prop := a < k ∧ q a ∧ ∀ i, i < a → ¬ q i
theorem fst_of {q : Nat → Prop} {k : Nat} (h : ∃ c, c < k ∧ q c) : ∃ a, Fst q k a := by
  obtain ⟨c, hc, hq⟩ := h
  induction c using Nat.strongRecOn with
  | _ c ih =>
    by_cases hn : ∃ i, i < c ∧ q i
    · obtain ⟨i, hi, hqi⟩ := hn
      exact ih i hi (by omega) hqi
    · exact ⟨c, hc, hq, fun i hi hqi => hn ⟨i, hi, hqi⟩⟩
theorem Idx.det {k : Nat} {f : Nat → Int} {x m : Int} (h : Idx k f x m) {a : Nat} (ha : Fst (fun j => f j = x) k a) : m = a := by
  obtain ⟨h1, h2, h3⟩ := ha
  rcases h with ⟨_, h⟩ | ⟨j, rfl, hj, e, hm⟩
  · exact absurd h2 (h a h1)
  · rcases Nat.lt_trichotomy j a with hlt | rfl | hlt
    · exact absurd e (h3 j hlt)
    · rfl
    · exact absurd h2 (hm a hlt)
section
variable {w : World} {p t n k : Nat} {B : Nat → Nat} {D : Nat → Nat → Int}
theorem enter53 (args : Array Value) (w : World) : (callFunc 53 args).run Try.prog w = .ok (.enter 53 args) w := by
  simp [callFunc, Try.func53, go_sem]
  rw [if_neg (of_decide_eq_true (by kernel_rfl)), if_neg (by intro h; have : Try.f53.body.isSome = true := (by kernel_rfl); rw [h] at this; cases this)]
set_option maxHeartbeats 600000 in
/-- The literal: whether the colour is free at a node. -/
theorem lit53_call (h : DyeAt w p t n k B D) {b3 b7 a x : Nat} (h3 : w.cell? ⟨b3, 0, none⟩ = some (ptr p)) (h7 : w.cell? ⟨b7, 0, none⟩ = some (.int .i64 (a : Int))) (hx : x < n) (ha : a < k) :
    Calls Try.prog 53 #[.int .i64 (x : Int), ptr b3, ptr b7] w fun e w' => e = .returned (.bool (D x a == -1)) ∧ w' = w := by
  have H54 : Hid (Calls Try.prog 54 #[ptr p, .int .i64 (x : Int), .int .i64 (a : Int)] w fun e w' => e = .returned (.bool (D x a == -1)) ∧ w' = w) := isFree_call h hx ha
  clear h
  go_enter Try.func53, Try.ntmps53
  go_wp2_with (first | (go_at_call 54; refine Calls.mono H54.out ?_; rintro e _ ⟨rfl, rfl⟩) | go_in)
  go_ret
  exact ⟨rfl, rfl⟩
set_option maxHeartbeats 1000000 in
/-- slices.IndexFunc of a row of numbers, where there is one. -/
theorem indexFunc_call {g m1 xc : Nat} {l : List Nat} (hrow : ∀ i, i < m1 + 1 → w.cell? ⟨g, i, none⟩ = some (.int .i64 (l.getD i 0 : Nat))) (hl : m1 ≤ 1000) (F : FuncId) (caps : Array Value) (hF : ∀ args w', (callFunc F args).run Try.prog w' = .ok (.enter F args) w')
    (q : Nat → Bool) (hq : ∀ i, i < m1 + 1 → Calls Try.prog F (#[.int .i64 (l.getD i 0 : Nat)] ++ caps) w fun e w'' => e = .returned (.bool (q (l.getD i 0))) ∧ w'' = w)
    {K : Nat} (hK : Fst (fun i => q (l.getD i 0) = true) (m1 + 1) K) :
    Calls Try.prog 52 #[.slice (some ⟨g, 0, none⟩) (m1 + 1) xc, .func (.func F) #[] caps] w fun e w' => e = .returned (.int .i64 (K : Int)) ∧ w' = w := by
  obtain ⟨hKl, hy, hno⟩ := hK
  have HQ : Hid (∀ i, i < m1 + 1 → Calls Try.prog F (#[.int .i64 (l.getD i 0 : Nat)] ++ caps) w fun e w'' => e = .returned (.bool (q (l.getD i 0))) ∧ w'' = w) := hq
  have HR : Hid (∀ i, i < m1 + 1 → w.cell? ⟨g, i, none⟩ = some (.int .i64 (l.getD i 0 : Nat))) := hrow
  have HNO : Hid (∀ i, i < K → ¬ q (l.getD i 0) = true) := hno
  have HY : Hid (q (l.getD K 0) = true) := hy
  clear hq hrow hno hy
  go_enter Try.func52, Try.ntmps52
  go_wp2
  go_loopw [8] (fun i wr => ∃ j : Nat, j ≤ K ∧ i = .int .i64 (j : Int) ∧ wr = w) (fun i _ => m1 + 1 - (numOf i).toNat)
  case atStart => exact ⟨0, Nat.zero_le _, rfl, rfl⟩
  case round =>
    obtain ⟨j, hj, rfl, hwr⟩ := hrel
    have hwr' := hwr.symm
    clear hwr
    subst hwr'
    have c1 := HR.out j (by omega)
    have hcall := HQ.out j (by omega)
    obtain ⟨x, hx⟩ : ∃ x, x = l.getD j 0 := ⟨_, rfl⟩
    have i1 : (0 : Int) ≤ (j : Int) := by omega
    have i2 : (j : Int) < ((m1 + 1 : Nat) : Int) := by omega
    have hv : q x = decide (j = K) := by
      by_cases e : j = K
      · rw [hx, e, HY.out]; simp
      · have := HNO.out j (by omega)
        rw [← hx] at this
        simp [e, this]
    rw [← hx] at c1 hcall
    rw [hv] at hcall
    clear hx hv
    by_cases hjK : j = K
    · subst hjK
      simp only [decide_true] at hcall
      have HC : Hid (Calls Try.prog F (#[.int .i64 (x : Int)] ++ caps) w fun e w'' => e = .returned (.bool true) ∧ w'' = w) := hcall
      clear hcall
      go_wp2_with (first | (refine Calls.mono HC.out ?_; rintro r wa ⟨rfl, rfl⟩) | go_in)
      go_ret
      exact ⟨rfl, rfl⟩
    · simp only [hjK, decide_false] at hcall
      have HC : Hid (Calls Try.prog F (#[.int .i64 (x : Int)] ++ caps) w fun e w'' => e = .returned (.bool false) ∧ w'' = w) := hcall
      clear hcall
      go_wp2_with (first | (refine Calls.mono HC.out ?_; rintro r wa ⟨rfl, rfl⟩) | go_in)
      go_roundw
      case rel => exact ⟨j + 1, by omega, by go_num, trivial⟩
      case measure => simp [numOf]; omega
/-- What one edge more leaves. -/
def AddEnd (n k p t u v : Nat) (B : Nat → Nat) (D : Nat → Nat → Int) (w' : World) : Prop := ∃ D', DyeAt w' p t n k B D' ∧ Dye n k D' ∧ ∀ x y, x < n → (Dyed k D' x y ↔ Dyed k D x y ∨ Two2 u v x y)
set_option maxRecDepth 4000 in
set_option maxHeartbeats 4000000 in
theorem add_call (h : DyeAt w p t n k B D) (hD : Dye n k D) (hn : n ≤ 1000) (hk : k ≤ 1000) (hfree : ∀ x, x < n → ∃ c, c < k ∧ D x c = -1) {u v : Nat} (hu : u < n) (hv : v < n) (hvu : v ≠ u) (hun : ¬ Dyed k D u v) :
    Calls Try.prog 38 #[ptr p, .int .i64 (u : Int), .int .i64 (v : Int)] w fun e w' => e = .returned (.tuple #[]) ∧ AddEnd n k p t u v B D w' ∧ Turns (rowsOf n B) w w' := by
  have HD : Hid (Dye n k D) := hD
  have HW : Hid (DyeAt w p t n k B D) := h
  have HFR : Hid (∀ x, x < n → ∃ c, c < k ∧ D x c = -1) := hfree
  have HUN : Hid (¬ Dyed k D u v) := hun
  clear h hD hfree hun
  go_enter Try.func38, Try.ntmps38
  go_upto_region 1 with (fail)
  have hB0 := below_alloc (Below.refl _ w) (Obj.cells #[ptr p] 66)
  have o3 := one_new w (ptr p) 66
  obtain ⟨b3, hb3⟩ : ∃ b, b = w.heap.size := ⟨_, rfl⟩
  have HB3 : Hid (b3 = w.heap.size) := hb3
  rw [← hb3] at o3 ⊢
  generalize w.alloc (Obj.cells #[ptr p] 66) = W0 at hB0 o3 ⊢
  have c3 : W0.cell? ⟨b3, 0, none⟩ = some (ptr p) := box_cell o3 rfl
  have H49 : Hid (Calls Try.prog 49 #[ptr p, .int .i64 (u : Int), .int .i64 (v : Int)] W0 fun e w' => ∃ po pc f, e = .returned (.slice po f.length pc) ∧ w'.ownsRow W0.heap.size 3 1 (.slice po f.length pc) f.length (qv f) ∧ Fan n k D u f ∧ f.getD 0 0 = v ∧ FanMax k D u f ∧ Below W0.heap.size W0 w') := fan_call (HW.out.below hB0) HD.out hn hk hu hv hvu HUN.out
  clear hb3
  go_upto_region 2 with (first | (go_at_call 49; refine Calls.mono H49.out ?_; rintro e W1 ⟨po, pc, f, rfl, hown, hF, hf0, hmx, hB1⟩) | go_in)
  obtain ⟨m1, hm1⟩ : ∃ m1, f.length = m1 + 1 := ⟨f.length - 1, by have := hF.pos; omega⟩
  have hm1n : m1 + 1 ≤ n := by have := hF.short; omega
  have hcells : ∃ g, po = some ⟨g, 0, none⟩ ∧ W0.heap.size ≤ g ∧ g < W1.heap.size ∧ ∀ i, i < m1 + 1 → W1.cell? ⟨g, i, none⟩ = some (.int .i64 (f.getD i 0 : Nat)) := by
    have key : ∀ i, i < m1 + 1 → ∃ g, po = some ⟨g, 0, none⟩ ∧ W1.cell? ⟨g, i, none⟩ = some (.int .i64 (f.getD i 0 : Nat)) := fun i hi => qcell hown (by rw [getD_lt (by omega), List.getElem?_eq_getElem (by omega)])
    obtain ⟨g, rfl, _⟩ := key 0 (by omega)
    have hgl := hown.lt g rfl
    refine ⟨g, rfl, hgl.1, hgl.2, fun i hi => ?_⟩
    obtain ⟨g', e, hc⟩ := key i hi
    cases e
    exact hc
  obtain ⟨g, rfl, hg0, hg1, hcells⟩ := hcells
  have hcap : m1 + 1 ≤ pc := by
    rcases hown.2 with ⟨e, _⟩ | ⟨g', cap, cur, e, _, _, e2, _⟩
    · cases e
    · cases e; omega
  rw [hm1]
  obtain ⟨x, hx⟩ : ∃ x, x = f.getD m1 0 := ⟨_, rfl⟩
  have hxn : x < n := by rw [hx]; exact hF.lt m1 (by omega)
  obtain ⟨a, hFa⟩ := fst_of (HFR.out x hxn)
  obtain ⟨b, hFb⟩ := fst_of (HFR.out u hu)
  have hak := hFa.1
  have hbk := hFb.1
  have HFA : Hid (Fst (fun c => D x c = -1) k a) := hFa
  have HFB : Hid (Fst (fun c => D u c = -1) k b) := hFb
  have HF : Hid (Fan n k D u f) := hF
  have HM1 : Hid (f.length = m1 + 1) := hm1
  have HF0 : Hid (f.getD 0 0 = v) := hf0
  have HMX : Hid (FanMax k D u f) := hmx
  have HX : Hid (x = f.getD m1 0) := hx
  have HCS : Hid (∀ i, i < m1 + 1 → W1.cell? ⟨g, i, none⟩ = some (.int .i64 (f.getD i 0 : Nat))) := hcells
  have hB01 := below_next hB0 hB1
  have HD1 : Hid (DyeAt W1 p t n k B D) := HW.out.below hB01
  have h50 : ∀ y, y < n → ∀ c, Fst (fun c => D y c = -1) k c → ∀ W, Below W1.heap.size W1 W → Calls Try.prog 50 #[ptr p, .int .i64 (y : Int)] W fun e w' => e = .returned (.int .i64 (c : Int)) ∧ w' = W := fun y hy c hc W hW => (free_call (HD1.out.below hW) hk hy).mono (by
    rintro e w' ⟨⟨m, rfl, hm⟩, rfl⟩
    exact ⟨by rw [hm.det hc], rfl⟩)
  have H50 : Hid (∀ W, Below W1.heap.size W1 W → Calls Try.prog 50 #[ptr p, .int .i64 (x : Int)] W fun e w' => e = .returned (.int .i64 (a : Int)) ∧ w' = W) := h50 x hxn a hFa
  have H50b : Hid (∀ W, Below W1.heap.size W1 W → Calls Try.prog 50 #[ptr p, .int .i64 (u : Int)] W fun e w' => e = .returned (.int .i64 (b : Int)) ∧ w' = W) := h50 u hu b hFb
  have o31 : One W1 b3 (ptr p) 66 := (hB1.block _ (lt_of_block o3)).trans o3
  have c31 : W1.cell? ⟨b3, 0, none⟩ = some (ptr p) := box_cell o31 rfl
  have cx : W1.cell? ⟨g, m1, none⟩ = some (.int .i64 (x : Int)) := by rw [hx]; exact hcells m1 (by omega)
  have hb31 := lt_of_block o3
  have HO31 : Hid (One W1 b3 (ptr p) 66) := o31
  clear hFa hFb hF hm1 hf0 hmx hx hcells h50 hown H49 c3 o3 o31
  have i1 : (0 : Int) ≤ (m1 : Int) := by omega
  have i2 : (m1 : Int) < ((m1 + 1 : Nat) : Int) := by omega
  have k1 : IntKind.i64.wrap (((m1 + 1 : Nat) : Int) - 1) = (m1 : Int) := by rw [IntKind.wrap_i64]; omega
  have k2 : IntKind.i64.wrap ((m1 : Int) + 1 - 1) = (m1 : Int) := by rw [IntKind.wrap_i64]; omega
  have k3 : IntKind.i64.wrap (m1 : Int) = (m1 : Int) := by rw [IntKind.wrap_i64]; omega
  have i3 : (m1 : Int) < (m1 : Int) + 1 := by omega
  have c31a := all_alloc c31
  have cxa := all_alloc cx
  go_cut [7] from 13 to 20 (fun s7 wc => ∃ b7, s7 = ptr b7 ∧ W1.heap.size ≤ b7 ∧ One wc b7 (.int .i64 (a : Int)) 3 ∧ Below W1.heap.size W1 wc)
  case first =>
    go_region_with ((go_at_call 50; refine Calls.mono (H50.out _ (by first | exact (Below.refl _ _).drew | exact below_alloc (Below.refl _ _).drew _)) ?_; rintro e Wx ⟨rfl, rfl⟩))
    all_goals
      go_wp2_with fail
      go_meet
      case rel => exact ⟨W1.heap.size, rfl, Nat.le_refl _, one_new W1 _ _, (below_alloc (Below.refl _ W1) _).drew⟩
  case rest =>
    obtain ⟨b7, rfl, hb7, o7, hBc⟩ := hcut
    generalize wc = Wc at o7 hBc ⊢
    have hBc' := hBc.drew
    have o3c : One Wc b3 (ptr p) 66 := (hBc.block _ (lt_of_block HO31.out)).trans HO31.out
    have c3c : Wc.cell? ⟨b3, 0, none⟩ = some (ptr p) := box_cell o3c rfl
    have c7c : Wc.cell? ⟨b7, 0, none⟩ = some (.int .i64 (a : Int)) := box_cell o7 rfl
    have HO3 : Hid (One Wc b3 (ptr p) 66) := o3c
    have HO7 : Hid (One Wc b7 (.int .i64 (a : Int)) 3) := o7
    have HBC : Hid (Below W1.heap.size W1 Wc) := hBc
    have HBW : Hid (Below w.heap.size w W1) := hB01
    have hsz1 := hB01.size
    have hrl : ∀ y, y < n → B y < w.heap.size := fun y hy => (HW.out.row y hy).lt
    have H51 : Hid (Calls Try.prog 51 #[ptr p, .int .i64 (u : Int), .int .i64 (a : Int), .int .i64 (b : Int)] Wc.drew fun e w' => e = .returned (.tuple #[]) ∧ SwapEnd w n k p t a b u B D w' ∧ Turns (rowsOf n B) Wc.drew w') := swap_call (HD1.out.below hBc') HD.out hn hu hak hbk HFB.out.2.1
    have hlt0 := hB0.size
    clear c31 cx c31a cxa o7 hBc o3c H50 hB01
    go_upto_region 3 with (fail)
    go_cut [7] from 21 to 27 (fun s7 wd => s7 = ptr b7 ∧ SwapEnd w n k p t a b u B D wd ∧ Turns (rowsOf n B) Wc wd)
    case first =>
      go_region_with (first | (go_at_call 50; refine Calls.mono (H50b.out _ hBc') ?_; rintro e Wx ⟨rfl, rfl⟩) | (go_at_call 51; refine Calls.mono H51.out ?_; rintro e Wy ⟨rfl, hsw, hT⟩))
      all_goals
        go_wp2_with fail
        go_meet
        case rel => exact ⟨rfl, hsw, (Turns.of_below (Below.refl _ Wc).drew _).trans hT⟩
    case rest =>
      obtain ⟨rfl, hsw, hT⟩ := hcut
      generalize wc = Wd at hsw hT ⊢
      obtain ⟨L, hway, hend, hdy⟩ := hsw
      have hnr : ∀ y, w.heap.size ≤ y → ¬ rowsOf n B y := fun y hy h => by
        obtain ⟨v', hv', e⟩ := h
        have := hrl v' hv'
        omega
      have hb3w : w.heap.size ≤ b3 := by have := HB3.out; omega
      have c3d : Wd.cell? ⟨b3, 0, none⟩ = some (ptr p) := cell_turns c3c hT (hnr _ hb3w)
      have c7d : Wd.cell? ⟨b7, 0, none⟩ = some (.int .i64 (a : Int)) := cell_turns c7c hT (hnr _ (by show w.heap.size ≤ b7; omega))
      have hcd : ∀ i, i < m1 + 1 → Wd.cell? ⟨g, i, none⟩ = some (.int .i64 (f.getD i 0 : Nat)) := fun i hi => cell_turns ((HBC.out.cell (by exact hg1)).trans (HCS.out i hi)) hT (hnr _ (by show w.heap.size ≤ g; omega))
      obtain ⟨D1, hD1⟩ : ∃ D1, D1 = swD D (fun x => L.contains x) a b := ⟨_, rfl⟩
      have hsome := fan_some HD.out hu hak hbk HF.out (by rw [HM1.out, Nat.add_sub_cancel, ← HX.out]; exact HFA.out.2.1) (fun z hz => HMX.out z a hak hz (by rw [HM1.out, Nat.add_sub_cancel, ← HX.out]; exact HFA.out.2.1)) hway
      rw [← hD1, HM1.out] at hsome
      rw [← hD1] at hdy
      obtain ⟨K, hK⟩ := fst_of (q := fun i => (D1 (f.getD i 0) a == -1) = true) (by
        obtain ⟨e, he, h1⟩ := hsome
        exact ⟨e, he, by rw [h1]; rfl⟩)
      have hKl := hK.1
      have hDy1 : Dye n k D1 := by rw [hD1]; exact HD.out.swap hak hbk (way_shut HD.out hak hbk hway HFB.out.2.1 hend)
      have huL : u ∈ L := by
        have := getD_mem hway.1
        rw [hway.2.1] at this
        exact this
      have hmin : ∀ i, i < K → D1 (f.getD i 0) a ≠ -1 := fun i hi h => hK.2.2 i hi (by show (D1 (f.getD i 0) a == -1) = true; rw [h]; rfl)
      have hea : D1 (f.getD K 0) a = -1 := by simpa using hK.2.1
      have hFs : Fan n k D1 u (f.take (K + 1)) := by
        rw [hD1]
        exact fan_swap hak hbk HF.out HFB.out.2.1 huL (by rw [HM1.out]; exact hKl) (fun i hi => by rw [← hD1]; exact hmin i hi)
      have hfin : ∀ D', Shf k a u (f.take (K + 1)) D1 D' → Dye n k D' ∧ ∀ x y, x < n → (Dyed k D' x y ↔ Dyed k D x y ∨ Two2 u v x y) := fun D' hs => by
        rw [hD1] at hs
        exact add_math HD.out hu HF.out HF0.out hak hbk HFB.out.2.1 hway hend (by rw [HM1.out]; exact hKl) (by rw [← hD1]; exact hea) (fun i hi => by rw [← hD1]; exact hmin i hi) hs
      have H52 : Hid (Calls Try.prog 52 #[.slice (some ⟨g, 0, none⟩) (m1 + 1) pc, .func (.func 53) #[] #[ptr b3, ptr b7]] Wd fun e w' => e = .returned (.int .i64 (K : Int)) ∧ w' = Wd) :=
        indexFunc_call hcd (by omega) 53 #[ptr b3, ptr b7] enter53 (fun y => D1 y a == -1) (fun i hi => lit53_call hdy c3d c7d (HF.out.lt i (by rw [HM1.out]; exact hi)) hak) hK
      have hsh : Calls Try.prog 55 #[ptr p, .int .i64 (u : Int), .slice (some ⟨g, 0, none⟩) (K + 1) pc, .int .i64 (a : Int)] Wd.drew fun e w' => e = .returned (.tuple #[]) ∧ (∃ D', Shf k a u (f.take (K + 1)) D1 D' ∧ DyeAt w' p t n k B D') ∧ Turns (rowsOf n B) Wd.drew w' :=
        shift_call (hdy.below (Below.refl _ _).drew) hDy1 hk hu hak hFs (by rw [List.length_take, HM1.out]; omega) (by omega) (by omega) (fun i hi => by
          have : (f.take (K + 1)).getD i 0 = f.getD i 0 := by simp only [List.getD, List.getElem?_take, if_pos hi]
          rw [this]; exact hcd i (by omega)) (fun y hy e => by have := hrl y hy; omega)
      have H55 : Hid (Calls Try.prog 55 #[ptr p, .int .i64 (u : Int), .slice (some ⟨g, 0, none⟩) (K + 1) pc, .int .i64 (a : Int)] Wd.drew fun e w' => e = .returned (.tuple #[]) ∧ (∃ D', Shf k a u (f.take (K + 1)) D1 D' ∧ DyeAt w' p t n k B D') ∧ Turns (rowsOf n B) Wd.drew w') := hsh
      have HFIN : Hid (∀ D', Shf k a u (f.take (K + 1)) D1 D' → Dye n k D' ∧ ∀ x y, x < n → (Dyed k D' x y ↔ Dyed k D x y ∨ Two2 u v x y)) := hfin
      have HT : Hid (Turns (rowsOf n B) w Wd) := (Turns.of_below HBW.out _).trans ((Turns.of_below (below_next (Below.refl _ _) HBC.out) _).trans hT)
      clear hsh hfin hFs hea hmin huL hDy1 hK hsome hD1 hcd hway hend hdy hT c3c c7c
      go_upto_region 5 with (first | (go_at_call 52; refine Calls.mono H52.out ?_; rintro e We ⟨rfl, rfl⟩) | go_in)
      have j1 : IntKind.i64.wrap ((K : Int) + 1) = (K : Int) + 1 := by rw [IntKind.wrap_i64]; omega
      have j2 : (0 : Int) ≤ (K : Int) + 1 := by omega
      have j3 : (K : Int) + 1 ≤ (pc : Int) := by omega
      have j4 : ((K : Int) + 1).toNat = K + 1 := by omega
      go_region_with (first | (go_at_call 55; refine Calls.mono H55.out ?_; rintro e Wy ⟨rfl, hsf, hTf⟩) | fail)
      all_goals
        go_end0
        obtain ⟨D', hs', hd'⟩ := hsf
        exact ⟨rfl, ⟨D', hd', HFIN.out D' hs'⟩, HT.out.trans ((Turns.of_below (Below.refl _ _).drew _).trans hTf)⟩
end
end Go.Proofs.Ytdnmoifbkojnlaa
