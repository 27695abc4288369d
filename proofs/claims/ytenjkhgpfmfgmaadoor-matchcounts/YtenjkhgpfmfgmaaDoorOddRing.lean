/- oddRing: from both ends of an edge towards the first node, until both ways meet. -/
import Derived.Test.YtenjkhgpfmfgmaaDoorFarM
import Derived.Deep.AppendLies
namespace Go.Proofs.YtenjkhgpfmfgmaaDoor
open Go.RowKit Go.Maps
attribute [local go_sem ↓] Go.wp_at_zero Go.wp_at_succ

/-- The first n that rg tells make a ring. -/
structure RingF (N : Nat) (e : Nat → Nat → Bool) (n : Nat) (rg : Nat → Nat) : Prop where
  len : 3 ≤ n
  lt : ∀ i, i < n → rg i < N
  ne : ∀ i j, i < n → j < i → rg i ≠ rg j
  edge : ∀ i, i < n → e (rg i) (rg ((i + 1) % n)) = true

/-- Two ways of k steps from a and from b. -/
structure Climb (N : Nat) (e : Nat → Nat → Bool) (P : Nat → Prop) (far : Nat → Nat) (a b k : Nat) (U V : Nat → Nat) : Prop where
  ua : U 0 = a
  vb : V 0 = b
  up : ∀ i, i ≤ k → P (U i)
  vp : ∀ i, i ≤ k → P (V i)
  ul : ∀ i, i ≤ k → U i < N ∧ far (U i) + i = far a
  vl : ∀ i, i ≤ k → V i < N ∧ far (V i) + i = far a
  ue : ∀ i, i < k → e (U i) (U (i + 1)) = true
  ve : ∀ i, i < k → e (V i) (V (i + 1)) = true
  ne : ∀ i, i < k → U i ≠ V i

def upd (U : Nat → Nat) (k x i : Nat) : Nat := if i ≤ k then U i else x
theorem upd_le {U : Nat → Nat} {k x i : Nat} (h : i ≤ k) : upd U k x i = U i := if_pos h
theorem upd_gt {U : Nat → Nat} {k x : Nat} : upd U k x (k + 1) = x := if_neg (by omega)
theorem Climb.step {N : Nat} {e : Nat → Nat → Bool} {P : Nat → Prop} {far : Nat → Nat} {a b k : Nat} {U V : Nat → Nat} (h : Climb N e P far a b k U V) (hne : U k ≠ V k) {x y : Nat} (hx : x < N) (hex : e (U k) x = true) (hfx : far x + 1 = far (U k)) (hpx : P x) (hy : y < N) (hey : e (V k) y = true) (hfy : far y + 1 = far (V k)) (hpy : P y) :
    Climb N e P far a b (k + 1) (upd U k x) (upd V k y) := by
  refine ⟨by rw [upd_le (by omega)]; exact h.ua, by rw [upd_le (by omega)]; exact h.vb, fun i hi => ?_, fun i hi => ?_, fun i hi => ?_, fun i hi => ?_, fun i hi => ?_, fun i hi => ?_, fun i hi => ?_⟩
  · by_cases c : i ≤ k
    · rw [upd_le c]; exact h.up i c
    · have : i = k + 1 := by omega
      subst this; rw [upd_gt]; exact hpx
  · by_cases c : i ≤ k
    · rw [upd_le c]; exact h.vp i c
    · have : i = k + 1 := by omega
      subst this; rw [upd_gt]; exact hpy
  · by_cases c : i ≤ k
    · rw [upd_le c]; exact h.ul i c
    · have : i = k + 1 := by omega
      subst this; rw [upd_gt]; have := (h.ul k (Nat.le_refl _)).2; exact ⟨hx, by omega⟩
  · by_cases c : i ≤ k
    · rw [upd_le c]; exact h.vl i c
    · have : i = k + 1 := by omega
      subst this; rw [upd_gt]; have := (h.vl k (Nat.le_refl _)).2; exact ⟨hy, by omega⟩
  · by_cases c : i < k
    · rw [upd_le (by omega), upd_le (by omega)]; exact h.ue i c
    · have : i = k := by omega
      subst this; rw [upd_gt, upd_le (Nat.le_refl _)]; exact hex
  · by_cases c : i < k
    · rw [upd_le (by omega), upd_le (by omega)]; exact h.ve i c
    · have : i = k := by omega
      subst this; rw [upd_gt, upd_le (Nat.le_refl _)]; exact hey
  · rw [upd_le (by omega), upd_le (by omega)]
    by_cases c : i < k
    · exact h.ne i c
    · have : i = k := by omega
      subst this; exact hne

/-- The ring: one way up, the other one down. -/
def ringOf (k : Nat) (U V : Nat → Nat) (j : Nat) : Nat := if j ≤ k then U j else V (2 * k - j)
theorem Climb.ring {N : Nat} {e : Nat → Nat → Bool} {P : Nat → Prop} {far : Nat → Nat} {a b k : Nat} {U V : Nat → Nat} (h : Climb N e P far a b k U V) (hs : ∀ a b, a < N → b < N → e a b = true → e b a = true) (hk : U k = V k) (hab : a ≠ b) (he : e a b = true) : RingF N e (2 * k + 1) (ringOf k U V) := by
  have hk0 : 0 < k := by
    rcases Nat.eq_zero_or_pos k with h0 | h0
    · subst h0; rw [h.ua, h.vb] at hk; exact absurd hk hab
    · exact h0
  have lo : ∀ j, j ≤ k → ringOf k U V j = U j := fun j hj => if_pos hj
  have hi : ∀ j, k ≤ j → j ≤ 2 * k → ringOf k U V j = V (2 * k - j) := fun j h1 h2 => by
    by_cases c : j = k
    · subst c
      rw [lo _ (Nat.le_refl _), hk]
      congr 1
      omega
    · exact if_neg (by omega)
  refine ⟨by omega, fun i hin => ?_, fun i j hin hji => ?_, fun i hin => ?_⟩
  · by_cases c : i ≤ k
    · rw [lo i c]; exact (h.ul i c).1
    · rw [hi i (by omega) (by omega)]; exact (h.vl _ (by omega)).1
  · intro hx
    by_cases c : i ≤ k
    · rw [lo i c, lo j (by omega)] at hx
      have h1 := (h.ul i c).2
      have h2 := (h.ul j (by omega)).2
      rw [hx] at h1
      omega
    · rw [hi i (by omega) (by omega)] at hx
      have h1 := (h.vl (2 * k - i) (by omega)).2
      by_cases c2 : j ≤ k
      · rw [lo j c2] at hx
        have h2 := (h.ul j c2).2
        rw [hx] at h1
        have hj : 2 * k - i = j := by omega
        rw [hj] at hx
        exact h.ne j (by omega) hx.symm
      · rw [hi j (by omega) (by omega)] at hx
        have h2 := (h.vl (2 * k - j) (by omega)).2
        rw [hx] at h1
        omega
  · by_cases c : i < k
    · rw [Nat.mod_eq_of_lt (by omega), lo i (by omega), lo (i + 1) (by omega)]; exact h.ue i c
    · by_cases c2 : i < 2 * k
      · rw [Nat.mod_eq_of_lt (by omega), hi i (by omega) (by omega), hi (i + 1) (by omega) (by omega)]
        obtain ⟨m, hm⟩ : ∃ m, 2 * k - i = m + 1 := ⟨2 * k - i - 1, by omega⟩
        have hm2 : 2 * k - (i + 1) = m := by omega
        rw [hm, hm2]
        exact hs _ _ (h.vl m (by omega)).1 (h.vl (m + 1) (by omega)).1 (h.ve m (by omega))
      · have hi2 : i = 2 * k := by omega
        subst hi2
        rw [Nat.mod_self, hi (2 * k) (by omega) (Nat.le_refl _), lo 0 (by omega), Nat.sub_self, h.ua, h.vb]
        have h1 := (h.ul 0 (by omega)).1
        have h2 := (h.vl 0 (by omega)).1
        rw [h.ua] at h1
        rw [h.vb] at h2
        exact hs _ _ h1 h2 he

/-- One number more at a row's end, and where the row lies then. -/
theorem wpList_push2 {W : World} {ops : Array Oper} {rest : List Oper} {o : Oper} {a : Act} {Q : Exit → Act → World → Prop} {base : Nat} {po : Option Addr} {pc : Nat} {l : List Nat} {x : Nat} (hgd : o.guard = none) (s y : Operand)
    (ho : o.op = .call { callee := .builtin .append, args := #[s, y], argTypes := #[29, 29] }) (hs : a.eval s = .slice po l.length pc) (hy : a.eval y = .slice (some ⟨W.heap.size, 0, none⟩) 1 1)
    (hown : W.ownsRow base 3 1 (.slice po l.length pc) l.length (qv l)) (hl : l.length ≤ 1000000) (hbase : base ≤ W.heap.size)
    (h : ∀ g c w', w'.ownsRow base 3 1 (.slice (some ⟨g, 0, none⟩) (l ++ [x]).length c) (l ++ [x]).length (qv (l ++ [x])) → (W.alloc (Obj.cells #[.int .i64 (x : Int)] 3)).grownBy w' (Value.slice po l.length pc).ownBlock → ((Value.slice po l.length pc).ownBlock = some g ∨ W.heap.size ≤ g) → wpList Tryd.prog ops Q rest (a.put o.dst (.slice (some ⟨g, 0, none⟩) (l ++ [x]).length c)) w') :
    wpList Tryd.prog ops Q (o :: rest) a (W.alloc (Obj.cells #[.int .i64 (x : Int)] 3)) := by
  obtain ⟨i3, hi3, hy0, hy1, hy2⟩ := info_parts Tryd.info3
  refine wpList_append_lies _ hgd s y 29 ho base 3 i3 (.int .i64 0) 1 8 Tryd.underlying29 hi3 hy0 hy1 hy2 rfl (by decide) _ _ _ hs (hown.alloc _) ⟨W.heap.size, 0, none⟩ 1 1 [.int .i64 (x : Int)] hy rfl ?_ ?_ (by omega) ?_ ?_ ?_ (W.heap.size + 1) (by simp) ?_
  · exact cell_one_new _ _ _
  · intro y hy; simp at hy; subst hy; rfl
  · unfold maxLen; omega
  · omega
  · simp; omega
  · intro g c w' h1 h2 h3 _
    have := h g c w' (by simpa [qv] using h1) h2 (h3.imp id (fun h => by omega))
    simpa using this
/-- Many numbers more. -/
theorem wpList_pushAll {W : World} {ops : Array Oper} {rest : List Oper} {o : Oper} {a : Act} {Q : Exit → Act → World → Prop} {base : Nat} {po : Option Addr} {pc n : Nat} {l : List Nat} {g0 m c0 : Nat} {f : Nat → Nat} (hln : l.length = n) (hgd : o.guard = none) (s y : Operand)
    (ho : o.op = .call { callee := .builtin .append, args := #[s, y], argTypes := #[29, 29] }) (hs : a.eval s = .slice po n pc) (hy : a.eval y = .slice (some ⟨g0, 0, none⟩) m c0)
    (hown : W.ownsRow base 3 1 (.slice po l.length pc) l.length (qv l)) (hrow : RowN W g0 m f) (hm : 0 < m) (hl : n ≤ 1000000) (hm2 : m ≤ 1000000) (hbase : base ≤ W.heap.size)
    (h : ∀ g c w', w'.ownsRow base 3 1 (.slice (some ⟨g, 0, none⟩) (l ++ (List.range m).map f).length c) (l ++ (List.range m).map f).length (qv (l ++ (List.range m).map f)) → W.grownBy w' (Value.slice po n pc).ownBlock → wpList Tryd.prog ops Q rest (a.put o.dst (.slice (some ⟨g, 0, none⟩) (l ++ (List.range m).map f).length c)) w') :
    wpList Tryd.prog ops Q (o :: rest) a W := by
  subst hln
  obtain ⟨i3, hi3, hy0, hy1, hy2⟩ := info_parts Tryd.info3
  refine wpList_append_lies _ hgd s y 29 ho base 3 i3 (.int .i64 0) 1 8 Tryd.underlying29 hi3 hy0 hy1 hy2 rfl (by decide) _ _ _ hs hown ⟨g0, 0, none⟩ m c0 (qv ((List.range m).map f)) hy (by simp [qv]) ?_ ?_ hm ?_ ?_ hbase W.heap.size rfl ?_
  · intro j u hj
    have hjm : j < m := by
      have := (List.getElem?_eq_some_iff.1 hj).1
      simpa [qv] using this
    have : (⟨g0, 0, none⟩ : Addr).add j = ⟨g0, j, none⟩ := by unfold Addr.add; split <;> simp_all
    rw [this, hrow.cell hjm]
    simp [qv, hjm] at hj
    rw [hj]
  · intro y hy
    simp [qv] at hy
    obtain ⟨_, _, rfl⟩ := hy
    rfl
  · unfold maxLen; omega
  · omega
  · intro g c w' h1 h2 _ _
    have := h g c w' (by simpa [qv] using h1) h2
    simpa using this

def lenOf' : Value → Nat | .slice _ n _ => n | _ => 0
def firstK (U : Nat → Nat) (k : Nat) : List Nat := (List.range k).map U
theorem firstK_len (U : Nat → Nat) (k : Nat) : (firstK U k).length = k := by simp [firstK]
theorem firstK_upd (U : Nat → Nat) (k x : Nat) : firstK (upd U k x) (k + 1) = firstK U k ++ [U k] := by
  unfold firstK
  rw [List.range_succ, List.map_append]
  congr 1
  · exact List.map_congr_left fun i hi => upd_le (by simp at hi; omega)
  · simp [upd_le]
def ringL (U V : Nat → Nat) (k : Nat) : List Nat := (firstK U k ++ [U k]) ++ (List.range (firstK V k).length).map fun x => (firstK V k).getD ((firstK V k).length - 1 - x) 0
theorem ringL_len (U V : Nat → Nat) (k : Nat) : (ringL U V k).length = 2 * k + 1 := by
  simp [ringL, firstK_len]
  omega
theorem ringL_get (U V : Nat → Nat) (k : Nat) {j : Nat} (hj : j < 2 * k + 1) : (ringL U V k).getD j 0 = ringOf k U V j := by
  unfold ringL ringOf
  rw [firstK_len, List.getD_eq_getElem?_getD]
  by_cases c : j ≤ k
  · rw [if_pos c, List.getElem?_append_left (by simp [firstK_len]; omega)]
    by_cases c2 : j < k
    · rw [List.getElem?_append_left (by simp [firstK_len]; omega)]
      simp [firstK, c2]
    · have : j = k := by omega
      subst this
      rw [List.getElem?_append_right (by simp [firstK_len])]
      simp [firstK_len]
  · rw [if_neg c, List.getElem?_append_right (by simp [firstK_len]; omega)]
    have h1 : j - (firstK U k ++ [U k]).length = j - (k + 1) := by simp [firstK_len]
    rw [h1]
    have h2 : j - (k + 1) < k := by omega
    have h3 : k - 1 - (j - (k + 1)) < k := by omega
    have h4 : k - 1 - (j - (k + 1)) = 2 * k - j := by omega
    have h5 : 2 * k - j < k := by omega
    simp [firstK, h2, h4, h5]

set_option maxRecDepth 4000 in
set_option maxHeartbeats 4000000 in
theorem oddRing_call {w : World} {N : Nat} {ao : Option Addr} {cap : Nat} {bl : Nat → Nat} {e : Nat → Nat → Bool} (hnear : NearsAt w ao N bl e) (hN : N ≤ 1000) {bf : Nat} {far : Nat → Nat} (hrow : RowV w bf 3 N (fun x => .int .i64 (far x : Nat))) (hfar : ∀ x, x < N → far x ≤ 1000)
    (hs : ∀ a b, a < N → b < N → e a b = true → e b a = true) {P : Nat → Prop} (hstep : ∀ x, P x → far x ≠ 0 → ∃ p, p < N ∧ e x p = true ∧ far p + 1 = far x) (hcl : ∀ x y, P x → y < N → e x y = true → P y) (hz : ∀ x y, P x → P y → far x = 0 → far y = 0 → x = y)
    {a b : Nat} (ha : a < N) (hb : b < N) (hpa : P a) (hpb : P b) (hab : a ≠ b) (he : e a b = true) (hff : far a = far b) :
    Calls Tryd.prog 45 #[.slice ao N cap, .slice (some ⟨bf, 0, none⟩) N N, .agg #[.int .i64 (a : Int), .int .i64 (b : Int)]] w fun r w' => ∃ g n c rg, r = .returned (.slice (some ⟨g, 0, none⟩) n c) ∧ n ≤ 3000 ∧ n % 2 = 1 ∧ w.heap.size ≤ g ∧ RowN w' g n rg ∧ RingF N e n rg ∧ Below w.heap.size w w' := by
  have hfa := hfar a ha
  have HN : Hid _ := hnear
  have HW : Hid _ := hrow
  have HF : Hid _ := hfar
  have HS : Hid _ := hs
  have HST : Hid _ := hstep
  have HCL : Hid _ := hcl
  have HZ : Hid _ := hz
  have hclimb : Climb N e P far a b 0 (fun _ => a) (fun _ => b) := ⟨rfl, rfl, fun _ _ => hpa, fun _ _ => hpb, fun i hi => ⟨ha, by omega⟩, fun i hi => ⟨hb, by omega⟩, fun i hi => by omega, fun i hi => by omega, fun i hi => by omega⟩
  have HCB : Hid _ := hclimb
  have HAB : Hid _ := hab
  have HED : Hid _ := he
  clear hnear hrow hfar hs hstep hcl hz hclimb hab he hff hpa hpb
  go_enter Tryd.func45, Tryd.ntmps45
  go_upto_region 1 with (fail)
  have t5 := two_new w (.int .i64 (a : Int)) (.int .i64 (b : Int)) 50
  have hB := below_alloc (Below.refl _ w) (Obj.cells #[.int .i64 (a : Int), .int .i64 (b : Int)] 50)
  generalize w.alloc (Obj.cells #[.int .i64 (a : Int), .int .i64 (b : Int)] 50) = W at t5 hB ⊢
  obtain ⟨z1, z2⟩ := cell_two t5
  go_region
  all_goals
    clear z1 z2 t5
    replace hB := hB.drew
    generalize W.drew = W' at hB ⊢
    go_wp2
    go_loopw [7, 8, 9, 10] (fun p q u v wr => ∃ (k : Nat) (U V : Nat → Nat), Climb N e P far a b k U V ∧ p = .int .i64 (U k : Int) ∧ q = .int .i64 (V k : Int) ∧ wr.ownsRow w.heap.size 3 1 u (firstK U k).length (qv (firstK U k)) ∧ wr.ownsRow w.heap.size 3 1 v (firstK V k).length (qv (firstK V k)) ∧ (∀ g, u.ownBlock = some g → v.ownBlock ≠ some g) ∧ Below w.heap.size w wr) (fun _ _ u _ _ => far a - lenOf' u)
    case atStart => exact ⟨0, _, _, HCB.out, rfl, rfl, by simpa [firstK, qv] using World.ownsRow_nil _ _ _ _, by simpa [firstK, qv] using World.ownsRow_nil _ _ _ _, fun g h => by simp [Value.ownBlock] at h, hB⟩
    case round =>
      obtain ⟨k, U, V, hc, rfl, rfl, hu, hv, hsep, hBr⟩ := hrel
      obtain ⟨uo, uc, rfl⟩ := form_row hu
      have hkl : (firstK U k).length ≤ k := Nat.le_of_eq (firstK_len U k)
      have hkl2 : (firstK V k).length ≤ k := Nat.le_of_eq (firstK_len V k)
      have hku := (hc.ul k (Nat.le_refl _)).2
      have hul := (hc.ul k (Nat.le_refl _)).1
      have hvl := (hc.vl k (Nat.le_refl _)).1
      have hkv := (hc.vl k (Nat.le_refl _)).2
      have hsz := hBr.size
      clear hB
      by_cases hne : U k = V k
      · have hk0 : 0 < k := by
          rcases Nat.eq_zero_or_pos k with h0 | h0
          · subst h0; rw [hc.ua, hc.vb] at hne; exact absurd hne HAB.out
          · exact h0
        have hring := hc.ring HS.out hne HAB.out HED.out
        obtain ⟨gv, vc, rfl, hgve, hgvl⟩ := hv.form (by rw [firstK_len]; exact hk0)
        have hrv := rowN_own hv
        have HRV : Hid _ := hrv
        have HRG : Hid _ := hring
        have HSEP : Hid _ := hsep
        have hgu : ∀ g, (Value.slice uo (firstK U k).length uc).ownBlock = some g → g ≠ gv := fun g h h' => by
          subst h'
          exact hsep g h (by simp [Value.ownBlock])
        have HGU : Hid _ := hgu
        rw [← hne]
        have hm0 : 0 < (firstK V k).length := by rw [firstK_len]; exact hk0
        have HM0 : Hid _ := hm0
        clear hrv hring hsep hgu hc hne hkv hvl hv hm0
        go_upto_region 8 with (first
          | (go_at_call 64; refine (reverse_call HRV.out (by omega)).mono ?_; rintro r w1 ⟨rfl, hrev, hT1⟩)
          | go_in)
        have hu1 := ownsRow_blocks hu (w' := w1) (fun b hb => hT1.block b (hu.lt b hb).2 (fun h => HGU.out b hb h))
        have hB1 := hT1.below hBr hsz (fun j hj => by omega)
        have hs1 := hT1.size
        clear hu hBr hT1
        go_wp2_with (first
          | (at_builtin; (fail_if_success (have hh := hown1)); refine wpList_push2 (x := U k) rfl _ _ rfl rfl rfl hu1 (by omega) (by omega) ?_; intro g1 c1 w2 hown1 hgr1 hat1; have T2 := (alloc_turns w1 (Obj.cells #[.int .i64 (U k : Int)] 3) _).trans (Turns.of_grown hgr1); have hrev2 := hrev.block (T2.block _ hrev.lt (fun h => HGU.out gv h.symm rfl)); have hB2 := T2.below hB1 hB1.size (fun j hj => (hu1.lt j hj.symm).1); have hs2 := T2.size)
          | (at_builtin; refine wpList_pushAll (l := firstK U k ++ [U k]) (by simp) rfl _ _ rfl rfl rfl hown1 hrev2 HM0.out (by omega) (by omega) (by omega) ?_; intro g3 c3 w3 hown3 hgr3)
          | go_in)
        have hB3 := (Turns.of_grown hgr3).below hB2 hB2.size (fun j hj => (hown1.lt j hj.symm).1)
        go_ret
        have hrow3 := (rowN_own (l := ringL U V k) hown3).congr (fun j hj => ringL_get U V k (by rw [ringL_len] at hj; exact hj))
        rw [ringL_len] at hrow3
        refine ⟨g3, 2 * k + 1, c3, ringOf k U V, ?_, by omega, by omega, (hown3.lt g3 rfl).1, hrow3, HRG.out, hB3⟩
        have e1 : (firstK U k).length + ((firstK V k).length + 1) = 2 * k + 1 := by rw [firstK_len, firstK_len]; omega
        rw [← e1]
        rfl
      · have hne' : ¬ (U k : Int) = (V k : Int) := by omega
        have hpos : far (U k) ≠ 0 := fun h0 => hne (HZ.out _ _ (hc.up k (Nat.le_refl _)) (hc.vp k (Nat.le_refl _)) h0 (by omega))
        have hxu := HST.out _ (hc.up k (Nat.le_refl _)) hpos
        have hxv := HST.out _ (hc.vp k (Nat.le_refl _)) (by omega)
        have HC : Hid _ := hc
        have HXU : Hid _ := hxu
        have HXV : Hid _ := hxv
        have HNE : Hid _ := hne
        have HSEP : Hid _ := hsep
        clear hc hxu hxv hne hsep
        have i1 : (0 : Int) ≤ (U k : Int) := by omega
        obtain ⟨vo, vc, rfl⟩ := form_row hv
        have hvb : ∀ g, (Value.slice vo (firstK V k).length vc).ownBlock = some g → g < wr.heap.size := fun g hg => (hv.lt g hg).2
        have HVB : Hid _ := hvb
        clear hvb
        go_upto_region 5 with (first
          | (at_builtin; refine wpList_push2 (x := U k) rfl _ _ rfl rfl rfl hu (by omega) (by omega) ?_; intro g1 c1 w1 hown1 hgr1 hat1)
          | go_in)
        have T1 := (alloc_turns wr (Obj.cells #[.int .i64 (U k : Int)] 3) _).trans (Turns.of_grown hgr1)
        have hv1 := ownsRow_blocks hv (w' := w1) (fun b hb => T1.block b (hv.lt b hb).2 (fun h => HSEP.out b h.symm hb))
        have hB1 := T1.below hBr hsz (fun j hj => (hu.lt j hj.symm).1)
        have hs1 := T1.size
        have hg1v : (Value.slice vo (firstK V k).length vc).ownBlock ≠ some g1 := fun h => by
          rcases hat1 with h1 | h1
          · exact HSEP.out g1 h1 h
          · have := HVB.out g1 h; omega
        have hg1l : g1 < w1.heap.size := (hown1.lt g1 rfl).2
        have HG1 : Hid _ := hg1v
        clear hgr1 hat1 hu hv T1 hBr hg1v
        go_upto_region 6 with (first
          | (at_builtin; refine wpList_push2 (x := V k) rfl _ _ rfl rfl rfl hv1 (by omega) (by omega) ?_; intro g2 c2 w2 hown2 hgr2 hat2)
          | go_in)
        have T2 := (alloc_turns w1 (Obj.cells #[.int .i64 (V k : Int)] 3) _).trans (Turns.of_grown hgr2)
        have hu2 := ownsRow_blocks hown1 (w' := w2) (fun b hb => T2.block b (hown1.lt b hb).2 (fun h => by
          have hb' : b = g1 := by simpa [Value.ownBlock] using hb.symm
          subst hb'
          exact HG1.out h.symm))
        have hB2 := T2.below hB1 hB1.size (fun j hj => (hv1.lt j hj.symm).1)
        have hg12 : g1 ≠ g2 := fun h => by
          subst h
          rcases hat2 with h1 | h1
          · exact HG1.out h1
          · omega
        clear hgr2 hat2 hv1 hown1 T2 hB1 HG1
        have hn2 := NearsAt.below HN.out hB2
        have hr2 : RowV w2 bf 3 N (fun x => .int .i64 (far x : Nat)) := RowV.block HW.out (hB2.block _ (RowV.lt HW.out))
        have l1 := nearer_call (cap := cap) hn2 hN hr2 HF.out hul HXU.out
        have l2 := fun (w' : World) (hb : Below w2.heap.size w2 w') => nearer_call (cap := cap) (hn2.below hb) hN (hr2.block (hb.block _ hr2.lt)) HF.out hvl HXV.out
        have H1 : Hid _ := l1
        have H2 : Hid _ := l2
        clear l1 l2 hn2 hr2 HXU HXV
        go_wp2_with (first
          | (go_at_call 63; (fail_if_success (have hh := hbA)); refine Calls.mono H1.out ?_; rintro r wa ⟨x, rfl, hx, hex, hfx, hbA⟩)
          | (go_at_call 63; refine (H2.out _ hbA).mono ?_; rintro r wb ⟨y, rfl, hy, hey, hfy, hbB⟩)
          | go_in)
        have hC2 := HC.out.step HNE.out hx hex hfx (HCL.out _ _ (HC.out.up k (Nat.le_refl _)) hx hex) hy hey hfy (HCL.out _ _ (HC.out.vp k (Nat.le_refl _)) hy hey)
        have hbw := below_next hbA hbB
        go_roundw
        case rel =>
          refine ⟨k + 1, _, _, hC2, by rw [upd_gt], by rw [upd_gt], ?_, ?_, fun g h h' => ?_, below_self hB2 hbw hB2.size⟩
          · rw [firstK_upd]; have hh := ownsRow_blocks hu2 (fun b hb => hbw.block b (hu2.lt b hb).2); simpa using hh
          · rw [firstK_upd]; have hh := ownsRow_blocks hown2 (fun b hb => hbw.block b (hown2.lt b hb).2); simpa using hh
          · simp [Value.ownBlock] at h h'
            omega
        case measure => simp [lenOf', firstK_len]; omega
end Go.Proofs.YtenjkhgpfmfgmaaDoor
