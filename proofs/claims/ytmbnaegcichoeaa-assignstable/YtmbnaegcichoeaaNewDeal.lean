/- newDeal. -/
import Derived.Test.YtmbnaegcichoeaaAnyhow
import Derived.Test.YtmbnaegcichoeaaCost
import Derived.Test.YtmbnaegcichoeaaRepeat
import Derived.Test.YtmbnaegcichoeaaShift
namespace Go.Proofs.Ytmbnaegcichoeaa
open Go.RowKit Go.Maps
attribute [local go_sem ↓] Go.wp_at_zero Go.wp_at_succ

/-- newDeal's frame while its deal is made. -/
def A19 (v : Value) (n : Nat) (f : Nat → Value) : Act :=
  { tmps := #[v, undef, Value.pointer none, Value.int IntKind.i64 (n : Int), f 13, undef, v, Value.int IntKind.i64 (n : Int), f 0, f 1, f 2, f 3, f 4, f 5, f 6, f 7, f 8, f 9, f 10, f 11, f 12, undef, undef, undef, undef, undef, undef, undef, undef, undef, undef, undef, undef, undef, undef, undef, undef, undef], defers := [] }
def upd {α : Type} (f : Nat → α) (i : Nat) (x : α) : Nat → α := fun j => if j = i then x else f j
theorem upd_self {α : Type} (f : Nat → α) (i : Nat) (x : α) : upd f i x i = x := by simp [upd]
theorem upd_ne {α : Type} (f : Nat → α) {i j : Nat} (x : α) (h : j ≠ i) : upd f i x j = f j := by simp [upd, h]
/-- What the operation j has left. -/
def Fd (v : Value) (n : Nat) (f : Nat → Value) (B : Nat → Nat) (L : Nat → Bool) (w : World) : Nat → Prop
  | 0 => f 0 = v
  | 1 => f 1 = .int .i64 (n : Int)
  | 2 => f 2 = sl (B 2) n ∧ RowV w (B 2) 3 n (fun _ => .int .i64 0)
  | 3 => f 3 = .int .i64 (n : Int)
  | 4 => f 4 = sl (B 4) n ∧ RowV w (B 4) 3 n (fun _ => .int .i64 0)
  | 5 => f 5 = .slice (some ⟨B 5, 0, none⟩) 1 1 ∧ w.cell? ⟨B 5, 0, none⟩ = some (.int .i64 (-1))
  | 6 => f 6 = .int .i64 (n : Int)
  | 7 => f 7 = sl (B 7) n ∧ RowV w (B 7) 3 n (fun _ => .int .i64 (-1))
  | 8 => f 8 = .slice (some ⟨B 8, 0, none⟩) 1 1 ∧ w.cell? ⟨B 8, 0, none⟩ = some (.int .i64 (-1))
  | 9 => f 9 = .int .i64 (n : Int)
  | 10 => f 10 = sl (B 10) n ∧ RowV w (B 10) 3 n (fun _ => .int .i64 (-1))
  | 11 => (L 2 = true ∧ L 4 = true ∧ L 7 = true ∧ L 10 = true) ∧ f 11 = .agg #[v, sl (B 2) n, sl (B 4) n, sl (B 7) n, sl (B 10) n]
  | 12 => (L 2 = true ∧ L 4 = true ∧ L 7 = true ∧ L 10 = true) ∧ f 12 = ptr (B 12) ∧ Box w (B 12) #[v, sl (B 2) n, sl (B 4) n, sl (B 7) n, sl (B 10) n] 46
  | 13 => L 12 = true ∧ f 13 = ptr (B 12)
  | _ => True
def mk19 (i : Nat) : Prop := i = 2 ∨ i = 4 ∨ i = 7 ∨ i = 10 ∨ i = 12
structure NF (w0 : World) (v : Value) (n : Nat) (f : Nat → Value) (B : Nat → Nat) (L : Nat → Bool) (w : World) : Prop where
  bel : Below w0.heap.size w0 w
  fd : ∀ j, L j = true → Fd v n f B L w j
  ge : ∀ i, mk19 i → L i = true → w0.heap.size ≤ B i ∧ B i < w.heap.size
  ne : ∀ i j, mk19 i → mk19 j → i ≠ j → L i = true → L j = true → B i ≠ B j
theorem Fd.keep {v : Value} {n : Nat} {f f' : Nat → Value} {B B' : Nat → Nat} {L L' : Nat → Bool} {w w' : World} {j : Nat} (h : Fd v n f B L w j) (hj : L j = true) (hb : Below w.heap.size w w') (hf : ∀ k, L k = true → f' k = f k ∧ B' k = B k ∧ L' k = true) : Fd v n f' B' L' w' j := by
  have hR : ∀ {b m : Nat} {q : Nat → Value}, RowV w b 3 m q → RowV w' b 3 m q := fun hr => hr.block (hb.block _ hr.lt)
  have hC : ∀ {a : Addr} {x : Value}, w.cell? a = some x → w'.cell? a = some x := fun hc => (hb.cell (World.block_lt_of_cell? w _ hc)).trans hc
  obtain ⟨e1, e2, _⟩ := hf j hj
  match j with
  | 0 | 1 | 3 | 6 | 9 => show _ = _; exact e1.trans h
  | 2 | 4 | 7 | 10 => exact ⟨by rw [e1, e2]; exact h.1, by rw [e2]; exact hR h.2⟩
  | 5 | 8 => exact ⟨by rw [e1, e2]; exact h.1, by rw [e2]; exact hC h.2⟩
  | 11 =>
    obtain ⟨⟨l1, l2, l3, l4⟩, h2⟩ := h
    refine ⟨⟨(hf _ l1).2.2, (hf _ l2).2.2, (hf _ l3).2.2, (hf _ l4).2.2⟩, ?_⟩
    rw [e1, (hf _ l1).2.1, (hf _ l2).2.1, (hf _ l3).2.1, (hf _ l4).2.1]
    exact h2
  | 12 =>
    obtain ⟨⟨l1, l2, l3, l4⟩, h2, h3⟩ := h
    refine ⟨⟨(hf _ l1).2.2, (hf _ l2).2.2, (hf _ l3).2.2, (hf _ l4).2.2⟩, by rw [e1, e2]; exact h2, ?_⟩
    rw [e2, (hf _ l1).2.1, (hf _ l2).2.1, (hf _ l3).2.1, (hf _ l4).2.1]
    exact (hb.block _ (Array.getElem?_eq_some_iff.1 h3).1).trans h3
  | 13 =>
    obtain ⟨l1, h2⟩ := h
    exact ⟨(hf _ l1).2.2, by rw [e1, (hf _ l1).2.1]; exact h2⟩
  | _ + 14 => trivial
theorem NF.step {w0 w w' : World} {v : Value} {n : Nat} {f : Nat → Value} {B : Nat → Nat} {L : Nat → Bool} (h : NF w0 v n f B L w) {i : Nat} (hi : L i = false) {x : Value} {b : Nat} (hb : Below w.heap.size w w') (hm : mk19 i → w.heap.size ≤ b ∧ b < w'.heap.size)
    (hnew : Fd v n (upd f i x) (upd B i b) (also L i) w' i) : NF w0 v n (upd f i x) (upd B i b) (also L i) w' := by
  have hk : ∀ k, L k = true → upd f i x k = f k ∧ upd B i b k = B k ∧ also L i k = true := fun k hk => by
    have : k ≠ i := fun e => by rw [e, hi] at hk; cases hk
    exact ⟨upd_ne _ _ this, upd_ne _ _ this, also_of hk i⟩
  refine ⟨below_next h.bel hb, fun j hj => ?_, fun j hm' hj => ?_, fun j k hj hk' hne l1 l2 => ?_⟩
  · by_cases e : j = i
    · rw [e]; exact hnew
    · exact (h.fd j (also_ne hj e)).keep (also_ne hj e) hb hk
  · by_cases e : j = i
    · subst e
      rw [upd_self]
      have := hm hm'
      have := h.bel.size
      omega
    · rw [upd_ne _ _ e]
      have := h.ge j hm' (also_ne hj e)
      have := hb.size
      omega
  · by_cases e : j = i
    · have e2 : k ≠ i := fun e' => hne (e.trans e'.symm)
      subst e
      rw [upd_self, upd_ne _ _ e2]
      have := hm hj
      have := h.ge k hk' (also_ne l2 e2)
      omega
    · by_cases e2 : k = i
      · subst e2
        rw [upd_self, upd_ne _ _ e]
        have := hm hk'
        have := h.ge j hj (also_ne l1 e)
        omega
      · rw [upd_ne _ _ e, upd_ne _ _ e2]
        exact h.ne j k hj hk' hne (also_ne l1 e) (also_ne l2 e2)

theorem put19 (v : Value) (n : Nat) (f : Nat → Value) (x : Value) :
    (A19 v n f).put (some 8) x = A19 v n (upd f 0 x) ∧ (A19 v n f).put (some 9) x = A19 v n (upd f 1 x) ∧ (A19 v n f).put (some 10) x = A19 v n (upd f 2 x) ∧ (A19 v n f).put (some 11) x = A19 v n (upd f 3 x) ∧
    (A19 v n f).put (some 12) x = A19 v n (upd f 4 x) ∧ (A19 v n f).put (some 13) x = A19 v n (upd f 5 x) ∧ (A19 v n f).put (some 14) x = A19 v n (upd f 6 x) ∧ (A19 v n f).put (some 15) x = A19 v n (upd f 7 x) ∧
    (A19 v n f).put (some 16) x = A19 v n (upd f 8 x) ∧ (A19 v n f).put (some 17) x = A19 v n (upd f 9 x) ∧ (A19 v n f).put (some 18) x = A19 v n (upd f 10 x) ∧ (A19 v n f).put (some 19) x = A19 v n (upd f 11 x) ∧
    (A19 v n f).put (some 20) x = A19 v n (upd f 12 x) ∧ (A19 v n f).put (some 4) x = A19 v n (upd f 13 x) := by
  refine ⟨rfl, rfl, rfl, rfl, rfl, rfl, rfl, rfl, rfl, rfl, rfl, rfl, rfl, rfl⟩
/-- What lies there behind the making. -/
def LaidD (W0 wd : World) (v : Value) (n bp br bc bt bb : Nat) : Prop :=
  Box wd bp #[v, sl br n, sl bc n, sl bt n, sl bb n] 46 ∧ RowV wd br 3 n (fun _ => .int .i64 0) ∧ RowV wd bc 3 n (fun _ => .int .i64 0) ∧ RowV wd bt 3 n (fun _ => .int .i64 (-1)) ∧ RowV wd bb 3 n (fun _ => .int .i64 (-1)) ∧
    (W0.heap.size ≤ bp ∧ W0.heap.size ≤ br ∧ W0.heap.size ≤ bc ∧ W0.heap.size ≤ bt ∧ W0.heap.size ≤ bb) ∧ (bp ≠ br ∧ bp ≠ bc ∧ bp ≠ bt ∧ bp ≠ bb ∧ br ≠ bc ∧ br ≠ bt ∧ br ≠ bb ∧ bc ≠ bt ∧ bc ≠ bb ∧ bt ≠ bb) ∧ Below W0.heap.size W0 wd
theorem NF.laid {w0 w : World} {v : Value} {n : Nat} {f : Nat → Value} {B : Nat → Nat} {L : Nat → Bool} (h : NF w0 v n f B L w) (hL : ∀ i, i < 14 → L i = true) : f 13 = ptr (B 12) ∧ LaidD w0 w v n (B 12) (B 2) (B 4) (B 7) (B 10) := by
  have m2 : mk19 2 := Or.inl rfl
  have m4 : mk19 4 := Or.inr (Or.inl rfl)
  have m7 : mk19 7 := Or.inr (Or.inr (Or.inl rfl))
  have m10 : mk19 10 := Or.inr (Or.inr (Or.inr (Or.inl rfl)))
  have m12 : mk19 12 := Or.inr (Or.inr (Or.inr (Or.inr rfl)))
  have l2 := hL 2 (by omega)
  have l4 := hL 4 (by omega)
  have l7 := hL 7 (by omega)
  have l10 := hL 10 (by omega)
  have l12 := hL 12 (by omega)
  refine ⟨(h.fd 13 (hL 13 (by omega))).2, (h.fd 12 l12).2.2, (h.fd 2 l2).2, (h.fd 4 l4).2, (h.fd 7 l7).2, (h.fd 10 l10).2, ⟨(h.ge 12 m12 l12).1, (h.ge 2 m2 l2).1, (h.ge 4 m4 l4).1, (h.ge 7 m7 l7).1, (h.ge 10 m10 l10).1⟩, ⟨h.ne 12 2 m12 m2 (by omega) l12 l2, h.ne 12 4 m12 m4 (by omega) l12 l4, h.ne 12 7 m12 m7 (by omega) l12 l7, h.ne 12 10 m12 m10 (by omega) l12 l10, h.ne 2 4 m2 m4 (by omega) l2 l4, h.ne 2 7 m2 m7 (by omega) l2 l7, h.ne 2 10 m2 m10 (by omega) l2 l10, h.ne 4 7 m4 m7 (by omega) l4 l7, h.ne 4 10 m4 m10 (by omega) l4 l10, h.ne 7 10 m7 m10 (by omega) l7 l10⟩, h.bel⟩

set_option maxRecDepth 4000 in
set_option maxHeartbeats 2000000 in
theorem newDeal_call (w : World) (v : Value) (n : Nat) (C : Nat → Nat → Int) (hg : GridI w w.heap.size v n C) (hn : n ≤ 100) (hC : ∀ i j, i < n → j < n → -1000000 ≤ C i j ∧ C i j ≤ 1000000) :
    Calls Try.prog 19 #[v] w fun e w' => ∃ c : Dc, e = .returned (ptr c.bp) ∧ c.n = n ∧ c.v = v ∧ c.C = C ∧ (∀ k, c.own k → w.heap.size ≤ k) ∧ Below w.heap.size w w' ∧ ∃ r, DS c w' r (fun _ => 0) (fun _ => -1) (fun _ => -1) ∧ Mt n 0 C r (fun _ => 0) (fun _ => -1) (fun _ => -1) := by
  have HG : Hid (GridI w w.heap.size v n C) := hg
  obtain ⟨ao, cap, rfl⟩ := hg.form
  have HC : Hid (∀ i j, i < n → j < n → -1000000 ≤ C i j ∧ C i j ≤ 1000000) := hC
  clear hg hC
  have hRep : ∀ (w : World) (g0 : Nat), w.cell? ⟨g0, 0, none⟩ = some (.int .i64 (-1)) → Calls Try.prog 26 #[.slice (some ⟨g0, 0, none⟩) 1 1, .int .i64 (n : Int)] w fun r w' => ∃ b, r = .returned (sl b n) ∧ w.heap.size ≤ b ∧ RowV w' b 3 n (fun _ => .int .i64 (-1)) ∧ Below w.heap.size w w' := fun w g0 h => repeat_call h (by omega)
  have hmk := make27 n (by omega)
  have HMK : Hid (∀ w : World, (Instr.makeSlice 27 (.int .i64 (n : Int)) (.int .i64 (n : Int))).run Try.prog w = .ok (.slice (some ⟨w.heap.size, 0, none⟩) n n) (w.alloc (.cells (rep n (.int .i64 0)) 3))) := hmk
  clear hmk
  have HREP : Hid (∀ (w : World) (g0 : Nat), w.cell? ⟨g0, 0, none⟩ = some (.int .i64 (-1)) → Calls Try.prog 26 #[.slice (some ⟨g0, 0, none⟩) 1 1, .int .i64 (n : Int)] w fun r w' => ∃ b, r = .returned (sl b n) ∧ w.heap.size ≤ b ∧ RowV w' b 3 n (fun _ => .int .i64 (-1)) ∧ Below w.heap.size w w') := hRep
  clear hRep
  go_enter Try.func19, Try.ntmps19
  go_upto_region 2 with (fail)
  go_cut [4] from 8 to 20 (fun s4 wd => ∃ bp br bc bt bb : Nat, s4 = ptr bp ∧ LaidD w wd (.slice ao n cap) n bp br bc bt bb)
  case first =>
    refine region_inv (J := fun L a wd => ∃ f B, a = A19 (.slice ao n cap) n f ∧ NF w (.slice ao n cap) n f B L wd) (by kernel_rfl) (by kernel_rfl) ?_ ?_ ?_
    · exact ⟨fun _ => undef, fun _ => 0, rfl, ⟨(Below.refl _ w).drew, fun j hj => Bool.noConfusion hj, fun j _ hj => Bool.noConfusion hj, fun i j _ _ _ hj => Bool.noConfusion hj⟩⟩
    · intro i o hi L a w1 hJ hLi hd
      obtain ⟨f, B, rfl, h⟩ := hJ
      have P19 := put19 (.slice ao n cap) n f
      have hno : ∀ {i : Nat}, ¬ mk19 i → mk19 i → w1.heap.size ≤ 0 ∧ 0 < w1.heap.size := fun h1 h2 => absurd h2 h1
      match i, hi with
      | 0, hi =>
        cases hi
        refine wpOp_value rfl rfl (v := .slice ao n cap) (w' := w1) rfl ?_
        exact ⟨_, upd B 0 0, (P19 _).1, h.step hLi (Below.refl _ _) (hno (by unfold mk19; omega)) (by simp [Fd, upd])⟩
      | 1, hi =>
        cases hi
        refine wpOp_value rfl rfl (v := .int .i64 (n : Int)) (w' := w1) rfl ?_
        exact ⟨_, upd B 1 0, (P19 _).2.1, h.step hLi (Below.refl _ _) (hno (by unfold mk19; omega)) (by simp [Fd, upd])⟩
      | 2, hi =>
        cases hi
        have e1 : f 1 = .int .i64 (n : Int) := h.fd 1 (hd ⟨1, .data⟩ (by simp) rfl)
        refine wpOp_value rfl rfl (v := sl w1.heap.size n) (w' := w1.alloc (.cells (rep n (.int .i64 0)) 3)) ?_ ?_
        · have := HMK.out w1
          simp [go_sem, A19, Act.eval, e1, this]
        · exact ⟨_, upd B 2 w1.heap.size, (P19 _).2.2.1, h.step hLi (below_alloc (Below.refl _ _) _) (fun _ => by simp) (by simp only [Fd, upd]; exact ⟨rfl, rowV_rep (heap_alloc_new _ _)⟩)⟩
      | 3, hi =>
        cases hi
        refine wpOp_value rfl rfl (v := .int .i64 (n : Int)) (w' := w1) rfl ?_
        exact ⟨_, upd B 3 0, (P19 _).2.2.2.1, h.step hLi (Below.refl _ _) (hno (by unfold mk19; omega)) (by simp [Fd, upd])⟩
      | 4, hi =>
        cases hi
        have e1 : f 3 = .int .i64 (n : Int) := h.fd 3 (hd ⟨3, .data⟩ (by simp) rfl)
        refine wpOp_value rfl rfl (v := sl w1.heap.size n) (w' := w1.alloc (.cells (rep n (.int .i64 0)) 3)) ?_ ?_
        · have := HMK.out w1
          simp [go_sem, A19, Act.eval, e1, this]
        · exact ⟨_, upd B 4 w1.heap.size, (P19 _).2.2.2.2.1, h.step hLi (below_alloc (Below.refl _ _) _) (fun _ => by simp) (by simp only [Fd, upd]; exact ⟨rfl, rowV_rep (heap_alloc_new _ _)⟩)⟩
      | 5, hi =>
        cases hi
        refine wpOp_value rfl rfl (v := .slice (some ⟨w1.heap.size, 0, none⟩) 1 1) (w' := w1.alloc (.cells #[.int .i64 (-1)] 3)) ?_ ?_
        · simp [go_sem, Act.eval]
        · exact ⟨_, upd B 5 w1.heap.size, (P19 _).2.2.2.2.2.1, h.step hLi (below_alloc (Below.refl _ _) _) (fun _ => by simp) (by simp only [Fd, upd]; exact ⟨rfl, one_cell _ _ _⟩)⟩
      | 6, hi =>
        cases hi
        refine wpOp_value rfl rfl (v := .int .i64 (n : Int)) (w' := w1) rfl ?_
        exact ⟨_, upd B 6 0, (P19 _).2.2.2.2.2.2.1, h.step hLi (Below.refl _ _) (hno (by unfold mk19; omega)) (by simp [Fd, upd])⟩
      | 7, hi =>
        cases hi
        obtain ⟨e5, c5⟩ := h.fd 5 (hd ⟨5, .data⟩ (by simp) rfl)
        have e6 : f 6 = .int .i64 (n : Int) := h.fd 6 (hd ⟨6, .data⟩ (by simp) rfl)
        refine wpOp_call rfl rfl (f := 26) (args := #[.slice (some ⟨B 5, 0, none⟩) 1 1, .int .i64 (n : Int)]) (w' := w1) ?_ ?_
        · simp [go_sem, A19, Act.eval, e5, e6]
        · refine (HREP.out w1 _ c5).mono ?_
          rintro e w2 ⟨b, rfl, hb1, hb2, hb3⟩
          exact ⟨_, rfl, _, upd B 7 b, (P19 _).2.2.2.2.2.2.2.1, h.step hLi hb3 (fun _ => ⟨hb1, hb2.lt⟩) (by simp only [Fd, upd]; exact ⟨rfl, hb2⟩)⟩
      | 8, hi =>
        cases hi
        refine wpOp_value rfl rfl (v := .slice (some ⟨w1.heap.size, 0, none⟩) 1 1) (w' := w1.alloc (.cells #[.int .i64 (-1)] 3)) ?_ ?_
        · simp [go_sem, Act.eval]
        · exact ⟨_, upd B 8 w1.heap.size, (P19 _).2.2.2.2.2.2.2.2.1, h.step hLi (below_alloc (Below.refl _ _) _) (fun _ => by simp) (by simp only [Fd, upd]; exact ⟨rfl, one_cell _ _ _⟩)⟩
      | 9, hi =>
        cases hi
        refine wpOp_value rfl rfl (v := .int .i64 (n : Int)) (w' := w1) rfl ?_
        exact ⟨_, upd B 9 0, (P19 _).2.2.2.2.2.2.2.2.2.1, h.step hLi (Below.refl _ _) (hno (by unfold mk19; omega)) (by simp [Fd, upd])⟩
      | 10, hi =>
        cases hi
        obtain ⟨e5, c5⟩ := h.fd 8 (hd ⟨8, .data⟩ (by simp) rfl)
        have e6 : f 9 = .int .i64 (n : Int) := h.fd 9 (hd ⟨9, .data⟩ (by simp) rfl)
        refine wpOp_call rfl rfl (f := 26) (args := #[.slice (some ⟨B 8, 0, none⟩) 1 1, .int .i64 (n : Int)]) (w' := w1) ?_ ?_
        · simp [go_sem, A19, Act.eval, e5, e6]
        · refine (HREP.out w1 _ c5).mono ?_
          rintro e w2 ⟨b, rfl, hb1, hb2, hb3⟩
          exact ⟨_, rfl, _, upd B 10 b, (P19 _).2.2.2.2.2.2.2.2.2.2.1, h.step hLi hb3 (fun _ => ⟨hb1, hb2.lt⟩) (by simp only [Fd, upd]; exact ⟨rfl, hb2⟩)⟩
      | 11, hi =>
        cases hi
        have l2 := hd ⟨2, .data⟩ (by simp) rfl
        have l4 := hd ⟨4, .data⟩ (by simp) rfl
        have l7 := hd ⟨7, .data⟩ (by simp) rfl
        have l10 := hd ⟨10, .data⟩ (by simp) rfl
        have e0 : f 0 = .slice ao n cap := h.fd 0 (hd ⟨0, .data⟩ (by simp) rfl)
        have e2 := (h.fd 2 l2).1
        have e4 := (h.fd 4 l4).1
        have e7 := (h.fd 7 l7).1
        have e10 := (h.fd 10 l10).1
        refine wpOp_value rfl rfl (v := .agg #[.slice ao n cap, sl (B 2) n, sl (B 4) n, sl (B 7) n, sl (B 10) n]) (w' := w1) ?_ ?_
        · simp [go_sem, A19, Act.eval, e0, e2, e4, e7, e10]
        · exact ⟨_, upd B 11 0, (P19 _).2.2.2.2.2.2.2.2.2.2.2.1, h.step hLi (Below.refl _ _) (hno (by unfold mk19; omega)) ⟨⟨also_of l2 _, also_of l4 _, also_of l7 _, also_of l10 _⟩, by simp [upd]⟩⟩
      | 12, hi =>
        cases hi
        obtain ⟨⟨l2, l4, l7, l10⟩, e⟩ := h.fd 11 (hd ⟨11, .data⟩ (by simp) rfl)
        refine wpOp_value rfl rfl (v := ptr w1.heap.size) (w' := w1.alloc (.cells #[.slice ao n cap, sl (B 2) n, sl (B 4) n, sl (B 7) n, sl (B 10) n] 46)) ?_ ?_
        · simp [go_sem, A19, Act.eval, e]
        · exact ⟨_, upd B 12 w1.heap.size, (P19 _).2.2.2.2.2.2.2.2.2.2.2.2.1, h.step hLi (below_alloc (Below.refl _ _) _) (fun _ => by simp) ⟨⟨also_of l2 _, also_of l4 _, also_of l7 _, also_of l10 _⟩, by simp [upd], by simp only [upd]; exact heap_alloc_new _ _⟩⟩
      | 13, hi =>
        cases hi
        have l12 := hd ⟨12, .data⟩ (by simp) rfl
        obtain ⟨_, e, _⟩ := h.fd 12 l12
        refine wpOp_value rfl rfl (v := ptr (B 12)) (w' := w1) ?_ ?_
        · simp [go_sem, A19, Act.eval, e]
        · exact ⟨_, upd B 13 0, (P19 _).2.2.2.2.2.2.2.2.2.2.2.2.2, h.step hLi (Below.refl _ _) (hno (by unfold mk19; omega)) ⟨also_of l12 _, by simp [upd]⟩⟩
      | _ + 14, hi => simp at hi
    · intro L a w1 hJ hL
      obtain ⟨f, B, rfl, h⟩ := hJ
      obtain ⟨e, hl⟩ := h.laid hL
      unfold A19
      rw [e]
      go_wp2_with fail
      go_meet
      case rel => exact ⟨_, _, _, _, _, rfl, hl⟩
  case rest =>
    clear HMK HREP
    obtain ⟨bp, br, bc, bt, bb, rfl, hl⟩ := hcut
    obtain ⟨h1, h2, h3, h4, h5, h6, h7, hBc⟩ := hl
    obtain ⟨c, hc⟩ : ∃ c : Dc, c = ⟨bp, br, bc, bt, bb, w.heap.size, n, .slice ao n cap, C⟩ := ⟨_, rfl⟩
    have HD0 : Hid (DS c wc (fun _ => 0) (fun _ => 0) (fun _ => -1) (fun _ => -1)) := by
      subst hc
      exact ⟨h1, h2, h3, h4, h5, GridI.turns HG.out (M := fun k => w.heap.size ≤ k) (Turns.of_below hBc _) (fun _ h => h), h6, h7⟩
    have HCV : Hid (c.v = .slice ao n cap ∧ c.C = C) := by subst hc; exact ⟨rfl, rfl⟩
    have HOW : Hid (∀ k, c.own k → w.heap.size ≤ k) := by
      subst hc
      rintro k (rfl | rfl | rfl | rfl | rfl)
      · exact h6.1
      · exact h6.2.1
      · exact h6.2.2.1
      · exact h6.2.2.2.1
      · exact h6.2.2.2.2
    have e1 : bp = c.bp := by rw [hc]
    have e2 : n = c.n := by rw [hc]
    have HLO : Hid (c.lo = w.heap.size) := by subst hc; rfl
    clear h1 h2 h3 h4 h5 h6 h7 hc HG
    subst e1
    subst e2
    go_wp2
    go_loopw [22] (fun iv' wr => ∃ k : Nat, k ≤ c.n ∧ iv' = .int .i64 (k : Int) ∧ (∃ r, DS c wr r (fun _ => 0) (fun _ => -1) (fun _ => -1) ∧ ∀ i, i < k → (∀ j, j < c.n → r i ≤ C i j) ∧ ∃ j, j < c.n ∧ r i = C i j) ∧ Turns (fun k => k = c.br) wc wr) (fun iv' _ => c.n - (numOf iv').toNat)
    case atStart => exact ⟨0, Nat.zero_le _, rfl, ⟨_, HD0.out, fun i hi => by omega⟩, Turns.refl _ _⟩
    case round =>
      clear HD0
      obtain ⟨k, hk, rfl, ⟨r, hds, hr⟩, ht⟩ := hrel
      have HDS : Hid (DS c wr r (fun _ => 0) (fun _ => -1) (fun _ => -1)) := hds
      have HR : Hid (∀ i, i < k → (∀ j, j < c.n → r i ≤ C i j) ∧ ∃ j, j < c.n ∧ r i = C i j) := hr
      by_cases hlt : k < c.n
      · have i1 : (0 : Int) ≤ (k : Int) := by omega
        have i2 : (k : Int) < (c.n : Int) := by omega
        obtain ⟨ao', cap', ev, hg⟩ := hds.grid
        have ev2 := HCV.out.1
        rw [ev2] at ev
        cases ev
        obtain ⟨b, off, vo, vc, rfl, _, g1, hg2⟩ := hg k hlt
        have hnum : NumF wr.drew vo c.n (fun j => C k j) := fun j hj => by
          obtain ⟨b', off', e, _, g⟩ := hg2 j hj
          rw [HCV.out.2] at g
          exact ⟨b', off', e, g⟩
        have h27 := min_call (vc := vc) hnum (by omega) (by omega)
        have H27 : Hid (Calls Try.prog 27 #[.slice vo c.n vc] wr.drew fun e w' => ∃ m, e = .returned (.int .i64 m) ∧ (∀ j, j < c.n → m ≤ C k j) ∧ (∃ j, j < c.n ∧ m = C k j) ∧ w' = wr.drew) := h27
        obtain ⟨_, s1, _, _, _⟩ := hds.cellB
        have ck := hds.rows.cell hlt
        have fk := hds.rows.free k
        unfold iv at ck
        generalize hrk : r k = rk at ck
        clear hds hr h27 hnum hg2 hg ev2 hrk
        go_upto_region 6 with (fail)
        go_region_with ((go_at_call 27; refine Calls.mono H27.out ?_; rintro e Wx ⟨m, rfl, hm1, hm2, hWx⟩; have a0 : Wx.cell? ⟨c.bp, 1, none⟩ = some (sl c.br c.n) := (by rw [hWx]; exact s1); have a1 : Wx.frozen? ⟨c.br, k, none⟩ = false := (by rw [hWx]; exact fk); have a2 : Wx.cell? ⟨c.br, k, none⟩ = some (.int .i64 rk) := (by rw [hWx]; exact ck); have HM1 : Hid (∀ j, j < c.n → m ≤ C k j) := hm1; have HM2 : Hid (∃ j, j < c.n ∧ m = C k j) := hm2; have HWx : Hid (Wx = wr.drew) := hWx; clear hWx hm1 hm2))
        all_goals
          have hbx : Below wr.heap.size wr Wx := by rw [HWx.out]; exact (Below.refl _ wr).drew
          have HD2 : Hid (DS c (Wx.setCell ⟨c.br, k, none⟩ (.int .i64 m)) (fun j => if j = k then m else r j) (fun _ => 0) (fun _ => -1) (fun _ => -1)) := DS.setR (DS.below HDS.out hbx) k m
          have ht2 : Turns (fun k => k = c.br) wc (Wx.setCell ⟨c.br, k, none⟩ (.int .i64 m)) := (ht.trans (Turns.of_below hbx _)).trans (setCell_turns _ _ _ _)
          go_wp2
          go_roundw
          case rel => exact ⟨k + 1, by omega, by go_num, ⟨_, HD2.out, fun i hi => by
            by_cases e : i = k
            · subst e; simp only [if_true]; exact ⟨HM1.out, HM2.out⟩
            · simp only [e, if_false]; exact HR.out i (by omega)⟩, ht2⟩
          case measure => simp [numOf]; omega
      · have i2 : ¬ (k : Int) < (c.n : Int) := by omega
        have hkn : k = c.n := by omega
        subst hkn
        clear hds hr
        go_wp2
        go_ret
        have hrb : ∀ i, i < c.n → -1000000 ≤ r i ∧ r i ≤ 1000000 := fun i hi => by
          obtain ⟨_, j, hj, e⟩ := HR.out i hi
          rw [e]; exact HC.out i j hi hj
        refine ⟨c, rfl, rfl, HCV.out.1, HCV.out.2, HOW.out, ?_, r, HDS.out, ?_⟩
        · exact Turns.below hBc ht hBc.size (fun k hk => by rw [hk]; exact HOW.out _ (Or.inr (Or.inl rfl)))
        · exact ⟨fun i j hi hj => by have := (HR.out i hi).1 j hj; omega, fun i hi => by omega, fun i _ _ => rfl, fun j _ => Or.inl rfl, fun i hi => (hrb i hi).1, fun j _ => by omega, fun j _ _ => rfl, fun i hi => by have := hrb i hi; omega, fun j _ => by omega⟩
end Go.Proofs.Ytmbnaegcichoeaa
