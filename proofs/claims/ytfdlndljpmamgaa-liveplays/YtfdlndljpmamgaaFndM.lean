/- Components by their least nodes, edge by edge: plain mathematics. -/
import Derived.Test.YtfdlndljpmamgaaHouseM
namespace Go.Proofs.Ytfdlndljpmamgaa
def cntN (N : Nat) (p : Nat → Bool) : Nat := ((List.range N).filter p).length
theorem cntN_succ (N : Nat) (p : Nat → Bool) : cntN (N + 1) p = cntN N p + if p N = true then 1 else 0 := by
  unfold cntN
  rw [List.range_succ, List.filter_append, List.length_append]
  by_cases h : p N = true
  · simp [h]
  · simp [h]
theorem cntN_congr {N : Nat} {p q : Nat → Bool} (h : ∀ v, v < N → p v = q v) : cntN N p = cntN N q := by
  induction N with
  | zero => rfl
  | succ N ih => rw [cntN_succ, cntN_succ, ih (fun v hv => h v (by omega)), h N (by omega)]
theorem cntN_drop {N : Nat} {p : Nat → Bool} {m : Nat} (hm : m < N) (hp : p m = true) : cntN N p = cntN N (fun v => p v && v != m) + 1 := by
  induction N with
  | zero => omega
  | succ N ih =>
    rw [cntN_succ, cntN_succ]
    by_cases e : m = N
    · subst e
      have h1 : cntN m p = cntN m (fun v => p v && v != m) := cntN_congr fun v hv => by
        have : (v != m) = true := by simp; omega
        simp [this]
      simp [hp, h1]
    · rw [ih (by omega)]
      have : (N != m) = true := by simp; omega
      simp [this]
      omega
theorem getD_range {N u : Nat} (h : u < N) : (List.range N).getD u 0 = u := by simp [List.getD, h]
theorem Star2.mono {N : Nat} {E F : Ed} (h : ∀ a b, E a b = true → F a b = true) {a b : Nat} (hs : Star (St2 N E) a b) : Star (St2 N F) a b :=
  Star.mono (fun a b h1 => ⟨h1.1, h1.2.imp (h a b) (h b a)⟩) hs
theorem fnd_start (N : Nat) : Fnd N (fun _ _ => false) (List.range N) N := by
  refine ⟨by simp, fun u v hu hv => ?_, fun u hu => ?_, ?_⟩
  · rw [getD_range hu, getD_range hv]
    constructor
    · rintro rfl; exact .refl _
    · intro h
      refine Star.ind (P := fun b => u = b) rfl (fun b c _ h1 _ => ?_) h
      obtain ⟨_, h2⟩ := h1
      simp at h2
  · rw [getD_range hu, getD_range hu]; exact ⟨Nat.le_refl _, rfl⟩
  · have : cntN N (fun v => (List.range N).getD v 0 == v) = cntN N (fun _ => true) := cntN_congr fun v hv => by rw [getD_range hv]; simp
    have h2 : cntN N (fun _ => true) = N := by
      unfold cntN
      rw [List.filter_eq_self.2 (fun _ _ => rfl), List.length_range]
    exact (this.trans h2).symm
theorem Fnd.congr {N c : Nat} {E F : Ed} {lab : List Nat} (h : Fnd N E lab c) (e : ∀ a b, E a b = F a b) : Fnd N F lab c := by
  have : E = F := by funext a b; exact e a b
  rw [← this]; exact h
theorem upd_step {E : Ed} {u v a b : Nat} (h : updE E u v true a b = true) : E a b = true ∨ (a = u ∧ b = v) := by
  unfold updE at h
  split at h
  · exact Or.inr ‹_›
  · exact Or.inl h
theorem upd_old {E : Ed} {u v a b : Nat} (h : E a b = true) : updE E u v true a b = true := by
  unfold updE; split <;> simp [h]
theorem upd_new {E : Ed} {u v : Nat} : updE E u v true u v = true := by simp [updE]
/-- An edge within a component. -/
theorem Fnd.within {N c : Nat} {E : Ed} {lab : List Nat} (h : Fnd N E lab c) {u v : Nat} (hu : u < N) (hv : v < N) (hl : lab.getD u 0 = lab.getD v 0) : Fnd N (updE E u v true) lab c := by
  refine ⟨h.len, fun x y hx hy => ⟨fun e => Star2.mono (fun a b => upd_old) ((h.same x y hx hy).1 e), fun hs => ?_⟩, h.low, h.count⟩
  have : lab.getD x 0 = lab.getD y 0 ∧ y < N := by
    refine Star.ind (P := fun b => lab.getD x 0 = lab.getD b 0 ∧ b < N) ⟨rfl, hx⟩ (fun b d _ h1 ih => ?_) hs
    obtain ⟨hd, h2⟩ := h1
    refine ⟨ih.1.trans ?_, hd⟩
    rcases h2 with h2 | h2
    · rcases upd_step h2 with h3 | ⟨rfl, rfl⟩
      · exact (h.same b d ih.2 hd).2 (.one ⟨hd, Or.inl h3⟩)
      · exact hl
    · rcases upd_step h2 with h3 | ⟨rfl, rfl⟩
      · exact (h.same b d ih.2 hd).2 (.one ⟨hd, Or.inr h3⟩)
      · exact hl.symm
  exact this.1
def relab (M m : Nat) (lab : List Nat) : List Nat := lab.map fun x => if x = M then m else x
theorem relab_get {M m : Nat} {lab : List Nat} {x : Nat} (hx : x < lab.length) : (relab M m lab).getD x 0 = if lab.getD x 0 = M then m else lab.getD x 0 := by
  simp [relab, List.getD, hx]
/-- An edge between two components. -/
theorem Fnd.join {N c : Nat} {E : Ed} {lab : List Nat} (h : Fnd N E lab c) {u v : Nat} (hu : u < N) (hv : v < N) (hl : lab.getD u 0 ≠ lab.getD v 0) :
    0 < c ∧ Fnd N (updE E u v true) (relab (max (lab.getD u 0) (lab.getD v 0)) (min (lab.getD u 0) (lab.getD v 0)) lab) (c - 1) := by
  obtain ⟨M, hM⟩ : ∃ M, max (lab.getD u 0) (lab.getD v 0) = M := ⟨_, rfl⟩
  obtain ⟨m, hm⟩ : ∃ m, min (lab.getD u 0) (lab.getD v 0) = m := ⟨_, rfl⟩
  rw [hM, hm]
  have hlu := h.low u hu
  have hlv := h.low v hv
  have hmM : m < M := by omega
  have hMn : M < N := by omega
  have hMM : lab.getD M 0 = M := by
    by_cases e : M = lab.getD u 0
    · rw [e]; exact hlu.2
    · have : M = lab.getD v 0 := by omega
      rw [this]; exact hlv.2
  have hmm : lab.getD m 0 = m := by
    by_cases e : m = lab.getD u 0
    · rw [e]; exact hlu.2
    · have : m = lab.getD v 0 := by omega
      rw [this]; exact hlv.2
  have hg : ∀ x, x < N → (relab M m lab).getD x 0 = if lab.getD x 0 = M then m else lab.getD x 0 := fun x hx => relab_get (by rw [h.len]; exact hx)
  have huv : (relab M m lab).getD u 0 = m ∧ (relab M m lab).getD v 0 = m := by
    rw [hg u hu, hg v hv]
    constructor
    · split <;> omega
    · split <;> omega
  have hsu : Star (St2 N (updE E u v true)) u v := .one ⟨hv, Or.inl upd_new⟩
  have hsv : Star (St2 N (updE E u v true)) v u := .one ⟨hu, Or.inr upd_new⟩
  have hold : ∀ x y, x < N → y < N → lab.getD x 0 = lab.getD y 0 → Star (St2 N (updE E u v true)) x y := fun x y hx hy e => Star2.mono (fun a b => upd_old) ((h.same x y hx hy).1 e)
  have hcnt : cntN N (fun v => lab.getD v 0 == v) = cntN N (fun v => (relab M m lab).getD v 0 == v) + 1 := by
    rw [cntN_drop (m := M) hMn (by show (lab.getD M 0 == M) = true; rw [hMM]; exact beq_self_eq_true _)]
    congr 1
    refine cntN_congr fun x hx => ?_
    rw [hg x hx, Bool.eq_iff_iff]
    simp only [Bool.and_eq_true, beq_iff_eq, bne_iff_ne, ne_eq]
    constructor
    · rintro ⟨h1, h2⟩; rw [if_neg (by omega)]; exact h1
    · intro h1
      split at h1
      · subst h1; omega
      · exact ⟨h1, by omega⟩
  have hc : c = cntN N (fun v => lab.getD v 0 == v) := h.count
  refine ⟨by omega, by simp [relab, h.len], fun x y hx hy => ⟨fun e => ?_, fun hs => ?_⟩, fun x hx => ?_, ?_⟩
  · rw [hg x hx, hg y hy] at e
    by_cases h1 : lab.getD x 0 = lab.getD y 0
    · exact hold x y hx hy h1
    · -- one of them is M, the other one m
      have key : (lab.getD x 0 = lab.getD u 0 ∧ lab.getD v 0 = lab.getD y 0) ∨ (lab.getD x 0 = lab.getD v 0 ∧ lab.getD u 0 = lab.getD y 0) := by
        split at e <;> split at e <;> omega
      rcases key with ⟨a, b⟩ | ⟨a, b⟩
      · exact ((hold x u hx hu a).trans hsu).trans (hold v y hv hy b)
      · exact ((hold x v hx hv a).trans hsv).trans (hold u y hu hy b)
  · have : (relab M m lab).getD x 0 = (relab M m lab).getD y 0 ∧ y < N := by
      refine Star.ind (P := fun b => (relab M m lab).getD x 0 = (relab M m lab).getD b 0 ∧ b < N) ⟨rfl, hx⟩ (fun b d _ h1 ih => ?_) hs
      obtain ⟨hd, h2⟩ := h1
      refine ⟨ih.1.trans ?_, hd⟩
      rcases h2 with h2 | h2
      · rcases upd_step h2 with h3 | ⟨rfl, rfl⟩
        · rw [hg b ih.2, hg d hd, (h.same b d ih.2 hd).2 (.one ⟨hd, Or.inl h3⟩)]
        · rw [huv.1, huv.2]
      · rcases upd_step h2 with h3 | ⟨rfl, rfl⟩
        · rw [hg b ih.2, hg d hd, (h.same b d ih.2 hd).2 (.one ⟨hd, Or.inr h3⟩)]
        · rw [huv.1, huv.2]
    exact this.1
  · have hx2 := h.low x hx
    rw [hg x hx]
    by_cases e : lab.getD x 0 = M
    · rw [if_pos e]
      refine ⟨by omega, ?_⟩
      rw [hg m (by omega), hmm, if_neg (by omega)]
    · rw [if_neg e]
      refine ⟨hx2.1, ?_⟩
      rw [hg _ (by omega), hx2.2, if_neg e]
  · have : c - 1 = cntN N (fun v => (relab M m lab).getD v 0 == v) := by omega
    exact this
/-- As many components as the document counts. -/
theorem Fnd.parts {N c : Nat} {E : Ed} {lab : List Nat} (h : Fnd N E lab c) {R : Nat → Nat → Bool} {L : Nat → Bool} (hL : ∀ v, L v = true) (hR : ∀ v x, v < N → x < N → (R v x = true ↔ Star (St2 N E) v x)) : partsN N L R = c := by
  rw [h.count]
  show cntN N (firstB L R) = cntN N _
  refine cntN_congr fun v hv => ?_
  rw [Bool.eq_iff_iff, firstB_iff]
  have hl := h.low v hv
  constructor
  · rintro ⟨_, h2⟩
    by_cases e : lab.getD v 0 = v
    · simpa using e
    · have h3 := h2 (lab.getD v 0) (by omega) (hL _)
      have h4 := (hR (lab.getD v 0) v (by omega) hv).2 ((h.same _ _ (by omega) hv).1 hl.2)
      rw [h4] at h3; cases h3
  · intro e
    have e : lab.getD v 0 = v := by simpa using e
    refine ⟨hL v, fun u hu _ => ?_⟩
    cases hRu : R u v with
    | false => rfl
    | true =>
      have h1 := (h.same u v (by omega) hv).2 ((hR u v (by omega) hv).1 hRu)
      have h2 := h.low u (by omega)
      omega
end Go.Proofs.Ytfdlndljpmamgaa
