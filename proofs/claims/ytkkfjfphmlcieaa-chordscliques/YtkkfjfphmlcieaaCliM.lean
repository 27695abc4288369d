/- Sets of nodes as numbers; the lists of all whole cliques, in order. -/
import Derived.Test.YtkkfjfphmlcieaaWholeW
namespace Go.Proofs.Ytkkfjfphmlcieaa
def tb (s : Nat) : Nat → Bool := fun x => s.testBit x
def mkN (K : Nat → Bool) : Nat → Nat
  | 0 => 0
  | n + 1 => if K n = true then 2 ^ n + mkN K n else mkN K n
theorem mkN_lt (K : Nat → Bool) : ∀ n, mkN K n < 2 ^ n
  | 0 => by simp [mkN]
  | n + 1 => by
    have := mkN_lt K n
    unfold mkN
    rw [Nat.pow_succ]
    split <;> omega
theorem mkN_bit (K : Nat → Bool) : ∀ n x, x < n → tb (mkN K n) x = K x
  | 0, x, h => by omega
  | n + 1, x, h => by
    unfold tb mkN
    by_cases e : x = n
    · subst e
      have h0 : (mkN K x).testBit x = false := Nat.testBit_lt_two_pow (mkN_lt K x)
      by_cases hk : K x = true
      · rw [if_pos hk, Nat.testBit_two_pow_add_eq, h0, hk]; rfl
      · rw [if_neg hk, h0]
        cases hx : K x with
        | true => exact absurd hx hk
        | false => rfl
    · have ih := mkN_bit K n x (by omega)
      unfold tb at ih
      by_cases hk : K n = true
      · rw [if_pos hk, Nat.testBit_two_pow_add_gt (by omega), ih]
      · rw [if_neg hk, ih]
theorem tb_inj {N s t : Nat} (hs : s < 2 ^ N) (ht : t < 2 ^ N) (h : ∀ x, x < N → tb s x = tb t x) : s = t := by
  apply Nat.eq_of_testBit_eq
  intro i
  by_cases hi : i < N
  · exact h i hi
  · have h2 : 2 ^ N ≤ 2 ^ i := Nat.pow_le_pow_right (by omega) (by omega)
    rw [Nat.testBit_lt_two_pow (by omega), Nat.testBit_lt_two_pow (by omega)]
section
variable {N : Nat} {adj : Nat → Nat → Bool}
/-- What R.Cliques has behind the first sets. -/
structure RefI (N : Nat) (adj : Nat → Nat → Bool) (s : Nat) (F : List (List Nat)) : Prop where
  srt : F.Pairwise (fun a b => cmpL a b < 0)
  mem : ∀ l, l ∈ F ↔ ∃ t, 1 ≤ t ∧ t < s ∧ MaxC N adj (tb t) ∧ l = lsN N (tb t)
theorem RefI.start : RefI N adj 1 [] := ⟨List.Pairwise.nil, fun l => ⟨fun h => by simp at h, fun ⟨t, h1, h2, _⟩ => by omega⟩⟩
theorem RefI.skip {s : Nat} {F : List (List Nat)} (h : RefI N adj s F) (hn : ¬ MaxC N adj (tb s)) : RefI N adj (s + 1) F := ⟨h.srt, fun l => by
  rw [h.mem l]
  refine ⟨fun ⟨t, h1, h2, h3⟩ => ⟨t, h1, by omega, h3⟩, fun ⟨t, h1, h2, h3, h4⟩ => ⟨t, h1, ?_, h3, h4⟩⟩
  by_cases e : t = s
  · subst e; exact absurd h3 hn
  · omega⟩
theorem RefI.put {s : Nat} {A B : List (List Nat)} (h : RefI N adj s (A ++ B)) (h1 : 1 ≤ s) (hs : s < 2 ^ N) (hm : MaxC N adj (tb s)) (hB : ∀ b ∈ B, cmpL (lsN N (tb s)) b < 0) (hA : ∀ a, A.getLast? = some a → ¬ cmpL (lsN N (tb s)) a < 0) : RefI N adj (s + 1) (A ++ lsN N (tb s) :: B) := by
  have hnew : lsN N (tb s) ∉ A ++ B := fun hx => by
    obtain ⟨t, t1, t2, _, e⟩ := (h.mem _).1 hx
    have := tb_inj hs (by omega) (lsN_inj e)
    omega
  have hAl : ∀ a ∈ A, cmpL a (lsN N (tb s)) < 0 := by
    intro a ha
    obtain ⟨A', z, rfl⟩ : ∃ A' z, A = A' ++ [z] := by
      refine ⟨A.dropLast, A.getLast (by intro e; rw [e] at ha; simp at ha), (List.dropLast_concat_getLast _).symm⟩
    have hz := hA z (by simp)
    have hne : lsN N (tb s) ≠ z := fun e => hnew (by rw [e]; simp)
    have hzl : cmpL z (lsN N (tb s)) < 0 := by
      have a1 := cmpL_anti (lsN N (tb s)) z
      have a2 : cmpL (lsN N (tb s)) z ≠ 0 := fun e => hne (cmpL_zero _ _ e)
      omega
    rcases List.mem_append.1 ha with ha' | ha'
    · have hp := h.srt
      rw [List.append_assoc, List.pairwise_append] at hp
      exact cmpL_trans _ _ _ (hp.2.2 a ha' z (by simp)) hzl
    · rw [List.mem_singleton.1 ha']; exact hzl
  refine ⟨?_, fun l => ?_⟩
  · have hp := h.srt
    rw [List.pairwise_append] at hp ⊢
    refine ⟨hp.1, List.pairwise_cons.2 ⟨hB, hp.2.1⟩, fun a ha b hb => ?_⟩
    rcases List.mem_cons.1 hb with rfl | hb
    · exact hAl a ha
    · exact hp.2.2 a ha b hb
  · have : l ∈ A ++ lsN N (tb s) :: B ↔ l = lsN N (tb s) ∨ l ∈ A ++ B := by
      simp only [List.mem_append, List.mem_cons]
      exact ⟨fun h => by rcases h with h | h | h <;> simp [h], fun h => by rcases h with h | h | h <;> simp [h]⟩
    rw [this, h.mem l]
    constructor
    · rintro (rfl | ⟨t, t1, t2, t3⟩)
      · exact ⟨s, h1, by omega, hm, rfl⟩
      · exact ⟨t, t1, by omega, t3⟩
    · rintro ⟨t, t1, t2, t3, t4⟩
      by_cases e : t = s
      · subst e; exact Or.inl t4
      · exact Or.inr ⟨t, t1, by omega, t3, t4⟩
theorem sorted_eq : ∀ (A B : List (List Nat)), A.Pairwise (fun a b => cmpL a b < 0) → B.Pairwise (fun a b => cmpL a b < 0) → (∀ l, l ∈ A ↔ l ∈ B) → A = B
  | [], [], _, _, _ => rfl
  | [], b :: B, _, _, h => by have := (h b).2 (by simp); simp at this
  | a :: A, [], _, _, h => by have := (h a).1 (by simp); simp at this
  | a :: A, b :: B, hA, hB, h => by
    rw [List.pairwise_cons] at hA hB
    have irr : ∀ x, ¬ cmpL x x < 0 := fun x => by rw [cmpL_self]; omega
    have e : a = b := by
      rcases List.mem_cons.1 ((h a).1 (by simp)) with e | e
      · exact e
      · rcases List.mem_cons.1 ((h b).2 (by simp)) with e' | e'
        · exact e'.symm
        · exact absurd (cmpL_trans _ _ _ (hA.1 b e') (hB.1 a e)) (irr a)
    subst e
    refine congrArg (a :: ·) (sorted_eq A B hA.2 hB.2 fun l => ⟨fun hl => ?_, fun hl => ?_⟩)
    · rcases List.mem_cons.1 ((h l).1 (List.mem_cons_of_mem _ hl)) with rfl | e
      · exact absurd (hA.1 l hl) (irr l)
      · exact e
    · rcases List.mem_cons.1 ((h l).2 (List.mem_cons_of_mem _ hl)) with rfl | e
      · exact absurd (hB.1 l hl) (irr l)
      · exact e
theorem RefI.same {F Ls L : List (List Nat)} (h : RefI N adj (2 ^ N) F) (hN : 0 < N) (hp : Ls.Perm L) (hs : Ls.Pairwise (fun a b => ¬ cmpL b a < 0)) (hL : Lsts N L (MaxC N adj)) : Ls = F := by
  have hnd : Ls.Nodup := hp.nodup_iff.2 hL.1
  refine sorted_eq _ _ ?_ h.srt fun l => ?_
  · have h2 := hs.and hnd
    refine h2.imp ?_
    rintro a b ⟨h1, h3⟩
    have a1 := cmpL_anti a b
    have a2 : cmpL a b ≠ 0 := fun e => h3 (cmpL_zero _ _ e)
    omega
  · rw [hp.mem_iff, hL.2 l, h.mem l]
    constructor
    · rintro ⟨K, hK, rfl⟩
      have hb := mkN_bit K N
      have hlt := mkN_lt K N
      refine ⟨mkN K N, ?_, hlt, hK.congr (fun x hx => (hb x hx).symm), lsN_congr (fun x hx => (hb x hx).symm)⟩
      apply Classical.byContradiction
      intro h0
      have h0' : mkN K N = 0 := by omega
      have hz : ∀ x, x < N → K x = false := fun x hx => by
        rw [← hb x hx, h0']
        simp [tb]
      obtain ⟨x, hx, hk, _⟩ := hK.top 0 hN (hz 0 hN)
      rw [hz x hx] at hk
      cases hk
    · rintro ⟨t, _, _, t3, t4⟩
      exact ⟨tb t, t3, t4⟩
/-- A set is a clique. -/
def Clq (N : Nat) (adj : Nat → Nat → Bool) (s : Nat) : Prop := ∀ v, v < N → ∀ w, w < v → tb s v = true → tb s w = true → adj v w = true
theorem maxC_iff {s : Nat} (hs : ∀ x y, adj x y = adj y x) (hc : Clq N adj s) : MaxC N adj (tb s) ↔ ∀ v, v < N → tb s v = true ∨ ¬ Clq N adj (s ||| 2 ^ v) := by
  have hor : ∀ v x, tb (s ||| 2 ^ v) x = (tb s x || decide (v = x)) := fun v x => by
    unfold tb
    rw [Nat.testBit_or, Nat.testBit_two_pow]
  have full : ∀ x y, x < N → y < N → tb s x = true → tb s y = true → x ≠ y → adj x y = true := fun x y hx hy h1 h2 hn => by
    rcases Nat.lt_or_gt_of_ne hn with h | h
    · rw [hs]; exact hc y hy x h h2 h1
    · exact hc x hx y h h1 h2
  constructor
  · intro hm v hv
    cases e : tb s v with
    | true => exact Or.inl rfl
    | false =>
      refine Or.inr fun hcl => ?_
      obtain ⟨x, hx, hk, ha⟩ := hm.top v hv e
      have hne : x ≠ v := fun e' => by rw [e', e] at hk; cases hk
      have b1 : tb (s ||| 2 ^ v) v = true := by rw [hor]; simp
      have b2 : tb (s ||| 2 ^ v) x = true := by rw [hor, hk]; rfl
      rcases Nat.lt_or_gt_of_ne hne with h | h
      · have := hcl v hv x h b1 b2
        rw [ha] at this; cases this
      · have := hcl x hx v h b2 b1
        rw [hs, ha] at this; cases this
  · intro h
    refine ⟨full, fun z hz e => ?_⟩
    rcases h z hz with h1 | h1
    · rw [e] at h1; cases h1
    · apply Classical.byContradiction
      intro hno
      have hall : ∀ x, x < N → tb s x = true → adj z x = true := fun x hx hk => by
        cases ea : adj z x with
        | true => rfl
        | false => exact absurd ⟨x, hx, hk, ea⟩ hno
      refine h1 fun v hv w hw b1 b2 => ?_
      rw [hor] at b1 b2
      simp only [Bool.or_eq_true, decide_eq_true_iff] at b1 b2
      rcases b1 with b1 | rfl
      · rcases b2 with b2 | rfl
        · exact hc v hv w hw b1 b2
        · rw [hs]; exact hall v hv b1
      · rcases b2 with b2 | e2
        · exact hall w (by omega) b2
        · omega
end
end Go.Proofs.Ytkkfjfphmlcieaa
