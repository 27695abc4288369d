/- Sums over what was counted. -/
import Derived.Test.YtmeodnkmhakidaaDoorTryM
import Derived.Test.YtmeodnkmhakidaaDoorLessW
namespace Go.Proofs.YtmeodnkmhakidaaDoor
abbrev K2 := Nat × Nat
def cnL (whole N : Nat) : List K2 → K2 → Nat
  | [], _ => 0
  | q :: l, k => cnL whole N l k + if k = keyC whole N q then 1 else 0
theorem cn_addC (whole N : Nat) : ∀ (l : List K2) (F : Cts) (k : K2), cn (addC whole N F l) k = cn F k + cnL whole N l k
  | [], F, k => rfl
  | q :: l, F, k => by
    show cn (addC whole N (updC F (keyC whole N q) (cn F (keyC whole N q) + 1)) l) k = _
    rw [cn_addC whole N l, cn_upd, cnL]
    split
    · next h => rw [h]; omega
    · omega
theorem sum_one {g : K2 → Int} {k0 : K2} : ∀ {V : List K2}, V.Nodup → (V.map fun k => if k = k0 then g k else 0).sum = if k0 ∈ V then g k0 else 0
  | [], _ => by simp
  | a :: V, hn => by
    have hn' := List.nodup_cons.1 hn
    rw [List.map_cons, List.sum_cons, sum_one hn'.2]
    by_cases e : a = k0
    · subst e
      rw [if_pos rfl, if_neg hn'.1, if_pos (by simp)]
      omega
    · rw [if_neg e]
      by_cases h : k0 ∈ V
      · rw [if_pos h, if_pos (by simp [h])]; omega
      · rw [if_neg h, if_neg (by simp [h]; exact fun h' => e h'.symm)]; rfl
theorem sum_addL {α : Type} (f g : α → Int) : ∀ l : List α, (l.map fun x => f x + g x).sum = (l.map f).sum + (l.map g).sum
  | [] => rfl
  | a :: l => by simp only [List.map_cons, List.sum_cons]; rw [sum_addL f g l]; omega
theorem sum_cnt {whole N : Nat} {V : List K2} (hV : V.Nodup) (g : K2 → Int) : ∀ {l : List K2}, (∀ q ∈ l, keyC whole N q ∈ V) → (V.map fun k => (cnL whole N l k : Int) * g k).sum = (l.map fun q => g (keyC whole N q)).sum
  | [], _ => by
    simp only [cnL, List.map_nil, List.sum_nil]
    exact sum_zero fun k _ => by simp
  | q :: l, h => by
    have e : ∀ k, (cnL whole N (q :: l) k : Int) * g k = (cnL whole N l k : Int) * g k + if k = keyC whole N q then g k else 0 := fun k => by
      rw [cnL]
      split
      · rw [Int.natCast_add, Int.add_mul]; simp
      · simp
    rw [List.map_congr_left (fun k _ => e k), sum_addL, sum_cnt hV g (fun q hq => h q (by simp [hq])), sum_one hV, if_pos (h q (by simp)), List.map_cons, List.sum_cons]
    omega
theorem sum_cnt_le {whole N : Nat} {V : List K2} (hV : V.Nodup) : ∀ l : List K2, (V.map fun k => (cnL whole N l k : Int)).sum ≤ l.length
  | [] => by
    have : (V.map fun k => (cnL whole N [] k : Int)).sum = 0 := sum_zero fun k _ => rfl
    rw [this]; simp
  | q :: l => by
    have e : ∀ k, (cnL whole N (q :: l) k : Int) = (cnL whole N l k : Int) + if k = keyC whole N q then (1 : Int) else 0 := fun k => by
      rw [cnL]
      split <;> simp
    rw [List.map_congr_left (fun k _ => e k), sum_addL, sum_one (g := fun _ => 1) hV]
    have := sum_cnt_le (whole := whole) (N := N) hV l
    rw [List.length_cons]
    split <;> omega
/-- The table that comes of the pairs V. -/
def tsum (F : Cts) (V : List K2) (i j : Nat) : Int := (V.map fun k => (cn F k : Int) * (co k.1 i * co k.2 j)).sum
theorem tsum_cons (F : Cts) (V : List K2) (k : K2) (i j : Nat) : tsum F (k :: V) i j = tsum F V i j + (cn F k : Int) * (co k.1 i * co k.2 j) := by
  unfold tsum
  rw [List.map_cons, List.sum_cons]
  omega
theorem mul_small {a b : Int} (ha : -8192 ≤ a ∧ a ≤ 8192) (hb : -8192 ≤ b ∧ b ≤ 8192) : -67108864 ≤ a * b ∧ a * b ≤ 67108864 := by
  have h1 : (a * b).natAbs ≤ 8192 * 8192 := by
    rw [Int.natAbs_mul]
    exact Nat.mul_le_mul (by omega) (by omega)
  omega
theorem term_small {c : Nat} {a b : Int} (ha : -8192 ≤ a ∧ a ≤ 8192) (hb : -8192 ≤ b ∧ b ≤ 8192) : -(67108864 * (c : Int)) ≤ (c : Int) * (a * b) ∧ (c : Int) * (a * b) ≤ 67108864 * (c : Int) := by
  have h := mul_small ha hb
  constructor
  · have := Int.mul_le_mul_of_nonneg_left h.1 (show (0 : Int) ≤ (c : Int) by omega)
    rw [Int.mul_comm 67108864]
    have e : (c : Int) * -67108864 = -((c : Int) * 67108864) := by rw [Int.mul_neg]
    omega
  · have := Int.mul_le_mul_of_nonneg_left h.2 (show (0 : Int) ≤ (c : Int) by omega)
    rw [Int.mul_comm 67108864]
    exact this
theorem tsum_small {F : Cts} : ∀ {V : List K2}, (∀ k ∈ V, k.1 ≤ 13 ∧ k.2 ≤ 13) → ∀ i j, -(67108864 * (V.map fun k => (cn F k : Int)).sum) ≤ tsum F V i j ∧ tsum F V i j ≤ 67108864 * (V.map fun k => (cn F k : Int)).sum
  | [], _, i, j => by simp [tsum]
  | k :: V, h, i, j => by
    have h1 := tsum_small (F := F) (V := V) (fun k hk => h k (by simp [hk])) i j
    have hk := h k (by simp)
    have h2 := term_small (c := cn F k) (co_small hk.1 i) (co_small hk.2 j)
    rw [tsum_cons, List.map_cons, List.sum_cons, Int.mul_add]
    omega
theorem cnL_nil_iff {whole N : Nat} (F0 : Cts) (hF0 : ∀ k, F0 k = none) : ∀ (l : List K2) (k : K2), addC whole N F0 l k ≠ none ↔ ∃ q ∈ l, keyC whole N q = k := by
  have key : ∀ (l : List K2) (F : Cts) (k : K2), addC whole N F l k ≠ none ↔ (F k ≠ none ∨ ∃ q ∈ l, keyC whole N q = k) := fun l => by
    induction l with
    | nil => intro F k; simp [addC]
    | cons q l ih =>
      intro F k
      show addC whole N (updC F (keyC whole N q) (cn F (keyC whole N q) + 1)) l k ≠ none ↔ _
      rw [ih]
      have hu : updC F (keyC whole N q) (cn F (keyC whole N q) + 1) k ≠ none ↔ (F k ≠ none ∨ k = keyC whole N q) := by
        unfold updC
        split
        · next e => simp [e]
        · next e => simp [e]
      rw [hu]
      constructor
      · rintro ((h | h) | ⟨x, hx, e⟩)
        · exact Or.inl h
        · exact Or.inr ⟨q, by simp, h.symm⟩
        · exact Or.inr ⟨x, by simp [hx], e⟩
      · rintro (h | ⟨x, hx, e⟩)
        · exact Or.inl (Or.inl h)
        · rcases List.mem_cons.1 hx with rfl | hx
          · exact Or.inl (Or.inr e.symm)
          · exact Or.inr ⟨x, hx, e⟩
  intro l k
  rw [key l F0 k]
  simp [hF0 k]
theorem cntE_ne {N whole : Nat} {es : List E2} {k : K2} : cntE N whole es k ≠ none ↔ ∃ B ∈ sub es, (kf N B - whole, kf N B + B.length - N) = k := by
  unfold cntE
  rw [cnL_nil_iff _ (fun _ => rfl), trL_all]
  constructor
  · rintro ⟨q, hq, e⟩
    obtain ⟨B, hB, rfl⟩ := List.mem_map.1 hq
    exact ⟨B, hB, e⟩
  · rintro ⟨B, hB, e⟩
    exact ⟨_, List.mem_map.2 ⟨B, hB, rfl⟩, e⟩
theorem cn_cntE (N whole : Nat) (es : List E2) (k : K2) : cn (cntE N whole es) k = cnL whole N (trL es id N 0) k := by
  unfold cntE
  rw [cn_addC]
  show (none : Option Nat).getD 0 + _ = _
  simp
/-- The table that comes of all pairs that were counted. -/
theorem tsum_tT {N whole : Nat} {es : List E2} {V : List K2} (hV : V.Nodup) (h : ∀ k, cntE N whole es k ≠ none → k ∈ V) (i j : Nat) : tsum (cntE N whole es) V i j = tT N whole es i j := by
  unfold tsum tT
  rw [List.map_congr_left (fun k _ => by rw [cn_cntE]), sum_cnt hV (fun k => co k.1 i * co k.2 j) (fun q hq => ?_), trL_all, List.map_map]
  · rfl
  · rw [trL_all] at hq
    obtain ⟨B, hB, rfl⟩ := List.mem_map.1 hq
    exact h _ (cntE_ne.2 ⟨B, hB, rfl⟩)
theorem cntE_sum {N whole : Nat} {es : List E2} {V : List K2} (hV : V.Nodup) (hm : es.length ≤ 12) : (V.map fun k => (cn (cntE N whole es) k : Int)).sum ≤ 4096 := by
  rw [List.map_congr_left (fun k _ => by rw [cn_cntE])]
  have h := sum_cnt_le (whole := whole) (N := N) hV (trL es id N 0)
  rw [trL_len] at h
  have : (2 : Nat) ^ es.length ≤ 2 ^ 12 := Nat.pow_le_pow_right (by decide) hm
  exact Int.le_trans h (by omega)
end Go.Proofs.YtmeodnkmhakidaaDoor
