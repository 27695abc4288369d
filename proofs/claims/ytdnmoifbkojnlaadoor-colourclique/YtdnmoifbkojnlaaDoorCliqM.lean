/- The cliques in their order as lists, and the first greatest of them. -/
import Derived.Test.YtdnmoifbkojnlaaDoorBitsD
namespace Go.Proofs.YtdnmoifbkojnlaaDoor

/-- The better one of two lists: the second, where it is longer. -/
def upL (b l : List Nat) : List Nat := if b.length < l.length then l else b
/-- What is best behind all cliques that go on from l by nodes of o. -/
def cqF (adj : Nat → Nat → Bool) : Nat → List Nat → List Nat → List Nat → List Nat
  | 0, _, _, b => b
  | _ + 1, [], _, b => b
  | k + 1, v :: o, l, b => cqF adj k o l (cqF adj k (o.filter (adj v)) (l ++ [v]) (upL b (l ++ [v])))
theorem cqF_nil (adj : Nat → Nat → Bool) (k : Nat) (l b : List Nat) : cqF adj k [] l b = b := by cases k <;> rfl
theorem cqF_fuel (adj : Nat → Nat → Bool) : ∀ k o l b, o.length ≤ k → cqF adj (k + 1) o l b = cqF adj k o l b
  | 0, o, l, b, h => by
    have : o = [] := List.length_eq_zero_iff.1 (by omega)
    subst this; rfl
  | k + 1, [], l, b, _ => rfl
  | k + 1, v :: o, l, b, h => by
    have h' : o.length ≤ k := by simp at h; omega
    have h2 : (o.filter (adj v)).length ≤ k := Nat.le_trans (List.length_filter_le _ _) h'
    show cqF adj (k + 1) o l (cqF adj (k + 1) (o.filter (adj v)) (l ++ [v]) (upL b (l ++ [v]))) = cqF adj k o l (cqF adj k (o.filter (adj v)) (l ++ [v]) (upL b (l ++ [v])))
    rw [cqF_fuel adj k o l _ h', cqF_fuel adj k _ _ _ h2]
theorem cqF_more (adj : Nat → Nat → Bool) (k o l b) : ∀ d, o.length ≤ k → cqF adj (k + d) o l b = cqF adj k o l b
  | 0, _ => rfl
  | d + 1, h => by rw [← Nat.add_assoc, cqF_fuel adj (k + d) o l b (by omega), cqF_more adj k o l b d h]
def cq (adj : Nat → Nat → Bool) (o l b : List Nat) : List Nat := cqF adj o.length o l b
theorem cq_nil (adj : Nat → Nat → Bool) (l b : List Nat) : cq adj [] l b = b := rfl
theorem cq_cons (adj : Nat → Nat → Bool) (v : Nat) (o l b : List Nat) : cq adj (v :: o) l b = cq adj o l (cq adj (o.filter (adj v)) (l ++ [v]) (upL b (l ++ [v]))) := by
  unfold cq
  show cqF adj o.length o l (cqF adj o.length (o.filter (adj v)) (l ++ [v]) (upL b (l ++ [v]))) = _
  have h := List.length_filter_le (adj v) o
  obtain ⟨d, hd⟩ : ∃ d, o.length = (o.filter (adj v)).length + d := ⟨o.length - (o.filter (adj v)).length, by omega⟩
  have := cqF_more adj (o.filter (adj v)).length (o.filter (adj v)) (l ++ [v]) (upL b (l ++ [v])) d (Nat.le_refl _)
  rw [← hd] at this
  rw [this]
/-- Too few nodes are left for a greater one. -/
theorem cq_few (adj : Nat → Nat → Bool) : ∀ k (o l b : List Nat), o.length ≤ k → l.length + o.length ≤ b.length → cq adj o l b = b
  | _, [], l, b, _, _ => rfl
  | 0, v :: o, l, b, h, _ => by simp at h
  | k + 1, v :: o, l, b, h, h2 => by
    have hk : o.length ≤ k := by simp at h; omega
    have h3 : l.length + (o.length + 1) ≤ b.length := by simpa using h2
    have hf := List.length_filter_le (adj v) o
    rw [cq_cons]
    have e : upL b (l ++ [v]) = b := by
      unfold upL
      rw [if_neg (by simp; omega)]
    rw [e, cq_few adj k _ (l ++ [v]) b (by omega) (by simp; omega), cq_few adj k o l b hk (by omega)]
theorem upL_len (b l : List Nat) : b.length ≤ (upL b l).length ∧ l.length ≤ (upL b l).length := by
  unfold upL
  split <;> omega
theorem cq_len (adj : Nat → Nat → Bool) : ∀ k (o l b : List Nat), o.length ≤ k → b.length ≤ (cq adj o l b).length
  | _, [], l, b, _ => Nat.le_refl _
  | 0, v :: o, l, b, h => by simp at h
  | k + 1, v :: o, l, b, h => by
    have hk : o.length ≤ k := by simp at h; omega
    have hf := List.length_filter_le (adj v) o
    rw [cq_cons]
    exact Nat.le_trans (Nat.le_trans (upL_len b (l ++ [v])).1 (cq_len adj k _ _ _ (by omega))) (cq_len adj k o l _ hk)
/-- What a list of nodes is a clique of. -/
def IsC (adj : Nat → Nat → Bool) (n : Nat) (l : List Nat) : Prop := (∀ x ∈ l, x < n) ∧ l.Pairwise (fun x y => adj x y = true)
theorem cq_isC {adj : Nat → Nat → Bool} {n : Nat} : ∀ k (o l b : List Nat), o.length ≤ k → IsC adj n b → IsC adj n l → (∀ v ∈ o, v < n ∧ ∀ x ∈ l, adj x v = true) → IsC adj n (cq adj o l b)
  | _, [], l, b, _, hb, _, _ => hb
  | 0, v :: o, l, b, h, _, _, _ => by simp at h
  | k + 1, v :: o, l, b, h, hb, hl, ho => by
    have hk : o.length ≤ k := by simp at h; omega
    have hf := List.length_filter_le (adj v) o
    have hv := ho v (by simp)
    have hlv : IsC adj n (l ++ [v]) := by
      refine ⟨fun x hx => ?_, ?_⟩
      · rcases List.mem_append.1 hx with h | h
        · exact hl.1 x h
        · rw [List.mem_singleton.1 h]; exact hv.1
      · rw [List.pairwise_append]
        exact ⟨hl.2, List.pairwise_singleton _ _, fun x hx y hy => by rw [List.mem_singleton.1 hy]; exact hv.2 x hx⟩
    rw [cq_cons]
    have hu : IsC adj n (upL b (l ++ [v])) := by
      unfold upL
      split
      · exact hlv
      · exact hb
    refine cq_isC k o l _ hk (cq_isC k _ _ _ (by omega) hu hlv (fun w hw => ?_)) hl (fun w hw => ho w (by simp [hw]))
    obtain ⟨h1, h2⟩ := List.mem_filter.1 hw
    refine ⟨(ho w (by simp [h1])).1, fun x hx => ?_⟩
    rcases List.mem_append.1 hx with h | h
    · exact (ho w (by simp [h1])).2 x h
    · rw [List.mem_singleton.1 h]; exact h2
/-- A colouring has as many colours as a clique has nodes. -/
theorem clique_colours {adj : Nat → Nat → Bool} {n k : Nat} {l : List Nat} (h : IsC adj n l) (c : Nat → Nat) (hc : ∀ x, x < n → c x < k) (hp : ∀ x y, x < n → y < n → adj x y = true → c x ≠ c y) : l.length ≤ k := by
  have hnd : (l.map c).Nodup := by
    unfold List.Nodup
    rw [List.pairwise_map]
    refine List.Pairwise.imp_of_mem (fun {x y} hx hy hxy => hp x y (h.1 x hx) (h.1 y hy) hxy) h.2
  have hsub : ∀ z ∈ l.map c, z ∈ List.range k := fun z hz => by
    obtain ⟨x, hx, rfl⟩ := List.mem_map.1 hz
    exact List.mem_range.2 (hc x (h.1 x hx))
  have key : ∀ (l m : List Nat), l.Nodup → (∀ e ∈ l, e ∈ m) → l.length ≤ m.length := fun l => by
    induction l with
    | nil => intro m _ _; simp
    | cons a l ih =>
      intro m hn hs
      have hn' := List.nodup_cons.1 hn
      have ha := hs a (by simp)
      have h := ih (m.erase a) hn'.2 (fun e he => (List.mem_erase_of_ne (fun (h : e = a) => hn'.1 (h ▸ he))).2 (hs e (by simp [he])))
      rw [List.length_erase_of_mem ha] at h
      have : 0 < m.length := List.length_pos_of_mem ha
      simp
      omega
  have := key (l.map c) (List.range k) hnd hsub
  simpa using this
/- Sets as numbers. -/
theorem bl_zero : bl 0 = [] := by
  unfold bl
  rw [List.filter_eq_nil_iff]
  intro a _
  simp
theorem bl_mem {O v : Nat} (hO : O < 4294967296) : v ∈ bl O ↔ O.testBit v = true := by
  unfold bl
  rw [List.mem_filter, List.mem_range]
  constructor
  · exact fun h => h.2
  · intro h
    refine ⟨?_, h⟩
    apply Classical.byContradiction
    intro hv
    have h2 : O < 2 ^ v := Nat.lt_of_lt_of_le hO (by have : (2 : Nat) ^ 32 ≤ 2 ^ v := Nat.pow_le_pow_right (by omega) (by omega); simpa using this)
    rw [Nat.testBit_lt_two_pow h2] at h
    cases h
theorem filter_first {f : Nat → Bool} {c : Nat} : ∀ m, c < m → f c = true → (∀ z, z < c → f z = false) → (List.range m).filter f = c :: (List.range m).filter (fun z => f z && !(z == c))
  | 0, h, _, _ => absurd h (Nat.not_lt_zero _)
  | m + 1, h, hc, hz => by
    rw [List.range_succ, List.filter_append, List.filter_append]
    by_cases e : c = m
    · subst e
      have h1 : (List.range c).filter f = [] := List.filter_eq_nil_iff.2 fun z hzm => by
        rw [hz z (List.mem_range.1 hzm)]; simp
      have h2 : (List.range c).filter (fun z => f z && !(z == c)) = [] := List.filter_eq_nil_iff.2 fun z hzm => by
        rw [hz z (List.mem_range.1 hzm)]; simp
      rw [h1, h2]
      simp [hc]
    · rw [filter_first m (by omega) hc hz]
      have hb : (m == c) = false := by simp; omega
      have e2 : List.filter f [m] = List.filter (fun z => f z && !(z == c)) [m] := List.filter_congr fun z hzm => by
        rw [List.mem_singleton.1 hzm, hb]; simp
      rw [e2, List.cons_append]
/-- The first node, and the others. -/
theorem bl_first {O O' c : Nat} (hc : c < 32) (h1 : O.testBit c = true) (h2 : ∀ z, z < c → O.testBit z = false) (h3 : ∀ z, O'.testBit z = (O.testBit z && !(z == c))) : bl O = c :: bl O' := by
  unfold bl
  rw [filter_first 32 hc h1 h2]
  congr 1
  exact List.filter_congr fun z _ => (h3 z).symm
theorem bl_and {O M : Nat} {adj : Nat → Bool} (h : ∀ z, M.testBit z = adj z) : bl (O &&& M) = (bl O).filter adj := by
  unfold bl
  rw [List.filter_filter]
  refine List.filter_congr fun z _ => ?_
  rw [Nat.testBit_and, h z, Bool.and_comm]
theorem bl_below (n : Nat) (hn : n ≤ 32) : bl (2 ^ n - 1) = List.range n := by
  unfold bl
  have key : ∀ m, n ≤ m → (List.range m).filter (2 ^ n - 1).testBit = List.range n := by
    intro m hm
    induction m with
    | zero =>
      have : n = 0 := by omega
      subst this; rfl
    | succ m ih =>
      rw [List.range_succ, List.filter_append]
      by_cases e : n = m + 1
      · subst e
        have : (List.range m).filter (2 ^ (m + 1) - 1).testBit = List.range m := List.filter_eq_self.2 fun z hz => by
          rw [Nat.testBit_two_pow_sub_one]
          have := List.mem_range.1 hz
          simp; omega
        rw [this, List.range_succ]
        simp [Nat.testBit_two_pow_sub_one]
      · rw [ih (by omega)]
        have : (2 ^ n - 1).testBit m = false := by
          rw [Nat.testBit_two_pow_sub_one]; simp; omega
        simp [this]
  exact key 32 hn
end Go.Proofs.YtdnmoifbkojnlaaDoor
