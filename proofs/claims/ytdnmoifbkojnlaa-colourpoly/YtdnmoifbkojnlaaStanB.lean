/- Stanley, the other half: the number of colourings by taking an edge away and by making its two nodes one; so the polynomial at -1. -/
import Derived.Test.YtdnmoifbkojnlaaStanA
import Derived.Test.YtdnmoifbkojnlaaPolyM
namespace Go.Proofs.Ytdnmoifbkojnlaa

def upd (c : Nat → Nat) (v y : Nat) : Nat → Nat := fun i => if i = v then y else c i
theorem upd_same (c : Nat → Nat) (v y : Nat) : upd c v y v = y := if_pos rfl
theorem upd_other {c : Nat → Nat} {v y i : Nat} (h : i ≠ v) : upd c v y i = c i := if_neg h
theorem upd_comm {c : Nat → Nat} {u v y z : Nat} (h : u ≠ v) : upd (upd c u y) v z = upd (upd c v z) u y := by
  funext i
  unfold upd
  by_cases h1 : i = v
  · rw [if_pos h1, if_neg (by omega), if_pos h1]
  · by_cases h2 : i = u
    · rw [if_neg h1, if_pos h2, if_pos h2]
    · rw [if_neg h1, if_neg h2, if_neg h2, if_neg h1]
/-- The sum over all colours below x of these nodes. -/
def sumL (x : Nat) : List Nat → (Nat → Nat) → ((Nat → Nat) → Int) → Int
  | [], c, F => F c
  | v :: vs, c, F => sm (fun y => sumL x vs (upd c v y) F) x
theorem sumL_last {x b : Nat} {F : (Nat → Nat) → Int} : ∀ (vs : List Nat) (c : Nat → Nat), b ∉ vs → sumL x (b :: vs) c F = sumL x (vs ++ [b]) c F
  | [], _, _ => rfl
  | v :: vs, c, h => by
    show sm (fun y => sm (fun z => sumL x vs (upd (upd c b y) v z) F) x) x = sm (fun z => sumL x (vs ++ [b]) (upd c v z) F) x
    rw [sm_comm (fun y z => sumL x vs (upd (upd c b y) v z) F)]
    refine sm_congr fun z _ => ?_
    rw [← sumL_last vs (upd c v z) (fun hm => h (List.mem_cons_of_mem _ hm))]
    show sm _ x = sm _ x
    refine sm_congr fun y _ => ?_
    rw [upd_comm (u := b) (v := v) (fun e => h (by rw [e]; exact List.mem_cons_self))]
theorem sumL_append {x : Nat} {F : (Nat → Nat) → Int} : ∀ (us vs : List Nat) (c : Nat → Nat), sumL x (us ++ vs) c F = sumL x us c (fun c => sumL x vs c F)
  | [], _, _ => rfl
  | u :: us, vs, c => by
    show sm _ x = sm _ x
    exact sm_congr fun y _ => sumL_append us vs _
theorem sumL_congr {x : Nat} {F G : (Nat → Nat) → Int} : ∀ (vs : List Nat) (c : Nat → Nat), (∀ c', (∀ v ∈ vs, c' v < x) → (∀ v, v ∉ vs → c' v = c v) → F c' = G c') → sumL x vs c F = sumL x vs c G
  | [], c, h => h c (fun _ h => absurd h (List.not_mem_nil)) (fun _ _ => rfl)
  | v :: vs, c, h => by
    show sm _ x = sm _ x
    refine sm_congr fun y hy => sumL_congr vs _ fun c' h1 h2 => ?_
    refine h c' (fun u hu => ?_) (fun u hu => ?_)
    · rcases List.mem_cons.1 hu with rfl | hu
      · by_cases hm : u ∈ vs
        · exact h1 u hm
        · rw [h2 u hm, upd_same]; exact hy
      · exact h1 u hu
    · rw [h2 u (fun hm => hu (List.mem_cons_of_mem _ hm)), upd_other (fun e => hu (by rw [e]; exact List.mem_cons_self))]
theorem sumL_sub {x : Nat} {F G : (Nat → Nat) → Int} : ∀ (vs : List Nat) (c : Nat → Nat), sumL x vs c (fun c => F c + -1 * G c) = sumL x vs c F + -1 * sumL x vs c G
  | [], _ => rfl
  | v :: vs, c => by
    show sm _ x = sm _ x + -1 * sm _ x
    rw [← sm_mul, ← sm_add]
    exact sm_congr fun y _ => sumL_sub vs _
theorem sumL_mul {x : Nat} {a : Int} {F : (Nat → Nat) → Int} : ∀ (vs : List Nat) (c : Nat → Nat), sumL x vs c (fun c => a * F c) = a * sumL x vs c F
  | [], _ => rfl
  | v :: vs, c => by
    show sm _ x = a * sm _ x
    rw [← sm_mul]
    exact sm_congr fun y _ => sumL_mul vs _
/-- b goes last. -/
theorem sumL_out {x N b : Nat} (hb : b < N) : ∃ rest, b ∉ rest ∧ (∀ v, v < N → v ≠ b → v ∈ rest) ∧ ∀ (c : Nat → Nat) (F : (Nat → Nat) → Int), sumL x (List.range N) c F = sumL x rest c (fun c => sm (fun y => F (upd c b y)) x) := by
  have hm : b ∈ List.range N := List.mem_range.2 hb
  obtain ⟨l1, l2, he⟩ := List.append_of_mem hm
  have hn : (l1 ++ b :: l2).Nodup := he ▸ List.nodup_range
  rw [List.nodup_append] at hn
  obtain ⟨_, h2, h3⟩ := hn
  have hb2 : b ∉ l2 := (List.nodup_cons.1 h2).1
  refine ⟨l1 ++ l2, ?_, fun v hv hne => ?_, fun c F => ?_⟩
  · intro h
    rcases List.mem_append.1 h with h | h
    · exact h3 b h b List.mem_cons_self rfl
    · exact hb2 h
  · have : v ∈ l1 ++ b :: l2 := he ▸ List.mem_range.2 hv
    rcases List.mem_append.1 this with h | h
    · exact List.mem_append_left _ h
    · rcases List.mem_cons.1 h with h | h
      · exact absurd h hne
      · exact List.mem_append_right _ h
  · rw [he, sumL_append, sumL_append]
    congr 1
    funext c
    rw [sumL_last l2 c hb2, sumL_append]
    rfl
/-- Are the two nodes of each edge of different colours? -/
def pr (E : List NP) (c : Nat → Nat) : Bool := E.all fun e => c e.1 != c e.2
theorem pr_iff {E : List NP} {c : Nat → Nat} : pr E c = true ↔ ∀ e ∈ E, c e.1 ≠ c e.2 := by
  unfold pr
  rw [List.all_eq_true]
  exact ⟨fun h e he => by simpa using h e he, fun h e he => by simpa using h e he⟩
def bI (b : Bool) : Int := if b then 1 else 0
def cnt (N x : Nat) (E : List NP) : Int := sumL x (List.range N) (fun _ => 0) (fun c => bI (pr E c))
theorem pr_mg {E : List NP} {a b : Nat} {c : Nat → Nat} (h : c a = c b) : pr (E.map (mgp a b)) c = pr E c := by
  have hc : ∀ z, c (mg a b z) = c z := fun z => by
    unfold mg
    by_cases e : z = b
    · rw [if_pos e, h, e]
    · rw [if_neg e]
  rw [Bool.eq_iff_iff, pr_iff, pr_iff]
  constructor
  · intro h e he
    have := h (mgp a b e) (List.mem_map.2 ⟨e, he, rfl⟩)
    simpa only [mgp, hc] using this
  · intro h e he
    obtain ⟨e', he', rfl⟩ := List.mem_map.1 he
    simpa only [mgp, hc] using h e' he'
theorem pr_free {E : List NP} {a b y : Nat} {c : Nat → Nat} (hne : a ≠ b) : pr (E.map (mgp a b)) (upd c b y) = pr (E.map (mgp a b)) c := by
  have hz : ∀ z, upd c b y (mg a b z) = c (mg a b z) := fun z => upd_other (by
    unfold mg
    by_cases e : z = b
    · rw [if_pos e]; exact hne
    · rw [if_neg e]; exact e)
  rw [Bool.eq_iff_iff, pr_iff, pr_iff]
  constructor
  · intro h e he
    obtain ⟨e', he', rfl⟩ := List.mem_map.1 he
    simpa only [mgp, hz] using h _ he
  · intro h e he
    obtain ⟨e', he', rfl⟩ := List.mem_map.1 he
    simpa only [mgp, hz] using h _ he
/-- An edge taken away, and its nodes made one. -/
theorem cnt_cons {N x a b : Nat} {E : List NP} (hne : a ≠ b) (ha : a < N) (hb : b < N) : (x : Int) * cnt N x ((a, b) :: E) = (x : Int) * cnt N x E + -1 * cnt N x (E.map (mgp a b)) := by
  have e1 : cnt N x ((a, b) :: E) = cnt N x E + -1 * sumL x (List.range N) (fun _ => 0) (fun c => bI (pr (E.map (mgp a b)) c && c b == c a)) := by
    unfold cnt
    rw [← sumL_sub]
    congr 1
    funext c
    show bI (c a != c b && pr E c) = _
    by_cases h : c a = c b
    · rw [pr_mg h]
      cases pr E c <;> simp [bI, h]
    · have h' : (c b == c a) = false := by simpa using fun e : c b = c a => h e.symm
      rw [h']
      cases pr E c <;> simp [bI, h]
  obtain ⟨rest, hr, hin, hout⟩ := sumL_out (x := x) hb
  have e2 : (x : Int) * sumL x (List.range N) (fun _ => 0) (fun c => bI (pr (E.map (mgp a b)) c && c b == c a)) = cnt N x (E.map (mgp a b)) := by
    unfold cnt
    rw [hout, hout, ← sumL_mul]
    refine sumL_congr rest _ fun c h1 _ => ?_
    have hca : c a < x := h1 a (hin a ha hne)
    rw [sm_congr (g := fun y => if y = c a then bI (pr (E.map (mgp a b)) c) else 0) (fun y _ => by
      rw [pr_free hne, upd_same, upd_other hne]
      by_cases e : y = c a
      · simp [e]
      · simp [e, bI]), sm_split hca, if_pos rfl, sm_congr (g := fun _ => 0) (fun y _ => by by_cases e : y = c a <;> simp [e]), sm_zero, Int.zero_add]
    rw [sm_congr (g := fun _ => bI (pr (E.map (mgp a b)) c)) (fun y _ => by rw [pr_free hne]), sm_const]
  rw [e1, Int.mul_add, ← e2]
  congr 1
  rw [← Int.mul_assoc, ← Int.mul_assoc, Int.mul_comm (x : Int) (-1)]

/-- Have two nodes an edge? -/
def adjN (E : List NP) (v w : Nat) : Bool := E.any fun e => (e.1 == v && e.2 == w) || (e.1 == w && e.2 == v)
theorem adjN_iff {E : List NP} {v w : Nat} : adjN E v w = true ↔ (v, w) ∈ E ∨ (w, v) ∈ E := by
  unfold adjN
  rw [List.any_eq_true]
  constructor
  · rintro ⟨⟨p, q⟩, he, h⟩
    simp at h
    rcases h with ⟨rfl, rfl⟩ | ⟨rfl, rfl⟩
    · exact Or.inl he
    · exact Or.inr he
  · rintro (h | h)
    · exact ⟨_, h, by simp⟩
    · exact ⟨_, h, by simp⟩
def prl (E : List NP) (l : Nat) (c : Nat → Nat) : Prop := ∀ e ∈ E, e.1 < l → e.2 < l → c e.1 ≠ c e.2
theorem prl_snoc {E : List NP} {L : List Nat} {c : Nat → Nat} {y : Nat} (hl : ∀ e ∈ E, e.1 ≠ e.2) (hc : ∀ i, i < L.length → c i = L.getD i 0) : prl E (L.length + 1) (upd c L.length y) ↔ prl E L.length c ∧ okC (adjN E) L y = true := by
  rw [okC_iff]
  constructor
  · intro h
    refine ⟨fun e he h1 h2 => ?_, fun w hw ha e => ?_⟩
    · have := h e he (by omega) (by omega)
      rwa [upd_other (by omega), upd_other (by omega)] at this
    · rw [← hc w hw] at e
      rcases adjN_iff.1 ha with h' | h'
      · have := h _ h' (Nat.lt_succ_self _) (Nat.lt_succ_of_lt hw)
        simp only [upd_same, upd_other (Nat.ne_of_lt hw)] at this
        exact this e.symm
      · have := h _ h' (Nat.lt_succ_of_lt hw) (Nat.lt_succ_self _)
        simp only [upd_same, upd_other (Nat.ne_of_lt hw)] at this
        exact this e
  · rintro ⟨h1, h2⟩ ⟨p, q⟩ he hp hq
    have hne := hl _ he
    simp only at hp hq hne ⊢
    by_cases e1 : p = L.length
    · subst e1
      have hq' : q < L.length := by omega
      rw [upd_same, upd_other (by omega), hc q hq']
      exact fun e => h2 q hq' (adjN_iff.2 (Or.inl he)) e.symm
    · by_cases e2 : q = L.length
      · subst e2
        have hp' : p < L.length := by omega
        rw [upd_same, upd_other (by omega), hc p hp']
        exact fun e => h2 p hp' (adjN_iff.2 (Or.inr he)) e
      · rw [upd_other e1, upd_other e2]
        exact h1 _ he (by simp only; omega) (by simp only; omega)
theorem sumL_zero {x : Nat} : ∀ (vs : List Nat) (c : Nat → Nat), sumL x vs c (fun _ => 0) = 0
  | [], _ => rfl
  | v :: vs, c => by
    show sm _ x = 0
    exact (sm_congr (g := fun _ => 0) fun y _ => sumL_zero vs _).trans (sm_zero x)
theorem Cc_sumL {N x : Nat} {E : List NP} (hl : ∀ e ∈ E, e.1 ≠ e.2) (hE : ∀ e ∈ E, e.1 < N ∧ e.2 < N) : ∀ (r : Nat) (L : List Nat) (c : Nat → Nat), L.length + r = N → (∀ i, i < L.length → c i = L.getD i 0) →
    ind (prl E L.length c) * Cc x (adjN E) r L = sumL x (List.range' L.length r) c (fun c => bI (pr E c))
  | 0, L, c, h, hc => by
    show ind _ * 1 = bI (pr E c)
    rw [Int.mul_one]
    by_cases hp : pr E c = true
    · rw [hp, ind_pos (P := prl E L.length c) (fun e he _ _ => pr_iff.1 hp e he)]; rfl
    · rw [ind_neg (P := prl E L.length c) (fun h' => hp (pr_iff.2 fun e he => h' e he (by have := hE e he; omega) (by have := hE e he; omega)))]
      simp [bI, hp]
  | r + 1, L, c, h, hc => by
    rw [List.range'_succ]
    show ind _ * sm _ x = sm _ x
    rw [← sm_mul]
    refine sm_congr fun y _ => ?_
    have hlen : (L ++ [y]).length = L.length + 1 := by simp
    have ih := Cc_sumL (x := x) hl hE r (L ++ [y]) (upd c L.length y) (by omega) (fun i hi => by
      by_cases e : i = L.length
      · subst e; rw [upd_same, getD_last]
      · rw [upd_other e, getD_left (by omega)]; exact hc i (by omega))
    rw [hlen] at ih
    refine Eq.trans ?_ ih
    by_cases h1 : prl E L.length c
    · by_cases h2 : okC (adjN E) L y = true
      · rw [ind_pos h1, if_pos h2, ind_pos ((prl_snoc hl hc).2 ⟨h1, h2⟩)]
      · rw [if_neg h2, ind_neg (P := prl E (L.length + 1) (upd c L.length y)) (fun h => h2 ((prl_snoc hl hc).1 h).2)]; simp
    · rw [ind_neg h1, ind_neg (P := prl E (L.length + 1) (upd c L.length y)) (fun h => h1 ((prl_snoc hl hc).1 h).1)]; simp
theorem Cc_cnt {N x : Nat} {E : List NP} (hl : ∀ e ∈ E, e.1 ≠ e.2) (hE : ∀ e ∈ E, e.1 < N ∧ e.2 < N) : Cc x (adjN E) N [] = cnt N x E := by
  have := Cc_sumL (x := x) hl hE N [] (fun _ => 0) (by simp) (fun i hi => absurd hi (Nat.not_lt_zero _))
  rw [ind_pos (P := prl E ([] : List Nat).length fun _ => 0) (fun e _ h _ => absurd h (Nat.not_lt_zero _)), Int.one_mul] at this
  rw [this]
  unfold cnt
  rw [List.range_eq_range']
  rfl

/-- A polynomial that is 0 at all great numbers is 0. -/
theorem pe_zero : ∀ (m : Nat) (p : Nat → Int) (K : Nat), (∀ x : Nat, K ≤ x → pe p (x : Int) m = 0) → ∀ i, i < m → p i = 0
  | 0, _, _, _, _, h => absurd h (Nat.not_lt_zero _)
  | m + 1, p, K, h, i, hi => by
    have hs : ∀ x : Int, pe p x (m + 1) = p 0 + x * pe (fun i => p (i + 1)) x m := fun x => by
      unfold pe
      rw [Nat.add_comm m 1, sm_from, ← sm_mul]
      simp only [sm]
      rw [sm_congr (g := fun i => x * (p (i + 1) * x ^ i)) (n := m) (fun c _ => by rw [Nat.add_comm 1 c, Int.pow_succ, ← Int.mul_assoc, Int.mul_comm])]
      simp
    have h0 : p 0 = 0 := by
      have := h (K + (p 0).natAbs + 1) (by omega)
      rw [hs] at this
      generalize pe (fun i => p (i + 1)) ((K + (p 0).natAbs + 1 : Nat) : Int) m = q at this
      apply Classical.byContradiction
      intro hne
      have hd : ((K + (p 0).natAbs + 1 : Nat) : Int) ∣ p 0 := ⟨-q, by rw [Int.mul_neg]; omega⟩
      have := Int.natAbs_dvd_natAbs.2 hd
      have := Nat.le_of_dvd (by omega) this
      omega
    cases i with
    | zero => exact h0
    | succ i =>
      refine pe_zero m (fun i => p (i + 1)) (K + 1) (fun x hx => ?_) i (by omega)
      have := h x (by omega)
      rw [hs, h0, Int.zero_add] at this
      rcases Int.mul_eq_zero.1 this with h | h
      · omega
      · exact h
open Classical in
noncomputable def polE (N : Nat) (E : List NP) (j : Nat) : Int := if ∀ e ∈ E, e.1 ≠ e.2 then polT N (adjN E) j else 0
theorem polE_pe {N : Nat} {E : List NP} (hE : ∀ e ∈ E, e.1 < N ∧ e.2 < N) (x : Nat) : pe (polE N E) (x : Int) (N + 1) = cnt N x E := by
  by_cases hl : ∀ e ∈ E, e.1 ≠ e.2
  · have : polE N E = polT N (adjN E) := funext fun j => if_pos hl
    rw [this, polT_count, Cc_cnt hl hE]
  · have : polE N E = fun _ => 0 := funext fun j => if_neg hl
    rw [this]
    unfold pe
    rw [sm_congr (g := fun _ => 0) (fun _ _ => Int.zero_mul _), sm_zero]
    unfold cnt
    rw [show (fun c => bI (pr E c)) = fun _ => 0 from funext fun c => by
      have : ¬ pr E c = true := fun h => hl fun e he e' => pr_iff.1 h e he (by rw [e'])
      simp [bI, this], sumL_zero]
theorem polE_high {N : Nat} {E : List NP} {j : Nat} (h : N < j) : polE N E j = 0 := by
  unfold polE
  split
  · unfold polT
    exact (sm_congr (g := fun _ => 0) fun u hu => by rw [falT_high u j (by omega), Int.mul_zero]).trans (sm_zero _)
  · rfl
theorem pe_more {p : Nat → Int} {x : Int} {m : Nat} (h : p m = 0) : pe p x (m + 1) = pe p x m := by
  unfold pe
  show sm _ m + p m * x ^ m = _
  rw [h, Int.zero_mul, Int.add_zero]
theorem pe_add (p q : Nat → Int) (x : Int) (m : Nat) : pe (fun i => p i + q i) x m = pe p x m + pe q x m := by
  unfold pe
  rw [← sm_add]
  exact sm_congr fun i _ => Int.add_mul _ _ _
theorem pe_times (p : Nat → Int) (x a : Int) (m : Nat) : pe (fun i => a * p i) x m = a * pe p x m := by
  unfold pe
  rw [← sm_mul]
  exact sm_congr fun i _ => Int.mul_assoc _ _ _
theorem pe_shift (p : Nat → Int) (x : Int) (m : Nat) : pe (fun i => if i = 0 then 0 else p (i - 1)) x (m + 1) = x * pe p x m := by
  unfold pe
  rw [Nat.add_comm m 1, sm_from, ← sm_mul]
  simp only [sm]
  rw [sm_congr (g := fun i => x * (p i * x ^ i)) (n := m) (fun c _ => by rw [if_neg (by omega), show 1 + c - 1 = c by omega, Nat.add_comm 1 c, Int.pow_succ, ← Int.mul_assoc, Int.mul_comm])]
  simp
theorem pe_all0 {p : Nat → Int} {x : Int} {m : Nat} (h : ∀ i, i < m → p i = 0) : pe p x m = 0 :=
  (sm_congr (g := fun _ => 0) fun i hi => by rw [h i hi, Int.zero_mul]).trans (sm_zero _)
theorem mgp_in {N a b : Nat} {E : List NP} (ha : a < N) (hE : ∀ e ∈ E, e.1 < N ∧ e.2 < N) : ∀ e ∈ E.map (mgp a b), e.1 < N ∧ e.2 < N := fun e he => by
  obtain ⟨e', he', rfl⟩ := List.mem_map.1 he
  have := hE e' he'
  constructor
  · show mg a b e'.1 < N
    unfold mg; split <;> omega
  · show mg a b e'.2 < N
    unfold mg; split <;> omega
theorem polE_cons {N a b : Nat} {E : List NP} (hne : a ≠ b) (ha : a < N) (hb : b < N) (hE : ∀ e ∈ E, e.1 < N ∧ e.2 < N) :
    pe (polE N ((a, b) :: E)) (-1) (N + 1) = pe (polE N E) (-1) (N + 1) + pe (polE N (E.map (mgp a b))) (-1) (N + 1) := by
  have hE1 : ∀ e ∈ (a, b) :: E, e.1 < N ∧ e.2 < N := fun e he => by
    rcases List.mem_cons.1 he with rfl | he
    · exact ⟨ha, hb⟩
    · exact hE e he
  have val : ∀ x : Int, pe (fun i => (if i = 0 then 0 else (fun i => polE N ((a, b) :: E) i + -1 * polE N E i) (i - 1)) + polE N (E.map (mgp a b)) i) x (N + 1 + 1) = x * (pe (polE N ((a, b) :: E)) x (N + 1) + -1 * pe (polE N E) x (N + 1)) + pe (polE N (E.map (mgp a b))) x (N + 1) := fun x => by
    rw [pe_add, pe_shift (fun i => polE N ((a, b) :: E) i + -1 * polE N E i), pe_add, pe_times, pe_more (p := polE N (E.map (mgp a b))) (m := N + 1) (polE_high (Nat.lt_succ_self N))]
  have hz := pe_zero (N + 1 + 1) _ 0 (fun x _ => by
    rw [val x, polE_pe hE1, polE_pe hE, polE_pe (mgp_in ha hE), Int.mul_add, cnt_cons hne ha hb]
    rw [← Int.mul_assoc, Int.mul_comm (x : Int) (-1), Int.mul_assoc]
    omega)
  have h1 := pe_all0 (x := -1) hz
  rw [val (-1)] at h1
  omega
theorem pe_pow (N : Nat) (x : Int) : pe (fun i => if i = N then 1 else 0) x (N + 1) = x ^ N := by
  unfold pe
  rw [sm_split (a := N) (by omega), sm_congr (g := fun _ => 0) (fun c _ => by by_cases e : c = N <;> simp [e]), sm_zero]
  simp
theorem sumL_one {x : Nat} : ∀ (vs : List Nat) (c : Nat → Nat), sumL x vs c (fun _ => 1) = (x : Int) ^ vs.length
  | [], _ => rfl
  | v :: vs, c => by
    show sm _ x = _
    rw [sm_congr (g := fun _ => (x : Int) ^ vs.length) (fun y _ => sumL_one vs _), sm_const, List.length_cons, Int.pow_succ, Int.mul_comm]
theorem polE_nil (N : Nat) : pe (polE N []) (-1) (N + 1) = (-1) ^ N := by
  have val : ∀ x : Int, pe (fun i => polE N [] i + -1 * (if i = N then 1 else 0)) x (N + 1) = pe (polE N []) x (N + 1) + -1 * x ^ N := fun x => by
    rw [pe_add, pe_times (fun i => if i = N then 1 else 0), pe_pow]
  have hz := pe_zero (N + 1) _ 0 (fun x _ => by
    rw [val x, polE_pe (fun e he => absurd he (List.not_mem_nil))]
    have : cnt N x [] = (x : Int) ^ N := by
      unfold cnt
      rw [show (fun c => bI (pr [] c)) = fun _ => 1 from rfl, sumL_one, List.length_range]
    rw [this]
    omega)
  have h1 := pe_all0 (x := -1) hz
  rw [val (-1)] at h1
  omega
/-- Stanley. -/
theorem stanley {N : Nat} : ∀ (m : Nat) (E : List NP), E.length = m → (∀ e ∈ E, e.1 < N ∧ e.2 < N) → pe (polE N E) (-1) (N + 1) = (-1) ^ N * acy E
  | 0, E, h, _ => by
    obtain rfl := List.length_eq_zero_iff.1 h
    rw [polE_nil, acy_nil, Int.mul_one]
  | m + 1, [], h, _ => by cases h
  | m + 1, (a, b) :: E, h, hE => by
    have hE' : ∀ e ∈ E, e.1 < N ∧ e.2 < N := fun e he => hE e (List.mem_cons_of_mem _ he)
    have hab := hE (a, b) List.mem_cons_self
    by_cases hne : a = b
    · subst hne
      rw [acy_loop, Int.mul_zero]
      refine pe_all0 fun i _ => if_neg fun h => h (a, a) List.mem_cons_self rfl
    · rw [polE_cons hne hab.1 hab.2 hE', acy_cons hne, stanley m E (by simpa using h) hE', stanley m (E.map (mgp a b)) (by simpa using h) (mgp_in hab.1 hE'), Int.mul_add]
end Go.Proofs.Ytdnmoifbkojnlaa
