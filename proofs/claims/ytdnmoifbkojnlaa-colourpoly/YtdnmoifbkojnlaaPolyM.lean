/- The polynomial that Poly tells, up to whole turns of 64 bits: its value is Birkhoff's sum. -/
import Derived.Test.YtdnmoifbkojnlaaBirk
import Derived.Test.YtdnmoifbkojnlaaPolyC
namespace Go.Proofs.Ytdnmoifbkojnlaa
open Go.RowKit Go.Maps

theorem wrap_eq (n : Int) : IntKind.i64.wrap n = wrap64 n := by rw [IntKind.wrap_i64]; unfold wrap64; rfl
/-- The same but for whole turns. -/
def Cg (a b : Int) : Prop := ∃ q, a = b + 18446744073709551616 * q
theorem Cg.rfl' (a : Int) : Cg a a := ⟨0, by omega⟩
theorem cg_of_eq {a b : Int} (h : a = b) : Cg a b := ⟨0, by omega⟩
theorem wr_cg (a : Int) : Cg (Wr a) a := by
  unfold Wr
  rw [wrap_eq]
  unfold wrap64
  exact ⟨-((a + 9223372036854775808) / 18446744073709551616), by omega⟩
theorem Cg.wr {a b : Int} (h : Cg a b) : Wr a = Wr b := by
  obtain ⟨q, rfl⟩ := h
  unfold Wr
  rw [wrap_eq, wrap_eq]
  unfold wrap64
  omega
theorem Cg.trans {a b c : Int} (h : Cg a b) (h' : Cg b c) : Cg a c := by
  obtain ⟨q, rfl⟩ := h
  obtain ⟨r, rfl⟩ := h'
  exact ⟨r + q, by omega⟩
theorem Cg.symm {a b : Int} (h : Cg a b) : Cg b a := by
  obtain ⟨q, rfl⟩ := h
  exact ⟨-q, by omega⟩
theorem Cg.add {a b c d : Int} (h : Cg a b) (h' : Cg c d) : Cg (a + c) (b + d) := by
  obtain ⟨q, rfl⟩ := h
  obtain ⟨r, rfl⟩ := h'
  exact ⟨q + r, by omega⟩
theorem Cg.sub {a b c d : Int} (h : Cg a b) (h' : Cg c d) : Cg (a - c) (b - d) := by
  obtain ⟨q, rfl⟩ := h
  obtain ⟨r, rfl⟩ := h'
  exact ⟨q - r, by omega⟩
theorem Cg.neg {a b : Int} (h : Cg a b) : Cg (-a) (-b) := by
  obtain ⟨q, rfl⟩ := h
  exact ⟨-q, by omega⟩
theorem Cg.mul {a b c d : Int} (h : Cg a b) (h' : Cg c d) : Cg (a * c) (b * d) := by
  obtain ⟨q, rfl⟩ := h
  obtain ⟨r, rfl⟩ := h'
  refine ⟨b * r + q * d + 18446744073709551616 * (q * r), ?_⟩
  simp only [Int.add_mul, Int.mul_add]
  rw [Int.mul_left_comm b 18446744073709551616 r, Int.mul_assoc 18446744073709551616 q d, Int.mul_assoc 18446744073709551616 q, Int.mul_left_comm q 18446744073709551616 r]
  omega
theorem sm_cg {f g : Nat → Int} : ∀ {n : Nat}, (∀ c, c < n → Cg (f c) (g c)) → Cg (sm f n) (sm g n)
  | 0, _ => Cg.rfl' _
  | n + 1, h => by
    unfold sm
    exact (sm_cg (n := n) fun c hc => h c (by omega)).add (h n (by omega))

/-- A sum over a list. -/
def ls (f : Nat → Int) : List Nat → Int
  | [] => 0
  | c :: cs => f c + ls f cs
theorem ls_append (f : Nat → Int) : ∀ a b, ls f (a ++ b) = ls f a + ls f b
  | [], b => by simp [ls]
  | c :: cs, b => by
    simp only [List.cons_append, ls]
    rw [ls_append f cs b]
    omega
theorem ls_range (f : Nat → Int) : ∀ n, ls f (List.range n) = sm f n
  | 0 => rfl
  | n + 1 => by
    rw [List.range_succ, ls_append, ls_range f n]
    simp [ls, sm]
theorem lp_ways {adj : Nat → Nat → Bool} {L : List Nat} {used : Nat} {go : List Nat → Nat → (Nat → Int) → Bool × (Nat → Int)} {G : List Nat → Nat → Nat → Int}
    (hgo : ∀ L used s (t : Nat → Int), (∀ j, Cg (s j) (t j)) → ∀ j, Cg ((go L used s).2 j) (t j + G L used j)) (hf : ∀ L used s, (go L used s).1 = false) :
    ∀ (cs : List Nat) (s t : Nat → Int), (∀ j, Cg (s j) (t j)) → ∀ j, Cg ((lpC adj L used go cs s).2 j) (t j + ls (fun c => if okC adj L c then G (L ++ [c]) (max used (c + 1)) j else 0) cs)
  | [], s, t, h, j => by
    show Cg (s j) (t j + 0)
    rw [Int.add_zero]
    exact h j
  | c :: cs, s, t, h, j => by
    unfold lpC ls
    by_cases ho : okC adj L c = true
    · rw [if_pos ho, if_pos ho, hf, if_neg (by simp), ← Int.add_assoc]
      exact lp_ways hgo hf cs _ (fun j => t j + G (L ++ [c]) (max used (c + 1)) j) (hgo _ _ _ _ h) j
    · rw [if_neg ho, if_neg ho, Int.zero_add]
      exact lp_ways hgo hf cs s t h j
theorem tr_ways {k : Nat} {adj : Nat → Nat → Bool} : ∀ (r : Nat) (L : List Nat) (used : Nat) (s t : Nat → Int), (∀ j, Cg (s j) (t j)) → ∀ j, Cg ((trC k adj stepW r L used s).2 j) (t j + Wc k adj r L used j)
  | 0, L, used, s, t, h, j => by
    show Cg (if j = used then Wr (s j + 1) else s j) (t j + if j = used then 1 else 0)
    split
    · exact (wr_cg _).trans ((h j).add (Cg.rfl' 1))
    · rw [Int.add_zero]; exact h j
  | r + 1, L, used, s, t, h, j => by
    unfold trC Wc
    rw [← ls_range]
    exact lp_ways (G := fun L used j => Wc k adj r L used j) (fun L used s t h j => tr_ways r L used s t h j) (fun L used s => stepW_false k 0 adj r L used s) _ s t h j
theorem ways_cg (N : Nat) (es : List Pair) (j : Nat) : Cg (waysE N es j) (Wc N (adjE es) N [] 0 j) := by
  have := tr_ways (k := N) (adj := adjE es) N [] 0 (fun _ => 0) (fun _ => 0) (fun _ => Cg.rfl' _) j
  rw [Int.zero_add] at this
  exact this

/-- The coefficients of x (x - 1) .. (x - k + 1). -/
def falT : Nat → Nat → Int
  | 0 => fun j => if j = 0 then 1 else 0
  | k + 1 => fun j => (if j = 0 then 0 else falT k (j - 1)) - (k : Int) * falT k j
theorem falT_high : ∀ (k j : Nat), k < j → falT k j = 0
  | 0, j, h => if_neg (by omega)
  | k + 1, j, h => by
    unfold falT
    rw [if_neg (by omega), falT_high k (j - 1) (by omega), falT_high k j (by omega)]
    simp
theorem falT_top : ∀ k, falT k k = 1
  | 0 => rfl
  | k + 1 => by
    unfold falT
    rw [if_neg (by omega), falT_high k (k + 1) (by omega), show k + 1 - 1 = k by omega, falT_top k]
    simp
theorem ff_snoc : ∀ (n : Nat) (y : Int), ff y (n + 1) = ff y n * (y - n)
  | 0, y => by simp [ff]
  | n + 1, y => by
    show y * ff (y - 1) (n + 1) = y * ff (y - 1) n * (y - ((n + 1 : Nat) : Int))
    rw [ff_snoc n (y - 1), Int.mul_assoc, show y - 1 - (n : Int) = y - ((n + 1 : Nat) : Int) by omega]
/-- A polynomial's value. -/
def pe (p : Nat → Int) (x : Int) (m : Nat) : Int := sm (fun i => p i * x ^ i) m
theorem falT_pe (x : Int) : ∀ (k m : Nat), k < m → pe (falT k) x m = ff x k
  | 0, m, h => by
    unfold pe
    rw [sm_split (a := 0) h, sm_congr (g := fun _ => 0) (fun c _ => by
      by_cases e : c = 0
      · rw [if_pos e]
      · rw [if_neg e]; unfold falT; rw [if_neg e, Int.zero_mul]), sm_zero]
    simp [falT, ff]
  | k + 1, m, h => by
    obtain ⟨m, rfl⟩ : ∃ m', m = m' + 1 := ⟨m - 1, by omega⟩
    have e : ∀ i, falT (k + 1) i * x ^ i = (if i = 0 then 0 else falT k (i - 1) * x ^ i) + -(k : Int) * (falT k i * x ^ i) := fun i => by
      show ((if i = 0 then 0 else falT k (i - 1)) - (k : Int) * falT k i) * x ^ i = _
      rw [Int.sub_mul, Int.mul_assoc, Int.neg_mul]
      split
      · rw [Int.zero_mul]; omega
      · omega
    unfold pe
    rw [sm_congr fun c _ => e c, sm_add, sm_mul]
    have h2 : sm (fun i => falT k i * x ^ i) (m + 1) = ff x k := falT_pe x k (m + 1) (by omega)
    have h1 : sm (fun i => if i = 0 then 0 else falT k (i - 1) * x ^ i) (m + 1) = x * ff x k := by
      rw [Nat.add_comm, sm_from]
      rw [sm_congr (g := fun i => x * (falT k i * x ^ i)) (n := m) (fun c _ => by
        rw [if_neg (by omega), show 1 + c - 1 = c by omega, Nat.add_comm 1 c, Int.pow_succ, ← Int.mul_assoc, Int.mul_comm])]
      rw [sm_mul]
      have := falT_pe x k m (by omega)
      unfold pe at this
      rw [this]
      simp [sm]
    rw [h1, h2, ff_snoc, Int.mul_sub, Int.mul_comm x, Int.neg_mul, Int.mul_comm (k : Int)]
    omega
theorem txl_cg {p : Nat → Int} {k : Nat} : ∀ (m j : Nat), Cg (txl p k m j) ((if 1 ≤ j ∧ j ≤ m then p (j - 1) else 0) - (if j < m then (k : Int) * p j else 0))
  | 0, j => by
    rw [if_neg (by omega), if_neg (by omega)]
    exact Cg.rfl' 0
  | m + 1, j => by
    show Cg (if j = m then Wr (txl p k m m - Wr ((k : Int) * p m)) else if j = m + 1 then Wr (txl p k m (m + 1) + p m) else txl p k m j) _
    by_cases e : j = m
    · subst e
      rw [if_pos rfl]
      refine (wr_cg _).trans (((txl_cg j j).sub (wr_cg _)).trans (cg_of_eq ?_))
      rw [if_neg (Nat.lt_irrefl j), if_pos (Nat.lt_succ_self j)]
      by_cases h1 : 1 ≤ j
      · rw [if_pos ⟨h1, Nat.le_refl _⟩, if_pos ⟨h1, by omega⟩]; omega
      · rw [if_neg (by omega), if_neg (by omega)]; omega
    · rw [if_neg e]
      by_cases e' : j = m + 1
      · subst e'
        rw [if_pos rfl]
        refine (wr_cg _).trans (((txl_cg m (m + 1)).add (Cg.rfl' _)).trans (cg_of_eq ?_))
        rw [if_neg (by omega), if_neg (by omega), if_pos (by omega), if_neg (by omega), show m + 1 - 1 = m by omega]
        omega
      · rw [if_neg e']
        refine (txl_cg m j).trans (cg_of_eq ?_)
        have g1 : (if 1 ≤ j ∧ j ≤ m + 1 then p (j - 1) else 0) = (if 1 ≤ j ∧ j ≤ m then p (j - 1) else 0) := by
          by_cases h1 : 1 ≤ j ∧ j ≤ m
          · rw [if_pos h1, if_pos ⟨h1.1, by omega⟩]
          · rw [if_neg h1, if_neg (fun h => h1 ⟨h.1, by omega⟩)]
        have g2 : (if j < m + 1 then (k : Int) * p j else 0) = (if j < m then (k : Int) * p j else 0) := by
          by_cases h2 : j < m
          · rw [if_pos h2, if_pos (by omega)]
          · rw [if_neg h2, if_neg (by omega)]
        rw [g1, g2]
theorem fal_cg : ∀ (k j : Nat), j ≤ k → Cg (fal k j) (falT k j)
  | 0, j, h => by
    obtain rfl : j = 0 := by omega
    exact Cg.rfl' 1
  | k + 1, j, h => by
    refine (txl_cg (k + 1) j).trans ?_
    unfold falT
    refine Cg.sub ?_ ?_
    · by_cases h0 : j = 0
      · rw [if_neg (by omega), if_pos h0]; exact Cg.rfl' 0
      · rw [if_pos (by omega), if_neg h0]; exact fal_cg k (j - 1) (by omega)
    · by_cases h1 : j < k + 1
      · rw [if_pos h1]; exact (Cg.rfl' _).mul (fal_cg k j (by omega))
      · rw [if_neg h1, falT_high k j (by omega), Int.mul_zero]; exact Cg.rfl' 0
theorem addF_cg {S : Nat → Int} {many : Int} {f : Nat → Int} : ∀ (m j : Nat), Cg (addF S many f m j) (S j + if j < m then many * f j else 0)
  | 0, j => by
    rw [if_neg (by omega), Int.add_zero]
    exact Cg.rfl' _
  | m + 1, j => by
    show Cg (if j = m then Wr (addF S many f m m + Wr (many * f m)) else addF S many f m j) _
    by_cases e : j = m
    · subst e
      rw [if_pos rfl, if_pos (by omega)]
      refine (wr_cg _).trans (((addF_cg j j).add (wr_cg _)).trans (cg_of_eq ?_))
      rw [if_neg (Nat.lt_irrefl _)]
      omega
    · rw [if_neg e]
      refine (addF_cg m j).trans (cg_of_eq ?_)
      by_cases h : j < m
      · rw [if_pos h, if_pos (by omega)]
      · rw [if_neg h, if_neg (by omega)]
theorem sumF_cg {ways W : Nat → Int} (hw : ∀ j, Cg (ways j) (W j)) : ∀ (k j : Nat), Cg (sumF ways k j) (sm (fun u => W u * falT u j) k)
  | 0, j => Cg.rfl' 0
  | k + 1, j => by
    refine (addF_cg (k + 1) j).trans ?_
    unfold sm
    refine (sumF_cg hw k j).add ?_
    by_cases h : j < k + 1
    · rw [if_pos h]
      exact (hw k).mul (fal_cg k j (by omega))
    · rw [if_neg h, falT_high k j (by omega), Int.mul_zero]
      exact Cg.rfl' 0
/-- The coefficients of the polynomial. -/
def polT (N : Nat) (adj : Nat → Nat → Bool) (j : Nat) : Int := sm (fun u => Wc N adj N [] 0 u * falT u j) (N + 1)
theorem poly_cg (N : Nat) (es : List Pair) (j : Nat) : Cg (polyE N es j) (polT N (adjE es) j) := sumF_cg (ways_cg N es) (N + 1) j
theorem polT_top (N : Nat) (adj : Nat → Nat → Bool) : polT N adj N = 1 := by
  unfold polT sm
  have h := Wc_top (k := N) (adj := adj) N [] 0 (fun i h => absurd h (Nat.not_lt_zero _)) (by omega)
  rw [Nat.zero_add] at h
  rw [h, falT_top, sm_congr (g := fun _ => 0) (fun c hc => by rw [falT_high c N hc, Int.mul_zero]), sm_zero]
  rfl
theorem polT_pe (N : Nat) (adj : Nat → Nat → Bool) (x : Int) : pe (polT N adj) x (N + 1) = sm (fun u => Wc N adj N [] 0 u * ff x u) (N + 1) := by
  unfold pe polT
  rw [sm_congr (g := fun i => sm (fun u => Wc N adj N [] 0 u * (falT u i * x ^ i)) (N + 1)) (fun c _ => by
    rw [Int.mul_comm, ← sm_mul]
    exact sm_congr fun u _ => by rw [Int.mul_comm, Int.mul_assoc])]
  rw [sm_comm (fun i u => Wc N adj N [] 0 u * (falT u i * x ^ i))]
  refine sm_congr fun u hu => ?_
  rw [sm_mul]
  have := falT_pe x u (N + 1) hu
  unfold pe at this
  rw [this]
/-- Birkhoff: at x it is the number of colourings with colours below x. -/
theorem polT_count (N : Nat) (adj : Nat → Nat → Bool) (x : Nat) : pe (polT N adj) (x : Int) (N + 1) = Cc x adj N [] := by
  rw [polT_pe, birk (k := N) (m := N + 1) N [] 0 (fun i h => absurd h (Nat.not_lt_zero _)) (by omega) (by omega) (by omega)]
  refine sm_congr fun u _ => ?_
  simp
/-- What the loop of 'at' has after d rounds. -/
def hz (p : Nat → Int) (x : Int) (m : Nat) : Nat → Int
  | 0 => 0
  | d + 1 => Wr (Wr (hz p x m d * x) + p (m - 1 - d))
theorem hz_cg {p : Nat → Int} {x : Int} {m : Nat} : ∀ d, d ≤ m → Cg (hz p x m d) (sm (fun i => p (m - d + i) * x ^ i) d)
  | 0, _ => Cg.rfl' 0
  | d + 1, h => by
    unfold hz
    refine (wr_cg _).trans ((((wr_cg _).trans ((hz_cg d (by omega)).mul (Cg.rfl' x))).add (Cg.rfl' _)).trans (cg_of_eq ?_))
    rw [Nat.add_comm d 1, sm_from]
    rw [sm_congr (f := fun c => p (m - (1 + d) + (1 + c)) * x ^ (1 + c)) (g := fun i => x * (p (m - d + i) * x ^ i)) (n := d) (fun c _ => by
      rw [show m - (1 + d) + (1 + c) = m - d + c by omega, Nat.add_comm 1 c, Int.pow_succ, ← Int.mul_assoc, Int.mul_comm])]
    rw [sm_mul, Int.mul_comm x]
    simp only [sm]
    rw [show m - (1 + d) + 0 = m - 1 - d by omega]
    simp
    omega
theorem hz_pe {p q : Nat → Int} {x : Int} {m : Nat} (h : ∀ j, Cg (p j) (q j)) : Cg (hz p x m m) (pe q x m) := by
  refine (hz_cg m (Nat.le_refl _)).trans ?_
  unfold pe
  exact sm_cg fun c _ => by
    rw [show m - m + c = c by omega]
    exact (h c).mul (Cg.rfl' _)
end Go.Proofs.Ytdnmoifbkojnlaa
