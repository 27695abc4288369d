/- Birkhoff: the number of colourings out of the colourings in order, each times x (x - 1) .. for its colours. -/
import Derived.Test.YtdnmoifbkojnlaaColM
namespace Go.Proofs.Ytdnmoifbkojnlaa

/-- A sum over the numbers below n. -/
def sm (f : Nat → Int) : Nat → Int
  | 0 => 0
  | n + 1 => sm f n + f n
theorem sm_congr {f g : Nat → Int} : ∀ {n : Nat}, (∀ c, c < n → f c = g c) → sm f n = sm g n
  | 0, _ => rfl
  | n + 1, h => by
    unfold sm
    rw [sm_congr (n := n) (fun c hc => h c (by omega)), h n (by omega)]
theorem sm_add (f g : Nat → Int) : ∀ n, sm (fun c => f c + g c) n = sm f n + sm g n
  | 0 => rfl
  | n + 1 => by
    simp only [sm]
    rw [sm_add f g n]
    omega
theorem sm_mul (a : Int) (f : Nat → Int) : ∀ n, sm (fun c => a * f c) n = a * sm f n
  | 0 => by simp [sm]
  | n + 1 => by
    simp only [sm]
    rw [sm_mul a f n, Int.mul_add]
theorem sm_zero : ∀ n, sm (fun _ => 0) n = 0
  | 0 => rfl
  | n + 1 => by simp only [sm]; rw [sm_zero n]; rfl
theorem sm_comm (f : Nat → Nat → Int) (m : Nat) : ∀ n, sm (fun a => sm (fun b => f a b) m) n = sm (fun b => sm (fun a => f a b) n) m
  | 0 => by simp only [sm]; rw [sm_zero]
  | n + 1 => by
    simp only [sm]
    rw [sm_comm f m n, ← sm_add]
theorem sm_split {f : Nat → Int} {a : Nat} : ∀ {n : Nat}, a < n → sm f n = sm (fun c => if c = a then 0 else f c) n + f a
  | 0, h => absurd h (Nat.not_lt_zero _)
  | n + 1, h => by
    simp only [sm]
    by_cases e : a = n
    · subst e
      rw [if_pos rfl, sm_congr (g := fun c => if c = a then 0 else f c) (n := a) (fun c hc => by rw [if_neg (by omega)])]
      omega
    · rw [sm_split (f := f) (a := a) (n := n) (by omega), if_neg (fun h => e h.symm)]
      omega
theorem sm_const (a : Int) : ∀ n : Nat, sm (fun _ => a) n = (n : Int) * a
  | 0 => by simp [sm]
  | n + 1 => by
    simp only [sm]
    rw [sm_const a n]
    simp [Int.add_mul]
/-- The sum beyond m. -/
theorem sm_from (f : Nat → Int) (m : Nat) : ∀ d, sm f (m + d) = sm f m + sm (fun c => f (m + c)) d
  | 0 => by simp [sm]
  | d + 1 => by
    show sm f (m + d) + f (m + d) = _
    rw [sm_from f m d]
    simp only [sm]
    omega
/-- Two colours change places. -/
def sw (a b c : Nat) : Nat := if c = a then b else if c = b then a else c
theorem sw_inv (a b c : Nat) : sw a b (sw a b c) = c := by
  unfold sw
  by_cases h1 : c = a
  · simp [h1]
  · by_cases h2 : c = b
    · simp [h2]
    · simp [h1, h2]
theorem sw_inj {a b c d : Nat} (h : sw a b c = sw a b d) : c = d := by
  rw [← sw_inv a b c, h, sw_inv]
theorem sm_sw {f : Nat → Int} {a b n : Nat} (ha : a < n) (hb : b < n) : sm (fun c => f (sw a b c)) n = sm f n := by
  by_cases e : a = b
  · subst e
    exact sm_congr fun c _ => by
      unfold sw
      by_cases h : c = a <;> simp [h]
  · rw [sm_split ha, sm_split (f := fun c => if c = a then 0 else f (sw a b c)) hb, sm_split (f := f) ha, sm_split (f := fun c => if c = a then 0 else f c) hb]
    have h1 : (if b = a then (0 : Int) else f (sw a b b)) = f a := by
      rw [if_neg (fun h => e h.symm)]
      unfold sw
      rw [if_neg (fun h => e h.symm), if_pos rfl]
    have h2 : f (sw a b a) = f b := by unfold sw; rw [if_pos rfl]
    have h3 : (if b = a then (0 : Int) else f b) = f b := if_neg (fun h => e h.symm)
    have h4 : sm (fun c => if c = b then (0 : Int) else if c = a then 0 else f (sw a b c)) n = sm (fun c => if c = b then (0 : Int) else if c = a then 0 else f c) n := sm_congr fun c _ => by
      by_cases hb : c = b
      · simp [hb]
      · by_cases ha : c = a
        · simp [ha]
        · simp [hb, ha, sw]
    simp only [h1, h2, h3, h4]
    omega

/-- How many colourings in order there are with j colours: r nodes are left. -/
def Wc (k : Nat) (adj : Nat → Nat → Bool) : Nat → List Nat → Nat → Nat → Int
  | 0, _, used, j => if j = used then 1 else 0
  | r + 1, L, used, j => sm (fun c => if okC adj L c then Wc k adj r (L ++ [c]) (max used (c + 1)) j else 0) (min (used + 1) k)
/-- How many colourings there are with colours below x. -/
def Cc (x : Nat) (adj : Nat → Nat → Bool) : Nat → List Nat → Int
  | 0, _ => 1
  | r + 1, L => sm (fun c => if okC adj L c then Cc x adj r (L ++ [c]) else 0) x
/-- y (y - 1) .. , so many of them. -/
def ff (y : Int) : Nat → Int
  | 0 => 1
  | n + 1 => y * ff (y - 1) n
theorem okC_sw {adj : Nat → Nat → Bool} {L : List Nat} {a b c : Nat} : okC adj (L.map (sw a b)) (sw a b c) = okC adj L c := by
  have hg : ∀ w, w < L.length → (L.map (sw a b)).getD w 0 = sw a b (L.getD w 0) := fun w hw => by
    simp [List.getD, List.getElem?_eq_getElem hw]
  rw [Bool.eq_iff_iff, okC_iff, okC_iff]
  constructor
  · intro h w hw ha e
    refine h w (by simpa using hw) (by simpa using ha) ?_
    rw [hg w hw, e]
  · intro h w hw ha e
    have hw' : w < L.length := by simpa using hw
    rw [hg w hw'] at e
    exact h w hw' (by simpa using ha) (sw_inj e)
theorem Cc_sw {x : Nat} {adj : Nat → Nat → Bool} {a b : Nat} (ha : a < x) (hb : b < x) : ∀ (r : Nat) (L : List Nat), Cc x adj r (L.map (sw a b)) = Cc x adj r L
  | 0, _ => rfl
  | r + 1, L => by
    unfold Cc
    rw [← sm_sw ha hb]
    refine sm_congr fun c _ => ?_
    rw [okC_sw]
    have : L.map (sw a b) ++ [sw a b c] = (L ++ [c]).map (sw a b) := by simp
    rw [this, Cc_sw ha hb r]
theorem okC_new {adj : Nat → Nat → Bool} {L : List Nat} {used c : Nat} (h : ∀ i, i < L.length → L.getD i 0 < used) (hc : used ≤ c) : okC adj L c = true := okC_iff.2 fun w hw _ e => by
  have := h w hw
  omega
theorem below_snoc {L : List Nat} {used c u : Nat} (h : ∀ i, i < L.length → L.getD i 0 < used) (hc : c < u) (hu : used ≤ u) : ∀ i, i < (L ++ [c]).length → (L ++ [c]).getD i 0 < u := fun i hi => by
  rw [List.length_append] at hi
  by_cases e : i = L.length
  · subst e; rw [getD_last]; exact hc
  · have hi' : i < L.length := by simp at hi; omega
    rw [getD_left hi']
    have := h i hi'
    omega
theorem Cc_new {x : Nat} {adj : Nat → Nat → Bool} {r : Nat} {L : List Nat} {used c : Nat} (h : ∀ i, i < L.length → L.getD i 0 < used) (hc : used ≤ c) (hx : c < x) : Cc x adj r (L ++ [c]) = Cc x adj r (L ++ [used]) := by
  rw [← Cc_sw (a := used) (b := c) (by omega) hx r (L ++ [used])]
  congr 1
  rw [List.map_append]
  have h1 : L.map (sw used c) = L := by
    refine (List.map_congr_left (g := id) fun z hz => ?_).trans (List.map_id _)
    obtain ⟨i, hi, rfl⟩ := List.getElem_of_mem hz
    have := h i hi
    simp only [List.getD, List.getElem?_eq_getElem hi, Option.getD_some] at this
    unfold sw
    rw [if_neg (by omega), if_neg (by omega)]
    rfl
  rw [h1]
  simp [sw]
theorem Wc_low {k : Nat} {adj : Nat → Nat → Bool} : ∀ (r : Nat) (L : List Nat) (used j : Nat), j < used → Wc k adj r L used j = 0
  | 0, _, used, j, h => if_neg (by omega)
  | r + 1, L, used, j, h => by
    unfold Wc
    refine (sm_congr (g := fun _ => 0) fun c _ => ?_).trans (sm_zero _)
    rw [Wc_low r _ _ _ (by omega)]
    split <;> rfl
theorem Wc_high {k : Nat} {adj : Nat → Nat → Bool} : ∀ (r : Nat) (L : List Nat) (used j : Nat), used + r < j → Wc k adj r L used j = 0
  | 0, _, used, j, h => if_neg (by omega)
  | r + 1, L, used, j, h => by
    unfold Wc
    refine (sm_congr (g := fun _ => 0) fun c hc => ?_).trans (sm_zero _)
    rw [Wc_high r _ _ _ (by omega)]
    split <;> rfl
theorem Wc_top {k : Nat} {adj : Nat → Nat → Bool} : ∀ (r : Nat) (L : List Nat) (used : Nat), (∀ i, i < L.length → L.getD i 0 < used) → used + r ≤ k → Wc k adj r L used (used + r) = 1
  | 0, _, used, _, _ => if_pos rfl
  | r + 1, L, used, h, hk => by
    unfold Wc
    rw [show min (used + 1) k = used + 1 by omega]
    simp only [sm]
    rw [okC_new h (Nat.le_refl _), if_pos rfl, show max used (used + 1) = used + 1 by omega, show used + (r + 1) = (used + 1) + r by omega, Wc_top r _ _ (below_snoc h (by omega) (by omega)) (by omega)]
    rw [sm_congr (g := fun _ => 0) (fun c hc => by
      rw [Wc_high r _ _ _ (by omega)]
      split <;> rfl), sm_zero]
    rfl
/-- Birkhoff. -/
theorem birk {k x m : Nat} {adj : Nat → Nat → Bool} : ∀ (r : Nat) (L : List Nat) (used : Nat), (∀ i, i < L.length → L.getD i 0 < used) → used ≤ x → used + r ≤ k → used + r < m →
    Cc x adj r L = sm (fun j => Wc k adj r L used j * ff ((x : Int) - used) (j - used)) m
  | 0, L, used, h, hx, hk, hm => by
    unfold Cc Wc
    rw [sm_split (a := used) (by omega)]
    rw [sm_congr (g := fun _ => 0) (fun c hc => by
      by_cases e : c = used
      · rw [if_pos e]
      · rw [if_neg e, if_neg e, Int.zero_mul]), sm_zero]
    simp [ff]
  | r + 1, L, used, h, hx, hk, hm => by
    obtain ⟨d, rfl⟩ : ∃ d, x = used + d := ⟨x - used, by omega⟩
    have hsplit : ∀ j, Wc k adj (r + 1) L used j = sm (fun c => if okC adj L c then Wc k adj r (L ++ [c]) used j else 0) used + Wc k adj r (L ++ [used]) (used + 1) j := fun j => by
      show sm _ (min (used + 1) k) = _
      rw [show min (used + 1) k = used + 1 by omega]
      simp only [sm]
      rw [okC_new h (Nat.le_refl _), if_pos rfl, show max used (used + 1) = used + 1 by omega]
      congr 1
      refine sm_congr fun c hc => ?_
      rw [show max used (c + 1) = used by omega]
    show sm _ (used + d) = _
    rw [sm_from]
    have e1 : sm (fun c => if okC adj L c = true then Cc (used + d) adj r (L ++ [c]) else 0) used = sm (fun j => sm (fun c => if okC adj L c then Wc k adj r (L ++ [c]) used j else 0) used * ff (((used + d : Nat) : Int) - used) (j - used)) m := by
      rw [show (fun j => sm (fun c => if okC adj L c then Wc k adj r (L ++ [c]) used j else 0) used * ff (((used + d : Nat) : Int) - used) (j - used)) = (fun j => sm (fun c => if okC adj L c then Wc k adj r (L ++ [c]) used j * ff (((used + d : Nat) : Int) - used) (j - used) else 0) used) from funext fun j => by
        rw [Int.mul_comm, ← sm_mul]
        refine sm_congr fun c _ => ?_
        split
        · rw [Int.mul_comm]
        · rw [Int.mul_zero]]
      rw [← sm_comm (fun c j => if okC adj L c then Wc k adj r (L ++ [c]) used j * ff (((used + d : Nat) : Int) - used) (j - used) else 0)]
      refine sm_congr fun c hc => ?_
      by_cases ho : okC adj L c = true
      · rw [if_pos ho, birk (k := k) (m := m) r (L ++ [c]) used (below_snoc h hc (Nat.le_refl _)) (by omega) (by omega) (by omega)]
        exact sm_congr fun j _ => by rw [if_pos ho]
      · rw [if_neg ho]
        exact ((sm_congr (g := fun _ => 0) fun j _ => if_neg ho).trans (sm_zero m)).symm
    have e2 : sm (fun c => if okC adj L (used + c) = true then Cc (used + d) adj r (L ++ [used + c]) else 0) d = sm (fun j => Wc k adj r (L ++ [used]) (used + 1) j * ff (((used + d : Nat) : Int) - used) (j - used)) m := by
      have hr : ∀ j, Wc k adj r (L ++ [used]) (used + 1) j * ff (((used + d : Nat) : Int) - used) (j - used) = (d : Int) * (Wc k adj r (L ++ [used]) (used + 1) j * ff (((used + d : Nat) : Int) - ((used + 1 : Nat) : Int)) (j - (used + 1))) := fun j => by
        by_cases hj : j < used + 1
        · rw [Wc_low r _ _ _ hj]; simp
        · rw [show j - used = (j - (used + 1)) + 1 by omega]
          show _ * ((((used + d : Nat) : Int) - used) * ff (((used + d : Nat) : Int) - used - 1) (j - (used + 1))) = _
          rw [show ((used + d : Nat) : Int) - used = d by omega, show ((used + d : Nat) : Int) - ((used + 1 : Nat) : Int) = (d : Int) - 1 by omega, ← Int.mul_assoc, Int.mul_comm _ (d : Int), Int.mul_assoc]
      rw [show (fun j => Wc k adj r (L ++ [used]) (used + 1) j * ff (((used + d : Nat) : Int) - used) (j - used)) = _ from funext hr, sm_mul]
      cases d with
      | zero => simp [sm]
      | succ d =>
        rw [← birk (k := k) (m := m) r (L ++ [used]) (used + 1) (below_snoc h (by omega) (by omega)) (by omega) (by omega) (by omega), ← sm_const]
        refine sm_congr fun c hc => ?_
        rw [okC_new h (by omega), if_pos rfl]
        exact Cc_new h (by omega) (by omega)
    rw [e1, e2, ← sm_add]
    refine sm_congr fun j _ => ?_
    rw [hsplit, Int.add_mul]
end Go.Proofs.Ytdnmoifbkojnlaa
