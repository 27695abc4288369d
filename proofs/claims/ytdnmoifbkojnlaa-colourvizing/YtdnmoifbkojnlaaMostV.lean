/- The greatest number of edges at a node, and the edges that have a colour. -/
import Derived.Test.YtdnmoifbkojnlaaNearBy
import Derived.Test.YtdnmoifbkojnlaaVizA
import Derived.Lib.MinMax
namespace Go.Proofs.Ytdnmoifbkojnlaa
open Go.RowKit Go.Maps
attribute [local go_sem ↓] Go.wp_at_zero Go.wp_at_succ

def mxL (ls : Nat → List Nat) : Nat → Nat
  | 0 => 0
  | d + 1 => max (mxL ls d) (ls d).length
theorem mxL_ge (ls : Nat → List Nat) : ∀ m i, i < m → (ls i).length ≤ mxL ls m
  | 0, i, h => absurd h (Nat.not_lt_zero _)
  | m + 1, i, h => by
    unfold mxL
    by_cases e : i = m
    · subst e; omega
    · have := mxL_ge ls m i (by omega)
      omega
theorem mxL_le (ls : Nat → List Nat) {K : Nat} : ∀ m, (∀ i, i < m → (ls i).length ≤ K) → mxL ls m ≤ K
  | 0, _ => Nat.zero_le _
  | m + 1, h => by
    unfold mxL
    have := mxL_le ls m (fun i hi => h i (by omega))
    have := h m (by omega)
    omega
theorem mxL_dgM {q : Nat → Nat → Bool} {ls : Nat → List Nat} {n : Nat} : ∀ m, (∀ i, i < m → (ls i).length = dgr q i n) → mxL ls m = dgM q n m
  | 0, _ => rfl
  | m + 1, h => by
    unfold mxL dgM
    rw [mxL_dgM m (fun i hi => h i (by omega)), h m (by omega)]
    split <;> omega
set_option maxRecDepth 4000 in
set_option maxHeartbeats 1000000 in
theorem most_call {w : World} {base g m : Nat} {vs : Nat → Value} {ls : Nat → List Nat} (h : NearL w base g m vs ls) (hm : m ≤ 100) :
    Calls Try.prog 36 #[sl g m] w fun e w' => e = .returned (.int .i64 (mxL ls m : Nat)) ∧ w' = w := by
  have H : Hid (NearL w base g m vs ls) := h
  clear h
  go_enter Try.func36, Try.ntmps36
  go_wp2
  go_loopw [3, 8] (fun s3 i wr => ∃ d : Nat, d ≤ m ∧ s3 = .int .i64 (mxL ls d : Nat) ∧ i = .int .i64 (d : Int) ∧ wr = w) (fun _ i _ => m - (numOf i).toNat)
  case atStart => exact ⟨0, Nat.zero_le _, rfl, rfl, rfl⟩
  case round =>
    obtain ⟨d, hd, rfl, rfl, hwr⟩ := hrel
    have hwr' := hwr.symm
    clear hwr
    subst hwr'
    by_cases hlt : d < m
    · have i1 : (0 : Int) ≤ (d : Int) := by omega
      have i2 : (d : Int) < (m : Int) := by omega
      obtain ⟨ro, rc, hv⟩ := form_row (H.out.own d hlt)
      have c1 := H.out.row.cell hlt
      rw [hv] at c1
      have e1 : max ((mxL ls d : Nat) : Int) ((ls d).length : Int) = ((mxL ls (d + 1) : Nat) : Int) := by
        show _ = ((max (mxL ls d) (ls d).length : Nat) : Int)
        omega
      obtain ⟨M, hM⟩ : ∃ M, M = mxL ls d := ⟨_, rfl⟩
      obtain ⟨M', hM'⟩ : ∃ M', M' = mxL ls (d + 1) := ⟨_, rfl⟩
      obtain ⟨ln, hln⟩ : ∃ ln, ln = (ls d).length := ⟨_, rfl⟩
      rw [← hM, ← hM', ← hln] at e1
      rw [← hln] at c1
      rw [← hM]
      have HM' : Hid (M' = mxL ls (d + 1)) := hM'
      clear hM hM' hln hv
      go_wp2
      go_roundw
      case rel => exact ⟨d + 1, by omega, by rw [← HM'.out], by go_num, trivial⟩
      case measure => simp [numOf]; omega
    · have i2 : ¬ (d : Int) < (m : Int) := by omega
      have hdm : d = m := by omega
      subst hdm
      go_wp2
      go_ret
      exact ⟨rfl, rfl⟩
/-- The edges of which the nodes are told. -/
def InE (fes : List Pair) (j x y : Nat) : Prop := ∃ i, i < j ∧ ∃ p q : Nat, fes[i]? = some ((p : Int), (q : Int)) ∧ Two2 p q x y
/-- The first j edges have a colour, and no others. -/
structure DyS (n k : Nat) (fes : List Pair) (j : Nat) (D : Nat → Nat → Int) : Prop where
  dye : Dye n k D
  has : ∀ x y, x < n → (Dyed k D x y ↔ InE fes j x y)
theorem two2_symm {p q x y : Nat} (h : Two2 p q x y) : Two2 p q y x := h.symm.imp (fun h => ⟨h.2, h.1⟩) (fun h => ⟨h.2, h.1⟩)
theorem DyS.start {n k : Nat} {fes : List Pair} : DyS n k fes 0 (fun _ _ => -1) := by
  refine ⟨⟨fun _ _ _ _ => Or.inl rfl, fun _ _ _ _ _ _ _ h => absurd rfl h⟩, fun x y _ => ⟨?_, ?_⟩⟩
  · rintro ⟨c, _, e⟩
    have e : (-1 : Int) = (y : Int) := e
    omega
  · rintro ⟨i, hi, _⟩; omega
theorem inE_succ {fes : List Pair} {j u v x y : Nat} (h : fes[j]? = some ((u : Int), (v : Int))) : InE fes (j + 1) x y ↔ InE fes j x y ∨ Two2 u v x y := by
  constructor
  · rintro ⟨i, hi, p, q, e, ht⟩
    by_cases ei : i = j
    · subst ei
      rw [h] at e
      simp at e
      obtain ⟨e1, e2⟩ := e
      have e1 : u = p := by omega
      have e2 : v = q := by omega
      subst e1 e2
      exact Or.inr ht
    · exact Or.inl ⟨i, by omega, p, q, e, ht⟩
  · rintro (⟨i, hi, r⟩ | ht)
    · exact ⟨i, by omega, r⟩
    · exact ⟨j, by omega, u, v, h, ht⟩
theorem DyS.next {n k j u v : Nat} {fes : List Pair} {D D' : Nat → Nat → Int} (h : DyS n k fes j D) (he : fes[j]? = some ((u : Int), (v : Int))) (hD : Dye n k D') (hd : ∀ x y, x < n → (Dyed k D' x y ↔ Dyed k D x y ∨ Two2 u v x y)) : DyS n k fes (j + 1) D' :=
  ⟨hD, fun x y hx => by rw [hd x y hx, h.has x y hx, inE_succ he]⟩
/-- All edges rise, and no one comes twice. -/
structure Rsn (n : Nat) (fes : List Pair) : Prop where
  mem : ∀ (k : Nat) (e : Pair), fes[k]? = some e → ∃ x y : Nat, e = ((x : Int), (y : Int)) ∧ x < y ∧ y < n
  nodup : fes.Nodup
theorem Rsn.fresh {n k j u v : Nat} {fes : List Pair} {D : Nat → Nat → Int} (hr : Rsn n fes) (h : DyS n k fes j D) (he : fes[j]? = some ((u : Int), (v : Int))) (hu : u < n) : ¬ Dyed k D u v := by
  rw [h.has u v hu]
  rintro ⟨i, hi, p, q, e, ht⟩
  obtain ⟨x, y, e1, h1, h2⟩ := hr.mem i _ e
  obtain ⟨x', y', e1', h1', h2'⟩ := hr.mem j _ he
  simp at e1 e1'
  have hl := (List.getElem?_eq_some_iff.1 e).1
  have hlj := (List.getElem?_eq_some_iff.1 he).1
  have key : p = u ∧ q = v := by
    rcases ht with ⟨a, b⟩ | ⟨a, b⟩ <;> omega
  obtain ⟨rfl, rfl⟩ := key
  have g1 := (List.getElem?_eq_some_iff.1 e).2
  have g2 := (List.getElem?_eq_some_iff.1 he).2
  exact List.pairwise_iff_getElem.1 hr.nodup i j hl hlj hi (g1.trans g2.symm)
theorem inE_nb {fes : List Pair} {j x y : Nat} (h : InE fes j x y) : y ∈ nbOf fes x := by
  obtain ⟨i, _, p, q, e, ht⟩ := h
  unfold nbOf
  refine List.mem_flatMap.2 ⟨_, List.mem_of_getElem? e, ?_⟩
  unfold nbF
  rcases ht with ⟨rfl, rfl⟩ | ⟨rfl, rfl⟩
  · simp
  · by_cases hc : (y : Int) = (x : Int)
    · rw [if_pos hc]; simp; omega
    · rw [if_neg hc, if_pos rfl]; simp
theorem DyS.free {n k j : Nat} {fes : List Pair} {D : Nat → Nat → Int} (h : DyS n k fes j D) (hk : ∀ x, x < n → (nbOf fes x).length < k) : ∀ x, x < n → ∃ c, c < k ∧ D x c = -1 := fun x hx =>
  dye_free h.dye hx (nb := nbOf fes x) (fun y hy => inE_nb ((h.has x y hx).1 hy)) (hk x hx)
/-- The colours of the edges. -/
def ColsE (k : Nat) (fes : List Pair) (D : Nat → Nat → Int) (L : List Nat) : Prop := ∀ i c : Nat, L[i]? = some c → c < k ∧ ∃ x y : Nat, fes[i]? = some ((x : Int), (y : Int)) ∧ D x c = (y : Int)
/-- No two edges with a node together have the same. -/
def FitE (k : Nat) (fes : List Pair) (L : List Nat) : Prop := (∀ (i c : Nat), L[i]? = some c → c < k) ∧ ∀ (i j : Nat) (c : Nat) (a b a' b' : Int), j < i → L[i]? = some c → L[j]? = some c → fes[i]? = some (a, b) → fes[j]? = some (a', b') → ¬ (a = a' ∨ a = b' ∨ b = a' ∨ b = b')
theorem cols_fit {n k : Nat} {fes : List Pair} {D : Nat → Nat → Int} {L : List Nat} (hr : Rsn n fes) (hD : Dye n k D) (h : ColsE k fes D L) : FitE k fes L := by
  refine ⟨fun i c hi => (h i c hi).1, fun i j c a b a' b' hij hi hj ei ej hs => ?_⟩
  obtain ⟨hc, x, y, e1, d1⟩ := h i c hi
  obtain ⟨_, x', y', e2, d2⟩ := h j c hj
  rw [ei] at e1
  rw [ej] at e2
  simp at e1 e2
  obtain ⟨rfl, rfl⟩ := e1
  obtain ⟨rfl, rfl⟩ := e2
  obtain ⟨p, q, e, h1, h2⟩ := hr.mem i _ ei
  obtain ⟨p', q', e', h1', h2'⟩ := hr.mem j _ ej
  simp at e e'
  have b1 := hD.back (u := x) (by omega) hc d1
  have b2 := hD.back (u := x') (by omega) hc d2
  have key : x = x' ∧ y = y' := by
    rcases hs with hs | hs | hs | hs
    · have : x = x' := by omega
      subst this
      exact ⟨rfl, by omega⟩
    · have : x = y' := by omega
      subst this
      omega
    · have : y = x' := by omega
      subst this
      omega
    · have : y = y' := by omega
      subst this
      exact ⟨by omega, rfl⟩
  obtain ⟨rfl, rfl⟩ := key
  have hl := (List.getElem?_eq_some_iff.1 ei).1
  have hlj := (List.getElem?_eq_some_iff.1 ej).1
  exact List.pairwise_iff_getElem.1 hr.nodup j i hlj hl hij ((List.getElem?_eq_some_iff.1 ej).2.trans (List.getElem?_eq_some_iff.1 ei).2.symm)
end Go.Proofs.Ytdnmoifbkojnlaa
