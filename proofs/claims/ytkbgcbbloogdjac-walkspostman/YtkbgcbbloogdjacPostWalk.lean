/- The postman's walk: round, along all edges, and as long as it must be. -/
import Derived.Test.YtkbgcbbloogdjacEulMath
import Derived.Test.YtkbgcbbloogdjacMates
namespace Go.Proofs.Ytkbgcbbloogdjac
open Go.RowKit Go.Maps

/-- No edge stands in a list twice. -/
def apart : List Pair → Prop
  | [] => True
  | e :: L => hasB L e.1 e.2 = false ∧ apart L
theorem chkFrom_zero {n : Int} : ∀ (es pre : List Pair), (chkFrom n pre es).1 = 0 → apart es ∧ ∀ e ∈ es, hasB pre e.1 e.2 = false
  | [], _, _ => ⟨trivial, fun e h => by cases h⟩
  | (a, b) :: r, pre, h => by
    rw [chkFrom] at h
    by_cases hb : bad n pre (a, b) = 0
    · rw [if_pos hb] at h
      obtain ⟨h1, h2⟩ := chkFrom_zero r _ h
      obtain ⟨_, _, h3⟩ := bad_zero hb
      refine ⟨⟨?_, h1⟩, fun e he => ?_⟩
      · rw [Bool.eq_false_iff]
        intro hh
        unfold hasB at hh
        rw [List.any_eq_true] at hh
        obtain ⟨f, hf, hb2⟩ := hh
        have := h2 f hf
        rw [hasB_snoc, Bool.or_eq_false_iff] at this
        have h4 := this.2
        rw [Bool.eq_false_iff] at h4
        apply h4
        simp at hb2 ⊢
        omega
      · rcases List.mem_cons.1 he with rfl | he
        · exact h3
        · have := h2 e he
          rw [hasB_snoc, Bool.or_eq_false_iff] at this
          exact this.1
    · rw [if_neg hb] at h
      exact absurd h hb

theorem chk_apart {n : Int} {es : List Pair} (h : (chk n es).1 = 0) : apart es := by
  unfold chk at h
  split at h
  · cases h
  · exact (chkFrom_zero es [] h).1


theorem cnt_add (x y : Nat) (l : List Nat) : cntW (x :: y :: l) = addP (cntW (y :: l)) x y 1 := by
  funext a b
  unfold addP
  show (if (x = a ∧ y = b) ∨ (x = b ∧ y = a) then 1 else 0) + cntW (y :: l) a b = _
  by_cases c : (a = x ∧ b = y) ∨ (a = y ∧ b = x)
  · rw [if_pos c, if_pos (by omega)]; omega
  · rw [if_neg c, if_neg (by omega)]; omega
theorem totI_zero (N : Nat) : totI N (fun _ _ => 0) = 0 := by
  have h1 : ∀ a, degI (fun _ _ => 0) a N = 0 := fun a => degI_zero (fun b _ => rfl)
  unfold totI
  rw [sumI_congr (g := fun _ => 0) (fun a _ => h1 a)]
  have h2 : ∀ k, sumI (fun _ => 0) k = 0 := by
    intro k
    induction k with
    | zero => rfl
    | succ k ih => unfold sumI; rw [ih]; rfl
  exact h2 N
/-- How many steps a walk has, counted at both ends. -/
theorem totI_cnt {N : Nat} : ∀ (l : List Nat), (∀ u, u ∈ l → u < N) → (∀ i x y : Nat, l[i]? = some x → l[i + 1]? = some y → x ≠ y) → totI N (cntW l) = 2 * ((l.length : Int) - 1) + (if l = [] then 2 else 0)
  | [], _, _ => by
    have : cntW [] = fun _ _ => 0 := by funext a b; rfl
    rw [this, totI_zero]; rfl
  | [x], _, _ => by
    have : cntW [x] = fun _ _ => 0 := by funext a b; rfl
    rw [this, totI_zero]; simp
  | x :: y :: l, h1, h2 => by
    have ih := totI_cnt (y :: l) (fun u hu => h1 u (by simp [List.mem_cons.1 hu])) (fun i a b ha hb => h2 (i + 1) a b (by simpa using ha) (by simpa using hb))
    rw [cnt_add, totI_add (h2 0 x y rfl rfl) (h1 x (by simp)) (h1 y (by simp)), ih]
    simp
    omega
theorem totI_congr {N : Nat} {P Q : Nat → Nat → Int} (h : ∀ a b, a < N → b < N → P a b = Q a b) : totI N P = totI N Q := sumI_congr fun a ha => degI_congr fun b hb => h a b ha hb
theorem plan0_tot2 {m : Nat} : ∀ (es : List Pair), (∀ e ∈ es, (0 ≤ e.1 ∧ e.1 < (m : Int) ∧ 0 ≤ e.2 ∧ e.2 < (m : Int)) ∧ e.1 ≠ e.2) → apart es → totI m (plan0 m es) = 2 * (es.length : Int)
  | [], _, _ => by
    have : totI m (plan0 m []) = totI m (fun _ _ => 0) := totI_congr fun a b _ _ => by
      rw [plan0_iff (by simp)]
      simp [hasB]
    rw [this, totI_zero]; rfl
  | (x, y) :: es, hg, ha => by
    have hg' : ∀ e ∈ es, (0 ≤ e.1 ∧ e.1 < (m : Int) ∧ 0 ≤ e.2 ∧ e.2 < (m : Int)) ∧ e.1 ≠ e.2 := fun e he => hg e (by simp [he])
    have ih := plan0_tot2 es hg' ha.2
    have h0 := hg (x, y) (by simp)
    simp at h0
    obtain ⟨x', rfl⟩ : ∃ x' : Nat, x = x' := ⟨x.toNat, by omega⟩
    obtain ⟨y', rfl⟩ : ∃ y' : Nat, y = y' := ⟨y.toNat, by omega⟩
    have hno : hasB es x' y' = false := ha.1
    have e1 : totI m (plan0 m (((x' : Int), (y' : Int)) :: es)) = totI m (addP (plan0 m es) x' y' 1) := totI_congr fun a b _ _ => by
      unfold addP
      rw [plan0_iff hg, plan0_iff hg']
      have hh : hasB (((x' : Int), (y' : Int)) :: es) a b = true ↔ ((a = x' ∧ b = y') ∨ (a = y' ∧ b = x')) ∨ hasB es a b = true := by
        have h1 : hasB (((x' : Int), (y' : Int)) :: es) a b = ((((x' : Int) == (a : Int)) && ((y' : Int) == (b : Int)) || ((x' : Int) == (b : Int)) && ((y' : Int) == (a : Int))) || hasB es a b) := rfl
        have h2 : ((((x' : Int) == (a : Int)) && ((y' : Int) == (b : Int)) || ((x' : Int) == (b : Int)) && ((y' : Int) == (a : Int)))) = true ↔ ((a = x' ∧ b = y') ∨ (a = y' ∧ b = x')) := by
          simp
          omega
        rw [h1, Bool.or_eq_true, h2]
      by_cases c : (a = x' ∧ b = y') ∨ (a = y' ∧ b = x')
      · have hn2 : ¬ hasB es a b = true := by
          rcases c with ⟨rfl, rfl⟩ | ⟨rfl, rfl⟩
          · rw [hno]; decide
          · rw [hasB_comm, hno]; decide
        rw [if_pos (hh.2 (Or.inl c)), if_pos c, if_neg hn2]; rfl
      · rw [if_neg c]
        by_cases c2 : hasB es a b = true
        · rw [if_pos (hh.2 (Or.inr c2)), if_pos c2]
        · rw [if_neg (fun h => (hh.1 h).elim c c2), if_neg c2]
    rw [e1, totI_add (by omega) (by omega) (by omega), ih]
    simp
    omega

/-- How often a stands in l. -/
def cntL (a : Nat) : List Nat → Int
  | [] => 0
  | x :: l => ind a x + cntL a l
theorem cntL_erase (a : Nat) : ∀ {t : List Nat} {k v : Nat}, t[k]? = some v → cntL a t = ind a v + cntL a (t.eraseIdx k)
  | [], _, _, h => by simp at h
  | x :: t, 0, v, h => by
    simp at h
    subst h
    rfl
  | x :: t, k + 1, v, h => by
    have ih := cntL_erase a (t := t) (k := k) (v := v) (by simpa using h)
    simp only [List.eraseIdx_cons_succ, cntL]
    omega
theorem cntL_append (a : Nat) : ∀ (l r : List Nat), cntL a (l ++ r) = cntL a l + cntL a r
  | [], r => by simp [cntL]
  | x :: l, r => by
    have := cntL_append a l r
    simp only [List.cons_append, cntL]
    omega
theorem cntL_filter (p : Nat → Bool) (a : Nat) : ∀ m, cntL a ((List.range m).filter p) = if a < m ∧ p a = true then 1 else 0
  | 0 => by simp [cntL]
  | m + 1 => by
    have ih := cntL_filter p a m
    rw [List.range_succ, List.filter_append, cntL_append, ih]
    by_cases h : p m = true
    · have e : List.filter p [m] = [m] := by simp [h]
      rw [e]
      simp only [cntL, ind]
      by_cases c : a = m
      · subst c
        rw [if_neg (by omega), if_pos rfl, if_pos ⟨by omega, h⟩]; rfl
      · rw [if_neg c]
        by_cases c2 : a < m ∧ p a = true
        · rw [if_pos c2, if_pos ⟨by omega, c2.2⟩]; rfl
        · rw [if_neg c2, if_neg (fun hh => c2 ⟨by omega, hh.2⟩)]; rfl
    · have e : List.filter p [m] = [] := by simp [h]
      rw [e]
      by_cases c2 : a < m ∧ p a = true
      · rw [if_pos c2, if_pos ⟨by omega, c2.2⟩]; rfl
      · have c3 : ¬ (a < m + 1 ∧ p a = true) := fun hh => by
          by_cases c : a = m
          · subst c; exact h hh.2
          · exact c2 ⟨by omega, hh.2⟩
        rw [if_neg c2, if_neg c3]; rfl
theorem home_end {N : Nat} {e : Nat → Nat → Bool} {o : Nat → Option Nat} {u v D : Nat} {S : Nat → Nat} (h : HomeTo N e o v D D S) (hd : Dist N e u o) : S D = u := by
  have h1 := h.lt D (Nat.le_refl _)
  rw [Nat.sub_self] at h1
  rcases hd.par (S D) 0 h1.1 h1.2 with ⟨h2, _⟩ | ⟨_, _, _, _, _, h2⟩
  · exact h2
  · omega
/-- The walks between the pairs turn the degrees of just those nodes that are put in pairs. -/
theorem ways_deg {N : Nat} {e : Nat → Nat → Bool} {O : Nat → Nat → Option Nat} (a : Nat) : ∀ {ps : List Pair} {l : List Nat} {P P' : Nat → Nat → Int}, (∀ u, u ∈ l → Dist N e u (O u)) → PairOf ps l → WaysAdd N e O ps P P' → degI P' a N % 2 = (degI P a N + cntL a l) % 2
  | [], l, P, P', _, h, hw => by
    have h1 : l = [] := h
    have h2 : P' = P := hw
    subst h1 h2
    simp [cntL]
  | p :: ps, l, P, P', hd, h, hw => by
    obtain ⟨u, t, k, v, rfl, hk, rfl, h'⟩ := h
    obtain ⟨u2, v2, D, S, e1, hu, hD, hO, hh, hw'⟩ := hw
    have eu : u = u2 := by have := congrArg Prod.fst e1; simp at this; omega
    have ev : v = v2 := by have := congrArg Prod.snd e1; simp at this; omega
    subst eu ev
    have ih := ways_deg (N := N) (e := e) (O := O) a (fun x hx => hd x (by simp [List.mem_of_mem_eraseIdx hx])) h' hw'
    have h1 := addWay_deg hh (P := P) D (Nat.le_refl _) a
    rw [hh.start, home_end hh (hd u (by simp))] at h1
    have h2 := cntL_erase a hk
    simp only [cntL]
    omega
/-- What is known of the postman's walk. -/
theorem post_walk {m : Nat} {es : List Pair} (hc : (chk m es).1 = 0) {K : Nat} (hK : FirstE m es K) (hH : Hang m es K) {O : Nat → Nat → Option Nat} (hd : ∀ v, v ∈ odds m es → Dist m (pn (hasB es)) v (O v)) {ps : List Pair} (hp : PairOf ps (odds m es)) (hl : ps.length ≤ 6) {P1 P2 : Nat → Nat → Int} {A : List Nat} (hw : WaysAdd m (pn (hasB es)) O ps (plan0 m es) P1) (hgo : GoOn m K 0 P1 P2 A) :
    (∀ u, u ∈ A ++ [K] → u < m) ∧ (∃ r, A ++ [K] = K :: r) ∧ (∀ a b, a < m → b < m → P1 a b = cntW (A ++ [K]) a b) ∧ (∀ a b, plan0 m es a b ≤ P1 a b) ∧ (∀ a b, 0 < P1 a b → hasB es a b = true) ∧ (A.length : Int) = es.length + sumD O ps := by
  obtain ⟨hck, hn0, hn1, hle, hgood⟩ := chk_good hc
  have hm : m ≤ 100 := by omega
  have hgc := plan0_good hgood
  obtain ⟨hg1, htt⟩ := waysAdd_good hm hw hgc
  obtain ⟨hup1, hup2⟩ := waysAdd_up hw (fun a b h => by
    rw [plan0_iff hgood] at h
    by_cases c : hasB es a b = true
    · exact ⟨(hasB_range hgood c).1, (hasB_range hgood c).2.1, Or.inl c⟩
    · rw [if_neg c] at h; omega)
  have hpos : ∀ a b, 0 < P1 a b → hasB es a b = true := fun a b h => by
    rcases (hup2 a b h).2.2 with h' | h'
    · exact h'
    · have h2 : hasB es b a = true := h'
      rw [hasB_comm]; exact h2
  obtain ⟨n, hgo⟩ := hgo
  obtain ⟨o, hdo, hh⟩ := hH
  have hpar : ∀ a, a < m → degI P1 a m % 2 = (ind a K + ind a K) % 2 := fun a ha => by
    have h1 := ways_deg a hd hp hw
    have h2 := cntL_filter (fun v => degI (plan0 m es) v m % 2 == 1) a m
    rw [← odds_deg] at h2
    rw [h1, h2]
    by_cases c : degI (plan0 m es) a m % 2 = 1
    · rw [if_pos ⟨ha, by simpa using c⟩]; omega
    · rw [if_neg (fun h => c (by simpa using h.2))]; omega
  have T := toured hgo (Nat.zero_le _) hK.1 (hg1.good (by omega) m) (fun x hx => by omega) hpar
  have hall := T.all hK.1 hdo hK.1 (pn_symm es m) (fun a b _ _ hab => by
      have hab' : hasB es a b = true := hab
      have h1 := hup1 a b
      rw [plan0_iff hgood, if_pos hab'] at h1
      omega) (fun a b ha hb hp' => fun h => nb_iff.2 ⟨b, hb, hpos a b hp'⟩ (hh a ha h)) (fun h => hK.2.1 (hh K hK.1 h))
  have hlt : ∀ u, u ∈ A ++ [K] → u < m := fun u hu => T.mem_lt hK.1 hu
  refine ⟨hlt, T.head, hall, hup1, hpos, ?_⟩
  have h1 := totI_cnt (N := m) (A ++ [K]) hlt (fun i x y hx hy e => by
    have h0 := cntW_step hx hy
    have hx' := hlt x (List.mem_of_getElem? hx)
    have hy' := hlt y (List.mem_of_getElem? hy)
    rw [← hall x y hx' hy', e, hg1.diag] at h0
    omega)
  rw [← totI_congr hall, htt, plan0_tot2 es hgood (chk_apart hc), if_neg (by simp)] at h1
  simp at h1
  omega
end Go.Proofs.Ytkbgcbbloogdjac
