/- Counting the edges of a list: by nodes, and by two that meet. -/
import Derived.Test.YtbaghbodjpehpabWholeWalk
namespace Go.Proofs.Ytbaghbodjpehpab
/-- How many edges a node has. -/
def deg (L : List Pair) (v : Int) : Nat := (L.filter fun e => e.1 == v || e.2 == v).length
/-- The sum of f over the nodes. -/
def sumTo (f : Nat → Nat) : Nat → Nat
  | 0 => 0
  | n + 1 => sumTo f n + f n
theorem sumTo_add (f g : Nat → Nat) : ∀ n, sumTo (fun i => f i + g i) n = sumTo f n + sumTo g n
  | 0 => rfl
  | n + 1 => by simp only [sumTo]; rw [sumTo_add f g n]; omega
theorem sumTo_congr {f g : Nat → Nat} : ∀ n, (∀ i, i < n → f i = g i) → sumTo f n = sumTo g n
  | 0, _ => rfl
  | n + 1, h => by simp only [sumTo]; rw [sumTo_congr n (fun i hi => h i (by omega)), h n (by omega)]
theorem sumTo_zero : ∀ n, sumTo (fun _ => 0) n = 0
  | 0 => rfl
  | n + 1 => by simp only [sumTo]; rw [sumTo_zero n]
/-- One node alone counts. -/
theorem sumTo_one (f : Nat → Nat) (a : Nat) : ∀ n, sumTo (fun i => if i = a then f i else 0) n = if a < n then f a else 0
  | 0 => rfl
  | n + 1 => by
    simp only [sumTo]
    rw [sumTo_one f a n]
    by_cases h1 : a < n
    · rw [if_pos h1, if_neg (by omega), if_pos (by omega)]; omega
    · rw [if_neg h1]
      by_cases h2 : n = a
      · rw [if_pos h2, if_pos (by omega), h2]; omega
      · rw [if_neg h2, if_neg (by omega)]

theorem deg_cons (a b : Int) (L : List Pair) (v : Int) : deg ((a, b) :: L) v = deg L v + (if a = v ∨ b = v then 1 else 0) := by
  unfold deg
  rw [List.filter_cons]
  by_cases h : a = v ∨ b = v
  · have : (a == v || b == v) = true := by simpa using h
    simp only [this, if_true, h, List.length_cons]
  · have : (a == v || b == v) = false := by
      simp only [not_or] at h
      simp [h.1, h.2]
    simp only [this, h, if_false]
    simp

/-- f over the two nodes of an edge. -/
theorem sumTo_two (f : Nat → Nat) (m : Nat) {a b : Nat} (ha : a < m) (hb : b < m) (hne : a ≠ b) : sumTo (fun i => if (a : Int) = i ∨ (b : Int) = i then f i else 0) m = f a + f b := by
  have e : sumTo (fun i => if (a : Int) = i ∨ (b : Int) = i then f i else 0) m = sumTo (fun i => (if i = a then f i else 0) + (if i = b then f i else 0)) m := by
    apply sumTo_congr
    intro i _
    by_cases h1 : i = a
    · subst h1
      rw [if_pos (Or.inl rfl), if_pos rfl, if_neg hne]; omega
    · by_cases h2 : i = b
      · subst h2
        rw [if_pos (Or.inr rfl), if_neg h1, if_pos rfl]; omega
      · rw [if_neg (by omega), if_neg h1, if_neg h2]
  rw [e, sumTo_add, sumTo_one, sumTo_one, if_pos ha, if_pos hb]

def InR (m : Nat) (e : Pair) : Prop := (0 ≤ e.1 ∧ e.1 < m ∧ 0 ≤ e.2 ∧ e.2 < m) ∧ e.1 ≠ e.2

/-- Nodes see as many as there are edges, twice. -/
theorem sum_deg (m : Nat) : ∀ L : List Pair, (∀ e ∈ L, InR m e) → sumTo (fun v => deg L v) m = 2 * L.length
  | [], _ => by
    have : sumTo (fun v => deg [] v) m = sumTo (fun _ => 0) m := sumTo_congr m (fun i _ => rfl)
    rw [this, sumTo_zero]; rfl
  | (x, y) :: L, h => by
    obtain ⟨⟨h1, h2, h3, h4⟩, h5⟩ := h (x, y) (by simp)
    simp only at h1 h2 h3 h4 h5
    obtain ⟨a, rfl⟩ : ∃ a : Nat, x = a := ⟨x.toNat, by omega⟩
    obtain ⟨b, rfl⟩ : ∃ b : Nat, y = b := ⟨y.toNat, by omega⟩
    rw [sumTo_congr m (fun i _ => deg_cons a b L i), sumTo_add, sum_deg m L (fun e he => h e (by simp [he])), sumTo_two (fun _ => 1) m (by omega) (by omega) (by omega)]
    simp
    omega

def apart : List Pair → Prop
  | [] => True
  | e :: L => hasB L e.1 e.2 = false ∧ apart L

theorem allP_congr {m : Nat} {p q : Int → Int → Bool} (h : ∀ u v : Nat, u < v → v < m → p u v = q u v) : allP m p = allP m q := by
  unfold allP rowsTo
  rw [List.flatMap_def, List.flatMap_def]
  congr 1
  apply List.map_congr_left
  intro u _
  unfold rowTo
  congr 1
  apply List.filter_congr
  intro j hj
  simp at hj
  by_cases hu : u < j
  · rw [h u j hu hj]
  · simp [hu]

theorem hasB_allP {m : Nat} {p : Int → Int → Bool} {u v : Nat} (huv : u < v) (hv : v < m) : hasB (allP m p) u v = p u v := by
  rw [Bool.eq_iff_iff]
  unfold hasB
  rw [List.any_eq_true]
  constructor
  · rintro ⟨e, he, hb⟩
    obtain ⟨a, b, h1, h2, h3, rfl⟩ := allP_mem.1 he
    simp at hb
    have : a = u ∧ b = v := by omega
    rw [← this.1, ← this.2]; exact h3
  · intro hp
    exact ⟨_, allP_mem.2 ⟨u, v, huv, hv, hp, rfl⟩, by simp⟩

theorem allP_inR {m : Nat} {p : Int → Int → Bool} : ∀ e ∈ allP m p, InR m e := by
  intro e he
  obtain ⟨a, b, h1, h2, _, rfl⟩ := allP_mem.1 he
  refine ⟨?_, ?_⟩ <;> simp <;> omega

/-- A list of rising pairs without repeats has no edge twice. -/
theorem apart_of : ∀ L : List Pair, L.Nodup → (∀ e ∈ L, e.1 < e.2) → apart L
  | [], _, _ => trivial
  | e :: L, hn, hr => by
    have hn' := List.nodup_cons.1 hn
    refine ⟨?_, apart_of L hn'.2 (fun f hf => hr f (by simp [hf]))⟩
    have he := hr e (by simp)
    rw [Bool.eq_false_iff]
    intro h
    unfold hasB at h
    rw [List.any_eq_true] at h
    obtain ⟨f, hf, hb⟩ := h
    have hfr := hr f (by simp [hf])
    simp at hb
    have : f = e := by
      apply Prod.ext <;> omega
    exact hn'.1 (this ▸ hf)

theorem allP_apart (m : Nat) (p : Int → Int → Bool) : apart (allP m p) :=
  apart_of _ (allP_nodup m p) (fun e he => by
    obtain ⟨a, b, h1, h2, _, rfl⟩ := allP_mem.1 he
    simp
    omega)

/-- No edge of a list is twice there: so the first look finds nothing. -/
theorem chkFrom_apart {n : Int} : ∀ (es pre : List Pair), (∀ e ∈ es, (0 ≤ e.1 ∧ e.1 < n ∧ 0 ≤ e.2 ∧ e.2 < n) ∧ e.1 ≠ e.2) → (∀ e ∈ es, hasB pre e.1 e.2 = false) → apart es → chkFrom n pre es = (0, 0)
  | [], _, _, _, _ => rfl
  | (a, b) :: r, pre, h1, h2, h3 => by
    rw [chkFrom, if_pos (bad_none (h1 (a, b) (by simp)).1 (h1 (a, b) (by simp)).2 (h2 (a, b) (by simp)))]
    refine chkFrom_apart r _ (fun e he => h1 e (by simp [he])) (fun e he => ?_) h3.2
    rw [hasB_snoc, h2 e (by simp [he]), Bool.false_or, Bool.eq_false_iff]
    intro hb
    have := h3.1
    unfold hasB at this
    rw [Bool.eq_false_iff] at this
    apply this
    rw [List.any_eq_true]
    refine ⟨e, he, ?_⟩
    simp at hb ⊢
    omega

theorem chk_allP {m : Nat} {p : Int → Int → Bool} (hm : m ≤ 100) (hl : (allP m p).length ≤ 1000) : chk m (allP m p) = (0, 0) := by
  unfold chk
  rw [if_neg (by simp [many]; omega)]
  exact chkFrom_apart _ _ allP_inR (fun e _ => rfl) (allP_apart m p)

theorem chkFrom_zero {n : Int} : ∀ (es pre : List Pair), (chkFrom n pre es).1 = 0 → apart es ∧ ∀ e ∈ es, hasB pre e.1 e.2 = false
  | [], _, _ => ⟨trivial, fun e h => by cases h⟩
  | (a, b) :: r, pre, h => by
    rw [chkFrom] at h
    by_cases hb : bad n pre (a, b) = 0
    · rw [if_pos hb] at h
      obtain ⟨h1, h2⟩ := chkFrom_zero r _ h
      obtain ⟨_, _, h3⟩ := bad_zero hb
      refine ⟨⟨?_, h1⟩, fun e he => ?_⟩
      · rw [Bool.eq_false_iff]
        intro hh
        unfold hasB at hh
        rw [List.any_eq_true] at hh
        obtain ⟨f, hf, hb2⟩ := hh
        have := h2 f hf
        rw [hasB_snoc, Bool.or_eq_false_iff] at this
        have h4 := this.2
        rw [Bool.eq_false_iff] at h4
        apply h4
        simp at hb2 ⊢
        omega
      · rcases List.mem_cons.1 he with rfl | he
        · exact h3
        · have := h2 e he
          rw [hasB_snoc, Bool.or_eq_false_iff] at this
          exact this.1
    · rw [if_neg hb] at h
      exact absurd h hb

theorem chk_apart {n : Int} {es : List Pair} (h : (chk n es).1 = 0) : apart es := by
  unfold chk at h
  split at h
  · cases h
  · exact (chkFrom_zero es [] h).1

/-- Counting by a test that one place more fulfils. -/
theorem count_or (f : Nat → Bool) (a : Nat) : ∀ m, a < m → f a = false → ((List.range m).filter fun j => f j || j == a).length = ((List.range m).filter f).length + 1
  | 0, h, _ => absurd h (by omega)
  | m + 1, h, hf => by
    rw [List.range_succ, List.filter_append, List.filter_append, List.length_append, List.length_append]
    by_cases e : a = m
    · subst e
      have : (List.range a).filter (fun j => f j || j == a) = (List.range a).filter f := by
        apply List.filter_congr
        intro j hj
        simp at hj
        have : (j == a) = false := by simp; omega
        rw [this, Bool.or_false]
      rw [this]
      simp [hf]
    · rw [count_or f a m (by omega) hf]
      have : (m == a) = false := by simp; omega
      simp only [List.filter_cons, this, Bool.or_false, List.filter_nil]
      omega

theorem nearTo_length (es : List Pair) (v : Int) (m : Nat) : (nearTo es v m).length = ((List.range m).filter fun (j : Nat) => hasB es j v).length := by
  unfold nearTo
  rw [List.length_map]

/-- A node is near as many as it has edges. -/
theorem near_deg (m : Nat) : ∀ (es : List Pair), (∀ e ∈ es, InR m e) → apart es → ∀ v : Nat, v < m → (nearTo es v m).length = deg es v
  | [], _, _, v, _ => by rw [nearTo_length]; simp [hasB, deg]
  | (x, y) :: L, h, ha, v, hv => by
    obtain ⟨⟨h1, h2, h3, h4⟩, h5⟩ := h (x, y) (by simp)
    simp only at h1 h2 h3 h4 h5
    obtain ⟨a, rfl⟩ : ∃ a : Nat, x = a := ⟨x.toNat, by omega⟩
    obtain ⟨b, rfl⟩ : ∃ b : Nat, y = b := ⟨y.toNat, by omega⟩
    obtain ⟨ha1, ha2⟩ := ha
    have ih := near_deg m L (fun e he => h e (by simp [he])) ha2 v hv
    rw [nearTo_length] at ih ⊢
    rw [deg_cons, ← ih]
    have hc : ∀ j : Nat, hasB (((a : Int), (b : Int)) :: L) j v = (hasB L j v || ((decide ((a : Int) = j ∧ (b : Int) = v)) || (decide ((a : Int) = v ∧ (b : Int) = j)))) := by
      intro j
      rw [Bool.eq_iff_iff]
      simp [hasB]
      constructor
      · rintro (h | h)
        · right; omega
        · left; exact h
      · rintro (h | h)
        · right; exact h
        · left; omega
    by_cases hav : (a : Int) = v
    · have e1 : a = v := by omega
      subst e1
      rw [if_pos (Or.inl rfl)]
      have : ((List.range m).filter fun (j : Nat) => hasB (((a : Int), (b : Int)) :: L) j a) = (List.range m).filter fun (j : Nat) => hasB L j a || j == b := by
        apply List.filter_congr
        intro j _
        rw [hc j]
        congr 1
        rw [Bool.eq_iff_iff]
        simp
        omega
      rw [this, count_or (fun (j : Nat) => hasB L j a) b m (by omega) (by rw [hasB_comm]; exact ha1)]
    · by_cases hbv : (b : Int) = v
      · have e1 : b = v := by omega
        subst e1
        rw [if_pos (Or.inr rfl)]
        have : ((List.range m).filter fun (j : Nat) => hasB (((a : Int), (b : Int)) :: L) j b) = (List.range m).filter fun (j : Nat) => hasB L j b || j == a := by
          apply List.filter_congr
          intro j _
          rw [hc j]
          congr 1
          rw [Bool.eq_iff_iff]
          simp
          omega
        rw [this, count_or (fun (j : Nat) => hasB L j b) a m (by omega) ha1]
      · rw [if_neg (by omega)]
        have : ((List.range m).filter fun (j : Nat) => hasB (((a : Int), (b : Int)) :: L) j v) = (List.range m).filter fun (j : Nat) => hasB L j v := by
          apply List.filter_congr
          intro j _
          rw [hc j]
          have : ((decide ((a : Int) = j ∧ (b : Int) = v)) || (decide ((a : Int) = v ∧ (b : Int) = j))) = false := by
            simp
            omega
          rw [this, Bool.or_false]
        rw [this]
        omega

/-- The form has as many edges as the list. -/
theorem allP_length {m : Nat} {es : List Pair} (hr : ∀ e ∈ es, InR m e) (ha : apart es) : (allP m (hasB es)).length = es.length ∧ ∀ v : Nat, v < m → deg (allP m (hasB es)) v = deg es v := by
  have hd : ∀ v : Nat, v < m → deg (allP m (hasB es)) v = deg es v := by
    intro v hv
    rw [← near_deg m es hr ha v hv, ← near_deg m _ allP_inR (allP_apart m _) v hv, nearTo_length, nearTo_length]
    congr 1
    apply List.filter_congr
    intro j hj
    simp at hj
    by_cases h1 : j < v
    · exact hasB_allP h1 hv
    · by_cases h2 : v < j
      · rw [hasB_comm, hasB_allP h2 hj, hasB_comm]
      · have : j = v := by omega
        subst this
        rw [Bool.eq_iff_iff]
        constructor
        · intro h
          unfold hasB at h
          rw [List.any_eq_true] at h
          obtain ⟨e, he, hb⟩ := h
          have := (allP_inR e he).2
          simp at hb
          omega
        · intro h
          unfold hasB at h
          rw [List.any_eq_true] at h
          obtain ⟨e, he, hb⟩ := h
          have := (hr e he).2
          simp at hb
          omega
  refine ⟨?_, hd⟩
  have s1 := sum_deg m es hr
  have s2 := sum_deg m (allP m (hasB es)) allP_inR
  rw [sumTo_congr m hd, s1] at s2
  omega

end Go.Proofs.Ytbaghbodjpehpab
