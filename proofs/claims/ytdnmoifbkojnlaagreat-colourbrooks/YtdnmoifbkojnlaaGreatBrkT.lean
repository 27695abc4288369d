/- Brooks: what hangs together, what is full, and rings, by counting. -/
import Derived.Test.YtdnmoifbkojnlaaGreatWhm
import Derived.Test.YtdnmoifbkojnlaaGreatFrk
import Derived.Test.YtdnmoifbkojnlaaGreatNby
namespace Go.Proofs.YtdnmoifbkojnlaaGreat
section
variable {n : Nat} {e : Nat → Nat → Bool} {L : Nat → Bool} {R : Nat → Nat → Bool}
theorem cn_of_star {a b : Nat} (h : Star (St n e L) a b) (ha : a < n ∧ L a = true) : Cn (fun a b => e a b = true) (fun a => a < n ∧ L a = true) a b := by
  refine Star.ind (P := fun b => Cn (fun a b => e a b = true) (fun a => a < n ∧ L a = true) a b) (Cn.refl ha) (fun b c _ h2 ih => Cn.step ih h2.2.1 ⟨h2.1, h2.2.2⟩) h
theorem star_of_cn {a b : Nat} (h : Cn (fun a b => e a b = true) (fun a => a < n ∧ L a = true) a b) : Star (St n e L) a b := by
  induction h with
  | refl _ => exact .refl _
  | step _ h2 h3 ih => exact ih.step ⟨h3.1, h2, h3.2⟩
/-- One piece: all hangs together. -/
theorem hang_of_parts (hs : ∀ a b, e a b = true → e b a = true) (hR : ∀ v x, R v x = true ↔ Star (St n e L) v x) (h : partsN n L R ≤ 1) : Hang (fun a b => e a b = true) (fun a => a < n ∧ L a = true) := by
  have key : ∀ x, x < n ∧ L x = true → ∃ f, f < n ∧ L f = true ∧ firstB L R f = true ∧ R f x = true := fun x hx => by
    obtain ⟨f, hf, ⟨h1, h2⟩, h3⟩ := least_ex (P := fun u => L u = true ∧ R u x = true) ⟨hx.2, (hR x x).2 (.refl _)⟩
    refine ⟨f, by omega, h1, firstB_iff.2 ⟨h1, fun u hu hL => ?_⟩, h2⟩
    cases hc : R u f with
    | false => rfl
    | true => exact absurd ⟨hL, (hR u x).2 (((hR u f).1 hc).trans ((hR f x).1 h2))⟩ (h3 u hu)
  intro x y hx hy
  obtain ⟨f, f1, f2, f3, f4⟩ := key x hx
  obtain ⟨g, g1, g2, g3, g4⟩ := key y hy
  have hfg : f = g := by
    apply Classical.byContradiction
    intro hne
    have := (two_in (l := List.range n) List.nodup_range (p := firstB L R)).2 ⟨f, g, List.mem_range.2 f1, List.mem_range.2 g1, hne, f3, g3⟩
    unfold partsN at h
    omega
  subst hfg
  exact ((cn_of_star ((hR f x).1 f4) ⟨f1, f2⟩).symm hs).trans (cn_of_star ((hR f y).1 g4) ⟨f1, f2⟩)
theorem parts_of_hang (hR : ∀ v x, R v x = true ↔ Star (St n e L) v x) (h : Hang (fun a b => e a b = true) (fun a => a < n ∧ L a = true)) : partsN n L R ≤ 1 := by
  apply Classical.byContradiction
  intro hn
  have hn' : 1 < ((List.range n).filter (firstB L R)).length := by unfold partsN at hn; omega
  obtain ⟨a, b, ha, hb, hne, h1, h2⟩ := (two_in (l := List.range n) List.nodup_range (p := firstB L R)).1 hn'
  rw [List.mem_range] at ha hb
  have k1 := firstB_iff.1 h1
  have k2 := firstB_iff.1 h2
  rcases Nat.lt_or_ge a b with hl | hl
  · have := k2.2 a hl k1.1
    rw [(hR a b).2 (star_of_cn (h a b ⟨ha, k1.1⟩ ⟨hb, k2.1⟩))] at this
    cases this
  · have := k1.2 b (by omega) k2.1
    rw [(hR b a).2 (star_of_cn (h b a ⟨hb, k2.1⟩ ⟨ha, k1.1⟩))] at this
    cases this
end
theorem hang_all {n : Nat} {e : Nat → Nat → Bool} (h : Hang (fun a b => e a b = true) (fun a => a < n ∧ allB a = true)) : Hang (fun a b => e a b = true) (fun a => a < n) := fun x y hx hy =>
  (h x y ⟨hx, rfl⟩ ⟨hy, rfl⟩).mono (fun _ h => h.1)
theorem hang_not {n x : Nat} {e : Nat → Nat → Bool} : Hang (fun a b => e a b = true) (fun a => a < n ∧ notB x a = true) ↔ Hang (fun a b => e a b = true) (fun a => a < n ∧ a ≠ x) := by
  constructor
  · intro h u v hu hv
    exact (h u v ⟨hu.1, by simpa [notB] using hu.2⟩ ⟨hv.1, by simpa [notB] using hv.2⟩).mono (fun a ha => ⟨ha.1, by simpa [notB] using ha.2⟩)
  · intro h u v hu hv
    exact (h u v ⟨hu.1, by simpa [notB] using hu.2⟩ ⟨hv.1, by simpa [notB] using hv.2⟩).mono (fun a ha => ⟨ha.1, by simpa [notB] using ha.2⟩)
section
variable {m : Nat} {es : List Pair}
/-- An edge between two nodes. -/
def eB (es : List Pair) (a b : Nat) : Bool := hasB es a b
theorem eB_sym (es : List Pair) (a b : Nat) : eB es a b = eB es b a := by unfold eB; exact hasB_comm _ _ _
theorem eB_good (hg : Good m es) {a b : Nat} (h : eB es a b = true) : a < m ∧ b < m ∧ a ≠ b := has_good hg h
theorem eB_irr (hg : Good m es) (a : Nat) : eB es a a = false := by
  cases h : eB es a a with
  | false => rfl
  | true => exact absurd rfl (eB_good hg h).2.2
/-- The nodes near one, in order. -/
def nzL (m : Nat) (es : List Pair) (x : Nat) : List Nat := (List.range m).filter fun y => eB es x y
theorem nzL_mem (x y : Nat) : y ∈ nzL m es x ↔ y < m ∧ eB es x y = true := by simp [nzL]
theorem nzL_nd (x : Nat) : (nzL m es x).Nodup := List.nodup_range.filter _
theorem nzL_deg (hg : Good m es) (ha : apart es) {v : Nat} (hv : v < m) : (nzL m es v).length = deg es v := by
  rw [← near_deg m es hg ha v hv, nearTo_length]
  unfold nzL
  congr 1
  exact List.filter_congr fun y _ => eB_sym es v y
theorem nzL_dgr (x : Nat) : (nzL m es x).length = dgr (eB es) x m := rfl
theorem nb_form (hg : Good m es) {x : Nat} (hx : x < m) : nbOf (allP m (hasB es)) x = nzL m es x := by
  rw [nbOf_all (fun u v => hasB_comm _ _ _) (fun u => eB_irr hg u) hx]
  rfl
/-- Nodes see as many as there are edges, twice. -/
theorem hands (hg : Good m es) (ha : apart es) : sumTo (fun v => (nzL m es v).length) m = 2 * es.length := by
  rw [← sum_deg m es hg]
  exact sumTo_congr m (fun v hv => nzL_deg hg ha hv)
theorem sumTo_le {f : Nat → Nat} {k : Nat} : ∀ n, (∀ i, i < n → f i ≤ k) → sumTo f n ≤ k * n
  | 0, _ => by simp [sumTo]
  | n + 1, h => by
    have := sumTo_le n (fun i hi => h i (by omega))
    have := h n (by omega)
    simp only [sumTo, Nat.mul_add, Nat.mul_one]
    omega
theorem sumTo_const (k : Nat) : ∀ n, sumTo (fun _ => k) n = k * n
  | 0 => by simp [sumTo]
  | n + 1 => by simp only [sumTo, sumTo_const k n, Nat.mul_add, Nat.mul_one]
theorem sumTo_eq {f : Nat → Nat} {k : Nat} : ∀ n, (∀ i, i < n → f i ≤ k) → sumTo f n = k * n → ∀ i, i < n → f i = k
  | 0, _, _, i, hi => absurd hi (Nat.not_lt_zero _)
  | n + 1, h, he, i, hi => by
    have h1 := sumTo_le n (fun i hi => h i (Nat.lt_succ_of_lt hi))
    have h2 := h n (by omega)
    simp only [sumTo, Nat.mul_add, Nat.mul_one] at he
    by_cases e : i = n
    · subst e; omega
    · exact sumTo_eq n (fun i hi => h i (Nat.lt_succ_of_lt hi)) (by omega) i (by omega)
/-- Where any two nodes have an edge, there are as many as can be. -/
theorem full_of (hg : Good m es) (ha : apart es) (h : ∀ x y, x < m → y < m → x ≠ y → eB es x y = true) : 2 * es.length = m * (m - 1) := by
  rw [← hands hg ha, Nat.mul_comm m (m - 1), ← sumTo_const (m - 1) m]
  refine sumTo_congr m (fun v hv => ?_)
  have h1 := nodup_lenN (v :: nzL m es v) (List.range m) (by
    rw [List.nodup_cons]
    exact ⟨fun e => (by
      have := ((nzL_mem v v).1 e).2
      rw [eB_irr hg] at this
      cases this), nzL_nd v⟩) (fun x hx => by
    rw [List.mem_range]
    rcases List.mem_cons.1 hx with rfl | hx
    · exact hv
    · exact ((nzL_mem v x).1 hx).1)
  have h2 := nodup_lenN (List.range m) (v :: nzL m es v) List.nodup_range (fun x hx => by
    rw [List.mem_range] at hx
    by_cases e : x = v
    · simp [e]
    · exact List.mem_cons.2 (Or.inr ((nzL_mem v x).2 ⟨hx, h v x hv hx (fun e' => e e'.symm)⟩)))
  simp only [List.length_cons, List.length_range] at h1 h2
  omega
theorem not_full (hg : Good m es) (ha : apart es) (h : 2 * es.length ≠ m * (m - 1)) : ∃ x y, x < m ∧ y < m ∧ x ≠ y ∧ eB es x y = false := by
  apply Classical.byContradiction
  intro hno
  apply h
  refine full_of hg ha (fun x y hx hy hxy => ?_)
  cases hc : eB es x y with
  | true => rfl
  | false => exact absurd ⟨x, y, hx, hy, hxy, hc⟩ hno
/-- What hangs together and is not full has a node with two edges. -/
theorem two_edges (hg : Good m es) (ha : apart es) (hc : Hang (fun a b => eB es a b = true) (fun a => a < m)) (h : 2 * es.length ≠ m * (m - 1)) : 2 ≤ dgM (eB es) m m := by
  obtain ⟨x, y, hx, hy, hxy, hn⟩ := not_full hg ha h
  apply Classical.byContradiction
  intro hlt
  have h1 : ∀ v, v < m → (nzL m es v).length ≤ 1 := fun v hv => by
    have := dgM_ge (eB es) m m v hv
    rw [nzL_dgr]; omega
  have key : ∀ z, Cn (fun a b => eB es a b = true) (fun a => a < m) x z → z = x ∨ eB es x z = true := fun z hz => by
    induction hz with
    | refl _ => exact Or.inl rfl
    | @step b z _ h2 h3 ih =>
      rcases ih with rfl | ih
      · exact Or.inr h2
      · refine Or.inl (Classical.byContradiction fun hne => ?_)
        have hb := (eB_good hg ih).2.1
        have := nodup_lenN [z, x] (nzL m es b) (by simp [hne]) (fun u hu => by
          simp only [List.mem_cons, List.not_mem_nil, or_false] at hu
          rcases hu with rfl | rfl
          · exact (nzL_mem b u).2 ⟨h3, h2⟩
          · exact (nzL_mem b u).2 ⟨hx, by rw [eB_sym]; exact ih⟩)
        have := h1 b hb
        simp at *
        omega
  rcases key y (hc x y hx hy) with h | h
  · exact hxy h.symm
  · rw [hn] at h; cases h
/-- The edges, by the ends of which c holds: each has one. -/
theorem sum_side (m : Nat) (c : Nat → Bool) : ∀ L : List Pair, (∀ e ∈ L, InR m e) → (∀ e ∈ L, c e.1.toNat ≠ c e.2.toNat) → sumTo (fun v => if c v = true then deg L v else 0) m = L.length
  | [], _, _ => by
    have : (fun v => if c v = true then deg [] v else 0) = (fun (_ : Nat) => 0) := by funext v; simp [deg]
    rw [this]
    exact sumTo_zero m
  | (a, b) :: L, h, hc => by
    obtain ⟨⟨h1, h2, h3, h4⟩, h5⟩ := h (a, b) (by simp)
    have hcc := hc (a, b) (by simp)
    obtain ⟨x, rfl⟩ : ∃ x : Nat, a = (x : Int) := ⟨a.toNat, by simp only at *; omega⟩
    obtain ⟨y, rfl⟩ : ∃ y : Nat, b = (y : Int) := ⟨b.toNat, by simp only at *; omega⟩
    simp only [Int.toNat_natCast] at hcc
    have ih := sum_side m c L (fun e he => h e (by simp [he])) (fun e he => hc e (by simp [he]))
    have e1 : sumTo (fun v => if c v = true then deg (((x : Int), (y : Int)) :: L) v else 0) m = sumTo (fun v => (if c v = true then deg L v else 0) + (if (x : Int) = v ∨ (y : Int) = v then (if c v = true then 1 else 0) else 0)) m := by
      refine sumTo_congr m (fun v _ => ?_)
      rw [deg_cons]
      by_cases k : c v = true
      · simp [k]
      · simp [k]
    rw [e1, sumTo_add, ih, sumTo_two (fun v => if c v = true then 1 else 0) m (by simp only at *; omega) (by simp only at *; omega) (by simp only at *; omega)]
    simp only [List.length_cons]
    cases k1 : c x <;> cases k2 : c y
    · rw [k1, k2] at hcc; exact absurd rfl hcc
    · simp
    · simp
    · rw [k1, k2] at hcc; exact absurd rfl hcc
/-- A ring of two sides has an even number of nodes. -/
theorem ring_even (hg : Good m es) (ha : apart es) (hd : dgM (eB es) m m ≤ 2) (hl : es.length = m) {c : Nat → Bool} (hc : ∀ a b, eB es a b = true → c a ≠ c b) : m % 2 = 0 := by
  have hall : ∀ v, v < m → (nzL m es v).length = 2 := sumTo_eq m (fun v hv => by
    have := dgM_ge (eB es) m m v hv
    rw [nzL_dgr]; omega) (by rw [hands hg ha, hl])
  have h1 := sum_side m c es hg (fun e he => by
    have hge := hg e he
    have e1 : ((e.1.toNat : Nat) : Int) = e.1 := by omega
    have e2 : ((e.2.toNat : Nat) : Int) = e.2 := by omega
    refine hc e.1.toNat e.2.toNat ?_
    unfold eB hasB
    rw [e1, e2, List.any_eq_true]
    exact ⟨e, he, by simp⟩)
  have h2 : sumTo (fun v => if c v = true then deg es v else 0) m = sumTo (fun v => 2 * (if c v = true then 1 else 0)) m := sumTo_congr m (fun v hv => by
    rw [← nzL_deg hg ha hv, hall v hv]
    by_cases k : c v = true
    · simp [k]
    · simp [k])
  have h3 : ∀ (f : Nat → Nat) n, sumTo (fun v => 2 * f v) n = 2 * sumTo f n := fun f n => by
    induction n with
    | zero => rfl
    | succ n ih => simp only [sumTo, ih]; omega
  rw [h2, h3 (fun v => if c v = true then 1 else 0) m, hl] at h1
  omega
/-- A ring where no node has more than two edges is all that hangs together with it. -/
theorem ring_all (hg : Good m es) (ha : apart es) (hd : dgM (eB es) m m ≤ 2) (hc : Hang (fun a b => eB es a b = true) (fun a => a < m)) {k : Nat} {rg : Nat → Nat} (hr : RingF m (eB es) k rg) : m = k ∧ es.length = m ∧ dgM (eB es) m m = 2 := by
  have hle : ∀ v, v < m → (nzL m es v).length ≤ 2 := fun v hv => by
    have := dgM_ge (eB es) m m v hv
    rw [nzL_dgr]; omega
  have hlen := hr.len
  have inj : ∀ i j, i < k → j < k → rg i = rg j → i = j := fun i j hi hj h => by
    rcases Nat.lt_trichotomy i j with h1 | h1 | h1
    · exact absurd h.symm (hr.ne j i hj h1)
    · exact h1
    · exact absurd h (hr.ne i j hi h1)
  -- the two beside a node of the ring
  have two : ∀ i, i < k → ∃ p q, p < k ∧ q < k ∧ p ≠ q ∧ eB es (rg i) (rg p) = true ∧ eB es (rg i) (rg q) = true := fun i hi => by
    refine ⟨(i + 1) % k, (i + (k - 1)) % k, Nat.mod_lt _ (by omega), Nat.mod_lt _ (by omega), ?_, hr.edge i hi, ?_⟩
    · by_cases h1 : i + 1 < k
      · rw [Nat.mod_eq_of_lt h1]
        by_cases h0 : i = 0
        · subst h0; rw [Nat.mod_eq_of_lt (by omega)]; omega
        · have : i + (k - 1) = (i - 1) + k := by omega
          rw [this, Nat.add_mod_right, Nat.mod_eq_of_lt (by omega)]; omega
      · have e1 : i + 1 = k := by omega
        rw [e1, Nat.mod_self]
        have : i + (k - 1) = (i - 1) + k := by omega
        rw [this, Nat.add_mod_right, Nat.mod_eq_of_lt (by omega)]; omega
    · have hj : (i + (k - 1)) % k < k := Nat.mod_lt _ (by omega)
      have := hr.edge _ hj
      have e2 : ((i + (k - 1)) % k + 1) % k = i := by
        by_cases h0 : i = 0
        · subst h0
          rw [Nat.mod_eq_of_lt (show 0 + (k - 1) < k by omega)]
          have : 0 + (k - 1) + 1 = k := by omega
          rw [this, Nat.mod_self]
        · have : i + (k - 1) = (i - 1) + k := by omega
          rw [this, Nat.add_mod_right, Nat.mod_eq_of_lt (show i - 1 < k by omega)]
          have : i - 1 + 1 = i := by omega
          rw [this, Nat.mod_eq_of_lt hi]
      rw [e2] at this
      rw [eB_sym]; exact this
  have clos : ∀ i z, i < k → eB es (rg i) z = true → ∃ j, j < k ∧ rg j = z := fun i z hi hz => by
    obtain ⟨p, q, hp, hq, hpq, h1, h2⟩ := two i hi
    apply Classical.byContradiction
    intro hno
    have hzp : z ≠ rg p := fun e => hno ⟨p, hp, e.symm⟩
    have hzq : z ≠ rg q := fun e => hno ⟨q, hq, e.symm⟩
    have hpq' : rg p ≠ rg q := fun e => hpq (inj p q hp hq e)
    have := nodup_lenN [z, rg p, rg q] (nzL m es (rg i)) (by simp [hzp, hzq, hpq']) (fun u hu => by
      simp only [List.mem_cons, List.not_mem_nil, or_false] at hu
      rcases hu with rfl | rfl | rfl
      · exact (nzL_mem _ _).2 ⟨(eB_good hg hz).2.1, hz⟩
      · exact (nzL_mem _ _).2 ⟨hr.lt p hp, h1⟩
      · exact (nzL_mem _ _).2 ⟨hr.lt q hq, h2⟩)
    have := hle (rg i) (hr.lt i hi)
    simp at *
    omega
  have all : ∀ z, z < m → ∃ j, j < k ∧ rg j = z := fun z hz => by
    have h0 := hc (rg 0) z (hr.lt 0 (by omega)) hz
    induction h0 with
    | refl _ => exact ⟨0, by omega, rfl⟩
    | @step b z h1 h2 h3 ih =>
      obtain ⟨j, hj, rfl⟩ := ih h1.right
      exact clos j z hj h2
  have hmk : m = k := by
    have h1 := nodup_lenN (List.range m) ((List.range k).map rg) List.nodup_range (fun z hz => by
      obtain ⟨j, hj, e⟩ := all z (List.mem_range.1 hz)
      exact List.mem_map.2 ⟨j, List.mem_range.2 hj, e⟩)
    have h2 := nodup_lenN ((List.range k).map rg) (List.range m) (by
      unfold List.Nodup
      rw [List.pairwise_map]
      refine List.Pairwise.imp_of_mem (fun {a b} h1 h2 hab => ?_) List.nodup_range
      exact fun e => hab (inj a b (List.mem_range.1 h1) (List.mem_range.1 h2) e)) (fun z hz => by
      obtain ⟨j, hj, rfl⟩ := List.mem_map.1 hz
      exact List.mem_range.2 (hr.lt j (List.mem_range.1 hj)))
    simp at h1 h2
    omega
  have deg2 : ∀ z, z < m → (nzL m es z).length = 2 := fun z hz => by
    obtain ⟨i, hi, rfl⟩ := all z hz
    obtain ⟨p, q, hp, hq, hpq, h1, h2⟩ := two i hi
    have hpq' : rg p ≠ rg q := fun e => hpq (inj p q hp hq e)
    have := nodup_lenN [rg p, rg q] (nzL m es (rg i)) (by simp [hpq']) (fun u hu => by
      simp only [List.mem_cons, List.not_mem_nil, or_false] at hu
      rcases hu with rfl | rfl
      · exact (nzL_mem _ _).2 ⟨hr.lt p hp, h1⟩
      · exact (nzL_mem _ _).2 ⟨hr.lt q hq, h2⟩)
    have := hle (rg i) (hr.lt i hi)
    simp at *
    omega
  refine ⟨hmk, ?_, ?_⟩
  · have := hands hg ha
    rw [sumTo_congr m deg2, sumTo_const] at this
    omega
  · have h1 := dgM_ge (eB es) m m 0 (by omega)
    have h2 := deg2 0 (by omega)
    rw [nzL_dgr] at h2
    omega
end
end Go.Proofs.YtdnmoifbkojnlaaGreat
