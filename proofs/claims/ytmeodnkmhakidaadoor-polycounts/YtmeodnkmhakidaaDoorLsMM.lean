/- Sets of nodes without an edge: what the search of tryLoose counts. Sets of nodes without an edge, one set behind the other: what the document counts. -/
import Derived.Test.YtmeodnkmhakidaaDoorMatK
namespace Go.Proofs.YtmeodnkmhakidaaDoor
open Go
/-- How many sets of k of the nodes of a list, all of them open, have no edge between them. -/
def lS (adj : Nat → Nat → Bool) : List Nat → (Nat → Bool) → Nat → Nat
  | [], _, k => if k = 0 then 1 else 0
  | x :: l, op, k => lS adj l op k + pr (fun j => if op x = true then lS adj l (fun y => op y && !adj x y) j else 0) k
theorem lS_congr {adj : Nat → Nat → Bool} : ∀ (l : List Nat) {o o' : Nat → Bool} (k : Nat), (∀ x ∈ l, o x = o' x) → lS adj l o k = lS adj l o' k
  | [], _, _, _, _ => rfl
  | x :: l, o, o', k, h => by
    rw [lS, lS, lS_congr l k (fun y hy => h y (by simp [hy])), h x (by simp)]
    congr 1
    refine pr_congr (fun j => ?_) k
    by_cases hx : o' x = true
    · rw [if_pos hx, if_pos hx]
      exact lS_congr l j fun y hy => by rw [h y (by simp [hy])]
    · rw [if_neg hx, if_neg hx]
theorem lS_none {adj : Nat → Nat → Bool} : ∀ (l : List Nat) (o : Nat → Bool) (k : Nat), (∀ x ∈ l, o x = false) → lS adj l o k = if k = 0 then 1 else 0
  | [], _, _, _ => rfl
  | x :: l, o, k, h => by
    rw [lS, lS_none l o k (fun y hy => h y (by simp [hy]))]
    have : ∀ j, (if o x = true then lS adj l (fun y => o y && !adj x y) j else 0) = 0 := fun j => if_neg (by rw [h x (by simp)]; decide)
    rw [pr_congr this, pr_zero]
    rfl
/-- Any open node is left out, or is in. -/
theorem lS_node {adj : Nat → Nat → Bool} (hs : ∀ x y, adj x y = adj y x) : ∀ (l : List Nat) (o : Nat → Bool) (v k : Nat), l.Nodup → v ∈ l → o v = true →
    lS adj l o k = lS adj l (outB o v) k + pr (lS adj l fun y => outB o v y && !adj v y) k
  | [], _, _, _, _, h, _ => by cases h
  | x :: l, o, v, k, hd, hm, ho => by
    obtain ⟨hx, hd'⟩ := List.nodup_cons.1 hd
    by_cases e : x = v
    · subst e
      have e1 : lS adj (x :: l) (outB o x) k = lS adj l o k := by
        rw [lS, lS_congr l k (o' := o) (fun y hy => by
          have : (y == x) = false := by simp; exact fun h => hx (h ▸ hy)
          simp [outB, this])]
        have : ∀ j, (if outB o x x = true then lS adj l (fun y => outB o x y && !adj x y) j else 0) = 0 := fun j => if_neg (by simp [outB])
        rw [pr_congr this, pr_zero]
        rfl
      have e2 : ∀ j, lS adj (x :: l) (fun y => outB o x y && !adj x y) j = lS adj l (fun y => o y && !adj x y) j := fun j => by
        rw [lS, lS_congr l j (o' := fun y => o y && !adj x y) (fun y hy => by
          have : (y == x) = false := by simp; exact fun h => hx (h ▸ hy)
          simp [outB, this])]
        have : ∀ j, (if (outB o x x && !adj x x) = true then lS adj l (fun y => (outB o x y && !adj x y) && !adj x y) j else 0) = 0 := fun j => if_neg (by simp [outB])
        rw [pr_congr this, pr_zero]
        rfl
      rw [e1, pr_congr e2, lS]
      congr 1
      exact pr_congr (fun j => if_pos ho) k
    · have hv : v ∈ l := by
        rcases List.mem_cons.1 hm with h | h
        · exact absurd h.symm e
        · exact h
      have ih := fun o k => lS_node hs l o v k hd' hv
      have exv : (x == v) = false := by simpa using e
      rw [lS, lS, ih o k ho]
      have h2 : ∀ j, lS adj (x :: l) (fun y => outB o v y && !adj v y) j = lS adj l (fun y => outB o v y && !adj v y) j + pr (fun i => if (o x && !adj v x) = true then lS adj l (fun y => (outB o v y && !adj v y) && !adj x y) i else 0) j := fun j => by
        rw [lS]
        congr 1
        refine pr_congr (fun i => ?_) j
        simp [outB, exv]
      rw [pr_congr h2, pr_add]
      have hox : outB o v x = o x := by simp [outB, exv]
      rw [hox]
      by_cases hx' : o x = true
      · have a1 : ∀ j, (if o x = true then lS adj l (fun y => o y && !adj x y) j else 0) = (if o x = true then lS adj l (fun y => outB o v y && !adj x y) j else 0) + pr (fun i => if (o x && !adj v x) = true then lS adj l (fun y => (outB o v y && !adj v y) && !adj x y) i else 0) j := fun j => by
          rw [if_pos hx', if_pos hx']
          by_cases ha : adj x v = true
          · have ha' : adj v x = true := by rw [hs]; exact ha
            have z : ∀ i, (if (o x && !adj v x) = true then lS adj l (fun y => (outB o v y && !adj v y) && !adj x y) i else 0) = 0 := fun i => if_neg (by simp [ha'])
            rw [pr_congr z, pr_zero]
            refine lS_congr l j fun y hy => ?_
            by_cases ey : y = v
            · subst ey; simp [ha]
            · have ey' : (y == v) = false := by simpa using ey
              simp [outB, ey']
          · have ha0 : adj x v = false := by simpa using ha
            have ha' : adj v x = false := by rw [hs]; exact ha0
            rw [ih (fun y => o y && !adj x y) j (by simp [ho, ha0])]
            have q1 : lS adj l (outB (fun y => o y && !adj x y) v) j = lS adj l (fun y => outB o v y && !adj x y) j := lS_congr l j fun y _ => by
              simp only [outB]
              cases o y <;> cases adj x y <;> simp
            have q2 : ∀ i, lS adj l (fun y => outB (fun y => o y && !adj x y) v y && !adj v y) i = (if (o x && !adj v x) = true then lS adj l (fun y => (outB o v y && !adj v y) && !adj x y) i else 0) := fun i => by
              rw [if_pos (by simp [hx', ha'])]
              refine lS_congr l i fun y _ => ?_
              simp only [outB]
              cases o y <;> cases adj x y <;> cases adj v y <;> simp
            rw [q1, pr_congr q2]
        rw [pr_congr a1, pr_add]
        have eta : pr (fun j => lS adj l (fun y => outB o v y && !adj v y) j) k = pr (lS adj l fun y => outB o v y && !adj v y) k := rfl
        omega
      · have z1 : ∀ j, (if o x = true then lS adj l (fun y => o y && !adj x y) j else 0) = 0 := fun j => if_neg hx'
        have z2 : ∀ j, (if o x = true then lS adj l (fun y => outB o v y && !adj x y) j else 0) = 0 := fun j => if_neg hx'
        have z3 : ∀ j, pr (fun i => if (o x && !adj v x) = true then lS adj l (fun y => (outB o v y && !adj v y) && !adj x y) i else 0) j = 0 := fun j => by
          have : ∀ i, (if (o x && !adj v x) = true then lS adj l (fun y => (outB o v y && !adj v y) && !adj x y) i else 0) = 0 := fun i => if_neg (by simp; intro h; exact absurd h hx')
          rw [pr_congr this, pr_zero]
        rw [pr_congr z1, pr_congr z2, pr_congr z3]
        have eta : pr (fun j => lS adj l (fun y => outB o v y && !adj v y) j) k = pr (lS adj l fun y => outB o v y && !adj v y) k := rfl
        simp only [pr_zero]
        omega
/-- The nodes below N, the greatest first. -/
def rng : Nat → List Nat
  | 0 => []
  | n + 1 => n :: rng n
theorem rng_mem : ∀ {n x : Nat}, x ∈ rng n ↔ x < n
  | 0, x => by simp [rng]
  | n + 1, x => by
    rw [rng, List.mem_cons, rng_mem]
    omega
theorem rng_nodup : ∀ n, (rng n).Nodup
  | 0 => List.nodup_nil
  | n + 1 => List.nodup_cons.2 ⟨fun h => by have := rng_mem.1 h; omega, rng_nodup n⟩
/-- How many sets of i - size open nodes: i of them with those that are in already. -/
def lI (es : List (Nat × Nat)) (N op size i : Nat) : Nat := if size ≤ i then lS (adjE es) (rng N) op.testBit (i - size) else 0
/-- What the search tells of the nodes that are open. -/
def LsK (es : List (Nat × Nat)) (N op size c : Nat) (ks : List Nat) : Prop := (∀ i, ks.count i = lI es N op size i) ∧ ks.length ≤ 2 ^ c ∧ ∀ k ∈ ks, k ≤ size + c
/-- What it has told when the nodes of o1 are open still. -/
def LsR (es : List (Nat × Nat)) (N op o1 size c c1 : Nat) (ks : List Nat) : Prop := (∀ i, ks.count i + lI es N o1 size i = lI es N op size i + if i = size then 1 else 0) ∧ ks.length + 2 ^ c1 ≤ 2 ^ c + 1 ∧ ∀ k ∈ ks, k ≤ size + c
theorem lsR_one (es : List (Nat × Nat)) (N op size c : Nat) : LsR es N op op size c c [size] := by
  refine ⟨fun i => ?_, by simp; omega, fun k hk => by simp at hk; omega⟩
  rw [List.count_singleton]
  by_cases h : size = i
  · subst h; simp; omega
  · have h1 : (size == i) = false := by simpa using h
    simp only [h1, Bool.false_eq_true, if_false]
    rw [if_neg (fun h' => h h'.symm)]
    omega
theorem lsR_step {es : List (Nat × Nat)} {N op o1 o2 o3 v size c c1 : Nat} {ks ks2 : List Nat} (h : LsR es N op o1 size c (c1 + 1) ks) (hv : v < N) (h1 : o1.testBit v = true) (h2 : o2.testBit = outB o1.testBit v) (h3 : ∀ y, o3.testBit y = (o2.testBit y && !adjE es v y)) (hk : LsK es N o3 (size + 1) c1 ks2) (hc : c1 + 1 ≤ c) : LsR es N op o2 size c c1 (ks ++ ks2) := by
  refine ⟨fun i => ?_, ?_, fun k hk' => ?_⟩
  · rw [List.count_append, hk.1 i]
    have := h.1 i
    have e : lI es N o1 size i = lI es N o2 size i + lI es N o3 (size + 1) i := by
      unfold lI
      by_cases hi : size ≤ i
      · rw [if_pos hi, if_pos hi, lS_node (adjE_comm es) (rng N) o1.testBit v (i - size) (rng_nodup N) (rng_mem.2 hv) h1, h2]
        congr 1
        have e3 : o3.testBit = fun y => outB o1.testBit v y && !adjE es v y := funext fun y => by rw [h3, h2]
        cases hd : i - size with
        | zero => rw [pr, if_neg (by omega)]
        | succ d => rw [pr, if_pos (by omega), show i - (size + 1) = d by omega, e3]
      · rw [if_neg hi, if_neg hi, if_neg (by omega)]
    omega
  · have a := h.2.1
    have b := hk.2.1
    rw [List.length_append]
    have : 2 ^ (c1 + 1) = 2 ^ c1 + 2 ^ c1 := by rw [Nat.pow_succ]; omega
    omega
  · rcases List.mem_append.1 hk' with h' | h'
    · exact h.2.2 k h'
    · have := hk.2.2 k h'; omega
theorem lsR_end {es : List (Nat × Nat)} {N op size c c1 : Nat} {ks : List Nat} (h : LsR es N op 0 size c c1 ks) : LsK es N op size c ks := by
  refine ⟨fun i => ?_, ?_, h.2.2⟩
  · have := h.1 i
    have e : lI es N 0 size i = if i = size then 1 else 0 := by
      unfold lI
      by_cases hi : size ≤ i
      · rw [if_pos hi, lS_none _ _ _ (fun x _ => Nat.zero_testBit x)]
        by_cases h' : i = size
        · subst h'; simp
        · rw [if_neg (by omega), if_neg h']
      · rw [if_neg hi, if_neg (by omega)]
    omega
  · have := h.2.1
    have := Nat.two_pow_pos c1
    omega
end Go.Proofs.YtmeodnkmhakidaaDoor

namespace Go.Proofs.YtmeodnkmhakidaaDoor
open Go
/-- All nodes of a set are open, and no two of them have an edge. -/
def okS (N : Nat) (adj : Nat → Nat → Bool) (op : Nat → Bool) (s : Nat) : Prop := ∀ v, v < N → s.testBit v = true → op v = true ∧ ∀ x, x < v → s.testBit x = true → adj v x = false
/-- The same, of the nodes below v alone, and of v's edges to the nodes below x. -/
def okD (adj : Nat → Nat → Bool) (s v : Nat) : Bool := (List.range v).all fun a => !s.testBit a || (List.range a).all fun x => !(s.testBit x && adj a x)
theorem okD_iff {adj : Nat → Nat → Bool} {s v : Nat} : okD adj s v = true ↔ okS v adj (fun _ => true) s := by
  unfold okD okS
  rw [List.all_eq_true]
  refine ⟨fun h a ha hs => ⟨rfl, fun x hx hxs => ?_⟩, fun h a ha => ?_⟩
  · have h1 := h a (List.mem_range.2 ha)
    rw [hs, Bool.not_true, Bool.false_or, List.all_eq_true] at h1
    have h2 := h1 x (List.mem_range.2 hx)
    rw [hxs, Bool.true_and] at h2
    simpa using h2
  · by_cases hs : s.testBit a = true
    · rw [hs, Bool.not_true, Bool.false_or, List.all_eq_true]
      intro x hx
      by_cases hxs : s.testBit x = true
      · rw [hxs, Bool.true_and, (h a (List.mem_range.1 ha) hs).2 x (List.mem_range.1 hx) hxs]; rfl
      · have : s.testBit x = false := by simpa using hxs
        rw [this]; rfl
    · have : s.testBit a = false := by simpa using hs
      rw [this]; rfl
theorem ns_split (f : Nat → Nat) (a : Nat) : ∀ b, ns (a + b) f = ns a f + ns b fun i => f (a + i)
  | 0 => rfl
  | b + 1 => by
    rw [← Nat.add_assoc, ns, ns, ns_split f a b]
    omega
theorem ns_ite {c : Prop} [Decidable c] (f : Nat → Nat) (n : Nat) : ns n (fun i => if c then f i else 0) = if c then ns n f else 0 := by
  by_cases h : c
  · simp only [if_pos h]
  · simp only [if_neg h, ns_zero]
theorem crd_low {N s : Nat} (hs : s < 2 ^ N) : crd (N + 1) s.testBit = crd N s.testBit := by
  unfold crd
  rw [ns, if_neg (by rw [Nat.testBit_lt_two_pow hs]; decide)]
  rfl
theorem crd_high {N s : Nat} (hs : s < 2 ^ N) : crd (N + 1) (2 ^ N + s).testBit = crd N s.testBit + 1 := by
  unfold crd
  rw [ns, if_pos (by rw [Nat.testBit_two_pow_add_eq, Nat.testBit_lt_two_pow hs]; rfl)]
  congr 1
  exact ns_congr fun i hi => by rw [Nat.testBit_two_pow_add_gt hi]
theorem okS_low {N s : Nat} {adj : Nat → Nat → Bool} {op : Nat → Bool} (hs : s < 2 ^ N) : okS (N + 1) adj op s ↔ okS N adj op s := by
  refine ⟨fun h v hv => h v (by omega), fun h v hv hb => ?_⟩
  by_cases e : v = N
  · subst e; rw [Nat.testBit_lt_two_pow hs] at hb; cases hb
  · exact h v (by omega) hb
theorem okS_high {N s : Nat} {adj : Nat → Nat → Bool} {op : Nat → Bool} (hs : s < 2 ^ N) : okS (N + 1) adj op (2 ^ N + s) ↔ op N = true ∧ okS N adj (fun y => op y && !adj N y) s := by
  have hN : (2 ^ N + s).testBit N = true := by rw [Nat.testBit_two_pow_add_eq, Nat.testBit_lt_two_pow hs]; rfl
  refine ⟨fun h => ⟨(h N (by omega) hN).1, fun v hv hb => ?_⟩, fun ⟨h0, h⟩ v hv hb => ?_⟩
  · have hb' : (2 ^ N + s).testBit v = true := by rw [Nat.testBit_two_pow_add_gt hv]; exact hb
    have h1 := h v (by omega) hb'
    have h2 := (h N (by omega) hN).2 v hv hb'
    refine ⟨by simp only [h1.1, h2]; rfl, fun x hx hxs => h1.2 x hx ?_⟩
    rw [Nat.testBit_two_pow_add_gt (by omega)]; exact hxs
  · by_cases e : v = N
    · subst e
      refine ⟨h0, fun x hx hxs => ?_⟩
      rw [Nat.testBit_two_pow_add_gt hx] at hxs
      have := (h x hx hxs).1
      simp at this
      exact this.2
    · have hv' : v < N := by omega
      rw [Nat.testBit_two_pow_add_gt hv'] at hb
      have h1 := h v hv' hb
      refine ⟨by have := h1.1; simp at this; exact this.1, fun x hx hxs => h1.2 x hx ?_⟩
      rw [Nat.testBit_two_pow_add_gt (by omega)] at hxs; exact hxs
open Classical in
/-- How many sets of the nodes below N, all of them open, have no edge, and i nodes. -/
theorem okS_count (adj : Nat → Nat → Bool) : ∀ (N : Nat) (op : Nat → Bool) (i : Nat), (ns (2 ^ N) fun s => if okS N adj op s ∧ crd N s.testBit = i then 1 else 0) = lS adj (rng N) op i
  | 0, op, i => by
    show 0 + (if okS 0 adj op 0 ∧ crd 0 (Nat.testBit 0) = i then 1 else 0) = if i = 0 then 1 else 0
    have h1 : okS 0 adj op 0 := fun v hv => by omega
    have h2 : crd 0 (Nat.testBit 0) = 0 := rfl
    rw [h2]
    by_cases h : i = 0
    · subst h; rw [if_pos ⟨h1, rfl⟩, if_pos rfl]
    · rw [if_neg (fun h' => h h'.2.symm), if_neg h]
  | N + 1, op, i => by
    rw [show (2 : Nat) ^ (N + 1) = 2 ^ N + 2 ^ N by rw [Nat.pow_succ]; omega, ns_split, rng, lS, ← okS_count adj N op i]
    congr 1
    · refine ns_congr fun s hs => ?_
      rw [crd_low hs]
      by_cases h : okS N adj op s ∧ crd N s.testBit = i
      · rw [if_pos h, if_pos ⟨(okS_low hs).2 h.1, h.2⟩]
      · rw [if_neg h, if_neg (fun h' => h ⟨(okS_low hs).1 h'.1, h'.2⟩)]
    · have e : ∀ s, s < 2 ^ N → (if okS (N + 1) adj op (2 ^ N + s) ∧ crd (N + 1) (2 ^ N + s).testBit = i then 1 else 0) = pr (fun j => if op N = true then (if okS N adj (fun y => op y && !adj N y) s ∧ crd N s.testBit = j then 1 else 0) else 0) i := fun s hs => by
        rw [crd_high hs]
        cases i with
        | zero => rw [if_neg (fun h => by omega), pr]
        | succ i =>
          rw [pr]
          by_cases h0 : op N = true
          · rw [if_pos h0]
            by_cases h : okS N adj (fun y => op y && !adj N y) s ∧ crd N s.testBit = i
            · rw [if_pos h, if_pos ⟨(okS_high hs).2 ⟨h0, h.1⟩, by rw [h.2]⟩]
            · rw [if_neg h, if_neg (fun h' => h ⟨((okS_high hs).1 h'.1).2, by omega⟩)]
          · rw [if_neg h0, if_neg (fun h' => h0 ((okS_high hs).1 h'.1).1)]
      rw [ns_congr e, ns_pr]
      refine pr_congr (fun j => ?_) i
      rw [ns_ite]
      by_cases h0 : op N = true
      · rw [if_pos h0, if_pos h0, okS_count]
      · rw [if_neg h0, if_neg h0]
/-- The sizes of the sets without an edge, one set behind the other. -/
def lzL (N : Nat) (adj : Nat → Nat → Bool) : Nat → List Nat
  | 0 => []
  | m + 1 => lzL N adj m ++ if okD adj m N = true then [crd N m.testBit] else []
open Classical in
theorem lzL_count {N : Nat} {adj : Nat → Nat → Bool} (i : Nat) : ∀ m, (lzL N adj m).count i = ns m fun s => if okS N adj (fun _ => true) s ∧ crd N s.testBit = i then 1 else 0
  | 0 => rfl
  | m + 1 => by
    rw [lzL, ns, List.count_append, lzL_count i m]
    congr 1
    by_cases h : okD adj m N = true
    · rw [if_pos h, List.count_singleton]
      have h' := okD_iff.1 h
      by_cases h2 : crd N m.testBit = i
      · rw [if_pos (show (crd N m.testBit == i) = true by simpa using h2), if_pos ⟨h', h2⟩]
      · rw [if_neg (show ¬ (crd N m.testBit == i) = true by simpa using h2), if_neg (fun h3 => h2 h3.2)]
    · rw [if_neg h, List.count_nil, if_neg (fun h3 => h (okD_iff.2 h3.1))]
theorem lzL_mem {N : Nat} {adj : Nat → Nat → Bool} : ∀ m, ∀ k ∈ lzL N adj m, k ≤ N
  | 0, k, h => by cases h
  | m + 1, k, h => by
    rw [lzL, List.mem_append] at h
    rcases h with h | h
    · exact lzL_mem m k h
    · split at h
      · have := crd_le N m.testBit
        simp at h
        omega
      · cases h
theorem lzL_len {N : Nat} {adj : Nat → Nat → Bool} : ∀ m, (lzL N adj m).length ≤ m
  | 0 => Nat.le_refl _
  | m + 1 => by
    rw [lzL, List.length_append]
    have := lzL_len (N := N) (adj := adj) m
    split <;> simp <;> omega
theorem lS_adj {adj adj' : Nat → Nat → Bool} {N : Nat} (h : ∀ x y, x < N → y < N → adj x y = adj' x y) : ∀ (l : List Nat) (op : Nat → Bool) (k : Nat), (∀ x ∈ l, x < N) → lS adj l op k = lS adj' l op k
  | [], _, _, _ => rfl
  | x :: l, op, k, hl => by
    have hl' : ∀ y ∈ l, y < N := fun y hy => hl y (by simp [hy])
    rw [lS, lS, lS_adj h l op k hl']
    congr 1
    refine pr_congr (fun j => ?_) k
    rw [lS_adj h l _ j hl', lS_congr l j (o' := fun y => op y && !adj' x y) fun y hy => by rw [h x y (hl x (by simp)) (hl' y hy)]]
/-- The sets without an edge, told by both. -/
theorem lsK_lzL {es : List (Nat × Nat)} {N c : Nat} {ks : List Nat} {adj : Nat → Nat → Bool} (h : LsK es N (2 ^ N - 1) 0 c ks) (ha : ∀ x y, x < N → y < N → adj x y = adjE es x y) : ks.foldl bump [] = (lzL N adj (2 ^ N)).foldl bump [] := by
  refine tally_eq fun i => ?_
  rw [h.1 i, lzL_count, okS_count]
  unfold lI
  rw [if_pos (Nat.zero_le _), Nat.sub_zero, lS_adj (N := N) ha _ _ _ fun x hx => rng_mem.1 hx]
  refine lS_congr _ _ fun x hx => ?_
  rw [Nat.testBit_two_pow_sub_one]
  simpa using rng_mem.1 hx
end Go.Proofs.YtmeodnkmhakidaaDoor
