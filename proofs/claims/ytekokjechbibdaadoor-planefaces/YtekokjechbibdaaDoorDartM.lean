/- Darts: which follows which, and that each comes back. -/
import Derived.Test.YtekokjechbibdaaDoorFacesW
namespace Go.Proofs.YtekokjechbibdaaDoor
theorem nodup_subD {α : Type} [DecidableEq α] : ∀ (l m : List α), l.Nodup → (∀ e ∈ l, e ∈ m) → l.length ≤ m.length
  | [], _, _, _ => Nat.zero_le _
  | a :: l, m, hn, hs => by
    obtain ⟨h1, h2⟩ := List.nodup_cons.1 hn
    have ha := hs a (by simp)
    have := nodup_subD l (m.erase a) h2 (fun e he => (List.mem_erase_of_ne (fun (h : e = a) => h1 (by rw [← h]; exact he))).2 (hs e (by simp [he])))
    rw [List.length_erase_of_mem ha] at this
    have hpos : 0 < m.length := List.length_pos_of_mem ha
    simp only [List.length_cons]
    omega
/-- Which node stands round b behind a. -/
def nxtL (l : List Nat) (a : Nat) : Nat := l.getD ((l.idxOf a + 1) % l.length) 0
def nxtD (rs : List (List Nat)) (d : E2) : E2 := (d.2, nxtL (rs.getD d.2 []) d.1)
def it (f : E2 → E2) (d : E2) : Nat → E2
  | 0 => d
  | k + 1 => f (it f d k)
theorem it_add (f : E2 → E2) (d : E2) (i : Nat) : ∀ j, it f d (i + j) = it f (it f d i) j
  | 0 => rfl
  | j + 1 => by
    show f (it f d (i + j)) = f (it f (it f d i) j)
    rw [it_add f d i j]
theorem nxtL_mem {l : List Nat} {a : Nat} (h : a ∈ l) : nxtL l a ∈ l := by
  have hpos : 0 < l.length := List.length_pos_of_mem h
  have := Nat.mod_lt (l.idxOf a + 1) hpos
  unfold nxtL
  rw [List.getD_eq_getElem?_getD, List.getElem?_eq_getElem this]
  exact List.getElem_mem this
theorem nodup_get {l : List Nat} (hn : l.Nodup) {i j : Nat} (hi : i < l.length) (hj : j < l.length) (h : l[i] = l[j]) : i = j := by
  rcases Nat.lt_trichotomy i j with h1 | h1 | h1
  · exact absurd h ((List.pairwise_iff_getElem.1 hn) i j hi hj h1)
  · exact h1
  · exact absurd h.symm ((List.pairwise_iff_getElem.1 hn) j i hj hi h1)
theorem nxtL_inj {l : List Nat} (hn : l.Nodup) {a a' : Nat} (h : a ∈ l) (h' : a' ∈ l) (e : nxtL l a = nxtL l a') : a = a' := by
  have hpos : 0 < l.length := List.length_pos_of_mem h
  have i1 := List.idxOf_lt_length_of_mem h
  have i2 := List.idxOf_lt_length_of_mem h'
  have m1 := Nat.mod_lt (l.idxOf a + 1) hpos
  have m2 := Nat.mod_lt (l.idxOf a' + 1) hpos
  unfold nxtL at e
  rw [List.getD_eq_getElem?_getD, List.getD_eq_getElem?_getD, List.getElem?_eq_getElem m1, List.getElem?_eq_getElem m2] at e
  have e2 := nodup_get hn m1 m2 (by simpa using e)
  have e3 : l.idxOf a = l.idxOf a' := by
    rcases Nat.lt_or_ge (l.idxOf a + 1) l.length with k1 | k1
    · rw [Nat.mod_eq_of_lt k1] at e2
      rcases Nat.lt_or_ge (l.idxOf a' + 1) l.length with k2 | k2
      · rw [Nat.mod_eq_of_lt k2] at e2; omega
      · rw [show l.idxOf a' + 1 = l.length by omega, Nat.mod_self] at e2; omega
    · rw [show l.idxOf a + 1 = l.length by omega, Nat.mod_self] at e2
      rcases Nat.lt_or_ge (l.idxOf a' + 1) l.length with k2 | k2
      · rw [Nat.mod_eq_of_lt k2] at e2; omega
      · omega
  have := List.getElem_idxOf i1
  have h2 := List.getElem_idxOf i2
  rw [← this, ← h2]
  congr 1
/-- Darts go from each node to those in its row. -/
def IsD (rs : List (List Nat)) (d : E2) : Prop := d.1 < rs.length ∧ d.2 < rs.length ∧ d.2 ∈ rs.getD d.1 []
structure Rot (rs : List (List Nat)) : Prop where
  nd : ∀ l ∈ rs, l.Nodup
  lt : ∀ l ∈ rs, ∀ x ∈ l, x < rs.length
  sym : ∀ a b, a < rs.length → b < rs.length → b ∈ rs.getD a [] → a ∈ rs.getD b []
section
variable {rs : List (List Nat)}
theorem row_mem {a : Nat} (h : a < rs.length) : rs.getD a [] ∈ rs := by
  rw [List.getD_eq_getElem?_getD, List.getElem?_eq_getElem h]
  exact List.getElem_mem h
theorem Rot.step (hr : Rot rs) {d : E2} (h : IsD rs d) : IsD rs (nxtD rs d) := by
  obtain ⟨h1, h2, h3⟩ := h
  have hb := hr.sym d.1 d.2 h1 h2 h3
  have hm := nxtL_mem hb
  exact ⟨h2, hr.lt _ (row_mem h2) _ hm, hm⟩
theorem Rot.inj (hr : Rot rs) {d d' : E2} (h : IsD rs d) (h' : IsD rs d') (e : nxtD rs d = nxtD rs d') : d = d' := by
  obtain ⟨a, b⟩ := d
  obtain ⟨a', b'⟩ := d'
  have e' : (b, nxtL (rs.getD b []) a) = (b', nxtL (rs.getD b' []) a') := e
  rw [Prod.mk.injEq] at e'
  obtain ⟨e1, e2⟩ := e'
  subst e1
  have := nxtL_inj (hr.nd _ (row_mem h.2.1)) (hr.sym a b h.1 h.2.1 h.2.2) (hr.sym a' b h'.1 h'.2.1 h'.2.2) e2
  rw [this]
theorem Rot.it (hr : Rot rs) {d : E2} (h : IsD rs d) : ∀ k, IsD rs (it (nxtD rs) d k)
  | 0 => h
  | k + 1 => hr.step (Rot.it hr h k)
theorem Rot.back (hr : Rot rs) {d : E2} (h : IsD rs d) : ∀ (i j : Nat), i ≤ j → Go.Proofs.YtekokjechbibdaaDoor.it (nxtD rs) d i = Go.Proofs.YtekokjechbibdaaDoor.it (nxtD rs) d j → Go.Proofs.YtekokjechbibdaaDoor.it (nxtD rs) d 0 = Go.Proofs.YtekokjechbibdaaDoor.it (nxtD rs) d (j - i)
  | 0, j, _, e => by rw [Nat.sub_zero]; exact e
  | i + 1, j, hij, e => by
    obtain ⟨j, rfl⟩ : ∃ k, j = k + 1 := ⟨j - 1, by omega⟩
    have := hr.inj (Rot.it hr h i) (Rot.it hr h j) e
    have h2 := Rot.back hr h i j (by omega) this
    rw [show j + 1 - (i + 1) = j - i by omega]
    exact h2
/-- P steps, and not fewer, lead back. -/
def Per (rs : List (List Nat)) (d : E2) (P : Nat) : Prop := 1 ≤ P ∧ P ≤ 10000 ∧ it (nxtD rs) d P = d ∧ ∀ j, 0 < j → j < P → it (nxtD rs) d j ≠ d
theorem Rot.per (hr : Rot rs) (hl : rs.length ≤ 100) {d : E2} (h : IsD rs d) : ∃ P, Per rs d P := by
  obtain ⟨D, hD⟩ : ∃ D : List E2, D = (List.range rs.length).flatMap fun a => (List.range rs.length).map fun b => (a, b) := ⟨_, rfl⟩
  have hDl : D.length ≤ 10000 := by
    have : ∀ (n : Nat) (g : Nat → List E2), (∀ a, (g a).length = rs.length) → ((List.range n).flatMap g).length = n * rs.length := fun n g hg => by
      induction n with
      | zero => simp
      | succ n ih => rw [List.range_succ, List.flatMap_append, List.length_append, ih]; simp [hg, Nat.succ_mul]
    rw [hD, this _ _ (fun a => by simp)]
    calc rs.length * rs.length ≤ 100 * 100 := Nat.mul_le_mul hl hl
      _ = 10000 := rfl
  have hmem : ∀ k, Go.Proofs.YtekokjechbibdaaDoor.it (nxtD rs) d k ∈ D := fun k => by
    have := Rot.it hr h k
    rw [hD]
    refine List.mem_flatMap.2 ⟨_, List.mem_range.2 this.1, List.mem_map.2 ⟨_, List.mem_range.2 this.2.1, rfl⟩⟩
  have hex : ∃ j, 0 < j ∧ j ≤ 10000 ∧ Go.Proofs.YtekokjechbibdaaDoor.it (nxtD rs) d j = d := by
    refine Classical.byContradiction fun hno => ?_
    have hnd : ((List.range (D.length + 1)).map (Go.Proofs.YtekokjechbibdaaDoor.it (nxtD rs) d)).Nodup := by
      refine List.pairwise_iff_getElem.2 fun i j hi hj hij e => hno ?_
      simp only [List.length_map, List.length_range] at hi hj
      simp only [List.getElem_map, List.getElem_range] at e
      have := Rot.back hr h i j (by omega) e
      exact ⟨j - i, by omega, by omega, this.symm⟩
    have := nodup_subD _ D hnd (fun e he => by
      obtain ⟨k, _, rfl⟩ := List.mem_map.1 he
      exact hmem k)
    simp at this
    omega
  have hw : ∀ n, (∃ j, 0 < j ∧ j ≤ n ∧ Go.Proofs.YtekokjechbibdaaDoor.it (nxtD rs) d j = d) → ∃ P, 0 < P ∧ P ≤ n ∧ Go.Proofs.YtekokjechbibdaaDoor.it (nxtD rs) d P = d ∧ ∀ j, 0 < j → j < P → Go.Proofs.YtekokjechbibdaaDoor.it (nxtD rs) d j ≠ d := by
    intro n
    induction n with
    | zero => rintro ⟨j, h1, h2, _⟩; omega
    | succ n ih =>
      rintro ⟨j, h1, h2, h3⟩
      by_cases hh : ∃ j, 0 < j ∧ j ≤ n ∧ Go.Proofs.YtekokjechbibdaaDoor.it (nxtD rs) d j = d
      · obtain ⟨P, a1, a2, a3, a4⟩ := ih hh
        exact ⟨P, a1, by omega, a3, a4⟩
      · refine ⟨j, h1, h2, h3, fun k hk1 hk2 hk3 => hh ⟨k, hk1, by omega, hk3⟩⟩
  obtain ⟨P, a1, a2, a3, a4⟩ := hw 10000 hex
  exact ⟨P, a1, a2, a3, a4⟩
theorem Per.uniq {d : E2} {P Q : Nat} (h : Per rs d P) (k : Per rs d Q) : P = Q := by
  rcases Nat.lt_trichotomy P Q with h1 | h1 | h1
  · exact absurd h.2.2.1 (k.2.2.2 P (by have := h.1; omega) h1)
  · exact h1
  · exact absurd k.2.2.1 (h.2.2.2 Q (by have := k.1; omega) h1)
/-- The darts of a face, from d on, of which there are k. -/
def orb (rs : List (List Nat)) (d : E2) (k : Nat) : List E2 := (List.range k).map (it (nxtD rs) d)
theorem orb_succ (d : E2) (k : Nat) : orb rs d (k + 1) = orb rs d k ++ [it (nxtD rs) d k] := by unfold orb; rw [List.range_succ, List.map_append]; rfl
theorem orb_len (d : E2) (k : Nat) : (orb rs d k).length = k := by simp [orb]
theorem mem_orb {d e : E2} {k : Nat} : e ∈ orb rs d k ↔ ∃ j, j < k ∧ it (nxtD rs) d j = e := by
  unfold orb
  constructor
  · intro h
    obtain ⟨j, hj, rfl⟩ := List.mem_map.1 h
    exact ⟨j, List.mem_range.1 hj, rfl⟩
  · rintro ⟨j, hj, rfl⟩
    exact List.mem_map.2 ⟨j, List.mem_range.2 hj, rfl⟩
/-- Of the darts that are done each one's forerunner is. -/
def Done (rs : List (List Nat)) (D : List E2) : Prop := ∀ d, IsD rs d → nxtD rs d ∈ D → d ∈ D
theorem Done.it {D : List E2} (hd : Done rs D) (hr : Rot rs) {d : E2} (h : IsD rs d) : ∀ k, it (nxtD rs) d k ∈ D → d ∈ D
  | 0, hk => hk
  | k + 1, hk => Done.it hd hr h k (hd _ (Rot.it hr h k) hk)
theorem Done.more {D : List E2} (hd : Done rs D) (hr : Rot rs) {d : E2} (h : IsD rs d) {P : Nat} (hP : Per rs d P) : Done rs (D ++ orb rs d P) := fun e he hn => by
  rcases List.mem_append.1 hn with h1 | h1
  · exact List.mem_append.2 (Or.inl (hd e he h1))
  · obtain ⟨j, hj, e1⟩ := mem_orb.1 h1
    refine List.mem_append.2 (Or.inr (mem_orb.2 ?_))
    cases j with
    | zero =>
      obtain ⟨P', rfl⟩ : ∃ k, P = k + 1 := ⟨P - 1, by have := hP.1; omega⟩
      refine ⟨P', by omega, ?_⟩
      have : nxtD rs (Go.Proofs.YtekokjechbibdaaDoor.it (nxtD rs) d P') = nxtD rs e := hP.2.2.1.trans e1
      exact hr.inj (Rot.it hr h P') he this
    | succ j =>
      exact ⟨j, by omega, hr.inj (Rot.it hr h j) he e1⟩
theorem fillR_other {v a : Nat} (h : a ≠ v) (l : List Nat) (M : Nat → Nat → Nat) (x : Nat) : ∀ k, fillR v l k M a x = M a x
  | 0 => rfl
  | k + 1 => by
    rw [fillR_succ]
    unfold stepR upd2
    rw [if_neg (fun e => h e.1)]
    exact fillR_other h l M x k
theorem fillR_at {v : Nat} {l : List Nat} (hn : l.Nodup) (M : Nat → Nat → Nat) : ∀ (k i : Nat) (hi : i < l.length), i < k → k ≤ l.length → fillR v l k M v l[i] = l.getD ((i + 1) % l.length) 0
  | 0, i, _, h, _ => by omega
  | k + 1, i, hi, hik, hk => by
    rw [fillR_succ]
    unfold stepR upd2
    have hkg : l.getD k 0 = l[k] := by rw [List.getD_eq_getElem?_getD, List.getElem?_eq_getElem (show k < l.length by omega)]; rfl
    by_cases e : i = k
    · subst e
      rw [if_pos ⟨rfl, hkg.symm⟩]
    · rw [if_neg (fun e2 => e (nodup_get hn hi (by omega) (e2.2.trans hkg)))]
      exact fillR_at hn M k i hi (by omega) (by omega)
theorem turnsR_nxt (hr : Rot rs) {a b : Nat} (hb : b < rs.length) (ha : a ∈ rs.getD b []) : ∀ n, b < n → turnsR rs n b a = nxtL (rs.getD b []) a
  | 0, h => by omega
  | n + 1, h => by
    show fillR n (rs.getD n []) (rs.getD n []).length (turnsR rs n) b a = _
    by_cases e : b = n
    · subst e
      have hi := List.idxOf_lt_length_of_mem ha
      have hg := List.getElem_idxOf hi
      have := fillR_at (v := b) (hr.nd _ (row_mem hb)) (turnsR rs b) (rs.getD b []).length ((rs.getD b []).idxOf a) hi hi (Nat.le_refl _)
      rw [hg] at this
      exact this
    · rw [fillR_other e]
      exact turnsR_nxt hr hb ha n (by omega)
/-- The darts that were seen are those of D. -/
def SeenR (rs : List (List Nat)) (seen : List Nat) (D : List E2) : Prop := seen.length = rs.length ∧ ∀ a b, a < rs.length → b < rs.length → (at' seen a).testBit b = decide ((a, b) ∈ D)
theorem SeenR.add {seen : List Nat} {D : List E2} (h : SeenR rs seen D) {a b : Nat} (ha : a < rs.length) : SeenR rs (seen.set a (sAdd (at' seen a) b)) (D ++ [(a, b)]) := by
  refine ⟨by rw [List.length_set]; exact h.1, fun x y hx hy => ?_⟩
  have hxl : x < seen.length := by rw [h.1]; exact hx
  by_cases e : x = a
  · subst e
    have : at' (seen.set x (sAdd (at' seen x) b)) x = sAdd (at' seen x) b := by
      unfold at'
      rw [List.getD_eq_getElem?_getD, List.getElem?_set, if_pos rfl, if_pos hxl]
      rfl
    rw [this, bit_add, h.2 x y hx hy]
    by_cases e2 : y = b
    · simp [e2]
    · simp [e2]
  · have : at' (seen.set a (sAdd (at' seen a) b)) x = at' seen x := by
      unfold at'
      simp only [List.getD_eq_getElem?_getD]
      rw [List.getElem?_set, if_neg (fun h => e h.symm)]
    rw [this, h.2 x y hx hy]
    simp [e]
theorem dartL_run (hr : Rot rs) {d : E2} (hd : IsD rs d) {P : Nat} (hP : Per rs d P) {D : List E2} (hD : Done rs D) (hn : d ∉ D) : ∀ (r j fuel : Nat) (seen : List Nat), j + r = P → r + 1 ≤ fuel → SeenR rs seen (D ++ orb rs d j) →
    ∃ seen', dartL (turnsR rs rs.length) fuel (it (nxtD rs) d j).1 (it (nxtD rs) d j).2 (seen, (orb rs d j).map Prod.fst) = (seen', (orb rs d P).map Prod.fst) ∧ SeenR rs seen' (D ++ orb rs d P)
  | 0, j, fuel, seen, hj, hf, hs => by
    have e : j = P := by omega
    subst e
    have hb : (at' seen (Go.Proofs.YtekokjechbibdaaDoor.it (nxtD rs) d j).1).testBit (Go.Proofs.YtekokjechbibdaaDoor.it (nxtD rs) d j).2 = true := by
      have hI := Rot.it hr hd j
      rw [hs.2 _ _ hI.1 hI.2.1]
      have : Go.Proofs.YtekokjechbibdaaDoor.it (nxtD rs) d j ∈ D ++ orb rs d j := List.mem_append.2 (Or.inr (mem_orb.2 ⟨0, by have := hP.1; omega, hP.2.2.1.symm⟩))
      simpa using this
    exact ⟨seen, dartL_stop hb, hs⟩
  | r + 1, j, fuel, seen, hj, hf, hs => by
    obtain ⟨fuel, rfl⟩ : ∃ f, fuel = f + 1 := ⟨fuel - 1, by omega⟩
    have hI := Rot.it hr hd j
    have hnot : Go.Proofs.YtekokjechbibdaaDoor.it (nxtD rs) d j ∉ D ++ orb rs d j := fun hm => by
      rcases List.mem_append.1 hm with h1 | h1
      · exact hn (hD.it hr hd j h1)
      · obtain ⟨i, hi, e⟩ := mem_orb.1 h1
        have := Rot.back hr hd i j (by omega) e
        exact hP.2.2.2 (j - i) (by omega) (by omega) this.symm
    have hb : (at' seen (Go.Proofs.YtekokjechbibdaaDoor.it (nxtD rs) d j).1).testBit (Go.Proofs.YtekokjechbibdaaDoor.it (nxtD rs) d j).2 = false := by
      rw [hs.2 _ _ hI.1 hI.2.1]
      have : ¬ ((Go.Proofs.YtekokjechbibdaaDoor.it (nxtD rs) d j).1, (Go.Proofs.YtekokjechbibdaaDoor.it (nxtD rs) d j).2) ∈ D ++ orb rs d j := hnot
      simpa using this
    rw [dartL_go hb]
    have hnx : turnsR rs rs.length (Go.Proofs.YtekokjechbibdaaDoor.it (nxtD rs) d j).2 (Go.Proofs.YtekokjechbibdaaDoor.it (nxtD rs) d j).1 = (Go.Proofs.YtekokjechbibdaaDoor.it (nxtD rs) d (j + 1)).2 :=
      turnsR_nxt hr hI.2.1 (hr.sym _ _ hI.1 hI.2.1 hI.2.2) rs.length hI.2.1
    rw [hnx]
    have hs2 := hs.add (a := (Go.Proofs.YtekokjechbibdaaDoor.it (nxtD rs) d j).1) (b := (Go.Proofs.YtekokjechbibdaaDoor.it (nxtD rs) d j).2) hI.1
    rw [List.append_assoc, show [((Go.Proofs.YtekokjechbibdaaDoor.it (nxtD rs) d j).1, (Go.Proofs.YtekokjechbibdaaDoor.it (nxtD rs) d j).2)] = [Go.Proofs.YtekokjechbibdaaDoor.it (nxtD rs) d j] from rfl, ← orb_succ] at hs2
    obtain ⟨seen', e1, e2⟩ := dartL_run hr hd hP hD hn r (j + 1) fuel _ (by omega) (by omega) hs2
    refine ⟨seen', ?_, e2⟩
    rw [orb_succ, List.map_append] at e1
    exact e1
/-- Face by face, as the document goes through the darts. -/
def RefRun (rs : List (List Nat)) : List E2 → List E2 × List (List Nat) → List E2 × List (List Nat) → Prop
  | [], s, s' => s' = s
  | d :: ds, s, s' => (d ∈ s.1 ∧ RefRun rs ds s s') ∨ (d ∉ s.1 ∧ ∃ P, Per rs d P ∧ RefRun rs ds (s.1 ++ orb rs d P, s.2 ++ [(orb rs d P).map Prod.fst]) s')
theorem RefRun.append : ∀ {ds es : List E2} {s t u : List E2 × List (List Nat)}, RefRun rs ds s t → RefRun rs es t u → RefRun rs (ds ++ es) s u
  | [], es, s, t, u, h, k => by
    have : t = s := h
    subst this
    exact k
  | d :: ds, es, s, t, u, h, k => by
    rcases h with ⟨h1, h2⟩ | ⟨h1, P, h2, h3⟩
    · exact Or.inl ⟨h1, RefRun.append h2 k⟩
    · exact Or.inr ⟨h1, P, h2, RefRun.append h3 k⟩
theorem RefRun.split : ∀ {ds es : List E2} {s u : List E2 × List (List Nat)}, RefRun rs (ds ++ es) s u → ∃ t, RefRun rs ds s t ∧ RefRun rs es t u
  | [], es, s, u, h => ⟨s, rfl, h⟩
  | d :: ds, es, s, u, h => by
    rcases h with ⟨h1, h2⟩ | ⟨h1, P, h2, h3⟩
    · obtain ⟨t, a, b⟩ := RefRun.split h2
      exact ⟨t, Or.inl ⟨h1, a⟩, b⟩
    · obtain ⟨t, a, b⟩ := RefRun.split h3
      exact ⟨t, Or.inr ⟨h1, P, h2, a⟩, b⟩
/-- What trace does at the darts of a node. -/
theorem dartsAt_ref (hr : Rot rs) (v : Nat) : ∀ (l : List Nat) (seen : List Nat) (D : List E2) (out : List (List Nat)) (D' : List E2) (out' : List (List Nat)), (∀ u ∈ l, IsD rs (v, u)) → SeenR rs seen D → Done rs D → RefRun rs (l.map fun u => (v, u)) (D, out) (D', out') →
    ∃ seen', dartsAt (turnsR rs rs.length) v l (seen, out) = (seen', out') ∧ SeenR rs seen' D' ∧ Done rs D'
  | [], seen, D, out, D', out', _, hs, hd, h => by
    have : (D', out') = (D, out) := h
    cases this
    exact ⟨seen, rfl, hs, hd⟩
  | u :: l, seen, D, out, D', out', hI, hs, hd, h => by
    have hI0 := hI u (by simp)
    show ∃ seen', dartsAt (turnsR rs rs.length) v l (dartStep (turnsR rs rs.length) v u (seen, out)) = (seen', out') ∧ _
    rcases h with ⟨h1, h2⟩ | ⟨h1, P, h2, h3⟩
    · have hb : (at' seen v).testBit u = true := by
        rw [hs.2 v u hI0.1 hI0.2.1]
        simpa using h1
      have e : dartStep (turnsR rs rs.length) v u (seen, out) = (seen, out) := by
        unfold dartStep
        simp only []
        rw [dartL_stop (s := (seen, ([] : List Nat))) hb]
        simp
      rw [e]
      exact dartsAt_ref hr v l seen D out D' out' (fun x hx => hI x (by simp [hx])) hs hd h2
    · obtain ⟨seen2, e1, e2⟩ := dartL_run hr hI0 h2 hd h1 P 0 12801 seen (by omega) (by have := h2.2.1; omega) (by simpa [orb] using hs)
      have e : dartStep (turnsR rs rs.length) v u (seen, out) = (seen2, out ++ [(orb rs (v, u) P).map Prod.fst]) := by
        unfold dartStep
        simp only []
        have e1' : dartL (turnsR rs rs.length) 12801 v u (seen, []) = (seen2, (orb rs (v, u) P).map Prod.fst) := e1
        rw [e1']
        have : ¬ (orb rs (v, u) P).map Prod.fst = [] := fun h => by
          have := congrArg List.length h
          rw [List.length_map, orb_len] at this
          have := h2.1
          simp at *
          omega
        simp only [this, if_false]
      rw [e]
      exact dartsAt_ref hr v l seen2 _ _ D' out' (fun x hx => hI x (by simp [hx])) e2 (hd.more hr hI0 h2) h3
/-- All darts, in their order. -/
def dartsTo (near : List Nat) : Nat → List E2
  | 0 => []
  | v + 1 => dartsTo near v ++ (elems (at' near v)).map fun u => (v, u)
theorem traceL_ref (hr : Rot rs) {near : List Nat} (hl : rs.length = near.length) (hm : ∀ v, v < rs.length → ∀ u, u ∈ elems (at' near v) ↔ u ∈ rs.getD v []) : ∀ (n : Nat) (D : List E2) (out : List (List Nat)), n ≤ rs.length → RefRun rs (dartsTo near n) ([], []) (D, out) → ∃ seen, traceL (turnsR rs rs.length) near n = (seen, out) ∧ SeenR rs seen D ∧ Done rs D
  | 0, D, out, _, h => by
    have : (D, out) = ([], []) := h
    cases this
    refine ⟨List.replicate near.length 0, rfl, ⟨by simp [hl], fun a b ha hb => ?_⟩, fun d _ h => by cases h⟩
    have : at' (List.replicate near.length 0) a = 0 := by
      unfold at'
      rw [List.getD_eq_getElem?_getD, List.getElem?_replicate]
      split <;> rfl
    rw [this]
    simp
  | n + 1, D, out, hn, h => by
    obtain ⟨⟨D1, out1⟩, h1, h2⟩ := RefRun.split h
    obtain ⟨seen, e1, e2, e3⟩ := traceL_ref hr hl hm n D1 out1 (by omega) h1
    obtain ⟨seen', a1, a2, a3⟩ := dartsAt_ref hr n (elems (at' near n)) seen D1 out1 D out (fun u hu => by
      have := (hm n (by omega) u).1 hu
      exact ⟨by omega, hr.lt _ (row_mem (by omega)) _ this, this⟩) e2 e3 h2
    refine ⟨seen', ?_, a2, a3⟩
    show dartsAt (turnsR rs rs.length) n (elems (at' near n)) (traceL (turnsR rs rs.length) near n) = _
    rw [e1]
    exact a1
end
end Go.Proofs.YtekokjechbibdaaDoor
