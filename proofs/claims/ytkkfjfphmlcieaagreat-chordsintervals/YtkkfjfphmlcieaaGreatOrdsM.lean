/- What the arcs of a direction are as a list of edges: free of faults, the graph's own edges, one each; rising; going on. -/
import Derived.Test.YtkkfjfphmlcieaaGreatOrdersW
import Derived.Test.YtkkfjfphmlcieaaGreatCompTW
namespace Go.Proofs.YtkkfjfphmlcieaaGreat
def apartE : List Pair → Prop
  | [] => True
  | e :: L => hasB L e.1 e.2 = false ∧ apartE L
theorem badNone {n : Int} {pre : List Pair} {e : Pair} (h1 : 0 ≤ e.1 ∧ e.1 < n ∧ 0 ≤ e.2 ∧ e.2 < n) (h2 : e.1 ≠ e.2) (h3 : hasB pre e.1 e.2 = false) : bad n pre e = 0 := by
  unfold bad
  rw [if_pos (by simp [isN]; omega), if_neg h2, h3]; rfl
theorem chkFrom_apart {n : Int} : ∀ (es pre : List Pair), (∀ e ∈ es, (0 ≤ e.1 ∧ e.1 < n ∧ 0 ≤ e.2 ∧ e.2 < n) ∧ e.1 ≠ e.2) → (∀ e ∈ es, hasB pre e.1 e.2 = false) → apartE es → chkFrom n pre es = (0, 0)
  | [], _, _, _, _ => rfl
  | (a, b) :: r, pre, h1, h2, h3 => by
    rw [chkFrom, if_pos (badNone (h1 (a, b) (by simp)).1 (h1 (a, b) (by simp)).2 (h2 (a, b) (by simp)))]
    refine chkFrom_apart r _ (fun e he => h1 e (by simp [he])) (fun e he => ?_) h3.2
    rw [hasB_snoc, h2 e (by simp [he]), Bool.false_or, Bool.eq_false_iff]
    intro hb
    have := h3.1
    unfold hasB at this
    rw [Bool.eq_false_iff] at this
    apply this
    rw [List.any_eq_true]
    refine ⟨e, he, ?_⟩
    simp at hb ⊢
    omega
section
variable {N : Nat} {es : List Pair} {L : List (Nat × Nat)}
theorem hasB_toP (x y : Nat) : hasB (toP L) x y = true ↔ (x, y) ∈ L ∨ (y, x) ∈ L := by
  simp only [hasB, List.any_eq_true, toP]
  constructor
  · rintro ⟨e, he, h⟩
    obtain ⟨p, hp, rfl⟩ := List.mem_map.1 he
    obtain ⟨p1, p2⟩ := p
    simp at h
    rcases h with ⟨h1, h2⟩ | ⟨h1, h2⟩
    · have e1 : p1 = x := by omega
      have e2 : p2 = y := by omega
      subst e1; subst e2; exact Or.inl hp
    · have e1 : p1 = y := by omega
      have e2 : p2 = x := by omega
      subst e1; subst e2; exact Or.inr hp
  · rintro (h | h)
    · exact ⟨_, List.mem_map.2 ⟨_, h, rfl⟩, by simp⟩
    · exact ⟨_, List.mem_map.2 ⟨_, h, rfl⟩, by simp⟩
theorem Dir.both (hd : Dir (bothB es) (fun x y => (x, y) ∈ L)) (x y : Nat) : hasB (toP L) (x : Int) (y : Int) = hasB es (x : Int) (y : Int) := by
  rw [Bool.eq_iff_iff, hasB_toP]
  constructor
  · rintro (h | h)
    · exact hd.edge x y h
    · have := hd.edge y x h
      rw [bothB_sym] at this; exact this
  · exact fun h => hd.some x y h
theorem allP_congr {p q : Int → Int → Bool} (h : ∀ x y : Nat, p x y = q x y) : allP N p = allP N q := by
  unfold allP rowsTo rowTo
  congr 1
  funext u
  congr 1
  apply List.filter_congr
  intro v _
  rw [h]
theorem apart_toP : ∀ (L : List (Nat × Nat)), L.Nodup → (∀ x y, (x, y) ∈ L → (y, x) ∉ L) → apartE (toP L)
  | [], _, _ => trivial
  | (a, b) :: L, hn, ho => by
    have hn' := List.nodup_cons.1 hn
    refine ⟨?_, apart_toP L hn'.2 (fun x y h h' => ho x y (by simp [h]) (by simp [h']))⟩
    cases hh : hasB (toP L) ((a : Nat) : Int) ((b : Nat) : Int) with
    | false => exact hh
    | true =>
      rcases (hasB_toP a b).1 hh with h | h
      · exact absurd h hn'.1
      · exact absurd (List.mem_cons_of_mem _ h) (ho a b (by simp))
theorem Dir.len (hd : Dir (bothB es) (fun x y => (x, y) ∈ L)) (hgd : ∀ e ∈ es, (0 ≤ e.1 ∧ e.1 < (N : Int) ∧ 0 ≤ e.2 ∧ e.2 < (N : Int)) ∧ e.1 ≠ e.2) (hnd : L.Nodup) : (toP L).length = (allP N (hasB es)).length := by
  have hne : ∀ x y, (x, y) ∈ L → x ≠ y := fun x y h e => hd.one x y h (by subst e; exact h)
  refine Nat.le_antisymm ?_ ?_
  · have := nodup_len ((toP L).map fun e => (min e.1 e.2, max e.1 e.2)) (allP N (hasB es)) (by
      unfold toP
      rw [List.map_map]
      refine List.pairwise_map.2 (hnd.imp_of_mem fun {p q} hp hq hne' e => hne' ?_)
      simp at e
      obtain ⟨e1, e2⟩ := e
      have h1 := hne p.1 p.2 hp
      have h2 := hne q.1 q.2 hq
      by_cases e : p.1 = q.1
      · exact Prod.ext e (by omega)
      · exact absurd (show (p.2, p.1) ∈ L by
          have a1 : p.2 = q.1 := by omega
          have a2 : p.1 = q.2 := by omega
          rw [a1, a2]; exact hq) (hd.one p.1 p.2 hp)) (fun e he => by
      obtain ⟨f, hf, rfl⟩ := List.mem_map.1 he
      obtain ⟨p, hp, rfl⟩ := List.mem_map.1 hf
      have h1 := hne p.1 p.2 hp
      have h2 := hd.edge p.1 p.2 hp
      have hlt := bothB_lt hgd h2
      rcases Nat.lt_or_gt_of_ne h1 with h | h
      · exact allP_mem.2 ⟨p.1, p.2, h, hlt.2, h2, by ext <;> simp <;> omega⟩
      · exact allP_mem.2 ⟨p.2, p.1, h, hlt.1, by rw [bothB_sym] at h2; exact h2, by ext <;> simp <;> omega⟩)
    simpa using this
  · have e : allP N (hasB es) = allP N (hasB (toP L)) := allP_congr (fun x y => (hd.both x y).symm)
    rw [e]; exact allP_has_le N _
theorem Dir.chk (hd : Dir (bothB es) (fun x y => (x, y) ∈ L)) (hgd : ∀ e ∈ es, (0 ≤ e.1 ∧ e.1 < (N : Int) ∧ 0 ≤ e.2 ∧ e.2 < (N : Int)) ∧ e.1 ≠ e.2) (hnd : L.Nodup) (hN : N ≤ 100) (hl : es.length ≤ 1000) : chk N (toP L) = (0, 0) := by
  have hlen := hd.len hgd hnd
  have := allP_has_le N es
  unfold YtkkfjfphmlcieaaGreat.chk
  rw [if_neg (by simp [many]; omega)]
  refine chkFrom_apart _ _ (fun e he => ?_) (fun e _ => rfl) (apart_toP L hnd (fun x y h => hd.one x y h))
  obtain ⟨p, hp, rfl⟩ := List.mem_map.1 he
  have h2 := hd.edge p.1 p.2 hp
  have hlt := bothB_lt hgd h2
  have h1 : p.1 ≠ p.2 := fun e => hd.one p.1 p.2 hp (by have : (p.2, p.1) = (p.1, p.2) := by rw [e]
                                                        rw [this]; exact hp)
  simp
  omega
theorem Dir.trans (hd : Dir (bothB es) (fun x y => (x, y) ∈ L)) : TransL (toP L) := by
  intro i j hi hj h
  have e1 : (toP L).getD i (0, 0) ∈ toP L := by rw [List.getD, List.getElem?_eq_getElem hi]; exact List.getElem_mem hi
  have e2 : (toP L).getD j (0, 0) ∈ toP L := by rw [List.getD, List.getElem?_eq_getElem hj]; exact List.getElem_mem hj
  obtain ⟨p, hp, ep⟩ := List.mem_map.1 e1
  obtain ⟨q, hq, eq⟩ := List.mem_map.1 e2
  rw [← ep, ← eq] at h ⊢
  have h' : p.2 = q.1 := by simp at h; omega
  have := hd.on p.1 p.2 q.2 hp (by rw [h']; exact hq)
  exact List.mem_map.2 ⟨_, this, rfl⟩
/-- The arcs rise. -/
theorem rising_toP (hnd : L.Nodup) (hw : (toP L).Pairwise (fun a b => 0 ≤ cmpP b a)) {i : Nat} (h0 : 0 < i) (hi : i < L.length) {x y u v : Int} (h1 : (toP L)[i - 1]? = some (x, y)) (h2 : (toP L)[i]? = some (u, v)) : x < u ∨ (x = u ∧ y < v) := by
  have hl : (toP L).length = L.length := toP_len L
  have hp := List.pairwise_iff_getElem.1 hw (i - 1) i (by omega) (by omega) (by omega)
  rw [List.getElem?_eq_getElem (by omega)] at h1 h2
  injection h1 with h1
  injection h2 with h2
  rw [h1, h2] at hp
  have hc := cmpP_lt (u, v) (x, y)
  have hne : ¬ (u = x ∧ v = y) := fun ⟨e1, e2⟩ => by
    have hnd' : (toP L).Nodup := List.pairwise_map.2 (hnd.imp (fun {p q} hne e => hne (by
      simp at e
      exact Prod.ext (by omega) (by omega))))
    have := List.pairwise_iff_getElem.1 hnd' (i - 1) i (by omega) (by omega) (by omega)
    rw [h1, h2, e1, e2] at this
    exact this rfl
  simp only at hc
  omega
/-- Where edges can be turned so that they go on, no arc forces itself the other way round. -/
theorem Turned.good {D : List Pair} (hT : Turned (allP N (hasB es)) D) (ht : TransL D) (hgd : ∀ e ∈ es, (0 ≤ e.1 ∧ e.1 < (N : Int) ∧ 0 ≤ e.2 ∧ e.2 < (N : Int)) ∧ e.1 ≠ e.2) : Good (bothB es) := by
  have hmem : ∀ p ∈ D, ∃ x y : Nat, bothB es x y = true ∧ p = ((x : Int), (y : Int)) := fun p hp => by
    obtain ⟨k, hk, rfl⟩ := List.getElem_of_mem hp
    have hk' : k < (allP N (hasB es)).length := by rw [← hT.1]; exact hk
    obtain ⟨u, v, h1, h2, h3, e⟩ := allP_mem.1 (List.getElem_mem hk')
    rcases hT.2 k u v (by rw [List.getElem?_eq_getElem hk', e]) with h | h
    · rw [List.getElem?_eq_getElem hk] at h
      injection h with h
      exact ⟨u, v, h3, h⟩
    · rw [List.getElem?_eq_getElem hk] at h
      injection h with h
      exact ⟨v, u, by rw [bothB_sym]; exact h3, h⟩
  have hone : ∀ x y : Nat, ((x : Int), (y : Int)) ∈ D → ((y : Int), (x : Int)) ∉ D := fun x y h h' => by
    have key : ∀ x y : Nat, ((x : Int), (y : Int)) ∈ D → x < y → ((y : Int), (x : Int)) ∉ D := fun x y h hxy h' => by
      obtain ⟨i, hi, ei⟩ := List.getElem_of_mem h
      obtain ⟨j, hj, ej⟩ := List.getElem_of_mem h'
      have hi' : i < (allP N (hasB es)).length := by rw [← hT.1]; exact hi
      have hj' : j < (allP N (hasB es)).length := by rw [← hT.1]; exact hj
      have at' : ∀ k (hk : k < (allP N (hasB es)).length) (hk2 : k < D.length), (D[k] = ((x : Int), (y : Int)) ∨ D[k] = ((y : Int), (x : Int))) → (allP N (hasB es))[k] = ((x : Int), (y : Int)) := fun k hk hk2 hD => by
        obtain ⟨u, v, h1, h2, h3, e⟩ := allP_mem.1 (List.getElem_mem hk)
        rw [e]
        rcases hT.2 k u v (by rw [List.getElem?_eq_getElem hk, e]) with h | h
        · rw [List.getElem?_eq_getElem hk2] at h
          injection h with h
          rw [h] at hD
          simp at hD
          ext <;> simp <;> omega
        · rw [List.getElem?_eq_getElem hk2] at h
          injection h with h
          rw [h] at hD
          simp at hD
          ext <;> simp <;> omega
      have e1 := at' i hi' hi (Or.inl ei)
      have e2 := at' j hj' hj (Or.inr ej)
      have hnd := allP_nodup N (hasB es)
      by_cases hij : i = j
      · subst hij
        rw [ei] at ej
        simp at ej
        omega
      · have := List.pairwise_iff_getElem.1 hnd
        rcases Nat.lt_or_gt_of_ne hij with hlt | hlt
        · exact this i j hi' hj' hlt (by rw [e1, e2])
        · exact this j i hj' hi' hlt (by rw [e1, e2])
    rcases Nat.lt_trichotomy x y with hlt | hlt | hlt
    · exact key x y h hlt h'
    · subst hlt
      obtain ⟨a, b, h1, e⟩ := hmem _ h
      simp at e
      obtain ⟨e1, e2⟩ := e
      have e1 : x = a := by omega
      have e2 : x = b := by omega
      subst e1; subst e2
      rw [bothB_irr hgd] at h1; cases h1
    · exact key y x h' hlt h
  refine Dir.good (T := fun x y => ((x : Int), (y : Int)) ∈ D) (bothB_sym es) ⟨fun x y h => ?_, fun x y h => ?_, hone, fun x y z h1 h2 => ?_⟩
  · obtain ⟨a, b, h1, e⟩ := hmem _ h
    simp at e
    obtain ⟨e1, e2⟩ := e
    have e1 : x = a := by omega
    have e2 : y = b := by omega
    rw [e1, e2]; exact h1
  · have hlt := bothB_lt hgd h
    have key : ∀ x y : Nat, bothB es x y = true → x < y → y < N → ((x : Int), (y : Int)) ∈ D ∨ ((y : Int), (x : Int)) ∈ D := fun x y h hxy hy => by
      obtain ⟨k, hk, e⟩ := List.getElem_of_mem (allP_mem.2 ⟨x, y, hxy, hy, h, rfl⟩ : ((x : Int), (y : Int)) ∈ allP N (hasB es))
      rcases hT.2 k x y (by rw [List.getElem?_eq_getElem hk, e]) with h | h
      · exact Or.inl (List.mem_of_getElem? h)
      · exact Or.inr (List.mem_of_getElem? h)
    rcases Nat.lt_trichotomy x y with h1 | h1 | h1
    · exact key x y h h1 hlt.2
    · subst h1; rw [bothB_irr hgd] at h; cases h
    · exact (key y x (by rw [bothB_sym]; exact h) h1 hlt.1).symm
  · obtain ⟨i, hi, ei⟩ := List.getElem_of_mem h1
    obtain ⟨j, hj, ej⟩ := List.getElem_of_mem h2
    have := ht i j hi hj
    simp only [List.getD, List.getElem?_eq_getElem hi, List.getElem?_eq_getElem hj, ei, ej, Option.getD_some] at this
    exact this trivial
end
end Go.Proofs.YtkkfjfphmlcieaaGreat
