/- Between the program's and the document's faces. PlaneFaces' walk. PlaneFaces' walk. -/
import Derived.Test.YtekokjechbibdaaDoorRefFaces
import Derived.Test.YtekokjechbibdaaDoorBegunM
namespace Go.Proofs.YtekokjechbibdaaDoor
open Go.RowKit Go.Maps
/-- Edges of numbers, as pairs of naturals. -/
def natE (es : List Pair) : List E2 := es.map fun e => (e.1.toNat, e.2.toNat)
theorem natE_pz {n : Nat} {es : List Pair} (h : (chk n es).1 = 0) : es = pz (natE es) := by
  obtain ⟨_, _, _, _, hg⟩ := chk_good h
  unfold pz natE
  rw [List.map_map]
  have : ∀ (l : List Pair), (∀ e ∈ l, 0 ≤ e.1 ∧ 0 ≤ e.2) → l = l.map ((fun e : E2 => ((e.1 : Int), (e.2 : Int))) ∘ fun e => (e.1.toNat, e.2.toNat)) := fun l hl => by
    induction l with
    | nil => rfl
    | cons e l ih =>
      rw [List.map_cons, ← ih (fun x hx => hl x (by simp [hx]))]
      congr 1
      have := hl e (by simp)
      show e = (((e.1.toNat : Nat) : Int), ((e.2.toNat : Nat) : Int))
      rw [Int.toNat_of_nonneg this.1, Int.toNat_of_nonneg this.2]
  exact this es (fun e he => ⟨(hg e he).1.1, (hg e he).1.2.2.1⟩)
theorem at_set {l : List Nat} {a x : Nat} (ha : a < l.length) (y : Nat) : at' (l.set a x) y = if y = a then x else at' l y := by
  unfold at'
  simp only [List.getD_eq_getElem?_getD]
  rw [List.getElem?_set]
  by_cases e : y = a
  · subst e; simp [ha]
  · rw [if_neg (fun h => e h.symm), if_neg e]
theorem near_bit {n : Nat} : ∀ (es : List E2) (near : List Nat), near.length = n → (∀ e ∈ es, e.1 < n ∧ e.2 < n ∧ e.1 ≠ e.2) → ∀ v u, v < n → (at' (es.foldl nearStep near) v).testBit u = ((at' near v).testBit u || es.any fun e => (e.1 == v && e.2 == u) || (e.1 == u && e.2 == v))
  | [], near, _, _, v, u, _ => by simp
  | e :: es, near, hl, h, v, u, hv => by
    obtain ⟨h1, h2, h3⟩ := h e (by simp)
    rw [List.foldl_cons, near_bit es (nearStep near e) (by rw [nearStep_len]; exact hl) (fun x hx => h x (by simp [hx])) v u hv]
    have hs : (at' (nearStep near e) v).testBit u = ((at' near v).testBit u || ((e.1 == v && e.2 == u) || (e.1 == u && e.2 == v))) := by
      unfold nearStep
      simp only []
      rw [at_set (by rw [List.length_set]; omega)]
      by_cases k2 : v = e.2
      · rw [if_pos k2, at_set (by omega), if_neg (fun h => h3 h.symm), bit_add, k2]
        have : (e.1 == e.2) = false := by simpa using h3
        rw [this]
        by_cases k : u = e.1
        · subst k; simp
        · have : (e.1 == u) = false := by simpa using fun h => k h.symm
          simp [k, this]
      · rw [if_neg k2, at_set (by omega)]
        by_cases k1 : v = e.1
        · rw [if_pos k1, bit_add, k1]
          have hx : (e.2 == e.1) = false := by simpa using fun h => h3 h.symm
          by_cases k : u = e.2
          · subst k; simp
          · have : (e.2 == u) = false := by simpa using fun h => k h.symm
            simp [k, this, hx]
        · rw [if_neg k1]
          have a1 : (e.1 == v) = false := by simpa using fun h => k1 h.symm
          have a2 : (e.2 == v) = false := by simpa using fun h => k2 h.symm
          simp [a1, a2]
    rw [hs, List.any_cons, Bool.or_assoc]
theorem nearBy_has {n : Nat} {es : List Pair} (h : (chk n es).1 = 0) {v u : Nat} (hv : v < n) : (at' (nearBy n (natE es)) v).testBit u = hasB es (v : Int) (u : Int) := by
  obtain ⟨_, _, _, _, hg⟩ := chk_good h
  have hE : ∀ e ∈ natE es, e.1 < n ∧ e.2 < n ∧ e.1 ≠ e.2 := fun e he => by
    obtain ⟨x, hx, rfl⟩ := List.mem_map.1 he
    obtain ⟨⟨a1, a2, a3, a4⟩, a5⟩ := hg x hx
    exact ⟨by simp only; omega, by simp only; omega, by simp only; omega⟩
  rw [nearBy_eq, near_bit (natE es) _ (by simp) hE v u hv]
  have h0 : at' (List.replicate n 0) v = 0 := by
    unfold at'
    rw [List.getD_eq_getElem?_getD, List.getElem?_replicate]
    split <;> rfl
  rw [h0]
  unfold hasB natE
  rw [List.any_map]
  simp only [Nat.zero_testBit, Bool.false_or]
  have : ∀ (l : List Pair), (∀ e ∈ l, 0 ≤ e.1 ∧ 0 ≤ e.2) → (l.any ((fun e : E2 => (e.1 == v && e.2 == u) || (e.1 == u && e.2 == v)) ∘ fun e => (e.1.toNat, e.2.toNat))) = l.any fun e => (e.1 == (v : Int) && e.2 == (u : Int)) || (e.1 == (u : Int) && e.2 == (v : Int)) := fun l hl => by
    induction l with
    | nil => rfl
    | cons e l ih =>
      rw [List.any_cons, List.any_cons, ih (fun x hx => hl x (by simp [hx]))]
      have hh := hl e (by simp)
      have b1 : ∀ (z : Int) (m : Nat), 0 ≤ z → (z.toNat == m) = (z == (m : Int)) := fun z m hz => by
        rw [Bool.eq_iff_iff, beq_iff_eq, beq_iff_eq]
        omega
      simp only [Function.comp]
      rw [b1 _ _ hh.1, b1 _ _ hh.2, b1 _ _ hh.1, b1 _ _ hh.2]
  exact this es (fun e he => ⟨(hg e he).1.1, (hg e he).1.2.2.1⟩)
theorem hasB_sym (es : List Pair) (u v : Int) : hasB es u v = hasB es v u := by
  unfold hasB
  congr 1
  funext e
  rw [Bool.or_comm]
theorem rows_rot {n : Nat} {es : List Pair} (h : (chk n es).1 = 0) {rs : List (List Nat)} (hok : RowsOk (nearBy n (natE es)) rs) : Rot rs ∧ rs.length = n ∧ ∀ a b : Nat, a < n → (hasB es (a : Int) (b : Int) = true ↔ b ∈ rs.getD a []) := by
  have hl : rs.length = n := by rw [hok.1, nearBy_len]
  have hm : ∀ a b : Nat, a < n → (hasB es (a : Int) (b : Int) = true ↔ b ∈ rs.getD a []) := fun a b ha => by
    have hra : rs[a]? = some (rs.getD a []) := by rw [List.getD_eq_getElem?_getD, List.getElem?_eq_getElem (by omega)]; rfl
    have := (hok.2 a _ hra).2 b
    rw [nearBy_has h ha] at this
    rw [this]
    simp
  refine ⟨⟨fun l hl' => ?_, fun l hl' x hx => ?_, fun a b ha hb hab => ?_⟩, hl, hm⟩
  · obtain ⟨i, hi⟩ := List.getElem?_of_mem hl'
    exact (hok.2 i l hi).1
  · obtain ⟨i, hi⟩ := List.getElem?_of_mem hl'
    have hin : i < n := by rw [← hl]; exact (List.getElem?_eq_some_iff.1 hi).1
    have hb : (at' (nearBy n (natE es)) i).testBit x = true := by rw [(hok.2 i l hi).2 x]; simpa using hx
    rw [hl]
    have hE : ∀ e ∈ natE es, e.1 < n ∧ e.2 < n := fun e he => by
      obtain ⟨_, _, _, _, hg⟩ := chk_good h
      obtain ⟨y, hy, rfl⟩ := List.mem_map.1 he
      obtain ⟨⟨a1, a2, a3, a4⟩, a5⟩ := hg y hy
      exact ⟨by simp only; omega, by simp only; omega⟩
    exact nearBy_bits hE _ (List.mem_of_getElem? (at_some (by rw [nearBy_len]; exact hin))) x hb
  · rw [hl] at ha hb
    rw [← hm b a hb, hasB_sym]
    exact (hm a b ha).2 hab
theorem elems_range {s n : Nat} (hn : n ≤ 128) (hs : ∀ z, s.testBit z = true → z < n) : elems s = (List.range n).filter s.testBit := by
  unfold elems
  have : List.range 128 = List.range n ++ (List.range (128 - n)).map (n + ·) := by
    rw [← List.range_add]
    congr 1
    omega
  rw [this, List.filter_append]
  have : ((List.range (128 - n)).map (n + ·)).filter s.testBit = [] := by
    rw [List.filter_eq_nil_iff]
    intro x hx h
    obtain ⟨k, _, rfl⟩ := List.mem_map.1 hx
    have := hs _ h
    omega
  rw [this, List.append_nil]
theorem darts_eq {n : Nat} (hn : n ≤ 100) {near : List Nat} {q : Nat → Nat → Bool} (hs : ∀ v, v < n → ∀ z, (at' near v).testBit z = true → z < n) (hq : ∀ v z, v < n → (at' near v).testBit z = q v z) : ∀ k, k ≤ n → dartsQ q n k = dartsTo near k
  | 0, _ => rfl
  | k + 1, hk => by
    show dartsQ q n k ++ ((List.range n).filter (q k)).map (fun b => (k, b)) = dartsTo near k ++ (elems (at' near k)).map fun u => (k, u)
    rw [darts_eq hn hs hq k (by omega), elems_range (by omega) (hs k (by omega))]
    congr 2
    exact List.filter_congr fun z _ => (hq k z (by omega)).symm
theorem facesAt_rows {w : World} {lo hi q : Nat} {v : Value} {ls : List (List Nat)} {vs : List Value} (h : FacesAt w lo hi q v ls vs) (hl : ls.length ≤ 1000000) (hI : ∀ l ∈ ls, l.length ≤ 1000000 ∧ ∀ x ∈ l, x < 1000000) : RowsAt w v (castR ls) := by
  rcases h.row.2 with ⟨e, e0⟩ | ⟨g, cap, cur, e, _, _, hc, _⟩
  · subst e
    exact ⟨none, 0, by rw [castR_len, e0], by rw [castR_len]; omega, by rw [castR_len]; omega, fun i hi => by rw [castR_len] at hi; omega⟩
  · subst e
    refine ⟨_, cap, by rw [castR_len], by rw [castR_len]; exact hc, by rw [castR_len]; omega, fun i hi => ?_⟩
    rw [castR_len] at hi
    obtain ⟨x, hx⟩ : ∃ x, vs[i]? = some x := ⟨vs[i]'(by rw [h.hl]; exact hi), List.getElem?_eq_getElem _⟩
    have hmem := hI ls[i] (List.getElem_mem hi)
    have hel := h.el i x ls[i] hx (List.getElem?_eq_getElem hi)
    refine ⟨g, 0, x, rfl, ?_, ?_⟩
    · have := h.row.cells (g := g) rfl i _ hx
      rw [add_none] at this
      simpa using this
    · have e : (castR ls)[i]'(by rw [castR_len]; exact hi) = castL ls[i] := by simp [castR]
      rw [e]
      refine intsAt_row (base := lo) ?_ (fun z hz => ?_) (by rw [castL_len]; omega)
      · rw [castL_len]
        have e2 : (castL ls[i]).map (Value.int .i64) = qv ls[i] := by simp [castL, qv]
        rw [e2]
        exact hel
      · obtain ⟨y, hy, rfl⟩ := List.mem_map.1 hz
        exact natI64 (hmem.2 y hy)
theorem refRun_rows {rs : List (List Nat)} (hr : Rot rs) (hl : rs.length ≤ 100) : ∀ {ds : List E2} {s s' : List E2 × List (List Nat)}, (∀ d ∈ ds, IsD rs d) → (∀ l ∈ s.2, l.length ≤ 1000000 ∧ ∀ x ∈ l, x < 1000000) → RefRun rs ds s s' → ∀ l ∈ s'.2, l.length ≤ 1000000 ∧ ∀ x ∈ l, x < 1000000
  | [], s, s', _, hs, h => by
    have : s' = s := h
    subst this
    exact hs
  | d :: ds, s, s', hd, hs, h => by
    rcases h with ⟨_, h2⟩ | ⟨_, P, h2, h3⟩
    · exact refRun_rows hr hl (fun x hx => hd x (by simp [hx])) hs h2
    · refine refRun_rows hr hl (fun x hx => hd x (by simp [hx])) (fun l hm => ?_) h3
      rcases List.mem_append.1 hm with h4 | h4
      · exact hs l h4
      · rw [List.mem_singleton] at h4
        subst h4
        refine ⟨by rw [List.length_map, orb_len]; have := h2.2.1; omega, fun x hx => ?_⟩
        obtain ⟨e, he, rfl⟩ := List.mem_map.1 hx
        obtain ⟨k, _, rfl⟩ := mem_orb.1 he
        have := (hr.it (hd d (by simp)) k).1
        omega
end Go.Proofs.YtekokjechbibdaaDoor

namespace Go.Proofs.YtekokjechbibdaaDoor
set_option maxRecDepth 8000
open Go.RowKit Go.Maps
attribute [local go_sem ↓] Go.wp_at_zero Go.wp_at_succ
/-- What the law reckons as the fault of the order, where graph.Check tells none. -/
def lawF (near : List Nat) (N : Nat) (ls : List (List Int)) : Int × Int := if ls.length = N then (if 0 ≤ rrI near 0 ls then (7, rrI near 0 ls) else (0, 0)) else (6, 0)
theorem lawF_eq {near : List Nat} {N : Nat} (hl : near.length = N) (ls : List (List Int)) : lawF near N ls = roundS near ls := by
  unfold lawF roundS
  rw [hl]
  by_cases h : ls.length = N
  · rw [if_pos h, if_pos h]
    rcases rrI_bad near ls 0 with ⟨h1, h2⟩ | ⟨h1, h2⟩
    · rw [if_neg (by omega), (roundBad_good near ls 0 h1).1]
    · rw [if_pos h2, h1]
  · rw [if_neg h, if_neg h]
/-- What plane.Faces answers, told so that the law can hold it against R.Faces. -/
def FL (w : World) (near : List Nat) (N : Nat) (ls : List (List Int)) (c : Int) (y : Value) : Prop := (c ≠ 0 ∧ y = .slice none 0 0) ∨ (c = 0 ∧ ∃ rs, ls = castR rs ∧ RowsOk near rs ∧ ((traceL (turnsR rs N) near N).2.length ≤ 1000000 → (∀ l ∈ (traceL (turnsR rs N) near N).2, l.length ≤ 1000000 ∧ ∀ x ∈ l, x < 1000000) → RowsAt w y (castR (traceL (turnsR rs N) near N).2)))
theorem FL.below {w w' : World} {near : List Nat} {N : Nat} {ls : List (List Int)} {c : Int} {y : Value} (h : FL w near N ls c y) (hb : Below w.heap.size w w') : FL w' near N ls c y := by
  rcases h with h | ⟨h0, rs, h1, h2, h3⟩
  · exact Or.inl h
  · exact Or.inr ⟨h0, rs, h1, h2, fun a b => (h3 a b).below hb⟩
theorem faces_as {w : World} {N : Nat} {v x : Value} {es : List Pair} {ls : List (List Int)} (hE : EdgesAt w v es) (hx : RowsAt w x ls) (hc : (chk N es).1 = 0) (ht : T64 w) {c d : Int} (hcd : roundS (nearBy N (natE es)) ls = (c, d)) :
    Calls Tryd.prog 18 #[.agg #[.int .i64 (N : Int), v], x] w fun e w' => ∃ y, e = .returned (.tuple #[y, .agg #[.int .i64 c, .int .i64 d]]) ∧ Below w.heap.size w w' ∧ FL w' (nearBy N (natE es)) N ls c y := by
  refine (faces_ok hE hx hc (natE_pz hc) ht).mono fun e w' ⟨hb, h⟩ => ?_
  rw [hcd] at h
  simp only at h
  by_cases h0 : c = 0
  · rw [if_pos h0] at h
    obtain ⟨rs, h1, h2, y, hi, q, vs, h3, h4⟩ := h
    have hd : d = 0 := by
      have := hcd
      rw [← lawF_eq (nearBy_len ..)] at this
      unfold lawF at this
      rw [h0] at this
      split at this
      · split at this
        · simp at this
        · simp at this; exact this.symm
      · simp at this
    rw [nearBy_len] at h4
    refine ⟨y, by rw [h3, h0, hd], hb, Or.inr ⟨h0, rs, h1, h2, fun a b => facesAt_rows h4 a b⟩⟩
  · rw [if_neg h0] at h
    exact ⟨_, h, hb, Or.inl ⟨h0, rfl⟩⟩
theorem hasB_lt {N : Nat} {es : List Pair} (hc : (chk N es).1 = 0) {a b : Nat} (h : hasB es (a : Int) (b : Int) = true) : b < N := by
  obtain ⟨_, _, _, _, hg⟩ := chk_good hc
  unfold hasB at h
  rw [List.any_eq_true] at h
  obtain ⟨e, he, h1⟩ := h
  have h2 := (hg e he).1
  simp only [Bool.or_eq_true, Bool.and_eq_true, beq_iff_eq] at h1
  omega
theorem getD_mem {rs : List (List Nat)} {v : Nat} (h : v < rs.length) : rs.getD v [] ∈ rs := by
  rw [List.getD_eq_getElem?_getD, List.getElem?_eq_getElem h]
  exact List.getElem_mem h
theorem mem_dartsTo (near : List Nat) : ∀ (k : Nat) (d : E2), d ∈ dartsTo near k → d.1 < k ∧ d.2 ∈ elems (at' near d.1)
  | 0, d, h => by cases h
  | k + 1, d, h => by
    rcases List.mem_append.1 h with h | h
    · exact ⟨by have := (mem_dartsTo near k d h).1; omega, (mem_dartsTo near k d h).2⟩
    · obtain ⟨u, hu, rfl⟩ := List.mem_map.1 h
      exact ⟨by simp, hu⟩
theorem refFaces_as {w : World} {N : Nat} {gv x : Value} {es : List Pair} {rs : List (List Nat)} (hg : GridAt w gv N (hasB es)) (hx : RowsAt w x (castR rs)) (hc : (chk N es).1 = 0) (hok : RowsOk (nearBy N (natE es)) rs) (h3 : 3 ≤ w.heap.size) :
    Calls Tryd.prog 20 #[gv, x] w fun e w' => ∃ y, e = .returned y ∧ Below w.heap.size w w' ∧ RowsAt w' y (castR (traceL (turnsR rs N) (nearBy N (natE es)) N).2) ∧ (traceL (turnsR rs N) (nearBy N (natE es)) N).2.length ≤ 1000000 ∧ ∀ l ∈ (traceL (turnsR rs N) (nearBy N (natE es)) N).2, l.length ≤ 1000000 ∧ ∀ x ∈ l, x < 1000000 := by
  obtain ⟨hck, hn0, hn1, hel, hgood⟩ := chk_good hc
  obtain ⟨hr, hl, hm⟩ := rows_rot hc hok
  have hN : N ≤ 100 := by omega
  have hs : ∀ v, v < N → ∀ z, (at' (nearBy N (natE es)) v).testBit z = true → z < N := fun v hv z hz => by
    rw [nearBy_has hc hv] at hz
    exact hasB_lt hc hz
  refine (refFaces_call hg hx hr hl hN (fun a b ha _ => hm a b ha) h3).mono fun e w' ⟨y, D, out, vs, hi, he, hR, hrun, hlen⟩ => ?_
  have hq : dartsQ (fun a b : Nat => hasB es (a : Int) (b : Int)) N N = dartsTo (nearBy N (natE es)) N := darts_eq hN hs (fun v z hv => nearBy_has hc hv) N (Nat.le_refl _)
  rw [hq] at hrun
  have hmem : ∀ v, v < rs.length → ∀ u, u ∈ elems (at' (nearBy N (natE es)) v) ↔ u ∈ rs.getD v [] := fun v hv u => by
    rw [← hm v u (by omega), elems_range (by omega) (hs v (by omega)), List.mem_filter, List.mem_range, nearBy_has hc (by omega)]
    exact ⟨fun h => h.2, fun h => ⟨hasB_lt hc h, h⟩⟩
  obtain ⟨seen, ht, _⟩ := traceL_ref hr (by rw [hl, nearBy_len]) hmem N D out (by omega) hrun
  rw [hl] at ht
  rw [ht]
  have hb := refRun_rows hr (by omega) (fun d hd => ?_) (fun l h => by cases h) hrun
  · exact ⟨y, he, hR.below, facesAt_rows hR.fc (by show out.length ≤ 1000000; omega) hb, (by show out.length ≤ 1000000; omega), hb⟩
  · obtain ⟨h1, h2⟩ := mem_dartsTo _ N d hd
    have h4 := (hmem d.1 (by omega) d.2).1 h2
    exact ⟨by omega, hr.lt _ (getD_mem (by omega)) _ h4, h4⟩
end Go.Proofs.YtekokjechbibdaaDoor

namespace Go.Proofs.YtekokjechbibdaaDoor
set_option maxRecDepth 8000
open Go.RowKit Go.Maps
attribute [local go_sem ↓] Go.wp_at_zero Go.wp_at_succ
set_option maxHeartbeats 4000000 in
theorem facesLaw_bad {w : World} {n : Int} {vo : Option Addr} {vc : Nat} {es : List Pair} {x : Value} {ls : List (List Int)} (hE : EdgesAt w (.slice vo es.length vc) es) (hcap : es.length ≤ vc) (hx : RowsAt w x ls) {c d : Int} (hs : chk n es = (c, d)) (hc : c ≠ 0) (ht : T64 w) :
    Calls Tryd.prog 4 #[.agg #[.int .i64 n, .slice vo es.length vc], x] w fun e w' => e = .returned (.bool true) ∧ Below w.heap.size w w' := by
  have HE : Hid (EdgesAt w (.slice vo es.length vc) es ∧ RowsAt w x ls ∧ T64 w ∧ chk n es = (c, d) ∧ c ≠ 0) := ⟨hE, hx, ht, hs, hc⟩
  have kc : (c == 0) = false := by simpa using hc
  have kc2 : (c != 0) = true := by simpa using hc
  obtain ⟨xo, xc, hxe, hx9⟩ := hx
  clear hx9
  generalize ls.length = xl at hxe
  subst hxe
  have C6 : Hid (∀ A, Below w.heap.size w A → Calls Tryd.prog 6 #[.agg #[.int .i64 n, .slice vo es.length vc]] A fun e w' => Below A.heap.size A w' ∧ ∃ ao c, e = .returned (.agg #[.int .i64 n, .slice ao es.length c]) ∧ EdgesAt w' (.slice ao es.length c) es ∧ es.length ≤ c) := fun A hA => own_any n vo vc es A (HE.out.1.below hA)
  have C16 : Hid (∀ A, Below w.heap.size w A → Calls Tryd.prog 16 #[.slice xo xl xc] A fun e w' => ∃ v', e = .returned v' ∧ RowsAt w' v' ls ∧ Below A.heap.size A w') := fun A hA => rows_call (HE.out.2.1.below hA)
  have C7 : Hid (∀ A, Below w.heap.size w A → Calls Tryd.prog 7 #[.agg #[.int .i64 n, .slice vo es.length vc]] A fun e w' => e = .returned (.agg #[.int .i64 c, .int .i64 d]) ∧ Below A.heap.size A w') := fun A hA => refCheck_as (HE.out.1.below hA) hcap HE.out.2.2.2.1
  have C18 : Hid (∀ A so y, EdgesAt A so es → RowsAt A y ls → Calls Tryd.prog 18 #[.agg #[.int .i64 n, so], y] A fun e w' => e = .returned (.tuple #[.slice none 0 0, .agg #[.int .i64 c, .int .i64 d]]) ∧ Below A.heap.size A w') := fun A so y h1 h2 => by
    have := faces_bad0 (n := n) h1 h2 (by rw [HE.out.2.2.2.1]; exact HE.out.2.2.2.2)
    rw [HE.out.2.2.2.1] at this
    exact this
  clear hE hs hc ht hcap
  go_enter Tryd.func4, Tryd.ntmps4
  go_upto_region 1 with (fail)
  have t2 := two_new w (.int .i64 n) (.slice vo es.length vc) 24
  have hB0 := below_alloc (Below.refl _ w) (Obj.cells #[.int .i64 n, .slice vo es.length vc] 24)
  generalize w.heap.size = b2 at t2 ⊢
  generalize w.alloc (Obj.cells #[.int .i64 n, .slice vo es.length vc] 24) = W0 at *
  have HW0 : Hid (Two W0 b2 (.int .i64 n) (.slice vo es.length vc) 24 ∧ Below w.heap.size w W0) := ⟨t2, hB0⟩
  obtain ⟨q0, q1⟩ := cell_two t2
  clear t2 hB0
  go_upto_region 2 with (first | (go_at_call 6; refine Calls.mono (C6.out _ HW0.out.2) ?_; rintro e W1 ⟨h1, ao, ac, rfl, hEo, _⟩) | (go_at_call 16; refine Calls.mono (C16.out _ (below_next HW0.out.2 h1)) ?_; rintro e W2 ⟨rx, rfl, hR2, h2⟩) | fail)
  have hB2 := below_next HW0.out.2 (below_next h1 h2)
  have t5 := two_new W2 (.int .i64 n) (.slice ao es.length ac) 24
  have hB3 : Below W0.heap.size W0 (W2.alloc (Obj.cells #[.int .i64 n, .slice ao es.length ac] 24)) := below_alloc (below_next h1 h2) _
  have hEo3 : EdgesAt (W2.alloc (Obj.cells #[.int .i64 n, .slice ao es.length ac] 24)) (.slice ao es.length ac) es := hEo.below (below_alloc h2 _)
  have hR3 : RowsAt (W2.alloc (Obj.cells #[.int .i64 n, .slice ao es.length ac] 24)) rx ls := hR2.below (below_alloc (Below.refl _ _) _)
  generalize W2.heap.size = b5 at t5 ⊢
  generalize W2.alloc (Obj.cells #[.int .i64 n, .slice ao es.length ac] 24) = W3 at *
  have HW3 : Hid (Two W3 b2 (.int .i64 n) (.slice vo es.length vc) 24 ∧ Two W3 b5 (.int .i64 n) (.slice ao es.length ac) 24 ∧ EdgesAt W3 (.slice ao es.length ac) es ∧ RowsAt W3 rx ls ∧ Below w.heap.size w W3) := ⟨two_next HW0.out.1 hB3, t5, hEo3, hR3, below_next HW0.out.2 hB3⟩
  clear q0 q1 h1 h2 hEo hR2 hB2 t5 hB3 hEo3 hR3
  obtain ⟨q0, q1⟩ := cell_two HW3.out.1
  go_upto_region 3 with (first | (go_at_call 7; refine Calls.mono (C7.out _ HW3.out.2.2.2.2) ?_; rintro e W4 ⟨rfl, h4⟩) | fail)
  have t7 := two_new W4 (.int .i64 c) (.int .i64 d) 27
  have hB5 : Below W3.heap.size W3 (W4.alloc (Obj.cells #[.int .i64 c, .int .i64 d] 27)) := below_alloc h4 _
  generalize W4.heap.size = b7 at t7 ⊢
  generalize W4.alloc (Obj.cells #[.int .i64 c, .int .i64 d] 27) = W5 at *
  have HW5 : Hid (Two W5 b7 (.int .i64 c) (.int .i64 d) 27 ∧ Below W3.heap.size W3 W5) := ⟨t7, hB5⟩
  clear q0 q1 h4 t7 hB5
  obtain ⟨q0, q1⟩ := cell_two HW5.out.1
  obtain ⟨q2, q3⟩ := cell_two (two_next HW3.out.2.1 HW5.out.2)
  have C18' : Hid (Calls Tryd.prog 18 #[.agg #[.int .i64 n, .slice ao es.length ac], rx] W5 fun e w' => e = .returned (.tuple #[.slice none 0 0, .agg #[.int .i64 c, .int .i64 d]]) ∧ Below W5.heap.size W5 w') := C18.out W5 _ _ (HW3.out.2.2.1.below HW5.out.2) (HW3.out.2.2.2.1.below HW5.out.2)
  go_upto_region 10 with (first | (go_at_call 18; refine Calls.mono C18'.out ?_; rintro e W6 ⟨rfl, h6⟩) | fail)
  have t10 := two_new W6 (.int .i64 c) (.int .i64 d) 27
  have hB7 : Below W5.heap.size W5 (W6.alloc (Obj.cells #[.int .i64 c, .int .i64 d] 27)) := below_alloc h6 _
  generalize W6.heap.size = b10 at t10 ⊢
  generalize W6.alloc (Obj.cells #[.int .i64 c, .int .i64 d] 27) = W7 at *
  have hB37 := below_next HW5.out.2 hB7
  have HW7 : Hid (Two W7 b10 (.int .i64 c) (.int .i64 d) 27 ∧ Two W7 b7 (.int .i64 c) (.int .i64 d) 27 ∧ Two W7 b2 (.int .i64 n) (.slice vo es.length vc) 24 ∧ Two W7 b5 (.int .i64 n) (.slice ao es.length ac) 24 ∧ EdgesAt W7 (.slice ao es.length ac) es ∧ RowsAt W7 rx ls ∧ Below w.heap.size w W7) := ⟨t10, two_next HW5.out.1 hB7, two_next HW3.out.1 hB37, two_next HW3.out.2.1 hB37, HW3.out.2.2.1.below hB37, HW3.out.2.2.2.1.below hB37, below_next HW3.out.2.2.2.2 hB37⟩
  clear q0 q1 q2 q3 h6 t10 hB7 hB37 C18' C18 C16 C7 C6
  have H9 : Hid (Calls Tryd.prog 9 #[] W7 fun e w' => e = .returned (.bool true) ∧ Below W7.heap.size W7 w') := begun_call (HE.out.2.2.1.under HW7.out.2.2.2.2.2.2)
  have H10 : Hid (∀ A, Below W7.heap.size W7 A → Calls Tryd.prog 10 #[.agg #[.int .i64 n, .slice ao es.length ac], .agg #[.int .i64 n, .slice vo es.length vc]] A fun e w' => e = .returned (.bool true) ∧ Below A.heap.size A w') := fun A hA => kept_true n _ _ es A (HW7.out.2.2.2.2.1.below hA) (HE.out.1.below (below_next HW7.out.2.2.2.2.2.2 hA))
  have H19 : Hid (∀ A, Below W7.heap.size W7 A → Calls Tryd.prog 19 #[rx, .slice xo xl xc] A fun e w' => e = .returned (.bool true) ∧ Below A.heap.size A w') := fun A hA => (lists_true rx _ ls A (HW7.out.2.2.2.2.2.1.below hA) (HE.out.2.1.below (below_next HW7.out.2.2.2.2.2.2 hA))).mono fun e w' ⟨h1, m, h2⟩ => ⟨h1, by rw [h2]; exact drewN_below _ _⟩
  have hneq := neq27 c d
  go_upto_region 12 with (first
    | (go_at_call 9; refine Calls.mono H9.out ?_; rintro e W8 ⟨rfl, h8⟩; obtain ⟨q0, q1⟩ := cell_two (two_next HW7.out.1 h8); obtain ⟨q2, q3⟩ := cell_two (two_next HW7.out.2.1 h8); obtain ⟨q4, q5⟩ := cell_two (two_next HW7.out.2.2.1 h8); obtain ⟨q6, q7⟩ := cell_two (two_next HW7.out.2.2.2.1 h8))
    | (go_at_call 10; refine Calls.mono (H10.out _ h8) ?_; rintro e W9 ⟨rfl, h9⟩)
    | (go_at_call 19; refine Calls.mono (H19.out _ (below_next h8 h9)) ?_; rintro e W10 ⟨rfl, h10⟩)
    | fail)
  have hB10 := below_next h8 (below_next h9 h10)
  have HB10 : Hid (Below w.heap.size w W10) := below_next HW7.out.2.2.2.2.2.2 hB10
  clear q0 q1 q2 q3 q4 q5 q6 q7 hneq
  obtain ⟨q2, q3⟩ := cell_two (two_next HW7.out.2.1 hB10)
  clear h8 h9 h10 hB10
  go_wp2
  go_ret
  exact ⟨rfl, HB10.out⟩
set_option maxHeartbeats 4000000 in
theorem facesLaw_good {w : World} {N : Nat} {vo : Option Addr} {vc : Nat} {es : List Pair} {x : Value} {ls : List (List Int)} (hE : EdgesAt w (.slice vo es.length vc) es) (hcap : es.length ≤ vc) (hx : RowsAt w x ls) (hs : (chk N es).1 = 0) (ht : T64 w) :
    Calls Tryd.prog 4 #[.agg #[.int .i64 (N : Int), .slice vo es.length vc], x] w fun e w' => e = .returned (.bool true) ∧ Below w.heap.size w w' := by
  have HE : Hid (EdgesAt w (.slice vo es.length vc) es ∧ RowsAt w x ls ∧ T64 w ∧ (chk N es).1 = 0 ∧ es.length ≤ vc) := ⟨hE, hx, ht, hs, hcap⟩
  obtain ⟨c, d, hcd⟩ : ∃ c d, lawF (nearBy N (natE es)) N ls = (c, d) := ⟨_, _, rfl⟩
  have HF : Hid (lawF (nearBy N (natE es)) N ls = (c, d)) := hcd
  obtain ⟨n, hn⟩ : ∃ n : Int, n = (N : Int) := ⟨_, rfl⟩
  have HN : Hid (n = (N : Int)) := hn
  rw [← hn]
  clear hcd
  obtain ⟨xo, xc, hxe, hx9⟩ := hx
  clear hx9
  obtain ⟨xl, hxl⟩ : ∃ xl, xl = ls.length := ⟨_, rfl⟩
  have HXL : Hid (xl = ls.length) := hxl
  rw [← hxl] at hxe
  clear hxl
  subst hxe
  have C6 : Hid (∀ A, Below w.heap.size w A → Calls Tryd.prog 6 #[.agg #[.int .i64 n, .slice vo es.length vc]] A fun e w' => Below A.heap.size A w' ∧ ∃ ao c, e = .returned (.agg #[.int .i64 n, .slice ao es.length c]) ∧ EdgesAt w' (.slice ao es.length c) es ∧ es.length ≤ c) := fun A hA => own_any n vo vc es A (HE.out.1.below hA)
  have C16 : Hid (∀ A, Below w.heap.size w A → Calls Tryd.prog 16 #[.slice xo xl xc] A fun e w' => ∃ v', e = .returned v' ∧ RowsAt w' v' ls ∧ Below A.heap.size A w') := fun A hA => rows_call (HE.out.2.1.below hA)
  have C7 : Hid (∀ A, Below w.heap.size w A → Calls Tryd.prog 7 #[.agg #[.int .i64 n, .slice vo es.length vc]] A fun e w' => e = .returned (.agg #[.int .i64 0, .int .i64 0]) ∧ Below A.heap.size A w') := fun A hA => refCheck_as (HE.out.1.below hA) hcap (by rw [HN.out]; exact (chk_good HE.out.2.2.2.1).1)
  have C18 : Hid (∀ A so y, EdgesAt A so es → RowsAt A y ls → Below w.heap.size w A → Calls Tryd.prog 18 #[.agg #[.int .i64 n, so], y] A fun e w' => ∃ z, e = .returned (.tuple #[z, .agg #[.int .i64 c, .int .i64 d]]) ∧ Below A.heap.size A w' ∧ FL w' (nearBy N (natE es)) N ls c z) := fun A so y h1 h2 h3 => by
    rw [HN.out]
    exact faces_as h1 h2 HE.out.2.2.2.1 (HE.out.2.2.1.under h3) ((lawF_eq (nearBy_len ..) ls).symm.trans HF.out)
  have C11 : Hid (∀ A, Below w.heap.size w A → Calls Tryd.prog 11 #[.agg #[.int .i64 n, .slice vo es.length vc]] A fun e w' => ∃ v, e = .returned v ∧ Below A.heap.size A w' ∧ GridAt w' v N (hasB es)) := fun A hA => by
    obtain ⟨_, _, hn1, hel, hgood⟩ := chk_good HE.out.2.2.2.1
    rw [HN.out]
    exact (gridOf_any N _ es A (HE.out.1.below hA) (by omega) hel hgood).mono fun e w' ⟨h1, ao, cap, h2, h3⟩ => ⟨_, h2, h1, h3⟩
  have C14 : Hid (xl = N → ∀ A gv, Below w.heap.size w A → GridAt A gv N (hasB es) → Calls Tryd.prog 14 #[gv, .slice xo xl xc] A fun e w' => e = .returned (.int .i64 (rrI (nearBy N (natE es)) 0 ls)) ∧ w' = A) := fun hl A gv hA hg => by
    obtain ⟨_, _, hn1, hel, hgood⟩ := chk_good HE.out.2.2.2.1
    exact round_call hg (HE.out.2.1.below hA) (by omega) (HXL.out.symm.trans hl) (fun v hv z hz => by rw [nearBy_has HE.out.2.2.2.1 hv] at hz; exact hasB_lt HE.out.2.2.2.1 hz) (fun v z hv _ => nearBy_has HE.out.2.2.2.1 hv)
  clear hE hs ht hcap hn
  go_enter Tryd.func4, Tryd.ntmps4
  go_upto_region 1 with (fail)
  have t2 := two_new w (.int .i64 n) (.slice vo es.length vc) 24
  have hB0 := below_alloc (Below.refl _ w) (Obj.cells #[.int .i64 n, .slice vo es.length vc] 24)
  generalize w.heap.size = b2 at t2 ⊢
  generalize w.alloc (Obj.cells #[.int .i64 n, .slice vo es.length vc] 24) = W0 at *
  have hz0 : 1 ≤ W0.heap.size := by have := lt_of_block t2; omega
  have HW0 : Hid (Two W0 b2 (.int .i64 n) (.slice vo es.length vc) 24 ∧ Below w.heap.size w W0) := ⟨t2, hB0⟩
  obtain ⟨q0, q1⟩ := cell_two t2
  clear t2 hB0
  go_upto_region 2 with (first | (go_at_call 6; refine Calls.mono (C6.out _ HW0.out.2) ?_; rintro e W1 ⟨h1, ao, ac, rfl, hEo, _⟩) | (go_at_call 16; refine Calls.mono (C16.out _ (below_next HW0.out.2 h1)) ?_; rintro e W2 ⟨rx, rfl, hR2, h2⟩) | fail)
  have hB2 := below_next HW0.out.2 (below_next h1 h2)
  have t5 := two_new W2 (.int .i64 n) (.slice ao es.length ac) 24
  have hB3 : Below W0.heap.size W0 (W2.alloc (Obj.cells #[.int .i64 n, .slice ao es.length ac] 24)) := below_alloc (below_next h1 h2) _
  have hEo3 : EdgesAt (W2.alloc (Obj.cells #[.int .i64 n, .slice ao es.length ac] 24)) (.slice ao es.length ac) es := hEo.below (below_alloc h2 _)
  have hR3 : RowsAt (W2.alloc (Obj.cells #[.int .i64 n, .slice ao es.length ac] 24)) rx ls := hR2.below (below_alloc (Below.refl _ _) _)
  have hz2 : 1 ≤ W2.heap.size := Nat.le_trans hz0 (below_next h1 h2).size
  have hz3 : 2 ≤ (W2.alloc (Obj.cells #[.int .i64 n, .slice ao es.length ac] 24)).heap.size := by simp; omega
  generalize W2.heap.size = b5 at t5 ⊢
  generalize W2.alloc (Obj.cells #[.int .i64 n, .slice ao es.length ac] 24) = W3 at *
  have HW3 : Hid (Two W3 b2 (.int .i64 n) (.slice vo es.length vc) 24 ∧ Two W3 b5 (.int .i64 n) (.slice ao es.length ac) 24 ∧ EdgesAt W3 (.slice ao es.length ac) es ∧ RowsAt W3 rx ls ∧ Below w.heap.size w W3) := ⟨two_next HW0.out.1 hB3, t5, hEo3, hR3, below_next HW0.out.2 hB3⟩
  have HZ3 : Hid (2 ≤ W3.heap.size) := hz3
  clear hz0 hz2 hz3
  clear q0 q1 h1 h2 hEo hR2 hB2 t5 hB3 hEo3 hR3
  obtain ⟨q0, q1⟩ := cell_two HW3.out.1
  go_upto_region 3 with (first | (go_at_call 7; refine Calls.mono (C7.out _ HW3.out.2.2.2.2) ?_; rintro e W4 ⟨rfl, h4⟩) | fail)
  have t7 := two_new W4 (.int .i64 0) (.int .i64 0) 27
  have hB5 : Below W4.heap.size W4 (W4.alloc (Obj.cells #[.int .i64 0, .int .i64 0] 27)) := below_alloc (Below.refl _ _) _
  obtain ⟨b7, hb7⟩ : ∃ b7, b7 = W4.heap.size := ⟨_, rfl⟩
  have HW4 : Hid (Two W4 b2 (.int .i64 n) (.slice vo es.length vc) 24 ∧ Two W4 b5 (.int .i64 n) (.slice ao es.length ac) 24 ∧ EdgesAt W4 (.slice ao es.length ac) es ∧ RowsAt W4 rx ls ∧ Below w.heap.size w W4 ∧ b7 = W4.heap.size ∧ 2 ≤ W4.heap.size) := ⟨two_next HW3.out.1 h4, two_next HW3.out.2.1 h4, HW3.out.2.2.1.below h4, HW3.out.2.2.2.1.below h4, below_next HW3.out.2.2.2.2 h4, hb7, Nat.le_trans HZ3.out h4.size⟩
  rw [← hb7] at t7 ⊢
  clear hb7
  generalize W4.alloc (Obj.cells #[.int .i64 0, .int .i64 0] 27) = W5 at *
  have HW5 : Hid (Two W5 b7 (.int .i64 0) (.int .i64 0) 27 ∧ Below W4.heap.size W4 W5) := ⟨t7, hB5⟩
  clear q0 q1 h4 t7 hB5 HW3 C7 C6 C16
  obtain ⟨q0, q1⟩ := cell_two HW5.out.1
  obtain ⟨q2, q3⟩ := cell_two (two_next HW4.out.1 HW5.out.2)
  obtain ⟨c1, hc1⟩ : ∃ c1 : Int, (xl = N ∧ c1 = 0) ∨ (xl ≠ N ∧ c1 = 6) := by
    by_cases h : xl = N
    · exact ⟨0, Or.inl ⟨h, rfl⟩⟩
    · exact ⟨6, Or.inr ⟨h, rfl⟩⟩
  have HC1 : Hid ((xl = N ∧ c1 = 0) ∨ (xl ≠ N ∧ c1 = 6)) := hc1
  clear hc1
  go_upto_if 26 with (fail)
  clear q0 q1 q2 q3
  go_cut [] from 17 to 27 (fun wd => Two wd b7 (.int .i64 c1) (.int .i64 0) 27 ∧ Below W4.heap.size W4 wd)
  case first =>
    rcases HC1.out with ⟨he, rfl⟩ | ⟨he, rfl⟩
    · have k1 : ((xl : Int) != n) = false := by rw [HN.out, he]; simp
      clear he
      go_wp2_with (fail)
      go_meet
      case rel => exact HW5.out
    · have k1 : ((xl : Int) != n) = true := by rw [HN.out]; simp; omega
      clear he
      go_wp2_with (first | (go_at_call 17; refine Calls.mono (refF_any 6 0 _) ?_; rintro e W6 ⟨rfl, h6⟩; have z8 := two_next HW5.out.1 h6; have ff := free_two z8; obtain ⟨p2, p3⟩ := cell_two z8) | go_in)
      go_meet
      case rel => exact ⟨two_setN z8, ((below_next HW5.out.2 h6).setCell (by rw [HW4.out.2.2.2.2.2.1]; exact Nat.le_refl _) _).setCell (by rw [HW4.out.2.2.2.2.2.1]; exact Nat.le_refl _) _⟩
  case rest =>
    have HWC : Hid (Two wc b7 (.int .i64 c1) (.int .i64 0) 27 ∧ Below W4.heap.size W4 wc) := hcut
    clear hcut HW5
    obtain ⟨q0, q1⟩ := cell_two HWC.out.1
    go_upto_if 30 with (fail)
    clear q0 q1
    go_cut [8] from 28 to 38 (fun _ wd => Two wd b7 (.int .i64 c) (.int .i64 d) 27 ∧ Below W4.heap.size W4 wd)
    case first =>
      rcases HC1.out with ⟨he, rfl⟩ | ⟨he, rfl⟩
      · have hlw := HF.out
        unfold lawF at hlw
        rw [← HXL.out, if_pos he] at hlw
        have C14' : Hid (∀ A gv, Below w.heap.size w A → GridAt A gv N (hasB es) → Calls Tryd.prog 14 #[gv, .slice xo xl xc] A fun e w' => e = .returned (.int .i64 (rrI (nearBy N (natE es)) 0 ls)) ∧ w' = A) := C14.out he
        generalize rrI (nearBy N (natE es)) 0 ls = r at hlw C14'
        have HLW : Hid _ := hlw
        clear hlw he
        obtain ⟨q0, q1⟩ := cell_two (two_next HW4.out.1 HWC.out.2)
        go_upto_if 36 with (first
          | (go_at_call 11; refine Calls.mono (C11.out _ (below_next HW4.out.2.2.2.2.1 HWC.out.2)) ?_; rintro e W6 ⟨gv, rfl, h6, hG⟩)
          | (go_at_call 14; refine Calls.mono (C14'.out _ gv (below_next (below_next HW4.out.2.2.2.2.1 HWC.out.2) h6) hG) ?_; rintro e W7 ⟨rfl, rfl⟩)
          | go_in)
        have z8 := two_next HWC.out.1 h6
        by_cases hr : 0 ≤ r
        · have hcd : c = 7 ∧ d = r := by
            have := HLW.out
            rw [if_pos hr] at this
            simp at this
            exact ⟨this.1.symm, this.2.symm⟩
          obtain ⟨rfl, rfl⟩ := hcd
          have k1 : decide (0 ≤ d) = true := by simpa using hr
          have k2 : ¬ d < 0 := by omega
          go_wp2_with (first | (go_at_call 17; refine Calls.mono (refF_any 7 d _) ?_; rintro e W8 ⟨rfl, h8⟩; have y8 := two_next z8 h8; have ff := free_two y8; obtain ⟨p2, p3⟩ := cell_two y8) | go_in)
          go_meet
          case rel => exact ⟨two_setN y8, ((below_next (below_next HWC.out.2 h6) h8).setCell (by rw [HW4.out.2.2.2.2.2.1]; exact Nat.le_refl _) _).setCell (by rw [HW4.out.2.2.2.2.2.1]; exact Nat.le_refl _) _⟩
        · have hcd : c = 0 ∧ d = 0 := by
            have := HLW.out
            rw [if_neg hr] at this
            simp at this
            exact ⟨this.1.symm, this.2.symm⟩
          obtain ⟨rfl, rfl⟩ := hcd
          have k1 : decide (0 ≤ r) = false := by simpa using hr
          go_wp2_with (fail)
          go_meet
          case rel => exact ⟨z8, below_next HWC.out.2 h6⟩
      · have hlw := HF.out
        unfold lawF at hlw
        rw [← HXL.out, if_neg he] at hlw
        have hcd : c = 6 ∧ d = 0 := by
          simp at hlw
          exact ⟨hlw.1.symm, hlw.2.symm⟩
        obtain ⟨rfl, rfl⟩ := hcd
        clear he hlw
        go_wp2_with (fail)
        go_meet
        case rel => exact HWC.out
    case rest =>
      have HW5 : Hid (Two wc b7 (.int .i64 c) (.int .i64 d) 27 ∧ Below W4.heap.size W4 wc) := hcut
      clear hcut HWC HC1 C14 HXL
      obtain ⟨q0, q1⟩ := cell_two HW5.out.1
      obtain ⟨q2, q3⟩ := cell_two (two_next HW4.out.2.1 HW5.out.2)
      have C18' : Hid (Calls Tryd.prog 18 #[.agg #[.int .i64 n, .slice ao es.length ac], rx] wc fun e w' => ∃ z, e = .returned (.tuple #[z, .agg #[.int .i64 c, .int .i64 d]]) ∧ Below wc.heap.size wc w' ∧ FL w' (nearBy N (natE es)) N ls c z) := C18.out wc _ _ (HW4.out.2.2.1.below HW5.out.2) (HW4.out.2.2.2.1.below HW5.out.2) (below_next HW4.out.2.2.2.2.1 HW5.out.2)
      go_upto_region 10 with (first | (go_at_call 18; refine Calls.mono C18'.out ?_; rintro e W6 ⟨z, rfl, h6, hFL⟩) | fail)
      have t10 := two_new W6 (.int .i64 c) (.int .i64 d) 27
      have hB7 : Below wc.heap.size wc (W6.alloc (Obj.cells #[.int .i64 c, .int .i64 d] 27)) := below_alloc h6 _
      have hFL7 : FL (W6.alloc (Obj.cells #[.int .i64 c, .int .i64 d] 27)) (nearBy N (natE es)) N ls c z := hFL.below (below_alloc (Below.refl _ _) _)
      generalize W6.heap.size = b10 at t10 ⊢
      generalize W6.alloc (Obj.cells #[.int .i64 c, .int .i64 d] 27) = W7 at *
      have hB37 := below_next HW5.out.2 hB7
      have hsz : 3 ≤ W7.heap.size := by
        have h1 := lt_of_block HW5.out.1
        have h2 := HW4.out.2.2.2.2.2
        have h3 := hB7.size
        omega
      have HW7 : Hid (Two W7 b10 (.int .i64 c) (.int .i64 d) 27 ∧ Two W7 b7 (.int .i64 c) (.int .i64 d) 27 ∧ Two W7 b2 (.int .i64 n) (.slice vo es.length vc) 24 ∧ Two W7 b5 (.int .i64 n) (.slice ao es.length ac) 24 ∧ EdgesAt W7 (.slice ao es.length ac) es ∧ RowsAt W7 rx ls ∧ Below w.heap.size w W7) := ⟨t10, two_next HW5.out.1 hB7, two_next HW4.out.1 hB37, two_next HW4.out.2.1 hB37, HW4.out.2.2.1.below hB37, HW4.out.2.2.2.1.below hB37, below_next HW4.out.2.2.2.2.1 hB37⟩
      have HF7 : Hid (FL W7 (nearBy N (natE es)) N ls c z ∧ 3 ≤ W7.heap.size) := ⟨hFL7, hsz⟩
      clear q0 q1 q2 q3 h6 t10 hB7 hB37 C18' C18 hFL hFL7 hsz
      have H9 : Hid (Calls Tryd.prog 9 #[] W7 fun e w' => e = .returned (.bool true) ∧ Below W7.heap.size W7 w') := begun_call (HE.out.2.2.1.under HW7.out.2.2.2.2.2.2)
      have H10 : Hid (∀ A, Below W7.heap.size W7 A → Calls Tryd.prog 10 #[.agg #[.int .i64 n, .slice ao es.length ac], .agg #[.int .i64 n, .slice vo es.length vc]] A fun e w' => e = .returned (.bool true) ∧ Below A.heap.size A w') := fun A hA => kept_true n _ _ es A (HW7.out.2.2.2.2.1.below hA) (HE.out.1.below (below_next HW7.out.2.2.2.2.2.2 hA))
      have H19 : Hid (∀ A, Below W7.heap.size W7 A → Calls Tryd.prog 19 #[rx, .slice xo xl xc] A fun e w' => e = .returned (.bool true) ∧ Below A.heap.size A w') := fun A hA => (lists_true rx _ ls A (HW7.out.2.2.2.2.2.1.below hA) (HE.out.2.1.below (below_next HW7.out.2.2.2.2.2.2 hA))).mono fun e w' ⟨h1, m, h2⟩ => ⟨h1, by rw [h2]; exact drewN_below _ _⟩
      have hneq := neq27 c d
      go_upto_region 12 with (first
        | (go_at_call 9; refine Calls.mono H9.out ?_; rintro e W8 ⟨rfl, h8⟩; obtain ⟨q0, q1⟩ := cell_two (two_next HW7.out.1 h8); obtain ⟨q2, q3⟩ := cell_two (two_next HW7.out.2.1 h8); obtain ⟨q4, q5⟩ := cell_two (two_next HW7.out.2.2.1 h8); obtain ⟨q6, q7⟩ := cell_two (two_next HW7.out.2.2.2.1 h8))
        | (go_at_call 10; refine Calls.mono (H10.out _ h8) ?_; rintro e W9 ⟨rfl, h9⟩)
        | (go_at_call 19; refine Calls.mono (H19.out _ (below_next h8 h9)) ?_; rintro e W10 ⟨rfl, h10⟩)
        | fail)
      have hB10 := below_next h8 (below_next h9 h10)
      have HB10 : Hid (Below w.heap.size w W10 ∧ Below W7.heap.size W7 W10) := ⟨below_next HW7.out.2.2.2.2.2.2 hB10, hB10⟩
      clear q0 q1 q2 q3 q4 q5 q6 q7 hneq H9 H10 H19
      clear h8 h9 h10 hB10
      obtain ⟨q2, q3⟩ := cell_two (two_next HW7.out.2.1 HB10.out.2)
      rcases HF7.out.1 with ⟨h0, rfl⟩ | ⟨rfl, rs, hls, hok, hrow⟩
      · have k1 : (c != 0) = true := by simpa using h0
        clear h0
        go_wp2
        go_ret
        exact ⟨rfl, HB10.out.1⟩
      · subst hls
        have C20 : Hid (∀ A gv, Below W10.heap.size W10 A → GridAt A gv N (hasB es) → Calls Tryd.prog 20 #[gv, .slice xo xl xc] A fun e w' => ∃ y, e = .returned y ∧ Below A.heap.size A w' ∧ RowsAt w' y (castR (traceL (turnsR rs N) (nearBy N (natE es)) N).2) ∧ RowsAt w' z (castR (traceL (turnsR rs N) (nearBy N (natE es)) N).2)) := fun A gv hA hG =>
          (refFaces_as hG (HE.out.2.1.below (below_next HB10.out.1 hA)) HE.out.2.2.2.1 hok (Nat.le_trans (Nat.le_trans HF7.out.2 HB10.out.2.size) hA.size)).mono fun e w' ⟨y, h1, h2, h3, h4, h5⟩ => ⟨y, h1, h2, h3, ((hrow h4 h5).below (below_next HB10.out.2 (below_next hA h2)))⟩
        generalize castR (traceL (turnsR rs N) (nearBy N (natE es)) N).2 = ol at C20
        clear hrow hok
        obtain ⟨q4, q5⟩ := cell_two (two_next HW7.out.2.2.1 HB10.out.2)
        go_wp2_with (first
          | (go_at_call 11; refine Calls.mono (C11.out _ HB10.out.1) ?_; rintro e W11 ⟨gv, rfl, h11, hG⟩)
          | (go_at_call 20; refine Calls.mono (C20.out _ gv h11 hG) ?_; rintro e W12 ⟨y, rfl, h12, hy, hz⟩)
          | (go_at_call 19; refine Calls.mono (lists_true z y ol W12 hz hy) ?_; rintro e W13 ⟨rfl, m, rfl⟩)
          | go_in)
        go_ret
        exact ⟨rfl, below_drewN (below_next HB10.out.1 (below_next h11 h12)) _⟩
end Go.Proofs.YtekokjechbibdaaDoor
