/- What deeds build: names, edges, what takes them back. -/
import Derived.Test.YtfdlndljpmamgaaUndoW
import Derived.Test.YtfdlndljpmamgaaOfP
import Derived.Test.YtfdlndljpmamgaaGrphW
namespace Go.Proofs.Ytfdlndljpmamgaa
set_option maxRecDepth 8000
/-- A deed: its kind and its names. -/
structure Dd where
  k : Nat
  a : ByteArray
  b : ByteArray
abbrev noE : Ed := fun _ _ => false
/-- The lesser and the greater place of two names. -/
abbrev lo (L : List ByteArray) (d : Dd) : Nat := min (idx L d.a) (idx L d.b)
abbrev hi (L : List ByteArray) (d : Dd) : Nat := max (idx L d.a) (idx L d.b)
/-- Does a deed about an edge name two nodes, not one of them twice? -/
def okN (L : List ByteArray) (d : Dd) : Prop := d.a ∈ L ∧ d.b ∈ L ∧ d.a ≠ d.b
inductive Dn : List Dd → List ByteArray → Ed → List Ck → Prop
  | nil : Dn [] [] noE []
  | node {ds : List Dd} {L : List ByteArray} {E : Ed} {K : List Ck} (a : ByteArray) (h : Dn ds L E K) (ha : ¬ a ∈ L) (hs : a.size ≤ maxLen) (hL : L.length < 100) : Dn (ds ++ [⟨1, a, .empty⟩]) (L ++ [a]) E (K ++ [none])
  | edge {ds : List Dd} {L : List ByteArray} {E : Ed} {K : List Ck} (d : Dd) (h : Dn ds L E K) (hk : d.k = 2) (hd : okN L d) (hE : E (lo L d) (hi L d) = false) : Dn (ds ++ [d]) L (updE E (lo L d) (hi L d) true) (K ++ [some (true, lo L d, hi L d)])
  | cut {ds : List Dd} {L : List ByteArray} {E : Ed} {K : List Ck} (d : Dd) (h : Dn ds L E K) (hk : d.k = 3) (hd : okN L d) (hE : E (lo L d) (hi L d) = true) : Dn (ds ++ [d]) L (updE E (lo L d) (hi L d) false) (K ++ [some (false, lo L d, hi L d)])
theorem lo_hi {L : List ByteArray} {d : Dd} (h : okN L d) : lo L d < hi L d ∧ hi L d < L.length := by
  have h1 := idx_mem.2 h.1
  have h2 := idx_mem.2 h.2.1
  have h3 : idx L d.a ≠ idx L d.b := fun e => h.2.2 (idx_inj h.1 h.2.1 e)
  unfold lo hi
  omega
theorem Dn.len {ds : List Dd} {L : List ByteArray} {E : Ed} {K : List Ck} (h : Dn ds L E K) : K.length = ds.length ∧ L.length ≤ ds.length ∧ L.length ≤ 100 := by
  induction h with
  | nil => simp
  | node a h ha hs hL ih => simp; omega
  | edge d h hk hd hE ih => simp; omega
  | cut d h hk hd hE ih => simp; omega
theorem updE_true {E : Ed} {u v x y : Nat} {b : Bool} (h : updE E u v b x y = true) : (x = u ∧ y = v ∧ b = true) ∨ E x y = true := by
  unfold updE at h
  split at h
  · rename_i e; exact Or.inl ⟨e.1, e.2, h⟩
  · exact Or.inr h
theorem Dn.ed {ds : List Dd} {L : List ByteArray} {E : Ed} {K : List Ck} (h : Dn ds L E K) : EdOk L.length E := by
  induction h with
  | nil => intro u v h; cases h
  | node a h ha hs hL ih => intro u v h; have := ih u v h; simp; omega
  | edge d h hk hd hE ih =>
    intro u v h
    rcases updE_true h with ⟨rfl, rfl, _⟩ | h
    · exact lo_hi hd
    · exact ih u v h
  | cut d h hk hd hE ih =>
    intro u v h
    rcases updE_true h with ⟨rfl, rfl, _⟩ | h
    · exact lo_hi hd
    · exact ih u v h
/-- What the deeds name stands. -/
theorem Dn.names {ds : List Dd} {L : List ByteArray} {E : Ed} {K : List Ck} (h : Dn ds L E K) : ∀ d ∈ ds, (d.k = 1 ∧ d.a ∈ L) ∨ (d.k ≠ 1 ∧ okN L d) := by
  induction h with
  | nil => intro d hd; cases hd
  | node a h ha hs hL ih =>
    intro d hd
    rcases List.mem_append.1 hd with h | h
    · rcases ih d h with ⟨h1, h2⟩ | ⟨h1, h2, h3, h4⟩
      · exact Or.inl ⟨h1, List.mem_append_left _ h2⟩
      · exact Or.inr ⟨h1, List.mem_append_left _ h2, List.mem_append_left _ h3, h4⟩
    · rw [List.mem_singleton] at h; subst h; exact Or.inl ⟨rfl, by simp⟩
  | edge d h hk hd hE ih =>
    intro x hx
    rcases List.mem_append.1 hx with h | h
    · exact ih x h
    · rw [List.mem_singleton] at h; subst h; exact Or.inr ⟨by omega, hd⟩
  | cut d h hk hd hE ih =>
    intro x hx
    rcases List.mem_append.1 hx with h | h
    · exact ih x h
    · rw [List.mem_singleton] at h; subst h; exact Or.inr ⟨by omega, hd⟩
/-- The names that deeds give. -/
def nmL (ds : List Dd) : List ByteArray := (ds.filter fun d => d.k == 1).map Dd.a
theorem nmL_snoc (ds : List Dd) (d : Dd) : nmL (ds ++ [d]) = if d.k = 1 then nmL ds ++ [d.a] else nmL ds := by
  unfold nmL
  by_cases h : d.k = 1 <;> simp [List.filter_append, h]
theorem Dn.nm {ds : List Dd} {L : List ByteArray} {E : Ed} {K : List Ck} (h : Dn ds L E K) : nmL ds = L := by
  induction h with
  | nil => rfl
  | node a h ha hs hL ih => rw [nmL_snoc, if_pos rfl, ih]
  | edge d h hk hd hE ih => rw [nmL_snoc, if_neg (by omega), ih]
  | cut d h hk hd hE ih => rw [nmL_snoc, if_neg (by omega), ih]
/-- The table that deeds build over names. -/
def putT (p : Int → Int → Bool) (u v : Int) (b : Bool) : Int → Int → Bool := fun x y => if (x = u ∧ y = v) ∨ (x = v ∧ y = u) then b else p x y
def tabS (L : List ByteArray) (p : Int → Int → Bool) (d : Dd) : Int → Int → Bool := if d.k = 1 then p else putT p (idx L d.a : Int) (idx L d.b : Int) (d.k == 2)
def tabL (L : List ByteArray) (ds : List Dd) : Int → Int → Bool := ds.foldl (tabS L) fun _ _ => false
theorem tabL_snoc (L : List ByteArray) (ds : List Dd) (d : Dd) : tabL L (ds ++ [d]) = tabS L (tabL L ds) d := by simp [tabL]
theorem tabL_grow {ds : List Dd} {L : List ByteArray} {E : Ed} {K : List Ck} (h : Dn ds L E K) (a : ByteArray) : tabL (L ++ [a]) ds = tabL L ds := by
  have h1 := h.names
  unfold tabL
  generalize (fun _ _ => false : Int → Int → Bool) = p0
  clear h
  induction ds generalizing p0 with
  | nil => rfl
  | cons d ds ih =>
    simp only [List.foldl_cons]
    have e : tabS (L ++ [a]) p0 d = tabS L p0 d := by
      unfold tabS
      rcases h1 d (by simp) with ⟨h, _⟩ | ⟨h, h2, h3, _⟩
      · rw [if_pos h, if_pos h]
      · rw [if_neg h, if_neg h, idx_app h2, idx_app h3]
    rw [e]
    exact ih (fun d hd => h1 d (List.mem_cons_of_mem _ hd)) _
theorem sym_put {E : Ed} (hE : ∀ u v, E u v = true → u < v) {i j : Nat} (hij : i ≠ j) (b : Bool) (u v : Nat) :
    (if (u = i ∧ v = j) ∨ (u = j ∧ v = i) then b else (E u v || E v u)) = (updE E (min i j) (max i j) b u v || updE E (min i j) (max i j) b v u) := by
  have hno : ∀ x y, y ≤ x → E x y = false := fun x y h => by
    cases e : E x y with
    | false => rfl
    | true => have := hE x y e; omega
  unfold updE
  by_cases h1 : u = min i j ∧ v = max i j
  · have h2 : ¬ (v = min i j ∧ u = max i j) := by omega
    have h3 : (u = i ∧ v = j) ∨ (u = j ∧ v = i) := by omega
    rw [if_pos h1, if_neg h2, if_pos h3, hno v u (by omega), Bool.or_false]
  · by_cases h2 : v = min i j ∧ u = max i j
    · have h3 : (u = i ∧ v = j) ∨ (u = j ∧ v = i) := by omega
      rw [if_neg h1, if_pos h2, if_pos h3, hno u v (by omega), Bool.false_or]
    · have h3 : ¬ ((u = i ∧ v = j) ∨ (u = j ∧ v = i)) := by omega
      rw [if_neg h1, if_neg h2, if_neg h3]
theorem putT_nat (p : Int → Int → Bool) (i j : Nat) (b : Bool) (u v : Nat) : putT p (i : Int) (j : Int) b (u : Int) (v : Int) = if (u = i ∧ v = j) ∨ (u = j ∧ v = i) then b else p (u : Int) (v : Int) := by
  unfold putT
  by_cases h : (u = i ∧ v = j) ∨ (u = j ∧ v = i)
  · rw [if_pos h, if_pos (by omega)]
  · rw [if_neg h, if_neg (by omega)]
theorem okN_ne {L : List ByteArray} {d : Dd} (h : okN L d) : idx L d.a ≠ idx L d.b := fun e => h.2.2 (idx_inj h.1 h.2.1 e)
/-- The table tells the edges. -/
theorem Dn.tab {ds : List Dd} {L : List ByteArray} {E : Ed} {K : List Ck} (h : Dn ds L E K) : ∀ u v : Nat, tabL L ds (u : Int) (v : Int) = (E u v || E v u) := by
  induction h with
  | nil => intro u v; rfl
  | node a h ha hs hL ih =>
    intro u v
    rw [tabL_snoc, tabL_grow h, tabS, if_pos rfl]
    exact ih u v
  | edge d h hk hd hE ih =>
    intro u v
    rw [tabL_snoc, tabS, if_neg (by omega), hk, putT_nat, ih u v]
    exact sym_put (fun u v h' => (h.ed u v h').1) (okN_ne hd) true u v
  | cut d h hk hd hE ih =>
    intro u v
    rw [tabL_snoc, tabS, if_neg (by omega), hk, putT_nat, ih u v]
    exact sym_put (fun u v h' => (h.ed u v h').1) (okN_ne hd) false u v
/-- As many edges as deeds, at the most. -/
theorem Dn.few {ds : List Dd} {L : List ByteArray} {E : Ed} {K : List Ck} (h : Dn ds L E K) : ∀ u v, E u v = true → ∃ d ∈ ds, d.k = 2 ∧ u = lo L d ∧ v = hi L d := by
  induction h with
  | nil => intro u v h; cases h
  | node a h ha hs hL ih =>
    intro u v he
    obtain ⟨d, h1, h2, h3, h4⟩ := ih u v he
    have h5 := h.names d h1
    rcases h5 with ⟨h5, _⟩ | ⟨_, h5, h6, _⟩
    · omega
    · exact ⟨d, List.mem_append_left _ h1, h2, by rw [h3]; unfold lo; rw [idx_app h5, idx_app h6], by rw [h4]; unfold hi; rw [idx_app h5, idx_app h6]⟩
  | edge d h hk hd hE ih =>
    intro u v he
    rcases updE_true he with ⟨rfl, rfl, _⟩ | he
    · exact ⟨d, by simp, hk, rfl, rfl⟩
    · obtain ⟨x, h1, h2⟩ := ih u v he
      exact ⟨x, List.mem_append_left _ h1, h2⟩
  | cut d h hk hd hE ih =>
    intro u v he
    rcases updE_true he with ⟨_, _, h⟩ | he
    · cases h
    · obtain ⟨x, h1, h2⟩ := ih u v he
      exact ⟨x, List.mem_append_left _ h1, h2⟩
theorem Dn.count {ds : List Dd} {L : List ByteArray} {E : Ed} {K : List Ck} (h : Dn ds L E K) : (allP L.length (eB E)).length ≤ ds.length := by
  have h1 := nodup_len (allP L.length (eB E)) (ds.map fun d => ((lo L d : Int), (hi L d : Int))) (allP_nodup _ _) (fun e he => by
    obtain ⟨u, v, _, _, h3, rfl⟩ := allP_mem.1 he
    obtain ⟨d, h4, _, h5, h6⟩ := h.few u v (by simpa [eB] using h3)
    exact List.mem_map.2 ⟨d, h4, by rw [h5, h6]⟩)
  simpa using h1
/-- The deeds without the last one. -/
theorem Dn.back {es : List Dd} {L : List ByteArray} {E : Ed} {K : List Ck} (h : Dn es L E K) (hne : es ≠ []) :
    ∃ ds d L0 E0 K0 c, es = ds ++ [d] ∧ K = K0 ++ [c] ∧ Dn ds L0 E0 K0 ∧
      ((c = none ∧ E = E0 ∧ ∃ s, L = L0 ++ [s] ∧ ¬ s ∈ L0 ∧ s.size ≤ maxLen) ∨ (∃ u v, c = some (true, u, v) ∧ L = L0 ∧ v < L.length ∧ u < v ∧ updE E u v false = E0) ∨ (∃ u v, c = some (false, u, v) ∧ L = L0 ∧ v < L.length ∧ u < v ∧ updE E u v true = E0)) := by
  have hup : ∀ (E : Ed) (u v : Nat) (b b' : Bool), E u v = b' → updE (updE E u v b) u v b' = E := fun E u v b b' h => by
    funext x y
    unfold updE
    by_cases e : x = u ∧ y = v
    · rw [if_pos e, e.1, e.2, h]
    · rw [if_neg e, if_neg e]
  cases h with
  | nil => exact absurd rfl hne
  | node a h ha hs hL => exact ⟨_, _, _, _, _, _, rfl, rfl, h, Or.inl ⟨rfl, rfl, a, rfl, ha, hs⟩⟩
  | edge d h hk hd hE => exact ⟨_, _, _, _, _, _, rfl, rfl, h, Or.inr (Or.inl ⟨_, _, rfl, rfl, (lo_hi hd).2, (lo_hi hd).1, hup _ _ _ _ _ hE⟩)⟩
  | cut d h hk hd hE => exact ⟨_, _, _, _, _, _, rfl, rfl, h, Or.inr (Or.inr ⟨_, _, rfl, rfl, (lo_hi hd).2, (lo_hi hd).1, hup _ _ _ _ _ hE⟩)⟩
/-- The fault of a deed. -/
def deedF (L : List ByteArray) (E : Ed) (d : Dd) : Int × Int :=
  if d.k = 1 then (nodeF L d.a, 0) else if idx L d.a = L.length then (10, 0) else if idx L d.b = L.length then (10, 1)
  else if d.k = 3 then (if E (lo L d) (hi L d) = true then 0 else 9, 0)
  else (if idx L d.a = idx L d.b then 4 else if E (lo L d) (hi L d) = true then 5 else 0, 0)
end Go.Proofs.Ytfdlndljpmamgaa
