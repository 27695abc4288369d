/- The links between edges that ringed makes: plain mathematics. -/
import Derived.Test.YtgepibidhebbiabForms
namespace Go.Proofs.Ytgepibidhebbiab

abbrev LkS (es : List Pair) (lk : Nat → Nat → Bool) : Nat → Nat → Prop := St es.length lk allB
abbrev LkF (m : Nat) (es : List Pair) : Nat → Nat → Prop := Lk es.length (Ef m es) (elf es)

structure Lks (m : Nat) (es : List Pair) (lk : Nat → Nat → Bool) : Prop where
  sym : ∀ a b, lk a b = true → lk b a = true
  sound : ∀ a b, lk a b = true → LkF m es a b

def lkAdd (lk : Nat → Nat → Bool) (s a : Nat) : Nat → Nat → Bool := fun x y => (x == a && y == s) || ((x == s && y == a) || lk x y)
def Sub (lk lk' : Nat → Nat → Bool) : Prop := ∀ a b, lk a b = true → lk' a b = true
theorem sub_add (lk : Nat → Nat → Bool) (s a : Nat) : Sub lk (lkAdd lk s a) := fun x y h => by simp [lkAdd, h]
theorem Sub.refl (lk : Nat → Nat → Bool) : Sub lk lk := fun _ _ h => h
theorem Sub.trans {a b c : Nat → Nat → Bool} (h : Sub a b) (h2 : Sub b c) : Sub a c := fun x y hx => h2 x y (h x y hx)
theorem Sub.star {es : List Pair} {lk lk' : Nat → Nat → Bool} (h : Sub lk lk') {i j : Nat} (hs : Star (LkS es lk) i j) : Star (LkS es lk') i j := hs.mono fun a b hab => ⟨hab.1, h a b hab.2.1, hab.2.2⟩

theorem Lks.add {m : Nat} {es : List Pair} {lk : Nat → Nat → Bool} (hf : Formed m es) (h : Lks m es lk) {s a : Nat} (hl : LkF m es s a) : Lks m es (lkAdd lk s a) := by
  have hl' := link_symm (ef_gr hf) (ef_edges hf) _ _ hl
  refine ⟨fun x y hx => ?_, fun x y hx => ?_⟩
  · simp [lkAdd] at hx ⊢
    rcases hx with ⟨rfl, rfl⟩ | ⟨rfl, rfl⟩ | hx
    · simp
    · simp
    · simp [h.sym x y hx]
  · simp [lkAdd] at hx
    rcases hx with ⟨rfl, rfl⟩ | ⟨rfl, rfl⟩ | hx
    · exact hl'
    · exact hl
    · exact h.sound x y hx

theorem lks_symm {m : Nat} {es : List Pair} {lk : Nat → Nat → Bool} (h : Lks m es lk) {i j : Nat} (hi : i < es.length) (hs : Star (LkS es lk) i j) : Star (LkS es lk) j i :=
  (St.back (fun a b _ _ hab => h.sym a b hab) hs hi rfl).1

/-- All edges at v whose other ends are in l hang together. -/
def Est (es : List Pair) (lk : Nat → Nat → Bool) (v : Nat) (l : List Nat) : Prop :=
  ∀ u w i j, u ∈ l → w ∈ l → i < es.length → j < es.length → Inc (elf es) i v u → Inc (elf es) j v w → Star (LkS es lk) i j
theorem Est.sub {es : List Pair} {lk lk' : Nat → Nat → Bool} {v : Nat} {l : List Nat} (h : Est es lk v l) (hs : Sub lk lk') : Est es lk' v l := fun u w i j h1 h2 h3 h4 h5 h6 => hs.star (h u w i j h1 h2 h3 h4 h5 h6)
def EstAll (m : Nat) (es : List Pair) (lk : Nat → Nat → Bool) (k : Nat) : Prop :=
  ∀ v u w i j, v < k → i < es.length → j < es.length → Inc (elf es) i v u → Inc (elf es) j v w → Con (Ef m es) v u w → Star (LkS es lk) i j
theorem EstAll.sub {m : Nat} {es : List Pair} {lk lk' : Nat → Nat → Bool} {k : Nat} (h : EstAll m es lk k) (hs : Sub lk lk') : EstAll m es lk' k := fun v u w i j h1 h2 h3 h4 h5 h6 => hs.star (h v u w i j h1 h2 h3 h4 h5 h6)

/-- How the chain through the first t of l stands. -/
def Chain (es : List Pair) (lk : Nat → Nat → Bool) (v : Nat) (l : List Nat) (t : Nat) (la : Int) : Prop :=
  (la = -1 ∧ ∀ u, u ∈ l.take t → ∀ i, i < es.length → ¬ Inc (elf es) i v u) ∨
  (∃ s u0, s < es.length ∧ la = (s : Int) ∧ u0 ∈ l.take t ∧ Inc (elf es) s v u0 ∧ ∀ u, u ∈ l.take t → ∀ i, i < es.length → Inc (elf es) i v u → Star (LkS es lk) i s)
theorem chain_start (es : List Pair) (lk : Nat → Nat → Bool) (v : Nat) (l : List Nat) : Chain es lk v l 0 (-1) := Or.inl ⟨rfl, by simp⟩
theorem take_at {l : List Nat} {t u : Nat} (h : l[t]? = some u) : l.take (t + 1) = l.take t ++ [u] := by
  obtain ⟨h1, h2⟩ := List.getElem?_eq_some_iff.1 h
  rw [List.take_succ_eq_append_getElem h1, h2]
theorem Chain.skip {es : List Pair} {lk : Nat → Nat → Bool} {v t u : Nat} {l : List Nat} {la : Int} (h : Chain es lk v l t la) (hu : l[t]? = some u) (hno : ∀ i, i < es.length → ¬ Inc (elf es) i v u) : Chain es lk v l (t + 1) la := by
  unfold Chain at *
  rw [take_at hu]
  rcases h with ⟨h1, h2⟩ | ⟨s, u0, h1, h2, h3, h4, h5⟩
  · refine Or.inl ⟨h1, fun x hx i hi => ?_⟩
    rcases List.mem_append.1 hx with hx | hx
    · exact h2 x hx i hi
    · simp at hx; subst hx; exact hno i hi
  · refine Or.inr ⟨s, u0, h1, h2, by simp [h3], h4, fun x hx i hi hinc => ?_⟩
    rcases List.mem_append.1 hx with hx | hx
    · exact h5 x hx i hi hinc
    · simp at hx; subst hx; exact absurd hinc (hno i hi)

theorem inc_uniq {m : Nat} {es : List Pair} (hf : Formed m es) {i j v u : Nat} (hi : i < es.length) (hj : j < es.length) (h1 : Inc (elf es) i v u) (h2 : Inc (elf es) j v u) : i = j :=
  hf.inj ((inc_iff hf hi v u).1 h1) ((inc_iff hf hj v u).1 h2)

theorem Chain.first {m : Nat} {es : List Pair} (hf : Formed m es) {lk : Nat → Nat → Bool} {v t u a : Nat} {l : List Nat} (h : Chain es lk v l t (-1)) (hu : l[t]? = some u) (ha : a < es.length) (hinc : Inc (elf es) a v u) : Chain es lk v l (t + 1) (a : Int) := by
  unfold Chain at *
  rw [take_at hu]
  rcases h with ⟨h1, h2⟩ | ⟨s, u0, h1, h2, h3, h4, h5⟩
  · refine Or.inr ⟨a, u, ha, rfl, by simp, hinc, fun x hx i hi hix => ?_⟩
    rcases List.mem_append.1 hx with hx | hx
    · exact absurd hix (h2 x hx i hi)
    · simp at hx; subst hx; rw [inc_uniq hf hi ha hix hinc]; exact .refl _
  · omega

theorem Chain.more {m : Nat} {es : List Pair} (hf : Formed m es) {lk : Nat → Nat → Bool} {v t u a s : Nat} {l : List Nat} (h : Chain es lk v l t (s : Int)) (hu : l[t]? = some u) (ha : a < es.length) (hinc : Inc (elf es) a v u) : Chain es (lkAdd lk s a) v l (t + 1) (a : Int) := by
  unfold Chain at *
  rw [take_at hu]
  rcases h with ⟨h1, h2⟩ | ⟨s', u0, h1, h2, h3, h4, h5⟩
  · omega
  · obtain rfl : s = s' := by omega
    refine Or.inr ⟨a, u, ha, rfl, by simp, hinc, fun x hx i hi hix => ?_⟩
    rcases List.mem_append.1 hx with hx | hx
    · exact ((sub_add lk s a).star (h5 x hx i hi hix)).step ⟨ha, by simp [lkAdd], rfl⟩
    · simp at hx; subst hx; rw [inc_uniq hf hi ha hix hinc]; exact .refl _
theorem Chain.node {es : List Pair} {lk : Nat → Nat → Bool} {v t s : Nat} {l : List Nat} (h : Chain es lk v l t (s : Int)) : s < es.length ∧ ∃ u0, u0 ∈ l ∧ Inc (elf es) s v u0 := by
  rcases h with ⟨h1, h2⟩ | ⟨s', u0, h1, h2, h3, h4, h5⟩
  · omega
  · obtain rfl : s = s' := by omega
    exact ⟨h1, u0, List.mem_of_mem_take h3, h4⟩
theorem Chain.done {m : Nat} {es : List Pair} {lk : Nat → Nat → Bool} {v : Nat} {l : List Nat} {la : Int} (hl : Lks m es lk) (h : Chain es lk v l l.length la) : Est es lk v l := by
  unfold Chain at h
  rw [List.take_length] at h
  intro u w i j hu hw hi hj h1 h2
  rcases h with ⟨_, h3⟩ | ⟨s, u0, hs, _, _, _, h5⟩
  · exact absurd h1 (h3 u hu i hi)
  · exact (h5 u hu i hi h1).trans (lks_symm hl hj (h5 w hw j hj h2))

theorem con_st {m : Nat} {es : List Pair} {v x y : Nat} (hx : x < m) : Star (St m (bothB es) (notB v)) x y ↔ Con (Ef m es) v x y := by
  constructor
  · intro h
    exact (Star.within (P := fun a => a < m) (f := fun a b => Ef m es a b ∧ b ≠ v) (fun a b ha hab => ⟨hab.1, ⟨ha, hab.1, hab.2.1⟩, by have := hab.2.2; simpa [notB] using this⟩) h hx).2
  · intro h
    exact h.mono fun a b hab => ⟨hab.1.2.1, hab.1.2.2, by simpa [notB] using hab.2⟩

/-- The nodes of a piece of what is left without v. -/
theorem piece_con {m : Nat} {es : List Pair} (hf : Formed m es) {v : Nat} {R : Nat → Nat → Bool} (hR : ∀ x y, R x y = true ↔ Star (St m (bothB es) (notB v)) x y) {q : Nat} {l : List Nat} (hl : (piecesS m (notB v) R)[q]? = some l) {u w : Nat} (hu : u ∈ l) (hw : w ∈ l) : u < m ∧ Con (Ef m es) v u w := by
  have := List.mem_of_getElem? hl
  simp only [piecesS, piecesTo, List.mem_map, List.mem_filter, List.mem_range] at this
  obtain ⟨r, ⟨hr, hfr⟩, rfl⟩ := this
  simp only [classL, List.mem_filter, List.mem_range] at hu hw
  have hrv : r ≠ v := by have := (firstB_iff.1 hfr).1; simpa [notB] using this
  have h1 := (con_st (es := es) hr).1 ((hR _ _).1 hu.2)
  have h2 := (con_st (es := es) hr).1 ((hR _ _).1 hw.2)
  exact ⟨hu.1, (Con.back (ef_gr hf) h1 hrv).1.trans h2⟩
theorem piece_ex {m : Nat} {es : List Pair} (_hf : Formed m es) {v : Nat} {R : Nat → Nat → Bool} (hR : ∀ x y, R x y = true ↔ Star (St m (bothB es) (notB v)) x y) {u w : Nat} (hu : u < m) (hw : w < m) (huv : u ≠ v) (h : Con (Ef m es) v u w) : ∃ (q : Nat) (l : List Nat), (piecesS m (notB v) R)[q]? = some l ∧ u ∈ l ∧ w ∈ l := by
  obtain ⟨r, hru, ⟨hrv, hc⟩, hleast⟩ := least_ex (P := fun x => x ≠ v ∧ Con (Ef m es) v x u) (v := u) ⟨huv, .refl _⟩
  have hr : r < m := by omega
  have hmem : classL m R r ∈ piecesS m (notB v) R := by
    simp only [piecesS, piecesTo, List.mem_map, List.mem_filter, List.mem_range]
    refine ⟨r, ⟨hr, firstB_iff.2 ⟨by simpa [notB] using hrv, fun x hx hxv => ?_⟩⟩, rfl⟩
    cases hxr : R x r
    · rfl
    · exact absurd ⟨by simpa [notB] using hxv, ((con_st (es := es) (by omega)).1 ((hR _ _).1 hxr)).trans hc⟩ (hleast x hx)
  obtain ⟨q, hq⟩ := List.mem_iff_getElem?.1 hmem
  refine ⟨q, _, hq, ?_, ?_⟩
  · simp only [classL, List.mem_filter, List.mem_range]; exact ⟨hu, (hR _ _).2 ((con_st hr).2 hc)⟩
  · simp only [classL, List.mem_filter, List.mem_range]; exact ⟨hw, (hR _ _).2 ((con_st hr).2 (hc.trans h))⟩

theorem EstAll.next {m : Nat} {es : List Pair} (hf : Formed m es) {lk : Nat → Nat → Bool} {v : Nat} {R : Nat → Nat → Bool} (hR : ∀ x y, R x y = true ↔ Star (St m (bothB es) (notB v)) x y) (h : EstAll m es lk v) (hp : ∀ (q : Nat) (l : List Nat), (piecesS m (notB v) R)[q]? = some l → Est es lk v l) : EstAll m es lk (v + 1) := by
  intro v' u w i j hv hi hj h1 h2 hc
  by_cases e : v' = v
  · subst e
    have hu := h1.edge (ef_gr hf) (ef_edges hf) hi
    have hw := h2.edge (ef_gr hf) (ef_edges hf) hj
    obtain ⟨q, l, hq, hul, hwl⟩ := piece_ex hf hR hu.1.2.1 hw.1.2.1 (fun e => hu.2 e.symm) hc
    exact hp q l hq u w i j hul hwl hi hj h1 h2
  · exact h v' u w i j (by omega) hi hj h1 h2 hc

/-- At the end the links make just the blocks. -/
theorem links_blocks {m : Nat} {es : List Pair} (hf : Formed m es) {lk : Nat → Nat → Bool} (hl : Lks m es lk) (h : EstAll m es lk m) {i : Nat} (hi : i < es.length) (j : Nat) : Star (LkS es lk) i j ↔ Star (LkF m es) i j := by
  constructor
  · exact Star.mono fun a b hab => hl.sound a b hab.2.1
  · intro hs
    refine (Star.within (P := fun x => x < es.length ∧ Star (LkS es lk) i x) (f := fun _ _ => True) (fun a b ha hab => ?_) hs ⟨hi, .refl _⟩).1.2
    obtain ⟨h1, h2, v, u, w, h3, h4, h5⟩ := hab
    have hv := (h3.edge (ef_gr hf) (ef_edges hf) h1).1.1
    exact ⟨⟨h2, ha.2.trans (h v u w a b hv h1 h2 h3 h4 h5)⟩, trivial⟩

theorem piecesS_congr {N : Nat} {L : Nat → Bool} {R R' : Nat → Nat → Bool} (h : ∀ v x, v < N → x < N → R v x = R' v x) : piecesS N L R = piecesS N L R' := by
  unfold piecesS piecesTo
  have e1 : (List.range N).filter (firstB L R) = (List.range N).filter (firstB L R') := List.filter_congr fun v hv => by
    simp at hv
    rw [Bool.eq_iff_iff, firstB_iff, firstB_iff]
    constructor
    · rintro ⟨h1, h2⟩; exact ⟨h1, fun u hu hl => by rw [← h u v (by omega) hv]; exact h2 u hu hl⟩
    · rintro ⟨h1, h2⟩; exact ⟨h1, fun u hu hl => by rw [h u v (by omega) hv]; exact h2 u hu hl⟩
  rw [e1]
  refine List.map_congr_left fun v hv => ?_
  have hv' : v < N := by
    have := (List.mem_filter.1 hv).1
    simpa using this
  exact List.filter_congr fun x hx => h v x hv' (by simpa using hx)
end Go.Proofs.Ytgepibidhebbiab
