/- The links between edges that ringed makes: plain mathematics. ringed: of each edge some that are in one ring with it. Blocks of package parts. Bridges of package parts. nodesOf and Cuts of package parts. -/
import Derived.Test.YtenjkhgpfmfgmaaDoorCompF
namespace Go.Proofs.YtenjkhgpfmfgmaaDoor

abbrev LkS (es : List Pair) (lk : Nat → Nat → Bool) : Nat → Nat → Prop := St es.length lk allB
abbrev LkF (m : Nat) (es : List Pair) : Nat → Nat → Prop := Lk es.length (Ef m es) (elf es)

structure Lks (m : Nat) (es : List Pair) (lk : Nat → Nat → Bool) : Prop where
  sym : ∀ a b, lk a b = true → lk b a = true
  sound : ∀ a b, lk a b = true → LkF m es a b

def lkAdd (lk : Nat → Nat → Bool) (s a : Nat) : Nat → Nat → Bool := fun x y => (x == a && y == s) || ((x == s && y == a) || lk x y)
def Sub (lk lk' : Nat → Nat → Bool) : Prop := ∀ a b, lk a b = true → lk' a b = true
theorem sub_add (lk : Nat → Nat → Bool) (s a : Nat) : Sub lk (lkAdd lk s a) := fun x y h => by simp [lkAdd, h]
theorem Sub.refl (lk : Nat → Nat → Bool) : Sub lk lk := fun _ _ h => h
theorem Sub.trans {a b c : Nat → Nat → Bool} (h : Sub a b) (h2 : Sub b c) : Sub a c := fun x y hx => h2 x y (h x y hx)
theorem Sub.star {es : List Pair} {lk lk' : Nat → Nat → Bool} (h : Sub lk lk') {i j : Nat} (hs : Star (LkS es lk) i j) : Star (LkS es lk') i j := hs.mono fun a b hab => ⟨hab.1, h a b hab.2.1, hab.2.2⟩

theorem Lks.add {m : Nat} {es : List Pair} {lk : Nat → Nat → Bool} (hf : Formed m es) (h : Lks m es lk) {s a : Nat} (hl : LkF m es s a) : Lks m es (lkAdd lk s a) := by
  have hl' := link_symm (ef_gr hf) (ef_edges hf) _ _ hl
  refine ⟨fun x y hx => ?_, fun x y hx => ?_⟩
  · simp [lkAdd] at hx ⊢
    rcases hx with ⟨rfl, rfl⟩ | ⟨rfl, rfl⟩ | hx
    · simp
    · simp
    · simp [h.sym x y hx]
  · simp [lkAdd] at hx
    rcases hx with ⟨rfl, rfl⟩ | ⟨rfl, rfl⟩ | hx
    · exact hl'
    · exact hl
    · exact h.sound x y hx

theorem lks_symm {m : Nat} {es : List Pair} {lk : Nat → Nat → Bool} (h : Lks m es lk) {i j : Nat} (hi : i < es.length) (hs : Star (LkS es lk) i j) : Star (LkS es lk) j i :=
  (St.back (fun a b _ _ hab => h.sym a b hab) hs hi rfl).1

/-- All edges at v whose other ends are in l hang together. -/
def Est (es : List Pair) (lk : Nat → Nat → Bool) (v : Nat) (l : List Nat) : Prop :=
  ∀ u w i j, u ∈ l → w ∈ l → i < es.length → j < es.length → Inc (elf es) i v u → Inc (elf es) j v w → Star (LkS es lk) i j
theorem Est.sub {es : List Pair} {lk lk' : Nat → Nat → Bool} {v : Nat} {l : List Nat} (h : Est es lk v l) (hs : Sub lk lk') : Est es lk' v l := fun u w i j h1 h2 h3 h4 h5 h6 => hs.star (h u w i j h1 h2 h3 h4 h5 h6)
def EstAll (m : Nat) (es : List Pair) (lk : Nat → Nat → Bool) (k : Nat) : Prop :=
  ∀ v u w i j, v < k → i < es.length → j < es.length → Inc (elf es) i v u → Inc (elf es) j v w → Con (Ef m es) v u w → Star (LkS es lk) i j
theorem EstAll.sub {m : Nat} {es : List Pair} {lk lk' : Nat → Nat → Bool} {k : Nat} (h : EstAll m es lk k) (hs : Sub lk lk') : EstAll m es lk' k := fun v u w i j h1 h2 h3 h4 h5 h6 => hs.star (h v u w i j h1 h2 h3 h4 h5 h6)

/-- How the chain through the first t of l stands. -/
def LChain (es : List Pair) (lk : Nat → Nat → Bool) (v : Nat) (l : List Nat) (t : Nat) (la : Int) : Prop :=
  (la = -1 ∧ ∀ u, u ∈ l.take t → ∀ i, i < es.length → ¬ Inc (elf es) i v u) ∨
  (∃ s u0, s < es.length ∧ la = (s : Int) ∧ u0 ∈ l.take t ∧ Inc (elf es) s v u0 ∧ ∀ u, u ∈ l.take t → ∀ i, i < es.length → Inc (elf es) i v u → Star (LkS es lk) i s)
theorem chain_start (es : List Pair) (lk : Nat → Nat → Bool) (v : Nat) (l : List Nat) : LChain es lk v l 0 (-1) := Or.inl ⟨rfl, by simp⟩
theorem take_at {l : List Nat} {t u : Nat} (h : l[t]? = some u) : l.take (t + 1) = l.take t ++ [u] := by
  obtain ⟨h1, h2⟩ := List.getElem?_eq_some_iff.1 h
  rw [List.take_succ_eq_append_getElem h1, h2]
theorem LChain.skip {es : List Pair} {lk : Nat → Nat → Bool} {v t u : Nat} {l : List Nat} {la : Int} (h : LChain es lk v l t la) (hu : l[t]? = some u) (hno : ∀ i, i < es.length → ¬ Inc (elf es) i v u) : LChain es lk v l (t + 1) la := by
  unfold LChain at *
  rw [take_at hu]
  rcases h with ⟨h1, h2⟩ | ⟨s, u0, h1, h2, h3, h4, h5⟩
  · refine Or.inl ⟨h1, fun x hx i hi => ?_⟩
    rcases List.mem_append.1 hx with hx | hx
    · exact h2 x hx i hi
    · simp at hx; subst hx; exact hno i hi
  · refine Or.inr ⟨s, u0, h1, h2, by simp [h3], h4, fun x hx i hi hinc => ?_⟩
    rcases List.mem_append.1 hx with hx | hx
    · exact h5 x hx i hi hinc
    · simp at hx; subst hx; exact absurd hinc (hno i hi)

theorem inc_uniq {m : Nat} {es : List Pair} (hf : Formed m es) {i j v u : Nat} (hi : i < es.length) (hj : j < es.length) (h1 : Inc (elf es) i v u) (h2 : Inc (elf es) j v u) : i = j :=
  hf.inj ((inc_iff hf hi v u).1 h1) ((inc_iff hf hj v u).1 h2)

theorem LChain.first {m : Nat} {es : List Pair} (hf : Formed m es) {lk : Nat → Nat → Bool} {v t u a : Nat} {l : List Nat} (h : LChain es lk v l t (-1)) (hu : l[t]? = some u) (ha : a < es.length) (hinc : Inc (elf es) a v u) : LChain es lk v l (t + 1) (a : Int) := by
  unfold LChain at *
  rw [take_at hu]
  rcases h with ⟨h1, h2⟩ | ⟨s, u0, h1, h2, h3, h4, h5⟩
  · refine Or.inr ⟨a, u, ha, rfl, by simp, hinc, fun x hx i hi hix => ?_⟩
    rcases List.mem_append.1 hx with hx | hx
    · exact absurd hix (h2 x hx i hi)
    · simp at hx; subst hx; rw [inc_uniq hf hi ha hix hinc]; exact .refl _
  · omega

theorem LChain.more {m : Nat} {es : List Pair} (hf : Formed m es) {lk : Nat → Nat → Bool} {v t u a s : Nat} {l : List Nat} (h : LChain es lk v l t (s : Int)) (hu : l[t]? = some u) (ha : a < es.length) (hinc : Inc (elf es) a v u) : LChain es (lkAdd lk s a) v l (t + 1) (a : Int) := by
  unfold LChain at *
  rw [take_at hu]
  rcases h with ⟨h1, h2⟩ | ⟨s', u0, h1, h2, h3, h4, h5⟩
  · omega
  · obtain rfl : s = s' := by omega
    refine Or.inr ⟨a, u, ha, rfl, by simp, hinc, fun x hx i hi hix => ?_⟩
    rcases List.mem_append.1 hx with hx | hx
    · exact ((sub_add lk s a).star (h5 x hx i hi hix)).step ⟨ha, by simp [lkAdd], rfl⟩
    · simp at hx; subst hx; rw [inc_uniq hf hi ha hix hinc]; exact .refl _
theorem LChain.node {es : List Pair} {lk : Nat → Nat → Bool} {v t s : Nat} {l : List Nat} (h : LChain es lk v l t (s : Int)) : s < es.length ∧ ∃ u0, u0 ∈ l ∧ Inc (elf es) s v u0 := by
  rcases h with ⟨h1, h2⟩ | ⟨s', u0, h1, h2, h3, h4, h5⟩
  · omega
  · obtain rfl : s = s' := by omega
    exact ⟨h1, u0, List.mem_of_mem_take h3, h4⟩
theorem LChain.done {m : Nat} {es : List Pair} {lk : Nat → Nat → Bool} {v : Nat} {l : List Nat} {la : Int} (hl : Lks m es lk) (h : LChain es lk v l l.length la) : Est es lk v l := by
  unfold LChain at h
  rw [List.take_length] at h
  intro u w i j hu hw hi hj h1 h2
  rcases h with ⟨_, h3⟩ | ⟨s, u0, hs, _, _, _, h5⟩
  · exact absurd h1 (h3 u hu i hi)
  · exact (h5 u hu i hi h1).trans (lks_symm hl hj (h5 w hw j hj h2))

theorem con_st {m : Nat} {es : List Pair} {v x y : Nat} (hx : x < m) : Star (St m (bothB es) (notB v)) x y ↔ Con (Ef m es) v x y := by
  constructor
  · intro h
    exact (Star.within (P := fun a => a < m) (f := fun a b => Ef m es a b ∧ b ≠ v) (fun a b ha hab => ⟨hab.1, ⟨ha, hab.1, hab.2.1⟩, by have := hab.2.2; simpa [notB] using this⟩) h hx).2
  · intro h
    exact h.mono fun a b hab => ⟨hab.1.2.1, hab.1.2.2, by simpa [notB] using hab.2⟩

/-- The nodes of a piece of what is left without v. -/
theorem piece_con {m : Nat} {es : List Pair} (hf : Formed m es) {v : Nat} {R : Nat → Nat → Bool} (hR : ∀ x y, R x y = true ↔ Star (St m (bothB es) (notB v)) x y) {q : Nat} {l : List Nat} (hl : (piecesS m (notB v) R)[q]? = some l) {u w : Nat} (hu : u ∈ l) (hw : w ∈ l) : u < m ∧ Con (Ef m es) v u w := by
  have := List.mem_of_getElem? hl
  simp only [piecesS, piecesTo, List.mem_map, List.mem_filter, List.mem_range] at this
  obtain ⟨r, ⟨hr, hfr⟩, rfl⟩ := this
  simp only [classL, List.mem_filter, List.mem_range] at hu hw
  have hrv : r ≠ v := by have := (firstB_iff.1 hfr).1; simpa [notB] using this
  have h1 := (con_st (es := es) hr).1 ((hR _ _).1 hu.2)
  have h2 := (con_st (es := es) hr).1 ((hR _ _).1 hw.2)
  exact ⟨hu.1, (Con.back (ef_gr hf) h1 hrv).1.trans h2⟩
theorem piece_ex {m : Nat} {es : List Pair} (_hf : Formed m es) {v : Nat} {R : Nat → Nat → Bool} (hR : ∀ x y, R x y = true ↔ Star (St m (bothB es) (notB v)) x y) {u w : Nat} (hu : u < m) (hw : w < m) (huv : u ≠ v) (h : Con (Ef m es) v u w) : ∃ (q : Nat) (l : List Nat), (piecesS m (notB v) R)[q]? = some l ∧ u ∈ l ∧ w ∈ l := by
  obtain ⟨r, hru, ⟨hrv, hc⟩, hleast⟩ := least_ex (P := fun x => x ≠ v ∧ Con (Ef m es) v x u) (v := u) ⟨huv, .refl _⟩
  have hr : r < m := by omega
  have hmem : classL m R r ∈ piecesS m (notB v) R := by
    simp only [piecesS, piecesTo, List.mem_map, List.mem_filter, List.mem_range]
    refine ⟨r, ⟨hr, firstB_iff.2 ⟨by simpa [notB] using hrv, fun x hx hxv => ?_⟩⟩, rfl⟩
    cases hxr : R x r
    · rfl
    · exact absurd ⟨by simpa [notB] using hxv, ((con_st (es := es) (by omega)).1 ((hR _ _).1 hxr)).trans hc⟩ (hleast x hx)
  obtain ⟨q, hq⟩ := List.mem_iff_getElem?.1 hmem
  refine ⟨q, _, hq, ?_, ?_⟩
  · simp only [classL, List.mem_filter, List.mem_range]; exact ⟨hu, (hR _ _).2 ((con_st hr).2 hc)⟩
  · simp only [classL, List.mem_filter, List.mem_range]; exact ⟨hw, (hR _ _).2 ((con_st hr).2 (hc.trans h))⟩

theorem EstAll.next {m : Nat} {es : List Pair} (hf : Formed m es) {lk : Nat → Nat → Bool} {v : Nat} {R : Nat → Nat → Bool} (hR : ∀ x y, R x y = true ↔ Star (St m (bothB es) (notB v)) x y) (h : EstAll m es lk v) (hp : ∀ (q : Nat) (l : List Nat), (piecesS m (notB v) R)[q]? = some l → Est es lk v l) : EstAll m es lk (v + 1) := by
  intro v' u w i j hv hi hj h1 h2 hc
  by_cases e : v' = v
  · subst e
    have hu := h1.edge (ef_gr hf) (ef_edges hf) hi
    have hw := h2.edge (ef_gr hf) (ef_edges hf) hj
    obtain ⟨q, l, hq, hul, hwl⟩ := piece_ex hf hR hu.1.2.1 hw.1.2.1 (fun e => hu.2 e.symm) hc
    exact hp q l hq u w i j hul hwl hi hj h1 h2
  · exact h v' u w i j (by omega) hi hj h1 h2 hc

/-- At the end the links make just the blocks. -/
theorem links_blocks {m : Nat} {es : List Pair} (hf : Formed m es) {lk : Nat → Nat → Bool} (hl : Lks m es lk) (h : EstAll m es lk m) {i : Nat} (hi : i < es.length) (j : Nat) : Star (LkS es lk) i j ↔ Star (LkF m es) i j := by
  constructor
  · exact Star.mono fun a b hab => hl.sound a b hab.2.1
  · intro hs
    refine (Star.within (P := fun x => x < es.length ∧ Star (LkS es lk) i x) (f := fun _ _ => True) (fun a b ha hab => ?_) hs ⟨hi, .refl _⟩).1.2
    obtain ⟨h1, h2, v, u, w, h3, h4, h5⟩ := hab
    have hv := (h3.edge (ef_gr hf) (ef_edges hf) h1).1.1
    exact ⟨⟨h2, ha.2.trans (h v u w a b hv h1 h2 h3 h4 h5)⟩, trivial⟩

theorem piecesS_congr {N : Nat} {L : Nat → Bool} {R R' : Nat → Nat → Bool} (h : ∀ v x, v < N → x < N → R v x = R' v x) : piecesS N L R = piecesS N L R' := by
  unfold piecesS piecesTo
  have e1 : (List.range N).filter (firstB L R) = (List.range N).filter (firstB L R') := List.filter_congr fun v hv => by
    simp at hv
    rw [Bool.eq_iff_iff, firstB_iff, firstB_iff]
    constructor
    · rintro ⟨h1, h2⟩; exact ⟨h1, fun u hu hl => by rw [← h u v (by omega) hv]; exact h2 u hu hl⟩
    · rintro ⟨h1, h2⟩; exact ⟨h1, fun u hu hl => by rw [h u v (by omega) hv]; exact h2 u hu hl⟩
  rw [e1]
  refine List.map_congr_left fun v hv => ?_
  have hv' : v < N := by
    have := (List.mem_filter.1 hv).1
    simpa using this
  exact List.filter_congr fun x hx => h v x hv' (by simpa using hx)
end Go.Proofs.YtenjkhgpfmfgmaaDoor

namespace Go.Proofs.YtenjkhgpfmfgmaaDoor
open Go.RowKit Go.Maps
attribute [local go_sem ↓] Go.wp_at_zero Go.wp_at_succ

/-- How the memory stands while ringed goes on. -/
structure RI (w wr : World) (m : Nat) (es : List Pair) (eo : Option Addr) (cap bn : Nat) (na : Option Addr) (bl1 : Nat → Nat) (la : Option Addr) (bl2 : Nat → Nat) (lk : Nat → Nat → Bool) : Prop where
  box : Two wr w.heap.size (.int .i64 (m : Int)) (.slice eo es.length cap) 24
  num : NumAt wr bn es es.length
  near : NearsAt wr na m bl1 (bothB es)
  link : NearsAt wr la es.length bl2 lk
  below : Below w.heap.size w wr
  neN : ∀ i, i < es.length → bn ≠ bl2 i
  neL : ∀ i j, i < es.length → j < m → bl1 j ≠ bl2 i
  ge : ∀ i, i < es.length → w.heap.size < bl2 i

theorem NearsAt.fresh {M : Nat → Prop} {w w' : World} {ao : Option Addr} {n : Nat} {bl : Nat → Nat} {e : Nat → Nat → Bool} (h : NearsAt w ao n bl e) (ht : Turns M w w') (hm : ∀ k, M k → w.heap.size ≤ k) : NearsAt w' ao n bl e := by
  refine ⟨h.inj, fun i hi => ?_, fun i hi => (h.sets i hi).turns ht (fun h' => by have := hm _ h'; have := (h.sets i hi).lt; omega)⟩
  obtain ⟨g, e1, c⟩ := h.row i hi
  have hl := World.block_lt_of_cell? w _ c
  exact ⟨g, e1, cell_turns c ht (fun h' => by have := hm _ h'; omega)⟩
/-- Other sets are filled. -/
theorem NearsAt.marks {M : Nat → Prop} {w w' : World} {ao : Option Addr} {n : Nat} {bl : Nat → Nat} {e : Nat → Nat → Bool} (h : NearsAt w ao n bl e) (ht : Turns M w w') (hm : ∀ k, M k → ∃ ms c, w.heap[k]? = some (.map ms c)) (hb : ∀ i, i < n → ¬ M (bl i)) : NearsAt w' ao n bl e := by
  refine ⟨h.inj, fun i hi => ?_, fun i hi => (h.sets i hi).turns ht (hb i hi)⟩
  obtain ⟨g, e1, c⟩ := h.row i hi
  refine ⟨g, e1, cell_turns c ht (fun h' => ?_)⟩
  obtain ⟨ms, ck, hc⟩ := hm _ h'
  simp [World.cell?, hc] at c

theorem RI.turns {M : Nat → Prop} {w wr wr' : World} {m : Nat} {es : List Pair} {eo : Option Addr} {cap bn : Nat} {na : Option Addr} {bl1 : Nat → Nat} {la : Option Addr} {bl2 : Nat → Nat} {lk : Nat → Nat → Bool} (h : RI w wr m es eo cap bn na bl1 la bl2 lk) (ht : Turns M wr wr') (hm : ∀ k, M k → wr.heap.size ≤ k) : RI w wr' m es eo cap bn na bl1 la bl2 lk := by
  have hs := h.below.size
  have lt1 := lt_of_block h.box
  refine ⟨two_turns h.box ht (fun h' => by have := hm _ h'; omega), h.num.turns ht (fun h' => by have := hm _ h'; have := h.num.lt; omega), h.near.fresh ht hm, h.link.fresh ht hm, ht.below h.below hs (fun k hk => by have := hm k hk; omega), h.neN, h.neL, h.ge⟩
theorem RI.below' {w wr wr' : World} {m : Nat} {es : List Pair} {eo : Option Addr} {cap bn : Nat} {na : Option Addr} {bl1 : Nat → Nat} {la : Option Addr} {bl2 : Nat → Nat} {lk : Nat → Nat → Bool} (h : RI w wr m es eo cap bn na bl1 la bl2 lk) (hb : Below wr.heap.size wr wr') : RI w wr' m es eo cap bn na bl1 la bl2 lk := h.turns (Turns.of_below hb (fun _ => False)) (fun _ h => h.elim)
theorem RI.marks {w wr : World} {m : Nat} {es : List Pair} {eo : Option Addr} {cap bn : Nat} {na : Option Addr} {bl1 : Nat → Nat} {la : Option Addr} {bl2 : Nat → Nat} {lk : Nat → Nat → Bool} (h : RI w wr m es eo cap bn na bl1 la bl2 lk) : ∀ k, Marks es.length bl2 k → ∃ ms c, wr.heap[k]? = some (.map ms c) := by
  rintro k ⟨i, hi, rfl⟩
  exact (h.link.sets i hi).isMap
theorem RI.join {w wr wr' : World} {m : Nat} {es : List Pair} {eo : Option Addr} {cap bn : Nat} {na : Option Addr} {bl1 : Nat → Nat} {la : Option Addr} {bl2 : Nat → Nat} {lk lk' : Nat → Nat → Bool} (h : RI w wr m es eo cap bn na bl1 la bl2 lk) (hl : NearsAt wr' la es.length bl2 lk') (ht : Turns (Marks es.length bl2) wr wr') : RI w wr' m es eo cap bn na bl1 la bl2 lk' := by
  refine ⟨two_turns h.box ht (fun h' => ?_), h.num.turns ht (fun ⟨i, hi, e⟩ => h.neN i hi e), h.near.marks ht h.marks (fun j hj ⟨i, hi, e⟩ => h.neL i j hi hj e), hl, ht.below h.below h.below.size (fun k ⟨i, hi, e⟩ => by have := h.ge i hi; omega), h.neN, h.neL, h.ge⟩
  obtain ⟨ms, c, hc⟩ := h.marks _ h'
  have := h.box
  unfold Two at this
  rw [hc] at this; cases this

theorem ListsAt.at {w : World} {base : Nat} {ao : Option Addr} {n cap : Nat} {ls : List (List Nat)} (h : ListsAt w base (.slice ao n cap) ls) {q : Nat} {l : List Nat} (hq : ls[q]? = some l) : ∃ g xo xc, ao = some ⟨g, 0, none⟩ ∧ w.cell? ⟨g, q, none⟩ = some (.slice xo l.length xc) ∧ w.ownsRow base 3 1 (.slice xo l.length xc) l.length (qv l) := by
  obtain ⟨vs, h1, h2, h3⟩ := h
  have hl := (List.getElem?_eq_some_iff.1 hq).1
  obtain ⟨x, hx⟩ : ∃ x, vs[q]? = some x := ⟨vs[q]'(by omega), List.getElem?_eq_getElem (by omega)⟩
  have hr := h3 q x l hx hq
  obtain ⟨xo, xc, rfl⟩ := form_row hr
  rcases h2.2 with ⟨_, e⟩ | ⟨g, c, cur, e, _⟩
  · omega
  · cases e
    refine ⟨g, xo, xc, rfl, ?_, hr⟩
    have := h2.cells (g := g) rfl q _ hx
    rw [add_none] at this
    exact this
theorem ownsRow_marks {M : Nat → Prop} {w w' : World} {base : Nat} {t : TypeId} {x : Value} {n : Nat} {xs : List Value} (ho : w.ownsRow base t 1 x n xs) (ht : Turns M w w') (hm : ∀ k, M k → ∃ es c, w.heap[k]? = some (.map es c)) : w'.ownsRow base t 1 x n xs := by
  refine ownsRow_blocks ho fun b hb => ht.block b (ho.lt b hb).2 fun hmb => ?_
  obtain ⟨es, c, h'⟩ := hm b hmb
  obtain ⟨cur, hc⟩ := own_cells ho hb
  rw [hc] at h'; cases h'
theorem cast_min (u v : Nat) : ((min u v : Nat) : Int) = min (u : Int) (v : Int) := by omega
theorem cast_max (u v : Nat) : ((max u v : Nat) : Int) = max (u : Int) (v : Int) := by omega

end Go.Proofs.YtenjkhgpfmfgmaaDoor

namespace Go.Proofs.YtenjkhgpfmfgmaaDoor
open Go.RowKit Go.Maps
attribute [local go_sem ↓] Go.wp_at_zero Go.wp_at_succ

theorem Tryd.info22 : (Tryd.prog.info? 22).map (fun i => (i.zero, i.size, i.bytes)) = some (some (.slice none 0 0), 1, 24) := by kernel_rfl

/-- A slice of slices of edges, all of its own. -/
def BlocksAt (w : World) (base : Nat) (v : Value) (bs : List (List Pair)) : Prop :=
  ∃ vs : List Value, vs.length = bs.length ∧ w.ownsRow base 22 1 v bs.length vs ∧ ∀ (i : Nat) (x : Value) (l : List Pair), vs[i]? = some x → bs[i]? = some l → w.ownsRow base 50 2 x l.length (flat l)
theorem blocksAt_nil (w : World) (base : Nat) : BlocksAt w base (.slice none 0 0) [] := ⟨[], rfl, World.ownsRow_nil _ _ _ _, fun i x l h => by simp at h⟩
theorem BlocksAt.form {w : World} {base : Nat} {v : Value} {bs : List (List Pair)} (h : BlocksAt w base v bs) : ∃ ao cap, v = .slice ao bs.length cap := by
  obtain ⟨vs, _, h2, _⟩ := h
  exact form_row h2
theorem BlocksAt.turns {M : Nat → Prop} {w w' : World} {base : Nat} {v : Value} {bs : List (List Pair)} (h : BlocksAt w base v bs) (ht : Turns M w w') (hm : ∀ k, M k → k < base ∨ w.heap.size ≤ k ∨ ∃ cur t, t ≠ 22 ∧ t ≠ 50 ∧ w.heap[k]? = some (.cells cur t (0, 0))) : BlocksAt w' base v bs := by
  obtain ⟨vs, h1, h2, h3⟩ := h
  have key : ∀ {t : TypeId} {sz : Nat} {x : Value} {n : Nat} {xs : List Value}, (t = 22 ∨ t = 50) → w.ownsRow base t sz x n xs → w'.ownsRow base t sz x n xs := by
    intro t sz x n xs ht' ho
    refine ownsRow_blocks ho fun b hb => ht.block b (ho.lt b hb).2 fun hmb => ?_
    rcases hm b hmb with h' | h' | ⟨cur, t', n1, n2, h'⟩
    · have := (ho.lt b hb).1; omega
    · have := (ho.lt b hb).2; omega
    · obtain ⟨cur', hc⟩ := own_cells ho hb
      rw [hc] at h'
      simp at h'
      rcases ht' with e | e
      · exact n1 (h'.2.symm.trans e)
      · exact n2 (h'.2.symm.trans e)
  exact ⟨vs, h1, key (Or.inl rfl) h2, fun i x l hx hl => key (Or.inr rfl) (h3 i x l hx hl)⟩
theorem BlocksAt.mono {w : World} {base base' : Nat} {v : Value} {bs : List (List Pair)} (h : BlocksAt w base v bs) (hb : base' ≤ base) : BlocksAt w base' v bs := by
  obtain ⟨vs, h1, h2, h3⟩ := h
  exact ⟨vs, h1, ownsRow_mono h2 hb, fun i x l hx hl => ownsRow_mono (h3 i x l hx hl) hb⟩
theorem blocksAt_push {w w1 : World} {base : Nat} {v v' : Value} {bs : List (List Pair)} {x : Value} {l : List Pair} {o : Obj} (hx : w.ownsRow base 50 2 x l.length (flat l)) {vs : List Value} (hvs : vs.length = bs.length) (hrow : w.ownsRow base 22 1 v bs.length vs)
    (hel : ∀ (i : Nat) (x : Value) (l : List Pair), vs[i]? = some x → bs[i]? = some l → w.ownsRow base 50 2 x l.length (flat l)) (hown : w1.ownsRow base 22 1 v' (bs.length + 1) (vs ++ [x])) (hg : (w.alloc o).grownBy w1 v.ownBlock) : BlocksAt w1 base v' (bs ++ [l]) := by
  have T := (alloc_turns w o (fun k => some k = v.ownBlock)).trans (Turns.of_grown hg)
  have key : ∀ {x : Value} {n : Nat} {xs : List Value}, w.ownsRow base 50 2 x n xs → w1.ownsRow base 50 2 x n xs := by
    intro x n xs ho
    refine ownsRow_blocks ho fun b hb => T.block b (ho.lt b hb).2 fun hmb => ?_
    obtain ⟨c1, h1⟩ := own_cells ho hb
    obtain ⟨c2, h2⟩ := own_cells hrow hmb.symm
    rw [h1] at h2; simp at h2
  refine ⟨vs ++ [x], by simp [hvs], by simpa using hown, fun i y m hy hm => ?_⟩
  by_cases hi : i < bs.length
  · rw [List.getElem?_append_left (by omega)] at hy hm
    exact key (hel i y m hy hm)
  · rw [List.getElem?_append_right (by omega)] at hy hm
    by_cases h0 : i - bs.length = 0
    · rw [hvs, h0] at hy; rw [h0] at hm
      simp at hy hm
      subst hy; subst hm
      exact key hx
    · rw [List.getElem?_eq_none (by simp; omega)] at hm; cases hm

def edgesL (fes : List Pair) (l : List Nat) : List Pair := l.map fun i => fes.getD i (0, 0)
def blocksS (fes : List Pair) (RK : Nat → Nat → Bool) : List (List Pair) := (piecesS fes.length allB RK).map (edgesL fes)

theorem formed_all (m : Nat) (p : Int → Int → Bool) : Formed m (allP m p) where
  nodup := allP_nodup m p
  ok := fun i e h => by
    obtain ⟨u, v, h1, h2, _, rfl⟩ := allP_mem.1 (List.mem_of_getElem? h)
    exact ⟨u, v, rfl, h1, h2⟩

theorem wide_form {n : Int} {v : Value} {es : List Pair} {w : World} (hE : EdgesAt w v es) {a : Ans} (h : formS n es = a) : Tells 42 #[.agg #[.int .i64 n, v]] w a := form_as hE h

theorem EdgesAt.marks {M : Nat → Prop} {w w' : World} {v : Value} {es : List Pair} (h : EdgesAt w v es) (ht : Turns M w w') (hm : ∀ k, M k → ∃ ms c, w.heap[k]? = some (.map ms c)) : EdgesAt w' v es := by
  obtain ⟨ao, cap, h1, h2, h3, h4⟩ := h
  refine ⟨ao, cap, h1, h2, h3, fun k hk => ?_⟩
  obtain ⟨b, off, e, c0, c1⟩ := h4 k hk
  have hn : ¬ M b := fun hb => by
    obtain ⟨ms, c, hc⟩ := hm b hb
    simp [World.cell?, hc] at c0
  exact ⟨b, off, e, cell_turns c0 ht hn, cell_turns c1 ht hn⟩
theorem edgesL_take (fes : List Pair) {l : List Nat} {t u : Nat} (h : l[t]? = some u) : edgesL fes (l.take (t + 1)) = edgesL fes (l.take t) ++ [fes.getD u (0, 0)] := by
  rw [take_at h]; simp [edgesL]
theorem edgesL_len (fes : List Pair) (l : List Nat) : (edgesL fes l).length = l.length := by simp [edgesL]
theorem ListsAt.below {w w' : World} {base : Nat} {v : Value} {ls : List (List Nat)} (h : ListsAt w base v ls) (hb : Below w.heap.size w w') : ListsAt w' base v ls := h.turns (Turns.of_below hb (fun _ => False)) (fun _ h => h.elim)
theorem BlocksAt.below {w w' : World} {base : Nat} {v : Value} {bs : List (List Pair)} (h : BlocksAt w base v bs) (hb : Below w.heap.size w w') : BlocksAt w' base v bs := h.turns (Turns.of_below hb (fun _ => False)) (fun _ h => h.elim)
theorem piece_lt {N : Nat} {L : Nat → Bool} {R : Nat → Nat → Bool} {q : Nat} {l : List Nat} (h : (piecesS N L R)[q]? = some l) : l.length ≤ N ∧ ∀ x, x ∈ l → x < N := by
  have h1 := List.mem_of_getElem? h
  simp only [piecesS, piecesTo, List.mem_map] at h1
  obtain ⟨r, _, rfl⟩ := h1
  refine ⟨Nat.le_trans (List.length_filter_le _ _) (by simp), fun x hx => ?_⟩
  simp [classL] at hx
  exact hx.1
theorem take_snoc_map {α β : Type} (f : α → β) {l : List α} {q : Nat} {x : α} (h : l[q]? = some x) : (l.take (q + 1)).map f = (l.take q).map f ++ [f x] := by
  obtain ⟨h1, h2⟩ := List.getElem?_eq_some_iff.1 h
  rw [List.take_succ_eq_append_getElem h1, h2]; simp

/-- Three boxes that are held while a region goes on. -/
theorem held3_mk {w wz : World} {b3 b4 : Nat} {x y : Value} (hb : Below w.heap.size w wz) (t3 : Two wz b3 (.int .i64 0) (.int .i64 0) 27) (t4 : Two wz b4 x y 24) : Below w.heap.size w wz ∧ Two wz b3 (.int .i64 0) (.int .i64 0) 27 ∧ Two wz b4 x y 24 ∧ wz.cell? ⟨b4, 0, none⟩ = some x ∧ wz.cell? ⟨b4, 1, none⟩ = some y :=
  ⟨hb, t3, t4, (cell_two t4).1, (cell_two t4).2⟩

end Go.Proofs.YtenjkhgpfmfgmaaDoor

namespace Go.Proofs.YtenjkhgpfmfgmaaDoor
open Go.RowKit Go.Maps
attribute [local go_sem ↓] Go.wp_at_zero Go.wp_at_succ

def single : List Pair → Option Pair
  | [e] => some e
  | _ => none
def singles (bs : List (List Pair)) : List Pair := bs.filterMap single
theorem singles_take {bs : List (List Pair)} {q : Nat} {l : List Pair} (h : bs[q]? = some l) : singles (bs.take (q + 1)) = singles (bs.take q) ++ (single l).toList := by
  obtain ⟨h1, h2⟩ := List.getElem?_eq_some_iff.1 h
  rw [List.take_succ_eq_append_getElem h1, h2]
  unfold singles
  rw [List.filterMap_append]
  cases hs : single l <;> simp [hs]
theorem singles_len (bs : List (List Pair)) (q : Nat) : (singles (bs.take q)).length ≤ q :=
  Nat.le_trans (List.length_filterMap_le _ _) (by rw [List.length_take]; omega)

theorem BlocksAt.at {w : World} {base : Nat} {ao : Option Addr} {n cap : Nat} {bs : List (List Pair)} (h : BlocksAt w base (.slice ao n cap) bs) {q : Nat} {l : List Pair} (hq : bs[q]? = some l) : ∃ g xo xc, ao = some ⟨g, 0, none⟩ ∧ w.cell? ⟨g, q, none⟩ = some (.slice xo l.length xc) ∧ w.ownsRow base 50 2 (.slice xo l.length xc) l.length (flat l) := by
  obtain ⟨vs, h1, h2, h3⟩ := h
  have hl := (List.getElem?_eq_some_iff.1 hq).1
  obtain ⟨x, hx⟩ : ∃ x, vs[q]? = some x := ⟨vs[q]'(by omega), List.getElem?_eq_getElem (by omega)⟩
  have hr := h3 q x l hx hq
  obtain ⟨xo, xc, rfl⟩ := form_row hr
  rcases h2.2 with ⟨_, e⟩ | ⟨g, c, cur, e, _⟩
  · omega
  · cases e
    refine ⟨g, xo, xc, rfl, ?_, hr⟩
    have := h2.cells (g := g) rfl q _ hx
    rw [add_none] at this
    exact this
theorem blocks_len (fes : List Pair) (RK : Nat → Nat → Bool) : (blocksS fes RK).length ≤ fes.length := by
  unfold blocksS; rw [List.length_map]; exact piecesTo_le _ _ _ _
theorem block_len {fes : List Pair} {RK : Nat → Nat → Bool} {q : Nat} {l : List Pair} (h : (blocksS fes RK)[q]? = some l) : l.length ≤ fes.length ∧ ∀ e, e ∈ l → ∃ i : Nat, fes[i]? = some e := by
  unfold blocksS at h
  rw [List.getElem?_map] at h
  obtain ⟨l0, h0, rfl⟩ := Option.map_eq_some_iff.1 h
  obtain ⟨h1, h2⟩ := piece_lt h0
  refine ⟨by rw [edgesL_len]; exact h1, fun e he => ?_⟩
  obtain ⟨i, hi, rfl⟩ := List.mem_map.1 he
  have := h2 i hi
  exact ⟨i, by simp [List.getD, this]⟩

end Go.Proofs.YtenjkhgpfmfgmaaDoor

namespace Go.Proofs.YtenjkhgpfmfgmaaDoor
open Go.RowKit Go.Maps
attribute [local go_sem ↓] Go.wp_at_zero Go.wp_at_succ

def nodeIn (l : List Pair) (x : Nat) : Bool := l.any fun e => e.1 == (x : Int) || e.2 == (x : Int)
theorem nodeIn_take {l : List Pair} {t i j : Nat} (h : l[t]? = some ((i : Int), (j : Int))) (x : Nat) : nodeIn (l.take (t + 1)) x = (x == j || (x == i || nodeIn (l.take t) x)) := by
  obtain ⟨h1, h2⟩ := List.getElem?_eq_some_iff.1 h
  rw [List.take_succ_eq_append_getElem h1, h2]
  unfold nodeIn
  rw [List.any_append]
  have q : ∀ p q : Nat, ((p : Int) == (q : Int)) = (q == p) := fun p q => by rw [Bool.eq_iff_iff]; simp; omega
  simp only [List.any_cons, List.any_nil, Bool.or_false, q]
  cases (List.take t l).any _ <;> cases (x == i) <;> cases (x == j) <;> rfl

def cntTo (bs : List (List Pair)) (q x : Nat) : Nat := ((bs.take q).filter fun l => nodeIn l x).length
theorem cntTo_succ {bs : List (List Pair)} {q : Nat} {l : List Pair} (h : bs[q]? = some l) (x : Nat) : cntTo bs (q + 1) x = cntTo bs q x + if nodeIn l x = true then 1 else 0 := by
  obtain ⟨h1, h2⟩ := List.getElem?_eq_some_iff.1 h
  unfold cntTo
  rw [List.take_succ_eq_append_getElem h1, h2, List.filter_append, List.length_append]
  congr 1
  by_cases hx : nodeIn l x = true <;> simp [hx]
theorem cntTo_le (bs : List (List Pair)) (q x : Nat) : cntTo bs q x ≤ q :=
  Nat.le_trans (List.length_filter_le _ _) (by rw [List.length_take]; omega)
/-- The nodes below k that are in more than one block. -/
def cutsTo (bs : List (List Pair)) (k : Nat) : List Nat := (List.range k).filter fun x => decide (1 < cntTo bs bs.length x)
theorem cutsTo_succ (bs : List (List Pair)) (k : Nat) : cutsTo bs (k + 1) = cutsTo bs k ++ (if 1 < cntTo bs bs.length k then [k] else []) := by
  unfold cutsTo
  rw [List.range_succ, List.filter_append]
  congr 1
  by_cases h : 1 < cntTo bs bs.length k <;> simp [h]
theorem cutsTo_le (bs : List (List Pair)) (k : Nat) : (cutsTo bs k).length ≤ k := Nat.le_trans (List.length_filter_le _ _) (by simp)

theorem same_self (y : Int) : (Lit.int .i64 y).sameKey (.int .i64 y) = true := by simp [Lit.sameKey]
theorem strike_self (lf : Lit → Bool) (y : Nat) : (lf (.int .i64 (y : Int)) && !(Lit.int .i64 (y : Int)).sameKey (.int .i64 (y : Int))) = false := by rw [same_self]; exact Bool.and_false _
theorem strike_ne (lf : Lit → Bool) {z y : Nat} (h : ¬ z = y) : (lf (.int .i64 (z : Int)) && !(Lit.int .i64 (z : Int)).sameKey (.int .i64 (y : Int))) = lf (.int .i64 (z : Int)) := by
  rw [sameKey_ne (show (Lit.int .i64 (z : Int)) ≠ .int .i64 (y : Int) from fun e => h (by injection e with _ e; omega))]
  exact Bool.and_true _
theorem RowV.below {w w' : World} {b n : Nat} {t : TypeId} {f : Nat → Value} (h : RowV w b t n f) (hb : Below w.heap.size w w') : RowV w' b t n f := h.block (hb.block b h.lt)
theorem below_self {B : Nat} {w wr wr' : World} (h : Below B w wr) (hb : Below wr.heap.size wr wr') (hB : B ≤ wr.heap.size) : Below B w wr' := h.trans (hb.mono hB)

end Go.Proofs.YtenjkhgpfmfgmaaDoor
