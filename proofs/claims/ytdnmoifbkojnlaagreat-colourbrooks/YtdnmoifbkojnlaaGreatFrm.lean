/- Graphs in form: their edges by number; the map from edges to their numbers. The links between edges that ringed makes: plain mathematics. Components: the nodes of each. ringed: of each edge some that are in one ring with it. Blocks of package parts. Bridges of package parts. nodesOf and Cuts of package parts. -/
import Derived.Test.YtdnmoifbkojnlaaGreatSts
import Derived.Test.YtdnmoifbkojnlaaGreatGiven
namespace Go.Proofs.YtdnmoifbkojnlaaGreat
set_option maxRecDepth 4000
open Go.RowKit Go.Maps

/-- The edges of a graph in form. -/
structure Formed (m : Nat) (es : List Pair) : Prop where
  nodup : es.Nodup
  ok : ∀ (i : Nat) (e : Pair), es[i]? = some e → ∃ x y : Nat, e = ((x : Int), (y : Int)) ∧ x < y ∧ y < m

def Ef (m : Nat) (es : List Pair) (a b : Nat) : Prop := a < m ∧ b < m ∧ bothB es a b = true
def elf (es : List Pair) (i : Nat) : Nat × Nat := ((es.getD i (0, 0)).1.toNat, (es.getD i (0, 0)).2.toNat)

theorem getD_some {es : List Pair} {i : Nat} {e : Pair} (h : es[i]? = some e) : es.getD i (0, 0) = e := by simp [List.getD, h]
theorem elf_some {es : List Pair} {i x y : Nat} (h : es[i]? = some ((x : Int), (y : Int))) : elf es i = (x, y) := by
  unfold elf; rw [getD_some h]; simp
theorem Formed.at {m : Nat} {es : List Pair} (h : Formed m es) {i : Nat} (hi : i < es.length) : ∃ x y : Nat, es[i]? = some ((x : Int), (y : Int)) ∧ x < y ∧ y < m := by
  obtain ⟨x, y, e, h1, h2⟩ := h.ok i es[i] (List.getElem?_eq_getElem hi)
  exact ⟨x, y, by rw [List.getElem?_eq_getElem hi, e], h1, h2⟩
theorem Formed.inj {m : Nat} {es : List Pair} (h : Formed m es) {i j : Nat} {e : Pair} (hi : es[i]? = some e) (hj : es[j]? = some e) : i = j := by
  obtain ⟨h1, e1⟩ := List.getElem?_eq_some_iff.1 hi
  obtain ⟨h2, e2⟩ := List.getElem?_eq_some_iff.1 hj
  have hp := List.pairwise_iff_getElem.1 h.nodup
  rcases Nat.lt_trichotomy i j with h' | h' | h'
  · exact absurd (e1.trans e2.symm) (hp i j h1 h2 h')
  · exact h'
  · exact absurd (e2.trans e1.symm) (hp j i h2 h1 h')

theorem both_iff {m : Nat} {es : List Pair} (h : Formed m es) (a b : Nat) : bothB es a b = true ↔ ∃ i : Nat, es[i]? = some (((min a b : Nat) : Int), ((max a b : Nat) : Int)) := by
  unfold bothB hasB
  rw [List.any_eq_true]
  constructor
  · rintro ⟨e, he, hb⟩
    obtain ⟨i, hi⟩ := List.mem_iff_getElem?.1 he
    obtain ⟨x, y, rfl, hxy, _⟩ := h.ok i e hi
    refine ⟨i, ?_⟩
    rw [hi]
    simp at hb
    rcases hb with ⟨e1, e2⟩ | ⟨e1, e2⟩
    · obtain rfl : x = a := by omega
      obtain rfl : y = b := by omega
      rw [Nat.min_eq_left (by omega), Nat.max_eq_right (by omega)]
    · obtain rfl : x = b := by omega
      obtain rfl : y = a := by omega
      rw [Nat.min_eq_right (by omega), Nat.max_eq_left (by omega)]
  · rintro ⟨i, hi⟩
    refine ⟨_, List.mem_of_getElem? hi, ?_⟩
    rcases Nat.le_total a b with hab | hab
    · rw [Nat.min_eq_left hab, Nat.max_eq_right hab]; simp
    · rw [Nat.min_eq_right hab, Nat.max_eq_left hab]; simp

theorem ef_gr {m : Nat} {es : List Pair} (h : Formed m es) : Gr m (Ef m es) where
  lt := fun a b h => ⟨h.1, h.2.1⟩
  symm := fun a b h => ⟨h.2.1, h.1, by have := h.2.2; unfold bothB at *; rw [hasB_comm]; exact this⟩
  irr := fun a ha => by
    obtain ⟨i, hi⟩ := (both_iff h a a).1 ha.2.2
    obtain ⟨x, y, e, h1, _⟩ := h.ok i _ hi
    simp at e
    omega
theorem ef_edges {m : Nat} {es : List Pair} (h : Formed m es) : Edges m es.length (Ef m es) (elf es) where
  ok := fun i hi => by
    obtain ⟨x, y, e, h1, h2⟩ := h.at hi
    rw [elf_some e]
    exact ⟨h1, by show x < m; omega, h2, (both_iff h x y).2 ⟨i, by rw [e, Nat.min_eq_left (by omega), Nat.max_eq_right (by omega)]⟩⟩
  all := fun a b hab hE => by
    obtain ⟨i, hi⟩ := (both_iff h a b).1 hE.2.2
    rw [Nat.min_eq_left (by omega), Nat.max_eq_right (by omega)] at hi
    exact ⟨i, (List.getElem?_eq_some_iff.1 hi).1, elf_some hi⟩
  inj := fun i j hi hj e => by
    obtain ⟨x, y, e1, _⟩ := h.at hi
    obtain ⟨x', y', e2, _⟩ := h.at hj
    rw [elf_some e1, elf_some e2] at e
    simp at e
    obtain ⟨rfl, rfl⟩ := e
    exact h.inj e1 e2
theorem inc_iff {m : Nat} {es : List Pair} (h : Formed m es) {i : Nat} (hi : i < es.length) (v u : Nat) : Inc (elf es) i v u ↔ es[i]? = some (((min u v : Nat) : Int), ((max u v : Nat) : Int)) := by
  obtain ⟨x, y, e1, hxy, _⟩ := h.at hi
  unfold Inc
  rw [elf_some e1, e1]
  simp
  omega

/-- Block b is a map from the first k edges to their numbers. -/
def NumAt (w : World) (b : Nat) (es : List Pair) (k : Nat) : Prop :=
  ∃ D : DataW Unit, w.ownsMap Tryz.prog 42 (plainElem Tryz.prog 3) b k D ∧ (∀ u v : Int, I64 u → I64 v → (Maps.has D (kl u v) = true ↔ ∃ i, i < k ∧ es[i]? = some (u, v))) ∧
    ∀ (i : Nat) (u v : Int), i < k → es[i]? = some (u, v) → D.atKey (kl u v) (.lit (.int .i64 0)) = .lit (.int .i64 (i : Int))
theorem NumAt.block {w w' : World} {b k : Nat} {es : List Pair} (h : NumAt w b es k) (hb : w'.heap[b]? = w.heap[b]?) : NumAt w' b es k := by
  obtain ⟨D, ⟨ms, clock, h1, h2⟩, h3⟩ := h
  exact ⟨D, ⟨ms, clock, by rw [hb]; exact h1, h2⟩, h3⟩
theorem NumAt.lt {w : World} {b k : Nat} {es : List Pair} (h : NumAt w b es k) : b < w.heap.size := by
  obtain ⟨D, h1, _⟩ := h; exact h1.lt
theorem NumAt.turns {w w' : World} {b k : Nat} {es : List Pair} {M : Nat → Prop} (h : NumAt w b es k) (ht : Turns M w w') (hm : ¬ M b) : NumAt w' b es k := h.block (ht.block b h.lt hm)
theorem numAt_made (w : World) (es : List Pair) : NumAt (w.alloc (.map #[] 0)) w.heap.size es 0 :=
  ⟨.map [], World.ownsMap_made _ _ _ _, fun _ _ _ _ => by simp [Maps.has], fun _ _ _ h => by omega⟩

theorem kl_key (u v : Int) : WideAt.IsKeyLit (kl u v) := trivial

theorem NumAt.store {w : World} {b k : Nat} {es : List Pair} {m : Nat} (hf : Formed m es) (h : NumAt w b es k) {u v : Int} (hk : es[k]? = some (u, v)) (hu : I64 u) (hv : I64 v) (hl : k < 1000) (hI : ∀ (i : Nat) (u v : Int), es[i]? = some (u, v) → I64 u ∧ I64 v) :
    ∃ w', (Instr.mapUpdate 122 (.map (some b)) (.agg #[.int .i64 u, .int .i64 v]) (.int .i64 (k : Int))).run Tryz.prog w = .ok () w' ∧ NumAt w' b es (k + 1) ∧ w.mapTurned w' b := by
  obtain ⟨D, h1, h2, h3⟩ := h
  obtain ⟨w', hrun, hown, hturn⟩ := h1.store Tryz.law42 Tryz.underlying122 (by unfold maxLen; omega) (key_mk hu hv) (plainElem_int Tryz.underlying3 (a := (k : Int)) (I64.wf ⟨by omega, by omega⟩))
  refine ⟨w', hrun, ⟨_, hown, fun x y hx hy => ?_, fun i x y hi he => ?_⟩, hturn⟩
  · by_cases e : x = u ∧ y = v
    · obtain ⟨rfl, rfl⟩ := e
      rw [has_put_same h1.isMap (kl_key _ _)]
      exact ⟨fun _ => ⟨k, by omega, hk⟩, fun _ => rfl⟩
    · rw [has_put_other (fun hk => e (key_inj hx hy hu hv hk)), h2 x y hx hy]
      constructor
      · rintro ⟨i, hi, he⟩; exact ⟨i, by omega, he⟩
      · rintro ⟨i, hi, he⟩
        by_cases e1 : i = k
        · subst e1; rw [hk] at he; simp at he; exact absurd ⟨he.1.symm, he.2.symm⟩ e
        · exact ⟨i, by omega, he⟩
  · by_cases e : x = u ∧ y = v
    · obtain ⟨rfl, rfl⟩ := e
      have := hf.inj he hk
      subst this
      exact atKey_put_same h1.isMap (kl_key _ _) _ _
    · have hx := hI i x y he
      rw [atKey_put_other (fun hk => e (key_inj hx.1 hx.2 hu hv hk))]
      refine h3 i x y ?_ he
      by_cases e1 : i = k
      · subst e1; rw [hk] at he; simp at he; exact absurd ⟨he.1.symm, he.2.symm⟩ e
      · omega

theorem NumAt.look {w : World} {b k : Nat} {es : List Pair} (h : NumAt w b es k) {u v : Int} (hu : I64 u) (hv : I64 v) {i : Nat} (hi : i < k) (he : es[i]? = some (u, v)) :
    (Instr.lookup 122 (.map (some b)) (.agg #[.int .i64 u, .int .i64 v]) true).run Tryz.prog w = .ok (.tuple #[.int .i64 (i : Int), .bool true]) w := by
  obtain ⟨D, h1, h2, h3⟩ := h
  obtain ⟨x, ps, hrun, hx⟩ := h1.look_ok Tryz.law42 Tryz.underlying122 (Tryz.zero3 w) (plainElem_int Tryz.underlying3 (I64.wf ⟨by omega, by omega⟩)) (key_mk hu hv)
  rw [h3 i u v hi he] at hx
  obtain ⟨c, rfl, hc, _⟩ := plainElem_int_inv Tryz.underlying3 hx
  simp at hc
  rw [(h2 u v hu hv).2 ⟨i, hi, he⟩, ← hc.1] at hrun
  exact hrun
theorem NumAt.miss {w : World} {b k : Nat} {es : List Pair} (h : NumAt w b es k) {u v : Int} (hu : I64 u) (hv : I64 v) (he : ¬ ∃ i, i < k ∧ es[i]? = some (u, v)) :
    (Instr.lookup 122 (.map (some b)) (.agg #[.int .i64 u, .int .i64 v]) true).run Tryz.prog w = .ok (.tuple #[.int .i64 0, .bool false]) w := by
  obtain ⟨D, h1, h2, h3⟩ := h
  obtain ⟨x, ps, hrun, hx⟩ := h1.look_ok Tryz.law42 Tryz.underlying122 (Tryz.zero3 w) (plainElem_int Tryz.underlying3 (I64.wf ⟨by omega, by omega⟩)) (key_mk hu hv)
  have hno : Maps.has D (kl u v) = false := by
    cases hh : Maps.has D (kl u v)
    · rfl
    · exact absurd ((h2 u v hu hv).1 hh) he
  rw [atKey_of_not_has hno] at hx
  obtain ⟨c, rfl, hc, _⟩ := plainElem_int_inv Tryz.underlying3 hx
  simp at hc
  rw [hno, ← hc.1] at hrun
  exact hrun
end Go.Proofs.YtdnmoifbkojnlaaGreat

namespace Go.Proofs.YtdnmoifbkojnlaaGreat
set_option maxRecDepth 4000

abbrev LkS (es : List Pair) (lk : Nat → Nat → Bool) : Nat → Nat → Prop := St es.length lk allB
abbrev LkF (m : Nat) (es : List Pair) : Nat → Nat → Prop := Lk es.length (Ef m es) (elf es)

structure Lks (m : Nat) (es : List Pair) (lk : Nat → Nat → Bool) : Prop where
  sym : ∀ a b, lk a b = true → lk b a = true
  sound : ∀ a b, lk a b = true → LkF m es a b

def lkAdd (lk : Nat → Nat → Bool) (s a : Nat) : Nat → Nat → Bool := fun x y => (x == a && y == s) || ((x == s && y == a) || lk x y)
def Sub (lk lk' : Nat → Nat → Bool) : Prop := ∀ a b, lk a b = true → lk' a b = true
theorem sub_add (lk : Nat → Nat → Bool) (s a : Nat) : Sub lk (lkAdd lk s a) := fun x y h => by simp [lkAdd, h]
theorem Sub.refl (lk : Nat → Nat → Bool) : Sub lk lk := fun _ _ h => h
theorem Sub.trans {a b c : Nat → Nat → Bool} (h : Sub a b) (h2 : Sub b c) : Sub a c := fun x y hx => h2 x y (h x y hx)
theorem Sub.star {es : List Pair} {lk lk' : Nat → Nat → Bool} (h : Sub lk lk') {i j : Nat} (hs : Star (LkS es lk) i j) : Star (LkS es lk') i j := hs.mono fun a b hab => ⟨hab.1, h a b hab.2.1, hab.2.2⟩

theorem Lks.add {m : Nat} {es : List Pair} {lk : Nat → Nat → Bool} (hf : Formed m es) (h : Lks m es lk) {s a : Nat} (hl : LkF m es s a) : Lks m es (lkAdd lk s a) := by
  have hl' := link_symm (ef_gr hf) (ef_edges hf) _ _ hl
  refine ⟨fun x y hx => ?_, fun x y hx => ?_⟩
  · simp [lkAdd] at hx ⊢
    rcases hx with ⟨rfl, rfl⟩ | ⟨rfl, rfl⟩ | hx
    · simp
    · simp
    · simp [h.sym x y hx]
  · simp [lkAdd] at hx
    rcases hx with ⟨rfl, rfl⟩ | ⟨rfl, rfl⟩ | hx
    · exact hl'
    · exact hl
    · exact h.sound x y hx

theorem lks_symm {m : Nat} {es : List Pair} {lk : Nat → Nat → Bool} (h : Lks m es lk) {i j : Nat} (hi : i < es.length) (hs : Star (LkS es lk) i j) : Star (LkS es lk) j i :=
  (St.back (fun a b _ _ hab => h.sym a b hab) hs hi rfl).1

/-- All edges at v whose other ends are in l hang together. -/
def Est (es : List Pair) (lk : Nat → Nat → Bool) (v : Nat) (l : List Nat) : Prop :=
  ∀ u w i j, u ∈ l → w ∈ l → i < es.length → j < es.length → Inc (elf es) i v u → Inc (elf es) j v w → Star (LkS es lk) i j
theorem Est.sub {es : List Pair} {lk lk' : Nat → Nat → Bool} {v : Nat} {l : List Nat} (h : Est es lk v l) (hs : Sub lk lk') : Est es lk' v l := fun u w i j h1 h2 h3 h4 h5 h6 => hs.star (h u w i j h1 h2 h3 h4 h5 h6)
def EstAll (m : Nat) (es : List Pair) (lk : Nat → Nat → Bool) (k : Nat) : Prop :=
  ∀ v u w i j, v < k → i < es.length → j < es.length → Inc (elf es) i v u → Inc (elf es) j v w → Con (Ef m es) v u w → Star (LkS es lk) i j
theorem EstAll.sub {m : Nat} {es : List Pair} {lk lk' : Nat → Nat → Bool} {k : Nat} (h : EstAll m es lk k) (hs : Sub lk lk') : EstAll m es lk' k := fun v u w i j h1 h2 h3 h4 h5 h6 => hs.star (h v u w i j h1 h2 h3 h4 h5 h6)

/-- How the chain through the first t of l stands. -/
def Chain (es : List Pair) (lk : Nat → Nat → Bool) (v : Nat) (l : List Nat) (t : Nat) (la : Int) : Prop :=
  (la = -1 ∧ ∀ u, u ∈ l.take t → ∀ i, i < es.length → ¬ Inc (elf es) i v u) ∨
  (∃ s u0, s < es.length ∧ la = (s : Int) ∧ u0 ∈ l.take t ∧ Inc (elf es) s v u0 ∧ ∀ u, u ∈ l.take t → ∀ i, i < es.length → Inc (elf es) i v u → Star (LkS es lk) i s)
theorem chain_start (es : List Pair) (lk : Nat → Nat → Bool) (v : Nat) (l : List Nat) : Chain es lk v l 0 (-1) := Or.inl ⟨rfl, by simp⟩
theorem take_at {l : List Nat} {t u : Nat} (h : l[t]? = some u) : l.take (t + 1) = l.take t ++ [u] := by
  obtain ⟨h1, h2⟩ := List.getElem?_eq_some_iff.1 h
  rw [List.take_succ_eq_append_getElem h1, h2]
theorem Chain.skip {es : List Pair} {lk : Nat → Nat → Bool} {v t u : Nat} {l : List Nat} {la : Int} (h : Chain es lk v l t la) (hu : l[t]? = some u) (hno : ∀ i, i < es.length → ¬ Inc (elf es) i v u) : Chain es lk v l (t + 1) la := by
  unfold Chain at *
  rw [take_at hu]
  rcases h with ⟨h1, h2⟩ | ⟨s, u0, h1, h2, h3, h4, h5⟩
  · refine Or.inl ⟨h1, fun x hx i hi => ?_⟩
    rcases List.mem_append.1 hx with hx | hx
    · exact h2 x hx i hi
    · simp at hx; subst hx; exact hno i hi
  · refine Or.inr ⟨s, u0, h1, h2, by simp [h3], h4, fun x hx i hi hinc => ?_⟩
    rcases List.mem_append.1 hx with hx | hx
    · exact h5 x hx i hi hinc
    · simp at hx; subst hx; exact absurd hinc (hno i hi)

theorem inc_uniq {m : Nat} {es : List Pair} (hf : Formed m es) {i j v u : Nat} (hi : i < es.length) (hj : j < es.length) (h1 : Inc (elf es) i v u) (h2 : Inc (elf es) j v u) : i = j :=
  hf.inj ((inc_iff hf hi v u).1 h1) ((inc_iff hf hj v u).1 h2)

theorem Chain.first {m : Nat} {es : List Pair} (hf : Formed m es) {lk : Nat → Nat → Bool} {v t u a : Nat} {l : List Nat} (h : Chain es lk v l t (-1)) (hu : l[t]? = some u) (ha : a < es.length) (hinc : Inc (elf es) a v u) : Chain es lk v l (t + 1) (a : Int) := by
  unfold Chain at *
  rw [take_at hu]
  rcases h with ⟨h1, h2⟩ | ⟨s, u0, h1, h2, h3, h4, h5⟩
  · refine Or.inr ⟨a, u, ha, rfl, by simp, hinc, fun x hx i hi hix => ?_⟩
    rcases List.mem_append.1 hx with hx | hx
    · exact absurd hix (h2 x hx i hi)
    · simp at hx; subst hx; rw [inc_uniq hf hi ha hix hinc]; exact .refl _
  · omega

theorem Chain.more {m : Nat} {es : List Pair} (hf : Formed m es) {lk : Nat → Nat → Bool} {v t u a s : Nat} {l : List Nat} (h : Chain es lk v l t (s : Int)) (hu : l[t]? = some u) (ha : a < es.length) (hinc : Inc (elf es) a v u) : Chain es (lkAdd lk s a) v l (t + 1) (a : Int) := by
  unfold Chain at *
  rw [take_at hu]
  rcases h with ⟨h1, h2⟩ | ⟨s', u0, h1, h2, h3, h4, h5⟩
  · omega
  · obtain rfl : s = s' := by omega
    refine Or.inr ⟨a, u, ha, rfl, by simp, hinc, fun x hx i hi hix => ?_⟩
    rcases List.mem_append.1 hx with hx | hx
    · exact ((sub_add lk s a).star (h5 x hx i hi hix)).step ⟨ha, by simp [lkAdd], rfl⟩
    · simp at hx; subst hx; rw [inc_uniq hf hi ha hix hinc]; exact .refl _
theorem Chain.node {es : List Pair} {lk : Nat → Nat → Bool} {v t s : Nat} {l : List Nat} (h : Chain es lk v l t (s : Int)) : s < es.length ∧ ∃ u0, u0 ∈ l ∧ Inc (elf es) s v u0 := by
  rcases h with ⟨h1, h2⟩ | ⟨s', u0, h1, h2, h3, h4, h5⟩
  · omega
  · obtain rfl : s = s' := by omega
    exact ⟨h1, u0, List.mem_of_mem_take h3, h4⟩
theorem Chain.done {m : Nat} {es : List Pair} {lk : Nat → Nat → Bool} {v : Nat} {l : List Nat} {la : Int} (hl : Lks m es lk) (h : Chain es lk v l l.length la) : Est es lk v l := by
  unfold Chain at h
  rw [List.take_length] at h
  intro u w i j hu hw hi hj h1 h2
  rcases h with ⟨_, h3⟩ | ⟨s, u0, hs, _, _, _, h5⟩
  · exact absurd h1 (h3 u hu i hi)
  · exact (h5 u hu i hi h1).trans (lks_symm hl hj (h5 w hw j hj h2))

theorem con_st {m : Nat} {es : List Pair} {v x y : Nat} (hx : x < m) : Star (St m (bothB es) (notB v)) x y ↔ Con (Ef m es) v x y := by
  constructor
  · intro h
    exact (Star.within (P := fun a => a < m) (f := fun a b => Ef m es a b ∧ b ≠ v) (fun a b ha hab => ⟨hab.1, ⟨ha, hab.1, hab.2.1⟩, by have := hab.2.2; simpa [notB] using this⟩) h hx).2
  · intro h
    exact h.mono fun a b hab => ⟨hab.1.2.1, hab.1.2.2, by simpa [notB] using hab.2⟩

/-- The nodes of a piece of what is left without v. -/
theorem piece_con {m : Nat} {es : List Pair} (hf : Formed m es) {v : Nat} {R : Nat → Nat → Bool} (hR : ∀ x y, R x y = true ↔ Star (St m (bothB es) (notB v)) x y) {q : Nat} {l : List Nat} (hl : (piecesS m (notB v) R)[q]? = some l) {u w : Nat} (hu : u ∈ l) (hw : w ∈ l) : u < m ∧ Con (Ef m es) v u w := by
  have := List.mem_of_getElem? hl
  simp only [piecesS, piecesTo, List.mem_map, List.mem_filter, List.mem_range] at this
  obtain ⟨r, ⟨hr, hfr⟩, rfl⟩ := this
  simp only [classL, List.mem_filter, List.mem_range] at hu hw
  have hrv : r ≠ v := by have := (firstB_iff.1 hfr).1; simpa [notB] using this
  have h1 := (con_st (es := es) hr).1 ((hR _ _).1 hu.2)
  have h2 := (con_st (es := es) hr).1 ((hR _ _).1 hw.2)
  exact ⟨hu.1, (Con.back (ef_gr hf) h1 hrv).1.trans h2⟩
theorem piece_ex {m : Nat} {es : List Pair} (_hf : Formed m es) {v : Nat} {R : Nat → Nat → Bool} (hR : ∀ x y, R x y = true ↔ Star (St m (bothB es) (notB v)) x y) {u w : Nat} (hu : u < m) (hw : w < m) (huv : u ≠ v) (h : Con (Ef m es) v u w) : ∃ (q : Nat) (l : List Nat), (piecesS m (notB v) R)[q]? = some l ∧ u ∈ l ∧ w ∈ l := by
  obtain ⟨r, hru, ⟨hrv, hc⟩, hleast⟩ := least_ex (P := fun x => x ≠ v ∧ Con (Ef m es) v x u) (v := u) ⟨huv, .refl _⟩
  have hr : r < m := by omega
  have hmem : classL m R r ∈ piecesS m (notB v) R := by
    simp only [piecesS, piecesTo, List.mem_map, List.mem_filter, List.mem_range]
    refine ⟨r, ⟨hr, firstB_iff.2 ⟨by simpa [notB] using hrv, fun x hx hxv => ?_⟩⟩, rfl⟩
    cases hxr : R x r
    · rfl
    · exact absurd ⟨by simpa [notB] using hxv, ((con_st (es := es) (by omega)).1 ((hR _ _).1 hxr)).trans hc⟩ (hleast x hx)
  obtain ⟨q, hq⟩ := List.mem_iff_getElem?.1 hmem
  refine ⟨q, _, hq, ?_, ?_⟩
  · simp only [classL, List.mem_filter, List.mem_range]; exact ⟨hu, (hR _ _).2 ((con_st hr).2 hc)⟩
  · simp only [classL, List.mem_filter, List.mem_range]; exact ⟨hw, (hR _ _).2 ((con_st hr).2 (hc.trans h))⟩

theorem EstAll.next {m : Nat} {es : List Pair} (hf : Formed m es) {lk : Nat → Nat → Bool} {v : Nat} {R : Nat → Nat → Bool} (hR : ∀ x y, R x y = true ↔ Star (St m (bothB es) (notB v)) x y) (h : EstAll m es lk v) (hp : ∀ (q : Nat) (l : List Nat), (piecesS m (notB v) R)[q]? = some l → Est es lk v l) : EstAll m es lk (v + 1) := by
  intro v' u w i j hv hi hj h1 h2 hc
  by_cases e : v' = v
  · subst e
    have hu := h1.edge (ef_gr hf) (ef_edges hf) hi
    have hw := h2.edge (ef_gr hf) (ef_edges hf) hj
    obtain ⟨q, l, hq, hul, hwl⟩ := piece_ex hf hR hu.1.2.1 hw.1.2.1 (fun e => hu.2 e.symm) hc
    exact hp q l hq u w i j hul hwl hi hj h1 h2
  · exact h v' u w i j (by omega) hi hj h1 h2 hc

/-- At the end the links make just the blocks. -/
theorem links_blocks {m : Nat} {es : List Pair} (hf : Formed m es) {lk : Nat → Nat → Bool} (hl : Lks m es lk) (h : EstAll m es lk m) {i : Nat} (hi : i < es.length) (j : Nat) : Star (LkS es lk) i j ↔ Star (LkF m es) i j := by
  constructor
  · exact Star.mono fun a b hab => hl.sound a b hab.2.1
  · intro hs
    refine (Star.within (P := fun x => x < es.length ∧ Star (LkS es lk) i x) (f := fun _ _ => True) (fun a b ha hab => ?_) hs ⟨hi, .refl _⟩).1.2
    obtain ⟨h1, h2, v, u, w, h3, h4, h5⟩ := hab
    have hv := (h3.edge (ef_gr hf) (ef_edges hf) h1).1.1
    exact ⟨⟨h2, ha.2.trans (h v u w a b hv h1 h2 h3 h4 h5)⟩, trivial⟩

theorem piecesS_congr {N : Nat} {L : Nat → Bool} {R R' : Nat → Nat → Bool} (h : ∀ v x, v < N → x < N → R v x = R' v x) : piecesS N L R = piecesS N L R' := by
  unfold piecesS piecesTo
  have e1 : (List.range N).filter (firstB L R) = (List.range N).filter (firstB L R') := List.filter_congr fun v hv => by
    simp at hv
    rw [Bool.eq_iff_iff, firstB_iff, firstB_iff]
    constructor
    · rintro ⟨h1, h2⟩; exact ⟨h1, fun u hu hl => by rw [← h u v (by omega) hv]; exact h2 u hu hl⟩
    · rintro ⟨h1, h2⟩; exact ⟨h1, fun u hu hl => by rw [h u v (by omega) hv]; exact h2 u hu hl⟩
  rw [e1]
  refine List.map_congr_left fun v hv => ?_
  have hv' : v < N := by
    have := (List.mem_filter.1 hv).1
    simpa using this
  exact List.filter_congr fun x hx => h v x hv' (by simpa using hx)
end Go.Proofs.YtdnmoifbkojnlaaGreat

namespace Go.Proofs.YtdnmoifbkojnlaaGreat
set_option maxRecDepth 4000
open Go.RowKit Go.Maps
attribute [local go_sem ↓] Go.wp_at_zero Go.wp_at_succ

theorem two_new1 (w : World) (o : Obj) (x y : Value) (t : TypeId) : Two ((w.alloc o).alloc (Obj.cells #[x, y] t)) (w.heap.size + 1) x y t := by
  simpa [Two] using heap_alloc_new (w.alloc o) (Obj.cells #[x, y] t)

theorem bothB_symm (es : List Pair) (m : Nat) : ∀ a b, a < m → b < m → bothB es a b = true → bothB es b a = true := fun a b _ _ h => by unfold bothB at *; rw [hasB_comm]; exact h

set_option maxHeartbeats 400000 in
theorem components_bad (n : Int) (v : Value) (es : List Pair) (w : World) (hE : EdgesAt w v es) (hc : (chk n es).1 ≠ 0) :
    Calls Tryz.prog 16 #[.agg #[.int .i64 n, v]] w fun r w' => r = .returned (.tuple #[.slice none 0 0, .agg #[.int .i64 (chk n es).1, .int .i64 (chk n es).2]]) ∧ Below w.heap.size w w' := by
  have hc1 : ((chk n es).1 != 0) = true := by simpa using hc
  go_enter Tryz.func16, Tryz.ntmps16
  go_wp2_with (go_at_call 30; refine (check_any n v es _ ?_).mono ?_; exact hE.below (below2 _ _); rintro e w1 ⟨rfl, hb⟩; obtain ⟨bc, bf, bc1, bf1, bc2, bf2⟩ := bcell hb; have hz := hb.size; simp at hz)
  go_region
  go_wp2
  refine bodyPost_ret (v := .tuple #[.slice none 0 0, .agg #[.int .i64 (chk n es).1, .int .i64 (chk n es).2]]) ?_ rfl ⟨rfl, ?_⟩
  · simp [results, Tryz.results16, go_sem, bc1]
  · exact (((below_alloc (below_next (below2 _ _) hb) _).setCell (by simp) _).setCell (by simp) _).drew

theorem ListsAt.mono {w : World} {base base' : Nat} {v : Value} {ls : List (List Nat)} (h : ListsAt w base v ls) (hb : base' ≤ base) : ListsAt w base' v ls := by
  obtain ⟨vs, h1, h2, h3⟩ := h
  exact ⟨vs, h1, ownsRow_mono h2 hb, fun i x l hx hl => ownsRow_mono (h3 i x l hx hl) hb⟩

/-- What is held while a region goes on: an old box, and one for the fault that is answered. -/
def HeldC (w : World) (b1 b3 : Nat) (x y : Value) (wz : World) : Prop :=
  Below w.heap.size w wz ∧ Two wz b1 x y 24 ∧ Two wz b3 (.int .i64 0) (.int .i64 0) 27 ∧ wz.cell? ⟨b1, 0, none⟩ = some x ∧ wz.cell? ⟨b1, 1, none⟩ = some y ∧ wz.cell? ⟨b3, 0, none⟩ = some (.int .i64 0) ∧ wz.cell? ⟨b3, 1, none⟩ = some (.int .i64 0) ∧ wz.frozen? ⟨b3, 0, none⟩ = false ∧ wz.frozen? ⟨b3, 1, none⟩ = false
theorem heldC_mk {w wz : World} {b1 b3 : Nat} {x y : Value} (hb : Below w.heap.size w wz) (t1 : Two wz b1 x y 24) (t3 : Two wz b3 (.int .i64 0) (.int .i64 0) 27) : HeldC w b1 b3 x y wz :=
  ⟨hb, t1, t3, (cell_two t1).1, (cell_two t1).2, (cell_two t3).1, (cell_two t3).2, free_two t3 0, free_two t3 1⟩
theorem two_zero {w : World} {b : Nat} {t : TypeId} (h : Two w b (.int .i64 0) (.int .i64 0) t) : Two ((w.setCell ⟨b, 0, none⟩ (.int .i64 0)).setCell ⟨b, 1, none⟩ (.int .i64 0)) b (.int .i64 0) (.int .i64 0) t := by
  have hl := lt_of_block h
  unfold Two at h ⊢
  simp [World.setCell, Array.getElem?_modify, h]
theorem heldC_set {w wz : World} {b1 b3 : Nat} {x y : Value} (hne : b1 ≠ b3) (h3 : w.heap.size ≤ b3) (hb : Below w.heap.size w wz) (t1 : Two wz b1 x y 24) (t3 : Two wz b3 (.int .i64 0) (.int .i64 0) 27) : HeldC w b1 b3 x y ((wz.setCell ⟨b3, 0, none⟩ (.int .i64 0)).setCell ⟨b3, 1, none⟩ (.int .i64 0)) :=
  heldC_mk ((hb.setCell h3 _).setCell h3 _) (two_far (two_far t1 hne) hne) (two_zero t3)
set_option maxHeartbeats 1000000 in
theorem components_ok (m : Nat) (ao : Option Addr) (cap : Nat) (es : List Pair) (w : World) (hE : EdgesAt w (.slice ao es.length cap) es) (hc : (chk m es).1 = 0) (R : Nat → Nat → Bool) (hR : ∀ v x, R v x = true ↔ Star (St m (bothB es) allB) v x) :
    Calls Tryz.prog 16 #[.agg #[.int .i64 (m : Int), .slice ao es.length cap]] w fun r w' => ∃ v', r = .returned (.tuple #[v', .agg #[.int .i64 0, .int .i64 0]]) ∧ ListsAt w' w.heap.size v' (piecesS m allB R) ∧ Below w.heap.size w w' := by
  have hc1 : ((chk m es).1 != 0) = false := by simpa using hc
  obtain ⟨hck, hn0, hn1, hl, hgood⟩ := chk_good hc
  have HG : Hid _ := hgood
  have HR : Hid _ := hR
  have HE : Hid _ := hE
  have hm : m ≤ 100 := by omega
  clear hgood hR hE hn0 hn1
  go_enter Tryz.func16, Tryz.ntmps16
  go_upto_region 4 with (go_at_call 30; refine (check_any m _ es _ ?_).mono ?_; exact EdgesAt.below HE.out (below2 _ _); rintro e w1 ⟨rfl, hb⟩; obtain ⟨bc, bf, bc1, bf1, bc2, bf2⟩ := bcell hb; have hz := hb.size; simp at hz)
  have t1 : Two (w1.alloc (Obj.cells #[.int .i64 0, .int .i64 0] 27)) w.heap.size (.int .i64 (m : Int)) (.slice ao es.length cap) 24 := two_alloc (two_next (two_alloc (two_new w _ _ _) _) hb) _
  have t3 : Two (w1.alloc (Obj.cells #[.int .i64 0, .int .i64 0] 27)) (w.heap.size + 1) (.int .i64 0) (.int .i64 0) 27 := two_alloc (two_next (two_new1 w _ _ _ _) hb) _
  have hB := below_alloc (below_next (below2 _ _) hb) (Obj.cells #[.int .i64 0, .int .i64 0] 27)
  generalize w1.alloc (Obj.cells #[.int .i64 0, .int .i64 0] 27) = W at t1 t3 hB ⊢
  clear bc bf bc1 bf1 bc2 bf2 hz hb hc1
  go_region_held3 (fun wz => Below w.heap.size w wz ∧ Two wz w.heap.size (.int .i64 (m : Int)) (.slice ao es.length cap) 24 ∧ Two wz (w.heap.size + 1) (.int .i64 0) (.int .i64 0) 27 ∧ wz.cell? ⟨w.heap.size, 0, none⟩ = some (.int .i64 (m : Int)) ∧ wz.cell? ⟨w.heap.size, 1, none⟩ = some (.slice ao es.length cap) ∧ wz.cell? ⟨w.heap.size + 1, 0, none⟩ = some (.int .i64 0) ∧ wz.cell? ⟨w.heap.size + 1, 1, none⟩ = some (.int .i64 0) ∧ wz.frozen? ⟨w.heap.size + 1, 0, none⟩ = false ∧ wz.frozen? ⟨w.heap.size + 1, 1, none⟩ = false)
    (first | assumption | exact heldC_mk hB.drew t1 t3 | (go_split_ands; exact heldC_mk (below_next (by assumption) hbk) (two_next (by assumption) hbk) (two_next (by assumption) hbk)) | (go_split_ands; exact heldC_mk hbP tP1 tP3) | (go_split_ands; exact heldC_set (by omega) (by omega) (by assumption) (by assumption) (by assumption)))
    ((first
      | (go_at_call 32; go_split_ands; refine (bothWays_call m _ es _ ?_ (by omega) ?_).mono ?_; exact EdgesAt.below HE.out (by assumption); exact fun e he => (HG.out e he).1; rintro r wa ⟨na, rfl, hna, bl, hN1, hbl, hbk⟩; have hbA := below_next hB.drew hbk; have tA1 := two_next (W := W.drew) t1 hbk; have tA3 := two_next (W := W.drew) t3 hbk)
      | (go_at_call 33; refine (all_call m _ (by omega)).mono ?_; rintro r wb ⟨bL, rfl, hbL, hS1, hbk⟩; have hN2 := hN1.below hbk; have hbW := below_next hbA hbk; have tW1 := two_next tA1 hbk; have tW3 := two_next tA3 hbk)
      | (go_at_call 31; go_split_ands; refine (pieces_call hN2 (hS1.congr (T := allB) (fun _ _ => rfl)) (fun i hi e => by have := (hN1.sets i hi).lt; omega) (by omega) (bothB_symm es m) R HR.out).mono ?_; rintro r wc ⟨vp, rfl, hls, htc⟩; have hbP := htc.below hbW hbW.size (fun k hk => by have := hbA.size; omega); have hlA := lt_of_block tA3; have tP1 := two_turns tW1 htc (by omega); have tP3 := two_turns tW3 htc (by omega); obtain ⟨po, pc, rfl⟩ := hls.form)))
  all_goals
    go_split_ands
    go_wp2
    refine bodyPost_ret (v := .tuple #[.slice po (piecesS m allB R).length pc, .agg #[.int .i64 0, .int .i64 0]]) ?_ rfl ⟨_, rfl, ?_, ?_⟩
    · simp [results, Tryz.results16, go_sem, *]
    · have hlb := lt_of_block tW3
      exact ((hls.turns (setCell_turns _ _ _ _) (fun k hk => Or.inl (by omega))).turns (setCell_turns _ _ _ _) (fun k hk => Or.inl (by omega))).mono hbW.size
    · exact (hbP.setCell (by simp) _).setCell (by simp) _
end Go.Proofs.YtdnmoifbkojnlaaGreat

namespace Go.Proofs.YtdnmoifbkojnlaaGreat
set_option maxRecDepth 4000
open Go.RowKit Go.Maps
attribute [local go_sem ↓] Go.wp_at_zero Go.wp_at_succ

/-- How the memory stands while ringed goes on. -/
structure RI (w wr : World) (m : Nat) (es : List Pair) (eo : Option Addr) (cap bn : Nat) (na : Option Addr) (bl1 : Nat → Nat) (la : Option Addr) (bl2 : Nat → Nat) (lk : Nat → Nat → Bool) : Prop where
  box : Two wr w.heap.size (.int .i64 (m : Int)) (.slice eo es.length cap) 24
  num : NumAt wr bn es es.length
  near : NearsAt wr na m bl1 (bothB es)
  link : NearsAt wr la es.length bl2 lk
  below : Below w.heap.size w wr
  neN : ∀ i, i < es.length → bn ≠ bl2 i
  neL : ∀ i j, i < es.length → j < m → bl1 j ≠ bl2 i
  ge : ∀ i, i < es.length → w.heap.size < bl2 i

theorem NearsAt.fresh {M : Nat → Prop} {w w' : World} {ao : Option Addr} {n : Nat} {bl : Nat → Nat} {e : Nat → Nat → Bool} (h : NearsAt w ao n bl e) (ht : Turns M w w') (hm : ∀ k, M k → w.heap.size ≤ k) : NearsAt w' ao n bl e := by
  refine ⟨h.inj, fun i hi => ?_, fun i hi => (h.sets i hi).turns ht (fun h' => by have := hm _ h'; have := (h.sets i hi).lt; omega)⟩
  obtain ⟨g, e1, c⟩ := h.row i hi
  have hl := World.block_lt_of_cell? w _ c
  exact ⟨g, e1, cell_turns c ht (fun h' => by have := hm _ h'; omega)⟩
/-- Other sets are filled. -/
theorem NearsAt.marks {M : Nat → Prop} {w w' : World} {ao : Option Addr} {n : Nat} {bl : Nat → Nat} {e : Nat → Nat → Bool} (h : NearsAt w ao n bl e) (ht : Turns M w w') (hm : ∀ k, M k → ∃ ms c, w.heap[k]? = some (.map ms c)) (hb : ∀ i, i < n → ¬ M (bl i)) : NearsAt w' ao n bl e := by
  refine ⟨h.inj, fun i hi => ?_, fun i hi => (h.sets i hi).turns ht (hb i hi)⟩
  obtain ⟨g, e1, c⟩ := h.row i hi
  refine ⟨g, e1, cell_turns c ht (fun h' => ?_)⟩
  obtain ⟨ms, ck, hc⟩ := hm _ h'
  simp [World.cell?, hc] at c

theorem RI.turns {M : Nat → Prop} {w wr wr' : World} {m : Nat} {es : List Pair} {eo : Option Addr} {cap bn : Nat} {na : Option Addr} {bl1 : Nat → Nat} {la : Option Addr} {bl2 : Nat → Nat} {lk : Nat → Nat → Bool} (h : RI w wr m es eo cap bn na bl1 la bl2 lk) (ht : Turns M wr wr') (hm : ∀ k, M k → wr.heap.size ≤ k) : RI w wr' m es eo cap bn na bl1 la bl2 lk := by
  have hs := h.below.size
  have lt1 := lt_of_block h.box
  refine ⟨two_turns h.box ht (fun h' => by have := hm _ h'; omega), h.num.turns ht (fun h' => by have := hm _ h'; have := h.num.lt; omega), h.near.fresh ht hm, h.link.fresh ht hm, ht.below h.below hs (fun k hk => by have := hm k hk; omega), h.neN, h.neL, h.ge⟩
theorem RI.below' {w wr wr' : World} {m : Nat} {es : List Pair} {eo : Option Addr} {cap bn : Nat} {na : Option Addr} {bl1 : Nat → Nat} {la : Option Addr} {bl2 : Nat → Nat} {lk : Nat → Nat → Bool} (h : RI w wr m es eo cap bn na bl1 la bl2 lk) (hb : Below wr.heap.size wr wr') : RI w wr' m es eo cap bn na bl1 la bl2 lk := h.turns (Turns.of_below hb (fun _ => False)) (fun _ h => h.elim)
theorem RI.marks {w wr : World} {m : Nat} {es : List Pair} {eo : Option Addr} {cap bn : Nat} {na : Option Addr} {bl1 : Nat → Nat} {la : Option Addr} {bl2 : Nat → Nat} {lk : Nat → Nat → Bool} (h : RI w wr m es eo cap bn na bl1 la bl2 lk) : ∀ k, Marks es.length bl2 k → ∃ ms c, wr.heap[k]? = some (.map ms c) := by
  rintro k ⟨i, hi, rfl⟩
  exact (h.link.sets i hi).isMap
theorem RI.join {w wr wr' : World} {m : Nat} {es : List Pair} {eo : Option Addr} {cap bn : Nat} {na : Option Addr} {bl1 : Nat → Nat} {la : Option Addr} {bl2 : Nat → Nat} {lk lk' : Nat → Nat → Bool} (h : RI w wr m es eo cap bn na bl1 la bl2 lk) (hl : NearsAt wr' la es.length bl2 lk') (ht : Turns (Marks es.length bl2) wr wr') : RI w wr' m es eo cap bn na bl1 la bl2 lk' := by
  refine ⟨two_turns h.box ht (fun h' => ?_), h.num.turns ht (fun ⟨i, hi, e⟩ => h.neN i hi e), h.near.marks ht h.marks (fun j hj ⟨i, hi, e⟩ => h.neL i j hi hj e), hl, ht.below h.below h.below.size (fun k ⟨i, hi, e⟩ => by have := h.ge i hi; omega), h.neN, h.neL, h.ge⟩
  obtain ⟨ms, c, hc⟩ := h.marks _ h'
  have := h.box
  unfold Two at this
  rw [hc] at this; cases this

theorem ListsAt.at {w : World} {base : Nat} {ao : Option Addr} {n cap : Nat} {ls : List (List Nat)} (h : ListsAt w base (.slice ao n cap) ls) {q : Nat} {l : List Nat} (hq : ls[q]? = some l) : ∃ g xo xc, ao = some ⟨g, 0, none⟩ ∧ w.cell? ⟨g, q, none⟩ = some (.slice xo l.length xc) ∧ w.ownsRow base 3 1 (.slice xo l.length xc) l.length (qv l) := by
  obtain ⟨vs, h1, h2, h3⟩ := h
  have hl := (List.getElem?_eq_some_iff.1 hq).1
  obtain ⟨x, hx⟩ : ∃ x, vs[q]? = some x := ⟨vs[q]'(by omega), List.getElem?_eq_getElem (by omega)⟩
  have hr := h3 q x l hx hq
  obtain ⟨xo, xc, rfl⟩ := form_row hr
  rcases h2.2 with ⟨_, e⟩ | ⟨g, c, cur, e, _⟩
  · omega
  · cases e
    refine ⟨g, xo, xc, rfl, ?_, hr⟩
    have := h2.cells (g := g) rfl q _ hx
    rw [add_none] at this
    exact this
theorem ownsRow_marks {M : Nat → Prop} {w w' : World} {base : Nat} {t : TypeId} {x : Value} {n : Nat} {xs : List Value} (ho : w.ownsRow base t 1 x n xs) (ht : Turns M w w') (hm : ∀ k, M k → ∃ es c, w.heap[k]? = some (.map es c)) : w'.ownsRow base t 1 x n xs := by
  refine ownsRow_blocks ho fun b hb => ht.block b (ho.lt b hb).2 fun hmb => ?_
  obtain ⟨es, c, h'⟩ := hm b hmb
  obtain ⟨cur, hc⟩ := own_cells ho hb
  rw [hc] at h'; cases h'
theorem cast_min (u v : Nat) : ((min u v : Nat) : Int) = min (u : Int) (v : Int) := by omega
theorem cast_max (u v : Nat) : ((max u v : Nat) : Int) = max (u : Int) (v : Int) := by omega

set_option maxHeartbeats 4000000 in
theorem ringed_call (m : Nat) (eo : Option Addr) (cap : Nat) (es : List Pair) (w : World) (hE : EdgesAt w (.slice eo es.length cap) es) (hm : m ≤ 100) (hl : es.length ≤ 1000) (hf : Formed m es) :
    Calls Tryz.prog 57 #[.agg #[.int .i64 (m : Int), .slice eo es.length cap]] w fun r w' => ∃ la bl2 lk, r = .returned (.slice la es.length es.length) ∧ NearsAt w' la es.length bl2 lk ∧ Lks m es lk ∧ EstAll m es lk m ∧ (∀ i, i < es.length → w.heap.size < bl2 i) ∧ Below w.heap.size w w' := by
  have hmm := @run_makeMap Tryz.prog
  obtain ⟨eo', cap', e0, hl2, hI, hcells⟩ := id hE
  cases e0
  have hI' : ∀ (i : Nat) (u v : Int), es[i]? = some (u, v) → I64 u ∧ I64 v := fun i u v h => hI _ (List.mem_of_getElem? h)
  have hgood : ∀ e ∈ es, 0 ≤ e.1 ∧ e.1 < m ∧ 0 ≤ e.2 ∧ e.2 < m := fun e he => by
    obtain ⟨i, hi⟩ := List.mem_iff_getElem?.1 he
    obtain ⟨x, y, rfl, h1, h2⟩ := hf.ok i e hi
    simp; omega
  have HE : Hid _ := hE
  have HF : Hid _ := hf
  have HI : Hid _ := hI'
  have HG : Hid _ := hgood
  have HC : Hid _ := hcells
  clear hE hf hI hI' hgood hcells
  go_enter Tryz.func57, Tryz.ntmps57
  go_upto_region 2 with (fail)
  have t1 : Two ((w.alloc (Obj.cells #[.int .i64 (m : Int), .slice eo es.length cap] 24)).alloc (.map #[] 0)) w.heap.size (.int .i64 (m : Int)) (.slice eo es.length cap) 24 := two_alloc (two_new w _ _ _) _
  have hn1 := numAt_made (w.alloc (Obj.cells #[.int .i64 (m : Int), .slice eo es.length cap] 24)) es
  have hB1 : Below w.heap.size w ((w.alloc (Obj.cells #[.int .i64 (m : Int), .slice eo es.length cap] 24)).alloc (.map #[] 0)) := below2 _ _
  have e1 : (w.alloc (Obj.cells #[.int .i64 (m : Int), .slice eo es.length cap] 24)).heap.size = w.heap.size + 1 := by simp
  rw [e1] at hn1
  generalize (w.alloc (Obj.cells #[.int .i64 (m : Int), .slice eo es.length cap] 24)).alloc (.map #[] 0) = W1 at t1 hn1 hB1 ⊢
  clear e1 hmm
  obtain ⟨y1, y2⟩ := cell_two t1
  go_wp2
  clear y1 y2
  go_loopw [21] (fun i wr => ∃ k : Nat, k ≤ es.length ∧ i = .int .i64 (k : Int) ∧ NumAt wr (w.heap.size + 1) es k ∧ Two wr w.heap.size (.int .i64 (m : Int)) (.slice eo es.length cap) 24 ∧ Below w.heap.size w wr) (fun i _ => es.length - (numOf i).toNat)
  case atStart => exact ⟨0, Nat.zero_le _, rfl, hn1, t1, hB1⟩
  case round =>
    obtain ⟨k, hk, rfl, hnum, tbox, hB⟩ := hrel
    clear hn1 t1 hB1
    by_cases hlt : k < es.length
    · obtain ⟨b, off, rfl, cx, cy⟩ := HC.out k hlt
      obtain ⟨x, y, hxy⟩ : ∃ x y, es[k] = (x, y) := ⟨es[k].1, es[k].2, rfl⟩
      rw [hxy] at cx cy
      have hb := World.block_lt_of_cell? w _ cx
      rw [← hB.cell (by exact hb)] at cx cy
      have hk? : es[k]? = some (x, y) := by rw [List.getElem?_eq_getElem hlt, hxy]
      have hIxy := HI.out k x y hk?
      obtain ⟨w2, hrun, hn2, ht2⟩ := NumAt.store HF.out (hnum.turns (alloc_turns wr (Obj.cells #[.int .i64 x, .int .i64 y] 42) (fun _ => False)) (fun h => h)) hk? hIxy.1 hIxy.2 (by omega) HI.out
      clear hxy hk? hIxy
      go_wp2
      go_roundw
      case rel =>
        have T2 := (alloc_turns wr (Obj.cells #[.int .i64 x, .int .i64 y] 42) (fun j => j = w.heap.size + 1)).trans (turned_turns ht2)
        exact ⟨k + 1, by omega, by go_num, hn2, two_turns tbox T2 (by omega), T2.below hB hB.size (fun j hj => by omega)⟩
      case measure => simp [numOf]; omega
    · have hke : k = es.length := by omega
      subst hke
      obtain ⟨y1, y2⟩ := cell_two tbox
      have hsz := hB.size
      go_wp2_with (first
        | (go_at_call 32; refine (bothWays_call m _ es _ ?_ (by omega) HG.out).mono ?_; exact EdgesAt.below HE.out hB; rintro r wa ⟨na, rfl, hna, bl1, hN1, hbl1, hb1⟩; have tA := two_next tbox hb1; obtain ⟨z1, z2⟩ := cell_two tA)
        | (go_at_call 54; refine (empties_call es.length _ (by omega)).mono ?_; rintro r wb ⟨la, rfl, hla, bl2, hN2, hbl2, hb2⟩; have tB := two_next tA hb2; obtain ⟨z3, z4⟩ := cell_two tB))
      have hri : RI w wb m es eo cap (w.heap.size + 1) na bl1 la bl2 (fun _ _ => false) := by
        have s1 := hb1.size
        have l1 := hnum.lt
        refine ⟨tB, (hnum.block (hb1.block _ l1)).block (hb2.block _ (by omega)), hN1.below hb2, hN2, below_next (below_next hB hb1) hb2, fun i hi e => by have := hbl2 i hi; omega, fun i j hi hj e => by have := hbl2 i hi; have := (hN1.sets j hj).lt; omega, fun i hi => by have := hbl2 i hi; omega⟩
      clear y1 y2 z1 z2 z3 z4 tA tB hN1 hN2 hb1 hb2 hbl1 hbl2 tbox hnum hB hsz hna hla
      go_loopw [41] (fun i wr => ∃ v : Nat, v ≤ m ∧ i = .int .i64 (v : Int) ∧ ∃ lk, RI w wr m es eo cap (w.heap.size + 1) na bl1 la bl2 lk ∧ Lks m es lk ∧ EstAll m es lk v) (fun i _ => m - (numOf i).toNat)
      case atStart => exact ⟨0, Nat.zero_le _, rfl, _, hri, ⟨fun _ _ h => (by cases h), fun _ _ h => (by cases h)⟩, fun v _ _ _ _ h => by omega⟩
      case round =>
        obtain ⟨v, hv, rfl, lk, hri2, hlks, hest⟩ := hrel
        clear hri
        by_cases hvm : v < m
        · obtain ⟨y1, y2⟩ := cell_two hri2.box
          obtain ⟨R, hR⟩ := ex2 (fun x y => Star (St m (bothB es) (notB v)) x y)
          have HR : Hid _ := hR
          have HL : Hid _ := hlks
          have HS : Hid _ := hest
          clear hR hlks hest
          have hm6 : m ≤ 1000000 := by omega
          go_wp2_with (first
            | (go_at_call 33; refine (all_call m _ (by omega)).mono ?_; rintro r wa ⟨bL, rfl, hbL, hS1, hb1⟩; obtain ⟨DL, hownL, hhasL⟩ := hS1)
            | (at_delete; refine wpList_delete_own _ rfl _ _ 66 3 rfl 89 Tryz.lawI Tryz.underlying66 _ bL m DL rfl hownL _ _ rfl (hkeyI (natI hm6 hvm)) ?_; intro wb hownb hturnb; have hSb := setN_del (S := allB) hhasL hownb; have Tb := (Turns.of_below hb1 (fun k => k = bL)).trans (turned_turns hturnb); have hriB := hri2.turns Tb (fun k hk => by omega))
            | (go_at_call 31; refine (pieces_call hriB.near (hSb.congr (T := notB v) (fun k _ => by simp [notB, allB])) (fun i hi e => by have := (hri2.near.sets i hi).lt; omega) (by omega) (bothB_symm es m) R HR.out).mono ?_; rintro r wc ⟨vp, rfl, hls, htc⟩; obtain ⟨po, pc, rfl⟩ := hls.form)
            | go_in)
          have Tc := Tb.trans htc
          have hriC := hri2.turns Tc (fun k hk => by omega)
          obtain ⟨PL, hPL⟩ : ∃ PL, PL = piecesS m (notB v) R := ⟨_, rfl⟩
          rw [← hPL] at hls ⊢
          have hle : PL.length ≤ m := by rw [hPL]; exact piecesTo_le _ _ _ _
          obtain ⟨base, hbase⟩ : ∃ base, base = wb.heap.size := ⟨_, rfl⟩
          rw [← hbase] at hls
          have HP : Hid _ := hPL
          clear hPL hbase Tc Tb htc hriB hSb hownb hturnb hownL hhasL hb1 hri2 y1 y2
          go_loopw [53] (fun i wr => ∃ q : Nat, q ≤ PL.length ∧ i = .int .i64 (q : Int) ∧ ∃ lk3, RI w wr m es eo cap (w.heap.size + 1) na bl1 la bl2 lk3 ∧ Lks m es lk3 ∧ Sub lk lk3 ∧ ListsAt wr base (.slice po PL.length pc) PL ∧ ∀ (q' : Nat) (l : List Nat), q' < q → PL[q']? = some l → Est es lk3 v l) (fun i _ => PL.length - (numOf i).toNat)
          case atStart => exact ⟨0, Nat.zero_le _, rfl, lk, hriC, HL.out, Sub.refl _, hls, fun q' l h => by omega⟩
          case round =>
            obtain ⟨q, hq, rfl, lk3, hri3, hl3, hsub3, hls3, hest3⟩ := hrel
            have HL3 : Hid _ := hl3
            have HE3 : Hid _ := hest3
            clear hriC hls hl3 hest3
            by_cases hqlt : q < PL.length
            · obtain ⟨l, hq?⟩ : ∃ l, PL[q]? = some l := ⟨PL[q], List.getElem?_eq_getElem hqlt⟩
              obtain ⟨g, xo, xc, rfl, cg, hrow⟩ := hls3.at hq?
              have HQ : Hid _ := hq?
              clear hq?
              have hll : l.length ≤ m := by
                have h1 := List.mem_of_getElem? HQ.out
                rw [HP.out] at h1
                simp only [piecesS, piecesTo, List.mem_map] at h1
                obtain ⟨r, _, rfl⟩ := h1
                exact Nat.le_trans (List.length_filter_le _ _) (by simp)
              go_wp2
              clear cg
              go_loopw [12, 59] (fun last i wr => ∃ t : Nat, t ≤ l.length ∧ i = .int .i64 (t : Int) ∧ ∃ (z : Int) (lk4 : Nat → Nat → Bool), last = .int .i64 z ∧ RI w wr m es eo cap (w.heap.size + 1) na bl1 la bl2 lk4 ∧ Lks m es lk4 ∧ Sub lk3 lk4 ∧ ListsAt wr base (.slice (some ⟨g, 0, none⟩) PL.length pc) PL ∧ wr.ownsRow base 3 1 (.slice xo l.length xc) l.length (qv l) ∧ Chain es lk4 v l t z) (fun _ i _ => l.length - (numOf i).toNat)
              case atStart => exact ⟨0, Nat.zero_le _, rfl, -1, lk3, rfl, hri3, HL3.out, Sub.refl _, hls3, hrow, chain_start _ _ _ _⟩
              case round =>
                obtain ⟨t, ht, rfl, z, lk4, rfl, hri4, hl4, hsub4, hls4, hrow4, hch⟩ := hrel
                clear hri3 hls3 hrow
                have HL4 : Hid _ := hl4
                have HCH : Hid _ := hch
                clear hl4 hch
                by_cases htl : t < l.length
                · obtain ⟨u, hu?⟩ : ∃ u, l[t]? = some u := ⟨l[t], List.getElem?_eq_getElem htl⟩
                  obtain ⟨gx, rfl, cu⟩ := qcell hrow4 hu?
                  have hPQ : (piecesS m (notB v) R)[q]? = some l := by rw [← HP.out]; exact HQ.out
                  have hum : u < m := (piece_con HF.out HR.out hPQ (List.mem_of_getElem? hu?) (List.mem_of_getElem? hu?)).1
                  have HU : Hid _ := hu?
                  have HPQ : Hid _ := hPQ
                  clear hu? hPQ
                  have i1 : (0 : Int) ≤ (t : Int) := by omega
                  have i2 : (t : Int) < (l.length : Int) := by omega
                  have hI1 : I64 (min (u : Int) (v : Int)) := ⟨by omega, by omega⟩
                  have hI2 : I64 (max (u : Int) (v : Int)) := ⟨by omega, by omega⟩
                  by_cases hex : ∃ i : Nat, i < es.length ∧ es[i]? = some (min (u : Int) (v : Int), max (u : Int) (v : Int))
                  · obtain ⟨a, ha, he⟩ := hex
                    have hlook := hri4.num.look hI1 hI2 ha he
                    have hinc : Inc (elf es) a v u := (inc_iff HF.out ha v u).2 (by rw [cast_min, cast_max]; exact he)
                    have HN : Hid _ := hinc
                    clear hinc he
                    by_cases hz : 0 ≤ z
                    · obtain ⟨sn, rfl⟩ : ∃ sn : Nat, z = sn := ⟨z.toNat, by omega⟩
                      obtain ⟨hsn, u0, hu0, hinc0⟩ := Chain.node HCH.out
                      have hlk : LkF m es sn a := ⟨hsn, ha, v, u0, u, hinc0, HN.out, (piece_con HF.out HR.out HPQ.out hu0 (List.mem_of_getElem? HU.out)).2⟩
                      have HK : Hid _ := hlk
                      clear hlk hinc0
                      go_wp2_with (first | (go_at_call 55; refine (join_call hri4.link (by omega) (a := sn) (b := a) hsn ha).mono ?_; rintro r w5 ⟨rfl, hN5, ht5⟩) | go_in)
                      go_roundw
                      case rel => exact ⟨t + 1, by omega, by go_num, a, lkAdd lk4 sn a, rfl, hri4.join hN5 ht5, Lks.add HF.out HL4.out HK.out, hsub4.trans (sub_add _ _ _), hls4.turns ht5 (fun k hk => Or.inr (hri4.marks k hk)), ownsRow_marks hrow4 ht5 hri4.marks, Chain.more HF.out HCH.out HU.out ha HN.out⟩
                      case measure => simp [numOf]; omega
                    · have hz1 : z = -1 := by
                        rcases HCH.out with ⟨h1, _⟩ | ⟨s', _, _, h2, _⟩
                        · exact h1
                        · omega
                      subst hz1
                      go_wp2
                      go_roundw
                      case rel => exact ⟨t + 1, by omega, by go_num, a, lk4, rfl, hri4, HL4.out, hsub4, hls4, hrow4, Chain.first HF.out HCH.out HU.out ha HN.out⟩
                      case measure => simp [numOf]; omega
                  · have hlook := hri4.num.miss hI1 hI2 hex
                    have hno : ∀ i, i < es.length → ¬ Inc (elf es) i v u := fun i hi hinc => hex ⟨i, hi, by have := (inc_iff HF.out hi v u).1 hinc; rw [cast_min, cast_max] at this; exact this⟩
                    have HN : Hid _ := hno
                    clear hno hex
                    go_wp2
                    go_roundw
                    case rel => exact ⟨t + 1, by omega, by go_num, z, lk4, rfl, hri4, HL4.out, hsub4, hls4, hrow4, Chain.skip HCH.out HU.out HN.out⟩
                    case measure => simp [numOf]; omega
                · have : t = l.length := by omega
                  subst this
                  go_wp2
                  go_roundw
                  case rel =>
                    refine ⟨q + 1, by omega, by go_num, lk4, hri4, HL4.out, hsub3.trans hsub4, hls4, fun q' l' hq' hl' => ?_⟩
                    by_cases e : q' = q
                    · subst e
                      rw [HQ.out] at hl'
                      cases hl'
                      exact Chain.done HL4.out HCH.out
                    · exact Est.sub (HE3.out q' l' (by omega) hl') hsub4
                  case measure => simp [numOf]; omega
            · have : q = PL.length := by omega
              subst this
              go_wp2
              go_roundw
              case rel =>
                refine ⟨v + 1, by omega, by go_num, lk3, hri3, HL3.out, EstAll.next HF.out HR.out (EstAll.sub HS.out hsub3) (fun q l hl' => ?_)⟩
                rw [← HP.out] at hl'
                exact HE3.out q l (List.getElem?_eq_some_iff.1 hl').1 hl'
              case measure => simp [numOf]; omega
        · have : v = m := by omega
          subst this
          go_wp2
          go_ret
          exact ⟨la, bl2, lk, rfl, hri2.link, hlks, hest, hri2.ge, hri2.below⟩
end Go.Proofs.YtdnmoifbkojnlaaGreat

namespace Go.Proofs.YtdnmoifbkojnlaaGreat
set_option maxRecDepth 4000
open Go.RowKit Go.Maps
attribute [local go_sem ↓] Go.wp_at_zero Go.wp_at_succ

theorem Tryz.info22 : (Tryz.prog.info? 22).map (fun i => (i.zero, i.size, i.bytes)) = some (some (.slice none 0 0), 1, 24) := by kernel_rfl

/-- A slice of slices of edges, all of its own. -/
def BlocksAt (w : World) (base : Nat) (v : Value) (bs : List (List Pair)) : Prop :=
  ∃ vs : List Value, vs.length = bs.length ∧ w.ownsRow base 22 1 v bs.length vs ∧ ∀ (i : Nat) (x : Value) (l : List Pair), vs[i]? = some x → bs[i]? = some l → w.ownsRow base 42 2 x l.length (flat l)
theorem blocksAt_nil (w : World) (base : Nat) : BlocksAt w base (.slice none 0 0) [] := ⟨[], rfl, World.ownsRow_nil _ _ _ _, fun i x l h => by simp at h⟩
theorem BlocksAt.form {w : World} {base : Nat} {v : Value} {bs : List (List Pair)} (h : BlocksAt w base v bs) : ∃ ao cap, v = .slice ao bs.length cap := by
  obtain ⟨vs, _, h2, _⟩ := h
  exact form_row h2
theorem BlocksAt.turns {M : Nat → Prop} {w w' : World} {base : Nat} {v : Value} {bs : List (List Pair)} (h : BlocksAt w base v bs) (ht : Turns M w w') (hm : ∀ k, M k → k < base ∨ w.heap.size ≤ k ∨ ∃ cur t, t ≠ 22 ∧ t ≠ 42 ∧ w.heap[k]? = some (.cells cur t (0, 0))) : BlocksAt w' base v bs := by
  obtain ⟨vs, h1, h2, h3⟩ := h
  have key : ∀ {t : TypeId} {sz : Nat} {x : Value} {n : Nat} {xs : List Value}, (t = 22 ∨ t = 42) → w.ownsRow base t sz x n xs → w'.ownsRow base t sz x n xs := by
    intro t sz x n xs ht' ho
    refine ownsRow_blocks ho fun b hb => ht.block b (ho.lt b hb).2 fun hmb => ?_
    rcases hm b hmb with h' | h' | ⟨cur, t', n1, n2, h'⟩
    · have := (ho.lt b hb).1; omega
    · have := (ho.lt b hb).2; omega
    · obtain ⟨cur', hc⟩ := own_cells ho hb
      rw [hc] at h'
      simp at h'
      rcases ht' with e | e
      · exact n1 (h'.2.symm.trans e)
      · exact n2 (h'.2.symm.trans e)
  exact ⟨vs, h1, key (Or.inl rfl) h2, fun i x l hx hl => key (Or.inr rfl) (h3 i x l hx hl)⟩
theorem BlocksAt.mono {w : World} {base base' : Nat} {v : Value} {bs : List (List Pair)} (h : BlocksAt w base v bs) (hb : base' ≤ base) : BlocksAt w base' v bs := by
  obtain ⟨vs, h1, h2, h3⟩ := h
  exact ⟨vs, h1, ownsRow_mono h2 hb, fun i x l hx hl => ownsRow_mono (h3 i x l hx hl) hb⟩
theorem blocksAt_push {w w1 : World} {base : Nat} {v v' : Value} {bs : List (List Pair)} {x : Value} {l : List Pair} {o : Obj} (hx : w.ownsRow base 42 2 x l.length (flat l)) {vs : List Value} (hvs : vs.length = bs.length) (hrow : w.ownsRow base 22 1 v bs.length vs)
    (hel : ∀ (i : Nat) (x : Value) (l : List Pair), vs[i]? = some x → bs[i]? = some l → w.ownsRow base 42 2 x l.length (flat l)) (hown : w1.ownsRow base 22 1 v' (bs.length + 1) (vs ++ [x])) (hg : (w.alloc o).grownBy w1 v.ownBlock) : BlocksAt w1 base v' (bs ++ [l]) := by
  have T := (alloc_turns w o (fun k => some k = v.ownBlock)).trans (Turns.of_grown hg)
  have key : ∀ {x : Value} {n : Nat} {xs : List Value}, w.ownsRow base 42 2 x n xs → w1.ownsRow base 42 2 x n xs := by
    intro x n xs ho
    refine ownsRow_blocks ho fun b hb => T.block b (ho.lt b hb).2 fun hmb => ?_
    obtain ⟨c1, h1⟩ := own_cells ho hb
    obtain ⟨c2, h2⟩ := own_cells hrow hmb.symm
    rw [h1] at h2; simp at h2
  refine ⟨vs ++ [x], by simp [hvs], by simpa using hown, fun i y m hy hm => ?_⟩
  by_cases hi : i < bs.length
  · rw [List.getElem?_append_left (by omega)] at hy hm
    exact key (hel i y m hy hm)
  · rw [List.getElem?_append_right (by omega)] at hy hm
    by_cases h0 : i - bs.length = 0
    · rw [hvs, h0] at hy; rw [h0] at hm
      simp at hy hm
      subst hy; subst hm
      exact key hx
    · rw [List.getElem?_eq_none (by simp; omega)] at hm; cases hm

def edgesL (fes : List Pair) (l : List Nat) : List Pair := l.map fun i => fes.getD i (0, 0)
def blocksS (fes : List Pair) (RK : Nat → Nat → Bool) : List (List Pair) := (piecesS fes.length allB RK).map (edgesL fes)

theorem formed_all (m : Nat) (p : Int → Int → Bool) : Formed m (allP m p) where
  nodup := allP_nodup m p
  ok := fun i e h => by
    obtain ⟨u, v, h1, h2, _, rfl⟩ := allP_mem.1 (List.mem_of_getElem? h)
    exact ⟨u, v, rfl, h1, h2⟩

theorem wide_form {n : Int} {v : Value} {es : List Pair} {w : World} (hE : EdgesAt w v es) {a : Ans} (h : formS n es = a) : Tells 15 #[.agg #[.int .i64 n, v]] w a := form_as hE h

set_option maxHeartbeats 400000 in
theorem blocks_bad (n : Int) (v : Value) (es : List Pair) (w : World) (hE : EdgesAt w v es) (hc : (chk n es).1 ≠ 0) :
    Calls Tryz.prog 34 #[.agg #[.int .i64 n, v]] w fun r w' => r = .returned (.tuple #[.slice none 0 0, .agg #[.int .i64 (chk n es).1, .int .i64 (chk n es).2]]) ∧ Below w.heap.size w w' := by
  have hc1 : ((chk n es).1 != 0) = true := by simpa using hc
  have hfs : formS n es = ⟨0, [], (chk n es).1, (chk n es).2⟩ := by unfold formS; rw [if_neg hc]
  go_enter Tryz.func34, Tryz.ntmps34
  go_wp2_with (go_at_call 15; refine (form_as (a := ⟨0, [], (chk n es).1, (chk n es).2⟩) ?_ hfs).mono ?_; exact hE.below (below2 _ _); rintro e w1 ⟨hb, lo, lc, rfl, hEl, hfr⟩; obtain ⟨bc, bf, bc1, bf1, bc2, bf2⟩ := bcell hb; have hz := hb.size; simp at hz)
  go_region
  go_wp2
  refine bodyPost_ret (v := .tuple #[.slice none 0 0, .agg #[.int .i64 (chk n es).1, .int .i64 (chk n es).2]]) ?_ rfl ⟨rfl, ?_⟩
  · simp [results, Tryz.results34, go_sem, bc2]
  · exact (((below_alloc (below_alloc (below_next (below2 _ _) hb) _) _).setCell (by simp) _).setCell (by simp) _).drew

theorem EdgesAt.marks {M : Nat → Prop} {w w' : World} {v : Value} {es : List Pair} (h : EdgesAt w v es) (ht : Turns M w w') (hm : ∀ k, M k → ∃ ms c, w.heap[k]? = some (.map ms c)) : EdgesAt w' v es := by
  obtain ⟨ao, cap, h1, h2, h3, h4⟩ := h
  refine ⟨ao, cap, h1, h2, h3, fun k hk => ?_⟩
  obtain ⟨b, off, e, c0, c1⟩ := h4 k hk
  have hn : ¬ M b := fun hb => by
    obtain ⟨ms, c, hc⟩ := hm b hb
    simp [World.cell?, hc] at c0
  exact ⟨b, off, e, cell_turns c0 ht hn, cell_turns c1 ht hn⟩
theorem edgesL_take (fes : List Pair) {l : List Nat} {t u : Nat} (h : l[t]? = some u) : edgesL fes (l.take (t + 1)) = edgesL fes (l.take t) ++ [fes.getD u (0, 0)] := by
  rw [take_at h]; simp [edgesL]
theorem edgesL_len (fes : List Pair) (l : List Nat) : (edgesL fes l).length = l.length := by simp [edgesL]
theorem ListsAt.below {w w' : World} {base : Nat} {v : Value} {ls : List (List Nat)} (h : ListsAt w base v ls) (hb : Below w.heap.size w w') : ListsAt w' base v ls := h.turns (Turns.of_below hb (fun _ => False)) (fun _ h => h.elim)
theorem BlocksAt.below {w w' : World} {base : Nat} {v : Value} {bs : List (List Pair)} (h : BlocksAt w base v bs) (hb : Below w.heap.size w w') : BlocksAt w' base v bs := h.turns (Turns.of_below hb (fun _ => False)) (fun _ h => h.elim)
theorem piece_lt {N : Nat} {L : Nat → Bool} {R : Nat → Nat → Bool} {q : Nat} {l : List Nat} (h : (piecesS N L R)[q]? = some l) : l.length ≤ N ∧ ∀ x, x ∈ l → x < N := by
  have h1 := List.mem_of_getElem? h
  simp only [piecesS, piecesTo, List.mem_map] at h1
  obtain ⟨r, _, rfl⟩ := h1
  refine ⟨Nat.le_trans (List.length_filter_le _ _) (by simp), fun x hx => ?_⟩
  simp [classL] at hx
  exact hx.1
theorem take_snoc_map {α β : Type} (f : α → β) {l : List α} {q : Nat} {x : α} (h : l[q]? = some x) : (l.take (q + 1)).map f = (l.take q).map f ++ [f x] := by
  obtain ⟨h1, h2⟩ := List.getElem?_eq_some_iff.1 h
  rw [List.take_succ_eq_append_getElem h1, h2]; simp

/-- Three boxes that are held while a region goes on. -/
theorem held3_mk {w wz : World} {b3 b4 : Nat} {x y : Value} (hb : Below w.heap.size w wz) (t3 : Two wz b3 (.int .i64 0) (.int .i64 0) 27) (t4 : Two wz b4 x y 24) : Below w.heap.size w wz ∧ Two wz b3 (.int .i64 0) (.int .i64 0) 27 ∧ Two wz b4 x y 24 ∧ wz.cell? ⟨b4, 0, none⟩ = some x ∧ wz.cell? ⟨b4, 1, none⟩ = some y :=
  ⟨hb, t3, t4, (cell_two t4).1, (cell_two t4).2⟩

set_option maxHeartbeats 4000000 in
theorem blocks_ok (m : Nat) (ao : Option Addr) (cap : Nat) (es : List Pair) (w : World) (hE : EdgesAt w (.slice ao es.length cap) es) (hc : (chk m es).1 = 0) (RK : Nat → Nat → Bool) (hRK : ∀ i j, RK i j = true ↔ Star (LkF m (allP m (hasB es))) i j) :
    Calls Tryz.prog 34 #[.agg #[.int .i64 (m : Int), .slice ao es.length cap]] w fun r w' => ∃ v', r = .returned (.tuple #[v', .agg #[.int .i64 0, .int .i64 0]]) ∧ BlocksAt w' w.heap.size v' (blocksS (allP m (hasB es)) RK) ∧ Below w.heap.size w w' := by
  obtain ⟨hck, hn0, hn1, hl, _⟩ := chk_good hc
  obtain ⟨i0, hi, hz0, hz1, hz2⟩ := info_parts Tryz.info42
  obtain ⟨iE, hiE, hy0, hy1, hy2⟩ := info_parts Tryz.info22
  have hm : m ≤ 100 := by omega
  have hfs := formS_good hc
  have hfl : (allP m (hasB es)).length ≤ 1000 := Nat.le_trans (allP_has_le m es) hl
  have hff := formed_all m (hasB es)
  obtain ⟨fes, hfes⟩ : ∃ fes, fes = allP m (hasB es) := ⟨_, rfl⟩
  rw [← hfes] at hfs hfl hff hRK ⊢
  have HE : Hid _ := hE
  have HRK : Hid _ := hRK
  have HFS : Hid _ := hfs
  have HFF : Hid _ := hff
  clear hE hRK hfs hff hfes hck hn0 hn1 hl hc
  go_enter Tryz.func34, Tryz.ntmps34
  go_upto_region 5 with (go_at_call 15; refine (form_as (a := ⟨m, fes, 0, 0⟩) ?_ HFS.out).mono ?_; exact EdgesAt.below HE.out (below2 _ _); rintro e w1 ⟨hb, lo, lc, rfl, hEl, hfr⟩; obtain ⟨bc, bf, bc1, bf1, bc2, bf2⟩ := bcell hb; have hz := hb.size; simp at hz)
  have t3 : Two ((w1.alloc (Obj.cells #[.int .i64 (m : Int), .slice lo fes.length lc] 24)).alloc (Obj.cells #[.int .i64 0, .int .i64 0] 27)) (w.heap.size + 1) (.int .i64 0) (.int .i64 0) 27 := two_alloc (two_alloc (two_next (two_new1 w _ _ _ _) hb) _) _
  have t4 : Two ((w1.alloc (Obj.cells #[.int .i64 (m : Int), .slice lo fes.length lc] 24)).alloc (Obj.cells #[.int .i64 0, .int .i64 0] 27)) w1.heap.size (.int .i64 (m : Int)) (.slice lo fes.length lc) 24 := two_alloc (two_new w1 _ _ _) _
  have hB := below_alloc (below_alloc (below_next (below2 (Obj.cells #[.int .i64 (m : Int), .slice ao es.length cap] 24) (Obj.cells #[.int .i64 0, .int .i64 0] 27)) hb) (Obj.cells #[.int .i64 (m : Int), .slice lo fes.length lc] 24)) (Obj.cells #[.int .i64 0, .int .i64 0] 27)
  have hEf := hEl.below (below2 (w := w1) (Obj.cells #[.int .i64 (m : Int), .slice lo fes.length lc] 24) (Obj.cells #[.int .i64 0, .int .i64 0] 27))
  have hw1 : w.heap.size + 1 < w1.heap.size := by omega
  generalize (w1.alloc (Obj.cells #[.int .i64 (m : Int), .slice lo fes.length lc] 24)).alloc (Obj.cells #[.int .i64 0, .int .i64 0] 27) = W at t3 t4 hB hEf ⊢
  clear bc bf bc1 bf1 bc2 bf2 hz hb hEl hfr HE
  have HEF : Hid _ := hEf
  clear hEf
  go_region_held3 (fun wz => Below w.heap.size w wz ∧ Two wz (w.heap.size + 1) (.int .i64 0) (.int .i64 0) 27 ∧ Two wz w1.heap.size (.int .i64 (m : Int)) (.slice lo fes.length lc) 24 ∧ wz.cell? ⟨w1.heap.size, 0, none⟩ = some (.int .i64 (m : Int)) ∧ wz.cell? ⟨w1.heap.size, 1, none⟩ = some (.slice lo fes.length lc))
    (first | assumption | exact held3_mk hB.drew t3 t4 | (go_split_ands; exact held3_mk hbk tk3 tk4))
    ((first
      | (go_at_call 57; refine (ringed_call m _ _ fes _ ?_ hm hfl HFF.out).mono ?_; exact EdgesAt.below HEF.out (Below.refl _ _).drew; rintro r wa ⟨la, bl2, lk, rfl, hN1, hlks, hest, hge, hbk0⟩; have hbk := below_next hB.drew hbk0; have tk3 := two_next (W := W.drew) t3 hbk0; have tk4 := two_next (W := W.drew) t4 hbk0; have hEa := EdgesAt.below (EdgesAt.below HEF.out (Below.refl _ _).drew) hbk0; have hA3 := lt_of_block tk3; have hA4 := lt_of_block tk4)
      | (go_at_call 33; refine (all_call fes.length _ (by omega)).mono ?_; rintro r wb ⟨bL, rfl, hbL, hS1, hbk0⟩; have hN2 := hN1.below hbk0; have hbA := hbk; replace hbk := below_next hbk hbk0; replace tk3 := two_next tk3 hbk0; replace tk4 := two_next tk4 hbk0; have hEb := EdgesAt.below hEa hbk0)
      | (go_at_call 31; obtain ⟨R, hR⟩ := ex2 (fun x y => Star (LkS fes lk) x y); refine (pieces_call hN2 (hS1.congr (T := allB) (fun _ _ => rfl)) (fun i hi e => by have := (hN1.sets i hi).lt; omega) (by omega) (fun a b _ _ h => hlks.sym a b h) R hR).mono ?_; rintro r wc ⟨vp, rfl, hls, htc⟩; obtain ⟨po, pc, rfl⟩ := hls.form; have hlt3 := lt_of_block tk3; have hlt4 := lt_of_block tk4; replace hbk := htc.below hbk hbk.size (fun k hk => by have := hbA.size; omega); have hlA := hbA.size; replace tk3 := two_turns tk3 htc (by omega); replace tk4 := two_turns tk4 htc (by omega); have hEc := hEb.marks htc (fun k hk => by subst hk; exact hS1.isMap))))
  have hRe : piecesS fes.length allB R = piecesS fes.length allB RK := piecesS_congr fun i j hi _ => by
    rw [Bool.eq_iff_iff, hR, HRK.out]
    exact links_blocks HFF.out hlks hest hi j
  rw [hRe] at hls ⊢
  obtain ⟨PL, hPL⟩ : ∃ PL, PL = piecesS fes.length allB RK := ⟨_, rfl⟩
  rw [← hPL] at hls ⊢
  have hle : PL.length ≤ fes.length := by rw [hPL]; exact piecesTo_le _ _ _ _
  have HP : Hid _ := hPL
  have HLS : Hid _ := hls
  have HEC : Hid _ := hEc
  have HB : Hid _ := hbk
  have HT3 : Hid _ := tk3
  have HT4 : Hid _ := tk4
  go_split_ands
  clear hRe hPL hls hEc hbk tk3 tk4 hR hlks hest hN1 hN2 hS1 htc hEb hEa hbA hge
  go_wp2
  go_loopw [6, 29] (fun bv i wr => ∃ q : Nat, q ≤ PL.length ∧ i = .int .i64 (q : Int) ∧ BlocksAt wr wc.heap.size bv ((PL.take q).map (edgesL fes)) ∧ Below wc.heap.size wc wr) (fun _ i _ => PL.length - (numOf i).toNat)
  case atStart => exact ⟨0, Nat.zero_le _, rfl, by simpa using blocksAt_nil _ _, Below.refl _ _⟩
  case round =>
    obtain ⟨q, hq, rfl, hbs, hB2⟩ := hrel
    obtain ⟨vo, vc, hbv⟩ := hbs.form
    rw [List.length_map, List.length_take, Nat.min_eq_left hq] at hbv
    subst hbv
    by_cases hqlt : q < PL.length
    · obtain ⟨l, hq?⟩ : ∃ l, PL[q]? = some l := ⟨PL[q], List.getElem?_eq_getElem hqlt⟩
      obtain ⟨g, xo, xc, rfl, cg, hrow⟩ := (ListsAt.below HLS.out hB2).at hq?
      obtain ⟨hll, hlm⟩ := piece_lt (N := fes.length) (by rw [← HP.out]; exact hq?)
      have HQ : Hid _ := hq?
      have HLM : Hid _ := hlm
      clear hq? hlm
      have i1 : (0 : Int) ≤ (q : Int) := by omega
      have i2 : (q : Int) < (PL.length : Int) := by omega
      go_wp2
      rename World => wq
      clear cg
      go_loopw [9, 35] (fun ev i wr => ∃ t : Nat, t ≤ l.length ∧ i = .int .i64 (t : Int) ∧ wr.ownsRow wq.heap.size 42 2 ev t (flat (edgesL fes (l.take t))) ∧ Below wq.heap.size wq wr) (fun _ i _ => l.length - (numOf i).toNat)
      case atStart => exact ⟨0, Nat.zero_le _, rfl, by simpa [edgesL, flat] using World.ownsRow_nil _ _ _ _, Below.refl _ _⟩
      case round =>
        obtain ⟨t, ht, rfl, hown, hB3⟩ := hrel
        obtain ⟨uo, uc, rfl⟩ := form_row hown
        by_cases htl : t < l.length
        · obtain ⟨u, hu?⟩ : ∃ u, l[t]? = some u := ⟨l[t], List.getElem?_eq_getElem htl⟩
          have hum := HLM.out u (List.mem_of_getElem? hu?)
          obtain ⟨gx, rfl, cu⟩ := qcell hrow hu?
          obtain ⟨eo', ec', ee, _, hEI, hcells⟩ := HEC.out
          cases ee
          obtain ⟨b, off, rfl, c0, c1⟩ := hcells u hum
          obtain ⟨x, y, hxy⟩ : ∃ x y, fes[u] = (x, y) := ⟨fes[u].1, fes[u].2, rfl⟩
          rw [hxy] at c0 c1
          have hB4 := below_next hB2 hB3
          have hb := World.block_lt_of_cell? wc _ c0
          rw [← hB4.cell (by exact hb)] at c0 c1
          have hbu := World.block_lt_of_cell? wq _ cu
          rw [← hB3.cell (by exact hbu)] at cu
          obtain ⟨z1, z2⟩ := cell_two (two_next (two_next HT4.out hB2) hB3)
          have hgd : fes.getD u (0, 0) = (x, y) := by rw [← hxy]; simp [List.getD, hum]
          have HGD : Hid _ := hgd
          have HU : Hid _ := hu?
          clear hgd hu? hxy hcells hEI hB4
          have j1 : (0 : Int) ≤ (t : Int) := by omega
          have j2 : (t : Int) < (l.length : Int) := by omega
          have k1 : (0 : Int) ≤ (u : Int) := by omega
          have k2 : (u : Int) < (fes.length : Int) := by omega
          go_wp2_with (first | (at_builtin; refine wpList_append_own _ rfl _ _ 22 rfl wq.heap.size 42 i0 (.agg #[.int .i64 0, .int .i64 0]) 2 16 Tryz.underlying22 hi hz0 hz1 hz2 rfl (by decide) _ _ _ rfl (hown.alloc _) ⟨wr.heap.size, 0, none⟩ 1 1 [.int .i64 x, .int .i64 y] rfl rfl ?c1 ?c2 ?c3 ?c4 ?c5 ?_) | go_in)
          case c2 => first | exact ⟨rfl, rfl⟩ | (intro x hx; simp at hx; rcases hx with rfl | rfl <;> rfl)
          case c3 => unfold maxLen; omega
          case c4 => omega
          case c5 => have := hB3.size; simp; omega
          intro v' w3 hown' hgrow _
          have hB5 := (hB3.alloc hB3.size _).grown hgrow (by have := hB3.size; simp; omega) (fun k hk => (hown.lt k hk).1)
          clear hgrow
          go_wp2
          go_roundw
          case rel => exact ⟨t + 1, by omega, by go_num, by rw [edgesL_take fes HU.out, HGD.out, flat_snoc]; exact hown', hB5⟩
          case measure => simp [numOf]; omega
        · have : t = l.length := by omega
          subst this
          rw [List.take_length] at hown
          have hbs3 := hbs.below hB3
          obtain ⟨vs, hvs, hrow2, hel⟩ := hbs3
          rw [List.length_map, List.length_take, Nat.min_eq_left hq] at hrow2
          go_wp2_with (first | (at_builtin; refine wpList_append_own _ rfl _ _ 68 rfl wc.heap.size 22 iE (.slice none 0 0) 1 24 Tryz.underlying68 hiE hy0 hy1 hy2 rfl (by decide) _ _ _ rfl (hrow2.alloc _) ⟨wr.heap.size, 0, none⟩ 1 1 [.slice uo l.length uc] rfl rfl ?d1 ?d2 ?d3 ?d4 ?d5 ?_) | go_in)
          case d1 => exact cell_one_new _ _ _
          case d2 => first | rfl | (intro y hy; simp at hy; subst hy; rfl)
          case d3 => unfold maxLen; omega
          case d4 => omega
          case d5 => have := hB3.size; have := hB2.size; simp; omega
          intro v' w3 hown' hgrow _
          have hlen : ((PL.take q).map (edgesL fes)).length = q := by rw [List.length_map, List.length_take, Nat.min_eq_left hq]
          have hx : wr.ownsRow wc.heap.size 42 2 (.slice uo l.length uc) (edgesL fes l).length (flat (edgesL fes l)) := by rw [edgesL_len]; exact ownsRow_mono hown hB2.size
          have hbs4 := blocksAt_push (bs := (PL.take q).map (edgesL fes)) hx hvs (by rw [hlen]; exact hrow2) hel (by rw [hlen]; exact hown') hgrow
          have hB5 := ((below_next hB2 hB3).alloc (below_next hB2 hB3).size _).grown hgrow (by have := (below_next hB2 hB3).size; simp; omega) (fun k hk => (hrow2.lt k hk).1)
          have HBS : Hid _ := hbs4
          clear hgrow hbs4 hown' hx hlen hvs hrow2 hel
          go_wp2
          go_roundw
          case rel => exact ⟨q + 1, by omega, by go_num, by rw [take_snoc_map _ HQ.out]; exact HBS.out, hB5⟩
          case measure => simp [numOf]; omega
    · have : q = PL.length := by omega
      subst this
      rw [List.take_length] at hbs
      have t3' := two_next HT3.out hB2
      obtain ⟨z1, z2⟩ := cell_two t3'
      have f1 := free_two t3' 0
      have f2 := free_two t3' 1
      go_wp2
      refine bodyPost_ret (v := .tuple #[.slice vo PL.length vc, .agg #[.int .i64 0, .int .i64 0]]) ?_ rfl ⟨_, rfl, ?_, ?_⟩
      · simp [results, Tryz.results34, go_sem, z1, z2]
      · have hlb := lt_of_block HT3.out
        unfold blocksS
        rw [← HP.out]
        exact ((hbs.turns (setCell_turns _ _ _ _) (fun k hk => Or.inl (by omega))).turns (setCell_turns _ _ _ _) (fun k hk => Or.inl (by omega))).mono HB.out.size
      · exact ((below_next HB.out hB2).setCell (by simp) _).setCell (by simp) _
end Go.Proofs.YtdnmoifbkojnlaaGreat

namespace Go.Proofs.YtdnmoifbkojnlaaGreat
set_option maxRecDepth 4000
open Go.RowKit Go.Maps
attribute [local go_sem ↓] Go.wp_at_zero Go.wp_at_succ

def single : List Pair → Option Pair
  | [e] => some e
  | _ => none
def singles (bs : List (List Pair)) : List Pair := bs.filterMap single
theorem singles_take {bs : List (List Pair)} {q : Nat} {l : List Pair} (h : bs[q]? = some l) : singles (bs.take (q + 1)) = singles (bs.take q) ++ (single l).toList := by
  obtain ⟨h1, h2⟩ := List.getElem?_eq_some_iff.1 h
  rw [List.take_succ_eq_append_getElem h1, h2]
  unfold singles
  rw [List.filterMap_append]
  cases hs : single l <;> simp [hs]
theorem singles_len (bs : List (List Pair)) (q : Nat) : (singles (bs.take q)).length ≤ q :=
  Nat.le_trans (List.length_filterMap_le _ _) (by rw [List.length_take]; omega)

theorem BlocksAt.at {w : World} {base : Nat} {ao : Option Addr} {n cap : Nat} {bs : List (List Pair)} (h : BlocksAt w base (.slice ao n cap) bs) {q : Nat} {l : List Pair} (hq : bs[q]? = some l) : ∃ g xo xc, ao = some ⟨g, 0, none⟩ ∧ w.cell? ⟨g, q, none⟩ = some (.slice xo l.length xc) ∧ w.ownsRow base 42 2 (.slice xo l.length xc) l.length (flat l) := by
  obtain ⟨vs, h1, h2, h3⟩ := h
  have hl := (List.getElem?_eq_some_iff.1 hq).1
  obtain ⟨x, hx⟩ : ∃ x, vs[q]? = some x := ⟨vs[q]'(by omega), List.getElem?_eq_getElem (by omega)⟩
  have hr := h3 q x l hx hq
  obtain ⟨xo, xc, rfl⟩ := form_row hr
  rcases h2.2 with ⟨_, e⟩ | ⟨g, c, cur, e, _⟩
  · omega
  · cases e
    refine ⟨g, xo, xc, rfl, ?_, hr⟩
    have := h2.cells (g := g) rfl q _ hx
    rw [add_none] at this
    exact this
theorem blocks_len (fes : List Pair) (RK : Nat → Nat → Bool) : (blocksS fes RK).length ≤ fes.length := by
  unfold blocksS; rw [List.length_map]; exact piecesTo_le _ _ _ _
theorem block_len {fes : List Pair} {RK : Nat → Nat → Bool} {q : Nat} {l : List Pair} (h : (blocksS fes RK)[q]? = some l) : l.length ≤ fes.length ∧ ∀ e, e ∈ l → ∃ i : Nat, fes[i]? = some e := by
  unfold blocksS at h
  rw [List.getElem?_map] at h
  obtain ⟨l0, h0, rfl⟩ := Option.map_eq_some_iff.1 h
  obtain ⟨h1, h2⟩ := piece_lt h0
  refine ⟨by rw [edgesL_len]; exact h1, fun e he => ?_⟩
  obtain ⟨i, hi, rfl⟩ := List.mem_map.1 he
  have := h2 i hi
  exact ⟨i, by simp [List.getD, this]⟩

end Go.Proofs.YtdnmoifbkojnlaaGreat

namespace Go.Proofs.YtdnmoifbkojnlaaGreat
set_option maxRecDepth 4000
open Go.RowKit Go.Maps
attribute [local go_sem ↓] Go.wp_at_zero Go.wp_at_succ

def nodeIn (l : List Pair) (x : Nat) : Bool := l.any fun e => e.1 == (x : Int) || e.2 == (x : Int)
theorem nodeIn_take {l : List Pair} {t i j : Nat} (h : l[t]? = some ((i : Int), (j : Int))) (x : Nat) : nodeIn (l.take (t + 1)) x = (x == j || (x == i || nodeIn (l.take t) x)) := by
  obtain ⟨h1, h2⟩ := List.getElem?_eq_some_iff.1 h
  rw [List.take_succ_eq_append_getElem h1, h2]
  unfold nodeIn
  rw [List.any_append]
  have q : ∀ p q : Nat, ((p : Int) == (q : Int)) = (q == p) := fun p q => by rw [Bool.eq_iff_iff]; simp; omega
  simp only [List.any_cons, List.any_nil, Bool.or_false, q]
  cases (List.take t l).any _ <;> cases (x == i) <;> cases (x == j) <;> rfl

set_option maxHeartbeats 1000000 in
theorem nodesOf_call (m : Nat) (v : Value) (l : List Pair) (w : World) (hE : EdgesAt w v l) (hm : m ≤ 1000) (hgood : ∀ e ∈ l, 0 ≤ e.1 ∧ e.1 < m ∧ 0 ≤ e.2 ∧ e.2 < m) :
    Calls Tryz.prog 35 #[v] w fun r w' => ∃ b, r = .returned (.map (some b)) ∧ w.heap.size ≤ b ∧ SetN w' b m (nodeIn l) ∧ Below w.heap.size w w' := by
  have hmm := @run_makeMap Tryz.prog
  obtain ⟨eo, cap, rfl, hl2, hI, hcells⟩ := hE
  clear hI
  have HG : Hid _ := hgood
  have HC : Hid _ := hcells
  clear hgood hcells
  go_enter Tryz.func35, Tryz.ntmps35
  go_wp2
  go_loopw [9] (fun i wr => ∃ k : Nat, k ≤ l.length ∧ i = .int .i64 (k : Int) ∧ SetN wr w.heap.size m (nodeIn (l.take k)) ∧ Below w.heap.size w wr) (fun i _ => l.length - (numOf i).toNat)
  case atStart => exact ⟨0, Nat.zero_le _, rfl, (setN_made w m).congr (fun k _ => by simp [nodeIn]), (Below.refl _ _).alloc (Nat.le_refl _) _⟩
  case round =>
    obtain ⟨k, hk, rfl, hS, hB⟩ := hrel
    by_cases hlt : k < l.length
    · obtain ⟨b, off, rfl, cx, cy⟩ := HC.out k hlt
      obtain ⟨x, y, hxy⟩ : ∃ x y, l[k] = (x, y) := ⟨l[k].1, l[k].2, rfl⟩
      have hgx := HG.out l[k] (List.getElem_mem _)
      rw [hxy] at cx cy hgx
      have hb := World.block_lt_of_cell? w _ cx
      rw [← hB.cell (by exact hb)] at cx cy
      obtain ⟨x0, x1, y0, y1⟩ := hgx
      obtain ⟨i, rfl⟩ : ∃ i : Nat, x = i := ⟨x.toNat, by omega⟩
      obtain ⟨j, rfl⟩ : ∃ j : Nat, y = j := ⟨y.toNat, by omega⟩
      have hk? : l[k]? = some ((i : Int), (j : Int)) := by rw [List.getElem?_eq_getElem hlt, hxy]
      have HK : Hid _ := hk?
      clear hxy hk?
      have hi : i < m := by omega
      have hj : j < m := by omega
      have hSa := hS.turns (alloc_turns wr (Obj.cells #[.int .i64 (i : Int), .int .i64 (j : Int)] 42) (fun _ => False)) (fun h => h)
      have hlS := hS.lt
      go_upto_region 6 with (first | (go_at_call 56; refine (add_call hSa (by omega) hi).mono ?_; rintro r w1 ⟨rfl, hS1, ht1⟩; have tb := two_turns (two_new wr (.int .i64 (i : Int)) (.int .i64 (j : Int)) 42) ht1 (by omega); obtain ⟨z1, z2⟩ := cell_two tb) | go_in)
      go_wp2_with (first | (go_at_call 56; refine (add_call hS1 (by omega) hj).mono ?_; rintro r w2 ⟨rfl, hS2, ht2⟩) | go_in)
      go_roundw
      case rel =>
        have T := ((alloc_turns wr (Obj.cells #[.int .i64 (i : Int), .int .i64 (j : Int)] 42) _).trans ht1).trans ht2
        exact ⟨k + 1, by omega, by go_num, hS2.congr (fun x _ => (nodeIn_take HK.out x).symm), T.below hB hB.size (fun k hk => by omega)⟩
      case measure => simp [numOf]; omega
    · have : k = l.length := by omega
      subst this
      rw [List.take_length] at hS
      go_wp2
      go_ret
      exact ⟨_, rfl, Nat.le_refl _, hS, hB⟩

def cntTo (bs : List (List Pair)) (q x : Nat) : Nat := ((bs.take q).filter fun l => nodeIn l x).length
theorem cntTo_succ {bs : List (List Pair)} {q : Nat} {l : List Pair} (h : bs[q]? = some l) (x : Nat) : cntTo bs (q + 1) x = cntTo bs q x + if nodeIn l x = true then 1 else 0 := by
  obtain ⟨h1, h2⟩ := List.getElem?_eq_some_iff.1 h
  unfold cntTo
  rw [List.take_succ_eq_append_getElem h1, h2, List.filter_append, List.length_append]
  congr 1
  by_cases hx : nodeIn l x = true <;> simp [hx]
theorem cntTo_le (bs : List (List Pair)) (q x : Nat) : cntTo bs q x ≤ q :=
  Nat.le_trans (List.length_filter_le _ _) (by rw [List.length_take]; omega)
/-- The nodes below k that are in more than one block. -/
def cutsTo (bs : List (List Pair)) (k : Nat) : List Nat := (List.range k).filter fun x => decide (1 < cntTo bs bs.length x)
theorem cutsTo_succ (bs : List (List Pair)) (k : Nat) : cutsTo bs (k + 1) = cutsTo bs k ++ (if 1 < cntTo bs bs.length k then [k] else []) := by
  unfold cutsTo
  rw [List.range_succ, List.filter_append]
  congr 1
  by_cases h : 1 < cntTo bs bs.length k <;> simp [h]
theorem cutsTo_le (bs : List (List Pair)) (k : Nat) : (cutsTo bs k).length ≤ k := Nat.le_trans (List.length_filter_le _ _) (by simp)

set_option maxHeartbeats 400000 in
theorem cuts_bad (n : Int) (v : Value) (es : List Pair) (w : World) (hE : EdgesAt w v es) (hc : (chk n es).1 ≠ 0) :
    Calls Tryz.prog 20 #[.agg #[.int .i64 n, v]] w fun r w' => r = .returned (.tuple #[.slice none 0 0, .agg #[.int .i64 (chk n es).1, .int .i64 (chk n es).2]]) ∧ Below w.heap.size w w' := by
  have hc1 : ((chk n es).1 != 0) = true := by simpa using hc
  go_enter Tryz.func20, Tryz.ntmps20
  go_wp2_with (go_at_call 34; refine (blocks_bad n v es _ ?_ hc).mono ?_; exact hE.below (below2 _ _); rintro e w1 ⟨rfl, hb⟩; obtain ⟨bc, bf, bc1, bf1, bc2, bf2⟩ := bcell hb; have hz := hb.size; simp at hz)
  go_region
  go_wp2
  refine bodyPost_ret (v := .tuple #[.slice none 0 0, .agg #[.int .i64 (chk n es).1, .int .i64 (chk n es).2]]) ?_ rfl ⟨rfl, ?_⟩
  · simp [results, Tryz.results20, go_sem, bc1]
  · exact (((below_alloc (below_next (below2 _ _) hb) _).setCell (by simp) _).setCell (by simp) _).drew

theorem same_self (y : Int) : (Lit.int .i64 y).sameKey (.int .i64 y) = true := by simp [Lit.sameKey]
theorem strike_self (lf : Lit → Bool) (y : Nat) : (lf (.int .i64 (y : Int)) && !(Lit.int .i64 (y : Int)).sameKey (.int .i64 (y : Int))) = false := by rw [same_self]; exact Bool.and_false _
theorem strike_ne (lf : Lit → Bool) {z y : Nat} (h : ¬ z = y) : (lf (.int .i64 (z : Int)) && !(Lit.int .i64 (z : Int)).sameKey (.int .i64 (y : Int))) = lf (.int .i64 (z : Int)) := by
  rw [sameKey_ne (show (Lit.int .i64 (z : Int)) ≠ .int .i64 (y : Int) from fun e => h (by injection e with _ e; omega))]
  exact Bool.and_true _
theorem RowV.below {w w' : World} {b n : Nat} {t : TypeId} {f : Nat → Value} (h : RowV w b t n f) (hb : Below w.heap.size w w') : RowV w' b t n f := h.block (hb.block b h.lt)
theorem below_self {B : Nat} {w wr wr' : World} (h : Below B w wr) (hb : Below wr.heap.size wr wr') (hB : B ≤ wr.heap.size) : Below B w wr' := h.trans (hb.mono hB)

set_option maxHeartbeats 2000000 in
theorem cuts_ok (m : Nat) (ao : Option Addr) (cap : Nat) (es : List Pair) (w : World) (hE : EdgesAt w (.slice ao es.length cap) es) (hc : (chk m es).1 = 0) (RK : Nat → Nat → Bool) (hRK : ∀ i j, RK i j = true ↔ Star (LkF m (allP m (hasB es))) i j) :
    Calls Tryz.prog 20 #[.agg #[.int .i64 (m : Int), .slice ao es.length cap]] w fun r w' => ∃ v', r = .returned (.tuple #[v', .agg #[.int .i64 0, .int .i64 0]]) ∧ w'.ownsRow w.heap.size 3 1 v' (cutsTo (blocksS (allP m (hasB es)) RK) m).length (qv (cutsTo (blocksS (allP m (hasB es)) RK) m)) ∧ Below w.heap.size w w' := by
  obtain ⟨hck, hn0, hn1, hl, _⟩ := chk_good hc
  obtain ⟨i0, hi, hz0, hz1, hz2⟩ := info_parts Tryz.info3
  have hm : m ≤ 100 := by omega
  have hfl : (allP m (hasB es)).length ≤ 1000 := Nat.le_trans (allP_has_le m es) hl
  have hbl := Nat.le_trans (blocks_len (allP m (hasB es)) RK) hfl
  have hblk : ∀ (q : Nat) (l : List Pair), (blocksS (allP m (hasB es)) RK)[q]? = some l → l.length ≤ 1000 ∧ ∀ e ∈ l, 0 ≤ e.1 ∧ e.1 < m ∧ 0 ≤ e.2 ∧ e.2 < m := fun q l h => ⟨Nat.le_trans (block_len h).1 hfl, fun e he => by
    obtain ⟨i, hi⟩ := (block_len h).2 e he
    obtain ⟨x, y, rfl, h1, h2⟩ := (formed_all m (hasB es)).ok i e hi
    simp; omega⟩
  have hcall := fun (w' : World) (hb : Below w.heap.size w w') => blocks_ok m ao cap es w' (hE.below hb) hc RK hRK
  obtain ⟨BS, hBS⟩ : ∃ BS, BS = blocksS (allP m (hasB es)) RK := ⟨_, rfl⟩
  rw [← hBS] at hbl hblk ⊢
  simp only [← hBS] at hcall
  have HCL : Hid _ := hcall
  have HBK : Hid _ := hblk
  clear hE hRK hBS hck hn0 hn1 hl hc hcall hfl hblk
  go_enter Tryz.func20, Tryz.ntmps20
  go_upto_region 4 with (go_at_call 34; refine (HCL.out _ (below2 _ _)).mono ?_; rintro e w1 ⟨bv, rfl, hbs, hb⟩; obtain ⟨bo, bcp, rfl⟩ := hbs.form; obtain ⟨bc, bf, bc1, bf1, bc2, bf2⟩ := bcell hb; have hz := hb.size; simp at hz)
  have t1 : Two (w1.alloc (Obj.cells #[.int .i64 0, .int .i64 0] 27)) w.heap.size (.int .i64 (m : Int)) (.slice ao es.length cap) 24 := two_alloc (two_next (two_alloc (two_new w _ _ _) _) hb) _
  have t3 : Two (w1.alloc (Obj.cells #[.int .i64 0, .int .i64 0] 27)) (w.heap.size + 1) (.int .i64 0) (.int .i64 0) 27 := two_alloc (two_next (two_new1 w _ _ _ _) hb) _
  have hB := below_alloc (below_next (below2 (Obj.cells #[.int .i64 (m : Int), .slice ao es.length cap] 24) (Obj.cells #[.int .i64 0, .int .i64 0] 27)) hb) (Obj.cells #[.int .i64 0, .int .i64 0] 27)
  have hbsW := hbs.below (below_alloc (Below.refl _ w1) (Obj.cells #[.int .i64 0, .int .i64 0] 27))
  generalize w1.alloc (Obj.cells #[.int .i64 0, .int .i64 0] 27) = W at t1 t3 hB hbsW ⊢
  have HT3 : Hid _ := t3
  have HBS : Hid _ := hbsW
  have HB : Hid _ := hB
  clear bc bf bc1 bf1 bc2 bf2 hz hb hbs t3 hbsW hB
  obtain ⟨y1, y2⟩ := cell_two t1
  go_wp2_with (first | (at_make; refine wpList_make_full _ rfl _ _ 29 rfl W.heap.size 3 i0 (.int .i64 0) 1 Tryz.underlying29 hi hz0 hz1 .i64 .i64 _ _ m rfl rfl rfl rfl ?_ ?_ ?_ ?_; (rw [hz2]; omega); (unfold maxLen; omega); (omega); intro W1 hmade hg1) | go_in)
  have hrow0 := rowV_made rfl hmade
  have hB1 : Below W.heap.size W W1 := (Below.refl _ _).grown hg1 (Nat.le_refl _) (fun k hk => by cases hk)
  clear hmade hg1 y1 y2 t1
  go_loopw [27] (fun i wr => ∃ q : Nat, q ≤ BS.length ∧ i = .int .i64 (q : Int) ∧ RowV wr W.heap.size 3 m (fun j => .int .i64 (cntTo BS q j : Int)) ∧ Below W.heap.size W wr) (fun i _ => BS.length - (numOf i).toNat)
  case atStart => exact ⟨0, Nat.zero_le _, rfl, hrow0.congr (fun j _ => by simp [cntTo]), hB1⟩
  case round =>
    obtain ⟨q, hq, rfl, hrow, hB2⟩ := hrel
    clear hrow0 hB1
    have hWr := hrow.lt
    by_cases hqlt : q < BS.length
    · obtain ⟨l, hq?⟩ : ∃ l, BS[q]? = some l := ⟨BS[q], List.getElem?_eq_getElem hqlt⟩
      have hbsr := BlocksAt.turns HBS.out (M := fun k => W.heap.size ≤ k) ⟨hB2.os, hB2.tape, hB2.output, hB2.size, fun k _ hk => hB2.block k (by omega)⟩ (fun k hk => Or.inr (Or.inl hk))
      obtain ⟨g, xo, xc, rfl, cg, hrl⟩ := hbsr.at hq?
      obtain ⟨hll, hlg⟩ := HBK.out q l hq?
      have hEl : EdgesAt wr (.slice xo l.length xc) l := edgesAt_row hrl (fun e he => by have := hlg e he; constructor <;> constructor <;> omega) (by omega)
      have HQ : Hid _ := hq?
      have HEL : Hid _ := hEl
      have HLG : Hid _ := hlg
      clear hq? hEl hlg hbsr hrl
      have i1 : (0 : Int) ≤ (q : Int) := by omega
      have i2 : (q : Int) < (BS.length : Int) := by omega
      have hm6 : m ≤ 1000000 := by omega
      go_wp2_with (first
        | (go_at_call 35; refine (nodesOf_call m _ l _ HEL.out (by omega) HLG.out).mono ?_; rintro r w2 ⟨b, rfl, hbge, hS2, hb2⟩; have hrow2 := hrow.below hb2; have hB3 := below_self hB2 hb2 hB2.size; obtain ⟨DN, hownN, hhasN⟩ := hS2)
        | (at_range; refine wpList_range_own _ rfl _ 66 rfl 3 89 Tryz.lawI Tryz.underlying66 _ b m DN rfl hownN ?_; intro w5 hrg0 hg0 hs0)
        | go_in)
      go_frame
      have hrow5 := hrow2.turns (Turns.of_grown hg0) (by simp)
      have hB5 := hB3.grown hg0 hB3.size (fun k hk => by cases hk)
      obtain ⟨r, hr⟩ : ∃ r, r = w2.heap.size := ⟨_, rfl⟩
      rw [← hr] at hrg0 ⊢
      have hrW : W.heap.size < r := by have := hrow2.lt; omega
      have hbW : W.heap.size < b := by have := hrow.lt; omega
      clear hg0 hs0 hr hownN hrow2 hB3 cg hb2
      go_loopw [9] (fun _ wz => ∃ (lf : Lit → Bool) (cnt : Nat), wz.ranges Tryz.prog 3 unitElem b r m DN lf cnt ∧ RowV wz W.heap.size 3 m (fun j => .int .i64 ((cntTo BS q j + (if nodeIn l j = true ∧ lf (.int .i64 (j : Int)) = false then 1 else 0) : Nat) : Int)) ∧ Below W.heap.size W wz) (fun _ wz => wz.rangeLeft b r)
      case atStart =>
        refine ⟨_, _, hrg0, hrow5.congr (fun j hj => ?_), hB5⟩
        rw [if_neg]
        · rfl
        · rintro ⟨h1, h2⟩
          rw [hhasN j (natI hm6 hj)] at h2
          simp [hj, h1] at h2
      case round =>
        obtain ⟨lf, cnt, hrgz, hrz, hBz⟩ := hrel
        clear hrg0 hrow5 hB5
        go_wp2_with (first | (at_next; refine wpList_next_ranges _ rfl _ rfl 3 Tryz.lawI unitElem encZ (fun _ : Unit => .agg #[]) (fun key kl hk => by obtain ⟨x, hx, _⟩ := Maps.keyOf_i64 Tryz.underlying3 hk; exact ⟨x, hx⟩) (fun v _ hv => ⟨(), (unitElem_inv hv).1⟩) b r m _ _ _ rfl hrgz ?_ ?_) | go_in)
        · intro hc0 hl0
          go_wp2
          go_roundw
          case rel =>
            refine ⟨q + 1, by omega, by go_num, hrz.congr (fun j _ => ?_), hBz⟩
            rw [cntTo_succ HQ.out]
            by_cases hj : nodeIn l j = true
            · rw [if_pos ⟨hj, hl0 _⟩, if_pos hj]
            · rw [if_neg (fun h => hj h.1), if_neg hj]
          case measure => simp [numOf]; omega
        · intro x kl yd yp w6 cnt6 hkey hlk hvv hat hrg6 hcl hg6 hs6 hen
          obtain ⟨x', ex, rfl, hwf⟩ := Maps.keyOf_i64 Tryz.underlying3 hkey
          obtain rfl : x = x' := encZ_inj ex
          have hhas := has_true_of_atKey hat
          have hxI : I64 x := ⟨(wf_bounds hwf).1, (wf_bounds hwf).2⟩
          rw [hhasN x hxI] at hhas
          simp only [Bool.and_eq_true, decide_eq_true_eq] at hhas
          obtain ⟨⟨hx0, hxN⟩, hex⟩ := hhas
          obtain ⟨y, rfl⟩ : ∃ y : Nat, x = y := ⟨x.toNat, by omega⟩
          have hym : y < m := by omega
          have hny : nodeIn l y = true := by simpa using hex
          have hrow6 := hrz.turns (Turns.of_grown hg6) (by simp; omega)
          have hB6 := hBz.grown hg6 hBz.size (fun k hk => by cases hk; omega)
          have cy := hrow6.cell hym
          rw [if_neg (by rw [hlk]; simp)] at cy
          have fy := hrow6.free y
          have hcb := cntTo_le BS q y
          have HN : Hid _ := hny
          have HLK : Hid _ := hlk
          have HCL2 : Hid _ := hcl
          clear hs6 hex hat hkey hvv hlk hcl hny
          have j1 : (0 : Int) ≤ (y : Int) := by omega
          have j2 : (y : Int) < (m : Int) := by omega
          go_wp2
          have hr7 := hrg6.kept (w' := w6.setCell ⟨W.heap.size, y, none⟩ (.int .i64 ((cntTo BS q y : Int) + 1))) (setCell_turns w6 W.heap.size y (.int .i64 ((cntTo BS q y : Int) + 1))).grown (by simp; omega) (by simp; omega)
          go_roundw
          case rel =>
            refine ⟨_, cnt6, hr7, (hrow6.set y (.int .i64 ((cntTo BS q y : Int) + 1))).congr (fun j hj => ?_), hB6.setCell (Nat.le_refl _) _⟩
            by_cases e : j = y
            · subst e
              rw [if_pos rfl, if_pos ⟨HN.out, strike_self lf j⟩]
              rfl
            · rw [if_neg e, strike_ne lf e]
          case measure => rw [hr7.left_eq, hrgz.left_eq]; exact HCL2.out
    · have : q = BS.length := by omega
      subst this
      rename World => W2
      go_wp2
      go_loopw [10, 47] (fun v i wr => ∃ k : Nat, k ≤ m ∧ i = .int .i64 (k : Int) ∧ wr.ownsRow W2.heap.size 3 1 v (cutsTo BS k).length (qv (cutsTo BS k)) ∧ Below W2.heap.size W2 wr) (fun _ i _ => m - (numOf i).toNat)
      case atStart => exact ⟨0, Nat.zero_le _, rfl, by simpa [cutsTo, qv] using World.ownsRow_nil _ _ _ _, Below.refl _ _⟩
      case round =>
        obtain ⟨k, hk, rfl, hown, hB3⟩ := hrel
        obtain ⟨vo, vc, rfl⟩ := form_row hown
        have hcl := cutsTo_le BS k
        by_cases hkm : k < m
        · have ck := (hrow.below hB3).cell hkm
          have hcb := cntTo_le BS BS.length k
          have j1 : (0 : Int) ≤ (k : Int) := by omega
          have j2 : (k : Int) < (m : Int) := by omega
          by_cases h1 : 1 < cntTo BS BS.length k
          · have h1' : (1 : Int) < (cntTo BS BS.length k : Int) := by omega
            go_wp2_with (first | (at_builtin; refine wpList_append_own _ rfl _ _ 29 rfl W2.heap.size 3 i0 (.int .i64 0) 1 8 Tryz.underlying29 hi hz0 hz1 hz2 rfl (by decide) _ _ _ rfl (hown.alloc _) ⟨wr.heap.size, 0, none⟩ 1 1 [.int .i64 (k : Int)] rfl rfl ?n1 ?n2 ?n3 ?n4 ?n5 ?_) | go_in)
            case n1 => exact cell_one_new _ _ _
            case n2 => first | rfl | (intro y hy; simp at hy; subst hy; rfl)
            case n3 => unfold maxLen; omega
            case n4 => omega
            case n5 => have := hB3.size; simp; omega
            intro v' w3 hown' hgrow _
            have hB5 := (hB3.alloc hB3.size _).grown hgrow (by have := hB3.size; simp; omega) (fun k hk => (hown.lt k hk).1)
            clear hgrow
            go_wp2
            go_roundw
            case rel => exact ⟨k + 1, by omega, by go_num, by rw [cutsTo_succ, if_pos h1]; simpa [qv] using hown', hB5⟩
            case measure => simp [numOf]; omega
          · have h1' : ¬ (1 : Int) < (cntTo BS BS.length k : Int) := by omega
            go_wp2
            go_roundw
            case rel => exact ⟨k + 1, by omega, by go_num, by rw [cutsTo_succ, if_neg h1, List.append_nil]; exact hown, hB3⟩
            case measure => simp [numOf]; omega
        · have : k = m := by omega
          subst this
          have hB4 := below_self hB2 hB3 hB2.size
          have t3' : Two wr (w.heap.size + 1) (.int .i64 0) (.int .i64 0) 27 := (hB4.block _ (lt_of_block HT3.out)).trans HT3.out
          obtain ⟨z1, z2⟩ := cell_two t3'
          have f1 := free_two t3' 0
          have f2 := free_two t3' 1
          have hlb := lt_of_block HT3.out
          have hs2 := hB2.size
          have hsB := HB.out.size
          go_wp2
          refine bodyPost_ret (v := .tuple #[.slice vo (cutsTo BS k).length vc, .agg #[.int .i64 0, .int .i64 0]]) ?_ rfl ⟨_, rfl, ?_, ?_⟩
          · simp [results, Tryz.results20, go_sem, z1, z2]
          · refine ownsRow_mono (b' := w.heap.size) (ownsRow_setCell_below (ownsRow_setCell_below hown ?_ _) ?_ _) (by omega) <;> simp <;> omega
          · exact ((below_next HB.out hB4).setCell (by simp) _).setCell (by simp) _
end Go.Proofs.YtdnmoifbkojnlaaGreat
