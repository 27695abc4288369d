/- How a pairing with its search lies in memory. -/
import Derived.Test.YtenjkhgpfmfgmaaDoorTake
import Derived.Test.YtenjkhgpfmfgmaaDoorRefFar
import Derived.Deep.AppendLies
namespace Go.Proofs.YtenjkhgpfmfgmaaDoor
open Go.RowKit Go.Maps
attribute [local go_sem ↓] Go.wp_at_zero Go.wp_at_succ

theorem SetN.look6 {w : World} {b N : Nat} {S : Nat → Bool} (h : SetN w b N S) {u : Nat} (hN : N ≤ 1000000) (hu : u < N) :
    (Instr.lookup 106 (.map (some b)) (.int .i64 (u : Int)) true).run Tryd.prog w = .ok (.tuple #[.agg #[], .bool (S u)]) w := by
  obtain ⟨D, h1, h2⟩ := h
  obtain ⟨x, ps, hrun, hx⟩ := h1.look_ok Tryd.lawI Tryd.underlying106 (Tryd.zero98 w) unitElem_mk (hkeyI (natI hN hu))
  obtain ⟨rfl, _⟩ := unitElem_inv hx
  rw [h2 u (natI hN hu)] at hrun
  simpa [hu] using hrun

theorem SetN.store6 {w : World} {b N : Nat} {S : Nat → Bool} (h : SetN w b N S) {u : Nat} (hN : N ≤ 1000000) (hu : u < N) :
    ∃ w', (Instr.mapUpdate 106 (.map (some b)) (.int .i64 (u : Int)) (.agg #[])).run Tryd.prog w = .ok () w' ∧ SetN w' b N (fun k => k == u || S k) ∧ w.mapTurned w' b := by
  obtain ⟨D, h1, h2⟩ := h
  obtain ⟨w', hrun, hown, hturn⟩ := h1.store Tryd.lawI Tryd.underlying106 (by unfold maxLen; omega) (hkeyI (natI hN hu)) unitElem_mk
  have hh : ∀ x : Int, I64 x → Maps.has (D.put (.int .i64 (u : Int)) (.agg [])) (.int .i64 x) = (decide (0 ≤ x ∧ x < N) && (x.toNat == u || S x.toNat)) := by
    intro x hx
    by_cases e : x = u
    · subst e
      rw [has_put_same h1.isMap (isKeyI _)]
      simp; omega
    · rw [has_put_other (by simpa using e), h2 x hx]
      by_cases hb : 0 ≤ x ∧ x < N
      · have : (x.toNat == u) = false := by simp; omega
        simp [this]
      · simp [hb]
  refine ⟨w', hrun, ⟨_, tight hown (fun x hx hk => ?_), hh⟩, hturn⟩
  rw [hh x hx] at hk
  simp at hk
  exact hk.1

/-- One number more at a row's end, and where it lies. -/
theorem wpList_pushA {W : World} {ops : Array Oper} {rest : List Oper} {o : Oper} {a : Act} {Q : Exit → Act → World → Prop} {base : Nat} {po : Option Addr} {pc : Nat} {l : List Nat} {x : Nat} (hgd : o.guard = none) (s y : Operand)
    (ho : o.op = .call { callee := .builtin .append, args := #[s, y], argTypes := #[29, 29] }) (hs : a.eval s = .slice po l.length pc) (hy : a.eval y = .slice (some ⟨W.heap.size, 0, none⟩) 1 1)
    (hown : W.ownsRow base 3 1 (.slice po l.length pc) l.length (qv l)) (hl : l.length ≤ 1000000) (hbase : base ≤ W.heap.size)
    (h : ∀ g c w', w'.ownsRow base 3 1 (.slice (some ⟨g, 0, none⟩) (l ++ [x]).length c) (l ++ [x]).length (qv (l ++ [x])) → (W.alloc (Obj.cells #[.int .i64 (x : Int)] 3)).grownBy w' (Value.slice po l.length pc).ownBlock → ((Value.slice po l.length pc).ownBlock = some g ∨ W.heap.size ≤ g) → wpList Tryd.prog ops Q rest (a.put o.dst (.slice (some ⟨g, 0, none⟩) (l ++ [x]).length c)) w') :
    wpList Tryd.prog ops Q (o :: rest) a (W.alloc (Obj.cells #[.int .i64 (x : Int)] 3)) := by
  obtain ⟨i3, hi3, hy0, hy1, hy2⟩ := info_parts Tryd.info3
  refine wpList_append_lies _ hgd s y 29 ho base 3 i3 (.int .i64 0) 1 8 Tryd.underlying29 hi3 hy0 hy1 hy2 rfl (by decide) _ _ _ hs (hown.alloc _) ⟨W.heap.size, 0, none⟩ 1 1 [.int .i64 (x : Int)] hy rfl ?_ ?_ (by omega) ?_ ?_ ?_ (W.heap.size + 1) (by simp) ?_
  · exact cell_one_new _ _ _
  · intro y hy; simp at hy; subst hy; rfl
  · unfold maxLen; omega
  · omega
  · simp; omega
  · intro g c w' h1 h2 h3 _
    have := h g c w' (by simpa [qv] using h1) h2 (h3.imp id (fun h => by omega))
    simpa using this

/-- Block b holds these values. -/
abbrev Box (w : World) (b : Nat) (cs : Array Value) (t : TypeId) : Prop := w.heap[b]? = some (.cells cs t (0, 0))
theorem box_cell {w : World} {b : Nat} {cs : Array Value} {t : TypeId} (h : Box w b cs t) {i : Nat} {x : Value} (hx : cs[i]? = some x) : w.cell? ⟨b, i, none⟩ = some x := by
  rw [cell_of_row w b i cs t (0, 0) h]; exact hx
theorem box_free {w : World} {b : Nat} {cs : Array Value} {t : TypeId} (h : Box w b cs t) (i : Nat) : w.frozen? ⟨b, i, none⟩ = false := by
  have h' : w.heap[b]? = some (.cells cs t (0, 0)) := h
  simp [World.frozen?, h']
theorem box_set {w : World} {b : Nat} {cs : Array Value} {t : TypeId} (h : Box w b cs t) (i : Nat) (x : Value) : Box (w.setCell ⟨b, i, none⟩ x) b (cs.setIfInBounds i x) t := by
  have hl := lt_of_block h
  have h' : w.heap[b]? = some (.cells cs t (0, 0)) := h
  show (w.setCell ⟨b, i, none⟩ x).heap[b]? = _
  simp [World.setCell, Array.getElem?_modify, h']
theorem box_turns {M : Nat → Prop} {w w' : World} {b : Nat} {cs : Array Value} {t : TypeId} (h : Box w b cs t) (ht : Turns M w w') (hm : ¬ M b) : Box w' b cs t := (ht.block b (lt_of_block h) hm).trans h

abbrev sl (b N : Nat) : Value := .slice (some ⟨b, 0, none⟩) N N

/-- Of each node those near it, out of the way of bp, below base. -/
def NearP (w : World) (bp base g N : Nat) (ls : Nat → List Nat) : Prop := g ≠ bp ∧ g < base ∧
  ∀ i, i < N → ∃ xo xc, w.cell? ⟨g, i, none⟩ = some (.slice xo (ls i).length xc) ∧ ∀ k u : Nat, (ls i)[k]? = some u → ∃ b, b ≠ bp ∧ b < base ∧ xo = some ⟨b, 0, none⟩ ∧ w.cell? ⟨b, k, none⟩ = some (.int .i64 (u : Int))
theorem NearP.turns {M : Nat → Prop} {w w' : World} {bp base g N : Nat} {ls : Nat → List Nat} (h : NearP w bp base g N ls) (ht : Turns M w w') (hm : ∀ k, M k → k = bp ∨ base ≤ k) : NearP w' bp base g N ls := by
  refine ⟨h.1, h.2.1, fun i hi => ?_⟩
  obtain ⟨xo, xc, h1, h2⟩ := h.2.2 i hi
  refine ⟨xo, xc, cell_turns h1 ht (fun hh => ?_), fun k u hu => ?_⟩
  · rcases hm _ hh with e | e
    · exact h.1 e
    · have := h.2.1; exact absurd e (by simp; omega)
  · obtain ⟨b, h3, h4, h5, h6⟩ := h2 k u hu
    refine ⟨b, h3, h4, h5, cell_turns h6 ht (fun hh => ?_)⟩
    rcases hm _ hh with e | e
    · exact h3 e
    · exact absurd e (by simp; omega)

/-- A pairing: its rows, the search's rows and its queue. -/
structure PSt (w : World) (bp base g bm N : Nat) (ls : Nat → List Nat) (m : Nat → Option Nat) (be bf bb : Nat) (q : Value) (ev : Nat → Bool) (f : Nat → Option Nat) (bs : Nat → Nat) (Q : List Nat) : Prop where
  box : Box w bp #[sl g N, sl bm N, sl be N, sl bf N, sl bb N, q] 80
  near : NearP w bp base g N ls
  mate : RowV w bm 3 N (fun x => .int .i64 (farZ (m x)))
  even : RowB w be N ev
  src : RowV w bf 3 N (fun x => .int .i64 (farZ (f x)))
  bas : RowV w bb 3 N (fun x => .int .i64 (bs x : Nat))
  own : w.ownsRow base 3 1 q Q.length (qv Q)
  lt : bp < base ∧ bm < base ∧ bm ≠ bp
  ge : base ≤ be ∧ base ≤ bf ∧ base ≤ bb
  ne : be ≠ bf ∧ be ≠ bb ∧ bf ≠ bb ∧ q.ownBlock ≠ some be ∧ q.ownBlock ≠ some bf ∧ q.ownBlock ≠ some bb

section
variable {w w' : World} {bp base g bm N : Nat} {ls : Nat → List Nat} {m : Nat → Option Nat} {be bf bb : Nat} {q : Value} {ev : Nat → Bool} {f : Nat → Option Nat} {bs : Nat → Nat} {Q : List Nat}

/-- What is written while a search goes on. -/
abbrev Wr (bp base : Nat) : Nat → Prop := fun k => k = bp ∨ base ≤ k

theorem PSt.qlt (h : PSt w bp base g bm N ls m be bf bb q ev f bs Q) {k : Nat} (hk : q.ownBlock = some k) : base ≤ k ∧ k < w.heap.size := h.own.lt k hk
theorem PSt.turns {M : Nat → Prop} (h : PSt w bp base g bm N ls m be bf bb q ev f bs Q) (ht : Turns M w w') (hm : ∀ k, M k → base ≤ k ∧ k ≠ be ∧ k ≠ bf ∧ k ≠ bb ∧ q.ownBlock ≠ some k) : PSt w' bp base g bm N ls m be bf bb q ev f bs Q := by
  have hlt := h.lt
  exact ⟨box_turns h.box ht (fun hh => by have := hm _ hh; omega), h.near.turns ht (fun k hk => Or.inr (hm k hk).1), h.mate.turns ht (fun hh => by have := hm _ hh; omega), h.even.turns ht (fun hh => (hm _ hh).2.1 rfl), h.src.turns ht (fun hh => (hm _ hh).2.2.1 rfl), h.bas.turns ht (fun hh => (hm _ hh).2.2.2.1 rfl), ownsRow_blocks h.own (fun b hb => ht.block b (h.own.lt b hb).2 (fun hh => (hm _ hh).2.2.2.2 hb)), h.lt, h.ge, h.ne⟩
theorem PSt.below (h : PSt w bp base g bm N ls m be bf bb q ev f bs Q) (hb : Below w.heap.size w w') : PSt w' bp base g bm N ls m be bf bb q ev f bs Q :=
  h.turns (M := fun _ => False) (Turns.of_below hb _) (fun _ h => h.elim)
theorem PSt.congr {ev' : Nat → Bool} {f' : Nat → Option Nat} {bs' : Nat → Nat} (h : PSt w bp base g bm N ls m be bf bb q ev f bs Q) (h1 : ∀ x, x < N → ev x = ev' x) (h2 : ∀ x, x < N → f x = f' x) (h3 : ∀ x, x < N → bs x = bs' x) : PSt w bp base g bm N ls m be bf bb q ev' f' bs' Q :=
  ⟨h.box, h.near, h.mate, h.even.congr h1, h.src.congr (fun j hj => by rw [h2 j hj]), h.bas.congr (fun j hj => by rw [h3 j hj]), h.own, h.lt, h.ge, h.ne⟩
theorem PSt.setSrc (h : PSt w bp base g bm N ls m be bf bb q ev f bs Q) (y : Nat) (o : Option Nat) (hz : Int) (e : hz = farZ o) : PSt (w.setCell ⟨bf, y, none⟩ (.int .i64 hz)) bp base g bm N ls m be bf bb q ev (fun x => if x = y then o else f x) bs Q := by
  have ht := setCell_turns w bf y (.int .i64 hz)
  have hlt := h.lt
  have hge := h.ge
  have hne := h.ne
  refine ⟨box_turns h.box ht (fun hh => by omega), h.near.turns ht (fun k hk => Or.inr (by omega)), h.mate.turns ht (fun hh => by omega), h.even.turns ht (fun hh => hne.1 hh), (h.src.set y (.int .i64 hz)).congr (fun j _ => ?_), h.bas.turns ht (fun hh => hne.2.2.1 hh.symm), ownsRow_blocks h.own (fun b hb => ht.block b (h.own.lt b hb).2 (fun hh => hne.2.2.2.2.1 (hh ▸ hb))), h.lt, h.ge, h.ne⟩
  by_cases c : j = y
  · simp [c, e]
  · simp [c]
theorem PSt.setBas (h : PSt w bp base g bm N ls m be bf bb q ev f bs Q) (y z : Nat) : PSt (w.setCell ⟨bb, y, none⟩ (.int .i64 (z : Int))) bp base g bm N ls m be bf bb q ev f (fun x => if x = y then z else bs x) Q := by
  have ht := setCell_turns w bb y (.int .i64 (z : Int))
  have hlt := h.lt
  have hge := h.ge
  have hne := h.ne
  refine ⟨box_turns h.box ht (fun hh => by omega), h.near.turns ht (fun k hk => Or.inr (by omega)), h.mate.turns ht (fun hh => by omega), h.even.turns ht (fun hh => hne.2.1 hh), h.src.turns ht (fun hh => hne.2.2.1 hh), (h.bas.set y (.int .i64 (z : Int))).congr (fun j _ => ?_), ownsRow_blocks h.own (fun b hb => ht.block b (h.own.lt b hb).2 (fun hh => hne.2.2.2.2.2 (hh ▸ hb))), h.lt, h.ge, h.ne⟩
  by_cases c : j = y
  · simp [c]
  · simp [c]
theorem PSt.setEven (h : PSt w bp base g bm N ls m be bf bb q ev f bs Q) (y : Nat) : PSt (w.setCell ⟨be, y, none⟩ (.bool true)) bp base g bm N ls m be bf bb q (fun x => ev x || x == y) f bs Q := by
  have ht := setCell_turns w be y (.bool true)
  have hlt := h.lt
  have hge := h.ge
  have hne := h.ne
  refine ⟨box_turns h.box ht (fun hh => by omega), h.near.turns ht (fun k hk => Or.inr (by omega)), h.mate.turns ht (fun hh => by omega), (h.even.set y).congr (fun j _ => ?_), h.src.turns ht (fun hh => hne.1 hh.symm), h.bas.turns ht (fun hh => hne.2.1 hh.symm), ownsRow_blocks h.own (fun b hb => ht.block b (h.own.lt b hb).2 (fun hh => hne.2.2.2.1 (hh ▸ hb))), h.lt, h.ge, h.ne⟩
  exact Bool.or_comm _ _
/-- A number more in the queue. -/
theorem PSt.push {w1 : World} {qo : Option Addr} {qc x g1 c1 : Nat} {o : Obj} (h : PSt w bp base g bm N ls m be bf bb (.slice qo Q.length qc) ev f bs Q)
    (hown : w1.ownsRow base 3 1 (.slice (some ⟨g1, 0, none⟩) (Q ++ [x]).length c1) (Q ++ [x]).length (qv (Q ++ [x]))) (hg : (w.alloc o).grownBy w1 (Value.slice qo Q.length qc).ownBlock) (hat : (Value.slice qo Q.length qc).ownBlock = some g1 ∨ w.heap.size ≤ g1) :
    Box w1 bp #[sl g N, sl bm N, sl be N, sl bf N, sl bb N, .slice qo Q.length qc] 80 ∧ PSt (w1.setCell ⟨bp, 5, none⟩ (.slice (some ⟨g1, 0, none⟩) (Q ++ [x]).length c1)) bp base g bm N ls m be bf bb (.slice (some ⟨g1, 0, none⟩) (Q ++ [x]).length c1) ev f bs (Q ++ [x]) ∧ Turns (fun k => k = bp ∨ (Value.slice qo Q.length qc).ownBlock = some k) w (w1.setCell ⟨bp, 5, none⟩ (.slice (some ⟨g1, 0, none⟩) (Q ++ [x]).length c1)) := by
  have T := (alloc_turns w o (fun k => some k = (Value.slice qo Q.length qc).ownBlock)).trans (Turns.of_grown hg)
  have hlt := h.lt
  have hge := h.ge
  have hne := h.ne
  have hq : ∀ k, some k = (Value.slice qo Q.length qc).ownBlock → base ≤ k := fun k hk => (h.qlt hk.symm).1
  have T2 := setCell_turns w1 bp 5 (.slice (some ⟨g1, 0, none⟩) (Q ++ [x]).length c1)
  have hbs := h.even.lt
  have hg1 : base ≤ g1 ∧ g1 ≠ bp := by
    rcases hat with h1 | h1
    · have := hq g1 h1.symm; omega
    · omega
  have hb1 := box_turns h.box T (fun hh => by have := hq _ hh; omega)
  have e1 := h.even.lt
  have e2 := h.src.lt
  have e3 := h.bas.lt
  refine ⟨hb1, ⟨by simpa using box_set hb1 5 _, (h.near.turns T (fun k hk => Or.inr (hq k hk))).turns T2 (fun k hk => Or.inl hk), (h.mate.turns T (fun hh => by have := hq _ hh; omega)).turns T2 (fun hh => hlt.2.2 hh), (h.even.turns T (fun hh => hne.2.2.2.1 hh.symm)).turns T2 (fun hh => by omega), (h.src.turns T (fun hh => hne.2.2.2.2.1 hh.symm)).turns T2 (fun hh => by omega), (h.bas.turns T (fun hh => hne.2.2.2.2.2 hh.symm)).turns T2 (fun hh => by omega), ownsRow_blocks hown (fun b hb => T2.block b (hown.lt b hb).2 (fun hh => ?_)), h.lt, h.ge, ?_⟩, ?_⟩
  · have : b = g1 := by simpa [Value.ownBlock] using hb.symm
    omega
  · have hn : ∀ k, (Value.slice qo Q.length qc).ownBlock ≠ some k → k < w.heap.size → (Value.slice (some ⟨g1, 0, none⟩) (Q ++ [x]).length c1).ownBlock ≠ some k := fun k h1 h2 hh => by
      have : g1 = k := by simpa [Value.ownBlock] using hh
      rcases hat with h3 | h3
      · exact h1 (this ▸ h3)
      · omega
    exact ⟨hne.1, hne.2.1, hne.2.2.1, hn _ hne.2.2.2.1 e1, hn _ hne.2.2.2.2.1 e2, hn _ hne.2.2.2.2.2 e3⟩
  · exact (T.mono (fun k _ hk => Or.inr hk.symm)).trans (T2.mono (fun k _ hk => Or.inl hk))

set_option maxHeartbeats 1000000 in
theorem mark_call {v : Nat} (h : PSt w bp base g bm N ls m be bf bb q ev f bs Q) (hv : v < N) (hQ : Q.length ≤ 1000) :
    Calls Tryd.prog 56 #[.pointer (some ⟨bp, 2, none⟩), .int .i64 (v : Int)] w fun r w' => r = .returned (.tuple #[]) ∧ Turns (fun k => k = bp ∨ k = be ∨ q.ownBlock = some k) w w' ∧ ∃ q', PSt w' bp base g bm N ls m be bf bb q' (fun x => ev x || x == v) f bs (if ev v then Q else Q ++ [v]) ∧ ∀ k, q'.ownBlock = some k → q.ownBlock = some k ∨ w.heap.size ≤ k := by
  obtain ⟨qo, qc, rfl⟩ := form_row h.own
  have c2 := box_cell h.box (i := 2) rfl
  have c5 := box_cell h.box (i := 5) rfl
  have ce := h.even.cell hv
  have fe := h.even.free v
  have i1 : (0 : Int) ≤ (v : Int) := by omega
  have i2 : (v : Int) < (N : Int) := by omega
  have H : Hid _ := h
  have hge := h.ge
  have hlt := h.lt
  have hel := h.even.lt
  cases hev : ev v
  · rw [hev] at ce
    have h1 := h.setEven v
    have T1 := setCell_turns w be v (.bool true)
    clear h
    go_enter Tryd.func56, Tryd.ntmps56
    go_upto_region 2 with (fail)
    generalize w.setCell ⟨be, v, none⟩ (.bool true) = w1 at h1 T1 ⊢
    clear c2 c5 ce fe
    have c5 := box_cell h1.box (i := 5) rfl
    have hown := h1.own
    have hsz : base ≤ w1.heap.size := by have := h1.even.lt; omega
    have H1 : Hid _ := h1
    clear h1
    go_wp2_with (first
      | (at_builtin; refine wpList_pushA (x := v) rfl _ _ rfl rfl rfl hown (by omega) hsz ?_; intro g1 c1 w2 hown1 hgr1 hat1; obtain ⟨hb2, h2, T2⟩ := H1.out.push hown1 hgr1 hat1; have f5 := box_free hb2 5; have c51 := box_cell hb2 (i := 5) rfl; have H2 : Hid _ := h2; clear h2 hb2)
      | go_in)
    go_end0
    refine ⟨rfl, ?_, .slice (some ⟨g1, 0, none⟩) (Q ++ [v]).length c1, by simpa using H2.out, fun k hk => ?_⟩
    · have := (T1.mono (M' := fun k => k = bp ∨ k = be ∨ (Value.slice qo Q.length qc).ownBlock = some k) (fun k _ hk => Or.inr (Or.inl hk))).trans (T2.mono fun k _ hk => hk.imp id Or.inr)
      simpa using this
    · have e : g1 = k := by simpa [Value.ownBlock] using hk
      have := T1.size
      rcases hat1 with h3 | h3
      · exact Or.inl (e ▸ h3)
      · exact Or.inr (by omega)
  · rw [hev] at ce
    clear h
    go_enter Tryd.func56, Tryd.ntmps56
    go_wp2
    go_end0
    refine ⟨rfl, Turns.refl _ _, .slice qo Q.length qc, ?_, fun k hk => Or.inl hk⟩
    have hc := H.out.congr (ev' := fun x => ev x || x == v) (f' := f) (bs' := bs) (fun x _ => by
      by_cases c : x = v
      · simp [c, hev]
      · simp [c]) (fun _ _ => rfl) (fun _ _ => rfl)
    simpa using hc
end
end Go.Proofs.YtenjkhgpfmfgmaaDoor
