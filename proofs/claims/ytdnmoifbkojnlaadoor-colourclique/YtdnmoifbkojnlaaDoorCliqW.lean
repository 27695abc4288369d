/- greatestClique: the literal that goes through the cliques. -/
import Derived.Test.YtdnmoifbkojnlaaDoorCliqM
import Derived.Test.YtdnmoifbkojnlaaDoorSmall
namespace Go.Proofs.YtdnmoifbkojnlaaDoor
open Go.RowKit Go.Maps
attribute [local go_sem ↓] Go.wp_at_zero Go.wp_at_succ

set_option maxHeartbeats 1000000 in
theorem clone_call {w : World} {g pc : Nat} {l : List Nat} (hl : 0 < l.length) (hl2 : l.length ≤ 1000) (hc : ∀ (k u : Nat), l[k]? = some u → w.cell? ⟨g, k, none⟩ = some (.int .i64 (u : Int))) :
    Calls Tryd.prog 26 #[.slice (some ⟨g, 0, none⟩) l.length pc] w fun e w' => ∃ g' c', e = .returned (.slice (some ⟨g', 0, none⟩) l.length c') ∧ w'.ownsRow w.heap.size 3 1 (.slice (some ⟨g', 0, none⟩) l.length c') l.length (qv l) ∧ w.heap.size ≤ g' ∧ Below w.heap.size w w' := by
  obtain ⟨i3, hi3, hy0, hy1, hy2⟩ := info_parts Tryd.info3
  have HC : Hid (∀ (k u : Nat), l[k]? = some u → w.cell? ⟨g, k, none⟩ = some (.int .i64 (u : Int))) := hc
  have hB := below_alloc (Below.refl _ w) (Obj.cells #[] 3)
  have ho : (w.alloc (Obj.cells #[] 3)).ownsRow w.heap.size 3 1 (.slice (some ⟨w.heap.size, 0, none⟩) 0 0) 0 [] := ⟨rfl, Or.inr ⟨w.heap.size, 0, #[], rfl, Nat.le_refl _, heap_alloc_new _ _, Nat.le_refl _, by unfold maxLen; omega, rfl, rfl⟩⟩
  have hq : ∀ j u, (qv l)[j]? = some u → (w.alloc (Obj.cells #[] 3)).cell? ((⟨g, 0, none⟩ : Addr).add j) = some u := fun j u hj => by
    unfold qv at hj
    rw [List.getElem?_map] at hj
    obtain ⟨y, hy, rfl⟩ := Option.map_eq_some_iff.1 hj
    have h1 := HC.out j y hy
    rw [add_none]
    exact (hB.cell (World.block_lt_of_cell? w _ h1)).trans h1
  have HO : Hid ((w.alloc (Obj.cells #[] 3)).ownsRow w.heap.size 3 1 (.slice (some ⟨w.heap.size, 0, none⟩) 0 0) 0 []) := ho
  have HQ : Hid (∀ j u, (qv l)[j]? = some u → (w.alloc (Obj.cells #[] 3)).cell? ((⟨g, 0, none⟩ : Addr).add j) = some u) := hq
  have HL : Hid ((qv l).length = l.length * 1) := by show (qv l).length = l.length * 1; unfold qv; simp
  have H1 : Hid (∀ u ∈ qv l, u.oneCell' = true) := fun u hu => by
    unfold qv at hu
    obtain ⟨y, _, rfl⟩ := List.mem_map.1 hu
    rfl
  have hnil : ∀ w : World, (binOp .eql 29 (.slice (some ⟨g, 0, none⟩) l.length pc) (.slice none 0 0)).run Tryd.prog w = .ok (.bool false) w := fun _ => by kernel_rfl
  clear hc ho hq
  go_enter Tryd.func26, Tryd.ntmps26
  go_wp2_with (first | (at_builtin; refine wpList_append_lies _ rfl _ _ 29 rfl w.heap.size 3 i3 (.int .i64 0) 1 8 Tryd.underlying29 hi3 hy0 hy1 hy2 rfl (by decide) _ _ _ rfl HO.out ⟨g, 0, none⟩ l.length pc (qv l) rfl HL.out HQ.out H1.out hl (by unfold maxLen; omega) (by omega) (by simp) (w.heap.size + 1) (by simp) ?_; intro g1 c1 w1 hown1 hgr1 hat1 _) | go_in)
  have hown2 : w1.ownsRow w.heap.size 3 1 (.slice (some ⟨g1, 0, none⟩) l.length c1) l.length (qv l) := by simpa using hown1
  have hge := (hown2.lt g1 rfl).1
  have hB1 : Below w.heap.size w w1 := Turns.below hB (Turns.of_grown hgr1) hB.size (fun x hx => by
    have hx' : some x = some w.heap.size := hx
    have : x = w.heap.size := by simpa using hx'
    omega)
  clear hown1 hgr1 hat1
  go_ret
  exact ⟨g1, c1, rfl, hown2, hge, hB1⟩
theorem ctz_bits {O : Nat} (h0 : O ≠ 0) (h : O < 4294967296) : O.testBit (Lib.ctz 32 O) = true ∧ (∀ z, z < Lib.ctz 32 O → O.testBit z = false) ∧ Lib.ctz 32 O < 32 := by
  obtain ⟨m, hm, hk⟩ := Lib.ctzFrom_spec 32 O (by omega) h
  have e : Lib.ctz 32 O = Lib.ctzFrom 32 O := by simp [Lib.ctz, h0]
  rw [e]
  generalize Lib.ctzFrom 32 O = c at hm hk ⊢
  have hp : 2 ^ (c + 1) = 2 ^ c + 2 ^ c := by rw [Nat.pow_succ]; omega
  have hp0 := Nat.two_pow_pos c
  have e1 : O = 2 ^ (c + 1) * m + 2 ^ c := by rw [hm, Nat.mul_add, Nat.pow_succ, Nat.mul_assoc]; omega
  have b1 : ∀ z, O.testBit z = if z < c + 1 then (2 ^ c).testBit z else m.testBit (z - (c + 1)) := fun z => by
    have := Nat.testBit_two_pow_mul_add m (i := c + 1) (b := 2 ^ c) (by omega) z
    rw [← e1] at this; exact this
  exact ⟨by rw [b1, if_pos (by omega)]; simp, fun z hz => by rw [b1, if_pos (by omega), Nat.testBit_two_pow]; simp; omega, hk⟩
theorem andNot_bits {R c : Nat} (hR : R < 4294967296) (hc : c < 32) (z : Nat) : (R &&& (4294967295 - 2 ^ c)).testBit z = (R.testBit z && !(z == c)) := by
  have hp : 2 ^ c < 2 ^ 32 := Nat.pow_lt_pow_right (by omega) hc
  have e : 4294967295 - 2 ^ c = 2 ^ 32 - (2 ^ c + 1) := by
    have : (2 : Nat) ^ 32 = 4294967296 := rfl
    omega
  rw [Nat.testBit_and, e, Nat.testBit_two_pow_sub_succ hp, Nat.testBit_two_pow]
  cases h : R.testBit z with
  | false => simp
  | true =>
    have hz : z < 32 := by
      apply Classical.byContradiction
      intro hz
      have h2 : R < 2 ^ z := Nat.lt_of_lt_of_le hR (by have : (2 : Nat) ^ 32 ≤ 2 ^ z := Nat.pow_le_pow_right (by omega) (by omega); simpa using this)
      rw [Nat.testBit_lt_two_pow h2] at h; cases h
    by_cases e : c = z
    · subst e; simp
    · have e' : ¬ z = c := fun h => e h.symm
      simp [hz, e, e']
/-- Where the search lies. -/
structure Cl where
  cb : Nat
  bb : Nat
  fb : Nat
  nb : Nat
  gn : Nat
  lo : Nat
  n : Nat
  mask : Nat → Nat
abbrev Cl.caps (c : Cl) : Array Value := #[ptr c.cb, ptr c.bb, ptr c.fb, ptr c.nb]
structure Cl.ok (c : Cl) : Prop where
  d : c.cb ≠ c.bb ∧ c.fb ≠ c.cb ∧ c.fb ≠ c.bb ∧ c.nb ≠ c.cb ∧ c.nb ≠ c.bb ∧ c.gn ≠ c.cb ∧ c.gn ≠ c.bb ∧ 0 < c.cb ∧ 0 < c.bb
  lt : c.cb < c.lo ∧ c.bb < c.lo ∧ c.fb < c.lo ∧ c.nb < c.lo ∧ c.gn < c.lo
/-- What the search reads. -/
structure CR (c : Cl) (w : World) : Prop where
  fn : One w c.fb (.func (.func 25) #[] c.caps) 59
  near : One w c.nb (sl c.gn c.n) 44
  row : RowV w c.gn 57 c.n (fun v => .int .u32 ((c.mask v : Nat) : Int))
  tab : T32 w
  lo : c.lo ≤ w.heap.size
/-- The clique and the best one so far. -/
structure CQ (c : Cl) (w : World) (l b : List Nat) (po : Option Addr) (pc : Nat) (bo : Option Addr) (bc : Nat) : Prop where
  cl : One w c.cb (.slice po l.length pc) 29
  own : w.ownsRow c.lo 3 1 (.slice po l.length pc) l.length (qv l)
  be : One w c.bb (.slice bo b.length bc) 29
  bown : w.ownsRow c.lo 3 1 (.slice bo b.length bc) b.length (qv b)
  sep : ∀ x, (Value.slice po l.length pc).ownBlock = some x → (Value.slice bo b.length bc).ownBlock ≠ some x
abbrev Cl.M (c : Cl) (k : Nat) : Prop := k = c.cb ∨ k = c.bb ∨ c.lo ≤ k
theorem t32_turns {M : Nat → Prop} {w w' : World} (h : T32 w) (ht : Turns M w w') (hm : ¬ M 0) : T32 w' := fun j hj => cell_turns (h j hj) ht hm
theorem CR.turns {c : Cl} {w w' : World} (h : CR c w) (hk : c.ok) (ht : Turns c.M w w') : CR c w' := by
  obtain ⟨d, l⟩ := hk
  have no : ∀ x, x ≠ c.cb → x ≠ c.bb → x < c.lo → ¬ c.M x := fun x h1 h2 h3 hm => by
    rcases hm with e | e | e
    · exact h1 e
    · exact h2 e
    · omega
  exact ⟨one_turns h.fn ht (no _ d.2.1 d.2.2.1 l.2.2.1), one_turns h.near ht (no _ d.2.2.2.1 d.2.2.2.2.1 l.2.2.2.1), h.row.turns ht (no _ d.2.2.2.2.2.1 d.2.2.2.2.2.2.1 l.2.2.2.2), t32_turns h.tab ht (no 0 (by omega) (by omega) (by omega)), Nat.le_trans h.lo ht.size⟩
theorem cq_le (adj : Nat → Nat → Bool) : ∀ k (o l b : List Nat), o.length ≤ k → (cq adj o l b).length ≤ max b.length (l.length + o.length)
  | _, [], l, b, _ => by rw [cq_nil]; omega
  | 0, v :: o, l, b, h => by simp at h
  | k + 1, v :: o, l, b, h => by
    have hk : o.length ≤ k := by simp at h; omega
    have hf := List.length_filter_le (adj v) o
    rw [cq_cons]
    have h1 := cq_le adj k o l (cq adj (o.filter (adj v)) (l ++ [v]) (upL b (l ++ [v]))) hk
    have h2 := cq_le adj k (o.filter (adj v)) (l ++ [v]) (upL b (l ++ [v])) (by omega)
    have e1 : (l ++ [v]).length = l.length + 1 := by simp
    have h3 : (upL b (l ++ [v])).length ≤ max b.length (l.length + 1) := by
      unfold upL
      rw [e1]
      split
      · rw [e1]; omega
      · omega
    rw [e1] at h2
    rw [List.length_cons]
    omega
/-- What the literal leaves. -/
def End25 (c : Cl) (adj : Nat → Nat → Bool) (O : Nat) (l b : List Nat) (w : World) (e : Ending) (w' : World) : Prop := e = .returned (.tuple #[]) ∧ (∃ po pc bo bc, CQ c w' l (cq adj (bl O) l (upL b l)) po pc bo bc) ∧ Turns c.M w w'
theorem CQ.cells {c : Cl} {w : World} {l b : List Nat} {po bo : Option Addr} {pc bc : Nat} (h : CQ c w l b po pc bo bc) : w.cell? ⟨c.cb, 0, none⟩ = some (.slice po l.length pc) ∧ w.cell? ⟨c.bb, 0, none⟩ = some (.slice bo b.length bc) := ⟨box_cell h.cl rfl, box_cell h.be rfl⟩
theorem own_ne {c : Cl} (hk : c.ok) {w : World} {v : Value} {n : Nat} {xs : List Value} (h : w.ownsRow c.lo 3 1 v n xs) : ∀ x, v.ownBlock = some x → x ≠ c.cb ∧ x ≠ c.bb := fun x hx => by
  have := (h.lt x hx).1
  have := hk.lt
  omega
theorem CQ.below {c : Cl} {w w' : World} {l b : List Nat} {po bo : Option Addr} {pc bc : Nat} (h : CQ c w l b po pc bo bc) (hb : Below w.heap.size w w') : CQ c w' l b po pc bo bc :=
  ⟨(hb.block _ (lt_of_block h.cl)).trans h.cl, ownsRow_blocks h.own (fun x hx => hb.block x ((h.own.lt x hx).2)), (hb.block _ (lt_of_block h.be)).trans h.be, ownsRow_blocks h.bown (fun x hx => hb.block x ((h.bown.lt x hx).2)), h.sep⟩
theorem one_set {w : World} {b : Nat} {x y : Value} {t : TypeId} (h : One w b x t) : One (w.setCell ⟨b, 0, none⟩ y) b y t := by
  have := box_set h 0 y
  simpa using this
/-- A new best one. -/
theorem CQ.best {c : Cl} (hk : c.ok) {w w1 : World} {l b : List Nat} {po bo : Option Addr} {pc bc g' c' : Nat} (h : CQ c w l b po pc bo bc) (hb : Below w.heap.size w w1) (hlo : c.lo ≤ w.heap.size) (ho : w1.ownsRow w.heap.size 3 1 (.slice (some ⟨g', 0, none⟩) l.length c') l.length (qv l)) :
    CQ c (w1.setCell ⟨c.bb, 0, none⟩ (.slice (some ⟨g', 0, none⟩) l.length c')) l l po pc (some ⟨g', 0, none⟩) c' := by
  have h1 := h.below hb
  have hge := (ho.lt g' rfl).1
  refine ⟨one_far h1.cl hk.d.1, ownsRow_blocks h1.own (fun x hx => Below.heap_setCell _ _ _ _ (own_ne hk h1.own x hx).2), one_set h1.be, ?_, fun x hx => ?_⟩
  · refine ownsRow_blocks (ownsRow_mono ho hlo) (fun x hx => Below.heap_setCell _ _ _ _ ?_)
    have := (ho.lt x hx).1
    have := hk.lt
    show x ≠ c.bb
    omega
  · have h2 := (h.own.lt x hx).2
    intro e
    have : g' = x := by simpa [Value.ownBlock] using e
    omega
theorem CQ.turns_best {c : Cl} {w w1 : World} (hb : Below w.heap.size w w1) (v : Value) : Turns c.M w (w1.setCell ⟨c.bb, 0, none⟩ v) :=
  (Turns.of_below hb _).trans ((setCell_turns w1 c.bb 0 v).mono (fun _ _ e => Or.inr (Or.inl e)))
/-- One node more in the clique. -/
theorem CQ.push {c : Cl} (hk : c.ok) {w w2 : World} {l b : List Nat} {po bo : Option Addr} {pc bc g1 c1 v : Nat} (h : CQ c w l b po pc bo bc) (ho : w2.ownsRow c.lo 3 1 (.slice (some ⟨g1, 0, none⟩) (l ++ [v]).length c1) (l ++ [v]).length (qv (l ++ [v])))
    (hg : (w.alloc (Obj.cells #[.int .i64 (v : Int)] 3)).grownBy w2 (Value.slice po l.length pc).ownBlock) (hat : (Value.slice po l.length pc).ownBlock = some g1 ∨ w.heap.size ≤ g1) :
    (One w2 c.cb (.slice po l.length pc) 29) ∧ CQ c (w2.setCell ⟨c.cb, 0, none⟩ (.slice (some ⟨g1, 0, none⟩) (l ++ [v]).length c1)) (l ++ [v]) b (some ⟨g1, 0, none⟩) c1 bo bc ∧ Turns c.M w (w2.setCell ⟨c.cb, 0, none⟩ (.slice (some ⟨g1, 0, none⟩) (l ++ [v]).length c1)) := by
  have T := (alloc_turns w (Obj.cells #[.int .i64 (v : Int)] 3) (fun x => some x = (Value.slice po l.length pc).ownBlock)).trans (Turns.of_grown hg)
  have hbox : ∀ x, x < c.lo → ¬ (some x = (Value.slice po l.length pc).ownBlock) := fun x hx e => by
    have := (h.own.lt x e.symm).1
    omega
  have hcb := one_turns h.cl T (hbox _ hk.lt.1)
  have hbb := one_turns h.be T (hbox _ hk.lt.2.1)
  have hbo : w2.ownsRow c.lo 3 1 (.slice bo b.length bc) b.length (qv b) := ownsRow_blocks h.bown (fun x hx => T.block x ((h.bown.lt x hx).2) (fun e => h.sep x e.symm hx))
  refine ⟨hcb, ⟨one_set hcb, ownsRow_blocks ho (fun x hx => Below.heap_setCell _ _ _ _ (own_ne hk ho x hx).1), one_far hbb (fun e => hk.d.1 e.symm), ownsRow_blocks hbo (fun x hx => Below.heap_setCell _ _ _ _ (own_ne hk hbo x hx).1), fun x hx e => ?_⟩, ?_⟩
  · have hx' : g1 = x := by simpa [Value.ownBlock] using hx
    subst hx'
    rcases hat with h1 | h1
    · exact h.sep g1 h1 e
    · have := (h.bown.lt g1 e).2
      omega
  · refine (T.mono (fun x _ e => Or.inr (Or.inr ((h.own.lt x e.symm).1)))).trans ((setCell_turns w2 c.cb 0 _).mono (fun _ _ e => Or.inl e))
/-- The last node is out of it again. -/
theorem CQ.pop {c : Cl} (hk : c.ok) {w : World} {l b : List Nat} {v : Nat} {g : Nat} {bo : Option Addr} {pc bc : Nat} (h : CQ c w (l ++ [v]) b (some ⟨g, 0, none⟩) pc bo bc) :
    CQ c (w.setCell ⟨c.cb, 0, none⟩ (.slice (some ⟨g, 0, none⟩) l.length pc)) l b (some ⟨g, 0, none⟩) pc bo bc := by
  have ho : w.ownsRow c.lo 3 1 (.slice (some ⟨g, 0, none⟩) l.length pc) l.length (qv l) := by
    refine ⟨by unfold qv; simp, ?_⟩
    rcases h.own.2 with ⟨e, _⟩ | ⟨g', cap, cur, e, h1, h2, h3, h4, h5, h6⟩
    · cases e
    · cases e
      refine Or.inr ⟨g, pc, cur, rfl, h1, h2, ?_, h4, h5, ?_⟩
      · simp at h3; omega
      · have h7 : (cur.toList.take ((l ++ [v]).length * 1)).take l.length = (qv (l ++ [v])).take l.length := by rw [h6]
        rw [List.take_take] at h7
        have e1 : min l.length ((l ++ [v]).length * 1) = l.length * 1 := by simp
        rw [e1] at h7
        rw [h7]
        unfold qv
        rw [List.map_append, List.take_left' (by simp)]
  refine ⟨one_set h.cl, ownsRow_blocks ho (fun x hx => Below.heap_setCell _ _ _ _ (own_ne hk ho x hx).1), one_far h.be (fun e => hk.d.1 e.symm), ownsRow_blocks h.bown (fun x hx => Below.heap_setCell _ _ _ _ (own_ne hk h.bown x hx).1), fun x hx => h.sep x hx⟩
theorem enter25 (args : Array Value) (w : World) : (callFunc 25 args).run Tryd.prog w = .ok (.enter 25 args) w := by
  simp [callFunc, Tryd.func25, go_sem]
  rw [if_neg (of_decide_eq_true (by kernel_rfl)), if_neg (by intro h; have : Tryd.f25.body.isSome = true := (by kernel_rfl); rw [h] at this; cases this)]
/-- How far the loop is. -/
structure LoopC (c : Cl) (adj : Nat → Nat → Bool) (w : World) (m : Nat) (l T : List Nat) (O : Nat) (b : List Nat) (po : Option Addr) (pc : Nat) (bo : Option Addr) (bc : Nat) (wr : World) : Prop where
  lt : O < 4294967296
  mem : ∀ v ∈ bl O, v < c.n
  len : l.length + (bl O).length ≤ 32
  b32 : b.length ≤ 32
  lb : l.length ≤ b.length
  m : (bl O).length ≤ m
  eq : cq adj (bl O) l b = T
  cq : CQ c wr l b po pc bo bc
  tn : Turns c.M w wr
set_option maxRecDepth 4000 in
set_option maxHeartbeats 6000000 in
theorem from25_call {c : Cl} (hk : c.ok) {adj : Nat → Nat → Bool} (hadj : ∀ v z, v < c.n → (c.mask v).testBit z = adj v z) (hmask : ∀ v, v < c.n → c.mask v < 4294967296) :
    ∀ (m O : Nat) (l b : List Nat) (w : World) (po : Option Addr) (pc : Nat) (bo : Option Addr) (bc : Nat), (bl O).length = m → O < 4294967296 → (∀ v ∈ bl O, v < c.n) → l.length + (bl O).length ≤ 32 → b.length ≤ 32 → CR c w → CQ c w l b po pc bo bc →
      Calls Tryd.prog 25 #[.int .u32 (O : Int), ptr c.cb, ptr c.bb, ptr c.fb, ptr c.nb] w (End25 c adj O l b w) := by
  have HADJ : Hid (∀ v z, v < c.n → (c.mask v).testBit z = adj v z) := hadj
  have HMASK : Hid (∀ v, v < c.n → c.mask v < 4294967296) := hmask
  have HK : Hid c.ok := hk
  clear hadj hmask hk
  intro m
  induction m using Nat.strongRecOn with
  | _ m ih =>
    intro O l b w po pc bo bc hm hO hON hlO hb hcr hcq
    have IH : Hid (∀ m', m' < m → ∀ (O : Nat) (l b : List Nat) (w : World) (po : Option Addr) (pc : Nat) (bo : Option Addr) (bc : Nat), (bl O).length = m' → O < 4294967296 → (∀ v ∈ bl O, v < c.n) → l.length + (bl O).length ≤ 32 → b.length ≤ 32 → CR c w → CQ c w l b po pc bo bc →
      Calls Tryd.prog 25 #[.int .u32 (O : Int), ptr c.cb, ptr c.bb, ptr c.fb, ptr c.nb] w (End25 c adj O l b w)) := ih
    have HCR : Hid (CR c w) := hcr
    have HCQ : Hid (CQ c w l b po pc bo bc) := hcq
    have HON : Hid (∀ v ∈ bl O, v < c.n) := hON
    have HLO : Hid (l.length + (bl O).length ≤ 32) := hlO
    have HM : Hid ((bl O).length = m) := hm
    obtain ⟨c1, c2⟩ := hcq.cells
    have f2 : w.frozen? ⟨c.bb, 0, none⟩ = false := one_free hcq.be
    obtain ⟨ln, hln⟩ : ∃ ln, ln = l.length := ⟨_, rfl⟩
    obtain ⟨bn, hbn⟩ : ∃ bn, bn = b.length := ⟨_, rfl⟩
    rw [← hln] at c1
    rw [← hbn] at c2
    have HLN : Hid (ln = l.length) := hln
    have HBN : Hid (bn = b.length) := hbn
    have hln32 : ln ≤ 32 := by omega
    have hbn32 : bn ≤ 32 := by omega
    have hclone : bn < ln → ∃ g, po = some ⟨g, 0, none⟩ ∧ Calls Tryd.prog 26 #[.slice (some ⟨g, 0, none⟩) ln pc] w fun e w' => ∃ g' c', e = .returned (.slice (some ⟨g', 0, none⟩) ln c') ∧ w'.ownsRow w.heap.size 3 1 (.slice (some ⟨g', 0, none⟩) ln c') ln (qv l) ∧ w.heap.size ≤ g' ∧ Below w.heap.size w w' := fun hlt => by
      have h0 : 0 < l.length := by omega
      obtain ⟨g, e, _⟩ := qcell hcq.own (k := 0) (u := l[0]) (List.getElem?_eq_getElem h0)
      refine ⟨g, e, ?_⟩
      rw [hln]
      refine clone_call h0 (by omega) (fun k u hu => ?_)
      obtain ⟨g', e', hc⟩ := qcell hcq.own hu
      rw [e] at e'
      cases e'
      exact hc
    have HCL : Hid (bn < ln → ∃ g, po = some ⟨g, 0, none⟩ ∧ Calls Tryd.prog 26 #[.slice (some ⟨g, 0, none⟩) ln pc] w fun e w' => ∃ g' c', e = .returned (.slice (some ⟨g', 0, none⟩) ln c') ∧ w'.ownsRow w.heap.size 3 1 (.slice (some ⟨g', 0, none⟩) ln c') ln (qv l) ∧ w.heap.size ≤ g' ∧ Below w.heap.size w w') := hclone
    clear ih hcr hcq hON hlO hm hln hbn hclone hb
    go_enter Tryd.func25, Tryd.ntmps25
    go_upto_if 11 with (fail)
    generalize hg : decide (bn < ln) = gm
    have HG : Hid (decide (bn < ln) = gm) := hg
    clear hg
    go_cut [] from 12 to 13 (fun wc => (∃ po pc bo bc, CQ c wc l (upL b l) po pc bo bc) ∧ Turns c.M w wc)
    case first =>
      cases gm with
      | true =>
        have hlt : bn < ln := by simpa using HG.out
        obtain ⟨g, rfl, h26⟩ := HCL.out hlt
        have H26 : Hid (Calls Tryd.prog 26 #[.slice (some ⟨g, 0, none⟩) ln pc] w fun e w' => ∃ g' c', e = .returned (.slice (some ⟨g', 0, none⟩) ln c') ∧ w'.ownsRow w.heap.size 3 1 (.slice (some ⟨g', 0, none⟩) ln c') ln (qv l) ∧ w.heap.size ≤ g' ∧ Below w.heap.size w w') := h26
        have hup : upL b l = l := by
          unfold upL
          rw [← HLN.out, ← HBN.out, if_pos hlt]
        have HUP : Hid (upL b l = l) := hup
        clear h26 hup HG
        go_wp2_with (first | (go_at_call 26; refine Calls.mono H26.out ?_; rintro e w1 ⟨g', c', rfl, ho, hge, hb1⟩; have f3 : w1.frozen? ⟨c.bb, 0, none⟩ = false := one_free (HCQ.out.below hb1).be; have c3 := (HCQ.out.below hb1).cells.2) | go_in)
        go_meet
        case rel =>
          have e := HLN.out
          subst e
          exact ⟨⟨_, _, _, _, by rw [HUP.out]; exact HCQ.out.best HK.out hb1 HCR.out.lo ho⟩, CQ.turns_best hb1 _⟩
      | false =>
        have hlt : ¬ bn < ln := by simpa using HG.out
        have hup : upL b l = b := by
          unfold upL
          rw [← HLN.out, ← HBN.out, if_neg hlt]
        have HUP : Hid (upL b l = b) := hup
        clear hup HG
        go_wp2_with fail
        go_meet
        case rel => exact ⟨⟨po, pc, bo, bc, by rw [HUP.out]; exact HCQ.out⟩, Turns.refl _ _⟩
    case rest =>
      obtain ⟨⟨po1, pc1, bo1, bc1, hcq1⟩, ht1⟩ := hcut
      generalize wc = W1 at hcq1 ht1 ⊢
      obtain ⟨T, hT⟩ : ∃ T, T = cq adj (bl O) l (upL b l) := ⟨_, rfl⟩
      have HT : Hid (T = cq adj (bl O) l (upL b l)) := hT
      have hup : (upL b l).length ≤ 32 := by
        unfold upL
        have := HLN.out
        have := HBN.out
        split <;> omega
      have HL0 : Hid (LoopC c adj w m l T O (upL b l) po1 pc1 bo1 bc1 W1) := ⟨hO, HON.out, HLO.out, hup, (upL_len b l).2, Nat.le_of_eq HM.out, hT.symm, hcq1, ht1⟩
      clear hT hup hcq1 ht1 HLO HON HCL HG f2 c1 c2 hO HM HBN hbn32 HCQ
      go_wp2
      go_loopw [0] (fun s0 wr => ∃ (O' : Nat) (b' : List Nat) (po : Option Addr) (pc : Nat) (bo : Option Addr) (bc : Nat), s0 = .int .u32 (O' : Int) ∧ LoopC c adj w m l T O' b' po pc bo bc wr) (fun s0 _ => (bl (numOf s0).toNat).length)
      case atStart => exact ⟨O, upL b l, po1, pc1, bo1, bc1, rfl, HL0.out⟩
      case round =>
        clear HL0
        obtain ⟨O', b', po', pc', bo', bc', rfl, hlp⟩ := hrel
        have hcr := HCR.out.turns HK.out hlp.tn
        have HLP : Hid (LoopC c adj w m l T O' b' po' pc' bo' bc' wr) := hlp
        have HCRr : Hid (CR c wr) := hcr
        obtain ⟨c1, c2⟩ := hlp.cq.cells
        obtain ⟨sz, hsz⟩ : ∃ sz, sz = (bl O').length := ⟨_, rfl⟩
        obtain ⟨bn', hbn'⟩ : ∃ bn', bn' = b'.length := ⟨_, rfl⟩
        rw [← HLN.out] at c1
        rw [← hbn'] at c2
        have hszl : ln + sz ≤ 32 := by have := hlp.len; rw [HLN.out, hsz]; exact this
        have hbl : bn' ≤ 32 := by have := hlp.b32; omega
        have hlb : ln ≤ bn' := by have := hlp.lb; have := HLN.out; omega
        have hO' := hlp.lt
        have HSZ : Hid (sz = (bl O').length) := hsz
        have HBN' : Hid (bn' = b'.length) := hbn'
        have H27 : Hid (∀ W : World, Calls Tryd.prog 27 #[.int .u32 (O' : Int)] W fun e w' => e = .returned (.int .i64 (sz : Int)) ∧ ∃ m, w' = W.drewN m) := fun W => by rw [hsz]; exact size_call O' hO' W
        have k0 : IntKind.i64.wrap ((ln : Int) + (sz : Int)) = (ln : Int) + (sz : Int) := by rw [IntKind.wrap_i64]; omega
        clear hlp hcr hsz hbn'
        by_cases hgo : ln + sz > bn'
        · have k1 : (ln : Int) + (sz : Int) > (bn' : Int) := by omega
          go_upto_region 2 with (fail)
          go_quiet ((go_at_call 27; exact Calls.quiet_of (H27.out _)))
          have hne : O' ≠ 0 := fun e => by
            have h1 := HSZ.out
            rw [e, bl_zero] at h1
            simp at h1
            omega
          obtain ⟨z1, z2, z3⟩ := ctz_bits hne hO'
          obtain ⟨v, hv⟩ : ∃ v, v = Lib.ctz 32 O' := ⟨_, rfl⟩
          rw [← hv] at z1 z2 z3
          obtain ⟨P, hP⟩ : ∃ P, P = 2 ^ v := ⟨_, rfl⟩
          obtain ⟨O2, hO2⟩ : ∃ O2, O2 = O' &&& (4294967295 - P) := ⟨_, rfl⟩
          have hP32 : P < 4294967296 := by rw [hP]; exact pow_lt32 z3
          have hO2l : O2 < 4294967296 := by
            have : O2 ≤ O' := by rw [hO2]; exact Nat.and_le_left
            omega
          have hbl1 : bl O' = v :: bl O2 := bl_first z3 z1 z2 (fun z => by rw [hO2, hP]; exact andNot_bits hO' z3 z)
          have hvn : v < c.n := HLP.out.mem v (by rw [hbl1]; simp)
          obtain ⟨M, hM⟩ : ∃ M, M = c.mask v := ⟨_, rfl⟩
          obtain ⟨O3, hO3⟩ : ∃ O3, O3 = O2 &&& M := ⟨_, rfl⟩
          have hM32 : M < 4294967296 := by rw [hM]; exact HMASK.out v hvn
          have hO3l : O3 < 4294967296 := by
            have : O3 ≤ O2 := by rw [hO3]; exact Nat.and_le_left
            omega
          have hbl3 : bl O3 = (bl O2).filter (adj v) := by rw [hO3]; exact bl_and (fun z => by rw [hM]; exact HADJ.out v z hvn)
          have hf3 := List.length_filter_le (adj v) (bl O2)
          rw [← hbl3] at hf3
          have hlen1 : (bl O').length = (bl O2).length + 1 := by rw [hbl1]; simp
          obtain ⟨b2, hb2⟩ : ∃ b2, b2 = cq adj (bl O3) (l ++ [v]) (upL b' (l ++ [v])) := ⟨_, rfl⟩
          have hlv : (l ++ [v]).length = l.length + 1 := by simp
          have hLlen := HLP.out.len
          have hLm := HLP.out.m
          have hLb := HLP.out.b32
          have hu32 : (upL b' (l ++ [v])).length ≤ 32 := by
            unfold upL
            rw [hlv]
            split
            · rw [hlv]; omega
            · omega
          have hub := upL_len b' (l ++ [v])
          have hb2a := cq_len adj _ (bl O3) (l ++ [v]) (upL b' (l ++ [v])) (Nat.le_refl _)
          have hb2b := cq_le adj _ (bl O3) (l ++ [v]) (upL b' (l ++ [v])) (Nat.le_refl _)
          rw [← hb2] at hb2a hb2b
          rw [hlv] at hub hb2b
          have HNX : Hid (∀ (po : Option Addr) (pc : Nat) (bo : Option Addr) (bc : Nat) (W : World), CQ c W l b2 po pc bo bc → Turns c.M w W → LoopC c adj w m l T O2 b2 po pc bo bc W) := fun po pc bo bc W h1 h2 => ⟨hO2l, fun x hx => HLP.out.mem x (by rw [hbl1]; simp [hx]), by omega, by omega, by omega, by omega, by
            have h3 := HLP.out.eq
            rw [hbl1, cq_cons, ← hbl3, ← hb2] at h3
            exact h3, h1, h2⟩
          have HMS : Hid ((bl O2).length < (bl O').length) := by show (bl O2).length < (bl O').length; omega
          have HIH : Hid (∀ (po : Option Addr) (pc : Nat) (bo : Option Addr) (bc : Nat) (W : World), CR c W → CQ c W (l ++ [v]) b' po pc bo bc → Calls Tryd.prog 25 #[.int .u32 (O3 : Int), ptr c.cb, ptr c.bb, ptr c.fb, ptr c.nb] W fun e w' => e = .returned (.tuple #[]) ∧ (∃ po pc bo bc, CQ c w' (l ++ [v]) b2 po pc bo bc) ∧ Turns c.M W w') := fun po pc bo bc W h1 h2 => by
            rw [hb2]
            exact IH.out (bl O3).length (by omega) O3 (l ++ [v]) b' W po pc bo bc rfl hO3l (fun x hx => by
              rw [hbl3] at hx
              exact HLP.out.mem x (by rw [hbl1]; simp [(List.mem_filter.1 hx).1])) (by rw [hlv]; omega) hLb h1 h2
          have e1 : bits BinOp.andNot IntKind.u32 (O' : Int) (P : Int) = (O2 : Int) := by rw [u32_andNot_nat O' P hO' hP32, hO2]
          have e2 : bits BinOp.and IntKind.u32 (O2 : Int) (M : Int) = (O3 : Int) := by rw [u32_and_nat O2 M hO2l hM32, hO3]
          have hBq := drewN_below wr nq
          have HCQq : Hid (CQ c (wr.drewN nq) l b' po' pc' bo' bc') := HLP.out.cq.below hBq
          have HCRq : Hid (CR c (wr.drewN nq)) := HCRr.out.turns HK.out (Turns.of_below hBq _)
          have HTq : Hid (Turns c.M w (wr.drewN nq)) := HLP.out.tn.trans (Turns.of_below hBq _)
          clear c1 c2 hBq
          generalize wr.drewN nq = Wq at HCQq HCRq HTq ⊢
          have H28 : Hid (Calls Tryd.prog 28 #[.int .u32 (O' : Int)] Wq fun e w' => e = .returned (.int .i64 (v : Int)) ∧ w' = Wq) := by
            show Calls _ _ _ _ _
            rw [hv]; exact least_call O' hO' HCRq.out.tab
          have H24 : Hid (Calls Tryd.prog 24 #[.int .i64 (v : Int)] Wq fun e w' => e = .returned (.int .u32 (P : Int)) ∧ w' = Wq) := by
            show Calls _ _ _ _ _
            rw [hP]; exact only_call (by omega)
          have HOWN : Hid (Wq.ownsRow c.lo 3 1 (.slice po' l.length pc') l.length (qv l)) := HCQq.out.own
          have hlo := HCRq.out.lo
          have hvl := HLN.out
          have c1 := HCQq.out.cells.1
          have hl32 : l.length ≤ 32 := by omega
          have HMM : Hid (M = c.mask v) := hM
          clear hne hv hP hO2 hbl1 hM hO3 hbl3 hf3 hlen1 hb2 hLlen hLm hLb hu32 hub hb2a hb2b hlv z1 z2 hvl
          go_upto_region 5 with (first | (go_at_call 28; refine Calls.mono H28.out ?_; rintro e Wa ⟨rfl, hWa⟩; subst hWa) | (go_at_call 24; refine Calls.mono H24.out ?_; rintro e Wb ⟨rfl, hWb⟩; subst hWb) | go_in)
          go_upto_region 6 with (first | (at_builtin; refine wpList_pushA (x := v) rfl _ _ rfl rfl rfl HOWN.out (by omega) hlo ?_; intro g1 cc1 w2 hown1 hgr1 hat1; obtain ⟨p1, p2, p3⟩ := CQ.push HK.out HCQq.out hown1 hgr1 hat1; have f5 := one_free p1; have c5 : w2.cell? ⟨c.cb, 0, none⟩ = some (.slice po' l.length pc') := box_cell p1 rfl; have HP2 : Hid (CQ c (w2.setCell ⟨c.cb, 0, none⟩ (.slice (some ⟨g1, 0, none⟩) (l ++ [v]).length cc1)) (l ++ [v]) b' (some ⟨g1, 0, none⟩) cc1 bo' bc') := p2; have HP3 : Hid (Turns c.M Wb (w2.setCell ⟨c.cb, 0, none⟩ (.slice (some ⟨g1, 0, none⟩) (l ++ [v]).length cc1))) := p3; clear p1 p2 p3 hown1 hgr1 hat1) | go_in)
          have hlv : (l ++ [v]).length = l.length + 1 := by simp
          rw [hlv] at HP2 HP3
          have HT3 : Hid (Turns c.M w (w2.setCell ⟨c.cb, 0, none⟩ (.slice (some ⟨g1, 0, none⟩) (l.length + 1) cc1))) := HTq.out.trans HP3.out
          have HCR3 : Hid (CR c (w2.setCell ⟨c.cb, 0, none⟩ (.slice (some ⟨g1, 0, none⟩) (l.length + 1) cc1))) := HCRq.out.turns HK.out HP3.out
          have HLV : Hid ((l ++ [v]).length = l.length + 1) := hlv
          clear f5 c5 HP3 c1 hlv
          generalize w2.setCell ⟨c.cb, 0, none⟩ (.slice (some ⟨g1, 0, none⟩) (l.length + 1) cc1) = W3 at HP2 HT3 HCR3 ⊢
          have q1 : W3.cell? ⟨c.fb, 0, none⟩ = some (.func (.func 25) #[] c.caps) := box_cell HCR3.out.fn rfl
          have q2 : W3.cell? ⟨c.nb, 0, none⟩ = some (sl c.gn c.n) := box_cell HCR3.out.near rfl
          have q3 := HCR3.out.row.cell hvn
          rw [← HMM.out] at q3
          have j1 : (0 : Int) ≤ (v : Int) := by omega
          have j2 : (v : Int) < (c.n : Int) := by omega
          have hF25 := enter25
          have hB3 := (Below.refl W3.heap.size W3).drew
          have h25 := HIH.out _ _ _ _ W3.drew (HCR3.out.turns HK.out (Turns.of_below hB3 _)) (HP2.out.below hB3)
          have H25 : Hid (Calls Tryd.prog 25 #[.int .u32 (O3 : Int), ptr c.cb, ptr c.bb, ptr c.fb, ptr c.nb] W3.drew fun e w' => e = .returned (.tuple #[]) ∧ (∃ po pc bo bc, CQ c w' (l ++ [v]) b2 po pc bo bc) ∧ Turns c.M W3.drew w') := h25
          clear h25
          go_cut [] from 32 to 39 (fun wc => (∃ po pc bo bc, CQ c wc (l ++ [v]) b2 po pc bo bc) ∧ Turns c.M w wc)
          case first =>
            go_region_with ((refine Calls.mono H25.out ?_; rintro e W4 ⟨rfl, hq4, ht4⟩))
            all_goals
              go_wp2_with fail
              go_meet
              case rel => exact ⟨hq4, HT3.out.trans ((Turns.of_below hB3 _).trans ht4)⟩
          case rest =>
            obtain ⟨⟨po5, pc5, bo5, bc5, hq5⟩, ht5⟩ := hcut
            generalize wc = W5 at hq5 ht5 ⊢
            obtain ⟨g5, hg5, _⟩ := qcell hq5.own (k := l.length) (u := v) (by simp)
            subst hg5
            have hcap : l.length + 1 ≤ pc5 := by
              rcases hq5.own.2 with ⟨e, _⟩ | ⟨g', cap, cur, e, _, _, e3, _⟩
              · cases e
              · cases e; rw [HLV.out] at e3; exact e3
            have c6 := hq5.cells.1
            rw [HLV.out] at c6
            have f6 := one_free hq5.cl
            have HQ5 : Hid (CQ c W5 (l ++ [v]) b2 (some ⟨g5, 0, none⟩) pc5 bo5 bc5) := hq5
            have HT5 : Hid (Turns c.M w W5) := ht5
            have n1 : (0 : Int) ≤ (l.length : Int) := by omega
            have n2 : (l.length : Int) ≤ (pc5 : Int) := by omega
            clear hq5 ht5 q1 q2 q3 H25
            go_wp2
            have hpop := HQ5.out.pop HK.out
            have htp := HT5.out.trans ((setCell_turns W5 c.cb 0 (.slice (some ⟨g5, 0, none⟩) l.length pc5)).mono (M' := c.M) (fun _ _ e => Or.inl e))
            go_roundw
            case rel => exact ⟨O2, b2, _, _, _, _, rfl, HNX.out _ _ _ _ _ hpop htp⟩
            case measure =>
              have := HMS.out
              simpa [numOf] using this
        · have k1 : ¬ ((ln : Int) + (sz : Int) > (bn' : Int)) := by omega
          go_upto_region 2 with (fail)
          go_quiet ((go_at_call 27; exact Calls.quiet_of (H27.out _)))
          have hfin : End25 c adj O l b w (.returned (.tuple #[])) (wr.drewN nq) := by
            refine ⟨rfl, ⟨po', pc', bo', bc', ?_⟩, HLP.out.tn.trans (Turns.of_below (drewN_below _ _) _)⟩
            rw [← HT.out, ← HLP.out.eq, cq_few adj (bl O').length (bl O') l b' (Nat.le_refl _) (by rw [← HLN.out, ← HSZ.out, ← HBN'.out]; omega)]
            exact HLP.out.cq.below (drewN_below _ _)
          go_wp2
          go_end0
          exact hfin
end Go.Proofs.YtdnmoifbkojnlaaDoor
