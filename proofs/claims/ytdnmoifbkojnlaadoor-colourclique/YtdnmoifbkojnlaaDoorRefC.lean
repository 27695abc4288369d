/- The document's Clique: all cliques, in their order as lists. -/
import Derived.Test.YtdnmoifbkojnlaaDoorCliqM
import Derived.Test.YtdnmoifbkojnlaaDoorMask
import Derived.Deep.QuietTactic
namespace Go.Proofs.YtdnmoifbkojnlaaDoor
open Go.RowKit Go.Maps
attribute [local go_sem ↓] Go.wp_at_zero Go.wp_at_succ

/-- The nodes from v on, below n, that have an edge with all of l. -/
def opn (adj : Nat → Nat → Bool) (n : Nat) (l : List Nat) (v : Nat) : List Nat := (List.range n).filter (fun w => decide (v ≤ w) && l.all (fun x => adj w x))
theorem opn_end {adj : Nat → Nat → Bool} {n : Nat} {l : List Nat} {v : Nat} (h : n ≤ v) : opn adj n l v = [] := List.filter_eq_nil_iff.2 fun w hw => by
  have := List.mem_range.1 hw
  simp; omega
theorem range_at (n v : Nat) (h : v < n) : List.range n = List.range v ++ v :: (List.range (n - v - 1)).map (fun j => v + (j + 1)) := by
  have e : n = v + ((n - v - 1) + 1) := by omega
  conv => lhs; rw [e, List.range_add, List.range_succ_eq_map]
  simp [Function.comp_def]
theorem opn_split {adj : Nat → Nat → Bool} {n : Nat} {l : List Nat} {v : Nat} (h : v < n) : opn adj n l v = if l.all (fun x => adj v x) then v :: opn adj n l (v + 1) else opn adj n l (v + 1) := by
  unfold opn
  rw [range_at n v h, List.filter_append, List.filter_append, List.filter_cons, List.filter_cons]
  have h1 : (List.range v).filter (fun w => decide (v ≤ w) && l.all (fun x => adj w x)) = [] := List.filter_eq_nil_iff.2 fun w hw => by
    have := List.mem_range.1 hw
    simp; omega
  have h2 : (List.range v).filter (fun w => decide (v + 1 ≤ w) && l.all (fun x => adj w x)) = [] := List.filter_eq_nil_iff.2 fun w hw => by
    have := List.mem_range.1 hw
    simp; omega
  have h3 : ((List.range (n - v - 1)).map (fun j => v + (j + 1))).filter (fun w => decide (v ≤ w) && l.all (fun x => adj w x)) = ((List.range (n - v - 1)).map (fun j => v + (j + 1))).filter (fun w => decide (v + 1 ≤ w) && l.all (fun x => adj w x)) := List.filter_congr fun w hw => by
    obtain ⟨j, _, rfl⟩ := List.mem_map.1 hw
    have a1 : decide (v ≤ v + (j + 1)) = true := by simp
    have a2 : decide (v + 1 ≤ v + (j + 1)) = true := by simp
    rw [a1, a2]
  rw [h1, h2, h3]
  have a3 : decide (v + 1 ≤ v) = false := by simp
  simp only [Nat.le_refl, decide_true, Bool.true_and, a3, Bool.false_and, List.nil_append]
  rfl
theorem opn_child {adj : Nat → Nat → Bool} (hs : ∀ x y, adj x y = adj y x) {n : Nat} {l : List Nat} {v : Nat} : (opn adj n l (v + 1)).filter (adj v) = opn adj n (l ++ [v]) (v + 1) := by
  unfold opn
  rw [List.filter_filter]
  refine List.filter_congr fun w _ => ?_
  rw [List.all_append]
  simp only [List.all_cons, List.all_nil, Bool.and_true]
  rw [hs v w]
  cases adj w v <;> cases decide (v + 1 ≤ w) <;> cases l.all (fun x => adj w x) <;> rfl
/-- Where the loop of the document's search is. -/
theorem cq_step {adj : Nat → Nat → Bool} (hs : ∀ x y, adj x y = adj y x) {n : Nat} {l b : List Nat} {v : Nat} (h : v < n) : cq adj (opn adj n l v) l b = cq adj (opn adj n l (v + 1)) l (if l.all (fun x => adj v x) then cq adj (opn adj n (l ++ [v]) (v + 1)) (l ++ [v]) (upL b (l ++ [v])) else b) := by
  rw [opn_split h]
  by_cases ha : l.all (fun x => adj v x) = true
  · rw [if_pos ha, if_pos ha, cq_cons, opn_child hs]
  · rw [if_neg ha, if_neg ha]
def NumF (w : World) (vo : Option Addr) (n : Nat) (f : Nat → Int) : Prop := ∀ j, j < n → ∃ b off, vo = some ⟨b, off, none⟩ ∧ w.cell? ⟨b, off + j, none⟩ = some (.int .i64 (f j))
theorem NumF.below {w w' : World} {vo : Option Addr} {n : Nat} {f : Nat → Int} (h : NumF w vo n f) (hb : Below w.heap.size w w') : NumF w' vo n f := fun j hj => by
  obtain ⟨b, off, e, hc⟩ := h j hj
  exact ⟨b, off, e, (hb.cell (World.block_lt_of_cell? w _ hc)).trans hc⟩
theorem wpList_copyNilG {W : World} {ops : Array Oper} {rest : List Oper} {o : Oper} {a : Act} {Q : Exit → Act → World → Prop} {vo : Option Addr} {vc : Nat} {L : List Nat} (hgd : Region.wanted o (yielded ops a.tmps) = true) (s y : Operand)
    (ho : o.op = .call { callee := .builtin .append, args := #[s, y], argTypes := #[29, 29] }) (hs : a.eval s = .slice none 0 0) (hy : a.eval y = .slice vo L.length vc)
    (hL : NumF W vo L.length (fun i => (L.getD i 0 : Int))) (hl : L.length ≤ 1000)
    (h : ∀ po pc w', w'.ownsRow W.heap.size 3 1 (.slice po L.length pc) L.length (qv L) → Below W.heap.size W w' → wpList Tryd.prog ops Q rest (a.put o.dst (.slice po L.length pc)) w') :
    wpList Tryd.prog ops Q (o :: rest) a W := by
  obtain ⟨i3, hi3, hy0, hy1, hy2⟩ := info_parts Tryd.info3
  by_cases hl0 : L = []
  · subst hl0
    have hk := h none 0 W (World.ownsRow_nil _ _ _ _) (Below.refl _ _)
    obtain ⟨dst, op, type, pos, after, guard⟩ := o
    simp only at ho hk
    subst ho
    refine wpList_step fun K hK => ?_
    rw [if_pos hgd]
    have hk' := hK _ _ hk
    clear hk
    unfold Oper.wp
    obtain ⟨ρ, hρ⟩ : ∃ ρ, ρ = a.eval := ⟨_, rfl⟩
    rw [← hρ] at hs hy ⊢
    cases vo with
    | none =>
      simp [go_sem, hs, hy]
      exact hk'
    | some x =>
      simp [go_sem, hs, hy]
      exact hk'
  · have hpos : 0 < L.length := List.length_pos_iff.2 hl0
    obtain ⟨b1, off1, rfl, _⟩ := hL 0 hpos
    refine wpList_step fun K hK => ?_
    rw [if_pos hgd]
    refine wp_append_own _ s y 29 ho W.heap.size 3 i3 (.int .i64 0) 1 8 Tryd.underlying29 hi3 hy0 hy1 hy2 rfl (by decide) (.slice none 0 0) 0 [] hs (World.ownsRow_nil _ _ _ _) ⟨b1, off1, none⟩ L.length vc (qv L) hy (by simp [qv]) ?n1 ?n2 ?n3 ?n4 (Nat.le_refl _) ?_
    case n1 =>
      intro j u hj
      have hjl : j < L.length := by
        by_cases h : j < L.length
        · exact h
        · rw [List.getElem?_eq_none (by simp [qv]; omega)] at hj; cases hj
      obtain ⟨b, off, e, c⟩ := hL j hjl
      cases e
      have : u = .int .i64 (L.getD j 0 : Int) := by
        unfold qv at hj
        rw [List.getElem?_map, List.getElem?_eq_getElem hjl] at hj
        simp at hj
        rw [← hj]
        simp [List.getD_eq_getElem?_getD, List.getElem?_eq_getElem hjl]
      rw [this, show (⟨b1, off1, none⟩ : Addr).add j = ⟨b1, off1 + j, none⟩ from by unfold Addr.add; split <;> simp_all]
      exact c
    case n2 => intro u hu; unfold qv at hu; simp at hu; obtain ⟨x, _, rfl⟩ := hu; rfl
    case n3 => unfold maxLen; omega
    case n4 => omega
    intro v w' h1 h2 _
    simp only [Nat.zero_add, List.nil_append] at h1
    obtain ⟨po, pc, rfl⟩ := form_row h1
    refine hK _ _ (h po pc w' h1 ⟨h2.os, h2.tape, h2.output, h2.size, fun k hk => h2.block k hk (by simp [Value.ownBlock])⟩)
theorem wpList_pushG {W : World} {ops : Array Oper} {rest : List Oper} {o : Oper} {a : Act} {Q : Exit → Act → World → Prop} {base : Nat} {po : Option Addr} {pc : Nat} {l : List Nat} {x : Nat} (hgd : Region.wanted o (yielded ops a.tmps) = true) (s y : Operand)
    (ho : o.op = .call { callee := .builtin .append, args := #[s, y], argTypes := #[29, 29] }) (hs : a.eval s = .slice po l.length pc) (hy : a.eval y = .slice (some ⟨W.heap.size, 0, none⟩) 1 1)
    (hown : W.ownsRow base 3 1 (.slice po l.length pc) l.length (qv l)) (hl : l.length ≤ 1000000) (hbase : base ≤ W.heap.size)
    (h : ∀ g c w', w'.ownsRow base 3 1 (.slice (some ⟨g, 0, none⟩) (l ++ [x]).length c) (l ++ [x]).length (qv (l ++ [x])) → (W.alloc (Obj.cells #[.int .i64 (x : Int)] 3)).grownBy w' (Value.slice po l.length pc).ownBlock → wpList Tryd.prog ops Q rest (a.put o.dst (.slice (some ⟨g, 0, none⟩) (l ++ [x]).length c)) w') :
    wpList Tryd.prog ops Q (o :: rest) a (W.alloc (Obj.cells #[.int .i64 (x : Int)] 3)) := by
  obtain ⟨i3, hi3, hy0, hy1, hy2⟩ := info_parts Tryd.info3
  refine wpList_step fun K hK => ?_
  rw [if_pos hgd]
  refine wp_append_own _ s y 29 ho base 3 i3 (.int .i64 0) 1 8 Tryd.underlying29 hi3 hy0 hy1 hy2 rfl (by decide) _ _ _ hs (hown.alloc _) ⟨W.heap.size, 0, none⟩ 1 1 [.int .i64 (x : Int)] hy rfl ?_ ?_ ?_ ?_ ?_ ?_
  · intro j u hj
    have hj0 : j = 0 := by
      have := (List.getElem?_eq_some_iff.1 hj).1
      simp at this; exact this
    subst hj0
    simp at hj
    subst hj
    rw [add_none]
    exact one_cell W _ 3
  · intro y hy; simp at hy; subst hy; rfl
  · unfold maxLen; omega
  · omega
  · simp; omega
  · intro v w' h1 h2 _
    have hll : (l ++ [x]).length = l.length + 1 := by simp
    have e : qv l ++ [.int .i64 (x : Int)] = qv (l ++ [x]) := by simp [qv]
    rw [e, ← hll] at h1
    rcases h1.2 with ⟨_, e0⟩ | ⟨g, cap, cur, rfl, _⟩
    · omega
    · exact hK _ _ (h g cap w' h1 h2)
theorem num_own {W : World} {base g c : Nat} {L : List Nat} (h : W.ownsRow base 3 1 (.slice (some ⟨g, 0, none⟩) L.length c) L.length (qv L)) : NumF W (some ⟨g, 0, none⟩) L.length (fun i => (L.getD i 0 : Int)) := fun j hj => ⟨g, 0, rfl, by
  have hu : L[j]? = some (L.getD j 0) := by rw [List.getD_eq_getElem?_getD, List.getElem?_eq_getElem hj]; rfl
  obtain ⟨b, e, c⟩ := numsAt_own h j _ hu
  cases e
  rw [Nat.zero_add]; exact c⟩
theorem NumsAt.numF {w : World} {vo : Option Addr} {l : List Nat} (h : NumsAt w vo l) : NumF w vo l.length (fun i => (l.getD i 0 : Int)) := fun j hj => by
  obtain ⟨b, e, hc⟩ := h j (l.getD j 0) (by rw [getD_lt hj, List.getElem?_eq_getElem hj])
  exact ⟨b, 0, e, by rw [Nat.zero_add]; exact hc⟩
theorem NumsAt.turns {M : Nat → Prop} {w w' : World} {vo : Option Addr} {l : List Nat} (h : NumsAt w vo l) (ht : Turns M w w') (hm : ∀ x, vo = some x → ¬ M x.block) : NumsAt w' vo l := fun k u hu => by
  obtain ⟨b, e, hc⟩ := h k u hu
  exact ⟨b, e, cell_turns hc ht (hm ⟨b, 0, none⟩ e)⟩
/-- Where the next node may begin. -/
def frm (l : List Nat) : Nat := if l = [] then 0 else l.getD (l.length - 1) 0 + 1
theorem frm_snoc (l : List Nat) (v : Nat) : frm (l ++ [v]) = v + 1 := by
  unfold frm
  rw [if_neg (by simp)]
  simp
/-- The best one so far, behind a pointer. -/
def RB (w : World) (bb : Nat) (b : List Nat) : Prop := ∃ bo bc, One w bb (.slice bo b.length bc) 29 ∧ NumsAt w bo b ∧ ∀ x, bo = some x → x.block ≠ bb
theorem RB.next {w w' : World} {bb : Nat} {b : List Nat} (h : RB w bb b) (hb : Below w.heap.size w w') : RB w' bb b := by
  obtain ⟨bo, bc, h1, h2, h3⟩ := h
  exact ⟨bo, bc, (hb.block _ (lt_of_block h1)).trans h1, h2.below hb, h3⟩
theorem RB.lt {w : World} {bb : Nat} {b : List Nat} (h : RB w bb b) : bb < w.heap.size := by
  obtain ⟨_, _, h1, _⟩ := h
  exact lt_of_block h1
theorem RB.set {w w1 : World} {bb : Nat} {b l : List Nat} {po : Option Addr} {pc : Nat} (h : RB w bb b) (hb : Below w.heap.size w w1) (ho : w1.ownsRow w.heap.size 3 1 (.slice po l.length pc) l.length (qv l)) : RB (w1.setCell ⟨bb, 0, none⟩ (.slice po l.length pc)) bb l := by
  have hl := h.lt
  obtain ⟨bo, bc, h1, _, _⟩ := h.next hb
  have hge : ∀ x, po = some x → x.block ≠ bb := fun x hx => by
    have := (ho.lt x.block (by rw [hx]; rfl)).1
    omega
  refine ⟨po, pc, ?_, (numsAt_own ho).turns (setCell_turns w1 bb 0 _) (fun x hx e => hge x hx e), hge⟩
  have := box_set h1 0 (.slice po l.length pc)
  simpa using this
abbrev Mb (bb k : Nat) : Prop := k = bb
set_option maxRecDepth 4000 in
set_option maxHeartbeats 6000000 in
theorem refC_call {W0 : World} {tv : Value} {n bb : Nat} {p : Int → Int → Bool} {adj : Nat → Nat → Bool} (hn : n ≤ 100) (hG : GridAt W0 tv n p) (hp : ∀ v z : Nat, p (v : Int) (z : Int) = adj v z) (hs : ∀ x y, adj x y = adj y x) (hbb : W0.heap.size ≤ bb) :
    ∀ (r : Nat) (l b : List Nat) (w : World) (vo : Option Addr) (vc : Nat), n - frm l = r → (∀ x ∈ l, x < n) → l.length ≤ frm l → frm l ≤ n → Below W0.heap.size W0 w → NumsAt w vo l → (∀ x, vo = some x → x.block ≠ bb) → RB w bb b →
      Calls Tryd.prog 20 #[tv, .slice vo l.length vc, ptr bb] w fun e w' => e = .returned (.tuple #[]) ∧ RB w' bb (cq adj (opn adj n l (frm l)) l (upL b l)) ∧ Turns (Mb bb) w w' := by
  have HG : Hid (GridAt W0 tv n p) := hG
  obtain ⟨tao, tcap, etv⟩ : ∃ tao tcap, tv = .slice tao n tcap := by
    obtain ⟨tao, tcap, e, _⟩ := hG
    exact ⟨tao, tcap, e⟩
  subst etv
  have HP : Hid (∀ v z : Nat, p (v : Int) (z : Int) = adj v z) := hp
  have HS : Hid (∀ x y, adj x y = adj y x) := hs
  clear hG hp hs
  intro r
  induction r using Nat.strongRecOn with
  | _ r ih =>
    intro l b w vo vc hr hl hlen hfr hB hnum hvb hrb
    have IH : Hid (∀ r', r' < r → ∀ (l b : List Nat) (w : World) (vo : Option Addr) (vc : Nat), n - frm l = r' → (∀ x ∈ l, x < n) → l.length ≤ frm l → frm l ≤ n → Below W0.heap.size W0 w → NumsAt w vo l → (∀ x, vo = some x → x.block ≠ bb) → RB w bb b →
      Calls Tryd.prog 20 #[.slice tao n tcap, .slice vo l.length vc, ptr bb] w fun e w' => e = .returned (.tuple #[]) ∧ RB w' bb (cq adj (opn adj n l (frm l)) l (upL b l)) ∧ Turns (Mb bb) w w') := ih
    have HR : Hid (n - frm l = r) := hr
    have HL : Hid (∀ x ∈ l, x < n) := hl
    have HB : Hid (Below W0.heap.size W0 w) := hB
    have HNUM : Hid (NumsAt w vo l) := hnum
    have HVB : Hid (∀ x, vo = some x → x.block ≠ bb) := hvb
    have HRB : Hid (RB w bb b) := hrb
    obtain ⟨bo, bc, o1, hnb, hbo⟩ := hrb
    have c1 : w.cell? ⟨bb, 0, none⟩ = some (.slice bo b.length bc) := box_cell o1 rfl
    obtain ⟨bn, hbn⟩ : ∃ bn, bn = b.length := ⟨_, rfl⟩
    rw [← hbn] at c1
    have HBN : Hid (bn = b.length) := hbn
    obtain ⟨fr, hfr'⟩ : ∃ fr, fr = frm l := ⟨_, rfl⟩
    have HFR : Hid (fr = frm l) := hfr'
    have hl100 : l.length ≤ 100 := by omega
    have hfr1 : fr ≤ n := by omega
    have hfr2 : l.length ≤ fr := by omega
    clear ih hr hl hB hnum hvb hnb hbo hbn hfr' o1
    go_enter Tryd.func20, Tryd.ntmps20
    go_upto_if 16 with (fail)
    generalize hg : decide (bn < l.length) = gm
    have HGM : Hid (decide (bn < l.length) = gm) := hg
    clear hg
    go_cut [] from 17 to 20 (fun wc => RB wc bb (upL b l) ∧ Turns (Mb bb) w wc)
    case first =>
      cases gm with
      | true =>
        have hlt : bn < l.length := by simpa using HGM.out
        have HUP : Hid (upL b l = l) := by
          show upL b l = l
          unfold upL
          rw [← HBN.out, if_pos hlt]
        clear HGM
        go_wp2_with (first | (at_builtin; refine wpList_copyNilG (L := l) rfl _ _ rfl rfl rfl HNUM.out.numF (by omega) ?_; intro po1 pc1 w1 ho1 hb1; obtain ⟨bo2, bc2, o2, _, _⟩ := HRB.out.next hb1; have f2 := one_free o2; have c2 : w1.cell? ⟨bb, 0, none⟩ = some (.slice bo2 b.length bc2) := box_cell o2 rfl; have HO1 : Hid (w1.ownsRow w.heap.size 3 1 (.slice po1 l.length pc1) l.length (qv l)) := ho1; clear ho1) | go_in)
        go_meet
        case rel => exact ⟨by rw [HUP.out]; exact HRB.out.set hb1 HO1.out, (Turns.of_below hb1 _).trans (setCell_turns _ _ _ _)⟩
      | false =>
        have hlt : ¬ bn < l.length := by simpa using HGM.out
        have HUP : Hid (upL b l = b) := by
          show upL b l = b
          unfold upL
          rw [← HBN.out, if_neg hlt]
        clear HGM
        go_wp2_with fail
        go_meet
        case rel => exact ⟨by rw [HUP.out]; exact HRB.out, Turns.refl _ _⟩
    case rest =>
      obtain ⟨hrb1, ht1⟩ := hcut
      generalize wc = W1 at hrb1 ht1 ⊢
      have HRB1 : Hid (RB W1 bb (upL b l)) := hrb1
      have HT1 : Hid (Turns (Mb bb) w W1) := ht1
      have hnum1 : NumsAt W1 vo l := HNUM.out.turns ht1 (fun x hx e => HVB.out x hx e)
      clear hrb1 ht1 c1
      go_upto_if 23 with (fail)
      generalize hg : decide (0 < l.length) = gk
      have HGK : Hid (decide (0 < l.length) = gk) := hg
      clear hg
      have HNUM1 : Hid (NumsAt W1 vo l) := hnum1
      clear hnum1
      go_cut [6] from 24 to 30 (fun s6 wc => s6 = .int .i64 (fr : Int) ∧ wc = W1)
      case first =>
        cases gk with
        | true =>
          have hlt : 0 < l.length := by simpa using HGK.out
          obtain ⟨la, hla⟩ : ∃ la, la = l.getD (l.length - 1) 0 := ⟨_, rfl⟩
          have hfe : fr = la + 1 := by
            rw [HFR.out, hla]
            unfold frm
            rw [if_neg (fun e => by rw [e] at hlt; simp at hlt)]
          obtain ⟨g, e, cl⟩ := HNUM1.out (l.length - 1) la (by rw [hla, getD_lt (by omega), List.getElem?_eq_getElem (by omega)])
          subst e
          have k1 : (0 : Int) ≤ (l.length : Int) - 1 := by omega
          have k2 : (l.length : Int) - 1 < (l.length : Int) := by omega
          have k3 : ((l.length : Int) - 1).toNat = l.length - 1 := by omega
          have HFE : Hid (fr = la + 1) := hfe
          have hla100 : la ≤ 100 := by omega
          clear hla hfe HGK
          go_wp2_with fail
          go_meet
          case rel => exact ⟨by rw [HFE.out]; go_num, rfl⟩
        | false =>
          have hlt : ¬ 0 < l.length := by simpa using HGK.out
          have HFE : Hid (fr = 0) := by
            show fr = 0
            rw [HFR.out]
            unfold frm
            rw [if_pos (List.length_eq_zero_iff.1 (by omega))]
          clear HGK
          go_wp2_with fail
          go_meet
          case rel => exact ⟨by rw [HFE.out]; rfl, rfl⟩
      case rest =>
        obtain ⟨rfl, hwc⟩ := hcut
        subst hwc
        obtain ⟨T, hT⟩ : ∃ T, T = cq adj (opn adj n l (frm l)) l (upL b l) := ⟨_, rfl⟩
        have HT : Hid (T = cq adj (opn adj n l (frm l)) l (upL b l)) := hT
        have HT0 : Hid (cq adj (opn adj n l fr) l (upL b l) = T) := by
          show _ = T
          rw [hT, HFR.out]
        clear hT HGK HGM HBN
        go_wp2
        go_loopw [7] (fun s7 wr => ∃ (v : Nat) (b' : List Nat), v ≤ n ∧ fr ≤ v ∧ s7 = .int .i64 (v : Int) ∧ RB wr bb b' ∧ cq adj (opn adj n l v) l b' = T ∧ Turns (Mb bb) w wr) (fun s7 _ => n - (numOf s7).toNat)
        case atStart => exact ⟨fr, upL b l, hfr1, Nat.le_refl _, rfl, HRB1.out, HT0.out, HT1.out⟩
        case round =>
          clear HRB1 HT0 HT1 HNUM1
          obtain ⟨v, b', hvn, hfv, rfl, hrb, heq, ht⟩ := hrel
          have HRBr : Hid (RB wr bb b') := hrb
          have HEQ : Hid (cq adj (opn adj n l v) l b' = T) := heq
          have HTr : Hid (Turns (Mb bb) w wr) := ht
          have HBr : Hid (Below W0.heap.size W0 wr) := Turns.below HB.out ht HB.out.size (fun x e => by rw [e]; exact hbb)
          have HNr : Hid (NumsAt wr vo l) := HNUM.out.turns ht (fun x hx e => HVB.out x hx e)
          clear hrb heq ht
          by_cases hlt : v < n
          · have i1 : (0 : Int) ≤ (v : Int) := by omega
            have i2 : (v : Int) < (n : Int) := by omega
            go_wp2
            obtain ⟨Wr, hWr⟩ : ∃ Wr, Wr = wr := ⟨_, rfl⟩
            rw [← hWr] at HRBr HTr HBr HNr ⊢
            clear hWr
            go_loopw [8, 9] (fun s8 s9 wq => ∃ i : Nat, i ≤ l.length ∧ s8 = .bool ((l.take i).all (fun x => adj v x)) ∧ s9 = .int .i64 (i : Int) ∧ Below Wr.heap.size Wr wq) (fun _ s9 _ => l.length - (numOf s9).toNat)
            case atStart => exact ⟨0, Nat.zero_le _, rfl, rfl, Below.refl _ _⟩
            case round =>
              obtain ⟨i, hi, rfl, rfl, hbq⟩ := hrel
              by_cases hil : i < l.length
              · obtain ⟨x, hx⟩ : ∃ x, x = l[i] := ⟨_, rfl⟩
                have hxn : x < n := by rw [hx]; exact HL.out _ (List.getElem_mem hil)
                have hget : l[i]? = some x := by rw [hx]; exact List.getElem?_eq_getElem hil
                obtain ⟨gl, el, cl⟩ := (HNr.out.below hbq) i x hget
                subst el
                obtain ⟨ta', tc', e2, hgr⟩ := HG.out.below (below_next HBr.out hbq)
                cases e2
                obtain ⟨tg, tb, e3, d1, d2⟩ := hgr v hlt
                subst e3
                have d3 := d2 x hxn
                rw [HP.out] at d3
                have HSU : Hid ((l.take (i + 1)).all (fun x => adj v x) = ((l.take i).all (fun x => adj v x) && adj v x)) := by
                  show (l.take (i + 1)).all (fun x => adj v x) = _
                  rw [List.take_succ_eq_append_getElem hil, List.all_append, ← hx]
                  simp
                have j1 : (0 : Int) ≤ (i : Int) := by omega
                have j2 : (i : Int) < (l.length : Int) := by omega
                have j3 : (0 : Int) ≤ (x : Int) := by omega
                have j4 : (x : Int) < (n : Int) := by omega
                obtain ⟨av, hav⟩ : ∃ av, av = adj v x := ⟨_, rfl⟩
                rw [← hav] at d3 HSU
                obtain ⟨ok, hok⟩ : ∃ ok, ok = (l.take i).all (fun x => adj v x) := ⟨_, rfl⟩
                rw [← hok] at HSU ⊢
                clear hx hget hgr d2 hav hok
                cases ok with
                | true =>
                  go_upto_region 12 with (fail)
                  go_quiet (fail)
                  all_goals
                    go_wp2
                    go_roundw
                    case rel => exact ⟨i + 1, by omega, by rw [HSU.out]; rfl, by go_num, below_next hbq (drewN_below _ _)⟩
                    case measure => simp [numOf]; omega
                | false =>
                  go_upto_region 12 with (fail)
                  go_quiet (fail)
                  all_goals
                    go_wp2
                    go_roundw
                    case rel => exact ⟨i + 1, by omega, by rw [HSU.out]; rfl, by go_num, below_next hbq (drewN_below _ _)⟩
                    case measure => simp [numOf]; omega
              · have hie : i = l.length := by omega
                rw [hie, List.take_length]
                have i3 : ¬ (l.length : Int) < (l.length : Int) := by omega
                have hst := cq_step HS.out (l := l) (b := b') hlt
                rw [HEQ.out] at hst
                have HRBq : Hid (RB wr bb b') := HRBr.out.next hbq
                have HTq : Hid (Turns (Mb bb) w wr) := HTr.out.trans (Turns.of_below hbq _)
                have HBq : Hid (Below W0.heap.size W0 wr) := below_next HBr.out hbq
                have HNq : Hid (NumsAt wr vo l) := HNr.out.below hbq
                obtain ⟨ok, hok⟩ : ∃ ok, ok = l.all (fun x => adj v x) := ⟨_, rfl⟩
                rw [← hok] at hst ⊢
                have hsz0 := HBr.out.size
                have hbl := HRBq.out.lt
                clear hok hie hi hbq
                cases ok with
                | false =>
                  have HST : Hid (cq adj (opn adj n l (v + 1)) l b' = T) := by
                    show _ = T
                    rw [if_neg (by simp)] at hst
                    exact hst.symm
                  clear hst
                  go_wp2
                  go_roundw
                  case rel => exact ⟨v + 1, b', by omega, by omega, by go_num, HRBq.out, HST.out, HTq.out⟩
                  case measure => simp [numOf]; omega
                | true =>
                  obtain ⟨b2, hb2⟩ : ∃ b2, b2 = cq adj (opn adj n (l ++ [v]) (v + 1)) (l ++ [v]) (upL b' (l ++ [v])) := ⟨_, rfl⟩
                  have HST : Hid (cq adj (opn adj n l (v + 1)) l b2 = T) := by
                    show _ = T
                    rw [if_pos rfl, ← hb2] at hst
                    exact hst.symm
                  have h20 : ∀ (W : World) (g c : Nat), Below wr.heap.size wr W → wr.heap.size ≤ g → NumsAt W (some ⟨g, 0, none⟩) (l ++ [v]) → Calls Tryd.prog 20 #[.slice tao n tcap, .slice (some ⟨g, 0, none⟩) (l.length + 1) c, ptr bb] W fun e w' => e = .returned (.tuple #[]) ∧ RB w' bb b2 ∧ Turns (Mb bb) W w' := fun W g c hW hg hn' => by
                    have hlv : (l ++ [v]).length = l.length + 1 := by simp
                    have h1 := IH.out (n - (v + 1)) (by have := HR.out; have := HFR.out; omega) (l ++ [v]) b' W (some ⟨g, 0, none⟩) c (by rw [frm_snoc]) (fun x hx => by
                      rcases List.mem_append.1 hx with h | h
                      · exact HL.out x h
                      · rw [List.mem_singleton.1 h]; exact hlt) (by rw [frm_snoc, hlv]; omega) (by rw [frm_snoc]; omega) (below_next HBq.out hW) hn' (fun x hx => by
                      cases hx
                      show g ≠ bb
                      omega) (HRBq.out.next hW)
                    rw [frm_snoc, ← hb2, hlv] at h1
                    exact h1
                  have H20 : Hid (∀ (W : World) (g c : Nat), Below wr.heap.size wr W → wr.heap.size ≤ g → NumsAt W (some ⟨g, 0, none⟩) (l ++ [v]) → Calls Tryd.prog 20 #[.slice tao n tcap, .slice (some ⟨g, 0, none⟩) (l.length + 1) c, ptr bb] W fun e w' => e = .returned (.tuple #[]) ∧ RB w' bb b2 ∧ Turns (Mb bb) W w') := h20
                  clear hst hb2 h20
                  go_wp2_with (first
                    | (at_builtin; have hh := HO1; clear hh; refine wpList_pushA (l := l) (x := v) rfl _ _ rfl rfl rfl HO1.out (by omega) hz1 ?_; intro g c w2 hown2 hgr2 _; have HO2 : Hid (w2.ownsRow wr.heap.size 3 1 (.slice (some ⟨g, 0, none⟩) (l ++ [v]).length c) (l ++ [v]).length (qv (l ++ [v]))) := hown2; have T2 := (alloc_turns w1 (Obj.cells #[.int .i64 (v : Int)] 3) (fun x => some x = (Value.slice po1 l.length pc1).ownBlock)).trans (Turns.of_grown hgr2); have hb2 : Below wr.heap.size wr w2 := Turns.below hb1 T2 hz1 (fun x hx => (HO1.out.lt x hx.symm).1); have hgg := (hown2.lt g rfl).1; have H20' : Hid (Calls Tryd.prog 20 #[.slice tao n tcap, .slice (some ⟨g, 0, none⟩) (l.length + 1) c, ptr bb] w2 fun e w' => e = .returned (.tuple #[]) ∧ RB w' bb b2 ∧ Turns (Mb bb) w2 w') := H20.out w2 g c hb2 hgg (numsAt_own hown2); clear hown2 hgr2 T2)
                    | (at_builtin; refine wpList_copyNilG (L := l) rfl _ _ rfl rfl rfl HNq.out.numF (by omega) ?_; intro po1 pc1 w1 ho1 hb1; have HO1 : Hid (w1.ownsRow wr.heap.size 3 1 (.slice po1 l.length pc1) l.length (qv l)) := ho1; have hz1 := hb1.size; clear ho1)
                    | (go_at_call 20; refine Calls.mono H20'.out ?_; rintro e W4 ⟨rfl, hrb4, ht4⟩)
                    | go_in)
                  have htf := HTq.out.trans ((Turns.of_below hb2 _).trans ht4)
                  go_roundw
                  case rel => exact ⟨v + 1, b2, by omega, by omega, by go_num, hrb4, HST.out, htf⟩
                  case measure => simp [numOf]; omega
          · have hve : n ≤ v := by omega
            have i2 : ¬ (v : Int) < (n : Int) := by omega
            have hfin : RB wr bb (cq adj (opn adj n l (frm l)) l (upL b l)) := by
              have h1 := HEQ.out
              rw [opn_end hve, cq_nil] at h1
              rw [← HT.out, ← h1]
              exact HRBr.out
            go_wp2
            go_end0
            exact ⟨rfl, hfin, HTr.out⟩
end Go.Proofs.YtdnmoifbkojnlaaDoor
