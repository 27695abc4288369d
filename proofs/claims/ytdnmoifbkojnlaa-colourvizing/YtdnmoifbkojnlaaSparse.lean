/- The document's Sparse. -/
import Derived.Test.YtdnmoifbkojnlaaCing
namespace Go.Proofs.Ytdnmoifbkojnlaa
open Go.RowKit Go.Maps
attribute [local go_sem ↓] Go.wp_at_zero Go.wp_at_succ

/-- May the next node have colour c, as far as the first m nodes go? -/
def okTo (adj : Nat → Nat → Bool) (L : List Nat) (c m : Nat) : Bool := (List.range m).all fun w => !(adj L.length w && L.getD w 0 == c)
theorem okTo_succ (adj : Nat → Nat → Bool) (L : List Nat) (c m : Nat) : okTo adj L c (m + 1) = (okTo adj L c m && !(adj L.length m && L.getD m 0 == c)) := by
  unfold okTo
  rw [List.range_succ, List.all_append]
  simp
theorem NumF.below {w w' : World} {vo : Option Addr} {n : Nat} {f : Nat → Int} (h : NumF w vo n f) (hb : Below w.heap.size w w') : NumF w' vo n f := fun j hj => by
  obtain ⟨b, off, e, hc⟩ := h j hj
  exact ⟨b, off, e, (hb.cell (World.block_lt_of_cell? w _ hc)).trans hc⟩
theorem wpList_copyNilG {W : World} {ops : Array Oper} {rest : List Oper} {o : Oper} {a : Act} {Q : Exit → Act → World → Prop} {vo : Option Addr} {vc : Nat} {L : List Nat} (hgd : Region.wanted o (yielded ops a.tmps) = true) (s y : Operand)
    (ho : o.op = .call { callee := .builtin .append, args := #[s, y], argTypes := #[29, 29] }) (hs : a.eval s = .slice none 0 0) (hy : a.eval y = .slice vo L.length vc)
    (hL : NumF W vo L.length (fun i => (L.getD i 0 : Int))) (hl : L.length ≤ 1000)
    (h : ∀ po pc w', w'.ownsRow W.heap.size 3 1 (.slice po L.length pc) L.length (qv L) → Below W.heap.size W w' → wpList Try.prog ops Q rest (a.put o.dst (.slice po L.length pc)) w') :
    wpList Try.prog ops Q (o :: rest) a W := by
  obtain ⟨i3, hi3, hy0, hy1, hy2⟩ := info_parts Try.info3
  by_cases hl0 : L = []
  · subst hl0
    have hk := h none 0 W (World.ownsRow_nil _ _ _ _) (Below.refl _ _)
    obtain ⟨dst, op, type, pos, after, guard⟩ := o
    simp only at ho hk
    subst ho
    refine wpList_step fun K hK => ?_
    rw [if_pos hgd]
    have hk' := hK _ _ hk
    clear hk
    unfold Oper.wp
    obtain ⟨ρ, hρ⟩ : ∃ ρ, ρ = a.eval := ⟨_, rfl⟩
    rw [← hρ] at hs hy ⊢
    cases vo with
    | none =>
      simp [go_sem, hs, hy]
      exact hk'
    | some x =>
      simp [go_sem, hs, hy]
      exact hk'
  · have hpos : 0 < L.length := List.length_pos_iff.2 hl0
    obtain ⟨b1, off1, rfl, _⟩ := hL 0 hpos
    refine wpList_step fun K hK => ?_
    rw [if_pos hgd]
    refine wp_append_own _ s y 29 ho W.heap.size 3 i3 (.int .i64 0) 1 8 Try.underlying29 hi3 hy0 hy1 hy2 rfl (by decide) (.slice none 0 0) 0 [] hs (World.ownsRow_nil _ _ _ _) ⟨b1, off1, none⟩ L.length vc (qv L) hy (by simp [qv]) ?n1 ?n2 ?n3 ?n4 (Nat.le_refl _) ?_
    case n1 =>
      intro j u hj
      have hjl : j < L.length := by
        by_cases h : j < L.length
        · exact h
        · rw [List.getElem?_eq_none (by simp [qv]; omega)] at hj; cases hj
      obtain ⟨b, off, e, c⟩ := hL j hjl
      cases e
      have : u = .int .i64 (L.getD j 0 : Int) := by
        unfold qv at hj
        rw [List.getElem?_map, List.getElem?_eq_getElem hjl] at hj
        simp at hj
        rw [← hj]
        simp [List.getD_eq_getElem?_getD, List.getElem?_eq_getElem hjl]
      rw [this, show (⟨b1, off1, none⟩ : Addr).add j = ⟨b1, off1 + j, none⟩ from by unfold Addr.add; split <;> simp_all]
      exact c
    case n2 => intro u hu; unfold qv at hu; simp at hu; obtain ⟨x, _, rfl⟩ := hu; rfl
    case n3 => unfold maxLen; omega
    case n4 => omega
    intro v w' h1 h2 _
    simp only [Nat.zero_add, List.nil_append] at h1
    obtain ⟨po, pc, rfl⟩ := form_row h1
    refine hK _ _ (h po pc w' h1 ⟨h2.os, h2.tape, h2.output, h2.size, fun k hk => h2.block k hk (by simp [Value.ownBlock])⟩)
theorem wpList_pushG {W : World} {ops : Array Oper} {rest : List Oper} {o : Oper} {a : Act} {Q : Exit → Act → World → Prop} {base : Nat} {po : Option Addr} {pc : Nat} {l : List Nat} {x : Nat} (hgd : Region.wanted o (yielded ops a.tmps) = true) (s y : Operand)
    (ho : o.op = .call { callee := .builtin .append, args := #[s, y], argTypes := #[29, 29] }) (hs : a.eval s = .slice po l.length pc) (hy : a.eval y = .slice (some ⟨W.heap.size, 0, none⟩) 1 1)
    (hown : W.ownsRow base 3 1 (.slice po l.length pc) l.length (qv l)) (hl : l.length ≤ 1000000) (hbase : base ≤ W.heap.size)
    (h : ∀ g c w', w'.ownsRow base 3 1 (.slice (some ⟨g, 0, none⟩) (l ++ [x]).length c) (l ++ [x]).length (qv (l ++ [x])) → (W.alloc (Obj.cells #[.int .i64 (x : Int)] 3)).grownBy w' (Value.slice po l.length pc).ownBlock → wpList Try.prog ops Q rest (a.put o.dst (.slice (some ⟨g, 0, none⟩) (l ++ [x]).length c)) w') :
    wpList Try.prog ops Q (o :: rest) a (W.alloc (Obj.cells #[.int .i64 (x : Int)] 3)) := by
  obtain ⟨i3, hi3, hy0, hy1, hy2⟩ := info_parts Try.info3
  refine wpList_step fun K hK => ?_
  rw [if_pos hgd]
  refine wp_append_own _ s y 29 ho base 3 i3 (.int .i64 0) 1 8 Try.underlying29 hi3 hy0 hy1 hy2 rfl (by decide) _ _ _ hs (hown.alloc _) ⟨W.heap.size, 0, none⟩ 1 1 [.int .i64 (x : Int)] hy rfl ?_ ?_ ?_ ?_ ?_ ?_
  · intro j u hj
    have hj0 : j = 0 := by
      have := (List.getElem?_eq_some_iff.1 hj).1
      simp at this; exact this
    subst hj0
    simp at hj
    subst hj
    rw [add_none]
    exact one_cell W _ 3
  · intro y hy; simp at hy; subst hy; rfl
  · unfold maxLen; omega
  · omega
  · simp; omega
  · intro v w' h1 h2 _
    have hll : (l ++ [x]).length = l.length + 1 := by simp
    have e : qv l ++ [.int .i64 (x : Int)] = qv (l ++ [x]) := by simp [qv]
    rw [e, ← hll] at h1
    rcases h1.2 with ⟨_, e0⟩ | ⟨g, cap, cur, rfl, _⟩
    · omega
    · exact hK _ _ (h g cap w' h1 h2)
theorem num_own {W : World} {base g c : Nat} {L : List Nat} (h : W.ownsRow base 3 1 (.slice (some ⟨g, 0, none⟩) L.length c) L.length (qv L)) : NumF W (some ⟨g, 0, none⟩) L.length (fun i => (L.getD i 0 : Int)) := fun j hj => ⟨g, 0, rfl, by
  have hu : L[j]? = some (L.getD j 0) := by rw [List.getD_eq_getElem?_getD, List.getElem?_eq_getElem hj]; rfl
  obtain ⟨b, e, c⟩ := numsAt_own h j _ hu
  cases e
  rw [Nat.zero_add]; exact c⟩
set_option maxRecDepth 4000 in
set_option maxHeartbeats 4000000 in
theorem sparse_call {tv : Value} {n k : Nat} {p : Int → Int → Bool} (hn : n ≤ 100) (hk : k ≤ 100) :
    ∀ (r : Nat) (W : World) (L : List Nat) (used : Nat) (vo : Option Addr) (vc : Nat) (s : Option (List Nat)), r + L.length = n → used ≤ L.length → GridAt W tv n p → NumF W vo L.length (fun i => (L.getD i 0 : Int)) →
      Calls Try.prog 28 #[tv, .int .i64 (k : Int), .int .i64 (used : Int), .slice vo L.length vc] W fun e w' => e = .returned (.bool (trC k (fun v z => p (v : Int) (z : Int)) stepF r L used s).1) ∧ Below W.heap.size W w' := by
  intro r
  induction r with
  | zero =>
    intro W L used vo vc s hr hu hG hN
    have hln : L.length = n := by omega
    obtain ⟨tao, tcap, e, _⟩ := id hG
    subst e
    have k1 : ((L.length : Int) == (n : Int)) = true := by simp [hln]
    clear hr hG hN hln
    go_enter Try.func28, Try.ntmps28
    go_wp2
    go_ret
    exact ⟨rfl, Below.refl _ _⟩
  | succ r ih =>
    intro W L used vo vc s hr hu hG hN
    have IH : Hid (∀ (W : World) (L : List Nat) (used : Nat) (vo : Option Addr) (vc : Nat) (s : Option (List Nat)), r + L.length = n → used ≤ L.length → GridAt W tv n p → NumF W vo L.length (fun i => (L.getD i 0 : Int)) →
      Calls Try.prog 28 #[tv, .int .i64 (k : Int), .int .i64 (used : Int), .slice vo L.length vc] W fun e w' => e = .returned (.bool (trC k (fun v z => p (v : Int) (z : Int)) stepF r L used s).1) ∧ Below W.heap.size W w') := ih
    have HG : Hid (GridAt W tv n p) := hG
    have HN : Hid (NumF W vo L.length (fun i => (L.getD i 0 : Int))) := hN
    obtain ⟨tao, tcap, e, _⟩ := id hG
    subst e
    have hln : L.length < n := by omega
    have k1 : ((L.length : Int) == (n : Int)) = false := by rw [beq_eq_false_iff_ne]; omega
    obtain ⟨adj, hadj⟩ : ∃ adj : Nat → Nat → Bool, adj = fun (v z : Nat) => p (v : Int) (z : Int) := ⟨_, rfl⟩
    rw [← hadj] at IH ⊢
    have HADJ : Hid (∀ v z : Nat, adj v z = p (v : Int) (z : Int)) := fun v z => by rw [hadj]
    obtain ⟨lim, hlim⟩ : ∃ m, m = min (used + 1) k := ⟨_, rfl⟩
    obtain ⟨res, hres⟩ : ∃ res, res = (trC k adj stepF (r + 1) L used s).1 := ⟨_, rfl⟩
    rw [← hres]
    have HRES : Hid ((lpC adj L used (trC k adj stepF r) (List.range lim) s).1 = res) := by
      show (lpC adj L used (trC k adj stepF r) (List.range lim) s).1 = res
      rw [hres, hlim]; rfl
    have hlim2 : lim ≤ used + 1 ∧ lim ≤ k ∧ (lim = used + 1 ∨ lim = k) := by omega
    clear ih hG hN hres hlim hadj
    go_enter Try.func28, Try.ntmps28
    go_wp2
    go_loopw [10, 11, 12, 13] (fun iv' _ _ _ wr => ∃ (d : Nat) (s1 : Option (List Nat)), d ≤ lim ∧ iv' = .int .i64 (d : Int) ∧ (lpC adj L used (trC k adj stepF r) ((List.range lim).drop d) s1).1 = res ∧ Below W.heap.size W wr) (fun iv' _ _ _ _ => lim - (numOf iv').toNat)
    case atStart => exact ⟨0, s, Nat.zero_le _, rfl, by simpa using HRES.out, Below.refl _ _⟩
    case round =>
      clear HRES
      obtain ⟨d, s1, hd, rfl, hlp, hb⟩ := hrel
      by_cases hdl : d < lim
      · rw [drop_range hdl] at hlp
        unfold lpC at hlp
        have i1 : (d : Int) ≤ (used : Int) := by omega
        have i2 : (d : Int) < (k : Int) := by omega
        have HLP : Hid ((if okC adj L d = true then (if (trC k adj stepF r (L ++ [d]) (max used (d + 1)) s1).1 = true then (true, (trC k adj stepF r (L ++ [d]) (max used (d + 1)) s1).2) else lpC adj L used (trC k adj stepF r) ((List.range lim).drop (d + 1)) (trC k adj stepF r (L ++ [d]) (max used (d + 1)) s1).2) else lpC adj L used (trC k adj stepF r) ((List.range lim).drop (d + 1)) s1).1 = res) := hlp
        have HGW : Hid (GridAt wr (.slice tao n tcap) n p) := HG.out.below hb
        have HNW : Hid (NumF wr vo L.length (fun i => (L.getD i 0 : Int))) := HN.out.below hb
        clear hlp
        go_wp2
        generalize hwo : wr = WO at HGW HNW hb ⊢
        clear hwo
        go_loopw [11, 12] (fun ov iv' wr => ∃ z : Nat, z ≤ L.length ∧ iv' = .int .i64 (z : Int) ∧ ov = .bool (okTo adj L d z) ∧ wr = WO) (fun _ iv' _ => L.length - (numOf iv').toNat)
        case atStart => exact ⟨0, Nat.zero_le _, rfl, rfl, rfl⟩
        case round =>
          obtain ⟨z, hz, rfl, rfl, hwr⟩ := hrel
          have hwr' := hwr.symm
          clear hwr
          subst hwr'
          by_cases hltz : z < L.length
          · have j1 : (0 : Int) ≤ (z : Int) := by omega
            have j2 : (z : Int) < (L.length : Int) := by omega
            have j3 : (z : Int) < (n : Int) := by omega
            have j4 : (0 : Int) ≤ (L.length : Int) := by omega
            have j5 : (L.length : Int) < (n : Int) := by omega
            obtain ⟨b, off, rfl, cx⟩ := HNW.out z hltz
            simp only at cx
            obtain ⟨tao', _, e3, hg⟩ := HGW.out
            cases e3
            obtain ⟨gt, bt, rfl, g0, g1⟩ := hg L.length hln
            have g1' := g1 z (by omega)
            rw [← HADJ.out] at g1'
            have hsu := okTo_succ adj L d z
            obtain ⟨y, hy⟩ : ∃ y, y = L.getD z 0 := ⟨_, rfl⟩
            rw [← hy] at cx hsu
            generalize adj L.length z = a at g1' hsu
            obtain ⟨o1, ho1⟩ : ∃ o1, o1 = okTo adj L d (z + 1) := ⟨_, rfl⟩
            rw [← ho1] at hsu
            have HO1 : Hid (o1 = okTo adj L d (z + 1)) := ho1
            generalize okTo adj L d z = o at hsu ⊢
            clear hg g1 hy ho1
            cases o with
            | false =>
              have HS : Hid (o1 = false) := (show o1 = false by simpa using hsu)
              clear hsu
              go_wp2
              go_roundw
              case rel => exact ⟨z + 1, by omega, by go_num, by rw [← HO1.out, HS.out], trivial⟩
              case measure => simp [numOf]; omega
            | true =>
              cases a with
              | false =>
                have HS : Hid (o1 = true) := (show o1 = true by simpa using hsu)
                clear hsu
                go_wp2
                go_roundw
                case rel => exact ⟨z + 1, by omega, by go_num, by rw [← HO1.out, HS.out], trivial⟩
                case measure => simp [numOf]; omega
              | true =>
                by_cases hyd : y = d
                · have HS : Hid (o1 = false) := (show o1 = false by simpa [hyd] using hsu)
                  have k5 : ((y : Int) == (d : Int)) = true := by simp [hyd]
                  clear hsu hyd
                  go_wp2
                  go_roundw
                  case rel => exact ⟨z + 1, by omega, by go_num, by rw [← HO1.out, HS.out], trivial⟩
                  case measure => simp [numOf]; omega
                · have HS : Hid (o1 = true) := (show o1 = true by rw [hsu]; have h9 : (y == d) = false := (by simp [hyd]); rw [h9]; rfl)
                  have k5 : ((y : Int) == (d : Int)) = false := by rw [beq_eq_false_iff_ne]; omega
                  clear hsu hyd
                  go_wp2
                  go_roundw
                  case rel => exact ⟨z + 1, by omega, by go_num, by rw [← HO1.out, HS.out], trivial⟩
                  case measure => simp [numOf]; omega
          · have j2 : ¬ (z : Int) < (L.length : Int) := by omega
            have hzl : z = L.length := by omega
            have hok : okTo adj L d z = okC adj L d := by rw [hzl]; rfl
            rw [hok]
            obtain ⟨o, ho⟩ : ∃ o, o = okC adj L d := ⟨_, rfl⟩
            rw [← ho] at HLP ⊢
            clear hok ho hzl
            cases o with
            | false =>
              have hlp2 : (lpC adj L used (trC k adj stepF r) ((List.range lim).drop (d + 1)) s1).1 = res := by have := HLP.out; simpa using this
              have HLP2 : Hid ((lpC adj L used (trC k adj stepF r) ((List.range lim).drop (d + 1)) s1).1 = res) := hlp2
              clear HLP hlp2
              by_cases hdu : d = used
              · have k6 : ((d : Int) == (used : Int)) = true := by simp [hdu]
                clear hdu
                go_wp2
                go_roundw
                case rel => exact ⟨d + 1, s1, by omega, by go_num, HLP2.out, hb⟩
                case measure => simp [numOf]; omega
              · have k6 : ((d : Int) == (used : Int)) = false := by rw [beq_eq_false_iff_ne]; omega
                clear hdu
                go_wp2
                go_roundw
                case rel => exact ⟨d + 1, s1, by omega, by go_num, HLP2.out, hb⟩
                case measure => simp [numOf]; omega
            | true =>
              obtain ⟨um, hum⟩ : ∃ um, um = max used (d + 1) := ⟨_, rfl⟩
              rw [← hum] at HLP
              have hum2 : um ≤ L.length + 1 := by omega
              have hlL : L.length ≤ 1000 := by omega
              obtain ⟨rs, hrs⟩ : ∃ rs, rs = trC k adj stepF r (L ++ [d]) um s1 := ⟨_, rfl⟩
              rw [← hrs] at HLP
              have HRS : Hid (rs = trC k adj stepF r (L ++ [d]) um s1) := hrs
              have HPUSH : Hid (∀ (W1 W3 : World) (po : Option Addr) (pc g c : Nat), Below WO.heap.size WO W1 → W1.ownsRow WO.heap.size 3 1 (.slice po L.length pc) L.length (qv L) → W3.ownsRow WO.heap.size 3 1 (.slice (some ⟨g, 0, none⟩) (L ++ [d]).length c) (L ++ [d]).length (qv (L ++ [d])) → (W1.alloc (Obj.cells #[.int .i64 (d : Int)] 3)).grownBy W3 (Value.slice po L.length pc).ownBlock → Below WO.heap.size WO W3 ∧ Calls Try.prog 28 #[.slice tao n tcap, .int .i64 (k : Int), .int .i64 (um : Int), .slice (some ⟨g, 0, none⟩) (L ++ [d]).length c] W3 fun e w' => e = .returned (.bool rs.1) ∧ Below W3.heap.size W3 w') := fun W1 W3 po pc g c h1 h2 h3 h4 => by
                have hb3 : Below WO.heap.size WO W3 := (below_alloc h1 _).grown h4 (below_alloc h1 _).size (fun b hb' => (h2.lt b hb').1)
                refine ⟨hb3, ?_⟩
                rw [HRS.out]
                exact IH.out W3 (L ++ [d]) um _ _ s1 (by simp; omega) (by simp; omega) (HGW.out.below hb3) (num_own h3)
              clear hrs
              by_cases hdu : d = used
              · have k6 : ((d : Int) == (used : Int)) = true := by simp [hdu]
                have k7 : IntKind.i64.wrap ((used : Int) + 1) = (um : Int) := by rw [IntKind.wrap_i64]; omega
                clear hdu hum
                cases hb9 : rs.1 with
                | true =>
                  rw [hb9] at HPUSH
                  have hr9 : true = res := by have := HLP.out; simpa [hb9] using this
                  subst hr9
                  clear HLP
                  go_wp2_with (first
                    | (at_builtin; have hh := HOWN1; clear hh; refine wpList_pushG (l := L) (x := d) rfl _ _ rfl rfl rfl HOWN1.out (by omega) hsz1 ?_; intro g c W3 hown3 hgr3; obtain ⟨hb3, h24⟩ := HPUSH.out W1 W3 po pc g c hb1 HOWN1.out hown3 hgr3; have H24 : Hid (Calls Try.prog 28 #[.slice tao n tcap, .int .i64 (k : Int), .int .i64 (um : Int), .slice (some ⟨g, 0, none⟩) (L ++ [d]).length c] W3 fun e w' => e = .returned (.bool true) ∧ Below W3.heap.size W3 w') := h24; have hlk : (L ++ [d]).length = L.length + 1 := List.length_append; rw [hlk] at H24; clear hown3 hgr3 h24 hlk)
                    | (at_builtin; refine wpList_copyNilG (L := L) rfl _ _ rfl rfl rfl HNW.out hlL ?_; intro po pc W1 hown1 hb1; have hsz1 := hb1.size; have HOWN1 : Hid (W1.ownsRow WO.heap.size 3 1 (.slice po L.length pc) L.length (qv L)) := hown1; clear hown1)
                    | (go_at_call 28; refine Calls.mono H24.out ?_; rintro e W4 ⟨rfl, hb4⟩)
                    | go_in)
                  go_ret
                  exact ⟨rfl, below_next (below_next hb hb3) hb4⟩
                | false =>
                  rw [hb9] at HPUSH
                  have hr9 : (lpC adj L used (trC k adj stepF r) ((List.range lim).drop (d + 1)) rs.2).1 = res := by have := HLP.out; simpa [hb9] using this
                  have HR9 : Hid ((lpC adj L used (trC k adj stepF r) ((List.range lim).drop (d + 1)) rs.2).1 = res) := hr9
                  clear HLP hr9
                  go_wp2_with (first
                    | (at_builtin; have hh := HOWN1; clear hh; refine wpList_pushG (l := L) (x := d) rfl _ _ rfl rfl rfl HOWN1.out (by omega) hsz1 ?_; intro g c W3 hown3 hgr3; obtain ⟨hb3, h24⟩ := HPUSH.out W1 W3 po pc g c hb1 HOWN1.out hown3 hgr3; have H24 : Hid (Calls Try.prog 28 #[.slice tao n tcap, .int .i64 (k : Int), .int .i64 (um : Int), .slice (some ⟨g, 0, none⟩) (L ++ [d]).length c] W3 fun e w' => e = .returned (.bool false) ∧ Below W3.heap.size W3 w') := h24; have hlk : (L ++ [d]).length = L.length + 1 := List.length_append; rw [hlk] at H24; clear hown3 hgr3 h24 hlk)
                    | (at_builtin; refine wpList_copyNilG (L := L) rfl _ _ rfl rfl rfl HNW.out hlL ?_; intro po pc W1 hown1 hb1; have hsz1 := hb1.size; have HOWN1 : Hid (W1.ownsRow WO.heap.size 3 1 (.slice po L.length pc) L.length (qv L)) := hown1; clear hown1)
                    | (go_at_call 28; refine Calls.mono H24.out ?_; rintro e W4 ⟨rfl, hb4⟩)
                    | go_in)
                  go_roundw
                  case rel => exact ⟨d + 1, rs.2, by omega, by go_num, HR9.out, below_next (below_next hb hb3) hb4⟩
                  case measure => simp [numOf]; omega
              · have k6 : ((d : Int) == (used : Int)) = false := by rw [beq_eq_false_iff_ne]; omega
                have hue : used = um := by omega
                have HUE : Hid (um = used) := hue.symm
                rw [HUE.out] at HPUSH
                clear hdu hum hue
                cases hb9 : rs.1 with
                | true =>
                  rw [hb9] at HPUSH
                  have hr9 : true = res := by have := HLP.out; simpa [hb9] using this
                  subst hr9
                  clear HLP
                  go_wp2_with (first
                    | (at_builtin; have hh := HOWN1; clear hh; refine wpList_pushG (l := L) (x := d) rfl _ _ rfl rfl rfl HOWN1.out (by omega) hsz1 ?_; intro g c W3 hown3 hgr3; obtain ⟨hb3, h24⟩ := HPUSH.out W1 W3 po pc g c hb1 HOWN1.out hown3 hgr3; have H24 : Hid (Calls Try.prog 28 #[.slice tao n tcap, .int .i64 (k : Int), .int .i64 (used : Int), .slice (some ⟨g, 0, none⟩) (L ++ [d]).length c] W3 fun e w' => e = .returned (.bool true) ∧ Below W3.heap.size W3 w') := h24; have hlk : (L ++ [d]).length = L.length + 1 := List.length_append; rw [hlk] at H24; clear hown3 hgr3 h24 hlk)
                    | (at_builtin; refine wpList_copyNilG (L := L) rfl _ _ rfl rfl rfl HNW.out hlL ?_; intro po pc W1 hown1 hb1; have hsz1 := hb1.size; have HOWN1 : Hid (W1.ownsRow WO.heap.size 3 1 (.slice po L.length pc) L.length (qv L)) := hown1; clear hown1)
                    | (go_at_call 28; refine Calls.mono H24.out ?_; rintro e W4 ⟨rfl, hb4⟩)
                    | go_in)
                  go_ret
                  exact ⟨rfl, below_next (below_next hb hb3) hb4⟩
                | false =>
                  rw [hb9] at HPUSH
                  have hr9 : (lpC adj L used (trC k adj stepF r) ((List.range lim).drop (d + 1)) rs.2).1 = res := by have := HLP.out; simpa [hb9] using this
                  have HR9 : Hid ((lpC adj L used (trC k adj stepF r) ((List.range lim).drop (d + 1)) rs.2).1 = res) := hr9
                  clear HLP hr9
                  go_wp2_with (first
                    | (at_builtin; have hh := HOWN1; clear hh; refine wpList_pushG (l := L) (x := d) rfl _ _ rfl rfl rfl HOWN1.out (by omega) hsz1 ?_; intro g c W3 hown3 hgr3; obtain ⟨hb3, h24⟩ := HPUSH.out W1 W3 po pc g c hb1 HOWN1.out hown3 hgr3; have H24 : Hid (Calls Try.prog 28 #[.slice tao n tcap, .int .i64 (k : Int), .int .i64 (used : Int), .slice (some ⟨g, 0, none⟩) (L ++ [d]).length c] W3 fun e w' => e = .returned (.bool false) ∧ Below W3.heap.size W3 w') := h24; have hlk : (L ++ [d]).length = L.length + 1 := List.length_append; rw [hlk] at H24; clear hown3 hgr3 h24 hlk)
                    | (at_builtin; refine wpList_copyNilG (L := L) rfl _ _ rfl rfl rfl HNW.out hlL ?_; intro po pc W1 hown1 hb1; have hsz1 := hb1.size; have HOWN1 : Hid (W1.ownsRow WO.heap.size 3 1 (.slice po L.length pc) L.length (qv L)) := hown1; clear hown1)
                    | (go_at_call 28; refine Calls.mono H24.out ?_; rintro e W4 ⟨rfl, hb4⟩)
                    | go_in)
                  go_roundw
                  case rel => exact ⟨d + 1, rs.2, by omega, by go_num, HR9.out, below_next (below_next hb hb3) hb4⟩
                  case measure => simp [numOf]; omega
      · have hE : false = res := by rw [← hlp, List.drop_of_length_le (by simp; omega)]; rfl
        subst hE
        clear hlp
        by_cases h1 : d ≤ used
        · have i1 : (d : Int) ≤ (used : Int) := by omega
          have i2 : ¬ (d : Int) < (k : Int) := by omega
          go_wp2
          go_ret
          exact ⟨rfl, hb⟩
        · have i1 : ¬ (d : Int) ≤ (used : Int) := by omega
          go_wp2
          go_ret
          exact ⟨rfl, hb⟩
set_option maxHeartbeats 1000000 in
theorem sparseTop_call {W : World} {tv : Value} {n k : Nat} {p : Int → Int → Bool} (hn : n ≤ 100) (hk : k ≤ 100) (hG : GridAt W tv n p) (s : Option (List Nat)) :
    Calls Try.prog 13 #[tv, .int .i64 (k : Int)] W fun e w' => e = .returned (.bool (trC k (fun v z => p (v : Int) (z : Int)) stepF n [] 0 s).1) ∧ Below W.heap.size W w' := by
  have h28 := sparse_call (k := k) hn hk n W [] 0 none 0 s (by simp) (Nat.zero_le _) hG (fun j hj => absurd hj (Nat.not_lt_zero _))
  obtain ⟨tao, tcap, e, _⟩ := id hG
  subst e
  obtain ⟨res, hres⟩ : ∃ res, res = (trC k (fun v z => p (v : Int) (z : Int)) stepF n [] 0 s).1 := ⟨_, rfl⟩
  rw [← hres] at h28 ⊢
  have H28 : Hid (Calls Try.prog 28 #[.slice tao n tcap, .int .i64 (k : Int), .int .i64 0, .slice none 0 0] W fun e w' => e = .returned (.bool res) ∧ Below W.heap.size W w') := h28
  clear h28 hres hG
  go_enter Try.func13, Try.ntmps13
  go_wp2_with (first | (go_at_call 28; refine Calls.mono H28.out ?_; rintro e W1 ⟨rfl, hb⟩) | go_in)
  go_ret
  exact ⟨rfl, hb⟩
end Go.Proofs.Ytdnmoifbkojnlaa
