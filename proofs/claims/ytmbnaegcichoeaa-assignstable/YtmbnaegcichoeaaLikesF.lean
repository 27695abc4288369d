/- The document's LikesFault. -/
import Derived.Test.YtmbnaegcichoeaaLikes
import Derived.Test.YtmbnaegcichoeaaCopy
namespace Go.Proofs.Ytmbnaegcichoeaa
open Go.RowKit Go.Maps
attribute [local go_sem ↓] Go.wp_at_zero Go.wp_at_succ

/-- The slices of a slice of lists, as values. -/
theorem rows_vals {w : World} {ao : Option Addr} {cap : Nat} {ls : List (List Int)} (h : RowsAt w (.slice ao ls.length cap) ls) :
    ∃ vs : List Value, vs.length = ls.length ∧ (∀ (i : Nat) (x : Value) (l : List Int), vs[i]? = some x → ls[i]? = some l → IntsAt w x l) ∧ ∀ b off, ao = some ⟨b, off, none⟩ → ∀ j u, vs[j]? = some u → w.cell? ((⟨b, off, none⟩ : Addr).add j) = some u := by
  obtain ⟨ao', cap', e, _, _, hr⟩ := h
  cases e
  by_cases h0 : ls.length = 0
  · exact ⟨[], by simp [h0], fun i x l hx => by simp at hx, fun b off _ j u hu => by simp at hu⟩
  · obtain ⟨b, off, _, rfl, _, _⟩ := hr 0 (by omega)
    refine ⟨(List.range ls.length).map (fun i => (w.cell? ⟨b, off + i, none⟩).getD undef), by simp, fun i x l hx hl => ?_, fun b' off' e j u hu => ?_⟩
    · obtain ⟨hi, e⟩ := List.getElem?_eq_some_iff.1 hl
      obtain ⟨b2, off2, y, e2, c, hy⟩ := hr i hi
      cases e2
      rw [List.getElem?_map, List.getElem?_range hi] at hx
      simp [c] at hx
      subst hx
      rw [← e]; exact hy
    · cases e
      have hj : j < ls.length := by
        have := (List.getElem?_eq_some_iff.1 hu).1
        simpa using this
      obtain ⟨b2, off2, y, e2, c, hy⟩ := hr j hj
      cases e2
      rw [List.getElem?_map, List.getElem?_range hj] at hu
      simp [c] at hu
      subst hu
      rw [show (⟨b, off, none⟩ : Addr).add j = ⟨b, off + j, none⟩ from by unfold Addr.add; split <;> simp_all]
      exact c
/-- append of one slice of slices to another. -/
theorem wpList_joinRows {W : World} {base : Nat} {ops : Array Oper} {rest : List Oper} {o : Oper} {a : Act} {Q : Exit → Act → World → Prop} {so vo : Option Addr} {sn sc vn vc : Nat} {xs vs : List Value} (hgd : o.guard = none) (s y : Operand)
    (ho : o.op = .call { callee := .builtin .append, args := #[s, y], argTypes := #[22, 22] }) (hs : a.eval s = .slice so sn sc) (hy : a.eval y = .slice vo vn vc)
    (hown : W.ownsRow base 27 1 (.slice so sn sc) sn xs) (hbase : base ≤ W.heap.size) (hvs : vs.length = vn) (h1 : ∀ u ∈ vs, u.oneCell' = true) (hc : 0 < vn → ∃ b off, vo = some ⟨b, off, none⟩ ∧ ∀ j u, vs[j]? = some u → W.cell? ((⟨b, off, none⟩ : Addr).add j) = some u) (hl : sn ≤ 1000 ∧ vn ≤ 1000) (h0 : vn = 0 → so = none ∧ sn = 0 ∧ sc = 0)
    (h : ∀ po pc w', (vn = 0 → po = none ∧ pc = 0) → w'.ownsRow base 27 1 (.slice po (sn + vn) pc) (sn + vn) (xs ++ vs) → W.grownBy w' (Value.slice so sn sc).ownBlock → wpList Try.prog ops Q rest (a.put o.dst (.slice po (sn + vn) pc)) w') :
    wpList Try.prog ops Q (o :: rest) a W := by
  obtain ⟨i27, hi27, hz0, hz1, hz2⟩ := info_parts Try.info27
  by_cases hl0 : vn = 0
  · obtain ⟨rfl, rfl, rfl⟩ := h0 hl0
    subst hl0
    have hv0 : vs = [] := List.length_eq_zero_iff.1 hvs
    subst hv0
    have hk := h none 0 W (fun _ => ⟨rfl, rfl⟩) (by simpa using hown) ⟨rfl, rfl, rfl, Nat.le_refl _, fun _ _ _ => rfl⟩
    obtain ⟨dst, op, type, pos, after, guard⟩ := o
    simp only at ho hgd hk
    subst ho
    subst hgd
    refine wpList_plain rfl fun K hK => ?_
    have hk' := hK _ _ hk
    clear hk
    unfold Oper.wp
    obtain ⟨ρ, hρ⟩ : ∃ ρ, ρ = a.eval := ⟨_, rfl⟩
    rw [← hρ] at hs hy ⊢
    cases vo with
    | none =>
      simp [go_sem, hs, hy]
      exact hk'
    | some x =>
      simp [go_sem, hs, hy]
      exact hk'
  · obtain ⟨b1, off1, rfl, hcl⟩ := hc (by omega)
    refine wpList_append_own _ hgd s y 22 ho base 27 i27 (.slice none 0 0) 1 24 Try.underlying22 hi27 hz0 hz1 hz2 rfl (by decide) (.slice so sn sc) sn xs hs hown ⟨b1, off1, none⟩ vn vc vs hy (by omega) hcl h1 (by unfold maxLen; omega) (by omega) hbase ?_
    intro v w' h2 h3 _
    obtain ⟨po, pc, rfl⟩ := form_row h2
    exact h po pc w' (fun e => absurd e hl0) h2 h3
theorem rows_one {w : World} {vs : List Value} {ls : List (List Int)} (hl : vs.length = ls.length) (h : ∀ (i : Nat) (x : Value) (l : List Int), vs[i]? = some x → ls[i]? = some l → IntsAt w x l) : ∀ u ∈ vs, u.oneCell' = true := fun u hu => by
  obtain ⟨i, hi, e⟩ := List.getElem_of_mem hu
  obtain ⟨ao, cap, rfl, _⟩ := h i u (ls[i]'(by omega)) (by rw [List.getElem?_eq_getElem hi, e]) (List.getElem?_eq_getElem (by omega))
  rfl
theorem rows_own {w : World} {base : Nat} {po : Option Addr} {pc : Nat} {vs : List Value} {ls : List (List Int)} (hl : vs.length = ls.length) (hown : w.ownsRow base 27 1 (.slice po ls.length pc) ls.length vs) (h : ∀ (i : Nat) (x : Value) (l : List Int), vs[i]? = some x → ls[i]? = some l → IntsAt w x l) (hb : ls.length ≤ 5864062014805) : RowsAt w (.slice po ls.length pc) ls := by
  rcases hown.2 with ⟨e, e2⟩ | ⟨g, cap, cur, e, _, _, hc, _⟩
  · injection e with e1 e3 e4
    subst e1
    subst e4
    exact ⟨none, 0, rfl, by omega, hb, fun i hi => by omega⟩
  · cases e
    refine ⟨_, _, rfl, hc, hb, fun i hi => ?_⟩
    obtain ⟨x, hx⟩ : ∃ x, vs[i]? = some x := ⟨vs[i]'(by omega), List.getElem?_eq_getElem (by omega)⟩
    refine ⟨g, 0, x, rfl, ?_, h i x ls[i] hx (List.getElem?_eq_getElem hi)⟩
    have := hown.cells (g := g) rfl i _ hx
    rw [add_none] at this
    simpa using this

set_option maxRecDepth 4000 in
set_option maxHeartbeats 4000000 in
theorem likesFault_call {w : World} {va vb : Value} {la lb : List (List Int)} (hA : RowsAt w va la) (hB : RowsAt w vb lb) :
    Calls Try.prog 11 #[va, vb] w fun e w' => e = .returned (.agg #[.int .i64 (likeF la lb).1, .int .i64 (likeF la lb).2]) ∧ Below w.heap.size w w' := by
  have HA : Hid (RowsAt w va la) := hA
  have HB : Hid (RowsAt w vb lb) := hB
  obtain ⟨ao, acap, rfl, _, hbigA, _⟩ := hA
  obtain ⟨bo, bcap, rfl, _, hbigB, _⟩ := hB
  obtain ⟨fc, fd, hf⟩ : ∃ fc fd, likeF la lb = (fc, fd) := ⟨_, _, rfl⟩
  rw [hf]
  have HF : Hid (likeF la lb = (fc, fd)) := hf
  clear hf
  go_enter Try.func11, Try.ntmps11
  go_upto_region 1 with (fail)
  have t2 := two_start w 25
  have hB0 := below_alloc (Below.refl _ w) (Obj.cells #[.int .i64 0, .int .i64 0] 25)
  generalize w.alloc (Obj.cells #[.int .i64 0, .int .i64 0] 25) = W0 at t2 hB0 ⊢
  have HT : Hid (Two W0 w.heap.size (.int .i64 0) (.int .i64 0) 25) := t2
  have hend : ∀ (a b : Int) (W1 : World), Below W0.heap.size W0 W1 → (Two ((W1.setCell ⟨w.heap.size, 0, none⟩ (.int .i64 a)).setCell ⟨w.heap.size, 1, none⟩ (.int .i64 b)) w.heap.size (.int .i64 a) (.int .i64 b) 25 ∧ Below w.heap.size w ((W1.setCell ⟨w.heap.size, 0, none⟩ (.int .i64 a)).setCell ⟨w.heap.size, 1, none⟩ (.int .i64 b))) := fun a b W1 hb => ⟨two_setN (two_next HT.out hb), ((below_next hB0 hb).setCell (p := ⟨w.heap.size, 0, none⟩) (Nat.le_refl _) _).setCell (p := ⟨w.heap.size, 1, none⟩) (Nat.le_refl _) _⟩
  have HEND : Hid (∀ (a b : Int) (W1 : World), Below W0.heap.size W0 W1 → (Two ((W1.setCell ⟨w.heap.size, 0, none⟩ (.int .i64 a)).setCell ⟨w.heap.size, 1, none⟩ (.int .i64 b)) w.heap.size (.int .i64 a) (.int .i64 b) 25 ∧ Below w.heap.size w ((W1.setCell ⟨w.heap.size, 0, none⟩ (.int .i64 a)).setCell ⟨w.heap.size, 1, none⟩ (.int .i64 b)))) := hend
  clear t2 hend
  by_cases hmany : 100 < la.length
  · have k1 : (la.length : Int) > 100 := by omega
    have hE : (2, 0) = (fc, fd) := by
      have := HF.out
      unfold likeF at this
      rwa [if_pos hmany] at this
    cases hE
    go_wp2_with (first | (go_at_call 17; refine (refF_any 2 0 _).mono ?_; rintro e W1 ⟨rfl, hb1⟩; have y2 := two_next HT.out hb1; have ff := free_two y2; obtain ⟨q0, q1⟩ := cell_two y2) | go_in)
    obtain ⟨x9, hB4⟩ := HEND.out 2 0 W1 hb1
    generalize ((W1.setCell ⟨w.heap.size, 0, none⟩ (.int .i64 2)).setCell ⟨w.heap.size, 1, none⟩ (.int .i64 0)) = W4 at x9 hB4 ⊢
    obtain ⟨n8, n81⟩ := cell_two x9
    refine bodyPost_ret (v := .agg #[.int .i64 2, .int .i64 0]) ?_ rfl ⟨rfl, hB4⟩
    simp [results, Try.results11, go_sem, n8, n81]
  · have k1 : ¬ (la.length : Int) > 100 := by omega
    have HF2 : Hid ((if lb.length ≠ la.length then (6, (la.length : Int)) else likeFrom la.length 0 (la ++ lb)) = (fc, fd)) := by
      have := HF.out
      unfold likeF at this
      rwa [if_neg hmany] at this
    clear HF
    by_cases hlen : lb.length = la.length
    · have HE : Hid (likeFrom la.length 0 (la ++ lb) = (fc, fd)) := by
        have := HF2.out
        rwa [if_neg (by simpa using hlen)] at this
      clear HF2
      obtain ⟨vsA, hvA, hiA, hcA⟩ := rows_vals (HA.out.below hB0)
      obtain ⟨vsB, hvB, hiB, hcB⟩ := rows_vals (HB.out.below hB0)
      obtain ⟨n, hnn⟩ : ∃ n, n = la.length := ⟨_, rfl⟩
      have HLA : Hid (la.length = n ∧ lb.length = n) := ⟨hnn.symm, by omega⟩
      have hJ : ∀ (po : Option Addr) (pc : Nat) (W2 : World), Below W0.heap.size W0 W2 → W2.ownsRow W0.heap.size 27 1 (.slice po (n + n) pc) (n + n) (vsA ++ vsB) → RowsAt W2 (.slice po (n + n) pc) (la ++ lb) := fun po pc W2 hb2 ho => by
        have e : (la ++ lb).length = n + n := by rw [List.length_append]; omega
        rw [← e] at ho ⊢
        refine rows_own (by rw [List.length_append, List.length_append]; omega) ho (fun i x l hx hl => ?_) (by omega)
        by_cases hi : i < la.length
        · rw [List.getElem?_append_left (by omega)] at hx hl
          exact (hiA i x l hx hl).below hb2
        · rw [List.getElem?_append_right (by omega)] at hx hl
          rw [hvA] at hx
          exact (hiB _ x l hx hl).below hb2
      have HJ : Hid (∀ (po : Option Addr) (pc : Nat) (W2 : World), Below W0.heap.size W0 W2 → W2.ownsRow W0.heap.size 27 1 (.slice po (n + n) pc) (n + n) (vsA ++ vsB) → RowsAt W2 (.slice po (n + n) pc) (la ++ lb)) := hJ
      have HO1 : Hid ((∀ u ∈ vsA, u.oneCell' = true) ∧ ∀ u ∈ vsB, u.oneCell' = true) := ⟨rows_one hvA hiA, rows_one hvB hiB⟩
      have HVA : Hid (vsA.length = n ∧ vsB.length = n) := ⟨by omega, by omega⟩
      have HCA : Hid (0 < n → ∃ b off, ao = some ⟨b, off, none⟩ ∧ ∀ j u, vsA[j]? = some u → W0.cell? ((⟨b, off, none⟩ : Addr).add j) = some u) := fun h => by
        obtain ⟨ao', _, e, _, _, hr⟩ := HA.out
        cases e
        obtain ⟨b, off, _, rfl, _⟩ := hr 0 (by omega)
        exact ⟨b, off, rfl, hcA b off rfl⟩
      have HCB : Hid (0 < n → ∃ b off, bo = some ⟨b, off, none⟩ ∧ ∀ j u, vsB[j]? = some u → W0.cell? ((⟨b, off, none⟩ : Addr).add j) = some u) := fun h => by
        obtain ⟨bo', _, e, _, _, hr⟩ := HB.out
        cases e
        obtain ⟨b, off, _, rfl, _⟩ := hr 0 (by omega)
        exact ⟨b, off, rfl, hcB b off rfl⟩
      have k2 : ((n : Int) != (n : Int)) = false := by simp
      rw [hlen, ← hnn]
      rw [← hnn] at HE hmany k1
      clear hlen hvA hvB hiA hiB hcA hcB hnn hJ hbigA hbigB HA HB
      have hnil : W0.ownsRow W0.heap.size 27 1 (.slice none 0 0) 0 [] := World.ownsRow_nil _ _ _ _
      have HNIL : Hid (W0.ownsRow W0.heap.size 27 1 (.slice none 0 0) 0 []) := hnil
      clear hnil
      go_upto_region 7 with (first
        | (at_builtin; have hh := HOWN1; clear hh; refine wpList_joinRows (base := W0.heap.size) (so := po) (sn := n) (sc := pc) (xs := vsA) (vs := vsB) (vn := n) rfl _ _ rfl rfl rfl HOWN1.out hb1.size HVA.out.2 HO1.out.2 (fun h => by obtain ⟨b, off, e, hcl⟩ := HCB.out h; exact ⟨b, off, e, fun j u hu => (hb1.cell (World.block_lt_of_cell? _ _ (hcl j u hu))).trans (hcl j u hu)⟩) ⟨by omega, by omega⟩ (fun e => ⟨(HPO.out e).1, e, (HPO.out e).2⟩) ?_; intro qo qc W2 _ hown2 hgr2; have hb2 : Below W0.heap.size W0 W2 := hb1.grown hgr2 hb1.size (fun b hb' => (HOWN1.out.lt b hb').1); have HRJ : Hid (RowsAt W2 (.slice qo (n + n) qc) (la ++ lb)) := HJ.out qo qc W2 hb2 hown2; clear hown2 hgr2)
        | (at_builtin; refine wpList_joinRows (base := W0.heap.size) (so := none) (sn := 0) (sc := 0) (xs := []) (vs := vsA) (vn := n) rfl _ _ rfl rfl rfl HNIL.out (Nat.le_refl _) HVA.out.1 HO1.out.1 HCA.out ⟨by omega, by omega⟩ (fun _ => ⟨rfl, rfl, rfl⟩) ?_; intro po pc W1 hpo hown1 hgr1; have HPO : Hid (n = 0 → po = none ∧ pc = 0) := hpo; have hb1 : Below W0.heap.size W0 W1 := ⟨hgr1.os, hgr1.tape, hgr1.output, hgr1.size, fun k hk => hgr1.block k hk (by simp [Value.ownBlock])⟩; try simp only [Nat.zero_add, List.nil_append] at hown1; have HOWN1 : Hid (W1.ownsRow W0.heap.size 27 1 (.slice po n pc) n vsA) := hown1; clear hpo hown1 hgr1)
        | go_in)
      obtain ⟨N, hN⟩ : ∃ N, N = n + n := ⟨_, rfl⟩
      have HLS : Hid ((la ++ lb).length = N) := by show (la ++ lb).length = N; rw [List.length_append, hN]; have := HLA.out; omega
      rw [← hN] at HRJ ⊢
      generalize la ++ lb = ls at HE HRJ HLS
      have hN200 : N ≤ 200 := by omega
      have HRS : Hid (∀ i, i < N → ∃ b off x, qo = some ⟨b, off, none⟩ ∧ W2.cell? ⟨b, off + i, none⟩ = some x ∧ ∃ l, ls[i]? = some l ∧ IntsAt W2 x l) := fun i hi => by
        obtain ⟨qo', _, e, _, _, hr⟩ := HRJ.out
        injection e with e1 e2 e3
        subst e1
        obtain ⟨b, off, x, e4, c, hx⟩ := hr i (by rw [HLS.out]; exact hi)
        exact ⟨b, off, x, e4, c, ls[i]'(by rw [HLS.out]; exact hi), List.getElem?_eq_getElem _, hx⟩
      clear hN HRJ HJ HO1 HVA HCA HCB HNIL HPO HOWN1 hb1 HLA
      go_wp2
      go_loopw [7, 8, 9] (fun iv' _ _ wr => ∃ k : Nat, k ≤ N ∧ iv' = .int .i64 (k : Int) ∧ likeFrom n k (ls.drop k) = (fc, fd) ∧ ∃ d, wr = W2.drewN d) (fun iv' _ _ _ => N - (numOf iv').toNat)
      case atStart => exact ⟨0, Nat.zero_le _, rfl, by simpa using HE.out, 0, rfl⟩
      case round =>
        clear HE
        obtain ⟨k, hk, rfl, hcf, d, hd⟩ := hrel
        have HD : Hid (wr = W2.drewN d) := hd
        by_cases hlt : k < N
        · have i2 : (k : Int) < (N : Int) := by omega
          have i1 : (0 : Int) ≤ (k : Int) := by omega
          obtain ⟨b, off, x, rfl, cx, l, hl, hx⟩ := HRS.out k hlt
          obtain ⟨hlt', hle⟩ := List.getElem?_eq_some_iff.1 hl
          rw [likeFrom_drop hlt', hle] at hcf
          obtain ⟨lo, lc, rfl, ⟨hl2, _⟩, _, hcl⟩ := hx
          have cx1 : wr.cell? ⟨b, off + k, none⟩ = some (.slice lo l.length lc) := by rw [hd]; exact cx
          have HCL : Hid (∀ j (h : j < l.length), ∃ b off, lo = some ⟨b, off, none⟩ ∧ W2.cell? ⟨b, off + j, none⟩ = some (.int .i64 l[j])) := hcl
          have HCX : Hid (W2.cell? ⟨b, off + k, none⟩ = some (.slice lo l.length lc)) := cx
          obtain ⟨c, hc⟩ : ∃ c, c = badNames n l := ⟨_, rfl⟩
          rw [← hc] at hcf
          have HCF : Hid ((if c = 0 then likeFrom n (k + 1) (ls.drop (k + 1)) else (c, (k : Int))) = (fc, fd)) := hcf
          have HBAD : Hid (c = badNames n l) := hc
          have hbW : Below W0.heap.size W0 wr := by rw [hd]; exact below_drewN hb2 d
          clear hcl hcf hc hl hlt' hle cx hd
          by_cases hll : l.length = n
          · have i3 : ((l.length : Int) != (n : Int)) = false := by simp [hll]
            have HLL : Hid (l.length = n) := hll
            have HC0 : Hid (nmFrom n l 0 l = c) := by
              have := HBAD.out
              unfold badNames at this
              rw [if_neg (by simpa using hll)] at this
              exact this.symm
            clear hll
            go_wp2
            clear cx1
            generalize hwo : wr = WO at HD hbW ⊢
            clear hwo
            go_loopw [8, 9] (fun jv _ wr => ∃ m : Nat, m ≤ n ∧ jv = .int .i64 (m : Int) ∧ nmFrom n l m (l.drop m) = c ∧ ∃ d, wr = W2.drewN d) (fun jv _ _ => n - (numOf jv).toNat)
            case atStart => exact ⟨0, Nat.zero_le _, rfl, by simpa using HC0.out, d, HD.out⟩
            case round =>
              clear HC0 HD hbW
              obtain ⟨m, hm, rfl, hnm, d', hd⟩ := hrel
              have HD : Hid (wr = W2.drewN d') := hd
              have hbW : Below W0.heap.size W0 wr := by rw [hd]; exact below_drewN hb2 d'
              by_cases hltm : m < n
              · have hml : m < l.length := by rw [HLL.out]; exact hltm
                rw [nmFrom_drop hml] at hnm
                obtain ⟨b', off', rfl, cy⟩ := HCL.out m hml
                have cy1 : wr.cell? ⟨b', off' + m, none⟩ = some (.int .i64 l[m]) := by rw [hd]; exact cy
                have cx1 : wr.cell? ⟨b, off + k, none⟩ = some (.slice (some ⟨b', off', none⟩) l.length lc) := by rw [hd]; exact HCX.out
                have hgm : l.getD m 0 = l[m] := getD_lt hml
                generalize l[m] = y at hnm cy1 hgm
                have HY : Hid (l.getD m 0 = y) := hgm
                have HNM : Hid ((if y < 0 ∨ (n : Int) ≤ y then 3 else if y ∈ l.take m then 5 else nmFrom n l (m + 1) (l.drop (m + 1))) = c) := hnm
                have j1 : (0 : Int) ≤ (m : Int) := by omega
                have j2 : (m : Int) < (n : Int) := by omega
                have j3 : (m : Int) < (l.length : Int) := by omega
                clear hnm hgm cy hd
                by_cases h1 : y < 0
                · have hc3 : 3 = c := by have := HNM.out; rwa [if_pos (Or.inl h1)] at this
                  have hE : ((3 : Int), (k : Int)) = (fc, fd) := by have := HCF.out; rwa [← hc3, if_neg (by omega)] at this
                  cases hE
                  clear HNM HCF HBAD hc3
                  go_wp2_with (first | (go_at_call 17; refine (refF_any 3 (k : Int) _).mono ?_; rintro e W3 ⟨rfl, hb3⟩; have hb13 := below_next hbW hb3; have y2 := two_next HT.out hb13; have ff := free_two y2; obtain ⟨q0, q1⟩ := cell_two y2) | go_in)
                  obtain ⟨x9, hB4⟩ := HEND.out 3 (k : Int) W3 hb13
                  generalize ((W3.setCell ⟨w.heap.size, 0, none⟩ (.int .i64 3)).setCell ⟨w.heap.size, 1, none⟩ (.int .i64 (k : Int))) = W4 at x9 hB4 ⊢
                  obtain ⟨n8, n81⟩ := cell_two x9
                  refine bodyPost_ret (v := .agg #[.int .i64 3, .int .i64 (k : Int)]) ?_ rfl ⟨rfl, hB4⟩
                  simp [results, Try.results11, go_sem, n8, n81]
                · by_cases h2 : (n : Int) ≤ y
                  · have hc3 : 3 = c := by have := HNM.out; rwa [if_pos (Or.inr h2)] at this
                    have hE : ((3 : Int), (k : Int)) = (fc, fd) := by have := HCF.out; rwa [← hc3, if_neg (by omega)] at this
                    cases hE
                    have h3 : y ≥ (n : Int) := h2
                    clear HNM HCF HBAD hc3 h2
                    go_wp2_with (first | (go_at_call 17; refine (refF_any 3 (k : Int) _).mono ?_; rintro e W3 ⟨rfl, hb3⟩; have hb13 := below_next hbW hb3; have y2 := two_next HT.out hb13; have ff := free_two y2; obtain ⟨q0, q1⟩ := cell_two y2) | go_in)
                    obtain ⟨x9, hB4⟩ := HEND.out 3 (k : Int) W3 hb13
                    generalize ((W3.setCell ⟨w.heap.size, 0, none⟩ (.int .i64 3)).setCell ⟨w.heap.size, 1, none⟩ (.int .i64 (k : Int))) = W4 at x9 hB4 ⊢
                    obtain ⟨n8, n81⟩ := cell_two x9
                    refine bodyPost_ret (v := .agg #[.int .i64 3, .int .i64 (k : Int)]) ?_ rfl ⟨rfl, hB4⟩
                    simp [results, Try.results11, go_sem, n8, n81]
                  · have HNM2 : Hid ((if y ∈ l.take m then 5 else nmFrom n l (m + 1) (l.drop (m + 1))) = c) := by have := HNM.out; rwa [if_neg (by rintro (h | h) <;> contradiction)] at this
                    have h3 : ¬ y ≥ (n : Int) := h2
                    clear HNM
                    go_wp2
                    clear cy1 cx1 h1 h2 h3
                    generalize hwo : wr = WP at HD hbW ⊢
                    clear hwo
                    go_loopw [9] (fun tv wr => ∃ q : Nat, q ≤ m ∧ tv = .int .i64 (q : Int) ∧ (∀ q', q' < q → l.getD q' 0 ≠ y) ∧ ∃ d, wr = W2.drewN d) (fun tv _ => m - (numOf tv).toNat)
                    case atStart => exact ⟨0, Nat.zero_le _, rfl, fun q' h => by omega, d', HD.out⟩
                    case round =>
                      clear HD hbW
                      obtain ⟨q, hq, rfl, hno, d2, hd⟩ := hrel
                      have HD : Hid (wr = W2.drewN d2) := hd
                      have HNO : Hid (∀ q', q' < q → l.getD q' 0 ≠ y) := hno
                      have hbW : Below W0.heap.size W0 wr := by rw [hd]; exact below_drewN hb2 d2
                      clear hno
                      by_cases hltq : q < m
                      · have hql : q < l.length := by omega
                        obtain ⟨b3, off3, e3, cz⟩ := HCL.out q hql
                        cases e3
                        obtain ⟨b4, off4, e4, cy⟩ := HCL.out m hml
                        cases e4
                        have cz1 : wr.cell? ⟨b', off' + q, none⟩ = some (.int .i64 l[q]) := by rw [hd]; exact cz
                        have cy1 : wr.cell? ⟨b', off' + m, none⟩ = some (.int .i64 y) := by
                          rw [hd]
                          have : l[m] = y := by rw [← HY.out, getD_lt hml]
                          rw [← this]; exact cy
                        have cx1 : wr.cell? ⟨b, off + k, none⟩ = some (.slice (some ⟨b', off', none⟩) l.length lc) := by rw [hd]; exact HCX.out
                        have hgq : l.getD q 0 = l[q] := getD_lt hql
                        generalize l[q] = z at cz1 hgq
                        have HZ : Hid (l.getD q 0 = z) := hgq
                        have j4 : (0 : Int) ≤ (q : Int) := by omega
                        have j5 : (q : Int) < (m : Int) := by omega
                        have j6 : (q : Int) < (l.length : Int) := by omega
                        clear hgq cz cy hd
                        by_cases hzy : z = y
                        · have hin : y ∈ l.take m := (mem_take_iff (by omega)).2 ⟨q, hltq, by rw [HZ.out, hzy]⟩
                          have hc5 : 5 = c := by have := HNM2.out; rwa [if_pos hin] at this
                          have hE : ((5 : Int), (k : Int)) = (fc, fd) := by have := HCF.out; rwa [← hc5, if_neg (by omega)] at this
                          cases hE
                          have j7 : (z == y) = true := by simp [hzy]
                          clear HNM2 HCF HBAD hc5 hin hzy
                          go_upto_region 20 with (fail)
                          go_quiet (fail)
                          have hbW2 := below_drewN hbW nq
                          go_wp2_with (first | (go_at_call 17; refine (refF_any 5 (k : Int) _).mono ?_; rintro e W3 ⟨rfl, hb3⟩; have hb13 := below_next hbW2 hb3; have y2 := two_next HT.out hb13; have ff := free_two y2; obtain ⟨q0, q1⟩ := cell_two y2) | go_in)
                          obtain ⟨x9, hB4⟩ := HEND.out 5 (k : Int) W3 hb13
                          generalize ((W3.setCell ⟨w.heap.size, 0, none⟩ (.int .i64 5)).setCell ⟨w.heap.size, 1, none⟩ (.int .i64 (k : Int))) = W4 at x9 hB4 ⊢
                          obtain ⟨n8, n81⟩ := cell_two x9
                          refine bodyPost_ret (v := .agg #[.int .i64 5, .int .i64 (k : Int)]) ?_ rfl ⟨rfl, hB4⟩
                          simp [results, Try.results11, go_sem, n8, n81]
                        · have j7 : (z == y) = false := by simp [hzy]
                          have HZY : Hid (z ≠ y) := hzy
                          clear hzy
                          go_upto_region 20 with (fail)
                          go_quiet (fail)
                          go_wp2
                          go_roundw
                          case rel => exact ⟨q + 1, by omega, by go_num, fun q' hq' => by
                            by_cases e : q' = q
                            · subst e; rw [HZ.out]; exact HZY.out
                            · exact HNO.out q' (by omega), d2 + nq, by rw [HD.out]; exact World.drewN_drewN _ _ _⟩
                          case measure => simp [numOf]; omega
                      · have j5 : ¬ (q : Int) < (m : Int) := by omega
                        have hqm : q = m := by omega
                        have HNX : Hid (nmFrom n l (m + 1) (l.drop (m + 1)) = c) := by
                          have := HNM2.out
                          rwa [if_neg (fun hin => by
                            obtain ⟨j, hj, e⟩ := (mem_take_iff (by omega)).1 hin
                            exact HNO.out j (by omega) e)] at this
                        clear hd hqm
                        go_wp2
                        go_roundw
                        case rel => exact ⟨m + 1, by omega, by go_num, HNX.out, d2, HD.out⟩
                        case measure => simp [numOf]; omega
              · have j2 : ¬ (m : Int) < (n : Int) := by omega
                have hc0 : 0 = c := by rw [← hnm, List.drop_of_length_le (by rw [HLL.out]; omega)]; rfl
                have HNX : Hid (likeFrom n (k + 1) (ls.drop (k + 1)) = (fc, fd)) := by have := HCF.out; rwa [← hc0, if_pos rfl] at this
                clear hnm hc0 hd HCF HBAD
                go_wp2
                go_roundw
                case rel => exact ⟨k + 1, by omega, by go_num, HNX.out, d', HD.out⟩
                case measure => simp [numOf]; omega
          · have i3 : ((l.length : Int) != (n : Int)) = true := by simp; omega
            have hc6 : 6 = c := by
              have := HBAD.out
              unfold badNames at this
              rw [if_pos hll] at this
              exact this.symm
            have hE : ((6 : Int), (k : Int)) = (fc, fd) := by have := HCF.out; rwa [← hc6, if_neg (by omega)] at this
            cases hE
            clear hll HCF HBAD hc6
            go_wp2_with (first | (go_at_call 17; refine (refF_any 6 (k : Int) _).mono ?_; rintro e W3 ⟨rfl, hb3⟩; have hb13 := below_next hbW hb3; have y2 := two_next HT.out hb13; have ff := free_two y2; obtain ⟨q0, q1⟩ := cell_two y2) | go_in)
            obtain ⟨x9, hB4⟩ := HEND.out 6 (k : Int) W3 hb13
            generalize ((W3.setCell ⟨w.heap.size, 0, none⟩ (.int .i64 6)).setCell ⟨w.heap.size, 1, none⟩ (.int .i64 (k : Int))) = W4 at x9 hB4 ⊢
            obtain ⟨n8, n81⟩ := cell_two x9
            refine bodyPost_ret (v := .agg #[.int .i64 6, .int .i64 (k : Int)]) ?_ rfl ⟨rfl, hB4⟩
            simp [results, Try.results11, go_sem, n8, n81]
        · have i2 : ¬ (k : Int) < (N : Int) := by omega
          have hE : ((0 : Int), (0 : Int)) = (fc, fd) := by
            rw [← hcf, List.drop_of_length_le (by rw [HLS.out]; omega)]; rfl
          cases hE
          have hbW : Below W0.heap.size W0 wr := by rw [hd]; exact below_drewN hb2 d
          have y2 := two_next HT.out hbW
          have ff := free_two y2
          obtain ⟨q0, q1⟩ := cell_two y2
          clear hcf hd
          go_wp2
          obtain ⟨x9, hB4⟩ := HEND.out 0 0 wr hbW
          generalize ((wr.setCell ⟨w.heap.size, 0, none⟩ (.int .i64 0)).setCell ⟨w.heap.size, 1, none⟩ (.int .i64 0)) = W4 at x9 hB4 ⊢
          obtain ⟨n8, n81⟩ := cell_two x9
          refine bodyPost_ret (v := .agg #[.int .i64 0, .int .i64 0]) ?_ rfl ⟨rfl, hB4⟩
          simp [results, Try.results11, go_sem, n8, n81]
    · have k2 : ((lb.length : Int) != (la.length : Int)) = true := by simp; omega
      have hE : ((6 : Int), (la.length : Int)) = (fc, fd) := by
        have := HF2.out
        rwa [if_pos hlen] at this
      cases hE
      clear hlen HF2
      go_wp2_with (first | (go_at_call 17; refine (refF_any 6 (la.length : Int) _).mono ?_; rintro e W1 ⟨rfl, hb1⟩; have y2 := two_next HT.out hb1; have ff := free_two y2; obtain ⟨q0, q1⟩ := cell_two y2) | go_in)
      obtain ⟨x9, hB4⟩ := HEND.out 6 (la.length : Int) W1 hb1
      generalize ((W1.setCell ⟨w.heap.size, 0, none⟩ (.int .i64 6)).setCell ⟨w.heap.size, 1, none⟩ (.int .i64 (la.length : Int))) = W4 at x9 hB4 ⊢
      obtain ⟨n8, n81⟩ := cell_two x9
      refine bodyPost_ret (v := .agg #[.int .i64 6, .int .i64 (la.length : Int)]) ?_ rfl ⟨rfl, hB4⟩
      simp [results, Try.results11, go_sem, n8, n81]
end Go.Proofs.Ytmbnaegcichoeaa
