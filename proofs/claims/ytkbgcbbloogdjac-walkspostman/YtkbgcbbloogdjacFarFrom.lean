/- farFrom: how far each node is from one. -/
import Derived.Test.YtkbgcbbloogdjacRefFar
import Derived.Test.YtkbgcbbloogdjacTake
namespace Go.Proofs.Ytkbgcbbloogdjac
open Go.RowKit Go.Maps
attribute [local go_sem ↓] Go.wp_at_zero Go.wp_at_succ

theorem RowV.below {w w' : World} {b n : Nat} {t : TypeId} {f : Nat → Value} (h : RowV w b t n f) (hb : Below w.heap.size w w') : RowV w' b t n f := h.block (hb.block b h.lt)
/-- A slice of N rows of numbers. -/
def NearR (w : World) (ao : Option Addr) (N : Nat) (ls : Nat → List Nat) : Prop :=
  ∀ i, i < N → ∃ g xo xc, ao = some ⟨g, 0, none⟩ ∧ w.cell? ⟨g, i, none⟩ = some (.slice xo (ls i).length xc) ∧ ∀ k u : Nat, (ls i)[k]? = some u → ∃ b, xo = some ⟨b, 0, none⟩ ∧ w.cell? ⟨b, k, none⟩ = some (.int .i64 (u : Int))
theorem NearR.below {w w' : World} {ao : Option Addr} {N : Nat} {ls : Nat → List Nat} (h : NearR w ao N ls) (hb : Below w.heap.size w w') : NearR w' ao N ls := fun i hi => by
  obtain ⟨g, xo, xc, h1, h2, h3⟩ := h i hi
  refine ⟨g, xo, xc, h1, (hb.cell (by exact World.block_lt_of_cell? w _ h2)).trans h2, fun k u hu => ?_⟩
  obtain ⟨b, h4, h5⟩ := h3 k u hu
  exact ⟨b, h4, (hb.cell (by exact World.block_lt_of_cell? w _ h5)).trans h5⟩
/-- What the rows tell. -/
structure Rows (N : Nat) (ls : Nat → List Nat) (e : Nat → Nat → Bool) : Prop where
  lt : ∀ u x, u < N → x ∈ ls u → x < N
  has : ∀ u x, u < N → x < N → (x ∈ ls u ↔ e u x = true)
  len : ∀ u, u < N → (ls u).length ≤ 1000

theorem bfs_dist {N : Nat} {e : Nat → Nat → Bool} {v : Nat} {Q : List Nat} {d : Nat → Nat} (h : Bfs N e allB v Q d Q.length) : Dist N e v (farF Q d) := by
  have inQ : ∀ x dx, farF Q d x = some dx → x ∈ Q ∧ dx = d x := fun x dx hx => by
    unfold farF at hx
    by_cases c : x ∈ Q
    · rw [if_pos c] at hx; cases hx; exact ⟨c, rfl⟩
    · rw [if_neg c] at hx; cases hx
  have hQ : ∀ x, x ∈ Q → farF Q d x = some (d x) := fun x hx => if_pos hx
  have kQ : v ∈ Q := List.mem_of_getElem? h.q0
  refine ⟨by rw [hQ v kQ, h.d0], fun x dx hx hd => ?_, fun a b da ha hb hab hd => ?_⟩
  · obtain ⟨h1, rfl⟩ := inQ x dx hd
    rcases h.par x h1 with rfl | ⟨p, h2, h3, _, h4⟩
    · exact Or.inl ⟨rfl, h.d0⟩
    · exact Or.inr ⟨p, d p, h.lt p h2, h3, hQ p h2, h4⟩
  · obtain ⟨h1, rfl⟩ := inQ a da hd
    have hst : St N e allB a b := ⟨hb, hab, rfl⟩
    have hbQ : b ∈ Q := (h.reach b).2 ((h.star a h1).step hst)
    exact ⟨d b, hQ b hbQ, h.tri h1 hst⟩

/-- One number more at a row's end. -/
theorem wpList_push {W : World} {ops : Array Oper} {rest : List Oper} {o : Oper} {a : Act} {Q : Exit → Act → World → Prop} {base : Nat} {po : Option Addr} {pc : Nat} {l : List Nat} {x : Nat} (hgd : o.guard = none) (s y : Operand)
    (ho : o.op = .call { callee := .builtin .append, args := #[s, y], argTypes := #[29, 29] }) (hs : a.eval s = .slice po l.length pc) (hy : a.eval y = .slice (some ⟨W.heap.size, 0, none⟩) 1 1)
    (hown : W.ownsRow base 3 1 (.slice po l.length pc) l.length (qv l)) (hl : l.length ≤ 1000000) (hbase : base ≤ W.heap.size)
    (h : ∀ v' w', w'.ownsRow base 3 1 v' (l ++ [x]).length (qv (l ++ [x])) → (W.alloc (Obj.cells #[.int .i64 (x : Int)] 3)).grownBy w' (Value.slice po l.length pc).ownBlock → wpList Try.prog ops Q rest (a.put o.dst v') w') :
    wpList Try.prog ops Q (o :: rest) a (W.alloc (Obj.cells #[.int .i64 (x : Int)] 3)) := by
  obtain ⟨i3, hi3, hy0, hy1, hy2⟩ := info_parts Try.info3
  refine wpList_append_own _ hgd s y 29 ho base 3 i3 (.int .i64 0) 1 8 Try.underlying29 hi3 hy0 hy1 hy2 rfl (by decide) _ _ _ hs (hown.alloc _) ⟨W.heap.size, 0, none⟩ 1 1 [.int .i64 (x : Int)] hy rfl ?_ ?_ ?_ ?_ ?_ ?_
  · exact cell_one_new _ _ _
  · first | rfl | (intro y hy; simp at hy; subst hy; rfl)
  · unfold maxLen; omega
  · omega
  · simp; omega
  · intro v' w' h1 h2 _
    exact h v' w' (by simpa [qv] using h1) h2

theorem take_at {α : Type} {l : List α} {t : Nat} {u : α} (h : l[t]? = some u) : l.take (t + 1) = l.take t ++ [u] := by
  obtain ⟨h1, h2⟩ := List.getElem?_eq_some_iff.1 h
  rw [List.take_succ_eq_append_getElem h1, h2]
theorem farF_push {Q : List Nat} {d : Nat → Nat} {x c : Nat} (hn : x ∉ Q) (z : Nat) : farF (Q ++ [x]) (fun y => if y = x then c else d y) z = if z = x then some c else farF Q d z := by
  unfold farF
  by_cases e : z = x
  · subst e; simp
  · simp [e]

set_option maxRecDepth 4000 in
set_option maxHeartbeats 4000000 in
theorem farFrom_call {w : World} {ao : Option Addr} {N cap : Nat} {ls : Nat → List Nat} {e : Nat → Nat → Bool} (hn : NearR w ao N ls) (hr : Rows N ls e) (hN : N ≤ 100) {v : Nat} (hv : v < N) :
    Calls Try.prog 29 #[.slice ao N cap, .int .i64 (v : Int)] w fun r w' => ∃ b o, r = .returned (.slice (some ⟨b, 0, none⟩) N N) ∧ w.heap.size ≤ b ∧ RowV w' b 3 N (fun x => .int .i64 (farZ (o x))) ∧ Dist N e v o ∧ Below w.heap.size w w' := by
  obtain ⟨i3, hi3, hz0, hz1, hz2⟩ := info_parts Try.info3
  have HNR : Hid _ := hn
  have HRW : Hid _ := hr
  clear hn hr
  go_enter Try.func29, Try.ntmps29
  go_wp2_with (first
    | (at_make; refine wpList_make_full _ rfl _ _ 29 rfl w.heap.size 3 i3 (.int .i64 0) 1 Try.underlying29 hi3 hz0 hz1 .i64 .i64 _ _ N rfl rfl rfl rfl ?_ ?_ ?_ ?_; (rw [hz2]; omega); (unfold maxLen; omega); (omega); intro W1 hmade hg1)
    | go_in)
  have hrow0 := rowV_made rfl hmade
  have hB0 : Below w.heap.size w W1 := (Below.refl _ _).grown hg1 (Nat.le_refl _) (fun k hk => by cases hk)
  clear hmade hg1
  go_loopw [17] (fun i wr => ∃ k : Nat, k ≤ N ∧ i = .int .i64 (k : Int) ∧ RowV wr w.heap.size 3 N (fun x => if x < k then .int .i64 (-1) else .int .i64 0) ∧ Below w.heap.size w wr) (fun i _ => N - (numOf i).toNat)
  case atStart => exact ⟨0, Nat.zero_le _, rfl, hrow0.congr (fun j _ => by simp), hB0⟩
  case round =>
    obtain ⟨k, hk, rfl, hrow, hB⟩ := hrel
    clear hrow0 hB0
    by_cases hkN : k < N
    · have ck := hrow.cell hkN
      have fk := hrow.free k
      have i1 : (0 : Int) ≤ (k : Int) := by omega
      have i2 : (k : Int) < (N : Int) := by omega
      go_wp2
      go_roundw
      case rel =>
        refine ⟨k + 1, by omega, by go_num, (hrow.set k (.int .i64 (-1))).congr (fun j _ => ?_), hB.setCell (Nat.le_refl _) _⟩
        by_cases e : j = k
        · subst e; simp
        · by_cases h : j < k
          · rw [if_neg e, if_pos h, if_pos (by omega)]
          · rw [if_neg e, if_neg h, if_neg (by omega)]
      case measure => simp [numOf]; omega
    · have hke : N = k := by omega
      subst hke
      have cv := hrow.cell hv
      have fv := hrow.free v
      have i1 : (0 : Int) ≤ (v : Int) := by omega
      have i2 : (v : Int) < (N : Int) := by omega
      go_upto_region 8 with (fail)
      have hrow1 := (hrow.set v (.int .i64 0)).congr (g := fun x => .int .i64 (farZ (farF [v] (fun _ => 0) x))) (fun j hj => by
        by_cases e : j = v
        · subst e; simp [farZ, farF]
        · simp [e, hj, farZ, farF])
      have hB1 := hB.setCell (p := ⟨w.heap.size, v, none⟩) (Nat.le_refl _) (.int .i64 0)
      generalize wr.setCell ⟨w.heap.size, v, none⟩ (.int .i64 0) = W2 at hrow1 hB1 ⊢
      clear cv fv i1 i2 hrow hB
      go_upto_region 9 with (fail)
      have hq0 : (W2.alloc (Obj.cells #[.int .i64 (v : Int)] 3)).ownsRow (w.heap.size + 1) 3 1 (.slice (some ⟨W2.heap.size, 0, none⟩) 1 1) 1 (qv [v]) := ownsRow_one W2 _ _ 3 (by have := hrow1.lt; omega)
      have hrow2 := hrow1.below (below_alloc (Below.refl _ W2) (Obj.cells #[.int .i64 (v : Int)] 3))
      have hB2 := hB1.alloc hB1.size (Obj.cells #[.int .i64 (v : Int)] 3)
      generalize W2.heap.size = bq at hq0 ⊢
      generalize W2.alloc (Obj.cells #[.int .i64 (v : Int)] 3) = W3 at hq0 hrow2 hB2 ⊢
      clear hrow1 hB1
      have hbfs : Bfs N e allB v [v] (fun _ => 0) 0 := bfs_start hv
      have HBF : Hid _ := hbfs
      clear hbfs
      go_wp2
      go_loopw [7, 8] (fun q i wr => ∃ (k : Nat) (Q : List Nat) (d : Nat → Nat), k ≤ Q.length ∧ i = .int .i64 (k : Int) ∧ Bfs N e allB v Q d k ∧ wr.ownsRow (w.heap.size + 1) 3 1 q Q.length (qv Q) ∧ RowV wr w.heap.size 3 N (fun x => .int .i64 (farZ (farF Q d x))) ∧ Below w.heap.size w wr) (fun _ i _ => N - (numOf i).toNat)
      case atStart => exact ⟨0, [v], fun _ => 0, Nat.zero_le _, rfl, HBF.out, hq0, hrow2, hB2⟩
      case round =>
        obtain ⟨k, Q, d, hk, rfl, hbf, hq, hrow, hB⟩ := hrel
        clear hq0 hrow2 hB2 HBF
        obtain ⟨qo, qc, rfl⟩ := form_row hq
        have hQN := hbf.len
        by_cases hkQ : k < Q.length
        · obtain ⟨u, hu?⟩ : ∃ u, Q[k]? = some u := ⟨Q[k], List.getElem?_eq_getElem hkQ⟩
          have huN := hbf.lt u (List.mem_of_getElem? hu?)
          obtain ⟨gq, e1, cq⟩ := qcell hq hu?
          cases e1
          obtain ⟨g, xo, xc, rfl, g0w, g1w⟩ := HNR.out u huN
          have g0 := (hB.cell (by exact World.block_lt_of_cell? w _ g0w)).trans g0w
          have HG1 : Hid _ := g1w
          have i1 : (0 : Int) ≤ (k : Int) := by omega
          have i2 : (k : Int) < (Q.length : Int) := by omega
          have i3 : (0 : Int) ≤ (u : Int) := by omega
          have i4 : (u : Int) < (N : Int) := by omega
          have hln := HRW.out.len u huN
          have HU : Hid _ := hu?
          have HBF : Hid _ := hbf
          clear hu? hbf g1w g0w
          go_wp2
          clear g0 cq
          go_loopw [7, 44] (fun q i wr => ∃ (t : Nat) (Q' : List Nat) (d' : Nat → Nat), t ≤ (ls u).length ∧ i = .int .i64 (t : Int) ∧ Bfs N e allB v Q' d' k ∧ Q'[k]? = some u ∧ (∀ x, x ∈ (ls u).take t → x ∈ Q' ∧ d' x ≤ d' u + 1) ∧ wr.ownsRow (w.heap.size + 1) 3 1 q Q'.length (qv Q') ∧ RowV wr w.heap.size 3 N (fun x => .int .i64 (farZ (farF Q' d' x))) ∧ Below w.heap.size w wr) (fun _ i _ => (ls u).length - (numOf i).toNat)
          case atStart => exact ⟨0, Q, d, Nat.zero_le _, rfl, HBF.out, HU.out, fun x hx => by simp at hx, hq, hrow, hB⟩
          case round =>
            obtain ⟨t, Q', d', ht, rfl, hbf', hu', hdn, hq', hrow', hB'⟩ := hrel
            clear hq hrow hB
            obtain ⟨qo', qc', rfl⟩ := form_row hq'
            have hQN' := hbf'.len
            have HB' : Hid _ := hbf'
            have HU' : Hid _ := hu'
            have HD' : Hid _ := hdn
            clear hbf' hu' hdn
            by_cases htl : t < (ls u).length
            · obtain ⟨x, hx?⟩ : ∃ x, (ls u)[t]? = some x := ⟨(ls u)[t], List.getElem?_eq_getElem htl⟩
              have hxl := List.mem_of_getElem? hx?
              have hxN := HRW.out.lt u x huN hxl
              have hex := (HRW.out.has u x huN hxN).1 hxl
              obtain ⟨bx, rfl, c1⟩ := HG1.out t x hx?
              rw [← hB'.cell (by exact World.block_lt_of_cell? w _ c1)] at c1
              have HX : Hid _ := hx?
              have HEX : Hid _ := hex
              clear hx? hxl hex
              have j1 : (0 : Int) ≤ (t : Int) := by omega
              have j2 : (t : Int) < ((ls u).length : Int) := by omega
              have j3 : (0 : Int) ≤ (x : Int) := by omega
              have j4 : (x : Int) < (N : Int) := by omega
              have cx := hrow'.cell hxN
              have cu := hrow'.cell huN
              have fx := hrow'.free x
              have huQ : u ∈ Q' := List.mem_of_getElem? HU'.out
              have zu : farZ (farF Q' d' u) = (d' u : Int) := by rw [farF, if_pos huQ]; rfl
              rw [zu] at cu
              by_cases hxQ : x ∈ Q'
              · have zx : ¬ farZ (farF Q' d' x) < 0 := fun h => by
                  rw [farZ_neg, farF, if_pos hxQ] at h
                  cases h
                have hdn2 : ∀ y, y ∈ (ls u).take (t + 1) → y ∈ Q' ∧ d' y ≤ d' u + 1 := fun y hy => by
                  rw [take_at HX.out] at hy
                  rcases List.mem_append.1 hy with hy | hy
                  · exact HD'.out y hy
                  · simp at hy
                    subst hy
                    exact ⟨hxQ, HB'.out.near u y HU'.out hxQ⟩
                have HD2 : Hid _ := hdn2
                clear hdn2 hxQ huQ zu
                go_wp2
                go_roundw
                case rel => exact ⟨t + 1, Q', d', by omega, by go_num, HB'.out, HU'.out, HD2.out, hq', hrow', hB'⟩
                case measure => simp [numOf]; omega
              · have zx : farZ (farF Q' d' x) < 0 := by rw [farZ_neg, farF, if_neg hxQ]
                have hdu := HB'.out.far u huQ
                have hpush := HB'.out.push HU'.out hxN HEX.out rfl hxQ
                have hux : u ≠ x := fun h => hxQ (h ▸ huQ)
                have hdn2 : ∀ y, y ∈ (ls u).take (t + 1) → y ∈ Q' ++ [x] ∧ (if y = x then d' u + 1 else d' y) ≤ (if u = x then d' u + 1 else d' u) + 1 := fun y hy => by
                  rw [if_neg hux]
                  rw [take_at HX.out] at hy
                  by_cases c : y = x
                  · subst c; simp
                  · rw [if_neg c]
                    rcases List.mem_append.1 hy with hy | hy
                    · have := HD'.out y hy
                      exact ⟨by simp [this.1], this.2⟩
                    · simp at hy; exact absurd hy c
                have hget : (Q' ++ [x])[k]? = some u := by
                  rw [List.getElem?_append_left (List.getElem?_eq_some_iff.1 HU'.out).1]; exact HU'.out
                have hfp := farF_push (d := d') (c := d' u + 1) hxQ
                have HP : Hid _ := hpush
                have HD2 : Hid _ := hdn2
                have HGT : Hid _ := hget
                have HFP : Hid _ := hfp
                have hlq : Q'.length < N := by
                  have := hpush.len
                  simp at this
                  omega
                clear hpush hdn2 hget hfp hxQ huQ hux zu
                go_upto_region 18 with (fail)
                have hrowS := (hrow'.set x (.int .i64 ((d' u : Int) + 1))).congr (g := fun z => .int .i64 (farZ (farF (Q' ++ [x]) (fun y => if y = x then d' u + 1 else d' y) z))) (fun z _ => by
                  rw [HFP.out z]
                  by_cases c : z = x
                  · subst c; simp [farZ]
                  · simp [c])
                have hqS := ownsRow_blocks hq' (w' := wr.setCell ⟨w.heap.size, x, none⟩ (.int .i64 ((d' u : Int) + 1))) (fun b hb => Below.heap_setCell _ _ _ _ (fun hh => by
                  have hh' : b = w.heap.size := hh
                  have := (hq'.lt b hb).1
                  omega))
                have hBS := hB'.setCell (p := ⟨w.heap.size, x, none⟩) (Nat.le_refl _) (.int .i64 ((d' u : Int) + 1))
                generalize wr.setCell ⟨w.heap.size, x, none⟩ (.int .i64 ((d' u : Int) + 1)) = wy at hrowS hqS hBS ⊢
                clear cx cu fx hq' hrow' hB' zx c1
                have hsz := hrowS.lt
                go_wp2_with (first
                  | (at_builtin; refine wpList_push (x := x) rfl _ _ rfl rfl rfl hqS (by omega) (by omega) ?_; intro v' w3 hown1 hgr1)
                  | go_in)
                have T1 := (alloc_turns wy (Obj.cells #[.int .i64 (x : Int)] 3) _).trans (Turns.of_grown hgr1)
                have hB3 := T1.below hBS hBS.size (fun j hj => by have := (hqS.lt j hj.symm).1; omega)
                have hrow3 := RowV.block hrowS (w' := w3) (T1.block _ (RowV.lt hrowS) (fun hh => by have := (hqS.lt _ hh.symm).1; omega))
                go_roundw
                case rel => exact ⟨t + 1, Q' ++ [x], _, by omega, by go_num, HP.out, HGT.out, HD2.out, hown1, hrow3, hB3⟩
                case measure => simp [numOf]; omega
            · have hte : (ls u).length = t := by omega
              subst hte
              have hnext := HB'.out.next HU'.out (fun x hx hex _ => HD'.out x (by rw [List.take_length]; exact (HRW.out.has u x huN hx).2 hex))
              have hkl : k < Q'.length := (List.getElem?_eq_some_iff.1 HU'.out).1
              have HN2 : Hid _ := hnext
              clear hnext
              go_wp2
              go_roundw
              case rel => exact ⟨k + 1, Q', d', by omega, by go_num, HN2.out, hq', hrow', hB'⟩
              case measure => simp [numOf]; omega
        · have hke : k = Q.length := by omega
          subst hke
          have hD := bfs_dist hbf
          have HD : Hid _ := hD
          clear hD hbf
          go_wp2
          go_ret
          exact ⟨_, _, rfl, Nat.le_refl _, hrow, HD.out, hB⟩
end Go.Proofs.Ytkbgcbbloogdjac
