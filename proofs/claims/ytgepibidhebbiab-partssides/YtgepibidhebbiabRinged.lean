/- ringed: of each edge some that are in one ring with it. -/
import Derived.Test.YtgepibidhebbiabLinks
import Derived.Test.YtgepibidhebbiabComps
namespace Go.Proofs.Ytgepibidhebbiab
open Go.RowKit Go.Maps
attribute [local go_sem ↓] Go.wp_at_zero Go.wp_at_succ

/-- How the memory stands while ringed goes on. -/
structure RI (w wr : World) (m : Nat) (es : List Pair) (eo : Option Addr) (cap bn : Nat) (na : Option Addr) (bl1 : Nat → Nat) (la : Option Addr) (bl2 : Nat → Nat) (lk : Nat → Nat → Bool) : Prop where
  box : Two wr w.heap.size (.int .i64 (m : Int)) (.slice eo es.length cap) 24
  num : NumAt wr bn es es.length
  near : NearsAt wr na m bl1 (bothB es)
  link : NearsAt wr la es.length bl2 lk
  below : Below w.heap.size w wr
  neN : ∀ i, i < es.length → bn ≠ bl2 i
  neL : ∀ i j, i < es.length → j < m → bl1 j ≠ bl2 i
  ge : ∀ i, i < es.length → w.heap.size < bl2 i

theorem NearsAt.fresh {M : Nat → Prop} {w w' : World} {ao : Option Addr} {n : Nat} {bl : Nat → Nat} {e : Nat → Nat → Bool} (h : NearsAt w ao n bl e) (ht : Turns M w w') (hm : ∀ k, M k → w.heap.size ≤ k) : NearsAt w' ao n bl e := by
  refine ⟨h.inj, fun i hi => ?_, fun i hi => (h.sets i hi).turns ht (fun h' => by have := hm _ h'; have := (h.sets i hi).lt; omega)⟩
  obtain ⟨g, e1, c⟩ := h.row i hi
  have hl := World.block_lt_of_cell? w _ c
  exact ⟨g, e1, cell_turns c ht (fun h' => by have := hm _ h'; omega)⟩
/-- Other sets are filled. -/
theorem NearsAt.marks {M : Nat → Prop} {w w' : World} {ao : Option Addr} {n : Nat} {bl : Nat → Nat} {e : Nat → Nat → Bool} (h : NearsAt w ao n bl e) (ht : Turns M w w') (hm : ∀ k, M k → ∃ ms c, w.heap[k]? = some (.map ms c)) (hb : ∀ i, i < n → ¬ M (bl i)) : NearsAt w' ao n bl e := by
  refine ⟨h.inj, fun i hi => ?_, fun i hi => (h.sets i hi).turns ht (hb i hi)⟩
  obtain ⟨g, e1, c⟩ := h.row i hi
  refine ⟨g, e1, cell_turns c ht (fun h' => ?_)⟩
  obtain ⟨ms, ck, hc⟩ := hm _ h'
  simp [World.cell?, hc] at c

theorem RI.turns {M : Nat → Prop} {w wr wr' : World} {m : Nat} {es : List Pair} {eo : Option Addr} {cap bn : Nat} {na : Option Addr} {bl1 : Nat → Nat} {la : Option Addr} {bl2 : Nat → Nat} {lk : Nat → Nat → Bool} (h : RI w wr m es eo cap bn na bl1 la bl2 lk) (ht : Turns M wr wr') (hm : ∀ k, M k → wr.heap.size ≤ k) : RI w wr' m es eo cap bn na bl1 la bl2 lk := by
  have hs := h.below.size
  have lt1 := lt_of_block h.box
  refine ⟨two_turns h.box ht (fun h' => by have := hm _ h'; omega), h.num.turns ht (fun h' => by have := hm _ h'; have := h.num.lt; omega), h.near.fresh ht hm, h.link.fresh ht hm, ht.below h.below hs (fun k hk => by have := hm k hk; omega), h.neN, h.neL, h.ge⟩
theorem RI.below' {w wr wr' : World} {m : Nat} {es : List Pair} {eo : Option Addr} {cap bn : Nat} {na : Option Addr} {bl1 : Nat → Nat} {la : Option Addr} {bl2 : Nat → Nat} {lk : Nat → Nat → Bool} (h : RI w wr m es eo cap bn na bl1 la bl2 lk) (hb : Below wr.heap.size wr wr') : RI w wr' m es eo cap bn na bl1 la bl2 lk := h.turns (Turns.of_below hb (fun _ => False)) (fun _ h => h.elim)
theorem RI.marks {w wr : World} {m : Nat} {es : List Pair} {eo : Option Addr} {cap bn : Nat} {na : Option Addr} {bl1 : Nat → Nat} {la : Option Addr} {bl2 : Nat → Nat} {lk : Nat → Nat → Bool} (h : RI w wr m es eo cap bn na bl1 la bl2 lk) : ∀ k, Marks es.length bl2 k → ∃ ms c, wr.heap[k]? = some (.map ms c) := by
  rintro k ⟨i, hi, rfl⟩
  exact (h.link.sets i hi).isMap
theorem RI.join {w wr wr' : World} {m : Nat} {es : List Pair} {eo : Option Addr} {cap bn : Nat} {na : Option Addr} {bl1 : Nat → Nat} {la : Option Addr} {bl2 : Nat → Nat} {lk lk' : Nat → Nat → Bool} (h : RI w wr m es eo cap bn na bl1 la bl2 lk) (hl : NearsAt wr' la es.length bl2 lk') (ht : Turns (Marks es.length bl2) wr wr') : RI w wr' m es eo cap bn na bl1 la bl2 lk' := by
  refine ⟨two_turns h.box ht (fun h' => ?_), h.num.turns ht (fun ⟨i, hi, e⟩ => h.neN i hi e), h.near.marks ht h.marks (fun j hj ⟨i, hi, e⟩ => h.neL i j hi hj e), hl, ht.below h.below h.below.size (fun k ⟨i, hi, e⟩ => by have := h.ge i hi; omega), h.neN, h.neL, h.ge⟩
  obtain ⟨ms, c, hc⟩ := h.marks _ h'
  have := h.box
  unfold Two at this
  rw [hc] at this; cases this

theorem ListsAt.at {w : World} {base : Nat} {ao : Option Addr} {n cap : Nat} {ls : List (List Nat)} (h : ListsAt w base (.slice ao n cap) ls) {q : Nat} {l : List Nat} (hq : ls[q]? = some l) : ∃ g xo xc, ao = some ⟨g, 0, none⟩ ∧ w.cell? ⟨g, q, none⟩ = some (.slice xo l.length xc) ∧ w.ownsRow base 3 1 (.slice xo l.length xc) l.length (qv l) := by
  obtain ⟨vs, h1, h2, h3⟩ := h
  have hl := (List.getElem?_eq_some_iff.1 hq).1
  obtain ⟨x, hx⟩ : ∃ x, vs[q]? = some x := ⟨vs[q]'(by omega), List.getElem?_eq_getElem (by omega)⟩
  have hr := h3 q x l hx hq
  obtain ⟨xo, xc, rfl⟩ := form_row hr
  rcases h2.2 with ⟨_, e⟩ | ⟨g, c, cur, e, _⟩
  · omega
  · cases e
    refine ⟨g, xo, xc, rfl, ?_, hr⟩
    have := h2.cells (g := g) rfl q _ hx
    rw [add_none] at this
    exact this
theorem ownsRow_marks {M : Nat → Prop} {w w' : World} {base : Nat} {t : TypeId} {x : Value} {n : Nat} {xs : List Value} (ho : w.ownsRow base t 1 x n xs) (ht : Turns M w w') (hm : ∀ k, M k → ∃ es c, w.heap[k]? = some (.map es c)) : w'.ownsRow base t 1 x n xs := by
  refine ownsRow_blocks ho fun b hb => ht.block b (ho.lt b hb).2 fun hmb => ?_
  obtain ⟨es, c, h'⟩ := hm b hmb
  obtain ⟨cur, hc⟩ := own_cells ho hb
  rw [hc] at h'; cases h'
theorem cast_min (u v : Nat) : ((min u v : Nat) : Int) = min (u : Int) (v : Int) := by omega
theorem cast_max (u v : Nat) : ((max u v : Nat) : Int) = max (u : Int) (v : Int) := by omega

set_option maxHeartbeats 4000000 in
theorem ringed_call (m : Nat) (eo : Option Addr) (cap : Nat) (es : List Pair) (w : World) (hE : EdgesAt w (.slice eo es.length cap) es) (hm : m ≤ 100) (hl : es.length ≤ 1000) (hf : Formed m es) :
    Calls Try.prog 45 #[.agg #[.int .i64 (m : Int), .slice eo es.length cap]] w fun r w' => ∃ la bl2 lk, r = .returned (.slice la es.length es.length) ∧ NearsAt w' la es.length bl2 lk ∧ Lks m es lk ∧ EstAll m es lk m ∧ (∀ i, i < es.length → w.heap.size < bl2 i) ∧ Below w.heap.size w w' := by
  have hmm := @run_makeMap Try.prog
  obtain ⟨eo', cap', e0, hl2, hI, hcells⟩ := id hE
  cases e0
  have hI' : ∀ (i : Nat) (u v : Int), es[i]? = some (u, v) → I64 u ∧ I64 v := fun i u v h => hI _ (List.mem_of_getElem? h)
  have hgood : ∀ e ∈ es, 0 ≤ e.1 ∧ e.1 < m ∧ 0 ≤ e.2 ∧ e.2 < m := fun e he => by
    obtain ⟨i, hi⟩ := List.mem_iff_getElem?.1 he
    obtain ⟨x, y, rfl, h1, h2⟩ := hf.ok i e hi
    simp; omega
  have HE : Hid _ := hE
  have HF : Hid _ := hf
  have HI : Hid _ := hI'
  have HG : Hid _ := hgood
  have HC : Hid _ := hcells
  clear hE hf hI hI' hgood hcells
  go_enter Try.func45, Try.ntmps45
  go_upto_region 2 with (fail)
  have t1 : Two ((w.alloc (Obj.cells #[.int .i64 (m : Int), .slice eo es.length cap] 24)).alloc (.map #[] 0)) w.heap.size (.int .i64 (m : Int)) (.slice eo es.length cap) 24 := two_alloc (two_new w _ _ _) _
  have hn1 := numAt_made (w.alloc (Obj.cells #[.int .i64 (m : Int), .slice eo es.length cap] 24)) es
  have hB1 : Below w.heap.size w ((w.alloc (Obj.cells #[.int .i64 (m : Int), .slice eo es.length cap] 24)).alloc (.map #[] 0)) := below2 _ _
  have e1 : (w.alloc (Obj.cells #[.int .i64 (m : Int), .slice eo es.length cap] 24)).heap.size = w.heap.size + 1 := by simp
  rw [e1] at hn1
  generalize (w.alloc (Obj.cells #[.int .i64 (m : Int), .slice eo es.length cap] 24)).alloc (.map #[] 0) = W1 at t1 hn1 hB1 ⊢
  clear e1 hmm
  obtain ⟨y1, y2⟩ := cell_two t1
  go_wp2
  clear y1 y2
  go_loopw [21] (fun i wr => ∃ k : Nat, k ≤ es.length ∧ i = .int .i64 (k : Int) ∧ NumAt wr (w.heap.size + 1) es k ∧ Two wr w.heap.size (.int .i64 (m : Int)) (.slice eo es.length cap) 24 ∧ Below w.heap.size w wr) (fun i _ => es.length - (numOf i).toNat)
  case atStart => exact ⟨0, Nat.zero_le _, rfl, hn1, t1, hB1⟩
  case round =>
    obtain ⟨k, hk, rfl, hnum, tbox, hB⟩ := hrel
    clear hn1 t1 hB1
    by_cases hlt : k < es.length
    · obtain ⟨b, off, rfl, cx, cy⟩ := HC.out k hlt
      obtain ⟨x, y, hxy⟩ : ∃ x y, es[k] = (x, y) := ⟨es[k].1, es[k].2, rfl⟩
      rw [hxy] at cx cy
      have hb := World.block_lt_of_cell? w _ cx
      rw [← hB.cell (by exact hb)] at cx cy
      have hk? : es[k]? = some (x, y) := by rw [List.getElem?_eq_getElem hlt, hxy]
      have hIxy := HI.out k x y hk?
      obtain ⟨w2, hrun, hn2, ht2⟩ := NumAt.store HF.out (hnum.turns (alloc_turns wr (Obj.cells #[.int .i64 x, .int .i64 y] 63) (fun _ => False)) (fun h => h)) hk? hIxy.1 hIxy.2 (by omega) HI.out
      clear hxy hk? hIxy
      go_wp2
      go_roundw
      case rel =>
        have T2 := (alloc_turns wr (Obj.cells #[.int .i64 x, .int .i64 y] 63) (fun j => j = w.heap.size + 1)).trans (turned_turns ht2)
        exact ⟨k + 1, by omega, by go_num, hn2, two_turns tbox T2 (by omega), T2.below hB hB.size (fun j hj => by omega)⟩
      case measure => simp [numOf]; omega
    · have hke : k = es.length := by omega
      subst hke
      obtain ⟨y1, y2⟩ := cell_two tbox
      have hsz := hB.size
      go_wp2_with (first
        | (go_at_call 37; refine (bothWays_call m _ es _ ?_ (by omega) HG.out).mono ?_; exact EdgesAt.below HE.out hB; rintro r wa ⟨na, rfl, hna, bl1, hN1, hbl1, hb1⟩; have tA := two_next tbox hb1; obtain ⟨z1, z2⟩ := cell_two tA)
        | (go_at_call 58; refine (empties_call es.length _ (by omega)).mono ?_; rintro r wb ⟨la, rfl, hla, bl2, hN2, hbl2, hb2⟩; have tB := two_next tA hb2; obtain ⟨z3, z4⟩ := cell_two tB))
      have hri : RI w wb m es eo cap (w.heap.size + 1) na bl1 la bl2 (fun _ _ => false) := by
        have s1 := hb1.size
        have l1 := hnum.lt
        refine ⟨tB, (hnum.block (hb1.block _ l1)).block (hb2.block _ (by omega)), hN1.below hb2, hN2, below_next (below_next hB hb1) hb2, fun i hi e => by have := hbl2 i hi; omega, fun i j hi hj e => by have := hbl2 i hi; have := (hN1.sets j hj).lt; omega, fun i hi => by have := hbl2 i hi; omega⟩
      clear y1 y2 z1 z2 z3 z4 tA tB hN1 hN2 hb1 hb2 hbl1 hbl2 tbox hnum hB hsz hna hla
      go_loopw [41] (fun i wr => ∃ v : Nat, v ≤ m ∧ i = .int .i64 (v : Int) ∧ ∃ lk, RI w wr m es eo cap (w.heap.size + 1) na bl1 la bl2 lk ∧ Lks m es lk ∧ EstAll m es lk v) (fun i _ => m - (numOf i).toNat)
      case atStart => exact ⟨0, Nat.zero_le _, rfl, _, hri, ⟨fun _ _ h => (by cases h), fun _ _ h => (by cases h)⟩, fun v _ _ _ _ h => by omega⟩
      case round =>
        obtain ⟨v, hv, rfl, lk, hri2, hlks, hest⟩ := hrel
        clear hri
        by_cases hvm : v < m
        · obtain ⟨y1, y2⟩ := cell_two hri2.box
          obtain ⟨R, hR⟩ := ex2 (fun x y => Star (St m (bothB es) (notB v)) x y)
          have HR : Hid _ := hR
          have HL : Hid _ := hlks
          have HS : Hid _ := hest
          clear hR hlks hest
          have hm6 : m ≤ 1000000 := by omega
          go_wp2_with (first
            | (go_at_call 38; refine (all_call m _ (by omega)).mono ?_; rintro r wa ⟨bL, rfl, hbL, hS1, hb1⟩; obtain ⟨DL, hownL, hhasL⟩ := hS1)
            | (at_delete; refine wpList_delete_own _ rfl _ _ 72 3 rfl 108 Try.lawI Try.underlying72 _ bL m DL rfl hownL _ _ rfl (hkeyI (natI hm6 hvm)) ?_; intro wb hownb hturnb; have hSb := setN_del (S := allB) hhasL hownb; have Tb := (Turns.of_below hb1 (fun k => k = bL)).trans (turned_turns hturnb); have hriB := hri2.turns Tb (fun k hk => by omega))
            | (go_at_call 36; refine (pieces_call hriB.near (hSb.congr (T := notB v) (fun k _ => by simp [notB, allB])) (fun i hi e => by have := (hri2.near.sets i hi).lt; omega) (by omega) (bothB_symm es m) R HR.out).mono ?_; rintro r wc ⟨vp, rfl, hls, htc⟩; obtain ⟨po, pc, rfl⟩ := hls.form)
            | go_in)
          have Tc := Tb.trans htc
          have hriC := hri2.turns Tc (fun k hk => by omega)
          obtain ⟨PL, hPL⟩ : ∃ PL, PL = piecesS m (notB v) R := ⟨_, rfl⟩
          rw [← hPL] at hls ⊢
          have hle : PL.length ≤ m := by rw [hPL]; exact piecesTo_le _ _ _ _
          obtain ⟨base, hbase⟩ : ∃ base, base = wb.heap.size := ⟨_, rfl⟩
          rw [← hbase] at hls
          have HP : Hid _ := hPL
          clear hPL hbase Tc Tb htc hriB hSb hownb hturnb hownL hhasL hb1 hri2 y1 y2
          go_loopw [53] (fun i wr => ∃ q : Nat, q ≤ PL.length ∧ i = .int .i64 (q : Int) ∧ ∃ lk3, RI w wr m es eo cap (w.heap.size + 1) na bl1 la bl2 lk3 ∧ Lks m es lk3 ∧ Sub lk lk3 ∧ ListsAt wr base (.slice po PL.length pc) PL ∧ ∀ (q' : Nat) (l : List Nat), q' < q → PL[q']? = some l → Est es lk3 v l) (fun i _ => PL.length - (numOf i).toNat)
          case atStart => exact ⟨0, Nat.zero_le _, rfl, lk, hriC, HL.out, Sub.refl _, hls, fun q' l h => by omega⟩
          case round =>
            obtain ⟨q, hq, rfl, lk3, hri3, hl3, hsub3, hls3, hest3⟩ := hrel
            have HL3 : Hid _ := hl3
            have HE3 : Hid _ := hest3
            clear hriC hls hl3 hest3
            by_cases hqlt : q < PL.length
            · obtain ⟨l, hq?⟩ : ∃ l, PL[q]? = some l := ⟨PL[q], List.getElem?_eq_getElem hqlt⟩
              obtain ⟨g, xo, xc, rfl, cg, hrow⟩ := hls3.at hq?
              have HQ : Hid _ := hq?
              clear hq?
              have hll : l.length ≤ m := by
                have h1 := List.mem_of_getElem? HQ.out
                rw [HP.out] at h1
                simp only [piecesS, piecesTo, List.mem_map] at h1
                obtain ⟨r, _, rfl⟩ := h1
                exact Nat.le_trans (List.length_filter_le _ _) (by simp)
              go_wp2
              clear cg
              go_loopw [12, 59] (fun last i wr => ∃ t : Nat, t ≤ l.length ∧ i = .int .i64 (t : Int) ∧ ∃ (z : Int) (lk4 : Nat → Nat → Bool), last = .int .i64 z ∧ RI w wr m es eo cap (w.heap.size + 1) na bl1 la bl2 lk4 ∧ Lks m es lk4 ∧ Sub lk3 lk4 ∧ ListsAt wr base (.slice (some ⟨g, 0, none⟩) PL.length pc) PL ∧ wr.ownsRow base 3 1 (.slice xo l.length xc) l.length (qv l) ∧ Chain es lk4 v l t z) (fun _ i _ => l.length - (numOf i).toNat)
              case atStart => exact ⟨0, Nat.zero_le _, rfl, -1, lk3, rfl, hri3, HL3.out, Sub.refl _, hls3, hrow, chain_start _ _ _ _⟩
              case round =>
                obtain ⟨t, ht, rfl, z, lk4, rfl, hri4, hl4, hsub4, hls4, hrow4, hch⟩ := hrel
                clear hri3 hls3 hrow
                have HL4 : Hid _ := hl4
                have HCH : Hid _ := hch
                clear hl4 hch
                by_cases htl : t < l.length
                · obtain ⟨u, hu?⟩ : ∃ u, l[t]? = some u := ⟨l[t], List.getElem?_eq_getElem htl⟩
                  obtain ⟨gx, rfl, cu⟩ := qcell hrow4 hu?
                  have hPQ : (piecesS m (notB v) R)[q]? = some l := by rw [← HP.out]; exact HQ.out
                  have hum : u < m := (piece_con HF.out HR.out hPQ (List.mem_of_getElem? hu?) (List.mem_of_getElem? hu?)).1
                  have HU : Hid _ := hu?
                  have HPQ : Hid _ := hPQ
                  clear hu? hPQ
                  have i1 : (0 : Int) ≤ (t : Int) := by omega
                  have i2 : (t : Int) < (l.length : Int) := by omega
                  have hI1 : I64 (min (u : Int) (v : Int)) := ⟨by omega, by omega⟩
                  have hI2 : I64 (max (u : Int) (v : Int)) := ⟨by omega, by omega⟩
                  by_cases hex : ∃ i : Nat, i < es.length ∧ es[i]? = some (min (u : Int) (v : Int), max (u : Int) (v : Int))
                  · obtain ⟨a, ha, he⟩ := hex
                    have hlook := hri4.num.look hI1 hI2 ha he
                    have hinc : Inc (elf es) a v u := (inc_iff HF.out ha v u).2 (by rw [cast_min, cast_max]; exact he)
                    have HN : Hid _ := hinc
                    clear hinc he
                    by_cases hz : 0 ≤ z
                    · obtain ⟨sn, rfl⟩ : ∃ sn : Nat, z = sn := ⟨z.toNat, by omega⟩
                      obtain ⟨hsn, u0, hu0, hinc0⟩ := Chain.node HCH.out
                      have hlk : LkF m es sn a := ⟨hsn, ha, v, u0, u, hinc0, HN.out, (piece_con HF.out HR.out HPQ.out hu0 (List.mem_of_getElem? HU.out)).2⟩
                      have HK : Hid _ := hlk
                      clear hlk hinc0
                      go_wp2_with (first | (go_at_call 59; refine (join_call hri4.link (by omega) (a := sn) (b := a) hsn ha).mono ?_; rintro r w5 ⟨rfl, hN5, ht5⟩) | go_in)
                      go_roundw
                      case rel => exact ⟨t + 1, by omega, by go_num, a, lkAdd lk4 sn a, rfl, hri4.join hN5 ht5, Lks.add HF.out HL4.out HK.out, hsub4.trans (sub_add _ _ _), hls4.turns ht5 (fun k hk => Or.inr (hri4.marks k hk)), ownsRow_marks hrow4 ht5 hri4.marks, Chain.more HF.out HCH.out HU.out ha HN.out⟩
                      case measure => simp [numOf]; omega
                    · have hz1 : z = -1 := by
                        rcases HCH.out with ⟨h1, _⟩ | ⟨s', _, _, h2, _⟩
                        · exact h1
                        · omega
                      subst hz1
                      go_wp2
                      go_roundw
                      case rel => exact ⟨t + 1, by omega, by go_num, a, lk4, rfl, hri4, HL4.out, hsub4, hls4, hrow4, Chain.first HF.out HCH.out HU.out ha HN.out⟩
                      case measure => simp [numOf]; omega
                  · have hlook := hri4.num.miss hI1 hI2 hex
                    have hno : ∀ i, i < es.length → ¬ Inc (elf es) i v u := fun i hi hinc => hex ⟨i, hi, by have := (inc_iff HF.out hi v u).1 hinc; rw [cast_min, cast_max] at this; exact this⟩
                    have HN : Hid _ := hno
                    clear hno hex
                    go_wp2
                    go_roundw
                    case rel => exact ⟨t + 1, by omega, by go_num, z, lk4, rfl, hri4, HL4.out, hsub4, hls4, hrow4, Chain.skip HCH.out HU.out HN.out⟩
                    case measure => simp [numOf]; omega
                · have : t = l.length := by omega
                  subst this
                  go_wp2
                  go_roundw
                  case rel =>
                    refine ⟨q + 1, by omega, by go_num, lk4, hri4, HL4.out, hsub3.trans hsub4, hls4, fun q' l' hq' hl' => ?_⟩
                    by_cases e : q' = q
                    · subst e
                      rw [HQ.out] at hl'
                      cases hl'
                      exact Chain.done HL4.out HCH.out
                    · exact Est.sub (HE3.out q' l' (by omega) hl') hsub4
                  case measure => simp [numOf]; omega
            · have : q = PL.length := by omega
              subst this
              go_wp2
              go_roundw
              case rel =>
                refine ⟨v + 1, by omega, by go_num, lk3, hri3, HL3.out, EstAll.next HF.out HR.out (EstAll.sub HS.out hsub3) (fun q l hl' => ?_)⟩
                rw [← HP.out] at hl'
                exact HE3.out q l (List.getElem?_eq_some_iff.1 hl').1 hl'
              case measure => simp [numOf]; omega
        · have : v = m := by omega
          subst this
          go_wp2
          go_ret
          exact ⟨la, bl2, lk, rfl, hri2.link, hlks, hest, hri2.ge, hri2.below⟩
end Go.Proofs.Ytgepibidhebbiab
