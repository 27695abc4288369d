/- The document's Built: what deeds build. -/
import Derived.Test.YtfdlndljpmamgaaDeedM
import Derived.Test.YtfdlndljpmamgaaRefW
import Derived.BigQuiet
namespace Go.Proofs.Ytfdlndljpmamgaa
set_option maxRecDepth 8000
open Go.RowKit Go.Maps
attribute [local go_sem ↓] Go.wp_at_zero Go.wp_at_succ
/-- Deeds as they lie in memory. -/
def dv (ds : List Dd) : List Value := ds.flatMap fun d => [.int .i64 (d.k : Int), .string d.a, .string d.b]
theorem dv_length (ds : List Dd) : (dv ds).length = ds.length * 3 := by
  induction ds with
  | nil => rfl
  | cons d ds ih => simp [dv] at ih ⊢; omega
theorem dv_get (ds : List Dd) : ∀ (i : Nat) (d : Dd), ds[i]? = some d → (dv ds)[i * 3]? = some (.int .i64 (d.k : Int)) ∧ (dv ds)[i * 3 + 1]? = some (.string d.a) ∧ (dv ds)[i * 3 + 2]? = some (.string d.b) := by
  induction ds with
  | nil => intro i d h; simp at h
  | cons x ds ih =>
    intro i d h
    cases i with
    | zero => simp at h; subst h; simp [dv]
    | succ i =>
      obtain ⟨h1, h2, h3⟩ := ih i d (by simpa using h)
      have e : dv (x :: ds) = [.int .i64 (x.k : Int), .string x.a, .string x.b] ++ dv ds := rfl
      have e0 : (i + 1) * 3 = i * 3 + 3 := by omega
      rw [e, e0, List.getElem?_append_right (by simp), List.getElem?_append_right (by simp), List.getElem?_append_right (by simp)]
      simp only [List.length_cons, List.length_nil]
      refine ⟨?_, ?_, ?_⟩
      · simpa using h1
      · have : i * 3 + 3 + 1 - (0 + 1 + 1 + 1) = i * 3 + 1 := by omega
        rw [this]; exact h2
      · have : i * 3 + 3 + 2 - (0 + 1 + 1 + 1) = i * 3 + 2 := by omega
        rw [this]; exact h3
/-- Deeds in memory. -/
def DAt (w : World) (v : Value) (ds : List Dd) : Prop := ∃ ao cap, v = .slice ao ds.length cap ∧ ∀ (i : Nat) (d : Dd), ds[i]? = some d → ∃ g, ao = some ⟨g, 0, none⟩ ∧ w.cell? ⟨g, i * 3, none⟩ = some (.int .i64 (d.k : Int)) ∧ w.cell? ⟨g, i * 3 + 1, none⟩ = some (.string d.a) ∧ w.cell? ⟨g, i * 3 + 2, none⟩ = some (.string d.b)
theorem DAt.below {w w' : World} {v : Value} {ds : List Dd} (h : DAt w v ds) (hb : Below w.heap.size w w') : DAt w' v ds := by
  obtain ⟨ao, cap, rfl, h1⟩ := h
  refine ⟨ao, cap, rfl, fun i d hi => ?_⟩
  obtain ⟨g, h2, h3, h4, h5⟩ := h1 i d hi
  exact ⟨g, h2, (hb.cell (World.block_lt_of_cell? w _ h3)).trans h3, (hb.cell (World.block_lt_of_cell? w _ h4)).trans h4, (hb.cell (World.block_lt_of_cell? w _ h5)).trans h5⟩
theorem d_own {w : World} {base : Nat} {v : Value} {ds : List Dd} (h : w.ownsRow base 33 3 v ds.length (dv ds)) : DAt w v ds := by
  rcases h.2 with ⟨rfl, h0⟩ | ⟨g, cap, cur, rfl, _⟩
  · exact ⟨none, 0, by rw [h0], fun i s hi => by have := (List.getElem?_eq_some_iff.1 hi).1; omega⟩
  · refine ⟨_, cap, rfl, fun i d hi => ⟨g, rfl, ?_⟩⟩
    obtain ⟨h1, h2, h3⟩ := dv_get ds i d hi
    have c1 := h.cells (g := g) rfl _ _ h1
    have c2 := h.cells (g := g) rfl _ _ h2
    have c3 := h.cells (g := g) rfl _ _ h3
    rw [add_none] at c1 c2 c3
    exact ⟨c1, c2, c3⟩
structure BuI (w wr : World) (t : Value) (N : List ByteArray) : Prop where
  own : wr.ownsRow (w.heap.size + 1) 9 1 t N.length (sv N)
  b0 : wr.heap[w.heap.size]? = some (.cells #[.int .i64 0, .slice none 0 0] 42 (0, 0))
  below : Below w.heap.size w wr
theorem BuI.step {w wr wr' : World} {t : Value} {N : List ByteArray} (h : BuI w wr t N) (hb : Below wr.heap.size wr wr') : BuI w wr' t N :=
  ⟨ownsRow_blocks h.own fun b hb' => hb.block b (h.own.lt b hb').2, (hb.block _ (lt_of_block h.b0)).trans h.b0, below_next h.below hb⟩
theorem BuI.push {w wr w1 : World} {v v' : Value} {N : List ByteArray} {s : ByteArray} (h : BuI w wr v N) (hown : w1.ownsRow (w.heap.size + 1) 9 1 v' (N.length + 1) (sv N ++ [.string s])) (hg : (wr.alloc (Obj.cells #[.string s] 9)).grownBy w1 v.ownBlock) : BuI w w1 v' (N ++ [s]) := by
  have hn : ∀ k, v.ownBlock = some k → w.heap.size + 1 ≤ k := fun k hk => (h.own.lt k hk).1
  have l0 := lt_of_block h.b0
  refine ⟨by simpa [sv] using hown, ?_, ?_⟩
  · rw [hg.block _ (by simp; omega) (fun e => by have := hn _ e.symm; omega), Below.heap_alloc _ _ _ l0]; exact h.b0
  · exact (h.below.alloc h.below.size _).grown hg (by simp; have := h.below.size; omega) (fun k hk => by have := hn k hk; omega)
theorem sv_snoc (N : List ByteArray) (s : ByteArray) : sv (N ++ [s]) = sv N ++ [.string s] := by simp [sv]
theorem nm_take {ds : List Dd} {k : Nat} {d : Dd} (h : ds[k]? = some d) : nmL (ds.take (k + 1)) = if d.k = 1 then nmL (ds.take k) ++ [d.a] else nmL (ds.take k) := by
  obtain ⟨hk, rfl⟩ := List.getElem?_eq_some_iff.1 h
  rw [List.take_succ_eq_append_getElem hk, nmL_snoc]
theorem nm_le (ds : List Dd) (k : Nat) : (nmL (ds.take k)).length ≤ ds.length := by
  unfold nmL
  have h1 := List.length_filter_le (fun d : Dd => d.k == 1) (ds.take k)
  have h2 := List.length_take_le k ds
  rw [List.length_map]
  have h3 : (ds.take k).length ≤ ds.length := by rw [List.length_take]; omega
  omega
theorem edges_nil (w : World) : EdgesAt w (.slice none 0 0) [] := ⟨none, 0, rfl, by simp, fun e h => (by cases h), fun k h => absurd h (by simp)⟩
structure B2 (w wr : World) (t : Value) (L : List ByteArray) (gv : Value) (bs : List Nat) (p : Nat → Nat → Bool) : Prop where
  bi : BuI w wr t L
  tab : Tab (w.heap.size + 1) wr L.length gv bs p
theorem B2.step {w wr wr' : World} {t gv : Value} {L : List ByteArray} {bs : List Nat} {p : Nat → Nat → Bool} (h : B2 w wr t L gv bs p) (hb : Below wr.heap.size wr wr') : B2 w wr' t L gv bs p := ⟨h.bi.step hb, h.tab.below hb⟩
theorem B2.put {w wr : World} {t gv : Value} {L : List ByteArray} {bs : List Nat} {p : Nat → Nat → Bool} (h : B2 w wr t L gv bs p) {i : Nat} (hi : i < bs.length) (j : Nat) (x : Bool) :
    B2 w (wr.setCell ⟨bs[i], j, none⟩ (.bool x)) t L gv bs (fun a b => if a = i ∧ b = j then x else p a b) := by
  have hT := setCell_turns wr bs[i] j (.bool x)
  have hge := h.tab.ge bs[i] (List.getElem_mem hi)
  obtain ⟨cur, hcur, _⟩ := h.tab.rows i hi
  refine ⟨⟨ownsRow_blocks h.bi.own fun b hb => hT.block b (h.bi.own.lt b hb).2 fun e => ?_, (hT.block _ (lt_of_block h.bi.b0) (fun e => by omega)).trans h.bi.b0, Turns.below h.bi.below hT h.bi.below.size fun k e => by omega⟩, h.tab.put hi j x⟩
  subst e
  obtain ⟨cs, hc⟩ := own_cells h.bi.own hb
  rw [hcur] at hc
  cases hc
theorem B2.congr {w wr : World} {t gv : Value} {L : List ByteArray} {bs : List Nat} {p q : Nat → Nat → Bool} (h : B2 w wr t L gv bs p) (he : ∀ i j, p i j = q i j) : B2 w wr t L gv bs q := ⟨h.bi, h.tab.congr he⟩
/-- The cells of a table. -/
theorem Tab.cell {base : Nat} {wr : World} {m : Nat} {v : Value} {bs : List Nat} {p : Nat → Nat → Bool} (h : Tab base wr m v bs p) {i : Nat} (hi : i < bs.length) : ∃ g c, v = .slice (some ⟨g, 0, none⟩) bs.length c ∧ ∀ k (hk : k < bs.length), wr.cell? ⟨g, k, none⟩ = some (rowV m bs[k]) := by
  rcases h.own.2 with ⟨rfl, h0⟩ | ⟨g, cap, cur, rfl, _⟩
  · omega
  · refine ⟨g, cap, rfl, fun k hk => ?_⟩
    have := h.own.cells (g := g) rfl k (rowV m bs[k]) (by simp [hk])
    rwa [add_none] at this
theorem tab_step {ds : List Dd} {L : List ByteArray} {k : Nat} {d : Dd} (h : ds[k]? = some d) : tabL L (ds.take (k + 1)) = tabS L (tabL L (ds.take k)) d := by
  obtain ⟨hk, rfl⟩ := List.getElem?_eq_some_iff.1 h
  rw [List.take_succ_eq_append_getElem hk, tabL_snoc]
theorem edges_box {w w' : World} {b n c : Nat} {x : Int} {ao : Option Addr} {v : Value} {es : List Pair} {t : TypeId} (h : EdgesAt w v es) (ht : Two w b (.int .i64 x) (.slice ao n c) t) (hT : Turns (fun k => k = b) w w') : EdgesAt w' v es := by
  obtain ⟨ao', cap, rfl, h1, h2, h3⟩ := h
  refine ⟨ao', cap, rfl, h1, h2, fun k hk => ?_⟩
  obtain ⟨g, off, e, c0, c1⟩ := h3 k hk
  have hne : g ≠ b := fun e => by
    subst e
    rw [cell_of_row w g _ _ t (0, 0) ht] at c0 c1
    rcases h : off + k * 2 with _ | _ | m
    · rw [h] at c1; cases c1
    · rw [h] at c0; cases c0
    · rw [h] at c0; simp at c0
  have hl := World.block_lt_of_cell? w _ c0
  have hb := hT.block g hl hne
  have key : ∀ i, w'.cell? ⟨g, i, none⟩ = w.cell? ⟨g, i, none⟩ := fun i => by simp [World.cell?, hb]
  exact ⟨g, off, e, by rw [key]; exact c0, by rw [key]; exact c1⟩
theorem allP_tab {ds : List Dd} {L : List ByteArray} {E : Ed} {K : List Ck} (h : Dn ds L E K) : allP L.length (tabL L ds) = allP L.length (eB E) := by
  have hE := h.ed
  refine strict_eq _ _ (allP_strict _ _) (allP_strict _ _) fun x => ?_
  rw [allP_mem, allP_mem]
  have key : ∀ u v : Nat, u < v → tabL L ds (u : Int) (v : Int) = eB E (u : Int) (v : Int) := fun u v huv => by
    rw [h.tab]
    have : E v u = false := by
      cases e : E v u with
      | false => rfl
      | true => have := hE v u e; omega
    simp [eB, this]
  constructor
  · rintro ⟨u, v, h1, h2, h3, rfl⟩; exact ⟨u, v, h1, h2, by rw [← key u v h1]; exact h3, rfl⟩
  · rintro ⟨u, v, h1, h2, h3, rfl⟩; exact ⟨u, v, h1, h2, by rw [key u v h1]; exact h3, rfl⟩
set_option maxHeartbeats 800000 in
theorem built_own {ds : List Dd} {L : List ByteArray} {E : Ed} {K : List Ck} (hS : Dn ds L E K) (hlen : ds.length ≤ 200) {w : World} {v : Value} (hv : DAt w v ds) :
    Calls Try.prog 12 #[v] w fun e w' => ∃ ev nv, e = .returned (.tuple #[.agg #[.int .i64 (L.length : Int), ev], nv]) ∧ EdgesAt w' ev (allP L.length (eB E)) ∧ w'.ownsRow w.heap.size 9 1 nv L.length (sv L) ∧ Below w.heap.size w w' ∧ (∀ x, ev.ownBlock = some x → w.heap.size ≤ x) := by
  obtain ⟨ao, cap, rfl, hc⟩ := hv
  obtain ⟨i3, hi3, hy0, hy1, hy2⟩ := info_parts Try.info9
  have HC := hid hc
  have HS := hid hS
  clear hc hS
  go_enter Try.func12, Try.ntmps12
  go_wp2
  go_loopw [4, 5] (fun t i wr => ∃ k : Nat, k ≤ ds.length ∧ i = .int .i64 k ∧ BuI w wr t (nmL (ds.take k))) (fun _ i _ => ds.length - (numOf i).toNat)
  case atStart => exact ⟨0, Nat.zero_le _, rfl, World.ownsRow_nil _ _ _ _, heap_alloc_new _ _, below_alloc (Below.refl _ _) _⟩
  case round =>
    obtain ⟨k, hk, rfl, hbi⟩ := hrel
    by_cases hlt : k < ds.length
    · obtain ⟨d, hd⟩ : ∃ d, ds[k]? = some d := ⟨_, List.getElem?_eq_getElem hlt⟩
      obtain ⟨g, rfl, c0, c1, c2⟩ := HC.out k d hd
      have hb0 := World.block_lt_of_cell? w _ c0
      rw [← hbi.below.cell (by exact hb0)] at c0 c1
      have hnl := nm_le ds k
      have HN := hid (nm_take hd)
      obtain ⟨N, hN⟩ : ∃ N, N = nmL (ds.take k) := ⟨_, rfl⟩
      rw [← hN] at hbi hnl HN
      clear hN c2 hd
      by_cases hk1 : d.k = 1
      · rw [hk1] at c0
        rw [if_pos hk1] at HN
        have HH : Hid (nmL (ds.take (k + 1)) = N ++ [d.a]) := HN
        obtain ⟨vo, vc, rfl⟩ := form_own hbi.own
        go_wp2_with (at_builtin; refine wpList_append_own _ rfl _ _ 43 rfl (w.heap.size + 1) 9 i3 (.string ByteArray.empty) 1 16 Try.underlying43 hi3 hy0 hy1 hy2 rfl (by decide) _ _ _ rfl (hbi.own.alloc _) ⟨wr.heap.size, 0, none⟩ 1 1 [.string d.a] rfl rfl ?n1 ?n2 ?n3 ?n4 ?n5 ?_)
        case n2 => exact rfl
        case n3 => unfold maxLen; omega
        case n4 => omega
        case n5 => have := lt_of_block hbi.b0; simp; omega
        intro v' w3 hown' hgrow _
        have hb3 := hbi.push hown' hgrow
        clear hown' hgrow
        go_wp2
        go_roundw
        case rel => exact ⟨k + 1, by omega, by go_num, by rw [HH.out]; exact hb3⟩
        case measure => simp [numOf]; omega
      · have z1 : ((d.k : Int) == 1) = false := by simp; omega
        rw [if_neg hk1] at HN
        have HH : Hid (nmL (ds.take (k + 1)) = N) := HN
        go_wp2
        go_roundw
        case rel => exact ⟨k + 1, by omega, by go_num, by rw [HH.out]; exact hbi⟩
        case measure => simp [numOf]; omega
    · have : k = ds.length := by omega
      subst this
      rw [List.take_length, HS.out.nm] at hbi
      have hl := HS.out.len
      obtain ⟨vo, vc, rfl⟩ := form_own hbi.own
      have HG := hid (gridOf_tab L.length (.slice none 0 0) [] wr (edges_nil wr) (by omega) (by simp) (fun e he => by cases he))
      have HL := hid hl
      clear hl
      go_wp2_with (first | (go_at_call 16; refine Calls.mono HG.out ?_; rintro e w2 ⟨hB2, gao, gcap, bs, rfl, hbs, htab⟩) | go_in)
      have h2 : B2 w w2 (.slice vo L.length vc) L (.slice gao L.length gcap) bs (fun u v => tabL L (ds.take 0) (u : Int) (v : Int)) := ⟨hbi.step hB2, own_low htab.own (by have := hbi.below.size; have := lt_of_block hbi.b0; omega), htab.rows, htab.nodup, fun b hb => by have := htab.ge b hb; have := lt_of_block hbi.b0; omega⟩
      have H2 := hid h2
      have HBS := hid hbs
      clear hbi HG hbs htab hB2 h2
      go_wp2
      go_loopw [7] (fun i wr => ∃ k : Nat, k ≤ ds.length ∧ i = .int .i64 k ∧ B2 w wr (.slice vo L.length vc) L (.slice gao L.length gcap) bs (fun u v => tabL L (ds.take k) (u : Int) (v : Int))) (fun i _ => ds.length - (numOf i).toNat)
      case atStart => exact ⟨0, Nat.zero_le _, rfl, H2.out⟩
      case round =>
        obtain ⟨k, hk, rfl, hb2⟩ := hrel
        clear H2
        by_cases hlt : k < ds.length
        · obtain ⟨d, hd⟩ : ∃ d, ds[k]? = some d := ⟨_, List.getElem?_eq_getElem hlt⟩
          obtain ⟨dk, sa, sb⟩ := d
          obtain ⟨g, rfl, c0, c1, c2⟩ := HC.out k _ hd
          simp only at c0 c1 c2
          have hb0 := World.block_lt_of_cell? w _ c0
          have HDN := hid (HS.out.names _ (List.mem_of_getElem? hd))
          have HT := hid (tab_step (L := L) hd)
          have HT' := HT
          rw [← hb2.bi.below.cell (by exact hb0)] at c0 c1 c2
          clear hd
          by_cases hk1 : dk = 1
          · rw [hk1] at c0
            have HT2 : Hid (tabL L (ds.take (k + 1)) = tabL L (ds.take k)) := by
              have := HT.out
              rw [tabS, if_pos hk1] at this
              exact this
            clear c1 c2
            go_wp2
            go_roundw
            case rel => exact ⟨k + 1, by omega, by go_num, by rw [HT2.out]; exact hb2⟩
            case measure => simp [numOf]; omega
          · have z1 : ((dk : Int) == 1) = false := by simp; omega
            obtain ⟨_, hA, hB, hab⟩ : dk ≠ 1 ∧ okN L ⟨dk, sa, sb⟩ := by
              rcases HDN.out with ⟨h, _⟩ | h
              · exact absurd h hk1
              · exact h
            have hst : ∀ q, StrsAt (wr.drewN q) (.slice vo L.length vc) L := fun q => (strs_own (own_low hb2.bi.own (Nat.zero_le _))).below (drewN_below _ _)
            have NA : Hid (∀ q, Calls Try.prog 13 #[.slice vo L.length vc, .string sa] (wr.drewN q) fun e w' => e = .returned (.int .i64 (idx L sa : Int)) ∧ w' = wr.drewN q) := fun q => named_call (hst q) (by have := HL.out; omega) sa
            have NB : Hid (∀ q, Calls Try.prog 13 #[.slice vo L.length vc, .string sb] (wr.drewN q) fun e w' => e = .returned (.int .i64 (idx L sb : Int)) ∧ w' = wr.drewN q) := fun q => named_call (hst q) (by have := HL.out; omega) sb
            have HAB := hid (And.intro (idx_mem.2 hA) (And.intro (idx_mem.2 hB) (show idx L sa ≠ idx L sb from fun e => hab (idx_inj hA hB e))))
            clear hA hB hab hst HT HDN
            have HT2 : Hid (tabL L (ds.take (k + 1)) = putT (tabL L (ds.take k)) (idx L sa : Int) (idx L sb : Int) (dk == 2)) := by
              have := HT'.out
              rw [tabS, if_neg hk1] at this
              exact this
            clear HT'
            generalize idx L sa = i at *
            generalize idx L sb = j at *
            go_upto_region 12 with (fail)
            go_quiet (first | (go_at_call 13; with_reducible exact Calls.quiet_of_same (NA.out _)) | (go_at_call 13; with_reducible exact Calls.quiet_of_same (NB.out _)))
            have hb3 := hb2.step (drewN_below wr nq)
            have hB1 := drewN_below wr nq
            rw [← hB1.cell (World.block_lt_of_cell? wr _ c0)] at c0
            clear NA NB c1 c2 hB1 hb2
            generalize wr.drewN nq = W1 at *
            obtain ⟨hA, hB, hij⟩ := HAB.out
            have hbs := HBS.out
            obtain ⟨gg, gc, hgv, hcell⟩ := hb3.tab.cell (i := i) (by omega)
            injection hgv with e1 e2 e3
            subst e1
            clear e2 e3
            have ri := hcell i (by omega)
            have rj := hcell j (by omega)
            have qi := (hb3.tab.rows i (by omega)).cell hB
            have fi := (hb3.tab.rows i (by omega)).free j
            clear hcell
            unfold rowV at ri rj
            have hp4 := hid fun x => hb3.put (i := i) (by omega) j x
            have H3 := hid hb3
            clear hb3
            generalize hbi : bs[i] = bi at *
            obtain ⟨x, hx⟩ : ∃ x, ((dk : Int) == 2) = x := ⟨_, rfl⟩
            go_wp2
            go_region
            have hp5 := (hp4.out x).step ((Below.refl _ (W1.setCell ⟨bi, j, none⟩ (.bool x))).drew)
            clear ri rj qi fi c0 hp4 H3
            generalize (W1.setCell ⟨bi, j, none⟩ (.bool x)).drew = W2 at *
            obtain ⟨gg2, gc2, hgv, hcell⟩ := hp5.tab.cell (i := i) (by omega)
            injection hgv with e1 e2 e3
            injection e1 with e1
            injection e1 with e1 _
            subst e1
            clear e2 e3
            have ri := hcell i (by omega)
            have rj := hcell j (by omega)
            have qi : W2.cell? ⟨bs[i], j, none⟩ = some (.bool x) := by
              have := (hp5.tab.rows i (by omega)).cell hB
              simpa using this
            have qj := (hp5.tab.rows j (by omega)).cell hA
            have fj := (hp5.tab.rows j (by omega)).free i
            clear hcell
            unfold rowV at ri rj
            have hp6 := hid (hp5.put (i := j) (by omega) i x)
            clear hp5
            generalize hbj : bs[j] = bj at *
            rw [hbi] at qi ri
            go_wp2
            go_region
            have hE : tabL L (ds.take (k + 1)) = putT (tabL L (ds.take k)) (i : Int) (j : Int) x := by
              rw [HT2.out]
              congr 1
              rw [← hx]
              cases h : (dk == 2) with
              | true => rw [beq_iff_eq] at h; subst h; rfl
              | false => symm; simp at h ⊢; omega
            have hp7 := hid (((hp6.out).step ((Below.refl _ (W2.setCell ⟨bj, i, none⟩ (.bool x))).drew)).congr (q := fun u v => tabL L (ds.take (k + 1)) (u : Int) (v : Int)) (fun a b => by
              rw [hE, putT_nat]
              by_cases h1 : a = j ∧ b = i
              · rw [if_pos h1, if_pos (by omega)]
              · rw [if_neg h1]
                by_cases h2 : a = i ∧ b = j
                · rw [if_pos h2, if_pos (by omega)]
                · rw [if_neg h2, if_neg (by omega)]))
            go_wp2
            go_roundw
            case rel => exact ⟨k + 1, by omega, by go_num, hp7.out⟩
            case measure => simp [numOf]; omega
        · have : k = ds.length := by omega
          subst this
          rw [List.take_length] at hb2
          have hO := hid (ofGrid_any L.length _ gcap (tabL L ds) wr (hb2.tab.grid HBS.out) (by have := HL.out; omega))
          have H2 := hid hb2
          have HAT := hid (allP_tab HS.out)
          have hb2s := hb2.bi.below.size
          clear hb2
          go_wp2_with (go_at_call 39; refine Calls.mono hO.out ?_; rintro e w3 ⟨hB3, eo, ec, rfl, hE3, hE4⟩; have HE4 := hid hE4; clear hE4; have t3 := two_next (show Two wr w.heap.size (.int .i64 0) (.slice none 0 0) 42 from H2.out.bi.b0) hB3; obtain ⟨d0, d1⟩ := cell_two t3; have f0 := free_two t3 0; have f1 := free_two t3 1; have T3 := hid t3; have HB3 := hid hB3; have HE3 := hid hE3; clear t3 hB3 hE3)
          have hT := (setCell_turns w3 w.heap.size 0 (.int .i64 (L.length : Int))).trans (setCell_turns _ w.heap.size 1 (.slice eo (allP L.length (tabL L ds)).length ec))
          have hW := two_setN (x' := .int .i64 (L.length : Int)) (y' := .slice eo (allP L.length (tabL L ds)).length ec) T3.out
          generalize (w3.setCell ⟨w.heap.size, 0, none⟩ (.int .i64 (L.length : Int))).setCell ⟨w.heap.size, 1, none⟩ (.slice eo (allP L.length (tabL L ds)).length ec) = W5 at *
          obtain ⟨y0, y1⟩ := cell_two hW
          have hb3 := (H2.out.bi).step HB3.out
          have hrow : W5.ownsRow (w.heap.size + 1) 9 1 (.slice vo L.length vc) L.length (sv L) := ownsRow_blocks hb3.own fun b hb => hT.block b (hb3.own.lt b hb).2 (fun e => by have := (hb3.own.lt b hb).1; omega)
          have hEd := edges_box HE3.out T3.out hT
          rw [HAT.out] at hEd
          refine bodyPost_ret (v := .tuple #[.agg #[.int .i64 (L.length : Int), .slice eo (allP L.length (tabL L ds)).length ec], .slice vo L.length vc]) (by simp [results, Try.results12, go_sem, y0, y1]) rfl ⟨_, _, rfl, by rw [HAT.out]; exact hEd, own_low hrow (by omega), Turns.below hb3.below hT hb3.below.size (fun k e => by omega), fun x hx => ?_⟩
          rcases eo with _ | a
          · cases hx
          · have h9 := HE4.out a rfl
            have := hb2s
            injection hx with hx
            omega
theorem built_call {ds : List Dd} {L : List ByteArray} {E : Ed} {K : List Ck} (hS : Dn ds L E K) (hlen : ds.length ≤ 200) {w : World} {v : Value} (hv : DAt w v ds) :
    Calls Try.prog 12 #[v] w fun e w' => ∃ ev nv, e = .returned (.tuple #[.agg #[.int .i64 (L.length : Int), ev], nv]) ∧ EdgesAt w' ev (allP L.length (eB E)) ∧ w'.ownsRow w.heap.size 9 1 nv L.length (sv L) ∧ Below w.heap.size w w' :=
  (built_own hS hlen hv).mono fun _ _ ⟨ev, nv, h1, h2, h3, h4, _⟩ => ⟨ev, nv, h1, h2, h3, h4⟩
end Go.Proofs.Ytfdlndljpmamgaa
