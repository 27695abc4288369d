/- The literal of R.Width. -/
import Derived.Test.YtdalconphfgepaaDoorFillP
namespace Go.Proofs.YtdalconphfgepaaDoor
set_option maxRecDepth 8000
open Go.RowKit Go.Maps
attribute [local go_sem ↓] Go.wp_at_zero Go.wp_at_succ
theorem allP_sq (n : Nat) (p : Int → Int → Bool) : (allP n p).length ≤ n * n := by
  unfold allP rowsTo
  have key : ∀ l : List Nat, (l.flatMap fun u => rowTo p u n).length ≤ l.length * n := fun l => by
    induction l with
    | nil => simp
    | cons a l ih =>
      rw [List.flatMap_cons, List.length_append, List.length_cons, Nat.succ_mul]
      have : (rowTo p a n).length ≤ n := by
        unfold rowTo
        rw [List.length_map]
        exact Nat.le_trans (List.length_filter_le _ _) (by simp)
      omega
  have := key (List.range n)
  rw [List.length_range] at this
  exact this
/-- The most that are near, of the first i places. -/
def mostP (p : Nat → Nat → Bool) (o : Nat → Nat) (N i : Nat) : Int := (List.range i).foldr (fun k m => max m ((nlO (fillO p o N k) o N k).length : Int)) (-1)
theorem mostP_succ (p : Nat → Nat → Bool) (o : Nat → Nat) (N i : Nat) : mostP p o N (i + 1) = max (mostP p o N i) ((nlO (fillO p o N i) o N i).length : Int) := by
  unfold mostP
  rw [List.range_succ, List.foldr_append, List.foldr_cons, List.foldr_nil]
  generalize ((nlO (fillO p o N i) o N i).length : Int) = a
  induction (List.range i) with
  | nil => rfl
  | cons b l ih => rw [List.foldr_cons, List.foldr_cons, ih]; omega
theorem mostP_ge (p : Nat → Nat → Bool) (o : Nat → Nat) (N i : Nat) : -1 ≤ mostP p o N i := by
  unfold mostP
  induction (List.range i) with
  | nil => exact Int.le_refl _
  | cons b l ih => rw [List.foldr_cons]; omega
/-- What the loop over the places keeps. -/
structure LitI (W wr : World) (base N : Nat) (s : Value) (bs : List Nat) (q : Nat → Nat → Bool) : Prop where
  bel : Below W.heap.size W wr
  le : W.heap.size ≤ base
  tab : Tab base wr N s bs q
theorem LitI.next {W wr wr' : World} {base N : Nat} {s : Value} {bs : List Nat} {q : Nat → Nat → Bool} (h : LitI W wr base N s bs q) (hb : Below wr.heap.size wr wr') : LitI W wr' base N s bs q := ⟨below_next h.bel hb, h.le, h.tab.below hb⟩

set_option maxHeartbeats 4000000 in
theorem lit_call {W : World} {N : Nat} {bo gb : Nat} {ao : Option Addr} {cap : Nat} {pz : Int → Int → Bool} {z : Int} {L : List Nat} {vo : Option Addr} {vc : Nat} {p : Nat → Nat → Bool} {o : Nat → Nat} (hN : N ≤ 6) (hp : p = fun (i j : Nat) => hasB (allP N pz) i j) (ho : o = fun i => L.getD i 0)
    (hgb : Box W gb #[.slice ao N cap] 40) (hG : GridAt W (.slice ao N cap) N pz) (hbox : Box W bo #[.int .i64 z] 3) (hlen : L.length = N) (hnd : L.Nodup) (hlt : ∀ x ∈ L, x < N) (hll : LL W vo L bo) :
    Calls Tryd.prog 35 #[.slice vo N vc, .pointer (some ⟨gb, 0, none⟩), .pointer (some ⟨bo, 0, none⟩)] W fun e w' => e = .returned (.tuple #[]) ∧ Turns (fun k => k = bo) W w' ∧ Box w' bo #[.int .i64 (if mostP p o N N < z then mostP p o N N else z)] 3 := by
  obtain ⟨i3', hi3, hy0, hy1, hy2⟩ := info_parts Tryd.info3
  have C36 : Hid _ := ofGrid_any N ao cap pz W hG (by omega)
  have C15 : Hid (∀ v es w, EdgesAt w v es → es.length ≤ 1000 → (∀ e ∈ es, (0 ≤ e.1 ∧ e.1 < N ∧ 0 ≤ e.2 ∧ e.2 < N) ∧ e.1 ≠ e.2) → Calls Tryd.prog 15 #[.agg #[.int .i64 N, v]] w fun e w' => Below w.heap.size w w' ∧ ∃ ao cap bs, e = .returned (.slice ao N cap) ∧ bs.length = N ∧ Tab w.heap.size w' N (.slice ao N cap) bs (fun i j => hasB es i j)) := fun v es w h1 h2 h3 => gridOf_tab N v es w h1 (by omega) h2 h3
  have c1 := box_cell hgb (i := 0) rfl
  have hle : (allP N pz).length ≤ 1000 := Nat.le_trans (allP_sq N pz) (by have := Nat.mul_le_mul hN hN; omega)
  have hgood : ∀ e ∈ allP N pz, (0 ≤ e.1 ∧ e.1 < N ∧ 0 ≤ e.2 ∧ e.2 < N) ∧ e.1 ≠ e.2 := fun e he => by
    obtain ⟨u, v, h1, h2, _, rfl⟩ := allP_mem.1 he
    simp only
    omega
  have HE : Hid _ := And.intro hle hgood
  have HBX : Hid _ := hbox
  have HLL : Hid _ := hll
  have HL : Hid _ := And.intro hnd hlt
  clear hle hgood hbox hll hnd hlt hG
  go_enter Tryd.func35, Tryd.ntmps35
  go_wp2_with (first | (go_at_call 36; refine Calls.mono C36.out ?_; rintro e w1 ⟨h1, ao1, cp1, rfl, hE1⟩) | (go_at_call 15; refine Calls.mono (C15.out _ _ _ hE1 HE.out.1 HE.out.2) ?_; rintro e w2 ⟨h2, ao2, cp2, bs, rfl, hbs, hT⟩) | fail)
  have HI : Hid (LitI W w2 w1.heap.size N (.slice ao2 N cp2) bs (fun i j => hasB (allP N pz) i j)) := ⟨below_next h1 h2, h1.size, hT⟩
  have hB0 : W.heap.size ≤ w1.heap.size := h1.size
  generalize w1.heap.size = base at *
  rw [← hp] at HI
  have HLO : Hid (L.length = N ∧ o = fun i => L.getD i 0) := ⟨hlen, ho⟩
  have HOL : Hid (∀ k, k < N → o k < N) := fun k hk => by
    rw [ho]
    have hk' : k < L.length := by omega
    simp only [List.getD_eq_getElem?_getD, List.getElem?_eq_getElem hk', Option.getD_some]
    exact HL.out.2 _ (List.getElem_mem _)
  have HIN : Hid (∀ a b, a < b → b < N → o a ≠ o b) := fun a b hab hb => by
    rw [ho]
    have ha' : a < L.length := by omega
    have hb' : b < L.length := by omega
    simp only [List.getD_eq_getElem?_getD, List.getElem?_eq_getElem ha', List.getElem?_eq_getElem hb', Option.getD_some]
    exact List.pairwise_iff_getElem.1 HL.out.1 a b ha' hb' hab
  clear hp ho hT h1 h2 c1 hE1 C36 C15 HE hgb hlen
  go_loopw [5, 6, 7, 8, 9, 10] (fun mv iv _ _ _ _ wr => ∃ i : Nat, i ≤ N ∧ iv = .int .i64 (i : Int) ∧ mv = .int .i64 (mostP p o N i) ∧ Hid (LitI W wr base N (.slice ao2 N cp2) bs (fillO p o N i))) (fun _ iv _ _ _ _ _ => N - (numOf iv).toNat)
  case atStart => exact ⟨0, Nat.zero_le _, rfl, rfl, HI.out⟩
  case round =>
    clear HI
    obtain ⟨i, hi, rfl, rfl, HI⟩ := hrel
    by_cases hlti : i < N
    · have j1 : (i : Int) < (N : Int) := by omega
      have j0 : (0 : Int) ≤ (i : Int) := by omega
      go_wp2
      obtain ⟨q, hq⟩ : ∃ q, q = fillO p o N i := ⟨_, rfl⟩
      rw [← hq] at HI
      generalize hwo : wr = WO at HI ⊢
      clear hwo
      go_loopw [7, 8] (fun nv jv wr => ∃ j : Nat, i < j ∧ j ≤ N ∧ jv = .int .i64 (j : Int) ∧ Hid (Below WO.heap.size WO wr ∧ wr.ownsRow WO.heap.size 3 1 nv (nlT q o i j).length (qv (nlT q o i j)))) (fun _ jv _ => N - (numOf jv).toNat)
      case atStart => exact ⟨i + 1, by omega, by omega, by go_num, Below.refl _ _, by rw [nlT_zero]; exact World.ownsRow_nil _ _ _ _⟩
      case round =>
        obtain ⟨j, hij, hj, rfl, HJ⟩ := hrel
        obtain ⟨nO, nc, rfl⟩ := form_row HJ.out.2
        by_cases hltj : j < N
        · have j3 : (j : Int) < (N : Int) := by omega
          have j2 : (0 : Int) ≤ (j : Int) := by omega
          have hTw := HI.out.tab.below HJ.out.1
          have hll := HLL.out
          obtain ⟨b, off, rfl, ci⟩ := hll.1 i (by have := HLO.out.1; omega)
          obtain ⟨b', off', e', cj⟩ := hll.1 j (by have := HLO.out.1; omega)
          cases e'
          have hoi : o i < N := HOL.out i hlti
          have hoj : o j < N := HOL.out j hltj
          have eo := HLO.out.2
          have ci2 : wr.cell? ⟨b, off + i, none⟩ = some (.int .i64 (o i : Int)) := by
            rw [HJ.out.1.cell (by exact Nat.lt_of_lt_of_le (World.block_lt_of_cell? W _ ci) HI.out.bel.size), HI.out.bel.cell (by exact World.block_lt_of_cell? W _ ci), ci, eo]
          have cj2 : wr.cell? ⟨b, off + j, none⟩ = some (.int .i64 (o j : Int)) := by
            rw [HJ.out.1.cell (by exact Nat.lt_of_lt_of_le (World.block_lt_of_cell? W _ cj) HI.out.bel.size), HI.out.bel.cell (by exact World.block_lt_of_cell? W _ cj), cj, eo]
          obtain ⟨g, rfl, hat⟩ := hTw.at (by omega)
          have c3 := hat (o i) (by omega)
          have c4 := (hTw.rows (o i) (by omega)).cell (j := o j) hoj
          generalize bs[o i] = br at c3 c4
          have i1 : (0 : Int) ≤ (o i : Int) := by omega
          have i2 : (o i : Int) < (N : Int) := by omega
          have i3 : (0 : Int) ≤ (o j : Int) := by omega
          have i4 : (o j : Int) < (N : Int) := by omega
          have HST := nlT_step q o hij
          have HSS : Hid _ := HST
          clear HST hTw hll ci cj hat eo
          obtain ⟨bq, hbq⟩ : ∃ bq, bq = q (o i) (o j) := ⟨_, rfl⟩
          rw [← hbq] at c4 HSS
          clear hbq
          obtain ⟨l2, hl2⟩ : ∃ l2, l2 = nlT q o i (j + 1) := ⟨_, rfl⟩
          have HL2 : Hid (l2 = nlT q o i (j + 1)) := hl2
          rw [← hl2] at HSS
          clear hl2
          go_upto_region 9 with (fail)
          have g0 := cell_growD ci2
          have g1 := cell_growD cj2
          have g2 := cell_growD c3
          have g3 := cell_growD c4
          refine wp_region_below (by kernel_rfl) (by kernel_rfl) ?_
          repeat (go_big_quiet_step (fail))
          refine wpQuiet_nil ?_
          rintro _ ⟨gp, rfl⟩
          have hB8 := growD_below wr gp
          have HJ8 : Hid (Below WO.heap.size WO (growD wr gp) ∧ (growD wr gp).ownsRow WO.heap.size 3 1 (.slice nO (nlT q o i j).length nc) (nlT q o i j).length (qv (nlT q o i j))) := ⟨below_next HJ.out.1 hB8, ownsRow_blocks HJ.out.2 (fun b hb' => hB8.block b (HJ.out.2.lt b hb').2)⟩
          have cj8 : (growD wr gp).cell? ⟨b, off + j, none⟩ = some (.int .i64 (o j : Int)) := by rw [hB8.cell (by exact World.block_lt_of_cell? _ _ cj2)]; exact cj2
          clear g0 g1 g2 g3 ci2 c3 c4 HJ cj2 hB8
          generalize growD wr gp = w8 at *
          have hl6 : (nlT q o i j).length ≤ 100 := by
            unfold nlT
            rw [List.length_map]
            exact Nat.le_trans (List.length_filter_le _ _) (by simp; omega)
          generalize nlT q o i j = l at *
          cases bq with
          | false =>
            have e : l2 = l := by rw [HSS.out]; simp
            subst e
            go_wp2
            go_roundw
            case rel => exact ⟨j + 1, by omega, by omega, by go_num, HL2.out ▸ HJ8.out⟩
            case measure => simp [numOf]; omega
          | true =>
            have e : l2 = l ++ [o j] := by rw [HSS.out]; simp
            subst e
            have hsz := HJ8.out.1.size
            go_wp2_with (first | (at_builtin; refine wpList_append_own _ rfl _ _ 30 rfl WO.heap.size 3 i3' (.int .i64 0) 1 8 Tryd.underlying30 hi3 hy0 hy1 hy2 rfl (by decide) _ _ _ rfl (HJ8.out.2.alloc _) ⟨w8.heap.size, 0, none⟩ 1 1 [.int .i64 (o j : Int)] rfl rfl ?n1 ?n2 ?n3 ?n4 ?n5 ?_) | fail)
            case n2 => rfl
            case n3 => unfold maxLen; omega
            case n4 => omega
            case n5 => omega
            intro uv' w9 hown9 hg9 _
            have HN9 : Hid (Below WO.heap.size WO w9 ∧ w9.ownsRow WO.heap.size 3 1 uv' (nlT q o i (j + 1)).length (qv (nlT q o i (j + 1)))) := by
              rw [← HL2.out, List.length_append]
              exact ⟨Turns.below (below_alloc HJ8.out.1 _) (Turns.of_grown hg9) (by simp; omega) (fun k hk => (HJ8.out.2.lt k hk.symm).1), by simpa [qv] using hown9⟩
            clear hown9 hg9 HJ8
            go_wp2
            go_roundw
            case rel => exact ⟨j + 1, by omega, by omega, by go_num, HN9.out⟩
            case measure => simp [numOf]; omega
        · have hje : j = N := by omega
          subst hje
          generalize hl : nlT q o i j = l at HJ ⊢
          have hms : mostP p o j (i + 1) = max (mostP p o j i) (l.length : Int) := by rw [mostP_succ, ← hl, nlT_end, hq]
          have hl' : l = nlO q o j i := hl.symm
          have HQ : Hid (l = nlO q o j i ∧ q = fillO p o j i) := ⟨hl', hq⟩
          obtain ⟨m', hm'⟩ : ∃ m', m' = mostP p o j (i + 1) := ⟨_, rfl⟩
          rw [← hm'] at hms
          have HM' : Hid (m' = mostP p o j (i + 1)) := hm'
          obtain ⟨m0, hm0⟩ : ∃ m0, m0 = mostP p o j i := ⟨_, rfl⟩
          rw [← hm0] at hms ⊢
          have HNL : Hid (∀ l, l = nlO q o j i → l.Nodup) := fun l hl => by
            rw [hl]
            unfold nlO List.Nodup
            rw [List.pairwise_map]
            refine List.Pairwise.filter _ ?_
            rw [List.pairwise_iff_getElem]
            intro u v hu hv huv
            rw [List.getElem_range', List.getElem_range']
            simp only [List.length_range'] at hu hv
            exact HIN.out _ _ (by omega) (by omega)
          have hl6 : l.length ≤ 100 := by
            rw [hl']
            unfold nlO
            rw [List.length_map]
            exact Nat.le_trans (List.length_filter_le _ _) (by simp; omega)
          have HLB : Hid (∀ k, k < l.length → l.getD k 0 < j) := fun k hk => by
            have hmem : l.getD k 0 ∈ l := by
              rw [List.getD_eq_getElem?_getD, List.getElem?_eq_getElem hk]
              exact List.getElem_mem _
            rw [hl'] at hmem
            obtain ⟨k', _, h2, _, e⟩ := nl_mem.1 hmem
            rw [hl', ← e]
            exact HOL.out k' h2
          clear hl hl' hq hm' hm0
          by_cases hmx : (l.length : Int) ≤ m0
          all_goals go_wp2
          all_goals
            first
            | (have hms' : m0 = m' := by omega
               rw [hms']
               clear hms')
            | (have hms' : (l.length : Int) = m' := by omega
               rw [hms']
               clear hms')
            clear hms hmx
            have HI3 : Hid (LitI W wr base j (.slice ao2 j cp2) bs (fillP q l 0 0) ∧ wr.ownsRow WO.heap.size 3 1 (.slice nO l.length nc) l.length (qv l) ∧ WO.heap.size ≤ wr.heap.size) := ⟨⟨below_next HI.out.bel HJ.out.1, HI.out.le, (HI.out.tab.below HJ.out.1).congr (fun x y => (fillP_zero q l x y).symm)⟩, HJ.out.2, HJ.out.1.size⟩
            have HRB : Hid (∀ k (h : k < bs.length), bs[k] < WO.heap.size) := fun k h => (HI.out.tab.rows k h).lt
            clear HI HJ
            go_loopw [9, 10] (fun av _ wr => ∃ a : Nat, a ≤ l.length ∧ av = .int .i64 (a : Int) ∧ Hid (LitI W wr base j (.slice ao2 j cp2) bs (fillP q l a 0) ∧ wr.ownsRow WO.heap.size 3 1 (.slice nO l.length nc) l.length (qv l) ∧ WO.heap.size ≤ wr.heap.size)) (fun av _ _ => l.length - (numOf av).toNat)
            case atStart => exact ⟨0, Nat.zero_le _, rfl, HI3.out⟩
            case round =>
              clear HI3
              obtain ⟨a, ha, rfl, HA⟩ := hrel
              by_cases hlta : a < l.length
              · have ja : (a : Int) < (l.length : Int) := by omega
                have ja0 : (0 : Int) ≤ (a : Int) := by omega
                go_wp2
                go_loopw [10] (fun bv wr => ∃ b : Nat, b ≤ a ∧ bv = .int .i64 (b : Int) ∧ Hid (LitI W wr base j (.slice ao2 j cp2) bs (fillP q l a b) ∧ wr.ownsRow WO.heap.size 3 1 (.slice nO l.length nc) l.length (qv l) ∧ WO.heap.size ≤ wr.heap.size)) (fun bv _ => a - (numOf bv).toNat)
                case atStart => exact ⟨0, Nat.zero_le _, rfl, HA.out⟩
                case round =>
                  clear HA
                  obtain ⟨b, hb, rfl, HA⟩ := hrel
                  by_cases hltb : b < a
                  · have jb : (b : Int) < (a : Int) := by omega
                    have jb0 : (0 : Int) ≤ (b : Int) := by omega
                    have jb2 : (b : Int) < (l.length : Int) := by omega
                    have hla := HLB.out a hlta
                    have hlb := HLB.out b (by omega)
                    obtain ⟨gn, rfl, ca⟩ := numsAt_own HA.out.2.1 a (l.getD a 0) (by rw [List.getD_eq_getElem?_getD, List.getElem?_eq_getElem hlta]; rfl)
                    obtain ⟨gn', en', cb⟩ := numsAt_own HA.out.2.1 b (l.getD b 0) (by rw [List.getD_eq_getElem?_getD, List.getElem?_eq_getElem (by omega : b < l.length)]; rfl)
                    cases en'
                    obtain ⟨g, rfl, hat⟩ := HA.out.1.tab.at (by omega)
                    have HSt := fillP_step q l hltb
                    generalize l.getD a 0 = x at *
                    generalize l.getD b 0 = y at *
                    have c3 := hat x (by omega)
                    have c4 := hat y (by omega)
                    have i1 : (0 : Int) ≤ (x : Int) := by omega
                    have i2 : (x : Int) < (j : Int) := by omega
                    have i3 : (0 : Int) ≤ (y : Int) := by omega
                    have i4 : (y : Int) < (j : Int) := by omega
                    obtain ⟨bx, hbx⟩ : ∃ bx, bx = bs[x] := ⟨_, rfl⟩
                    obtain ⟨by', hby⟩ : ∃ by', by' = bs[y] := ⟨_, rfl⟩
                    rw [← hbx] at c3
                    rw [← hby] at c4
                    have HBX2 : Hid (bx = bs[x]) := hbx
                    have HBY2 : Hid (by' = bs[y]) := hby
                    have HST : Hid _ := HSt
                    clear hbx hby hat HSt
                    go_upto_region 19 with (fail)
                    have g0 := cell_growD ca
                    have g1 := cell_growD cb
                    have g2 := cell_growD c3
                    have g3 := cell_growD c4
                    refine wp_region_tailT 22 (by kernel_rfl) (by kernel_rfl) (by kernel_rfl) (by decide) ?_
                    simp only [List.take_succ_cons, List.take_zero, List.drop_succ_cons, List.drop_zero]
                    repeat (go_big_quiet_step (fail))
                    refine wpQuiet_nil ?_
                    rintro _ ⟨gp, rfl⟩
                    have hB8 := growD_below wr gp
                    have hI8 := HA.out.1.next hB8
                    have hO8 := ownsRow_blocks HA.out.2.1 (fun b hb' => hB8.block b (HA.out.2.1.lt b hb').2)
                    have hz8 : WO.heap.size ≤ (growD wr gp).heap.size := Nat.le_trans HA.out.2.2 hB8.size
                    clear g0 g1 g2 g3 ca cb c3 c4 hB8 HA
                    generalize growD wr gp = w8 at *
                    have hxb : x < bs.length := by omega
                    have hyb : y < bs.length := by omega
                    have d1 := (hI8.tab.rows x hxb).cell (j := y) (by omega)
                    have e1 := (hI8.tab.rows x hxb).free y
                    have T1 := hI8.tab.put hxb y true
                    have d2 := (T1.rows y hyb).cell (j := x) (by omega)
                    have e2 := (T1.rows y hyb).free x
                    have T2 := T1.put hyb x true
                    have hgx := hI8.tab.ge _ (List.getElem_mem hxb)
                    have hgy := hI8.tab.ge _ (List.getElem_mem hyb)
                    have hrx := HRB.out x hxb
                    have hry := HRB.out y hyb
                    have hle := hI8.le
                    rw [← HBX2.out] at d1 e1 T1 d2 e2 T2 hgx hrx
                    rw [← HBY2.out] at d2 e2 T2 hgy hry
                    have HF : Hid (LitI W ((w8.setCell ⟨bx, y, none⟩ (.bool true)).setCell ⟨by', x, none⟩ (.bool true)) base j (.slice (some ⟨g, 0, none⟩) j cp2) bs (fillP q l a (b + 1)) ∧ ((w8.setCell ⟨bx, y, none⟩ (.bool true)).setCell ⟨by', x, none⟩ (.bool true)).ownsRow WO.heap.size 3 1 (.slice (some ⟨gn, 0, none⟩) l.length nc) l.length (qv l) ∧ WO.heap.size ≤ ((w8.setCell ⟨bx, y, none⟩ (.bool true)).setCell ⟨by', x, none⟩ (.bool true)).heap.size) := by
                      refine ⟨⟨(hI8.bel.setCell (by show W.heap.size ≤ bx; omega) _).setCell (by show W.heap.size ≤ by'; omega) _, hle, T2.congr (fun u v => ?_)⟩, ?_, ?_⟩
                      · rw [← HST.out u v]
                      · refine ownsRow_blocks hO8 (fun k hk => ?_)
                        have := (hO8.lt k hk).1
                        rw [Below.heap_setCell _ _ _ _ (by simp only; omega), Below.heap_setCell _ _ _ _ (by simp only; omega)]
                      · simp [World.setCell]; exact hz8
                    clear hI8 hO8 T1 T2 hgx hgy hrx hry HST HBX2 HBY2
                    go_wp2
                    go_roundw
                    case rel => exact ⟨b + 1, by omega, by go_num, HF.out⟩
                    case measure => simp [numOf]; omega
                  · have hbe : b = a := by omega
                    subst hbe
                    go_wp2
                    go_roundw
                    case rel => exact ⟨b + 1, by omega, by go_num, ⟨HA.out.1.bel, HA.out.1.le, HA.out.1.tab.congr (fun x y => fillP_next q l b x y)⟩, HA.out.2⟩
                    case measure => simp [numOf]; omega
              · have hae : a = l.length := by omega
                subst hae
                have HF : Hid (LitI W wr base j (.slice ao2 j cp2) bs (fillO p o j (i + 1))) := ⟨HA.out.1.bel, HA.out.1.le, HA.out.1.tab.congr (fun x y => by
                  rw [fillP_end q (HNL.out l HQ.out.1)]
                  show _ = fillQ (fillO p o j i) (nlO (fillO p o j i) o j i) x y
                  rw [← HQ.out.2, ← HQ.out.1])⟩
                clear HA
                go_wp2
                go_roundw
                case rel => exact ⟨i + 1, by omega, by go_num, by rw [HM'.out], HF.out⟩
                case measure => simp [numOf]; omega
    · have hie : i = N := by omega
      subst hie
      obtain ⟨m, hm⟩ : ∃ m, m = mostP p o i i := ⟨_, rfl⟩
      rw [← hm]
      have hbx : Box wr bo #[.int .i64 z] 3 := (HI.out.bel.block bo (lt_of_block HBX.out)).trans HBX.out
      have c2 := box_cell hbx (i := 0) rfl
      have f2 := box_free hbx 0
      have HX : Hid (Turns (fun k => k = bo) W wr ∧ Box wr bo #[.int .i64 z] 3) := ⟨⟨HI.out.bel.os, HI.out.bel.tape, HI.out.bel.output, HI.out.bel.size, fun k hk _ => HI.out.bel.block k hk⟩, hbx⟩
      clear hbx HI
      by_cases hz : m < z
      · go_wp2
        go_end0
        exact ⟨rfl, HX.out.1.trans (setCell_turns _ _ _ _), box_set HX.out.2 0 _⟩
      · go_wp2
        go_end0
        exact ⟨rfl, HX.out⟩
end Go.Proofs.YtdalconphfgepaaDoor
