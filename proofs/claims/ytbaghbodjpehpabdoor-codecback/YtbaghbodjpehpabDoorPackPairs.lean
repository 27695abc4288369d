/- packPairs of package codec: the bits of the edges. -/
import Derived.Test.YtbaghbodjpehpabDoorOrs
import Derived.Deep.Cut
namespace Go.Proofs.YtbaghbodjpehpabDoor
open Go.RowKit Go.Maps
attribute [local go_sem ↓] Go.wp_at_zero Go.wp_at_succ

theorem made_zero (n : Nat) : (madeCells (Value.int .u8 0).cells (n * 1)).toList = u8s (byF n (bitF [])) := by
  apply List.ext_getElem?
  intro t
  by_cases h : t < n
  · rw [List.getElem?_map, byF_get n _ h]
    simp [madeCells, Value.cells, h]
    rw [Nat.mod_one]
    rfl
  · simp [madeCells, h, byF]

theorem below_put {n : Nat} {w wr : World} {b o : Nat} (h : Below n w wr) (hb : n ≤ b) (u : Value) : Below n w (wr.setCell ⟨b, o, none⟩ u) := h.setCell hb u

def addTo (Y : List Int) (t : Nat) : List Int := (Y.take t).map (fun x => 63 + x) ++ Y.drop t
theorem addTo_get (Y : List Int) (t : Nat) : (addTo Y t)[t]? = Y[t]? := by
  unfold addTo
  by_cases h : t ≤ Y.length
  · rw [List.getElem?_append_right (by simp; omega)]
    simp
    rw [Nat.min_eq_left h]
    simp
  · rw [List.getElem?_eq_none (by simp; omega), List.getElem?_eq_none (by omega)]
theorem addTo_set (Y : List Int) (t : Nat) {y : Int} (hy : Y[t]? = some y) : (addTo Y t).set t (63 + y) = addTo Y (t + 1) := by
  have ht := (List.getElem?_eq_some_iff.1 hy).1
  have hv := (List.getElem?_eq_some_iff.1 hy).2
  unfold addTo
  rw [List.set_append_right _ _ (by simp; omega), List.drop_eq_getElem_cons ht, List.take_succ_eq_append_getElem ht, hv]
  simp
  rw [Nat.min_eq_left (by omega), Nat.sub_self]
  rfl

set_option maxRecDepth 100000 in
set_option maxHeartbeats 4000000 in
theorem packPairs_any (m : Nat) (p : Int → Int → Bool) (v : Value) (w : World) (hE : EdgesAt w v (allP m p)) (hm : m ≤ 100) (hl : (allP m p).length ≤ 1000) :
    Calls Tryd.prog 12 #[.agg #[.int .i64 m, v]] w fun e w' => e = .returned (.string (strOfNums (sixes (colsTo p m) (nby m)))) ∧ Below w.heap.size w w' := by
  obtain ⟨i1, hi1, hy0, hy1, hy2⟩ := info_parts Tryd.info5
  have hin : ∀ e ∈ allP m p, 0 ≤ e.1 ∧ e.1 < e.2 ∧ e.2 < m := fun e he => by
    obtain ⟨u, v, h1, h2, _, rfl⟩ := allP_mem.1 he
    simp
    omega
  obtain ⟨X, hX⟩ : ∃ X, sixes (colsTo p m) (nby m) = X := ⟨_, rfl⟩
  have hfin : X = (byF (nby m) (bitF (allP m p))).map (fun x => 63 + x) := by rw [← hX, byF_sixes]
  rw [hX]
  clear hX
  have hn : nby m ≤ 1000 := by have := prs_le100 m hm; unfold nby; omega
  have hpn : prs m ≤ 6 * nby m := by unfold nby; omega
  generalize allP m p = L at hE hl hin hfin
  obtain ⟨ao, cap, rfl, hl2, hI, hcells⟩ := hE
  have HC : Hid _ := hcells
  have HIN : Hid _ := hin
  have HF : Hid _ := hfin
  have HNB : Hid (nby m = nby m) := rfl
  clear hI hcells hin hfin
  have tg0 := two_new w (.int .i64 m) (.slice ao L.length cap) 24
  have hB0 := below_alloc (Below.refl w.heap.size w) (Obj.cells #[.int .i64 m, .slice ao L.length cap] 24)
  go_enter Tryd.func12, Tryd.ntmps12
  go_upto_region 2 with (first | (go_at_call 25; refine (bytesFor_any m _ (by omega)).mono ?_; rintro e w' ⟨rfl, rfl⟩) | (at_make; refine wpList_make_full _ rfl _ _ 51 rfl (w.heap.size + 1) 5 i1 (.int .u8 0) 1 Tryd.underlying51 hi1 hy0 hy1 .i64 .i64 _ _ (nby m) rfl rfl rfl rfl ?_ ?_ ?_ ?_; (rw [hy2]; omega); (unfold maxLen; omega); (simp); intro w1 hmade hg1))
  have hb1 := below_grown hg1
  rw [made_zero] at hmade
  simp only [World.size_alloc] at hmade
  have hB1 := below_next hB0 hb1
  obtain ⟨k0, k1⟩ := cell_two (two_next tg0 hb1)
  clear hg1 tg0 hb1 hB0
  generalize nby m = N at hmade hn hpn HF HNB ⊢
  go_wp2
  go_loopw [15] (fun s15 wr => ∃ k : Nat, k ≤ L.length ∧ s15 = .int .i64 k ∧ Below w.heap.size w wr ∧ wr.ownsRow (w.heap.size + 1) 5 1 (.slice (some ⟨w.heap.size + 1, 0, none⟩) N N) N (u8s (byF N (bitF (L.take k))))) (fun i _ => L.length - (intOf i).toNat)
  case atStart => exact ⟨0, Nat.zero_le _, rfl, hB1, by simpa using hmade⟩
  case round =>
    obtain ⟨k, hk, rfl, hbr, hown⟩ := hrel
    clear hmade k0 k1
    by_cases hlt : k < L.length
    · obtain ⟨b, off, rfl, cx, cy⟩ := HC.out k hlt
      obtain ⟨h0, h1, h2⟩ := HIN.out L[k] (List.getElem_mem _)
      have hst := bitF_take hlt
      obtain ⟨i, hi⟩ : ∃ i : Nat, L[k].1 = i := ⟨L[k].1.toNat, by omega⟩
      obtain ⟨j, hj⟩ : ∃ j : Nat, L[k].2 = j := ⟨L[k].2.toNat, by omega⟩
      rw [hi] at cx h0 h1 hst
      rw [hj] at cy h1 h2 hst
      simp only [Int.toNat_natCast] at hst
      have hij : i < j := by omega
      have hjm : j < m := by omega
      have hq := plc_lt hij hjm
      clear hi hj
      have hq6 : plc i j / 6 < N := by omega
      have hbx := World.block_lt_of_cell? w _ cx
      rw [← hbr.cell (by exact hbx)] at cx
      rw [← hbr.cell (by exact hbx)] at cy
      have hset := byF_set N (bitF (L.take k)) (plc i j)
      rw [← hst] at hset
      have hc := hown.cellAt (plc i j / 6) (by omega)
      rw [List.getElem?_map, byF_get N _ hq6] at hc
      have hbd := hvf6_bd (bitF (L.take k)) (6 * (plc i j / 6))
      generalize hvf (fun x => b2i (bitF (L.take k) x)) (6 * (plc i j / 6)) 6 = y0 at hset hc hbd
      simp only [Option.map_some] at hc
      have d1 := all_alloc hc
      have d2 := fun (o : Obj) => all_free (a := ⟨w.heap.size + 1, plc i j / 6, none⟩) (hown.lt _ rfl).2 (hown.frozenAt (plc i j / 6)) o
      have HS : Hid _ := hset
      have hpl : plc i j ≤ 4950 := by have := prs_le100 m hm; omega
      clear hst hset
      have p0 : (0 : Int) ≤ (plc i j : Int) / 6 := by omega
      have p1 : (plc i j : Int) / 6 < (N : Int) := by omega
      have p2 : (0 : Int) ≤ (plc i j : Int) / 6 ∧ (plc i j : Int) / 6 < (N : Int) := ⟨p0, p1⟩
      have hw1 : IntKind.i64.wrap ((plc i j : Int) / 6) = (plc i j : Int) / 6 := by
        rw [IntKind.wrap_i64]
        omega
      have ht1 : ((plc i j : Int) / 6).toNat = plc i j / 6 := by omega
      have hk1 : (0 : Int) ≤ (k : Int) := by omega
      have hk2 : (k : Int) < (L.length : Int) := by omega
      go_wp2_with (go_at_call 26; refine (place_any i j _ (by omega) (by omega)).mono ?_; rintro e w' ⟨rfl, rfl⟩)
      go_region_with (go_at_call 27; refine (bit_any (plc i j) _ (by omega)).mono ?_; rintro e w' ⟨rfl, rfl⟩)
      all_goals
        have hst := (hown.alloc (Obj.cells #[.int .i64 i, .int .i64 j] 34)).stored (plc i j / 6) (.int .u8 (bits .or .u8 y0 (bitv (plc i j) : Nat)))
        have hst1 := hst.1
        rw [← List.map_set, HS.out] at hst1
        have hbs := (below_put (o := plc i j / 6) (below_alloc hbr (Obj.cells #[.int .i64 i, .int .i64 j] 34)) (Nat.le_succ w.heap.size) (.int .u8 (bits .or .u8 y0 (bitv (plc i j) : Nat)))).drew
        clear hst d1 d2 hc
        go_wp2
        go_roundw
        case rel => exact ⟨k + 1, by omega, by go_num, hbs, hst1⟩
        case measure => simp [intOf]; omega
    · have : k = L.length := by omega
      subst this
      rw [List.take_length] at hown
      have hbd : ∀ t, t < N → ∃ y, (byF N (bitF L))[t]? = some y ∧ 0 ≤ y ∧ y ≤ 63 := fun t ht => ⟨_, byF_get N _ ht, hvf6_bd _ _⟩
      have hXl := byF_len N (bitF L)
      generalize byF N (bitF L) = Y at hown HF hbd hXl
      have HBD : Hid _ := hbd
      clear hbd
      go_wp2
      go_loopw [36] (fun s36 wr => ∃ t : Nat, t ≤ N ∧ s36 = .int .i64 t ∧ Below w.heap.size w wr ∧ wr.ownsRow (w.heap.size + 1) 5 1 (.slice (some ⟨w.heap.size + 1, 0, none⟩) N N) N (u8s (addTo Y t))) (fun i _ => N - (intOf i).toNat)
      case atStart => exact ⟨0, Nat.zero_le _, rfl, hbr, by simpa [addTo] using hown⟩
      case round =>
        obtain ⟨t, ht, rfl, hbq, hownq⟩ := hrel
        clear hown
        by_cases hlt2 : t < N
        · obtain ⟨y, hy, hy1, hy2⟩ := HBD.out t hlt2
          have hc := hownq.cellAt t (by omega)
          rw [List.getElem?_map, addTo_get Y t, hy] at hc
          simp only [Option.map_some] at hc
          have hf := hownq.frozenAt t
          have hst := (hownq.stored t (.int .u8 (63 + y))).1
          rw [← List.map_set, addTo_set Y t hy] at hst
          have hbs := below_put (o := t) hbq (Nat.le_succ w.heap.size) (.int .u8 (63 + y))
          have t1 : (0 : Int) ≤ (t : Int) := by omega
          have t2 : (t : Int) < (N : Int) := by omega
          have hcm : y + 63 = 63 + y := Int.add_comm _ _
          go_wp2
          go_roundw
          case rel => exact ⟨t + 1, by omega, by go_num, hbs, hst⟩
          case measure => simp [intOf]; omega
        · have : t = N := by omega
          subst this
          have hfin : addTo Y t = X := by rw [HF.out]; unfold addTo; rw [List.take_of_length_le (by omega), List.drop_of_length_le (by omega), List.append_nil]
          have hxl : X.length = t := by rw [← hfin]; unfold addTo; simp; omega
          rw [hfin] at hownq
          have hcv := run_convert_row (w := wr) (X := X) (by rw [hxl]; exact hownq) Tryd.underlying51 Tryd.underlying5 Tryd.underlying9
          clear hfin
          go_wp2
          go_ret
          exact ⟨rfl, hbq⟩
end Go.Proofs.YtbaghbodjpehpabDoor
