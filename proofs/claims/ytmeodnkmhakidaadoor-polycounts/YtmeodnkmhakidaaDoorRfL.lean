/- The document's own sets without an edge: R.Loose. -/
import Derived.Test.YtmeodnkmhakidaaDoorLsMM
import Derived.Test.YtmeodnkmhakidaaDoorRfM
namespace Go.Proofs.YtmeodnkmhakidaaDoor
set_option maxRecDepth 8000
open Go.RowKit Go.Maps
attribute [local go_sem ↓] Go.wp_at_zero Go.wp_at_succ
theorem wrapI_nat {a : Nat} (h : a < 2 ^ 63) : IntKind.i64.wrap (a : Int) = (a : Int) := by rw [IntKind.wrap_i64]; omega
theorem ofInt64_nat {a : Nat} (h : a < 2 ^ 64) : (BitVec.ofInt 64 (a : Int)).toNat = a := by
  rw [BitVec.toNat_ofInt]; omega
theorem bitI {s v : Nat} (hs : s < 2 ^ 62) : bits .and .i64 ((s : Int) / 2 ^ v) 1 = (((s.testBit v).toNat : Nat) : Int) := by
  have e : (s : Int) / 2 ^ v = ((s / 2 ^ v : Nat) : Int) := by push_cast; rfl
  have hl : s / 2 ^ v < 2 ^ 62 := Nat.lt_of_le_of_lt (Nat.div_le_self _ _) hs
  rw [e, show (1 : Int) = ((1 : Nat) : Int) from rfl]
  show IntKind.i64.wrap ((BitVec.ofInt 64 ((s / 2 ^ v : Nat) : Int) &&& BitVec.ofInt 64 ((1 : Nat) : Int)).toNat : Nat) = _
  rw [BitVec.toNat_and, ofInt64_nat (by omega), ofInt64_nat (by decide), Nat.and_one_is_mod, wrapI_nat (by omega), Nat.testBit_eq_decide_div_mod_eq]
  rcases Nat.mod_two_eq_zero_or_one (s / 2 ^ v) with h | h <;> simp [h]
theorem getD_memL {L : List Nat} {m : Nat} (h : ∀ i, L.getD i 0 < m) : ∀ x ∈ L, x < m := fun x hx => by
  obtain ⟨i, hi, rfl⟩ := List.getElem_of_mem hx
  have := h i
  rw [List.getD_eq_getElem?_getD, List.getElem?_eq_getElem hi] at this
  exact this
def okE (adj : Nat → Nat → Bool) (s v k : Nat) : Bool := (List.range k).all fun x => !(s.testBit x && adj v x)
theorem okE_succ (adj : Nat → Nat → Bool) (s v k : Nat) : okE adj s v (k + 1) = (okE adj s v k && !(s.testBit k && adj v k)) := by
  unfold okE
  rw [List.range_succ, List.all_append]
  simp
theorem okD_succ (adj : Nat → Nat → Bool) (s v : Nat) : okD adj s (v + 1) = (okD adj s v && (!s.testBit v || okE adj s v v)) := by
  unfold okD okE
  rw [List.range_succ, List.all_append]
  simp
theorem crd_next (s : Nat → Bool) (v : Nat) : crd (v + 1) s = crd v s + if s v = true then 1 else 0 := rfl
/-- The tally so far is a row of one's own. -/
def LzA (w A : World) (v : Value) (n : Nat) (L : List Nat) : Prop := n = L.length ∧ A.ownsRow w.heap.size 3 1 v n (qv L) ∧ Below w.heap.size w A
set_option maxHeartbeats 16000000 in
theorem refLoose_call {w : World} {go : Option Addr} {gc N : Nat} {pz : Int → Int → Bool} (hG : GridAt w (.slice go N gc) N pz) (hN : N ≤ 12) {T : List Nat} (hTe : T = (lzL N (fun (i j : Nat) => pz i j) (2 ^ N)).foldl bump []) :
    Calls Tryd.prog 13 #[.slice go N gc] w fun e w' => (∃ vo vc, e = .returned (.slice vo T.length vc) ∧ w'.ownsRow w.heap.size 3 1 (.slice vo T.length vc) T.length (qv T)) ∧ Below w.heap.size w w' := by
  obtain ⟨i3, hi3, hy0, hy1, hy2⟩ := info_parts Tryd.info3
  have HG : Hid (∀ i : Nat, i < N → ∃ g b, go = some ⟨g, 0, none⟩ ∧ w.cell? ⟨g, i, none⟩ = some (.slice (some ⟨b, 0, none⟩) N N) ∧ ∀ j : Nat, j < N → w.cell? ⟨b, j, none⟩ = some (.bool (pz i j))) := by
    obtain ⟨ao, cap, e, h⟩ := hG
    cases e
    exact h
  obtain ⟨p, hp⟩ : ∃ p : Nat → Nat → Bool, p = fun (i j : Nat) => pz i j := ⟨_, rfl⟩
  rw [← hp] at hTe
  have HP : Hid (∀ i j : Nat, pz i j = p i j) := fun i j => by rw [hp]
  obtain ⟨M, hM⟩ : ∃ M, M = 2 ^ N := ⟨_, rfl⟩
  have hM1 : M ≤ 2 ^ 12 := by rw [hM]; exact Nat.pow_le_pow_right (by decide) hN
  have hcast : (M : Int) = (2 : Int) ^ N := by rw [hM]; simp
  have HSH : Hid (IntKind.i64.wrap ((2 : Int) ^ N) = (M : Int)) := by
    show IntKind.i64.wrap ((2 : Int) ^ N) = (M : Int)
    rw [← hcast, IntKind.wrap_i64]; omega
  rw [← hM] at hTe
  have HT : Hid (T = (lzL N p M).foldl bump []) := hTe
  clear hG hp hM hcast hTe
  go_enter Tryd.func13, Tryd.ntmps13
  go_upto_region 3 with (fail)
  go_loopw [3, 4, 5, 6, 7, 8] (fun s3 s4 _ _ _ _ wz => ∃ (s n : Nat) (vo : Option Addr) (vc : Nat), s ≤ M ∧ s4 = .int .i64 (s : Int) ∧ s3 = .slice vo n vc ∧ Hid (LzA w wz (.slice vo n vc) n ((lzL N p s).foldl bump []))) (fun _ s4 _ _ _ _ _ => M - (numOf s4).toNat)
  case atStart => exact ⟨0, 0, none, 0, Nat.zero_le _, rfl, rfl, ⟨rfl, World.ownsRow_nil _ _ _ _, Below.refl _ _⟩⟩
  case round =>
    obtain ⟨s, n, vo, vc, hs, rfl, rfl, hB⟩ := hrel
    have hsh := HSH.out
    have hN63 : (N : Int) < 64 := by omega
    have hN0 : (0 : Int) ≤ (N : Int) := by omega
    by_cases hlt : s < M
    · have k1 : decide ((s : Int) < (M : Int)) = true := by simp; omega
      have n1 : (s : Int) < (M : Int) := by omega
      have hs62 : s < 2 ^ 62 := by omega
      go_upto_region 8 with (fail)
      clear k1 n1 hsh
      generalize wr = WR at *
      go_loopw [5, 6, 7, 8] (fun s5 s6 s7 _ wz => ∃ (v c : Nat) (ok : Bool), v ≤ N ∧ c ≤ v ∧ s7 = .int .i64 (v : Int) ∧ s5 = .int .i64 (c : Int) ∧ s6 = .bool ok ∧ wz = WR ∧ Hid (c = crd v s.testBit ∧ ok = okD p s v)) (fun _ _ s7 _ _ => N - (numOf s7).toNat)
      case atStart => exact ⟨0, 0, true, Nat.zero_le _, Nat.le_refl _, rfl, rfl, rfl, rfl, rfl, rfl⟩
      case round =>
        obtain ⟨v, c, ok, hv, hc, rfl, rfl, rfl, rfl, hJ⟩ := hrel
        by_cases hvN : v < N
        · have k1 : decide ((v : Int) < (N : Int)) = true := by simp; omega
          have hbt := bitI (v := v) hs62
          have v0 : (0 : Int) ≤ (v : Int) := by omega
          have v1 : (v : Int) < 64 := by omega
          have v2 : (v : Int) < (N : Int) := by omega
          cases hb1 : s.testBit v with
          | false =>
            have k2 : (bits .and .i64 ((s : Int) / 2 ^ v) 1 == 0) = true := by rw [hbt, hb1]; rfl
            have HN : Hid (c = crd (v + 1) s.testBit ∧ ok = okD p s (v + 1)) := ⟨by rw [crd_next, hb1, hJ.out.1]; rfl, by rw [okD_succ, hb1, hJ.out.2]; simp⟩
            clear hJ hbt hb1
            go_wp2
            go_roundw
            case rel => exact ⟨v + 1, c, ok, by omega, by omega, by go_num, rfl, rfl, trivial, HN⟩
            case measure => simp [numOf]; omega
          | true =>
            have k2 : (bits .and .i64 ((s : Int) / 2 ^ v) 1 == 0) = false := by rw [hbt, hb1]; rfl
            obtain ⟨g, gb, rfl, cg0, cgr⟩ := HG.out v hvN
            have cg : wr.cell? ⟨g, v, none⟩ = some (.slice (some ⟨gb, 0, none⟩) N N) := (hB.out.2.2.cell (World.block_lt_of_cell? w _ cg0)).trans cg0
            have HCG : Hid (∀ j : Nat, j < N → wr.cell? ⟨gb, j, none⟩ = some (.bool (p v j))) := fun j hj => by rw [← HP.out]; exact (hB.out.2.2.cell (World.block_lt_of_cell? w _ (cgr j hj))).trans (cgr j hj)
            have HJ : Hid (c = crd v s.testBit ∧ ok = okD p s v ∧ s.testBit v = true) := ⟨hJ.out.1, hJ.out.2, hb1⟩
            have b1 : -9223372036854775808 ≤ (c : Int) + 1 := by omega
            have b2 : (c : Int) + 1 < 9223372036854775808 := by omega
            clear hJ hbt hb1 cgr cg0
            go_upto_region 13 with (fail)
            go_loopw [6, 8] (fun s6 s8 wz => ∃ (k : Nat) (o3 : Bool), k ≤ v ∧ s8 = .int .i64 (k : Int) ∧ s6 = .bool o3 ∧ wz = wr ∧ Hid (o3 = (ok && okE p s v k))) (fun _ s8 _ => v - (numOf s8).toNat)
            case atStart => exact ⟨0, ok, Nat.zero_le _, rfl, rfl, rfl, by show ok = (ok && okE p s v 0); rw [show okE p s v 0 = true from rfl, Bool.and_true]⟩
            case round =>
              obtain ⟨k, o3, hk, rfl, rfl, rfl, hK⟩ := hrel
              by_cases hkv : k < v
              · have k3 : decide ((k : Int) < (v : Int)) = true := by simp; omega
                have n3 : (k : Int) < (v : Int) := by omega
                cases o3 with
                | false =>
                  have HN : Hid (false = (ok && okE p s v (k + 1))) := by
                    have h := hK.out
                    show false = (ok && okE p s v (k + 1))
                    rw [okE_succ, ← Bool.and_assoc, ← h]; rfl
                  clear hK
                  go_wp2
                  go_roundw
                  case rel => exact ⟨k + 1, false, by omega, by go_num, rfl, trivial, HN⟩
                  case measure => simp [numOf]; omega
                | true =>
                  have hbk := bitI (v := k) hs62
                  have w0 : (0 : Int) ≤ (k : Int) := by omega
                  have w1 : (k : Int) < 64 := by omega
                  have w2 : (k : Int) < (N : Int) := by omega
                  cases hb2 : s.testBit k with
                  | false =>
                    have k4 : (bits .and .i64 ((s : Int) / 2 ^ k) 1 == 1) = false := by rw [hbk, hb2]; rfl
                    have HN : Hid (true = (ok && okE p s v (k + 1))) := by
                      have h := hK.out
                      show true = (ok && okE p s v (k + 1))
                      rw [okE_succ, ← Bool.and_assoc, ← h, hb2]; rfl
                    clear hK hbk hb2
                    go_wp2
                    go_roundw
                    case rel => exact ⟨k + 1, true, by omega, by go_num, rfl, trivial, HN⟩
                    case measure => simp [numOf]; omega
                  | true =>
                    have k4 : (bits .and .i64 ((s : Int) / 2 ^ k) 1 == 1) = true := by rw [hbk, hb2]; rfl
                    have ck := HCG.out k (by omega)
                    obtain ⟨q, hq⟩ : ∃ q, q = p v k := ⟨_, rfl⟩
                    rw [← hq] at ck
                    have HN : Hid ((!q) = (ok && okE p s v (k + 1))) := by
                      have h := hK.out
                      show (!q) = (ok && okE p s v (k + 1))
                      rw [okE_succ, ← Bool.and_assoc, ← h, hb2, ← hq]; rfl
                    clear hK hbk hb2 hq
                    go_wp2
                    go_roundw
                    case rel => exact ⟨k + 1, !q, by omega, by go_num, rfl, trivial, HN⟩
                    case measure => simp [numOf]; omega
              · obtain rfl : k = v := by omega
                have HN : Hid (c + 1 = crd (k + 1) s.testBit ∧ o3 = okD p s (k + 1)) := ⟨by rw [crd_next, HJ.out.2.2, HJ.out.1]; rfl, by rw [okD_succ, HJ.out.2.2, hK.out, HJ.out.2.1]; rfl⟩
                clear hK
                go_wp2
                go_roundw
                case rel => exact ⟨k + 1, c + 1, o3, by omega, by omega, by go_num, by go_num, rfl, trivial, HN⟩
                case measure => simp [numOf]; omega
        · obtain rfl : v = N := by omega
          have k1 : decide ((v : Int) < (v : Int)) = false := by simp
          cases ok with
          | false =>
            have HN : Hid (LzA w wr (.slice vo n vc) n ((lzL v p (s + 1)).foldl bump [])) := by
              show LzA _ _ _ _ _
              rw [lzL, if_neg (by rw [← hJ.out.2]; decide), List.append_nil]
              exact hB.out
            clear hJ hB
            go_wp2
            go_roundw
            case rel => exact ⟨s + 1, n, vo, vc, by omega, by go_num, rfl, HN⟩
            case measure => simp [numOf]; omega
          | true =>
            obtain ⟨L, hL⟩ : ∃ L, L = (lzL v p s).foldl bump [] := ⟨_, rfl⟩
            have hcr := hJ.out.1
            have hbL : bump L c = (lzL v p (s + 1)).foldl bump [] := by
              rw [lzL, if_pos hJ.out.2.symm, List.foldl_append, ← hL, hcr]; rfl
            have hLx : ∀ x ∈ L, x < 1000000 := getD_memL fun i => by
              have h1 := fold_get (lzL v p s) [] i
              have h2 := lzL_len (N := v) (adj := p) s
              have h3 : ([] : List Nat).getD i 0 = 0 := by simp
              rw [← hL, h3] at h1
              omega
            have hLl : L.length ≤ 13 := by
              rw [hL]
              exact fold_len (by simp) fun k hk => by have := lzL_mem s k hk; omega
            have HB : Hid (LzA w wr (.slice vo n vc) n L ∧ (∀ x ∈ L, x < 1000000) ∧ bump L c = (lzL v p (s + 1)).foldl bump []) := ⟨by rw [hL]; exact hB.out, hLx, hbL⟩
            have hn13 : n ≤ 13 := by rw [HB.out.1.1]; exact hLl
            clear hJ hB hL hbL hLx hLl hcr HG HP HT HSH
            go_upto_region 17 with (fail)
            generalize wr = WR at *
            go_loopg [3] (c + 1 - n) (fun g s3 wz => ∃ (i m : Nat) (xo : Option Addr) (xc : Nat), i + g = c + 1 - n ∧ m ≤ n + i ∧ n + i ≤ m ∧ s3 = .slice xo m xc ∧ Hid (LzA w wz (.slice xo m xc) m (L ++ List.replicate i 0)))
            case atStart => exact ⟨0, n, vo, vc, by omega, by omega, by omega, rfl, by rw [List.replicate_zero, List.append_nil]; exact HB.out.1⟩
            case round =>
              obtain ⟨i, m, xo, xc, hi, hm1, hm2, rfl, hK⟩ := hrel
              by_cases hmc : m ≤ c
              · have k3 : decide ((m : Int) ≤ (c : Int)) = true := by simp; omega
                go_wp2_with (at_builtin; refine wpList_append_own _ rfl _ _ 29 rfl w.heap.size 3 i3 (.int .i64 0) 1 8 Tryd.underlying29 hi3 hy0 hy1 hy2 rfl (by decide) _ _ _ rfl (hK.out.2.1.alloc _) ⟨wr.heap.size, 0, none⟩ 1 1 [.int .i64 0] rfl rfl ?n1 ?n2 ?n3 ?n4 ?n5 ?_)
                case n1 =>
                  intro j u hj
                  match j, hj with
                  | 0, hj => simp at hj; subst hj; simp [Addr.add]
                case n2 => intro u hu; simp at hu; subst hu; rfl
                case n3 => unfold maxLen; omega
                case n4 => omega
                case n5 => have := hK.out.2.2.size; simp; omega
                intro v' w3 hown hgrow _
                obtain ⟨vo', vc', rfl⟩ := form_row hown
                have HG2 : Hid (LzA w w3 (.slice vo' (m + 1) vc') (m + 1) (L ++ List.replicate (i + 1) 0)) := by
                  have e2 : L ++ List.replicate (i + 1) 0 = (L ++ List.replicate i 0) ++ [0] := by rw [List.replicate_succ', List.append_assoc]
                  refine ⟨?_, ?_, ?_⟩
                  · have := hK.out.1
                    rw [e2, List.length_append, ← this]; rfl
                  · rw [e2, qv_app]; exact hown
                  · refine (below_alloc hK.out.2.2 _).grown hgrow ?_ (fun k hk => (hK.out.2.1.lt k hk).1)
                    have := hK.out.2.2.size; simp; omega
                clear hown hgrow hK
                go_wp2
                go_roundg (c + 1 - n - (i + 1))
                case measure => omega
                case rel => exact ⟨i + 1, m + 1, vo', vc', by omega, by omega, by omega, rfl, HG2⟩
              · have k3 : decide ((m : Int) ≤ (c : Int)) = false := by simp; omega
                have hcm : c < m := by omega
                obtain ⟨L2, hL2⟩ : ∃ L2, L2 = L ++ List.replicate i 0 := ⟨_, rfl⟩
                rw [← hL2] at hK
                obtain ⟨x, hx⟩ : ∃ x, L2[c]? = some x := ⟨_, List.getElem?_eq_getElem (by rw [← hK.out.1]; exact hcm)⟩
                have hq := hK.out.2.1
                rw [hK.out.1] at hq
                obtain ⟨g, hg, cx⟩ := qcell hq hx
                subst hg
                have fx : wr.frozen? ⟨g, c, none⟩ = false := by
                  obtain ⟨cur, hc⟩ := own_cells hq rfl
                  exact box_free (cs := cur) hc c
                have hx9 : x < 1000000 := by
                  have := List.mem_of_getElem? hx
                  rw [hL2] at this
                  rcases List.mem_append.1 this with h | h
                  · exact HB.out.2.1 x h
                  · have := (List.mem_replicate.1 h).2; omega
                have k0 : (0 : Int) ≤ (c : Int) := by omega
                have k2 : (c : Int) < (m : Int) := by omega
                have b1 : -9223372036854775808 ≤ (x : Int) + 1 := by omega
                have b2 : (x : Int) + 1 < 9223372036854775808 := by omega
                have hbump : bump L c = L2.set c (x + 1) := by
                  unfold bump
                  have e : c + 1 - L.length = i := by have := HB.out.1.1; omega
                  rw [e, ← hL2]
                  congr 1
                  have h2 := hx
                  rw [hL2] at h2
                  by_cases hkl : c < L.length
                  · rw [List.getElem?_append_left hkl] at h2
                    rw [List.getD_eq_getElem?_getD, h2]; rfl
                  · rw [List.getElem?_append_right (by omega), List.getElem?_replicate] at h2
                    split at h2
                    · cases h2
                      rw [List.getD_eq_getElem?_getD, List.getElem?_eq_none (by omega)]; rfl
                    · cases h2
                have HN : Hid (LzA w (wr.setCell ⟨g, c, none⟩ (.int .i64 ((x : Int) + 1))) (.slice (some ⟨g, 0, none⟩) m xc) m ((lzL v p (s + 1)).foldl bump [])) := by
                  show LzA _ _ _ _ _
                  rw [← HB.out.2.2, hbump]
                  refine ⟨by rw [List.length_set]; exact hK.out.1, ?_, hK.out.2.2.setCell (hq.lt g rfl).1 _⟩
                  obtain ⟨hl1, hown⟩ := hK.out.2.1
                  rcases hown with ⟨h0, _⟩ | ⟨g', cap, cur, e1, h3, h4, h5, h6, h7, h8⟩
                  · cases h0
                  · cases e1
                    refine ⟨by simp [qv, hK.out.1], Or.inr ⟨g, xc, cur.setIfInBounds c (.int .i64 ((x : Int) + 1)), rfl, h3, box_set (cs := cur) h4 c _, h5, h6, by simpa using h7, ?_⟩⟩
                    rw [Array.toList_setIfInBounds, List.take_set, h8]
                    unfold qv
                    rw [List.map_set]
                    rfl
                clear hK hq hx hbump hL2 HB hm1 hm2 hi
                go_wp2
                go_roundw
                case rel => exact ⟨s + 1, m, some ⟨g, 0, none⟩, xc, by omega, by go_num, rfl, HN⟩
                case measure => simp [numOf]; omega
    · obtain rfl : s = M := by omega
      go_wp2
      go_ret
      obtain ⟨h1, h2, h3⟩ := hB.out
      rw [← HT.out] at h1 h2
      subst h1
      exact ⟨⟨vo, vc, rfl, h2⟩, h3⟩
end Go.Proofs.YtmeodnkmhakidaaDoor
