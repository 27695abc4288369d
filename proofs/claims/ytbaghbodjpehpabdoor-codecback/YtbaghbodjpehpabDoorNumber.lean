/- number of the reader of package codec. -/
import Derived.Test.YtbaghbodjpehpabDoorReader
namespace Go.Proofs.YtbaghbodjpehpabDoor
open Go.RowKit Go.Maps
attribute [local go_sem ↓] Go.wp_at_zero Go.wp_at_succ

def byteAt (s : ByteArray) (i : Nat) : Nat := (s.data.toList.getD i 0).toNat
theorem byteAt_get (s : ByteArray) (i : Nat) (h : i < s.size) : s[i].toNat = byteAt s i := by
  unfold byteAt
  rw [List.getD_eq_getElem?_getD]
  have : s.data.toList[i]? = some s[i] := by
    rw [List.getElem?_eq_getElem (by rw [Array.length_toList]; exact h)]
    rfl
  rw [this]
  rfl

def numV (s : ByteArray) (k : Nat) : Nat → Nat
  | 0 => 0
  | j + 1 => 10 * numV s k j + (byteAt s (k + j) - 48)

/-- The digits that stand at k end at E. -/
structure RunAt (s : ByteArray) (k E : Nat) : Prop where
  le : k ≤ E
  end_le : E ≤ s.size
  digs : ∀ i, k ≤ i → i < E → digB (byteAt s i) = true
  stop : E = s.size ∨ digB (byteAt s E) = false

def numOk (s : ByteArray) (k E : Nat) : Prop := E ≠ k ∧ E ≤ k + 3 ∧ ¬ (byteAt s k = 48 ∧ k + 1 < E)

def rdPos (w : World) (B : Nat) : Nat := match w.cell? ⟨B, 1, none⟩ with
  | some (.int _ z) => z.toNat
  | _ => 0
theorem rdPos_at {w w' : World} {B k : Nat} {s : ByteArray} (h : RdAt w w' B s k) : rdPos w' B = k := by
  unfold rdPos
  rw [(cell_two h.box).2]
  simp

theorem ext_get (s : ByteArray) (a b i : Nat) (hb : b ≤ s.size) (h : i < (s.extract a b).size) : (s.extract a b)[i].toNat = byteAt s (a + i) := by
  have hs : (s.extract a b).size = b - a := by simp; omega
  have h' : a + i < s.size := by omega
  have e : (s.extract a b)[i] = s[a + i] := ByteArray.getElem_extract ..
  rw [e]
  exact byteAt_get s (a + i) h'

theorem numV_bd (s : ByteArray) (k : Nat) : ∀ j, (∀ i, i < j → byteAt s (k + i) ≤ 57) → j ≤ 3 → numV s k j ≤ 999
  | 0, _, _ => by simp [numV]
  | 1, h, _ => by have := h 0 (by omega); simp [numV] at *; omega
  | 2, h, _ => by have := h 0 (by omega); have := h 1 (by omega); simp [numV] at *; omega
  | 3, h, _ => by have := h 0 (by omega); have := h 1 (by omega); have := h 2 (by omega); simp [numV] at *; omega

set_option maxRecDepth 100000 in
set_option maxHeartbeats 2000000 in
theorem number_any (s : ByteArray) (B k E : Nat) (w : World) (hB : Two w B (.string s) (.int .i64 k) 45) (hs : s.size ≤ 20000) (hr : RunAt s k E) {F : Ending} (hF : (numOk s k E ∧ F = .returned (.int .i64 (numV s k (E - k)))) ∨ (¬ numOk s k E ∧ F = gaveUp 1 k)) :
    Calls Tryd.prog 34 #[.pointer (some ⟨B, 0, none⟩)] w fun e w' => e = F ∧ RdAt w w' B s E := by
  have hkE := hr.le
  have hEs := hr.end_le
  have HR : Hid _ := hr
  have HF : Hid _ := hF
  clear hr hF
  obtain ⟨a0, a1, a2⟩ := kk hB
  go_enter Tryd.func34, Tryd.ntmps34
  go_wp2
  go_loopw [11] (fun _ wr => ∃ j : Nat, k ≤ j ∧ j ≤ E ∧ RdAt w wr B s j) (fun _ wr => s.size - rdPos wr B)
  case atStart => exact ⟨k, Nat.le_refl _, hkE, rd_refl hB⟩
  case round =>
    obtain ⟨j, hj1, hj2, hrd⟩ := hrel
    have hpos := rdPos_at hrd
    obtain ⟨c0, c1, c2⟩ := kk hrd.box
    clear a0 a1 a2
    by_cases hjE : j < E
    · have hlt : j < s.size := by omega
      have k1 : (0 : Int) ≤ (j : Int) := by omega
      have k2 : (j : Int) < (s.size : Int) := by omega
      have hX := byteAt_get s j hlt
      have hd := HR.out.digs j hj1 hjE
      generalize byteAt s j = X at hX hd
      go_wp2
      go_quiet ((go_at_call 42; exact Calls.quiet_of_same (isDigit_any X _)))
      have hr1 := rd_drew hrd.box nq
      obtain ⟨d0, d1, d2⟩ := kk hr1.box
      have hr2 := hr1.trans (rd_put hr1.box (j + 1))
      have hr3 := hrd.trans hr2
      generalize wr.drewN nq = V at d0 d1 d2 hr3 ⊢
      clear c0 c1 c2 hr1 hr2
      have hc : ((j + 1 : Nat) : Int) = (j : Int) + 1 := by omega
      rw [hc] at hr3
      go_wp2
      go_roundw
      case rel => exact ⟨j + 1, by omega, by omega, ⟨by have := hr3.box; rw [hc]; exact this, hr3.kept⟩⟩
      case measure =>
        have e1 : rdPos (V.setCell ⟨B, 1, none⟩ (.int .i64 ((j : Int) + 1))) B = j + 1 := by
          unfold rdPos
          rw [(cell_two hr3.box).2]
          rfl
        rw [e1, hpos]
        omega
    · have hjj : j = E := by omega
      subst hjj
      have e1 : (0 : Int) ≤ (k : Int) := by omega
      have e2 : (k : Int) ≤ (j : Int) := by omega
      have e3 : (j : Int) ≤ (s.size : Int) := by omega
      by_cases hst : j = s.size
      · subst hst
        go_wp2
        go_quiet ((go_at_call 42; exact Calls.quiet_of_same (isDigit_any 0 _)))
        have hr1 := hrd.trans (rd_drew hrd.box nq)
        generalize wr.drewN nq = V at hr1 ⊢
        clear c0 c1 c2 hrd hpos
        obtain ⟨d0, d1, d2⟩ := kk hr1.box
        go_upto_region 4 with fail
        go_quiet (fail)
        have hr2 := hr1.trans (rd_drew hr1.box nq)
        generalize V.drewN nq = V2 at hr2 ⊢
        clear d0 d1 d2 hr1
        go_upto_region 5 with fail
        have hg : ∀ i (h : i < (s.extract k s.size).size), (s.extract k s.size)[i].toNat = byteAt s (k + i) := fun i h => ext_get s k s.size i (Nat.le_refl _) h
        have hT : (s.extract k s.size).size = s.size - k := by simp
        obtain ⟨D, hD⟩ : ∃ D, D + k = s.size := ⟨s.size - k, by omega⟩
        have hT2 : (s.extract k s.size).size = D := by omega
        clear hT
        generalize s.extract k s.size = t at hg hT2 ⊢
        have HGT : Hid _ := hg
        clear hg
        rcases HF.out with ⟨⟨n1, n2, n3⟩, rfl⟩ | ⟨hno, rfl⟩
        · have hD1 : 0 < D := by omega
          have hD3 : D ≤ 3 := by omega
          have he := ne_empty (show 0 < t.size by omega)
          have h3 : ¬ (3 : Int) < (D : Int) := by omega
          have h0 := HGT.out 0 (by omega)
          rw [Nat.add_zero] at h0
          have hbd : ∀ i, i < D → 48 ≤ byteAt s (k + i) ∧ byteAt s (k + i) ≤ 57 := fun i hi => digB_iff.1 (HR.out.digs (k + i) (by omega) (by omega))
          have HBD : Hid _ := hbd
          have hc : ((byteAt s k : Int) == 48) = false ∨ (((byteAt s k : Int) == 48) = true ∧ ¬ (1 : Int) < (D : Int)) := by
            by_cases h : byteAt s k = 48
            · right; have : ¬ k + 1 < s.size := fun h' => n3 ⟨h, h'⟩; exact ⟨by simp [h], by omega⟩
            · left; simp; omega
          have hjk : s.size - k = D := by omega
          have HJK : Hid _ := hjk
          clear hbd n3 hjk
          generalize hx0 : byteAt s k = x0 at h0 hc
          clear hx0
          rcases hc with hc | ⟨hc, hc'⟩
          all_goals
            go_wp2
            go_loop [5, 71] (fun s5 s71 => ∃ i : Nat, i ≤ D ∧ s71 = .int .i64 i ∧ s5 = .int .i64 (numV s k i)) (fun _ i => D - (intOf i).toNat)
            case atStart => exact ⟨0, Nat.zero_le _, rfl, rfl⟩
            case round =>
              obtain ⟨i, hi, rfl, rfl⟩ := hrel
              have hb1 := numV_bd s k i (fun a ha => (HBD.out a (by omega)).2) (by omega)
              by_cases hi2 : i < D
              · have hlt : i < t.size := by omega
                have hgi := HGT.out i hlt
                obtain ⟨y1, y2⟩ := HBD.out i hi2
                have hnv : numV s k (i + 1) = 10 * numV s k i + (byteAt s (k + i) - 48) := rfl
                have HNV : Hid _ := hnv
                clear hnv
                generalize byteAt s (k + i) = Y at hgi y1 y2 HNV
                generalize numV s k i = Z at hb1 HNV ⊢
                go_wp2
                go_round
                case rel => exact ⟨i + 1, by omega, by go_num, by rw [HNV.out]; go_num⟩
                case measure => simp [intOf]; omega
              · have : i = D := by omega
                subst this
                go_wp2
                go_ret
                exact ⟨by rw [HJK.out]; rfl, hr2⟩
        · by_cases hD1 : D = 0
          · have he : t.toList.isEmpty = true := by
              rw [ByteArray.toList_eq]
              have : t.data.toList.length = 0 := by rw [Array.length_toList]; exact hT2.trans hD1
              rw [List.isEmpty_iff]
              exact List.length_eq_zero_iff.1 this
            go_wp2_with (go_at_call 32; refine (giveUp_any _ _ _).mono ?_; rintro e w2 ⟨rfl, rfl⟩)
            exact ⟨rfl, rfl, hr2⟩
          · have he := ne_empty (show 0 < t.size by omega)
            by_cases hD3 : 3 < D
            · have h3 : (3 : Int) < (D : Int) := by omega
              go_wp2_with (go_at_call 32; refine (giveUp_any _ _ _).mono ?_; rintro e w2 ⟨rfl, rfl⟩)
              exact ⟨rfl, rfl, hr2⟩
            · have h3 : ¬ (3 : Int) < (D : Int) := by omega
              have h0 := HGT.out 0 (by omega)
              rw [Nat.add_zero] at h0
              have hc : byteAt s k = 48 ∧ k + 1 < s.size := by
                by_cases h : byteAt s k = 48 ∧ k + 1 < s.size
                · exact h
                · exact absurd ⟨by omega, by omega, h⟩ hno
              rw [hc.1] at h0
              have h1 : (1 : Int) < (D : Int) := by omega
              go_wp2_with (go_at_call 32; refine (giveUp_any _ _ _).mono ?_; rintro e w2 ⟨rfl, rfl⟩)
              exact ⟨rfl, rfl, hr2⟩
      · have hlt : j < s.size := by omega
        have hdg : digB (byteAt s j) = false := by
          rcases HR.out.stop with h | h
          · exact absurd h hst
          · exact h
        have k1 : (0 : Int) ≤ (j : Int) := by omega
        have k2 : (j : Int) < (s.size : Int) := by omega
        have hX := byteAt_get s j hlt
        generalize byteAt s j = X at hX hdg
        go_wp2
        go_quiet ((go_at_call 42; exact Calls.quiet_of_same (isDigit_any X _)))
        have hr1 := hrd.trans (rd_drew hrd.box nq)
        generalize wr.drewN nq = V at hr1 ⊢
        clear c0 c1 c2 hrd hpos
        obtain ⟨d0, d1, d2⟩ := kk hr1.box
        go_upto_region 4 with fail
        go_quiet (fail)
        have hr2 := hr1.trans (rd_drew hr1.box nq)
        generalize V.drewN nq = V2 at hr2 ⊢
        clear d0 d1 d2 hr1
        go_upto_region 5 with fail
        have hg : ∀ i (h : i < (s.extract k j).size), (s.extract k j)[i].toNat = byteAt s (k + i) := fun i h => ext_get s k j i hEs h
        have hT : (s.extract k j).size = j - k := by simp; omega
        obtain ⟨D, hD⟩ : ∃ D, D + k = j := ⟨j - k, by omega⟩
        have hT2 : (s.extract k j).size = D := by omega
        clear hT
        generalize s.extract k j = t at hg hT2 ⊢
        have HGT : Hid _ := hg
        clear hg
        rcases HF.out with ⟨⟨n1, n2, n3⟩, rfl⟩ | ⟨hno, rfl⟩
        · have hD1 : 0 < D := by omega
          have hD3 : D ≤ 3 := by omega
          have he := ne_empty (show 0 < t.size by omega)
          have h3 : ¬ (3 : Int) < (D : Int) := by omega
          have h0 := HGT.out 0 (by omega)
          rw [Nat.add_zero] at h0
          have hbd : ∀ i, i < D → 48 ≤ byteAt s (k + i) ∧ byteAt s (k + i) ≤ 57 := fun i hi => digB_iff.1 (HR.out.digs (k + i) (by omega) (by omega))
          have HBD : Hid _ := hbd
          have hc : ((byteAt s k : Int) == 48) = false ∨ (((byteAt s k : Int) == 48) = true ∧ ¬ (1 : Int) < (D : Int)) := by
            by_cases h : byteAt s k = 48
            · right; have : ¬ k + 1 < j := fun h' => n3 ⟨h, h'⟩; exact ⟨by simp [h], by omega⟩
            · left; simp; omega
          have hjk : j - k = D := by omega
          have HJK : Hid _ := hjk
          clear hbd n3 hjk
          generalize hx0 : byteAt s k = x0 at h0 hc
          clear hx0
          rcases hc with hc | ⟨hc, hc'⟩
          all_goals
            go_wp2
            go_loop [5, 71] (fun s5 s71 => ∃ i : Nat, i ≤ D ∧ s71 = .int .i64 i ∧ s5 = .int .i64 (numV s k i)) (fun _ i => D - (intOf i).toNat)
            case atStart => exact ⟨0, Nat.zero_le _, rfl, rfl⟩
            case round =>
              obtain ⟨i, hi, rfl, rfl⟩ := hrel
              have hb1 := numV_bd s k i (fun a ha => (HBD.out a (by omega)).2) (by omega)
              by_cases hi2 : i < D
              · have hlt : i < t.size := by omega
                have hgi := HGT.out i hlt
                obtain ⟨y1, y2⟩ := HBD.out i hi2
                have hnv : numV s k (i + 1) = 10 * numV s k i + (byteAt s (k + i) - 48) := rfl
                have HNV : Hid _ := hnv
                clear hnv
                generalize byteAt s (k + i) = Y at hgi y1 y2 HNV
                generalize numV s k i = Z at hb1 HNV ⊢
                go_wp2
                go_round
                case rel => exact ⟨i + 1, by omega, by go_num, by rw [HNV.out]; go_num⟩
                case measure => simp [intOf]; omega
              · have : i = D := by omega
                subst this
                go_wp2
                go_ret
                exact ⟨by rw [HJK.out]; rfl, hr2⟩
        · by_cases hD1 : D = 0
          · have he : t.toList.isEmpty = true := by
              rw [ByteArray.toList_eq]
              have : t.data.toList.length = 0 := by rw [Array.length_toList]; exact hT2.trans hD1
              rw [List.isEmpty_iff]
              exact List.length_eq_zero_iff.1 this
            go_wp2_with (go_at_call 32; refine (giveUp_any _ _ _).mono ?_; rintro e w2 ⟨rfl, rfl⟩)
            exact ⟨rfl, rfl, hr2⟩
          · have he := ne_empty (show 0 < t.size by omega)
            by_cases hD3 : 3 < D
            · have h3 : (3 : Int) < (D : Int) := by omega
              go_wp2_with (go_at_call 32; refine (giveUp_any _ _ _).mono ?_; rintro e w2 ⟨rfl, rfl⟩)
              exact ⟨rfl, rfl, hr2⟩
            · have h3 : ¬ (3 : Int) < (D : Int) := by omega
              have h0 := HGT.out 0 (by omega)
              rw [Nat.add_zero] at h0
              have hc : byteAt s k = 48 ∧ k + 1 < j := by
                by_cases h : byteAt s k = 48 ∧ k + 1 < j
                · exact h
                · exact absurd ⟨by omega, by omega, h⟩ hno
              rw [hc.1] at h0
              have h1 : (1 : Int) < (D : Int) := by omega
              go_wp2_with (go_at_call 32; refine (giveUp_any _ _ _).mono ?_; rintro e w2 ⟨rfl, rfl⟩)
              exact ⟨rfl, rfl, hr2⟩
end Go.Proofs.YtbaghbodjpehpabDoor
