/- What Pack writes is read bit by bit as it was, and a code that is read is what Pack writes: plain mathematics. -/
import Derived.Test.YtbaghbodjpehpabDoorUnpack
import Derived.Test.YtbaghbodjpehpabDoorOrs
namespace Go.Proofs.YtbaghbodjpehpabDoor
open Go.RowKit Go.Maps

theorem hv_six (L : List Int) (i : Nat) : hv L i 6 = 32 * L.getD i 0 + 16 * L.getD (i + 1) 0 + 8 * L.getD (i + 2) 0 + 4 * L.getD (i + 3) 0 + 2 * L.getD (i + 4) 0 + L.getD (i + 5) 0 := by
  simp only [hv]
  rw [Nat.add_zero]
  omega

theorem getD_01 {L : List Int} (h : ∀ x ∈ L, x = 0 ∨ x = 1) (i : Nat) : L.getD i 0 = 0 ∨ L.getD i 0 = 1 := by
  rw [List.getD_eq_getElem?_getD]
  cases e : L[i]? with
  | none => simp
  | some y => simpa using h y (List.mem_of_getElem? e)

theorem six_bit {b0 b1 b2 b3 b4 b5 : Int} (h0 : b0 = 0 ∨ b0 = 1) (h1 : b1 = 0 ∨ b1 = 1) (h2 : b2 = 0 ∨ b2 = 1) (h3 : b3 = 0 ∨ b3 = 1) (h4 : b4 = 0 ∨ b4 = 1) (h5 : b5 = 0 ∨ b5 = 1) :
    let c := (32 * b0 + 16 * b1 + 8 * b2 + 4 * b3 + 2 * b4 + b5).toNat
    (c / 32 % 2 = 1 ↔ b0 = 1) ∧ (c / 16 % 2 = 1 ↔ b1 = 1) ∧ (c / 8 % 2 = 1 ↔ b2 = 1) ∧ (c / 4 % 2 = 1 ↔ b3 = 1) ∧ (c / 2 % 2 = 1 ↔ b4 = 1) ∧ (c / 1 % 2 = 1 ↔ b5 = 1) := by
  intro c
  have hc : c = (32 * b0 + 16 * b1 + 8 * b2 + 4 * b3 + 2 * b4 + b5).toNat := rfl
  refine ⟨?_, ?_, ?_, ?_, ?_, ?_⟩ <;> omega

/-- One bit of a byte that holds six of a list. -/
theorem hv_bit {L : List Int} (h : ∀ x ∈ L, x = 0 ∨ x = 1) (i r : Nat) (hr : r < 6) : decide ((hv L i 6).toNat / 2 ^ (5 - r) % 2 = 1) = decide (L.getD (i + r) 0 = 1) := by
  rw [hv_six, decide_eq_decide]
  obtain ⟨q0, q1, q2, q3, q4, q5⟩ := six_bit (getD_01 h i) (getD_01 h (i + 1)) (getD_01 h (i + 2)) (getD_01 h (i + 3)) (getD_01 h (i + 4)) (getD_01 h (i + 5))
  match r, hr with
  | 0, _ => exact q0
  | 1, _ => exact q1
  | 2, _ => exact q2
  | 3, _ => exact q3
  | 4, _ => exact q4
  | 5, _ => exact q5

theorem u8_nat {x : Int} (h0 : 0 ≤ x) (h1 : x < 256) : (UInt8.ofNat x.toNat).toNat = x.toNat := by
  rw [UInt8.toNat_ofNat']
  omega

theorem headB_len (m : Nat) : (headB m).length = if m ≤ 62 then 1 else 4 := by unfold headB; split <;> rfl
theorem headB_pos (m : Nat) : 1 ≤ (headB m).length ∧ (headB m).length ≤ 4 := by rw [headB_len]; split <;> omega
theorem packB_len (m : Nat) (p : Int → Int → Bool) : (packB m p).length = (headB m).length + nby m := by unfold packB; rw [List.length_append, sixes_len]
theorem packS_size (m : Nat) (p : Int → Int → Bool) : (strOfNums (packB m p)).size = (headB m).length + nby m := by rw [strOfNums_size, packB_len]

theorem hv6_range {L : List Int} (h : ∀ x ∈ L, x = 0 ∨ x = 1) (i : Nat) : 0 ≤ hv L i 6 ∧ hv L i 6 < 64 := by
  have := hv_bd L h i 6
  omega

theorem pack_getD (m : Nat) (p : Int → Int → Bool) (t : Nat) (ht : t < nby m) : (strOfNums (packB m p)).data.toList.getD ((headB m).length + t) 0 = UInt8.ofNat (63 + hv (colsTo p m) (6 * t) 6).toNat := by
  rw [strOfNums_data, List.getD_eq_getElem?_getD, List.getElem?_map]
  unfold packB
  rw [List.getElem?_append_right (by omega), Nat.add_sub_cancel_left]
  unfold sixes
  rw [List.getElem?_map, List.getElem?_range ht]
  rfl

theorem pack_bit (m : Nat) (p : Int → Int → Bool) (q : Nat) (hq : q < 6 * nby m) : bitOf (strOfNums (packB m p)) (headB m).length q = decide ((colsTo p m).getD q 0 = 1) := by
  have h01 := colsTo_01 p m
  unfold bitOf
  rw [pack_getD m p (q / 6) (by omega)]
  obtain ⟨g0, g1⟩ := hv6_range h01 (6 * (q / 6))
  rw [u8_nat (by omega) (by omega)]
  have := hv_bit h01 (6 * (q / 6)) (q % 6) (by omega)
  rw [show 6 * (q / 6) + q % 6 = q by omega] at this
  rw [← this]
  congr 1
  rw [show (63 + hv (colsTo p m) (6 * (q / 6)) 6).toNat - 63 = (hv (colsTo p m) (6 * (q / 6)) 6).toNat by omega]

theorem pack_bit_at (m : Nat) (p : Int → Int → Bool) {i j : Nat} (hij : i < j) (hj : j < m) : bitOf (strOfNums (packB m p)) (headB m).length (plc i j) = p i j := by
  have hlt := plc_lt hij hj
  have hpn : prs m ≤ 6 * nby m := by unfold nby; omega
  rw [pack_bit m p _ (by omega), List.getD_eq_getElem?_getD, cols_get p hij m hj]
  cases p i j <;> simp [b2i]

theorem pack_pad (m : Nat) (p : Int → Int → Bool) (q : Nat) (h1 : prs m ≤ q) (h2 : q < 6 * nby m) : bitOf (strOfNums (packB m p)) (headB m).length q = false := by
  rw [pack_bit m p q h2, List.getD_eq_getElem?_getD, List.getElem?_eq_none (by rw [colsTo_len]; exact h1)]
  simp

theorem head_good (m : Nat) (hm : m ≤ 100) : ∀ x ∈ headB m, 63 ≤ x ∧ x ≤ 126 := by
  intro x hx
  unfold headB at hx
  split at hx
  · simp at hx; omega
  · simp at hx; omega

theorem pack_good_bytes (m : Nat) (p : Int → Int → Bool) (hm : m ≤ 100) : ∀ x ∈ packB m p, 63 ≤ x ∧ x ≤ 126 := by
  intro x hx
  unfold packB at hx
  rcases List.mem_append.1 hx with hx | hx
  · exact head_good m hm x hx
  · unfold sixes at hx
    obtain ⟨t, _, rfl⟩ := List.mem_map.1 hx
    have := hv6_range (colsTo_01 p m) (6 * t)
    omega

theorem get_list (s : ByteArray) (i : Nat) (h : i < s.size) : s[i] = s.data.toList.getD i 0 := by
  have hl : i < s.data.toList.length := by rw [Array.length_toList]; exact h
  rw [List.getD_eq_getElem?_getD, List.getElem?_eq_getElem hl]
  rfl
theorem str_get (L : List Int) (i : Nat) (h : i < (strOfNums L).size) : ∃ hl : i < L.length, (strOfNums L)[i] = UInt8.ofNat (L[i]).toNat := by
  have hl : i < L.length := by rw [strOfNums_size] at h; exact h
  refine ⟨hl, ?_⟩
  rw [get_list, strOfNums_data, List.getD_eq_getElem?_getD, List.getElem?_map, List.getElem?_eq_getElem hl]
  rfl

theorem pack_goodB (m : Nat) (p : Int → Int → Bool) (hm : m ≤ 100) (i : Nat) (h : i < (strOfNums (packB m p)).size) : goodB (strOfNums (packB m p))[i] = true := by
  obtain ⟨hl, e⟩ := str_get _ i h
  have := pack_good_bytes m p hm _ (List.getElem_mem hl)
  rw [goodB_iff, e, u8_nat (by omega) (by omega)]
  omega

/-- Six bits of a byte make the byte. -/
theorem six_back : ∀ c : Nat, c < 64 → (32 * (if c / 32 % 2 = 1 then 1 else 0) + 16 * (if c / 16 % 2 = 1 then 1 else 0) + 8 * (if c / 8 % 2 = 1 then 1 else 0) + 4 * (if c / 4 % 2 = 1 then 1 else 0) + 2 * (if c / 2 % 2 = 1 then 1 else 0) + (if c / 1 % 2 = 1 then 1 else 0) : Int) = c := by decide +kernel

theorem b2i_dec (p : Prop) [Decidable p] : b2i (decide p) = if p then 1 else 0 := by by_cases h : p <;> simp [b2i, h]

/-- A list whose places tell the bits of a code makes the code's bytes. -/
theorem hv_back {s : ByteArray} {f t : Nat} {L : List Int} (hL : ∀ r, r < 6 → L.getD (6 * t + r) 0 = b2i (bitOf s f (6 * t + r))) {X : Nat} (hX : (s.data.toList.getD (f + t) 0).toNat = X) (hx : X - 63 < 64) : hv L (6 * t) 6 = ((X - 63 : Nat) : Int) := by
  have hb : ∀ r, r < 6 → L.getD (6 * t + r) 0 = if (X - 63) / 2 ^ (5 - r) % 2 = 1 then 1 else 0 := fun r hr => by
    rw [hL r hr]
    unfold bitOf
    rw [show f + (6 * t + r) / 6 = f + t by omega, show (6 * t + r) % 6 = r by omega, hX]
    exact b2i_dec _
  rw [hv_six, ← six_back (X - 63) hx]
  have h0 := hb 0 (by omega)
  have h1 := hb 1 (by omega)
  have h2 := hb 2 (by omega)
  have h3 := hb 3 (by omega)
  have h4 := hb 4 (by omega)
  have h5 := hb 5 (by omega)
  rw [Nat.add_zero] at h0
  rw [h0, h1, h2, h3, h4, h5]

/-- A code whose bits are those of a table is what Pack writes of the table. -/
theorem pack_back {s : ByteArray} {N f : Nat} (hsz : s.size = f + nby N) (hf : f = (headB N).length) (hhead : ∀ i, i < f → s.data.toList.getD i 0 = UInt8.ofNat ((headB N).getD i 0).toNat)
    (hg : ∀ i (h : i < s.size), goodB s[i] = true) (hpad : ∀ q, prs N ≤ q → q < 6 * nby N → bitOf s f q = false) {p : Int → Int → Bool} (hp : ∀ i j : Nat, i < j → j < N → p i j = bitOf s f (plc i j)) : strOfNums (packB N p) = s := by
  have hL : ∀ q, q < 6 * nby N → (colsTo p N).getD q 0 = b2i (bitOf s f q) := fun q hq => by
    by_cases h : q < prs N
    · obtain ⟨i, j, h1, h2, rfl⟩ := plc_onto N q h
      rw [List.getD_eq_getElem?_getD, cols_get p h1 N h2, hp i j h1 h2]
      rfl
    · rw [List.getD_eq_getElem?_getD, List.getElem?_eq_none (by rw [colsTo_len]; omega), hpad q (by omega) hq]
      rfl
  have hlen : (packB N p).length = s.size := by rw [packB_len, hsz, hf]
  have hsl : s.data.toList.length = s.size := Array.length_toList
  have hlist : (packB N p).map (fun n => UInt8.ofNat n.toNat) = s.data.toList := by
    apply List.ext_getElem?
    intro i
    by_cases hi : i < s.size
    · have e2 : s.data.toList[i]? = some (s.data.toList.getD i 0) := by
        rw [List.getD_eq_getElem?_getD, List.getElem?_eq_getElem (by omega)]; rfl
      rw [e2, List.getElem?_map]
      by_cases hif : i < f
      · unfold packB
        rw [List.getElem?_append_left (by omega), hhead i hif, List.getD_eq_getElem?_getD, List.getElem?_eq_getElem (by omega)]
        rfl
      · obtain ⟨t, rfl⟩ : ∃ t, i = f + t := ⟨i - f, by omega⟩
        have ht : t < nby N := by omega
        have hgb := (goodB_iff _).1 (hg (f + t) hi)
        rw [get_list] at hgb
        have hv6 := hv_back (s := s) (f := f) (t := t) (L := colsTo p N) (fun r hr => hL _ (by omega)) rfl (by omega)
        unfold packB
        rw [List.getElem?_append_right (by omega), show f + t - (headB N).length = t by omega]
        unfold sixes
        rw [List.getElem?_map, List.getElem?_range ht]
        show some (UInt8.ofNat (63 + hv (colsTo p N) (6 * t) 6).toNat) = _
        rw [hv6]
        congr 1
        apply UInt8.toNat_inj.1
        rw [u8_nat (by omega) (by omega)]
        omega
    · rw [List.getElem?_eq_none (by rw [List.length_map]; omega), List.getElem?_eq_none (by omega)]
  apply ByteArray.ext
  show ((packB N p).map fun n => UInt8.ofNat n.toNat).toArray = s.data
  rw [hlist]
end Go.Proofs.YtbaghbodjpehpabDoor
