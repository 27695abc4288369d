/- Setting bits one by one comes to the bits of all pairs: plain mathematics. -/
import Derived.Test.YtbaghbodjpehpabDoorPackSize
namespace Go.Proofs.YtbaghbodjpehpabDoor

def hvf (f : Nat → Int) (i : Nat) : Nat → Int
  | 0 => 0
  | t + 1 => 2 * hvf f i t + f (i + t)
theorem hvf_hv (L : List Int) (i : Nat) : ∀ t, hv L i t = hvf (fun q => L.getD q 0) i t
  | 0 => rfl
  | t + 1 => by rw [hv, hvf, hvf_hv L i t]
theorem hvf_congr {f g : Nat → Int} (i : Nat) : ∀ t, (∀ s, s < t → f (i + s) = g (i + s)) → hvf f i t = hvf g i t
  | 0, _ => rfl
  | t + 1, h => by rw [hvf, hvf, hvf_congr i t (fun s hs => h s (by omega)), h t (by omega)]

def h6 (a b c d e f : Bool) : Int := 2 * (2 * (2 * (2 * (2 * (2 * 0 + b2i a) + b2i b) + b2i c) + b2i d) + b2i e) + b2i f
theorem or0 : ∀ a b c d e f : Bool, bits .or .u8 (h6 a b c d e f) 32 = h6 true b c d e f := by decide
theorem or1 : ∀ a b c d e f : Bool, bits .or .u8 (h6 a b c d e f) 16 = h6 a true c d e f := by decide
theorem or2 : ∀ a b c d e f : Bool, bits .or .u8 (h6 a b c d e f) 8 = h6 a b true d e f := by decide
theorem or3 : ∀ a b c d e f : Bool, bits .or .u8 (h6 a b c d e f) 4 = h6 a b c true e f := by decide
theorem or4 : ∀ a b c d e f : Bool, bits .or .u8 (h6 a b c d e f) 2 = h6 a b c d true f := by decide
theorem or5 : ∀ a b c d e f : Bool, bits .or .u8 (h6 a b c d e f) 1 = h6 a b c d e true := by decide
theorem hvf6 (f : Nat → Bool) (i : Nat) : hvf (fun q => b2i (f q)) i 6 = h6 (f i) (f (i + 1)) (f (i + 2)) (f (i + 3)) (f (i + 4)) (f (i + 5)) := rfl
theorem hvf6_bd (f : Nat → Bool) (i : Nat) : 0 ≤ hvf (fun q => b2i (f q)) i 6 ∧ hvf (fun q => b2i (f q)) i 6 ≤ 63 := by
  rw [hvf6]
  revert i
  have h : ∀ a b c d e f : Bool, 0 ≤ h6 a b c d e f ∧ h6 a b c d e f ≤ 63 := by decide
  intro i
  exact h _ _ _ _ _ _

def upB (f : Nat → Bool) (q : Nat) : Nat → Bool := fun x => x == q || f x
theorem upB_same (f : Nat → Bool) (q : Nat) : upB f q q = true := by simp [upB]
theorem upB_ne (f : Nat → Bool) {q x : Nat} (h : x ≠ q) : upB f q x = f x := by simp [upB, h]

theorem or_at (f : Nat → Bool) (q : Nat) : bits .or .u8 (hvf (fun x => b2i (f x)) (6 * (q / 6)) 6) (bitv q : Nat) = hvf (fun x => b2i (upB f q x)) (6 * (q / 6)) 6 := by
  obtain ⟨t, r, hr, rfl⟩ : ∃ t r, r < 6 ∧ q = 6 * t + r := ⟨q / 6, q % 6, Nat.mod_lt _ (by omega), by omega⟩
  have e1 : (6 * t + r) / 6 = t := by omega
  have e2 : (6 * t + r) % 6 = r := by omega
  unfold bitv
  rw [e1, e2, hvf6, hvf6]
  match r, hr with
  | 0, _ =>
    rw [show 6 * t + 0 = 6 * t from rfl, upB_same, upB_ne f (show 6 * t + 1 ≠ 6 * t by omega), upB_ne f (show 6 * t + 2 ≠ 6 * t by omega), upB_ne f (show 6 * t + 3 ≠ 6 * t by omega), upB_ne f (show 6 * t + 4 ≠ 6 * t by omega), upB_ne f (show 6 * t + 5 ≠ 6 * t by omega)]
    exact or0 _ _ _ _ _ _
  | 1, _ =>
    rw [upB_same, upB_ne f (show 6 * t ≠ 6 * t + 1 by omega), upB_ne f (show 6 * t + 2 ≠ 6 * t + 1 by omega), upB_ne f (show 6 * t + 3 ≠ 6 * t + 1 by omega), upB_ne f (show 6 * t + 4 ≠ 6 * t + 1 by omega), upB_ne f (show 6 * t + 5 ≠ 6 * t + 1 by omega)]
    exact or1 _ _ _ _ _ _
  | 2, _ =>
    rw [upB_same, upB_ne f (show 6 * t ≠ 6 * t + 2 by omega), upB_ne f (show 6 * t + 1 ≠ 6 * t + 2 by omega), upB_ne f (show 6 * t + 3 ≠ 6 * t + 2 by omega), upB_ne f (show 6 * t + 4 ≠ 6 * t + 2 by omega), upB_ne f (show 6 * t + 5 ≠ 6 * t + 2 by omega)]
    exact or2 _ _ _ _ _ _
  | 3, _ =>
    rw [upB_same, upB_ne f (show 6 * t ≠ 6 * t + 3 by omega), upB_ne f (show 6 * t + 1 ≠ 6 * t + 3 by omega), upB_ne f (show 6 * t + 2 ≠ 6 * t + 3 by omega), upB_ne f (show 6 * t + 4 ≠ 6 * t + 3 by omega), upB_ne f (show 6 * t + 5 ≠ 6 * t + 3 by omega)]
    exact or3 _ _ _ _ _ _
  | 4, _ =>
    rw [upB_same, upB_ne f (show 6 * t ≠ 6 * t + 4 by omega), upB_ne f (show 6 * t + 1 ≠ 6 * t + 4 by omega), upB_ne f (show 6 * t + 2 ≠ 6 * t + 4 by omega), upB_ne f (show 6 * t + 3 ≠ 6 * t + 4 by omega), upB_ne f (show 6 * t + 5 ≠ 6 * t + 4 by omega)]
    exact or4 _ _ _ _ _ _
  | 5, _ =>
    rw [upB_same, upB_ne f (show 6 * t ≠ 6 * t + 5 by omega), upB_ne f (show 6 * t + 1 ≠ 6 * t + 5 by omega), upB_ne f (show 6 * t + 2 ≠ 6 * t + 5 by omega), upB_ne f (show 6 * t + 3 ≠ 6 * t + 5 by omega), upB_ne f (show 6 * t + 4 ≠ 6 * t + 5 by omega)]
    exact or5 _ _ _ _ _ _

/-- The n bytes of bits f. -/
def byF (n : Nat) (f : Nat → Bool) : List Int := (List.range n).map fun (t : Nat) => hvf (fun x => b2i (f x)) (6 * t) 6
theorem byF_len (n : Nat) (f : Nat → Bool) : (byF n f).length = n := by simp [byF]
theorem byF_get (n : Nat) (f : Nat → Bool) {t : Nat} (h : t < n) : (byF n f)[t]? = some (hvf (fun x => b2i (f x)) (6 * t) 6) := by simp [byF, h]
theorem byF_set (n : Nat) (f : Nat → Bool) (q : Nat) : (byF n f).set (q / 6) (bits .or .u8 (hvf (fun x => b2i (f x)) (6 * (q / 6)) 6) (bitv q : Nat)) = byF n (upB f q) := by
  apply List.ext_getElem
  · simp [byF]
  · intro t h1 h2
    have ht : t < n := by simpa [byF] using h2
    rw [List.getElem_set]
    by_cases e : q / 6 = t
    · rw [if_pos e, or_at]
      subst e
      simp [byF]
    · rw [if_neg e]
      simp only [byF, List.getElem_map, List.getElem_range]
      exact hvf_congr _ 6 (fun s hs => by rw [upB_ne f (by omega)])

/-- Which bits the edges set. -/
def bitF (L : List Pair) (q : Nat) : Bool := L.any fun e => plc e.1.toNat e.2.toNat == q
theorem bitF_take {L : List Pair} {k : Nat} (h : k < L.length) : bitF (L.take (k + 1)) = upB (bitF (L.take k)) (plc L[k].1.toNat L[k].2.toNat) := by
  funext q
  unfold bitF upB
  rw [List.take_succ_eq_append_getElem h, List.any_append, Bool.or_comm]
  congr 1
  simp only [List.any_cons, List.any_nil, Bool.or_false]
  rw [Bool.eq_iff_iff]
  simp
  exact eq_comm

theorem cols_get (p : Int → Int → Bool) {i j : Nat} (hi : i < j) : ∀ m, j < m → (colsTo p m)[plc i j]? = some (b2i (p i j))
  | m + 1, hj => by
    rw [colsTo_succ]
    by_cases h : j < m
    · rw [List.getElem?_append_left (by rw [colsTo_len]; exact plc_lt hi h)]
      exact cols_get p hi m h
    · have : j = m := by omega
      subst this
      rw [List.getElem?_append_right (by rw [colsTo_len]; unfold plc; omega), colsTo_len]
      unfold plc colTo
      simp [hi]
theorem plc_onto : ∀ (m q : Nat), q < prs m → ∃ i j, i < j ∧ j < m ∧ plc i j = q
  | 0, q, h => absurd h (by simp [prs])
  | m + 1, q, h => by
    by_cases g : q < prs m
    · obtain ⟨i, j, h1, h2, h3⟩ := plc_onto m q g
      exact ⟨i, j, h1, by omega, h3⟩
    · rw [prs_succ] at h
      exact ⟨q - prs m, m, by omega, by omega, by unfold plc; omega⟩

theorem bitF_cols (m : Nat) (p : Int → Int → Bool) (q : Nat) : b2i (bitF (allP m p) q) = (colsTo p m).getD q 0 := by
  by_cases h : q < prs m
  · obtain ⟨i, j, h1, h2, rfl⟩ := plc_onto m q h
    rw [List.getD_eq_getElem?_getD, cols_get p h1 m h2]
    simp only [Option.getD_some]
    congr 1
    rw [Bool.eq_iff_iff]
    unfold bitF
    rw [List.any_eq_true]
    constructor
    · rintro ⟨e, he, hq⟩
      obtain ⟨u, v, g1, g2, g3, rfl⟩ := allP_mem.1 he
      simp at hq
      obtain ⟨rfl, rfl⟩ := plc_inj g1 h1 hq
      exact g3
    · intro hp
      exact ⟨((i : Int), (j : Int)), allP_mem.2 ⟨i, j, h1, h2, hp, rfl⟩, by simp⟩
  · rw [List.getD_eq_getElem?_getD, List.getElem?_eq_none (by rw [colsTo_len]; omega)]
    have : bitF (allP m p) q = false := by
      unfold bitF
      rw [List.any_eq_false]
      intro e he hq
      obtain ⟨u, v, g1, g2, g3, rfl⟩ := allP_mem.1 he
      simp at hq
      have := plc_lt g1 g2
      omega
    rw [this]
    rfl

theorem byF_sixes (m : Nat) (p : Int → Int → Bool) (n : Nat) : (byF n (bitF (allP m p))).map (fun x => 63 + x) = sixes (colsTo p m) n := by
  unfold byF sixes
  rw [List.map_map]
  apply List.map_congr_left
  intro t _
  show 63 + _ = 63 + _
  rw [hvf_hv]
  congr 1
  exact hvf_congr _ 6 (fun s _ => bitF_cols m p _)

end Go.Proofs.YtbaghbodjpehpabDoor
