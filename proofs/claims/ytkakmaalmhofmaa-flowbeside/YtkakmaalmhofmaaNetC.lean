/- What is wrong with a net: the program's Check and the document's. -/
import Derived.Test.YtkakmaalmhofmaaRefCheck
import Derived.Test.YtkakmaalmhofmaaPipe
namespace Go.Proofs.Ytkakmaalmhofmaa
open Go.RowKit Go.Maps
attribute [local go_sem ↓] Go.wp_at_zero Go.wp_at_succ

abbrev Arc3 := Int × Int × Int
def isV (x : Int) : Bool := decide (0 ≤ x ∧ x ≤ 1000000)
def goodA (n : Int) (a : Arc3) : Bool := isN n a.1 && isN n a.2.1 && isV a.2.2
def netF (n : Int) (al : List Arc3) : Int × Int :=
  if n < 0 ∨ 100 < n ∨ 1000 < al.length then (2, 0) else match al.findIdx? (fun a => !goodA n a) with
    | some k => (3, (k : Int))
    | none => (0, 0)
def endsF (n s t : Int) : Int × Int := if isN n s = false then (3, 0) else if isN n t = false then (3, 1) else if s = t then (5, 1) else (0, 0)
theorem endsF_eq {n s t a b : Int} (h : (((s < 0 ∨ n ≤ s) ∧ a = 3 ∧ b = 0) ∨ (0 ≤ s ∧ s < n ∧ (t < 0 ∨ n ≤ t) ∧ a = 3 ∧ b = 1) ∨ (0 ≤ s ∧ s < n ∧ 0 ≤ t ∧ t < n ∧ s = t ∧ a = 5 ∧ b = 1) ∨ (0 ≤ s ∧ s < n ∧ 0 ≤ t ∧ t < n ∧ s ≠ t ∧ a = 0 ∧ b = 0))) : endsF n s t = (a, b) := by
  unfold endsF isN
  rcases h with ⟨h1, rfl, rfl⟩ | ⟨h1, h2, h3, rfl, rfl⟩ | ⟨h1, h2, h3, h4, h5, rfl, rfl⟩ | ⟨h1, h2, h3, h4, h5, rfl, rfl⟩
  · rw [if_pos (by simp; omega)]
  · rw [if_neg (by simp; omega), if_pos (by simp; omega)]
  · rw [if_neg (by simp; omega), if_neg (by simp; omega), if_pos h5]
  · rw [if_neg (by simp; omega), if_neg (by simp; omega), if_neg h5]
theorem netF_bad {n : Int} {al : List Arc3} {k : Nat} (h0 : 0 ≤ n) (h1 : n ≤ 100) (hl : al.length ≤ 1000) (hk : k < al.length) (hg : ∀ j (h : j < k), goodA n (al[j]'(by omega)) = true) (hb : goodA n al[k] = false) : netF n al = (3, (k : Int)) := by
  unfold netF
  rw [if_neg (by omega)]
  have : al.findIdx? (fun a => !goodA n a) = some k := by
    rw [List.findIdx?_eq_some_iff_getElem]
    exact ⟨hk, by simp [hb], fun j hj => by simp [hg j hj]⟩
  rw [this]
theorem netF_good {n : Int} {al : List Arc3} (h0 : 0 ≤ n) (h1 : n ≤ 100) (hl : al.length ≤ 1000) (hg : ∀ a ∈ al, goodA n a = true) : netF n al = (0, 0) := by
  unfold netF
  rw [if_neg (by omega)]
  have : al.findIdx? (fun a => !goodA n a) = none := by
    rw [List.findIdx?_eq_none_iff]
    intro a ha
    simp [hg a ha]
  rw [this]
theorem netF_zero {n : Int} {al : List Arc3} (h : (netF n al).1 = 0) : netF n al = (0, 0) ∧ 0 ≤ n ∧ n ≤ 100 ∧ al.length ≤ 1000 ∧ ∀ a ∈ al, goodA n a = true := by
  unfold netF at h ⊢
  split at h
  · simp at h
  · rename_i hc
    rw [if_neg hc]
    split at h
    · simp at h
    · rename_i hn
      rw [List.findIdx?_eq_none_iff] at hn
      exact ⟨rfl, by omega, by omega, by omega, fun a ha => by simpa using hn a ha⟩

/-- The slice value v holds the arcs al. -/
def ArcsAt (w : World) (v : Value) (al : List Arc3) : Prop :=
  ∃ ao cap, v = .slice ao al.length cap ∧ al.length ≤ 5864062014805 ∧ (∀ a ∈ al, I64 a.1 ∧ I64 a.2.1 ∧ I64 a.2.2) ∧
    ∀ k (h : k < al.length), ∃ b off, ao = some ⟨b, off, none⟩ ∧ w.cell? ⟨b, off + k * 3, none⟩ = some (.int .i64 al[k].1) ∧ w.cell? ⟨b, off + k * 3 + 1, none⟩ = some (.int .i64 al[k].2.1) ∧ w.cell? ⟨b, off + k * 3 + 2, none⟩ = some (.int .i64 al[k].2.2)
theorem ArcsAt.below {w w' : World} {v : Value} {al : List Arc3} (h : ArcsAt w v al) (hb : Below w.heap.size w w') : ArcsAt w' v al := by
  obtain ⟨ao, cap, h1, h2, h3, h4⟩ := h
  refine ⟨ao, cap, h1, h2, h3, fun k hk => ?_⟩
  obtain ⟨b, off, e, c0, c1, c2⟩ := h4 k hk
  have hl := World.block_lt_of_cell? w _ c0
  exact ⟨b, off, e, by rw [hb.cell (by exact hl)]; exact c0, by rw [hb.cell (by exact hl)]; exact c1, by rw [hb.cell (by exact hl)]; exact c2⟩
theorem ArcsAt.form {w : World} {v : Value} {al : List Arc3} (h : ArcsAt w v al) : ∃ ao cap, v = .slice ao al.length cap := by
  obtain ⟨ao, cap, rfl, _⟩ := h
  exact ⟨ao, cap, rfl⟩

set_option maxHeartbeats 400000 in
theorem isNode28 (n v : Int) (w : World) : Calls Try.prog 28 #[.int .i64 n, .int .i64 v] w fun e w' => e = .returned (.bool (isN n v)) ∧ w' = w := by
  go_enter Try.func28, Try.ntmps28
  go_wp2
  all_goals
    go_ret
    refine ⟨?_, rfl⟩
    simp [isN, *]
    try omega
set_option maxHeartbeats 400000 in
theorem isValue29 (x : Int) (w : World) : Calls Try.prog 29 #[.int .i64 x] w fun e w' => e = .returned (.bool (isV x)) ∧ w' = w := by
  go_enter Try.func29, Try.ntmps29
  go_wp2
  all_goals
    go_ret
    refine ⟨?_, rfl⟩
    simp [isV, *]
    try omega

structure NC (w wr : World) (n : Int) (ao : Option Addr) (cap : Nat) (al : List Arc3) (k : Nat) : Prop where
  b0 : wr.heap[w.heap.size]? = some (.cells #[.int .i64 n, .slice ao al.length cap] 24 (0, 0))
  b1 : wr.heap[w.heap.size + 1]? = some (.cells #[.int .i64 0, .int .i64 0] 26 (0, 0))
  below : Below w.heap.size w wr
  good : ∀ j, j < k → ∀ hl : j < al.length, goodA n al[j] = true
theorem NC.step {w wr wr' : World} {n : Int} {ao : Option Addr} {cap : Nat} {al : List Arc3} {k : Nat} (h : NC w wr n ao cap al k) (hb : Below wr.heap.size wr wr') : NC w wr' n ao cap al k :=
  ⟨(hb.block _ (lt_of_block h.b0)).trans h.b0, (hb.block _ (lt_of_block h.b1)).trans h.b1, below_next h.below hb, h.good⟩
theorem NC.next {w wr : World} {n : Int} {ao : Option Addr} {cap : Nat} {al : List Arc3} {k : Nat} (h : NC w wr n ao cap al k) (hk : k < al.length) (hg : goodA n al[k] = true) : NC w wr n ao cap al (k + 1) :=
  ⟨h.b0, h.b1, h.below, fun j hj hl => by
    by_cases e : j = k
    · subst e; exact hg
    · exact h.good j (by omega) hl⟩
theorem NC.fault {w wr : World} {n : Int} {ao : Option Addr} {cap : Nat} {al : List Arc3} {k : Nat} (h : NC w wr n ao cap al k) (h0 : 0 ≤ n) (h1 : n ≤ 100) (hl : al.length ≤ 1000) (hk : k < al.length) {x y z : Int} (ha : al[k] = (x, y, z)) (hg : (isN n x && isN n y && isV z) = false) : netF n al = (3, (k : Int)) :=
  netF_bad h0 h1 hl hk (fun j hj => h.good j hj (by omega)) (by rw [ha]; exact hg)
theorem NC.more {w wr : World} {n : Int} {ao : Option Addr} {cap : Nat} {al : List Arc3} {k : Nat} (h : NC w wr n ao cap al k) (hk : k < al.length) {x y z : Int} (ha : al[k] = (x, y, z)) (hg : (isN n x && isN n y && isV z) = true) : NC w wr n ao cap al (k + 1) := h.next hk (by rw [ha]; exact hg)
theorem ret2 {a b c d : Int} {p : Int × Int} (h : p = (a, b)) (h1 : c = a) (h2 : d = b) : Ending.returned (.agg #[.int .i64 c, .int .i64 d]) = Ending.returned (.agg #[.int .i64 p.1, .int .i64 p.2]) := by rw [h, h1, h2]

set_option maxHeartbeats 2000000 in
theorem check8_go (n : Int) (ao : Option Addr) (cap : Nat) (al : List Arc3) (w : World) (hA : ArcsAt w (.slice ao al.length cap) al) (hn0 : 0 ≤ n) (hn1 : n ≤ 100) (hl : al.length ≤ 1000) :
    Calls Try.prog 8 #[.agg #[.int .i64 n, .slice ao al.length cap]] w fun e w' => e = .returned (.agg #[.int .i64 (netF n al).1, .int .i64 (netF n al).2]) ∧ Below w.heap.size w w' := by
  obtain ⟨ao', cap', e, hl2, hI, hcells⟩ := hA
  cases e
  have hl3 : ¬ (1000 : Int) < (al.length : Int) := by omega
  have hn2 : ¬ n < 0 := by omega
  have hn3 : ¬ 100 < n := by omega
  clear hI
  go_enter Try.func8, Try.ntmps8
  go_wp2
  go_loopw [23] (fun i wr => ∃ k : Nat, k ≤ al.length ∧ i = .int .i64 (k : Int) ∧ NC w wr n ao cap al k) (fun i _ => al.length - (numOf i).toNat)
  case atStart =>
    refine ⟨0, Nat.zero_le _, rfl, ?_, ?_, below2 _ _, fun j h => absurd h (Nat.not_lt_zero _)⟩
    · rw [Below.heap_alloc _ _ _ (by simp)]; exact heap_alloc_new _ _
    · simpa using heap_alloc_new (w.alloc (Obj.cells #[.int .i64 n, .slice ao al.length cap] 24)) (Obj.cells #[.int .i64 0, .int .i64 0] 26)
  case round =>
    obtain ⟨k, hk, rfl, hrc⟩ := hrel
    by_cases hlt : k < al.length
    · have c00 := (cell_two hrc.b0).2
      have c0 := all_alloc (cell_two hrc.b0).1
      have c01 := all_alloc (cell_two hrc.b0).2
      have c10 := all_alloc (cell_two hrc.b1).1
      have c11 := all_alloc (cell_two hrc.b1).2
      have f10 := all_free (a := ⟨w.heap.size + 1, 0, none⟩) (lt_of_block hrc.b1) (free_two hrc.b1 0)
      have f11 := all_free (a := ⟨w.heap.size + 1, 1, none⟩) (lt_of_block hrc.b1) (free_two hrc.b1 1)
      obtain ⟨b, off, rfl, cx, cy, cz⟩ := hcells k hlt
      obtain ⟨x, y, z, hxy⟩ : ∃ x y z, al[k] = (x, y, z) := ⟨al[k].1, al[k].2.1, al[k].2.2, rfl⟩
      rw [hxy] at cx cy cz
      have hb := World.block_lt_of_cell? w _ cx
      rw [← hrc.below.cell (by exact hb)] at cx cy cz
      have i1 : (0 : Int) ≤ (k : Int) := by omega
      have i2 : (k : Int) < (al.length : Int) := by omega
      have HXY : Hid _ := hxy
      have hrc1 := hrc.step (below_alloc (Below.refl _ wr) (Obj.cells #[.int .i64 x, .int .i64 y, .int .i64 z] 34))
      have HRC : Hid _ := hrc
      have HR1 : Hid _ := hrc1
      clear hxy hcells hrc hrc1
      cases h1 : isN n x
      · have H1 : Hid _ := h1
        go_wp2_with (first | (go_at_call 28; refine (isNode28 _ _ _).mono ?_; rintro e w2 ⟨rfl, rfl⟩) | (go_at_call 29; refine (isValue29 _ _).mono ?_; rintro e w2 ⟨rfl, rfl⟩) | go_in)
        refine bodyPost_ret (v := .agg #[.int .i64 3, .int .i64 (k : Int)]) ?_ rfl ⟨ret2 (NC.fault HRC.out hn0 hn1 hl hlt HXY.out (by rw [H1.out]; rfl)) rfl rfl, (HR1.out.below.setCell (by simp) _).setCell (by simp) _⟩
        simp [results, Try.results8, go_sem, c10, c11]
      · cases h2 : isN n y
        · have H1 : Hid _ := h1
          have H2 : Hid _ := h2
          go_wp2_with (first | (go_at_call 28; refine (isNode28 _ _ _).mono ?_; rintro e w2 ⟨rfl, rfl⟩) | (go_at_call 29; refine (isValue29 _ _).mono ?_; rintro e w2 ⟨rfl, rfl⟩) | go_in)
          refine bodyPost_ret (v := .agg #[.int .i64 3, .int .i64 (k : Int)]) ?_ rfl ⟨ret2 (NC.fault HRC.out hn0 hn1 hl hlt HXY.out (by rw [H1.out, H2.out]; rfl)) rfl rfl, (HR1.out.below.setCell (by simp) _).setCell (by simp) _⟩
          simp [results, Try.results8, go_sem, c10, c11]
        · cases h3 : isV z
          · have H1 : Hid _ := h1
            have H2 : Hid _ := h2
            have H3 : Hid _ := h3
            go_wp2_with (first | (go_at_call 28; refine (isNode28 _ _ _).mono ?_; rintro e w2 ⟨rfl, rfl⟩) | (go_at_call 29; refine (isValue29 _ _).mono ?_; rintro e w2 ⟨rfl, rfl⟩) | go_in)
            refine bodyPost_ret (v := .agg #[.int .i64 3, .int .i64 (k : Int)]) ?_ rfl ⟨ret2 (NC.fault HRC.out hn0 hn1 hl hlt HXY.out (by rw [H1.out, H2.out, H3.out]; rfl)) rfl rfl, (HR1.out.below.setCell (by simp) _).setCell (by simp) _⟩
            simp [results, Try.results8, go_sem, c10, c11]
          · have hm := NC.more HR1.out hlt HXY.out (by rw [h1, h2, h3]; rfl)
            have HMM : Hid _ := hm
            clear hm
            go_wp2_with (first | (go_at_call 28; refine (isNode28 _ _ _).mono ?_; rintro e w2 ⟨rfl, rfl⟩) | (go_at_call 29; refine (isValue29 _ _).mono ?_; rintro e w2 ⟨rfl, rfl⟩) | go_in)
            go_roundw
            case rel => exact ⟨k + 1, by omega, by go_num, HMM.out⟩
            case measure => simp [numOf]; omega
    · have hke : k = al.length := by omega
      have c01 := (cell_two hrc.b0).2
      have d10 := (cell_two hrc.b1).1
      have d11 := (cell_two hrc.b1).2
      have g10 := free_two hrc.b1
      have i2 : ¬ (k : Int) < (al.length : Int) := by omega
      have hfin : netF n al = (0, 0) := netF_good hn0 hn1 hl (fun a ha => by
        obtain ⟨i, hi, e⟩ := List.getElem_of_mem ha
        rw [← e]
        exact hrc.good i (by omega) hi)
      have HFN : Hid _ := hfin
      have HRC : Hid _ := hrc
      clear hcells hke hfin hrc
      go_wp2
      refine bodyPost_ret (v := .agg #[.int .i64 0, .int .i64 0]) ?_ rfl ⟨ret2 HFN.out rfl rfl, (HRC.out.below.setCell (by simp) _).setCell (by simp) _⟩
      simp [results, Try.results8, go_sem, d10, d11]

set_option maxHeartbeats 1000000 in
theorem check8_many (n : Int) (ao : Option Addr) (len cap : Nat) (w : World) (_hl : len ≤ 5864062014805) (h : n < 0 ∨ 100 < n ∨ 1000 < len) :
    Calls Try.prog 8 #[.agg #[.int .i64 n, .slice ao len cap]] w fun e w' => e = .returned (.agg #[.int .i64 2, .int .i64 0]) ∧ Below w.heap.size w w' := by
  by_cases h0 : n < 0
  · skip
    go_enter Try.func8, Try.ntmps8
    go_wp2
    refine bodyPost_ret (v := .agg #[.int .i64 2, .int .i64 0]) ?_ rfl ⟨rfl, below2 _ _⟩
    simp [results, Try.results8, go_sem]
  · by_cases h1 : 100 < n
    · skip
      go_enter Try.func8, Try.ntmps8
      go_wp2
      refine bodyPost_ret (v := .agg #[.int .i64 2, .int .i64 0]) ?_ rfl ⟨rfl, below2 _ _⟩
      simp [results, Try.results8, go_sem]
    · have hl2 : (1000 : Int) < (len : Int) := by omega
      go_enter Try.func8, Try.ntmps8
      go_wp2
      refine bodyPost_ret (v := .agg #[.int .i64 2, .int .i64 0]) ?_ rfl ⟨rfl, below2 _ _⟩
      simp [results, Try.results8, go_sem]

theorem check8_any (n : Int) (v : Value) (al : List Arc3) (w : World) (hA : ArcsAt w v al) :
    Calls Try.prog 8 #[.agg #[.int .i64 n, v]] w fun e w' => e = .returned (.agg #[.int .i64 (netF n al).1, .int .i64 (netF n al).2]) ∧ Below w.heap.size w w' := by
  obtain ⟨ao, cap, rfl⟩ := hA.form
  by_cases hm : n < 0 ∨ 100 < n ∨ 1000 < al.length
  · have e : netF n al = (2, 0) := by unfold netF; rw [if_pos hm]
    rw [e]
    obtain ⟨ao', cap', e', hl, _⟩ := hA
    exact check8_many n ao al.length cap w hl hm
  · exact check8_go n ao cap al w hA (by omega) (by omega) (by omega)

set_option maxHeartbeats 2000000 in
theorem net7_go (n : Int) (ao : Option Addr) (cap : Nat) (al : List Arc3) (w : World) (hA : ArcsAt w (.slice ao al.length cap) al) (hn0 : 0 ≤ n) (hn1 : n ≤ 100) (hl : al.length ≤ 1000) :
    Calls Try.prog 7 #[.agg #[.int .i64 n, .slice ao al.length cap]] w fun e w' => e = .returned (.agg #[.int .i64 (netF n al).1, .int .i64 (netF n al).2]) ∧ Below w.heap.size w w' := by
  obtain ⟨ao', cap', e, hl2, hI, hcells⟩ := hA
  cases e
  have hl3 : ¬ (1000 : Int) < (al.length : Int) := by omega
  have hn2 : ¬ n < 0 := by omega
  have hn3 : ¬ 100 < n := by omega
  clear hI
  go_enter Try.func7, Try.ntmps7
  go_wp2
  go_loopw [3] (fun i wr => ∃ k : Nat, k ≤ al.length ∧ i = .int .i64 (k : Int) ∧ NC w wr n ao cap al k) (fun i _ => al.length - (numOf i).toNat)
  case atStart =>
    refine ⟨0, Nat.zero_le _, rfl, ?_, ?_, below2 _ _, fun j h => absurd h (Nat.not_lt_zero _)⟩
    · rw [Below.heap_alloc _ _ _ (by simp)]; exact heap_alloc_new _ _
    · simpa using heap_alloc_new (w.alloc (Obj.cells #[.int .i64 n, .slice ao al.length cap] 24)) (Obj.cells #[.int .i64 0, .int .i64 0] 26)
  case round =>
    obtain ⟨k, hk, rfl, hrc⟩ := hrel
    by_cases hlt : k < al.length
    · have c00 := (cell_two hrc.b0).2
      have c0 := all_alloc (cell_two hrc.b0).1
      have c01 := all_alloc (cell_two hrc.b0).2
      have c10 := all_alloc (cell_two hrc.b1).1
      have c11 := all_alloc (cell_two hrc.b1).2
      have f10 := all_free (a := ⟨w.heap.size + 1, 0, none⟩) (lt_of_block hrc.b1) (free_two hrc.b1 0)
      have f11 := all_free (a := ⟨w.heap.size + 1, 1, none⟩) (lt_of_block hrc.b1) (free_two hrc.b1 1)
      obtain ⟨b, off, rfl, cx, cy, cz⟩ := hcells k hlt
      obtain ⟨x, y, z, hxy⟩ : ∃ x y z, al[k] = (x, y, z) := ⟨al[k].1, al[k].2.1, al[k].2.2, rfl⟩
      rw [hxy] at cx cy cz
      have hb := World.block_lt_of_cell? w _ cx
      rw [← hrc.below.cell (by exact hb)] at cx cy cz
      have i1 : (0 : Int) ≤ (k : Int) := by omega
      have i2 : (k : Int) < (al.length : Int) := by omega
      have HXY : Hid _ := hxy
      have hrc1 := hrc.step (below_alloc (Below.refl _ wr) (Obj.cells #[.int .i64 x, .int .i64 y, .int .i64 z] 34))
      have HRC : Hid _ := hrc
      have HR1 : Hid _ := hrc1
      clear hxy hcells hrc hrc1
      by_cases h1 : x < 0
      · skip
        have hbad : (isN n x && isN n y && isV z) = false := by simp [isN, isV]; omega
        have HBD : Hid _ := hbad
        clear hbad
        go_wp2_with (go_at_call 22; refine (refF_any _ _ _).mono ?_; rintro e w2 ⟨rfl, hb2⟩; have hrc2 := HR1.out.step hb2; have d10 := (cell_two hrc2.b1).1; have d11 := (cell_two hrc2.b1).2; have g10 := free_two hrc2.b1)
        refine bodyPost_ret (v := .agg #[.int .i64 3, .int .i64 (k : Int)]) ?_ rfl ⟨ret2 (NC.fault HRC.out hn0 hn1 hl hlt HXY.out HBD.out) rfl rfl, (hrc2.below.setCell (by simp) _).setCell (by simp) _⟩
        simp [results, Try.results7, go_sem, d10, d11]
      · skip
        by_cases h2 : n ≤ x
        · skip
          have hbad : (isN n x && isN n y && isV z) = false := by simp [isN, isV]; omega
          have HBD : Hid _ := hbad
          clear hbad
          go_wp2_with (go_at_call 22; refine (refF_any _ _ _).mono ?_; rintro e w2 ⟨rfl, hb2⟩; have hrc2 := HR1.out.step hb2; have d10 := (cell_two hrc2.b1).1; have d11 := (cell_two hrc2.b1).2; have g10 := free_two hrc2.b1)
          refine bodyPost_ret (v := .agg #[.int .i64 3, .int .i64 (k : Int)]) ?_ rfl ⟨ret2 (NC.fault HRC.out hn0 hn1 hl hlt HXY.out HBD.out) rfl rfl, (hrc2.below.setCell (by simp) _).setCell (by simp) _⟩
          simp [results, Try.results7, go_sem, d10, d11]
        · skip
          by_cases h3 : y < 0
          · skip
            have hbad : (isN n x && isN n y && isV z) = false := by simp [isN, isV]; omega
            have HBD : Hid _ := hbad
            clear hbad
            go_wp2_with (go_at_call 22; refine (refF_any _ _ _).mono ?_; rintro e w2 ⟨rfl, hb2⟩; have hrc2 := HR1.out.step hb2; have d10 := (cell_two hrc2.b1).1; have d11 := (cell_two hrc2.b1).2; have g10 := free_two hrc2.b1)
            refine bodyPost_ret (v := .agg #[.int .i64 3, .int .i64 (k : Int)]) ?_ rfl ⟨ret2 (NC.fault HRC.out hn0 hn1 hl hlt HXY.out HBD.out) rfl rfl, (hrc2.below.setCell (by simp) _).setCell (by simp) _⟩
            simp [results, Try.results7, go_sem, d10, d11]
          · skip
            by_cases h4 : n ≤ y
            · skip
              have hbad : (isN n x && isN n y && isV z) = false := by simp [isN, isV]; omega
              have HBD : Hid _ := hbad
              clear hbad
              go_wp2_with (go_at_call 22; refine (refF_any _ _ _).mono ?_; rintro e w2 ⟨rfl, hb2⟩; have hrc2 := HR1.out.step hb2; have d10 := (cell_two hrc2.b1).1; have d11 := (cell_two hrc2.b1).2; have g10 := free_two hrc2.b1)
              refine bodyPost_ret (v := .agg #[.int .i64 3, .int .i64 (k : Int)]) ?_ rfl ⟨ret2 (NC.fault HRC.out hn0 hn1 hl hlt HXY.out HBD.out) rfl rfl, (hrc2.below.setCell (by simp) _).setCell (by simp) _⟩
              simp [results, Try.results7, go_sem, d10, d11]
            · skip
              by_cases h5 : z < 0
              · skip
                have hbad : (isN n x && isN n y && isV z) = false := by simp [isN, isV]; omega
                have HBD : Hid _ := hbad
                clear hbad
                go_wp2_with (go_at_call 22; refine (refF_any _ _ _).mono ?_; rintro e w2 ⟨rfl, hb2⟩; have hrc2 := HR1.out.step hb2; have d10 := (cell_two hrc2.b1).1; have d11 := (cell_two hrc2.b1).2; have g10 := free_two hrc2.b1)
                refine bodyPost_ret (v := .agg #[.int .i64 3, .int .i64 (k : Int)]) ?_ rfl ⟨ret2 (NC.fault HRC.out hn0 hn1 hl hlt HXY.out HBD.out) rfl rfl, (hrc2.below.setCell (by simp) _).setCell (by simp) _⟩
                simp [results, Try.results7, go_sem, d10, d11]
              · skip
                by_cases h6 : 1000000 < z
                · skip
                  have hbad : (isN n x && isN n y && isV z) = false := by simp [isN, isV]; omega
                  have HBD : Hid _ := hbad
                  clear hbad
                  go_wp2_with (go_at_call 22; refine (refF_any _ _ _).mono ?_; rintro e w2 ⟨rfl, hb2⟩; have hrc2 := HR1.out.step hb2; have d10 := (cell_two hrc2.b1).1; have d11 := (cell_two hrc2.b1).2; have g10 := free_two hrc2.b1)
                  refine bodyPost_ret (v := .agg #[.int .i64 3, .int .i64 (k : Int)]) ?_ rfl ⟨ret2 (NC.fault HRC.out hn0 hn1 hl hlt HXY.out HBD.out) rfl rfl, (hrc2.below.setCell (by simp) _).setCell (by simp) _⟩
                  simp [results, Try.results7, go_sem, d10, d11]
                · skip
                  have hm := NC.more HR1.out hlt HXY.out (by simp [isN, isV]; omega)
                  have HMM : Hid _ := hm
                  clear hm
                  go_wp2_with fail
                  go_roundw
                  case rel => exact ⟨k + 1, by omega, by go_num, HMM.out⟩
                  case measure => simp [numOf]; omega
    · have hke : k = al.length := by omega
      have c01 := (cell_two hrc.b0).2
      have d10 := (cell_two hrc.b1).1
      have d11 := (cell_two hrc.b1).2
      have g10 := free_two hrc.b1
      have i2 : ¬ (k : Int) < (al.length : Int) := by omega
      have hfin : netF n al = (0, 0) := netF_good hn0 hn1 hl (fun a ha => by
        obtain ⟨i, hi, e⟩ := List.getElem_of_mem ha
        rw [← e]
        exact hrc.good i (by omega) hi)
      have HFN : Hid _ := hfin
      have HRC : Hid _ := hrc
      clear hcells hke hfin hrc
      go_wp2
      refine bodyPost_ret (v := .agg #[.int .i64 0, .int .i64 0]) ?_ rfl ⟨ret2 HFN.out rfl rfl, (HRC.out.below.setCell (by simp) _).setCell (by simp) _⟩
      simp [results, Try.results7, go_sem, d10, d11]

set_option maxHeartbeats 1000000 in
theorem net7_many (n : Int) (ao : Option Addr) (len cap : Nat) (w : World) (_hl : len ≤ 5864062014805) (h : n < 0 ∨ 100 < n ∨ 1000 < len) :
    Calls Try.prog 7 #[.agg #[.int .i64 n, .slice ao len cap]] w fun e w' => e = .returned (.agg #[.int .i64 2, .int .i64 0]) ∧ Below w.heap.size w w' := by
  by_cases h0 : n < 0
  · skip
    go_enter Try.func7, Try.ntmps7
    go_wp2_with (go_at_call 22; refine (refF_any _ _ _).mono ?_; rintro e w2 ⟨rfl, hb2⟩; obtain ⟨bc, bf, bc1, bf1, bc2, bf2⟩ := bcell hb2)
    refine bodyPost_ret (v := .agg #[.int .i64 2, .int .i64 0]) ?_ rfl ⟨rfl, ((below_next (below2 _ _) hb2).setCell (by simp) _).setCell (by simp) _⟩
    simp [results, Try.results7, go_sem, bc]
  · by_cases h1 : 100 < n
    · skip
      go_enter Try.func7, Try.ntmps7
      go_wp2_with (go_at_call 22; refine (refF_any _ _ _).mono ?_; rintro e w2 ⟨rfl, hb2⟩; obtain ⟨bc, bf, bc1, bf1, bc2, bf2⟩ := bcell hb2)
      refine bodyPost_ret (v := .agg #[.int .i64 2, .int .i64 0]) ?_ rfl ⟨rfl, ((below_next (below2 _ _) hb2).setCell (by simp) _).setCell (by simp) _⟩
      simp [results, Try.results7, go_sem, bc]
    · have hl2 : (1000 : Int) < (len : Int) := by omega
      go_enter Try.func7, Try.ntmps7
      go_wp2_with (go_at_call 22; refine (refF_any _ _ _).mono ?_; rintro e w2 ⟨rfl, hb2⟩; obtain ⟨bc, bf, bc1, bf1, bc2, bf2⟩ := bcell hb2)
      refine bodyPost_ret (v := .agg #[.int .i64 2, .int .i64 0]) ?_ rfl ⟨rfl, ((below_next (below2 _ _) hb2).setCell (by simp) _).setCell (by simp) _⟩
      simp [results, Try.results7, go_sem, bc]

theorem net7_any (n : Int) (v : Value) (al : List Arc3) (w : World) (hA : ArcsAt w v al) :
    Calls Try.prog 7 #[.agg #[.int .i64 n, v]] w fun e w' => e = .returned (.agg #[.int .i64 (netF n al).1, .int .i64 (netF n al).2]) ∧ Below w.heap.size w w' := by
  obtain ⟨ao, cap, rfl⟩ := hA.form
  by_cases hm : n < 0 ∨ 100 < n ∨ 1000 < al.length
  · have e : netF n al = (2, 0) := by unfold netF; rw [if_pos hm]
    rw [e]
    obtain ⟨ao', cap', e', hl, _⟩ := hA
    exact net7_many n ao al.length cap w hl hm
  · exact net7_go n ao cap al w hA (by omega) (by omega) (by omega)

set_option maxHeartbeats 1000000 in
theorem ends30 (n s t : Int) (w : World) : Calls Try.prog 30 #[.int .i64 n, .int .i64 s, .int .i64 t] w fun e w' => e = .returned (.agg #[.int .i64 (endsF n s t).1, .int .i64 (endsF n s t).2]) ∧ Below w.heap.size w w' := by
  unfold endsF
  cases h1 : isN n s
  · go_enter Try.func30, Try.ntmps30
    go_wp2_with (first | (go_at_call 28; refine (isNode28 _ _ _).mono ?_; rintro e w2 ⟨rfl, rfl⟩) | go_in)
    refine bodyPost_ret (v := .agg #[.int .i64 3, .int .i64 0]) ?_ rfl ⟨by simp, (Below.refl _ _).alloc (Nat.le_refl _) _⟩
    simp [results, Try.results30, go_sem]
  · cases h2 : isN n t
    · go_enter Try.func30, Try.ntmps30
      go_wp2_with (first | (go_at_call 28; refine (isNode28 _ _ _).mono ?_; rintro e w2 ⟨rfl, rfl⟩) | go_in)
      refine bodyPost_ret (v := .agg #[.int .i64 3, .int .i64 1]) ?_ rfl ⟨by simp, (Below.refl _ _).alloc (Nat.le_refl _) _⟩
      simp [results, Try.results30, go_sem]
    · by_cases h3 : s = t
      · have k3 : (s == t) = true := by rw [beq_iff_eq]; exact h3
        have H3 : Hid _ := h3
        clear h3
        go_enter Try.func30, Try.ntmps30
        go_wp2_with (first | (go_at_call 28; refine (isNode28 _ _ _).mono ?_; rintro e w2 ⟨rfl, rfl⟩) | go_in)
        refine bodyPost_ret (v := .agg #[.int .i64 5, .int .i64 1]) ?_ rfl ⟨by simp, (Below.refl _ _).alloc (Nat.le_refl _) _⟩
        simp [results, Try.results30, go_sem]
      · have k3 : (s == t) = false := by rw [beq_eq_false_iff_ne]; exact h3
        have H3 : Hid _ := h3
        clear h3
        go_enter Try.func30, Try.ntmps30
        go_wp2_with (first | (go_at_call 28; refine (isNode28 _ _ _).mono ?_; rintro e w2 ⟨rfl, rfl⟩) | go_in)
        refine bodyPost_ret (v := .agg #[.int .i64 0, .int .i64 0]) ?_ rfl ⟨by simp, (Below.refl _ _).alloc (Nat.le_refl _) _⟩
        simp [results, Try.results30, go_sem]

set_option maxHeartbeats 1000000 in
theorem ends10 (n s t : Int) (w : World) : Calls Try.prog 10 #[.int .i64 n, .int .i64 s, .int .i64 t] w fun e w' => e = .returned (.agg #[.int .i64 (endsF n s t).1, .int .i64 (endsF n s t).2]) ∧ Below w.heap.size w w' := by
  by_cases h1 : s < 0
  · skip
    have he : endsF n s t = (3, 0) := endsF_eq (by omega)
    have HE : Hid _ := he
    clear he
    go_enter Try.func10, Try.ntmps10
    go_wp2_with (go_at_call 22; refine (refF_any _ _ _).mono ?_; rintro e w2 ⟨rfl, hb2⟩; obtain ⟨bc, bf, bc1, bf1, bc2, bf2⟩ := bcell hb2)
    refine bodyPost_ret (v := .agg #[.int .i64 3, .int .i64 0]) ?_ rfl ⟨ret2 HE.out rfl rfl, ((below_next ((Below.refl _ w).alloc (Nat.le_refl _) _) hb2).setCell (by simp) _).setCell (by simp) _⟩
    simp [results, Try.results10, go_sem, bc]
  · skip
    by_cases h2 : n ≤ s
    · skip
      have he : endsF n s t = (3, 0) := endsF_eq (by omega)
      have HE : Hid _ := he
      clear he
      go_enter Try.func10, Try.ntmps10
      go_wp2_with (go_at_call 22; refine (refF_any _ _ _).mono ?_; rintro e w2 ⟨rfl, hb2⟩; obtain ⟨bc, bf, bc1, bf1, bc2, bf2⟩ := bcell hb2)
      refine bodyPost_ret (v := .agg #[.int .i64 3, .int .i64 0]) ?_ rfl ⟨ret2 HE.out rfl rfl, ((below_next ((Below.refl _ w).alloc (Nat.le_refl _) _) hb2).setCell (by simp) _).setCell (by simp) _⟩
      simp [results, Try.results10, go_sem, bc]
    · skip
      by_cases h3 : t < 0
      · skip
        have he : endsF n s t = (3, 1) := endsF_eq (by omega)
        have HE : Hid _ := he
        clear he
        go_enter Try.func10, Try.ntmps10
        go_wp2_with (go_at_call 22; refine (refF_any _ _ _).mono ?_; rintro e w2 ⟨rfl, hb2⟩; obtain ⟨bc, bf, bc1, bf1, bc2, bf2⟩ := bcell hb2)
        refine bodyPost_ret (v := .agg #[.int .i64 3, .int .i64 1]) ?_ rfl ⟨ret2 HE.out rfl rfl, ((below_next ((Below.refl _ w).alloc (Nat.le_refl _) _) hb2).setCell (by simp) _).setCell (by simp) _⟩
        simp [results, Try.results10, go_sem, bc]
      · skip
        by_cases h4 : n ≤ t
        · skip
          have he : endsF n s t = (3, 1) := endsF_eq (by omega)
          have HE : Hid _ := he
          clear he
          go_enter Try.func10, Try.ntmps10
          go_wp2_with (go_at_call 22; refine (refF_any _ _ _).mono ?_; rintro e w2 ⟨rfl, hb2⟩; obtain ⟨bc, bf, bc1, bf1, bc2, bf2⟩ := bcell hb2)
          refine bodyPost_ret (v := .agg #[.int .i64 3, .int .i64 1]) ?_ rfl ⟨ret2 HE.out rfl rfl, ((below_next ((Below.refl _ w).alloc (Nat.le_refl _) _) hb2).setCell (by simp) _).setCell (by simp) _⟩
          simp [results, Try.results10, go_sem, bc]
        · skip
          by_cases h5 : s = t
          · have k3 : (s == t) = true := by rw [beq_iff_eq]; exact h5
            have he : endsF n s t = (5, 1) := endsF_eq (by omega)
            have HE : Hid _ := he
            clear he h5
            go_enter Try.func10, Try.ntmps10
            go_wp2_with (go_at_call 22; refine (refF_any _ _ _).mono ?_; rintro e w2 ⟨rfl, hb2⟩; obtain ⟨bc, bf, bc1, bf1, bc2, bf2⟩ := bcell hb2)
            refine bodyPost_ret (v := .agg #[.int .i64 5, .int .i64 1]) ?_ rfl ⟨ret2 HE.out rfl rfl, ((below_next ((Below.refl _ w).alloc (Nat.le_refl _) _) hb2).setCell (by simp) _).setCell (by simp) _⟩
            simp [results, Try.results10, go_sem, bc]
          · have k3 : (s == t) = false := by rw [beq_eq_false_iff_ne]; exact h5
            have he : endsF n s t = (0, 0) := endsF_eq (by omega)
            have HE : Hid _ := he
            clear he h5
            go_enter Try.func10, Try.ntmps10
            go_wp2_with fail
            refine bodyPost_ret (v := .agg #[.int .i64 0, .int .i64 0]) ?_ rfl ⟨ret2 HE.out rfl rfl, (Below.refl _ w).alloc (Nat.le_refl _) _⟩
            simp [results, Try.results10, go_sem]
end Go.Proofs.Ytkakmaalmhofmaa
