/- home: from a node to the one that far counts from, each step to the least node that is nearer. -/
import Derived.BigQuiet
import Derived.Test.YtkbgcbbloogdjacClosedAt
namespace Go.Proofs.Ytkbgcbbloogdjac
open Go.RowKit Go.Maps
attribute [local go_sem ↓] Go.wp_at_zero Go.wp_at_succ

theorem below_drewN {B : Nat} {a w : World} (h : Below B a w) (n : Nat) : Below B a (w.drewN n) := ⟨h.os, h.tape, h.output, h.size, h.block⟩

set_option maxHeartbeats 1000000 in
/-- slices.IndexFunc of a row of numbers, where there is one. -/
theorem indexInt_call {w : World} {xo : Option Addr} {xc : Nat} {l : List Nat} (hrow : ∀ k u : Nat, l[k]? = some u → ∃ b, xo = some ⟨b, 0, none⟩ ∧ w.cell? ⟨b, k, none⟩ = some (.int .i64 (u : Int))) (hl : l.length ≤ 1000) (F : FuncId) (caps : Array Value) (hF : ∀ args w', (callFunc F args).run Try.prog w' = .ok (.enter F args) w')
    (q : Nat → Bool) (hq : ∀ w', Below w.heap.size w w' → ∀ u, u ∈ l → Calls Try.prog F (#[.int .i64 (u : Int)] ++ caps) w' fun e w'' => e = .returned (.bool (q u)) ∧ Below w'.heap.size w' w'')
    {K y : Nat} (hK : l[K]? = some y) (hy : q y = true) (hno : ∀ j x : Nat, j < K → l[j]? = some x → q x = false) :
    Calls Try.prog 50 #[.slice xo l.length xc, .func (.func F) #[] caps] w fun e w' => e = .returned (.int .i64 (K : Int)) ∧ Below w.heap.size w w' := by
  have hKl := (List.getElem?_eq_some_iff.1 hK).1
  have HQ : Hid _ := hq
  have HR : Hid _ := hrow
  have HK : Hid _ := hK
  have HNO : Hid _ := hno
  have HY : Hid _ := hy
  clear hq hrow hK hno hy
  go_enter Try.func50, Try.ntmps50
  go_wp2
  go_loopw [8] (fun i wr => ∃ k : Nat, k ≤ K ∧ i = .int .i64 (k : Int) ∧ Below w.heap.size w wr) (fun i _ => l.length - (numOf i).toNat)
  case atStart => exact ⟨0, Nat.zero_le _, rfl, Below.refl _ _⟩
  case round =>
    obtain ⟨k, hk, rfl, hB⟩ := hrel
    obtain ⟨u, hu?⟩ : ∃ u, l[k]? = some u := ⟨l[k]'(by omega), List.getElem?_eq_getElem (by omega)⟩
    obtain ⟨b, rfl, c1⟩ := HR.out k u hu?
    rw [← hB.cell (by exact World.block_lt_of_cell? w _ c1)] at c1
    have hcall := HQ.out _ hB u (List.mem_of_getElem? hu?)
    have i1 : (0 : Int) ≤ (k : Int) := by omega
    have i2 : (k : Int) < (l.length : Int) := by omega
    by_cases hkK : k = K
    · subst hkK
      rw [HK.out] at hu?
      cases hu?
      rw [HY.out] at hcall
      have HC : Hid _ := hcall
      clear hcall
      go_wp2_with (first
        | (refine Calls.mono HC.out ?_; rintro r wa ⟨rfl, hbA⟩)
        | go_in)
      go_ret
      exact ⟨rfl, below_next hB hbA⟩
    · rw [HNO.out k u (by omega) hu?] at hcall
      have HC : Hid _ := hcall
      clear hcall hu?
      go_wp2_with (first
        | (refine Calls.mono HC.out ?_; rintro r wa ⟨rfl, hbA⟩)
        | go_in)
      go_roundw
      case rel => exact ⟨k + 1, by omega, by go_num, below_next hB hbA⟩
      case measure => simp [numOf]; omega

set_option maxHeartbeats 1000000 in
/-- The closure: whether u is a step nearer than the node in the box. -/
theorem homeStep_call {w : World} {b4 b5 b N : Nat} {o : Nat → Option Nat} {v d : Nat} (h4 : w.cell? ⟨b4, 0, none⟩ = some (.slice (some ⟨b, 0, none⟩) N N)) (h5 : w.cell? ⟨b5, 0, none⟩ = some (.int .i64 (v : Int))) (hrow : RowV w b 3 N (fun x => .int .i64 (farZ (o x)))) (hN : N ≤ 100) (hv : v < N) (hd : o v = some d) (hdN : d < N) {u : Nat} (hu : u < N) :
    Calls Try.prog 51 #[.int .i64 (u : Int), .pointer (some ⟨b4, 0, none⟩), .pointer (some ⟨b5, 0, none⟩)] w fun e w' => e = .returned (.bool (farZ (o u) == (d : Int) - 1)) ∧ Below w.heap.size w w' := by
  have cu := hrow.cell hu
  have cv := hrow.cell hv
  have hz : farZ (o v) = (d : Int) := by rw [hd]; rfl
  rw [hz] at cv
  have i1 : (0 : Int) ≤ (u : Int) := by omega
  have i2 : (u : Int) < (N : Int) := by omega
  have i3 : (0 : Int) ≤ (v : Int) := by omega
  have i4 : (v : Int) < (N : Int) := by omega
  clear hd hz
  go_enter Try.func51, Try.ntmps51
  go_upto_region 1 with (fail)
  go_quiet (fail)
  all_goals
    go_wp2
    go_ret
    exact ⟨by simp, below_drewN (Below.refl _ _) _⟩

/-- The way home: S 0, S 1, .. : each step leads to the least node that is a step nearer. -/
structure HomeTo (N : Nat) (e : Nat → Nat → Bool) (o : Nat → Option Nat) (v D k : Nat) (S : Nat → Nat) : Prop where
  start : S 0 = v
  lt : ∀ i, i ≤ k → S i < N ∧ o (S i) = some (D - i)
  edge : ∀ i, i < k → e (S i) (S (i + 1)) = true
  least : ∀ i x, i < k → x < S (i + 1) → ¬ (e (S i) x = true ∧ o x = some (D - (i + 1)))
theorem HomeTo.more {N : Nat} {e : Nat → Nat → Bool} {o : Nat → Option Nat} {v D k : Nat} {S : Nat → Nat} (h : HomeTo N e o v D k S) {y : Nat} (hy : y < N) (he : e (S k) y = true) (ho : o y = some (D - (k + 1))) (hl : ∀ x, x < y → ¬ (e (S k) x = true ∧ o x = some (D - (k + 1)))) : HomeTo N e o v D (k + 1) (fun i => if i ≤ k then S i else y) := by
  refine ⟨by simp [h.start], fun i hi => ?_, fun i hi => ?_, fun i x hi hx => ?_⟩
  · by_cases c : i ≤ k
    · simp only [if_pos c]; exact h.lt i c
    · have : i = k + 1 := by omega
      subst this
      simp only [if_neg c]; exact ⟨hy, ho⟩
  · by_cases c : i < k
    · simp only [if_pos (show i ≤ k by omega), if_pos (show i + 1 ≤ k by omega)]; exact h.edge i c
    · have : i = k := by omega
      subst this
      simp only [if_pos (Nat.le_refl i), if_neg (show ¬ i + 1 ≤ i by omega)]; exact he
  · by_cases c : i < k
    · simp only [if_pos (show i ≤ k by omega), if_pos (show i + 1 ≤ k by omega)] at hx ⊢; exact h.least i x c hx
    · have : i = k := by omega
      subst this
      simp only [if_pos (Nat.le_refl i), if_neg (show ¬ i + 1 ≤ i by omega)] at hx ⊢; exact hl x hx
def firstK (U : Nat → Nat) (k : Nat) : List Nat := (List.range k).map U
theorem firstK_len (U : Nat → Nat) (k : Nat) : (firstK U k).length = k := by simp [firstK]
theorem firstK_more (S : Nat → Nat) (k y : Nat) : firstK (fun i => if i ≤ k then S i else y) (k + 2) = firstK S (k + 1) ++ [y] := by
  unfold firstK
  rw [List.range_succ, List.map_append]
  congr 1
  · exact List.map_congr_left fun i hi => if_pos (by simp at hi; omega)
  · simp
    omega
/-- The first of a rising list that p tells is the least. -/
theorem filter_first {N : Nat} {p q : Nat → Bool} {y : Nat} (hy : y < N) (hp : p y = true) (hno : ∀ x, x < y → p x = true → q x = false) : ∃ K : Nat, ((List.range N).filter p)[K]? = some y ∧ ∀ j x : Nat, j < K → ((List.range N).filter p)[j]? = some x → q x = false := by
  obtain ⟨k, hk⟩ : ∃ k, N = y + (k + 1) := ⟨N - y - 1, by omega⟩
  have hs : (List.range N).filter p = (List.range y).filter p ++ (y :: ((List.range k).map fun j => y + (j + 1)).filter p) := by
    rw [hk, List.range_add, List.range_succ_eq_map, List.filter_append]
    simp [hp, Function.comp_def]
  refine ⟨((List.range y).filter p).length, ?_, fun j x hj hx => ?_⟩
  · rw [hs, List.getElem?_append_right (Nat.le_refl _)]
    simp
  · rw [hs, List.getElem?_append_left hj] at hx
    have := List.mem_filter.1 (List.mem_of_getElem? hx)
    exact hno x (by simpa using this.1) this.2

def lenOf : Value → Nat | .slice _ n _ => n | _ => 0
abbrev One (w : World) (b : Nat) (x : Value) (t : TypeId) : Prop := w.heap[b]? = some (.cells #[x] t (0, 0))
theorem one_next {W w1 : World} {b : Nat} {x : Value} {t : TypeId} (h : One W b x t) (hb : Below W.heap.size W w1) : One w1 b x t := (hb.block b (lt_of_block h)).trans h
theorem one_free {w : World} {b : Nat} {x : Value} {t : TypeId} (h : One w b x t) : w.frozen? ⟨b, 0, none⟩ = false := by
  have h' : w.heap[b]? = some (.cells #[x] t (0, 0)) := h
  simp [World.frozen?, h']
theorem one_set {w : World} {b : Nat} {x y : Value} {t : TypeId} (h : One w b x t) : One (w.setCell ⟨b, 0, none⟩ y) b y t := by
  have h' : w.heap[b]? = some (.cells #[x] t (0, 0)) := h
  show (w.setCell ⟨b, 0, none⟩ y).heap[b]? = _
  simp [World.setCell, Array.getElem?_modify, h']
theorem one_far {w : World} {b b' o : Nat} {x u : Value} {t : TypeId} (h : One w b x t) (hne : b ≠ b') : One (w.setCell ⟨b', o, none⟩ u) b x t := (Below.heap_setCell _ _ _ _ hne).trans h
theorem one_new (w : World) (x : Value) (t : TypeId) : One (w.alloc (Obj.cells #[x] t)) w.heap.size x t := heap_alloc_new _ _
theorem one_alloc {w : World} {b : Nat} {x : Value} {t : TypeId} (h : One w b x t) (o : Obj) : One (w.alloc o) b x t := (Below.heap_alloc _ _ _ (lt_of_block h)).trans h
theorem one_turns {M : Nat → Prop} {w w' : World} {b : Nat} {x : Value} {t : TypeId} (h : One w b x t) (ht : Turns M w w') (hm : ¬ M b) : One w' b x t := (ht.block b (lt_of_block h) hm).trans h
theorem enter51 (args : Array Value) (w : World) : (callFunc 51 args).run Try.prog w = .ok (.enter 51 args) w := by
  simp [callFunc, Try.func51, go_sem]
  rw [if_neg (of_decide_eq_true (by kernel_rfl)), if_neg (by intro h; have : Try.f51.body.isSome = true := (by kernel_rfl); rw [h] at this; cases this)]

set_option maxRecDepth 4000 in
set_option maxHeartbeats 4000000 in
theorem home_call {w : World} {ao : Option Addr} {N cap : Nat} {ls : Nat → List Nat} {e : Nat → Nat → Bool} (hn : NearR w ao N ls) (hls : ∀ i, i < N → ls i = (List.range N).filter (e i)) (hN : N ≤ 100) {b : Nat} {o : Nat → Option Nat} (hrow : RowV w b 3 N (fun x => .int .i64 (farZ (o x)))) {t : Nat} (hdist : Dist N e t o) (hs : ∀ a b, a < N → b < N → e a b = true → e b a = true) {v D : Nat} (hv : v < N) (hov : o v = some D) :
    Calls Try.prog 32 #[.slice ao N cap, .slice (some ⟨b, 0, none⟩) N N, .int .i64 (v : Int)] w fun r w' => ∃ pv S, r = .returned pv ∧ HomeTo N e o v D D S ∧ w'.ownsRow w.heap.size 3 1 pv (firstK S (D + 1)).length (qv (firstK S (D + 1))) ∧ Below w.heap.size w w' := by
  have hDN := hdist.lt hv hov
  have hlt := hrow.lt
  have hstart : HomeTo N e o v D 0 (fun _ => v) := by
    refine ⟨rfl, fun i hi => ⟨hv, ?_⟩, fun i hi => by omega, fun i x hi => by omega⟩
    have : i = 0 := by omega
    subst this
    exact hov
  have HN : Hid _ := hn
  have HL : Hid _ := hls
  have HRW : Hid _ := hrow
  have HDI : Hid _ := hdist
  have HSY : Hid _ := hs
  have HST : Hid _ := hstart
  clear hn hls hrow hdist hs hstart hov
  go_enter Try.func32, Try.ntmps32
  go_upto_region 2 with (fail)
  have t4 : One (((w.alloc (Obj.cells #[.slice (some ⟨b, 0, none⟩) N N] 29)).alloc (Obj.cells #[.int .i64 (v : Int)] 3)).alloc (Obj.cells #[.int .i64 (v : Int)] 3)) w.heap.size (.slice (some ⟨b, 0, none⟩) N N) 29 := one_alloc (one_alloc (one_new w _ _) _) _
  have t5 : One (((w.alloc (Obj.cells #[.slice (some ⟨b, 0, none⟩) N N] 29)).alloc (Obj.cells #[.int .i64 (v : Int)] 3)).alloc (Obj.cells #[.int .i64 (v : Int)] 3)) (w.heap.size + 1) (.int .i64 (v : Int)) 3 := one_alloc (by simpa [One] using heap_alloc_new (w.alloc (Obj.cells #[.slice (some ⟨b, 0, none⟩) N N] 29)) (Obj.cells #[.int .i64 (v : Int)] 3)) _
  have hq : (((w.alloc (Obj.cells #[.slice (some ⟨b, 0, none⟩) N N] 29)).alloc (Obj.cells #[.int .i64 (v : Int)] 3)).alloc (Obj.cells #[.int .i64 (v : Int)] 3)).ownsRow (w.heap.size + 2) 3 1 (.slice (some ⟨w.heap.size + 1 + 1, 0, none⟩) 1 1) 1 (qv [v]) := by
    have := ownsRow_one ((w.alloc (Obj.cells #[.slice (some ⟨b, 0, none⟩) N N] 29)).alloc (Obj.cells #[.int .i64 (v : Int)] 3)) (w.heap.size + 2) (.int .i64 (v : Int)) 3 (by simp)
    simpa [qv] using this
  have hB := below_alloc (below2 (w := w) (Obj.cells #[.slice (some ⟨b, 0, none⟩) N N] 29) (Obj.cells #[.int .i64 (v : Int)] 3)) (Obj.cells #[.int .i64 (v : Int)] 3)
  generalize ((w.alloc (Obj.cells #[.slice (some ⟨b, 0, none⟩) N N] 29)).alloc (Obj.cells #[.int .i64 (v : Int)] 3)).alloc (Obj.cells #[.int .i64 (v : Int)] 3) = W at t4 t5 hq hB ⊢
  go_wp2
  go_loopw [7] (fun p wr => ∃ (k : Nat) (S : Nat → Nat), k ≤ D ∧ HomeTo N e o v D k S ∧ wr.ownsRow (w.heap.size + 2) 3 1 p (firstK S (k + 1)).length (qv (firstK S (k + 1))) ∧ One wr w.heap.size (.slice (some ⟨b, 0, none⟩) N N) 29 ∧ One wr (w.heap.size + 1) (.int .i64 (S k : Int)) 3 ∧ Below w.heap.size w wr) (fun p _ => D + 1 - lenOf p)
  case atStart => exact ⟨0, _, Nat.zero_le _, HST.out, by simpa [firstK] using hq, t4, t5, hB⟩
  case round =>
    obtain ⟨k, S, hk, hh, hq2, s4, s5, hBr⟩ := hrel
    clear hq t4 t5 hB
    obtain ⟨po, pc, rfl⟩ := form_row hq2
    obtain ⟨hSN, hoS⟩ := hh.lt k (Nat.le_refl _)
    have hrr : RowV wr b 3 N (fun x => .int .i64 (farZ (o x))) := RowV.block HRW.out (hBr.block _ hlt)
    have cS := hrr.cell hSN
    have hzS : farZ (o (S k)) = ((D - k : Nat) : Int) := by rw [hoS]; rfl
    rw [hzS] at cS
    have c4 := cell_of_one s4
    have c5 := cell_of_one s5
    have hfl : (firstK S (k + 1)).length ≤ k + 1 := Nat.le_of_eq (firstK_len S (k + 1))
    have i1 : (0 : Int) ≤ (S k : Int) := by omega
    have i2 : (S k : Int) < (N : Int) := by omega
    have HH : Hid _ := hh
    have HOS : Hid _ := hoS
    clear hh hoS hzS
    by_cases hkD : k < D
    · have hpos : (0 : Int) < ((D - k : Nat) : Int) := by omega
      obtain ⟨y, hyN, hey, hoy, hyl⟩ : ∃ y, y < N ∧ e (S k) y = true ∧ o y = some (D - (k + 1)) ∧ ∀ x, x < y → ¬ (e (S k) x = true ∧ o x = some (D - (k + 1))) := by
        rcases HDI.out.par (S k) _ hSN HOS.out with ⟨_, h0⟩ | ⟨p, d', h1, h2, h3, h4⟩
        · omega
        · obtain ⟨y, h5, ⟨h6, h7⟩, h8⟩ := least_ex (P := fun y => e (S k) y = true ∧ o y = some (D - (k + 1))) (show e (S k) p = true ∧ o p = some (D - (k + 1)) from ⟨HSY.out _ _ h1 hSN h2, by rw [h3]; congr 1; omega⟩)
          exact ⟨y, by omega, h6, h7, h8⟩
      have hq : ∀ u, (farZ (o u) == ((D - k : Nat) : Int) - 1) = true ↔ o u = some (D - (k + 1)) := fun u => by
        rw [beq_iff_eq, ← farZ_eq]
        omega
      have hlsk := HL.out (S k) hSN
      obtain ⟨K, hK1, hK2⟩ := filter_first (N := N) (p := e (S k)) (q := fun u => farZ (o u) == ((D - k : Nat) : Int) - 1) hyN hey (fun x hx hp => by
        cases hh : (farZ (o x) == ((D - k : Nat) : Int) - 1)
        · rfl
        · exact absurd ⟨hp, (hq x).1 hh⟩ (hyl x hx))
      rw [← hlsk] at hK1 hK2
      have hKl := (List.getElem?_eq_some_iff.1 hK1).1
      have hll : (ls (S k)).length ≤ N := by rw [hlsk]; exact Nat.le_trans (List.length_filter_le _ _) (by simp)
      obtain ⟨g, xo, xc, rfl, g0w, g1w⟩ := HN.out (S k) hSN
      have g0 := (hBr.cell (by exact World.block_lt_of_cell? w _ g0w)).trans g0w
      have hrow2 : ∀ j u : Nat, (ls (S k))[j]? = some u → ∃ b, xo = some ⟨b, 0, none⟩ ∧ wr.cell? ⟨b, j, none⟩ = some (.int .i64 (u : Int)) := fun j u hu => by
        obtain ⟨b', h1, h2⟩ := g1w j u hu
        exact ⟨b', h1, (hBr.cell (by exact World.block_lt_of_cell? w _ h2)).trans h2⟩
      have hidx := indexInt_call (xc := xc) hrow2 (by omega) 51 #[.pointer (some ⟨w.heap.size, 0, none⟩), .pointer (some ⟨w.heap.size + 1, 0, none⟩)] enter51 (fun u => farZ (o u) == ((D - k : Nat) : Int) - 1) (fun w' hb u hu => by
        have huN : u < N := by
          rw [hlsk] at hu
          have := (List.mem_filter.1 hu).1
          simpa using this
        have := homeStep_call (b4 := w.heap.size) (b5 := w.heap.size + 1) (d := D - k) (u := u) (cell_of_one (one_next s4 hb)) (cell_of_one (one_next s5 hb)) (RowV.below hrr hb) hN hSN HOS.out (by omega) huN
        simpa using this) hK1 ((hq y).2 hoy) hK2
      obtain ⟨bx, rfl, c1⟩ := g1w K y hK1
      have c1' := (hBr.cell (by exact World.block_lt_of_cell? w _ c1)).trans c1
      have hmore := HH.out.more hyN hey hoy hyl
      have HM : Hid _ := hmore
      have HIX : Hid _ := hidx
      have j1 : (0 : Int) ≤ (K : Int) := by omega
      have j2 : (K : Int) < ((ls (S k)).length : Int) := by omega
      clear hmore hidx hrow2 g1w hK1 hK2 hq hyl hey hoy hlsk
      go_upto_region 4 with (first
        | (go_at_call 50; refine Calls.mono HIX.out ?_; rintro r wa ⟨rfl, hbA⟩)
        | go_in)
      have g0a := (hbA.cell (by exact World.block_lt_of_cell? wr _ g0)).trans g0
      have c1a := (hbA.cell (by exact World.block_lt_of_cell? wr _ c1')).trans c1'
      have s4a := one_next s4 hbA
      have s5a := one_next s5 hbA
      have hqa := ownsRow_blocks hq2 (w' := wa) (fun b hb => hbA.block b (hq2.lt b hb).2)
      have hBa := below_next hBr hbA
      have c5a := cell_of_one s5a
      have f5a := one_free s5a
      clear g0 c1' c4 c5 cS s4 s5 hq2 hBr hrr
      go_upto_region 5 with (fail)
      have s4b := one_far (b' := w.heap.size + 1) (o := 0) (u := .int .i64 (y : Int)) s4a (by omega)
      have s5b := one_set (y := .int .i64 (y : Int)) s5a
      have hqb := ownsRow_blocks hqa (w' := wa.setCell ⟨w.heap.size + 1, 0, none⟩ (.int .i64 (y : Int))) (fun b hb => Below.heap_setCell _ _ _ _ (fun hh => by
        have hh' : b = w.heap.size + 1 := hh
        have := (hqa.lt b hb).1
        omega))
      have hBb := hBa.setCell (p := ⟨w.heap.size + 1, 0, none⟩) (by simp) (.int .i64 (y : Int))
      generalize wa.setCell ⟨w.heap.size + 1, 0, none⟩ (.int .i64 (y : Int)) = wy at s4b s5b hqb hBb ⊢
      clear g0a c1a s4a s5a hqa hBa c5a f5a
      have c5b := cell_of_one s5b
      have hsz := lt_of_block s5b
      go_wp2_with (first
        | (at_builtin; refine wpList_push (x := y) rfl _ _ rfl rfl rfl hqb (by omega) (by omega) ?_; intro v' w3 hown1 hgr1)
        | go_in)
      have T1 := (alloc_turns wy (Obj.cells #[.int .i64 (y : Int)] 3) _).trans (Turns.of_grown hgr1)
      have hB3 := T1.below hBb hBb.size (fun j hj => by have := (hqb.lt j hj.symm).1; omega)
      have s43 := one_turns s4b T1 (fun hh => by have := (hqb.lt _ hh.symm).1; omega)
      have s53 := one_turns s5b T1 (fun hh => by have := (hqb.lt _ hh.symm).1; omega)
      obtain ⟨vo, vc, rfl⟩ := form_row hown1
      go_roundw
      case rel =>
        have hn : ¬ k + 1 ≤ k := by omega
        exact ⟨k + 1, _, by omega, HM.out, by rw [firstK_more]; exact hown1, s43, by simpa [hn] using s53, hB3⟩
      case measure => simp [lenOf, firstK_len]; omega
    · have hke : D = k := by omega
      subst hke
      have hz0 : ¬ (0 : Int) < ((D - D : Nat) : Int) := by omega
      go_wp2
      go_ret
      exact ⟨_, rfl, S, HH.out, ownsRow_mono hq2 (by omega), hBr⟩
end Go.Proofs.Ytkbgcbbloogdjac
