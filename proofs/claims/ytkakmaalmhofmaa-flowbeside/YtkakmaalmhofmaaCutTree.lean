/- cutTree: the tree of Gomory and Hu. -/
import Derived.Test.YtkakmaalmhofmaaAlong
import Derived.Test.YtkakmaalmhofmaaSend
import Derived.Test.YtkakmaalmhofmaaMostW
import Derived.Test.YtkakmaalmhofmaaGomoryM
import Derived.Deep.Cut
import Derived.Deep.CutRange
namespace Go.Proofs.Ytkakmaalmhofmaa
open Go.RowKit Go.Maps
attribute [local go_sem ↓] Go.wp_at_zero Go.wp_at_succ

abbrev rep (n : Nat) (z : Value) : Array Value := madeCells #[z] n
theorem make30 (N : Nat) (hN : N ≤ 1000) (w : World) : (Instr.makeSlice 30 (.int .i64 (N : Int)) (.int .i64 (N : Int))).run Try.prog w = .ok (.slice (some ⟨w.heap.size, 0, none⟩) N N) (w.alloc (.cells (rep N (.int .i64 0)) 3)) := by
  obtain ⟨i3, hi3, hy0, hy1, hy2⟩ := info_parts Try.info3
  have hr := run_make (P := Try.prog) w 30 3 i3 (.int .i64 0) Try.underlying30 hi3 hy0 .i64 .i64 N N (by omega) (Int.le_refl _) (by rw [hy2]; omega) (by omega)
  simpa [hy1, Value.cells] using hr
theorem rep_at {n j : Nat} (z : Value) (h : j < n) : (rep n z)[j]? = some z := by
  simp [madeCells, h, Nat.mod_one]
theorem rep_size (n : Nat) (z : Value) : (rep n z).size = n := by simp [madeCells]
theorem rowV_rep {w : World} {b N : Nat} {t : TypeId} {z : Value} (h : w.heap[b]? = some (.cells (rep N z) t (0, 0))) : RowV w b t N (fun _ => z) := ⟨_, h, rep_size N z, fun _ hj => rep_at z hj⟩

/-- No more goes than a cut holds. -/
theorem Mv.le_cut {T : Nat → Nat} {t s m : Nat} {x : Int} {R R' : Nat → Int} {Y : Nat → Bool} (h : Mv (2 * m) T t s x R R') (hs : Y s = true) (ht : Y t = false) :
    x ≤ sumN (fun a => if Y (T (2 * a + 1)) = true then (if Y (T (2 * a)) = true then 0 else R (2 * a)) else (if Y (T (2 * a)) = true then R (2 * a + 1) else 0)) m := by
  have h1 := h.net Y
  rw [if_pos hs, if_neg (by rw [ht]; simp)] at h1
  unfold outR at h1
  rw [sumN_two, sumN_two] at h1
  have h2 : x = sumN (fun a => ((if Y (T (tw (2 * a))) = true then R (2 * a) else 0) + (if Y (T (tw (2 * a + 1))) = true then R (2 * a + 1) else 0)) - ((if Y (T (tw (2 * a))) = true then R' (2 * a) else 0) + (if Y (T (tw (2 * a + 1))) = true then R' (2 * a + 1) else 0))) m := by
    rw [sumN_sub]; omega
  rw [h2]
  refine sumN_mono (fun a ha => ?_)
  rw [tw_even, tw_odd]
  have hp := h.pair (2 * a) (by omega)
  rw [tw_even] at hp
  have c1 := h.pos (2 * a) (by omega)
  have c2 := h.pos (2 * a + 1) (by omega)
  by_cases e1 : Y (T (2 * a + 1)) = true
  · by_cases e2 : Y (T (2 * a)) = true
    · simp only [e1, e2, if_true]; omega
    · simp only [e1, e2, if_true]
      simp
      omega
  · by_cases e2 : Y (T (2 * a)) = true
    · simp only [e1, e2, if_true]
      simp
      omega
    · simp [e1, e2]

def endA (es : List Pair) (a : Nat) : Nat := (es.getD a (0, 0)).1.toNat
def endB (es : List Pair) (a : Nat) : Nat := (es.getD a (0, 0)).2.toNat
def wtE (ws : List Int) (a : Nat) : Int := ws.getD a 0
theorem tsE_get {es : List Pair} {a : Nat} (h : a < es.length) : (tsE es).getD (2 * a) 0 = endB es a ∧ (tsE es).getD (2 * a + 1) 0 = endA es a := pr_getD _ _ 0 (0, 0) h
theorem rsW_get {ws : List Int} {a : Nat} (h : a < ws.length) : (rsW ws).getD (2 * a) 0 = wtE ws a ∧ (rsW ws).getD (2 * a + 1) 0 = wtE ws a := pr_getD _ _ 0 0 h
theorem cut_dcut {es : List Pair} {ws : List Int} (hl : ws.length = es.length) (Y : Nat → Bool) :
    sumN (fun a => if Y ((tsE es).getD (2 * a + 1) 0) = true then (if Y ((tsE es).getD (2 * a) 0) = true then 0 else (rsW ws).getD (2 * a) 0) else (if Y ((tsE es).getD (2 * a) 0) = true then (rsW ws).getD (2 * a + 1) 0 else 0)) es.length = dcut es.length (endA es) (endB es) (wtE ws) Y := by
  refine sumN_congr (fun a ha => ?_)
  have e1 := tsE_get ha
  have e2 := rsW_get (ws := ws) (a := a) (by omega)
  rw [e1.1, e1.2, e2.1, e2.2]
  cases Y (endA es a) <;> cases Y (endB es a) <;> rfl
theorem rsW_ok {ws : List Int} (hw : ∀ x ∈ ws, 0 ≤ x ∧ x ≤ 1000000) : Ok (2 * ws.length) (fun p => (rsW ws).getD p 0) := fun p hp => by
  have hb : ∀ a, a < ws.length → 0 ≤ wtE ws a ∧ wtE ws a ≤ 1000000 := fun a ha => by
    unfold wtE
    rw [getD_lt ha]
    exact hw _ (List.getElem_mem ha)
  obtain ⟨a, rfl | rfl⟩ : ∃ a, p = 2 * a ∨ p = 2 * a + 1 := ⟨p / 2, by omega⟩
  · have ha : a < ws.length := by omega
    have h1 := hb a ha
    rw [tw_even]
    show 0 ≤ (rsW ws).getD (2 * a) 0 ∧ (rsW ws).getD (2 * a) 0 + (rsW ws).getD (2 * a + 1) 0 ≤ 4000000
    rw [(rsW_get ha).1, (rsW_get ha).2]
    omega
  · have ha : a < ws.length := by omega
    have h1 := hb a ha
    rw [tw_odd]
    show 0 ≤ (rsW ws).getD (2 * a + 1) 0 ∧ (rsW ws).getD (2 * a + 1) 0 + (rsW ws).getD (2 * a) 0 ≤ 4000000
    rw [(rsW_get ha).1, (rsW_get ha).2]
    omega
/-- What fill has sent is the least cut, and the reached nodes show it. -/
theorem fill_is {n s t : Nat} {es : List Pair} {ws : List Int} {x : Int} {R' F : Nat → Int} {f : Nat → Nat → Int} (hl : ws.length = es.length) (hg : ∀ e ∈ es, 0 ≤ e.1 ∧ e.1 < n ∧ 0 ≤ e.2 ∧ e.2 < n) (hst : s ≠ t) (hf : AllF es.length (endA es) (endB es) (wtE ws) f)
    (hm : Mv (2 * es.length) (fun p => (tsE es).getD p 0) t s x (fun p => (rsW ws).getD p 0) R') (hfa : Far n (2 * es.length) (fun p => (tsE es).getD p 0) R' s F) (ht : F t = -1) :
    x = f s t ∧ dcut es.length (endA es) (endB es) (wtE ws) (fun v => decide (F v ≠ -1)) = f s t := by
  have hN : ∀ q, q < 2 * es.length → (tsE es).getD q 0 < n := fun q hq => by
    obtain ⟨a, rfl | rfl⟩ : ∃ a, q = 2 * a ∨ q = 2 * a + 1 := ⟨q / 2, by omega⟩
    · have ha : a < es.length := by omega
      rw [(tsE_get ha).1]
      have h5 := hg es[a] (List.getElem_mem ha)
      unfold endB
      rw [getD_lt ha]
      omega
    · have ha : a < es.length := by omega
      rw [(tsE_get ha).2]
      have h5 := hg es[a] (List.getElem_mem ha)
      unfold endA
      rw [getD_lt ha]
      omega
  have h1 := hm.cut (S := fun v => decide (F v ≠ -1)) (by have := hfa.src; simp; omega) (by simp [ht]) (fun p hp h1 h2 => by
    have hp0 := hm.pos p hp
    by_cases e : R' p = 0
    · exact e
    · exfalso
      have h3 : F ((tsE es).getD (tw p) 0) ≠ -1 := by simpa using h1
      have h4 : F ((tsE es).getD p 0) = -1 := by simpa using h2
      have htw := tw_lt (M := 2 * es.length) (by omega) hp
      have h5 := hfa.low _ (hN _ htw)
      have h6 := hfa.closed p hp (by show 0 ≤ F ((tsE es).getD (tw p) 0); omega) (by omega)
      have h6' : 0 ≤ F ((tsE es).getD p 0) := h6
      omega)
  have h2 := cut_dcut hl (fun v => decide (F v ≠ -1))
  have h3 : x = dcut es.length (endA es) (endB es) (wtE ws) (fun v => decide (F v ≠ -1)) := h1.trans h2
  have h4 := hf.le hst (X := fun v => decide (F v ≠ -1)) (by have := hfa.src; simp [ht]; omega)
  obtain ⟨Y, y1, y2, y3⟩ := (hf s t hst).1
  have h5 := hm.le_cut y1 y2
  have h6 : x ≤ dcut es.length (endA es) (endB es) (wtE ws) Y := Int.le_trans h5 (Int.le_of_eq (cut_dcut hl Y))
  omega

/-- The tree so far: nodes below s are parted. -/
structure TI (N : Nat) (f : Nat → Nat → Int) (s : Nat) (up : Nat → Nat) (cz : Nat → Int) : Prop where
  gh : GH N f s up
  lt : ∀ v, 0 < v → v < s → up v < v
  cut : ∀ v, 0 < v → v < s → cz v = f v (up v)
  leaf : ∀ v r, 0 < v → v < s → r < v → r ≠ up v → f v r ≤ f v (up v) ∧ f v r ≤ f (up v) r ∧ (f v (up v) ≤ f v r ∨ f (up v) r ≤ f v r)
  zero : cz 0 = 0
theorem TI.start (N : Nat) (f : Nat → Nat → Int) : TI N f 1 (fun _ => 0) (fun _ => 0) := ⟨GH.start N f, fun v h1 h2 => by omega, fun v h1 h2 => by omega, fun v r h1 h2 => by omega, rfl⟩
theorem reup_low {up : Nat → Nat} {s v : Nat} {X : Nat → Bool} (h : v ≤ s) : reup up s X v = up v := by
  unfold reup
  rw [if_neg (by omega)]
theorem TI.step {m N s : Nat} {A B : Nat → Nat} {wt : Nat → Int} {f : Nat → Nat → Int} {up : Nat → Nat} {cz : Nat → Int} {X : Nat → Bool} (h : TI N f s up cz) (hf : AllF m A B wt f) (hw : ∀ a, a < m → 0 ≤ wt a) (h0 : 0 < s) (hs : s < N) (h1 : X s = true) (h2 : X (up s) = false) (hX : dcut m A B wt X = f s (up s)) {x : Int} (hx : x = f s (up s)) :
    TI N f (s + 1) (reup up s X) (fun v => if v = s then x else cz v) := by
  refine ⟨h.gh.step hf hw hs h1 h2 hX, fun v h3 h4 => ?_, fun v h3 h4 => ?_, fun v r h3 h4 h5 h6 => ?_, ?_⟩
  · rw [reup_low (by omega)]
    by_cases e : v = s
    · subst e; exact h.gh.lt v (Nat.le_refl _) hs
    · exact h.lt v h3 (by omega)
  · rw [reup_low (by omega)]
    by_cases e : v = s
    · subst e; rw [if_pos rfl]; exact hx
    · rw [if_neg e]; exact h.cut v h3 (by omega)
  · rw [reup_low (by omega)] at h6 ⊢
    by_cases e : v = s
    · subst e; exact h.gh.leaf hf hs h5 h6
    · exact h.leaf v r h3 (by omega) h5 h6
  · show (if 0 = s then x else cz 0) = 0
    rw [if_neg (by omega)]
    exact h.zero
def upz (up : Nat → Nat) (v : Nat) : Int := if v = 0 then -1 else (up v : Int)

/-- One step of the inner loop: nodes below k have been looked at. -/
def reupTo (up : Nat → Nat) (s : Nat) (X : Nat → Bool) (k : Nat) : Nat → Nat := fun u => if s < u ∧ u < k ∧ up u = up s ∧ X u = true then s else up u
theorem reupTo_end {up : Nat → Nat} {s N u : Nat} {X : Nat → Bool} (h : u < N) : reupTo up s X N u = reup up s X u := by
  unfold reupTo reup
  by_cases c : s < u ∧ up u = up s ∧ X u = true
  · rw [if_pos ⟨c.1, h, c.2⟩, if_pos c]
  · rw [if_neg (fun c' => c ⟨c'.1, c'.2.2⟩), if_neg c]
theorem reupTo_start {up : Nat → Nat} {s u : Nat} {X : Nat → Bool} : reupTo up s X (s + 1) u = up u := by
  unfold reupTo
  rw [if_neg (by omega)]
theorem reupTo_succ {up : Nat → Nat} {s k u : Nat} {X : Nat → Bool} (hk : s < k) : reupTo up s X (k + 1) u = if u = k ∧ up k = up s ∧ X k = true then s else reupTo up s X k u := by
  unfold reupTo
  by_cases e : u = k
  · subst e
    by_cases c : up u = up s ∧ X u = true
    · rw [if_pos ⟨hk, by omega, c⟩, if_pos ⟨rfl, c⟩]
    · rw [if_neg (fun c' => c c'.2.2), if_neg (fun c' => c c'.2), if_neg (fun c' => c c'.2.2)]
  · rw [if_neg (fun c : u = k ∧ up k = up s ∧ X k = true => e c.1)]
    by_cases c : s < u ∧ u < k ∧ up u = up s ∧ X u = true
    · rw [if_pos c, if_pos ⟨c.1, by omega, c.2.2⟩]
    · rw [if_neg c, if_neg (fun c' => c ⟨c'.1, by omega, c'.2.2⟩)]

theorem reupTo_same {up : Nat → Nat} {s k u : Nat} {X : Nat → Bool} (hk : s < k) (h : ¬ (up k = up s ∧ X k = true)) : upz (reupTo up s X k) u = upz (reupTo up s X (k + 1)) u := by
  unfold upz
  rw [reupTo_succ hk, if_neg (fun c : u = k ∧ up k = up s ∧ X k = true => h c.2)]
theorem reupTo_set {up : Nat → Nat} {s k : Nat} {X : Nat → Bool} (hk : s < k) (h : up k = up s ∧ X k = true) (u : Nat) : (if u = k then (s : Int) else upz (reupTo up s X k) u) = upz (reupTo up s X (k + 1)) u := by
  unfold upz
  rw [reupTo_succ hk]
  by_cases e : u = k
  · subst e
    rw [if_pos rfl, if_neg (by omega), if_pos ⟨rfl, h⟩]
  · rw [if_neg e, if_neg (fun c : u = k ∧ up k = up s ∧ X k = true => e c.1)]

/-- What cutTree tells. -/
def TreeIs (N : Nat) (es : List Pair) (ws : List Int) (w' : World) (bu bc : Nat) : Prop :=
  ∃ f up cz, AllF es.length (endA es) (endB es) (wtE ws) f ∧ TI N f N up cz ∧ RowV w' bu 3 N (fun v => .int .i64 (upz up v)) ∧ RowV w' bc 3 N (fun v => .int .i64 (cz v))

set_option maxRecDepth 4000 in
set_option maxHeartbeats 8000000 in
theorem cutTree_call {N : Nat} {ev : Value} {es : List Pair} {wo : Option Addr} {wc0 : Nat} {ws : List Int} {w : World} (hE : EdgesAt w ev es) (hW : NumsZ w wo ws) (h0 : 0 < N) (hN : N ≤ 100) (hl : es.length ≤ 1000) (hwl : ws.length = es.length) (hg : ∀ e ∈ es, 0 ≤ e.1 ∧ e.1 < N ∧ 0 ≤ e.2 ∧ e.2 < N) (hws : ∀ x ∈ ws, 0 ≤ x ∧ x ≤ 1000000) :
    Calls Try.prog 49 #[.agg #[.int .i64 (N : Int), ev], .slice wo es.length wc0] w fun r w' => ∃ bu bc, r = .returned (.tuple #[sl bu N, sl bc N]) ∧ TreeIs N es ws w' bu bc ∧ (w.heap.size ≤ bu ∧ w.heap.size ≤ bc) ∧ Below w.heap.size w w' := by
  obtain ⟨ao, cap, rfl⟩ := hE.form
  have hwt : ∀ a, a < es.length → 0 ≤ wtE ws a := fun a ha => by
    unfold wtE
    rw [getD_lt (by omega : a < ws.length)]
    exact (hws _ (List.getElem_mem _)).1
  obtain ⟨f, hf⟩ := allF_ex (A := endA es) (B := endB es) hwt
  have hok : Ok (2 * es.length) (fun p => (rsW ws).getD p 0) := by rw [← hwl]; exact rsW_ok hws
  have hm1 := make30 N (by omega)
  obtain ⟨R3, hR3⟩ : ∃ R, R = rep N (.int .i64 0) := ⟨_, rfl⟩
  rw [← hR3] at hm1
  have HR3 : Hid _ := hR3
  have HE : Hid _ := hE
  have HW : Hid _ := hW
  have HG : Hid _ := hg
  have HF : Hid _ := hf
  have HWT : Hid _ := hwt
  have HOK : Hid _ := hok
  have HWL : Hid _ := hwl
  clear hE hW hg hws hf hwt hok hwl hR3
  go_enter Try.func49, Try.ntmps49
  go_upto_region 1 with (fail)
  go_cut [4, 5] from 9 to 14 (fun s4 s5 wc => ∃ bu bc, s4 = sl bu N ∧ s5 = sl bc N ∧ bu ≠ bc ∧ w.heap.size < bu ∧ w.heap.size < bc ∧ RowV wc bu 3 N (fun _ => .int .i64 0) ∧ RowV wc bc 3 N (fun _ => .int .i64 0) ∧ Two wc w.heap.size (.int .i64 (N : Int)) (.slice ao es.length cap) 40 ∧ Below w.heap.size w wc)
  case first =>
    go_region
    all_goals (go_wp2_with fail; go_meet)
    all_goals
      case rel =>
        have e1 := heap_alloc_new (w.alloc (Obj.cells #[.int .i64 (N : Int), .slice ao es.length cap] 40)) (Obj.cells R3 3)
        have e2 := heap_alloc_new ((w.alloc (Obj.cells #[.int .i64 (N : Int), .slice ao es.length cap] 40)).alloc (Obj.cells R3 3)) (Obj.cells R3 3)
        have s1 : (w.alloc (Obj.cells #[.int .i64 (N : Int), .slice ao es.length cap] 40)).heap.size = w.heap.size + 1 := by simp
        have s2 : ((w.alloc (Obj.cells #[.int .i64 (N : Int), .slice ao es.length cap] 40)).alloc (Obj.cells R3 3)).heap.size = w.heap.size + 1 + 1 := by simp
        rw [s1] at e1
        rw [s2] at e2
        have e3 := (Below.heap_alloc ((w.alloc (Obj.cells #[.int .i64 (N : Int), .slice ao es.length cap] 40)).alloc (Obj.cells R3 3)) (Obj.cells R3 3) (w.heap.size + 1) (by rw [s2]; omega)).trans e1
        have t0 : Two (((w.alloc (Obj.cells #[.int .i64 (N : Int), .slice ao es.length cap] 40)).alloc (Obj.cells R3 3)).alloc (Obj.cells R3 3)) w.heap.size (.int .i64 (N : Int)) (.slice ao es.length cap) 40 := two_alloc (two_alloc (two_new _ _ _ _) _) _
        have hb := below_alloc (below_alloc (below_alloc (Below.refl _ w) (Obj.cells #[.int .i64 (N : Int), .slice ao es.length cap] 40)) (Obj.cells R3 3)) (Obj.cells R3 3)
        rw [HR3.out] at e2 e3 t0 hb ⊢
        have r2 := rowV_rep e2
        have r3 := rowV_rep e3
        first
          | exact ⟨w.heap.size + 1, w.heap.size + 1 + 1, rfl, rfl, by omega, by omega, by omega, r3, r2, t0, hb.drew⟩
          | exact ⟨w.heap.size + 1 + 1, w.heap.size + 1, rfl, rfl, by omega, by omega, by omega, r2, r3, t0, hb.drew⟩
  case rest =>
    obtain ⟨bu, bc, rfl, rfl, hne, lu, lc, hru, hrc, t0, hB⟩ := hcut
    clear hm1 HR3
    have fz := hru.free 0
    have cz := hru.cell h0
    have i0 : (0 : Int) < (N : Int) := by omega
    have hru1 := (hru.set 0 (.int .i64 (-1))).congr (g := fun v => .int .i64 (upz (fun _ => 0) v)) (fun v _ => by by_cases e : v = 0 <;> simp [upz, e])
    have T0 := setCell_turns wc bu 0 (.int .i64 (-1))
    have hrc1 := hrc.turns T0 (fun e => hne e.symm)
    have t01 := two_turns t0 T0 (by omega)
    have hB1 := hB.setCell (p := ⟨bu, 0, none⟩) (by show w.heap.size ≤ bu; omega) (.int .i64 (-1))
    have HU : Hid _ := hru1
    have HC : Hid _ := hrc1
    have HT0 : Hid _ := t01
    have HB1 : Hid _ := hB1
    clear hru hrc hru1 hrc1 t0 t01 hB hB1 T0
    go_upto_region 3 with (fail)
    generalize wc.setCell ⟨bu, 0, none⟩ (.int .i64 (-1)) = W1 at HU HC HT0 HB1 ⊢
    clear fz cz
    go_wp2
    go_loopw [6] (fun i wr => ∃ (s : Nat) (up : Nat → Nat) (cz : Nat → Int), i = .int .i64 (s : Int) ∧ 1 ≤ s ∧ s ≤ N ∧ TI N f s up cz ∧ RowV wr bu 3 N (fun v => .int .i64 (upz up v)) ∧ RowV wr bc 3 N (fun v => .int .i64 (cz v)) ∧ Two wr w.heap.size (.int .i64 (N : Int)) (.slice ao es.length cap) 40 ∧ Below w.heap.size w wr) (fun i _ => N - (numOf i).toNat)
    case atStart => exact ⟨1, _, _, rfl, Nat.le_refl _, by omega, TI.start N f, HU.out, HC.out, HT0.out, HB1.out⟩
    case round =>
      clear HU HC HT0 HB1
      obtain ⟨s, up, cz, rfl, hs1, hsN, hti, hru, hrc, t0, hB⟩ := hrel
      obtain ⟨q0, q1⟩ := cell_two t0
      by_cases hlt : s < N
      · have hps := hti.gh.lt s (Nat.le_refl _) hlt
        have hpz : upz up s = (up s : Int) := by unfold upz; rw [if_neg (by omega)]
        have cup := hru.cell hlt
        rw [hpz] at cup
        have fcz := hrc.free s
        have ccz := hrc.cell hlt
        have i1 : (0 : Int) ≤ (s : Int) := by omega
        have i2 : (s : Int) < (N : Int) := by omega
        have hpa := pipesAlong_call (wc := wc0) (EdgesAt.below HE.out hB |>.below (Below.refl _ wr).drew) ((NumsZ.below HW.out hB rfl).below (Below.refl _ wr).drew rfl) hN hl HWL.out HG.out
        have hkeep : ∀ w', Below wr.heap.size wr w' → w'.cell? ⟨w.heap.size, 0, none⟩ = some (.int .i64 (N : Int)) ∧ w'.cell? ⟨w.heap.size, 1, none⟩ = some (.slice ao es.length cap) ∧ w'.cell? ⟨bu, s, none⟩ = some (.int .i64 (up s : Int)) := fun w' hb => ⟨(cell_two (two_next t0 hb)).1, (cell_two (two_next t0 hb)).2, (hb.cell (p := ⟨bu, s, none⟩) hru.lt).trans cup⟩
        have HK : Hid _ := hkeep
        have HPA : Hid _ := hpa
        have hks0 : ∀ (W3 : World), (W3.cell? ⟨w.heap.size, 0, none⟩ = some (.int .i64 (N : Int)) ∧ W3.cell? ⟨w.heap.size, 1, none⟩ = some (.slice ao es.length cap) ∧ W3.cell? ⟨bu, s, none⟩ = some (.int .i64 (up s : Int))) → ∀ uu : Value, (W3.setCell ⟨bc, s, none⟩ uu).cell? ⟨w.heap.size, 0, none⟩ = some (.int .i64 (N : Int)) ∧ (W3.setCell ⟨bc, s, none⟩ uu).cell? ⟨w.heap.size, 1, none⟩ = some (.slice ao es.length cap) ∧ (W3.setCell ⟨bc, s, none⟩ uu).cell? ⟨bu, s, none⟩ = some (.int .i64 (up s : Int)) := fun W3 h uu =>
          ⟨cell_turns h.1 (setCell_turns W3 bc s uu) (fun (e : w.heap.size = bc) => by omega), cell_turns h.2.1 (setCell_turns W3 bc s uu) (fun (e : w.heap.size = bc) => by omega), cell_turns h.2.2 (setCell_turns W3 bc s uu) (fun (e : bu = bc) => hne e)⟩
        have HKS : Hid _ := hks0
        clear hks0
        have HTI : Hid _ := hti
        have HRU : Hid _ := hru
        have HRC : Hid _ := hrc
        have lbu := hru.lt
        have lbc := hrc.lt
        have lt0 := lt_of_block t0
        clear hkeep hpa hti hru hrc
        go_upto_region 7 with (fail)
        go_region_held3 (fun w' => w'.cell? ⟨w.heap.size, 0, none⟩ = some (.int .i64 (N : Int)) ∧ w'.cell? ⟨w.heap.size, 1, none⟩ = some (.slice ao es.length cap) ∧ w'.cell? ⟨bu, s, none⟩ = some (.int .i64 (up s : Int)))
          (first | exact hk4 | exact hk3 | exact hks _ | exact HK.out _ (Below.refl _ _).drew | assumption | go_keep)
          ((first
            | (go_at_call 35; refine Calls.mono HPA.out ?_; rintro r W2 ⟨bp, rfl, hb2, c, e1, e2, e3, e4, hpp, hnet, hub, hbr, hbrg⟩; have hb2' := (Below.refl wr.heap.size wr).drew.trans hb2; have hk3 := HK.out _ hb2'; subst e1)
            | (go_at_call 32; refine Calls.mono (fill_call hnet (by omega) (s := s) (t := up s) (by omega) (by omega) (by omega) hpp hub (by rw [e3]; exact HOK.out) hbr) ?_; rintro r W3 ⟨x, bf, rfl, hx0, hbf, R', hmv, hps2, F, hrow, hfar, hFt, hT3⟩; have hb3' := below_turn hb2' hT3 hb2'.size hbrg; have hk4 := HK.out _ hb3'; have hrc3 := RowV.block HRC.out (hb3'.block _ lbc); have fc3 := hrc3.free s; have cc3 := hrc3.cell hlt; have hks := fun (uu : Value) => HKS.out W3 hk4 uu)))
        all_goals
          have hst : s ≠ up s := by omega
          rw [e2] at hrow
          obtain ⟨hxf, hXc⟩ := fill_is (n := N) (f := f) HWL.out HG.out hst HF.out (by have h := hmv; rw [e3, e4] at h; exact h) (by have h := hfar; rw [e2, e3, e4] at h; exact h) hFt
          have hX1 : decide (F s ≠ -1) = true := by have := hfar.src; simp; omega
          have hX2 : decide (F (up s) ≠ -1) = false := by simp [hFt]
          have hti2 := HTI.out.step HF.out HWT.out (by omega) hlt (X := fun v => decide (F v ≠ -1)) hX1 hX2 hXc hxf
          have T4 := setCell_turns W3 bc s (.int .i64 x)
          have hru4 := (RowV.block HRU.out (hb3'.block _ lbu)).turns T4 hne
          have hrc4 := (hrc3.set s (.int .i64 x)).congr (g := fun v => .int .i64 (if v = s then x else cz v)) (fun v _ => by by_cases e : v = s <;> simp [e])
          have hs2 := hb2'.size
          have hrow4 := hrow.turns T4 (by omega)
          have hbfu : bf ≠ bu := by omega
          have t04 := two_turns (two_next t0 hb3') T4 (by omega)
          have hB4 := (below_next hB hb3').setCell (p := ⟨bc, s, none⟩) (by show w.heap.size ≤ bc; omega) (.int .i64 x)
          obtain ⟨X, hX⟩ : ∃ X : Nat → Bool, X = fun v => decide (F v ≠ -1) := ⟨_, rfl⟩
          rw [← hX] at hti2
          have HX : Hid _ := hX
          have HT2 : Hid _ := hti2
          have HRU4 : Hid _ := hru4
          have HRC4 : Hid _ := hrc4
          have HRW4 : Hid _ := hrow4
          have HT04 : Hid _ := t04
          have HB4 : Hid _ := hB4
          generalize W3.setCell ⟨bc, s, none⟩ (.int .i64 x) = W4 at HRU4 HRC4 HRW4 HT04 HB4 ⊢
          clear hru4 hrc4 hrow4 t04 hB4 hti2 hX T4 hXc hX1 hX2 hxf hmv hps2 hrow hfar hFt hT3 hb3' hk4 hrc3 fc3 cc3 hks hpp hnet hub hbr hbrg e2 e3 e4 hb2 hb2' hk3 HPA HK HKS cup fcz ccz q0 q1 t0 HRU HRC hpz hB
          go_wp2
          go_loopw [8] (fun i wr => ∃ k : Nat, i = .int .i64 (k : Int) ∧ s + 1 ≤ k ∧ k ≤ N ∧ RowV wr bu 3 N (fun v => .int .i64 (upz (reupTo up s X k) v)) ∧ RowV wr bc 3 N (fun v => .int .i64 (if v = s then x else cz v)) ∧ RowV wr bf 3 N (fun v => .int .i64 (F v)) ∧ Two wr w.heap.size (.int .i64 (N : Int)) (.slice ao es.length cap) 40 ∧ Below w.heap.size w wr) (fun i _ => N - (numOf i).toNat)
          case atStart => exact ⟨s + 1, by go_num, Nat.le_refl _, by omega, RowV.congr HRU4.out (fun v _ => by unfold upz; rw [reupTo_start]), HRC4.out, HRW4.out, HT04.out, HB4.out⟩
          case round =>
            clear HRU4 HRC4 HRW4 HT04 HB4
            obtain ⟨k, rfl, hk1, hkN, hru, hrc, hrf, t0, hB⟩ := hrel
            obtain ⟨q0, q1⟩ := cell_two t0
            by_cases hltk : k < N
            · have ck := hru.cell hltk
              have cs := hru.cell hlt
              have cf := hrf.cell hltk
              have ek : upz (reupTo up s X k) k = (up k : Int) := by unfold upz reupTo; rw [if_neg (by omega), if_neg (by omega)]
              have esz : upz (reupTo up s X k) s = (up s : Int) := by unfold upz reupTo; rw [if_neg (by omega), if_neg (by omega)]
              rw [ek] at ck
              rw [esz] at cs
              have fk := hru.free k
              have j1 : (0 : Int) ≤ (k : Int) := by omega
              have j2 : (k : Int) < (N : Int) := by omega
              have hXk : X k = decide (F k ≠ -1) := by rw [HX.out]
              have HRU : Hid _ := hru
              have HRC : Hid _ := hrc
              have HRF : Hid _ := hrf
              have HT0 : Hid _ := t0
              have HB : Hid _ := hB
              have HXK : Hid _ := hXk
              clear hru hrc hrf t0 hB ek esz hXk
              have hTd : ∀ nq, Turns (fun _ => False) wr (wr.drewN nq) := fun nq => Turns.of_below (below_drewN (Below.refl _ wr) nq) _
              have HTD : Hid _ := hTd
              clear hTd
              by_cases hq : up k = up s
              · have k1 : ((up k : Int) == (up s : Int)) = true := by rw [hq]; simp
                have k1n : (up k == up s) = true := by rw [hq]; simp
                have HQ : Hid _ := hq
                rw [hq] at ck
                by_cases hFk : F k = -1
                · have k2 : (F k == -1) = true := by rw [beq_iff_eq]; exact hFk
                  have HFK : Hid _ := hFk
                  clear hq hFk k1 k1n
                  go_upto_region 11 with (fail)
                  go_quiet (fail)
                  go_wp2
                  go_roundw
                  case rel => exact ⟨k + 1, by go_num, by omega, by omega, (RowV.turns HRU.out (HTD.out nq) (fun h => h)).congr (fun v _ => by rw [reupTo_same (by omega) (fun c => by have c2 := c.2; rw [HXK.out] at c2; simp [HFK.out] at c2)]), RowV.turns HRC.out (HTD.out nq) (fun h => h), RowV.turns HRF.out (HTD.out nq) (fun h => h), two_turns HT0.out (HTD.out nq) (fun h => h), below_drewN HB.out nq⟩
                  case measure => simp [numOf]; omega
                · have k2 : (F k == -1) = false := by rw [beq_eq_false_iff_ne]; exact hFk
                  have HFK : Hid _ := hFk
                  clear hq hFk k1 k1n
                  go_upto_region 11 with (fail)
                  go_quiet (fail)
                  have ru1 := RowV.turns HRU.out (HTD.out nq) (fun h => h)
                  have rc1 := RowV.turns HRC.out (HTD.out nq) (fun h => h)
                  have rf1 := RowV.turns HRF.out (HTD.out nq) (fun h => h)
                  have t01 := two_turns HT0.out (HTD.out nq) (fun h => h)
                  have hB1 := below_drewN HB.out nq
                  generalize wr.drewN nq = W5 at ru1 rc1 rf1 t01 hB1 ⊢
                  clear ck cs cf fk q0 q1
                  have ck := ru1.cell hltk
                  have fk := ru1.free k
                  have T5 := setCell_turns W5 bu k (.int .i64 (s : Int))
                  have ru2 := (ru1.set k (.int .i64 (s : Int))).congr (g := fun v => .int .i64 (upz (reupTo up s X (k + 1)) v)) (fun v _ => by
                    rw [← reupTo_set (by omega) ⟨HQ.out, by rw [HXK.out]; simp; exact HFK.out⟩ v]
                    by_cases e : v = k <;> simp [e])
                  have rc2 := rc1.turns T5 (fun e => hne e.symm)
                  have rf2 := rf1.turns T5 hbfu
                  have t02 := two_turns t01 T5 (by omega)
                  have hB2 := hB1.setCell (p := ⟨bu, k, none⟩) (by show w.heap.size ≤ bu; omega) (.int .i64 (s : Int))
                  have RU2 : Hid _ := ru2
                  have RC2 : Hid _ := rc2
                  have RF2 : Hid _ := rf2
                  have T02 : Hid _ := t02
                  have B2 : Hid _ := hB2
                  clear ru1 rc1 rf1 t01 hB1 ru2 rc2 rf2 t02 hB2 T5
                  go_wp2
                  go_roundw
                  case rel => exact ⟨k + 1, by go_num, by omega, by omega, RU2.out, RC2.out, RF2.out, T02.out, B2.out⟩
                  case measure => simp [numOf]; omega
              · have k1 : ((up k : Int) == (up s : Int)) = false := by rw [beq_eq_false_iff_ne]; omega
                have k1n : (up k == up s) = false := by rw [beq_eq_false_iff_ne]; exact hq
                have hqi : ¬ (up k : Int) = (up s : Int) := by omega
                go_upto_region 11 with (fail)
                go_quiet (fail)
                go_wp2
                go_roundw
                case rel => exact ⟨k + 1, by go_num, by omega, by omega, (RowV.turns HRU.out (HTD.out nq) (fun h => h)).congr (fun v _ => by rw [reupTo_same (by omega) (fun c => hq c.1)]), RowV.turns HRC.out (HTD.out nq) (fun h => h), RowV.turns HRF.out (HTD.out nq) (fun h => h), two_turns HT0.out (HTD.out nq) (fun h => h), below_drewN HB.out nq⟩
                case measure => simp [numOf]; omega
            · have j2 : ¬ (k : Int) < (N : Int) := by omega
              have hke : k = N := by omega
              have hru2 := hru.congr (g := fun v => .int .i64 (upz (reup up s X) v)) (fun v hv => by unfold upz; rw [hke, reupTo_end hv])
              have HRU : Hid _ := hru2
              clear hru2 hru hke
              go_wp2
              go_roundw
              case rel => exact ⟨s + 1, reup up s X, _, by go_num, by omega, by omega, HT2.out, HRU.out, hrc, t0, hB⟩
              case measure => simp [numOf]; omega
      · have i2 : ¬ (s : Int) < (N : Int) := by omega
        have hse : s = N := by omega
        have HTI : Hid _ := hti
        have HSE : Hid _ := hse
        clear hti hse
        go_wp2
        refine bodyPost_ret (v := .tuple #[sl bu N, sl bc N]) (by simp [results, Try.results49, go_sem]) rfl ⟨bu, bc, rfl, ⟨f, up, cz, HF.out, by have h := HTI.out; rw [HSE.out] at h; exact h, hru, hrc⟩, ⟨by omega, by omega⟩, hB⟩
end Go.Proofs.Ytkakmaalmhofmaa
