/- Rings through all nodes: what the search of countRings counts; the map in which it keeps it. -/
import Derived.Test.YtmeodnkmhakidaaDoorMatK
import Derived.Test.YtmeodnkmhakidaaDoorCntMR
namespace Go.Proofs.YtmeodnkmhakidaaDoor
set_option maxRecDepth 8000
open Go.RowKit Go.Maps Go.WideElems Go.ChangeMaps
theorem natR {u : Nat} (h : u < 1000000000) : I64 (u : Int) := ⟨by omega, by omega⟩
def KKo (k : Nat × Nat) : Prop := k.1 < 1000000 ∧ k.2 < 1000000
theorem key_kk {k : Nat × Nat} (h : KKo k) : keyOf Tryd.prog 58 (kv k) = some (kq k) := key_mk (natR (by have := h.1; omega)) (natR (by have := h.2; omega))
theorem kk_inj {k k' : Nat × Nat} (h : KKo k) (h' : KKo k') (e : kq k = kq k') : k = k' := by
  have := key_inj (natR (u := k.1) (by have := h.1; omega)) (natR (u := k.2) (by have := h.2; omega)) (natR (u := k'.1) (by have := h'.1; omega)) (natR (u := k'.2) (by have := h'.2; omega)) e
  exact Prod.ext (by omega) (by omega)
def KnF (D : DataW Unit) (F : Cts) : Prop := ∀ k, KKo k → Maps.has D (kq k) = (F k).isSome ∧ D.atKey (kq k) (.lit (.int .i64 0)) = .lit (.int .i64 (((F k).getD 0 : Nat) : Int))
/-- What is known. -/
def KnM (w : World) (b n : Nat) (F : Cts) : Prop := ∃ D : DataW Unit, w.ownsMap Tryd.prog 58 (plainElem Tryd.prog 3) b n D ∧ KnF D F
theorem KnM.block {w w' : World} {b n : Nat} {F : Cts} (h : KnM w b n F) (hb : w'.heap[b]? = w.heap[b]?) : KnM w' b n F := by
  obtain ⟨D, ⟨es, clock, h1, h2⟩, h3⟩ := h
  exact ⟨D, ⟨es, clock, by rw [hb]; exact h1, h2⟩, h3⟩
theorem KnM.lt {w : World} {b n : Nat} {F : Cts} (h : KnM w b n F) : b < w.heap.size := by
  obtain ⟨D, h1, _⟩ := h; exact h1.lt
theorem KnM.under {w w' : World} {b n : Nat} {F : Cts} (h : KnM w b n F) (hb : Below w.heap.size w w') : KnM w' b n F := h.block (hb.block b h.lt)
theorem knM_made (w : World) : KnM (w.alloc (.map #[] 0)) w.heap.size 0 (fun _ => none) := ⟨.map [], World.ownsMap_made _ _ _ _, fun _ _ => ⟨rfl, rfl⟩⟩
theorem KnM.get {w : World} {b n : Nat} {F : Cts} (h : KnM w b n F) {k : Nat × Nat} (hk : KKo k) :
    (Instr.lookup 69 (.map (some b)) (kv k) true).run Tryd.prog w = .ok (.tuple #[.int .i64 (((F k).getD 0 : Nat) : Int), .bool (F k).isSome]) w := by
  obtain ⟨D, h1, h2⟩ := h
  obtain ⟨x, ps, hrun, hx⟩ := h1.look_ok Tryd.law58 Tryd.underlying69 (Tryd.zero3 w) (plainElem_int Tryd.underlying3 (a := 0) (by decide)) (key_kk hk)
  obtain ⟨c, rfl, hc, _⟩ := plainElem_int_inv Tryd.underlying3 hx
  simp only [Prod.mk.injEq] at hc
  have h3 := h2 k hk
  rw [hc.1] at h3
  rw [h3.1] at hrun
  have h4 := h3.2
  simp at h4
  rw [h4] at hrun
  exact hrun
theorem KnM.store {w : World} {b n : Nat} {F : Cts} (h : KnM w b n F) {k : Nat × Nat} (hk : KKo k) {c : Nat} (hc : c < 1000000000) (hn : n < 1000000000) :
    ∃ w', (Instr.mapUpdate 69 (.map (some b)) (kv k) (.int .i64 (c : Int))).run Tryd.prog w = .ok () w' ∧ KnM w' b (n + 1) (updC F k c) ∧ w.mapTurned w' b := by
  obtain ⟨D, h1, h2⟩ := h
  obtain ⟨w', hrun, hown, hturn⟩ := h1.store Tryd.law58 Tryd.underlying69 (by unfold maxLen; omega) (key_kk hk) (plainElem_int Tryd.underlying3 (a := (c : Int)) (natR (u := c) hc).wf)
  refine ⟨w', hrun, ⟨_, hown, fun t ht => ?_⟩, hturn⟩
  unfold updC
  by_cases e : t = k
  · subst e
    rw [if_pos rfl, has_put_same h1.isMap (Tryd.law58.key (key_kk hk)), atKey_put_same h1.isMap (Tryd.law58.key (key_kk hk))]
    exact ⟨rfl, rfl⟩
  · rw [if_neg e, has_put_other (fun hk' => e (kk_inj ht hk hk')), atKey_put_other (fun hk' => e (kk_inj ht hk hk'))]
    exact h2 t ht
/-- How many ways go from v through all that are left, c of them, and on to node 0. -/
def rC (N : Nat) (adj : Nat → Nat → Bool) : Nat → Nat → (Nat → Bool) → Nat
  | 0, v, _ => if adj v 0 = true then 1 else 0
  | c + 1, v, left => ns N fun u => if left u = true ∧ adj v u = true then rC N adj c u (outB left u) else 0
theorem rC_le {N : Nat} {adj : Nat → Nat → Bool} : ∀ (c v : Nat) (left : Nat → Bool), crd N left = c → rC N adj c v left ≤ fac c
  | 0, v, left, _ => by
    rw [rC, fac]
    split <;> omega
  | c + 1, v, left, h => by
    rw [rC, fac, ← h]
    refine Nat.le_trans (ns_mono (g := fun u => (if left u = true then 1 else 0) * fac c) fun u hu => ?_) ?_
    · by_cases hl : left u = true
      · rw [if_pos hl, Nat.one_mul]
        split
        · refine rC_le c u _ ?_
          have := crd_out hu hl
          omega
        · exact Nat.zero_le _
      · rw [if_neg hl, if_neg (fun h => hl h.1)]
        exact Nat.zero_le _
    · have : ∀ n (f : Nat → Nat) (k : Nat), ns n (fun u => f u * k) = ns n f * k := fun n f k => by
        induction n with
        | zero => simp [ns]
        | succ n ih => rw [ns, ns, ih, Nat.add_mul]
      rw [this]
      exact Nat.le_refl _
/-- Those of O that are not in O1, summed. -/
def pS (N O O1 : Nat) (g : Nat → Nat) : Nat := ns N fun u => if O.testBit u = true ∧ O1.testBit u = false then g u else 0
theorem pS_self (N O : Nat) (g : Nat → Nat) : pS N O O g = 0 := by
  unfold pS
  rw [ns_congr (g := fun _ => 0) (fun x _ => if_neg (fun h => by rw [h.1] at h; cases h.2)), ns_zero]
theorem pS_step {N O O1 O2 u : Nat} {g : Nat → Nat} (hu : u < N) (hOu : O.testBit u = true) (h1 : O1.testBit u = true) (h2 : O2.testBit = outB O1.testBit u) : pS N O O2 g = pS N O O1 g + g u := by
  have hP : ∀ x, x < N → ((O.testBit x = true ∧ O2.testBit x = false) ↔ (O.testBit x = true ∧ O1.testBit x = false) ∨ x = u) := fun x _ => by
    rw [h2]
    unfold outB
    by_cases e : x = u
    · subst e; simp [hOu]
    · simp [e]
  have hnP : ¬ (O.testBit u = true ∧ O1.testBit u = false) := fun h => by rw [h1] at h; cases h.2
  exact ns_step (P := fun x => O.testBit x = true ∧ O1.testBit x = false) (P' := fun x => O.testBit x = true ∧ O2.testBit x = false) (g := g) hu hnP hP
theorem pS_le {N O O1 : Nat} {g : Nat → Nat} : pS N O O1 g ≤ pS N O 0 g := ns_mono fun u _ => by
  by_cases h : O.testBit u = true ∧ O1.testBit u = false
  · rw [if_pos h, if_pos ⟨h.1, Nat.zero_testBit u⟩]; exact Nat.le_refl _
  · rw [if_neg h]; exact Nat.zero_le _
theorem pS_all {N O v c : Nat} {adj : Nat → Nat → Bool} {left : Nat → Bool} (hO : ∀ x, O.testBit x = (left x && adj v x)) : pS N O 0 (fun u => rC N adj c u (outB left u)) = rC N adj (c + 1) v left := by
  rw [rC]
  refine ns_congr fun u _ => ?_
  have : (O.testBit u = true ∧ (0 : Nat).testBit u = false) ↔ (left u = true ∧ adj v u = true) := by rw [hO]; simp
  by_cases h : left u = true ∧ adj v u = true
  · rw [if_pos h, if_pos (this.2 h)]
  · rw [if_neg h, if_neg (fun h' => h (this.1 h'))]
/-- How often it keeps something. -/
def cst : Nat → Nat
  | 0 => 0
  | c + 1 => 1 + (c + 1) * cst c
/-- What is known is right. -/
def RgF (N : Nat) (adj : Nat → Nat → Bool) (F : Cts) : Prop := ∀ v left d, left < 2 ^ N → F (v, left) = some d → d = rC N adj (crd N left.testBit) v left.testBit
theorem RgF.upd {N : Nat} {adj : Nat → Nat → Bool} {F : Cts} (h : RgF N adj F) (v left : Nat) : RgF N adj (updC F (v, left) (rC N adj (crd N left.testBit) v left.testBit)) := fun x l d hl hF => by
  unfold updC at hF
  by_cases e : (x, l) = (v, left)
  · rw [if_pos e] at hF
    cases e
    exact (Option.some.inj hF).symm
  · rw [if_neg e] at hF
    exact h x l d hl hF
end Go.Proofs.YtmeodnkmhakidaaDoor
