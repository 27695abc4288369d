/- fewColours whichever case it is; isFull; and what Brooks asks of the graph in form. -/
import Derived.Test.YtdnmoifbkojnlaaGreatFewA
import Derived.Test.YtdnmoifbkojnlaaGreatFewB
import Derived.Test.YtdnmoifbkojnlaaGreatFewC
import Derived.Test.YtdnmoifbkojnlaaGreatBrkT
import Derived.Test.YtdnmoifbkojnlaaGreatRch
namespace Go.Proofs.YtdnmoifbkojnlaaGreat
open Go.RowKit Go.Maps
attribute [local go_sem ↓] Go.wp_at_zero Go.wp_at_succ
theorem few_call {w : World} {base g N m : Nat} {vs : Nat → Value} {ls : Nat → List Nat} {adj : Nat → Nat → Bool} {vo : Option Addr} {vc : Nat} {cl : List Nat} (hN : N ≤ 100) (hL : NearL w base g N vs ls) (hmx : mxL ls N = m) (hG : Gz N m adj ls) (hm3 : 3 ≤ m) (hm9 : m ≤ 1000) (hcl : NumsAt w vo cl) (hcll : cl.length ≤ 1000)
    (h1 : ∀ x, x ∈ cl → x < N ∧ ¬ Hang (fun a b => adj a b = true) (fun a => a < N ∧ a ≠ x)) (h2 : ∀ x, x < N → x ∉ cl → Hang (fun a b => adj a b = true) (fun a => a < N ∧ a ≠ x)) (hnf : ∃ x y, x < N ∧ y < N ∧ x ≠ y ∧ adj x y = false) :
    Calls Tryz.prog 21 #[sl g N, .slice vo cl.length vc] w fun e w' => (∃ q col, e = .returned (sl q N) ∧ w.heap.size ≤ q ∧ RowV w' q 3 N (iv col) ∧ Done N m adj col) ∧ Below w.heap.size w w' := by
  by_cases hlt : ∃ x, x < N ∧ (ls x).length < m
  · exact few_less hN hL hmx hG hm3 hm9 hcl hcll hlt
  · have hge : ∀ x, x < N → m ≤ (ls x).length := fun x hx => Nat.le_of_not_lt (fun h => hlt ⟨x, hx, h⟩)
    cases hc : cl with
    | nil =>
      rw [hc] at hcl hcll h2
      exact few_fork hN hL hmx hG hm3 hm9 hcl hcll hge rfl (fun c hc => h2 c hc (by simp)) hnf
    | cons x l =>
      rw [hc] at hcl hcll h1
      exact few_cut hN hL hmx hG hm3 hm9 hcl hcll hge ⟨x, rfl, h1 x (by simp)⟩
set_option maxHeartbeats 600000 in
theorem isFull_call {w : World} {m l : Nat} {ao : Option Addr} {cap : Nat} (hm : m ≤ 100) (hl : l ≤ 1000) :
    Calls Tryz.prog 17 #[.agg #[.int .i64 (m : Int), .slice ao l cap]] w fun e w' => e = .returned (.bool (decide (2 * l = m * (m - 1)))) ∧ Below w.heap.size w w' := by
  have hmul : (m : Int) * ((m : Int) - 1) ≤ 10000 ∧ -10000 ≤ (m : Int) * ((m : Int) - 1) := by
    rcases Nat.eq_zero_or_pos m with rfl | h
    · simp
    · have h1 : (m : Int) * ((m : Int) - 1) ≤ 100 * 100 := Int.mul_le_mul (by omega) (by omega) (by omega) (by omega)
      have h2 : 0 ≤ (m : Int) * ((m : Int) - 1) := Int.mul_nonneg (by omega) (by omega)
      omega
  have j0 : IntKind.i64.wrap ((m : Int) - 1) = (m : Int) - 1 := by rw [IntKind.wrap_i64]; omega
  have j1 : IntKind.i64.wrap ((m : Int) * ((m : Int) - 1)) = (m : Int) * ((m : Int) - 1) := by rw [IntKind.wrap_i64]; omega
  have j2 : IntKind.i64.wrap (2 * (l : Int)) = 2 * (l : Int) := by rw [IntKind.wrap_i64]; omega
  obtain ⟨bb, hbb⟩ : ∃ bb, bb = decide (2 * l = m * (m - 1)) := ⟨_, rfl⟩
  have j3 : ((2 * (l : Int)) == ((m : Int) * ((m : Int) - 1))) = bb := by
    rw [hbb, Bool.eq_iff_iff, beq_iff_eq, decide_eq_true_iff]
    rcases Nat.eq_zero_or_pos m with rfl | h
    · simp; omega
    · have e1 : (m : Int) - 1 = ((m - 1 : Nat) : Int) := by omega
      rw [e1]
      constructor
      · intro h
        have : ((2 * l : Nat) : Int) = ((m * (m - 1) : Nat) : Int) := by rw [Int.natCast_mul, Int.natCast_mul]; exact h
        omega
      · intro h
        rw [← Int.natCast_mul, ← h]; omega
  rw [← hbb]
  clear hbb hmul
  go_enter Tryz.func17, Tryz.ntmps17
  go_upto_region 1 with (fail)
  have t1 := two_new w (.int .i64 (m : Int)) (.slice ao l cap) 24
  have hB := below_alloc (Below.refl _ w) (Obj.cells #[.int .i64 (m : Int), .slice ao l cap] 24)
  obtain ⟨q0, q1⟩ := cell_two t1
  generalize w.alloc (Obj.cells #[.int .i64 (m : Int), .slice ao l cap] 24) = W at q0 q1 hB ⊢
  clear t1
  go_wp2
  go_ret
  exact ⟨rfl, hB⟩
section
variable {m : Nat} {es : List Pair}
theorem eB_form (hg : Good m es) : eB (allP m (hasB es)) = eB es := by
  funext a b
  rw [Bool.eq_iff_iff]
  exact has_allP hg a b
theorem form_good (es : List Pair) : Good m (allP m (hasB es)) := fun e he => by
  obtain ⟨u, v, h1, h2, _, rfl⟩ := allP_mem.1 he
  simp only
  omega
theorem most_form (hg : Good m es) : mxL (fun i => nbOf (allP m (hasB es)) i) m = dgM (eB es) m m := mxL_dgM m (fun i hi => by rw [nb_form hg hi]; rfl)
theorem gz_form (hg : Good m es) (hc : Hang (fun a b => eB es a b = true) (fun a => a < m)) : Gz m (dgM (eB es) m m) (eB es) (fun i => nbOf (allP m (hasB es)) i) where
  sym := eB_sym es
  irr := eB_irr hg
  lt := fun x y h => ⟨(eB_good hg h).1, (eB_good hg h).2.1⟩
  mem := fun x y hx => by
    show y ∈ nbOf (allP m (hasB es)) x ↔ _
    rw [nb_form hg hx]; exact nzL_mem x y
  nd := fun x hx => by
    show (nbOf (allP m (hasB es)) x).Nodup
    rw [nb_form hg hx]; exact nzL_nd x
  le := fun x hx => by
    show (nbOf (allP m (hasB es)) x).length ≤ _
    rw [nb_form hg hx, nzL_dgr]; exact dgM_ge _ _ _ x hx
  conn := hc
theorem cut_in {R : Nat → Nat → Bool} {Rx : Nat → Nat → Nat → Bool} (_hR : ∀ v x, R v x = true ↔ Star (St m (eB es) allB) v x) (hRx : ∀ y v x, Rx y v x = true ↔ Star (St m (eB es) (notB y)) v x) (hp : partsN m allB R = 1) {x : Nat} :
    x ∈ refCutsTo m R Rx m ↔ x < m ∧ ¬ Hang (fun a b => eB es a b = true) (fun a => a < m ∧ a ≠ x) := by
  unfold refCutsTo
  rw [List.mem_filter, List.mem_range, decide_eq_true_iff, hp]
  refine and_congr_right fun _ => ?_
  rw [← hang_not]
  constructor
  · intro h hh
    have := parts_of_hang (hRx x) hh
    omega
  · intro h
    apply Classical.byContradiction
    intro hn
    exact h (hang_of_parts (fun a b h => by rw [eB_sym]; exact h) (hRx x) (by omega))
/-- Of what kinds a graph is that Brooks sends back. -/
def Kind (m : Nat) (es : List Pair) (R : Nat → Nat → Bool) : Prop := partsN m allB R ≠ 1 ∨ 2 * es.length = m * (m - 1) ∨ (m % 2 = 1 ∧ es.length = m ∧ dgM (eB es) m m = 2)
/-- A colouring, as a list. -/
theorem done_list {N k : Nat} {col : Nat → Int} (h : Done N k (eB es) col) : ((List.range N).map fun x => (col x).toNat).length = N ∧ Prop' k (fun v z => hasB es (v : Int) (z : Int)) ((List.range N).map fun x => (col x).toNat) ∧ ∀ x, x < N → col x = ((((List.range N).map fun x => (col x).toNat).getD x 0 : Nat) : Int) := by
  have hget : ∀ x, x < N → ((List.range N).map fun x => (col x).toNat).getD x 0 = (col x).toNat := fun x hx => by simp [List.getD, hx]
  have hr : ∀ x, x < N → 0 ≤ col x ∧ col x < (k : Int) := fun x hx => by
    rcases h.1.rng x hx with e | e
    · exact absurd e (h.2 x hx)
    · exact e
  have hlen : ((List.range N).map fun x => (col x).toNat).length = N := by simp
  refine ⟨hlen, ⟨fun i hi => ?_, fun i j hi hj he => ?_⟩, fun x hx => ?_⟩
  · rw [hlen] at hi
    rw [hget i hi]
    have := hr i hi
    omega
  · rw [hlen] at hi
    rw [hget i hi, hget j (by omega)]
    have h1 := hr i hi
    have h2 := hr j (by omega)
    have := h.1.ne i j hi (by omega) he (h.2 i hi)
    omega
  · rw [hget x hx]
    have := hr x hx
    omega
end
end Go.Proofs.YtdnmoifbkojnlaaGreat
