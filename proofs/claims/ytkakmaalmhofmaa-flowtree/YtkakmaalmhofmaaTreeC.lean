/- checkWeights and Tree. -/
import Derived.Test.YtkakmaalmhofmaaCutTree
import Derived.Test.YtkakmaalmhofmaaMostC
namespace Go.Proofs.Ytkakmaalmhofmaa
open Go.RowKit Go.Maps
attribute [local go_sem ↓] Go.wp_at_zero Go.wp_at_succ

def wsF (m : Nat) (ws : List Int) : Int × Int :=
  if ws.length ≠ m then (6, 0) else match ws.findIdx? (fun x => !isV x) with
    | some k => (3, (k : Int))
    | none => (0, 0)
theorem wsF_bad {m : Nat} {ws : List Int} {k : Nat} (hl : ws.length = m) (hk : k < ws.length) (hg : ∀ j (h : j < k), isV (ws[j]'(by omega)) = true) (hb : isV ws[k] = false) : wsF m ws = (3, (k : Int)) := by
  unfold wsF
  rw [if_neg (fun h => h hl)]
  have : ws.findIdx? (fun x => !isV x) = some k := by
    rw [List.findIdx?_eq_some_iff_getElem]
    exact ⟨hk, by simp [hb], fun j hj => by simp [hg j hj]⟩
  rw [this]
theorem wsF_good {m : Nat} {ws : List Int} (hl : ws.length = m) (hg : ∀ x ∈ ws, isV x = true) : wsF m ws = (0, 0) := by
  unfold wsF
  rw [if_neg (fun h => h hl)]
  have : ws.findIdx? (fun x => !isV x) = none := by
    rw [List.findIdx?_eq_none_iff]
    intro a ha
    simp [hg a ha]
  rw [this]
theorem wsF_zero {m : Nat} {ws : List Int} (h : (wsF m ws).1 = 0) : wsF m ws = (0, 0) ∧ ws.length = m ∧ ∀ x ∈ ws, isV x = true := by
  unfold wsF at h ⊢
  by_cases hl : ws.length = m
  · rw [if_neg (fun h => h hl)] at h ⊢
    split at h
    · simp at h
    · rename_i hn
      rw [List.findIdx?_eq_none_iff] at hn
      exact ⟨rfl, hl, fun a ha => by simpa using hn a ha⟩
  · rw [if_pos hl] at h; simp at h

set_option maxHeartbeats 2000000 in
theorem checkW_call (n : Int) (ao : Option Addr) (m cap : Nat) (wo : Option Addr) (wc0 : Nat) (ws : List Int) (w : World) (hW : NumsZ w wo ws) (hl : ws.length ≤ 17592186044416) (hm : m ≤ 8796093022208) :
    Calls Try.prog 48 #[.agg #[.int .i64 n, .slice ao m cap], .slice wo ws.length wc0] w fun e w' => e = .returned (.agg #[.int .i64 (wsF m ws).1, .int .i64 (wsF m ws).2]) ∧ Below w.heap.size w w' := by
  have HW : Hid _ := hW
  clear hW
  by_cases hlm : ws.length = m
  · have k0 : ((ws.length : Int) == (m : Int)) = true := by rw [hlm]; simp
    have k0n : (ws.length == m) = true := by rw [hlm]; simp
    have HLM : Hid _ := hlm
    subst hlm
    go_enter Try.func48, Try.ntmps48
    go_upto_region 1 with (fail)
    have t0 : Two ((w.alloc (Obj.cells #[.int .i64 n, .slice ao ws.length cap] 40)).alloc (Obj.cells #[.int .i64 0, .int .i64 0] 26)) w.heap.size (.int .i64 n) (.slice ao ws.length cap) 40 := by
      show _ = _
      rw [Below.heap_alloc _ _ _ (by simp)]; exact heap_alloc_new _ _
    have t1 := two_nxt w (Obj.cells #[.int .i64 n, .slice ao ws.length cap] 40) (.int .i64 0) (.int .i64 0) 26
    have hB0 := below2 (w := w) (Obj.cells #[.int .i64 n, .slice ao ws.length cap] 40) (Obj.cells #[.int .i64 0, .int .i64 0] 26)
    generalize (w.alloc (Obj.cells #[.int .i64 n, .slice ao ws.length cap] 40)).alloc (Obj.cells #[.int .i64 0, .int .i64 0] 26) = W0 at t0 t1 hB0 ⊢
    obtain ⟨q0, q1⟩ := cell_two t0
    obtain ⟨q2, q3⟩ := cell_two t1
    have f1 := free_two t1
    go_wp2
    go_loopw [16] (fun i wr => ∃ k : Nat, k ≤ ws.length ∧ i = .int .i64 (k : Int) ∧ (∀ j, j < k → ∀ h : j < ws.length, isV ws[j] = true) ∧ wr = W0) (fun i _ => ws.length - (numOf i).toNat)
    case atStart => exact ⟨0, Nat.zero_le _, rfl, fun j h => absurd h (Nat.not_lt_zero _), rfl⟩
    case round =>
      obtain ⟨k, hk, rfl, hgd, rfl⟩ := hrel
      have HGD : Hid _ := hgd
      clear hgd
      by_cases hlt : k < ws.length
      · obtain ⟨b, off, rfl, cx⟩ := (NumsZ.below HW.out hB0 rfl) k ws[k] (List.getElem?_eq_getElem hlt)
        have i1 : (0 : Int) ≤ (k : Int) := by omega
        have i2 : (k : Int) < (ws.length : Int) := by omega
        obtain ⟨x, hx⟩ : ∃ x, x = ws[k] := ⟨_, rfl⟩
        rw [← hx] at cx
        have HX : Hid _ := hx
        clear hx
        cases hv : isV x
        · have HV : Hid _ := hv
          go_wp2_with (first | (go_at_call 29; refine (isValue29 _ _).mono ?_; rintro e w2 ⟨rfl, rfl⟩) | go_in)
          refine bodyPost_ret (v := .agg #[.int .i64 3, .int .i64 (k : Int)]) ?_ rfl ⟨ret2 (wsF_bad rfl hlt (fun j hj => HGD.out j hj (by omega)) (by rw [← HX.out]; exact HV.out)) rfl rfl, (hB0.setCell (by simp) _).setCell (by simp) _⟩
          simp [results, Try.results48, go_sem, q2, q3]
        · have hnx : ∀ j, j < k + 1 → ∀ h : j < ws.length, isV ws[j] = true := fun j hj h => by
            by_cases e : j = k
            · subst e; rw [← HX.out]; exact hv
            · exact HGD.out j (by omega) h
          have HNX : Hid _ := hnx
          clear hnx
          go_wp2_with (first | (go_at_call 29; refine (isValue29 _ _).mono ?_; rintro e w2 ⟨rfl, rfl⟩) | go_in)
          go_roundw
          case rel => exact ⟨k + 1, by omega, by go_num, HNX.out, trivial⟩
          case measure => simp [numOf]; omega
      · have i2 : ¬ (k : Int) < (ws.length : Int) := by omega
        have hfin : wsF ws.length ws = (0, 0) := wsF_good rfl (fun a ha => by
          obtain ⟨i, hi, e⟩ := List.getElem_of_mem ha
          rw [← e]
          exact HGD.out i (by omega) hi)
        have HFN : Hid _ := hfin
        clear hfin
        go_wp2
        refine bodyPost_ret (v := .agg #[.int .i64 0, .int .i64 0]) ?_ rfl ⟨ret2 HFN.out rfl rfl, (hB0.setCell (by simp) _).setCell (by simp) _⟩
        simp [results, Try.results48, go_sem, q2, q3]
  · have e : wsF m ws = (6, 0) := by unfold wsF; rw [if_pos hlm]
    have HEE : Hid _ := e
    clear e
    have k0 : ((ws.length : Int) == (m : Int)) = false := by rw [beq_eq_false_iff_ne]; omega
    have k0n : (ws.length == m) = false := by rw [beq_eq_false_iff_ne]; exact hlm
    have k0i : ¬ (ws.length : Int) = (m : Int) := by omega
    go_enter Try.func48, Try.ntmps48
    go_wp2
    refine bodyPost_ret (v := .agg #[.int .i64 6, .int .i64 0]) ?_ rfl ⟨ret2 HEE.out rfl rfl, below2 _ _⟩
    simp [results, Try.results48, go_sem]

set_option maxHeartbeats 2000000 in
theorem tree_graph {n : Int} {v : Value} {es : List Pair} {wv : Value} {w : World} (hE : EdgesAt w v es) {c d : Int} (hf1 : chk n es = (c, d)) (hc : c ≠ 0) :
    Calls Try.prog 24 #[.agg #[.int .i64 n, v], wv] w fun r w' => r = .returned (.tuple #[.slice none 0 0, .slice none 0 0, .agg #[.int .i64 c, .int .i64 d]]) ∧ Below w.heap.size w w' := by
  obtain ⟨ao, cap, rfl⟩ := hE.form
  have hck : ∀ W, Below w.heap.size w W → Calls Try.prog 47 #[.agg #[.int .i64 n, .slice ao es.length cap]] W fun e w' => e = .returned (.agg #[.int .i64 c, .int .i64 d]) ∧ Below W.heap.size W w' := fun W hW' => check_as (hE.below hW') hf1
  have k1 : (c == 0) = false := by rw [beq_eq_false_iff_ne]; exact hc
  have HCK : Hid _ := hck
  clear hE hck hf1 hc
  go_enter Try.func24, Try.ntmps24
  go_upto_region 1 with (fail)
  have t0 : Two ((w.alloc (Obj.cells #[.int .i64 n, .slice ao es.length cap] 40)).alloc (Obj.cells #[.int .i64 0, .int .i64 0] 26)) w.heap.size (.int .i64 n) (.slice ao es.length cap) 40 := by
    show _ = _
    rw [Below.heap_alloc _ _ _ (by simp)]; exact heap_alloc_new _ _
  have t1 := two_nxt w (Obj.cells #[.int .i64 n, .slice ao es.length cap] 40) (.int .i64 0) (.int .i64 0) 26
  have hB0 := below2 (w := w) (Obj.cells #[.int .i64 n, .slice ao es.length cap] 40) (Obj.cells #[.int .i64 0, .int .i64 0] 26)
  generalize (w.alloc (Obj.cells #[.int .i64 n, .slice ao es.length cap] 40)).alloc (Obj.cells #[.int .i64 0, .int .i64 0] 26) = W0 at t0 t1 hB0 ⊢
  have q0 := cell_two t0
  go_upto_region 2 with (first | (go_at_call 47; refine (HCK.out _ hB0).mono ?_; rintro e W1 ⟨rfl, hb1⟩) | go_in)
  have t2 := two_new W1 (.int .i64 c) (.int .i64 d) 26
  have hb1a := below_alloc hb1 (Obj.cells #[.int .i64 c, .int .i64 d] 26)
  have u0 : Two (W1.alloc (Obj.cells #[.int .i64 c, .int .i64 d] 26)) w.heap.size (.int .i64 n) (.slice ao es.length cap) 40 := (hb1a.block _ (lt_of_block t0)).trans t0
  have u1 : Two (W1.alloc (Obj.cells #[.int .i64 c, .int .i64 d] 26)) (w.heap.size + 1) (.int .i64 0) (.int .i64 0) 26 := (hb1a.block _ (lt_of_block t1)).trans t1
  have hB1 := below_next hB0 hb1a
  generalize W1.alloc (Obj.cells #[.int .i64 c, .int .i64 d] 26) = W2 at t2 u0 u1 hB1 ⊢
  clear t0 t1 hB0 hb1 hb1a q0
  have q0 := cell_two u0
  have q1 := cell_two u1
  have q2 := cell_two t2
  have f1 := free_two u1
  go_upto_region 3 with (fail)
  go_region
  all_goals
    go_wp2
    refine bodyPost_ret (v := .tuple #[.slice none 0 0, .slice none 0 0, .agg #[.int .i64 c, .int .i64 d]]) ?_ rfl ⟨rfl, ?_⟩
    · simp [results, Try.results24, go_sem, q1.1, q1.2]
    · first | exact ((hB1.setCell (by simp) _).setCell (by simp) _).drew | exact ((hB1.drew).setCell (by simp) _).setCell (by simp) _

set_option maxHeartbeats 2000000 in
theorem tree_weights {n : Int} {v : Value} {es : List Pair} {wo : Option Addr} {wc0 : Nat} {ws : List Int} {w : World} (hE : EdgesAt w v es) (hW : NumsZ w wo ws) (hwl : ws.length ≤ 17592186044416) {c d : Int} (hf1 : chk n es = (0, 0)) (hf2 : wsF es.length ws = (c, d)) (hc : c ≠ 0) :
    Calls Try.prog 24 #[.agg #[.int .i64 n, v], .slice wo ws.length wc0] w fun r w' => r = .returned (.tuple #[.slice none 0 0, .slice none 0 0, .agg #[.int .i64 c, .int .i64 d]]) ∧ Below w.heap.size w w' := by
  have hel : es.length ≤ 8796093022208 := by obtain ⟨_, _, _, h, _⟩ := hE; exact h
  obtain ⟨ao, cap, rfl⟩ := hE.form
  have hck : ∀ W, Below w.heap.size w W → Calls Try.prog 47 #[.agg #[.int .i64 n, .slice ao es.length cap]] W fun e w' => e = .returned (.agg #[.int .i64 0, .int .i64 0]) ∧ Below W.heap.size W w' := fun W hW' => check_as (hE.below hW') hf1
  have hcw : ∀ W, Below w.heap.size w W → Calls Try.prog 48 #[.agg #[.int .i64 n, .slice ao es.length cap], .slice wo ws.length wc0] W fun e w' => e = .returned (.agg #[.int .i64 c, .int .i64 d]) ∧ Below W.heap.size W w' := fun W hW' => by
    have h := checkW_call n ao es.length cap wo wc0 ws W (hW.below hW' rfl) hwl hel
    rw [hf2] at h
    exact h
  have k1 : (c == 0) = false := by rw [beq_eq_false_iff_ne]; exact hc
  have HCK : Hid _ := hck
  have HCW : Hid _ := hcw
  clear hE hW hck hcw hf1 hf2 hc hwl
  go_enter Try.func24, Try.ntmps24
  go_upto_region 1 with (fail)
  have t0 : Two ((w.alloc (Obj.cells #[.int .i64 n, .slice ao es.length cap] 40)).alloc (Obj.cells #[.int .i64 0, .int .i64 0] 26)) w.heap.size (.int .i64 n) (.slice ao es.length cap) 40 := by
    show _ = _
    rw [Below.heap_alloc _ _ _ (by simp)]; exact heap_alloc_new _ _
  have t1 := two_nxt w (Obj.cells #[.int .i64 n, .slice ao es.length cap] 40) (.int .i64 0) (.int .i64 0) 26
  have hB0 := below2 (w := w) (Obj.cells #[.int .i64 n, .slice ao es.length cap] 40) (Obj.cells #[.int .i64 0, .int .i64 0] 26)
  generalize (w.alloc (Obj.cells #[.int .i64 n, .slice ao es.length cap] 40)).alloc (Obj.cells #[.int .i64 0, .int .i64 0] 26) = W0 at t0 t1 hB0 ⊢
  have q0 := cell_two t0
  go_upto_region 2 with (first | (go_at_call 47; refine (HCK.out _ hB0).mono ?_; rintro e W1 ⟨rfl, hb1⟩) | go_in)
  have t2 := two_new W1 (.int .i64 0) (.int .i64 0) 26
  have hb1a := below_alloc hb1 (Obj.cells #[.int .i64 0, .int .i64 0] 26)
  have u0 : Two (W1.alloc (Obj.cells #[.int .i64 0, .int .i64 0] 26)) w.heap.size (.int .i64 n) (.slice ao es.length cap) 40 := (hb1a.block _ (lt_of_block t0)).trans t0
  have u1 : Two (W1.alloc (Obj.cells #[.int .i64 0, .int .i64 0] 26)) (w.heap.size + 1) (.int .i64 0) (.int .i64 0) 26 := (hb1a.block _ (lt_of_block t1)).trans t1
  have hB1 := below_next hB0 hb1a
  generalize W1.alloc (Obj.cells #[.int .i64 0, .int .i64 0] 26) = W2 at t2 u0 u1 hB1 ⊢
  clear t0 t1 hB0 hb1 hb1a q0
  have q0 := cell_two u0
  have q1 := cell_two u1
  have q2 := cell_two t2
  have f1 := free_two u1
  go_upto_region 5 with (first | (go_at_call 48; refine (HCW.out _ hB1).mono ?_; rintro e W3 ⟨rfl, hb3⟩) | go_in)
  have t3 := two_new W3 (.int .i64 c) (.int .i64 d) 26
  have hb3a := below_alloc hb3 (Obj.cells #[.int .i64 c, .int .i64 d] 26)
  have v0 : Two (W3.alloc (Obj.cells #[.int .i64 c, .int .i64 d] 26)) w.heap.size (.int .i64 n) (.slice ao es.length cap) 40 := (hb3a.block _ (lt_of_block u0)).trans u0
  have v1 : Two (W3.alloc (Obj.cells #[.int .i64 c, .int .i64 d] 26)) (w.heap.size + 1) (.int .i64 0) (.int .i64 0) 26 := (hb3a.block _ (lt_of_block u1)).trans u1
  have hB3 := below_next hB1 hb3a
  generalize W3.alloc (Obj.cells #[.int .i64 c, .int .i64 d] 26) = W4 at t3 v0 v1 hB3 ⊢
  clear t2 u0 u1 hB1 hb3 hb3a q0 q1 q2 f1
  have q0 := cell_two v0
  have q1 := cell_two v1
  have q3 := cell_two t3
  have f1 := free_two v1
  go_upto_region 6 with (fail)
  go_region
  all_goals
    go_wp2
    refine bodyPost_ret (v := .tuple #[.slice none 0 0, .slice none 0 0, .agg #[.int .i64 c, .int .i64 d]]) ?_ rfl ⟨rfl, ?_⟩
    · simp [results, Try.results24, go_sem, q1.1, q1.2]
    · first | exact ((hB3.setCell (by simp) _).setCell (by simp) _).drew | exact ((hB3.drew).setCell (by simp) _).setCell (by simp) _

/-- What Tree tells of a good graph with good weights. -/
def TreeAns (N : Nat) (es : List Pair) (ws : List Int) (B : Nat) (w' : World) (uv cv : Value) : Prop := (N = 0 ∧ uv = .slice none 0 0 ∧ cv = .slice none 0 0) ∨ (0 < N ∧ ∃ bu bc, uv = sl bu N ∧ cv = sl bc N ∧ TreeIs N es ws w' bu bc ∧ B ≤ bu ∧ B ≤ bc)
theorem TreeIs.below {N : Nat} {es : List Pair} {ws : List Int} {w w' : World} {bu bc : Nat} (h : TreeIs N es ws w bu bc) (hb : Below w.heap.size w w') : TreeIs N es ws w' bu bc := by
  obtain ⟨f, up, cz, h1, h2, h3, h4⟩ := h
  exact ⟨f, up, cz, h1, h2, h3.block (hb.block _ h3.lt), h4.block (hb.block _ h4.lt)⟩
theorem TreeIs.far {N : Nat} {es : List Pair} {ws : List Int} {w : World} {bu bc b o : Nat} {x : Value} (h : TreeIs N es ws w bu bc) (h1 : b ≠ bu) (h2 : b ≠ bc) : TreeIs N es ws (w.setCell ⟨b, o, none⟩ x) bu bc := by
  obtain ⟨f, up, cz, g1, g2, g3, g4⟩ := h
  exact ⟨f, up, cz, g1, g2, g3.turns (setCell_turns w b o x) (fun e => h1 e.symm), g4.turns (setCell_turns w b o x) (fun e => h2 e.symm)⟩

end Go.Proofs.Ytkakmaalmhofmaa
