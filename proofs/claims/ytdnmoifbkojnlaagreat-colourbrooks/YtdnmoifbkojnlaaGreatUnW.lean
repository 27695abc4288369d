/- unused: the least colour that none of some nodes has. -/
import Derived.Test.YtdnmoifbkojnlaaGreatTri
import Derived.Test.YtdnmoifbkojnlaaGreatBrkO
import Derived.BigQuiet
namespace Go.Proofs.YtdnmoifbkojnlaaGreat
open Go.RowKit Go.Maps
attribute [local go_sem ↓] Go.wp_at_zero Go.wp_at_succ

/-- The lists of near nodes, out of the way of block q. -/
def NearR (w : World) (q g N : Nat) (ls : Nat → List Nat) : Prop := g ≠ q ∧ ∀ i, i < N → ∃ xo xc, w.cell? ⟨g, i, none⟩ = some (.slice xo (ls i).length xc) ∧ ∀ k u : Nat, (ls i)[k]? = some u → ∃ b, xo = some ⟨b, 0, none⟩ ∧ b ≠ q ∧ w.cell? ⟨b, k, none⟩ = some (.int .i64 (u : Int))
/-- Block p holds the coat: the lists of near nodes, and each node's colour or -1. -/
structure Coat (w : World) (p q g N : Nat) (ls : Nat → List Nat) (col : Nat → Int) : Prop where
  box : Box w p #[sl g N, sl q N] 74
  near : NearR w q g N ls
  row : RowV w q 3 N (iv col)
theorem NearR.turns {M : Nat → Prop} {w w' : World} {q g N : Nat} {ls : Nat → List Nat} (h : NearR w q g N ls) (ht : Turns M w w') (hm : ∀ k, k < w.heap.size → M k → k = q) : NearR w' q g N ls := by
  refine ⟨h.1, fun i hi => ?_⟩
  obtain ⟨xo, xc, h1, h2⟩ := h.2 i hi
  refine ⟨xo, xc, cell_turns h1 ht (fun hM => h.1 (hm _ (World.block_lt_of_cell? w _ h1) hM)), fun k u hu => ?_⟩
  obtain ⟨b, e, hb, hc⟩ := h2 k u hu
  exact ⟨b, e, hb, cell_turns hc ht (fun hM => hb (hm _ (World.block_lt_of_cell? w _ hc) hM))⟩
theorem Coat.below {w w' : World} {p q g N : Nat} {ls : Nat → List Nat} {col : Nat → Int} (h : Coat w p q g N ls col) (hb : Below w.heap.size w w') : Coat w' p q g N ls col :=
  ⟨(hb.block _ (lt_of_block h.box)).trans h.box, h.near.turns (Turns.of_below hb (fun _ => False)) (fun _ _ h => h.elim), h.row.block (hb.block _ h.row.lt)⟩
theorem Coat.pq {w : World} {p q g N : Nat} {ls : Nat → List Nat} {col : Nat → Int} (h : Coat w p q g N ls col) : p ≠ q := fun e => by
  have h1 : w.heap[p]? = _ := h.box
  obtain ⟨cur, h2, _⟩ := h.row
  rw [e, h2] at h1
  simp at h1
theorem Coat.cells {w : World} {p q g N : Nat} {ls : Nat → List Nat} {col : Nat → Int} (h : Coat w p q g N ls col) : w.cell? ⟨p, 0, none⟩ = some (sl g N) ∧ w.cell? ⟨p, 1, none⟩ = some (sl q N) := ⟨box_cell h.box rfl, box_cell h.box rfl⟩
/-- One node's colour is set. -/
theorem Coat.set {w : World} {p q g N : Nat} {ls : Nat → List Nat} {col : Nat → Int} (h : Coat w p q g N ls col) (v : Nat) (c : Int) : Coat (w.setCell ⟨q, v, none⟩ (.int .i64 c)) p q g N ls (updC col v c) := by
  have T := setCell_turns w q v (.int .i64 c)
  refine ⟨box_turns h.box T (fun e => h.pq e), h.near.turns T (fun _ _ e => e), (h.row.set v (.int .i64 c)).congr (fun j _ => ?_)⟩
  unfold iv updC
  by_cases e : j = v
  · simp [e]
  · simp [e]
section
variable {w : World} {p q g N : Nat} {ls : Nat → List Nat} {col : Nat → Int}
set_option maxHeartbeats 600000 in
/-- The literal: whether a node has the colour. -/
theorem unused1_call (h : Coat w p q g N ls col) {b2 b5 x : Nat} {c : Int} (h2 : w.cell? ⟨b2, 0, none⟩ = some (ptr p)) (h5 : w.cell? ⟨b5, 0, none⟩ = some (.int .i64 c)) (hx : x < N) :
    Calls Tryz.prog 70 #[.int .i64 (x : Int), ptr b2, ptr b5] w fun e w' => e = .returned (.bool (col x == c)) ∧ ∃ m, w' = w.drewN m := by
  have c1 := h.cells.2
  have c2 : w.cell? ⟨q, x, none⟩ = some (.int .i64 (col x)) := h.row.cell hx
  have i1 : (0 : Int) ≤ (x : Int) := by omega
  have i2 : (x : Int) < (N : Int) := by omega
  clear h
  go_enter Tryz.func70, Tryz.ntmps70
  go_upto_region 1 with (fail)
  go_quiet (fail)
  all_goals
    go_wp2
    go_ret
    exact ⟨rfl, nq, rfl⟩
theorem enter70 (args : Array Value) (w : World) : (callFunc 70 args).run Tryz.prog w = .ok (.enter 70 args) w := by
  simp [callFunc, Tryz.func70, go_sem]
  rw [if_neg (of_decide_eq_true (by kernel_rfl)), if_neg (by intro h; have : Tryz.f70.body.isSome = true := (by kernel_rfl); rw [h] at this; cases this)]
/-- What IndexFunc answers: the first place with q, or -1. -/
def IdxF (l : List Nat) (f : Nat → Bool) (m : Int) : Prop := (m = -1 ∧ ∀ x ∈ l, f x = false) ∨ ∃ j : Nat, m = j ∧ j < l.length ∧ f (l.getD j 0) = true ∧ ∀ i, i < j → f (l.getD i 0) = false
set_option maxHeartbeats 1000000 in
theorem indexF_call {vo : Option Addr} {vc : Nat} {l : List Nat} (hrow : NumsAt w vo l) (hl : l.length ≤ 1000) (F : FuncId) (caps : Array Value) (hF : ∀ args w', (callFunc F args).run Tryz.prog w' = .ok (.enter F args) w')
    (f : Nat → Bool) (hf : ∀ (k : Nat) x, x ∈ l → Calls Tryz.prog F (#[.int .i64 (x : Int)] ++ caps) (w.drewN k) fun e w'' => e = .returned (.bool (f x)) ∧ ∃ m, w'' = (w.drewN k).drewN m) :
    Calls Tryz.prog 82 #[.slice vo l.length vc, .func (.func F) #[] caps] w fun e w' => (∃ m, e = .returned (.int .i64 m) ∧ IdxF l f m) ∧ ∃ k, w' = w.drewN k := by
  have HF : Hid (∀ (k : Nat) x, x ∈ l → Calls Tryz.prog F (#[.int .i64 (x : Int)] ++ caps) (w.drewN k) fun e w'' => e = .returned (.bool (f x)) ∧ ∃ m, w'' = (w.drewN k).drewN m) := hf
  have HR : Hid (NumsAt w vo l) := hrow
  clear hf hrow
  go_enter Tryz.func82, Tryz.ntmps82
  go_wp2
  go_loopw [8] (fun i wr => ∃ j : Nat, j ≤ l.length ∧ i = .int .i64 (j : Int) ∧ (∀ i, i < j → f (l.getD i 0) = false) ∧ ∃ k, wr = w.drewN k) (fun i _ => l.length - (numOf i).toNat)
  case atStart => exact ⟨0, Nat.zero_le _, rfl, fun i hi => by omega, 0, rfl⟩
  case round =>
    obtain ⟨j, hj, rfl, hno, k, hwr⟩ := hrel
    have HNO : Hid (∀ i, i < j → f (l.getD i 0) = false) := hno
    clear hno
    by_cases hlt : j < l.length
    · obtain ⟨x, hx⟩ : ∃ x, x = l.getD j 0 := ⟨_, rfl⟩
      have hget : l[j]? = some x := by rw [hx, getD_lt hlt, List.getElem?_eq_getElem hlt]
      obtain ⟨b, e, cx⟩ := (HR.out.below (drewN_below w k)) j x hget
      subst e
      have hcall := HF.out k x (List.mem_of_getElem? hget)
      have HX : Hid (x = l.getD j 0) := hx
      have i1 : (0 : Int) ≤ (j : Int) := by omega
      have i2 : (j : Int) < (l.length : Int) := by omega
      clear hx hget
      subst hwr
      obtain ⟨fx, hfx⟩ : ∃ fx, fx = f x := ⟨_, rfl⟩
      rw [← hfx] at hcall
      have HFX : Hid (fx = f (l.getD j 0)) := by show fx = _; rw [hfx, HX.out]
      clear hfx
      have HC : Hid (Calls Tryz.prog F (#[.int .i64 (x : Int)] ++ caps) (w.drewN k) fun e w'' => e = .returned (.bool fx) ∧ ∃ m, w'' = (w.drewN k).drewN m) := hcall
      clear hcall
      cases fx with
      | true =>
        go_wp2_with (first | (refine Calls.mono HC.out ?_; rintro r wa ⟨rfl, mm, hwa⟩) | go_in)
        go_ret
        exact ⟨⟨(j : Int), rfl, Or.inr ⟨j, rfl, hlt, HFX.out.symm, HNO.out⟩⟩, k + mm, rfl⟩
      | false =>
        go_wp2_with (first | (refine Calls.mono HC.out ?_; rintro r wa ⟨rfl, mm, hwa⟩) | go_in)
        go_roundw
        case rel => exact ⟨j + 1, by omega, by go_num, fun i hi => by
          by_cases e : i = j
          · subst e; exact HFX.out.symm
          · exact HNO.out i (by omega), k + mm, rfl⟩
        case measure => simp [numOf]; omega
    · have i2 : ¬ (j : Int) < (l.length : Int) := by omega
      have hje : j = l.length := by omega
      subst hwr
      go_wp2
      go_ret
      exact ⟨⟨-1, rfl, Or.inl ⟨rfl, fun x hx => by
        obtain ⟨i, hi, rfl⟩ := List.getElem_of_mem hx
        have := HNO.out i (by omega)
        rw [getD_lt hi] at this
        exact this⟩⟩, k, rfl⟩
set_option maxHeartbeats 600000 in
theorem containsF_call {vo : Option Addr} {vc : Nat} {l : List Nat} (hrow : NumsAt w vo l) (hl : l.length ≤ 1000) (F : FuncId) (caps : Array Value) (hF : ∀ args w', (callFunc F args).run Tryz.prog w' = .ok (.enter F args) w')
    (f : Nat → Bool) (hf : ∀ (k : Nat) x, x ∈ l → Calls Tryz.prog F (#[.int .i64 (x : Int)] ++ caps) (w.drewN k) fun e w'' => e = .returned (.bool (f x)) ∧ ∃ m, w'' = (w.drewN k).drewN m) :
    Calls Tryz.prog 69 #[.slice vo l.length vc, .func (.func F) #[] caps] w fun e w' => e = .returned (.bool (l.any f)) ∧ ∃ k, w' = w.drewN k := by
  have H82 : Hid (Calls Tryz.prog 82 #[.slice vo l.length vc, .func (.func F) #[] caps] w fun e w' => (∃ m, e = .returned (.int .i64 m) ∧ IdxF l f m) ∧ ∃ k, w' = w.drewN k) := indexF_call hrow hl F caps hF f hf
  clear hf hrow hF
  obtain ⟨an, han⟩ : ∃ an, an = l.any f := ⟨_, rfl⟩
  rw [← han]
  have HAN : Hid (an = l.any f) := han
  clear han
  go_enter Tryz.func69, Tryz.ntmps69
  go_upto_region 1 with (fail)
  go_wp2_with (first | (go_at_call 82; refine Calls.mono H82.out ?_; rintro e w' ⟨⟨m, rfl, hm⟩, k, rfl⟩; have hge : (decide (m ≥ 0)) = an := (by
    rw [HAN.out, Bool.eq_iff_iff]
    rcases hm with ⟨rfl, hno⟩ | ⟨j, rfl, hj, ht, _⟩
    · constructor
      · intro h; simp at h
      · intro h
        obtain ⟨x, hx, hfx⟩ := List.any_eq_true.1 h
        rw [hno x hx] at hfx; cases hfx
    · constructor
      · intro _
        refine List.any_eq_true.2 ⟨l.getD j 0, ?_, ht⟩
        exact getD_mem' hj
      · intro _; simp)) | go_in)
  go_ret
  exact ⟨rfl, k, rfl⟩
def cellZ : Option Value → Nat
  | some (.int _ z) => z.toNat
  | _ => 0
set_option maxRecDepth 4000 in
set_option maxHeartbeats 1000000 in
/-- The least colour that none of the nodes has. -/
theorem unused_call (h : Coat w p q g N ls col) {vo : Option Addr} {vc : Nat} {l : List Nat} (hrow : NumsAt w vo l) (hl : l.length ≤ 1000) (hlt : ∀ x ∈ l, x < N) :
    Calls Tryz.prog 42 #[ptr p, .slice vo l.length vc] w fun e w' => (∃ c : Nat, e = .returned (.int .i64 (c : Int)) ∧ Lst l col c) ∧ Below w.heap.size w w' := by
  have HC : Hid (Coat w p q g N ls col) := h
  have HR : Hid (NumsAt w vo l) := hrow
  have HL : Hid (∀ x ∈ l, x < N) := hlt
  have hF70 := enter70
  clear h hrow hlt
  go_enter Tryz.func42, Tryz.ntmps42
  go_upto_region 2 with (fail)
  have o2 : One ((w.alloc (Obj.cells #[ptr p] 102)).alloc (Obj.cells #[.int .i64 0] 3)) w.heap.size (ptr p) 102 := (Below.heap_alloc _ _ _ (by simp)).trans (one_new w (ptr p) 102)
  have o5 : One ((w.alloc (Obj.cells #[ptr p] 102)).alloc (Obj.cells #[.int .i64 0] 3)) (w.heap.size + 1) (.int .i64 0) 3 := by
    have := one_new (w.alloc (Obj.cells #[ptr p] 102)) (.int .i64 0) 3
    rw [World.size_alloc] at this
    exact this
  have hB := below_alloc (below_alloc (Below.refl _ w) (Obj.cells #[ptr p] 102)) (Obj.cells #[.int .i64 0] 3)
  obtain ⟨b2, hb2⟩ : ∃ b, b = w.heap.size := ⟨_, rfl⟩
  obtain ⟨b5, hb5⟩ : ∃ b, b = w.heap.size + 1 := ⟨_, rfl⟩
  rw [← hb5] at o5 ⊢
  rw [← hb2] at o2 ⊢
  generalize (w.alloc (Obj.cells #[ptr p] 102)).alloc (Obj.cells #[.int .i64 0] 3) = W0 at o2 o5 hB ⊢
  have hne : b2 ≠ b5 := by omega
  have hlo : w.heap.size ≤ b5 := by omega
  clear hb2 hb5
  go_loopw [] (fun wr => ∃ c : Nat, One wr b5 (.int .i64 (c : Int)) 3 ∧ One wr b2 (ptr p) 102 ∧ (∀ d, d < c → ∃ x, x ∈ l ∧ col x = (d : Int)) ∧ Below w.heap.size w wr) (fun wr => l.length + 1 - cellZ (wr.cell? ⟨b5, 0, none⟩))
  case atStart => exact ⟨0, o5, o2, fun d hd => by omega, hB⟩
  case round =>
    clear o2 o5 hB
    obtain ⟨c, o5, o2, hall, hB⟩ := hrel
    have c5 : wr.cell? ⟨b5, 0, none⟩ = some (.int .i64 (c : Int)) := box_cell o5 rfl
    have c2 : wr.cell? ⟨b2, 0, none⟩ = some (ptr p) := box_cell o2 rfl
    have hcl := pig hall
    have h69 := containsF_call (w := wr) (vc := vc) (HR.out.below hB) hl 70 #[ptr b2, ptr b5] enter70 (fun x => col x == (c : Int)) (fun k x hx => unused1_call ((HC.out.below hB).below (drewN_below wr k)) c2 c5 (HL.out x hx))
    obtain ⟨an, han⟩ : ∃ an, an = l.any (fun x => col x == (c : Int)) := ⟨_, rfl⟩
    rw [← han] at h69
    have H69 : Hid (Calls Tryz.prog 69 #[.slice vo l.length vc, .func (.func 70) #[] #[ptr b2, ptr b5]] wr fun e w' => e = .returned (.bool an) ∧ ∃ k, w' = wr.drewN k) := h69
    have HAN : Hid (an = l.any (fun x => col x == (c : Int))) := han
    have HALL : Hid (∀ d, d < c → ∃ x, x ∈ l ∧ col x = (d : Int)) := hall
    have f5 := one_free o5
    have HO2 : Hid (One wr b2 (ptr p) 102) := o2
    have HO5 : Hid (One wr b5 (.int .i64 (c : Int)) 3) := o5
    clear h69 han hall o2 o5
    cases an with
    | true =>
      go_upto_region 3 with (first | (go_at_call 69; refine Calls.mono H69.out ?_; rintro e w' ⟨rfl, k, rfl⟩) | go_in)
      have hBk := drewN_below wr k
      have p5 : One (wr.drewN k) b5 (.int .i64 (c : Int)) 3 := (hBk.block _ (lt_of_block HO5.out)).trans HO5.out
      have p2 : One (wr.drewN k) b2 (ptr p) 102 := (hBk.block _ (lt_of_block HO2.out)).trans HO2.out
      have hBn := below_next hB hBk
      have hm0 : cellZ (wr.cell? ⟨b5, 0, none⟩) = c := by rw [c5]; simp [cellZ]
      have HM0 : Hid (cellZ (wr.cell? ⟨b5, 0, none⟩) = c) := hm0
      have c5k : (wr.drewN k).cell? ⟨b5, 0, none⟩ = some (.int .i64 (c : Int)) := box_cell p5 rfl
      have f5k := one_free p5
      have HP5 : Hid (One ((wr.drewN k).setCell ⟨b5, 0, none⟩ (.int .i64 ((c + 1 : Nat) : Int))) b5 (.int .i64 ((c + 1 : Nat) : Int)) 3) := by
        have := box_set p5 0 (.int .i64 ((c + 1 : Nat) : Int))
        show One _ _ _ _
        simpa using this
      have HP2 : Hid (One ((wr.drewN k).setCell ⟨b5, 0, none⟩ (.int .i64 ((c + 1 : Nat) : Int))) b2 (ptr p) 102) := one_far p2 hne
      have HBN : Hid (Below w.heap.size w ((wr.drewN k).setCell ⟨b5, 0, none⟩ (.int .i64 ((c + 1 : Nat) : Int)))) := hBn.setCell (p := ⟨b5, 0, none⟩) hlo _
      have HNX : Hid (∀ d, d < c + 1 → ∃ x, x ∈ l ∧ col x = (d : Int)) := fun d hd => by
        by_cases e : d = c
        · subst e
          obtain ⟨x, hx, hfx⟩ := List.any_eq_true.1 HAN.out.symm
          exact ⟨x, hx, by simpa using hfx⟩
        · exact HALL.out d (by omega)
      clear c5 c2 f5 hm0 p5 p2 hBn hBk
      go_wp2
      have ec : (c : Int) + 1 = ((c + 1 : Nat) : Int) := by omega
      rw [ec]
      clear ec
      go_roundw
      case rel => exact ⟨c + 1, HP5.out, HP2.out, HNX.out, HBN.out⟩
      case measure =>
        have h1 : cellZ (((wr.drewN k).setCell ⟨b5, 0, none⟩ (.int .i64 ((c + 1 : Nat) : Int))).cell? ⟨b5, 0, none⟩) = c + 1 := by
          rw [box_cell HP5.out (i := 0) rfl]
          show ((c + 1 : Nat) : Int).toNat = c + 1
          omega
        have h2 := HM0.out
        rw [h1, h2]
        omega
    | false =>
      go_upto_region 4 with (first | (go_at_call 69; refine Calls.mono H69.out ?_; rintro e w' ⟨rfl, k, rfl⟩) | go_in)
      have hBk := drewN_below wr k
      have p5 : One (wr.drewN k) b5 (.int .i64 (c : Int)) 3 := (hBk.block _ (lt_of_block HO5.out)).trans HO5.out
      have c5k : (wr.drewN k).cell? ⟨b5, 0, none⟩ = some (.int .i64 (c : Int)) := box_cell p5 rfl
      have HLS : Hid (Lst l col c) := ⟨fun x hx e => (by
        have h1 := HAN.out
        have : l.any (fun x => col x == (c : Int)) = true := List.any_eq_true.2 ⟨x, hx, by simpa using e⟩
        rw [this] at h1
        cases h1), HALL.out⟩
      have hBn := below_next hB hBk
      clear c5 c2 f5 p5
      go_wp2
      go_ret
      exact ⟨⟨c, rfl, HLS.out⟩, hBn⟩
end
end Go.Proofs.YtdnmoifbkojnlaaGreat
