/- How many matchings go to all nodes of a ring of four: the numbers that are kept, and the search. Count, of a ring of four. Count, of a ring of four: the call. -/
import Derived.Test.YtenjkhgpfmfgmaaDoorPairBase
import Derived.Laws.EntriesVeiled
import Derived.Test.YtenjkhgpfmfgmaaDoorParts
import Derived.Test.YtenjkhgpfmfgmaaDoorCompF
import Derived.Test.YtenjkhgpfmfgmaaDoorNewS
import Derived.Test.YtenjkhgpfmfgmaaDoorNearMk
namespace Go.Proofs.YtenjkhgpfmfgmaaDoor
open Go.RowKit Go.Maps
attribute [local go_sem ↓] Go.wp_at_zero Go.wp_at_succ

theorem Tryd.lawU : Keyed Tryd.prog 92 := int_keyed Tryd.underlying92
theorem wfU {u : Nat} (hu : u < 4294967296) : (Lit.int .u32 (u : Int)).wf = true := by
  simp [Lit.wf, IntKind.min, IntKind.max, IntKind.signed, IntKind.bits]
  omega
theorem hkeyU {u : Nat} (hu : u < 4294967296) : keyOf Tryd.prog 92 (.int .u32 (u : Int)) = some (.int .u32 (u : Int)) := keyOf_int_mk Tryd.underlying92 (wfU hu)
theorem wfV {u : Nat} (hu : u < 4294967296) : (Lit.int .u64 (u : Int)).wf = true := by
  simp [Lit.wf, IntKind.min, IntKind.max, IntKind.signed, IntKind.bits]
  omega
theorem Tryd.zero69 (w : World) : (zeroValue 69).run Tryd.prog w = .ok (.int .u64 0) w := by kernel_rfl

/-- Block b is a map that knows these numbers. -/
def UAt (w : World) (b n : Nat) (F : Nat → Option Nat) : Prop :=
  ∃ D : DataW Unit, w.ownsMap Tryd.prog 92 (plainElem Tryd.prog 69) b n D ∧ (∀ u : Nat, u < 4294967296 → Maps.has D (.int .u32 (u : Int)) = (F u).isSome) ∧
    ∀ k d, k < 4294967296 → F k = some d → D.atKey (.int .u32 (k : Int)) (.lit (.int .u64 0)) = .lit (.int .u64 (d : Int))
theorem UAt.block {w w' : World} {b n : Nat} {F : Nat → Option Nat} (h : UAt w b n F) (hb : w'.heap[b]? = w.heap[b]?) : UAt w' b n F := by
  obtain ⟨D, ⟨es, clock, h1, h2⟩, h3⟩ := h
  exact ⟨D, ⟨es, clock, by rw [hb]; exact h1, h2⟩, h3⟩
theorem UAt.lt {w : World} {b n : Nat} {F : Nat → Option Nat} (h : UAt w b n F) : b < w.heap.size := by
  obtain ⟨D, h1, _⟩ := h; exact h1.lt
theorem UAt.look {w : World} {b n : Nat} {F : Nat → Option Nat} (h : UAt w b n F) {k d : Nat} (hk : k < 4294967296) (hd : F k = some d) :
    (Instr.lookup 93 (.map (some b)) (.int .u32 (k : Int)) true).run Tryd.prog w = .ok (.tuple #[.int .u64 (d : Int), .bool true]) w := by
  obtain ⟨D, h1, h2, h3⟩ := h
  obtain ⟨x, ps, hrun, hx⟩ := h1.look_ok Tryd.lawU Tryd.underlying93 (Tryd.zero69 w) (plainElem_int Tryd.underlying69 (by decide)) (hkeyU hk)
  rw [h3 k d hk hd] at hx
  obtain ⟨c, rfl, hc, _⟩ := plainElem_int_inv Tryd.underlying69 hx
  simp at hc
  rw [h2 k hk, hd, ← hc.1] at hrun
  exact hrun
theorem UAt.miss {w : World} {b n : Nat} {F : Nat → Option Nat} (h : UAt w b n F) {k : Nat} (hk : k < 4294967296) (hd : F k = none) :
    (Instr.lookup 93 (.map (some b)) (.int .u32 (k : Int)) true).run Tryd.prog w = .ok (.tuple #[.int .u64 0, .bool false]) w := by
  obtain ⟨D, h1, h2, h3⟩ := h
  obtain ⟨x, ps, hrun, hx⟩ := h1.look_ok Tryd.lawU Tryd.underlying93 (Tryd.zero69 w) (plainElem_int Tryd.underlying69 (by decide)) (hkeyU hk)
  have hno : Maps.has D (.int .u32 (k : Int)) = false := by rw [h2 k hk, hd]; rfl
  rw [atKey_of_not_has hno] at hx
  obtain ⟨c, rfl, hc, _⟩ := plainElem_int_inv Tryd.underlying69 hx
  simp at hc
  rw [hno, ← hc.1] at hrun
  exact hrun
theorem UAt.store {w : World} {b n : Nat} {F : Nat → Option Nat} (h : UAt w b n F) (hn : n < 1000) {k d : Nat} (hk : k < 4294967296) (hd : d < 4294967296) :
    ∃ w', (Instr.mapUpdate 93 (.map (some b)) (.int .u32 (k : Int)) (.int .u64 (d : Int))).run Tryd.prog w = .ok () w' ∧ UAt w' b (n + 1) (fun x => if x = k then some d else F x) ∧ w.mapTurned w' b := by
  obtain ⟨D, h1, h2, h3⟩ := h
  obtain ⟨w', hrun, hown, hturn⟩ := h1.store Tryd.lawU Tryd.underlying93 (by unfold maxLen; omega) (hkeyU hk) (plainElem_int Tryd.underlying69 (a := (d : Int)) (wfV hd))
  refine ⟨w', hrun, ⟨_, hown, fun x hx => ?_, fun x c hx hc => ?_⟩, hturn⟩
  · by_cases e : x = k
    · subst e
      rw [has_put_same h1.isMap (show WideAt.IsKeyLit (Lit.int .u32 (x : Int)) from trivial)]
      simp
    · rw [has_put_other (by simp; omega), h2 x hx]
      simp [e]
  · replace hc : (if x = k then some d else F x) = some c := hc
    by_cases e : x = k
    · subst e
      rw [if_pos rfl] at hc
      cases hc
      exact atKey_put_same h1.isMap (show WideAt.IsKeyLit (Lit.int .u32 (x : Int)) from trivial) _ _
    · rw [if_neg e] at hc
      rw [atKey_put_other (by simp; omega)]
      exact h3 x c hx hc
theorem uAt_made (w : World) : UAt (w.alloc (.map #[] 0)) w.heap.size 0 (fun _ => none) :=
  ⟨.map [], World.ownsMap_made _ _ _ _, fun _ _ => by simp [Maps.has], fun _ _ _ h => by cases h⟩

/-- The library's table, as far as it is read. -/
def Tab32 (w : World) : Prop := w.cell? ⟨0, 0, none⟩ = some (.int .u8 0) ∧ w.cell? ⟨0, 1, none⟩ = some (.int .u8 1) ∧ w.cell? ⟨0, 3, none⟩ = some (.int .u8 2)
theorem Tab32.below {w w' : World} (h : Tab32 w) (hb : Below w.heap.size w w') : Tab32 w' := by
  have hl := World.block_lt_of_cell? w _ h.1
  exact ⟨(hb.cell (by exact hl)).trans h.1, (hb.cell (by exact hl)).trans h.2.1, (hb.cell (by exact hl)).trans h.2.2⟩

set_option maxHeartbeats 1000000 in
theorem tz15 {w : World} (h : Tab32 w) : Calls Tryd.prog 50 #[.int .u32 15] w fun e w' => e = .returned (.int .i64 0) ∧ w' = w := by
  obtain ⟨h0, h1, h3⟩ := h
  have hb : bits BinOp.and IntKind.u32 15 4294967281 = 1 := by kernel_rfl
  go_enter Tryd.func50, Tryd.ntmps50
  go_wp2
  go_ret
  exact ⟨rfl, rfl⟩
set_option maxHeartbeats 1000000 in
theorem tz12 {w : World} (h : Tab32 w) : Calls Tryd.prog 50 #[.int .u32 12] w fun e w' => e = .returned (.int .i64 2) ∧ w' = w := by
  obtain ⟨h0, h1, h3⟩ := h
  have hb : bits BinOp.and IntKind.u32 12 4294967284 = 4 := by kernel_rfl
  go_enter Tryd.func50, Tryd.ntmps50
  go_wp2
  go_ret
  exact ⟨rfl, rfl⟩
set_option maxHeartbeats 1000000 in
theorem tz6 {w : World} (h : Tab32 w) : Calls Tryd.prog 50 #[.int .u32 6] w fun e w' => e = .returned (.int .i64 1) ∧ w' = w := by
  obtain ⟨h0, h1, h3⟩ := h
  have hb : bits BinOp.and IntKind.u32 6 4294967290 = 2 := by kernel_rfl
  go_enter Tryd.func50, Tryd.ntmps50
  go_wp2
  go_ret
  exact ⟨rfl, rfl⟩

abbrev cwF (bk bn bc : Nat) : Value := .func (.func 49) #[] #[.pointer (some ⟨bk, 0, none⟩), .pointer (some ⟨bn, 0, none⟩), .pointer (some ⟨bc, 0, none⟩)]
def ring4 : Nat → Nat | 0 => 10 | 1 => 5 | 2 => 10 | 3 => 5 | _ => 0
/-- How the memory stands while the search goes on. -/
structure CW (w : World) (bk bn bc b gn n : Nat) (F : Nat → Option Nat) : Prop where
  kb : Box w bk #[.map (some b)] 93
  nb : Box w bn #[.slice (some ⟨gn, 0, none⟩) 4 4] 71
  cb : Box w bc #[cwF bk bn bc] 94
  row : RowV w gn 92 4 (fun i => .int .u32 (ring4 i : Nat))
  map : UAt w b n F
  tab : Tab32 w
theorem CW.turn {w w' : World} {bk bn bc b gn n n' : Nat} {F F' : Nat → Option Nat} (h : CW w bk bn bc b gn n F) (hm : UAt w' b n' F') (ht : w.mapTurned w' b) : CW w' bk bn bc b gn n' F' := by
  have T := turned_turns ht
  have ne : ∀ {k : Nat} {cs : Array Value} {t : TypeId}, w.heap[k]? = some (.cells cs t (0, 0)) → k ≠ b := fun hk e => by
    obtain ⟨D, ⟨es, clock, h1, _⟩, _⟩ := h.map
    rw [e, h1] at hk
    cases hk
  have h0 : (0 : Nat) ≠ b := fun e => by
    obtain ⟨D, ⟨es, clock, h1, _⟩, _⟩ := h.map
    have := h.tab.1
    rw [← e] at h1
    simp [World.cell?, h1] at this
  obtain ⟨cur, hr, _⟩ := h.row
  exact ⟨box_turns h.kb T (ne h.kb), box_turns h.nb T (ne h.nb), box_turns h.cb T (ne h.cb), h.row.turns T (ne hr), hm, cell_turns h.tab.1 T h0, cell_turns h.tab.2.1 T h0, cell_turns h.tab.2.2 T h0⟩

theorem enter49 (args : Array Value) (w : World) : (callFunc 49 args).run Tryd.prog w = .ok (.enter 49 args) w := by
  simp [callFunc, Tryd.func49, go_sem]
  rw [if_neg (of_decide_eq_true (by kernel_rfl)), if_neg (by intro h; have : Tryd.f49.body.isSome = true := (by kernel_rfl); rw [h] at this; cases this)]

set_option maxHeartbeats 1000000 in
theorem cw0 {w : World} {bk bn bc b gn n : Nat} {F : Nat → Option Nat} (h : CW w bk bn bc b gn n F) (hF : F 0 = some 1) :
    Calls Tryd.prog 49 #[.int .u32 0, .pointer (some ⟨bk, 0, none⟩), .pointer (some ⟨bn, 0, none⟩), .pointer (some ⟨bc, 0, none⟩)] w fun e w' => e = .returned (.int .u64 1) ∧ w' = w := by
  have hl : (Instr.lookup 93 (.map (some b)) (.int .u32 0) true).run Tryd.prog w = .ok (.tuple #[.int .u64 1, .bool true]) w := h.map.look (k := 0) (by omega) hF
  have ck := box_cell h.kb (i := 0) rfl
  clear h hF
  go_enter Tryd.func49, Tryd.ntmps49
  go_wp2
  go_ret
  exact ⟨rfl, rfl⟩

theorem CW.below {w w' : World} {bk bn bc b gn n : Nat} {F : Nat → Option Nat} (h : CW w bk bn bc b gn n F) (hb : Below w.heap.size w w') : CW w' bk bn bc b gn n F := by
  have T : Turns (fun _ => False) w w' := Turns.of_below hb _
  exact ⟨box_turns h.kb T (fun h => h), box_turns h.nb T (fun h => h), box_turns h.cb T (fun h => h), h.row.turns T (fun h => h), h.map.block (hb.block _ h.map.lt), h.tab.below hb⟩

set_option maxRecDepth 4000 in
set_option maxHeartbeats 4000000 in
theorem cw12 {w : World} {bk bn bc b gn n : Nat} {F : Nat → Option Nat} (h : CW w bk bn bc b gn n F) (hn : n < 1000) (hF : F 0 = some 1) (hL : F 12 = none) :
    Calls Tryd.prog 49 #[.int .u32 12, .pointer (some ⟨bk, 0, none⟩), .pointer (some ⟨bn, 0, none⟩), .pointer (some ⟨bc, 0, none⟩)] w fun e w' => e = .returned (.int .u64 1) ∧ CW w' bk bn bc b gn (n + 1) (fun x => if x = 12 then some 1 else F x) ∧ Turns (fun k => k = b) w w' := by
  have hm : (Instr.lookup 93 (.map (some b)) (.int .u32 12) true).run Tryd.prog w = .ok (.tuple #[.int .u64 0, .bool false]) w := h.map.miss (k := 12) (by omega) hL
  have ck := box_cell h.kb (i := 0) rfl
  have cn := box_cell h.nb (i := 0) rfl
  have cr := h.row.cell (j := 2) (by omega)
  rw [show ((ring4 2 : Nat) : Int) = 10 from rfl] at cr
  have b1 : bits BinOp.and IntKind.u32 12 11 = 8 := by kernel_rfl
  have b2 : bits BinOp.and IntKind.u32 10 8 = 8 := by kernel_rfl
  have b3 : bits BinOp.and IntKind.u32 8 4294967288 = 8 := by kernel_rfl
  have b4 : bits BinOp.andNot IntKind.u32 8 8 = 0 := by kernel_rfl
  have b5 : bits BinOp.and IntKind.u32 8 7 = 0 := by kernel_rfl
  have H : Hid _ := h
  have HF : Hid _ := hF
  have hE := enter49
  clear h hF hL
  go_enter Tryd.func49, Tryd.ntmps49
  go_upto_region 6 with (fail)
  go_quiet ((go_at_call 50; refine Calls.quiet_of_same (tz12 ?_); exact Tab32.below H.out.tab (below_drewN (Below.refl _ _) _)))
  have hW := H.out.below (below_drewN (Below.refl _ w) nq)
  have hT0 : Turns (fun k => k = b) w (w.drewN nq) := Turns.of_below (below_drewN (Below.refl _ w) nq) _
  generalize w.drewN nq = W at hW hT0 ⊢
  clear hm ck cn cr
  have HW : Hid _ := hW
  clear hW
  go_wp2
  go_loopw [9, 10] (fun s9 s10 wr => wr = W ∧ ((s10 = .int .u32 8 ∧ s9 = .int .u64 0) ∨ (s10 = .int .u32 0 ∧ s9 = .int .u64 1))) (fun _ s10 _ => (numOf s10).toNat)
  case atStart => exact ⟨rfl, Or.inl ⟨rfl, rfl⟩⟩
  case round =>
    obtain ⟨hwr, hor⟩ := hrel
    have hwr' := hwr.symm
    subst hwr'
    rcases hor with ⟨rfl, rfl⟩ | ⟨rfl, rfl⟩
    · have cc := box_cell HW.out.cb (i := 0) rfl
      go_wp2_with (first
        | (go_at_call 49; refine (cw0 HW.out HF.out).mono ?_; rintro e w2 ⟨rfl, rfl⟩)
        | go_in)
      go_roundw
      case rel => exact ⟨trivial, Or.inr ⟨rfl, rfl⟩⟩
      case measure => simp [numOf]
    · have ck := box_cell HW.out.kb (i := 0) rfl
      obtain ⟨w1, hst, hu1, ht1⟩ := HW.out.map.store hn (k := 12) (d := 1) (by omega) (by omega)
      have hst' : (Instr.mapUpdate 93 (.map (some b)) (.int .u32 12) (.int .u64 1)).run Tryd.prog W = .ok () w1 := hst
      have hcw := HW.out.turn hu1 ht1
      have hT1 := hT0.trans (turned_turns ht1)
      have HCW : Hid _ := hcw
      clear hst hu1 ht1 hcw
      go_wp2
      go_ret
      exact ⟨rfl, HCW.out, hT1⟩

set_option maxRecDepth 4000 in
set_option maxHeartbeats 4000000 in
theorem cw6 {w : World} {bk bn bc b gn n : Nat} {F : Nat → Option Nat} (h : CW w bk bn bc b gn n F) (hn : n < 1000) (hF : F 0 = some 1) (hL : F 6 = none) :
    Calls Tryd.prog 49 #[.int .u32 6, .pointer (some ⟨bk, 0, none⟩), .pointer (some ⟨bn, 0, none⟩), .pointer (some ⟨bc, 0, none⟩)] w fun e w' => e = .returned (.int .u64 1) ∧ CW w' bk bn bc b gn (n + 1) (fun x => if x = 6 then some 1 else F x) ∧ Turns (fun k => k = b) w w' := by
  have hm : (Instr.lookup 93 (.map (some b)) (.int .u32 6) true).run Tryd.prog w = .ok (.tuple #[.int .u64 0, .bool false]) w := h.map.miss (k := 6) (by omega) hL
  have ck := box_cell h.kb (i := 0) rfl
  have cn := box_cell h.nb (i := 0) rfl
  have cr := h.row.cell (j := 1) (by omega)
  rw [show ((ring4 1 : Nat) : Int) = 5 from rfl] at cr
  have b1 : bits BinOp.and IntKind.u32 6 5 = 4 := by kernel_rfl
  have b2 : bits BinOp.and IntKind.u32 5 4 = 4 := by kernel_rfl
  have b3 : bits BinOp.and IntKind.u32 4 4294967292 = 4 := by kernel_rfl
  have b4 : bits BinOp.andNot IntKind.u32 4 4 = 0 := by kernel_rfl
  have b5 : bits BinOp.and IntKind.u32 4 3 = 0 := by kernel_rfl
  have H : Hid _ := h
  have HF : Hid _ := hF
  have hE := enter49
  clear h hF hL
  go_enter Tryd.func49, Tryd.ntmps49
  go_upto_region 6 with (fail)
  go_quiet ((go_at_call 50; refine Calls.quiet_of_same (tz6 ?_); exact Tab32.below H.out.tab (below_drewN (Below.refl _ _) _)))
  have hW := H.out.below (below_drewN (Below.refl _ w) nq)
  have hT0 : Turns (fun k => k = b) w (w.drewN nq) := Turns.of_below (below_drewN (Below.refl _ w) nq) _
  generalize w.drewN nq = W at hW hT0 ⊢
  clear hm ck cn cr
  have HW : Hid _ := hW
  clear hW
  go_wp2
  go_loopw [9, 10] (fun s9 s10 wr => wr = W ∧ ((s10 = .int .u32 4 ∧ s9 = .int .u64 0) ∨ (s10 = .int .u32 0 ∧ s9 = .int .u64 1))) (fun _ s10 _ => (numOf s10).toNat)
  case atStart => exact ⟨rfl, Or.inl ⟨rfl, rfl⟩⟩
  case round =>
    obtain ⟨hwr, hor⟩ := hrel
    have hwr' := hwr.symm
    subst hwr'
    rcases hor with ⟨rfl, rfl⟩ | ⟨rfl, rfl⟩
    · have cc := box_cell HW.out.cb (i := 0) rfl
      go_wp2_with (first
        | (go_at_call 49; refine (cw0 HW.out HF.out).mono ?_; rintro e w2 ⟨rfl, rfl⟩)
        | go_in)
      go_roundw
      case rel => exact ⟨trivial, Or.inr ⟨rfl, rfl⟩⟩
      case measure => simp [numOf]
    · have ck := box_cell HW.out.kb (i := 0) rfl
      obtain ⟨w1, hst, hu1, ht1⟩ := HW.out.map.store hn (k := 6) (d := 1) (by omega) (by omega)
      have hst' : (Instr.mapUpdate 93 (.map (some b)) (.int .u32 6) (.int .u64 1)).run Tryd.prog W = .ok () w1 := hst
      have hcw := HW.out.turn hu1 ht1
      have hT1 := hT0.trans (turned_turns ht1)
      have HCW : Hid _ := hcw
      clear hst hu1 ht1 hcw
      go_wp2
      go_ret
      exact ⟨rfl, HCW.out, hT1⟩

set_option maxRecDepth 4000 in
set_option maxHeartbeats 4000000 in
theorem cw15 {w : World} {bk bn bc b gn n : Nat} {F : Nat → Option Nat} (h : CW w bk bn bc b gn n F) (hn : n < 900) (hF : F 0 = some 1) (hL : F 15 = none) (hL2 : F 12 = none) (hL3 : F 6 = none) (base : Nat) (hbb : base ≤ b) (hbw : base ≤ w.heap.size) :
    Calls Tryd.prog 49 #[.int .u32 15, .pointer (some ⟨bk, 0, none⟩), .pointer (some ⟨bn, 0, none⟩), .pointer (some ⟨bc, 0, none⟩)] w fun e w' => e = .returned (.int .u64 2) ∧ Below base w w' := by
  have hm : (Instr.lookup 93 (.map (some b)) (.int .u32 15) true).run Tryd.prog w = .ok (.tuple #[.int .u64 0, .bool false]) w := h.map.miss (k := 15) (by omega) hL
  have ck := box_cell h.kb (i := 0) rfl
  have cn := box_cell h.nb (i := 0) rfl
  have cr := h.row.cell (j := 0) (by omega)
  rw [show ((ring4 0 : Nat) : Int) = 10 from rfl] at cr
  have b1 : bits BinOp.and IntKind.u32 15 14 = 14 := by kernel_rfl
  have b2 : bits BinOp.and IntKind.u32 10 14 = 10 := by kernel_rfl
  have b3 : bits BinOp.and IntKind.u32 10 4294967286 = 2 := by kernel_rfl
  have b4 : bits BinOp.andNot IntKind.u32 14 2 = 12 := by kernel_rfl
  have b5 : bits BinOp.and IntKind.u32 10 9 = 8 := by kernel_rfl
  have b6 : bits BinOp.and IntKind.u32 8 4294967288 = 8 := by kernel_rfl
  have b7 : bits BinOp.andNot IntKind.u32 14 8 = 6 := by kernel_rfl
  have b8 : bits BinOp.and IntKind.u32 8 7 = 0 := by kernel_rfl
  have H : Hid _ := h
  have HF : Hid _ := hF
  have HL2 : Hid _ := hL2
  have HL3 : Hid _ := hL3
  have hE := enter49
  clear h hF hL hL2 hL3
  go_enter Tryd.func49, Tryd.ntmps49
  go_upto_region 6 with (fail)
  go_quiet ((go_at_call 50; refine Calls.quiet_of_same (tz15 ?_); exact Tab32.below H.out.tab (below_drewN (Below.refl _ _) _)))
  have hW := H.out.below (below_drewN (Below.refl _ w) nq)
  have hB0 : Below base w (w.drewN nq) := below_drewN (Below.refl _ w) nq
  generalize w.drewN nq = W at hW hB0 ⊢
  clear hm ck cn cr
  have HW : Hid _ := hW
  clear hW
  go_wp2
  go_loopw [9, 10] (fun s9 s10 wr => base ≤ wr.heap.size ∧ Below base w wr ∧ ((s10 = .int .u32 10 ∧ s9 = .int .u64 0 ∧ CW wr bk bn bc b gn n F) ∨ (s10 = .int .u32 8 ∧ s9 = .int .u64 1 ∧ CW wr bk bn bc b gn (n + 1) (fun x => if x = 12 then some 1 else F x)) ∨ (s10 = .int .u32 0 ∧ s9 = .int .u64 2 ∧ CW wr bk bn bc b gn (n + 1 + 1) (fun x => if x = 6 then some 1 else if x = 12 then some 1 else F x)))) (fun _ s10 _ => (numOf s10).toNat)
  case atStart => exact ⟨Nat.le_trans hbw hB0.size, hB0, Or.inl ⟨rfl, rfl, HW.out⟩⟩
  case round =>
    obtain ⟨hbz, hB, hor⟩ := hrel
    clear HW hB0
    rcases hor with ⟨rfl, rfl, hcw⟩ | ⟨rfl, rfl, hcw⟩ | ⟨rfl, rfl, hcw⟩
    · have cc := box_cell hcw.cb (i := 0) rfl
      have HC : Hid _ := cw12 hcw (by omega) HF.out HL2.out
      clear hcw
      go_wp2_with (first
        | (go_at_call 49; refine Calls.mono HC.out ?_; rintro e w2 ⟨rfl, hcw2, hT2⟩)
        | go_in)
      go_roundw
      case rel => exact ⟨Nat.le_trans hbz hT2.size, hT2.below hB hbz (fun k e => by omega), Or.inr (Or.inl ⟨rfl, rfl, hcw2⟩)⟩
      case measure => simp [numOf]
    · have cc := box_cell hcw.cb (i := 0) rfl
      have HC : Hid _ := cw6 hcw (by omega) (by simpa using HF.out) (by simpa using HL3.out)
      clear hcw
      go_wp2_with (first
        | (go_at_call 49; refine Calls.mono HC.out ?_; rintro e w2 ⟨rfl, hcw2, hT2⟩)
        | go_in)
      go_roundw
      case rel => exact ⟨Nat.le_trans hbz hT2.size, hT2.below hB hbz (fun k e => by omega), Or.inr (Or.inr ⟨rfl, rfl, hcw2⟩)⟩
      case measure => simp [numOf]
    · have ck := box_cell hcw.kb (i := 0) rfl
      obtain ⟨w1, hst, hu1, ht1⟩ := hcw.map.store (by omega) (k := 15) (d := 2) (by omega) (by omega)
      have hst' : (Instr.mapUpdate 93 (.map (some b)) (.int .u32 15) (.int .u64 2)).run Tryd.prog wr = .ok () w1 := hst
      have hB1 := (turned_turns ht1).below hB hbz (fun k e => by omega)
      clear hst hu1 ht1 hcw
      go_wp2
      go_ret
      exact ⟨rfl, hB1⟩
end Go.Proofs.YtenjkhgpfmfgmaaDoor

namespace Go.Proofs.YtenjkhgpfmfgmaaDoor
open Go.RowKit Go.Maps
attribute [local go_sem ↓] Go.wp_at_zero Go.wp_at_succ

set_option maxHeartbeats 1000000 in
theorem small2 (w : World) : Calls Tryd.prog 76 #[.int .i64 2] w fun e w' => e = .returned (.string ⟨#[50]⟩) ∧ w' = w := by
  go_enter Tryd.func76, Tryd.ntmps76
  go_wp2
  go_ret
  exact ⟨rfl, rfl⟩
set_option maxHeartbeats 1000000 in
theorem fmtIn2 (w : World) : Calls Tryd.prog 48 #[.int .u64 2, .int .i64 10] w fun e w' => e = .returned (.string ⟨#[50]⟩) ∧ w' = w := by
  go_enter Tryd.func48, Tryd.ntmps48
  go_wp2_with (first | (go_at_call 76; refine (small2 _).mono ?_; rintro e w1 ⟨rfl, rfl⟩) | go_in)
  go_ret
  exact ⟨rfl, rfl⟩
set_option maxHeartbeats 1000000 in
theorem fmt2 (w : World) : Calls Tryd.prog 36 #[.int .u64 2, .int .i64 10] w fun e w' => e = .returned (.string ⟨#[50]⟩) ∧ w' = w := by
  go_enter Tryd.func36, Tryd.ntmps36
  go_wp2_with (first | (go_at_call 48; refine (fmtIn2 _).mono ?_; rintro e w1 ⟨rfl, rfl⟩) | go_in)
  go_ret
  exact ⟨rfl, rfl⟩

set_option maxRecDepth 4000 in
set_option maxHeartbeats 4000000 in
theorem countWhole_ring {w : World} {gn : Nat} (hr : RowV w gn 92 4 (fun i => .int .u32 (ring4 i : Nat))) (ht : Tab32 w) :
    Calls Tryd.prog 37 #[.slice (some ⟨gn, 0, none⟩) 4 4] w fun e w' => e = .returned (.int .u64 2) ∧ Below w.heap.size w w' := by
  have hmm := @run_makeMap Tryd.prog
  have hE := enter49
  obtain ⟨A, hA⟩ : ∃ A, A = Obj.cells #[.slice (some ⟨gn, 0, none⟩) 4 4] 71 := ⟨_, rfl⟩
  have hmade := uAt_made (w.alloc A)
  have hsz : (w.alloc A).heap.size = w.heap.size + 1 := by simp
  rw [hsz] at hmade
  obtain ⟨w2, hst, hu2, ht2⟩ := hmade.store (by omega) (k := 0) (d := 1) (by omega) (by omega)
  have hst' : (Instr.mapUpdate 93 (.map (some (w.heap.size + 1))) (.int .u32 0) (.int .u64 1)).run Tryd.prog ((w.alloc A).alloc (.map #[] 0)) = .ok () w2 := hst
  have hB2 : Below w.heap.size w w2 := (turned_turns ht2).below (below_alloc (below_alloc (Below.refl _ w) A) (.map #[] 0)) (by simp; omega) (fun k e => by omega)
  have hA2 : Box w2 w.heap.size #[.slice (some ⟨gn, 0, none⟩) 4 4] 71 := by
    refine ((turned_turns ht2).block w.heap.size (by simp; omega) (fun e => by omega)).trans ?_
    rw [Below.heap_alloc _ _ _ (by simp), hA]
    exact heap_alloc_new _ _
  have hs2 : w.heap.size + 2 ≤ w2.heap.size := by have := (turned_turns ht2).size; simp at this; omega
  have hr2 := hr.block (hB2.block _ hr.lt)
  have ht2' := ht.below hB2
  rw [hA] at hst'
  have HR : Hid _ := hr2
  have HT : Hid _ := ht2'
  have HU : Hid _ := hu2
  have HA : Hid _ := hA2
  clear hr ht hmade hst hu2 ht2 hA2 hr2 ht2'
  go_enter Tryd.func37, Tryd.ntmps37
  go_upto_region 4 with (fail)
  have hB4 := below_alloc (below_alloc hB2 (Obj.cells #[.map (some (w.heap.size + 1))] 93)) (Obj.cells #[cwF w2.heap.size w.heap.size (w2.heap.size + 1)] 94)
  have hB24 := below_alloc (below_alloc (Below.refl w2.heap.size w2) (Obj.cells #[.map (some (w.heap.size + 1))] 93)) (Obj.cells #[cwF w2.heap.size w.heap.size (w2.heap.size + 1)] 94)
  have hcw : CW ((w2.alloc (Obj.cells #[.map (some (w.heap.size + 1))] 93)).alloc (Obj.cells #[cwF w2.heap.size w.heap.size (w2.heap.size + 1)] 94)) w2.heap.size w.heap.size (w2.heap.size + 1) (w.heap.size + 1) gn (0 + 1) (fun x => if x = 0 then some 1 else none) := by
    refine ⟨?_, (hB24.block _ (by omega)).trans HA.out, ?_, RowV.block HR.out (hB24.block _ (RowV.lt HR.out)), UAt.block HU.out (hB24.block _ (UAt.lt HU.out)), Tab32.below HT.out hB24⟩
    · show ((w2.alloc _).alloc _).heap[w2.heap.size]? = _
      rw [Below.heap_alloc _ _ _ (by simp)]
      exact heap_alloc_new _ _
    · have := heap_alloc_new (w2.alloc (Obj.cells #[.map (some (w.heap.size + 1))] 93)) (Obj.cells #[cwF w2.heap.size w.heap.size (w2.heap.size + 1)] 94)
      simpa [Box] using this
  clear hB24 hst' HR HT HU HA hB2
  generalize (w2.alloc (Obj.cells #[.map (some (w.heap.size + 1))] 93)).alloc (Obj.cells #[cwF w2.heap.size w.heap.size (w2.heap.size + 1)] 94) = W4 at hB4 hcw ⊢
  have c1 := box_cell hcw.nb (i := 0) rfl
  have c2 := box_cell hcw.cb (i := 0) rfl
  have hb4 := hB4.size
  have hcwd := hcw.below (Below.refl _ W4).drew
  have HC : Hid _ := cw15 hcwd (by omega) (by simp) (by simp) (by simp) (by simp) w.heap.size (by omega) (by show w.heap.size ≤ W4.heap.size; omega)
  clear hcw hcwd
  go_region_with ((go_at_call 49; refine Calls.mono HC.out ?_; rintro e w5 ⟨rfl, hB5⟩))
  all_goals
    go_wp2
    go_ret
    exact ⟨rfl, hB4.drew.trans hB5⟩

def es4 : List Pair := [(0, 1), (1, 2), (2, 3), (0, 3)]
/-- The sets behind k edges of the ring. -/
def tab4 : Nat → Nat → Nat
  | 0, _ => 0
  | 1, 0 => 2 | 1, 1 => 1
  | 2, 0 => 2 | 2, 1 => 5 | 2, 2 => 2
  | 3, 0 => 2 | 3, 1 => 5 | 3, 2 => 10 | 3, 3 => 4
  | 4, 0 => 10 | 4, 1 => 5 | 4, 2 => 10 | 4, 3 => 5
  | _, _ => 0
theorem Tryd.info92 : (Tryd.prog.info? 92).map (fun i => (i.zero, i.size, i.bytes)) = some (some (.int .u32 0), 1, 4) := by kernel_rfl
theorem make71 (w : World) : (Instr.makeSlice 71 (.int .i64 4) (.int .i64 4)).run Tryd.prog w = .ok (.slice (some ⟨w.heap.size, 0, none⟩) 4 4) (w.alloc (.cells (rep 4 (.int .u32 0)) 92)) := by
  obtain ⟨i3, hi3, hy0, hy1, hy2⟩ := info_parts Tryd.info92
  have hr := run_make (P := Tryd.prog) w 71 92 i3 (.int .u32 0) Tryd.underlying71 hi3 hy0 .i64 .i64 4 4 (by omega) (Int.le_refl _) (by rw [hy2]; omega) (by omega)
  simpa [hy1, Value.cells] using hr

set_option maxRecDepth 4000 in
set_option maxHeartbeats 4000000 in
theorem nearSets_ring {w : World} {vo : Option Addr} {vc : Nat} (hE : EdgesAt w (.slice vo 4 vc) es4) :
    Calls Tryd.prog 38 #[.agg #[.int .i64 4, .slice vo 4 vc]] w fun e w' => ∃ gn, e = .returned (.slice (some ⟨gn, 0, none⟩) 4 4) ∧ RowV w' gn 92 4 (fun i => .int .u32 (ring4 i : Nat)) ∧ Below w.heap.size w w' := by
  have hmk := make71
  have hr0 : RowV ((w.alloc (Obj.cells #[.int .i64 4, .slice vo 4 vc] 24)).alloc (.cells (rep 4 (.int .u32 0)) 92)) (w.heap.size + 1) 92 4 (fun _ => .int .u32 0) := rowV_rep (by simpa using heap_alloc_new (w.alloc (Obj.cells #[.int .i64 4, .slice vo 4 vc] 24)) (.cells (rep 4 (.int .u32 0)) 92))
  have hB0 := below_alloc (below_alloc (Below.refl w.heap.size w) (Obj.cells #[.int .i64 4, .slice vo 4 vc] 24)) (.cells (rep 4 (.int .u32 0)) 92)
  have t0 : Two ((w.alloc (Obj.cells #[.int .i64 4, .slice vo 4 vc] 24)).alloc (.cells (rep 4 (.int .u32 0)) 92)) w.heap.size (.int .i64 4) (.slice vo 4 vc) 24 := two_alloc (two_new w _ _ _) _
  have hEc : ∀ k x y : Nat, es4[k]? = some ((x : Int), (y : Int)) → ∃ b off, vo = some ⟨b, off, none⟩ ∧ w.cell? ⟨b, off + k * 2, none⟩ = some (.int .i64 (x : Int)) ∧ w.cell? ⟨b, off + k * 2 + 1, none⟩ = some (.int .i64 (y : Int)) := fun k x y hk => by
    obtain ⟨ao, cap, e, _, _, hc⟩ := hE
    cases e
    obtain ⟨h1, h2⟩ := List.getElem?_eq_some_iff.1 hk
    obtain ⟨b, off, e1, c0, c1⟩ := hc k h1
    rw [h2] at c0 c1
    exact ⟨b, off, e1, c0, c1⟩
  have HEC : Hid _ := hEc
  clear hE hEc
  go_enter Tryd.func38, Tryd.ntmps38
  go_upto_region 2 with (fail)
  generalize (w.alloc (Obj.cells #[.int .i64 4, .slice vo 4 vc] 24)).alloc (.cells (rep 4 (.int .u32 0)) 92) = W0 at hr0 hB0 t0 ⊢
  obtain ⟨y1, y2⟩ := cell_two t0
  clear hmk
  go_wp2
  clear y1 y2 t0
  go_loopw [12] (fun i wr => ∃ k : Nat, k ≤ 4 ∧ i = .int .i64 (k : Int) ∧ RowV wr (w.heap.size + 1) 92 4 (fun i => .int .u32 (tab4 k i : Nat)) ∧ Below w.heap.size w wr) (fun i _ => 4 - (numOf i).toNat)
  case atStart => exact ⟨0, by omega, rfl, hr0.congr (fun j _ => by simp [tab4]), hB0⟩
  case round =>
    obtain ⟨k, hk, rfl, hrow, hB⟩ := hrel
    clear hr0 hB0
    by_cases hk4 : k < 4
    · match k, hk4 with
      | 0, _ =>
        obtain ⟨b, off, rfl, cx0, cy0⟩ := HEC.out 0 0 1 rfl
        have cx : wr.cell? ⟨b, off, none⟩ = some (.int .i64 0) := (hB.cell (by exact World.block_lt_of_cell? w _ cx0)).trans cx0
        have cy : wr.cell? ⟨b, off + 1, none⟩ = some (.int .i64 1) := (hB.cell (by exact World.block_lt_of_cell? w _ cy0)).trans cy0
        have r1 : wr.cell? ⟨w.heap.size + 1, 0, none⟩ = some (.int .u32 0) := hrow.cell (j := 0) (by omega)
        have f1 := hrow.free 0
        have r2 : wr.cell? ⟨w.heap.size + 1, 1, none⟩ = some (.int .u32 0) := hrow.cell (j := 1) (by omega)
        have f2 := hrow.free 1
        have hrow3 := ((hrow.set 0 (.int .u32 2)).set 1 (.int .u32 1)).congr (g := fun i => .int .u32 (tab4 (0 + 1) i : Nat)) (fun j hj => by
          match j, hj with
          | 0, _ => rfl
          | 1, _ => rfl
          | 2, _ => rfl
          | 3, _ => rfl)
        have hB3 := below_alloc ((hB.setCell (p := ⟨w.heap.size + 1, 0, none⟩) (by simp) (.int .u32 2)).setCell (p := ⟨w.heap.size + 1, 1, none⟩) (by simp) (.int .u32 1)) (Obj.cells #[.int .i64 0, .int .i64 1] 50)
        have hlw : w.heap.size + 1 < wr.heap.size := hrow.lt
        have hnw : ¬ wr.heap.size = w.heap.size + 1 := by omega
        have hnw' : ¬ w.heap.size + 1 = wr.heap.size := by omega
        have q1 : bits BinOp.or IntKind.u32 0 2 = 2 := by kernel_rfl
        have q2 : bits BinOp.or IntKind.u32 0 1 = 1 := by kernel_rfl
        have hrow4 := hrow3.block (w' := (((wr.setCell ⟨w.heap.size + 1, 0, none⟩ (.int .u32 2)).setCell ⟨w.heap.size + 1, 1, none⟩ (.int .u32 1)).alloc (Obj.cells #[.int .i64 0, .int .i64 1] 50)).drew.drew) (Below.heap_alloc _ _ _ hrow3.lt)
        have HR3 : Hid _ := hrow4
        clear hrow hrow3 hrow4 cx0 cy0
        go_upto_region 5 with (fail)
        go_region
        go_upto_region 6 with (fail)
        go_region
        go_wp2
        go_roundw
        case rel => exact ⟨0 + 1, by omega, by first | rfl | go_num, HR3.out, hB3.drew.drew⟩
        case measure => simp [numOf]
      | 1, _ =>
        obtain ⟨b, off, rfl, cx0, cy0⟩ := HEC.out 1 1 2 rfl
        have cx : wr.cell? ⟨b, off + 2, none⟩ = some (.int .i64 1) := (hB.cell (by exact World.block_lt_of_cell? w _ cx0)).trans cx0
        have cy : wr.cell? ⟨b, off + 3, none⟩ = some (.int .i64 2) := (hB.cell (by exact World.block_lt_of_cell? w _ cy0)).trans cy0
        have r1 : wr.cell? ⟨w.heap.size + 1, 1, none⟩ = some (.int .u32 1) := hrow.cell (j := 1) (by omega)
        have f1 := hrow.free 1
        have r2 : wr.cell? ⟨w.heap.size + 1, 2, none⟩ = some (.int .u32 0) := hrow.cell (j := 2) (by omega)
        have f2 := hrow.free 2
        have hrow3 := ((hrow.set 1 (.int .u32 5)).set 2 (.int .u32 2)).congr (g := fun i => .int .u32 (tab4 (1 + 1) i : Nat)) (fun j hj => by
          match j, hj with
          | 0, _ => rfl
          | 1, _ => rfl
          | 2, _ => rfl
          | 3, _ => rfl)
        have hB3 := below_alloc ((hB.setCell (p := ⟨w.heap.size + 1, 1, none⟩) (by simp) (.int .u32 5)).setCell (p := ⟨w.heap.size + 1, 2, none⟩) (by simp) (.int .u32 2)) (Obj.cells #[.int .i64 1, .int .i64 2] 50)
        have hlw : w.heap.size + 1 < wr.heap.size := hrow.lt
        have hnw : ¬ wr.heap.size = w.heap.size + 1 := by omega
        have hnw' : ¬ w.heap.size + 1 = wr.heap.size := by omega
        have q1 : bits BinOp.or IntKind.u32 1 4 = 5 := by kernel_rfl
        have q2 : bits BinOp.or IntKind.u32 0 2 = 2 := by kernel_rfl
        have hrow4 := hrow3.block (w' := (((wr.setCell ⟨w.heap.size + 1, 1, none⟩ (.int .u32 5)).setCell ⟨w.heap.size + 1, 2, none⟩ (.int .u32 2)).alloc (Obj.cells #[.int .i64 1, .int .i64 2] 50)).drew.drew) (Below.heap_alloc _ _ _ hrow3.lt)
        have HR3 : Hid _ := hrow4
        clear hrow hrow3 hrow4 cx0 cy0
        go_upto_region 5 with (fail)
        go_region
        go_upto_region 6 with (fail)
        go_region
        go_wp2
        go_roundw
        case rel => exact ⟨1 + 1, by omega, by first | rfl | go_num, HR3.out, hB3.drew.drew⟩
        case measure => simp [numOf]
      | 2, _ =>
        obtain ⟨b, off, rfl, cx0, cy0⟩ := HEC.out 2 2 3 rfl
        have cx : wr.cell? ⟨b, off + 4, none⟩ = some (.int .i64 2) := (hB.cell (by exact World.block_lt_of_cell? w _ cx0)).trans cx0
        have cy : wr.cell? ⟨b, off + 5, none⟩ = some (.int .i64 3) := (hB.cell (by exact World.block_lt_of_cell? w _ cy0)).trans cy0
        have r1 : wr.cell? ⟨w.heap.size + 1, 2, none⟩ = some (.int .u32 2) := hrow.cell (j := 2) (by omega)
        have f1 := hrow.free 2
        have r2 : wr.cell? ⟨w.heap.size + 1, 3, none⟩ = some (.int .u32 0) := hrow.cell (j := 3) (by omega)
        have f2 := hrow.free 3
        have hrow3 := ((hrow.set 2 (.int .u32 10)).set 3 (.int .u32 4)).congr (g := fun i => .int .u32 (tab4 (2 + 1) i : Nat)) (fun j hj => by
          match j, hj with
          | 0, _ => rfl
          | 1, _ => rfl
          | 2, _ => rfl
          | 3, _ => rfl)
        have hB3 := below_alloc ((hB.setCell (p := ⟨w.heap.size + 1, 2, none⟩) (by simp) (.int .u32 10)).setCell (p := ⟨w.heap.size + 1, 3, none⟩) (by simp) (.int .u32 4)) (Obj.cells #[.int .i64 2, .int .i64 3] 50)
        have hlw : w.heap.size + 1 < wr.heap.size := hrow.lt
        have hnw : ¬ wr.heap.size = w.heap.size + 1 := by omega
        have hnw' : ¬ w.heap.size + 1 = wr.heap.size := by omega
        have q1 : bits BinOp.or IntKind.u32 2 8 = 10 := by kernel_rfl
        have q2 : bits BinOp.or IntKind.u32 0 4 = 4 := by kernel_rfl
        have hrow4 := hrow3.block (w' := (((wr.setCell ⟨w.heap.size + 1, 2, none⟩ (.int .u32 10)).setCell ⟨w.heap.size + 1, 3, none⟩ (.int .u32 4)).alloc (Obj.cells #[.int .i64 2, .int .i64 3] 50)).drew.drew) (Below.heap_alloc _ _ _ hrow3.lt)
        have HR3 : Hid _ := hrow4
        clear hrow hrow3 hrow4 cx0 cy0
        go_upto_region 5 with (fail)
        go_region
        go_upto_region 6 with (fail)
        go_region
        go_wp2
        go_roundw
        case rel => exact ⟨2 + 1, by omega, by first | rfl | go_num, HR3.out, hB3.drew.drew⟩
        case measure => simp [numOf]
      | 3, _ =>
        obtain ⟨b, off, rfl, cx0, cy0⟩ := HEC.out 3 0 3 rfl
        have cx : wr.cell? ⟨b, off + 6, none⟩ = some (.int .i64 0) := (hB.cell (by exact World.block_lt_of_cell? w _ cx0)).trans cx0
        have cy : wr.cell? ⟨b, off + 7, none⟩ = some (.int .i64 3) := (hB.cell (by exact World.block_lt_of_cell? w _ cy0)).trans cy0
        have r1 : wr.cell? ⟨w.heap.size + 1, 0, none⟩ = some (.int .u32 2) := hrow.cell (j := 0) (by omega)
        have f1 := hrow.free 0
        have r2 : wr.cell? ⟨w.heap.size + 1, 3, none⟩ = some (.int .u32 4) := hrow.cell (j := 3) (by omega)
        have f2 := hrow.free 3
        have hrow3 := ((hrow.set 0 (.int .u32 10)).set 3 (.int .u32 5)).congr (g := fun i => .int .u32 (tab4 (3 + 1) i : Nat)) (fun j hj => by
          match j, hj with
          | 0, _ => rfl
          | 1, _ => rfl
          | 2, _ => rfl
          | 3, _ => rfl)
        have hB3 := below_alloc ((hB.setCell (p := ⟨w.heap.size + 1, 0, none⟩) (by simp) (.int .u32 10)).setCell (p := ⟨w.heap.size + 1, 3, none⟩) (by simp) (.int .u32 5)) (Obj.cells #[.int .i64 0, .int .i64 3] 50)
        have hlw : w.heap.size + 1 < wr.heap.size := hrow.lt
        have hnw : ¬ wr.heap.size = w.heap.size + 1 := by omega
        have hnw' : ¬ w.heap.size + 1 = wr.heap.size := by omega
        have q1 : bits BinOp.or IntKind.u32 2 8 = 10 := by kernel_rfl
        have q2 : bits BinOp.or IntKind.u32 4 1 = 5 := by kernel_rfl
        have hrow4 := hrow3.block (w' := (((wr.setCell ⟨w.heap.size + 1, 0, none⟩ (.int .u32 10)).setCell ⟨w.heap.size + 1, 3, none⟩ (.int .u32 5)).alloc (Obj.cells #[.int .i64 0, .int .i64 3] 50)).drew.drew) (Below.heap_alloc _ _ _ hrow3.lt)
        have HR3 : Hid _ := hrow4
        clear hrow hrow3 hrow4 cx0 cy0
        go_upto_region 5 with (fail)
        go_region
        go_upto_region 6 with (fail)
        go_region
        go_wp2
        go_roundw
        case rel => exact ⟨3 + 1, by omega, by first | rfl | go_num, HR3.out, hB3.drew.drew⟩
        case measure => simp [numOf]
    · have hke : k = 4 := by omega
      subst hke
      go_wp2
      go_ret
      exact ⟨_, rfl, hrow.congr (fun j hj => by
        match j, hj with
        | 0, _ => rfl
        | 1, _ => rfl
        | 2, _ => rfl
        | 3, _ => rfl), hB⟩
end Go.Proofs.YtenjkhgpfmfgmaaDoor

namespace Go.Proofs.YtenjkhgpfmfgmaaDoor
open Go.RowKit Go.Maps
attribute [local go_sem ↓] Go.wp_at_zero Go.wp_at_succ

theorem chk_ring : chk 4 es4 = (0, 0) := by decide +kernel

set_option maxRecDepth 4000 in
set_option maxHeartbeats 4000000 in
theorem count_ring {w : World} {vo : Option Addr} {vc : Nat} (hE : EdgesAt w (.slice vo 4 vc) es4) (ht : Tab32 w) :
    Calls Tryd.prog 22 #[.agg #[.int .i64 4, .slice vo 4 vc]] w fun r w' => r = .returned (.tuple #[.string ⟨#[50]⟩, .agg #[.int .i64 0, .int .i64 0]]) ∧ Below w.heap.size w w' := by
  have hck := check_as (n := 4) (hE.below (below2 (w := w) (Obj.cells #[.int .i64 4, .slice vo 4 vc] 24) (Obj.cells #[.int .i64 0, .int .i64 0] 27))) chk_ring
  have HCK : Hid _ := hck
  have HE : Hid _ := hE
  have HT : Hid _ := ht
  clear hck hE ht
  go_enter Tryd.func22, Tryd.ntmps22
  go_upto_region 2 with (go_at_call 26; refine Calls.mono HCK.out ?_; rintro e w1 ⟨rfl, hb⟩; obtain ⟨bc, bf, bc1, bf1, bc2, bf2⟩ := bcell hb)
  have t1 : Two (w1.alloc (Obj.cells #[.int .i64 0, .int .i64 0] 27)) w.heap.size (.int .i64 4) (.slice vo 4 vc) 24 := two_alloc (two_next (two_alloc (two_new w _ _ _) _) hb) _
  have t4 : Two (w1.alloc (Obj.cells #[.int .i64 0, .int .i64 0] 27)) (w.heap.size + 1) (.int .i64 0) (.int .i64 0) 27 := two_alloc (two_next (two_new1 w _ _ _ _) hb) _
  have t5 : Two (w1.alloc (Obj.cells #[.int .i64 0, .int .i64 0] 27)) w1.heap.size (.int .i64 0) (.int .i64 0) 27 := two_new w1 _ _ _
  have hB := below_alloc (below_next (below2 (w := w) (Obj.cells #[.int .i64 4, .slice vo 4 vc] 24) (Obj.cells #[.int .i64 0, .int .i64 0] 27)) hb) (Obj.cells #[.int .i64 0, .int .i64 0] 27)
  clear bc bf bc1 bf1 bc2 bf2 hb
  generalize w1.alloc (Obj.cells #[.int .i64 0, .int .i64 0] 27) = W at t1 t4 t5 hB ⊢
  generalize w1.heap.size = b5 at t5 ⊢
  obtain ⟨x1, x2⟩ := cell_two t1
  obtain ⟨z1, z2⟩ := cell_two t5
  have hEW : EdgesAt W (.slice vo 4 vc) es4 := EdgesAt.below HE.out hB
  have HNS : Hid _ := nearSets_ring hEW
  have htW := Tab32.below HT.out hB
  have HTW : Hid _ := htW
  clear hEW htW
  go_wp2_with (first
    | (go_at_call 38; refine Calls.mono HNS.out ?_; rintro e W2 ⟨gn, rfl, hrow, hB2⟩; have HCW : Hid _ := countWhole_ring hrow (Tab32.below HTW.out hB2); clear hrow)
    | (go_at_call 37; refine Calls.mono HCW.out ?_; rintro e W3 ⟨rfl, hB3⟩; have t43 := two_next (two_next t4 hB2) hB3; obtain ⟨y1, y2⟩ := cell_two t43; have f1 := free_two t43 0; have f2 := free_two t43 1)
    | (go_at_call 36; refine (fmt2 _).mono ?_; rintro e W4 ⟨rfl, rfl⟩)
    | go_in)
  have hX := two_setN (x' := .int .i64 0) (y' := .int .i64 0) t43
  have hB5 := ((below_next (below_next hB hB2) hB3).setCell (p := ⟨w.heap.size + 1, 0, none⟩) (by simp) (.int .i64 0)).setCell (p := ⟨w.heap.size + 1, 1, none⟩) (by simp) (.int .i64 0)
  refine bodyPost_ret (v := .tuple #[.string ⟨#[50]⟩, .agg #[.int .i64 0, .int .i64 0]]) ?_ rfl ⟨rfl, hB5⟩
  obtain ⟨q1, q2⟩ := cell_two hX
  generalize (W4.setCell ⟨w.heap.size + 1, 0, none⟩ (.int .i64 0)).setCell ⟨w.heap.size + 1, 1, none⟩ (.int .i64 0) = W5 at q1 q2 ⊢
  simp [results, Tryd.results22, go_sem, q1, q2]
end Go.Proofs.YtenjkhgpfmfgmaaDoor
