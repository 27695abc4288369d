/- Whatever graph and string it is given, CodecBack answers true and leaves them as they were; no condition beyond the tables of the library that the card ties to the program's text. -/
import Derived.Test.YtbaghbodjpehpabDoorBackWalk
import Derived.Test.YtbaghbodjpehpabDoorOpens
import Derived.Test.YtbaghbodjpehpabDoorCards
import Derived.Test.YtbaghbodjpehpabDoorTie
import Derived.LaidMore
import Derived.Stop.Joined
import Derived.Stop.LaidErr
import Derived.Lib.LaidTab
import Derived.Lib.AppendIntMem
import Derived.SevenTiedAt
namespace Go.Proofs.YtbaghbodjpehpabDoor
open Go.ChangeShapes Go.WideShapes Go.ChangeAt Go.RowKit Go.Joins Go.Deep Go.Maps
open Go.ChangeMaps (open_string shut_string)

def ansOf : Got × Nat → Ans
  | (.fault p, _) => ⟨0, [], 1, p⟩
  | (.edges es _, n) => formS n es

theorem readS_eq {s : ByteArray} (h : s.size ≤ 20000) : readS s = ansOf (lineS s) := by
  unfold readS
  rw [if_neg (by omega)]
  cases lineS s with
  | mk a b => cases a <;> rfl

theorem read_tells (s : ByteArray) (w : World) : Tells 8 #[.string s] w (readS s) := by
  by_cases hs : s.size ≤ 20000
  · rw [readS_eq hs]
    cases hl : lineS s with
    | mk a b =>
      cases a with
      | fault p => exact read_fault s w hs p b hl
      | edges es k => exact read_good s w hs es k b hl
  · have e : readS s = ⟨0, [], 2, 0⟩ := by unfold readS; rw [if_pos (by omega)]
    rw [e]
    exact read_long s w (by omega)

theorem back_any (n : Int) (ao : Option Addr) (cap : Nat) (es : List Pair) (s : ByteArray) (w : World) (hE : EdgesAt w (.slice ao es.length cap) es) (hI : ∀ m : Nat, m ≤ 100 → ItoaAt w m) :
    Calls Tryd.prog 3 #[.agg #[.int .i64 n, .slice ao es.length cap], .string s] w fun e w' => e = .returned (.bool true) ∧ Below w.heap.size w w' := by
  obtain ⟨A, hA, hB⟩ := one_unpack s
  have h9 : A.c ≠ 0 ∨ (A.c = 0 ∧ ∀ w v, EdgesAt w v A.es → Says 5 #[.agg #[.int .i64 A.n, v]] w s 0 0) := by
    by_cases hc : A.c = 0
    · obtain ⟨_, N, h1, h2, h3⟩ := code_back (hB hc) hc
      refine Or.inr ⟨hc, fun w v hv => ?_⟩
      have := pack_good N v A.es w hv h2
      rw [h3] at this
      rw [h1]
      exact this
    · exact Or.inl hc
  by_cases h0 : (chk n es).1 = 0
  · obtain ⟨h1, h2, h3, h4, h5⟩ := chk_good h0
    obtain ⟨m, rfl⟩ : ∃ m : Nat, n = m := ⟨n.toNat, by omega⟩
    have hm : m ≤ 100 := by omega
    refine back_good m ao cap es s w hE (allP_len h0) (fun w' v h => pack_good m v es w' h h0) (fun w' v hb h => print_good m v es w' h h0 ((hI m hm).below hb)) (fun w => unpack_packed h0 w) (fun w => ?_) A hA h9
    rw [← readS_printed h0]
    exact read_tells _ w
  · have e : chk n es = ((chk n es).1, (chk n es).2) := rfl
    exact back_bad n _ es s w hE h0 (fun w' v h => pack_bad n v es w' h e h0) A hA h9

def laid3 : List (String × DataW Unit) := Rows.codecBackRow.laid
theorem Tryd.gPow : Tryd.prog.globalNamed "internal/strconv.uint64pow10" = some 0 := by kernel_rfl
theorem Tryd.tPow : (Tryd.prog.globals[0]?).map (·.type) = some 87 := by kernel_rfl
theorem Tryd.cells81 : Tryd.prog.cellsOf 81 = 1 := by kernel_rfl
theorem Tryd.cells87 : Tryd.prog.cellsOf 87 = 20 := by kernel_rfl

theorem door_met (os : Os) (args : Array Value) : laidMetH Tryd.prog laid3 ((World.doorLaid Tryd.prog 400 os).forCall (fun _ _ => 0) ⟨#[], args, []⟩).memory :=
  laidMetH_of_parts3 (fuel := 8) (laidMet_of_run' 8 (by kernel_rfl) (by kernel_rfl)) (by kernel_rfl) (by kernel_rfl)

theorem tab_of_laid {W : World} (h : laidMetH Tryd.prog laid3 W) : Lib.TabIs Tryd.prog W "internal/strconv.uint64pow10" .u64 Lib.pow10Tab := by
  rw [MakeChecks.laidMetH_plain _ _ _ (by kernel_rfl)] at h
  exact Lib.tabIs_of_head Tryd.gPow Tryd.tPow Tryd.underlying87 Tryd.underlying81 Tryd.cells81 Tryd.cells87 (laidMet.tail (laidMet.tail h))

theorem itoa_laid {W : World} (h : Lib.TabIs Tryd.prog W "internal/strconv.uint64pow10" .u64 Lib.pow10Tab) (m : Nat) (hm : m ≤ 100) : ItoaAt W m := by
  intro w' hb
  refine (Tryd.strconv_Itoa m (by omega) (by omega) w' (Lib.tabBelow_of_tabIs h w' hb)).mono ?_
  rintro e w'' ⟨rfl, k, os, rfl⟩
  exact ⟨by rw [Lib.itoa_nonneg]; rfl, Lib.below_grow _ w' (Nat.le_refl _) k os⟩

set_option maxRecDepth 100000 in
theorem back_lifted (os : Os) (started : os.Started) (H : Type) (enc : TypeId × Value → H) :
    ReturnsInHanded {} Tryd.checked os 3 .any (fun w args => (Rows.codecBackSpec.pre enc Tryd.prog Tryd.f3 [] false w args ∧ laidMetH Tryd.prog laid3 w) ∧ sizedMet enc Tryd.prog Tryd.f3 (OpenSpec.ofChange Rows.codecBackSpec) false w args)
      (Rows.codecBackSpec.post enc Tryd.prog Tryd.f3 false true false false) := by
  refine returnsInHanded_of_change_and (C := Tryd.checked) (X := fun w _ => laidMetH Tryd.prog laid3 w) (fun _ _ _ hh h => h.of_heap hh) Tryd.own started (by kernel_rfl) Tryd.func3
    (ChangeSpec.witness_shaped (enc := enc) (C := Tryd.checked) (os := os) (X := fun w _ => laidMetH Tryd.prog laid3 w) false (World.doorLaid Tryd.prog 400 os) #[.agg #[.int .i64 0, .slice none 0 0], .string (ByteArray.mk #[])] 8 rfl (World.shaped_of_RefB (by kernel_rfl) (by kernel_rfl)) (by kernel_rfl) (by kernel_rfl) (by kernel_rfl) (door_met os _)) ?_
  intro W base args ds gs before hval0 hW _ hsz0 hL _
  have hval : ∀ (j : Nat) t v, Tryd.f3.params[j]? = some t → args[j]? = some v → Value.okWide Tryd.prog W .any base t v := hval0
  have hsz : (DataW.weightsEach Tryd.prog (Tryd.f3.params.toList ++ Rows.codecBackSpec.plain.varTypes Tryd.prog) (ds ++ gs)).all (· ≤ reachBytes) = true := hsz0
  have hW' := hW
  obtain ⟨p, q, hA0, hV, rfl, hfz, hnd⟩ := hW
  have hA : DataW.TrodAll enc Tryd.prog W 0 (fun _ => true) true Tryd.f3.params.toList args.toList ds p := hA0
  rw [Tryd.params3] at hA hval hsz
  obtain ⟨v0, v1, d0, d1, p0, p1, rfl, rfl, rfl, h0, h1⟩ := trodAll_two hA
  obtain ⟨rfl, rfl⟩ := trodVars_none hV
  have lt0 : ∀ x ∈ p0, x.block < W.heap.size := by obtain ⟨m, hm⟩ := h0; exact DataW.trod_lt m _ _ _ hm
  have lt1 : ∀ x ∈ p1, x.block < W.heap.size := by obtain ⟨m, hm⟩ := h1; exact DataW.trod_lt m _ _ _ hm
  have hwt0 : ∀ k ∈ d0.weights Tryd.prog 24, k ≤ reachBytes := fun k hk => by
    have := List.all_eq_true.1 hsz k (DataW.weights_mem_each (j := 0) (t := 24) rfl rfl k hk)
    simpa using this
  obtain ⟨n, ao, cap, es, rfl, hn, hcap, hE⟩ := open_graph (hval 0 24 v0 rfl rfl) h0 hwt0
  have h1' := h1
  obtain ⟨s, rfl, rfl, rfl, hs⟩ := open_string Tryd.underlying9 (hval 1 9 v1 rfl rfl) h1
  clear hA0 hval0
  refine (back_any n ao cap es s W hE (itoa_laid (tab_of_laid hL))).mono fun e W' ⟨he, bel⟩ => ?_
  subst he
  exact ⟨_, rfl, _, _, _, [], _, [], hW', trodAll_mk1 (shut_bool Tryd.underlying4 _), trodAll_mk2 (Below.trod Tryd.laidOut (by kernel_rfl) (of_decide_eq_true (by kernel_rfl)) h0 bel lt0) (Below.trod Tryd.laidOut (by kernel_rfl) (of_decide_eq_true (by kernel_rfl)) h1' bel lt1), rfl, bel.frame _, fun h => by cases h⟩

theorem codecBack_row : Rows.CodecBackSaid :=
  OpenClaim.holds_of_wide 3 Tryd.f3 rfl rfl rfl rfl rfl rfl rfl ⟨rfl, rfl, rfl, rfl, rfl⟩ rfl rfl rfl rfl rfl (by kernel_rfl) Tryd.func3 (by kernel_rfl)
    (of_decide_eq_true (by kernel_rfl)) (by unfold Func.isWrapper; first | (rw [if_pos (by decide +kernel)]; kernel_rfl) | (rw [if_neg (by decide +kernel)]; exact ⟨rfl, rfl⟩))
    (fun os started H enc _ => back_lifted os started H enc)

/-- Whatever graph and string it is given, CodecBack answers true and leaves them as they were. -/
theorem codecBack_holds : Rows.CodecBackCardSaid :=
  Claim7.holds_tied_plain_at .later [] [.data, .data, .data] true (true, "3d33a562874c82ee04591947ed90dc415bb59bcdf79e29d56cbb654785346324") true
    codecBack_row (fun _ h => by cases h) (by kernel_rfl) (fun _ h => by cases h) codecBack_row_tie rfl ⟨rfl, rfl⟩ (by kernel_rfl) rfl
    (fun f fn hf hfn => by
      obtain rfl : f = 3 := Option.some.inj ((show Tryd.prog.funcNamed "arbor/arborlaw.CodecBack" = some 3 by kernel_rfl).symm.trans hf) |>.symm
      obtain rfl : fn = Tryd.f3 := (Option.some.inj (Tryd.func3.symm.trans hfn)).symm
      exact ⟨by kernel_rfl, fun j t ht => by
        rw [Tryd.params3] at ht
        have hm : t ∈ [24, 9] := by simpa using Array.mem_of_getElem? ht
        have hall : ([24, 9].all fun u => !Tryd.prog.wantsStandIn u) = true := by kernel_rfl
        exact (show Tryd.prog.wantsStandIn t = false by simpa using List.all_eq_true.1 hall t hm)⟩)
    (by kernel_rfl)
end Go.Proofs.YtbaghbodjpehpabDoor
