/- Whatever graph and points it is given, DrawClear answers true and leaves them as they were; no condition beyond the tables of the library that the card ties to the program's text. -/
import Derived.Test.YtnboonhlffkimaaGreatDoorLawD
import Derived.Test.YtnboonhlffkimaaGreatDoorPartsM
import Derived.Test.YtnboonhlffkimaaGreatDoorCards
import Derived.Test.YtnboonhlffkimaaGreatDoorTie
import Derived.LaidMore
import Derived.Stop.Joined
import Derived.Stop.LaidErr
import Derived.Lib.LaidTab
import Derived.Lib.AppendIntMem
import Derived.SevenTiedAt
namespace Go.Proofs.YtnboonhlffkimaaGreatDoor
open Go.ChangeShapes Go.WideShapes Go.ChangeAt Go.RowKit Go.Joins Go.Deep

def laid1 : List (String × DataW Unit) := Rows.drawClearRow.laid
theorem Tryz.gBr : Tryz.prog.globalNamed "math/bits.deBruijn64tab" = some 0 := by kernel_rfl
theorem Tryz.tBr : (Tryz.prog.globals[0]?).map (·.type) = some 165 := by kernel_rfl
theorem Tryz.cells5 : Tryz.prog.cellsOf 5 = 1 := by kernel_rfl
theorem Tryz.cells165 : Tryz.prog.cellsOf 165 = 64 := by kernel_rfl

theorem door_met (os : Os) (args : Array Value) : laidMetH Tryz.prog laid1 ((World.doorLaid Tryz.prog 400 os).forCall (fun _ _ => 0) ⟨#[], args, []⟩).memory :=
  laidMetH_of_parts3 (fuel := 8) (laidMet_of_run' 8 (by kernel_rfl) (by kernel_rfl)) (by kernel_rfl) (by kernel_rfl)

def br64 : List Int := [0, 1, 56, 2, 57, 49, 28, 3, 61, 58, 42, 50, 38, 29, 17, 4, 62, 47, 59, 36, 45, 43, 51, 22, 53, 39, 33, 30, 24, 18, 12, 5, 63, 55, 48, 27, 60, 41, 37, 16, 46, 35, 44, 21, 52, 32, 23, 11, 54, 26, 40, 15, 34, 20, 31, 10, 25, 14, 19, 9, 13, 8, 7, 6]

theorem t64_of_laid {W : World} (h : laidMetH Tryz.prog laid1 W) : T64 W := by
  rw [MakeChecks.laidMetH_plain _ _ _ (by kernel_rfl)] at h
  have ht : Lib.TabIs Tryz.prog W "math/bits.deBruijn64tab" .u8 br64 := Lib.tabIs_of_head Tryz.gBr Tryz.tBr Tryz.underlying165 Tryz.underlying5 Tryz.cells5 Tryz.cells165 h
  intro j hj
  have hj' : j < br64.length := by have e : br64.length = Lib.deBruijn64tab.length := by decide
                                   rw [e]; exact hj
  have hc := ht.cell Tryz.gBr j hj'
  have key : ∀ i : Fin 64, br64.getD i.val 0 = ((Lib.deBruijn64tab.getD i.val 0 : Nat) : Int) := by decide
  have hj64 : j < 64 := hj
  have hk : br64.getD j 0 = ((Lib.deBruijn64tab.getD j 0 : Nat) : Int) := key ⟨j, hj64⟩
  rw [hk] at hc
  exact hc
theorem Tryz.cells32 : Tryz.prog.cellsOf 32 = 2 := by kernel_rfl
theorem Tryz.bytes32 : Tryz.prog.bytesOf 32 = 16 := by kernel_rfl
section
variable {H : Type} {enc : TypeId × Value → H} {W : World} {sp : Nat → Bool} {held : Bool}
set_option maxRecDepth 100000 in
theorem open_point {fuel : Nat} {cs : List Value} {x : DataW H × List MemPlace} (h : DataW.trod enc Tryz.prog W 0 sp held fuel 32 cs = some x) :
    ∃ a b : Int, cs = [.int .i64 a, .int .i64 b] ∧ I64 a ∧ I64 b := by
  obtain ⟨y0, y1, m, rfl, hlen, h0, h1⟩ := trod_struct2 Tryz.underlying32 h
  rw [Tryz.cells32] at hlen
  match cs, hlen with
  | [c0, c1], _ =>
    simp only [Tryz.cells3] at h0 h1
    simp at h0 h1
    obtain ⟨a, e0, _, wa⟩ := DataW.trod_int Tryz.underlying3 h0
    obtain ⟨b, e1, _, wb⟩ := DataW.trod_int Tryz.underlying3 h1
    simp at e0 e1
    subst e0 e1
    exact ⟨a, b, rfl, I64.of_wf wa, I64.of_wf wb⟩
set_option maxRecDepth 100000 in
/-- Points that came in. -/
theorem open_points {r : Reach} {b0 : Nat} {v : Value} {d : DataW H} {p : List MemPlace} (hv : Value.okWide Tryz.prog W r b0 25 v) (h : DataW.Trod enc Tryz.prog W 0 sp held 25 v d p) (hw : ∀ k ∈ d.weights Tryz.prog 25, k ≤ reachBytes) :
    ∃ (ao : Option Addr) (n cap : Nat) (P : Nat → Pt), v = .slice ao n cap ∧ n ≤ 8796093022208 ∧ PF W ao n P := by
  obtain ⟨a0, n0, c0, rfl⟩ := okWide_slice Tryz.underlying25 hv
  obtain ⟨fuel, hf⟩ := h
  have hf' : DataW.trod enc Tryz.prog W 0 sp held fuel 25 [.slice a0 n0 c0] = some (d, p) := hf
  rcases open_slice Tryz.underlying25 hf' with ⟨e1, _⟩ | ⟨a, len, cap, m', nn, D, Pl, e1, _, hlc, hcm, hm', hx, hel⟩
  · simp at e1
    obtain ⟨rfl, rfl, rfl⟩ := e1
    exact ⟨none, 0, 0, fun _ => (0, 0), rfl, Nat.zero_le _, fun j hj => by omega⟩
  · simp at e1
    obtain ⟨rfl, rfl, rfl⟩ := e1
    have hml : n0 ≤ m' := by rw [hm']; split <;> omega
    rw [Tryz.cells32] at hel
    have hd : d = .slice ((List.range n0).map D) ((List.range (m' - n0)).map fun j => D (n0 + j)) := congrArg Prod.fst hx
    obtain ⟨X, hX⟩ := choose_lt (α := Int × Int) (n := n0) (p := fun i q => W.cell? (a.add (i * 2)) = some (.int .i64 q.1) ∧ W.cell? (a.add (i * 2 + 1)) = some (.int .i64 q.2)) (fun i hi => by
      obtain ⟨cs, h1, h2⟩ := hel i (by omega)
      obtain ⟨x, y, rfl, ix, iy⟩ := open_point h2
      obtain ⟨_, _, hc⟩ := World.cells?_some h1
      have q0 := hc 0 (by omega)
      have q1 := hc 1 (by omega)
      rw [Deep.add_add] at q0 q1
      exact ⟨(x, y), by simpa using q0, by simpa using q1⟩)
    have hlen : n0 ≤ 8796093022208 := by
      have := hw ((n0 + (m' - n0)) * Tryz.prog.bytesOf 32) (by
        rw [hd]
        simp [DataW.weights, Tryz.underlying25])
      rw [Tryz.bytes32] at this
      simp only [reachBytes] at this
      omega
    refine ⟨some a, n0, c0, X, rfl, hlen, fun k hk => ?_⟩
    obtain ⟨g0, g1⟩ := hX k hk
    have hs := World.cell?_spot (hX 0 (by omega)).1
    obtain ⟨b, off, spot⟩ := a
    have hspot : spot = none := by simpa [Addr.add] using hs
    subst hspot
    refine ⟨b, off, rfl, ?_, ?_⟩
    · have e : (⟨b, off, none⟩ : Addr).add (k * 2) = ⟨b, off + k * 2, none⟩ := by unfold Addr.add; split <;> simp_all
      rw [e] at g0
      simpa using g0
    · have e : (⟨b, off, none⟩ : Addr).add (k * 2 + 1) = ⟨b, off + k * 2 + 1, none⟩ := by unfold Addr.add; split <;> simp_all [Nat.add_assoc]
      rw [e] at g1
      simpa using g1
end
set_option maxRecDepth 100000 in
theorem clear_lifted (os : Os) (started : os.Started) (H : Type) (enc : TypeId × Value → H) :
    ReturnsInHanded {} Tryz.checked os 3 .any (fun w args => (Rows.drawClearSpec.pre enc Tryz.prog Tryz.f3 [] false w args ∧ laidMetH Tryz.prog laid1 w) ∧ sizedMet enc Tryz.prog Tryz.f3 (OpenSpec.ofChange Rows.drawClearSpec) false w args)
      (Rows.drawClearSpec.post enc Tryz.prog Tryz.f3 false true false false) := by
  refine returnsInHanded_of_change_and (C := Tryz.checked) (X := fun w _ => laidMetH Tryz.prog laid1 w) (fun _ _ _ hh h => h.of_heap hh) Tryz.own started (by kernel_rfl) Tryz.func3
    (ChangeSpec.witness_shaped (enc := enc) (C := Tryz.checked) (os := os) (X := fun w _ => laidMetH Tryz.prog laid1 w) false (World.doorLaid Tryz.prog 400 os) #[.agg #[.int .i64 0, .slice none 0 0], .slice none 0 0] 8 rfl (World.shaped_of_RefB (by kernel_rfl) (by kernel_rfl)) (by kernel_rfl) (by kernel_rfl) (by kernel_rfl) (door_met os _)) ?_
  intro W base args ds gs before hval0 hW _ hsz0 hL _
  have hval : ∀ (j : Nat) t v, Tryz.f3.params[j]? = some t → args[j]? = some v → Value.okWide Tryz.prog W .any base t v := hval0
  have hsz : (DataW.weightsEach Tryz.prog (Tryz.f3.params.toList ++ Rows.drawClearSpec.plain.varTypes Tryz.prog) (ds ++ gs)).all (· ≤ reachBytes) = true := hsz0
  have hW' := hW
  obtain ⟨p, q, hA0, hV, rfl, hfz, hnd⟩ := hW
  have hA : DataW.TrodAll enc Tryz.prog W 0 (fun _ => true) true Tryz.f3.params.toList args.toList ds p := hA0
  rw [Tryz.params3] at hA hval hsz
  obtain ⟨v0, v1, d0, d1, p0, p1, rfl, rfl, rfl, h0, h1⟩ := trodAll_two hA
  obtain ⟨rfl, rfl⟩ := trodVars_none hV
  have lt0 : ∀ x ∈ p0, x.block < W.heap.size := by obtain ⟨m, hm⟩ := h0; exact DataW.trod_lt m _ _ _ hm
  have lt1 : ∀ x ∈ p1, x.block < W.heap.size := by obtain ⟨m, hm⟩ := h1; exact DataW.trod_lt m _ _ _ hm
  have hwt0 : ∀ k ∈ d0.weights Tryz.prog 24, k ≤ reachBytes := fun k hk => by
    have := List.all_eq_true.1 hsz k (DataW.weights_mem_each (j := 0) (t := 24) rfl rfl k hk)
    simpa using this
  have hwt1 : ∀ k ∈ d1.weights Tryz.prog 25, k ≤ reachBytes := fun k hk => by
    have := List.all_eq_true.1 hsz k (DataW.weights_mem_each (j := 1) (t := 25) rfl rfl k hk)
    simpa using this
  obtain ⟨n, ao, cap, es, rfl, hn, hcap, hE⟩ := open_graph (hval 0 24 v0 rfl rfl) h0 hwt0
  obtain ⟨lo, ln, lc, PP, rfl, hln, hls⟩ := open_points (hval 1 25 v1 rfl rfl) h1 hwt1
  clear hA0 hval0
  refine (clear_law hE hcap hls hln (t64_of_laid hL)).mono fun e W' ⟨he, bel⟩ => ?_
  subst he
  exact ⟨_, rfl, _, _, _, [], _, [], hW', trodAll_mk1 (shut_bool Tryz.underlying4 _), trodAll_mk2 (Below.trod Tryz.laidOut (by kernel_rfl) (of_decide_eq_true (by kernel_rfl)) h0 bel lt0) (Below.trod Tryz.laidOut (by kernel_rfl) (of_decide_eq_true (by kernel_rfl)) h1 bel lt1), rfl, bel.frame _, fun h => by cases h⟩

theorem drawClear_row : Rows.DrawClearSaid :=
  OpenClaim.holds_of_wide 3 Tryz.f3 rfl rfl rfl rfl rfl rfl rfl ⟨rfl, rfl, rfl, rfl, rfl⟩ rfl rfl rfl rfl rfl (by kernel_rfl) Tryz.func3 (by kernel_rfl)
    (of_decide_eq_true (by kernel_rfl)) (by unfold Func.isWrapper; first | (rw [if_pos (by decide +kernel)]; kernel_rfl) | (rw [if_neg (by decide +kernel)]; exact ⟨rfl, rfl⟩))
    (fun os started H enc _ => clear_lifted os started H enc)

/-- Whatever graph and points it is given, DrawClear answers true and leaves them as they were. -/
theorem drawClear_holds : Rows.DrawClearCardSaid :=
  Claim7.holds_tied_plain_at .later [] [.data] true (true, "429660d6911cc0ccacbef076adc26eb30b4e23d588f6745475cb68a1ee52b8e9") false
    drawClear_row (fun _ h => by cases h) (by kernel_rfl) (fun _ h => by cases h) drawClear_row_tie rfl ⟨rfl, rfl⟩ (by kernel_rfl) rfl
    (fun f fn hf hfn => by
      obtain rfl : f = 3 := Option.some.inj ((show Tryz.prog.funcNamed "arbor/arborlaw.DrawClear" = some 3 by kernel_rfl).symm.trans hf) |>.symm
      obtain rfl : fn = Tryz.f3 := (Option.some.inj (Tryz.func3.symm.trans hfn)).symm
      exact ⟨by kernel_rfl, fun j t ht => by
        rw [Tryz.params3] at ht
        have hm : t ∈ [24, 25] := by simpa using Array.mem_of_getElem? ht
        have hall : ([24, 25].all fun u => !Tryz.prog.wantsStandIn u) = true := by kernel_rfl
        exact (show Tryz.prog.wantsStandIn t = false by simpa using List.all_eq_true.1 hall t hm)⟩)
    (by kernel_rfl)
end Go.Proofs.YtnboonhlffkimaaGreatDoor
