/- The library contracts that the proof uses, laid at this program: maps.Keys, slices.Sorted and slices.Sort at int. rising: the keys of a map in their order. pieces: what hangs together. Components: the nodes of each. -/
import Derived.Shelf.SlIterI.Sorted
import Derived.Shelf.SortM.Plain
import Derived.Shelf.SortM.SortNone
import Derived.Test.YtnboonhlffkimaaGreatDoorProg
import Derived.Test.YtnboonhlffkimaaGreatDoorSetsM
import Derived.Test.YtnboonhlffkimaaGreatDoorPartsM
namespace Go.Proofs
set_option maxRecDepth 4000
open Go.Shelf
def Tryz.keys71_ren : Go.Shelf.Ren := ⟨fun | 7 => 114 | 10 => 125 | n => n, fun | 23 => 137 | 26 => 3 | 3 => 3 | 28 => 157 | 0 => 0 | 27 => 132 | 33 => 40 | 4 => 4 | n => n, fun | n => n⟩
theorem Tryz.keys71 : Go.Proofs.SlLaysZI.n7 Tryz.prog Tryz.keys71_ren := {
  mixed := by kernel_rfl
  f7 := ⟨Tryz.f114.name, by decide, Tryz.func114.trans (congrArg some (by kernel_rfl))⟩
  f10 := ⟨Tryz.f125.name, by decide, Tryz.func125.trans (congrArg some (by kernel_rfl))⟩
  t0 := Tryz.underlying0
  a0 := Tryz.isAgg0
  z0 := Tryz.sizeOf0
  v0 := Tryz.zeroValue0
  t4 := Tryz.underlying4
  a4 := Tryz.isAgg4
  z4 := Tryz.sizeOf4
  v4 := Tryz.zeroValue4
  t23 := Tryz.underlying137
  a23 := Tryz.isAgg137
  z23 := Tryz.sizeOf137
  v23 := Tryz.zeroValue137
  t26 := Tryz.underlying3
  a26 := Tryz.isAgg3
  z26 := Tryz.sizeOf3
  v26 := Tryz.zeroValue3
  t27 := Tryz.underlying132
  a27 := Tryz.isAgg132
  z27 := Tryz.sizeOf132
  v27 := Tryz.zeroValue132
  t28 := Tryz.underlying157
  a28 := Tryz.isAgg157
  z28 := Tryz.sizeOf157
  v28 := Tryz.zeroValue157
  t33 := Tryz.underlying40
  a33 := Tryz.isAgg40
  z33 := Tryz.sizeOf40
  v33 := Tryz.zeroValue40 }
def Tryz.sorted70_ren : Go.Shelf.Ren := ⟨fun | 6 => 113 | 8 => 123 | 9 => 124 | 11 => 129 | 13 => 131 | 12 => 130 | 23 => 141 | 24 => 142 | 14 => 132 | 15 => 133 | 16 => 134 | 17 => 135 | 18 => 136 | 19 => 137 | 20 => 138 | 21 => 139 | 22 => 140 | 25 => 143 | 26 => 144 | 27 => 145 | 28 => 146 | 29 => 147 | 30 => 64 | 31 => 148 | n => n, fun | 26 => 3 | 28 => 157 | 24 => 62 | 0 => 0 | 3 => 3 | 37 => 153 | 48 => 178 | 50 => 122 | 4 => 4 | 40 => 171 | 39 => 170 | 45 => 175 | 5 => 5 | 9 => 9 | 51 => 179 | 55 => 135 | 57 => 184 | 58 => 85 | 33 => 40 | n => n, fun | n => n⟩
theorem Tryz.sorted70 : Go.Proofs.SlLaysZI.n6 Tryz.prog Tryz.sorted70_ren := {
  mixed := by kernel_rfl
  f6 := ⟨Tryz.f113.name, by decide, Tryz.func113.trans (congrArg some (by kernel_rfl))⟩
  f8 := ⟨Tryz.f123.name, by decide, Tryz.func123.trans (congrArg some (by kernel_rfl))⟩
  f11 := ⟨Tryz.f129.name, by decide, Tryz.func129.trans (congrArg some (by kernel_rfl))⟩
  t0 := Tryz.underlying0
  a0 := Tryz.isAgg0
  z0 := Tryz.sizeOf0
  v0 := Tryz.zeroValue0
  t24 := Tryz.underlying62
  a24 := Tryz.isAgg62
  z24 := Tryz.sizeOf62
  v24 := Tryz.zeroValue62
  t26 := Tryz.underlying3
  a26 := Tryz.isAgg3
  z26 := Tryz.sizeOf3
  v26 := Tryz.zeroValue3
  t28 := Tryz.underlying157
  a28 := Tryz.isAgg157
  z28 := Tryz.sizeOf157
  v28 := Tryz.zeroValue157
  i26 := by kernel_rfl }
def Tryz.sort74_ren : Go.Shelf.Ren := ⟨fun | 5 => 124 | 8 => 131 | 7 => 130 | 19 => 141 | 20 => 142 | 10 => 132 | 11 => 133 | 12 => 134 | 13 => 135 | 14 => 136 | 15 => 137 | 16 => 138 | 17 => 139 | 18 => 140 | 30 => 143 | 31 => 144 | 32 => 145 | 33 => 146 | 34 => 147 | 35 => 64 | 40 => 148 | n => n, fun | 23 => 62 | 25 => 3 | 3 => 3 | 32 => 153 | 22 => 62 | 0 => 0 | 44 => 178 | 46 => 122 | 4 => 4 | 36 => 171 | 35 => 170 | 41 => 175 | 5 => 5 | 9 => 9 | 53 => 179 | 57 => 135 | 63 => 184 | 64 => 85 | n => n, fun | n => n⟩
theorem Tryz.sort74 : Go.Proofs.SlLaysM.n5 Tryz.prog Tryz.sort74_ren := {
  mixed := by kernel_rfl
  f5 := ⟨Tryz.f124.name, by decide, Tryz.func124.trans (congrArg some (by kernel_rfl))⟩
  f7 := ⟨Tryz.f130.name, by decide, Tryz.func130.trans (congrArg some (by kernel_rfl))⟩
  f8 := Tryz.func131.trans (congrArg some (by kernel_rfl))
  f10 := ⟨Tryz.f132.name, by decide, Tryz.func132.trans (congrArg some (by kernel_rfl))⟩
  f11 := ⟨Tryz.f133.name, by decide, Tryz.func133.trans (congrArg some (by kernel_rfl))⟩
  f12 := ⟨Tryz.f134.name, by decide, Tryz.func134.trans (congrArg some (by kernel_rfl))⟩
  f13 := ⟨Tryz.f135.name, by decide, Tryz.func135.trans (congrArg some (by kernel_rfl))⟩
  f14 := ⟨Tryz.f136.name, by decide, Tryz.func136.trans (congrArg some (by kernel_rfl))⟩
  f15 := ⟨Tryz.f137.name, by decide, Tryz.func137.trans (congrArg some (by kernel_rfl))⟩
  f16 := ⟨Tryz.f138.name, by decide, Tryz.func138.trans (congrArg some (by kernel_rfl))⟩
  f17 := ⟨Tryz.f139.name, by decide, Tryz.func139.trans (congrArg some (by kernel_rfl))⟩
  f18 := ⟨Tryz.f140.name, by decide, Tryz.func140.trans (congrArg some (by kernel_rfl))⟩
  f19 := Tryz.func141.trans (congrArg some (by kernel_rfl))
  f20 := Tryz.func142.trans (congrArg some (by kernel_rfl))
  f30 := ⟨Tryz.f143.name, by decide, Tryz.func143.trans (congrArg some (by kernel_rfl))⟩
  f31 := Tryz.func144.trans (congrArg some (by kernel_rfl))
  f32 := Tryz.func145.trans (congrArg some (by kernel_rfl))
  f33 := ⟨Tryz.f146.name, by decide, Tryz.func146.trans (congrArg some (by kernel_rfl))⟩
  f34 := ⟨Tryz.f147.name, by decide, Tryz.func147.trans (congrArg some (by kernel_rfl))⟩
  f35 := ⟨Tryz.f64.name, by decide, Tryz.func64.trans (congrArg some (by kernel_rfl))⟩
  f40 := ⟨Tryz.f148.name, by decide, Tryz.func148.trans (congrArg some (by kernel_rfl))⟩
  t0 := Tryz.underlying0
  a0 := Tryz.isAgg0
  z0 := Tryz.sizeOf0
  v0 := Tryz.zeroValue0
  t3 := Tryz.underlying3
  a3 := Tryz.isAgg3
  z3 := Tryz.sizeOf3
  v3 := Tryz.zeroValue3
  t4 := Tryz.underlying4
  a4 := Tryz.isAgg4
  z4 := Tryz.sizeOf4
  v4 := Tryz.zeroValue4
  t5 := Tryz.underlying5
  a5 := Tryz.isAgg5
  z5 := Tryz.sizeOf5
  v5 := Tryz.zeroValue5
  t9 := Tryz.underlying9
  a9 := Tryz.isAgg9
  z9 := Tryz.sizeOf9
  v9 := Tryz.zeroValue9
  t22 := Tryz.underlying62
  a22 := Tryz.isAgg62
  z22 := Tryz.sizeOf62
  v22 := Tryz.zeroValue62
  t23 := Tryz.underlying62
  a23 := Tryz.isAgg62
  z23 := Tryz.sizeOf62
  v23 := Tryz.zeroValue62
  t25 := Tryz.underlying3
  a25 := Tryz.isAgg3
  z25 := Tryz.sizeOf3
  v25 := Tryz.zeroValue3
  t32 := Tryz.underlying153
  a32 := Tryz.isAgg153
  z32 := Tryz.sizeOf153
  v32 := Tryz.zeroValue153
  t35 := Tryz.underlying170
  a35 := Tryz.isAgg170
  z35 := Tryz.sizeOf170
  v35 := Tryz.zeroValue170
  t36 := Tryz.underlying171
  a36 := Tryz.isAgg171
  z36 := Tryz.sizeOf171
  v36 := Tryz.zeroValue171
  t41 := Tryz.underlying175
  a41 := Tryz.isAgg175
  z41 := Tryz.sizeOf175
  v41 := Tryz.zeroValue175
  t44 := Tryz.underlying178
  a44 := Tryz.isAgg178
  z44 := Tryz.sizeOf178
  v44 := Tryz.zeroValue178
  t46 := Tryz.underlying122
  a46 := Tryz.isAgg122
  z46 := Tryz.sizeOf122
  v46 := Tryz.zeroValue122
  t53 := Tryz.underlying179
  a53 := Tryz.isAgg179
  z53 := Tryz.sizeOf179
  v53 := Tryz.zeroValue179
  t57 := Tryz.underlying135
  a57 := Tryz.isAgg135
  z57 := Tryz.sizeOf135
  v57 := Tryz.zeroValue135
  t63 := Tryz.underlying184
  a63 := Tryz.isAgg184
  z63 := Tryz.sizeOf184
  v63 := Tryz.zeroValue184
  t64 := Tryz.underlying85
  a64 := Tryz.isAgg85
  z64 := Tryz.sizeOf85
  v64 := Tryz.zeroValue85 }
end Go.Proofs

namespace Go.Proofs.YtnboonhlffkimaaGreatDoor
set_option maxRecDepth 4000
open Go.RowKit Go.Maps Go.Sort Go.Shelf

theorem Tryz.sorts70 (m : Nat) : AnyZI.SortsIn Tryz.prog Tryz.sorted70_ren Fence.wide m :=
  ⟨fun blk off cap ss W hH hblk hsz => callsIn_wide.2 (AnyM.slices_Sort_int Tryz.sort74 blk off cap ss W hH hblk hsz),
   fun p cap W => callsIn_wide.2 (AnyM.slices_Sort_int_none Tryz.sort74 p cap W)⟩

theorem Tryz.maps_Keys (mb : Option Nat) (W : World) : CallsIn Fence.wide 5 Tryz.prog 114 #[.map mb] W fun e w' => e = .returned (.func (.func 125) #[] #[.pointer (some ⟨W.heap.size, 0, none⟩)]) ∧ w' = W.alloc (.cells #[.map mb] 137) :=
  AnyZI.keys_in Tryz.keys71 Fence.wide 5 trivial rfl mb W

/-- The numbers below N that S tells, as a list, rising. -/
def listN (N : Nat) (S : Nat → Bool) : List Nat := (List.range N).filter S

theorem listN_sorted {H : Type} {w : World} {R : Value → Option (DataW H × List MemPlace)} {b n N : Nat} {D : DataW H} {S : Nat → Bool} (h : w.ownsMap Tryz.prog 3 R b n D) (hk : ∀ u : Int, I64 u → Maps.has D (.int .i64 u) = (decide (0 ≤ u ∧ u < N) && S u.toNat)) (hN : N ≤ 1000000) {ss : List Int} (hp : ss.Perm (intKeys D)) :
    ss.mergeSort (fun x y => decide (x ≤ y)) = (listN N S).map fun (k : Nat) => (k : Int) := by
  obtain ⟨es, hD, hpw, _⟩ := h.entries Tryz.lawI
  obtain ⟨es', hD', hko⟩ := h.keysOf
  obtain rfl : es = es' := by rw [hD] at hD'; simpa using hD'
  subst hD
  have hmem : ∀ x : Int, x ∈ (listN N S).map (fun (k : Nat) => (k : Int)) ↔ Maps.has (.map es) (.int .i64 x) = true := by
    intro x
    constructor
    · intro hx
      obtain ⟨k, hk', rfl⟩ := List.mem_map.1 hx
      simp [listN] at hk'
      rw [hk k (natI hN hk'.1)]
      simp [hk'.1, hk'.2]
    · intro hx
      have hx' := hx
      rw [has_eq, List.any_eq_true] at hx'
      obtain ⟨p, hp', hs⟩ := hx'
      obtain ⟨v, hv⟩ := hko p hp'
      obtain ⟨y, _, hy, hw⟩ := Maps.keyOf_i64 Tryz.underlying3 hv
      rw [hy] at hs
      have : y = x := by simpa [Lit.sameKey] using hs
      subst this
      rw [hk y ⟨(wf_bounds hw).1, (wf_bounds hw).2⟩] at hx
      simp at hx
      exact List.mem_map.2 ⟨y.toNat, by simp [listN]; exact ⟨by omega, hx.2⟩, by omega⟩
  have hnd : ((listN N S).map (fun (k : Nat) => (k : Int))).Nodup := by
    rw [List.Nodup, List.pairwise_map]
    exact (List.nodup_range.filter _).imp (fun {a b} h e => h (by omega))
  have hperm := perm_intKeys hpw (fun p hp => by obtain ⟨v, hv⟩ := hko p hp; obtain ⟨x, _, hx, _⟩ := Maps.keyOf_i64 Tryz.underlying3 hv; exact ⟨x, hx⟩) hnd hmem
  have e := mergeSort_of_perm_i (hp.trans hperm.symm)
  refine e.trans (List.mergeSort_of_pairwise ?_)
  rw [List.pairwise_map]
  refine List.Pairwise.imp (R := fun a b => a < b) (fun {a b} h => by simp; omega) ?_
  exact List.Pairwise.filter _ List.pairwise_lt_range

set_option maxHeartbeats 1000000 in
theorem rising_call {w : World} {b N : Nat} {F : Nat → Option Nat} (h : FarAt w b N F) (hN : N ≤ 1000000) :
    Calls Tryz.prog 95 #[.map (some b)] w fun e w' => ∃ v, e = .returned v ∧ w'.ownsRow w.heap.size 3 1 v (listN N (fun k => (F k).isSome)).length (qv (listN N (fun k => (F k).isSome))) ∧ Below w.heap.size w w' := by
  obtain ⟨D, hown, hhas, _⟩ := h
  have hsz := hown.size_le
  refine (callsIn_wide (n := 6)).1 ?_
  have hbl := hown.lt
  have hseq : SeqGives Fence.wide 2 Tryz.prog 125 #[.pointer (some ⟨w.heap.size, 0, none⟩)] encZ (fun ss => ss.Perm (intKeys D)) (Maps.size D) (w.alloc (.cells #[.map (some b)] 137)) :=
    AnyZI.keys_gives (ρ := Tryz.keys71_ren) { Tryz.keys71 with } Fence.wide _ trivial rfl (by omega) w.heap.size b N D _ (by simp) (by simp) (by
      obtain ⟨es, clock, hb, Ft, hs, hD⟩ := hown
      exact ⟨es, clock, (Below.heap_alloc _ _ b hbl).trans hb, Ft, hs, hD⟩)
  have cS := AnyZI.sorted_in Tryz.sorted70 Fence.wide 5 trivial trivial trivial trivial rfl (by omega) (Tryz.sorts70 _) (enters_of Tryz.func124 (by kernel_rfl) rfl) 125 #[.pointer (some ⟨w.heap.size, 0, none⟩)] trivial (enters_of Tryz.func125 (by kernel_rfl) rfl) _ _ (by unfold maxLen; omega) (by omega) _ hseq
  change CallsIn _ _ Tryz.prog 113 _ _ _ at cS
  have hfK : Fence.wide.fn 114 := trivial
  have hfS : Fence.wide.fn 113 := trivial
  refine callsIn_of_wp Tryz.func95 rfl trivial ?_ rfl
  simp only [Tryz.ntmps95, List.size_toArray, List.length_cons, List.length_nil, Nat.reduceAdd, Nat.reduceSub, Array.replicate_succ, Array.replicate_zero, List.push_toArray, List.append_toArray, List.nil_append, List.cons_append]
  gi_wp2_with (first
    | (gi_at_call 114; refine (Tryz.maps_Keys _ _).mono ?_; rintro e w' ⟨rfl, rfl⟩)
    | (gi_at_call 113; refine cS.mono ?_; rintro e w' ⟨v, ss, rfl, hS, hrow, hnil, hb⟩))
  go_ret
  have e1 := listN_sorted (S := fun k => (F k).isSome) hown hhas hN hS
  have e2 : ss.length = (listN N (fun k => (F k).isSome)).length := by
    have := congrArg List.length e1
    simpa using this
  rw [e1, e2] at hrow
  refine ⟨v, rfl, ?_, ((Below.refl _ w).alloc (Nat.le_refl _) _).trans (hb.mono (by simp))⟩
  have := ownsRow_base_a hrow (show w.heap.size ≤ _ by simp)
  rw [List.map_map] at this
  exact this
end Go.Proofs.YtnboonhlffkimaaGreatDoor

namespace Go.Proofs.YtnboonhlffkimaaGreatDoor
set_option maxRecDepth 4000
open Go.RowKit Go.Maps
attribute [local go_sem ↓] Go.wp_at_zero Go.wp_at_succ

/- mathematics -/
theorem St.back {N : Nat} {e : Nat → Nat → Bool} {L : Nat → Bool} (hs : ∀ a b, a < N → b < N → e a b = true → e b a = true) {a b : Nat} (h : Star (St N e L) a b) (ha : a < N) (hL : L a = true) : Star (St N e L) b a ∧ b < N ∧ L b = true :=
  Star.ind (P := fun b => Star (St N e L) b a ∧ b < N ∧ L b = true) ⟨.refl _, ha, hL⟩ (fun _ _ _ h1 ih => ⟨Star.head ⟨ih.2.1, hs _ _ ih.2.1 h1.1 h1.2.1, ih.2.2⟩ ih.1, h1.1, h1.2.2⟩) h

def leftTo (L : Nat → Bool) (R : Nat → Nat → Bool) (k x : Nat) : Bool := L x && !((List.range k).any fun u => L u && R u x)
theorem leftTo_iff {L : Nat → Bool} {R : Nat → Nat → Bool} {k x : Nat} : leftTo L R k x = true ↔ L x = true ∧ ∀ u, u < k → L u = true → R u x = false := by
  simp [leftTo]
theorem leftTo_self (L : Nat → Bool) (R : Nat → Nat → Bool) (k : Nat) : leftTo L R k k = firstB L R k := by
  rw [Bool.eq_iff_iff, leftTo_iff, firstB_iff]

section
variable {N : Nat} {e : Nat → Nat → Bool} {L : Nat → Bool} {R : Nat → Nat → Bool}

theorem first_class (hs : ∀ a b, a < N → b < N → e a b = true → e b a = true) (hR : ∀ v x, R v x = true ↔ Star (St N e L) v x) {k : Nat} (hk : k < N) (hf : firstB L R k = true) (x : Nat) : Star (St N e (leftTo L R k)) k x ↔ R k x = true := by
  rw [hR]
  have hf' := firstB_iff.1 hf
  constructor
  · exact Star.mono fun a b h => ⟨h.1, h.2.1, (leftTo_iff.1 h.2.2).1⟩
  · intro h
    refine (Star.within (P := fun y => Star (St N e L) k y) (f := St N e (leftTo L R k)) (fun a b ha hab => ⟨ha.step hab, hab.1, hab.2.1, leftTo_iff.2 ⟨hab.2.2, fun u hu hl => ?_⟩⟩) h (.refl _)).2
    cases hub : R u b
    · rfl
    · have h1 := (hR u b).1 hub
      have h2 := (St.back hs (ha.step hab) hk hf'.1).1
      have := (hR u k).2 (h1.trans h2)
      rw [hf'.2 u hu hl] at this
      cases this

theorem leftTo_first {k : Nat} (hf : firstB L R k = true) (x : Nat) : leftTo L R (k + 1) x = (leftTo L R k x && !R k x) := by
  have hf' := firstB_iff.1 hf
  unfold leftTo
  rw [List.range_succ, List.any_append]
  simp only [List.any_cons, List.any_nil, hf'.1, Bool.true_and, Bool.or_false, Bool.not_or, Bool.and_assoc]
theorem leftTo_rest {k : Nat} (hR : ∀ v x, R v x = true ↔ Star (St N e L) v x) (hf : firstB L R k = false) (x : Nat) : leftTo L R (k + 1) x = leftTo L R k x := by
  rw [Bool.eq_iff_iff, leftTo_iff, leftTo_iff]
  constructor
  · rintro ⟨h1, h2⟩; exact ⟨h1, fun u hu => h2 u (by omega)⟩
  · rintro ⟨h1, h2⟩
    refine ⟨h1, fun u hu hl => ?_⟩
    by_cases e1 : u = k
    · subst e1
      cases hx : R u x
      · rfl
      · exfalso
        have : firstB L R u = true := by
          rw [firstB_iff]
          refine ⟨hl, fun y hy hly => ?_⟩
          cases hyu : R y u
          · rfl
          · have := (hR y x).2 (((hR y u).1 hyu).trans ((hR u x).1 hx))
            rw [h2 y hy hly] at this
            cases this
        rw [hf] at this
        cases this
    · exact h2 u (by omega) hl
end

/-- A slice of slices of numbers, all of its own. -/
def ListsAt (w : World) (base : Nat) (v : Value) (ls : List (List Nat)) : Prop :=
  ∃ vs : List Value, vs.length = ls.length ∧ w.ownsRow base 62 1 v ls.length vs ∧ ∀ (i : Nat) (x : Value) (l : List Nat), vs[i]? = some x → ls[i]? = some l → w.ownsRow base 3 1 x l.length (qv l)

theorem listsAt_nil (w : World) (base : Nat) : ListsAt w base (.slice none 0 0) [] := ⟨[], rfl, World.ownsRow_nil _ _ _ _, fun i x l h => by simp at h⟩
theorem ListsAt.form {w : World} {base : Nat} {v : Value} {ls : List (List Nat)} (h : ListsAt w base v ls) : ∃ ao cap, v = .slice ao ls.length cap := by
  obtain ⟨vs, _, h2, _⟩ := h
  exact form_row h2
theorem ListsAt.turns {M : Nat → Prop} {w w' : World} {base : Nat} {v : Value} {ls : List (List Nat)} (h : ListsAt w base v ls) (ht : Turns M w w') (hm : ∀ k, M k → k < base ∨ ∃ es c, w.heap[k]? = some (.map es c)) : ListsAt w' base v ls := by
  obtain ⟨vs, h1, h2, h3⟩ := h
  have key : ∀ {t : TypeId} {x : Value} {n : Nat} {xs : List Value}, w.ownsRow base t 1 x n xs → w'.ownsRow base t 1 x n xs := by
    intro t x n xs ho
    refine ownsRow_blocks ho fun b hb => ht.block b (ho.lt b hb).2 fun hmb => ?_
    rcases hm b hmb with h' | ⟨es, c, h'⟩
    · have := (ho.lt b hb).1; omega
    · obtain ⟨cur, hc⟩ := own_cells ho hb
      rw [hc] at h'; cases h'
  exact ⟨vs, h1, key h2, fun i x l hx hl => key (h3 i x l hx hl)⟩
theorem ListsAt.push {w w1 : World} {base : Nat} {v v' : Value} {ls : List (List Nat)} {x : Value} {l : List Nat} {o : Obj} (hx : w.ownsRow base 3 1 x l.length (qv l)) {vs : List Value} (hvs : vs.length = ls.length) (hrow : w.ownsRow base 62 1 v ls.length vs)
    (hel : ∀ (i : Nat) (x : Value) (l : List Nat), vs[i]? = some x → ls[i]? = some l → w.ownsRow base 3 1 x l.length (qv l)) (hown : w1.ownsRow base 62 1 v' (ls.length + 1) (vs ++ [x])) (hg : (w.alloc o).grownBy w1 v.ownBlock) : ListsAt w1 base v' (ls ++ [l]) := by
  have T := (alloc_turns w o (fun k => some k = v.ownBlock)).trans (Turns.of_grown hg)
  have key : ∀ {x : Value} {n : Nat} {xs : List Value}, w.ownsRow base 3 1 x n xs → w1.ownsRow base 3 1 x n xs := by
    intro x n xs ho
    refine ownsRow_blocks ho fun b hb => T.block b (ho.lt b hb).2 fun hmb => ?_
    obtain ⟨c1, h1⟩ := own_cells ho hb
    obtain ⟨c2, h2⟩ := own_cells hrow hmb.symm
    rw [h1] at h2; simp at h2
  refine ⟨vs ++ [x], by simp [hvs], by simpa using hown, fun i y m hy hm => ?_⟩
  by_cases hi : i < ls.length
  · rw [List.getElem?_append_left (by omega)] at hy hm
    exact key (hel i y m hy hm)
  · rw [List.getElem?_append_right (by omega)] at hy hm
    by_cases h0 : i - ls.length = 0
    · rw [hvs, h0] at hy; rw [h0] at hm
      simp at hy hm
      subst hy; subst hm
      exact key hx
    · rw [List.getElem?_eq_none (by simp; omega)] at hm; cases hm

theorem piecesTo_le (n : Nat) (L : Nat → Bool) (R : Nat → Nat → Bool) (k : Nat) : (piecesTo n L R k).length ≤ k := by
  unfold piecesTo
  rw [List.length_map]
  exact Nat.le_trans (List.length_filter_le _ _) (by simp)
theorem listN_class {N : Nat} {R : Nat → Nat → Bool} {k : Nat} {Q : List Nat} {d : Nat → Nat} (h : ∀ x, x ∈ Q ↔ R k x = true) : listN N (fun x => (farF Q d x).isSome) = classL N R k := by
  unfold listN classL
  refine List.filter_congr fun x _ => ?_
  unfold farF
  rw [Bool.eq_iff_iff, ← h x]
  by_cases hx : x ∈ Q <;> simp [hx]

set_option maxHeartbeats 2000000 in
theorem pieces_call {w : World} {bL N : Nat} {ao : Option Addr} {cap : Nat} {bl : Nat → Nat} {e : Nat → Nat → Bool} {L : Nat → Bool} (hnear : NearsAt w ao N bl e) (hleft : SetN w bL N L) (hne : ∀ i, i < N → bl i ≠ bL) (hN : N ≤ 1000)
    (hs : ∀ a b, a < N → b < N → e a b = true → e b a = true) (R : Nat → Nat → Bool) (hR : ∀ v x, R v x = true ↔ Star (St N e L) v x) :
    Calls Tryz.prog 80 #[.slice ao N cap, .map (some bL)] w fun r w' => ∃ v, r = .returned v ∧ ListsAt w' w.heap.size v (piecesS N L R) ∧ Turns (fun k => k = bL) w w' := by
  obtain ⟨i0, hi, hz0, hz1, hz2⟩ := info_parts Tryz.info62
  have hN6 : N ≤ 1000000 := by omega
  have hgB : ∀ i, i < N → bl i < w.heap.size ∧ bl i ≠ bL := fun i hi => ⟨(hnear.sets i hi).lt, hne i hi⟩
  have hLlt := hleft.lt
  have HR : Hid _ := hR
  have HS : Hid _ := hs
  have HL : Hid _ := hleft
  have HN : Hid _ := hnear
  clear hR hs hleft hnear
  go_enter Tryz.func80, Tryz.ntmps80
  go_wp2
  go_loopw [5, 9] (fun v i wr => ∃ k : Nat, k ≤ N ∧ i = .int .i64 (k : Int) ∧ ListsAt wr w.heap.size v (piecesTo N L R k) ∧ SetN wr bL N (leftTo L R k) ∧ NearsAt wr ao N bl e ∧ Turns (fun k => k = bL) w wr) (fun _ i _ => N - (numOf i).toNat)
  case atStart => exact ⟨0, Nat.zero_le _, rfl, listsAt_nil _ _, SetN.congr HL.out (fun k _ => by simp [leftTo]), HN.out, Turns.refl _ _⟩
  case round =>
    obtain ⟨k, hk, rfl, hls, hset, hnr, htw⟩ := hrel
    obtain ⟨vo, vc, rfl⟩ := hls.form
    have hle := piecesTo_le N L R k
    have hsw := htw.size
    by_cases hlt : k < N
    · by_cases hf : firstB L R k = true
      · have hgG : ∀ g, ao = some ⟨g, 0, none⟩ → g < w.heap.size ∧ g ≠ bL := by
          intro g hg
          obtain ⟨g', e1, c⟩ := NearsAt.row HN.out k hlt
          rw [hg] at e1; cases e1
          have h1 := World.block_lt_of_cell? w _ c
          have h2 := not_map c HL.out
          exact ⟨h1, h2⟩
        have HF : Hid _ := hf
        have HG : Hid _ := hgG
        have HB : Hid _ := hgB
        have HW : Hid _ := htw
        clear hf hgG hgB htw
        go_wp2_with (first
          | (go_at_call 94; refine (has_as hset hN6 hlt ((leftTo_self L R k).trans HF.out)).mono ?_; rintro r1 w1 ⟨rfl, hb1⟩)
          | (go_at_call 96; refine (take_call (hnr.below hb1) (hset.below hb1 hset.lt) hne hN hlt).mono ?_; rintro r2 w2 ⟨bF, Q, d, rfl, hbfs, hfar, hset2, hbF, ht2⟩)
          | (go_at_call 95; refine (rising_call hfar hN6).mono ?_; rintro r3 w3 ⟨v3, rfl, hrow3, hb3⟩; obtain ⟨ro, rc, rfl⟩ := form_row hrow3; have hs1 := hb1.size; have hs2 := ht2.size; have T3 : Turns (fun k => k = bL) wr w3 := ((Turns.of_below hb1 _).trans ht2).trans (Turns.of_below hb3 _); have hls3 := hls.turns T3 (fun k hk => Or.inl (by omega)); obtain ⟨vs, hvs, hrow, hel⟩ := hls3)
          | (at_builtin; refine wpList_append_own _ rfl _ _ 78 rfl w.heap.size 62 i0 (.slice none 0 0) 1 24 Tryz.underlying78 hi hz0 hz1 hz2 rfl (by decide) _ _ _ rfl (hrow.alloc _) ⟨w3.heap.size, 0, none⟩ 1 1 [.slice ro (listN N fun k => (farF Q d k).isSome).length rc] rfl rfl ?n1 ?n2 ?n3 ?n4 ?n5 ?_)
          | go_in)
        case n1 => exact cell_one_new _ _ _
        case n2 => first | rfl | (intro y hy; simp at hy; subst hy; rfl)
        case n3 => unfold maxLen; omega
        case n4 => omega
        case n5 => have := hb3.size; simp; omega
        intro v' w4 hown' hgrow _
        have hQ : ∀ x, x ∈ Q ↔ R k x = true := fun x => (hbfs.reach x).trans (first_class HS.out HR.out hlt HF.out x)
        have ecl := listN_class (N := N) (d := d) hQ
        have hx3 := ownsRow_mono hrow3 (b' := w.heap.size) (by omega)
        have hls4 := ListsAt.push (l := listN N fun k => (farF Q d k).isSome) hx3 hvs hrow hel hown' hgrow
        have T4 := (alloc_turns w3 (Obj.cells #[.slice ro (listN N fun k => (farF Q d k).isSome).length rc] 62) _).trans (Turns.of_grown hgrow)
        have hM : ∀ j, some j = (Value.slice vo (piecesTo N L R k).length vc).ownBlock → w.heap.size ≤ j := fun j hj => (hrow.lt j hj.symm).1
        have hset4 := (hset2.below hb3 hset2.lt).turns T4 (fun h' => by have := hM _ h'; omega)
        have hnr3 := hnr.turns T3 (fun i hi => (HB.out i hi).2) (fun g hg => (HG.out g hg).2)
        have hnr4 := hnr3.turns T4 (fun i hi h' => by have := hM _ h'; have := (HB.out i hi).1; omega) (fun g hg h' => by have := hM _ h'; have := (HG.out g hg).1; omega)
        have htw4 := (Turns.trans HW.out T3).after T4 (fun j hj => Or.inr (hM j hj))
        rw [ecl] at hls4
        have HLS : Hid _ := hls4
        clear hls4 hown' hgrow T4 hM hls hrow hrow3 hel hfar hset2 ht2 hb1 hb3 T3 hx3
        go_wp2
        go_roundw
        case rel =>
          refine ⟨k + 1, by omega, by go_num, by rw [piecesTo_succ, if_pos HF.out]; exact HLS.out, hset4.congr (fun x _ => ?_), hnr4, htw4⟩
          rw [leftTo_first HF.out]
          unfold leftF
          have := hQ x
          cases hx : R k x
          · rw [hx] at this; simp [this]
          · rw [hx] at this; simp [this]
        case measure => simp [numOf]; omega
      · have hf' : firstB L R k = false := by simpa using hf
        have HF : Hid _ := hf'
        clear hf hf'
        go_wp2_with (first
          | (go_at_call 94; refine (has_as hset hN6 hlt ((leftTo_self L R k).trans HF.out)).mono ?_; rintro r1 w1 ⟨rfl, hb1⟩)
          | go_in)
        go_roundw
        case rel => exact ⟨k + 1, by omega, by go_num, by rw [piecesTo_succ, if_neg (by rw [HF.out]; decide), List.append_nil]; exact hls.turns (Turns.of_below hb1 (fun _ => False)) (fun _ h => h.elim), (hset.below hb1 hset.lt).congr (fun x _ => (leftTo_rest HR.out HF.out x).symm), hnr.below hb1, htw.trans (Turns.of_below hb1 _)⟩
        case measure => simp [numOf]; omega
    · have : k = N := by omega
      subst this
      go_wp2
      go_ret
      exact ⟨_, rfl, hls, htw⟩
end Go.Proofs.YtnboonhlffkimaaGreatDoor

namespace Go.Proofs.YtnboonhlffkimaaGreatDoor
set_option maxRecDepth 4000
open Go.RowKit Go.Maps
attribute [local go_sem ↓] Go.wp_at_zero Go.wp_at_succ

theorem two_new1 (w : World) (o : Obj) (x y : Value) (t : TypeId) : Two ((w.alloc o).alloc (Obj.cells #[x, y] t)) (w.heap.size + 1) x y t := by
  simpa [Two] using heap_alloc_new (w.alloc o) (Obj.cells #[x, y] t)

theorem bothB_symm (es : List Pair) (m : Nat) : ∀ a b, a < m → b < m → bothB es a b = true → bothB es b a = true := fun a b _ _ h => by unfold bothB at *; rw [hasB_comm]; exact h

set_option maxHeartbeats 400000 in
theorem components_bad (n : Int) (v : Value) (es : List Pair) (w : World) (hE : EdgesAt w v es) (hc : (chk n es).1 ≠ 0) :
    Calls Tryz.prog 65 #[.agg #[.int .i64 n, v]] w fun r w' => r = .returned (.tuple #[.slice none 0 0, .agg #[.int .i64 (chk n es).1, .int .i64 (chk n es).2]]) ∧ Below w.heap.size w w' := by
  have hc1 : ((chk n es).1 != 0) = true := by simpa using hc
  go_enter Tryz.func65, Tryz.ntmps65
  go_wp2_with (go_at_call 12; refine (check_any n v es _ ?_).mono ?_; exact hE.below (below2 _ _); rintro e w1 ⟨rfl, hb⟩; obtain ⟨bc, bf, bc1, bf1, bc2, bf2⟩ := bcell hb; have hz := hb.size; simp at hz)
  go_region
  go_wp2
  refine bodyPost_ret (v := .tuple #[.slice none 0 0, .agg #[.int .i64 (chk n es).1, .int .i64 (chk n es).2]]) ?_ rfl ⟨rfl, ?_⟩
  · simp [results, Tryz.results65, go_sem, bc1]
  · exact (((below_alloc (below_next (below2 _ _) hb) _).setCell (by simp) _).setCell (by simp) _).drew

theorem ListsAt.mono {w : World} {base base' : Nat} {v : Value} {ls : List (List Nat)} (h : ListsAt w base v ls) (hb : base' ≤ base) : ListsAt w base' v ls := by
  obtain ⟨vs, h1, h2, h3⟩ := h
  exact ⟨vs, h1, ownsRow_mono h2 hb, fun i x l hx hl => ownsRow_mono (h3 i x l hx hl) hb⟩

/-- What is held while a region goes on: an old box, and one for the fault that is answered. -/
def HeldC (w : World) (b1 b3 : Nat) (x y : Value) (wz : World) : Prop :=
  Below w.heap.size w wz ∧ Two wz b1 x y 24 ∧ Two wz b3 (.int .i64 0) (.int .i64 0) 28 ∧ wz.cell? ⟨b1, 0, none⟩ = some x ∧ wz.cell? ⟨b1, 1, none⟩ = some y ∧ wz.cell? ⟨b3, 0, none⟩ = some (.int .i64 0) ∧ wz.cell? ⟨b3, 1, none⟩ = some (.int .i64 0) ∧ wz.frozen? ⟨b3, 0, none⟩ = false ∧ wz.frozen? ⟨b3, 1, none⟩ = false
theorem heldC_mk {w wz : World} {b1 b3 : Nat} {x y : Value} (hb : Below w.heap.size w wz) (t1 : Two wz b1 x y 24) (t3 : Two wz b3 (.int .i64 0) (.int .i64 0) 28) : HeldC w b1 b3 x y wz :=
  ⟨hb, t1, t3, (cell_two t1).1, (cell_two t1).2, (cell_two t3).1, (cell_two t3).2, free_two t3 0, free_two t3 1⟩
theorem two_zero {w : World} {b : Nat} {t : TypeId} (h : Two w b (.int .i64 0) (.int .i64 0) t) : Two ((w.setCell ⟨b, 0, none⟩ (.int .i64 0)).setCell ⟨b, 1, none⟩ (.int .i64 0)) b (.int .i64 0) (.int .i64 0) t := by
  have hl := lt_of_block h
  unfold Two at h ⊢
  simp [World.setCell, Array.getElem?_modify, h]
theorem heldC_set {w wz : World} {b1 b3 : Nat} {x y : Value} (hne : b1 ≠ b3) (h3 : w.heap.size ≤ b3) (hb : Below w.heap.size w wz) (t1 : Two wz b1 x y 24) (t3 : Two wz b3 (.int .i64 0) (.int .i64 0) 28) : HeldC w b1 b3 x y ((wz.setCell ⟨b3, 0, none⟩ (.int .i64 0)).setCell ⟨b3, 1, none⟩ (.int .i64 0)) :=
  heldC_mk ((hb.setCell h3 _).setCell h3 _) (two_far (two_far t1 hne) hne) (two_zero t3)
set_option maxHeartbeats 1000000 in
theorem components_ok (m : Nat) (ao : Option Addr) (cap : Nat) (es : List Pair) (w : World) (hE : EdgesAt w (.slice ao es.length cap) es) (hc : (chk m es).1 = 0) (R : Nat → Nat → Bool) (hR : ∀ v x, R v x = true ↔ Star (St m (bothB es) allB) v x) :
    Calls Tryz.prog 65 #[.agg #[.int .i64 (m : Int), .slice ao es.length cap]] w fun r w' => ∃ v', r = .returned (.tuple #[v', .agg #[.int .i64 0, .int .i64 0]]) ∧ ListsAt w' w.heap.size v' (piecesS m allB R) ∧ Below w.heap.size w w' := by
  have hc1 : ((chk m es).1 != 0) = false := by simpa using hc
  obtain ⟨hck, hn0, hn1, hl, hgood⟩ := chk_good hc
  have HG : Hid _ := hgood
  have HR : Hid _ := hR
  have HE : Hid _ := hE
  have hm : m ≤ 100 := by omega
  clear hgood hR hE hn0 hn1
  go_enter Tryz.func65, Tryz.ntmps65
  go_upto_region 4 with (go_at_call 12; refine (check_any m _ es _ ?_).mono ?_; exact EdgesAt.below HE.out (below2 _ _); rintro e w1 ⟨rfl, hb⟩; obtain ⟨bc, bf, bc1, bf1, bc2, bf2⟩ := bcell hb; have hz := hb.size; simp at hz)
  have t1 : Two (w1.alloc (Obj.cells #[.int .i64 0, .int .i64 0] 28)) w.heap.size (.int .i64 (m : Int)) (.slice ao es.length cap) 24 := two_alloc (two_next (two_alloc (two_new w _ _ _) _) hb) _
  have t3 : Two (w1.alloc (Obj.cells #[.int .i64 0, .int .i64 0] 28)) (w.heap.size + 1) (.int .i64 0) (.int .i64 0) 28 := two_alloc (two_next (two_new1 w _ _ _ _) hb) _
  have hB := below_alloc (below_next (below2 _ _) hb) (Obj.cells #[.int .i64 0, .int .i64 0] 28)
  generalize w1.alloc (Obj.cells #[.int .i64 0, .int .i64 0] 28) = W at t1 t3 hB ⊢
  clear bc bf bc1 bf1 bc2 bf2 hz hb hc1
  go_region_held3 (fun wz => Below w.heap.size w wz ∧ Two wz w.heap.size (.int .i64 (m : Int)) (.slice ao es.length cap) 24 ∧ Two wz (w.heap.size + 1) (.int .i64 0) (.int .i64 0) 28 ∧ wz.cell? ⟨w.heap.size, 0, none⟩ = some (.int .i64 (m : Int)) ∧ wz.cell? ⟨w.heap.size, 1, none⟩ = some (.slice ao es.length cap) ∧ wz.cell? ⟨w.heap.size + 1, 0, none⟩ = some (.int .i64 0) ∧ wz.cell? ⟨w.heap.size + 1, 1, none⟩ = some (.int .i64 0) ∧ wz.frozen? ⟨w.heap.size + 1, 0, none⟩ = false ∧ wz.frozen? ⟨w.heap.size + 1, 1, none⟩ = false)
    (first | assumption | exact heldC_mk hB.drew t1 t3 | (go_split_ands; exact heldC_mk (below_next (by assumption) hbk) (two_next (by assumption) hbk) (two_next (by assumption) hbk)) | (go_split_ands; exact heldC_mk hbP tP1 tP3) | (go_split_ands; exact heldC_set (by omega) (by omega) (by assumption) (by assumption) (by assumption)))
    ((first
      | (go_at_call 81; go_split_ands; refine (bothWays_call m _ es _ ?_ (by omega) ?_).mono ?_; exact EdgesAt.below HE.out (by assumption); exact fun e he => (HG.out e he).1; rintro r wa ⟨na, rfl, hna, bl, hN1, hbl, hbk⟩; have hbA := below_next hB.drew hbk; have tA1 := two_next (W := W.drew) t1 hbk; have tA3 := two_next (W := W.drew) t3 hbk)
      | (go_at_call 82; refine (all_call m _ (by omega)).mono ?_; rintro r wb ⟨bL, rfl, hbL, hS1, hbk⟩; have hN2 := hN1.below hbk; have hbW := below_next hbA hbk; have tW1 := two_next tA1 hbk; have tW3 := two_next tA3 hbk)
      | (go_at_call 80; go_split_ands; refine (pieces_call hN2 (hS1.congr (T := allB) (fun _ _ => rfl)) (fun i hi e => by have := (hN1.sets i hi).lt; omega) (by omega) (bothB_symm es m) R HR.out).mono ?_; rintro r wc ⟨vp, rfl, hls, htc⟩; have hbP := htc.below hbW hbW.size (fun k hk => by have := hbA.size; omega); have hlA := lt_of_block tA3; have tP1 := two_turns tW1 htc (by omega); have tP3 := two_turns tW3 htc (by omega); obtain ⟨po, pc, rfl⟩ := hls.form)))
  all_goals
    go_split_ands
    go_wp2
    refine bodyPost_ret (v := .tuple #[.slice po (piecesS m allB R).length pc, .agg #[.int .i64 0, .int .i64 0]]) ?_ rfl ⟨_, rfl, ?_, ?_⟩
    · simp [results, Tryz.results65, go_sem, *]
    · have hlb := lt_of_block tW3
      exact ((hls.turns (setCell_turns _ _ _ _) (fun k hk => Or.inl (by omega))).turns (setCell_turns _ _ _ _) (fun k hk => Or.inl (by omega))).mono hbW.size
    · exact (hbP.setCell (by simp) _).setCell (by simp) _
end Go.Proofs.YtnboonhlffkimaaGreatDoor
