/- rising: the keys of a map in their order. -/
import Derived.Test.YtmeodnkmhakidaaKeys
import Derived.Test.YtmeodnkmhakidaaTake
namespace Go.Proofs.Ytmeodnkmhakidaa
set_option maxRecDepth 4000
open Go.RowKit Go.Maps Go.Sort Go.Shelf

theorem Try.sorts70 (m : Nat) : AnyZI.SortsIn Try.prog Try.sorted70_ren Fence.wide m :=
  ⟨fun blk off cap ss W hH hblk hsz => callsIn_wide.2 (AnyM.slices_Sort_int Try.sort74 blk off cap ss W hH hblk hsz),
   fun p cap W => callsIn_wide.2 (AnyM.slices_Sort_int_none Try.sort74 p cap W)⟩

theorem Try.maps_Keys (mb : Option Nat) (W : World) : CallsIn Fence.wide 5 Try.prog 46 #[.map mb] W fun e w' => e = .returned (.func (.func 49) #[] #[.pointer (some ⟨W.heap.size, 0, none⟩)]) ∧ w' = W.alloc (.cells #[.map mb] 71) :=
  AnyZI.keys_in Try.keys71 Fence.wide 5 trivial rfl mb W

/-- The numbers below N that S tells, as a list, rising. -/
def listN (N : Nat) (S : Nat → Bool) : List Nat := (List.range N).filter S

theorem listN_sorted {H : Type} {w : World} {R : Value → Option (DataW H × List MemPlace)} {b n N : Nat} {D : DataW H} {S : Nat → Bool} (h : w.ownsMap Try.prog 3 R b n D) (hk : ∀ u : Int, I64 u → Maps.has D (.int .i64 u) = (decide (0 ≤ u ∧ u < N) && S u.toNat)) (hN : N ≤ 1000000) {ss : List Int} (hp : ss.Perm (intKeys D)) :
    ss.mergeSort (fun x y => decide (x ≤ y)) = (listN N S).map fun (k : Nat) => (k : Int) := by
  obtain ⟨es, hD, hpw, _⟩ := h.entries Try.lawI
  obtain ⟨es', hD', hko⟩ := h.keysOf
  obtain rfl : es = es' := by rw [hD] at hD'; simpa using hD'
  subst hD
  have hmem : ∀ x : Int, x ∈ (listN N S).map (fun (k : Nat) => (k : Int)) ↔ Maps.has (.map es) (.int .i64 x) = true := by
    intro x
    constructor
    · intro hx
      obtain ⟨k, hk', rfl⟩ := List.mem_map.1 hx
      simp [listN] at hk'
      rw [hk k (natI hN hk'.1)]
      simp [hk'.1, hk'.2]
    · intro hx
      have hx' := hx
      rw [has_eq, List.any_eq_true] at hx'
      obtain ⟨p, hp', hs⟩ := hx'
      obtain ⟨v, hv⟩ := hko p hp'
      obtain ⟨y, _, hy, hw⟩ := Maps.keyOf_i64 Try.underlying3 hv
      rw [hy] at hs
      have : y = x := by simpa [Lit.sameKey] using hs
      subst this
      rw [hk y ⟨(wf_bounds hw).1, (wf_bounds hw).2⟩] at hx
      simp at hx
      exact List.mem_map.2 ⟨y.toNat, by simp [listN]; exact ⟨by omega, hx.2⟩, by omega⟩
  have hnd : ((listN N S).map (fun (k : Nat) => (k : Int))).Nodup := by
    rw [List.Nodup, List.pairwise_map]
    exact (List.nodup_range.filter _).imp (fun {a b} h e => h (by omega))
  have hperm := perm_intKeys hpw (fun p hp => by obtain ⟨v, hv⟩ := hko p hp; obtain ⟨x, _, hx, _⟩ := Maps.keyOf_i64 Try.underlying3 hv; exact ⟨x, hx⟩) hnd hmem
  have e := mergeSort_of_perm_i (hp.trans hperm.symm)
  refine e.trans (List.mergeSort_of_pairwise ?_)
  rw [List.pairwise_map]
  refine List.Pairwise.imp (R := fun a b => a < b) (fun {a b} h => by simp; omega) ?_
  exact List.Pairwise.filter _ List.pairwise_lt_range

set_option maxHeartbeats 1000000 in
theorem rising_call {w : World} {b N : Nat} {F : Nat → Option Nat} (h : FarAt w b N F) (hN : N ≤ 1000000) :
    Calls Try.prog 35 #[.map (some b)] w fun e w' => ∃ v, e = .returned v ∧ w'.ownsRow w.heap.size 3 1 v (listN N (fun k => (F k).isSome)).length (qv (listN N (fun k => (F k).isSome))) ∧ Below w.heap.size w w' := by
  obtain ⟨D, hown, hhas, _⟩ := h
  have hsz := hown.size_le
  refine (callsIn_wide (n := 6)).1 ?_
  have hbl := hown.lt
  have hseq : SeqGives Fence.wide 2 Try.prog 49 #[.pointer (some ⟨w.heap.size, 0, none⟩)] encZ (fun ss => ss.Perm (intKeys D)) (Maps.size D) (w.alloc (.cells #[.map (some b)] 71)) :=
    AnyZI.keys_gives (ρ := Try.keys71_ren) { Try.keys71 with } Fence.wide _ trivial rfl (by omega) w.heap.size b N D _ (by simp) (by simp) (by
      obtain ⟨es, clock, hb, Ft, hs, hD⟩ := hown
      exact ⟨es, clock, (Below.heap_alloc _ _ b hbl).trans hb, Ft, hs, hD⟩)
  have cS := AnyZI.sorted_in Try.sorted70 Fence.wide 5 trivial trivial trivial trivial rfl (by omega) (Try.sorts70 _) (enters_of Try.func48 (by kernel_rfl) rfl) 49 #[.pointer (some ⟨w.heap.size, 0, none⟩)] trivial (enters_of Try.func49 (by kernel_rfl) rfl) _ _ (by unfold maxLen; omega) (by omega) _ hseq
  change CallsIn _ _ Try.prog 45 _ _ _ at cS
  have hfK : Fence.wide.fn 46 := trivial
  have hfS : Fence.wide.fn 45 := trivial
  refine callsIn_of_wp Try.func35 rfl trivial ?_ rfl
  simp only [Try.ntmps35, List.size_toArray, List.length_cons, List.length_nil, Nat.reduceAdd, Nat.reduceSub, Array.replicate_succ, Array.replicate_zero, List.push_toArray, List.append_toArray, List.nil_append, List.cons_append]
  gi_wp2_with (first
    | (gi_at_call 46; refine (Try.maps_Keys _ _).mono ?_; rintro e w' ⟨rfl, rfl⟩)
    | (gi_at_call 45; refine cS.mono ?_; rintro e w' ⟨v, ss, rfl, hS, hrow, hnil, hb⟩))
  go_ret
  have e1 := listN_sorted (S := fun k => (F k).isSome) hown hhas hN hS
  have e2 : ss.length = (listN N (fun k => (F k).isSome)).length := by
    have := congrArg List.length e1
    simpa using this
  rw [e1, e2] at hrow
  refine ⟨v, rfl, ?_, ((Below.refl _ w).alloc (Nat.le_refl _) _).trans (hb.mono (by simp))⟩
  have := ownsRow_base_a hrow (show w.heap.size ≤ _ by simp)
  rw [List.map_map] at this
  exact this
end Go.Proofs.Ytmeodnkmhakidaa
