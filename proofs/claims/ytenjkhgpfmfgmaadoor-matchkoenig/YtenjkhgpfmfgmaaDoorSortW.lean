/- Sort, of a row that the call has made. -/
import Derived.Shelf.SortM.Plain
import Derived.Shelf.SortM.SortNone
import Derived.Lib.OwnBridge
import Derived.Lib.AppendIntMem
import Derived.Test.YtenjkhgpfmfgmaaDoorKoenigM
import Derived.Test.YtenjkhgpfmfgmaaDoorWholeM
namespace Go.Proofs.YtenjkhgpfmfgmaaDoor
open Go.RowKit Go.Maps Go.Sort Go.Shelf

theorem sort_own {w : World} {base : Nat} {so : Option Addr} {sc N : Nat} {l : List Nat} {S : Nat → Bool} (h : w.ownsRow base 3 1 (.slice so l.length sc) l.length (qv l)) (hp : l.Perm (listN N S)) (hl : l.length ≤ 1000000) (hb : base ≤ w.heap.size) :
    Calls Tryd.prog 33 #[.slice so l.length sc] w fun e w' => e = .returned (.tuple #[]) ∧ w'.ownsRow base 3 1 (.slice so l.length sc) l.length (qv (listN N S)) ∧ Below base w w' := by
  have hs := sorted_listN hp
  have hpl := hp.length_eq
  have hq := qv_ints l
  rw [hq] at h
  by_cases h0 : l = []
  · subst h0
    have hS : listN N S = [] := List.eq_nil_of_length_eq_zero (by simpa using hpl.symm)
    refine (AnyM.slices_Sort_int_none Tryd.sort74 so sc w).mono ?_
    rintro e w' ⟨rfl, rfl⟩
    rw [hS]
    exact ⟨rfl, h, Below.refl _ _⟩
  · have hne : Value.slice so l.length sc ≠ .slice none 0 0 := fun e => by
      injection e with _ e2 _
      exact h0 (List.eq_nil_of_length_eq_zero e2)
    obtain ⟨g, cap, hv, hbg, hg, hn, hm, hl2, hH⟩ := Lib.holds_of_ownsRow h hne
    injection hv with e1 _ e3
    subst e1; subst e3
    have hc := AnyM.slices_Sort_int Tryd.sort74 g 0 sc (l.map fun (k : Nat) => (k : Int)) w hH hg (by simp; omega)
    rw [List.length_map] at hc
    refine Calls.mono hc ?_
    rintro e w' ⟨rfl, n, os, rfl⟩
    rw [hs]
    have ho := Lib.ownsRow_putRow (enc := Value.int .i64) (q := n) (k := l.length) (ys := (listN N S).map fun (k : Nat) => (k : Int)) h (by simp [hpl]) (Nat.le_refl _)
    rw [List.take_of_length_le (by simp [hpl]), ← qv_ints] at ho
    refine ⟨rfl, ?_, ?_⟩
    · refine ownsRow_blocks ho (fun k hk => heap_grow_old _ _ (World.ownsRow.lt ho k hk).2)
    · have hb1 : Below base w (putRow (Value.int .i64) (Sort.ahead w n) g 0 ((listN N S).map fun (k : Nat) => (k : Int)).toArray) := Lib.below_putRow (Below.refl _ _) hbg
      have hz : w.heap.size ≤ (putRow (Value.int .i64) (Sort.ahead w n) g 0 ((listN N S).map fun (k : Nat) => (k : Int)).toArray).heap.size := hb1.size
      refine ⟨hb1.os, hb1.tape, hb1.output, by simp [grow], fun k hk => ?_⟩
      rw [heap_grow_old _ _ (by omega)]
      exact hb1.block k hk
end Go.Proofs.YtenjkhgpfmfgmaaDoor
