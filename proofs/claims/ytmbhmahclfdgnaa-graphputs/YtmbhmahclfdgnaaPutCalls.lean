/- The function values of Join and Product. -/
import Derived.Test.YtmbhmahclfdgnaaBoth
import Derived.BigQuiet
import Derived.Deep.Light
import Derived.Deep.QuietTactic
namespace Go.Proofs.Ytmbhmahclfdgnaa
open Go.RowKit Go.Maps
attribute [local go_sem ↓] Go.wp_at_zero Go.wp_at_succ

/-- Which nodes of a join are near. -/
def joinP (na : Nat) (ea eb : List Pair) (u v : Int) : Bool :=
  if u < na ∧ v < na then hasB ea u v else if (na : Int) ≤ u ∧ (na : Int) ≤ v then hasB eb (u - na) (v - na) else true

/-- Which nodes of a product are near. -/
def prodP (nb : Nat) (ea eb : List Pair) (u v : Int) : Bool :=
  (u / nb == v / nb && hasB eb (u % nb) (v % nb)) || (u % nb == v % nb && hasB ea (u / nb) (v / nb))

theorem enter42 (args : Array Value) (w : World) : (callFunc 42 args).run Try.prog w = .ok (.enter 42 args) w := by
  simp [callFunc, Try.func42, go_sem]
  rw [if_neg (of_decide_eq_true (by kernel_rfl)), if_neg (by intro h; have : Try.f42.body.isSome = true := (by kernel_rfl); rw [h] at this; cases this)]
theorem enter43 (args : Array Value) (w : World) : (callFunc 43 args).run Try.prog w = .ok (.enter 43 args) w := by
  simp [callFunc, Try.func43, go_sem]
  rw [if_neg (of_decide_eq_true (by kernel_rfl)), if_neg (by intro h; have : Try.f43.body.isSome = true := (by kernel_rfl); rw [h] at this; cases this)]

theorem i64_small {u : Int} (h0 : 0 ≤ u) (h1 : u ≤ 1000000) : I64 u := by constructor <;> omega

set_option maxHeartbeats 1000000 in
theorem join_call {w : World} {Bg By Bz Bx Bw : Nat} {na : Nat} {ea eb : List Pair} (hna : na ≤ 100) (hg : w.cell? ⟨Bg, 0, none⟩ = some (.int .i64 na)) (hy : w.cell? ⟨By, 0, none⟩ = some (.func (.func 44) #[] #[.pointer (some ⟨Bx, 0, none⟩)])) (hz : w.cell? ⟨Bz, 0, none⟩ = some (.func (.func 44) #[] #[.pointer (some ⟨Bw, 0, none⟩)]))
    (hA : NearAt w Bx ea) (hB : NearAt w Bw eb) {u v : Nat} (hu : u ≤ 100) (hv : v ≤ 100) :
    Calls Try.prog 42 #[.int .i64 u, .int .i64 v, .pointer (some ⟨Bg, 0, none⟩), .pointer (some ⟨By, 0, none⟩), .pointer (some ⟨Bz, 0, none⟩)] w fun e w' => e = .returned (.bool (joinP na ea eb u v)) ∧ Below w.heap.size w w' := by
  by_cases h1 : (u : Int) < na
  · by_cases h2 : (v : Int) < na
    · have e : joinP na ea eb u v = hasB ea u v := by unfold joinP; rw [if_pos ⟨h1, h2⟩]
      rw [e]
      go_enter Try.func42, Try.ntmps42
      go_wp2_with (go_at_call 44; refine (near_has hA (i64_small (by omega) (by omega)) (i64_small (by omega) (by omega))).mono ?_; rintro e w1 ⟨rfl, hb⟩)
      go_ret
      exact ⟨rfl, hb⟩
    · have e : joinP na ea eb u v = true := by unfold joinP; rw [if_neg (fun h => h2 h.2), if_neg (fun h => by omega)]
      rw [e]
      go_enter Try.func42, Try.ntmps42
      go_wp2
      go_ret
      exact ⟨rfl, Below.refl _ _⟩
  · have h1' : (na : Int) ≤ u := by omega
    by_cases h2 : (v : Int) < na
    · have e : joinP na ea eb u v = true := by unfold joinP; rw [if_neg (fun h => h1 h.1), if_neg (fun h => by omega)]
      rw [e]
      go_enter Try.func42, Try.ntmps42
      go_wp2
      go_ret
      exact ⟨rfl, Below.refl _ _⟩
    · have h2' : (na : Int) ≤ v := by omega
      have e : joinP na ea eb u v = hasB eb ((u : Int) - na) ((v : Int) - na) := by unfold joinP; rw [if_neg (fun h => h1 h.1), if_pos ⟨h1', h2'⟩]
      rw [e]
      go_enter Try.func42, Try.ntmps42
      go_wp2_with (go_at_call 44; refine (near_has hB (i64_small (by omega) (by omega)) (i64_small (by omega) (by omega))).mono ?_; rintro e w1 ⟨rfl, hb⟩)
      go_ret
      exact ⟨rfl, hb⟩

set_option maxHeartbeats 1000000 in
theorem prod_call {w : World} {Bg By Bz Bx Bw : Nat} {nb : Nat} {ea eb : List Pair} (hnb : nb ≤ 100) (hnb0 : 0 < nb) (hg : w.cell? ⟨Bg, 0, none⟩ = some (.int .i64 nb)) (hy : w.cell? ⟨By, 0, none⟩ = some (.func (.func 44) #[] #[.pointer (some ⟨Bx, 0, none⟩)])) (hz : w.cell? ⟨Bz, 0, none⟩ = some (.func (.func 44) #[] #[.pointer (some ⟨Bw, 0, none⟩)]))
    (hB : NearAt w Bx eb) (hA : NearAt w Bw ea) {u v : Nat} (hu : u ≤ 100) (hv : v ≤ 100) :
    Calls Try.prog 43 #[.int .i64 u, .int .i64 v, .pointer (some ⟨Bg, 0, none⟩), .pointer (some ⟨By, 0, none⟩), .pointer (some ⟨Bz, 0, none⟩)] w fun e w' => e = .returned (.bool (prodP nb ea eb u v)) ∧ Below w.heap.size w w' := by
  have hn1 : ¬ (nb : Int) = 0 := by omega
  have hn2 : (1 : Int) ≤ (nb : Int) := by omega
  have m0 : 0 ≤ (u : Int) % nb := Int.emod_nonneg _ hn1
  have m1 : 0 ≤ (v : Int) % nb := Int.emod_nonneg _ hn1
  have m2 : (u : Int) % nb < nb := Int.emod_lt_of_pos _ (by omega)
  have m3 : (v : Int) % nb < nb := Int.emod_lt_of_pos _ (by omega)
  have d0 : 0 ≤ (u : Int) / nb := Int.ediv_nonneg (by omega) (by omega)
  have d1 : 0 ≤ (v : Int) / nb := Int.ediv_nonneg (by omega) (by omega)
  have d2 : (u : Int) / nb ≤ u := Int.ediv_le_self _ (by omega)
  have d3 : (v : Int) / nb ≤ v := Int.ediv_le_self _ (by omega)
  have HA : Hid _ := hA
  have HB : Hid _ := hB
  clear hA hB
  by_cases h1 : ((u : Int) / nb == (v : Int) / nb) = true
  · by_cases q1 : hasB eb ((u : Int) % nb) ((v : Int) % nb) = true
    · have e : prodP nb ea eb u v = true := by unfold prodP; rw [h1, q1]; rfl
      rw [e]
      go_enter Try.func43, Try.ntmps43
      go_wp2
      go_quiet (fail)
      go_wp2
      go_quiet (fail)
      go_wp2_with (go_at_call_of 44 Bx; refine (near_has (NearAt.below HB.out (below_drewN (Below.refl _ _) _)) (i64_small m0 (by omega)) (i64_small m1 (by omega))).mono ?_; rintro e w1 ⟨rfl, hb1⟩; have hbw := below_next (below_drewN (Below.refl _ _) _) hb1; have hz1 := (hbw.cell (World.block_lt_of_cell? w _ hz)).trans hz)
      go_ret
      exact ⟨rfl, hbw⟩
    · have q1' : hasB eb ((u : Int) % nb) ((v : Int) % nb) = false := by simpa using q1
      by_cases h2 : ((u : Int) % nb == (v : Int) % nb) = true
      · have e : prodP nb ea eb u v = hasB ea ((u : Int) / nb) ((v : Int) / nb) := by unfold prodP; rw [h1, q1', h2]; rfl
        rw [e]
        go_enter Try.func43, Try.ntmps43
        go_wp2
        go_quiet (fail)
        go_wp2
        go_quiet (fail)
        go_wp2_with (first | (go_at_call_of 44 Bx; refine (near_has (NearAt.below HB.out (below_drewN (Below.refl _ _) _)) (i64_small m0 (by omega)) (i64_small m1 (by omega))).mono ?_; rintro e w1 ⟨rfl, hb1⟩; have hbw := below_next (below_drewN (Below.refl _ _) _) hb1; have hz1 := (hbw.cell (World.block_lt_of_cell? w _ hz)).trans hz) | (go_at_call_of 44 Bw; refine (near_has (NearAt.below HA.out hbw) (i64_small d0 (by omega)) (i64_small d1 (by omega))).mono ?_; rintro e w2 ⟨rfl, hb2⟩))
        go_ret
        exact ⟨rfl, below_next hbw hb2⟩
      · have h2' : ((u : Int) % nb == (v : Int) % nb) = false := by simpa using h2
        have e : prodP nb ea eb u v = false := by unfold prodP; rw [h1, q1', h2']; rfl
        rw [e]
        go_enter Try.func43, Try.ntmps43
        go_wp2
        go_quiet (fail)
        go_wp2
        go_quiet (fail)
        go_wp2_with (go_at_call_of 44 Bx; refine (near_has (NearAt.below HB.out (below_drewN (Below.refl _ _) _)) (i64_small m0 (by omega)) (i64_small m1 (by omega))).mono ?_; rintro e w1 ⟨rfl, hb1⟩; have hbw := below_next (below_drewN (Below.refl _ _) _) hb1; have hz1 := (hbw.cell (World.block_lt_of_cell? w _ hz)).trans hz)
        go_ret
        exact ⟨rfl, hbw⟩
  · have h1' : ((u : Int) / nb == (v : Int) / nb) = false := by simpa using h1
    by_cases h2 : ((u : Int) % nb == (v : Int) % nb) = true
    · have e : prodP nb ea eb u v = hasB ea ((u : Int) / nb) ((v : Int) / nb) := by unfold prodP; rw [h1', h2]; rfl
      rw [e]
      go_enter Try.func43, Try.ntmps43
      go_wp2
      go_quiet (fail)
      go_wp2
      go_quiet (fail)
      go_wp2_with (go_at_call_of 44 Bw; refine (near_has (NearAt.below HA.out (below_drewN (Below.refl _ _) _)) (i64_small d0 (by omega)) (i64_small d1 (by omega))).mono ?_; rintro e w2 ⟨rfl, hb2⟩)
      go_ret
      exact ⟨rfl, below_next (below_drewN (Below.refl _ _) _) hb2⟩
    · have h2' : ((u : Int) % nb == (v : Int) % nb) = false := by simpa using h2
      have e : prodP nb ea eb u v = false := by unfold prodP; rw [h1', h2']; rfl
      rw [e]
      go_enter Try.func43, Try.ntmps43
      go_wp2
      go_quiet (fail)
      go_wp2
      go_quiet (fail)
      go_wp2
      go_ret
      exact ⟨rfl, below_drewN (Below.refl _ _) _⟩
end Go.Proofs.Ytmbhmahclfdgnaa
