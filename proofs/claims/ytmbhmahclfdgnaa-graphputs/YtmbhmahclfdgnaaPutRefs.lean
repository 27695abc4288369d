/- The function values of the statement on Join and Product. -/
import Derived.Test.YtmbhmahclfdgnaaPutCalls
import Derived.Test.YtmbhmahclfdgnaaSmall
namespace Go.Proofs.Ytmbhmahclfdgnaa
open Go.RowKit Go.Maps
attribute [local go_sem ↓] Go.wp_at_zero Go.wp_at_succ

theorem enter29 (args : Array Value) (w : World) : (callFunc 29 args).run Try.prog w = .ok (.enter 29 args) w := by
  simp [callFunc, Try.func29, go_sem]
  rw [if_neg (of_decide_eq_true (by kernel_rfl)), if_neg (by intro h; have : Try.f29.body.isSome = true := (by kernel_rfl); rw [h] at this; cases this)]
theorem enter30 (args : Array Value) (w : World) : (callFunc 30 args).run Try.prog w = .ok (.enter 30 args) w := by
  simp [callFunc, Try.func30, go_sem]
  rw [if_neg (of_decide_eq_true (by kernel_rfl)), if_neg (by intro h; have : Try.f30.body.isSome = true := (by kernel_rfl); rw [h] at this; cases this)]

/-- A place of a table. -/
theorem GridAt.at {w : World} {ao : Option Addr} {n cap m : Nat} {p : Int → Int → Bool} (h : GridAt w (.slice ao n cap) m p) {i j : Nat} (hi : i < m) (hj : j < m) :
    ∃ g b, ao = some ⟨g, 0, none⟩ ∧ w.cell? ⟨g, i, none⟩ = some (.slice (some ⟨b, 0, none⟩) m m) ∧ w.cell? ⟨b, j, none⟩ = some (.bool (p i j)) := by
  obtain ⟨ao', cap', e, h2⟩ := h
  cases e
  obtain ⟨g, b, e, c0, c1⟩ := h2 i hi
  exact ⟨g, b, e, c0, c1 j hj⟩

set_option maxHeartbeats 1000000 in
theorem joinRef_call {w : World} {Bg Bs Bt : Nat} {ma mb : Nat} {so to : Option Addr} {sc tc : Nat} {ea eb : List Pair} (hma : ma ≤ 100) (hg : w.cell? ⟨Bg, 0, none⟩ = some (.int .i64 ma)) (hs : w.cell? ⟨Bs, 0, none⟩ = some (.slice so ma sc)) (ht : w.cell? ⟨Bt, 0, none⟩ = some (.slice to mb tc))
    (hS : GridAt w (.slice so ma sc) ma (hasB ea)) (hT : GridAt w (.slice to mb tc) mb (hasB eb)) {u v : Nat} (hu : u < ma + mb) (hv : v < ma + mb) (hab : ma + mb ≤ 100) :
    Calls Try.prog 29 #[.int .i64 u, .int .i64 v, .pointer (some ⟨Bg, 0, none⟩), .pointer (some ⟨Bs, 0, none⟩), .pointer (some ⟨Bt, 0, none⟩)] w fun e w' => e = .returned (.bool (joinP ma ea eb u v)) ∧ Below w.heap.size w w' := by
  by_cases h1 : (u : Int) < ma
  · by_cases h2 : (v : Int) < ma
    · obtain ⟨g, b, rfl, c0, c1⟩ := hS.at (i := u) (j := v) (by omega) (by omega)
      have e : joinP ma ea eb u v = hasB ea u v := by unfold joinP; rw [if_pos ⟨h1, h2⟩]
      rw [e]
      clear hS hT
      go_enter Try.func29, Try.ntmps29
      go_wp2
      go_ret
      exact ⟨rfl, Below.refl _ _⟩
    · have e : joinP ma ea eb u v = true := by unfold joinP; rw [if_neg (fun h => h2 h.2), if_neg (fun h => by omega)]
      rw [e]
      clear hS hT
      go_enter Try.func29, Try.ntmps29
      go_wp2
      go_ret
      exact ⟨rfl, Below.refl _ _⟩
  · have h1' : (ma : Int) ≤ u := by omega
    by_cases h2 : (v : Int) < ma
    · have e : joinP ma ea eb u v = true := by unfold joinP; rw [if_neg (fun h => h1 h.1), if_neg (fun h => by omega)]
      rw [e]
      clear hS hT
      go_enter Try.func29, Try.ntmps29
      go_wp2
      go_ret
      exact ⟨rfl, Below.refl _ _⟩
    · have h2' : (ma : Int) ≤ v := by omega
      obtain ⟨i, rfl⟩ : ∃ i, u = ma + i := ⟨u - ma, by omega⟩
      obtain ⟨j, rfl⟩ : ∃ j, v = ma + j := ⟨v - ma, by omega⟩
      obtain ⟨g, b, rfl, c0, c1⟩ := hT.at (i := i) (j := j) (by omega) (by omega)
      have e : joinP ma ea eb ((ma + i : Nat) : Int) ((ma + j : Nat) : Int) = hasB eb i j := by
        unfold joinP
        rw [if_neg (fun h => h1 h.1), if_pos ⟨h1', h2'⟩]
        congr 1 <;> omega
      rw [e]
      clear hS hT
      have i1 : ((ma + i : Nat) : Int) - ma = i := by omega
      have j1 : ((ma + j : Nat) : Int) - ma = j := by omega
      have i2 : (0 : Int) ≤ i := by omega
      have i3 : (i : Int) < mb := by omega
      have j2 : (0 : Int) ≤ j := by omega
      have j3 : (j : Int) < mb := by omega
      generalize ((ma + i : Nat) : Int) = U at *
      generalize ((ma + j : Nat) : Int) = V at *
      have U1 : U = ma + i := by omega
      have V1 : V = ma + j := by omega
      subst U1 V1
      clear i1 j1
      go_enter Try.func29, Try.ntmps29
      go_wp2
      go_quiet (fail)
      go_wp2
      go_ret
      exact ⟨rfl, below_drewN (Below.refl _ _) _⟩

set_option maxHeartbeats 2000000 in
theorem prodRef_call {w : World} {Bg Bs Bt : Nat} {ma mb : Nat} {so to : Option Addr} {sc tc : Nat} {ea eb : List Pair} (hmb0 : 0 < mb) (hmb : mb ≤ 100) (hg : w.cell? ⟨Bg, 0, none⟩ = some (.int .i64 mb)) (ht : w.cell? ⟨Bt, 0, none⟩ = some (.slice to mb tc)) (hs : w.cell? ⟨Bs, 0, none⟩ = some (.slice so ma sc))
    (hS : GridAt w (.slice so ma sc) ma (hasB ea)) (hT : GridAt w (.slice to mb tc) mb (hasB eb)) {u v : Nat} (hu : u < ma * mb) (hv : v < ma * mb) (hab : ma * mb ≤ 100) :
    Calls Try.prog 30 #[.int .i64 u, .int .i64 v, .pointer (some ⟨Bg, 0, none⟩), .pointer (some ⟨Bt, 0, none⟩), .pointer (some ⟨Bs, 0, none⟩)] w fun e w' => e = .returned (.bool (prodP mb ea eb u v)) ∧ Below w.heap.size w w' := by
  have hn1 : ¬ (mb : Int) = 0 := by omega
  have hn2 : (1 : Int) ≤ (mb : Int) := by omega
  obtain ⟨gt, bt, rfl, ct0, ct1⟩ := hT.at (i := u % mb) (j := v % mb) (Nat.mod_lt _ hmb0) (Nat.mod_lt _ hmb0)
  obtain ⟨gs, bs, rfl, cs0, cs1⟩ := hS.at (i := u / mb) (j := v / mb) (Nat.div_lt_of_lt_mul (by rw [Nat.mul_comm]; exact hu)) (Nat.div_lt_of_lt_mul (by rw [Nat.mul_comm]; exact hv))
  clear hS hT
  have m0 : 0 ≤ (u : Int) % mb := Int.emod_nonneg _ hn1
  have m1 : 0 ≤ (v : Int) % mb := Int.emod_nonneg _ hn1
  have m2 : (u : Int) % mb < mb := Int.emod_lt_of_pos _ (by omega)
  have m3 : (v : Int) % mb < mb := Int.emod_lt_of_pos _ (by omega)
  have d0 : 0 ≤ (u : Int) / mb := Int.ediv_nonneg (by omega) (by omega)
  have d1 : 0 ≤ (v : Int) / mb := Int.ediv_nonneg (by omega) (by omega)
  have d2 : (u : Int) / mb < ma := by
    rw [← Int.natCast_ediv]
    exact Int.ofNat_lt.2 (Nat.div_lt_of_lt_mul (by rw [Nat.mul_comm]; exact hu))
  have d3 : (v : Int) / mb < ma := by
    rw [← Int.natCast_ediv]
    exact Int.ofNat_lt.2 (Nat.div_lt_of_lt_mul (by rw [Nat.mul_comm]; exact hv))
  have hma : ma ≤ 100 := by
    have : ma * 1 ≤ ma * mb := Nat.mul_le_mul (Nat.le_refl _) hmb0
    omega
  rw [Int.natCast_emod, Int.natCast_emod] at ct1
  rw [Int.natCast_ediv, Int.natCast_ediv] at cs1
  by_cases h1 : ((u : Int) / mb == (v : Int) / mb) = true
  · by_cases q1 : hasB eb ((u : Int) % mb) ((v : Int) % mb) = true
    · have e : prodP mb ea eb u v = true := by unfold prodP; rw [h1, q1]; rfl
      rw [e]
      rw [q1] at ct1
      go_enter Try.func30, Try.ntmps30
      go_wp2
      go_quiet (fail)
      go_wp2
      go_ret
      exact ⟨rfl, below_drewN (Below.refl _ _) _⟩
    · have q1' : hasB eb ((u : Int) % mb) ((v : Int) % mb) = false := by simpa using q1
      rw [q1'] at ct1
      by_cases h2 : ((u : Int) % mb == (v : Int) % mb) = true
      · have e : prodP mb ea eb u v = hasB ea ((u : Int) / mb) ((v : Int) / mb) := by unfold prodP; rw [h1, q1', h2]; rfl
        rw [e]
        go_enter Try.func30, Try.ntmps30
        go_wp2
        go_quiet (fail)
        go_wp2
        go_ret
        exact ⟨rfl, below_drewN (Below.refl _ _) _⟩
      · have h2' : ((u : Int) % mb == (v : Int) % mb) = false := by simpa using h2
        have e : prodP mb ea eb u v = false := by unfold prodP; rw [h1, q1', h2']; rfl
        rw [e]
        go_enter Try.func30, Try.ntmps30
        go_wp2
        go_quiet (fail)
        go_wp2
        go_ret
        exact ⟨rfl, below_drewN (Below.refl _ _) _⟩
  · have h1' : ((u : Int) / mb == (v : Int) / mb) = false := by simpa using h1
    by_cases h2 : ((u : Int) % mb == (v : Int) % mb) = true
    · have e : prodP mb ea eb u v = hasB ea ((u : Int) / mb) ((v : Int) / mb) := by unfold prodP; rw [h1', h2]; rfl
      rw [e]
      go_enter Try.func30, Try.ntmps30
      go_wp2
      go_quiet (fail)
      go_wp2
      go_ret
      exact ⟨rfl, below_drewN (Below.refl _ _) _⟩
    · have h2' : ((u : Int) % mb == (v : Int) % mb) = false := by simpa using h2
      have e : prodP mb ea eb u v = false := by unfold prodP; rw [h1', h2']; rfl
      rw [e]
      go_enter Try.func30, Try.ntmps30
      go_wp2
      go_quiet (fail)
      go_wp2
      go_ret
      exact ⟨rfl, below_drewN (Below.refl _ _) _⟩
end Go.Proofs.Ytmbhmahclfdgnaa
