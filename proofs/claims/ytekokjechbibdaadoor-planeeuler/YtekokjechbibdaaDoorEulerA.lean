/- PlaneEuler: a graph's edges in form are good edges; what Embed tells of K3 to K6. -/
import Derived.Test.YtekokjechbibdaaDoorBegunM
import Derived.Test.YtekokjechbibdaaDoorPartsM
import Derived.Test.YtekokjechbibdaaDoorLayGM
namespace Go.Proofs.YtekokjechbibdaaDoor
set_option maxRecDepth 100000
open Go.RowKit Go.Maps
theorem allE_good (n : Nat) (p : Int → Int → Bool) : GoodE n (allE n p) := by
  refine ⟨?_, fun e he => ?_, fun e he => (allE_lt he).2⟩
  · have h := allP_nodup n p
    rw [allP_pz] at h
    unfold pz List.Nodup at h
    rw [List.pairwise_map] at h
    exact h.imp fun {a b} hab e => hab (by rw [e])
  · unfold allE at he
    obtain ⟨i, _, he⟩ := List.mem_flatMap.1 he
    obtain ⟨j, hj, rfl⟩ := List.mem_map.1 he
    have := (List.mem_filter.1 hj).2
    simp only [Bool.and_eq_true, decide_eq_true_eq] at this
    exact this.1
theorem hasB_mem {es : List Pair} {u v : Int} : hasB es u v = true ↔ ∃ e ∈ es, (e.1 = u ∧ e.2 = v) ∨ (e.1 = v ∧ e.2 = u) := by
  unfold hasB
  rw [List.any_eq_true]
  refine exists_congr fun e => and_congr_right fun _ => ?_
  simp only [Bool.or_eq_true, Bool.and_eq_true, beq_iff_eq]
theorem chkFrom_once {n : Int} : ∀ (es pre : List Pair), (chkFrom n pre es).1 = 0 → es.Pairwise (fun a b => ¬ ((a.1 = b.1 ∧ a.2 = b.2) ∨ (a.1 = b.2 ∧ a.2 = b.1))) ∧ ∀ a ∈ pre, ∀ b ∈ es, ¬ ((a.1 = b.1 ∧ a.2 = b.2) ∨ (a.1 = b.2 ∧ a.2 = b.1))
  | [], _, _ => ⟨List.Pairwise.nil, fun _ _ b hb => by cases hb⟩
  | e :: r, pre, h => by
    rw [chkFrom] at h
    by_cases hb : bad n pre e = 0
    · rw [if_pos hb] at h
      obtain ⟨h1, h2⟩ := chkFrom_once r _ h
      have h3 := (bad_zero hb).2.2
      refine ⟨List.pairwise_cons.2 ⟨fun b hb => h2 e (by simp) b hb, h1⟩, fun a ha b hb' hab => ?_⟩
      rcases List.mem_cons.1 hb' with rfl | hb'
      · rw [hasB_mem.2 ⟨a, ha, hab⟩] at h3
        cases h3
      · exact h2 a (List.mem_append_left _ ha) b hb' hab
    · rw [if_neg hb] at h
      exact absurd h hb
/-- A good graph has just as many edges in form. -/
theorem form_len {n : Nat} {es : List Pair} (h : (chk n es).1 = 0) : es.length = (allE n (hasB es)).length := by
  have h1 := allP_has_le n es
  have hgood := (chk_good h).2.2.2.2
  have hone : es.Pairwise (fun a b => ¬ ((a.1 = b.1 ∧ a.2 = b.2) ∨ (a.1 = b.2 ∧ a.2 = b.1))) := by
    unfold chk at h
    by_cases hm : many n es.length = true
    · rw [if_pos hm] at h; cases h
    · rw [if_neg hm] at h
      exact (chkFrom_once es [] h).1
  have h2 := nodup_len (es.map fun e => (min e.1 e.2, max e.1 e.2)) (allP n (hasB es)) (by
    unfold List.Nodup
    rw [List.pairwise_map]
    refine hone.imp fun {a b} hab e => hab ?_
    simp only [Prod.mk.injEq] at e
    omega) (fun x hx => by
    obtain ⟨e, he, rfl⟩ := List.mem_map.1 hx
    obtain ⟨⟨a1, a2, a3, a4⟩, a5⟩ := hgood e he
    refine allP_mem.2 ⟨(min e.1 e.2).toNat, (max e.1 e.2).toNat, by omega, by omega, hasB_mem.2 ⟨e, he, by omega⟩, ?_⟩
    ext <;> simp only <;> omega)
  rw [List.length_map] at h2
  rw [allP_pz, pz_len] at h1 h2
  omega
def k3 : List E2 := [(0, 1), (0, 2), (1, 2)]
def k6 : List E2 := [(0, 1), (0, 2), (0, 3), (0, 4), (0, 5), (1, 2), (1, 3), (1, 4), (1, 5), (2, 3), (2, 4), (2, 5), (3, 4), (3, 5), (4, 5)]
theorem k3_eq : k3 = allE 3 (hasB (fullP 3)) := by decide +kernel
theorem k6_eq : k6 = allE 6 (hasB (fullP 6)) := by decide +kernel
theorem chk3 : (chk (3 : Nat) (fullP 3)).1 = 0 := by decide +kernel
theorem chk6 : (chk (6 : Nat) (fullP 6)).1 = 0 := by decide +kernel
theorem lay3 : (lay 3 k3).isSome = true := by decide +kernel
theorem lay6 : (lay 6 k6).isNone = true := by decide +kernel
theorem len6 : 0 < (needed 6 k6).length := by decide +kernel
end Go.Proofs.YtekokjechbibdaaDoor
