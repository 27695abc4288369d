/- PlaneEuler: whatever graph it is given. -/
import Derived.Test.YtekokjechbibdaaDoorEulerW
import Derived.Test.YtekokjechbibdaaDoorEulerA
import Derived.Test.YtekokjechbibdaaDoorEmbedB
namespace Go.Proofs.YtekokjechbibdaaDoor
set_option maxRecDepth 100000
open Go.RowKit Go.Maps
theorem erow_form {w : World} {base : Nat} {x : Value} {L : List E2} (h : ERow w base x L) : ∃ bo bc, x = .slice bo L.length bc := by
  rcases h.2 with ⟨e, e0⟩ | ⟨g, cap, cur, e, _⟩
  · exact ⟨none, 0, by rw [e, e0]⟩
  · exact ⟨_, _, e⟩
theorem embed_free {w : World} {n k : Nat} {E : List E2} {R : Option (List Face)} {e : Ending} {w' : World} (hR : lay n E = R) (hr : EmbR w w' n E R e) (h1 : R = none → 0 < (needed n E).length ∧ 4 < k) (h2 : ∀ F, R = some F → ¬ 4 < k) :
    ∃ y bo bl bc, e = .returned (.tuple #[y, .slice bo bl bc, .agg #[.int .i64 0, .int .i64 0]]) ∧ (0 < bl ↔ 4 < k) ∧ Below w.heap.size w w' := by
  unfold EmbR at hr
  cases R with
  | none =>
    obtain ⟨hb, x, rfl, hx⟩ := hr
    obtain ⟨bo, bc, rfl⟩ := erow_form hx
    exact ⟨_, bo, _, bc, rfl, ⟨fun _ => (h1 rfl).2, fun _ => (h1 rfl).1⟩, hb⟩
  | some F =>
    obtain ⟨hb, bt, xs, rfl, _⟩ := hr
    exact ⟨_, none, 0, 0, rfl, ⟨fun h => absurd h (Nat.lt_irrefl 0), fun h => absurd h (h2 F rfl)⟩, hb⟩
theorem embed_full {A : World} {v : Value} (ht : T64 A) (k : Nat) (h3 : 3 ≤ k) (h6 : k ≤ 6) (hE : EdgesAt A v (fullP k)) : Calls Tryd.prog 8 #[.agg #[.int .i64 (k : Nat), v]] A fun e w' => ∃ y bo bl bc, e = .returned (.tuple #[y, .slice bo bl bc, .agg #[.int .i64 0, .int .i64 0]]) ∧ (0 < bl ↔ 4 < k) ∧ Below A.heap.size A w' := by
  have hg := allE_good k (hasB (fullP k))
  have key : (chk (k : Nat) (fullP k)).1 = 0 ∧ (allE k (hasB (fullP k))).length ≤ 1000 ∧ (lay k (allE k (hasB (fullP k))) = none → 0 < (needed k (allE k (hasB (fullP k)))).length ∧ 4 < k) ∧ (∀ F, lay k (allE k (hasB (fullP k))) = some F → ¬ 4 < k) := by
    have hk : k = 3 ∨ k = 4 ∨ k = 5 ∨ k = 6 := by omega
    rcases hk with rfl | rfl | rfl | rfl
    · rw [← k3_eq]
      exact ⟨chk3, by decide, fun h => absurd lay3 (by rw [h]; simp), fun F _ => by omega⟩
    · rw [← k4_eq]
      exact ⟨chk4, by decide, fun h => absurd lay4 (by rw [h]; simp), fun F _ => by omega⟩
    · rw [← k5_eq]
      exact ⟨chk5, by decide, fun _ => ⟨by rw [len5]; omega, by omega⟩, fun F h => by have := lay5; rw [h] at this; cases this⟩
    · rw [← k6_eq]
      exact ⟨chk6, by decide, fun _ => ⟨len6, by omega⟩, fun F h => by have := lay6; rw [h] at this; cases this⟩
  obtain ⟨c1, c2, c3, c4⟩ := key
  exact (embed_ok hE c1 rfl c2 ht (lay_good (by omega) hg).1 (fun h => need_good (by omega) hg c2 h)).mono fun e w' hr => embed_free rfl hr c3 c4
theorem euler_law {n : Int} {ao : Option Addr} {cap : Nat} {es : List Pair} {w : World} (hE : EdgesAt w (.slice ao es.length cap) es) (_hcap : es.length ≤ cap) (ht : T64 w) :
    Calls Tryd.prog 5 #[.agg #[.int .i64 n, .slice ao es.length cap]] w fun e w' => e = .returned (.bool true) ∧ Below w.heap.size w w' := by
  by_cases hk : (chk n es).1 = 0
  · obtain ⟨_, h0, h100, hel, _⟩ := chk_good hk
    obtain ⟨N, rfl⟩ := Int.eq_ofNat_of_zero_le h0
    have hN : N ≤ 100 := by omega
    have hg := allE_good N (hasB es)
    have hl := form_len hk
    refine eulerLaw_good (Q := fun k A v => ∃ bo bl bc, v = .agg #[.int .i64 (k : Nat), .slice bo bl bc] ∧ EdgesAt A (.slice bo bl bc) (fullP k)) hN (fun A hA => begun_call (ht.under hA)) (fun A hA => ?_) (fun A k hA h3 h6 => ?_) (fun A k v hA h3 h6 hQ => ?_)
    · refine (embed_ok (hE.below hA) hk rfl (by omega) (ht.under hA) (lay_good hN hg).1 (fun h => need_good hN hg (by omega) h)).mono fun e w' hr => ?_
      unfold EmbR at hr
      cases hlay : lay N (allE N (hasB es)) with
      | none =>
        rw [hlay] at hr
        obtain ⟨hb, x, rfl, _⟩ := hr
        exact ⟨none, 0, 0, x, rfl, fun _ => Or.inl rfl, hb⟩
      | some F =>
        rw [hlay] at hr
        obtain ⟨hb, bt, xs, rfl, _⟩ := hr
        refine ⟨_, N, N, _, rfl, fun h => Or.inr ?_, hb⟩
        have := (lay_good hN hg).2 (by rw [hlay]; rfl) h
        omega
    · exact (full_call k A (by omega)).mono fun e w' ⟨hb, bo, bc, h1, h2⟩ => ⟨_, h1, ⟨bo, _, bc, rfl, h2⟩, hb⟩
    · obtain ⟨bo, bl, bc, rfl, hQ⟩ := hQ
      exact embed_full (ht.under hA) k h3 h6 hQ
  · exact eulerLaw_bad hk (fun A hA => begun_call (ht.under hA)) (fun A hA => embed_bad (hE.below hA) hk)
end Go.Proofs.YtekokjechbibdaaDoor
