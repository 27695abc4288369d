/- What a house does at a deed, and at an Undo. -/
import Derived.Test.YtfdlndljpmamgaaDeedM
namespace Go.Proofs.Ytfdlndljpmamgaa
set_option maxRecDepth 8000
open Go.RowKit Go.Maps
/-- A house did deeds. -/
def Did (es : List Dd) (w w' : World) (p : Hp) (n : Nat) : Prop := ∃ L E K n', Dn es L E K ∧ n' ≤ n + 1 ∧ ChgQ w w' p L E K n'
theorem idx_out {L : List ByteArray} {s : ByteArray} : idx L s = L.length ↔ ¬ s ∈ L := by
  have h1 := idx_le L s
  have h2 := @idx_mem L s
  constructor
  · intro h h3; have := h2.2 h3; omega
  · intro h
    have : ¬ idx L s < L.length := fun h3 => h (h2.1 h3)
    omega
theorem undo_did {w : World} {p : Hp} {es : List Dd} {L : List ByteArray} {E : Ed} {K : List Ck} {n : Nat} (h : Hse w p L E K n) (hD : Dn es L E K) (hne : es ≠ []) (hes : es.length ≤ 200) (hn : n ≤ 900) :
    Calls Try.prog 10 #[ptr p.b] w fun e w' => e = .returned (fv 0 0) ∧ ∃ ds d, es = ds ++ [d] ∧ Did ds w w' p n := by
  have hl := hD.len
  obtain ⟨ds, d, L0, E0, K0, c, rfl, rfl, h0, hc⟩ := hD.back hne
  have hl0 := h0.len
  have hKl : K0.length ≤ 1000 := by rw [List.length_append] at hes; omega
  rcases hc with ⟨rfl, rfl, s, rfl, hs, hsz⟩ | ⟨u, v, rfl, rfl, hv, hu, rfl⟩ | ⟨u, v, rfl, rfl, hv, hu, rfl⟩
  · refine Calls.mono (undo_call (L' := L0) (E' := E) (n' := n) h hKl fun W hW => undo_hyp_node hW.1 hs hsz (by omega)) ?_
    rintro e w' ⟨rfl, hq⟩
    exact ⟨rfl, ds, d, rfl, L0, E, K0, n, h0, by omega, hq⟩
  · refine Calls.mono (undo_call h hKl fun W hW => undo_hyp_edge hW.1 (by omega) (by omega)) ?_
    rintro e w' ⟨rfl, hq⟩
    exact ⟨rfl, ds, d, rfl, _, _, K0, n, h0, by omega, hq⟩
  · refine Calls.mono (undo_call h hKl fun W hW => undo_hyp_cut hW.1 (by omega) (by omega) (by omega)) ?_
    rintro e w' ⟨rfl, hq⟩
    exact ⟨rfl, ds, d, rfl, _, _, K0, n + 1, h0, by omega, hq⟩
theorem undo_not {w : World} {p : Hp} {L : List ByteArray} {E : Ed} {K : List Ck} {n : Nat} (h : Hse w p L E K n) (hD : Dn [] L E K) :
    Calls Try.prog 10 #[ptr p.b] w fun e w' => e = .returned (fv 11 0) ∧ Did [] w w' p n := by
  have hl := hD.len
  have hK : K = [] := List.length_eq_zero_iff.1 hl.1
  subst hK
  refine Calls.mono (undo_none h) ?_
  rintro e w' ⟨rfl, hq⟩
  exact ⟨rfl, L, E, [], n, hD, by omega, hq⟩
/-- What a deed comes to. -/
abbrev after (es : List Dd) (L : List ByteArray) (E : Ed) (d : Dd) : List Dd := if (deedF L E d).1 = 0 then es ++ [d] else es
theorem did_none {w w' : World} {p : Hp} {es : List Dd} {L : List ByteArray} {E : Ed} {K : List Ck} {n : Nat} {d : Dd} (hD : Dn es L E K) (hf : (deedF L E d).1 ≠ 0) (hq : ChgQ w w' p L E K n) : Did (after es L E d) w w' p n := by
  unfold after
  rw [if_neg hf]
  exact ⟨L, E, K, n, hD, by omega, hq⟩
theorem node_did {w : World} {p : Hp} {es : List Dd} {L : List ByteArray} {E : Ed} {K : List Ck} {n : Nat} (h : Hse w p L E K n) (hD : Dn es L E K) (hes : es.length ≤ 200) (hn : n ≤ 900) (s : ByteArray) (hs : s.size ≤ maxLen) :
    Calls Try.prog 6 #[ptr p.b, .string s] w fun e w' => e = .returned (fv (deedF L E ⟨1, s, .empty⟩).1 (deedF L E ⟨1, s, .empty⟩).2) ∧ Did (after es L E ⟨1, s, .empty⟩) w w' p n := by
  have hl := hD.len
  have e1 : deedF L E ⟨1, s, .empty⟩ = (nodeF L s, 0) := by unfold deedF; rw [if_pos rfl]
  by_cases hbad : nameB s = false ∨ s ∈ L ∨ L.length = 100
  · have hf : nodeF L s ≠ 0 := by
      unfold nodeF
      rcases hbad with hb | hb | hb
      · rw [if_pos hb]; decide
      · split
        · decide
        · rw [if_pos (idx_mem.2 hb)]; decide
      · split
        · decide
        · split <;> first | decide | (rw [if_pos hb]; decide)
    refine Calls.mono (node_bad h hs hbad) ?_
    rintro e w' ⟨rfl, hq⟩
    exact ⟨by rw [e1], did_none hD (by rw [e1]; exact hf) hq⟩
  · have hb1 : nameB s = true := by
      cases hh : nameB s with
      | true => rfl
      | false => exact absurd (Or.inl hh) hbad
    have hb2 : ¬ s ∈ L := fun hh => hbad (Or.inr (Or.inl hh))
    have hb3 : ¬ L.length = 100 := fun hh => hbad (Or.inr (Or.inr hh))
    have hf : nodeF L s = 0 := by
      unfold nodeF
      rw [if_neg (by simp [hb1]), if_neg (fun hh => hb2 (idx_mem.1 hh)), if_neg hb3]
    refine Calls.mono (node_ok h (by omega) (by omega) (by omega) hs hb1 hb2) ?_
    rintro e w' ⟨rfl, hq⟩
    refine ⟨by rw [e1, hf], ?_⟩
    unfold after
    rw [e1, if_pos hf]
    exact ⟨_, _, _, _, Dn.node s hD hb2 hs (by omega), Nat.le_refl _, hq⟩
theorem w0_hse {w : World} {p : Hp} {L : List ByteArray} {E : Ed} {K : List Ck} {n : Nat} (h : Hse w p L E K n) : Box (W0 w p) p.b (hcells p) 81 ∧ NumM (W0 w p) p.nm n (nmOf L) := by
  have h1 := h.below (show Below w.heap.size w (W0 w p) from below2 _ _)
  exact ⟨h1.1.box, h1.1.nums⟩
theorem edge_did {w : World} {p : Hp} {es : List Dd} {L : List ByteArray} {E : Ed} {K : List Ck} {n : Nat} (h : Hse w p L E K n) (hD : Dn es L E K) (hes : es.length ≤ 200) (hn : n ≤ 900) (a b : ByteArray) (ha : a.size ≤ maxLen) (hb : b.size ≤ maxLen) :
    Calls Try.prog 8 #[ptr p.b, .string a, .string b] w fun e w' => e = .returned (fv (deedF L E ⟨2, a, b⟩).1 (deedF L E ⟨2, a, b⟩).2) ∧ Did (after es L E ⟨2, a, b⟩) w w' p n := by
  have hl := hD.len
  obtain ⟨h1, h2⟩ := w0_hse h
  have k1 : ¬ (2 : Nat) = 1 := by decide
  have k3 : ¬ (2 : Nat) = 3 := by decide
  by_cases hA : a ∈ L
  · have a1 := idx_mem.2 hA
    by_cases hB : b ∈ L
    · have b1 := idx_mem.2 hB
      have hp := pair_ok h1 h2 ha hb hA hB
      have e0 : (min (idx L a : Int) (idx L b : Int)) = ((min (idx L a) (idx L b) : Nat) : Int) := by omega
      have e1 : (max (idx L a : Int) (idx L b : Int)) = ((max (idx L a) (idx L b) : Nat) : Int) := by omega
      rw [e0, e1] at hp
      by_cases he : idx L a = idx L b
      · have e2 : deedF L E ⟨2, a, b⟩ = (4, 0) := by unfold deedF; simp only; rw [if_neg k1, if_neg (by omega), if_neg (by omega), if_neg k3, if_pos he]
        have e3 : min (idx L a) (idx L b) = max (idx L a) (idx L b) := by omega
        rw [e3] at hp
        refine Calls.mono (edge_loop h hp) ?_
        rintro e w' ⟨rfl, hq⟩
        exact ⟨by rw [e2], did_none hD (by rw [e2]; decide) hq⟩
      · have hlt : min (idx L a) (idx L b) ≠ max (idx L a) (idx L b) := by omega
        by_cases hE : E (min (idx L a) (idx L b)) (max (idx L a) (idx L b)) = true
        · have e2 : deedF L E ⟨2, a, b⟩ = (5, 0) := by unfold deedF; simp only; rw [if_neg k1, if_neg (by omega), if_neg (by omega), if_neg k3, if_neg he, if_pos hE]
          refine Calls.mono (edge_twice h (by omega) (by omega) hlt hE hp) ?_
          rintro e w' ⟨rfl, hq⟩
          exact ⟨by rw [e2], did_none hD (by rw [e2]; decide) hq⟩
        · have e2 : deedF L E ⟨2, a, b⟩ = (0, 0) := by unfold deedF; simp only; rw [if_neg k1, if_neg (by omega), if_neg (by omega), if_neg k3, if_neg he, if_neg hE]
          have hE' : E (min (idx L a) (idx L b)) (max (idx L a) (idx L b)) = false := by simpa using hE
          refine Calls.mono (edge_ok h (by omega) (by omega) hlt hE' (by omega) (by omega) hp) ?_
          rintro e w' ⟨rfl, hq⟩
          refine ⟨by rw [e2], ?_⟩
          unfold after
          rw [e2, if_pos rfl]
          exact ⟨_, _, _, _, Dn.edge ⟨2, a, b⟩ hD rfl ⟨hA, hB, fun e => he (by simp only at e; rw [e])⟩ hE', Nat.le_refl _, hq⟩
    · have e2 : deedF L E ⟨2, a, b⟩ = (10, 1) := by unfold deedF; simp only; rw [if_neg k1, if_neg (by omega), if_pos (idx_out.2 hB)]
      refine Calls.mono (edge_bad h (pair_noB h1 h2 ha hb hA hB)) ?_
      rintro e w' ⟨rfl, hq⟩
      exact ⟨by rw [e2], did_none hD (by rw [e2]; decide) hq⟩
  · have e2 : deedF L E ⟨2, a, b⟩ = (10, 0) := by unfold deedF; simp only; rw [if_neg k1, if_pos (idx_out.2 hA)]
    refine Calls.mono (edge_bad h (pair_noA h1 h2 ha hb hA)) ?_
    rintro e w' ⟨rfl, hq⟩
    exact ⟨by rw [e2], did_none hD (by rw [e2]; decide) hq⟩
theorem cut_did {w : World} {p : Hp} {es : List Dd} {L : List ByteArray} {E : Ed} {K : List Ck} {n : Nat} (h : Hse w p L E K n) (hD : Dn es L E K) (hes : es.length ≤ 200) (_ : n ≤ 900) (a b : ByteArray) (ha : a.size ≤ maxLen) (hb : b.size ≤ maxLen) :
    Calls Try.prog 9 #[ptr p.b, .string a, .string b] w fun e w' => e = .returned (fv (deedF L E ⟨3, a, b⟩).1 (deedF L E ⟨3, a, b⟩).2) ∧ Did (after es L E ⟨3, a, b⟩) w w' p n := by
  have hl := hD.len
  obtain ⟨h1, h2⟩ := w0_hse h
  have k1 : ¬ (3 : Nat) = 1 := by decide
  by_cases hA : a ∈ L
  · have a1 := idx_mem.2 hA
    by_cases hB : b ∈ L
    · have b1 := idx_mem.2 hB
      have hp := pair_ok h1 h2 ha hb hA hB
      have e0 : (min (idx L a : Int) (idx L b : Int)) = ((min (idx L a) (idx L b) : Nat) : Int) := by omega
      have e1 : (max (idx L a : Int) (idx L b : Int)) = ((max (idx L a) (idx L b) : Nat) : Int) := by omega
      rw [e0, e1] at hp
      by_cases hE : E (min (idx L a) (idx L b)) (max (idx L a) (idx L b)) = true
      · have e2 : deedF L E ⟨3, a, b⟩ = (0, 0) := by unfold deedF; simp only; rw [if_neg k1, if_neg (by omega), if_neg (by omega), if_pos trivial, if_pos hE]
        have hne := (hD.ed _ _ hE).1
        refine Calls.mono (cut_ok h (by omega) (by omega) hE (by omega) hp) ?_
        rintro e w' ⟨rfl, hq⟩
        refine ⟨by rw [e2], ?_⟩
        unfold after
        rw [e2, if_pos rfl]
        exact ⟨_, _, _, _, Dn.cut ⟨3, a, b⟩ hD rfl ⟨hA, hB, fun e => by simp only at e; subst e; omega⟩ hE, by omega, hq⟩
      · have e2 : deedF L E ⟨3, a, b⟩ = (9, 0) := by unfold deedF; simp only; rw [if_neg k1, if_neg (by omega), if_neg (by omega), if_pos trivial, if_neg hE]
        refine Calls.mono (cut_none h (by omega) (by omega) (by simpa using hE) hp) ?_
        rintro e w' ⟨rfl, hq⟩
        exact ⟨by rw [e2], did_none hD (by rw [e2]; decide) hq⟩
    · have e2 : deedF L E ⟨3, a, b⟩ = (10, 1) := by unfold deedF; simp only; rw [if_neg k1, if_neg (by omega), if_pos (idx_out.2 hB)]
      refine Calls.mono (cut_bad h (pair_noB h1 h2 ha hb hA hB)) ?_
      rintro e w' ⟨rfl, hq⟩
      exact ⟨by rw [e2], did_none hD (by rw [e2]; decide) hq⟩
  · have e2 : deedF L E ⟨3, a, b⟩ = (10, 0) := by unfold deedF; simp only; rw [if_neg k1, if_pos (idx_out.2 hA)]
    refine Calls.mono (cut_bad h (pair_noA h1 h2 ha hb hA)) ?_
    rintro e w' ⟨rfl, hq⟩
    exact ⟨by rw [e2], did_none hD (by rw [e2]; decide) hq⟩
end Go.Proofs.Ytfdlndljpmamgaa
