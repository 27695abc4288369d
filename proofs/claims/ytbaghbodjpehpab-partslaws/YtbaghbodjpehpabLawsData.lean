/- Without a bridge there is just one component more. -/
import Derived.Test.YtbaghbodjpehpabLawsMath
import Derived.Test.YtbaghbodjpehpabBlocksWalk
namespace Go.Proofs.Ytbaghbodjpehpab

theorem less_good {m : Nat} {p : Int → Int → Bool} (e : Pair) : Good m (lessL (allP m p) e) := fun d hd => by
  obtain ⟨u, v, h1, h2, _, rfl⟩ := allP_mem.1 (List.mem_filter.1 hd).1
  simp; omega

theorem less_parts {m : Nat} {es : List Pair} {RK R : Nat → Nat → Bool} (hg : Good m es) (hRK : ∀ i j, RK i j = true ↔ Star (LkF m (allP m (hasB es))) i j) (hR : ∀ v x, R v x = true ↔ Star (St m (pn (hasB es)) allB) v x) {e : Pair} (he : e ∈ singles (blocksS (allP m (hasB es)) RK))
    {R' : Nat → Nat → Bool} (hR' : ∀ v x, R' v x = true ↔ Star (St m (bothB (allP m (hasB (lessL (allP m (hasB es)) e)))) allB) v x) : (piecesS m allB R').length = (piecesS m allB R).length + 1 := by
  obtain ⟨Re, hRe⟩ := exP (fun e v x => Star (St m (pn (hasB (lessL (allP m (hasB es)) e))) allB) v x)
  have h0 := bridges_same hg hRK hR hRe
  rw [h0] at he
  unfold refBridgesTo at he
  rw [List.take_length] at he
  obtain ⟨h1, h2⟩ := List.mem_filter.1 he
  have hlt : partsN m allB R < partsN m allB (Re e) := by simpa using h2
  obtain ⟨s, t, hst, htm, _, rfl⟩ := allP_mem.1 h1
  have hF := formed_all m (hasB es)
  have hle := less_le (ef_gr hF) (s := s) (t := t) (R := R) (R' := Re ((s : Int), (t : Int))) (fun v w => (hR v w).trans (Star.iff (st_iff hg) v w)) (fun v w => (hRe _ v w).trans (Star.iff (ste_iff hg hst) v w))
  have e1 : R' = Re ((s : Int), (t : Int)) := by
    funext v x
    rw [Bool.eq_iff_iff, hR', hRe]
    refine Star.iff (fun a b => ?_) v x
    have := has_allP (less_good (m := m) (p := hasB es) ((s : Int), (t : Int))) a b
    constructor
    · rintro ⟨h1, h2, h3⟩; exact ⟨h1, this.1 h2, h3⟩
    · rintro ⟨h1, h2, h3⟩; exact ⟨h1, this.2 h2, h3⟩
  have e2 : ∀ S : Nat → Nat → Bool, (piecesS m allB S).length = partsN m allB S := fun S => by unfold piecesS piecesTo partsN; rw [List.length_map]
  rw [e2, e2, e1]
  omega

/-- All that the walk wants to know of the blocks. -/
structure LawsD (m : Nat) (es : List Pair) (BS : List (List Pair)) : Prop where
  len : BS.length ≤ 1000
  ok : ∀ (q : Nat) (l : List Pair), BS[q]? = some l → l.length ≤ 1000 ∧ ∀ (t : Nat) (e : Pair), l[t]? = some e → ∃ x y : Nat, e = ((x : Int), (y : Int)) ∧ x < y ∧ y < m
  all : BS.flatten.length = es.length
  same : allP m (hasB BS.flatten) = allP m (hasB es)
  good : Good m BS.flatten

theorem laws_data {m : Nat} {es : List Pair} {RK : Nat → Nat → Bool} (hck : (chk m es).1 = 0) (hRK : ∀ i j, RK i j = true ↔ Star (LkF m (allP m (hasB es))) i j) : LawsD m es (blocksS (allP m (hasB es)) RK) := by
  obtain ⟨_, hn0, hn1, hl, hgood⟩ := chk_good hck
  have hfl : (allP m (hasB es)).length ≤ 1000 := Nat.le_trans (allP_has_le m es) hl
  have mem := all_mem (rk_refl hRK) (fun i j k => rk_trans hRK) (allP m (hasB es))
  refine ⟨Nat.le_trans (blocks_len _ _) hfl, fun q l hq => ?_, ?_, ?_, fun e he => ?_⟩
  · obtain ⟨h1, h2⟩ := block_len hq
    refine ⟨by omega, fun t e ht => ?_⟩
    obtain ⟨i, hi⟩ := h2 e (List.mem_of_getElem? ht)
    obtain ⟨x, y, rfl, h3, h4⟩ := (formed_all m (hasB es)).ok i e hi
    exact ⟨x, y, rfl, h3, h4⟩
  · rw [all_len (rk_refl hRK) (fun i j => rk_symm hRK) (fun i j k => rk_trans hRK)]
    exact (allP_length hgood (chk_apart hck)).1
  · refine allP_congr fun u v huv hv => ?_
    rw [hasB_mem mem, hasB_allP huv hv]
  · obtain ⟨u, v, h1, h2, _, rfl⟩ := allP_mem.1 ((mem e).1 he)
    simp; omega
theorem flatten_take_le (BS : List (List Pair)) (q : Nat) : ((BS.take q).flatten).length ≤ BS.flatten.length := by
  have h : BS.flatten = (BS.take q).flatten ++ (BS.drop q).flatten := by rw [← List.flatten_append, List.take_append_drop]
  rw [h, List.length_append]; omega
theorem flatten_take_succ {BS : List (List Pair)} {q : Nat} {l : List Pair} (h : BS[q]? = some l) : (BS.take (q + 1)).flatten = (BS.take q).flatten ++ l := by
  obtain ⟨h1, h2⟩ := List.getElem?_eq_some_iff.1 h
  rw [List.take_succ_eq_append_getElem h1, h2, List.flatten_append]; simp
theorem single_one {l : List Pair} {e : Pair} (h0 : l[0]? = some e) (h1 : l.length = 1) : single l = some e := by
  match l, h1 with
  | [x], _ => simp at h0; subst h0; rfl
theorem single_none {l : List Pair} (h1 : l.length ≠ 1) : single l = none := by
  match l with
  | [] => rfl
  | [x] => simp at h1
  | x :: y :: l => rfl
end Go.Proofs.Ytbaghbodjpehpab
