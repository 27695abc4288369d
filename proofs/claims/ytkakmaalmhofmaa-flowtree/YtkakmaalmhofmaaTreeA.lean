/- Tree of whatever comes in; the weights' fault step by step. -/
import Derived.Test.YtkakmaalmhofmaaTreeP
namespace Go.Proofs.Ytkakmaalmhofmaa
open Go.RowKit Go.Maps
attribute [local go_sem ↓] Go.wp_at_zero Go.wp_at_succ

theorem tree_any (n : Int) (v : Value) (es : List Pair) (wo : Option Addr) (wc0 : Nat) (l : List Int) (w : World) (hE : EdgesAt w v es) (hI : IntsAt w (.slice wo l.length wc0) l) :
    Calls Try.prog 24 #[.agg #[.int .i64 n, v], .slice wo l.length wc0] w fun r w' => ∃ uv cv c d, r = .returned (.tuple #[uv, cv, .agg #[.int .i64 c, .int .i64 d]]) ∧ treeF n es l = (c, d) ∧ ((c ≠ 0 ∧ uv = .slice none 0 0 ∧ cv = .slice none 0 0) ∨ (c = 0 ∧ d = 0 ∧ ∃ N : Nat, n = N ∧ N ≤ 100 ∧ es.length ≤ 1000 ∧ (∀ e ∈ es, 0 ≤ e.1 ∧ e.1 < N ∧ 0 ≤ e.2 ∧ e.2 < N) ∧ l.length = es.length ∧ (∀ x ∈ l, isV x = true) ∧ TreeAns N es l w.heap.size w' uv cv)) ∧ Below w.heap.size w w' := by
  unfold treeF
  by_cases h1 : (chk n es).1 = 0
  · obtain ⟨hz, hn0, hn1, hl, hg⟩ := chk_good h1
    rw [if_pos h1]
    by_cases h2 : (wsF es.length l).1 = 0
    · obtain ⟨hw, hwl, hws⟩ := wsF_zero h2
      obtain ⟨N, rfl⟩ : ∃ N : Nat, n = N := ⟨n.toNat, by omega⟩
      have hg' : ∀ e ∈ es, 0 ≤ e.1 ∧ e.1 < (N : Int) ∧ 0 ≤ e.2 ∧ e.2 < (N : Int) := fun e he => (hg e he).1
      have h := tree_ok (wc0 := wc0) hE hI.nums (by omega) hl hg' hz hwl hws
      rw [← hwl] at h
      refine h.mono ?_
      rintro r w' ⟨uv, cv, rfl, ha, hb⟩
      exact ⟨uv, cv, 0, 0, rfl, hw, Or.inr ⟨rfl, rfl, N, rfl, by omega, hl, hg', hwl, hws, ha⟩, hb⟩
    · have hb : l.length ≤ 17592186044416 := by obtain ⟨_, _, _, h, _⟩ := hI; exact h
      refine (tree_weights hE hI.nums hb hz (c := (wsF es.length l).1) (d := (wsF es.length l).2) rfl h2).mono ?_
      rintro r w' ⟨rfl, hb⟩
      exact ⟨_, _, _, _, rfl, rfl, Or.inl ⟨h2, rfl, rfl⟩, hb⟩
  · rw [if_neg h1]
    refine (tree_graph hE (c := (chk n es).1) (d := (chk n es).2) rfl h1).mono ?_
    rintro r w' ⟨rfl, hb⟩
    exact ⟨_, _, _, _, rfl, rfl, Or.inl ⟨h1, rfl, rfl⟩, hb⟩
/-- What the fault box holds while the weights are looked at, k of them done. -/
def WsTo (n : Int) (es : List Pair) (l : List Int) (k : Nat) (c d : Int) : Prop :=
  (c = 0 ∧ d = 0 ∧ (chk n es).1 = 0 ∧ l.length = es.length ∧ ∀ j (h : j < l.length), j < k → isV l[j] = true) ∨ (c ≠ 0 ∧ treeF n es l = (c, d))
theorem WsTo.size {n : Int} {es : List Pair} {l : List Int} (h1 : (chk n es).1 = 0) (h2 : l.length ≠ es.length) (k : Nat) : WsTo n es l k 6 0 := by
  refine Or.inr ⟨by omega, ?_⟩
  unfold treeF wsF
  rw [if_pos h1, if_pos h2]
theorem WsTo.start {n : Int} {es : List Pair} {l : List Int} {m1 m2 : Int} (h : chk n es = (m1, m2)) (h2 : ¬ (m1 = 0 ∧ l.length ≠ es.length)) : WsTo n es l 0 m1 m2 := by
  by_cases h1 : m1 = 0
  · have h3 : l.length = es.length := by
      by_cases e : l.length = es.length
      · exact e
      · exact absurd ⟨h1, e⟩ h2
    have h4 := (chk_good (n := n) (es := es) (by rw [h]; exact h1)).1
    rw [h] at h4
    have e1 : m1 = 0 := congrArg Prod.fst h4
    have e2 : m2 = 0 := congrArg Prod.snd h4
    exact Or.inl ⟨e1, e2, by rw [h]; exact h1, h3, fun j _ hj => absurd hj (Nat.not_lt_zero _)⟩
  · refine Or.inr ⟨h1, ?_⟩
    unfold treeF
    rw [h, if_neg h1]
theorem WsTo.good {n : Int} {es : List Pair} {l : List Int} {k : Nat} {d : Int} (h : WsTo n es l k 0 d) (hk : k < l.length) (hv : isV l[k] = true) : WsTo n es l (k + 1) 0 d := by
  rcases h with ⟨_, h2, h3, h4, h5⟩ | ⟨h1, _⟩
  · refine Or.inl ⟨rfl, h2, h3, h4, fun j hj hjk => ?_⟩
    by_cases e : j = k
    · subst e; exact hv
    · exact h5 j hj (by omega)
  · exact absurd rfl h1
theorem WsTo.bad {n : Int} {es : List Pair} {l : List Int} {k : Nat} {d : Int} (h : WsTo n es l k 0 d) (hk : k < l.length) (hv : isV l[k] = false) (m : Nat) : WsTo n es l m 3 (k : Int) := by
  rcases h with ⟨_, h2, h3, h4, h5⟩ | ⟨h1, _⟩
  · refine Or.inr ⟨by omega, ?_⟩
    unfold treeF
    rw [if_pos h3]
    exact wsF_bad h4 hk (fun j hj => h5 j (by omega) hj) hv
  · exact absurd rfl h1
theorem WsTo.last {n : Int} {es : List Pair} {l : List Int} {k : Nat} {c d : Int} (h : WsTo n es l k c d) (hk : ¬ (k < l.length ∧ c = 0)) : treeF n es l = (c, d) := by
  rcases h with ⟨h1, h2, h3, h4, h5⟩ | ⟨_, h2⟩
  · unfold treeF
    rw [if_pos h3, h1, h2]
    refine wsF_good h4 (fun x hx => ?_)
    obtain ⟨j, hj, rfl⟩ := List.getElem_of_mem hx
    exact h5 j hj (by omega)
  · exact h2
theorem leastCut' {N a b m : Nat} {ev : Value} {es : List Pair} {wo : Option Addr} {wc0 : Nat} {ws : List Int} {w : World} {f : Nat → Nat → Int} (hm : m = es.length) (hE : EdgesAt w ev es) (hW : NumsZ w wo ws) (hN : N ≤ 9) (hl : es.length ≤ 1000) (hwl : ws.length = es.length) (hg : ∀ e ∈ es, 0 ≤ e.1 ∧ e.1 < N ∧ 0 ≤ e.2 ∧ e.2 < N) (hws : ∀ x ∈ ws, 0 ≤ x ∧ x ≤ 1000000) (hf : AllF es.length (endA es) (endB es) (wtE ws) f) (ha : a < N) (hb : b < N) (hab : a ≠ b) :
    Calls Try.prog 26 #[.agg #[.int .i64 (N : Int), ev], .slice wo m wc0, .int .i64 (a : Int), .int .i64 (b : Int)] w fun r w' => r = .returned (.int .i64 (f a b)) ∧ Below w.heap.size w w' := by
  subst hm
  refine (leastCut_call hE hW hN hl hwl hg hws ha hb).mono ?_
  rintro r w' ⟨c, rfl, hc, hb'⟩
  rw [least_is hf hg ha hb hab hc]
  exact ⟨rfl, hb'⟩
theorem AllF.range {m : Nat} {A B : Nat → Nat} {wt : Nat → Int} {f : Nat → Nat → Int} (hf : AllF m A B wt f) (hw : ∀ a, a < m → 0 ≤ wt a ∧ wt a ≤ 1000000) (hm : m ≤ 1000) {a b : Nat} (hab : a ≠ b) : 0 ≤ f a b ∧ f a b ≤ 1000000000 := by
  obtain ⟨X, _, _, h⟩ := (hf a b hab).1
  have := dcut_le (A := A) (B := B) hw X m (Nat.le_refl _)
  omega
theorem wtE_range {ws : List Int} (h : ∀ x ∈ ws, isV x = true) : ∀ a, a < ws.length → 0 ≤ wtE ws a ∧ wtE ws a ≤ 1000000 := fun a ha => by
  have := h ws[a] (List.getElem_mem ha)
  unfold wtE
  simp [isV] at this
  simp [List.getD, List.getElem?_eq_getElem ha]
  exact this
/-- What Tree answers, for the law: rows of N numbers. -/
def UpCut (N : Nat) (es : List Pair) (ws : List Int) (w : World) (uo : Option Addr) (uc : Nat) (co : Option Addr) (cc : Nat) : Prop :=
  0 < N → ∃ bu bc, uo = some ⟨bu, 0, none⟩ ∧ N = uc ∧ co = some ⟨bc, 0, none⟩ ∧ N = cc ∧ TreeIs N es ws w bu bc
theorem TreeAns.upcut {N : Nat} {es : List Pair} {ws : List Int} {B : Nat} {w : World} {uv cv : Value} (h : TreeAns N es ws B w uv cv) : ∃ uo uc co cc, uv = .slice uo N uc ∧ cv = .slice co N cc ∧ UpCut N es ws w uo uc co cc := by
  rcases h with ⟨rfl, rfl, rfl⟩ | ⟨_, bu, bc, rfl, rfl, ht, _⟩
  · exact ⟨none, 0, none, 0, rfl, rfl, fun h => absurd h (Nat.lt_irrefl _)⟩
  · exact ⟨_, _, _, _, rfl, rfl, fun _ => ⟨bu, bc, rfl, rfl, rfl, rfl, ht⟩⟩
theorem UpCut.below {N : Nat} {es : List Pair} {ws : List Int} {w w' : World} {uo : Option Addr} {uc : Nat} {co : Option Addr} {cc : Nat} (h : UpCut N es ws w uo uc co cc) (hb : Below w.heap.size w w') : UpCut N es ws w' uo uc co cc := fun h0 => by
  obtain ⟨bu, bc, h1, h2, h3, h4, h5⟩ := h h0
  exact ⟨bu, bc, h1, h2, h3, h4, h5.below hb⟩
end Go.Proofs.Ytkakmaalmhofmaa
