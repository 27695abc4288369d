/- A house in memory. -/
import Derived.Test.YtfdlndljpmamgaaMapsL
import Derived.Laws.EntriesVeiled
import Derived.Test.YtfdlndljpmamgaaReachR
namespace Go.Proofs.Ytfdlndljpmamgaa
set_option maxRecDepth 8000
open Go.RowKit Go.Maps
attribute [local go_sem ↓] Go.wp_at_zero Go.wp_at_succ
/-- The first place at which a text stands; behind the end, if it doesn't. -/
def idx : List ByteArray → ByteArray → Nat
  | [], _ => 0
  | x :: l, s => if x = s then 0 else idx l s + 1
theorem idx_le (l : List ByteArray) (s : ByteArray) : idx l s ≤ l.length := by
  induction l with
  | nil => simp [idx]
  | cons x l ih => unfold idx; split <;> simp <;> omega
theorem idx_mem {l : List ByteArray} {s : ByteArray} : idx l s < l.length ↔ s ∈ l := by
  induction l with
  | nil => simp [idx]
  | cons x l ih =>
    unfold idx
    by_cases e : x = s
    · simp [e]
    · simp only [if_neg e, List.length_cons, List.mem_cons]
      constructor
      · exact fun h => Or.inr (ih.1 (by omega))
      · rintro (h | h)
        · exact absurd h.symm e
        · have := ih.2 h; omega
theorem idx_get {l : List ByteArray} {s : ByteArray} (h : idx l s < l.length) : l[idx l s] = s := by
  induction l with
  | nil => simp at h
  | cons x l ih =>
    unfold idx at h
    by_cases e : x = s
    · simp [idx, e]
    · rw [if_neg e] at h
      simp only [idx, if_neg e, List.getElem_cons_succ]
      exact ih (by simpa using h)
theorem idx_app {l m : List ByteArray} {s : ByteArray} (h : s ∈ l) : idx (l ++ m) s = idx l s := by
  induction l with
  | nil => cases h
  | cons x l ih =>
    by_cases e : x = s
    · simp [idx, e]
    · simp only [List.cons_append, idx, if_neg e]
      rw [ih (by cases h with | head => exact absurd rfl e | tail _ h => exact h)]
theorem idx_new {l : List ByteArray} {s : ByteArray} (h : ¬ s ∈ l) : idx l s = l.length := by
  have h1 := idx_le l s
  have h2 := mt idx_mem.1 h
  omega
theorem idx_last {l : List ByteArray} {s : ByteArray} (h : ¬ s ∈ l) : idx (l ++ [s]) s = l.length := by
  induction l with
  | nil => simp [idx]
  | cons x l ih =>
    have e : ¬ x = s := fun e => h (by simp [e])
    simp only [List.cons_append, idx, if_neg e, List.length_cons]
    rw [ih (fun h' => h (List.mem_cons_of_mem _ h'))]
theorem idx_inj {l : List ByteArray} {s t : ByteArray} (hs : s ∈ l) (ht : t ∈ l) (h : idx l s = idx l t) : s = t := by
  have a := idx_get (idx_mem.2 hs)
  have b := idx_get (idx_mem.2 ht)
  rw [← a, ← b]
  simp only [h]
/-- What the map of names tells. -/
def nmOf (L : List ByteArray) : Nm := fun s => if idx L s < L.length then some (idx L s) else none
theorem nmOf_in {L : List ByteArray} {s : ByteArray} (h : s ∈ L) : nmOf L s = some (idx L s) := if_pos (idx_mem.2 h)
theorem nmOf_out {L : List ByteArray} {s : ByteArray} (h : ¬ s ∈ L) : nmOf L s = none := if_neg (fun h' => h (idx_mem.1 h'))
theorem nmOf_push {L : List ByteArray} {s : ByteArray} (h : ¬ s ∈ L) (t : ByteArray) : updN (nmOf L) s (some L.length) t = nmOf (L ++ [s]) t := by
  unfold updN
  by_cases e : t = s
  · subst e; rw [if_pos rfl, nmOf_in (by simp), idx_last h]
  · rw [if_neg e]
    by_cases h2 : t ∈ L
    · rw [nmOf_in h2, nmOf_in (by simp [h2]), idx_app h2]
    · rw [nmOf_out h2, nmOf_out (by simp [h2, e])]
theorem nmOf_pop {L : List ByteArray} {s : ByteArray} (h : ¬ s ∈ L) (t : ByteArray) : updN (nmOf (L ++ [s])) s none t = nmOf L t := by
  unfold updN
  by_cases e : t = s
  · subst e; rw [if_pos rfl, nmOf_out h]
  · rw [if_neg e]
    by_cases h2 : t ∈ L
    · rw [nmOf_in h2, nmOf_in (by simp [h2]), idx_app h2]
    · rw [nmOf_out h2, nmOf_out (by simp [h2, e])]
/-- What takes a change back: none: of a node; some true: of a new edge; some false: of an edge that was cut. -/
abbrev Ck := Option (Bool × Nat × Nat)
def ClosAt (w : World) (b : Nat) : Ck → Value → Prop
  | none, v => v = .func (.func 27) #[ptr b] #[]
  | some (true, u, t), v => ∃ hb eb, v = .func (.func 34) #[] #[ptr hb, ptr eb] ∧ One w hb (ptr b) 24 ∧ Two w eb (.int .i64 (u : Int)) (.int .i64 (t : Int)) 59
  | some (false, u, t), v => ∃ hb eb, v = .func (.func 37) #[] #[ptr hb, ptr eb] ∧ One w hb (ptr b) 24 ∧ Two w eb (.int .i64 (u : Int)) (.int .i64 (t : Int)) 59
structure Hp where
  b : Nat
  nm : Nat
  em : Nat
  tb : Nat
  nv : Value
  kv : Value
  pv : Value
/-- The house's own blocks. -/
def Hp.mine (p : Hp) (x : Nat) : Prop := x = p.b ∨ x = p.nm ∨ x = p.em ∨ x = p.tb ∨ p.nv.ownBlock = some x ∨ p.kv.ownBlock = some x ∨ p.pv.ownBlock = some x
abbrev sv (L : List ByteArray) : List Value := L.map Value.string
def hcells (p : Hp) : Array Value := #[p.nv, .map (some p.nm), .map (some p.em), p.kv, ptr p.tb]
/-- A house in memory, but for what hangs together. -/
structure Hs (w : World) (p : Hp) (L : List ByteArray) (E : Ed) (K : List Ck) (n : Nat) : Prop where
  box : Box w p.b (hcells p) 81
  names : w.ownsRow 0 9 1 p.nv L.length (sv L)
  nums : NumM w p.nm n (nmOf L)
  edges : EdM w p.em n E
  ne : p.nm ≠ p.em
  backs : ∃ ks : List Value, w.ownsRow 0 1 1 p.kv K.length ks ∧ ∀ (i : Nat) (c : Ck), K[i]? = some c → ∃ v, ks[i]? = some v ∧ ClosAt w p.b c v
def St2 (N : Nat) (E : Ed) (a b : Nat) : Prop := b < N ∧ (E a b = true ∨ E b a = true)
/-- What is found out of what hangs together: of each node the least one of its component, and how many components there are. -/
structure Fnd (N : Nat) (E : Ed) (lab : List Nat) (c : Nat) : Prop where
  len : lab.length = N
  same : ∀ u v, u < N → v < N → (lab.getD u 0 = lab.getD v 0 ↔ Star (St2 N E) u v)
  low : ∀ u, u < N → lab.getD u 0 ≤ u ∧ lab.getD (lab.getD u 0) 0 = lab.getD u 0
  count : c = ((List.range N).filter fun v => lab.getD v 0 == v).length
def fresh5 : Array Value := #[.int .u32 0, .int .i32 0, .int .u32 0, .int .i64 0, .slice none 0 0]
def found5 (c : Nat) (pv : Value) : Array Value := #[.int .u32 1, .int .i32 0, .int .u32 0, .int .i64 (c : Int), pv]
/-- A row of labels. -/
def LabAt (w : World) (pv : Value) (N : Nat) (lab : List Nat) : Prop := (N = 0 ∧ pv = .slice none 0 0) ∨ ∃ g cap, pv = .slice (some ⟨g, 0, none⟩) N cap ∧ RowC w g 3 N (fun i => .int .i64 ((lab.getD i 0 : Nat) : Int))
theorem LabAt.obj {w : World} {pv : Value} {N : Nat} {lab : List Nat} (h : LabAt w pv N lab) {x : Nat} (hx : pv.ownBlock = some x) : ∃ cs, w.heap[x]? = some (.cells cs 3 (0, 0)) := by
  rcases h with ⟨_, rfl⟩ | ⟨g, cap, rfl, cur, h1, _⟩
  · cases hx
  · injection hx with hx
    subst hx
    exact ⟨cur, h1⟩
theorem LabAt.turns {w w' : World} {pv : Value} {N : Nat} {lab : List Nat} {M : Nat → Prop} (h : LabAt w pv N lab) (ht : Turns M w w') (hM : ∀ x, pv.ownBlock = some x → ¬ M x) : LabAt w' pv N lab := by
  rcases h with h | ⟨g, cap, rfl, h2⟩
  · exact Or.inl h
  · exact Or.inr ⟨g, cap, rfl, h2.turns ht (hM g rfl)⟩
def Tog (w : World) (tb : Nat) (pv : Value) (N : Nat) (E : Ed) : Prop :=
  (pv = .slice none 0 0 ∧ Box w tb fresh5 78) ∨ (∃ lab c, Fnd N E lab c ∧ LabAt w pv N lab ∧ Box w tb (found5 c pv) 78)
/-- A house in memory. -/
def Hse (w : World) (p : Hp) (L : List ByteArray) (E : Ed) (K : List Ck) (n : Nat) : Prop := Hs w p L E K n ∧ Tog w p.tb p.pv L.length E
theorem ClosAt.turns {w w' : World} {b : Nat} {c : Ck} {v : Value} {M : Nat → Prop} (h : ClosAt w b c v) (ht : Turns M w w') (hM : ∀ x, M x → ∀ cs t, w.heap[x]? = some (.cells cs t (0, 0)) → t ≠ 24 ∧ t ≠ 59) : ClosAt w' b c v := by
  match c, h with
  | none, h => exact h
  | some (true, u, t), ⟨hb, eb, h1, h2, h3⟩ => exact ⟨hb, eb, h1, one_turns h2 ht (fun hm => (hM _ hm _ _ h2).1 rfl), two_turns h3 ht (fun hm => (hM _ hm _ _ h3).2 rfl)⟩
  | some (false, u, t), ⟨hb, eb, h1, h2, h3⟩ => exact ⟨hb, eb, h1, one_turns h2 ht (fun hm => (hM _ hm _ _ h2).1 rfl), two_turns h3 ht (fun hm => (hM _ hm _ _ h3).2 rfl)⟩
theorem row_obj {w : World} {t : TypeId} {v : Value} {n : Nat} {xs : List Value} (h : w.ownsRow 0 t 1 v n xs) {x : Nat} (hx : v.ownBlock = some x) : ∃ cs, w.heap[x]? = some (.cells cs t (0, 0)) := own_cells h hx
theorem row_turns {w w' : World} {t : TypeId} {v : Value} {n : Nat} {xs : List Value} {M : Nat → Prop} (h : w.ownsRow 0 t 1 v n xs) (ht : Turns M w w') (hM : ∀ x, v.ownBlock = some x → ¬ M x) : w'.ownsRow 0 t 1 v n xs :=
  ownsRow_blocks h fun x hx => by
    obtain ⟨cs, hc⟩ := row_obj h hx
    exact ht.block x (lt_of_block hc) (hM x hx)
def OwnT (t : TypeId) : Prop := t = 81 ∨ t = 9 ∨ t = 1 ∨ t = 78 ∨ t = 3
/-- A house's own blocks are maps, or rows of certain types. -/
theorem Hse.types {w : World} {p : Hp} {L : List ByteArray} {E : Ed} {K : List Ck} {n : Nat} (h : Hse w p L E K n) {x : Nat} (hx : p.mine x) : (∃ es c, w.heap[x]? = some (.map es c)) ∨ (∃ cs t, w.heap[x]? = some (.cells cs t (0, 0)) ∧ OwnT t) := by
  obtain ⟨⟨h1, h2, h3, h4, h5, ks, h6, h7⟩, h8⟩ := h
  rcases hx with rfl | rfl | rfl | rfl | hx | hx | hx
  · exact Or.inr ⟨_, _, h1, by simp [OwnT]⟩
  · exact Or.inl h3.obj
  · exact Or.inl h4.obj
  · rcases h8 with ⟨_, h8⟩ | ⟨_, _, _, _, h8⟩ <;> exact Or.inr ⟨_, _, h8, by simp [OwnT]⟩
  · obtain ⟨cs, hc⟩ := row_obj h2 hx
    exact Or.inr ⟨_, _, hc, by simp [OwnT]⟩
  · obtain ⟨cs, hc⟩ := row_obj h6 hx
    exact Or.inr ⟨_, _, hc, by simp [OwnT]⟩
  · rcases h8 with ⟨h8, _⟩ | ⟨_, _, _, h8, _⟩
    · rw [h8] at hx; cases hx
    · obtain ⟨cs, hc⟩ := h8.obj hx
      exact Or.inr ⟨_, _, hc, by simp [OwnT]⟩
theorem Hse.notBox {w : World} {p : Hp} {L : List ByteArray} {E : Ed} {K : List Ck} {n : Nat} (h : Hse w p L E K n) {x : Nat} (hx : p.mine x) (cs : Array Value) (t : TypeId) (hc : w.heap[x]? = some (.cells cs t (0, 0))) : t ≠ 24 ∧ t ≠ 59 := by
  rcases h.types hx with ⟨es, c, h1⟩ | ⟨cs', t', h1, h2⟩
  · rw [hc] at h1; cases h1
  · rw [hc] at h1
    cases h1
    rcases h2 with rfl | rfl | rfl | rfl | rfl <;> decide
theorem Hse.lt {w : World} {p : Hp} {L : List ByteArray} {E : Ed} {K : List Ck} {n : Nat} (h : Hse w p L E K n) {x : Nat} (hx : p.mine x) : x < w.heap.size := by
  rcases h.types hx with ⟨es, c, h1⟩ | ⟨cs', t', h1, h2⟩
  · exact lt_of_block h1
  · exact lt_of_block h1
/-- What turns nothing of a house leaves it as it is. -/
theorem Hse.turns {w w' : World} {p : Hp} {L : List ByteArray} {E : Ed} {K : List Ck} {n : Nat} {M : Nat → Prop} (h : Hse w p L E K n) (ht : Turns M w w') (hM : ∀ x, M x → ¬ p.mine x) (hB : ∀ x, M x → ∀ cs t, w.heap[x]? = some (.cells cs t (0, 0)) → t ≠ 24 ∧ t ≠ 59) : Hse w' p L E K n := by
  have hlt := fun x hx => h.lt (x := x) hx
  obtain ⟨⟨h1, h2, h3, h4, h5, ks, h6, h7⟩, h8⟩ := h
  have no : ∀ x, p.mine x → ¬ M x := fun x hx hm => hM x hm hx
  refine ⟨⟨box_turns h1 ht (no _ (Or.inl rfl)), row_turns h2 ht (fun x hx => no x (by simp [Hp.mine, hx])), h3.block (ht.block _ h3.lt (no _ (by simp [Hp.mine]))), h4.block (ht.block _ h4.lt (no _ (by simp [Hp.mine]))), h5, ks, row_turns h6 ht (fun x hx => no x (by simp [Hp.mine, hx])), fun i c hc => ?_⟩, ?_⟩
  · obtain ⟨v, hv, hcl⟩ := h7 i c hc
    exact ⟨v, hv, hcl.turns ht hB⟩
  · rcases h8 with ⟨h8, h9⟩ | ⟨lab, c, h8, h9, h10⟩
    · exact Or.inl ⟨h8, box_turns h9 ht (no _ (by simp [Hp.mine]))⟩
    · exact Or.inr ⟨lab, c, h8, h9.turns ht (fun x hx => no x (by simp [Hp.mine, hx])), box_turns h10 ht (no _ (by simp [Hp.mine]))⟩
theorem Hse.below {w w' : World} {p : Hp} {L : List ByteArray} {E : Ed} {K : List Ck} {n : Nat} (h : Hse w p L E K n) (hb : Below w.heap.size w w') : Hse w' p L E K n :=
  h.turns (Turns.of_below hb (fun _ => False)) (fun _ hx => hx.elim) (fun _ hx => hx.elim)
/-- What one house does leaves the other one as it is. -/
theorem Hse.other {w w' : World} {p q : Hp} {L L' : List ByteArray} {E E' : Ed} {K K' : List Ck} {n n' : Nat} (h : Hse w p L E K n) (hq : Hse w q L' E' K' n') (ht : Turns q.mine w w') (hd : ∀ x, p.mine x → ¬ q.mine x) : Hse w' p L E K n :=
  h.turns ht (fun x hx hp => hd x hp hx) (fun _ hx cs t hc => hq.notBox hx cs t hc)
end Go.Proofs.Ytfdlndljpmamgaa
