/- The edges that a code tells are a graph in form: plain mathematics. -/
import Derived.Test.YtbaghbodjpehpabDoorUnpack
namespace Go.Proofs.YtbaghbodjpehpabDoor

theorem colE_mem {p : Nat → Bool} {j i : Nat} {e : Pair} : e ∈ colE p j i ↔ ∃ k : Nat, k < i ∧ p (plc k j) = true ∧ e = ((k : Int), (j : Int)) := by
  unfold colE
  simp only [List.mem_map, List.mem_filter, List.mem_range]
  constructor
  · rintro ⟨k, ⟨h1, h2⟩, rfl⟩; exact ⟨k, h1, h2, rfl⟩
  · rintro ⟨k, h1, h2, rfl⟩; exact ⟨k, ⟨h1, h2⟩, rfl⟩
theorem colsE_mem {p : Nat → Bool} {n : Nat} {e : Pair} : e ∈ colsE p n ↔ ∃ i j : Nat, i < j ∧ j < n ∧ p (plc i j) = true ∧ e = ((i : Int), (j : Int)) := by
  unfold colsE
  rw [List.mem_flatMap]
  constructor
  · rintro ⟨j, hj, he⟩
    obtain ⟨k, h1, h2, rfl⟩ := colE_mem.1 he
    exact ⟨k, j, h1, List.mem_range.1 hj, h2, rfl⟩
  · rintro ⟨i, j, h1, h2, h3, rfl⟩
    exact ⟨j, List.mem_range.2 h2, colE_mem.2 ⟨i, h1, h3, rfl⟩⟩

theorem colE_nodup (p : Nat → Bool) (j i : Nat) : (colE p j i).Nodup := by
  unfold colE
  refine List.Pairwise.map _ (fun a b h => ?_) (List.Pairwise.filter _ (List.nodup_range (n := i)))
  intro e
  have : (a : Int) = b := congrArg Prod.fst e
  exact h (by omega)
theorem colsE_nodup (p : Nat → Bool) : ∀ n, (colsE p n).Nodup
  | 0 => by simp [colsE]
  | n + 1 => by
    rw [colsE_succ]
    refine List.nodup_append.2 ⟨colsE_nodup p n, colE_nodup p n n, fun a ha b hb e => ?_⟩
    obtain ⟨i, j, h1, h2, _, rfl⟩ := colsE_mem.1 ha
    obtain ⟨k, h3, _, rfl⟩ := colE_mem.1 hb
    have : (j : Int) = n := congrArg Prod.snd e
    omega

/-- Pairs of nodes, the smaller one first, each but once. -/
structure Good (n : Nat) (es : List Pair) : Prop where
  up : ∀ e ∈ es, 0 ≤ e.1 ∧ e.1 < e.2 ∧ e.2 < n
  once : es.Nodup

theorem has_up {n : Nat} {es : List Pair} (h : ∀ e ∈ es, 0 ≤ e.1 ∧ e.1 < e.2 ∧ e.2 < n) {u v : Int} (huv : u < v) : hasB es u v = true ↔ (u, v) ∈ es := by
  unfold hasB
  rw [List.any_eq_true]
  constructor
  · rintro ⟨e, he, hh⟩
    have := h e he
    simp only [Bool.or_eq_true, Bool.and_eq_true, beq_iff_eq] at hh
    have h1 : e = (u, v) := by
      rcases hh with ⟨a, b⟩ | ⟨a, b⟩
      · exact Prod.ext a b
      · omega
    rw [← h1]; exact he
  · intro he
    exact ⟨(u, v), he, by simp⟩

theorem chkFrom_up {n : Nat} : ∀ (es pre : List Pair), (∀ e ∈ pre ++ es, 0 ≤ e.1 ∧ e.1 < e.2 ∧ e.2 < n) → (pre ++ es).Nodup → chkFrom n pre es = (0, 0)
  | [], pre, _, _ => rfl
  | e :: r, pre, h, hd => by
    have he := h e (by simp)
    have hb : bad n pre e = 0 := by
      unfold bad
      have h1 : (isN n e.1 && isN n e.2) = true := by simp [isN]; omega
      rw [if_pos h1, if_neg (by omega)]
      have h2 : ¬ hasB pre e.1 e.2 = true := by
        rw [has_up (n := n) (fun x hx => h x (by simp [hx])) he.2.1]
        intro hm
        exact (List.nodup_append.1 hd).2.2 _ hm e (by simp) rfl
      rw [if_neg h2]
    rw [chkFrom, if_pos hb]
    exact chkFrom_up r _ (by simpa using h) (by simpa using hd)

theorem Good.chk {n : Nat} {es : List Pair} (h : Good n es) (hn : n ≤ 100) (hl : es.length ≤ 1000) : chk n es = (0, 0) := by
  unfold Go.Proofs.YtbaghbodjpehpabDoor.chk
  have : many n es.length = false := by simp [many]; omega
  rw [this]
  exact chkFrom_up es [] (by simpa using h.up) (by simpa using h.once)
theorem colsE_good (p : Nat → Bool) (n : Nat) : Good n (colsE p n) := by
  refine ⟨fun e he => ?_, colsE_nodup p n⟩
  obtain ⟨i, j, h1, h2, _, rfl⟩ := colsE_mem.1 he
  simp
  omega

theorem allP_congr {n : Nat} {p q : Int → Int → Bool} (h : ∀ u v : Nat, u < v → v < n → p u v = q u v) : allP n p = allP n q := by
  have h1 : ∀ u t, t ≤ n → rowTo p u t = rowTo q u t := fun u t => by
    induction t with
    | zero => intro _; rfl
    | succ t ih =>
      intro ht
      rw [rowTo_succ, rowTo_succ, ih (by omega)]
      by_cases hu : u < t
      · rw [h u t hu (by omega)]
      · rw [if_neg (fun hh => hu hh.1), if_neg (fun hh => hu hh.1)]
  have h2 : ∀ u, rowsTo n p u = rowsTo n q u := fun u => by
    induction u with
    | zero => rfl
    | succ u ih => rw [rowsTo_succ, rowsTo_succ, ih, h1 u n (Nat.le_refl _)]
  exact h2 n

theorem Good.len {n : Nat} {es : List Pair} (h : Good n es) : (allP n (hasB es)).length = es.length := by
  refine Nat.le_antisymm (allP_has_le n es) (nodup_len es _ h.once fun e he => ?_)
  have h1 := h.up e he
  rw [allP_mem]
  refine ⟨e.1.toNat, e.2.toNat, by omega, by omega, ?_, Prod.ext (by simp; omega) (by simp; omega)⟩
  have e1 : ((e.1.toNat : Nat) : Int) = e.1 := by omega
  have e2 : ((e.2.toNat : Nat) : Int) = e.2 := by omega
  rw [e1, e2, has_up h.up h1.2.1]
  exact he

theorem formS_cols (p : Nat → Bool) (n : Nat) (hn : n ≤ 100) (q : Int → Int → Bool) (hq : ∀ u v : Nat, u < v → v < n → q u v = p (plc u v)) :
    formS n (colsE p n) = if 1000 < (allP n q).length then ⟨0, [], 2, 0⟩ else ⟨n, allP n q, 0, 0⟩ := by
  have hg := colsE_good p n
  have he : allP n (hasB (colsE p n)) = allP n q := allP_congr fun u v huv hv => by
    rw [hq u v huv hv, Bool.eq_iff_iff, has_up hg.up (by omega), colsE_mem]
    constructor
    · rintro ⟨i, j, _, _, h3, e⟩
      have e1 : (u : Int) = i := congrArg Prod.fst e
      have e2 : (v : Int) = j := congrArg Prod.snd e
      have e3 : u = i := by omega
      have e4 : v = j := by omega
      rw [e3, e4]; exact h3
    · intro h; exact ⟨u, v, huv, hv, h, rfl⟩
  have hl := hg.len
  rw [he] at hl
  by_cases h : 1000 < (allP n q).length
  · rw [if_pos h]
    have hm : chk n (colsE p n) = (2, 0) := by
      unfold chk
      have : many n (colsE p n).length = true := by simp [many]; omega
      rw [if_pos this]
    unfold formS
    rw [hm]
    rfl
  · rw [if_neg h, formS_good (by rw [hg.chk hn (by omega)]), he]
end Go.Proofs.YtbaghbodjpehpabDoor
