/- How the search for a shortest way goes on. -/
import Derived.Test.YtkkfjfphmlcieaaHoleM
namespace Go.Proofs.Ytkkfjfphmlcieaa
section
variable {N : Nat} {adj : Nat → Nat → Bool} {opn lst : Nat → Bool} {a : Nat} {Q : List Nat} {bk : Nat → Int} {i : Nat}
def updB (bk : Nat → Int) (u : Nat) (x : Int) : Nat → Int := fun z => if z = u then x else bk z
theorem Bq.start (ha : a < N) : Bq N adj opn lst a [a] (updB (fun _ => -1) a a) 0 where
  pos := by simp
  first := rfl
  lt := fun x hx => by rw [List.mem_singleton.1 hx]; exact ha
  nd := by simp
  self := if_pos rfl
  met := fun x _ => by
    unfold updB
    by_cases e : x = a
    · subst e; simp
    · simp [e]
  back := fun k h0 h1 => by simp at h1; omega
  shut := fun l h => by omega
theorem getD_pushC {L : List Nat} {x k : Nat} (h : k < L.length) : (L ++ [x]).getD k 0 = L.getD k 0 := by simp [List.getD, List.getElem?_append_left h]
theorem getD_lastC {L : List Nat} {x : Nat} : (L ++ [x]).getD L.length 0 = x := by simp [List.getD]
theorem Bq.push (h : Bq N adj opn lst a Q bk i) (hi : i < Q.length) {u : Nat} (hu : u < N) (hb : bk u = -1) (hl : lst u = false) (ho : opn u = true) (ha : adj (Q.getD i 0) u = true) : Bq N adj opn lst a (Q ++ [u]) (updB bk u (Q.getD i 0)) i := by
  have huQ := (h.met u hu).1 hb
  have hne : ∀ x ∈ Q, x ≠ u := fun x hx e => huQ (e ▸ hx)
  have haQ : a ∈ Q := by rw [← h.first]; exact getD_memC h.pos
  refine ⟨by simp, by rw [getD_pushC h.pos]; exact h.first, fun x hx => ?_, ?_, ?_, fun x hx => ?_, fun k h0 h1 => ?_, fun l h1 h2 y hy hya => ?_⟩
  · rcases List.mem_append.1 hx with h1 | h1
    · exact h.lt x h1
    · rw [List.mem_singleton.1 h1]; exact hu
  · rw [List.nodup_append]
    exact ⟨h.nd, by simp, fun x hx y hy e => by rw [List.mem_singleton.1 hy] at e; exact hne x hx e⟩
  · unfold updB; rw [if_neg (hne a haQ)]; exact h.self
  · unfold updB
    by_cases e : x = u
    · subst e
      rw [if_pos rfl]
      simp
    · rw [if_neg e, h.met x hx]
      simp [e]
  · by_cases hk : k < Q.length
    · obtain ⟨h2, h3, p, hp, hpi, hbk, had, hf⟩ := h.back k h0 hk
      rw [getD_pushC hk]
      refine ⟨h2, h3, p, hp, hpi, ?_, ?_, fun l hl => ?_⟩
      · unfold updB; rw [if_neg (hne _ (getD_memC hk)), getD_pushC (by omega)]; exact hbk
      · rw [getD_pushC (by omega)]; exact had
      · rw [getD_pushC (by omega)]; exact hf l hl
    · have hkq : k = Q.length := by simp at h1; omega
      subst hkq
      rw [getD_lastC]
      refine ⟨ho, hl, i, hi, Nat.le_refl _, ?_, ?_, fun l hl' => ?_⟩
      · unfold updB; rw [if_pos rfl, getD_pushC hi]
      · rw [getD_pushC hi]; exact ha
      · rw [getD_pushC (by omega)]
        cases hc : adj (Q.getD l 0) u with
        | false => rfl
        | true =>
          rcases h.shut l hl' (by omega) u hu hc with h1 | h1
          · exact absurd h1 huQ
          · rw [ho] at h1; cases h1.2
  · have hl2 : l < Q.length := by omega
    rw [getD_pushC hl2] at hya
    rcases h.shut l h1 hl2 y hy hya with h3 | h3
    · exact Or.inl (List.mem_append.2 (Or.inl h3))
    · exact Or.inr h3
theorem Bq.next (h : Bq N adj opn lst a Q bk i) (hall : ∀ y, y < N → adj (Q.getD i 0) y = true → y ∈ Q ∨ (lst y = false ∧ opn y = false)) : Bq N adj opn lst a Q bk (i + 1) := by
  refine ⟨h.pos, h.first, h.lt, h.nd, h.self, h.met, fun k h0 h1 => ?_, fun l h1 h2 y hy hya => ?_⟩
  · obtain ⟨h2, h3, p, hp, hpi, hr⟩ := h.back k h0 h1
    exact ⟨h2, h3, p, hp, by omega, hr⟩
  · by_cases e : l = i
    · subst e; exact hall y hy hya
    · exact h.shut l (by omega) h2 y hy hya
theorem Bq.len (h : Bq N adj opn lst a Q bk i) : Q.length ≤ N := by
  have : ∀ (l m : List Nat), l.Nodup → (∀ e ∈ l, e ∈ m) → l.length ≤ m.length := by
    intro l
    induction l with
    | nil => intro m _ _; exact Nat.zero_le _
    | cons x l ih =>
      intro m hn hs
      have hn' := List.nodup_cons.1 hn
      have hx := hs x (by simp)
      have h1 := ih (m.erase x) hn'.2 (fun e he => (List.mem_erase_of_ne (fun (h : e = x) => hn'.1 (h ▸ he))).2 (hs e (by simp [he])))
      rw [List.length_erase_of_mem hx] at h1
      have := List.length_pos_of_mem hx
      simp
      omega
  have := this Q (List.range N) h.nd (fun e he => List.mem_range.2 (h.lt e he))
  simpa using this
/-- There is a way back. -/
theorem Bq.some (h : Bq N adj opn lst a Q bk i) : ∀ k, k < Q.length → ∃ W, Chain bk (Q.getD k 0) W ∧ (∀ x ∈ W, x ∈ Q) ∧ W.length ≤ k + 1 := by
  intro k
  induction k using Nat.strongRecOn with
  | _ k ih =>
    intro hk
    by_cases hk0 : k = 0
    · subst hk0
      refine ⟨[Q.getD 0 0], Chain.one (by rw [h.first]; exact h.self), fun x hx => ?_, by simp⟩
      rw [List.mem_singleton.1 hx]; exact getD_memC hk
    · obtain ⟨_, _, p, hp, _, hbk, _⟩ := h.back k (by omega) hk
      obtain ⟨W, h1, h2, h3⟩ := ih p hp (by omega)
      refine ⟨Q.getD k 0 :: W, Chain.cons hbk (fun e => ?_) h1, fun x hx => ?_, by simp; omega⟩
      · have := getD_injC h.nd (by omega) hk e
        omega
      · rcases List.mem_cons.1 hx with rfl | hx
        · exact getD_memC hk
        · exact h2 x hx
/-- .. and from the last node. -/
theorem Bq.back' (h : Bq N adj opn lst a Q bk i) (hi : i < Q.length) {u : Nat} (hu : u < N) (hb : bk u = -1) : ∃ W, Chain (updB bk u (Q.getD i 0)) u W ∧ (∀ x ∈ W, x < N) ∧ W.length ≤ N + 1 := by
  have huQ := (h.met u hu).1 hb
  have conv : ∀ {v W}, Chain bk v W → (∀ x ∈ W, x ∈ Q) → Chain (updB bk u (Q.getD i 0)) v W := fun {v W} hc => by
    induction hc with
    | @one z h1 =>
      intro hq
      have hz : z ≠ u := fun e => huQ (by rw [← e]; exact hq z (by simp))
      exact Chain.one (by unfold updB; rw [if_neg hz]; exact h1)
    | @cons z p l h1 h2 _ ih =>
      intro hq
      have hz : z ≠ u := fun e => huQ (by rw [← e]; exact hq z (by simp))
      exact Chain.cons (by unfold updB; rw [if_neg hz]; exact h1) h2 (ih (fun x hx => hq x (by simp [hx])))
  obtain ⟨W, h1, h2, h3⟩ := h.some i hi
  have := h.len
  refine ⟨u :: W, Chain.cons (p := Q.getD i 0) (by unfold updB; rw [if_pos rfl]) (fun e => huQ (e ▸ getD_memC hi)) (conv h1 h2), fun x hx => ?_, by simp; omega⟩
  rcases List.mem_cons.1 hx with rfl | hx
  · exact hu
  · exact h.lt x (h2 x hx)
theorem chain_head {bk : Nat → Int} {v : Nat} {W : List Nat} (h : Chain bk v W) : ∃ l, W = v :: l := by
  cases h with
  | one _ => exact ⟨[], rfl⟩
  | cons _ _ _ => exact ⟨_, rfl⟩
end
end Go.Proofs.Ytkkfjfphmlcieaa
