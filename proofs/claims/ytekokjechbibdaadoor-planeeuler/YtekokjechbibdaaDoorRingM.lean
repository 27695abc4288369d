/- Walks that come back: a way is laid through a face, and two faces come of it. -/
import Derived.Test.YtekokjechbibdaaDoorSetM
namespace Go.Proofs.YtekokjechbibdaaDoor
/-- P holds from each node to the next one. -/
def Chn (P : Nat → Nat → Prop) : List Nat → Prop
  | [] => True
  | [_] => True
  | a :: b :: l => P a b ∧ Chn P (b :: l)
theorem chn_cons {P : Nat → Nat → Prop} {a b : Nat} {l : List Nat} : Chn P (a :: b :: l) ↔ (P a b ∧ Chn P (b :: l)) := Iff.rfl
theorem chn_one {P : Nat → Nat → Prop} {a : Nat} : Chn P [a] := trivial
/-- P holds from each node to the next one, and from the last one to the first. -/
def RingP (P : Nat → Nat → Prop) (l : List Nat) : Prop := Chn P (l ++ l.take 1)
theorem chain_append {P : Nat → Nat → Prop} {l1 l2 : List Nat} {a : Nat} : Chn P (l1 ++ a :: l2) ↔ (Chn P (l1 ++ [a]) ∧ Chn P (a :: l2)) := by
  induction l1 with
  | nil => exact ⟨fun h => ⟨trivial, h⟩, fun h => h.2⟩
  | cons x l ih =>
    cases l with
    | nil => exact ⟨fun h => ⟨⟨h.1, trivial⟩, h.2⟩, fun h => ⟨h.1.1, h.2⟩⟩
    | cons y l =>
      simp only [List.cons_append, chn_cons] at ih ⊢
      rw [ih, and_assoc]
theorem RingP.turn {P : Nat → Nat → Prop} {a b : Nat} {X Y : List Nat} : RingP P (a :: X ++ b :: Y) ↔ (Chn P (a :: X ++ [b]) ∧ Chn P (b :: Y ++ [a])) := by
  unfold RingP
  rw [show (a :: X ++ b :: Y) ++ (a :: X ++ b :: Y).take 1 = (a :: X) ++ b :: (Y ++ [a]) by simp]
  rw [chain_append]; rfl
theorem chain_rev {P : Nat → Nat → Prop} (hs : ∀ x y, P x y → P y x) : ∀ {l : List Nat}, Chn P l → Chn P l.reverse
  | [], _ => trivial
  | [a], _ => trivial
  | a :: b :: l, h => by
    have h' := chn_cons.1 h
    have ih := chain_rev hs h'.2
    rw [List.reverse_cons, List.reverse_cons, List.append_assoc]
    rw [List.reverse_cons] at ih
    rw [show [b] ++ [a] = b :: [a] from rfl, chain_append]
    exact ⟨ih, hs _ _ h'.1, trivial⟩
theorem split_at {l : List Nat} {i : Nat} {a : Nat} (h : l[i]? = some a) : l = l.take i ++ a :: l.drop (i + 1) := by
  obtain ⟨hi, rfl⟩ := List.getElem?_eq_some_iff.1 h
  rw [← List.drop_eq_getElem_cons hi, List.take_append_drop]
/-- The two ways between two places of a walk that comes back. -/
structure Two2 (l : List Nat) (i j : Nat) (a b : Nat) (X Y : List Nat) : Prop where
  ij : along l i j = a :: Y ++ [b]
  ji : along l j i = b :: X ++ [a]
  rot : ∃ p q, l = p ++ q ∧ q ++ p = b :: X ++ a :: Y
theorem along_two {l : List Nat} {i j a b : Nat} (hi : l[i]? = some a) (hj : l[j]? = some b) (hne : i ≠ j) : ∃ X Y, Two2 l i j a b X Y := by
  have key : ∀ {i j a b : Nat}, l[i]? = some a → l[j]? = some b → i < j → ∃ X Y, along l i j = a :: Y ++ [b] ∧ along l j i = b :: X ++ [a] ∧ l.take i ++ (a :: Y ++ b :: l.drop (j + 1)) = l ∧ X = l.drop (j + 1) ++ l.take i := by
    intro i j a b hi hj h
    have hjl := (List.getElem?_eq_some_iff.1 hj).1
    have e1 := split_at hi
    have hj' : (l.drop (i + 1))[j - (i + 1)]? = some b := by rw [List.getElem?_drop, ← hj]; congr 1; omega
    have e2 := split_at hj'
    rw [List.drop_drop, show i + 1 + (j - (i + 1) + 1) = j + 1 by omega] at e2
    obtain ⟨Y, hY⟩ : ∃ Y, Y = (l.drop (i + 1)).take (j - (i + 1)) := ⟨_, rfl⟩
    rw [← hY] at e2
    have hYl : Y.length = j - (i + 1) := by rw [hY, List.length_take, List.length_drop]; omega
    have hTl : (l.take i).length = i := by rw [List.length_take]; omega
    have e3 : l = l.take i ++ (a :: Y ++ b :: l.drop (j + 1)) := by
      conv => lhs; rw [e1, e2]
      simp
    have tk : l.take (j + 1) = l.take i ++ (a :: Y ++ [b]) := by
      conv => lhs; rw [e3]
      rw [show l.take i ++ (a :: Y ++ b :: l.drop (j + 1)) = (l.take i ++ (a :: Y ++ [b])) ++ l.drop (j + 1) by simp]
      rw [List.take_append_of_le_length (by simp [hTl, hYl]; omega), List.take_of_length_le (by simp [hTl, hYl]; omega)]
    have tki : l.take (i + 1) = l.take i ++ [a] := by
      conv => lhs; rw [e1]
      rw [show l.take i ++ a :: l.drop (i + 1) = (l.take i ++ [a]) ++ l.drop (i + 1) by simp]
      rw [List.take_append_of_le_length (by simp [hTl]), List.take_of_length_le (by simp [hTl])]
    have dr : l.drop j = b :: l.drop (j + 1) := by
      obtain ⟨_, rfl⟩ := List.getElem?_eq_some_iff.1 hj
      exact List.drop_eq_getElem_cons hjl
    refine ⟨l.drop (j + 1) ++ l.take i, Y, ?_, ?_, e3.symm, rfl⟩
    · unfold along
      rw [if_pos (by omega), tk, List.drop_append_of_le_length (by omega), List.drop_of_length_le (by omega)]
      simp
    · unfold along
      rw [if_neg (by omega), tki, dr]
      simp
  rcases Nat.lt_or_gt_of_ne hne with h | h
  · obtain ⟨X, Y, h1, h2, h3, h4⟩ := key hi hj h
    refine ⟨X, Y, h1, h2, l.take i ++ (a :: Y), b :: l.drop (j + 1), ?_, ?_⟩
    · conv => lhs; rw [← h3]
      simp
    · rw [h4]; simp
  · obtain ⟨X, Y, h1, h2, h3, h4⟩ := key hj hi h
    refine ⟨Y, X, h2, h1, l.take j, b :: Y ++ a :: l.drop (i + 1), h3.symm, ?_⟩
    rw [h4]; simp
theorem RingP.rot {P : Nat → Nat → Prop} {p q : List Nat} (h : RingP P (p ++ q)) : RingP P (q ++ p) := by
  cases p with
  | nil => simpa using h
  | cons a X =>
    cases q with
    | nil => simpa using h
    | cons b Y =>
      rw [RingP.turn] at h
      have := (RingP.turn (P := P) (a := b) (b := a) (X := Y) (Y := X)).2 ⟨h.2, h.1⟩
      exact this
variable {P : Nat → Nat → Prop} {l X Y : List Nat} {i j a b : Nat}
theorem Two2.chains (h : Two2 l i j a b X Y) (hr : RingP P l) : Chn P (b :: X ++ [a]) ∧ Chn P (a :: Y ++ [b]) := by
  obtain ⟨p, q, rfl, e⟩ := h.rot
  have := hr.rot
  rw [e] at this
  exact RingP.turn.1 this
theorem Two2.perm (h : Two2 l i j a b X Y) : (b :: X ++ a :: Y).Perm l := by
  obtain ⟨p, q, rfl, e⟩ := h.rot
  rw [← e]
  exact List.perm_append_comm
/-- The one face behind a way that is laid. -/
theorem Two2.one (h : Two2 l i j a b X Y) (hr : RingP P l) {I : List Nat} (hw : Chn P (a :: I ++ [b])) : RingP P (along l j i ++ I) := by
  rw [h.ji, show b :: X ++ [a] ++ I = b :: X ++ a :: I by simp]
  exact RingP.turn.2 ⟨(h.chains hr).1, hw⟩
theorem Two2.other (h : Two2 l i j a b X Y) (hs : ∀ x y, P x y → P y x) (hr : RingP P l) {I : List Nat} (hw : Chn P (a :: I ++ [b])) : RingP P (along l i j ++ I.reverse) := by
  rw [h.ij, show a :: Y ++ [b] ++ I.reverse = a :: Y ++ b :: I.reverse by simp]
  refine RingP.turn.2 ⟨(h.chains hr).2, ?_⟩
  have := chain_rev hs hw
  simpa using this
theorem Two2.len (h : Two2 l i j a b X Y) : (along l j i).length = X.length + 2 ∧ (along l i j).length = Y.length + 2 ∧ l.length = X.length + Y.length + 2 := by
  refine ⟨by rw [h.ji]; simp, by rw [h.ij]; simp, ?_⟩
  rw [← h.perm.length_eq]; simp; omega
theorem Two2.nodup (h : Two2 l i j a b X Y) (hn : l.Nodup) {I : List Nat} (hI : I.Nodup) (hd : ∀ x ∈ I, x ∉ l) : (along l j i ++ I).Nodup ∧ (along l i j ++ I.reverse).Nodup := by
  have hp := (h.perm.nodup_iff).2 hn
  have hm : ∀ x, x ∈ l ↔ x ∈ b :: X ++ a :: Y := fun x => h.perm.symm.mem_iff
  have hsub : (b :: X ++ [a]).Nodup := by
    refine List.Nodup.sublist ?_ hp
    rw [show b :: X ++ a :: Y = (b :: X ++ [a]) ++ Y by simp]
    exact List.sublist_append_left _ _
  have hsub2 : (a :: Y ++ [b]).Nodup := by
    have h1 : (a :: Y ++ b :: X).Nodup := (List.perm_append_comm.nodup_iff).1 hp
    refine List.Nodup.sublist ?_ h1
    rw [show a :: Y ++ b :: X = (a :: Y ++ [b]) ++ X by simp]
    exact List.sublist_append_left _ _
  refine ⟨?_, ?_⟩
  · rw [h.ji, List.nodup_append]
    refine ⟨hsub, hI, fun x hx y hy e => ?_⟩
    subst e
    refine hd x hy ((hm x).2 ?_)
    simp at hx ⊢
    rcases hx with h | h | h
    · exact Or.inl h
    · exact Or.inr (Or.inl h)
    · exact Or.inr (Or.inr (Or.inl h))
  · rw [h.ij, List.nodup_append]
    refine ⟨hsub2, (List.reverse_perm I).nodup_iff.2 hI, fun x hx y hy e => ?_⟩
    subst e
    refine hd x (List.mem_reverse.1 hy) ((hm x).2 ?_)
    simp at hx ⊢
    rcases hx with h | h | h
    · exact Or.inr (Or.inr (Or.inl h))
    · exact Or.inr (Or.inr (Or.inr h))
    · exact Or.inl h
end Go.Proofs.YtekokjechbibdaaDoor
