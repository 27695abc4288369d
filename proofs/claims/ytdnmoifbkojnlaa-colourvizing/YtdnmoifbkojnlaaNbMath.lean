/- The nodes that have an edge with one, by the list of edges in form. -/
import Derived.Test.YtdnmoifbkojnlaaParts
namespace Go.Proofs.Ytdnmoifbkojnlaa

def nbF (i : Nat) (e : Pair) : List Nat := if e.1 = (i : Int) then [e.2.toNat] else if e.2 = (i : Int) then [e.1.toNat] else []
def nbOf (es : List Pair) (i : Nat) : List Nat := es.flatMap (nbF i)
theorem nbOf_take {es : List Pair} {k x y : Nat} (h : es[k]? = some ((x : Int), (y : Int))) (i : Nat) : nbOf (es.take (k + 1)) i = nbOf (es.take k) i ++ (if x = i then [y] else if y = i then [x] else []) := by
  obtain ⟨h1, h2⟩ := List.getElem?_eq_some_iff.1 h
  unfold nbOf
  rw [List.take_succ_eq_append_getElem h1, h2, List.flatMap_append]
  congr 1
  simp only [List.flatMap_cons, List.flatMap_nil, List.append_nil, nbF]
  by_cases c1 : x = i
  · subst c1; simp
  · have : ¬ (x : Int) = (i : Int) := by omega
    rw [if_neg this, if_neg c1]
    by_cases c2 : y = i
    · subst c2; simp
    · have : ¬ (y : Int) = (i : Int) := by omega
      rw [if_neg this, if_neg c2]
theorem flatMap_nil_of {α β : Type} {l : List α} {f : α → List β} (h : ∀ x ∈ l, f x = []) : l.flatMap f = [] := by
  induction l with
  | nil => rfl
  | cons a l ih => rw [List.flatMap_cons, h a (by simp), ih (fun x hx => h x (by simp [hx]))]; rfl
theorem flatMap_congr' {α β : Type} {l : List α} {f g : α → List β} (h : ∀ x ∈ l, f x = g x) : l.flatMap f = l.flatMap g := by
  induction l with
  | nil => rfl
  | cons a l ih => rw [List.flatMap_cons, List.flatMap_cons, h a (by simp), ih (fun x hx => h x (by simp [hx]))]
theorem flatMap_if {l : List Nat} (p : Nat → Bool) : (l.flatMap fun u => if p u = true then [u] else []) = l.filter p := by
  induction l with
  | nil => rfl
  | cons a l ih =>
    rw [List.flatMap_cons, ih, List.filter_cons]
    by_cases h : p a = true
    · simp [h]
    · simp [h]

section
variable {m : Nat} {p : Int → Int → Bool}
theorem row_self {i : Nat} : (rowTo p i m).flatMap (nbF i) = (List.range m).filter fun (x : Nat) => decide (i < x) && p i x := by
  unfold rowTo
  rw [List.flatMap_map]
  have : ∀ l : List Nat, (l.flatMap fun (j : Nat) => nbF i ((i : Int), (j : Int))) = l := fun l => by
    induction l with
    | nil => rfl
    | cons a l ih => rw [List.flatMap_cons, ih]; simp [nbF]
  exact this _
theorem row_low {u i : Nat} (h : u < i) (hi : i < m) : (rowTo p u m).flatMap (nbF i) = if p u i = true then [u] else [] := by
  unfold rowTo
  rw [List.flatMap_map]
  have key : ∀ l : List Nat, l.Nodup → (l.flatMap fun (j : Nat) => nbF i ((u : Int), (j : Int))) = if i ∈ l then [u] else [] := fun l => by
    induction l with
    | nil => intro _; rfl
    | cons a l ih =>
      intro hn
      have hn' := List.nodup_cons.1 hn
      rw [List.flatMap_cons, ih hn'.2]
      have hu : ¬ (u : Int) = (i : Int) := by omega
      by_cases c : a = i
      · subst c
        simp [nbF, hu, hn'.1]
      · have : ¬ (a : Int) = (i : Int) := by omega
        simp only [nbF, if_neg hu, if_neg this, List.nil_append, List.mem_cons]
        by_cases c2 : i ∈ l
        · rw [if_pos c2, if_pos (Or.inr c2)]
        · rw [if_neg c2, if_neg (fun h => h.elim (fun h => c h.symm) c2)]
  rw [key _ (List.nodup_range.filter _)]
  by_cases c : p u i = true
  · rw [if_pos c, if_pos]
    simp [h, hi, c]
  · rw [if_neg c, if_neg]
    simp [h, hi, c]
theorem row_high {u i : Nat} (h : i < u) : (rowTo p u m).flatMap (nbF i) = [] := by
  unfold rowTo
  rw [List.flatMap_map]
  refine flatMap_nil_of fun j hj => ?_
  simp at hj
  have h1 : ¬ (u : Int) = (i : Int) := by omega
  have h2 : ¬ (j : Int) = (i : Int) := by omega
  simp [nbF, h1, h2]
/-- The list of the nodes that have an edge with i rises. -/
theorem nbOf_all (hs : ∀ u v : Nat, p u v = p v u) (hd : ∀ u : Nat, p u u = false) {i : Nat} (hi : i < m) : nbOf (allP m p) i = (List.range m).filter fun (x : Nat) => p i x := by
  obtain ⟨k, hk⟩ : ∃ k, m = i + (k + 1) := ⟨m - i - 1, by omega⟩
  unfold nbOf allP rowsTo
  rw [List.flatMap_assoc]
  have hsplit : List.range m = List.range i ++ (i :: (List.range k).map fun j => i + (j + 1)) := by
    rw [hk, List.range_add, List.range_succ_eq_map]
    simp [Function.comp_def]
  rw [hsplit, List.flatMap_append, List.flatMap_cons, List.filter_append, List.filter_cons, hd i]
  have h1 : ((List.range i).flatMap fun u => (rowTo p u m).flatMap (nbF i)) = (List.range i).filter fun (x : Nat) => p i x := by
    rw [← flatMap_if]
    refine flatMap_congr' fun u hu => ?_
    rw [row_low (by simpa using hu) hi, hs u i]
  have h2 : (((List.range k).map fun j => i + (j + 1)).flatMap fun u => (rowTo p u m).flatMap (nbF i)) = [] :=
    flatMap_nil_of fun u hu => by
      simp at hu
      obtain ⟨j, _, rfl⟩ := hu
      exact row_high (by omega)
  rw [h1, h2, row_self, hsplit]
  congr 1
  rw [List.append_nil, List.filter_append, List.filter_cons]
  have h3 : (List.range i).filter (fun (x : Nat) => decide (i < x) && p i x) = [] := List.filter_eq_nil_iff.2 fun u hu => by
    simp at hu
    simp
    omega
  rw [h3]
  simp [hd i]
  refine List.filter_congr fun x hx => ?_
  simp at hx
  obtain ⟨j, _, rfl⟩ := hx
  simp
end
end Go.Proofs.Ytdnmoifbkojnlaa
