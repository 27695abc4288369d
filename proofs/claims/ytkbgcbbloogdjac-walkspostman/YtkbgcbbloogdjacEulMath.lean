/- What Euler's walk and the document's words have to do with each other. -/
import Derived.Test.YtkbgcbbloogdjacEuler
import Derived.Test.YtkbgcbbloogdjacRefEuler
namespace Go.Proofs.Ytkbgcbbloogdjac
open Go.RowKit Go.Maps

theorem two_nodup {L : List Nat} (hn : L.Nodup) : L.length < 2 ↔ ∀ a b, a ∈ L → b ∈ L → a = b := by
  match L, hn with
  | [], _ => simp
  | [x], _ => simp
  | x :: y :: l, hn =>
    constructor
    · intro h
      simp only [List.length_cons] at h
      omega
    · intro h
      have h1 := h x y (by simp) (by simp)
      subst h1
      simp at hn
theorem bigs_eq (m : Nat) (R : Nat → Nat → Bool) : bigs (piecesS m allB R) = ((List.range m).filter fun v => firstB allB R v && decide (1 < (classL m R v).length)).length := by
  unfold bigs piecesS piecesTo
  rw [List.filter_map, List.length_map, List.filter_filter]
  congr 1
  refine List.filter_congr fun v _ => ?_
  simp [Bool.and_comm]
section
variable {m : Nat} {es : List Pair} {R : Nat → Nat → Bool}
theorem nb_iff {a : Nat} : nbL m es a ≠ [] ↔ ∃ b, b < m ∧ hasB es a b = true := by
  constructor
  · intro h
    obtain ⟨b, hb⟩ := List.exists_mem_of_ne_nil _ h
    have := List.mem_filter.1 hb
    exact ⟨b, by simpa using this.1, this.2⟩
  · rintro ⟨b, h1, h2⟩ h
    have : b ∈ nbL m es a := List.mem_filter.2 ⟨by simpa using h1, h2⟩
    rw [h] at this
    cases this
/-- A node's part has two nodes at least just where it has an edge. -/
theorem class_big (hR : ∀ v x, R v x = true ↔ Star (St m (pn (hasB es)) allB) v x) (hirr : ∀ u : Nat, hasB es u u = false) {v : Nat} (hv : v < m) : 1 < (classL m R v).length ↔ nbL m es v ≠ [] := by
  have hmem : ∀ x, x ∈ classL m R v ↔ x < m ∧ Star (St m (pn (hasB es)) allB) v x := fun x => by
    unfold classL
    rw [List.mem_filter, hR]
    simp
  rw [nb_iff]
  constructor
  · intro h
    have hno : ¬ ∀ a b, a ∈ classL m R v → b ∈ classL m R v → a = b := fun hh => by
      have := (two_nodup (L := classL m R v) (List.Nodup.sublist (List.filter_sublist) List.nodup_range)).2 hh
      omega
    have hvm : v ∈ classL m R v := (hmem v).2 ⟨hv, .refl _⟩
    obtain ⟨x, hx, hxv⟩ : ∃ x, x ∈ classL m R v ∧ x ≠ v := by
      by_cases c : ∃ x, x ∈ classL m R v ∧ x ≠ v
      · exact c
      · refine absurd (fun a b ha hb => ?_) hno
        have h1 : a = v := Classical.byContradiction fun e => c ⟨a, ha, e⟩
        have h2 : b = v := Classical.byContradiction fun e => c ⟨b, hb, e⟩
        omega
    have hs := ((hmem x).1 hx).2
    have key : x = v ∨ ∃ b, b < m ∧ hasB es v b = true := Star.ind (P := fun y => y = v ∨ ∃ b, b < m ∧ hasB es v b = true) (Or.inl rfl) (fun a b _ hab ih => by
      rcases ih with rfl | ih
      · exact Or.inr ⟨b, hab.1, hab.2.1⟩
      · exact Or.inr ih) hs
    exact key.resolve_left hxv
  · rintro ⟨b, hb, hvb⟩
    have hne : b ≠ v := fun e => by subst e; rw [hirr] at hvb; cases hvb
    have h1 : v ∈ classL m R v := (hmem v).2 ⟨hv, .refl _⟩
    have h2 : b ∈ classL m R v := (hmem b).2 ⟨hb, Star.one ⟨hb, hvb, rfl⟩⟩
    have := fun hh => (two_nodup (L := classL m R v) (List.Nodup.sublist (List.filter_sublist) List.nodup_range)).1 hh v b h1 h2
    by_cases c : (classL m R v).length < 2
    · exact absurd (this c).symm hne
    · omega
theorem joined_iff (hR : ∀ v x, R v x = true ↔ Star (St m (pn (hasB es)) allB) v x) (hirr : ∀ u : Nat, hasB es u u = false) : bigs (piecesS m allB R) < 2 ↔ ∀ a b, a < m → b < m → nbL m es a ≠ [] → nbL m es b ≠ [] → R a b = true := by
  have hsy := pn_symm es m
  rw [bigs_eq, two_nodup (List.Nodup.sublist (List.filter_sublist) List.nodup_range)]
  have hF : ∀ v, v ∈ ((List.range m).filter fun v => firstB allB R v && decide (1 < (classL m R v).length)) ↔ v < m ∧ firstB allB R v = true ∧ nbL m es v ≠ [] := fun v => by
    rw [List.mem_filter]
    simp only [List.mem_range, Bool.and_eq_true, decide_eq_true_eq]
    constructor
    · rintro ⟨h1, h2, h3⟩
      exact ⟨h1, h2, (class_big hR hirr h1).1 h3⟩
    · rintro ⟨h1, h2, h3⟩
      exact ⟨h1, h2, (class_big hR hirr h1).2 h3⟩
  -- the first node of a node's part
  have hleast : ∀ a, a < m → nbL m es a ≠ [] → ∃ v, v < m ∧ firstB allB R v = true ∧ nbL m es v ≠ [] ∧ R v a = true := fun a ha hna => by
    obtain ⟨v, hva, hv, hl⟩ := least_ex (P := fun v => R v a = true) ((hR a a).2 (.refl _))
    have hvm : v < m := by omega
    refine ⟨v, hvm, firstB_iff.2 ⟨rfl, fun u hu _ => ?_⟩, ?_, hv⟩
    · cases h : R u v with
      | false => rfl
      | true => exact absurd ((hR u a).2 (((hR u v).1 h).trans ((hR v a).1 hv))) (hl u hu)
    · by_cases e : v = a
      · rw [e]; exact hna
      · have hs := (hR v a).1 hv
        have key : a = v ∨ ∃ b, b < m ∧ hasB es v b = true := Star.ind (P := fun y => y = v ∨ ∃ b, b < m ∧ hasB es v b = true) (Or.inl rfl) (fun x b _ hab ih => by
          rcases ih with rfl | ih
          · exact Or.inr ⟨b, hab.1, hab.2.1⟩
          · exact Or.inr ih) hs
        exact nb_iff.2 (key.resolve_left (fun h => e h.symm))
  constructor
  · intro h a b ha hb hna hnb
    obtain ⟨u, h1, h2, h3, h4⟩ := hleast a ha hna
    obtain ⟨v, g1, g2, g3, g4⟩ := hleast b hb hnb
    have := h u v ((hF u).2 ⟨h1, h2, h3⟩) ((hF v).2 ⟨g1, g2, g3⟩)
    subst this
    exact (hR a b).2 ((star_rev hsy h1 ((hR u a).1 h4)).2.trans ((hR u b).1 g4))
  · intro h a b ha hb
    obtain ⟨h1, h2, h3⟩ := (hF a).1 ha
    obtain ⟨g1, g2, g3⟩ := (hF b).1 hb
    have r1 := h a b h1 g1 h3 g3
    have r2 := h b a g1 h1 g3 h3
    rcases Nat.lt_trichotomy a b with c | c | c
    · have := (firstB_iff.1 g2).2 a c rfl
      rw [r1] at this; cases this
    · exact c
    · have := (firstB_iff.1 h2).2 b c rfl
      rw [r2] at this; cases this
theorem hang_iff (hR : ∀ v x, R v x = true ↔ Star (St m (pn (hasB es)) allB) v x) {K : Nat} (hK : FirstE m es K) {o : Nat → Option Nat} (hd : Dist m (pn (hasB es)) K o) : Hang m es K ↔ ∀ a b, a < m → b < m → nbL m es a ≠ [] → nbL m es b ≠ [] → R a b = true := by
  have hsy := pn_symm es m
  constructor
  · rintro ⟨o', hd', h⟩ a b ha hb hna hnb
    have st : ∀ x, x < m → nbL m es x ≠ [] → Star (St m (pn (hasB es)) allB) K x := fun x hx hnx => by
      cases ho : o' x with
      | none => exact absurd (h x hx ho) hnx
      | some d => exact hd'.star d x hx ho
    exact (hR a b).2 ((star_rev hsy hK.1 (st a ha hna)).2.trans (st b hb hnb))
  · intro h
    refine ⟨o, hd, fun x hx ho => Classical.byContradiction fun hnx => ?_⟩
    obtain ⟨d, hd2⟩ := hd.some hK.1 ((hR K x).1 (h K x hK.1 hx hK.2.1 hnx))
    rw [ho] at hd2
    cases hd2
end

theorem odds_deg (m : Nat) (es : List Pair) : odds m es = (List.range m).filter fun v => degI (plan0 m es) v m % 2 == 1 := by
  unfold odds oddTo
  refine List.filter_congr fun v _ => ?_
  rw [plan0_deg]
  rw [Bool.eq_iff_iff]
  simp
  omega
/-- Euler's walk goes along each edge once. -/
theorem euler_walk {m : Nat} {es : List Pair} (hgood : ∀ e ∈ es, (0 ≤ e.1 ∧ e.1 < (m : Int) ∧ 0 ≤ e.2 ∧ e.2 < (m : Int)) ∧ e.1 ≠ e.2) {K : Nat} (hK : FirstE m es K) (hH : Hang m es K) (h2 : (odds m es).length ≤ 2) {s : Nat} {P2 : Nat → Nat → Int} {A : List Nat} (hs : s < m) (hso : (odds m es = [] ∧ s = K) ∨ (odds m es)[0]? = some s) (hgo : GoOn m s 0 (plan0 m es) P2 A) :
    (∀ u, u ∈ A ++ [s] → u < m) ∧ ∀ a b, a < m → b < m → plan0 m es a b = cntW (A ++ [s]) a b := by
  have hgc := plan0_good hgood
  obtain ⟨n, hgo⟩ := hgo
  obtain ⟨o, hd, hh⟩ := hH
  have hpar : ∃ t, ∀ a, a < m → degI (plan0 m es) a m % 2 = (ind a s + ind a t) % 2 := by
    rcases odd_two hgc.sym hgc.diag (odds_deg m es) h2 with ⟨h0, h1⟩ | ⟨v, t, h0, _, _, h1⟩
    · exact ⟨s, fun a ha => by rw [h1 a ha]; omega⟩
    · rw [h0] at hso
      rcases hso with ⟨h, _⟩ | h
      · cases h
      · simp at h
        subst h
        exact ⟨t, h1⟩
  obtain ⟨t, hpar⟩ := hpar
  have T := toured hgo (Nat.zero_le _) hs (hgc.good (by omega) m) (fun x hx => by omega) hpar
  have hos : o s ≠ none := by
    rcases hso with ⟨_, rfl⟩ | h
    · exact fun h => hK.2.1 (hh s hs h)
    · exact fun h' => (odds_mem (List.mem_of_getElem? h)).2 (hh s hs h')
  refine ⟨fun u hu => T.mem_lt hs hu, T.all hs hd hK.1 (pn_symm es m) (fun a b _ _ hab => ?_) (fun a b ha hb hp => ?_) hos⟩
  · have hab' : hasB es a b = true := hab
    rw [plan0_iff hgood, if_pos hab']; omega
  · rw [plan0_iff hgood] at hp
    by_cases c : hasB es a b = true
    · exact fun h => nb_iff.2 ⟨b, hb, c⟩ (hh a ha h)
    · rw [if_neg c] at hp; omega
end Go.Proofs.Ytkbgcbbloogdjac
