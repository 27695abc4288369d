/- On two sides: no edge within D; A and one side of C make a cover with a node of each pair. -/
import Derived.Test.YtenjkhgpfmfgmaaDoorTutteM
namespace Go.Proofs.YtenjkhgpfmfgmaaDoor
open Go.RowKit Go.Maps Go.Sort

section koenig
variable {N : Nat} {E : Nat → Nat → Prop} {m : Nat → Option Nat} {evs : Nat → Nat → Bool} {Ods : Nat → Nat → Prop} {ks : Nat → Nat → Nat} {dB nB sg : Nat → Bool}

theorem way_side {f : Nat → Option Nat} (hM : Mat N E m) (hsg : ∀ a b, E a b → sg a ≠ sg b) (hf : ∀ x w, f x = some w → E x w) : ∀ {l : List Nat} {y t : Nat}, Way m f y l t → sg y = sg t
  | [], y, t, h => by rw [show y = t from h]
  | d :: l, y, t, ⟨_, x, w, h2, h3, h4⟩ => by
    have e1 := hsg _ _ (hM.edge _ _ h2)
    have e2 := hsg _ _ (hf _ _ h3)
    have e3 := way_side hM hsg hf h4
    rw [← e3]
    cases h : sg y <;> cases h' : sg x <;> cases h'' : sg w <;> simp_all

theorem Gal.side (h : Gal N E m evs Ods ks) (hM : Mat N E m) (hsg : ∀ a b, E a b → sg a ≠ sg b) {r y : Nat} (hr : r < N) (hl : m r = none) (he : evs r y = true) : sg y = sg r := by
  obtain ⟨f, l, hf, hw, _⟩ := (h.ways r hr hl).reach y he
  exact way_side hM hsg hf hw

theorem Gal.d_nb (h : Gal N E m evs Ods ks) (hM : Mat N E m) (hs : ∀ a b, E a b → E b a) (hsg : ∀ a b, E a b → sg a ≠ sg b) {y u : Nat} (hy : InD N m evs y) (hu : E y u) : InA N E m evs u := by
  obtain ⟨r, hr, hl, he⟩ := hy
  rcases h.nb hM hs hr hl he hu with ⟨h1, _⟩ | h1
  · exact absurd ((h.side hM hsg hr hl he).trans (h.side hM hsg hr hl h1).symm) (hsg _ _ hu)
  · exact h1

/-- The cover. -/
def cvB (dB nB sg : Nat → Bool) (x : Nat) : Bool := !dB x && (nB x || !sg x)

theorem knd_a (h : Knd N N E m evs Ods ks dB nB) {x : Nat} (hx : InA N E m evs x) : dB x = false ∧ nB x = true := by
  refine ⟨?_, (h.n x).2 hx.2⟩
  cases e : dB x with
  | false => rfl
  | true => exact absurd ((h.d x).1 e) hx.1

theorem a_knd (h : Knd N N E m evs Ods ks dB nB) {x : Nat} (hd : dB x = false) (hn : nB x = true) : InA N E m evs x := by
  refine ⟨fun h1 => ?_, (h.n x).1 hn⟩
  rw [(h.d x).2 h1] at hd; cases hd

theorem cover_edge (h : Knd N N E m evs Ods ks dB nB) (hM : Mat N E m) (hs : ∀ a b, E a b → E b a) (hsg : ∀ a b, E a b → sg a ≠ sg b) {a b : Nat} (hab : E a b) : cvB dB nB sg a = true ∨ cvB dB nB sg b = true := by
  unfold cvB
  cases da : dB a with
  | true =>
    obtain ⟨h1, h2⟩ := knd_a h (h.gal.d_nb hM hs hsg ((h.d a).1 da) hab)
    exact Or.inr (by simp [h1, h2])
  | false =>
    cases db : dB b with
    | true =>
      obtain ⟨h1, h2⟩ := knd_a h (h.gal.d_nb hM hs hsg ((h.d b).1 db) (hs _ _ hab))
      exact Or.inl (by simp [h2])
    | false =>
      have := hsg _ _ hab
      cases e : sg a <;> cases e' : sg b <;> simp_all

/-- Of a pair just one node is in the cover; a lone one is not. -/
theorem cover_one (h : Knd N N E m evs Ods ks dB nB) (hM : Mat N E m) (hsg : ∀ a b, E a b → sg a ≠ sg b) {a b : Nat} (hab : m a = some b) (ha : cvB dB nB sg a = true) : cvB dB nB sg b = false := by
  unfold cvB at ha ⊢
  simp only [Bool.and_eq_true, Bool.not_eq_true', Bool.or_eq_true] at ha
  obtain ⟨hd, hn⟩ := ha
  cases e : nB a with
  | true =>
    obtain ⟨z, h1, h2⟩ := h.gal.mateA (a_knd h hd e)
    rw [hab] at h1; cases h1
    simp [(h.d b).2 h2]
  | false =>
    have hsa := hn.resolve_left (by rw [e]; simp)
    have := hsg _ _ (hM.edge _ _ hab)
    cases d : dB b with
    | true => rfl
    | false =>
      cases n : nB b with
      | true =>
        obtain ⟨z, h1, h2⟩ := h.gal.mateA (a_knd h d n)
        rw [hM.sym _ _ hab] at h1; cases h1
        rw [(h.d a).2 h2] at hd; cases hd
      | false => rw [hsa] at this; cases e' : sg b <;> simp_all
theorem cover_mate (h : Knd N N E m evs Ods ks dB nB) {a : Nat} (hN : a < N) (ha : cvB dB nB sg a = true) : ∃ b, m a = some b := by
  cases e : m a with
  | some b => exact ⟨b, rfl⟩
  | none =>
    have := (h.d a).2 (h.gal.lone hN e)
    unfold cvB at ha
    rw [this] at ha; simp at ha

theorem cover_len (h : Knd N N E m evs Ods ks dB nB) (hM : Mat N E m) (hs : ∀ a b, E a b → E b a) (hir : ∀ a, ¬ E a a) (hsg : ∀ a b, E a b → sg a ≠ sg b) : (listN N (cvB dB nB sg)).length = (prs m N).length := by
  have e : (prs m N).length = cnt N (upB m) := by simp [prs, cnt]
  rw [e]
  show cnt N (cvB dB nB sg) = _
  apply Nat.le_antisymm
  · refine cnt_map (fun z => if upB m z = true then z else (m z).getD 0) (fun z hz hp => ?_) (fun a b ha hb pa pb e => ?_)
    · obtain ⟨b, hb⟩ := cover_mate h hz hp
      by_cases c : upB m z = true
      · rw [if_pos c]; exact ⟨hz, c⟩
      · rw [if_neg c, hb]
        refine ⟨(hM.lt _ _ hb).2, ?_⟩
        have hne : z ≠ b := fun e => hir z (by have := hM.edge _ _ hb; rwa [← e] at this)
        unfold upB at c ⊢
        rw [hb] at c
        simp only [Option.getD_some]
        rw [hM.sym _ _ hb]
        simp only [decide_eq_true_eq] at c ⊢
        omega
    · obtain ⟨a', ha'⟩ := cover_mate h ha pa
      obtain ⟨b', hb'⟩ := cover_mate h hb pb
      have n1 := cover_one h hM hsg ha' pa
      have n2 := cover_one h hM hsg hb' pb
      by_cases c : upB m a = true <;> by_cases d : upB m b = true
      · simpa [c, d] using e
      · rw [if_pos c, if_neg d, hb'] at e
        simp only [Option.getD_some] at e
        rw [e, n2] at pa; cases pa
      · rw [if_neg c, if_pos d, ha'] at e
        simp only [Option.getD_some] at e
        rw [← e, n1] at pb; cases pb
      · rw [if_neg c, if_neg d, ha', hb'] at e
        simp only [Option.getD_some] at e
        subst e
        exact hM.inj ha' hb'
  · refine cnt_map (fun z => if cvB dB nB sg z = true then z else (m z).getD 0) (fun z hz hp => ?_) (fun a b ha hb pa pb e => ?_)
    · obtain ⟨b, hb, hlt⟩ : ∃ b, m z = some b ∧ z < b := by
        unfold upB at hp
        cases e : m z with
        | none => rw [e] at hp; cases hp
        | some b => rw [e] at hp; exact ⟨b, rfl, by simpa using hp⟩
      by_cases c : cvB dB nB sg z = true
      · rw [if_pos c]; exact ⟨hz, c⟩
      · rw [if_neg c, hb]
        exact ⟨(hM.lt _ _ hb).2, (cover_edge h hM hs hsg (hM.edge _ _ hb)).resolve_left c⟩
    · have up : ∀ z, upB m z = true → ∃ b, m z = some b ∧ z < b := fun z hp => by
        unfold upB at hp
        cases e : m z with
        | none => rw [e] at hp; cases hp
        | some b => rw [e] at hp; exact ⟨b, rfl, by simpa using hp⟩
      obtain ⟨a', ha', la⟩ := up a pa
      obtain ⟨b', hb', lb⟩ := up b pb
      by_cases c : cvB dB nB sg a = true <;> by_cases d : cvB dB nB sg b = true
      · simpa [c, d] using e
      · rw [if_pos c, if_neg d, hb'] at e
        simp only [Option.getD_some] at e
        subst e
        rw [hM.sym _ _ hb'] at ha'; cases ha'
        omega
      · rw [if_neg c, if_pos d, ha'] at e
        simp only [Option.getD_some] at e
        subst e
        rw [hM.sym _ _ ha'] at hb'; cases hb'
        omega
      · rw [if_neg c, if_neg d, ha', hb'] at e
        simp only [Option.getD_some] at e
        subst e
        exact hM.inj ha' hb'
end koenig

theorem sorted_listN {N : Nat} {S : Nat → Bool} {ss : List Nat} (hp : ss.Perm (listN N S)) : (ss.map fun (k : Nat) => (k : Int)).mergeSort (fun x y => decide (x ≤ y)) = (listN N S).map fun (k : Nat) => (k : Int) := by
  have e := mergeSort_of_perm_i (hp.map fun (k : Nat) => (k : Int))
  refine e.trans (List.mergeSort_of_pairwise ?_)
  rw [List.pairwise_map]
  refine List.Pairwise.imp (R := fun a b => a < b) (fun {a b} h => by simp; omega) ?_
  exact List.Pairwise.filter _ List.pairwise_lt_range

theorem cover_perm (N : Nat) (dB nB sg : Nat → Bool) : ((listN N fun x => !dB x && nB x) ++ (listN N fun x => !dB x && !nB x).filter (fun x => !sg x)).Perm (listN N (cvB dB nB sg)) := by
  refine (List.perm_ext_iff_of_nodup ?_ ?_).2 fun x => ?_
  · refine List.nodup_append.2 ⟨List.nodup_range.filter _, (List.nodup_range.filter _).filter _, fun a ha b hb e => ?_⟩
    subst e
    simp [listN] at ha hb
    rw [ha.2.2] at hb
    simp at hb
  · exact List.nodup_range.filter _
  · simp only [listN, cvB, List.mem_append, List.mem_filter, List.mem_range]
    cases dB x <;> cases nB x <;> cases sg x <;> simp
end Go.Proofs.YtenjkhgpfmfgmaaDoor
