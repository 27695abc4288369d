/- Tutte's and Berge's theorem, for what Most answers: plain mathematics. -/
import Derived.Test.YtenjkhgpfmfgmaaDoorMostW
import Derived.Test.YtenjkhgpfmfgmaaDoorOddW
namespace Go.Proofs.YtenjkhgpfmfgmaaDoor

theorem open_iff {sh : Nat → Bool} {x : Nat} : openB sh x = true ↔ sh x = false := by unfold openB; cases sh x <;> simp
theorem ex1 (P : Nat → Prop) : ∃ R : Nat → Bool, ∀ v, R v = true ↔ P v := by
  classical exact ⟨fun v => decide (P v), by simp⟩
theorem filter_up (N : Nat) (p : Nat → Bool) : ((List.range N).filter p).Pairwise (· < ·) := List.Pairwise.filter _ List.pairwise_lt_range
theorem pairwise_at {l : List Nat} (h : l.Pairwise (· < ·)) {i j a b : Nat} (hij : i < j) (ha : l[i]? = some a) (hb : l[j]? = some b) : a < b := by
  obtain ⟨h1, rfl⟩ := List.getElem?_eq_some_iff.1 ha
  obtain ⟨h2, rfl⟩ := List.getElem?_eq_some_iff.1 hb
  exact List.pairwise_iff_getElem.1 h i j h1 h2 hij
theorem listN_rising (N : Nat) (p : Nat → Bool) : ∀ k a b, (listN N p)[k]? = some a → (listN N p)[k + 1]? = some b → a < b := fun k _ _ ha hb => pairwise_at (filter_up N p) (Nat.lt_succ_self k) ha hb
theorem listN_mem {N : Nat} {p : Nat → Bool} {x : Nat} : x ∈ listN N p ↔ x < N ∧ p x = true := by simp [listN]

/-- The pairs as numbers. -/
def prsN (m : Nat → Option Nat) (N : Nat) : List (Nat × Nat) := ((List.range N).filter (upB m)).map fun v => (v, (m v).getD 0)
theorem prsN_cast (m : Nat → Option Nat) (N : Nat) : castL (prsN m N) = prs m N := by
  unfold castL prsN prs
  rw [List.map_map]
  rfl
theorem prsN_len (m : Nat → Option Nat) (N : Nat) : (prsN m N).length = (prs m N).length := by rw [← prsN_cast]; simp [castL]
theorem prsN_at {m : Nat → Option Nat} {N i x y : Nat} (h : (prsN m N)[i]? = some (x, y)) : ((List.range N).filter (upB m))[i]? = some x ∧ x < N ∧ m x = some y ∧ x < y := by
  unfold prsN at h
  rw [List.getElem?_map] at h
  cases hv : ((List.range N).filter (upB m))[i]? with
  | none => rw [hv] at h; cases h
  | some v =>
    rw [hv] at h
    simp at h
    obtain ⟨rfl, h2⟩ := h
    have hm := List.mem_of_getElem? hv
    simp at hm
    cases hmv : m v with
    | none => simp [upB, hmv] at hm
    | some u =>
      rw [hmv] at h2
      simp at h2
      subst h2
      exact ⟨rfl, hm.1, rfl, by simpa [upB, hmv] using hm.2⟩

theorem mform_prs {N : Nat} {es : List Pair} {m : Nat → Option Nat} (hM : Mat N (Ef N es) m) : MForm N (hasB es) (prsN m N) where
  ok := fun i x y h => by
    obtain ⟨h1, h2, h3, h4⟩ := prsN_at h
    have hE := hM.edge _ _ h3
    have hxy := hM.sym _ _ h3
    have no : ∀ z, (z = x ∨ z = y) → usedB (prsN m N) i z = false := fun z hz => by
      cases e : usedB (prsN m N) i z
      · rfl
      · exfalso
        unfold usedB at e
        obtain ⟨⟨a, b⟩, hab, hh⟩ := List.any_eq_true.1 e
        obtain ⟨k, hk⟩ := List.mem_iff_getElem?.1 hab
        have hki : k < i := by
          have := (List.getElem?_eq_some_iff.1 hk).1
          simp at this
          omega
        rw [List.getElem?_take_of_lt hki] at hk
        obtain ⟨g1, g2, g3, g4⟩ := prsN_at hk
        have hax := pairwise_at (filter_up N (upB m)) hki g1 h1
        simp at hh
        rcases hz with rfl | rfl
        · rcases hh with hh | hh
          · omega
          · subst hh
            have := hM.sym _ _ g3
            rw [h3] at this; cases this
            omega
        · rcases hh with hh | hh
          · subst hh
            rw [hxy] at g3; cases g3
            omega
          · subst hh
            have := hM.inj h3 g3
            omega
    exact ⟨h4, (hM.lt _ _ h3).2, hE.2.2, no x (Or.inl rfl), no y (Or.inr rfl)⟩
  up := fun i x y x' y' h h' => pairwise_at (filter_up N (upB m)) (Nat.lt_succ_self i) (prsN_at h).1 (prsN_at h').1

section
variable {N : Nat} {es : List Pair} {m : Nat → Option Nat} {evs : Nat → Nat → Bool} {Ods : Nat → Nat → Prop} {ks : Nat → Nat → Nat} {dB nB : Nat → Bool}

theorem Knd.inA (h : Knd N N (Ef N es) m evs Ods ks dB nB) (z : Nat) : (!dB z && nB z) = true ↔ InA N (Ef N es) m evs z := by
  unfold InA
  simp only [Bool.and_eq_true, Bool.not_eq_true', h.n z]
  constructor
  · rintro ⟨h1, h2⟩
    exact ⟨(fun hd => by rw [(h.d z).2 hd] at h1; cases h1), h2⟩
  · rintro ⟨h1, h2⟩
    refine ⟨?_, h2⟩
    cases e : dB z
    · rfl
    · exact absurd ((h.d z).1 e) h1

/-- What shows that there is no greater matching. -/
theorem tutte (hM : Mat N (Ef N es) m) (hnb : Nbs N (nbOf es) (Ef N es)) (h : Knd N N (Ef N es) m evs Ods ks dB nB) :
    ∃ (bB : Nat → Bool) (R : Nat → Nat → Bool), (∀ z, z < N → bB z = true → (!dB z && nB z) = false) ∧ (∀ v x, R v x = true ↔ Star (St N (pn (hasB es)) (openB fun x => !dB x && nB x)) v x) ∧
      (∀ v x, R v x = true → v < N → (!dB v && nB v) = false → R x v = true) ∧ (∀ v, v < N → (!dB v && nB v) = false → cnt N (R v) % 2 = cnt N (fun z => R v z && bB z)) ∧
      cnt N bB + 2 * (prs m N).length = N + (listN N fun x => !dB x && nB x).length := by
  obtain ⟨bB, hb⟩ := ex1 (Bse N (Ef N es) m evs)
  obtain ⟨R, hR⟩ := ex2 (Star (St N (pn (hasB es)) (openB fun x => !dB x && nB x)))
  have hsym : ∀ a b, a < N → b < N → pn (hasB es) a b = true → pn (hasB es) b a = true := fun a b _ _ hh => by unfold pn at *; rw [hasB_comm]; exact hh
  refine ⟨bB, R, fun z hz hbz => ?_, hR, fun v x hvx hv hva => ?_, fun v hv hva => ?_, ?_⟩
  · cases e : (!dB z && nB z)
    · rfl
    · exfalso
      have hA := (h.inA z).1 e
      rcases (hb z).1 hbz with h1 | ⟨x, h1, h2⟩
      · exact hA.1 (h.gal.lone hz h1)
      · obtain ⟨y, g1, g2⟩ := h.gal.mateA h2
        rw [hM.sym _ _ h1] at g1; cases g1
        exact hA.1 g2
  · exact (hR x v).2 (St.back hsym ((hR v x).1 hvx) hv (open_iff.2 hva)).1
  · refine h.gal.part (aB := fun x => !dB x && nB x) hM hnb.sym hnb.irr hnb.lt (fun z _ => h.inA z) (fun z _ => hb z) hv hva (fun z hz => ?_)
    rw [hR v z]
    constructor
    · intro hs
      exact (Star.within (P := fun a => a < N) (f := fun a b => Ef N es a b ∧ (!dB b && nB b) = false) (fun a b ha hab => ⟨hab.1, ⟨ha, hab.1, hab.2.1⟩, open_iff.1 hab.2.2⟩) hs hv).2
    · intro hs
      exact Star.mono (fun a b hab => ⟨hab.1.2.1, hab.1.2.2, open_iff.2 hab.2⟩) hs
  · have := h.gal.bases hM hnb.irr (aB := fun x => !dB x && nB x) (bB := bB) (fun z _ => h.inA z) (fun z _ => hb z)
    simpa [cnt, listN] using this
end
end Go.Proofs.YtenjkhgpfmfgmaaDoor
