/- Vizing's fan: behind the swap of two colours its first part is still one; and its shift. -/
import Derived.Test.YtdnmoifbkojnlaaVizW
namespace Go.Proofs.Ytdnmoifbkojnlaa

/-- f is a fan of u: each node behind the first has an edge with u of a colour that is free at the node ahead; the first has none. -/
structure Fan (n k : Nat) (D : Nat → Nat → Int) (u : Nat) (f : List Nat) : Prop where
  pos : 0 < f.length
  lt : ∀ i, i < f.length → f.getD i 0 < n
  ne : ∀ i j, i < j → j < f.length → f.getD i 0 ≠ f.getD j 0
  nu : f.getD 0 0 ≠ u
  unc : ¬ Dyed k D u (f.getD 0 0)
  step : ∀ i, i + 1 < f.length → ∃ c, c < k ∧ D u c = (f.getD (i + 1) 0 : Nat) ∧ D (f.getD i 0) c = -1
theorem Fan.notu {n k : Nat} {D : Nat → Nat → Int} {u : Nat} {f : List Nat} (h : Fan n k D u f) (hD : Dye n k D) (hu : u < n) : ∀ i, i < f.length → f.getD i 0 ≠ u
  | 0, _ => h.nu
  | i + 1, hi => by
    obtain ⟨c, hc, e, _⟩ := h.step i hi
    exact (hD.back hu hc e).2.1
/-- Behind the swap: a node of the fan at which the colour is free, and the fan up to the first such. -/
theorem fan_some {n k : Nat} {D : Nat → Nat → Int} {u a b : Nat} {f L : List Nat} (hD : Dye n k D) (hu : u < n) (ha : a < k) (hb : b < k) (hF : Fan n k D u f) (hfl : D (f.getD (f.length - 1) 0) a = -1) (hmax : ∀ w : Nat, D u a = (w : Int) → w ∈ f)
    (hw : Way n D a b u L) : ∃ e, e < f.length ∧ swD D (fun x => L.contains x) a b (f.getD e 0) a = -1 := by
  have out : ∀ x, x ∉ L → D x a = -1 → swD D (fun x => L.contains x) a b x a = -1 := fun x hx h => by
    rw [swD_out (by simpa using hx)]; exact h
  have hpos := hF.pos
  by_cases hl : f.getD (f.length - 1) 0 ∈ L
  · obtain ⟨h0, h1, h2, h3⟩ := id hw
    have hL1 : 1 < L.length := by
      apply Classical.byContradiction
      intro hL
      obtain ⟨i, hi, e⟩ := mem_getD hl
      have hi0 : i = 0 := by omega
      subst hi0
      rw [h1] at e
      exact hF.notu hD hu (f.length - 1) (by omega) e.symm
    have hs := h3 0 hL1
    have ea : alt a b 0 = a := rfl
    rw [h1, ea] at hs
    obtain ⟨p, hp, ep⟩ := mem_getD (hmax _ hs)
    cases p with
    | zero => exact absurd ⟨a, ha, by rw [ep]; exact hs⟩ hF.unc
    | succ p =>
      obtain ⟨c, hc, e1, e2⟩ := hF.step p hp
      have hca : c = a := by
        refine hD.one u c a hu hc ha ?_ ?_
        · rw [e1, hs, ep]
        · rw [e1]; omega
      subst hca
      by_cases hm : f.getD p 0 ∈ L
      · exfalso
        have q1 := way_free hD hc hb hw hL1 hl hfl
        have q2 := way_free hD hc hb hw hL1 hm e2
        exact hF.ne p (f.length - 1) (by omega) (by omega) (q2.trans q1.symm)
      · exact ⟨p, by omega, out _ hm e2⟩
  · exact ⟨f.length - 1, by omega, out _ hl hfl⟩
theorem fan_swap {n k : Nat} {D : Nat → Nat → Int} {u a b : Nat} {f L : List Nat} (ha : a < k) (hb : b < k) (hF : Fan n k D u f) (hub : D u b = -1) (huL : u ∈ L)
    {e : Nat} (he : e < f.length) (hmin : ∀ i, i < e → swD D (fun x => L.contains x) a b (f.getD i 0) a ≠ -1) : Fan n k (swD D (fun x => L.contains x) a b) u (f.take (e + 1)) := by
  have hlen : (f.take (e + 1)).length = e + 1 := by rw [List.length_take]; omega
  have hg : ∀ i, i < e + 1 → (f.take (e + 1)).getD i 0 = f.getD i 0 := fun i hi => by
    simp only [List.getD, List.getElem?_take, if_pos hi]
  have huc : L.contains u = true := by simpa using huL
  refine ⟨by omega, fun i hi => ?_, fun i j hij hj => ?_, ?_, ?_, fun i hi => ?_⟩
  · rw [hg i (by omega)]; exact hF.lt i (by omega)
  · rw [hg i (by omega), hg j (by omega)]; exact hF.ne i j hij (by omega)
  · rw [hg 0 (by omega)]; exact hF.nu
  · rw [hg 0 (by omega), dyed_swap ha hb]; exact hF.unc
  · rw [hg i (by omega), hg (i + 1) (by omega)]
    obtain ⟨c, hc, e1, e2⟩ := hF.step i (by omega)
    have hcb : c ≠ b := fun h => by rw [h, hub] at e1; omega
    by_cases hca : c = a
    · subst hca
      refine ⟨b, hb, ?_, ?_⟩
      · rw [swD_in huc]
        have : sw c b b = c := by unfold sw; rw [if_neg (fun h => hcb h.symm), if_pos rfl]
        rw [this]; exact e1
      · by_cases hm : L.contains (f.getD i 0) = true
        · rw [swD_in hm]
          have : sw c b b = c := by unfold sw; rw [if_neg (fun h => hcb h.symm), if_pos rfl]
          rw [this]; exact e2
        · exact absurd (by rw [swD_out (by simpa using hm)]; exact e2) (hmin i (by omega))
    · exact ⟨c, hc, by rw [swD_far hca hcb]; exact e1, by rw [swD_far hca hcb]; exact e2⟩
/-- One round of the shift: the edge of u and w loses the colour m, that of u and v gets it. -/
def mv (D : Nat → Nat → Int) (u v w m : Nat) (x c : Nat) : Int := if c = m then (if x = u then (v : Int) else if x = v then (u : Int) else if x = w then -1 else D x c) else D x c
theorem mv_far {D : Nat → Nat → Int} {u v w m x c : Nat} (h : c ≠ m) : mv D u v w m x c = D x c := if_neg h
theorem mv_dye {n k : Nat} {D : Nat → Nat → Int} (hD : Dye n k D) {u v w m : Nat} (hu : u < n) (hv : v < n) (hm : m < k) (huv : v ≠ u) (hvw : v ≠ w) (e1 : D u m = (w : Int)) (e2 : D v m = -1) (hn : ¬ Dyed k D u v) : Dye n k (mv D u v w m) := by
  obtain ⟨hw, hwu, e3⟩ := hD.back hu hm e1
  have mu : mv D u v w m u m = (v : Int) := by unfold mv; rw [if_pos rfl, if_pos rfl]
  have mvv : mv D u v w m v m = (u : Int) := by unfold mv; rw [if_pos rfl, if_neg huv, if_pos rfl]
  have mw : mv D u v w m w m = -1 := by unfold mv; rw [if_pos rfl, if_neg hwu, if_neg (fun h => hvw h.symm), if_pos rfl]
  have mo : ∀ x, x ≠ u → x ≠ v → x ≠ w → mv D u v w m x m = D x m := fun x h1 h2 h3 => by unfold mv; rw [if_pos rfl, if_neg h1, if_neg h2, if_neg h3]
  refine ⟨fun x c hx hc => ?_, fun x c c' hx hc hc' e hne => ?_⟩
  · by_cases hcm : c = m
    · subst hcm
      by_cases xu : x = u
      · subst xu; exact Or.inr ⟨v, hv, mu, huv, mvv⟩
      · by_cases xv : x = v
        · subst xv; exact Or.inr ⟨u, hu, mvv, Ne.symm huv, mu⟩
        · by_cases xw : x = w
          · subst xw; exact Or.inl mw
          · rw [mo x xu xv xw]
            rcases hD.val x c hx hc with h | ⟨y, h1, h2, h3, h4⟩
            · exact Or.inl h
            · refine Or.inr ⟨y, h1, h2, h3, ?_⟩
              have yu : y ≠ u := fun h => by rw [h, e1] at h4; omega
              have yv : y ≠ v := fun h => by rw [h, e2] at h4; omega
              have yw : y ≠ w := fun h => by rw [h, e3] at h4; omega
              rw [mo y yu yv yw]; exact h4
    · rw [mv_far hcm]
      rcases hD.val x c hx hc with h | ⟨y, h1, h2, h3, h4⟩
      · exact Or.inl h
      · exact Or.inr ⟨y, h1, h2, h3, by rw [mv_far hcm]; exact h4⟩
  · have side : ∀ c', c' < k → c' ≠ m → mv D u v w m x m = D x c' → mv D u v w m x m ≠ -1 → False := fun c' hc' hcm e hne => by
      by_cases xu : x = u
      · subst xu
        rw [mu] at e
        exact hn ⟨c', hc', e.symm⟩
      · by_cases xv : x = v
        · subst xv
          rw [mvv] at e
          exact hn ⟨c', hc', (hD.back hx hc' e.symm).2.2⟩
        · by_cases xw : x = w
          · subst xw; exact hne mw
          · rw [mo x xu xv xw] at e hne
            exact hcm (hD.one x m c' hx hm hc' e hne).symm
    by_cases h1 : c = m
    · by_cases h2 : c' = m
      · rw [h1, h2]
      · subst h1
        rw [mv_far h2] at e
        exact (side c' hc' h2 e hne).elim
    · by_cases h2 : c' = m
      · subst h2
        rw [mv_far h1] at e hne
        exact (side c hc h1 e.symm (by rw [← e]; exact hne)).elim
      · rw [mv_far h1] at e hne
        rw [mv_far h2] at e
        exact hD.one x c c' hx hc hc' e hne
/-- The rest of the fan is one of what the round leaves. -/
theorem mv_fan {n k : Nat} {D : Nat → Nat → Int} (hD : Dye n k D) {u v w m : Nat} {r : List Nat} (hu : u < n) (hm : m < k) (hF : Fan n k D u (v :: w :: r)) (e1 : D u m = (w : Int)) : Fan n k (mv D u v w m) u (w :: r) := by
  have hne : v ≠ w := hF.ne 0 1 (by omega) (by simp)
  refine ⟨by simp, fun i hi => hF.lt (i + 1) (by simp at hi ⊢; omega), fun i j hij hj => hF.ne (i + 1) (j + 1) (by omega) (by simp at hj ⊢; omega), (hD.back hu hm e1).2.1, ?_, fun i hi => ?_⟩
  · rintro ⟨c, hc, e⟩
    by_cases hcm : c = m
    · subst hcm
      unfold mv at e
      rw [if_pos rfl, if_pos rfl] at e
      simp at e
      omega
    · rw [mv_far hcm] at e
      have e : D u c = (w : Int) := e
      exact hcm (hD.one u c m hu hc hm (by rw [e, e1]) (by rw [e]; omega))
  · obtain ⟨c, hc, f1, f2⟩ := hF.step (i + 1) (by simp at hi ⊢; omega)
    have hcm : c ≠ m := fun h => by
      rw [h, e1] at f1
      have : (w :: r).getD 0 0 = (v :: w :: r).getD (i + 1 + 1) 0 := by
        show w = _
        omega
      exact hF.ne 1 (i + 1 + 1) (by omega) (by simp at hi ⊢; omega) this
    exact ⟨c, hc, by rw [mv_far hcm]; exact f1, by rw [mv_far hcm]; exact f2⟩
end Go.Proofs.Ytdnmoifbkojnlaa
