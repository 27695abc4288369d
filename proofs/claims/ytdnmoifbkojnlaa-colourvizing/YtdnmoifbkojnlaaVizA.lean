/- What one edge more does to the colours of edges. -/
import Derived.Test.YtdnmoifbkojnlaaVizS
namespace Go.Proofs.Ytdnmoifbkojnlaa

/-- The fan goes no further. -/
def FanMax (k : Nat) (D : Nat → Nat → Int) (u : Nat) (f : List Nat) : Prop := ∀ w c : Nat, c < k → D u c = (w : Int) → D (f.getD (f.length - 1) 0) c = -1 → w ∈ f
theorem add_math {n k : Nat} {D D' : Nat → Nat → Int} {u v a b e : Nat} {f L : List Nat} (hD : Dye n k D) (hu : u < n) (hF : Fan n k D u f) (h0 : f.getD 0 0 = v) (ha : a < k)
    (hb : b < k) (hfb : D u b = -1) (hw : Way n D a b u L) (hend : D (L.getD (L.length - 1) 0) (alt a b (L.length - 1)) = -1)
    (he : e < f.length) (hea : swD D (fun x => L.contains x) a b (f.getD e 0) a = -1) (hmin : ∀ i, i < e → swD D (fun x => L.contains x) a b (f.getD i 0) a ≠ -1)
    (hs : Shf k a u (f.take (e + 1)) (swD D (fun x => L.contains x) a b) D') : Dye n k D' ∧ ∀ x y, x < n → (Dyed k D' x y ↔ Dyed k D x y ∨ Two2 u v x y) := by
  have huL : u ∈ L := by
    have := getD_mem hw.1
    rw [hw.2.1] at this
    exact this
  have hD1 := hD.swap ha hb (way_shut hD ha hb hw hfb hend)
  have hF1 := fan_swap ha hb hF hfb huL he hmin
  have hlen : (f.take (e + 1)).length = e + 1 := by rw [List.length_take]; omega
  have hg : ∀ i, i < e + 1 → (f.take (e + 1)).getD i 0 = f.getD i 0 := fun i hi => by
    simp only [List.getD, List.getElem?_take, if_pos hi]
  have hua : swD D (fun x => L.contains x) a b u a = -1 := by
    rw [swD_in (by simpa using huL)]
    have : sw a b a = b := by unfold sw; rw [if_pos rfl]
    rw [this]; exact hfb
  obtain ⟨g1, g2⟩ := shf_ok hu ha hs hD1 hF1 hua (by rw [hlen, Nat.add_sub_cancel, hg e (by omega)]; exact hea)
  refine ⟨g1, fun x y hx => ?_⟩
  rw [g2 x y hx, dyed_swap ha hb, hg 0 (by omega), h0]
/-- The edge of u and v loses the colour m. -/
def un (D : Nat → Nat → Int) (u v m : Nat) (x c : Nat) : Int := if c = m then (if x = u then -1 else if x = v then -1 else D x c) else D x c
theorem mv_eq (D : Nat → Nat → Int) {u v w m : Nat} : st (un D u w m) u v m = mv D u v w m := by
  funext x c
  unfold st un mv
  by_cases hc : c = m
  · by_cases hu : x = u
    · simp only [if_pos hc, if_pos hu]
    · by_cases hv : x = v
      · simp only [if_pos hc, if_neg hu, if_pos hv]
      · simp only [if_pos hc, if_neg hu, if_neg hv]
  · simp only [if_neg hc]
/-- The shift's rounds, as far as j. -/
structure Sh (n k a u : Nat) (f : List Nat) (D : Nat → Nat → Int) (j : Nat) (E : Nat → Nat → Int) : Prop where
  dye : Dye n k E
  fan : Fan n k E u (f.drop j)
  on : ∀ D', Shf k a u (f.drop j) E D' → Shf k a u f D D'
theorem drop_two {f : List Nat} {j : Nat} (h : j + 1 < f.length) : f.drop j = f.getD j 0 :: f.getD (j + 1) 0 :: f.drop (j + 2) := by
  rw [List.drop_eq_getElem_cons (by omega), List.drop_eq_getElem_cons h]
  simp [List.getD, List.getElem?_eq_getElem h, List.getElem?_eq_getElem (show j < f.length by omega)]
theorem drop_one {f : List Nat} {j : Nat} (h : j + 1 < f.length) : f.drop (j + 1) = f.getD (j + 1) 0 :: f.drop (j + 2) := by
  rw [List.drop_eq_getElem_cons h]
  simp [List.getD, List.getElem?_eq_getElem h]
theorem Sh.step {n k a u j : Nat} {f : List Nat} {D E : Nat → Nat → Int} (h : Sh n k a u f D j E) (hj : j + 1 < f.length) : ∃ m, m < k ∧ E u m = (f.getD (j + 1) 0 : Nat) := by
  have hF := h.fan
  rw [drop_two hj] at hF
  obtain ⟨c, hc, e, _⟩ := hF.step 0 (by simp)
  exact ⟨c, hc, e⟩
theorem Sh.next {n k a u j m : Nat} {f : List Nat} {D E : Nat → Nat → Int} (h : Sh n k a u f D j E) (hu : u < n) (hj : j + 1 < f.length) (hm : m < k) (he : E u m = (f.getD (j + 1) 0 : Nat)) :
    f.getD j 0 < n ∧ f.getD (j + 1) 0 < n ∧ f.getD j 0 ≠ u ∧ f.getD (j + 1) 0 ≠ u ∧ Sh n k a u f D (j + 1) (mv E u (f.getD j 0) (f.getD (j + 1) 0) m) := by
  obtain ⟨hD, hF, ho⟩ := h
  rw [drop_two hj] at hF ho
  have hbk := hD.back hu hm he
  have hvw : f.getD j 0 ≠ f.getD (j + 1) 0 := hF.ne 0 1 (by omega) (by simp)
  obtain ⟨c, hc, e1, e2⟩ := hF.step 0 (by simp)
  have hcm : c = m := by
    refine hD.one u c m hu hc hm ?_ ?_
    · rw [e1, he]; rfl
    · rw [e1]; omega
  subst hcm
  refine ⟨hF.lt 0 (by simp), hbk.1, hF.nu, hbk.2.1, mv_dye hD hu (hF.lt 0 (by simp)) hm hF.nu hvw he e2 hF.unc, ?_, fun D' hs => ?_⟩
  · rw [drop_one hj]
    exact mv_fan hD hu hm hF he
  · refine ho D' (Shf.next hm he ?_)
    rw [drop_one hj] at hs
    exact hs
theorem Sh.start {n k a u : Nat} {f : List Nat} {D : Nat → Nat → Int} (hD : Dye n k D) (hF : Fan n k D u f) : Sh n k a u f D 0 D := ⟨hD, hF, fun _ h => h⟩
theorem Sh.done {n k a u j : Nat} {f : List Nat} {D E : Nat → Nat → Int} (h : Sh n k a u f D j E) (hj : j + 1 = f.length) : f.getD j 0 < n ∧ f.getD j 0 ≠ u ∧ Shf k a u f D (st E u (f.getD j 0) a) := by
  obtain ⟨hD, hF, ho⟩ := h
  have e : f.drop j = [f.getD j 0] := by
    rw [List.drop_eq_getElem_cons (by omega), hj, List.drop_length]
    simp [List.getD, List.getElem?_eq_getElem (show j < f.length by omega)]
  rw [e] at hF ho
  exact ⟨hF.lt 0 (by simp), hF.nu, ho _ Shf.last⟩
end Go.Proofs.Ytdnmoifbkojnlaa
