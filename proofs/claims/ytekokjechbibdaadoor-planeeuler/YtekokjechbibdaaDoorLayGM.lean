/- A block is laid, and each step of it goes well. A block: it is laid from its first edge, and behind it no two of its nodes hang together. Every laying goes well, and what is laid has no more than three edges a node, less six. What is needed is sought well, wherever there is no plane order. -/
import Derived.Test.YtekokjechbibdaaDoorPieceGM
import Derived.Test.YtekokjechbibdaaDoorLayN
import Derived.Test.YtekokjechbibdaaDoorLayEW
import Derived.Test.YtekokjechbibdaaDoorNeedW
namespace Go.Proofs.YtekokjechbibdaaDoor
theorem roomG {p : Piece} {F : List Face} {fr r : Nat} (h : roomFrom p F fr = some r) : r < F.length ∧ hasRoom p (F.getD r ⟨[], 0⟩) = true := by
  unfold roomFrom at h
  obtain ⟨k, hk, rfl⟩ := Option.map_eq_some_iff.1 h
  obtain ⟨h1, h2, _⟩ := List.findIdx?_eq_some_iff_getElem.1 hk
  rw [List.length_drop] at h1
  refine ⟨by omega, ?_⟩
  rw [List.getElem_drop] at h2
  rw [List.getD_eq_getElem?_getD, List.getElem?_eq_getElem (by omega)]
  exact h2
theorem chooseG {F : List Face} : ∀ (l : List Piece) (i k : Nat) (r : Option Nat), chooseL F i l = some (k, r) → ∃ j p, k = i + j ∧ l[j]? = some p ∧ r = roomFrom p F 0
  | [], i, k, r, h => by simp [chooseL] at h
  | p :: l, i, k, r, h => by
    rw [chooseL] at h
    split at h
    · rename_i e
      simp only [Option.some.injEq, Prod.mk.injEq] at h
      exact ⟨0, p, by omega, rfl, by rw [e]; exact h.2.symm⟩
    · rename_i r' e
      split at h
      · simp only [Option.some.injEq, Prod.mk.injEq] at h
        exact ⟨0, p, by omega, rfl, by rw [e]; exact h.2.symm⟩
      · obtain ⟨j, q, h1, h2, h3⟩ := chooseG l (i + 1) k r h
        exact ⟨j + 1, q, by omega, h2, h3⟩
theorem choose_good {F : List Face} {ps : List Piece} (h0 : ps ≠ []) {i : Nat} {room : Nat} (h : choose ps F = (i, some room)) : ∃ p, ps[i]? = some p ∧ room < F.length ∧ hasRoom p (F.getD room ⟨[], 0⟩) = true := by
  have key : ∃ p, ps[i]? = some p ∧ some room = roomFrom p F 0 := by
    unfold choose at h
    split at h
    · rename_i r e
      rw [h] at e
      obtain ⟨j, p, h1, h2, h3⟩ := chooseG ps 0 i _ e
      exact ⟨p, by rw [h1, Nat.zero_add]; exact h2, h3⟩
    · simp only [Prod.mk.injEq] at h
      obtain ⟨rfl, h⟩ := h
      cases ps with
      | nil => exact absurd rfl h0
      | cons p l => exact ⟨p, rfl, h.symm⟩
  obtain ⟨p, h1, h2⟩ := key
  exact ⟨p, h1, roomG h2.symm⟩
/-- One comes from u to v. -/
inductive Rch (near : List Nat) (u : Nat) : Nat → Prop where
  | refl : Rch near u u
  | step {b c : Nat} : Rch near u b → Adj near b c → Rch near u c
theorem Rch.mono {near near' : List Nat} (h : ∀ x y, Adj near x y → Adj near' x y) {u v : Nat} (k : Rch near u v) : Rch near' u v := by
  induction k with
  | refl => exact .refl
  | step _ a ih => exact .step ih (h _ _ a)
theorem Rch.trans {near : List Nat} {u v w : Nat} (h : Rch near u v) (k : Rch near v w) : Rch near u w := by
  induction k with
  | refl => exact h
  | step _ a ih => exact .step ih a
theorem Rch.symm {N : Nat} {near : List Nat} (hg : NearG N near) {u v : Nat} (h : Rch near u v) : Rch near v u := by
  induction h with
  | refl => exact .refl
  | step _ a ih => exact Rch.trans (.step .refl (hg.sym a)) ih
theorem chn_rch {near : List Nat} : ∀ {l : List Nat} {a : Nat}, Chn (Adj near) (a :: l) → ∀ x ∈ a :: l, Rch near a x
  | [], a, _, x, hx => by rw [List.mem_singleton.1 hx]; exact .refl
  | b :: l, a, hc, x, hx => by
    rcases List.mem_cons.1 hx with rfl | hx
    · exact .refl
    · exact Rch.trans (.step .refl hc.1) (chn_rch hc.2 x hx)
/-- What a laying that ends tells. -/
structure Laid (N : Nat) (es : List E2) (near : List Nat) (laid E : Nat) (near2 : List Nat) (laid2 E2 : Nat) (B : List Face) : Prop where
  lays : Lays N near2 laid2 []
  faces : FG near2 laid2 B E2
  up : E ≤ E2
  left : left es near ≤ left es near2 + (E2 - E)
  grow : ∀ v, laid.testBit v = true → laid2.testBit v = true
  hang : ∀ v, laid2.testBit v = true → ∃ u, laid.testBit u = true ∧ Rch near u v
  less : ∀ x y, Adj near2 x y → Adj near x y
theorem layL_good {N : Nat} (hN : N ≤ 100) {es : List E2} (hn : es.Nodup) (hlt : ∀ e ∈ es, e.1 < e.2) : ∀ (f : Nat) (near : List Nat) (laid : Nat) (F : List Face) (ps : List Piece) (E : Nat),
    Lays N near laid ps → FG near laid F E → 1001 ≤ f + F.length → layOk N f near laid F ps = true ∧ ∀ B near2, layL f near laid F ps = some (B, near2) → ∃ laid2 E2, Laid N es near laid E near2 laid2 E2 B := by
  have hNN : N * N ≤ 10000 := Nat.le_trans (Nat.mul_le_mul hN hN) (by decide)
  intro f
  induction f with
  | zero =>
    intro near laid F ps E hL hF hf
    have := hF.bound.1
    have := countS_le laid
    omega
  | succ f ih =>
    intro near laid F ps E hL hF hf
    have hb := hF.bound.1
    have hc := countS_le laid
    cases ps with
    | nil =>
      refine ⟨by rw [layOk]; simp; omega, fun B near2 h => ?_⟩
      rw [layL] at h
      simp only [Option.some.injEq, Prod.mk.injEq] at h
      obtain ⟨rfl, rfl⟩ := h
      exact ⟨laid, E, hL, hF, Nat.le_refl _, by omega, fun _ h => h, fun v h => ⟨v, h, .refl⟩, fun _ _ h => h⟩
    | cons q l =>
      have hfew := hL.few
      have hfeetOk : feetOk (q :: l) = true := by
        unfold feetOk
        rw [List.all_eq_true]
        intro p hp
        simp only [decide_eq_true_eq]
        exact lt_of_bits fun i hi => Nat.lt_of_lt_of_le (hL.lN i ((hL.pg p hp).feetL i hi)) hL.g.le
      rw [layOk, layL]
      rotate_left
      · intro e; cases e
      obtain ⟨i, ro, hch⟩ : ∃ i ro, choose (q :: l) F = (i, ro) := ⟨_, _, rfl⟩
      rw [hch]
      cases ro with
      | none =>
        refine ⟨by simp only [hfeetOk, Bool.and_true, Bool.and_eq_true, decide_eq_true_eq]; omega, fun B near2 h => by cases h⟩
      | some room =>
        obtain ⟨p, hp, hr, hroom⟩ := choose_good (by simp) hch
        have hgd : (q :: l).getD i ⟨0, 0⟩ = p := by rw [List.getD_eq_getElem?_getD, hp]; rfl
        have hil : i < (q :: l).length := (List.getElem?_eq_some_iff.1 hp).1
        have P := hL.pg p (List.mem_of_getElem? hp)
        obtain ⟨f0, f1, hth, a, S, b, hw, T⟩ := way_good hL.g hL.lN P
        simp only [hgd]
        have hF0 : F.getD room ⟨[], 0⟩ ∈ F := by
          rw [List.getD_eq_getElem?_getD, List.getElem?_eq_getElem hr]
          exact List.getElem_mem hr
        have hin : ∀ v, p.feet.testBit v = true → v ∈ (F.getD room ⟨[], 0⟩).walk := fun v hv => by
          unfold hasRoom at hroom
          rw [beq_iff_eq] at hroom
          have : (sLess p.feet (F.getD room ⟨[], 0⟩).nodes).testBit v = false := by rw [hroom]; simp
          rw [bit_less, hv, hF.nodes _ hF0, bit_setOf] at this
          simpa using this
        have hL' := hL.step hp T
        have hF' := hF.step hL.g hL.lN hr P T (hin a T.fa) (hin b T.fb)
        have hlen : (cross F room (a :: S ++ [b])).length = F.length + 1 := cross_len _ _ _
        obtain ⟨j1, j2⟩ := ih _ _ _ _ _ hL' hF' (by rw [hlen]; omega)
        have hSlen : S.length ≤ 128 := Nat.le_trans (nodup_few N S T.nd fun x hx => P.small x (T.inn x hx)) hL.g.le
        have hWN : ∀ v ∈ a :: S ++ [b], v < N := fun v hv => by
          rw [List.cons_append, List.mem_cons, List.mem_append, List.mem_singleton] at hv
          rcases hv with rfl | hv | rfl
          · exact hL.lN _ (P.feetL _ T.fa)
          · exact P.small v (T.inn v hv)
          · exact hL.lN _ (P.feetL _ T.fb)
        rw [hw]
        simp only [inside_way]
        have hlast : (a :: S ++ [b]).getLastD 0 = b := by rw [List.getLastD_eq_getLast?, List.getLast?_append]; rfl
        refine ⟨?_, fun B near2 h => ?_⟩
        · have hfits : wayFits N F room (a :: S ++ [b]) = true := by
            unfold wayFits
            simp only [Bool.and_eq_true, decide_eq_true_eq, List.all_eq_true, List.contains_eq_mem, hlast]
            refine ⟨⟨⟨⟨⟨by simp, by simp; omega⟩, hWN⟩, hin a T.fa⟩, hin b T.fb⟩, fun g hg => ?_⟩
            unfold faceOk
            simp only [Bool.and_eq_true, decide_eq_true_eq, List.all_eq_true, beq_iff_eq]
            have hsm : ∀ v ∈ g.walk, v < 128 := fun v hv => Nat.lt_of_lt_of_le (hL'.lN v (hF'.on g hg v hv)) hL.g.le
            exact ⟨⟨hsm, Nat.le_trans (nodup_few 128 _ (hF'.nd g hg) hsm) (by decide)⟩, hF'.nodes g hg⟩
          have hpok : pieceOk N p = true := by
            unfold pieceOk
            have g1 : p.inner < 2 ^ 128 := lt_of_bits fun i hi => Nat.lt_of_lt_of_le (P.small i hi) hL.g.le
            have g2 : p.feet < 2 ^ 128 := lt_of_bits fun i hi => Nat.lt_of_lt_of_le (hL.lN i (P.feetL i hi)) hL.g.le
            simp only [Bool.and_eq_true, decide_eq_true_eq, List.all_eq_true, Bool.not_eq_true', beq_eq_false_iff_ne]
            exact ⟨⟨⟨⟨⟨g1, g2⟩, f0⟩, f1⟩, fun v hv => P.small v ((mem_elems g1).1 hv)⟩, fun v hv => hL.lN v (P.feetL v ((mem_elems g2).1 hv))⟩
          have hfew' := hL'.few
          rw [List.length_append] at hfew'
          simp only [Bool.and_eq_true, decide_eq_true_eq]
          exact ⟨⟨⟨by omega, by omega⟩, hfeetOk⟩, ⟨⟨⟨⟨⟨⟨hil, hr⟩, hpok⟩, hth⟩, hfits⟩, by omega⟩, j1⟩⟩
        · obtain ⟨laid2, E2, J⟩ := j2 B near2 h
          have hless : ∀ x y, Adj (partWay near (a :: S ++ [b])) x y → Adj near x y := fun x y k => (((partWay_good (a :: S ++ [b]) hL.g hWN).2 x y).1 k).1
          have hleft := left_way hn hlt (a :: S ++ [b]) hL.g hWN
          refine ⟨laid2, E2, J.lays, J.faces, by have := J.up; omega, ?_, fun v hv => J.grow v (by rw [bit_or, hv]; rfl), fun v hv => ?_, fun x y k => hless x y (J.less x y k)⟩
          · have h1 := J.left
            have h2 := J.up
            simp only [List.length_append, List.length_cons, List.length_nil] at hleft
            omega
          · obtain ⟨u, hu, k⟩ := J.hang v hv
            have k := k.mono hless
            rw [bit_or, bit_setOf, Bool.or_eq_true, decide_eq_true_eq] at hu
            rcases hu with hu | hu
            · exact ⟨u, hu, k⟩
            · exact ⟨a, P.feetL a T.fa, (chn_rch T.chn u (by simp [hu])).trans k⟩
end Go.Proofs.YtekokjechbibdaaDoor

namespace Go.Proofs.YtekokjechbibdaaDoor
theorem Lays.alone {N laid : Nat} {near : List Nat} (h : Lays N near laid []) {u v : Nat} (hu : laid.testBit u = true) (hv : laid.testBit v = true) (k : Rch near u v) : u = v := by
  have key : ∀ x, Rch near u x → x = u ∨ ∃ c y, Lone near laid c x ∧ c.testBit y = true ∧ Adj near u y := fun x k => by
    induction k with
    | refl => exact Or.inl rfl
    | @step x z k a ih =>
      rcases ih with rfl | ⟨c, y, C, hy, hay⟩
      · cases e : laid.testBit z with
        | true =>
          obtain ⟨p, hp, _⟩ := h.cov1 _ z hu e a
          cases hp
        | false =>
          rcases h.cov2 z (h.g.lt a) e with ⟨p, hp, _⟩ | ⟨c, C⟩
          · cases hp
          · exact Or.inr ⟨c, z, C, C.mem, a⟩
      · rcases C.closed x z C.mem a with e | e
        · exact Or.inr ⟨c, y, ⟨e, C.out, C.closed, C.one⟩, hy, hay⟩
        · exact Or.inl (C.one x y z u C.mem hy a (h.g.sym hay) e hu)
  rcases key v k with e | ⟨c, y, C, _⟩
  · exact e.symm
  · have := C.out v C.mem
    rw [hv] at this; cases this
/-- What a block tells. -/
structure BlockIs (N : Nat) (es : List E2) (near : List Nat) (e : E2) (B : List Face) (near2 : List Nat) (laid2 E2 : Nat) : Prop where
  g : NearG N near2
  laidN : ∀ v, laid2.testBit v = true → v < N
  less : ∀ x y, Adj near2 x y → Adj near x y
  one : ∀ u v, laid2.testBit u = true → laid2.testBit v = true → Rch near u v
  alone : ∀ u v, laid2.testBit u = true → laid2.testBit v = true → Rch near2 u v → u = v
  count : (E2 + 6 ≤ 3 * countS laid2 ∨ (E2 = 1 ∧ countS laid2 = 2))
  few : B.length ≤ 2 * countS laid2
  left : left es near ≤ left es near2 + E2
  done : ¬ Adj near2 e.1 e.2
theorem block_good {N : Nat} (hN : N ≤ 100) {es : List E2} (hn : es.Nodup) (hlt : ∀ e ∈ es, e.1 < e.2) {near : List Nat} (hg : NearG N near) {e : E2} (he : Adj near e.1 e.2) :
    blockOk near e = true ∧ ∀ B near2, layBlock near e = some (B, near2) → ∃ laid2 E2, BlockIs N es near e B near2 laid2 E2 := by
  obtain ⟨x, y⟩ := e
  simp only at he
  have hx : x < N := hg.lt' he
  have hy : y < N := hg.lt he
  have hxy : x ≠ y := hg.irr he
  have hg1 := hg.part hx hy
  have hA := adj_part (near := near) (u := x) (v := y) (by rw [hg.len]; exact hx) (by rw [hg.len]; exact hy)
  have hlb : ∀ i, (setOf [x, y]).testBit i = true ↔ (i = x ∨ i = y) := fun i => by rw [bit_setOf]; simp
  have hrest : ∀ v, (sDrop (sDrop (setOf (List.range near.length)) x) y).testBit v = true ↔ (v < N ∧ v ≠ x ∧ v ≠ y) := fun v => by
    rw [bit_drop, bit_drop, bit_setOf, hg.len]
    simp [and_assoc]
  obtain ⟨q1, q2, _, q4, q5⟩ := piecesOf_good hg1 (laid := 0) (laid' := setOf [x, y]) (rest := sDrop (sDrop (setOf (List.range near.length)) x) y) (fresh := [x, y]) (by simp [hxy]) (by simp) (fun i => by rw [bit_setOf]; simp)
    (fun v hv => by
      have := (hrest v).1 hv
      refine ⟨this.1, ?_⟩
      rw [bit_setOf]; simp [this.2.1, this.2.2])
    (fun u v _ ha => by
      by_cases h : v = x ∨ v = y
      · exact Or.inr ((hlb v).2 h)
      · exact Or.inl ((hrest v).2 ⟨hg1.lt ha, fun e => h (Or.inl e), fun e => h (Or.inr e)⟩))
  have L : Lays N (part near x y) (setOf [x, y]) (piecesOf (part near x y) 0 [x, y] (sDrop (sDrop (setOf (List.range near.length)) x) y)) := by
    refine ⟨hg1, fun v hv => ?_, fun p hp => (q1 p hp).1, q2, fun u v hu hv ha => q4 u v (by simpa using (hlb u).1 hu) hv ha, fun v hvN hv => ?_⟩
    · rcases (hlb v).1 hv with rfl | rfl
      · exact hx
      · exact hy
    · have hv' : ¬ (v = x ∨ v = y) := fun h => by
        rw [(hlb v).2 h] at hv; cases hv
      rcases q5 v ((hrest v).2 ⟨hvN, fun e => hv' (Or.inl e), fun e => hv' (Or.inr e)⟩) with h | ⟨c, C, _⟩
      · exact Or.inl h
      · exact Or.inr ⟨c, C⟩
  have hcount : countS (setOf [x, y]) = 2 := by
    refine count_list (l := [x, y]) (lt_of_bits fun i hi => ?_) (by simp [hxy]) fun i => by rw [hlb]; simp
    rcases (hlb i).1 hi with rfl | rfl
    · exact Nat.lt_of_lt_of_le hx hg.le
    · exact Nat.lt_of_lt_of_le hy hg.le
  have F : FG (part near x y) (setOf [x, y]) [faceOf [x, y]] 1 := by
    refine ⟨fun f hf => ?_, fun f hf => ?_, fun f hf v hv => ?_, fun f hf => ?_, Or.inr ⟨rfl, hcount, rfl⟩, rfl, by rw [hcount]; rfl⟩
    · rw [List.mem_singleton.1 hf]; rfl
    · rw [List.mem_singleton.1 hf]
      show [x, y].Nodup
      simp [hxy]
    · rw [List.mem_singleton.1 hf] at hv
      exact (hlb v).2 (by simpa [faceOf] using hv)
    · rw [List.mem_singleton.1 hf]
      refine ⟨fun k => ((hA x y).1 k).2.1 ⟨rfl, rfl⟩, fun k => ((hA y x).1 k).2.2 ⟨rfl, rfl⟩, trivial⟩
  obtain ⟨j1, j2⟩ := layL_good hN hn hlt 1000 _ _ _ _ _ L F (by simp)
  refine ⟨by unfold blockOk; rw [hg.len] at j1 ⊢; exact j1, fun B near2 h => ?_⟩
  obtain ⟨laid2, E2, J⟩ := j2 B near2 h
  have hless : ∀ a b, Adj (part near x y) a b → Adj near a b := fun a b k => ((hA a b).1 k).1
  have hxa : ∀ v, laid2.testBit v = true → Rch near x v := fun v hv => by
    obtain ⟨u, hu, k⟩ := J.hang v hv
    have k := k.mono hless
    rcases (hlb u).1 hu with e | e
    · rw [e] at k; exact k
    · rw [e] at k; exact Rch.trans (.step .refl he) k
  refine ⟨laid2, E2, J.lays.g, J.lays.lN, fun a b k => hless a b (J.less a b k), fun u v hu hv => Rch.trans ((hxa u hu).symm hg) (hxa v hv), fun u v hu hv => J.lays.alone hu hv, J.faces.bound.2, J.faces.bound.1, ?_, fun k => ?_⟩
  · have h1 := left_part hg hn hlt hx hy
    have h2 := J.left
    have h3 := J.up
    omega
  · exact ((hA x y).1 (J.less _ _ k)).2.1 ⟨rfl, rfl⟩
/-- v is the least of those that hang together with it. -/
def Least (near : List Nat) (v : Nat) : Prop := ∀ u, Rch near u v → v ≤ u
open Classical in
/-- How many parts hang together, of N nodes. -/
noncomputable def cls (N : Nat) (near : List Nat) : Nat := ((List.range N).filter fun v => decide (Least near v)).length
theorem cls_le (N : Nat) (near : List Nat) : cls N near ≤ N := by
  unfold cls
  exact Nat.le_trans (List.length_filter_le _ _) (by simp)
theorem cls_pos {N : Nat} (h : 1 ≤ N) (near : List Nat) : 1 ≤ cls N near := by
  unfold cls
  refine List.length_pos_of_mem (a := 0) ?_
  rw [List.mem_filter]
  exact ⟨List.mem_range.2 h, by simp [Least]⟩
theorem nodup_subG : ∀ (M R : List Nat), M.Nodup → (∀ x ∈ M, x ∈ R) → M.length ≤ R.length
  | [], _, _, _ => by simp
  | a :: M, R, hn, h => by
    have hn' := List.nodup_cons.1 hn
    have ih := nodup_subG M (R.erase a) hn'.2 fun x hx => (List.mem_erase_of_ne (fun e => hn'.1 (by rw [← e]; exact hx))).2 (h x (List.mem_cons_of_mem _ hx))
    have ha := h a (by simp)
    rw [List.length_erase_of_mem ha] at ih
    have := List.length_pos_of_mem ha
    simp only [List.length_cons]
    omega
theorem least_of (near : List Nat) (v : Nat) : ∃ r, Least near r ∧ Rch near r v := by
  have key : ∀ n w, w ≤ n → Rch near w v → ∃ r, Least near r ∧ Rch near r v := by
    intro n
    induction n with
    | zero =>
      intro w hw k
      have : w = 0 := by omega
      subst this
      exact ⟨0, fun u _ => Nat.zero_le _, k⟩
    | succ n ih =>
      intro w hw k
      by_cases h : Least near w
      · exact ⟨w, h, k⟩
      · unfold Least at h
        obtain ⟨u, hu⟩ := Classical.not_forall.1 h
        obtain ⟨h1, h2⟩ := Classical.not_imp.1 hu
        exact ih u (by omega) (h1.trans k)
  exact key v v (Nat.le_refl _) .refl
theorem cls_grow {N : Nat} {near near2 : List Nat} (hg : NearG N near) (hg2 : NearG N near2) (hless : ∀ x y, Adj near2 x y → Adj near x y) {laid : Nat} (hlN : ∀ v, laid.testBit v = true → v < N)
    (hone : ∀ u v, laid.testBit u = true → laid.testBit v = true → Rch near u v) (hal : ∀ u v, laid.testBit u = true → laid.testBit v = true → Rch near2 u v → u = v) : cls N near + countS laid ≤ cls N near2 + 1 := by
  classical
  have hl128 : laid < 2 ^ 128 := lt_of_bits fun i hi => Nat.lt_of_lt_of_le (hlN i hi) hg.le
  obtain ⟨rep, hrep⟩ : ∃ rep : Nat → Nat, ∀ v, Least near2 (rep v) ∧ Rch near2 (rep v) v := ⟨fun v => Classical.choose (least_of near2 v), fun v => Classical.choose_spec (least_of near2 v)⟩
  have hrl : ∀ v, rep v ≤ v := fun v => (hrep v).1 v ((hrep v).2.symm hg2)
  have hm : ∀ v, v ∈ elems laid ↔ laid.testBit v = true := fun v => mem_elems hl128
  have hin : ∀ x, x ∈ (elems laid).map rep ↔ ∃ v, laid.testBit v = true ∧ rep v = x := fun x => by
    rw [List.mem_map]
    exact ⟨fun ⟨v, h1, h2⟩ => ⟨v, (hm v).1 h1, h2⟩, fun ⟨v, h1, h2⟩ => ⟨v, (hm v).2 h1, h2⟩⟩
  have hnd : ((elems laid).map rep).Nodup := by
    unfold List.Nodup
    rw [List.pairwise_map]
    refine (elems_sorted laid).imp_of_mem fun {a b} ha hb hab e => ?_
    have := hal a b ((hm a).1 ha) ((hm b).1 hb) (((hrep a).2.symm hg2).trans (by rw [e]; exact (hrep b).2))
    omega
  obtain ⟨R0, hR0⟩ : ∃ R0, R0 = (List.range N).filter fun v => decide (Least near v) := ⟨_, rfl⟩
  obtain ⟨R1, hR1⟩ : ∃ R1, R1 = (List.range N).filter fun v => decide (Least near2 v) := ⟨_, rfl⟩
  have c0 : cls N near = R0.length := by rw [hR0]; rfl
  have c1 : cls N near2 = R1.length := by rw [hR1]; rfl
  have m0 : ∀ v, v ∈ R0 ↔ (v < N ∧ Least near v) := fun v => by rw [hR0, List.mem_filter]; simp
  have m1 : ∀ v, v ∈ R1 ↔ (v < N ∧ Least near2 v) := fun v => by rw [hR1, List.mem_filter]; simp
  have n0 : R0.Nodup := by rw [hR0]; exact List.nodup_range.filter _
  have hsplit : R0.length = (R0.filter fun v => decide (v ∈ (elems laid).map rep)).length + (R0.filter fun v => !decide (v ∈ (elems laid).map rep)).length := by
    rw [← List.countP_eq_length_filter, ← List.countP_eq_length_filter]
    refine (List.length_eq_countP_add_countP (fun v => decide (v ∈ (elems laid).map rep)) (l := R0)).trans ?_
    congr 2
    funext v
    by_cases h : v ∈ (elems laid).map rep <;> simp only [h, decide_true, decide_false, Bool.not_true, Bool.not_false, not_true_eq_false, Bool.false_eq_true, not_false_eq_true]
  have hle1 : (R0.filter fun v => decide (v ∈ (elems laid).map rep)).length ≤ 1 := by
    have hnf := n0.filter (fun v => decide (v ∈ (elems laid).map rep))
    have hall : ∀ a ∈ R0.filter (fun v => decide (v ∈ (elems laid).map rep)), ∀ b ∈ R0.filter (fun v => decide (v ∈ (elems laid).map rep)), a = b := by
      intro a ha b hb
      rw [List.mem_filter, decide_eq_true_eq, hin, m0] at ha hb
      obtain ⟨⟨_, la⟩, u, hu, rfl⟩ := ha
      obtain ⟨⟨_, lb⟩, v, hv, rfl⟩ := hb
      have k : Rch near (rep u) (rep v) := ((hrep u).2.mono hless).trans ((hone u v hu hv).trans (((hrep v).2.mono hless).symm hg))
      exact Nat.le_antisymm (la _ (k.symm hg)) (lb _ k)
    match h : R0.filter (fun v => decide (v ∈ (elems laid).map rep)) with
    | [] => simp
    | [_] => simp
    | a :: b :: l =>
      rw [h] at hnf hall
      have := hall a (by simp) b (by simp)
      subst this
      simp at hnf
  have hM := nodup_subG ((R0.filter fun v => !decide (v ∈ (elems laid).map rep)) ++ (elems laid).map rep) R1 (List.nodup_append.2 ⟨n0.filter _, hnd, fun a ha b hb e => by
      subst e
      rw [List.mem_filter] at ha
      simp only [hb, decide_true, Bool.not_true, Bool.false_eq_true, and_false] at ha⟩) fun x hx => by
    rw [m1]
    rcases List.mem_append.1 hx with h | h
    · rw [List.mem_filter, m0] at h
      exact ⟨h.1.1, fun u k => h.1.2 u (k.mono hless)⟩
    · obtain ⟨v, hv, rfl⟩ := (hin x).1 h
      have := hlN v hv
      have := hrl v
      exact ⟨by omega, (hrep v).1⟩
  rw [List.length_append, List.length_map] at hM
  rw [c0, c1]
  have : (elems laid).length = countS laid := rfl
  omega
end Go.Proofs.YtekokjechbibdaaDoor

namespace Go.Proofs.YtekokjechbibdaaDoor
/-- Good edges of n nodes. -/
structure GoodE (n : Nat) (es : List E2) : Prop where
  nd : es.Nodup
  lt : ∀ e ∈ es, e.1 < e.2
  le : ∀ e ∈ es, e.2 < n
theorem nearBy_good {n : Nat} (hn : n ≤ 128) : ∀ (es : List E2), (∀ e ∈ es, e.1 < e.2 ∧ e.2 < n) → ∀ (near : List Nat), NearG n near →
    NearG n (es.foldl (fun near e => let near := near.set e.1 (sAdd (at' near e.1) e.2); near.set e.2 (sAdd (at' near e.2) e.1)) near) ∧ ∀ u v, Adj (es.foldl (fun near e => let near := near.set e.1 (sAdd (at' near e.1) e.2); near.set e.2 (sAdd (at' near e.2) e.1)) near) u v ↔ (Adj near u v ∨ (u, v) ∈ es ∨ (v, u) ∈ es)
  | [], _, near, hg => ⟨hg, fun u v => by simp⟩
  | (x, y) :: es, h, near, hg => by
    obtain ⟨hxy, hy⟩ := h (x, y) (by simp)
    simp only at hxy hy
    have hA : ∀ u v, Adj ((near.set x (sAdd (at' near x) y)).set y (sAdd (at' (near.set x (sAdd (at' near x) y)) y) x)) u v ↔ (Adj near u v ∨ (u = x ∧ v = y) ∨ (u = y ∧ v = x)) := fun u v => by
      unfold Adj
      rw [at_setG (by rw [List.length_set, hg.len]; omega), at_setG (by rw [hg.len]; omega) y, at_setG (by rw [hg.len]; omega) u]
      by_cases h1 : u = y
      · subst h1
        simp [bit_add, show ¬ u = x by omega]
      · by_cases h2 : u = x
        · subst h2; simp [bit_add, h1]
        · simp [h1, h2]
    have hg' : NearG n ((near.set x (sAdd (at' near x) y)).set y (sAdd (at' (near.set x (sAdd (at' near x) y)) y) x)) := by
      refine ⟨by simp [hg.len], hn, fun {u v} k => ?_, fun {u v} k => (hA v u).2 ?_, fun {u v} k => ?_⟩
      · rcases (hA u v).1 k with k | k | k
        · exact hg.lt k
        · omega
        · omega
      · rcases (hA u v).1 k with k | k | k
        · exact Or.inl (hg.sym k)
        · exact Or.inr (Or.inr ⟨k.2, k.1⟩)
        · exact Or.inr (Or.inl ⟨k.2, k.1⟩)
      · rcases (hA u v).1 k with k | k | k
        · exact hg.irr k
        · omega
        · omega
    obtain ⟨i1, i2⟩ := nearBy_good hn es (fun e he => h e (List.mem_cons_of_mem _ he)) _ hg'
    rw [List.foldl_cons]
    refine ⟨i1, fun u v => ?_⟩
    rw [i2, hA]
    simp only [List.mem_cons, Prod.mk.injEq]
    constructor
    · rintro ((k | k | k) | k | k)
      · exact Or.inl k
      · exact Or.inr (Or.inl (Or.inl k))
      · exact Or.inr (Or.inr (Or.inl ⟨k.2, k.1⟩))
      · exact Or.inr (Or.inl (Or.inr k))
      · exact Or.inr (Or.inr (Or.inr k))
    · rintro (k | (k | k) | k | k)
      · exact Or.inl (Or.inl k)
      · exact Or.inl (Or.inr (Or.inl k))
      · exact Or.inr (Or.inl k)
      · exact Or.inl (Or.inr (Or.inr ⟨k.2, k.1⟩))
      · exact Or.inr (Or.inr k)
theorem none_near (n : Nat) (u v : Nat) : ¬ Adj (List.replicate n 0) u v := by
  have h0 : at' (List.replicate n 0) u = 0 := by
    unfold at'
    rw [List.getD_eq_getElem?_getD, List.getElem?_replicate]
    split <;> rfl
  unfold Adj
  rw [h0]
  simp
theorem near_good {n : Nat} (hn : n ≤ 128) {es : List E2} (h : GoodE n es) : NearG n (nearBy n es) ∧ ∀ u v, Adj (nearBy n es) u v ↔ ((u, v) ∈ es ∨ (v, u) ∈ es) := by
  have h0 : NearG n (List.replicate n 0) := ⟨by simp, hn, fun k => absurd k (none_near n _ _), fun k => absurd k (none_near n _ _), fun k => absurd k (none_near n _ _)⟩
  obtain ⟨i1, i2⟩ := nearBy_good hn es (fun e he => ⟨h.lt e he, h.le e he⟩) _ h0
  refine ⟨i1, fun u v => ?_⟩
  show Adj (es.foldl _ _) u v ↔ _
  rw [i2]
  simp [none_near]
theorem layE_good {N : Nat} (hN : N ≤ 100) {es : List E2} (hn : es.Nodup) (hlt : ∀ e ∈ es, e.1 < e.2) : ∀ (l pre : List E2) (near : List Nat) (F : List Face), es = pre ++ l → NearG N near → (∀ e ∈ pre, ¬ Adj near e.1 e.2) → F.length ≤ 4 * cls N near →
    layEOk near F l = true ∧ ∀ B, layE near F l = some B → (left es near = 0 ∨ (left es near ≤ 1 ∧ left es near + 3 * cls N near + 2 ≤ 3 * N) ∨ left es near + 3 * cls N near + 3 ≤ 3 * N)
  | [], pre, near, F, he, hg, hp, hF => by
    have hcl := cls_le N near
    refine ⟨by rw [layEOk]; simp; omega, fun B _ => Or.inl ?_⟩
    unfold left
    rw [List.countP_eq_zero]
    intro e hm
    rw [he, List.append_nil] at hm
    exact hp e hm
  | e :: l, pre, near, F, he, hg, hp, hF => by
    have hcl := cls_le N near
    have he' : es = (pre ++ [e]) ++ l := by rw [he]; simp
    rw [layEOk, layE]
    by_cases ha : (at' near e.1).testBit e.2 = true
    · rw [if_pos ha, if_pos ha]
      obtain ⟨b1, b2⟩ := block_good hN hn hlt hg (e := e) ha
      cases hb : layBlock near e with
      | none =>
        refine ⟨by simp only [b1, Bool.and_true, decide_eq_true_eq]; omega, fun B h => by cases h⟩
      | some r =>
        obtain ⟨b, near2⟩ := r
        obtain ⟨laid2, E2, K⟩ := b2 b near2 hb
        have hgrow := cls_grow hg K.g K.less K.laidN K.one K.alone
        have hcl2 := cls_le N near2
        have hc := K.count
        have hfew := K.few
        have hleft := K.left
        obtain ⟨i1, i2⟩ := layE_good hN hn hlt l (pre ++ [e]) near2 (F ++ b) he' K.g (fun x hx => by
          rcases List.mem_append.1 hx with h | h
          · exact fun k => hp x h (K.less _ _ k)
          · rw [List.mem_singleton.1 h]; exact K.done) (by rw [List.length_append]; omega)
        refine ⟨by simp only [b1, i1, Bool.and_true, Bool.true_and, Bool.and_eq_true, decide_eq_true_eq]; omega, fun B h => ?_⟩
        have := i2 B h
        omega
    · rw [if_neg ha, if_neg ha]
      obtain ⟨i1, i2⟩ := layE_good hN hn hlt l (pre ++ [e]) near F he' hg (fun x hx => by
        rcases List.mem_append.1 hx with h | h
        · exact hp x h
        · rw [List.mem_singleton.1 h]; exact ha) hF
      refine ⟨by simp only [i1, Bool.and_true, decide_eq_true_eq]; omega, i2⟩
theorem lay_good {n : Nat} (hn : n ≤ 100) {es : List E2} (h : GoodE n es) : layNOk n es = true ∧ ((lay n es).isSome = true → 3 ≤ n → es.length ≤ 3 * n - 6) := by
  obtain ⟨hg, hA⟩ := near_good (Nat.le_trans hn (by decide)) h
  obtain ⟨i1, i2⟩ := layE_good hn h.nd h.lt es [] (nearBy n es) [] rfl hg (by simp) (by simp)
  refine ⟨i1, fun hs h3 => ?_⟩
  obtain ⟨B, hB⟩ := Option.isSome_iff_exists.1 hs
  have hl : left es (nearBy n es) = es.length := by
    unfold left
    rw [List.countP_eq_length]
    intro e he
    exact (hA e.1 e.2).2 (Or.inl he)
  have := i2 B hB
  have := cls_pos (N := n) (by omega) (nearBy n es)
  omega
end Go.Proofs.YtekokjechbibdaaDoor

namespace Go.Proofs.YtekokjechbibdaaDoor
theorem GoodE.sub {n : Nat} {es l : List E2} (h : GoodE n es) (hs : l.Sublist es) : GoodE n l := ⟨h.nd.sublist hs, fun e he => h.lt e (hs.subset he), fun e he => h.le e (hs.subset he)⟩
theorem search_good {p : Nat → Bool} (hp : p 0 = false) : ∀ (f i j : Nat), i ≤ j → j < 2 ^ f + i → (i = 0 → j ≠ 0) → i ≤ search p f i j ∧ search p f i j ≤ j ∧ (0 < j → 0 < search p f i j)
  | 0, i, j, h1, h2, h3 => by
    have : i = j := by simp at h2; omega
    subst this
    exact ⟨Nat.le_refl _, Nat.le_refl _, fun h => h⟩
  | f + 1, i, j, h1, h2, h3 => by
    rw [search]
    split
    · rename_i hij
      simp only
      have hpow : 2 ^ (f + 1) = 2 * 2 ^ f := by rw [Nat.pow_succ, Nat.mul_comm]
      have hpos : 0 < 2 ^ f := Nat.pow_pos (by decide)
      split
      · rename_i hh
        have h0 : (i + j) / 2 ≠ 0 := fun e => by rw [e, hp] at hh; cases hh
        obtain ⟨a, b, c⟩ := search_good hp f i ((i + j) / 2) (by omega) (by omega) (fun _ => h0)
        exact ⟨a, by omega, fun _ => c (by omega)⟩
      · obtain ⟨a, b, c⟩ := search_good hp f ((i + j) / 2 + 1) j (by omega) (by omega) (by omega)
        exact ⟨by omega, b, c⟩
    · rename_i hij
      have : i = j := by omega
      subst this
      exact ⟨Nat.le_refl _, Nat.le_refl _, fun h => h⟩
theorem needL_good {n : Nat} (hn : n ≤ 100) : ∀ (f k : Nat) (bad : List E2), GoodE n bad → bad.length + 1 ≤ f + k → k ≤ bad.length → needLOk n f k bad = true
  | 0, k, bad, _, h1, h2 => by omega
  | f + 1, k, bad, hg, h1, h2 => by
    rw [needLOk]
    split
    · rename_i hk
      have hs := hg.sub (List.eraseIdx_sublist bad k)
      have hl : (bad.eraseIdx k).length = bad.length - 1 := by rw [List.length_eraseIdx]; simp [hk]
      rw [Bool.and_eq_true]
      refine ⟨(lay_good hn hs).1, ?_⟩
      split
      · exact needL_good hn f k _ hs (by omega) (by omega)
      · exact needL_good hn f (k + 1) bad hg (by omega) (by omega)
    · rfl
theorem lay_none {n : Nat} {es : List E2} (h : lay n es = none) : es ≠ [] := fun e => by
  subst e
  simp [lay, layE] at h
theorem need_good {n : Nat} (hn : n ≤ 100) {es : List E2} (h : GoodE n es) (hlen : es.length ≤ 1000) (hl : lay n es = none) : needOk n es = true := by
  have hne := List.length_pos_iff.2 (lay_none hl)
  obtain ⟨_, b, c⟩ := search_good (p := fun k => (lay n (es.take k)).isNone) (by simp [lay, layE]) 64 0 es.length (by omega) (by omega) (by omega)
  unfold needOk
  simp only [Bool.and_eq_true, List.all_eq_true, List.mem_range, decide_eq_true_eq]
  have hm : manyE n es = search (fun k => (lay n (es.take k)).isNone) 64 0 es.length := rfl
  refine ⟨⟨⟨fun k _ => (lay_good hn (h.sub (List.take_sublist k es))).1, by rw [hm]; exact c hne⟩, by rw [hm]; exact b⟩, ?_⟩
  refine needL_good hn _ _ _ (h.sub (List.take_sublist _ es)) ?_ (Nat.zero_le _)
  have := List.length_take_le (manyE n es) es
  rw [List.length_take]
  omega
end Go.Proofs.YtekokjechbibdaaDoor
