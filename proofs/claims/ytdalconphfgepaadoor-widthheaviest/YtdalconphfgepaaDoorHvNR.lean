/- WidthHeaviest: the faults as the document reckons them, and the answer held against the document's own. WidthHeaviest: what the statement that calls Heaviest keeps while its order is drawn. -/
import Derived.Test.YtdalconphfgepaaDoorHeavG
import Derived.Test.YtdalconphfgepaaDoorRefH
import Derived.Test.YtdalconphfgepaaDoorFitsL
import Derived.Test.YtdalconphfgepaaDoorOrdMN
namespace Go.Proofs.YtdalconphfgepaaDoor
set_option maxRecDepth 8000
open Go.RowKit Go.Maps
theorem count_add {s v : Nat} (hs : s < 2 ^ 128) (hv : v < 128) (hn : s.testBit v = false) : countS (sAdd s v) = countS s + 1 := by
  have h := count_drop (s := sAdd s v) (v := v) (sAdd_lt' hs hv) (by rw [bit_add]; simp)
  have e : sDrop (sAdd s v) v = s := by
    refine Nat.eq_of_testBit_eq fun i => ?_
    rw [bit_drop, bit_add]
    by_cases hi : i = v
    · subst hi; simp [hn]
    · simp [hi]
  rw [e] at h
  omega
theorem bag_count {N : Nat} (hN : N ≤ 100) : ∀ (l : List Int) (s : Nat), s < 2 ^ 128 → (bagS N l s).2 = 0 → countS (bagS N l s).1 = countS s + l.length
  | [], s, _, _ => rfl
  | v :: l, s, hs, h => by
    unfold bagS at h ⊢
    split at h
    · cases h
    · next hv =>
      rw [if_neg hv]
      split at h
      · cases h
      · next hb =>
        rw [if_neg hb]
        have hv' : v.toNat < 128 := by omega
        rw [bag_count hN l _ (sAdd_lt' hs hv') h, count_add hs hv' (by simpa using hb), List.length_cons]
        omega
theorem smF_congr {g g' : Nat → Nat} : ∀ (c k : Nat), (∀ j, k ≤ j → j < k + c → g j = g' j) → smF g c k = smF g' c k
  | 0, k, _ => rfl
  | c + 1, k, h => by
    unfold smF
    rw [h k (Nat.le_refl _) (by omega), smF_congr c (k + 1) fun j h1 h2 => h j (by omega) (by omega)]
/-- The law's faults, one after another. -/
def hv1 (n : Int) (F0 : Int × Int) (wl : Nat) : Int × Int := if F0.1 = 0 ∧ (wl : Int) ≠ n then (6, 1) else F0
def hv2 (F1 : Int × Int) (wt : Nat → Int) (wl : Nat) : Int × Int := if F1.1 = 0 then wtF wt wl 0 else F1
def hv3 (F2 : Int × Int) (b : Bool) : Int × Int := if F2.1 = 0 ∧ b = false then (7, 0) else F2
def hv4 (F3 : Int × Int) (ls : List (List Int)) : Int × Int := if F3.1 = 0 then smF (fun i => (ls.getD i []).length) ls.length 0 else F3
theorem hv1_two {n : Int} {F0 : Int × Int} {wl : Nat} (h0 : F0.1 = 0 → F0 = (0, 0)) (h : (hv1 n F0 wl).1 = 0) : hv1 n F0 wl = (0, 0) := by
  unfold hv1 at h ⊢
  split
  · next hc => rw [if_pos hc] at h; cases h
  · next hc => rw [if_neg hc] at h; exact h0 h
theorem hv2_two {F1 : Int × Int} {wt : Nat → Int} {wl : Nat} (h : (hv2 F1 wt wl).1 = 0) : hv2 F1 wt wl = (0, 0) := by
  unfold hv2 at h ⊢
  split
  · next hc => rw [if_pos hc] at h; exact (wtF_ok h).1
  · next hc => rw [if_neg hc] at h; exact absurd h hc
theorem hv3_two {F2 : Int × Int} {b : Bool} (h0 : F2.1 = 0 → F2 = (0, 0)) (h : (hv3 F2 b).1 = 0) : hv3 F2 b = (0, 0) := by
  unfold hv3 at h ⊢
  split
  · next hc => rw [if_pos hc] at h; cases h
  · next hc => rw [if_neg hc] at h; exact h0 h
theorem hv_all {n : Int} {es : List Pair} {ls : List (List Int)} {f : Nat → Int} {ul : Nat} {wt : Nat → Int} {wl : Nat} :
    hv4 (hv3 (hv2 (hv1 n (fitsR n es ls f ul).2 wl) wt wl) (fitsR n es ls f ul).1) ls = hvF n es ls f ul wt wl := by
  unfold hvF
  by_cases h0 : (fitsR n es ls f ul).2.1 ≠ 0
  · rw [if_pos h0]
    have e1 : hv1 n (fitsR n es ls f ul).2 wl = (fitsR n es ls f ul).2 := by unfold hv1; rw [if_neg (fun h => h0 h.1)]
    have e2 : hv2 (fitsR n es ls f ul).2 wt wl = (fitsR n es ls f ul).2 := by unfold hv2; rw [if_neg h0]
    have e3 : hv3 (fitsR n es ls f ul).2 (fitsR n es ls f ul).1 = (fitsR n es ls f ul).2 := by unfold hv3; rw [if_neg (fun h => h0 h.1)]
    rw [e1, e2, e3]
    unfold hv4
    rw [if_neg h0]
  · rw [if_neg h0]
    have h0' : (fitsR n es ls f ul).2.1 = 0 := by simpa using h0
    obtain ⟨N, rfl, hN, hck, hm, hul, hop, e⟩ := fitsR_good h0'
    rw [fitsR_two h0']
    have e2 : hv2 (hv1 (N : Int) (0, 0) wl) wt wl = wtR N wt wl := by
      unfold wtR
      by_cases hn : (wl : Int) ≠ N
      · have e1 : hv1 (N : Int) (0, 0) wl = (6, 1) := if_pos ⟨rfl, hn⟩
        rw [e1, if_pos hn]
        exact if_neg (by decide)
      · have e1 : hv1 (N : Int) (0, 0) wl = (0, 0) := if_neg (fun h => hn h.2)
        rw [e1, if_neg hn]
        exact if_pos rfl
    rw [e2]
    by_cases h1 : (wtR N wt wl).1 ≠ 0
    · rw [if_pos h1]
      unfold hv3
      rw [if_neg (fun h => h1 h.1)]
      unfold hv4
      rw [if_neg h1]
    · rw [if_neg h1]
      have h1' : (wtR N wt wl).1 = 0 := by simpa using h1
      have e3 : wtR N wt wl = (0, 0) := by
        unfold wtR at h1' ⊢
        split
        · next hc => rw [if_pos hc] at h1'; cases h1'
        · next hc => rw [if_neg hc] at h1'; exact (wtF_ok h1').1
      rw [e3]
      by_cases h2 : (fitsR N es ls f ul).1 = false
      · rw [if_pos h2, h2]
        rfl
      · rw [if_neg h2]
        unfold hv3
        rw [if_neg (fun h => h2 h.2)]
        unfold hv4
        rw [if_pos rfl, Int.toNat_natCast]
        refine smF_congr _ _ fun j _ hj => ?_
        have hj' : j < ls.length := by omega
        have hb := openR_all ls 0 hop ls[j] (List.getElem_mem hj')
        have e5 : at' (setsL N ls) j = (bagS N ls[j] 0).1 := by simp [at', setsL, hj']
        rw [e5, bag_count hN _ _ (by decide) hb]
        have : countS 0 = 0 := by decide
        simp [this, List.getD, List.getElem?_eq_getElem hj']
theorem hv4_smF {F3 : Int × Int} {ls : List (List Int)} (h : F3.1 = 0) : hv4 F3 ls = smF (fun i => (ls.getD i []).length) ls.length 0 := if_pos h
/-- Heaviest, whatever is handed in. -/
theorem heavy_any {w : World} {n : Int} {x v : Value} {wo uo : Option Addr} {wl wc ul uc : Nat} {es : List Pair} {ls : List (List Int)} {f wt : Nat → Int} (hE : EdgesAt w v es) (hx : RowsAt w x ls) (hF : NumF w uo ul f) (hW : NumF w wo wl wt) (hwl : wl ≤ 17592186044416) (hwt0 : ∀ i, wl ≤ i → wt i = 0) (ht : T64 w) :
    Calls Tryd.prog 21 #[.agg #[.int .i64 n, v], .slice wo wl wc, x, .slice uo ul uc] w fun e w' => HyA w' w.heap.size n es wt (hvF n es ls f ul wt wl) e ∧ Below w.heap.size w w' := by
  by_cases h0 : (fitsR n es ls f ul).2.1 = 0
  · obtain ⟨N, rfl, hN, hck, hm, hul, hop, e⟩ := fitsR_good h0
    subst hul
    obtain ⟨ao, cap, rfl, _⟩ := id hE
    obtain ⟨_, _, _, _, hgood⟩ := chk_good (n := (N : Int)) (es := es) (by rw [hck])
    have he : es = pz (es.map fun p => (p.1.toNat, p.2.toNat)) := by
      unfold pz
      rw [List.map_map]
      symm
      rw [List.map_congr_left (g := id), List.map_id]
      intro p hp
      have := hgood p hp
      show (((p.1.toNat : Nat) : Int), ((p.2.toNat : Nat) : Int)) = p
      rw [Int.toNat_of_nonneg (by omega), Int.toNat_of_nonneg (by omega)]
    generalize es.map (fun p => (p.1.toNat, p.2.toNat)) = es' at he
    subst he
    have hlen : (pz es').length = es'.length := by simp [pz]
    rw [hlen] at hE ⊢
    exact heavy_good hE hx hF hW (by omega) hwt0 ht hck hN rfl hm hop
  · refine (heavy_bad hE hx h0).mono ?_
    rintro e w' ⟨rfl, hB⟩
    refine ⟨?_, hB⟩
    have : hvF n es ls f ul wt wl = (fitsR n es ls f ul).2 := if_pos h0
    rw [this]
    exact Or.inl ⟨h0, rfl⟩
theorem wS_cut {wt : Nat → Int} {s N : Nat} (hs : ∀ x, s.testBit x = true → x < N) : ∀ n, N ≤ n → wS wt s n = wS wt s N := fun n hn => by
  obtain ⟨d, rfl⟩ : ∃ d, n = N + d := ⟨n - N, by omega⟩
  induction d with
  | zero => rfl
  | succ d ih =>
    have hb : ¬ s.testBit (N + d) = true := fun h => by have := hs _ h; omega
    show wS wt s (N + d + 1) = _
    rw [wS, if_neg hb, ih (by omega)]
    omega
theorem lt_two {s N : Nat} (h : ∀ x, s.testBit x = true → x < N) : s < 2 ^ N := by
  refine Nat.lt_pow_two_of_testBit _ fun i hi => ?_
  cases hb : s.testBit i with
  | false => rfl
  | true => have := h i hb; omega
theorem bit_two {s N x : Nat} (h : s < 2 ^ N) (hb : s.testBit x = true) : x < N := by
  by_cases hx : x < N
  · exact hx
  · rw [Nat.testBit_lt_two_pow (Nat.lt_of_lt_of_le h (Nat.pow_le_pow_right (by decide) (by omega)))] at hb
    cases hb
theorem hv_same {N : Nat} {es : List E2} {wt : Nat → Int} {p : Int × Nat} {b : Int} (hes : ∀ e ∈ es, e.1 < N ∧ e.2 < N) (hne : ∀ e ∈ pz es, e.1 ≠ e.2) (hN : N ≤ 100) (hA : HvA (nearBy N es) wt N p) (hB : HvB (fun (i j : Nat) => hasB (pz es) i j) wt N (2 ^ N) b) : p.1 = b := by
  obtain ⟨h1, h2, h3, h4, h5⟩ := hA
  obtain ⟨_, k1, k2⟩ := hB
  have hind : ∀ s, Ind (nearBy N es) s → IndT (fun (i j : Nat) => hasB (pz es) i j) s N := fun s hs a c _ _ ha hc => by
    cases hb : hasB (pz es) (a : Int) (c : Int) with
    | false => exact hb
    | true => rw [nearE_has hes] at hb; rw [hs a c ha hc] at hb; cases hb
  have hirr : ∀ a, (at' (nearBy N es) a).testBit a = false := fun a => by
    cases hb : (at' (nearBy N es) a).testBit a with
    | false => rfl
    | true =>
      rw [← nearE_has hes] at hb
      unfold hasB at hb
      rw [List.any_eq_true] at hb
      obtain ⟨e, he, h⟩ := hb
      have := hne e he
      simp at h
      omega
  have hind2 : ∀ s, s < 2 ^ N → IndT (fun (i j : Nat) => hasB (pz es) i j) s N → Ind (nearBy N es) s := fun s hsN hs a c ha hc => by
    cases hb : (at' (nearBy N es) a).testBit c with
    | false => rfl
    | true =>
      have key : ∀ a c, c < a → s.testBit a = true → s.testBit c = true → (at' (nearBy N es) a).testBit c = true → False := fun a c hca ha hc hb => by
        rw [← nearE_has hes] at hb
        have : hasB (pz es) (a : Int) (c : Int) = false := hs a c (bit_two hsN ha) hca ha hc
        rw [hb] at this
        cases this
      rcases Nat.lt_trichotomy a c with h | h | h
      · exact (key c a h hc ha (nearBy_sym hes a c hb)).elim
      · subst h; rw [hirr] at hb; cases hb
      · exact (key a c h ha hc hb).elim
  have up : p.1 ≤ b := by
    have := k1 p.2 (lt_two h4) (hind _ h3)
    rw [h2, wsum_eq, wS_cut h4 128 (by omega)]
    exact this
  have dn : b ≤ p.1 := by
    rcases k2 with rfl | ⟨s, hs, hi, rfl⟩
    · have := h5 0 (by decide) (fun a c ha => by simp at ha) (fun x hx => by simp at hx)
      rw [wsum_zero] at this
      exact this
    · have hsb : ∀ x, s.testBit x = true → x < N := fun x hx => bit_two hs hx
      have := h5 s (Nat.lt_of_lt_of_le hs (Nat.pow_le_pow_right (by decide) (by omega))) (hind2 s hs hi) hsb
      rw [wsum_eq, wS_cut hsb 128 (by omega)] at this
      exact this
  omega
end Go.Proofs.YtdalconphfgepaaDoor

namespace Go.Proofs.YtdalconphfgepaaDoor
set_option maxRecDepth 8000
open Go.RowKit Go.Maps
theorem run_copyI {W : World} {ty : TypeId} {vo : Option Addr} {vc : Nat} {u : List Int} (hu : IntsAt W (.slice vo u.length vc) u) :
    ∃ po pc w', (Builtin.append_ #[30, 30] ty #[.slice none 0 0, .slice vo u.length vc]).run Tryd.prog W = .ok (.slice po u.length pc) w' ∧ IntsAt w' (.slice po u.length pc) u ∧ Below W.heap.size W w' := by
  obtain ⟨i3, hi3, hy0, hy1, hy2⟩ := info_parts Tryd.info3
  by_cases hl0 : u = []
  · subst hl0
    refine ⟨none, 0, W, ?_, intsAt_nil _, Below.refl _ _⟩
    cases vo with
    | none => simp [go_sem, Builtin.append_]
    | some x => simp [go_sem, Builtin.append_]
  · have hpos : 0 < u.length := List.length_pos_iff.2 hl0
    obtain ⟨ao, cap, e, hl, hI, hc⟩ := hu
    cases e
    obtain ⟨b1, off1, rfl, _⟩ := hc 0 hpos
    obtain ⟨v', w', hr, h1, h2, _⟩ := run_append_own (P := Tryd.prog) W W.heap.size 30 ty 3 i3 (.int .i64 0) 1 8 Tryd.underlying30 hi3 hy0 hy1 hy2 rfl (by decide) (.slice none 0 0) 0 [] (World.ownsRow_nil _ _ _ _) ⟨b1, off1, none⟩ u.length vc (u.map (Value.int .i64)) (by simp) (fun j x hj => by
        rw [List.getElem?_map] at hj
        cases hx : u[j]? with
        | none => rw [hx] at hj; cases hj
        | some z =>
          rw [hx] at hj
          simp at hj
          subst hj
          have hjl := (List.getElem?_eq_some_iff.1 hx).1
          obtain ⟨b', off', e', c'⟩ := hc j hjl
          cases e'
          have e : (⟨b1, off1, none⟩ : Addr).add j = ⟨b1, off1 + j, none⟩ := by unfold Addr.add; split <;> simp_all
          rw [e, c', (List.getElem?_eq_some_iff.1 hx).2]) (fun x hx => by
        obtain ⟨z, _, rfl⟩ := List.mem_map.1 hx
        rfl) (by unfold maxLen; omega) (by omega) (Nat.le_refl _)
    simp only [Nat.zero_add, List.nil_append] at h1
    have hB : Below W.heap.size W w' := (Below.refl _ _).grown h2 (Nat.le_refl _) (fun k hk => by cases hk)
    have hi := intsAt_row h1 hI hl
    obtain ⟨po, pc, rfl, _⟩ := id hi
    exact ⟨po, pc, w', hr, hi, hB⟩
/-- What Heaviest answers, its first two parts. -/
def HzA (w' : World) (base : Nat) (n : Int) (es : List Pair) (wt : Nat → Int) (F : Int × Int) (x y : Value) : Prop :=
  (F.1 ≠ 0 ∧ x = .int .i64 0 ∧ y = .slice none 0 0) ∨
  (F = (0, 0) ∧ ∃ (N : Nat) (es' : List E2) (p : Int × Nat) (lo : Option Addr) (lc : Nat), n = N ∧ es = pz es' ∧ (∀ e ∈ es', e.1 < N ∧ e.2 < N) ∧ HvA (nearBy N es') wt N p ∧ x = .int .i64 p.1 ∧ y = .slice lo (elems p.2).length lc ∧ w'.ownsRow base 3 1 (.slice lo (elems p.2).length lc) (elems p.2).length (qv (elems p.2)))
/-- The whole answer. -/
def HzT (w' : World) (base : Nat) (n : Int) (es : List Pair) (wt : Nat → Int) (F : Int × Int) (v : Value) : Prop := ∃ x y, v = .tuple #[x, y, .agg #[.int .i64 F.1, .int .i64 F.2]] ∧ HzA w' base n es wt F x y
theorem own_under {w w' : World} {base : Nat} {v : Value} {n : Nat} {xs : List Value} (h : w.ownsRow base 3 1 v n xs) (hb : Below w.heap.size w w') : w'.ownsRow base 3 1 v n xs :=
  own_turns h (row := none) ⟨hb.os, hb.tape, hb.output, hb.size, fun j hj _ => hb.block j hj⟩ (fun j hj e => by cases e)
theorem HzA.under {w w' : World} {base : Nat} {n : Int} {es : List Pair} {wt : Nat → Int} {F : Int × Int} {x y : Value} (h : HzA w base n es wt F x y) (hb : Below w.heap.size w w') : HzA w' base n es wt F x y := by
  rcases h with h | ⟨h1, N, es', p, lo, lc, h2, h3, h4, h5, h6, h7, h8⟩
  · exact Or.inl h
  · exact Or.inr ⟨h1, N, es', p, lo, lc, h2, h3, h4, h5, h6, h7, own_under h8 hb⟩
theorem HzT.under {w w' : World} {base : Nat} {n : Int} {es : List Pair} {wt : Nat → Int} {F : Int × Int} {v : Value} (h : HzT w base n es wt F v) (hb : Below w.heap.size w w') : HzT w' base n es wt F v := by
  obtain ⟨x, y, h1, h2⟩ := h
  exact ⟨x, y, h1, h2.under hb⟩
theorem HyA.tuple {w : World} {base base' : Nat} {n : Int} {es : List Pair} {wt : Nat → Int} {F : Int × Int} {e : Ending} (h : HyA w base n es wt F e) (hb : base' ≤ base) : ∃ v, e = .returned v ∧ HzT w base' n es wt F v := by
  rcases h with ⟨h1, rfl⟩ | ⟨h1, N, es', p, lo, lc, h2, h3, h4, h5, rfl, h8⟩
  · exact ⟨_, rfl, _, _, rfl, Or.inl ⟨h1, rfl, rfl⟩⟩
  · refine ⟨_, rfl, .int .i64 p.1, .slice lo (elems p.2).length lc, ?_, Or.inr ⟨h1, N, es', p, lo, lc, h2, h3, h4, h5, rfl, rfl, ownsRow_base h8 hb⟩⟩
    rw [h1]
/-- A store into a box of two numbers leaves the answer as it is. -/
theorem HzA.store {w w' : World} {base : Nat} {n : Int} {es : List Pair} {wt : Nat → Int} {F : Int × Int} {x y c d : Value} {b : Nat} (h : HzA w base n es wt F x y) (h2 : Two w b c d 27) (ht : w.grownBy w' (some b)) : HzA w' base n es wt F x y := by
  rcases h with h | ⟨h1, N, es', p, lo, lc, h3, h4, h5, h6, h7, h8, h9⟩
  · exact Or.inl h
  · refine Or.inr ⟨h1, N, es', p, lo, lc, h3, h4, h5, h6, h7, h8, own_turns h9 ht fun g hg e => ?_⟩
    cases e
    obtain ⟨cs, z, hc⟩ := own_cells3 h9 hg
    have h2' : w.heap[b]? = some (.cells _ 27 (0, 0)) := h2
    rw [hc] at h2'
    cases h2'
/-- Values that are told; some of them also by what operation q left; one store behind all. -/
structure SR (W : World) (m q : Nat) (VP : Nat → Value → World → Prop) (LK : Nat → Value → Value → Prop) (FP : (Nat → Value) → World → Prop) (L : Nat → Bool) (f : Nat → Value) (w : World) : Prop where
  sq : SQ W m VP FP L f w
  lk : L m = false → ∀ i, i < m → L i = true → LK i (f i) (f q)
section
variable {W : World} {m q : Nat} {VP : Nat → Value → World → Prop} {LK : Nat → Value → Value → Prop} {FP : (Nat → Value) → World → Prop} {L : Nat → Bool} {f : Nat → Value} {w w' : World}
theorem SR.start : SR W m q VP LK FP (fun _ => false) f W.drew := ⟨SQ.start, fun _ _ _ h => by cases h⟩
theorem SR.put (h : SR W m q VP LK FP L f w) (hmono : ∀ i x w w', VP i x w → Below w.heap.size w w' → VP i x w') {i : Nat} {x : Value} (hL : L i = false) (hi : i < m) (hq : i ≠ q) (hb : Below w.heap.size w w') (hx : VP i x w') (hk : LK i x (f q)) : SR W m q VP LK FP (also L i) (updV f i x) w' := by
  refine ⟨h.sq.put hmono hL hi hb hx, fun h7 j hj hl => ?_⟩
  rw [updV_ne _ _ (fun e => hq e.symm)]
  by_cases e : j = i
  · subst e; rw [updV_same]; exact hk
  · rw [updV_ne _ _ e]
    exact h.lk (h.sq.open_ hL hi) j hj (by rwa [also_at e] at hl)
theorem SR.putq (h : SR W m q VP LK FP L f w) (hmono : ∀ i x w w', VP i x w → Below w.heap.size w w' → VP i x w') {x : Value} (hL : L q = false) (hi : q < m) (hb : Below w.heap.size w w') (hx : VP q x w') (hk : LK q x x) (hj : ∀ j, j < m → j ≠ q → L j = true → LK j (f j) x) : SR W m q VP LK FP (also L q) (updV f q x) w' := by
  refine ⟨h.sq.put hmono hL hi hb hx, fun h7 j hjm hl => ?_⟩
  rw [updV_same]
  by_cases e : j = q
  · subst e; rw [updV_same]; exact hk
  · rw [updV_ne _ _ e]
    exact hj j hjm e (by rwa [also_at e] at hl)
theorem SR.last (h : SR W m q VP LK FP L f w) (hall : ∀ j, j < m → L j = true) {x : Value} (hf : FP (updV f m x) w') : SR W m q VP LK FP (also L m) (updV f m x) w' :=
  ⟨h.sq.last hall hf, fun h7 => by rw [also_self] at h7; cases h7⟩
end
/-- What the operations of that statement leave. -/
def VL (W : World) (n : Int) (ov rx wv uv : Value) (ws u : List Int) (es : List Pair) (F : Int × Int) : Nat → Value → World → Prop
  | 0, x, _ => x = .agg #[.int .i64 n, ov]
  | 1, x, _ => x = wv
  | 2, x, w => ∃ po pc, x = .slice po ws.length pc ∧ IntsAt w (.slice po ws.length pc) ws
  | 3, x, _ => x = rx
  | 4, x, _ => x = uv
  | 5, x, w => ∃ po pc, x = .slice po u.length pc ∧ IntsAt w (.slice po u.length pc) u
  | 6, x, w => HzT w W.heap.size n es (fun i => ws.getD i 0) F x
  | 7, x, w => HzT w W.heap.size n es (fun i => ws.getD i 0) F x
  | 11, x, w => ∃ b, x = .pointer (some ⟨b, 0, none⟩) ∧ W.heap.size ≤ b ∧ Two w b (.int .i64 0) (.int .i64 0) 27
  | _, _, _ => True
def LKL : Nat → Value → Value → Prop
  | 8, x, v => ∃ a b c, v = .tuple #[a, b, c] ∧ x = a
  | 9, x, v => ∃ a b c, v = .tuple #[a, b, c] ∧ x = b
  | 10, x, v => ∃ a b c, v = .tuple #[a, b, c] ∧ x = c
  | 12, x, v => ∃ a b c, v = .tuple #[a, b, c] ∧ x = a
  | 13, x, v => ∃ a b c, v = .tuple #[a, b, c] ∧ x = b
  | _, _, _ => True
theorem VL_mono {W : World} {n : Int} {ov rx wv uv : Value} {ws u : List Int} {es : List Pair} {F : Int × Int} : ∀ i x w w', VL W n ov rx wv uv ws u es F i x w → Below w.heap.size w w' → VL W n ov rx wv uv ws u es F i x w' := fun i x w w' h hb => by
  match i with
  | 0 => exact h
  | 1 => exact h
  | 2 => obtain ⟨po, pc, h1, h2⟩ := h; exact ⟨po, pc, h1, h2.below hb⟩
  | 3 => exact h
  | 4 => exact h
  | 5 => obtain ⟨po, pc, h1, h2⟩ := h; exact ⟨po, pc, h1, h2.below hb⟩
  | 6 => exact HzT.under h hb
  | 7 => exact HzT.under h hb
  | 8 => exact h
  | 9 => exact h
  | 10 => exact h
  | 11 => obtain ⟨b, h1, h2, h3⟩ := h; exact ⟨b, h1, h2, two_next h3 hb⟩
  | 12 => exact h
  | 13 => exact h
  | n + 14 => exact h
def FPL (W : World) (n : Int) (ws : List Int) (es : List Pair) (F : Int × Int) (f : Nat → Value) (w : World) : Prop :=
  ∃ b, f 11 = .pointer (some ⟨b, 0, none⟩) ∧ HzA w W.heap.size n es (fun i => ws.getD i 0) F (f 12) (f 13) ∧ Two w b (.int .i64 F.1) (.int .i64 F.2) 27 ∧ Below W.heap.size W w
end Go.Proofs.YtdalconphfgepaaDoor
