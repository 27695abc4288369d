/- Undo, what hangs together, and the document's graph of the deeds, in memory while the law plays. -/
import Derived.Test.YtfdlndljpmamgaaPlayM
namespace Go.Proofs.Ytfdlndljpmamgaa
set_option maxRecDepth 8000
open Go.RowKit Go.Maps
variable {w W W' : World} {bh bd k : Nat} {p : Nat → Hp} {b : Nat → Nat} {v : Nat → Value} {hs ds : Nat → List Dd}
/-- A house is asked: it may turn what it has found out, and nothing else. -/
theorem LI.ask (h : LI w W bh bd k p b v hs ds) {i : Nat} (hi : i < 2) {L : List ByteArray} {E : Ed} {K : List Ck} {n : Nat} (hH : Hse W (p i) L E K n) (hD : Dn (hs i) L E K) (hn : n ≤ k) (hA : AskQ W W' (p i) L E K n) :
    ∃ q, LI w W' bh bd k q b v hs ds := by
  obtain ⟨p', hb, hh', hT, hm⟩ := hA
  have hrow : ∀ j, j < 2 → ∀ x, (v j).ownBlock = some x → ¬ (p i).mine x := fun j hj x hx hmx => by
    obtain ⟨cs, hc⟩ := (h.ho j hj).row_obj hx
    rcases hH.types hmx with ⟨es, c, h1⟩ | ⟨cs', t', h1, h2⟩
    · rw [hc] at h1; cases h1
    · rw [hc] at h1; cases h1; simp [OwnT] at h2
  refine ⟨upd p i p', (hT.block _ (lt_of_block h.rowH) (hH.off h.rowH (by simp [OwnT]))).trans h.rowH, (hT.block _ (lt_of_block h.rowD) (hH.off h.rowD (by simp [OwnT]))).trans h.rowD, fun j hj => ?_, fun j l hj hl hjl x hx => ?_, h.offV, h.loH, h.loD, Turns.below h.below hT h.below.size (h.ho i hi).mine⟩
  · have h0 := h.ho j hj
    have hrow' : W'.ownsRow w.heap.size 33 3 (v j) (ds j).length (dv (ds j)) := ownsRow_blocks h0.row fun x hx => hT.block x (h0.row.lt x hx).2 (hrow j hj x hx)
    by_cases e : j = i
    · subst e
      rw [upd_at]
      exact ⟨hb.trans h0.at_, ⟨L, E, K, n, hh', hD, hn⟩, h0.lenH, h0.lenD, hrow', fun x hx => (hm x hx).elim (h0.mine x) (fun h' => Nat.le_trans h.below.size h')⟩
    · rw [upd_ne _ _ e]
      obtain ⟨L1, E1, K1, n1, g1, g2, g3⟩ := h0.house
      exact ⟨h0.at_, ⟨L1, E1, K1, n1, g1.other hH hT (h.offP j i hj hi e), g2, g3⟩, h0.lenH, h0.lenD, hrow', h0.mine⟩
  · by_cases e : j = i
    · subst e
      rw [upd_at] at hx
      rw [upd_ne _ _ (fun e => hjl e.symm)]
      obtain ⟨L1, E1, K1, n1, g1, _, _⟩ := (h.ho l hl).house
      rcases hm x hx with h' | h'
      · exact h.offP j l hj hl hjl x h'
      · intro hx2; have := g1.lt hx2; omega
    · rw [upd_ne _ _ e] at hx
      by_cases e2 : l = i
      · subst e2
        rw [upd_at]
        intro hx2
        obtain ⟨L1, E1, K1, n1, g1, _, _⟩ := (h.ho j hj).house
        rcases hm x hx2 with h' | h'
        · exact h.offP j l hj hl hjl x hx h'
        · have := g1.lt hx; omega
      · rw [upd_ne _ _ e2]
        exact h.offP j l hj hl hjl x hx
/-- One round more may come. -/
theorem LI.mono (h : LI w W bh bd k p b v hs ds) {k' : Nat} (hk : k ≤ k') : LI w W bh bd k' p b v hs ds :=
  ⟨h.rowH, h.rowD, fun i hi => (h.ho i hi).mono hk, h.offP, h.offV, h.loH, h.loD, h.below⟩
/-- What lies in a box of a type that is none of a house's stands, whatever the house does. -/
theorem ask_box {L : List ByteArray} {E : Ed} {K : List Ck} {n : Nat} {q : Hp} (hH : Hse W q L E K n) (hT : Turns q.mine W W') {c : Nat} {cs : Array Value} {t : TypeId} (hc : Box W c cs t) (ht : ¬ OwnT t) : Box W' c cs t :=
  (hT.block _ (lt_of_block hc) (hH.off hc ht)).trans hc
/-- What may change where a house is asked or does a deed. -/
def Kept (W W' : World) : Prop := ∀ c cs t, Box W c cs t → ¬ OwnT t → Box W' c cs t
theorem undo_e (h : LI w W bh bd k p b v ds ds) {i : Nat} (hi : i < 2) (hds : ds i = []) :
    Calls Try.prog 10 #[ptr (b i)] W fun e w' => e = .returned (.agg #[.int .i64 11, .int .i64 0]) ∧ (∃ q, LI w w' bh bd (k + 1) q b v ds ds) ∧ Kept W w' := by
  obtain ⟨L, E, K, n, hH, hD, hn⟩ := (h.ho i hi).house
  rw [← (h.ho i hi).at_]
  have hD0 := hD
  rw [hds] at hD
  refine Calls.mono (undo_not hH hD) ?_
  rintro e w' ⟨rfl, hq⟩
  have hq0 := hq
  obtain ⟨_, _, _, _, _, _, p', _, _, hT, _⟩ := hq
  refine ⟨rfl, ?_, fun c cs t hc ht => ask_box hH hT hc ht⟩
  obtain ⟨q, hL⟩ := h.act hi hn (Nat.zero_le _) hH hq0
  rw [← hds, upd_self] at hL
  exact ⟨q, hL⟩
theorem undo_n (h : LI w W bh bd k p b v ds ds) {i : Nat} (hi : i < 2) (hk : k ≤ 200) (hds : ds i ≠ []) :
    Calls Try.prog 10 #[ptr (b i)] W fun e w' => e = .returned (.agg #[.int .i64 0, .int .i64 0]) ∧ (∃ q es d, ds i = es ++ [d] ∧ LI w w' bh bd (k + 1) q b v (upd ds i es) ds) ∧ Kept W w' := by
  obtain ⟨L, E, K, n, hH, hD, hn⟩ := (h.ho i hi).house
  have hlen := (h.ho i hi).lenH
  rw [← (h.ho i hi).at_]
  refine Calls.mono (undo_did hH hD hds (by omega) (by omega)) ?_
  rintro e w' ⟨rfl, es, d, he, hq⟩
  have hq0 := hq
  obtain ⟨_, _, _, _, _, _, p', _, _, hT, _⟩ := hq
  refine ⟨rfl, ?_, fun c cs t hc ht => ask_box hH hT hc ht⟩
  have hle : es.length ≤ k + 1 := by rw [he, List.length_append] at hlen; omega
  obtain ⟨q, hL⟩ := h.act hi hn hle hH hq0
  exact ⟨q, es, d, he, hL⟩
/-- The last deed is kept no more: the boxes stand. -/
theorem popped {i : Nat} {es : List Dd} {d : Dd} {g c b9 b10 : Nat} {F : Int × Int} (hq : LI w W bh bd (k + 1) p b v (upd ds i es) ds) (hi : i < 2) (he : ds i = es ++ [d]) (hv : v i = .slice (some ⟨g, 0, none⟩) (es.length + 1) c) (h9 : Two W b9 (.int .i64 F.1) (.int .i64 F.2) 31) (h10 : Two W b10 (.int .i64 F.1) (.int .i64 F.2) 31) :
    Fin w bh bd (k + 1) b b9 b10 ((W.drew).setCell ⟨bd, i, none⟩ (.slice (some ⟨g, 0, none⟩) es.length c)) := by
  have h1 := hq.step (Below.refl _ _).drew
  have h2 := h1.pop hi he hv
  exact ⟨p, _, _, F, h2, two_deeds hq hi (Turns.of_below (Below.refl _ _).drew _) h9, two_deeds hq hi (Turns.of_below (Below.refl _ _).drew _) h10⟩
/-- The deeds that are kept, as a value. -/
theorem deeds_form (h : LI w W bh bd k p b v hs ds) {i : Nat} (hi : i < 2) : ∃ ao cap, v i = .slice ao (ds i).length cap ∧ (ds i).length ≤ cap := by
  rcases (h.ho i hi).row.2 with ⟨h1, h0⟩ | ⟨g, cap, cur, h1, _, _, h2, _⟩
  · exact ⟨none, 0, by rw [h1, h0], by omega⟩
  · exact ⟨_, cap, h1, h2⟩
theorem deeds_some (h : LI w W bh bd k p b v hs ds) {i : Nat} (hi : i < 2) {es : List Dd} {d : Dd} (he : ds i = es ++ [d]) : ∃ g cap, v i = .slice (some ⟨g, 0, none⟩) (es.length + 1) cap ∧ es.length ≤ cap := by
  rcases (h.ho i hi).row.2 with ⟨h1, h0⟩ | ⟨g, cap, cur, h1, _, _, h2, _⟩
  · rw [he] at h0; simp at h0
  · rw [he, List.length_append] at h1 h2
    exact ⟨g, cap, h1, by simp at h2; omega⟩
/-- Joined. -/
theorem joined_law (h : LI w W bh bd k p b v ds ds) {i : Nat} (hi : i < 2) {L : List ByteArray} {E : Ed} {K : List Ck} {n : Nat} (hH : Hse W (p i) L E K n) (hD : Dn (ds i) L E K) (hn : n ≤ k) {sa sb : ByteArray} (ha : sa.size ≤ maxLen) (hb : sb.size ≤ maxLen) :
    Calls Try.prog 14 #[ptr (b i), .string sa, .string sb] W fun e w' => (∃ r c d, e = .returned (.tuple #[.bool r, .agg #[.int .i64 c, .int .i64 d]]) ∧
      ((¬ sa ∈ L ∧ r = false ∧ c = 10 ∧ d = 0) ∨ (sa ∈ L ∧ ¬ sb ∈ L ∧ r = false ∧ c = 10 ∧ d = 1) ∨ (sa ∈ L ∧ sb ∈ L ∧ (r = true ↔ Star (St2 L.length E) (idx L sa) (idx L sb)) ∧ c = 0 ∧ d = 0))) ∧ (∃ q, LI w w' bh bd k q b v ds ds) ∧ Kept W w' ∧ Turns (p i).mine W w' := by
  rw [← (h.ho i hi).at_]
  have hl := hD.len
  have hB := below_alloc (Below.refl _ W) (Obj.cells #[.int .i64 0, .int .i64 0] 31)
  have hH2 := hH.below hB
  have fin : ∀ w', AskQ W w' (p i) L E K n → (∃ q, LI w w' bh bd k q b v ds ds) ∧ Kept W w' ∧ Turns (p i).mine W w' := fun w' hq => by
    have hq0 := hq
    obtain ⟨p', _, _, hT, _⟩ := hq
    exact ⟨h.ask hi hH hD hn hq0, fun c cs t hc ht => ask_box hH hT hc ht, hT⟩
  by_cases h1 : sa ∈ L
  · by_cases h2 : sb ∈ L
    · have hp := pair_ok hH2.1.box hH2.1.nums ha hb h1 h2
      have i1 := idx_mem.2 h1
      have i2 := idx_mem.2 h2
      rw [show min (idx L sa : Int) (idx L sb : Int) = ((min (idx L sa) (idx L sb) : Nat) : Int) by omega, show max (idx L sa : Int) (idx L sb : Int) = ((max (idx L sa) (idx L sb) : Nat) : Int) by omega] at hp
      refine Calls.mono (joined_ok hH hl.2.2 hD.ed (by omega) (by omega) hp) ?_
      rintro e w' ⟨r, rfl, hr, hq⟩
      obtain ⟨h5, h6⟩ := fin w' hq
      refine ⟨⟨r, 0, 0, rfl, Or.inr (Or.inr ⟨h1, h2, ?_, rfl, rfl⟩)⟩, h5, h6⟩
      rw [hr]
      by_cases hle : idx L sa ≤ idx L sb
      · rw [Nat.min_eq_left hle, Nat.max_eq_right hle]
      · rw [Nat.min_eq_right (by omega), Nat.max_eq_left (by omega)]
        have hE := hD.ed
        have hs : ∀ x y, St2 L.length E x y → St2 L.length E y x := fun x y hxy => by
          rcases hxy.2 with h | h
          · exact ⟨by have := hE _ _ h; omega, Or.inr h⟩
          · exact ⟨by have := hE _ _ h; omega, Or.inl h⟩
        exact ⟨Star.symm hs, Star.symm hs⟩
    · refine Calls.mono (joined_bad hH rfl (pair_noB hH2.1.box hH2.1.nums ha hb h1 h2)) ?_
      rintro e w' ⟨rfl, hq⟩
      obtain ⟨h5, h6⟩ := fin w' hq
      exact ⟨⟨false, 10, 1, rfl, Or.inr (Or.inl ⟨h1, h2, rfl, rfl, rfl⟩)⟩, h5, h6⟩
  · refine Calls.mono (joined_bad hH rfl (pair_noA hH2.1.box hH2.1.nums ha hb h1)) ?_
    rintro e w' ⟨rfl, hq⟩
    obtain ⟨h5, h6⟩ := fin w' hq
    exact ⟨⟨false, 10, 0, rfl, Or.inl ⟨h1, rfl, rfl, rfl⟩⟩, h5, h6⟩
theorem edges_kept {M : Nat → Prop} {ev : Value} {es : List Pair} (h : EdgesAt W ev es) (hT : Turns M W W') (hM : ∀ x, ev.ownBlock = some x → ¬ M x) : EdgesAt W' ev es := by
  obtain ⟨ao, cap, rfl, h1, h2, h3⟩ := h
  refine ⟨ao, cap, rfl, h1, h2, fun k hk => ?_⟩
  obtain ⟨g, off, rfl, c0, c1⟩ := h3 k hk
  exact ⟨g, off, rfl, cell_turns c0 hT (hM g rfl), cell_turns c1 hT (hM g rfl)⟩
/-- The steps of the document's table are those of the house. -/
theorem steps_tab {N : Nat} {E : Ed} (hE : EdOk N E) (x y : Nat) : Star (St N (pn fun i j => hasB (allP N (eB E)) i j) (openB fun _ => false)) x y ↔ Star (St2 N E) x y := by
  refine Star.iff (fun a c => ?_) x y
  unfold St St2 pn openB
  simp only [has_eB hE, Bool.not_false, and_true]
  constructor
  · rintro ⟨h1, h2⟩
    refine ⟨h1, ?_⟩
    by_cases hle : a ≤ c
    · rw [Nat.min_eq_left hle, Nat.max_eq_right hle] at h2; exact Or.inl h2
    · rw [Nat.min_eq_right (by omega), Nat.max_eq_left (by omega)] at h2; exact Or.inr h2
  · rintro ⟨h1, h2 | h2⟩
    · have := hE _ _ h2
      rw [Nat.min_eq_left (by omega), Nat.max_eq_right (by omega)]; exact ⟨h1, h2⟩
    · have := hE _ _ h2
      rw [Nat.min_eq_right (by omega), Nat.max_eq_left (by omega)]; exact ⟨h1, h2⟩
/-- The document's table of the deeds' graph. -/
theorem tab_law {L : List ByteArray} {E : Ed} {K : List Ck} {es : List Dd} (hD : Dn es L E K) (hlen : es.length ≤ 200) {ev : Value} (hE : EdgesAt W ev (allP L.length (eB E))) :
    Calls Try.prog 16 #[.agg #[.int .i64 (L.length : Int), ev]] W fun e w' => (∃ ao cap, e = .returned (.slice ao L.length cap) ∧ GridAt w' (.slice ao L.length cap) L.length (fun i j => hasB (allP L.length (eB E)) i j)) ∧ Below W.heap.size W w' := by
  have hl := hD.len
  have hc := hD.count
  refine Calls.mono (gridOf_tab L.length ev _ W hE (by omega) (by omega) ?_) ?_
  · intro e he
    obtain ⟨u, t, h1, h2, _, rfl⟩ := allP_mem.1 he
    simp only
    omega
  · rintro e w' ⟨hB, ao, cap, bs, rfl, hbl, hT⟩
    exact ⟨⟨ao, cap, rfl, hT.grid hbl⟩, hB⟩
end Go.Proofs.Ytfdlndljpmamgaa
