/- settle and leave of a house. -/
import Derived.Test.YtfdlndljpmamgaaPairW
namespace Go.Proofs.Ytfdlndljpmamgaa
set_option maxRecDepth 8000
open Go.RowKit Go.Maps
attribute [local go_sem ↓] Go.wp_at_zero Go.wp_at_succ
theorem Try.info9 : (Try.prog.info? 9).map (fun i => (i.zero, i.size, i.bytes)) = some (some (.string ByteArray.empty), 1, 16) := by kernel_rfl
theorem Try.info1 : (Try.prog.info? 1).map (fun i => (i.zero, i.size, i.bytes)) = some (some .nilFunc, 1, 8) := by kernel_rfl
/-- One value more at a row's end, and where it lies. -/
theorem wpList_pushV {W : World} {ops : Array Oper} {rest : List Oper} {o : Oper} {a : Act} {Q : Exit → Act → World → Prop} {base : Nat} {po : Option Addr} {n pc : Nat} {l : List Value} {x : Value} (hgd : o.guard = none) (s y : Operand) (t e : TypeId) (z : Value) (bytes : Nat)
    (ht : Try.prog.underlying t = some (.slice e)) (hi : (Try.prog.info? e).map (fun i => (i.zero, i.size, i.bytes)) = some (some z, 1, bytes)) (hzs : z.cells.size = 1) (hby : bytes ≤ 100)
    (ho : o.op = .call { callee := .builtin .append, args := #[s, y], argTypes := #[t, t] }) (hs : a.eval s = .slice po n pc) (hy : a.eval y = .slice (some ⟨W.heap.size, 0, none⟩) 1 1)
    (hown : W.ownsRow base e 1 (.slice po n pc) n l) (hx1 : x.oneCell' = true) (hl : n ≤ 1000000) (hbase : base ≤ W.heap.size)
    (h : ∀ g c w', w'.ownsRow base e 1 (.slice (some ⟨g, 0, none⟩) (n + 1) c) (n + 1) (l ++ [x]) → (W.alloc (Obj.cells #[x] e)).grownBy w' (Value.slice po n pc).ownBlock → ((Value.slice po n pc).ownBlock = some g ∨ W.heap.size ≤ g) → wpList Try.prog ops Q rest (a.put o.dst (.slice (some ⟨g, 0, none⟩) (n + 1) c)) w') :
    wpList Try.prog ops Q (o :: rest) a (W.alloc (Obj.cells #[x] e)) := by
  obtain ⟨i3, hi3, hy0, hy1, hy2⟩ := info_parts hi
  refine wpList_append_lies _ hgd s y t ho base e i3 z 1 bytes ht hi3 hy0 hy1 hy2 hzs (by decide) _ _ _ hs (hown.alloc _) ⟨W.heap.size, 0, none⟩ 1 1 [x] hy rfl ?_ ?_ (by omega) ?_ ?_ ?_ (W.heap.size + 1) (by simp) ?_
  · exact cell_one_new _ _ _
  · intro y hy; simp at hy; subst hy; exact hx1
  · unfold maxLen; omega
  · have : (n + 1) * bytes ≤ (n + 1) * 100 := Nat.mul_le_mul_left _ hby
    omega
  · simp; omega
  · intro g c w' h1 h2 h3 _
    exact h g c w' h1 h2 (h3.imp id (fun h => by omega))
theorem form_own {w : World} {base : Nat} {t : TypeId} {v : Value} {n : Nat} {xs : List Value} (h : w.ownsRow base t 1 v n xs) : ∃ ao cap, v = .slice ao n cap := by
  rcases h.2 with ⟨rfl, h0⟩ | ⟨g, cap, cur, rfl, _⟩
  · exact ⟨none, 0, by rw [h0]⟩
  · exact ⟨_, _, rfl⟩
abbrev fset (cs : Array Value) (i : Nat) (x : Value) : Array Value := cs.setIfInBounds i x
theorem grown_turns {W w2 : World} {o : Obj} {row : Option Nat} (hg : (W.alloc o).grownBy w2 row) : Turns (fun k => row = some k) W w2 :=
  (alloc_turns W o _).trans ((Turns.of_grown hg).mono fun _ _ e => e.symm)
theorem own_slice {g n c x : Nat} (h : (Value.slice (some ⟨g, 0, none⟩) n c).ownBlock = some x) : x = g := by
  injection h with h; exact h.symm
set_option maxHeartbeats 2000000 in
theorem settle_call {w : World} {p : Hp} {n : Nat} {L : List ByteArray} (hb : Box w p.b (hcells p) 81) (hnm : NumM w p.nm n (nmOf L)) (hrow : w.ownsRow 0 9 1 p.nv L.length (sv L)) {s : ByteArray} (hs : s.size ≤ maxLen) (hL : L.length ≤ 1000) (hn : n < 1000000) :
    Calls Try.prog 26 #[ptr p.b, .string s] w fun e w' => e = .returned (.tuple #[]) ∧ ∃ nv', w'.ownsRow 0 9 1 nv' (L.length + 1) (sv L ++ [.string s]) ∧ NumM w' p.nm (n + 1) (updN (nmOf L) s (some L.length)) ∧ Box w' p.b (hcells { p with nv := nv' }) 81 ∧
      Turns (fun k => k = p.nm ∨ k = p.b ∨ p.nv.ownBlock = some k) w w' ∧ ∀ x, nv'.ownBlock = some x → p.nv.ownBlock = some x ∨ w.heap.size ≤ x := by
  obtain ⟨c0, c1, c2, c3, c4⟩ := hbox_cells hb
  obtain ⟨ao, cap, hnv⟩ := form_own hrow
  obtain ⟨W, hrun, hn2, ht⟩ := NumM.store (w := w.drew) (hnm.block rfl) hs (c := L.length) (by omega) (by omega)
  have hT := turned_turns ht
  have hbn : p.b ≠ p.nm := fun e => by
    obtain ⟨es, c, h1⟩ := hnm.obj
    rw [e] at hb
    rw [hb] at h1; cases h1
  have hon : ∀ x, p.nv.ownBlock = some x → ¬ x = p.nm := fun x hx e => by
    obtain ⟨cs, h1⟩ := row_obj hrow hx
    obtain ⟨es, c, h2⟩ := hnm.obj
    rw [e] at h1
    rw [h1] at h2; cases h2
  have hob : ∀ x, p.nv.ownBlock = some x → ¬ x = p.b := fun x hx e => by
    obtain ⟨cs, h1⟩ := row_obj hrow hx
    rw [e, hb] at h1; cases h1
  have hb1 : Box W p.b (hcells p) 81 := box_turns (w := w.drew) hb hT hbn
  have hrow1 : W.ownsRow 0 9 1 p.nv L.length (sv L) := row_turns (w := w.drew) hrow hT hon
  have HT : Hid _ := hT
  have HN : Hid _ := hn2
  have HB1 : Hid _ := hb1
  have HR1 : Hid _ := hrow1
  have HON : Hid _ := hon
  have HOB : Hid _ := hob
  have hlen : Hid (L.length ≤ 1000) := hL
  rw [hnv] at c0
  have c1' : w.drew.cell? ⟨p.b, 1, none⟩ = some (.map (some p.nm)) := c1
  have c0' : w.drew.cell? ⟨p.b, 0, none⟩ = some (.slice ao L.length cap) := c0
  clear hb hrow hnm ht hT hn2 hb1 hrow1 hon hob
  go_enter Try.func26, Try.ntmps26
  go_upto_region 0 with (fail)
  go_region
  all_goals
    clear c0 c1 c2 c3 c4 c0' c1' hrun
    obtain ⟨d0, d1, d2, d3, d4⟩ := hbox_cells HB1.out
    rw [hnv] at d0
    have hrw : W.ownsRow 0 9 1 (.slice ao L.length cap) L.length (sv L) := by have := HR1.out; rwa [hnv] at this
    go_wp2_with (at_builtin; refine wpList_pushV (n := L.length) (pc := cap) (po := ao) rfl _ _ 43 9 _ 16 Try.underlying43 Try.info9 rfl (by decide) rfl rfl rfl hrw rfl (by have := hlen.out; omega) (Nat.zero_le _) ?_; intro g c w2 h1 hg hor; have hT2 := grown_turns hg; have hbx2 := box_turns HB1.out hT2 (by rw [← hnv]; exact fun e => HOB.out _ e rfl); have e0 := box_cell (i := 0) hbx2 rfl; have f0 := box_free hbx2 0)
    go_end0
    have hgb : g ≠ p.b := fun e => by
      obtain ⟨cs, h2⟩ := row_obj h1 (x := g) rfl
      rw [e, hbx2] at h2; cases h2
    have hT3 := setCell_turns w2 p.b 0 (.slice (some ⟨g, 0, none⟩) (L.length + 1) c)
    rw [← hnv] at hT2 hor
    refine ⟨rfl, .slice (some ⟨g, 0, none⟩) (L.length + 1) c, row_turns h1 hT3 (fun x hx => by rw [own_slice hx]; exact hgb), ?_, ?_, ?_, ?_⟩
    · have hN : NumM W p.nm (n + 1) (updN (nmOf L) s (some L.length)) := HN.out
      have hN2 := hN.block (hT2.block _ hN.lt (fun e => HON.out _ e rfl))
      exact hN2.block (hT3.block _ hN2.lt (fun e => hbn e.symm))
    · have := box_set hbx2 0 (.slice (some ⟨g, 0, none⟩) (L.length + 1) c)
      exact this
    · refine ((Turns.of_below (Below.refl _ _).drew _).trans (HT.out.mono fun k _ h => Or.inl h)).trans ((hT2.mono fun k _ h => Or.inr (Or.inr h)).trans (hT3.mono fun k _ h => Or.inr (Or.inl h)))
    · intro x hx
      rw [own_slice hx]
      exact hor.imp id fun h => by have := HT.out.size; exact Nat.le_trans this h
set_option maxHeartbeats 2000000 in
theorem leave_call {w : World} {p : Hp} {n : Nat} {L : List ByteArray} {s : ByteArray} (hb : Box w p.b (hcells p) 81) (hnm : NumM w p.nm n (nmOf (L ++ [s]))) (hrow : w.ownsRow 0 9 1 p.nv (L.length + 1) (sv L ++ [.string s])) (hs : s.size ≤ maxLen) (hL : L.length ≤ 1000) :
    Calls Try.prog 27 #[ptr p.b] w fun e w' => e = .returned (.tuple #[]) ∧ ∃ nv', w'.ownsRow 0 9 1 nv' L.length (sv L) ∧ NumM w' p.nm n (updN (nmOf (L ++ [s])) s none) ∧ Box w' p.b (hcells { p with nv := nv' }) 81 ∧
      Turns (fun k => k = p.nm ∨ k = p.b) w w' ∧ nv'.ownBlock = p.nv.ownBlock := by
  obtain ⟨c0, c1, c2, c3, c4⟩ := hbox_cells hb
  have hrow0 := hrow
  rcases hrow.2 with ⟨_, h0⟩ | ⟨g, cap, cur, hnv, _, hg, hnc, hm, hsz, htk⟩
  · omega
  have hcell : w.cell? ⟨g, L.length, none⟩ = some (.string s) := by
    have := hrow.cells (g := g) (by rw [hnv]; rfl) L.length (.string s) (by simp)
    rwa [add_none] at this
  obtain ⟨W, hrun, hn2, ht⟩ := NumM.drop (w := w.drew) (hnm.block rfl) hs 0
  have hT := turned_turns ht
  have hbn : p.b ≠ p.nm := fun e => by
    obtain ⟨es, c, h1⟩ := hnm.obj
    rw [e] at hb
    rw [hb] at h1; cases h1
  have hon : ∀ x, p.nv.ownBlock = some x → ¬ x = p.nm := fun x hx e => by
    obtain ⟨cs, h1⟩ := row_obj hrow hx
    obtain ⟨es, c, h2⟩ := hnm.obj
    rw [e] at h1
    rw [h1] at h2; cases h2
  have hob : ∀ x, p.nv.ownBlock = some x → ¬ x = p.b := fun x hx e => by
    obtain ⟨cs, h1⟩ := row_obj hrow hx
    rw [e, hb] at h1; cases h1
  have hb1 : Box W p.b (hcells p) 81 := box_turns (w := w.drew) hb hT hbn
  have hrow1 : W.ownsRow 0 9 1 p.nv (L.length + 1) (sv L ++ [.string s]) := row_turns (w := w.drew) hrow hT hon
  have HT : Hid _ := hT
  have HN : Hid _ := hn2
  have HB1 : Hid _ := hb1
  have HR1 : Hid _ := hrow1
  have HOB : Hid _ := hob
  have HNC : Hid _ := hnc
  rw [hnv] at c0
  have c1' : w.drew.cell? ⟨p.b, 1, none⟩ = some (.map (some p.nm)) := c1
  have c0' : w.drew.cell? ⟨p.b, 0, none⟩ = some (.slice (some ⟨g, 0, none⟩) (L.length + 1) cap) := c0
  have c5' : w.drew.cell? ⟨g, L.length, none⟩ = some (.string s) := hcell
  have i1 : (0 : Int) ≤ (L.length : Int) := by omega
  have i2 : (L.length : Int) < (L.length : Int) + 1 := by omega
  have i3 : (L.length : Int) ≤ (cap : Int) := by omega
  clear hb hrow hnm ht hT hn2 hb1 hrow1 hon hob hrow0 hg hm hsz htk
  go_enter Try.func27, Try.ntmps27
  go_upto_region 1 with (fail)
  go_region
  all_goals
    clear c0 c1 c2 c3 c4 c0' c1' hrun c5' hcell
    have e0 : W.cell? ⟨p.b, 0, none⟩ = some p.nv := (hbox_cells HB1.out).1
    have f0 := box_free HB1.out 0
    rw [hnv] at e0
    go_wp2
    go_end0
    have hgb : g ≠ p.b := fun e => HOB.out g (by rw [hnv]; rfl) e
    have hT3 := setCell_turns W p.b 0 (.slice (some ⟨g, 0, none⟩) L.length cap)
    have hR := HR1.out
    rw [hnv] at hR
    have hpop := ownsRow_pop (xs := sv L) (last := [.string s]) (by simp) hR
    have hN : NumM W p.nm n (updN (nmOf (L ++ [s])) s none) := HN.out
    refine ⟨rfl, .slice (some ⟨g, 0, none⟩) L.length cap, row_turns hpop hT3 (fun x hx => by rw [own_slice hx]; exact hgb), hN.block (hT3.block _ hN.lt (fun e => hbn e.symm)), ?_, ?_, by rw [hnv]; rfl⟩
    · have := box_set HB1.out 0 (.slice (some ⟨g, 0, none⟩) L.length cap)
      exact this
    · exact ((Turns.of_below (Below.refl _ _).drew _).trans (HT.out.mono fun k _ h => Or.inl h)).trans (hT3.mono fun k _ h => Or.inr h)
end Go.Proofs.Ytfdlndljpmamgaa
