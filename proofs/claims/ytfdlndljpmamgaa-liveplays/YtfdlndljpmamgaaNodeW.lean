/- Node of a house. -/
import Derived.Test.YtfdlndljpmamgaaAskW
import Derived.Test.YtfdlndljpmamgaaStrW
namespace Go.Proofs.Ytfdlndljpmamgaa
set_option maxRecDepth 8000
open Go.RowKit Go.Maps
attribute [local go_sem ↓] Go.wp_at_zero Go.wp_at_succ
theorem Hs.types {w : World} {p : Hp} {L : List ByteArray} {E : Ed} {K : List Ck} {n : Nat} (h : Hs w p L E K n) {x : Nat} (hx : x = p.b ∨ x = p.nm ∨ x = p.em ∨ p.nv.ownBlock = some x ∨ p.kv.ownBlock = some x) (cs : Array Value) (t : TypeId) (hc : w.heap[x]? = some (.cells cs t (0, 0))) : t ≠ 24 ∧ t ≠ 59 := by
  obtain ⟨h1, h2, h3, h4, h5, ks, h6, h7⟩ := h
  rcases hx with rfl | rfl | rfl | hx | hx
  · rw [h1] at hc; cases hc; decide
  · obtain ⟨es, c, h⟩ := h3.obj; rw [h] at hc; cases hc
  · obtain ⟨es, c, h⟩ := h4.obj; rw [h] at hc; cases hc
  · obtain ⟨cs', h⟩ := row_obj h2 hx; rw [h] at hc; cases hc; decide
  · obtain ⟨cs', h⟩ := row_obj h6 hx; rw [h] at hc; cases hc; decide
theorem Hs.apart {w : World} {p : Hp} {L : List ByteArray} {E : Ed} {K : List Ck} {n : Nat} (h : Hs w p L E K n) : (∀ x, p.kv.ownBlock = some x → x ≠ p.nm ∧ x ≠ p.em ∧ x ≠ p.b ∧ p.nv.ownBlock ≠ some x) ∧ (∀ x, p.nv.ownBlock = some x → x ≠ p.nm ∧ x ≠ p.em ∧ x ≠ p.b) := by
  refine ⟨fun x hx => ⟨(h.kOff hx).1, (h.kOff hx).2.1, fun e => h.bOff.2.2.2 (by rw [hx, e]), (h.kOff hx).2.2.1⟩, fun x hx => ⟨fun e => ?_, fun e => ?_, fun e => h.bOff.2.2.1 (by rw [hx, e])⟩⟩
  · obtain ⟨cs, h1⟩ := row_obj h.names hx
    obtain ⟨es, c, h2⟩ := h.nums.obj
    rw [e, h2] at h1; cases h1
  · obtain ⟨cs, h1⟩ := row_obj h.names hx
    obtain ⟨es, c, h2⟩ := h.edges.obj
    rw [e, h2] at h1; cases h1
theorem settle_hs {w w' : World} {p : Hp} {L : List ByteArray} {E : Ed} {K : List Ck} {n : Nat} (h : Hs w p L E K n) {s : ByteArray} (hs : ¬ s ∈ L) {nv' : Value} (h1 : w'.ownsRow 0 9 1 nv' (L.length + 1) (sv L ++ [.string s])) (h2 : NumM w' p.nm (n + 1) (updN (nmOf L) s (some L.length))) (h3 : Box w' p.b (hcells { p with nv := nv' }) 81)
    (h4 : Turns (fun k => k = p.nm ∨ k = p.b ∨ p.nv.ownBlock = some k) w w') : Hs w' { p with nv := nv' } (L ++ [s]) E K (n + 1) := by
  obtain ⟨a1, a2⟩ := h.apart
  have hty := fun x hx => h.types (x := x) hx
  obtain ⟨b1, b2, b3, b4⟩ := h.bOff
  obtain ⟨g1, g2, g3, g4, g5, ks, g6, g7⟩ := h
  refine ⟨h3, by simpa [sv] using h1, h2.congr (nmOf_push hs), (g4.block (h4.block _ g4.lt (fun e => ?_))).mono (by omega), g5, ks, row_turns g6 h4 (fun x hx e => ?_), fun i c hc => ?_⟩
  · rcases e with e | e | e
    · exact g5 e.symm
    · exact b2 e.symm
    · exact (a2 _ e).2.1 rfl
  · rcases e with e | e | e
    · exact (a1 x hx).1 e
    · exact (a1 x hx).2.2.1 e
    · exact (a1 x hx).2.2.2 e
  · obtain ⟨v, hv, hcl⟩ := g7 i c hc
    refine ⟨v, hv, hcl.turns h4 (fun x hx => hty x ?_)⟩
    rcases hx with e | e | e
    · exact Or.inr (Or.inl e)
    · exact Or.inl e
    · exact Or.inr (Or.inr (Or.inr (Or.inl e)))
set_option maxHeartbeats 1000000 in
/-- What Node does. -/
theorem node1_call {W : World} {p : Hp} {L : List ByteArray} {E : Ed} {K : List Ck} {n hb sb : Nat} {s : ByteArray} (h : Hs W p L E K n) (hL : L.length ≤ 1000) (hn : n < 1000000) (hs : ¬ s ∈ L) (hsz : s.size ≤ maxLen) (hh : One W hb (ptr p.b) 24) (hsb : One W sb (.string s) 9) :
    Calls Try.prog 25 #[ptr hb, ptr sb] W fun e w1 => e = .returned (.tuple #[]) ∧ ∃ p1 : Hp, p1.b = p.b ∧ Hs w1 p1 (L ++ [s]) E K (n + 1) ∧ ClosAt w1 p.b none (.func (.func 27) #[ptr p.b] #[]) ∧ Turns p.mine W w1 ∧ (∀ x, p1.mine x → p.mine x ∨ W.heap.size ≤ x) := by
  have d0 : W.cell? ⟨hb, 0, none⟩ = some (ptr p.b) := box_cell hh rfl
  have d1 : W.cell? ⟨sb, 0, none⟩ = some (.string s) := box_cell hsb rfl
  have CS := hid (settle_call h.box h.nums h.names hsz hL hn)
  have HH := hid h
  clear h hh hsb
  go_enter Try.func25, Try.ntmps25
  go_wp2_with (first | (go_at_call 26; refine Calls.mono CS.out ?_; rintro e w2 ⟨rfl, nv', h1, h2, h3, h4, h5⟩) | go_in)
  go_end0
  refine ⟨rfl, { p with nv := nv' }, rfl, settle_hs HH.out hs h1 h2 h3 h4, rfl, h4.mono fun k _ e => ?_, fun x hx => ?_⟩
  · rcases e with e | e | e
    · exact Or.inr (Or.inl e)
    · exact Or.inl e
    · simp [Hp.mine, e]
  · rcases hx with e | e | e | e | e | e | e
    · exact Or.inl (Or.inl e)
    · exact Or.inl (Or.inr (Or.inl e))
    · exact Or.inl (Or.inr (Or.inr (Or.inl e)))
    · exact Or.inl (Or.inr (Or.inr (Or.inr (Or.inl e))))
    · exact (h5 x e).imp (fun e => by simp [Hp.mine, e]) id
    · exact Or.inl (Or.inr (Or.inr (Or.inr (Or.inr (Or.inr (Or.inl e))))))
    · exact Or.inl (Or.inr (Or.inr (Or.inr (Or.inr (Or.inr (Or.inr e))))))
/-- What a change leaves of a house. -/
def ChgQ (w w' : World) (p : Hp) (L : List ByteArray) (E : Ed) (K : List Ck) (n : Nat) : Prop := ∃ p' : Hp, p'.b = p.b ∧ Hse w' p' L E K n ∧ Turns p.mine w w' ∧ ∀ x, p'.mine x → p.mine x ∨ w.heap.size ≤ x
/-- The code that Node tells. -/
def nodeF (L : List ByteArray) (s : ByteArray) : Int := if nameB s = false then 10 else if idx L s < L.length then 5 else if L.length = 100 then 2 else 0
theorem ChgQ.next {w w1 w2 : World} {p : Hp} {L : List ByteArray} {E : Ed} {K : List Ck} {n : Nat} (hb : Below w.heap.size w w1) (h : ChgQ w1 w2 p L E K n) : ChgQ w w2 p L E K n := by
  obtain ⟨p', h1, h2, h3, h4⟩ := h
  exact ⟨p', h1, h2, (Turns.of_below hb _).trans h3, fun x hx => (h4 x hx).imp id (fun h => Nat.le_trans hb.size h)⟩
theorem ChgQ.after {w w1 w2 : World} {p : Hp} {L : List ByteArray} {E : Ed} {K : List Ck} {n b : Nat} (h : ChgQ w w1 p L E K n) (ht : Turns (fun k => k = b) w1 w2) (hw : w.heap.size ≤ b) {cs : Array Value} (hB : Box w1 b cs 31) : ChgQ w w2 p L E K n := by
  obtain ⟨p', h1, h2, h3, h4⟩ := h
  refine ⟨p', h1, h2.turns ht (fun x e => by subst e; exact h2.off hB (by simp [OwnT])) (fun x e cs' t hc => by subst e; have hB : w1.heap[x]? = _ := hB; rw [hc] at hB; cases hB; decide), ?_, h4⟩
  exact ⟨ht.os.trans h3.os, ht.tape.trans h3.tape, ht.output.trans h3.output, Nat.le_trans h3.size ht.size, fun k hk hn => (ht.block k (Nat.lt_of_lt_of_le hk h3.size) (fun e => by omega)).trans (h3.block k hk hn)⟩
set_option maxHeartbeats 4000000 in
theorem node_bad {w : World} {p : Hp} {L : List ByteArray} {E : Ed} {K : List Ck} {n : Nat} (h : Hse w p L E K n) {s : ByteArray} (hsz : s.size ≤ maxLen) (hbad : nameB s = false ∨ s ∈ L ∨ L.length = 100) :
    Calls Try.prog 6 #[ptr p.b, .string s] w fun e w' => e = .returned (fv (nodeF L s) 0) ∧ AskQ w w' p L E K n := by
  have HH := hid h
  obtain ⟨hs, _⟩ := h
  obtain ⟨cap, hnv⟩ : ∃ c, ∃ ao, p.nv = .slice ao L.length c := by
    obtain ⟨ao, c, h⟩ := form_own hs.names
    exact ⟨c, ao, h⟩
  obtain ⟨ao, hnv⟩ := hnv
  have hbl : p.b < w.heap.size := lt_of_block hs.box
  have hbx : ∀ o o', Box ((w.alloc o).alloc o') p.b (hcells p) 81 := fun o o' => one_alloc (one_alloc hs.box o) o'
  have c1 : ∀ o o', ((w.alloc o).alloc o').cell? ⟨p.b, 1, none⟩ = some (.map (some p.nm)) := fun o o' => (hbox_cells (hbx o o')).2.1
  have c0 : ∀ o o', ((w.alloc o).alloc o').cell? ⟨p.b, 0, none⟩ = some (.slice ao L.length cap) := fun o o' => by rw [← hnv]; exact (hbox_cells (hbx o o')).1
  have h2 : ∀ o, One ((w.alloc (Obj.cells #[ptr p.b] 24)).alloc o) w.heap.size (ptr p.b) 24 := fun o => one_alloc (one_new w (ptr p.b) 24) o
  have d2 : ∀ o, ((w.alloc (Obj.cells #[ptr p.b] 24)).alloc o).cell? ⟨w.heap.size, 0, none⟩ = some (ptr p.b) := fun o => box_cell (h2 o) rfl
  have hnn : ∀ o o', NumM ((w.alloc o).alloc o') p.nm n (nmOf L) := fun o o' => hs.nums.block ((Below.heap_alloc _ _ _ (by have := hs.nums.lt; simp; omega)).trans (Below.heap_alloc _ _ _ hs.nums.lt))
  have CN := hid (name_call s)
  have hfull : Hid (¬ s ∈ L → nameB s = true → L.length = 100) := fun h1 h2 => by
    rcases hbad with h | h | h
    · rw [h2] at h; cases h
    · exact absurd h h1
    · exact h
  clear hbad
  by_cases hmem : s ∈ L
  · have g1 : ∀ o o', (Instr.lookup 61 (.map (some p.nm)) (.string s) true).run Try.prog ((w.alloc o).alloc o') = .ok (.tuple #[.int .i64 (idx L s : Int), .bool true]) ((w.alloc o).alloc o') := fun o o' => by
      have := (hnn o o').get hsz
      rw [nmOf_in hmem] at this
      exact this
    have hil := idx_mem.2 hmem
    cases hn : nameB s with
    | false =>
      have er : nodeF L s = 10 := by simp [nodeF, hn]
      rw [er]
      rw [hn] at CN
      clear hs hnn h2 hbx hmem hn er hfull hil
      generalize idx L s = iu at g1
      go_enter Try.func6, Try.ntmps6
      go_wp2_with (first | (go_at_call 22; refine Calls.mono (CN.out _) ?_; rintro e w2 ⟨rfl, rfl⟩) | go_in)
      exact bodyPost_ret (v := fv 10 0) (by simp [results, Try.results6, go_sem]) rfl ⟨rfl, ask_below HH.out (below2 _ _)⟩
    | true =>
      have er : nodeF L s = 5 := by simp [nodeF, hn, hil]
      rw [er]
      rw [hn] at CN
      clear hs hnn h2 hbx hmem hn er hfull hil
      generalize idx L s = iu at g1
      go_enter Try.func6, Try.ntmps6
      go_wp2_with (first | (go_at_call 22; refine Calls.mono (CN.out _) ?_; rintro e w2 ⟨rfl, rfl⟩) | go_in)
      exact bodyPost_ret (v := fv 5 0) (by simp [results, Try.results6, go_sem]) rfl ⟨rfl, ask_below HH.out (below2 _ _)⟩
  · have g1 : ∀ o o', (Instr.lookup 61 (.map (some p.nm)) (.string s) true).run Try.prog ((w.alloc o).alloc o') = .ok (.tuple #[.int .i64 0, .bool false]) ((w.alloc o).alloc o') := fun o o' => by
      have := (hnn o o').get hsz
      rw [nmOf_out hmem] at this
      exact this
    have hil : ¬ idx L s < L.length := fun h => hmem (idx_mem.1 h)
    cases hn : nameB s with
    | false =>
      have er : nodeF L s = 10 := by simp [nodeF, hn]
      rw [er]
      rw [hn] at CN
      clear hs hnn h2 hbx hmem hn er hfull hil
      go_enter Try.func6, Try.ntmps6
      go_wp2_with (first | (go_at_call 22; refine Calls.mono (CN.out _) ?_; rintro e w2 ⟨rfl, rfl⟩) | go_in)
      exact bodyPost_ret (v := fv 10 0) (by simp [results, Try.results6, go_sem]) rfl ⟨rfl, ask_below HH.out (below2 _ _)⟩
    | true =>
      have h100 := hfull.out hmem hn
      have er : nodeF L s = 2 := by unfold nodeF; rw [hn, if_neg (by simp), if_neg hil, if_pos h100]
      have z1 : ((L.length : Int) == 100) = true := by simp; omega
      rw [er]
      rw [hn] at CN
      clear hs hnn h2 hbx hmem hn er hfull hil h100
      go_enter Try.func6, Try.ntmps6
      go_wp2_with (first | (go_at_call 22; refine Calls.mono (CN.out _) ?_; rintro e w2 ⟨rfl, rfl⟩) | go_in)
      exact bodyPost_ret (v := fv 2 0) (by simp [results, Try.results6, go_sem]) rfl ⟨rfl, ask_below HH.out (below2 _ _)⟩
set_option maxHeartbeats 4000000 in
theorem node_ok {w : World} {p : Hp} {L : List ByteArray} {E : Ed} {K : List Ck} {n : Nat} (h : Hse w p L E K n) (hL : L.length < 100) (hK : K.length ≤ 1000) (hn : n < 1000000) {s : ByteArray} (hsz : s.size ≤ maxLen) (hname : nameB s = true) (hmem : ¬ s ∈ L) :
    Calls Try.prog 6 #[ptr p.b, .string s] w fun e w' => e = .returned fz ∧ ChgQ w w' p (L ++ [s]) E (K ++ [none]) (n + 1) := by
  have HH := hid h
  obtain ⟨hs, _⟩ := h
  obtain ⟨cap, hnv⟩ : ∃ c, ∃ ao, p.nv = .slice ao L.length c := by
    obtain ⟨ao, c, h⟩ := form_own hs.names
    exact ⟨c, ao, h⟩
  obtain ⟨ao, hnv⟩ := hnv
  have hbl : p.b < w.heap.size := lt_of_block hs.box
  have hbx : ∀ o o', Box ((w.alloc o).alloc o') p.b (hcells p) 81 := fun o o' => one_alloc (one_alloc hs.box o) o'
  have c1 : ∀ o o', ((w.alloc o).alloc o').cell? ⟨p.b, 1, none⟩ = some (.map (some p.nm)) := fun o o' => (hbox_cells (hbx o o')).2.1
  have c0 : ∀ o o', ((w.alloc o).alloc o').cell? ⟨p.b, 0, none⟩ = some (.slice ao L.length cap) := fun o o' => by rw [← hnv]; exact (hbox_cells (hbx o o')).1
  have h2 : ∀ o, One ((w.alloc (Obj.cells #[ptr p.b] 24)).alloc o) w.heap.size (ptr p.b) 24 := fun o => one_alloc (one_new w (ptr p.b) 24) o
  have d2 : ∀ o, ((w.alloc (Obj.cells #[ptr p.b] 24)).alloc o).cell? ⟨w.heap.size, 0, none⟩ = some (ptr p.b) := fun o => box_cell (h2 o) rfl
  have hnn : ∀ o o', NumM ((w.alloc o).alloc o') p.nm n (nmOf L) := fun o o' => hs.nums.block ((Below.heap_alloc _ _ _ (by have := hs.nums.lt; simp; omega)).trans (Below.heap_alloc _ _ _ hs.nums.lt))
  have CN := hid (name_call s)
  rw [hname] at CN
  have hs20 : s.size ≤ 100 := by
    have h1 := hname
    simp [nameB] at h1
    omega
  have CL := hid (fun w => clone_str s w hs20)
  have g1 : ∀ o o', (Instr.lookup 61 (.map (some p.nm)) (.string s) true).run Try.prog ((w.alloc o).alloc o') = .ok (.tuple #[.int .i64 0, .bool false]) ((w.alloc o).alloc o') := fun o o' => by
    have := (hnn o o').get hsz
    rw [nmOf_out hmem] at this
    exact this
  have z1 : ((L.length : Int) == 100) = false := by simp; omega
  have z2 : ¬ (L.length : Int) = 100 := by omega
  have HX : Hid (L.length < 100 ∧ K.length ≤ 1000 ∧ n < 1000000 ∧ ¬ s ∈ L ∧ s.size ≤ maxLen) := ⟨hL, hK, hn, hmem, hsz⟩
  have hE25 : ∀ args w, (callFunc 25 args).run Try.prog w = .ok (.enter 25 args) w := enters_of Try.func25 (by kernel_rfl) rfl
  have hmf : ∀ (fn : Fn) (first cap : Array Value) (w : World), (Instr.makeFunc fn first cap).run Try.prog w = .ok (.func fn first cap) w := fun _ _ _ _ => rfl
  clear hs hnn h2 hbx hmem hname hL hK hn hs20 hsz
  go_enter Try.func6, Try.ntmps6
  go_upto_region 9 with (first | (go_at_call 22; refine Calls.mono (CN.out _) ?_; rintro e w2 ⟨rfl, rfl⟩) | (go_at_call 23; refine Calls.mono (CL.out _) ?_; rintro e w2 ⟨rfl, hB⟩) | go_in)
  have hB2 : Below w.heap.size w (w2.alloc (Obj.cells #[.string s] 9)) := below_next (below2 _ _) (below_next hB (below_alloc (Below.refl _ w2) _))
  have hB3 : Below ((w.alloc (Obj.cells #[ptr p.b] 24)).alloc (Obj.cells #[.int .i64 0, .int .i64 0] 31)).heap.size ((w.alloc (Obj.cells #[ptr p.b] 24)).alloc (Obj.cells #[.int .i64 0, .int .i64 0] 31)) (w2.alloc (Obj.cells #[.string s] 9)) := below_next hB (below_alloc (Below.refl _ w2) _)
  have hh : One (w2.alloc (Obj.cells #[.string s] 9)) w.heap.size (ptr p.b) 24 := (hB3.block _ (by simp; omega)).trans (one_alloc (one_new w (ptr p.b) 24) _)
  have t4 : Two (w2.alloc (Obj.cells #[.string s] 9)) (w.heap.size + 1) (.int .i64 0) (.int .i64 0) 31 := two_next (two_nxt w _ _ _ 31) hB3
  have hsb := one_new w2 (.string s) 9
  have h3 := HH.out.below hB2
  have CC := hid (change_call (c := none) (bk := .func (.func 27) #[ptr p.b] #[]) (M := p.mine) hE25 HX.out.2.1 (node1_call h3.1 (by have := HX.out.1; omega) HX.out.2.2.1 HX.out.2.2.2.1 HX.out.2.2.2.2 hh hsb))
  have HB2 := hid hB2
  have HT4 := hid t4
  have HN4 : Hid (¬ p.mine (w.heap.size + 1)) := h3.off t4 (by simp [OwnT])
  have d2' := box_cell hh (i := 0) rfl
  clear CN CL hB hB2 hB3 hh t4 hsb c1 c0 d2 g1 hnv h3
  obtain ⟨b4, hb4⟩ : ∃ b, b = w.heap.size + 1 := ⟨_, rfl⟩
  rw [← hb4] at HT4 HN4 ⊢
  have HB4 : Hid (w.heap.size ≤ b4) := (by omega : w.heap.size ≤ b4)
  clear hb4
  generalize w2.heap.size = b7 at *
  generalize w2.alloc (Obj.cells #[.string s] 9) = W3 at *
  go_upto_region 10 with (first | (go_at_call 24; refine Calls.mono CC.out ?_; rintro e w5 ⟨rfl, p2, q1, q2, q3, q4⟩) | go_in)
  have t4 := two_turns HT4.out q3 HN4.out
  have f0 := free_two t4 0
  have f1 := free_two t4 1
  obtain ⟨c0, c1⟩ := cell_two t4
  have HQ : Hid (ChgQ W3 w5 p (L ++ [s]) E (K ++ [none]) (n + 1)) := ⟨p2, q1, q2, q3, q4⟩
  have T4 := hid t4
  clear q1 q2 q3 q4 t4 CC d2'
  go_wp2
  have hW := two_setN (x' := .int .i64 0) (y' := .int .i64 0) T4.out
  have hT5 := (setCell_turns w5 b4 0 (.int .i64 0)).trans (setCell_turns _ b4 1 (.int .i64 0))
  generalize (w5.setCell ⟨b4, 0, none⟩ (.int .i64 0)).setCell ⟨b4, 1, none⟩ (.int .i64 0) = W6 at hW hT5 ⊢
  obtain ⟨g0, g1⟩ := cell_two hW
  refine bodyPost_ret (v := fz) (by simp [results, Try.results6, go_sem, g0, g1]) rfl ⟨rfl, ?_⟩
  exact (ChgQ.next HB2.out HQ.out).after hT5 HB4.out T4.out
end Go.Proofs.Ytfdlndljpmamgaa
