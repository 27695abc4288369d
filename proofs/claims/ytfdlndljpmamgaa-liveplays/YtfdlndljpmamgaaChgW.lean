/- slices.Delete of the last function value; change and takeBack of a house. -/
import Derived.Lib.SliceRun
import Derived.Test.YtfdlndljpmamgaaSetlW
namespace Go.Proofs.Ytfdlndljpmamgaa
set_option maxRecDepth 8000
open Go.RowKit Go.Maps
attribute [local go_sem ↓] Go.wp_at_zero Go.wp_at_succ
theorem hid {p : Prop} (h : p) : Hid p := h
theorem run_clear1 (w : World) (ty : TypeId) (b o c : Nat) (hc : (w.cell? ⟨b, o, none⟩).isSome = true) (hf : w.frozen? ⟨b, o, none⟩ = false) :
    (Builtin.clear_ #[79] ty #[.slice (some ⟨b, o, none⟩) 1 c]).run Try.prog w = .ok (.tuple #[]) (w.setCell ⟨b, o, none⟩ .nilFunc) := by
  have hst := run_storeCells_cells (P := Try.prog) b o [.nilFunc] 0 w (by intro j hj; simp at hj; subst hj; simpa using hc) (by intro j hj; simp at hj; subst hj; simpa using hf) (by intro v hv'; simp at hv'; subst hv'; rfl)
  simp only [Nat.add_zero] at hst
  have hzc : (Builtin.zeroCells (Value.nilFunc).cells 1).toList = [.nilFunc] := by
    kernel_rfl
  simp [Builtin.clear_, run_underlying Try.underlying79, Try.zeroValue1, hzc, hst, World.setCells]
theorem owns_block1 {w : World} {lo : Nat} {t : TypeId} {g n c : Nat} {xs : List Value} (h : w.ownsRow lo t 1 (.slice (some ⟨g, 0, none⟩) n c) n xs) : ∃ cur, w.heap[g]? = some (.cells cur t (0, 0)) ∧ cur.size = c ∧ cur.toList.take n = xs ∧ n ≤ c ∧ c ≤ maxLen ∧ lo ≤ g ∧ xs.length = n := by
  rcases h.2 with ⟨h0, _⟩ | ⟨g', c', cur, h0, h1, h2, h3, h4, h5, h6⟩
  · cases h0
  · cases h0
    exact ⟨cur, h2, by simpa using h5, by simpa using h6, h3, h4, h1, by simpa using h.1⟩
set_option maxHeartbeats 4000000 in
/-- The last one goes. -/
theorem deleteF_call {w : World} {g m c : Nat} {xs : List Value} {x : Value} (h : w.ownsRow 0 1 1 (.slice (some ⟨g, 0, none⟩) (m + 1) c) (m + 1) (xs ++ [x])) (hml : m ≤ 1000000) :
    Calls Try.prog 49 #[.slice (some ⟨g, 0, none⟩) (m + 1) c, .int .i64 (m : Int), .int .i64 ((m : Int) + 1)] w fun e w' => e = .returned (.slice (some ⟨g, 0, none⟩) m c) ∧ w'.ownsRow 0 1 1 (.slice (some ⟨g, 0, none⟩) m c) m xs ∧ Turns (fun k => k = g) w w' := by
  obtain ⟨i3, hi3, hy0, hy1, hy2⟩ := info_parts Try.info1
  obtain ⟨cur, h1, h2, h3, h4, h5, h6, h7⟩ := owns_block1 h
  have hxl : xs.length = m := by simpa using h7
  have hpre : w.ownsRow 0 1 1 (.slice (some ⟨g, 0, none⟩) m c) m xs := ownsRow_pop (last := [x]) (by simp [hxl]) h
  have HPRE : Hid (w.ownsRow 0 1 1 (.slice (some ⟨g, 0, none⟩) m c) m xs) := hpre
  clear h h1 h2 h3 h6 h7 hpre hxl
  have j1 : (0 : Int) ≤ (m : Int) := by omega
  have j2 : (m : Int) ≤ (m : Int) + 1 := by omega
  have j4 : (m : Int) + 1 ≤ (c : Int) := by omega
  have j5 : ((m : Int) == (m : Int) + 1) = false := by simp; omega
  have j6 : ¬ (m : Int) = (m : Int) + 1 := by omega
  have j7 : ((m : Int) + 1).toNat = m + 1 := by omega
  have j9 : (m : Int) ≤ (c : Int) := by omega
  have j10 : ¬ c = 0 := by omega
  have j11 : ¬ (c : Int) = 0 := by omega
  have j12 : (0 : Int) ≤ (m : Int) + 1 := by omega
  have j13 : (c : Int) = (m : Int) + 1 ↔ c = m + 1 := by omega
  go_enter Try.func49, Try.ntmps49
  go_upto_region 5 with (fail)
  refine wp_region_tailT 6 (by kernel_rfl) (by kernel_rfl) (by kernel_rfl) (by decide) ?_
  simp only [List.take_succ_cons, List.take_zero, List.drop_succ_cons, List.drop_zero]
  by_cases hcc : c = m + 1
  · subst hcc
    repeat (quiet_step (fail))
    refine wpQuiet_nil ?_
    rintro _ ⟨gp, rfl⟩
    have hBg := growD_below w gp
    have hpre2 : (growD w gp).ownsRow 0 1 1 (.slice (some ⟨g, 0, none⟩) m (m + 1)) m xs := ownsRow_blocks HPRE.out (fun b hb => hBg.block b (HPRE.out.lt b hb).2)
    have hTg : Turns (fun k => k = g) w (growD w gp) := Turns.of_below hBg _
    generalize growD w gp = wg at *
    have HP2 : Hid _ := hpre2
    have HTG : Hid (Turns (fun k => k = g) w wg) := hTg
    clear hpre2 hTg hBg
    go_upto_region 6 with (first | (at_builtin; refine wpList_append_fits _ rfl _ _ 79 rfl 0 1 i3 1 Try.underlying79 hi3 hy1 g m (m + 1) xs rfl HP2.out ⟨g, 0, none⟩ 0 0 [] ?hy rfl (fun j u hj => by simp at hj) (fun u hu => by simp at hu) (by omega) ?_; (case hy => first | rfl | (simp [Act.eval]; done)); intro w2 hr2 hg2) | fail)
    simp only [Nat.add_zero, List.append_nil] at hr2
    obtain ⟨cur, b1, b2, b3, b4, b5, b6, b7⟩ := owns_block1 hr2
    have hsz : m < cur.size := by omega
    have hclr := run_clear1 w2 0 g m 1 (by
      have := box_cell b1 (i := m) (Array.getElem?_eq_getElem hsz)
      rw [this]; rfl) (box_free b1 _)
    have hrf : (w2.setCell ⟨g, m, none⟩ .nilFunc).ownsRow 0 1 1 (.slice (some ⟨g, 0, none⟩) m (m + 1)) m xs := by
      have hbx := box_set b1 m .nilFunc
      refine ⟨by simpa using b7, Or.inr ⟨g, m + 1, _, rfl, Nat.zero_le _, hbx, b4, b5, by simp [b2], ?_⟩⟩
      rw [Nat.mul_one, ← b3, Array.toList_setIfInBounds, List.take_set_of_le (Nat.le_refl _)]
    have hTw : Turns (fun k => k = g) w w2 := HTG.out.trans ⟨hg2.os, hg2.tape, hg2.output, hg2.size, fun k hk hm => hg2.block k hk (fun e => hm (by simpa using e))⟩
    have HRF : Hid _ := hrf
    have HTF : Hid (Turns (fun k => k = g) w (w2.setCell ⟨g, m, none⟩ .nilFunc)) := hTw.trans (setCell_turns w2 g m .nilFunc)
    have k1 : (m : Int) ≤ (m : Int) + 1 := by omega
    have k4 : m + 1 - m = 1 := by omega
    have k5 : (0 : Int) ≤ (m : Int) := by omega
    have k2 : ¬ m + 1 = m := by omega
    clear hr2 b1 b2 b3 b4 b5 b6 b7 hsz hrf hTw hg2
    go_wp2
    go_ret
    exact ⟨rfl, HRF.out, HTF.out⟩
  · have hcc2 : ¬ (c : Int) = (m : Int) + 1 := by omega
    repeat (quiet_step (fail))
    refine wpQuiet_nil ?_
    rintro _ ⟨gp, rfl⟩
    have hBg := growD_below w gp
    have hpre2 : (growD w gp).ownsRow 0 1 1 (.slice (some ⟨g, 0, none⟩) m c) m xs := ownsRow_blocks HPRE.out (fun b hb => hBg.block b (HPRE.out.lt b hb).2)
    have hTg : Turns (fun k => k = g) w (growD w gp) := Turns.of_below hBg _
    generalize growD w gp = wg at *
    have HP2 : Hid _ := hpre2
    have HTG : Hid (Turns (fun k => k = g) w wg) := hTg
    clear hpre2 hTg hBg
    go_upto_region 6 with (first | (at_builtin; refine wpList_append_fits _ rfl _ _ 79 rfl 0 1 i3 1 Try.underlying79 hi3 hy1 g m c xs rfl HP2.out ⟨g, m + 1, none⟩ 0 (c - (m + 1)) [] ?hy rfl (fun j u hj => by simp at hj) (fun u hu => by simp at hu) (by omega) ?_; (case hy => first | rfl | (simp [Act.eval]; done)); intro w2 hr2 hg2) | fail)
    simp only [Nat.add_zero, List.append_nil] at hr2
    obtain ⟨cur, b1, b2, b3, b4, b5, b6, b7⟩ := owns_block1 hr2
    have hsz : m < cur.size := by omega
    have hclr := run_clear1 w2 0 g m (c - m) (by
      have := box_cell b1 (i := m) (Array.getElem?_eq_getElem hsz)
      rw [this]; rfl) (box_free b1 _)
    have hrf : (w2.setCell ⟨g, m, none⟩ .nilFunc).ownsRow 0 1 1 (.slice (some ⟨g, 0, none⟩) m c) m xs := by
      have hbx := box_set b1 m .nilFunc
      refine ⟨by simpa using b7, Or.inr ⟨g, c, _, rfl, Nat.zero_le _, hbx, b4, b5, by simp [b2], ?_⟩⟩
      rw [Nat.mul_one, ← b3, Array.toList_setIfInBounds, List.take_set_of_le (Nat.le_refl _)]
    have hTw : Turns (fun k => k = g) w w2 := HTG.out.trans ⟨hg2.os, hg2.tape, hg2.output, hg2.size, fun k hk hm => hg2.block k hk (fun e => hm (by simpa using e))⟩
    have HRF : Hid _ := hrf
    have HTF : Hid (Turns (fun k => k = g) w (w2.setCell ⟨g, m, none⟩ .nilFunc)) := hTw.trans (setCell_turns w2 g m .nilFunc)
    have k1 : (m : Int) ≤ (m : Int) + 1 := by omega
    have k4 : m + 1 - m = 1 := by omega
    have k5 : (0 : Int) ≤ (m : Int) := by omega
    have k2 : ¬ c = m := by omega
    have k3 : ¬ (c : Int) = (m : Int) := by omega
    clear hr2 b1 b2 b3 b4 b5 b6 b7 hsz hrf hTw hg2
    go_wp2
    go_ret
    exact ⟨rfl, HRF.out, HTF.out⟩
theorem ClosAt.one {w : World} {b : Nat} {c : Ck} {v : Value} (h : ClosAt w b c v) : v.oneCell' = true := by
  match c, h with
  | none, h => rw [h]; rfl
  | some (true, u, t), ⟨hb, eb, h1, _⟩ => rw [h1]; rfl
  | some (false, u, t), ⟨hb, eb, h1, _⟩ => rw [h1]; rfl
theorem ClosAt.form {w : World} {b : Nat} {c : Ck} {v : Value} (h : ClosAt w b c v) : ∃ G fs cs, v = .func (.func G) fs cs := by
  match c, h with
  | none, h => exact ⟨_, _, _, h⟩
  | some (true, u, t), ⟨hb, eb, h1, _⟩ => exact ⟨_, _, _, h1⟩
  | some (false, u, t), ⟨hb, eb, h1, _⟩ => exact ⟨_, _, _, h1⟩
theorem Hs.kept {w w' : World} {p : Hp} {L : List ByteArray} {E : Ed} {K : List Ck} {n : Nat} {M : Nat → Prop} (h : Hs w p L E K n) (ht : Turns M w w') (hM : ∀ x, M x → x ≠ p.nm ∧ x ≠ p.em ∧ p.nv.ownBlock ≠ some x) :
    w'.ownsRow 0 9 1 p.nv L.length (sv L) ∧ NumM w' p.nm n (nmOf L) ∧ EdM w' p.em n E :=
  ⟨row_turns h.names ht (fun x hx hm => (hM x hm).2.2 hx), h.nums.block (ht.block _ h.nums.lt (fun hm => (hM _ hm).1 rfl)), h.edges.block (ht.block _ h.edges.lt (fun hm => (hM _ hm).2.1 rfl))⟩
theorem Hs.bOff {w : World} {p : Hp} {L : List ByteArray} {E : Ed} {K : List Ck} {n : Nat} (h : Hs w p L E K n) : p.b ≠ p.nm ∧ p.b ≠ p.em ∧ p.nv.ownBlock ≠ some p.b ∧ p.kv.ownBlock ≠ some p.b := by
  obtain ⟨h1, h2, h3, h4, h5, ks, h6, h7⟩ := h
  refine ⟨fun e => ?_, fun e => ?_, fun e => ?_, fun e => ?_⟩
  · obtain ⟨es, c, h⟩ := h3.obj; rw [← e, h1] at h; cases h
  · obtain ⟨es, c, h⟩ := h4.obj; rw [← e, h1] at h; cases h
  · obtain ⟨cs, h⟩ := row_obj h2 e; rw [h1] at h; cases h
  · obtain ⟨cs, h⟩ := row_obj h6 e; rw [h1] at h; cases h
theorem Hs.kOff {w : World} {p : Hp} {L : List ByteArray} {E : Ed} {K : List Ck} {n : Nat} (h : Hs w p L E K n) {x : Nat} (hx : p.kv.ownBlock = some x) : x ≠ p.nm ∧ x ≠ p.em ∧ p.nv.ownBlock ≠ some x ∧ ∀ cs t, w.heap[x]? = some (.cells cs t (0, 0)) → t = 1 := by
  obtain ⟨h1, h2, h3, h4, h5, ks, h6, h7⟩ := h
  obtain ⟨cs, hc⟩ := row_obj h6 hx
  refine ⟨fun e => ?_, fun e => ?_, fun e => ?_, fun cs' t h => by rw [hc] at h; cases h; rfl⟩
  · obtain ⟨es, c, h⟩ := h3.obj; rw [← e, hc] at h; cases h
  · obtain ⟨es, c, h⟩ := h4.obj; rw [← e, hc] at h; cases h
  · obtain ⟨cs, h⟩ := row_obj h2 e; rw [hc] at h; cases h
/-- Behind a change: other closures, and nothing found out yet. -/
theorem change_end {w1 w2 W3 : World} {p : Hp} {L : List ByteArray} {E : Ed} {K K' : List Ck} {n m : Nat} {kl : List Value} {g c' : Nat} (hs : Hs w1 p L E K n) (hm : K'.length = m) (hks : ∀ (i : Nat) (c : Ck), K'[i]? = some c → ∃ v, kl[i]? = some v ∧ ClosAt w1 p.b c v)
    (hT2 : Turns (fun k => p.kv.ownBlock = some k) w1 w2) (hr2 : w2.ownsRow 0 1 1 (.slice (some ⟨g, 0, none⟩) m c') m kl) (hor : p.kv.ownBlock = some g ∨ w1.heap.size ≤ g)
    (hW : W3 = ((w2.setCell ⟨p.b, 3, none⟩ (.slice (some ⟨g, 0, none⟩) m c')).alloc (Obj.cells fresh5 78)).setCell ⟨p.b, 4, none⟩ (ptr w2.heap.size)) :
    ∃ p2 : Hp, p2.b = p.b ∧ Hse W3 p2 L E K' n ∧ Turns p.mine w1 W3 ∧ (∀ x, p2.mine x → p.mine x ∨ w1.heap.size ≤ x) := by
  have hk2 : ∀ x, p.kv.ownBlock = some x → x ≠ p.nm ∧ x ≠ p.em ∧ p.nv.ownBlock ≠ some x ∧ ∀ cs t, w1.heap[x]? = some (.cells cs t (0, 0)) → t = 1 := fun x hx => hs.kOff hx
  obtain ⟨b1, b2, b3, b4⟩ := hs.bOff
  have hbx2 : Box w2 p.b (hcells p) 81 := box_turns hs.box hT2 (fun e => b4 e)
  have hT3 : Turns (fun k => k = p.b) w2 W3 := by
    rw [hW]
    exact ((setCell_turns w2 p.b 3 _).trans (alloc_turns _ _ _)).trans (setCell_turns _ p.b 4 _)
  have hgb : g ≠ p.b := fun e => by
    obtain ⟨cs, h⟩ := row_obj hr2 (x := g) rfl
    rw [e, hbx2] at h; cases h
  obtain ⟨n1, n2, n3⟩ := hs.kept hT2 (fun x hx => ⟨(hk2 x hx).1, (hk2 x hx).2.1, (hk2 x hx).2.2.1⟩)
  have hTm : Turns p.mine w1 W3 := (hT2.mono fun k _ h => by simp [Hp.mine, h]).trans (hT3.mono fun k _ h => Or.inl h)
  have hlt : p.b < w2.heap.size := lt_of_block hbx2
  refine ⟨{ p with kv := .slice (some ⟨g, 0, none⟩) m c', tb := w2.heap.size, pv := .slice none 0 0 }, rfl, ⟨⟨?_, ?_, ?_, ?_, hs.ne, kl, ?_, ?_⟩, ?_⟩, hTm, ?_⟩
  · rw [hW]
    have h1 := box_set hbx2 3 (.slice (some ⟨g, 0, none⟩) m c')
    have h2 : Box ((w2.setCell ⟨p.b, 3, none⟩ (.slice (some ⟨g, 0, none⟩) m c')).alloc (Obj.cells fresh5 78)) p.b _ 81 := (Below.heap_alloc _ _ _ (lt_of_block h1)).trans h1
    exact box_set h2 4 (ptr w2.heap.size)
  · exact row_turns n1 hT3 (fun x hx e => b3 (by rw [hx, e]))
  · exact n2.block (hT3.block _ n2.lt (fun e => b1 e.symm))
  · exact n3.block (hT3.block _ n3.lt (fun e => b2 e.symm))
  · have := row_turns hr2 hT3 (fun x hx => by rw [own_slice hx]; exact hgb)
    rw [hm]; exact this
  · intro i d hd
    have hB : ∀ x, p.mine x → x = p.b ∨ p.kv.ownBlock = some x → ∀ cs t, w1.heap[x]? = some (.cells cs t (0, 0)) → t ≠ 24 ∧ t ≠ 59 := by
      intro x _ hx cs t hc
      rcases hx with rfl | hx
      · rw [hs.box] at hc; cases hc; decide
      · rw [(hk2 x hx).2.2.2 cs t hc]; decide
    have hTb : Turns (fun x => x = p.b ∨ p.kv.ownBlock = some x) w1 W3 := (hT2.mono fun k _ h => Or.inr h).trans (hT3.mono fun k _ h => Or.inl h)
    have hB2 : ∀ x, (x = p.b ∨ p.kv.ownBlock = some x) → ∀ cs t, w1.heap[x]? = some (.cells cs t (0, 0)) → t ≠ 24 ∧ t ≠ 59 := fun x hx => hB x (by rcases hx with rfl | hx; exact Or.inl rfl; simp [Hp.mine, hx]) hx
    obtain ⟨v, hv, hv2⟩ := hks i d hd
    exact ⟨v, hv, hv2.turns hTb hB2⟩
  · refine Or.inl ⟨rfl, ?_⟩
    show Box W3 w2.heap.size fresh5 78
    rw [hW]
    have h1 : Box ((w2.setCell ⟨p.b, 3, none⟩ (.slice (some ⟨g, 0, none⟩) m c')).alloc (Obj.cells fresh5 78)) w2.heap.size fresh5 78 := by
      have e : (w2.setCell ⟨p.b, 3, none⟩ (.slice (some ⟨g, 0, none⟩) m c')).heap.size = w2.heap.size := by simp [World.setCell]
      rw [← e]
      exact heap_alloc_new _ _
    exact (Below.heap_setCell _ _ _ _ (by show w2.heap.size ≠ p.b; omega)).trans h1
  · intro x hx
    rcases hx with h | h | h | h | h | h | h
    · exact Or.inl (Or.inl h)
    · exact Or.inl (Or.inr (Or.inl h))
    · exact Or.inl (Or.inr (Or.inr (Or.inl h)))
    · exact Or.inr (by have := hT2.size; have h' : x = w2.heap.size := h; omega)
    · exact Or.inl (by simp [Hp.mine, h])
    · have := own_slice h
      subst this
      exact hor.imp (fun h => by simp [Hp.mine, h]) id
    · cases h
set_option maxHeartbeats 4000000 in
theorem change_call {w : World} {b n F : Nat} {M : Nat → Prop} {L : List ByteArray} {E : Ed} {K : List Ck} {c : Ck} {bk : Value} {caps : Array Value} (hE : ∀ args w, (callFunc F args).run Try.prog w = .ok (.enter F args) w) (hK : K.length ≤ 1000)
    (hdo : Calls Try.prog F caps w fun e w1 => e = .returned (.tuple #[]) ∧ ∃ p1 : Hp, p1.b = b ∧ Hs w1 p1 L E K n ∧ ClosAt w1 b c bk ∧ Turns M w w1 ∧ (∀ x, p1.mine x → M x ∨ w.heap.size ≤ x)) :
    Calls Try.prog 24 #[ptr b, .func (.func F) #[] caps, bk] w fun e w2 => e = .returned (.tuple #[]) ∧ ∃ p2 : Hp, p2.b = b ∧ Hse w2 p2 L E (K ++ [c]) n ∧ Turns M w w2 ∧ (∀ x, p2.mine x → M x ∨ w.heap.size ≤ x) := by
  have HDO := hid hdo
  have HK : Hid (K.length ≤ 1000) := hK
  clear hdo hK
  go_enter Try.func24, Try.ntmps24
  go_upto_region 1 with (first | (with_reducible refine Calls.mono HDO.out ?_; rintro e w1 ⟨rfl, p1, rfl, hs, hcl, hT1, hm1⟩) | go_in)
  obtain ⟨hbox, hnames, hnums, hedges, hne, kl, hkrow, hks⟩ := hs
  obtain ⟨G, fs, cs, rfl⟩ := hcl.form
  obtain ⟨ao, cap, hkv⟩ := form_own hkrow
  have c3 : w1.cell? ⟨p1.b, 3, none⟩ = some p1.kv := (hbox_cells hbox).2.2.2.1
  rw [hkv] at c3
  have hkb : ∀ x, p1.kv.ownBlock = some x → ¬ x = p1.b := fun x hx e => by
    obtain ⟨cs, h2⟩ := row_obj hkrow hx
    rw [e, hbox] at h2; cases h2
  have hrw : w1.ownsRow 0 1 1 (.slice ao K.length cap) K.length kl := by rwa [hkv] at hkrow
  have HRW := hid hrw
  have HBX := hid hbox
  have HKB := hid hkb
  have HALL : Hid (w1.ownsRow 0 9 1 p1.nv L.length (sv L) ∧ NumM w1 p1.nm n (nmOf L) ∧ EdM w1 p1.em n E ∧ p1.nm ≠ p1.em ∧ (∀ (i : Nat) (c : Ck), K[i]? = some c → ∃ v, kl[i]? = some v ∧ ClosAt w1 p1.b c v) ∧ ClosAt w1 p1.b c (.func (.func G) fs cs) ∧ Turns M w w1 ∧ (∀ x, p1.mine x → M x ∨ w.heap.size ≤ x)) := ⟨hnames, hnums, hedges, hne, hks, hcl, hT1, hm1⟩
  clear hbox hkrow hnames hnums hedges hne hks hcl hT1 hm1 hkb hrw
  go_wp2_with (first | (at_builtin; refine wpList_pushV (n := K.length) (pc := cap) (po := ao) rfl _ _ 79 1 _ 8 Try.underlying79 Try.info1 rfl (by decide) rfl rfl rfl HRW.out rfl (by have := HK.out; omega) (Nat.zero_le _) ?_; intro g c' w2 hr2 hg2 hor2; have hT2 := grown_turns hg2; have hbx2 := box_turns HBX.out hT2 (by rw [← hkv]; exact fun e => HKB.out _ e rfl); have e0 := box_cell (i := 3) hbx2 rfl; have f0 := box_free hbx2 3; have e4 : ∀ x o, ((w2.setCell ⟨p1.b, 3, none⟩ x).alloc o).cell? ⟨p1.b, 4, none⟩ = some (ptr p1.tb) := fun x o => all_alloc (box_cell (i := 4) (box_set hbx2 3 x) rfl) o; have f4 : ∀ x o, ((w2.setCell ⟨p1.b, 3, none⟩ x).alloc o).frozen? ⟨p1.b, 4, none⟩ = false := fun x o => all_free (a := ⟨p1.b, 4, none⟩) (lt_of_block (box_set hbx2 3 x)) (box_free (box_set hbx2 3 x) 4) o) | go_in)
  go_end0
  have hsall : Hs w1 p1 L E K n := ⟨HBX.out, HALL.out.1, HALL.out.2.1, HALL.out.2.2.1, HALL.out.2.2.2.1, kl, by rw [hkv]; exact HRW.out, HALL.out.2.2.2.2.1⟩
  have hT2' : Turns (fun k => p1.kv.ownBlock = some k) w1 w2 := by rw [hkv]; exact hT2
  have hor2' : p1.kv.ownBlock = some g ∨ w1.heap.size ≤ g := by rw [hkv]; exact hor2
  have hkl : kl.length = K.length := by have := HRW.out.1; simpa using this
  obtain ⟨p2, q1, q2, q3, q4⟩ := change_end (K' := K ++ [c]) (m := K.length + 1) hsall (by simp) (fun i d hd => by
    by_cases hi : i < K.length
    · rw [List.getElem?_append_left hi] at hd
      obtain ⟨v, hv, hv2⟩ := HALL.out.2.2.2.2.1 i d hd
      exact ⟨v, by rw [List.getElem?_append_left (by omega)]; exact hv, hv2⟩
    · have hii : i = K.length := by
        have := (List.getElem?_eq_some_iff.1 hd).1
        simp at this; omega
      subst hii
      simp at hd
      subst hd
      exact ⟨_, by rw [← hkl]; simp, HALL.out.2.2.2.2.2.1⟩) hT2' hr2 hor2' rfl
  have hTw := HALL.out.2.2.2.2.2.2.1
  have hmw := HALL.out.2.2.2.2.2.2.2
  refine ⟨rfl, p2, q1, q2, ?_, fun x hx => ?_⟩
  · refine ⟨q3.os.trans hTw.os, q3.tape.trans hTw.tape, q3.output.trans hTw.output, Nat.le_trans hTw.size q3.size, fun k hk hn => ?_⟩
    refine (q3.block k (Nat.lt_of_lt_of_le hk hTw.size) (fun hm => ?_)).trans (hTw.block k hk hn)
    rcases hmw k hm with h | h
    · exact hn h
    · omega
  · rcases q4 x hx with h | h
    · exact hmw x h
    · exact Or.inr (Nat.le_trans hTw.size h)
set_option maxHeartbeats 4000000 in
theorem takeBack_call {w : World} {p : Hp} {n n' : Nat} {L L' : List ByteArray} {E E' : Ed} {K : List Ck} {c : Ck} (hs : Hs w p L E (K ++ [c]) n) (hK : K.length ≤ 1000)
    (hdo : ∀ v, ClosAt w p.b c v → ∃ G fs cs, v = .func (.func G) fs cs ∧ (∀ args w, (callFunc G args).run Try.prog w = .ok (.enter G args) w) ∧
      Calls Try.prog G (fs ++ cs) w fun e w1 => e = .returned (.tuple #[]) ∧ ∃ p1 : Hp, p1.b = p.b ∧ p1.kv = p.kv ∧ Hs w1 p1 L' E' (K ++ [c]) n' ∧ Turns p.mine w w1 ∧ (∀ x, p1.mine x → p.mine x ∨ w.heap.size ≤ x)) :
    Calls Try.prog 38 #[ptr p.b] w fun e w2 => e = .returned (.tuple #[]) ∧ ∃ p2 : Hp, p2.b = p.b ∧ Hse w2 p2 L' E' K n' ∧ Turns p.mine w w2 ∧ (∀ x, p2.mine x → p.mine x ∨ w.heap.size ≤ x) := by
  obtain ⟨hbox, hnames, hnums, hedges, hne, kl, hkrow, hks⟩ := hs
  have hkrow' : w.ownsRow 0 1 1 p.kv (K.length + 1) kl := by simpa using hkrow
  obtain ⟨v, hv, hcl⟩ := hks K.length c (by simp)
  obtain ⟨G, fs, cs, rfl, hE, hcall⟩ := hdo v hcl
  have HC := hid hcall
  rcases hkrow'.2 with ⟨_, h0⟩ | ⟨g, cap, cur, hkv, _, hg, hnc, hm, hsz, htk⟩
  · omega
  have hcell : w.cell? ⟨g, K.length, none⟩ = some (.func (.func G) fs cs) := by
    have := hkrow'.cells (g := g) (by rw [hkv]; rfl) K.length _ hv
    rwa [add_none] at this
  have c3 : w.cell? ⟨p.b, 3, none⟩ = some p.kv := (hbox_cells hbox).2.2.2.1
  rw [hkv] at c3
  have i1 : (0 : Int) ≤ (K.length : Int) := by omega
  have i2 : (K.length : Int) < (K.length : Int) + 1 := by omega
  have HK : Hid (K.length ≤ 1000) := hK
  clear hbox hnames hnums hedges hne hkrow hks hkrow' hv hcl hdo hcall hg hm hsz htk hnc
  go_enter Try.func38, Try.ntmps38
  go_upto_region 2 with (first | (with_reducible refine Calls.mono HC.out ?_; rintro e w1 ⟨rfl, p1, hpb, hpk, hs1, hT1, hm1⟩) | go_in)
  obtain ⟨hbox, hnames, hnums, hedges, hne, kl1, hkrow, hks⟩ := hs1
  have hkv1 : p1.kv = .slice (some ⟨g, 0, none⟩) (K.length + 1) cap := hpk.trans hkv
  have hkrow' : w1.ownsRow 0 1 1 (.slice (some ⟨g, 0, none⟩) (K.length + 1) cap) (K.length + 1) kl1 := by
    rw [← hkv1]; simpa using hkrow
  have hll : kl1.length = K.length + 1 := by have := hkrow'.1; simpa using this
  have hnn : kl1 ≠ [] := fun e => by rw [e] at hll; simp at hll
  obtain ⟨xs, x, rfl⟩ : ∃ xs x, kl1 = xs ++ [x] := ⟨kl1.dropLast, kl1.getLast hnn, (List.dropLast_concat_getLast hnn).symm⟩
  have HD := hid (deleteF_call hkrow' (by have := HK.out; omega))
  have HS1 : Hid (Hs w1 p1 L' E' (K ++ [c]) n') := ⟨hbox, hnames, hnums, hedges, hne, xs ++ [x], hkrow, hks⟩
  have HKS := hid hks
  have HT1 := hid hT1
  have HM1 := hid hm1
  have HPB := hid hpb
  have hxl : xs.length = K.length := by simpa using hll
  have HXL := hid hxl
  have c3 : w1.cell? ⟨p1.b, 3, none⟩ = some p1.kv := (hbox_cells hbox).2.2.2.1
  rw [hkv1, hpb] at c3
  clear hbox hnames hnums hedges hne hkrow hks hkrow' hll hnn hxl hT1 hm1
  go_wp2_with (first | (go_at_call 49; refine Calls.mono HD.out ?_; rintro e w2 ⟨rfl, hr2, hT2⟩; have hT2' : Turns (fun k => p1.kv.ownBlock = some k) w1 w2 := hT2.mono (fun k _ e => by rw [hkv1, e]; rfl); have hbx2 : Box w2 p.b (hcells p1) 81 := by { have h1 := HS1.out.box; rw [HPB.out] at h1; exact box_turns h1 hT2' (by rw [← HPB.out]; exact HS1.out.bOff.2.2.2) }; have e0 := box_cell (i := 3) hbx2 rfl; have f0 := box_free hbx2 3; have e4 : ∀ x o, ((w2.setCell ⟨p.b, 3, none⟩ x).alloc o).cell? ⟨p.b, 4, none⟩ = some (ptr p1.tb) := fun x o => all_alloc (box_cell (i := 4) (box_set hbx2 3 x) rfl) o; have f4 : ∀ x o, ((w2.setCell ⟨p.b, 3, none⟩ x).alloc o).frozen? ⟨p.b, 4, none⟩ = false := fun x o => all_free (a := ⟨p.b, 4, none⟩) (lt_of_block (box_set hbx2 3 x)) (box_free (box_set hbx2 3 x) 4) o) | go_in)
  go_end0
  obtain ⟨p2, q1, q2, q3, q4⟩ := change_end (K' := K) (m := K.length) HS1.out rfl (fun i d hd => by
    have hi : i < K.length := (List.getElem?_eq_some_iff.1 hd).1
    obtain ⟨v, hv, hv2⟩ := HKS.out i d (by rw [List.getElem?_append_left hi]; exact hd)
    rw [List.getElem?_append_left (by have := HXL.out; omega)] at hv
    exact ⟨v, hv, hv2⟩) hT2' hr2 (Or.inl (by rw [hkv1]; rfl)) (by rw [HPB.out])
  have hTw := HT1.out
  refine ⟨rfl, p2, q1.trans HPB.out, q2, ?_, fun x hx => ?_⟩
  · refine ⟨q3.os.trans hTw.os, q3.tape.trans hTw.tape, q3.output.trans hTw.output, Nat.le_trans hTw.size q3.size, fun k hk hn => ?_⟩
    refine (q3.block k (Nat.lt_of_lt_of_le hk hTw.size) (fun hm => ?_)).trans (hTw.block k hk hn)
    rcases HM1.out k hm with h | h
    · exact hn h
    · omega
  · rcases q4 x hx with h | h
    · exact HM1.out x h
    · exact Or.inr (Nat.le_trans hTw.size h)
end Go.Proofs.Ytfdlndljpmamgaa
