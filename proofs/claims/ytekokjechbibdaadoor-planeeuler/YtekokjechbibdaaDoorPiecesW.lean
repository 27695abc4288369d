/- piecesOf: the pieces that come of laying fresh nodes. -/
import Derived.Test.YtekokjechbibdaaDoorPieceM
namespace Go.Proofs.YtekokjechbibdaaDoor
set_option maxRecDepth 8000
open Go.RowKit Go.Maps
attribute [local go_sem ↓] Go.wp_at_zero Go.wp_at_succ
attribute [local go_sem] Oper.semAt_some
/-- What lies in memory while pieces are gathered: b is where the function's own memory begins. -/
structure PI (w wz : World) (b laid rest : Nat) (x : Value) (L : List Piece) : Prop where
  l5 : SBox wz b laid
  l7 : SBox wz (b + 1) rest
  o9 : One wz (b + 2) x 96
  row : PRow wz (b + 3) x L
  below : Below w.heap.size w wz
  size : b + 3 ≤ wz.heap.size
theorem PI.under {w wz wz' : World} {b laid rest : Nat} {x : Value} {L : List Piece} (h : PI w wz b laid rest x L) (hb : Below wz.heap.size wz wz') : PI w wz' b laid rest x L :=
  have k : ∀ {b : Nat} {cs : Array Value} {t : TypeId}, Box wz b cs t → Box wz' b cs t := fun h => (hb.block _ (lt_of_block h)).trans h
  ⟨k h.l5, k h.l7, k h.o9, ownsRow_blocks h.row (fun g hg => hb.block g (h.row.lt g hg).2), below_next h.below hb, Nat.le_trans h.size hb.size⟩
/-- A block that is none of these turns. -/
theorem PI.turns {M : Nat → Prop} {w wz wz' : World} {b laid rest : Nat} {x : Value} {L : List Piece} (h : PI w wz b laid rest x L) (ht : Turns M wz wz') (hw : w.heap.size ≤ b) (hM : ∀ k, M k → b + 3 ≤ k) (hr : ∀ g, x.ownBlock = some g → ¬ M g) : PI w wz' b laid rest x L :=
  ⟨box_turns h.l5 ht (fun e => by have := hM _ e; omega), box_turns h.l7 ht (fun e => by have := hM _ e; omega), box_turns h.o9 ht (fun e => by have := hM _ e; omega), ownsRow_blocks h.row (fun g hg => ht.block g (h.row.lt g hg).2 (hr g hg)), ht.below h.below h.below.size (fun k e => by have := hM _ e; omega), Nat.le_trans h.size ht.size⟩
theorem PI.row_ge {w wz : World} {b laid rest : Nat} {x : Value} {L : List Piece} (h : PI w wz b laid rest x L) {g : Nat} (hg : x.ownBlock = some g) : b + 3 ≤ g ∧ g < wz.heap.size := h.row.lt g hg
theorem PI.set5 {w wz wz' : World} {b laid laid' rest : Nat} {x : Value} {L : List Piece} (h : PI w wz b laid rest x L) (hw : w.heap.size ≤ b) (ht : Turns (fun k => k = b) wz wz') (h5 : SBox wz' b laid') : PI w wz' b laid' rest x L :=
  ⟨h5, box_turns h.l7 ht (by omega), box_turns h.o9 ht (by omega), ownsRow_blocks h.row (fun g hg => ht.block g (h.row.lt g hg).2 (by have := (h.row.lt g hg).1; omega)), ht.below h.below h.below.size (fun k e => by omega), Nat.le_trans h.size ht.size⟩
theorem PI.set7 {w wz wz' : World} {b laid rest rest' : Nat} {x : Value} {L : List Piece} (h : PI w wz b laid rest x L) (hw : w.heap.size ≤ b) (ht : Turns (fun k => k = b + 1) wz wz') (h7 : SBox wz' (b + 1) rest') : PI w wz' b laid rest' x L :=
  ⟨box_turns h.l5 ht (by omega), h7, box_turns h.o9 ht (by omega), ownsRow_blocks h.row (fun g hg => ht.block g (h.row.lt g hg).2 (by have := (h.row.lt g hg).1; omega)), ht.below h.below h.below.size (fun k e => by omega), Nat.le_trans h.size ht.size⟩
/-- A piece more: the row may lie elsewhere. -/
theorem PI.push {w wz w6 w1 : World} {b laid rest : Nat} {x y : Value} {L : List Piece} {p : Piece} (h : PI w wz b laid rest x L) (hw : w.heap.size ≤ b) (hb : Below wz.heap.size wz w6) (hg : w6.grownBy w1 x.ownBlock) (hr : PRow w1 (b + 3) y (L ++ [p])) :
    PI w (w1.setCell ⟨b + 2, 0, none⟩ y) b laid rest y (L ++ [p]) ∧ Turns (fun k => k = b + 2 ∨ x.ownBlock = some k) wz (w1.setCell ⟨b + 2, 0, none⟩ y) := by
  have h6 := h.under hb
  have hx : ∀ k, k < b + 3 → some k ≠ x.ownBlock := fun k hk e => by have := (h.row_ge e.symm).1; omega
  have k1 : ∀ {c : Nat} {cs : Array Value} {t : TypeId}, c < b + 3 → Box w6 c cs t → Box w1 c cs t := fun hc hh => (hg.block _ (lt_of_block hh) (hx _ hc)).trans hh
  have k2 : ∀ {c : Nat} {cs : Array Value} {t : TypeId}, c ≠ b + 2 → Box w1 c cs t → Box (w1.setCell ⟨b + 2, 0, none⟩ y) c cs t := fun hc hh => (Below.heap_setCell _ _ _ _ hc).trans hh
  have hs : w6.heap.size ≤ w1.heap.size := hg.size
  refine ⟨⟨k2 (by omega) (k1 (by omega) h6.l5), k2 (by omega) (k1 (by omega) h6.l7), ?_, ownsRow_blocks hr (fun g hgg => Below.heap_setCell _ _ _ _ (by have := (hr.lt g hgg).1; show g ≠ b + 2; omega)), ?_, ?_⟩, ?_⟩
  · have := box_set (k1 (by omega) h6.o9) 0 y
    exact this
  · have ht : Turns (fun k => x.ownBlock = some k) w6 w1 := ⟨hg.os, hg.tape, hg.output, hg.size, fun k hk hm => hg.block k hk (fun e => hm e.symm)⟩
    exact (ht.below h6.below h6.below.size (fun k e => by have := (h6.row_ge e).1; omega)).setCell (by show _ ≤ b + 2; omega) _
  · have := h6.size
    rw [World.size_setCell]; omega
  · refine ⟨?_, ?_, ?_, ?_, fun k hk hm => ?_⟩
    · exact hg.os.trans hb.os
    · exact hg.tape.trans hb.tape
    · exact hg.output.trans hb.output
    · rw [World.size_setCell]; exact Nat.le_trans hb.size hs
    · have h1 : k ≠ b + 2 := fun e => hm (Or.inl e)
      have h2 : ¬ some k = x.ownBlock := fun e => hm (Or.inr e.symm)
      exact (Below.heap_setCell _ _ _ _ h1).trans ((hg.block k (Nat.lt_of_lt_of_le hk hb.size) h2).trans (hb.block k hk))
theorem growL_ok {near : List Nat} {laid rest : Nat} (hnear : ∀ s ∈ near, s < 2 ^ 128) : ∀ (k : Nat) (p : Piece) (op : Nat), p.inner < 2 ^ 128 → p.feet < 2 ^ 128 → op < 2 ^ 128 →
    (growL near laid rest k p op).inner < 2 ^ 128 ∧ (growL near laid rest k p op).feet < 2 ^ 128 ∧ ∀ i, p.inner.testBit i = true → (growL near laid rest k p op).inner.testBit i = true
  | 0, p, op, h1, h2, _ => ⟨h1, h2, fun _ h => h⟩
  | k + 1, p, op, h1, h2, h3 => by
    rw [growL]
    split
    · exact ⟨h1, h2, fun _ h => h⟩
    · rename_i h0
      have hv := first_lt h3 h0
      have ha := at_lt hnear (firstS op)
      obtain ⟨g1, g2, g3⟩ := growL_ok hnear k ⟨sAdd p.inner (firstS op), p.feet ||| (at' near (firstS op) &&& laid)⟩ (sDrop op (firstS op) ||| sLess (at' near (firstS op) &&& rest) (sAdd p.inner (firstS op))) (add_lt h1 hv) (or_lt h2 (and_lt ha)) (or_lt (less_lt h3) (less_lt (and_lt ha)))
      exact ⟨g1, g2, fun i hi => g3 i (by rw [bit_add]; simp [hi])⟩
theorem grow_ok {near : List Nat} {laid rest : Nat} (hnear : ∀ s ∈ near, s < 2 ^ 128) (hr : rest < 2 ^ 128) (h0 : rest ≠ 0) :
    (grow near laid rest).inner < 2 ^ 128 ∧ (grow near laid rest).feet < 2 ^ 128 ∧ (grow near laid rest).inner.testBit (firstS rest) = true := by
  have hv := first_lt hr h0
  have hop : setOf [firstS rest] < 2 ^ 128 := setOf_lt (by simpa using hv)
  have hne : setOf [firstS rest] ≠ 0 := fun e => by
    have := bit_setOf [firstS rest] (firstS rest)
    rw [e] at this; simp at this
  have hf : firstS (setOf [firstS rest]) = firstS rest := by
    have := (first_spec hop hne).1
    rw [bit_setOf] at this
    simpa using of_decide_eq_true this
  unfold grow
  rw [growL, if_neg hne, hf]
  have ha := at_lt hnear (firstS rest)
  obtain ⟨g1, g2, g3⟩ := growL_ok (laid := laid) (rest := rest) hnear 127 ⟨sAdd 0 (firstS rest), 0 ||| (at' near (firstS rest) &&& laid)⟩ (sDrop (setOf [firstS rest]) (firstS rest) ||| sLess (at' near (firstS rest) &&& rest) (sAdd 0 (firstS rest))) (add_lt (by decide) hv) (or_lt (by decide) (and_lt ha)) (or_lt (less_lt hop) (less_lt (and_lt ha)))
  exact ⟨g1, g2, g3 _ (by rw [bit_add]; simp)⟩
theorem count_less {s t v : Nat} (hs : s < 2 ^ 128) (h1 : s.testBit v = true) (h2 : t.testBit v = true) : countS (sLess s t) < countS s := by
  have e : elems (sLess s t) = (elems s).filter (fun i => !t.testBit i) := by
    unfold elems
    rw [List.filter_filter]
    congr 1
    funext i
    rw [bit_less, Bool.and_comm]
  unfold countS
  rw [e, List.length_filter_lt_length_iff_exists]
  exact ⟨v, (mem_elems hs).2 h1, by simp [h2]⟩
theorem count_zero {s : Nat} (hs : s < 2 ^ 128) (h : countS s = 0) : s = 0 := by
  rcases Nat.eq_zero_or_pos s with h0 | h0
  · exact h0
  · have := elems_step hs (by omega)
    unfold countS at h
    rw [this] at h; simp at h
theorem ownsRow_base {w : World} {base base' : Nat} {t : TypeId} {sz : Nat} {v : Value} {n : Nat} {xs : List Value} (h : w.ownsRow base t sz v n xs) (hb : base' ≤ base) : w.ownsRow base' t sz v n xs := by
  refine ⟨h.1, ?_⟩
  rcases h.2 with h2 | ⟨g, cap, cur, h1, h2, h3⟩
  · exact Or.inl h2
  · exact Or.inr ⟨g, cap, cur, h1, by omega, h3⟩
/-- The frame of piecesOf in its first loop. -/
def F55 (bn N laid bf off m cap rest b : Nat) (k : Value) (u11 u12 u17 u18 u19 u20 u21 u22 u23 u24 u25 u26 u27 u28 u29 u30 u31 u32 u33 u34 u35 u36 u37 u38 : Value) (ds : List Deferred) : Act := { tmps := #[sl bn N, sv laid, Value.slice (some ⟨bf, off, none⟩) m cap, sv rest, undef, Value.pointer (some ⟨b, 0, none⟩), undef, Value.pointer (some ⟨b + 1, 0, none⟩), Value.slice none 0 0, Value.pointer (some ⟨b + 2, 0, none⟩), undef, u11, u12, undef, Value.slice (some ⟨bf, off, none⟩) m cap, Value.int .i64 (m : Int), k, u17, u18, u19, u20, u21, u22, u23, u24, u25, u26, u27, u28, u29, u30, u31, u32, u33, u34, u35, u36, u37, u38, undef, undef, undef, undef, undef, undef, undef, undef, undef, undef, undef, undef, undef, undef, undef, undef, undef, undef, undef, undef], defers := ds }
/-- The frame of a round. -/
def A7 (h f : Nat → Value) : Act := { tmps := #[h 0, h 1, h 2, h 3, h 4, h 5, h 6, h 7, h 8, h 9, h 10, h 11, h 12, h 13, h 14, h 15, h 16, h 17, h 18, h 19, h 20, h 21, h 22, h 23, h 24, h 25, h 26, h 27, f 0, f 1, f 2, f 3, f 4, f 5, f 6, f 7, h 36, h 37, h 38, h 39, h 40, h 41, h 42, h 43, h 44, h 45, h 46, h 47, h 48, h 49, h 50, h 51, h 52, h 53, h 54, h 55, h 56, h 57, h 58], defers := [] }
theorem wpOpIn_append {F : Fence} {n : Nat} {P : Program} {ops : Array Oper} {Q : Exit → Act → World → Prop} {i : Nat} {o : Oper} {a : Act} {w : World} {K : Act → World → Prop} (hi : ops[i]? = some o) (hw : Region.wanted o (yielded ops a.tmps) = true) (s x : Operand) (t : TypeId)
    (ho : o.op = .call { callee := .builtin .append, args := #[s, x], argTypes := #[t, t] }) {v y z : Value} {w' : World} (hs : a.eval s = v) (hx : a.eval x = y) (hr : (Builtin.append_ #[t, t] o.type #[v, y]).run P w = .ok z w') (h : K (a.put o.dst z) w') : wpOpIn F n P ops Q i K a w := by
  unfold wpOpIn
  simp only [hi, hw, if_true, Oper.wpIn]
  refine ⟨by simp [Oper.about, ho, resolve, Target.leads, Sem.run_pure], ?_⟩
  rw [Oper.semAt_plain F _ _ (by rw [ho]; intro c hc'; cases hc')]
  simp only [execOp, ho, resolve, invoke, builtin, Sem.run_bind, Sem.run_pure, Result.andThen_ok, List.map_toArray, List.map_cons, List.map_nil, hs, hx, hr]
  exact h
set_option maxHeartbeats 8000000 in
theorem piecesOf_call {w : World} {bn laid bf off cap rest : Nat} {near fresh : List Nat} (hn : SetsAt w bn near) (hl : near.length ≤ 100) (hlaid : laid < 2 ^ 128) (hrest : rest < 2 ^ 128) (hin : ∀ v, rest.testBit v = true → v < near.length) (hf : NumL w bf off fresh) (hfr : ∀ x ∈ fresh, x < near.length) (hfl : fresh.length ≤ 1000) (ht : T64 w) :
    Calls Tryd.prog 55 #[sl bn near.length, sv laid, .slice (some ⟨bf, off, none⟩) fresh.length cap, sv rest] w fun e w' => ∃ x, e = .returned x ∧ PRow w' w.heap.size x (piecesOf near laid fresh rest) ∧ Below w.heap.size w w' := by
  have HN : Hid (SetsAt w bn near) := hn
  have HT : Hid (T64 w) := ht
  have HF : Hid (NumL w bf off fresh ∧ ∀ x ∈ fresh, x < near.length) := ⟨hf, hfr⟩
  have HX : Hid (laid < 2 ^ 128 ∧ rest < 2 ^ 128 ∧ ∀ v, rest.testBit v = true → v < near.length) := ⟨hlaid, hrest, hin⟩
  have HFB : Hid (fresh ≠ [] → bf < w.heap.size) := fun h => by
    obtain ⟨x, r, rfl⟩ := List.exists_cons_of_ne_nil h
    exact World.block_lt_of_cell? w ⟨bf, off + 0, none⟩ (hf 0 x rfl)
  clear hn ht hlaid hrest hin hf hfr
  obtain ⟨N, hN⟩ : ∃ N, N = near.length := ⟨_, rfl⟩
  rw [← hN] at hl ⊢
  have HNN : Hid (N = near.length) := hN
  obtain ⟨m, hm⟩ : ∃ m, m = fresh.length := ⟨_, rfl⟩
  rw [← hm] at hfl ⊢
  have HMM : Hid (m = fresh.length) := hm
  obtain ⟨R, hR⟩ : ∃ R, R = piecesOf near laid fresh rest := ⟨_, rfl⟩
  rw [← hR]
  have HR : Hid (R = piecesOf near laid fresh rest) := hR
  clear hN hm hR
  refine (callsIn_wide (n := 8)).1 (callsIn_of_wp_marks Tryd.func55 rfl trivial ?_ rfl)
  refine wpIn_wide.2 ?_
  simp only [Tryd.ntmps55, List.size_toArray, List.length_cons, List.length_nil, Nat.reduceAdd, Nat.reduceSub, Array.replicate_succ, Array.replicate_zero, List.push_toArray, List.append_toArray, List.nil_append, List.cons_append]
  go_upto_region 3 with (fail)
  obtain ⟨b, hb⟩ : ∃ b, b = w.heap.size := ⟨_, rfl⟩
  have g0 : PI w (((w.alloc (Obj.cells #[Value.int IntKind.u64 (lo64 laid : Int), Value.int IntKind.u64 (hi64 laid : Int)] 76)).alloc (Obj.cells #[Value.int IntKind.u64 (lo64 rest : Int), Value.int IntKind.u64 (hi64 rest : Int)] 76)).alloc (Obj.cells #[Value.slice none 0 0] 96)) b laid rest (.slice none 0 0) [] := by
    subst hb
    refine ⟨two_alloc (two_alloc (two_new w _ _ 76) _) _, two_alloc (two_nxt w _ _ _ 76) _, ?_, ⟨rfl, Or.inl ⟨rfl, rfl⟩⟩, below_alloc (below_alloc (below_alloc (Below.refl _ w) _) _) _, by simp⟩
    have e : w.heap.size + 2 = ((w.alloc (Obj.cells #[Value.int IntKind.u64 (lo64 laid : Int), Value.int IntKind.u64 (hi64 laid : Int)] 76)).alloc (Obj.cells #[Value.int IntKind.u64 (lo64 rest : Int), Value.int IntKind.u64 (hi64 rest : Int)] 76)).heap.size := by simp
    rw [e]
    exact heap_alloc_new _ _
  have HBW : Hid (w.heap.size ≤ b) := Nat.le_of_eq hb.symm
  rw [← hb]
  generalize (((w.alloc (Obj.cells #[Value.int IntKind.u64 (lo64 laid : Int), Value.int IntKind.u64 (hi64 laid : Int)] 76)).alloc (Obj.cells #[Value.int IntKind.u64 (lo64 rest : Int), Value.int IntKind.u64 (hi64 rest : Int)] 76)).alloc (Obj.cells #[Value.slice none 0 0] 96)) = W0 at *
  clear hb
  refine wp_loop (fun a wz => ∃ (k : Nat) (ds : List Deferred) (hi : Nat) (x : Value) (u11 u12 u17 u18 u19 u20 u21 u22 u23 u24 u25 u26 u27 u28 u29 u30 u31 u32 u33 u34 u35 u36 u37 u38 : Value), a = F55 bn N laid bf off m cap rest b (.int .i64 (k : Int)) u11 u12 u17 u18 u19 u20 u21 u22 u23 u24 u25 u26 u27 u28 u29 u30 u31 u32 u33 u34 u35 u36 u37 u38 ds ∧ k ≤ m ∧ PI w wz b (freshL near laid (fresh.take k)).2 rest x (freshL near laid (fresh.take k)).1 ∧ Marks (b + 3) hi ds wz ∧ hi ≤ wz.heap.size) (fun a _ => m - (numOf (a.tmps.getD 16 undef)).toNat) ⟨0, [], 0, .slice none 0 0, _, _, _, _, _, _, _, _, _, _, _, _, _, _, _, _, _, _, _, _, _, _, _, _, rfl, Nat.zero_le _, g0, Marks.nil _ _ _, Nat.zero_le _⟩ ?_
  rintro a wr ⟨k, ds, hi, x, u11, u12, u17, u18, u19, u20, u21, u22, u23, u24, u25, u26, u27, u28, u29, u30, u31, u32, u33, u34, u35, u36, u37, u38, rfl, hk, hp, hmk, hhi⟩
  clear g0
  have HP : Hid _ := hp
  have HM : Hid (Marks (b + 3) hi ds wr) := hmk
  have hB := hp.below
  by_cases hlt : k < m
  · have hlt' : k < fresh.length := by have := HMM.out; omega
    obtain ⟨v, hv⟩ : ∃ v, fresh[k]? = some v := ⟨fresh[k], by rw [List.getElem?_eq_getElem hlt']⟩
    have hvN : v < N := by rw [HNN.out]; exact HF.out.2 v (List.mem_of_getElem? hv)
    have cv : wr.cell? ⟨bf, off + k, none⟩ = some (.int .i64 (v : Int)) := HF.out.1.under hB (HFB.out (by intro e; rw [e] at hv; cases hv)) k v hv
    have hfl2 := freshL_lt near (fresh.take k) laid HX.out.1 (fun y hy => by have := HF.out.2 y (List.mem_of_mem_take hy); rw [← HNN.out] at this; omega)
    have hfl1 := freshL_len near (fresh.take k) laid
    have HS : Hid (freshL near laid (fresh.take (k + 1)) = ((freshL near laid (fresh.take k)).1 ++ (elems (at' near v &&& (freshL near laid (fresh.take k)).2)).map (fun u => ⟨0, setOf [u, v]⟩), sAdd (freshL near laid (fresh.take k)).2 v)) := by
      show _ = _
      rw [take_snoc hv, freshL_snoc]
    have hlen : (freshL near laid (fresh.take k)).1.length ≤ 128000 := by
      have : (fresh.take k).length ≤ 1000 := by rw [List.length_take]; omega
      omega
    generalize (freshL near laid (fresh.take k)).1 = PL at *
    generalize (freshL near laid (fresh.take k)).2 = ld at *
    have i1 : (0 : Int) ≤ (k : Int) := by omega
    have i2 : (k : Int) < (m : Int) := by omega
    have j1 : (0 : Int) ≤ (v : Int) := by omega
    have j2 : (v : Int) < (N : Int) := by omega
    have HXL : Hid (ld < 2 ^ 128 ∧ PL.length ≤ 128000) := ⟨hfl2, hlen⟩
    clear hp hmk hfl1 hlen hv hlt' hfl2
    dsimp only [F55]
    go_upto_region 5 with (fail)
    have hBa : Below wr.heap.size wr (wr.alloc (Obj.cells #[Value.int IntKind.i64 (v : Int)] 3)) := below_alloc (Below.refl _ wr) _
    have hp1 := HP.out.under hBa
    have o11 := one_new wr (.int .i64 (v : Int)) 3
    have HM1 : Hid (Marks (b + 3) hi ds (wr.alloc (Obj.cells #[Value.int IntKind.i64 (v : Int)] 3))) := HM.out.under hBa
    obtain ⟨b11, hb11⟩ : ∃ b11, b11 = wr.heap.size := ⟨_, rfl⟩
    have HB11 : Hid (hi ≤ b11 ∧ b + 3 ≤ b11) := ⟨by omega, by have := HP.out.size; omega⟩
    rw [← hb11] at o11 ⊢
    clear hBa hb11
    generalize wr.alloc (Obj.cells #[Value.int IntKind.i64 (v : Int)] 3) = wv at *
    have hnv := HN.out.below hp1.below HN.out.ltS
    have hso : near[v]? = some (at' near v) := at_some (by have := HNN.out; omega)
    obtain ⟨n0, n1⟩ := hnv.cell hso
    obtain ⟨l0, l1⟩ := cell_two hp1.l5
    have gv := cell_growD (box_cell o11 (i := 0) rfl)
    have gn0 := cell_growD n0
    have gn1 := cell_growD n1
    have gl0 := cell_growD l0
    have gl1 := cell_growD l1
    have hal := at_lt HN.out.lt v
    generalize at' near v = nv at *
    have C67 : Hid (∀ W : World, Calls Tryd.prog 67 #[sv nv, sv ld] W fun e w' => e = .returned (sv (nv &&& ld)) ∧ Below W.heap.size W w') := fun W => both_call hal HXL.out.1
    have HAL : Hid (nv &&& ld < 2 ^ 128) := and_lt hal
    have HP1 : Hid _ := hp1
    have HO : Hid _ := o11
    clear hp1 o11 hnv hso n0 n1 l0 l1 hal cv hB
    refine wp_region_below (by kernel_rfl) (by kernel_rfl) ?_
    repeat (quiet_step (first | (go_at_call 67; exact Calls.belowQ (fun W _ => C67.out W))))
    refine wpQuiet_nil ?_
    rintro _ ⟨gp, rfl⟩
    have hBg := growD_below wv gp
    have HP2 : Hid _ := HP1.out.under hBg
    have HO2 : Hid (One (growD wv gp) b11 (.int .i64 (v : Int)) 3) := (hBg.block _ (lt_of_block HO.out)).trans HO.out
    have HM2 : Hid (Marks (b + 3) hi ds (growD wv gp)) := HM1.out.under hBg
    have HT2 : Hid (T64 (growD wv gp)) := HT.out.below HP2.out.below HT.out.pos
    clear gv gn0 gn1 gl0 gl1 hBg
    generalize growD wv gp = wg at *
    have HN3 : Hid (b + 3 ≤ wg.heap.size ∧ b11 < wg.heap.size) := ⟨HP2.out.size, lt_of_block HO2.out⟩
    go_wp2
    refine wpIn_wide.1 (range_rising (n := 8) (by omega) (by omega) HAL.out rfl
      (fun pre W => ∃ y, PI w W b ld rest y (PL ++ pre.map (fun u => ⟨0, setOf [u, v]⟩)) ∧ One W b11 (.int .i64 (v : Int)) 3 ∧ Marks (b + 3) hi ds W ∧ (∀ g, y.ownBlock = some g → ¬ Own3 wg.heap.size g)) ?hI ?hT ?h0
      (fun u => { tmps := #[sl bn N, sv laid, Value.slice (some ⟨bf, off, none⟩) m cap, sv rest, undef, Value.pointer (some ⟨b, 0, none⟩), undef, Value.pointer (some ⟨b + 1, 0, none⟩), Value.slice none 0 0, Value.pointer (some ⟨b + 2, 0, none⟩), undef, Value.pointer (some ⟨b11, 0, none⟩), Value.int .i64 (u : Int), undef, Value.slice (some ⟨bf, off, none⟩) m cap, Value.int .i64 (m : Int), Value.int .i64 (k : Int), Value.bool true, Value.pointer (some ⟨bf, off + k, none⟩), Value.int .i64 (v : Int), sl bn N, Value.int .i64 (v : Int), Value.pointer (some ⟨bn, v * 2, none⟩), sv nv, sv ld, sv (nv &&& ld), Value.func (Fn.func 47) #[sv (nv &&& ld)] #[], Value.int .i64 (u : Int), u28, u29, u30, u31, u32, u33, u34, u35, u36, u37, u38, undef, undef, undef, undef, undef, undef, undef, undef, undef, undef, undef, undef, undef, undef, undef, undef, undef, undef, undef, undef], defers := [] }) ?assign ?body ?done)
    case hI =>
      rintro pre A B hAs ⟨y, p1, p2, p3, p4⟩ hTu
      obtain ⟨q1, q2⟩ := HN3.out
      obtain ⟨q3, q4⟩ := HB11.out
      exact ⟨y, p1.turns hTu HBW.out (fun k hk => by have := hk.1; omega) p4, one_turns p2 hTu (fun hk => by have := hk.1; omega), p3.turns hTu (fun k hk hm => by have := hm.1; omega), p4⟩
    case hT =>
      rintro pre A ⟨y, p1, _⟩
      exact HT.out.below p1.below HT.out.pos
    case h0 =>
      refine ⟨x, by simpa using HP2.out, HO2.out, HM2.out, fun g hg ho => ?_⟩
      have := (HP2.out.row_ge hg).2
      have := ho.1
      omega
    case assign =>
      intro l x W K hK
      gi_wp2
      exact hK
    case done =>
      rintro D W hD ⟨y, p1, p2, p3, p4⟩ hDW
      have C48 : Hid _ := add_sbox HXL.out.1 (show v < 128 by omega) p1.l5
      have cv := box_cell p2 (i := 0) rfl
      have HP5 : Hid _ := p1
      have HM5 : Hid (Marks (b + 3) (D + 1) (mkD D :: ds) W) := p3.cons (by rw [hD]; exact HN3.out.1) (by rw [hD]; have := HB11.out.1; have := HN3.out.2; omega) hDW
      have HD5 : Hid (D + 1 ≤ W.heap.size) := (Array.getElem?_eq_some_iff.1 hDW).1
      clear p1 p2 p3 p4 hDW hD
      go_wp2_with (first | (go_at_call 48; refine Calls.mono C48.out ?_; rintro e w5 ⟨rfl, h5, t5⟩) | go_in)
      refine ⟨⟨k + 1, mkD D :: ds, D + 1, y, _, _, _, _, _, _, _, _, _, _, _, _, _, _, _, _, _, _, _, _, _, _, _, _, rfl, by omega, ?_, HM5.out.turns t5 (fun k _ e => ?_), Nat.le_trans HD5.out t5.size⟩, ?_⟩
      · rw [HS.out]
        exact HP5.out.set5 HBW.out t5 h5
      · subst e; exact ⟨_, _, _, HP5.out.l5⟩
      · simp [numOf]; omega
    case body =>
      rintro l pre u post W he hsz ⟨y, p1, p2, p3, p4⟩
      refine wpIn_block ?_
      have hu : u < 128 := bit_lt HAL.out ((mem_elems HAL.out).1 (by rw [he]; simp))
      have hpl : pre.length ≤ 128 := by
        have := elems_len (nv &&& ld)
        rw [he, List.length_append] at this; omega
      obtain ⟨PP, hPP⟩ : ∃ PP : List Piece, PP = PL ++ pre.map (fun u => ⟨0, setOf [u, v]⟩) := ⟨_, rfl⟩
      have hPPl : PP.length ≤ 128128 := by have := HXL.out.2; rw [hPP, List.length_append, List.length_map]; omega
      rw [← hPP] at p1
      have hv128 : v < 128 := by omega
      refine region_invIn (J := fun a0 L a w => ∃ f, a = A7 (fun s => a0.tmps.getD s undef) f ∧ S7 W y u v (b + 2) (b + 3) PP L f w) (by kernel_rfl) (by kernel_rfl) ?_ ?_ ?_
      · exact ⟨fun i => ({ tmps := #[sl bn N, sv laid, Value.slice (some ⟨bf, off, none⟩) m cap, sv rest, undef, Value.pointer (some ⟨b, 0, none⟩), undef, Value.pointer (some ⟨b + 1, 0, none⟩), Value.slice none 0 0, Value.pointer (some ⟨b + 2, 0, none⟩), undef, Value.pointer (some ⟨b11, 0, none⟩), Value.int .i64 (u : Int), undef, Value.slice (some ⟨bf, off, none⟩) m cap, Value.int .i64 (m : Int), Value.int .i64 (k : Int), Value.bool true, Value.pointer (some ⟨bf, off + k, none⟩), Value.int .i64 (v : Int), sl bn N, Value.int .i64 (v : Int), Value.pointer (some ⟨bn, v * 2, none⟩), sv nv, sv ld, sv (nv &&& ld), Value.func (Fn.func 47) #[sv (nv &&& ld)] #[], Value.int .i64 (u : Int), u28, u29, u30, u31, u32, u33, u34, u35, u36, u37, u38, undef, undef, undef, undef, undef, undef, undef, undef, undef, undef, undef, undef, undef, undef, undef, undef, undef, undef, undef, undef], defers := [] } : Act).tmps.getD (i + 28) undef, rfl, S7.start⟩
      · intro i o hi M a' w1 hJ hLi hd
        obtain ⟨f, rfl, hS⟩ := hJ
        match i, hi with
        | 0, hi =>
          cases hi
          have hb := hS.early hLi (by omega)
          have e9 : w1.cell? ⟨b + 2, 0, none⟩ = some y := box_cell ((p1.under hb).o9) rfl
          refine wpOpIn_value ⟨(by intro _ h; cases h), (by intro _ h; cases h)⟩ rfl rfl (v := y) (w' := w1) ?_ ⟨updV f 0 y, rfl, hS.put hLi (by omega) (Below.refl _ _) (fun _ => rfl) (fun h => (by cases h)) (fun h => (by cases h)) (fun h => (by cases h)) (fun h => (by cases h)) (fun h => (by cases h)) (fun h => (by cases h))⟩
          simp [go_sem, A7, Act.eval, e9]
        | 1, hi =>
          cases hi
          refine wpOpIn_value ⟨(by intro _ h; cases h), (by intro _ h; cases h)⟩ rfl rfl (v := .int .i64 (u : Int)) (w' := w1) ?_ ⟨updV f 1 _, rfl, hS.put hLi (by omega) (Below.refl _ _) (fun h => (by cases h)) (fun _ => rfl) (fun h => (by cases h)) (fun h => (by cases h)) (fun h => (by cases h)) (fun h => (by cases h)) (fun h => (by cases h))⟩
          simp [go_sem, A7, Act.eval]
        | 2, hi =>
          cases hi
          have hb := hS.early hLi (by omega)
          have e11 : w1.cell? ⟨b11, 0, none⟩ = some (.int .i64 (v : Int)) := box_cell ((hb.block _ (lt_of_block p2)).trans p2) rfl
          refine wpOpIn_value ⟨(by intro _ h; cases h), (by intro _ h; cases h)⟩ rfl rfl (v := .int .i64 (v : Int)) (w' := w1) ?_ ⟨updV f 2 _, rfl, hS.put hLi (by omega) (Below.refl _ _) (fun h => (by cases h)) (fun h => (by cases h)) (fun _ => rfl) (fun h => (by cases h)) (fun h => (by cases h)) (fun h => (by cases h)) (fun h => (by cases h))⟩
          simp [go_sem, A7, Act.eval, e11]
        | 3, hi =>
          cases hi
          have k1 := hd ⟨1, .data⟩ (by simp) rfl
          have k2 := hd ⟨2, .data⟩ (by simp) rfl
          have d1 := hS.f1 k1
          have d2 := hS.f2 k2
          refine wpOpIn_value ⟨(by intro _ h; cases h), (by intro _ h; cases h)⟩ rfl rfl (v := .slice (some ⟨w1.heap.size, 0, none⟩) 2 2) (w' := w1.alloc (Obj.cells #[.int .i64 (u : Int), .int .i64 (v : Int)] 3)) ?_ ⟨updV f 3 _, rfl, hS.put hLi (by omega) (below_alloc (Below.refl _ _) _) (fun h => (by cases h)) (fun h => (by cases h)) (fun h => (by cases h)) (fun _ => ⟨⟨_, rfl, two_new _ _ _ 3⟩, k1, k2⟩) (fun h => (by cases h)) (fun h => (by cases h)) (fun h => (by cases h))⟩
          simp [go_sem, A7, Act.eval, d1, d2]
        | 4, hi =>
          cases hi
          have k3 := hd ⟨3, .data⟩ (by simp) rfl
          have h7 : M 7 = false := by
            cases e : M 7 with
            | false => rfl
            | true => have := hS.c5 (hS.c6 (hS.c7 e).1); rw [hLi] at this; cases this
          obtain ⟨bb, d3, t3⟩ := hS.f3 k3 h7
          refine wpOpIn_call (f := 56) (args := #[.slice (some ⟨bb, 0, none⟩) 2 2]) (fun _ => trivial) rfl (by intro _ h; cases h) rfl rfl (w' := w1) ?_ ?_
          · simp [go_sem, A7, Act.eval, d3]
          · obtain ⟨c0, c1⟩ := cell_two t3
            refine (CallsIn.inRound l (callsIn_wide.2 (setOf_call (l := [u, v]) (off := 0) (cap := 2) (b := bb) (fun k x hk => ?_) (by simpa using ⟨hu, hv128⟩) (by simp)))).mono ?_
            · match k with
              | 0 => simp at hk; subst hk; exact c0
              | 1 => simp at hk; subst hk; exact c1
              | k + 2 => simp at hk
            · rintro e w3 ⟨rfl, hB3⟩
              exact ⟨_, rfl, updV f 4 _, rfl, hS.put hLi (by omega) hB3 (fun h => (by cases h)) (fun h => (by cases h)) (fun h => (by cases h)) (fun h => (by cases h)) (fun _ => ⟨rfl, k3⟩) (fun h => (by cases h)) (fun h => (by cases h))⟩
        | 5, hi =>
          cases hi
          have k4 := hd ⟨4, .data⟩ (by simp) rfl
          have d4 := hS.f4 k4
          have zl : ((lo64 0 : Nat) : Int) = 0 := by decide
          have zh : ((hi64 0 : Nat) : Int) = 0 := by decide
          refine wpOpIn_value ⟨(by intro _ h; cases h), (by intro _ h; cases h)⟩ rfl rfl (v := pv ⟨0, setOf [u, v]⟩) (w' := w1) ?_ ⟨updV f 5 _, rfl, hS.put hLi (by omega) (Below.refl _ _) (fun h => (by cases h)) (fun h => (by cases h)) (fun h => (by cases h)) (fun h => (by cases h)) (fun h => (by cases h)) (fun _ => ⟨rfl, k4⟩) (fun h => (by cases h))⟩
          simp [go_sem, A7, Act.eval, d4, zl, zh]
        | 6, hi =>
          cases hi
          have k5 := hd ⟨5, .data⟩ (by simp) rfl
          have d5 := hS.f5 k5
          refine wpOpIn_value ⟨(by intro _ h; cases h), (by intro _ h; cases h)⟩ rfl rfl (v := .slice (some ⟨w1.heap.size, 0, none⟩) 1 1) (w' := w1.alloc (Obj.cells #[.int .u64 (lo64 0 : Int), .int .u64 (hi64 0 : Int), .int .u64 (lo64 (setOf [u, v]) : Int), .int .u64 (hi64 (setOf [u, v]) : Int)] 103)) ?_ ⟨updV f 6 _, rfl, hS.put hLi (by omega) (below_alloc (Below.refl _ _) _) (fun h => (by cases h)) (fun h => (by cases h)) (fun h => (by cases h)) (fun h => (by cases h)) (fun h => (by cases h)) (fun h => (by cases h)) (fun _ => ⟨⟨_, rfl, heap_alloc_new _ _⟩, k5⟩)⟩
          simp [go_sem, A7, Act.eval, d5]
        | 7, hi =>
          cases hi
          have k0 := hd ⟨0, .data⟩ (by simp) rfl
          have k6 := hd ⟨6, .data⟩ (by simp) rfl
          have d0 := hS.f0 k0
          obtain ⟨c, d6, b6⟩ := hS.f6 k6 hLi
          have hb := hS.w0 hLi
          have p16 := p1.under hb
          obtain ⟨i3, hi3, hy0, hy1, hy2⟩ := info_parts Tryd.info103
          obtain ⟨g, cp, w', hr, h2, h3, h4, h5⟩ := run_append_lies (P := Tryd.prog) w1 96 96 (b + 3) 103 i3 (.agg #[.int .u64 0, .int .u64 0, .int .u64 0, .int .u64 0]) 4 32 Tryd.underlying96 hi3 hy0 hy1 hy2 rfl (by decide) y PP.length (flatP PP) p16.row ⟨c, 0, none⟩ 1 1 (pcell ⟨0, setOf [u, v]⟩) rfl (World.news_of_block b6) (by intro z hz; simp [pcell] at hz; rcases hz with rfl | rfl | rfl | rfl <;> rfl) (by omega) (by unfold maxLen; omega) (by omega) p16.size w1.heap.size rfl
          refine wpOpIn_append rfl rfl _ _ 96 rfl (v := y) (y := .slice (some ⟨c, 0, none⟩) 1 1) (z := .slice (some ⟨g, 0, none⟩) (PP.length + 1) cp) (w' := w') ?_ ?_ hr ⟨updV f 7 _, rfl, hS.app hLi k0 k6 ⟨w1, g, cp, hb, h3, rfl, ?_, ?_⟩⟩
          · simp [A7, Act.eval, d0]
          · simp [A7, Act.eval, d6]
          · rw [← flatP_snoc] at h2
            show w'.ownsRow _ _ _ _ (PP ++ [_]).length _
            rw [List.length_append]
            exact h2
          · rcases h4 with h | h
            · exact Or.inl h
            · exact Or.inr (by have := hb.size; omega)
        | 8, hi =>
          cases hi
          have k7 := hd ⟨7, .data⟩ (by simp) rfl
          obtain ⟨w6, g, cp, hb, hg, e7, hr, hgg⟩ := hS.w7 k7 hLi
          have p16 := p1.under hb
          have o1 : One w1 (b + 2) y 96 := (hg.block _ (lt_of_block p16.o9) (fun e => by have := (p16.row_ge e.symm).1; omega)).trans p16.o9
          have e1 := box_cell o1 (i := 0) rfl
          have e2 := one_free o1
          refine wpOpIn_skip ⟨(by intro _ h; cases h), (by intro _ h; cases h)⟩ rfl rfl (w' := w1.setCell ⟨b + 2, 0, none⟩ (f 7)) ?_ ⟨updV f 8 undef, rfl, hS.store hLi k7 undef⟩
          simp [go_sem, A7, Act.eval, e7, e1, e2]
        | k + 9, hi => cases hi
      · intro M a' w1 hJ hall
        obtain ⟨f9, rfl, hS⟩ := hJ
        obtain ⟨w3, z, ⟨w6, g, cp, hb, hg, ez, hr, hgg⟩, rfl⟩ := hS.w8 (hall 8 (by simp))
        obtain ⟨q1, q2⟩ := HN3.out
        obtain ⟨hpi, htt⟩ := p1.push HBW.out hb hg hr
        have hez : z.ownBlock = some g := by rw [ez]; rfl
        refine ⟨fun k hk => htt.block k (by have := hk.2; omega) ?_, htt.size, z, ?_, one_turns p2 htt ?_, p3.turns htt ?_, fun g' hg' ho => ?_⟩
        · rintro (e | e)
          · have := hk.1; omega
          · exact p4 k e hk
        · rw [List.map_append, ← List.append_assoc, ← hPP]
          exact hpi
        · rintro (e | e)
          · have := HB11.out.2; omega
          · obtain ⟨cur, hcur⟩ := own_cells p1.row e
            have h9 : W.heap[b11]? = some (.cells #[.int .i64 (v : Int)] 3 (0, 0)) := p2
            rw [h9] at hcur; cases hcur
        · rintro k hk (e | e)
          · subst e; exact ⟨_, _, _, p1.o9⟩
          · obtain ⟨cur, hcur⟩ := own_cells p1.row e
            exact ⟨_, _, _, hcur⟩
        · rw [hez] at hg'
          cases hg'
          rcases hgg with h | h
          · exact p4 g h ho
          · have := ho.2; omega
  · have hkm : k = m := by omega
    have htk : fresh.take k = fresh := List.take_of_length_le (by have := HMM.out; omega)
    have hfl2 := freshL_lt near fresh laid HX.out.1 (fun y hy => by have := HF.out.2 y hy; rw [← HNN.out] at this; omega)
    have hfl1 := freshL_len near fresh laid
    have hlen : (freshL near laid fresh).1.length ≤ 128000 := by have := HMM.out; omega
    have HR2 : Hid (R = (freshL near laid fresh).1 ++ restL near (freshL near laid fresh).2 128 rest) := HR.out
    rw [htk] at HP hp
    generalize (freshL near laid fresh).1 = PL at *
    generalize (freshL near laid fresh).2 = ld at *
    have i2 : ¬ (k : Int) < (m : Int) := by omega
    have HLD : Hid (ld < 2 ^ 128 ∧ PL.length ≤ 128000) := ⟨hfl2, hlen⟩
    clear hfl1 hlen hfl2 htk hkm hp hmk hlt
    dsimp only [F55]
    go_upto_region 10 with (fail)
    go_loopw [] (fun wz => ∃ (rs : Nat) (y : Value) (L : List Piece) (fu : Nat), PI w wz b ld rs y L ∧ Marks (b + 3) hi ds wz ∧ rs < 2 ^ 128 ∧ (∀ v, rs.testBit v = true → v < N) ∧ countS rs ≤ fu ∧ L.length + fu ≤ 128128 ∧ R = L ++ restL near ld fu rs) (fun wz => boxCount wz (b + 1))
    case atStart => exact ⟨rest, x, PL, 128, HP.out, HM.out, HX.out.2.1, (by rw [HNN.out]; exact HX.out.2.2), count_le _, (by have := HLD.out.2; omega), HR2.out⟩
    case round =>
      obtain ⟨rs, y, L, fu, hp, hm, hrs, hrl, hfu, hLf, hRe⟩ := hrel
      obtain ⟨d0, d1⟩ := cell_two hp.l7
      have C64 : Hid (Calls Tryd.prog 64 #[sv rs] wr fun e w' => e = .returned (.bool (rs == 0)) ∧ Below wr.heap.size wr w') := isEmpty_call hrs
      have HPr : Hid _ := hp
      have HMr : Hid (Marks (b + 3) hi ds wr) := hm
      by_cases h0 : rs = 0
      · have hRL : R = L := by
          rw [hRe, h0]
          cases fu <;> simp [restL]
        have HRL : Hid (R = L) := hRL
        rw [show (rs == 0) = true by simpa using h0] at C64
        clear hp hm hrs hrl hfu hLf hRe hRL h0
        go_wp2_with (first | (go_at_call 64; refine Calls.mono C64.out ?_; rintro e w4 ⟨rfl, h4⟩; have hp4 := HPr.out.under h4; have HP4 : Hid (PI w w4 b ld rs y L) := hp4; have hm4 : Hid (Marks (b + 3) hi ds w4) := HMr.out.under h4; have c9 := box_cell hp4.o9 (i := 0) rfl; clear h4 hp4) | go_in)
        refine leaves_marks hm4.out (fun w' hc hb => ⟨y, ?_, y, rfl, ?_, ?_⟩)
        · simp [results, Tryd.results55, go_sem]
        · rw [HRL.out]
          have hrow := HP4.out.row
          have : PRow w' (b + 3) y L := ownsRow_blocks hrow (fun g hg => by
            obtain ⟨cur, hcur⟩ := own_cells hrow hg
            exact hc g _ _ _ hcur)
          exact ownsRow_base this (by have := HBW.out; omega)
        · have := HBW.out
          exact HP4.out.below.trans (hb.mono (by omega))
      · rw [show (rs == 0) = false by simpa using h0] at C64
        have hg := grow_ok (laid := ld) HN.out.lt hrs h0
        have hfb := (first_spec hrs h0).1
        have hcl := count_less hrs hfb hg.2.2
        obtain ⟨fu', rfl⟩ : ∃ f', fu = f' + 1 := ⟨fu - 1, by omega⟩
        have C68 : Hid (∀ A, Below w.heap.size w A → Calls Tryd.prog 68 #[sl bn N, sv ld, sv rs] A fun e w' => e = .returned (pv (grow near ld rs)) ∧ Below A.heap.size A w') := fun A hA => by
          have := grow_call (w := A) (bn := bn) (near := near) (HN.out.below hA HN.out.ltS) HLD.out.1 hrs h0 (by rw [← HNN.out]; exact hrl) (HT.out.below hA HT.out.pos)
          rw [← HNN.out] at this
          exact this
        have HRe : Hid (R = L ++ ((if 1 < countS (grow near ld rs).feet then [grow near ld rs] else []) ++ restL near ld fu' (sLess rs (grow near ld rs).inner))) := by
          show _ = _
          rw [hRe, restL, if_neg h0]
        have HRl : Hid (∀ v, (sLess rs (grow near ld rs).inner).testBit v = true → v < N) := fun v hv => by
          rw [bit_less] at hv
          exact hrl v (by simpa using (Bool.and_eq_true_iff.1 hv).1)
        have hcw := count_le (grow near ld rs).feet
        generalize grow near ld rs = G at *
        obtain ⟨Gi, Gf⟩ := G
        simp only at hg hcl hcw HRl HRe
        have C62 : Hid (∀ A : World, Calls Tryd.prog 62 #[sv rs, sv Gi] A fun e w' => e = .returned (sv (sLess rs Gi)) ∧ Below A.heap.size A w') := fun A => less_call hrs hg.1
        have C69 : Hid (∀ A : World, Calls Tryd.prog 69 #[sv Gf] A fun e w' => e = .returned (.int .i64 (countS Gf : Int)) ∧ Below A.heap.size A w') := fun A => count_call hg.2.1
        have HCL : Hid (countS (sLess rs Gi) < countS rs ∧ sLess rs Gi < 2 ^ 128 ∧ countS rs ≤ fu' + 1 ∧ L.length + (fu' + 1) ≤ 128128) := ⟨hcl, less_lt hrs, hfu, hLf⟩
        have HMW : Hid (boxCount wr (b + 1) = countS rs) := sbox_count hp.l7
        generalize countS Gf = cf at *
        clear hp hm hrs hrl hfu hLf hRe hg hcl hfb h0
        go_upto_region 12 with (first | (go_at_call 64; refine Calls.mono C64.out ?_; rintro e w4 ⟨rfl, h4⟩; have hp4 := HPr.out.under h4; have hm4 : Hid (Marks (b + 3) hi ds w4) := HMr.out.under h4; obtain ⟨e0, e1⟩ := cell_two hp4.l5; obtain ⟨e2, e3⟩ := cell_two hp4.l7; clear h4) | (go_at_call 68; refine Calls.mono (C68.out _ hp4.below) ?_; rintro e w5 ⟨rfl, h5⟩; have hp5 := hp4.under h5; have hm5 : Hid (Marks (b + 3) hi ds w5) := hm4.out.under h5; clear h5) | fail)
        have hBa : Below w5.heap.size w5 (w5.alloc (Obj.cells #[Value.int IntKind.u64 (lo64 Gi : Int), Value.int IntKind.u64 (hi64 Gi : Int), Value.int IntKind.u64 (lo64 Gf : Int), Value.int IntKind.u64 (hi64 Gf : Int)] 103)) := below_alloc (Below.refl _ w5) _
        have hp6 := hp5.under hBa
        have hm6 : Hid (Marks (b + 3) hi ds (w5.alloc (Obj.cells #[Value.int IntKind.u64 (lo64 Gi : Int), Value.int IntKind.u64 (hi64 Gi : Int), Value.int IntKind.u64 (lo64 Gf : Int), Value.int IntKind.u64 (hi64 Gf : Int)] 103))) := hm5.out.under hBa
        have o13 : PBox (w5.alloc (Obj.cells #[Value.int IntKind.u64 (lo64 Gi : Int), Value.int IntKind.u64 (hi64 Gi : Int), Value.int IntKind.u64 (lo64 Gf : Int), Value.int IntKind.u64 (hi64 Gf : Int)] 103)) w5.heap.size Gi Gf := heap_alloc_new _ _
        have h13 : b + 3 ≤ w5.heap.size := hp5.size
        have hrow13 : ∀ g, y.ownBlock = some g → g ≠ w5.heap.size := fun g hg => by have := (hp5.row_ge hg).2; omega
        generalize w5.heap.size = b13 at *
        generalize w5.alloc (Obj.cells #[Value.int IntKind.u64 (lo64 Gi : Int), Value.int IntKind.u64 (hi64 Gi : Int), Value.int IntKind.u64 (lo64 Gf : Int), Value.int IntKind.u64 (hi64 Gf : Int)] 103) = w6 at *
        obtain ⟨q0, q1, q2, q3⟩ := pbox_cells o13
        obtain ⟨r0, r1⟩ := cell_two hp6.l7
        have HP6 : Hid _ := hp6
        have HO13 : Hid _ := o13
        have HROW : Hid (∀ g, y.ownBlock = some g → g ≠ b13) := hrow13
        clear hp4 hp5 hp6 o13 hm4 hm5 hBa e0 e1 e2 e3 d0 d1 hrow13
        go_upto_region 13 with (first | (go_at_call 62; refine Calls.mono (C62.out _) ?_; rintro e w7 ⟨rfl, h7⟩; have hp7 := HP6.out.under h7; have hm7 : Hid (Marks (b + 3) hi ds w7) := hm6.out.under h7; have o7 : PBox w7 b13 Gi Gf := (h7.block _ (lt_of_block HO13.out)).trans HO13.out; obtain ⟨s1, s2, s3, s4⟩ := store_two hp7.l7 (i := 0) (.int .u64 (lo64 (sLess rs Gi) : Int)) rfl rfl; clear h7) | fail)
        have hs7 : SBox _ (b + 1) (sLess rs Gi) := two_setN (x' := .int .u64 (lo64 (sLess rs Gi) : Int)) (y' := .int .u64 (hi64 (sLess rs Gi) : Int)) hp7.l7
        have t7 := (setCell_turns w7 (b + 1) 0 (.int .u64 (lo64 (sLess rs Gi) : Int))).trans (setCell_turns _ (b + 1) 1 (.int .u64 (hi64 (sLess rs Gi) : Int)))
        have hp8 := hp7.set7 HBW.out t7 hs7
        have o8 : PBox _ b13 Gi Gf := box_turns o7 t7 (by omega)
        have hm8 : Marks (b + 3) hi ds _ := hm7.out.turns t7 (fun k _ e => by subst e; exact ⟨_, _, _, hp7.l7⟩)
        generalize (w7.setCell ⟨b + 1, 0, none⟩ (.int .u64 (lo64 (sLess rs Gi) : Int))).setCell ⟨b + 1, 1, none⟩ (.int .u64 (hi64 (sLess rs Gi) : Int)) = w8 at *
        have HP8 : Hid _ := hp8
        have HO8 : Hid _ := o8
        have HM8 : Hid (Marks (b + 3) hi ds w8) := hm8
        clear s1 s2 s3 s4 hs7 t7 hp7 o7 hm7 q0 q1 q2 q3 r0 r1 hp8 hm8
        obtain ⟨q0, q1, q2, q3⟩ := pbox_cells o8
        clear o8
        by_cases hcf : 1 < cf
        · have hcf1 : (cf : Int) > 1 := by omega
          have hcf2 : (1 : Int) < (cf : Int) := by omega
          obtain ⟨i3, hi3, hy0, hy1, hy2⟩ := info_parts Tryd.info103
          rw [if_pos hcf] at HRe
          go_upto_region 14 with (first | (go_at_call 69; refine Calls.mono (C69.out _) ?_; rintro e w9 ⟨rfl, h9⟩; have hp9 := HP8.out.under h9; have hm9 : Hid (Marks (b + 3) hi ds w9) := HM8.out.under h9; have o9 : PBox w9 b13 Gi Gf := (h9.block _ (lt_of_block HO8.out)).trans HO8.out; clear h9) | fail)
          obtain ⟨v0, v1, v2, v3⟩ := pbox_cells o9
          have c9 := box_cell hp9.o9 (i := 0) rfl
          have hBn : Below w9.heap.size w9 (w9.alloc (Obj.cells #[Value.int IntKind.u64 (lo64 Gi : Int), Value.int IntKind.u64 (hi64 Gi : Int), Value.int IntKind.u64 (lo64 Gf : Int), Value.int IntKind.u64 (hi64 Gf : Int)] 103)) := below_alloc (Below.refl _ w9) _
          have hpn := hp9.under hBn
          have hLl : L.length ≤ 128128 := by have := HCL.out; omega
          have HPN : Hid _ := hpn
          have HP9 : Hid _ := hp9
          have HBn : Hid _ := hBn
          clear hp9 o9 hBn
          go_wp2_with (first | (at_builtin; refine wpList_append_lies _ rfl _ _ 96 rfl (b + 3) 103 i3 (.agg #[.int .u64 0, .int .u64 0, .int .u64 0, .int .u64 0]) 4 32 Tryd.underlying96 hi3 hy0 hy1 hy2 rfl (by decide) y L.length (flatP L) rfl HPN.out.row ⟨w9.heap.size, 0, none⟩ 1 1 (pcell ⟨Gi, Gf⟩) rfl rfl (World.news_of_block (heap_alloc_new _ _)) (by intro z hz; simp [pcell] at hz; rcases hz with rfl | rfl | rfl | rfl <;> rfl) (by omega) (by unfold maxLen; omega) (by omega) HPN.out.size (w9.heap.size + 1) (by simp) ?_; intro g cp w11 h2 h3 h4 h5; have o1 : One w11 (b + 2) y 96 := (h3.block _ (lt_of_block HPN.out.o9) (fun e => by have := (HPN.out.row_ge e.symm).1; omega)).trans HPN.out.o9; have e1 := box_cell o1 (i := 0) rfl; have e2 := one_free o1; clear o1) | go_in)
          have hr : PRow w11 (b + 3) (.slice (some ⟨g, 0, none⟩) (L.length + 1) cp) (L ++ [⟨Gi, Gf⟩]) := by
            rw [← flatP_snoc] at h2
            show w11.ownsRow _ _ _ _ (L ++ [_]).length _
            rw [List.length_append]
            exact h2
          obtain ⟨hpi, htt⟩ := HP9.out.push HBW.out HBn.out h3 hr
          have hmf := hm9.out.turns htt (by
            rintro k hk (e | e)
            · subst e; exact ⟨_, _, _, HP9.out.o9⟩
            · obtain ⟨cur, hcur⟩ := own_cells HP9.out.row e
              exact ⟨_, _, _, hcur⟩)
          go_roundw
          case rel => exact ⟨sLess rs Gi, _, L ++ [⟨Gi, Gf⟩], fu', hpi, hmf, HCL.out.2.1, HRl.out, by have := HCL.out; omega, by have := HCL.out; simp; omega, by rw [HRe.out]; simp⟩
          case measure =>
            have h1 := sbox_count hpi.l7
            have h2 := HMW.out
            have h3 := HCL.out.1
            omega
        · have hcf1 : ¬ (cf : Int) > 1 := by omega
          have hcf2 : ¬ (1 : Int) < (cf : Int) := by omega
          rw [if_neg hcf, List.nil_append] at HRe
          go_wp2_with (first | (go_at_call 69; refine Calls.mono (C69.out _) ?_; rintro e w9 ⟨rfl, h9⟩; have hp9 : Hid (PI w w9 b ld (sLess rs Gi) y L) := HP8.out.under h9; have hm9 : Hid (Marks (b + 3) hi ds w9) := HM8.out.under h9; clear h9) | go_in)
          go_roundw
          case rel => exact ⟨sLess rs Gi, y, L, fu', hp9.out, hm9.out, HCL.out.2.1, HRl.out, by have := HCL.out; omega, by have := HCL.out; omega, HRe.out⟩
          case measure =>
            have h1 := sbox_count hp9.out.l7
            have h2 := HMW.out
            have h3 := HCL.out.1
            omega
end Go.Proofs.YtekokjechbibdaaDoor
