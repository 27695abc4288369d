/- lay: the edges are laid, block by block. -/
import Derived.Test.YtekokjechbibdaaDoorLayBW
import Derived.Test.YtekokjechbibdaaDoorNearM
namespace Go.Proofs.YtekokjechbibdaaDoor
set_option maxRecDepth 8000
open Go.RowKit Go.Maps
attribute [local go_sem ↓] Go.wp_at_zero Go.wp_at_succ
/-- Each block's laying goes well. -/
def layEOk : List Nat → List Face → List E2 → Bool
  | _, faces, [] => decide (faces.length ≤ 100000)
  | near, faces, e :: l => decide (faces.length ≤ 100000) &&
    if (at' near e.1).testBit e.2 then blockOk near e && (match layBlock near e with | none => true | some (b, near') => decide (b.length ≤ 10000) && layEOk near' (faces ++ b) l) else layEOk near faces l
def layNOk (n : Nat) (es : List E2) : Bool := layEOk (nearBy n es) [] es
theorem flatF_append : ∀ (H : List Value) (L : List Face) (H2 : List Value) (L2 : List Face), H.length = L.length → flatF (H ++ H2) (L ++ L2) = flatF H L ++ flatF H2 L2
  | [], [], _, _, _ => by simp [flatF]
  | x :: H, y :: L, H2, L2, e => by
    simp only [List.cons_append, flatF, List.append_assoc]
    rw [flatF_append H L H2 L2 (by simpa using e)]
theorem flatF_one : ∀ (w : World) (lo : Nat) (H : List Value) (L : List Face), H.length = L.length → (∀ (i : Nat) (h : Value) (f : Face), H[i]? = some h → L[i]? = some f → WalkAt w lo h f) → ∀ u ∈ flatF H L, u.oneCell' = true
  | _, _, [], [], _, _, u, hu => by simp [flatF] at hu
  | w, lo, x :: H, y :: L, e, hw, u, hu => by
    simp only [flatF, List.mem_append] at hu
    rcases hu with hu | hu
    · simp [fcell] at hu
      rcases hu with rfl | rfl | rfl
      · obtain ⟨g, off, c, rfl, _⟩ := hw 0 _ y rfl rfl
        rfl
      · rfl
      · rfl
    · exact flatF_one w lo H L (by simpa using e) (fun i h f h1 h2 => hw (i + 1) h f (by simpa using h1) (by simpa using h2)) u hu
theorem FRow.lower {w : World} {lo lo' : Nat} {x : Value} {H : List Value} {L : List Face} (h : FRow w lo x H L) (hl : lo' ≤ lo) : FRow w lo' x H L :=
  ⟨h.hl, ownsRow_base h.row hl, fun i hv f h1 h2 => by
    obtain ⟨g, off, c, e, a1, a2, a3, a4⟩ := h.walks i hv f h1 h2
    exact ⟨g, off, c, e, a1, a2, by omega, a4⟩, h.apart, h.ok⟩
/-- A row of faces behind a row of faces. -/
theorem run_appF {w : World} {lo lo2 : Nat} {x y : Value} {H H2 : List Value} {L L2 : List Face} {ty : TypeId} (hp : FRow w lo x H L) (hq : FRow w lo2 y H2 L2) (hlo2 : lo ≤ lo2) (hxl : ∀ g, x.ownBlock = some g → g < lo2) (h1 : L.length ≤ 1000000) (h2 : L2.length ≤ 1000000) (hlo : lo ≤ w.heap.size) :
    ∃ z w', (Builtin.append_ #[53, 53] ty #[x, y]).run Tryd.prog w = .ok z w' ∧ FRow w' lo z (H ++ H2) (L ++ L2) ∧ w.grownBy w' x.ownBlock := by
  obtain ⟨i3, hi3, hy0, hy1, hy2⟩ := info_parts Tryd.info86
  rcases hq.row.2 with ⟨e, e0⟩ | ⟨g, cap, cur, e, hg, hh, _⟩
  · have hQ : L2 = [] := List.eq_nil_of_length_eq_zero e0
    subst hQ
    have hQ2 : H2 = [] := List.eq_nil_of_length_eq_zero (by rw [hq.hl]; rfl)
    subst hQ2
    subst e
    exact ⟨x, w, run_append_owned_none w lo 53 ty 86 i3 3 Tryd.underlying53 hi3 x L.length (flatF H L) hp.row, by rw [List.append_nil, List.append_nil]; exact hp, grownBy_refl _ _⟩
  · subst e
    obtain ⟨v', w', hr, h5, h6, _, h7⟩ := run_append_own_at (P := Tryd.prog) w lo 53 ty 86 i3 (.agg #[.slice none 0 0, .int .u64 0, .int .u64 0]) 3 40 Tryd.underlying53 hi3 hy0 hy1 hy2 rfl (by decide) x L.length (flatF H L) hp.row ⟨g, 0, none⟩ L2.length cap (flatF H2 L2) (flatF_len H2 L2 hq.hl) (hq.row.cells rfl) (flatF_one w lo2 H2 L2 hq.hl hq.walks) (by unfold maxLen; omega) (by omega) hlo
    have hget : ∀ i hv, (H ++ H2)[i]? = some hv → (H[i]? = some hv ∧ i < L.length) ∨ (L.length ≤ i ∧ H2[i - L.length]? = some hv) := fun i hv hi => by
      rcases Nat.lt_or_ge i H.length with h | h
      · rw [List.getElem?_append_left h] at hi; exact Or.inl ⟨hi, by rw [← hp.hl]; exact h⟩
      · rw [List.getElem?_append_right h] at hi; exact Or.inr ⟨by rw [← hp.hl]; exact h, by rw [← hp.hl]; exact hi⟩
    have hne : ∀ (i : Nat) (hv : Value), (H ++ H2)[i]? = some hv → ∀ b, hv.ownBlock = some b → x.ownBlock ≠ some b ∧ b < w.heap.size := fun i hv hi b hb => by
      rcases hget i hv hi with ⟨h, _⟩ | ⟨_, h⟩
      · exact ⟨hp.apart i hv h b hb, (hp.walk_lt h hb).2⟩
      · have := hq.walk_lt h hb
        exact ⟨fun e => by have := hxl b e; omega, this.2⟩
    refine ⟨v', w', hr, ⟨by rw [List.length_append, List.length_append, hp.hl, hq.hl], ?_, fun i hv f hi hf => ?_, fun i hv hi b hb e => ?_, fun f hf => ?_⟩, h6⟩
    · rw [List.length_append, flatF_append H L H2 L2 hp.hl]; exact h5
    · have hk : ∀ b, hv.ownBlock = some b → w'.heap[b]? = w.heap[b]? := fun b hb => h6.block b (hne i hv hi b hb).2 (fun e => (hne i hv hi b hb).1 e.symm)
      rcases hget i hv hi with ⟨h, hl⟩ | ⟨hl, h⟩
      · rw [List.getElem?_append_left hl] at hf
        exact (hp.walks i hv f h hf).keep h6.size hk
      · rw [List.getElem?_append_right hl] at hf
        obtain ⟨g, off, c, e, a1, a2, a3, a4⟩ := (hq.walks _ hv f h hf).keep h6.size hk
        exact ⟨g, off, c, e, a1, a2, by omega, a4⟩
    · rcases h7 with h | h
      · rw [h] at e; exact (hne i hv hi b hb).1 e
      · rw [h] at e; cases e; have := (hne i hv hi w.heap.size hb).2; omega
    · rcases List.mem_append.1 hf with h | h
      · exact hp.ok f h
      · exact hq.ok f h
/-- At the list of a plain region's operations. -/
theorem wpList_appF {P : Program} {ops : Array Oper} {rest : List Oper} {o : Oper} {a : Act} {w : World} {Q : Exit → Act → World → Prop} (hgd : o.guard = none) (s x : Operand) (t : TypeId)
    (ho : o.op = .call { callee := .builtin .append, args := #[s, x], argTypes := #[t, t] }) {v y z : Value} {w' : World} (hs : a.eval s = v) (hx : a.eval x = y) (hr : (Builtin.append_ #[t, t] o.type #[v, y]).run P w = .ok z w') (h : wpList P ops Q rest (a.put o.dst z) w') : wpList P ops Q (o :: rest) a w :=
  wpList_plain hgd fun _ hK => by
    unfold Oper.wp execOp
    simp only [ho, resolve, invoke, builtin, Sem.run_bind, Sem.run_pure, Result.andThen_ok, List.map_toArray, List.map_cons, List.map_nil, hs, hx, hr]
    exact hK _ _ h
theorem layL_len : ∀ (f : Nat) (near : List Nat) (laid : Nat) (F : List Face) (P : List Piece) (r : List Face × List Nat), layL f near laid F P = some r → r.2.length = near.length
  | 0, _, _, _, _, _, h => by simp [layL] at h
  | f + 1, near, laid, F, [], r, h => by
    have : layL (f + 1) near laid F [] = some (F, near) := rfl
    rw [this] at h; cases h; rfl
  | f + 1, near, laid, F, p :: l, r, h => by
    rw [layL_step] at h
    split at h
    · cases h
    · rw [layL_len f _ _ _ _ r h, partWay_len]
theorem layBlock_len {near : List Nat} {e : E2} {F : List Face} {near' : List Nat} (h : layBlock near e = some (F, near')) : near'.length = near.length := by
  unfold layBlock at h
  rw [layL_len _ _ _ _ _ (F, near') h, part_len]
def LayEAns (w w' : World) (r : Option (List Face)) (e : Ending) : Prop := Below w.heap.size w w' ∧ match r with | none => e = .returned (.tuple #[.slice none 0 0, .bool false]) | some F => ∃ x H, e = .returned (.tuple #[x, .bool true]) ∧ FRow w' w.heap.size x H F
theorem FRow.nil (w : World) (lo : Nat) : FRow w lo (.slice none 0 0) [] [] :=
  ⟨rfl, ⟨rfl, Or.inl ⟨rfl, rfl⟩⟩, fun i _ _ h => by simp at h, fun i _ h => by simp at h, fun f h => by simp at h⟩
theorem layE_yes {near : List Nat} {faces : List Face} {e : E2} {l : List E2} (h : (at' near e.1).testBit e.2 = true) : layE near faces (e :: l) = match layBlock near e with | none => none | some (b, near') => layE near' (faces ++ b) l := by
  rw [layE, if_pos h]
  cases layBlock near e with
  | none => rfl
  | some p => rfl
theorem layE_no {near : List Nat} {faces : List Face} {e : E2} {l : List E2} (h : (at' near e.1).testBit e.2 = false) : layE near faces (e :: l) = layE near faces l := by rw [layE, if_neg (by simp [h])]
theorem layEOk_yes {near : List Nat} {faces : List Face} {e : E2} {l : List E2} (h : (at' near e.1).testBit e.2 = true) : layEOk near faces (e :: l) = (decide (faces.length ≤ 100000) && (blockOk near e && (match layBlock near e with | none => true | some (b, near') => decide (b.length ≤ 10000) && layEOk near' (faces ++ b) l))) := by
  rw [layEOk, if_pos h]
theorem layEOk_no {near : List Nat} {faces : List Face} {e : E2} {l : List E2} (h : (at' near e.1).testBit e.2 = false) : layEOk near faces (e :: l) = (decide (faces.length ≤ 100000) && layEOk near faces l) := by
  rw [layEOk, if_neg (by simp [h])]
set_option maxHeartbeats 8000000 in
theorem lay_call {w : World} {ao : Option Addr} {cap n : Nat} {es : List E2} (hE : EdgesAt w (.slice ao es.length cap) (pz es)) (hn : n ≤ 100) (hes : ∀ e ∈ es, e.1 < n ∧ e.2 < n) (hlen : es.length ≤ 1000000) (ht : T64 w) (hok : layNOk n es = true) :
    Calls Tryd.prog 24 #[.int .i64 (n : Int), .slice ao es.length cap] w fun e w' => LayEAns w w' (lay n es) e := by
  have HE : Hid (EdgesAt w (.slice ao es.length cap) (pz es)) := hE
  have HES : Hid (∀ e ∈ es, e.1 < n ∧ e.2 < n) := hes
  have HT : Hid (T64 w) := ht
  obtain ⟨R, hR⟩ : ∃ R, R = lay n es := ⟨_, rfl⟩
  rw [← hR]
  have HR : Hid (R = layE (nearBy n es) [] es ∧ layEOk (nearBy n es) [] es = true) := ⟨hR, hok⟩
  have C27 : Hid (Calls Tryd.prog 27 #[.int .i64 (n : Int), .slice ao es.length cap] w fun e w' => ∃ b, e = .returned (sl b n) ∧ SetsAt w' b (nearBy n es) ∧ w.heap.size ≤ b ∧ Below w.heap.size w w') := nearBy_call hE hn hes hlen
  obtain ⟨m, hm⟩ : ∃ m, m = es.length := ⟨_, rfl⟩
  rw [← hm] at hlen C27 ⊢
  have HM : Hid (m = es.length) := hm
  clear hE hes ht hok hR hm
  go_enter Tryd.func24, Tryd.ntmps24
  go_upto_region 4 with (first | (go_at_call 27; refine Calls.mono C27.out ?_; rintro e w1 ⟨bn, rfl, hs1, hbn, hB1⟩) | fail)
  have HB1 : Hid (Below w.heap.size w w1 ∧ bn < w1.heap.size ∧ w.heap.size ≤ bn) := ⟨hB1, hs1.ltS, hbn⟩
  have HS1 : Hid _ := hs1
  clear C27 hs1 hbn hB1
  go_loopw [17, 7] (fun s17 s7 wz => ∃ (k : Nat) (near : List Nat) (H : List Value) (F : List Face), k ≤ m ∧ s17 = .int .i64 (k : Int) ∧ SetsAt wz bn near ∧ near.length = n ∧ FRow wz w1.heap.size s7 H F ∧ Turns (fun k => k = bn) w1 wz ∧ R = layE near F (es.drop k) ∧ layEOk near F (es.drop k) = true) (fun s17 _ _ => m - (numOf s17).toNat)
  case atStart => exact ⟨0, _, [], [], Nat.zero_le _, rfl, HS1.out, nearBy_len _ _, FRow.nil _ _, Turns.refl _ _, HR.out.1, HR.out.2⟩
  case round =>
    obtain ⟨k, near, H, F, hk, rfl, hs, hnl, hf, htn, hRk, hok⟩ := hrel
    have hBw : Below w.heap.size w wr := htn.below HB1.out.1 HB1.out.1.size (fun k e => by rw [e]; exact HB1.out.2.2)
    by_cases hlt : k < m
    · have hlt' : k < es.length := by have := HM.out; omega
      obtain ⟨ao', cap', e1, _, _, hcells⟩ := HE.out
      simp only [pz_len, Value.slice.injEq] at e1
      obtain ⟨e1, _, e2⟩ := e1
      have e1' := e1.symm
      subst e1'
      clear e2
      obtain ⟨eb, eo, rfl, cx, cy⟩ := hcells k (by rw [pz_len]; exact hlt')
      obtain ⟨⟨x, y⟩, hxy⟩ : ∃ e : E2, es[k]'hlt' = e := ⟨_, rfl⟩
      have hpk : (pz es)[k]'(by rw [pz_len]; exact hlt') = ((x : Int), (y : Int)) := by simp [pz, hxy]
      rw [hpk] at cx cy
      have hbl := World.block_lt_of_cell? w _ cx
      rw [← hBw.cell (by exact hbl)] at cx cy
      obtain ⟨hxn, hyn⟩ := HES.out (x, y) (by rw [← hxy]; exact List.getElem_mem _)
      simp only at cx cy hxn hyn
      have hdr : es.drop k = (x, y) :: es.drop (k + 1) := by rw [List.drop_eq_getElem_cons hlt', hxy]
      rw [hdr] at hRk hok
      have i1 : (0 : Int) ≤ (x : Int) := by omega
      have i2 : (x : Int) < (n : Int) := by omega
      have j1 : (0 : Int) ≤ (k : Int) := by omega
      have j2 : (k : Int) < (m : Int) := by omega
      have HS : Hid (SetsAt wr bn near ∧ near.length = n ∧ FRow wr w1.heap.size u7 H F ∧ Turns (fun k => k = bn) w1 wr) := ⟨hs, hnl, hf, htn⟩
      have HBw : Hid (Below w.heap.size w wr) := hBw
      have HRK : Hid _ := hRk
      have HOK : Hid _ := hok
      clear hxy hpk hcells hbl hs hf htn hnl hBw hdr hRk hok hlt'
      go_upto_region 6 with (fail)
      have t9 := two_new wr (.int .i64 (x : Int)) (.int .i64 (y : Int)) 49
      have hBa := below_alloc (Below.refl _ wr) (Obj.cells #[.int .i64 (x : Int), .int .i64 (y : Int)] 49)
      have hws : wr.heap.size < (wr.alloc (Obj.cells #[.int .i64 (x : Int), .int .i64 (y : Int)] 49)).heap.size := by simp
      generalize hb9 : wr.heap.size = b9 at t9 hws ⊢
      generalize wr.alloc (Obj.cells #[.int .i64 (x : Int), .int .i64 (y : Int)] 49) = W7 at *
      rw [hb9] at hBa
      have HB7 : Hid (Below wr.heap.size wr W7) := by rw [hb9]; exact hBa
      have HT9 : Hid (Two W7 b9 (.int .i64 (x : Int)) (.int .i64 (y : Int)) 49) := t9
      have hso : near[x]? = some (at' near x) := at_some (by have := HS.out.2.1; omega)
      obtain ⟨n0, n1⟩ := (HS.out.1.under HB7.out).cell hso
      have hal := at_lt HS.out.1.lt x
      obtain ⟨p0, p1⟩ := cell_two t9
      have g0 := cell_growD p0
      have g1 := cell_growD p1
      have g2 := cell_growD n0
      have g3 := cell_growD n1
      obtain ⟨bt, hbt⟩ : ∃ bt, bt = (at' near x).testBit y := ⟨_, rfl⟩
      have C40 : Hid (∀ A, Below W7.heap.size W7 A → Calls Tryd.prog 40 #[.agg #[.int .u64 (lo64 (at' near x) : Int), .int .u64 (hi64 (at' near x) : Int)], .int .i64 (y : Int)] A fun e w' => e = .returned (.bool bt) ∧ Below A.heap.size A w') := fun A _ => by rw [hbt]; exact has_call hal (by omega)
      have HBT : Hid (bt = (at' near x).testBit y) := hbt
      clear n0 n1 p0 p1 hso hal t9 hBa hws hbt cx cy hb9
      generalize at' near x = ax at g2 g3 C40 ⊢
      refine wp_region_below (by kernel_rfl) (by kernel_rfl) ?_
      repeat (quiet_step (first | (go_at_call 40; exact Calls.belowQ (fun W hW => C40.out W hW))))
      refine wpQuiet_nil ?_
      rintro _ ⟨gp, rfl⟩
      have hB8 := growD_below W7 gp
      clear g0 g1 g2 g3 C40
      generalize growD W7 gp = w8 at *
      have hBr8 : Below wr.heap.size wr w8 := below_next HB7.out hB8
      have HS8 : Hid (SetsAt w8 bn near ∧ near.length = n ∧ FRow w8 w1.heap.size u7 H F ∧ Turns (fun k => k = bn) w1 w8) := ⟨HS.out.1.under hBr8, HS.out.2.1, HS.out.2.2.1.under hBr8, HS.out.2.2.2.trans (Turns.of_below hBr8 _)⟩
      obtain ⟨q0, q1⟩ := cell_two (two_next HT9.out hB8)
      have HBw8 : Hid (Below w.heap.size w w8) := below_next HBw.out hBr8
      clear hBr8 hB8
      cases bt with
      | false =>
        go_wp2
        go_roundw
        case rel => exact ⟨k + 1, near, H, F, by omega, by go_num, HS8.out.1, HS8.out.2.1, HS8.out.2.2.1, HS8.out.2.2.2, by rw [HRK.out, layE_no HBT.out.symm], by
          have := HOK.out
          rw [layEOk_no HBT.out.symm, Bool.and_eq_true] at this
          exact this.2⟩
        case measure => simp [numOf]; omega
      | true =>
        have hok := HOK.out
        rw [layEOk_yes HBT.out.symm] at hok
        simp only [Bool.and_eq_true, decide_eq_true_eq] at hok
        obtain ⟨hF, hbo, hmt⟩ := hok
        have hRk := HRK.out
        rw [layE_yes HBT.out.symm] at hRk
        have C41 : Hid (Calls Tryd.prog 41 #[sl bn n, .agg #[.int .i64 (x : Int), .int .i64 (y : Int)]] w8 fun e w' => LayAns w8 w' bn (layBlock near (x, y)) e) := by
          have := layBlock_call (e1 := x) (e2 := y) HS8.out.1 (by have := HS8.out.2.1; omega) (by have := HS8.out.2.1; omega) (by have := HS8.out.2.1; omega) (by have := HT.out.pos; have := HB1.out; omega) (HT.out.under HBw8.out) hbo
          rw [HS8.out.2.1] at this
          exact this
        obtain ⟨LB, hLB⟩ : ∃ LB, LB = layBlock near (x, y) := ⟨_, rfl⟩
        rw [← hLB] at C41 hRk hmt
        have HLB : Hid (LB = layBlock near (x, y)) := hLB
        clear hbo hLB
        cases LB with
        | none =>
          have C41' : Hid (Calls Tryd.prog 41 #[sl bn n, .agg #[.int .i64 (x : Int), .int .i64 (y : Int)]] w8 fun e w' => e = .returned (.tuple #[.slice none 0 0, .bool false]) ∧ Turns (fun k => k = bn) w8 w') := C41.out.mono fun e w' h => ⟨h.2, h.1⟩
          have hRn : R = none := hRk
          clear hRk hmt C41
          go_wp2_with (first | (go_at_call 41; refine Calls.mono C41'.out ?_; rintro e w9 ⟨rfl, t9⟩) | go_in)
          refine bodyPost_ret (v := .tuple #[.slice none 0 0, .bool false]) ?_ rfl ?_
          · simp [results, Tryd.results24, go_sem]
          · rw [hRn]
            exact ⟨t9.below HBw8.out HBw8.out.size (fun k e => by rw [e]; exact HB1.out.2.2), rfl⟩
        | some q =>
          obtain ⟨B, near'⟩ := q
          simp only [Bool.and_eq_true, decide_eq_true_eq] at hmt
          have C41' : Hid (Calls Tryd.prog 41 #[sl bn n, .agg #[.int .i64 (x : Int), .int .i64 (y : Int)]] w8 fun e w' => ∃ fx, e = .returned (.tuple #[fx, .bool true]) ∧ ∃ HB, FRow w' w8.heap.size fx HB B ∧ SetsAt w' bn near' ∧ Turns (fun k => k = bn) w8 w') := C41.out.mono fun e w' h => by
            obtain ⟨h1, x', H', h2, h3, h4⟩ := h
            exact ⟨x', h2, H', h3, h4, h1⟩
          have HRN : Hid (R = layE near' (F ++ B) (es.drop (k + 1)) ∧ layEOk near' (F ++ B) (es.drop (k + 1)) = true ∧ B.length ≤ 10000 ∧ F.length ≤ 100000) := ⟨hRk, hmt.2, hmt.1, hF⟩
          clear hRk hmt C41 hF
          go_upto_region 10 with (first | (go_at_call 41; refine Calls.mono C41'.out ?_; rintro e w9 ⟨fx, rfl, HB, hf9, hs9, t9⟩) | fail)
          have hfr9 : FRow w9 w1.heap.size u7 H F := HS8.out.2.2.1.keep t9.size (fun g hg => t9.block g (HS8.out.2.2.1.row.lt g hg).2 (by have := (HS8.out.2.2.1.row.lt g hg).1; have := HB1.out.2.1; omega)) (fun i hv hi g hg => t9.block g (HS8.out.2.2.1.walk_lt hi hg).2 (by have := (HS8.out.2.2.1.walk_lt hi hg).1; have := HB1.out.2.1; omega))
          have ht9 := HS8.out.2.2.2.trans t9
          obtain ⟨zz, w10, hr10, hf10, hg10⟩ := run_appF (ty := 53) hfr9 hf9 HS8.out.2.2.2.size (fun g hg => (HS8.out.2.2.1.row.lt g hg).2) (by have := HRN.out; omega) (by have := HRN.out; omega) ht9.size
          have hg10' := Turns.of_grown hg10
          have HZ : Hid (FRow w10 w1.heap.size zz (H ++ HB) (F ++ B) ∧ SetsAt w10 bn near' ∧ Turns (fun k => k = bn) w1 w10) := ⟨hf10, hs9.turns hg10' (fun e => by have := (hfr9.row.lt bn e.symm).1; have := HB1.out.2.1; omega), ⟨hg10.os.trans ht9.os, hg10.tape.trans ht9.tape, hg10.output.trans ht9.output, Nat.le_trans ht9.size hg10.size, fun k hk hn => (hg10.block k (Nat.lt_of_lt_of_le hk ht9.size) (fun e => by have := (hfr9.row.lt k e.symm).1; omega)).trans (ht9.block k hk hn)⟩⟩
          have HNL : Hid (near'.length = n) := (layBlock_len HLB.out.symm).trans HS8.out.2.1
          clear hfr9 ht9 hf10 hg10 hg10' hf9 hs9 t9
          go_wp2_with (first | (at_builtin; refine wpList_appF rfl _ _ 53 rfl (v := u7) (y := fx) (z := zz) (w' := w10) rfl rfl hr10 ?_) | go_in)
          go_roundw
          case rel => exact ⟨k + 1, near', H ++ HB, F ++ B, by omega, by go_num, HZ.out.2.1, HNL.out, HZ.out.1, HZ.out.2.2, HRN.out.1, HRN.out.2.1⟩
          case measure => simp [numOf]; omega
    · have hkm : k = m := by omega
      have hRs : R = some F := by
        rw [hRk, List.drop_of_length_le (by have := HM.out; omega)]
        rfl
      have i2 : ¬ (k : Int) < (m : Int) := by omega
      have HF : Hid _ := hf
      have HBw : Hid _ := hBw
      clear hRk hok hkm hs hf htn hBw
      go_wp2
      refine bodyPost_ret (v := .tuple #[u7, .bool true]) ?_ rfl ?_
      · simp [results, Tryd.results24, go_sem]
      · exact ⟨HBw.out, _, H, rfl, HF.out.lower HB1.out.1.size⟩
end Go.Proofs.YtekokjechbibdaaDoor
