/- The document's Orders. -/
import Derived.Test.YtmbnaegcichoeaaFn15
import Derived.Test.YtmbnaegcichoeaaCopy
namespace Go.Proofs.Ytmbnaegcichoeaa
open Go.RowKit Go.Maps
attribute [local go_sem ↓] Go.wp_at_zero Go.wp_at_succ

theorem enter15 (args : Array Value) (w : World) : (callFunc 15 args).run Try.prog w = .ok (.enter 15 args) w := by
  simp [callFunc, Try.func15, go_sem]
  rw [if_neg (of_decide_eq_true (by kernel_rfl)), if_neg (by intro h; have : Try.f15.body.isSome = true := (by kernel_rfl); rw [h] at this; cases this)]
/-- A list of numbers in memory. -/
def LL (W : World) (vo : Option Addr) (L : List Nat) (bok : Nat) : Prop := NumF W vo L.length (fun i => (L.getD i 0 : Int)) ∧ ∀ b off, vo = some ⟨b, off, none⟩ → b ≠ bok
theorem LL.turns {W W' : World} {vo : Option Addr} {L : List Nat} {bok : Nat} (h : LL W vo L bok) (ht : Turns (fun k => k = bok) W W') : LL W' vo L bok :=
  ⟨fun j hj => by
    obtain ⟨b, off, e, c⟩ := h.1 j hj
    exact ⟨b, off, e, cell_turns c ht (fun e' => h.2 b off e e')⟩, h.2⟩
def DoneO (bok : Nat) (W : World) (e : Ending) (w' : World) : Prop := e = .returned (.tuple #[]) ∧ Turns (fun k => k = bok) W w' ∧ Box w' bok #[.bool true] 4
/-- What do does with an order. -/
def DoIt (wB : World) (bok n : Nat) (cs : Array Value) : Prop := ∀ (W : World) (L : List Nat) (vo : Option Addr) (vc : Nat), Below wB.heap.size wB W → Box W bok #[.bool true] 4 → L.length = n → L.Nodup → (∀ x ∈ L, x < n) → LL W vo L bok → Calls Try.prog 15 (#[.slice vo n vc] ++ cs) W (DoneO bok W)
theorem getD_take {L : List Nat} {k i : Nat} (h : i < L.length) : k ∈ L.take (i + 1) ↔ k ∈ L.take i ∨ L.getD i 0 = k := by
  rw [List.take_succ_eq_append_getElem h, List.mem_append, List.mem_singleton, List.getD_eq_getElem?_getD, List.getElem?_eq_getElem h]
  simp [eq_comm]
theorem ll_own {W : World} {base g c bok : Nat} {L : List Nat} (h : W.ownsRow base 3 1 (.slice (some ⟨g, 0, none⟩) L.length c) L.length (qv L)) (hb : bok < base) : LL W (some ⟨g, 0, none⟩) L bok := by
  refine ⟨fun j hj => ⟨g, 0, rfl, ?_⟩, fun b off e => ?_⟩
  · have hu : L[j]? = some (L.getD j 0) := by rw [List.getD_eq_getElem?_getD, List.getElem?_eq_getElem hj]; rfl
    obtain ⟨b, e, c⟩ := numsAt_own h j _ hu
    cases e
    rw [Nat.zero_add]; exact c
  · cases e
    have := (h.lt g rfl).1
    omega

theorem wpList_copyNil {W : World} {ops : Array Oper} {rest : List Oper} {o : Oper} {a : Act} {Q : Exit → Act → World → Prop} {vo : Option Addr} {vc : Nat} {L : List Nat} (hgd : o.guard = none) (s y : Operand)
    (ho : o.op = .call { callee := .builtin .append, args := #[s, y], argTypes := #[27, 27] }) (hs : a.eval s = .slice none 0 0) (hy : a.eval y = .slice vo L.length vc)
    (hL : NumF W vo L.length (fun i => (L.getD i 0 : Int))) (hl : L.length ≤ 1000)
    (h : ∀ po pc w', w'.ownsRow W.heap.size 3 1 (.slice po L.length pc) L.length (qv L) → Below W.heap.size W w' → wpList Try.prog ops Q rest (a.put o.dst (.slice po L.length pc)) w') :
    wpList Try.prog ops Q (o :: rest) a W := by
  obtain ⟨i3, hi3, hy0, hy1, hy2⟩ := info_parts Try.info3
  by_cases hl0 : L = []
  · subst hl0
    have hk := h none 0 W (World.ownsRow_nil _ _ _ _) (Below.refl _ _)
    obtain ⟨dst, op, type, pos, after, guard⟩ := o
    simp only at ho hgd hk
    subst ho
    subst hgd
    refine wpList_plain rfl fun K hK => ?_
    have hk' := hK _ _ hk
    clear hk
    unfold Oper.wp
    obtain ⟨ρ, hρ⟩ : ∃ ρ, ρ = a.eval := ⟨_, rfl⟩
    rw [← hρ] at hs hy ⊢
    cases vo with
    | none =>
      simp [go_sem, hs, hy]
      exact hk'
    | some x =>
      simp [go_sem, hs, hy]
      exact hk'
  · have hpos : 0 < L.length := List.length_pos_iff.2 hl0
    obtain ⟨b1, off1, rfl, _⟩ := hL 0 hpos
    refine wpList_append_own _ hgd s y 27 ho W.heap.size 3 i3 (.int .i64 0) 1 8 Try.underlying27 hi3 hy0 hy1 hy2 rfl (by decide) (.slice none 0 0) 0 [] hs (World.ownsRow_nil _ _ _ _) ⟨b1, off1, none⟩ L.length vc (qv L) hy (by simp [qv]) ?n1 ?n2 ?n3 ?n4 (Nat.le_refl _) ?_
    case n1 =>
      intro j u hj
      have hjl : j < L.length := by
        by_cases h : j < L.length
        · exact h
        · rw [List.getElem?_eq_none (by simp [qv]; omega)] at hj; cases hj
      obtain ⟨b, off, e, c⟩ := hL j hjl
      cases e
      have : u = .int .i64 (L.getD j 0 : Int) := by
        unfold qv at hj
        rw [List.getElem?_map, List.getElem?_eq_getElem hjl] at hj
        simp at hj
        rw [← hj]
        simp [List.getD_eq_getElem?_getD, List.getElem?_eq_getElem hjl]
      rw [this, show (⟨b1, off1, none⟩ : Addr).add j = ⟨b1, off1 + j, none⟩ from by unfold Addr.add; split <;> simp_all]
      exact c
    case n2 => intro u hu; unfold qv at hu; simp at hu; obtain ⟨x, _, rfl⟩ := hu; rfl
    case n3 => unfold maxLen; omega
    case n4 => omega
    intro v w' h1 h2 _
    simp only [Nat.zero_add, List.nil_append] at h1
    obtain ⟨po, pc, rfl⟩ := form_row h1
    exact h po pc w' h1 ⟨h2.os, h2.tape, h2.output, h2.size, fun k hk => h2.block k hk (by simp [Value.ownBlock])⟩
set_option maxRecDepth 4000 in
set_option maxHeartbeats 4000000 in
theorem orders_call {wB : World} {bok n : Nat} {c1 c2 c3 c4 c5 : Value} (hn : n ≤ 100) (hge : wB.heap.size ≤ bok) (hDO : DoIt wB bok n #[c1, c2, c3, c4, c5]) :
    ∀ (r : Nat) (W : World) (L : List Nat) (vo : Option Addr) (vc : Nat), r + L.length = n → Below wB.heap.size wB W → Box W bok #[.bool true] 4 → L.Nodup → (∀ x ∈ L, x < n) → LL W vo L bok →
      Calls Try.prog 24 #[.int .i64 (n : Int), .slice vo L.length vc, .func (.func 15) #[] #[c1, c2, c3, c4, c5]] W (DoneO bok W) := by
  have hF := enter15
  have HDO : Hid (DoIt wB bok n #[c1, c2, c3, c4, c5]) := hDO
  clear hDO
  obtain ⟨i3, hi3, hy0, hy1, hy2⟩ := info_parts Try.info3
  intro r
  induction r with
  | zero =>
    intro W L vo vc hr hW hbox hnd hlt hll
    have hlen : L.length = n := by omega
    have h15 := HDO.out W L vo vc hW hbox hlen hnd hlt hll
    have H15 : Hid (Calls Try.prog 15 #[.slice vo n vc, c1, c2, c3, c4, c5] W (DoneO bok W)) := h15
    rw [hlen]
    have k1 : ((n : Int) == (n : Int)) = true := by simp
    clear h15 hW hbox hnd hlt hll hlen hr HDO
    go_enter Try.func24, Try.ntmps24
    go_wp2_with (first | (go_at_call 15; refine Calls.mono H15.out ?_; rintro e W1 ⟨rfl, ht, hb⟩) | go_in)
    go_end0
    exact ⟨rfl, ht, hb⟩
  | succ r ih =>
    intro W L vo vc hr hW hbox hnd hlt hll
    have IH : Hid (∀ (W : World) (L : List Nat) (vo : Option Addr) (vc : Nat), r + L.length = n → Below wB.heap.size wB W → Box W bok #[.bool true] 4 → L.Nodup → (∀ x ∈ L, x < n) → LL W vo L bok →
      Calls Try.prog 24 #[.int .i64 (n : Int), .slice vo L.length vc, .func (.func 15) #[] #[c1, c2, c3, c4, c5]] W (DoneO bok W)) := ih
    have HBOX : Hid (Box W bok #[.bool true] 4) := hbox
    have HND : Hid (L.Nodup ∧ ∀ x ∈ L, x < n) := ⟨hnd, hlt⟩
    have HLL : Hid (LL W vo L bok) := hll
    have k1 : ((L.length : Int) == (n : Int)) = false := by rw [beq_eq_false_iff_ne]; omega
    clear ih hbox hnd hlt hll HDO
    go_enter Try.func24, Try.ntmps24
    go_wp2
    go_loopw [6, 7, 8] (fun iv' _ _ wr => ∃ k : Nat, k ≤ n ∧ iv' = .int .i64 (k : Int) ∧ Turns (fun x => x = bok) W wr ∧ Box wr bok #[.bool true] 4) (fun iv' _ _ _ => n - (numOf iv').toNat)
    case atStart => exact ⟨0, Nat.zero_le _, rfl, Turns.refl _ _, HBOX.out⟩
    case round =>
      obtain ⟨k, hk, rfl, ht, hbx⟩ := hrel
      have HBX : Hid (Box wr bok #[.bool true] 4) := hbx
      have hbok : bok < wr.heap.size := box_lt hbx
      have hBr : Below wB.heap.size wB wr := Turns.below hW ht hW.size (fun x hx => by omega)
      clear hbx
      by_cases hlt : k < n
      · have j1 : (k : Int) < (n : Int) := by omega
        have HLR : Hid (LL wr vo L bok) := HLL.out.turns ht
        go_wp2
        generalize hwo : wr = WO at HBX hbok hBr HLR ht ⊢
        clear hwo
        go_loopw [7, 8] (fun ov iv' wr => ∃ i : Nat, i ≤ L.length ∧ iv' = .int .i64 (i : Int) ∧ ov = .bool (decide (k ∉ L.take i)) ∧ wr = WO) (fun _ iv' _ => L.length - (numOf iv').toNat)
        case atStart => exact ⟨0, Nat.zero_le _, rfl, by simp, rfl⟩
        case round =>
          obtain ⟨i, hi, rfl, rfl, hwr⟩ := hrel
          have hwr' := hwr.symm
          clear hwr
          subst hwr'
          by_cases hlti : i < L.length
          · have j2 : (i : Int) < (L.length : Int) := by omega
            have j3 : (0 : Int) ≤ (i : Int) := by omega
            obtain ⟨b, off, rfl, cx⟩ := HLR.out.1 i hlti
            simp only at cx
            have hgt := getD_take (k := k) hlti
            obtain ⟨x, hx⟩ : ∃ x, x = L.getD i 0 := ⟨_, rfl⟩
            rw [← hx] at cx hgt
            by_cases hin : k ∈ L.take i
            · have HNX : Hid (decide (k ∉ L.take (i + 1)) = false) := by show decide _ = false; simp [hgt, hin]
              have e0 : decide (k ∉ L.take i) = false := by simp [hin]
              rw [e0]
              clear hin hgt hx e0
              go_wp2
              go_roundw
              case rel => exact ⟨i + 1, by omega, by go_num, by rw [HNX.out], trivial⟩
              case measure => simp [numOf]; omega
            · have e0 : decide (k ∉ L.take i) = true := by simp [hin]
              rw [e0]
              by_cases hxk : x = k
              · have HNX : Hid (decide (k ∉ L.take (i + 1)) = false) := by show decide _ = false; simp [hgt, hxk]
                have j4 : ((x : Int) != (k : Int)) = false := by simp [hxk]
                clear hin hgt hx e0 hxk
                go_wp2
                go_roundw
                case rel => exact ⟨i + 1, by omega, by go_num, by rw [HNX.out], trivial⟩
                case measure => simp [numOf]; omega
              · have HNX : Hid (decide (k ∉ L.take (i + 1)) = true) := by show decide _ = true; simp [hgt, hin, hxk]
                have j4 : ((x : Int) != (k : Int)) = true := by simp; omega
                clear hin hgt hx e0 hxk
                go_wp2
                go_roundw
                case rel => exact ⟨i + 1, by omega, by go_num, by rw [HNX.out], trivial⟩
                case measure => simp [numOf]; omega
          · have j2 : ¬ (i : Int) < (L.length : Int) := by omega
            have hil : i = L.length := by omega
            by_cases hin : k ∈ L
            · have e0 : decide (k ∉ L.take i) = false := by rw [hil, List.take_length]; simp [hin]
              rw [e0]
              clear hin e0 hil
              go_wp2
              go_roundw
              case rel => exact ⟨k + 1, by omega, by go_num, ht, HBX.out⟩
              case measure => simp [numOf]; omega
            · have e0 : decide (k ∉ L.take i) = true := by rw [hil, List.take_length]; simp [hin]
              rw [e0]
              have HNX : Hid ((L ++ [k]).Nodup ∧ ∀ x ∈ L ++ [k], x < n) := by
                refine ⟨?_, fun x hx => ?_⟩
                · rw [List.nodup_append]
                  exact ⟨HND.out.1, by simp, fun a ha b hb => by simp at hb; subst hb; exact fun e => hin (e ▸ ha)⟩
                · rcases List.mem_append.1 hx with h | h
                  · exact HND.out.2 x h
                  · simp at h; omega
              have hlen1 : r + (L ++ [k]).length = n := by simp; omega
              have HL1 : Hid (r + (L ++ [k]).length = n) := hlen1
              have HPUSH : Hid (∀ (W1 W3 : World) (po : Option Addr) (pc g c : Nat), Below WO.heap.size WO W1 → W1.ownsRow WO.heap.size 3 1 (.slice po L.length pc) L.length (qv L) → W3.ownsRow WO.heap.size 3 1 (.slice (some ⟨g, 0, none⟩) (L ++ [k]).length c) (L ++ [k]).length (qv (L ++ [k])) → (W1.alloc (Obj.cells #[.int .i64 (k : Int)] 3)).grownBy W3 (Value.slice po L.length pc).ownBlock → Below WO.heap.size WO W3 ∧ Calls Try.prog 24 #[.int .i64 (n : Int), .slice (some ⟨g, 0, none⟩) (L ++ [k]).length c, .func (.func 15) #[] #[c1, c2, c3, c4, c5]] W3 (DoneO bok W3)) := fun W1 W3 po pc g c h1 h2 h3 h4 => by
                have hb3 : Below WO.heap.size WO W3 := (below_alloc h1 _).grown h4 (below_alloc h1 _).size (fun b hb' => (h2.lt b hb').1)
                exact ⟨hb3, IH.out W3 (L ++ [k]) _ _ HL1.out (below_next hBr hb3) ((hb3.block _ hbok).trans HBX.out) HNX.out.1 HNX.out.2 (ll_own h3 hbok)⟩
              clear hin e0 hil hlen1
              have hlL : L.length ≤ 1000 := by omega
              go_wp2_with (first
                | (at_builtin; have hh := HOWN1; clear hh; refine wpList_pushA (l := L) (x := k) rfl _ _ rfl rfl rfl HOWN1.out (by omega) hsz1 ?_; intro g c W3 hown3 hgr3 _; obtain ⟨hb3, h24⟩ := HPUSH.out W1 W3 po pc g c hb1 HOWN1.out hown3 hgr3; have H24 : Hid (Calls Try.prog 24 #[.int .i64 (n : Int), .slice (some ⟨g, 0, none⟩) (L ++ [k]).length c, .func (.func 15) #[] #[c1, c2, c3, c4, c5]] W3 (DoneO bok W3)) := h24; have hlk : (L ++ [k]).length = L.length + 1 := List.length_append; rw [hlk] at H24; clear hown3 hgr3 h24 hlk)
                | (at_builtin; refine wpList_copyNil (L := L) rfl _ _ rfl rfl rfl HLR.out.1 hlL ?_; intro po pc W1 hown1 hb1; have hsz1 := hb1.size; have HOWN1 : Hid (W1.ownsRow WO.heap.size 3 1 (.slice po L.length pc) L.length (qv L)) := hown1; clear hown1)
                | (go_at_call 24; refine Calls.mono H24.out ?_; rintro e W4 ⟨rfl, ht4, hb4⟩)
                | go_in)
              go_roundw
              case rel => exact ⟨k + 1, by omega, by go_num, (ht.trans (Turns.of_below hb3 _)).trans ht4, hb4⟩
              case measure => simp [numOf]; omega
      · have j1 : ¬ (k : Int) < (n : Int) := by omega
        go_wp2
        go_end0
        exact ⟨rfl, ht, HBX.out⟩
set_option maxHeartbeats 1000000 in
theorem allOrders_call {wB W : World} {bok n : Nat} {c1 c2 c3 c4 c5 : Value} (hn : n ≤ 100) (hge : wB.heap.size ≤ bok) (hDO : DoIt wB bok n #[c1, c2, c3, c4, c5]) (hW : Below wB.heap.size wB W) (hbox : Box W bok #[.bool true] 4) :
    Calls Try.prog 14 #[.int .i64 (n : Int), .func (.func 15) #[] #[c1, c2, c3, c4, c5]] W (DoneO bok W) := by
  have h24 := orders_call hn hge hDO n W [] none 0 (by simp) hW hbox (by simp) (fun x hx => by cases hx) ⟨fun j hj => absurd hj (Nat.not_lt_zero _), fun b off e => by cases e⟩
  have H24 : Hid (Calls Try.prog 24 #[.int .i64 (n : Int), .slice none 0 0, .func (.func 15) #[] #[c1, c2, c3, c4, c5]] W (DoneO bok W)) := h24
  clear h24
  go_enter Try.func14, Try.ntmps14
  go_wp2_with (first | (go_at_call 24; refine Calls.mono H24.out ?_; rintro e W1 ⟨rfl, ht, hb⟩) | go_in)
  go_end0
  exact ⟨rfl, ht, hb⟩
end Go.Proofs.Ytmbnaegcichoeaa
