/- The document's Orders: a function is called with each order; it makes a number in a box no greater than what it reckons. -/
import Derived.Test.YtdalconphfgepaaDoorOfG
import Derived.Test.YtdalconphfgepaaDoorMostW
namespace Go.Proofs.YtdalconphfgepaaDoor
set_option maxRecDepth 8000
open Go.RowKit Go.Maps
attribute [local go_sem ↓] Go.wp_at_zero Go.wp_at_succ
theorem enter35 (args : Array Value) (w : World) : (callFunc 35 args).run Tryd.prog w = .ok (.enter 35 args) w := by
  simp [callFunc, Tryd.func35, go_sem]
  rw [if_neg (of_decide_eq_true (by kernel_rfl)), if_neg (by intro h; have : Tryd.f35.body.isSome = true := (by kernel_rfl); rw [h] at this; cases this)]
/-- A list of numbers in memory. -/
def LL (W : World) (vo : Option Addr) (L : List Nat) (bok : Nat) : Prop := NumF W vo L.length (fun i => (L.getD i 0 : Int)) ∧ ∀ b off, vo = some ⟨b, off, none⟩ → b ≠ bok
theorem LL.turns {W W' : World} {vo : Option Addr} {L : List Nat} {bok : Nat} (h : LL W vo L bok) (ht : Turns (fun k => k = bok) W W') : LL W' vo L bok :=
  ⟨fun j hj => by
    obtain ⟨b, off, e, c⟩ := h.1 j hj
    exact ⟨b, off, e, cell_turns c ht (fun e' => h.2 b off e e')⟩, h.2⟩
/-- An order of the numbers below n that begins with L. -/
def Ext1 (n : Nat) (L M : List Nat) : Prop := (L ++ M).length = n ∧ (L ++ M).Nodup ∧ ∀ x ∈ L ++ M, x < n
def DoneW (bo n : Nat) (wd : List Nat → Int) (L : List Nat) (z : Int) (W : World) (e : Ending) (w' : World) : Prop := e = .returned (.tuple #[]) ∧ ∃ z', Turns (fun k => k = bo) W w' ∧ Box w' bo #[.int .i64 z'] 3 ∧ z' ≤ z ∧ (∀ M, Ext1 n L M → z' ≤ wd (L ++ M)) ∧ (z' = z ∨ ∃ M, Ext1 n L M ∧ z' = wd (L ++ M))
/-- What the function does with an order. -/
def DoW (wB : World) (bo n : Nat) (wd : List Nat → Int) (c1 c2 : Value) : Prop := ∀ (W : World) (L : List Nat) (vo : Option Addr) (vc : Nat) (z : Int), Below wB.heap.size wB W → Box W bo #[.int .i64 z] 3 → L.length = n → L.Nodup → (∀ x ∈ L, x < n) → LL W vo L bo → Calls Tryd.prog 35 #[.slice vo n vc, c1, c2] W fun e w' => e = .returned (.tuple #[]) ∧ Turns (fun k => k = bo) W w' ∧ Box w' bo #[.int .i64 (if wd L < z then wd L else z)] 3
theorem getD_take {L : List Nat} {k i : Nat} (h : i < L.length) : k ∈ L.take (i + 1) ↔ k ∈ L.take i ∨ L.getD i 0 = k := by
  rw [List.take_succ_eq_append_getElem h, List.mem_append, List.mem_singleton, List.getD_eq_getElem?_getD, List.getElem?_eq_getElem h]
  simp [eq_comm]
theorem ll_own {W : World} {base g c bok : Nat} {L : List Nat} (h : W.ownsRow base 3 1 (.slice (some ⟨g, 0, none⟩) L.length c) L.length (qv L)) (hb : bok < base) : LL W (some ⟨g, 0, none⟩) L bok := by
  refine ⟨fun j hj => ⟨g, 0, rfl, ?_⟩, fun b off e => ?_⟩
  · have hu : L[j]? = some (L.getD j 0) := by rw [List.getD_eq_getElem?_getD, List.getElem?_eq_getElem hj]; rfl
    obtain ⟨b, e, c⟩ := numsAt_own h j _ hu
    cases e
    rw [Nat.zero_add]; exact c
  · cases e
    have := (h.lt g rfl).1
    omega

theorem wpList_copyNil {W : World} {ops : Array Oper} {rest : List Oper} {o : Oper} {a : Act} {Q : Exit → Act → World → Prop} {vo : Option Addr} {vc : Nat} {L : List Nat} (hgd : o.guard = none) (s y : Operand)
    (ho : o.op = .call { callee := .builtin .append, args := #[s, y], argTypes := #[30, 30] }) (hs : a.eval s = .slice none 0 0) (hy : a.eval y = .slice vo L.length vc)
    (hL : NumF W vo L.length (fun i => (L.getD i 0 : Int))) (hl : L.length ≤ 1000)
    (h : ∀ po pc w', w'.ownsRow W.heap.size 3 1 (.slice po L.length pc) L.length (qv L) → Below W.heap.size W w' → wpList Tryd.prog ops Q rest (a.put o.dst (.slice po L.length pc)) w') :
    wpList Tryd.prog ops Q (o :: rest) a W := by
  obtain ⟨i3, hi3, hy0, hy1, hy2⟩ := info_parts Tryd.info3
  by_cases hl0 : L = []
  · subst hl0
    have hk := h none 0 W (World.ownsRow_nil _ _ _ _) (Below.refl _ _)
    obtain ⟨dst, op, type, pos, after, guard⟩ := o
    simp only at ho hgd hk
    subst ho
    subst hgd
    refine wpList_plain rfl fun K hK => ?_
    have hk' := hK _ _ hk
    clear hk
    unfold Oper.wp
    obtain ⟨ρ, hρ⟩ : ∃ ρ, ρ = a.eval := ⟨_, rfl⟩
    rw [← hρ] at hs hy ⊢
    cases vo with
    | none =>
      simp [go_sem, hs, hy]
      exact hk'
    | some x =>
      simp [go_sem, hs, hy]
      exact hk'
  · have hpos : 0 < L.length := List.length_pos_iff.2 hl0
    obtain ⟨b1, off1, rfl, _⟩ := hL 0 hpos
    refine wpList_append_own _ hgd s y 30 ho W.heap.size 3 i3 (.int .i64 0) 1 8 Tryd.underlying30 hi3 hy0 hy1 hy2 rfl (by decide) (.slice none 0 0) 0 [] hs (World.ownsRow_nil _ _ _ _) ⟨b1, off1, none⟩ L.length vc (qv L) hy (by simp [qv]) ?n1 ?n2 ?n3 ?n4 (Nat.le_refl _) ?_
    case n1 =>
      intro j u hj
      have hjl : j < L.length := by
        by_cases h : j < L.length
        · exact h
        · rw [List.getElem?_eq_none (by simp [qv]; omega)] at hj; cases hj
      obtain ⟨b, off, e, c⟩ := hL j hjl
      cases e
      have : u = .int .i64 (L.getD j 0 : Int) := by
        unfold qv at hj
        rw [List.getElem?_map, List.getElem?_eq_getElem hjl] at hj
        simp at hj
        rw [← hj]
        simp [List.getD_eq_getElem?_getD, List.getElem?_eq_getElem hjl]
      rw [this, show (⟨b1, off1, none⟩ : Addr).add j = ⟨b1, off1 + j, none⟩ from by unfold Addr.add; split <;> simp_all]
      exact c
    case n2 => intro u hu; unfold qv at hu; simp at hu; obtain ⟨x, _, rfl⟩ := hu; rfl
    case n3 => unfold maxLen; omega
    case n4 => omega
    intro v w' h1 h2 _
    simp only [Nat.zero_add, List.nil_append] at h1
    obtain ⟨po, pc, rfl⟩ := form_row h1
    exact h po pc w' h1 ⟨h2.os, h2.tape, h2.output, h2.size, fun k hk => h2.block k hk (by simp [Value.ownBlock])⟩
theorem ext_no {n k : Nat} {L : List Nat} (hk : k ∈ L) (M : List Nat) : ¬ Ext1 n L (k :: M) := fun h => by
  have h2 := h.2.1
  rw [List.nodup_append] at h2
  exact h2.2.2 k hk k (by simp) rfl
theorem ext_cons {n k : Nat} {L M : List Nat} : Ext1 n L (k :: M) ↔ Ext1 n (L ++ [k]) M := by
  unfold Ext1
  rw [List.append_assoc]
  rfl
set_option maxHeartbeats 4000000 in
theorem orders_call {wB : World} {bo n : Nat} {wd : List Nat → Int} {c1 c2 : Value} (hn : n ≤ 100) (hge : wB.heap.size ≤ bo) (hDO : DoW wB bo n wd c1 c2) :
    ∀ (r : Nat) (W : World) (L : List Nat) (vo : Option Addr) (vc : Nat) (z : Int), r + L.length = n → Below wB.heap.size wB W → Box W bo #[.int .i64 z] 3 → L.Nodup → (∀ x ∈ L, x < n) → LL W vo L bo →
      Calls Tryd.prog 56 #[.int .i64 (n : Int), .slice vo L.length vc, .func (.func 35) #[] #[c1, c2]] W (DoneW bo n wd L z W) := by
  have hF := enter35
  have HDO : Hid (DoW wB bo n wd c1 c2) := hDO
  clear hDO
  intro r
  induction r with
  | zero =>
    intro W L vo vc z hr hW hbox hnd hlt hll
    have hlen : L.length = n := by omega
    have HL0 : Hid (L.length = n ∧ L.Nodup ∧ ∀ x ∈ L, x < n) := ⟨hlen, hnd, hlt⟩
    have H35 : Hid (Calls Tryd.prog 35 #[.slice vo n vc, c1, c2] W fun e w' => e = .returned (.tuple #[]) ∧ Turns (fun k => k = bo) W w' ∧ Box w' bo #[.int .i64 (if wd L < z then wd L else z)] 3) := HDO.out W L vo vc z hW hbox hlen hnd hlt hll
    rw [hlen]
    have k1 : ((n : Int) == (n : Int)) = true := by simp
    clear hW hbox hnd hlt hll hlen hr HDO
    go_enter Tryd.func56, Tryd.ntmps56
    go_wp2_with (first | (go_at_call 35; refine Calls.mono H35.out ?_; rintro e W1 ⟨rfl, ht, hb⟩) | go_in)
    go_end0
    have hM : ∀ M, Ext1 n L M → M = [] := fun M hM => by
      have h1 := hM.1
      rw [List.length_append, HL0.out.1] at h1
      exact List.length_eq_zero_iff.1 (by omega)
    refine ⟨rfl, _, ht, hb, by split <;> omega, fun M hM2 => ?_, ?_⟩
    · rw [hM M hM2, List.append_nil]
      split <;> omega
    · by_cases h : wd L < z
      · rw [if_pos h]
        exact Or.inr ⟨[], by unfold Ext1; rw [List.append_nil]; exact HL0.out, by rw [List.append_nil]⟩
      · rw [if_neg h]
        exact Or.inl rfl
  | succ r ih =>
    intro W L vo vc z hr hW hbox hnd hlt hll
    have IH : Hid (∀ (W : World) (L : List Nat) (vo : Option Addr) (vc : Nat) (z : Int), r + L.length = n → Below wB.heap.size wB W → Box W bo #[.int .i64 z] 3 → L.Nodup → (∀ x ∈ L, x < n) → LL W vo L bo →
      Calls Tryd.prog 56 #[.int .i64 (n : Int), .slice vo L.length vc, .func (.func 35) #[] #[c1, c2]] W (DoneW bo n wd L z W)) := ih
    have HBOX : Hid (Box W bo #[.int .i64 z] 3) := hbox
    have HND : Hid (L.Nodup ∧ ∀ x ∈ L, x < n) := ⟨hnd, hlt⟩
    have HLL : Hid (LL W vo L bo) := hll
    have k1 : ((L.length : Int) == (n : Int)) = false := by rw [beq_eq_false_iff_ne]; omega
    clear ih hbox hnd hlt hll HDO
    go_enter Tryd.func56, Tryd.ntmps56
    go_wp2
    go_loopw [6, 7, 8] (fun iv' _ _ wr => ∃ (k : Nat) (z' : Int), k ≤ n ∧ iv' = .int .i64 (k : Int) ∧ Hid (Turns (fun x => x = bo) W wr ∧ Box wr bo #[.int .i64 z'] 3 ∧ z' ≤ z ∧ (∀ v M, v < k → Ext1 n L (v :: M) → z' ≤ wd (L ++ v :: M)) ∧ (z' = z ∨ ∃ M, Ext1 n L M ∧ z' = wd (L ++ M)))) (fun iv' _ _ _ => n - (numOf iv').toNat)
    case atStart => exact ⟨0, z, Nat.zero_le _, rfl, ⟨Turns.refl _ _, HBOX.out, Int.le_refl _, fun v M hv => by omega, Or.inl rfl⟩⟩
    case round =>
      obtain ⟨k, z', hk, rfl, hJ⟩ := hrel
      have ht := hJ.out.1
      have hbo : bo < wr.heap.size := lt_of_block hJ.out.2.1
      have hBr : Below wB.heap.size wB wr := Turns.below hW ht hW.size (fun x hx => by omega)
      by_cases hlt : k < n
      · have j1 : (k : Int) < (n : Int) := by omega
        have HLR : Hid (LL wr vo L bo) := HLL.out.turns ht
        have HJ : Hid _ := hJ.out
        clear hJ
        go_wp2
        generalize hwo : wr = WO at HJ hbo hBr HLR ht ⊢
        clear hwo
        go_loopw [7, 8] (fun ov iv' wr => ∃ i : Nat, i ≤ L.length ∧ iv' = .int .i64 (i : Int) ∧ ov = .bool (decide (k ∉ L.take i)) ∧ wr = WO) (fun _ iv' _ => L.length - (numOf iv').toNat)
        case atStart => exact ⟨0, Nat.zero_le _, rfl, by simp, rfl⟩
        case round =>
          obtain ⟨i, hi, rfl, rfl, hwr⟩ := hrel
          have hwr' := hwr.symm
          clear hwr
          subst hwr'
          by_cases hlti : i < L.length
          · have j2 : (i : Int) < (L.length : Int) := by omega
            have j3 : (0 : Int) ≤ (i : Int) := by omega
            obtain ⟨b, off, rfl, cx⟩ := HLR.out.1 i hlti
            simp only at cx
            have hgt := getD_take (k := k) hlti
            obtain ⟨x, hx⟩ : ∃ x, x = L.getD i 0 := ⟨_, rfl⟩
            rw [← hx] at cx hgt
            by_cases hin : k ∈ L.take i
            · have HNX : Hid (decide (k ∉ L.take (i + 1)) = false) := by show decide _ = false; simp [hgt, hin]
              have e0 : decide (k ∉ L.take i) = false := by simp [hin]
              rw [e0]
              clear hin hgt hx e0
              go_wp2
              go_roundw
              case rel => exact ⟨i + 1, by omega, by go_num, by rw [HNX.out], trivial⟩
              case measure => simp [numOf]; omega
            · have e0 : decide (k ∉ L.take i) = true := by simp [hin]
              rw [e0]
              by_cases hxk : x = k
              · have HNX : Hid (decide (k ∉ L.take (i + 1)) = false) := by show decide _ = false; simp [hgt, hxk]
                have j4 : ((x : Int) != (k : Int)) = false := by simp [hxk]
                clear hin hgt hx e0 hxk
                go_wp2
                go_roundw
                case rel => exact ⟨i + 1, by omega, by go_num, by rw [HNX.out], trivial⟩
                case measure => simp [numOf]; omega
              · have HNX : Hid (decide (k ∉ L.take (i + 1)) = true) := by show decide _ = true; simp [hgt, hin, hxk]
                have j4 : ((x : Int) != (k : Int)) = true := by simp; omega
                clear hin hgt hx e0 hxk
                go_wp2
                go_roundw
                case rel => exact ⟨i + 1, by omega, by go_num, by rw [HNX.out], trivial⟩
                case measure => simp [numOf]; omega
          · have j2 : ¬ (i : Int) < (L.length : Int) := by omega
            have hil : i = L.length := by omega
            by_cases hin : k ∈ L
            · have e0 : decide (k ∉ L.take i) = false := by rw [hil, List.take_length]; simp [hin]
              rw [e0]
              have HN : Hid (∀ v M, v < k + 1 → Ext1 n L (v :: M) → z' ≤ wd (L ++ v :: M)) := fun v M hv hM => by
                by_cases e : v = k
                · subst e; exact absurd hM (ext_no hin M)
                · exact HJ.out.2.2.2.1 v M (by omega) hM
              clear hin e0 hil
              go_wp2
              go_roundw
              case rel => exact ⟨k + 1, z', by omega, by go_num, ⟨HJ.out.1, HJ.out.2.1, HJ.out.2.2.1, HN.out, HJ.out.2.2.2.2⟩⟩
              case measure => simp [numOf]; omega
            · have e0 : decide (k ∉ L.take i) = true := by rw [hil, List.take_length]; simp [hin]
              rw [e0]
              have HNX : Hid ((L ++ [k]).Nodup ∧ ∀ x ∈ L ++ [k], x < n) := by
                refine ⟨?_, fun x hx => ?_⟩
                · rw [List.nodup_append]
                  exact ⟨HND.out.1, by simp, fun a ha b hb => by simp at hb; subst hb; exact fun e => hin (e ▸ ha)⟩
                · rcases List.mem_append.1 hx with h | h
                  · exact HND.out.2 x h
                  · simp at h; omega
              have HL1 : Hid (r + (L ++ [k]).length = n) := by show _ = _; simp; omega
              have HPUSH : Hid (∀ (W1 W3 : World) (po : Option Addr) (pc g c : Nat), Below WO.heap.size WO W1 → W1.ownsRow WO.heap.size 3 1 (.slice po L.length pc) L.length (qv L) → W3.ownsRow WO.heap.size 3 1 (.slice (some ⟨g, 0, none⟩) (L ++ [k]).length c) (L ++ [k]).length (qv (L ++ [k])) → (W1.alloc (Obj.cells #[.int .i64 (k : Int)] 3)).grownBy W3 (Value.slice po L.length pc).ownBlock → Below WO.heap.size WO W3 ∧ Calls Tryd.prog 56 #[.int .i64 (n : Int), .slice (some ⟨g, 0, none⟩) (L ++ [k]).length c, .func (.func 35) #[] #[c1, c2]] W3 (DoneW bo n wd (L ++ [k]) z' W3)) := fun W1 W3 po pc g c h1 h2 h3 h4 => by
                have hb3 : Below WO.heap.size WO W3 := (below_alloc h1 _).grown h4 (below_alloc h1 _).size (fun b hb' => (h2.lt b hb').1)
                exact ⟨hb3, IH.out W3 (L ++ [k]) _ _ z' HL1.out (below_next hBr hb3) ((hb3.block _ hbo).trans HJ.out.2.1) HNX.out.1 HNX.out.2 (ll_own h3 hbo)⟩
              clear hin e0 hil
              have hlL : L.length ≤ 1000 := by omega
              go_wp2_with (first
                | (at_builtin; have hh := HOWN1; clear hh; refine wpList_pushA (l := L) (x := k) rfl _ _ rfl rfl rfl HOWN1.out (by omega) hsz1 ?_; intro g c W3 hown3 hgr3 _; obtain ⟨hb3, h56⟩ := HPUSH.out W1 W3 po pc g c hb1 HOWN1.out hown3 hgr3; have H56 : Hid (Calls Tryd.prog 56 #[.int .i64 (n : Int), .slice (some ⟨g, 0, none⟩) (L ++ [k]).length c, .func (.func 35) #[] #[c1, c2]] W3 (DoneW bo n wd (L ++ [k]) z' W3)) := h56; have hlk : (L ++ [k]).length = L.length + 1 := List.length_append; rw [hlk] at H56; clear hown3 hgr3 h56 hlk)
                | (at_builtin; refine wpList_copyNil (L := L) rfl _ _ rfl rfl rfl HLR.out.1 hlL ?_; intro po pc W1 hown1 hb1; have hsz1 := hb1.size; have HOWN1 : Hid (W1.ownsRow WO.heap.size 3 1 (.slice po L.length pc) L.length (qv L)) := hown1; clear hown1)
                | (go_at_call 56; refine Calls.mono H56.out ?_; rintro e W4 ⟨rfl, z4, ht4, hb4, hz4, ha4, hx4⟩)
                | go_in)
              have HF4 : Hid (Turns (fun x => x = bo) W W4 ∧ Box W4 bo #[.int .i64 z4] 3 ∧ z4 ≤ z ∧ (∀ v M, v < k + 1 → Ext1 n L (v :: M) → z4 ≤ wd (L ++ v :: M)) ∧ (z4 = z ∨ ∃ M, Ext1 n L M ∧ z4 = wd (L ++ M))) := by
                refine ⟨(ht.trans (Turns.of_below hb3 _)).trans ht4, hb4, Int.le_trans hz4 HJ.out.2.2.1, fun v M hv hM => ?_, ?_⟩
                · by_cases e : v = k
                  · subst e
                    have := ha4 M (ext_cons.1 hM)
                    rwa [List.append_assoc] at this
                  · exact Int.le_trans hz4 (HJ.out.2.2.2.1 v M (by omega) hM)
                · rcases hx4 with e | ⟨M, hM, e⟩
                  · rcases HJ.out.2.2.2.2 with e2 | ⟨M, hM, e2⟩
                    · exact Or.inl (e.trans e2)
                    · exact Or.inr ⟨M, hM, e.trans e2⟩
                  · exact Or.inr ⟨k :: M, ext_cons.2 hM, by rw [e, List.append_assoc]; rfl⟩
              go_roundw
              case rel => exact ⟨k + 1, z4, by omega, by go_num, HF4⟩
              case measure => simp [numOf]; omega
      · have j1 : ¬ (k : Int) < (n : Int) := by omega
        obtain rfl : k = n := by omega
        go_wp2
        go_end0
        refine ⟨rfl, z', hJ.out.1, hJ.out.2.1, hJ.out.2.2.1, fun M hM => ?_, hJ.out.2.2.2.2⟩
        cases M with
        | nil =>
          have h1 := hM.1
          rw [List.append_nil] at h1
          omega
        | cons v M => exact hJ.out.2.2.2.1 v M (hM.2.2 v (by simp)) hM
set_option maxHeartbeats 1000000 in
theorem allOrders_call {wB W : World} {bo n : Nat} {wd : List Nat → Int} {c1 c2 : Value} {z : Int} (hn : n ≤ 100) (hge : wB.heap.size ≤ bo) (hDO : DoW wB bo n wd c1 c2) (hW : Below wB.heap.size wB W) (hbox : Box W bo #[.int .i64 z] 3) :
    Calls Tryd.prog 34 #[.int .i64 (n : Int), .func (.func 35) #[] #[c1, c2]] W (DoneW bo n wd [] z W) := by
  have H56 : Hid (Calls Tryd.prog 56 #[.int .i64 (n : Int), .slice none 0 0, .func (.func 35) #[] #[c1, c2]] W (DoneW bo n wd [] z W)) := orders_call hn hge hDO n W [] none 0 z (by simp) hW hbox (by simp) (fun x hx => by cases hx) ⟨fun j hj => absurd hj (Nat.not_lt_zero _), fun b off e => by cases e⟩
  go_enter Tryd.func34, Tryd.ntmps34
  go_wp2_with (first | (go_at_call 56; refine Calls.mono H56.out ?_; rintro e W1 ⟨rfl, ht⟩) | go_in)
  go_end0
  exact ⟨rfl, ht⟩
end Go.Proofs.YtdalconphfgepaaDoor
