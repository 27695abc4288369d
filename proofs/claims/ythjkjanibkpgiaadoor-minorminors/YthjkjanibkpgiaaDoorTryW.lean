/- tryPieces' literal. -/
import Derived.Test.YthjkjanibkpgiaaDoorPieW
import Derived.Test.YthjkjanibkpgiaaDoorNodW
import Derived.Sort.CutIn
namespace Go.Proofs.YthjkjanibkpgiaaDoor
set_option maxRecDepth 8000
open Go.RowKit Go.Maps Go.Shelf
attribute [local go_sem] Oper.semAt_some
theorem leaves_nil {F : Fence} {n : Nat} {P : Program} {fn : Func} {tmps : Array Value} {R : Ending → World → Prop} {w : World} {v : Value} (hr : (results fn tmps).run P w = .ok v w) (h : R (.returned v) w) : LeavesInM F n P fn tmps R [] .returning w := ⟨v, hr, h⟩
abbrev mkD (D : Nat) : Deferred := { target := .collected D, args := #[] }
theorem leaves_one {F : Fence} {n : Nat} {P : Program} {fn : Func} {tmps : Array Value} {R : Ending → World → Prop} {w : World} {v : Value} {D : Nat} (hD : w.heap[D]? = some (.deferred (some []))) (hr : (results fn tmps).run P (w.putObj D (.deferred none)) = .ok v (w.putObj D (.deferred none))) (h : R (.returned v) (w.putObj D (.deferred none))) : LeavesInM F n P fn tmps R [mkD D] .returning w :=
  ⟨by simp, .inl ⟨_, _, rfl, run_takeDeferred hD, v, hr, h⟩⟩
theorem TrP.bool {B bp bq K : Nat} {tog : Nat → Bool} {good : List Nat → Prop} {SeeT : Nat → List Nat → World → Prop} {left : Nat} {P : List Nat} {v : Value} {A : World} {e : Ending} {w' : World} (h : TrP B bp bq K tog good SeeT left P v A e w') :
    ∃ db, e = .returned (.bool db) ∧ Turns (fun k => k = bp ∨ v.ownBlock = some k ∨ k = bq) A w' ∧ Hid ((db = true ∧ ∃ c, Cho tog left.testBit c ∧ (P ++ c).length = K ∧ good (P ++ c) ∧ SeeT A.heap.size (P ++ c) w') ∨ (db = false ∧ (∀ c, Cho tog left.testBit c → (P ++ c).length = K → ¬ good (P ++ c)) ∧ ∃ v', PsV w' B bp v' P ∧ Fresh A.heap.size v v' ∧ Turns (fun k => k = bp ∨ v.ownBlock = some k) A w')) := by
  rcases h with ⟨rfl, c, h1, h2, h3, h4, h5⟩ | ⟨rfl, h1, v', h2, h3, h4⟩
  · exact ⟨true, rfl, h5, Or.inl ⟨rfl, c, h1, h2, h3, h4⟩⟩
  · exact ⟨false, rfl, h4.mono fun k _ hk => by rcases hk with h | h; exact Or.inl h; exact Or.inr (Or.inl h), Or.inr ⟨rfl, h1, v', h2, h3, h4⟩⟩
/-- No choice with one of these pieces will do. -/
def NoW (tog : Nat → Bool) (good : List Nat → Prop) (q L2 K : Nat) (P pre : List Nat) : Prop := ∀ o ∈ pre, tog (q ||| o) = true → ∀ L3 : Nat, (∀ i, L3.testBit i = (L2.testBit i && !o.testBit i)) → ∀ c, Cho tog L3.testBit c → (P ++ (q ||| o) :: c).length = K → ¬ good (P ++ (q ||| o) :: c)
theorem NoW.snoc {tog : Nat → Bool} {good : List Nat → Prop} {q L2 K : Nat} {P pre : List Nat} {o : Nat} (h : NoW tog good q L2 K P pre) (h2 : tog (q ||| o) = true → ∀ L3 : Nat, (∀ i, L3.testBit i = (L2.testBit i && !o.testBit i)) → ∀ c, Cho tog L3.testBit c → (P ++ (q ||| o) :: c).length = K → ¬ good (P ++ (q ||| o) :: c)) : NoW tog good q L2 K P (pre ++ [o]) := fun x hx => by
  rcases List.mem_append.1 hx with hx | hx
  · exact h x hx
  · have e : x = o := by simpa using hx
    subst e; exact h2
theorem Fresh.mono {X X' : Nat} {a b : Value} (h : Fresh X a b) (hx : X' ≤ X) : Fresh X' a b := fun g hg => (h g hg).imp id (fun e => Nat.le_trans hx e)
/-- Either way, as one Boolean. -/
def Two1 (db : Bool) (p q : Prop) : Prop := if db = true then p else q
set_option maxHeartbeats 16000000 in
theorem tr_call {Fx : World → Prop} {B bm bp bs bt bf tb bn bw bq Z N K : Nat} {tog : Nat → Bool} {good : List Nat → Prop} {SeeT : Nat → List Nat → World → Prop} (hF : TrF Fx B bm bp bs bt bf tb bn bw bq Z N K tog good SeeT) :
    ∀ (k left : Nat) (P : List Nat) (v : Value) (A : World), (bl left).length < k → left < 2 ^ N → Fx A → PsV A B bp v P → P.length ≤ K → (∀ p ∈ P, p < 2 ^ N) →
      Calls Tryd.prog 37 #[.int .u32 (left : Int), ptr bm, ptr bp, ptr bs, ptr bt, ptr bf] A fun e w' => TrP B bp bq K tog good SeeT left P v A e w' := by
  have HF : Hid (TrF Fx B bm bp bs bt bf tb bn bw bq Z N K tog good SeeT) := hF
  clear hF
  have hE21 := enter21
  have hE37 := enter37
  intro k
  induction k with
  | zero => intro left P v A h; omega
  | succ k ih =>
  intro left P v A hk hl hFx hP hPK hPl
  have IH : Hid _ := ih
  clear ih
  have h1024 : (2 : Nat) ^ N ≤ 1024 := Nat.pow_le_pow_right (by decide) HF.out.hN
  have hl10 : left < 1024 := Nat.lt_of_lt_of_le hl h1024
  have HP : Hid (PsV A B bp v P) := hP
  have HFx : Hid (Fx A) := hFx
  obtain ⟨⟨vo, vc, hv⟩, _⟩ := id hP
  obtain ⟨pl, hpl⟩ : ∃ pl, pl = P.length := ⟨_, rfl⟩
  rw [← hpl] at hv
  obtain ⟨m, hm⟩ : ∃ m, K = pl + m := ⟨K - pl, by omega⟩
  have hK6 := HF.out.hK
  obtain ⟨W1, hW1⟩ : ∃ W1, W1 = (A.alloc (Obj.cells #[.int .u32 (left : Int)] 53)).alloc (Obj.cells #[.bool false] 4) := ⟨_, rfl⟩
  obtain ⟨b6, hb6⟩ : ∃ b6, b6 = A.heap.size := ⟨_, rfl⟩
  obtain ⟨b7, hb7⟩ : ∃ b7, b7 = A.heap.size + 1 := ⟨_, rfl⟩
  have hB1 : Below A.heap.size A W1 := by rw [hW1]; exact below_alloc (below_alloc (Below.refl _ A) _) _
  have o6 : One W1 b6 (.int .u32 (left : Int)) 53 := by rw [hW1, hb6]; exact one_alloc' (heap_alloc_new _ _) _
  have o7 : One W1 b7 (.bool false) 4 := by
    rw [hW1, hb7]
    have := heap_alloc_new (A.alloc (Obj.cells #[.int .u32 (left : Int)] 53)) (Obj.cells #[.bool false] 4)
    rw [show (A.alloc (Obj.cells #[.int .u32 (left : Int)] 53)).heap.size = A.heap.size + 1 by simp] at this
    exact this
  have hs1 : W1.heap.size = A.heap.size + 2 := by rw [hW1]; simp
  have hFx1 : Fx W1 := HF.out.keep _ _ hFx (Turns.of_below hB1 _)
  have hP1 : PsV W1 B bp v P := hP.below (Turns.of_below hB1 (fun _ => False)) (fun h => h) (fun _ _ h => h)
  have c1 : W1.cell? ⟨bm, 0, none⟩ = some (.int .i64 (K : Int)) := box_cell (i := 0) (HF.out.m W1 hFx1) rfl
  have c2 : W1.cell? ⟨bp, 0, none⟩ = some (.slice vo pl vc) := by rw [← hv]; exact box_cell (i := 0) hP1.2.1 rfl
  have c3 : W1.cell? ⟨bs, 0, none⟩ = some (.func (.func 21) #[] #[ptr bn, ptr bw, ptr bq]) := box_cell (i := 0) (HF.out.s W1 hFx1) rfl
  have c6 : W1.cell? ⟨b6, 0, none⟩ = some (.int .u32 (left : Int)) := box_cell (i := 0) o6 rfl
  have c7 : W1.cell? ⟨b7, 0, none⟩ = some (.bool false) := box_cell (i := 0) o7 rfl
  have f7 : W1.frozen? ⟨b7, 0, none⟩ = false := one_free o7
  have HW1 : Hid (Below A.heap.size A W1 ∧ One W1 b6 (.int .u32 (left : Int)) 53 ∧ One W1 b7 (.bool false) 4 ∧ W1.heap.size = A.heap.size + 2 ∧ Fx W1 ∧ PsV W1 B bp v P ∧ b6 = A.heap.size ∧ b7 = A.heap.size + 1 ∧ B ≤ A.heap.size) := ⟨hB1, o6, o7, hs1, hFx1, hP1, hb6, hb7, HF.out.sz _ hFx⟩
  have HL : Hid ((bl left).length ≤ k ∧ left < 2 ^ N ∧ 2 ^ N ≤ 1024 ∧ P.length ≤ K ∧ (∀ p ∈ P, p < 2 ^ N) ∧ pl = P.length ∧ K = pl + m ∧ v = .slice vo pl vc) := ⟨by omega, hl, h1024, hPK, hPl, hpl, hm, hv⟩
  have hwr : wrap64 ((K : Int) - (pl : Int)) = (m : Int) := by
    unfold wrap64
    omega
  clear hB1 o6 o7 hs1 hFx1 hP1 hk hl h1024 hPK hPl hpl hP hFx hv
  refine (callsIn_wide (n := 8)).1 (callsIn_of_wp_marks Tryd.func37 rfl trivial ?_ rfl)
  refine wpIn_wide.2 ?_
  simp only [Tryd.ntmps37, List.size_toArray, List.length_cons, List.length_nil, Nat.reduceAdd, Nat.reduceSub, Array.replicate_succ, Array.replicate_zero, List.push_toArray, List.append_toArray, List.nil_append, List.cons_append]
  go_upto_region 1 with (fail)
  rw [← hW1, ← hb7, ← hb6]
  clear hW1 hb6 hb7
  by_cases hm0 : m = 0
  · have hmm : (m : Int) = 0 := by omega
    have km : ((m : Int) == 0) = true := by simp; omega
    have C21 : Hid (Calls Tryd.prog 21 #[.slice vo pl vc, ptr bn, ptr bw, ptr bq] W1 fun e w' => ∃ db, e = .returned (.bool db) ∧ Turns (fun k => k = bq) W1 w' ∧ Hid (Two1 db (good P ∧ SeeT W1.heap.size P w') (¬ good P ∧ Below W1.heap.size W1 w'))) := by
      rw [← HL.out.2.2.2.2.2.2.2]
      refine (HF.out.see W1 v P HW1.out.2.2.2.2.1 HW1.out.2.2.2.2.2.1 (by have := HL.out.2.2.2.2.2.1; have := HL.out.2.2.2.2.2.2.1; omega) HL.out.2.2.2.2.1).mono ?_
      rintro e w' (⟨rfl, g1, g2, g3⟩ | ⟨rfl, g1, g2⟩)
      · exact ⟨true, rfl, g3, g1, g2⟩
      · exact ⟨false, rfl, Turns.of_below g2 _, g1, g2⟩
    have hbq : ¬ b7 = bq := by have := HF.out.hbq; have := HW1.out; omega
    have HM : Hid (m = 0) := hm0
    clear hm0 hm
    go_upto_region 3 with (fail)
    go_wp2_with (first | (go_at_call 21; refine Calls.mono C21.out ?_; rintro e w2 ⟨db, rfl, ht, hg⟩; have c7' := cell_turns c7 ht hbq; have f7' := one_free (one_turns HW1.out.2.2.1 ht hbq)) | fail)
    refine leaves_nil (v := .bool db) ?_ ?_
    · have e7 : (w2.setCell ⟨b7, 0, none⟩ (.bool db)).cell? ⟨b7, 0, none⟩ = some (.bool db) := World.cell?_setCell_same' _ _ _ (by rw [c7']; rfl)
      simp [results, Tryd.results37, go_sem, e7]
    · have hlen : ∀ c : List Nat, (P ++ c).length = K → c = [] := fun c hc => by
        have := HL.out.2.2.2.2.2.1; have := HL.out.2.2.2.2.2.2.1; have := HM.out
        rw [List.length_append] at hc
        exact List.length_eq_zero_iff.1 (by omega)
      have hKP : (P ++ []).length = K := by
        have := HL.out.2.2.2.2.2.1; have := HL.out.2.2.2.2.2.2.1; have := HM.out
        rw [List.append_nil]; omega
      have hts := setCell_turns w2 b7 0 (.bool db)
      have hx := HW1.out
      have htA : Turns (fun k => k = bq) A w2 := (Turns.of_below hx.1 _).trans ht
      cases db with
      | true =>
        obtain ⟨g1, g2⟩ : good P ∧ SeeT W1.heap.size P w2 := hg.out
        refine Or.inl ⟨rfl, [], trivial, hKP, by rw [List.append_nil]; exact g1, ?_, ?_⟩
        · rw [List.append_nil]
          exact HF.out.seeM _ _ _ _ (HF.out.seeK _ _ _ _ g2 ht.size (hts.mono fun k _ e => Or.inr ⟨by have := hx; omega, by have := hx; omega⟩)) (by omega)
        · exact (htA.next hts (fun i hi e => by omega)).mono fun k _ e => Or.inr (Or.inr e)
      | false =>
        obtain ⟨g1, g2⟩ : ¬ good P ∧ Below W1.heap.size W1 w2 := hg.out
        refine Or.inr ⟨rfl, fun c _ hc => ?_, v, ?_, Fresh.refl _ _, ?_⟩
        · rw [hlen c hc, List.append_nil]; exact g1
        · have hp2 : PsV w2 B bp v P := hx.2.2.2.2.2.1.below (Turns.of_below g2 (fun _ => False)) (fun h => h) (fun _ _ h => h)
          refine hp2.below hts (by have := HF.out.hbp; omega) (fun g hg' e => ?_)
          have := (HP.out.2.2.lt g hg').2
          omega
        · have : Turns (fun _ => False) A w2 := Turns.of_below (below_next hx.1 g2) _
          exact (this.next hts (fun i hi e => by omega)).mono fun k _ e => e.elim
  · have km : ((m : Int) == 0) = false := by simp; omega
    have kmm : ¬ (m : Int) = 0 := by omega
    obtain ⟨sz, hsz⟩ : ∃ q, q = (bl left).length := ⟨_, rfl⟩
    have C38 : Hid (∀ D : World, Calls Tryd.prog 38 #[.int .u32 (left : Int)] D fun e w' => e = .returned (.int .i64 (sz : Int)) ∧ Below D.heap.size D w') := fun D => by
      rw [hsz]
      refine (size_call left (by omega) D).mono ?_
      rintro e w' ⟨h1, q, rfl⟩
      exact ⟨h1, drewN_below _ _⟩
    have hszk : sz ≤ 32 := by rw [hsz]; exact bl_len_le _
    have HS : Hid (sz = (bl left).length) := hsz
    have HM : Hid (m ≠ 0) := hm0
    clear hsz hm0 hm
    by_cases hsm : sz < m
    · have ks : (sz : Int) < (m : Int) := by omega
      go_wp2_with (first | (go_at_call 38; refine Calls.mono (C38.out _) ?_; rintro e w2 ⟨rfl, h2⟩; have c7' := (h2.cell (World.block_lt_of_cell? _ _ c7)).trans c7; have f7' : w2.frozen? ⟨b7, 0, none⟩ = false := one_free (one_turns HW1.out.2.2.1 (Turns.of_below h2 (fun _ => False)) (fun h => h))) | fail)
      refine leaves_nil (v := .bool false) ?_ ?_
      · have e7 : (w2.setCell ⟨b7, 0, none⟩ (.bool false)).cell? ⟨b7, 0, none⟩ = some (.bool false) := World.cell?_setCell_same' _ _ _ (by rw [c7']; rfl)
        simp [results, Tryd.results37, go_sem, e7]
      · have hx := HW1.out
        have hts := setCell_turns w2 b7 0 (.bool false)
        refine Or.inr ⟨rfl, fun c hc hl => ?_, v, ?_, Fresh.refl _ _, ?_⟩
        · exfalso
          have hlb : ∀ i, left.testBit i = true → i < 10 := fun i hi => bit_lt (show left < 2 ^ 10 from hl10) hi
          have h1 := cho_len (fun i hi => Nat.lt_trans (hlb i hi) (by decide)) (fun p hp => Nat.lt_trans (cho_lt hlb hc p hp) (by decide)) hc
          have h2 := HS.out
          have h3 := cntB_bl left
          have := HL.out.2.2.2.2.2.1; have := HL.out.2.2.2.2.2.2.1
          rw [List.length_append] at hl
          omega
        · have hp2 : PsV w2 B bp v P := hx.2.2.2.2.2.1.below (Turns.of_below h2 (fun _ => False)) (fun h => h) (fun _ _ h => h)
          refine hp2.below hts (by have := HF.out.hbp; omega) (fun g hg' e => ?_)
          have := (HP.out.2.2.lt g hg').2
          omega
        · have : Turns (fun _ => False) A w2 := Turns.of_below (below_next hx.1 h2) _
          exact (this.next hts (fun i hi e => by omega)).mono fun k _ e => e.elim
    · have ks : ¬ (sz : Int) < (m : Int) := by omega
      have hl0 : left ≠ 0 := fun e => by
        have h1 := HS.out; rw [e, bl_zero] at h1
        have h2 := HM.out
        simp at h1
        omega
      obtain ⟨d1, d2, d3⟩ := ctz_bits hl0 (show left < 4294967296 by omega)
      have d4 := ctz_low hl0 (show left < 4294967296 by omega)
      obtain ⟨u, hu⟩ : ∃ u, u = Lib.ctz 32 left := ⟨_, rfl⟩
      rw [← hu] at d1 d2 d3 d4
      have huN : u < N := bit_lt HL.out.2.1 d1
      have C39 : Hid (∀ D, T32 D → Calls Tryd.prog 39 #[.int .u32 (left : Int)] D fun e w' => e = .returned (.int .i64 (u : Int)) ∧ w' = D) := fun D hD => by
        rw [hu]
        exact least_call left (by omega) hD
      obtain ⟨q, hq⟩ : ∃ q, q = 2 ^ u := ⟨_, rfl⟩
      have hq10 : q < 1024 := by rw [hq]; exact Nat.pow_lt_pow_right (m := u) (n := 10) (by decide) (by have := HF.out.hN; omega)
      have C34 : Hid (∀ D : World, Calls Tryd.prog 34 #[.int .i64 (u : Int)] D fun e w' => e = .returned (.int .u32 (q : Int)) ∧ w' = D) := fun D => by
        rw [hq]
        exact only_call d3
      obtain ⟨L2, hL2⟩ : ∃ r, r = left &&& (4294967295 - q) := ⟨_, rfl⟩
      have a4 : bits BinOp.andNot IntKind.u32 (left : Int) (q : Int) = (L2 : Int) := by rw [u32_andNot_nat left q (by omega) (by omega), hL2]
      have hL2b : L2.testBit = outB left.testBit u := by rw [hL2, hq]; exact andNot_bits (by omega) d3
      have hL2l : L2 < 2 ^ N := by rw [hL2]; exact Nat.lt_of_le_of_lt Nat.and_le_left HL.out.2.1
      have hL210 : L2 < 1024 := Nat.lt_of_lt_of_le hL2l HL.out.2.2.1
      have hbl2 : (bl L2).length < (bl left).length := by
        have := cntB_strict (L := left.testBit) (L' := L2.testBit) (u := u) (fun i hi => by
          rw [hL2b] at hi; unfold outB at hi; rw [Bool.and_eq_true] at hi; exact hi.1) d3 (by rw [hL2b]; unfold outB; simp) d1
        rw [cntB_bl, cntB_bl] at this
        omega
      have HU : Hid (u < 32 ∧ u < N ∧ left.testBit u = true ∧ L2.testBit = outB left.testBit u ∧ (∀ x, x < u → left.testBit x = false) ∧ q = 2 ^ u ∧ L2 < 2 ^ N ∧ (bl L2).length < k ∧ left < 1024) := ⟨d3, huN, d1, hL2b, d4, hq, hL2l, by have := HL.out.1; omega, hl10⟩
      clear d1 d2 d3 d4 hu hl0 huN hq hL2 hL2b hL2l hbl2 hsm
      go_upto_region 6 with (first | (go_at_call 38; refine Calls.mono (C38.out _) ?_; rintro e w2 ⟨rfl, h2⟩) | fail)
      have hx := HW1.out
      have hB2 : Below A.heap.size A w2 := below_next hx.1 h2
      have o6 : One w2 b6 (.int .u32 (left : Int)) 53 := one_turns hx.2.1 (Turns.of_below h2 (fun _ => False)) (fun h => h)
      have o7 : One w2 b7 (.bool false) 4 := one_turns hx.2.2.1 (Turns.of_below h2 (fun _ => False)) (fun h => h)
      have HT2 : Hid (T32 w2) := (HF.out.tab _ hx.2.2.2.2.1).below h2
      have hsz2 : A.heap.size + 2 ≤ w2.heap.size := by rw [← hx.2.2.2.1]; exact h2.size
      have HW2 : Hid (Below A.heap.size A w2 ∧ One w2 b6 (.int .u32 (left : Int)) 53 ∧ One w2 b7 (.bool false) 4 ∧ A.heap.size + 2 ≤ w2.heap.size ∧ b6 = A.heap.size ∧ b7 = A.heap.size + 1 ∧ B ≤ A.heap.size) := ⟨hB2, o6, o7, hsz2, hx.2.2.2.2.2.2⟩
      clear c1 c2 c3 c6 c7 f7 C38 hB2 hsz2 HW1 hx h2 o7
      have c6 : w2.cell? ⟨b6, 0, none⟩ = some (.int .u32 (left : Int)) := box_cell (i := 0) o6 rfl
      clear o6
      go_upto_region 7 with (first | (go_at_call 39; refine Calls.mono (C39.out _ HT2.out) ?_; rintro e w3 ⟨rfl, rfl⟩) | (go_at_call 34; refine Calls.mono (C34.out _) ?_; rintro e w3 ⟨rfl, rfl⟩) | fail)
      have HW2 : Hid (Below A.heap.size A w3 ∧ One w3 b6 (.int .u32 (left : Int)) 53 ∧ One w3 b7 (.bool false) 4 ∧ A.heap.size + 2 ≤ w3.heap.size ∧ b6 = A.heap.size ∧ b7 = A.heap.size + 1 ∧ B ≤ A.heap.size) := HW2
      obtain ⟨b9, hb9⟩ : ∃ b, b = w3.heap.size := ⟨_, rfl⟩
      have o9 : One (w3.alloc (Obj.cells #[.int .u32 (q : Int)] 53)) b9 (.int .u32 (q : Int)) 53 := by rw [hb9]; exact heap_alloc_new _ _
      have hBa : Below w3.heap.size w3 (w3.alloc (Obj.cells #[.int .u32 (q : Int)] 53)) := below_alloc (Below.refl _ w3) _
      have hb6l : b6 < b9 := by have := HW2.out; omega
      rw [← hb9]
      generalize w3.alloc (Obj.cells #[.int .u32 (q : Int)] 53) = w4 at *
      have o6 : One w4 b6 (.int .u32 (left : Int)) 53 := one_turns HW2.out.2.1 (Turns.of_below hBa (fun _ => False)) (fun h => h)
      have c6 : w4.cell? ⟨b6, 0, none⟩ = some (.int .u32 (left : Int)) := box_cell (i := 0) o6 rfl
      have f6 := one_free o6
      have c9 : w4.cell? ⟨b9, 0, none⟩ = some (.int .u32 (q : Int)) := box_cell (i := 0) o9 rfl
      have HW4 : Hid (Below A.heap.size A w4 ∧ One w4 b6 (.int .u32 (left : Int)) 53 ∧ One w4 b7 (.bool false) 4 ∧ One w4 b9 (.int .u32 (q : Int)) 53 ∧ b9 < w4.heap.size ∧ A.heap.size + 2 ≤ b9 ∧ b6 = A.heap.size ∧ b7 = A.heap.size + 1 ∧ B ≤ A.heap.size) := ⟨below_next HW2.out.1 hBa, o6, one_turns HW2.out.2.2.1 (Turns.of_below hBa (fun _ => False)) (fun h => h), o9, lt_of_block o9, by have := HW2.out; omega, by have := HW2.out; omega, by have := HW2.out; omega, by have := HW2.out; omega⟩
      clear HT2 HW2 hBa hb9 o6 o9 C39 C34 hb6l
      go_upto_region 8 with (fail)
      have hts := setCell_turns w4 b6 0 (.int .u32 (L2 : Int))
      have o6 : One (w4.setCell ⟨b6, 0, none⟩ (.int .u32 (L2 : Int))) b6 (.int .u32 (L2 : Int)) 53 := box_set HW4.out.2.1 0 (.int .u32 (L2 : Int))
      generalize w4.setCell ⟨b6, 0, none⟩ (.int .u32 (L2 : Int)) = w5 at *
      have hx := HW4.out
      have HW5 : Hid (Turns (fun _ => False) A w5 ∧ One w5 b6 (.int .u32 (L2 : Int)) 53 ∧ One w5 b7 (.bool false) 4 ∧ One w5 b9 (.int .u32 (q : Int)) 53 ∧ b9 < w5.heap.size ∧ A.heap.size + 2 ≤ b9 ∧ b6 = A.heap.size ∧ b7 = A.heap.size + 1 ∧ B ≤ A.heap.size) := ⟨(Turns.of_below hx.1 (fun _ => False)).next hts (fun i hi e => by omega), o6, one_turns hx.2.2.1 hts (by omega), one_turns hx.2.2.2.1 hts (by omega), Nat.lt_of_lt_of_le hx.2.2.2.2.1 hts.size, by omega, by omega, by omega, by omega⟩
      clear c6 f6 c9 hts HW4 hx
      have c6 : w5.cell? ⟨b6, 0, none⟩ = some (.int .u32 (L2 : Int)) := box_cell (i := 0) o6 rfl
      clear o6
      go_wp2_with (first | (go_at_call 40; refine Calls.mono parts_call ?_; rintro e w6 ⟨⟨bx, rfl, hbx, ox⟩, h6⟩) | fail)
      have hx := HW5.out
      have hT6 : Turns (fun _ => False) w5 w6 := Turns.of_below h6 _
      have HW6 : Hid (Turns (fun _ => False) A w6 ∧ One w6 b6 (.int .u32 (L2 : Int)) 53 ∧ One w6 b7 (.bool false) 4 ∧ One w6 b9 (.int .u32 (q : Int)) 53 ∧ One w6 bx (.int .u32 (L2 : Int)) 53 ∧ b9 < w6.heap.size ∧ bx < w6.heap.size ∧ A.heap.size + 2 ≤ b9 ∧ A.heap.size + 2 ≤ bx ∧ b6 = A.heap.size ∧ b7 = A.heap.size + 1 ∧ B ≤ A.heap.size ∧ bp < B ∧ bq < B ∧ bq ≠ bp) :=
        ⟨hx.1.trans hT6, one_turns hx.2.1 hT6 (fun h => h), one_turns hx.2.2.1 hT6 (fun h => h), one_turns hx.2.2.2.1 hT6 (fun h => h), ox, Nat.lt_of_lt_of_le hx.2.2.2.2.1 h6.size, lt_of_block ox, by omega, by omega, by omega, by omega, by omega, HF.out.hbp, HF.out.hbq.1, HF.out.hbq.2⟩
      clear h6 hx hT6 hbx ox HW5 c6
      have HVO : Hid (∀ g, v.ownBlock = some g → B ≤ g ∧ g < A.heap.size) := HP.out.2.2.lt
      have HVF : Hid (∀ v', Fresh (w6.heap.size + 2) v v' → ∀ g, v'.ownBlock = some g → (v.ownBlock = some g ∧ g < A.heap.size) ∨ w6.heap.size + 2 ≤ g) := fun v' hf g hg => by
        rcases hf g hg with h | h
        · exact Or.inl ⟨h, (HVO.out g h).2⟩
        · exact Or.inr h
      have HKP : Hid (∀ W, Turns (fun k => k = bp ∨ v.ownBlock = some k) w6 W → Fx W ∧ One W b6 (.int .u32 (L2 : Int)) 53 ∧ One W b7 (.bool false) 4 ∧ One W b9 (.int .u32 (q : Int)) 53 ∧ One W bx (.int .u32 (L2 : Int)) 53) := fun W hW => by
        have hx := HW6.out
        have hn : ∀ b, A.heap.size ≤ b → ¬ (b = bp ∨ v.ownBlock = some b) := fun b hb h => by
          rcases h with h | h
          · omega
          · have := (HVO.out b h).2; omega
        refine ⟨HF.out.keep _ _ HFx.out (((hx.1.mono fun _ _ h => h.elim).trans (hW.mono fun k _ hk => ?_))), one_turns hx.2.1 hW (hn _ (by omega)), one_turns hx.2.2.1 hW (hn _ (by omega)), one_turns hx.2.2.2.1 hW (hn _ (by omega)), one_turns hx.2.2.2.2.1 hW (hn _ (by omega))⟩
        rcases hk with h | h
        · exact Or.inl h
        · exact Or.inr (HVO.out k h).1
      refine wpIn_wide.1 (range_parts (n := 8) (S := L2) (bp := bx) (by omega) (by omega) (by have := HU.out; have := HL.out.2.2.1; omega) rfl
        (fun pre W => ∃ v', PsV W B bp v' P ∧ Fresh (w6.heap.size + 2) v v' ∧ Turns (fun k => k = bp ∨ v.ownBlock = some k) w6 W ∧ NoW tog good q L2 K P pre)
        (fun W => (∃ c, Cho tog left.testBit c ∧ (P ++ c).length = K ∧ good (P ++ c) ∧ SeeT (w6.heap.size + 2) (P ++ c) W) ∧ One W b7 (.bool true) 4 ∧ Turns (fun k => k = bp ∨ v.ownBlock = some k ∨ k = bq ∨ k = b7) w6 W ∧ w6.heap.size + 2 ≤ W.heap.size) ?hI ?hIx ?hc ?h0
        (fun x => { tmps := #[.int .u32 (left : Int), ptr bm, ptr bp, ptr bs, ptr bt, ptr bf, ptr b6, ptr b7, .int .i64 (m : Int), ptr b9, .int .u32 (x : Int), .int .i64 (K : Int), .slice vo pl vc, .int .i64 (pl : Int), .int .i64 (m : Int), .int .i64 (m : Int), .bool false, undef, undef, undef, .int .u32 (left : Int), .int .i64 (sz : Int), .int .i64 (m : Int), .bool false, .int .u32 (left : Int), .int .i64 (u : Int), .int .u32 (q : Int), .int .u32 (left : Int), .int .u32 (q : Int), .int .u32 (L2 : Int), .int .u32 (L2 : Int), .func (.func 50) #[] #[ptr bx], .int .u32 (x : Int), undef, undef, undef, undef, undef, undef, undef, undef, undef, undef, undef, undef, undef, undef, undef, undef, undef, undef, undef, undef, undef, undef, undef, undef, undef, undef], defers := [] }) ?assign ?body ?done ?stop)
      case hI =>
        rintro pre A' B' hs ⟨v', p1, p2, p3, p4⟩ hT
        have hx := HW6.out
        refine ⟨v', p1.below hT (fun h => by have := h.1; omega) (fun g hg h => ?_), p2, p3.next hT (fun i hi h => by have := h.1; omega), p4⟩
        have h1 := h.1
        have h2 := h.2
        rcases HVF.out v' p2 g hg with e | e <;> omega
      case hIx =>
        rintro A' B' hs ⟨⟨c, p1, p2, p3, p4⟩, p5, p6, p7⟩ hT
        have hx := HW6.out
        refine ⟨⟨c, p1, p2, p3, HF.out.seeK _ _ _ _ p4 hs (hT.mono fun k _ h => Or.inr ⟨by have := h.1; omega, h.2⟩)⟩, one_turns p5 hT (fun h => by have := h.1; omega), p6.next hT (fun i hi h => by have := h.1; omega), Nat.le_trans p7 hT.size⟩
      case hc =>
        rintro pre A' ⟨v', p1, p2, p3, p4⟩
        exact box_cell (i := 0) (HKP.out A' p3).2.2.2.2 rfl
      case h0 =>
        have hx := HW6.out
        exact ⟨v, HP.out.below hx.1 (fun h => h) (fun _ _ h => h), Fresh.refl _ _, Turns.refl _ _, fun o ho => by cases ho⟩
      case assign =>
        intro l x W Q hQ
        gi_wp2
        exact hQ
      case done =>
        rintro D W hD ⟨v', p1, p2, p3, p4⟩ hDW
        have hx := HW6.out
        obtain ⟨hFW, o6, o7, o9, obx⟩ := HKP.out W p3
        have C37 : Hid (Calls Tryd.prog 37 #[.int .u32 (L2 : Int), ptr bm, ptr bp, ptr bs, ptr bt, ptr bf] W fun e w' => ∃ db, e = .returned (.bool db) ∧ Turns (fun k => k = bp ∨ v'.ownBlock = some k ∨ k = bq) W w' ∧ Hid ((db = true ∧ ∃ c, Cho tog L2.testBit c ∧ (P ++ c).length = K ∧ good (P ++ c) ∧ SeeT W.heap.size (P ++ c) w') ∨ (db = false ∧ (∀ c, Cho tog L2.testBit c → (P ++ c).length = K → ¬ good (P ++ c)) ∧ ∃ v'', PsV w' B bp v'' P ∧ Fresh W.heap.size v' v'' ∧ Turns (fun k => k = bp ∨ v'.ownBlock = some k) W w'))) :=
          (IH.out L2 P v' W HU.out.2.2.2.2.2.2.2.1 HU.out.2.2.2.2.2.2.1 hFW p1 HL.out.2.2.2.1 HL.out.2.2.2.2.1).mono fun e w' h => h.bool
        have cf : W.cell? ⟨bf, 0, none⟩ = some (.func (.func 37) #[] #[ptr bm, ptr bp, ptr bs, ptr bt, ptr bf]) := box_cell (i := 0) (HF.out.f W hFW) rfl
        have c6 : W.cell? ⟨b6, 0, none⟩ = some (.int .u32 (L2 : Int)) := box_cell (i := 0) o6 rfl
        have hn7 : ¬ (b7 = bp ∨ v'.ownBlock = some b7 ∨ b7 = bq) := fun h => by
          rcases h with h | h | h
          · omega
          · rcases HVF.out v' p2 b7 h with e | e <;> omega
          · omega
        have hnD : ¬ (D = bp ∨ v'.ownBlock = some D ∨ D = bq) := fun h => by
          rcases h with h | h | h
          · omega
          · rcases HVF.out v' p2 D h with e | e <;> omega
          · omega
        have HDD : Hid (D = w6.heap.size ∧ One W b7 (.bool false) 4 ∧ W.heap[D]? = some (.deferred (some [])) ∧ ¬ (b7 = bp ∨ v'.ownBlock = some b7 ∨ b7 = bq) ∧ ¬ (D = bp ∨ v'.ownBlock = some D ∨ D = bq)) := ⟨hD, o7, hDW, hn7, hnD⟩
        have HPW : Hid (PsV W B bp v' P ∧ Fresh (w6.heap.size + 2) v v' ∧ Turns (fun k => k = bp ∨ v.ownBlock = some k) w6 W ∧ NoW tog good q L2 K P (subsR 10 L2)) := ⟨p1, p2, p3, p4⟩
        have HX : Hid _ := hx
        clear hFW o6 o7 o9 obx p1 p2 p3 p4 hD hDW hn7 hnD hx
        go_wp2_with (first | (go_at_call 37; refine Calls.mono C37.out ?_; rintro e w8 ⟨db, rfl, ht, hg⟩; have c7' := cell_turns (box_cell (i := 0) HDD.out.2.1 rfl) ht HDD.out.2.2.2.1; have f7' := one_free (one_turns HDD.out.2.1 ht HDD.out.2.2.2.1)) | fail)
        have hx := HX.out
        obtain ⟨hD, o7, hDW, hn7, hnD⟩ := HDD.out
        have hDl : D < W.heap.size := (Array.getElem?_eq_some_iff.1 hDW).1
        have hbD : b7 ≠ D := by omega
        have hts := setCell_turns w8 b7 0 (.bool db)
        have o8 : One (w8.setCell ⟨b7, 0, none⟩ (.bool db)) b7 (.bool db) 4 := box_set (one_turns o7 ht hn7) 0 (.bool db)
        have hD8 : (w8.setCell ⟨b7, 0, none⟩ (.bool db)).heap[D]? = some (.deferred (some [])) := (hts.block D (Nat.lt_of_lt_of_le hDl ht.size) (fun e => hbD e.symm)).trans ((ht.block D hDl hnD).trans hDW)
        refine leaves_one (v := .bool db) hD8 ?_ ?_
        · have o9 : One ((w8.setCell ⟨b7, 0, none⟩ (.bool db)).putObj D (.deferred none)) b7 (.bool db) 4 := (World.putObj_heap_other hbD).trans o8
          have e7 := box_cell (i := 0) o9 rfl
          simp [results, Tryd.results37, go_sem, e7]
        · have hgr := grownBy_putObj' (w8.setCell ⟨b7, 0, none⟩ (.bool db)) D (.deferred none)
          have hTD : Turns (fun k => k = D) (w8.setCell ⟨b7, 0, none⟩ (.bool db)) ((w8.setCell ⟨b7, 0, none⟩ (.bool db)).putObj D (.deferred none)) := (Turns.of_grown hgr).mono fun k _ h => by simpa using h
          have hTT : Turns (fun k => k = b7 ∨ k = D) w8 ((w8.setCell ⟨b7, 0, none⟩ (.bool db)).putObj D (.deferred none)) := (hts.mono fun k _ h => Or.inl h).trans (hTD.mono fun k _ h => Or.inr h)
          generalize (w8.setCell ⟨b7, 0, none⟩ (.bool db)).putObj D (.deferred none) = w9 at *
          obtain ⟨p1, p2, p3, p4⟩ := HPW.out
          have hAW : Turns (fun k => k = bp ∨ v.ownBlock = some k) A W := (hx.1.mono fun _ _ h => h.elim).next p3 (fun i hi h => h)
          rcases hg.out with ⟨rfl, c, g1, g2, g3, g4⟩ | ⟨rfl, g1, v'', g2, g3, g4⟩
          · refine Or.inl ⟨rfl, c, cho_out HU.out.2.2.2.1 g1, g2, g3, HF.out.seeM _ _ _ _ (HF.out.seeK _ _ _ _ g4 ht.size (hTT.mono fun k _ h => Or.inr ⟨by omega, by omega⟩)) (by have := hAW.size; omega), ?_⟩
            refine ((hAW.mono fun k _ h => ?_).next ht (fun i hi h => ?_)).next hTT (fun i hi h => by omega)
            · rcases h with h | h
              · exact Or.inl h
              · exact Or.inr (Or.inl h)
            · rcases h with h | h | h
              · exact Or.inl h
              · rcases HVF.out v' p2 i h with e | e
                · exact Or.inr (Or.inl e.1)
                · omega
              · exact Or.inr (Or.inr h)
          · refine Or.inr ⟨rfl, fun c hc hl => ?_, v'', g2.below hTT (by omega) (fun g hg2 h => ?_), (p2.mono (X' := A.heap.size) (by omega)).trans g3 hAW.size, ?_⟩
            · cases c with
              | nil =>
                have := HL.out.2.2.2.2.2.1; have := HL.out.2.2.2.2.2.2.1; have := HM.out
                rw [List.append_nil] at hl
                omega
              | cons p c =>
                have hu := HU.out
                rcases cho_split hu.1 hu.2.2.2.2.2.2.2.2 hu.2.2.2.1 hu.2.2.2.2.1 hc with h | ⟨o, rfl, h1, h2, h3⟩
                · exact g1 _ h hl
                · rw [← hu.2.2.2.2.2.1] at h2 hl ⊢
                  have hL2 : L2 < 1024 := Nat.lt_of_lt_of_le hu.2.2.2.2.2.2.1 HL.out.2.2.1
                  have ho : o ∈ subsR 10 L2 := (subsR_mem hL2).2 h1
                  have hol := sub_lt hL2 ho
                  have hbits : ∀ i, (L2 &&& (4294967295 - o)).testBit i = (L2.testBit i && !o.testBit i) := fun i => dif_bits L2 o i (by omega) (by omega)
                  exact p4 o ho h2 _ hbits c (h3 _ hbits) hl
            · rcases g3 g hg2 with e | e
              · rcases HVF.out v' p2 g e with e | e <;> omega
              · omega
            · refine (hAW.next g4 (fun i hi h => ?_)).next hTT (fun i hi h => by omega)
              rcases h with h | h
              · exact Or.inl h
              · rcases HVF.out v' p2 i h with e | e
                · exact Or.inr e.1
                · omega
      case stop =>
        rintro D W hD ⟨⟨c, p1, p2, p3, p4⟩, p5, p6, hsz⟩ hDW
        have hx := HW6.out
        refine leaves_one (v := .bool true) hDW ?_ ?_
        · have o7 : One (W.putObj D (.deferred none)) b7 (.bool true) 4 := (World.putObj_heap_other (by omega)).trans p5
          have e7 := box_cell (i := 0) o7 rfl
          simp [results, Tryd.results37, go_sem, e7]
        · have hg := grownBy_putObj' W D (.deferred none)
          have hT : Turns (fun k => k = D) W (W.putObj D (.deferred none)) := (Turns.of_grown hg).mono fun k _ h => by simpa using h
          refine Or.inl ⟨rfl, c, p1, p2, p3, HF.out.seeM _ _ _ _ (HF.out.seeK _ _ _ _ p4 hsz (hT.mono fun k _ h => Or.inr ⟨by omega, by omega⟩)) (by omega), ?_⟩
          refine ((hx.1.mono fun _ _ h => h.elim).next p6 (fun i hi h => ?_)).next hT (fun i hi h => by omega)
          rcases h with h | h | h | h
          · exact Or.inl h
          · exact Or.inr (Or.inl h)
          · exact Or.inr (Or.inr h)
          · omega
      case body =>
        rintro l pre o post W he hsz ⟨v', p1, p2, p3, p4⟩
        have hx := HW6.out
        have hu := HU.out
        have hL2 : L2 < 1024 := Nat.lt_of_lt_of_le hu.2.2.2.2.2.2.1 HL.out.2.2.1
        have ho : o ∈ subsR 10 L2 := by rw [he]; simp
        have hosub := (subsR_mem hL2).1 ho
        have hol := sub_lt hL2 ho
        have hoN : o < 2 ^ N := by
          apply Nat.lt_pow_two_of_testBit
          intro i hi
          cases e : o.testBit i with
          | false => rfl
          | true => have := bit_lt hu.2.2.2.2.2.2.1 (hosub i e); omega
        obtain ⟨hFW, o6, o7, o9, obx⟩ := HKP.out W p3
        obtain ⟨p, hp⟩ : ∃ p, p = q ||| o := ⟨_, rfl⟩
        have hpN : p < 2 ^ N := by rw [hp]; exact Nat.or_lt_two_pow (by rw [hu.2.2.2.2.2.1]; exact Nat.pow_lt_pow_right (by decide) hu.2.1) hoN
        have hpZ : p < Z := by rw [HF.out.hZ]; exact hpN
        have hp10 : p < 1024 := Nat.lt_of_lt_of_le hpN HL.out.2.2.1
        have a1 := or_u32 (a := q) (b := o) (by omega) (by omega)
        rw [← hp] at a1
        obtain ⟨tg, htg⟩ : ∃ t, t = tog p := ⟨_, rfl⟩
        have ct : W.cell? ⟨bt, 0, none⟩ = some (sl tb Z) := box_cell (i := 0) (HF.out.t W hFW) rfl
        have ctr : W.cell? ⟨tb, p, none⟩ = some (.bool tg) := by rw [htg]; exact (HF.out.tr W hFW).cell hpZ
        have c9 : W.cell? ⟨b9, 0, none⟩ = some (.int .u32 (q : Int)) := box_cell (i := 0) o9 rfl
        obtain ⟨⟨vo', vc', hv'⟩, h1, h2⟩ := id p1
        have j0 : (0 : Int) ≤ (p : Int) := by omega
        have j1 : (p : Int) < (Z : Int) := by omega
        have HPW : Hid (PsV W B bp v' P ∧ Fresh (w6.heap.size + 2) v v' ∧ Turns (fun k => k = bp ∨ v.ownBlock = some k) w6 W ∧ NoW tog good q L2 K P pre) := ⟨p1, p2, p3, p4⟩
        have HO : Hid (p = q ||| o ∧ tg = tog p ∧ p < 2 ^ N ∧ o ∈ subsR 10 L2 ∧ (∀ i, o.testBit i = true → L2.testBit i = true) ∧ o < 1024 ∧ L2 < 1024 ∧ w6.heap.size + 2 ≤ W.heap.size) := ⟨hp, htg, hpN, ho, hosub, hol, hL2, hsz⟩
        have HX : Hid _ := hx
        have HBX : Hid (Fx W ∧ One W b6 (.int .u32 (L2 : Int)) 53 ∧ One W b7 (.bool false) 4 ∧ One W b9 (.int .u32 (q : Int)) 53) := ⟨hFW, o6, o7, o9⟩
        clear hosub ho hoN obx hp hpN hpZ htg h1 h2 p1 p2 p3 p4 hx hu he hsz o6 o7 o9
        cases tg with
        | false =>
          gi_wp2
          refine ⟨fun _ _ => rfl, Nat.le_refl _, v', HPW.out.1, HPW.out.2.1, HPW.out.2.2.1, HPW.out.2.2.2.snoc fun ht => ?_⟩
          rw [← HO.out.1, ← HO.out.2.1] at ht
          cases ht
        | true =>
          gi_upto_region 11 with (fail)
          have hvp : v' = .slice vo' pl vc' := by rw [HL.out.2.2.2.2.2.1]; exact hv'
          have HRow : Hid (W.ownsRow B 53 1 (.slice vo' pl vc') P.length (uv P)) := hvp ▸ HPW.out.1.2.2
          have c2 : W.cell? ⟨bp, 0, none⟩ = some (.slice vo' pl vc') := by rw [← hvp]; exact box_cell (i := 0) HPW.out.1.2.1 rfl
          have hnb : v'.ownBlock ≠ some bp := fun e => by
            have hx := HX.out
            have := HVF.out v' HPW.out.2.1 bp e
            have h3 := HVO.out bp
            rcases this with e2 | e2
            · have := h3 e2.1; omega
            · omega
          have HV : Hid (v' = .slice vo' pl vc' ∧ v'.ownBlock ≠ some bp) := ⟨hvp, hnb⟩
          have hsB : B ≤ W.heap.size := by have := HX.out; have := HO.out; omega
          have hpl : pl = P.length := HL.out.2.2.2.2.2.1
          have hpl6 : P.length ≤ 1000000 := by have := HL.out; omega
          have HPL : Hid (pl = P.length ∧ P.length ≤ 1000000 ∧ B ≤ W.heap.size) := ⟨hpl, hpl6, hsB⟩
          have F37 : Fence.wide.fn 37 := trivial
          clear hvp hnb hsB hpl hpl6 hv' ct ctr
          gi_upto_region 12 with (first | (gi_at_builtin; refine wpListIn_pushU (x := p) (k := pl) (v := .slice vo' pl vc') rfl _ _ HPL.out.1 rfl rfl rfl HRow.out HPL.out.2.1 HPL.out.2.2 ?_; intro g c w7 r1 r2 r3; have o5 : One w7 bp (.slice vo' pl vc') 47 := (r2.block _ (by have := lt_of_block HPW.out.1.2.1; rw [World.size_alloc]; omega) (fun e => HV.out.2 (by rw [HV.out.1]; exact e.symm))).trans ((Below.heap_alloc _ _ _ (lt_of_block HPW.out.1.2.1)).trans (HV.out.1 ▸ HPW.out.1.2.1)); have d9 := box_cell o5 (i := 0) rfl; have f9 := one_free o5) | fail)
          obtain ⟨v2, hv2⟩ : ∃ x, x = Value.slice (some ⟨g, 0, none⟩) (pl + 1) c := ⟨_, rfl⟩
          have hgo : v2.ownBlock = some g := by rw [hv2]; rfl
          have hgbp : g ≠ bp := fun e => by
            rcases r3 with r3 | r3
            · exact HV.out.2 (by rw [HV.out.1, r3, e])
            · have := lt_of_block HPW.out.1.2.1; omega
          have hlp : (P ++ [p]).length = pl + 1 := by rw [List.length_append, ← HPL.out.1]; rfl
          rw [← hv2] at r1 ⊢
          have hT7 : Turns (fun k => k = bp ∨ v'.ownBlock = some k) W (w7.setCell ⟨bp, 0, none⟩ v2) :=
            ((alloc_turns W (Obj.cells #[.int .u32 (p : Int)] 53) _).trans ((Turns.of_grown r2).mono fun k _ h => Or.inr (by rw [HV.out.1]; exact h.symm))).trans ((setCell_turns w7 bp 0 v2).mono fun k _ h => Or.inl h)
          have hP7 : PsV (w7.setCell ⟨bp, 0, none⟩ v2) B bp v2 (P ++ [p]) := by
            refine ⟨⟨_, _, by rw [hlp]; exact hv2⟩, box_set o5 0 v2, ?_⟩
            have r1' := ownsRow_blocks r1 (w' := w7.setCell ⟨bp, 0, none⟩ v2) fun b hb => (setCell_turns w7 bp 0 v2).block b (r1.lt b hb).2 (fun e => by rw [hgo] at hb; cases hb; exact hgbp e)
            rw [hlp] at r1' ⊢
            exact r1'
          have hF7 : Fresh W.heap.size v' v2 := fun g' hg' => by
            rw [hgo] at hg'; cases hg'
            rcases r3 with r3 | r3
            · exact Or.inl (by rw [HV.out.1]; exact r3)
            · exact Or.inr r3
          generalize w7.setCell ⟨bp, 0, none⟩ v2 = W2 at *
          have hW2 : Turns (fun k => k = bp ∨ v.ownBlock = some k) w6 W2 := HPW.out.2.2.1.next hT7 (fun i hi h => by
            rcases h with h | h
            · exact Or.inl h
            · rcases HVF.out v' HPW.out.2.1 i h with e | e
              · exact Or.inr e.1
              · omega)
          obtain ⟨hF2, o6, o7, o9⟩ := HKP.out W2 hW2
          obtain ⟨L3, hL3⟩ : ∃ x, x = L2 &&& (4294967295 - o) := ⟨_, rfl⟩
          have hx := HX.out
          have hu := HU.out
          have hO := HO.out
          have a5 : bits BinOp.andNot IntKind.u32 (L2 : Int) (o : Int) = (L3 : Int) := by rw [u32_andNot_nat L2 o (by omega) (by omega), hL3]
          have hb3 : ∀ i, L3.testBit i = (L2.testBit i && !o.testBit i) := fun i => by rw [hL3]; exact dif_bits L2 o i (by omega) (by omega)
          have hl3 : L3 < 2 ^ N := by rw [hL3]; exact Nat.lt_of_le_of_lt Nat.and_le_left hu.2.2.2.2.2.2.1
          have hbl3 : (bl L3).length < k := by
            have := cntB_mono (L := L2.testBit) (L' := L3.testBit) (fun i hi => by rw [hb3, Bool.and_eq_true] at hi; exact hi.1)
            rw [cntB_bl, cntB_bl] at this
            omega
          have C37 : Hid (Calls Tryd.prog 37 #[.int .u32 (L3 : Int), ptr bm, ptr bp, ptr bs, ptr bt, ptr bf] W2 fun e w' => ∃ db, e = .returned (.bool db) ∧ Turns (fun k => k = bp ∨ v2.ownBlock = some k ∨ k = bq) W2 w' ∧ Hid ((db = true ∧ ∃ c, Cho tog L3.testBit c ∧ ((P ++ [p]) ++ c).length = K ∧ good ((P ++ [p]) ++ c) ∧ SeeT W2.heap.size ((P ++ [p]) ++ c) w') ∨ (db = false ∧ (∀ c, Cho tog L3.testBit c → ((P ++ [p]) ++ c).length = K → ¬ good ((P ++ [p]) ++ c)) ∧ ∃ v'', PsV w' B bp v'' (P ++ [p]) ∧ Fresh W2.heap.size v2 v'' ∧ Turns (fun k => k = bp ∨ v2.ownBlock = some k) W2 w'))) :=
            (IH.out L3 (P ++ [p]) v2 W2 hbl3 hl3 hF2 hP7 (by have := HL.out.2.2.2.2.2.2.1; omega) (fun y hy => by
              rcases List.mem_append.1 hy with h | h
              · exact HL.out.2.2.2.2.1 y h
              · have : y = p := by simpa using h
                rw [this]; exact hO.2.2.1)).mono fun e w' h => h.bool
          have cf : W2.cell? ⟨bf, 0, none⟩ = some (.func (.func 37) #[] #[ptr bm, ptr bp, ptr bs, ptr bt, ptr bf]) := box_cell (i := 0) (HF.out.f W2 hF2) rfl
          have c6 : W2.cell? ⟨b6, 0, none⟩ = some (.int .u32 (L2 : Int)) := box_cell (i := 0) o6 rfl
          have hnv2 : ∀ g', v2.ownBlock = some g' → (v.ownBlock = some g' ∧ g' < A.heap.size) ∨ w6.heap.size + 2 ≤ g' := fun g' hg' => by
            rcases hF7 g' hg' with h | h
            · exact HVF.out v' HPW.out.2.1 g' h
            · exact Or.inr (by omega)
          have HW2 : Hid (PsV W2 B bp v2 (P ++ [p]) ∧ Turns (fun k => k = bp ∨ v'.ownBlock = some k) W W2 ∧ Turns (fun k => k = bp ∨ v.ownBlock = some k) w6 W2 ∧ One W2 b7 (.bool false) 4 ∧ (∀ g', v2.ownBlock = some g' → (v.ownBlock = some g' ∧ g' < A.heap.size) ∨ w6.heap.size + 2 ≤ g') ∧ Fresh W.heap.size v' v2) := ⟨hP7, hT7, hW2, o7, hnv2, hF7⟩
          have HL3 : Hid (∀ i, L3.testBit i = (L2.testBit i && !o.testBit i)) := hb3
          have HLP : Hid ((P ++ [p]).length = pl + 1) := hlp
          clear r1 r2 r3 o5 d9 f9 hgo hgbp hlp hT7 hP7 hF7 hW2 hF2 o6 o7 o9 hx hu hO hb3 hl3 hbl3 hL3 hnv2 c2 c9
          gi_upto_if 50 with (first | (gi_at_call 37; refine (CallsIn.inRound l (callsIn_wide.2 C37.out)).mono ?_; rintro e w8 ⟨db, rfl, ht, hg⟩) | fail)
          have hx := HX.out
          have hO := HO.out
          obtain ⟨k1, k2, k3, k4, k5, k6⟩ := HW2.out
          have hn7 : ¬ (b7 = bp ∨ v2.ownBlock = some b7 ∨ b7 = bq) := fun h => by
            rcases h with h | h | h
            · omega
            · rcases k5 b7 h with e | e <;> omega
            · omega
          have o7 := one_turns k4 ht hn7
          have c7 := box_cell (i := 0) o7 rfl
          have f7 := one_free o7
          have HK : Hid (One w8 b7 (.bool false) 4 ∧ Turns (fun k => k = bp ∨ v2.ownBlock = some k ∨ k = bq) W2 w8 ∧ ∀ k, Own2 w6.heap.size k → w8.heap[k]? = W.heap[k]? ∧ k ≠ b7) := ⟨o7, ht, fun k hk => by
            have h1 := hk.1
            have h2 := hk.2
            refine ⟨(ht.block k (by have := k2.size; omega) (fun h => ?_)).trans (k2.block k (by omega) (fun h => ?_)), by omega⟩
            · rcases h with h | h | h
              · omega
              · rcases k5 k h with e | e <;> omega
              · omega
            · rcases h with h | h
              · omega
              · rcases HVF.out v' HPW.out.2.1 k h with e | e <;> omega⟩
          clear k1 k2 k3 k4 k5 k6 hn7 o7 ht C37 cf c6 hx hO
          rcases hg.out with ⟨rfl, c2, g1, g2, g3, g4⟩ | ⟨rfl, g1, v3, g2, g3, g4⟩
          · have HG : Hid _ := And.intro g1 (And.intro g2 (And.intro g3 g4))
            clear g1 g2 g3 g4 hg
            gi_wp2
            have hx := HX.out
            have hu := HU.out
            have hO := HO.out
            have hts := setCell_turns w8 b7 0 (.bool true)
            have o8 : One (w8.setCell ⟨b7, 0, none⟩ (.bool true)) b7 (.bool true) 4 := box_set HK.out.1 0 (.bool true)
            obtain ⟨k1, k2, k3, k4, k5, k6⟩ := HW2.out
            obtain ⟨g1, g2, g3, g4⟩ := HG.out
            have hsz2 : W.heap.size ≤ W2.heap.size := k2.size
            have hsz8 : W2.heap.size ≤ w8.heap.size := HK.out.2.1.size
            have ea : (P ++ [p]) ++ c2 = P ++ p :: c2 := by simp
            rw [ea] at g2 g3 g4
            refine ⟨fun i hi => (hts.block i (by have := hi.2; omega) (HK.out.2.2 i hi).2).trans (HK.out.2.2 i hi).1, Nat.le_trans (Nat.le_trans hsz2 hsz8) hts.size, ⟨p :: c2, ?_, g2, g3, ?_⟩, o8, ?_, ?_⟩
            · rw [hO.1, hu.2.2.2.2.2.1]
              refine cho_with hu.1 hu.2.2.1 hu.2.2.2.1 hu.2.2.2.2.1 hO.2.2.2.2.1 (by omega) ?_ HL3.out g1
              rw [← hu.2.2.2.2.2.1, ← hO.1, ← hO.2.1]
            · exact HF.out.seeM _ _ _ _ (HF.out.seeK _ _ _ _ g4 hsz8 (hts.mono fun i _ h => Or.inr ⟨by omega, by omega⟩)) (by omega)
            · refine ((k3.mono fun i _ h => ?_).next HK.out.2.1 (fun i hi h => ?_)).next hts (fun i hi h => Or.inr (Or.inr (Or.inr h)))
              · rcases h with h | h
                · exact Or.inl h
                · exact Or.inr (Or.inl h)
              · rcases h with h | h | h
                · exact Or.inl h
                · rcases k5 i h with e | e
                  · exact Or.inr (Or.inl e.1)
                  · omega
                · exact Or.inr (Or.inr (Or.inl h))
            · have := hts.size; omega
          · have HG : Hid _ := And.intro g1 (And.intro g2 (And.intro g3 g4))
            obtain ⟨⟨vo3, vc3, hv3⟩, y1, y2⟩ := id g2
            have hlp := HLP.out
            rw [hlp] at hv3
            obtain ⟨g3', hyo, hle⟩ : ∃ gg, vo3 = some ⟨gg, 0, none⟩ ∧ pl + 1 ≤ vc3 := by
              rcases y2.2 with ⟨h0, hl0⟩ | ⟨g', cap, cur, e, _, _, hle, _⟩
              · omega
              · rw [hv3, hlp] at e
                injection e with e1 e2 e3
                exact ⟨g', e1, by rw [e3]; omega⟩
            subst hyo
            have p0 : w8.cell? ⟨bp, 0, none⟩ = some (.slice (some ⟨g3', 0, none⟩) (pl + 1) vc3) := by rw [← hv3]; exact box_cell (i := 0) y1 rfl
            have p1 := one_free y1
            have hne : g3' ≠ bp := fun e => by
              subst e
              obtain ⟨cur, hc⟩ := own_cells y2 (g := g3') (by rw [hv3]; rfl)
              have h2 : w8.heap[g3']? = _ := y1
              rw [hc] at h2
              cases h2
            have hsh : w8.ownsRow B 53 1 (.slice (some ⟨g3', 0, none⟩) P.length vc3) P.length (uv P) := by
              refine own_shortU (x := p) (n := pl + 1) (by omega) ?_
              rw [hv3, hlp] at y2
              exact y2
            have HY : Hid (One w8 bp v3 47 ∧ v3 = .slice (some ⟨g3', 0, none⟩) (pl + 1) vc3 ∧ g3' ≠ bp ∧ w8.ownsRow B 53 1 (.slice (some ⟨g3', 0, none⟩) P.length vc3) P.length (uv P)) := ⟨y1, hv3, hne, hsh⟩
            have hwr2 : wrap64 ((pl : Int) + 1 - 1) = (pl : Int) := by
              unfold wrap64
              have := HL.out.2.2.2.2.2.2.1
              omega
            have z0 : (0 : Int) ≤ (pl : Int) := by omega
            have z1 : (pl : Int) ≤ (vc3 : Int) := by omega
            have z2 : wrap64 (pl : Int) = (pl : Int) := by
              unfold wrap64
              have := HL.out.2.2.2.2.2.2.1
              omega
            clear g1 g2 g3 g4 hg y1 y2 hv3 hne hsh hlp c7 f7
            gi_wp2
            have hx := HX.out
            have hO := HO.out
            have hts := setCell_turns w8 bp 0 (.slice (some ⟨g3', 0, none⟩) pl vc3)
            obtain ⟨q1, q2, q3, q4⟩ := HY.out
            obtain ⟨k1, k2, k3, k4, k5, k6⟩ := HW2.out
            obtain ⟨g1, g2, g3, g4⟩ := HG.out
            have hsz2 : W.heap.size ≤ W2.heap.size := k2.size
            have hsz8 : W2.heap.size ≤ w8.heap.size := HK.out.2.1.size
            have hpl := HPL.out.1
            refine ⟨fun i hi => (hts.block i (by have := hi.2; omega) (by have := hi.1; omega)).trans (HK.out.2.2 i hi).1, Nat.le_trans (Nat.le_trans hsz2 hsz8) hts.size, .slice (some ⟨g3', 0, none⟩) pl vc3, ⟨⟨_, _, by rw [← hpl]⟩, box_set q1 0 _, ?_⟩, fun g' hg' => ?_, ?_, HPW.out.2.2.2.snoc fun ht L3' hb c2 hc hl => ?_⟩
            · rw [← hpl] at q4 ⊢
              exact ownsRow_blocks q4 fun b hb => hts.block b (q4.lt b hb).2 (fun e => by
                have : g3' = b := by simpa [Value.ownBlock] using hb
                omega)
            · have e : g3' = g' := by simpa [Value.ownBlock] using hg'
              subst e
              rcases g3 g3' (by rw [q2]; rfl) with h | h
              · rcases k5 g3' h with e | e
                · exact Or.inl e.1
                · exact Or.inr e
              · exact Or.inr (by omega)
            · refine (k3.next g4 (fun i hi h => ?_)).next hts (fun i hi h => Or.inl h)
              rcases h with h | h
              · exact Or.inl h
              · rcases k5 i h with e | e
                · exact Or.inr e.1
                · omega
            · have e3 : L3' = L3 := Nat.eq_of_testBit_eq fun i => by rw [hb, HL3.out]
              rw [← hO.1] at hl ⊢
              have ea : (P ++ [p]) ++ c2 = P ++ p :: c2 := by simp
              have := g1 c2 (e3 ▸ hc) (by rw [ea]; exact hl)
              rwa [ea] at this
end Go.Proofs.YthjkjanibkpgiaaDoor
