/- tryPieces: what is fixed while it goes on. tryPieces. -/
import Derived.Test.YthjkjanibkpgiaaDoorTryW
import Derived.Test.YthjkjanibkpgiaaDoorSeeMW
import Derived.Test.YthjkjanibkpgiaaDoorHngW
import Derived.Test.YthjkjanibkpgiaaDoorTailM
namespace Go.Proofs.YthjkjanibkpgiaaDoor
set_option maxRecDepth 8000
open Go.RowKit Go.Maps
theorem tog_ex (near : Nat → Nat) (N : Nat) : ∃ tog : Nat → Bool, tog 0 = false ∧ ∀ x, x ≠ 0 → (tog x = true ↔ Rch near N x (Lib.ctz 32 x) x) := by
  refine ⟨fun x => @decide (x ≠ 0 ∧ Rch near N x (Lib.ctz 32 x) x) (Classical.propDecidable _), ?_, fun x hx => ?_⟩
  · simp
  · simp [hx]
theorem hang_is {near : Nat → Nat} {N s u r : Nat} (h : Rch near N s u r) (hc : Cls near N s r) : r = s ↔ Rch near N s u s := by
  constructor
  · rintro rfl; exact h
  · intro h2
    apply Nat.eq_of_testBit_eq
    intro i
    rw [Bool.eq_iff_iff]
    exact ⟨h.2.1 i, h2.2.2 r h.1 hc i⟩
theorem make60 (N : Nat) (hN : N ≤ 2000) (w : World) : (Instr.makeSlice 60 (.int .i64 (N : Int)) (.int .i64 (N : Int))).run Tryd.prog w = .ok (.slice (some ⟨w.heap.size, 0, none⟩) N N) (w.alloc (.cells (rep N (.bool false)) 4)) := by
  have hx : (Tryd.prog.info? 4).map (fun i => (i.zero, i.size, i.bytes)) = some (some (.bool false), 1, 1) := by kernel_rfl
  obtain ⟨i65, hi65, hy0, hy1, hy2⟩ := info_parts hx
  have hr := run_make (P := Tryd.prog) w 60 4 i65 (.bool false) Tryd.underlying60 hi65 hy0 .i64 .i64 N N (by omega) (Int.le_refl _) (by rw [hy2]; omega) (by omega)
  simpa [hy1, Value.cells] using hr
structure FxT (bm bs bt bf tb bn bw bq nb wb Z N K B : Nat) (bp : Nat) (tog : Nat → Bool) (near wanted : Nat → Nat) (A : World) : Prop where
  m : One A bm (.int .i64 (K : Int)) 3
  s : One A bs (.func (.func 21) #[] #[ptr bn, ptr bw, ptr bq]) 55
  t : One A bt (sl tb Z) 60
  tr : RowV A tb 4 Z (fun s => .bool (tog s))
  f : One A bf (.func (.func 37) #[] #[ptr bm, ptr bp, ptr bs, ptr bt, ptr bf]) 65
  tab : T32 A
  sz : B ≤ A.heap.size
  n : One A bn (sl nb N) 47
  w : One A bw (sl wb K) 47
  q : One A bq (.slice none 0 0) 29
  nr : RowV A nb 53 N (nv near)
  wr : RowV A wb 53 K (nv wanted)
/-- Where all that lies. -/
structure PlT (bm bs bt bf tb bn bw bq nb wb B bp : Nat) : Prop where
  m : bm < B ∧ bm ≠ bp
  s : bs < B ∧ bs ≠ bp
  t : bt < B ∧ bt ≠ bp
  tr : tb < B ∧ tb ≠ bp
  f : bf < B ∧ bf ≠ bp
  n : bn < B ∧ bn ≠ bp
  w : bw < B ∧ bw ≠ bp
  q : bq < B ∧ bq ≠ bp
  nr : nb < B ∧ nb ≠ bp
  wr : wb < B ∧ wb ≠ bp
  p : bp < B ∧ 0 ≠ bp
  q0 : bq ≠ 0
abbrev goodT (near wanted : Nat → Nat) (N K : Nat) : List Nat → Prop := fun Ps => (fitP near wanted N K Ps).isSome = true
def SeeTT (near wanted : Nat → Nat) (N K B bq : Nat) : Nat → List Nat → World → Prop := fun X Ps A => ∃ l, fitP near wanted N K Ps = some l ∧ SetsV A (max B X) bq (l.map fun at_ => bl (Ps.getD at_ 0))
theorem trF_ok {bm bs bt bf tb bn bw bq nb wb Z N K B bp : Nat} {tog : Nat → Bool} {near wanted : Nat → Nat} (hP : PlT bm bs bt bf tb bn bw bq nb wb B bp) (hZ : Z = 2 ^ N) (hN : N ≤ 10) (hK : K ≤ 6) (nl : ∀ v, near v < 2 ^ N) (wl : ∀ v, wanted v < 2 ^ K) :
    TrF (FxT bm bs bt bf tb bn bw bq nb wb Z N K B bp tog near wanted) B bm bp bs bt bf tb bn bw bq Z N K tog (goodT near wanted N K) (SeeTT near wanted N K B bq) where
  keep := fun A A' h hT => by
    have q : ∀ b, b < B ∧ b ≠ bp → ¬ (b = bp ∨ B ≤ b) := fun b hb h => by omega
    refine ⟨one_turns h.m hT (q _ hP.m), one_turns h.s hT (q _ hP.s), one_turns h.t hT (q _ hP.t), h.tr.turns hT (q _ hP.tr), one_turns h.f hT (q _ hP.f), fun j hj => cell_turns (h.tab j hj) hT (q _ ⟨?_, hP.p.2⟩), Nat.le_trans h.sz hT.size, one_turns h.n hT (q _ hP.n), one_turns h.w hT (q _ hP.w), one_turns h.q hT (q _ hP.q), h.nr.turns hT (q _ hP.nr), h.wr.turns hT (q _ hP.wr)⟩
    have := hP.p
    show 0 < B
    omega
  m := fun A h => h.m
  s := fun A h => h.s
  t := fun A h => h.t
  tr := fun A h => h.tr
  f := fun A h => h.f
  tab := fun A h => h.tab
  sz := fun A h => h.sz
  hbp := hP.p.1
  hbq := hP.q
  hZ := hZ
  hN := hN
  hK := hK
  see := fun A v Ps hF hv hl hps => by
    obtain ⟨⟨vo, vc, e⟩, h1, h2⟩ := id hv
    subst e
    have hpc := hv.pc
    rw [hl] at hpc h2 ⊢
    have hps' : ∀ j, j < K → Ps.getD j 0 < 2 ^ N := fun j hj => by
      rw [List.getD_eq_getElem?_getD, List.getElem?_eq_getElem (by omega)]
      exact hps _ (List.getElem_mem _)
    refine (see_call hF.n hF.w hF.q hF.nr hF.wr hF.tab hpc (fun pb hpb e => ?_) nl wl hps' hN hK hP.q0).mono ?_
    · subst hpb
      have := (h2.lt pb rfl).1
      have := hP.q.1
      omega
    · rintro e w' ⟨rfl, hA⟩
      unfold SeeA at hA
      cases hf : fitP near wanted N K Ps with
      | none =>
        rw [hf] at hA
        exact Or.inr ⟨rfl, by unfold goodT; rw [hf]; simp, hA⟩
      | some l =>
        rw [hf] at hA
        refine Or.inl ⟨rfl, by unfold goodT; rw [hf]; rfl, ⟨l, hf, ?_⟩, hA.2⟩
        rw [Nat.max_eq_right hF.sz]
        exact hA.1
  seeK := fun X Ps A A' ⟨l, h1, h2⟩ _ hT => by
    refine ⟨l, h1, h2.turns hT (fun h => ?_) (fun k hk h => ?_)⟩
    · have := hP.q; omega
    · have := hP.p; omega
  seeM := fun X X' Ps A ⟨l, h1, h2⟩ hx => ⟨l, h1, h2.lower (by omega)⟩
end Go.Proofs.YthjkjanibkpgiaaDoor

namespace Go.Proofs.YthjkjanibkpgiaaDoor
set_option maxRecDepth 8000
open Go.RowKit Go.Maps
attribute [local go_sem ↓] Go.wp_at_zero Go.wp_at_succ
/-- What has been found out so far. -/
def tgv (tog : Nat → Bool) (s : Nat) : Nat → Value := fun x => .bool (decide (x < s) && tog x)
set_option maxHeartbeats 16000000 in
theorem pieces_call {w : World} {bn bw bq nb wb N K : Nat} {near wanted : Nat → Nat} {tog : Nat → Bool} (h1 : One w bn (sl nb N) 47) (h2 : One w bw (sl wb K) 47) (h3 : One w bq (.slice none 0 0) 29) (hn : RowV w nb 53 N (nv near)) (hw : RowV w wb 53 K (nv wanted)) (hT : T32 w)
    (nl : ∀ v, near v < 2 ^ N) (wl : ∀ v, wanted v < 2 ^ K) (hN : N ≤ 10) (hK : K ≤ 6) (h0q : bq ≠ 0) (ht0 : tog 0 = false) (htog : ∀ x, x ≠ 0 → (tog x = true ↔ Rch near N x (Lib.ctz 32 x) x)) :
    Calls Tryd.prog 20 #[sl nb N, .int .i64 (K : Int), .func (.func 21) #[] #[ptr bn, ptr bw, ptr bq]] w fun e w' => ∃ db, e = .returned (.bool db) ∧ Turns (fun k => k = bq) w w' ∧
      ((db = true ∧ ∃ c l, Cho tog (2 ^ N - 1).testBit c ∧ c.length = K ∧ fitP near wanted N K c = some l ∧ SetsV w' w.heap.size bq (l.map fun at_ => bl (c.getD at_ 0))) ∨
       (db = false ∧ (∀ c, Cho tog (2 ^ N - 1).testBit c → c.length = K → fitP near wanted N K c = none) ∧ One w' bq (.slice none 0 0) 29)) := by
  obtain ⟨Z, hZ⟩ : ∃ Z, Z = 2 ^ N := ⟨_, rfl⟩
  have hZ10 : Z ≤ 1024 := by rw [hZ]; exact Nat.pow_le_pow_right (by decide) hN
  have hZ1 : 1 ≤ Z := by rw [hZ]; exact Nat.two_pow_pos N
  have hmk := make60 Z (by omega)
  have HH : Hid (One w bn (sl nb N) 47 ∧ One w bw (sl wb K) 47 ∧ One w bq (.slice none 0 0) 29 ∧ RowV w nb 53 N (nv near) ∧ RowV w wb 53 K (nv wanted) ∧ T32 w ∧ (∀ v, near v < 2 ^ N) ∧ (∀ v, wanted v < 2 ^ K) ∧ bq ≠ 0 ∧ Z = 2 ^ N ∧ tog 0 = false) := ⟨h1, h2, h3, hn, hw, hT, nl, wl, h0q, hZ, ht0⟩
  have C36 : Hid (∀ D s, Below w.heap.size w D → s < 2 ^ N → s ≠ 0 → Calls Tryd.prog 36 #[sl nb N, .int .u32 ((s : Nat) : Int)] D fun e w' => e = .returned (.bool (tog s)) ∧ Below D.heap.size D w') := fun D s hD hs hs0 => by
    refine (hang_call (hn.block (hD.block _ hn.lt)) (hT.below hD) nl (by omega) hs hs0 rfl).mono ?_
    rintro e w' ⟨⟨r, g1, g2, rfl⟩, hB⟩
    refine ⟨?_, hB⟩
    have : decide (r = s) = tog s := by
      rw [Bool.eq_iff_iff, htog s hs0, ← hang_is g1 g2]
      simp
    rw [this]
  have hsh : wrap64 ((2 : Int) ^ N) = (Z : Int) := by
    have : ((2 : Int) ^ N) = (Z : Int) := by rw [hZ]; simp
    rw [this]
    unfold wrap64
    omega
  have hmin : min N 64 = N := by omega
  clear h1 h2 h3 hn hw hT nl wl h0q ht0 htog hZ
  go_enter Tryd.func20, Tryd.ntmps20
  go_upto_region 2 with (fail)
  obtain ⟨W0, hW0⟩ : ∃ W0, W0 = ((((w.alloc (Obj.cells #[.int .i64 (K : Int)] 3)).alloc (Obj.cells #[.func (.func 21) #[] #[ptr bn, ptr bw, ptr bq]] 55)).alloc (Obj.cells (rep Z (.bool false)) 4)).alloc (Obj.cells #[.slice (some ⟨w.heap.size + 1 + 1, 0, none⟩) Z Z] 60)) := ⟨_, rfl⟩
  rw [← hW0]
  obtain ⟨bm, hbm⟩ : ∃ b, b = w.heap.size := ⟨_, rfl⟩
  obtain ⟨bs, hbs⟩ : ∃ b, b = w.heap.size + 1 := ⟨_, rfl⟩
  obtain ⟨tb, htb⟩ : ∃ b, b = w.heap.size + 1 + 1 := ⟨_, rfl⟩
  obtain ⟨bt, hbt⟩ : ∃ b, b = w.heap.size + 1 + 1 + 1 := ⟨_, rfl⟩
  have hB0 : Below w.heap.size w W0 := by rw [hW0]; exact below_alloc (below_alloc (below_alloc (below_alloc (Below.refl _ w) _) _) _) _
  have om : One W0 bm (.int .i64 (K : Int)) 3 := by rw [hW0, hbm]; exact one_alloc' (one_alloc' (one_alloc' (heap_alloc_new _ _) _) _) _
  have os : One W0 bs (.func (.func 21) #[] #[ptr bn, ptr bw, ptr bq]) 55 := by
    rw [hW0, hbs]
    refine one_alloc' (one_alloc' ?_ _) _
    have := heap_alloc_new (w.alloc (Obj.cells #[.int .i64 (K : Int)] 3)) (Obj.cells #[.func (.func 21) #[] #[ptr bn, ptr bw, ptr bq]] 55)
    rw [show (w.alloc (Obj.cells #[.int .i64 (K : Int)] 3)).heap.size = w.heap.size + 1 by simp] at this
    exact this
  have otr : RowV W0 tb 4 Z (tgv tog 1) := by
    have h1 : RowV ((((w.alloc (Obj.cells #[.int .i64 (K : Int)] 3)).alloc (Obj.cells #[.func (.func 21) #[] #[ptr bn, ptr bw, ptr bq]] 55)).alloc (Obj.cells (rep Z (.bool false)) 4))) tb 4 Z (fun _ => .bool false) := by
      refine rowV_rep ?_
      rw [htb]
      have := heap_alloc_new ((w.alloc (Obj.cells #[.int .i64 (K : Int)] 3)).alloc (Obj.cells #[.func (.func 21) #[] #[ptr bn, ptr bw, ptr bq]] 55)) (Obj.cells (rep Z (.bool false)) 4)
      rw [show ((w.alloc (Obj.cells #[.int .i64 (K : Int)] 3)).alloc (Obj.cells #[.func (.func 21) #[] #[ptr bn, ptr bw, ptr bq]] 55)).heap.size = w.heap.size + 1 + 1 by simp] at this
      exact this
    refine (h1.block ?_).congr fun x _ => ?_
    · rw [hW0]
      exact Below.heap_alloc _ _ _ h1.lt
    · unfold tgv
      by_cases hx : x = 0
      · subst hx; rw [HH.out.2.2.2.2.2.2.2.2.2.2]; rfl
      · have : ¬ x < 1 := by omega
        simp [this]
  have ot : One W0 bt (sl tb Z) 60 := by
    rw [hW0, hbt, htb]
    have := heap_alloc_new (((w.alloc (Obj.cells #[.int .i64 (K : Int)] 3)).alloc (Obj.cells #[.func (.func 21) #[] #[ptr bn, ptr bw, ptr bq]] 55)).alloc (Obj.cells (rep Z (.bool false)) 4)) (Obj.cells #[.slice (some ⟨w.heap.size + 1 + 1, 0, none⟩) Z Z] 60)
    rw [show (((w.alloc (Obj.cells #[.int .i64 (K : Int)] 3)).alloc (Obj.cells #[.func (.func 21) #[] #[ptr bn, ptr bw, ptr bq]] 55)).alloc (Obj.cells (rep Z (.bool false)) 4)).heap.size = w.heap.size + 1 + 1 + 1 by simp] at this
    exact this
  have hs0 : W0.heap.size = w.heap.size + 4 := by rw [hW0]; simp
  have HW0 : Hid (Below w.heap.size w W0 ∧ One W0 bm (.int .i64 (K : Int)) 3 ∧ One W0 bs (.func (.func 21) #[] #[ptr bn, ptr bw, ptr bq]) 55 ∧ RowV W0 tb 4 Z (tgv tog 1) ∧ One W0 bt (sl tb Z) 60 ∧ W0.heap.size = w.heap.size + 4 ∧ bm = w.heap.size ∧ bs = w.heap.size + 1 ∧ tb = w.heap.size + 2 ∧ bt = w.heap.size + 3) := ⟨hB0, om, os, otr, ot, hs0, hbm, hbs, by omega, by omega⟩
  rw [← hbt, ← htb, ← hbs, ← hbm]
  obtain ⟨zm, hzm⟩ : ∃ q, q = 2 ^ N - 1 := ⟨_, rfl⟩
  have hzz : Z = zm + 1 := by rw [hzm, HH.out.2.2.2.2.2.2.2.2.2.1]; have := Nat.two_pow_pos N; omega
  have C35 : Hid (∀ D : World, Calls Tryd.prog 35 #[.int .i64 (N : Int)] D fun e w' => e = .returned (.int .u32 (zm : Int)) ∧ Below D.heap.size D w') := fun D => by
    rw [hzm]
    exact (below_call (by omega)).mono fun e w' ⟨h1, h2⟩ => ⟨h1, h2 ▸ Below.refl _ _⟩
  have HZM : Hid (zm = 2 ^ N - 1 ∧ Z = zm + 1) := ⟨hzm, hzz⟩
  clear hB0 om os otr ot hs0 hbm hbs htb hbt hW0 hzm hzz hmk hsh hmin
  go_upto_region 3 with (fail)
  go_loopw [8] (fun s8 wz => ∃ s : Nat, 1 ≤ s ∧ s ≤ Z ∧ s8 = .int .u32 (s : Int) ∧ Hid (Below w.heap.size w wz ∧ Turns (fun k => k = tb) W0 wz ∧ RowV wz tb 4 Z (tgv tog s))) (fun s8 _ => Z - (numOf s8).toNat)
  case atStart => exact ⟨1, Nat.le_refl _, hZ1, rfl, HW0.out.1, Turns.refl _ _, HW0.out.2.2.2.1⟩
  case round =>
    obtain ⟨s, hs1, hsZ, rfl, hJ⟩ := hrel
    by_cases hlt : s < Z
    · have hle : s ≤ zm := by have := HZM.out; omega
      have k1 : (s : Int) ≤ (zm : Int) := by omega
      have hsN : s < 2 ^ N := by rw [← HH.out.2.2.2.2.2.2.2.2.2.1]; exact hlt
      obtain ⟨tg, htg⟩ : ∃ t, t = tog s := ⟨_, rfl⟩
      have C36' : Hid (∀ D, Below w.heap.size w D → Calls Tryd.prog 36 #[sl nb N, .int .u32 (s : Int)] D fun e w' => e = .returned (.bool tg) ∧ Below D.heap.size D w') := fun D hD => by
        rw [htg]
        exact C36.out D s hD hsN (by omega)
      have HT : Hid (tg = tog s) := htg
      clear htg hsN
      go_upto_region 5 with (first | (go_at_call 35; refine Calls.mono (C35.out _) ?_; rintro e w3 ⟨rfl, h3⟩) | fail)
      have c7 : w3.cell? ⟨bt, 0, none⟩ = some (sl tb Z) := by
        have o1 := one_turns HW0.out.2.2.2.2.1 hJ.out.2.1 (by have := HW0.out; omega)
        exact box_cell (i := 0) (one_turns o1 (Turns.of_below h3 (fun _ => False)) (fun h => h)) rfl
      have HJ3 : Hid (Below w.heap.size w w3 ∧ Turns (fun k => k = tb) W0 w3 ∧ RowV w3 tb 4 Z (tgv tog s)) := ⟨below_next hJ.out.1 h3, hJ.out.2.1.trans (Turns.of_below h3 _), hJ.out.2.2.block (h3.block _ hJ.out.2.2.lt)⟩
      have i0 : (0 : Int) ≤ (s : Int) := by omega
      have i1 : (s : Int) < (Z : Int) := by omega
      have g7 := cell_growD c7
      clear c7 h3 hJ
      refine wp_region_tailT 6 (by kernel_rfl) (by kernel_rfl) (by kernel_rfl) (by decide) ?_
      simp only [List.take_succ_cons, List.take_zero, List.drop_succ_cons, List.drop_zero]
      repeat (go_big_quiet_step (first | (go_at_call 36; exact Calls.belowQ (fun W hW => C36'.out W (below_next HJ3.out.1 hW)))))
      refine wpQuiet_nil ?_
      rintro _ ⟨gp, rfl⟩
      have hB8 := growD_below w3 gp
      clear g7
      generalize growD w3 gp = w5 at *
      have hR5 := HJ3.out.2.2.block (hB8.block _ HJ3.out.2.2.lt)
      have c5 := hR5.cell (j := s) hlt
      have f5 := hR5.free s
      have hts := setCell_turns w5 tb s (.bool tg)
      have HW6 : Hid (Below w.heap.size w (w5.setCell ⟨tb, s, none⟩ (.bool tg)) ∧ Turns (fun k => k = tb) W0 (w5.setCell ⟨tb, s, none⟩ (.bool tg)) ∧ RowV (w5.setCell ⟨tb, s, none⟩ (.bool tg)) tb 4 Z (tgv tog (s + 1))) := by
        refine ⟨(below_next HJ3.out.1 hB8).setCell (show w.heap.size ≤ tb by have := HW0.out; omega) _, (HJ3.out.2.1.trans (Turns.of_below hB8 _)).trans hts, (hR5.set s _).congr fun x _ => ?_⟩
        unfold tgv
        by_cases hx : x = s
        · subst hx
          simp [HT.out]
        · have e1 : (decide (x < s + 1)) = decide (x < s) := by
            rw [decide_eq_decide]; omega
          simp only [hx, if_false, e1]
      clear hB8 hR5 hts
      go_wp2
      go_roundw
      case rel => exact ⟨s + 1, by omega, by omega, by simp, HW6.out⟩
      case measure => simp [numOf]; omega
    · have hsz : s = Z := by omega
      have k1 : ¬ (s : Int) ≤ (zm : Int) := by have := HZM.out; omega
      have HJ : Hid (Below w.heap.size w wr ∧ Turns (fun k => k = tb) W0 wr ∧ RowV wr tb 4 Z (tgv tog Z)) := hsz ▸ hJ.out
      have hE37 := enter37
      clear hsz hJ hlt
      go_upto_region 6 with (first | (go_at_call 35; refine Calls.mono (C35.out _) ?_; rintro e w3 ⟨rfl, h3⟩) | fail)
      have HJ3 : Hid (Below w.heap.size w w3 ∧ Turns (fun k => k = tb) W0 w3 ∧ RowV w3 tb 4 Z (tgv tog Z)) := ⟨below_next HJ.out.1 h3, HJ.out.2.1.trans (Turns.of_below h3 _), HJ.out.2.2.block (h3.block _ HJ.out.2.2.lt)⟩
      clear h3 HJ
      go_upto_region 9 with (fail)
      obtain ⟨bp, hbp⟩ : ∃ b, b = w3.heap.size := ⟨_, rfl⟩
      obtain ⟨bf, hbf⟩ : ∃ b, b = w3.heap.size + 1 := ⟨_, rfl⟩
      obtain ⟨WB, hWB⟩ : ∃ WB, WB = ((w3.alloc (Obj.cells #[Value.slice none 0 0] 47)).alloc (Obj.cells #[Value.func (Fn.func 37) #[] #[ptr bm, ptr w3.heap.size, ptr bs, ptr bt, ptr (w3.heap.size + 1)]] 65)) := ⟨_, rfl⟩
      have hBB : Below w3.heap.size w3 WB := by rw [hWB]; exact below_alloc (below_alloc (Below.refl _ w3) _) _
      have op : One WB bp (.slice none 0 0) 47 := by rw [hWB, hbp]; exact one_alloc' (heap_alloc_new _ _) _
      have ofn : One WB bf (.func (.func 37) #[] #[ptr bm, ptr bp, ptr bs, ptr bt, ptr bf]) 65 := by
        rw [hWB, hbf, hbp]
        have := heap_alloc_new (w3.alloc (Obj.cells #[Value.slice none 0 0] 47)) (Obj.cells #[Value.func (Fn.func 37) #[] #[ptr bm, ptr w3.heap.size, ptr bs, ptr bt, ptr (w3.heap.size + 1)]] 65)
        rw [show (w3.alloc (Obj.cells #[Value.slice none 0 0] 47)).heap.size = w3.heap.size + 1 by simp] at this
        exact this
      have hsB : WB.heap.size = w3.heap.size + 2 := by rw [hWB]; simp
      rw [← hWB, ← hbf, ← hbp]
      have hx := HW0.out
      have hh := HH.out
      have hw3 : w.heap.size + 4 ≤ w3.heap.size := by rw [← hx.2.2.2.2.2.1]; exact HJ3.out.2.1.size
      have hTB : Turns (fun k => k = tb) W0 WB := HJ3.out.2.1.trans (Turns.of_below hBB _)
      have hBW : Below w.heap.size w WB := below_next HJ3.out.1 hBB
      have hTw : Turns (fun _ => False) w WB := Turns.of_below hBW _
      have l1 := lt_of_block hh.1
      have l2 := lt_of_block hh.2.1
      have l3 := lt_of_block hh.2.2.1
      have l4 := hh.2.2.2.1.lt
      have l5 := hh.2.2.2.2.1.lt
      have hFx : FxT bm bs bt bf tb bn bw bq nb wb Z N K WB.heap.size bp tog near wanted WB := by
        refine ⟨one_turns hx.2.1 hTB (by omega), one_turns hx.2.2.1 hTB (by omega), one_turns hx.2.2.2.2.1 hTB (by omega), ?_, ofn, hh.2.2.2.2.2.1.below hBW, Nat.le_refl _, one_turns hh.1 hTw (fun h => h), one_turns hh.2.1 hTw (fun h => h), one_turns hh.2.2.1 hTw (fun h => h), hh.2.2.2.1.turns hTw (fun h => h), hh.2.2.2.2.1.turns hTw (fun h => h)⟩
        refine (HJ3.out.2.2.block (hBB.block _ HJ3.out.2.2.lt)).congr fun x hxZ => ?_
        unfold tgv
        simp [hxZ]
      have hPl : PlT bm bs bt bf tb bn bw bq nb wb WB.heap.size bp := ⟨by omega, by omega, by omega, by omega, by omega, by omega, by omega, by omega, by omega, by omega, by omega, hh.2.2.2.2.2.2.2.2.1⟩
      have hF := trF_ok (tog := tog) (K := K) hPl hh.2.2.2.2.2.2.2.2.2.1 hN hK hh.2.2.2.2.2.2.1 hh.2.2.2.2.2.2.2.1
      have C37 : Hid (∀ D, Below WB.heap.size WB D → Calls Tryd.prog 37 #[.int .u32 (zm : Int), ptr bm, ptr bp, ptr bs, ptr bt, ptr bf] D fun e w' => ∃ db, e = .returned (.bool db) ∧ Hid (Turns (fun k => k = bp ∨ (Value.slice none 0 0).ownBlock = some k ∨ k = bq) D w' ∧ ((db = true ∧ ∃ c, Cho tog zm.testBit c ∧ ([] ++ c).length = K ∧ goodT near wanted N K ([] ++ c) ∧ SeeTT near wanted N K WB.heap.size bq D.heap.size ([] ++ c) w') ∨ (db = false ∧ (∀ c, Cho tog zm.testBit c → ([] ++ c).length = K → ¬ goodT near wanted N K ([] ++ c)) ∧ ∃ v', PsV w' WB.heap.size bp v' [] ∧ Fresh D.heap.size (.slice none 0 0) v' ∧ Turns (fun k => k = bp ∨ (Value.slice none 0 0).ownBlock = some k) D w')))) := fun D hD => by
        have hTD : Turns (fun k => k = bp ∨ WB.heap.size ≤ k) WB D := Turns.of_below hD _
        have hP0 : PsV D WB.heap.size bp (.slice none 0 0) [] := ⟨⟨none, 0, rfl⟩, one_turns op (Turns.of_below hD (fun _ => False)) (fun h => h), World.ownsRow_nil _ _ _ _⟩
        refine (tr_call hF 33 zm [] (.slice none 0 0) D (by have := bl_len_le zm; omega) (by have := HZM.out.1; have := Nat.two_pow_pos N; omega) (hF.keep _ _ hFx hTD) hP0 (Nat.zero_le _) (fun p hp => by cases hp)).mono fun e w' h => ?_
        obtain ⟨db, h1, h2, h3⟩ := h.bool
        exact ⟨db, h1, h2, h3.out⟩
      have cf : WB.cell? ⟨bf, 0, none⟩ = some (.func (.func 37) #[] #[ptr bm, ptr bp, ptr bs, ptr bt, ptr bf]) := box_cell (i := 0) ofn rfl
      have HBW : Hid (Below w.heap.size w WB ∧ w.heap.size + 4 ≤ bp ∧ bq < w.heap.size ∧ One w bq (.slice none 0 0) 29) := ⟨hBW, by omega, l3, hh.2.2.1⟩
      have g0 := cell_growD cf
      clear hBB op ofn hsB hWB hbf hbp hx hh hw3 hTB hBW hTw l1 l2 l3 l4 l5 hFx hPl hF cf
      refine wp_region_tailT 4 (by kernel_rfl) (by kernel_rfl) (by kernel_rfl) (by decide) ?_
      simp only [List.take_succ_cons, List.take_zero, List.drop_succ_cons, List.drop_zero]
      repeat (go_big_quiet_step (first | (go_at_call 35; exact Calls.belowQ (fun W hW => C35.out W))))
      refine wpQuiet_nil ?_
      rintro _ ⟨gp, rfl⟩
      have hB8 := growD_below WB gp
      clear g0
      generalize growD WB gp = W5 at *
      have C37' : Hid _ := C37.out W5 hB8
      have HB8 : Hid (Below w.heap.size w W5) := below_next HBW.out.1 hB8
      clear hB8 C35 C37
      go_wp2_with (first | (go_at_call 37; refine Calls.mono C37'.out ?_; rintro e V2 ⟨db, rfl, hg⟩) | fail)
      go_ret
      obtain ⟨ht, hg⟩ := hg.out
      have hb := HBW.out
      have hz := HZM.out.1
      have hW5 : Turns (fun _ => False) w W5 := Turns.of_below HB8.out _
      refine ⟨db, rfl, (hW5.mono fun _ _ h => h.elim).next ht (fun i hi h => ?_), ?_⟩
      · rcases h with h | h | h
        · omega
        · cases h
        · exact h
      · rw [← hz]
        rcases hg with ⟨rfl, c, g1, g2, g3, l, g4, g5⟩ | ⟨rfl, g1, v', g2, g3, g4⟩
        · exact Or.inl ⟨rfl, c, l, g1, g2, g4, g5.lower (by have := HB8.out.size; omega)⟩
        · refine Or.inr ⟨rfl, fun c hc hl => ?_, one_turns (one_turns hb.2.2.2 hW5 (fun h => h)) g4 (fun h => ?_)⟩
          · have := g1 c hc hl
            unfold goodT at this
            simpa using this
          · rcases h with h | h
            · omega
            · cases h
end Go.Proofs.YthjkjanibkpgiaaDoor
