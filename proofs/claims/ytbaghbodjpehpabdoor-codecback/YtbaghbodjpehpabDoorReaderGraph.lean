/- graph of the reader of package codec. -/
import Derived.Test.YtbaghbodjpehpabDoorLines
namespace Go.Proofs.YtbaghbodjpehpabDoor
open Go.RowKit Go.Maps
attribute [local go_sem ↓] Go.wp_at_zero Go.wp_at_succ

structure GR (w wr : World) (B bg N : Nat) (s : ByteArray) (k : Nat) (v : Value) (acc : List Pair) : Prop where
  rd : RdAt w wr B s k
  res : Two wr w.heap.size (.int .i64 0) (.slice none 0 0) 24
  gb : Two wr bg (.int .i64 N) v 24
  own : wr.ownsRow (bg + 1) 34 2 v acc.length (flat acc)
  lt : w.heap.size < bg
  bl : B < w.heap.size

theorem grown_two {w w' : World} {B b : Nat} {x y : Value} {t : TypeId} (h : Two w b x y t) (hg : w.grownBy w' (some B)) (hne : b ≠ B) : Two w' b x y t := (hg.block b (lt_of_block h) (by simpa using hne)).trans h

theorem GR.next {w wr w1 : World} {B bg N : Nat} {s : ByteArray} {k k' : Nat} {v : Value} {acc : List Pair} (h : GR w wr B bg N s k v acc) (hr : RdAt wr w1 B s k') : GR w w1 B bg N s k' v acc := by
  have h1 := h.lt
  have h2 := h.bl
  refine ⟨h.rd.trans hr, grown_two h.res hr.kept (by omega), grown_two h.gb hr.kept (by omega), h.own.kept hr.kept ?_, h1, h2⟩
  cases e : v.ownBlock with
  | none => exact Or.inl rfl
  | some g =>
    refine Or.inr fun e' => ?_
    have h3 := (h.own.lt g e).1
    have h4 : g = B := by simpa using e'
    omega

theorem GR.push {w wr w3 : World} {B bg N : Nat} {s : ByteArray} {k : Nat} {v v' : Value} {acc : List Pair} {x y : Int} (h : GR w wr B bg N s k v acc) (hown : w3.ownsRow (bg + 1) 34 2 v' (acc.length + 1) (flat acc ++ [.int .i64 x, .int .i64 y])) (hg : (wr.alloc (Obj.cells #[.int .i64 x, .int .i64 y] 34)).grownBy w3 v.ownBlock) :
    Two w3 bg (.int .i64 N) v 24 ∧ GR w (w3.setCell ⟨bg, 1, none⟩ v') B bg N s k v' (acc ++ [(x, y)]) := by
  have h1 := h.lt
  have h2 := h.bl
  have hn : ∀ g, v.ownBlock = some g → bg + 1 ≤ g := fun g hgg => (h.own.lt g hgg).1
  have lg := lt_of_block h.gb
  have q : ∀ j, j < bg + 1 → w3.heap[j]? = wr.heap[j]? := fun j hj => by
    rw [hg.block j (by simp; omega) (fun e => by have := hn j e.symm; omega), Below.heap_alloc _ _ _ (by omega)]
  have hgb : Two w3 bg (.int .i64 N) v 24 := (q bg (by omega)).trans h.gb
  have p : ∀ j, j ≠ bg → (w3.setCell ⟨bg, 1, none⟩ v').heap[j]? = w3.heap[j]? := fun j hj => Below.heap_setCell _ _ _ _ (by simpa using hj)
  refine ⟨hgb, ⟨?_, ?_⟩, ?_, ?_, ?_, h1, h2⟩
  · exact (p B (by omega)).trans ((q B (by omega)).trans h.rd.box)
  · have hk := h.rd.kept
    refine ⟨hg.os.trans hk.os, hg.tape.trans hk.tape, hg.output.trans hk.output, ?_, fun j hj hne => ?_⟩
    · have h3 := hk.size
      have h4 := hg.size
      simp at h4
      simp [World.setCell]
      omega
    · rw [p j (by omega), q j (by omega)]
      exact hk.block j hj hne
  · exact (p _ (by omega)).trans ((q _ (by omega)).trans h.res)
  · simp [Two, World.setCell, Array.getElem?_modify, hgb]
  · have := ownsRow_setCell_below (a := ⟨bg, 1, none⟩) hown (by simp) v'
    rw [flat_snoc]
    simpa using this

theorem number_ok (s : ByteArray) (B k : Nat) (w : World) (hB : Two w B (.string s) (.int .i64 k) 45) (hs : s.size ≤ 20000) (hk : k ≤ s.size) (h : numOk s k (runEnd s k)) :
    Calls Tryd.prog 34 #[.pointer (some ⟨B, 0, none⟩)] w fun e w' => e = .returned (.int .i64 (numAt s k)) ∧ RdAt w w' B s (runEnd s k) :=
  number_any s B k (runEnd s k) w hB hs (run_at s k hk) (Or.inl ⟨h, rfl⟩)
theorem number_no (s : ByteArray) (B k : Nat) (w : World) (hB : Two w B (.string s) (.int .i64 k) 45) (hs : s.size ≤ 20000) (hk : k ≤ s.size) (h : ¬ numOk s k (runEnd s k)) :
    Calls Tryd.prog 34 #[.pointer (some ⟨B, 0, none⟩)] w fun e w' => e = gaveUp 1 k ∧ w.grownBy w' (some B) := by
  refine (number_any s B k (runEnd s k) w hB hs (run_at s k hk) (Or.inr ⟨h, rfl⟩)).mono ?_
  rintro e w' ⟨rfl, hr⟩
  exact ⟨rfl, hr.kept⟩

theorem must_yes' (s : ByteArray) (B k b : Nat) (w : World) (hB : Two w B (.string s) (.int .i64 k) 45) (hs : s.size ≤ 20000) (h : k < s.size ∧ byteAt s k = b) :
    Calls Tryd.prog 35 #[.pointer (some ⟨B, 0, none⟩), .int .u8 b] w fun e w' => e = .returned (.tuple #[]) ∧ RdAt w w' B s (k + 1) :=
  must_yes s B k b w hB h.1 hs ((byteAt_get s k h.1).trans h.2)
theorem miss {s : ByteArray} {k b : Nat} (hk : k ≤ s.size) (h : ¬ (k < s.size ∧ byteAt s k = b)) : k = s.size ∨ ∃ h : k < s.size, s[k].toNat ≠ b := by
  by_cases hlt : k < s.size
  · right
    refine ⟨hlt, ?_⟩
    rw [byteAt_get s k hlt]
    exact fun e => h ⟨hlt, e⟩
  · left; omega

/-- What graph answers. -/
def GraphTells (R : Got × Nat) (w : World) (B : Nat) (e : Ending) (w' : World) : Prop :=
  w.grownBy w' (some B) ∧ ((∃ p, R.1 = .fault p ∧ e = gaveUp 1 p) ∨ (∃ es k ao cap, R.1 = .edges es k ∧ e = .returned (.agg #[.int .i64 R.2, .slice ao es.length cap]) ∧ EdgesAt w' (.slice ao es.length cap) es ∧ ∀ x, ao = some x → w.heap.size ≤ x.block))

set_option maxRecDepth 100000 in
set_option maxHeartbeats 4000000 in
theorem graph_bad1 (s : ByteArray) (B : Nat) (w : World) (hB : Two w B (.string s) (.int .i64 0) 45) (hs : s.size ≤ 20000) (h : ¬ numOk s 0 (runEnd s 0)) :
    Calls Tryd.prog 22 #[.pointer (some ⟨B, 0, none⟩)] w fun e w' => e = gaveUp 1 0 ∧ w.grownBy w' (some B) := by
  have hb := two_alloc hB (Obj.cells #[.int .i64 0, .slice none 0 0] 24)
  go_enter Tryd.func22, Tryd.ntmps22
  go_wp2_with (go_at_call 34; refine (number_no s B 0 _ hb hs (Nat.zero_le _) h).mono ?_; rintro e w1 ⟨rfl, hk⟩)
  exact ⟨rfl, rfl, (World.grownBy_alloc w _ _).trans hk⟩

set_option maxRecDepth 100000 in
set_option maxHeartbeats 8000000 in
theorem graph_go (s : ByteArray) (B : Nat) (w : World) (hB : Two w B (.string s) (.int .i64 0) 45) (hs : s.size ≤ 20000) (h : numOk s 0 (runEnd s 0)) {R : Got × Nat} (hR : lineS s = R) :
    Calls Tryd.prog 22 #[.pointer (some ⟨B, 0, none⟩)] w (GraphTells R w B) := by
  obtain ⟨i0, hi, hz0, hz1, hz2⟩ := info_parts Tryd.info34
  have hb := two_alloc hB (Obj.cells #[.int .i64 0, .slice none 0 0] 24)
  have hbl := lt_of_block hB
  have hn9 := numAt_bd s 0 (Nat.zero_le _) h
  have hrun := run_at s 0 (Nat.zero_le _)
  have hle := hrun.end_le
  have HR : Hid _ := hR
  clear hR
  go_enter Tryd.func22, Tryd.ntmps22
  go_upto_region 2 with (go_at_call 34; refine (number_ok s B 0 _ hb hs (Nat.zero_le _) h).mono ?_; rintro e w1 ⟨rfl, hr1⟩)
  have g1 : GR w (w1.alloc (Obj.cells #[.int .i64 (numAt s 0), .slice none 0 0] 24)) B w1.heap.size (numAt s 0) s (runEnd s 0) (.slice none 0 0) [] := by
    have hk := hr1.kept
    have hsz := hk.size
    simp at hsz
    refine ⟨⟨two_alloc hr1.box _, ((World.grownBy_alloc w _ _).trans hk).trans (World.grownBy_alloc _ _ _)⟩, two_alloc (grown_two (two_new w _ _ _) hk (by omega)) _, two_new _ _ _ _, World.ownsRow_nil _ _ _ _, by omega, hbl⟩
  have hbg : w.heap.size < w1.heap.size := g1.lt
  generalize w1.heap.size = bg at g1 hbg ⊢
  generalize w1.alloc (Obj.cells #[.int .i64 (numAt s 0), .slice none 0 0] 24) = W at g1 ⊢
  by_cases hcol : runEnd s 0 < s.size ∧ byteAt s (runEnd s 0) = 58
  · obtain ⟨P, hP⟩ : ∃ P, parseE s (s.size + 1) (runEnd s 0 + 1) [] = P := ⟨_, rfl⟩
    have hL : lineS s = endS s (numAt s 0) P := by
      unfold lineS
      rw [if_pos h, if_pos hcol, hP]
    have hRL := HR.out
    rw [hL] at hRL
    have HRL : Hid _ := hRL
    have HP : Hid _ := hP
    have hN : numAt s 0 ≤ 999 := hn9
    generalize numAt s 0 = N at g1 HRL hN ⊢
    clear hL hRL hP HR hn9 hrun h
    go_upto_region 3 with (go_at_call 35; refine (must_yes' s B (runEnd s 0) 58 _ g1.rd.box hs hcol).mono ?_; rintro e w2 ⟨rfl, hr2⟩)
    have g2 := g1.next hr2
    clear g1 hr2
    go_loopw [11] (fun _ wr => ∃ k f v acc, k ≤ s.size ∧ s.size < f + k ∧ acc.length ≤ k ∧ (∀ e ∈ acc, (0 ≤ e.1 ∧ e.1 ≤ 999) ∧ 0 ≤ e.2 ∧ e.2 ≤ 999) ∧ parseE s f k acc = P ∧ GR w wr B bg N s k v acc) (fun _ wr => s.size - rdPos wr B)
    case atStart => exact ⟨runEnd s 0 + 1, s.size + 1, _, [], by omega, by omega, by simp, by simp, HP.out, g2⟩
    case round =>
      obtain ⟨k, f, v, acc, hk, hf, hal, hin, hp, g3⟩ := hrel
      clear g2
      have hpos := rdPos_at g3.rd
      obtain ⟨vo, vc, rfl⟩ := form_row g3.own
      have HIN : Hid _ := hin
      clear hin
      by_cases hsp : k < s.size ∧ byteAt s k = 32
      · obtain ⟨f', rfl⟩ : ∃ f', f = f' + 1 := ⟨f - 1, by omega⟩
        rw [parseE, if_pos hsp] at hp
        have hX : s[k].toNat = 32 := (byteAt_get s k hsp.1).trans hsp.2
        go_upto_region 4 with (go_at_call 36; refine (goesOn_yes s B k 32 _ g3.rd.box hsp.1 hs hX).mono ?_; rintro e w3 ⟨rfl, hr3⟩)
        have g4 := g3.next hr3
        clear g3 hr3
        have hk1 : k + 1 ≤ s.size := hsp.1
        by_cases hn1 : numOk s (k + 1) (runEnd s (k + 1))
        · rw [if_pos hn1] at hp
          have hb1 := numAt_bd s (k + 1) hk1 hn1
          have hr1 := run_at s (k + 1) hk1
          have le1 := hr1.le
          have le2 := hr1.end_le
          go_upto_region 5 with (go_at_call 34; refine (number_ok s B (k + 1) _ g4.rd.box hs hk1 hn1).mono ?_; rintro e w4 ⟨rfl, hr4⟩)
          have g5 := g4.next hr4
          clear g4 hr4 hr1
          generalize runEnd s (k + 1) = e1 at hp g5 le1 le2
          generalize numAt s (k + 1) = x1 at hp hb1 ⊢
          by_cases hd : e1 < s.size ∧ byteAt s e1 = 45
          · rw [if_pos hd] at hp
            go_upto_region 6 with (go_at_call 35; refine (must_yes' s B e1 45 _ g5.rd.box hs hd).mono ?_; rintro e w5 ⟨rfl, hr5⟩)
            have g6 := g5.next hr5
            clear g5 hr5
            have hk2 : e1 + 1 ≤ s.size := hd.1
            by_cases hn2 : numOk s (e1 + 1) (runEnd s (e1 + 1))
            · rw [if_pos hn2] at hp
              have hb2 := numAt_bd s (e1 + 1) hk2 hn2
              have hr2 := run_at s (e1 + 1) hk2
              have le3 := hr2.le
              have le4 := hr2.end_le
              go_upto_region 7 with (go_at_call 34; refine (number_ok s B (e1 + 1) _ g6.rd.box hs hk2 hn2).mono ?_; rintro e w6 ⟨rfl, hr6⟩)
              have g7 := g6.next hr6
              clear g6 hr6 hr2
              generalize runEnd s (e1 + 1) = e2 at hp g7 le3 le4
              generalize numAt s (e1 + 1) = x2 at hp hb2 ⊢
              obtain ⟨c0, c1, c2⟩ := kk g7.gb
              have lg := lt_of_block g7.gb
              go_wp2_with (at_builtin; refine wpList_append_own _ rfl _ _ 22 rfl (bg + 1) 34 i0 (.agg #[.int .i64 0, .int .i64 0]) 2 16 Tryd.underlying22 hi hz0 hz1 hz2 rfl (by decide) _ _ _ rfl (g7.own.alloc _) ⟨w6.heap.size, 0, none⟩ 1 1 [.int .i64 x1, .int .i64 x2] rfl rfl ?n1 ?n2 ?n3 ?n4 ?n5 ?_)
              case n1 =>
                intro k x hk
                match k, hk with
                | 0, hk => simp at hk; subst hk; simp [Addr.add]
                | 1, hk => simp at hk; subst hk; simp [Addr.add]
              case n2 => intro x hx; simp at hx; rcases hx with rfl | rfl <;> rfl
              case n3 => unfold maxLen; omega
              case n4 => omega
              case n5 => simp; omega
              intro v' w7 hown' hgrow _
              obtain ⟨vo', vc', rfl⟩ := form_row hown'
              obtain ⟨tg7, g8⟩ := g7.push hown' hgrow
              obtain ⟨d0, d1, d2⟩ := kk tg7
              clear hown' hgrow g7 c0 c1 c2
              have hpos2 := rdPos_at g8.rd
              go_wp2
              go_roundw
              case rel =>
                refine ⟨e2, f', _, acc ++ [((x1 : Int), (x2 : Int))], le4, by omega, by simp; omega, ?_, hp, g8⟩
                intro e he
                rcases List.mem_append.1 he with he | he
                · exact HIN.out e he
                · simp at he; subst he; simp; omega
              case measure => rw [hpos2, hpos]; omega
            · rw [if_neg hn2] at hp
              subst hp
              have hRR := HRL.out
              subst hRR
              go_wp2_with (go_at_call 34; refine (number_no s B (e1 + 1) _ g6.rd.box hs hk2 hn2).mono ?_; rintro e w6 ⟨rfl, hk6⟩)
              exact ⟨rfl, g6.rd.kept.trans hk6, Or.inl ⟨_, rfl, rfl⟩⟩
          · rw [if_neg hd] at hp
            subst hp
            have hRR := HRL.out
            subst hRR
            go_wp2_with (go_at_call 35; refine (must_no s B e1 45 _ g5.rd.box (miss le2 hd)).mono ?_; rintro e w6 ⟨rfl, hk6⟩)
            exact ⟨rfl, g5.rd.kept.trans hk6, Or.inl ⟨_, rfl, rfl⟩⟩
        · rw [if_neg hn1] at hp
          subst hp
          have hRR := HRL.out
          subst hRR
          go_wp2_with (go_at_call 34; refine (number_no s B (k + 1) _ g4.rd.box hs hk1 hn1).mono ?_; rintro e w6 ⟨rfl, hk6⟩)
          exact ⟨rfl, g4.rd.kept.trans hk6, Or.inl ⟨_, rfl, rfl⟩⟩
      · have hPe : P = .edges acc k := by
          rw [← hp]
          cases f with
          | zero => rfl
          | succ f => rw [parseE, if_neg hsp]
        subst hPe
        have hRR := HRL.out
        simp only [endS] at hRR
        clear hp HP HRL
        go_upto_region 8 with (go_at_call 36; refine (goesOn_not s B k 32 _ g3.rd.box (miss hk hsp)).mono ?_; rintro e w3 ⟨rfl, hr3⟩)
        have g4 := g3.next hr3
        clear g3 hr3
        by_cases hnl : k < s.size ∧ byteAt s k = 10
        · rw [if_pos hnl] at hRR
          go_upto_region 9 with (go_at_call 35; refine (must_yes' s B k 10 _ g4.rd.box hs hnl).mono ?_; rintro e w4 ⟨rfl, hr4⟩)
          have g5 := g4.next hr4
          clear g4 hr4
          obtain ⟨c0, c1, c2⟩ := kk g5.rd.box
          by_cases hmore : k + 1 < s.size
          · rw [if_pos hmore] at hRR
            subst hRR
            have hm1 : ((k + 1 : Nat) : Int) < (s.size : Int) := by omega
            go_quiet (fail)
            have hr6 := rd_drew g5.rd.box nq
            have g6 := g5.next hr6
            generalize w4.drewN nq = V at g6 ⊢
            obtain ⟨d0, d1, d2⟩ := kk g6.rd.box
            clear c0 c1 c2 hr6 g5
            go_wp2_with (go_at_call 32; refine (giveUp_any _ _ _).mono ?_; rintro e w6 ⟨rfl, rfl⟩)
            exact ⟨rfl, g6.rd.kept, Or.inl ⟨_, rfl, rfl⟩⟩
          · rw [if_neg hmore] at hRR
            subst hRR
            have hke : k + 1 = s.size := by omega
            have hm1 : ¬ ((k + 1 : Nat) : Int) < (s.size : Int) := by omega
            go_quiet (fail)
            have hr6 := rd_drew g5.rd.box nq
            have g6 := g5.next hr6
            generalize w4.drewN nq = V at g6 ⊢
            clear c0 c1 c2 hr6 g5
            obtain ⟨d0, d1, d2⟩ := kk g6.gb
            obtain ⟨q0, q1, q2⟩ := kk g6.res
            have hE := edgesAt_row g6.own (fun e he => by have := HIN.out e he; constructor <;> constructor <;> omega) (by omega)
            have hfr : ∀ x, vo = some x → bg + 1 ≤ x.block := fun x hx => (g6.own.lt _ (by rw [hx]; rfl)).1
            go_wp2
            refine bodyPost_ret (v := .agg #[.int .i64 N, .slice vo acc.length vc]) ?_ rfl ⟨?_, Or.inr ⟨acc, k, vo, vc, rfl, rfl, ?_, ?_⟩⟩
            · simp [results, Tryd.results22, go_sem, q0, q1]
            · have hkk := g6.rd.kept
              refine ⟨hkk.os, hkk.tape, hkk.output, by have := hkk.size; simp [World.setCell]; omega, fun j hj hne => ?_⟩
              rw [Below.heap_setCell _ _ _ _ (by simp; omega), Below.heap_setCell _ _ _ _ (by simp; omega)]
              exact hkk.block j hj hne
            · exact (hE.setCell (fun x hx => by have := hfr x hx; simp; omega) _).setCell (fun x hx => by have := hfr x hx; simp; omega) _
            · intro x hx
              have := hfr x hx
              omega
        · rw [if_neg hnl] at hRR
          subst hRR
          go_wp2_with (go_at_call 35; refine (must_no s B k 10 _ g4.rd.box (miss hk hnl)).mono ?_; rintro e w6 ⟨rfl, hk6⟩)
          exact ⟨rfl, g4.rd.kept.trans hk6, Or.inl ⟨_, rfl, rfl⟩⟩
  · have hL : lineS s = (.fault (runEnd s 0), 0) := by unfold lineS; rw [if_pos h, if_neg hcol]
    have hRR := HR.out
    rw [hL] at hRR
    subst hRR
    go_wp2_with (go_at_call 35; refine (must_no s B (runEnd s 0) 58 _ g1.rd.box (miss hle hcol)).mono ?_; rintro e w2 ⟨rfl, hk⟩)
    exact ⟨rfl, g1.rd.kept.trans hk, Or.inl ⟨_, rfl, rfl⟩⟩

theorem graph_any (s : ByteArray) (B : Nat) (w : World) (hB : Two w B (.string s) (.int .i64 0) 45) (hs : s.size ≤ 20000) :
    Calls Tryd.prog 22 #[.pointer (some ⟨B, 0, none⟩)] w (GraphTells (lineS s) w B) := by
  by_cases h : numOk s 0 (runEnd s 0)
  · exact graph_go s B w hB hs h rfl
  · refine (graph_bad1 s B w hB hs h).mono ?_
    rintro e w' ⟨rfl, hk⟩
    exact ⟨hk, Or.inl ⟨0, by unfold lineS; rw [if_neg h], rfl⟩⟩
end Go.Proofs.YtbaghbodjpehpabDoor
