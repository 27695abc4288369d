/- findHole: a ring without a chord, or that there is none. -/
import Derived.Test.YtkkfjfphmlcieaaGreatShortW
namespace Go.Proofs.YtkkfjfphmlcieaaGreat
set_option maxRecDepth 4000
open Go.RowKit Go.Maps
attribute [local go_sem ↓] Go.wp_at_zero Go.wp_at_succ
/-- No way from a leads round v. -/
def NoW (N : Nat) (adj : Nat → Nat → Bool) (v a : Nat) : Prop := ∃ Q bk, Bq N adj (fun u => u != v && !adj v u) (fun u => adj v u && !adj a u) a Q bk Q.length
def FindEnd (N : Nat) (adj : Nat → Nat → Bool) (base : Nat) (r : Ending) (w' : World) : Prop :=
  (r = .returned (.slice none 0 0) ∧ ∀ v a, v < N → a < N → adj v a = true → NoW N adj v a) ∨
  ∃ (h : List Nat) (po : Option Addr) (pc : Nat), r = .returned (.slice po h.length pc) ∧ w'.ownsRow base 3 1 (.slice po h.length pc) h.length (qv h) ∧ IsHole N adj h
theorem chain_pos {bk : Nat → Int} {v : Nat} {W : List Nat} (h : Chain bk v W) : 0 < W.length := by
  obtain ⟨l, rfl⟩ := chain_head h
  simp
set_option maxHeartbeats 4000000 in
theorem findHole_call {w : World} {ao : Option Addr} {cap N : Nat} {bl : Nat → Nat} {adj : Nat → Nat → Bool} (hnear : NearsAt w ao N bl adj) (hN : N ≤ 100) (hs : ∀ x y, adj x y = adj y x) (hi : ∀ x, adj x x = false) :
    Calls Tryz.prog 36 #[.slice ao N cap] w fun r w' => FindEnd N adj w.heap.size r w' ∧ Below w.heap.size w w' := by
  have HNR : Hid (NearsAt w ao N bl adj) := hnear
  have HS : Hid (∀ x y, adj x y = adj y x) := hs
  have HI : Hid (∀ x, adj x x = false) := hi
  have hN6 : N ≤ 1000000 := by omega
  have h41 : ∀ args w', (callFunc 56 args).run Tryz.prog w' = .ok (.enter 56 args) w' := enters_of Tryz.func56 (by kernel_rfl) rfl
  have h43 : ∀ args w', (callFunc 57 args).run Tryz.prog w' = .ok (.enter 57 args) w' := enters_of Tryz.func57 (by kernel_rfl) rfl
  clear hnear hs hi
  go_enter Tryz.func36, Tryz.ntmps36
  go_upto_region 1 with (fail)
  have o1 := one_new w (.slice ao N cap) 61
  have hB0 := below_alloc (Below.refl _ w) (Obj.cells #[.slice ao N cap] 61)
  obtain ⟨b1, hb1⟩ : ∃ b, b = w.heap.size := ⟨_, rfl⟩
  rw [← hb1] at o1 ⊢
  generalize w.alloc (Obj.cells #[.slice ao N cap] 61) = W0 at o1 hB0 ⊢
  have HO1 : Hid (One W0 b1 (.slice ao N cap) 61) := o1
  have q1 : W0.cell? ⟨b1, 0, none⟩ = some (.slice ao N cap) := box_cell o1 rfl
  clear o1 hb1
  go_wp2
  clear q1
  go_loopw [11] (fun s wr => ∃ k : Nat, k ≤ N ∧ s = .int .i64 (k : Int) ∧ (∀ v a, v < k → a < N → adj v a = true → NoW N adj v a) ∧ Below W0.heap.size W0 wr) (fun s _ => N - (numOf s).toNat)
  case atStart => exact ⟨0, Nat.zero_le _, rfl, fun v a h => by omega, Below.refl _ _⟩
  case round =>
    obtain ⟨k, hk, rfl, hno, hBr⟩ := hrel
    have HNO : Hid (∀ v a, v < k → a < N → adj v a = true → NoW N adj v a) := hno
    clear hno
    by_cases hlt : k < N
    · have q1 : wr.cell? ⟨b1, 0, none⟩ = some (.slice ao N cap) := box_cell ((hBr.block _ (lt_of_block HO1.out)).trans HO1.out) rfl
      have i1 : (0 : Int) ≤ (k : Int) := by omega
      have i2 : (k : Int) < (N : Int) := by omega
      go_upto_region 4 with (fail)
      have o3 := one_new wr (.int .i64 (k : Int)) 3
      have hB3 := below_alloc hBr (Obj.cells #[.int .i64 (k : Int)] 3)
      have q1' := all_alloc q1 (Obj.cells #[.int .i64 (k : Int)] 3)
      obtain ⟨b3, hb3⟩ : ∃ b, b = wr.heap.size := ⟨_, rfl⟩
      rw [← hb3] at o3 ⊢
      generalize wr.alloc (Obj.cells #[.int .i64 (k : Int)] 3) = W3 at o3 hB3 q1' ⊢
      have q3 : W3.cell? ⟨b3, 0, none⟩ = some (.int .i64 (k : Int)) := box_cell o3 rfl
      have hnr := HNR.out.below (below_next hB0 hB3)
      obtain ⟨gn, rfl, cn⟩ := hnr.row k hlt
      have h35 := rising_call (hnr.sets k hlt) hN6
      obtain ⟨L, hL⟩ : ∃ L, L = listN N (adj k) := ⟨_, rfl⟩
      rw [← hL] at h35
      have HL : Hid (L = listN N (adj k)) := hL
      have H35 : Hid (Calls Tryz.prog 51 #[.map (some (bl k))] W3 fun e w' => ∃ v, e = .returned v ∧ w'.ownsRow W3.heap.size 3 1 v L.length (qv L) ∧ Below W3.heap.size W3 w') := h35
      have hLN : L.length ≤ N := by
        rw [hL]; unfold listN
        exact Nat.le_trans (List.length_filter_le _ _) (by simp)
      clear hL hnr h35 q1 hb3
      go_wp2_with (first | (go_at_call 51; refine Calls.mono H35.out ?_; rintro e wl ⟨v, rfl, hown, hbl⟩; obtain ⟨lo, lc, rfl⟩ := form_row hown) | go_in)
      have HNL : Hid (NumsAt wl lo L) := numsAt_own hown
      have HB0l : Hid (Below W0.heap.size W0 wl) := below_next hB3 hbl
      have HO3 : Hid (One wl b3 (.int .i64 (k : Int)) 3) := (hbl.block _ (lt_of_block o3)).trans o3
      clear q1' q3 cn H35 hown hbl hB3 o3 hBr
      obtain ⟨Wl, hWl⟩ : ∃ Wl, Wl = wl := ⟨_, rfl⟩
      rw [← hWl] at HNL HB0l HO3 ⊢
      clear hWl
      go_loopw [20] (fun s wz => ∃ j : Nat, j ≤ L.length ∧ s = .int .i64 (j : Int) ∧ (∀ t, t < j → NoW N adj k (L.getD t 0)) ∧ Below Wl.heap.size Wl wz) (fun s _ => L.length - (numOf s).toNat)
      case atStart => exact ⟨0, Nat.zero_le _, rfl, fun t h => by omega, Below.refl _ _⟩
      case round =>
        obtain ⟨j, hj, rfl, hno2, hBz⟩ := hrel
        have HNO2 : Hid (∀ t, t < j → NoW N adj k (L.getD t 0)) := hno2
        clear hno2
        have HB0z : Hid (Below W0.heap.size W0 wr) := below_next HB0l.out hBz
        by_cases hjl : j < L.length
        · obtain ⟨a, hay⟩ : ∃ a, a = L.getD j 0 := ⟨_, rfl⟩
          have hget : L[j]? = some a := by rw [hay]; simp [List.getD, List.getElem?_eq_getElem hjl]
          have haL : a ∈ listN N (adj k) := by rw [← HL.out, hay]; exact getD_memC hjl
          obtain ⟨haN, hka⟩ := listN_mem.1 haL
          obtain ⟨bL, rfl, cy⟩ := (HNL.out.below hBz) j a hget
          have q1 : wr.cell? ⟨b1, 0, none⟩ = some (.slice (some ⟨gn, 0, none⟩) N cap) := box_cell ((HB0z.out.block _ (lt_of_block HO1.out)).trans HO1.out) rfl
          have q3 : wr.cell? ⟨b3, 0, none⟩ = some (.int .i64 (k : Int)) := box_cell ((hBz.block _ (lt_of_block HO3.out)).trans HO3.out) rfl
          have HA : Hid (a = L.getD j 0) := hay
          have HKA : Hid (adj k a = true) := hka
          have k1 : (0 : Int) ≤ (j : Int) := by omega
          have k2 : (j : Int) < (L.length : Int) := by omega
          clear hay hget haL hka
          go_upto_region 7 with (fail)
          have o5 := one_new wr (.int .i64 (a : Int)) 3
          have hB5 := below_alloc hBz (Obj.cells #[.int .i64 (a : Int)] 3)
          have q1' := all_alloc q1 (Obj.cells #[.int .i64 (a : Int)] 3)
          have q3' := all_alloc q3 (Obj.cells #[.int .i64 (a : Int)] 3)
          obtain ⟨b5, hb5⟩ : ∃ b, b = wr.heap.size := ⟨_, rfl⟩
          rw [← hb5] at o5 ⊢
          generalize wr.alloc (Obj.cells #[.int .i64 (a : Int)] 3) = W5 at o5 hB5 q1' q3' ⊢
          have q5 : W5.cell? ⟨b5, 0, none⟩ = some (.int .i64 (a : Int)) := box_cell o5 rfl
          have hB05 := below_next hB0 (below_next HB0l.out hB5)
          have hnr := HNR.out.below hB05
          have h44 := shortWay_call (cap := cap) hnr hN haN (opn := fun u => u != k && !adj k u) (lst := fun u => adj k u && !adj a u) 56 57 #[ptr b3, ptr b1] #[ptr b1, ptr b3, ptr b5] h41 h43
            (fun W hW x hx => far_call (hnr.below hW) (by omega) ((hW.cell (World.block_lt_of_cell? _ _ q3')).trans q3') ((hW.cell (World.block_lt_of_cell? _ _ q1')).trans q1') hlt hx)
            (fun W hW x hx => last_call (hnr.below hW) (by omega) ((hW.cell (World.block_lt_of_cell? _ _ q1')).trans q1') ((hW.cell (World.block_lt_of_cell? _ _ q3')).trans q3') ((hW.cell (World.block_lt_of_cell? _ _ q5)).trans q5) hlt haN hx)
          have H44 : Hid (Calls Tryz.prog 58 #[.slice (some ⟨gn, 0, none⟩) N cap, .int .i64 (a : Int), .func (.func 56) #[] #[ptr b3, ptr b1], .func (.func 57) #[] #[ptr b1, ptr b3, ptr b5]] W5 fun r w' => ShortEnd N adj (fun u => u != k && !adj k u) (fun u => adj k u && !adj a u) a W5.heap.size r w' ∧ Below W5.heap.size W5 w') := h44
          have HB5 : Hid (Below Wl.heap.size Wl W5) := hB5
          have HO3z : Hid (One W5 b3 (.int .i64 (k : Int)) 3) := (hB5.block _ (lt_of_block HO3.out)).trans HO3.out
          have HBw5 : Hid (Below w.heap.size w W5) := hB05
          clear q1 q3 cy hb5 o5 hB5 h44 hnr hB05 hBz
          go_upto_region 10 with (first | (go_at_call 58; refine Calls.mono H44.out ?_; rintro r w6 ⟨hend, hb6⟩; rcases hend with ⟨rfl, hnone⟩ | ⟨Q, bk, i, u, W, po, pc, rfl, hownW, hbq, hiq, huN, hadj, hbk, hlst, hch, hWN⟩) | go_in)
          · have HX : Hid (NoW N adj k a) := hnone
            go_wp2
            go_roundw
            case rel => exact ⟨j + 1, by omega, by go_num, fun t ht => by
              by_cases e : t = j
              · rw [e, ← HA.out]; exact HX.out
              · exact HNO2.out t (by omega), below_next HB5.out hb6⟩
            case measure => simp [numOf]; omega
          · have hWp := chain_pos hch
            have HHOLE : Hid (IsHole N adj (W ++ [k])) := hbq.hole HS.out HI.out hlt HKA.out (fun x _ hx => by simpa using hx) (fun x hx => by simpa using hx) hiq huN hadj hbk hlst hch
            have HOW : Hid (w6.ownsRow W5.heap.size 3 1 (.slice po W.length pc) W.length (qv W)) := hownW
            have q3'' : w6.cell? ⟨b3, 0, none⟩ = some (.int .i64 (k : Int)) := box_cell ((hb6.block _ (lt_of_block HO3z.out)).trans HO3z.out) rfl
            have hsz6 := hb6.size
            have hWl : W.length ≤ 1000 := by
              have := HHOLE.out
              have hnd : ∀ (l m : List Nat), l.Nodup → (∀ e ∈ l, e ∈ m) → l.length ≤ m.length := by
                intro l
                induction l with
                | nil => intro m _ _; exact Nat.zero_le _
                | cons x l ih =>
                  intro m hn hs
                  have hn' := List.nodup_cons.1 hn
                  have hx := hs x (by simp)
                  have h1 := ih (m.erase x) hn'.2 (fun e he => (List.mem_erase_of_ne (fun (h : e = x) => hn'.1 (h ▸ he))).2 (hs e (by simp [he])))
                  rw [List.length_erase_of_mem hx] at h1
                  have := List.length_pos_of_mem hx
                  simp
                  omega
              have h2 := hnd (W ++ [k]) (List.range N) (List.pairwise_iff_getElem.2 (fun i j hi hj hij e => by
                have h3 := this.ne i j hij hj
                simp only [List.getD, List.getElem?_eq_getElem hi, List.getElem?_eq_getElem hj, Option.getD_some] at h3
                exact h3 e)) (fun e he => List.mem_range.2 (this.lt e he))
              simp at h2
              omega
            have kW : (W.length : Int) > 0 := by omega
            have HB6 : Hid (Below w.heap.size w w6) := below_next HBw5.out hb6
            have hszw := HBw5.out.size
            clear hbq hiq huN hadj hbk hlst hch hWN hownW hb6 q1' q3' q5
            go_wp2_with (first | (at_builtin; refine wpList_pushA (x := k) rfl _ _ rfl rfl rfl HOW.out (by omega) hsz6 ?_; intro g1 c1 w7 hown1 hgr1 hat1) | go_in)
            have T1 := (alloc_turns w6 (Obj.cells #[.int .i64 (k : Int)] 3) (fun x => some x = (Value.slice po W.length pc).ownBlock)).trans (Turns.of_grown hgr1)
            have hB7 : Below w.heap.size w w7 := Turns.below HB6.out T1 HB6.out.size (fun x hx => by have := (HOW.out.lt x hx.symm).1; omega)
            go_ret
            exact ⟨Or.inr ⟨W ++ [k], some ⟨g1, 0, none⟩, c1, by rw [List.length_append]; rfl, ownsRow_mono hown1 hszw, HHOLE.out⟩, hB7⟩
        · have k2 : ¬ (j : Int) < (L.length : Int) := by omega
          have hjL : j = L.length := by omega
          go_wp2
          go_roundw
          case rel => exact ⟨k + 1, by omega, by go_num, fun v a hv ha hva => by
            by_cases e : v = k
            · subst e
              have haL : a ∈ L := by rw [HL.out]; exact listN_mem.2 ⟨ha, hva⟩
              obtain ⟨t, ht, e⟩ := List.getElem_of_mem haL
              have := HNO2.out t (by omega)
              have e' : L.getD t 0 = a := by simp [List.getD, List.getElem?_eq_getElem ht, e]
              rw [e'] at this
              exact this
            · exact HNO.out v a (by omega) ha hva, HB0z.out⟩
          case measure => simp [numOf]; omega
    · have i2 : ¬ (k : Int) < (N : Int) := by omega
      have hkN : k = N := by omega
      go_wp2
      go_ret
      exact ⟨Or.inl ⟨rfl, fun v a hv ha hva => HNO.out v a (by omega) ha hva⟩, below_next hB0 hBr⟩
end Go.Proofs.YtkkfjfphmlcieaaGreat
