/- unwind: as many ways as come out of the steps. -/
import Derived.Test.YtkakmaalmhofmaaTakeW
import Derived.Test.YtkakmaalmhofmaaRise
import Derived.Test.YtkakmaalmhofmaaPipes
namespace Go.Proofs.Ytkakmaalmhofmaa
open Go.RowKit Go.Maps
attribute [local go_sem ↓] Go.wp_at_zero Go.wp_at_succ

/-- Ways one after another, each along steps that the ones before have left. -/
def Ways (N s t : Nat) (e e' : Nat → Nat → Bool) (ls : List (List Nat)) : Prop :=
  ∃ es : Nat → Nat → Nat → Bool, es 0 = e ∧ es ls.length = e' ∧ ∀ (i : Nat) l, ls[i]? = some l → WayTo N (es i) (es (i + 1)) s t l
theorem Ways.start (N s t : Nat) (e : Nat → Nat → Bool) : Ways N s t e e [] := ⟨fun _ => e, rfl, rfl, fun i l h => by simp at h⟩
theorem Ways.put {N s t : Nat} {e e' e'' : Nat → Nat → Bool} {ls : List (List Nat)} {l : List Nat} (h : Ways N s t e e' ls) (hw : WayTo N e' e'' s t l) : Ways N s t e e'' (ls ++ [l]) := by
  obtain ⟨es, h0, h1, h2⟩ := h
  refine ⟨fun i => if i ≤ ls.length then es i else e'', by simp [h0], by rw [show (ls ++ [l]).length = ls.length + 1 from by simp]; exact if_neg (by omega), fun i x hx => ?_⟩
  by_cases hi : i < ls.length
  · rw [List.getElem?_append_left hi] at hx
    have := h2 i x hx
    simp only [if_pos (show i ≤ ls.length by omega), if_pos (show i + 1 ≤ ls.length by omega)]
    exact this
  · have hi2 := (List.getElem?_eq_some_iff.1 hx).1
    simp at hi2
    have e1 : i = ls.length := by omega
    subst e1
    rw [List.getElem?_append_right (by omega), Nat.sub_self] at hx
    simp at hx
    subst hx
    simp only [if_pos (Nat.le_refl _), if_neg (show ¬ ls.length + 1 ≤ ls.length by omega), h1]
    exact hw
theorem Bal.again {e : Nat → Nat → Bool} {N s t : Nat} {x : Int} (h : Bal e N s t x t) : Bal e N s t (x - 1) s := fun z hz => by
  have := h z hz
  split at this <;> split at this <;> (repeat' split) <;> omega

set_option maxHeartbeats 1000000 in
theorem unwind_call {w : World} {ao : Option Addr} {N cap : Nat} {bl : Nat → Nat} {e : Nat → Nat → Bool} {s t x : Nat} (hn : NearsAt w ao N bl e) (hN : N ≤ 100) (hs : s < N) (hx : x ≤ 1000) (hb : Bal e N s t (x : Int) s) :
    Calls Try.prog 37 #[.slice ao N cap, .int .i64 (s : Int), .int .i64 (t : Int), .int .i64 (x : Int)] w fun r w' => ∃ v, r = .returned v ∧ ∃ ls, ls.length = x ∧ ListsAt w' w.heap.size v ls ∧ (∃ e', Ways N s t e e' ls) ∧ Turns (Marks N bl) w w' := by
  obtain ⟨i30, hi, hy0, hy1, hy2⟩ := info_parts Try.info30
  have hbl : ∀ i, i < N → bl i < w.heap.size := fun i hi => (hn.sets i hi).lt
  have HBL : Hid (∀ i, i < N → bl i < w.heap.size) := hbl
  have HN : Hid (NearsAt w ao N bl e) := hn
  have HB : Hid (Bal e N s t (x : Int) s) := hb
  have HG : Hid (∀ g, ao = some ⟨g, 0, none⟩ → g < w.heap.size) := fun g hg => by
    obtain ⟨g', e1, c⟩ := HN.out.row s hs
    rw [e1] at hg; cases hg
    exact World.block_lt_of_cell? w _ c
  clear hn hb hbl
  go_enter Try.func37, Try.ntmps37
  go_wp2
  go_loopw [9, 11] (fun wv iv wr => ∃ (ls : List (List Nat)) (e' : Nat → Nat → Bool), ls.length ≤ x ∧ iv = .int .i64 (ls.length : Int) ∧ ListsAt wr w.heap.size wv ls ∧ NearsAt wr ao N bl e' ∧ Bal e' N s t ((x : Int) - ls.length) s ∧ Ways N s t e e' ls ∧ Turns (Marks N bl) w wr) (fun _ iv _ => x - (numOf iv).toNat)
  case atStart => exact ⟨[], e, Nat.zero_le _, rfl, listsAt_nil _ _, HN.out, by simpa using HB.out, Ways.start _ _ _ _, Turns.refl _ _⟩
  case round =>
    obtain ⟨ls, e', hl, rfl, hls, hne, hbal, hws, htu⟩ := hrel
    have HLS : Hid (ListsAt wr w.heap.size u9 ls) := hls
    have HWS : Hid (Ways N s t e e' ls) := hws
    have HTU : Hid (Turns (Marks N bl) w wr) := htu
    by_cases hlt : ls.length < x
    · have i2 : (ls.length : Int) < (x : Int) := by omega
      have hcall := takeWay_call (cap := cap) hne hN hs (by omega) hbal
      have HC : Hid (Calls Try.prog 58 #[.slice ao N cap, .int .i64 (s : Int), .int .i64 (t : Int)] wr fun r w' => ∃ wo wc L e'', r = .returned (.slice wo L.length wc) ∧ WI wr w' ao N bl e' e'' s t ((x : Int) - ls.length) t L wo wc) := hcall
      have hMk : ∀ k, Marks N bl k → k < w.heap.size ∨ ∃ es c, wr.heap[k]? = some (.map es c) := fun k ⟨i, hi, hk⟩ => Or.inl (by rw [hk]; exact HBL.out i hi)
      have HMK : Hid (∀ k, Marks N bl k → k < w.heap.size ∨ ∃ es c, wr.heap[k]? = some (.map es c)) := hMk
      clear hcall hne hbal hls hws htu hMk
      go_upto_region 5 with (first
        | (go_at_call 58; refine Calls.mono HC.out ?_; rintro r w1 ⟨wo, wc, L, e'', rfl, hwi⟩; have hl1 := HLS.out.turns hwi.turns HMK.out; obtain ⟨vs, hvs, hrow, hel⟩ := hl1; have hsz1 : w.heap.size ≤ w1.heap.size := Nat.le_trans HTU.out.size hwi.turns.size; have HWI : Hid (WI wr w1 ao N bl e' e'' s t ((x : Int) - ls.length) t L wo wc) := hwi; have HEL : Hid (∀ (i : Nat) (x : Value) (l : List Nat), vs[i]? = some x → ls[i]? = some l → w1.ownsRow w.heap.size 3 1 x l.length (qv l)) := hel; clear hwi hel)
        | (at_builtin; refine wpList_append_own _ rfl _ _ 43 rfl w.heap.size 30 i30 (.slice none 0 0) 1 24 Try.underlying43 hi hy0 hy1 hy2 rfl (by decide) _ _ _ rfl (hrow.alloc _) ⟨w1.heap.size, 0, none⟩ 1 1 [.slice wo L.length wc] rfl rfl (cell_one_new _ _ _) (by intro y hy; simp at hy; subst hy; rfl) (by unfold maxLen; omega) (by omega) (by simp; omega) ?_; intro v' w2 hown' hgrow _)
        | go_in)
      have hx1 := ownsRow_mono HWI.out.own (b' := w.heap.size) HTU.out.size
      have hls2 := ListsAt.push (l := L) hx1 hvs hrow HEL.out hown' hgrow
      have T2 := (alloc_turns w1 (Obj.cells #[.slice wo L.length wc] 30) (fun k => some k = u9.ownBlock)).trans (Turns.of_grown hgrow)
      have hob : ∀ b, u9.ownBlock = some b → w.heap.size ≤ b := fun b hb => (hrow.lt b hb).1
      have hn2 := HWI.out.near.turns T2 (fun i hi hk => by have := hob _ hk.symm; have := HBL.out i hi; omega) (fun g hg hk => by have := hob _ hk.symm; have := HG.out g hg; omega)
      have t1 := HTU.out.trans HWI.out.turns
      have ht2 : Turns (Marks N bl) w w2 := ⟨T2.os.trans t1.os, T2.tape.trans t1.tape, T2.output.trans t1.output, Nat.le_trans t1.size T2.size, fun k hk hn => (T2.block k (Nat.lt_of_lt_of_le hk t1.size) (fun hq => by have := hob _ hq.symm; omega)).trans (t1.block k hk hn)⟩
      have hb2 := HWI.out.bal.again
      have hw2 := HWS.out.put HWI.out.way
      have HL2 : Hid (ListsAt w2 w.heap.size v' (ls ++ [L])) := hls2
      have HN2 : Hid (NearsAt w2 ao N bl e'') := hn2
      have HT2 : Hid (Turns (Marks N bl) w w2) := ht2
      clear hls2 hn2 ht2 T2 t1 hgrow hown' hvs hrow hx1
      go_wp2
      go_roundw
      case rel => exact ⟨ls ++ [L], e'', by simp; omega, by simp, HL2.out, HN2.out, by
        have : ((x : Int) - ((ls ++ [L]).length : Nat)) = (x : Int) - ls.length - 1 := by simp; omega
        rw [this]; exact hb2, hw2, HT2.out⟩
      case measure => simp [numOf]; omega
    · have i2 : ¬ (ls.length : Int) < (x : Int) := by omega
      clear hne hbal hls hws htu
      go_wp2
      go_ret
      exact ⟨u9, rfl, ls, by omega, HLS.out, ⟨e', HWS.out⟩, HTU.out⟩
end Go.Proofs.Ytkakmaalmhofmaa
