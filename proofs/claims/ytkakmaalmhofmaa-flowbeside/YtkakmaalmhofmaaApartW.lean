/- Apart: ways that share no edge, and a cut of as many edges. -/
import Derived.Test.YtkakmaalmhofmaaApartM
import Derived.Test.YtkakmaalmhofmaaOpenF
import Derived.Test.YtkakmaalmhofmaaRepeat
import Derived.Deep.RegionHeld3
import Derived.Test.YtkakmaalmhofmaaWithout
namespace Go.Proofs.Ytkakmaalmhofmaa
open Go.RowKit Go.Maps
attribute [local go_sem ↓] Go.wp_at_zero Go.wp_at_succ

theorem form_allP (N : Nat) (p : Int → Int → Bool) : FormE N (allP N p) where
  lt := fun j hj => by
    obtain ⟨u, v, h1, h2, _, h4⟩ := allP_mem.1 (List.getElem_mem hj)
    have hA : endA (allP N p) j = u := by unfold endA; rw [getD_lt hj, h4]; simp
    have hB : endB (allP N p) j = v := by unfold endB; rw [getD_lt hj, h4]; simp
    omega
  inj := fun i j hi hj h1 h2 => by
    obtain ⟨u, v, _, _, _, h4⟩ := allP_mem.1 (List.getElem_mem hi)
    obtain ⟨u', v', _, _, _, h5⟩ := allP_mem.1 (List.getElem_mem hj)
    have hA : endA (allP N p) i = u := by unfold endA; rw [getD_lt hi, h4]; simp
    have hB : endB (allP N p) i = v := by unfold endB; rw [getD_lt hi, h4]; simp
    have hA' : endA (allP N p) j = u' := by unfold endA; rw [getD_lt hj, h5]; simp
    have hB' : endB (allP N p) j = v' := by unfold endB; rw [getD_lt hj, h5]; simp
    have : (allP N p)[i] = (allP N p)[j] := by rw [h4, h5]; ext <;> simp <;> omega
    have hp := List.pairwise_iff_getElem.1 (allP_nodup N p)
    rcases Nat.lt_trichotomy i j with h | h | h
    · exact absurd this (hp i j hi hj h)
    · exact h
    · exact absurd this.symm (hp j i hj hi h)
/-- What Apart answers. -/
def ApartIs (N s t : Nat) (fes : List Pair) (B : Nat) (w' : World) (wv cv : Value) : Prop :=
  ∃ (ls : List (List Nat)) (e e' : Nat → Nat → Bool) (F : Nat → Int), ListsAt w' B wv ls ∧ Ways N s t e e' ls ∧ (∀ a b, e a b = true → e b a = false) ∧ (∀ a b, e a b = true → ∃ j, j < fes.length ∧ ((a = endA fes j ∧ b = endB fes j) ∨ (a = endB fes j ∧ b = endA fes j))) ∧
    w'.ownsRow B 51 2 cv (cutL F fes).length (flat (cutL F fes)) ∧ ls.length = (cutL F fes).length ∧ F s = 0 ∧ F t = -1
theorem one_cell (w : World) (x : Value) (t : TypeId) : (w.alloc (Obj.cells #[x] t)).cell? ⟨w.heap.size, 0, none⟩ = some x := (cell_of_row _ _ _ _ t (0, 0) (heap_alloc_new _ _)).trans rfl

theorem ListsAt.mono {w : World} {base b' : Nat} {v : Value} {ls : List (List Nat)} (h : ListsAt w base v ls) (hb : b' ≤ base) : ListsAt w b' v ls := by
  obtain ⟨vs, h1, h2, h3⟩ := h
  exact ⟨vs, h1, ownsRow_mono h2 hb, fun i x l hx hl => ownsRow_mono (h3 i x l hx hl) hb⟩

set_option maxRecDepth 4000 in
set_option maxHeartbeats 3000000 in
theorem apart_ok {N s t : Nat} {v : Value} {es : List Pair} {w : World} (hE : EdgesAt w v es) {fes : List Pair} {p : Int → Int → Bool} (hfes : fes = allP N p) (ho : openS (N : Int) es (s : Int) (t : Int) = ⟨N, fes, 0, 0⟩) (hN : N ≤ 100) (hl : fes.length ≤ 1000) (hs : s < N) (ht : t < N) (hst : s ≠ t) :
    Calls Try.prog 15 #[.agg #[.int .i64 (N : Int), v], .int .i64 (s : Int), .int .i64 (t : Int)] w fun r w' => ∃ wv cv, r = .returned (.tuple #[wv, cv, .agg #[.int .i64 0, .int .i64 0]]) ∧ ApartIs N s t fes w.heap.size w' wv cv ∧ Below w.heap.size w w' := by
  obtain ⟨i51, hi, hw0, hw1, hw2⟩ := info_parts Try.info51
  obtain ⟨eo, ec, rfl⟩ := hE.form
  have hF : FormE N fes := by rw [hfes]; exact form_allP N p
  have hg : ∀ e ∈ fes, 0 ≤ e.1 ∧ e.1 < N ∧ 0 ≤ e.2 ∧ e.2 < N := fun e he => by
    rw [hfes] at he
    obtain ⟨u, v, h1, h2, _, rfl⟩ := allP_mem.1 he
    simp; omega
  have h34 : ∀ W, Below w.heap.size w W → Calls Try.prog 34 #[.agg #[.int .i64 (N : Int), .slice eo es.length ec], .int .i64 (s : Int), .int .i64 (t : Int)] W fun e w' => Below W.heap.size W w' ∧ ∃ ao cap, e = .returned (.tuple #[.agg #[.int .i64 (N : Int), .slice ao fes.length cap], .agg #[.int .i64 0, .int .i64 0]]) ∧ EdgesAt w' (.slice ao fes.length cap) fes ∧ ∀ x, ao = some x → W.heap.size ≤ x.block := fun W hW => by
    have := openForm_call N s t (.slice eo es.length ec) es W (hE.below hW)
    rw [ho] at this
    exact this
  have H34 : Hid (∀ W, Below w.heap.size w W → Calls Try.prog 34 #[.agg #[.int .i64 (N : Int), .slice eo es.length ec], .int .i64 (s : Int), .int .i64 (t : Int)] W fun e w' => Below W.heap.size W w' ∧ ∃ ao cap, e = .returned (.tuple #[.agg #[.int .i64 (N : Int), .slice ao fes.length cap], .agg #[.int .i64 0, .int .i64 0]]) ∧ EdgesAt w' (.slice ao fes.length cap) fes ∧ ∀ x, ao = some x → W.heap.size ≤ x.block) := h34
  have HF : Hid (FormE N fes) := hF
  have HG : Hid (∀ e ∈ fes, 0 ≤ e.1 ∧ e.1 < N ∧ 0 ≤ e.2 ∧ e.2 < N) := hg
  clear h34 hF hg hE ho hfes
  go_enter Try.func15, Try.ntmps15
  go_upto_region 1 with (fail)
  have t3 : Two ((w.alloc (Obj.cells #[.int .i64 (N : Int), .slice eo es.length ec] 40)).alloc (Obj.cells #[.int .i64 0, .int .i64 0] 26)) w.heap.size (.int .i64 (N : Int)) (.slice eo es.length ec) 40 := two_alloc (two_new w _ _ 40) _
  have t8 := two_nxt w (Obj.cells #[.int .i64 (N : Int), .slice eo es.length ec] 40) (.int .i64 0) (.int .i64 0) 26
  have hB0 := below2 (w := w) (Obj.cells #[.int .i64 (N : Int), .slice eo es.length ec] 40) (Obj.cells #[.int .i64 0, .int .i64 0] 26)
  generalize (w.alloc (Obj.cells #[.int .i64 (N : Int), .slice eo es.length ec] 40)).alloc (Obj.cells #[.int .i64 0, .int .i64 0] 26) = W0 at t3 t8 hB0 ⊢
  obtain ⟨b8, hb8⟩ : ∃ b, b = w.heap.size + 1 := ⟨_, rfl⟩
  rw [← hb8] at t8 ⊢
  have hb8w : w.heap.size < b8 := by omega
  clear hb8
  obtain ⟨q0, q1⟩ := cell_two t3
  have f8 := fun W (h : Below W0.heap.size W0 W) => free_two (two_next t8 h)
  have c8 := fun W (h : Below W0.heap.size W0 W) => cell_two (two_next t8 h)
  have F8 : Hid (∀ W, Below W0.heap.size W0 W → Two W b8 (.int .i64 0) (.int .i64 0) 26) := fun W h => two_next t8 h
  clear f8 c8
  go_upto_region 2 with (first | (go_at_call 34; refine (H34.out _ hB0).mono ?_; rintro e W1 ⟨hb1, fo, fc, rfl, hE1, hfo⟩; have t9 := two_new W1 (.int .i64 (N : Int)) (.slice fo fes.length fc) 40; have y8 := F8.out _ (below_alloc hb1 (Obj.cells #[.int .i64 (N : Int), .slice fo fes.length fc] 40)); have g8 := free_two y8; obtain ⟨z8, z81⟩ := cell_two y8) | go_in)
  have hBa := below_alloc hb1 (Obj.cells #[.int .i64 (N : Int), .slice fo fes.length fc] 40)
  have hb8W : b8 < W0.heap.size := lt_of_block t8
  have hb1s := hb1.size
  obtain ⟨b9, hb9⟩ : ∃ b, b = W1.heap.size := ⟨_, rfl⟩
  rw [← hb9] at t9 ⊢
  have hn89 : b9 ≠ b8 := by omega
  have y9 : Two (((W1.alloc (Obj.cells #[.int .i64 (N : Int), .slice fo fes.length fc] 40)).setCell ⟨b8, 0, none⟩ (.int .i64 0)).setCell ⟨b8, 1, none⟩ (.int .i64 0)) b9 (.int .i64 (N : Int)) (.slice fo fes.length fc) 40 := two_far (two_far t9 hn89) hn89
  have x8 : Two (((W1.alloc (Obj.cells #[.int .i64 (N : Int), .slice fo fes.length fc] 40)).setCell ⟨b8, 0, none⟩ (.int .i64 0)).setCell ⟨b8, 1, none⟩ (.int .i64 0)) b8 (.int .i64 0) (.int .i64 0) 26 := two_setN y8
  have hE2 : EdgesAt (((W1.alloc (Obj.cells #[.int .i64 (N : Int), .slice fo fes.length fc] 40)).setCell ⟨b8, 0, none⟩ (.int .i64 0)).setCell ⟨b8, 1, none⟩ (.int .i64 0)) (.slice fo fes.length fc) fes := by
    refine EdgesAt.setCell (EdgesAt.setCell (hE1.below (below_alloc (Below.refl _ W1) _)) (fun x hx => ?_) _) (fun x hx => ?_) _
    · have := hfo x hx; show x.block ≠ b8; omega
    · have := hfo x hx; show x.block ≠ b8; omega
  have hB2 : Below w.heap.size w (((W1.alloc (Obj.cells #[.int .i64 (N : Int), .slice fo fes.length fc] 40)).setCell ⟨b8, 0, none⟩ (.int .i64 0)).setCell ⟨b8, 1, none⟩ (.int .i64 0)) := ((below_next hB0 hBa).setCell (p := ⟨b8, 0, none⟩) (by show w.heap.size ≤ b8; omega) _).setCell (p := ⟨b8, 1, none⟩) (by show w.heap.size ≤ b8; omega) _
  generalize (((W1.alloc (Obj.cells #[.int .i64 (N : Int), .slice fo fes.length fc] 40)).setCell ⟨b8, 0, none⟩ (.int .i64 0)).setCell ⟨b8, 1, none⟩ (.int .i64 0)) = W2 at y9 x8 hE2 hB2 ⊢
  clear t3 t8 hB0 q0 q1 F8 hb1 hE1 hfo t9 y8 g8 z8 z81 hBa hb8W hb1s hb9 H34
  obtain ⟨z0, z1⟩ := cell_two y9
  obtain ⟨z8, z81⟩ := cell_two x8
  have h35 : ∀ W bq, Below W2.heap.size W2 W → RowV W bq 3 fes.length (fun _ => .int .i64 1) → Calls Try.prog 35 #[.agg #[.int .i64 (N : Int), .slice fo fes.length fc], sl bq fes.length] W fun r w' => ∃ bp, r = .returned (ptr bp) ∧ Below W.heap.size W w' ∧ ∃ c : Pp, c.bp = bp ∧ c.N = N ∧ c.M = 2 * fes.length ∧ c.T = (fun p => (tsE fes).getD p 0) ∧ PS c w' (fun p => (rsW (List.replicate fes.length 1)).getD p 0) ∧ Net c.N c.M c.T c.ls ∧ c.ub ≤ w'.heap.size ∧ c.br < w'.heap.size ∧ W.heap.size ≤ c.br := fun W bq hW hr =>
    pipesAlong_call (ws := List.replicate fes.length 1) (hE2.below hW) (fun k x hx => by
      obtain ⟨g1, g2⟩ := List.getElem?_eq_some_iff.1 hx
      simp at g1 g2
      subst g2
      exact ⟨bq, 0, rfl, by simpa using hr.cell g1⟩) hN hl (by simp) HG.out
  have H35 : Hid (∀ W bq, Below W2.heap.size W2 W → RowV W bq 3 fes.length (fun _ => .int .i64 1) → Calls Try.prog 35 #[.agg #[.int .i64 (N : Int), .slice fo fes.length fc], sl bq fes.length] W fun r w' => ∃ bp, r = .returned (ptr bp) ∧ Below W.heap.size W w' ∧ ∃ c : Pp, c.bp = bp ∧ c.N = N ∧ c.M = 2 * fes.length ∧ c.T = (fun p => (tsE fes).getD p 0) ∧ PS c w' (fun p => (rsW (List.replicate fes.length 1)).getD p 0) ∧ Net c.N c.M c.T c.ls ∧ c.ub ≤ w'.heap.size ∧ c.br < w'.heap.size ∧ W.heap.size ≤ c.br) := h35
  have HE2 : Hid (EdgesAt W2 (.slice fo fes.length fc) fes) := hE2
  have HK : Hid (∀ W, Below W2.heap.size W2 W → W.cell? ⟨b9, 0, none⟩ = some (.int .i64 (N : Int)) ∧ W.cell? ⟨b9, 1, none⟩ = some (.slice fo fes.length fc)) := fun W hW => cell_two (two_next y9 hW)
  clear h35 hE2
  go_upto_region 4 with (fail)
  go_cut [10] from 26 to 32 (fun s10 wd => ∃ c : Pp, s10 = ptr c.bp ∧ c.N = N ∧ c.M = 2 * fes.length ∧ c.T = (fun p => (tsE fes).getD p 0) ∧ PS c wd (fun p => (rsW (List.replicate fes.length 1)).getD p 0) ∧ Net c.N c.M c.T c.ls ∧ c.ub ≤ wd.heap.size ∧ c.br < wd.heap.size ∧ W2.heap.size ≤ c.br ∧ Below W2.heap.size W2 wd)
  case first =>
    go_region_held3 (fun w' => w'.cell? ⟨b9, 0, none⟩ = some (.int .i64 (N : Int)) ∧ w'.cell? ⟨b9, 1, none⟩ = some (.slice fo fes.length fc))
      (first | exact hkp | exact hkq | exact HK.out _ (Below.refl _ _).drew | exact HK.out _ (below_alloc (Below.refl _ W2).drew _) | exact HK.out _ (below_alloc (Below.refl _ W2) _).drew | assumption | go_keep)
      ((first
        | (go_at_call 36; refine Calls.mono (repeat_call (x := 1) (one_cell _ _ _) hl) ?_; rintro r Wq ⟨bq, rfl, hbq, hrq, hbq2⟩; have hbQ : Below W2.heap.size W2 Wq := below_next (below_alloc (Below.refl _ W2).drew _) hbq2; have hkq := HK.out _ hbQ)
        | (go_at_call 35; refine Calls.mono (H35.out _ _ hbQ hrq) ?_; rintro r Wp ⟨bp, rfl, hbp, c, hcbp, hcN, hcM, hcT, hps, hnet, hub, hbr, hbrW⟩; have hkp := HK.out _ (below_next hbQ hbp))))
    all_goals
      go_wp2_with fail
      go_meet
      case rel => exact ⟨c, by rw [hcbp], hcN, hcM, hcT, hps, hnet, hub, hbr, Nat.le_trans hbQ.size hbrW, below_next hbQ hbp⟩
  case rest =>
    obtain ⟨c, rfl, hcN, hcM, hcT, hps, hnet, hub, hbr, hbrW, hbP⟩ := hcut
    have hok := rsW_ok (ws := List.replicate fes.length 1) (fun x hx => by rw [List.eq_of_mem_replicate hx]; omega)
    rw [List.length_replicate, ← hcM] at hok
    have h32 := fill_call (s := s) (t := t) hnet (by omega) (by omega) (by omega) hst hps hub hok hbr
    simp only [hcN, hcM, hcT] at h32
    have H32 : Hid (Calls Try.prog 32 #[ptr c.bp, .int .i64 (s : Int), .int .i64 (t : Int)] wc fun r w' => ∃ x bf, r = .returned (.tuple #[.int .i64 x, sl bf N]) ∧ 0 ≤ x ∧ wc.heap.size ≤ bf ∧ ∃ R', Mv (2 * fes.length) (fun p => (tsE fes).getD p 0) t s x (fun p => (rsW (List.replicate fes.length 1)).getD p 0) R' ∧ PS c w' R' ∧ ∃ F, RowV w' bf 3 N (fun v => .int .i64 (F v)) ∧ Far N (2 * fes.length) (fun p => (tsE fes).getD p 0) R' s F ∧ F t = -1 ∧ Turns (fun k => k = c.br) wc w') := h32
    have HCM : Hid (c.M = 2 * fes.length) := hcM
    clear h32 hok hnet hps hub hbr hcT hcN hcM H35 z0 z1 z8 z81
    go_upto_region 6 with (first | (go_at_call 32; refine Calls.mono H32.out ?_; rintro r Wf ⟨x, bf, rfl, hx0, hbf, R', hmv, hps, F, hrf, hfar, hFt, htu⟩) | go_in)
    have hBf : Below W2.heap.size W2 Wf := htu.below hbP hbP.size (fun k hk => by rw [hk]; exact hbrW)
    have hwt : ∀ a, a < fes.length → wtE (List.replicate fes.length 1) a = 1 := fun a ha => by simp [wtE, List.getD, ha]
    obtain ⟨hr2, hbal⟩ := apart_bal HF.out (by simp) hwt hmv
    have hxc := apart_cut (by simp) HG.out hst hwt hmv hfar hFt
    obtain ⟨X, hX⟩ : ∃ X, X = (cutL F fes).length := ⟨_, rfl⟩
    rw [← hX] at hxc
    subst hxc
    have hX1 : X ≤ 1000 := by
      rw [hX]
      have : (cutL F fes).length ≤ fes.length := List.length_filter_le _ _
      omega
    have HPS : Hid (PS c Wf R') := hps
    have HRF : Hid (RowV Wf bf 3 N (fun v => .int .i64 (F v))) := hrf
    have HBAL : Hid (Bal (stepB fes R' fes.length) N s t (X : Int) s) := hbal
    have HR2 : Hid (∀ a, a < fes.length → R' (2 * a) + R' (2 * a + 1) = 2 ∧ 0 ≤ R' (2 * a) ∧ 0 ≤ R' (2 * a + 1)) := hr2
    have HX : Hid (X = (cutL F fes).length) := hX
    have HFS : Hid (F s = 0 ∧ F t = -1) := ⟨hfar.src, hFt⟩
    have hEf := EdgesAt.below HE2.out hBf
    have HEf : Hid (EdgesAt Wf (.slice fo fes.length fc) fes) := hEf
    have y9f := two_next y9 hBf
    have x8f := two_next x8 hBf
    have hBw := below_next hB2 hBf
    have hb8f : b8 < Wf.heap.size := lt_of_block x8f
    clear hmv hps hrf hfar hFt htu hwt hr2 hbal hX hEf y9 x8 hB2 hBf hbP HE2 HK H32 hbf hbrW
    obtain ⟨z0, z1⟩ := cell_two y9f
    go_wp2
    clear z0 z1
    go_loopw [7, 43] (fun cv i wr => ∃ k : Nat, i = .int .i64 (k : Int) ∧ k ≤ fes.length ∧ wr.ownsRow Wf.heap.size 51 2 cv (cutL F (fes.take k)).length (flat (cutL F (fes.take k))) ∧ Below Wf.heap.size Wf wr) (fun _ i _ => fes.length - (numOf i).toNat)
    case atStart => exact ⟨0, rfl, Nat.zero_le _, by simpa [cutL, flat] using World.ownsRow_nil _ _ _ _, Below.refl _ _⟩
    case round =>
      obtain ⟨k, rfl, hk, hown, hB⟩ := hrel
      by_cases hlt : k < fes.length
      · obtain ⟨_, _, e, hl2, hI, hcells⟩ := EdgesAt.below HEf.out hB
        cases e
        obtain ⟨b, off, rfl, cx, cy⟩ := hcells k hlt
        have hg := HG.out fes[k] (List.getElem_mem hlt)
        obtain ⟨x, y, hxy⟩ : ∃ x y, fes[k] = (x, y) := ⟨fes[k].1, fes[k].2, rfl⟩
        have hk? : fes[k]? = some (x, y) := by rw [List.getElem?_eq_getElem hlt, hxy]
        rw [hxy] at cx cy hg
        simp only at hg
        obtain ⟨x', rfl⟩ : ∃ x' : Nat, x = x' := ⟨x.toNat, by omega⟩
        obtain ⟨y', rfl⟩ : ∃ y' : Nat, y = y' := ⟨y.toNat, by omega⟩
        have i1 : (0 : Int) ≤ (k : Int) := by omega
        have i2 : (k : Int) < (fes.length : Int) := by omega
        have j1 : (0 : Int) ≤ (x' : Int) := by omega
        have j2 : (x' : Int) < (N : Int) := by omega
        have j3 : (0 : Int) ≤ (y' : Int) := by omega
        have j4 : (y' : Int) < (N : Int) := by omega
        have hxN : x' < N := by omega
        have hyN : y' < N := by omega
        have HK? : Hid (fes[k]? = some ((x' : Int), (y' : Int))) := hk?
        have hle : (cutL F (fes.take k)).length ≤ k := Nat.le_trans (List.length_filter_le _ _) (by rw [List.length_take]; omega)
        have HOWN : Hid (wr.ownsRow Wf.heap.size 51 2 u7 (cutL F (fes.take k)).length (flat (cutL F (fes.take k)))) := hown
        clear hcells hI hxy hk? hown hg
        go_upto_region 9 with (fail)
        have t14 := two_new wr (.int .i64 (x' : Int)) (.int .i64 (y' : Int)) 51
        have hb7 := below_alloc (Below.refl _ wr) (Obj.cells #[.int .i64 (x' : Int), .int .i64 (y' : Int)] 51)
        have hB7 := below_alloc hB (Obj.cells #[.int .i64 (x' : Int), .int .i64 (y' : Int)] 51)
        obtain ⟨b14, hb14⟩ : ∃ b, b = wr.heap.size := ⟨_, rfl⟩
        rw [← hb14] at t14 ⊢
        have ho7 : (wr.alloc (Obj.cells #[.int .i64 (x' : Int), .int .i64 (y' : Int)] 51)).ownsRow Wf.heap.size 51 2 u7 (cutL F (fes.take k)).length (flat (cutL F (fes.take k))) := HOWN.out.alloc _
        generalize wr.alloc (Obj.cells #[.int .i64 (x' : Int), .int .i64 (y' : Int)] 51) = W7 at t14 hb7 hB7 ho7 ⊢
        have hrf7 := RowV.block HRF.out (hB7.block _ (RowV.lt HRF.out))
        have cfx := hrf7.cell hxN
        have cfy := hrf7.cell hyN
        obtain ⟨z0, z1⟩ := cell_two t14
        have HO7 : Hid (W7.ownsRow Wf.heap.size 51 2 u7 (cutL F (fes.take k)).length (flat (cutL F (fes.take k)))) := ho7
        clear ho7 hb14 cx cy HOWN hb7 hrf7
        go_cut [59] from 47 to 59 (fun s59 wd => ∃ g : Bool, s59 = .bool g ∧ g = cutB F ((x' : Int), (y' : Int)) ∧ Two wd b14 (.int .i64 (x' : Int)) (.int .i64 (y' : Int)) 51 ∧ Below Wf.heap.size Wf wd ∧ wd.ownsRow Wf.heap.size 51 2 u7 (cutL F (fes.take k)).length (flat (cutL F (fes.take k))))
        case first =>
          by_cases h1 : F x' = -1 <;> by_cases h2 : F y' = -1
          · have k1 : (F x' == -1) = true := by rw [beq_iff_eq]; exact h1
            have k2 : (F y' == -1) = true := by rw [beq_iff_eq]; exact h2
            have HC : Hid (cutB F ((x' : Int), (y' : Int)) = false) := by show cutB F _ = false; simp [cutB, h1, h2]
            clear h1 h2
            go_quiet (fail)
            go_wp2_with fail
            go_meet
            case rel => exact ⟨false, rfl, HC.out.symm, t14, below_drewN hB7 _, ownsRow_drewN HO7.out _⟩
          · have k1 : (F x' == -1) = true := by rw [beq_iff_eq]; exact h1
            have k2 : (F y' == -1) = false := by rw [beq_eq_false_iff_ne]; exact h2
            have HC : Hid (cutB F ((x' : Int), (y' : Int)) = true) := by show cutB F _ = true; simp [cutB, h1, h2]
            clear h1 h2
            go_quiet (fail)
            go_wp2_with fail
            go_meet
            case rel => exact ⟨true, rfl, HC.out.symm, t14, below_drewN hB7 _, ownsRow_drewN HO7.out _⟩
          · have k1 : (F x' == -1) = false := by rw [beq_eq_false_iff_ne]; exact h1
            have k2 : (F y' == -1) = true := by rw [beq_iff_eq]; exact h2
            have HC : Hid (cutB F ((x' : Int), (y' : Int)) = true) := by show cutB F _ = true; simp [cutB, h1, h2]
            clear h1 h2
            go_quiet (fail)
            go_wp2_with fail
            go_meet
            case rel => exact ⟨true, rfl, HC.out.symm, t14, below_drewN hB7 _, ownsRow_drewN HO7.out _⟩
          · have k1 : (F x' == -1) = false := by rw [beq_eq_false_iff_ne]; exact h1
            have k2 : (F y' == -1) = false := by rw [beq_eq_false_iff_ne]; exact h2
            have HC : Hid (cutB F ((x' : Int), (y' : Int)) = false) := by show cutB F _ = false; simp [cutB, h1, h2]
            clear h1 h2
            go_quiet (fail)
            go_wp2_with fail
            go_meet
            case rel => exact ⟨false, rfl, HC.out.symm, t14, below_drewN hB7 _, ownsRow_drewN HO7.out _⟩
        case rest =>
          clear t14 hB7 HO7 cfx cfy z0 z1
          obtain ⟨g, rfl, hgc, t14, hB8, ho8⟩ := hcut
          have HGC : Hid (g = cutB F ((x' : Int), (y' : Int))) := hgc
          have hcl : cutL F (fes.take (k + 1)) = cutL F (fes.take k) ++ (if g = true then [((x' : Int), (y' : Int))] else []) := by
            obtain ⟨g1, g2⟩ := List.getElem?_eq_some_iff.1 HK?.out
            rw [List.take_succ_eq_append_getElem g1, g2]
            unfold cutL
            rw [List.filter_append, hgc]
            cases hcb : cutB F ((x' : Int), (y' : Int)) <;> simp [hcb]
          have HCL : Hid (cutL F (fes.take (k + 1)) = cutL F (fes.take k) ++ (if g = true then [((x' : Int), (y' : Int))] else [])) := hcl
          clear hgc hcl
          cases g with
          | false =>
            have ho9 : wc.ownsRow Wf.heap.size 51 2 u7 (cutL F (fes.take (k + 1))).length (flat (cutL F (fes.take (k + 1)))) := by rw [HCL.out]; simpa using ho8
            have HO9 : Hid (wc.ownsRow Wf.heap.size 51 2 u7 (cutL F (fes.take (k + 1))).length (flat (cutL F (fes.take (k + 1))))) := ho9
            clear ho8 ho9
            go_wp2
            go_roundw
            case rel => exact ⟨k + 1, by go_num, by omega, HO9.out, hB8⟩
            case measure => simp [numOf]; omega
          | true =>
            obtain ⟨d0, d1⟩ := cell_two t14
            have hsW := hB8.size
            obtain ⟨vo, vc, rfl⟩ := form_row ho8
            go_wp2_with (first | (at_builtin; refine wpList_append_own _ rfl _ _ 38 rfl Wf.heap.size 51 i51 (.agg #[.int .i64 0, .int .i64 0]) 2 16 Try.underlying38 hi hw0 hw1 hw2 rfl (by decide) _ _ _ rfl (ho8.alloc _) ⟨wc.heap.size, 0, none⟩ 1 1 [.int .i64 (x' : Int), .int .i64 (y' : Int)] rfl rfl ?n1 ?n2 ?n3 ?n4 ?n5 ?_) | go_in)
            case n2 => first | exact ⟨rfl, rfl⟩ | (intro x hx; simp at hx; rcases hx with rfl | rfl <;> rfl)
            case n3 => unfold maxLen; omega
            case n4 => omega
            case n5 => first | omega | (simp; omega)
            intro v' w3 hown' hgrow _
            have hB5 := (hB8.alloc hB8.size _).grown hgrow (by simp; omega) (fun k hk => (ho8.lt k hk).1)
            have ho9 : w3.ownsRow Wf.heap.size 51 2 v' (cutL F (fes.take (k + 1))).length (flat (cutL F (fes.take (k + 1)))) := by
              have hcl := HCL.out
              simp only [if_true] at hcl
              rw [hcl, flat_snoc]
              simpa using hown'
            have HO9 : Hid (w3.ownsRow Wf.heap.size 51 2 v' (cutL F (fes.take (k + 1))).length (flat (cutL F (fes.take (k + 1))))) := ho9
            clear hgrow hown' ho9 ho8
            go_wp2
            go_roundw
            case rel => exact ⟨k + 1, by go_num, by omega, HO9.out, hB5⟩
            case measure => simp [numOf]; omega
      · have i2 : ¬ (k : Int) < (fes.length : Int) := by omega
        have hke : k = fes.length := by omega
        subst hke
        rw [List.take_length] at hown
        have y9w := two_next y9f hB
        obtain ⟨z0, z1⟩ := cell_two y9w
        have h38 := steps_call (PS.below HPS.out hB) HCM.out (EdgesAt.below HEf.out hB) hN hl HG.out
        have H38 : Hid (Calls Try.prog 38 #[ptr c.bp, .agg #[.int .i64 (N : Int), .slice fo fes.length fc]] wr fun r w' => ∃ ao, r = .returned (.slice ao N N) ∧ ∃ bl, NearsAt w' ao N bl (stepB fes R' fes.length) ∧ (∀ i, i < N → wr.heap.size ≤ bl i) ∧ Below wr.heap.size wr w') := h38
        have HOWN : Hid (wr.ownsRow Wf.heap.size 51 2 u7 (cutL F fes).length (flat (cutL F fes))) := hown
        clear h38 hown
        go_wp2_with (first
          | (go_at_call 38; refine Calls.mono H38.out ?_; rintro r W5 ⟨ao, rfl, bl, hnr, hbl, hb5⟩; have HNR : Hid (NearsAt W5 ao N bl (stepB fes R' fes.length)) := hnr; have HBL : Hid (∀ i, i < N → wr.heap.size ≤ bl i) := hbl; clear hnr hbl)
          | (go_at_call 37; refine Calls.mono (unwind_call HNR.out hN hs hX1 HBAL.out) ?_; rintro r W6 ⟨wv, rfl, ls, hlsl, hla, hwy, htu⟩; have HLA : Hid (ListsAt W6 W5.heap.size wv ls) := hla; have HWY : Hid (∃ e', Ways N s t (stepB fes R' fes.length) e' ls) := hwy; have HTU : Hid (Turns (Marks N bl) W5 W6) := htu; have hb6 : Below wr.heap.size wr W6 := Turns.below hb5 htu hb5.size (fun k ⟨i, hi, hk⟩ => by rw [hk]; exact HBL.out i hi); have x8g := two_next x8f (below_next hB hb6); have g8 := free_two x8g; obtain ⟨m8, m81⟩ := cell_two x8g; clear hla hwy htu)
          | go_in)
        have x8h := two_setN (x' := .int .i64 0) (y' := .int .i64 0) x8g
        have hsz5 : Wf.heap.size ≤ W5.heap.size := Nat.le_trans hB.size hb5.size
        have hla2 := (((HLA.out.turns (setCell_turns W6 b8 0 (.int .i64 0)) (fun k hk => Or.inl (by omega))).turns (setCell_turns _ b8 1 (.int .i64 0)) (fun k hk => Or.inl (by omega)))).mono (b' := w.heap.size) (by have := hBw.size; omega)
        have hc6 : W6.ownsRow Wf.heap.size 51 2 u7 (cutL F fes).length (flat (cutL F fes)) := ownsRow_blocks HOWN.out (fun b hb => hb6.block b (HOWN.out.lt b hb).2)
        have hc7 := ownsRow_mono (ownsRow_setCell_below (a := ⟨b8, 1, none⟩) (ownsRow_setCell_below (a := ⟨b8, 0, none⟩) hc6 (by show b8 < Wf.heap.size; omega) (.int .i64 0)) (by show b8 < Wf.heap.size; omega) (.int .i64 0)) (b' := w.heap.size) hBw.size
        have hB9 := ((below_next hBw (below_next hB hb6)).setCell (p := ⟨b8, 0, none⟩) (by show w.heap.size ≤ b8; omega) (.int .i64 0)).setCell (p := ⟨b8, 1, none⟩) (by show w.heap.size ≤ b8; omega) (.int .i64 0)
        generalize ((W6.setCell ⟨b8, 0, none⟩ (.int .i64 0)).setCell ⟨b8, 1, none⟩ (.int .i64 0)) = W7 at x8h hla2 hc7 hB9 ⊢
        obtain ⟨n8, n81⟩ := cell_two x8h
        obtain ⟨e', hways⟩ := HWY.out
        refine bodyPost_ret (v := .tuple #[wv, u7, .agg #[.int .i64 0, .int .i64 0]]) ?_ rfl ⟨wv, u7, rfl, ⟨ls, stepB fes R' fes.length, e', F, hla2, hways, fun a b h => stepB_anti HR2.out HF.out h, fun a b h => ?_, hc7, by rw [hlsl]; exact HX.out, HFS.out.1, HFS.out.2⟩, hB9⟩
        · simp [results, Try.results15, go_sem, n8, n81]
        · obtain ⟨j, hj, h1 | h1⟩ := stepB_ex h
          · exact ⟨j, hj, Or.inl ⟨h1.1, h1.2.1⟩⟩
          · exact ⟨j, hj, Or.inr ⟨h1.1, h1.2.1⟩⟩
end Go.Proofs.Ytkakmaalmhofmaa
