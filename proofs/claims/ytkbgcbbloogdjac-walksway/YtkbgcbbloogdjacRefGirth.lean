/- The document's Girth. -/
import Derived.Test.YtkbgcbbloogdjacWithout
import Derived.Deep.RegionHeld3
namespace Go.Proofs.Ytkbgcbbloogdjac
open Go.RowKit Go.Maps
attribute [local go_sem ↓] Go.wp_at_zero Go.wp_at_succ

theorem dist_congr {N : Nat} {e e' : Nat → Nat → Bool} {v : Nat} {o : Nat → Option Nat} (h : Dist N e v o) (he : ∀ a b, a < N → b < N → e a b = e' a b) : Dist N e' v o :=
  ⟨h.base, fun x d hx hd => by
    rcases h.par x d hx hd with h1 | ⟨p, d', h1, h2, h3, h4⟩
    · exact Or.inl h1
    · exact Or.inr ⟨p, d', h1, by rw [← he p x h1 hx]; exact h2, h3, h4⟩, fun a b d ha hb hab hd => h.tri a b d ha hb (by rw [he a b ha hb]; exact hab) hd⟩
/-- The table without an edge. -/
theorem less_same {m : Nat} {p : Int → Int → Bool} (hs : ∀ u v : Nat, p u v = p v u) (hd : ∀ u : Nat, p u u = false) {a b : Nat} (hab : a < b) {x y : Nat} (hx : x < m) (hy : y < m) : pn (hasB (lessL (allP m p) ((a : Int), (b : Int)))) x y = lessB (pn p) a b x y := by
  rw [Bool.eq_iff_iff, lessB_iff]
  unfold pn hasB lessL
  rw [List.any_eq_true]
  constructor
  · rintro ⟨d, hdm, hm⟩
    obtain ⟨h1, h2⟩ := List.mem_filter.1 hdm
    obtain ⟨u, v, h3, h4, h5, rfl⟩ := allP_mem.1 h1
    simp at hm h2
    rcases hm with ⟨h6, h7⟩ | ⟨h6, h7⟩
    · obtain ⟨rfl, rfl⟩ : u = x ∧ v = y := by omega
      exact ⟨h5, by omega⟩
    · obtain ⟨rfl, rfl⟩ : u = y ∧ v = x := by omega
      exact ⟨by rw [hs]; exact h5, by omega⟩
  · rintro ⟨h1, h2⟩
    have hne : x ≠ y := fun e => by subst e; rw [hd] at h1; cases h1
    rcases Nat.lt_or_ge x y with h | h
    · refine ⟨((x : Int), (y : Int)), List.mem_filter.2 ⟨allP_mem.2 ⟨x, y, h, hy, h1, rfl⟩, ?_⟩, by simp⟩
      simp
      omega
    · refine ⟨((y : Int), (x : Int)), List.mem_filter.2 ⟨allP_mem.2 ⟨y, x, by omega, hx, by rw [hs]; exact h1, rfl⟩, ?_⟩, by simp⟩
      simp
      omega

theorem MinE.nil (m : Nat) (e : Nat → Nat → Bool) : MinE m e [] 0 := ⟨fun a b h => absurd h (by simp), Or.inl rfl⟩
theorem MinE.none {m : Nat} {e : Nat → Nat → Bool} {L : List (Nat × Nat)} {z a b : Nat} (h : MinE m e L z) (hb : b < m) {o : Nat → Option Nat} (hd : Dist m (lessB e a b) a o) (hn : o b = .none) : MinE m e (L ++ [(a, b)]) z := by
  refine ⟨fun a' b' hm o' d' hd' ho' => ?_, h.2.imp id (fun ⟨a', b', o', d', h1, h2⟩ => ⟨a', b', o', d', List.mem_append.2 (Or.inl h1), h2⟩)⟩
  rcases List.mem_append.1 hm with hm | hm
  · exact h.1 a' b' hm o' d' hd' ho'
  · simp at hm
    obtain ⟨rfl, rfl⟩ := hm
    rw [hd'.same hd hb, hn] at ho'
    cases ho'
theorem MinE.some {m : Nat} {e : Nat → Nat → Bool} {L : List (Nat × Nat)} {z a b d : Nat} (h : MinE m e L z) (hb : b < m) {o : Nat → Option Nat} (hd : Dist m (lessB e a b) a o) (hn : o b = .some d) : MinE m e (L ++ [(a, b)]) (if z = 0 ∨ d + 1 < z then d + 1 else z) := by
  refine ⟨fun a' b' hm o' d' hd' ho' => ?_, ?_⟩
  · rcases List.mem_append.1 hm with hm | hm
    · have := h.1 a' b' hm o' d' hd' ho'
      by_cases c : z = 0 ∨ d + 1 < z
      · rw [if_pos c]; omega
      · rw [if_neg c]; exact this
    · simp at hm
      obtain ⟨rfl, rfl⟩ := hm
      rw [hd'.same hd hb, hn] at ho'
      cases ho'
      by_cases c : z = 0 ∨ d + 1 < z
      · rw [if_pos c]; omega
      · rw [if_neg c]; omega
  · by_cases c : z = 0 ∨ d + 1 < z
    · rw [if_pos c]
      exact Or.inr ⟨a, b, o, d, by simp, hd, hn, rfl⟩
    · rw [if_neg c]
      exact h.2.imp id (fun ⟨a', b', o', d', h1, h2⟩ => ⟨a', b', o', d', List.mem_append.2 (Or.inl h1), h2⟩)

def natE (L : List Pair) : List (Nat × Nat) := L.map fun e => (e.1.toNat, e.2.toNat)
theorem natE_take {L : List Pair} {k a b : Nat} (h : L[k]? = some ((a : Int), (b : Int))) : natE (L.take (k + 1)) = natE (L.take k) ++ [(a, b)] := by
  obtain ⟨h1, h2⟩ := List.getElem?_eq_some_iff.1 h
  unfold natE
  rw [List.take_succ_eq_append_getElem h1, h2]
  simp
theorem natE_all {m : Nat} {p : Int → Int → Bool} (a b : Nat) : (a, b) ∈ natE (allP m p) ↔ (a < b ∧ b < m ∧ pn p a b = true) := by
  unfold natE
  rw [List.mem_map]
  constructor
  · rintro ⟨e, he, h⟩
    obtain ⟨u, v, h1, h2, h3, rfl⟩ := allP_mem.1 he
    simp at h
    obtain ⟨rfl, rfl⟩ := h
    exact ⟨h1, h2, h3⟩
  · rintro ⟨h1, h2, h3⟩
    exact ⟨((a : Int), (b : Int)), allP_mem.2 ⟨a, b, h1, h2, h3, rfl⟩, by simp⟩

theorem keep2 {W : World} {a1 a2 : Addr} {x y : Value} (c0 : W.cell? a1 = some x) (c1 : W.cell? a2 = some y) {w' : World} (hb : Below W.heap.size W w') : Below W.heap.size W w' ∧ w'.cell? a1 = some x ∧ w'.cell? a2 = some y :=
  ⟨hb, by rw [hb.cell (by exact World.block_lt_of_cell? W _ c0)]; exact c0, by rw [hb.cell (by exact World.block_lt_of_cell? W _ c1)]; exact c1⟩

set_option maxRecDepth 8000 in
set_option maxHeartbeats 4000000 in
theorem refGirth_call (m : Nat) (ao : Option Addr) (cap : Nat) (p : Int → Int → Bool) (w : World) (hG : GridAt w (.slice ao m cap) m p) (hm : m ≤ 100) (hl : (allP m p).length ≤ 1000) (hs : ∀ u v : Nat, p u v = p v u) (hdg : ∀ u : Nat, p u u = false) :
    Calls Try.prog 20 #[.slice ao m cap] w fun r w' => ∃ z : Nat, r = .returned (.int .i64 (z : Int)) ∧ MinE m (pn p) (natE (allP m p)) z ∧ Below w.heap.size w w' := by
  have hof := ofGrid_any m ao cap p w hG hm
  have hmem : ∀ (k : Nat) (e : Pair), (allP m p)[k]? = some e → ∃ x y : Nat, e = ((x : Int), (y : Int)) ∧ x < y ∧ y < m := fun k e h => by
    obtain ⟨u, v, h1, h2, _, h3⟩ := allP_mem.1 (List.mem_of_getElem? h)
    exact ⟨u, v, h3, h1, h2⟩
  have hls : ∀ a b : Nat, a < b → ∀ x y, x < m → y < m → pn (hasB (lessL (allP m p) ((a : Int), (b : Int)))) x y = lessB (pn p) a b x y := fun a b hab x y hx hy => less_same hs hdg hab hx hy
  have hwo := fun (w' : World) (hb : Below w.heap.size w w') (x y : Int) (hx : I64 x) (hy : I64 y) => without_call m ao cap p w' (hG.below hb) hm hl hx hy
  have hF24 := field24
  obtain ⟨fes, hfes⟩ : ∃ fes, fes = allP m p := ⟨_, rfl⟩
  rw [← hfes] at hof hmem hl hls hwo ⊢
  have HOF : Hid _ := hof
  have HM : Hid _ := hmem
  have HLS : Hid _ := hls
  have HWO : Hid _ := hwo
  clear hof hmem hls hwo hfes hG hs hdg
  go_enter Try.func20, Try.ntmps20
  go_wp2_with (first
    | (go_at_call 35; refine Calls.mono HOF.out ?_; rintro r W ⟨hbA, eo, ec, rfl, hE⟩)
    | go_in)
  have HE : Hid _ := hE
  clear hE
  go_loopw [3, 5] (fun z i wr => ∃ (k z' : Nat), k ≤ fes.length ∧ i = .int .i64 (k : Int) ∧ z = .int .i64 (z' : Int) ∧ z' ≤ 200 ∧ MinE m (pn p) (natE (fes.take k)) z' ∧ Below W.heap.size W wr) (fun _ i _ => fes.length - (numOf i).toNat)
  case atStart => exact ⟨0, 0, Nat.zero_le _, rfl, rfl, Nat.zero_le _, by simpa [natE] using MinE.nil _ _, Below.refl _ _⟩
  case round =>
    obtain ⟨k, z, hk, rfl, rfl, hz, hmin, hB⟩ := hrel
    have HMI : Hid _ := hmin
    clear hmin
    by_cases hkl : k < fes.length
    · obtain ⟨eo', ec', ee, _, _, hcells⟩ := EdgesAt.below HE.out hB
      cases ee
      obtain ⟨b, off, rfl, c0, c1⟩ := hcells k hkl
      obtain ⟨x, y, hxy, hlt, hym⟩ := HM.out k _ (List.getElem?_eq_getElem hkl)
      rw [hxy] at c0 c1
      have hget : fes[k]? = some ((x : Int), (y : Int)) := by rw [List.getElem?_eq_getElem hkl, hxy]
      have HGT : Hid _ := hget
      clear hcells hxy hget
      have hxm : x < m := by omega
      have j1 : (0 : Int) ≤ (k : Int) := by omega
      have j2 : (k : Int) < (fes.length : Int) := by omega
      have i1 : (0 : Int) ≤ (y : Int) := by omega
      have i2 : (y : Int) < (m : Int) := by omega
      have hBw := below_next hbA hB
      go_upto_region 6 with (fail)
      go_cut [6] from 16 to 34 (fun s6 wc => (∃ o, Dist m (lessB (pn p) x y) x o ∧ s6 = .int .i64 (farZ (o y))) ∧ Below wr.heap.size wr wc)
      case first =>
        have cc0 := fun (w' : World) (hb : Below wr.heap.size wr w') => (keep2 c0 c1 hb).2.1
        have cc1 := fun (w' : World) (hb : Below wr.heap.size wr w') => (keep2 c0 c1 hb).2.2
        have HC0 : Hid _ := cc0
        have HC1 : Hid _ := cc1
        clear cc0 cc1
        go_region_with (first
          | (go_at_call 36; refine (HWO.out _ (below_next hBw (Below.refl _ _).drew) (x : Int) (y : Int) ⟨by omega, by omega⟩ ⟨by omega, by omega⟩).mono ?_; rintro e w7 ⟨t7, c7, rfl, hG7, hbK⟩; have d0 := HC0.out _ (below_next (Below.refl _ wr).drew hbK); have d1 := HC1.out _ (below_next (Below.refl _ wr).drew hbK))
          | (go_at_call 15; refine (refFar_call m t7 c7 _ _ hG7 hm hxm).mono ?_; rintro e w8 ⟨b8, o, rfl, hb8, hrow, hd, hbF⟩; have cy := hrow.cell hym; have f0 := HC0.out _ (below_next (below_next (Below.refl _ wr).drew hbK) hbF); have f1 := HC1.out _ (below_next (below_next (Below.refl _ wr).drew hbK) hbF)))
        all_goals
          go_wp2_with fail
          go_meet
          case rel => exact ⟨⟨o, dist_congr hd (fun u v hu hv => HLS.out x y hlt u v hu hv), rfl⟩, below_next (below_next (Below.refl _ wr).drew hbK) hbF⟩
      case rest =>
        obtain ⟨⟨o, hd, rfl⟩, hbC⟩ := hcut
        have hBc := below_next hB hbC
        clear hbC c0 c1 hBw
        cases hoy : o y with
        | none =>
          have hmm := MinE.none HMI.out hym hd hoy
          rw [← natE_take HGT.out] at hmm
          have HMM : Hid _ := hmm
          have z1 : ¬ (0 : Int) < farZ none := by decide
          clear hmm hd hoy
          go_wp2
          go_roundw
          case rel => exact ⟨k + 1, z, by omega, by go_num, rfl, hz, HMM.out, hBc⟩
          case measure => simp [numOf]; omega
        | some d =>
          have hd0 : 0 < d := by
            rcases Nat.eq_zero_or_pos d with h | h
            · subst h
              rcases hd.par y 0 hym hoy with ⟨h1, _⟩ | ⟨_, _, _, _, _, h1⟩
              · omega
              · omega
            · exact h
          have hdm := hd.lt hym hoy
          have hmm := MinE.some HMI.out hym hd hoy
          rw [← natE_take HGT.out] at hmm
          have HMM : Hid _ := hmm
          have z1 : (0 : Int) < farZ (some d) := by show (0 : Int) < (d : Int); omega
          have z2 : farZ (some d) = (d : Int) := rfl
          clear hmm hd hoy
          rw [z2] at z1 ⊢
          clear z2
          by_cases k2 : z = 0
          · have k2' : ((z : Int) == 0) = true := by simpa using k2
            have HE1 : Hid (z = 0 ∨ d + 1 < z) := Or.inl k2
            go_wp2
            go_roundw
            case rel => exact ⟨k + 1, d + 1, by omega, by go_num, by simp, by omega, by have := HMM.out; rw [if_pos HE1.out] at this; exact this, hBc⟩
            case measure => simp [numOf]; omega
          · have k2b : ((z : Int) == 0) = false := by simpa using k2
            have k2c : (z == 0) = false := by simpa using k2
            by_cases k3 : d + 1 < z
            · have k3' : (d : Int) + 1 < (z : Int) := by omega
              have HE1 : Hid (z = 0 ∨ d + 1 < z) := Or.inr k3
              clear k3
              go_wp2
              go_roundw
              case rel => exact ⟨k + 1, d + 1, by omega, by go_num, by simp, by omega, by have := HMM.out; rw [if_pos HE1.out] at this; exact this, hBc⟩
              case measure => simp [numOf]; omega
            · have k3' : ¬ (d : Int) + 1 < (z : Int) := by omega
              have HE1 : Hid (¬ (z = 0 ∨ d + 1 < z)) := show ¬ (z = 0 ∨ d + 1 < z) by omega
              clear k3
              go_wp2
              go_roundw
              case rel => exact ⟨k + 1, z, by omega, by go_num, rfl, hz, by have := HMM.out; rw [if_neg HE1.out] at this; exact this, hBc⟩
              case measure => simp [numOf]; omega
    · have hke : fes.length = k := by omega
      subst hke
      have hmm := HMI.out
      rw [List.take_length] at hmm
      have HMM : Hid _ := hmm
      clear hmm HMI
      go_wp2
      go_ret
      exact ⟨z, rfl, HMM.out, below_next hbA hB⟩
end Go.Proofs.Ytkbgcbbloogdjac
