/- The document's Transitive: arcs go on where two stand behind each other. The document's Comparable: edges in all directions. -/
import Derived.Test.YtkkfjfphmlcieaaGreatSame
import Derived.Test.YtkkfjfphmlcieaaGreatKitC
import Derived.BigQuiet
import Derived.Test.YtkkfjfphmlcieaaGreatDirectMW
namespace Go.Proofs.YtkkfjfphmlcieaaGreat
set_option maxRecDepth 8000
open Go.RowKit Go.Maps
attribute [local go_sem ↓] Go.wp_at_zero Go.wp_at_succ
theorem eql38 {x y u v : Int} (hx : I64 x) (hy : I64 y) (hu : I64 u) (hv : I64 v) (w : World) : (binOp .eql 38 (.agg #[.int .i64 x, .int .i64 y]) (.agg #[.int .i64 u, .int .i64 v])).run Tryz.prog w = .ok (.bool (decide (x = u ∧ y = v))) w := by
  obtain ⟨r, h1, h2⟩ := run_equal_deep (P := Tryz.prog) w (m := Tryz.prog.types.size + 1) (of_decide_eq_true (by kernel_rfl)) (k := 38) (by kernel_rfl) (by kernel_rfl) (key_mk hx hy) (key_mk hu hv)
  have hr : r = decide (x = u ∧ y = v) := by
    rw [Bool.eq_iff_iff]
    simp only [decide_eq_true_eq]
    constructor
    · intro hh
      have := h2.1 hh
      exact key_inj hx hy hu hv this
    · rintro ⟨rfl, rfl⟩
      exact h2.2 rfl
  rw [hr] at h1
  simp only [binOp]
  simp [h1, Result.andThen]
/-- Where two arcs stand behind each other, one goes all the way. -/
def TransL (L : List Pair) : Prop := ∀ i j, i < L.length → j < L.length → (L.getD i (0, 0)).2 = (L.getD j (0, 0)).1 → ((L.getD i (0, 0)).1, (L.getD j (0, 0)).2) ∈ L
theorem EdgesAt.get {w : World} {ao : Option Addr} {cap : Nat} {L : List Pair} (h : EdgesAt w (.slice ao L.length cap) L) {k : Nat} (hk : k < L.length) : ∃ (b off : Nat) (x y : Int), ao = some ⟨b, off, none⟩ ∧ L[k]? = some (x, y) ∧ I64 x ∧ I64 y ∧ w.cell? ⟨b, off + k * 2, none⟩ = some (.int .i64 x) ∧ w.cell? ⟨b, off + k * 2 + 1, none⟩ = some (.int .i64 y) := by
  obtain ⟨ao', cap', e, h2, h3, h4⟩ := h
  cases e
  obtain ⟨b, off, e, c0, c1⟩ := h4 k hk
  exact ⟨b, off, L[k].1, L[k].2, e, by rw [List.getElem?_eq_getElem hk], (h3 _ (List.getElem_mem hk)).1, (h3 _ (List.getElem_mem hk)).2, c0, c1⟩
/-- A Boolean answer that tells P. -/
def SaysB (P : Prop) (w : World) (e : Ending) (w' : World) : Prop := ∃ b : Bool, e = .returned (.bool b) ∧ (b = true ↔ P) ∧ Below w.heap.size w w'
theorem getD_some {L : List Pair} {k : Nat} {p : Pair} (h : L[k]? = some p) : L.getD k (0, 0) = p := by simp [List.getD, h]
set_option maxHeartbeats 4000000 in
theorem trans_call {w : World} {ao : Option Addr} {cap : Nat} {L : List Pair} (hE : EdgesAt w (.slice ao L.length cap) L) :
    Calls Tryz.prog 19 #[.slice ao L.length cap] w fun e w' => SaysB (TransL L) w e w' := by
  have hlen : L.length ≤ 8796093022208 := by obtain ⟨_, _, _, h, _⟩ := hE; exact h
  have HE : Hid (EdgesAt w (.slice ao L.length cap) L) := hE
  clear hE
  go_enter Tryz.func19, Tryz.ntmps19
  go_upto_region 2 with (fail)
  go_loopw [3] (fun s3 wz => ∃ i : Nat, i ≤ L.length ∧ s3 = .int .i64 (i : Int) ∧ (∀ i' j, i' < i → j < L.length → (L.getD i' (0, 0)).2 = (L.getD j (0, 0)).1 → ((L.getD i' (0, 0)).1, (L.getD j (0, 0)).2) ∈ L) ∧ Below w.heap.size w wz) (fun s3 _ => L.length - (numOf s3).toNat)
  case atStart => exact ⟨0, Nat.zero_le _, rfl, fun i' j h => absurd h (by omega), Below.refl _ _⟩
  case round =>
    obtain ⟨i, hi, rfl, hdi, hBi⟩ := hrel
    have HDI : Hid (∀ i' j, i' < i → j < L.length → (L.getD i' (0, 0)).2 = (L.getD j (0, 0)).1 → ((L.getD i' (0, 0)).1, (L.getD j (0, 0)).2) ∈ L) := hdi
    clear hdi
    by_cases hil : i < L.length
    · have a1 : (0 : Int) ≤ (i : Int) := by omega
      have a2 : (i : Int) < (L.length : Int) := by omega
      go_upto_region 5 with (fail)
      go_loopw [4] (fun s4 wz => ∃ j : Nat, j ≤ L.length ∧ s4 = .int .i64 (j : Int) ∧ (∀ j', j' < j → (L.getD i (0, 0)).2 = (L.getD j' (0, 0)).1 → ((L.getD i (0, 0)).1, (L.getD j' (0, 0)).2) ∈ L) ∧ Below w.heap.size w wz) (fun s4 _ => L.length - (numOf s4).toNat)
      case atStart => exact ⟨0, Nat.zero_le _, rfl, fun j h => absurd h (by omega), hBi⟩
      case round =>
        obtain ⟨j, hj, rfl, hdj, hBj⟩ := hrel
        have HDJ : Hid (∀ j', j' < j → (L.getD i (0, 0)).2 = (L.getD j' (0, 0)).1 → ((L.getD i (0, 0)).1, (L.getD j' (0, 0)).2) ∈ L) := hdj
        clear hdj hBi
        by_cases hjl : j < L.length
        · have b1 : (0 : Int) ≤ (j : Int) := by omega
          have b2 : (j : Int) < (L.length : Int) := by omega
          obtain ⟨b, off, x, y, rfl, gi, hxI, hyI, ci0, ci1⟩ := (HE.out.below hBj).get hil
          obtain ⟨b', off', u, v, e', gj, huI, hvI, cj0, cj1⟩ := (HE.out.below hBj).get hjl
          cases e'
          have HGI : Hid (L.getD i (0, 0) = (x, y)) := getD_some gi
          have HGJ : Hid (L.getD j (0, 0) = (u, v)) := getD_some gj
          clear gi gj
          by_cases hyu : y = u
          · subst hyu
            have q : (y != y) = false := by simp
            go_upto_region 7 with (fail)
            go_quiet (fail)
            have hBq := below_drewN hBj nq
            clear ci0 ci1 cj0 cj1 hBj
            generalize wr.drewN nq = Wq at hBq ⊢
            go_upto_region 10 with (fail)
            go_loopw [5, 6] (fun s5 s6 wz => ∃ (k : Nat) (fd : Bool), k ≤ L.length ∧ s5 = .bool fd ∧ s6 = .int .i64 (k : Int) ∧ (fd = true ↔ ∃ k', k' < k ∧ L[k']? = some (x, v)) ∧ Below w.heap.size w wz) (fun _ s6 _ => L.length - (numOf s6).toNat)
            case atStart => exact ⟨0, false, Nat.zero_le _, rfl, rfl, by simp, hBq⟩
            case round =>
              obtain ⟨k, fd, hk, rfl, rfl, hfd, hBk⟩ := hrel
              have HFD : Hid (fd = true ↔ ∃ k', k' < k ∧ L[k']? = some (x, v)) := hfd
              clear hfd hBq
              by_cases hkl : k < L.length
              · have c1 : (0 : Int) ≤ (k : Int) := by omega
                have c2 : (k : Int) < (L.length : Int) := by omega
                cases fd with
                | true =>
                  go_upto_region 12 with (fail)
                  go_quiet (fail)
                  go_wp2
                  go_roundw
                  case rel => exact ⟨k + 1, true, by omega, rfl, by go_num, ⟨fun _ => by
                    obtain ⟨k', h1, h2⟩ := HFD.out.1 rfl
                    exact ⟨k', by omega, h2⟩, fun _ => rfl⟩, below_drewN hBk _⟩
                  case measure => simp [numOf]; omega
                | false =>
                  obtain ⟨b', off', p, q', e', gk, hpI, hqI, ck0, ck1⟩ := (HE.out.below hBk).get hkl
                  cases e'
                  obtain ⟨b', off', x', y', e', gi, _, _, ci0, ci1⟩ := (HE.out.below hBk).get hil
                  cases e'
                  obtain ⟨b', off', u', v', e', gj, _, _, cj0, cj1⟩ := (HE.out.below hBk).get hjl
                  cases e'
                  have hi0 := getD_some gi
                  have hj0 := getD_some gj
                  rw [HGI.out] at hi0
                  rw [HGJ.out] at hj0
                  cases hi0
                  cases hj0
                  have hq := fun w' => eql38 (x := p) (y := q') (u := x) (v := v) hpI hqI hxI hvI w'
                  have HGK : Hid (L[k]? = some (p, q')) := gk
                  clear gi gj gk
                  obtain ⟨d, hd⟩ : ∃ d, d = decide (p = x ∧ q' = v) := ⟨_, rfl⟩
                  rw [← hd] at hq
                  have HD : Hid (d = true ↔ (p = x ∧ q' = v)) := by
                    show d = true ↔ _
                    rw [hd]; simp
                  clear hd
                  go_upto_region 12 with (fail)
                  go_quiet (fail)
                  go_wp2
                  go_roundw
                  case rel => exact ⟨k + 1, d, by omega, rfl, by go_num, ⟨fun h => ⟨k, by omega, by
                    obtain ⟨rfl, rfl⟩ := HD.out.1 h
                    exact HGK.out⟩, fun ⟨k', h1, h2⟩ => by
                    by_cases e : k' = k
                    · subst e
                      rw [HGK.out] at h2
                      simp at h2
                      exact HD.out.2 h2
                    · have := HFD.out.2 ⟨k', by omega, h2⟩
                      cases this⟩, below_drewN hBk _⟩
                  case measure => simp [numOf]; omega
              · have c2 : ¬ (k : Int) < (L.length : Int) := by omega
                cases fd with
                | true =>
                  have HIN : Hid ((x, v) ∈ L) := by
                    obtain ⟨k', h1, h2⟩ := HFD.out.1 rfl
                    exact List.mem_of_getElem? h2
                  go_wp2
                  go_roundw
                  case rel => exact ⟨j + 1, by omega, by go_num, fun j' hj' => by
                    by_cases e : j' = j
                    · subst e
                      rw [HGI.out, HGJ.out]
                      intro _; exact HIN.out
                    · exact HDJ.out j' (by omega), hBk⟩
                  case measure => simp [numOf]; omega
                | false =>
                  have HNO : Hid (¬ TransL L) := fun ht => by
                    have := ht i j hil hjl
                    rw [HGI.out, HGJ.out] at this
                    obtain ⟨k', h1, h2⟩ := List.getElem_of_mem (this rfl)
                    have := HFD.out.2 ⟨k', by omega, by rw [List.getElem?_eq_getElem h1, h2]⟩
                    cases this
                  go_wp2
                  go_ret
                  exact ⟨false, rfl, ⟨fun h => (by cases h), fun h => absurd h HNO.out⟩, hBk⟩
          · have q : (y != u) = true := by simpa using hyu
            go_upto_region 7 with (fail)
            go_quiet (fail)
            go_wp2
            go_roundw
            case rel => exact ⟨j + 1, by omega, by go_num, fun j' hj' => by
              by_cases e : j' = j
              · subst e
                rw [HGI.out, HGJ.out]
                intro hh; exact absurd hh hyu
              · exact HDJ.out j' (by omega), below_drewN hBj _⟩
            case measure => simp [numOf]; omega
        · have b2 : ¬ (j : Int) < (L.length : Int) := by omega
          go_wp2
          go_roundw
          case rel => exact ⟨i + 1, by omega, by go_num, fun i' j' hi' hj' => by
            by_cases e : i' = i
            · subst e; exact HDJ.out j' (by omega)
            · exact HDI.out i' j' (by omega) hj', hBj⟩
          case measure => simp [numOf]; omega
    · have a2 : ¬ (i : Int) < (L.length : Int) := by omega
      go_wp2
      go_ret
      exact ⟨true, rfl, ⟨fun _ i' j' hi' hj' => HDI.out i' j' (by omega) hj', fun _ => rfl⟩, hBi⟩
end Go.Proofs.YtkkfjfphmlcieaaGreat

namespace Go.Proofs.YtkkfjfphmlcieaaGreat
set_option maxRecDepth 8000
open Go.RowKit Go.Maps
attribute [local go_sem ↓] Go.wp_at_zero Go.wp_at_succ
/-- The edges, each with one of its two directions. -/
def Turned (es D : List Pair) : Prop := D.length = es.length ∧ ∀ (k : Nat) (x y : Int), es[k]? = some (x, y) → D[k]? = some (x, y) ∨ D[k]? = some (y, x)
theorem and1z (n : Int) : bits .and .i64 n 1 = n % 2 := by
  have h1 : (BitVec.ofInt 64 1).toNat = 2 ^ 1 - 1 := by decide
  have key : (BitVec.ofInt 64 n &&& BitVec.ofInt 64 1).toNat = (n % ((2 ^ 64 : Nat) : Int)).toNat % 2 ^ 1 := by
    rw [BitVec.toNat_and, BitVec.toNat_ofInt, h1, Nat.and_two_pow_sub_one_eq_mod]
  show IntKind.i64.wrap ((BitVec.ofInt 64 n &&& BitVec.ofInt 64 1).toNat : Nat) = n % 2
  rw [key, IntKind.wrap_i64]
  omega
theorem bit_or (n : Int) : bits .and .i64 n 1 = 0 ∨ bits .and .i64 n 1 = 1 := by
  rw [and1z]; omega
/-- The first t edges, each with one of its two directions. -/
structure TurnT (es D : List Pair) (t : Nat) : Prop where
  len : D.length = t
  ok : ∀ (k : Nat) (x y : Int), k < t → es[k]? = some (x, y) → D[k]? = some (x, y) ∨ D[k]? = some (y, x)
  i64 : ∀ e ∈ D, I64 e.1 ∧ I64 e.2
theorem TurnT.push {es D : List Pair} {t : Nat} (h : TurnT es D t) {x y u v : Int} (he : es[t]? = some (x, y)) (hx : I64 x) (hy : I64 y) (huv : (u = x ∧ v = y) ∨ (u = y ∧ v = x)) : TurnT es (D ++ [(u, v)]) (t + 1) := by
  refine ⟨by simp [h.len], fun k a b hk hab => ?_, fun e he' => ?_⟩
  · by_cases e : k = t
    · subst e
      rw [he] at hab
      simp at hab
      obtain ⟨rfl, rfl⟩ := hab
      have : (D ++ [(u, v)])[k]? = some (u, v) := by simp [← h.len]
      rw [this]
      rcases huv with ⟨rfl, rfl⟩ | ⟨rfl, rfl⟩
      · exact Or.inl rfl
      · exact Or.inr rfl
    · rw [List.getElem?_append_left (by rw [h.len]; omega)]
      exact h.ok k a b (by omega) hab
  · rcases List.mem_append.1 he' with h1 | h1
    · exact h.i64 e h1
    · simp at h1
      subst h1
      rcases huv with ⟨rfl, rfl⟩ | ⟨rfl, rfl⟩
      · exact ⟨hx, hy⟩
      · exact ⟨hy, hx⟩
/-- What Comparable answers: true only where there are such directions. -/
def CompE (es : List Pair) (w : World) (e : Ending) (w' : World) : Prop := ∃ b : Bool, e = .returned (.bool b) ∧ (b = true → ∃ D, Turned es D ∧ TransL D) ∧ Below w.heap.size w w'
set_option maxHeartbeats 4000000 in
theorem comp_call {w : World} {eo : Option Addr} {ec : Nat} {es : List Pair} (hE : EdgesAt w (.slice eo es.length ec) es) (hl : es.length ≤ 12) :
    Calls Tryz.prog 17 #[.slice eo es.length ec] w fun e w' => CompE es w e w' := by
  have HE : Hid (EdgesAt w (.slice eo es.length ec) es) := hE
  clear hE
  have i7 : min es.length 64 = es.length := by omega
  have hM : 2 ^ es.length ≤ 2 ^ 12 := Nat.pow_le_pow_right (by omega) hl
  obtain ⟨M, hMe⟩ : ∃ M : Nat, M = 2 ^ es.length := ⟨_, rfl⟩
  have hM' : M ≤ 4096 := by rw [hMe]; exact hM
  have i8 : wrap64 (2 ^ es.length) = (M : Int) := by
    have : (2 ^ es.length : Int) = (M : Int) := by rw [hMe]; push_cast; rfl
    rw [this]
    unfold wrap64
    omega
  clear hM hMe
  go_enter Tryz.func17, Tryz.ntmps17
  go_upto_region 2 with (fail)
  go_loopw [3] (fun s3 wz => ∃ s : Nat, s ≤ M ∧ s3 = .int .i64 (s : Int) ∧ Below w.heap.size w wz) (fun s3 _ => M - (numOf s3).toNat)
  case atStart => exact ⟨0, Nat.zero_le _, rfl, Below.refl _ _⟩
  case round =>
    obtain ⟨s, hs, rfl, hBs⟩ := hrel
    by_cases hsM : s < M
    · have a2 : (s : Int) < (M : Int) := by omega
      go_upto_region 6 with (fail)
      rw [i8]
      go_loopw [4, 5] (fun s4 s5 wz => ∃ (t : Nat) (D : List Pair), t ≤ es.length ∧ s5 = .int .i64 (t : Int) ∧ wz.ownsRow w.heap.size 38 2 s4 D.length (flat D) ∧ TurnT es D t ∧ Below w.heap.size w wz) (fun _ s5 _ => es.length - (numOf s5).toNat)
      case atStart => exact ⟨0, [], Nat.zero_le _, rfl, World.ownsRow_nil _ _ _ _, ⟨rfl, fun k x y h => absurd h (by omega), fun e h => (by cases h)⟩, hBs⟩
      case round =>
        obtain ⟨t, D, ht, rfl, hrow, hT, hBt⟩ := hrel
        obtain ⟨vo, vc, rfl⟩ := form_row hrow
        have HROW : Hid (wr.ownsRow w.heap.size 38 2 (.slice vo D.length vc) D.length (flat D)) := hrow
        have HT : Hid (TurnT es D t) := hT
        have hDl : D.length ≤ 12 := by rw [hT.len]; omega
        clear hBs hrow hT
        by_cases htl : t < es.length
        · obtain ⟨b, off, x, y, rfl, ge, hxI, hyI, c0, c1⟩ := (HE.out.below hBt).get htl
          have HGE : Hid (es[t]? = some (x, y)) := ge
          have b1 : (0 : Int) ≤ (t : Int) := by omega
          have b2 : (t : Int) < (es.length : Int) := by omega
          have m1 : min t 64 = t := by omega
          have HXI : Hid (I64 x ∧ I64 y) := ⟨hxI, hyI⟩
          clear ge hxI hyI
          go_upto_region 9 with (fail)
          have hB1 := below_alloc (Below.refl _ wr) (Obj.cells #[.int .i64 x, .int .i64 y] 38)
          have t6 := two_new wr (.int .i64 x) (.int .i64 y) 38
          obtain ⟨b6, hb6⟩ : ∃ b, b = wr.heap.size := ⟨_, rfl⟩
          rw [← hb6] at t6 ⊢
          clear c0 c1
          generalize wr.alloc (Obj.cells #[.int .i64 x, .int .i64 y] 38) = W1 at hB1 t6 ⊢
          have hBW := below_next hBt hB1
          have HR1 : Hid (W1.ownsRow w.heap.size 38 2 (.slice vo D.length vc) D.length (flat D)) := ownsRow_blocks HROW.out (fun k hk => hB1.block k (HROW.out.lt k hk).2)
          have HB6 : Hid (w.heap.size ≤ b6 ∧ ∀ k, (Value.slice vo D.length vc).ownBlock = some k → k ≠ b6) := ⟨by rw [hb6]; exact hBt.size, fun k hk e => by have := (HROW.out.lt k hk).2; omega⟩
          clear hb6 hB1 HROW hBt
          obtain ⟨d0, d1⟩ := cell_two t6
          have f0 := free_two t6 0
          have f1 := free_two t6 1
          rcases bit_or ((s : Int) / 2 ^ t) with hb | hb
          · have q : ((0 : Int) == 1) = false := by decide
            have hrow1 := HR1.out
            have hsz1 := hBW.size
            go_wp2_with (first | (at_builtin; refine wpList_pushP (x := x) (y := y) rfl _ _ rfl rfl rfl hrow1 (by omega) hsz1 ?_; intro v9 w9 hown9 hg9) | go_in)
            go_roundw
            case rel => exact ⟨t + 1, D ++ [(x, y)], by omega, by go_num, by rw [flat_snoc]; simpa using hown9, HT.out.push HGE.out HXI.out.1 HXI.out.2 (Or.inl ⟨rfl, rfl⟩), (below_alloc hBW _).grown hg9 (below_alloc hBW _).size (fun k hk => (HR1.out.lt k hk).1)⟩
            case measure => simp [numOf]; omega
          · go_upto_region 11 with (fail)
            have t8 := two_setN t6 (x' := .int .i64 y) (y' := .int .i64 x)
            have hB8 : Below w.heap.size w ((W1.setCell ⟨b6, 0, none⟩ (.int .i64 y)).setCell ⟨b6, 1, none⟩ (.int .i64 x)) := (hBW.setCell HB6.out.1 _).setCell HB6.out.1 _
            have hR8 : ((W1.setCell ⟨b6, 0, none⟩ (.int .i64 y)).setCell ⟨b6, 1, none⟩ (.int .i64 x)).ownsRow w.heap.size 38 2 (.slice vo D.length vc) D.length (flat D) := ownsRow_blocks HR1.out (fun k hk => ((setCell_turns W1 b6 0 _).trans (setCell_turns _ b6 1 _)).block k (HR1.out.lt k hk).2 (HB6.out.2 k hk))
            clear d0 d1 f0 f1 t6
            generalize (W1.setCell ⟨b6, 0, none⟩ (.int .i64 y)).setCell ⟨b6, 1, none⟩ (.int .i64 x) = W8 at t8 hB8 hR8 ⊢
            obtain ⟨d0, d1⟩ := cell_two t8
            have hsz1 := hB8.size
            have HR8 : Hid (W8.ownsRow w.heap.size 38 2 (.slice vo D.length vc) D.length (flat D)) := hR8
            go_wp2_with (first | (at_builtin; refine wpList_pushP (x := y) (y := x) rfl _ _ rfl rfl rfl hR8 (by omega) hsz1 ?_; intro v9 w9 hown9 hg9) | go_in)
            go_roundw
            case rel => exact ⟨t + 1, D ++ [(y, x)], by omega, by go_num, by rw [flat_snoc]; simpa using hown9, HT.out.push HGE.out HXI.out.1 HXI.out.2 (Or.inr ⟨rfl, rfl⟩), (below_alloc hB8 _).grown hg9 (below_alloc hB8 _).size (fun k hk => (HR8.out.lt k hk).1)⟩
            case measure => simp [numOf]; omega
        · have b2 : ¬ (t : Int) < (es.length : Int) := by omega
          have hte : t = es.length := by omega
          have HTU : Hid (Turned es D) := ⟨by rw [HT.out.len, hte], fun k x y hk => HT.out.ok k x y (by rw [hte]; exact (List.getElem?_eq_some_iff.1 hk).1) hk⟩
          have hED := edgesAt_row HROW.out HT.out.i64 (by omega)
          have h19 := trans_call hED
          clear hte
          by_cases hTD : TransL D
          · have H19 : Hid (Calls Tryz.prog 19 #[.slice vo D.length vc] wr fun e w' => e = .returned (.bool true) ∧ Below wr.heap.size wr w') := h19.mono (by
              rintro e w' ⟨bb, rfl, hbb, hB⟩
              rw [hbb.2 hTD]; exact ⟨rfl, hB⟩)
            clear hED h19
            go_wp2_with (first | (go_at_call 19; refine Calls.mono H19.out ?_; rintro e' w8 ⟨rfl, hB8⟩) | go_in)
            go_ret
            exact ⟨true, rfl, fun _ => ⟨D, HTU.out, hTD⟩, below_next hBt hB8⟩
          · have H19 : Hid (Calls Tryz.prog 19 #[.slice vo D.length vc] wr fun e w' => e = .returned (.bool false) ∧ Below wr.heap.size wr w') := h19.mono (by
              rintro e w' ⟨bb, rfl, hbb, hB⟩
              have : bb = false := by
                cases bb with
                | false => rfl
                | true => exact absurd (hbb.1 rfl) hTD
              rw [this]; exact ⟨rfl, hB⟩)
            clear hED h19
            go_wp2_with (first | (go_at_call 19; refine Calls.mono H19.out ?_; rintro e' w8 ⟨rfl, hB8⟩) | go_in)
            go_roundw
            case rel => exact ⟨s + 1, by omega, by go_num, below_next hBt hB8⟩
            case measure => simp [numOf]; omega
    · have a2 : ¬ (s : Int) < (M : Int) := by omega
      go_wp2
      go_ret
      exact ⟨false, rfl, fun h => (by cases h), hBs⟩
end Go.Proofs.YtkkfjfphmlcieaaGreat
