/- A region that draws its order, makes one cell of its own at some time and stores there behind all else. The best load for each choice of what the bag above has: scale.settle. -/
import Derived.Test.YtdalconphfgepaaDoorChoMW
namespace Go.Proofs.YtdalconphfgepaaDoor
set_option maxRecDepth 8000
open Go.RowKit Go.Maps
structure SG (W : World) (m : Nat) (VP : Nat → Value → World → Prop) (cs : Array Value) (t : TypeId) (CP : (Nat → Value) → Array Value) (L : Nat → Bool) (f : Nat → Value) (w : World) : Prop where
  told : L (m + 1) = false → ∀ i, i < m → L i = true → VP i (f i) w
  w0 : L (m + 1) = false → Below W.heap.size W w
  am : L m = true → L (m + 1) = false → ∃ b, f m = .pointer (some ⟨b, 0, none⟩) ∧ W.heap.size ≤ b ∧ Box w b cs t
  wm : L (m + 1) = true → ∃ w1 b, f m = .pointer (some ⟨b, 0, none⟩) ∧ Below W.heap.size W w1 ∧ W.heap.size ≤ b ∧ Box w1 b cs t ∧ (∀ i, i < m → VP i (f i) w1) ∧ Turns (fun k => k = b) w1 w ∧ Box w b (CP f) t
  cl : L (m + 1) = true → ∀ j, j < m + 1 → L j = true
section
variable {W : World} {m : Nat} {VP : Nat → Value → World → Prop} {cs : Array Value} {t : TypeId} {CP : (Nat → Value) → Array Value} {L : Nat → Bool} {f : Nat → Value} {w w' : World}
theorem SG.open_ (h : SG W m VP cs t CP L f w) {i : Nat} (hL : L i = false) (hi : i < m + 1) : L (m + 1) = false := by
  cases e : L (m + 1) with
  | false => rfl
  | true => have := h.cl e i hi; rw [hL] at this; cases this
theorem SG.early (h : SG W m VP cs t CP L f w) {i : Nat} (hL : L i = false) (hi : i < m + 1) : Below W.heap.size W w := h.w0 (h.open_ hL hi)
theorem SG.tl (h : SG W m VP cs t CP L f w) {i : Nat} (hL : L i = false) (hi : i < m + 1) {j : Nat} (hj : j < m) (hl : L j = true) : VP j (f j) w := h.told (h.open_ hL hi) j hj hl
theorem SG.put (h : SG W m VP cs t CP L f w) (hmono : ∀ i x w w', VP i x w → Below w.heap.size w w' → VP i x w') {i : Nat} {x : Value} (hL : L i = false) (hi : i < m) (hb : Below w.heap.size w w') (hx : VP i x w') : SG W m VP cs t CP (also L i) (updV f i x) w' := by
  have h7 := h.open_ hL (by omega)
  have a7 : also L i (m + 1) = false := by rw [also_at (by omega)]; exact h7
  refine ⟨fun _ j hj hk => ?_, fun _ => below_next (h.w0 h7) hb, fun hk _ => ?_, fun hk => (by rw [a7] at hk; cases hk), fun hk => (by rw [a7] at hk; cases hk)⟩
  · by_cases e : j = i
    · subst e; rw [updV_same]; exact hx
    · rw [updV_ne _ _ e]; exact hmono _ _ _ _ (h.told h7 j hj (by rwa [also_at e] at hk)) hb
  · rw [also_at (by omega)] at hk
    obtain ⟨b, h1, h2, h3⟩ := h.am hk h7
    exact ⟨b, by rw [updV_ne _ _ (by omega)]; exact h1, h2, (hb.block _ (lt_of_block h3)).trans h3⟩
theorem SG.alloc (h : SG W m VP cs t CP L f w) (hmono : ∀ i x w w', VP i x w → Below w.heap.size w w' → VP i x w') (hL : L m = false) : SG W m VP cs t CP (also L m) (updV f m (.pointer (some ⟨w.heap.size, 0, none⟩))) (w.alloc (Obj.cells cs t)) := by
  have h7 := h.open_ hL (by omega)
  have a7 : also L m (m + 1) = false := by rw [also_at (by omega)]; exact h7
  refine ⟨fun _ j hj hk => ?_, fun _ => below_alloc (h.w0 h7) _, fun _ _ => ⟨w.heap.size, updV_same _ _ _, (h.w0 h7).size, box_new _ _ _⟩, fun hk => (by rw [a7] at hk; cases hk), fun hk => (by rw [a7] at hk; cases hk)⟩
  rw [updV_ne _ _ (by omega)]
  exact hmono _ _ _ _ (h.told h7 j hj (by rwa [also_at (by omega)] at hk)) (below_alloc (Below.refl _ _) _)
theorem SG.store (h : SG W m VP cs t CP L f w) (hL : L (m + 1) = false) (hall : ∀ j, j < m + 1 → L j = true) {b : Nat} (hb : f m = .pointer (some ⟨b, 0, none⟩)) (h2 : W.heap.size ≤ b) (h3 : Box w b cs t) (x : Value) (ht : Turns (fun k => k = b) w w') (hbx : Box w' b (CP (updV f (m + 1) x)) t) :
    SG W m VP cs t CP (also L (m + 1)) (updV f (m + 1) x) w' := by
  have a7 : also L (m + 1) (m + 1) = true := also_self _ _
  refine ⟨fun hk => (by rw [a7] at hk; cases hk), fun hk => (by rw [a7] at hk; cases hk), fun _ hk => (by rw [a7] at hk; cases hk), fun _ => ⟨w, b, ?_, h.w0 hL, h2, h3, fun i hi => ?_, ht, hbx⟩, fun _ j hj => also_of (hall j hj) _⟩
  · rw [updV_ne _ _ (by omega)]; exact hb
  · rw [updV_ne _ _ (by omega)]; exact h.told hL i hi (hall i (by omega))
theorem SG.start : SG W m VP cs t CP (fun _ => false) f W.drew :=
  ⟨fun _ _ _ h => (by cases h), fun _ => (Below.refl _ W).drew, fun h => (by cases h), fun h => (by cases h), fun h => (by cases h)⟩
theorem SG.done (h : SG W m VP cs t CP L f w) (hall : L (m + 1) = true) : ∃ w1 b, f m = .pointer (some ⟨b, 0, none⟩) ∧ W.heap.size ≤ b ∧ Box w1 b cs t ∧ (∀ i, i < m → VP i (f i) w1) ∧ Turns (fun k => k = b) w1 w ∧ Box w b (CP f) t ∧ Below W.heap.size W w ∧ Below W.heap.size W w1 := by
  obtain ⟨w1, b, h1, h2, h3, h4, h5, h6, h7⟩ := h.wm hall
  exact ⟨w1, b, h1, h3, h4, h5, h6, h7, h6.below h2 h2.size (fun z hz => by subst hz; exact h3), h2⟩
end
theorem store_three {w : World} {b : Nat} {x y z : Value} {t : TypeId} (h : Box w b #[x, y, z] t) (x' y' z' : Value) : w.cell? ⟨b, 0, none⟩ = some x ∧ w.frozen? ⟨b, 0, none⟩ = false ∧ (w.setCell ⟨b, 0, none⟩ x').cell? ⟨b, 1, none⟩ = some y ∧ (w.setCell ⟨b, 0, none⟩ x').frozen? ⟨b, 1, none⟩ = false ∧ ((w.setCell ⟨b, 0, none⟩ x').setCell ⟨b, 1, none⟩ y').cell? ⟨b, 2, none⟩ = some z ∧ ((w.setCell ⟨b, 0, none⟩ x').setCell ⟨b, 1, none⟩ y').frozen? ⟨b, 2, none⟩ = false ∧ Box (((w.setCell ⟨b, 0, none⟩ x').setCell ⟨b, 1, none⟩ y').setCell ⟨b, 2, none⟩ z') b #[x', y', z'] t ∧ Turns (fun k => k = b) w (((w.setCell ⟨b, 0, none⟩ x').setCell ⟨b, 1, none⟩ y').setCell ⟨b, 2, none⟩ z') :=
  ⟨box_cell h rfl, box_free h 0, box_cell (box_set h 0 x') (i := 1) rfl, box_free (box_set h 0 x') 1, box_cell (box_set (box_set h 0 x') 1 y') (i := 2) rfl, box_free (box_set (box_set h 0 x') 1 y') 2, box_set (box_set (box_set h 0 x') 1 y') 2 z', ((setCell_turns w b 0 _).trans (setCell_turns _ b 1 _)).trans (setCell_turns _ b 2 _)⟩
end Go.Proofs.YtdalconphfgepaaDoor

namespace Go.Proofs.YtdalconphfgepaaDoor
set_option maxRecDepth 8000
open Go.RowKit Go.Maps
attribute [local go_sem ↓] Go.wp_at_zero Go.wp_at_succ
def stl (wt : Nat → Int) (above s : Nat) (p : Int × Nat) : Int × Nat := (p.1 + wsum wt (sLess s above), p.2 ||| sLess s above)
def SetR (wt : Nat → Int) (above : Nat) (L R : Lds) : Prop := (∀ s p, L s = some p → ∃ r, R (s &&& above) = some r ∧ (stl wt above s p).1 ≤ r.1) ∧ ∀ k r, R k = some r → ∃ s p, L s = some p ∧ k = s &&& above ∧ r = stl wt above s p
/-- What the loop keeps. -/
structure SI (w wz : World) (b1 bm r n : Nat) (wt : Nat → Int) (above : Nat) (L : Lds) (V : Nat → Prop) (cnt n' : Nat) (G : Lds) : Prop where
  ran : RanL wz b1 r n L V cnt
  map : MapL wz bm n' G
  bel : Below w.heap.size w wz
  le : n' + cnt ≤ n
  vis : ∀ s p, V s → L s = some p → ∃ r, G (s &&& above) = some r ∧ (stl wt above s p).1 ≤ r.1
  out : ∀ k r, G k = some r → ∃ s p, L s = some p ∧ k = s &&& above ∧ r = stl wt above s p
section
variable {wt : Nat → Int} {above : Nat} {L G : Lds} {V : Nat → Prop} {s : Nat} {p : Int × Nat}
theorem sl_vis_put (hv : ∀ s p, V s → L s = some p → ∃ r, G (s &&& above) = some r ∧ (stl wt above s p).1 ≤ r.1) (hL : L s = some p) (hb : ∀ r, G (s &&& above) = some r → r.1 ≤ (stl wt above s p).1) : ∀ t q, (V t ∨ t = s) → L t = some q → ∃ r, updL G (s &&& above) (stl wt above s p) (t &&& above) = some r ∧ (stl wt above t q).1 ≤ r.1 := fun t q ht hq => by
  rcases ht with ht | rfl
  · by_cases e : t &&& above = s &&& above
    · rw [e, updL_same]
      obtain ⟨r, h1, h2⟩ := hv t q ht hq
      rw [e] at h1
      exact ⟨_, rfl, Int.le_trans h2 (hb r h1)⟩
    · rw [updL_ne e]; exact hv t q ht hq
  · rw [updL_same]
    rw [hL] at hq
    cases hq
    exact ⟨_, rfl, Int.le_refl _⟩
theorem sl_out_put (ho : ∀ k r, G k = some r → ∃ s p, L s = some p ∧ k = s &&& above ∧ r = stl wt above s p) (hL : L s = some p) : ∀ k r, updL G (s &&& above) (stl wt above s p) k = some r → ∃ s p, L s = some p ∧ k = s &&& above ∧ r = stl wt above s p := fun k r hk => by
  by_cases e : k = s &&& above
  · subst e
    rw [updL_same] at hk
    cases hk
    exact ⟨s, p, hL, rfl, rfl⟩
  · rw [updL_ne e] at hk; exact ho k r hk
theorem sl_vis_old (hv : ∀ s p, V s → L s = some p → ∃ r, G (s &&& above) = some r ∧ (stl wt above s p).1 ≤ r.1) (hL : L s = some p) {q : Int × Nat} (hG : G (s &&& above) = some q) (hb : (stl wt above s p).1 ≤ q.1) : ∀ t u, (V t ∨ t = s) → L t = some u → ∃ r, G (t &&& above) = some r ∧ (stl wt above t u).1 ≤ r.1 := fun t u ht hu => by
  rcases ht with ht | rfl
  · exact hv t u ht hu
  · rw [hL] at hu
    cases hu
    exact ⟨q, hG, hb⟩
end
def V6 (b9 : Nat) (sc : Value) (p1 : Int) (p2 d : Nat) (ws : Int) : Nat → Value
  | 0 => .pointer (some ⟨b9, 0, none⟩)
  | 1 => .int .i64 p1
  | 2 => sc
  | 3 => sv d
  | 4 => .int .i64 ws
  | 5 => .int .i64 (p1 + ws)
  | 6 => .pointer (some ⟨b9, 1, none⟩)
  | 7 => sv p2
  | 8 => sv d
  | 9 => sv (p2 ||| d)
  | 10 => lv (p1 + ws, p2 ||| d)
  | _ => undef
set_option maxHeartbeats 8000000 in
theorem settle_call {w : World} {x0 x2 x3 x4 : Value} {wo : Option Addr} {N wc b1 n above : Nat} {wt : Nat → Int} {L : Lds} (hF : NumF w wo N wt) (hw : ∀ i, -1000000 ≤ wt i ∧ wt i ≤ 1000000) (hM : MapL w b1 n L) (hn : n ≤ 100000) (hok : LdOk L) (hkey : ∀ s, L s ≠ none → ∀ x, s.testBit x = true → x < N) (hab : above < 2 ^ 128) (ht : T64 w) :
    Calls Tryd.prog 76 #[scv x0 wo N wc x2 x3 x4, .map (some b1), sv above] w fun e w' => (∃ bm R, e = .returned (.map (some bm)) ∧ MapL w' bm n R ∧ w.heap.size ≤ bm ∧ SetR wt above L R) ∧ Below w.heap.size w w' := by
  have HH : Hid (MapL w b1 n L ∧ LdOk L ∧ (∀ s, L s ≠ none → ∀ x, s.testBit x = true → x < N) ∧ above < 2 ^ 128) := ⟨hM, hok, hkey, hab⟩
  have C77 : Hid (∀ A s, Below w.heap.size w A → s < 2 ^ 128 → (∀ x, s.testBit x = true → x < N) → Calls Tryd.prog 77 #[scv x0 wo N wc x2 x3 x4, sv s] A fun e w' => e = .returned (.int .i64 (wsum wt s)) ∧ Below A.heap.size A w') := fun A s hA hs hb => weigh_call (hF.below hA) hw hs hb (ht.under hA)
  have HWB : Hid (∀ s, -128000000 ≤ wsum wt s ∧ wsum wt s ≤ 128000000) := wsum_bd hw
  obtain ⟨sc, hsc⟩ : ∃ sc, sc = #[x0, Value.slice wo N wc, x2, x3, x4] := ⟨_, rfl⟩
  have hmm := @run_makeMap Tryd.prog
  clear hF hw hM hok hkey hab ht
  go_enter Tryd.func76, Tryd.ntmps76
  go_upto_region 1 with (fail)
  have y3 : Box ((w.alloc (Obj.cells #[x0, .slice wo N wc, x2, x3, x4] 80)).alloc (Obj.cells #[.int .u64 (lo64 above : Int), .int .u64 (hi64 above : Int)] 76)) w.heap.size #[x0, .slice wo N wc, x2, x3, x4] 80 := (below_alloc (Below.refl _ _) _).block _ (by simp) |>.trans (heap_alloc_new _ _)
  have y5 := two_new (w.alloc (Obj.cells #[x0, .slice wo N wc, x2, x3, x4] 80)) (.int .u64 (lo64 above : Int)) (.int .u64 (hi64 above : Int)) 76
  have hB := below_alloc (below_alloc (Below.refl _ w) (Obj.cells #[x0, .slice wo N wc, x2, x3, x4] 80)) (Obj.cells #[.int .u64 (lo64 above : Int), .int .u64 (hi64 above : Int)] 76)
  have e3 : (w.alloc (Obj.cells #[x0, .slice wo N wc, x2, x3, x4] 80)).heap.size = w.heap.size + 1 := by simp
  rw [e3] at y5
  generalize (w.alloc (Obj.cells #[x0, .slice wo N wc, x2, x3, x4] 80)).alloc (Obj.cells #[.int .u64 (lo64 above : Int), .int .u64 (hi64 above : Int)] 76) = W0 at *
  obtain ⟨b3, hb3⟩ : ∃ b, b = w.heap.size := ⟨_, rfl⟩
  obtain ⟨b5, hb5⟩ : ∃ b, b = w.heap.size + 1 := ⟨_, rfl⟩
  rw [← hb5] at y5 ⊢
  rw [← hb3] at y3 ⊢
  have HW0 : Hid (∀ A, Below W0.heap.size W0 A → Box A b3 #[x0, .slice wo N wc, x2, x3, x4] 80 ∧ SBox A b5 above ∧ Below w.heap.size w A) := fun A hA => ⟨box_next y3 hA, two_next y5 hA, below_next hB hA⟩
  have HS0 : Hid (w.heap.size ≤ W0.heap.size) := hB.size
  clear y3 y5 hB hb3 hb5 e3 hsc
  go_upto_region 2 with (fail)
  have m0 := mapL_made W0
  have hB1 := below_alloc (Below.refl _ W0) (Obj.map #[] 0)
  obtain ⟨bm, hbm⟩ : ∃ b, b = W0.heap.size := ⟨_, rfl⟩
  rw [← hbm] at m0 ⊢
  generalize W0.alloc (Obj.map #[] 0) = W1 at *
  have HW1 : Hid (MapL W1 bm 0 (fun _ => none) ∧ MapL W1 b1 n L ∧ Below W0.heap.size W0 W1 ∧ bm = W0.heap.size) := ⟨m0, HH.out.1.under (HW0.out _ hB1).2.2, hB1, hbm⟩
  clear m0 hB1 hbm hmm
  go_wp2_with (first | (at_range; refine wpList_range_L rfl _ rfl rfl HW1.out.2.1 ?_; intro w2 cnt0 hc0 hR0 hg0 hs0) | go_in)
  go_frame
  have hB2 : Below W1.heap.size W1 w2 := (Turns.of_grown hg0).below (Below.refl _ _) (Nat.le_refl _) (fun z hz => by cases hz)
  have HI0 : Hid (SI W0 w2 b1 bm W1.heap.size n wt above L (fun _ => False) cnt0 0 (fun _ => none)) := ⟨hR0, HW1.out.1.under hB2, below_next HW1.out.2.2.1 hB2, by omega, fun _ _ h => h.elim, fun _ _ h => by cases h⟩
  have HAP : Hid (bm = W0.heap.size ∧ bm < W1.heap.size ∧ b1 < W0.heap.size ∧ w.heap.size ≤ bm) := ⟨HW1.out.2.2.2, HW1.out.1.lt, by have := HH.out.1.lt; have := HS0.out; omega, by have := HS0.out; have := HW1.out.2.2.2; omega⟩
  clear hR0 hg0 hs0 hc0 hB2 HW1 HS0
  generalize W1.heap.size = r at *
  go_loopw [8, 9, 10, 11, 12, 13, 14] (fun _ _ _ _ _ _ _ wz => ∃ V cnt n' G, Hid (SI W0 wz b1 bm r n wt above L V cnt n' G)) (fun _ _ _ _ _ _ _ wz => wz.rangeLeft b1 r)
  case atStart => exact ⟨_, _, _, _, HI0⟩
  case round =>
    clear HI0
    obtain ⟨V, cnt, n', G, hI⟩ := hrel
    go_wp2_with (first | (at_next; refine wpList_next_L rfl _ rfl rfl hI.out.ran ?_ ?_) | go_in)
    · intro hall
      have HD : Hid ((∃ bm' R, Value.map (some bm) = .map (some bm') ∧ MapL wr bm' n R ∧ w.heap.size ≤ bm' ∧ SetR wt above L R) ∧ Below w.heap.size w wr) := by
        obtain ⟨D, h1, h2⟩ := hI.out.map
        have hle := hI.out.le
        refine ⟨⟨bm, G, rfl, ⟨D, ?_, h2⟩, HAP.out.2.2.2, fun s p hp => ?_, hI.out.out⟩, (HW0.out _ hI.out.bel).2.2⟩
        · obtain ⟨es, clock, k1, k2, k3, k4⟩ := h1
          exact ⟨es, clock, k1, k2, by omega, k4⟩
        · exact hI.out.vis s p (hall s (by rw [hp]; simp)) hp
      clear hI hall
      go_wp2
      go_ret
      obtain ⟨⟨bm', R, e1, e2⟩, e3⟩ := HD.out
      cases e1
      exact ⟨⟨bm, R, rfl, e2⟩, e3⟩
    · intro s p1 p2 w3 cnt3 hs hp hnV hR3 hlt3 hg3 hs3 hen
      have hB3 : Below W0.heap.size W0 w3 := (grown_turns hg3).below hI.out.bel hI.out.bel.size (fun z hz => by subst hz; have := HAP.out; omega)
      have HI3 : Hid (RanL w3 b1 r n L (fun t => V t ∨ t = s) cnt3 ∧ MapL w3 bm n' G ∧ Below W0.heap.size W0 w3) := ⟨hR3, hI.out.map.block (hg3.block bm hI.out.map.lt (fun e => by cases e; have := HAP.out; omega)), hB3⟩
      have HQ : Hid (cnt3 < cnt ∧ wr.rangeLeft b1 r = cnt ∧ n' + cnt ≤ n) := ⟨hlt3, hI.out.ran.left_eq, hI.out.le⟩
      have HV : Hid ((∀ s p, V s → L s = some p → ∃ r, G (s &&& above) = some r ∧ (stl wt above s p).1 ≤ r.1) ∧ (∀ k r, G k = some r → ∃ s p, L s = some p ∧ k = s &&& above ∧ r = stl wt above s p) ∧ L s = some (p1, p2)) := ⟨hI.out.vis, hI.out.out, hp⟩
      clear hI hR3 hg3 hs3 hB3 hlt3 hnV
      go_upto_region 5 with (fail)
      have y8 : SBox ((w3.alloc (Obj.cells #[.int .u64 (lo64 s : Int), .int .u64 (hi64 s : Int)] 76)).alloc (Obj.cells #[.int .i64 p1, .int .u64 (lo64 p2 : Int), .int .u64 (hi64 p2 : Int)] 78)) w3.heap.size s := two_alloc (two_new _ _ _ _) _
      have y9 : LBox ((w3.alloc (Obj.cells #[.int .u64 (lo64 s : Int), .int .u64 (hi64 s : Int)] 76)).alloc (Obj.cells #[.int .i64 p1, .int .u64 (lo64 p2 : Int), .int .u64 (hi64 p2 : Int)] 78)) (w3.heap.size + 1) (p1, p2) := by
        have := box_new (w3.alloc (Obj.cells #[.int .u64 (lo64 s : Int), .int .u64 (hi64 s : Int)] 76)) #[.int .i64 p1, .int .u64 (lo64 p2 : Int), .int .u64 (hi64 p2 : Int)] 78
        have e : (w3.alloc (Obj.cells #[.int .u64 (lo64 s : Int), .int .u64 (hi64 s : Int)] 76)).heap.size = w3.heap.size + 1 := by simp
        rw [e] at this
        exact this
      have hB4 : Below w3.heap.size w3 ((w3.alloc (Obj.cells #[.int .u64 (lo64 s : Int), .int .u64 (hi64 s : Int)] 76)).alloc (Obj.cells #[.int .i64 p1, .int .u64 (lo64 p2 : Int), .int .u64 (hi64 p2 : Int)] 78)) := below_alloc (below_alloc (Below.refl _ w3) _) _
      obtain ⟨b8, hb8⟩ : ∃ b, b = w3.heap.size := ⟨_, rfl⟩
      obtain ⟨b9, hb9⟩ : ∃ b, b = w3.heap.size + 1 := ⟨_, rfl⟩
      rw [← hb9] at y9 ⊢
      rw [← hb8] at y8 ⊢
      generalize (w3.alloc (Obj.cells #[.int .u64 (lo64 s : Int), .int .u64 (hi64 s : Int)] 76)).alloc (Obj.cells #[.int .i64 p1, .int .u64 (lo64 p2 : Int), .int .u64 (hi64 p2 : Int)] 78) = W4 at *
      have HI4 : Hid (∀ A, Below W4.heap.size W4 A → (RanL A b1 r n L (fun t => V t ∨ t = s) cnt3 ∧ MapL A bm n' G ∧ Below W0.heap.size W0 A) ∧ SBox A b8 s ∧ LBox A b9 (p1, p2)) := fun A hA => by
        have hA' := below_next hB4 hA
        exact ⟨⟨HI3.out.1.kept (row := none) ⟨hA'.os, hA'.tape, hA'.output, hA'.size, fun k hk _ => hA'.block k hk⟩ (by simp) (by simp), HI3.out.2.1.under hA', below_next HI3.out.2.2 hA'⟩, two_next y8 hA, box_next y9 hA⟩
      have hpk := HH.out.2.1 s _ hp
      simp only at hpk
      have hkN := HH.out.2.2.1 s (by rw [hp]; simp)
      clear y8 y9 hB4 hb8 hb9 HI3
      obtain ⟨d, hd⟩ : ∃ d, d = sLess s above := ⟨_, rfl⟩
      have hdl : d < 2 ^ 128 := by rw [hd]; exact less_lt hs
      have hdN : ∀ x, d.testBit x = true → x < N := fun x hx => hkN x (by rw [hd, bit_less] at hx; exact (Bool.and_eq_true_iff.1 hx).1)
      have C67 : Hid (∀ A, Calls Tryd.prog 67 #[sv s, sv above] A fun e w' => e = .returned (sv d) ∧ Below A.heap.size A w') := fun A => by rw [hd]; exact less_call hs HH.out.2.2.2
      have C69 : Hid (∀ A, Calls Tryd.prog 69 #[sv p2, sv d] A fun e w' => e = .returned (sv (p2 ||| d)) ∧ Below A.heap.size A w') := fun A => either_call hpk.2 hdl
      obtain ⟨ws, hws⟩ : ∃ ws, ws = wsum wt d := ⟨_, rfl⟩
      have hwb := HWB.out d
      rw [← hws] at hwb
      have C77' : Hid (∀ A, Below w.heap.size w A → Calls Tryd.prog 77 #[scv x0 wo N wc x2 x3 x4, sv d] A fun e w' => e = .returned (.int .i64 ws) ∧ Below A.heap.size A w') := fun A hA => by rw [hws]; exact C77.out A d hA hdl hdN
      have HST : Hid (stl wt above s (p1, p2) = (p1 + ws, p2 ||| d)) := by show _ = _; unfold stl; rw [← hd, ← hws]
      have hor : p2 ||| d < 2 ^ 128 := or_lt hpk.2 hdl
      have hw1 : -9223372036854775808 ≤ p1 + ws := by omega
      have hw2 : p1 + ws < 9223372036854775808 := by omega
      obtain ⟨a0, a1⟩ := cell_two (HI4.out _ (Below.refl _ _)).2.1
      obtain ⟨d0, d1⟩ := cell_two (HW0.out _ (HI4.out _ (Below.refl _ _)).1.2.2).2.1
      have HP : Hid (L s = some (p1, p2)) := hp
      clear hd hws hkN hdN hpk hwb hp hen
      go_upto_region 6 with (first | (go_at_call 67; refine Calls.mono (C67.out _) ?_; rintro e w5 ⟨rfl, h5⟩) | fail)
      have y10 := two_new w5 (.int .u64 (lo64 d : Int)) (.int .u64 (hi64 d : Int)) 76
      have hB6 := below_alloc h5 (Obj.cells #[.int .u64 (lo64 d : Int), .int .u64 (hi64 d : Int)] 76)
      generalize w5.heap.size = b10 at *
      generalize w5.alloc (Obj.cells #[.int .u64 (lo64 d : Int), .int .u64 (hi64 d : Int)] 76) = W6 at *
      have HI6 : Hid (∀ A, Below W6.heap.size W6 A → (RanL A b1 r n L (fun t => V t ∨ t = s) cnt3 ∧ MapL A bm n' G ∧ Below W0.heap.size W0 A) ∧ SBox A b8 s ∧ LBox A b9 (p1, p2) ∧ SBox A b10 d ∧ Box A b3 #[x0, .slice wo N wc, x2, x3, x4] 80 ∧ SBox A b5 above ∧ Below w.heap.size w A) := fun A hA => by
        have hA' := below_next hB6 hA
        obtain ⟨h1, h2, h3⟩ := HI4.out _ hA'
        obtain ⟨h4, h5, h6⟩ := HW0.out _ h1.2.2
        exact ⟨h1, h2, h3, two_next y10 hA, h4, h5, h6⟩
      clear y10 hB6 h5 a0 a1 d0 d1 HI4 C67
      have hwr : IntKind.i64.wrap (p1 + ws) = p1 + ws := by rw [IntKind.wrap_i64]; omega
      refine region_ext (J := SG W6 11 (fun i x _ => x = V6 b9 (scv x0 wo N wc x2 x3 x4) p1 p2 d ws i) #[.int .i64 0, .int .u64 0, .int .u64 0] 78 (fun _ => #[.int .i64 (p1 + ws), .int .u64 (lo64 (p2 ||| d) : Int), .int .u64 (hi64 (p2 ||| d) : Int)])) (by kernel_rfl) (by kernel_rfl) (by kernel_rfl) SG.start ?_ ?_
      · intro i o hi L0 xs a w1 hS hL hd hc hX
        have hmono : ∀ i x (w w' : World), (x = V6 b9 (scv x0 wo N wc x2 x3 x4) p1 p2 d ws i) → Below w.heap.size w w' → (x = V6 b9 (scv x0 wo N wc x2 x3 x4) p1 p2 d ws i) := fun _ _ _ _ h _ => h
        match i, hi with
        | 0, hi =>
          cases hi
          have s9 := hX.out (s := 9) rfl
          refine wpOp_value rfl rfl (v := V6 b9 (scv x0 wo N wc x2 x3 x4) p1 p2 d ws 0) (w' := w1) ?_ ⟨_, rfl, hS.put hmono hL (by omega) (Below.refl _ _) rfl⟩
          simp [go_sem, Act.eval, V6, s9]
        | 1, hi =>
          cases hi
          have l0 := hd ⟨0, .data⟩ (by simp) rfl
          have r0 := (hX.rd 0 _ 26 rfl rfl l0).trans (hS.tl hL (by omega) (by omega) l0)
          obtain ⟨_, _, q9, q10, q3, _, _⟩ := HI6.out _ (hS.early hL (by omega))
          obtain ⟨c0, c1, c2⟩ := cell_three q9
          refine wpOp_value rfl rfl (v := V6 b9 (scv x0 wo N wc x2 x3 x4) p1 p2 d ws 1) (w' := w1) ?_ ⟨_, rfl, hS.put hmono hL (by omega) (Below.refl _ _) rfl⟩
          simp [go_sem, Act.eval, V6, r0, c0]
        | 2, hi =>
          cases hi
          have s3 := hX.out (s := 3) rfl
          obtain ⟨_, _, q9, q10, q3, _, _⟩ := HI6.out _ (hS.early hL (by omega))
          have c0 : w1.cell? ⟨b3, 0, none⟩ = some x0 := box_cell q3 (i := 0) rfl
          have c1 : w1.cell? ⟨b3, 1, none⟩ = some (.slice wo N wc) := box_cell q3 (i := 1) rfl
          have c2 : w1.cell? ⟨b3, 2, none⟩ = some x2 := box_cell q3 (i := 2) rfl
          have c3 : w1.cell? ⟨b3, 3, none⟩ = some x3 := box_cell q3 (i := 3) rfl
          have c4 : w1.cell? ⟨b3, 4, none⟩ = some x4 := box_cell q3 (i := 4) rfl
          refine wpOp_value rfl rfl (v := V6 b9 (scv x0 wo N wc x2 x3 x4) p1 p2 d ws 2) (w' := w1) ?_ ⟨_, rfl, hS.put hmono hL (by omega) (Below.refl _ _) rfl⟩
          simp [go_sem, Act.eval, V6, s3, c0, c1, c2, c3, c4]
        | 3, hi =>
          cases hi
          have s10 := hX.out (s := 10) rfl
          obtain ⟨_, _, q9, q10, q3, _, _⟩ := HI6.out _ (hS.early hL (by omega))
          obtain ⟨c0, c1⟩ := cell_two q10
          refine wpOp_value rfl rfl (v := V6 b9 (scv x0 wo N wc x2 x3 x4) p1 p2 d ws 3) (w' := w1) ?_ ⟨_, rfl, hS.put hmono hL (by omega) (Below.refl _ _) rfl⟩
          simp [go_sem, Act.eval, V6, s10, c0, c1]
        | 4, hi =>
          cases hi
          have l2 := hd ⟨2, .data⟩ (by simp) rfl
          have r2 := (hX.rd 2 _ 28 rfl rfl l2).trans (hS.tl hL (by omega) (by omega) l2)
          have l3 := hd ⟨3, .data⟩ (by simp) rfl
          have r3 := (hX.rd 3 _ 29 rfl rfl l3).trans (hS.tl hL (by omega) (by omega) l3)
          refine wpOp_call (f := 77) (args := #[scv x0 wo N wc x2 x3 x4, sv d]) rfl rfl (w' := w1) ?_ ?_
          · simp [go_sem, Act.eval, V6, r2, r3]
          · refine (C77'.out w1 (HI6.out _ (hS.early hL (by omega))).2.2.2.2.2.2).mono ?_
            rintro e w2 ⟨rfl, hB3⟩
            exact ⟨_, rfl, _, rfl, hS.put hmono hL (by omega) hB3 rfl⟩
        | 5, hi =>
          cases hi
          have l1 := hd ⟨1, .data⟩ (by simp) rfl
          have r1 := (hX.rd 1 _ 27 rfl rfl l1).trans (hS.tl hL (by omega) (by omega) l1)
          have l4 := hd ⟨4, .data⟩ (by simp) rfl
          have r4 := (hX.rd 4 _ 30 rfl rfl l4).trans (hS.tl hL (by omega) (by omega) l4)
          refine wpOp_value rfl rfl (v := V6 b9 (scv x0 wo N wc x2 x3 x4) p1 p2 d ws 5) (w' := w1) ?_ ⟨_, rfl, hS.put hmono hL (by omega) (Below.refl _ _) rfl⟩
          simp [go_sem, Act.eval, V6, r1, r4, hwr]
        | 6, hi =>
          cases hi
          have s9 := hX.out (s := 9) rfl
          refine wpOp_value rfl rfl (v := V6 b9 (scv x0 wo N wc x2 x3 x4) p1 p2 d ws 6) (w' := w1) ?_ ⟨_, rfl, hS.put hmono hL (by omega) (Below.refl _ _) rfl⟩
          simp [go_sem, Act.eval, V6, s9]
        | 7, hi =>
          cases hi
          have l6 := hd ⟨6, .data⟩ (by simp) rfl
          have r6 := (hX.rd 6 _ 32 rfl rfl l6).trans (hS.tl hL (by omega) (by omega) l6)
          obtain ⟨_, _, q9, q10, q3, _, _⟩ := HI6.out _ (hS.early hL (by omega))
          obtain ⟨c0, c1, c2⟩ := cell_three q9
          refine wpOp_value rfl rfl (v := V6 b9 (scv x0 wo N wc x2 x3 x4) p1 p2 d ws 7) (w' := w1) ?_ ⟨_, rfl, hS.put hmono hL (by omega) (Below.refl _ _) rfl⟩
          simp [go_sem, Act.eval, V6, r6, c1, c2]
        | 8, hi =>
          cases hi
          have s10 := hX.out (s := 10) rfl
          obtain ⟨_, _, q9, q10, q3, _, _⟩ := HI6.out _ (hS.early hL (by omega))
          obtain ⟨c0, c1⟩ := cell_two q10
          refine wpOp_value rfl rfl (v := V6 b9 (scv x0 wo N wc x2 x3 x4) p1 p2 d ws 8) (w' := w1) ?_ ⟨_, rfl, hS.put hmono hL (by omega) (Below.refl _ _) rfl⟩
          simp [go_sem, Act.eval, V6, s10, c0, c1]
        | 9, hi =>
          cases hi
          have l7 := hd ⟨7, .data⟩ (by simp) rfl
          have r7 := (hX.rd 7 _ 33 rfl rfl l7).trans (hS.tl hL (by omega) (by omega) l7)
          have l8 := hd ⟨8, .data⟩ (by simp) rfl
          have r8 := (hX.rd 8 _ 34 rfl rfl l8).trans (hS.tl hL (by omega) (by omega) l8)
          refine wpOp_call (f := 69) (args := #[sv p2, sv d]) rfl rfl (w' := w1) ?_ ?_
          · simp [go_sem, Act.eval, V6, r7, r8]
          · refine (C69.out w1).mono ?_
            rintro e w2 ⟨rfl, hB3⟩
            exact ⟨_, rfl, _, rfl, hS.put hmono hL (by omega) hB3 rfl⟩
        | 10, hi =>
          cases hi
          have l5 := hd ⟨5, .data⟩ (by simp) rfl
          have r5 := (hX.rd 5 _ 31 rfl rfl l5).trans (hS.tl hL (by omega) (by omega) l5)
          have l9 := hd ⟨9, .data⟩ (by simp) rfl
          have r9 := (hX.rd 9 _ 35 rfl rfl l9).trans (hS.tl hL (by omega) (by omega) l9)
          refine wpOp_value rfl rfl (v := V6 b9 (scv x0 wo N wc x2 x3 x4) p1 p2 d ws 10) (w' := w1) ?_ ⟨_, rfl, hS.put hmono hL (by omega) (Below.refl _ _) rfl⟩
          simp only [Array.getD_eq_getD_getElem?, V6] at r5 r9
          simp [go_sem, Act.eval, V6, r5, r9]
        | 11, hi =>
          cases hi
          refine wpOp_value rfl rfl (v := .pointer (some ⟨w1.heap.size, 0, none⟩)) (w' := w1.alloc (Obj.cells #[.int .i64 0, .int .u64 0, .int .u64 0] 78)) ?_ ⟨_, rfl, hS.alloc hmono hL⟩
          simp [go_sem]
        | 12, hi =>
          cases hi
          have hall : ∀ j, j < 12 → L0 j = true := fun j hj => by
            have : j = 0 ∨ j = 1 ∨ j = 2 ∨ j = 3 ∨ j = 4 ∨ j = 5 ∨ j = 6 ∨ j = 7 ∨ j = 8 ∨ j = 9 ∨ j = 10 ∨ j = 11 := by omega
            rcases this with rfl | rfl | rfl | rfl | rfl | rfl | rfl | rfl | rfl | rfl | rfl | rfl <;> exact hd ⟨_, .phase⟩ (by simp) rfl
          have r10 := (hX.rd 10 _ 36 rfl rfl (hall 10 (by omega))).trans (hS.told hL 10 (by omega) (hall 10 (by omega)))
          obtain ⟨bq, e11, hq1, hq2⟩ := hS.am (hall 11 (by omega)) hL
          have r11 := (hX.rd 11 _ 11 rfl rfl (hall 11 (by omega))).trans e11
          obtain ⟨q1, q2, q3, q4, q5, q6, q7, q8⟩ := store_three hq2 (.int .i64 (p1 + ws)) (.int .u64 (lo64 (p2 ||| d) : Int)) (.int .u64 (hi64 (p2 ||| d) : Int))
          refine wpOp_skip rfl rfl (w' := ((w1.setCell ⟨bq, 0, none⟩ (.int .i64 (p1 + ws))).setCell ⟨bq, 1, none⟩ (.int .u64 (lo64 (p2 ||| d) : Int))).setCell ⟨bq, 2, none⟩ (.int .u64 (hi64 (p2 ||| d) : Int))) ?_ ⟨undef, rfl, hS.store hL hall e11 hq1 hq2 undef q8 q7⟩
          simp [go_sem, Act.eval, V6, r10, r11, q1, q2, q3, q4, q5, q6]
        | n + 13, hi => cases hi
      · intro L0 xs w1 hS hall
        obtain ⟨w9, b11, e11, h11, _, htd, _, x11, hB9, _⟩ := hS.done (hall 12 (by simp))
        have e0 := htd 0 (by omega)
        have e1 := htd 1 (by omega)
        have e2 := htd 2 (by omega)
        have e3 := htd 3 (by omega)
        have e4 := htd 4 (by omega)
        have e5 := htd 5 (by omega)
        have e6 := htd 6 (by omega)
        have e7 := htd 7 (by omega)
        have e8 := htd 8 (by omega)
        have e9 := htd 9 (by omega)
        have e10 := htd 10 (by omega)
        simp only [V6] at e0 e1 e2 e3 e4 e5 e6 e7 e8 e9 e10
        simp only [puts, Act.put, e0, e1, e2, e3, e4, e5, e6, e7, e8, e9, e10, e11, List.setIfInBounds_toArray, List.set_cons_succ, List.set_cons_zero]
        clear e0 e1 e2 e3 e4 e5 e6 e7 e8 e9 e10 e11 hall hS htd C69 C77'
        have HI7 : Hid (∀ A, Below w1.heap.size w1 A → (RanL A b1 r n L (fun t => V t ∨ t = s) cnt3 ∧ MapL A bm n' G ∧ Below W0.heap.size W0 A) ∧ SBox A b8 s ∧ SBox A b5 above ∧ LBox A b11 (p1 + ws, p2 ||| d)) := fun A hA => by
          obtain ⟨k1, k2, k3, k4, k5, k6, k7⟩ := HI6.out _ (below_next hB9 hA)
          exact ⟨k1, k2, k6, box_next x11 hA⟩
        obtain ⟨a0, a1⟩ := cell_two (HI7.out _ (Below.refl _ _)).2.1
        obtain ⟨d0, d1⟩ := cell_two (HI7.out _ (Below.refl _ _)).2.2.1
        have C66 : Hid (∀ A, Calls Tryd.prog 66 #[sv s, sv above] A fun e w' => e = .returned (sv (s &&& above)) ∧ Below A.heap.size A w') := fun A => both_call hs HH.out.2.2.2
        have hkl : s &&& above < 2 ^ 128 := and_lt hs
        obtain ⟨kp, hkp⟩ : ∃ kp, kp = s &&& above := ⟨_, rfl⟩
        rw [← hkp] at C66 hkl
        have HKP : Hid (kp = s &&& above) := hkp
        clear hkp x11 hB9 h11 HI6
        go_upto_region 8 with (first | (go_at_call 66; refine Calls.mono (C66.out _) ?_; rintro e w10 ⟨rfl, h10⟩) | fail)
        have y12 := two_new w10 (.int .u64 (lo64 kp : Int)) (.int .u64 (hi64 kp : Int)) 76
        have hB12 := below_alloc h10 (Obj.cells #[.int .u64 (lo64 kp : Int), .int .u64 (hi64 kp : Int)] 76)
        generalize w10.heap.size = b12 at *
        generalize w10.alloc (Obj.cells #[.int .u64 (lo64 kp : Int), .int .u64 (hi64 kp : Int)] 76) = W12 at *
        have HI12 : Hid (∀ A, Below W12.heap.size W12 A → (RanL A b1 r n L (fun t => V t ∨ t = s) cnt3 ∧ MapL A bm n' G ∧ Below W0.heap.size W0 A) ∧ LBox A b11 (p1 + ws, p2 ||| d) ∧ SBox A b12 kp) := fun A hA => by
          obtain ⟨k1, k2, k3, k4⟩ := HI7.out _ (below_next hB12 hA)
          exact ⟨k1, k4, two_next y12 hA⟩
        obtain ⟨f0, f1⟩ := cell_two y12
        have hlk := (HI12.out _ (Below.refl _ _)).1.2.1.look hkl
        obtain ⟨q, hq⟩ : ∃ q, q = (G kp).getD (0, 0) := ⟨_, rfl⟩
        obtain ⟨okb, hokb⟩ : ∃ okb, okb = (G kp).isSome := ⟨_, rfl⟩
        rw [← hq, ← hokb] at hlk
        have HGQ : Hid (q = (G kp).getD (0, 0) ∧ okb = (G kp).isSome) := ⟨hq, hokb⟩
        clear hq hokb y12 hB12 h10 a0 a1 d0 d1 C66 HI7
        obtain ⟨q1, q2⟩ := q
        go_upto_region 9 with (fail)
        have y13 : LBox (W12.alloc (Obj.cells #[.int .i64 q1, .int .u64 (lo64 q2 : Int), .int .u64 (hi64 q2 : Int)] 78)) W12.heap.size (q1, q2) := box_new _ _ _
        have hB13 := below_alloc (Below.refl _ W12) (Obj.cells #[.int .i64 q1, .int .u64 (lo64 q2 : Int), .int .u64 (hi64 q2 : Int)] 78)
        generalize W12.alloc (Obj.cells #[.int .i64 q1, .int .u64 (lo64 q2 : Int), .int .u64 (hi64 q2 : Int)] 78) = W13 at *
        have HI13 : Hid (∀ A, Below W13.heap.size W13 A → (RanL A b1 r n L (fun t => V t ∨ t = s) cnt3 ∧ MapL A bm n' G ∧ Below W0.heap.size W0 A) ∧ LBox A b11 (p1 + ws, p2 ||| d) ∧ SBox A b12 kp) := fun A hA => HI12.out _ (below_next hB13 hA)
        generalize W12.heap.size = b13 at *
        have HPUT : Hid ((∀ r, G kp = some r → r.1 ≤ p1 + ws) → ∀ A, Below W13.heap.size W13 A → ∃ w14, (Instr.mapUpdate 106 (.map (some bm)) (sv kp) (lv (p1 + ws, p2 ||| d))).run Tryd.prog A = .ok () w14 ∧ SI W0 w14 b1 bm r n wt above L (fun t => V t ∨ t = s) cnt3 (n' + 1) (updL G (s &&& above) (stl wt above s (p1, p2)))) := fun hbest A hA => by
          obtain ⟨⟨f1, f2, f3⟩, _, _⟩ := HI13.out _ hA
          have hq := HQ.out
          have hap := HAP.out
          obtain ⟨w14, hrun, m14, ht14⟩ := f2.store (s := kp) hkl (p1 + ws, p2 ||| d) (by omega)
          refine ⟨w14, hrun, f1.kept ht14.grown (fun e => by cases e; omega) (fun e => by cases e; omega), ?_, (grown_turns ht14.grown).below f3 f3.size (fun z hz => by subst hz; omega), by omega, sl_vis_put HV.out.1 HP.out ?_, sl_out_put HV.out.2.1 HP.out⟩
          · rw [HST.out, ← HKP.out]; exact m14
          · rw [HST.out, ← HKP.out]; exact hbest
        have HKEEP : Hid (okb = true → p1 + ws ≤ q1 → ∀ A, Below W13.heap.size W13 A → SI W0 A b1 bm r n wt above L (fun t => V t ∨ t = s) cnt3 n' G) := fun h1 h2 A hA => by
          obtain ⟨⟨f1, f2, f3⟩, _, _⟩ := HI13.out _ hA
          have hq := HQ.out
          obtain ⟨g1, g2⟩ := HGQ.out
          have hG : G (s &&& above) = some (q1, q2) := by
            rw [← HKP.out]
            cases e : G kp with
            | none => rw [e, h1] at g2; cases g2
            | some x => rw [e] at g1; rw [g1]; rfl
          exact ⟨f1, f2, f3, by omega, sl_vis_old HV.out.1 HP.out hG (by rw [HST.out]; exact h2), HV.out.2.1⟩
        obtain ⟨u0, u1, u2⟩ := cell_three (HI13.out _ (Below.refl _ _)).2.1
        obtain ⟨v0, v1, v2⟩ := cell_three y13
        obtain ⟨k0, k1⟩ := cell_two (HI13.out _ (Below.refl _ _)).2.2
        clear f0 f1 hlk y13 hB13 HI12
        cases okb with
        | false =>
          obtain ⟨w14, hrun, hSI⟩ := HPUT.out (fun x hx => by
            have := HGQ.out.2
            rw [hx] at this
            cases this) W13 (Below.refl _ _)
          have HN : Hid _ := hSI
          clear hSI HPUT HKEEP
          go_wp2
          go_roundw
          case rel => exact ⟨_, _, _, _, HN⟩
          case measure => rw [HN.out.ran.left_eq, HQ.out.2.1]; exact HQ.out.1
        | true =>
          have C78 : Hid (∀ A, Calls Tryd.prog 78 #[.agg #[.int .i64 (p1 + ws), .int .u64 (lo64 (p2 ||| d) : Int), .int .u64 (hi64 (p2 ||| d) : Int)], .agg #[.int .i64 q1, .int .u64 (lo64 q2 : Int), .int .u64 (hi64 q2 : Int)]] A fun e w' => BeatA (p1 + ws) q1 e ∧ Below A.heap.size A w') := fun A => beats_call (p := (p1 + ws, p2 ||| d)) (q := (q1, q2))
          go_upto_region 10 with (first | (go_at_call 78; refine Calls.mono (C78.out _) ?_; rintro e w13 ⟨⟨x, rfl, hx1, hx2⟩, h13⟩; have HX : Hid _ := And.intro hx1 hx2; clear hx1 hx2) | fail)
          · next hx =>
            obtain ⟨w14, hrun, hSI⟩ := HPUT.out (fun z hz => by
              have := HGQ.out.1
              rw [hz] at this
              have hz1 : z = (q1, q2) := by rw [this]; rfl
              rw [hz1]
              have := HX.out.2
              show q1 ≤ p1 + ws
              apply Classical.byContradiction
              intro hc
              have hf := this (by omega)
              rw [hx] at hf
              cases hf) w13 h13
            obtain ⟨k2, k3⟩ := cell_two (HI13.out _ h13).2.2
            obtain ⟨u3, u4, u5⟩ := cell_three (HI13.out _ h13).2.1
            have HN : Hid _ := hSI
            clear hSI HPUT HKEEP
            go_wp2
            go_roundw
            case rel => exact ⟨_, _, _, _, HN⟩
            case measure => rw [HN.out.ran.left_eq, HQ.out.2.1]; exact HQ.out.1
          · next hx =>
            have HN := HKEEP.out trivial (by
              have := HX.out.1
              apply Classical.byContradiction
              intro hc
              have hf := this (by omega)
              rw [hx] at hf
              cases hf) w13 h13
            exact ⟨⟨_, _, _, _, HN⟩, by rw [HN.ran.left_eq, HQ.out.2.1]; exact HQ.out.1⟩
end Go.Proofs.YtdalconphfgepaaDoor
