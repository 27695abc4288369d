/- newPipes, pipesOf, held: the pipes of a net. -/
import Derived.Test.YtkakmaalmhofmaaLay
import Derived.Test.YtkakmaalmhofmaaNetC
namespace Go.Proofs.Ytkakmaalmhofmaa
open Go.RowKit Go.Maps
attribute [local go_sem ↓] Go.wp_at_zero Go.wp_at_succ

/-- Of each node the pipes that leave it; pipe p leads to Ts[p]. -/
structure NetI (N : Nat) (ls : Nat → List Nat) (Ts : List Nat) : Prop where
  even : Ts.length % 2 = 0
  lt : ∀ x ∈ Ts, x < N
  mem : ∀ v p, v < N → (p ∈ ls v ↔ Ts[tw p]? = some v)
  len : ∀ v, (ls v).length ≤ Ts.length
theorem NetI.nil (N : Nat) : NetI N (fun _ => []) [] := ⟨rfl, by simp, fun v p _ => by simp, fun _ => by simp⟩
theorem ls1_mem {ls : Nat → List Nat} {u L j p : Nat} : p ∈ ls1 ls u L j ↔ p ∈ ls j ∨ (j = u ∧ p = L) := by
  unfold ls1
  by_cases e : j = u
  · subst e; simp
  · simp [e]
theorem ls1_len {ls : Nat → List Nat} {u L : Nat} (j : Nat) : (ls1 ls u L j).length ≤ (ls j).length + 1 := by
  unfold ls1
  by_cases e : j = u
  · subst e; simp
  · simp [e]
theorem NetI.lay {N : Nat} {ls : Nat → List Nat} {Ts : List Nat} (h : NetI N ls Ts) {u v L : Nat} (hu : u < N) (hv : v < N) (hL : Ts.length = L) : NetI N (ls1 (ls1 ls u L) v (L + 1)) (Ts ++ [v, u]) := by
  have he := h.even
  rw [hL] at he
  refine ⟨by simp; omega, fun x hx => ?_, fun y p hy => ?_, fun y => ?_⟩
  · rcases List.mem_append.1 hx with hx | hx
    · exact h.lt x hx
    · simp at hx; omega
  · rw [ls1_mem, ls1_mem, h.mem y p hy]
    by_cases h1 : p < L
    · have h2 := tw_lt he h1
      rw [List.getElem?_append_left (by omega)]
      constructor
      · rintro ((h3 | h3) | h3)
        · exact h3
        · omega
        · omega
      · intro h3; exact Or.inl (Or.inl h3)
    · have h0 : Ts[tw p]? = none := by
        rw [List.getElem?_eq_none_iff, hL]
        unfold tw
        split <;> omega
      rw [h0]
      by_cases h2 : p = L
      · subst h2
        have e : tw p = p + 1 := by unfold tw; rw [if_pos he]
        rw [e, List.getElem?_append_right (by omega), hL]
        simp
        constructor
        · intro h; exact h.symm
        · intro h; exact h.symm
      · by_cases h3 : p = L + 1
        · subst h3
          have e : tw (L + 1) = L := by unfold tw; rw [if_neg (by omega)]; omega
          rw [e, List.getElem?_append_right (by omega), hL]
          simp
          constructor
          · intro h; exact h.symm
          · intro h; exact h.symm
        · have e : (Ts ++ [v, u])[tw p]? = none := by
            rw [List.getElem?_eq_none_iff]
            simp
            rw [hL]
            unfold tw
            split <;> omega
          rw [e]
          simp
          omega
  · have h1 := ls1_len (ls := ls) (u := u) (L := L) y
    have h2 := ls1_len (ls := ls1 ls u L) (u := v) (L := L + 1) y
    have h3 := h.len y
    simp
    omega

/-- Two for each. -/
def pr {α β : Type} (f g : α → β) (l : List α) : List β := l.flatMap fun a => [f a, g a]
theorem pr_len {α β : Type} (f g : α → β) (l : List α) : (pr f g l).length = 2 * l.length := by
  induction l with
  | nil => rfl
  | cons a l ih =>
    show ([f a, g a] ++ pr f g l).length = _
    simp [ih]; omega
theorem pr_get {α β : Type} (f g : α → β) : ∀ (l : List α) (k : Nat), (pr f g l)[2 * k]? = l[k]?.map f ∧ (pr f g l)[2 * k + 1]? = l[k]?.map g
  | [], k => by simp [pr]
  | a :: l, 0 => by simp [pr]
  | a :: l, k + 1 => by
    have e : 2 * (k + 1) = 2 * k + 1 + 1 := by omega
    have h := pr_get f g l k
    show ([f a, g a] ++ pr f g l)[2 * (k + 1)]? = _ ∧ ([f a, g a] ++ pr f g l)[2 * (k + 1) + 1]? = _
    rw [e]
    simpa using h
theorem pr_take {α β : Type} (f g : α → β) {l : List α} {k : Nat} {a : α} (h : l[k]? = some a) : pr f g (l.take (k + 1)) = pr f g (l.take k) ++ [f a, g a] := by
  obtain ⟨h1, h2⟩ := List.getElem?_eq_some_iff.1 h
  unfold pr
  rw [List.take_succ_eq_append_getElem h1, h2, List.flatMap_append]
  simp

set_option maxHeartbeats 1000000 in
theorem newPipes_call {n : Nat} (hn : n ≤ 1000) (w : World) : Calls Try.prog 51 #[.int .i64 (n : Int)] w fun r w' => ∃ bp, r = .returned (ptr bp) ∧ Below w.heap.size w w' ∧ ∃ g, LS w' w.heap.size bp g w'.heap.size n (fun _ => .slice none 0 0) (fun _ => []) (.slice none 0 0) (.slice none 0 0) [] [] := by
  obtain ⟨i30, hi, hz0, hz1, hz2⟩ := info_parts Try.info30
  go_enter Try.func51, Try.ntmps51
  go_wp2_with (first | (at_make; refine wpList_make_full _ rfl _ _ 43 rfl w.heap.size 30 i30 (.slice none 0 0) 1 Try.underlying43 hi hz0 hz1 .i64 .i64 _ _ n rfl rfl rfl rfl ?_ ?_ ?_ ?_; (rw [hz2]; omega); (unfold maxLen; omega); (omega); intro W1 hmade hg1) | go_in)
  have hrow := rowV_made rfl hmade
  have hB1 : Below w.heap.size w W1 := (Below.refl _ _).grown hg1 (Nat.le_refl _) (fun k hk => by cases hk)
  have hlt := hrow.lt
  clear hmade hg1
  go_ret
  refine ⟨W1.heap.size, rfl, below_alloc hB1 _, w.heap.size, ?_⟩
  refine ⟨heap_alloc_new _ _, ⟨hrow.block (Below.heap_alloc _ _ _ hlt), fun i _ => World.ownsRow_nil _ _ _ _, fun i j b _ _ _ h => (by cases h)⟩, World.ownsRow_nil _ _ _ _, World.ownsRow_nil _ _ _ _, fun i b _ h => (by cases h), fun b h => (by cases h), ?_⟩
  simp
  omega

theorem getD_lt {α : Type} {l : List α} {k : Nat} {d : α} (h : k < l.length) : l.getD k d = l[k] := by simp [List.getD, List.getElem?_eq_getElem h]

/-- Pipes that are laid, as they are used. -/
theorem LS.pipes {w : World} {b0 bp g base N bz : Nat} {vs : Nat → Value} {ls : Nat → List Nat} {ta ra : Option Addr} {tc rc L : Nat} {Ts : List Nat} {Rs : List Int} (h : LS w b0 bp g base N vs ls (.slice ta L tc) (.slice ra L rc) Ts Rs) (hn : NetI N ls Ts) (hT : Ts.length = L) (hR : Rs.length = L) (hL : L ≤ 100000) (hz : bz < base ∧ bz ≠ bp ∧ bz ≠ g ∧ b0 ≤ bz) (hb : base ≤ w.heap.size) :
    ∃ c : Pp, c.bp = bp ∧ c.N = N ∧ c.M = L ∧ c.ls = ls ∧ c.T = (fun p => Ts.getD p 0) ∧ PS c w (fun p => Rs.getD p 0) ∧ Net c.N c.M c.T c.ls ∧ c.ub ≤ w.heap.size ∧ c.br < w.heap.size ∧ b0 ≤ c.br := by
  have hnet : Net N L (fun p => Ts.getD p 0) ls := by
    refine ⟨by have := hn.even; omega, fun p hp => ?_, fun v p hv => ?_, fun v _ => by have := hn.len v; omega, by omega⟩
    · have hp' : p < Ts.length := by omega
      rw [getD_lt hp']
      exact hn.lt _ (List.getElem_mem hp')
    · rw [hn.mem v p hv]
      have he := hn.even
      constructor
      · intro h1
        have h2 := (List.getElem?_eq_some_iff.1 h1).1
        have h3 := tw_lt he h2
        rw [tw_tw] at h3
        refine ⟨by omega, ?_⟩
        simp [List.getD, h1]
      · rintro ⟨h1, h2⟩
        have h3 := tw_lt (M := Ts.length) he (p := p) (by omega)
        rw [getD_lt h3] at h2
        exact List.getElem?_eq_some_iff.2 ⟨h3, h2⟩
  have l := h.lt
  by_cases h0 : L = 0
  · subst h0
    refine ⟨⟨bp, g, bz, bz, w.heap.size, N, 0, ta, ra, tc, rc, ls, fun p => Ts.getD p 0⟩, rfl, rfl, rfl, rfl, rfl, ⟨h.box, ?_, fun h => absurd h (Nat.lt_irrefl _), fun h => absurd h (Nat.lt_irrefl _), ?_⟩, hnet, Nat.le_refl _, by show bz < w.heap.size; omega, hz.2.2.2⟩
    · exact h.near.nearP hz.1 (fun e => hz.2.2.1 e.symm)
    · exact ⟨fun e => hz.2.1 e.symm, by show bp < w.heap.size; omega, fun h => absurd h (Nat.lt_irrefl _)⟩
  · have ht := h.tos
    have hr := h.room
    rw [hT] at ht
    rw [hR] at hr
    obtain ⟨bt, e1⟩ : ∃ bt, ta = some ⟨bt, 0, none⟩ := by
      rcases ht.2 with ⟨h1, h2⟩ | ⟨g', _, _, h1, _⟩
      · omega
      · cases h1; exact ⟨g', rfl⟩
    obtain ⟨br, e2⟩ : ∃ br, ra = some ⟨br, 0, none⟩ := by
      rcases hr.2 with ⟨h1, h2⟩ | ⟨g', _, _, h1, _⟩
      · omega
      · cases h1; exact ⟨g', rfl⟩
    subst e1
    subst e2
    have lt1 := ht.lt bt rfl
    have lr1 := hr.lt br rfl
    have hne : bt ≠ br := fun e => h.two bt rfl (by rw [e]; rfl)
    refine ⟨⟨bp, g, bt, br, w.heap.size, N, L, some ⟨bt, 0, none⟩, some ⟨br, 0, none⟩, tc, rc, ls, fun p => Ts.getD p 0⟩, rfl, rfl, rfl, rfl, rfl, ⟨h.box, ?_, fun _ => ⟨rfl, rowC_own ht (fun j hj => ?_)⟩, fun _ => ⟨rfl, rowC_own hr (fun j hj => ?_)⟩, ?_⟩, hnet, Nat.le_refl _, lr1.2, by show b0 ≤ br; omega⟩
    · refine ⟨by show g ≠ br; omega, h.near.row.lt, fun i hi => ?_⟩
      have ho := h.near.own i hi
      obtain ⟨xo, xc, hv⟩ := form_row ho
      have hc := h.near.row.cell hi
      have hsp := h.sep i
      rw [hv] at hc ho hsp
      refine ⟨xo, xc, hc, fun k u hu => ?_⟩
      obtain ⟨b, e, cc⟩ := qcell ho hu
      have hb := ho.lt b (by rw [e]; rfl)
      exact ⟨b, fun e' => (hsp b hi (by rw [e]; rfl)).2 (by rw [e']; rfl), hb.2, e, cc⟩
    · show (qv Ts)[j]? = some (.int .i64 ((Ts.getD j 0 : Nat) : Int))
      have hj' : j < Ts.length := by rw [hT]; exact hj
      simp [qv, List.getElem?_map, List.getElem?_eq_getElem hj']
    · show (zv Rs)[j]? = some (.int .i64 (Rs.getD j 0))
      have hj' : j < Rs.length := by rw [hR]; exact hj
      simp [zv, List.getElem?_map, List.getElem?_eq_getElem hj']
    · exact ⟨by show bp ≠ br; omega, by show bp < w.heap.size; omega, fun _ => ⟨hne, lt1.2, lr1.2⟩⟩

def tsA (al : List Arc3) : List Nat := pr (fun a : Arc3 => a.2.1.toNat) (fun a => a.1.toNat) al
def rsA (al : List Arc3) : List Int := pr (fun a : Arc3 => a.2.2) (fun _ => (0 : Int)) al

set_option maxRecDepth 4000 in
set_option maxHeartbeats 4000000 in
theorem pipesOf_call {n : Nat} {v : Value} {al : List Arc3} {w : World} (hA : ArcsAt w v al) (hn : n ≤ 100) (hl : al.length ≤ 1000) (hg : ∀ a ∈ al, goodA n a = true) :
    Calls Try.prog 31 #[.agg #[.int .i64 (n : Int), v]] w fun r w' => ∃ bp, r = .returned (ptr bp) ∧ Below w.heap.size w w' ∧ ∃ c : Pp, c.bp = bp ∧ c.N = n ∧ c.M = 2 * al.length ∧ c.T = (fun p => (tsA al).getD p 0) ∧ PS c w' (fun p => (rsA al).getD p 0) ∧ Net c.N c.M c.T c.ls ∧ c.ub ≤ w'.heap.size ∧ c.br < w'.heap.size ∧ w.heap.size ≤ c.br := by
  obtain ⟨ao, cap, rfl⟩ := hA.form
  have HA : Hid _ := hA
  have HG : Hid _ := hg
  clear hA hg
  go_enter Try.func31, Try.ntmps31
  go_upto_region 2 with (first | (go_at_call 51; refine (newPipes_call (n := n) (by omega) _).mono ?_; rintro r W1 ⟨bp, rfl, hB1, g, hls⟩) | go_in)
  have t0 : W1.heap[w.heap.size]? = some (.cells #[.int .i64 (n : Int), .slice ao al.length cap] 24 (0, 0)) := by
    rw [hB1.block _ (by simp)]
    exact heap_alloc_new _ _
  have hBw : Below w.heap.size w W1 := below_next (below_alloc (Below.refl _ w) _) hB1
  have hbz : w.heap.size < W1.heap.size ∧ w.heap.size < bp ∧ w.heap.size < g := by
    have := hls.lt
    have h2 := hB1.size
    simp at this h2
    omega
  have hls0 : LS W1 w.heap.size bp g W1.heap.size n (fun _ => .slice none 0 0) (fun _ => []) (.slice none 0 0) (.slice none 0 0) [] [] := ⟨hls.box, hls.near, hls.tos, hls.room, hls.sep, hls.two, by have := hls.lt; simp at this; omega⟩
  obtain ⟨base, hbase⟩ : ∃ base, base = W1.heap.size := ⟨_, rfl⟩
  rw [← hbase] at hls0 hbz
  have hb1 : base ≤ W1.heap.size := by omega
  have HLS : Hid _ := hls0
  have c1 := (cell_two t0).2
  clear hls hls0 hB1 hbase
  go_wp2
  clear c1 t0
  go_loopw [12] (fun i wr => ∃ (k : Nat) (vs : Nat → Value) (ls : Nat → List Nat) (ta : Option Addr) (tc : Nat) (ra : Option Addr) (rc : Nat), i = .int .i64 (k : Int) ∧ k ≤ al.length ∧ LS wr w.heap.size bp g base n vs ls (.slice ta (2 * k) tc) (.slice ra (2 * k) rc) (tsA (al.take k)) (rsA (al.take k)) ∧ NetI n ls (tsA (al.take k)) ∧ Below w.heap.size w wr ∧ base ≤ wr.heap.size) (fun i _ => al.length - (numOf i).toNat)
  case atStart => exact ⟨0, _, _, none, 0, none, 0, rfl, Nat.zero_le _, HLS.out, NetI.nil n, hBw, hb1⟩
  case round =>
    obtain ⟨k, vs, ls, ta, tc, ra, rc, rfl, hk, hls, hni, hB, hb⟩ := hrel
    clear HLS hBw hb1
    by_cases hlt : k < al.length
    · obtain ⟨_, _, e, hl2, hI, hcells⟩ := HA.out
      cases e
      obtain ⟨b, off, rfl, cx, cy, cz⟩ := hcells k hlt
      have hg := HG.out al[k] (List.getElem_mem hlt)
      obtain ⟨x, y, z, hxy⟩ : ∃ x y z, al[k] = (x, y, z) := ⟨al[k].1, al[k].2.1, al[k].2.2, rfl⟩
      rw [hxy] at cx cy cz hg
      simp [goodA, isN, isV] at hg
      obtain ⟨x', rfl⟩ : ∃ x' : Nat, x = x' := ⟨x.toNat, by omega⟩
      obtain ⟨y', rfl⟩ : ∃ y' : Nat, y = y' := ⟨y.toNat, by omega⟩
      have hbl := World.block_lt_of_cell? w _ cx
      rw [← hB.cell (by exact hbl)] at cx cy cz
      have i1 : (0 : Int) ≤ (k : Int) := by omega
      have i2 : (k : Int) < (al.length : Int) := by omega
      have hxn : x' < n := by omega
      have hyn : y' < n := by omega
      have ht1 : tsA (al.take (k + 1)) = tsA (al.take k) ++ [y', x'] := by
        have := pr_take (fun a : Arc3 => a.2.1.toNat) (fun a => a.1.toNat) (l := al) (k := k) (List.getElem?_eq_some_iff.2 ⟨hlt, hxy⟩)
        simpa [tsA] using this
      have hr1 : rsA (al.take (k + 1)) = rsA (al.take k) ++ [z, 0] := pr_take (fun a : Arc3 => a.2.2) (fun _ => (0 : Int)) (l := al) (k := k) (List.getElem?_eq_some_iff.2 ⟨hlt, hxy⟩)
      have hlT : (tsA (al.take k)).length = 2 * k := by unfold tsA; rw [pr_len]; simp; omega
      have hlR : (rsA (al.take k)).length = 2 * k := by unfold rsA; rw [pr_len]; simp; omega
      have hlay := lay_call (x := z) (y := 0) hxn hyn (hls.below (below_alloc (Below.refl _ wr) (Obj.cells #[.int .i64 (x' : Int), .int .i64 (y' : Int), .int .i64 z] 34))) hlT hlR (fun i => by have := hni.len i; omega) (by omega) (by simp; omega)
      have hni2 := hni.lay hxn hyn hlT
      have HLY : Hid _ := hlay
      have HNI : Hid _ := hni2
      have HT1 : Hid _ := ht1
      have HR1 : Hid _ := hr1
      clear hlay hni2 ht1 hr1 hlT hlR hls hni hcells hI hxy hg
      go_wp2_with (first | (go_at_call 52; refine Calls.mono HLY.out ?_; rintro r W2 ⟨rfl, hB2, hb2, vs', ta', tc', ra', rc', hls2⟩) | go_in)
      go_roundw
      case rel => exact ⟨k + 1, vs', _, ta', tc', ra', rc', by go_num, by omega, by rw [HT1.out, HR1.out, show 2 * (k + 1) = 2 * k + 2 by omega]; exact hls2, by rw [HT1.out]; exact HNI.out, (below_alloc hB _).trans hB2, hb2⟩
      case measure => simp [numOf]; omega
    · have hke : al.length = k := by omega
      have hlT : (tsA (al.take k)).length = 2 * k := by unfold tsA; rw [pr_len]; simp; omega
      have hlR : (rsA (al.take k)).length = 2 * k := by unfold rsA; rw [pr_len]; simp; omega
      have hp := hls.pipes (bz := w.heap.size) hni hlT hlR (by omega) (by omega) hb
      rw [show al.take k = al by rw [← hke, List.take_length]] at hp
      obtain ⟨c, h1, h2, h3, _, h5, h6, h7, h8, h9, h10⟩ := hp
      have i2 : ¬ (k : Int) < (al.length : Int) := by omega
      have H6 : Hid _ := h6
      have H7 : Hid _ := h7
      have H1 : Hid _ := And.intro h1 (And.intro h2 (And.intro h3 h5))
      have HKE : Hid _ := hke
      clear h1 h2 h3 h5 h6 h7 hke hlT hlR hls hni
      go_wp2
      go_ret
      exact ⟨bp, rfl, hB, c, H1.out.1, H1.out.2.1, by rw [H1.out.2.2.1, HKE.out], H1.out.2.2.2, H6.out, H7.out, h8, h9, h10⟩

set_option maxHeartbeats 400000 in
theorem laid_call {a : Nat} (ha : a ≤ 1000000) (w : World) : Calls Try.prog 55 #[.int .i64 (a : Int)] w fun e w' => e = .returned (.tuple #[.int .i64 ((2 * a : Nat) : Int), .int .i64 ((2 * a + 1 : Nat) : Int)]) ∧ w' = w := by
  go_enter Try.func55, Try.ntmps55
  go_wp2
  go_ret2
  exact ⟨by congr 3 <;> omega, rfl⟩
set_option maxHeartbeats 1000000 in
theorem held_call {c : Pp} {w : World} {R : Nat → Int} {a : Nat} (hps : PS c w R) (hn : c.M ≤ 1000000) (ha : 2 * a + 1 < c.M) : Calls Try.prog 33 #[ptr c.bp, .int .i64 (a : Int)] w fun e w' => e = .returned (.int .i64 (R (2 * a + 1))) ∧ w' = w := by
  have h0 : 0 < c.M := by omega
  have cb2 := box_cell hps.box (i := 2) rfl
  rw [(hps.room h0).1] at cb2
  have cr := (hps.room h0).2.cell ha
  have i1 : (0 : Int) ≤ ((2 * a + 1 : Nat) : Int) := by omega
  have i2 : ((2 * a + 1 : Nat) : Int) < (c.M : Int) := by omega
  clear hps
  obtain ⟨q, hq⟩ : ∃ q, q = 2 * a + 1 := ⟨_, rfl⟩
  have hl := laid_call (a := a) (by omega)
  rw [← hq] at cr i1 i2 hl ⊢
  have HL : Hid _ := hl
  clear hl hq ha
  go_enter Try.func33, Try.ntmps33
  go_wp2_with (first | (go_at_call 55; refine (HL.out _).mono ?_; rintro e w2 ⟨rfl, rfl⟩) | go_in)
  go_ret
  exact ⟨rfl, rfl⟩
end Go.Proofs.Ytkakmaalmhofmaa
