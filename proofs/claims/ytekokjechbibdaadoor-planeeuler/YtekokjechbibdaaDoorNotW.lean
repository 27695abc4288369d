/- The document's Not: edges where a table has none. -/
import Derived.Test.YtekokjechbibdaaDoorTail3
import Derived.Test.YtekokjechbibdaaDoorOfG
namespace Go.Proofs.YtekokjechbibdaaDoor
set_option maxRecDepth 8000
open Go.RowKit Go.Maps
attribute [local go_sem ↓] Go.wp_at_zero Go.wp_at_succ
/-- A table v of one's own, row by row. -/
structure NG (w wr : World) (m : Nat) (v : Value) (bs : List Nat) (p : Nat → Nat → Bool) : Prop where
  own : wr.ownsRow w.heap.size 60 1 v bs.length (bs.map (rowV m))
  rows : ∀ i (h : i < bs.length), RowB wr bs[i] m (p i)
  nodup : ∀ i j (hi : i < bs.length) (hj : j < bs.length), bs[i] = bs[j] → i = j
  ge : ∀ b ∈ bs, w.heap.size ≤ b
  below : Below w.heap.size w wr
theorem NG.step {w wr wr' : World} {m : Nat} {v : Value} {bs : List Nat} {p : Nat → Nat → Bool} (h : NG w wr m v bs p) (hb : Below wr.heap.size wr wr') : NG w wr' m v bs p :=
  ⟨ownsRow_blocks h.own (fun g hg => hb.block g (h.own.lt g hg).2), fun i hi => (h.rows i hi).block (hb.block _ (h.rows i hi).lt), h.nodup, h.ge, below_next h.below hb⟩
theorem NG.push {w wr w1 w3 : World} {m : Nat} {v v' : Value} {bs : List Nat} {p : Nat → Nat → Bool} {o : Obj} (h : NG w wr m v bs p) (hr : RowB w1 wr.heap.size m (fun _ => false)) (hg1 : wr.grownBy w1 none)
    (hown : w3.ownsRow w.heap.size 60 1 v' (bs.length + 1) (bs.map (rowV m) ++ [rowV m wr.heap.size])) (hg3 : (w1.alloc o).grownBy w3 v.ownBlock) : NG w w3 m v' (bs ++ [wr.heap.size]) (fun i j => if i = bs.length then false else p i j) := by
  have own1 : w1.ownsRow w.heap.size 60 1 v bs.length (bs.map (rowV m)) := h.own.kept hg1 (by cases v.ownBlock <;> simp)
  have hn : ∀ k, v.ownBlock = some k → w.heap.size ≤ k := fun k hk => (h.own.lt k hk).1
  have q : ∀ j, j < wr.heap.size → v.ownBlock ≠ some j → w3.heap[j]? = wr.heap[j]? := fun j hj hne => by
    have := hg1.size
    rw [hg3.block j (by simp; omega) (fun e => hne e.symm), Below.heap_alloc _ _ _ (by omega), hg1.block j hj (by simp)]
  refine ⟨by simpa using hown, ?_, ?_, ?_, ?_⟩
  · intro i hi
    by_cases hl : i < bs.length
    · rw [List.getElem_append_left hl]
      have e : (fun j => if i = bs.length then false else p i j) = p i := by funext j; rw [if_neg (by omega)]
      show RowB w3 bs[i] m (fun j => if i = bs.length then false else p i j)
      rw [e]
      exact (h.rows i hl).block (q _ (h.rows i hl).lt ((h.rows i hl).ne h.own))
    · have : i = bs.length := by simp at hi; omega
      subst this
      simp
      have h2 := hr.lt
      refine hr.block ?_
      rw [hg3.block _ (by simp; omega) (fun e => hr.ne own1 e.symm), Below.heap_alloc _ _ _ (by omega)]
  · intro i j hi hj e
    simp at hi hj
    by_cases h1 : i < bs.length <;> by_cases h2 : j < bs.length
    · rw [List.getElem_append_left h1, List.getElem_append_left h2] at e
      exact h.nodup i j h1 h2 e
    · have : j = bs.length := by omega
      subst this
      rw [List.getElem_append_left h1] at e
      simp at e
      have := (h.rows i h1).lt
      omega
    · have : i = bs.length := by omega
      subst this
      rw [List.getElem_append_left h2] at e
      simp at e
      have := (h.rows j h2).lt
      omega
    · omega
  · intro b hb
    rcases List.mem_append.1 hb with hb | hb
    · exact h.ge b hb
    · simp at hb; have := h.below.size; omega
  · exact (((h.below.grown hg1 h.below.size (fun k hk => by cases hk)).alloc (by have := hg1.size; have := h.below.size; omega) _).grown hg3 (by have := hg1.size; have := h.below.size; simp; omega) (fun k hk => by have := hn k hk; omega))
theorem NG.put {w wr : World} {m : Nat} {v : Value} {bs : List Nat} {p : Nat → Nat → Bool} (h : NG w wr m v bs p) {i : Nat} (hi : i < bs.length) (j : Nat) (x : Bool) :
    NG w (wr.setCell ⟨bs[i], j, none⟩ (.bool x)) m v bs (fun a b => if a = i ∧ b = j then x else p a b) := by
  have q : ∀ k, k ≠ bs[i] → (wr.setCell ⟨bs[i], j, none⟩ (.bool x)).heap[k]? = wr.heap[k]? := fun k hk => Below.heap_setCell _ _ _ _ hk
  have hge := h.ge bs[i] (List.getElem_mem _)
  refine ⟨?_, ?_, h.nodup, h.ge, h.below.setCell hge _⟩
  · exact ownsRow_blocks h.own (fun g hg => q g (fun e => (h.rows i hi).ne h.own (by rw [hg, e])))
  · intro a ha
    by_cases e : a = i
    · subst e
      refine ((h.rows a ha).put j x).congr (fun b _ => ?_)
      simp
    · have hne : bs[a] ≠ bs[i] := fun e' => e (h.nodup a i ha hi e')
      refine ((h.rows a ha).block (q _ hne)).congr (fun b _ => ?_)
      rw [if_neg (fun h => e h.1)]
theorem NG.congr {w wr : World} {m : Nat} {v : Value} {bs : List Nat} {p q : Nat → Nat → Bool} (h : NG w wr m v bs p) (e : ∀ i j, i < bs.length → j < m → p i j = q i j) : NG w wr m v bs q :=
  ⟨h.own, fun i hi => (h.rows i hi).congr (fun j hj => e i j hi hj), h.nodup, h.ge, h.below⟩
theorem NG.at {w wr : World} {m : Nat} {ao : Option Addr} {n cap : Nat} {bs : List Nat} {p : Nat → Nat → Bool} (h : NG w wr m (.slice ao n cap) bs p) (h0 : 0 < bs.length) :
    ∃ g, ao = some ⟨g, 0, none⟩ ∧ ∀ i (hi : i < bs.length), wr.cell? ⟨g, i, none⟩ = some (.slice (some ⟨bs[i], 0, none⟩) m m) := by
  rcases h.own.2 with ⟨_, e⟩ | ⟨g, c, cur, e, _⟩
  · omega
  · cases e
    refine ⟨g, rfl, fun i hi => ?_⟩
    have := h.own.cells (g := g) rfl i (rowV m bs[i]) (by simp [hi])
    rw [add_none] at this
    exact this
theorem NG.grid {w wr : World} {m : Nat} {ao : Option Addr} {n cap : Nat} {bs : List Nat} {q : Nat → Nat → Bool} {p : Int → Int → Bool} (h : NG w wr m (.slice ao n cap) bs q) (hl : bs.length = m) (hq : ∀ i j : Nat, i < m → j < m → q i j = p i j) : GridAt wr (.slice ao m cap) m p := by
  refine ⟨ao, cap, rfl, fun i hi => ?_⟩
  have hb : i < bs.length := by omega
  obtain ⟨g, e, hat⟩ := h.at (by omega)
  exact ⟨g, bs[i], e, hat i hb, fun j hj => by rw [← hq i j hi hj]; exact (h.rows i hb).cell hj⟩
/-- What Not tells of two nodes. -/
def notB (p : Int → Int → Bool) (i j : Int) : Bool := i != j && !p i j
/-- Row i is told up to column j, the rows ahead of it whole. -/
def upB (p : Int → Int → Bool) (i j a b : Nat) : Bool := if a < i ∨ (a = i ∧ b < j) then notB p a b else false
theorem up_put (p : Int → Int → Bool) (k j a b : Nat) (x : Bool) (hx : x = notB p k j) : (if a = k ∧ b = j then x else upB p k j a b) = upB p k (j + 1) a b := by
  subst hx
  unfold upB
  by_cases h : a = k ∧ b = j
  · obtain ⟨rfl, rfl⟩ := h
    simp
  · rw [if_neg h]
    by_cases h2 : a < k ∨ (a = k ∧ b < j)
    · rw [if_pos h2, if_pos (by omega)]
    · rw [if_neg h2, if_neg (by omega)]
theorem up_next (p : Int → Int → Bool) {k m b : Nat} (a : Nat) (hb : b < m) (ha : a < k + 1) : upB p k m a b = upB p (k + 1) 0 a b := by
  unfold upB
  rw [if_pos (by omega), if_pos (by omega)]
set_option maxHeartbeats 4000000 in
theorem not_any (m : Nat) (ao : Option Addr) (cap : Nat) (p : Int → Int → Bool) (w : World) (hG : GridAt w (.slice ao m cap) m p) (hm : m ≤ 100) :
    Calls Tryd.prog 37 #[.slice ao m cap] w fun e w' => Below w.heap.size w w' ∧ ∃ ao' cap', e = .returned (.slice ao' m cap') ∧ GridAt w' (.slice ao' m cap') m (notB p) := by
  obtain ⟨i0, hi, hz0, hz1, hz2⟩ := info_parts Tryd.info4
  obtain ⟨i1, hi1, hy0, hy1, hy2⟩ := info_parts Tryd.info60
  have HG : Hid (∀ i : Nat, i < m → ∃ g b, ao = some ⟨g, 0, none⟩ ∧ w.cell? ⟨g, i, none⟩ = some (.slice (some ⟨b, 0, none⟩) m m) ∧ ∀ j : Nat, j < m → w.cell? ⟨b, j, none⟩ = some (.bool (p i j))) := by
    obtain ⟨_, _, e, h⟩ := hG
    cases e
    exact h
  clear hG
  go_enter Tryd.func37, Tryd.ntmps37
  go_upto_region 3 with (fail)
  go_loopw [3, 4] (fun s3 s4 wz => ∃ (v : Value) (bs : List Nat), s3 = v ∧ bs.length ≤ m ∧ s4 = .int .i64 (bs.length : Int) ∧ Hid (NG w wz m v bs (upB p bs.length 0))) (fun _ s4 _ => m - (numOf s4).toNat)
  case atStart => exact ⟨.slice none 0 0, [], rfl, Nat.zero_le _, rfl, World.ownsRow_nil _ _ _ _, fun i h => absurd h (by simp), fun i j h => absurd h (by simp), (fun b h => by cases h), Below.refl _ _⟩
  case round =>
    obtain ⟨v, bs, rfl, hk, rfl, hng⟩ := hrel
    obtain ⟨vo, tc, rfl⟩ := form_row hng.out.own
    have hsz := hng.out.below.size
    by_cases hlt : bs.length < m
    · obtain ⟨k, hkk⟩ : ∃ k, k = bs.length := ⟨_, rfl⟩
      rw [← hkk] at hlt hk ⊢
      have HK : Hid (k = bs.length) := hkk
      have hrow0 : wr.ownsRow w.heap.size 60 1 (.slice vo k tc) k (bs.map (rowV m)) := by rw [hkk]; exact hng.out.own
      have HR0 : Hid (wr.ownsRow w.heap.size 60 1 (.slice vo k tc) k (bs.map (rowV m))) := hrow0
      clear hkk hrow0
      go_upto_region 6 with (first | (at_make; refine wpList_make_full _ rfl _ _ 60 rfl w.heap.size 4 i0 (.bool false) 1 Tryd.underlying60 hi hz0 hz1 .i64 .i64 _ _ m rfl rfl rfl rfl ?_ ?_ ?_ ?_; (rw [hz2]; omega); (unfold maxLen; omega); omega; intro w1 hmade hg1) | (at_builtin; refine wpList_append_own _ rfl _ _ 35 rfl w.heap.size 60 i1 (.slice none 0 0) 1 24 Tryd.underlying35 hi1 hy0 hy1 hy2 rfl (by decide) _ _ _ rfl ((HR0.out.kept hg1 (by cases vo <;> simp [Value.ownBlock])).alloc _) ⟨w1.heap.size, 0, none⟩ 1 1 [rowV m wr.heap.size] rfl rfl ?c1 ?c2 ?c3 ?c4 ?c5 ?_) | fail)
      case c1 =>
        intro j x hj
        match j, hj with
        | 0, hj => simp at hj; subst hj; simp [Addr.add, rowV]
      case c2 => first | rfl | (intro x hx; simp at hx; subst hx; rfl)
      case c3 => unfold maxLen; omega
      case c4 => omega
      case c5 => have := hg1.size; simp; omega
      intro v' w3 hown' hgrow _
      obtain ⟨bs', hbs'⟩ : ∃ bs', bs' = bs ++ [wr.heap.size] := ⟨_, rfl⟩
      have hl' : bs'.length = k + 1 := by rw [hbs', HK.out]; simp
      have hN : NG w w3 m v' bs' (upB p k 0) := by
        subst hbs'
        have hk' := HK.out
        subst hk'
        refine (hng.out.push (rowB_made hmade) hg1 hown' hgrow).congr (fun i j hi hj => ?_)
        simp only [upB]
        by_cases e : i = bs.length
        · subst e; simp
        · rw [if_neg e]
      have HN : Hid (NG w w3 m v' bs' (upB p k 0)) := hN
      have HL : Hid (bs'.length = k + 1) := hl'
      obtain ⟨vo', tc', rfl⟩ := form_row hN.own
      obtain ⟨n1, hn1⟩ : ∃ n1, n1 = bs'.length := ⟨_, rfl⟩
      rw [← hn1] at HN ⊢
      have hnk : n1 = k + 1 := by rw [hn1, hl']
      clear hn1 hown' hgrow hmade hg1 hN HR0 hng hsz hbs' hl'
      go_upto_region 7 with (fail)
      go_loopw [5] (fun s5 wz => ∃ j : Nat, j ≤ m ∧ s5 = .int .i64 (j : Int) ∧ Hid (NG w wz m (.slice vo' n1 tc') bs' (upB p k j))) (fun s5 _ => m - (numOf s5).toNat)
      case atStart => exact ⟨0, Nat.zero_le _, rfl, HN⟩
      case round =>
        obtain ⟨j, hj, rfl, HJ⟩ := hrel
        clear HN
        by_cases hlt2 : j < m
        · have hkb : k < bs'.length := by rw [HL.out]; omega
          obtain ⟨g, rfl, hat⟩ := HJ.out.at (by omega)
          obtain ⟨ag, bb, e0, c0, c1⟩ := HG.out k hlt
          have c2 := c1 j hlt2
          have hb0 := World.block_lt_of_cell? w _ c0
          have hb2 := World.block_lt_of_cell? w _ c2
          rw [← HJ.out.below.cell (by exact hb0)] at c0
          rw [← HJ.out.below.cell (by exact hb2)] at c2
          subst e0
          obtain ⟨bk, hbk⟩ : ∃ bk, bk = bs'[k] := ⟨_, rfl⟩
          have d1 := hat k hkb
          rw [← hbk] at d1
          have HBK : Hid (bk = bs'[k]) := hbk
          have gc0 := cell_growD c0
          have gc2 := cell_growD c2
          have gd1 := cell_growD d1
          clear c0 c1 c2 d1 hat hbk hb0 hb2
          have i1 : (0 : Int) ≤ (k : Int) := by omega
          have i2 : (k : Int) < (m : Int) := by omega
          have i3 : (k : Int) < (n1 : Int) := by omega
          have j1 : (0 : Int) ≤ (j : Int) := by omega
          have j2 : (j : Int) < (m : Int) := by omega
          have HNK : Hid (n1 = k + 1) := hnk
          clear hnk
          go_upto_region 9 with (fail)
          refine wp_region_tailG 19 (by kernel_rfl) (by kernel_rfl) (by kernel_rfl) (by decide) ?_
          simp only [List.take_succ_cons, List.take_zero, List.drop_succ_cons, List.drop_zero]
          by_cases ekj : k = j
          · subst ekj
            repeat (quiet_step (fail))
            refine wpQuiet_nil ?_
            rintro _ ⟨gp, rfl⟩
            have h8 := HJ.out.step (growD_below wr gp)
            clear gc0 gc2 gd1
            generalize growD wr gp = w8 at *
            have d2 := (h8.rows k hkb).cell hlt2
            have e2 := (h8.rows k hkb).free k
            have hN2 : NG w (w8.setCell ⟨bk, k, none⟩ (.bool false)) m (.slice (some ⟨g, 0, none⟩) n1 tc') bs' (upB p k (k + 1)) := by
              have := (h8.put hkb k false).congr (q := upB p k (k + 1)) (fun a b _ _ => up_put p k k a b _ (by simp [notB]))
              rw [← HBK.out] at this
              exact this
            rw [← HBK.out] at d2 e2
            have HN2 : Hid (NG w (w8.setCell ⟨bk, k, none⟩ (.bool false)) m (.slice (some ⟨g, 0, none⟩) n1 tc') bs' (upB p k (k + 1))) := hN2
            clear h8 hN2
            go_upto_region 8 with (fail)
            go_wp2
            go_roundw
            case rel => exact ⟨k + 1, by omega, by go_num, HN2⟩
            case measure => simp [numOf]; omega
          · have ei : ¬ (k : Int) = (j : Int) := by omega
            repeat (quiet_step (fail))
            refine wpQuiet_nil ?_
            rintro _ ⟨gp, rfl⟩
            have h8 := HJ.out.step (growD_below wr gp)
            clear gc0 gc2 gd1
            generalize growD wr gp = w8 at *
            have d2 := (h8.rows k hkb).cell hlt2
            have e2 := (h8.rows k hkb).free j
            have hN2 : NG w (w8.setCell ⟨bk, j, none⟩ (.bool ((k : Int) != (j : Int) && !p k j))) m (.slice (some ⟨g, 0, none⟩) n1 tc') bs' (upB p k (j + 1)) := by
              have := (h8.put hkb j ((k : Int) != (j : Int) && !p k j)).congr (q := upB p k (j + 1)) (fun a b _ _ => up_put p k j a b _ rfl)
              rw [← HBK.out] at this
              exact this
            rw [← HBK.out] at d2 e2
            have HN2 : Hid (NG w (w8.setCell ⟨bk, j, none⟩ (.bool ((k : Int) != (j : Int) && !p k j))) m (.slice (some ⟨g, 0, none⟩) n1 tc') bs' (upB p k (j + 1))) := hN2
            clear h8 hN2
            go_upto_region 8 with (fail)
            go_wp2
            go_roundw
            case rel => exact ⟨j + 1, by omega, by go_num, HN2⟩
            case measure => simp [numOf]; omega
        · have hjm : j = m := by omega
          subst hjm
          have hN2 : Hid (NG w wr j (.slice vo' n1 tc') bs' (upB p bs'.length 0)) := by
            refine HJ.out.congr (fun a b ha hb => ?_)
            rw [HL.out] at ha ⊢
            exact up_next p a hb ha
          have hle : bs'.length ≤ j := by rw [HL.out]; omega
          have hcast : ((k : Int) + 1) = ((bs'.length : Nat) : Int) := by rw [HL.out]; omega
          have HX : Hid (((k : Int) + 1) = ((bs'.length : Nat) : Int)) := hcast
          have HLE : Hid (bs'.length ≤ j) := hle
          clear hcast hle
          go_wp2
          go_roundw
          case rel => exact ⟨_, bs', rfl, HLE.out, by rw [← HX.out], hN2⟩
          case measure => simp [numOf]; omega
    · have hbm : m = bs.length := by omega
      have hfin : GridAt wr (.slice vo m tc) m (notB p) := hng.out.grid hbm.symm (fun i j hi _ => by unfold upB; rw [if_pos (by omega)])
      have hbel := hng.out.below
      have HF : Hid (GridAt wr (.slice vo m tc) m (notB p) ∧ Below w.heap.size w wr) := ⟨hfin, hbel⟩
      rw [← hbm]
      have HB : Hid (m = bs.length) := hbm
      clear hfin hbel hbm hng
      go_wp2
      go_ret
      exact ⟨HF.out.2, vo, tc, rfl, HF.out.1⟩
end Go.Proofs.YtekokjechbibdaaDoor
