/- The nodes that have an edge with one, by the list of edges in form. The document's Degree: the greatest number of edges of a node. make of a row of rows. nearBy: of each node those that have an edge with it; and most: the greatest number of them. The greatest number of edges at a node, and the edges that have a colour. -/
import Derived.Test.YtdnmoifbkojnlaaGreatGiven
import Derived.Test.YtdnmoifbkojnlaaGreatTri
import Derived.Test.YtdnmoifbkojnlaaGreatKitC
import Derived.BigRegion
import Derived.Deep.AppendLies
import Derived.Deep.CutRange
import Derived.Deep.RegionHeld3
import Derived.Deep.RegionLaw
import Derived.Lib.MinMax
namespace Go.Proofs.YtdnmoifbkojnlaaGreat

def nbF (i : Nat) (e : Pair) : List Nat := if e.1 = (i : Int) then [e.2.toNat] else if e.2 = (i : Int) then [e.1.toNat] else []
def nbOf (es : List Pair) (i : Nat) : List Nat := es.flatMap (nbF i)
theorem nbOf_take {es : List Pair} {k x y : Nat} (h : es[k]? = some ((x : Int), (y : Int))) (i : Nat) : nbOf (es.take (k + 1)) i = nbOf (es.take k) i ++ (if x = i then [y] else if y = i then [x] else []) := by
  obtain ⟨h1, h2⟩ := List.getElem?_eq_some_iff.1 h
  unfold nbOf
  rw [List.take_succ_eq_append_getElem h1, h2, List.flatMap_append]
  congr 1
  simp only [List.flatMap_cons, List.flatMap_nil, List.append_nil, nbF]
  by_cases c1 : x = i
  · subst c1; simp
  · have : ¬ (x : Int) = (i : Int) := by omega
    rw [if_neg this, if_neg c1]
    by_cases c2 : y = i
    · subst c2; simp
    · have : ¬ (y : Int) = (i : Int) := by omega
      rw [if_neg this, if_neg c2]
theorem flatMap_nil_of {α β : Type} {l : List α} {f : α → List β} (h : ∀ x ∈ l, f x = []) : l.flatMap f = [] := by
  induction l with
  | nil => rfl
  | cons a l ih => rw [List.flatMap_cons, h a (by simp), ih (fun x hx => h x (by simp [hx]))]; rfl
theorem flatMap_congr' {α β : Type} {l : List α} {f g : α → List β} (h : ∀ x ∈ l, f x = g x) : l.flatMap f = l.flatMap g := by
  induction l with
  | nil => rfl
  | cons a l ih => rw [List.flatMap_cons, List.flatMap_cons, h a (by simp), ih (fun x hx => h x (by simp [hx]))]
theorem flatMap_if {l : List Nat} (p : Nat → Bool) : (l.flatMap fun u => if p u = true then [u] else []) = l.filter p := by
  induction l with
  | nil => rfl
  | cons a l ih =>
    rw [List.flatMap_cons, ih, List.filter_cons]
    by_cases h : p a = true
    · simp [h]
    · simp [h]

section
variable {m : Nat} {p : Int → Int → Bool}
theorem row_self {i : Nat} : (rowTo p i m).flatMap (nbF i) = (List.range m).filter fun (x : Nat) => decide (i < x) && p i x := by
  unfold rowTo
  rw [List.flatMap_map]
  have : ∀ l : List Nat, (l.flatMap fun (j : Nat) => nbF i ((i : Int), (j : Int))) = l := fun l => by
    induction l with
    | nil => rfl
    | cons a l ih => rw [List.flatMap_cons, ih]; simp [nbF]
  exact this _
theorem row_low {u i : Nat} (h : u < i) (hi : i < m) : (rowTo p u m).flatMap (nbF i) = if p u i = true then [u] else [] := by
  unfold rowTo
  rw [List.flatMap_map]
  have key : ∀ l : List Nat, l.Nodup → (l.flatMap fun (j : Nat) => nbF i ((u : Int), (j : Int))) = if i ∈ l then [u] else [] := fun l => by
    induction l with
    | nil => intro _; rfl
    | cons a l ih =>
      intro hn
      have hn' := List.nodup_cons.1 hn
      rw [List.flatMap_cons, ih hn'.2]
      have hu : ¬ (u : Int) = (i : Int) := by omega
      by_cases c : a = i
      · subst c
        simp [nbF, hu, hn'.1]
      · have : ¬ (a : Int) = (i : Int) := by omega
        simp only [nbF, if_neg hu, if_neg this, List.nil_append, List.mem_cons]
        by_cases c2 : i ∈ l
        · rw [if_pos c2, if_pos (Or.inr c2)]
        · rw [if_neg c2, if_neg (fun h => h.elim (fun h => c h.symm) c2)]
  rw [key _ (List.nodup_range.filter _)]
  by_cases c : p u i = true
  · rw [if_pos c, if_pos]
    simp [h, hi, c]
  · rw [if_neg c, if_neg]
    simp [h, hi, c]
theorem row_high {u i : Nat} (h : i < u) : (rowTo p u m).flatMap (nbF i) = [] := by
  unfold rowTo
  rw [List.flatMap_map]
  refine flatMap_nil_of fun j hj => ?_
  simp at hj
  have h1 : ¬ (u : Int) = (i : Int) := by omega
  have h2 : ¬ (j : Int) = (i : Int) := by omega
  simp [nbF, h1, h2]
/-- The list of the nodes that have an edge with i rises. -/
theorem nbOf_all (hs : ∀ u v : Nat, p u v = p v u) (hd : ∀ u : Nat, p u u = false) {i : Nat} (hi : i < m) : nbOf (allP m p) i = (List.range m).filter fun (x : Nat) => p i x := by
  obtain ⟨k, hk⟩ : ∃ k, m = i + (k + 1) := ⟨m - i - 1, by omega⟩
  unfold nbOf allP rowsTo
  rw [List.flatMap_assoc]
  have hsplit : List.range m = List.range i ++ (i :: (List.range k).map fun j => i + (j + 1)) := by
    rw [hk, List.range_add, List.range_succ_eq_map]
    simp [Function.comp_def]
  rw [hsplit, List.flatMap_append, List.flatMap_cons, List.filter_append, List.filter_cons, hd i]
  have h1 : ((List.range i).flatMap fun u => (rowTo p u m).flatMap (nbF i)) = (List.range i).filter fun (x : Nat) => p i x := by
    rw [← flatMap_if]
    refine flatMap_congr' fun u hu => ?_
    rw [row_low (by simpa using hu) hi, hs u i]
  have h2 : (((List.range k).map fun j => i + (j + 1)).flatMap fun u => (rowTo p u m).flatMap (nbF i)) = [] :=
    flatMap_nil_of fun u hu => by
      simp at hu
      obtain ⟨j, _, rfl⟩ := hu
      exact row_high (by omega)
  rw [h1, h2, row_self, hsplit]
  congr 1
  rw [List.append_nil, List.filter_append, List.filter_cons]
  have h3 : (List.range i).filter (fun (x : Nat) => decide (i < x) && p i x) = [] := List.filter_eq_nil_iff.2 fun u hu => by
    simp at hu
    simp
    omega
  rw [h3]
  simp [hd i]
  refine List.filter_congr fun x hx => ?_
  simp at hx
  obtain ⟨j, _, rfl⟩ := hx
  simp
end
end Go.Proofs.YtdnmoifbkojnlaaGreat

namespace Go.Proofs.YtdnmoifbkojnlaaGreat
open Go.RowKit Go.Maps
attribute [local go_sem ↓] Go.wp_at_zero Go.wp_at_succ

/-- How many of the first m nodes have an edge with v. -/
def dgr (q : Nat → Nat → Bool) (v m : Nat) : Nat := ((List.range m).filter (q v)).length
theorem dgr_succ (q : Nat → Nat → Bool) (v m : Nat) : dgr q v (m + 1) = dgr q v m + if q v m then 1 else 0 := by
  unfold dgr
  rw [List.range_succ, List.filter_append, List.length_append]
  cases h : q v m <;> simp [h]
theorem dgr_le (q : Nat → Nat → Bool) (v m : Nat) : dgr q v m ≤ m := by
  unfold dgr
  exact Nat.le_trans (List.length_filter_le _ _) (by simp)
/-- The greatest of the first m nodes. -/
def dgM (q : Nat → Nat → Bool) (n : Nat) : Nat → Nat
  | 0 => 0
  | m + 1 => if dgr q m n > dgM q n m then dgr q m n else dgM q n m
theorem dgM_le (q : Nat → Nat → Bool) (n : Nat) : ∀ m, dgM q n m ≤ n
  | 0 => Nat.zero_le _
  | m + 1 => by
    unfold dgM
    split
    · exact dgr_le q m n
    · exact dgM_le q n m
theorem dgM_ge (q : Nat → Nat → Bool) (n : Nat) : ∀ m v, v < m → dgr q v n ≤ dgM q n m
  | 0, v, h => absurd h (Nat.not_lt_zero _)
  | m + 1, v, h => by
    unfold dgM
    by_cases e : v = m
    · subst e
      split <;> omega
    · have := dgM_ge q n m v (by omega)
      split <;> omega
set_option maxRecDepth 4000 in
set_option maxHeartbeats 2000000 in
theorem degree_call {W : World} {tv : Value} {n : Nat} {p : Int → Int → Bool} (hn : n ≤ 100) (hG : GridAt W tv n p) :
    Calls Tryz.prog 10 #[tv] W fun e w' => e = .returned (.int .i64 (dgM (fun v z => p (v : Int) (z : Int)) n n : Nat)) ∧ w' = W := by
  have HG : Hid (GridAt W tv n p) := hG
  obtain ⟨tao, tcap, e, _⟩ := id hG
  subst e
  obtain ⟨q, hq⟩ : ∃ q : Nat → Nat → Bool, q = fun (v z : Nat) => p (v : Int) (z : Int) := ⟨_, rfl⟩
  rw [← hq]
  have HQ : Hid (∀ v z : Nat, q v z = p (v : Int) (z : Int)) := fun v z => by rw [hq]
  clear hG hq
  go_enter Tryz.func10, Tryz.ntmps10
  go_wp2
  go_loopw [3, 4, 5, 6] (fun mv' iv' _ _ wr => ∃ d : Nat, d ≤ n ∧ mv' = .int .i64 (dgM q n d : Nat) ∧ iv' = .int .i64 (d : Int) ∧ wr = W) (fun _ iv' _ _ _ => n - (numOf iv').toNat)
  case atStart => exact ⟨0, Nat.zero_le _, rfl, rfl, rfl⟩
  case round =>
    obtain ⟨d, hd, rfl, rfl, rfl⟩ := hrel
    obtain ⟨M, hM⟩ : ∃ M, M = dgM q n d := ⟨_, rfl⟩
    have hM1 := dgM_le q n d
    by_cases hdn : d < n
    · have i1 : (d : Int) < (n : Int) := by omega
      have i0 : (0 : Int) ≤ (d : Int) := by omega
      have hnx : dgM q n (d + 1) = if dgr q d n > dgM q n d then dgr q d n else dgM q n d := rfl
      rw [← hM] at hM1 hnx ⊢
      have HNX : Hid (dgM q n (d + 1) = if dgr q d n > M then dgr q d n else M) := hnx
      clear hM hnx
      obtain ⟨tao', _, e3, hg⟩ := HG.out
      cases e3
      obtain ⟨gt, bt, rfl, g0, g1⟩ := hg d hdn
      have HC : Hid (∀ j, j < n → wr.cell? ⟨bt, j, none⟩ = some (.bool (q d j))) := fun j hj => by
        rw [HQ.out]; exact g1 j hj
      clear hg g1
      go_wp2
      generalize hwo : wr = WO at HC g0 ⊢
      have HWO : Hid (WO = wr) := hwo.symm
      clear hwo
      go_loopw [5, 6] (fun cv iv' wr => ∃ z : Nat, z ≤ n ∧ cv = .int .i64 (dgr q d z : Nat) ∧ iv' = .int .i64 (z : Int) ∧ wr = WO) (fun _ iv' _ => n - (numOf iv').toNat)
      case atStart => exact ⟨0, Nat.zero_le _, rfl, rfl, rfl⟩
      case round =>
        obtain ⟨z, hz, rfl, rfl, hwr⟩ := hrel
        have hwr' := hwr.symm
        clear hwr
        subst hwr'
        obtain ⟨C, hC⟩ : ∃ C, C = dgr q d z := ⟨_, rfl⟩
        have hC1 := dgr_le q d z
        by_cases hzn : z < n
        · have j1 : (z : Int) < (n : Int) := by omega
          have j0 : (0 : Int) ≤ (z : Int) := by omega
          have cz := HC.out z hzn
          have hs := dgr_succ q d z
          rw [← hC] at hC1 hs ⊢
          cases hqz : q d z with
          | true =>
            rw [hqz] at cz hs
            have HS : Hid (dgr q d (z + 1) = C + 1) := hs
            clear hs hqz hC
            go_wp2
            go_roundw
            case rel => exact ⟨z + 1, by omega, by rw [HS.out]; go_num, by go_num, trivial⟩
            case measure => simp [numOf]; omega
          | false =>
            rw [hqz] at cz hs
            have HS : Hid (dgr q d (z + 1) = C) := hs
            clear hs hqz hC
            go_wp2
            go_roundw
            case rel => exact ⟨z + 1, by omega, by rw [HS.out], by go_num, trivial⟩
            case measure => simp [numOf]; omega
        · have j1 : ¬ (z : Int) < (n : Int) := by omega
          have hzn' : z = n := by omega
          have hCn : C = dgr q d n := by rw [hC, hzn']
          rw [← hCn] at HNX
          rw [← hC] at hC1 ⊢
          clear hC hCn hzn'
          by_cases hgt : C > M
          · have k1 : (C : Int) > (M : Int) := by omega
            have HS : Hid (dgM q n (d + 1) = C) := by show dgM q n (d + 1) = C; rw [HNX.out, if_pos hgt]
            go_wp2
            go_roundw
            case rel => exact ⟨d + 1, by omega, by rw [HS.out], by go_num, HWO.out⟩
            case measure => simp [numOf]; omega
          · have k1 : ¬ (C : Int) > (M : Int) := by omega
            have HS : Hid (dgM q n (d + 1) = M) := by show dgM q n (d + 1) = M; rw [HNX.out, if_neg hgt]
            go_wp2
            go_roundw
            case rel => exact ⟨d + 1, by omega, by rw [HS.out], by go_num, HWO.out⟩
            case measure => simp [numOf]; omega
    · have i1 : ¬ (d : Int) < (n : Int) := by omega
      have hde : d = n := by omega
      subst hde
      go_wp2
      go_ret
      exact ⟨rfl, rfl⟩
end Go.Proofs.YtdnmoifbkojnlaaGreat

namespace Go.Proofs.YtdnmoifbkojnlaaGreat
open Go.RowKit Go.Maps

theorem make46 (N : Nat) (hN : N ≤ 1000) (w : World) : (Instr.makeSlice 46 (.int .i64 (N : Int)) (.int .i64 (N : Int))).run Tryz.prog w = .ok (.slice (some ⟨w.heap.size, 0, none⟩) N N) (w.alloc (.cells (rep N (.slice none 0 0)) 29)) := by
  obtain ⟨i3, hi3, hy0, hy1, hy2⟩ := info_parts Tryz.info29
  have hr := run_make (P := Tryz.prog) w 46 29 i3 (.slice none 0 0) Tryz.underlying46 hi3 hy0 .i64 .i64 N N (by omega) (Int.le_refl _) (by rw [hy2]; omega) (by omega)
  simpa [hy1, Value.cells] using hr
end Go.Proofs.YtdnmoifbkojnlaaGreat

namespace Go.Proofs.YtdnmoifbkojnlaaGreat
open Go.RowKit Go.Maps
attribute [local go_sem ↓] Go.wp_at_zero Go.wp_at_succ

/-- Block g holds N rows of numbers, each of its own. -/
structure NearL (w : World) (base g N : Nat) (vs : Nat → Value) (ls : Nat → List Nat) : Prop where
  row : RowV w g 29 N vs
  own : ∀ i, i < N → w.ownsRow base 3 1 (vs i) (ls i).length (qv (ls i))
  sep : ∀ i j b, i < N → j < N → i ≠ j → (vs i).ownBlock = some b → (vs j).ownBlock ≠ some b

theorem NearL.ne {w : World} {base g N : Nat} {vs : Nat → Value} {ls : Nat → List Nat} (h : NearL w base g N vs ls) {i : Nat} (hi : i < N) : (vs i).ownBlock ≠ some g := fun hb => by
  obtain ⟨cur, h1⟩ := own_cells (h.own i hi) hb
  obtain ⟨cur', h2, _⟩ := h.row
  rw [h1] at h2
  simp at h2
theorem NearL.below {w w' : World} {base g N : Nat} {vs : Nat → Value} {ls : Nat → List Nat} (h : NearL w base g N vs ls) (hb : Below w.heap.size w w') : NearL w' base g N vs ls :=
  ⟨h.row.block (hb.block _ h.row.lt), fun i hi => ownsRow_blocks (h.own i hi) fun b hb' => hb.block b ((h.own i hi).lt b hb').2, h.sep⟩
theorem NearL.congr {w : World} {base g N : Nat} {vs : Nat → Value} {ls ls' : Nat → List Nat} (h : NearL w base g N vs ls) (he : ∀ i, i < N → ls i = ls' i) : NearL w base g N vs ls' :=
  ⟨h.row, fun i hi => by rw [← he i hi]; exact h.own i hi, h.sep⟩
/-- One number more in row i. -/
theorem NearL.put {w w1 : World} {base g N : Nat} {vs : Nat → Value} {ls : Nat → List Nat} {o : Obj} (h : NearL w base g N vs ls) {i x g1 c1 : Nat} (hi : i < N)
    (hown : w1.ownsRow base 3 1 (.slice (some ⟨g1, 0, none⟩) ((ls i).length + 1) c1) ((ls i).length + 1) (qv (ls i) ++ [.int .i64 (x : Int)])) (hg : (w.alloc o).grownBy w1 (vs i).ownBlock) (hat : (vs i).ownBlock = some g1 ∨ w.heap.size ≤ g1) :
    NearL (w1.setCell ⟨g, i, none⟩ (.slice (some ⟨g1, 0, none⟩) ((ls i).length + 1) c1)) base g N (fun j => if j = i then .slice (some ⟨g1, 0, none⟩) ((ls i).length + 1) c1 else vs j) (fun j => if j = i then ls i ++ [x] else ls j) := by
  have T := (alloc_turns w o (fun k => some k = (vs i).ownBlock)).trans (Turns.of_grown hg)
  have hrow1 := h.row.block (w' := w1) (T.block _ h.row.lt (fun hh => h.ne hi hh.symm))
  have hg1 : g1 ≠ g := fun e => by
    rcases hat with h1 | h1
    · rw [e] at h1; exact h.ne hi h1
    · have := h.row.lt; omega
  refine ⟨(hrow1.set i _).congr (fun j _ => rfl), fun j hj => ?_, fun a b k ha hb hab hk => ?_⟩
  · by_cases e : j = i
    · subst e
      simp only
      refine ownsRow_blocks (w := w1) ?_ (fun b hb => Below.heap_setCell _ _ _ _ (fun hh => ?_))
      · simpa [qv] using hown
      · have : b = g1 := by simpa [Value.ownBlock] using hb.symm
        exact hg1 (this ▸ hh)
    · simp only [if_neg e]
      refine ownsRow_blocks (h.own j hj) (fun b hb => ?_)
      rw [Below.heap_setCell _ _ _ _ (fun hh => by rw [show b = g from hh] at hb; exact h.ne hj hb)]
      exact T.block b ((h.own j hj).lt b hb).2 (fun hh => h.sep j i b hj hi e hb hh.symm)
  · by_cases e1 : a = i
    · subst e1
      simp only [if_neg (fun h => hab h.symm : ¬ b = a)] at hk ⊢
      have : k = g1 := by simpa [Value.ownBlock] using hk.symm
      subst this
      rcases hat with h1 | h1
      · exact h.sep a b k ha hb hab h1
      · intro hh
        have := ((h.own b hb).lt k hh).2
        omega
    · simp only [if_neg e1] at hk
      by_cases e2 : b = i
      · subst e2
        simp only
        intro hh
        have : k = g1 := by simpa [Value.ownBlock] using hh.symm
        subst this
        rcases hat with h1 | h1
        · exact h.sep a b k ha hb hab hk h1
        · have := ((h.own a ha).lt k hk).2
          omega
      · simp only [if_neg e2]
        exact h.sep a b k ha hb hab hk

theorem nbOf_len (es : List Pair) (i : Nat) : (nbOf es i).length ≤ es.length := by
  unfold nbOf
  induction es with
  | nil => simp
  | cons a l ih =>
    rw [List.flatMap_cons, List.length_append, List.length_cons]
    have : (nbF i a).length ≤ 1 := by
      unfold nbF
      split
      · simp
      · split <;> simp
    omega
theorem NearL.far {w : World} {base g N b o : Nat} {vs : Nat → Value} {ls : Nat → List Nat} {u : Value} (h : NearL w base g N vs ls) (h1 : b < base) (h2 : b ≠ g) : NearL (w.setCell ⟨b, o, none⟩ u) base g N vs ls :=
  ⟨h.row.block (Below.heap_setCell _ _ _ _ (fun e => h2 e.symm)), fun i hi => ownsRow_blocks (h.own i hi) (fun c hc => Below.heap_setCell _ _ _ _ (fun e => by have := ((h.own i hi).lt c hc).1; have e' : c = b := e; omega)), h.sep⟩
theorem NearL.mono {w : World} {base base' g N : Nat} {vs : Nat → Value} {ls : Nat → List Nat} (h : NearL w base g N vs ls) (hb : base' ≤ base) : NearL w base' g N vs ls := ⟨h.row, fun i hi => ownsRow_mono (h.own i hi) hb, h.sep⟩
set_option maxRecDepth 20000 in
set_option maxHeartbeats 8000000 in
theorem nearBy_call {w : World} {m : Nat} {lo : Option Addr} {lc : Nat} {fes : List Pair} (hE : EdgesAt w (.slice lo fes.length lc) fes) (hm : m ≤ 100) (hl : fes.length ≤ 1000) (hmem : ∀ (k : Nat) (e : Pair), fes[k]? = some e → ∃ x y : Nat, e = ((x : Int), (y : Int)) ∧ x < y ∧ y < m) :
    Calls Tryz.prog 18 #[.agg #[.int .i64 (m : Int), .slice lo fes.length lc]] w fun e w' => ∃ g vs, e = .returned (sl g m) ∧ w.heap.size ≤ g ∧ NearL w' w.heap.size g m vs (fun i => nbOf fes i) ∧ Below w.heap.size w w' := by
  obtain ⟨i3, hi3, hy0, hy1, hy2⟩ := info_parts Tryz.info3
  have hmk := make46 m (by omega)
  have HE : Hid (EdgesAt w (.slice lo fes.length lc) fes) := hE
  have HM : Hid (∀ (k : Nat) (e : Pair), fes[k]? = some e → ∃ x y : Nat, e = ((x : Int), (y : Int)) ∧ x < y ∧ y < m) := hmem
  clear hE hmem
  go_enter Tryz.func18, Tryz.ntmps18
  go_upto_region 1 with (fail)
  have t1 := two_new w (.int .i64 (m : Int)) (.slice lo fes.length lc) 24
  have hB0 := below_alloc (Below.refl _ w) (Obj.cells #[.int .i64 (m : Int), .slice lo fes.length lc] 24)
  obtain ⟨b1, hb1⟩ : ∃ b, b = w.heap.size := ⟨_, rfl⟩
  have HB1 : Hid (b1 = w.heap.size) := hb1
  rw [← hb1] at t1 ⊢
  generalize w.alloc (Obj.cells #[.int .i64 (m : Int), .slice lo fes.length lc] 24) = Wz at t1 hB0 ⊢
  obtain ⟨y1, y2⟩ := cell_two t1
  clear hb1
  go_upto_region 2 with (fail)
  have hrow0 : RowV (Wz.alloc (Obj.cells (rep m (.slice none 0 0)) 29)) Wz.heap.size 29 m (fun _ => .slice none 0 0) := rowV_rep (heap_alloc_new _ _)
  have hbG := below_alloc (Below.refl _ Wz) (Obj.cells (rep m (.slice none 0 0)) 29)
  generalize Wz.alloc (Obj.cells (rep m (.slice none 0 0)) 29) = W1 at hrow0 hbG ⊢
  have HEF : Hid (EdgesAt Wz (.slice lo fes.length lc) fes) := HE.out.below hB0
  have hnl0 : NearL W1 Wz.heap.size Wz.heap.size m (fun _ => .slice none 0 0) (fun i => nbOf (fes.take 0) i) := ⟨hrow0, fun i hi => by simpa [nbOf, qv] using World.ownsRow_nil _ _ _ _, fun i j b _ _ _ h => by simp [Value.ownBlock] at h⟩
  have HT1 : Hid (Two Wz b1 (.int .i64 (m : Int)) (.slice lo fes.length lc) 24) := t1
  clear hrow0 y1 y2 hmk t1 HE
  obtain ⟨y1, y2⟩ := cell_two (two_next HT1.out hbG)
  go_wp2
  clear y1 y2
  go_loopw [12] (fun i wq => ∃ (k : Nat) (vs : Nat → Value), k ≤ fes.length ∧ i = .int .i64 (k : Int) ∧ NearL wq Wz.heap.size Wz.heap.size m vs (fun i => nbOf (fes.take k) i) ∧ Below Wz.heap.size Wz wq) (fun i _ => fes.length - (numOf i).toNat)
  case atStart => exact ⟨0, _, Nat.zero_le _, rfl, hnl0, hbG⟩
  case round =>
    obtain ⟨k, vs, hk, rfl, hnl, hBq⟩ := hrel
    clear hnl0 hbG
    by_cases hkl : k < fes.length
    · obtain ⟨yo, yc, ey, _, _, hcells⟩ := EdgesAt.below HEF.out hBq
      cases ey
      obtain ⟨b, off, rfl, c1, c2⟩ := hcells k hkl
      obtain ⟨x, y, hxy, hlt, hym⟩ := HM.out k _ (List.getElem?_eq_getElem hkl)
      rw [hxy] at c1 c2
      have hget : fes[k]? = some ((x : Int), (y : Int)) := by rw [List.getElem?_eq_getElem hkl, hxy]
      have HGT : Hid _ := hget
      clear hcells hxy hget
      have j1 : (0 : Int) ≤ (k : Int) := by omega
      have j2 : (k : Int) < (fes.length : Int) := by omega
      go_upto_region 5 with (fail)
      have t12 := two_new wr (.int .i64 (x : Int)) (.int .i64 (y : Int)) 42
      have hBx := below_alloc hBq (Obj.cells #[.int .i64 (x : Int), .int .i64 (y : Int)] 42)
      have hnlx := hnl.below (below_alloc (Below.refl _ wr) (Obj.cells #[.int .i64 (x : Int), .int .i64 (y : Int)] 42))
      have hsw : wr.heap.size < (wr.alloc (Obj.cells #[.int .i64 (x : Int), .int .i64 (y : Int)] 42)).heap.size := by simp
      have hrl : ∀ i b, i < m → (vs i).ownBlock = some b → b < wr.heap.size := fun i b hi hb => ((hnl.own i hi).lt b hb).2
      have hgl := hnl.row.lt
      clear c1 c2 hnl hBq
      generalize wr.heap.size = b12 at t12 hsw hrl hgl ⊢
      generalize wr.alloc (Obj.cells #[.int .i64 (x : Int), .int .i64 (y : Int)] 42) = wx at t12 hBx hnlx hsw ⊢
      obtain ⟨z1, z2⟩ := cell_two t12
      have hxm : x < m := by omega
      have i1 : (0 : Int) ≤ (x : Int) := by omega
      have i2 : (x : Int) < (m : Int) := by omega
      have i3' : (0 : Int) ≤ (y : Int) := by omega
      have i4 : (y : Int) < (m : Int) := by omega
      have hlen : ∀ i, (nbOf (fes.take k) i).length ≤ 1000 := fun i => Nat.le_trans (nbOf_len _ i) (by simp; omega)
      have HLN : Hid _ := hlen
      clear hlen
      go_cut [3] from 16 to 28 (fun s3 wc => s3 = .slice (some ⟨Wz.heap.size, 0, none⟩) m m ∧ (∃ vs', NearL wc Wz.heap.size Wz.heap.size m vs' (fun j => if j = x then nbOf (fes.take k) x ++ [y] else nbOf (fes.take k) j)) ∧ Two wc b12 (.int .i64 (x : Int)) (.int .i64 (y : Int)) 42 ∧ Below Wz.heap.size Wz wc)
      case first =>
        have hown2 := hnlx.own x hxm
        obtain ⟨ro, rc, hvx⟩ := form_row hown2
        have cx := hnlx.row.cell hxm
        rw [hvx] at cx
        have hox : (wx.drew).ownsRow Wz.heap.size 3 1 (.slice ro (nbOf (fes.take k) x).length rc) (nbOf (fes.take k) x).length (qv (nbOf (fes.take k) x)) := by
          rw [hvx] at hown2
          exact ownsRow_blocks hown2 (fun _ _ => rfl)
        have hne12 : (Value.slice ro (nbOf (fes.take k) x).length rc).ownBlock ≠ some b12 := fun h => by
          obtain ⟨cur, h1⟩ := own_cells hox h
          have h2 : wx.drew.heap[b12]? = _ := t12
          rw [h1] at h2
          simp at h2
        have hneg : (Value.slice ro (nbOf (fes.take k) x).length rc).ownBlock ≠ some Wz.heap.size := fun h => by
          rw [← hvx] at h
          exact hnlx.ne hxm h
        have hrx : RowV wx.drew Wz.heap.size 29 m vs := hnlx.row
        have hszx := hBx.size
        have hly := HLN.out x
        have hK : ∀ (w1 : World) (o : Obj), ((wx.drew).alloc o).grownBy w1 (Value.slice ro (nbOf (fes.take k) x).length rc).ownBlock → (w1.cell? ⟨b12, 0, none⟩ = some (.int .i64 (x : Int)) ∧ w1.cell? ⟨b12, 1, none⟩ = some (.int .i64 (y : Int)) ∧ w1.cell? ⟨Wz.heap.size, x, none⟩ = some (.slice ro (nbOf (fes.take k) x).length rc)) ∧ w1.frozen? ⟨Wz.heap.size, x, none⟩ = false := fun w1 o hg =>
          ⟨⟨cell_grown (w := wx.drew) hg z1 hne12, cell_grown (w := wx.drew) hg z2 hne12, cell_grown (w := wx.drew) hg cx hneg⟩, (row_grown hrx hg hneg).free x⟩
        have HK : Hid _ := hK
        have HNL : Hid _ := hnlx
        have HVX : Hid _ := hvx
        have HOX : Hid _ := hox
        have HT12 : Hid _ := t12
        have hbW : b12 ≠ Wz.heap.size := by omega
        clear hK hnlx hvx hrx hown2 t12
        have cxa := all_alloc cx
        have z1a := all_alloc z1
        have z2a := all_alloc z2
        go_region_law (refine step_append_lies _ (by rfl) _ _ _ (by rfl) Wz.heap.size 3 i3 _ 1 8 Tryz.underlying29 hi3 hy0 hy1 hy2 rfl (by omega) (.slice ro (nbOf (fes.take k) x).length rc) (nbOf (fes.take k) x).length (qv (nbOf (fes.take k) x)) (by rfl) (hox.alloc _) ⟨wx.heap.size, 0, none⟩ 1 1 [.int .i64 (y : Int)] (by rfl) rfl (cell_one_new _ _ _) (by intro u hu; simp at hu; subst hu; rfl) (by omega) (by unfold maxLen; omega) (by omega) (by simp; omega) (wx.heap.size + 1) (by simp) ?_; intro g1 c1 w1 hown1 hgr1 hat1 hlt1; obtain ⟨⟨hk0, hk1, hk2⟩, f1⟩ := HK.out _ _ hgr1; have HAT : Hid _ := hat1; have HGR : Hid _ := hgr1; have HO1 : Hid _ := hown1; clear hat1 hgr1 hown1)
        all_goals
          go_wp2_with fail
          go_meet
          case rel =>
            have hT := (alloc_turns wx.drew (Obj.cells #[.int .i64 (y : Int)] 3) _).trans (Turns.of_grown HGR.out)
            have hB1 := hT.below hBx.drew hszx (fun j hj => (World.ownsRow.lt HOX.out j hj.symm).1)
            have hnl3 := NearL.put (w := wx.drew) (w1 := w1) (o := Obj.cells #[.int .i64 (y : Int)] 3) (g1 := g1) (c1 := c1) (x := y) (NearL.below HNL.out (Below.refl _ wx).drew) hxm HO1.out (by rw [HVX.out]; exact HGR.out) (by rw [HVX.out]; exact HAT.out.imp id (fun h => by have h' : g1 = wx.heap.size + 1 := h; show wx.heap.size ≤ g1; omega))
            have ht := two_far (b' := Wz.heap.size) (o := x) (u := .slice (some ⟨g1, 0, none⟩) ((nbOf (fes.take k) x).length + 1) c1) (two_turns (w := wx.drew) HT12.out hT (fun h => hne12 h.symm)) hbW
            exact ⟨rfl, ⟨_, hnl3⟩, ht, hB1.setCell (Nat.le_refl _) _⟩
      case rest =>
        obtain ⟨rfl, ⟨vs2, hnl2⟩, t12c, hBc⟩ := hcut
        clear z1 z2 t12 hnlx hBx hrl hsw hgl
        obtain ⟨z1, z2⟩ := cell_two t12c
        go_upto_region 6 with (fail)
        have hlx2 : (if y = x then nbOf (fes.take k) x ++ [y] else nbOf (fes.take k) y) = nbOf (fes.take k) y := if_neg (by omega)
        have hown2 := hnl2.own y hym
        simp only [hlx2] at hown2
        obtain ⟨ro, rc, hvx⟩ := form_row hown2
        have cx := hnl2.row.cell hym
        rw [hvx] at cx
        have hox : (wc.drew).ownsRow Wz.heap.size 3 1 (.slice ro (nbOf (fes.take k) y).length rc) (nbOf (fes.take k) y).length (qv (nbOf (fes.take k) y)) := by
          rw [hvx] at hown2
          exact ownsRow_blocks hown2 (fun _ _ => rfl)
        have hne12 : (Value.slice ro (nbOf (fes.take k) y).length rc).ownBlock ≠ some b12 := fun h => by
          obtain ⟨cur, h1⟩ := own_cells hox h
          have h2 : wc.drew.heap[b12]? = _ := t12c
          rw [h1] at h2
          simp at h2
        have hneg : (Value.slice ro (nbOf (fes.take k) y).length rc).ownBlock ≠ some Wz.heap.size := fun h => by
          rw [← hvx] at h
          exact hnl2.ne hym h
        have hrx : RowV wc.drew Wz.heap.size 29 m vs2 := hnl2.row
        have hszx := hBc.size
        have hly := HLN.out y
        have hK : ∀ (w1 : World) (o : Obj), ((wc.drew).alloc o).grownBy w1 (Value.slice ro (nbOf (fes.take k) y).length rc).ownBlock → (w1.cell? ⟨b12, 0, none⟩ = some (.int .i64 (x : Int)) ∧ w1.cell? ⟨b12, 1, none⟩ = some (.int .i64 (y : Int)) ∧ w1.cell? ⟨Wz.heap.size, y, none⟩ = some (.slice ro (nbOf (fes.take k) y).length rc)) ∧ w1.frozen? ⟨Wz.heap.size, y, none⟩ = false := fun w1 o hg =>
          ⟨⟨cell_grown (w := wc.drew) hg z1 hne12, cell_grown (w := wc.drew) hg z2 hne12, cell_grown (w := wc.drew) hg cx hneg⟩, (row_grown hrx hg hneg).free y⟩
        have HK : Hid _ := hK
        have HNL : Hid _ := hnl2
        have HVX : Hid _ := hvx
        have HOX : Hid _ := hox
        have HL2 : Hid _ := hlx2
        clear hK hnl2 hvx hrx hown2 hlx2
        have cxa := all_alloc cx
        have z1a := all_alloc z1
        have z2a := all_alloc z2
        go_region_law (refine step_append_lies _ (by rfl) _ _ _ (by rfl) Wz.heap.size 3 i3 _ 1 8 Tryz.underlying29 hi3 hy0 hy1 hy2 rfl (by omega) (.slice ro (nbOf (fes.take k) y).length rc) (nbOf (fes.take k) y).length (qv (nbOf (fes.take k) y)) (by rfl) (hox.alloc _) ⟨wc.heap.size, 0, none⟩ 1 1 [.int .i64 (x : Int)] (by rfl) rfl (cell_one_new _ _ _) (by intro u hu; simp at hu; subst hu; rfl) (by omega) (by unfold maxLen; omega) (by omega) (by simp; omega) (wc.heap.size + 1) (by simp) ?_; intro g1 c1 w1 hown1 hgr1 hat1 hlt1; obtain ⟨⟨hk0, hk1, hk2⟩, f1⟩ := HK.out _ _ hgr1; have HAT : Hid _ := hat1; have HGR : Hid _ := hgr1; have HO1 : Hid _ := hown1; clear hat1 hgr1 hown1)
        all_goals
          go_wp2
          have hT := (alloc_turns wc.drew (Obj.cells #[.int .i64 (x : Int)] 3) _).trans (Turns.of_grown HGR.out)
          have hB1 := hT.below hBc.drew hszx (fun j hj => (World.ownsRow.lt HOX.out j hj.symm).1)
          have hnl3 := NearL.put (w := wc.drew) (w1 := w1) (o := Obj.cells #[.int .i64 (x : Int)] 3) (g1 := g1) (c1 := c1) (x := x) (NearL.below HNL.out (Below.refl _ wc).drew) hym (by simp only [HL2.out]; exact HO1.out) (by rw [HVX.out]; exact HGR.out) (by rw [HVX.out]; exact HAT.out.imp id (fun h => by have h' : g1 = wc.heap.size + 1 := h; show wc.heap.size ≤ g1; omega))
          simp only [HL2.out] at hnl3
          have hnl4 := hnl3.congr (ls' := fun i => nbOf (fes.take (k + 1)) i) (fun i _ => by
            have hxy' : ¬ y = x := by omega
            rw [nbOf_take HGT.out]
            by_cases e1 : i = y
            · subst e1
              rw [if_pos rfl, if_neg (fun h => hxy' h.symm), if_pos rfl]
            · rw [if_neg e1]
              by_cases e2 : i = x
              · subst e2
                rw [if_pos rfl, if_pos rfl]
              · rw [if_neg e2, if_neg (fun h => e2 h.symm), if_neg (fun h => e1 h.symm), List.append_nil])
          go_roundw
          case rel => exact ⟨k + 1, _, by omega, by go_num, hnl4, hB1.setCell (Nat.le_refl _) _⟩
          case measure => simp [numOf]; omega
    · have hke : fes.length = k := by omega
      subst hke
      rw [List.take_length] at hnl
      have hfin : NearL wr w.heap.size Wz.heap.size m vs (fun i => nbOf fes i) := hnl.mono hB0.size
      have hB' := below_next hB0 hBq
      have hge := hB0.size
      clear hnl hBq
      go_wp2
      go_ret
      exact ⟨_, vs, rfl, hge, hfin, hB'⟩
end Go.Proofs.YtdnmoifbkojnlaaGreat

namespace Go.Proofs.YtdnmoifbkojnlaaGreat
open Go.RowKit Go.Maps
attribute [local go_sem ↓] Go.wp_at_zero Go.wp_at_succ

def mxL (ls : Nat → List Nat) : Nat → Nat
  | 0 => 0
  | d + 1 => max (mxL ls d) (ls d).length
theorem mxL_ge (ls : Nat → List Nat) : ∀ m i, i < m → (ls i).length ≤ mxL ls m
  | 0, i, h => absurd h (Nat.not_lt_zero _)
  | m + 1, i, h => by
    unfold mxL
    by_cases e : i = m
    · subst e; omega
    · have := mxL_ge ls m i (by omega)
      omega
theorem mxL_le (ls : Nat → List Nat) {K : Nat} : ∀ m, (∀ i, i < m → (ls i).length ≤ K) → mxL ls m ≤ K
  | 0, _ => Nat.zero_le _
  | m + 1, h => by
    unfold mxL
    have := mxL_le ls m (fun i hi => h i (by omega))
    have := h m (by omega)
    omega
theorem mxL_dgM {q : Nat → Nat → Bool} {ls : Nat → List Nat} {n : Nat} : ∀ m, (∀ i, i < m → (ls i).length = dgr q i n) → mxL ls m = dgM q n m
  | 0, _ => rfl
  | m + 1, h => by
    unfold mxL dgM
    rw [mxL_dgM m (fun i hi => h i (by omega)), h m (by omega)]
    split <;> omega
set_option maxRecDepth 4000 in
set_option maxHeartbeats 1000000 in
theorem most_call {w : World} {base g m : Nat} {vs : Nat → Value} {ls : Nat → List Nat} (h : NearL w base g m vs ls) (hm : m ≤ 100) :
    Calls Tryz.prog 19 #[sl g m] w fun e w' => e = .returned (.int .i64 (mxL ls m : Nat)) ∧ w' = w := by
  have H : Hid (NearL w base g m vs ls) := h
  clear h
  go_enter Tryz.func19, Tryz.ntmps19
  go_wp2
  go_loopw [3, 8] (fun s3 i wr => ∃ d : Nat, d ≤ m ∧ s3 = .int .i64 (mxL ls d : Nat) ∧ i = .int .i64 (d : Int) ∧ wr = w) (fun _ i _ => m - (numOf i).toNat)
  case atStart => exact ⟨0, Nat.zero_le _, rfl, rfl, rfl⟩
  case round =>
    obtain ⟨d, hd, rfl, rfl, hwr⟩ := hrel
    have hwr' := hwr.symm
    clear hwr
    subst hwr'
    by_cases hlt : d < m
    · have i1 : (0 : Int) ≤ (d : Int) := by omega
      have i2 : (d : Int) < (m : Int) := by omega
      obtain ⟨ro, rc, hv⟩ := form_row (H.out.own d hlt)
      have c1 := H.out.row.cell hlt
      rw [hv] at c1
      have e1 : max ((mxL ls d : Nat) : Int) ((ls d).length : Int) = ((mxL ls (d + 1) : Nat) : Int) := by
        show _ = ((max (mxL ls d) (ls d).length : Nat) : Int)
        omega
      obtain ⟨M, hM⟩ : ∃ M, M = mxL ls d := ⟨_, rfl⟩
      obtain ⟨M', hM'⟩ : ∃ M', M' = mxL ls (d + 1) := ⟨_, rfl⟩
      obtain ⟨ln, hln⟩ : ∃ ln, ln = (ls d).length := ⟨_, rfl⟩
      rw [← hM, ← hM', ← hln] at e1
      rw [← hln] at c1
      rw [← hM]
      have HM' : Hid (M' = mxL ls (d + 1)) := hM'
      clear hM hM' hln hv
      go_wp2
      go_roundw
      case rel => exact ⟨d + 1, by omega, by rw [← HM'.out], by go_num, trivial⟩
      case measure => simp [numOf]; omega
    · have i2 : ¬ (d : Int) < (m : Int) := by omega
      have hdm : d = m := by omega
      subst hdm
      go_wp2
      go_ret
      exact ⟨rfl, rfl⟩
end Go.Proofs.YtdnmoifbkojnlaaGreat
