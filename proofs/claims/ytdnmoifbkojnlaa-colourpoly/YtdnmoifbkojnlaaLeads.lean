/- R.Leads: from which node ways of arcs lead to which (Warshall's table). -/
import Derived.BigRegion
import Derived.Test.YtdnmoifbkojnlaaStanA
import Derived.Test.YtdnmoifbkojnlaaNum
namespace Go.Proofs.Ytdnmoifbkojnlaa
open Go.RowKit Go.Maps
attribute [local go_sem ↓] Go.wp_at_zero Go.wp_at_succ

/-- A way leads from a to b through nodes below k. -/
def via (e : Nat → Nat → Bool) : Nat → Nat → Nat → Bool
  | 0, a, b => e a b
  | k + 1, a, b => via e k a b || (via e k a k && via e k k b)
theorem via_up {e : Nat → Nat → Bool} {a b : Nat} (h : e a b = true) : ∀ k, via e k a b = true
  | 0 => h
  | k + 1 => by simp [via, via_up h k]
theorem via_trans {e : Nat → Nat → Bool} : ∀ (k c : Nat), c < k → ∀ a b, via e k a c = true → via e k c b = true → via e k a b = true
  | 0, c, hc, _, _, _, _ => by omega
  | k + 1, c, hc, a, b, h1, h2 => by
    have ih := via_trans (e := e) k
    simp only [via, Bool.or_eq_true, Bool.and_eq_true] at h1 h2 ⊢
    by_cases e1 : c = k
    · subst e1
      have g1 : via e c a c = true := h1.elim id (fun h => h.1)
      have g2 : via e c c b = true := h2.elim id (fun h => h.2)
      exact Or.inr ⟨g1, g2⟩
    · have hk : c < k := by omega
      rcases h1 with h1 | h1
      · rcases h2 with h2 | h2
        · exact Or.inl (ih c hk a b h1 h2)
        · exact Or.inr ⟨ih c hk a k h1 h2.1, h2.2⟩
      · rcases h2 with h2 | h2
        · exact Or.inr ⟨h1.1, ih c hk k b h1.2 h2⟩
        · exact Or.inr ⟨h1.1, h2.2⟩

/-- The table G in round k, in row i, ahead of column j. -/
structure War (N : Nat) (e R G : Nat → Nat → Bool) (k i j : Nat) : Prop where
  sound : ∀ a b, a < N → b < N → G a b = true → R a b = true
  comp : ∀ a b, a < N → b < N → via e k a b = true → G a b = true
  rows : ∀ a b, a < i → a < N → b < N → via e (k + 1) a b = true → G a b = true
  part : ∀ b, b < j → b < N → i < N → via e (k + 1) i b = true → G i b = true

theorem War.start {N : Nat} {e R G : Nat → Nat → Bool} (h : ∀ a b, a < N → b < N → e a b = true → R a b = true) (hg : ∀ a b, a < N → b < N → G a b = e a b) : War N e R G 0 0 0 :=
  ⟨fun a b ha hb hG => h a b ha hb (by rw [← hg a b ha hb]; exact hG), fun a b ha hb hv => by rw [hg a b ha hb]; exact hv, fun a b h => by omega, fun b h => by omega⟩
theorem War.set {N : Nat} {e R G G' : Nat → Nat → Bool} {k i j : Nat} (h : War N e R G k i j) (ht : ∀ i j k, R i j = true → R j k = true → R i k = true) (hk : k < N) (hi : i < N) (hj : j < N)
    (hG : ∀ a b, G' a b = if a = i ∧ b = j then (G i j || (G i k && G k j)) else G a b) : War N e R G' k i (j + 1) := by
  have up : ∀ a b, G a b = true → G' a b = true := fun a b h1 => by
    rw [hG]
    by_cases c : a = i ∧ b = j
    · obtain ⟨rfl, rfl⟩ := c
      simp [h1]
    · rw [if_neg c]; exact h1
  refine ⟨fun a b ha hb h1 => ?_, fun a b ha hb hv => up _ _ (h.comp a b ha hb hv), fun a b h1 ha hb hv => up _ _ (h.rows a b h1 ha hb hv), fun b h1 hb _ hv => ?_⟩
  · rw [hG] at h1
    by_cases c : a = i ∧ b = j
    · rw [if_pos c] at h1
      obtain ⟨rfl, rfl⟩ := c
      simp only [Bool.or_eq_true, Bool.and_eq_true] at h1
      rcases h1 with h1 | h1
      · exact h.sound _ _ ha hb h1
      · exact ht _ _ _ (h.sound _ _ ha hk h1.1) (h.sound _ _ hk hb h1.2)
    · rw [if_neg c] at h1
      exact h.sound _ _ ha hb h1
  · by_cases c : b = j
    · subst c
      rw [hG, if_pos ⟨rfl, rfl⟩]
      simp only [via, Bool.or_eq_true, Bool.and_eq_true] at hv ⊢
      rcases hv with hv | hv
      · exact Or.inl (h.comp _ _ hi hj hv)
      · exact Or.inr ⟨h.comp _ _ hi hk hv.1, h.comp _ _ hk hj hv.2⟩
    · exact up _ _ (h.part b (by omega) hb hi hv)
theorem War.row {N : Nat} {e R G : Nat → Nat → Bool} {k i : Nat} (h : War N e R G k i N) : War N e R G k (i + 1) 0 :=
  ⟨h.sound, h.comp, fun a b h1 ha hb hv => by
    by_cases c : a = i
    · subst c; exact h.part b hb hb ha hv
    · exact h.rows a b (by omega) ha hb hv, fun b h1 => by omega⟩
theorem War.next {N : Nat} {e R G : Nat → Nat → Bool} {k : Nat} (h : War N e R G k N 0) : War N e R G (k + 1) 0 0 :=
  ⟨h.sound, fun a b ha hb hv => h.rows a b ha ha hb hv, fun a b h1 => by omega, fun b h1 => by omega⟩
theorem War.done {N : Nat} {e R G : Nat → Nat → Bool} (h : War N e R G N 0 0) (hd : ∀ a, a < N → e a a = true) {A : List NP} (hA : ∀ x ∈ A, x.1 < N ∧ x.2 < N) (he : ∀ a b, (a, b) ∈ A → e a b = true) (hR : ∀ v x, R v x = true ↔ Rc A v x) {a b : Nat} (ha : a < N) (hb : b < N) : G a b = R a b := by
  rw [Bool.eq_iff_iff]
  refine ⟨h.sound a b ha hb, fun hr => h.comp a b ha hb ?_⟩
  have key : ∀ {y : Nat}, Rc A a y → y < N ∧ via e N a y = true := fun hy => by
    induction hy with
    | refl => exact ⟨ha, via_up (hd a ha) N⟩
    | @step x z _ hm ih => exact ⟨(hA _ hm).2, via_trans N x ih.1 a z ih.2 (via_up (he _ _ hm) N)⟩
  exact (key ((hR a b).1 hr)).2

theorem row_on {W w1 : World} {base : Nat} {t : TypeId} {sz : Nat} {v : Value} {n : Nat} {xs : List Value} (h : W.ownsRow base t sz v n xs) (hb : Below W.heap.size W w1) : w1.ownsRow base t sz v n xs := ownsRow_blocks h fun b hb' => hb.block b (h.lt b hb').2
/-- A table of one's own: rows bs, each of m bools, that tells p. -/
structure Tab (base : Nat) (wr : World) (m : Nat) (v : Value) (bs : List Nat) (p : Nat → Nat → Bool) : Prop where
  own : wr.ownsRow base 57 1 v bs.length (bs.map (rowV m))
  rows : ∀ i (h : i < bs.length), RowB wr bs[i] m (p i)
  nodup : ∀ i j (hi : i < bs.length) (hj : j < bs.length), bs[i] = bs[j] → i = j
  ge : ∀ b ∈ bs, base ≤ b

theorem GI.tab {w wr : World} {m : Nat} {x0 v0 v : Value} {bs : List Nat} {p : Nat → Nat → Bool} (h : GI w wr m x0 v0 v bs p) : Tab w.heap.size wr m v bs p :=
  ⟨ownsRow_mono h.own (by omega), h.rows, h.nodup, fun b hb => by have := h.ge b hb; omega⟩
theorem Tab.below {base : Nat} {wr wr' : World} {m : Nat} {v : Value} {bs : List Nat} {p : Nat → Nat → Bool} (h : Tab base wr m v bs p) (hb : Below wr.heap.size wr wr') : Tab base wr' m v bs p :=
  ⟨row_on h.own hb, fun i hi => (h.rows i hi).block (hb.block _ (h.rows i hi).lt), h.nodup, h.ge⟩
theorem Tab.congr {base : Nat} {wr : World} {m : Nat} {v : Value} {bs : List Nat} {p q : Nat → Nat → Bool} (h : Tab base wr m v bs p) (he : ∀ i j, p i j = q i j) : Tab base wr m v bs q := by
  have : p = q := by funext i j; exact he i j
  rw [← this]; exact h
theorem Tab.put {base : Nat} {wr : World} {m : Nat} {v : Value} {bs : List Nat} {p : Nat → Nat → Bool} (h : Tab base wr m v bs p) {i : Nat} (hi : i < bs.length) (j : Nat) (x : Bool) :
    Tab base (wr.setCell ⟨bs[i], j, none⟩ (.bool x)) m v bs (fun a b => if a = i ∧ b = j then x else p a b) := by
  have q : ∀ k, k ≠ bs[i] → (wr.setCell ⟨bs[i], j, none⟩ (.bool x)).heap[k]? = wr.heap[k]? := fun k hk => Below.heap_setCell _ _ _ _ hk
  refine ⟨?_, ?_, h.nodup, h.ge⟩
  · refine h.own.kept (row := some bs[i]) ⟨rfl, rfl, rfl, by simp [World.setCell], fun k _ hk => q k (fun e => hk (by rw [e]))⟩ (Or.inr ((h.rows i hi).ne h.own))
  · intro a ha
    by_cases e : a = i
    · subst e
      have := (h.rows a ha).put j x
      simpa using this
    · have hne : bs[a] ≠ bs[i] := fun e' => e (h.nodup a i ha hi e')
      have e2 : (fun b => if a = i ∧ b = j then x else p a b) = p a := by funext b; simp [e]
      rw [e2]
      exact (h.rows a ha).block (q _ hne)
theorem Tab.at {base : Nat} {wr : World} {m : Nat} {ao : Option Addr} {n cap : Nat} {bs : List Nat} {p : Nat → Nat → Bool} (h : Tab base wr m (.slice ao n cap) bs p) (h0 : 0 < bs.length) :
    ∃ g, ao = some ⟨g, 0, none⟩ ∧ ∀ i (hi : i < bs.length), wr.cell? ⟨g, i, none⟩ = some (.slice (some ⟨bs[i], 0, none⟩) m m) := by
  rcases h.own.2 with ⟨_, e⟩ | ⟨g, c, cur, e, _⟩
  · omega
  · cases e
    refine ⟨g, rfl, fun i hi => ?_⟩
    have := h.own.cells (g := g) rfl i (rowV m bs[i]) (by simp [hi])
    rw [add_none] at this
    exact this
theorem Tab.grid {base : Nat} {wr : World} {m : Nat} {ao : Option Addr} {n cap : Nat} {bs : List Nat} {p : Int → Int → Bool} (h : Tab base wr m (.slice ao n cap) bs (fun i j => p i j)) (hl : bs.length = m) : GridAt wr (.slice ao m cap) m p := by
  refine ⟨ao, cap, rfl, fun i hi => ?_⟩
  have hb : i < bs.length := by omega
  obtain ⟨g, rfl, hat⟩ := h.at (by omega)
  exact ⟨g, bs[i], rfl, hat i hb, fun j hj => (h.rows i hb).cell hj⟩

set_option maxHeartbeats 1000000 in
theorem gridOf_new (m : Nat) (w : World) (hm : m ≤ 100) :
    Calls Try.prog 11 #[.agg #[.int .i64 m, .slice none 0 0]] w fun e w' => ∃ ao cap bs, e = .returned (.slice ao m cap) ∧ bs.length = m ∧ Tab w.heap.size w' m (.slice ao m cap) bs (fun _ _ => false) ∧ Below w.heap.size w w' := by
  obtain ⟨i0, hi, hz0, hz1, hz2⟩ := info_parts Try.info4
  obtain ⟨i1, hi1, hy0, hy1, hy2⟩ := info_parts Try.info57
  go_enter Try.func11, Try.ntmps11
  go_wp2
  go_loopw [3, 4] (fun t i wr => ∃ bs : List Nat, bs.length ≤ m ∧ i = .int .i64 bs.length ∧ GI w wr m (.int .i64 m) (.slice none 0 0) t bs (fun _ _ => false)) (fun _ i _ => m - (numOf i).toNat)
  case atStart => exact ⟨[], Nat.zero_le _, rfl, heap_alloc_new _ _, World.ownsRow_nil _ _ _ _, fun i h => absurd h (by simp), fun i j h => absurd h (by simp), (fun b h => by cases h), below_alloc (Below.refl _ _) _⟩
  case round =>
    obtain ⟨bs, hk, rfl, hgi⟩ := hrel
    have c0 := (cell_two hgi.b0).1
    obtain ⟨tto, tc, rfl⟩ := form_row hgi.own
    by_cases hlt : bs.length < m
    · go_wp2_with (first | (at_make; refine wpList_make_full _ rfl _ _ 57 rfl (w.heap.size + 1) 4 i0 (.bool false) 1 Try.underlying57 hi hz0 hz1 .i64 .i64 _ _ m rfl rfl rfl rfl ?_ ?_ ?_ ?_; (rw [hz2]; omega); (unfold maxLen; omega); (have := lt_of_block hgi.b0; omega); intro w1 hmade hg1) | (at_builtin; refine wpList_append_own _ rfl _ _ 35 rfl (w.heap.size + 1) 57 i1 (.slice none 0 0) 1 24 Try.underlying35 hi1 hy0 hy1 hy2 rfl (by decide) _ _ _ rfl ((hgi.own.kept hg1 (by cases tto <;> simp [Value.ownBlock])).alloc _) ⟨w1.heap.size, 0, none⟩ 1 1 [rowV m wr.heap.size] rfl rfl ?c1 ?c2 ?c3 ?c4 ?c5 ?_))
      case c1 =>
        intro j x hj
        match j, hj with
        | 0, hj => simp at hj; subst hj; simp [Addr.add, rowV]
      case c2 => first | rfl | (intro x hx; simp at hx; subst hx; rfl)
      case c3 => unfold maxLen; omega
      case c4 => omega
      case c5 => have := lt_of_block hgi.b0; have := hg1.size; simp; omega
      intro v' w3 hown' hgrow _
      have hgi2 := hgi.push (rowB_made hmade) hg1 hown' hgrow
      clear hown' hgrow hmade
      go_wp2
      go_roundw
      case rel => exact ⟨bs ++ [wr.heap.size], by simp; omega, by simp, hgi2⟩
      case measure => simp [numOf]; omega
    · have hbm : m = bs.length := by omega
      subst hbm
      have c1 := (cell_two hgi.b0).2
      go_wp2
      go_loopw [5] (fun i wr => i = .int .i64 0 ∧ GI w wr bs.length (.int .i64 bs.length) (.slice none 0 0) (.slice tto bs.length tc) bs (fun _ _ => false)) (fun _ _ => 0)
      case atStart => exact ⟨rfl, hgi⟩
      case round =>
        obtain ⟨rfl, hgj⟩ := hrel
        clear hgi c0 c1
        have c1 := (cell_two hgj.b0).2
        go_wp2
        go_ret
        exact ⟨tto, tc, bs, rfl, rfl, hgj.tab, hgj.below⟩

def arcB (es : List Pair) (a b : Nat) : Bool := es.any fun e => e.1 == (a : Int) && e.2 == (b : Int)
def ArcIn (n : Int) (e : Pair) : Prop := 0 ≤ e.1 ∧ 0 ≤ e.2 ∧ e.1 < n ∧ e.2 < n
def toN (es : List Pair) : List NP := es.map fun e => (e.1.toNat, e.2.toNat)
theorem arcB_mem {es : List Pair} {a b : Nat} (h : arcB es a b = true) : (a, b) ∈ toN es := by
  unfold arcB at h
  rw [List.any_eq_true] at h
  obtain ⟨⟨p, q⟩, he, h⟩ := h
  simp at h
  exact List.mem_map.2 ⟨(p, q), he, by simp [h.1, h.2]⟩
theorem mem_arcB {n : Nat} {es : List Pair} (hg : ∀ e ∈ es, ArcIn n e) {a b : Nat} (h : (a, b) ∈ toN es) : arcB es a b = true := by
  obtain ⟨⟨p, q⟩, he, h⟩ := List.mem_map.1 h
  obtain ⟨h1, h2, _⟩ := hg _ he
  simp only [Prod.mk.injEq] at h h1 h2
  unfold arcB
  rw [List.any_eq_true]
  exact ⟨(p, q), he, by simp; omega⟩
theorem toN_in {n : Nat} {es : List Pair} (hg : ∀ e ∈ es, ArcIn n e) : ∀ x ∈ toN es, x.1 < n ∧ x.2 < n := fun x hx => by
  obtain ⟨⟨p, q⟩, he, rfl⟩ := List.mem_map.1 hx
  obtain ⟨h1, h2, h3, h4⟩ := hg _ he
  simp only at h1 h2 h3 h4 ⊢
  omega
theorem arcB_take (es : List Pair) (k : Nat) (hk : k < es.length) (a b x y : Nat) (he : es[k] = ((x : Int), (y : Int))) : arcB (es.take (k + 1)) a b = if a = x then (b == y || arcB (es.take k) x b) else arcB (es.take k) a b := by
  have h1 : arcB (es.take (k + 1)) a b = (arcB (es.take k) a b || ((x : Int) == (a : Int) && (y : Int) == (b : Int))) := by
    unfold arcB
    rw [List.take_succ_eq_append_getElem hk, he, List.any_append]
    simp
  have q : ∀ p q : Nat, ((p : Int) == (q : Int)) = (q == p) := fun p q => by rw [Bool.eq_iff_iff]; simp; omega
  rw [h1, q, q]
  by_cases e : a = x
  · subst e
    rw [if_pos rfl]
    cases arcB (es.take k) a b <;> simp
  · have e' : (a == x) = false := by simpa using e
    rw [if_neg e, e']
    simp
def arcE (es : List Pair) (a b : Nat) : Bool := arcB es a b || a == b
def arcD (es : List Pair) (k a b : Nat) : Bool := arcB es a b || (a == b && decide (a < k))

set_option maxHeartbeats 4000000 in
theorem refLeads_call (n : Nat) (ao : Option Addr) (cap : Nat) (es : List Pair) (w : World) (hE : EdgesAt w (.slice ao es.length cap) es) (hn1 : n ≤ 100) (hl : es.length ≤ 1000) (hgood : ∀ e ∈ es, ArcIn n e) {R : Nat → Nat → Bool} (hR : ∀ v x, R v x = true ↔ Rc (toN es) v x) :
    Calls Try.prog 32 #[.int .i64 (n : Int), .slice ao es.length cap] w fun r w' => ∃ tto tc, r = .returned (.slice tto n tc) ∧ GridAt w' (.slice tto n tc) n (fun a b => R a.toNat b.toNat) ∧ Below w.heap.size w w' := by
  have ht : ∀ i j k, R i j = true → R j k = true → R i k = true := fun i j k h1 h2 => (hR i k).2 (((hR i j).1 h1).trans ((hR j k).1 h2))
  have hE0 : ∀ a b, a < n → b < n → arcE es a b = true → R a b = true := fun a b ha hb he => by
    rw [hR]
    simp only [arcE, Bool.or_eq_true, beq_iff_eq] at he
    rcases he with he | he
    · exact Rc.one (arcB_mem he)
    · subst he; exact .refl _
  have HE : Hid _ := hE
  have HGD : Hid _ := hgood
  have HR : Hid _ := hR
  have HRT : Hid _ := ht
  have HE0 : Hid _ := hE0
  clear hE hgood hR ht hE0
  go_enter Try.func32, Try.ntmps32
  go_wp2_with (first
    | (go_at_call 11; refine (gridOf_new n _ hn1).mono ?_; rintro r w1 ⟨tto, tc, bs, rfl, hbl, htab, hB1⟩)
    | go_in)
  go_loopw [6] (fun i wr => ∃ k : Nat, k ≤ es.length ∧ i = .int .i64 (k : Int) ∧ Tab w.heap.size wr n (.slice tto n tc) bs (arcB (es.take k)) ∧ Below w.heap.size w wr) (fun i _ => es.length - (numOf i).toNat)
  case atStart => exact ⟨0, Nat.zero_le _, rfl, htab.congr (fun i j => by simp [arcB]), hB1⟩
  case round =>
    obtain ⟨k, hk, rfl, htb, hB⟩ := hrel
    clear htab hB1
    by_cases hkl : k < es.length
    · obtain ⟨yo, yc, ey, _, _, hcells⟩ := EdgesAt.below HE.out hB
      cases ey
      obtain ⟨b, off, rfl, c1, c2⟩ := hcells k hkl
      obtain ⟨x, y, hxy⟩ : ∃ x y, es[k] = (x, y) := ⟨es[k].1, es[k].2, rfl⟩
      have hin := HGD.out es[k] (List.getElem_mem _)
      rw [hxy] at c1 c2 hin
      have HXY : Hid _ := hxy
      clear hcells hxy
      obtain ⟨x0, y0, x1, y1⟩ := hin
      simp only at x0 y0 x1 y1
      obtain ⟨i, rfl⟩ : ∃ i : Nat, x = i := ⟨x.toNat, by omega⟩
      obtain ⟨j, rfl⟩ : ∃ j : Nat, y = j := ⟨y.toNat, by omega⟩
      have hib : i < bs.length := by omega
      have hjn : j < n := by omega
      obtain ⟨g, rfl, hat⟩ := htb.at (by omega)
      obtain ⟨bi, hbi⟩ : ∃ bi, bi = bs[i] := ⟨_, rfl⟩
      have d1 := hat i hib
      have d2 := (htb.rows i hib).cell hjn
      have e2 := (htb.rows i hib).free j
      have htb2 := htb.put hib j true
      have hge := htb.ge bs[i] (List.getElem_mem _)
      rw [← hbi] at d1 d2 e2 htb2 hge
      have HT2 : Hid _ := htb2
      clear hat htb2 hbi htb
      have j1 : (0 : Int) ≤ (k : Int) := by omega
      have j2 : (k : Int) < (es.length : Int) := by omega
      have i1 : (0 : Int) ≤ (i : Int) := by omega
      have i2 : (i : Int) < (n : Int) := by omega
      have i3 : (0 : Int) ≤ (j : Int) := by omega
      have i4 : (j : Int) < (n : Int) := by omega
      go_upto_region 5 with (fail)
      go_region
      all_goals
        go_wp2
        go_roundw
        case rel =>
          refine ⟨k + 1, by omega, by go_num, (Tab.congr (q := arcB (es.take (k + 1))) HT2.out (fun a c => ?_)).below (Below.refl _ _).drew, (hB.setCell hge _).drew⟩
          rw [arcB_take es k hkl a c i j HXY.out]
          by_cases e : a = i
          · subst e
            by_cases e' : c = j
            · subst e'; simp
            · simp [e']
          · simp [e]
        case measure => simp [numOf]; omega
    · have hke : k = es.length := by omega
      subst hke
      rw [List.take_length] at htb
      go_wp2
      go_loopw [7] (fun i wr => ∃ k : Nat, k ≤ n ∧ i = .int .i64 (k : Int) ∧ Tab w.heap.size wr n (.slice tto n tc) bs (arcD es k) ∧ Below w.heap.size w wr) (fun i _ => n - (numOf i).toNat)
      case atStart => exact ⟨0, Nat.zero_le _, rfl, htb.congr (fun i j => by simp [arcD]), hB⟩
      case round =>
        obtain ⟨k, hk, rfl, htc, hBc⟩ := hrel
        clear htb hB
        by_cases hkn : k < n
        · have hib : k < bs.length := by omega
          obtain ⟨g, rfl, hat⟩ := htc.at (by omega)
          obtain ⟨bi, hbi⟩ : ∃ bi, bi = bs[k] := ⟨_, rfl⟩
          have d1 := hat k hib
          have d2 := (htc.rows k hib).cell hkn
          have e2 := (htc.rows k hib).free k
          have htb2 := htc.put hib k true
          have hge := htc.ge bs[k] (List.getElem_mem _)
          rw [← hbi] at d1 d2 e2 htb2 hge
          have HT2 : Hid _ := htb2
          clear hat htb2 hbi htc
          have i1 : (0 : Int) ≤ (k : Int) := by omega
          have i2 : (k : Int) < (n : Int) := by omega
          go_wp2
          go_roundw
          case rel =>
            refine ⟨k + 1, by omega, by go_num, Tab.congr (q := arcD es (k + 1)) HT2.out (fun a c => ?_), hBc.setCell hge _⟩
            unfold arcD
            by_cases e : a = k ∧ c = k
            · obtain ⟨rfl, rfl⟩ := e; simp
            · rw [if_neg e]
              congr 1
              rw [Bool.eq_iff_iff]
              simp only [Bool.and_eq_true, beq_iff_eq, decide_eq_true_eq]
              omega
          case measure => simp [numOf]; omega
        · have hke : n = k := by omega
          subst hke
          have hwar : War n (arcE es) R (arcD es n) 0 0 0 := War.start HE0.out (fun a b ha _ => by simp [arcD, arcE, ha])
          have HW : Hid _ := hwar
          clear hwar
          go_wp2
          go_loopw [8] (fun i wr => ∃ (k : Nat) (G : Nat → Nat → Bool), k ≤ n ∧ i = .int .i64 (k : Int) ∧ Tab w.heap.size wr n (.slice tto n tc) bs G ∧ Below w.heap.size w wr ∧ War n (arcE es) R G k 0 0) (fun i _ => n - (numOf i).toNat)
          case atStart => exact ⟨0, _, Nat.zero_le _, rfl, htc, hBc, HW.out⟩
          case round =>
            obtain ⟨k, G1, hk1, rfl, ht1, hB1, hw1⟩ := hrel
            have HW1 : Hid _ := hw1
            clear htc hBc HW hw1
            by_cases hkn1 : k < n
            · go_wp2
              go_loopw [9] (fun i wr => ∃ (a : Nat) (G : Nat → Nat → Bool), a ≤ n ∧ i = .int .i64 (a : Int) ∧ Tab w.heap.size wr n (.slice tto n tc) bs G ∧ Below w.heap.size w wr ∧ War n (arcE es) R G k a 0) (fun i _ => n - (numOf i).toNat)
              case atStart => exact ⟨0, _, Nat.zero_le _, rfl, ht1, hB1, HW1.out⟩
              case round =>
                obtain ⟨a, G2, hk2, rfl, ht2, hB2, hw2⟩ := hrel
                have HW2 : Hid _ := hw2
                clear ht1 hB1 HW1 hw2
                by_cases han : a < n
                · go_wp2
                  go_loopw [10] (fun i wr => ∃ (c : Nat) (G : Nat → Nat → Bool), c ≤ n ∧ i = .int .i64 (c : Int) ∧ Tab w.heap.size wr n (.slice tto n tc) bs G ∧ Below w.heap.size w wr ∧ War n (arcE es) R G k a c) (fun i _ => n - (numOf i).toNat)
                  case atStart => exact ⟨0, _, Nat.zero_le _, rfl, ht2, hB2, HW2.out⟩
                  case round =>
                    obtain ⟨c, G, hk3, rfl, ht3, hB3, hw3⟩ := hrel
                    have HW3 : Hid _ := hw3
                    clear ht2 hB2 HW2 hw3
                    by_cases hcn : c < n
                    · have hib : a < bs.length := by omega
                      have hkb : k < bs.length := by omega
                      obtain ⟨g, rfl, hat⟩ := ht3.at (by omega)
                      obtain ⟨bi, hbi⟩ : ∃ bi, bi = bs[a] := ⟨_, rfl⟩
                      obtain ⟨bk, hbk⟩ : ∃ bk, bk = bs[k] := ⟨_, rfl⟩
                      have d1 := hat a hib
                      have d2 := hat k hkb
                      have d3 := (ht3.rows a hib).cell hcn
                      have d4 := (ht3.rows a hib).cell hkn1
                      have d5 := (ht3.rows k hkb).cell hcn
                      have e2 := (ht3.rows a hib).free c
                      have hge := ht3.ge bs[a] (List.getElem_mem _)
                      have hput := fun x => ht3.put hib c x
                      rw [← hbi] at d1 d3 d4 e2 hge
                      simp only [← hbi] at hput
                      rw [← hbk] at d2 d5
                      have HP : Hid _ := hput
                      have hset := fun (x : Bool) (hx : x = (G a c || (G a k && G k c))) => HW3.out.set (G' := fun p q => if p = a ∧ q = c then x else G p q) HRT.out hkn1 han hcn (fun p q => by rw [hx])
                      have HS : Hid _ := hset
                      clear hat hput hset hbi hbk ht3
                      have i1 : (0 : Int) ≤ (a : Int) := by omega
                      have i2 : (a : Int) < (n : Int) := by omega
                      have i3 : (0 : Int) ≤ (c : Int) := by omega
                      have i4 : (c : Int) < (n : Int) := by omega
                      have i5 : (0 : Int) ≤ (k : Int) := by omega
                      have i6 : (k : Int) < (n : Int) := by omega
                      cases h3 : G a c
                      · cases h4 : G a k
                        · have HX : Hid (false = (G a c || (G a k && G k c))) := by rw [h3, h4]; rfl
                          rw [h3] at d3
                          rw [h4] at d4
                          clear h3 h4 d5
                          go_upto_region 19 with (fail)
                          go_region
                          all_goals
                            go_wp2
                            go_roundw
                            case rel => exact ⟨c + 1, _, by omega, by go_num, (HP.out false).below (Below.refl _ _).drew, (hB3.setCell hge _).drew, HS.out false HX.out⟩
                            case measure => simp [numOf]; omega
                        · have HX : Hid (G k c = (G a c || (G a k && G k c))) := by rw [h3, h4]; rfl
                          rw [h3] at d3
                          rw [h4] at d4
                          clear h3 h4
                          go_upto_region 19 with (fail)
                          go_region
                          all_goals
                            go_wp2
                            go_roundw
                            case rel => exact ⟨c + 1, _, by omega, by go_num, (HP.out (G k c)).below (Below.refl _ _).drew, (hB3.setCell hge _).drew, HS.out (G k c) HX.out⟩
                            case measure => simp [numOf]; omega
                      · have HX : Hid (true = (G a c || (G a k && G k c))) := by rw [h3]; rfl
                        rw [h3] at d3
                        clear h3 d4 d5
                        go_upto_region 19 with (fail)
                        go_region
                        all_goals
                          go_wp2
                          go_roundw
                          case rel => exact ⟨c + 1, _, by omega, by go_num, (HP.out true).below (Below.refl _ _).drew, (hB3.setCell hge _).drew, HS.out true HX.out⟩
                          case measure => simp [numOf]; omega
                    · have hce : n = c := by omega
                      subst hce
                      go_wp2
                      go_roundw
                      case rel => exact ⟨a + 1, _, by omega, by go_num, ht3, hB3, HW3.out.row⟩
                      case measure => simp [numOf]; omega
                · have hae : n = a := by omega
                  subst hae
                  go_wp2
                  go_roundw
                  case rel => exact ⟨k + 1, _, by omega, by go_num, ht2, hB2, HW2.out.next⟩
                  case measure => simp [numOf]; omega
            · have hke : n = k := by omega
              subst hke
              go_wp2
              go_ret
              refine ⟨tto, tc, rfl, Tab.grid (base := w.heap.size) (n := n) (bs := bs) ?_ hbl, hB1⟩
              refine ⟨ht1.own, fun i hi => ?_, ht1.nodup, ht1.ge⟩
              obtain ⟨cur, h1, h2, h3⟩ := ht1.rows i hi
              refine ⟨cur, h1, h2, fun j hj => ?_⟩
              rw [h3 j hj]
              have := HW1.out.done (fun a _ => by simp [arcE]) (toN_in HGD.out) (fun a b h => by simp [arcE, mem_arcB HGD.out h]) HR.out (a := i) (b := j) (by omega) hj
              rw [this]
              rfl
end Go.Proofs.Ytdnmoifbkojnlaa
