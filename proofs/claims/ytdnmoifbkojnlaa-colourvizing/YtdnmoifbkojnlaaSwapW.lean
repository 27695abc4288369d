/- Two colours change places along the way from a node. -/
import Derived.Test.YtdnmoifbkojnlaaFanW
import Derived.Test.YtdnmoifbkojnlaaAnyhow
namespace Go.Proofs.Ytdnmoifbkojnlaa
open Go.RowKit Go.Maps
attribute [local go_sem ↓] Go.wp_at_zero Go.wp_at_succ

/- SWAPGEN -/
def upd {α : Type} (f : Nat → α) (i : Nat) (x : α) : Nat → α := fun j => if j = i then x else f j
/-- A frame of which each operation's slot is told. -/
def FJ (A : (Nat → Value) → Act) (V : Nat → Value) (S : (Nat → Bool) → World → Prop) (L : Nat → Bool) (a : Act) (w : World) : Prop := ∃ f, a = A f ∧ (∀ i, L i = true → f i = V i) ∧ S L w
theorem upd_told {V f : Nat → Value} {L : Nat → Bool} {i : Nat} (hf : ∀ j, L j = true → f j = V j) : ∀ j, also L i j = true → upd f i (V i) j = V j := fun j hj => by
  unfold upd
  by_cases e : j = i
  · rw [if_pos e, e]
  · rw [if_neg e]; exact hf j (also_ne hj e)
section
variable {P : Program} {ops : Array Oper} {Q : Exit → Act → World → Prop} {A : (Nat → Value) → Act} {V f : Nat → Value} {S : (Nat → Bool) → World → Prop} {L : Nat → Bool} {w w' : World} {i : Nat} {o : Oper}
theorem fj_quiet (hi : ops[i]? = some o) (hw : Region.wanted o (yielded ops (A f).tmps) = true) (hput : ∀ x, (A f).put o.dst x = A (upd f i x)) (hf : ∀ j, L j = true → f j = V j)
    (hS : S (also L i) w) (hr : (execOp (A f).eval o).run P w = .ok (.value (V i)) w) : wpOp P ops Q i (FJ A V S (also L i)) (A f) w :=
  wpOp_value hi hw hr ⟨_, hput _, upd_told hf, hS⟩
theorem fj_store (hi : ops[i]? = some o) (hw : Region.wanted o (yielded ops (A f).tmps) = true) (hput : ∀ x, (A f).put o.dst x = A (upd f i x)) (hf : ∀ j, L j = true → f j = V j) (hV : V i = undef)
    (hS : S (also L i) w') (hr : (execOp (A f).eval o).run P w = .ok .skip w') : wpOp P ops Q i (FJ A V S (also L i)) (A f) w :=
  wpOp_skip hi hw hr ⟨_, hput _, by rw [← hV]; exact upd_told hf, hS⟩
end
def A51 (h f : Nat → Value) : Act := { tmps := #[h 0, h 1, h 2, h 3, h 4, h 5, h 6, h 7, h 8, h 9, h 10, h 11, h 12, h 13, h 14, h 15, h 16, h 17, h 18, h 19, h 20, h 21, h 22, h 23, h 24, h 25, h 26, h 27, h 28, h 29, h 30, h 31, h 32, h 33, h 34, h 35, h 36, h 37, h 38, h 39, h 40, h 41, h 42, h 43, f 0, f 1, f 2, f 3, f 4, f 5, f 6, f 7, f 8, f 9, f 10, f 11, f 12, f 13, f 14, f 15, f 16, f 17, f 18, f 19, f 20, f 21, f 22, f 23, f 24, f 25, f 26, f 27, f 28, f 29, f 30, f 31, f 32, f 33, f 34, f 35, f 36, f 38, h 82], defers := [] }
def V51 (p t n k a b x' : Nat) (B : Nat → Nat) (ea eb : Int) : Nat → Value
  | 0 => ptr p
  | 1 => ptr p
  | 2 => ptr p
  | 3 => sl t n
  | 4 => .int .i64 (x' : Int)
  | 5 => .pointer (some ⟨t, x', none⟩)
  | 6 => sl (B x') k
  | 7 => .int .i64 (a : Int)
  | 8 => ptr p
  | 9 => ptr p
  | 10 => ptr p
  | 11 => sl t n
  | 12 => .int .i64 (x' : Int)
  | 13 => .pointer (some ⟨t, x', none⟩)
  | 14 => sl (B x') k
  | 15 => .int .i64 (b : Int)
  | 16 => ptr p
  | 17 => ptr p
  | 18 => ptr p
  | 19 => sl t n
  | 20 => .int .i64 (x' : Int)
  | 21 => .pointer (some ⟨t, x', none⟩)
  | 22 => sl (B x') k
  | 23 => .int .i64 (b : Int)
  | 24 => .pointer (some ⟨B x', b, none⟩)
  | 25 => .int .i64 eb
  | 26 => ptr p
  | 27 => ptr p
  | 28 => ptr p
  | 29 => sl t n
  | 30 => .int .i64 (x' : Int)
  | 31 => .pointer (some ⟨t, x', none⟩)
  | 32 => sl (B x') k
  | 33 => .int .i64 (a : Int)
  | 34 => .pointer (some ⟨B x', a, none⟩)
  | 35 => .int .i64 ea
  | 36 => .pointer (some ⟨B x', a, none⟩)
  | 37 => undef
  | 38 => .pointer (some ⟨B x', b, none⟩)
  | 39 => undef
  | _ => undef
/-- Which of the two stores have been done. -/
structure WS (W0 W1 W2 : World) (L : Nat → Bool) (w : World) : Prop where
  a1 : L 37 = true → ∀ j, j ∈ [3, 6, 11, 14, 19, 22, 25, 29, 32, 35] → L j = true
  a2 : L 39 = true → L 37 = true
  w0 : L 37 = false → w = W0
  w1 : L 37 = true → L 39 = false → w = W1
  w2 : L 39 = true → w = W2
section
variable {W0 W1 W2 w : World} {L : Nat → Bool}
theorem WS.early (h : WS W0 W1 W2 L w) {i : Nat} (hL : L i = false) (hi : i ∈ [3, 6, 11, 14, 19, 22, 25, 29, 32, 35]) : w = W0 := by
  cases h7 : L 37 with
  | false => exact h.w0 h7
  | true => have := h.a1 h7 i hi; rw [hL] at this; cases this
theorem also_at {i j : Nat} (h : j ≠ i) : also L i j = L j := by simp [also, h]
theorem WS.quiet (h : WS W0 W1 W2 L w) {i : Nat} (h1 : 37 ≠ i) (h2 : 39 ≠ i) : WS W0 W1 W2 (also L i) w := by
  refine ⟨fun h7 j hj => ?_, fun h9 => ?_, fun h7 => ?_, fun h7 h9 => ?_, fun h9 => ?_⟩
  · rw [also_at h1] at h7; exact also_of (h.a1 h7 j hj) i
  · rw [also_at h2] at h9; rw [also_at h1]; exact h.a2 h9
  · rw [also_at h1] at h7; exact h.w0 h7
  · rw [also_at h1] at h7; rw [also_at h2] at h9; exact h.w1 h7 h9
  · rw [also_at h2] at h9; exact h.w2 h9
theorem WS.one (h : WS W0 W1 W2 L w) (h7 : L 37 = false) (ha : ∀ j, j ∈ [3, 6, 11, 14, 19, 22, 25, 29, 32, 35] → L j = true) : WS W0 W1 W2 (also L 37) W1 := by
  have h9 : L 39 = false := by
    cases e : L 39 with
    | false => rfl
    | true => have := h.a2 e; rw [h7] at this; cases this
  refine ⟨fun _ j hj => also_of (ha j hj) _, fun _ => also_self _ _, fun e => ?_, fun _ _ => rfl, fun e => ?_⟩
  · rw [also_self] at e; cases e
  · rw [also_at (by omega), h9] at e; cases e
theorem WS.two (h : WS W0 W1 W2 L w) (h7 : L 37 = true) : WS W0 W1 W2 (also L 39) W2 := by
  refine ⟨fun _ j hj => also_of (h.a1 h7 j hj) _, fun _ => by rw [also_at (by omega)]; exact h7, fun e => ?_, fun _ e => ?_, fun _ => rfl⟩
  · rw [also_at (by omega), h7] at e; cases e
  · rw [also_self] at e; cases e
end
theorem region_inv_a {P : Program} {ops : Array Oper} {Q : Exit → Act → World → Prop} {id : Nat} {a : Act} {w : World} {J : Act → (Nat → Bool) → Act → World → Prop} (hm : P.follows .mixedOrders = true) (hlow : lowB ops = true)
    (h0 : J a (fun _ => false) a w.drew)
    (hstep : ∀ i o, ops[i]? = some o → ∀ L a' w, J a L a' w → L i = false → (∀ e ∈ o.after, Region.binds .any e = true → L e.on = true) → wpOp P ops Q i (J a (also L i)) a' w)
    (hend : ∀ L a' w, J a L a' w → (∀ i, i < ops.size → L i = true) → Q .normal a' w) : (Code.region id ops true).wp P Q a w := region_inv hm hlow h0 hstep hend

section
variable {w : World} {p t n k : Nat} {B : Nat → Nat} {D : Nat → Nat → Int}
theorem Way.short {a b u : Nat} {L : List Nat} (hD : Dye n k D) (ha : a < k) (hb : b < k) (hf : D u b = -1) (h : Way n D a b u L) : L.length ≤ n := nodup_below L h.2.2.1 (fun _ _ hij hj => way_ne hD ha hb h hf hij hj)
theorem Way.one {a b u : Nat} (hu : u < n) : Way n D a b u [u] := ⟨by simp, rfl, fun i hi => by
  have : i = 0 := by simp at hi; omega
  subst this; exact hu, fun i hi => by simp at hi⟩
theorem alt_next (a b i : Nat) : alt a b (i + 2) = alt a b i := by
  unfold alt
  rw [show (i + 2) % 2 = i % 2 by omega]
/-- The swap's rounds, at the nodes of P and one more. -/
theorem swap_next {a b x : Nat} {P : Nat → Bool} (hx : P x = false) (y c : Nat) :
    (if y = x then (if c = b then swD D P a b x a else (if c = a then swD D P a b x b else swD D P a b y c)) else swD D P a b y c) = swD D (fun z => z == x || P z) a b y c := by
  have e0 : ∀ d, swD D P a b x d = D x d := fun d => swD_out hx
  by_cases e : y = x
  · subst e
    rw [if_pos rfl]
    simp only [e0]
    rw [swD_in (by simp)]
    unfold sw
    by_cases h1 : c = b
    · rw [if_pos h1]
      by_cases h2 : c = a
      · rw [if_pos h2, ← h1, h2]
      · rw [if_neg h2, if_pos h1]
    · rw [if_neg h1]
      by_cases h2 : c = a
      · rw [if_pos h2, if_pos h2]
      · rw [if_neg h2, if_neg h2, if_neg h1]
  · rw [if_neg e]
    cases hp : P y with
    | true => rw [swD_in hp, swD_in (by simp [hp])]
    | false => rw [swD_out hp, swD_out (by simp [hp, e])]
def WaySt (n : Nat) (D : Nat → Nat → Int) (a b u : Nat) (L : List Nat) (x c d : Nat) : Prop := Way n D a b u L ∧ x = L.getD (L.length - 1) 0 ∧ c = alt a b (L.length - 1) ∧ d = alt a b L.length
theorem WaySt.next {a b u x c d z : Nat} {L : List Nat} (hD : Dye n k D) (ha : a < k) (hb : b < k) (h : WaySt n D a b u L x c d) (hz : D x c = (z : Int)) : WaySt n D a b u (L ++ [z]) z d c := by
  obtain ⟨h1, rfl, rfl, rfl⟩ := h
  have hp := h1.1
  refine ⟨Way.snoc hD ha hb h1 hz, ?_, ?_, ?_⟩
  · rw [List.length_append, List.length_singleton, Nat.add_sub_cancel, getD_last]
  · rw [List.length_append, List.length_singleton, Nat.add_sub_cancel]
  · rw [List.length_append, List.length_singleton, show L.length + 1 = L.length - 1 + 2 by omega, alt_next]
/-- What the swap leaves. -/
def SwapEnd (_w : World) (n k p t a b u : Nat) (B : Nat → Nat) (D : Nat → Nat → Int) (w' : World) : Prop := ∃ L, Way n D a b u L ∧ D (L.getD (L.length - 1) 0) (alt a b (L.length - 1)) = -1 ∧ DyeAt w' p t n k B (swD D (fun x => L.contains x) a b)
set_option maxRecDepth 4000 in
set_option maxHeartbeats 4000000 in
theorem swap_call (h : DyeAt w p t n k B D) (hD : Dye n k D) (hn : n ≤ 1000) {u a b : Nat} (hu : u < n) (ha : a < k) (hb : b < k) (hfb : D u b = -1) :
    Calls Try.prog 51 #[ptr p, .int .i64 (u : Int), .int .i64 (a : Int), .int .i64 (b : Int)] w fun e w' => e = .returned (.tuple #[]) ∧ SwapEnd w n k p t a b u B D w' ∧ Turns (rowsOf n B) w w' := by
  have HD : Hid (Dye n k D) := hD
  have HW : Hid (DyeAt w p t n k B D) := h
  have HFB : Hid (D u b = -1) := hfb
  have hrl : ∀ v, v < n → B v < w.heap.size := fun v hv => (h.row v hv).lt
  clear h hD hfb
  go_enter Try.func51, Try.ntmps51
  go_upto_region 1 with (fail)
  have hB0 := below_alloc (Below.refl _ w) (Obj.cells #[.int .i64 (u : Int)] 3)
  have ho0 : (w.alloc (Obj.cells #[.int .i64 (u : Int)] 3)).ownsRow w.heap.size 3 1 (.slice (some ⟨w.heap.size, 0, none⟩) [u].length 1) [u].length (qv [u]) := ownsRow_one w w.heap.size (.int .i64 (u : Int)) 3 (Nat.le_refl _)
  generalize w.alloc (Obj.cells #[.int .i64 (u : Int)] 3) = W0 at hB0 ho0 ⊢
  go_wp2
  go_loopw [1, 8, 9, 10] (fun s1 s8 s9 s10 wr => ∃ L po pc x c d, s1 = .int .i64 (x : Nat) ∧ s8 = .slice po L.length pc ∧ s9 = .int .i64 (c : Nat) ∧ s10 = .int .i64 (d : Nat) ∧ wr.ownsRow w.heap.size 3 1 (.slice po L.length pc) L.length (qv L) ∧ WaySt n D a b u L x c d ∧ Below w.heap.size w wr) (fun _ s8 _ _ _ => n - lenOf s8)
  case atStart => exact ⟨[u], some ⟨w.heap.size, 0, none⟩, 1, u, a, b, rfl, rfl, rfl, rfl, ho0, ⟨Way.one hu, rfl, rfl, rfl⟩, hB0⟩
  case round =>
    clear ho0 hB0
    obtain ⟨L, po, pc, x, c, d, rfl, rfl, rfl, rfl, hown, hst, hB⟩ := hrel
    have hxn : x < n := by
      rw [hst.2.1]; exact hst.1.2.2.1 _ (by have := hst.1.1; omega)
    have hck : c < k := by rw [hst.2.2.1]; exact alt_lt ha hb
    have h54 := isFree_call (HW.out.below hB) hxn hck
    have HST : Hid (WaySt n D a b u L x c d) := hst
    have HOWN : Hid (wr.ownsRow w.heap.size 3 1 (.slice po L.length pc) L.length (qv L)) := hown
    have hsz := hB.size
    have hLn : L.length ≤ n := hst.1.short HD.out ha hb HFB.out
    clear hst hown
    rcases HD.out.val x c hxn hck with he | ⟨z, hz, he, _, _⟩
    · have hfr : (D x c == -1) = true := by rw [he]; rfl
      rw [hfr] at h54
      have H54 : Hid (Calls Try.prog 54 #[ptr p, .int .i64 (x : Int), .int .i64 (c : Int)] wr fun e w' => e = .returned (.bool true) ∧ w' = wr) := h54
      have HE : Hid (D x c = -1) := he
      clear h54 he hfr
      go_wp2_with (first | (go_at_call 54; refine Calls.mono H54.out ?_; rintro e Wa ⟨rfl, rfl⟩) | go_in)
      clear H54
      go_loopw [40] (fun i wq => ∃ j : Nat, j ≤ L.length ∧ i = .int .i64 (j : Int) ∧ DyeAt wq p t n k B (swD D (fun x => (L.take j).contains x) a b) ∧ Turns (rowsOf n B) Wa wq) (fun i _ => L.length - (numOf i).toNat)
      case atStart => exact ⟨0, Nat.zero_le _, rfl, (HW.out.below hB).congr (fun v c _ _ => by rw [swD_out (by simp)]), Turns.refl _ _⟩
      case round =>
        obtain ⟨j, hj, rfl, hdw, ht⟩ := hrel
        by_cases hlt : j < L.length
        · obtain ⟨x', hx'⟩ : ∃ x', x' = L.getD j 0 := ⟨_, rfl⟩
          have hxn' : x' < n := by rw [hx']; exact HST.out.1.2.2.1 j hlt
          have hget : L[j]? = some x' := by rw [hx', getD_lt hlt, List.getElem?_eq_getElem hlt]
          obtain ⟨g, rfl, cg⟩ := qcell HOWN.out hget
          have hgl := (HOWN.out.lt g rfl).1
          have cg1 : wr.cell? ⟨g, j, none⟩ = some (.int .i64 (x' : Int)) := cell_turns cg ht (by
            rintro ⟨v, hv, e⟩
            have := hrl v hv
            have e' : g = B v := e
            omega)
          have hPx : (L.take j).contains x' = false := by
            rw [List.contains_eq_mem, decide_eq_false_iff_not]
            intro hm
            obtain ⟨i, hi, e⟩ := mem_getD hm
            rw [List.length_take] at hi
            have hi' : i < j := by omega
            have : (L.take j).getD i 0 = L.getD i 0 := by simp only [List.getD, List.getElem?_take, if_pos hi']
            rw [this, hx'] at e
            exact way_ne HD.out ha hb HST.out.1 HFB.out hi' hlt e
          have hPn : ∀ z, (L.take (j + 1)).contains z = (z == x' || (L.take j).contains z) := fun z => by
            rw [List.take_succ_eq_append_getElem hlt, Bool.eq_iff_iff]
            have : L[j] = x' := by rw [hx', getD_lt hlt]
            simp [this, or_comm]
          obtain ⟨P, hP⟩ : ∃ P : Nat → Bool, P = fun z => (L.take j).contains z := ⟨_, rfl⟩
          have hPx' : P x' = false := by rw [hP]; exact hPx
          have HPN : Hid (∀ y c, swD D (fun z => z == x' || P z) a b y c = swD D (fun z => (L.take (j + 1)).contains z) a b y c) := fun y c => by
            have : (fun z => z == x' || P z) = fun z => (L.take (j + 1)).contains z := by
              funext z; rw [hPn z, hP]
            rw [this]
          rw [← hP] at hdw
          obtain ⟨c1, c2, c3⟩ := hdw.cells hxn' ha
          obtain ⟨_, _, c4⟩ := hdw.cells hxn' hb
          obtain ⟨ea, hea⟩ : ∃ ea, ea = swD D P a b x' a := ⟨_, rfl⟩
          obtain ⟨eb, heb⟩ : ∃ eb, eb = swD D P a b x' b := ⟨_, rfl⟩
          rw [← hea] at c3
          rw [← heb] at c4
          have HEA : Hid (ea = swD D P a b x' a) := hea
          have HEB : Hid (eb = swD D P a b x' b) := heb
          have HDW : Hid (DyeAt wr p t n k B (swD D P a b)) := hdw
          have f1 := (hdw.row x' hxn').free a
          have f2 := ((hdw.set hxn' a eb).row x' hxn').free b
          have e2 : ∃ ev, (wr.setCell ⟨B x', a, none⟩ (.int .i64 eb)).cell? ⟨B x', b, none⟩ = some ev := ⟨_, ((hdw.set hxn' a eb).cells hxn' hb).2.2⟩
          obtain ⟨ev, e2⟩ := e2
          have i1 : (0 : Int) ≤ (j : Int) := by omega
          have i2 : (j : Int) < (L.length : Int) := by omega
          have i3 : (0 : Int) ≤ (x' : Int) := by omega
          have i4 : (x' : Int) < (n : Int) := by omega
          have i5 : (0 : Int) ≤ (a : Int) := by omega
          have i6 : (a : Int) < (k : Int) := by omega
          have i7 : (0 : Int) ≤ (b : Int) := by omega
          have i8 : (b : Int) < (k : Int) := by omega
          have HPX : Hid (P x' = false) := hPx'
          clear hea heb hdw hP hPx hPn hPx' cg hget hx'
          go_upto_region 9 with (fail)
          obtain ⟨Wd, hWd⟩ : ∃ Wd, Wd = wr.drew := ⟨_, rfl⟩
          have hdwd : DyeAt Wd p t n k B (swD D P a b) := by rw [hWd]; exact HDW.out.below (Below.refl _ _).drew
          have htd : Turns (rowsOf n B) Wa Wd := by rw [hWd]; exact ht.trans (Turns.of_below (Below.refl _ _).drew _)
          have HDD : Hid (DyeAt Wd p t n k B (swD D P a b)) := hdwd
          obtain ⟨W1, hW1⟩ : ∃ W1, W1 = Wd.setCell ⟨B x', a, none⟩ (.int .i64 eb) := ⟨_, rfl⟩
          obtain ⟨W2, hW2⟩ : ∃ W2, W2 = W1.setCell ⟨B x', b, none⟩ (.int .i64 ea) := ⟨_, rfl⟩
          have HR2 : Hid (DyeAt W2 p t n k B (fun y d => if y = x' then (if d = b then ea else (if y = x' then (if d = a then eb else swD D P a b y d) else swD D P a b y d)) else (if y = x' then (if d = a then eb else swD D P a b y d) else swD D P a b y d))) := by
            rw [hW2, hW1]; exact (hdwd.set hxn' a eb).set hxn' b ea
          have HT2 : Hid (Turns (rowsOf n B) Wa W2) := by
            rw [hW2, hW1]; exact htd.trans ((set_turns hxn' a _).trans (set_turns hxn' b _))
          clear c1 c2 c3 c4 f1 f2 e2
          obtain ⟨c1, c2, c3⟩ := hdwd.cells hxn' ha
          obtain ⟨_, _, c4⟩ := hdwd.cells hxn' hb
          rw [← HEA.out] at c3
          rw [← HEB.out] at c4
          have f1 := (hdwd.row x' hxn').free a
          have f2 : W1.frozen? ⟨B x', b, none⟩ = false := by rw [hW1]; exact ((hdwd.set hxn' a eb).row x' hxn').free b
          have e2 : ∃ ev, W1.cell? ⟨B x', b, none⟩ = some ev := by rw [hW1]; exact ⟨_, ((hdwd.set hxn' a eb).cells hxn' hb).2.2⟩
          obtain ⟨ev, e2⟩ := e2
          have HRX : Hid (DyeAt W2 p t n k B (swD D (fun x => (L.take (j + 1)).contains x) a b)) := HR2.out.congr (fun y d _ _ => by
            rw [← HPN.out, ← swap_next HPX.out, HEA.out, HEB.out]
            by_cases e1 : y = x'
            · subst e1
              simp only [if_true]
            · simp only [if_neg e1])
          have HWD : Hid (Wd = wr.drew) := hWd
          have HW1 : Hid (W1 = Wd.setCell ⟨B x', a, none⟩ (.int .i64 eb)) := hW1
          have HW2 : Hid (W2 = W1.setCell ⟨B x', b, none⟩ (.int .i64 ea)) := hW2
          clear hdwd htd ht HDW hWd hW1 hW2 HR2
          refine region_inv_a (J := fun a0 => FJ (A51 (fun s => a0.tmps.getD s undef)) (V51 p t n k a b x' B ea eb) (WS Wd W1 W2)) (by kernel_rfl) (by kernel_rfl) ?_ ?_ ?_
          · exact ⟨fun i => if i = 38 then u81 else #[u44, u45, u46, u47, u48, u49, u50, u51, u52, u53, u54, u55, u56, u57, u58, u59, u60, u61, u62, u63, u64, u65, u66, u67, u68, u69, u70, u71, u72, u73, u74, u75, u76, u77, u78, u79, u80].getD i undef, rfl, fun j hj => Bool.noConfusion hj, fun h => Bool.noConfusion h, fun h => Bool.noConfusion h, fun _ => HWD.out.symm, fun h => Bool.noConfusion h, fun h => Bool.noConfusion h⟩
          · intro i o hi M a' w1 hJ hLi hd
            obtain ⟨f, rfl, hf, hws⟩ := hJ
            match i, hi with
            | 0, hi =>
              cases hi
              refine fj_quiet rfl rfl (fun x => rfl) hf (hws.quiet (by omega) (by omega)) ?_
              simp [go_sem, A51, V51, Act.eval]
            | 1, hi =>
              cases hi
              have d0 : f 0 = V51 p t n k a b x' B ea eb 0 := hf 0 (hd ⟨0, .data⟩ (by simp) rfl)
              refine fj_quiet rfl rfl (fun x => rfl) hf (hws.quiet (by omega) (by omega)) ?_
              simp [go_sem, A51, V51, Act.eval, d0]
            | 2, hi =>
              cases hi
              have d1 : f 1 = V51 p t n k a b x' B ea eb 1 := hf 1 (hd ⟨1, .data⟩ (by simp) rfl)
              refine fj_quiet rfl rfl (fun x => rfl) hf (hws.quiet (by omega) (by omega)) ?_
              simp [go_sem, A51, V51, Act.eval, d1]
            | 3, hi =>
              cases hi
              have d2 : f 2 = V51 p t n k a b x' B ea eb 2 := hf 2 (hd ⟨2, .data⟩ (by simp) rfl)
              have hw := hws.early hLi (by simp)
              subst hw
              refine fj_quiet rfl rfl (fun x => rfl) hf (hws.quiet (by omega) (by omega)) ?_
              simp [go_sem, A51, V51, Act.eval, c1, d2]
            | 4, hi =>
              cases hi
              refine fj_quiet rfl rfl (fun x => rfl) hf (hws.quiet (by omega) (by omega)) ?_
              simp [go_sem, A51, V51, Act.eval]
            | 5, hi =>
              cases hi
              have d3 : f 3 = V51 p t n k a b x' B ea eb 3 := hf 3 (hd ⟨3, .data⟩ (by simp) rfl)
              have d4 : f 4 = V51 p t n k a b x' B ea eb 4 := hf 4 (hd ⟨4, .data⟩ (by simp) rfl)
              refine fj_quiet rfl rfl (fun x => rfl) hf (hws.quiet (by omega) (by omega)) ?_
              simp [go_sem, A51, V51, Act.eval, i3, i4, d3, d4]
            | 6, hi =>
              cases hi
              have d5 : f 5 = V51 p t n k a b x' B ea eb 5 := hf 5 (hd ⟨5, .data⟩ (by simp) rfl)
              have hw := hws.early hLi (by simp)
              subst hw
              refine fj_quiet rfl rfl (fun x => rfl) hf (hws.quiet (by omega) (by omega)) ?_
              simp [go_sem, A51, V51, Act.eval, c2, d5]
            | 7, hi =>
              cases hi
              refine fj_quiet rfl rfl (fun x => rfl) hf (hws.quiet (by omega) (by omega)) ?_
              simp [go_sem, A51, V51, Act.eval]
            | 8, hi =>
              cases hi
              refine fj_quiet rfl rfl (fun x => rfl) hf (hws.quiet (by omega) (by omega)) ?_
              simp [go_sem, A51, V51, Act.eval]
            | 9, hi =>
              cases hi
              have d8 : f 8 = V51 p t n k a b x' B ea eb 8 := hf 8 (hd ⟨8, .data⟩ (by simp) rfl)
              refine fj_quiet rfl rfl (fun x => rfl) hf (hws.quiet (by omega) (by omega)) ?_
              simp [go_sem, A51, V51, Act.eval, d8]
            | 10, hi =>
              cases hi
              have d9 : f 9 = V51 p t n k a b x' B ea eb 9 := hf 9 (hd ⟨9, .data⟩ (by simp) rfl)
              refine fj_quiet rfl rfl (fun x => rfl) hf (hws.quiet (by omega) (by omega)) ?_
              simp [go_sem, A51, V51, Act.eval, d9]
            | 11, hi =>
              cases hi
              have d10 : f 10 = V51 p t n k a b x' B ea eb 10 := hf 10 (hd ⟨10, .data⟩ (by simp) rfl)
              have hw := hws.early hLi (by simp)
              subst hw
              refine fj_quiet rfl rfl (fun x => rfl) hf (hws.quiet (by omega) (by omega)) ?_
              simp [go_sem, A51, V51, Act.eval, c1, d10]
            | 12, hi =>
              cases hi
              refine fj_quiet rfl rfl (fun x => rfl) hf (hws.quiet (by omega) (by omega)) ?_
              simp [go_sem, A51, V51, Act.eval]
            | 13, hi =>
              cases hi
              have d11 : f 11 = V51 p t n k a b x' B ea eb 11 := hf 11 (hd ⟨11, .data⟩ (by simp) rfl)
              have d12 : f 12 = V51 p t n k a b x' B ea eb 12 := hf 12 (hd ⟨12, .data⟩ (by simp) rfl)
              refine fj_quiet rfl rfl (fun x => rfl) hf (hws.quiet (by omega) (by omega)) ?_
              simp [go_sem, A51, V51, Act.eval, i3, i4, d11, d12]
            | 14, hi =>
              cases hi
              have d13 : f 13 = V51 p t n k a b x' B ea eb 13 := hf 13 (hd ⟨13, .data⟩ (by simp) rfl)
              have hw := hws.early hLi (by simp)
              subst hw
              refine fj_quiet rfl rfl (fun x => rfl) hf (hws.quiet (by omega) (by omega)) ?_
              simp [go_sem, A51, V51, Act.eval, c2, d13]
            | 15, hi =>
              cases hi
              refine fj_quiet rfl rfl (fun x => rfl) hf (hws.quiet (by omega) (by omega)) ?_
              simp [go_sem, A51, V51, Act.eval]
            | 16, hi =>
              cases hi
              refine fj_quiet rfl rfl (fun x => rfl) hf (hws.quiet (by omega) (by omega)) ?_
              simp [go_sem, A51, V51, Act.eval]
            | 17, hi =>
              cases hi
              have d16 : f 16 = V51 p t n k a b x' B ea eb 16 := hf 16 (hd ⟨16, .data⟩ (by simp) rfl)
              refine fj_quiet rfl rfl (fun x => rfl) hf (hws.quiet (by omega) (by omega)) ?_
              simp [go_sem, A51, V51, Act.eval, d16]
            | 18, hi =>
              cases hi
              have d17 : f 17 = V51 p t n k a b x' B ea eb 17 := hf 17 (hd ⟨17, .data⟩ (by simp) rfl)
              refine fj_quiet rfl rfl (fun x => rfl) hf (hws.quiet (by omega) (by omega)) ?_
              simp [go_sem, A51, V51, Act.eval, d17]
            | 19, hi =>
              cases hi
              have d18 : f 18 = V51 p t n k a b x' B ea eb 18 := hf 18 (hd ⟨18, .data⟩ (by simp) rfl)
              have hw := hws.early hLi (by simp)
              subst hw
              refine fj_quiet rfl rfl (fun x => rfl) hf (hws.quiet (by omega) (by omega)) ?_
              simp [go_sem, A51, V51, Act.eval, c1, d18]
            | 20, hi =>
              cases hi
              refine fj_quiet rfl rfl (fun x => rfl) hf (hws.quiet (by omega) (by omega)) ?_
              simp [go_sem, A51, V51, Act.eval]
            | 21, hi =>
              cases hi
              have d19 : f 19 = V51 p t n k a b x' B ea eb 19 := hf 19 (hd ⟨19, .data⟩ (by simp) rfl)
              have d20 : f 20 = V51 p t n k a b x' B ea eb 20 := hf 20 (hd ⟨20, .data⟩ (by simp) rfl)
              refine fj_quiet rfl rfl (fun x => rfl) hf (hws.quiet (by omega) (by omega)) ?_
              simp [go_sem, A51, V51, Act.eval, i3, i4, d19, d20]
            | 22, hi =>
              cases hi
              have d21 : f 21 = V51 p t n k a b x' B ea eb 21 := hf 21 (hd ⟨21, .data⟩ (by simp) rfl)
              have hw := hws.early hLi (by simp)
              subst hw
              refine fj_quiet rfl rfl (fun x => rfl) hf (hws.quiet (by omega) (by omega)) ?_
              simp [go_sem, A51, V51, Act.eval, c2, d21]
            | 23, hi =>
              cases hi
              refine fj_quiet rfl rfl (fun x => rfl) hf (hws.quiet (by omega) (by omega)) ?_
              simp [go_sem, A51, V51, Act.eval]
            | 24, hi =>
              cases hi
              have d22 : f 22 = V51 p t n k a b x' B ea eb 22 := hf 22 (hd ⟨22, .data⟩ (by simp) rfl)
              have d23 : f 23 = V51 p t n k a b x' B ea eb 23 := hf 23 (hd ⟨23, .data⟩ (by simp) rfl)
              refine fj_quiet rfl rfl (fun x => rfl) hf (hws.quiet (by omega) (by omega)) ?_
              simp [go_sem, A51, V51, Act.eval, i7, i8, d22, d23]
            | 25, hi =>
              cases hi
              have d24 : f 24 = V51 p t n k a b x' B ea eb 24 := hf 24 (hd ⟨24, .data⟩ (by simp) rfl)
              have hw := hws.early hLi (by simp)
              subst hw
              refine fj_quiet rfl rfl (fun x => rfl) hf (hws.quiet (by omega) (by omega)) ?_
              simp [go_sem, A51, V51, Act.eval, c4, d24]
            | 26, hi =>
              cases hi
              refine fj_quiet rfl rfl (fun x => rfl) hf (hws.quiet (by omega) (by omega)) ?_
              simp [go_sem, A51, V51, Act.eval]
            | 27, hi =>
              cases hi
              have d26 : f 26 = V51 p t n k a b x' B ea eb 26 := hf 26 (hd ⟨26, .data⟩ (by simp) rfl)
              refine fj_quiet rfl rfl (fun x => rfl) hf (hws.quiet (by omega) (by omega)) ?_
              simp [go_sem, A51, V51, Act.eval, d26]
            | 28, hi =>
              cases hi
              have d27 : f 27 = V51 p t n k a b x' B ea eb 27 := hf 27 (hd ⟨27, .data⟩ (by simp) rfl)
              refine fj_quiet rfl rfl (fun x => rfl) hf (hws.quiet (by omega) (by omega)) ?_
              simp [go_sem, A51, V51, Act.eval, d27]
            | 29, hi =>
              cases hi
              have d28 : f 28 = V51 p t n k a b x' B ea eb 28 := hf 28 (hd ⟨28, .data⟩ (by simp) rfl)
              have hw := hws.early hLi (by simp)
              subst hw
              refine fj_quiet rfl rfl (fun x => rfl) hf (hws.quiet (by omega) (by omega)) ?_
              simp [go_sem, A51, V51, Act.eval, c1, d28]
            | 30, hi =>
              cases hi
              refine fj_quiet rfl rfl (fun x => rfl) hf (hws.quiet (by omega) (by omega)) ?_
              simp [go_sem, A51, V51, Act.eval]
            | 31, hi =>
              cases hi
              have d29 : f 29 = V51 p t n k a b x' B ea eb 29 := hf 29 (hd ⟨29, .data⟩ (by simp) rfl)
              have d30 : f 30 = V51 p t n k a b x' B ea eb 30 := hf 30 (hd ⟨30, .data⟩ (by simp) rfl)
              refine fj_quiet rfl rfl (fun x => rfl) hf (hws.quiet (by omega) (by omega)) ?_
              simp [go_sem, A51, V51, Act.eval, i3, i4, d29, d30]
            | 32, hi =>
              cases hi
              have d31 : f 31 = V51 p t n k a b x' B ea eb 31 := hf 31 (hd ⟨31, .data⟩ (by simp) rfl)
              have hw := hws.early hLi (by simp)
              subst hw
              refine fj_quiet rfl rfl (fun x => rfl) hf (hws.quiet (by omega) (by omega)) ?_
              simp [go_sem, A51, V51, Act.eval, c2, d31]
            | 33, hi =>
              cases hi
              refine fj_quiet rfl rfl (fun x => rfl) hf (hws.quiet (by omega) (by omega)) ?_
              simp [go_sem, A51, V51, Act.eval]
            | 34, hi =>
              cases hi
              have d32 : f 32 = V51 p t n k a b x' B ea eb 32 := hf 32 (hd ⟨32, .data⟩ (by simp) rfl)
              have d33 : f 33 = V51 p t n k a b x' B ea eb 33 := hf 33 (hd ⟨33, .data⟩ (by simp) rfl)
              refine fj_quiet rfl rfl (fun x => rfl) hf (hws.quiet (by omega) (by omega)) ?_
              simp [go_sem, A51, V51, Act.eval, i5, i6, d32, d33]
            | 35, hi =>
              cases hi
              have d34 : f 34 = V51 p t n k a b x' B ea eb 34 := hf 34 (hd ⟨34, .data⟩ (by simp) rfl)
              have hw := hws.early hLi (by simp)
              subst hw
              refine fj_quiet rfl rfl (fun x => rfl) hf (hws.quiet (by omega) (by omega)) ?_
              simp [go_sem, A51, V51, Act.eval, c3, d34]
            | 36, hi =>
              cases hi
              have d6 : f 6 = V51 p t n k a b x' B ea eb 6 := hf 6 (hd ⟨6, .data⟩ (by simp) rfl)
              have d7 : f 7 = V51 p t n k a b x' B ea eb 7 := hf 7 (hd ⟨7, .data⟩ (by simp) rfl)
              refine fj_quiet rfl rfl (fun x => rfl) hf (hws.quiet (by omega) (by omega)) ?_
              simp [go_sem, A51, V51, Act.eval, i5, i6, d6, d7]
            | 37, hi =>
              cases hi
              have d36 : f 36 = V51 p t n k a b x' B ea eb 36 := hf 36 (hd ⟨36, .data⟩ (by simp) rfl)
              have d25 : f 25 = V51 p t n k a b x' B ea eb 25 := hf 25 (hd ⟨25, .data⟩ (by simp) rfl)
              have hw := hws.w0 hLi
              subst hw
              refine fj_store rfl rfl (fun x => rfl) hf rfl (w' := W1) (hws.one hLi (fun j hj => by
                simp only [List.mem_cons, List.not_mem_nil, or_false] at hj
                rcases hj with rfl | rfl | rfl | rfl | rfl | rfl | rfl | rfl | rfl | rfl
                all_goals exact hd ⟨_, .phase⟩ (by simp) rfl)) ?_
              rw [HW1.out]
              simp [go_sem, A51, V51, Act.eval, c3, f1, d36, d25]
            | 38, hi =>
              cases hi
              have d14 : f 14 = V51 p t n k a b x' B ea eb 14 := hf 14 (hd ⟨14, .data⟩ (by simp) rfl)
              have d15 : f 15 = V51 p t n k a b x' B ea eb 15 := hf 15 (hd ⟨15, .data⟩ (by simp) rfl)
              refine fj_quiet rfl rfl (fun x => rfl) hf (hws.quiet (by omega) (by omega)) ?_
              simp [go_sem, A51, V51, Act.eval, i7, i8, d14, d15]
            | 39, hi =>
              cases hi
              have d38 : f 38 = V51 p t n k a b x' B ea eb 38 := hf 38 (hd ⟨38, .data⟩ (by simp) rfl)
              have d35 : f 35 = V51 p t n k a b x' B ea eb 35 := hf 35 (hd ⟨35, .data⟩ (by simp) rfl)
              have l37 := hd ⟨37, .chain⟩ (by simp) rfl
              have hw := hws.w1 l37 hLi
              subst hw
              refine fj_store rfl rfl (fun x => rfl) hf rfl (w' := W2) (hws.two l37) ?_
              rw [HW2.out]
              simp [go_sem, A51, V51, Act.eval, e2, f2, d38, d35]
            | _ + 40, hi => simp at hi
          · intro M a' w1 hJ hL
            obtain ⟨f, rfl, hf, hws⟩ := hJ
            have hw := hws.w2 (hL 39 (by simp))
            subst hw
            unfold A51
            simp only [Array.getD_eq_getD_getElem?, List.getElem?_toArray, List.getElem?_cons_zero, List.getElem?_cons_succ, Option.getD_some]
            go_wp2
            go_roundw
            case rel =>
              exact ⟨j + 1, by omega, by go_num, HRX.out, HT2.out⟩
            case measure => simp [numOf]; omega
        · have i2 : ¬ (j : Int) < (L.length : Int) := by omega
          have hjl : j = L.length := by omega
          subst hjl
          rw [List.take_length] at hdw
          have hfin : SwapEnd w n k p t a b u B D wr := ⟨L, HST.out.1, by rw [← HST.out.2.1, ← HST.out.2.2.1]; exact HE.out, hdw⟩
          clear hdw
          go_wp2
          go_end0
          exact ⟨rfl, hfin, (Turns.of_below hB _).trans ht⟩
    · have hfr : (D x c == -1) = false := by rw [he, beq_eq_false_iff_ne]; omega
      rw [hfr] at h54
      have H54 : Hid (Calls Try.prog 54 #[ptr p, .int .i64 (x : Int), .int .i64 (c : Int)] wr fun e w' => e = .returned (.bool false) ∧ w' = wr) := h54
      obtain ⟨c1, c2, c3⟩ := (HW.out.below hB).cells hxn hck
      rw [he] at c3
      have HNX : Hid (WaySt n D a b u (L ++ [z]) z d c) := HST.out.next HD.out ha hb he
      have hLn2 : L.length + 1 ≤ n := by
        have := HNX.out.1.short HD.out ha hb HFB.out
        simpa using this
      have i3 : (0 : Int) ≤ (x : Int) := by omega
      have i4 : (x : Int) < (n : Int) := by omega
      have i5 : (0 : Int) ≤ (c : Int) := by omega
      have i6 : (c : Int) < (k : Int) := by omega
      clear h54 he hfr HST
      go_wp2_with (first | (go_at_call 54; refine Calls.mono H54.out ?_; rintro e Wa ⟨rfl, rfl⟩) | (at_builtin; refine wpList_pushA (x := z) rfl _ _ rfl rfl rfl HOWN.out (by omega) hsz ?_; intro g1 c1 w2 hown1 hgr1 hat1) | go_in)
      have T1 := (alloc_turns Wa (Obj.cells #[.int .i64 (z : Int)] 3) (fun x => some x = (Value.slice po L.length pc).ownBlock)).trans (Turns.of_grown hgr1)
      have hB1 : Below w.heap.size w w2 := Turns.below hB T1 hsz (fun x hx => (HOWN.out.lt x hx.symm).1)
      go_roundw
      case rel => exact ⟨L ++ [z], some ⟨g1, 0, none⟩, c1, z, d, c, rfl, by simp, rfl, rfl, hown1, HNX.out, hB1⟩
      case measure => simp [lenOf]; omega
end
end Go.Proofs.Ytdnmoifbkojnlaa
