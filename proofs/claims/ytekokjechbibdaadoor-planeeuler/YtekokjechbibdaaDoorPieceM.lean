/- A region that draws its order, in the round of a range over a function: by what each operation keeps. A round of piecesOf: one piece more, in whatever order its operations come. The marks that ranges over functions leave among the deferred calls of a frame. -/
import Derived.Test.YtekokjechbibdaaDoorRise
import Derived.Test.YtekokjechbibdaaDoorTailM
namespace Go.Proofs.YtekokjechbibdaaDoor
open Go.RowKit Go.Maps
section
variable {F : Fence} {n : Nat} {P : Program} {ops : Array Oper} {Q : Exit → Act → World → Prop}
theorem wpAnyIn_inv {I : Array Bool → Act → World → Prop} (hlow : lowB ops = true)
    (hstep : ∀ listed a w i, listed.size = ops.size → I listed a w → i ∈ Region.ready .any ops listed → wpOpIn F n P ops Q i (I (listed.setIfInBounds i true)) a w)
    (hend : ∀ listed a w, I listed a w → (∀ i, i < ops.size → listed.getD i false = true) → Q .normal a w) :
    ∀ fuel listed a w, listed.size = ops.size → listed.toList.count false ≤ fuel → I listed a w → wpAnyIn F n P .any ops Q fuel listed a w
  | 0, listed, a, w, hs, hc, hI => by
    have hr : Region.ready .any ops listed = [] := by
      refine List.eq_nil_iff_forall_not_mem.2 fun i hi => ?_
      obtain ⟨h1, h2⟩ := getD_false.1 (mem_ready.1 hi).1
      have h3 : false ∈ listed.toList := by
        rw [Array.getD, dif_pos h1] at h2
        have h2' : listed[i] = false := h2
        rw [← h2']; simp
      have := List.count_pos_iff.2 h3
      omega
    exact ⟨hr, hend _ _ _ hI (ready_none hlow hs hr)⟩
  | fuel + 1, listed, a, w, hs, hc, hI => by
    refine ⟨fun hr => hend _ _ _ hI (ready_none hlow hs hr), fun i hi => ?_⟩
    refine wpOpIn_mono (fun a' w' h' => ?_) (hstep listed a w i hs hI hi)
    refine wpAnyIn_inv hlow hstep hend fuel _ a' w' (by simpa using hs) ?_ h'
    obtain ⟨h1, h2⟩ := getD_false.1 (mem_ready.1 hi).1
    have h3 : listed.toList[i]? = some false := by
      rw [Array.getD, dif_pos h1] at h2
      have h2' : listed[i] = false := h2
      simp [h1, h2']
    have := count_set h3
    rw [Array.toList_setIfInBounds]
    omega
theorem region_invIn {id : Nat} {a : Act} {w : World} {J : Act → (Nat → Bool) → Act → World → Prop} (hm : P.follows .mixedOrders = true) (hlow : lowB ops = true)
    (h0 : J a (fun _ => false) a w.drew)
    (hstep : ∀ i o, ops[i]? = some o → ∀ L a' w, J a L a' w → L i = false → (∀ e ∈ o.after, Region.binds .any e = true → L e.on = true) → wpOpIn F n P ops Q i (J a (also L i)) a' w)
    (hend : ∀ L a' w, J a L a' w → (∀ i, i < ops.size → L i = true) → Q .normal a' w) : (Code.region id ops true).wpIn F n P Q a w := by
  refine wpIn_region_any hm (wpAnyIn_inv (I := fun listed a' w => J a (fun i => listed.getD i false) a' w) hlow (fun listed a w i hs hJ hi => ?_) (fun listed a w hJ hall => hend _ a w hJ hall) _ _ _ _ (by simp) ?_ ?_)
  · obtain ⟨h1, o, ho, hall⟩ := mem_ready.1 hi
    obtain ⟨h2, h3⟩ := getD_false.1 h1
    refine wpOpIn_mono (fun a' w' h' => ?_) (hstep i o ho _ a w hJ h3 hall)
    have e : (fun j => (listed.setIfInBounds i true).getD j false) = also (fun j => listed.getD j false) i := by
      funext j
      unfold also
      by_cases hj : j = i
      · subst hj; simp [Array.getD, h2]
      · have : (j == i) = false := by simp [hj]
        rw [this, Bool.false_or]
        simp only [Array.getD, Array.size_setIfInBounds]
        by_cases h : j < listed.size
        · simp only [h, dif_pos]
          exact Array.getElem_setIfInBounds_ne h (fun e => hj e.symm)
        · simp [h]
    rw [e]; exact h'
  · refine Nat.le_trans (List.count_le_length) (by simp)
  · have e : (fun i => (Array.replicate ops.size false).getD i false) = fun _ => false := by
      funext j
      simp [Array.getD]
    rw [e]; exact h0
/-- An operation that is no call. -/
def plainO (o : Oper) : Prop := (∀ c, o.op ≠ .defer c) ∧ ∀ c, o.op ≠ .call c
theorem about_plain {o : Oper} (h : plainO o) (w : World) (ρ : Operand → Value) : o.about P w ρ = none := by
  unfold Oper.about
  cases ho : o.op <;> first | rfl | exact absurd ho (h.2 _)
theorem wpOpIn_value {i : Nat} {o : Oper} {a : Act} {w w' : World} {v : Value} {K : Act → World → Prop} (hp : plainO o) (hi : ops[i]? = some o) (hw : Region.wanted o (yielded ops a.tmps) = true)
    (hr : (execOp a.eval o).run P w = .ok (.value v) w') (h : K (a.put o.dst v) w') : wpOpIn F n P ops Q i K a w := by
  unfold wpOpIn
  simp only [hi, hw, if_true, Oper.wpIn, Oper.semAt_eq _ _ _ hp.1, hr, Oper.uponIn, about_plain hp]
  exact ⟨(fun f hf => nomatch hf), h⟩
theorem wpOpIn_skip {i : Nat} {o : Oper} {a : Act} {w w' : World} {K : Act → World → Prop} (hp : plainO o) (hi : ops[i]? = some o) (hw : Region.wanted o (yielded ops a.tmps) = true)
    (hr : (execOp a.eval o).run P w = .ok .skip w') (h : K (a.put o.dst undef) w') : wpOpIn F n P ops Q i K a w := by
  unfold wpOpIn
  simp only [hi, hw, if_true, Oper.wpIn, Oper.semAt_eq _ _ _ hp.1, hr, Oper.uponIn, about_plain hp]
  exact ⟨(fun f hf => nomatch hf), h⟩
theorem wpOpIn_call {i : Nat} {o : Oper} {a : Act} {w w' : World} {f : FuncId} {args : Array Value} {K : Act → World → Prop} (hF : ∀ f, F.fn f) (hdp : F.depth = none) (hd : ∀ c, o.op ≠ .defer c) (hi : ops[i]? = some o) (hw : Region.wanted o (yielded ops a.tmps) = true)
    (hr : (execOp a.eval o).run P w = .ok (.enter f args) w') (h : CallsIn F (n - 1) P f args w' fun e w'' => ∃ v, e = .returned v ∧ K (a.put o.dst v) w'') : wpOpIn F n P ops Q i K a w := by
  unfold wpOpIn
  simp only [hi, hw, if_true, Oper.wpIn, Oper.semAt_eq _ _ _ hd, hr, Oper.uponIn]
  refine ⟨fun f _ => hF f, (fun hs => by rw [hdp] at hs; cases hs), h.mono ?_⟩
  rintro e w'' ⟨v, rfl, hk⟩
  exact hk
end
end Go.Proofs.YtekokjechbibdaaDoor

namespace Go.Proofs.YtekokjechbibdaaDoor
set_option maxRecDepth 8000
open Go.RowKit Go.Maps
/-- The cells of pieces. -/
def pcell (p : Piece) : List Value := [.int .u64 (lo64 p.inner : Int), .int .u64 (hi64 p.inner : Int), .int .u64 (lo64 p.feet : Int), .int .u64 (hi64 p.feet : Int)]
def flatP (L : List Piece) : List Value := L.flatMap pcell
theorem flatP_snoc (L : List Piece) (p : Piece) : flatP (L ++ [p]) = flatP L ++ pcell p := by simp [flatP]
theorem flatP_len (L : List Piece) : (flatP L).length = L.length * 4 := by
  induction L with
  | nil => rfl
  | cons p l ih => simp only [flatP, List.flatMap_cons, List.length_append, List.length_cons] at ih ⊢; simp [pcell, ih]; omega
/-- A row of pieces of one's own, from block base on. -/
abbrev PRow (w : World) (base : Nat) (x : Value) (L : List Piece) : Prop := w.ownsRow base 103 4 x L.length (flatP L)
theorem Tryd.info103 : (Tryd.prog.info? 103).map (fun i => (i.zero, i.size, i.bytes)) = some (some (.agg #[.int .u64 0, .int .u64 0, .int .u64 0, .int .u64 0]), 4, 32) := by kernel_rfl
/-- A piece was put behind the others. -/
def Put1 (W : World) (base : Nat) (sx : Value) (L : List Piece) (p : Piece) (w1 : World) (x : Value) : Prop :=
  ∃ w6 g cap, Below W.heap.size W w6 ∧ w6.grownBy w1 sx.ownBlock ∧ x = .slice (some ⟨g, 0, none⟩) (L.length + 1) cap ∧ PRow w1 base x (L ++ [p]) ∧ (sx.ownBlock = some g ∨ W.heap.size ≤ g)
structure S7 (W : World) (sx : Value) (u v b9 base : Nat) (P : List Piece) (L : Nat → Bool) (f : Nat → Value) (w : World) : Prop where
  f0 : L 0 = true → f 0 = sx
  f1 : L 1 = true → f 1 = .int .i64 (u : Int)
  f2 : L 2 = true → f 2 = .int .i64 (v : Int)
  f3 : L 3 = true → L 7 = false → ∃ b, f 3 = .slice (some ⟨b, 0, none⟩) 2 2 ∧ Two w b (.int .i64 (u : Int)) (.int .i64 (v : Int)) 3
  f4 : L 4 = true → f 4 = sv (setOf [u, v])
  f5 : L 5 = true → f 5 = pv ⟨0, setOf [u, v]⟩
  f6 : L 6 = true → L 7 = false → ∃ c, f 6 = .slice (some ⟨c, 0, none⟩) 1 1 ∧ PBox w c 0 (setOf [u, v])
  w0 : L 7 = false → Below W.heap.size W w
  w7 : L 7 = true → L 8 = false → Put1 W base sx P ⟨0, setOf [u, v]⟩ w (f 7)
  w8 : L 8 = true → ∃ w1 x, Put1 W base sx P ⟨0, setOf [u, v]⟩ w1 x ∧ w = w1.setCell ⟨b9, 0, none⟩ x
  c3 : L 3 = true → L 1 = true ∧ L 2 = true
  c4 : L 4 = true → L 3 = true
  c5 : L 5 = true → L 4 = true
  c6 : L 6 = true → L 5 = true
  c7 : L 7 = true → L 6 = true ∧ L 0 = true
  c8 : L 8 = true → L 7 = true
def updV (f : Nat → Value) (i : Nat) (x : Value) : Nat → Value := fun j => if j = i then x else f j
theorem updV_same (f : Nat → Value) (i : Nat) (x : Value) : updV f i x i = x := by simp [updV]
theorem updV_ne (f : Nat → Value) {i j : Nat} (x : Value) (h : j ≠ i) : updV f i x j = f j := by simp [updV, h]
theorem also_at {L : Nat → Bool} {i j : Nat} (h : j ≠ i) : also L i j = L j := by simp [also, h]
variable {W : World} {sx : Value} {u v b9 base : Nat} {P : List Piece} {L : Nat → Bool} {f : Nat → Value} {w w' : World}
/-- An operation ahead of the append. -/
theorem S7.put (h : S7 W sx u v b9 base P L f w) {i : Nat} {x : Value} (hL : L i = false) (hi : i < 7) (hb : Below w.heap.size w w')
    (x0 : i = 0 → x = sx) (x1 : i = 1 → x = .int .i64 (u : Int)) (x2 : i = 2 → x = .int .i64 (v : Int)) (x3 : i = 3 → (∃ b, x = .slice (some ⟨b, 0, none⟩) 2 2 ∧ Two w' b (.int .i64 (u : Int)) (.int .i64 (v : Int)) 3) ∧ L 1 = true ∧ L 2 = true)
    (x4 : i = 4 → x = sv (setOf [u, v]) ∧ L 3 = true) (x5 : i = 5 → x = pv ⟨0, setOf [u, v]⟩ ∧ L 4 = true) (x6 : i = 6 → (∃ c, x = .slice (some ⟨c, 0, none⟩) 1 1 ∧ PBox w' c 0 (setOf [u, v])) ∧ L 5 = true) :
    S7 W sx u v b9 base P (also L i) (updV f i x) w' := by
  have h7 : L 7 = false := by
    cases e : L 7 with
    | false => rfl
    | true =>
      have e7 := h.c7 e
      have e5 := h.c6 e7.1
      have e4 := h.c5 e5
      have e3 := h.c4 e4
      have e12 := h.c3 e3
      have : i = 0 ∨ i = 1 ∨ i = 2 ∨ i = 3 ∨ i = 4 ∨ i = 5 ∨ i = 6 := by omega
      rcases this with rfl | rfl | rfl | rfl | rfl | rfl | rfl
      · rw [e7.2] at hL; cases hL
      · rw [e12.1] at hL; cases hL
      · rw [e12.2] at hL; cases hL
      · rw [e3] at hL; cases hL
      · rw [e4] at hL; cases hL
      · rw [e5] at hL; cases hL
      · rw [e7.1] at hL; cases hL
  have h8 : L 8 = false := by
    cases e : L 8 with
    | false => rfl
    | true => have := h.c8 e; rw [h7] at this; cases this
  have a7 : also L i 7 = false := by rw [also_at (by omega)]; exact h7
  have a8 : also L i 8 = false := by rw [also_at (by omega)]; exact h8
  have keep : ∀ {b : Nat} {cs : Array Value} {t : TypeId}, Box w b cs t → Box w' b cs t := fun hh => (hb.block _ (lt_of_block hh)).trans hh
  have up : ∀ {j : Nat}, L j = true → also L i j = true := fun hj => also_of hj i
  refine ⟨fun k => ?_, fun k => ?_, fun k => ?_, fun k _ => ?_, fun k => ?_, fun k => ?_, fun k _ => ?_, fun _ => below_next (h.w0 h7) hb, fun k => ?_, fun k => ?_, fun k => ?_, fun k => ?_, fun k => ?_, fun k => ?_, fun k => ?_, fun k => ?_⟩
  · by_cases e : 0 = i
    · subst e; rw [updV_same]; exact x0 rfl
    · rw [updV_ne _ _ e]; exact h.f0 (by rwa [also_at e] at k)
  · by_cases e : 1 = i
    · subst e; rw [updV_same]; exact x1 rfl
    · rw [updV_ne _ _ e]; exact h.f1 (by rwa [also_at e] at k)
  · by_cases e : 2 = i
    · subst e; rw [updV_same]; exact x2 rfl
    · rw [updV_ne _ _ e]; exact h.f2 (by rwa [also_at e] at k)
  · by_cases e : 3 = i
    · subst e; rw [updV_same]; exact (x3 rfl).1
    · rw [updV_ne _ _ e]
      obtain ⟨b, hb1, hb2⟩ := h.f3 (by rwa [also_at e] at k) h7
      exact ⟨b, hb1, keep hb2⟩
  · by_cases e : 4 = i
    · subst e; rw [updV_same]; exact (x4 rfl).1
    · rw [updV_ne _ _ e]; exact h.f4 (by rwa [also_at e] at k)
  · by_cases e : 5 = i
    · subst e; rw [updV_same]; exact (x5 rfl).1
    · rw [updV_ne _ _ e]; exact h.f5 (by rwa [also_at e] at k)
  · by_cases e : 6 = i
    · subst e; rw [updV_same]; exact (x6 rfl).1
    · rw [updV_ne _ _ e]
      obtain ⟨b, hb1, hb2⟩ := h.f6 (by rwa [also_at e] at k) h7
      exact ⟨b, hb1, keep hb2⟩
  · rw [a7] at k; cases k
  · rw [a8] at k; cases k
  · by_cases e : 3 = i
    · subst e; exact ⟨up (x3 rfl).2.1, up (x3 rfl).2.2⟩
    · have := h.c3 (by rwa [also_at e] at k); exact ⟨up this.1, up this.2⟩
  · by_cases e : 4 = i
    · subst e; exact up (x4 rfl).2
    · exact up (h.c4 (by rwa [also_at e] at k))
  · by_cases e : 5 = i
    · subst e; exact up (x5 rfl).2
    · exact up (h.c5 (by rwa [also_at e] at k))
  · by_cases e : 6 = i
    · subst e; exact up (x6 rfl).2
    · exact up (h.c6 (by rwa [also_at e] at k))
  · rw [a7] at k; cases k
  · rw [a8] at k; cases k
theorem S7.early (h : S7 W sx u v b9 base P L f w) {i : Nat} (hL : L i = false) (hi : i < 7) : Below W.heap.size W w := by
  refine h.w0 ?_
  cases e : L 7 with
  | false => rfl
  | true =>
    have e7 := h.c7 e
    have e5 := h.c6 e7.1
    have e4 := h.c5 e5
    have e3 := h.c4 e4
    have e12 := h.c3 e3
    have : i = 0 ∨ i = 1 ∨ i = 2 ∨ i = 3 ∨ i = 4 ∨ i = 5 ∨ i = 6 := by omega
    rcases this with rfl | rfl | rfl | rfl | rfl | rfl | rfl
    · rw [e7.2] at hL; cases hL
    · rw [e12.1] at hL; cases hL
    · rw [e12.2] at hL; cases hL
    · rw [e3] at hL; cases hL
    · rw [e4] at hL; cases hL
    · rw [e5] at hL; cases hL
    · rw [e7.1] at hL; cases hL
/-- The append. -/
theorem S7.app (h : S7 W sx u v b9 base P L f w) (hL : L 7 = false) (h0 : L 0 = true) (h6 : L 6 = true) {x : Value} (hp : Put1 W base sx P ⟨0, setOf [u, v]⟩ w' x) : S7 W sx u v b9 base P (also L 7) (updV f 7 x) w' := by
  have h8 : L 8 = false := by
    cases e : L 8 with
    | false => rfl
    | true => have := h.c8 e; rw [hL] at this; cases this
  have a7 : also L 7 7 = true := also_self L 7
  have up : ∀ {j : Nat}, L j = true → also L 7 j = true := fun hj => also_of hj 7
  have dn : ∀ {j : Nat}, j ≠ 7 → also L 7 j = true → L j = true := fun hj hk => by rwa [also_at hj] at hk
  refine ⟨fun k => by rw [updV_ne _ _ (by omega)]; exact h.f0 (dn (by omega) k), fun k => by rw [updV_ne _ _ (by omega)]; exact h.f1 (dn (by omega) k), fun k => by rw [updV_ne _ _ (by omega)]; exact h.f2 (dn (by omega) k), fun _ k => (by rw [a7] at k; cases k), fun k => by rw [updV_ne _ _ (by omega)]; exact h.f4 (dn (by omega) k), fun k => by rw [updV_ne _ _ (by omega)]; exact h.f5 (dn (by omega) k), fun _ k => (by rw [a7] at k; cases k), fun k => (by rw [a7] at k; cases k), fun _ _ => by rw [updV_same]; exact hp, fun k => ?_, fun k => ?_, fun k => up (h.c4 (dn (by omega) k)), fun k => up (h.c5 (dn (by omega) k)), fun k => up (h.c6 (dn (by omega) k)), fun _ => ⟨up h6, up h0⟩, fun _ => a7⟩
  · have := dn (by omega) k; rw [h8] at this; cases this
  · have := h.c3 (dn (by omega) k); exact ⟨up this.1, up this.2⟩
theorem S7.store (h : S7 W sx u v b9 base P L f w) (hL : L 8 = false) (h7 : L 7 = true) (x : Value) : S7 W sx u v b9 base P (also L 8) (updV f 8 x) (w.setCell ⟨b9, 0, none⟩ (f 7)) := by
  have a8 : also L 8 8 = true := also_self L 8
  have a7 : also L 8 7 = true := also_of h7 8
  have up : ∀ {j : Nat}, L j = true → also L 8 j = true := fun hj => also_of hj 8
  have dn : ∀ {j : Nat}, j ≠ 8 → also L 8 j = true → L j = true := fun hj hk => by rwa [also_at hj] at hk
  refine ⟨fun k => by rw [updV_ne _ _ (by omega)]; exact h.f0 (dn (by omega) k), fun k => by rw [updV_ne _ _ (by omega)]; exact h.f1 (dn (by omega) k), fun k => by rw [updV_ne _ _ (by omega)]; exact h.f2 (dn (by omega) k), fun _ k => (by rw [a7] at k; cases k), fun k => by rw [updV_ne _ _ (by omega)]; exact h.f4 (dn (by omega) k), fun k => by rw [updV_ne _ _ (by omega)]; exact h.f5 (dn (by omega) k), fun _ k => (by rw [a7] at k; cases k), fun k => (by rw [a7] at k; cases k), fun _ k => (by rw [a8] at k; cases k), fun _ => ⟨w, f 7, h.w7 h7 hL, rfl⟩, fun k => ?_, fun k => up (h.c4 (dn (by omega) k)), fun k => up (h.c5 (dn (by omega) k)), fun k => up (h.c6 (dn (by omega) k)), fun k => ?_, fun _ => a7⟩
  · have := h.c3 (dn (by omega) k); exact ⟨up this.1, up this.2⟩
  · have := h.c7 (dn (by omega) k); exact ⟨up this.1, up this.2⟩
theorem S7.start : S7 W sx u v b9 base P (fun _ => false) f W.drew :=
  ⟨fun h => (by cases h), fun h => (by cases h), fun h => (by cases h), fun h => (by cases h), fun h => (by cases h), fun h => (by cases h), fun h => (by cases h), fun _ => (Below.refl _ W).drew, fun h => (by cases h), fun h => (by cases h), fun h => (by cases h), fun h => (by cases h), fun h => (by cases h), fun h => (by cases h), fun h => (by cases h), fun h => (by cases h)⟩
end Go.Proofs.YtekokjechbibdaaDoor

namespace Go.Proofs.YtekokjechbibdaaDoor
open Go.RowKit Go.Maps
abbrev mkD (D : Nat) : Deferred := { target := .collected D, args := #[] }
/-- The marks ds, between the blocks lo and hi, with nothing deferred. -/
def Marks (lo hi : Nat) (ds : List Deferred) (w : World) : Prop := ∃ Ds : List Nat, ds = Ds.map mkD ∧ Ds.Nodup ∧ ∀ D ∈ Ds, lo ≤ D ∧ D < hi ∧ w.heap[D]? = some (.deferred (some []))
theorem Marks.nil (lo hi : Nat) (w : World) : Marks lo hi [] w := ⟨[], rfl, List.nodup_nil, fun D h => by cases h⟩
theorem Marks.cons {lo hi : Nat} {ds : List Deferred} {w : World} (h : Marks lo hi ds w) {D : Nat} (hlo : lo ≤ D) (hhi : hi ≤ D) (hD : w.heap[D]? = some (.deferred (some []))) : Marks lo (D + 1) (mkD D :: ds) w := by
  obtain ⟨Ds, rfl, hn, h⟩ := h
  refine ⟨D :: Ds, rfl, List.nodup_cons.2 ⟨fun hm => ?_, hn⟩, fun E hE => ?_⟩
  · have := (h D hm).2.1; omega
  · rcases List.mem_cons.1 hE with rfl | hE
    · exact ⟨hlo, by omega, hD⟩
    · have := h E hE; exact ⟨this.1, by omega, this.2.2⟩
theorem Marks.keep {lo hi : Nat} {ds : List Deferred} {w w' : World} (h : Marks lo hi ds w) (hk : ∀ k, k < hi → w.heap[k]? = some (.deferred (some [])) → w'.heap[k]? = w.heap[k]?) : Marks lo hi ds w' := by
  obtain ⟨Ds, rfl, hn, h⟩ := h
  refine ⟨Ds, rfl, hn, fun D hD => ?_⟩
  obtain ⟨h1, h2, h3⟩ := h D hD
  exact ⟨h1, h2, (hk D h2 h3).trans h3⟩
theorem Marks.under {lo hi : Nat} {ds : List Deferred} {w w' : World} (h : Marks lo hi ds w) (hb : Below w.heap.size w w') : Marks lo hi ds w' := h.keep fun k _ hk => hb.block k (Array.getElem?_eq_some_iff.1 hk).1
theorem Marks.turns {M : Nat → Prop} {lo hi : Nat} {ds : List Deferred} {w w' : World} (h : Marks lo hi ds w) (ht : Turns M w w') (hm : ∀ k, k < hi → M k → ∃ cs t r, w.heap[k]? = some (.cells cs t r)) : Marks lo hi ds w' := h.keep fun k hk hd => ht.block k (Array.getElem?_eq_some_iff.1 hd).1 fun hmk => by
  obtain ⟨cs, t, r, he⟩ := hm k hk hmk
  rw [hd] at he; cases he
theorem Marks.mono {lo hi hi' : Nat} {ds : List Deferred} {w : World} (h : Marks lo hi ds w) (hh : hi ≤ hi') : Marks lo hi' ds w := by
  obtain ⟨Ds, e, hn, h⟩ := h
  exact ⟨Ds, e, hn, fun D hD => ⟨(h D hD).1, by have := (h D hD).2.1; omega, (h D hD).2.2⟩⟩
/-- At the function's end the marks are taken off. -/
theorem leaves_marks {F : Fence} {n : Nat} {P : Program} {fn : Func} {tmps : Array Value} {R : Ending → World → Prop} {lo hi : Nat} : ∀ {ds : List Deferred} {w : World}, Marks lo hi ds w →
    (∀ w', (∀ (k : Nat) (cs : Array Value) (t : TypeId) (r : Nat × Nat), w.heap[k]? = some (Obj.cells cs t r) → w'.heap[k]? = w.heap[k]?) → Below lo w w' → ∃ v, (results fn tmps).run P w' = .ok v w' ∧ R (.returned v) w') → LeavesInM F n P fn tmps R ds .returning w := by
  intro ds w ⟨Ds, e, hn, h⟩
  subst e
  induction Ds generalizing w with
  | nil => intro hR; exact hR w (fun _ _ _ _ _ => rfl) (Below.refl _ w)
  | cons D Ds ih =>
    intro hR
    obtain ⟨h1, h2, h3⟩ := h D (by simp)
    obtain ⟨hnd, hn'⟩ := List.nodup_cons.1 hn
    have hgb := grownBy_putObj' w D (.deferred none)
    have hoth : ∀ k, k ≠ D → (w.putObj D (.deferred none)).heap[k]? = w.heap[k]? := fun k hk => World.putObj_heap_other hk
    refine ⟨by simp, .inl ⟨_, _, rfl, run_takeDeferred h3, ?_⟩⟩
    refine ih hn' (fun E hE => ?_) (fun w' hc hb => hR w' (fun k cs t r hk => ?_) ?_)
    · have := h E (by simp [hE])
      exact ⟨this.1, this.2.1, (hoth E (fun e => hnd (e ▸ hE))).trans this.2.2⟩
    · have hkD : k ≠ D := fun e => by subst e; rw [h3] at hk; cases hk
      exact (hc k cs t r ((hoth k hkD).trans hk)).trans (hoth k hkD)
    · exact ⟨hb.os.trans hgb.os, hb.tape.trans hgb.tape, hb.output.trans hgb.output, Nat.le_trans hgb.size hb.size, fun k hk => (hb.block k hk).trans (hoth k (by omega))⟩
/-- The pieces that fresh nodes bring, one node after the other. -/
theorem freshL_snoc (near : List Nat) : ∀ (l : List Nat) (laid v : Nat), freshL near laid (l ++ [v]) = ((freshL near laid l).1 ++ (elems (at' near v &&& (freshL near laid l).2)).map (fun u => ⟨0, setOf [u, v]⟩), sAdd (freshL near laid l).2 v)
  | [], laid, v => by simp [freshL]
  | x :: l, laid, v => by
    simp only [List.cons_append, freshL]
    rw [freshL_snoc near l]
    simp
theorem freshL_lt (near : List Nat) : ∀ (l : List Nat) (laid : Nat), laid < 2 ^ 128 → (∀ x ∈ l, x < 128) → (freshL near laid l).2 < 2 ^ 128
  | [], laid, h, _ => h
  | x :: l, laid, h, hl => freshL_lt near l _ (add_lt h (hl x (by simp))) (fun y hy => hl y (by simp [hy]))
theorem elems_len (s : Nat) : (elems s).length ≤ 128 := count_le s
theorem freshL_len (near : List Nat) : ∀ (l : List Nat) (laid : Nat), (freshL near laid l).1.length ≤ l.length * 128
  | [], laid => by simp [freshL]
  | x :: l, laid => by
    have := freshL_len near l (sAdd laid x)
    have h2 := elems_len (at' near x &&& laid)
    simp only [freshL, List.length_append, List.length_map, List.length_cons]
    omega
end Go.Proofs.YtekokjechbibdaaDoor
