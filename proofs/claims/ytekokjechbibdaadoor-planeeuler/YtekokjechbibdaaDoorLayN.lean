/- What a block that is being laid holds in memory, and that a laying goes well. A region that draws its order: values that are told, a call that makes a row, and an append behind all. The same, with what is done closed under what was waited for. -/
import Derived.Test.YtekokjechbibdaaDoorCrossW
import Derived.Test.YtekokjechbibdaaDoorDelP
import Derived.Test.YtekokjechbibdaaDoorChooseN
import Derived.Test.YtekokjechbibdaaDoorWayW
import Derived.Laws.OwnMore
import Derived.Test.YtekokjechbibdaaDoorWayM1
namespace Go.Proofs.YtekokjechbibdaaDoor
set_option maxRecDepth 8000
open Go.RowKit Go.Maps
def pieceOk (N : Nat) (p : Piece) : Bool := decide (p.inner < 2 ^ 128) && decide (p.feet < 2 ^ 128) && !(p.feet == 0) && !(sDrop p.feet (firstS p.feet) == 0) && (elems p.inner).all (fun v => decide (v < N)) && (elems p.feet).all (fun v => decide (v < N))
def faceOk (f : Face) : Bool := f.walk.all (fun v => decide (v < 128)) && decide (f.walk.length ≤ 1000) && f.nodes == setOf f.walk
def feetOk (l : List Piece) : Bool := l.all fun p => decide (p.feet < 2 ^ 128)
def wayFits (N : Nat) (faces : List Face) (room : Nat) (way : List Nat) : Bool :=
  decide (2 ≤ way.length) && decide (way.length ≤ 200) && way.all (fun v => decide (v < N)) && (faces.getD room ⟨[], 0⟩).walk.contains (way.headD 0) && (faces.getD room ⟨[], 0⟩).walk.contains (way.getLastD 0) && (cross faces room way).all faceOk
/-- Each step of a laying goes well. -/
def layOk (N : Nat) : Nat → List Nat → Nat → List Face → List Piece → Bool
  | 0, _, _, _, _ => false
  | _ + 1, _, _, faces, [] => decide (faces.length ≤ 10000)
  | f + 1, near, laid, faces, p :: l =>
    decide (faces.length ≤ 10000) && decide ((p :: l).length ≤ 10000) && feetOk (p :: l) &&
    match choose (p :: l) faces with
    | (_, none) => true
    | (i, some room) =>
      let q := (p :: l).getD i ⟨0, 0⟩
      let way := wayThrough near q
      let near' := partWay near way
      decide (i < (p :: l).length) && decide (room < faces.length) && pieceOk N q && throughOk near q && wayFits N faces room way &&
      decide ((piecesOf near' laid (inside way) (sLess q.inner (setOf (inside way)))).length ≤ 10000) &&
      layOk N f near' (laid ||| setOf (inside way)) (cross faces room way) ((p :: l).eraseIdx i ++ piecesOf near' laid (inside way) (sLess q.inner (setOf (inside way))))
def blockOk (near : List Nat) (e : E2) : Bool :=
  let near1 := part near e.1 e.2
  let pieces := piecesOf near1 0 [e.1, e.2] (sDrop (sDrop (setOf (List.range near.length)) e.1) e.2)
  layOk near.length 1000 near1 (setOf [e.1, e.2]) [faceOf [e.1, e.2]] pieces
theorem pieceOk_out {N : Nat} {p : Piece} (h : pieceOk N p = true) : p.inner < 2 ^ 128 ∧ p.feet < 2 ^ 128 ∧ p.feet ≠ 0 ∧ sDrop p.feet (firstS p.feet) ≠ 0 ∧ (∀ v, p.inner.testBit v = true → v < N) ∧ (∀ v, p.feet.testBit v = true → v < N) := by
  simp only [pieceOk, Bool.and_eq_true, decide_eq_true_eq, List.all_eq_true, Bool.not_eq_true', beq_eq_false_iff_ne] at h
  obtain ⟨⟨⟨⟨⟨h1, h2⟩, h3⟩, h4⟩, h5⟩, h6⟩ := h
  exact ⟨h1, h2, h3, h4, fun v hv => h5 v ((mem_elems h1).2 hv), fun v hv => h6 v ((mem_elems h2).2 hv)⟩
theorem faceOk_out {f : Face} (h : faceOk f = true) : (∀ v ∈ f.walk, v < 128) ∧ f.walk.length ≤ 1000 ∧ f.nodes = setOf f.walk := by
  simp only [faceOk, Bool.and_eq_true, decide_eq_true_eq, List.all_eq_true, beq_iff_eq] at h
  exact ⟨h.1.1, h.1.2, h.2⟩
theorem wayFits_out {N room : Nat} {F : List Face} {way : List Nat} (h : wayFits N F room way = true) : 2 ≤ way.length ∧ way.length ≤ 200 ∧ (∀ v ∈ way, v < N) ∧ way.headD 0 ∈ (F.getD room ⟨[], 0⟩).walk ∧ way.getLastD 0 ∈ (F.getD room ⟨[], 0⟩).walk ∧ ∀ f ∈ cross F room way, (∀ v ∈ f.walk, v < 128) ∧ f.walk.length ≤ 1000 ∧ f.nodes = setOf f.walk := by
  simp only [wayFits, Bool.and_eq_true, decide_eq_true_eq, List.all_eq_true, List.contains_eq_mem] at h
  obtain ⟨⟨⟨⟨⟨h1, h2⟩, h3⟩, h4⟩, h5⟩, h6⟩ := h
  exact ⟨h1, h2, h3, h4, h5, fun f hf => faceOk_out (h6 f hf)⟩
theorem cross_len (F : List Face) (room : Nat) (way : List Nat) : (cross F room way).length = F.length + 1 := by simp [cross]
theorem part_len (near : List Nat) (u v : Nat) : (part near u v).length = near.length := by simp [part]
theorem partWay_len : ∀ (l near : List Nat), (partWay near l).length = near.length
  | [], _ => rfl
  | [_], _ => rfl
  | a :: b :: l, near => by rw [partWay, partWay_len (b :: l), part_len]
/-- A row of pieces behind a row of pieces. -/
theorem run_appP {w : World} {lo base : Nat} {px y : Value} {P Q : List Piece} {ty : TypeId} (hp : PRow w lo px P) (hq : PRow w base y Q) (h1 : P.length ≤ 100000) (h2 : Q.length ≤ 100000) (hlo : lo ≤ w.heap.size) :
    ∃ z w', (Builtin.append_ #[96, 96] ty #[px, y]).run Tryd.prog w = .ok z w' ∧ PRow w' lo z (P ++ Q) ∧ w.grownBy w' px.ownBlock ∧ (∀ g, z.ownBlock = some g → px.ownBlock = some g ∨ w.heap.size ≤ g) := by
  obtain ⟨i3, hi3, hy0, hy1, hy2⟩ := info_parts Tryd.info103
  rcases hq.2 with ⟨e, e0⟩ | ⟨g, cap, cur, e, hg, hh, _⟩
  · have hQ : Q = [] := List.eq_nil_of_length_eq_zero e0
    subst hQ
    subst e
    refine ⟨px, w, run_append_owned_none w lo 96 ty 103 i3 4 Tryd.underlying96 hi3 px P.length (flatP P) hp, by rw [List.append_nil]; exact hp, grownBy_refl _ _, fun g hg => Or.inl hg⟩
  · subst e
    obtain ⟨v', w', hr, h5, h6, _, h7⟩ := run_append_own_at (P := Tryd.prog) w lo 96 ty 103 i3 (.agg #[.int .u64 0, .int .u64 0, .int .u64 0, .int .u64 0]) 4 32 Tryd.underlying96 hi3 hy0 hy1 hy2 rfl (by decide) px P.length (flatP P) hp ⟨g, 0, none⟩ Q.length cap (flatP Q) (flatP_len Q) (hq.cells rfl) (flatP_one Q) (by unfold maxLen; omega) (by omega) hlo
    refine ⟨v', w', hr, ?_, h6, fun k hk => ?_⟩
    · show w'.ownsRow _ _ _ _ (P ++ Q).length _
      rw [List.length_append, show flatP (P ++ Q) = flatP P ++ flatP Q by simp [flatP]]
      exact h5
    · rcases h7 with h | h
      · rw [h] at hk; exact Or.inl hk
      · rw [h] at hk; cases hk; exact Or.inr (Nat.le_refl _)
/-- What lies in memory between two steps of layBlock: the box of the edge at b, the set laid at b + 1; faces fx, pieces px. -/
structure LI (w wz : World) (bn b e1 e2 : Nat) (near : List Nat) (laid : Nat) (fx px : Value) (H : List Value) (F : List Face) (P : List Piece) : Prop where
  e3 : Two wz b (.int .i64 (e1 : Int)) (.int .i64 (e2 : Int)) 49
  nr : SetsAt wz bn near
  la : SBox wz (b + 1) laid
  fr : FRow wz b fx H F
  pr : PRow wz (b + 3) px P
  fb : ∀ g, fx.ownBlock = some g → b + 2 < g
  fp : ∀ g, fx.ownBlock = some g → px.ownBlock ≠ some g
  hb : ∀ hv ∈ H, ∀ g, hv.ownBlock = some g → g ≠ b + 1 ∧ px.ownBlock ≠ some g
  sz : b + 2 < wz.heap.size
  tn : Turns (fun k => k = bn) w wz
section
variable {w wz wz' : World} {bn b e1 e2 laid : Nat} {near : List Nat} {fx px : Value} {H : List Value} {F : List Face} {P : List Piece}
theorem LI.under (h : LI w wz bn b e1 e2 near laid fx px H F P) (hb : Below wz.heap.size wz wz') : LI w wz' bn b e1 e2 near laid fx px H F P :=
  have k : ∀ {b : Nat} {cs : Array Value} {t : TypeId}, Box wz b cs t → Box wz' b cs t := fun h => (hb.block _ (lt_of_block h)).trans h
  ⟨k h.e3, h.nr.under hb, k h.la, h.fr.under hb, ownsRow_blocks h.pr (fun g hg => hb.block g (h.pr.lt g hg).2), h.fb, h.fp, h.hb, Nat.lt_of_lt_of_le h.sz hb.size, h.tn.trans (Turns.of_below hb _)⟩
theorem LI.walk_ge (h : LI w wz bn b e1 e2 near laid fx px H F P) {hv : Value} (hm : hv ∈ H) {g : Nat} (hg : hv.ownBlock = some g) : b ≤ g ∧ g < wz.heap.size := by
  obtain ⟨i, hi⟩ := List.getElem?_of_mem hm
  exact h.fr.walk_lt hi hg
theorem LI.near' {near' : List Nat} (h : LI w wz bn b e1 e2 near laid fx px H F P) (hbn : bn < b) (hn : SetsAt wz' bn near') (ht : Turns (fun k => k = bn) wz wz') : LI w wz' bn b e1 e2 near' laid fx px H F P :=
  ⟨box_turns h.e3 ht (by omega), hn, box_turns h.la ht (by omega), h.fr.keep ht.size (fun g hg => ht.block g (h.fr.row.lt g hg).2 (by have := (h.fr.row.lt g hg).1; omega)) (fun i hv hi g hg => ht.block g (h.fr.walk_lt hi hg).2 (by have := (h.fr.walk_lt hi hg).1; omega)),
    ownsRow_blocks h.pr (fun g hg => ht.block g (h.pr.lt g hg).2 (by have := (h.pr.lt g hg).1; omega)), h.fb, h.fp, h.hb, Nat.lt_of_lt_of_le h.sz ht.size, h.tn.trans ht⟩
theorem LI.faces' {fx' : Value} {H' : List Value} {F' : List Face} (h : LI w wz bn b e1 e2 near laid fx px H F P) (hbn : bn < b) (hw : w.heap.size ≤ b) (hf : FRow wz' b fx' H' F') (ht : Turns (fun k => fx.ownBlock = some k) wz wz') (hx : ∀ g, fx'.ownBlock = some g → fx.ownBlock = some g ∨ wz.heap.size ≤ g) (hH : ∀ hv ∈ H', hv ∈ H ∨ ∀ g, hv.ownBlock = some g → wz.heap.size ≤ g) :
    LI w wz' bn b e1 e2 near laid fx' px H' F' P := by
  have hs := h.sz
  refine ⟨box_turns h.e3 ht (fun e => by have := h.fb _ e; omega), h.nr.turns ht (fun e => by have := h.fb _ e; omega), box_turns h.la ht (fun e => by have := h.fb _ e; omega), hf,
    ownsRow_blocks h.pr (fun g hg => ht.block g (h.pr.lt g hg).2 (fun e => h.fp g e hg)), fun g hg => ?_, fun g hg => ?_, fun hv hm g hg => ?_, Nat.lt_of_lt_of_le h.sz ht.size, ?_⟩
  · rcases hx g hg with h1 | h1
    · exact h.fb g h1
    · omega
  · rcases hx g hg with h1 | h1
    · exact h.fp g h1
    · intro e; have := (h.pr.lt g e).2; omega
  · rcases hH hv hm with h1 | h1
    · exact h.hb hv h1 g hg
    · have h2 := h1 g hg
      exact ⟨by omega, fun e => by have := (h.pr.lt g e).2; omega⟩
  · refine ⟨ht.os.trans h.tn.os, ht.tape.trans h.tn.tape, ht.output.trans h.tn.output, Nat.le_trans h.tn.size ht.size, fun k hk hn => (ht.block k (Nat.lt_of_lt_of_le hk h.tn.size) (fun e => ?_)).trans (h.tn.block k hk hn)⟩
    have := h.fb k e
    omega
theorem LI.pieces' {px' : Value} {P' : List Piece} {wy : World} (h : LI w wz bn b e1 e2 near laid fx px H F P) (hbn : bn < b) (hw : w.heap.size ≤ b) (hb : Below wz.heap.size wz wy) (hp : PRow wz' (b + 3) px' P') (ht : Turns (fun k => px.ownBlock = some k) wy wz') (hx : ∀ g, px'.ownBlock = some g → px.ownBlock = some g ∨ wy.heap.size ≤ g) :
    LI w wz' bn b e1 e2 near laid fx px' H F P' := by
  have h := h.under hb
  clear hb
  have hs := h.sz
  have hge : ∀ g, px.ownBlock = some g → b + 3 ≤ g := fun g hg => (h.pr.lt g hg).1
  refine ⟨box_turns h.e3 ht (fun e => by have := hge _ e; omega), h.nr.turns ht (fun e => by have := hge _ e; omega), box_turns h.la ht (fun e => by have := hge _ e; omega), h.fr.keep ht.size (fun g hg => ht.block g (h.fr.row.lt g hg).2 (fun e => h.fp g hg e)) (fun i hv hi g hg => ht.block g (h.fr.walk_lt hi hg).2 (fun e => (h.hb hv (List.mem_of_getElem? hi) g hg).2 e)),
    hp, h.fb, fun g hg e => ?_, fun hv hm g hg => ⟨(h.hb hv hm g hg).1, fun e => ?_⟩, Nat.lt_of_lt_of_le h.sz ht.size, ?_⟩
  · rcases hx g e with h1 | h1
    · exact h.fp g hg h1
    · have := (h.fr.row.lt g hg).2; omega
  · rcases hx g e with h1 | h1
    · exact (h.hb hv hm g hg).2 h1
    · have := (h.walk_ge hm hg).2; omega
  · refine ⟨ht.os.trans h.tn.os, ht.tape.trans h.tn.tape, ht.output.trans h.tn.output, Nat.le_trans h.tn.size ht.size, fun k hk hn => (ht.block k (Nat.lt_of_lt_of_le hk h.tn.size) (fun e => ?_)).trans (h.tn.block k hk hn)⟩
    have := hge k e
    omega
theorem LI.laid' {laid' : Nat} (h : LI w wz bn b e1 e2 near laid fx px H F P) (hbn : bn < b) (hw : w.heap.size ≤ b) (hl : SBox wz' (b + 1) laid') (ht : Turns (fun k => k = b + 1) wz wz') : LI w wz' bn b e1 e2 near laid' fx px H F P := by
  refine ⟨box_turns h.e3 ht (by omega), h.nr.turns ht (by omega), hl, h.fr.keep ht.size (fun g hg => ht.block g (h.fr.row.lt g hg).2 (by have := h.fb g hg; omega)) (fun i hv hi g hg => ht.block g (h.fr.walk_lt hi hg).2 (fun e => (h.hb hv (List.mem_of_getElem? hi) g hg).1 e)),
    ownsRow_blocks h.pr (fun g hg => ht.block g (h.pr.lt g hg).2 (by have := (h.pr.lt g hg).1; omega)), h.fb, h.fp, h.hb, Nat.lt_of_lt_of_le h.sz ht.size, ?_⟩
  refine ⟨ht.os.trans h.tn.os, ht.tape.trans h.tn.tape, ht.output.trans h.tn.output, Nat.le_trans h.tn.size ht.size, fun k hk hn => (ht.block k (Nat.lt_of_lt_of_le hk h.tn.size) (fun e => ?_)).trans (h.tn.block k hk hn)⟩
  omega
theorem LI.pcells (h : LI w wz bn b e1 e2 near laid fx px H F P) {g c : Nat} (hx : px = .slice (some ⟨g, 0, none⟩) P.length c) : PCells wz g P := fun i p hp => by
  have hr := h.pr
  rw [hx] at hr
  have hc := hr.cells (g := g) rfl
  have hd : (flatP P).drop (i * 4) = pcell p ++ flatP (P.drop (i + 1)) := by
    rw [flatP_drop]
    obtain ⟨hlt, rfl⟩ := List.getElem?_eq_some_iff.1 hp
    rw [List.drop_eq_getElem_cons hlt]
    rfl
  have at4 : ∀ j u, (pcell p)[j]? = some u → (flatP P)[i * 4 + j]? = some u := fun j u hu => by
    rw [← List.getElem?_drop, hd, List.getElem?_append_left (List.getElem?_eq_some_iff.1 hu).1]
    exact hu
  refine ⟨?_, ?_, ?_, ?_⟩
  · have := hc _ _ (at4 0 _ rfl)
    rw [add_none] at this
    exact this
  · have := hc _ _ (at4 1 _ rfl)
    rw [add_none] at this
    exact this
  · have := hc _ _ (at4 2 _ rfl)
    rw [add_none] at this
    exact this
  · have := hc _ _ (at4 3 _ rfl)
    rw [add_none] at this
    exact this
end
end Go.Proofs.YtekokjechbibdaaDoor

namespace Go.Proofs.YtekokjechbibdaaDoor
set_option maxRecDepth 8000
open Go.RowKit Go.Maps
theorem wpOp_append {P : Program} {ops : Array Oper} {Q : Exit → Act → World → Prop} {i : Nat} {o : Oper} {a : Act} {w : World} {K : Act → World → Prop} (hi : ops[i]? = some o) (hw : Region.wanted o (yielded ops a.tmps) = true) (s x : Operand) (t : TypeId)
    (ho : o.op = .call { callee := .builtin .append, args := #[s, x], argTypes := #[t, t] }) {v y z : Value} {w' : World} (hs : a.eval s = v) (hx : a.eval x = y) (hr : (Builtin.append_ #[t, t] o.type #[v, y]).run P w = .ok z w') (h : K (a.put o.dst z) w') : wpOp P ops Q i K a w := by
  refine wpOp_value hi hw (v := z) (w' := w') ?_ h
  simp only [execOp, ho, resolve, invoke, builtin, Sem.run_bind, Sem.run_pure, Result.andThen_ok, List.map_toArray, List.map_cons, List.map_nil, hs, hx, hr]
/-- V i is what operation i leaves, for i below m; operation m makes a row; operation m + 1 appends it; m + 2 assigns. -/
structure SB (W : World) (m : Nat) (V : Nat → Value) (x0 : Value) (R Z : Value → World → Prop) (L : Nat → Bool) (f : Nat → Value) (w : World) : Prop where
  told : ∀ i, i < m → L i = true → f i = V i
  w0 : L (m + 1) = false → Below W.heap.size W w
  rm : L m = true → L (m + 1) = false → R (f m) w
  zm : L (m + 1) = true → Z (f (m + 1)) w
  cl : L (m + 1) = true → ∀ j, j < m + 1 → L j = true
  old : L (m + 2) = false → f (m + 2) = x0
  sa : L (m + 2) = true → L (m + 1) = true ∧ f (m + 2) = f (m + 1)
variable {W : World} {m : Nat} {V : Nat → Value} {x0 : Value} {R Z : Value → World → Prop} {L : Nat → Bool} {f : Nat → Value} {w w' : World}
theorem SB.open_ (h : SB W m V x0 R Z L f w) {i : Nat} (hL : L i = false) (hi : i < m + 1) : L (m + 1) = false := by
  cases e : L (m + 1) with
  | false => rfl
  | true => have := h.cl e i hi; rw [hL] at this; cases this
theorem SB.open2 (h : SB W m V x0 R Z L f w) (h7 : L (m + 1) = false) : L (m + 2) = false := by
  cases e : L (m + 2) with
  | false => rfl
  | true => have := (h.sa e).1; rw [h7] at this; cases this
theorem SB.early (h : SB W m V x0 R Z L f w) {i : Nat} (hL : L i = false) (hi : i < m + 1) : Below W.heap.size W w := h.w0 (h.open_ hL hi)
theorem SB.put (hR : ∀ x w w', R x w → Below w.heap.size w w' → R x w') (h : SB W m V x0 R Z L f w) {i : Nat} (hL : L i = false) (hi : i < m) (hb : Below w.heap.size w w') : SB W m V x0 R Z (also L i) (updV f i (V i)) w' := by
  have h7 := h.open_ hL (by omega)
  have h8 := h.open2 h7
  have a7 : also L i (m + 1) = false := by rw [also_at (by omega)]; exact h7
  have a8 : also L i (m + 2) = false := by rw [also_at (by omega)]; exact h8
  refine ⟨fun j hj hk => ?_, fun _ => below_next (h.w0 h7) hb, fun hk _ => ?_, fun hk => (by rw [a7] at hk; cases hk), fun hk => (by rw [a7] at hk; cases hk), fun _ => ?_, fun hk => (by rw [a8] at hk; cases hk)⟩
  · by_cases e : j = i
    · subst e; exact updV_same _ _ _
    · rw [updV_ne _ _ e]; exact h.told j hj (by rwa [also_at e] at hk)
  · rw [also_at (by omega)] at hk
    rw [updV_ne _ _ (by omega)]
    exact hR _ _ _ (h.rm hk h7) hb
  · rw [updV_ne _ _ (by omega)]; exact h.old h8
theorem SB.call (h : SB W m V x0 R Z L f w) (hL : L m = false) (hb : Below w.heap.size w w') {x : Value} (hx : R x w') : SB W m V x0 R Z (also L m) (updV f m x) w' := by
  have h7 := h.open_ hL (by omega)
  have h8 := h.open2 h7
  have a7 : also L m (m + 1) = false := by rw [also_at (by omega)]; exact h7
  have a8 : also L m (m + 2) = false := by rw [also_at (by omega)]; exact h8
  refine ⟨fun j hj hk => ?_, fun _ => below_next (h.w0 h7) hb, fun hk _ => ?_, fun hk => (by rw [a7] at hk; cases hk), fun hk => (by rw [a7] at hk; cases hk), fun _ => ?_, fun hk => (by rw [a8] at hk; cases hk)⟩
  · rw [updV_ne _ _ (by omega)]; exact h.told j hj (by rwa [also_at (by omega)] at hk)
  · rw [updV_same]; exact hx
  · rw [updV_ne _ _ (by omega)]; exact h.old h8
theorem SB.app (h : SB W m V x0 R Z L f w) (hL : L (m + 1) = false) (hall : ∀ j, j < m + 1 → L j = true) {x : Value} (hx : Z x w') : SB W m V x0 R Z (also L (m + 1)) (updV f (m + 1) x) w' := by
  have h8 := h.open2 hL
  have a7 : also L (m + 1) (m + 1) = true := also_self _ _
  have a8 : also L (m + 1) (m + 2) = false := by rw [also_at (by omega)]; exact h8
  refine ⟨fun j hj hk => ?_, fun hk => (by rw [a7] at hk; cases hk), fun _ hk => (by rw [a7] at hk; cases hk), fun _ => ?_, fun _ j hj => also_of (hall j hj) _, fun _ => ?_, fun hk => (by rw [a8] at hk; cases hk)⟩
  · rw [updV_ne _ _ (by omega)]; exact h.told j hj (hall j (by omega))
  · rw [updV_same]; exact hx
  · rw [updV_ne _ _ (by omega)]; exact h.old h8
theorem SB.asg (h : SB W m V x0 R Z L f w) (h7 : L (m + 1) = true) : SB W m V x0 R Z (also L (m + 2)) (updV f (m + 2) (f (m + 1))) w := by
  have a7 : also L (m + 2) (m + 1) = true := also_of h7 _
  refine ⟨fun j hj _ => ?_, fun hk => (by rw [a7] at hk; cases hk), fun _ hk => (by rw [a7] at hk; cases hk), fun _ => ?_, fun _ j hj => also_of (h.cl h7 j hj) _, fun hk => (by rw [also_self] at hk; cases hk), fun _ => ⟨a7, ?_⟩⟩
  · rw [updV_ne _ _ (by omega)]; exact h.told j hj (h.cl h7 j (by omega))
  · rw [updV_ne _ _ (by omega)]; exact h.zm h7
  · rw [updV_same, updV_ne _ _ (by omega)]
theorem SB.start (h : f (m + 2) = x0) : SB W m V x0 R Z (fun _ => false) f W.drew :=
  ⟨fun _ _ h => (by cases h), fun _ => (Below.refl _ W).drew, fun h => (by cases h), fun h => (by cases h), fun h => (by cases h), fun _ => h, fun h => (by cases h)⟩
end Go.Proofs.YtekokjechbibdaaDoor

namespace Go.Proofs.YtekokjechbibdaaDoor
set_option maxRecDepth 8000
open Go.RowKit Go.Maps
theorem region_invC {P : Program} {ops : Array Oper} {Q : Exit → Act → World → Prop} {id : Nat} {a : Act} {w : World} {J : (Nat → Bool) → Act → World → Prop} (hm : P.follows .mixedOrders = true) (hlow : lowB ops = true)
    (h0 : J (fun _ => false) a w.drew)
    (hstep : ∀ i o, ops[i]? = some o → ∀ L a' w, J L a' w → L i = false → (∀ e ∈ o.after, Region.binds .any e = true → L e.on = true) → (∀ j o', ops[j]? = some o' → L j = true → ∀ e ∈ o'.after, Region.binds .any e = true → L e.on = true) → wpOp P ops Q i (J (also L i)) a' w)
    (hend : ∀ L a' w, J L a' w → (∀ i, i < ops.size → L i = true) → Q .normal a' w) : (Code.region id ops true).wp P Q a w := by
  refine region_inv (J := fun L a w => J L a w ∧ ∀ j o', ops[j]? = some o' → L j = true → ∀ e ∈ o'.after, Region.binds .any e = true → L e.on = true) hm hlow ⟨h0, fun _ _ _ h => (by cases h)⟩ (fun i o ho L a' w' hJ hL hd => ?_) (fun L a' w' hJ hall => hend L a' w' hJ.1 hall)
  refine wpOp_mono (fun a2 w2 h2 => ⟨h2, fun j o' hj hlj e he hb => ?_⟩) (hstep i o ho L a' w' hJ.1 hL hd hJ.2)
  by_cases e1 : j = i
  · subst e1
    rw [ho] at hj
    cases hj
    exact also_of (hd e he hb) _
  · exact also_of (hJ.2 j o' hj (also_ne hlj e1) e he hb) _
end Go.Proofs.YtekokjechbibdaaDoor
