/- The kinds of a step: the drawn regions, of memory while the law plays. -/
import Derived.Test.YtfdlndljpmamgaaRegB
import Derived.Test.YtfdlndljpmamgaaLawN
namespace Go.Proofs.Ytfdlndljpmamgaa
set_option maxRecDepth 8000
open Go.RowKit Go.Maps
variable {w W : World} {bh bd k : Nat} {p : Nat → Hp} {b : Nat → Nat} {v : Nat → Value} {ds : Nat → List Dd} {b6 b9 b10 b11 : Nat} {c6 c11 : Array Value} {y9 y10 : Int × Int}
theorem upd_self {α : Type} (f : Nat → α) (i : Nat) : upd f i (f i) = f := by
  funext j
  unfold upd
  split
  · next h => rw [h]
  · rfl
theorem stored2_turns (W : World) (b : Nat) (F : Int × Int) : Turns (fun x => x = b) W (stored2 W b F) := (setCell_turns _ _ _ _).trans (setCell_turns _ _ _ _)
theorem box_apart {W : World} {b b' : Nat} {cs cs' : Array Value} {t t' : TypeId} (h : Box W b cs t) (h' : Box W b' cs' t') (ht : t ≠ t') : b ≠ b' := fun e => by
  subst e
  have q := (show W.heap[b]? = _ from h).symm.trans h'
  injection q with q
  injection q with _ q2
  exact ht q2
/-- Behind a step: the same fault lies in both boxes. -/
def Fin (w : World) (bh bd k : Nat) (b : Nat → Nat) (b9 b10 : Nat) (W : World) : Prop :=
  ∃ q v ds, ∃ F : Int × Int, LI w W bh bd k q b v ds ds ∧ Two W b9 (.int .i64 F.1) (.int .i64 F.2) 31 ∧ Two W b10 (.int .i64 F.1) (.int .i64 F.2) 31
theorem Bx.store9 (h : Bx W b6 b9 b10 b11 c6 c11 y9 y10) (hne : b9 ≠ b10) (F : Int × Int) : Bx (stored2 W b9 F) b6 b9 b10 b11 c6 c11 F y10 := by
  have hT := stored2_turns W b9 F
  refine ⟨(hT.block _ (lt_of_block h.x6) (box_apart h.x6 h.x9 (by decide))).trans h.x6, two_setN h.x9, (hT.block _ (lt_of_block h.x10) (fun e => hne e.symm)).trans h.x10, (hT.block _ (lt_of_block h.x11) (box_apart h.x11 h.x9 (by decide))).trans h.x11⟩
theorem Bx.store10 (h : Bx W b6 b9 b10 b11 c6 c11 y9 y10) (hne : b9 ≠ b10) (F : Int × Int) : Bx (stored2 W b10 F) b6 b9 b10 b11 c6 c11 y9 F := by
  have hT := stored2_turns W b10 F
  refine ⟨(hT.block _ (lt_of_block h.x6) (box_apart h.x6 h.x10 (by decide))).trans h.x6, (hT.block _ (lt_of_block h.x9) hne).trans h.x9, two_setN h.x10, (hT.block _ (lt_of_block h.x11) (box_apart h.x11 h.x10 (by decide))).trans h.x11⟩
theorem acted_ra {i : Nat} {es : List Dd} (hne : b9 ≠ b10) (h9 : w.heap.size ≤ b9) (h10 : w.heap.size ≤ b10) : RA (fun y9 y10 W => Acted w bh bd k b v ds i es b6 b9 b10 b11 c6 c11 y9 y10 W) b9 b10 := by
  refine ⟨?_, ?_, ?_, ?_⟩
  · rintro y9 y10 W ⟨q, hq, hx⟩
    exact hx.x9
  · rintro y9 y10 W ⟨q, hq, hx⟩
    exact hx.x10
  · rintro y9 y10 W F ⟨q, hq, hx⟩
    exact ⟨q, hq.box hx.x9 (by simp [OwnT]) h9 (stored2_turns W b9 F), hx.store9 hne F⟩
  · rintro y9 y10 W F ⟨q, hq, hx⟩
    exact ⟨q, hq.box hx.x10 (by simp [OwnT]) h10 (stored2_turns W b10 F), hx.store10 hne F⟩
theorem rd_of {x0 x1 : Value} {sa sb : ByteArray} {d : Int × ByteArray × ByteArray} {hs : Nat → List Dd} {k' : Nat} {q : Nat → Hp} (h : LI w W bh bd k' q b v hs ds) (hx : Bx W b6 b9 b10 b11 #[x0, x1, .string sa, .string sb] #[.int .i64 d.1, .string d.2.1, .string d.2.2] y9 y10) {i : Nat} (hi : i < 2) : Rd b6 bd i b11 d sa sb (v i) W :=
  ⟨box_cell hx.x6 rfl, box_cell hx.x6 rfl, h.cellD hi, box_cell hx.x11 rfl, box_cell hx.x11 rfl, box_cell hx.x11 rfl⟩
theorem rd_acted {x0 x1 : Value} {sa sb : ByteArray} {d : Int × ByteArray × ByteArray} {i : Nat} {es : List Dd} (h : LI w W bh bd k p b v ds ds) (hx : Bx W b6 b9 b10 b11 #[x0, x1, .string sa, .string sb] #[.int .i64 d.1, .string d.2.1, .string d.2.2] y9 y10) (hi : i < 2) :
    ∀ W', (W' = W.drew ∨ ∃ y9 y10, Acted w bh bd k b v ds i es b6 b9 b10 b11 #[x0, x1, .string sa, .string sb] #[.int .i64 d.1, .string d.2.1, .string d.2.2] y9 y10 W') → Rd b6 bd i b11 d sa sb (v i) W' := by
  rintro W' (rfl | ⟨z9, z10, q, hq, hx'⟩)
  · exact rd_of (h.step (Below.refl _ _).drew) (hx.below (Below.refl _ _).drew) hi
  · exact rd_of hq hx' hi
theorem kind29 {Q : Exit → Act → World → Prop} {a0 : Act} {x0 x1 : Value} {sa sb : ByteArray} {i : Nat}
    (hsz : a0.tmps.size = 288) (h8 : a0.tmps.getD 8 undef = ptr (b i)) (h6 : a0.tmps.getD 6 undef = ptr b6) (h4 : a0.tmps.getD 4 undef = .slice (some ⟨bd, 0, none⟩) 2 2) (h7 : a0.tmps.getD 7 undef = .int .i64 (i : Int)) (h9 : a0.tmps.getD 9 undef = ptr b9) (h10 : a0.tmps.getD 10 undef = ptr b10) (h11 : a0.tmps.getD 11 undef = ptr b11)
    (h : LI w W bh bd k p b v ds ds) (hx : Bx W b6 b9 b10 b11 #[x0, x1, .string sa, .string sb] #[.int .i64 1, .string sa, .string .empty] (0, 0) (0, 0)) (hk : k ≤ 200) (hi : i < 2) (ha : sa.size ≤ maxLen) (_ : sb.size ≤ maxLen) (hne : b9 ≠ b10) (hl9 : w.heap.size ≤ b9) (hl10 : w.heap.size ≤ b10)
    (hend : ∀ F es w', es = (if F.1 = 0 then ds i ++ [⟨1, sa, .empty⟩] else ds i) → es.length ≤ k + 1 → Acted w bh bd k b v ds i es b6 b9 b10 b11 #[x0, x1, .string sa, .string sb] #[.int .i64 1, .string sa, .string .empty] F F w' → Q .normal { a0 with tmps := put29 (b i) b6 bd i sa sb (v i) (1, sa, .empty) F a0.tmps } w') :
    (Code.region 29 ops29 true).wp Try.prog Q a0 W := by
  have hem : ByteArray.empty.size ≤ maxLen := by decide
  obtain ⟨F, es, hes, hel, hC, hC7⟩ := both_calls (h.step (Below.refl _ _).drew) (hx.below (Below.refl _ _).drew) hk hi ⟨1, sa, .empty⟩ (Or.inl ⟨rfl, rfl⟩) ha hem
  rw [if_pos rfl] at hC
  exact reg29 (d := (1, sa, .empty)) hsz h8 h6 h4 h7 h9 h10 h11 hi (acted_ra hne hl9 hl10) (rd_acted (d := (1, sa, .empty)) h hx hi) hC (fun W' hA => (hC7 W' hA).mono (by rintro e w' ⟨h1, _, h2⟩; exact ⟨h1, h2⟩)) (fun w' hA => hend F es w' hes hel hA)
theorem kind34 {Q : Exit → Act → World → Prop} {a0 : Act} {x0 x1 : Value} {sa sb : ByteArray} {i : Nat}
    (hsz : a0.tmps.size = 288) (h8 : a0.tmps.getD 8 undef = ptr (b i)) (h6 : a0.tmps.getD 6 undef = ptr b6) (h4 : a0.tmps.getD 4 undef = .slice (some ⟨bd, 0, none⟩) 2 2) (h7 : a0.tmps.getD 7 undef = .int .i64 (i : Int)) (h9 : a0.tmps.getD 9 undef = ptr b9) (h10 : a0.tmps.getD 10 undef = ptr b10) (h11 : a0.tmps.getD 12 undef = ptr b11)
    (h : LI w W bh bd k p b v ds ds) (hx : Bx W b6 b9 b10 b11 #[x0, x1, .string sa, .string sb] #[.int .i64 2, .string sa, .string sb] (0, 0) (0, 0)) (hk : k ≤ 200) (hi : i < 2) (ha : sa.size ≤ maxLen) (hb : sb.size ≤ maxLen) (hne : b9 ≠ b10) (hl9 : w.heap.size ≤ b9) (hl10 : w.heap.size ≤ b10)
    (hend : ∀ F es w', es = (if F.1 = 0 then ds i ++ [⟨2, sa, sb⟩] else ds i) → es.length ≤ k + 1 → Acted w bh bd k b v ds i es b6 b9 b10 b11 #[x0, x1, .string sa, .string sb] #[.int .i64 2, .string sa, .string sb] F F w' → Q .normal { a0 with tmps := put34 (b i) b6 bd i sa sb (v i) (2, sa, sb) F a0.tmps } w') :
    (Code.region 34 ops34 true).wp Try.prog Q a0 W := by
  obtain ⟨F, es, hes, hel, hC, hC7⟩ := both_calls (h.step (Below.refl _ _).drew) (hx.below (Below.refl _ _).drew) hk hi ⟨2, sa, sb⟩ (Or.inr (Or.inl rfl)) ha hb
  rw [if_neg (show ¬ (2 : Nat) = 1 by decide), if_pos rfl] at hC
  exact reg34 (d := (2, sa, sb)) hsz h8 h6 h4 h7 h9 h10 h11 hi (acted_ra hne hl9 hl10) (rd_acted (d := (2, sa, sb)) h hx hi) hC (fun W' hA => (hC7 W' hA).mono (by rintro e w' ⟨h1, _, h2⟩; exact ⟨h1, h2⟩)) (fun w' hA => hend F es w' hes hel hA)
theorem kind39 {Q : Exit → Act → World → Prop} {a0 : Act} {x0 x1 : Value} {sa sb : ByteArray} {i : Nat}
    (hsz : a0.tmps.size = 288) (h8 : a0.tmps.getD 8 undef = ptr (b i)) (h6 : a0.tmps.getD 6 undef = ptr b6) (h4 : a0.tmps.getD 4 undef = .slice (some ⟨bd, 0, none⟩) 2 2) (h7 : a0.tmps.getD 7 undef = .int .i64 (i : Int)) (h9 : a0.tmps.getD 9 undef = ptr b9) (h10 : a0.tmps.getD 10 undef = ptr b10) (h11 : a0.tmps.getD 13 undef = ptr b11)
    (h : LI w W bh bd k p b v ds ds) (hx : Bx W b6 b9 b10 b11 #[x0, x1, .string sa, .string sb] #[.int .i64 3, .string sa, .string sb] (0, 0) (0, 0)) (hk : k ≤ 200) (hi : i < 2) (ha : sa.size ≤ maxLen) (hb : sb.size ≤ maxLen) (hne : b9 ≠ b10) (hl9 : w.heap.size ≤ b9) (hl10 : w.heap.size ≤ b10)
    (hend : ∀ F es w', es = (if F.1 = 0 then ds i ++ [⟨3, sa, sb⟩] else ds i) → es.length ≤ k + 1 → Acted w bh bd k b v ds i es b6 b9 b10 b11 #[x0, x1, .string sa, .string sb] #[.int .i64 3, .string sa, .string sb] F F w' → Q .normal { a0 with tmps := put39 (b i) b6 bd i sa sb (v i) (3, sa, sb) F a0.tmps } w') :
    (Code.region 39 ops39 true).wp Try.prog Q a0 W := by
  obtain ⟨F, es, hes, hel, hC, hC7⟩ := both_calls (h.step (Below.refl _ _).drew) (hx.below (Below.refl _ _).drew) hk hi ⟨3, sa, sb⟩ (Or.inr (Or.inr rfl)) ha hb
  rw [if_neg (show ¬ (3 : Nat) = 1 by decide), if_neg (show ¬ (3 : Nat) = 2 by decide)] at hC
  exact reg39 (d := (3, sa, sb)) hsz h8 h6 h4 h7 h9 h10 h11 hi (acted_ra hne hl9 hl10) (rd_acted (d := (3, sa, sb)) h hx hi) hC (fun W' hA => (hC7 W' hA).mono (by rintro e w' ⟨h1, _, h2⟩; exact ⟨h1, h2⟩)) (fun w' hA => hend F es w' hes hel hA)
theorem cells_at {i : Nat} (hi : i < 2) (v : Nat → Value) : (#[v 0, v 1] : Array Value)[i]? = some (v i) := by
  rcases i with _ | _ | i
  · rfl
  · rfl
  · omega
/-- A box of a fault, where the deeds that are kept turn. -/
theorem two_deeds {i : Nat} {hs ds' : Nat → List Dd} {w2 : World} {x : Value} {c : Nat} {y z : Value} (h : LI w W bh bd k p b v hs ds') (hi : i < 2) (hT : Turns (fun x => (v i).ownBlock = some x) W w2) (h9 : Two W c y z 31) : Two (w2.setCell ⟨bd, i, none⟩ x) c y z 31 := by
  have h2 : Two w2 c y z 31 := (hT.block _ (lt_of_block h9) fun e => by
    obtain ⟨cs, hc⟩ := (h.ho i hi).row_obj e
    rw [show W.heap[c]? = _ from h9] at hc
    cases hc).trans h9
  refine ((setCell_turns w2 bd i x).block _ (lt_of_block h2) fun e => ?_).trans h2
  have hd : w2.heap[bd]? = W.heap[bd]? := hT.block _ (lt_of_block h.rowD) fun e => by
    obtain ⟨cs, hc⟩ := (h.ho i hi).row_obj e
    rw [show W.heap[bd]? = _ from h.rowD] at hc
    cases hc
  have h3 : w2.heap[c]? = some (.cells #[y, z] 31 (0, 0)) := h2
  rw [e, hd, show W.heap[bd]? = _ from h.rowD] at h3
  cases h3
/-- A deed more is kept: the boxes stand. -/
theorem pushed {i : Nat} {d : Dd} {F : Int × Int} {g c : Nat} {w2 : World} (hq : LI w W bh bd (k + 1) p b v (upd ds i (ds i ++ [d])) ds) (hx : Bx W b6 b9 b10 b11 c6 c11 F F) (hi : i < 2) (hl : (ds i).length ≤ k) (hA : App W w.heap.size (ds i).length (dv (ds i)) [.int .i64 (d.k : Int), .string d.a, .string d.b] (v i) g c w2) :
    Fin w bh bd (k + 1) b b9 b10 (w2.setCell ⟨bd, i, none⟩ (.slice (some ⟨g, 0, none⟩) ((ds i).length + 1) c)) := by
  have h1 := hq.step (Below.refl _ _).drew
  have h2 := h1.push hi hA.1 hA.2.1 hA.2.2 (by omega)
  have hT : Turns (fun x => (v i).ownBlock = some x) W w2 := (Turns.of_below (Below.refl _ _).drew _).trans (grown_turns (W := W.drew) hA.2.1)
  exact ⟨p, _, _, F, h2, two_deeds hq hi hT hx.x9, two_deeds hq hi hT hx.x10⟩
end Go.Proofs.Ytfdlndljpmamgaa
