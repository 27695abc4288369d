/- A house against the document's graph: what is told is overwritten. -/
import Derived.Test.YtfdlndljpmamgaaPlayU
import Derived.Test.YtfdlndljpmamgaaRegC
namespace Go.Proofs.Ytfdlndljpmamgaa
set_option maxRecDepth 8000
open Go.RowKit Go.Maps
attribute [local go_sem ↓] Go.wp_at_zero Go.wp_at_succ
/-- What hangs together is known; where it is kept is as old as the house, or lies above. -/
def Kn (p : Hp) (N : Nat) (E : Ed) (B1 : Nat) (W : World) : Prop := ∃ pv, Known W { p with pv := pv } N E ∧ ∀ x, pv.ownBlock = some x → p.pv.ownBlock = some x ∨ B1 ≤ x
theorem Kn.turns {p : Hp} {N B1 : Nat} {E : Ed} {W W' : World} {M : Nat → Prop} (h : Kn p N E B1 W) (hT : Turns M W W') (htb : ¬ M p.tb) (hpv : ∀ x, p.pv.ownBlock = some x → ¬ M x) (hM : ∀ x, M x → x < B1) : Kn p N E B1 W' := by
  obtain ⟨pv, ⟨lab, c, h1, h2, h3⟩, h4⟩ := h
  refine ⟨pv, ⟨lab, c, h1, h2.turns hT fun x hx hm => ?_, (hT.block _ (lt_of_block h3) htb).trans h3⟩, h4⟩
  rcases h4 x hx with h | h
  · exact hpv x h hm
  · have := hM x hm; omega
theorem Kn.below {p : Hp} {N B1 : Nat} {E : Ed} {W W' : World} (h : Kn p N E B1 W) (hb : Below W.heap.size W W') : Kn p N E B1 W' :=
  h.turns (Turns.of_below hb (fun _ => False)) (fun h => h) (fun _ _ h => h) (fun _ h => h.elim)
set_option maxHeartbeats 1000000 in
theorem parts_kn {w : World} {p : Hp} {L : List ByteArray} {E : Ed} {K : List Ck} {n B1 : Nat} (h : Hse w p L E K n) (hL : L.length ≤ 100) (hE : EdOk L.length E) (hB : B1 ≤ w.heap.size) :
    Calls Try.prog 20 #[ptr p.b] w fun e w' => ∃ lab c, Fnd L.length E lab c ∧ e = .returned (.int .i64 ((c : Nat) : Int)) ∧ Turns (fun x => x = p.tb) w w' ∧ Kn p L.length E B1 w' := by
  have CT := hid (together_tb h hL hE)
  clear h hL hE
  go_enter Try.func20, Try.ntmps20
  go_wp2_with (first | (go_at_call 40; refine Calls.mono CT.out ?_; rintro e w2 ⟨rfl, pv, hs, hk, hT, hm⟩; obtain ⟨lab, c, hf, c3, c4, hla⟩ := hk.fnd; have HP : Hid (Kn p L.length E B1 w2) := ⟨pv, hk, fun x hx => (hm x hx).imp id (fun h => Nat.le_trans hB h)⟩; have HT := hid hT; have HF := hid hf; clear hs hk hT hm hf hla; simp only at c3 c4) | go_in)
  go_ret
  exact ⟨lab, c, HF.out, rfl, HT.out, HP.out⟩
theorem Hse.tbBox {w : World} {p : Hp} {L : List ByteArray} {E : Ed} {K : List Ck} {n : Nat} (h : Hse w p L E K n) : ∃ cs, Box w p.tb cs 78 := by
  rcases h.2 with ⟨_, h2⟩ | ⟨_, _, _, _, h2⟩
  · exact ⟨_, h2⟩
  · exact ⟨_, h2⟩
theorem kn_ask {W2 W : World} {p : Hp} {L : List ByteArray} {E : Ed} {K : List Ck} {n B1 : Nat} (h : Hse W2 p L E K n) (hB : W2.heap.size ≤ B1) (hT : Turns (fun x => x = p.tb) W2 W) (hk : Kn p L.length E B1 W) : AskQ W2 W p L E K n := by
  obtain ⟨pv, hkn, hpv⟩ := hk
  obtain ⟨cs, htb⟩ := h.tbBox
  exact ask_mk (Known.hse (Hs.tog h.1 htb hT pv) hkn) (hT.mono fun k _ e => by simp [Hp.mine, e]) fun x hx => (hpv x hx).imp id (fun h => Nat.le_trans hB h)
/-- What stands while what a house told is overwritten. -/
structure Ov (W2 : World) (p : Hp) (N : Nat) (E : Ed) (B1 : Nat) (W : World) : Prop where
  turns : Turns (fun x => x = p.tb) W2 W
  kn : Kn p N E B1 W
theorem turns_past {M M' : Nat → Prop} {a b c : World} (h : Turns M a b) (k : Turns M' b c) (hM : ∀ x, M' x → a.heap.size ≤ x) : Turns M a c :=
  ⟨k.os.trans h.os, k.tape.trans h.tape, k.output.trans h.output, Nat.le_trans h.size k.size, fun z hz hn => (k.block z (Nat.lt_of_lt_of_le hz h.size) (fun e => by have := hM z e; omega)).trans (h.block z hz hn)⟩
theorem Ov.step {W2 W W' : World} {p : Hp} {L : List ByteArray} {E : Ed} {K : List Ck} {n B1 : Nat} {M : Nat → Prop} (h : Ov W2 p L.length E B1 W) (hH : Hse W2 p L E K n) (hT : Turns M W W') (hM : ∀ x, M x → W2.heap.size ≤ x ∧ x < B1) : Ov W2 p L.length E B1 W' := by
  refine ⟨turns_past h.turns hT fun x hx => (hM x hx).1, h.kn.turns hT (fun hm => ?_) (fun x hx hm => ?_) fun x hx => (hM x hx).2⟩
  · have h1 := hH.lt (x := p.tb) (by simp [Hp.mine])
    have := (hM _ hm).1
    omega
  · have h1 := hH.lt (x := x) (by simp [Hp.mine, hx])
    have := (hM _ hm).1
    omega
def Obs (W : World) (g : Nat) (t : TypeId) (m : Nat) : Prop := ∃ cur, Box W g cur t ∧ m ≤ cur.size
theorem Obs.set {W : World} {g m : Nat} {t : TypeId} (h : Obs W g t m) (i : Nat) (x : Value) : Obs (W.setCell ⟨g, i, none⟩ x) g t m := by
  obtain ⟨cur, h1, h2⟩ := h
  exact ⟨_, box_set h1 i x, by simpa using h2⟩
theorem Obs.far {W W' : World} {g g' m : Nat} {t : TypeId} (h : Obs W g t m) (hT : Turns (fun x => x = g') W W') (hne : g ≠ g') : Obs W' g t m := by
  obtain ⟨cur, h1, h2⟩ := h
  exact ⟨cur, (hT.block _ (lt_of_block h1) hne).trans h1, h2⟩
theorem Obs.cell {W : World} {g m : Nat} {t : TypeId} (h : Obs W g t m) {i : Nat} (hi : i < m) : ∃ x, W.cell? ⟨g, i, none⟩ = some x ∧ W.frozen? ⟨g, i, none⟩ = false := by
  obtain ⟨cur, h1, h2⟩ := h
  have h3 : i < cur.size := by omega
  exact ⟨cur[i], by rw [cell_of_row W g i cur t (0, 0) h1]; simp [h3], box_free h1 i⟩
theorem Obs.apart {W : World} {g g' m m' : Nat} {t t' : TypeId} (h : Obs W g t m) (h' : Obs W g' t' m') (ht : t ≠ t') : g ≠ g' := by
  obtain ⟨cur, h1, _⟩ := h
  obtain ⟨cur', h2, _⟩ := h'
  exact box_apart h1 h2 ht
/-- The rows that a house told. -/
structure Rw (W : World) (B0 B1 b20 N m : Nat) (no eo : Option Addr) (ec : Nat) : Prop where
  t20 : Two W b20 (.int .i64 (N : Int)) (.slice eo m ec) 42
  nm : N = 0 ∨ ∃ g, no = some ⟨g, 0, none⟩ ∧ Obs W g 9 N ∧ B0 ≤ g ∧ g < B1
  ed : m = 0 ∨ ∃ g, eo = some ⟨g, 0, none⟩ ∧ Obs W g 59 (m * 2) ∧ B0 ≤ g ∧ g < B1
theorem Rw.name {W : World} {B0 B1 b20 N m g ec : Nat} {eo : Option Addr} (h : Rw W B0 B1 b20 N m (some ⟨g, 0, none⟩) eo ec) (hO : Obs W g 9 N) (i : Nat) (x : Value) : Rw (W.setCell ⟨g, i, none⟩ x) B0 B1 b20 N m (some ⟨g, 0, none⟩) eo ec := by
  have hT := setCell_turns W g i x
  obtain ⟨cur, hb, _⟩ := id hO
  refine ⟨(hT.block _ (lt_of_block h.t20) (box_apart h.t20 hb (by decide))).trans h.t20, ?_, ?_⟩
  · rcases h.nm with h1 | ⟨g', h1, h2, h3⟩
    · exact Or.inl h1
    · injection h1 with h1
      injection h1 with h1
      subst h1
      exact Or.inr ⟨g, rfl, h2.set i x, h3⟩
  · rcases h.ed with h1 | ⟨g', h1, h2, h3⟩
    · exact Or.inl h1
    · exact Or.inr ⟨g', h1, h2.far hT (h2.apart hO (by decide)), h3⟩
theorem Rw.edge {W : World} {B0 B1 b20 N m g ec : Nat} {no : Option Addr} (h : Rw W B0 B1 b20 N m no (some ⟨g, 0, none⟩) ec) (hO : Obs W g 59 (m * 2)) (i : Nat) (x : Value) : Rw (W.setCell ⟨g, i, none⟩ x) B0 B1 b20 N m no (some ⟨g, 0, none⟩) ec := by
  have hT := setCell_turns W g i x
  obtain ⟨cur, hb, _⟩ := id hO
  refine ⟨(hT.block _ (lt_of_block h.t20) (box_apart h.t20 hb (by decide))).trans h.t20, ?_, ?_⟩
  · rcases h.nm with h1 | ⟨g', h1, h2, h3⟩
    · exact Or.inl h1
    · exact Or.inr ⟨g', h1, h2.far hT (h2.apart hO (by decide)), h3⟩
  · rcases h.ed with h1 | ⟨g', h1, h2, h3⟩
    · exact Or.inl h1
    · injection h1 with h1
      injection h1 with h1
      subst h1
      exact Or.inr ⟨g, rfl, h2.set i x, h3⟩
theorem obs_row {W : World} {base : Nat} {t : TypeId} {sz n : Nat} {ao : Option Addr} {n' cap : Nat} {xs : List Value} (h : W.ownsRow base t sz (.slice ao n' cap) n xs) (hn : n ≠ 0) : ∃ g, ao = some ⟨g, 0, none⟩ ∧ Obs W g t (n * sz) ∧ base ≤ g ∧ g < W.heap.size := by
  rcases h.2 with ⟨_, h0⟩ | ⟨g, cap', cur, h1, h2, h3, h4, _, h5, _⟩
  · exact absurd h0 hn
  · injection h1 with h1 _ _
    exact ⟨g, h1, ⟨cur, h3, by rw [h5]; exact Nat.mul_le_mul_right _ h4⟩, h2, lt_of_block h3⟩
theorem row_form {W : World} {base : Nat} {t : TypeId} {sz n : Nat} {y : Value} {xs : List Value} (h : W.ownsRow base t sz y n xs) : ∃ ao cap, y = .slice ao n cap := by
  rcases h.2 with ⟨h1, h0⟩ | ⟨g, cap, _, h1, _⟩
  · exact ⟨none, 0, by rw [h1, h0]⟩
  · exact ⟨_, cap, h1⟩
section
variable {w W2 W0 : World} {bh bd k : Nat} {q : Nat → Hp} {b : Nat → Nat} {v : Nat → Value} {ds : Nat → List Dd}
/-- The region that holds a house against the document's graph, of memory while the law plays. -/
theorem hold54 {Q : Exit → Act → World → Prop} {a0 : Act} {j b20 b22 : Nat} {no no2 eo eo2 : Option Addr} {nc nc2 ec ec2 : Nat} {L : List ByteArray} {E : Ed} {K : List Ck} {n : Nat}
    (hli : LI w W2 bh bd k q b v ds ds) (hj : j < 2) (hk : k ≤ 200) (hH : Hse W2 (q j) L E K n) (hD : Dn (ds j) L E K) (hB : Below W2.heap.size W2 W0)
    (t20 : Two W0 b20 (.int .i64 (L.length : Int)) (.slice eo (allP L.length (eB E)).length ec) 42) (t22 : Two W0 b22 (.int .i64 (L.length : Int)) (.slice eo2 (allP L.length (eB E)).length ec2) 42) (l20 : W2.heap.size ≤ b20) (l22 : W2.heap.size ≤ b22)
    (hev : W0.ownsRow W2.heap.size 59 2 (.slice eo (allP L.length (eB E)).length ec) (allP L.length (eB E)).length (flat (allP L.length (eB E))))
    (hev2 : EdgesAt W0 (.slice eo2 (allP L.length (eB E)).length ec2) (allP L.length (eB E))) (hev3 : ∀ x, (Value.slice eo2 (allP L.length (eB E)).length ec2).ownBlock = some x → W2.heap.size ≤ x)
    (hnv : W0.ownsRow W2.heap.size 9 1 (.slice no L.length nc) L.length (sv L)) (hnv2 : W0.ownsRow W2.heap.size 9 1 (.slice no2 L.length nc2) L.length (sv L))
    (hsz : a0.tmps.size = 288) (h20 : a0.tmps.getD 20 undef = ptr b20) (h22 : a0.tmps.getD 22 undef = ptr b22) (h21 : a0.tmps.getD 21 undef = .slice no L.length nc) (h23 : a0.tmps.getD 23 undef = .slice no2 L.length nc2) (h3 : a0.tmps.getD 3 undef = .slice (some ⟨bh, 0, none⟩) 2 2) (h19 : a0.tmps.getD 19 undef = .int .i64 (j : Int))
    (hend : ∀ w' C go gc, Ov W2 (q j) L.length E W0.heap.size w' → Rw w' W2.heap.size W0.heap.size b20 L.length (allP L.length (eB E)).length no eo ec → Q .normal { a0 with tmps := put54 bh j (b j) L.length (.slice eo (allP L.length (eB E)).length ec) (.slice eo2 (allP L.length (eB E)).length ec2) (.slice no L.length nc) (.slice no2 L.length nc2) C go gc a0.tmps } w') :
    (Code.region 54 ops54 true).wp Try.prog Q a0 W0 := by
  have h0 := hli.ho j hj
  have hlen := h0.lenH
  have hl := hD.len
  have hed := hD.ed
  have hcnt := hD.count
  have hB0 : W2.heap.size ≤ W0.heap.size := hB.size
  have htbl := hH.lt (x := (q j).tb) (by simp [Hp.mine])
  have hrow : ∀ {W : World}, Turns (fun x => x = (q j).tb) W0 W → ∀ {t : TypeId} {sz m : Nat} {y : Value} {ys : List Value}, W0.ownsRow W2.heap.size t sz y m ys → W.ownsRow W2.heap.size t sz y m ys := fun hT _ _ _ _ _ hr => ownsRow_blocks hr fun x hx => hT.block x (hr.lt x hx).2 fun e => by have := (hr.lt x hx).1; omega
  have hI64 : ∀ e ∈ allP L.length (eB E), I64 e.1 ∧ I64 e.2 := fun e he => by
    obtain ⟨u, t, h1, h2, _, rfl⟩ := allP_mem.1 he
    constructor <;> unfold I64 <;> simp <;> omega
  obtain ⟨R, hR⟩ := ex2 (fun v x => Star (St L.length (pn fun i j => hasB (allP L.length (eB E)) i j) (openB fun _ => false)) v x)
  have hR2 : ∀ v x, v < L.length → x < L.length → (R v x = true ↔ Star (St2 L.length E) v x) := fun v x _ _ => (hR v x).trans (steps_tab hed v x)
  refine reg54 (eo := eo) (ec := ec) (el := (allP L.length (eB E)).length) (eo2 := eo2) (ec2 := ec2) (el2 := (allP L.length (eB E)).length) (tb := (q j).tb) (b20 := b20) (b22 := b22) (bh := bh) (j := j) (hb := b j) (N := L.length) (es := allP L.length (eB E)) (L := L) (C := (partsN L.length (openB fun _ => false) R : Int)) (Kn := Kn (q j) L.length E W0.heap.size) (p := fun i j => hasB (allP L.length (eB E)) i j) hsz h20 h22 h21 h23 h3 h19 hj hl.2.2 ?_ (fun _ _ h hb => h.below hb) ?_ ?_ ?_ ?_
  · intro W hT
    have z20 : Two W b20 _ _ 42 := (hT.block _ (lt_of_block t20) (fun e => by omega)).trans t20
    have z22 : Two W b22 _ _ 42 := (hT.block _ (lt_of_block t22) (fun e => by omega)).trans t22
    have hbh : Box W bh #[ptr (b 0), ptr (b 1)] 24 := by
      have h1 : Box W0 bh #[ptr (b 0), ptr (b 1)] 24 := (hB.block _ (lt_of_block hli.rowH)).trans hli.rowH
      exact (hT.block _ (lt_of_block h1) (fun e => hH.off hli.rowH (by simp [OwnT]) (by rw [e]; simp [Hp.mine]))).trans h1
    refine ⟨(cell_two z20).1, (cell_two z20).2, (cell_two z22).1, (cell_two z22).2, ?_, edgesAt_row (hrow hT hev) hI64 (by omega), edges_kept hev2 hT (fun x hx e => by have := hev3 x hx; omega), strs_own (hrow hT hnv), strs_own (hrow hT hnv2)⟩
    rcases j with _ | _ | j
    · exact box_cell hbh rfl
    · exact box_cell hbh rfl
    · omega
  · intro W hW
    rw [← h0.at_]
    refine Calls.mono (parts_kn (B1 := W0.heap.size) (hH.below (below_next hB hW)) hl.2.2 hed hW.size) ?_
    rintro e w' ⟨lab, c, hf, rfl, hT, hk'⟩
    rw [← hf.parts (fun _ => rfl) hR2]
    exact ⟨rfl, hT, hk'⟩
  · intro W hE
    exact tab_law hD (by omega) hE
  · intro W go gc hG
    exact parts_call L.length go gc _ W hG hl.2.2 (shutAt_nil W _) R hR
  · intro w' go gc hT hk'
    refine hend w' _ go gc ⟨(Turns.of_below hB _).trans hT, hk'⟩ ⟨(hT.block _ (lt_of_block t20) (fun e => by omega)).trans t20, ?_, ?_⟩
    · by_cases hz : L.length = 0
      · exact Or.inl hz
      · obtain ⟨g, h1, h2, h3', h4⟩ := obs_row (hrow hT hnv) hz
        have h5 := (hnv.lt g (by rw [h1]; rfl)).2
        exact Or.inr ⟨g, h1, by simpa using h2, h3', h5⟩
    · by_cases hz : (allP L.length (eB E)).length = 0
      · exact Or.inl hz
      · obtain ⟨g, h1, h2, h3', h4⟩ := obs_row (hrow hT hev) hz
        have h5 := (hev.lt g (by rw [h1]; rfl)).2
        exact Or.inr ⟨g, h1, h2, h3', h5⟩
end
end Go.Proofs.Ytfdlndljpmamgaa
