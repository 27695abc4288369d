/- makeEven: shortest walks between the pairs, added to the plan. -/
import Derived.Laws.EntriesVeiled
import Derived.Deep.RegionHeld3
import Derived.Test.YtkbgcbbloogdjacPlan
import Derived.Test.YtkbgcbbloogdjacForm
namespace Go.Proofs.Ytkbgcbbloogdjac
open Go.RowKit Go.Maps
attribute [local go_sem ↓] Go.wp_at_zero Go.wp_at_succ

theorem firstK_get {U : Nat → Nat} {k i : Nat} (h : i < k) : (firstK U k)[i]? = some (U i) := by
  simp [firstK, h]
/-- The first k steps of S are planned once more. -/
def addWay (S : Nat → Nat) (P : Nat → Nat → Int) : Nat → Nat → Nat → Int
  | 0 => P
  | k + 1 => addP (addWay S P k) (S k) (S (k + 1)) 1
/-- A shortest walk for each of the pairs is added. -/
def WaysAdd (N : Nat) (e : Nat → Nat → Bool) (O : Nat → Nat → Option Nat) : List Pair → (Nat → Nat → Int) → (Nat → Nat → Int) → Prop
  | [], P, P' => P' = P
  | p :: ps, P, P' => ∃ (u v D : Nat) (S : Nat → Nat), p = ((u : Int), (v : Int)) ∧ u < N ∧ D < N ∧ O u v = some D ∧ HomeTo N e (O u) v D D S ∧ WaysAdd N e O ps (addWay S P D) P'
theorem addP_le {P : Nat → Nat → Int} {c : Int} (h : ∀ a b, 0 ≤ P a b ∧ P a b ≤ c) (u v : Nat) : ∀ a b, 0 ≤ addP P u v 1 a b ∧ addP P u v 1 a b ≤ c + 1 := fun a b => by
  have := h a b
  unfold addP
  by_cases x : (a = u ∧ b = v) ∨ (a = v ∧ b = u)
  · rw [if_pos x]; omega
  · rw [if_neg x]; omega
theorem addWay_le {P : Nat → Nat → Int} {c : Int} (h : ∀ a b, 0 ≤ P a b ∧ P a b ≤ c) (S : Nat → Nat) : ∀ k, ∀ a b, 0 ≤ addWay S P k a b ∧ addWay S P k a b ≤ c + k
  | 0 => fun a b => by have := h a b; show 0 ≤ P a b ∧ P a b ≤ _; omega
  | k + 1 => fun a b => by
    have := addP_le (addWay_le h S k) (S k) (S (k + 1)) a b
    show 0 ≤ addP (addWay S P k) (S k) (S (k + 1)) 1 a b ∧ addP (addWay S P k) (S k) (S (k + 1)) 1 a b ≤ _
    omega
/-- The table of distances: a row for each of some nodes. -/
structure FarT (w : World) (gf N : Nat) (e : Nat → Nat → Bool) (l : List Nat) (bf : Nat → Nat) (O : Nat → Nat → Option Nat) : Prop where
  row : RowV w gf 29 N (fun i => if i ∈ l then .slice (some ⟨bf i, 0, none⟩) N N else .slice none 0 0)
  rows : ∀ v, v ∈ l → RowV w (bf v) 3 N (fun x => .int .i64 (farZ (O v x))) ∧ gf < bf v
  dist : ∀ v, v ∈ l → Dist N e v (O v)
theorem FarT.below {w w' : World} {gf N : Nat} {e : Nat → Nat → Bool} {l : List Nat} {bf : Nat → Nat} {O : Nat → Nat → Option Nat} (h : FarT w gf N e l bf O) (hb : Below w.heap.size w w') : FarT w' gf N e l bf O :=
  ⟨h.row.below hb, fun v hv => ⟨RowV.below (h.rows v hv).1 hb, (h.rows v hv).2⟩, h.dist⟩
theorem FarT.put {w w' : World} {gf N : Nat} {e : Nat → Nat → Bool} {l : List Nat} {bf : Nat → Nat} {O : Nat → Nat → Option Nat} (h : FarT w gf N e l bf O) (hb : Below w.heap.size w w') {v b : Nat} {o : Nat → Option Nat} (hgb : w.heap.size ≤ b) (hrow : RowV w' b 3 N (fun x => .int .i64 (farZ (o x)))) (hd : Dist N e v o) : FarT (w'.setCell ⟨gf, v, none⟩ (.slice (some ⟨b, 0, none⟩) N N)) gf N e (l ++ [v]) (fun x => if x = v then b else bf x) (fun x => if x = v then o else O x) := by
  have hgl := h.row.lt
  refine ⟨((h.row.below hb).set v _).congr (fun j _ => ?_), fun x hx => ?_, fun x hx => ?_⟩
  · by_cases c : j = v
    · subst c; simp
    · simp [c]
  · by_cases c : x = v
    · simp only [if_pos c]
      exact ⟨hrow.block (Below.heap_setCell _ _ _ _ (show b ≠ gf by omega)), by omega⟩
    · simp only [if_neg c]
      have hx' : x ∈ l := by simpa [c] using hx
      exact ⟨(RowV.below (h.rows x hx').1 hb).block (Below.heap_setCell _ _ _ _ (show bf x ≠ gf by have := (h.rows x hx').2; omega)), (h.rows x hx').2⟩
  · by_cases c : x = v
    · subst c; simp only [if_true]; exact hd
    · simp only [if_neg c]
      have hx' : x ∈ l := by simpa [c] using hx
      exact h.dist x hx'

/-- What nearestPairs is asked for. -/
def PairsDo (wn : World) (N : Nat) (e : Nat → Nat → Bool) (oo : Option Addr) (oc : Nat) (od : List Nat) (R : (Nat → Nat → Option Nat) → List Pair → Prop) : Prop :=
  ∀ (w' : World) (bx gf : Nat) (bf : Nat → Nat) (O : Nat → Nat → Option Nat), Below wn.heap.size wn w' → w'.cell? ⟨bx, 0, none⟩ = some (.slice (some ⟨gf, 0, none⟩) N N) → FarT w' gf N e od bf O →
    Calls Try.prog 57 #[.slice oo od.length oc, .func (.func 58) #[] #[.pointer (some ⟨bx, 0, none⟩)]] w' fun r w'' => ∃ po pc ps, r = .returned (.slice po ps.length pc) ∧ EdgesAt w'' (.slice po ps.length pc) ps ∧ R O ps ∧ (∀ x, po = some x → w'.heap.size ≤ x.block) ∧ Below w'.heap.size w' w''

set_option maxRecDepth 4000 in
set_option maxHeartbeats 4000000 in
theorem makeEven_call {wn w : World} {g N : Nat} {bs : Nat → Nat} {P : Nat → Nat → Int} (hP : PlanL w wn.heap.size g N bs P) (hP1 : ∀ a b, 0 ≤ P a b ∧ P a b ≤ 1) {ao : Option Addr} {cap : Nat} {ls : Nat → List Nat} {e : Nat → Nat → Bool} (hn : NearR wn ao N ls) (hr : Rows N ls e) (hls : ∀ i, i < N → ls i = (List.range N).filter (e i)) (hs : ∀ a b, a < N → b < N → e a b = true → e b a = true) (hN : N ≤ 100) (hwn : Below wn.heap.size wn w)
    {oo : Option Addr} {oc : Nat} {od : List Nat} (hod : ∀ k u : Nat, od[k]? = some u → u < N ∧ ∃ b, oo = some ⟨b, 0, none⟩ ∧ wn.cell? ⟨b, k, none⟩ = some (.int .i64 (u : Int))) (hol : od.length ≤ 100)
    {R : (Nat → Nat → Option Nat) → List Pair → Prop} (hpd : PairsDo wn N e oo oc od R) (hR : ∀ O ps, (∀ v, v ∈ od → Dist N e v (O v)) → R O ps → ps.length ≤ 6 ∧ ∀ p ∈ ps, ∃ u v D : Nat, p = ((u : Int), (v : Int)) ∧ u ∈ od ∧ v < N ∧ O u v = some D) :
    Calls Try.prog 43 #[.slice (some ⟨g, 0, none⟩) N N, .slice ao N cap, .slice oo od.length oc] w fun r w' => r = .returned (.tuple #[]) ∧ ∃ P' O ps, PlanL w' wn.heap.size g N bs P' ∧ (∀ v, v ∈ od → Dist N e v (O v)) ∧ R O ps ∧ WaysAdd N e O ps P P' ∧ Below wn.heap.size w w' := by
  obtain ⟨i29, hi29, hz0, hz1, hz2⟩ := info_parts Try.info29
  have HP : Hid _ := hP
  have HP1 : Hid _ := hP1
  have HN : Hid _ := hn
  have HR : Hid _ := hr
  have HL : Hid _ := hls
  have HS : Hid _ := hs
  have HOD : Hid _ := hod
  have HPD : Hid _ := hpd
  have HRR : Hid _ := hR
  have hodN : ∀ v, v ∈ od → v < N := fun v hv => by
    obtain ⟨k, hk⟩ := List.getElem?_of_mem hv
    exact (hod k v hk).1
  have HOD' : Hid _ := hodN
  have hsz := hwn.size
  clear hP hP1 hn hr hls hs hod hpd hR hodN
  go_enter Try.func43, Try.ntmps43
  go_upto_region 1 with (first
    | (at_make; refine wpList_make_full _ rfl _ _ 53 rfl w.heap.size 29 i29 (.slice none 0 0) 1 Try.underlying53 hi29 hz0 hz1 .i64 .i64 _ _ N rfl rfl rfl rfl ?_ ?_ ?_ ?_; (rw [hz2]; omega); (unfold maxLen; omega); (omega); intro W1 hmade hg1)
    | go_in)
  have hrow0 := rowV_made rfl hmade
  have hB0 : Below w.heap.size w W1 := (Below.refl _ _).grown hg1 (Nat.le_refl _) (fun k hk => by cases hk)
  clear hmade hg1
  have hl0 := hrow0.lt
  have t6 := one_new W1 (.slice (some ⟨w.heap.size, 0, none⟩) N N) 53
  have hrow1 := hrow0.below (below_alloc (Below.refl _ W1) (Obj.cells #[.slice (some ⟨w.heap.size, 0, none⟩) N N] 53))
  have hB1 := hB0.alloc hB0.size (Obj.cells #[.slice (some ⟨w.heap.size, 0, none⟩) N N] 53)
  obtain ⟨gb, hgb⟩ : ∃ gb, gb = W1.heap.size := ⟨_, rfl⟩
  rw [← hgb] at t6 ⊢
  generalize W1.alloc (Obj.cells #[.slice (some ⟨w.heap.size, 0, none⟩) N N] 53) = W at t6 hrow1 hB1 ⊢
  have hgb1 : w.heap.size < gb := by omega
  clear hrow0 hB0 hl0 hgb
  go_wp2
  go_loopw [18] (fun i wr => ∃ (k : Nat) (bf : Nat → Nat) (O : Nat → Nat → Option Nat), k ≤ od.length ∧ i = .int .i64 (k : Int) ∧ FarT wr w.heap.size N e (od.take k) bf O ∧ One wr gb (.slice (some ⟨w.heap.size, 0, none⟩) N N) 53 ∧ Below w.heap.size w wr) (fun i _ => od.length - (numOf i).toNat)
  case atStart => exact ⟨0, fun _ => 0, fun _ _ => none, Nat.zero_le _, rfl, ⟨hrow1.congr (fun j _ => by simp), fun v hv => by simp at hv, fun v hv => by simp at hv⟩, t6, hB1⟩
  case round =>
    obtain ⟨k, bf, O, hk, rfl, hft, s6, hB⟩ := hrel
    clear t6 hrow1 hB1
    have hbn := hwn.trans (hB.mono hsz)
    by_cases hko : k < od.length
    · obtain ⟨v, hv?⟩ : ∃ v, od[k]? = some v := ⟨od[k], List.getElem?_eq_getElem hko⟩
      obtain ⟨hvN, bo, rfl, c1⟩ := HOD.out k v hv?
      have c1' := (hbn.cell (by exact World.block_lt_of_cell? wn _ c1)).trans c1
      have i1 : (0 : Int) ≤ (k : Int) := by omega
      have i2 : (k : Int) < (od.length : Int) := by omega
      have i3 : (0 : Int) ≤ (v : Int) := by omega
      have i4 : (v : Int) < (N : Int) := by omega
      have c6 := cell_of_one s6
      have htk := take_at hv?
      have HTK : Hid _ := htk
      have HFT : Hid _ := hft
      have HS6 : Hid _ := s6
      have hcall := fun (hh : Unit) => farFrom_call (cap := cap) (w := wr.drew) (NearR.below (NearR.below HN.out hbn) (Below.refl _ wr).drew) HR.out hN hvN
      have HC : Hid _ := hcall
      clear htk hcall hft hv? s6
      go_upto_region 4 with (fail)
      go_region_with ((go_at_call 29; refine (HC.out ()).mono ?_; rintro r wa ⟨b, o, rfl, hgeb, hrowb, hdb, hbA⟩; have hbA' := (Below.refl wr.heap.size wr).drew.trans hbA; have d6 := cell_of_one (one_next HS6.out hbA'); have dr := (FarT.below HFT.out hbA').row; have dc := dr.cell hvN; have df := dr.free v))
      all_goals
        have hput := FarT.put HFT.out hbA' hgeb hrowb hdb
        rw [← HTK.out] at hput
        have s6' := one_far (b' := w.heap.size) (o := v) (u := .slice (some ⟨b, 0, none⟩) N N) (one_next HS6.out hbA') (by omega)
        have hB' := (below_next hB hbA').setCell (p := ⟨w.heap.size, v, none⟩) (Nat.le_refl _) (.slice (some ⟨b, 0, none⟩) N N)
        have HPUT : Hid _ := hput
        clear hput d6 dr dc df
        go_wp2
        go_roundw
        case rel => exact ⟨k + 1, _, _, by omega, by go_num, HPUT.out, s6', hB'⟩
        case measure => simp [numOf]; omega
    · have hke : od.length = k := by omega
      subst hke
      rw [List.take_length] at hft
      have hcall := HPD.out wr gb w.heap.size bf O hbn (cell_of_one s6) hft
      have HC : Hid _ := hcall
      have HFT : Hid _ := hft
      clear hcall hft
      go_upto_region 7 with (first
        | (go_at_call 57; refine Calls.mono HC.out ?_; rintro r wp ⟨po, pc, ps, rfl, hE, hRps, hpo, hbP⟩)
        | go_in)
      obtain ⟨hps6, hpsx⟩ := HRR.out O ps HFT.out.dist hRps
      have hBp := below_next hB hbP
      have hplp := HP.out.below (hBp.mono (Nat.le_refl _))
      have s6p := one_next s6 hbP
      have hftp := FarT.below HFT.out hbP
      have HPX : Hid _ := hpsx
      have HRP : Hid _ := hRps
      have HE : Hid _ := hE
      have hpo' : ∀ x, po = some x → w.heap.size ≤ x.block := fun x hx => Nat.le_trans hB.size (hpo x hx)
      have HPO : Hid _ := hpo'
      have HPL : Hid _ := hplp
      have HF2 : Hid _ := hftp
      have hbs : ∀ i, i < N → bs i < w.heap.size := fun i hi => (HP.out.rows i hi).lt
      have HBS : Hid _ := hbs
      clear hpsx hRps hE hpo hpo' hplp hftp hbs HC HFT s6 hB hbn hbP
      go_loopw [33] (fun i wq => ∃ (k : Nat) (P1 : Nat → Nat → Int), k ≤ ps.length ∧ i = .int .i64 (k : Int) ∧ PlanL wq wn.heap.size g N bs P1 ∧ (∀ a b, 0 ≤ P1 a b ∧ P1 a b ≤ 1 + 100 * (k : Int)) ∧ (∀ P2, WaysAdd N e O (ps.drop k) P1 P2 → WaysAdd N e O ps P P2) ∧ Turns (fun j => ∃ i, i < N ∧ j = bs i) wp wq) (fun i _ => ps.length - (numOf i).toNat)
      case atStart => exact ⟨0, P, Nat.zero_le _, rfl, HPL.out, fun a b => by have := HP1.out a b; omega, fun P2 h => by simpa using h, Turns.refl _ _⟩
      case round =>
        obtain ⟨k, P1, hk, rfl, hpl, hle, hway, hT⟩ := hrel
        have HLE : Hid _ := hle
        have HWA : Hid _ := hway
        have HQ : Hid _ := hpl
        clear hle hway hpl
        have hno : ∀ j, w.heap.size ≤ j → ¬ ∃ i, i < N ∧ j = bs i := fun j hj ⟨i, hi, e⟩ => by have := HBS.out i hi; omega
        have HNO : Hid _ := hno
        clear hno
        have hBw : Below wn.heap.size w wr := hT.below (hBp.mono hsz) (Nat.le_trans hsz hBp.size) (fun j ⟨i, hi, e⟩ => by rw [e]; exact (HP.out.ge.2 i hi))
        by_cases hkp : k < ps.length
        · obtain ⟨u, v, D, hpk, huo, hvN, hD⟩ := HPX.out (ps[k]) (List.getElem_mem hkp)
          have huN := HOD'.out u huo
          have hdrop : ps.drop k = ((u : Int), (v : Int)) :: ps.drop (k + 1) := by rw [List.drop_eq_getElem_cons hkp, hpk]
          have HDR : Hid _ := hdrop
          obtain ⟨_, _, e1, _, _, hcells⟩ := HE.out
          cases e1
          obtain ⟨bp, off, rfl, q0, q1⟩ := hcells k hkp
          rw [hpk] at q0 q1
          have hbp := HPO.out _ rfl
          have r0 := cell_turns q0 hT (HNO.out _ hbp)
          have r1 := cell_turns q1 hT (HNO.out _ hbp)
          have hru := (HF2.out.rows u huo)
          have hrq := RowV.turns hru.1 hT (HNO.out _ (by omega))
          have hrg := RowV.turns HF2.out.row hT (HNO.out _ (Nat.le_refl _))
          have s6q := one_turns s6p hT (HNO.out _ (by omega))
          have hBq : Below wn.heap.size wn wr := hwn.trans hBw
          have hdu := HF2.out.dist u huo
          have i1 : (0 : Int) ≤ (k : Int) := by omega
          have i2 : (k : Int) < (ps.length : Int) := by omega
          have HD : Hid _ := hD
          have HDU : Hid _ := hdu
          clear hdrop hcells hpk q0 q1 hru hD hdu
          go_upto_region 9 with (fail)
          have t10 := two_new wr (.int .i64 (u : Int)) (.int .i64 (v : Int)) 59
          have hba := below_alloc (Below.refl wr.heap.size wr) (Obj.cells #[.int .i64 (u : Int), .int .i64 (v : Int)] 59)
          have hpl9 := HQ.out.below hba
          have hn9 := NearR.below (NearR.below HN.out hBq) hba
          have hr9 := RowV.below hrq hba
          have c9 := (RowV.below hrg hba).cell huN
          simp only [if_pos huo] at c9
          have s9 := one_next s6q hba
          have hT9 := hT.trans (Turns.of_below hba _)
          have hsz9 := hBw.size
          obtain ⟨b10, hb10⟩ : ∃ b, b = wr.heap.size := ⟨_, rfl⟩
          rw [← hb10] at t10 ⊢
          have hb10w : w.heap.size ≤ b10 := by omega
          generalize wr.alloc (Obj.cells #[.int .i64 (u : Int), .int .i64 (v : Int)] 59) = W9 at t10 hpl9 hn9 hr9 c9 s9 hT9 ⊢
          clear hba hBq hrq hrg s6q r0 r1 hb10
          have hcall := home_call (w := W9.drew) (cap := cap) (NearR.below hn9 (Below.refl _ W9).drew) HL.out hN (RowV.below hr9 (Below.refl _ W9).drew) HDU.out HS.out hvN HD.out
          have HC : Hid _ := hcall
          have c6 := cell_of_one s9
          obtain ⟨z0, z1⟩ := cell_two t10
          have hkeep : ∀ w', Below W9.heap.size W9 w' → w'.cell? ⟨gb, 0, none⟩ = some (.slice (some ⟨w.heap.size, 0, none⟩) N N) ∧ w'.cell? ⟨b10, 0, none⟩ = some (.int .i64 (u : Int)) ∧ w'.cell? ⟨b10, 1, none⟩ = some (.int .i64 (v : Int)) ∧ w'.cell? ⟨w.heap.size, u, none⟩ = some (.slice (some ⟨bf u, 0, none⟩) N N) := fun w' hb =>
            ⟨(hb.cell (by exact World.block_lt_of_cell? W9 _ c6)).trans c6, (hb.cell (by exact World.block_lt_of_cell? W9 _ z0)).trans z0, (hb.cell (by exact World.block_lt_of_cell? W9 _ z1)).trans z1, (hb.cell (by exact World.block_lt_of_cell? W9 _ c9)).trans c9⟩
          have HK : Hid _ := hkeep
          have j1 : (0 : Int) ≤ (u : Int) := by omega
          have j2 : (u : Int) < (N : Int) := by omega
          have HQ9 : Hid _ := hpl9
          have HT9 : Hid _ := hT9
          clear hcall hkeep hn9 hr9 s9 t10 hpl9 hT9 hT
          go_region_held3 (fun w' => w'.cell? ⟨gb, 0, none⟩ = some (.slice (some ⟨w.heap.size, 0, none⟩) N N) ∧ w'.cell? ⟨b10, 0, none⟩ = some (.int .i64 (u : Int)) ∧ w'.cell? ⟨b10, 1, none⟩ = some (.int .i64 (v : Int)) ∧ w'.cell? ⟨w.heap.size, u, none⟩ = some (.slice (some ⟨bf u, 0, none⟩) N N))
            (first | exact hkk | exact HK.out _ (Below.refl _ _).drew | assumption | go_keep)
            ((go_at_call 32; refine Calls.mono HC.out ?_; rintro r wh ⟨pv, S, rfl, hho, hown, hbH⟩; have hbh := (Below.refl W9.heap.size W9).drew.trans hbH; have hkk := HK.out _ hbh))
          have hDN := HDU.out.lt hvN HD.out
          obtain ⟨gq, pc2, rfl, hgq, hcq⟩ : ∃ gq pc2, pv = .slice (some ⟨gq, 0, none⟩) (D + 1) pc2 ∧ W9.heap.size ≤ gq ∧ ∀ i, i ≤ D → wh.cell? ⟨gq, i, none⟩ = some (.int .i64 (S i : Int)) := by
            have hl := firstK_len S (D + 1)
            obtain ⟨po2, pc2, rfl⟩ := form_row hown
            have hg : ∀ i, i ≤ D → ∃ gq, po2 = some ⟨gq, 0, none⟩ ∧ wh.cell? ⟨gq, i, none⟩ = some (.int .i64 (S i : Int)) := fun i hi => qcell hown (firstK_get (by omega))
            obtain ⟨gq, rfl, _⟩ := hg 0 (Nat.zero_le _)
            refine ⟨gq, pc2, by rw [hl], (hown.lt gq rfl).1, fun i hi => ?_⟩
            obtain ⟨g', e', h'⟩ := hg i hi
            cases e'
            exact h'
          have HCQ : Hid _ := hcq
          have HHO : Hid _ := hho
          have hplh := HQ9.out.below hbh
          have hszh := hbh.size
          have hT9h := HT9.out.trans (Turns.of_below hbh _)
          have HPH : Hid _ := hplh
          have HT9H : Hid _ := hT9h
          obtain ⟨M, hM⟩ : ∃ M, M = D + 1 := ⟨_, rfl⟩
          rw [← hM]
          have HM : Hid _ := hM
          have hgw : w.heap.size ≤ gq := by have := HT9.out.size; have := hBp.size; omega
          clear hcq hho hown hplh hT9h hkk c6 z0 z1 c9 HK HC HQ9 HT9 hbH hbh hM
          go_upto_region 11 with (fail)
          go_loopw [12] (fun i wq => ∃ t : Nat, t + 1 ≤ M ∧ i = .int .i64 ((t : Int) + 1) ∧ PlanL wq wn.heap.size g N bs (addWay S P1 t) ∧ Turns (fun j => ∃ i, i < N ∧ j = bs i) wh wq) (fun i _ => M - (numOf i).toNat)
          case atStart => exact ⟨0, by have := HM.out; omega, rfl, HPH.out, Turns.refl _ _⟩
          case round =>
            obtain ⟨t, ht, rfl, hpt, hTt⟩ := hrel
            have HPT : Hid _ := hpt
            clear hpt
            by_cases htM : t + 1 < M
            · have htD : t + 1 ≤ D := by have := HM.out; omega
              have y0 := cell_turns (HCQ.out t (by omega)) hTt (HNO.out _ hgw)
              have y1 := cell_turns (HCQ.out (t + 1) htD) hTt (HNO.out _ hgw)
              have a1 := HHO.out.lt t (by omega)
              have a2 := HHO.out.lt (t + 1) htD
              have hne : S t ≠ S (t + 1) := fun h => by
                have h1 := a1.2
                have h2 := a2.2
                rw [h, h2] at h1
                have := Option.some.inj h1
                omega
              have hb := addWay_le HLE.out S t
              have hcall := planAdd_call (cap := N) (w := wr.drew) (z := 1) (HPT.out.below (Below.refl _ wr).drew) a1.1 a2.1 hne (by have := hb (S t) (S (t + 1)); omega) (by have := hb (S (t + 1)) (S t); omega)
              have HC : Hid _ := hcall
              have m1 : (0 : Int) ≤ (t : Int) := by omega
              have m2 : (t : Int) < (M : Int) := by omega
              have m3 : (0 : Int) ≤ (t : Int) + 1 := by omega
              have m4 : (t : Int) + 1 < (M : Int) := by omega
              have hM1 : M ≤ 1000 := by have := HM.out; omega
              have m5 : IntKind.i64.wrap (t : Int) = (t : Int) := Go.IntWalk.i64_in _ (by omega)
              clear hcall hb hne a1 a2
              go_upto_region 13 with (fail)
              go_region_held3 (fun w' => w'.cell? ⟨gq, t, none⟩ = some (.int .i64 (S t : Int)) ∧ w'.cell? ⟨gq, t + 1, none⟩ = some (.int .i64 (S (t + 1) : Int)))
                (first | exact hkk | exact ⟨y0, y1⟩ | assumption | go_keep)
                ((go_at_call 55; refine Calls.mono HC.out ?_; rintro r wz ⟨rfl, hpz, hTz⟩; have hTz' := (Turns.of_below (Below.refl _ wr).drew (fun j => ∃ i, i < N ∧ j = bs i)).trans (hTz.mono (fun j _ hj => hj.elim (fun e => ⟨_, (HHO.out.lt t (by omega)).1, e⟩) (fun e => ⟨_, (HHO.out.lt (t + 1) htD).1, e⟩))); have hkk := And.intro (cell_turns y0 hTz' (HNO.out _ hgw)) (cell_turns y1 hTz' (HNO.out _ hgw))))
              have HPZ : Hid _ := hpz
              clear hpz hkk
              go_wp2
              go_roundw
              case rel => exact ⟨t + 1, by omega, by go_num, HPZ.out, hTt.trans hTz'⟩
              case measure => simp [numOf]; omega
            · have htD : D = t := by have := HM.out; omega
              subst htD
              have hM1 : M ≤ 1000 := by have := HM.out; omega
              have m4 : ¬ (D : Int) + 1 < (M : Int) := by omega
              have hT2 := HT9H.out.trans hTt
              have hle2 := addWay_le HLE.out S D
              have HL2 : Hid _ := hle2
              clear hle2
              go_wp2
              go_roundw
              case rel =>
                refine ⟨k + 1, addWay S P1 D, by omega, by go_num, HPT.out, fun a b => ?_, fun P2 h2 => HWA.out P2 ?_, hT2⟩
                · have := HL2.out a b
                  omega
                · rw [HDR.out]
                  exact ⟨u, v, D, S, rfl, huN, hDN, HD.out, HHO.out, h2⟩
              case measure => simp [numOf]; omega
        · have hke : ps.length = k := by omega
          subst hke
          have hend := HWA.out P1 (by rw [List.drop_length]; rfl)
          have HEND : Hid _ := hend
          clear hend
          go_wp2
          go_end0
          exact ⟨rfl, P1, O, ps, HQ.out, HF2.out.dist, HRP.out, HEND.out, hBw⟩
end Go.Proofs.Ytkbgcbbloogdjac
