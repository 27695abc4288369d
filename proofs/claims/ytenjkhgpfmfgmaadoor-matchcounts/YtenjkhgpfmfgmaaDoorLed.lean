/- meet: the first base that is on both ways. lead: back along an even way. fold: a flower more. -/
import Derived.Test.YtenjkhgpfmfgmaaDoorPairBase
import Derived.Test.YtenjkhgpfmfgmaaDoorFlowers
import Derived.BigQuiet
namespace Go.Proofs.YtenjkhgpfmfgmaaDoor
open Go.RowKit Go.Maps
attribute [local go_sem ↓] Go.wp_at_zero Go.wp_at_succ

section
variable {w w' : World} {bp base g bm N : Nat} {ls : Nat → List Nat} {m : Nat → Option Nat} {be bf bb : Nat} {q : Value} {ev : Nat → Bool} {f : Nat → Option Nat} {bs dep : Nat → Nat} {Q : List Nat} {E : Nat → Nat → Prop} {r : Nat}

theorem Srch.bslt (hs : Srch N E m r ev f bs dep) {x : Nat} (hx : x < N) : bs x < N := by
  by_cases e : bs x = x
  · rw [e]; exact hx
  · exact hs.evlt _ (hs.ebs x (hs.be x e))

/-- One step of a chain. -/
theorem Srch.link (hs : Srch N E m r ev f bs dep) {y : Nat} {a b : Nat} {l : List Nat} (hy : ev y = true) (hc : Chain m f bs y (a :: l) b) : a = bs y ∧ ∃ x w, m (bs y) = some x ∧ f x = some w ∧ ev w = true ∧ dep (bs w) < dep (bs y) ∧ Chain m f bs w l b := by
  obtain ⟨e, x, w, h1, h2, h3⟩ := hc
  refine ⟨e, x, w, e ▸ h1, h2, hs.fev _ _ h2, ?_, h3⟩
  rcases hs.out (bs y) (hs.ebs y hy) (hs.bb y) with e1 | ⟨x', w', e1, e2, e3, e4⟩
  · rw [e, e1, hs.rlone] at h1; cases h1
  · rw [← e, h1] at e1; cases e1
    rw [h2] at e3; cases e3
    exact e4

set_option maxHeartbeats 2000000 in
theorem meet_call (h : PSt w bp base g bm N ls m be bf bb q ev f bs Q) (hN : N ≤ 1000) (hM : Mat N E m) (hs : Srch N E m r ev f bs dep) {u v b : Nat} {lu lv : List Nat} (hu : ev u = true) (hv : ev v = true)
    (cu : Chain m f bs u lu r) (cv : Chain m f bs v lv b) (hb : b ∈ lu ++ [r]) (hlv : ∀ c ∈ lv, c ∉ lu ++ [r]) :
    Calls Tryd.prog 80 #[.pointer (some ⟨bp, 0, none⟩), .int .i64 (u : Int), .int .i64 (v : Int)] w fun e w' => e = .returned (.int .i64 (b : Int)) ∧ Below w.heap.size w w' := by
  have hmm := @run_makeMap Tryd.prog
  have H : Hid _ := h
  have HM : Hid _ := hM
  have HS : Hid _ := hs
  have HU : Hid _ := hu
  have HV : Hid _ := hv
  have HCU : Hid _ := cu
  have HCV : Hid _ := cv
  have HB : Hid _ := hb
  have HLV : Hid _ := hlv
  have HR := hs.rlone
  have c1 := box_cell h.box (i := 1) rfl
  have c3 := box_cell h.box (i := 3) rfl
  have c4 := box_cell h.box (i := 4) rfl
  have hl1 := lt_of_block h.box
  clear h hM hs hu hv cu cv hb hlv
  go_enter Tryd.func80, Tryd.ntmps80
  go_wp2
  clear c1 c3 c4
  go_loopw [1] (fun i wr => ∃ (y : Nat) (done rest : List Nat), i = .int .i64 (y : Int) ∧ ev y = true ∧ lu = done ++ rest ∧ Chain m f bs y rest r ∧ SetN wr w.heap.size N (fun k => decide (k ∈ done)) ∧ Below w.heap.size w wr) (fun i _ => dep (bs (numOf i).toNat))
  case atStart => exact ⟨u, [], lu, rfl, HU.out, rfl, HCU.out, (setN_made w N).congr (fun x _ => by simp), (Below.refl _ _).alloc (Nat.le_refl _) _⟩
  case round =>
    obtain ⟨y, done, rest, rfl, hy, hlu, hch, hS, hB⟩ := hrel
    have hst := H.out.below hB
    have hyN := HS.out.evlt y hy
    have hbN := HS.out.bslt hyN
    have HY : Hid _ := hy
    have HLU : Hid _ := hlu
    have HCH : Hid _ := hch
    have c1 := box_cell hst.box (i := 1) rfl
    have c3 := box_cell hst.box (i := 3) rfl
    have c4 := box_cell hst.box (i := 4) rfl
    have cb := hst.bas.cell hyN
    have i1 : (0 : Int) ≤ (y : Int) := by omega
    have i2 : (y : Int) < (N : Int) := by omega
    have i3 : (0 : Int) ≤ (bs y : Int) := by omega
    have i4 : (bs y : Int) < (N : Int) := by omega
    obtain ⟨w1, hrun, hS1, ht1⟩ := hS.store6 (u := bs y) (by omega) hbN
    have hT1 := turned_turns ht1
    have hB1 : Below w.heap.size w w1 := hT1.below hB hB.size (fun k e => by omega)
    have hst1 := H.out.below hB1
    have d1 := box_cell hst1.box (i := 1) rfl
    have d3 := box_cell hst1.box (i := 3) rfl
    have d4 := box_cell hst1.box (i := 4) rfl
    have dm := hst1.mate.cell hbN
    have HST1 : Hid _ := hst1
    clear hy hlu hch hst hst1 hT1 ht1
    cases rest with
    | nil =>
      have hbr : bs y = r := HCH.out
      have hset : SetN w1 w.heap.size N (fun k => decide (k ∈ lu ++ [r])) := hS1.congr (fun x _ => by rw [HLU.out, hbr]; simp [Bool.or_comm, Bool.beq_eq_decide_eq])
      rw [show m (bs y) = none from (congrArg m hbr).trans HR] at dm
      have hfz : farZ none = -1 := rfl
      rw [hfz] at dm
      have HBR : Hid _ := hbr
      clear hS hS1 hbr
      go_wp2
      clear c1 c3 c4 cb d1 d3 d4 dm hrun
      have hBX := hB1
      have HST : Hid _ := HST1.out
      go_loopw [2] (fun i wr => ∃ (y : Nat) (done rest : List Nat), i = .int .i64 (y : Int) ∧ ev y = true ∧ lv = done ++ rest ∧ Chain m f bs y rest b ∧ SetN wr w.heap.size N (fun k => decide (k ∈ lu ++ [r])) ∧ Below w.heap.size w wr) (fun i _ => dep (bs (numOf i).toNat))
      case atStart => exact ⟨v, [], lv, rfl, HV.out, rfl, HCV.out, hset, hB1⟩
      case round =>
        obtain ⟨y, done, rest, rfl, hy, hlu, hch, hS, hB⟩ := hrel
        clear hset hBX HST HBR HLU HCH HY i1 i2 i3 i4
        have hst := H.out.below hB
        have hyN := HS.out.evlt y hy
        have hbN := HS.out.bslt hyN
        have c1 := box_cell hst.box (i := 1) rfl
        have c3 := box_cell hst.box (i := 3) rfl
        have c4 := box_cell hst.box (i := 4) rfl
        have cb := hst.bas.cell hyN
        have i1 : (0 : Int) ≤ (y : Int) := by omega
        have i2 : (y : Int) < (N : Int) := by omega
        have i3 : (0 : Int) ≤ (bs y : Int) := by omega
        have i4 : (bs y : Int) < (N : Int) := by omega
        have hlk := hS.look6 (u := bs y) (by omega) hbN
        have dm := hst.mate.cell hbN
        have hBa : Below w.heap.size w (wr.alloc (Obj.cells #[] 98)) := hB.alloc hB.size _
        cases rest with
        | nil =>
          have hbr : bs y = b := hch
          rw [show decide (bs y ∈ lu ++ [r]) = true from by rw [hbr]; simpa using HB.out] at hlk
          have HBR : Hid _ := hbr
          clear hst hch hlu hbr
          go_wp2
          go_ret
          refine ⟨?_, hBa⟩; have hq := HBR.out; simp [hq]
        | cons a rest =>
          obtain ⟨ha, x, z, hx, hz, hze, hdz, hcz⟩ := HS.out.link hy hch
          rw [show decide (bs y ∈ lu ++ [r]) = false from by have := HLV.out a (by rw [hlu]; simp); rw [ha] at this; simpa using this] at hlk
          have hxN := (HM.out.lt _ _ hx).2
          have hzN := HS.out.evlt z hze
          have ds := hst.src.cell hxN
          rw [hx] at dm
          rw [hz] at ds
          have z1 : farZ (some x) = (x : Int) := rfl
          have z2 : farZ (some z) = (z : Int) := rfl
          rw [z1] at dm
          rw [z2] at ds
          have j1 : (0 : Int) ≤ (x : Int) := by omega
          have j2 : (x : Int) < (N : Int) := by omega
          have HLU : Hid _ := hlu
          have HZ : Hid _ := hze
          have HCZ : Hid _ := hcz
          have HST : Hid _ := hst
          clear hx hz hze hcz z1 z2 hlu ha hy hch hst
          have hS2 : SetN (wr.alloc (Obj.cells #[] 98)) w.heap.size N (fun k => decide (k ∈ lu ++ [r])) := SetN.block hS (Below.heap_alloc _ _ _ hS.lt)
          have hst2 := H.out.below hBa
          have e1 := box_cell hst2.box (i := 1) rfl
          have e3 := box_cell hst2.box (i := 3) rfl
          have em := (hst2.mate.cell hbN).trans ((HST.out.mate.cell hbN).symm.trans dm)
          have es := (hst2.src.cell hxN).trans ((HST.out.src.cell hxN).symm.trans ds)
          clear hst2
          go_upto_region 10 with (fail)
          generalize wr.alloc (Obj.cells #[] 98) = W2 at hBa hS2 e1 e3 em es ⊢
          clear c1 c3 c4 cb dm ds hlk
          go_quiet (fail)
          go_wp2
          have hBd : Below W2.heap.size W2 (W2.drewN nq) := below_drewN (Below.refl _ _) nq
          go_roundw
          case rel => exact ⟨z, done ++ [a], rest, rfl, HZ.out, by rw [HLU.out]; simp, HCZ.out, SetN.block hS2 (hBd.block _ hS2.lt), below_drewN hBa nq⟩
          case measure => simpa [numOf] using hdz
    | cons a rest =>
      obtain ⟨ha, x, z, hx, hz, hze, hdz, hcz⟩ := HS.out.link HY.out HCH.out
      have hxN := (HM.out.lt _ _ hx).2
      have hzN := HS.out.evlt z hze
      have ds := HST1.out.src.cell hxN
      rw [hx] at dm
      rw [hz] at ds
      have z1 : farZ (some x) = (x : Int) := rfl
      have z2 : farZ (some z) = (z : Int) := rfl
      rw [z1] at dm
      rw [z2] at ds
      have j1 : (0 : Int) ≤ (x : Int) := by omega
      have j2 : (x : Int) < (N : Int) := by omega
      have j3 : ((x : Int) == -1) = false := by simp
      have hset : SetN w1 w.heap.size N (fun k => decide (k ∈ done ++ [a])) := hS1.congr (fun k _ => by rw [ha]; simp [Bool.or_comm, Bool.beq_eq_decide_eq])
      have HA : Hid _ := ha
      have HZ : Hid _ := hze
      have HCZ : Hid _ := hcz
      clear hS hS1 ha hx hz hze hcz z1 z2
      go_upto_region 5 with (fail)
      go_quiet (fail)
      go_wp2
      have hBd : Below w1.heap.size w1 (w1.drewN nq) := below_drewN (Below.refl _ _) nq
      go_roundw
      case rel => exact ⟨z, done ++ [a], rest, rfl, HZ.out, by rw [HLU.out]; simp, HCZ.out, SetN.block hset (hBd.block _ hset.lt), below_drewN hB1 nq⟩
      case measure => simpa [numOf] using hdz
end
end Go.Proofs.YtenjkhgpfmfgmaaDoor

namespace Go.Proofs.YtenjkhgpfmfgmaaDoor
open Go.RowKit Go.Maps
attribute [local go_sem ↓] Go.wp_at_zero Go.wp_at_succ

/-- How many come from x on. -/
def pos : List Nat → Nat → Nat
  | [], _ => 0
  | a :: l, x => if a = x then l.length + 1 else pos l x
theorem pos_at : ∀ (d : List Nat) (x : Nat) (l : List Nat), x ∉ d → pos (d ++ x :: l) x = l.length + 1
  | [], x, l, _ => by simp [pos]
  | a :: d, x, l, h => by
    have ha : ¬ a = x := fun e => h (by simp [e])
    rw [List.cons_append, pos, if_neg ha]
    exact pos_at d x l (fun hh => h (by simp [hh]))
theorem pos_off : ∀ (l : List Nat) (x : Nat), x ∉ l → pos l x = 0
  | [], _, _ => rfl
  | a :: l, x, h => by
    rw [pos, if_neg (fun e => h (by simp [e]))]
    exact pos_off l x (fun hh => h (by simp [hh]))

theorem ledF_congr {m f g : Nat → Option Nat} {x : Nat} (h : f x = g x) : ∀ (l : List Nat) (a : Option Nat), ledF m f a l x = ledF m g a l x
  | [], _ => h
  | y :: l, a => by
    rw [ledF, ledF]
    split
    · rfl
    · exact ledF_congr h l _
theorem ledF_step {m f : Nat → Option Nat} {y a x0 : Nat} {l : List Nat} (hn : y ∉ l) (hm : m y = some x0) : ledF m (fun x => if x = y then some a else f x) (some x0) l = ledF m f (some a) (y :: l) := by
  funext x
  rw [ledF]
  by_cases e : x = y
  · subst e
    rw [ledF_off hn]; simp
  · rw [if_neg e, hm]
    exact ledF_congr (by simp [e]) l _

section
variable {w w' : World} {bp base g bm N : Nat} {ls : Nat → List Nat} {m : Nat → Option Nat} {be bf bb : Nat} {q : Value} {ev : Nat → Bool} {f : Nat → Option Nat} {bs dep : Nat → Nat} {Q : List Nat} {E : Nat → Nat → Prop} {r : Nat}

set_option maxRecDepth 4000 in
set_option maxHeartbeats 2000000 in
theorem lead_call (h : PSt w bp base g bm N ls m be bf bb q ev f bs Q) (hN : N ≤ 1000) {u b z bi a0 : Nat} {l : List Nat} {S0 : Nat → Bool} (hbi : base ≤ bi ∧ bi ≠ be ∧ bi ≠ bf ∧ bi ≠ bb ∧ q.ownBlock ≠ some bi) (hS : SetN w bi N S0)
    (hw : Way m f u l z) (hsim : Simple m l z) (hz : bs z = b) (hzN : z < N) (hlN : ∀ y ∈ l, y < N ∧ bs y < N ∧ bs y ≠ b ∧ ∀ x, m y = some x → x < N ∧ bs x < N) :
    Calls Tryd.prog 81 #[.pointer (some ⟨bp, 0, none⟩), .int .i64 (u : Int), .int .i64 (a0 : Int), .int .i64 (b : Int), .map (some bi)] w fun e w' => e = .returned (.tuple #[]) ∧ PSt w' bp base g bm N ls m be bf bb q ev (ledF m f (some a0) l) bs Q ∧ Turns (fun k => k = bf ∨ k = bi) w w' ∧ ∃ S, SetN w' bi N S ∧ ∀ c, S c = true ↔ S0 c = true ∨ Ins m bs l c := by
  have H : Hid _ := h
  have HBI : Hid _ := hbi
  have HSIM : Hid _ := hsim
  have HLN : Hid _ := hlN
  have HW : Hid _ := hw
  have HS0 : Hid _ := hS
  have HZ : Hid _ := hz
  clear h hbi hsim hlN hw hS hz
  go_enter Tryd.func81, Tryd.ntmps81
  go_wp2
  go_loopw [1, 2, 10] (fun vy va _ wr => ∃ (y a : Nat) (done rest : List Nat) (f' : Nat → Option Nat) (S : Nat → Bool), vy = .int .i64 (y : Int) ∧ va = .int .i64 (a : Int) ∧ l = done ++ rest ∧ Way m f y rest z ∧ PSt wr bp base g bm N ls m be bf bb q ev f' bs Q ∧ ledF m f' (some a) rest = ledF m f (some a0) l ∧ (∀ x, x ∉ l → f' x = f x) ∧ SetN wr bi N S ∧ (∀ c, S c = true ↔ S0 c = true ∨ Ins m bs done c) ∧ Turns (fun k => k = bf ∨ k = bi) w wr) (fun vy _ _ _ => pos l (numOf vy).toNat)
  case atStart => exact ⟨u, a0, [], l, f, S0, rfl, rfl, rfl, HW.out, H.out, rfl, fun _ _ => rfl, HS0.out, fun c => by simp [Ins], Turns.refl _ _⟩
  case round =>
    obtain ⟨y, a, done, rest, f', S, rfl, rfl, hl, hwy, hst, hled, hoff, hS, hSi, hT⟩ := hrel
    have c4 := box_cell hst.box (i := 4) rfl
    cases rest with
    | nil =>
      have hyz : y = z := hwy
      subst hyz
      have cb := hst.bas.cell hzN
      have i1 : (0 : Int) ≤ (y : Int) := by omega
      have i2 : (y : Int) < (N : Int) := by omega
      have i3 : (((bs y : Nat) : Int) == (b : Int)) = true := by rw [HZ.out]; simp
      have HST : Hid _ := hst
      have HLED : Hid _ := hled
      have HL : Hid _ := hl
      have HSI : Hid _ := hSi
      clear hst hled hl hSi hoff hwy
      go_wp2
      go_end0
      refine ⟨rfl, ?_, hT, S, hS, fun c => ?_⟩
      · rw [← HLED.out]; exact HST.out
      · rw [HSI.out c, HL.out, List.append_nil]
    | cons d rest =>
      obtain ⟨hdy, x, z', hx, hzf, hrest⟩ := hwy
      subst hdy
      have hdl : d ∈ l := by rw [hl]; simp
      obtain ⟨hdN, hbdN, hbdb, hxl⟩ := HLN.out d hdl
      obtain ⟨hxN, hbxN⟩ := hxl x hx
      have hxo := (HSIM.out.off d hdl x hx)
      have hz'N : z' < N := by
        cases rest with
        | nil => rw [show z' = z from hrest]; exact hzN
        | cons c rest => rw [← hrest.1]; exact (HLN.out c (by rw [hl]; simp)).1
      have hnd : d ∉ done ∧ d ∉ rest := by
        have hn := HSIM.out.nodup
        rw [hl] at hn
        have hn2 := List.nodup_append.1 hn
        exact ⟨fun hh => hn2.2.2 d hh d (by simp) rfl, (List.nodup_cons.1 hn2.2.1).1⟩
      have hp1 : pos l d = rest.length + 1 := by rw [hl]; exact pos_at done d rest hnd.1
      have hp2 : pos l z' < rest.length + 1 := by
        cases rest with
        | nil => rw [show z' = z from hrest, pos_off l z HSIM.out.last]; omega
        | cons c rest =>
          have hc : c ∉ done ++ [d] := fun hh => by
            have hn := HSIM.out.nodup
            rw [hl, show done ++ d :: c :: rest = (done ++ [d]) ++ c :: rest by simp] at hn
            exact (List.nodup_append.1 hn).2.2 c hh c (by simp) rfl
          rw [← hrest.1, hl, show done ++ d :: c :: rest = (done ++ [d]) ++ c :: rest by simp, pos_at _ c rest hc]
          simp
      have cb := hst.bas.cell hdN
      have c1 := box_cell hst.box (i := 1) rfl
      have cm := hst.mate.cell hdN
      rw [hx] at cm
      have z1 : farZ (some x) = (x : Int) := rfl
      rw [z1] at cm
      have i1 : (0 : Int) ≤ (d : Int) := by omega
      have i2 : (d : Int) < (N : Int) := by omega
      have i3 : (((bs d : Nat) : Int) == (b : Int)) = false := by simp; omega
      obtain ⟨w1, hr1, hS1, ht1⟩ := hS.store6 (u := bs d) (by omega) hbdN
      have hT1 := turned_turns ht1
      have hst1 := hst.turns hT1 (fun k e => by rw [e]; exact HBI.out)
      have d4 := box_cell hst1.box (i := 4) rfl
      have dx := hst1.bas.cell hxN
      have j1 : (0 : Int) ≤ (x : Int) := by omega
      have j2 : (x : Int) < (N : Int) := by omega
      obtain ⟨w2, hr2, hS2, ht2⟩ := hS1.store6 (u := bs x) (by omega) hbxN
      have hT2 := turned_turns ht2
      have hst2 := hst1.turns hT2 (fun k e => by rw [e]; exact HBI.out)
      have e3 := box_cell hst2.box (i := 3) rfl
      have es := hst2.src.cell hdN
      have ef := hst2.src.free d
      have hst3 := hst2.setSrc d (some a) (a : Int) rfl
      have hT3 := setCell_turns w2 bf d (.int .i64 (a : Int))
      have hS3 : SetN (w2.setCell ⟨bf, d, none⟩ (.int .i64 (a : Int))) bi N (fun k => k == bs x || (k == bs d || S k)) := hS2.turns hT3 (fun e => HBI.out.2.2.1 e)
      have k3 := box_cell hst3.box (i := 3) rfl
      have ks := hst3.src.cell hxN
      have hxd : ¬ x = d := fun e => hxo.1 (e ▸ hdl)
      rw [if_neg hxd, hoff x hxo.1, hzf] at ks
      have z2 : farZ (some z') = (z' : Int) := rfl
      rw [z2] at ks
      have hTT : Turns (fun k => k = bf ∨ k = bi) w (w2.setCell ⟨bf, d, none⟩ (.int .i64 (a : Int))) := ((hT.trans (hT1.mono fun k _ e => Or.inr e)).trans (hT2.mono fun k _ e => Or.inr e)).trans (hT3.mono fun k _ e => Or.inl e)
      have hled' := (ledF_step (f := f') (a := a) hnd.2 hx).trans hled
      have hoff' : ∀ x, x ∉ l → (if x = d then some a else f' x) = f x := fun y hy => by rw [if_neg (fun (e : y = d) => hy (e ▸ hdl))]; exact hoff y hy
      have hSi' : ∀ c, (c == bs x || (c == bs d || S c)) = true ↔ S0 c = true ∨ Ins m bs (done ++ [d]) c := fun c => by
        simp only [Bool.or_eq_true, beq_iff_eq, hSi c]
        constructor
        · rintro (e | e | e | e)
          · exact Or.inr ⟨d, by simp, Or.inr ⟨x, hx, e.symm⟩⟩
          · exact Or.inr ⟨d, by simp, Or.inl e.symm⟩
          · exact Or.inl e
          · obtain ⟨y, hy, hh⟩ := e
            exact Or.inr ⟨y, by simp [hy], hh⟩
        · rintro (e | ⟨y, hy, hh⟩)
          · exact Or.inr (Or.inr (Or.inl e))
          · rcases List.mem_append.1 hy with hy | hy
            · exact Or.inr (Or.inr (Or.inr ⟨y, hy, hh⟩))
            · simp at hy
              subst hy
              rcases hh with hh | ⟨x', hx', hh⟩
              · exact Or.inr (Or.inl hh.symm)
              · rw [hx] at hx'; cases hx'
                exact Or.inl hh.symm
      have HST : Hid _ := hst3
      have HLED : Hid _ := hled'
      have HL : Hid _ := hl
      have HSI : Hid _ := hSi'
      have HOFF : Hid _ := hoff'
      have HR : Hid _ := hrest
      have HP1 : Hid _ := hp1
      have HP2 : Hid _ := hp2
      clear hst hst1 hst2 hst3 hled hled' hl hSi hSi' hoff hoff' hrest hx hzf hdl hxl hxo z1 z2 hT1 hT2 hT3 ht1 ht2 hT hS hS1 hS2 hxd hbdb hnd hp1 hp2
      go_upto_region 5 with (fail)
      generalize w2.setCell ⟨bf, d, none⟩ (.int .i64 (a : Int)) = W3 at HST hTT hS3 k3 ks ⊢
      clear c1 c4 cb cm d4 dx e3 es ef hr1 hr2
      go_quiet (fail)
      go_wp2
      have hBd : Below W3.heap.size W3 (W3.drewN nq) := below_drewN (Below.refl _ _) nq
      go_roundw
      case rel => exact ⟨z', x, done ++ [d], rest, _, _, rfl, rfl, by rw [HL.out]; simp, HR.out, HST.out.below hBd, HLED.out, HOFF.out, SetN.block hS3 (hBd.block _ hS3.lt), HSI.out, hTT.trans (Turns.of_below hBd _)⟩
      case measure => (have q1 := HP1.out; have q2 := HP2.out; simp [numOf, q1]; omega)
end
end Go.Proofs.YtenjkhgpfmfgmaaDoor

namespace Go.Proofs.YtenjkhgpfmfgmaaDoor
open Go.RowKit Go.Maps
attribute [local go_sem ↓] Go.wp_at_zero Go.wp_at_succ

theorem chain_first {m f : Nat → Option Nat} {bs : Nat → Nat} (P : Nat → Prop) : ∀ {l : List Nat} {y r : Nat}, Chain m f bs y l r → P r → ∃ l1 b, Chain m f bs y l1 b ∧ P b ∧ ∀ c ∈ l1, ¬ P c
  | [], y, r, h, hr => ⟨[], r, h, hr, by simp⟩
  | a :: l, y, r, ⟨h1, x, z, h2, h3, h4⟩, hr => by
    by_cases hp : P a
    · exact ⟨[], a, h1.symm, hp, by simp⟩
    · obtain ⟨l1, b, g1, g2, g3⟩ := chain_first P h4 hr
      exact ⟨a :: l1, b, ⟨h1, x, z, h2, h3, g1⟩, g2, fun c hc => (List.mem_cons.1 hc).elim (fun e => e ▸ hp) (g3 c)⟩
theorem chain_cut {m f : Nat → Option Nat} {bs : Nat → Nat} : ∀ {l : List Nat} {y r b : Nat}, Chain m f bs y l r → b ∈ l ++ [r] → ∃ l1, Chain m f bs y l1 b ∧ ∀ c ∈ l1, c ∈ l
  | [], y, r, b, h, hb => by
    simp at hb
    exact ⟨[], hb ▸ h, by simp⟩
  | a :: l, y, r, b, ⟨h1, x, z, h2, h3, h4⟩, hb => by
    by_cases e : b = a
    · exact ⟨[], e ▸ h1.symm, by simp⟩
    · have hb' : b ∈ l ++ [r] := by
        rw [List.cons_append] at hb
        exact (List.mem_cons.1 hb).resolve_left e
      obtain ⟨l1, g1, g2⟩ := chain_cut h4 hb'
      exact ⟨a :: l1, ⟨h1, x, z, h2, h3, g1⟩, fun c hc => (List.mem_cons.1 hc).elim (fun e => by simp [e]) (fun h => by simp [g2 c h])⟩

section
variable {w w' : World} {bp base g bm N : Nat} {ls : Nat → List Nat} {m : Nat → Option Nat} {be bf bb : Nat} {q : Value} {ev : Nat → Bool} {f : Nat → Option Nat} {bs dep : Nat → Nat} {Q : List Nat} {E : Nat → Nat → Prop} {r : Nat}

theorem Led.apart {u v b zu zv : Nat} {lu lv pu pv : List Nat} (hM : Mat N E m) (hu : Led m f bs ev dep u lu b pu zu) (hv : Led m f bs ev dep v lv b pv zv) (hd : ∀ c ∈ lu, c ∉ lv) : (∀ y ∈ pu, y ∉ pv) ∧ (∀ y ∈ pv, ∀ x, m y = some x → x ∉ pu) := by
  refine ⟨fun y hy hy' => hd _ (hu.bases y hy) (hv.bases y hy'), fun y hy x hx hx' => ?_⟩
  obtain ⟨y', hx1, h2⟩ := hu.mate x hx'
  rw [hM.sym _ _ hx] at hx1; cases hx1
  rcases h2 with h2 | h2
  · exact hd _ (hu.bases x hx') (h2 ▸ hv.bases y hy)
  · have := hv.evs y hy
    rw [h2.2] at this; cases this

/-- What both ways look like. -/
theorem Srch.both (hs : Srch N E m r ev f bs dep) (hM : Mat N E m) {u v : Nat} (hu : ev u = true) (hv : ev v = true) :
    ∃ lr b lu lv pu zu pv zv, Chain m f bs u lr r ∧ Chain m f bs v lv b ∧ b ∈ lr ++ [r] ∧ (∀ c ∈ lv, c ∉ lr ++ [r]) ∧ Led m f bs ev dep u lu b pu zu ∧ Led m f bs ev dep v lv b pv zv ∧ ∀ c ∈ lu, c ∉ lv := by
  obtain ⟨lr, hr⟩ := hs.chain (dep (bs u) + 1) u (by omega) hu
  obtain ⟨lw, hw⟩ := hs.chain (dep (bs v) + 1) v (by omega) hv
  obtain ⟨lv, b, h1, h2, h3⟩ := chain_first (fun c => c ∈ lr ++ [r]) hw (by simp)
  obtain ⟨lu, h4, h5⟩ := chain_cut hr h2
  obtain ⟨pu, zu, g1, _⟩ := hs.led hM hu h4
  obtain ⟨pv, zv, g2, _⟩ := hs.led hM hv h1
  exact ⟨lr, b, lu, lv, pu, zu, pv, zv, hr, h1, h2, h3, g1, g2, fun c hc hc' => h3 c hc' (by simp [h5 c hc])⟩

theorem Led.small (hs : Srch N E m r ev f bs dep) (hM : Mat N E m) {u b z : Nat} {lu p : List Nat} (h : Led m f bs ev dep u lu b p z) : z < N ∧ ∀ y ∈ p, y < N ∧ bs y < N ∧ bs y ≠ b ∧ ∀ x, m y = some x → x < N ∧ bs x < N := by
  refine ⟨hs.evlt z h.fine, fun y hy => ?_⟩
  have hyN := hs.evlt y (h.evs y hy)
  exact ⟨hyN, hs.bslt hyN, fun e => Nat.lt_irrefl _ (h.deep b (e ▸ h.bases y hy)), fun x hx => ⟨(hM.lt _ _ hx).2, hs.bslt (hM.lt _ _ hx).2⟩⟩

set_option maxRecDepth 4000 in
set_option maxHeartbeats 4000000 in
theorem fold_call {D : Nat → Nat → Prop} (h : PSt w bp base g bm N ls m be bf bb q ev f bs Q) (hN : N ≤ 1000) (hM : Mat N E m) (hsy : ∀ a b, E a b → E b a) (hk : Seek N E m r ev f bs dep Q D) {u v : Nat} (hu : ev u = true) (hv : ev v = true) (huv : E u v) :
    Calls Tryd.prog 55 #[.pointer (some ⟨bp, 0, none⟩), .int .i64 (u : Int), .int .i64 (v : Int)] w fun e w' => e = .returned (.tuple #[]) ∧ Turns (Wr bp base) w w' ∧ ∃ q' ev' f' bs' t, PSt w' bp base g bm N ls m be bf bb q' ev' f' bs' (Q ++ t) ∧ Seek N E m r ev' f' bs' dep (Q ++ t) (fun a b => D a b ∨ (a = v ∧ b = u)) := by
  have hs := hk.srch
  obtain ⟨lr, b, lu, lv, pu, zu, pv, zv, hcr, hcv, hb, hlv, hLu, hLv, hd⟩ := hs.both hM hu hv
  obtain ⟨hap1, hap2⟩ := hLu.apart hM hLv hd
  obtain ⟨hzu, hsu⟩ := hLu.small hs hM
  obtain ⟨hzv, hsv⟩ := hLv.small hs hM
  have hmeet := meet_call h hN hM hs hu hv hcr hcv hb hlv
  have hbN : b < N := by rw [← hLu.fin]; exact hs.bslt hzu
  obtain ⟨f1, hf1⟩ : ∃ f1, f1 = ledF m f (some v) pu := ⟨_, rfl⟩
  obtain ⟨f2, hf2⟩ : ∃ f2, f2 = ledF m f1 (some u) pv := ⟨_, rfl⟩
  have hw1 : Way m f1 v pv zv := hLv.way.congr fun z hz x hx => by rw [hf1]; exact ledF_off (hap2 z hz x hx)
  have hg : ∀ z, z ∉ pu → z ∉ pv → f2 z = f z := fun z h1 h2 => by rw [hf2, ledF_off h2, hf1, ledF_off h1]
  have hru : Rev m f2 v pu := ledF_rev hLu.simple.nodup (fun y hy => by obtain ⟨x, hx, _⟩ := hLu.mate y hy; exact ⟨x, hx⟩) (f := f) fun z hz => by rw [hf2, ledF_off (hap1 z hz), hf1]
  have hrv : Rev m f2 u pv := ledF_rev hLv.simple.nodup (fun y hy => by obtain ⟨x, hx, _⟩ := hLv.mate y hy; exact ⟨x, hx⟩) (f := f1) fun z hz => by rw [hf2]
  have hmm := @run_makeMap Tryd.prog
  have huN := hs.evlt u hu
  have hvN := hs.evlt v hv
  have HMT : Hid _ := hmeet
  have H : Hid _ := h
  have HM : Hid _ := hM
  have HK : Hid _ := hk
  have HSY : Hid _ := hsy
  have HLU : Hid _ := hLu
  have HLV : Hid _ := hLv
  have HW1 : Hid _ := hw1
  have HG : Hid _ := hg
  have HRU : Hid _ := hru
  have HRV : Hid _ := hrv
  have HF1 : Hid _ := hf1
  have HF2 : Hid _ := hf2
  have HSU : Hid _ := hsu
  have HSV : Hid _ := hsv
  have HD : Hid _ := hd
  have HU : Hid _ := hu
  have HV : Hid _ := hv
  have HE : Hid _ := huv
  clear h hM hk hsy hLu hLv hw1 hg hru hrv hf1 hf2 hsu hsv hd hu hv huv hmeet hap1 hap2 hcr hcv hb hlv hs
  go_enter Tryd.func55, Tryd.ntmps55
  go_upto_region 1 with (go_at_call 80; refine Calls.mono HMT.out ?_; rintro e W1 ⟨rfl, hB1⟩)
  have hst1 := H.out.below hB1
  have hsz1 := hst1.even.lt
  have hsz2 := hst1.src.lt
  have hsz3 := hst1.bas.lt
  have hge := hst1.ge
  have hq1 : ∀ k, q.ownBlock = some k → k < W1.heap.size := fun k hk => (hst1.qlt hk).2
  obtain ⟨bi, hbi⟩ : ∃ bi, bi = W1.heap.size := ⟨_, rfl⟩
  have hset0 : SetN (W1.alloc (.map #[] 0)) bi N (fun _ => false) := hbi ▸ setN_made W1 N
  have hBI : base ≤ bi ∧ bi ≠ be ∧ bi ≠ bf ∧ bi ≠ bb ∧ q.ownBlock ≠ some bi := ⟨by omega, by omega, by omega, by omega, fun hh => by have := hq1 bi hh; omega⟩
  have hst2 := hst1.below (below_alloc (Below.refl _ W1) (.map #[] 0))
  have hT2 : Turns (Wr bp base) w (W1.alloc (.map #[] 0)) := Turns.of_below ((hB1.alloc hB1.size _)) _
  go_upto_region 2 with (fail)
  rw [← hbi]
  generalize W1.alloc (.map #[] 0) = W2 at hset0 hst2 hT2 ⊢
  clear hst1 hsz1 hsz2 hsz3 hq1 hB1 hbi
  have hl1 := lead_call (a0 := v) hst2 hN hBI hset0 HLU.out.way HLU.out.simple HLU.out.fin hzu HSU.out
  rw [← HF1.out] at hl1
  have HL1 : Hid _ := hl1
  have HBI : Hid _ := hBI
  clear hl1 hset0 hst2 hBI
  go_upto_region 3 with (go_at_call 81; refine Calls.mono HL1.out ?_; rintro e W3 ⟨rfl, hst3, hT3, S1, hset3, hS1⟩)
  have hT3' : Turns (Wr bp base) w W3 := hT2.trans (hT3.mono fun k _ e => Or.inr (by have := HBI.out; rcases e with e | e <;> omega))
  have hl2 := lead_call (a0 := u) hst3 hN HBI.out hset3 HW1.out HLV.out.simple HLV.out.fin hzv HSV.out
  rw [← HF2.out] at hl2
  have HL2 : Hid _ := hl2
  have HS1 : Hid _ := hS1
  clear hl2 hset3 hst3 hT2 hT3 hS1 HL1
  go_upto_region 4 with (go_at_call 81; refine Calls.mono HL2.out ?_; rintro e W4 ⟨rfl, hst4, hT4, S, hset4, hS2⟩)
  have hT4' : Turns (Wr bp base) w W4 := hT3'.trans (hT4.mono fun k _ e => Or.inr (by have := HBI.out; rcases e with e | e <;> omega))
  have hS : ∀ c, S c = true ↔ Ins m bs pu c ∨ Ins m bs pv c := fun c => by
    rw [hS2 c, HS1.out c]; simp
  have HS : Hid _ := hS
  have c4 := box_cell hst4.box (i := 4) rfl
  have HST4 : Hid _ := hst4
  clear hS hS2 HS1 hT3' hT4 HL2 hst4
  go_wp2
  clear c4
  go_loopw [8, 9, 10, 34] (fun _ _ _ i wr => ∃ (k : Nat) (q' : Value) (t : List Nat), k ≤ N ∧ i = .int .i64 (k : Int) ∧ PSt wr bp base g bm N ls m be bf bb q' (fun x => ev x || (decide (x < k) && S (bs x))) f2 (fun x => if (decide (x < k) && S (bs x)) = true then b else bs x) (Q ++ t) ∧ (Q ++ t).Nodup ∧ (∀ x, x ∈ Q ++ t ↔ (ev x || (decide (x < k) && S (bs x))) = true) ∧ SetN wr bi N S ∧ q'.ownBlock ≠ some bi ∧ Turns (Wr bp base) w wr) (fun _ _ _ i _ => N - (numOf i).toNat)
  case atStart => exact ⟨0, q, [], Nat.zero_le _, rfl, by simpa using HST4.out, by simpa using HK.out.nodup, fun x => by simpa using HK.out.mem x, hset4, HBI.out.2.2.2.2, hT4'⟩
  case round =>
    obtain ⟨k, q', t, hkN, rfl, hst, hnd, hmem, hset, hqb, hT⟩ := hrel
    clear hset4 hT4'
    have hlen : (Q ++ t).length ≤ 1000 := by
      have := nat_nodup_len (Q ++ t) (List.range N) hnd (fun e he => by
        have h1 := (hmem e).1 he
        simp only [Bool.or_eq_true, Bool.and_eq_true, decide_eq_true_eq] at h1
        rcases h1 with h1 | h1
        · simpa using HK.out.srch.evlt e h1
        · simp; omega)
      simp at this ⊢
      omega
    by_cases hk : k < N
    · have hst5 := hst.below (below_alloc (Below.refl _ wr) (Obj.cells #[] 98))
      have hset5 : SetN (wr.alloc (Obj.cells #[] 98)) bi N S := SetN.block hset (Below.heap_alloc _ _ _ hset.lt)
      have hT5 : Turns (Wr bp base) w (wr.alloc (Obj.cells #[] 98)) := hT.trans (alloc_turns _ _ _)
      have c4 := box_cell hst.box (i := 4) rfl
      have cb := hst.bas.cell hk
      have hkk : decide (k < k) = false := by simp
      rw [hkk] at cb
      simp only [Bool.false_and, Bool.false_eq_true, if_false] at cb
      have hbk := HK.out.srch.bslt hk
      have hlk := hset.look6 (u := bs k) (by omega) hbk
      have i1 : (0 : Int) ≤ (k : Int) := by omega
      have i2 : (k : Int) < (N : Int) := by omega
      have HND : Hid _ := hnd
      have HMEM : Hid _ := hmem
      have HST5 : Hid _ := hst5
      have HSET5 : Hid _ := hset5
      clear hst hst5 hnd hmem hset hset5 hkk
      cases hSk : S (bs k)
      · rw [hSk] at hlk
        have e1 : ∀ x, (decide (x < k + 1) && S (bs x)) = (decide (x < k) && S (bs x)) := fun x => by
          by_cases e : x = k
          · subst e; simp [hSk]
          · have : (x < k + 1) ↔ x < k := by omega
            simp [this]
        have E1 : Hid _ := e1
        clear e1
        go_wp2
        go_roundw
        case rel =>
          refine ⟨k + 1, q', t, by omega, by go_num, ?_, HND.out, fun x => ?_, HSET5.out, hqb, hT5⟩
          · exact HST5.out.congr (fun x _ => by rw [E1.out x]) (fun _ _ => rfl) (fun x _ => by rw [E1.out x])
          · rw [E1.out x]; exact HMEM.out x
        case measure => simp [numOf]; omega
      · rw [hSk] at hlk
        have hst6 := HST5.out.setBas k b
        have hT6 := setCell_turns (wr.alloc (Obj.cells #[] 98)) bb k (.int .i64 (b : Int))
        have hset6 : SetN ((wr.alloc (Obj.cells #[] 98)).setCell ⟨bb, k, none⟩ (.int .i64 (b : Int))) bi N S := SetN.turns HSET5.out hT6 (fun e => HBI.out.2.2.2.1 e)
        have hT6' : Turns (Wr bp base) w ((wr.alloc (Obj.cells #[] 98)).setCell ⟨bb, k, none⟩ (.int .i64 (b : Int))) := hT5.trans (hT6.mono fun j _ e => Or.inr (by omega))
        have d4 := box_cell HST5.out.box (i := 4) rfl
        have dk := HST5.out.bas.cell hk
        have fk := HST5.out.bas.free k
        have HST6 : Hid _ := hst6
        clear hst6 hT6
        go_upto_region 10 with (fail)
        generalize (wr.alloc (Obj.cells #[] 98)).setCell ⟨bb, k, none⟩ (.int .i64 (b : Int)) = W6 at HST6 hset6 hT6' ⊢
        have hmk := mark_call HST6.out hk hlen
        have HMK : Hid _ := hmk
        clear hmk c4 cb d4 dk fk hlk HST5 HSET5 hT5 hT
        go_wp2_with (first
          | (go_at_call 56; refine Calls.mono HMK.out ?_; rintro e W7 ⟨rfl, hT7, q7, hst7, hq7⟩)
          | go_in)
        have hbil := SetN.lt hset6
        have hset7 : SetN W7 bi N S := SetN.turns hset6 hT7 (fun hh => by
          have hb := HBI.out
          have hlt := HST6.out.lt
          rcases hh with e | e | e
          · omega
          · exact hb.2.1 e
          · exact hqb e)
        have hT7' : Turns (Wr bp base) w W7 := hT6'.trans (hT7.mono fun j _ hh => by
          rcases hh with e | e | e
          · exact Or.inl e
          · exact Or.inr (by omega)
          · exact Or.inr (HST6.out.qlt e).1)
        have hq7' : q7.ownBlock ≠ some bi := fun hh => (hq7 bi hh).elim hqb (fun hh => by omega)
        have e1 : ∀ x, (decide (x < k + 1) && S (bs x)) = ((decide (x < k) && S (bs x)) || x == k) := fun x => by
          by_cases e : x = k
          · subst e; simp [hSk]
          · have h1 : (x < k + 1) ↔ x < k := by omega
            have h2 : (x == k) = false := by simpa using e
            simp [h1, h2]
        have hbk : ∀ x, (if x = k then b else if (decide (x < k) && S (bs x)) = true then b else bs x) = if (decide (x < k + 1) && S (bs x)) = true then b else bs x := fun x => by
          rw [e1 x]
          by_cases e : x = k
          · simp [e]
          · have h2 : (x == k) = false := by simpa using e
            simp [e, h2]
        have hevk : (ev k || (decide (k < k) && S (bs k))) = ev k := by simp
        rw [hevk] at hst7
        go_roundw
        case rel =>
          cases hev : ev k
          · rw [hev] at hst7
            have hst8 := hst7.congr (ev' := fun x => ev x || (decide (x < k + 1) && S (bs x))) (f' := f2) (bs' := fun x => if (decide (x < k + 1) && S (bs x)) = true then b else bs x) (fun x _ => by rw [e1 x, Bool.or_assoc]) (fun _ _ => rfl) (fun x _ => hbk x)
            have hkn : k ∉ Q ++ t := fun hh => by
              have := (HMEM.out k).1 hh
              rw [hevk, hev] at this; cases this
            refine ⟨k + 1, q7, t ++ [k], by omega, by go_num, ?_, ?_, fun x => ?_, hset7, hq7', hT7'⟩
            · simpa using hst8
            · rw [← List.append_assoc]
              exact List.nodup_append.2 ⟨HND.out, by simp, fun a ha c hc e => by simp at hc; rw [e, hc] at ha; exact hkn ha⟩
            · rw [← List.append_assoc, List.mem_append, HMEM.out x, e1 x]
              by_cases e : x = k
              · simp [e]
              · have h2 : (x == k) = false := by simpa using e
                simp [e, h2]
          · rw [hev] at hst7
            have hst8 := hst7.congr (ev' := fun x => ev x || (decide (x < k + 1) && S (bs x))) (f' := f2) (bs' := fun x => if (decide (x < k + 1) && S (bs x)) = true then b else bs x) (fun x _ => by rw [e1 x, Bool.or_assoc]) (fun _ _ => rfl) (fun x _ => hbk x)
            refine ⟨k + 1, q7, t, by omega, by go_num, by simpa using hst8, HND.out, fun x => ?_, hset7, hq7', hT7'⟩
            rw [HMEM.out x, e1 x]
            by_cases e : x = k
            · simp [e, hev]
            · have h2 : (x == k) = false := by simpa using e
              simp [h2]
        case measure => simp [numOf]; omega
    · have hke : N = k := by omega
      have hx : ∀ x, (ev x || (decide (x < k) && S (bs x))) = (ev x || S (bs x)) := fun x => by
        by_cases e : x < k
        · simp [e]
        · have hbx : S (bs x) = false ∨ ev x = true := by
            cases hSx : S (bs x)
            · exact Or.inl rfl
            · right
              by_cases e1 : bs x = x
              · rw [e1] at hSx
                rcases (HS.out x).1 hSx with hi | hi
                · rcases HLU.out.ins HK.out.srch hi with h1 | ⟨_, _, y, h1, h2, _⟩
                  · exact HLU.out.evs x (HLU.out.all x h1).1
                  · have := (HM.out.lt _ _ h2).2; omega
                · rcases HLV.out.ins HK.out.srch hi with h1 | ⟨_, _, y, h1, h2, _⟩
                  · exact HLV.out.evs x (HLV.out.all x h1).1
                  · have := (HM.out.lt _ _ h2).2; omega
              · exact HK.out.srch.be x e1
          rcases hbx with h1 | h1 <;> simp [h1]
      have hst8 := hst.congr (ev' := fun x => ev x || S (bs x)) (f' := f2) (bs' := fun x => if S (bs x) then b else bs x) (fun x _ => hx x) (fun _ _ => rfl) (fun x hxN => by simp [show x < k by omega])
      have hkf := HK.out.folds HM.out HSY.out HLU.out HLV.out HD.out HU.out HV.out HE.out HG.out HRU.out HRV.out HS.out hnd (fun x => by rw [hmem x, hx x])
      have HST8 : Hid _ := hst8
      have HKF : Hid _ := hkf
      subst hke
      clear hst hst8 hkf hmem hnd hx
      go_wp2
      go_end0
      exact ⟨rfl, hT, q', _, _, _, t, HST8.out, HKF.out⟩
end
end Go.Proofs.YtenjkhgpfmfgmaaDoor
