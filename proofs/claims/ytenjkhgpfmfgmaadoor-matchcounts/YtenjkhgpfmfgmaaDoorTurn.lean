/- turn: the way to a lone node is turned. -/
import Derived.Test.YtenjkhgpfmfgmaaDoorSeekW
namespace Go.Proofs.YtenjkhgpfmfgmaaDoor
open Go.RowKit Go.Maps
attribute [local go_sem ↓] Go.wp_at_zero Go.wp_at_succ

/-- The turning under way: e is to be paired with v, and so on along l. -/
structure Tng (N : Nat) (E : Nat → Nat → Prop) (m f : Nat → Option Nat) (t e v : Nat) (l : List Nat) : Prop where
  mat : Mat N E (cutM m e)
  fe : f e = some v
  way : Way m f v l t
  simple : Simple m l t
  tl : m t = none
  el : e ∉ l
  et : e ≠ t
  me : ∀ a ∈ l, m a ≠ some e

theorem Tng.step {N : Nat} {E : Nat → Nat → Prop} {m f : Nat → Option Nat} {t e d : Nat} {l : List Nat} (hs : ∀ a b, E a b → E b a) (hf : ∀ x w, f x = some w → E x w ∧ x < N ∧ w < N) (h : Tng N E m f t e d (d :: l)) :
    ∃ x w, m d = some x ∧ Tng N E (pairS m e d) f t x w l ∧ turned m t e (d :: l) = turned (pairS m e d) t x l ∧ (∀ a ∈ l, pairS m e d a = m a) ∧ e ≠ d := by
  obtain ⟨hM, hv, ⟨_, x, w, h2, h3, h4⟩, hS, ht, hel, het, hme⟩ := h
  have he := hf e d hv
  have hde : d ≠ e := fun e' => hel (by simp [e'])
  have hxe : x ≠ e := fun e' => hme d (by simp) (e' ▸ h2)
  have hoff := hS.off d (by simp) x h2
  have hnd := List.nodup_cons.1 hS.nodup
  have hdx : d ≠ x := fun e' => hoff.1 (by simp [← e'])
  have htd : t ≠ d := fun e' => hS.last (by simp [e'])
  have hcd : cutM m e d = some x := by rw [cutM, if_neg hde]; exact h2
  have hxd : m x = some d := by
    have := hM.sym _ _ hcd
    rwa [cutM, if_neg hxe] at this
  have old : ∀ a b, m a = some b → a ≠ e → b ≠ e ∧ m b = some a := by
    intro a b hab hae
    have h1 : cutM m e a = some b := by rw [cutM, if_neg hae]; exact hab
    have h2 := hM.sym _ _ h1
    by_cases e1 : b = e
    · rw [cutM, if_pos e1] at h2; cases h2
    · rw [cutM, if_neg e1] at h2
      exact ⟨e1, h2⟩
  have p1 : ∀ z, z ≠ e → z ≠ d → pairS m e d z = m z := fun z a b => by rw [pairS, if_neg b, if_neg a]
  have hM1 : Mat N E (cutM (pairS m e d) x) := by
    have val : ∀ a b, cutM (pairS m e d) x a = some b → a ≠ x ∧ ((a = d ∧ b = e) ∨ (a = e ∧ b = d) ∨ (a ≠ d ∧ a ≠ e ∧ m a = some b)) := by
      intro a b hab
      unfold cutM at hab
      split at hab
      · cases hab
      · rename_i hx
        refine ⟨hx, ?_⟩
        unfold pairS at hab
        split at hab
        · cases hab; rename_i h; exact Or.inl ⟨h, rfl⟩
        · split at hab
          · cases hab; rename_i h; exact Or.inr (Or.inl ⟨h, rfl⟩)
          · rename_i g1 g2; exact Or.inr (Or.inr ⟨g1, g2, hab⟩)
    refine ⟨?_, ?_, ?_⟩
    · intro a b hab
      obtain ⟨_, ⟨rfl, rfl⟩ | ⟨rfl, rfl⟩ | ⟨_, g, h⟩⟩ := val a b hab
      · exact ⟨he.2.2, he.2.1⟩
      · exact ⟨he.2.1, he.2.2⟩
      · exact hM.lt a b (by rw [cutM, if_neg g]; exact h)
    · intro a b hab
      obtain ⟨hax, ⟨rfl, rfl⟩ | ⟨rfl, rfl⟩ | ⟨g1, g, h⟩⟩ := val a b hab
      · rw [cutM, if_neg hxe.symm, pairS, if_neg hde.symm, if_pos rfl]
      · rw [cutM, if_neg hdx, pairS, if_pos rfl]
      · obtain ⟨o1, o2⟩ := old a b h g
        have hbx : b ≠ x := fun e' => by rw [e', hxd] at o2; cases o2; exact g1 rfl
        have hbd : b ≠ d := fun e' => by rw [e', h2] at o2; cases o2; exact hax rfl
        rw [cutM, if_neg hbx, p1 b o1 hbd]; exact o2
    · intro a b hab
      obtain ⟨_, ⟨rfl, rfl⟩ | ⟨rfl, rfl⟩ | ⟨_, g, h⟩⟩ := val a b hab
      · exact hs _ _ he.1
      · exact he.1
      · exact hM.edge a b (by rw [cutM, if_neg g]; exact h)
  have pl : ∀ a ∈ l, pairS m e d a = m a := fun a ha => p1 a (fun e' => hel (by simp [← e', ha])) (fun e' => hnd.1 (e' ▸ ha))
  refine ⟨x, w, h2, ⟨hM1, h3, h4.congrM pl, ⟨hnd.2, fun h => hS.last (by simp [h]), fun a ha c hc => ?_⟩, by rw [p1 t het.symm htd]; exact ht, fun h => hoff.1 (by simp [h]), hoff.2, fun a ha hax => ?_⟩, by simp only [turned, h2], pl, hde.symm⟩
  · rw [pl a ha] at hc
    have := hS.off a (by simp [ha]) c hc
    exact ⟨fun h => this.1 (by simp [h]), this.2⟩
  · rw [pl a ha] at hax
    have := (old a x hax (fun e' => hel (by simp [← e', ha]))).2
    rw [hxd] at this; cases this
    exact hnd.1 ha

section
variable {w w' : World} {bp base g bm N : Nat} {ls : Nat → List Nat} {m : Nat → Option Nat} {be bf bb : Nat} {q : Value} {ev : Nat → Bool} {f : Nat → Option Nat} {bs dep : Nat → Nat} {Q : List Nat} {E : Nat → Nat → Prop} {r : Nat}

theorem Tng.ne {t e v : Nat} {l : List Nat} (h : Tng N E m f t e v l) : e ≠ v := by
  have hw := h.way
  cases l with
  | nil => rw [show v = t from hw]; exact h.et
  | cons d l => exact fun hh => h.el (by simp [hw.1, hh])
theorem rowV_pair {W : World} {mc : Nat → Option Nat} (h : RowV W bm 3 N (fun x => .int .i64 (farZ (mc x)))) {e v : Nat} (hev : e ≠ v) : RowV ((W.setCell ⟨bm, e, none⟩ (.int .i64 (v : Int))).setCell ⟨bm, v, none⟩ (.int .i64 (e : Int))) bm 3 N (fun x => .int .i64 (farZ (pairS mc e v x))) :=
  ((h.set e (.int .i64 (v : Int))).set v (.int .i64 (e : Int))).congr (fun j _ => by
    unfold pairS
    by_cases e1 : j = v
    · simp [e1, farZ]
    · by_cases e2 : j = e
      · subst e2
        simp [hev, farZ]
      · simp [e1, e2])

set_option maxRecDepth 4000 in
set_option maxHeartbeats 4000000 in
theorem turn_call {u v t : Nat} {l : List Nat} (h : PSt w bp base g bm N ls m be bf bb q ev f bs Q) (hM : Mat N E m) (hsy : ∀ a b, E a b → E b a) (ha : Aug N E m f u v t l) :
    Calls Tryd.prog 40 #[.pointer (some ⟨bp, 0, none⟩), .int .i64 (u : Int)] w fun e w' => e = .returned (.tuple #[]) ∧ RowV w' bm 3 N (fun x => .int .i64 (farZ (turned m t u l x))) ∧ Turns (fun k => k = bm) w w' := by
  have hf := ha.edge
  have hta : Tng N E m f t u v l := ⟨by rw [cutM_self ha.ul]; exact hM, ha.fu, ha.way, ha.simple, ha.tl, ha.uo, ha.ut, fun a hl e => by
    have := hM.sym _ _ e
    rw [ha.ul] at this; cases this⟩
  obtain ⟨EL, hEL⟩ : ∃ EL, EL = u :: l.map (fun d => (m d).getD 0) := ⟨_, rfl⟩
  have hELn : EL.Nodup := by
    have hmt : ∀ d ∈ l, ∃ x, m d = some x := fun d hd => by
      obtain ⟨s, ⟨_, x, _, h1, _⟩, _⟩ := ha.way.suffix hd
      exact ⟨x, h1⟩
    rw [hEL]
    refine List.nodup_cons.2 ⟨fun hu => ?_, ?_⟩
    · obtain ⟨d, hd, e⟩ := List.mem_map.1 hu
      obtain ⟨x, hx⟩ := hmt d hd
      rw [hx] at e
      simp at e
      have := hM.sym _ _ hx
      rw [e, ha.ul] at this; cases this
    · have : ∀ l' : List Nat, l'.Nodup → (∀ d ∈ l', d ∈ l) → (l'.map (fun d => (m d).getD 0)).Nodup := by
        intro l'
        induction l' with
        | nil => intro _ _; simp
        | cons c l' ih =>
          intro hn hc
          rw [List.map_cons]
          refine List.nodup_cons.2 ⟨fun hu => ?_, ih (List.nodup_cons.1 hn).2 (fun d hd => hc d (by simp [hd]))⟩
          obtain ⟨d, hd, e⟩ := List.mem_map.1 hu
          obtain ⟨x, hx⟩ := hmt d (hc d (by simp [hd]))
          obtain ⟨y, hy⟩ := hmt c (hc c (by simp))
          rw [hx, hy] at e
          simp at e
          subst e
          exact (List.nodup_cons.1 hn).1 (hM.inj hy hx ▸ hd)
      exact this l ha.simple.nodup (fun d hd => hd)
  have c1 := box_cell h.box (i := 1) rfl
  have hlt := h.lt
  have hge := h.ge
  have H : Hid _ := h
  have HF : Hid _ := hf
  have HTA : Hid _ := hta
  have HELN : Hid _ := hELn
  have HEL : Hid _ := hEL
  have HSY : Hid _ := hsy
  have huN := (hf u v ha.fu).2.1
  have hmate := h.mate
  clear h hM hsy ha hf hta hELn hEL
  go_enter Tryd.func40, Tryd.ntmps40
  go_wp2
  clear c1
  go_loopw [1, 4, 5] (fun s1 _ _ wr => ∃ mc, RowV wr bm 3 N (fun x => .int .i64 (farZ (mc x))) ∧ Turns (fun k => k = bm) w wr ∧ ((s1 = .int .i64 (-1) ∧ mc = turned m t u l) ∨ ∃ (e v : Nat) (done rest : List Nat), s1 = .int .i64 (e : Int) ∧ e < N ∧ Tng N E mc f t e v rest ∧ turned mc t e rest = turned m t u l ∧ EL = done ++ e :: rest.map (fun d => (m d).getD 0) ∧ ∀ d ∈ rest, mc d = m d)) (fun s1 _ _ _ => if numOf s1 < 0 then 0 else pos EL (numOf s1).toNat)
  case atStart => exact ⟨m, hmate, Turns.refl _ _, Or.inr ⟨u, v, [], l, rfl, huN, HTA.out, rfl, HEL.out, fun _ _ => rfl⟩⟩
  case round =>
    obtain ⟨mc, hmc, hT, hor⟩ := hrel
    rcases hor with ⟨rfl, hfin⟩ | ⟨e, v, done, rest, rfl, heN, htn, htd, hel, hmr⟩
    · have HFN : Hid _ := hfin
      clear hfin
      go_wp2
      go_end0
      exact ⟨rfl, by rw [← HFN.out]; exact hmc, hT⟩
    · have hb1 := box_turns H.out.box hT (fun e => hlt.2.2 e.symm)
      have hs1 : RowV wr bf 3 N (fun x => .int .i64 (farZ (f x))) := H.out.src.turns hT (fun e => by omega)
      have c1 := box_cell hb1 (i := 1) rfl
      have c3 := box_cell hb1 (i := 3) rfl
      have cs := hs1.cell heN
      rw [htn.fe] at cs
      have z1 : farZ (some v) = (v : Int) := rfl
      rw [z1] at cs
      have hvN := (HF.out e v htn.fe).2.2
      have cv := hmc.cell hvN
      have ce := hmc.cell heN
      have fe := hmc.free e
      have fv := hmc.free v
      have i1 : (0 : Int) ≤ (e : Int) := by omega
      have i2 : (e : Int) < (N : Int) := by omega
      have i3 : (0 : Int) ≤ (v : Int) := by omega
      have i4 : (v : Int) < (N : Int) := by omega
      have i5 : ((e : Int) == -1) = false := by simp
      have hne := htn.ne
      have cv2 := (hmc.set e (.int .i64 (v : Int))).cell hvN
      have fv2 := (hmc.set e (.int .i64 (v : Int))).free v
      rw [if_neg (fun hh => hne hh.symm)] at cv2
      have hrp := rowV_pair hmc hne
      have hTp : Turns (fun k => k = bm) w ((wr.setCell ⟨bm, e, none⟩ (.int .i64 (v : Int))).setCell ⟨bm, v, none⟩ (.int .i64 (e : Int))).drew := ((hT.trans (setCell_turns _ _ _ _)).trans (setCell_turns _ _ _ _)).trans (Turns.of_below (Below.refl _ _).drew _)
      have HRP : Hid _ := hrp
      have HTN : Hid _ := htn
      have HTD : Hid _ := htd
      have HE1 : Hid _ := hel
      have HMR : Hid _ := hmr
      clear htn htd hel hmr z1 hb1 hs1 hrp
      go_upto_region 3 with (fail)
      go_cut [] from 23 to 36 (fun wc => RowV wc bm 3 N (fun x => .int .i64 (farZ (pairS mc e v x))) ∧ Turns (fun k => k = bm) w wc)
      case first =>
        go_region
        all_goals (go_wp2_with fail; go_meet)
        all_goals exact ⟨HRP.out, hTp⟩
      case rest =>
        obtain ⟨hr2, hT2⟩ := hcut
        have HR2 : Hid _ := hr2
        have HT2 : Hid _ := hT2
        clear hr2 hT2 cv2 fv2 cv ce fe fv c1 c3 cs HRP hTp
        have hed : e ∉ done := fun hh => by
          have hn := HELN.out
          rw [HE1.out] at hn
          exact (List.nodup_append.1 hn).2.2 e hh e (by simp) rfl
        have hp1 : pos EL e = (rest.map (fun d => (m d).getD 0)).length + 1 := by rw [HE1.out]; exact pos_at done e _ hed
        cases rest with
        | nil =>
          have hvt : v = t := HTN.out.way
          have hnx : mc v = none := by rw [hvt]; exact HTN.out.tl
          rw [hnx]
          have z2 : farZ none = -1 := rfl
          rw [z2]
          have HVT : Hid _ := hvt
          have HP1 : Hid _ := hp1
          clear hvt hnx z2 hp1
          go_wp2
          go_roundw
          case rel => exact ⟨pairS mc e v, HR2.out, HT2.out, Or.inl ⟨rfl, by rw [← HTD.out, HVT.out]; rfl⟩⟩
          case measure =>
            have q1 := HP1.out
            have n2 : ¬ (e : Int) < 0 := by omega
            simp [numOf, q1, n2]
        | cons d rest =>
          have hvd : d = v := HTN.out.way.1
          subst hvd
          obtain ⟨x, w2, hx, htn2, htu, hpl, _⟩ := HTN.out.step HSY.out HF.out
          rw [hx]
          have z2 : farZ (some x) = (x : Int) := rfl
          rw [z2]
          have hxN := (HF.out x w2 htn2.fe).2.1
          have hmd : m d = some x := by rw [← HMR.out d (by simp)]; exact hx
          have hE2 : EL = (done ++ [e]) ++ x :: rest.map (fun d => (m d).getD 0) := by rw [HE1.out]; simp [hmd]
          have hp2 : pos EL x = (rest.map (fun d => (m d).getD 0)).length + 1 := by
            rw [hE2]
            refine pos_at _ x _ (fun hh => ?_)
            have hn := HELN.out
            rw [hE2] at hn
            exact (List.nodup_append.1 hn).2.2 x hh x (by simp) rfl
          have HP1 : Hid _ := hp1
          have HP2 : Hid _ := hp2
          have HE2 : Hid _ := hE2
          have HTN2 : Hid _ := htn2
          have HTU : Hid _ := htu
          have HPL : Hid _ := hpl
          clear hp1 hp2 hE2 htn2 htu hpl hx z2 hmd
          go_wp2
          go_roundw
          case rel => exact ⟨pairS mc e d, HR2.out, HT2.out, Or.inr ⟨x, w2, done ++ [e], rest, rfl, hxN, HTN2.out, HTU.out.symm.trans HTD.out, HE2.out, fun c hc => by rw [HPL.out c hc]; exact HMR.out c (by simp [hc])⟩⟩
          case measure =>
            have q1 := HP1.out
            have q2 := HP2.out
            have n1 : ¬ (x : Int) < 0 := by omega
            have n2 : ¬ (e : Int) < 0 := by omega
            simp [numOf, q1, q2, n1, n2]
            try omega

set_option maxHeartbeats 1000000 in
theorem turn_none (p : Value) (w : World) : Calls Tryd.prog 40 #[p, .int .i64 (-1)] w fun e w' => e = .returned (.tuple #[]) ∧ w' = w := by
  go_enter Tryd.func40, Tryd.ntmps40
  go_wp2
  go_loopw [1, 4, 5] (fun s1 _ _ wr => s1 = .int .i64 (-1) ∧ wr = w) (fun _ _ _ _ => 0)
  case atStart => exact ⟨rfl, rfl⟩
  case round =>
    obtain ⟨rfl, rfl⟩ := hrel
    go_wp2
    go_end0
    exact ⟨rfl, rfl⟩
end
end Go.Proofs.YtenjkhgpfmfgmaaDoor
