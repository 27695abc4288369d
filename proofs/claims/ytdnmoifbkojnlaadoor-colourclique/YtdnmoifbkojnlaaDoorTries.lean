/- try: all colourings, until one is enough. -/
import Derived.Test.YtdnmoifbkojnlaaDoorMask
namespace Go.Proofs.YtdnmoifbkojnlaaDoor
open Go.RowKit Go.Maps
attribute [local go_sem ↓] Go.wp_at_zero Go.wp_at_succ

def iv (f : Nat → Int) : Nat → Value := fun i => .int .i64 (f i)
/-- Where a search lies. -/
structure Tc where
  (nb sb cb lb wb fb gn gc gw n k : Nat)
  F : FuncId
  caps : Array Value
  mask : Nat → Nat
def Tc.sv (c : Tc) : Value := .func (.func c.F) #[] c.caps
def Tc.me (c : Tc) : Value := .func (.func 39) #[] #[ptr c.nb, ptr c.sb, ptr c.cb, ptr c.lb, ptr c.wb, ptr c.fb]
structure TC (c : Tc) (w : World) : Prop where
  bn : Box w c.nb #[sl c.gn c.n] 44
  bs : Box w c.sb #[c.sv] 63
  bc : Box w c.cb #[sl c.gc c.n] 29
  bl : Box w c.lb #[.int .i64 (c.k : Int)] 3
  bw : Box w c.wb #[sl c.gw c.k] 44
  bf : Box w c.fb #[c.me] 64
  rn : RowV w c.gn 57 c.n (fun v => .int .u32 ((c.mask v : Nat) : Int))
def Tc.own (c : Tc) (x : Nat) : Prop := x = c.nb ∨ x = c.sb ∨ x = c.cb ∨ x = c.lb ∨ x = c.wb ∨ x = c.fb ∨ x = c.gn
theorem TC.turns {c : Tc} {M : Nat → Prop} {w w' : World} (h : TC c w) (ht : Turns M w w') (hm : ∀ x, M x → ¬ c.own x) : TC c w' :=
  ⟨box_turns h.bn ht (fun e => hm _ e (Or.inl rfl)), box_turns h.bs ht (fun e => hm _ e (Or.inr (Or.inl rfl))), box_turns h.bc ht (fun e => hm _ e (Or.inr (Or.inr (Or.inl rfl)))), box_turns h.bl ht (fun e => hm _ e (Or.inr (Or.inr (Or.inr (Or.inl rfl))))), box_turns h.bw ht (fun e => hm _ e (Or.inr (Or.inr (Or.inr (Or.inr (Or.inl rfl)))))), box_turns h.bf ht (fun e => hm _ e (Or.inr (Or.inr (Or.inr (Or.inr (Or.inr (Or.inl rfl))))))), h.rn.turns ht (fun e => hm _ e (Or.inr (Or.inr (Or.inr (Or.inr (Or.inr (Or.inr rfl)))))))⟩
/-- The rows that the search turns: the colours so far, and of each colour its nodes. -/
structure TR (c : Tc) (w : World) (L : List Nat) : Prop where
  cols : ∃ f : Nat → Int, RowV w c.gc 3 c.n (iv f) ∧ ∀ i, i < L.length → f i = (L.getD i 0 : Int)
  wth : RowV w c.gw 57 c.k (fun d => .int .u32 ((wm L d : Nat) : Int))
theorem TR.turns {c : Tc} {M : Nat → Prop} {w w' : World} {L : List Nat} (h : TR c w L) (ht : Turns M w w') (hm : ∀ x, M x → x ≠ c.gc ∧ x ≠ c.gw) : TR c w' L := by
  obtain ⟨f, h1, h2⟩ := h.cols
  exact ⟨⟨f, h1.turns ht (fun e => (hm _ e).1 rfl), h2⟩, h.wth.turns ht (fun e => (hm _ e).2 rfl)⟩
/-- The colours that stand there are M. -/
def Cols (c : Tc) (w : World) (M : List Nat) : Prop := M.length = c.n ∧ RowV w c.gc 3 c.n (fun i => .int .i64 (M.getD i 0 : Int))
/-- What is known of the function that sees each colouring. -/
structure See (c : Tc) {σ : Type} (step : List Nat → Nat → σ → Bool × σ) (Inv : World → σ → Prop) (Ms : Nat → Prop) (Fin : List Nat → σ → Prop) : Prop where
  enter : ∀ args w', (callFunc c.F args).run Tryd.prog w' = .ok (.enter c.F args) w'
  call : ∀ (W : World) (L : List Nat) (used : Nat) (s : σ), L.length = c.n → used ≤ c.n → Inv W s → TC c W → TR c W L → Calls Tryd.prog c.F (#[sl c.gc c.n, .int .i64 (used : Int)] ++ c.caps) W fun e w' => e = .returned (.bool (step L used s).1) ∧ Inv w' (step L used s).2 ∧ Turns Ms W w'
  keep : ∀ W W' s, Inv W s → Turns (fun x => x = c.gc ∨ x = c.gw) W W' → Inv W' s
  fin : ∀ L used s, (step L used s).1 = true → Fin L (step L used s).2
  apart : ∀ x, Ms x → ¬ c.own x ∧ x ≠ c.gc ∧ x ≠ c.gw
  own : ¬ c.own c.gc ∧ ¬ c.own c.gw ∧ c.gc ≠ c.gw
def Mall (c : Tc) (Ms : Nat → Prop) (x : Nat) : Prop := x = c.gc ∨ x = c.gw ∨ Ms x
/-- What the search answers. -/
def Found (c : Tc) {σ : Type} (Inv : World → σ → Prop) (Ms : Nat → Prop) (Fin : List Nat → σ → Prop) (L : List Nat) (res : Bool × σ) (W : World) (e : Ending) (w' : World) : Prop :=
  e = .returned (.bool res.1) ∧ Inv w' res.2 ∧ Turns (Mall c Ms) W w' ∧ (res.1 = false → TR c w' L) ∧ (res.1 = true → ∃ M, Cols c w' M ∧ Fin M res.2)
theorem enter39 (args : Array Value) (w : World) : (callFunc 39 args).run Tryd.prog w = .ok (.enter 39 args) w := by
  simp [callFunc, Tryd.func39, go_sem]
  rw [if_neg (of_decide_eq_true (by kernel_rfl)), if_neg (by intro h; have : Tryd.f39.body.isSome = true := (by kernel_rfl); rw [h] at this; cases this)]
theorem Tc.mall {c : Tc} {Ms : Nat → Prop} (h1 : ∀ x, Ms x → ¬ c.own x ∧ x ≠ c.gc ∧ x ≠ c.gw) (h2 : ¬ c.own c.gc ∧ ¬ c.own c.gw ∧ c.gc ≠ c.gw) : ∀ x, Mall c Ms x → ¬ c.own x := fun x hx => by
  rcases hx with rfl | rfl | hx
  · exact h2.1
  · exact h2.2.1
  · exact (h1 x hx).1
section
variable {σ : Type} {step : List Nat → Nat → σ → Bool × σ} {Inv : World → σ → Prop} {Ms : Nat → Prop} {Fin : List Nat → σ → Prop} {adj : Nat → Nat → Bool}
theorem drop_range {k c : Nat} (h : c < k) : (List.range k).drop c = c :: (List.range k).drop (c + 1) := by
  rw [List.drop_eq_getElem_cons (by simpa using h)]; simp

set_option maxRecDepth 4000 in
set_option maxHeartbeats 8000000 in
theorem from_call {c : Tc} (hn : c.n ≤ 24) (hk : c.k ≤ 24) (hS : See c step Inv Ms Fin) (hadj : ∀ v z, v < c.n → (c.mask v).testBit z = adj v z) (hmask : ∀ v, v < c.n → c.mask v < 4294967296) :
    ∀ (r : Nat) (L : List Nat) (used : Nat) (s : σ) (W : World), r + L.length = c.n → used ≤ L.length → TC c W → TR c W L → Inv W s →
      Calls Tryd.prog 39 #[.int .i64 (L.length : Int), .int .i64 (used : Int), ptr c.nb, ptr c.sb, ptr c.cb, ptr c.lb, ptr c.wb, ptr c.fb] W (Found c Inv Ms Fin L (trC c.k adj step r L used s) W) := by
  have HS : Hid (See c step Inv Ms Fin) := hS
  have hFs := hS.enter
  have hF57 := enter39
  have HADJ : Hid (∀ v z, v < c.n → (c.mask v).testBit z = adj v z) := hadj
  have HMASK : Hid (∀ v, v < c.n → c.mask v < 4294967296) := hmask
  clear hS hadj hmask
  intro r
  induction r with
  | zero =>
    intro L used s W hr hu hc ht hI
    have hln : L.length = c.n := by omega
    have h19 := HS.out.call W L used s hln (by omega) hI hc ht
    have e19 : (#[sl c.gc c.n, .int .i64 (used : Int)] ++ c.caps : Array Value) = #[sl c.gc c.n, .int .i64 (used : Int)] ++ c.caps := rfl
    obtain ⟨F, caps, hcs⟩ : ∃ F caps, c.F = F ∧ c.caps = caps := ⟨_, _, rfl, rfl⟩
    rw [hcs.1] at hFs
    have q3 : W.cell? ⟨c.sb, 0, none⟩ = some (.func (.func F) #[] caps) := by
      have := box_cell (i := 0) hc.bs rfl
      unfold Tc.sv at this
      rwa [hcs.1, hcs.2] at this
    rw [hcs.1, hcs.2] at h19
    have HSEE : Hid (Calls Tryd.prog F (#[sl c.gc c.n, .int .i64 (used : Int)] ++ caps) W fun e w' => e = .returned (.bool (step L used s).1) ∧ Inv w' (step L used s).2 ∧ Turns Ms W w') := h19
    have q2 : W.cell? ⟨c.nb, 0, none⟩ = some (sl c.gn c.n) := box_cell (i := 0) hc.bn rfl
    have q4 : W.cell? ⟨c.cb, 0, none⟩ = some (sl c.gc c.n) := box_cell (i := 0) hc.bc rfl
    have k1 : ((L.length : Int) == (c.n : Int)) = true := by simp [hln]
    have HT : Hid (TR c W L) := ht
    have HLN : Hid (L.length = c.n) := hln
    clear h19 e19 hcs hc ht hI hr hln
    go_enter Tryd.func39, Tryd.ntmps39
    go_wp2_with (first | (with_reducible refine Calls.mono HSEE.out ?_; rintro e W1 ⟨rfl, hi1, ht1⟩) | go_in)
    go_ret
    have htr := HT.out.turns ht1 (fun x hx => (HS.out.apart x hx).2)
    refine ⟨rfl, hi1, ht1.mono (fun _ _ h => Or.inr (Or.inr h)), fun _ => htr, fun hb => ⟨L, ⟨HLN.out, ?_⟩, HS.out.fin L used s hb⟩⟩
    obtain ⟨f, h1, h2⟩ := htr.cols
    exact h1.congr (fun j hj => by unfold iv; rw [h2 j (by rw [HLN.out]; exact hj)])
  | succ r ih =>
    intro L used s W hr hu hc ht hI
    have IH : Hid (∀ (L : List Nat) (used : Nat) (s : σ) (W : World), r + L.length = c.n → used ≤ L.length → TC c W → TR c W L → Inv W s →
      Calls Tryd.prog 39 #[.int .i64 (L.length : Int), .int .i64 (used : Int), ptr c.nb, ptr c.sb, ptr c.cb, ptr c.lb, ptr c.wb, ptr c.fb] W (Found c Inv Ms Fin L (trC c.k adj step r L used s) W)) := ih
    have hln : L.length < c.n := by omega
    have q2 : W.cell? ⟨c.nb, 0, none⟩ = some (sl c.gn c.n) := box_cell (i := 0) hc.bn rfl
    have q5 : W.cell? ⟨c.lb, 0, none⟩ = some (.int .i64 (c.k : Int)) := box_cell (i := 0) hc.bl rfl
    have k1 : ((L.length : Int) == (c.n : Int)) = false := by rw [beq_eq_false_iff_ne]; omega
    obtain ⟨lim, hlim⟩ : ∃ m, m = min (used + 1) c.k := ⟨_, rfl⟩
    have hlim1 : min ((used : Int) + 1) (c.k : Int) = (lim : Int) := by omega
    have hlim2 : lim ≤ used + 1 ∧ lim ≤ c.k := by omega
    have k2 : IntKind.i64.wrap ((used : Int) + 1) = (used : Int) + 1 := by rw [IntKind.wrap_i64]; omega
    obtain ⟨res, hres⟩ : ∃ res, res = trC c.k adj step (r + 1) L used s := ⟨_, rfl⟩
    rw [← hres]
    have HRES : Hid (lpC adj L used (trC c.k adj step r) (List.range lim) s = res) := by
      show lpC adj L used (trC c.k adj step r) (List.range lim) s = res
      rw [hres, hlim]; rfl
    have HC : Hid (TC c W) := hc
    have HT : Hid (TR c W L) := ht
    have HI : Hid (Inv W s) := hI
    clear ih hc ht hI hres hlim
    go_enter Tryd.func39, Tryd.ntmps39
    go_wp2
    clear q2 q5
    go_loopw [24, 11] (fun iv' _ wr => ∃ (d : Nat) (s1 : σ), d ≤ lim ∧ iv' = .int .i64 (d : Int) ∧ lpC adj L used (trC c.k adj step r) ((List.range lim).drop d) s1 = res ∧ Inv wr s1 ∧ TR c wr L ∧ Turns (Mall c Ms) W wr) (fun iv' _ _ => lim - (numOf iv').toNat)
    case atStart => exact ⟨0, s, Nat.zero_le _, rfl, by simpa using HRES.out, HI.out, HT.out, Turns.refl _ _⟩
    case round =>
      clear HRES HI HT
      obtain ⟨d, s1, hd, rfl, hlp, hI, ht, hT⟩ := hrel
      have hcw : TC c wr := HC.out.turns hT (Tc.mall HS.out.apart HS.out.own)
      have HCW : Hid (TC c wr) := hcw
      have HT : Hid (TR c wr L) := ht
      have HI : Hid (Inv wr s1) := hI
      by_cases hdl : d < lim
      · have i2 : (d : Int) < (lim : Int) := by omega
        have hdk : d < c.k := by omega
        rw [drop_range hdl] at hlp
        unfold lpC at hlp
        have q6 : wr.cell? ⟨c.wb, 0, none⟩ = some (sl c.gw c.k) := box_cell (i := 0) hcw.bw rfl
        have q2 : wr.cell? ⟨c.nb, 0, none⟩ = some (sl c.gn c.n) := box_cell (i := 0) hcw.bn rfl
        have q4 : wr.cell? ⟨c.cb, 0, none⟩ = some (sl c.gc c.n) := box_cell (i := 0) hcw.bc rfl
        have g1 := ht.wth.cell hdk
        have g2 := hcw.rn.cell hln
        have hwl : wm L d < 16777216 := wm_lt d (by omega)
        have hml := HMASK.out L.length hln
        have hiff := mask_ok (c := d) (L := L) (adj := adj) (m := c.mask L.length) (fun z => HADJ.out L.length z hln)
        obtain ⟨a, ha⟩ : ∃ a, a = wm L d := ⟨_, rfl⟩
        obtain ⟨b, hb⟩ : ∃ b, b = c.mask L.length := ⟨_, rfl⟩
        rw [← ha] at g1 hwl hiff
        rw [← hb] at g2 hml hiff
        have q9 : bits BinOp.and IntKind.u32 (a : Int) (b : Int) = ((a &&& b : Nat) : Int) := u32_and_nat a b (by omega) hml
        have j1 : (0 : Int) ≤ (d : Int) := by omega
        have j2 : (d : Int) < (c.k : Int) := by omega
        have j3 : (0 : Int) ≤ (L.length : Int) := by omega
        have j4 : (L.length : Int) < (c.n : Int) := by omega
        have HA : Hid (a = wm L d) := ha
        obtain ⟨ab, hab⟩ : ∃ x, x = a &&& b := ⟨_, rfl⟩
        rw [← hab] at q9 hiff
        clear ht hI ha hb hab hcw
        by_cases hok : okC adj L d = true
        · rw [if_pos hok] at hlp
          have hz : ab = 0 := hiff.2 hok
          have k3 : ((ab : Int) != 0) = false := by simp [hz]
          have HLP : Hid ((if (trC c.k adj step r (L ++ [d]) (max used (d + 1)) s1).1 = true then (true, (trC c.k adj step r (L ++ [d]) (max used (d + 1)) s1).2) else lpC adj L used (trC c.k adj step r) ((List.range lim).drop (d + 1)) (trC c.k adj step r (L ++ [d]) (max used (d + 1)) s1).2) = res) := hlp
          clear hlp hiff hok hz
          go_upto_region 6 with (fail)
          go_quiet (fail)
          have hbq : Below wr.heap.size wr (wr.drewN nq) := drewN_below _ _
          have HI2 : Hid (Inv (wr.drewN nq) s1) := HS.out.keep _ _ _ HI.out (Turns.of_below hbq _)
          have HCQ : Hid (TC c (wr.drewN nq)) := HCW.out.turns (M := fun _ => False) (Turns.of_below hbq _) (fun _ h => h.elim)
          have HTQ : Hid (TR c (wr.drewN nq) L) := HT.out.turns (M := fun _ => False) (Turns.of_below hbq _) (fun _ h => h.elim)
          have hTq := hT.trans (Turns.of_below hbq _)
          generalize wr.drewN nq = WA at HI2 HCQ HTQ hTq ⊢
          obtain ⟨f, hf1, hf2⟩ := HTQ.out.cols
          have q4 : WA.cell? ⟨c.cb, 0, none⟩ = some (sl c.gc c.n) := box_cell (i := 0) HCQ.out.bc rfl
          have r4 := hf1.cell hln
          have f4 := hf1.free L.length
          unfold iv at r4
          generalize f L.length = old at r4
          have hsetC : RowV (WA.setCell ⟨c.gc, L.length, none⟩ (.int .i64 (d : Int))) c.gc 3 c.n (iv (fun i => if i = L.length then (d : Int) else f i)) := (hf1.set L.length (.int .i64 (d : Int))).congr (fun j _ => by unfold iv; by_cases e : j = L.length <;> simp [e])
          have tC := setCell_turns WA c.gc L.length (.int .i64 (d : Int))
          have HWC : Hid (RowV (WA.setCell ⟨c.gc, L.length, none⟩ (.int .i64 (d : Int))) c.gw 57 c.k (fun e => .int .u32 ((wm L e : Nat) : Int))) := HTQ.out.wth.turns tC (fun e => HS.out.own.2.2 e.symm)
          have HCC : Hid (TC c (WA.setCell ⟨c.gc, L.length, none⟩ (.int .i64 (d : Int)))) := HCQ.out.turns tC (fun x hx => by rw [hx]; exact HS.out.own.1)
          have HIC : Hid (Inv (WA.setCell ⟨c.gc, L.length, none⟩ (.int .i64 (d : Int))) s1) := HS.out.keep _ _ _ HI2.out (tC.mono (fun _ _ h => Or.inl h))
          have hTC := hTq.trans (tC.mono (M' := Mall c Ms) (fun _ _ h => Or.inl h))
          have HCOL : Hid (∀ i, i < (L ++ [d]).length → (if i = L.length then (d : Int) else f i) = ((L ++ [d]).getD i 0 : Int)) := fun i hi => by
            have hl : (L ++ [d]).length = L.length + 1 := by simp
            by_cases e : i = L.length
            · subst e; rw [if_pos rfl, getD_last]
            · rw [if_neg e, getD_left (by omega)]; exact hf2 i (by omega)
          clear tC hf1 hf2 HTQ HCQ HI2 hTq hbq
          go_upto_region 8 with (fail)
          clear q4 r4 f4
          generalize WA.setCell ⟨c.gc, L.length, none⟩ (.int .i64 (d : Int)) = WB at hsetC HWC HCC HIC hTC ⊢
          have HSC : Hid (RowV WB c.gc 3 c.n (iv (fun i => if i = L.length then (d : Int) else f i))) := hsetC
          clear hsetC
          have q6 : WB.cell? ⟨c.wb, 0, none⟩ = some (sl c.gw c.k) := box_cell (i := 0) HCC.out.bw rfl
          have g1 := HWC.out.cell hdk
          rw [← HA.out] at g1
          have f1 := HWC.out.free d
          have hpl := pow_lt32 (v := L.length) (by omega)
          obtain ⟨p, hp⟩ : ∃ p, p = 2 ^ L.length := ⟨_, rfl⟩
          have H41 : Hid (∀ W, Calls Tryd.prog 24 #[.int .i64 (L.length : Int)] W fun e w' => e = .returned (.int .u32 (p : Int)) ∧ w' = W) := fun W => by rw [hp]; exact only_call (by omega)
          obtain ⟨a1, ha1⟩ : ∃ a1, a1 = a ||| p := ⟨_, rfl⟩
          have q8 : bits BinOp.or IntKind.u32 (a : Int) (p : Int) = (a1 : Int) := by rw [u32_or_nat a p (by omega) (by rw [hp]; exact hpl), ha1]
          have HW1 : Hid (∀ W, RowV W c.gw 57 c.k (fun e => .int .u32 ((wm L e : Nat) : Int)) → RowV (W.setCell ⟨c.gw, d, none⟩ (.int .u32 (a1 : Int))) c.gw 57 c.k (fun e => .int .u32 ((wm (L ++ [d]) e : Nat) : Int))) := fun W h => (h.set d (.int .u32 (a1 : Int))).congr (fun j _ => by
            by_cases e : j = d
            · subst e; simp only [if_true]; rw [wm_snoc_self, ha1, hp, HA.out]
            · simp only [e, if_false]; rw [wm_snoc_ne L e])
          have HP : Hid (p = 2 ^ L.length ∧ a1 = a ||| p) := ⟨hp, ha1⟩
          clear ha1 hp hpl
          go_cut [] from 41 to 48 (fun wd => RowV wd c.gw 57 c.k (fun e => .int .u32 ((wm (L ++ [d]) e : Nat) : Int)) ∧ Turns (fun x => x = c.gw) WB wd)
          case first =>
            go_region_with ((go_at_call 24; (with_reducible refine Calls.mono (H41.out _) ?_); rintro e Wx ⟨rfl, hWx⟩; rw [hWx]; clear hWx))
            all_goals
              go_wp2_with fail
              go_meet
              case rel => exact ⟨id (HW1.out WB HWC.out), (setCell_turns WB c.gw d _).trans (Turns.of_below (Below.refl _ _).drew _)⟩
          case rest =>
            obtain ⟨hwD, htD⟩ := hcut
            clear q6 g1 f1 q8 HW1
            have tg : ∀ x, x = c.gw → ¬ c.own x := fun x hx => by rw [hx]; exact HS.out.own.2.1
            have HCD : Hid (TC c wc) := HCC.out.turns htD tg
            have HID : Hid (Inv wc s1) := HS.out.keep _ _ _ HIC.out (htD.mono (fun _ _ h => Or.inr h))
            have HTD : Hid (TR c wc (L ++ [d])) := ⟨⟨_, HSC.out.turns htD (fun e => HS.out.own.2.2 e), HCOL.out⟩, hwD⟩
            have hTD : Turns (Mall c Ms) W wc := hTC.trans (htD.mono (fun _ _ h => Or.inr (Or.inl h)))
            obtain ⟨um, hum⟩ : ∃ um, um = max used (d + 1) := ⟨_, rfl⟩
            have hum1 : max (used : Int) ((d : Int) + 1) = (um : Int) := by omega
            have hum2 : um ≤ L.length + 1 := by omega
            have hll : (L ++ [d]).length = L.length + 1 := by simp
            have h56 := IH.out (L ++ [d]) um s1 wc (by omega) (by omega) HCD.out HTD.out HID.out
            rw [← hum] at HLP
            obtain ⟨rs, hrs⟩ : ∃ rs, rs = trC c.k adj step r (L ++ [d]) um s1 := ⟨_, rfl⟩
            rw [← hrs] at h56 HLP
            rw [hll] at h56
            have ecast : ((L.length + 1 : Nat) : Int) = (L.length : Int) + 1 := by omega
            rw [ecast] at h56
            have H56 : Hid (Calls Tryd.prog 39 #[.int .i64 ((L.length : Int) + 1), .int .i64 (um : Int), ptr c.nb, ptr c.sb, ptr c.cb, ptr c.lb, ptr c.wb, ptr c.fb] wc (Found c Inv Ms Fin (L ++ [d]) rs wc)) := h56
            have q7 : wc.cell? ⟨c.fb, 0, none⟩ = some (.func (.func 39) #[] #[ptr c.nb, ptr c.sb, ptr c.cb, ptr c.lb, ptr c.wb, ptr c.fb]) := box_cell (i := 0) HCD.out.bf rfl
            have k4 : IntKind.i64.wrap ((L.length : Int) + 1) = (L.length : Int) + 1 := by rw [IntKind.wrap_i64]; omega
            have k5 : IntKind.i64.wrap ((d : Int) + 1) = (d : Int) + 1 := by rw [IntKind.wrap_i64]; omega
            have HSN : Hid (∀ W, TR c W (L ++ [d]) → ∀ W', RowV W' c.gw 57 c.k (fun e => .int .u32 ((wm L e : Nat) : Int)) → Turns (fun x => x = c.gw) W W' → TR c W' L) := fun W h W' hw ht' => by
              obtain ⟨f', h1, h2⟩ := h.cols
              refine ⟨⟨f', h1.turns ht' (fun e => HS.out.own.2.2 e), fun i hi => ?_⟩, hw⟩
              rw [h2 i (by rw [hll]; omega), getD_left hi]
            clear h56 hrs hum hwD htD HSC HCOL hTC HIC HCC HWC ecast
            obtain ⟨b9, s9⟩ := rs
            cases b9 with
            | true =>
              have hr9 : (true, s9) = res := by have := HLP.out; simpa using this
              clear HLP
              go_wp2_with (first | (go_at_call 39; refine Calls.mono H56.out ?_; rintro e WE ⟨rfl, hi9, ht9, _, hfin⟩; have HFIN : Hid (∃ M, Cols c WE M ∧ Fin M s9) := hfin rfl; have HI9 : Hid (Inv WE s9) := hi9; clear hfin hi9) | go_in)
              go_ret
              refine ⟨by rw [← hr9]; rfl, by rw [← hr9]; exact HI9.out, hTD.trans ht9, fun h => ?_, fun _ => by rw [← hr9]; exact HFIN.out⟩
              rw [← hr9] at h
              cases h
            | false =>
              have hr8 : lpC adj L used (trC c.k adj step r) ((List.range lim).drop (d + 1)) s9 = res := by have := HLP.out; simpa using this
              have hr9 : Hid (lpC adj L used (trC c.k adj step r) ((List.range lim).drop (d + 1)) s9 = res) := hr8
              clear HLP hr8
              go_upto_region 11 with (first | (go_at_call 39; refine Calls.mono H56.out ?_; rintro e WE ⟨rfl, hi9, ht9, htr9, _⟩; have HTR9 : Hid (TR c WE (L ++ [d])) := htr9 rfl; have HI9 : Hid (Inv WE s9) := hi9; clear htr9 hi9) | go_in)
              have hcE : TC c WE := HCD.out.turns ht9 (Tc.mall HS.out.apart HS.out.own)
              have q6 : WE.cell? ⟨c.wb, 0, none⟩ = some (sl c.gw c.k) := box_cell (i := 0) hcE.bw rfl
              have g1 := HTR9.out.wth.cell hdk
              have f1 := HTR9.out.wth.free d
              have hbig : wm (L ++ [d]) d < 4294967296 := by have := wm_lt (L := L ++ [d]) d (by omega); omega
              have hpl := pow_lt32 (v := L.length) (by omega)
              obtain ⟨a2, ha2⟩ : ∃ a2, a2 = wm (L ++ [d]) d := ⟨_, rfl⟩
              rw [← ha2] at g1 hbig
              have q8 : bits BinOp.andNot IntKind.u32 (a2 : Int) (p : Int) = (a : Int) := by
                rw [u32_andNot_nat a2 p hbig (by rw [HP.out.1]; exact hpl), ha2, HP.out.1, wm_back L d (by omega), HA.out]
              have HWF : Hid (RowV (WE.setCell ⟨c.gw, d, none⟩ (.int .u32 (a : Int))).drew c.gw 57 c.k (fun e => .int .u32 ((wm L e : Nat) : Int))) := (HTR9.out.wth.set d (.int .u32 (a : Int))).congr (fun j _ => by
                by_cases e : j = d
                · subst e; simp only [if_true]; rw [HA.out]
                · simp only [e, if_false]; rw [wm_snoc_ne L e])
              have tF : Turns (fun x => x = c.gw) WE (WE.setCell ⟨c.gw, d, none⟩ (.int .u32 (a : Int))).drew := (setCell_turns WE c.gw d _).trans (Turns.of_below (Below.refl _ _).drew _)
              have HTF : Hid (TR c (WE.setCell ⟨c.gw, d, none⟩ (.int .u32 (a : Int))).drew L) := HSN.out WE HTR9.out _ HWF.out tF
              have HIF : Hid (Inv (WE.setCell ⟨c.gw, d, none⟩ (.int .u32 (a : Int))).drew s9) := HS.out.keep _ _ _ HI9.out (tF.mono (fun _ _ h => Or.inr h))
              have hTF : Turns (Mall c Ms) W (WE.setCell ⟨c.gw, d, none⟩ (.int .u32 (a : Int))).drew := (hTD.trans ht9).trans (tF.mono (fun _ _ h => Or.inr (Or.inl h)))
              clear ha2 hbig hpl hcE tF q7
              go_region_with ((go_at_call 24; (with_reducible refine Calls.mono (H41.out _) ?_); rintro e Wx ⟨rfl, hWx⟩; rw [hWx]; clear hWx))
              all_goals
                go_wp2
                go_roundw
                case rel => exact ⟨d + 1, s9, by omega, by go_num, hr9.out, HIF.out, HTF.out, hTF⟩
                case measure => simp [numOf]; omega
        · have hz : ab ≠ 0 := fun h => hok (hiff.1 h)
          rw [if_neg hok] at hlp
          have k3 : ((ab : Int) != 0) = true := by simp; omega
          have HLP : Hid (lpC adj L used (trC c.k adj step r) ((List.range lim).drop (d + 1)) s1 = res) := hlp
          clear hlp hiff hok hz
          go_upto_region 6 with (fail)
          go_quiet (fail)
          have hbq : Below wr.heap.size wr (wr.drewN nq) := drewN_below _ _
          have hI2 : Inv (wr.drewN nq) s1 := HS.out.keep _ _ _ HI.out (Turns.of_below hbq _)
          have HI2 : Hid (Inv (wr.drewN nq) s1) := hI2
          clear hI2
          go_wp2
          go_roundw
          case rel => exact ⟨d + 1, s1, by omega, by go_num, HLP.out, HI2.out, HT.out.turns (M := fun _ => False) (Turns.of_below hbq _) (fun _ h => h.elim), hT.trans (Turns.of_below hbq _)⟩
          case measure => simp [numOf]; omega
      · have i2 : ¬ (d : Int) < (lim : Int) := by omega
        have hr0 : (false, s1) = res := by rw [← hlp, List.drop_of_length_le (by simp; omega)]; rfl
        clear hlp
        go_wp2
        go_ret
        refine ⟨by rw [← hr0]; rfl, by rw [← hr0]; exact HI.out, hT, fun _ => HT.out, fun h => ?_⟩
        rw [← hr0] at h
        cases h
end
end Go.Proofs.YtdnmoifbkojnlaaDoor
