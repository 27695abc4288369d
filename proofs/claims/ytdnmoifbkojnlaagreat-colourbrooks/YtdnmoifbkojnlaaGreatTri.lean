/- try: all colourings, until one is enough. try and colouring. colouring. Number. The document's Colouring. -/
import Derived.Test.YtdnmoifbkojnlaaGreatColS
namespace Go.Proofs.YtdnmoifbkojnlaaGreat
open Go.RowKit Go.Maps
attribute [local go_sem ↓] Go.wp_at_zero Go.wp_at_succ

def iv (f : Nat → Int) : Nat → Value := fun i => .int .i64 (f i)
/-- Where a search lies. -/
structure Tc where
  (nb sb cb lb wb fb gn gc gw n k : Nat)
  F : FuncId
  caps : Array Value
  mask : Nat → Nat
def Tc.sv (c : Tc) : Value := .func (.func c.F) #[] c.caps
def Tc.me (c : Tc) : Value := .func (.func 85) #[] #[ptr c.nb, ptr c.sb, ptr c.cb, ptr c.lb, ptr c.wb, ptr c.fb]
structure TC (c : Tc) (w : World) : Prop where
  bn : Box w c.nb #[sl c.gn c.n] 83
  bs : Box w c.sb #[c.sv] 108
  bc : Box w c.cb #[sl c.gc c.n] 29
  bl : Box w c.lb #[.int .i64 (c.k : Int)] 3
  bw : Box w c.wb #[sl c.gw c.k] 83
  bf : Box w c.fb #[c.me] 58
  rn : RowV w c.gn 115 c.n (fun v => .int .u32 ((c.mask v : Nat) : Int))
def Tc.own (c : Tc) (x : Nat) : Prop := x = c.nb ∨ x = c.sb ∨ x = c.cb ∨ x = c.lb ∨ x = c.wb ∨ x = c.fb ∨ x = c.gn
theorem TC.turns {c : Tc} {M : Nat → Prop} {w w' : World} (h : TC c w) (ht : Turns M w w') (hm : ∀ x, M x → ¬ c.own x) : TC c w' :=
  ⟨box_turns h.bn ht (fun e => hm _ e (Or.inl rfl)), box_turns h.bs ht (fun e => hm _ e (Or.inr (Or.inl rfl))), box_turns h.bc ht (fun e => hm _ e (Or.inr (Or.inr (Or.inl rfl)))), box_turns h.bl ht (fun e => hm _ e (Or.inr (Or.inr (Or.inr (Or.inl rfl))))), box_turns h.bw ht (fun e => hm _ e (Or.inr (Or.inr (Or.inr (Or.inr (Or.inl rfl)))))), box_turns h.bf ht (fun e => hm _ e (Or.inr (Or.inr (Or.inr (Or.inr (Or.inr (Or.inl rfl))))))), h.rn.turns ht (fun e => hm _ e (Or.inr (Or.inr (Or.inr (Or.inr (Or.inr (Or.inr rfl)))))))⟩
/-- The rows that the search turns: the colours so far, and of each colour its nodes. -/
structure TR (c : Tc) (w : World) (L : List Nat) : Prop where
  cols : ∃ f : Nat → Int, RowV w c.gc 3 c.n (iv f) ∧ ∀ i, i < L.length → f i = (L.getD i 0 : Int)
  wth : RowV w c.gw 115 c.k (fun d => .int .u32 ((wm L d : Nat) : Int))
theorem TR.turns {c : Tc} {M : Nat → Prop} {w w' : World} {L : List Nat} (h : TR c w L) (ht : Turns M w w') (hm : ∀ x, M x → x ≠ c.gc ∧ x ≠ c.gw) : TR c w' L := by
  obtain ⟨f, h1, h2⟩ := h.cols
  exact ⟨⟨f, h1.turns ht (fun e => (hm _ e).1 rfl), h2⟩, h.wth.turns ht (fun e => (hm _ e).2 rfl)⟩
/-- The colours that stand there are M. -/
def Cols (c : Tc) (w : World) (M : List Nat) : Prop := M.length = c.n ∧ RowV w c.gc 3 c.n (fun i => .int .i64 (M.getD i 0 : Int))
/-- What is known of the function that sees each colouring. -/
structure See (c : Tc) {σ : Type} (step : List Nat → Nat → σ → Bool × σ) (Inv : World → σ → Prop) (Ms : Nat → Prop) (Fin : List Nat → σ → Prop) : Prop where
  enter : ∀ args w', (callFunc c.F args).run Tryz.prog w' = .ok (.enter c.F args) w'
  call : ∀ (W : World) (L : List Nat) (used : Nat) (s : σ), L.length = c.n → used ≤ c.n → Inv W s → TC c W → TR c W L → Calls Tryz.prog c.F (#[sl c.gc c.n, .int .i64 (used : Int)] ++ c.caps) W fun e w' => e = .returned (.bool (step L used s).1) ∧ Inv w' (step L used s).2 ∧ Turns Ms W w'
  keep : ∀ W W' s, Inv W s → Turns (fun x => x = c.gc ∨ x = c.gw) W W' → Inv W' s
  fin : ∀ L used s, (step L used s).1 = true → Fin L (step L used s).2
  apart : ∀ x, Ms x → ¬ c.own x ∧ x ≠ c.gc ∧ x ≠ c.gw
  own : ¬ c.own c.gc ∧ ¬ c.own c.gw ∧ c.gc ≠ c.gw
def Mall (c : Tc) (Ms : Nat → Prop) (x : Nat) : Prop := x = c.gc ∨ x = c.gw ∨ Ms x
/-- What the search answers. -/
def Found (c : Tc) {σ : Type} (Inv : World → σ → Prop) (Ms : Nat → Prop) (Fin : List Nat → σ → Prop) (L : List Nat) (res : Bool × σ) (W : World) (e : Ending) (w' : World) : Prop :=
  e = .returned (.bool res.1) ∧ Inv w' res.2 ∧ Turns (Mall c Ms) W w' ∧ (res.1 = false → TR c w' L) ∧ (res.1 = true → ∃ M, Cols c w' M ∧ Fin M res.2)
theorem enter85 (args : Array Value) (w : World) : (callFunc 85 args).run Tryz.prog w = .ok (.enter 85 args) w := by
  simp [callFunc, Tryz.func85, go_sem]
  rw [if_neg (of_decide_eq_true (by kernel_rfl)), if_neg (by intro h; have : Tryz.f85.body.isSome = true := (by kernel_rfl); rw [h] at this; cases this)]
theorem Tc.mall {c : Tc} {Ms : Nat → Prop} (h1 : ∀ x, Ms x → ¬ c.own x ∧ x ≠ c.gc ∧ x ≠ c.gw) (h2 : ¬ c.own c.gc ∧ ¬ c.own c.gw ∧ c.gc ≠ c.gw) : ∀ x, Mall c Ms x → ¬ c.own x := fun x hx => by
  rcases hx with rfl | rfl | hx
  · exact h2.1
  · exact h2.2.1
  · exact (h1 x hx).1
section
variable {σ : Type} {step : List Nat → Nat → σ → Bool × σ} {Inv : World → σ → Prop} {Ms : Nat → Prop} {Fin : List Nat → σ → Prop} {adj : Nat → Nat → Bool}
theorem drop_range {k c : Nat} (h : c < k) : (List.range k).drop c = c :: (List.range k).drop (c + 1) := by
  rw [List.drop_eq_getElem_cons (by simpa using h)]; simp

set_option maxRecDepth 4000 in
set_option maxHeartbeats 8000000 in
theorem from_call {c : Tc} (hn : c.n ≤ 24) (hk : c.k ≤ 24) (hS : See c step Inv Ms Fin) (hadj : ∀ v z, v < c.n → (c.mask v).testBit z = adj v z) (hmask : ∀ v, v < c.n → c.mask v < 4294967296) :
    ∀ (r : Nat) (L : List Nat) (used : Nat) (s : σ) (W : World), r + L.length = c.n → used ≤ L.length → TC c W → TR c W L → Inv W s →
      Calls Tryz.prog 85 #[.int .i64 (L.length : Int), .int .i64 (used : Int), ptr c.nb, ptr c.sb, ptr c.cb, ptr c.lb, ptr c.wb, ptr c.fb] W (Found c Inv Ms Fin L (trC c.k adj step r L used s) W) := by
  have HS : Hid (See c step Inv Ms Fin) := hS
  have hFs := hS.enter
  have hF57 := enter85
  have HADJ : Hid (∀ v z, v < c.n → (c.mask v).testBit z = adj v z) := hadj
  have HMASK : Hid (∀ v, v < c.n → c.mask v < 4294967296) := hmask
  clear hS hadj hmask
  intro r
  induction r with
  | zero =>
    intro L used s W hr hu hc ht hI
    have hln : L.length = c.n := by omega
    have h19 := HS.out.call W L used s hln (by omega) hI hc ht
    have e19 : (#[sl c.gc c.n, .int .i64 (used : Int)] ++ c.caps : Array Value) = #[sl c.gc c.n, .int .i64 (used : Int)] ++ c.caps := rfl
    obtain ⟨F, caps, hcs⟩ : ∃ F caps, c.F = F ∧ c.caps = caps := ⟨_, _, rfl, rfl⟩
    rw [hcs.1] at hFs
    have q3 : W.cell? ⟨c.sb, 0, none⟩ = some (.func (.func F) #[] caps) := by
      have := box_cell (i := 0) hc.bs rfl
      unfold Tc.sv at this
      rwa [hcs.1, hcs.2] at this
    rw [hcs.1, hcs.2] at h19
    have HSEE : Hid (Calls Tryz.prog F (#[sl c.gc c.n, .int .i64 (used : Int)] ++ caps) W fun e w' => e = .returned (.bool (step L used s).1) ∧ Inv w' (step L used s).2 ∧ Turns Ms W w') := h19
    have q2 : W.cell? ⟨c.nb, 0, none⟩ = some (sl c.gn c.n) := box_cell (i := 0) hc.bn rfl
    have q4 : W.cell? ⟨c.cb, 0, none⟩ = some (sl c.gc c.n) := box_cell (i := 0) hc.bc rfl
    have k1 : ((L.length : Int) == (c.n : Int)) = true := by simp [hln]
    have HT : Hid (TR c W L) := ht
    have HLN : Hid (L.length = c.n) := hln
    clear h19 e19 hcs hc ht hI hr hln
    go_enter Tryz.func85, Tryz.ntmps85
    go_wp2_with (first | (with_reducible refine Calls.mono HSEE.out ?_; rintro e W1 ⟨rfl, hi1, ht1⟩) | go_in)
    go_ret
    have htr := HT.out.turns ht1 (fun x hx => (HS.out.apart x hx).2)
    refine ⟨rfl, hi1, ht1.mono (fun _ _ h => Or.inr (Or.inr h)), fun _ => htr, fun hb => ⟨L, ⟨HLN.out, ?_⟩, HS.out.fin L used s hb⟩⟩
    obtain ⟨f, h1, h2⟩ := htr.cols
    exact h1.congr (fun j hj => by unfold iv; rw [h2 j (by rw [HLN.out]; exact hj)])
  | succ r ih =>
    intro L used s W hr hu hc ht hI
    have IH : Hid (∀ (L : List Nat) (used : Nat) (s : σ) (W : World), r + L.length = c.n → used ≤ L.length → TC c W → TR c W L → Inv W s →
      Calls Tryz.prog 85 #[.int .i64 (L.length : Int), .int .i64 (used : Int), ptr c.nb, ptr c.sb, ptr c.cb, ptr c.lb, ptr c.wb, ptr c.fb] W (Found c Inv Ms Fin L (trC c.k adj step r L used s) W)) := ih
    have hln : L.length < c.n := by omega
    have q2 : W.cell? ⟨c.nb, 0, none⟩ = some (sl c.gn c.n) := box_cell (i := 0) hc.bn rfl
    have q5 : W.cell? ⟨c.lb, 0, none⟩ = some (.int .i64 (c.k : Int)) := box_cell (i := 0) hc.bl rfl
    have k1 : ((L.length : Int) == (c.n : Int)) = false := by rw [beq_eq_false_iff_ne]; omega
    obtain ⟨lim, hlim⟩ : ∃ m, m = min (used + 1) c.k := ⟨_, rfl⟩
    have hlim1 : min ((used : Int) + 1) (c.k : Int) = (lim : Int) := by omega
    have hlim2 : lim ≤ used + 1 ∧ lim ≤ c.k := by omega
    have k2 : IntKind.i64.wrap ((used : Int) + 1) = (used : Int) + 1 := by rw [IntKind.wrap_i64]; omega
    obtain ⟨res, hres⟩ : ∃ res, res = trC c.k adj step (r + 1) L used s := ⟨_, rfl⟩
    rw [← hres]
    have HRES : Hid (lpC adj L used (trC c.k adj step r) (List.range lim) s = res) := by
      show lpC adj L used (trC c.k adj step r) (List.range lim) s = res
      rw [hres, hlim]; rfl
    have HC : Hid (TC c W) := hc
    have HT : Hid (TR c W L) := ht
    have HI : Hid (Inv W s) := hI
    clear ih hc ht hI hres hlim
    go_enter Tryz.func85, Tryz.ntmps85
    go_wp2
    clear q2 q5
    go_loopw [24, 11] (fun iv' _ wr => ∃ (d : Nat) (s1 : σ), d ≤ lim ∧ iv' = .int .i64 (d : Int) ∧ lpC adj L used (trC c.k adj step r) ((List.range lim).drop d) s1 = res ∧ Inv wr s1 ∧ TR c wr L ∧ Turns (Mall c Ms) W wr) (fun iv' _ _ => lim - (numOf iv').toNat)
    case atStart => exact ⟨0, s, Nat.zero_le _, rfl, by simpa using HRES.out, HI.out, HT.out, Turns.refl _ _⟩
    case round =>
      clear HRES HI HT
      obtain ⟨d, s1, hd, rfl, hlp, hI, ht, hT⟩ := hrel
      have hcw : TC c wr := HC.out.turns hT (Tc.mall HS.out.apart HS.out.own)
      have HCW : Hid (TC c wr) := hcw
      have HT : Hid (TR c wr L) := ht
      have HI : Hid (Inv wr s1) := hI
      by_cases hdl : d < lim
      · have i2 : (d : Int) < (lim : Int) := by omega
        have hdk : d < c.k := by omega
        rw [drop_range hdl] at hlp
        unfold lpC at hlp
        have q6 : wr.cell? ⟨c.wb, 0, none⟩ = some (sl c.gw c.k) := box_cell (i := 0) hcw.bw rfl
        have q2 : wr.cell? ⟨c.nb, 0, none⟩ = some (sl c.gn c.n) := box_cell (i := 0) hcw.bn rfl
        have q4 : wr.cell? ⟨c.cb, 0, none⟩ = some (sl c.gc c.n) := box_cell (i := 0) hcw.bc rfl
        have g1 := ht.wth.cell hdk
        have g2 := hcw.rn.cell hln
        have hwl : wm L d < 16777216 := wm_lt d (by omega)
        have hml := HMASK.out L.length hln
        have hiff := mask_ok (c := d) (L := L) (adj := adj) (m := c.mask L.length) (fun z => HADJ.out L.length z hln)
        obtain ⟨a, ha⟩ : ∃ a, a = wm L d := ⟨_, rfl⟩
        obtain ⟨b, hb⟩ : ∃ b, b = c.mask L.length := ⟨_, rfl⟩
        rw [← ha] at g1 hwl hiff
        rw [← hb] at g2 hml hiff
        have q9 : bits BinOp.and IntKind.u32 (a : Int) (b : Int) = ((a &&& b : Nat) : Int) := u32_and_nat a b (by omega) hml
        have j1 : (0 : Int) ≤ (d : Int) := by omega
        have j2 : (d : Int) < (c.k : Int) := by omega
        have j3 : (0 : Int) ≤ (L.length : Int) := by omega
        have j4 : (L.length : Int) < (c.n : Int) := by omega
        have HA : Hid (a = wm L d) := ha
        obtain ⟨ab, hab⟩ : ∃ x, x = a &&& b := ⟨_, rfl⟩
        rw [← hab] at q9 hiff
        clear ht hI ha hb hab hcw
        by_cases hok : okC adj L d = true
        · rw [if_pos hok] at hlp
          have hz : ab = 0 := hiff.2 hok
          have k3 : ((ab : Int) != 0) = false := by simp [hz]
          have HLP : Hid ((if (trC c.k adj step r (L ++ [d]) (max used (d + 1)) s1).1 = true then (true, (trC c.k adj step r (L ++ [d]) (max used (d + 1)) s1).2) else lpC adj L used (trC c.k adj step r) ((List.range lim).drop (d + 1)) (trC c.k adj step r (L ++ [d]) (max used (d + 1)) s1).2) = res) := hlp
          clear hlp hiff hok hz
          go_upto_region 6 with (fail)
          go_quiet (fail)
          have hbq : Below wr.heap.size wr (wr.drewN nq) := drewN_below _ _
          have HI2 : Hid (Inv (wr.drewN nq) s1) := HS.out.keep _ _ _ HI.out (Turns.of_below hbq _)
          have HCQ : Hid (TC c (wr.drewN nq)) := HCW.out.turns (M := fun _ => False) (Turns.of_below hbq _) (fun _ h => h.elim)
          have HTQ : Hid (TR c (wr.drewN nq) L) := HT.out.turns (M := fun _ => False) (Turns.of_below hbq _) (fun _ h => h.elim)
          have hTq := hT.trans (Turns.of_below hbq _)
          generalize wr.drewN nq = WA at HI2 HCQ HTQ hTq ⊢
          obtain ⟨f, hf1, hf2⟩ := HTQ.out.cols
          have q4 : WA.cell? ⟨c.cb, 0, none⟩ = some (sl c.gc c.n) := box_cell (i := 0) HCQ.out.bc rfl
          have r4 := hf1.cell hln
          have f4 := hf1.free L.length
          unfold iv at r4
          generalize f L.length = old at r4
          have hsetC : RowV (WA.setCell ⟨c.gc, L.length, none⟩ (.int .i64 (d : Int))) c.gc 3 c.n (iv (fun i => if i = L.length then (d : Int) else f i)) := (hf1.set L.length (.int .i64 (d : Int))).congr (fun j _ => by unfold iv; by_cases e : j = L.length <;> simp [e])
          have tC := setCell_turns WA c.gc L.length (.int .i64 (d : Int))
          have HWC : Hid (RowV (WA.setCell ⟨c.gc, L.length, none⟩ (.int .i64 (d : Int))) c.gw 115 c.k (fun e => .int .u32 ((wm L e : Nat) : Int))) := HTQ.out.wth.turns tC (fun e => HS.out.own.2.2 e.symm)
          have HCC : Hid (TC c (WA.setCell ⟨c.gc, L.length, none⟩ (.int .i64 (d : Int)))) := HCQ.out.turns tC (fun x hx => by rw [hx]; exact HS.out.own.1)
          have HIC : Hid (Inv (WA.setCell ⟨c.gc, L.length, none⟩ (.int .i64 (d : Int))) s1) := HS.out.keep _ _ _ HI2.out (tC.mono (fun _ _ h => Or.inl h))
          have hTC := hTq.trans (tC.mono (M' := Mall c Ms) (fun _ _ h => Or.inl h))
          have HCOL : Hid (∀ i, i < (L ++ [d]).length → (if i = L.length then (d : Int) else f i) = ((L ++ [d]).getD i 0 : Int)) := fun i hi => by
            have hl : (L ++ [d]).length = L.length + 1 := by simp
            by_cases e : i = L.length
            · subst e; rw [if_pos rfl, getD_last]
            · rw [if_neg e, getD_left (by omega)]; exact hf2 i (by omega)
          clear tC hf1 hf2 HTQ HCQ HI2 hTq hbq
          go_upto_region 8 with (fail)
          clear q4 r4 f4
          generalize WA.setCell ⟨c.gc, L.length, none⟩ (.int .i64 (d : Int)) = WB at hsetC HWC HCC HIC hTC ⊢
          have HSC : Hid (RowV WB c.gc 3 c.n (iv (fun i => if i = L.length then (d : Int) else f i))) := hsetC
          clear hsetC
          have q6 : WB.cell? ⟨c.wb, 0, none⟩ = some (sl c.gw c.k) := box_cell (i := 0) HCC.out.bw rfl
          have g1 := HWC.out.cell hdk
          rw [← HA.out] at g1
          have f1 := HWC.out.free d
          have hpl := pow_lt32 (v := L.length) (by omega)
          obtain ⟨p, hp⟩ : ∃ p, p = 2 ^ L.length := ⟨_, rfl⟩
          have H41 : Hid (∀ W, Calls Tryz.prog 73 #[.int .i64 (L.length : Int)] W fun e w' => e = .returned (.int .u32 (p : Int)) ∧ w' = W) := fun W => by rw [hp]; exact only_call (by omega)
          obtain ⟨a1, ha1⟩ : ∃ a1, a1 = a ||| p := ⟨_, rfl⟩
          have q8 : bits BinOp.or IntKind.u32 (a : Int) (p : Int) = (a1 : Int) := by rw [u32_or_nat a p (by omega) (by rw [hp]; exact hpl), ha1]
          have HW1 : Hid (∀ W, RowV W c.gw 115 c.k (fun e => .int .u32 ((wm L e : Nat) : Int)) → RowV (W.setCell ⟨c.gw, d, none⟩ (.int .u32 (a1 : Int))) c.gw 115 c.k (fun e => .int .u32 ((wm (L ++ [d]) e : Nat) : Int))) := fun W h => (h.set d (.int .u32 (a1 : Int))).congr (fun j _ => by
            by_cases e : j = d
            · subst e; simp only [if_true]; rw [wm_snoc_self, ha1, hp, HA.out]
            · simp only [e, if_false]; rw [wm_snoc_ne L e])
          have HP : Hid (p = 2 ^ L.length ∧ a1 = a ||| p) := ⟨hp, ha1⟩
          clear ha1 hp hpl
          go_cut [] from 41 to 48 (fun wd => RowV wd c.gw 115 c.k (fun e => .int .u32 ((wm (L ++ [d]) e : Nat) : Int)) ∧ Turns (fun x => x = c.gw) WB wd)
          case first =>
            go_region_with ((go_at_call 73; (with_reducible refine Calls.mono (H41.out _) ?_); rintro e Wx ⟨rfl, hWx⟩; rw [hWx]; clear hWx))
            all_goals
              go_wp2_with fail
              go_meet
              case rel => exact ⟨id (HW1.out WB HWC.out), (setCell_turns WB c.gw d _).trans (Turns.of_below (Below.refl _ _).drew _)⟩
          case rest =>
            obtain ⟨hwD, htD⟩ := hcut
            clear q6 g1 f1 q8 HW1
            have tg : ∀ x, x = c.gw → ¬ c.own x := fun x hx => by rw [hx]; exact HS.out.own.2.1
            have HCD : Hid (TC c wc) := HCC.out.turns htD tg
            have HID : Hid (Inv wc s1) := HS.out.keep _ _ _ HIC.out (htD.mono (fun _ _ h => Or.inr h))
            have HTD : Hid (TR c wc (L ++ [d])) := ⟨⟨_, HSC.out.turns htD (fun e => HS.out.own.2.2 e), HCOL.out⟩, hwD⟩
            have hTD : Turns (Mall c Ms) W wc := hTC.trans (htD.mono (fun _ _ h => Or.inr (Or.inl h)))
            obtain ⟨um, hum⟩ : ∃ um, um = max used (d + 1) := ⟨_, rfl⟩
            have hum1 : max (used : Int) ((d : Int) + 1) = (um : Int) := by omega
            have hum2 : um ≤ L.length + 1 := by omega
            have hll : (L ++ [d]).length = L.length + 1 := by simp
            have h56 := IH.out (L ++ [d]) um s1 wc (by omega) (by omega) HCD.out HTD.out HID.out
            rw [← hum] at HLP
            obtain ⟨rs, hrs⟩ : ∃ rs, rs = trC c.k adj step r (L ++ [d]) um s1 := ⟨_, rfl⟩
            rw [← hrs] at h56 HLP
            rw [hll] at h56
            have ecast : ((L.length + 1 : Nat) : Int) = (L.length : Int) + 1 := by omega
            rw [ecast] at h56
            have H56 : Hid (Calls Tryz.prog 85 #[.int .i64 ((L.length : Int) + 1), .int .i64 (um : Int), ptr c.nb, ptr c.sb, ptr c.cb, ptr c.lb, ptr c.wb, ptr c.fb] wc (Found c Inv Ms Fin (L ++ [d]) rs wc)) := h56
            have q7 : wc.cell? ⟨c.fb, 0, none⟩ = some (.func (.func 85) #[] #[ptr c.nb, ptr c.sb, ptr c.cb, ptr c.lb, ptr c.wb, ptr c.fb]) := box_cell (i := 0) HCD.out.bf rfl
            have k4 : IntKind.i64.wrap ((L.length : Int) + 1) = (L.length : Int) + 1 := by rw [IntKind.wrap_i64]; omega
            have k5 : IntKind.i64.wrap ((d : Int) + 1) = (d : Int) + 1 := by rw [IntKind.wrap_i64]; omega
            have HSN : Hid (∀ W, TR c W (L ++ [d]) → ∀ W', RowV W' c.gw 115 c.k (fun e => .int .u32 ((wm L e : Nat) : Int)) → Turns (fun x => x = c.gw) W W' → TR c W' L) := fun W h W' hw ht' => by
              obtain ⟨f', h1, h2⟩ := h.cols
              refine ⟨⟨f', h1.turns ht' (fun e => HS.out.own.2.2 e), fun i hi => ?_⟩, hw⟩
              rw [h2 i (by rw [hll]; omega), getD_left hi]
            clear h56 hrs hum hwD htD HSC HCOL hTC HIC HCC HWC ecast
            obtain ⟨b9, s9⟩ := rs
            cases b9 with
            | true =>
              have hr9 : (true, s9) = res := by have := HLP.out; simpa using this
              clear HLP
              go_wp2_with (first | (go_at_call 85; refine Calls.mono H56.out ?_; rintro e WE ⟨rfl, hi9, ht9, _, hfin⟩; have HFIN : Hid (∃ M, Cols c WE M ∧ Fin M s9) := hfin rfl; have HI9 : Hid (Inv WE s9) := hi9; clear hfin hi9) | go_in)
              go_ret
              refine ⟨by rw [← hr9]; rfl, by rw [← hr9]; exact HI9.out, hTD.trans ht9, fun h => ?_, fun _ => by rw [← hr9]; exact HFIN.out⟩
              rw [← hr9] at h
              cases h
            | false =>
              have hr8 : lpC adj L used (trC c.k adj step r) ((List.range lim).drop (d + 1)) s9 = res := by have := HLP.out; simpa using this
              have hr9 : Hid (lpC adj L used (trC c.k adj step r) ((List.range lim).drop (d + 1)) s9 = res) := hr8
              clear HLP hr8
              go_upto_region 11 with (first | (go_at_call 85; refine Calls.mono H56.out ?_; rintro e WE ⟨rfl, hi9, ht9, htr9, _⟩; have HTR9 : Hid (TR c WE (L ++ [d])) := htr9 rfl; have HI9 : Hid (Inv WE s9) := hi9; clear htr9 hi9) | go_in)
              have hcE : TC c WE := HCD.out.turns ht9 (Tc.mall HS.out.apart HS.out.own)
              have q6 : WE.cell? ⟨c.wb, 0, none⟩ = some (sl c.gw c.k) := box_cell (i := 0) hcE.bw rfl
              have g1 := HTR9.out.wth.cell hdk
              have f1 := HTR9.out.wth.free d
              have hbig : wm (L ++ [d]) d < 4294967296 := by have := wm_lt (L := L ++ [d]) d (by omega); omega
              have hpl := pow_lt32 (v := L.length) (by omega)
              obtain ⟨a2, ha2⟩ : ∃ a2, a2 = wm (L ++ [d]) d := ⟨_, rfl⟩
              rw [← ha2] at g1 hbig
              have q8 : bits BinOp.andNot IntKind.u32 (a2 : Int) (p : Int) = (a : Int) := by
                rw [u32_andNot_nat a2 p hbig (by rw [HP.out.1]; exact hpl), ha2, HP.out.1, wm_back L d (by omega), HA.out]
              have HWF : Hid (RowV (WE.setCell ⟨c.gw, d, none⟩ (.int .u32 (a : Int))).drew c.gw 115 c.k (fun e => .int .u32 ((wm L e : Nat) : Int))) := (HTR9.out.wth.set d (.int .u32 (a : Int))).congr (fun j _ => by
                by_cases e : j = d
                · subst e; simp only [if_true]; rw [HA.out]
                · simp only [e, if_false]; rw [wm_snoc_ne L e])
              have tF : Turns (fun x => x = c.gw) WE (WE.setCell ⟨c.gw, d, none⟩ (.int .u32 (a : Int))).drew := (setCell_turns WE c.gw d _).trans (Turns.of_below (Below.refl _ _).drew _)
              have HTF : Hid (TR c (WE.setCell ⟨c.gw, d, none⟩ (.int .u32 (a : Int))).drew L) := HSN.out WE HTR9.out _ HWF.out tF
              have HIF : Hid (Inv (WE.setCell ⟨c.gw, d, none⟩ (.int .u32 (a : Int))).drew s9) := HS.out.keep _ _ _ HI9.out (tF.mono (fun _ _ h => Or.inr h))
              have hTF : Turns (Mall c Ms) W (WE.setCell ⟨c.gw, d, none⟩ (.int .u32 (a : Int))).drew := (hTD.trans ht9).trans (tF.mono (fun _ _ h => Or.inr (Or.inl h)))
              clear ha2 hbig hpl hcE tF q7
              go_region_with ((go_at_call 73; (with_reducible refine Calls.mono (H41.out _) ?_); rintro e Wx ⟨rfl, hWx⟩; rw [hWx]; clear hWx))
              all_goals
                go_wp2
                go_roundw
                case rel => exact ⟨d + 1, s9, by omega, by go_num, hr9.out, HIF.out, HTF.out, hTF⟩
                case measure => simp [numOf]; omega
        · have hz : ab ≠ 0 := fun h => hok (hiff.1 h)
          rw [if_neg hok] at hlp
          have k3 : ((ab : Int) != 0) = true := by simp; omega
          have HLP : Hid (lpC adj L used (trC c.k adj step r) ((List.range lim).drop (d + 1)) s1 = res) := hlp
          clear hlp hiff hok hz
          go_upto_region 6 with (fail)
          go_quiet (fail)
          have hbq : Below wr.heap.size wr (wr.drewN nq) := drewN_below _ _
          have hI2 : Inv (wr.drewN nq) s1 := HS.out.keep _ _ _ HI.out (Turns.of_below hbq _)
          have HI2 : Hid (Inv (wr.drewN nq) s1) := hI2
          clear hI2
          go_wp2
          go_roundw
          case rel => exact ⟨d + 1, s1, by omega, by go_num, HLP.out, HI2.out, HT.out.turns (M := fun _ => False) (Turns.of_below hbq _) (fun _ h => h.elim), hT.trans (Turns.of_below hbq _)⟩
          case measure => simp [numOf]; omega
      · have i2 : ¬ (d : Int) < (lim : Int) := by omega
        have hr0 : (false, s1) = res := by rw [← hlp, List.drop_of_length_le (by simp; omega)]; rfl
        clear hlp
        go_wp2
        go_ret
        refine ⟨by rw [← hr0]; rfl, by rw [← hr0]; exact HI.out, hT, fun _ => HT.out, fun h => ?_⟩
        rw [← hr0] at h
        cases h
end
end Go.Proofs.YtdnmoifbkojnlaaGreat

namespace Go.Proofs.YtdnmoifbkojnlaaGreat
open Go.RowKit Go.Maps
attribute [local go_sem ↓] Go.wp_at_zero Go.wp_at_succ

/-- A search that lies where it should: its own blocks are new. -/
structure TcOk (c : Tc) (w : World) (gn n k : Nat) (F : FuncId) (caps : Array Value) (mask : Nat → Nat) : Prop where
  gn : c.gn = gn
  n : c.n = n
  k : c.k = k
  F : c.F = F
  caps : c.caps = caps
  mask : c.mask = mask
  ge : w.heap.size ≤ c.nb ∧ w.heap.size ≤ c.sb ∧ w.heap.size ≤ c.cb ∧ w.heap.size ≤ c.lb ∧ w.heap.size ≤ c.wb ∧ w.heap.size ≤ c.fb ∧ w.heap.size ≤ c.gc ∧ w.heap.size ≤ c.gw
  own : ¬ c.own c.gc ∧ ¬ c.own c.gw ∧ c.gc ≠ c.gw
theorem atk {w : World} {cs : Array Value} {t : TypeId} {b : Nat} (h : w.heap.size = b) : Box (w.alloc (Obj.cells cs t)) b cs t := by
  subst h; exact heap_alloc_new _ _
theorem box_up {w : World} {b : Nat} {cs : Array Value} {t : TypeId} (h : Box w b cs t) (o : Obj) : Box (w.alloc o) b cs t := (Below.heap_alloc _ _ _ (Array.getElem?_eq_some_iff.1 h).1).trans h
/-- What try lays. -/
def tcOf (w : World) (gn n k : Nat) (F : FuncId) (caps : Array Value) (mask : Nat → Nat) : Tc :=
  ⟨w.heap.size, w.heap.size + 1 + 1, w.heap.size + 1 + 1 + 1 + 1, w.heap.size + 1, w.heap.size + 1 + 1 + 1 + 1 + 1 + 1, w.heap.size + 1 + 1 + 1 + 1 + 1 + 1 + 1, gn, w.heap.size + 1 + 1 + 1, w.heap.size + 1 + 1 + 1 + 1 + 1, n, k, F, caps, mask⟩
theorem tcOf_ok {w : World} {gn n k : Nat} {F : FuncId} {caps : Array Value} {mask : Nat → Nat} (hg : gn < w.heap.size) : TcOk (tcOf w gn n k F caps mask) w gn n k F caps mask where
  gn := rfl
  n := rfl
  k := rfl
  F := rfl
  caps := rfl
  mask := rfl
  ge := by unfold tcOf; simp only; omega
  own := by unfold Tc.own tcOf; simp only; omega
theorem try_laid {w : World} {gn n k : Nat} {F : FuncId} {caps : Array Value} {mask : Nat → Nat} (hrow : RowV w gn 115 n (fun v => .int .u32 ((mask v : Nat) : Int))) :
    TC (tcOf w gn n k F caps mask) ((((((((w.alloc (Obj.cells #[sl gn n] 83)).alloc (Obj.cells #[.int .i64 (k : Int)] 3)).alloc (Obj.cells #[.func (.func F) #[] caps] 108)).alloc (Obj.cells (rep n (.int .i64 0)) 3)).alloc (Obj.cells #[sl (w.heap.size + 1 + 1 + 1) n] 29)).alloc (Obj.cells (rep k (.int .u32 0)) 115)).alloc (Obj.cells #[sl (w.heap.size + 1 + 1 + 1 + 1 + 1) k] 83)).alloc (Obj.cells #[.func (.func 85) #[] #[ptr w.heap.size, ptr (w.heap.size + 1 + 1), ptr (w.heap.size + 1 + 1 + 1 + 1), ptr (w.heap.size + 1), ptr (w.heap.size + 1 + 1 + 1 + 1 + 1 + 1), ptr (w.heap.size + 1 + 1 + 1 + 1 + 1 + 1 + 1)]] 58)) ∧ TR (tcOf w gn n k F caps mask) ((((((((w.alloc (Obj.cells #[sl gn n] 83)).alloc (Obj.cells #[.int .i64 (k : Int)] 3)).alloc (Obj.cells #[.func (.func F) #[] caps] 108)).alloc (Obj.cells (rep n (.int .i64 0)) 3)).alloc (Obj.cells #[sl (w.heap.size + 1 + 1 + 1) n] 29)).alloc (Obj.cells (rep k (.int .u32 0)) 115)).alloc (Obj.cells #[sl (w.heap.size + 1 + 1 + 1 + 1 + 1) k] 83)).alloc (Obj.cells #[.func (.func 85) #[] #[ptr w.heap.size, ptr (w.heap.size + 1 + 1), ptr (w.heap.size + 1 + 1 + 1 + 1), ptr (w.heap.size + 1), ptr (w.heap.size + 1 + 1 + 1 + 1 + 1 + 1), ptr (w.heap.size + 1 + 1 + 1 + 1 + 1 + 1 + 1)]] 58)) [] ∧ Below w.heap.size w ((((((((w.alloc (Obj.cells #[sl gn n] 83)).alloc (Obj.cells #[.int .i64 (k : Int)] 3)).alloc (Obj.cells #[.func (.func F) #[] caps] 108)).alloc (Obj.cells (rep n (.int .i64 0)) 3)).alloc (Obj.cells #[sl (w.heap.size + 1 + 1 + 1) n] 29)).alloc (Obj.cells (rep k (.int .u32 0)) 115)).alloc (Obj.cells #[sl (w.heap.size + 1 + 1 + 1 + 1 + 1) k] 83)).alloc (Obj.cells #[.func (.func 85) #[] #[ptr w.heap.size, ptr (w.heap.size + 1 + 1), ptr (w.heap.size + 1 + 1 + 1 + 1), ptr (w.heap.size + 1), ptr (w.heap.size + 1 + 1 + 1 + 1 + 1 + 1), ptr (w.heap.size + 1 + 1 + 1 + 1 + 1 + 1 + 1)]] 58)) := by
  have hB : Below w.heap.size w ((((((((w.alloc (Obj.cells #[sl gn n] 83)).alloc (Obj.cells #[.int .i64 (k : Int)] 3)).alloc (Obj.cells #[.func (.func F) #[] caps] 108)).alloc (Obj.cells (rep n (.int .i64 0)) 3)).alloc (Obj.cells #[sl (w.heap.size + 1 + 1 + 1) n] 29)).alloc (Obj.cells (rep k (.int .u32 0)) 115)).alloc (Obj.cells #[sl (w.heap.size + 1 + 1 + 1 + 1 + 1) k] 83)).alloc (Obj.cells #[.func (.func 85) #[] #[ptr w.heap.size, ptr (w.heap.size + 1 + 1), ptr (w.heap.size + 1 + 1 + 1 + 1), ptr (w.heap.size + 1), ptr (w.heap.size + 1 + 1 + 1 + 1 + 1 + 1), ptr (w.heap.size + 1 + 1 + 1 + 1 + 1 + 1 + 1)]] 58)) := below_alloc (below_alloc (below_alloc (below_alloc (below_alloc (below_alloc (below_alloc (below_alloc (Below.refl _ w) _) _) _) _) _) _) _) _
  refine ⟨⟨?_, ?_, ?_, ?_, ?_, ?_, hrow.block (hB.block _ hrow.lt)⟩, ⟨⟨fun _ => 0, ?_, fun i hi => absurd hi (Nat.not_lt_zero _)⟩, ?_⟩, hB⟩
  · exact box_up (box_up (box_up (box_up (box_up (box_up (box_up (atk rfl) _) _) _) _) _) _) _
  · exact box_up (box_up (box_up (box_up (box_up (atk (by simp [tcOf])) _) _) _) _) _
  · exact box_up (box_up (box_up (atk (by simp [tcOf])) _) _) _
  · exact box_up (box_up (box_up (box_up (box_up (box_up (atk (by simp [tcOf])) _) _) _) _) _) _
  · exact box_up (atk (by simp [tcOf])) _
  · exact atk (by simp [tcOf])
  · exact rowV_rep (box_up (box_up (box_up (box_up (atk (cs := rep n (.int .i64 0)) (t := 3) (by simp [tcOf])) _) _) _) _)
  · refine (rowV_rep (box_up (box_up (atk (cs := rep k (.int .u32 0)) (t := 115) (by simp [tcOf])) _) _)).congr (fun j _ => ?_)
    simp [wm, wmTo]
section
variable {σ : Type} {step : List Nat → Nat → σ → Bool × σ} {Inv : Tc → World → σ → Prop} {Ms : Nat → Prop} {Fin : List Nat → σ → Prop} {adj : Nat → Nat → Bool}
set_option maxRecDepth 4000 in
set_option maxHeartbeats 4000000 in
theorem try_call {w : World} {gn n k : Nat} {F : FuncId} {caps : Array Value} {mask : Nat → Nat} {s0 : σ} (hn : n ≤ 24) (hk : k ≤ 24) (hrow : RowV w gn 115 n (fun v => .int .u32 ((mask v : Nat) : Int)))
    (hS : ∀ c, TcOk c w gn n k F caps mask → See c step (Inv c) Ms Fin) (h0 : ∀ c, TcOk c w gn n k F caps mask → ∀ W, Below w.heap.size w W → Inv c W s0) (hadj : ∀ v z, v < n → (mask v).testBit z = adj v z) (hmask : ∀ v, v < n → mask v < 4294967296) :
    Calls Tryz.prog 75 #[sl gn n, .int .i64 (k : Int), .func (.func F) #[] caps] w fun e w' => ∃ c, TcOk c w gn n k F caps mask ∧ ∃ W1, Below w.heap.size w W1 ∧ Found c (Inv c) Ms Fin [] (trC k adj step n [] 0 s0) W1 e w' := by
  have HR : Hid (RowV w gn 115 n (fun v => .int .u32 ((mask v : Nat) : Int))) := hrow
  have HS : Hid (∀ c, TcOk c w gn n k F caps mask → See c step (Inv c) Ms Fin) := hS
  have H0 : Hid (∀ c, TcOk c w gn n k F caps mask → ∀ W, Below w.heap.size w W → Inv c W s0) := h0
  have HADJ : Hid (∀ v z, v < n → (mask v).testBit z = adj v z) := hadj
  have HMASK : Hid (∀ v, v < n → mask v < 4294967296) := hmask
  have hm1 := make29 n (by omega)
  have hm2 := make83 k (by omega)
  have hF57 := enter85
  clear hrow hS h0 hadj hmask
  go_enter Tryz.func75, Tryz.ntmps75
  go_upto_region 5 with (fail)
  obtain ⟨hc, ht, hB⟩ := try_laid (k := k) (F := F) (caps := caps) HR.out
  have hok : TcOk (tcOf w gn n k F caps mask) w gn n k F caps mask := tcOf_ok HR.out.lt
  have h57 := from_call (adj := adj) (c := tcOf w gn n k F caps mask) hn hk (HS.out _ hok) HADJ.out HMASK.out n [] 0 s0 _ (by simp [tcOf]) (Nat.zero_le _) hc ht (H0.out _ hok _ hB)
  have HOK : Hid (TcOk (tcOf w gn n k F caps mask) w gn n k F caps mask) := hok
  have H57 : Hid (Calls Tryz.prog 85 #[.int .i64 0, .int .i64 0, ptr w.heap.size, ptr (w.heap.size + 1 + 1), ptr (w.heap.size + 1 + 1 + 1 + 1), ptr (w.heap.size + 1), ptr (w.heap.size + 1 + 1 + 1 + 1 + 1 + 1), ptr (w.heap.size + 1 + 1 + 1 + 1 + 1 + 1 + 1)] ((((((((w.alloc (Obj.cells #[sl gn n] 83)).alloc (Obj.cells #[.int .i64 (k : Int)] 3)).alloc (Obj.cells #[.func (.func F) #[] caps] 108)).alloc (Obj.cells (rep n (.int .i64 0)) 3)).alloc (Obj.cells #[sl (w.heap.size + 1 + 1 + 1) n] 29)).alloc (Obj.cells (rep k (.int .u32 0)) 115)).alloc (Obj.cells #[sl (w.heap.size + 1 + 1 + 1 + 1 + 1) k] 83)).alloc (Obj.cells #[.func (.func 85) #[] #[ptr w.heap.size, ptr (w.heap.size + 1 + 1), ptr (w.heap.size + 1 + 1 + 1 + 1), ptr (w.heap.size + 1), ptr (w.heap.size + 1 + 1 + 1 + 1 + 1 + 1), ptr (w.heap.size + 1 + 1 + 1 + 1 + 1 + 1 + 1)]] 58)) (Found (tcOf w gn n k F caps mask) (Inv (tcOf w gn n k F caps mask)) Ms Fin [] (trC k adj step n [] 0 s0) ((((((((w.alloc (Obj.cells #[sl gn n] 83)).alloc (Obj.cells #[.int .i64 (k : Int)] 3)).alloc (Obj.cells #[.func (.func F) #[] caps] 108)).alloc (Obj.cells (rep n (.int .i64 0)) 3)).alloc (Obj.cells #[sl (w.heap.size + 1 + 1 + 1) n] 29)).alloc (Obj.cells (rep k (.int .u32 0)) 115)).alloc (Obj.cells #[sl (w.heap.size + 1 + 1 + 1 + 1 + 1) k] 83)).alloc (Obj.cells #[.func (.func 85) #[] #[ptr w.heap.size, ptr (w.heap.size + 1 + 1), ptr (w.heap.size + 1 + 1 + 1 + 1), ptr (w.heap.size + 1), ptr (w.heap.size + 1 + 1 + 1 + 1 + 1 + 1), ptr (w.heap.size + 1 + 1 + 1 + 1 + 1 + 1 + 1)]] 58)))) := h57
  have q9 := box_cell (i := 0) hc.bf rfl
  unfold Tc.me tcOf at q9
  simp only at q9
  have HB : Hid (Below w.heap.size w ((((((((w.alloc (Obj.cells #[sl gn n] 83)).alloc (Obj.cells #[.int .i64 (k : Int)] 3)).alloc (Obj.cells #[.func (.func F) #[] caps] 108)).alloc (Obj.cells (rep n (.int .i64 0)) 3)).alloc (Obj.cells #[sl (w.heap.size + 1 + 1 + 1) n] 29)).alloc (Obj.cells (rep k (.int .u32 0)) 115)).alloc (Obj.cells #[sl (w.heap.size + 1 + 1 + 1 + 1 + 1) k] 83)).alloc (Obj.cells #[.func (.func 85) #[] #[ptr w.heap.size, ptr (w.heap.size + 1 + 1), ptr (w.heap.size + 1 + 1 + 1 + 1), ptr (w.heap.size + 1), ptr (w.heap.size + 1 + 1 + 1 + 1 + 1 + 1), ptr (w.heap.size + 1 + 1 + 1 + 1 + 1 + 1 + 1)]] 58))) := hB
  clear hc ht hB hok h57 hm1 hm2
  generalize ((((((((w.alloc (Obj.cells #[sl gn n] 83)).alloc (Obj.cells #[.int .i64 (k : Int)] 3)).alloc (Obj.cells #[.func (.func F) #[] caps] 108)).alloc (Obj.cells (rep n (.int .i64 0)) 3)).alloc (Obj.cells #[sl (w.heap.size + 1 + 1 + 1) n] 29)).alloc (Obj.cells (rep k (.int .u32 0)) 115)).alloc (Obj.cells #[sl (w.heap.size + 1 + 1 + 1 + 1 + 1) k] 83)).alloc (Obj.cells #[.func (.func 85) #[] #[ptr w.heap.size, ptr (w.heap.size + 1 + 1), ptr (w.heap.size + 1 + 1 + 1 + 1), ptr (w.heap.size + 1), ptr (w.heap.size + 1 + 1 + 1 + 1 + 1 + 1), ptr (w.heap.size + 1 + 1 + 1 + 1 + 1 + 1 + 1)]] 58)) = WW at H57 q9 HB ⊢
  go_wp2_with (first | (go_at_call 85; refine Calls.mono H57.out ?_; rintro e W1 ⟨rfl, h1, h2, h3, h4⟩; have HF : Hid (Inv (tcOf w gn n k F caps mask) W1 (trC k adj step n [] 0 s0).2 ∧ Turns (Mall (tcOf w gn n k F caps mask) Ms) WW W1 ∧ ((trC k adj step n [] 0 s0).1 = false → TR (tcOf w gn n k F caps mask) W1 []) ∧ ((trC k adj step n [] 0 s0).1 = true → ∃ M, Cols (tcOf w gn n k F caps mask) W1 M ∧ Fin M (trC k adj step n [] 0 s0).2)) := ⟨h1, h2, h3, h4⟩; clear h1 h2 h3 h4) | go_in)
  go_ret
  exact ⟨_, HOK.out, _, HB.out, rfl, HF.out⟩
end
end Go.Proofs.YtdnmoifbkojnlaaGreat

namespace Go.Proofs.YtdnmoifbkojnlaaGreat
open Go.RowKit Go.Maps
attribute [local go_sem ↓] Go.wp_at_zero Go.wp_at_succ

theorem box_lt {w : World} {b : Nat} {cs : Array Value} {t : TypeId} (h : Box w b cs t) : b < w.heap.size := (Array.getElem?_eq_some_iff.1 h).1
/-- What found holds. -/
def InvF (b : Nat) (c : Tc) (W : World) : Option (List Nat) → Prop
  | none => Box W b #[.slice none 0 0] 29
  | some _ => Box W b #[sl c.gc c.n] 29
theorem InvF.some_box {b : Nat} {c : Tc} {W : World} {s : Option (List Nat)} (h : InvF b c W s) : ∃ v, Box W b #[v] 29 ∧ ∃ ao n cap, v = .slice ao n cap := by
  cases s with
  | none => exact ⟨_, h, _, _, _, rfl⟩
  | some M => exact ⟨_, h, _, _, _, rfl⟩
end Go.Proofs.YtdnmoifbkojnlaaGreat

namespace Go.Proofs.YtdnmoifbkojnlaaGreat
open Go.RowKit Go.Maps
attribute [local go_sem ↓] Go.wp_at_zero Go.wp_at_succ

def adjE (es : List Pair) (v z : Nat) : Bool := hasB es (v : Int) (z : Int)
/-- What Number answers. -/
def NumIs (N : Nat) (es : List Pair) (w : World) (w' : World) (k : Nat) (v : Value) : Prop :=
  k ≤ N ∧ (∃ g M, v = sl g N ∧ w.heap.size ≤ g ∧ M.length = N ∧ RowV w' g 3 N (fun i => .int .i64 (M.getD i 0 : Int)) ∧ Prop' k (adjE es) M) ∧ ∀ j, j < k → (trC j (adjE es) stepF N [] 0 none).1 = false
end Go.Proofs.YtdnmoifbkojnlaaGreat

namespace Go.Proofs.YtdnmoifbkojnlaaGreat
open Go.RowKit Go.Maps
attribute [local go_sem ↓] Go.wp_at_zero Go.wp_at_succ

/-- Numbers in memory. -/
def NumF (w : World) (vo : Option Addr) (n : Nat) (f : Nat → Int) : Prop := ∀ j, j < n → ∃ b off, vo = some ⟨b, off, none⟩ ∧ w.cell? ⟨b, off + j, none⟩ = some (.int .i64 (f j))
set_option maxRecDepth 4000 in
set_option maxHeartbeats 2000000 in
theorem colouring_true {w : World} {tv : Value} {n k vc : Nat} {vo : Option Addr} {p : Int → Int → Bool} {M : List Nat} (hn : n ≤ 100) (hG : GridAt w tv n p) (hM : NumF w vo n (fun i => (M.getD i 0 : Int))) (hl : M.length = n) (hP : Prop' k (fun v z => p (v : Int) (z : Int)) M) :
    Calls Tryz.prog 13 #[tv, .slice vo n vc, .int .i64 (k : Int)] w fun e w' => e = .returned (.bool true) ∧ Below w.heap.size w w' := by
  have HG : Hid (GridAt w tv n p) := hG
  have HM : Hid (NumF w vo n (fun i => (M.getD i 0 : Int))) := hM
  have HP : Hid (Prop' k (fun v z => p (v : Int) (z : Int)) M) := hP
  have HL : Hid (M.length = n) := hl
  obtain ⟨tao, tcap, e, _⟩ := id hG
  subst e
  have k1 : ((n : Int) != (n : Int)) = false := by simp
  clear hG hM hP hl
  go_enter Tryz.func13, Tryz.ntmps13
  go_wp2
  go_loopw [7, 8] (fun iv' _ wr => ∃ v : Nat, v ≤ n ∧ iv' = .int .i64 (v : Int) ∧ ∃ d, wr = w.drewN d) (fun iv' _ _ => n - (numOf iv').toNat)
  case atStart => exact ⟨0, Nat.zero_le _, rfl, 0, rfl⟩
  case round =>
    obtain ⟨v, hv, rfl, d, hd⟩ := hrel
    have HD : Hid (wr = w.drewN d) := hd
    by_cases hlt : v < n
    · have i1 : (0 : Int) ≤ (v : Int) := by omega
      have i2 : (v : Int) < (n : Int) := by omega
      obtain ⟨b, off, rfl, cx⟩ := HM.out v hlt
      simp only at cx
      have cx1 : wr.cell? ⟨b, off + v, none⟩ = some (.int .i64 (M.getD v 0 : Int)) := by rw [hd]; exact cx
      have hlt2 := HP.out.lt v (by rw [HL.out]; exact hlt)
      obtain ⟨x, hx⟩ : ∃ x, x = M.getD v 0 := ⟨_, rfl⟩
      rw [← hx] at cx1 hlt2
      have HX : Hid (x = M.getD v 0) := hx
      have i3 : ¬ (x : Int) < 0 := by omega
      have i4 : ¬ (x : Int) ≥ (k : Int) := by omega
      clear hd cx hx
      go_wp2
      clear cx1 i3 i4
      generalize hwo : wr = WO at HD ⊢
      clear hwo
      go_loopw [8] (fun iv' wr => ∃ z : Nat, z ≤ v ∧ iv' = .int .i64 (z : Int) ∧ ∃ d, wr = w.drewN d) (fun iv' _ => v - (numOf iv').toNat)
      case atStart => exact ⟨0, Nat.zero_le _, rfl, d, HD.out⟩
      case round =>
        clear HD
        obtain ⟨z, hz, rfl, d2, hd⟩ := hrel
        have HD : Hid (wr = w.drewN d2) := hd
        by_cases hltz : z < v
        · have j1 : (0 : Int) ≤ (z : Int) := by omega
          have j2 : (z : Int) < (v : Int) := by omega
          have j3 : (z : Int) < (n : Int) := by omega
          obtain ⟨b1, off1, e1, cx⟩ := HM.out v hlt
          cases e1
          obtain ⟨b2, off2, e2, cz⟩ := HM.out z (by omega)
          cases e2
          simp only at cx cz
          rw [← HX.out] at cx
          have cx1 : wr.cell? ⟨b, off + v, none⟩ = some (.int .i64 (x : Int)) := by rw [hd]; exact cx
          have cz1 : wr.cell? ⟨b, off + z, none⟩ = some (.int .i64 (M.getD z 0 : Int)) := by rw [hd]; exact cz
          obtain ⟨tao', _, e3, hg⟩ := HG.out
          cases e3
          obtain ⟨gt, bt, rfl, g0, g1⟩ := hg v hlt
          have g0' : wr.cell? ⟨gt, v, none⟩ = some (.slice (some ⟨bt, 0, none⟩) n n) := by rw [hd]; exact g0
          have g1' : wr.cell? ⟨bt, z, none⟩ = some (.bool (p (v : Int) (z : Int))) := by rw [hd]; exact g1 z (by omega)
          have hne := HP.out.ne v z (by rw [HL.out]; exact hlt) hltz
          obtain ⟨y, hy⟩ : ∃ y, y = M.getD z 0 := ⟨_, rfl⟩
          rw [← hy, ← HX.out] at hne
          rw [← hy] at cz1
          generalize p (v : Int) (z : Int) = a at g1' hne
          clear hd cx cz hg g0 g1 hy
          cases a with
          | true =>
            have h5 : x ≠ y := hne rfl
            have k5 : ((x : Int) == (y : Int)) = false := by rw [beq_eq_false_iff_ne]; omega
            clear hne
            go_upto_region 11 with (fail)
            go_quiet (fail)
            go_wp2
            go_roundw
            case rel => exact ⟨z + 1, by omega, by go_num, d2 + nq, by rw [HD.out]; exact World.drewN_drewN _ _ _⟩
            case measure => simp [numOf]; omega
          | false =>
            clear hne
            go_upto_region 11 with (fail)
            go_quiet (fail)
            go_wp2
            go_roundw
            case rel => exact ⟨z + 1, by omega, by go_num, d2 + nq, by rw [HD.out]; exact World.drewN_drewN _ _ _⟩
            case measure => simp [numOf]; omega
        · have j2 : ¬ (z : Int) < (v : Int) := by omega
          clear hd
          go_wp2
          go_roundw
          case rel => exact ⟨v + 1, by omega, by go_num, d2, HD.out⟩
          case measure => simp [numOf]; omega
    · have i2 : ¬ (v : Int) < (n : Int) := by omega
      clear hd
      go_wp2
      go_ret
      exact ⟨rfl, by rw [HD.out]; exact drewN_below _ _⟩
end Go.Proofs.YtdnmoifbkojnlaaGreat
