/- The loads of a bag and of all below it: scale.upTo. -/
import Derived.Test.YtdalconphfgepaaDoorSpX
import Derived.Test.YtdalconphfgepaaDoorBagsF
namespace Go.Proofs.YtdalconphfgepaaDoor
set_option maxRecDepth 8000
open Go.RowKit Go.Maps
attribute [local go_sem ↓] Go.wp_at_zero Go.wp_at_succ
theorem Tryd.info106 : (Tryd.prog.info? 106).map (fun i => (i.zero, i.size, i.bytes)) = some (some (Value.map none), 1, 8) := by kernel_rfl
/-- The loads of a bag, in memory. -/
def LdA (near bags : List Nat) (f : Nat → Int) (m : Nat) (wt : Nat → Int) (at_ above : Nat) (x : Value) (w : World) : Prop := ∃ b n R, x = .map (some b) ∧ MapL w b n R ∧ n ≤ 4096 ∧ UR near bags f m wt at_ above R
theorem LdA.under {near bags : List Nat} {f : Nat → Int} {m : Nat} {wt : Nat → Int} {at_ above : Nat} {x : Value} {w w' : World} (h : LdA near bags f m wt at_ above x w) (hb : Below w.heap.size w w') : LdA near bags f m wt at_ above x w' := by
  obtain ⟨b, n, R, h1, h2, h3⟩ := h
  exact ⟨b, n, R, h1, h2.under hb, h3⟩
theorem LdA.grown {near bags : List Nat} {f : Nat → Int} {m : Nat} {wt : Nat → Int} {at_ above : Nat} {x : Value} {w w' : World} {row : Option Nat} (h : LdA near bags f m wt at_ above x w) (hg : w.grownBy w' row) (hr : ∀ j, row = some j → ∃ cs t z, w.heap[j]? = some (.cells cs t z)) : LdA near bags f m wt at_ above x w' := by
  obtain ⟨b, n, R, h1, h2, h3⟩ := h
  refine ⟨b, n, R, h1, h2.block (hg.block b h2.lt fun e => ?_), h3⟩
  obtain ⟨cs, t, z, h4⟩ := hr b e.symm
  obtain ⟨es, clock, h5⟩ := h2.at_
  rw [h4] at h5
  cases h5
/-- A choice with what goes with it, in memory. -/
def ArA (near bags : List Nat) (f : Nat → Int) (m : Nat) (wt : Nat → Int) (at_ : Nat) (K : List Nat) (x : Value) (w : World) : Prop := ∃ b n F, x = .map (some b) ∧ MapL w b n F ∧ n ≤ 4096 ∧ AR near bags f m wt at_ K F
theorem ArA.under {near bags : List Nat} {f : Nat → Int} {m : Nat} {wt : Nat → Int} {at_ : Nat} {K : List Nat} {x : Value} {w w' : World} (h : ArA near bags f m wt at_ K x w) (hb : Below w.heap.size w w') : ArA near bags f m wt at_ K x w' := by
  obtain ⟨b, n, R, h1, h2, h3⟩ := h
  exact ⟨b, n, R, h1, h2.under hb, h3⟩
/-- The row of the loads of the bags that hang at it. -/
structure Rw (w wz : World) (near bags : List Nat) (f : Nat → Int) (m : Nat) (wt : Nat → Int) (at_ : Nat) (K : List Nat) (i : Nat) (v : Value) (xs : List Value) : Prop where
  own : wz.ownsRow w.heap.size 106 1 v i xs
  len : xs.length = i
  lds : ∀ j k, j < i → K[j]? = some k → ∃ x, xs[j]? = some x ∧ LdA near bags f m wt k (at' bags at_) x wz
  bel : Below w.heap.size w wz
theorem Rw.under {w wz wy : World} {near bags : List Nat} {f : Nat → Int} {m : Nat} {wt : Nat → Int} {at_ : Nat} {K : List Nat} {i : Nat} {v : Value} {xs : List Value} (h : Rw w wz near bags f m wt at_ K i v xs) (hb : Below wz.heap.size wz wy) : Rw w wy near bags f m wt at_ K i v xs :=
  ⟨own_turns h.own ⟨hb.os, hb.tape, hb.output, hb.size, fun j hj _ => hb.block j hj⟩ (row := none) (fun j hj e => by cases e), h.len, fun j k hj hk => by
    obtain ⟨x, h1, h2⟩ := h.lds j k hj hk
    exact ⟨x, h1, h2.under hb⟩, below_next h.bel hb⟩
theorem exec_append {a : Act} {o : Oper} {w w' : World} {s x : Operand} {t : TypeId} {v y r : Value} (ho : o.op = .call { callee := .builtin .append, args := #[s, x], argTypes := #[t, t] }) (hs : a.eval s = v) (hx : a.eval x = y) (hr : (Builtin.append_ #[t, t] o.type #[v, y]).run Tryd.prog w = .ok r w') : (execOp a.eval o).run Tryd.prog w = .ok (.value r) w' := by
  unfold execOp
  simp only [ho, resolve, invoke, builtin, Sem.run_bind, Sem.run_pure, Result.andThen_ok, List.map_toArray, List.map_cons, List.map_nil, hs, hx, hr]
def VA (b3 bn bb : Nat) (wo ko : Option Addr) (N m wc kc : Nat) (x4 v7 : Value) (at_ kid bag : Nat) (C : Value → World → Prop) : Nat → Value → World → Prop
  | 0, x, _ => x = v7
  | 1, x, _ => x = .agg #[sl bn N, .slice wo N wc, sl bb m, .slice ko m kc, x4]
  | 2, x, _ => x = .int .i64 (kid : Int)
  | 3, x, _ => x = .pointer (some ⟨b3, 2, none⟩)
  | 4, x, _ => x = sl bb m
  | 5, x, _ => x = .int .i64 (at_ : Int)
  | 6, x, _ => x = .pointer (some ⟨bb, at_ * 2, none⟩)
  | 7, x, _ => x = sv bag
  | 8, x, w => C x w
  | 9, x, w => ∃ bq y, x = .slice (some ⟨bq, 0, none⟩) 1 1 ∧ w.cell? ⟨bq, 0, none⟩ = some y ∧ C y w
  | _, _, _ => False
theorem VA_mono {b3 bn bb : Nat} {wo ko : Option Addr} {N m wc kc : Nat} {x4 v7 : Value} {at_ kid bag : Nat} {C : Value → World → Prop} (hC : ∀ x w w', C x w → Below w.heap.size w w' → C x w') : ∀ i x w w', VA b3 bn bb wo ko N m wc kc x4 v7 at_ kid bag C i x w → Below w.heap.size w w' → VA b3 bn bb wo ko N m wc kc x4 v7 at_ kid bag C i x w' := fun i x w w' h hb => by
  match i with
  | 0 => exact h
  | 1 => exact h
  | 2 => exact h
  | 3 => exact h
  | 4 => exact h
  | 5 => exact h
  | 6 => exact h
  | 7 => exact h
  | 8 => exact hC _ _ _ h hb
  | 9 =>
    obtain ⟨bq, y, h1, h2, h3⟩ := h
    exact ⟨bq, y, h1, (hb.cell (World.block_lt_of_cell? w _ h2)).trans h2, hC _ _ _ h3 hb⟩
  | n + 10 => exact h
def VB (b3 bn bb : Nat) (wo ko : Option Addr) (N m wc kc : Nat) (x4 : Value) (at_ bag : Nat) (C : Value → World → Prop) : Nat → Value → World → Prop
  | 0, x, _ => x = .agg #[sl bn N, .slice wo N wc, sl bb m, .slice ko m kc, x4]
  | 1, x, _ => x = .pointer (some ⟨b3, 2, none⟩)
  | 2, x, _ => x = sl bb m
  | 3, x, _ => x = .int .i64 (at_ : Int)
  | 4, x, _ => x = .pointer (some ⟨bb, at_ * 2, none⟩)
  | 5, x, _ => x = sv bag
  | 6, x, w => C x w
  | 7, x, w => C x w
  | _, _, _ => False
theorem VB_mono {b3 bn bb : Nat} {wo ko : Option Addr} {N m wc kc : Nat} {x4 : Value} {at_ bag : Nat} {C : Value → World → Prop} (hC : ∀ x w w', C x w → Below w.heap.size w w' → C x w') : ∀ i x w w', VB b3 bn bb wo ko N m wc kc x4 at_ bag C i x w → Below w.heap.size w w' → VB b3 bn bb wo ko N m wc kc x4 at_ bag C i x w' := fun i x w w' h hb => by
  match i with
  | 0 => exact h
  | 1 => exact h
  | 2 => exact h
  | 3 => exact h
  | 4 => exact h
  | 5 => exact h
  | 6 => exact hC _ _ _ h hb
  | 7 => exact hC _ _ _ h hb
  | n + 8 => exact h
def VC (b3 bb m g j kid bag : Nat) (v10 v7 x57 : Value) (C : Value → World → Prop) : Nat → Value → World → Prop
  | 0, x, _ => x = v10
  | 1, x, _ => x = v7
  | 2, x, _ => x = .int .i64 (j : Int)
  | 3, x, _ => x = .pointer (some ⟨g, j, none⟩)
  | 4, x, _ => x = x57
  | 5, x, _ => x = .pointer (some ⟨b3, 2, none⟩)
  | 6, x, _ => x = sl bb m
  | 7, x, _ => x = .int .i64 (kid : Int)
  | 8, x, _ => x = .pointer (some ⟨bb, kid * 2, none⟩)
  | 9, x, _ => x = sv bag
  | 10, x, w => C x w
  | 11, x, w => C x w
  | _, _, _ => False
theorem VC_mono {b3 bb m g j kid bag : Nat} {v10 v7 x57 : Value} {C : Value → World → Prop} (hC : ∀ x w w', C x w → Below w.heap.size w w' → C x w') : ∀ i x w w', VC b3 bb m g j kid bag v10 v7 x57 C i x w → Below w.heap.size w w' → VC b3 bb m g j kid bag v10 v7 x57 C i x w' := fun i x w w' h hb => by
  match i with
  | 0 => exact h
  | 1 => exact h
  | 2 => exact h
  | 3 => exact h
  | 4 => exact h
  | 5 => exact h
  | 6 => exact h
  | 7 => exact h
  | 8 => exact h
  | 9 => exact h
  | 10 => exact hC _ _ _ h hb
  | 11 => exact hC _ _ _ h hb
  | n + 12 => exact h
set_option maxHeartbeats 16000000 in
theorem upTo_call {bn bb : Nat} {wo ko : Option Addr} {N m wc kc D : Nat} {x4 : Value} {near bags : List Nat} {f : Nat → Int} {wt : Nat → Int} {kd : Nat → List Nat} {d : Nat → Nat} (S : Sd N m near bags f wt kd d D) : ∀ (c : Nat) (w : World) (at_ : Nat), Sc w bn bb wo ko N m near bags wt kd → at_ < m → D + 1 ≤ c + d at_ →
    Calls Tryd.prog 61 #[.agg #[sl bn N, .slice wo N wc, sl bb m, .slice ko m kc, x4], .int .i64 (at_ : Int), sv (aboveS bags f at_)] w fun e w' => (∃ x, e = .returned x ∧ LdA near bags f m wt at_ (aboveS bags f at_) x w') ∧ Below w.heap.size w w'
  | 0, w, at_, _, ham, hc => by have := S.dD at_ ham; omega
  | c + 1, w, at_, hSc, ham, hc => by
    have HIH : Hid (∀ kid A, kid ∈ kd at_ → Sc A bn bb wo ko N m near bags wt kd → Calls Tryd.prog 61 #[.agg #[sl bn N, .slice wo N wc, sl bb m, .slice ko m kc, x4], .int .i64 (kid : Int), sv (at' bags at_)] A fun e w' => (∃ x, e = .returned x ∧ LdA near bags f m wt kid (at' bags at_) x w') ∧ Below A.heap.size A w') := fun kid A hk hA => by
      have hk' := (S.kds at_ kid ham).1 hk
      have e : aboveS bags f kid = at' bags at_ := by unfold aboveS; rw [if_neg (by omega), hk'.2]; rfl
      have := upTo_call (x4 := x4) (wc := wc) (kc := kc) S c A kid hA hk'.1 (by have := S.T.dep kid at_ hk'.1 ham hk'.2; omega)
      rw [e] at this
      exact this
    have hbl : at' bags at_ < 2 ^ 128 := at_lt hSc.sb.lt at_
    have hal : aboveS bags f at_ < 2 ^ 128 := by
      unfold aboveS
      split
      · decide
      · exact at_lt hSc.sb.lt _
    have HAB : Hid ((f at_ = -1 ∧ aboveS bags f at_ = 0) ∨ ∃ par : Nat, f at_ = par ∧ par < m ∧ aboveS bags f at_ = at' bags par) := by
      show _ ∨ _
      rcases S.T.up at_ ham with h | ⟨u, h1, h2⟩
      · exact Or.inl ⟨h, by unfold aboveS; rw [if_pos h]⟩
      · exact Or.inr ⟨u, h1, h2, by unfold aboveS; rw [if_neg (by omega), h1]; rfl⟩
    obtain ⟨bag, hbag⟩ : ∃ bag, bag = at' bags at_ := ⟨_, rfl⟩
    have hbg : bags[at_]? = some bag := by
      have hlt : at_ < bags.length := by rw [S.lb]; exact ham
      rw [hbag]; simp [at', hlt]
    have HBG : Hid (bags[at_]? = some bag ∧ bag = at' bags at_ ∧ bag < 2 ^ 128 ∧ (∀ x, bag.testBit x = true → x < N) ∧ countS bag ≤ 12) := ⟨hbg, hbag, by rw [hbag]; exact hbl, fun x hx => S.T.bit at_ x (by rw [← hbag]; exact hx), by rw [hbag]; exact S.cnt at_⟩
    obtain ⟨kb, koff, xo, xc, hko, ck, hK⟩ := hSc.kids at_ ham
    have HSc : Hid (Sc w bn bb wo ko N m near bags wt kd) := hSc
    have HS : Hid (Sd N m near bags f wt kd d D) := S
    have hKl := S.kl at_
    have hm100 := S.hm
    have HKD : Hid (∀ k, k ∈ kd at_ ↔ (k < m ∧ f k = at_)) := fun k => S.kds at_ k ham
    have HND : Hid ((kd at_).Nodup) := S.nod at_
    have HCK : Hid (w.cell? ⟨kb, koff + at_, none⟩ = some (.slice xo (kd at_).length xc) ∧ NumF w xo (kd at_).length (fun j => (((kd at_).getD j 0 : Nat) : Int))) := ⟨ck, hK⟩
    generalize kd at_ = K at *
    generalize aboveS bags f at_ = ab at *
    clear hSc S hbl hbag hbg ck hK hc
    subst hko
    obtain ⟨i106, hi106, hz0, hz1, hz2⟩ := info_parts Tryd.info106
    go_enter Tryd.func61, Tryd.ntmps61
    go_upto_region 2 with (fail)
    have y3 : Box ((w.alloc (Obj.cells #[sl bn N, .slice wo N wc, sl bb m, .slice (some ⟨kb, koff, none⟩) m kc, x4] 80)).alloc (Obj.cells #[.int .u64 (lo64 ab : Int), .int .u64 (hi64 ab : Int)] 76)) w.heap.size #[sl bn N, .slice wo N wc, sl bb m, .slice (some ⟨kb, koff, none⟩) m kc, x4] 80 := (below_alloc (Below.refl _ _) _).block _ (by simp) |>.trans (heap_alloc_new _ _)
    have y5 := two_new (w.alloc (Obj.cells #[sl bn N, .slice wo N wc, sl bb m, .slice (some ⟨kb, koff, none⟩) m kc, x4] 80)) (.int .u64 (lo64 ab : Int)) (.int .u64 (hi64 ab : Int)) 76
    have hB := below_alloc (below_alloc (Below.refl _ w) (Obj.cells #[sl bn N, .slice wo N wc, sl bb m, .slice (some ⟨kb, koff, none⟩) m kc, x4] 80)) (Obj.cells #[.int .u64 (lo64 ab : Int), .int .u64 (hi64 ab : Int)] 76)
    have e3 : (w.alloc (Obj.cells #[sl bn N, .slice wo N wc, sl bb m, .slice (some ⟨kb, koff, none⟩) m kc, x4] 80)).heap.size = w.heap.size + 1 := by simp
    rw [e3] at y5
    generalize (w.alloc (Obj.cells #[sl bn N, .slice wo N wc, sl bb m, .slice (some ⟨kb, koff, none⟩) m kc, x4] 80)).alloc (Obj.cells #[.int .u64 (lo64 ab : Int), .int .u64 (hi64 ab : Int)] 76) = W0 at *
    obtain ⟨b3, hb3⟩ : ∃ b, b = w.heap.size := ⟨_, rfl⟩
    obtain ⟨b5, hb5⟩ : ∃ b, b = w.heap.size + 1 := ⟨_, rfl⟩
    rw [← hb5] at y5 ⊢
    rw [← hb3] at y3 ⊢
    have HW0 : Hid (∀ A, Below W0.heap.size W0 A → Box A b3 #[sl bn N, .slice wo N wc, sl bb m, .slice (some ⟨kb, koff, none⟩) m kc, x4] 80 ∧ SBox A b5 ab ∧ Below w.heap.size w A ∧ Sc A bn bb wo (some ⟨kb, koff, none⟩) N m near bags wt kd) := fun A hA => ⟨box_next y3 hA, two_next y5 hA, below_next hB hA, HSc.out.below (below_next hB hA)⟩
    have HS0 : Hid (w.heap.size ≤ W0.heap.size) := hB.size
    have k3 : W0.cell? ⟨b3, 3, none⟩ = some (.slice (some ⟨kb, koff, none⟩) m kc) := box_cell y3 (i := 3) rfl
    have ck : W0.cell? ⟨kb, koff + at_, none⟩ = some (.slice xo K.length xc) := (hB.cell (World.block_lt_of_cell? w _ HCK.out.1)).trans HCK.out.1
    have j1 : (0 : Int) ≤ (at_ : Int) := by omega
    have j2 : (at_ : Int) < (m : Int) := by omega
    clear y3 y5 hB hb3 hb5 e3
    go_upto_region 3 with (fail)
    have HKN : Hid (∀ A, Below W0.heap.size W0 A → NumF A xo K.length (fun j => ((K.getD j 0 : Nat) : Int))) := fun A hA => HCK.out.2.below (HW0.out A hA).2.2.1
    clear k3
    go_loopw [7, 9, 19] (fun s7 _ s19 wz => ∃ (i : Nat) (xs : List Value) (bo : Option Addr) (bc : Nat), i ≤ K.length ∧ s19 = .int .i64 (i : Int) ∧ s7 = .slice bo i bc ∧ Hid (Rw W0 wz near bags f m wt at_ K i (.slice bo i bc) xs)) (fun _ _ s19 _ => K.length - (numOf s19).toNat)
    case atStart => exact ⟨0, [], none, 0, Nat.zero_le _, rfl, rfl, ⟨World.ownsRow_nil _ _ _ _, rfl, fun j _ hj => by omega, Below.refl _ _⟩⟩
    case round =>
      obtain ⟨i, xs, bo, bc, hi, rfl, rfl, hI⟩ := hrel
      by_cases hlt : i < K.length
      · obtain ⟨kid, hkid⟩ : ∃ k, K[i]? = some k := ⟨_, List.getElem?_eq_getElem hlt⟩
        have hkm := (HKD.out kid).1 (List.mem_of_getElem? hkid)
        obtain ⟨xb, xoff, rfl, cx⟩ := HKN.out _ hI.out.bel i hlt
        have egd : K.getD i 0 = kid := by rw [List.getD_eq_getElem?_getD, hkid]; rfl
        simp only [egd] at cx
        have i1 : (0 : Int) ≤ (i : Int) := by omega
        have i2 : (i : Int) < (K.length : Int) := by omega
        have HKI : Hid (K[i]? = some kid ∧ kid ∈ K) := ⟨hkid, List.mem_of_getElem? hkid⟩
        clear egd hkid hkm
        go_upto_region 5 with (fail)
        have HC3 : Hid (∀ A, Below wr.heap.size wr A → Box A b3 #[sl bn N, .slice wo N wc, sl bb m, .slice (some ⟨kb, koff, none⟩) m kc, x4] 80 ∧ Rw W0 A near bags f m wt at_ K i (.slice bo i bc) xs ∧ Sc A bn bb wo (some ⟨kb, koff, none⟩) N m near bags wt kd) := fun A hA => by
          have h := hI.out.under hA
          exact ⟨(HW0.out A h.bel).1, h, (HW0.out A h.bel).2.2.2⟩
        have hmono := VA_mono (b3 := b3) (bn := bn) (bb := bb) (wo := wo) (ko := some ⟨kb, koff, none⟩) (N := N) (m := m) (wc := wc) (kc := kc) (x4 := x4) (v7 := .slice bo i bc) (at_ := at_) (kid := kid) (bag := bag) (C := LdA near bags f m wt kid (at' bags at_)) (fun x w w' h hb => h.under hb)
        have C61 : Hid (∀ A, Sc A bn bb wo (some ⟨kb, koff, none⟩) N m near bags wt kd → Calls Tryd.prog 61 #[.agg #[sl bn N, .slice wo N wc, sl bb m, .slice (some ⟨kb, koff, none⟩) m kc, x4], .int .i64 (kid : Int), sv bag] A fun e w' => (∃ x, e = .returned x ∧ LdA near bags f m wt kid (at' bags at_) x w') ∧ Below A.heap.size A w') := fun A hA => by
          rw [HBG.out.2.1]
          exact HIH.out kid A HKI.out.2 hA
        clear cx hI
        refine region_ext (J := SP wr 10 (VA b3 bn bb wo (some ⟨kb, koff, none⟩) N m wc kc x4 (.slice bo i bc) at_ kid bag (LdA near bags f m wt kid (at' bags at_))) (fun v A => ∃ bo' bc' xs', v = .slice bo' (i + 1) bc' ∧ Rw W0 A near bags f m wt at_ K (i + 1) v xs')) (by kernel_rfl) (by kernel_rfl) (by kernel_rfl) SP.start ?_ ?_
        · intro i0 o hi L0 xv a w1 hS hL hd hc hX
          match i0, hi with
          | 0, hi =>
            cases hi
            have hw : L0 11 = false := by
              cases e : L0 11 with
              | false => rfl
              | true => have := hc 11 _ rfl e ⟨0, .phase⟩ (by simp) rfl; rw [hL] at this; cases this
            have s7 := hX.old 7 (fun j o' hj hdj => by
              match j, hj with
              | 0, hj => cases hj; cases hdj
              | 1, hj => cases hj; cases hdj
              | 2, hj => cases hj; cases hdj
              | 3, hj => cases hj; cases hdj
              | 4, hj => cases hj; cases hdj
              | 5, hj => cases hj; cases hdj
              | 6, hj => cases hj; cases hdj
              | 7, hj => cases hj; cases hdj
              | 8, hj => cases hj; cases hdj
              | 9, hj => cases hj; cases hdj
              | 10, hj => cases hj; cases hdj
              | 11, hj => exact hw
              | n + 12, hj => cases hj)
            refine wpOp_value rfl rfl (v := .slice bo i bc) (w' := w1) ?_ ⟨_, rfl, hS.put hmono hL (by omega) (Below.refl _ _) rfl⟩
            simp [go_sem, Act.eval, s7]
          | 1, hi =>
            cases hi
            have s3 := hX.out (s := 3) rfl
            obtain ⟨q3, q5⟩ := HC3.out _ (hS.early hL (by omega))
            have c0 : w1.cell? ⟨b3, 0, none⟩ = some (sl bn N) := box_cell q3 (i := 0) rfl
            have c1 : w1.cell? ⟨b3, 1, none⟩ = some (.slice wo N wc) := box_cell q3 (i := 1) rfl
            have c2 : w1.cell? ⟨b3, 2, none⟩ = some (sl bb m) := box_cell q3 (i := 2) rfl
            have c3 : w1.cell? ⟨b3, 3, none⟩ = some (.slice (some ⟨kb, koff, none⟩) m kc) := box_cell q3 (i := 3) rfl
            have c4 : w1.cell? ⟨b3, 4, none⟩ = some x4 := box_cell q3 (i := 4) rfl
            refine wpOp_value rfl rfl (v := .agg #[sl bn N, .slice wo N wc, sl bb m, .slice (some ⟨kb, koff, none⟩) m kc, x4]) (w' := w1) ?_ ⟨_, rfl, hS.put hmono hL (by omega) (Below.refl _ _) rfl⟩
            simp [go_sem, Act.eval, s3, c0, c1, c2, c3, c4]
          | 2, hi =>
            cases hi
            have s9 := hX.out (s := 9) rfl
            refine wpOp_value rfl rfl (v := .int .i64 (kid : Int)) (w' := w1) ?_ ⟨_, rfl, hS.put hmono hL (by omega) (Below.refl _ _) rfl⟩
            simp [go_sem, Act.eval, s9]
          | 3, hi =>
            cases hi
            have s3 := hX.out (s := 3) rfl
            refine wpOp_value rfl rfl (v := .pointer (some ⟨b3, 2, none⟩)) (w' := w1) ?_ ⟨_, rfl, hS.put hmono hL (by omega) (Below.refl _ _) rfl⟩
            simp [go_sem, Act.eval, s3]
          | 4, hi =>
            cases hi
            have l3 := hd ⟨3, .data⟩ (by simp) rfl
            have v3 := hS.tl (j := 3) hL (by omega) (by omega) l3
            have r3 := hX.rd 3 _ 26 rfl rfl l3
            simp only [VA] at v3
            rw [v3] at r3
            obtain ⟨q3, q5⟩ := HC3.out _ (hS.early hL (by omega))
            have c0 : w1.cell? ⟨b3, 0, none⟩ = some (sl bn N) := box_cell q3 (i := 0) rfl
            have c1 : w1.cell? ⟨b3, 1, none⟩ = some (.slice wo N wc) := box_cell q3 (i := 1) rfl
            have c2 : w1.cell? ⟨b3, 2, none⟩ = some (sl bb m) := box_cell q3 (i := 2) rfl
            have c3 : w1.cell? ⟨b3, 3, none⟩ = some (.slice (some ⟨kb, koff, none⟩) m kc) := box_cell q3 (i := 3) rfl
            have c4 : w1.cell? ⟨b3, 4, none⟩ = some x4 := box_cell q3 (i := 4) rfl
            refine wpOp_value rfl rfl (v := sl bb m) (w' := w1) ?_ ⟨_, rfl, hS.put hmono hL (by omega) (Below.refl _ _) rfl⟩
            simp [go_sem, Act.eval, r3, c2]
          | 5, hi =>
            cases hi
            have s1 := hX.out (s := 1) rfl
            refine wpOp_value rfl rfl (v := .int .i64 (at_ : Int)) (w' := w1) ?_ ⟨_, rfl, hS.put hmono hL (by omega) (Below.refl _ _) rfl⟩
            simp [go_sem, Act.eval, s1]
          | 6, hi =>
            cases hi
            have l4 := hd ⟨4, .data⟩ (by simp) rfl
            have v4 := hS.tl (j := 4) hL (by omega) (by omega) l4
            have r4 := hX.rd 4 _ 27 rfl rfl l4
            simp only [VA] at v4
            rw [v4] at r4
            have l5 := hd ⟨5, .data⟩ (by simp) rfl
            have v5 := hS.tl (j := 5) hL (by omega) (by omega) l5
            have r5 := hX.rd 5 _ 28 rfl rfl l5
            simp only [VA] at v5
            rw [v5] at r5
            refine wpOp_value rfl rfl (v := .pointer (some ⟨bb, at_ * 2, none⟩)) (w' := w1) ?_ ⟨_, rfl, hS.put hmono hL (by omega) (Below.refl _ _) rfl⟩
            simp [go_sem, Act.eval, r4, r5, j1, j2]
          | 7, hi =>
            cases hi
            have l6 := hd ⟨6, .data⟩ (by simp) rfl
            have v6 := hS.tl (j := 6) hL (by omega) (by omega) l6
            have r6 := hX.rd 6 _ 29 rfl rfl l6
            simp only [VA] at v6
            rw [v6] at r6
            obtain ⟨c0, c1⟩ := (HC3.out _ (hS.early hL (by omega))).2.2.sb.cell HBG.out.1
            refine wpOp_value rfl rfl (v := sv bag) (w' := w1) ?_ ⟨_, rfl, hS.put hmono hL (by omega) (Below.refl _ _) rfl⟩
            simp [go_sem, Act.eval, r6, c0, c1]
          | 8, hi =>
            cases hi
            have l1 := hd ⟨1, .data⟩ (by simp) rfl
            have v1 := hS.tl (j := 1) hL (by omega) (by omega) l1
            have r1 := hX.rd 1 _ 24 rfl rfl l1
            simp only [VA] at v1
            rw [v1] at r1
            have l2 := hd ⟨2, .data⟩ (by simp) rfl
            have v2 := hS.tl (j := 2) hL (by omega) (by omega) l2
            have r2 := hX.rd 2 _ 25 rfl rfl l2
            simp only [VA] at v2
            rw [v2] at r2
            have l7 := hd ⟨7, .data⟩ (by simp) rfl
            have v7 := hS.tl (j := 7) hL (by omega) (by omega) l7
            have r7 := hX.rd 7 _ 30 rfl rfl l7
            simp only [VA] at v7
            rw [v7] at r7
            refine wpOp_call (f := 61) (args := #[.agg #[sl bn N, .slice wo N wc, sl bb m, .slice (some ⟨kb, koff, none⟩) m kc, x4], .int .i64 (kid : Int), sv bag]) rfl rfl (w' := w1) ?_ ?_
            · simp [go_sem, Act.eval, r1, r2, r7]
            · refine (C61.out w1 (HC3.out _ (hS.early hL (by omega))).2.2).mono ?_
              rintro e w2 ⟨⟨x8, rfl, hx8⟩, hB3⟩
              exact ⟨_, rfl, _, rfl, hS.put hmono hL (by omega) hB3 hx8⟩
          | 9, hi =>
            cases hi
            have l8 := hd ⟨8, .data⟩ (by simp) rfl
            have v8 := hS.tl (j := 8) hL (by omega) (by omega) l8
            have r8 := hX.rd 8 _ 31 rfl rfl l8
            simp only [VA] at v8
            refine wpOp_value rfl rfl (v := .slice (some ⟨w1.heap.size, 0, none⟩) 1 1) (w' := w1.alloc (Obj.cells #[xv 8] 106)) ?_ ⟨_, rfl, hS.put hmono hL (by omega) (below_alloc (Below.refl _ _) _) ⟨w1.heap.size, xv 8, rfl, ?_, v8.under (below_alloc (Below.refl _ _) _)⟩⟩
            · obtain ⟨b8, _, _, e8, _⟩ := v8
              rw [e8] at r8 ⊢
              simp only [Array.getD_eq_getD_getElem?] at r8
              simp [go_sem, Act.eval, r8]
            · exact box_cell (box_new _ _ _) (i := 0) rfl
          | 10, hi =>
            cases hi
            have hall : ∀ j, j < 10 → L0 j = true := fun j hj => by
              have h0 : L0 0 = true := hd ⟨0, .data⟩ (by simp) rfl
              have h9 : L0 9 = true := hd ⟨9, .data⟩ (by simp) rfl
              have h8 : L0 8 = true := hc 9 _ rfl h9 ⟨8, .data⟩ (by simp) rfl
              have h1 : L0 1 = true := hc 8 _ rfl h8 ⟨1, .data⟩ (by simp) rfl
              have h2 : L0 2 = true := hc 8 _ rfl h8 ⟨2, .data⟩ (by simp) rfl
              have h7 : L0 7 = true := hc 8 _ rfl h8 ⟨7, .data⟩ (by simp) rfl
              have h6 : L0 6 = true := hc 7 _ rfl h7 ⟨6, .data⟩ (by simp) rfl
              have h5 : L0 5 = true := hc 6 _ rfl h6 ⟨5, .data⟩ (by simp) rfl
              have h4 : L0 4 = true := hc 6 _ rfl h6 ⟨4, .data⟩ (by simp) rfl
              have h3 : L0 3 = true := hc 4 _ rfl h4 ⟨3, .data⟩ (by simp) rfl
              have : j = 0 ∨ j = 1 ∨ j = 2 ∨ j = 3 ∨ j = 4 ∨ j = 5 ∨ j = 6 ∨ j = 7 ∨ j = 8 ∨ j = 9 := by omega
              rcases this with rfl | rfl | rfl | rfl | rfl | rfl | rfl | rfl | rfl | rfl <;> assumption
            have v0 := hS.told hL 0 (by omega) (hall 0 (by omega))
            have r0 := (hX.rd 0 _ 23 rfl rfl (hall 0 (by omega))).trans v0
            have v9 := hS.told hL 9 (by omega) (hall 9 (by omega))
            obtain ⟨bq, y, e9, cy, hy⟩ := v9
            have r9 := (hX.rd 9 _ 32 rfl rfl (hall 9 (by omega))).trans e9
            have hRw := (HC3.out _ (hS.w0 hL)).2.1
            obtain ⟨v', w', hrun, hown', hg', _⟩ := run_append_own (P := Tryd.prog) w1 W0.heap.size 117 117 106 i106 (.map none) 1 8 Tryd.underlying117 hi106 hz0 hz1 hz2 rfl (by decide) (.slice bo i bc) i xs hRw.own ⟨bq, 0, none⟩ 1 1 [y] rfl (fun j u hj => by
              match j, hj with
              | 0, hj => cases hj; exact cy
              | n + 1, hj => cases hj) (fun u hu => by
              simp at hu
              subst hu
              obtain ⟨_, _, _, rfl, _⟩ := hy
              rfl) (by unfold maxLen; omega) (by omega) hRw.bel.size
            obtain ⟨bo', bc', rfl⟩ := form_row hown'
            refine wpOp_value rfl rfl (v := .slice bo' (i + 1) bc') (w' := w') ?_ ⟨_, rfl, hS.last hL hall ⟨bo', bc', xs ++ [y], rfl, hown', by rw [List.length_append, hRw.len]; rfl, ?_, ?_⟩⟩
            · have q0 : a.eval (.tmp 23) = .slice bo i bc := r0
              have q9 : a.eval (.tmp 32) = .slice (some ⟨bq, 0, none⟩) 1 1 := r9
              exact exec_append rfl q0 q9 hrun
            · have hrow : ∀ j, (Value.slice bo i bc).ownBlock = some j → ∃ cs t z, w1.heap[j]? = some (.cells cs t z) := fun j hj => by
                rcases hRw.own.2 with ⟨e1, e2⟩ | ⟨g, cc, cur, e1, e2, e3, _⟩
                · rw [e1] at hj; cases hj
                · rw [e1] at hj; cases hj; exact ⟨_, _, _, e3⟩
              intro j k hj hk
              by_cases e : j = i
              · subst e
                rw [HKI.out.1] at hk
                cases hk
                refine ⟨y, ?_, hy.grown hg' hrow⟩
                rw [List.getElem?_append_right (by rw [hRw.len]; exact Nat.le_refl _), hRw.len]
                simp
              · obtain ⟨x, h1, h2⟩ := hRw.lds j k (by omega) hk
                refine ⟨x, ?_, h2.grown hg' hrow⟩
                rw [List.getElem?_append_left (by rw [hRw.len]; omega)]
                exact h1
            · refine (Turns.of_grown hg').below hRw.bel hRw.bel.size (fun z hz => ?_)
              exact (hRw.own.lt z hz.symm).1
          | 11, hi =>
            cases hi
            have l10 : L0 10 = true := hd ⟨10, .data⟩ (by simp) rfl
            have r10 := hX.rd 10 _ 33 rfl rfl l10
            refine wpOp_value rfl rfl (v := xv 10) (w' := w1) ?_ ⟨_, rfl, hS.assign l10⟩
            simp [go_sem, Act.eval, r10]
          | n + 12, hi => cases hi
        · intro L0 xv w1 hS hall
          have e11 := hS.asg (hall 11 (by simp))
          obtain ⟨bo', bc', xs', e10, hRw⟩ := hS.fin (hall 10 (by simp))
          rw [e10] at e11
          simp only [puts, Act.put, e11, List.setIfInBounds_toArray, List.set_cons_succ, List.set_cons_zero]
          rw [e10] at hRw
          have HN : Hid _ := hRw
          clear hRw hS hall e11 e10 hmono HC3
          generalize xv 0 = z0
          generalize xv 1 = z1
          generalize xv 2 = z2
          generalize xv 3 = z3
          generalize xv 4 = z4
          generalize xv 5 = z5
          generalize xv 6 = z6
          generalize xv 7 = z7
          generalize xv 8 = z8
          generalize xv 9 = z9
          generalize xv 10 = z10
          go_wp2
          go_roundw
          case rel => exact ⟨i + 1, xs', bo', bc', by omega, by go_num, rfl, HN⟩
          case measure => simp [numOf]; omega
      · obtain rfl : i = K.length := by omega
        have HI : Hid (Rw W0 wr near bags f m wt at_ K K.length (.slice bo K.length bc) xs) := hI
        have HC3 : Hid (∀ A, Below wr.heap.size wr A → Box A b3 #[sl bn N, .slice wo N wc, sl bb m, .slice (some ⟨kb, koff, none⟩) m kc, x4] 80 ∧ Rw W0 A near bags f m wt at_ K K.length (.slice bo K.length bc) xs ∧ Sc A bn bb wo (some ⟨kb, koff, none⟩) N m near bags wt kd ∧ SBox A b5 ab ∧ Below W0.heap.size W0 A) := fun A hA => by
          have h := HI.out.under hA
          exact ⟨(HW0.out A h.bel).1, h, (HW0.out A h.bel).2.2.2, (HW0.out A h.bel).2.1, h.bel⟩
        have hmono := VB_mono (b3 := b3) (bn := bn) (bb := bb) (wo := wo) (ko := some ⟨kb, koff, none⟩) (N := N) (m := m) (wc := wc) (kc := kc) (x4 := x4) (at_ := at_) (bag := bag) (C := ArA near bags f m wt at_ []) (fun x w w' h hb => h.under hb)
        have C74 : Hid (∀ A, Sc A bn bb wo (some ⟨kb, koff, none⟩) N m near bags wt kd → Calls Tryd.prog 74 #[.agg #[sl bn N, .slice wo N wc, sl bb m, .slice (some ⟨kb, koff, none⟩) m kc, x4], sv bag] A fun e w' => (∃ x, e = .returned x ∧ ArA near bags f m wt at_ [] x w') ∧ Below A.heap.size A w') := fun A hA => by
          have hS := HS.out
          refine (choices_call hA.sn hS.ln hS.hN hS.T.sym hS.irr HBG.out.2.2.1 HBG.out.2.2.2.1 HBG.out.2.2.2.2 hA.tab).mono ?_
          rintro e w2 ⟨⟨bm, n, F, rfl, h1, h2, _, h3⟩, hB⟩
          refine ⟨⟨_, rfl, bm, n, F, rfl, h1, ?_, ar_start hS.T (by rw [← HBG.out.2.1]; exact HBG.out.2.2.1) (by rw [← HBG.out.2.1]; exact h3)⟩, hB⟩
          exact Nat.le_trans h2 (Nat.pow_le_pow_right (n := 2) (by decide) HBG.out.2.2.2.2)
        clear hI
        go_upto_region 7 with (fail)
        refine region_ext (J := ST wr (VB b3 bn bb wo (some ⟨kb, koff, none⟩) N m wc kc x4 at_ bag (ArA near bags f m wt at_ []))) (by kernel_rfl) (by kernel_rfl) (by kernel_rfl) ST.start ?_ ?_
        · intro i0 o hi L0 xv a w1 hS hL hd hc hX
          match i0, hi with
          | 0, hi =>
            cases hi
            have s3 := hX.out (s := 3) rfl
            obtain ⟨q3, _⟩ := HC3.out _ (hS.bel)
            have c0 : w1.cell? ⟨b3, 0, none⟩ = some (sl bn N) := box_cell q3 (i := 0) rfl
            have c1 : w1.cell? ⟨b3, 1, none⟩ = some (.slice wo N wc) := box_cell q3 (i := 1) rfl
            have c2 : w1.cell? ⟨b3, 2, none⟩ = some (sl bb m) := box_cell q3 (i := 2) rfl
            have c3 : w1.cell? ⟨b3, 3, none⟩ = some (.slice (some ⟨kb, koff, none⟩) m kc) := box_cell q3 (i := 3) rfl
            have c4 : w1.cell? ⟨b3, 4, none⟩ = some x4 := box_cell q3 (i := 4) rfl
            refine wpOp_value rfl rfl (v := .agg #[sl bn N, .slice wo N wc, sl bb m, .slice (some ⟨kb, koff, none⟩) m kc, x4]) (w' := w1) ?_ ⟨_, rfl, hS.put hmono (Below.refl _ _) rfl⟩
            simp [go_sem, Act.eval, s3, c0, c1, c2, c3, c4]
          | 1, hi =>
            cases hi
            have s3 := hX.out (s := 3) rfl
            refine wpOp_value rfl rfl (v := .pointer (some ⟨b3, 2, none⟩)) (w' := w1) ?_ ⟨_, rfl, hS.put hmono (Below.refl _ _) rfl⟩
            simp [go_sem, Act.eval, s3]
          | 2, hi =>
            cases hi
            have l1 := hd ⟨1, .data⟩ (by simp) rfl
            have v1 := hS.told 1 l1
            have r1 := hX.rd 1 _ 36 rfl rfl l1
            simp only [VB] at v1
            rw [v1] at r1
            obtain ⟨q3, _⟩ := HC3.out _ (hS.bel)
            have c0 : w1.cell? ⟨b3, 0, none⟩ = some (sl bn N) := box_cell q3 (i := 0) rfl
            have c1 : w1.cell? ⟨b3, 1, none⟩ = some (.slice wo N wc) := box_cell q3 (i := 1) rfl
            have c2 : w1.cell? ⟨b3, 2, none⟩ = some (sl bb m) := box_cell q3 (i := 2) rfl
            have c3 : w1.cell? ⟨b3, 3, none⟩ = some (.slice (some ⟨kb, koff, none⟩) m kc) := box_cell q3 (i := 3) rfl
            have c4 : w1.cell? ⟨b3, 4, none⟩ = some x4 := box_cell q3 (i := 4) rfl
            refine wpOp_value rfl rfl (v := sl bb m) (w' := w1) ?_ ⟨_, rfl, hS.put hmono (Below.refl _ _) rfl⟩
            simp [go_sem, Act.eval, r1, c2]
          | 3, hi =>
            cases hi
            have s1 := hX.out (s := 1) rfl
            refine wpOp_value rfl rfl (v := .int .i64 (at_ : Int)) (w' := w1) ?_ ⟨_, rfl, hS.put hmono (Below.refl _ _) rfl⟩
            simp [go_sem, Act.eval, s1]
          | 4, hi =>
            cases hi
            have l2 := hd ⟨2, .data⟩ (by simp) rfl
            have v2 := hS.told 2 l2
            have r2 := hX.rd 2 _ 37 rfl rfl l2
            simp only [VB] at v2
            rw [v2] at r2
            have l3 := hd ⟨3, .data⟩ (by simp) rfl
            have v3 := hS.told 3 l3
            have r3 := hX.rd 3 _ 38 rfl rfl l3
            simp only [VB] at v3
            rw [v3] at r3
            refine wpOp_value rfl rfl (v := .pointer (some ⟨bb, at_ * 2, none⟩)) (w' := w1) ?_ ⟨_, rfl, hS.put hmono (Below.refl _ _) rfl⟩
            simp [go_sem, Act.eval, r2, r3, j1, j2]
          | 5, hi =>
            cases hi
            have l4 := hd ⟨4, .data⟩ (by simp) rfl
            have v4 := hS.told 4 l4
            have r4 := hX.rd 4 _ 39 rfl rfl l4
            simp only [VB] at v4
            rw [v4] at r4
            obtain ⟨c0, c1⟩ := (HC3.out _ (hS.bel)).2.2.1.sb.cell HBG.out.1
            refine wpOp_value rfl rfl (v := sv bag) (w' := w1) ?_ ⟨_, rfl, hS.put hmono (Below.refl _ _) rfl⟩
            simp [go_sem, Act.eval, r4, c0, c1]
          | 6, hi =>
            cases hi
            have l0 := hd ⟨0, .data⟩ (by simp) rfl
            have v0 := hS.told 0 l0
            have r0 := hX.rd 0 _ 35 rfl rfl l0
            simp only [VB] at v0
            rw [v0] at r0
            have l5 := hd ⟨5, .data⟩ (by simp) rfl
            have v5 := hS.told 5 l5
            have r5 := hX.rd 5 _ 40 rfl rfl l5
            simp only [VB] at v5
            rw [v5] at r5
            refine wpOp_call (f := 74) (args := #[.agg #[sl bn N, .slice wo N wc, sl bb m, .slice (some ⟨kb, koff, none⟩) m kc, x4], sv bag]) rfl rfl (w' := w1) ?_ ?_
            · simp [go_sem, Act.eval, r0, r5]
            · refine (C74.out w1 (HC3.out _ hS.bel).2.2.1).mono ?_
              rintro e w2 ⟨⟨x8, rfl, hx8⟩, hB3⟩
              exact ⟨_, rfl, _, rfl, hS.put hmono hB3 hx8⟩
          | 7, hi =>
            cases hi
            have l6 := hd ⟨6, .data⟩ (by simp) rfl
            have v6 := hS.told 6 l6
            have r6 := hX.rd 6 _ 41 rfl rfl l6
            refine wpOp_value rfl rfl (v := xv 6) (w' := w1) ?_ ⟨_, rfl, hS.put hmono (Below.refl _ _) v6⟩
            simp [go_sem, Act.eval, r6]
          | n + 8, hi => cases hi
        · intro L0 xv w1 hS hall
          have e7 := hS.told 7 (hall 7 (by simp))
          have hB7 := hS.bel
          obtain ⟨bh0, n0, F0, e7', hM0, hn0, hAR0⟩ := e7
          simp only [puts, Act.put, e7', List.setIfInBounds_toArray, List.set_cons_succ, List.set_cons_zero]
          have HA0 : Hid (ArA near bags f m wt at_ (K.take 0) (.map (some bh0)) w1 ∧ Below wr.heap.size wr w1) := ⟨⟨bh0, n0, F0, rfl, hM0, hn0, by rw [List.take_zero]; exact hAR0⟩, hB7⟩
          obtain ⟨q3, _⟩ := HC3.out _ hB7
          have c3 : w1.cell? ⟨b3, 3, none⟩ = some (.slice (some ⟨kb, koff, none⟩) m kc) := box_cell q3 (i := 3) rfl
          have ck1 : w1.cell? ⟨kb, koff + at_, none⟩ = some (.slice xo K.length xc) := ((HW0.out _ (HC3.out _ hB7).2.2.2.2).2.2.1.cell (World.block_lt_of_cell? w _ HCK.out.1)).trans HCK.out.1
          clear hS hall e7' hmono hM0 hn0 hAR0 hB7 q3
          generalize xv 0 = z0
          generalize xv 1 = z1
          generalize xv 2 = z2
          generalize xv 3 = z3
          generalize xv 4 = z4
          generalize xv 5 = z5
          generalize xv 6 = z6
          go_upto_region 9 with (fail)
          clear c3 ck1
          go_loopw [10, 11, 12, 48] (fun s10 _ _ s48 wz => ∃ j : Nat, j ≤ K.length ∧ s48 = .int .i64 (j : Int) ∧ Hid (ArA near bags f m wt at_ (K.take j) s10 wz ∧ Below wr.heap.size wr wz)) (fun _ _ _ s48 _ => K.length - (numOf s48).toNat)
          case atStart => exact ⟨0, Nat.zero_le _, rfl, HA0⟩
          case round =>
            obtain ⟨j, hj, rfl, hJ⟩ := hrel
            clear HA0
            obtain ⟨bh, n, F, e10, hM, hn, hAR⟩ := hJ.out.1
            subst e10
            have HC4 : Hid (∀ A, Below wr.heap.size wr A → Box A b3 #[sl bn N, .slice wo N wc, sl bb m, .slice (some ⟨kb, koff, none⟩) m kc, x4] 80 ∧ Rw W0 A near bags f m wt at_ K K.length (.slice bo K.length bc) xs ∧ Sc A bn bb wo (some ⟨kb, koff, none⟩) N m near bags wt kd ∧ SBox A b5 ab ∧ Below W0.heap.size W0 A) := fun A hA => HC3.out A (below_next hJ.out.2 hA)
            have HBJ : Hid _ := hJ.out.2
            have HM : Hid (MapL wr bh n F ∧ n ≤ 4096 ∧ AR near bags f m wt at_ (K.take j) F) := ⟨hM, hn, hAR⟩
            clear hJ hM hn hAR
            by_cases hlt : j < K.length
            · obtain ⟨kid, hkid⟩ : ∃ k, K[j]? = some k := ⟨_, List.getElem?_eq_getElem hlt⟩
              have hkm := (HKD.out kid).1 (List.mem_of_getElem? hkid)
              obtain ⟨_, hRw, hScw, _, hBW⟩ := HC4.out _ (Below.refl _ _)
              obtain ⟨xb, xoff, rfl, cx⟩ := HKN.out _ hBW j hlt
              have egd : K.getD j 0 = kid := by rw [List.getD_eq_getElem?_getD, hkid]; rfl
              simp only [egd] at cx
              obtain ⟨x57, hx57, hL57⟩ := hRw.lds j kid hlt hkid
              obtain ⟨g, cc, e2, ecell⟩ : ∃ g cc, Value.slice bo K.length bc = .slice (some ⟨g, 0, none⟩) K.length cc ∧ wr.cell? ⟨g, j, none⟩ = some x57 := by
                rcases hRw.own.2 with ⟨e1, e2⟩ | ⟨g, cc, cur, e1, _⟩
                · exfalso; injection e1 with _ e3 _; omega
                · have own := hRw.own
                  rw [e1] at own
                  have := own.cells (g := g) rfl j x57 hx57
                  rw [add_none] at this
                  exact ⟨g, cc, e1, by simpa using this⟩
              cases e2
              obtain ⟨bj, nj, Rj, rfl, hMj, hnj, hURj⟩ := hL57
              have HKI : Hid (K[j]? = some kid ∧ kid ∈ K) := ⟨hkid, List.mem_of_getElem? hkid⟩
              obtain ⟨bagk, hbagk⟩ : ∃ bagk, bagk = at' bags kid := ⟨_, rfl⟩
              have hbg : bags[kid]? = some bagk := by
                have hlt : kid < bags.length := by rw [HS.out.lb]; exact hkm.1
                rw [hbagk]; simp [at', hlt]
              have HBK : Hid (bags[kid]? = some bagk ∧ bagk = at' bags kid ∧ bagk < 2 ^ 128) := ⟨hbg, hbagk, by rw [hbagk]; exact at_lt hScw.sb.lt _⟩
              have HTK : Hid (K.take (j + 1) = K.take j ++ [kid]) := by
                show _ = _
                rw [List.take_succ_eq_append_getElem hlt]
                rw [List.getElem?_eq_getElem hlt] at hkid
                rw [Option.some.inj hkid]
              have C75 : Hid (∀ A, Below wr.heap.size wr A → Calls Tryd.prog 75 #[.map (some bh), .map (some bj), sv bagk] A fun e w' => (∃ x, e = .returned x ∧ ArA near bags f m wt at_ (K.take (j + 1)) x w') ∧ Below A.heap.size A w') := fun A hA => by
                have hS := HS.out
                refine (and_call (HM.out.1.under hA) (hMj.under hA) HBK.out.2.2 (by have := HM.out.2.1; omega) (HM.out.2.2.ok hS.wb) (hURj.ok hS.wb)).mono ?_
                rintro e w2 ⟨⟨bm, G, rfl, h1, _, hG⟩, hB⟩
                have eG : G = andF F Rj bagk := funext hG
                subst eG
                refine ⟨⟨_, rfl, bm, n, _, rfl, h1, HM.out.2.1, ?_⟩, hB⟩
                rw [HTK.out, HBK.out.2.1]
                refine ar_step hS.T ham (by rw [← HBG.out.2.1]; exact HBG.out.2.2.1) HM.out.2.2 hkm.1 hkm.2 (fun k hk => ⟨(HKD.out k).1 (List.mem_of_mem_take hk), fun e => ?_⟩) hURj
                subst e
                obtain ⟨p, hp, hpe⟩ := List.mem_take_iff_getElem.1 hk
                have h2 : K[p]'(by omega) = K[j]'hlt := by
                  rw [hpe]
                  have := HKI.out.1
                  rw [List.getElem?_eq_getElem hlt] at this
                  exact (Option.some.inj this).symm
                exact List.pairwise_iff_getElem.1 HND.out p j (by omega) hlt (by omega) h2
              have i1 : (0 : Int) ≤ (j : Int) := by omega
              have i2 : (j : Int) < (K.length : Int) := by omega
              have hkN : kid < m := hkm.1
              have l1 : (0 : Int) ≤ (kid : Int) := by omega
              have l2 : (kid : Int) < (m : Int) := by omega
              have HEC : Hid (∀ A, Below wr.heap.size wr A → A.cell? ⟨g, j, none⟩ = some (.map (some bj))) := fun A hA => (hA.cell (World.block_lt_of_cell? wr _ ecell)).trans ecell
              have hmono := VC_mono (b3 := b3) (bb := bb) (m := m) (g := g) (j := j) (kid := kid) (bag := bagk) (v10 := .map (some bh)) (v7 := .slice (some ⟨g, 0, none⟩) K.length bc) (x57 := .map (some bj)) (C := ArA near bags f m wt at_ (K.take (j + 1))) (fun x w w' h hb => h.under hb)
              clear egd hkid hkm hRw hScw hBW hx57 hMj hnj hURj ecell hbagk hbg
              go_upto_region 11 with (fail)
              clear cx
              refine region_ext (J := ST wr (VC b3 bb m g j kid bagk (.map (some bh)) (.slice (some ⟨g, 0, none⟩) K.length bc) (.map (some bj)) (ArA near bags f m wt at_ (K.take (j + 1))))) (by kernel_rfl) (by kernel_rfl) (by kernel_rfl) ST.start ?_ ?_
              · intro i0 o hi L0 yv a w1 hS hL hd hc hX
                match i0, hi with
                | 0, hi =>
                  cases hi
                  have hw : L0 11 = false := by
                    cases e : L0 11 with
                    | false => rfl
                    | true => have := hc 11 _ rfl e ⟨0, .phase⟩ (by simp) rfl; rw [hL] at this; cases this
                  have s10 := hX.old 10 (fun j o' hj hdj => by
                    match j, hj with
                    | 0, hj => cases hj; cases hdj
                    | 1, hj => cases hj; cases hdj
                    | 2, hj => cases hj; cases hdj
                    | 3, hj => cases hj; cases hdj
                    | 4, hj => cases hj; cases hdj
                    | 5, hj => cases hj; cases hdj
                    | 6, hj => cases hj; cases hdj
                    | 7, hj => cases hj; cases hdj
                    | 8, hj => cases hj; cases hdj
                    | 9, hj => cases hj; cases hdj
                    | 10, hj => cases hj; cases hdj
                    | 11, hj => exact hw
                    | n + 12, hj => cases hj)
                  refine wpOp_value rfl rfl (v := .map (some bh)) (w' := w1) ?_ ⟨_, rfl, hS.put hmono (Below.refl _ _) rfl⟩
                  simp [go_sem, Act.eval, s10]
                | 1, hi =>
                  cases hi
                  have s7 := hX.out (s := 7) rfl
                  refine wpOp_value rfl rfl (v := .slice (some ⟨g, 0, none⟩) K.length bc) (w' := w1) ?_ ⟨_, rfl, hS.put hmono (Below.refl _ _) rfl⟩
                  simp [go_sem, Act.eval, s7]
                | 2, hi =>
                  cases hi
                  have s11 := hX.out (s := 11) rfl
                  refine wpOp_value rfl rfl (v := .int .i64 (j : Int)) (w' := w1) ?_ ⟨_, rfl, hS.put hmono (Below.refl _ _) rfl⟩
                  simp [go_sem, Act.eval, s11]
                | 3, hi =>
                  cases hi
                  have l1 := hd ⟨1, .data⟩ (by simp) rfl
                  have v1 := hS.told 1 l1
                  have r1 := hX.rd 1 _ 54 rfl rfl l1
                  simp only [VC] at v1
                  rw [v1] at r1
                  have l2 := hd ⟨2, .data⟩ (by simp) rfl
                  have v2 := hS.told 2 l2
                  have r2 := hX.rd 2 _ 55 rfl rfl l2
                  simp only [VC] at v2
                  rw [v2] at r2
                  refine wpOp_value rfl rfl (v := .pointer (some ⟨g, j, none⟩)) (w' := w1) ?_ ⟨_, rfl, hS.put hmono (Below.refl _ _) rfl⟩
                  simp [go_sem, Act.eval, r1, r2, i1, i2]
                | 4, hi =>
                  cases hi
                  have l3 := hd ⟨3, .data⟩ (by simp) rfl
                  have v3 := hS.told 3 l3
                  have r3 := hX.rd 3 _ 56 rfl rfl l3
                  simp only [VC] at v3
                  rw [v3] at r3
                  have c0 := HEC.out _ hS.bel
                  refine wpOp_value rfl rfl (v := .map (some bj)) (w' := w1) ?_ ⟨_, rfl, hS.put hmono (Below.refl _ _) rfl⟩
                  simp [go_sem, Act.eval, r3, c0]
                | 5, hi =>
                  cases hi
                  have s3 := hX.out (s := 3) rfl
                  refine wpOp_value rfl rfl (v := .pointer (some ⟨b3, 2, none⟩)) (w' := w1) ?_ ⟨_, rfl, hS.put hmono (Below.refl _ _) rfl⟩
                  simp [go_sem, Act.eval, s3]
                | 6, hi =>
                  cases hi
                  have l5 := hd ⟨5, .data⟩ (by simp) rfl
                  have v5 := hS.told 5 l5
                  have r5 := hX.rd 5 _ 58 rfl rfl l5
                  simp only [VC] at v5
                  rw [v5] at r5
                  obtain ⟨q3, _⟩ := HC4.out _ (hS.bel)
                  have c0 : w1.cell? ⟨b3, 0, none⟩ = some (sl bn N) := box_cell q3 (i := 0) rfl
                  have c1 : w1.cell? ⟨b3, 1, none⟩ = some (.slice wo N wc) := box_cell q3 (i := 1) rfl
                  have c2 : w1.cell? ⟨b3, 2, none⟩ = some (sl bb m) := box_cell q3 (i := 2) rfl
                  have c3 : w1.cell? ⟨b3, 3, none⟩ = some (.slice (some ⟨kb, koff, none⟩) m kc) := box_cell q3 (i := 3) rfl
                  have c4 : w1.cell? ⟨b3, 4, none⟩ = some x4 := box_cell q3 (i := 4) rfl
                  refine wpOp_value rfl rfl (v := sl bb m) (w' := w1) ?_ ⟨_, rfl, hS.put hmono (Below.refl _ _) rfl⟩
                  simp [go_sem, Act.eval, r5, c2]
                | 7, hi =>
                  cases hi
                  have s12 := hX.out (s := 12) rfl
                  refine wpOp_value rfl rfl (v := .int .i64 (kid : Int)) (w' := w1) ?_ ⟨_, rfl, hS.put hmono (Below.refl _ _) rfl⟩
                  simp [go_sem, Act.eval, s12]
                | 8, hi =>
                  cases hi
                  have l6 := hd ⟨6, .data⟩ (by simp) rfl
                  have v6 := hS.told 6 l6
                  have r6 := hX.rd 6 _ 59 rfl rfl l6
                  simp only [VC] at v6
                  rw [v6] at r6
                  have l7 := hd ⟨7, .data⟩ (by simp) rfl
                  have v7 := hS.told 7 l7
                  have r7 := hX.rd 7 _ 60 rfl rfl l7
                  simp only [VC] at v7
                  rw [v7] at r7
                  refine wpOp_value rfl rfl (v := .pointer (some ⟨bb, kid * 2, none⟩)) (w' := w1) ?_ ⟨_, rfl, hS.put hmono (Below.refl _ _) rfl⟩
                  simp [go_sem, Act.eval, r6, r7, l1, l2]
                | 9, hi =>
                  cases hi
                  have l8 := hd ⟨8, .data⟩ (by simp) rfl
                  have v8 := hS.told 8 l8
                  have r8 := hX.rd 8 _ 61 rfl rfl l8
                  simp only [VC] at v8
                  rw [v8] at r8
                  obtain ⟨c0, c1⟩ := (HC4.out _ hS.bel).2.2.1.sb.cell HBK.out.1
                  refine wpOp_value rfl rfl (v := sv bagk) (w' := w1) ?_ ⟨_, rfl, hS.put hmono (Below.refl _ _) rfl⟩
                  simp [go_sem, Act.eval, r8, c0, c1]
                | 10, hi =>
                  cases hi
                  have l0 := hd ⟨0, .data⟩ (by simp) rfl
                  have v0 := hS.told 0 l0
                  have r0 := hX.rd 0 _ 53 rfl rfl l0
                  simp only [VC] at v0
                  rw [v0] at r0
                  have l4 := hd ⟨4, .data⟩ (by simp) rfl
                  have v4 := hS.told 4 l4
                  have r4 := hX.rd 4 _ 57 rfl rfl l4
                  simp only [VC] at v4
                  rw [v4] at r4
                  have l9 := hd ⟨9, .data⟩ (by simp) rfl
                  have v9 := hS.told 9 l9
                  have r9 := hX.rd 9 _ 62 rfl rfl l9
                  simp only [VC] at v9
                  rw [v9] at r9
                  refine wpOp_call (f := 75) (args := #[.map (some bh), .map (some bj), sv bagk]) rfl rfl (w' := w1) ?_ ?_
                  · simp [go_sem, Act.eval, r0, r4, r9]
                  · refine (C75.out w1 hS.bel).mono ?_
                    rintro e w2 ⟨⟨x8, rfl, hx8⟩, hB3⟩
                    exact ⟨_, rfl, _, rfl, hS.put hmono hB3 hx8⟩
                | 11, hi =>
                  cases hi
                  have l10 := hd ⟨10, .data⟩ (by simp) rfl
                  have v10 := hS.told 10 l10
                  have r10 := hX.rd 10 _ 63 rfl rfl l10
                  refine wpOp_value rfl rfl (v := yv 10) (w' := w1) ?_ ⟨_, rfl, hS.put hmono (Below.refl _ _) v10⟩
                  simp [go_sem, Act.eval, r10]
                | n + 12, hi => cases hi
              · intro L0 yv w1 hS hall
                have e11 := hS.told 11 (hall 11 (by simp))
                have HN : Hid (ArA near bags f m wt at_ (K.take (j + 1)) (yv 11) w1 ∧ Below wr.heap.size wr w1) := ⟨e11, hS.bel⟩
                simp only [puts, Act.put, List.setIfInBounds_toArray, List.set_cons_succ, List.set_cons_zero]
                clear hS hall e11 hmono
                generalize yv 0 = y0
                generalize yv 1 = y1
                generalize yv 2 = y2
                generalize yv 3 = y3
                generalize yv 4 = y4
                generalize yv 5 = y5
                generalize yv 6 = y6
                generalize yv 7 = y7
                generalize yv 8 = y8
                generalize yv 9 = y9
                generalize yv 10 = y10
                generalize yv 11 = y11 at *
                go_wp2
                go_roundw
                case rel => exact ⟨j + 1, by omega, by go_num, ⟨HN.out.1, below_next HBJ.out HN.out.2⟩⟩
                case measure => simp [numOf]; omega
            · obtain rfl : j = K.length := by omega
              obtain ⟨q3, _, hScw, q5, hBW⟩ := HC4.out _ (Below.refl _ _)
              have hBw := (HW0.out _ hBW).2.2.1
              have c0 : wr.cell? ⟨b3, 0, none⟩ = some (sl bn N) := box_cell q3 (i := 0) rfl
              have c1 : wr.cell? ⟨b3, 1, none⟩ = some (.slice wo N wc) := box_cell q3 (i := 1) rfl
              have c2 : wr.cell? ⟨b3, 2, none⟩ = some (sl bb m) := box_cell q3 (i := 2) rfl
              have c3 : wr.cell? ⟨b3, 3, none⟩ = some (.slice (some ⟨kb, koff, none⟩) m kc) := box_cell q3 (i := 3) rfl
              have c4 : wr.cell? ⟨b3, 4, none⟩ = some x4 := box_cell q3 (i := 4) rfl
              obtain ⟨d0, d1⟩ := cell_two q5
              have C76 : Hid (Calls Tryd.prog 76 #[.agg #[sl bn N, .slice wo N wc, sl bb m, .slice (some ⟨kb, koff, none⟩) m kc, x4], .map (some bh), sv ab] wr fun e w' => (∃ x, e = .returned x ∧ LdA near bags f m wt at_ ab x w') ∧ Below wr.heap.size wr w') := by
                have hS := HS.out
                have hAR := HM.out.2.2
                rw [List.take_length] at hAR
                refine (settle_call hScw.wts hS.wb HM.out.1 (by have := HM.out.2.1; omega) (hAR.ok hS.wb) (fun s hs x hx => ?_) hal hScw.tab).mono ?_
                · obtain ⟨p, hp⟩ : ∃ p, F s = some p := by
                    cases e : F s with
                    | none => exact absurd e hs
                    | some p => exact ⟨p, rfl⟩
                  have := (hAR.is s p hp).1.2.1 x hx
                  rw [← HBG.out.2.1] at this
                  exact HBG.out.2.2.2.1 x ((mem_elems HBG.out.2.2.1).1 this)
                · rintro e w2 ⟨⟨bm, R, rfl, h1, _, hR⟩, hB⟩
                  exact ⟨⟨_, rfl, bm, n, R, rfl, h1, HM.out.2.1, ur_of hS.T ham (by rw [← HBG.out.2.1]; exact HBG.out.2.2.1) hAR HKD.out HAB.out hR⟩, hB⟩
              have HBw : Hid _ := hBw
              clear q3 q5 hScw hBW hBw
              go_wp2_with (first | (go_at_call 76; refine Calls.mono C76.out ?_; rintro e w2 ⟨⟨x, rfl, hx⟩, hB2⟩) | go_in)
              go_ret
              exact ⟨⟨x, rfl, hx⟩, below_next HBw.out hB2⟩
end Go.Proofs.YtdalconphfgepaaDoor
