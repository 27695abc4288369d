/- The document's Colourings: how many colourings there are with colours below k. -/
import Derived.Test.YtdnmoifbkojnlaaAt
namespace Go.Proofs.Ytdnmoifbkojnlaa
open Go.RowKit Go.Maps
attribute [local go_sem ↓] Go.wp_at_zero Go.wp_at_succ

/-- How many, as far as the first m colours go. -/
def Cw (k : Nat) (adj : Nat → Nat → Bool) (r : Nat) (L : List Nat) (m : Nat) : Int := sm (fun c => if okC adj L c then Cc k adj r (L ++ [c]) else 0) m
set_option maxRecDepth 4000 in
set_option maxHeartbeats 4000000 in
theorem colourings_call {tv : Value} {n k : Nat} {p : Int → Int → Bool} (hn : n ≤ 100) (hk : k ≤ 100) :
    ∀ (r : Nat) (W : World) (L : List Nat) (vo : Option Addr) (vc : Nat), r + L.length = n → GridAt W tv n p → NumF W vo L.length (fun i => (L.getD i 0 : Int)) →
      Calls Try.prog 31 #[tv, .int .i64 (k : Int), .slice vo L.length vc] W fun e w' => e = .returned (.int .i64 (Wr (Cc k (fun v z => p (v : Int) (z : Int)) r L))) ∧ Below W.heap.size W w' := by
  intro r
  induction r with
  | zero =>
    intro W L vo vc hr hG hN
    have hln : L.length = n := by omega
    obtain ⟨tao, tcap, e, _⟩ := id hG
    subst e
    have k1 : ((L.length : Int) == (n : Int)) = true := by simp [hln]
    clear hr hG hN hln
    go_enter Try.func31, Try.ntmps31
    go_wp2
    go_ret
    exact ⟨rfl, Below.refl _ _⟩
  | succ r ih =>
    intro W L vo vc hr hG hN
    have IH : Hid (∀ (W : World) (L : List Nat) (vo : Option Addr) (vc : Nat), r + L.length = n → GridAt W tv n p → NumF W vo L.length (fun i => (L.getD i 0 : Int)) →
      Calls Try.prog 31 #[tv, .int .i64 (k : Int), .slice vo L.length vc] W fun e w' => e = .returned (.int .i64 (Wr (Cc k (fun v z => p (v : Int) (z : Int)) r L))) ∧ Below W.heap.size W w') := ih
    have HG : Hid (GridAt W tv n p) := hG
    have HN : Hid (NumF W vo L.length (fun i => (L.getD i 0 : Int))) := hN
    obtain ⟨tao, tcap, e, _⟩ := id hG
    subst e
    have hln : L.length < n := by omega
    have k1 : ((L.length : Int) == (n : Int)) = false := by rw [beq_eq_false_iff_ne]; omega
    obtain ⟨adj, hadj⟩ : ∃ adj : Nat → Nat → Bool, adj = fun (v z : Nat) => p (v : Int) (z : Int) := ⟨_, rfl⟩
    rw [← hadj] at IH ⊢
    have HADJ : Hid (∀ v z : Nat, adj v z = p (v : Int) (z : Int)) := fun v z => by rw [hadj]
    obtain ⟨res, hres⟩ : ∃ res, res = Wr (Cc k adj (r + 1) L) := ⟨_, rfl⟩
    rw [← hres]
    have HRES : Hid (res = Wr (Cw k adj r L k)) := hres
    clear ih hG hN hres hadj
    go_enter Try.func31, Try.ntmps31
    go_wp2
    go_loopw [8, 9, 10, 11] (fun nv iv' _ _ wr => ∃ d : Nat, d ≤ k ∧ nv = .int .i64 (Wr (Cw k adj r L d)) ∧ iv' = .int .i64 (d : Int) ∧ Below W.heap.size W wr) (fun _ iv' _ _ _ => k - (numOf iv').toNat)
    case atStart => exact ⟨0, Nat.zero_le _, rfl, rfl, Below.refl _ _⟩
    case round =>
      obtain ⟨d, hd, rfl, rfl, hb⟩ := hrel
      by_cases hdl : d < k
      · have i2 : (d : Int) < (k : Int) := by omega
        obtain ⟨cw, hcw⟩ : ∃ cw, cw = Wr (Cw k adj r L d) := ⟨_, rfl⟩
        have hnx : Wr (Cw k adj r L (d + 1)) = Wr (cw + Wr (if okC adj L d then Cc k adj r (L ++ [d]) else 0)) := by
          rw [hcw]
          exact (((wr_cg _).add (wr_cg _)).wr).symm
        rw [← hcw]
        have HNX : Hid (Wr (Cw k adj r L (d + 1)) = Wr (cw + Wr (if okC adj L d then Cc k adj r (L ++ [d]) else 0))) := hnx
        have HCW : Hid (cw = Wr (Cw k adj r L d)) := hcw
        have HGW : Hid (GridAt wr (.slice tao n tcap) n p) := HG.out.below hb
        have HNW : Hid (NumF wr vo L.length (fun i => (L.getD i 0 : Int))) := HN.out.below hb
        clear hnx hcw
        go_wp2
        generalize hwo : wr = WO at HGW HNW hb ⊢
        clear hwo
        go_loopw [10, 11] (fun ov iv' wr => ∃ z : Nat, z ≤ L.length ∧ iv' = .int .i64 (z : Int) ∧ ov = .bool (okTo adj L d z) ∧ wr = WO) (fun _ iv' _ => L.length - (numOf iv').toNat)
        case atStart => exact ⟨0, Nat.zero_le _, rfl, rfl, rfl⟩
        case round =>
          obtain ⟨z, hz, rfl, rfl, hwr⟩ := hrel
          have hwr' := hwr.symm
          clear hwr
          subst hwr'
          by_cases hltz : z < L.length
          · have j1 : (0 : Int) ≤ (z : Int) := by omega
            have j2 : (z : Int) < (L.length : Int) := by omega
            have j3 : (z : Int) < (n : Int) := by omega
            have j4 : (0 : Int) ≤ (L.length : Int) := by omega
            have j5 : (L.length : Int) < (n : Int) := by omega
            obtain ⟨b, off, rfl, cx⟩ := HNW.out z hltz
            simp only at cx
            obtain ⟨tao', _, e3, hg⟩ := HGW.out
            cases e3
            obtain ⟨gt, bt, rfl, g0, g1⟩ := hg L.length hln
            have g1' := g1 z (by omega)
            rw [← HADJ.out] at g1'
            have hsu := okTo_succ adj L d z
            obtain ⟨y, hy⟩ : ∃ y, y = L.getD z 0 := ⟨_, rfl⟩
            rw [← hy] at cx hsu
            generalize adj L.length z = a at g1' hsu
            obtain ⟨o1, ho1⟩ : ∃ o1, o1 = okTo adj L d (z + 1) := ⟨_, rfl⟩
            rw [← ho1] at hsu
            have HO1 : Hid (o1 = okTo adj L d (z + 1)) := ho1
            generalize okTo adj L d z = o at hsu ⊢
            clear hg g1 hy ho1
            cases o with
            | false =>
              have HS : Hid (o1 = false) := (show o1 = false by simpa using hsu)
              clear hsu
              go_wp2
              go_roundw
              case rel => exact ⟨z + 1, by omega, by go_num, by rw [← HO1.out, HS.out], trivial⟩
              case measure => simp [numOf]; omega
            | true =>
              cases a with
              | false =>
                have HS : Hid (o1 = true) := (show o1 = true by simpa using hsu)
                clear hsu
                go_wp2
                go_roundw
                case rel => exact ⟨z + 1, by omega, by go_num, by rw [← HO1.out, HS.out], trivial⟩
                case measure => simp [numOf]; omega
              | true =>
                by_cases hyd : y = d
                · have HS : Hid (o1 = false) := (show o1 = false by simpa [hyd] using hsu)
                  have k5 : ((y : Int) == (d : Int)) = true := by simp [hyd]
                  clear hsu hyd
                  go_wp2
                  go_roundw
                  case rel => exact ⟨z + 1, by omega, by go_num, by rw [← HO1.out, HS.out], trivial⟩
                  case measure => simp [numOf]; omega
                · have HS : Hid (o1 = true) := (show o1 = true by rw [hsu]; have h9 : (y == d) = false := (by simp [hyd]); rw [h9]; rfl)
                  have k5 : ((y : Int) == (d : Int)) = false := by rw [beq_eq_false_iff_ne]; omega
                  clear hsu hyd
                  go_wp2
                  go_roundw
                  case rel => exact ⟨z + 1, by omega, by go_num, by rw [← HO1.out, HS.out], trivial⟩
                  case measure => simp [numOf]; omega
          · have j2 : ¬ (z : Int) < (L.length : Int) := by omega
            have hzl : z = L.length := by omega
            have hok : okTo adj L d z = okC adj L d := by rw [hzl]; rfl
            rw [hok]
            obtain ⟨o, ho⟩ : ∃ o, o = okC adj L d := ⟨_, rfl⟩
            rw [← ho] at HNX ⊢
            clear hok ho hzl
            cases o with
            | false =>
              have HLP2 : Hid (Wr (Cw k adj r L (d + 1)) = cw) := by
                show Wr (Cw k adj r L (d + 1)) = cw
                rw [HNX.out, HCW.out]
                simp only [Bool.false_eq_true, if_false]
                exact (((wr_cg (Cw k adj r L d)).add (wr_cg 0)).trans (cg_of_eq (Int.add_zero _))).wr
              clear HNX
              go_wp2
              go_roundw
              case rel => exact ⟨d + 1, by omega, by rw [HLP2.out], by go_num, hb⟩
              case measure => simp [numOf]; omega
            | true =>
              have hlL : L.length ≤ 1000 := by omega
              obtain ⟨rs, hrs⟩ : ∃ rs, rs = Wr (Cc k adj r (L ++ [d])) := ⟨_, rfl⟩
              have HNX2 : Hid (Wr (Cw k adj r L (d + 1)) = Wr (cw + rs)) := by
                show Wr (Cw k adj r L (d + 1)) = Wr (cw + rs)
                rw [HNX.out, hrs]; simp
              have HRS : Hid (rs = Wr (Cc k adj r (L ++ [d]))) := hrs
              have HPUSH : Hid (∀ (W1 W3 : World) (po : Option Addr) (pc g c : Nat), Below WO.heap.size WO W1 → W1.ownsRow WO.heap.size 3 1 (.slice po L.length pc) L.length (qv L) → W3.ownsRow WO.heap.size 3 1 (.slice (some ⟨g, 0, none⟩) (L ++ [d]).length c) (L ++ [d]).length (qv (L ++ [d])) → (W1.alloc (Obj.cells #[.int .i64 (d : Int)] 3)).grownBy W3 (Value.slice po L.length pc).ownBlock → Below WO.heap.size WO W3 ∧ Calls Try.prog 31 #[.slice tao n tcap, .int .i64 (k : Int), .slice (some ⟨g, 0, none⟩) (L ++ [d]).length c] W3 fun e w' => e = .returned (.int .i64 rs) ∧ Below W3.heap.size W3 w') := fun W1 W3 po pc g c h1 h2 h3 h4 => by
                have hb3 : Below WO.heap.size WO W3 := (below_alloc h1 _).grown h4 (below_alloc h1 _).size (fun b hb' => (h2.lt b hb').1)
                refine ⟨hb3, ?_⟩
                rw [HRS.out]
                exact IH.out W3 (L ++ [d]) _ _ (by simp; omega) (HGW.out.below hb3) (num_own h3)
              clear hrs HNX
              go_wp2_with (first
                | (at_builtin; have hh := HOWN1; clear hh; refine wpList_pushG (l := L) (x := d) rfl _ _ rfl rfl rfl HOWN1.out (by omega) hsz1 ?_; intro g c W3 hown3 hgr3; obtain ⟨hb3, h24⟩ := HPUSH.out W1 W3 po pc g c hb1 HOWN1.out hown3 hgr3; have H24 : Hid (Calls Try.prog 31 #[.slice tao n tcap, .int .i64 (k : Int), .slice (some ⟨g, 0, none⟩) (L ++ [d]).length c] W3 fun e w' => e = .returned (.int .i64 rs) ∧ Below W3.heap.size W3 w') := h24; have hlk : (L ++ [d]).length = L.length + 1 := List.length_append; rw [hlk] at H24; clear hown3 hgr3 h24 hlk)
                | (at_builtin; refine wpList_copyNilG (L := L) rfl _ _ rfl rfl rfl HNW.out hlL ?_; intro po pc W1 hown1 hb1; have hsz1 := hb1.size; have HOWN1 : Hid (W1.ownsRow WO.heap.size 3 1 (.slice po L.length pc) L.length (qv L)) := hown1; clear hown1)
                | (go_at_call 31; refine Calls.mono H24.out ?_; rintro e W4 ⟨rfl, hb4⟩)
                | go_in)
              go_roundw
              case rel => exact ⟨d + 1, by omega, by rw [HNX2.out]; simp only [Wr, wrap_eq], by go_num, below_next (below_next hb hb3) hb4⟩
              case measure => simp [numOf]; omega
      · have i2 : ¬ (d : Int) < (k : Int) := by omega
        have hdk : d = k := by omega
        subst hdk
        rw [← HRES.out]
        go_wp2
        go_ret
        exact ⟨rfl, hb⟩
set_option maxHeartbeats 1000000 in
theorem colTop_call {W : World} {tv : Value} {n k : Nat} {p : Int → Int → Bool} (hn : n ≤ 100) (hk : k ≤ 100) (hG : GridAt W tv n p) :
    Calls Try.prog 16 #[tv, .int .i64 (k : Int)] W fun e w' => e = .returned (.int .i64 (Wr (Cc k (fun v z => p (v : Int) (z : Int)) n []))) ∧ Below W.heap.size W w' := by
  have h28 := colourings_call (k := k) hn hk n W [] none 0 (by simp) hG (fun j hj => absurd hj (Nat.not_lt_zero _))
  obtain ⟨tao, tcap, e, _⟩ := id hG
  subst e
  obtain ⟨res, hres⟩ : ∃ res, res = Wr (Cc k (fun v z => p (v : Int) (z : Int)) n []) := ⟨_, rfl⟩
  rw [← hres] at h28 ⊢
  have H28 : Hid (Calls Try.prog 31 #[.slice tao n tcap, .int .i64 (k : Int), .slice none 0 0] W fun e w' => e = .returned (.int .i64 res) ∧ Below W.heap.size W w') := h28
  clear h28 hres hG
  go_enter Try.func16, Try.ntmps16
  go_wp2_with (first
    | (go_at_call 31; refine Calls.mono H28.out ?_; rintro e W4 ⟨rfl, hb4⟩)
    | go_in)
  go_ret
  exact ⟨rfl, hb4⟩
end Go.Proofs.Ytdnmoifbkojnlaa
