/- The fan of a node: as far as it goes. -/
import Derived.Test.YtdnmoifbkojnlaaDyeW
namespace Go.Proofs.Ytdnmoifbkojnlaa
open Go.RowKit Go.Maps
attribute [local go_sem ↓] Go.wp_at_zero Go.wp_at_succ

/-- What behind answers: a node that can stand behind v, or -1. -/
def Bh (k : Nat) (D : Nat → Nat → Int) (S : Nat → Bool) (u v : Nat) (m : Int) : Prop := (m = -1 ∧ ∀ c, c < k → ∀ z : Nat, D u c = (z : Int) → D v c = -1 → S z = true) ∨ ∃ c z : Nat, c < k ∧ m = (z : Int) ∧ D u c = (z : Int) ∧ S z = false ∧ D v c = -1
section
variable {w : World} {p t n k : Nat} {B : Nat → Nat} {D : Nat → Nat → Int}
set_option maxRecDepth 4000 in
set_option maxHeartbeats 2000000 in
theorem behind_call (h : DyeAt w p t n k B D) (hD : Dye n k D) (hk : k ≤ 1000) {u v gf : Nat} {S : Nat → Bool} (hu : u < n) (hv : v < n) (hf : RowB w gf n S) :
    Calls Try.prog 62 #[ptr p, .int .i64 (u : Int), .int .i64 (v : Int), sl gf n] w fun e w' => (∃ m, e = .returned (.int .i64 m) ∧ Bh k D S u v m) ∧ w' = w := by
  have HD : Hid (Dye n k D) := hD
  have HW : Hid (DyeAt w p t n k B D) := h
  have HF : Hid (RowB w gf n S) := hf
  have c1 : w.cell? ⟨p, 0, none⟩ = some (sl t n) := box_cell h.box rfl
  have c2 := h.top.cell hu
  have i1 : (0 : Int) ≤ (u : Int) := by omega
  have i2 : (u : Int) < (n : Int) := by omega
  clear h hD hf
  go_enter Try.func62, Try.ntmps62
  go_wp2
  clear c1 c2 i1 i2
  go_loopw [19] (fun i wr => ∃ c : Nat, c ≤ k ∧ i = .int .i64 (c : Int) ∧ (∀ d, d < c → ∀ z : Nat, D u d = (z : Int) → D v d = -1 → S z = true) ∧ wr = w) (fun i _ => k - (numOf i).toNat)
  case atStart => exact ⟨0, Nat.zero_le _, rfl, fun d hd => by omega, rfl⟩
  case round =>
    obtain ⟨c, hc, rfl, hno, hwr⟩ := hrel
    have hwr' := hwr.symm
    clear hwr
    subst hwr'
    have HNO : Hid (∀ d, d < c → ∀ z : Nat, D u d = (z : Int) → D v d = -1 → S z = true) := hno
    clear hno
    by_cases hlt : c < k
    · have i1 : (0 : Int) ≤ (c : Int) := by omega
      have i2 : (c : Int) < (k : Int) := by omega
      obtain ⟨_, _, c3⟩ := HW.out.cells hu hlt
      rcases HD.out.val u c hu hlt with he | ⟨z, hz, he, _, _⟩
      · have HE : Hid (D u c = -1) := he
        rw [he] at c3
        clear he
        go_wp2
        go_roundw
        case rel => exact ⟨c + 1, by omega, by go_num, fun d hd z e1 e2 => by
          by_cases e : d = c
          · subst e; rw [HE.out] at e1; omega
          · exact HNO.out d (by omega) z e1 e2, trivial⟩
        case measure => simp [numOf]; omega
      · have HE : Hid (D u c = (z : Int)) := he
        rw [he] at c3
        have k1 : ((z : Int) != -1) = true := by simp
        have cz := HF.out.cell hz
        have j1 : (0 : Int) ≤ (z : Int) := by omega
        have j2 : (z : Int) < (n : Int) := by omega
        clear he
        cases hs : S z with
        | true =>
          have HS : Hid (S z = true) := hs
          rw [hs] at cz
          clear hs
          go_wp2
          go_roundw
          case rel => exact ⟨c + 1, by omega, by go_num, fun d hd z' e1 e2 => by
            by_cases e : d = c
            · subst e
              rw [HE.out] at e1
              have : z = z' := by omega
              subst this
              exact HS.out
            · exact HNO.out d (by omega) z' e1 e2, trivial⟩
          case measure => simp [numOf]; omega
        | false =>
          have HS : Hid (S z = false) := hs
          rw [hs] at cz
          clear hs
          have h54 := isFree_call HW.out hv hlt
          obtain ⟨fr, hfr⟩ : ∃ fr, fr = (D v c == -1) := ⟨_, rfl⟩
          rw [← hfr] at h54
          have H54 : Hid (Calls Try.prog 54 #[ptr p, .int .i64 (v : Int), .int .i64 (c : Int)] w fun e w' => e = .returned (.bool fr) ∧ w' = w) := h54
          have HFR : Hid (fr = (D v c == -1)) := hfr
          clear h54 hfr
          cases fr with
          | true =>
            go_wp2_with (first | (go_at_call 54; refine Calls.mono H54.out ?_; rintro e _ ⟨rfl, rfl⟩) | go_in)
            go_ret
            exact ⟨⟨(z : Int), rfl, Or.inr ⟨c, z, hlt, rfl, HE.out, HS.out, by have := HFR.out; simpa using this.symm⟩⟩, rfl⟩
          | false =>
            go_wp2_with (first | (go_at_call 54; refine Calls.mono H54.out ?_; rintro e _ ⟨rfl, rfl⟩) | go_in)
            go_roundw
            case rel => exact ⟨c + 1, by omega, by go_num, fun d hd z' e1 e2 => by
              by_cases e : d = c
              · subst e
                have := HFR.out
                rw [e2] at this
                simp at this
              · exact HNO.out d (by omega) z' e1 e2, trivial⟩
            case measure => simp [numOf]; omega
    · have i2 : ¬ (c : Int) < (k : Int) := by omega
      have hck : c = k := by omega
      subst hck
      go_wp2
      go_ret
      exact ⟨⟨-1, rfl, Or.inl ⟨rfl, HNO.out⟩⟩, rfl⟩
/-- A fan of one node more. -/
theorem Fan.snoc {u : Nat} {f : List Nat} (hD : Dye n k D) (hu : u < n) (hF : Fan n k D u f) {c z : Nat} (hc : c < k) (e1 : D u c = (z : Int)) (e2 : D (f.getD (f.length - 1) 0) c = -1) (hz : z ∉ f) : Fan n k D u (f ++ [z]) := by
  have hp := hF.pos
  have hzn := (hD.back hu hc e1).1
  have hg : ∀ i, i < f.length → (f ++ [z]).getD i 0 = f.getD i 0 := fun i hi => getD_left hi
  have hl : (f ++ [z]).getD f.length 0 = z := getD_last
  refine ⟨by simp, fun i hi => ?_, fun i j hij hj => ?_, ?_, ?_, fun i hi => ?_⟩
  · rw [List.length_append] at hi
    by_cases e : i = f.length
    · rw [e, hl]; exact hzn
    · have hi' : i < f.length := by simp at hi; omega
      rw [hg i hi']; exact hF.lt i hi'
  · rw [List.length_append] at hj
    have hi' : i < f.length := by simp at hj; omega
    rw [hg i hi']
    by_cases e : j = f.length
    · rw [e, hl]
      intro h
      exact hz (h ▸ getD_mem hi')
    · rw [hg j (by simp at hj; omega)]
      exact hF.ne i j hij (by simp at hj; omega)
  · rw [hg 0 hp]; exact hF.nu
  · rw [hg 0 hp]; exact hF.unc
  · rw [List.length_append] at hi
    have hi' : i < f.length := by simp at hi; omega
    rw [hg i hi']
    by_cases e : i + 1 = f.length
    · rw [e, hl]
      exact ⟨c, hc, e1, by rw [show i = f.length - 1 by omega]; exact e2⟩
    · rw [hg (i + 1) (by omega)]
      exact hF.step i (by omega)
theorem Fan.one {u v : Nat} (hv : v < n) (hvu : v ≠ u) (hun : ¬ Dyed k D u v) : Fan n k D u [v] := by
  refine ⟨by simp, fun i hi => ?_, fun i j hij hj => ?_, hvu, hun, fun i hi => ?_⟩
  · have : i = 0 := by simp at hi; omega
    subst this; exact hv
  · simp at hj; omega
  · simp at hi
theorem Fan.short {u : Nat} {f : List Nat} (hF : Fan n k D u f) : f.length ≤ n := nodup_below f hF.lt hF.ne
def lenOf : Value → Nat
  | .slice _ m _ => m
  | _ => 0
/-- How far the fan's loop is. -/
def FanSt (n k : Nat) (D : Nat → Nat → Int) (u v : Nat) (f : List Nat) (m : Int) : Prop := (m = -1 ∧ Fan n k D u f ∧ f.getD 0 0 = v ∧ FanMax k D u f) ∨ ∃ z : Nat, m = z ∧ Fan n k D u (f ++ [z]) ∧ (f ++ [z]).getD 0 0 = v
theorem make57 (N : Nat) (hN : N ≤ 1000) (w : World) : (Instr.makeSlice 57 (.int .i64 (N : Int)) (.int .i64 (N : Int))).run Try.prog w = .ok (.slice (some ⟨w.heap.size, 0, none⟩) N N) (w.alloc (.cells (rep N (.bool false)) 4)) := by
  obtain ⟨i4, hi4, hy0, hy1, hy2⟩ := info_parts Try.info4
  have hr := run_make (P := Try.prog) w 57 4 i4 (.bool false) Try.underlying57 hi4 hy0 .i64 .i64 N N (by omega) (Int.le_refl _) (by rw [hy2]; omega) (by omega)
  simpa [hy1, Value.cells] using hr
set_option maxRecDepth 4000 in
set_option maxHeartbeats 3000000 in
theorem fan_call (h : DyeAt w p t n k B D) (hD : Dye n k D) (hn : n ≤ 1000) (hk : k ≤ 1000) {u v : Nat} (hu : u < n) (hv : v < n) (hvu : v ≠ u) (hun : ¬ Dyed k D u v) :
    Calls Try.prog 49 #[ptr p, .int .i64 (u : Int), .int .i64 (v : Int)] w fun e w' => ∃ po pc f, e = .returned (.slice po f.length pc) ∧ w'.ownsRow w.heap.size 3 1 (.slice po f.length pc) f.length (qv f) ∧ Fan n k D u f ∧ f.getD 0 0 = v ∧ FanMax k D u f ∧ Below w.heap.size w w' := by
  have HD : Hid (Dye n k D) := hD
  have HW : Hid (DyeAt w p t n k B D) := h
  have HF0 : Hid (Fan n k D u [v]) := Fan.one hv hvu hun
  have c1 : w.cell? ⟨p, 0, none⟩ = some (sl t n) := box_cell h.box rfl
  have hmk := make57 n hn
  clear h hD hun
  go_enter Try.func49, Try.ntmps49
  go_upto_region 3 with (fail)
  have hB0 := below_alloc (Below.refl _ w) (Obj.cells (rep n (.bool false)) 4)
  have hr0 : RowB (w.alloc (Obj.cells (rep n (.bool false)) 4)) w.heap.size n (fun _ => false) := ⟨_, heap_alloc_new _ _, rep_size _ _, fun j hj => rep_at _ hj⟩
  generalize w.alloc (Obj.cells (rep n (.bool false)) 4) = W0 at hB0 hr0 ⊢
  obtain ⟨gb, hgb⟩ : ∃ gb, gb = w.heap.size := ⟨_, rfl⟩
  have HGB : Hid (gb = w.heap.size) := hgb
  rw [← hgb] at hr0 ⊢
  clear hgb hmk c1
  go_loopw [7, 2] (fun s7 s2 wr => ∃ po pc f m, s7 = .slice po f.length pc ∧ s2 = .int .i64 m ∧ wr.ownsRow gb 3 1 (.slice po f.length pc) f.length (qv f) ∧ RowB wr gb n (fun x => f.contains x) ∧ Below gb w wr ∧ gb < wr.heap.size ∧ FanSt n k D u v f m) (fun s7 _ _ => n - lenOf s7)
  case atStart => exact ⟨none, 0, [], (v : Int), rfl, rfl, World.ownsRow_nil _ _ _ _, hr0.congr (fun j _ => by simp), by rw [HGB.out]; exact hB0, hr0.lt, Or.inr ⟨v, rfl, HF0.out, rfl⟩⟩
  case round =>
    obtain ⟨po, pc, f, m, rfl, rfl, hown, hrb, hB, hlt, hst⟩ := hrel
    rcases hst with ⟨rfl, hF, hf0, hmx⟩ | ⟨z, rfl, hF, hf0⟩
    · have HF : Hid (Fan n k D u f) := hF
      have HMX : Hid (FanMax k D u f) := hmx
      have HF1 : Hid (f.getD 0 0 = v) := hf0
      clear hF hmx hf0
      go_wp2
      go_ret
      refine ⟨po, pc, f, rfl, ?_, HF.out, HF1.out, HMX.out, ?_⟩
      · rw [← HGB.out]; exact hown
      · rw [← HGB.out]; exact hB
    · have hzn : z < n := by
        have := hF.lt f.length (by simp)
        rw [getD_last] at this
        exact this
      have hfl : f.length < n := by
        have := hF.short
        simp at this
        omega
      have HF : Hid (Fan n k D u (f ++ [z])) := hF
      have HF1 : Hid ((f ++ [z]).getD 0 0 = v) := hf0
      have HOWN : Hid (wr.ownsRow gb 3 1 (.slice po f.length pc) f.length (qv f)) := hown
      have HRB : Hid (RowB wr gb n (fun x => f.contains x)) := hrb
      have k1 : ((z : Int) != -1) = true := by simp
      have i1 : (0 : Int) ≤ (z : Int) := by omega
      have i2 : (z : Int) < (n : Int) := by omega
      have hsz : gb ≤ wr.heap.size := by omega
      clear hF hf0 hown hrb
      go_upto_region 5 with (first | (at_builtin; refine wpList_pushA (x := z) rfl _ _ rfl rfl rfl HOWN.out (by omega) hsz ?_; intro g1 c1 w2 hown1 hgr1 hat1) | go_in)
      obtain ⟨L, hL⟩ : ∃ L, L = f ++ [z] := ⟨_, rfl⟩
      have hlL : L.length = f.length + 1 := by rw [hL]; simp
      have hLc : ∀ x, L.contains x = (x == z || f.contains x) := fun x => by
        rw [hL, Bool.eq_iff_iff]
        simp [or_comm]
      rw [← hL] at hown1 HF HF1
      rw [← hlL]
      have T1 := (alloc_turns wr (Obj.cells #[.int .i64 (z : Int)] 3) (fun x => some x = (Value.slice po f.length pc).ownBlock)).trans (Turns.of_grown hgr1)
      have hgne : (Value.slice po f.length pc).ownBlock ≠ some gb := fun e => by
        obtain ⟨cur, q1⟩ := own_cells HOWN.out e
        obtain ⟨cur', q2, _⟩ := HRB.out
        rw [q1] at q2
        simp at q2
      have hrb1 := HRB.out.turns T1 (fun e => hgne e.symm)
      have hB1 : Below gb w w2 := Turns.below hB T1 hsz (fun x hx => (HOWN.out.lt x hx.symm).1)
      have hg1 : g1 ≠ gb := by
        rcases hat1 with e | e
        · exact fun e2 => hgne (e2 ▸ e)
        · omega
      have f5 := hrb1.free z
      have c5 := hrb1.cell hzn
      have hsz1 := hrb1.lt
      have HLC : Hid (∀ x, L.contains x = (x == z || f.contains x)) := hLc
      have HOWN1 : Hid (w2.ownsRow gb 3 1 (.slice (some ⟨g1, 0, none⟩) L.length c1) L.length (qv L)) := hown1
      have HRB1 : Hid (RowB w2 gb n (fun x => f.contains x)) := hrb1
      have HLAST : Hid (L.getD (L.length - 1) 0 = z) := by
        rw [hlL, hL]; exact getD_last
      clear hL hLc hown1 hgr1 hat1 T1 hrb1 HOWN HRB hB
      go_upto_region 6 with (fail)
      have hrb2 := (HRB1.out.set z).congr (r := fun x => L.contains x) (fun j _ => (HLC.out j).symm)
      have T2 := setCell_turns w2 gb z (.bool true)
      have hown2 := ownsRow_blocks (w' := w2.setCell ⟨gb, z, none⟩ (.bool true)) HOWN1.out (fun b hb => Below.heap_setCell _ _ _ _ (by
        have : b = g1 := by simpa [Value.ownBlock] using hb.symm
        rw [this]; exact hg1))
      have hB2 : Below gb w (w2.setCell ⟨gb, z, none⟩ (.bool true)) := Turns.below hB1 T2 (by omega) (fun x hx => by omega)
      have hsz2 := hrb2.lt
      generalize w2.setCell ⟨gb, z, none⟩ (.bool true) = W3 at hrb2 hown2 hB2 hsz2 ⊢
      have h62 := behind_call (HW.out.below (by rw [HGB.out] at hB2; exact hB2)) HD.out hk hu hzn hrb2
      have H62 : Hid (Calls Try.prog 62 #[ptr p, .int .i64 (u : Int), .int .i64 (z : Int), sl gb n] W3 fun e w' => (∃ m, e = .returned (.int .i64 m) ∧ Bh k D (fun x => L.contains x) u z m) ∧ w' = W3) := h62
      have HRB2 : Hid (RowB W3 gb n (fun x => L.contains x)) := hrb2
      have HOWN2 : Hid (W3.ownsRow gb 3 1 (.slice (some ⟨g1, 0, none⟩) L.length c1) L.length (qv L)) := hown2
      clear h62 hrb2 hown2 HRB1 HOWN1 T2 hB1 f5 c5
      go_wp2_with (first | (go_at_call 62; refine Calls.mono H62.out ?_; rintro e _ ⟨⟨m, rfl, hm⟩, rfl⟩) | go_in)
      go_roundw
      case rel =>
        refine ⟨some ⟨g1, 0, none⟩, c1, L, m, by rw [hlL], rfl, HOWN2.out, HRB2.out, hB2, hsz2, ?_⟩
        rcases hm with ⟨rfl, hall⟩ | ⟨c, y, hc, rfl, e1, hS, e2⟩
        · refine Or.inl ⟨rfl, HF.out, HF1.out, fun x c hc e1 e2 => ?_⟩
          rw [HLAST.out] at e2
          simpa using hall c hc x e1 e2
        · refine Or.inr ⟨y, rfl, Fan.snoc HD.out hu HF.out hc e1 (by rw [HLAST.out]; exact e2) (by simpa using hS), ?_⟩
          rw [getD_left HF.out.pos]; exact HF1.out
      case measure => simp [lenOf]; omega
end
end Go.Proofs.Ytdnmoifbkojnlaa
