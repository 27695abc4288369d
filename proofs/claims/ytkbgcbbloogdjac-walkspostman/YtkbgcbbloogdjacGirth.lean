/- Girth. -/
import Derived.Test.YtkbgcbbloogdjacWay
namespace Go.Proofs.Ytkbgcbbloogdjac
open Go.RowKit Go.Maps
attribute [local go_sem ↓] Go.wp_at_zero Go.wp_at_succ

/-- z is the least of the numbers above 0 that f tells of the pairs ahead of (v, u); 0: there is none. -/
def MinTo (f : Nat → Nat → Nat → Prop) (N v u z : Nat) : Prop :=
  (∀ a b c, a < N → b < N → (a < v ∨ (a = v ∧ b < u)) → f a b c → c = 0 ∨ (0 < z ∧ z ≤ c)) ∧ (z = 0 ∨ ∃ a b, a < N ∧ b < N ∧ f a b z)
theorem MinTo.start (f : Nat → Nat → Nat → Prop) (N : Nat) : MinTo f N 0 0 0 := ⟨fun a b c _ _ h => by omega, Or.inl rfl⟩
theorem MinTo.row {f : Nat → Nat → Nat → Prop} {N v z : Nat} (h : MinTo f N v N z) : MinTo f N (v + 1) 0 z := ⟨fun a b c ha hb hab => h.1 a b c ha hb (by omega), h.2⟩
theorem MinTo.more {f : Nat → Nat → Nat → Prop} {N v u z c : Nat} (h : MinTo f N v u z) (hv : v < N) (hu : u < N) (hf : ∀ c', f v u c' ↔ c' = c) : MinTo f N v (u + 1) (if 0 < c ∧ (z = 0 ∨ c < z) then c else z) := by
  refine ⟨fun a b c' ha hb hab hfc => ?_, ?_⟩
  · by_cases e : a = v ∧ b = u
    · obtain ⟨rfl, rfl⟩ := e
      have := (hf c').1 hfc
      subst this
      by_cases k : 0 < c' ∧ (z = 0 ∨ c' < z)
      · rw [if_pos k]; omega
      · rw [if_neg k]; omega
    · have := h.1 a b c' ha hb (by omega) hfc
      by_cases k : 0 < c ∧ (z = 0 ∨ c < z)
      · rw [if_pos k]; omega
      · rw [if_neg k]; exact this
  · by_cases k : 0 < c ∧ (z = 0 ∨ c < z)
    · rw [if_pos k]; exact Or.inr ⟨v, u, hv, hu, (hf c).2 rfl⟩
    · rw [if_neg k]; exact h.2
/-- c is what closedAt answers at u, of the distances from v. -/
def ClosedIs (m : Nat) (es : List Pair) (v u c : Nat) : Prop := ∃ o, Dist m (pn (hasB es)) v o ∧ c = closedS o (nbL m es u) u
theorem closedS_congr {o o' : Nat → Option Nat} {l : List Nat} {u : Nat} (h : o u = o' u) (hl : ∀ x ∈ l, o x = o' x) : closedS o l u = closedS o' l u := by
  have hc : ∀ z, cntD o l z = cntD o' l z := fun z => by
    unfold cntD
    congr 1
    exact List.filter_congr fun x hx => by rw [hl x hx]
  unfold closedS
  rw [h]
  cases o' u with
  | none => rfl
  | some d => simp only [hc]
theorem closedIs_iff {m : Nat} {es : List Pair} {v u : Nat} (hu : u < m) {o : Nat → Option Nat} (h : Dist m (pn (hasB es)) v o) (c : Nat) : ClosedIs m es v u c ↔ c = closedS o (nbL m es u) u := by
  constructor
  · rintro ⟨o', h1, rfl⟩
    exact closedS_congr (h1.same h hu) (fun x hx => h1.same h (by have := (List.mem_filter.1 hx).1; simpa using this))
  · intro hc
    exact ⟨o, h, hc⟩
theorem closedS_le {m : Nat} {es : List Pair} {v u : Nat} {o : Nat → Option Nat} (h : Dist m (pn (hasB es)) v o) (hu : u < m) : closedS o (nbL m es u) u ≤ 2 * m + 1 := by
  unfold closedS
  cases hd : o u with
  | none => simp
  | some d =>
    have := h.lt hu hd
    simp only
    split
    · omega
    · split <;> omega

set_option maxRecDepth 4000 in
set_option maxHeartbeats 2000000 in
theorem girth_bad (n : Int) (v : Value) (es : List Pair) (w : World) (hE : EdgesAt w v es) (hc : (chk n es).1 ≠ 0) :
    Calls Try.prog 18 #[.agg #[.int .i64 n, v]] w fun r w' => r = .returned (.tuple #[.int .i64 0, .agg #[.int .i64 (chk n es).1, .int .i64 (chk n es).2]]) ∧ Below w.heap.size w w' := by
  have hc1 : ((chk n es).1 != 0) = true := by simpa using hc
  have hop := fun (W : World) (hB : Below w.heap.size w W) => open_bad n v (.slice none 0 0) es W (hE.below hB) hc
  obtain ⟨c, hcv⟩ : ∃ c, c = (chk n es).1 := ⟨_, rfl⟩
  obtain ⟨d, hdv⟩ : ∃ d, d = (chk n es).2 := ⟨_, rfl⟩
  rw [← hcv, ← hdv] at hop ⊢
  rw [← hcv] at hc1
  have HO : Hid _ := hop
  clear hop hcv hdv hc
  go_enter Try.func18, Try.ntmps18
  go_upto_region 1 with (fail)
  have t1 : Two ((w.alloc (Obj.cells #[.int .i64 n, v] 24)).alloc (Obj.cells #[.int .i64 0, .int .i64 0] 27)) w.heap.size (.int .i64 n) v 24 := two_alloc (two_new w _ _ _) _
  have t3 : Two ((w.alloc (Obj.cells #[.int .i64 n, v] 24)).alloc (Obj.cells #[.int .i64 0, .int .i64 0] 27)) (w.heap.size + 1) (.int .i64 0) (.int .i64 0) 27 := two_new1 w _ _ _ _
  have hB := below2 (w := w) (Obj.cells #[.int .i64 n, v] 24) (Obj.cells #[.int .i64 0, .int .i64 0] 27)
  generalize (w.alloc (Obj.cells #[.int .i64 n, v] 24)).alloc (Obj.cells #[.int .i64 0, .int .i64 0] 27) = W at t1 t3 hB ⊢
  obtain ⟨y1, y2⟩ := cell_two t1
  go_upto_region 2 with (first
    | (go_at_call 28; refine (HO.out W hB).mono ?_; rintro r wa ⟨rfl, hbA⟩)
    | go_in)
  have t3a := two_alloc (two_next t3 hbA) (Obj.cells #[.int .i64 c, .int .i64 d] 27)
  have t5a := two_new wa (.int .i64 c) (.int .i64 d) 27
  have hB2 := below_alloc (below_next hB hbA) (Obj.cells #[.int .i64 c, .int .i64 d] 27)
  have hsz : w.heap.size + 1 < wa.heap.size := by have := lt_of_block (two_next t3 hbA); omega
  generalize wa.heap.size = b5 at t5a hsz ⊢
  generalize wa.alloc (Obj.cells #[.int .i64 c, .int .i64 d] 27) = W2 at t3a t5a hB2 ⊢
  clear y1 y2 hbA t1 t3
  obtain ⟨s1, s2⟩ := cell_two t3a
  obtain ⟨s3, s4⟩ := cell_two t5a
  have f1 := free_two t3a 0
  have f2 := free_two t3a 1
  go_wp2_with fail
  go_region
  all_goals
    go_wp2
    refine bodyPost_ret (v := .tuple #[.int .i64 0, .agg #[.int .i64 c, .int .i64 d]]) ?_ rfl ⟨rfl, ((hB2.setCell (by simp) _).setCell (by simp) _).drew⟩
    simp [results, Try.results18, go_sem, s1, s2]

set_option maxRecDepth 4000 in
set_option maxHeartbeats 4000000 in
theorem girth_ok (m : Nat) (ao : Option Addr) (cap : Nat) (es : List Pair) (w : World) (hE : EdgesAt w (.slice ao es.length cap) es) (hc : (chk m es).1 = 0) :
    Calls Try.prog 18 #[.agg #[.int .i64 (m : Int), .slice ao es.length cap]] w fun r w' => ∃ z : Nat, r = .returned (.tuple #[.int .i64 (z : Int), .agg #[.int .i64 0, .int .i64 0]]) ∧ z ≤ 2 * m + 1 ∧ MinTo (ClosedIs m es) m m 0 z ∧ Below w.heap.size w w' := by
  obtain ⟨hck, hn0, hn1, hle, hgood⟩ := chk_good hc
  have hm : m ≤ 100 := by omega
  have hop := fun (W : World) (hB : Below w.heap.size w W) => open_ok m ao cap es (.slice none 0 0) [] W (hE.below hB) (intsAt_nil W) (fun x hx => by cases hx) (by simp) hc
  have HO : Hid _ := hop
  clear hE hc hck hn0 hn1 hle hgood hop
  go_enter Try.func18, Try.ntmps18
  go_upto_region 1 with (fail)
  have t1 : Two ((w.alloc (Obj.cells #[.int .i64 (m : Int), .slice ao es.length cap] 24)).alloc (Obj.cells #[.int .i64 0, .int .i64 0] 27)) w.heap.size (.int .i64 (m : Int)) (.slice ao es.length cap) 24 := two_alloc (two_new w _ _ _) _
  have t3 : Two ((w.alloc (Obj.cells #[.int .i64 (m : Int), .slice ao es.length cap] 24)).alloc (Obj.cells #[.int .i64 0, .int .i64 0] 27)) (w.heap.size + 1) (.int .i64 0) (.int .i64 0) 27 := two_new1 w _ _ _ _
  have hB := below2 (w := w) (Obj.cells #[.int .i64 (m : Int), .slice ao es.length cap] 24) (Obj.cells #[.int .i64 0, .int .i64 0] 27)
  generalize (w.alloc (Obj.cells #[.int .i64 (m : Int), .slice ao es.length cap] 24)).alloc (Obj.cells #[.int .i64 0, .int .i64 0] 27) = W at t1 t3 hB ⊢
  obtain ⟨y1, y2⟩ := cell_two t1
  go_upto_region 2 with (first
    | (go_at_call 28; refine (HO.out W hB).mono ?_; rintro r wa ⟨g, vs, rfl, hgg, hnl, hbA⟩)
    | go_in)
  have hnr : NearR (wa.alloc (Obj.cells #[.int .i64 0, .int .i64 0] 27)) (some ⟨g, 0, none⟩) m (nbL m es) := (NearL.toR hnl).below (below_alloc (Below.refl _ wa) _)
  have t3a := two_alloc (two_next t3 hbA) (Obj.cells #[.int .i64 0, .int .i64 0] 27)
  have t5a := two_new wa (.int .i64 0) (.int .i64 0) 27
  have hB2 := below_alloc (below_next hB hbA) (Obj.cells #[.int .i64 0, .int .i64 0] 27)
  generalize wa.heap.size = b5 at t5a ⊢
  generalize wa.alloc (Obj.cells #[.int .i64 0, .int .i64 0] 27) = W2 at t3a t5a hB2 hnr ⊢
  clear y1 y2 hbA t1 t3 hnl hgg
  obtain ⟨s3, s4⟩ := cell_two t5a
  have HNR : Hid _ := hnr
  clear hnr
  go_wp2
  clear s3 s4 t5a
  go_loopw [6, 22] (fun p i wr => ∃ v z : Nat, v ≤ m ∧ i = .int .i64 (v : Int) ∧ p = .int .i64 (z : Int) ∧ z ≤ 2 * m + 1 ∧ MinTo (ClosedIs m es) m v 0 z ∧ Below W2.heap.size W2 wr) (fun _ i _ => m - (numOf i).toNat)
  case atStart => exact ⟨0, 0, Nat.zero_le _, rfl, rfl, Nat.zero_le _, MinTo.start _ _, Below.refl _ _⟩
  case round =>
    obtain ⟨v, z, hv, rfl, rfl, hz, hmin, hBr⟩ := hrel
    have HMI : Hid _ := hmin
    clear hmin
    by_cases hvm : v < m
    · go_wp2_with (first
        | (go_at_call 29; refine (farFrom_call (NearR.below HNR.out hBr) (rows_nb m es hm) hm hvm).mono ?_; rintro r wb ⟨b, o, rfl, hb, hrow, hd, hbB⟩)
        | go_in)
      have hB3 := below_next hBr hbB
      have HD : Hid _ := hd
      clear hd hBr hbB
      go_loopw [6, 30] (fun p i wr => ∃ u z : Nat, u ≤ m ∧ i = .int .i64 (u : Int) ∧ p = .int .i64 (z : Int) ∧ z ≤ 2 * m + 1 ∧ MinTo (ClosedIs m es) m v u z ∧ Below wb.heap.size wb wr) (fun _ i _ => m - (numOf i).toNat)
      case atStart => exact ⟨0, z, Nat.zero_le _, rfl, rfl, hz, HMI.out, Below.refl _ _⟩
      case round =>
        obtain ⟨u, z2, hu, rfl, rfl, hz2, hmin2, hBq⟩ := hrel
        have HM2 : Hid _ := hmin2
        clear hmin2
        by_cases hum : u < m
        · have hcall := closedAt_call (cap := m) (NearR.below HNR.out (below_next hB3 hBq)) (rows_nb m es hm) hm (RowV.below hrow hBq) (fun x d hx h => Dist.lt HD.out hx h) hum
          have hcl := closedS_le HD.out hum
          have hmm := MinTo.more HM2.out hvm hum (closedIs_iff hum HD.out)
          obtain ⟨c, hcc⟩ : ∃ c, c = closedS o (nbL m es u) u := ⟨_, rfl⟩
          rw [← hcc] at hcall hcl hmm
          have HCA : Hid _ := hcall
          have HMM : Hid _ := hmm
          clear hcall hmm hcc
          by_cases k1 : 0 < c
          · by_cases k2 : z2 = 0
            · have k1' : (0 : Int) < (c : Int) := by omega
              have k2' : (z2 : Int) = 0 := by omega
              have HE1 : Hid (0 < c ∧ (z2 = 0 ∨ c < z2)) := ⟨k1, Or.inl k2⟩
              clear k1 k2
              go_wp2_with (first
                | (go_at_call 33; refine Calls.mono HCA.out ?_; rintro r wc ⟨rfl, hbC⟩)
                | go_in)
              go_roundw
              case rel => exact ⟨u + 1, c, by omega, by go_num, rfl, hcl, by have := HMM.out; rw [if_pos HE1.out] at this; exact this, below_next hBq hbC⟩
              case measure => simp [numOf]; omega
            · by_cases k3 : c < z2
              · have k1' : (0 : Int) < (c : Int) := by omega
                have k2' : ¬ (z2 : Int) = 0 := by omega
                have k3' : (c : Int) < (z2 : Int) := by omega
                have HE1 : Hid (0 < c ∧ (z2 = 0 ∨ c < z2)) := ⟨k1, Or.inr k3⟩
                clear k1 k3
                go_wp2_with (first
                  | (go_at_call 33; refine Calls.mono HCA.out ?_; rintro r wc ⟨rfl, hbC⟩)
                  | go_in)
                go_roundw
                case rel => exact ⟨u + 1, c, by omega, by go_num, rfl, hcl, by have := HMM.out; rw [if_pos HE1.out] at this; exact this, below_next hBq hbC⟩
                case measure => simp [numOf]; omega
              · have k1' : (0 : Int) < (c : Int) := by omega
                have k2' : ¬ (z2 : Int) = 0 := by omega
                have k3' : ¬ (c : Int) < (z2 : Int) := by omega
                have k2b : ((z2 : Int) == 0) = false := by simpa using k2'
                have k2c : (z2 == 0) = false := by simpa using k2
                have HE1 : Hid (¬ (0 < c ∧ (z2 = 0 ∨ c < z2))) := show ¬ (0 < c ∧ (z2 = 0 ∨ c < z2)) by omega
                clear k1 k3
                go_wp2_with (first
                  | (go_at_call 33; refine Calls.mono HCA.out ?_; rintro r wc ⟨rfl, hbC⟩)
                  | go_in)
                go_roundw
                case rel => exact ⟨u + 1, z2, by omega, by go_num, rfl, hz2, by have := HMM.out; rw [if_neg HE1.out] at this; exact this, below_next hBq hbC⟩
                case measure => simp [numOf]; omega
          · have k1' : ¬ (0 : Int) < (c : Int) := by omega
            have HE1 : Hid (¬ (0 < c ∧ (z2 = 0 ∨ c < z2))) := show ¬ (0 < c ∧ (z2 = 0 ∨ c < z2)) by omega
            clear k1
            go_wp2_with (first
              | (go_at_call 33; refine Calls.mono HCA.out ?_; rintro r wc ⟨rfl, hbC⟩)
              | go_in)
            go_roundw
            case rel => exact ⟨u + 1, z2, by omega, by go_num, rfl, hz2, by have := HMM.out; rw [if_neg HE1.out] at this; exact this, below_next hBq hbC⟩
            case measure => simp [numOf]; omega
        · have hue : m = u := by omega
          subst hue
          go_wp2
          go_roundw
          case rel => exact ⟨v + 1, z2, by omega, by go_num, rfl, hz2, MinTo.row HM2.out, below_next hB3 hBq⟩
          case measure => simp [numOf]; omega
    · have hve : m = v := by omega
      subst hve
      have t3b := two_next t3a hBr
      obtain ⟨s1, s2⟩ := cell_two t3b
      have f1 := free_two t3b 0
      have f2 := free_two t3b 1
      go_wp2
      refine bodyPost_ret (v := .tuple #[.int .i64 (z : Int), .agg #[.int .i64 0, .int .i64 0]]) ?_ rfl ⟨z, rfl, hz, HMI.out, ((below_next hB2 hBr).setCell (by simp) _).setCell (by simp) _⟩
      simp [results, Try.results18, go_sem, s1, s2]
end Go.Proofs.Ytkbgcbbloogdjac
