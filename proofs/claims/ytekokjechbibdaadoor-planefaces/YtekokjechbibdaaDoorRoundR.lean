/- The document's own Round: the first node whose list is not in order. -/
import Derived.Test.YtekokjechbibdaaDoorFacesW
namespace Go.Proofs.YtekokjechbibdaaDoor
set_option maxRecDepth 8000
open Go.RowKit Go.Maps
attribute [local go_sem ↓] Go.wp_at_zero Go.wp_at_succ
theorem nodup_sub {α : Type} [DecidableEq α] : ∀ (l m : List α), l.Nodup → (∀ e ∈ l, e ∈ m) → l.length ≤ m.length
  | [], _, _, _ => Nat.zero_le _
  | a :: l, m, hn, hs => by
    obtain ⟨h1, h2⟩ := List.nodup_cons.1 hn
    have ha := hs a (by simp)
    have := nodup_sub l (m.erase a) h2 (fun e he => (List.mem_erase_of_ne (fun (h : e = a) => h1 (by rw [← h]; exact he))).2 (hs e (by simp [he])))
    rw [List.length_erase_of_mem ha] at this
    have hpos : 0 < m.length := List.length_pos_of_mem ha
    simp only [List.length_cons]
    omega
theorem sub_back {α : Type} [DecidableEq α] {l m : List α} (hn : l.Nodup) (hs : ∀ e ∈ l, e ∈ m) (hl : m.length ≤ l.length) : ∀ e ∈ m, e ∈ l := fun e he => by
  by_cases h : e ∈ l
  · exact h
  · have := nodup_sub (e :: l) m (List.nodup_cons.2 ⟨h, hn⟩) (fun x hx => by
      rcases List.mem_cons.1 hx with rfl | hx
      · exact he
      · exact hs x hx)
    simp only [List.length_cons] at this
    omega
/-- Place j of a row is in order. -/
def okAt (N : Nat) (q : Nat → Bool) (l : List Int) (j : Nat) : Prop := 0 ≤ l.getD j 0 ∧ l.getD j 0 < N ∧ q (l.getD j 0).toNat = true ∧ ∀ i, i < j → l.getD i 0 ≠ l.getD j 0
def cntQ (q : Nat → Bool) (k : Nat) : Nat := ((List.range k).filter q).length
theorem cntQ_succ (q : Nat → Bool) (k : Nat) : cntQ q (k + 1) = cntQ q k + (if q k = true then 1 else 0) := by
  unfold cntQ
  rw [List.range_succ, List.filter_append, List.length_append]
  by_cases h : q k = true
  · simp [h]
  · simp [h]
theorem cntQ_le (q : Nat → Bool) (k : Nat) : cntQ q k ≤ k := by
  have := List.length_filter_le q (List.range k)
  simpa [cntQ] using this
theorem row_iff {N s : Nat} {q : Nat → Bool} {l : List Int} (hN : N ≤ 100) (hs : ∀ z, s.testBit z = true → z < N) (hq : ∀ z, z < N → s.testBit z = q z) : eachB l 0 s = true ↔ l.length = cntQ q N ∧ ∀ j, j < l.length → okAt N q l j := by
  have hF : ∀ z, z ∈ (List.range N).filter q ↔ s.testBit z = true := fun z => by
    rw [List.mem_filter, List.mem_range]
    constructor
    · rintro ⟨h1, h2⟩; rw [hq z h1]; exact h2
    · intro h; exact ⟨hs z h, by rw [← hq z (hs z h)]; exact h⟩
  have hFn : ((List.range N).filter q).Nodup := List.Nodup.sublist List.filter_sublist List.nodup_range
  constructor
  · intro h
    obtain ⟨m, rfl, h1, h2, h3⟩ := eachB_out l 0 s h
    have hm : ∀ z, z ∈ m ↔ z ∈ (List.range N).filter q := fun z => by rw [hF, h3]; simp
    have hg : ∀ j, j < m.length → (castL m).getD j 0 = ((m.getD j 0 : Nat) : Int) := fun j hj => by
      simp [castL, List.getD_eq_getElem?_getD, List.getElem?_eq_getElem hj]
    refine ⟨?_, fun j hj => ?_⟩
    · rw [castL_len]
      have a1 := nodup_sub m _ h1 (fun e he => (hm e).1 he)
      have a2 := nodup_sub _ m hFn (fun e he => (hm e).2 he)
      unfold cntQ
      omega
    · rw [castL_len] at hj
      have hjm : m.getD j 0 ∈ m := by rw [List.getD_eq_getElem?_getD, List.getElem?_eq_getElem hj]; exact List.getElem_mem hj
      have hb := (hF _).1 ((hm _).1 hjm)
      have hlt := hs _ hb
      refine ⟨by rw [hg j hj]; omega, by rw [hg j hj]; omega, ?_, fun i hi => ?_⟩
      · rw [hg j hj, show (((m.getD j 0 : Nat) : Int)).toNat = m.getD j 0 by omega, ← hq _ hlt]; exact hb
      · rw [hg j hj, hg i (by omega)]
        intro e
        have e' : m.getD i 0 = m.getD j 0 := by omega
        rw [List.getD_eq_getElem?_getD, List.getD_eq_getElem?_getD, List.getElem?_eq_getElem hj, List.getElem?_eq_getElem (show i < m.length by omega)] at e'
        have := (List.pairwise_iff_getElem.1 h1) i j (by omega) hj hi
        exact this e'
  · rintro ⟨h1, h2⟩
    obtain ⟨m, hm⟩ : ∃ m : List Nat, m = l.map Int.toNat := ⟨_, rfl⟩
    have hml : m.length = l.length := by rw [hm]; simp
    have hl : l = castL m := by
      refine List.ext_getElem (by rw [castL_len, hml]) fun j hj1 hj2 => ?_
      have := (h2 j hj1).1
      rw [List.getD_eq_getElem?_getD, List.getElem?_eq_getElem hj1] at this
      simp only [Option.getD_some] at this
      simp [castL, hm]; omega
    have hgl : ∀ j, j < l.length → l.getD j 0 = ((m.getD j 0 : Nat) : Int) := fun j hj => by
      rw [hl]
      simp [castL, List.getD_eq_getElem?_getD, List.getElem?_eq_getElem (show j < m.length by omega)]
    have hmn : m.Nodup := by
      refine List.pairwise_iff_getElem.2 fun i j hi hj hij e => ?_
      have := (h2 j (by omega)).2.2.2 i hij
      rw [hgl i (by omega), hgl j (by omega)] at this
      apply this
      rw [List.getD_eq_getElem?_getD, List.getD_eq_getElem?_getD, List.getElem?_eq_getElem hi, List.getElem?_eq_getElem hj]
      simp only [Option.getD_some]
      rw [e]
    have hsub : ∀ z ∈ m, z ∈ (List.range N).filter q := fun z hz => by
      obtain ⟨j, hj, rfl⟩ := List.getElem_of_mem hz
      obtain ⟨k1, k2, k3, _⟩ := h2 j (by omega)
      rw [hgl j (by omega)] at k1 k2 k3
      have e : m.getD j 0 = m[j] := by rw [List.getD_eq_getElem?_getD, List.getElem?_eq_getElem hj]; rfl
      rw [e] at k1 k2 k3
      rw [List.mem_filter, List.mem_range]
      exact ⟨by omega, by simpa using k3⟩
    have hback := sub_back hmn hsub (by unfold cntQ at h1; omega)
    rw [hl]
    refine eachB_in m 0 s hmn (fun x hx => ⟨by have := List.mem_range.1 (List.mem_filter.1 (hsub x hx)).1; omega, by simp⟩) (fun z => ?_)
    have : s.testBit z = true ↔ z ∈ m := ⟨fun h => hback z ((hF z).2 h), fun h => (hF z).1 (hsub z h)⟩
    cases hz : s.testBit z with
    | true => simp [this.1 hz]
    | false =>
      have hn : ¬ z ∈ m := fun h => by rw [this.2 h] at hz; cases hz
      simp [hn]
/-- What Round tells. -/
def rrI (near : List Nat) : Nat → List (List Int) → Int
  | _, [] => -1
  | v, l :: ls => if eachB l 0 (at' near v) = true then rrI near (v + 1) ls else (v : Int)
theorem rrI_bad (near : List Nat) : ∀ (ls : List (List Int)) (v : Nat), ((roundBad near v ls).1 = 0 ∧ rrI near v ls = -1) ∨ (roundBad near v ls = (7, rrI near v ls) ∧ 0 ≤ rrI near v ls)
  | [], v => Or.inl ⟨rfl, rfl⟩
  | l :: ls, v => by
    rw [roundBad, rrI]
    by_cases h : eachB l 0 (at' near v) = true
    · rw [if_pos h, if_pos h]; exact rrI_bad near ls (v + 1)
    · rw [if_neg h, if_neg h]; exact Or.inr ⟨rfl, by omega⟩
set_option maxHeartbeats 4000000 in
theorem round_call {w : World} {N : Nat} {gv x : Value} {p : Int → Int → Bool} {near : List Nat} {ls : List (List Int)} (hg : GridAt w gv N p) (hx : RowsAt w x ls) (hN : N ≤ 100) (hls : ls.length = N) (hs : ∀ v, v < N → ∀ z, (at' near v).testBit z = true → z < N) (hq : ∀ v z : Nat, v < N → z < N → (at' near v).testBit z = p v z) :
    Calls Tryd.prog 14 #[gv, x] w fun e w' => e = .returned (.int .i64 (rrI near 0 ls)) ∧ w' = w := by
  obtain ⟨go, gc, rfl, hgr⟩ := hg
  obtain ⟨ao, cap, rfl, _, _, hrows⟩ := hx
  have HG : Hid (∀ i : Nat, i < N → ∃ g b, go = some ⟨g, 0, none⟩ ∧ w.cell? ⟨g, i, none⟩ = some (.slice (some ⟨b, 0, none⟩) N N) ∧ ∀ j : Nat, j < N → w.cell? ⟨b, j, none⟩ = some (.bool (p i j))) := hgr
  have HR : Hid (∀ i (h : i < ls.length), ∃ b off x, ao = some ⟨b, off, none⟩ ∧ w.cell? ⟨b, off + i, none⟩ = some x ∧ IntsAt w x ls[i]) := hrows
  have HS : Hid ((∀ v, v < N → ∀ z, (at' near v).testBit z = true → z < N) ∧ (∀ v z : Nat, v < N → z < N → (at' near v).testBit z = p v z) ∧ ls.length = N) := ⟨hs, hq, hls⟩
  rw [hls]
  obtain ⟨R, hR⟩ : ∃ R, R = rrI near 0 ls := ⟨_, rfl⟩
  rw [← hR]
  have HRR : Hid (R = rrI near 0 ls) := hR
  clear hgr hrows hs hq hls hR
  go_enter Tryd.func14, Tryd.ntmps14
  go_upto_region 2 with (fail)
  go_loopw [5] (fun s5 wz => ∃ v : Nat, v ≤ N ∧ s5 = .int .i64 (v : Int) ∧ wz = w ∧ R = rrI near v (ls.drop v)) (fun s5 _ => N - (numOf s5).toNat)
  case atStart => exact ⟨0, Nat.zero_le _, rfl, rfl, HRR.out⟩
  case round =>
    obtain ⟨v, hv, rfl, hwr, hRv⟩ := hrel
    have hwr' := hwr.symm
    clear hwr
    subst hwr'
    by_cases hlt : v < N
    · have hvl : v < ls.length := by rw [HS.out.2.2]; exact hlt
      obtain ⟨g, gb, rfl, cg, cgb⟩ := HG.out v hlt
      obtain ⟨b, off, xv, rfl, cx, hxv⟩ := HR.out v hvl
      obtain ⟨xo, xc, rfl, hxl, _, hxc⟩ := hxv
      have hdr : ls.drop v = ls[v] :: ls.drop (v + 1) := List.drop_eq_getElem_cons hvl
      rw [hdr] at hRv
      have HRV : Hid (R = if eachB ls[v] 0 (at' near v) = true then rrI near (v + 1) (ls.drop (v + 1)) else (v : Int)) := hRv
      have HRI : Hid (eachB ls[v] 0 (at' near v) = true ↔ ls[v].length = cntQ (fun z => p v z) N ∧ ∀ j, j < ls[v].length → okAt N (fun z => p v z) ls[v] j) := row_iff hN (HS.out.1 v hlt) (fun z hz => HS.out.2.1 v z hlt hz)
      have HXC : Hid (NumF w xo ls[v].length (fun j => ls[v].getD j 0)) := fun j hj => by
        obtain ⟨b, off, e, c⟩ := hxc j hj
        exact ⟨b, off, e, by show _ = some (Value.int .i64 (ls[v].getD j 0)); rw [c, List.getD_eq_getElem?_getD, List.getElem?_eq_getElem hj]; rfl⟩
      clear hdr hRv hxc
      generalize ls[v] = l at *
      have HGB : Hid (∀ j : Nat, j < N → w.cell? ⟨gb, j, none⟩ = some (.bool (p v j))) := cgb
      obtain ⟨len, hlen⟩ : ∃ n, n = l.length := ⟨_, rfl⟩
      rw [← hlen] at cx hxl HXC HRI
      clear hlen
      have i1 : (0 : Int) ≤ (v : Int) := by omega
      have i2 : (v : Int) < (N : Int) := by omega
      clear cgb hvl
      go_upto_region 6 with (fail)
      go_loopw [6, 7] (fun s6 s7 wz => ∃ k : Nat, k ≤ N ∧ s7 = .int .i64 (k : Int) ∧ s6 = .int .i64 (cntQ (fun z => p v z) k : Int) ∧ wz = w) (fun _ s7 _ => N - (numOf s7).toNat)
      case atStart => exact ⟨0, Nat.zero_le _, rfl, rfl, rfl⟩
      case round =>
        obtain ⟨k, hk, rfl, rfl, hwr⟩ := hrel
        have hwr' := hwr.symm
        clear hwr
        subst hwr'
        by_cases hkN : k < N
        · have ck := HGB.out k hkN
          have hc1 := cntQ_le (fun z => p v z) k
          have HCS : Hid _ := cntQ_succ (fun z => p v z) k
          have k1 : (0 : Int) ≤ (k : Int) := by omega
          have k2 : (k : Int) < (N : Int) := by omega
          generalize cntQ (fun z => p v z) k = cn at *
          cases hp : p v k with
          | true =>
            rw [hp] at ck
            have HP : Hid (p v k = true) := hp
            clear hp
            go_wp2
            go_roundw
            case rel => exact ⟨k + 1, by omega, by go_num, by rw [HCS.out, if_pos HP.out]; go_num, trivial⟩
            case measure => simp [numOf]; omega
          | false =>
            rw [hp] at ck
            have HP : Hid (p v k = false) := hp
            clear hp
            go_wp2
            go_roundw
            case rel => exact ⟨k + 1, by omega, by go_num, by rw [HCS.out, if_neg (by rw [HP.out]; simp)]; go_num, trivial⟩
            case measure => simp [numOf]; omega
        · have hke : k = N := by omega
          have k2 : ¬ (k : Int) < (N : Int) := by omega
          have hcN := cntQ_le (fun z => p v z) N
          have hce : cntQ (fun z => p v z) k = cntQ (fun z => p v z) N := by rw [hke]
          rw [hce]
          clear hce hke hk
          obtain ⟨cn, hcn⟩ : ∃ c, c = cntQ (fun z => p v z) N := ⟨_, rfl⟩
          rw [← hcn] at hcN HRI ⊢
          obtain ⟨ok0, hok0⟩ : ∃ o, o = decide (len = cn) := ⟨_, rfl⟩
          have eq1 : ((len : Int) == (cn : Int)) = ok0 := by
            rw [hok0]
            by_cases h : len = cn
            · subst h; simp
            · have : ¬ (len : Int) = (cn : Int) := by omega
              simp [h, this]
          have HOK0 : Hid (ok0 = decide (len = cn)) := hok0
          clear hcn hok0
          go_upto_region 12 with (fail)
          go_loopw [8, 9] (fun s8 s9 wz => ∃ (i : Nat) (ok : Bool), i ≤ len ∧ s9 = .int .i64 (i : Int) ∧ s8 = .bool ok ∧ wz = w ∧ (ok = true → len = cn ∧ ∀ j, j < i → okAt N (fun z => p v z) l j) ∧ (ok = false → ¬ (len = cn ∧ ∀ j, j < len → okAt N (fun z => p v z) l j))) (fun s8 s9 _ => len + 1 - (numOf s9).toNat)
          case atStart => exact ⟨0, ok0, Nat.zero_le _, rfl, rfl, rfl, fun h => ⟨by rw [HOK0.out] at h; exact of_decide_eq_true h, fun j hj => by omega⟩, fun h hh => by rw [HOK0.out] at h; exact absurd hh.1 (of_decide_eq_false h)⟩
          case round =>
            obtain ⟨i, ok, hi, rfl, rfl, hwr, hyes, hno⟩ := hrel
            have hwr' := hwr.symm
            clear hwr
            subst hwr'
            have HYN : Hid ((ok = true → len = cn ∧ ∀ j, j < i → okAt N (fun z => p v z) l j) ∧ (ok = false → ¬ (len = cn ∧ ∀ j, j < len → okAt N (fun z => p v z) l j))) := ⟨hyes, hno⟩
            clear hyes hno
            by_cases hil : i < len
            · have q1 : (i : Int) < (len : Int) := by omega
              cases ok with
              | true =>
                obtain ⟨xb, xoff, hxo, cxi⟩ := HXC.out i hil
                have hlc := (HYN.out.1 rfl).1
                have hl100 : len ≤ 100 := by omega
                have HPRE : Hid (∀ j, j < i → okAt N (fun z => p v z) l j) := (HYN.out.1 rfl).2
                have HLC : Hid (len = cn) := hlc
                subst hxo
                have q0 : (0 : Int) ≤ (i : Int) := by omega
                have HX : Hid (∃ y, y = l.getD i 0) := ⟨_, rfl⟩
                obtain ⟨y, hy⟩ := HX.out
                have cxi' : w.cell? ⟨xb, xoff + i, none⟩ = some (.int .i64 y) := by rw [hy]; exact cxi
                have HY : Hid (y = l.getD i 0) := hy
                clear cxi hy hlc HX
                have bad : ∀ _ : ¬ okAt N (fun z => p v z) l i, ¬ (len = cn ∧ ∀ j, j < len → okAt N (fun z => p v z) l j) := fun h hh => h (hh.2 i hil)
                have HBAD : Hid _ := bad
                clear bad
                by_cases y0 : y < 0
                · have r1 : ¬ (0 : Int) ≤ y := by omega
                  go_wp2
                  go_roundw
                  case rel => exact ⟨i + 1, false, by omega, by go_num, rfl, trivial, fun h => (by cases h), fun _ => HBAD.out (fun h => by have := h.1; rw [← HY.out] at this; omega)⟩
                  case measure => simp [numOf]; omega
                · by_cases y1 : (N : Int) ≤ y
                  · have r1 : (0 : Int) ≤ y := by omega
                    have r2 : ¬ y < (N : Int) := by omega
                    go_wp2
                    go_roundw
                    case rel => exact ⟨i + 1, false, by omega, by go_num, rfl, trivial, fun h => (by cases h), fun _ => HBAD.out (fun h => by have := h.2.1; rw [← HY.out] at this; omega)⟩
                    case measure => simp [numOf]; omega
                  · obtain ⟨z, hz⟩ : ∃ z : Nat, y = (z : Int) := ⟨y.toNat, by omega⟩
                    subst hz
                    have r1 : (0 : Int) ≤ (z : Int) := by omega
                    have r2 : (z : Int) < (N : Int) := by omega
                    have cz := HGB.out z (by omega)
                    cases hp : p v z with
                    | false =>
                      rw [hp] at cz
                      have HP : Hid (p v z = false) := hp
                      clear hp
                      go_wp2
                      go_roundw
                      case rel => exact ⟨i + 1, false, by omega, by go_num, rfl, trivial, fun h => (by cases h), fun _ => HBAD.out (fun h => by
                        have := h.2.2.1
                        rw [← HY.out] at this
                        simp only [Int.toNat_natCast] at this
                        rw [HP.out] at this
                        cases this)⟩
                      case measure => simp [numOf]; omega
                    | true =>
                      rw [hp] at cz
                      have HP : Hid (p v z = true) := hp
                      have C29 : Hid (Calls Tryd.prog 29 #[.slice (some ⟨xb, xoff, none⟩) len xc, .int .i64 (z : Int)] w fun e w' => (∃ m : Nat, e = .returned (.int .i64 (m : Int)) ∧ m ≤ len ∧ (∀ j, j < m → l.getD j 0 ≠ (z : Int)) ∧ (m < len → l.getD m 0 = (z : Int))) ∧ w' = w) := rank_call HXC.out (by omega) (z : Int)
                      clear hp
                      go_wp2_with (first | (go_at_call 29; refine Calls.mono C29.out ?_; rintro e w2 ⟨⟨mr, rfl, hm1, hm2, hm3⟩, hw2⟩; have hw2' := hw2.symm; clear hw2; subst hw2'; have HMR : Hid (mr ≤ len ∧ (∀ j, j < mr → l.getD j 0 ≠ (z : Int)) ∧ (mr < len → l.getD mr 0 = (z : Int))) := ⟨hm1, hm2, hm3⟩; clear hm1 hm2 hm3) | go_in)
                      go_roundw
                      case rel =>
                        refine ⟨i + 1, decide (mr = i), by omega, by go_num, ?_, trivial, fun h => ?_, fun h => ?_⟩
                        · by_cases e : mr = i
                          · subst e; simp
                          · have : ¬ (mr : Int) = (i : Int) := by omega
                            simp [e, this]
                        · have e := of_decide_eq_true h
                          refine ⟨HLC.out, fun j hj => ?_⟩
                          by_cases e2 : j = i
                          · subst e2
                            refine ⟨by rw [← HY.out]; omega, by rw [← HY.out]; omega, by rw [← HY.out]; simpa using HP.out, fun k hk => ?_⟩
                            rw [← HY.out]
                            exact HMR.out.2.1 k (by omega)
                          · exact HPRE.out j (by omega)
                        · have e := of_decide_eq_false h
                          refine HBAD.out (fun hh => ?_)
                          rcases Nat.lt_or_ge mr i with h1 | h1
                          · have := hh.2.2.2 mr h1
                            rw [← HY.out] at this
                            exact this (HMR.out.2.2 (by omega))
                          · exact HMR.out.2.1 i (by omega) HY.out.symm
                      case measure => simp [numOf]; omega
              | false =>
                have HF : Hid (R = (v : Int)) := by
                  show R = _
                  have := HRV.out
                  rw [if_neg (fun h => HYN.out.2 rfl (HRI.out.1 h))] at this
                  exact this
                go_wp2
                go_ret
                exact ⟨by rw [HF.out]; rfl, rfl⟩
            · have q1 : ¬ (i : Int) < (len : Int) := by omega
              have hie : i = len := by omega
              cases ok with
              | true =>
                have HF : Hid (R = rrI near (v + 1) (ls.drop (v + 1))) := by
                  show R = _
                  have := HRV.out
                  rw [if_pos (HRI.out.2 (by rw [← hie]; rw [← hie] at HYN; exact HYN.out.1 rfl))] at this
                  exact this
                clear hie
                go_wp2
                go_roundw
                case rel => exact ⟨v + 1, by omega, by go_num, trivial, HF.out⟩
                case measure => simp [numOf]; omega
              | false =>
                have HF : Hid (R = (v : Int)) := by
                  show R = _
                  have := HRV.out
                  rw [if_neg (fun h => HYN.out.2 rfl (HRI.out.1 h))] at this
                  exact this
                clear hie
                go_wp2
                go_ret
                exact ⟨by rw [HF.out]; rfl, rfl⟩
    · have hvN : v = N := by omega
      have i2 : ¬ (v : Int) < (N : Int) := by omega
      have HF : Hid (R = -1) := by
        rw [List.drop_of_length_le (by rw [HS.out.2.2]; omega)] at hRv
        exact hRv
      clear hRv hvN
      go_wp2
      go_ret
      exact ⟨by rw [HF.out]; rfl, rfl⟩
end Go.Proofs.YtekokjechbibdaaDoor
