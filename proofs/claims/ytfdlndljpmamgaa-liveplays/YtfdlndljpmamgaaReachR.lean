/- The document's Reach and Parts. -/
import Derived.Test.YtfdlndljpmamgaaKitC
import Derived.Test.YtfdlndljpmamgaaWaysM
import Derived.Test.YtfdlndljpmamgaaOfP
import Derived.Test.YtfdlndljpmamgaaGrid
import Derived.Deep.LoopGhost
namespace Go.Proofs.Ytfdlndljpmamgaa
set_option maxRecDepth 4000
open Go.RowKit Go.Maps
attribute [local go_sem ↓] Go.wp_at_zero Go.wp_at_succ
def St (N : Nat) (e : Nat → Nat → Bool) (L : Nat → Bool) (a b : Nat) : Prop := b < N ∧ e a b = true ∧ L b = true

/-- The slice sv of bools shuts the nodes that sh tells. -/
def ShutAt (w : World) (sv : Value) (N : Nat) (sh : Nat → Bool) : Prop :=
  ∃ so sn sc, sv = .slice so sn sc ∧ sn ≤ 1000 ∧ ∀ j, j < N → (j < sn ∧ ∃ b, so = some ⟨b, 0, none⟩ ∧ w.cell? ⟨b, j, none⟩ = some (.bool (sh j))) ∨ (sn ≤ j ∧ sh j = false)
theorem shutAt_nil (w : World) (N : Nat) : ShutAt w (.slice none 0 0) N (fun _ => false) := ⟨none, 0, 0, rfl, by omega, fun j _ => Or.inr ⟨Nat.zero_le _, rfl⟩⟩
theorem ShutAt.below {w w' : World} {sv : Value} {N : Nat} {sh : Nat → Bool} (h : ShutAt w sv N sh) (hb : Below w.heap.size w w') : ShutAt w' sv N sh := by
  obtain ⟨so, sn, sc, h1, h2, h3⟩ := h
  refine ⟨so, sn, sc, h1, h2, fun j hj => ?_⟩
  rcases h3 j hj with ⟨h4, b, h5, h6⟩ | h4
  · exact Or.inl ⟨h4, b, h5, by rw [hb.cell (by exact World.block_lt_of_cell? w _ h6)]; exact h6⟩
  · exact Or.inr h4
theorem shutAt_row {w : World} {b N : Nat} {sh : Nat → Bool} (h : RowB w b N sh) (hN : N ≤ 1000) : ShutAt w (.slice (some ⟨b, 0, none⟩) N N) N sh := ⟨_, _, _, rfl, hN, fun _ hj => Or.inl ⟨hj, b, rfl, h.cell hj⟩⟩

def pn (p : Int → Int → Bool) (a b : Nat) : Bool := p a b
def openB (sh : Nat → Bool) (x : Nat) : Bool := !sh x

def miss (N : Nat) (I : Nat → Bool) : Nat := ((List.range N).filter fun x => !I x).length
theorem miss_lt {N : Nat} {I J : Nat → Bool} (h : ∀ x, x < N → I x = true → J x = true) {y : Nat} (hy : y < N) (hI : I y = false) (hJ : J y = true) : miss N J < miss N I := by
  unfold miss
  refine filter_lt (y := y) (fun x hx hp => ?_) (by simpa using hy) (by simp [hJ]) (by simp [hI])
  cases hi : I x
  · rfl
  · rw [h x (by simpa using hx) hi] at hp; simp at hp
theorem miss_le {N : Nat} {I J : Nat → Bool} (h : ∀ x, x < N → I x = true → J x = true) : miss N J ≤ miss N I := by
  unfold miss
  refine filter_le (fun x hx hp => ?_)
  cases hi : I x
  · rfl
  · rw [h x (by simpa using hx) hi] at hp; simp at hp

/-- What is known of the nodes reached so far, J, in a round that began with I. -/
structure Rnd (N : Nat) (p : Int → Int → Bool) (sh : Nat → Bool) (v : Nat) (I J : Nat → Bool) (ag : Bool) : Prop where
  up : ∀ x, x < N → I x = true → J x = true
  sound : ∀ x, x < N → J x = true → Star (St N (pn p) (openB sh)) v x
  same : ag = false → ∀ x, x < N → J x = I x
  less : ag = true → miss N J < miss N I
theorem Rnd.start {N : Nat} {p : Int → Int → Bool} {sh : Nat → Bool} {v : Nat} {I : Nat → Bool} (hs : ∀ x, x < N → I x = true → Star (St N (pn p) (openB sh)) v x) : Rnd N p sh v I I false := ⟨fun _ _ h => h, hs, fun _ _ _ => rfl, fun h => by cases h⟩
theorem Rnd.put {N : Nat} {p : Int → Int → Bool} {sh : Nat → Bool} {v : Nat} {I J : Nat → Bool} {ag : Bool} (h : Rnd N p sh v I J ag) {i j : Nat} (hi : i < N) (hj : j < N) (hJi : J i = true) (hp : pn p i j = true) (hJj : J j = false) (hs : sh j = false) : Rnd N p sh v I (fun x => x == j || J x) true := by
  refine ⟨fun x hx hI => by simp [h.up x hx hI], fun x hx hJ => ?_, fun h => (by cases h), fun _ => ?_⟩
  · by_cases e : x = j
    · subst e; exact (h.sound i hi hJi).step ⟨hx, hp, by simp [openB, hs]⟩
    · exact h.sound x hx (by simpa [e] using hJ)
  · have h1 : miss N (fun x => x == j || J x) < miss N J := miss_lt (fun x _ hx => by simp [hx]) hj hJj (by simp)
    have h2 := miss_le h.up
    omega

theorem miss_congr {N : Nat} {I J : Nat → Bool} (h : ∀ x, x < N → J x = I x) : miss N J = miss N I :=
  Nat.le_antisymm (miss_le fun x hx hI => by rw [h x hx]; exact hI) (miss_le fun x hx hJ => by rw [← h x hx]; exact hJ)
def trueCell : Option Value → Bool
  | some (.bool true) => true
  | _ => false
def missW (w : World) (b N : Nat) : Nat := ((List.range N).filter fun j => !trueCell (w.cell? ⟨b, j, none⟩)).length
theorem RowB.miss {w : World} {b N : Nat} {I : Nat → Bool} (h : RowB w b N I) : missW w b N = miss N I := by
  unfold missW Ytfdlndljpmamgaa.miss
  congr 1
  refine List.filter_congr fun j hj => ?_
  rw [h.cell (by simpa using hj)]
  cases I j <;> rfl

set_option maxHeartbeats 4000000 in
theorem reach_call (N : Nat) (ao : Option Addr) (cap : Nat) (p : Int → Int → Bool) (w : World) (hG : GridAt w (.slice ao N cap) N p) (hN : N ≤ 100) {v : Nat} (hv : v < N) {sv : Value} {sh : Nat → Bool} (hsh : ShutAt w sv N sh) :
    Calls Try.prog 15 #[.slice ao N cap, .int .i64 (v : Int), sv] w fun r w' => ∃ b, r = .returned (.slice (some ⟨b, 0, none⟩) N N) ∧ w.heap.size ≤ b ∧ ∃ I : Nat → Bool, RowB w' b N I ∧ (∀ x, x < N → (I x = true ↔ Star (St N (pn p) (openB sh)) v x)) ∧ Below w.heap.size w w' := by
  obtain ⟨i0, hi, hz0, hz1, hz2⟩ := info_parts Try.info4
  obtain ⟨so, sn, sc, rfl, hsn, hsh⟩ := hsh
  obtain ⟨ao', cap', e0, hgrid⟩ := hG
  cases e0
  have HGR : Hid _ := hgrid
  have HSH : Hid _ := hsh
  clear hgrid hsh
  go_enter Try.func15, Try.ntmps15
  go_upto_region 2 with (first | (at_make; refine wpList_make_full _ rfl _ _ 49 rfl w.heap.size 4 i0 (.bool false) 1 Try.underlying49 hi hz0 hz1 .i64 .i64 _ _ N rfl rfl rfl rfl ?_ ?_ ?_ ?_; (rw [hz2]; omega); (unfold maxLen; omega); (omega); intro W1 hmade hg1) | go_in)
  have hrow0 := rowB_made hmade
  have hB1 : Below w.heap.size w W1 := (Below.refl _ _).grown hg1 (Nat.le_refl _) (fun k hk => by cases hk)
  have c0 := hrow0.cell hv
  have f0 := hrow0.free v
  have i1 : (0 : Int) ≤ (v : Int) := by omega
  have i2 : (v : Int) < (N : Int) := by omega
  clear hmade hg1
  go_wp2
  have hrow1 := hrow0.set v
  have hB2 := hB1.setCell (p := ⟨w.heap.size, v, none⟩) (Nat.le_refl _) (.bool true)
  generalize W1.setCell ⟨w.heap.size, v, none⟩ (.bool true) = W2 at hrow1 hB2 ⊢
  clear c0 f0 i1 i2 hrow0 hB1
  go_loopw [8] (fun ag wr => ∃ (I : Nat → Bool) (ab : Bool), ag = .bool ab ∧ RowB wr w.heap.size N I ∧ Below w.heap.size w wr ∧ I v = true ∧ (∀ x, x < N → I x = true → Star (St N (pn p) (openB sh)) v x) ∧ (ab = false → ∀ i j, i < N → j < N → I i = true → pn p i j = true → sh j = false → I j = true)) (fun ag wr => 2 * missW wr w.heap.size N + bnum ag)
  case atStart => exact ⟨_, true, rfl, hrow1, hB2, by simp, fun x hx hI => by simp at hI; subst hI; exact .refl _, fun h => by cases h⟩
  case round =>
    obtain ⟨I, ab, rfl, hrow, hB, hIv, hsnd, hcl⟩ := hrel
    have hmi := hrow.miss
    have HMI : Hid _ := hmi
    clear hmi
    clear hrow1 hB2
    have HIV : Hid _ := hIv
    have HSN : Hid _ := hsnd
    have HCL : Hid _ := hcl
    clear hIv hsnd hcl
    by_cases hab : ab = true
    · subst hab
      go_wp2
      go_loopw [8, 9] (fun ag i wr => ∃ (n : Nat) (J : Nat → Bool) (bb : Bool), n ≤ N ∧ ag = .bool bb ∧ i = .int .i64 (n : Int) ∧ RowB wr w.heap.size N J ∧ Below w.heap.size w wr ∧ Rnd N p sh v I J bb ∧ (bb = false → ∀ i j, i < n → j < N → I i = true → pn p i j = true → sh j = false → I j = true)) (fun _ i _ => N - (numOf i).toNat)
      case atStart => exact ⟨0, I, false, Nat.zero_le _, rfl, rfl, hrow, hB, Rnd.start HSN.out, fun _ i j h => by omega⟩
      case round =>
        obtain ⟨n, J, bb, hn, rfl, rfl, hrowJ, hBJ, hrnd, hdone⟩ := hrel
        have HRN : Hid _ := hrnd
        have HDN : Hid _ := hdone
        clear hrow hB hrnd hdone
        by_cases hnN : n < N
        · go_wp2
          go_loopw [8, 10] (fun ag i wr => ∃ (t : Nat) (K : Nat → Bool) (cb : Bool), t ≤ N ∧ ag = .bool cb ∧ i = .int .i64 (t : Int) ∧ RowB wr w.heap.size N K ∧ Below w.heap.size w wr ∧ Rnd N p sh v I K cb ∧ (cb = false → (∀ i j, i < n → j < N → I i = true → pn p i j = true → sh j = false → I j = true) ∧ ∀ j, j < t → I n = true → pn p n j = true → sh j = false → I j = true)) (fun _ i _ => N - (numOf i).toNat)
          case atStart => exact ⟨0, J, bb, Nat.zero_le _, rfl, rfl, hrowJ, hBJ, HRN.out, fun h => ⟨HDN.out h, fun j hj => by omega⟩⟩
          case round =>
            obtain ⟨t, K, cb, ht, rfl, rfl, hrowK, hBK, hrk, hdk⟩ := hrel
            have HRK : Hid _ := hrk
            have HDK : Hid _ := hdk
            clear hrowJ hBJ hrk hdk
            by_cases htN : t < N
            · obtain ⟨g, b, rfl, g0, g1⟩ := HGR.out n hnN
              have g2 := g1 t htN
              have l0 := World.block_lt_of_cell? w _ g0
              have l2 := World.block_lt_of_cell? w _ g2
              rw [← hBK.cell (by exact l0)] at g0
              rw [← hBK.cell (by exact l2)] at g2
              clear g1
              have cn := hrowK.cell hnN
              have ct := hrowK.cell htN
              have ft := hrowK.free t
              have i1 : (0 : Int) ≤ (n : Int) := by omega
              have i2 : (n : Int) < (N : Int) := by omega
              have j1 : (0 : Int) ≤ (t : Int) := by omega
              have j2 : (t : Int) < (N : Int) := by omega
              by_cases hall : K n = true ∧ p n t = true ∧ K t = false ∧ sh t = false
              · obtain ⟨h1, h2, h3, h4⟩ := hall
                have hput := HRK.out.put hnN htN h1 h2 h3 h4
                have HPU : Hid _ := hput
                rw [h1] at cn
                rw [h2] at g2
                rw [h3] at ct
                rcases HSH.out t htN with ⟨hts, b', rfl, c'⟩ | ⟨hts, _⟩
                · have l' := World.block_lt_of_cell? w _ c'
                  rw [← hBK.cell (by exact l'), h4] at c'
                  clear hput h1 h2 h3 h4
                  have k1 : (t : Int) < (sn : Int) := by omega
                  go_wp2
                  go_roundw
                  case rel => exact ⟨t + 1, _, true, by omega, rfl, by go_num, hrowK.set t, hBK.setCell (Nat.le_refl _) _, HPU.out, fun h => by cases h⟩
                  case measure => simp [numOf]; omega
                · clear hput h1 h2 h3 h4
                  have k1 : ¬ (t : Int) < (sn : Int) := by omega
                  go_wp2
                  go_roundw
                  case rel => exact ⟨t + 1, _, true, by omega, rfl, by go_num, hrowK.set t, hBK.setCell (Nat.le_refl _) _, HPU.out, fun h => by cases h⟩
                  case measure => simp [numOf]; omega
              · have hnext : cb = false → (∀ i j, i < n → j < N → I i = true → pn p i j = true → sh j = false → I j = true) ∧ ∀ j, j < t + 1 → I n = true → pn p n j = true → sh j = false → I j = true := by
                  intro h
                  obtain ⟨d1, d2⟩ := HDK.out h
                  have hsm := HRK.out.same h
                  refine ⟨d1, fun j hj hI hp hs => ?_⟩
                  by_cases e : j = t
                  · subst e
                    cases hIj : I j
                    · exact absurd ⟨(hsm n hnN).trans hI, hp, (hsm j htN).trans hIj, hs⟩ hall
                    · rfl
                  · exact d2 j (by omega) hI hp hs
                have HNX : Hid _ := hnext
                clear hnext
                by_cases h1 : K n = true
                · rw [h1] at cn
                  by_cases h2 : p n t = true
                  · rw [h2] at g2
                    by_cases h3 : K t = true
                    · rw [h3] at ct
                      clear hall h1 h2 h3
                      go_wp2
                      go_roundw
                      case rel => exact ⟨t + 1, K, cb, by omega, rfl, by go_num, hrowK, hBK, HRK.out, HNX.out⟩
                      case measure => simp [numOf]; omega
                    · have h3' : K t = false := by simpa using h3
                      have h4 : sh t = true := by
                        cases hs : sh t
                        · exact absurd ⟨h1, h2, h3', hs⟩ hall
                        · rfl
                      rw [h3'] at ct
                      rcases HSH.out t htN with ⟨hts, b', rfl, c'⟩ | ⟨hts, h5⟩
                      · have l' := World.block_lt_of_cell? w _ c'
                        rw [← hBK.cell (by exact l'), h4] at c'
                        have k1 : (t : Int) < (sn : Int) := by omega
                        clear hall h1 h2 h3 h3' h4
                        go_wp2
                        go_roundw
                        case rel => exact ⟨t + 1, K, cb, by omega, rfl, by go_num, hrowK, hBK, HRK.out, HNX.out⟩
                        case measure => simp [numOf]; omega
                      · rw [h4] at h5; cases h5
                  · have h2' : p n t = false := by simpa using h2
                    rw [h2'] at g2
                    clear hall h1 h2 h2'
                    go_wp2
                    go_roundw
                    case rel => exact ⟨t + 1, K, cb, by omega, rfl, by go_num, hrowK, hBK, HRK.out, HNX.out⟩
                    case measure => simp [numOf]; omega
                · have h1' : K n = false := by simpa using h1
                  rw [h1'] at cn
                  clear hall h1 h1'
                  go_wp2
                  go_roundw
                  case rel => exact ⟨t + 1, K, cb, by omega, rfl, by go_num, hrowK, hBK, HRK.out, HNX.out⟩
                  case measure => simp [numOf]; omega
            · have : t = N := by omega
              subst this
              go_wp2
              go_roundw
              case rel =>
                refine ⟨n + 1, K, cb, by omega, rfl, by go_num, hrowK, hBK, HRK.out, fun h i j hi hj => ?_⟩
                obtain ⟨d1, d2⟩ := HDK.out h
                by_cases e : i = n
                · subst e; exact d2 j hj
                · exact d1 i j (by omega) hj
              case measure => simp [numOf]; omega
        · go_wp2
          go_roundw
          case rel =>
            have hnE : n = N := by omega
            subst hnE
            refine ⟨J, bb, rfl, hrowJ, hBJ, HRN.out.up v hv HIV.out, HRN.out.sound, fun h i j hi hj hI hp hs => ?_⟩
            have hsm := HRN.out.same h
            rw [hsm j hj]
            rw [hsm i hi] at hI
            exact HDN.out h i j hi hj hI hp hs
          case measure =>
            rw [hrowJ.miss, HMI.out]
            cases bb
            · have hs := HRN.out.same rfl
              rw [miss_congr hs]
              show _ + 0 < _ + 1
              omega
            · have := HRN.out.less rfl
              show _ + 1 < _ + 1
              omega
    · have hab' : ab = false := by simpa using hab
      subst hab'
      clear hab
      go_wp2
      go_ret
      refine ⟨_, rfl, Nat.le_refl _, I, hrow, fun x hx => ⟨HSN.out x hx, fun hs => ?_⟩, hB⟩
      exact (Star.closed (P := fun y => y < N ∧ I y = true) (fun a b ha hab => ⟨hab.1, HCL.out (by first | rfl | trivial) a b ha.1 hab.1 ha.2 hab.2.1 (by simpa [openB] using hab.2.2)⟩) hs ⟨hv, HIV.out⟩).2
def doneL (L : Nat → Bool) (R : Nat → Nat → Bool) (k x : Nat) : Bool := (List.range k).any fun u => L u && R u x
theorem doneL_iff {L : Nat → Bool} {R : Nat → Nat → Bool} {k x : Nat} : doneL L R k x = true ↔ ∃ u, u < k ∧ L u = true ∧ R u x = true := by
  simp [doneL]
theorem doneL_succ (L : Nat → Bool) (R : Nat → Nat → Bool) (k x : Nat) : doneL L R (k + 1) x = (doneL L R k x || (L k && R k x)) := by
  unfold doneL; rw [List.range_succ, List.any_append]; simp
theorem first_done (L : Nat → Bool) (R : Nat → Nat → Bool) (k : Nat) : firstB L R k = (L k && !doneL L R k k) := by
  rw [Bool.eq_iff_iff, firstB_iff]
  simp [doneL]
theorem doneL_skip {N : Nat} {e : Nat → Nat → Bool} {L : Nat → Bool} {R : Nat → Nat → Bool} {k : Nat} (hR : ∀ v x, R v x = true ↔ Star (St N e L) v x) (hf : firstB L R k = false) (x : Nat) : doneL L R (k + 1) x = doneL L R k x := by
  rw [doneL_succ]
  cases hL : L k
  · simp
  · cases hx : R k x
    · simp
    · rw [first_done, hL] at hf
      have hd : doneL L R k k = true := by simpa using hf
      obtain ⟨u, hu, h1, h2⟩ := doneL_iff.1 hd
      have : doneL L R k x = true := doneL_iff.2 ⟨u, hu, h1, (hR u x).2 (((hR u k).1 h2).trans ((hR k x).1 hx))⟩
      simp [this]

theorem RowB.cells {w : World} {b m : Nat} {q : Nat → Bool} (h : RowB w b m q) : ∃ cur, w.heap[b]? = some (.cells cur 4 (0, 0)) := by
  obtain ⟨cur, h1, _⟩ := h; exact ⟨cur, h1⟩
def partsTo (L : Nat → Bool) (R : Nat → Nat → Bool) (k : Nat) : Nat := ((List.range k).filter (firstB L R)).length
theorem partsTo_succ (L : Nat → Bool) (R : Nat → Nat → Bool) (k : Nat) : partsTo L R (k + 1) = partsTo L R k + if firstB L R k = true then 1 else 0 := by
  unfold partsTo
  rw [List.range_succ, List.filter_append, List.length_append]
  congr 1
  by_cases h : firstB L R k = true <;> simp [h]
theorem partsTo_le (L : Nat → Bool) (R : Nat → Nat → Bool) (k : Nat) : partsTo L R k ≤ k := Nat.le_trans (List.length_filter_le _ _) (by simp)

set_option maxHeartbeats 2000000 in
theorem parts_call (N : Nat) (ao : Option Addr) (cap : Nat) (p : Int → Int → Bool) (w : World) (hG : GridAt w (.slice ao N cap) N p) (hN : N ≤ 100) {sv : Value} {sh : Nat → Bool} (hsh : ShutAt w sv N sh) (R : Nat → Nat → Bool) (hR : ∀ v x, R v x = true ↔ Star (St N (pn p) (openB sh)) v x) :
    Calls Try.prog 21 #[.slice ao N cap, sv] w fun r w' => r = .returned (.int .i64 (partsN N (openB sh) R : Int)) ∧ Below w.heap.size w w' := by
  obtain ⟨i0, hi, hz0, hz1, hz2⟩ := info_parts Try.info4
  have HG : Hid _ := hG
  have HS0 : Hid _ := hsh
  have HR : Hid _ := hR
  obtain ⟨so, sn, sc, rfl, hsn, hsh⟩ := hsh
  have HSH : Hid _ := hsh
  clear hG hsh hR
  go_enter Try.func21, Try.ntmps21
  go_wp2_with (first | (at_make; refine wpList_make_full _ rfl _ _ 49 rfl w.heap.size 4 i0 (.bool false) 1 Try.underlying49 hi hz0 hz1 .i64 .i64 _ _ N rfl rfl rfl rfl ?_ ?_ ?_ ?_; (rw [hz2]; omega); (unfold maxLen; omega); (omega); intro W1 hmade hg1) | go_in)
  have hrow0 := rowB_made hmade
  have hB0 : Below w.heap.size w W1 := (Below.refl _ _).grown hg1 (Nat.le_refl _) (fun k hk => by cases hk)
  clear hmade hg1
  go_loopw [6, 7] (fun c i wr => ∃ k : Nat, k ≤ N ∧ c = .int .i64 (partsTo (openB sh) R k : Int) ∧ i = .int .i64 (k : Int) ∧ RowB wr w.heap.size N (doneL (openB sh) R k) ∧ Below w.heap.size w wr) (fun _ i _ => N - (numOf i).toNat)
  case atStart => exact ⟨0, Nat.zero_le _, rfl, rfl, hrow0.congr (fun j _ => by simp [doneL]), hB0⟩
  case round =>
    obtain ⟨k, hk, rfl, rfl, hrow, hB⟩ := hrel
    clear hrow0 hB0
    have hpl := partsTo_le (openB sh) R k
    by_cases hkN : k < N
    · have ck := hrow.cell hkN
      have i1 : (0 : Int) ≤ (k : Int) := by omega
      have i2 : (k : Int) < (N : Int) := by omega
      by_cases hf : firstB (openB sh) R k = true
      · have hf' := hf
        rw [first_done] at hf'
        simp at hf'
        obtain ⟨h1, h2⟩ := hf'
        have h3 : sh k = false := by simpa [openB] using h1
        have HF : Hid _ := hf
        clear hf h1
        rw [h2] at ck
        rcases HSH.out k hkN with ⟨hts, b', rfl, c'⟩ | ⟨hts, _⟩
        · have l' := World.block_lt_of_cell? w _ c'
          rw [← hB.cell (by exact l'), h3] at c'
          have k1 : (k : Int) < (sn : Int) := by omega
          clear h2 h3
          go_wp2_with (first | (go_at_call 15; refine (reach_call N _ cap p _ (GridAt.below HG.out hB) hN hkN (ShutAt.below HS0.out hB)).mono ?_; rintro r wa ⟨bI, rfl, hbI, I, hrI, hI, hbA⟩) | go_in)
          have hrowA := hrow.block (hbA.block _ hrow.lt)
          have hBA := below_next hB hbA
          have hne : bI ≠ w.heap.size := by have := hrow.lt; omega
          have hIR : ∀ x, x < N → I x = R k x := fun x hx => by rw [Bool.eq_iff_iff, hI x hx, HR.out]
          have HIR : Hid _ := hIR
          clear hI hIR hrow hB hbA
          go_loopw [9] (fun i wr => ∃ t : Nat, t ≤ N ∧ i = .int .i64 (t : Int) ∧ RowB wr w.heap.size N (fun x => doneL (openB sh) R k x || (decide (x < t) && R k x)) ∧ RowB wr bI N I ∧ Below w.heap.size w wr) (fun i _ => N - (numOf i).toNat)
          case atStart => exact ⟨0, Nat.zero_le _, rfl, hrowA.congr (fun x _ => by simp), hrI, hBA⟩
          case round =>
            obtain ⟨t, ht, rfl, hrt, hrit, hBt⟩ := hrel
            clear hrowA hrI hBA
            by_cases htN : t < N
            · have ct := hrt.cell htN
              have cI := hrit.cell htN
              have ft := hrt.free t
              have et : (doneL (openB sh) R k t || (decide (t < t) && R k t)) = doneL (openB sh) R k t := by simp
              rw [et] at ct
              have j1 : (0 : Int) ≤ (t : Int) := by omega
              have j2 : (t : Int) < (N : Int) := by omega
              have hnx : ∀ b : Bool, b = (doneL (openB sh) R k t || I t) → RowB (wr.setCell ⟨w.heap.size, t, none⟩ (.bool b)) w.heap.size N (fun x => doneL (openB sh) R k x || (decide (x < t + 1) && R k x)) := fun b hb => (hrt.put t b).congr (fun x hx => by
                by_cases e : x = t
                · subst e; rw [if_pos rfl, hb, HIR.out x hx]; simp
                · rw [if_neg e]
                  have : decide (x < t + 1) = decide (x < t) := by rw [Bool.eq_iff_iff]; simp; omega
                  rw [this])
              have HNX : Hid _ := hnx
              clear hnx et
              by_cases hd : doneL (openB sh) R k t = true
              · rw [hd] at ct
                have HD : Hid _ := hd
                clear hd
                go_wp2
                go_roundw
                case rel => exact ⟨t + 1, by omega, by go_num, HNX.out true (by rw [HD.out]; rfl), hrit.turns (setCell_turns _ _ _ _) hne, hBt.setCell (Nat.le_refl _) _⟩
                case measure => simp [numOf]; omega
              · have hd' : doneL (openB sh) R k t = false := by simpa using hd
                rw [hd'] at ct
                have HD : Hid _ := hd'
                clear hd hd'
                go_wp2
                go_roundw
                case rel => exact ⟨t + 1, by omega, by go_num, HNX.out (I t) (by rw [HD.out]; rfl), hrit.turns (setCell_turns _ _ _ _) hne, hBt.setCell (Nat.le_refl _) _⟩
                case measure => simp [numOf]; omega
            · go_wp2
              go_roundw
              case rel =>
                have htE : t = N := by omega
                subst htE
                refine ⟨k + 1, by omega, by rw [partsTo_succ, if_pos HF.out]; go_num, by go_num, hrt.congr (fun x hx => ?_), hBt⟩
                have hL : openB sh k = true := (firstB_iff.1 HF.out).1
                rw [doneL_succ, hL]
                simp [hx]
              case measure => simp [numOf]; omega
        · have k1 : ¬ (k : Int) < (sn : Int) := by omega
          clear h2 h3
          go_wp2_with (first | (go_at_call 15; refine (reach_call N _ cap p _ (GridAt.below HG.out hB) hN hkN (ShutAt.below HS0.out hB)).mono ?_; rintro r wa ⟨bI, rfl, hbI, I, hrI, hI, hbA⟩) | go_in)
          have hrowA := hrow.block (hbA.block _ hrow.lt)
          have hBA := below_next hB hbA
          have hne : bI ≠ w.heap.size := by have := hrow.lt; omega
          have hIR : ∀ x, x < N → I x = R k x := fun x hx => by rw [Bool.eq_iff_iff, hI x hx, HR.out]
          have HIR : Hid _ := hIR
          clear hI hIR hrow hB hbA
          go_loopw [9] (fun i wr => ∃ t : Nat, t ≤ N ∧ i = .int .i64 (t : Int) ∧ RowB wr w.heap.size N (fun x => doneL (openB sh) R k x || (decide (x < t) && R k x)) ∧ RowB wr bI N I ∧ Below w.heap.size w wr) (fun i _ => N - (numOf i).toNat)
          case atStart => exact ⟨0, Nat.zero_le _, rfl, hrowA.congr (fun x _ => by simp), hrI, hBA⟩
          case round =>
            obtain ⟨t, ht, rfl, hrt, hrit, hBt⟩ := hrel
            clear hrowA hrI hBA
            by_cases htN : t < N
            · have ct := hrt.cell htN
              have cI := hrit.cell htN
              have ft := hrt.free t
              have et : (doneL (openB sh) R k t || (decide (t < t) && R k t)) = doneL (openB sh) R k t := by simp
              rw [et] at ct
              have j1 : (0 : Int) ≤ (t : Int) := by omega
              have j2 : (t : Int) < (N : Int) := by omega
              have hnx : ∀ b : Bool, b = (doneL (openB sh) R k t || I t) → RowB (wr.setCell ⟨w.heap.size, t, none⟩ (.bool b)) w.heap.size N (fun x => doneL (openB sh) R k x || (decide (x < t + 1) && R k x)) := fun b hb => (hrt.put t b).congr (fun x hx => by
                by_cases e : x = t
                · subst e; rw [if_pos rfl, hb, HIR.out x hx]; simp
                · rw [if_neg e]
                  have : decide (x < t + 1) = decide (x < t) := by rw [Bool.eq_iff_iff]; simp; omega
                  rw [this])
              have HNX : Hid _ := hnx
              clear hnx et
              by_cases hd : doneL (openB sh) R k t = true
              · rw [hd] at ct
                have HD : Hid _ := hd
                clear hd
                go_wp2
                go_roundw
                case rel => exact ⟨t + 1, by omega, by go_num, HNX.out true (by rw [HD.out]; rfl), hrit.turns (setCell_turns _ _ _ _) hne, hBt.setCell (Nat.le_refl _) _⟩
                case measure => simp [numOf]; omega
              · have hd' : doneL (openB sh) R k t = false := by simpa using hd
                rw [hd'] at ct
                have HD : Hid _ := hd'
                clear hd hd'
                go_wp2
                go_roundw
                case rel => exact ⟨t + 1, by omega, by go_num, HNX.out (I t) (by rw [HD.out]; rfl), hrit.turns (setCell_turns _ _ _ _) hne, hBt.setCell (Nat.le_refl _) _⟩
                case measure => simp [numOf]; omega
            · go_wp2
              go_roundw
              case rel =>
                have htE : t = N := by omega
                subst htE
                refine ⟨k + 1, by omega, by rw [partsTo_succ, if_pos HF.out]; go_num, by go_num, hrt.congr (fun x hx => ?_), hBt⟩
                have hL : openB sh k = true := (firstB_iff.1 HF.out).1
                rw [doneL_succ, hL]
                simp [hx]
              case measure => simp [numOf]; omega
      · have hf' : firstB (openB sh) R k = false := by simpa using hf
        have hrow' := hrow.congr (fun j _ => (doneL_skip HR.out hf' j).symm)
        have hp' : partsTo (openB sh) R (k + 1) = partsTo (openB sh) R k := by rw [partsTo_succ, if_neg hf]; rfl
        have HRW : Hid _ := hrow'
        have HPP : Hid _ := hp'
        clear hrow' hp'
        by_cases hd : doneL (openB sh) R k k = true
        · rw [hd] at ck
          clear hf hf' hd
          go_wp2
          go_roundw
          case rel => exact ⟨k + 1, by omega, by rw [HPP.out], by go_num, HRW.out, hB⟩
          case measure => simp [numOf]; omega
        · have hd' : doneL (openB sh) R k k = false := by simpa using hd
          have h4 : sh k = true := by
            rw [first_done, hd'] at hf'
            simpa [openB] using hf'
          rw [hd'] at ck
          rcases HSH.out k hkN with ⟨hts, b', rfl, c'⟩ | ⟨hts, h5⟩
          · have l' := World.block_lt_of_cell? w _ c'
            rw [← hB.cell (by exact l'), h4] at c'
            have k1 : (k : Int) < (sn : Int) := by omega
            clear hf hf' hd hd' h4
            go_wp2
            go_roundw
            case rel => exact ⟨k + 1, by omega, by rw [HPP.out], by go_num, HRW.out, hB⟩
            case measure => simp [numOf]; omega
          · rw [h4] at h5; cases h5
    · have : k = N := by omega
      subst this
      go_wp2
      go_ret
      exact ⟨rfl, hB⟩
end Go.Proofs.Ytfdlndljpmamgaa
