/- The document's Reach and Parts. A ring without a chord as a set of nodes: each has just two others near it, and it hangs together. Three nodes that can be gone round. Plain mathematics. The document's Stars: three nodes that can be gone round. The document's Hole: a ring of four nodes or more without a chord, by all sets of nodes. -/
import Derived.Test.YtkkfjfphmlcieaaGreatKitC
import Derived.Test.YtkkfjfphmlcieaaGreatWays
import Derived.Test.YtkkfjfphmlcieaaGreatBlocks
import Derived.Test.YtkkfjfphmlcieaaGreatParts
import Derived.Test.YtkkfjfphmlcieaaGreatGrid
import Derived.Deep.LoopGhost
import Derived.Test.YtkkfjfphmlcieaaGreatBolandW
import Derived.Test.YtkkfjfphmlcieaaGreatOfQ
import Derived.Test.YtkkfjfphmlcieaaGreatCompTW
import Derived.BigQuiet
namespace Go.Proofs.YtkkfjfphmlcieaaGreat
set_option maxRecDepth 4000
open Go.RowKit Go.Maps
attribute [local go_sem ↓] Go.wp_at_zero Go.wp_at_succ
def St (N : Nat) (e : Nat → Nat → Bool) (L : Nat → Bool) (a b : Nat) : Prop := b < N ∧ e a b = true ∧ L b = true

/-- The slice sv of bools shuts the nodes that sh tells. -/
def ShutAt (w : World) (sv : Value) (N : Nat) (sh : Nat → Bool) : Prop :=
  ∃ so sn sc, sv = .slice so sn sc ∧ sn ≤ 1000 ∧ ∀ j, j < N → (j < sn ∧ ∃ b, so = some ⟨b, 0, none⟩ ∧ w.cell? ⟨b, j, none⟩ = some (.bool (sh j))) ∨ (sn ≤ j ∧ sh j = false)
theorem shutAt_nil (w : World) (N : Nat) : ShutAt w (.slice none 0 0) N (fun _ => false) := ⟨none, 0, 0, rfl, by omega, fun j _ => Or.inr ⟨Nat.zero_le _, rfl⟩⟩
theorem ShutAt.below {w w' : World} {sv : Value} {N : Nat} {sh : Nat → Bool} (h : ShutAt w sv N sh) (hb : Below w.heap.size w w') : ShutAt w' sv N sh := by
  obtain ⟨so, sn, sc, h1, h2, h3⟩ := h
  refine ⟨so, sn, sc, h1, h2, fun j hj => ?_⟩
  rcases h3 j hj with ⟨h4, b, h5, h6⟩ | h4
  · exact Or.inl ⟨h4, b, h5, by rw [hb.cell (by exact World.block_lt_of_cell? w _ h6)]; exact h6⟩
  · exact Or.inr h4
theorem shutAt_row {w : World} {b N : Nat} {sh : Nat → Bool} (h : RowB w b N sh) (hN : N ≤ 1000) : ShutAt w (.slice (some ⟨b, 0, none⟩) N N) N sh := ⟨_, _, _, rfl, hN, fun _ hj => Or.inl ⟨hj, b, rfl, h.cell hj⟩⟩

def pn (p : Int → Int → Bool) (a b : Nat) : Bool := p a b
def openB (sh : Nat → Bool) (x : Nat) : Bool := !sh x

def miss (N : Nat) (I : Nat → Bool) : Nat := ((List.range N).filter fun x => !I x).length
theorem miss_lt {N : Nat} {I J : Nat → Bool} (h : ∀ x, x < N → I x = true → J x = true) {y : Nat} (hy : y < N) (hI : I y = false) (hJ : J y = true) : miss N J < miss N I := by
  unfold miss
  refine filter_lt (y := y) (fun x hx hp => ?_) (by simpa using hy) (by simp [hJ]) (by simp [hI])
  cases hi : I x
  · rfl
  · rw [h x (by simpa using hx) hi] at hp; simp at hp
theorem miss_le {N : Nat} {I J : Nat → Bool} (h : ∀ x, x < N → I x = true → J x = true) : miss N J ≤ miss N I := by
  unfold miss
  refine filter_le (fun x hx hp => ?_)
  cases hi : I x
  · rfl
  · rw [h x (by simpa using hx) hi] at hp; simp at hp

/-- What is known of the nodes reached so far, J, in a round that began with I. -/
structure Rnd (N : Nat) (p : Int → Int → Bool) (sh : Nat → Bool) (v : Nat) (I J : Nat → Bool) (ag : Bool) : Prop where
  up : ∀ x, x < N → I x = true → J x = true
  sound : ∀ x, x < N → J x = true → Star (St N (pn p) (openB sh)) v x
  same : ag = false → ∀ x, x < N → J x = I x
  less : ag = true → miss N J < miss N I
theorem Rnd.start {N : Nat} {p : Int → Int → Bool} {sh : Nat → Bool} {v : Nat} {I : Nat → Bool} (hs : ∀ x, x < N → I x = true → Star (St N (pn p) (openB sh)) v x) : Rnd N p sh v I I false := ⟨fun _ _ h => h, hs, fun _ _ _ => rfl, fun h => by cases h⟩
theorem Rnd.put {N : Nat} {p : Int → Int → Bool} {sh : Nat → Bool} {v : Nat} {I J : Nat → Bool} {ag : Bool} (h : Rnd N p sh v I J ag) {i j : Nat} (hi : i < N) (hj : j < N) (hJi : J i = true) (hp : pn p i j = true) (hJj : J j = false) (hs : sh j = false) : Rnd N p sh v I (fun x => x == j || J x) true := by
  refine ⟨fun x hx hI => by simp [h.up x hx hI], fun x hx hJ => ?_, fun h => (by cases h), fun _ => ?_⟩
  · by_cases e : x = j
    · subst e; exact (h.sound i hi hJi).step ⟨hx, hp, by simp [openB, hs]⟩
    · exact h.sound x hx (by simpa [e] using hJ)
  · have h1 : miss N (fun x => x == j || J x) < miss N J := miss_lt (fun x _ hx => by simp [hx]) hj hJj (by simp)
    have h2 := miss_le h.up
    omega

theorem miss_congr {N : Nat} {I J : Nat → Bool} (h : ∀ x, x < N → J x = I x) : miss N J = miss N I :=
  Nat.le_antisymm (miss_le fun x hx hI => by rw [h x hx]; exact hI) (miss_le fun x hx hJ => by rw [← h x hx]; exact hJ)
def trueCell : Option Value → Bool
  | some (.bool true) => true
  | _ => false
def missW (w : World) (b N : Nat) : Nat := ((List.range N).filter fun j => !trueCell (w.cell? ⟨b, j, none⟩)).length
theorem RowB.miss {w : World} {b N : Nat} {I : Nat → Bool} (h : RowB w b N I) : missW w b N = miss N I := by
  unfold missW YtkkfjfphmlcieaaGreat.miss
  congr 1
  refine List.filter_congr fun j hj => ?_
  rw [h.cell (by simpa using hj)]
  cases I j <;> rfl

set_option maxHeartbeats 4000000 in
theorem reach_call (N : Nat) (ao : Option Addr) (cap : Nat) (p : Int → Int → Bool) (w : World) (hG : GridAt w (.slice ao N cap) N p) (hN : N ≤ 100) {v : Nat} (hv : v < N) {sv : Value} {sh : Nat → Bool} (hsh : ShutAt w sv N sh) :
    Calls Tryz.prog 28 #[.slice ao N cap, .int .i64 (v : Int), sv] w fun r w' => ∃ b, r = .returned (.slice (some ⟨b, 0, none⟩) N N) ∧ w.heap.size ≤ b ∧ ∃ I : Nat → Bool, RowB w' b N I ∧ (∀ x, x < N → (I x = true ↔ Star (St N (pn p) (openB sh)) v x)) ∧ Below w.heap.size w w' := by
  obtain ⟨i0, hi, hz0, hz1, hz2⟩ := info_parts Tryz.info4
  obtain ⟨so, sn, sc, rfl, hsn, hsh⟩ := hsh
  obtain ⟨ao', cap', e0, hgrid⟩ := hG
  cases e0
  have HGR : Hid _ := hgrid
  have HSH : Hid _ := hsh
  clear hgrid hsh
  go_enter Tryz.func28, Tryz.ntmps28
  go_upto_region 2 with (first | (at_make; refine wpList_make_full _ rfl _ _ 39 rfl w.heap.size 4 i0 (.bool false) 1 Tryz.underlying39 hi hz0 hz1 .i64 .i64 _ _ N rfl rfl rfl rfl ?_ ?_ ?_ ?_; (rw [hz2]; omega); (unfold maxLen; omega); (omega); intro W1 hmade hg1) | go_in)
  have hrow0 := rowB_made hmade
  have hB1 : Below w.heap.size w W1 := (Below.refl _ _).grown hg1 (Nat.le_refl _) (fun k hk => by cases hk)
  have c0 := hrow0.cell hv
  have f0 := hrow0.free v
  have i1 : (0 : Int) ≤ (v : Int) := by omega
  have i2 : (v : Int) < (N : Int) := by omega
  clear hmade hg1
  go_wp2
  have hrow1 := hrow0.set v
  have hB2 := hB1.setCell (p := ⟨w.heap.size, v, none⟩) (Nat.le_refl _) (.bool true)
  generalize W1.setCell ⟨w.heap.size, v, none⟩ (.bool true) = W2 at hrow1 hB2 ⊢
  clear c0 f0 i1 i2 hrow0 hB1
  go_loopw [8] (fun ag wr => ∃ (I : Nat → Bool) (ab : Bool), ag = .bool ab ∧ RowB wr w.heap.size N I ∧ Below w.heap.size w wr ∧ I v = true ∧ (∀ x, x < N → I x = true → Star (St N (pn p) (openB sh)) v x) ∧ (ab = false → ∀ i j, i < N → j < N → I i = true → pn p i j = true → sh j = false → I j = true)) (fun ag wr => 2 * missW wr w.heap.size N + bnum ag)
  case atStart => exact ⟨_, true, rfl, hrow1, hB2, by simp, fun x hx hI => by simp at hI; subst hI; exact .refl _, fun h => by cases h⟩
  case round =>
    obtain ⟨I, ab, rfl, hrow, hB, hIv, hsnd, hcl⟩ := hrel
    have hmi := hrow.miss
    have HMI : Hid _ := hmi
    clear hmi
    clear hrow1 hB2
    have HIV : Hid _ := hIv
    have HSN : Hid _ := hsnd
    have HCL : Hid _ := hcl
    clear hIv hsnd hcl
    by_cases hab : ab = true
    · subst hab
      go_wp2
      go_loopw [8, 9] (fun ag i wr => ∃ (n : Nat) (J : Nat → Bool) (bb : Bool), n ≤ N ∧ ag = .bool bb ∧ i = .int .i64 (n : Int) ∧ RowB wr w.heap.size N J ∧ Below w.heap.size w wr ∧ Rnd N p sh v I J bb ∧ (bb = false → ∀ i j, i < n → j < N → I i = true → pn p i j = true → sh j = false → I j = true)) (fun _ i _ => N - (numOf i).toNat)
      case atStart => exact ⟨0, I, false, Nat.zero_le _, rfl, rfl, hrow, hB, Rnd.start HSN.out, fun _ i j h => by omega⟩
      case round =>
        obtain ⟨n, J, bb, hn, rfl, rfl, hrowJ, hBJ, hrnd, hdone⟩ := hrel
        have HRN : Hid _ := hrnd
        have HDN : Hid _ := hdone
        clear hrow hB hrnd hdone
        by_cases hnN : n < N
        · go_wp2
          go_loopw [8, 10] (fun ag i wr => ∃ (t : Nat) (K : Nat → Bool) (cb : Bool), t ≤ N ∧ ag = .bool cb ∧ i = .int .i64 (t : Int) ∧ RowB wr w.heap.size N K ∧ Below w.heap.size w wr ∧ Rnd N p sh v I K cb ∧ (cb = false → (∀ i j, i < n → j < N → I i = true → pn p i j = true → sh j = false → I j = true) ∧ ∀ j, j < t → I n = true → pn p n j = true → sh j = false → I j = true)) (fun _ i _ => N - (numOf i).toNat)
          case atStart => exact ⟨0, J, bb, Nat.zero_le _, rfl, rfl, hrowJ, hBJ, HRN.out, fun h => ⟨HDN.out h, fun j hj => by omega⟩⟩
          case round =>
            obtain ⟨t, K, cb, ht, rfl, rfl, hrowK, hBK, hrk, hdk⟩ := hrel
            have HRK : Hid _ := hrk
            have HDK : Hid _ := hdk
            clear hrowJ hBJ hrk hdk
            by_cases htN : t < N
            · obtain ⟨g, b, rfl, g0, g1⟩ := HGR.out n hnN
              have g2 := g1 t htN
              have l0 := World.block_lt_of_cell? w _ g0
              have l2 := World.block_lt_of_cell? w _ g2
              rw [← hBK.cell (by exact l0)] at g0
              rw [← hBK.cell (by exact l2)] at g2
              clear g1
              have cn := hrowK.cell hnN
              have ct := hrowK.cell htN
              have ft := hrowK.free t
              have i1 : (0 : Int) ≤ (n : Int) := by omega
              have i2 : (n : Int) < (N : Int) := by omega
              have j1 : (0 : Int) ≤ (t : Int) := by omega
              have j2 : (t : Int) < (N : Int) := by omega
              by_cases hall : K n = true ∧ p n t = true ∧ K t = false ∧ sh t = false
              · obtain ⟨h1, h2, h3, h4⟩ := hall
                have hput := HRK.out.put hnN htN h1 h2 h3 h4
                have HPU : Hid _ := hput
                rw [h1] at cn
                rw [h2] at g2
                rw [h3] at ct
                rcases HSH.out t htN with ⟨hts, b', rfl, c'⟩ | ⟨hts, _⟩
                · have l' := World.block_lt_of_cell? w _ c'
                  rw [← hBK.cell (by exact l'), h4] at c'
                  clear hput h1 h2 h3 h4
                  have k1 : (t : Int) < (sn : Int) := by omega
                  go_wp2
                  go_roundw
                  case rel => exact ⟨t + 1, _, true, by omega, rfl, by go_num, hrowK.set t, hBK.setCell (Nat.le_refl _) _, HPU.out, fun h => by cases h⟩
                  case measure => simp [numOf]; omega
                · clear hput h1 h2 h3 h4
                  have k1 : ¬ (t : Int) < (sn : Int) := by omega
                  go_wp2
                  go_roundw
                  case rel => exact ⟨t + 1, _, true, by omega, rfl, by go_num, hrowK.set t, hBK.setCell (Nat.le_refl _) _, HPU.out, fun h => by cases h⟩
                  case measure => simp [numOf]; omega
              · have hnext : cb = false → (∀ i j, i < n → j < N → I i = true → pn p i j = true → sh j = false → I j = true) ∧ ∀ j, j < t + 1 → I n = true → pn p n j = true → sh j = false → I j = true := by
                  intro h
                  obtain ⟨d1, d2⟩ := HDK.out h
                  have hsm := HRK.out.same h
                  refine ⟨d1, fun j hj hI hp hs => ?_⟩
                  by_cases e : j = t
                  · subst e
                    cases hIj : I j
                    · exact absurd ⟨(hsm n hnN).trans hI, hp, (hsm j htN).trans hIj, hs⟩ hall
                    · rfl
                  · exact d2 j (by omega) hI hp hs
                have HNX : Hid _ := hnext
                clear hnext
                by_cases h1 : K n = true
                · rw [h1] at cn
                  by_cases h2 : p n t = true
                  · rw [h2] at g2
                    by_cases h3 : K t = true
                    · rw [h3] at ct
                      clear hall h1 h2 h3
                      go_wp2
                      go_roundw
                      case rel => exact ⟨t + 1, K, cb, by omega, rfl, by go_num, hrowK, hBK, HRK.out, HNX.out⟩
                      case measure => simp [numOf]; omega
                    · have h3' : K t = false := by simpa using h3
                      have h4 : sh t = true := by
                        cases hs : sh t
                        · exact absurd ⟨h1, h2, h3', hs⟩ hall
                        · rfl
                      rw [h3'] at ct
                      rcases HSH.out t htN with ⟨hts, b', rfl, c'⟩ | ⟨hts, h5⟩
                      · have l' := World.block_lt_of_cell? w _ c'
                        rw [← hBK.cell (by exact l'), h4] at c'
                        have k1 : (t : Int) < (sn : Int) := by omega
                        clear hall h1 h2 h3 h3' h4
                        go_wp2
                        go_roundw
                        case rel => exact ⟨t + 1, K, cb, by omega, rfl, by go_num, hrowK, hBK, HRK.out, HNX.out⟩
                        case measure => simp [numOf]; omega
                      · rw [h4] at h5; cases h5
                  · have h2' : p n t = false := by simpa using h2
                    rw [h2'] at g2
                    clear hall h1 h2 h2'
                    go_wp2
                    go_roundw
                    case rel => exact ⟨t + 1, K, cb, by omega, rfl, by go_num, hrowK, hBK, HRK.out, HNX.out⟩
                    case measure => simp [numOf]; omega
                · have h1' : K n = false := by simpa using h1
                  rw [h1'] at cn
                  clear hall h1 h1'
                  go_wp2
                  go_roundw
                  case rel => exact ⟨t + 1, K, cb, by omega, rfl, by go_num, hrowK, hBK, HRK.out, HNX.out⟩
                  case measure => simp [numOf]; omega
            · have : t = N := by omega
              subst this
              go_wp2
              go_roundw
              case rel =>
                refine ⟨n + 1, K, cb, by omega, rfl, by go_num, hrowK, hBK, HRK.out, fun h i j hi hj => ?_⟩
                obtain ⟨d1, d2⟩ := HDK.out h
                by_cases e : i = n
                · subst e; exact d2 j hj
                · exact d1 i j (by omega) hj
              case measure => simp [numOf]; omega
        · go_wp2
          go_roundw
          case rel =>
            have hnE : n = N := by omega
            subst hnE
            refine ⟨J, bb, rfl, hrowJ, hBJ, HRN.out.up v hv HIV.out, HRN.out.sound, fun h i j hi hj hI hp hs => ?_⟩
            have hsm := HRN.out.same h
            rw [hsm j hj]
            rw [hsm i hi] at hI
            exact HDN.out h i j hi hj hI hp hs
          case measure =>
            rw [hrowJ.miss, HMI.out]
            cases bb
            · have hs := HRN.out.same rfl
              rw [miss_congr hs]
              show _ + 0 < _ + 1
              omega
            · have := HRN.out.less rfl
              show _ + 1 < _ + 1
              omega
    · have hab' : ab = false := by simpa using hab
      subst hab'
      clear hab
      go_wp2
      go_ret
      refine ⟨_, rfl, Nat.le_refl _, I, hrow, fun x hx => ⟨HSN.out x hx, fun hs => ?_⟩, hB⟩
      exact (Star.closed (P := fun y => y < N ∧ I y = true) (fun a b ha hab => ⟨hab.1, HCL.out (by first | rfl | trivial) a b ha.1 hab.1 ha.2 hab.2.1 (by simpa [openB] using hab.2.2)⟩) hs ⟨hv, HIV.out⟩).2
def doneL (L : Nat → Bool) (R : Nat → Nat → Bool) (k x : Nat) : Bool := (List.range k).any fun u => L u && R u x
theorem doneL_iff {L : Nat → Bool} {R : Nat → Nat → Bool} {k x : Nat} : doneL L R k x = true ↔ ∃ u, u < k ∧ L u = true ∧ R u x = true := by
  simp [doneL]
theorem doneL_succ (L : Nat → Bool) (R : Nat → Nat → Bool) (k x : Nat) : doneL L R (k + 1) x = (doneL L R k x || (L k && R k x)) := by
  unfold doneL; rw [List.range_succ, List.any_append]; simp
theorem first_done (L : Nat → Bool) (R : Nat → Nat → Bool) (k : Nat) : firstB L R k = (L k && !doneL L R k k) := by
  rw [Bool.eq_iff_iff, firstB_iff]
  simp [doneL]
theorem doneL_skip {N : Nat} {e : Nat → Nat → Bool} {L : Nat → Bool} {R : Nat → Nat → Bool} {k : Nat} (hR : ∀ v x, R v x = true ↔ Star (St N e L) v x) (hf : firstB L R k = false) (x : Nat) : doneL L R (k + 1) x = doneL L R k x := by
  rw [doneL_succ]
  cases hL : L k
  · simp
  · cases hx : R k x
    · simp
    · rw [first_done, hL] at hf
      have hd : doneL L R k k = true := by simpa using hf
      obtain ⟨u, hu, h1, h2⟩ := doneL_iff.1 hd
      have : doneL L R k x = true := doneL_iff.2 ⟨u, hu, h1, (hR u x).2 (((hR u k).1 h2).trans ((hR k x).1 hx))⟩
      simp [this]

theorem RowB.cells {w : World} {b m : Nat} {q : Nat → Bool} (h : RowB w b m q) : ∃ cur, w.heap[b]? = some (.cells cur 4 (0, 0)) := by
  obtain ⟨cur, h1, _⟩ := h; exact ⟨cur, h1⟩
def partsTo (L : Nat → Bool) (R : Nat → Nat → Bool) (k : Nat) : Nat := ((List.range k).filter (firstB L R)).length
theorem partsTo_succ (L : Nat → Bool) (R : Nat → Nat → Bool) (k : Nat) : partsTo L R (k + 1) = partsTo L R k + if firstB L R k = true then 1 else 0 := by
  unfold partsTo
  rw [List.range_succ, List.filter_append, List.length_append]
  congr 1
  by_cases h : firstB L R k = true <;> simp [h]
theorem partsTo_le (L : Nat → Bool) (R : Nat → Nat → Bool) (k : Nat) : partsTo L R k ≤ k := Nat.le_trans (List.length_filter_le _ _) (by simp)

set_option maxHeartbeats 2000000 in
theorem parts_call (N : Nat) (ao : Option Addr) (cap : Nat) (p : Int → Int → Bool) (w : World) (hG : GridAt w (.slice ao N cap) N p) (hN : N ≤ 100) {sv : Value} {sh : Nat → Bool} (hsh : ShutAt w sv N sh) (R : Nat → Nat → Bool) (hR : ∀ v x, R v x = true ↔ Star (St N (pn p) (openB sh)) v x) :
    Calls Tryz.prog 29 #[.slice ao N cap, sv] w fun r w' => r = .returned (.int .i64 (partsN N (openB sh) R : Int)) ∧ Below w.heap.size w w' := by
  obtain ⟨i0, hi, hz0, hz1, hz2⟩ := info_parts Tryz.info4
  have HG : Hid _ := hG
  have HS0 : Hid _ := hsh
  have HR : Hid _ := hR
  obtain ⟨so, sn, sc, rfl, hsn, hsh⟩ := hsh
  have HSH : Hid _ := hsh
  clear hG hsh hR
  go_enter Tryz.func29, Tryz.ntmps29
  go_wp2_with (first | (at_make; refine wpList_make_full _ rfl _ _ 39 rfl w.heap.size 4 i0 (.bool false) 1 Tryz.underlying39 hi hz0 hz1 .i64 .i64 _ _ N rfl rfl rfl rfl ?_ ?_ ?_ ?_; (rw [hz2]; omega); (unfold maxLen; omega); (omega); intro W1 hmade hg1) | go_in)
  have hrow0 := rowB_made hmade
  have hB0 : Below w.heap.size w W1 := (Below.refl _ _).grown hg1 (Nat.le_refl _) (fun k hk => by cases hk)
  clear hmade hg1
  go_loopw [6, 7] (fun c i wr => ∃ k : Nat, k ≤ N ∧ c = .int .i64 (partsTo (openB sh) R k : Int) ∧ i = .int .i64 (k : Int) ∧ RowB wr w.heap.size N (doneL (openB sh) R k) ∧ Below w.heap.size w wr) (fun _ i _ => N - (numOf i).toNat)
  case atStart => exact ⟨0, Nat.zero_le _, rfl, rfl, hrow0.congr (fun j _ => by simp [doneL]), hB0⟩
  case round =>
    obtain ⟨k, hk, rfl, rfl, hrow, hB⟩ := hrel
    clear hrow0 hB0
    have hpl := partsTo_le (openB sh) R k
    by_cases hkN : k < N
    · have ck := hrow.cell hkN
      have i1 : (0 : Int) ≤ (k : Int) := by omega
      have i2 : (k : Int) < (N : Int) := by omega
      by_cases hf : firstB (openB sh) R k = true
      · have hf' := hf
        rw [first_done] at hf'
        simp at hf'
        obtain ⟨h1, h2⟩ := hf'
        have h3 : sh k = false := by simpa [openB] using h1
        have HF : Hid _ := hf
        clear hf h1
        rw [h2] at ck
        rcases HSH.out k hkN with ⟨hts, b', rfl, c'⟩ | ⟨hts, _⟩
        · have l' := World.block_lt_of_cell? w _ c'
          rw [← hB.cell (by exact l'), h3] at c'
          have k1 : (k : Int) < (sn : Int) := by omega
          clear h2 h3
          go_wp2_with (first | (go_at_call 28; refine (reach_call N _ cap p _ (GridAt.below HG.out hB) hN hkN (ShutAt.below HS0.out hB)).mono ?_; rintro r wa ⟨bI, rfl, hbI, I, hrI, hI, hbA⟩) | go_in)
          have hrowA := hrow.block (hbA.block _ hrow.lt)
          have hBA := below_next hB hbA
          have hne : bI ≠ w.heap.size := by have := hrow.lt; omega
          have hIR : ∀ x, x < N → I x = R k x := fun x hx => by rw [Bool.eq_iff_iff, hI x hx, HR.out]
          have HIR : Hid _ := hIR
          clear hI hIR hrow hB hbA
          go_loopw [9] (fun i wr => ∃ t : Nat, t ≤ N ∧ i = .int .i64 (t : Int) ∧ RowB wr w.heap.size N (fun x => doneL (openB sh) R k x || (decide (x < t) && R k x)) ∧ RowB wr bI N I ∧ Below w.heap.size w wr) (fun i _ => N - (numOf i).toNat)
          case atStart => exact ⟨0, Nat.zero_le _, rfl, hrowA.congr (fun x _ => by simp), hrI, hBA⟩
          case round =>
            obtain ⟨t, ht, rfl, hrt, hrit, hBt⟩ := hrel
            clear hrowA hrI hBA
            by_cases htN : t < N
            · have ct := hrt.cell htN
              have cI := hrit.cell htN
              have ft := hrt.free t
              have et : (doneL (openB sh) R k t || (decide (t < t) && R k t)) = doneL (openB sh) R k t := by simp
              rw [et] at ct
              have j1 : (0 : Int) ≤ (t : Int) := by omega
              have j2 : (t : Int) < (N : Int) := by omega
              have hnx : ∀ b : Bool, b = (doneL (openB sh) R k t || I t) → RowB (wr.setCell ⟨w.heap.size, t, none⟩ (.bool b)) w.heap.size N (fun x => doneL (openB sh) R k x || (decide (x < t + 1) && R k x)) := fun b hb => (hrt.put t b).congr (fun x hx => by
                by_cases e : x = t
                · subst e; rw [if_pos rfl, hb, HIR.out x hx]; simp
                · rw [if_neg e]
                  have : decide (x < t + 1) = decide (x < t) := by rw [Bool.eq_iff_iff]; simp; omega
                  rw [this])
              have HNX : Hid _ := hnx
              clear hnx et
              by_cases hd : doneL (openB sh) R k t = true
              · rw [hd] at ct
                have HD : Hid _ := hd
                clear hd
                go_wp2
                go_roundw
                case rel => exact ⟨t + 1, by omega, by go_num, HNX.out true (by rw [HD.out]; rfl), hrit.turns (setCell_turns _ _ _ _) hne, hBt.setCell (Nat.le_refl _) _⟩
                case measure => simp [numOf]; omega
              · have hd' : doneL (openB sh) R k t = false := by simpa using hd
                rw [hd'] at ct
                have HD : Hid _ := hd'
                clear hd hd'
                go_wp2
                go_roundw
                case rel => exact ⟨t + 1, by omega, by go_num, HNX.out (I t) (by rw [HD.out]; rfl), hrit.turns (setCell_turns _ _ _ _) hne, hBt.setCell (Nat.le_refl _) _⟩
                case measure => simp [numOf]; omega
            · go_wp2
              go_roundw
              case rel =>
                have htE : t = N := by omega
                subst htE
                refine ⟨k + 1, by omega, by rw [partsTo_succ, if_pos HF.out]; go_num, by go_num, hrt.congr (fun x hx => ?_), hBt⟩
                have hL : openB sh k = true := (firstB_iff.1 HF.out).1
                rw [doneL_succ, hL]
                simp [hx]
              case measure => simp [numOf]; omega
        · have k1 : ¬ (k : Int) < (sn : Int) := by omega
          clear h2 h3
          go_wp2_with (first | (go_at_call 28; refine (reach_call N _ cap p _ (GridAt.below HG.out hB) hN hkN (ShutAt.below HS0.out hB)).mono ?_; rintro r wa ⟨bI, rfl, hbI, I, hrI, hI, hbA⟩) | go_in)
          have hrowA := hrow.block (hbA.block _ hrow.lt)
          have hBA := below_next hB hbA
          have hne : bI ≠ w.heap.size := by have := hrow.lt; omega
          have hIR : ∀ x, x < N → I x = R k x := fun x hx => by rw [Bool.eq_iff_iff, hI x hx, HR.out]
          have HIR : Hid _ := hIR
          clear hI hIR hrow hB hbA
          go_loopw [9] (fun i wr => ∃ t : Nat, t ≤ N ∧ i = .int .i64 (t : Int) ∧ RowB wr w.heap.size N (fun x => doneL (openB sh) R k x || (decide (x < t) && R k x)) ∧ RowB wr bI N I ∧ Below w.heap.size w wr) (fun i _ => N - (numOf i).toNat)
          case atStart => exact ⟨0, Nat.zero_le _, rfl, hrowA.congr (fun x _ => by simp), hrI, hBA⟩
          case round =>
            obtain ⟨t, ht, rfl, hrt, hrit, hBt⟩ := hrel
            clear hrowA hrI hBA
            by_cases htN : t < N
            · have ct := hrt.cell htN
              have cI := hrit.cell htN
              have ft := hrt.free t
              have et : (doneL (openB sh) R k t || (decide (t < t) && R k t)) = doneL (openB sh) R k t := by simp
              rw [et] at ct
              have j1 : (0 : Int) ≤ (t : Int) := by omega
              have j2 : (t : Int) < (N : Int) := by omega
              have hnx : ∀ b : Bool, b = (doneL (openB sh) R k t || I t) → RowB (wr.setCell ⟨w.heap.size, t, none⟩ (.bool b)) w.heap.size N (fun x => doneL (openB sh) R k x || (decide (x < t + 1) && R k x)) := fun b hb => (hrt.put t b).congr (fun x hx => by
                by_cases e : x = t
                · subst e; rw [if_pos rfl, hb, HIR.out x hx]; simp
                · rw [if_neg e]
                  have : decide (x < t + 1) = decide (x < t) := by rw [Bool.eq_iff_iff]; simp; omega
                  rw [this])
              have HNX : Hid _ := hnx
              clear hnx et
              by_cases hd : doneL (openB sh) R k t = true
              · rw [hd] at ct
                have HD : Hid _ := hd
                clear hd
                go_wp2
                go_roundw
                case rel => exact ⟨t + 1, by omega, by go_num, HNX.out true (by rw [HD.out]; rfl), hrit.turns (setCell_turns _ _ _ _) hne, hBt.setCell (Nat.le_refl _) _⟩
                case measure => simp [numOf]; omega
              · have hd' : doneL (openB sh) R k t = false := by simpa using hd
                rw [hd'] at ct
                have HD : Hid _ := hd'
                clear hd hd'
                go_wp2
                go_roundw
                case rel => exact ⟨t + 1, by omega, by go_num, HNX.out (I t) (by rw [HD.out]; rfl), hrit.turns (setCell_turns _ _ _ _) hne, hBt.setCell (Nat.le_refl _) _⟩
                case measure => simp [numOf]; omega
            · go_wp2
              go_roundw
              case rel =>
                have htE : t = N := by omega
                subst htE
                refine ⟨k + 1, by omega, by rw [partsTo_succ, if_pos HF.out]; go_num, by go_num, hrt.congr (fun x hx => ?_), hBt⟩
                have hL : openB sh k = true := (firstB_iff.1 HF.out).1
                rw [doneL_succ, hL]
                simp [hx]
              case measure => simp [numOf]; omega
      · have hf' : firstB (openB sh) R k = false := by simpa using hf
        have hrow' := hrow.congr (fun j _ => (doneL_skip HR.out hf' j).symm)
        have hp' : partsTo (openB sh) R (k + 1) = partsTo (openB sh) R k := by rw [partsTo_succ, if_neg hf]; rfl
        have HRW : Hid _ := hrow'
        have HPP : Hid _ := hp'
        clear hrow' hp'
        by_cases hd : doneL (openB sh) R k k = true
        · rw [hd] at ck
          clear hf hf' hd
          go_wp2
          go_roundw
          case rel => exact ⟨k + 1, by omega, by rw [HPP.out], by go_num, HRW.out, hB⟩
          case measure => simp [numOf]; omega
        · have hd' : doneL (openB sh) R k k = false := by simpa using hd
          have h4 : sh k = true := by
            rw [first_done, hd'] at hf'
            simpa [openB] using hf'
          rw [hd'] at ck
          rcases HSH.out k hkN with ⟨hts, b', rfl, c'⟩ | ⟨hts, h5⟩
          · have l' := World.block_lt_of_cell? w _ c'
            rw [← hB.cell (by exact l'), h4] at c'
            have k1 : (k : Int) < (sn : Int) := by omega
            clear hf hf' hd hd' h4
            go_wp2
            go_roundw
            case rel => exact ⟨k + 1, by omega, by rw [HPP.out], by go_num, HRW.out, hB⟩
            case measure => simp [numOf]; omega
          · rw [h4] at h5; cases h5
    · have : k = N := by omega
      subst this
      go_wp2
      go_ret
      exact ⟨rfl, hB⟩
end Go.Proofs.YtkkfjfphmlcieaaGreat

namespace Go.Proofs.YtkkfjfphmlcieaaGreat
section
variable {N : Nat} {adj : Nat → Nat → Bool} {h : List Nat}
theorem nodup_two {l : List Nat} (hn : l.Nodup) {a b : Nat} (hab : a ≠ b) (hm : ∀ x, x ∈ l ↔ x = a ∨ x = b) : l.length = 2 := by
  have h1 := nat_nodup_len l [a, b] hn (fun x hx => by rcases (hm x).1 hx with rfl | rfl <;> simp)
  have h2 := nat_nodup_len [a, b] l (by simp [hab]) (fun x hx => (hm x).2 (by simpa using hx))
  simp at h1 h2
  omega
theorem IsHole.nodup (hh : IsHole N adj h) : h.Nodup := by
  rw [List.Nodup, List.pairwise_iff_getElem]
  intro i j hi hj hij e
  refine hh.ne i j hij hj ?_
  simp [List.getD, List.getElem?_eq_getElem hi, List.getElem?_eq_getElem hj, e]
theorem IsHole.mem (x : Nat) : x ∈ h ↔ ∃ i, i < h.length ∧ h.getD i 0 = x := by
  constructor
  · intro hx
    obtain ⟨i, hi, e⟩ := List.getElem_of_mem hx
    exact ⟨i, hi, by simp [List.getD, List.getElem?_eq_getElem hi, e]⟩
  · rintro ⟨i, hi, rfl⟩
    simp [List.getD, List.getElem?_eq_getElem hi]
/-- Each node of a ring without a chord has just two near it. -/
theorem IsHole.two (hs : ∀ x y, adj x y = adj y x) (hi : ∀ x, adj x x = false) (hh : IsHole N adj h) {x : Nat} (hx : x ∈ h) : (h.filter (adj x)).length = 2 := by
  obtain ⟨i, hil, rfl⟩ := (IsHole.mem x).1 hx
  have hm := hh.len
  obtain ⟨nx, hnx⟩ : ∃ nx, nx = if i + 1 < h.length then i + 1 else 0 := ⟨_, rfl⟩
  obtain ⟨pv, hpv⟩ : ∃ pv, pv = if i = 0 then h.length - 1 else i - 1 := ⟨_, rfl⟩
  have hnl : nx < h.length := by rw [hnx]; split <;> omega
  have hpl : pv < h.length := by rw [hpv]; split <;> omega
  have inj : ∀ a b, a < h.length → b < h.length → h.getD a 0 = h.getD b 0 → a = b := fun a b ha hb e => by
    rcases Nat.lt_trichotomy a b with h1 | h1 | h1
    · exact absurd e (hh.ne a b h1 hb)
    · exact h1
    · exact absurd e.symm (hh.ne b a h1 ha)
  have hne : nx ≠ pv := by rw [hnx, hpv]; split <;> split <;> omega
  have a1 : adj (h.getD i 0) (h.getD nx 0) = true := by
    rw [hnx]
    split
    · rename_i h1; exact hh.next i h1
    · rename_i h1
      have e : i = h.length - 1 := by omega
      rw [e]; exact hh.last
  have a2 : adj (h.getD i 0) (h.getD pv 0) = true := by
    rw [hpv]
    split
    · rename_i h1; subst h1; rw [hs]; exact hh.last
    · rename_i h1
      have := hh.next (i - 1) (by omega)
      have e : i - 1 + 1 = i := by omega
      rw [e] at this
      rw [hs]; exact this
  refine nodup_two (hh.nodup.filter _) (a := h.getD nx 0) (b := h.getD pv 0) (fun e => hne (inj _ _ hnl hpl e)) (fun y => ?_)
  rw [List.mem_filter]
  constructor
  · rintro ⟨hy, ha⟩
    obtain ⟨j, hj, rfl⟩ := (IsHole.mem y).1 hy
    by_cases e1 : j = nx
    · left; rw [e1]
    · by_cases e2 : j = pv
      · right; rw [e2]
      · exfalso
        by_cases e3 : j = i
        · rw [e3, hi] at ha; cases ha
        · rcases Nat.lt_or_gt_of_ne e3 with h1 | h1
          · have := hh.no j i (by
              rw [hpv] at e2
              split at e2 <;> omega) hil (fun ⟨q1, q2⟩ => e1 (by rw [hnx, if_neg (by omega)]; exact q1))
            rw [hs, this] at ha; cases ha
          · have := hh.no i j (by
              rw [hnx] at e1
              split at e1 <;> omega) hj (fun ⟨q1, q2⟩ => e2 (by rw [hpv, if_pos q1]; exact q2))
            rw [this] at ha; cases ha
  · rintro (rfl | rfl)
    · exact ⟨(IsHole.mem _).2 ⟨nx, hnl, rfl⟩, a1⟩
    · exact ⟨(IsHole.mem _).2 ⟨pv, hpl, rfl⟩, a2⟩
/-- The nodes of a ring hang together. -/
theorem IsHole.star (hs : ∀ x y, adj x y = adj y x) (hh : IsHole N adj h) {S : Nat → Bool} (hS : ∀ x, S x = true ↔ x ∈ h) {x y : Nat} (hx : x ∈ h) (hy : y ∈ h) : Star (St N adj S) x y := by
  have inh : ∀ i, i < h.length → h.getD i 0 ∈ h := fun i hi => (IsHole.mem _).2 ⟨i, hi, rfl⟩
  have up : ∀ i, i < h.length → Star (St N adj S) (h.getD 0 0) (h.getD i 0) := fun i => by
    induction i with
    | zero => intro _; exact Star.refl _
    | succ i ih =>
      intro hi
      exact (ih (by omega)).step ⟨hh.lt _ (inh _ hi), hh.next i hi, (hS _).2 (inh _ hi)⟩
  have down : ∀ i, i < h.length → Star (St N adj S) (h.getD i 0) (h.getD 0 0) := fun i => by
    induction i with
    | zero => intro _; exact Star.refl _
    | succ i ih =>
      intro hi
      refine Star.head ⟨hh.lt _ (inh i (by omega)), ?_, (hS _).2 (inh i (by omega))⟩ (ih (by omega))
      rw [hs]; exact hh.next i hi
  obtain ⟨i, hi, rfl⟩ := (IsHole.mem x).1 hx
  obtain ⟨j, hj, rfl⟩ := (IsHole.mem y).1 hy
  exact (down i hi).trans (up j hj)
theorem IsHole.parts (hs : ∀ x y, adj x y = adj y x) (hh : IsHole N adj h) {S : Nat → Bool} (hS : ∀ x, S x = true ↔ x ∈ h) {R : Nat → Nat → Bool} (hR : ∀ v x, R v x = true ↔ Star (St N adj S) v x) : partsN N S R = 1 := by
  have hm := hh.len
  have h0 : h.getD 0 0 ∈ h := (IsHole.mem _).2 ⟨0, by omega, rfl⟩
  obtain ⟨f, ⟨hf1, hf2⟩, hmin⟩ := leastOf (P := fun z => z < N ∧ z ∈ h) (h.getD 0 0) ⟨hh.lt _ h0, h0⟩
  unfold partsN
  have hone : ∀ v, v ∈ (List.range N).filter (firstB S R) ↔ v = f := fun v => by
    rw [List.mem_filter, List.mem_range, firstB_iff]
    constructor
    · rintro ⟨h1, h2, h3⟩
      have hv := (hS v).1 h2
      rcases Nat.lt_trichotomy v f with h4 | h4 | h4
      · exact absurd ⟨h1, hv⟩ (hmin v h4)
      · exact h4
      · have := h3 f h4 ((hS f).2 hf2)
        rw [(hR f v).2 (hh.star hs hS hf2 hv)] at this; cases this
    · rintro rfl
      exact ⟨hf1, (hS v).2 hf2, fun u hu hSu => absurd ⟨by omega, (hS u).1 hSu⟩ (hmin u hu)⟩
  have hnd : ((List.range N).filter (firstB S R)).Nodup := List.nodup_range.filter _
  have h1 := nat_nodup_len _ [f] hnd (fun x hx => by simp [(hone x).1 hx])
  have h2 := nat_nodup_len [f] ((List.range N).filter (firstB S R)) (by simp) (fun x hx => (hone x).2 (by simpa using hx))
  simp at h1 h2
  omega
/-- A way through the nodes far from c, as a table of what is open tells it. -/
theorem cn_star {S : Nat → Bool} {a b c : Nat} (hS : ∀ x, x < N → (S x = true ↔ (x ≠ c ∧ ¬ adj c x = true))) (ha : a < N) : Cn (fun x y => adj x y = true) (Far (fun x y => adj x y = true) (fun z => z < N) c) a b ↔ (S a = true ∧ Star (St N adj S) a b) := by
  constructor
  · intro h
    refine ⟨(hS a ha).2 h.left.2, ?_⟩
    induction h with
    | refl _ => exact Star.refl _
    | step _ h2 h3 ih => exact ih.step ⟨h3.1, h2, (hS _ h3.1).2 h3.2⟩
  · rintro ⟨h1, h2⟩
    exact Star.ind (P := fun b => Cn (fun x y => adj x y = true) (Far (fun x y => adj x y = true) (fun z => z < N) c) a b) (Cn.refl ⟨ha, (hS a ha).1 h1⟩) (fun _ _ _ hs ih => ih.step hs.2.1 ⟨hs.1, (hS _ hs.1).1 hs.2.2⟩) h2
/-- Three nodes that can be gone round, in falling order. -/
theorem Ast.sorted (hs : ∀ x y, adj x y = adj y x) (h : Ast (fun x y => adj x y = true) (fun z => z < N)) : ∃ a b c, a < N ∧ b < a ∧ c < b ∧ Cn (fun x y => adj x y = true) (Far (fun x y => adj x y = true) (fun z => z < N) c) a b ∧ Cn (fun x y => adj x y = true) (Far (fun x y => adj x y = true) (fun z => z < N) a) b c ∧ Cn (fun x y => adj x y = true) (Far (fun x y => adj x y = true) (fun z => z < N) b) a c := by
  have hsym : ∀ a b, adj a b = true → adj b a = true := fun a b h => by rw [hs]; exact h
  obtain ⟨a, b, c, h1, h2, h3⟩ := h
  have n1 : a ≠ c := h1.left.2.1
  have n2 : b ≠ a := h2.left.2.1
  have n3 : a ≠ b := h3.left.2.1
  have n4 : b ≠ c := h1.right.2.1
  have la := h1.left.1
  have lb := h2.left.1
  have lc := h2.right.1
  have s1 := h1.symm hsym
  have s2 := h2.symm hsym
  have s3 := h3.symm hsym
  rcases Nat.lt_or_gt_of_ne n3 with e1 | e1
  · rcases Nat.lt_or_gt_of_ne n1 with e2 | e2
    · rcases Nat.lt_or_gt_of_ne n4 with e3 | e3
      · exact ⟨c, b, a, lc, e3, e1, s2, s1, s3⟩
      · exact ⟨b, c, a, lb, e3, e2, h2, s3, s1⟩
    · exact ⟨b, a, c, lb, e1, e2, s1, h3, h2⟩
  · rcases Nat.lt_or_gt_of_ne n4 with e2 | e2
    · rcases Nat.lt_or_gt_of_ne n1 with e3 | e3
      · exact ⟨c, a, b, lc, e3, e1, s3, h1, s2⟩
      · exact ⟨a, c, b, la, e3, e2, h3, s2, h1⟩
    · exact ⟨a, b, c, la, e1, e2, h1, h2, h3⟩
end
end Go.Proofs.YtkkfjfphmlcieaaGreat

namespace Go.Proofs.YtkkfjfphmlcieaaGreat
set_option maxRecDepth 8000
open Go.RowKit Go.Maps
attribute [local go_sem ↓] Go.wp_at_zero Go.wp_at_succ
/-- A way leads from a to b past c and what is near it. -/
def FarP (N : Nat) (p : Int → Int → Bool) (a b c : Nat) : Prop := Cn (fun x y => pn p x y = true) (Far (fun x y => pn p x y = true) (fun z => z < N) c) a b
def shF (p : Int → Int → Bool) (c j : Nat) : Bool := j == c || pn p c j
theorem farP_iff {N : Nat} {p : Int → Int → Bool} {a b c : Nat} (ha : a < N) : FarP N p a b c ↔ (shF p c a = false ∧ Star (St N (pn p) (openB (shF p c))) a b) := by
  have := cn_star (N := N) (adj := pn p) (S := openB (shF p c)) (a := a) (b := b) (c := c) (fun x _ => by
    simp [openB, shF]) ha
  unfold FarP
  rw [this]
  simp [openB]
theorem farP_right {N : Nat} {p : Int → Int → Bool} {a b c : Nat} (h : FarP N p a b c) : shF p c b = false := by
  have := h.right
  have h1 := this.2.1
  have h2 : ¬ pn p c b = true := this.2.2
  have h2' : pn p c b = false := by simpa using h2
  simp [shF, h1, h2']
/-- What the literal answers. -/
def FarE (P : Prop) (w : World) (e : Ending) (w' : World) : Prop := ∃ fb : Bool, e = .returned (.bool fb) ∧ (fb = true ↔ P) ∧ Below w.heap.size w w'
set_option maxHeartbeats 4000000 in
theorem farL_call {N : Nat} {gao : Option Addr} {gcap : Nat} {p : Int → Int → Bool} {w : World} {b3 : Nat} (hG : GridAt w (.slice gao N gcap) N p) (h3 : One w b3 (.slice gao N gcap) 34) (hN : N ≤ 100) {a b c : Nat} (ha : a < N) (hb : b < N) (hc : c < N) :
    Calls Tryz.prog 27 #[.int .i64 (a : Int), .int .i64 (b : Int), .int .i64 (c : Int), ptr b3] w fun e w' => FarE (FarP N p a b c) w e w' := by
  obtain ⟨i0, hi, hz0, hz1, hz2⟩ := info_parts Tryz.info4
  have HG : Hid (GridAt w (.slice gao N gcap) N p) := hG
  have H3 : Hid (One w b3 (.slice gao N gcap) 34) := h3
  have q0 : w.cell? ⟨b3, 0, none⟩ = some (.slice gao N gcap) := box_cell h3 rfl
  have a1 : (0 : Int) ≤ (a : Int) := by omega
  have a2 : (a : Int) < (N : Int) := by omega
  have b1 : (0 : Int) ≤ (b : Int) := by omega
  have b2 : (b : Int) < (N : Int) := by omega
  have c1 : (0 : Int) ≤ (c : Int) := by omega
  have c2 : (c : Int) < (N : Int) := by omega
  clear hG h3
  go_enter Tryz.func27, Tryz.ntmps27
  go_upto_region 3 with (first | (at_make; refine wpList_make_full _ rfl _ _ 39 rfl w.heap.size 4 i0 (.bool false) 1 Tryz.underlying39 hi hz0 hz1 .i64 .i64 _ _ N rfl rfl rfl rfl ?_ ?_ ?_ ?_; (rw [hz2]; omega); (unfold maxLen; omega); (omega); intro W1 hmade hg1) | go_in)
  have hrow0 := rowV_made rfl hmade
  have hB1 : Below w.heap.size w W1 := (Below.refl _ _).grown hg1 (Nat.le_refl _) (fun k hk => by cases hk)
  clear hmade hg1 q0
  obtain ⟨bS, hbS⟩ : ∃ b, b = w.heap.size := ⟨_, rfl⟩
  have HBS : Hid (w.heap.size ≤ bS) := by show w.heap.size ≤ bS; omega
  rw [← hbS] at hrow0 ⊢
  clear hbS
  go_loopw [9] (fun s9 wz => ∃ k : Nat, k ≤ N ∧ s9 = .int .i64 (k : Int) ∧ RowV wz bS 4 N (fun j => .bool (decide (j < k) && shF p c j)) ∧ Below w.heap.size w wz) (fun s9 _ => N - (numOf s9).toNat)
  case atStart => exact ⟨0, Nat.zero_le _, rfl, hrow0.congr (fun j _ => by simp), hB1⟩
  case round =>
    obtain ⟨k, hk, rfl, hR, hB⟩ := hrel
    clear hrow0 hB1
    have q0 : wr.cell? ⟨b3, 0, none⟩ = some (.slice gao N gcap) := box_cell ((hB.block b3 (lt_of_block H3.out)).trans H3.out) rfl
    by_cases hkN : k < N
    · have k1 : (0 : Int) ≤ (k : Int) := by omega
      have k2 : (k : Int) < (N : Int) := by omega
      have hcell := hR.cell hkN
      have hfr := hR.free k
      have HR : Hid (RowV wr bS 4 N (fun j => .bool (decide (j < k) && shF p c j))) := hR
      obtain ⟨ao', cap', e0, hgrid⟩ := HG.out.below hB
      cases e0
      obtain ⟨g, bg, rfl, g0, g1⟩ := hgrid c hc
      have gv := g1 k hkN
      have fin : ∀ v : Bool, v = shF p c k → RowV (wr.setCell ⟨bS, k, none⟩ (.bool v)) bS 4 N (fun j => .bool (decide (j < k + 1) && shF p c j)) ∧ Below w.heap.size w (wr.setCell ⟨bS, k, none⟩ (.bool v)) := fun v hv => by
        refine ⟨(HR.out.set k (.bool v)).congr (fun j hj => ?_), hB.setCell HBS.out _⟩
        by_cases e : j = k
        · rw [if_pos e, e, hv]; simp
        · rw [if_neg e]
          have : decide (j < k + 1) = decide (j < k) := by rw [decide_eq_decide]; omega
          rw [this]
      have FIN : Hid (∀ v : Bool, v = shF p c k → RowV (wr.setCell ⟨bS, k, none⟩ (.bool v)) bS 4 N (fun j => .bool (decide (j < k + 1) && shF p c j)) ∧ Below w.heap.size w (wr.setCell ⟨bS, k, none⟩ (.bool v))) := fin
      clear hR g1 hgrid fin
      by_cases hkc : k = c
      · subst hkc
        have e1 : ((k : Int) == (k : Int)) = true := by simp
        go_wp2
        go_roundw
        case rel => exact ⟨k + 1, by omega, by go_num, (FIN.out true (by simp [shF])).1, (FIN.out true (by simp [shF])).2⟩
        case measure => simp [numOf]; omega
      · have e1 : ((k : Int) == (c : Int)) = false := by rw [beq_eq_false_iff_ne]; omega
        have hv : p c k = shF p c k := by
          have : (k == c) = false := by simpa using hkc
          simp [shF, this, pn]
        clear hkc
        go_wp2
        go_roundw
        case rel => exact ⟨k + 1, by omega, by go_num, (FIN.out _ rfl).1, (FIN.out _ rfl).2⟩
        case measure => simp [numOf]; omega
    · have k2 : ¬ (k : Int) < (N : Int) := by omega
      have hR' : RowV wr bS 4 N (fun j => .bool (shF p c j)) := hR.congr (fun j hj => by
        have : decide (j < k) = true := by simp; omega
        rw [this]; rfl)
      have ca := hR'.cell ha
      have cb := hR'.cell hb
      have HRR : Hid (RowV wr bS 4 N (fun j => .bool (shF p c j))) := hR'
      clear hR hR'
      cases h1 : shF p c a with
      | true =>
        rw [h1] at ca
        have HNO : Hid (¬ FarP N p a b c) := fun h => by
          rw [((farP_iff ha).1 h).1] at h1; cases h1
        clear h1
        go_wp2
        go_ret
        exact ⟨false, rfl, ⟨fun h => (by cases h), fun h => absurd h HNO.out⟩, hB⟩
      | false =>
        rw [h1] at ca
        have HA : Hid (shF p c a = false) := h1
        clear h1
        cases h2 : shF p c b with
        | true =>
          rw [h2] at cb
          have HNO : Hid (¬ FarP N p a b c) := fun h => by
            rw [farP_right h] at h2; cases h2
          clear h2
          go_wp2
          go_ret
          exact ⟨false, rfl, ⟨fun h => (by cases h), fun h => absurd h HNO.out⟩, hB⟩
        | false =>
          rw [h2] at cb
          clear h2
          have hsh : ShutAt wr (.slice (some ⟨bS, 0, none⟩) N N) N (shF p c) := ⟨_, _, _, rfl, by omega, fun j hj => Or.inl ⟨hj, bS, rfl, HRR.out.cell hj⟩⟩
          have h28 := reach_call N gao gcap p wr (HG.out.below hB) hN ha hsh
          have H28 : Hid (Calls Tryz.prog 28 #[.slice gao N gcap, .int .i64 (a : Int), .slice (some ⟨bS, 0, none⟩) N N] wr fun r w' => ∃ (br : Nat) (I : Nat → Bool), r = .returned (.slice (some ⟨br, 0, none⟩) N N) ∧ w'.cell? ⟨br, b, none⟩ = some (.bool (I b)) ∧ (I b = true ↔ FarP N p a b c) ∧ Below wr.heap.size wr w') := by
            refine Calls.mono h28 ?_
            rintro r w' ⟨br, rfl, _, I, hI, hII, hbb⟩
            refine ⟨br, I, rfl, hI.cell hb, ?_, hbb⟩
            rw [hII b hb, farP_iff ha]
            exact ⟨fun h => ⟨HA.out, h⟩, fun h => h.2⟩
          clear h28 hsh
          go_wp2_with (first | (go_at_call 28; refine Calls.mono H28.out ?_; rintro e' w8 ⟨br, I, rfl, hcI, hIb, hb8⟩) | go_in)
          go_ret
          exact ⟨I b, rfl, hIb, below_next hB hb8⟩
/-- Whether three nodes can be gone round. -/
def Star3 (N : Nat) (p : Int → Int → Bool) (a b c : Nat) : Prop := FarP N p a b c ∧ FarP N p b c a ∧ FarP N p a c b
/-- Whether some three nodes can be gone round. -/
def AnyStar (N : Nat) (p : Int → Int → Bool) : Prop := ∃ x y z, x < N ∧ y < x ∧ z < y ∧ Star3 N p x y z
theorem anyStar_of {N : Nat} {p : Int → Int → Bool} (hsym : ∀ x y : Nat, pn p x y = pn p y x) (h : Ast (fun x y => pn p x y = true) (fun z => z < N)) : AnyStar N p := by
  obtain ⟨x, y, z, h1, h2, h3, h4, h5, h6⟩ := h.sorted hsym
  exact ⟨x, y, z, h1, h2, h3, h4, h5, h6⟩
theorem enter27 : ∀ args w', (callFunc 27 args).run Tryz.prog w' = .ok (.enter 27 args) w' := enters_of Tryz.func27 (by kernel_rfl) rfl
theorem FarE.one {P : Prop} {F : FuncId} {args : Array Value} {w : World} (h : Calls Tryz.prog F args w fun e w' => FarE P w e w') : ∃ fb : Bool, (fb = true ↔ P) ∧ Calls Tryz.prog F args w fun e w' => e = .returned (.bool fb) ∧ Below w.heap.size w w' := by
  by_cases hp : P
  · refine ⟨true, by simp [hp], h.mono ?_⟩
    rintro e w' ⟨fb, rfl, hfb, hb⟩
    rw [hfb.2 hp]; exact ⟨rfl, hb⟩
  · refine ⟨false, by simp [hp], h.mono ?_⟩
    rintro e w' ⟨fb, rfl, hfb, hb⟩
    have : fb = false := by
      cases fb with
      | false => rfl
      | true => exact absurd (hfb.1 rfl) hp
    rw [this]; exact ⟨rfl, hb⟩
set_option maxHeartbeats 4000000 in
theorem stars_call {N : Nat} {gao : Option Addr} {gcap : Nat} {p : Int → Int → Bool} {w : World} (hG : GridAt w (.slice gao N gcap) N p) (hN : N ≤ 100) :
    Calls Tryz.prog 12 #[.slice gao N gcap] w fun e w' => FarE (AnyStar N p) w e w' := by
  have HG : Hid (GridAt w (.slice gao N gcap) N p) := hG
  have h27 := enter27
  clear hG
  go_enter Tryz.func12, Tryz.ntmps12
  go_upto_region 3 with (fail)
  have o1 := one_new w (.slice gao N gcap) 34
  have hB0 := below_alloc (Below.refl _ w) (Obj.cells #[.slice gao N gcap] 34)
  obtain ⟨b1, hb1⟩ : ∃ b, b = w.heap.size := ⟨_, rfl⟩
  rw [← hb1] at o1 ⊢
  clear hb1
  generalize w.alloc (Obj.cells #[.slice gao N gcap] 34) = W0 at o1 hB0 ⊢
  have HO : Hid (One W0 b1 (.slice gao N gcap) 34) := o1
  have HGW : Hid (∀ W, Below W0.heap.size W0 W → GridAt W (.slice gao N gcap) N p ∧ One W b1 (.slice gao N gcap) 34) := fun W hW => ⟨HG.out.below (below_next hB0 hW), (hW.block b1 (lt_of_block HO.out)).trans HO.out⟩
  have hBB := Below.refl W0.heap.size W0
  clear o1
  go_loopw [4] (fun s4 wz => ∃ a : Nat, a ≤ N ∧ s4 = .int .i64 (a : Int) ∧ (∀ x y z, x < a → y < x → z < y → ¬ Star3 N p x y z) ∧ Below W0.heap.size W0 wz) (fun s4 _ => N - (numOf s4).toNat)
  case atStart => exact ⟨0, Nat.zero_le _, rfl, fun x y z h => absurd h (by omega), hBB⟩
  case round =>
    obtain ⟨a, ha, rfl, hda, hBa⟩ := hrel
    have HDA : Hid (∀ x y z, x < a → y < x → z < y → ¬ Star3 N p x y z) := hda
    clear hda hBB
    have q0 : wr.cell? ⟨b1, 0, none⟩ = some (.slice gao N gcap) := box_cell (HGW.out wr hBa).2 rfl
    by_cases haN : a < N
    · have a2 : (a : Int) < (N : Int) := by omega
      go_upto_region 6 with (fail)
      clear q0
      go_loopw [5] (fun s5 wz => ∃ b : Nat, b ≤ a ∧ s5 = .int .i64 (b : Int) ∧ (∀ y z, y < b → z < y → ¬ Star3 N p a y z) ∧ Below W0.heap.size W0 wz) (fun s5 _ => a - (numOf s5).toNat)
      case atStart => exact ⟨0, Nat.zero_le _, rfl, fun y z h => absurd h (by omega), hBa⟩
      case round =>
        obtain ⟨b, hb, rfl, hdb, hBb⟩ := hrel
        have HDB : Hid (∀ y z, y < b → z < y → ¬ Star3 N p a y z) := hdb
        clear hdb hBa
        by_cases hba : b < a
        · have b2 : (b : Int) < (a : Int) := by omega
          go_upto_region 9 with (fail)
          go_loopw [6] (fun s6 wz => ∃ c : Nat, c ≤ b ∧ s6 = .int .i64 (c : Int) ∧ (∀ z, z < c → ¬ Star3 N p a b z) ∧ Below W0.heap.size W0 wz) (fun s6 _ => b - (numOf s6).toNat)
          case atStart => exact ⟨0, Nat.zero_le _, rfl, fun z h => absurd h (by omega), hBb⟩
          case round =>
            obtain ⟨c, hc, rfl, hdc, hBc⟩ := hrel
            have HDC : Hid (∀ z, z < c → ¬ Star3 N p a b z) := hdc
            clear hdc hBb
            by_cases hcb : c < b
            · have c2 : (c : Int) < (b : Int) := by omega
              obtain ⟨hGr, hOr⟩ := HGW.out wr hBc
              obtain ⟨f1, hf1, C1⟩ := FarE.one (farL_call hGr hOr hN haN (show b < N by omega) (show c < N by omega))
              have NXT : Hid (¬ Star3 N p a b c → ∀ z, z < c + 1 → ¬ Star3 N p a b z) := fun hn z hz => by
                by_cases e : z = c
                · rw [e]; exact hn
                · exact HDC.out z (by omega)
              have HC1 : Hid (Calls Tryz.prog 27 #[.int .i64 (a : Int), .int .i64 (b : Int), .int .i64 (c : Int), ptr b1] wr fun e w' => e = .returned (.bool f1) ∧ Below wr.heap.size wr w') := C1
              clear C1 hGr hOr
              cases f1 with
              | false =>
                have HNO : Hid (¬ Star3 N p a b c) := fun h => by have := hf1.2 h.1; cases this
                clear hf1
                go_wp2_with (first | (go_at_call 27; refine Calls.mono HC1.out ?_; rintro e' w1 ⟨rfl, hb1⟩) | go_in)
                go_roundw
                case rel => exact ⟨c + 1, by omega, by go_num, NXT.out HNO.out, below_next hBc hb1⟩
                case measure => simp [numOf]; omega
              | true =>
                obtain ⟨f2, hf2⟩ : ∃ f2 : Bool, (f2 = true ↔ FarP N p b c a) := by
                  by_cases h : FarP N p b c a
                  · exact ⟨true, by simp [h]⟩
                  · exact ⟨false, by simp [h]⟩
                obtain ⟨f3, hf3⟩ : ∃ f3 : Bool, (f3 = true ↔ FarP N p a c b) := by
                  by_cases h : FarP N p a c b
                  · exact ⟨true, by simp [h]⟩
                  · exact ⟨false, by simp [h]⟩
                have same : ∀ {f g : Bool} {P : Prop}, (f = true ↔ P) → (g = true ↔ P) → f = g := fun {f g P} h1 h2 => by
                  rw [Bool.eq_iff_iff, h1, h2]
                have HC2 : Hid (∀ W, Below W0.heap.size W0 W → Calls Tryz.prog 27 #[.int .i64 (b : Int), .int .i64 (c : Int), .int .i64 (a : Int), ptr b1] W fun e w' => e = .returned (.bool f2) ∧ Below W.heap.size W w') := fun W hW => by
                  obtain ⟨f, hf, C⟩ := FarE.one (farL_call (HGW.out W hW).1 (HGW.out W hW).2 hN (show b < N by omega) (show c < N by omega) haN)
                  rw [same hf2 hf]; exact C
                have HC3 : Hid (∀ W, Below W0.heap.size W0 W → Calls Tryz.prog 27 #[.int .i64 (a : Int), .int .i64 (c : Int), .int .i64 (b : Int), ptr b1] W fun e w' => e = .returned (.bool f3) ∧ Below W.heap.size W w') := fun W hW => by
                  obtain ⟨f, hf, C⟩ := FarE.one (farL_call (HGW.out W hW).1 (HGW.out W hW).2 hN haN (show c < N by omega) (show b < N by omega))
                  rw [same hf3 hf]; exact C
                cases f2 with
                | false =>
                  have HNO : Hid (¬ Star3 N p a b c) := fun h => by have := hf2.2 h.2.1; cases this
                  clear hf1 hf2 hf3 same
                  go_wp2_with (first
                    | (go_at_call 27; have hh := hb1; clear hh; refine Calls.mono (HC2.out _ (below_next hBc hb1)) ?_; rintro e' w2 ⟨rfl, hb2⟩)
                    | (go_at_call 27; refine Calls.mono HC1.out ?_; rintro e' w1 ⟨rfl, hb1⟩) | go_in)
                  go_roundw
                  case rel => exact ⟨c + 1, by omega, by go_num, NXT.out HNO.out, below_next hBc (below_next hb1 hb2)⟩
                  case measure => simp [numOf]; omega
                | true =>
                  cases f3 with
                  | false =>
                    have HNO : Hid (¬ Star3 N p a b c) := fun h => by have := hf3.2 h.2.2; cases this
                    clear hf1 hf2 hf3 same
                    go_wp2_with (first
                      | (go_at_call 27; have hh := hb2; clear hh; refine Calls.mono (HC3.out _ (below_next hBc (below_next hb1 hb2))) ?_; rintro e' w3 ⟨rfl, hb3⟩)
                      | (go_at_call 27; have hh := hb1; clear hh; refine Calls.mono (HC2.out _ (below_next hBc hb1)) ?_; rintro e' w2 ⟨rfl, hb2⟩)
                      | (go_at_call 27; refine Calls.mono HC1.out ?_; rintro e' w1 ⟨rfl, hb1⟩) | go_in)
                    go_roundw
                    case rel => exact ⟨c + 1, by omega, by go_num, NXT.out HNO.out, below_next hBc (below_next hb1 (below_next hb2 hb3))⟩
                    case measure => simp [numOf]; omega
                  | true =>
                    have HST : Hid (AnyStar N p) := ⟨a, b, c, haN, hba, hcb, hf1.1 rfl, hf2.1 rfl, hf3.1 rfl⟩
                    clear hf1 hf2 hf3 same
                    go_wp2_with (first
                      | (go_at_call 27; have hh := hb2; clear hh; refine Calls.mono (HC3.out _ (below_next hBc (below_next hb1 hb2))) ?_; rintro e' w3 ⟨rfl, hb3⟩)
                      | (go_at_call 27; have hh := hb1; clear hh; refine Calls.mono (HC2.out _ (below_next hBc hb1)) ?_; rintro e' w2 ⟨rfl, hb2⟩)
                      | (go_at_call 27; refine Calls.mono HC1.out ?_; rintro e' w1 ⟨rfl, hb1⟩) | go_in)
                    go_ret
                    exact ⟨true, rfl, ⟨fun _ => HST.out, fun _ => rfl⟩, below_next hB0 (below_next hBc (below_next hb1 (below_next hb2 hb3)))⟩
            · have c2 : ¬ (c : Int) < (b : Int) := by omega
              go_wp2
              go_roundw
              case rel => exact ⟨b + 1, by omega, by go_num, fun y z hy hz => by
                by_cases e : y = b
                · subst e; exact HDC.out z (by omega)
                · exact HDB.out y z (by omega) hz, hBc⟩
              case measure => simp [numOf]; omega
        · have b2 : ¬ (b : Int) < (a : Int) := by omega
          go_wp2
          go_roundw
          case rel => exact ⟨a + 1, by omega, by go_num, fun x y z hx hy hz => by
            by_cases e : x = a
            · subst e; exact HDB.out y z (by omega) hz
            · exact HDA.out x y z (by omega) hy hz, hBb⟩
          case measure => simp [numOf]; omega
    · have a2 : ¬ (a : Int) < (N : Int) := by omega
      have HNA : Hid (¬ AnyStar N p) := fun ⟨x, y, z, h1, h2, h3, h4⟩ => HDA.out x y z (by omega) h2 h3 h4
      go_wp2
      go_ret
      exact ⟨false, rfl, ⟨fun h => (by cases h), fun h => absurd h HNA.out⟩, below_next hB0 hBa⟩
end Go.Proofs.YtkkfjfphmlcieaaGreat

namespace Go.Proofs.YtkkfjfphmlcieaaGreat
set_option maxRecDepth 8000
open Go.RowKit Go.Maps
attribute [local go_sem ↓] Go.wp_at_zero Go.wp_at_succ
theorem set_number : ∀ (N : Nat) (S : Nat → Bool), ∃ s, s < 2 ^ N ∧ ∀ x, x < N → s.testBit x = S x
  | 0, _ => ⟨0, by simp, fun x h => absurd h (by omega)⟩
  | N + 1, S => by
    obtain ⟨s, h1, h2⟩ := set_number N (fun x => S (x + 1))
    refine ⟨2 * s + (if S 0 = true then 1 else 0), ?_, fun x hx => ?_⟩
    · rw [Nat.pow_succ]; split <;> omega
    · cases x with
      | zero =>
        rw [Nat.testBit_zero]
        cases h : S 0 <;> simp
      | succ x =>
        rw [Nat.testBit_succ]
        have e : (2 * s + (if S 0 = true then 1 else 0)) / 2 = s := by split <;> omega
        rw [e]
        exact h2 x (by omega)
theorem bit_atz (S k : Nat) : bits .and .i64 ((S : Int) / 2 ^ k) 1 = if S.testBit k = true then 1 else 0 := by
  rw [and1z]
  have e : (S : Int) / 2 ^ k % 2 = ((S / 2 ^ k % 2 : Nat) : Int) := by push_cast; rfl
  rw [e, Nat.testBit_eq_decide_div_mod_eq]
  rcases Nat.mod_two_eq_zero_or_one (S / 2 ^ k) with h | h <;> simp [h]
/-- The nodes below k of the set s. -/
def lsT (s k : Nat) : List Nat := (List.range k).filter s.testBit
theorem lsT_succ (s k : Nat) : lsT s (k + 1) = lsT s k ++ if s.testBit k = true then [k] else [] := by
  unfold lsT
  rw [List.range_succ, List.filter_append]
  congr 1
  cases h : s.testBit k <;> simp [h]
theorem lsT_mem {s k x : Nat} : x ∈ lsT s k ↔ x < k ∧ s.testBit x = true := by simp [lsT]
theorem lsT_len (s k : Nat) : (lsT s k).length ≤ k := Nat.le_trans (List.length_filter_le _ _) (by simp)
/-- What a hole is as a number. -/
structure HoleS (N : Nat) (p : Int → Int → Bool) (s : Nat) : Prop where
  lt : s < 2 ^ N
  four : 4 ≤ (lsT s N).length
  two : ∀ x ∈ lsT s N, ((lsT s N).filter (pn p x)).length = 2
  one : ∀ R : Nat → Nat → Bool, (∀ v x, R v x = true ↔ Star (St N (pn p) (openB (fun j => !s.testBit j))) v x) → partsN N (openB (fun j => !s.testBit j)) R = 1
theorem holeS_of {N : Nat} {p : Int → Int → Bool} {h : List Nat} (hs : ∀ x y : Nat, pn p x y = pn p y x) (hi : ∀ x : Nat, pn p x x = false) (hh : IsHole N (pn p) h) : ∃ s, HoleS N p s := by
  obtain ⟨s, h1, h2⟩ := set_number N (fun x => decide (x ∈ h))
  have hmem : ∀ x, x ∈ lsT s N ↔ x ∈ h := fun x => by
    rw [lsT_mem]
    constructor
    · rintro ⟨a, b⟩
      rw [h2 x a] at b
      simpa using b
    · intro hx
      have := hh.lt x hx
      exact ⟨this, by rw [h2 x this]; simpa using hx⟩
  have hnd : (lsT s N).Nodup := List.nodup_range.filter _
  have hbit : ∀ x, s.testBit x = true ↔ x ∈ h := fun x => by
    by_cases hx : x < N
    · rw [← hmem, lsT_mem]; simp [hx]
    · rw [Nat.testBit_lt_two_pow (Nat.lt_of_lt_of_le h1 (Nat.pow_le_pow_right (by omega) (by omega)))]
      constructor
      · intro h; cases h
      · intro h; have := hh.lt x h; omega
  refine ⟨s, h1, ?_, fun x hx => ?_, fun R hR => ?_⟩
  · have := nat_nodup_len h (lsT s N) hh.nodup (fun x hx => (hmem x).2 hx)
    have := hh.len
    omega
  · have e1 := nat_nodup_len ((lsT s N).filter (pn p x)) (h.filter (pn p x)) (hnd.filter _) (fun y hy => by
      have := List.mem_filter.1 hy
      exact List.mem_filter.2 ⟨(hmem y).1 this.1, this.2⟩)
    have e2 := nat_nodup_len (h.filter (pn p x)) ((lsT s N).filter (pn p x)) (hh.nodup.filter _) (fun y hy => by
      have := List.mem_filter.1 hy
      exact List.mem_filter.2 ⟨(hmem y).2 this.1, this.2⟩)
    have := hh.two hs hi ((hmem x).1 hx)
    omega
  · refine hh.parts hs (S := openB (fun j => !s.testBit j)) (fun x => ?_) hR
    rw [← hbit]
    simp [openB]
def OkAt (P : Prop) (v : Value) : Prop := ∃ ok : Bool, v = .bool ok ∧ (P → ok = true)
set_option maxHeartbeats 8000000 in
theorem hole_call {N : Nat} {gao : Option Addr} {gcap : Nat} {p : Int → Int → Bool} {w : World} (hG : GridAt w (.slice gao N gcap) N p) (hN : N ≤ 12) {s0 : Nat} (hs0 : HoleS N p s0) :
    Calls Tryz.prog 13 #[.slice gao N gcap] w fun e w' => e = .returned (.bool true) ∧ Below w.heap.size w w' := by
  obtain ⟨i0, hi, hz0, hz1, hz2⟩ := info_parts Tryz.info4
  have HG : Hid (GridAt w (.slice gao N gcap) N p) := hG
  have HS : Hid (HoleS N p s0) := hs0
  have i7 : min N 64 = N := by omega
  have hM : 2 ^ N ≤ 2 ^ 12 := Nat.pow_le_pow_right (by omega) hN
  obtain ⟨M, hMe⟩ : ∃ M : Nat, M = 2 ^ N := ⟨_, rfl⟩
  have hM' : M ≤ 4096 := by rw [hMe]; exact hM
  have i8 : wrap64 (2 ^ N) = (M : Int) := by
    have : (2 ^ N : Int) = (M : Int) := by rw [hMe]; push_cast; rfl
    rw [this]
    unfold wrap64
    omega
  have hsM : s0 < M := by rw [hMe]; exact hs0.lt
  clear hM hMe hG hs0
  go_enter Tryz.func13, Tryz.ntmps13
  go_upto_region 2 with (fail)
  go_loopw [3] (fun s3 wz => ∃ s : Nat, s ≤ s0 ∧ s3 = .int .i64 (s : Int) ∧ Below w.heap.size w wz) (fun s3 _ => M - (numOf s3).toNat)
  case atStart => exact ⟨0, Nat.zero_le _, rfl, Below.refl _ _⟩
  case round =>
    obtain ⟨s, hs, rfl, hBs⟩ := hrel
    have a2 : (s : Int) < (M : Int) := by omega
    go_upto_region 6 with (fail)
    rw [i8]
    clear i8
    go_loopw [4, 5] (fun s4 s5 wz => ∃ (v : Nat), v ≤ N ∧ s5 = .int .i64 (v : Int) ∧ wz.ownsRow w.heap.size 3 1 s4 (lsT s v).length (qv (lsT s v)) ∧ Below w.heap.size w wz) (fun _ s5 _ => N - (numOf s5).toNat)
    case atStart => exact ⟨0, Nat.zero_le _, rfl, World.ownsRow_nil _ _ _ _, hBs⟩
    case round =>
      obtain ⟨v, hv, rfl, hrow, hBv⟩ := hrel
      obtain ⟨vo, vc, rfl⟩ := form_row hrow
      have HROW : Hid (wr.ownsRow w.heap.size 3 1 (.slice vo (lsT s v).length vc) (lsT s v).length (qv (lsT s v))) := hrow
      have hll := lsT_len s v
      clear hrow hBs
      by_cases hvN : v < N
      · have b2 : (v : Int) < (N : Int) := by omega
        have m1 : min v 64 = v := by omega
        have hbit := bit_atz s v
        cases hb : s.testBit v with
        | true =>
          rw [hb, if_pos rfl] at hbit
          have HLS : Hid (lsT s (v + 1) = lsT s v ++ [v]) := by show _ = _; rw [lsT_succ, hb, if_pos rfl]
          have hrow1 := HROW.out
          have hsz := hBv.size
          clear hb
          obtain ⟨ll, hlle⟩ : ∃ ll, ll = lsT s v := ⟨_, rfl⟩
          rw [← hlle] at hrow1 hll HLS ⊢
          have HRW : Hid (wr.ownsRow w.heap.size 3 1 (.slice vo ll.length vc) ll.length (qv ll)) := hrow1
          clear hlle HROW
          go_wp2_with (first | (at_builtin; refine wpList_pushA (x := v) rfl _ _ rfl rfl rfl hrow1 (by omega) hsz ?_; intro g9 c9 w9 hown9 hg9 hgg9) | go_in)
          go_roundw
          case rel => exact ⟨v + 1, by omega, by go_num, by rw [HLS.out, List.length_append]; rw [List.length_append] at hown9; exact hown9, (below_alloc hBv _).grown hg9 (below_alloc hBv _).size (fun k hk => (HRW.out.lt k hk).1)⟩
          case measure => simp [numOf]; omega
        | false =>
          rw [hb, if_neg (by simp)] at hbit
          have HLS : Hid (lsT s (v + 1) = lsT s v) := by show _ = _; rw [lsT_succ, hb, if_neg (by simp), List.append_nil]
          clear hb
          go_wp2
          go_roundw
          case rel => exact ⟨v + 1, by omega, by go_num, by rw [HLS.out]; exact HROW.out, hBv⟩
          case measure => simp [numOf]; omega
      · have b2 : ¬ (v : Int) < (N : Int) := by omega
        have hvN' : v = N := by omega
        subst hvN'
        obtain ⟨ll, hlle⟩ : ∃ ll, ll = lsT s v := ⟨_, rfl⟩
        have HLL : Hid (ll = lsT s v) := hlle
        rw [← hlle] at hll ⊢
        have HRW : Hid (wr.ownsRow w.heap.size 3 1 (.slice vo ll.length vc) ll.length (qv ll)) := by
          have := HROW.out
          rw [← hlle] at this; exact this
        clear hlle HROW
        by_cases hl4 : ll.length < 4
        · have d1 : (ll.length : Int) < 4 := by omega
          have hne : s ≠ s0 := fun e => by
            have h1 := HS.out.four
            rw [← e, ← HLL.out] at h1
            omega
          go_wp2
          go_roundw
          case rel => exact ⟨s + 1, by omega, by go_num, hBv⟩
          case measure => simp [numOf]; omega
        · have d1 : ¬ (ll.length : Int) < 4 := by omega
          generalize wr = Wl at HRW hBv ⊢
          have HCL : Hid (∀ W, Below Wl.heap.size Wl W → ∀ (k u : Nat), ll[k]? = some u → ∃ g, vo = some ⟨g, 0, none⟩ ∧ W.cell? ⟨g, k, none⟩ = some (.int .i64 (u : Int))) := fun W hW k u hu => by
            obtain ⟨g, e, hc⟩ := qcell HRW.out hu
            exact ⟨g, e, by rw [hW.cell (World.block_lt_of_cell? _ _ hc)]; exact hc⟩
          clear HRW
          go_upto_region 13 with (first | (at_make; refine wpList_make_full _ rfl _ _ 39 rfl Wl.heap.size 4 i0 (.bool false) 1 Tryz.underlying39 hi hz0 hz1 .i64 .i64 _ _ v rfl rfl rfl rfl ?_ ?_ ?_ ?_; (rw [hz2]; omega); (unfold maxLen; omega); (omega); intro W1 hmade hg1) | go_in)
          have hrow0 := rowV_made rfl hmade
          have hB1 : Below Wl.heap.size Wl W1 := (Below.refl _ _).grown hg1 (Nat.le_refl _) (fun k hk => by cases hk)
          clear hmade hg1
          obtain ⟨bS, hbS⟩ : ∃ b, b = Wl.heap.size := ⟨_, rfl⟩
          have HBS : Hid (Wl.heap.size ≤ bS) := by show Wl.heap.size ≤ bS; omega
          rw [← hbS] at hrow0 ⊢
          clear hbS
          go_loopw [7] (fun s7 wz => ∃ k : Nat, k ≤ v ∧ s7 = .int .i64 (k : Int) ∧ RowV wz bS 4 v (fun j => .bool (decide (j < k) && !s.testBit j)) ∧ Below Wl.heap.size Wl wz) (fun s7 _ => v - (numOf s7).toNat)
          case atStart => exact ⟨0, Nat.zero_le _, rfl, hrow0.congr (fun j _ => by simp), hB1⟩
          case round =>
            obtain ⟨k, hk, rfl, hR, hB⟩ := hrel
            clear hrow0 hB1
            by_cases hkN : k < v
            · have k1 : (0 : Int) ≤ (k : Int) := by omega
              have k2 : (k : Int) < (v : Int) := by omega
              have hcell := hR.cell hkN
              have hfr := hR.free k
              have m1 : min k 64 = k := by omega
              have hbit := bit_atz s k
              have HR : Hid (RowV wr bS 4 v (fun j => .bool (decide (j < k) && !s.testBit j))) := hR
              have FIN : Hid (∀ b : Bool, b = !s.testBit k → RowV (wr.setCell ⟨bS, k, none⟩ (.bool b)) bS 4 v (fun j => .bool (decide (j < k + 1) && !s.testBit j)) ∧ Below Wl.heap.size Wl (wr.setCell ⟨bS, k, none⟩ (.bool b))) := fun b hv => by
                refine ⟨(HR.out.set k (.bool b)).congr (fun j hj => ?_), hB.setCell HBS.out _⟩
                by_cases e : j = k
                · rw [if_pos e, e, hv]; simp
                · rw [if_neg e]
                  have : decide (j < k + 1) = decide (j < k) := by rw [decide_eq_decide]; omega
                  rw [this]
              clear hR
              cases hb : s.testBit k with
              | true =>
                rw [hb, if_pos rfl] at hbit
                rw [hb] at FIN
                clear hb HR
                go_wp2
                go_roundw
                case rel => exact ⟨k + 1, by omega, by go_num, (FIN.out false rfl).1, (FIN.out false rfl).2⟩
                case measure => simp [numOf]; omega
              | false =>
                rw [hb, if_neg (by simp)] at hbit
                rw [hb] at FIN
                clear hb HR
                go_wp2
                go_roundw
                case rel => exact ⟨k + 1, by omega, by go_num, (FIN.out true rfl).1, (FIN.out true rfl).2⟩
                case measure => simp [numOf]; omega
            · have k2 : ¬ (k : Int) < (v : Int) := by omega
              have hR' : RowV wr bS 4 v (fun j => .bool (!s.testBit j)) := hR.congr (fun j hj => by
                have : decide (j < k) = true := by simp; omega
                rw [this]; rfl)
              have HSH : Hid (ShutAt wr (.slice (some ⟨bS, 0, none⟩) v v) v (fun j => !s.testBit j)) := ⟨_, _, _, rfl, by omega, fun j hj => Or.inl ⟨hj, bS, rfl, hR'.cell hj⟩⟩
              clear hR hR'
              go_upto_region 18 with (fail)
              generalize wr = W3 at HSH hB ⊢
              have hB3 := Below.refl W3.heap.size W3
              go_loopw [8, 9] (fun s8 s9 wz => ∃ i : Nat, i ≤ ll.length ∧ OkAt (s = s0) s8 ∧ s9 = .int .i64 (i : Int) ∧ Below W3.heap.size W3 wz) (fun _ s9 _ => ll.length - (numOf s9).toNat)
              case atStart => exact ⟨0, Nat.zero_le _, ⟨true, rfl, fun _ => rfl⟩, rfl, hB3⟩
              case round =>
                obtain ⟨i, hi9, ⟨ok, rfl, hok⟩, rfl, hBi⟩ := hrel
                have HOK : Hid (s = s0 → ok = true) := hok
                clear hok hB3
                have FIN : Hid (∀ W, Below W3.heap.size W3 W → ok = true → True) := fun _ _ _ => trivial
                clear FIN
                cases ok with
                | false =>
                  have hne : s ≠ s0 := fun e => by have := HOK.out e; cases this
                  by_cases hil : i < ll.length
                  · have a3 : (i : Int) < (ll.length : Int) := by omega
                    go_wp2
                    go_roundw
                    case rel => exact ⟨s + 1, by omega, by go_num, below_next hBv (below_next hB hBi)⟩
                    case measure => simp [numOf]; omega
                  · have a3 : ¬ (i : Int) < (ll.length : Int) := by omega
                    go_wp2
                    go_roundw
                    case rel => exact ⟨s + 1, by omega, by go_num, below_next hBv (below_next hB hBi)⟩
                    case measure => simp [numOf]; omega
                | true =>
                  by_cases hil : i < ll.length
                  · have a3 : (i : Int) < (ll.length : Int) := by omega
                    have a4 : (0 : Int) ≤ (i : Int) := by omega
                    obtain ⟨x, hx⟩ : ∃ x, ll[i]? = some x := ⟨_, List.getElem?_eq_getElem hil⟩
                    have hxN : x < v := by
                      have := List.mem_of_getElem? hx
                      rw [HLL.out] at this
                      exact (lsT_mem.1 this).1
                    have HX : Hid (ll[i]? = some x) := hx
                    clear hx
                    go_upto_region 22 with (fail)
                    go_loopw [10, 11] (fun s10 s11 wz => ∃ j : Nat, j ≤ ll.length ∧ s10 = .int .i64 (((ll.take j).filter (pn p x)).length : Int) ∧ s11 = .int .i64 (j : Int) ∧ Below W3.heap.size W3 wz) (fun _ s11 _ => ll.length - (numOf s11).toNat)
                    case atStart => exact ⟨0, Nat.zero_le _, rfl, rfl, hBi⟩
                    case round =>
                      obtain ⟨j, hj, rfl, rfl, hBj⟩ := hrel
                      clear hBi
                      by_cases hjl : j < ll.length
                      · have b2 : (j : Int) < (ll.length : Int) := by omega
                        have b1 : (0 : Int) ≤ (j : Int) := by omega
                        obtain ⟨y, hy⟩ : ∃ y, ll[j]? = some y := ⟨_, List.getElem?_eq_getElem hjl⟩
                        have hyN : y < v := by
                          have := List.mem_of_getElem? hy
                          rw [HLL.out] at this
                          exact (lsT_mem.1 this).1
                        obtain ⟨gl, rfl, cx⟩ := HCL.out wr (below_next hB hBj) i x HX.out
                        obtain ⟨gl', e', cy⟩ := HCL.out wr (below_next hB hBj) j y hy
                        cases e'
                        obtain ⟨ao', cap', e0, hgrid⟩ := HG.out.below (below_next hBv (below_next hB hBj))
                        cases e0
                        obtain ⟨g, bg, rfl, g0, g1⟩ := hgrid x hxN
                        have gv := g1 y hyN
                        have x1 : (0 : Int) ≤ (x : Int) := by omega
                        have x2 : (x : Int) < (v : Int) := by omega
                        have y1 : (0 : Int) ≤ (y : Int) := by omega
                        have y2 : (y : Int) < (v : Int) := by omega
                        have NX : Hid ((ll.take (j + 1)).filter (pn p x) = (ll.take j).filter (pn p x) ++ if pn p x y = true then [y] else []) := by
                          show _ = _
                          rw [List.take_add_one, hy, List.filter_append]
                          cases h : pn p x y <;> simp [h]
                        have hfl : ((ll.take j).filter (pn p x)).length ≤ 12 := Nat.le_trans (List.length_filter_le _ _) (by rw [List.length_take]; omega)
                        clear hgrid g1 hy
                        obtain ⟨fl, hfle⟩ : ∃ fl, fl = (ll.take j).filter (pn p x) := ⟨_, rfl⟩
                        rw [← hfle] at NX hfl ⊢
                        clear hfle
                        cases hp : p x y with
                        | true =>
                          rw [hp] at gv
                          have NX' : Hid ((((ll.take (j + 1)).filter (pn p x)).length : Int) = (fl.length : Int) + 1) := by
                            show _ = _
                            rw [NX.out, if_pos (show pn p x y = true from hp)]; simp
                          clear hp NX
                          go_upto_region 24 with (fail)
                          go_quiet (fail)
                          go_wp2
                          go_roundw
                          case rel => exact ⟨j + 1, by omega, by rw [NX'.out], by go_num, below_drewN hBj _⟩
                          case measure => simp [numOf]; omega
                        | false =>
                          rw [hp] at gv
                          have NX' : Hid ((((ll.take (j + 1)).filter (pn p x)).length : Int) = (fl.length : Int)) := by
                            show _ = _
                            rw [NX.out, if_neg (show ¬ pn p x y = true by unfold pn; simp [hp])]; simp
                          clear hp NX
                          go_upto_region 24 with (fail)
                          go_quiet (fail)
                          go_wp2
                          go_roundw
                          case rel => exact ⟨j + 1, by omega, by rw [NX'.out], by go_num, below_drewN hBj _⟩
                          case measure => simp [numOf]; omega
                      · have b2 : ¬ (j : Int) < (ll.length : Int) := by omega
                        have hj' : j = ll.length := by omega
                        subst hj'
                        rw [List.take_length]
                        have HTW : Hid (s = s0 → (ll.filter (pn p x)).length = 2) := fun e => by
                          have := HS.out.two x (by rw [← e, ← HLL.out]; exact List.mem_of_getElem? HX.out)
                          rw [← e, ← HLL.out] at this
                          exact this
                        obtain ⟨fl, hfle⟩ : ∃ fl, fl = ll.filter (pn p x) := ⟨_, rfl⟩
                        rw [← hfle] at HTW ⊢
                        clear hfle
                        go_wp2
                        go_roundw
                        case rel => exact ⟨i + 1, by omega, ⟨_, rfl, fun e => by rw [HTW.out e]; rfl⟩, by go_num, hBj⟩
                        case measure => simp [numOf]; omega
                  · have a3 : ¬ (i : Int) < (ll.length : Int) := by omega
                    obtain ⟨R, hR⟩ := ex2 (fun a b => Star (St v (pn p) (openB (fun j => !s.testBit j))) a b)
                    have HPA : Hid (s = s0 → partsN v (openB (fun j => !s.testBit j)) R = 1) := fun e => by
                      subst e; exact HS.out.one R hR
                    have H29 : Hid (Calls Tryz.prog 29 #[.slice gao v gcap, .slice (some ⟨bS, 0, none⟩) v v] wr fun r w' => r = .returned (.int .i64 (partsN v (openB (fun j => !s.testBit j)) R : Int)) ∧ Below wr.heap.size wr w') := parts_call v gao gcap p wr (HG.out.below (below_next hBv (below_next hB hBi))) (by omega) (HSH.out.below hBi) R hR
                    clear hR
                    obtain ⟨q, hq⟩ : ∃ q, q = partsN v (openB (fun j => !s.testBit j)) R := ⟨_, rfl⟩
                    rw [← hq] at HPA H29
                    clear hq
                    by_cases hq1 : q = 1
                    · subst hq1
                      go_wp2_with (first | (go_at_call 29; refine Calls.mono H29.out ?_; rintro e' w9 ⟨rfl, hb9⟩) | go_in)
                      go_ret
                      exact ⟨rfl, below_next hBv (below_next hB (below_next hBi hb9))⟩
                    · have d2 : ((q : Int) == 1) = false := by rw [beq_eq_false_iff_ne]; omega
                      have hne : s ≠ s0 := fun e => hq1 (HPA.out e)
                      go_wp2_with (first | (go_at_call 29; refine Calls.mono H29.out ?_; rintro e' w9 ⟨rfl, hb9⟩) | go_in)
                      go_roundw
                      case rel => exact ⟨s + 1, by omega, by go_num, below_next hBv (below_next hB (below_next hBi hb9))⟩
                      case measure => simp [numOf]; omega
end Go.Proofs.YtkkfjfphmlcieaaGreat
