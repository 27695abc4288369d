/- reach: the nodes to which open ways lead, the nearer ones first. -/
import Derived.Test.YtdnmoifbkojnlaaGreatUnW
namespace Go.Proofs.YtdnmoifbkojnlaaGreat
open Go.RowKit Go.Maps
attribute [local go_sem ↓] Go.wp_at_zero Go.wp_at_succ

/-- The list as it grows. -/
structure BfP (N : Nat) (adj : Nat → Nat → Bool) (opn : Nat → Bool) (s : Nat) (L : List Nat) : Prop where
  pos : 0 < L.length
  first : L.getD 0 0 = s
  lt : ∀ x ∈ L, x < N
  nodup : L.Nodup
  open' : ∀ i, 0 < i → i < L.length → opn (L.getD i 0) = true
  back : ∀ i, 0 < i → i < L.length → ∃ j, j < i ∧ adj (L.getD j 0) (L.getD i 0) = true
theorem getD_leftZ {L : List Nat} {c i : Nat} (h : i < L.length) : (L ++ [c]).getD i 0 = L.getD i 0 := by
  simp [List.getD_eq_getElem?_getD, List.getElem?_append_left h]
theorem getD_lastZ {L : List Nat} {c : Nat} : (L ++ [c]).getD L.length 0 = c := by
  simp [List.getD_eq_getElem?_getD]
theorem BfP.one {N : Nat} {adj : Nat → Nat → Bool} {opn : Nat → Bool} {s : Nat} (hs : s < N) : BfP N adj opn s [s] :=
  ⟨by simp, rfl, fun x hx => by rw [List.mem_singleton.1 hx]; exact hs, by simp, fun i h0 h1 => by simp at h1; omega, fun i h0 h1 => by simp at h1; omega⟩
theorem BfP.snoc {N : Nat} {adj : Nat → Nat → Bool} {opn : Nat → Bool} {s : Nat} {L : List Nat} (h : BfP N adj opn s L) {y i : Nat} (hy : y < N) (hn : y ∉ L) (ho : opn y = true) (hi : i < L.length) (ha : adj (L.getD i 0) y = true) : BfP N adj opn s (L ++ [y]) := by
  refine ⟨by simp, by rw [getD_leftZ h.pos]; exact h.first, fun x hx => ?_, ?_, fun k h0 h1 => ?_, fun k h0 h1 => ?_⟩
  · rcases List.mem_append.1 hx with h' | h'
    · exact h.lt x h'
    · rw [List.mem_singleton.1 h']; exact hy
  · rw [List.nodup_append]
    exact ⟨h.nodup, by simp, fun a ha b hb => by rw [List.mem_singleton.1 hb]; exact fun e => hn (e ▸ ha)⟩
  · rw [List.length_append, List.length_singleton] at h1
    by_cases e : k = L.length
    · rw [e, getD_lastZ]; exact ho
    · rw [getD_leftZ (by omega)]; exact h.open' k h0 (by omega)
  · rw [List.length_append, List.length_singleton] at h1
    by_cases e : k = L.length
    · subst e
      exact ⟨i, hi, by rw [getD_lastZ, getD_leftZ hi]; exact ha⟩
    · obtain ⟨j, hj, hja⟩ := h.back k h0 (by omega)
      exact ⟨j, hj, by rw [getD_leftZ (by omega), getD_leftZ (by omega)]; exact hja⟩
theorem nodup_lenZ : ∀ (l m : List Nat), l.Nodup → (∀ e ∈ l, e ∈ m) → l.length ≤ m.length
  | [], _, _, _ => Nat.zero_le _
  | a :: l, m, hn, hs => by
    have hn' := List.nodup_cons.1 hn
    have ha := hs a (by simp)
    have h := nodup_lenZ l (m.erase a) hn'.2 (fun e he => (List.mem_erase_of_ne (fun (h : e = a) => hn'.1 (h ▸ he))).2 (hs e (by simp [he])))
    rw [List.length_erase_of_mem ha] at h
    have : 0 < m.length := List.length_pos_of_mem ha
    simp
    omega
theorem BfP.short {N : Nat} {adj : Nat → Nat → Bool} {opn : Nat → Bool} {s : Nat} {L : List Nat} (h : BfP N adj opn s L) : L.length ≤ N := by
  have := nodup_lenZ L (List.range N) h.nodup (fun x hx => List.mem_range.2 (h.lt x hx))
  simpa using this
/-- All open nodes near the first k ones are in it. -/
def ClTo (ls : Nat → List Nat) (opn : Nat → Bool) (L : List Nat) (k : Nat) : Prop := ∀ i, i < k → ∀ y, y ∈ ls (L.getD i 0) → opn y = true → y ∈ L
theorem ClTo.grow {ls : Nat → List Nat} {opn : Nat → Bool} {L : List Nat} {k z : Nat} (h : ClTo ls opn L k) (hk : k ≤ L.length) : ClTo ls opn (L ++ [z]) k := fun i hi y hy ho => by
  rw [getD_leftZ (by omega)] at hy
  exact List.mem_append_left _ (h i hi y hy ho)
theorem BfP.bfo {N : Nat} {adj : Nat → Nat → Bool} {opn : Nat → Bool} {s : Nat} {L : List Nat} {ls : Nat → List Nat} (h : BfP N adj opn s L) (hls : ∀ x y, x < N → (y ∈ ls x ↔ y < N ∧ adj x y = true)) (hc : ClTo ls opn L L.length) : Bfo N adj opn s L :=
  ⟨h.pos, h.first, h.lt, h.nodup, h.open', h.back, fun x y hx hy ha ho => by
    obtain ⟨i, hi, rfl⟩ := List.getElem_of_mem hx
    have e : L[i] = L.getD i 0 := by simp [List.getD, List.getElem?_eq_getElem hi]
    rw [e] at ha
    exact hc i hi y ((hls _ y (h.lt _ (getD_mem' hi))).2 ⟨hy, ha⟩) ho⟩
/-- The lists of near nodes, to be read. -/
def NearZ (w : World) (g N : Nat) (ls : Nat → List Nat) : Prop := ∀ i, i < N → ∃ xo xc, w.cell? ⟨g, i, none⟩ = some (.slice xo (ls i).length xc) ∧ NumsAt w xo (ls i)
theorem NearZ.below {w w' : World} {g N : Nat} {ls : Nat → List Nat} (h : NearZ w g N ls) (hb : Below w.heap.size w w') : NearZ w' g N ls := fun i hi => by
  obtain ⟨xo, xc, h1, h2⟩ := h i hi
  exact ⟨xo, xc, (hb.cell (World.block_lt_of_cell? w _ h1)).trans h1, h2.below hb⟩
theorem NearR.z {w : World} {q g N : Nat} {ls : Nat → List Nat} (h : NearR w q g N ls) : NearZ w g N ls := fun i hi => by
  obtain ⟨xo, xc, h1, h2⟩ := h.2 i hi
  exact ⟨xo, xc, h1, fun k u hu => by
    obtain ⟨b, e, _, hc⟩ := h2 k u hu
    exact ⟨b, e, hc⟩⟩
theorem make56 (N : Nat) (hN : N ≤ 1000) (w : World) : (Instr.makeSlice 56 (.int .i64 (N : Int)) (.int .i64 (N : Int))).run Tryz.prog w = .ok (.slice (some ⟨w.heap.size, 0, none⟩) N N) (w.alloc (.cells (rep N (.bool false)) 4)) := by
  obtain ⟨i4, hi4, hy0, hy1, hy2⟩ := info_parts Tryz.info4
  have hr := run_make (P := Tryz.prog) w 56 4 i4 (.bool false) Tryz.underlying56 hi4 hy0 .i64 .i64 N N (by omega) (Int.le_refl _) (by rw [hy2]; omega) (by omega)
  simpa [hy1, Value.cells] using hr
/-- The list, and which nodes are in it, in memory. -/
structure RcS (w0 w : World) (gb N : Nat) (po : Option Addr) (pc : Nat) (L : List Nat) : Prop where
  own : w.ownsRow gb 3 1 (.slice po L.length pc) L.length (qv L)
  seen : RowB w gb N (fun x => L.contains x)
  bel : Below w0.heap.size w0 w
theorem RcS.ne {w0 w : World} {gb N : Nat} {po : Option Addr} {pc : Nat} {L : List Nat} (h : RcS w0 w gb N po pc L) : (Value.slice po L.length pc).ownBlock ≠ some gb := fun e => by
  obtain ⟨cur, q1⟩ := own_cells h.own e
  obtain ⟨cur', q2, _⟩ := h.seen
  rw [q1] at q2
  simp at q2
theorem RcS.next {w0 w w' : World} {gb N : Nat} {po : Option Addr} {pc : Nat} {L : List Nat} (h : RcS w0 w gb N po pc L) (hb : Below w.heap.size w w') : RcS w0 w' gb N po pc L :=
  ⟨ownsRow_blocks h.own (fun x hx => hb.block x ((h.own.lt x hx).2)), h.seen.block (hb.block _ h.seen.lt), below_next h.bel hb⟩
/-- One node is marked. -/
theorem RcS.mark {w0 w : World} {gb N : Nat} {po : Option Addr} {pc : Nat} {L : List Nat} {y : Nat} (h : RcS w0 w gb N po pc L) (hg : w0.heap.size ≤ gb) : (w.setCell ⟨gb, y, none⟩ (.bool true)).ownsRow gb 3 1 (.slice po L.length pc) L.length (qv L) ∧ RowB (w.setCell ⟨gb, y, none⟩ (.bool true)) gb N (fun x => (L ++ [y]).contains x) ∧ Below w0.heap.size w0 (w.setCell ⟨gb, y, none⟩ (.bool true)) := by
  refine ⟨ownsRow_blocks h.own (fun x hx => Below.heap_setCell _ _ _ _ (fun e => h.ne (by rw [hx]; exact congrArg some e))), (h.seen.set y).congr (fun j _ => ?_), h.bel.setCell (p := ⟨gb, y, none⟩) hg _⟩
  rw [Bool.eq_iff_iff]
  simp [or_comm]
/-- .. and comes to the list. -/
theorem RcS.push {w0 w w2 : World} {gb N : Nat} {po : Option Addr} {pc g1 c1 : Nat} {L L' : List Nat} {y : Nat} (ho : w.ownsRow gb 3 1 (.slice po L.length pc) L.length (qv L)) (hs : RowB w gb N (fun x => L'.contains x)) (hb : Below w0.heap.size w0 w) (hg : w0.heap.size ≤ gb)
    (hown : w2.ownsRow gb 3 1 (.slice (some ⟨g1, 0, none⟩) L'.length c1) L'.length (qv L')) (hgr : (w.alloc (Obj.cells #[.int .i64 (y : Int)] 3)).grownBy w2 (Value.slice po L.length pc).ownBlock) : RcS w0 w2 gb N (some ⟨g1, 0, none⟩) c1 L' := by
  have T := (alloc_turns w (Obj.cells #[.int .i64 (y : Int)] 3) (fun x => some x = (Value.slice po L.length pc).ownBlock)).trans (Turns.of_grown hgr)
  have hne : (Value.slice po L.length pc).ownBlock ≠ some gb := fun e => by
    obtain ⟨cur, q1⟩ := own_cells ho e
    obtain ⟨cur', q2, _⟩ := hs
    rw [q1] at q2
    simp at q2
  exact ⟨hown, hs.turns T (fun e => hne e.symm), Turns.below hb T hb.size (fun x hx => Nat.le_trans hg ((ho.lt x hx.symm).1))⟩
def lenOfZ : Value → Nat
  | .slice _ m _ => m
  | _ => 0
set_option maxRecDepth 4000 in
set_option maxHeartbeats 6000000 in
theorem reachZ_call {w : World} {g N s : Nat} {ls : Nat → List Nat} {adj : Nat → Nat → Bool} (hn : N ≤ 100) (hnear : NearZ w g N ls) (hls : ∀ x y, x < N → (y ∈ ls x ↔ y < N ∧ adj x y = true)) (hll : ∀ x, x < N → (ls x).length ≤ 1000) (hs : s < N) {F : FuncId} {caps : Array Value} (hF : ∀ args w', (callFunc F args).run Tryz.prog w' = .ok (.enter F args) w')
    {opn : Nat → Bool} (hf : ∀ W : World, Below w.heap.size w W → ∀ x, x < N → Calls Tryz.prog F (#[.int .i64 (x : Int)] ++ caps) W fun e w' => e = .returned (.bool (opn x)) ∧ Below W.heap.size W w') :
    Calls Tryz.prog 59 #[sl g N, .int .i64 (s : Int), .func (.func F) #[] caps] w fun e w' => ∃ po pc L, e = .returned (.slice po L.length pc) ∧ w'.ownsRow w.heap.size 3 1 (.slice po L.length pc) L.length (qv L) ∧ Bfo N adj opn s L ∧ Below w.heap.size w w' := by
  have HN : Hid (NearZ w g N ls) := hnear
  have HLS : Hid (∀ x y, x < N → (y ∈ ls x ↔ y < N ∧ adj x y = true)) := hls
  have HLL : Hid (∀ x, x < N → (ls x).length ≤ 1000) := hll
  have HF : Hid (∀ W : World, Below w.heap.size w W → ∀ x, x < N → Calls Tryz.prog F (#[.int .i64 (x : Int)] ++ caps) W fun e w' => e = .returned (.bool (opn x)) ∧ Below W.heap.size W w') := hf
  have hmk := make56 N (by omega)
  have i1 : (0 : Int) ≤ (s : Int) := by omega
  have i2 : (s : Int) < (N : Int) := by omega
  clear hnear hls hll hf
  go_enter Tryz.func59, Tryz.ntmps59
  go_upto_region 2 with (fail)
  have hB0 := below_alloc (Below.refl _ w) (Obj.cells (rep N (.bool false)) 4)
  have hr0 : RowB (w.alloc (Obj.cells (rep N (.bool false)) 4)) w.heap.size N (fun _ => false) := ⟨_, heap_alloc_new _ _, rep_size _ _, fun j hj => rep_at _ hj⟩
  obtain ⟨gb, hgb⟩ : ∃ gb, gb = w.heap.size := ⟨_, rfl⟩
  have HGB : Hid (gb = w.heap.size) := hgb
  rw [← hgb] at hr0 ⊢
  generalize w.alloc (Obj.cells (rep N (.bool false)) 4) = W0 at hB0 hr0 ⊢
  have c0 := hr0.cell hs
  have f0 := hr0.free s
  have HR1 : Hid (RowB (W0.setCell ⟨gb, s, none⟩ (.bool true)) gb N (fun x => [s].contains x)) := (hr0.set s).congr (fun j _ => by rw [Bool.eq_iff_iff]; simp)
  have HB1 : Hid (Below w.heap.size w (W0.setCell ⟨gb, s, none⟩ (.bool true))) := hB0.setCell (p := ⟨gb, s, none⟩) (by rw [hgb]; exact Nat.le_refl _) _
  clear hgb hmk
  go_upto_region 4 with (fail)
  obtain ⟨g1, hg1⟩ : ∃ g1, g1 = W0.heap.size := ⟨_, rfl⟩
  have hg2 : g1 = (W0.setCell ⟨gb, s, none⟩ (.bool true)).heap.size := by rw [hg1]; exact (World.size_setCell _ _ _).symm
  rw [← hg1]
  generalize W0.setCell ⟨gb, s, none⟩ (.bool true) = W1 at HR1 HB1 hg2 ⊢
  have hszW1 := HR1.out.lt
  have ho1 : (W1.alloc (Obj.cells #[.int .i64 (s : Int)] 3)).ownsRow gb 3 1 (.slice (some ⟨W1.heap.size, 0, none⟩) [s].length 1) [s].length (qv [s]) := ownsRow_one W1 gb (.int .i64 (s : Int)) 3 (by omega)
  have HS1 : Hid (RcS w (W1.alloc (Obj.cells #[.int .i64 (s : Int)] 3)) gb N (some ⟨W1.heap.size, 0, none⟩) 1 [s]) := ⟨ho1, HR1.out.block (Below.heap_alloc _ _ _ hszW1), below_alloc HB1.out _⟩
  rw [← hg2] at HS1
  generalize W1.alloc (Obj.cells #[.int .i64 (s : Int)] 3) = W2 at HS1 ⊢
  clear c0 f0 hr0 HR1 HB1 hB0 ho1 hg1 hg2 hszW1
  go_wp2
  go_loopw [9, 8] (fun s9 s8 wr => ∃ (at' : Nat) (po : Option Addr) (pc : Nat) (L : List Nat), s9 = .int .i64 (at' : Int) ∧ s8 = .slice po L.length pc ∧ at' ≤ L.length ∧ BfP N adj opn s L ∧ ClTo ls opn L at' ∧ RcS w wr gb N po pc L) (fun s9 _ _ => N - (numOf s9).toNat)
  case atStart => exact ⟨0, some ⟨g1, 0, none⟩, 1, [s], rfl, rfl, Nat.zero_le _, BfP.one hs, fun i hi => by omega, HS1.out⟩
  case round =>
    clear HS1
    obtain ⟨at', po, pc, L, rfl, rfl, hat, hbf, hcl, hrc⟩ := hrel
    have hLN := hbf.short
    by_cases hlt : at' < L.length
    · obtain ⟨v, hv⟩ : ∃ v, v = L.getD at' 0 := ⟨_, rfl⟩
      have hvN : v < N := by rw [hv]; exact hbf.lt _ (getD_mem' hlt)
      obtain ⟨gl, el, cv⟩ := qcell hrc.own (k := at') (u := v) (by rw [hv, getD_lt hlt, List.getElem?_eq_getElem hlt])
      subst el
      obtain ⟨xo, xc, cn0, hnum⟩ := HN.out v hvN
      have cn := (hrc.bel.cell (World.block_lt_of_cell? w _ cn0)).trans cn0
      have HNUM : Hid (∀ W : World, Below w.heap.size w W → NumsAt W xo (ls v)) := fun W hW => hnum.below hW
      have HBF : Hid (BfP N adj opn s L) := hbf
      have HCL : Hid (ClTo ls opn L at') := hcl
      have HRC : Hid (RcS w wr gb N (some ⟨gl, 0, none⟩) pc L) := hrc
      have HV : Hid (v = L.getD at' 0) := hv
      have hlv := HLL.out v hvN
      have j1 : (0 : Int) ≤ (at' : Int) := by omega
      have j2 : (at' : Int) < (L.length : Int) := by omega
      have j3 : (0 : Int) ≤ (v : Int) := by omega
      have j4 : (v : Int) < (N : Int) := by omega
      clear hbf hcl hrc hv hnum cn0
      go_wp2
      go_loopw [34, 8] (fun s34 s8 W => ∃ (j : Nat) (po : Option Addr) (pc : Nat) (L' : List Nat), s34 = .int .i64 (j : Int) ∧ s8 = .slice po L'.length pc ∧ j ≤ (ls v).length ∧ BfP N adj opn s L' ∧ (L'.getD at' 0 = v ∧ at' < L'.length) ∧ ClTo ls opn L' at' ∧ (∀ y, y ∈ (ls v).take j → opn y = true → y ∈ L') ∧ RcS w W gb N po pc L') (fun s34 _ _ => (ls v).length - (numOf s34).toNat)
      case atStart => exact ⟨0, some ⟨gl, 0, none⟩, pc, L, rfl, rfl, Nat.zero_le _, HBF.out, ⟨HV.out.symm, hlt⟩, HCL.out, fun y hy => by simp at hy, HRC.out⟩
      case round =>
        clear HBF HCL HRC HV cv cn
        obtain ⟨j, po, pc', L', rfl, rfl, hj, hbf, ⟨hv', hat'⟩, hcl, htk, hrc⟩ := hrel
        have HBF : Hid (BfP N adj opn s L') := hbf
        have HCL : Hid (ClTo ls opn L' at') := hcl
        have HTK : Hid (∀ y, y ∈ (ls v).take j → opn y = true → y ∈ L') := htk
        have HV : Hid (L'.getD at' 0 = v) := hv'
        have HRC : Hid (RcS w wr gb N po pc' L') := hrc
        clear hbf hcl htk hv' hrc
        by_cases hjl : j < (ls v).length
        · obtain ⟨y, hy⟩ : ∃ y, (ls v)[j]? = some y := ⟨_, List.getElem?_eq_getElem hjl⟩
          have hyN := ((HLS.out v y hvN).1 (List.mem_of_getElem? hy)).1
          have HYA : Hid (adj v y = true) := ((HLS.out v y hvN).1 (List.mem_of_getElem? hy)).2
          have HTS : Hid ((ls v).take (j + 1) = (ls v).take j ++ [y]) := by
            show _ = _
            rw [List.take_add_one, hy]; rfl
          obtain ⟨bx, ex, cx⟩ := (HNUM.out _ HRC.out.bel) j y hy
          subst ex
          have cs := HRC.out.seen.cell hyN
          have fs := HRC.out.seen.free y
          have HC := HF.out _ HRC.out.bel y hyN
          have i3 : (0 : Int) ≤ (j : Int) := by omega
          have i4 : (j : Int) < ((ls v).length : Int) := by omega
          have i5 : (0 : Int) ≤ (y : Int) := by omega
          have i6 : (y : Int) < (N : Int) := by omega
          clear hy
          obtain ⟨se, hse⟩ : ∃ se, se = L'.contains y := ⟨_, rfl⟩
          obtain ⟨oy, hoy⟩ : ∃ oy, oy = opn y := ⟨_, rfl⟩
          have HSE : Hid (se = L'.contains y) := hse
          have HOY : Hid (oy = opn y) := hoy
          simp only [← hse] at cs
          rw [← hoy] at HC
          have HCC : Hid (Calls Tryz.prog F (#[.int .i64 (y : Int)] ++ caps) wr fun e w' => e = .returned (.bool oy) ∧ Below wr.heap.size wr w') := HC
          clear hse hoy HC
          cases se with
          | true =>
            go_wp2
            go_roundw
            case rel => exact ⟨j + 1, po, pc', L', by go_num, rfl, by omega, HBF.out, ⟨HV.out, hat'⟩, HCL.out, fun z hz ho => by
              rw [HTS.out] at hz
              rcases List.mem_append.1 hz with h | h
              · exact HTK.out z h ho
              · rw [List.mem_singleton.1 h]
                have := HSE.out
                simpa using this.symm, HRC.out⟩
            case measure => simp [numOf]; omega
          | false =>
            cases oy with
            | false =>
              go_wp2_with (first | (refine Calls.mono HCC.out ?_; rintro e wa ⟨rfl, hwa⟩) | go_in)
              go_roundw
              case rel => exact ⟨j + 1, po, pc', L', by go_num, rfl, by omega, HBF.out, ⟨HV.out, hat'⟩, HCL.out, fun z hz ho => by
                rw [HTS.out] at hz
                rcases List.mem_append.1 hz with h | h
                · exact HTK.out z h ho
                · rw [List.mem_singleton.1 h] at ho
                  rw [← HOY.out] at ho
                  exact absurd ho (by simp), HRC.out.next hwa⟩
              case measure => simp [numOf]; omega
            | true =>
              go_upto_region 11 with (first | (refine Calls.mono HCC.out ?_; rintro e wa ⟨rfl, hwa⟩) | go_in)
              have hrc1 := HRC.out.next hwa
              have HRC1 : Hid (RcS w wa gb N po pc' L') := hrc1
              have cs1 := hrc1.seen.cell hyN
              have fs1 := hrc1.seen.free y
              have hyL : y ∉ L' := fun h => by
                have := HSE.out
                rw [List.contains_iff_mem.2 h] at this
                cases this
              clear HRC HCC hwa cs fs hrc1 HSE
              go_upto_region 12 with (fail)
              obtain ⟨ho2, hr2, hb2⟩ := HRC1.out.mark (y := y) (by rw [HGB.out]; exact Nat.le_refl _)
              have HOWN : Hid ((wa.setCell ⟨gb, y, none⟩ (.bool true)).ownsRow gb 3 1 (.slice po L'.length pc') L'.length (qv L')) := ho2
              have HRB : Hid (RowB (wa.setCell ⟨gb, y, none⟩ (.bool true)) gb N (fun x => (L' ++ [y]).contains x)) := hr2
              have HBB : Hid (Below w.heap.size w (wa.setCell ⟨gb, y, none⟩ (.bool true))) := hb2
              clear ho2 hr2 hb2 cs1 fs1 HRC1
              generalize wa.setCell ⟨gb, y, none⟩ (.bool true) = W3 at HOWN HRB HBB ⊢
              have hsz : gb ≤ W3.heap.size := Nat.le_of_lt HRB.out.lt
              have hL'N := HBF.out.short
              go_wp2_with (first | (at_builtin; refine wpList_pushA (x := y) rfl _ _ rfl rfl rfl HOWN.out (by omega) hsz ?_; intro g2 c2 w2 hown1 hgr1 hat1) | go_in)
              have hrc2 := RcS.push HOWN.out HRB.out HBB.out (by rw [HGB.out]; exact Nat.le_refl _) hown1 hgr1
              go_roundw
              case rel => exact ⟨j + 1, some ⟨g2, 0, none⟩, c2, L' ++ [y], by go_num, by simp, by omega, HBF.out.snoc hyN hyL HOY.out.symm hat' (by rw [HV.out]; exact HYA.out), ⟨by rw [getD_leftZ hat']; exact HV.out, by simp; omega⟩, HCL.out.grow (by omega), fun z hz ho => by
                rw [HTS.out] at hz
                rcases List.mem_append.1 hz with h | h
                · exact List.mem_append_left _ (HTK.out z h ho)
                · exact List.mem_append_right _ h, hrc2⟩
              case measure => simp [numOf]; omega
        · have hje : j = (ls v).length := by omega
          have i4 : ¬ (j : Int) < ((ls v).length : Int) := by omega
          have HCL2 : Hid (ClTo ls opn L' (at' + 1)) := fun i hi z hz ho => by
            by_cases e : i = at'
            · subst e
              rw [HV.out] at hz
              exact HTK.out z (by rw [hje, List.take_length]; exact hz) ho
            · exact HCL.out i (by omega) z hz ho
          have hL'N := HBF.out.short
          go_wp2
          go_roundw
          case rel => exact ⟨at' + 1, po, pc', L', by go_num, rfl, by omega, HBF.out, HCL2.out, HRC.out⟩
          case measure => simp [numOf]; omega
    · have hL0 : at' = L.length := by omega
      have HBF : Hid (Bfo N adj opn s L) := hbf.bfo HLS.out (by rw [hL0] at hcl; exact hcl)
      have HRC : Hid (RcS w wr gb N po pc L) := hrc
      have hnlt : ¬ (at' : Int) < (L.length : Int) := by omega
      clear hbf hcl hrc
      go_wp2
      go_ret
      refine ⟨po, pc, L, rfl, ?_, HBF.out, HRC.out.bel⟩
      rw [← HGB.out]; exact HRC.out.own
end Go.Proofs.YtdnmoifbkojnlaaGreat
