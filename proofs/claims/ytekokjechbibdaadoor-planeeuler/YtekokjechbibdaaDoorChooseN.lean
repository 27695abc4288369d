/- roomFor and choose: a face that has room for a piece. choose: the piece that is to be laid next, and a face for it. -/
import Derived.Test.YtekokjechbibdaaDoorPieceM
namespace Go.Proofs.YtekokjechbibdaaDoor
set_option maxRecDepth 8000
open Go.RowKit Go.Maps
attribute [local go_sem ↓] Go.wp_at_zero Go.wp_at_succ
set_option maxHeartbeats 1000000 in
theorem room1_call {w : World} {b3 : Nat} {p : Piece} {hv : Value} {nd : Nat} (h3 : PBox w b3 p.inner p.feet) (hf : p.feet < 2 ^ 128) (hn : nd < 2 ^ 128) :
    Calls Tryd.prog 79 #[.agg #[hv, .int .u64 (lo64 nd : Int), .int .u64 (hi64 nd : Int)], .pointer (some ⟨b3, 0, none⟩)] w fun e w' => e = .returned (.bool (sLess p.feet nd == 0)) ∧ Below w.heap.size w w' := by
  obtain ⟨inner, feet⟩ := p
  simp only at *
  have C62 : Hid (∀ A : World, Calls Tryd.prog 62 #[sv feet, sv nd] A fun e w' => e = .returned (sv (sLess feet nd)) ∧ Below A.heap.size A w') := fun A => less_call hf hn
  have C64 : Hid (∀ A : World, Calls Tryd.prog 64 #[sv (sLess feet nd)] A fun e w' => e = .returned (.bool (sLess feet nd == 0)) ∧ Below A.heap.size A w') := fun A => isEmpty_call (less_lt hf)
  generalize hb : (sLess feet nd == 0) = bb at *
  clear hb
  have hBa : Below w.heap.size w (w.alloc (Obj.cells #[hv, .int .u64 (lo64 nd : Int), .int .u64 (hi64 nd : Int)] 86)) := below_alloc (Below.refl _ w) _
  have hb2 : Box (w.alloc (Obj.cells #[hv, .int .u64 (lo64 nd : Int), .int .u64 (hi64 nd : Int)] 86)) w.heap.size #[hv, .int .u64 (lo64 nd : Int), .int .u64 (hi64 nd : Int)] 86 := heap_alloc_new _ _
  have h3a : PBox (w.alloc (Obj.cells #[hv, .int .u64 (lo64 nd : Int), .int .u64 (hi64 nd : Int)] 86)) b3 inner feet := (hBa.block _ (lt_of_block h3)).trans h3
  obtain ⟨p0, p1, p2, p3⟩ := pbox_cells h3a
  have c1 := box_cell hb2 (i := 1) rfl
  have c2 := box_cell hb2 (i := 2) rfl
  have HB : Hid _ := hBa
  clear hBa hb2 h3a h3 hf hn
  go_enter Tryd.func79, Tryd.ntmps79
  go_wp2_with (first | (go_at_call 62; refine Calls.mono (C62.out _) ?_; rintro e w1 ⟨rfl, h1⟩) | (go_at_call 64; refine Calls.mono (C64.out _) ?_; rintro e w2 ⟨rfl, h2⟩) | go_in)
  go_ret
  exact ⟨rfl, below_next (below_next HB.out h1) h2⟩
theorem enter79 (args : Array Value) (w : World) : (callFunc 79 args).run Tryd.prog w = .ok (.enter 79 args) w := by
  simp [callFunc, Tryd.func79, go_sem]
  rw [if_neg (of_decide_eq_true (by kernel_rfl)), if_neg (by intro h; have : Tryd.f79.body.isSome = true := (by kernel_rfl); rw [h] at this; cases this)]
/-- The faces F lie from (g, o) on, three cells each. -/
def FCells (w : World) (g o : Nat) (F : List Face) : Prop := ∀ (i : Nat) (f : Face), F[i]? = some f → ∃ hv, w.cell? ⟨g, o + i * 3, none⟩ = some hv ∧ w.cell? ⟨g, o + i * 3 + 1, none⟩ = some (.int .u64 (lo64 f.nodes : Int)) ∧ w.cell? ⟨g, o + i * 3 + 2, none⟩ = some (.int .u64 (hi64 f.nodes : Int))
theorem FCells.under {w w' : World} {g o : Nat} {F : List Face} (h : FCells w g o F) (hb : Below w.heap.size w w') : FCells w' g o F := fun i f hf => by
  obtain ⟨hv, h1, h2, h3⟩ := h i f hf
  have k : ∀ {a : Addr} {x : Value}, w.cell? a = some x → w'.cell? a = some x := fun h => (hb.cell (World.block_lt_of_cell? _ _ h)).trans h
  exact ⟨hv, k h1, k h2, k h3⟩
def optI : Option Nat → Int
  | none => -1
  | some i => (i : Int)
set_option maxHeartbeats 2000000 in
theorem indexF_call {w : World} {g o cap b3 : Nat} {F : List Face} {p : Piece} (hF : FCells w g o F) (h3 : PBox w b3 p.inner p.feet) (hf : p.feet < 2 ^ 128) (hn : ∀ f ∈ F, f.nodes < 2 ^ 128) (hl : F.length ≤ 100000) :
    Calls Tryd.prog 78 #[.slice (some ⟨g, o, none⟩) F.length cap, .func (.func 79) #[] #[.pointer (some ⟨b3, 0, none⟩)]] w fun e w' => e = .returned (.int .i64 (optI (F.findIdx? (hasRoom p)))) ∧ Below w.heap.size w w' := by
  have HF : Hid (FCells w g o F) := hF
  have H3 : Hid (PBox w b3 p.inner p.feet) := h3
  have HX : Hid (p.feet < 2 ^ 128 ∧ ∀ f ∈ F, f.nodes < 2 ^ 128) := ⟨hf, hn⟩
  obtain ⟨R, hR⟩ : ∃ R, R = optI (F.findIdx? (hasRoom p)) := ⟨_, rfl⟩
  rw [← hR]
  have HR : Hid (R = optI (F.findIdx? (hasRoom p))) := hR
  obtain ⟨m, hm⟩ : ∃ m, m = F.length := ⟨_, rfl⟩
  rw [← hm] at hl ⊢
  have HM : Hid (m = F.length) := hm
  have hE := enter79
  clear hF h3 hf hn hR hm
  go_enter Tryd.func78, Tryd.ntmps78
  go_upto_region 2 with (fail)
  go_loopw [8] (fun s8 wz => ∃ k : Nat, k ≤ m ∧ s8 = .int .i64 (k : Int) ∧ (∀ (i : Nat) (f : Face), i < k → F[i]? = some f → hasRoom p f = false) ∧ Below w.heap.size w wz) (fun s8 _ => m - (numOf s8).toNat)
  case atStart => exact ⟨0, Nat.zero_le _, rfl, fun i f hi => by omega, Below.refl _ _⟩
  case round =>
    obtain ⟨k, hk, rfl, hno, hB⟩ := hrel
    have HNO : Hid _ := hno
    clear hno
    by_cases hlt : k < m
    · have hlt' : k < F.length := by have := HM.out; omega
      obtain ⟨f, hf⟩ : ∃ f, F[k]? = some f := ⟨F[k], by rw [List.getElem?_eq_getElem hlt']⟩
      obtain ⟨hv, c0, c1, c2⟩ := (HF.out.under hB) k f hf
      have C79 : Hid (∀ A, Below wr.heap.size wr A → Calls Tryd.prog 79 #[.agg #[hv, .int .u64 (lo64 f.nodes : Int), .int .u64 (hi64 f.nodes : Int)], .pointer (some ⟨b3, 0, none⟩)] A fun e w' => e = .returned (.bool (hasRoom p f)) ∧ Below A.heap.size A w') := fun A hA => room1_call (((below_next hB hA).block _ (lt_of_block H3.out)).trans H3.out) HX.out.1 (HX.out.2 f (List.mem_of_getElem? hf))
      have hfi : hasRoom p f = true → F.findIdx? (hasRoom p) = some k := fun hh => by
        rw [List.findIdx?_eq_some_iff_getElem]
        refine ⟨hlt', ?_, fun j hj => ?_⟩
        · obtain ⟨_, rfl⟩ := List.getElem?_eq_some_iff.1 hf; exact hh
        · have := HNO.out j (F[j]'(by omega)) hj (List.getElem?_eq_getElem _)
          simp [this]
      have i1 : (0 : Int) ≤ (k : Int) := by omega
      have i2 : (k : Int) < (m : Int) := by omega
      have HF2 : Hid (F[k]? = some f) := hf
      have HFI : Hid _ := hfi
      have HBr : Hid _ := hB
      clear hfi hf hlt'
      generalize hbb : hasRoom p f = bb at *
      have HBB : Hid _ := hbb
      clear hbb
      cases bb with
      | true =>
        have hRk : R = (k : Int) := by rw [HR.out, HFI.out rfl]; rfl
        go_wp2_with (first | (go_at_call 79; refine Calls.mono (C79.out _ (Below.refl _ _)) ?_; rintro e w1 ⟨rfl, h1⟩) | go_in)
        go_ret
        exact ⟨by rw [hRk]; rfl, below_next HBr.out h1⟩
      | false =>
        go_wp2_with (first | (go_at_call 79; refine Calls.mono (C79.out _ (Below.refl _ _)) ?_; rintro e w1 ⟨rfl, h1⟩) | go_in)
        go_roundw
        case rel => exact ⟨k + 1, by omega, by go_num, fun i f' hi hf' => (by
            rcases Nat.lt_or_ge i k with h | h
            · exact HNO.out i f' h hf'
            · have : i = k := by omega
              subst this
              rw [HF2.out] at hf'
              cases hf'
              exact HBB.out), below_next HBr.out h1⟩
        case measure => simp [numOf]; omega
    · have hkm : k = m := by omega
      have hRn : R = -1 := by
        have : F.findIdx? (hasRoom p) = none := by
          rw [List.findIdx?_eq_none_iff]
          intro f hf
          obtain ⟨i, hi⟩ := List.getElem?_of_mem hf
          exact HNO.out i f (by have := (List.getElem?_eq_some_iff.1 hi).1; have := HM.out; omega) hi
        rw [HR.out, this]; rfl
      have i2 : ¬ (k : Int) < (m : Int) := by omega
      go_wp2
      go_ret
      exact ⟨rfl, hB⟩
theorem FCells.drop {w : World} {g o : Nat} {F : List Face} (h : FCells w g o F) (n : Nat) : FCells w g (o + n * 3) (F.drop n) := fun i f hf => by
  rw [List.getElem?_drop] at hf
  obtain ⟨hv, h1, h2, h3⟩ := h (n + i) f hf
  have e : o + n * 3 + i * 3 = o + (n + i) * 3 := by omega
  rw [e]
  exact ⟨hv, h1, h2, h3⟩
set_option maxHeartbeats 2000000 in
theorem room_call {w : World} {g cap fr : Nat} {F : List Face} {p : Piece} (hF : FCells w g 0 F) (hf : p.feet < 2 ^ 128) (hn : ∀ f ∈ F, f.nodes < 2 ^ 128) (hl : F.length ≤ 100000) (hc : F.length ≤ cap) (hfr : fr ≤ F.length) :
    Calls Tryd.prog 70 #[pv p, .slice (some ⟨g, 0, none⟩) F.length cap, .int .i64 (fr : Int)] w fun e w' => e = .returned (.int .i64 (optI (roomFrom p F fr))) ∧ Below w.heap.size w w' := by
  obtain ⟨inner, feet⟩ := p
  simp only at hf
  have hBa : Below w.heap.size w (w.alloc (Obj.cells #[.int .u64 (lo64 inner : Int), .int .u64 (hi64 inner : Int), .int .u64 (lo64 feet : Int), .int .u64 (hi64 feet : Int)] 103)) := below_alloc (Below.refl _ w) _
  have hb3 : PBox (w.alloc (Obj.cells #[.int .u64 (lo64 inner : Int), .int .u64 (hi64 inner : Int), .int .u64 (lo64 feet : Int), .int .u64 (hi64 feet : Int)] 103)) w.heap.size inner feet := heap_alloc_new _ _
  have hFa := (hF.under hBa).drop fr
  have hFn : ∀ f ∈ F.drop fr, f.nodes < 2 ^ 128 := fun f h => hn f (List.mem_of_mem_drop h)
  have hln : (F.drop fr).length = F.length - fr := List.length_drop
  obtain ⟨ox, hox⟩ : ∃ ox, ox = (F.drop fr).findIdx? (hasRoom ⟨inner, feet⟩) := ⟨_, rfl⟩
  have C78 : Hid (∀ o' cp, FCells (w.alloc (Obj.cells #[.int .u64 (lo64 inner : Int), .int .u64 (hi64 inner : Int), .int .u64 (lo64 feet : Int), .int .u64 (hi64 feet : Int)] 103)) g o' (F.drop fr) → Calls Tryd.prog 78 #[.slice (some ⟨g, o', none⟩) (F.length - fr) cp, .func (.func 79) #[] #[.pointer (some ⟨w.heap.size, 0, none⟩)]] (w.alloc (Obj.cells #[.int .u64 (lo64 inner : Int), .int .u64 (hi64 inner : Int), .int .u64 (lo64 feet : Int), .int .u64 (hi64 feet : Int)] 103)) fun e w' => e = .returned (.int .i64 (optI ox)) ∧ Below (w.alloc (Obj.cells #[.int .u64 (lo64 inner : Int), .int .u64 (hi64 inner : Int), .int .u64 (lo64 feet : Int), .int .u64 (hi64 feet : Int)] 103)).heap.size (w.alloc (Obj.cells #[.int .u64 (lo64 inner : Int), .int .u64 (hi64 inner : Int), .int .u64 (lo64 feet : Int), .int .u64 (hi64 feet : Int)] 103)) w') := fun o' cp hcc => by
    have := indexF_call (cap := cp) (p := ⟨inner, feet⟩) hcc hb3 hf hFn (by omega)
    rw [hln, ← hox] at this
    exact this
  have hrf : roomFrom ⟨inner, feet⟩ F fr = ox.map (fr + ·) := by unfold roomFrom; rw [hox]
  have hol : ∀ i, ox = some i → fr + i ≤ 100000 := fun i hi => by
    rw [hox] at hi
    have := (List.findIdx?_eq_some_iff_getElem.1 hi).1
    omega
  rw [hrf]
  have HB : Hid _ := hBa
  have HFA : Hid (FCells (w.alloc (Obj.cells #[.int .u64 (lo64 inner : Int), .int .u64 (hi64 inner : Int), .int .u64 (lo64 feet : Int), .int .u64 (hi64 feet : Int)] 103)) g (fr * 3) (F.drop fr) ∧ (F.length - fr = 0 → F.drop fr = [])) := ⟨by simpa using hFa, fun h => List.eq_nil_of_length_eq_zero (by omega)⟩
  generalize hLL : F.drop fr = LL at *
  have hfl0 : fr ≤ F.length := hfr
  generalize F.length = m at *
  clear hF hFa hb3 hBa hn hFn hln hox hrf hf hLL
  have i1 : (0 : Int) ≤ (fr : Int) := by omega
  have i2 : (fr : Int) ≤ (m : Int) := by omega
  have i3 : (m : Int) ≤ (cap : Int) := by omega
  by_cases hcf : cap = fr
  · have hmf : m = fr := by omega
    subst hmf
    subst hcf
    have C78a := C78.out 0 0 (by
      have := HFA.out.2 (by omega)
      rw [this]
      intro i f hf; simp at hf)
    rw [Nat.sub_self] at C78a
    have C78' : Hid _ := C78a
    clear C78 C78a
    go_enter Tryd.func70, Tryd.ntmps70
    go_upto_region 2 with (first | (go_at_call 78; refine Calls.mono C78'.out ?_; rintro e w1 ⟨rfl, h1⟩) | fail)
    have hBf := below_next HB.out h1
    cases ox with
    | none =>
      simp only [optI]
      go_wp2
      go_ret
      exact ⟨rfl, hBf⟩
    | some i =>
      have hoi := hol i rfl
      have k1 : ¬ (i : Int) < 0 := by omega
      simp only [optI]
      go_wp2
      go_ret
      exact ⟨rfl, hBf⟩
  · have hcf2 : ¬ (cap : Int) = (fr : Int) := by omega
    have C78' : Hid _ := C78.out (fr * 3) (cap - fr) HFA.out.1
    clear C78
    go_enter Tryd.func70, Tryd.ntmps70
    go_upto_region 2 with (first | (go_at_call 78; refine Calls.mono C78'.out ?_; rintro e w1 ⟨rfl, h1⟩) | fail)
    have hBf := below_next HB.out h1
    cases ox with
    | none =>
      simp only [optI]
      go_wp2
      go_ret
      exact ⟨rfl, hBf⟩
    | some i =>
      have hoi := hol i rfl
      have k1 : ¬ (i : Int) < 0 := by omega
      simp only [optI]
      go_wp2
      go_ret
      exact ⟨rfl, hBf⟩
end Go.Proofs.YtekokjechbibdaaDoor

namespace Go.Proofs.YtekokjechbibdaaDoor
set_option maxRecDepth 8000
open Go.RowKit Go.Maps
attribute [local go_sem ↓] Go.wp_at_zero Go.wp_at_succ
/-- The pieces P lie from (g, 0) on, four cells each. -/
def PCells (w : World) (g : Nat) (P : List Piece) : Prop := ∀ (i : Nat) (p : Piece), P[i]? = some p → w.cell? ⟨g, i * 4, none⟩ = some (.int .u64 (lo64 p.inner : Int)) ∧ w.cell? ⟨g, i * 4 + 1, none⟩ = some (.int .u64 (hi64 p.inner : Int)) ∧ w.cell? ⟨g, i * 4 + 2, none⟩ = some (.int .u64 (lo64 p.feet : Int)) ∧ w.cell? ⟨g, i * 4 + 3, none⟩ = some (.int .u64 (hi64 p.feet : Int))
theorem PCells.under {w w' : World} {g : Nat} {P : List Piece} (h : PCells w g P) (hb : Below w.heap.size w w') : PCells w' g P := fun i p hp => by
  obtain ⟨h1, h2, h3, h4⟩ := h i p hp
  have k : ∀ {a : Addr} {x : Value}, w.cell? a = some x → w'.cell? a = some x := fun h => (hb.cell (World.block_lt_of_cell? _ _ h)).trans h
  exact ⟨k h1, k h2, k h3, k h4⟩
theorem room_lt {p : Piece} {F : List Face} {fr r : Nat} (h : roomFrom p F fr = some r) : r < F.length := by
  unfold roomFrom at h
  obtain ⟨i, hi, rfl⟩ := Option.map_eq_some_iff.1 h
  have := (List.findIdx?_eq_some_iff_getElem.1 hi).1
  rw [List.length_drop] at this
  omega
set_option maxHeartbeats 4000000 in
theorem choose_call {w : World} {gp pc g cap : Nat} {P : List Piece} {F : List Face} (hP : PCells w gp P) (hF : FCells w g 0 F) (hf : ∀ p ∈ P, p.feet < 2 ^ 128) (hn : ∀ f ∈ F, f.nodes < 2 ^ 128) (hl : F.length ≤ 100000) (hc : F.length ≤ cap) (hpl : P.length ≤ 1000000) (h0 : P ≠ []) :
    Calls Tryd.prog 58 #[.slice (some ⟨gp, 0, none⟩) P.length pc, .slice (some ⟨g, 0, none⟩) F.length cap] w fun e w' => e = .returned (.tuple #[.int .i64 ((choose P F).1 : Int), .int .i64 (optI (choose P F).2)]) ∧ Below w.heap.size w w' := by
  have HP : Hid (PCells w gp P) := hP
  have C70 : Hid (∀ A p fr, p ∈ P → fr ≤ F.length → Below w.heap.size w A → Calls Tryd.prog 70 #[pv p, .slice (some ⟨g, 0, none⟩) F.length cap, .int .i64 (fr : Int)] A fun e w' => e = .returned (.int .i64 (optI (roomFrom p F fr))) ∧ Below A.heap.size A w') := fun A p fr hp hfr hA => by
    have k : ∀ {a : Addr} {x : Value}, w.cell? a = some x → A.cell? a = some x := fun h => (hA.cell (World.block_lt_of_cell? _ _ h)).trans h
    refine room_call (fun i f hi => ?_) (hf p hp) hn hl hc hfr
    obtain ⟨hv, h1, h2, h3⟩ := hF i f hi
    exact ⟨hv, k h1, k h2, k h3⟩
  have HL : Hid (F.length ≤ 100000 ∧ P ≠ []) := ⟨hl, h0⟩
  have hposP : 0 < P.length := List.length_pos_iff.2 h0
  obtain ⟨m, hm⟩ : ∃ m, m = P.length := ⟨_, rfl⟩
  rw [← hm] at hpl hposP ⊢
  have HM : Hid (m = P.length) := hm
  obtain ⟨R, hR⟩ : ∃ R, R = choose P F := ⟨_, rfl⟩
  rw [← hR]
  have HR : Hid (R = choose P F) := hR
  clear hP hF hf hn hl hc h0 hm hR
  obtain ⟨n, hn⟩ : ∃ n, n = F.length := ⟨_, rfl⟩
  rw [← hn] at C70 ⊢
  have HN : Hid (n = F.length) := hn
  clear hn
  go_enter Tryd.func58, Tryd.ntmps58
  go_upto_region 2 with (fail)
  go_loopw [11] (fun s11 wz => ∃ k : Nat, k ≤ m ∧ s11 = .int .i64 (k : Int) ∧ chooseL F 0 P = chooseL F k (P.drop k) ∧ Below w.heap.size w wz) (fun s11 _ => m - (numOf s11).toNat)
  case atStart => exact ⟨0, Nat.zero_le _, rfl, rfl, Below.refl _ _⟩
  case round =>
    obtain ⟨k, hk, rfl, hch, hB⟩ := hrel
    have HCH : Hid _ := hch
    have HB : Hid (Below w.heap.size w wr) := hB
    clear hch
    by_cases hlt : k < m
    · have hlt' : k < P.length := by have := HM.out; omega
      obtain ⟨p, hp⟩ : ∃ p, P[k]? = some p := ⟨P[k], by rw [List.getElem?_eq_getElem hlt']⟩
      have hdr : P.drop k = p :: P.drop (k + 1) := by
        obtain ⟨_, rfl⟩ := List.getElem?_eq_some_iff.1 hp
        exact List.drop_eq_getElem_cons hlt'
      have k' : ∀ {a : Addr} {x : Value}, w.cell? a = some x → wr.cell? a = some x := fun h => (hB.cell (World.block_lt_of_cell? _ _ h)).trans h
      obtain ⟨c0, c1, c2, c3⟩ := HP.out k p hp
      have c0 := k' c0
      have c1 := k' c1
      have c2 := k' c2
      have c3 := k' c3
      have hpm := List.mem_of_getElem? hp
      have C70a : Hid (∀ A, Below w.heap.size w A → Calls Tryd.prog 70 #[pv p, .slice (some ⟨g, 0, none⟩) n cap, .int .i64 0] A fun e w' => e = .returned (.int .i64 (optI (roomFrom p F 0))) ∧ Below A.heap.size A w') := fun A hA => C70.out A p 0 hpm (Nat.zero_le _) hA
      have HCS : Hid ((roomFrom p F 0 = none → chooseL F 0 P = some (k, none)) ∧ ∀ r, roomFrom p F 0 = some r → (roomFrom p F (r + 1) = none → chooseL F 0 P = some (k, some r)) ∧ (∀ r2, roomFrom p F (r + 1) = some r2 → chooseL F 0 P = chooseL F (k + 1) (P.drop (k + 1)))) := by
        refine ⟨fun h => ?_, fun r h => ⟨fun h2 => ?_, fun r2 h2 => ?_⟩⟩
        · rw [HCH.out, hdr, chooseL]; simp only [h]
        · rw [HCH.out, hdr, chooseL]; simp only [h, h2, if_true]
        · rw [HCH.out, hdr, chooseL]; simp only [h, h2]; simp
      have hrl : ∀ r, roomFrom p F 0 = some r → r < n := fun r hr => by rw [HN.out]; exact room_lt hr
      have C70b : Hid (∀ A r, roomFrom p F 0 = some r → Below w.heap.size w A → Calls Tryd.prog 70 #[pv p, .slice (some ⟨g, 0, none⟩) n cap, .int .i64 ((r : Int) + 1)] A fun e w' => e = .returned (.int .i64 (optI (roomFrom p F (r + 1)))) ∧ Below A.heap.size A w') := fun A r hr hA => C70.out A p (r + 1) hpm (by have := hrl r hr; omega) hA
      obtain ⟨inner, feet⟩ := p
      simp only at c0 c1 c2 c3
      have i1 : (0 : Int) ≤ (k : Int) := by omega
      have i2 : (k : Int) < (m : Int) := by omega
      clear hp hdr hpm hlt' k' C70
      go_upto_region 4 with (fail)
      have hBa : Below wr.heap.size wr (wr.alloc (Obj.cells #[Value.int IntKind.u64 (lo64 inner : Int), Value.int IntKind.u64 (hi64 inner : Int), Value.int IntKind.u64 (lo64 feet : Int), Value.int IntKind.u64 (hi64 feet : Int)] 103)) := below_alloc (Below.refl _ wr) _
      have o7 : PBox (wr.alloc (Obj.cells #[Value.int IntKind.u64 (lo64 inner : Int), Value.int IntKind.u64 (hi64 inner : Int), Value.int IntKind.u64 (lo64 feet : Int), Value.int IntKind.u64 (hi64 feet : Int)] 103)) wr.heap.size inner feet := heap_alloc_new _ _
      have HB7 : Hid _ := below_next hB hBa
      generalize wr.heap.size = b7 at *
      generalize wr.alloc (Obj.cells #[Value.int IntKind.u64 (lo64 inner : Int), Value.int IntKind.u64 (hi64 inner : Int), Value.int IntKind.u64 (lo64 feet : Int), Value.int IntKind.u64 (hi64 feet : Int)] 103) = w7 at *
      obtain ⟨d0, d1, d2, d3⟩ := pbox_cells o7
      have HO7 : Hid _ := o7
      clear o7 hBa c0 c1 c2 c3 hB
      go_upto_region 5 with (first | (go_at_call 70; refine Calls.mono (C70a.out _ HB7.out) ?_; rintro e w8 ⟨rfl, h8⟩) | fail)
      have hB8 : Below w.heap.size w w8 := below_next HB7.out h8
      obtain ⟨e0, e1, e2, e3⟩ := pbox_cells (show PBox w8 b7 inner feet from (h8.block _ (lt_of_block HO7.out)).trans HO7.out)
      clear d0 d1 d2 d3
      generalize hr0 : roomFrom ⟨inner, feet⟩ F 0 = r0 at *
      clear hr0
      cases r0 with
      | none =>
        have hRk : R = (k, none) := by
          rw [HR.out]; unfold choose
          rw [HCS.out.1 rfl]
        simp only [optI]
        subst hRk
        go_wp2
        refine bodyPost_ret (v := .tuple #[.int .i64 (k : Int), .int .i64 (-1)]) ?_ rfl ⟨rfl, hB8⟩
        simp [results, Tryd.results58, go_sem]
      | some r =>
        have C70c : Hid _ := C70b.out w8 r rfl hB8
        have hrn := hrl r rfl
        have hln := HL.out.1
        have j1 : ((r : Int) == -1) = false := by simp
        have j2 : ¬ (r : Int) = -1 := by omega
        have hr9 : (r : Int) ≤ 100000 := by have := HN.out; omega
        simp only [optI]
        cases hr1 : roomFrom ⟨inner, feet⟩ F (r + 1) with
        | none =>
          have hRk : R = (k, some r) := by
            rw [HR.out]; unfold choose
            rw [(HCS.out.2 r rfl).1 hr1]
          rw [hr1] at C70c
          simp only [optI] at C70c
          clear hr1
          subst hRk
          go_wp2_with (first | (go_at_call 70; refine Calls.mono C70c.out ?_; rintro e w9 ⟨rfl, h9⟩) | go_in)
          refine bodyPost_ret (v := .tuple #[.int .i64 (k : Int), .int .i64 (r : Int)]) ?_ rfl ⟨rfl, below_next hB8 h9⟩
          simp [results, Tryd.results58, go_sem]
        | some r2 =>
          have j3 : ((r2 : Int) == -1) = false := by simp
          have j4 : ¬ (r2 : Int) = -1 := by omega
          have HCN : Hid (chooseL F 0 P = chooseL F (k + 1) (P.drop (k + 1))) := by
            exact (HCS.out.2 r rfl).2 r2 hr1
          rw [hr1] at C70c
          simp only [optI] at C70c
          clear hr1
          have HB8 : Hid _ := hB8
          clear hB8
          go_wp2_with (first | (go_at_call 70; refine Calls.mono C70c.out ?_; rintro e w9 ⟨rfl, h9⟩) | go_in)
          go_roundw
          case rel => exact ⟨k + 1, by omega, by go_num, HCN.out, below_next HB8.out h9⟩
          case measure => simp [numOf]; omega
    · have hkm : k = m := by omega
      have hnone : chooseL F 0 P = none := by
        rw [HCH.out, List.drop_of_length_le (by have := HM.out; omega)]; rfl
      obtain ⟨p, l, hpl2⟩ := List.exists_cons_of_ne_nil HL.out.2
      have hRk : R = (0, roomFrom p F 0) := by
        rw [HR.out]; unfold choose
        rw [hnone, hpl2]
      have k' : ∀ {a : Addr} {x : Value}, w.cell? a = some x → wr.cell? a = some x := fun h => (hB.cell (World.block_lt_of_cell? _ _ h)).trans h
      obtain ⟨c0, c1, c2, c3⟩ := HP.out 0 p (by rw [hpl2]; rfl)
      simp only [Nat.zero_mul, Nat.zero_add] at c0 c1 c2 c3
      have c0 := k' c0
      have c1 := k' c1
      have c2 := k' c2
      have c3 := k' c3
      have C70a : Hid (∀ A, Below w.heap.size w A → Calls Tryd.prog 70 #[pv p, .slice (some ⟨g, 0, none⟩) n cap, .int .i64 0] A fun e w' => e = .returned (.int .i64 (optI (roomFrom p F 0))) ∧ Below A.heap.size A w') := fun A hA => C70.out A p 0 (by rw [hpl2]; simp) (Nat.zero_le _) hA
      have i2 : ¬ (k : Int) < (m : Int) := by omega
      have i3 : (0 : Int) < (m : Int) := by omega
      subst hRk
      obtain ⟨inner, feet⟩ := p
      simp only at c0 c1 c2 c3
      clear hnone hpl2 k' C70
      go_wp2_with (first | (go_at_call 70; refine Calls.mono (C70a.out _ HB.out) ?_; rintro e w9 ⟨rfl, h9⟩) | go_in)
      refine bodyPost_ret (v := .tuple #[.int .i64 0, .int .i64 (optI (roomFrom ⟨inner, feet⟩ F 0))]) ?_ rfl ⟨rfl, below_next HB.out h9⟩
      simp [results, Tryd.results58, go_sem]
end Go.Proofs.YtekokjechbibdaaDoor
