/- wayThrough: a way through a piece. -/
import Derived.Test.YtekokjechbibdaaDoorWayM1
import Derived.Test.YtekokjechbibdaaDoorTail2
namespace Go.Proofs.YtekokjechbibdaaDoor
set_option maxRecDepth 8000
open Go.RowKit Go.Maps
attribute [local go_sem ↓] Go.wp_at_zero Go.wp_at_succ
attribute [local go_sem] Oper.semAt_some
/-- The search finds another foot, and the way back. -/
def wayOk (near : List Nat) (inner others fr : Nat) : Nat → List Nat → Nat → List Nat → Bool
  | 0, _, _, _ => false
  | _ + 1, _, _, [] => false
  | f + 1, back, met, v :: queue =>
    if v ≠ fr ∧ at' near v &&& others ≠ 0 then goBackOk (back.set (firstS (at' near v &&& others)) v) fr 128 (firstS (at' near v &&& others))
    else wayOk near inner others fr f ((elems (sLess (at' near v &&& inner) met)).foldl (fun b u => b.set u v) back) ((elems (sLess (at' near v &&& inner) met)).foldl sAdd met) (queue ++ elems (sLess (at' near v &&& inner) met))
def throughOk (near : List Nat) (p : Piece) : Bool := p.inner == 0 || wayOk near p.inner (sDrop p.feet (firstS p.feet)) (firstS p.feet) 128 (List.replicate near.length 0) (setOf [firstS p.feet]) [firstS p.feet]
/-- A row of numbers of one's own: the answer of a function. -/
def Nums (w0 w' : World) (e : Ending) (l : List Nat) : Prop := ∃ g c, e = .returned (.slice (some ⟨g, 0, none⟩) l.length c) ∧ w'.ownsRow w0.heap.size 3 1 (.slice (some ⟨g, 0, none⟩) l.length c) l.length (qv l) ∧ Below w0.heap.size w0 w'
set_option maxHeartbeats 4000000 in
/-- A piece without inner nodes. -/
theorem way_edge {w : World} {bn N : Nat} {p : Piece} (hp1 : p.inner = 0) (hp2 : p.feet < 2 ^ 128) (h0 : p.feet ≠ 0) (h1 : sDrop p.feet (firstS p.feet) ≠ 0) (ht : T64 w) :
    Calls Tryd.prog 59 #[pv p, sl bn N] w fun e w' => Nums w w' e [firstS p.feet, firstS (sDrop p.feet (firstS p.feet))] := by
  obtain ⟨inner, feet⟩ := p
  simp only at *
  subst hp1
  have hf128 := first_lt hp2 h0
  have C65 : Hid (∀ A, Below w.heap.size w A → Calls Tryd.prog 65 #[sv feet] A fun e w' => e = .returned (.int .i64 (firstS feet : Int)) ∧ Below A.heap.size A w') := fun A hA => first_call hp2 h0 (ht.below hA ht.pos)
  have C65b : Hid (∀ A, Below w.heap.size w A → Calls Tryd.prog 65 #[sv (sDrop feet (firstS feet))] A fun e w' => e = .returned (.int .i64 (firstS (sDrop feet (firstS feet)) : Int)) ∧ Below A.heap.size A w') := fun A hA => first_call (less_lt hp2) h1 (ht.below hA ht.pos)
  generalize firstS (sDrop feet (firstS feet)) = la at *
  generalize firstS feet = fr at *
  have C66 : Hid (∀ A b6, SBox A b6 feet → Calls Tryd.prog 66 #[.pointer (some ⟨b6, 0, none⟩), .int .i64 (fr : Int)] A fun e w' => e = .returned (.tuple #[]) ∧ SBox w' b6 (sDrop feet fr) ∧ Turns (fun k => k = b6) A w') := fun A b6 hA => drop_sbox hp2 hf128 hA
  have C64 : Hid (∀ A : World, Calls Tryd.prog 64 #[sv 0] A fun e w' => e = .returned (.bool true) ∧ Below A.heap.size A w') := fun A => isEmpty_call (w := A) (s := 0) (by decide)
  generalize sDrop feet fr = ot at *
  clear hp2 h0 h1 hf128 ht
  refine (callsIn_wide (n := 8)).1 (callsIn_of_wp_marks Tryd.func59 rfl trivial ?_ rfl)
  refine wpIn_wide.2 ?_
  simp only [Tryd.ntmps59, List.size_toArray, List.length_cons, List.length_nil, Nat.reduceAdd, Nat.reduceSub, Array.replicate_succ, Array.replicate_zero, List.push_toArray, List.append_toArray, List.nil_append, List.cons_append]
  go_upto_region 1 with (fail)
  obtain ⟨b2, hb2⟩ : ∃ b, b = w.heap.size := ⟨_, rfl⟩
  have x2 : PBox (w.alloc (Obj.cells #[Value.int IntKind.u64 (lo64 0 : Int), Value.int IntKind.u64 (hi64 0 : Int), Value.int IntKind.u64 (lo64 feet : Int), Value.int IntKind.u64 (hi64 feet : Int)] 103)) b2 0 feet := by rw [hb2]; exact heap_alloc_new _ _
  have hB2 : Below w.heap.size w (w.alloc (Obj.cells #[Value.int IntKind.u64 (lo64 0 : Int), Value.int IntKind.u64 (hi64 0 : Int), Value.int IntKind.u64 (lo64 feet : Int), Value.int IntKind.u64 (hi64 feet : Int)] 103)) := below_alloc (Below.refl _ w) _
  rw [← hb2]
  generalize w.alloc (Obj.cells #[Value.int IntKind.u64 (lo64 0 : Int), Value.int IntKind.u64 (hi64 0 : Int), Value.int IntKind.u64 (lo64 feet : Int), Value.int IntKind.u64 (hi64 feet : Int)] 103) = W2 at *
  clear hb2
  obtain ⟨a0, a1, a2, a3⟩ := pbox_cells x2
  have k2 : ∀ A, Below W2.heap.size W2 A → PBox A b2 0 feet := fun A hA => (hA.block _ (lt_of_block x2)).trans x2
  have K2 : Hid _ := k2
  have HB2 : Hid _ := hB2
  clear k2 hB2 x2
  go_upto_region 3 with (first | (go_at_call 65; refine Calls.mono (C65.out _ HB2.out) ?_; rintro e w3 ⟨rfl, h3⟩; obtain ⟨c0, c1, c2, c3⟩ := pbox_cells (K2.out _ h3)) | fail)
  have x6 : SBox (w3.alloc (Obj.cells #[Value.int IntKind.u64 (lo64 feet : Int), Value.int IntKind.u64 (hi64 feet : Int)] 76)) w3.heap.size feet := two_new w3 _ _ 76
  have h36 : Below W2.heap.size W2 (w3.alloc (Obj.cells #[Value.int IntKind.u64 (lo64 feet : Int), Value.int IntKind.u64 (hi64 feet : Int)] 76)) := below_alloc h3 _
  have HS6 : Hid (W2.heap.size ≤ w3.heap.size) := h3.size
  generalize w3.heap.size = b6 at *
  generalize w3.alloc (Obj.cells #[Value.int IntKind.u64 (lo64 feet : Int), Value.int IntKind.u64 (hi64 feet : Int)] 76) = w4 at *
  have H36 : Hid _ := h36
  clear c0 c1 c2 c3 h3 h36 a0 a1 a2 a3
  go_upto_region 5 with (first | (go_at_call 66; refine Calls.mono (C66.out _ _ x6) ?_; rintro e w5 ⟨rfl, y6, t5⟩; have hB5 : Below W2.heap.size W2 w5 := t5.below H36.out H36.out.size (fun k e => by have := HS6.out; omega); obtain ⟨c0, c1, c2, c3⟩ := pbox_cells (K2.out _ hB5)) | (go_at_call 64; refine Calls.mono (C64.out _) ?_; rintro e w6 ⟨rfl, h6⟩) | fail)
  have hB6 : Below w.heap.size w w6 := below_next (below_next HB2.out hB5) h6
  have z6 : SBox w6 b6 ot := (h6.block _ (lt_of_block y6)).trans y6
  obtain ⟨d0, d1⟩ := cell_two z6
  have C65c : Hid _ := C65b.out _ hB6
  clear c0 c1 c2 c3 y6 t5 z6
  go_wp2_with (first | (go_at_call 65; refine Calls.mono C65c.out ?_; rintro e w7 ⟨rfl, h7⟩) | go_in)
  have hB7 : Below w.heap.size w w7 := below_next hB6 h7
  refine leaves_marks (lo := w.heap.size) (hi := 0) (Marks.nil _ _ _) (fun w' hc hb => ⟨.slice (some ⟨w7.heap.size, 0, none⟩) 2 2, ?_, w7.heap.size, 2, rfl, ?_, (below_alloc hB7 _).trans hb⟩)
  · simp [results, Tryd.results59, go_sem]
  · have h9 := hc w7.heap.size _ _ _ (heap_alloc_new w7 (Obj.cells #[.int .i64 (fr : Int), .int .i64 (la : Int)] 3))
    exact ⟨rfl, Or.inr ⟨w7.heap.size, 2, #[.int .i64 (fr : Int), .int .i64 (la : Int)], rfl, hB7.size, h9.trans (heap_alloc_new _ _), Nat.le_refl _, by unfold maxLen; omega, rfl, rfl⟩⟩
theorem foldl_set_len (v : Nat) : ∀ (l : List Nat) (b : List Nat), (l.foldl (fun b u => b.set u v) b).length = b.length
  | [], _ => rfl
  | x :: l, b => by rw [List.foldl_cons, foldl_set_len v l]; simp
theorem foldl_add_lt : ∀ (l : List Nat) (s : Nat), s < 2 ^ 128 → (∀ z ∈ l, z < 128) → l.foldl sAdd s < 2 ^ 128
  | [], _, h, _ => h
  | x :: l, s, h, hl => foldl_add_lt l _ (add_lt h (hl x (by simp))) (fun z hz => hl z (by simp [hz]))
/-- The frame of wayThrough in its loop. -/
def F59 (inner feet bn N b2 fr b6 b7 b8 b9 bk c32 c35 : Nat) (k : Value) (f : Nat → Value) (ds : List Deferred) : Act := { tmps := #[pv ⟨inner, feet⟩, sl bn N, Value.pointer (some ⟨b2, 0, none⟩), undef, Value.slice none 0 0, Value.int .i64 (fr : Int), Value.pointer (some ⟨b6, 0, none⟩), Value.pointer (some ⟨b7, 0, none⟩), Value.pointer (some ⟨b8, 0, none⟩), Value.pointer (some ⟨b9, 0, none⟩), k, f 0, f 1, f 2, Value.pointer (some ⟨b2, 2, none⟩), sv feet, Value.int .i64 (fr : Int), Value.pointer (some ⟨b2, 2, none⟩), sv feet, Value.int .i64 (fr : Int), Value.tuple #[], Value.pointer (some ⟨b2, 0, none⟩), sv inner, Value.bool false, undef, undef, undef, undef, sl bn N, Value.int .i64 (N : Int), Value.slice (some ⟨bk, 0, none⟩) N N, Value.int .i64 (fr : Int), Value.slice (some ⟨c32, 0, none⟩) 1 1, sv (setOf [fr]), Value.int .i64 (fr : Int), Value.slice (some ⟨c35, 0, none⟩) 1 1, f 3, f 4, f 5, f 6, f 7, f 8, f 9, f 10, f 11, f 12, f 13, f 14, f 15, f 16, f 17, f 18, f 19, f 20, f 21, f 22, f 23, f 24, f 25, f 26, f 27, f 28, f 29, f 30, f 31, f 32, f 33, f 34, f 35, f 36, f 37, f 38, f 39, f 40, f 41, f 42, f 43, f 44, f 45, f 46, f 47, f 48, f 49, f 50, f 51, f 52, f 53, f 54, f 55, f 56, f 57], defers := ds }
theorem F59_any (inner feet bn N b2 fr b6 b7 b8 b9 bk c32 c35 : Nat) (k : Value) (ds : List Deferred) (x11 x12 x13 x36 x37 x38 x39 x40 x41 x42 x43 x44 x45 x46 x47 x48 x49 x50 x51 x52 x53 x54 x55 x56 x57 x58 x59 x60 x61 x62 x63 x64 x65 x66 x67 x68 x69 x70 x71 x72 x73 x74 x75 x76 x77 x78 x79 x80 x81 x82 x83 x84 x85 x86 x87 x88 x89 x90 : Value) : ∃ f, ({ tmps := #[pv ⟨inner, feet⟩, sl bn N, Value.pointer (some ⟨b2, 0, none⟩), undef, Value.slice none 0 0, Value.int .i64 (fr : Int), Value.pointer (some ⟨b6, 0, none⟩), Value.pointer (some ⟨b7, 0, none⟩), Value.pointer (some ⟨b8, 0, none⟩), Value.pointer (some ⟨b9, 0, none⟩), k, x11, x12, x13, Value.pointer (some ⟨b2, 2, none⟩), sv feet, Value.int .i64 (fr : Int), Value.pointer (some ⟨b2, 2, none⟩), sv feet, Value.int .i64 (fr : Int), Value.tuple #[], Value.pointer (some ⟨b2, 0, none⟩), sv inner, Value.bool false, undef, undef, undef, undef, sl bn N, Value.int .i64 (N : Int), Value.slice (some ⟨bk, 0, none⟩) N N, Value.int .i64 (fr : Int), Value.slice (some ⟨c32, 0, none⟩) 1 1, sv (setOf [fr]), Value.int .i64 (fr : Int), Value.slice (some ⟨c35, 0, none⟩) 1 1, x36, x37, x38, x39, x40, x41, x42, x43, x44, x45, x46, x47, x48, x49, x50, x51, x52, x53, x54, x55, x56, x57, x58, x59, x60, x61, x62, x63, x64, x65, x66, x67, x68, x69, x70, x71, x72, x73, x74, x75, x76, x77, x78, x79, x80, x81, x82, x83, x84, x85, x86, x87, x88, x89, x90], defers := ds } : Act) = F59 inner feet bn N b2 fr b6 b7 b8 b9 bk c32 c35 k f ds :=
  ⟨fun i => ([x11, x12, x13, x36, x37, x38, x39, x40, x41, x42, x43, x44, x45, x46, x47, x48, x49, x50, x51, x52, x53, x54, x55, x56, x57, x58, x59, x60, x61, x62, x63, x64, x65, x66, x67, x68, x69, x70, x71, x72, x73, x74, x75, x76, x77, x78, x79, x80, x81, x82, x83, x84, x85, x86, x87, x88, x89, x90] : List Value).getD i undef, rfl⟩
/-- The frame of one region of the loop, and what its operations leave. -/
def A13 (inner feet bn N b2 fr b6 b7 b8 b9 bk c32 c35 k b11 gq ql cq v : Nat) (f : Nat → Value) (ds : List Deferred) (g : Nat → Value) : Act := { tmps := #[pv ⟨inner, feet⟩, sl bn N, Value.pointer (some ⟨b2, 0, none⟩), undef, Value.slice none 0 0, Value.int .i64 (fr : Int), Value.pointer (some ⟨b6, 0, none⟩), Value.pointer (some ⟨b7, 0, none⟩), Value.pointer (some ⟨b8, 0, none⟩), Value.pointer (some ⟨b9, 0, none⟩), Value.int .i64 (k : Int), Value.pointer (some ⟨b11, 0, none⟩), g 6, f 2, Value.pointer (some ⟨b2, 2, none⟩), sv feet, Value.int .i64 (fr : Int), Value.pointer (some ⟨b2, 2, none⟩), sv feet, Value.int .i64 (fr : Int), Value.tuple #[], Value.pointer (some ⟨b2, 0, none⟩), sv inner, Value.bool false, undef, undef, undef, undef, sl bn N, Value.int .i64 (N : Int), Value.slice (some ⟨bk, 0, none⟩) N N, Value.int .i64 (fr : Int), Value.slice (some ⟨c32, 0, none⟩) 1 1, sv (setOf [fr]), Value.int .i64 (fr : Int), Value.slice (some ⟨c35, 0, none⟩) 1 1, Value.int .i64 (k : Int), Value.slice (some ⟨gq, 0, none⟩) ql cq, Value.int .i64 (ql : Int), Value.bool true, f 7, f 8, Value.slice (some ⟨gq, 0, none⟩) ql cq, Value.int .i64 (k : Int), Value.pointer (some ⟨gq, k, none⟩), Value.int .i64 (v : Int), g 0, g 1, g 2, g 3, g 4, g 5, f 19, f 20, f 21, f 22, f 23, f 24, f 25, f 26, f 27, f 28, f 29, f 30, f 31, f 32, f 33, f 34, f 35, f 36, f 37, f 38, f 39, f 40, f 41, f 42, f 43, f 44, f 45, f 46, f 47, f 48, f 49, f 50, f 51, f 52, f 53, f 54, f 55, f 56, f 57], defers := ds }
def V13 (bn N v : Nat) (nv ot la : Nat) : Nat → Value
  | 0 => sl bn N
  | 1 => .int .i64 (v : Int)
  | 2 => .pointer (some ⟨bn, v * 2, none⟩)
  | 3 => sv nv
  | 4 => sv ot
  | 5 => sv la
  | _ => undef
set_option maxHeartbeats 4000000 in
theorem way_seek {w : World} {bn : Nat} {near : List Nat} {p : Piece} (hn : SetsAt w bn near) (hl : near.length ≤ 100) (hp1 : p.inner < 2 ^ 128) (hp2 : p.feet < 2 ^ 128) (hi : p.inner ≠ 0) (h0 : p.feet ≠ 0) (h1 : sDrop p.feet (firstS p.feet) ≠ 0)
    (hin : ∀ v, p.inner.testBit v = true → v < near.length) (hft : ∀ v, p.feet.testBit v = true → v < near.length) (ht : T64 w)
    (hok : wayOk near p.inner (sDrop p.feet (firstS p.feet)) (firstS p.feet) 128 (List.replicate near.length 0) (setOf [firstS p.feet]) [firstS p.feet] = true) :
    Calls Tryd.prog 59 #[pv p, sl bn near.length] w fun e w' => Nums w w' e (wayL near p.inner (sDrop p.feet (firstS p.feet)) (firstS p.feet) 128 (List.replicate near.length 0) (setOf [firstS p.feet]) [firstS p.feet]) := by
  have HN : Hid (SetsAt w bn near) := hn
  have HT : Hid (T64 w) := ht
  obtain ⟨inner, feet⟩ := p
  simp only at *
  obtain ⟨R, hR⟩ : ∃ R, R = wayL near inner (sDrop feet (firstS feet)) (firstS feet) 128 (List.replicate near.length 0) (setOf [firstS feet]) [firstS feet] := ⟨_, rfl⟩
  rw [← hR]
  have HR : Hid (R = wayL near inner (sDrop feet (firstS feet)) (firstS feet) 128 (List.replicate near.length 0) (setOf [firstS feet]) [firstS feet] ∧ wayOk near inner (sDrop feet (firstS feet)) (firstS feet) 128 (List.replicate near.length 0) (setOf [firstS feet]) [firstS feet] = true) := ⟨hR, hok⟩
  have hfb := (first_spec hp2 h0).1
  have hfN := hft _ hfb
  have hf128 := first_lt hp2 h0
  have C65 : Hid (∀ A, Below w.heap.size w A → Calls Tryd.prog 65 #[sv feet] A fun e w' => e = .returned (.int .i64 (firstS feet : Int)) ∧ Below A.heap.size A w') := fun A hA => first_call hp2 h0 (HT.out.below hA HT.out.pos)
  have HOT : Hid (sDrop feet (firstS feet) < 2 ^ 128 ∧ ∀ v, (sDrop feet (firstS feet)).testBit v = true → v < near.length) := ⟨less_lt hp2, fun v hv => by rw [bit_drop] at hv; exact hft v (Bool.and_eq_true_iff.1 hv).1⟩
  generalize firstS feet = fr at *
  have C66 : Hid (∀ A b6, SBox A b6 feet → Calls Tryd.prog 66 #[.pointer (some ⟨b6, 0, none⟩), .int .i64 (fr : Int)] A fun e w' => e = .returned (.tuple #[]) ∧ SBox w' b6 (sDrop feet fr) ∧ Turns (fun k => k = b6) A w') := fun A b6 hA => drop_sbox hp2 hf128 hA
  have C64 : Hid (∀ A : World, Calls Tryd.prog 64 #[sv inner] A fun e w' => e = .returned (.bool false) ∧ Below A.heap.size A w') := fun A => by
    have := isEmpty_call (w := A) hp1
    rw [show (inner == 0) = false by simpa using hi] at this
    exact this
  have C56 : Hid (∀ A : World, Calls Tryd.prog 56 #[.slice (some ⟨A.heap.size, 0, none⟩) 1 1] (A.alloc (Obj.cells #[.int .i64 (fr : Int)] 3)) fun e w' => e = .returned (sv (setOf [fr])) ∧ Below A.heap.size A w') := fun A => setOf_one hf128 A
  generalize sDrop feet fr = ot at *
  have HI : Hid (inner < 2 ^ 128 ∧ ∀ v, inner.testBit v = true → v < near.length) := ⟨hp1, hin⟩
  obtain ⟨N, hN⟩ : ∃ N, N = near.length := ⟨_, rfl⟩
  rw [← hN] at hl hfN ⊢
  have HNN : Hid (N = near.length) := hN
  have hmk := make61 N (by omega)
  clear hn ht hp1 hp2 hi h0 h1 hin hft hok hR hfb hN
  refine (callsIn_wide (n := 8)).1 (callsIn_of_wp_marks Tryd.func59 rfl trivial ?_ rfl)
  refine wpIn_wide.2 ?_
  simp only [Tryd.ntmps59, List.size_toArray, List.length_cons, List.length_nil, Nat.reduceAdd, Nat.reduceSub, Array.replicate_succ, Array.replicate_zero, List.push_toArray, List.append_toArray, List.nil_append, List.cons_append]
  go_upto_region 1 with (fail)
  obtain ⟨b2, hb2⟩ : ∃ b, b = w.heap.size := ⟨_, rfl⟩
  have x2 : PBox (w.alloc (Obj.cells #[Value.int IntKind.u64 (lo64 inner : Int), Value.int IntKind.u64 (hi64 inner : Int), Value.int IntKind.u64 (lo64 feet : Int), Value.int IntKind.u64 (hi64 feet : Int)] 103)) b2 inner feet := by rw [hb2]; exact heap_alloc_new _ _
  have hB2 : Below w.heap.size w (w.alloc (Obj.cells #[Value.int IntKind.u64 (lo64 inner : Int), Value.int IntKind.u64 (hi64 inner : Int), Value.int IntKind.u64 (lo64 feet : Int), Value.int IntKind.u64 (hi64 feet : Int)] 103)) := below_alloc (Below.refl _ w) _
  have HW2 : Hid (w.heap.size ≤ b2) := Nat.le_of_eq hb2.symm
  rw [← hb2]
  generalize w.alloc (Obj.cells #[Value.int IntKind.u64 (lo64 inner : Int), Value.int IntKind.u64 (hi64 inner : Int), Value.int IntKind.u64 (lo64 feet : Int), Value.int IntKind.u64 (hi64 feet : Int)] 103) = W2 at *
  clear hb2
  obtain ⟨a0, a1, a2, a3⟩ := pbox_cells x2
  have k2 : ∀ A, Below W2.heap.size W2 A → PBox A b2 inner feet := fun A hA => (hA.block _ (lt_of_block x2)).trans x2
  have K2 : Hid _ := k2
  have HB2 : Hid _ := hB2
  clear k2 hB2 x2
  go_upto_region 3 with (first | (go_at_call 65; refine Calls.mono (C65.out _ HB2.out) ?_; rintro e w3 ⟨rfl, h3⟩; obtain ⟨c0, c1, c2, c3⟩ := pbox_cells (K2.out _ h3)) | fail)
  have x6 : SBox (w3.alloc (Obj.cells #[Value.int IntKind.u64 (lo64 feet : Int), Value.int IntKind.u64 (hi64 feet : Int)] 76)) w3.heap.size feet := two_new w3 _ _ 76
  have h36 : Below W2.heap.size W2 (w3.alloc (Obj.cells #[Value.int IntKind.u64 (lo64 feet : Int), Value.int IntKind.u64 (hi64 feet : Int)] 76)) := below_alloc h3 _
  have HL6 : Hid (b2 < w3.heap.size) := lt_of_block (K2.out _ h3)
  have HS6 : Hid (W2.heap.size ≤ w3.heap.size) := h3.size
  obtain ⟨b6, hb6⟩ : ∃ b, b = w3.heap.size := ⟨_, rfl⟩
  rw [← hb6] at x6 HL6 HS6 ⊢
  generalize w3.alloc (Obj.cells #[Value.int IntKind.u64 (lo64 feet : Int), Value.int IntKind.u64 (hi64 feet : Int)] 76) = w4 at *
  have K6 : Hid (b2 < b6 ∧ w.heap.size ≤ b2) := ⟨HL6.out, HW2.out⟩
  clear c0 c1 c2 c3 hb6 h3
  have H36 : Hid _ := h36
  clear h36
  go_upto_region 6 with (first | (go_at_call 66; refine Calls.mono (C66.out _ _ x6) ?_; rintro e w5 ⟨rfl, y6, t5⟩; have hB5 : Below W2.heap.size W2 w5 := t5.below H36.out H36.out.size (fun k e => by have := HS6.out; omega); obtain ⟨c0, c1, c2, c3⟩ := pbox_cells (K2.out _ hB5)) | (go_at_call 64; refine Calls.mono (C64.out _) ?_; rintro e w6 ⟨rfl, h6⟩) | fail)
  have hB6 : Below W2.heap.size W2 w6 := below_next hB5 h6
  have z6 : SBox w6 b6 ot := (h6.block _ (lt_of_block y6)).trans y6
  have hw6 : b6 < w6.heap.size := lt_of_block z6
  have hmk6 := hmk w6
  clear c0 c1 c2 c3 y6 t5 h6 hB5 hmk
  have HZ6 : Hid _ := z6
  have HB6 : Hid _ := hB6
  clear z6 hB6
  go_upto_region 7 with (fail)
  obtain ⟨bk, hbk⟩ : ∃ b, b = w6.heap.size := ⟨_, rfl⟩
  have xk : NRow ((w6.alloc (Obj.cells (rep N (Value.int IntKind.i64 0)) 3)).alloc (Obj.cells #[Value.slice (some ⟨w6.heap.size, 0, none⟩) N N] 61)) bk (List.replicate N 0) := by
    have h1 : RowV (w6.alloc (Obj.cells (rep N (Value.int IntKind.i64 0)) 3)) bk 3 N (fun _ => .int .i64 0) := rowV_rep (by rw [hbk]; exact heap_alloc_new _ _)
    have h2 := h1.block (w' := (w6.alloc (Obj.cells (rep N (Value.int IntKind.i64 0)) 3)).alloc (Obj.cells #[Value.slice (some ⟨w6.heap.size, 0, none⟩) N N] 61)) (Below.heap_alloc _ _ _ h1.lt)
    unfold NRow
    rw [List.length_replicate]
    refine h2.congr fun j hj => ?_
    simp [List.getD_eq_getElem?_getD, hj]
  have x7 : One ((w6.alloc (Obj.cells (rep N (Value.int IntKind.i64 0)) 3)).alloc (Obj.cells #[Value.slice (some ⟨w6.heap.size, 0, none⟩) N N] 61)) (bk + 1) (sl bk N) 61 := by
    have := heap_alloc_new (w6.alloc (Obj.cells (rep N (Value.int IntKind.i64 0)) 3)) (Obj.cells #[Value.slice (some ⟨w6.heap.size, 0, none⟩) N N] 61)
    rw [World.size_alloc] at this
    rw [hbk]; exact this
  have hB7 : Below W2.heap.size W2 ((w6.alloc (Obj.cells (rep N (Value.int IntKind.i64 0)) 3)).alloc (Obj.cells #[Value.slice (some ⟨w6.heap.size, 0, none⟩) N N] 61)) := below_alloc (below_alloc HB6.out _) _
  have x6 : SBox ((w6.alloc (Obj.cells (rep N (Value.int IntKind.i64 0)) 3)).alloc (Obj.cells #[Value.slice (some ⟨w6.heap.size, 0, none⟩) N N] 61)) b6 ot := (Below.heap_alloc _ _ _ (by simp; omega)).trans ((Below.heap_alloc _ _ _ hw6).trans HZ6.out)
  have hbk6 : b6 < bk := by omega
  rw [← hbk] at xk x7 hB7 x6 ⊢
  generalize (w6.alloc (Obj.cells (rep N (Value.int IntKind.i64 0)) 3)).alloc (Obj.cells #[Value.slice (some ⟨bk, 0, none⟩) N N] 61) = w7 at *
  clear hbk hmk6 hw6 HZ6 HB6
  have k7 : ∀ A, Below w7.heap.size w7 A → NRow A bk (List.replicate N 0) ∧ One A (bk + 1) (sl bk N) 61 ∧ SBox A b6 ot ∧ Below W2.heap.size W2 A := fun A hA => ⟨xk.block (hA.block _ xk.lt), (hA.block _ (lt_of_block x7)).trans x7, (hA.block _ (lt_of_block x6)).trans x6, below_next hB7 hA⟩
  have K7 : Hid _ := k7
  have L7 : Hid (bk + 1 < w7.heap.size) := lt_of_block x7
  clear xk x7 x6 hB7 k7
  go_upto_region 8 with (first | (go_at_call 56; refine Calls.mono (C56.out _) ?_; rintro e w8 ⟨rfl, h8⟩) | fail)
  have hB8 : Below w7.heap.size w7 (w8.alloc (Obj.cells #[Value.int IntKind.u64 (lo64 (setOf [fr]) : Int), Value.int IntKind.u64 (hi64 (setOf [fr]) : Int)] 76)) := below_alloc h8 _
  have x8 : SBox (w8.alloc (Obj.cells #[Value.int IntKind.u64 (lo64 (setOf [fr]) : Int), Value.int IntKind.u64 (hi64 (setOf [fr]) : Int)] 76)) w8.heap.size (setOf [fr]) := two_new w8 _ _ 76
  have l8 : bk + 1 < w8.heap.size := by have := L7.out; have := h8.size; omega
  generalize w8.heap.size = b8 at *
  generalize w8.alloc (Obj.cells #[Value.int IntKind.u64 (lo64 (setOf [fr]) : Int), Value.int IntKind.u64 (hi64 (setOf [fr]) : Int)] 76) = w9 at *
  have HB8 : Hid _ := hB8
  have HX8 : Hid _ := x8
  clear hB8 x8 h8
  go_upto_region 10 with (fail)
  obtain ⟨q9, hq9⟩ : ∃ b, b = w9.heap.size := ⟨_, rfl⟩
  have hW9 : WI w ((w9.alloc (Obj.cells #[Value.int IntKind.i64 (fr : Int)] 3)).alloc (Obj.cells #[Value.slice (some ⟨w9.heap.size, 0, none⟩) 1 1] 61)) b2 b6 bk (bk + 1) b8 (q9 + 1) N inner feet ot (List.replicate N 0) (setOf [fr]) (.slice (some ⟨q9, 0, none⟩) 1 1) [fr] := by
    have hA : Below w9.heap.size w9 ((w9.alloc (Obj.cells #[Value.int IntKind.i64 (fr : Int)] 3)).alloc (Obj.cells #[Value.slice (some ⟨w9.heap.size, 0, none⟩) 1 1] 61)) := below_alloc (below_alloc (Below.refl _ w9) _) _
    have hA7 := below_next HB8.out hA
    obtain ⟨r1, r2, r3, r4⟩ := K7.out _ hA7
    have l9 : b8 < q9 := by have := lt_of_block HX8.out; omega
    refine ⟨K2.out _ r4, r3, r1, r2, (hA.block _ (lt_of_block HX8.out)).trans HX8.out, ?_, ?_, ?_, below_next HB2.out r4⟩
    · have := heap_alloc_new (w9.alloc (Obj.cells #[Value.int IntKind.i64 (fr : Int)] 3)) (Obj.cells #[Value.slice (some ⟨w9.heap.size, 0, none⟩) 1 1] 61)
      rw [World.size_alloc] at this
      rw [hq9]; exact this
    · have := (ownsRow_one w9 (b8 + 1) (.int .i64 (fr : Int)) 3 (by omega)).alloc (Obj.cells #[Value.slice (some ⟨w9.heap.size, 0, none⟩) 1 1] 61)
      rw [hq9]
      exact this
    · intro g hg
      have : g = q9 := by simpa [Value.ownBlock] using hg.symm
      omega
  have HA : Hid (Apart6 w.heap.size b2 b6 bk (bk + 1) b8 (q9 + 1)) := ⟨K6.out.2, K6.out.1, hbk6, by omega, by omega, by have := lt_of_block HX8.out; omega⟩
  rw [← hq9] at hW9 ⊢
  generalize (w9.alloc (Obj.cells #[Value.int IntKind.i64 (fr : Int)] 3)).alloc (Obj.cells #[Value.slice (some ⟨q9, 0, none⟩) 1 1] 61) = w10 at *
  generalize hb9 : q9 + 1 = b9 at *
  generalize hb7 : bk + 1 = b7 at *
  have HW : Hid _ := hW9
  have HNW : Hid (∀ A, Below w.heap.size w A → SetsAt A bn near ∧ T64 A) := fun A hA => ⟨HN.out.below hA HN.out.ltS, HT.out.below hA HT.out.pos⟩
  clear hq9 hW9 hb9 hb7 L7 l8 K7 HB8 HX8 hbk6 K6 HL6 HS6 H36 HB2 K2 HW2 a0 a1 a2 a3
  refine wp_loop (fun a wz => ∃ (k : Nat) (ds : List Deferred) (hi : Nat) (back : List Nat) (met : Nat) (qx : Value) (Q : List Nat) (fu : Nat) (f : Nat → Value), a = F59 inner feet bn N b2 fr b6 b7 b8 b9 bk w7.heap.size q9 (.int .i64 (k : Int)) f ds ∧ WI w wz b2 b6 bk b7 b8 b9 N inner feet ot back met qx Q ∧ Marks (b9 + 1) hi ds wz ∧ hi ≤ wz.heap.size ∧ k + fu = 128 ∧ (R = wayL near inner ot fr fu back met (Q.drop k) ∧ wayOk near inner ot fr fu back met (Q.drop k) = true) ∧ back.length = N ∧ met < 2 ^ 128 ∧ (∀ v ∈ Q, v < N) ∧ Q.length ≤ 128 * k + 1) (fun a _ => 128 - (numOf (a.tmps.getD 10 undef)).toNat) ⟨0, [], 0, List.replicate N 0, setOf [fr], .slice (some ⟨q9, 0, none⟩) 1 1, [fr], 128, fun _ => undef, rfl, HW.out, Marks.nil _ _ _, Nat.zero_le _, rfl, (by rw [HNN.out]; exact HR.out), (by simp), setOf_lt (by simpa using hf128), (by simpa using hfN), (by simp)⟩ ?_
  rintro a wr ⟨k, ds, hi, back, met, qx, Q, fu, f, rfl, hw, hmk, hhi, hku, ⟨hR, hok⟩, hbl, hmet, hQ, hQl⟩
  obtain ⟨fu', rfl⟩ : ∃ f', fu = f' + 1 := by
    cases fu with
    | zero => simp [wayOk] at hok
    | succ f => exact ⟨f, rfl⟩
  have hkQ : k < Q.length := by
    rcases Nat.lt_or_ge k Q.length with h | h
    · exact h
    · rw [List.drop_of_length_le h] at hok; simp [wayOk] at hok
  obtain ⟨v, hv⟩ : ∃ v, Q[k]? = some v := ⟨Q[k], by rw [List.getElem?_eq_getElem hkQ]⟩
  have hdr : Q.drop k = v :: Q.drop (k + 1) := by
    obtain ⟨_, rfl⟩ := List.getElem?_eq_some_iff.1 hv
    exact List.drop_eq_getElem_cons hkQ
  rw [hdr] at hR hok
  have hvN := hQ v (List.mem_of_getElem? hv)
  obtain ⟨gq, cq, eq⟩ : ∃ g c, qx = .slice (some ⟨g, 0, none⟩) Q.length c := by
    obtain ⟨g, cap, h1, _⟩ := hw.row.form (by omega)
    exact ⟨g, cap, h1⟩
  subst eq
  obtain ⟨gq', e1, cvq⟩ := qcell hw.row hv
  cases e1
  have HWr : Hid _ := hw
  have HMr : Hid (Marks (b9 + 1) hi ds wr) := hmk
  have c9 := box_cell hw.o9 (i := 0) rfl
  have i1 : (0 : Int) ≤ (k : Int) := by omega
  have i2 : (k : Int) < (Q.length : Int) := by omega
  have j1 : (0 : Int) ≤ (v : Int) := by omega
  have j2 : (v : Int) < (N : Int) := by omega
  obtain ⟨ql, hql⟩ : ∃ ql, ql = Q.length := ⟨_, rfl⟩
  rw [← hql] at i2 c9
  have HQL : Hid (ql = Q.length) := hql
  have HF : Hid (k + (fu' + 1) = 128 ∧ back.length = N ∧ met < 2 ^ 128 ∧ (∀ v ∈ Q, v < N) ∧ Q.length ≤ 128 * k + 1 ∧ hi ≤ wr.heap.size) := ⟨hku, hbl, hmet, hQ, hQl, hhi⟩
  have HRR : Hid _ := hR
  have HOK : Hid _ := hok
  have HKQ : Hid (k < Q.length) := hkQ
  have hk128 : k ≤ 127 := by omega
  clear hql hw hmk hhi hku hR hok hbl hmet hQ hQl hdr hv hkQ HW
  dsimp only [F59]
  go_upto_region 13 with (fail)
  have hBa : Below wr.heap.size wr (wr.alloc (Obj.cells #[Value.int IntKind.i64 (v : Int)] 3)) := below_alloc (Below.refl _ wr) _
  have hw1 := HWr.out.under hBa
  have hm1 : Marks (b9 + 1) hi ds (wr.alloc (Obj.cells #[Value.int IntKind.i64 (v : Int)] 3)) := HMr.out.under hBa
  have o11 := one_new wr (.int .i64 (v : Int)) 3
  have hb11 : b9 < wr.heap.size ∧ hi ≤ wr.heap.size ∧ gq < wr.heap.size := ⟨lt_of_block HWr.out.o9, HF.out.2.2.2.2.2, (HWr.out.row.lt gq rfl).2⟩
  generalize wr.heap.size = b11 at *
  generalize wr.alloc (Obj.cells #[Value.int IntKind.i64 (v : Int)] 3) = wv at *
  have HB11 : Hid _ := hb11
  have HW1 : Hid _ := hw1
  have HM1 : Hid (Marks (b9 + 1) hi ds wv) := hm1
  have HO11 : Hid _ := o11
  clear hBa hm1 hb11
  have hso : near[v]? = some (at' near v) := at_some (by have := HNN.out; omega)
  obtain ⟨n0, n1⟩ := (HNW.out _ hw1.below).1.cell hso
  obtain ⟨l0, l1⟩ := cell_two hw1.o6
  have cv := box_cell o11 (i := 0) rfl
  have hal := at_lt HN.out.lt v
  have HRv : Hid (R = if v ≠ fr ∧ at' near v &&& ot ≠ 0 then goBack (back.set (firstS (at' near v &&& ot)) v) fr 128 (firstS (at' near v &&& ot)) else wayL near inner ot fr fu' ((elems (sLess (at' near v &&& inner) met)).foldl (fun b u => b.set u v) back) ((elems (sLess (at' near v &&& inner) met)).foldl sAdd met) (Q.drop (k + 1) ++ elems (sLess (at' near v &&& inner) met))) := HRR.out
  have HKv : Hid ((if v ≠ fr ∧ at' near v &&& ot ≠ 0 then goBackOk (back.set (firstS (at' near v &&& ot)) v) fr 128 (firstS (at' near v &&& ot)) else wayOk near inner ot fr fu' ((elems (sLess (at' near v &&& inner) met)).foldl (fun b u => b.set u v) back) ((elems (sLess (at' near v &&& inner) met)).foldl sAdd met) (Q.drop (k + 1) ++ elems (sLess (at' near v &&& inner) met))) = true) := HOK.out
  have HNV : Hid (∀ A, Below w.heap.size w A → A.cell? ⟨bn, v * 2, none⟩ = some (.int .u64 (lo64 (at' near v) : Int)) ∧ A.cell? ⟨bn, v * 2 + 1, none⟩ = some (.int .u64 (hi64 (at' near v) : Int))) := fun A hA => (HNW.out _ hA).1.cell hso
  clear HRR HOK o11 hw1 hso
  generalize at' near v = nv at *
  have C67 : Hid (∀ A : World, Calls Tryd.prog 67 #[sv nv, sv ot] A fun e w' => e = .returned (sv (nv &&& ot)) ∧ Below A.heap.size A w') := fun A => both_call hal HOT.out.1
  have HLA : Hid (nv &&& ot < 2 ^ 128 ∧ nv < 2 ^ 128) := ⟨and_lt hal, hal⟩
  have HLN : Hid (∀ z, (nv &&& ot).testBit z = true → z < near.length) := fun z hz => by rw [Nat.testBit_and] at hz; exact HOT.out.2 z (Bool.and_eq_true_iff.1 hz).2
  generalize nv &&& ot = la at *
  clear hal
  have HCELL : Hid (∀ A, Below wv.heap.size wv A → A.cell? ⟨b11, 0, none⟩ = some (.int .i64 (v : Int)) ∧ A.cell? ⟨bn, v * 2, none⟩ = some (.int .u64 (lo64 nv : Int)) ∧ A.cell? ⟨bn, v * 2 + 1, none⟩ = some (.int .u64 (hi64 nv : Int)) ∧ A.cell? ⟨b6, 0, none⟩ = some (.int .u64 (lo64 ot : Int)) ∧ A.cell? ⟨b6, 1, none⟩ = some (.int .u64 (hi64 ot : Int))) := fun A hA =>
    have k : ∀ {a : Addr} {x : Value}, wv.cell? a = some x → A.cell? a = some x := fun h => (hA.cell (World.block_lt_of_cell? _ _ h)).trans h
    ⟨k cv, k n0, k n1, k l0, k l1⟩
  clear n0 n1 l0 l1 cv
  refine region_invA (J := fun _ L a w => ∃ g, a = A13 inner feet bn N b2 fr b6 b7 b8 b9 bk w7.heap.size q9 k b11 gq ql cq v f ds g ∧ SA wv 6 (V13 bn N v nv ot la) la L g w) (by kernel_rfl) (by kernel_rfl) ?_ ?_ ?_
  · exact ⟨fun i => if i = 6 then f 1 else f (i + 13), rfl, SA.start⟩
  · intro i o hi M a' w1 hJ hLi hd
    obtain ⟨g, rfl, hS⟩ := hJ
    match i, hi with
    | 0, hi =>
      cases hi
      refine wpOp_value rfl rfl (v := V13 bn N v nv ot la 0) (w' := w1) ?_ ⟨updV g 0 _, rfl, hS.put hLi (by omega) (Below.refl _ _)⟩
      simp [go_sem, A13, V13, Act.eval]
    | 1, hi =>
      cases hi
      obtain ⟨e1, e2, e3, e4, e5⟩ := HCELL.out _ (hS.early hLi (by omega))
      refine wpOp_value rfl rfl (v := V13 bn N v nv ot la 1) (w' := w1) ?_ ⟨updV g 1 _, rfl, hS.put hLi (by omega) (Below.refl _ _)⟩
      simp [go_sem, A13, V13, Act.eval, e1]
    | 2, hi =>
      cases hi
      have d0 := hS.told 0 (by omega) (hd ⟨0, .data⟩ (by simp) rfl)
      have d1 := hS.told 1 (by omega) (hd ⟨1, .data⟩ (by simp) rfl)
      refine wpOp_value rfl rfl (v := V13 bn N v nv ot la 2) (w' := w1) ?_ ⟨updV g 2 _, rfl, hS.put hLi (by omega) (Below.refl _ _)⟩
      simp [go_sem, A13, V13, Act.eval, d0, d1, j1, j2]
    | 3, hi =>
      cases hi
      obtain ⟨e1, e2, e3, e4, e5⟩ := HCELL.out _ (hS.early hLi (by omega))
      have d2 := hS.told 2 (by omega) (hd ⟨2, .data⟩ (by simp) rfl)
      refine wpOp_value rfl rfl (v := V13 bn N v nv ot la 3) (w' := w1) ?_ ⟨updV g 3 _, rfl, hS.put hLi (by omega) (Below.refl _ _)⟩
      simp [go_sem, A13, V13, Act.eval, d2, e2, e3]
    | 4, hi =>
      cases hi
      obtain ⟨e1, e2, e3, e4, e5⟩ := HCELL.out _ (hS.early hLi (by omega))
      refine wpOp_value rfl rfl (v := V13 bn N v nv ot la 4) (w' := w1) ?_ ⟨updV g 4 _, rfl, hS.put hLi (by omega) (Below.refl _ _)⟩
      simp [go_sem, A13, V13, Act.eval, e4, e5]
    | 5, hi =>
      cases hi
      have d3 := hS.told 3 (by omega) (hd ⟨3, .data⟩ (by simp) rfl)
      have d4 := hS.told 4 (by omega) (hd ⟨4, .data⟩ (by simp) rfl)
      refine wpOp_call (f := 67) (args := #[sv nv, sv ot]) rfl rfl (w' := w1) ?_ ?_
      · simp [go_sem, A13, V13, Act.eval, d3, d4]
      · refine (C67.out w1).mono ?_
        rintro e w3 ⟨rfl, hB3⟩
        exact ⟨_, rfl, updV g 5 _, rfl, hS.put hLi (by omega) hB3⟩
    | 6, hi =>
      cases hi
      refine wpOp_value rfl rfl (v := .pointer (some ⟨w1.heap.size, 0, none⟩)) (w' := w1.alloc (Obj.cells #[.int .u64 0, .int .u64 0] 76)) ?_ ⟨updV g 6 _, rfl, hS.alloc hLi⟩
      simp [go_sem]
    | 7, hi =>
      cases hi
      have hall : ∀ j, j < 7 → M j = true := fun j hj => by
        have : j = 0 ∨ j = 1 ∨ j = 2 ∨ j = 3 ∨ j = 4 ∨ j = 5 ∨ j = 6 := by omega
        rcases this with rfl | rfl | rfl | rfl | rfl | rfl | rfl <;> exact hd ⟨_, .phase⟩ (by simp) rfl
      have d5 := hS.told 5 (by omega) (hall 5 (by omega))
      obtain ⟨b12, d6, h2, h3⟩ := hS.am (hall 6 (by omega)) hLi
      obtain ⟨q1, q2, q3, q4⟩ := store_two h3 (i := 0) (.int .u64 (lo64 la : Int)) rfl rfl
      refine wpOp_skip rfl rfl (w' := (w1.setCell ⟨b12, 0, none⟩ (.int .u64 (lo64 la : Int))).setCell ⟨b12, 1, none⟩ (.int .u64 (hi64 la : Int))) ?_ ⟨updV g 7 undef, rfl, hS.store hLi hall d6 h2 h3 undef⟩
      simp only [Nat.zero_add] at q3 q4
      simp [go_sem, A13, V13, Act.eval, d5, d6, q1, q2, q3, q4]
    | k + 8, hi => cases hi
  · intro M a' w1 hJ hall
    obtain ⟨g, rfl, hS⟩ := hJ
    obtain ⟨b12, e12, h12, s12, hB1⟩ := hS.done (hall 7 (by simp))
    dsimp only [A13]
    rw [e12]
    have t0 : g 0 = sl bn N := hS.told 0 (by omega) (hall 0 (by simp))
    have t1 : g 1 = .int .i64 (v : Int) := hS.told 1 (by omega) (hall 1 (by simp))
    have t2 : g 2 = .pointer (some ⟨bn, v * 2, none⟩) := hS.told 2 (by omega) (hall 2 (by simp))
    have t3 : g 3 = sv nv := hS.told 3 (by omega) (hall 3 (by simp))
    have t4 : g 4 = sv ot := hS.told 4 (by omega) (hall 4 (by simp))
    have t5 : g 5 = sv la := hS.told 5 (by omega) (hall 5 (by simp))
    rw [t0, t1, t2, t3, t4, t5]
    clear t0 t1 t2 t3 t4 t5 hS hall e12 HCELL
    have hw2 := HW1.out.under hB1
    have hm2 : Marks (b9 + 1) hi ds w1 := HM1.out.under hB1
    have o11 : One w1 b11 (.int .i64 (v : Int)) 3 := (hB1.block _ (lt_of_block HO11.out)).trans HO11.out
    have HL12 : Hid (b11 < b12) := by have := lt_of_block HO11.out; show _ < _; omega
    have HW2 : Hid _ := hw2
    have HM2 : Hid (Marks (b9 + 1) hi ds w1) := hm2
    have HO2 : Hid _ := o11
    have HS12 : Hid _ := s12
    have cv := box_cell o11 (i := 0) rfl
    obtain ⟨y0, y1⟩ := cell_two s12
    have HTw : Hid (T64 w1) := (HNW.out _ hw2.below).2
    clear hw2 hm2 o11 s12 hB1 h12
    have C64b : Hid (Calls Tryd.prog 64 #[sv la] w1 fun e w' => e = .returned (.bool (la == 0)) ∧ Below w1.heap.size w1 w') := isEmpty_call HLA.out.1
    go_upto_region 14 with (fail)
    by_cases hc : v ≠ fr ∧ la ≠ 0
    · obtain ⟨hc1, hc2⟩ := hc
      have e1 : ((v : Int) != (fr : Int)) = true := by simp; omega
      have e2 : ¬ (v : Int) = (fr : Int) := by omega
      rw [show (la == 0) = false by simpa using hc2] at C64b
      have HRg : Hid (R = goBack (back.set (firstS la) v) fr 128 (firstS la) ∧ goBackOk (back.set (firstS la) v) fr 128 (firstS la) = true) := by
        have h1 := HRv.out
        have h2 := HKv.out
        rw [if_pos ⟨hc1, hc2⟩] at h1 h2
        exact ⟨h1, h2⟩
      have C65b : Hid (∀ A, T64 A → Calls Tryd.prog 65 #[sv la] A fun e w' => e = .returned (.int .i64 (firstS la : Int)) ∧ Below A.heap.size A w') := fun A hA => first_call HLA.out.1 hc2 hA
      go_upto_region 15 with (first | (go_at_call 64; refine Calls.mono C64b.out ?_; rintro e w2 ⟨rfl, h2⟩; have hw3 := HW2.out.under h2; have hm3 : Marks (b9 + 1) hi ds w2 := HM2.out.under h2; have o3 : One w2 b11 (.int .i64 (v : Int)) 3 := (h2.block _ (lt_of_block HO2.out)).trans HO2.out; have s3 : SBox w2 b12 la := (h2.block _ (lt_of_block HS12.out)).trans HS12.out; have HT3 : Hid (T64 w2) := (HNW.out _ hw3.below).2) | fail)
      have c7 := box_cell hw3.o7 (i := 0) rfl
      have c11 := box_cell o3 (i := 0) rfl
      obtain ⟨z0, z1⟩ := cell_two s3
      have HW3 : Hid _ := hw3
      have HM3 : Hid (Marks (b9 + 1) hi ds w2) := hm3
      have HO3 : Hid _ := o3
      have HS3 : Hid _ := s3
      have g7 := cell_growD c7
      have g11 := cell_growD c11
      have gz0 := cell_growD z0
      have gz1 := cell_growD z1
      have hlN : firstS la < N := by
        have := (first_spec HLA.out.1 hc2).1
        rw [HNN.out]
        exact HLN.out _ this
      clear cv y0 y1 h2 hw3 hm3 o3 s3 c7 c11 z0 z1
      generalize firstS la = x at *
      have k1 : (0 : Int) ≤ (x : Int) := by omega
      have k2 : (x : Int) < (N : Int) := by omega
      refine wp_region_tailT 5 (by kernel_rfl) (by kernel_rfl) (by kernel_rfl) (by decide) ?_
      simp only [List.take_succ_cons, List.take_zero, List.drop_succ_cons, List.drop_zero]
      repeat (quiet_step (first | (go_at_call 65; exact Calls.belowQ (fun W hW => C65b.out W (HT3.out.under hW)))))
      refine wpQuiet_nil ?_
      rintro _ ⟨gp, rfl⟩
      have hBg := growD_below w2 gp
      have hw4 := HW3.out.under hBg
      have hm4 : Marks (b9 + 1) hi ds (growD w2 gp) := HM3.out.under hBg
      have o4 : One (growD w2 gp) b11 (.int .i64 (v : Int)) 3 := (hBg.block _ (lt_of_block HO3.out)).trans HO3.out
      have s4 : SBox (growD w2 gp) b12 la := (hBg.block _ (lt_of_block HS3.out)).trans HS3.out
      clear g7 g11 gz0 gz1 hBg
      generalize growD w2 gp = w3 at *
      have hck := hw4.rk.cell (j := x) (by rw [HF.out.2.1]; omega)
      have hfk := hw4.rk.free x
      have HW4 : Hid _ := hw4.setk HA.out x v
      have tk := setCell_turns w3 bk x (.int .i64 (v : Int))
      have hm5 : Marks (b9 + 1) hi ds (w3.setCell ⟨bk, x, none⟩ (.int .i64 (v : Int))) := hm4.turns tk (fun k _ e => by
        subst e
        obtain ⟨cur, h1, _⟩ := hw4.rk
        exact ⟨_, _, _, h1⟩)
      have s5 : SBox (w3.setCell ⟨bk, x, none⟩ (.int .i64 (v : Int))) b12 la := box_turns s4 tk (by have h1 := HA.out; have h2 := HB11.out; have h3 := HL12.out; obtain ⟨_, _, _, q4, q5, q6⟩ := h1; omega)
      have HM5 : Hid (Marks (b9 + 1) hi ds (w3.setCell ⟨bk, x, none⟩ (.int .i64 (v : Int)))) := hm5
      have HS5 : Hid _ := s5
      clear hw4 hm4 o4 s4 hm5 s5 tk
      go_upto_region 16 with (fail)
      generalize w3.setCell ⟨bk, x, none⟩ (.int .i64 (v : Int)) = w5 at *
      clear hck hfk
      have hT5 : Hid (T64 w5) := (HNW.out _ HW4.out.below).2
      have g7 := cell_growD (box_cell HW4.out.o7 (i := 0) rfl)
      have gz0 := cell_growD (cell_two HS5.out).1
      have gz1 := cell_growD (cell_two HS5.out).2
      have C71 : Hid (∀ A, Below w5.heap.size w5 A → Calls Tryd.prog 71 #[sl bk N, .int .i64 (x : Int), .int .i64 (fr : Int)] A fun e w' => ∃ g c, e = .returned (.slice (some ⟨g, 0, none⟩) R.length c) ∧ w'.ownsRow A.heap.size 3 1 (.slice (some ⟨g, 0, none⟩) R.length c) R.length (qv R) ∧ Below A.heap.size A w') := fun A hA => by
        have h1 := goBack_call (w := A) (bb := bk) (v := x) (fr := fr) (back := back.set x v) (HW4.out.rk.block (hA.block _ HW4.out.rk.lt)) HRg.out.2
        rw [← HRg.out.1, List.length_set, HF.out.2.1] at h1
        exact h1
      refine wp_region_tailT 4 (by kernel_rfl) (by kernel_rfl) (by kernel_rfl) (by decide) ?_
      simp only [List.take_succ_cons, List.take_zero, List.drop_succ_cons, List.drop_zero]
      repeat (quiet_step (first | (go_at_call 65; exact Calls.belowQ (fun W hW => C65b.out W (hT5.out.under hW)))))
      refine wpQuiet_nil ?_
      rintro _ ⟨gp2, rfl⟩
      have hBg := growD_below w5 gp2
      have HBg : Hid _ := hBg
      have HM6 : Hid (Marks (b9 + 1) hi ds (growD w5 gp2)) := HM5.out.under hBg
      have HB6 : Hid (Below w.heap.size w (growD w5 gp2)) := below_next HW4.out.below hBg
      clear g7 gz0 gz1 hBg
      generalize growD w5 gp2 = w6' at *
      have C71' : Hid _ := C71.out _ HBg.out
      go_wp2_with (first | (go_at_call 71; refine Calls.mono C71'.out ?_; rintro e w8' ⟨gg, cg, rfl, hrow8, hB8⟩) | go_in)
      have hm8 : Marks (b9 + 1) hi ds w8' := HM6.out.under hB8
      refine leaves_marks hm8 (fun w' hc hb => ⟨.slice (some ⟨gg, 0, none⟩) R.length cg, ?_, gg, cg, rfl, ?_, ?_⟩)
      · simp [results, Tryd.results59, go_sem]
      · have : w'.ownsRow w6'.heap.size 3 1 (.slice (some ⟨gg, 0, none⟩) R.length cg) R.length (qv R) := ownsRow_blocks hrow8 (fun g hg => by
          obtain ⟨cur, hcur⟩ := own_cells hrow8 hg
          exact hc g _ _ _ hcur)
        exact ownsRow_base this HB6.out.size
      · have h1 := HA.out
        obtain ⟨q1, q2, q3, q4, q5, q6⟩ := h1
        exact (below_next HB6.out hB8).trans (hb.mono (by omega))
    · have HRg : Hid (R = wayL near inner ot fr fu' ((elems (sLess (nv &&& inner) met)).foldl (fun b u => b.set u v) back) ((elems (sLess (nv &&& inner) met)).foldl sAdd met) (Q.drop (k + 1) ++ elems (sLess (nv &&& inner) met)) ∧ wayOk near inner ot fr fu' ((elems (sLess (nv &&& inner) met)).foldl (fun b u => b.set u v) back) ((elems (sLess (nv &&& inner) met)).foldl sAdd met) (Q.drop (k + 1) ++ elems (sLess (nv &&& inner) met)) = true) := by
        have h1 := HRv.out
        have h2 := HKv.out
        rw [if_neg hc] at h1 h2
        exact ⟨h1, h2⟩
      go_cut [59] from 52 to 59 (fun s59 wd => s59 = .bool false ∧ Below w1.heap.size w1 wd)
      case first =>
        by_cases hvf : v = fr
        · have e1 : ((v : Int) != (fr : Int)) = false := by simp [hvf]
          have e2 : (v : Int) = (fr : Int) := by omega
          go_wp2
          go_meet
          exact ⟨rfl, Below.refl _ _⟩
        · have e1 : ((v : Int) != (fr : Int)) = true := by simp; omega
          have e2 : ¬ (v : Int) = (fr : Int) := by omega
          have hla : la = 0 := by
            rcases Nat.eq_zero_or_pos la with h | h
            · exact h
            · exact absurd ⟨hvf, by omega⟩ hc
          rw [show (la == 0) = true by simpa using hla] at C64b
          clear hla
          go_wp2_with (first | (go_at_call 64; refine Calls.mono C64b.out ?_; rintro e w2 ⟨rfl, h2⟩) | go_in)
          go_meet
          exact ⟨rfl, h2⟩
      case rest =>
        obtain ⟨rfl, hBc⟩ := hcut
        have hw3 := HW2.out.under hBc
        have hm3 : Marks (b9 + 1) hi ds wc := HM2.out.under hBc
        have o3 : One wc b11 (.int .i64 (v : Int)) 3 := (hBc.block _ (lt_of_block HO2.out)).trans HO2.out
        have HW3 : Hid _ := hw3
        have HM3 : Hid (Marks (b9 + 1) hi ds wc) := hm3
        have HO3 : Hid _ := o3
        have hmet := HF.out.2.2.1
        have C67b : Hid (∀ A : World, Calls Tryd.prog 67 #[sv nv, sv inner] A fun e w' => e = .returned (sv (nv &&& inner)) ∧ Below A.heap.size A w') := fun A => both_call HLA.out.2 HI.out.1
        have C62b : Hid (∀ A : World, Calls Tryd.prog 62 #[sv (nv &&& inner), sv met] A fun e w' => e = .returned (sv (sLess (nv &&& inner) met)) ∧ Below A.heap.size A w') := fun A => less_call (and_lt HLA.out.2) hmet
        obtain ⟨p0, p1, p2, p3⟩ := pbox_cells hw3.p2
        obtain ⟨m0, m1⟩ := cell_two hw3.m8
        obtain ⟨n0, n1⟩ := HNV.out _ hw3.below
        have gv := cell_growD (box_cell o3 (i := 0) rfl)
        have gp0 := cell_growD p0
        have gp1 := cell_growD p1
        have gm0 := cell_growD m0
        have gm1 := cell_growD m1
        have gn0 := cell_growD n0
        have gn1 := cell_growD n1
        have HNS : Hid (sLess (nv &&& inner) met < 2 ^ 128 ∧ ∀ z, (sLess (nv &&& inner) met).testBit z = true → z < N) := ⟨less_lt (and_lt HLA.out.2), fun z hz => by
          rw [bit_less, Nat.testBit_and] at hz
          rw [HNN.out]
          exact HI.out.2 z (Bool.and_eq_true_iff.1 (Bool.and_eq_true_iff.1 hz).1).2⟩
        clear hw3 hm3 o3 p0 p1 p2 p3 m0 m1 n0 n1 hmet
        go_upto_region 17 with (fail)
        refine wp_region_below (by kernel_rfl) (by kernel_rfl) ?_
        repeat (quiet_step (first | (go_at_call 67; exact Calls.belowQ (fun W _ => C67b.out W)) | (go_at_call 62; exact Calls.belowQ (fun W _ => C62b.out W))))
        refine wpQuiet_nil ?_
        rintro _ ⟨gp, rfl⟩
        have hBg := growD_below wc gp
        have HW4 : Hid _ := HW3.out.under hBg
        have HM4 : Hid (Marks (b9 + 1) hi ds (growD wc gp)) := HM3.out.under hBg
        have HO4 : Hid (One (growD wc gp) b11 (.int .i64 (v : Int)) 3) := (hBg.block _ (lt_of_block HO3.out)).trans HO3.out
        clear gv gp0 gp1 gm0 gm1 gn0 gn1 hBg cv y0 y1
        generalize growD wc gp = wg at *
        generalize sLess (nv &&& inner) met = ns at *
        have HLw : Hid (b9 < wg.heap.size ∧ b11 < wg.heap.size ∧ hi ≤ wg.heap.size) := ⟨lt_of_block HW4.out.o9, lt_of_block HO4.out, by have := HB11.out.2.1; have := lt_of_block HO4.out; show hi ≤ _; omega⟩
        go_wp2
        refine wpIn_wide.1 (range_rising (n := 8) (by omega) (by omega) HNS.out.1 rfl
          (fun pre W => ∃ y, WI w W b2 b6 bk b7 b8 b9 N inner feet ot (pre.foldl (fun b u => b.set u v) back) (pre.foldl sAdd met) y (Q ++ pre) ∧ One W b11 (.int .i64 (v : Int)) 3 ∧ Marks (b9 + 1) hi ds W ∧ (∀ g, y.ownBlock = some g → ¬ Own3 wg.heap.size g) ∧ (∀ g, y.ownBlock = some g → g ≠ b11)) ?hI ?hT ?h0
          (fun u => { tmps := #[pv ⟨inner, feet⟩, sl bn N, Value.pointer (some ⟨b2, 0, none⟩), undef, Value.slice none 0 0, Value.int .i64 (fr : Int), Value.pointer (some ⟨b6, 0, none⟩), Value.pointer (some ⟨b7, 0, none⟩), Value.pointer (some ⟨b8, 0, none⟩), Value.pointer (some ⟨b9, 0, none⟩), Value.int .i64 (k : Int), Value.pointer (some ⟨b11, 0, none⟩), Value.pointer (some ⟨b12, 0, none⟩), Value.int .i64 (u : Int), Value.pointer (some ⟨b2, 2, none⟩), sv feet, Value.int .i64 (fr : Int), Value.pointer (some ⟨b2, 2, none⟩), sv feet, Value.int .i64 (fr : Int), Value.tuple #[], Value.pointer (some ⟨b2, 0, none⟩), sv inner, Value.bool false, undef, undef, undef, undef, sl bn N, Value.int .i64 (N : Int), Value.slice (some ⟨bk, 0, none⟩) N N, Value.int .i64 (fr : Int), Value.slice (some ⟨w7.heap.size, 0, none⟩) 1 1, sv (setOf [fr]), Value.int .i64 (fr : Int), Value.slice (some ⟨q9, 0, none⟩) 1 1, Value.int .i64 (k : Int), Value.slice (some ⟨gq, 0, none⟩) ql cq, Value.int .i64 (ql : Int), Value.bool true, f 7, f 8, Value.slice (some ⟨gq, 0, none⟩) ql cq, Value.int .i64 (k : Int), Value.pointer (some ⟨gq, k, none⟩), Value.int .i64 (v : Int), sl bn N, Value.int .i64 (v : Int), Value.pointer (some ⟨bn, v * 2, none⟩), sv nv, sv ot, sv la, u52, u53, u54, u55, u56, u57, u58, Value.bool false, f 27, f 28, f 29, f 30, f 31, f 32, f 33, f 34, f 35, f 36, sl bn N, Value.int .i64 (v : Int), Value.pointer (some ⟨bn, v * 2, none⟩), sv nv, Value.pointer (some ⟨b2, 0, none⟩), sv inner, sv (nv &&& inner), sv met, sv ns, Value.func (Fn.func 47) #[sv ns] #[], Value.int .i64 (u : Int), f 48, f 49, f 50, f 51, f 52, f 53, f 54, f 55, f 56, f 57], defers := [] }) ?assign ?body ?done)
        case hI =>
          rintro pre A B hAs ⟨y, p1, p2, p3, p4, p5⟩ hTu
          obtain ⟨q1, q2, q3⟩ := HLw.out
          exact ⟨y, p1.turns HA.out hTu (fun k hk => by have := hk.1; omega) p4, one_turns p2 hTu (fun hk => by have := hk.1; omega), p3.turns hTu (fun k hk hm => by have := hm.1; omega), p4, p5⟩
        case hT =>
          rintro pre A ⟨y, p1, _⟩
          exact (HNW.out _ p1.below).2
        case h0 =>
          refine ⟨_, by simpa using HW4.out, HO4.out, HM4.out, fun g hg ho => ?_, fun g hg => ?_⟩
          · have := (HW4.out.row.lt g hg).2
            have := ho.1
            omega
          · have h1 : gq = g := by simpa [Value.ownBlock] using hg
            have := HB11.out.2.2
            omega
        case assign =>
          intro l x W K hK
          gi_wp2
          exact hK
        case done =>
          rintro D W hD ⟨y, p1, p2, p3, p4, _⟩ hDW
          have HP5 : Hid _ := p1
          have HM5 : Hid (Marks (b9 + 1) (D + 1) (mkD D :: ds) W) := p3.cons (by rw [hD]; have := HLw.out.1; omega) (by rw [hD]; exact HLw.out.2.2) hDW
          have HD5 : Hid (D + 1 ≤ W.heap.size) := (Array.getElem?_eq_some_iff.1 hDW).1
          clear p1 p2 p3 p4 hDW hD
          go_wp2
          obtain ⟨hk1, hk2, hk3, hk4, hk5, hk6⟩ := HF.out
          have HK3 : Hid (met < 2 ^ 128) := hk3
          clear hk3
          have hel := elems_len ns
          obtain ⟨fnew, hfnew⟩ := F59_any inner feet bn N b2 fr b6 b7 b8 b9 bk w7.heap.size q9 (Value.int .i64 ((k + 1 : Nat) : Int)) (mkD D :: ds) (Value.pointer (some ⟨b11, 0, none⟩)) (Value.pointer (some ⟨b12, 0, none⟩)) (f 2) (Value.int .i64 (k : Int)) (Value.slice (some ⟨gq, 0, none⟩) ql cq) (Value.int .i64 (ql : Int)) (Value.bool true) (Value.int .i64 (k : Int)) (Value.int .i64 ((k + 1 : Nat) : Int)) (Value.slice (some ⟨gq, 0, none⟩) ql cq) (Value.int .i64 (k : Int)) (Value.pointer (some ⟨gq, k, none⟩)) (Value.int .i64 (v : Int)) (sl bn N) (Value.int .i64 (v : Int)) (Value.pointer (some ⟨bn, v * 2, none⟩)) (sv nv) (sv ot) (sv la) (u52) (u53) (u54) (u55) (u56) (u57) (u58) (Value.bool false) (f 27) (f 28) (f 29) (f 30) (f 31) (f 32) (f 33) (f 34) (f 35) (f 36) (sl bn N) (Value.int .i64 (v : Int)) (Value.pointer (some ⟨bn, v * 2, none⟩)) (sv nv) (Value.pointer (some ⟨b2, 0, none⟩)) (sv inner) (sv (nv &&& inner)) (sv met) (sv ns) (Value.func (Fn.func 47) #[sv ns] #[]) (f 47) (f 48) (f 49) (f 50) (f 51) (f 52) (f 53) (f 54) (f 55) (f 56) (f 57)
          refine ⟨⟨k + 1, mkD D :: ds, D + 1, (elems ns).foldl (fun b u => b.set u v) back, (elems ns).foldl sAdd met, y, Q ++ elems ns, fu', fnew, hfnew, HP5.out, HM5.out, HD5.out, by omega, ?_, ?_, ?_, ?_, ?_⟩, ?_⟩
          · have hdd : (Q ++ elems ns).drop (k + 1) = Q.drop (k + 1) ++ elems ns := List.drop_append_of_le_length HKQ.out
            rw [hdd]
            exact HRg.out
          · rw [foldl_set_len]; exact hk2
          · exact foldl_add_lt (elems ns) met HK3.out (fun z hz => by have := HNS.out.2 z ((mem_elems HNS.out.1).1 hz); omega)
          · intro z hz
            rcases List.mem_append.1 hz with h | h
            · exact hk4 z h
            · exact HNS.out.2 z ((mem_elems HNS.out.1).1 h)
          · rw [List.length_append]; omega
          · simp [numOf]; omega
        case body =>
          rintro l pre u post W he hsz ⟨y, p1, p2, p3, p4, p5⟩
          have hu : u < N := HNS.out.2 u ((mem_elems HNS.out.1).1 (by rw [he]; simp))
          have hpl : pre.length ≤ 128 := by
            have := elems_len ns
            rw [he, List.length_append] at this; omega
          obtain ⟨hk1, hk2, hk3, hk4, hk5, hk6⟩ := HF.out
          have HK3 : Hid (met < 2 ^ 128) := hk3
          clear hk3
          have hml : pre.foldl sAdd met < 2 ^ 128 := foldl_add_lt pre met HK3.out (fun z hz => by have := HNS.out.2 z ((mem_elems HNS.out.1).1 (by rw [he]; simp [hz])); omega)
          have hbl : (pre.foldl (fun b u => b.set u v) back).length = N := by rw [foldl_set_len]; exact hk2
          have HML : Hid _ := hml
          clear hml
          have hql : (Q ++ pre).length ≤ 1000000 := by rw [List.length_append]; omega
          have C48 : Hid _ := add_sbox HML.out (show u < 128 by omega) p1.m8
          have F48 : Fence.wide.fn 48 := trivial
          have HP1 : Hid _ := p1
          have k1 : (0 : Int) ≤ (u : Int) := by omega
          have k2 : (u : Int) < (N : Int) := by omega
          have HBL : Hid ((pre.foldl (fun b u => b.set u v) back).length = N ∧ (Q ++ pre).length ≤ 1000000) := ⟨hbl, hql⟩
          have HE : Hid (pre.foldl (fun b u => b.set u v) back = pre.foldl (fun b u => b.set u v) back) := rfl
          clear hbl hql
          gi_wp2_with (first
            | (gi_at_call 48; refine (CallsIn.inRound l (callsIn_wide.2 C48.out)).mono ?_; rintro e w3 ⟨rfl, h3, t3⟩; have hp3 := HP1.out.set8 HA.out t3 h3; have c7 := box_cell hp3.o7 (i := 0) rfl; have o3 : One w3 b11 (.int .i64 (v : Int)) 3 := one_turns p2 t3 (by have h1 := HA.out; have h2 := HB11.out; obtain ⟨_, _, _, q4, q5, q6⟩ := h1; omega); have c11 := box_cell o3 (i := 0) rfl; have ck := hp3.rk.cell (j := u) (by rw [HBL.out.1]; exact hu); have fk := hp3.rk.free u; have hp4 : Hid _ := hp3.setk HA.out u v; have c9' := box_cell hp4.out.o9 (i := 0) rfl; have HP3 : Hid _ := hp3; have HT3 : Hid _ := t3; clear hp3 t3)
            | (gi_at_builtin; refine wpListIn_push (x := u) rfl _ _ rfl rfl ?hy hp4.out.row HBL.out.2 (by have h1 := HA.out; have h2 := lt_of_block hp4.out.o9; obtain ⟨_, _, _, q4, q5, q6⟩ := h1; omega) ?_; (case hy => rw [World.size_setCell]; rfl); intro gn cn w5 h5 h6 h7; have o5 : One w5 b9 y 61 := (h6.block _ (by have := lt_of_block hp4.out.o9; rw [World.size_alloc]; omega) (fun e => hp4.out.qne _ e.symm rfl)).trans ((Below.heap_alloc _ _ _ (lt_of_block hp4.out.o9)).trans hp4.out.o9); have d9 := box_cell o5 (i := 0) rfl; have f9 := one_free o5; clear o5))
          have hln : (Q ++ (pre ++ [u])).length = Q.length + (pre.length + 1) := by simp
          have hbw : Below (w3.setCell ⟨bk, u, none⟩ (.int .i64 (v : Int))).heap.size (w3.setCell ⟨bk, u, none⟩ (.int .i64 (v : Int))) ((w3.setCell ⟨bk, u, none⟩ (.int .i64 (v : Int))).alloc (Obj.cells #[.int .i64 (u : Int)] 3)) := below_alloc (Below.refl _ _) _
          rw [List.append_assoc] at h5
          obtain ⟨hpf, htf⟩ := hp4.out.push (Q' := Q ++ (pre ++ [u])) HA.out hbw h6 h5 (fun g hg => by
            have : gn = g := by simpa [Value.ownBlock] using hg
            rw [← this]; exact h7)
          have hT1 := setCell_turns w3 bk u (.int .i64 (v : Int))
          rw [hln] at hpf htf
          obtain ⟨q1, q2, q3⟩ := HLw.out
          obtain ⟨a1, a2, a3, a4, a5, a6⟩ := HA.out
          obtain ⟨r1, r2, r3⟩ := HB11.out
          have hsz3 := HT3.out.size
          have hsz4 : (w3.setCell ⟨bk, u, none⟩ (.int .i64 (v : Int))).heap.size = w3.heap.size := World.size_setCell _ _ _
          have hy11 : y.ownBlock ≠ some b11 := fun e => p5 b11 e rfl
          have h11W : b11 < W.heap.size := lt_of_block p2
          refine ⟨fun z hz => ?_, Nat.le_trans hsz3 (Nat.le_trans (Nat.le_of_eq hsz4.symm) htf.size), .slice (some ⟨gn, 0, none⟩) (Q.length + (pre.length + 1)) cn, ?_, one_turns (one_turns (one_turns p2 HT3.out (by omega)) hT1 (by omega)) htf ?_, ((p3.turns HT3.out ?_).turns hT1 ?_).turns htf ?_, fun g hg ho => ?_, fun g hg => ?_⟩
          · have hz1 := hz.1
            have hz2 := hz.2
            refine (htf.block z (by omega) ?_).trans ((hT1.block z (by omega) (by omega)).trans (HT3.out.block z (by omega) (by omega)))
            rintro (e | e)
            · omega
            · exact p4 z e hz
          · rw [List.foldl_append, List.foldl_append]
            exact hpf
          · rintro (e | e)
            · omega
            · exact hy11 e
          · intro z hz e
            subst e; exact ⟨_, _, _, HP1.out.m8⟩
          · intro z hz e
            subst e
            obtain ⟨cur, h1, _⟩ := HP3.out.rk
            exact ⟨_, _, _, h1⟩
          · rintro z hz (e | e)
            · subst e; exact ⟨_, _, _, hp4.out.o9⟩
            · obtain ⟨cur, hcur⟩ := own_cells hp4.out.row e
              exact ⟨_, _, _, hcur⟩
          · have : gn = g := by simpa [Value.ownBlock] using hg
            subst this
            rcases h7 with h | h
            · exact p4 _ h ho
            · have := ho.2; omega
          · have : gn = g := by simpa [Value.ownBlock] using hg
            subst this
            rcases h7 with h | h
            · exact p5 _ h
            · omega
/-- wayThrough. -/
theorem way_call {w : World} {bn : Nat} {near : List Nat} {p : Piece} (hn : SetsAt w bn near) (hl : near.length ≤ 100) (hp1 : p.inner < 2 ^ 128) (hp2 : p.feet < 2 ^ 128) (h0 : p.feet ≠ 0) (h1 : sDrop p.feet (firstS p.feet) ≠ 0)
    (hin : ∀ v, p.inner.testBit v = true → v < near.length) (hft : ∀ v, p.feet.testBit v = true → v < near.length) (ht : T64 w) (hok : throughOk near p = true) :
    Calls Tryd.prog 59 #[pv p, sl bn near.length] w fun e w' => Nums w w' e (wayThrough near p) := by
  unfold throughOk at hok
  by_cases hi : p.inner = 0
  · have : wayThrough near p = [firstS p.feet, firstS (sDrop p.feet (firstS p.feet))] := by unfold wayThrough; rw [if_pos hi]
    rw [this]
    exact way_edge hi hp2 h0 h1 ht
  · have : wayThrough near p = wayL near p.inner (sDrop p.feet (firstS p.feet)) (firstS p.feet) 128 (List.replicate near.length 0) (setOf [firstS p.feet]) [firstS p.feet] := by unfold wayThrough; rw [if_neg hi]
    rw [this]
    refine way_seek hn hl hp1 hp2 hi h0 h1 hin hft ht ?_
    rcases Bool.or_eq_true_iff.1 hok with h | h
    · exact absurd (by simpa using h) hi
    · exact h
end Go.Proofs.YtekokjechbibdaaDoor
