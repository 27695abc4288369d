/- What package plane reckons, as functions of lists and of sets written as numbers. Sets of nodes below 128 as one number, and as two words of 64 bits. How many bits of a word are 1: by adding within bytes, then over bytes. -/
namespace Go.Proofs.YtekokjechbibdaaDoor
abbrev E2 := Nat × Nat
/-- Sets of nodes are numbers: node v is in s where bit v of s is 1. -/
def sAdd (s v : Nat) : Nat := s ||| (1 <<< v)
def sLess (s t : Nat) : Nat := s ^^^ (s &&& t)
def sDrop (s v : Nat) : Nat := sLess s (1 <<< v)
def elems (s : Nat) : List Nat := (List.range 128).filter s.testBit
def firstS (s : Nat) : Nat := (elems s).headD 0
def countS (s : Nat) : Nat := (elems s).length
def setOf (l : List Nat) : Nat := l.foldl sAdd 0
def at' (near : List Nat) (v : Nat) : Nat := near.getD v 0
def nearBy (n : Nat) (es : List E2) : List Nat := es.foldl (fun near e => let near := near.set e.1 (sAdd (at' near e.1) e.2); near.set e.2 (sAdd (at' near e.2) e.1)) (List.replicate n 0)
def part (near : List Nat) (u v : Nat) : List Nat := let near := near.set u (sDrop (at' near u) v); near.set v (sDrop (at' near v) u)
structure Piece where
  inner : Nat
  feet : Nat
structure Face where
  walk : List Nat
  nodes : Nat
def faceOf (l : List Nat) : Face := ⟨l, setOf l⟩
/-- The piece of what is open. -/
def growL (near : List Nat) (laid rest : Nat) : Nat → Piece → Nat → Piece
  | 0, p, _ => p
  | f + 1, p, op =>
    if op = 0 then p else
      let v := firstS op
      let inner := sAdd p.inner v
      growL near laid rest f ⟨inner, p.feet ||| (at' near v &&& laid)⟩ (sDrop op v ||| sLess (at' near v &&& rest) inner)
def grow (near : List Nat) (laid rest : Nat) : Piece := growL near laid rest 128 ⟨0, 0⟩ (setOf [firstS rest])
def restL (near : List Nat) (laid : Nat) : Nat → Nat → List Piece
  | 0, _ => []
  | f + 1, rest =>
    if rest = 0 then [] else
      let p := grow near laid rest
      (if 1 < countS p.feet then [p] else []) ++ restL near laid f (sLess rest p.inner)
def freshL (near : List Nat) : Nat → List Nat → List Piece × Nat
  | laid, [] => ([], laid)
  | laid, v :: l =>
    let r := freshL near (sAdd laid v) l
    ((elems (at' near v &&& laid)).map (fun u => ⟨0, setOf [u, v]⟩) ++ r.1, r.2)
def piecesOf (near : List Nat) (laid : Nat) (fresh : List Nat) (rest : Nat) : List Piece :=
  let r := freshL near laid fresh
  r.1 ++ restL near r.2 128 rest
/-- Back from v to from. -/
def goBack (back : List Nat) (fr : Nat) : Nat → Nat → List Nat
  | 0, v => [v]
  | f + 1, v => if v = fr then [v] else v :: goBack back fr f (back.getD v 0)
def wayL (near : List Nat) (inner others fr : Nat) : Nat → List Nat → Nat → List Nat → List Nat
  | 0, _, _, _ => []
  | _ + 1, _, _, [] => []
  | f + 1, back, met, v :: queue =>
    let last := at' near v &&& others
    if v ≠ fr ∧ last ≠ 0 then goBack (back.set (firstS last) v) fr 128 (firstS last)
    else
      let new := elems (sLess (at' near v &&& inner) met)
      wayL near inner others fr f (new.foldl (fun b u => b.set u v) back) (new.foldl sAdd met) (queue ++ new)
def wayThrough (near : List Nat) (p : Piece) : List Nat :=
  let fr := firstS p.feet
  let others := sDrop p.feet fr
  if p.inner = 0 then [fr, firstS others]
  else wayL near p.inner others fr 128 (List.replicate near.length 0) (setOf [fr]) [fr]
def hasRoom (p : Piece) (f : Face) : Bool := sLess p.feet f.nodes == 0
/-- The first face from one on. -/
def roomFrom (p : Piece) (faces : List Face) (fr : Nat) : Option Nat := ((faces.drop fr).findIdx? (hasRoom p)).map (fr + ·)
def chooseL (faces : List Face) : Nat → List Piece → Option (Nat × Option Nat)
  | _, [] => none
  | i, p :: l =>
    match roomFrom p faces 0 with
    | none => some (i, none)
    | some r => if roomFrom p faces (r + 1) = none then some (i, some r) else chooseL faces (i + 1) l
def choose (pieces : List Piece) (faces : List Face) : Nat × Option Nat :=
  match chooseL faces 0 pieces with
  | some r => r
  | none => (0, match pieces with | [] => none | p :: _ => roomFrom p faces 0)
def along (walk : List Nat) (fr to : Nat) : List Nat := if fr ≤ to then (walk.take (to + 1)).drop fr else walk.drop fr ++ walk.take (to + 1)
def inside (way : List Nat) : List Nat := (way.drop 1).dropLast
def cross (faces : List Face) (room : Nat) (way : List Nat) : List Face :=
  let walk := (faces.getD room ⟨[], 0⟩).walk
  let a := walk.idxOf (way.headD 0)
  let b := walk.idxOf (way.getLastD 0)
  faces.set room (faceOf (along walk b a ++ inside way)) ++ [faceOf (along walk a b ++ (inside way).reverse)]
def partWay : List Nat → List Nat → List Nat
  | near, a :: b :: l => partWay (part near a b) (b :: l)
  | near, _ => near
def layL : Nat → List Nat → Nat → List Face → List Piece → Option (List Face × List Nat)
  | 0, _, _, _, _ => none
  | _ + 1, near, _, faces, [] => some (faces, near)
  | f + 1, near, laid, faces, pieces =>
    match choose pieces faces with
    | (_, none) => none
    | (i, some room) =>
      let p := pieces.getD i ⟨0, 0⟩
      let way := wayThrough near p
      let near := partWay near way
      let faces := cross faces room way
      let fresh := inside way
      layL f near (laid ||| setOf fresh) faces (pieces.eraseIdx i ++ piecesOf near laid fresh (sLess p.inner (setOf fresh)))
def layBlock (near : List Nat) (e : E2) : Option (List Face × List Nat) :=
  let rest := sDrop (sDrop (setOf (List.range near.length)) e.1) e.2
  let near := part near e.1 e.2
  let pieces := piecesOf near 0 [e.1, e.2] rest
  layL 1000 near (setOf [e.1, e.2]) [faceOf [e.1, e.2]] pieces
def layE : List Nat → List Face → List E2 → Option (List Face)
  | _, faces, [] => some faces
  | near, faces, e :: l =>
    if (at' near e.1).testBit e.2 then
      match layBlock near e with
      | none => none
      | some (b, near) => layE near (faces ++ b) l
    else layE near faces l
def lay (n : Nat) (es : List E2) : Option (List Face) := layE (nearBy n es) [] es
def search (p : Nat → Bool) : Nat → Nat → Nat → Nat
  | 0, i, _ => i
  | f + 1, i, j => if i < j then (let h := (i + j) / 2; if p h then search p f i h else search p f (h + 1) j) else i
def needL (n : Nat) : Nat → Nat → List E2 → List E2
  | 0, _, bad => bad
  | f + 1, k, bad => if k < bad.length then (if (lay n (bad.eraseIdx k)).isNone then needL n f k (bad.eraseIdx k) else needL n f (k + 1) bad) else bad
def needed (n : Nat) (es : List E2) : List E2 :=
  let many := search (fun k => (lay n (es.take k)).isNone) 64 0 es.length
  needL n (es.length + 1) 0 (es.take many)
def fullE (n : Nat) : List E2 := (List.range n).flatMap fun i => ((List.range n).filter (fun j => decide (i < j))).map fun j => (i, j)
end Go.Proofs.YtekokjechbibdaaDoor

namespace Go.Proofs.YtekokjechbibdaaDoor
def lo64 (s : Nat) : Nat := s % 2 ^ 64
def hi64 (s : Nat) : Nat := s / 2 ^ 64
def word (s k : Nat) : Nat := if k = 0 then lo64 s else hi64 s
theorem bit_lo (s i : Nat) : (lo64 s).testBit i = (decide (i < 64) && s.testBit i) := by
  unfold lo64; rw [Nat.testBit_mod_two_pow]
theorem bit_hi (s i : Nat) : (hi64 s).testBit i = s.testBit (i + 64) := by
  unfold hi64; rw [Nat.testBit_div_two_pow, Nat.add_comm]
theorem ext2 {s t : Nat} (h0 : lo64 s = lo64 t) (h1 : hi64 s = hi64 t) : s = t := by
  have := Nat.div_add_mod s (2 ^ 64)
  have := Nat.div_add_mod t (2 ^ 64)
  unfold lo64 at h0
  unfold hi64 at h1
  omega
theorem bit_add (s v i : Nat) : (sAdd s v).testBit i = (s.testBit i || decide (i = v)) := by
  unfold sAdd
  rw [Nat.testBit_or, Nat.shiftLeft_eq, Nat.one_mul, Nat.testBit_two_pow]
  congr 1
  rw [decide_eq_decide]
  exact ⟨fun h => h.symm, fun h => h.symm⟩
theorem bit_less (s t i : Nat) : (sLess s t).testBit i = (s.testBit i && !t.testBit i) := by
  unfold sLess
  rw [Nat.testBit_xor, Nat.testBit_and]
  cases s.testBit i <;> cases t.testBit i <;> rfl
theorem bit_drop (s v i : Nat) : (sDrop s v).testBit i = (s.testBit i && !decide (i = v)) := by
  unfold sDrop
  rw [bit_less, Nat.shiftLeft_eq, Nat.one_mul, Nat.testBit_two_pow]
  congr 2
  rw [decide_eq_decide]
  exact ⟨fun h => h.symm, fun h => h.symm⟩
theorem bit_set_foldl : ∀ (l : List Nat) (s i : Nat), (l.foldl sAdd s).testBit i = (s.testBit i || decide (i ∈ l))
  | [], s, i => by simp
  | v :: l, s, i => by
    rw [List.foldl_cons, bit_set_foldl l, bit_add]
    by_cases h1 : i = v
    · simp [h1]
    · simp [h1]
theorem bit_setOf (l : List Nat) (i : Nat) : (setOf l).testBit i = decide (i ∈ l) := by
  unfold setOf
  rw [bit_set_foldl]; simp
theorem lo_or (s t : Nat) : lo64 (s ||| t) = lo64 s ||| lo64 t := Nat.eq_of_testBit_eq fun i => by
  rw [bit_lo, Nat.testBit_or, Nat.testBit_or, bit_lo, bit_lo]; cases decide (i < 64) <;> simp
theorem hi_or (s t : Nat) : hi64 (s ||| t) = hi64 s ||| hi64 t := Nat.eq_of_testBit_eq fun i => by
  rw [bit_hi, Nat.testBit_or, Nat.testBit_or, bit_hi, bit_hi]
theorem lo_and (s t : Nat) : lo64 (s &&& t) = lo64 s &&& lo64 t := Nat.eq_of_testBit_eq fun i => by
  rw [bit_lo, Nat.testBit_and, Nat.testBit_and, bit_lo, bit_lo]; cases decide (i < 64) <;> simp
theorem hi_and (s t : Nat) : hi64 (s &&& t) = hi64 s &&& hi64 t := Nat.eq_of_testBit_eq fun i => by
  rw [bit_hi, Nat.testBit_and, Nat.testBit_and, bit_hi, bit_hi]
theorem lo_less (s t : Nat) : lo64 (sLess s t) = sLess (lo64 s) (lo64 t) := Nat.eq_of_testBit_eq fun i => by
  rw [bit_lo, bit_less, bit_less, bit_lo, bit_lo]; cases decide (i < 64) <;> simp
theorem hi_less (s t : Nat) : hi64 (sLess s t) = sLess (hi64 s) (hi64 t) := Nat.eq_of_testBit_eq fun i => by
  rw [bit_hi, bit_less, bit_less, bit_hi, bit_hi]
theorem lo_add (s : Nat) {v : Nat} (hv : v < 64) : lo64 (sAdd s v) = sAdd (lo64 s) v ∧ hi64 (sAdd s v) = hi64 s := by
  refine ⟨Nat.eq_of_testBit_eq fun i => ?_, Nat.eq_of_testBit_eq fun i => ?_⟩
  · rw [bit_lo, bit_add, bit_add, bit_lo]
    by_cases h : i < 64
    · simp [h]
    · have : i ≠ v := by omega
      simp [h, this]
  · rw [bit_hi, bit_add, bit_hi]
    have : i + 64 ≠ v := by omega
    simp [this]
theorem hi_add (s : Nat) {v : Nat} (hv : 64 ≤ v) : lo64 (sAdd s v) = lo64 s ∧ hi64 (sAdd s v) = sAdd (hi64 s) (v - 64) := by
  refine ⟨Nat.eq_of_testBit_eq fun i => ?_, Nat.eq_of_testBit_eq fun i => ?_⟩
  · rw [bit_lo, bit_add, bit_lo]
    by_cases h : i < 64
    · have : i ≠ v := by omega
      simp [h, this]
    · simp [h]
  · rw [bit_hi, bit_add, bit_add, bit_hi]
    congr 1
    rw [decide_eq_decide]; omega
theorem lo_drop (s : Nat) {v : Nat} (hv : v < 64) : lo64 (sDrop s v) = sDrop (lo64 s) v ∧ hi64 (sDrop s v) = hi64 s := by
  refine ⟨Nat.eq_of_testBit_eq fun i => ?_, Nat.eq_of_testBit_eq fun i => ?_⟩
  · rw [bit_lo, bit_drop, bit_drop, bit_lo]
    cases decide (i < 64) <;> simp
  · rw [bit_hi, bit_drop, bit_hi]
    have : i + 64 ≠ v := by omega
    simp [this]
theorem hi_drop (s : Nat) {v : Nat} (hv : 64 ≤ v) : lo64 (sDrop s v) = lo64 s ∧ hi64 (sDrop s v) = sDrop (hi64 s) (v - 64) := by
  refine ⟨Nat.eq_of_testBit_eq fun i => ?_, Nat.eq_of_testBit_eq fun i => ?_⟩
  · rw [bit_lo, bit_drop, bit_lo]
    by_cases h : i < 64
    · have : i ≠ v := by omega
      simp [h, this]
    · simp [h]
  · rw [bit_hi, bit_drop, bit_drop, bit_hi]
    congr 2
    rw [decide_eq_decide]; omega
theorem lo_lt (s : Nat) : lo64 s < 2 ^ 64 := Nat.mod_lt _ (by decide)
theorem hi_lt {s : Nat} (h : s < 2 ^ 128) : hi64 s < 2 ^ 64 := by unfold hi64; omega
theorem zero2 {s : Nat} : s = 0 ↔ (lo64 s = 0 ∧ hi64 s = 0) := by unfold lo64 hi64; omega
theorem lt_of_bits {s : Nat} (h : ∀ i, s.testBit i = true → i < 128) : s < 2 ^ 128 := by
  rcases Nat.lt_or_ge s (2 ^ 128) with h1 | h1
  · exact h1
  · obtain ⟨i, hi, hb⟩ := Nat.exists_ge_and_testBit_of_ge_two_pow h1
    have := h i hb
    omega
theorem bit_lt {s i : Nat} (hs : s < 2 ^ 128) (h : s.testBit i = true) : i < 128 := by
  rcases Nat.lt_or_ge i 128 with h1 | h1
  · exact h1
  · rw [Nat.testBit_lt_two_pow (Nat.lt_of_lt_of_le hs (Nat.pow_le_pow_right (by omega) h1))] at h; cases h
theorem add_lt {s v : Nat} (hs : s < 2 ^ 128) (hv : v < 128) : sAdd s v < 2 ^ 128 := lt_of_bits fun i h => by
  rw [bit_add] at h
  rcases Bool.or_eq_true_iff.1 h with h | h
  · exact bit_lt hs h
  · have := of_decide_eq_true h; omega
theorem less_lt {s t : Nat} (hs : s < 2 ^ 128) : sLess s t < 2 ^ 128 := lt_of_bits fun i h => by
  rw [bit_less] at h
  exact bit_lt hs (Bool.and_eq_true_iff.1 h).1
theorem mem_elems {s i : Nat} (hs : s < 2 ^ 128) : i ∈ elems s ↔ s.testBit i = true := by
  unfold elems
  rw [List.mem_filter, List.mem_range]
  exact ⟨fun h => h.2, fun h => ⟨bit_lt hs h, h⟩⟩
theorem elems_sorted (s : Nat) : (elems s).Pairwise (· < ·) := List.Pairwise.filter _ List.pairwise_lt_range
/-- The least node. -/
theorem first_spec {s : Nat} (hs : s < 2 ^ 128) (h0 : s ≠ 0) : s.testBit (firstS s) = true ∧ ∀ i, s.testBit i = true → firstS s ≤ i := by
  obtain ⟨k, hk⟩ := Nat.exists_testBit_of_ne_zero h0
  have hm := (mem_elems hs).2 hk
  unfold firstS
  have hs' := elems_sorted s
  cases he : elems s with
  | nil => rw [he] at hm; cases hm
  | cons a l =>
    rw [he] at hs'
    refine ⟨(mem_elems hs).1 (by rw [he]; simp), fun i hi => ?_⟩
    have := (mem_elems hs).2 hi
    rw [he] at this
    rcases List.mem_cons.1 this with rfl | h
    · simp
    · have := (List.pairwise_cons.1 hs').1 i h
      simp
      omega
theorem elems_step {s : Nat} (hs : s < 2 ^ 128) (h0 : s ≠ 0) : elems s = firstS s :: elems (sDrop s (firstS s)) := by
  obtain ⟨h1, h2⟩ := first_spec hs h0
  have e1 : elems s = firstS s :: (elems s).tail := by
    cases he : elems s with
    | nil =>
      have := (mem_elems hs).2 h1
      rw [he] at this; cases this
    | cons a l => simp [firstS, he]
  have hs' := elems_sorted s
  rw [e1] at hs'
  have e2 : (elems s).tail = elems (sDrop s (firstS s)) := by
    have h3 : elems (sDrop s (firstS s)) = (elems s).filter (fun i => !decide (i = firstS s)) := by
      unfold elems
      rw [List.filter_filter]
      congr 1
      funext i
      rw [bit_drop, Bool.and_comm]
    rw [h3]
    conv => rhs; rw [e1]
    rw [List.filter_cons]
    simp only [decide_true, Bool.not_true, Bool.false_eq_true, if_false]
    symm
    rw [List.filter_eq_self]
    intro i hi
    have := (List.pairwise_cons.1 hs').1 i hi
    simp; omega
  rw [e1, e2]
end Go.Proofs.YtekokjechbibdaaDoor

namespace Go.Proofs.YtekokjechbibdaaDoor
/-- How many of the bits below n are 1. -/
def cntB (x n : Nat) : Nat := ((List.range n).filter x.testBit).length
theorem cntB_succ (x n : Nat) : cntB x (n + 1) = cntB x n + (if x.testBit n then 1 else 0) := by
  unfold cntB
  rw [List.range_succ, List.filter_append, List.length_append]
  congr 1
  cases h : x.testBit n <;> simp [h]
theorem cntB_add (x m : Nat) : ∀ n, cntB x (m + n) = cntB x m + cntB (x / 2 ^ m) n
  | 0 => by simp [cntB]
  | n + 1 => by
    rw [← Nat.add_assoc, cntB_succ, cntB_succ, cntB_add x m n, Nat.testBit_div_two_pow, Nat.add_comm n m, Nat.add_assoc]
theorem cntB_congr {x y : Nat} : ∀ n, (∀ i, i < n → x.testBit i = y.testBit i) → cntB x n = cntB y n
  | 0, _ => rfl
  | n + 1, h => by rw [cntB_succ, cntB_succ, cntB_congr n (fun i hi => h i (by omega)), h n (by omega)]
theorem and_join {k a b c d : Nat} (hb : b < 2 ^ k) (hd : d < 2 ^ k) : (a * 2 ^ k + b) &&& (c * 2 ^ k + d) = (a &&& c) * 2 ^ k + (b &&& d) := by
  refine Nat.eq_of_testBit_eq fun i => ?_
  have hbd : b &&& d < 2 ^ k := Nat.and_lt_two_pow _ hd
  rw [Nat.testBit_and, Nat.mul_comm a, Nat.mul_comm c, Nat.mul_comm (a &&& c), Nat.testBit_two_pow_mul_add _ hb, Nat.testBit_two_pow_mul_add _ hd, Nat.testBit_two_pow_mul_add _ hbd]
  by_cases h : i < k
  · simp [h, Nat.testBit_and]
  · simp [h, Nat.testBit_and]
/-- Bytes, the least one first. -/
def bytesN : List Nat → Nat
  | [] => 0
  | b :: l => bytesN l * 2 ^ 8 + b
def s1 (m x : Nat) : Nat := (x / 2 &&& m) + (x &&& m)
def s2 (m x : Nat) : Nat := (x / 4 &&& m) + (x &&& m)
def s3 (m x : Nat) : Nat := (x / 16 + x) &&& m
theorem s1_join {M x b : Nat} (hb : b < 256) : s1 (M * 2 ^ 8 + 85) (x * 2 ^ 8 + b) = s1 M x * 2 ^ 8 + s1 85 b := by
  unfold s1
  have e : (x * 2 ^ 8 + b) / 2 = (x / 2) * 2 ^ 8 + ((x % 2) * 128 + b / 2) := by omega
  rw [e, and_join (by omega) (by decide), and_join (by omega) (by decide)]
  have e2 : ((x % 2) * 128 + b / 2) &&& 85 = (b / 2) &&& 85 := by
    rcases Nat.mod_two_eq_zero_or_one x with h | h <;> rw [h]
    · simp
    · have : ∀ c : Fin 128, (1 * 128 + c.val) &&& 85 = c.val &&& 85 := by decide
      exact this ⟨b / 2, by omega⟩
  rw [e2, Nat.add_mul]; omega
theorem s2_join {M x b : Nat} (hb : b < 256) : s2 (M * 2 ^ 8 + 51) (x * 2 ^ 8 + b) = s2 M x * 2 ^ 8 + s2 51 b := by
  unfold s2
  have e : (x * 2 ^ 8 + b) / 4 = (x / 4) * 2 ^ 8 + ((x % 4) * 64 + b / 4) := by omega
  rw [e, and_join (by omega) (by decide), and_join (by omega) (by decide)]
  have e2 : ((x % 4) * 64 + b / 4) &&& 51 = (b / 4) &&& 51 := by
    have : ∀ (q : Fin 4) (c : Fin 64), (q.val * 64 + c.val) &&& 51 = c.val &&& 51 := by decide
    exact this ⟨x % 4, by omega⟩ ⟨b / 4, by omega⟩
  rw [e2, Nat.add_mul]; omega
theorem s3_join {M x b : Nat} (h0 : b % 16 ≤ 4) (h1 : b / 16 ≤ 4) (hx : x % 16 ≤ 4) : s3 (M * 2 ^ 8 + 15) (x * 2 ^ 8 + b) = s3 M x * 2 ^ 8 + s3 15 b := by
  unfold s3
  obtain ⟨q, hq⟩ : ∃ q, q = x % 16 := ⟨_, rfl⟩
  have e : (x * 2 ^ 8 + b) / 16 + (x * 2 ^ 8 + b) = (x / 16 + x) * 2 ^ 8 + (q * 16 + b / 16 + b) := by omega
  rw [e, and_join (by omega) (by decide)]
  congr 1
  rw [show (15 : Nat) = 2 ^ 4 - 1 from rfl, Nat.and_two_pow_sub_one_eq_mod, Nat.and_two_pow_sub_one_eq_mod]
  omega
def maskN (m : Nat) : Nat → Nat
  | 0 => 0
  | k + 1 => maskN m k * 2 ^ 8 + m
theorem s1_bytes : ∀ (l : List Nat), (∀ b ∈ l, b < 256) → s1 (maskN 85 l.length) (bytesN l) = bytesN (l.map (s1 85))
  | [], _ => rfl
  | b :: l, h => by
    rw [List.length_cons, maskN, bytesN, s1_join (h b (by simp)), s1_bytes l (fun c hc => h c (by simp [hc]))]; rfl
theorem s2_bytes : ∀ (l : List Nat), (∀ b ∈ l, b < 256) → s2 (maskN 51 l.length) (bytesN l) = bytesN (l.map (s2 51))
  | [], _ => rfl
  | b :: l, h => by
    rw [List.length_cons, maskN, bytesN, s2_join (h b (by simp)), s2_bytes l (fun c hc => h c (by simp [hc]))]; rfl
theorem s3_bytes : ∀ (l : List Nat), (∀ b ∈ l, b % 16 ≤ 4 ∧ b / 16 ≤ 4) → s3 (maskN 15 l.length) (bytesN l) = bytesN (l.map (s3 15))
  | [], _ => rfl
  | b :: l, h => by
    rw [List.length_cons, maskN, bytesN, s3_join (h b (by simp)).1 (h b (by simp)).2 ?_, s3_bytes l (fun c hc => h c (by simp [hc]))]
    · rfl
    · cases l with
      | nil => simp [bytesN]
      | cons c l =>
        have := (h c (by simp)).1
        simp only [bytesN]; omega
theorem byte_ok : ∀ b : Fin 256, s1 85 b.val < 256 ∧ s2 51 (s1 85 b.val) % 16 ≤ 4 ∧ s2 51 (s1 85 b.val) / 16 ≤ 4 ∧ s3 15 (s2 51 (s1 85 b.val)) = cntB b.val 8 ∧ cntB b.val 8 ≤ 8 := by decide +kernel
theorem pop_bytes (l : List Nat) (h : ∀ b ∈ l, b < 256) : s3 (maskN 15 l.length) (s2 (maskN 51 l.length) (s1 (maskN 85 l.length) (bytesN l))) = bytesN (l.map fun b => cntB b 8) := by
  have hm : ∀ b ∈ l, s1 85 b < 256 ∧ s2 51 (s1 85 b) % 16 ≤ 4 ∧ s2 51 (s1 85 b) / 16 ≤ 4 ∧ s3 15 (s2 51 (s1 85 b)) = cntB b 8 := fun b hb => by
    have := byte_ok ⟨b, h b hb⟩
    exact ⟨this.1, this.2.1, this.2.2.1, this.2.2.2.1⟩
  rw [s1_bytes l h]
  have h2 := s2_bytes (l.map (s1 85)) (fun c hc => by
    obtain ⟨b, hb, rfl⟩ := List.mem_map.1 hc
    exact (hm b hb).1)
  rw [List.length_map] at h2
  rw [h2]
  have h3 := s3_bytes ((l.map (s1 85)).map (s2 51)) (fun c hc => by
    obtain ⟨c, hc1, rfl⟩ := List.mem_map.1 hc
    obtain ⟨b, hb, rfl⟩ := List.mem_map.1 hc1
    exact ⟨(hm b hb).2.1, (hm b hb).2.2.1⟩)
  rw [List.length_map, List.length_map] at h3
  rw [h3, List.map_map, List.map_map]
  congr 1
  refine List.map_congr_left fun b hb => ?_
  exact (hm b hb).2.2.2
def byteAt (x i : Nat) : Nat := x / 2 ^ (8 * i) % 256
theorem word_bytes {x : Nat} (hx : x < 2 ^ 64) : x = bytesN [byteAt x 0, byteAt x 1, byteAt x 2, byteAt x 3, byteAt x 4, byteAt x 5, byteAt x 6, byteAt x 7] := by
  simp only [bytesN, byteAt]
  omega
theorem cntB_byte (x i : Nat) : cntB (byteAt x i) 8 = cntB (x / 2 ^ (8 * i)) 8 := cntB_congr 8 fun j hj => by
  unfold byteAt
  rw [show 256 = 2 ^ 8 from rfl, Nat.testBit_mod_two_pow]
  simp [hj]
theorem cntB_word (x : Nat) : cntB x 64 = cntB (byteAt x 0) 8 + cntB (byteAt x 1) 8 + cntB (byteAt x 2) 8 + cntB (byteAt x 3) 8 + cntB (byteAt x 4) 8 + cntB (byteAt x 5) 8 + cntB (byteAt x 6) 8 + cntB (byteAt x 7) 8 := by
  have key : ∀ i, cntB x (8 * i + 8) = cntB x (8 * i) + cntB (byteAt x i) 8 := fun i => by rw [cntB_add, cntB_byte]
  have h0 := key 0
  have h1 := key 1
  have h2 := key 2
  have h3 := key 3
  have h4 := key 4
  have h5 := key 5
  have h6 := key 6
  have h7 := key 7
  have hz : cntB x (8 * 0) = 0 := rfl
  simp only [Nat.reduceMul, Nat.reduceAdd] at h0 h1 h2 h3 h4 h5 h6 h7 hz
  omega
/-- What OnesCount64 reckons. -/
def popW (x : Nat) : Nat :=
  let y := s3 (maskN 15 8) (s2 (maskN 51 8) (s1 (maskN 85 8) x))
  let y := y + y / 256
  let y := y + y / 65536
  let y := y + y / 4294967296
  y % 128
theorem popW_eq {x : Nat} (hx : x < 2 ^ 64) : popW x = cntB x 64 := by
  have hb : ∀ i, byteAt x i < 256 := fun i => Nat.mod_lt _ (by decide)
  have hp := pop_bytes [byteAt x 0, byteAt x 1, byteAt x 2, byteAt x 3, byteAt x 4, byteAt x 5, byteAt x 6, byteAt x 7] (by intro b h; simp at h; rcases h with h | h | h | h | h | h | h | h <;> rw [h] <;> exact hb _)
  rw [← word_bytes hx] at hp
  have hc : ∀ i, cntB (byteAt x i) 8 ≤ 8 := fun i => (byte_ok ⟨byteAt x i, hb i⟩).2.2.2.2
  have c0 := hc 0; have c1 := hc 1; have c2 := hc 2; have c3 := hc 3; have c4 := hc 4; have c5 := hc 5; have c6 := hc 6; have c7 := hc 7
  have hw := cntB_word x
  unfold popW
  simp only [List.length_cons, List.length_nil, Nat.reduceAdd] at hp
  rw [hp, hw]
  simp only [List.map_cons, List.map_nil]
  generalize cntB (byteAt x 0) 8 = a0 at *
  generalize cntB (byteAt x 1) 8 = a1 at *
  generalize cntB (byteAt x 2) 8 = a2 at *
  generalize cntB (byteAt x 3) 8 = a3 at *
  generalize cntB (byteAt x 4) 8 = a4 at *
  generalize cntB (byteAt x 5) 8 = a5 at *
  generalize cntB (byteAt x 6) 8 = a6 at *
  generalize cntB (byteAt x 7) 8 = a7 at *
  clear hp hw hc hb hx
  have e1 : bytesN [a0, a1, a2, a3, a4, a5, a6, a7] + bytesN [a0, a1, a2, a3, a4, a5, a6, a7] / 256 = bytesN [a0 + a1, a1 + a2, a2 + a3, a3 + a4, a4 + a5, a5 + a6, a6 + a7, a7] := by simp only [bytesN]; omega
  rw [e1]
  have e2 : bytesN [a0 + a1, a1 + a2, a2 + a3, a3 + a4, a4 + a5, a5 + a6, a6 + a7, a7] + bytesN [a0 + a1, a1 + a2, a2 + a3, a3 + a4, a4 + a5, a5 + a6, a6 + a7, a7] / 65536 = bytesN [a0 + a1 + (a2 + a3), a1 + a2 + (a3 + a4), a2 + a3 + (a4 + a5), a3 + a4 + (a5 + a6), a4 + a5 + (a6 + a7), a5 + a6 + a7, a6 + a7, a7] := by simp only [bytesN]; omega
  rw [e2]
  have e3 : bytesN [a0 + a1 + (a2 + a3), a1 + a2 + (a3 + a4), a2 + a3 + (a4 + a5), a3 + a4 + (a5 + a6), a4 + a5 + (a6 + a7), a5 + a6 + a7, a6 + a7, a7] / 4294967296 = bytesN [a4 + a5 + (a6 + a7), a5 + a6 + a7, a6 + a7, a7] := by simp only [bytesN]; omega
  rw [e3]
  have e4 : bytesN [a0 + a1 + (a2 + a3), a1 + a2 + (a3 + a4), a2 + a3 + (a4 + a5), a3 + a4 + (a5 + a6), a4 + a5 + (a6 + a7), a5 + a6 + a7, a6 + a7, a7] + bytesN [a4 + a5 + (a6 + a7), a5 + a6 + a7, a6 + a7, a7] = 256 * (bytesN [a1 + a2 + (a3 + a4), a2 + a3 + (a4 + a5), a3 + a4 + (a5 + a6), a4 + a5 + (a6 + a7), a5 + a6 + a7, a6 + a7, a7] + bytesN [a5 + a6 + a7, a6 + a7, a7]) + (a0 + a1 + a2 + a3 + a4 + a5 + a6 + a7) := by simp only [bytesN]; omega
  rw [e4]
  generalize bytesN _ + bytesN _ = z
  clear e1 e2 e3 e4
  omega
/-- Nowhere does a sum go over 64 bits. -/
theorem s1_lt (x : Nat) : s1 (maskN 85 8) x < 2 ^ 64 := by
  have h1 : x / 2 &&& maskN 85 8 ≤ maskN 85 8 := Nat.and_le_right
  have h2 : x &&& maskN 85 8 ≤ maskN 85 8 := Nat.and_le_right
  have h3 : maskN 85 8 = 6148914691236517205 := rfl
  unfold s1
  omega
theorem s2_lt (x : Nat) : s2 (maskN 51 8) x ≤ 7378697629483820646 := by
  have h1 : x / 4 &&& maskN 51 8 ≤ maskN 51 8 := Nat.and_le_right
  have h2 : x &&& maskN 51 8 ≤ maskN 51 8 := Nat.and_le_right
  have h3 : maskN 51 8 = 3689348814741910323 := rfl
  unfold s2
  omega
theorem s3_lt (x : Nat) : s3 (maskN 15 8) x ≤ 1085102592571150095 := by
  have h1 : (x / 16 + x) &&& maskN 15 8 ≤ maskN 15 8 := Nat.and_le_right
  have h3 : maskN 15 8 = 1085102592571150095 := rfl
  unfold s3
  omega
theorem count_two {s : Nat} : countS s = cntB (lo64 s) 64 + cntB (hi64 s) 64 := by
  show cntB s 128 = _
  rw [show (128 : Nat) = 64 + 64 from rfl, cntB_add]
  congr 1
  exact cntB_congr 64 fun i hi => by rw [bit_lo]; simp [hi]
end Go.Proofs.YtekokjechbibdaaDoor
