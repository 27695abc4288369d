/- trace: the faces of an order round the nodes. -/
import Derived.Test.YtekokjechbibdaaDoorTraceN
namespace Go.Proofs.YtekokjechbibdaaDoor
set_option maxRecDepth 8000
open Go.RowKit Go.Maps
attribute [local go_sem ↓] Go.wp_at_zero Go.wp_at_succ
attribute [local go_sem] Oper.semAt_some
theorem SmallM.stepR {M : Nat → Nat → Nat} (h : SmallM M) {l : List Nat} (hl : ∀ v ∈ l, v < 100) (v i : Nat) : SmallM (stepR v l M i) := fun a b => by
  unfold Go.Proofs.YtekokjechbibdaaDoor.stepR upd2
  split
  · rw [List.getD_eq_getElem?_getD]
    cases hh : l[(i + 1) % l.length]? with
    | none => decide
    | some x => exact Nat.lt_trans (hl x (List.mem_of_getElem? hh)) (by decide)
  · exact h a b
/-- The frame of trace in its last loop. -/
def F33 (bn N bm bf bs : Nat) (v : Value) (f : Nat → Value) (ds : List Deferred) : Act := { tmps := #[sl bn N, f 1, f 2, f 3, f 4, Value.pointer (some ⟨bm + 1, 0, none⟩), f 6, f 7, f 8, f 9, Value.pointer (some ⟨bf, 0, none⟩), Value.pointer (some ⟨bs + 1, 0, none⟩), f 12, f 13, f 14, f 15, f 16, f 17, f 18, f 19, f 20, f 21, f 22, f 23, f 24, f 25, f 26, f 27, f 28, f 29, f 30, f 31, f 32, f 33, f 34, f 35, f 36, f 37, f 38, f 39, f 40, f 41, f 42, f 43, f 44, f 45, f 46, f 47, f 48, f 49, sl bn N, Value.int .i64 (N : Int), v, f 53, f 54, f 55, f 56, f 57, f 58, f 59, f 60, f 61, f 62, f 63, f 64, f 65, f 66, f 67, f 68, f 69, f 70, f 71, f 72, f 73, f 74, f 75, f 76, f 77, f 78, f 79, f 80, f 81, f 82, f 83, f 84, f 85, f 86, f 87, f 88, f 89, f 90, f 91, f 92, f 93, f 94, f 95, f 96, f 97, f 98, f 99, f 100, f 101, f 102], defers := ds }
def IsF33 (bn N bm bf bs : Nat) (v : Value) (ds : List Deferred) (a : Act) : Prop := ∃ f, a = F33 bn N bm bf bs v f ds
theorem isF33 {bn N bm bf bs : Nat} {v : Value} {ds : List Deferred} {x1 x2 x3 x4 x6 x7 x8 x9 x12 x13 x14 x15 x16 x17 x18 x19 x20 x21 x22 x23 x24 x25 x26 x27 x28 x29 x30 x31 x32 x33 x34 x35 x36 x37 x38 x39 x40 x41 x42 x43 x44 x45 x46 x47 x48 x49 x53 x54 x55 x56 x57 x58 x59 x60 x61 x62 x63 x64 x65 x66 x67 x68 x69 x70 x71 x72 x73 x74 x75 x76 x77 x78 x79 x80 x81 x82 x83 x84 x85 x86 x87 x88 x89 x90 x91 x92 x93 x94 x95 x96 x97 x98 x99 x100 x101 x102 : Value} : IsF33 bn N bm bf bs v ds { tmps := #[sl bn N, x1, x2, x3, x4, Value.pointer (some ⟨bm + 1, 0, none⟩), x6, x7, x8, x9, Value.pointer (some ⟨bf, 0, none⟩), Value.pointer (some ⟨bs + 1, 0, none⟩), x12, x13, x14, x15, x16, x17, x18, x19, x20, x21, x22, x23, x24, x25, x26, x27, x28, x29, x30, x31, x32, x33, x34, x35, x36, x37, x38, x39, x40, x41, x42, x43, x44, x45, x46, x47, x48, x49, sl bn N, Value.int .i64 (N : Int), v, x53, x54, x55, x56, x57, x58, x59, x60, x61, x62, x63, x64, x65, x66, x67, x68, x69, x70, x71, x72, x73, x74, x75, x76, x77, x78, x79, x80, x81, x82, x83, x84, x85, x86, x87, x88, x89, x90, x91, x92, x93, x94, x95, x96, x97, x98, x99, x100, x101, x102], defers := ds } := ⟨fun i => ([undef, x1, x2, x3, x4, undef, x6, x7, x8, x9, undef, undef, x12, x13, x14, x15, x16, x17, x18, x19, x20, x21, x22, x23, x24, x25, x26, x27, x28, x29, x30, x31, x32, x33, x34, x35, x36, x37, x38, x39, x40, x41, x42, x43, x44, x45, x46, x47, x48, x49, undef, undef, undef, x53, x54, x55, x56, x57, x58, x59, x60, x61, x62, x63, x64, x65, x66, x67, x68, x69, x70, x71, x72, x73, x74, x75, x76, x77, x78, x79, x80, x81, x82, x83, x84, x85, x86, x87, x88, x89, x90, x91, x92, x93, x94, x95, x96, x97, x98, x99, x100, x101, x102] : List Value).getD i undef, rfl⟩
/-- The frame with which a round of trace begins. -/
def G33 (bn N bm bf bs b12 v nv u : Nat) (f : Nat → Value) : Act := { tmps := #[sl bn N, f 1, f 2, f 3, f 4, Value.pointer (some ⟨bm + 1, 0, none⟩), f 6, f 7, f 8, f 9, Value.pointer (some ⟨bf, 0, none⟩), Value.pointer (some ⟨bs + 1, 0, none⟩), Value.pointer (some ⟨b12, 0, none⟩), Value.int .i64 (u : Int), f 14, f 15, f 16, f 17, f 18, f 19, f 20, f 21, f 22, f 23, f 24, f 25, f 26, f 27, f 28, f 29, f 30, f 31, f 32, f 33, f 34, f 35, f 36, f 37, f 38, f 39, f 40, f 41, f 42, f 43, f 44, f 45, f 46, f 47, f 48, f 49, sl bn N, Value.int .i64 (N : Int), Value.int .i64 (v : Int), Value.bool true, Value.int .i64 (v : Int), sl bn N, Value.int .i64 (v : Int), Value.pointer (some ⟨bn, v * 2, none⟩), sv nv, Value.func (Fn.func 47) #[sv nv] #[], Value.int .i64 (u : Int), f 61, f 62, f 63, f 64, f 65, f 66, f 67, f 68, f 69, f 70, f 71, f 72, f 73, f 74, f 75, f 76, f 77, f 78, f 79, f 80, f 81, f 82, f 83, f 84, f 85, f 86, f 87, f 88, f 89, f 90, f 91, f 92, f 93, f 94, f 95, f 96, f 97, f 98, f 99, f 100, f 101, f 102], defers := [] }
def A20t (bn N bm bf bs b12 v nv u : Nat) (x14 x15 : Value) (f h g : Nat → Value) : Act := { tmps := #[sl bn N, f 1, f 2, f 3, f 4, Value.pointer (some ⟨bm + 1, 0, none⟩), f 6, f 7, f 8, f 9, Value.pointer (some ⟨bf, 0, none⟩), Value.pointer (some ⟨bs + 1, 0, none⟩), Value.pointer (some ⟨b12, 0, none⟩), Value.int .i64 (u : Int), x14, x15, h 16, h 17, f 18, f 19, f 20, f 21, f 22, f 23, f 24, f 25, f 26, f 27, f 28, f 29, f 30, f 31, f 32, f 33, f 34, f 35, f 36, f 37, f 38, f 39, f 40, f 41, f 42, f 43, f 44, f 45, f 46, f 47, f 48, f 49, sl bn N, Value.int .i64 (N : Int), Value.int .i64 (v : Int), Value.bool true, Value.int .i64 (v : Int), sl bn N, Value.int .i64 (v : Int), Value.pointer (some ⟨bn, v * 2, none⟩), sv nv, Value.func (Fn.func 47) #[sv nv] #[], Value.int .i64 (u : Int), Value.int .i64 (v : Int), Value.int .i64 (u : Int), Value.agg #[Value.int .i64 (v : Int), Value.int .i64 (u : Int)], g 0, g 1, g 2, g 3, g 4, g 5, g 6, g 7, g 8, h 73, h 74, h 75, h 76, h 77, h 78, h 79, h 80, h 81, h 82, h 83, h 84, h 85, h 86, h 87, h 88, h 89, h 90, h 91, h 92, h 93, f 94, f 95, f 96, f 97, f 98, f 99, f 100, f 101, f 102], defers := [] }
theorem wpIn_A20t {F : Fence} {n : Nat} {C : Code} {Q : Exit → Act → World → Prop} {w : World} {bn N bm bf bs b12 v nv u : Nat} {x14 x15 : Value} {f : Nat → Value} {y16 y17 y64 y65 y66 y67 y68 y69 y70 y71 y72 y73 y74 y75 y76 y77 y78 y79 y80 y81 y82 y83 y84 y85 y86 y87 y88 y89 y90 y91 y92 y93 : Value} (H : ∀ h g : Nat → Value, C.wpIn F n Tryd.prog Q (A20t bn N bm bf bs b12 v nv u x14 x15 f h g) w) :
    C.wpIn F n Tryd.prog Q { tmps := #[sl bn N, f 1, f 2, f 3, f 4, Value.pointer (some ⟨bm + 1, 0, none⟩), f 6, f 7, f 8, f 9, Value.pointer (some ⟨bf, 0, none⟩), Value.pointer (some ⟨bs + 1, 0, none⟩), Value.pointer (some ⟨b12, 0, none⟩), Value.int .i64 (u : Int), x14, x15, y16, y17, f 18, f 19, f 20, f 21, f 22, f 23, f 24, f 25, f 26, f 27, f 28, f 29, f 30, f 31, f 32, f 33, f 34, f 35, f 36, f 37, f 38, f 39, f 40, f 41, f 42, f 43, f 44, f 45, f 46, f 47, f 48, f 49, sl bn N, Value.int .i64 (N : Int), Value.int .i64 (v : Int), Value.bool true, Value.int .i64 (v : Int), sl bn N, Value.int .i64 (v : Int), Value.pointer (some ⟨bn, v * 2, none⟩), sv nv, Value.func (Fn.func 47) #[sv nv] #[], Value.int .i64 (u : Int), Value.int .i64 (v : Int), Value.int .i64 (u : Int), Value.agg #[Value.int .i64 (v : Int), Value.int .i64 (u : Int)], y64, y65, y66, y67, y68, y69, y70, y71, y72, y73, y74, y75, y76, y77, y78, y79, y80, y81, y82, y83, y84, y85, y86, y87, y88, y89, y90, y91, y92, y93, f 94, f 95, f 96, f 97, f 98, f 99, f 100, f 101, f 102], defers := [] } w := H (fun i => ([undef, undef, undef, undef, undef, undef, undef, undef, undef, undef, undef, undef, undef, undef, undef, undef, y16, y17, undef, undef, undef, undef, undef, undef, undef, undef, undef, undef, undef, undef, undef, undef, undef, undef, undef, undef, undef, undef, undef, undef, undef, undef, undef, undef, undef, undef, undef, undef, undef, undef, undef, undef, undef, undef, undef, undef, undef, undef, undef, undef, undef, undef, undef, undef, y64, y65, y66, y67, y68, y69, y70, y71, y72, y73, y74, y75, y76, y77, y78, y79, y80, y81, y82, y83, y84, y85, y86, y87, y88, y89, y90, y91, y92, y93, undef, undef, undef, undef, undef, undef, undef, undef, undef] : List Value).getD i undef) (fun i => ([y64, y65, y66, y67, y68, y69, y70, y71, y72] : List Value).getD i undef)
def A21t (bn N bm bf bs b12 v nv u : Nat) (x14 x15 : Value) (f h g : Nat → Value) : Act := { tmps := #[sl bn N, f 1, f 2, f 3, f 4, Value.pointer (some ⟨bm + 1, 0, none⟩), f 6, f 7, f 8, f 9, Value.pointer (some ⟨bf, 0, none⟩), Value.pointer (some ⟨bs + 1, 0, none⟩), Value.pointer (some ⟨b12, 0, none⟩), Value.int .i64 (u : Int), x14, x15, g 4, g 5, f 18, f 19, f 20, f 21, f 22, f 23, f 24, f 25, f 26, f 27, f 28, f 29, f 30, f 31, f 32, f 33, f 34, f 35, f 36, f 37, f 38, f 39, f 40, f 41, f 42, f 43, f 44, f 45, f 46, f 47, f 48, f 49, sl bn N, Value.int .i64 (N : Int), Value.int .i64 (v : Int), Value.bool true, Value.int .i64 (v : Int), sl bn N, Value.int .i64 (v : Int), Value.pointer (some ⟨bn, v * 2, none⟩), sv nv, Value.func (Fn.func 47) #[sv nv] #[], Value.int .i64 (u : Int), Value.int .i64 (v : Int), Value.int .i64 (u : Int), Value.agg #[Value.int .i64 (v : Int), Value.int .i64 (u : Int)], h 64, h 65, h 66, h 67, h 68, h 69, h 70, h 71, h 72, g 0, g 1, g 2, g 3, h 77, h 78, h 79, h 80, h 81, h 82, h 83, h 84, h 85, h 86, h 87, h 88, h 89, h 90, h 91, h 92, h 93, f 94, f 95, f 96, f 97, f 98, f 99, f 100, f 101, f 102], defers := [] }
theorem wpIn_A21t {F : Fence} {n : Nat} {C : Code} {Q : Exit → Act → World → Prop} {w : World} {bn N bm bf bs b12 v nv u : Nat} {x14 x15 : Value} {f : Nat → Value} {y16 y17 y64 y65 y66 y67 y68 y69 y70 y71 y72 y73 y74 y75 y76 y77 y78 y79 y80 y81 y82 y83 y84 y85 y86 y87 y88 y89 y90 y91 y92 y93 : Value} (H : ∀ h g : Nat → Value, C.wpIn F n Tryd.prog Q (A21t bn N bm bf bs b12 v nv u x14 x15 f h g) w) :
    C.wpIn F n Tryd.prog Q { tmps := #[sl bn N, f 1, f 2, f 3, f 4, Value.pointer (some ⟨bm + 1, 0, none⟩), f 6, f 7, f 8, f 9, Value.pointer (some ⟨bf, 0, none⟩), Value.pointer (some ⟨bs + 1, 0, none⟩), Value.pointer (some ⟨b12, 0, none⟩), Value.int .i64 (u : Int), x14, x15, y16, y17, f 18, f 19, f 20, f 21, f 22, f 23, f 24, f 25, f 26, f 27, f 28, f 29, f 30, f 31, f 32, f 33, f 34, f 35, f 36, f 37, f 38, f 39, f 40, f 41, f 42, f 43, f 44, f 45, f 46, f 47, f 48, f 49, sl bn N, Value.int .i64 (N : Int), Value.int .i64 (v : Int), Value.bool true, Value.int .i64 (v : Int), sl bn N, Value.int .i64 (v : Int), Value.pointer (some ⟨bn, v * 2, none⟩), sv nv, Value.func (Fn.func 47) #[sv nv] #[], Value.int .i64 (u : Int), Value.int .i64 (v : Int), Value.int .i64 (u : Int), Value.agg #[Value.int .i64 (v : Int), Value.int .i64 (u : Int)], y64, y65, y66, y67, y68, y69, y70, y71, y72, y73, y74, y75, y76, y77, y78, y79, y80, y81, y82, y83, y84, y85, y86, y87, y88, y89, y90, y91, y92, y93, f 94, f 95, f 96, f 97, f 98, f 99, f 100, f 101, f 102], defers := [] } w := H (fun i => ([undef, undef, undef, undef, undef, undef, undef, undef, undef, undef, undef, undef, undef, undef, undef, undef, y16, y17, undef, undef, undef, undef, undef, undef, undef, undef, undef, undef, undef, undef, undef, undef, undef, undef, undef, undef, undef, undef, undef, undef, undef, undef, undef, undef, undef, undef, undef, undef, undef, undef, undef, undef, undef, undef, undef, undef, undef, undef, undef, undef, undef, undef, undef, undef, y64, y65, y66, y67, y68, y69, y70, y71, y72, y73, y74, y75, y76, y77, y78, y79, y80, y81, y82, y83, y84, y85, y86, y87, y88, y89, y90, y91, y92, y93, undef, undef, undef, undef, undef, undef, undef, undef, undef] : List Value).getD i undef) (fun i => ([y73, y74, y75, y76, y16, y17] : List Value).getD i undef)
def V20 (bs N b15 a sa b : Nat) (bt : Bool) : Nat → Value
  | 0 => sl bs N
  | 1 => .pointer (some ⟨b15, 0, none⟩)
  | 2 => .int .i64 (a : Int)
  | 3 => .pointer (some ⟨bs, a * 2, none⟩)
  | 4 => sv sa
  | 5 => .pointer (some ⟨b15, 1, none⟩)
  | 6 => .int .i64 (b : Int)
  | 7 => .bool bt
  | 8 => .bool !bt
  | _ => undef
def V21 (b15 a b : Nat) : Nat → Value
  | 0 => .pointer (some ⟨b15, 0, none⟩)
  | 1 => .int .i64 (a : Int)
  | 2 => .pointer (some ⟨b15, 1, none⟩)
  | 3 => .int .i64 (b : Int)
  | 4 => .int .i64 (a : Int)
  | 5 => .int .i64 (b : Int)
  | _ => undef
theorem dartL_stop {M : Nat → Nat → Nat} {f a b : Nat} {s : List Nat × List Nat} (h : (at' s.1 a).testBit b = true) : dartL M f a b s = s := by
  cases f with
  | zero => rfl
  | succ f => rw [dartL, if_pos h]
theorem dartL_go {M : Nat → Nat → Nat} {f a b : Nat} {seen walk : List Nat} (h : (at' seen a).testBit b = false) : dartL M (f + 1) a b (seen, walk) = dartL M f b (M b a) (seen.set a (sAdd (at' seen a) b), walk ++ [a]) := by
  rw [dartL, if_neg (by simp [h])]
/-- Lists of lists of one's own: the answer of a function. -/
def FacesAns (w w' : World) (e : Ending) (ls : List (List Nat)) : Prop := ∃ x hi q vs, e = .returned x ∧ FacesAt w' w.heap.size hi q x ls vs ∧ Below w.heap.size w w'
/-- At the list of a plain region's operations, in a round. -/
theorem wpListIn_run {F : Fence} {n : Nat} {P : Program} {ops : Array Oper} {rest : List Oper} {o : Oper} {a : Act} {w : World} {Q : Exit → Act → World → Prop} (hgd : o.guard = none) (s x : Operand) (t : TypeId)
    (ho : o.op = .call { callee := .builtin .append, args := #[s, x], argTypes := #[t, t] }) {v y z : Value} {w' : World} (hs : a.eval s = v) (hx : a.eval x = y) (hr : (Builtin.append_ #[t, t] o.type #[v, y]).run P w = .ok z w') (h : wpListIn F n P ops Q rest (a.put o.dst z) w') : wpListIn F n P ops Q (o :: rest) a w := by
  refine wpListIn_plain hgd fun K hK => ?_
  unfold Oper.wpIn
  refine ⟨by simp [Oper.about, ho, resolve, Target.leads, Sem.run_pure], ?_⟩
  rw [Oper.semAt_plain F _ _ (by rw [ho]; intro c hc'; cases hc')]
  simp only [execOp, ho, resolve, invoke, builtin, Sem.run_bind, Sem.run_pure, Result.andThen_ok, List.map_toArray, List.map_cons, List.map_nil, hs, hx, hr]
  exact hK _ _ h
theorem FacesAt.cellsK {w w' : World} {lo lo' hi q : Nat} {v : Value} {ls : List (List Nat)} {vs : List Value} (h : FacesAt w lo hi q v ls vs) (hk : ∀ (k : Nat) (cs : Array Value) (t : TypeId) (r : Nat × Nat), w.heap[k]? = some (Obj.cells cs t r) → w'.heap[k]? = w.heap[k]?) (hl : lo' ≤ lo) : FacesAt w' lo' hi q v ls vs :=
  ⟨h.hl, ownsRow_base (ownsRow_blocks h.row (fun g hg => by obtain ⟨cur, hc⟩ := own_cells h.row hg; exact hk g _ _ _ hc)) hl, fun i x l h1 h2 => ownsRow_base (ownsRow_blocks (h.el i x l h1 h2) (fun g hg => by obtain ⟨cur, hc⟩ := own_cells (h.el i x l h1 h2) hg; exact hk g _ _ _ hc)) hl, h.hv, h.hx⟩
def TI33 (w : World) (bm bf bs b12 n N v : Nat) (M : Nat → Nat → Nat) (seen : List Nat) (ls : List (List Nat)) (hm : Nat) (ds : List Deferred) (pre : List Nat) (W : World) : Prop := ∃ seen' ls' fx' vs' hi', RT w W bm bf bs b12 (b12 + 1) n N v M seen' fx' ls' vs' hi' ∧ (seen', ls') = dartsAt M v pre (seen, ls) ∧ seen'.length = N ∧ ls'.length ≤ sumS seen' ∧ Marks (bs + 2) hm ds W
set_option maxHeartbeats 8000000 in
theorem trace_call {w : World} {bn : Nat} {near : List Nat} {x : Value} {rs : List (List Nat)} (hn : SetsAt w bn near) (hl : near.length ≤ 100) (hnb : ∀ s ∈ near, ∀ v, s.testBit v = true → v < near.length) (hR : RowsAt w x (castR rs)) (hrl : rs.length = near.length) (hrs : ∀ l ∈ rs, l.length ≤ 100 ∧ ∀ u ∈ l, u < near.length) (ht : T64 w) (hM : ∀ a b, a < near.length → turnsR rs near.length a b < near.length) :
    Calls Tryd.prog 33 #[sl bn near.length, x] w fun e w' => FacesAns w w' e (traceL (turnsR rs near.length) near near.length).2 := by
  have HN : Hid (SetsAt w bn near) := hn
  have HNB : Hid (∀ s ∈ near, ∀ v, s.testBit v = true → v < near.length) := hnb
  have HT : Hid (T64 w) := ht
  obtain ⟨ao, cap, rfl, hrow⟩ := rowsAt_castR hR
  rw [hrl]
  have HRW : Hid (∀ (i : Nat) (l : List Nat), rs[i]? = some l → ∃ b off xo xc, ao = some ⟨b, off, none⟩ ∧ w.cell? ⟨b, off + i, none⟩ = some (.slice xo l.length xc) ∧ NumO w xo l) := hrow
  obtain ⟨N, hN⟩ : ∃ N, N = near.length := ⟨_, rfl⟩
  rw [← hN] at hl hrl hrs hM ⊢
  have HNN : Hid (N = near.length ∧ rs.length = N) := ⟨hN, hrl⟩
  have HRS : Hid (∀ l ∈ rs, l.length ≤ 100 ∧ ∀ u ∈ l, u < N) := hrs
  have HMN : Hid (∀ a b, a < N → turnsR rs N a b < N) := hM
  clear hn hnb ht hR hrow hN hrl hrs hM
  refine (callsIn_wide (n := 8)).1 (callsIn_of_wp_marks Tryd.func33 rfl trivial ?_ rfl)
  refine wpIn_wide.2 ?_
  simp only [Tryd.ntmps33, List.size_toArray, List.length_cons, List.length_nil, Nat.reduceAdd, Nat.reduceSub, Array.replicate_succ, Array.replicate_zero, List.push_toArray, List.append_toArray, List.nil_append, List.cons_append]
  have hmm := @run_makeMap Tryd.prog
  go_upto_region 3 with (fail)
  obtain ⟨bm, hbm⟩ : ∃ b, b = w.heap.size := ⟨_, rfl⟩
  have x0 : TurnM ((w.alloc (.map #[] 0)).alloc (Obj.cells #[.map (some bm)] 84)) bm 0 (fun _ _ => 0) := by
    rw [hbm]; exact (turnM_made w).block (Below.heap_alloc _ _ _ (by simp))
  have x5 : One ((w.alloc (.map #[] 0)).alloc (Obj.cells #[.map (some bm)] 84)) (bm + 1) (.map (some bm)) 84 := by
    have := one_new (w.alloc (.map #[] 0)) (.map (some bm)) 84
    rw [World.size_alloc, ← hbm] at this
    exact this
  have hB0 : Below w.heap.size w ((w.alloc (.map #[] 0)).alloc (Obj.cells #[.map (some bm)] 84)) := below_alloc (below_alloc (Below.refl _ w) _) _
  have HBM : Hid (w.heap.size ≤ bm) := Nat.le_of_eq hbm.symm
  rw [← hbm]
  generalize (w.alloc (.map #[] 0)).alloc (Obj.cells #[.map (some bm)] 84) = W1 at *
  have HX : Hid (TurnM W1 bm 0 (fun _ _ => 0) ∧ One W1 (bm + 1) (.map (some bm)) 84 ∧ Below w.heap.size w W1) := ⟨x0, x5, hB0⟩
  clear hbm x0 x5 hB0 hmm
  go_loopw [21] (fun s21 wz => ∃ k n : Nat, k ≤ N ∧ s21 = .int .i64 (k : Int) ∧ TurnM wz bm n (turnsR rs k) ∧ SmallM (turnsR rs k) ∧ n ≤ 1000 * k ∧ Turns (fun k => k = bm) W1 wz) (fun s21 _ => N - (numOf s21).toNat)
  case atStart => exact ⟨0, 0, Nat.zero_le _, rfl, HX.out.1, fun _ _ => (by show (0 : Nat) < 128; decide), Nat.zero_le _, Turns.refl _ _⟩
  case round =>
    obtain ⟨k, n, hk, rfl, hM, hSm, hn, htn⟩ := hrel
    have hB : Below w.heap.size w wr := htn.below HX.out.2.2 HX.out.2.2.size (fun k e => by rw [e]; exact HBM.out)
    by_cases hlt : k < N
    · obtain ⟨l, hlk⟩ : ∃ l, rs[k]? = some l := ⟨rs[k]'(by rw [HNN.out.2]; exact hlt), List.getElem?_eq_getElem _⟩
      obtain ⟨b, off, xo, xc, rfl, cx, hnum⟩ := HRW.out k l hlk
      have cx := (hB.cell (World.block_lt_of_cell? w _ cx)).trans cx
      obtain ⟨hll, hlu⟩ := HRS.out l (List.mem_of_getElem? hlk)
      have HTK : Hid (turnsR rs (k + 1) = fillR k l l.length (turnsR rs k)) := by
        show fillR k (rs.getD k []) (rs.getD k []).length (turnsR rs k) = _
        rw [List.getD_eq_getElem?_getD, hlk]; rfl
      obtain ⟨len, hlen⟩ : ∃ n, n = l.length := ⟨_, rfl⟩
      rw [← hlen] at cx hll
      have HL : Hid (len = l.length ∧ (∀ v ∈ l, v < 100) ∧ NumO w xo l) := ⟨hlen, fun v hv => by have := hlu v hv; omega, hnum⟩
      have HM0 : Hid (TurnM wr bm n (turnsR rs k) ∧ SmallM (turnsR rs k) ∧ n ≤ 1000 * k ∧ Turns (fun k => k = bm) W1 wr) := ⟨hM, hSm, hn, htn⟩
      have i1 : (0 : Int) ≤ (k : Int) := by omega
      have i2 : (k : Int) < (N : Int) := by omega
      clear hM hSm hn htn hB hlk hnum hlu hlen
      go_upto_region 6 with (fail)
      generalize wr = wa at *
      go_loopw [28] (fun s28 wz => ∃ i n' : Nat, i ≤ len ∧ s28 = .int .i64 (i : Int) ∧ TurnM wz bm n' (fillR k l i (turnsR rs k)) ∧ SmallM (fillR k l i (turnsR rs k)) ∧ n' ≤ 1000 * k + i ∧ Turns (fun k => k = bm) W1 wz) (fun s28 _ => len - (numOf s28).toNat)
      case atStart => exact ⟨0, n, Nat.zero_le _, rfl, HM0.out.1, HM0.out.2.1, HM0.out.2.2.1, HM0.out.2.2.2⟩
      case round =>
        obtain ⟨i, n', hi, rfl, hM, hSm, hn', htn⟩ := hrel
        have hB : Below w.heap.size w wr := htn.below HX.out.2.2 HX.out.2.2.size (fun k e => by rw [e]; exact HBM.out)
        by_cases hil : i < len
        · have hpos : 0 < len := by omega
          obtain ⟨pc', hpc⟩ : ∃ p, p = (i + 1) % len := ⟨_, rfl⟩
          have hpcl : pc' < len := by rw [hpc]; exact Nat.mod_lt _ hpos
          have hget : ∀ j, j < len → l[j]? = some (l.getD j 0) := fun j hj => by
            rw [List.getD_eq_getElem?_getD, List.getElem?_eq_getElem (by have := HL.out.1; omega)]; rfl
          have hst : stepR k l (fillR k l i (turnsR rs k)) i = upd2 (fillR k l i (turnsR rs k)) k (l.getD i 0) (l.getD pc' 0) := by
            unfold stepR
            rw [← HL.out.1, ← hpc]
          have hsb : ∀ j, j < len → l.getD j 0 < 100 := fun j hj => HL.out.2.1 _ (List.mem_of_getElem? (hget j hj))
          obtain ⟨g, goff, hxo, ci⟩ := (HL.out.2.2.below hB) i _ (hget i hil)
          obtain ⟨g2, goff2, hxo2, cc0⟩ := (HL.out.2.2.below hB) pc' _ (hget pc' hpcl)
          rw [hxo] at hxo2
          cases hxo2
          subst hxo
          have cc := cell_growD cc0
          have ex2 : Int.tmod ((i : Int) + 1) (len : Int) = (pc' : Int) := by
            rw [hpc, show (i : Int) + 1 = ((i + 1 : Nat) : Int) by omega]
            rfl
          have ex5 : IntKind.i64.wrap ((i : Int) + 1) = (i : Int) + 1 := by rw [IntKind.wrap_i64]; omega
          have ex7a : ¬ len = 0 := by omega
          have r3 : (0 : Int) ≤ (pc' : Int) := by omega
          have r4 : (pc' : Int) < (len : Int) := by omega
          have r5 : (0 : Int) ≤ (i : Int) := by omega
          have r6 : (i : Int) < (len : Int) := by omega
          have HSB : Hid (l.getD i 0 < 100 ∧ l.getD pc' 0 < 100) := ⟨hsb i hil, hsb pc' hpcl⟩
          have HST : Hid _ := hst
          have HMI : Hid (TurnM wr bm n' (fillR k l i (turnsR rs k)) ∧ SmallM (stepR k l (fillR k l i (turnsR rs k)) i) ∧ n' ≤ 1000 * k + i ∧ Turns (fun k => k = bm) W1 wr) := ⟨hM, hSm.stepR HL.out.2.1 k i, hn', htn⟩
          have g5 := cell_growD (box_cell (one_turns HX.out.2.1 htn (by omega)) (i := 0) rfl)
          generalize l.getD i 0 = li at *
          generalize l.getD pc' 0 = lc at *
          clear hpc hget hst hsb hM hSm hn' htn cc0
          go_upto_region 8 with (fail)
          refine wp_region_tailT 12 (by kernel_rfl) (by kernel_rfl) (by kernel_rfl) (by decide) ?_
          simp only [List.take_succ_cons, List.take_zero, List.drop_succ_cons, List.drop_zero]
          repeat (quiet_step (fail))
          refine wpQuiet_nil ?_
          rintro _ ⟨gp, rfl⟩
          have hB8 := growD_below wr gp
          clear cc g5
          generalize growD wr gp = w8 at *
          have HT8 : Hid (Turns (fun k => k = bm) W1 w8) := HMI.out.2.2.2.trans (Turns.of_below hB8 _)
          obtain ⟨w9, hrun, hM9, ht9⟩ := (HMI.out.1.under hB8).store (u := k) (v := li) (c := lc) (by omega) (by have := HSB.out; omega) (by have := HSB.out; omega) (by have := HMI.out.2.2.1; omega)
          have HM9 : Hid (TurnM w9 bm (n' + 1) (stepR k l (fillR k l i (turnsR rs k)) i) ∧ Turns (fun k => k = bm) W1 w9) := ⟨by rw [HST.out]; exact hM9, HT8.out.trans (turned_turns ht9)⟩
          clear hB8 hM9 ht9
          go_wp2
          go_roundw
          case rel => exact ⟨i + 1, n' + 1, by omega, by go_num, by rw [fillR_succ]; exact HM9.out.1, by rw [fillR_succ]; exact HMI.out.2.1, by have := HMI.out.2.2.1; omega, HM9.out.2⟩
          case measure => simp [numOf]; omega
        · have r6 : ¬ (i : Int) < (len : Int) := by omega
          have hil2 : i = len := by omega
          have HMI : Hid (TurnM wr bm n' (turnsR rs (k + 1)) ∧ SmallM (turnsR rs (k + 1)) ∧ n' ≤ 1000 * (k + 1) ∧ Turns (fun k => k = bm) W1 wr) := ⟨by rw [HTK.out, ← HL.out.1, ← hil2]; exact hM, by rw [HTK.out, ← HL.out.1, ← hil2]; exact hSm, by omega, htn⟩
          clear hM hSm hn' htn hil2
          go_wp2
          go_roundw
          case rel => exact ⟨k + 1, n', by omega, by go_num, HMI.out.1, HMI.out.2.1, HMI.out.2.2.1, HMI.out.2.2.2⟩
          case measure => simp [numOf]; omega
    · have hkN : k = N := by omega
      have i2 : ¬ (k : Int) < (N : Int) := by omega
      have HMM : Hid (TurnM wr bm n (turnsR rs N) ∧ SmallM (turnsR rs N) ∧ One wr (bm + 1) (.map (some bm)) 84 ∧ Below w.heap.size w wr) := by
        rw [hkN] at hM hSm
        exact ⟨hM, hSm, one_turns HX.out.2.1 htn (by omega), hB⟩
      have hmk := make58 N (by omega)
      clear hM hSm hn htn hB hkN
      go_upto_region 14 with (fail)
      obtain ⟨bf, hbf⟩ : ∃ b, b = wr.heap.size := ⟨_, rfl⟩
      rw [← hbf]
      have x10 : One (((wr.alloc (Obj.cells #[Value.slice none 0 0] 29)).alloc (Obj.cells (rep2 N) 76)).alloc (Obj.cells #[Value.slice (some ⟨bf + 1, 0, none⟩) N N] 58)) bf (.slice none 0 0) 29 := by rw [hbf]; exact (Below.heap_alloc _ _ _ (by simp; omega)).trans ((Below.heap_alloc _ _ _ (by simp)).trans (one_new _ _ _))
      have xs : SetsAt (((wr.alloc (Obj.cells #[Value.slice none 0 0] 29)).alloc (Obj.cells (rep2 N) 76)).alloc (Obj.cells #[Value.slice (some ⟨bf + 1, 0, none⟩) N N] 58)) (bf + 1) (List.replicate N 0) := by
        refine setsAt_made ((Below.heap_alloc _ _ _ (by simp [← hbf])).trans ?_)
        have := heap_alloc_new (wr.alloc (Obj.cells #[Value.slice none 0 0] 29)) (.cells (rep2 N) 76)
        rw [World.size_alloc, ← hbf] at this
        exact this
      have x11 : One (((wr.alloc (Obj.cells #[Value.slice none 0 0] 29)).alloc (Obj.cells (rep2 N) 76)).alloc (Obj.cells #[Value.slice (some ⟨bf + 1, 0, none⟩) N N] 58)) (bf + 1 + 1) (sl (bf + 1) N) 58 := by
        have := one_new ((wr.alloc (Obj.cells #[Value.slice none 0 0] 29)).alloc (Obj.cells (rep2 N) 76)) (Value.slice (some ⟨bf + 1, 0, none⟩) N N) 58
        rw [World.size_alloc, World.size_alloc, ← hbf] at this
        exact this
      have hBb : Below wr.heap.size wr (((wr.alloc (Obj.cells #[Value.slice none 0 0] 29)).alloc (Obj.cells (rep2 N) 76)).alloc (Obj.cells #[Value.slice (some ⟨bf + 1, 0, none⟩) N N] 58)) := below_alloc (below_alloc (below_alloc (Below.refl _ wr) _) _) _
      have hbmf : bm + 1 < bf := by rw [hbf]; exact lt_of_block HMM.out.2.2.1
      generalize (((wr.alloc (Obj.cells #[Value.slice none 0 0] 29)).alloc (Obj.cells (rep2 N) 76)).alloc (Obj.cells #[Value.slice (some ⟨bf + 1, 0, none⟩) N N] 58)) = W3 at *
      generalize hbs : bf + 1 = bs at *
      generalize hMt : turnsR rs N = M at *
      have HW3 : Hid (One W3 bf (.slice none 0 0) 29 ∧ SetsAt W3 bs (List.replicate N 0) ∧ One W3 (bs + 1) (sl bs N) 58 ∧ TurnM W3 bm n M ∧ One W3 (bm + 1) (.map (some bm)) 84 ∧ Below w.heap.size w W3) := ⟨x10, xs, x11, HMM.out.1.under hBb, (hBb.block _ (lt_of_block HMM.out.2.2.1)).trans HMM.out.2.2.1, below_next HMM.out.2.2.2 hBb⟩
      have HBT : Hid (w.heap.size ≤ bm ∧ bm + 1 < bf ∧ bf < bs) := ⟨HBM.out, hbmf, by omega⟩
      have HMT : Hid (turnsR rs N = M) := hMt
      clear hmk hbf x10 xs x11 hBb hbmf HMM hMt hbs
      refine wp_loop (fun a wz => ∃ (v : Nat) (ds : List Deferred) (hm : Nat) (seen : List Nat) (ls : List (List Nat)) (fx : Value) (vs : List Value) (hi q : Nat), IsF33 bn N bm bf bs (.int .i64 (v : Int)) ds a ∧ v ≤ N ∧ (seen, ls) = traceL M near v ∧ ls.length ≤ sumS seen ∧ One wz (bm + 1) (.map (some bm)) 84 ∧ TurnM wz bm n M ∧ One wz bf fx 29 ∧ One wz (bs + 1) (sl bs N) 58 ∧ SetsAt wz bs seen ∧ seen.length = N ∧ FacesAt wz (bs + 2) hi q fx ls vs ∧ hi ≤ wz.heap.size ∧ Below w.heap.size w wz ∧ Marks (bs + 2) hm ds wz ∧ hm ≤ wz.heap.size) (fun a _ => N - (numOf (a.tmps.getD 52 undef)).toNat) ⟨0, [], 0, _, [], .slice none 0 0, [], 0, 0, isF33, Nat.zero_le _, by rw [traceL, ← HNN.out.1], Nat.zero_le _, HW3.out.2.2.2.2.1, HW3.out.2.2.2.1, HW3.out.1, HW3.out.2.2.1, HW3.out.2.1, by simp, facesAt_nil _ _ _ _, Nat.zero_le _, HW3.out.2.2.2.2.2, Marks.nil _ _ _, Nat.zero_le _⟩ ?_
      rintro a wr ⟨v, ds, hm, seen, ls, fx, vs, hi, q, ⟨f, rfl⟩, hv, htr, hlsum, hmp, htm, hfb, hsb, hsets, hsl, hfc, hhi, hB, hmk, hhm⟩
      dsimp only [F33]
      by_cases hlt : v < N
      · have hvn : v < near.length := by have := HNN.out.1; omega
        have hal := at_lt HN.out.lt v
        have HNV : Hid (∀ A, Below w.heap.size w A → A.cell? ⟨bn, v * 2, none⟩ = some (.int .u64 (lo64 (at' near v) : Int)) ∧ A.cell? ⟨bn, v * 2 + 1, none⟩ = some (.int .u64 (hi64 (at' near v) : Int))) := fun A hA => (HN.out.below hA HN.out.ltS).cell (at_some hvn)
        have HAV : Hid (at' near v < 2 ^ 128 ∧ ∀ z, (at' near v).testBit z = true → z < N) := ⟨hal, fun z hz => by
          rw [HNN.out.1]
          exact HNB.out _ (List.mem_of_getElem? (at_some hvn)) z hz⟩
        have HTR : Hid (traceL M near (v + 1) = dartsAt M v (elems (at' near v)) (seen, ls)) := by
          show dartsAt M v (elems (at' near v)) (traceL M near v) = _
          rw [htr]
        generalize at' near v = nv at *
        have HR : Hid (One wr (bm + 1) (.map (some bm)) 84 ∧ TurnM wr bm n M ∧ One wr bf fx 29 ∧ One wr (bs + 1) (sl bs N) 58 ∧ SetsAt wr bs seen ∧ seen.length = N ∧ FacesAt wr (bs + 2) hi q fx ls vs ∧ hi ≤ wr.heap.size ∧ Below w.heap.size w wr ∧ Marks (bs + 2) hm ds wr ∧ hm ≤ wr.heap.size) := ⟨hmp, htm, hfb, hsb, hsets, hsl, hfc, hhi, hB, hmk, hhm⟩
        have j1 : (0 : Int) ≤ (v : Int) := by omega
        have j2 : (v : Int) < (N : Int) := by omega
        clear hmp htm hfb hsb hsets hsl hfc hhi hB hmk hhm hal hvn htr
        go_upto_region 16 with (fail)
        have hB14 : Below wr.heap.size wr (wr.alloc (Obj.cells #[.int .i64 (v : Int)] 3)) := below_alloc (Below.refl _ wr) _
        have x12 := one_new wr (.int .i64 (v : Int)) 3
        have hq : wr.heap.size + 1 = (wr.alloc (Obj.cells #[.int .i64 (v : Int)] 3)).heap.size := by simp
        have hbw : bs + 1 < wr.heap.size := lt_of_block HR.out.2.2.2.1
        obtain ⟨b12, hb12⟩ : ∃ b, b = wr.heap.size := ⟨_, rfl⟩
        rw [← hb12] at x12 hq hbw ⊢
        generalize wr.alloc (Obj.cells #[.int .i64 (v : Int)] 3) = w4 at *
        have HAp : Hid (ApT w.heap.size bm bf bs b12 (b12 + 1)) := ⟨HBT.out.1, HBT.out.2.1, HBT.out.2.2, hbw, by omega⟩
        have HQ4 : Hid (b12 + 1 = w4.heap.size) := hq
        have HRT : Hid (RT w w4 bm bf bs b12 (b12 + 1) n N v M seen fx ls vs hi) := ⟨(hB14.block _ (lt_of_block HR.out.1)).trans HR.out.1, HR.out.2.1.under hB14, (hB14.block _ (lt_of_block HR.out.2.2.1)).trans HR.out.2.2.1, (hB14.block _ (lt_of_block HR.out.2.2.2.1)).trans HR.out.2.2.2.1, HR.out.2.2.2.2.1.under hB14, x12, (HR.out.2.2.2.2.2.2.1.under hB14 HR.out.2.2.2.2.2.2.2.1).next (by have := HR.out.2.2.2.2.2.2.2.1; omega), below_next HR.out.2.2.2.2.2.2.2.2.1 hB14, by have := HR.out.2.2.2.2.2.2.2.1; omega⟩
        have HMK : Hid (Marks (bs + 2) hm ds w4 ∧ hm ≤ b12 ∧ seen.length = N ∧ ls.length ≤ sumS seen) := ⟨HR.out.2.2.2.2.2.2.2.2.2.1.under hB14, by rw [hb12]; exact HR.out.2.2.2.2.2.2.2.2.2.2, HR.out.2.2.2.2.2.1, hlsum⟩
        have cv := box_cell x12 (i := 0) rfl
        obtain ⟨n0, n1⟩ := HNV.out w4 HRT.out.below
        clear hB14 x12 hq hbw hb12 HNV hlsum
        go_upto_region 17 with (fail)
        clear cv n0 n1
        refine wpIn_wide.1 (range_rising (n := 8) (by omega) (by omega) HAV.out.1 rfl
          (fun pre W => TI33 w bm bf bs b12 n N v M seen ls hm ds pre W) ?hI ?hT ?h0
          (fun u => G33 bn N bm bf bs b12 v nv u f) ?assign ?body ?done)
        case hI =>
          rintro pre A B hAs ⟨seen', ls', fx', vs', hi', p1, p2, p3, p5, p4⟩ hTu
          rw [← HQ4.out] at hTu
          refine ⟨seen', ls', fx', vs', hi', p1.turns HAp.out hTu (fun k hk => hk.1) (fun g _ _ h3 => h3), p2, p3, p5, p4.turns hTu (fun k hk hk2 => by have := hk2.1; have := HMK.out.2.1; omega)⟩
        case hT =>
          rintro pre A ⟨seen', ls', fx', vs', hi', p1, _⟩
          exact HT.out.under p1.below
        case h0 => exact ⟨seen, ls, fx, vs, hi, HRT.out, rfl, HMK.out.2.2.1, HMK.out.2.2.2, HMK.out.1⟩
        case assign =>
          intro l x W K hK
          gi_wp2
          exact hK
        case done =>
          rintro D W hD ⟨seen', ls', fx', vs', hi', p1, p2, p3, p6, p4⟩ hDW
          have hM5 : Marks (bs + 2) (D + 1) (mkD D :: ds) W := p4.cons (by rw [hD]; have := HQ4.out; have := HAp.out.2.2.2.1; omega) (by rw [hD]; have := HQ4.out; have := HMK.out.2.1; omega) hDW
          have hD5 : D + 1 ≤ W.heap.size := (Array.getElem?_eq_some_iff.1 hDW).1
          have HP : Hid (RT w W bm bf bs b12 (b12 + 1) n N v M seen' fx' ls' vs' hi' ∧ (seen', ls') = traceL M near (v + 1) ∧ seen'.length = N ∧ Marks (bs + 2) (D + 1) (mkD D :: ds) W ∧ D + 1 ≤ W.heap.size ∧ ls'.length ≤ sumS seen') := ⟨p1, by rw [HTR.out]; exact p2, p3, hM5, hD5, p6⟩
          clear p1 p2 p3 p4 p6 hM5 hD5 hDW hD
          go_wp2
          refine ⟨⟨v + 1, mkD D :: ds, D + 1, seen', ls', fx', vs', hi', b12 + 1, isF33, by omega, HP.out.2.1, HP.out.2.2.2.2.2, HP.out.1.mp, HP.out.1.tm, HP.out.1.fb, HP.out.1.sb, HP.out.1.sets, HP.out.2.2.1, HP.out.1.fc, HP.out.1.hs, HP.out.1.below, HP.out.2.2.2.1, HP.out.2.2.2.2.1⟩, ?_⟩
          simp [numOf]; omega
        case body =>
          rintro lb pre u post W he hsz ⟨seen', ls', fx', vs', hi', p1, p2, p3, p6, p4⟩
          have hu : u < N := HAV.out.2 u ((mem_elems HAV.out.1).1 (by rw [he]; simp))
          obtain ⟨B, hB⟩ : ∃ B, B = W.heap.size := ⟨_, rfl⟩
          have p1' : RT w W bm bf bs b12 (b12 + 1) n N v M seen' fx' ls' vs' B := ⟨p1.mp, p1.tm, p1.fb, p1.sb, p1.sets, p1.v12, p1.fc.raise (by rw [hB]; exact p1.hs), p1.below, Nat.le_of_eq hB⟩
          have HW : Hid (b12 + 1 + 3 ≤ B ∧ w4.heap.size = b12 + 1 ∧ B = W.heap.size) := ⟨by have := HQ4.out; omega, HQ4.out.symm, hB⟩
          obtain ⟨R, hR⟩ : ∃ R, R = dartL M 12801 v u (seen', []) := ⟨_, rfl⟩
          have HRg : Hid (dartsAt M v (pre ++ [u]) (seen, ls) = (R.1, if R.2 = [] then ls' else ls' ++ [R.2])) := by
            show _ = _
            unfold dartsAt
            rw [List.foldl_append]
            have : List.foldl (fun s u => dartStep M v u s) (seen, ls) pre = (seen', ls') := p2.symm
            rw [this]
            show dartStep M v u (seen', ls') = _
            unfold dartStep
            rw [← hR]
          have HP0 : Hid (RT w W bm bf bs b12 (b12 + 1) n N v M seen' fx' ls' vs' B ∧ seen'.length = N ∧ Marks (bs + 2) hm ds W ∧ R = dartL M 12801 v u (seen', []) ∧ ls'.length ≤ sumS seen') := ⟨p1', p3, p4, hR, p6⟩
          have cv := box_cell p1.v12 (i := 0) rfl
          clear p1 p1' p2 p3 p4 p6 hR hsz he hB
          dsimp only [G33]
          gi_wp2
          have F40 : Fence.wide.fn 40 := trivial
          have F48 : Fence.wide.fn 48 := trivial
          have xd := two_new W (.int .i64 (v : Int)) (.int .i64 (u : Int)) 49
          have hBd : Below W.heap.size W (W.alloc (Obj.cells #[.int .i64 (v : Int), .int .i64 (u : Int)] 49)) := below_alloc (Below.refl _ W) _
          rw [← HW.out.2.2] at xd ⊢
          generalize W.alloc (Obj.cells #[.int .i64 (v : Int), .int .i64 (u : Int)] 49) = W5 at *
          have HW5 : Hid (Two W5 B (.int .i64 (v : Int)) (.int .i64 (u : Int)) 49 ∧ Below W.heap.size W W5) := ⟨xd, hBd⟩
          clear xd hBd cv
          gi_loopw [14, 15] (fun s14 s15 wz => ∃ (a b b15 fu : Nat) (walk seen2 : List Nat), s15 = .pointer (some ⟨b15, 0, none⟩) ∧ Two wz b15 (.int .i64 (a : Int)) (.int .i64 (b : Int)) 49 ∧ B ≤ b15 ∧ RT w wz bm bf bs b12 (b12 + 1) n N v M seen2 fx' ls' vs' B ∧ wz.ownsRow B 3 1 s14 walk.length (qv walk) ∧ dartL M fu a b (seen2, walk) = R ∧ sumS seen2 = sumS seen' + walk.length ∧ a < N ∧ b < N ∧ seen2.length = N ∧ fu + walk.length = 12801 ∧ Marks (bs + 2) hm ds wz ∧ (∀ k, Own3 (b12 + 1) k → wz.heap[k]? = W.heap[k]?) ∧ W.heap.size ≤ wz.heap.size) (fun s14 _ _ => 12801 - lenV s14)
          case atStart => exact ⟨v, u, B, 12801, [], seen', rfl, HW5.out.1, Nat.le_refl _, HP0.out.1.under HW5.out.2, World.ownsRow_nil _ _ _ _, HP0.out.2.2.2.1.symm, rfl, hlt, hu, HP0.out.2.1, rfl, HP0.out.2.2.1.under HW5.out.2, fun k hk => HW5.out.2.block k (by have := hk.2; have := HW.out; omega), HW5.out.2.size⟩
          case round =>
            obtain ⟨a, b, b15, fu, walk, seen2, rfl, hdb, hb15, hrt, hwk, hrl, hsum, haN, hbN, hs2, hfu, hmk, hown, hWs⟩ := hrel
            have hsl := sumS_le seen2
            have hwl : walk.length ≤ 12800 := by rw [hs2] at hsl; omega
            obtain ⟨fu, rfl⟩ : ∃ f', fu = f' + 1 := ⟨fu - 1, by omega⟩
            have hso : seen2[a]? = some (at' seen2 a) := at_some (by omega)
            have hsa : at' seen2 a < 2 ^ 128 := hrt.sets.bound hso
            obtain ⟨wo, wc, hs14⟩ := form_row hwk
            subst hs14
            obtain ⟨bt, hbt⟩ : ∃ bt, bt = (at' seen2 a).testBit b := ⟨_, rfl⟩
            have HRW : Hid (RT w wr bm bf bs b12 (b12 + 1) n N v M seen2 fx' ls' vs' B ∧ Two wr b15 (.int .i64 (a : Int)) (.int .i64 (b : Int)) 49 ∧ Marks (bs + 2) hm ds wr ∧ (∀ k, Own3 (b12 + 1) k → wr.heap[k]? = W.heap[k]?) ∧ W.heap.size ≤ wr.heap.size ∧ B ≤ b15) := ⟨hrt, hdb, hmk, hown, hWs, hb15⟩
            have HWK : Hid (wr.ownsRow B 3 1 (.slice wo walk.length wc) walk.length (qv walk)) := hwk
            have HC : Hid (dartL M (fu + 1) a b (seen2, walk) = R ∧ sumS seen2 = sumS seen' + walk.length ∧ seen2.length = N ∧ fu + 1 + walk.length = 12801 ∧ walk.length ≤ 12800 ∧ bt = (at' seen2 a).testBit b ∧ at' seen2 a < 2 ^ 128 ∧ seen2[a]? = some (at' seen2 a)) := ⟨hrl, hsum, hs2, hfu, hwl, hbt, hsa, hso⟩
            have C40 : Hid (∀ A : World, Calls Tryd.prog 40 #[sv (at' seen2 a), .int .i64 (b : Int)] A fun e w' => e = .returned (.bool bt) ∧ Below A.heap.size A w') := fun A => by rw [hbt]; exact has_call hsa (by omega)
            have cA : ∀ A, Below wr.heap.size wr A → A.cell? ⟨bs + 1, 0, none⟩ = some (sl bs N) ∧ A.cell? ⟨b15, 0, none⟩ = some (.int .i64 (a : Int)) ∧ A.cell? ⟨b15, 1, none⟩ = some (.int .i64 (b : Int)) ∧ A.cell? ⟨bs, a * 2, none⟩ = some (.int .u64 (lo64 (at' seen2 a) : Int)) ∧ A.cell? ⟨bs, a * 2 + 1, none⟩ = some (.int .u64 (hi64 (at' seen2 a) : Int)) := fun A hA =>
              ⟨box_cell (hrt.under hA).sb (i := 0) rfl, (cell_two (two_next hdb hA)).1, (cell_two (two_next hdb hA)).2, ((hrt.under hA).sets.cell hso).1, ((hrt.under hA).sets.cell hso).2⟩
            have k1 : (0 : Int) ≤ (a : Int) := by omega
            have k2 : (a : Int) < (N : Int) := by omega
            clear hrt hdb hwk hrl hsum hs2 hfu hmk hown hWs hsl hso hsa hbt
            generalize at' seen2 a = sa at *
            generalize walk.length = wn at *
            gi_wp2
            refine wpIn_A20t ?_
            intro h g0
            refine region_invInC (J := fun L a' w' => ∃ g, a' = A20t bn N bm bf bs b12 v nv u (Value.slice wo wn wc) (.pointer (some ⟨b15, 0, none⟩)) f h g ∧ SD wr (V20 bs N b15 a sa b bt) L g w') (by kernel_rfl) (by kernel_rfl) ⟨g0, rfl, SD.start⟩ ?_ ?_
            · intro j o hj L a' w1 hJ hLi hd hc
              obtain ⟨g, rfl, hS⟩ := hJ
              obtain ⟨e1, e2, e3, e4, e5⟩ := cA w1 hS.b
              match j, hj with
              | 0, hj =>
                cases hj
                refine wpOpIn_value ⟨(by intro _ h; cases h), (by intro _ h; cases h)⟩ rfl rfl (v := (V20 bs N b15 a sa b bt) 0) (w' := w1) ?_ ⟨updV g 0 _, rfl, hS.put 0 (Below.refl _ _)⟩
                simp [go_sem, A20t, V20, Act.eval, e1]
              | 1, hj =>
                cases hj
                refine wpOpIn_value ⟨(by intro _ h; cases h), (by intro _ h; cases h)⟩ rfl rfl (v := (V20 bs N b15 a sa b bt) 1) (w' := w1) ?_ ⟨updV g 1 _, rfl, hS.put 1 (Below.refl _ _)⟩
                simp [go_sem, A20t, V20, Act.eval]
              | 2, hj =>
                cases hj
                have d1 := hS.told 1 (hd ⟨1, .data⟩ (by simp) rfl)
                refine wpOpIn_value ⟨(by intro _ h; cases h), (by intro _ h; cases h)⟩ rfl rfl (v := (V20 bs N b15 a sa b bt) 2) (w' := w1) ?_ ⟨updV g 2 _, rfl, hS.put 2 (Below.refl _ _)⟩
                simp [go_sem, A20t, V20, Act.eval, d1, e2]
              | 3, hj =>
                cases hj
                have d0 := hS.told 0 (hd ⟨0, .data⟩ (by simp) rfl)
                have d2 := hS.told 2 (hd ⟨2, .data⟩ (by simp) rfl)
                refine wpOpIn_value ⟨(by intro _ h; cases h), (by intro _ h; cases h)⟩ rfl rfl (v := (V20 bs N b15 a sa b bt) 3) (w' := w1) ?_ ⟨updV g 3 _, rfl, hS.put 3 (Below.refl _ _)⟩
                simp [go_sem, A20t, V20, Act.eval, d0, d2, k1, k2]
              | 4, hj =>
                cases hj
                have d3 := hS.told 3 (hd ⟨3, .data⟩ (by simp) rfl)
                refine wpOpIn_value ⟨(by intro _ h; cases h), (by intro _ h; cases h)⟩ rfl rfl (v := (V20 bs N b15 a sa b bt) 4) (w' := w1) ?_ ⟨updV g 4 _, rfl, hS.put 4 (Below.refl _ _)⟩
                simp [go_sem, A20t, V20, Act.eval, d3, e4, e5]
              | 5, hj =>
                cases hj
                refine wpOpIn_value ⟨(by intro _ h; cases h), (by intro _ h; cases h)⟩ rfl rfl (v := (V20 bs N b15 a sa b bt) 5) (w' := w1) ?_ ⟨updV g 5 _, rfl, hS.put 5 (Below.refl _ _)⟩
                simp [go_sem, A20t, V20, Act.eval]
              | 6, hj =>
                cases hj
                have d5 := hS.told 5 (hd ⟨5, .data⟩ (by simp) rfl)
                refine wpOpIn_value ⟨(by intro _ h; cases h), (by intro _ h; cases h)⟩ rfl rfl (v := (V20 bs N b15 a sa b bt) 6) (w' := w1) ?_ ⟨updV g 6 _, rfl, hS.put 6 (Below.refl _ _)⟩
                simp [go_sem, A20t, V20, Act.eval, d5, e3]
              | 7, hj =>
                cases hj
                have d4 := hS.told 4 (hd ⟨4, .data⟩ (by simp) rfl)
                have d6 := hS.told 6 (hd ⟨6, .data⟩ (by simp) rfl)
                refine wpOpIn_call (f := 40) (args := #[sv sa, .int .i64 (b : Int)]) (fun _ => trivial) rfl (by intro _ h; cases h) rfl rfl (w' := w1) ?_ ?_
                · simp [go_sem, A20t, V20, Act.eval, d4, d6]
                · refine (CallsIn.inRound lb (callsIn_wide.2 (C40.out w1))).mono ?_
                  rintro e w3 ⟨rfl, hB3⟩
                  exact ⟨_, rfl, updV g 7 _, rfl, hS.put 7 hB3⟩
              | 8, hj =>
                cases hj
                have d7 := hS.told 7 (hd ⟨7, .data⟩ (by simp) rfl)
                refine wpOpIn_value ⟨(by intro _ h; cases h), (by intro _ h; cases h)⟩ rfl rfl (v := (V20 bs N b15 a sa b bt) 8) (w' := w1) ?_ ⟨updV g 8 _, rfl, hS.put 8 (Below.refl _ _)⟩
                simp [go_sem, A20t, V20, Act.eval, d7]
              | j + 9, hj => cases hj
            · intro L a' w1 hJ hall
              obtain ⟨g, rfl, hS⟩ := hJ
              have t8 : g 8 = .bool !bt := hS.told 8 (hall 8 (by simp))
              have HB1 : Hid (Below wr.heap.size wr w1) := hS.b
              dsimp only [A20t]
              rw [t8]
              clear t8 hS hall
              cases bt with
              | true =>
                have hst := dartL_stop (M := M) (f := fu + 1) (a := a) (b := b) (s := (seen2, walk)) (by
                  have h1 := HC.out.2.2.2.2.2.2.2
                  have h2 := at_some (near := seen2) (v := a) (List.getElem?_eq_some_iff.1 h1).1
                  rw [h1] at h2
                  have h3 : sa = at' seen2 a := by simpa using h2
                  show (at' seen2 a).testBit b = true
                  rw [← h3]
                  exact HC.out.2.2.2.2.2.1.symm)
                have HST : Hid (R = (seen2, walk)) := by rw [← HC.out.1]; exact hst
                have HR1 : Hid (RT w w1 bm bf bs b12 (b12 + 1) n N v M seen2 fx' ls' vs' B ∧ Marks (bs + 2) hm ds w1 ∧ (∀ k, Own3 (b12 + 1) k → w1.heap[k]? = W.heap[k]?) ∧ W.heap.size ≤ w1.heap.size ∧ w1.ownsRow B 3 1 (.slice wo wn wc) wn (qv walk)) := ⟨HRW.out.1.under HB1.out, HRW.out.2.2.1.under HB1.out, fun k hk => (HB1.out.block k (by have := hk.2; have := HW.out; have := HRW.out.2.2.2.2.1; omega)).trans (HRW.out.2.2.2.1 k hk), Nat.le_trans HRW.out.2.2.2.2.1 HB1.out.size, ownsRow_blocks HWK.out (fun g hg => HB1.out.block g (HWK.out.lt g hg).2)⟩
                by_cases hwn : wn = 0
                · have q1 : ¬ (0 : Int) < (wn : Int) := by omega
                  have HZ : Hid (walk = []) := by
                    have := HWK.out.1
                    simp [qv, hwn] at this
                    exact this
                  clear hst hwn
                  gi_wp2
                  refine ⟨fun k hk => HR1.out.2.2.1 k (by rw [← HW.out.2.1]; exact hk), HR1.out.2.2.2.1, seen2, ls', fx', vs', B, HR1.out.1, ?_, HC.out.2.2.1, ?_, HR1.out.2.1⟩
                  · rw [HRg.out, HST.out, if_pos HZ.out]
                  · have := HC.out.2.1; have := HP0.out.2.2.2.2; omega
                · have q1 : (0 : Int) < (wn : Int) := by omega
                  have HZ : Hid (walk ≠ [] ∧ walk.length = wn ∧ wn ≠ 0) := by
                    have := HWK.out.1
                    simp [qv] at this
                    exact ⟨fun e => by rw [e] at this; simp at this; omega, this, hwn⟩
                  have c10 := box_cell HR1.out.1.fb (i := 0) rfl
                  have hsumB : ls'.length ≤ 12800 := by
                    have h1 := sumS_le seen'
                    have h2 := HP0.out.2.1
                    have h3 := HP0.out.2.2.2.2
                    rw [h2] at h1
                    omega
                  obtain ⟨i61, hi61, hz0, hz1, hz2⟩ := info_parts Tryd.info61
                  have hfc := HR1.out.1.fc
                  obtain ⟨zv, w8, hr8, h82, h83, _, h85⟩ := run_append_own_at (P := Tryd.prog) (w1.alloc (Obj.cells #[.slice wo wn wc] 61)) (bs + 2) 29 29 61 i61 (.slice none 0 0) 1 24 Tryd.underlying29 hi61 hz0 hz1 hz2 rfl (by decide) fx' ls'.length vs' (World.ownsRow.alloc hfc.row _) ⟨w1.heap.size, 0, none⟩ 1 1 [.slice wo wn wc] rfl (one_cells _ _ _) (by intro u hu; simp at hu; subst hu; rfl) (by unfold maxLen; omega) (by omega) (by have := lt_of_block HR1.out.1.sb; simp; omega)
                  obtain ⟨gz, cz, hzv, _⟩ := h82.form (by omega)
                  subst hzv
                  have HPU : Hid (FacesAt w8 (bs + 2) w8.heap.size (b12 + 1) (.slice (some ⟨gz, 0, none⟩) (ls'.length + 1) cz) (ls' ++ [walk]) (vs' ++ [.slice wo wn wc])) := hfc.push HR1.out.1.hs (by have := HW.out; omega) (x := .slice wo wn wc) (l := walk) (o := Obj.cells #[.slice wo wn wc] 61) (by rw [HZ.out.2.1]; exact HR1.out.2.2.2.2) (by have := HW.out.1; have := HAp.out.2.2.2.1; omega) h83 h82 h85 h83.size (fun g hg => (h82.lt g hg).2)
                  have hT8 : Turns (fun k => some k = fx'.ownBlock) w1 w8 := (alloc_turns w1 _ _).trans (Turns.of_grown h83)
                  have hge : ∀ g, fx'.ownBlock = some g → bs + 2 ≤ g ∧ ¬ Own3 (b12 + 1) g := fun g hg => ⟨(hfc.row.lt g hg).1, (hfc.hv g hg).2⟩
                  have hAp := HAp.out
                  have o10 : One w8 bf fx' 29 := one_turns HR1.out.1.fb hT8 (fun e => by have := (hge _ e.symm).1; have := hAp.2.2.1; omega)
                  have c11 := box_cell o10 (i := 0) rfl
                  have f11 := one_free o10
                  have H8 : Hid (Turns (fun k => some k = fx'.ownBlock) w1 w8 ∧ (∀ g, fx'.ownBlock = some g → bs + 2 ≤ g ∧ ¬ Own3 (b12 + 1) g) ∧ One w8 bf fx' 29 ∧ (∀ g, fx'.ownBlock = some g → ∃ cs t r, w1.heap[g]? = some (.cells cs t r))) := ⟨hT8, hge, o10, fun g hg => by obtain ⟨cur, hc⟩ := own_cells hfc.row hg; exact ⟨_, _, _, hc⟩⟩
                  clear hst hwn h82 h83 h85 hfc hT8 hge hAp o10
                  gi_wp2_with (first | (gi_at_builtin; refine wpListIn_run rfl _ _ 29 rfl (v := fx') (y := .slice (some ⟨w1.heap.size, 0, none⟩) 1 1) (z := .slice (some ⟨gz, 0, none⟩) (ls'.length + 1) cz) (w' := w8) rfl rfl hr8 ?_))
                  have hAp := HAp.out
                  obtain ⟨a1, a2, a3, a4, a5⟩ := hAp
                  have hT9 := setCell_turns w8 bf 0 (.slice (some ⟨gz, 0, none⟩) (ls'.length + 1) cz)
                  have hTT : Turns (fun k => k = bf ∨ fx'.ownBlock = some k) w1 (w8.setCell ⟨bf, 0, none⟩ (.slice (some ⟨gz, 0, none⟩) (ls'.length + 1) cz)) := (H8.out.1.mono (fun k _ e => Or.inr e.symm)).trans (hT9.mono (fun k _ e => Or.inl e))
                  have nt : ∀ k, k ≠ bf → k < bs + 2 → ¬ (k = bf ∨ fx'.ownBlock = some k) := fun k hk hk2 e => by
                    rcases e with e | e
                    · exact hk e
                    · have := (H8.out.2.1 k e).1; omega
                  have hr1 := HR1.out.1
                  have v12n : ¬ (b12 = bf ∨ fx'.ownBlock = some b12) := fun e => by
                    rcases e with e | e
                    · omega
                    · obtain ⟨cur, hc⟩ := own_cells hr1.fc.row e
                      rw [hr1.v12] at hc
                      simp at hc
                  have hRT9 : RT w (w8.setCell ⟨bf, 0, none⟩ (.slice (some ⟨gz, 0, none⟩) (ls'.length + 1) cz)) bm bf bs b12 (b12 + 1) n N v M seen2 (.slice (some ⟨gz, 0, none⟩) (ls'.length + 1) cz) (ls' ++ [walk]) (vs' ++ [.slice wo wn wc]) w8.heap.size :=
                    ⟨one_turns hr1.mp hTT (nt _ (by omega) (by omega)), hr1.tm.turns hTT (nt _ (by omega) (by omega)), box_set H8.out.2.2.1 0 _, one_turns hr1.sb hTT (nt _ (by omega) (by omega)), hr1.sets.turns hTT (nt _ (by omega) (by omega)), one_turns hr1.v12 hTT v12n, HPU.out.turns hT9 (Nat.le_refl _) (fun g h1 _ _ => by omega), hTT.below hr1.below hr1.below.size (fun k e => by
                      rcases e with e | e
                      · omega
                      · have := (H8.out.2.1 k e).1; omega), by rw [World.size_setCell]; exact Nat.le_refl _⟩
                  refine ⟨fun k hk => ?_, Nat.le_trans HR1.out.2.2.2.1 hTT.size, seen2, ls' ++ [walk], _, _, _, hRT9, ?_, HC.out.2.2.1, ?_, HR1.out.2.1.turns hTT ?_⟩
                  · rw [HW.out.2.1] at hk
                    refine (hTT.block k (by have := hk.2; have := HW.out; have := HR1.out.2.2.2.1; omega) ?_).trans (HR1.out.2.2.1 k hk)
                    rintro (e | e)
                    · have := hk.1; omega
                    · exact (H8.out.2.1 k e).2 hk
                  · rw [HRg.out, HST.out, if_neg HZ.out.1]
                  · rw [List.length_append]
                    have h1 := HC.out.2.1
                    have h2 := HP0.out.2.2.2.2
                    have h3 := HZ.out.2.2
                    simp only [List.length_singleton]
                    omega
                  · rintro k hk (e | e)
                    · rw [e]; exact ⟨_, _, _, hr1.fb⟩
                    · exact H8.out.2.2.2 k e
              | false =>
                gi_wp2
                refine wpIn_A21t ?_
                intro h2 g20
                refine region_invInC (J := fun L a' w' => ∃ g2, a' = A21t bn N bm bf bs b12 v nv u (Value.slice wo wn wc) (.pointer (some ⟨b15, 0, none⟩)) f h2 g2 ∧ SD w1 (V21 b15 a b) L g2 w') (by kernel_rfl) (by kernel_rfl) ⟨g20, rfl, SD.start⟩ ?_ ?_
                · intro j o hj L a' w2 hJ hLi hd hc
                  obtain ⟨g2, rfl, hS⟩ := hJ
                  obtain ⟨e1, e2, e3, e4, e5⟩ := cA w2 (below_next HB1.out hS.b)
                  match j, hj with
                  | 0, hj =>
                    cases hj
                    refine wpOpIn_value ⟨(by intro _ h; cases h), (by intro _ h; cases h)⟩ rfl rfl (v := (V21 b15 a b) 0) (w' := w2) ?_ ⟨updV g2 0 _, rfl, hS.put 0 (Below.refl _ _)⟩
                    simp [go_sem, A21t, V21, Act.eval]
                  | 1, hj =>
                    cases hj
                    have d0 := hS.told 0 (hd ⟨0, .data⟩ (by simp) rfl)
                    refine wpOpIn_value ⟨(by intro _ h; cases h), (by intro _ h; cases h)⟩ rfl rfl (v := (V21 b15 a b) 1) (w' := w2) ?_ ⟨updV g2 1 _, rfl, hS.put 1 (Below.refl _ _)⟩
                    simp [go_sem, A21t, V21, Act.eval, d0, e2]
                  | 2, hj =>
                    cases hj
                    refine wpOpIn_value ⟨(by intro _ h; cases h), (by intro _ h; cases h)⟩ rfl rfl (v := (V21 b15 a b) 2) (w' := w2) ?_ ⟨updV g2 2 _, rfl, hS.put 2 (Below.refl _ _)⟩
                    simp [go_sem, A21t, V21, Act.eval]
                  | 3, hj =>
                    cases hj
                    have d2 := hS.told 2 (hd ⟨2, .data⟩ (by simp) rfl)
                    refine wpOpIn_value ⟨(by intro _ h; cases h), (by intro _ h; cases h)⟩ rfl rfl (v := (V21 b15 a b) 3) (w' := w2) ?_ ⟨updV g2 3 _, rfl, hS.put 3 (Below.refl _ _)⟩
                    simp [go_sem, A21t, V21, Act.eval, d2, e3]
                  | 4, hj =>
                    cases hj
                    have d1 := hS.told 1 (hd ⟨1, .data⟩ (by simp) rfl)
                    refine wpOpIn_value ⟨(by intro _ h; cases h), (by intro _ h; cases h)⟩ rfl rfl (v := (V21 b15 a b) 4) (w' := w2) ?_ ⟨updV g2 4 _, rfl, hS.put 4 (Below.refl _ _)⟩
                    simp [go_sem, A21t, V21, Act.eval, d1]
                  | 5, hj =>
                    cases hj
                    have d3 := hS.told 3 (hd ⟨3, .data⟩ (by simp) rfl)
                    refine wpOpIn_value ⟨(by intro _ h; cases h), (by intro _ h; cases h)⟩ rfl rfl (v := (V21 b15 a b) 5) (w' := w2) ?_ ⟨updV g2 5 _, rfl, hS.put 5 (Below.refl _ _)⟩
                    simp [go_sem, A21t, V21, Act.eval, d3]
                  | j + 6, hj => cases hj
                · intro L a' w2 hJ hall
                  obtain ⟨g2, rfl, hS⟩ := hJ
                  have t4 : g2 4 = .int .i64 (a : Int) := hS.told 4 (hall 4 (by simp))
                  have t5 : g2 5 = .int .i64 (b : Int) := hS.told 5 (hall 5 (by simp))
                  have HB2 : Hid (Below wr.heap.size wr w2) := below_next HB1.out hS.b
                  dsimp only [A21t]
                  rw [t4, t5]
                  clear t4 t5 hS hall
                  have hr2 := HRW.out.1.under HB2.out
                  have hgo := dartL_go (M := M) (f := fu) (a := a) (b := b) (seen := seen2) (walk := walk) (by
                    have h1 := HC.out.2.2.2.2.2.2.2
                    have h2 := at_some (near := seen2) (v := a) (List.getElem?_eq_some_iff.1 h1).1
                    rw [h1] at h2
                    have h3 : sa = at' seen2 a := by simpa using h2
                    rw [← h3]
                    exact HC.out.2.2.2.2.2.1.symm)
                  have hsae : at' seen2 a = sa := by
                    have h1 := HC.out.2.2.2.2.2.2.2
                    have h2 := at_some (near := seen2) (v := a) (List.getElem?_eq_some_iff.1 h1).1
                    rw [h1] at h2
                    have h3 : sa = at' seen2 a := by simpa using h2
                    exact h3.symm
                  rw [hsae] at hgo
                  have c11 := box_cell hr2.sb (i := 0) rfl
                  have C48 : Hid (Calls Tryd.prog 48 #[.pointer (some ⟨bs, a * 2, none⟩), .int .i64 (b : Int)] w2 fun e w' => e = .returned (.tuple #[]) ∧ SetsAt w' bs (seen2.set a (sAdd sa b)) ∧ Turns (fun k => k = bs) w2 w') := add_near hr2.sets HC.out.2.2.2.2.2.2.2 (by omega)
                  have hMba : M b a < N := HMN.out b a hbN
                  have HG : Hid (dartL M fu b (M b a) (seen2.set a (sAdd sa b), walk ++ [a]) = R ∧ sumS (seen2.set a (sAdd sa b)) = sumS seen2 + 1 ∧ M b a < N) := ⟨by rw [← HC.out.1, hgo], sumS_set seen2 a _ (by have := HC.out.2.2.1; omega) (by rw [hsae]; exact count_add (by omega) HC.out.2.2.2.2.2.1.symm), hMba⟩
                  have HR2 : Hid (RT w w2 bm bf bs b12 (b12 + 1) n N v M seen2 fx' ls' vs' B) := hr2
                  clear hgo hsae hr2 hMba cA
                  have hwlen : walk.length = wn := by
                    have := HWK.out.1
                    simpa [qv] using this
                  have HWK2 : Hid (∀ A, Turns (fun k => k = bs) w2 A → A.ownsRow B 3 1 (.slice wo wn wc) walk.length (qv walk)) := fun A hA => by
                    rw [hwlen]
                    refine ownsRow_blocks HWK.out (fun g hg => (hA.block g (by have := (HWK.out.lt g hg).2; have := HB2.out.size; omega) (by have := (HWK.out.lt g hg).1; have := HW.out.1; have := HAp.out.2.2.2; omega)).trans (HB2.out.block g (HWK.out.lt g hg).2))
                  have HDB : Hid (∀ A, Turns (fun k => k = bs) w2 A → Two A b15 (.int .i64 (a : Int)) (.int .i64 (b : Int)) 49) := fun A hA => two_turns (two_next HRW.out.2.1 HB2.out) hA (by have := HRW.out.2.2.2.2.2; have := HW.out.1; have := HAp.out.2.2.2; omega)
                  have HWL : Hid (walk.length = wn ∧ wn ≤ 12800) := ⟨hwlen, HC.out.2.2.2.2.1⟩
                  have HUN : Hid (∀ A, TurnM A bm n M → (Instr.lookup 84 (.map (some bm)) (.agg #[.int .i64 (b : Int), .int .i64 (a : Int)]) false).run Tryd.prog A = .ok (.int .i64 (M b a : Int)) A) := fun A hA => hA.look (by omega) (by omega)
                  generalize M b a = un at *
                  clear hwlen
                  have F5 : Hid (∀ w3 w5, SetsAt w3 bs (seen2.set a (sAdd sa b)) → Turns (fun k => k = bs) w2 w3 → (w3.alloc (Obj.cells #[.int .i64 (a : Int)] 3)).grownBy w5 (Value.slice wo wn wc).ownBlock → RT w w5 bm bf bs b12 (b12 + 1) n N v M (seen2.set a (sAdd sa b)) fx' ls' vs' B ∧ Two w5 b15 (.int .i64 (a : Int)) (.int .i64 (b : Int)) 49 ∧ Marks (bs + 2) hm ds w5 ∧ (∀ k, Own3 (b12 + 1) k → w5.heap[k]? = W.heap[k]?) ∧ W.heap.size ≤ w5.heap.size) := fun w3 w5 h3 t3 h6 => by
                    have hr3 := HR2.out.tell HAp.out t3 h3
                    have hwk3 := HWK2.out w3 t3
                    have T5 : Turns (fun k => some k = (Value.slice wo wn wc).ownBlock) w3 w5 := (alloc_turns w3 _ _).trans (Turns.of_grown h6)
                    have hge : ∀ k, some k = (Value.slice wo wn wc).ownBlock → B ≤ k := fun k e => (hwk3.lt k e.symm).1
                    have hWq := HW.out.1
                    have hAp := HAp.out
                    obtain ⟨a1, a2, a3, a4, a5⟩ := hAp
                    refine ⟨hr3.turns HAp.out T5 (fun k e => by have := hge k e; omega) (fun g _ h2 _ e => by have := hge g e; omega), two_turns (HDB.out w3 t3) T5 (fun e => ?_), ((HRW.out.2.2.1.under HB2.out).turns t3 (fun k _ e => ?_)).turns T5 (fun k _ e => ?_), fun k hk => ?_, ?_⟩
                    · obtain ⟨cur, hc⟩ := own_cells hwk3 e.symm
                      rw [HDB.out w3 t3] at hc
                      simp at hc
                    · rw [e]
                      obtain ⟨cur, hc⟩ := HR2.out.sets.row
                      exact ⟨_, _, _, hc.1⟩
                    · obtain ⟨cur, hc⟩ := own_cells hwk3 e.symm
                      exact ⟨_, _, _, hc⟩
                    · have h1 := hk.1
                      have h2 := hk.2
                      have h4 := HB2.out.size
                      have h5 := HRW.out.2.2.2.2.1
                      have h7 := HW.out.2.2
                      have h8 := t3.size
                      exact (T5.block k (by omega) (fun e => by have := hge k e; omega)).trans ((t3.block k (by omega) (by omega)).trans ((HB2.out.block k (by omega)).trans (HRW.out.2.2.2.1 k hk)))
                    · have h4 := HB2.out.size
                      have h5 := HRW.out.2.2.2.2.1
                      have h8 := t3.size
                      have h9 := T5.size
                      omega
                  gi_wp2_with (first
                    | (gi_at_call 48; refine (CallsIn.inRound lb (callsIn_wide.2 C48.out)).mono ?_; rintro e w3 ⟨rfl, h3, t3⟩)
                    | (gi_at_builtin; refine wpListIn_push (x := a) (l := walk) (v := .slice wo wn wc) rfl _ _ rfl rfl rfl (HWK2.out w3 t3) (by have := HWL.out; omega) (by have := HW.out.2.2; have := HRW.out.2.2.2.2.1; have := HB2.out.size; have := t3.size; omega) ?_; intro gn cn w5 h5 h6 h7; have K5 := F5.out w3 w5 h3 t3 h6; have H5 : Hid (w5.ownsRow B 3 1 (.slice (some ⟨gn, 0, none⟩) (walk ++ [a]).length cn) (walk ++ [a]).length (qv (walk ++ [a])) ∧ RT w w5 bm bf bs b12 (b12 + 1) n N v M (seen2.set a (sAdd sa b)) fx' ls' vs' B ∧ Two w5 b15 (.int .i64 (a : Int)) (.int .i64 (b : Int)) 49 ∧ Marks (bs + 2) hm ds w5 ∧ (∀ k, Own3 (b12 + 1) k → w5.heap[k]? = W.heap[k]?) ∧ W.heap.size ≤ w5.heap.size) := ⟨h5, K5⟩; have cm := box_cell K5.1.mp (i := 0) rfl; have hlk := HUN.out w5 K5.1.tm; obtain ⟨y0, y1⟩ := cell_two K5.2.1; have z0 := box_free K5.2.1 0; have bx1 := box_set K5.2.1 0 (.int .i64 (b : Int)); have z1 := box_cell bx1 (i := 1) rfl; have z2 := box_free bx1 1; have bx2 := two_setN (x' := .int .i64 (b : Int)) (y' := .int .i64 (un : Int)) K5.2.1; have z3 := (cell_two bx2).1; have z4 := (cell_two bx2).2; clear h5 h6 h7 h3 t3 K5))
                  have hwl1 : (walk ++ [a]).length = walk.length + 1 := by simp
                  have H5' := H5.out
                  rw [hwl1] at H5'
                  obtain ⟨q1, q2, q3, q4, q5, q6⟩ := H5'
                  have hb15 := HRW.out.2.2.2.2.2
                  have hWq := HW.out.1
                  have T6 : Turns (fun k => k = b15) w5 ((w5.setCell ⟨b15, 0, none⟩ (.int .i64 (b : Int))).setCell ⟨b15, 1, none⟩ (.int .i64 (un : Int))) := (setCell_turns w5 b15 0 _).trans (setCell_turns _ b15 1 _)
                  have hBz : Below ((w5.setCell ⟨b15, 0, none⟩ (.int .i64 (b : Int))).setCell ⟨b15, 1, none⟩ (.int .i64 (un : Int))).heap.size ((w5.setCell ⟨b15, 0, none⟩ (.int .i64 (b : Int))).setCell ⟨b15, 1, none⟩ (.int .i64 (un : Int))) (((w5.setCell ⟨b15, 0, none⟩ (.int .i64 (b : Int))).setCell ⟨b15, 1, none⟩ (.int .i64 (un : Int))).alloc (Obj.cells #[.int .i64 (b : Int), .int .i64 (un : Int)] 49)) := below_alloc (Below.refl _ _) _
                  have r1 := (q2.turns HAp.out T6 (fun k e => by omega) (fun g _ h2 _ e => by omega)).under hBz
                  have r2 := two_new ((w5.setCell ⟨b15, 0, none⟩ (.int .i64 (b : Int))).setCell ⟨b15, 1, none⟩ (.int .i64 (un : Int))) (.int .i64 (b : Int)) (.int .i64 (un : Int)) 49
                  have r3 : Marks (bs + 2) hm ds ((w5.setCell ⟨b15, 0, none⟩ (.int .i64 (b : Int))).setCell ⟨b15, 1, none⟩ (.int .i64 (un : Int))) := q4.turns T6 (fun k _ e => by rw [e]; exact ⟨_, _, _, q3⟩)
                  have hg5 := q1.lt gn rfl
                  have hgb : gn ≠ b15 := fun e => by
                    obtain ⟨cur, hc⟩ := own_cells q1 (g := gn) rfl
                    rw [e, q3] at hc
                    simp at hc
                  have r4 : (((w5.setCell ⟨b15, 0, none⟩ (.int .i64 (b : Int))).setCell ⟨b15, 1, none⟩ (.int .i64 (un : Int))).alloc (Obj.cells #[.int .i64 (b : Int), .int .i64 (un : Int)] 49)).ownsRow B 3 1 (.slice (some ⟨gn, 0, none⟩) (walk.length + 1) cn) (walk.length + 1) (qv (walk ++ [a])) := ownsRow_blocks q1 (fun g hg => by
                    have e : gn = g := by simpa [Value.ownBlock] using hg
                    subst e
                    exact (hBz.block gn (by have := T6.size; omega)).trans (T6.block gn hg5.2 hgb))
                  have r5 : ∀ k, Own3 (b12 + 1) k → (((w5.setCell ⟨b15, 0, none⟩ (.int .i64 (b : Int))).setCell ⟨b15, 1, none⟩ (.int .i64 (un : Int))).alloc (Obj.cells #[.int .i64 (b : Int), .int .i64 (un : Int)] 49)).heap[k]? = W.heap[k]? := fun k hk => by
                    have h1 := hk.1
                    have h2 := hk.2
                    have h3 := T6.size
                    have h4 := HW.out.2.2
                    exact (hBz.block k (by omega)).trans ((T6.block k (by omega) (by omega)).trans (q5 k hk))
                  have r6 : B ≤ ((w5.setCell ⟨b15, 0, none⟩ (.int .i64 (b : Int))).setCell ⟨b15, 1, none⟩ (.int .i64 (un : Int))).heap.size ∧ W.heap.size ≤ (((w5.setCell ⟨b15, 0, none⟩ (.int .i64 (b : Int))).setCell ⟨b15, 1, none⟩ (.int .i64 (un : Int))).alloc (Obj.cells #[.int .i64 (b : Int), .int .i64 (un : Int)] 49)).heap.size := by
                    have h1 := T6.size
                    have h2 := hBz.size
                    have h3 := HW.out.2.2
                    omega
                  have HZZ : Hid _ := And.intro r1 (And.intro r2 (And.intro (r3.under hBz) (And.intro r4 (And.intro r5 r6))))
                  clear r1 r2 r3 r4 r5 r6 q1 q2 q3 q4 q5 q6 T6 hBz bx1 bx2
                  simp only [World.size_setCell] at HZZ
                  go_roundw
                  case rel =>
                    obtain ⟨r1, r2, r3, r4, r5, r6⟩ := HZZ.out
                    refine ⟨b, un, _, fu, walk ++ [a], seen2.set a (sAdd sa b), rfl, r2, r6.1, r1, by rw [hwl1]; exact r4, HG.out.1, ?_, hbN, HG.out.2.2, ?_, ?_, r3, r5, r6.2⟩
                    · rw [hwl1, HG.out.2.1]
                      have h1 := HC.out.2.1
                      have h2 := HWL.out.1
                      omega
                    · rw [List.length_set]; exact HC.out.2.2.1
                    · rw [hwl1]
                      have h1 := HC.out.2.2.2.1
                      have h2 := HWL.out.1
                      omega
                  case measure =>
                    have h1 := HWL.out
                    show 12801 - (walk.length + 1) < 12801 - wn
                    omega
      · have hvN : v = N := by omega
        have HP : Hid (FacesAt wr (bs + 2) hi q fx (traceL M near N).2 vs ∧ Below w.heap.size w wr ∧ Marks (bs + 2) hm ds wr) := ⟨by
          rw [hvN] at htr
          rw [← htr]
          exact hfc, hB, hmk⟩
        have i3 : ¬ (v : Int) < (N : Int) := by omega
        have c10 := box_cell hfb (i := 0) rfl
        clear htr hlsum hmp htm hfb hsb hsets hsl hfc hhi hB hmk hhm hvN
        go_wp2
        refine leaves_marks HP.out.2.2 (fun w' hc hb => ⟨fx, ?_, fx, hi, q, vs, rfl, ?_, ?_⟩)
        · simp [results, Tryd.results33, go_sem]
        · rw [HMT.out]
          exact HP.out.1.cellsK hc (show w.heap.size ≤ bs + 2 by have := HBT.out; omega)
        · exact (HP.out.2.1).trans (hb.mono (by have := HBT.out; omega))
end Go.Proofs.YtekokjechbibdaaDoor
