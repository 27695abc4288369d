/- plan.walk's literal: what it leaves of the plan, and what it tells. -/
import Derived.Test.YtkbgcbbloogdjacPlan
import Derived.Deep.AppendLies
namespace Go.Proofs.Ytkbgcbbloogdjac
open Go.RowKit Go.Maps
attribute [local go_sem ↓] Go.wp_at_zero Go.wp_at_succ

/-- From v, of the nodes from u on, in at most n turns: P turns into P', and A is told ahead of v. -/
def GoN (N : Nat) : Nat → Nat → Nat → (Nat → Nat → Int) → (Nat → Nat → Int) → List Nat → Prop
  | 0, _, u, P, P', A => u = N ∧ P' = P ∧ A = []
  | n + 1, v, u, P, P', A => (u = N ∧ P' = P ∧ A = []) ∨ (u < N ∧ ¬ 0 < P v u ∧ GoN N n v (u + 1) P P' A) ∨ (u < N ∧ 0 < P v u ∧ ∃ P1 A1 A2, GoN N n u 0 (addP P u v (-1)) P1 A1 ∧ GoN N n v u P1 P' A2 ∧ A = (A1 ++ [u]) ++ A2)
theorem GoN.more {N : Nat} : ∀ {n v u : Nat} {P P' : Nat → Nat → Int} {A : List Nat}, GoN N n v u P P' A → GoN N (n + 1) v u P P' A
  | 0, _, _, _, _, _, h => Or.inl h
  | n + 1, _, _, _, _, _, h => by
    rcases h with h | ⟨h1, h2, h3⟩ | ⟨h1, h2, P1, A1, A2, h3, h4, h5⟩
    · exact Or.inl h
    · exact Or.inr (Or.inl ⟨h1, h2, GoN.more h3⟩)
    · exact Or.inr (Or.inr ⟨h1, h2, P1, A1, A2, GoN.more h3, GoN.more h4, h5⟩)
theorem GoN.add {N n v u : Nat} {P P' : Nat → Nat → Int} {A : List Nat} (h : GoN N n v u P P' A) : ∀ k, GoN N (n + k) v u P P' A
  | 0 => h
  | k + 1 => GoN.more (GoN.add h k)
/-- From v, of the nodes from u on: P turns into P', and A is told ahead of v. -/
def GoOn (N v u : Nat) (P P' : Nat → Nat → Int) (A : List Nat) : Prop := ∃ n, GoN N n v u P P' A
theorem GoOn.done {N : Nat} (v : Nat) (P : Nat → Nat → Int) : GoOn N v N P P [] := ⟨0, rfl, rfl, rfl⟩
theorem GoOn.next {N v u : Nat} {P P' : Nat → Nat → Int} {A : List Nat} (h1 : u < N) (h2 : ¬ 0 < P v u) (h3 : GoOn N v (u + 1) P P' A) : GoOn N v u P P' A := by
  obtain ⟨n, h3⟩ := h3
  exact ⟨n + 1, Or.inr (Or.inl ⟨h1, h2, h3⟩)⟩
theorem GoOn.take {N v u : Nat} {P P1 P' : Nat → Nat → Int} {A1 A2 : List Nat} (h1 : u < N) (h2 : 0 < P v u) (h3 : GoOn N u 0 (addP P u v (-1)) P1 A1) (h4 : GoOn N v u P1 P' A2) : GoOn N v u P P' ((A1 ++ [u]) ++ A2) := by
  obtain ⟨n, h3⟩ := h3
  obtain ⟨k, h4⟩ := h4
  have h4' := h4.add n
  rw [Nat.add_comm] at h4'
  exact ⟨n + k + 1, Or.inr (Or.inr ⟨h1, h2, P1, A1, A2, h3.add k, h4', rfl⟩)⟩

/-- A plan: as often from u to v as from v to u. -/
structure Good (N : Nat) (P : Nat → Nat → Int) : Prop where
  pos : ∀ a b, 0 ≤ P a b ∧ P a b ≤ 1000
  sym : ∀ a b, P a b = P b a
  diag : ∀ a, P a a = 0
theorem Good.take {N : Nat} {P : Nat → Nat → Int} (h : Good N P) {u v : Nat} (hp : 0 < P v u) : Good N (addP P u v (-1)) ∧ u ≠ v := by
  have huv : u ≠ v := fun e => by subst e; rw [h.diag] at hp; omega
  refine ⟨⟨fun a b => ?_, fun a b => ?_, fun a => ?_⟩, huv⟩
  · have := h.pos a b
    unfold addP
    by_cases c : (a = u ∧ b = v) ∨ (a = v ∧ b = u)
    · rw [if_pos c]
      have hpp : 0 < P a b := by
        rcases c with ⟨rfl, rfl⟩ | ⟨rfl, rfl⟩
        · rw [h.sym]; exact hp
        · exact hp
      omega
    · rw [if_neg c]; exact this
  · unfold addP
    by_cases c : (a = u ∧ b = v) ∨ (a = v ∧ b = u)
    · rw [if_pos c, if_pos (by omega), h.sym a b]
    · rw [if_neg c, if_neg (by omega), h.sym a b]
  · unfold addP
    rw [if_neg (by omega), h.diag]

/-- How many steps are left, twice. -/
def tot (N : Nat) (P : Nat → Nat → Int) : Nat := ((List.range N).map fun a => ((List.range N).map fun b => (P a b).toNat).sum).sum
theorem sum_le {l : List Nat} {f g : Nat → Nat} (h : ∀ x ∈ l, f x ≤ g x) : (l.map f).sum ≤ (l.map g).sum := by
  induction l with
  | nil => simp
  | cons a l ih =>
    have h1 := h a (by simp)
    have h2 := ih (fun x hx => h x (by simp [hx]))
    simp only [List.map_cons, List.sum_cons]
    omega
theorem sum_lt {l : List Nat} {f g : Nat → Nat} (h : ∀ x ∈ l, f x ≤ g x) {y : Nat} (hy : y ∈ l) (hlt : f y < g y) : (l.map f).sum < (l.map g).sum := by
  induction l with
  | nil => cases hy
  | cons a l ih =>
    have h1 := h a (by simp)
    simp only [List.map_cons, List.sum_cons]
    rcases List.mem_cons.1 hy with rfl | hy
    · have h2 := sum_le (l := l) (f := f) (g := g) (fun x hx => h x (by simp [hx]))
      omega
    · have h2 := ih (fun x hx => h x (by simp [hx])) hy
      omega
theorem tot_lt {N : Nat} {P : Nat → Nat → Int} {u v : Nat} (hu : u < N) (hv : v < N) (hp : 0 < P v u) : tot N (addP P u v (-1)) < tot N P := by
  have hle : ∀ a b, (addP P u v (-1) a b).toNat ≤ (P a b).toNat := fun a b => by
    unfold addP
    by_cases c : (a = u ∧ b = v) ∨ (a = v ∧ b = u)
    · rw [if_pos c]; omega
    · rw [if_neg c]; exact Nat.le_refl _
  refine sum_lt (y := v) (fun a _ => sum_le (fun b _ => hle a b)) (by simpa using hv) (sum_lt (y := u) (fun b _ => hle v b) (by simpa using hu) ?_)
  unfold addP
  rw [if_pos (Or.inr ⟨rfl, rfl⟩)]
  omega
def cellZ : Option Value → Nat
  | some (.int _ z) => z.toNat
  | _ => 0
def cellB : Option Value → Nat
  | some (.slice (some a) _ _) => a.block
  | _ => 0
def totW (w : World) (g N : Nat) : Nat := ((List.range N).map fun a => ((List.range N).map fun b => cellZ (w.cell? ⟨cellB (w.cell? ⟨g, a, none⟩), b, none⟩)).sum).sum
theorem PlanL.tot {w : World} {base g N : Nat} {bs : Nat → Nat} {P : Nat → Nat → Int} (h : PlanL w base g N bs P) : totW w g N = Ytkbgcbbloogdjac.tot N P := by
  unfold totW Ytkbgcbbloogdjac.tot
  congr 1
  refine List.map_congr_left fun a ha => ?_
  congr 1
  refine List.map_congr_left fun b hb => ?_
  have ha' : a < N := by simpa using ha
  have hb' : b < N := by simpa using hb
  rw [h.row.cell ha']
  show cellZ (w.cell? ⟨bs a, b, none⟩) = _
  rw [(h.rows a ha').cell hb']
  rfl

/-- How the memory stands while plan.walk goes on. -/
structure WS (w : World) (base b2 b5 b6 g N : Nat) (bs : Nat → Nat) (P : Nat → Nat → Int) (L : List Nat) : Prop where
  plan : PlanL w base g N bs P
  box : One w b2 (.slice (some ⟨g, 0, none⟩) N N) 67
  self : One w b6 (.func (.func 54) #[] #[.pointer (some ⟨b2, 0, none⟩), .pointer (some ⟨b6, 0, none⟩), .pointer (some ⟨b5, 0, none⟩)]) 88
  out : ∃ oo oc, One w b5 (.slice oo L.length oc) 29 ∧ w.ownsRow base 3 1 (.slice oo L.length oc) L.length (qv L) ∧ ∀ i, i < N → (Value.slice oo L.length oc).ownBlock ≠ some (bs i)
  ge : base ≤ b2 ∧ base ≤ b5 ∧ base ≤ b6
  ne : b5 ≠ b2 ∧ b5 ≠ b6 ∧ b5 ≠ g ∧ ∀ i, i < N → b5 ≠ bs i ∧ b2 ≠ bs i ∧ b6 ≠ bs i

/-- One step is taken off the plan. -/
theorem WS.off {w w' : World} {base b2 b5 b6 g N : Nat} {bs : Nat → Nat} {P P' : Nat → Nat → Int} {L : List Nat} (h : WS w base b2 b5 b6 g N bs P L) {u v : Nat} (hu : u < N) (hv : v < N) (hp : PlanL w' base g N bs P') (ht : Turns (fun k => k = bs u ∨ k = bs v) w w') : WS w' base b2 b5 b6 g N bs P' L := by
  have hno : ∀ k, (∀ i, i < N → k ≠ bs i) → ¬ (k = bs u ∨ k = bs v) := fun k hk hh => hh.elim (hk u hu) (hk v hv)
  refine ⟨hp, one_turns h.box ht (hno _ fun i hi => (h.ne.2.2.2 i hi).2.1), one_turns h.self ht (hno _ fun i hi => (h.ne.2.2.2 i hi).2.2), ?_, h.ge, h.ne⟩
  obtain ⟨oo, oc, h1, h2, h3⟩ := h.out
  exact ⟨oo, oc, one_turns h1 ht (hno _ fun i hi => (h.ne.2.2.2 i hi).1), ownsRow_blocks h2 (fun b hb => ht.block b (h2.lt b hb).2 (hno _ fun i hi e => h3 i hi (e ▸ hb))), h3⟩

/-- A number is told. -/
theorem WS.push {w w1 : World} {base b2 b5 b6 g N : Nat} {bs : Nat → Nat} {P : Nat → Nat → Int} {L : List Nat} (h : WS w base b2 b5 b6 g N bs P L) {oo : Option Addr} {oc x g1 c1 : Nat} {o : Obj} (h5 : One w b5 (.slice oo L.length oc) 29) (hrow : w.ownsRow base 3 1 (.slice oo L.length oc) L.length (qv L)) (hsep : ∀ i, i < N → (Value.slice oo L.length oc).ownBlock ≠ some (bs i))
    (hown : w1.ownsRow base 3 1 (.slice (some ⟨g1, 0, none⟩) (L ++ [x]).length c1) (L ++ [x]).length (qv (L ++ [x]))) (hg : (w.alloc o).grownBy w1 (Value.slice oo L.length oc).ownBlock) (hat : (Value.slice oo L.length oc).ownBlock = some g1 ∨ w.heap.size ≤ g1) :
    WS (w1.setCell ⟨b5, 0, none⟩ (.slice (some ⟨g1, 0, none⟩) (L ++ [x]).length c1)) base b2 b5 b6 g N bs P (L ++ [x]) := by
  have T := (alloc_turns w o (fun k => some k = (Value.slice oo L.length oc).ownBlock)).trans (Turns.of_grown hg)
  have ty : ∀ {b : Nat} {t : TypeId} {cs : Array Value}, w.heap[b]? = some (.cells cs t (0, 0)) → t ≠ 3 → ¬ some b = (Value.slice oo L.length oc).ownBlock := fun {b t cs} hb ht hh => by
    obtain ⟨cur, h1⟩ := own_cells hrow hh.symm
    rw [hb] at h1
    simp at h1
    exact ht h1.2
  have hbg : ¬ some g = (Value.slice oo L.length oc).ownBlock := fun hh => by
    obtain ⟨cur, h1, _⟩ := h.plan.row
    exact ty h1 (by decide) hh
  have hp1 := h.plan.turns T (fun k hk => ⟨fun e => hbg (e ▸ hk), fun i hi e => hsep i hi (by rw [← e]; exact hk.symm)⟩)
  have hg5 : g1 ≠ b5 := fun e => by
    rcases hat with h1 | h1
    · rw [e] at h1; exact ty h5 (by decide) h1.symm
    · have := lt_of_block h5; omega
  refine ⟨hp1.turns (setCell_turns _ _ _ _) (fun k hk => ⟨fun e => h.ne.2.2.1 (by rw [← hk, e]), fun i hi e => (h.ne.2.2.2 i hi).1 (by rw [← hk, e])⟩), ?_, ?_, ⟨some ⟨g1, 0, none⟩, c1, ?_, ?_, fun i hi hh => ?_⟩, h.ge, h.ne⟩
  · exact one_far (one_turns h.box T (ty h.box (by decide))) (fun e => h.ne.1 e.symm)
  · exact one_far (one_turns h.self T (ty h.self (by decide))) (fun e => h.ne.2.1 e.symm)
  · exact one_set (one_turns h5 T (ty h5 (by decide)))
  · refine ownsRow_blocks hown (fun b hb => Below.heap_setCell _ _ _ _ (fun e => hg5 ?_))
    have : b = g1 := by simpa [Value.ownBlock] using hb.symm
    rw [← this]; exact e
  · have e1 : g1 = bs i := by simpa [Value.ownBlock] using hh
    rcases hat with h1 | h1
    · exact hsep i hi (e1 ▸ h1)
    · have := (h.plan.rows i hi).lt; omega

theorem wpList_push2 {W : World} {ops : Array Oper} {rest : List Oper} {o : Oper} {a : Act} {Q : Exit → Act → World → Prop} {base : Nat} {po : Option Addr} {pc : Nat} {l : List Nat} {x : Nat} (hgd : o.guard = none) (s y : Operand)
    (ho : o.op = .call { callee := .builtin .append, args := #[s, y], argTypes := #[29, 29] }) (hs : a.eval s = .slice po l.length pc) (hy : a.eval y = .slice (some ⟨W.heap.size, 0, none⟩) 1 1)
    (hown : W.ownsRow base 3 1 (.slice po l.length pc) l.length (qv l)) (hl : l.length ≤ 1000000) (hbase : base ≤ W.heap.size)
    (h : ∀ g c w', w'.ownsRow base 3 1 (.slice (some ⟨g, 0, none⟩) (l ++ [x]).length c) (l ++ [x]).length (qv (l ++ [x])) → (W.alloc (Obj.cells #[.int .i64 (x : Int)] 3)).grownBy w' (Value.slice po l.length pc).ownBlock → ((Value.slice po l.length pc).ownBlock = some g ∨ W.heap.size ≤ g) → wpList Try.prog ops Q rest (a.put o.dst (.slice (some ⟨g, 0, none⟩) (l ++ [x]).length c)) w') :
    wpList Try.prog ops Q (o :: rest) a (W.alloc (Obj.cells #[.int .i64 (x : Int)] 3)) := by
  obtain ⟨i3, hi3, hy0, hy1, hy2⟩ := info_parts Try.info3
  refine wpList_append_lies _ hgd s y 29 ho base 3 i3 (.int .i64 0) 1 8 Try.underlying29 hi3 hy0 hy1 hy2 rfl (by decide) _ _ _ hs (hown.alloc _) ⟨W.heap.size, 0, none⟩ 1 1 [.int .i64 (x : Int)] hy rfl ?_ ?_ (by omega) ?_ ?_ ?_ (W.heap.size + 1) (by simp) ?_
  · exact cell_one_new _ _ _
  · intro y hy; simp at hy; subst hy; rfl
  · unfold maxLen; omega
  · omega
  · simp; omega
  · intro g c w' h1 h2 h3 _
    have := h g c w' (by simpa [qv] using h1) h2 (h3.imp id (fun h => by omega))
    simpa using this

theorem one_own {w : World} {base b5 : Nat} {x : Value} {oo : Option Addr} {n oc : Nat} {xs : List Value} (h5 : One w b5 x 29) (hrow : w.ownsRow base 3 1 (.slice oo n oc) n xs) (hh : some b5 = (Value.slice oo n oc).ownBlock) : False := by
  obtain ⟨cur, h1⟩ := own_cells hrow hh.symm
  have h2 : w.heap[b5]? = some (.cells #[x] 29 (0, 0)) := h5
  rw [h1] at h2
  simp at h2
theorem enter54 (args : Array Value) (w : World) : (callFunc 54 args).run Try.prog w = .ok (.enter 54 args) w := by
  simp [callFunc, Try.func54, go_sem]
  rw [if_neg (of_decide_eq_true (by kernel_rfl)), if_neg (by intro h; have : Try.f54.body.isSome = true := (by kernel_rfl); rw [h] at this; cases this)]

set_option maxRecDepth 4000 in
set_option maxHeartbeats 4000000 in
theorem leave_call {base b2 b5 b6 g N : Nat} {bs : Nat → Nat} (hN : N ≤ 100) : ∀ (n : Nat) (w : World) (P : Nat → Nat → Int) (L : List Nat) (v : Nat), v < N → Good N P → tot N P < n → L.length + tot N P ≤ 100000 → WS w base b2 b5 b6 g N bs P L →
    Calls Try.prog 54 #[.int .i64 (v : Int), .pointer (some ⟨b2, 0, none⟩), .pointer (some ⟨b6, 0, none⟩), .pointer (some ⟨b5, 0, none⟩)] w fun r w' => r = .returned (.tuple #[]) ∧ ∃ P' A, GoOn N v 0 P P' A ∧ Good N P' ∧ A.length + tot N P' ≤ tot N P ∧ WS w' base b2 b5 b6 g N bs P' (L ++ (A ++ [v])) ∧ Below base w w' := by
  have hF := enter54
  intro n
  induction n with
  | zero => intro w P L v _ _ h; omega
  | succ n ih =>
    intro w P L v hv hgd htot hlen hws
    have IH : Hid _ := ih
    clear ih
    have HW0 : Hid _ := hws
    have HG0 : Hid _ := hgd
    have c2 := cell_of_one hws.box
    clear hws hgd
    go_enter Try.func54, Try.ntmps54
    go_wp2
    clear c2
    go_loopw [8] (fun i wr => ∃ (u : Nat) (P1 : Nat → Nat → Int) (A1 : List Nat), u ≤ N ∧ i = .int .i64 (u : Int) ∧ (∀ P' A2, GoOn N v u P1 P' A2 → GoOn N v 0 P P' (A1 ++ A2)) ∧ Good N P1 ∧ A1.length + tot N P1 ≤ tot N P ∧ WS wr base b2 b5 b6 g N bs P1 (L ++ A1) ∧ Below base w wr) (fun i _ => N - (numOf i).toNat)
    case atStart => exact ⟨0, P, [], Nat.zero_le _, rfl, fun P' A2 h => by simpa using h, HG0.out, by simp, by simpa using HW0.out, Below.refl _ _⟩
    case round =>
      obtain ⟨u, P1, A1, huN, rfl, hgo, hgd1, hle1, hws1, hB1⟩ := hrel
      have HGO : Hid _ := hgo
      have HGD1 : Hid _ := hgd1
      have HWS1 : Hid _ := hws1
      clear hgo hgd1 hws1
      by_cases hu : u < N
      · go_wp2
        go_loopw [11] (fun _ wq => ∃ (P2 : Nat → Nat → Int) (A2 : List Nat), (∀ P' A3, GoOn N v u P2 P' A3 → GoOn N v 0 P P' (A2 ++ A3)) ∧ Good N P2 ∧ A2.length + tot N P2 ≤ tot N P ∧ WS wq base b2 b5 b6 g N bs P2 (L ++ A2) ∧ Below base w wq) (fun _ wq => totW wq g N)
        case atStart => exact ⟨P1, A1, HGO.out, HGD1.out, hle1, HWS1.out, hB1⟩
        case round =>
          obtain ⟨P2, A2, hgo2, hgd2, hle2, hws2, hB2⟩ := hrel
          have HGO2 : Hid _ := hgo2
          have HGD2 : Hid _ := hgd2
          have HWS2 : Hid _ := hws2
          have htw := hws2.plan.tot
          have HTW : Hid _ := htw
          have c2 := cell_of_one hws2.box
          have cv := hws2.plan.row.cell hv
          have cu := (hws2.plan.rows v hv).cell hu
          have i1 : (0 : Int) ≤ (v : Int) := by omega
          have i2 : (v : Int) < (N : Int) := by omega
          have i3 : (0 : Int) ≤ (u : Int) := by omega
          have i4 : (u : Int) < (N : Int) := by omega
          clear hgo2 hgd2 hws2 htw
          by_cases hp : 0 < P2 v u
          · have hgt := HGD2.out.take hp
            have htl := tot_lt hu hv hp
            have hpos := HGD2.out.pos u v
            have hpos2 := HGD2.out.pos v u
            have hadd := planAdd_call (cap := N) HWS2.out.plan hu hv hgt.2 (z := -1) (by omega) (by omega)
            have HAD : Hid _ := hadd
            have HGT : Hid _ := hgt.1
            have HP : Hid _ := hp
            clear hadd hgt
            go_wp2_with (first
              | (go_at_call 55; refine Calls.mono HAD.out ?_; rintro r wa ⟨rfl, hpa, hTa⟩; have hwa := HWS2.out.off hu hv hpa hTa; have c6 := cell_of_one hwa.self; have HWA : Hid _ := hwa; clear hwa)
              | (go_at_call 54; refine (IH.out wa (addP P2 u v (-1)) (L ++ A2) u hu HGT.out (by omega) (by simp; omega) HWA.out).mono ?_; rintro r wb ⟨rfl, P3, A3, hgo3, hgd3, hle3, hws3, hB3⟩)
              | go_in)
            have hBa := hTa.below hB2 (by have := HWS2.out.ge.1; have := lt_of_block HWS2.out.box; omega) (fun k hk => hk.elim (fun e => by rw [e]; exact HWS2.out.plan.ge.2 u hu) (fun e => by rw [e]; exact HWS2.out.plan.ge.2 v hv))
            have htb := hws3.plan.tot
            go_roundw
            case rel =>
              refine ⟨P3, A2 ++ (A3 ++ [u]), fun P' A4 h => ?_, hgd3, by simp; omega, by simpa using hws3, hBa.trans hB3⟩
              have := HGO2.out _ _ (GoOn.take hu HP.out hgo3 h)
              simpa using this
            case measure => rw [htb, HTW.out]; omega
          · have HP : Hid _ := hp
            go_wp2
            go_roundw
            case rel => exact ⟨u + 1, P2, A2, by omega, by go_num, fun P' A4 h => HGO2.out _ _ (GoOn.next hu HP.out h), HGD2.out, hle2, HWS2.out, hB2⟩
            case measure => simp [numOf]; omega
      · have hue : N = u := by omega
        subst hue
        have hfin := HGO.out P1 [] (GoOn.done v P1)
        have HFN : Hid _ := hfin
        have hwsL := HWS1.out
        obtain ⟨LL, hLL⟩ : ∃ LL, LL = L ++ A1 := ⟨_, rfl⟩
        have hLl : LL.length ≤ 100000 := by rw [hLL]; simp; omega
        rw [← hLL] at hwsL
        obtain ⟨oo, oc, h5, hrow, hsep⟩ := hwsL.out
        have HWL : Hid _ := hwsL
        have HLL : Hid _ := hLL
        clear hLL
        have HSEP : Hid _ := hsep
        have c5 := cell_of_one h5
        have f5 := one_free h5
        have hbs : base ≤ wr.heap.size := by have := hwsL.ge.2.1; have := lt_of_block h5; omega
        have h5lt := lt_of_block h5
        clear hfin hsep hwsL
        go_wp2_with (first
          | (at_builtin; refine wpList_push2 (x := v) rfl _ _ rfl rfl rfl hrow (by omega) hbs ?_; intro g1 c1 w1 hown1 hgr1 hat1; have T := (alloc_turns wr (Obj.cells #[.int .i64 (v : Int)] 3) (fun k => some k = (Value.slice oo LL.length oc).ownBlock)).trans (Turns.of_grown hgr1); have h51 := one_turns h5 T (fun hh => one_own h5 hrow hh); have c51 := cell_of_one h51; have f51 := one_free h51)
          | go_in)
        have hws3 := HWL.out.push h5 hrow HSEP.out hown1 hgr1 hat1
        have hB3 := (T.below hB1 hbs (fun k hk => (hrow.lt k hk.symm).1)).setCell (p := ⟨b5, 0, none⟩) HWL.out.ge.2.1 (.slice (some ⟨g1, 0, none⟩) (LL ++ [v]).length c1)
        go_end0
        refine ⟨rfl, P1, A1, by have hq := HFN.out; rw [List.append_nil] at hq; exact hq, HGD1.out, hle1, ?_, ?_⟩
        · have e1 : L ++ (A1 ++ [v]) = LL ++ [v] := by rw [HLL.out]; simp
          rw [e1]
          simpa using hws3
        · simpa using hB3
end Go.Proofs.Ytkbgcbbloogdjac
