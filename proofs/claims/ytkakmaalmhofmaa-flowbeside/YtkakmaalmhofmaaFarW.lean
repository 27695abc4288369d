/- farFrom: how far the nodes are from one of them, on ways with room. -/
import Derived.Test.YtkakmaalmhofmaaPipe
namespace Go.Proofs.Ytkakmaalmhofmaa
open Go.RowKit Go.Maps
attribute [local go_sem ↓] Go.wp_at_zero Go.wp_at_succ

structure Bq (N M : Nat) (T : Nat → Nat) (ls : Nat → List Nat) (R : Nat → Int) (s : Nat) (F : Nat → Int) (Q : List Nat) (k : Nat) : Prop where
  src : F s = 0
  mem : ∀ v, v < N → (v ∈ Q ↔ 0 ≤ F v)
  low : ∀ v, v < N → -1 ≤ F v
  nodup : Q.Nodup
  lt : ∀ v ∈ Q, v < N
  le : ∀ (i v : Nat), Q[i]? = some v → F v ≤ (i : Int)
  back : ∀ v, v < N → 0 ≤ F v → v ≠ s → ∃ p, p < M ∧ T p = v ∧ 0 < R p ∧ 0 ≤ F (T (tw p)) ∧ F v = F (T (tw p)) + 1
  done : ∀ v ∈ Q.take k, ∀ p ∈ ls v, 0 < R p → 0 ≤ F (T p)

section
variable {N M : Nat} {T : Nat → Nat} {ls : Nat → List Nat} {R : Nat → Int} {s : Nat} {F : Nat → Int} {Q : List Nat} {k : Nat}
theorem Bq.start (hs : s < N) : Bq N M T ls R s (fun v => if v = s then 0 else -1) [s] 0 where
  src := by simp
  mem := fun v _ => by by_cases e : v = s <;> simp [e]
  low := fun v _ => by by_cases e : v = s <;> simp [e]
  nodup := by simp
  lt := fun v hv => by simp at hv; omega
  le := fun i v h => by
    cases i with
    | zero => simp at h; subst h; simp
    | succ i => simp at h
  back := fun v _ h hne => by simp [hne] at h
  done := fun v hv => by simp at hv
theorem Bq.len (h : Bq N M T ls R s F Q k) : Q.length ≤ N := by
  have := nat_nodup_len Q (List.range N) h.nodup (fun e he => by simpa using h.lt e he)
  simpa using this
theorem Bq.put (h : Bq N M T ls R s F Q k) (hn : Net N M T ls) {v p : Nat} (hv : v < N) (hk : Q[k]? = some v) (hp : p ∈ ls v) (hR : 0 < R p) (hu : F (T p) = -1) :
    Bq N M T ls R s (fun y => if y = T p then F v + 1 else F y) (Q ++ [T p]) k := by
  have hm := (hn.mem v p hv).1 hp
  have huN := hn.lt p hm.1
  have hkl := (List.getElem?_eq_some_iff.1 hk).1
  have hvQ : 0 ≤ F v := (h.mem v hv).1 (List.mem_of_getElem? hk)
  have hvk := h.le k v hk
  have hnot : T p ∉ Q := fun e => by have := (h.mem _ huN).1 e; omega
  have hsu : s ≠ T p := fun e => by have := h.src; rw [e] at this; omega
  have hvu : v ≠ T p := fun e => by rw [e] at hvQ; omega
  refine ⟨?_, fun y hy => ?_, fun y hy => ?_, ?_, fun y hy => ?_, fun i y hy => ?_, fun y hy h0 hne => ?_, fun y hy q hq hr => ?_⟩
  · simp only [if_neg hsu]; exact h.src
  · by_cases e : y = T p
    · simp [e]; omega
    · simp [e]; exact h.mem y hy
  · by_cases e : y = T p
    · simp [e]; omega
    · simp [e]; exact h.low y hy
  · rw [List.nodup_append]
    exact ⟨h.nodup, by simp, fun a ha b hb e => by simp at hb; subst hb; subst e; exact hnot ha⟩
  · rcases List.mem_append.1 hy with hy | hy
    · exact h.lt y hy
    · simp at hy; omega
  · by_cases hi : i < Q.length
    · rw [List.getElem?_append_left hi] at hy
      have e : y ≠ T p := fun e => hnot (e ▸ List.mem_of_getElem? hy)
      simp only [if_neg e]
      exact h.le i y hy
    · have hyl := (List.getElem?_eq_some_iff.1 hy).1
      simp at hyl
      have e : i = Q.length := by omega
      subst e
      simp at hy
      subst hy
      simp
      omega
  · by_cases e : y = T p
    · subst e
      refine ⟨p, hm.1, rfl, hR, ?_, ?_⟩
      · rw [hm.2]; simp only [if_neg hvu]; exact hvQ
      · rw [hm.2]; simp [if_neg hvu]
    · simp only [if_neg e] at h0 ⊢
      obtain ⟨q, h1, h2, h3, h4, h5⟩ := h.back y hy h0 hne
      have e2 : T (tw q) ≠ T p := fun e2 => by rw [e2] at h4; omega
      exact ⟨q, h1, h2, h3, by simp only [if_neg e2]; exact h4, by simp only [if_neg e2]; exact h5⟩
  · rw [List.take_append_of_le_length (by omega)] at hy
    have := h.done y hy q hq hr
    by_cases e : T q = T p
    · simp [e]; omega
    · simp [e]; exact this
theorem Bq.next (h : Bq N M T ls R s F Q k) {v : Nat} (hk : Q[k]? = some v) (hd : ∀ p ∈ ls v, 0 < R p → 0 ≤ F (T p)) : Bq N M T ls R s F Q (k + 1) := by
  refine ⟨h.src, h.mem, h.low, h.nodup, h.lt, h.le, h.back, fun y hy => ?_⟩
  obtain ⟨h1, h2⟩ := List.getElem?_eq_some_iff.1 hk
  rw [List.take_succ_eq_append_getElem h1, h2] at hy
  rcases List.mem_append.1 hy with hy | hy
  · exact h.done y hy
  · simp at hy; subst hy; exact hd
theorem Bq.far (h : Bq N M T ls R s F Q k) (hn : Net N M T ls) (hk : Q.length ≤ k) : Far N M T R s F := by
  refine ⟨h.src, fun v hv => ⟨h.low v hv, ?_⟩, fun p hp h0 hr => ?_, h.back⟩
  · by_cases e : 0 ≤ F v
    · have hm := (h.mem v hv).2 e
      obtain ⟨i, hi, hiv⟩ := List.getElem_of_mem hm
      have := h.le i v (List.getElem?_eq_some_iff.2 ⟨hi, hiv⟩)
      have := h.len
      omega
    · omega
  · have hw := hn.lt _ (tw_lt hn.even hp)
    have hm := (h.mem _ hw).2 h0
    exact h.done _ (by rw [List.take_of_length_le hk]; exact hm) p ((hn.mem _ p hw).2 ⟨hp, rfl⟩) hr
end

structure FI (w wr : World) (bf N : Nat) (q : Value) (F : Nat → Int) (Q : List Nat) : Prop where
  far : RowV wr bf 3 N (fun v => .int .i64 (F v))
  own : wr.ownsRow w.heap.size 3 1 q Q.length (qv Q)
  ne : q.ownBlock ≠ some bf
  ge : w.heap.size ≤ bf
  below : Below w.heap.size w wr

section
variable {w wr : World} {bf N : Nat} {q : Value} {F : Nat → Int} {Q : List Nat}
theorem FI.set (h : FI w wr bf N q F Q) (u : Nat) (x : Int) : FI w (wr.setCell ⟨bf, u, none⟩ (.int .i64 x)) bf N q (fun y => if y = u then x else F y) Q := by
  refine ⟨(h.far.set u _).congr (fun j _ => ?_), ownsRow_blocks h.own (fun b hb => Below.heap_setCell _ _ _ _ (fun e => h.ne (by rw [hb]; exact congrArg some e))), h.ne, h.ge, h.below.setCell h.ge _⟩
  by_cases e : j = u
  · simp [e]
  · simp [e]
theorem FI.push {w1 : World} {o : Obj} {g1 c1 x : Nat} (h : FI w wr bf N q F Q) (hown : w1.ownsRow w.heap.size 3 1 (.slice (some ⟨g1, 0, none⟩) (Q ++ [x]).length c1) (Q ++ [x]).length (qv (Q ++ [x]))) (hg : (wr.alloc o).grownBy w1 q.ownBlock) (hat : q.ownBlock = some g1 ∨ wr.heap.size ≤ g1) :
    FI w w1 bf N (.slice (some ⟨g1, 0, none⟩) (Q ++ [x]).length c1) F (Q ++ [x]) := by
  have T := (alloc_turns wr o (fun k => some k = q.ownBlock)).trans (Turns.of_grown hg)
  refine ⟨h.far.turns T (fun e => h.ne e.symm), hown, fun e => ?_, h.ge, T.below h.below h.below.size (fun k hk => (h.own.lt k hk.symm).1)⟩
  have e1 : g1 = bf := by simpa [Value.ownBlock] using e
  rcases hat with h1 | h1
  · exact h.ne (e1 ▸ h1)
  · have := h.far.lt; omega
end

set_option maxRecDepth 4000 in
set_option maxHeartbeats 4000000 in
theorem farFrom_call {c : Pp} {w : World} {R : Nat → Int} {s : Nat} (hn : Net c.N c.M c.T c.ls) (hN : c.N ≤ 1000) (hs : s < c.N) (hps : PS c w R) (hok : Ok c.M R) :
    Calls Try.prog 53 #[ptr c.bp, .int .i64 (s : Int)] w fun r w' => ∃ bf, r = .returned (sl bf c.N) ∧ w.heap.size ≤ bf ∧ ∃ F, RowV w' bf 3 c.N (fun v => .int .i64 (F v)) ∧ Far c.N c.M c.T R s F ∧ Below w.heap.size w w' := by
  obtain ⟨i3, hi3, hy0, hy1, hy2⟩ := info_parts Try.info3
  have HN : Hid _ := hn
  have HPS : Hid _ := hps
  have HOK : Hid _ := hok
  have cb0 := box_cell hps.box (i := 0) rfl
  clear hn hps hok
  go_enter Try.func53, Try.ntmps53
  go_upto_region 2 with (first | (at_make; refine wpList_make_full _ rfl _ _ 30 rfl w.heap.size 3 i3 (.int .i64 0) 1 Try.underlying30 hi3 hy0 hy1 .i64 .i64 _ _ c.N rfl rfl rfl rfl ?_ ?_ ?_ ?_; (rw [hy2]; omega); (unfold maxLen; omega); (omega); intro W1 hmade hg1) | go_in)
  have hrow0 := rowV_made rfl hmade
  have hB1 : Below w.heap.size w W1 := (Below.refl _ _).grown hg1 (Nat.le_refl _) (fun k hk => by cases hk)
  clear hmade hg1 cb0
  go_wp2
  go_loopw [21] (fun i wr => ∃ k : Nat, k ≤ c.N ∧ i = .int .i64 (k : Int) ∧ RowV wr w.heap.size 3 c.N (fun v => .int .i64 (if v < k then -1 else 0)) ∧ Below w.heap.size w wr) (fun i _ => c.N - (numOf i).toNat)
  case atStart => exact ⟨0, Nat.zero_le _, rfl, hrow0.congr (fun j _ => by simp), hB1⟩
  case round =>
    obtain ⟨k, hk, rfl, hrow, hB⟩ := hrel
    clear hrow0 hB1
    by_cases hlt : k < c.N
    · have f0 := hrow.free k
      have i1 : (0 : Int) ≤ (k : Int) := by omega
      have i2 : (k : Int) < (c.N : Int) := by omega
      have hr2 := hrow.set k (.int .i64 (-1))
      have HR2 : Hid _ := hr2
      have HB : Hid _ := hB
      have c0 := hrow.cell hlt
      clear hr2 hB hrow
      go_wp2
      go_roundw
      case rel => exact ⟨k + 1, by omega, by go_num, RowV.congr HR2.out (fun j _ => by
        by_cases e : j = k
        · simp [e]
        · simp only [if_neg e]
          by_cases e2 : j < k
          · rw [if_pos e2, if_pos (by omega)]
          · rw [if_neg e2, if_neg (by omega)]), HB.out.setCell (Nat.le_refl _) _⟩
      case measure => simp [numOf]; omega
    · have f0 := hrow.free s
      have c0 := hrow.cell hs
      have i1 : (0 : Int) ≤ (s : Int) := by omega
      have i2 : (s : Int) < (c.N : Int) := by omega
      have hke : k = c.N := by omega
      have hr2 := (hrow.set s (.int .i64 0)).congr (g := fun v => .int .i64 (if v = s then 0 else -1)) (fun j hj => by
        by_cases e : j = s
        · simp [e]
        · simp only [if_neg e]
          rw [if_pos (by omega)])
      have hB2 := hB.setCell (p := ⟨w.heap.size, s, none⟩) (Nat.le_refl _) (.int .i64 0)
      clear hke
      go_upto_region 9 with (fail)
      have hez : (wr.setCell ⟨w.heap.size, s, none⟩ (.int .i64 0)).heap.size = wr.heap.size := by simp [World.setCell]
      generalize wr.setCell ⟨w.heap.size, s, none⟩ (.int .i64 0) = W2 at hr2 hB2 hez ⊢
      clear hrow hB f0 c0
      have hfi : FI w (W2.alloc (Obj.cells #[.int .i64 (s : Int)] 3)) w.heap.size c.N (.slice (some ⟨wr.heap.size, 0, none⟩) 1 1) (fun v => if v = s then 0 else -1) [s] := by
        have hl := hr2.lt
        rw [← hez]
        refine ⟨hr2.block (Below.heap_alloc _ _ _ hl), ownsRow_one W2 _ _ 3 hB2.size, fun e => ?_, Nat.le_refl _, below_alloc hB2 _⟩
        have : W2.heap.size = w.heap.size := by simpa [Value.ownBlock] using e
        omega
      have HFI : Hid _ := hfi
      clear hfi hr2 hB2 hez
      go_wp2
      go_loopw [7, 8] (fun qv' i wr => ∃ (k : Nat) (F : Nat → Int) (Q : List Nat), i = .int .i64 (k : Int) ∧ k ≤ Q.length ∧ Bq c.N c.M c.T c.ls R s F Q k ∧ FI w wr w.heap.size c.N qv' F Q) (fun _ i _ => c.N - (numOf i).toNat)
      case atStart => exact ⟨0, _, [s], rfl, by simp, Bq.start hs, HFI.out⟩
      case round =>
        obtain ⟨k, F, Q, rfl, hk, hbq, hfi⟩ := hrel
        clear HFI
        obtain ⟨qo, qc, rfl⟩ := form_row hfi.own
        have hQN := hbq.len
        by_cases hlt : k < Q.length
        · obtain ⟨v, hv?⟩ : ∃ v, Q[k]? = some v := ⟨Q[k], List.getElem?_eq_getElem hlt⟩
          have hvN := hbq.lt v (List.mem_of_getElem? hv?)
          obtain ⟨gq, e1, cq⟩ := qcell hfi.own hv?
          cases e1
          have hps := HPS.out.below hfi.below
          have cb0 := box_cell hps.box (i := 0) rfl
          obtain ⟨xo, xc, co, ho⟩ := HPS.out.near.2.2 v hvN
          have co' := cell_turns co (Turns.of_below hfi.below (fun _ => False)) (fun h => h)
          have hln := HN.out.len v hvN
          have j1 : (0 : Int) ≤ (k : Int) := by omega
          have j2 : (k : Int) < (Q.length : Int) := by omega
          have j3 : (0 : Int) ≤ (v : Int) := by omega
          have j4 : (v : Int) < (c.N : Int) := by omega
          have HBQ : Hid _ := hbq
          have HFI : Hid _ := hfi
          have HV : Hid _ := hv?
          have HO : Hid _ := ho
          clear hbq hfi hv? hps co ho
          go_wp2
          clear cb0 co' cq
          go_loopw [7, 51] (fun qv' i wr => ∃ (t : Nat) (F : Nat → Int) (Q : List Nat), i = .int .i64 (t : Int) ∧ t ≤ (c.ls v).length ∧ Bq c.N c.M c.T c.ls R s F Q k ∧ Q[k]? = some v ∧ (∀ p ∈ (c.ls v).take t, 0 < R p → 0 ≤ F (c.T p)) ∧ FI w wr w.heap.size c.N qv' F Q) (fun _ i _ => (c.ls v).length - (numOf i).toNat)
          case atStart => exact ⟨0, F, Q, rfl, Nat.zero_le _, HBQ.out, HV.out, by simp, HFI.out⟩
          case round =>
            clear HBQ HFI HV
            obtain ⟨t, F, Q, rfl, ht, hbq, hv?, hdn, hfi⟩ := hrel
            obtain ⟨qo, qc, rfl⟩ := form_row hfi.own
            have hQN := hbq.len
            by_cases htl : t < (c.ls v).length
            · obtain ⟨p, hp?⟩ : ∃ p, (c.ls v)[t]? = some p := ⟨(c.ls v)[t], List.getElem?_eq_getElem htl⟩
              have hpm := List.mem_of_getElem? hp?
              have hmem := (HN.out.mem v p hvN).1 hpm
              have hpM := hmem.1
              have h0M : 0 < c.M := by omega
              have hTp := HN.out.lt p hpM
              obtain ⟨bo, _, _, rfl, cp⟩ := HO.out t p hp?
              have cp' := cell_turns cp (Turns.of_below hfi.below (fun _ => False)) (fun h => h)
              have hps := HPS.out.below hfi.below
              have cb1 := box_cell hps.box (i := 1) rfl
              have cb2 := box_cell hps.box (i := 2) rfl
              rw [(hps.to h0M).1] at cb1
              rw [(hps.room h0M).1] at cb2
              have ct := (hps.to h0M).2.cell hpM
              have cr := (hps.room h0M).2.cell hpM
              have cf := hfi.far.cell hTp
              have cfv := hfi.far.cell hvN
              have ff := hfi.far.free (c.T p)
              have hRp := Ok.le HOK.out HN.out.even hpM
              have hFv := hbq.le k v hv?
              have hFv0 : 0 ≤ F v := (hbq.mem v hvN).1 (List.mem_of_getElem? hv?)
              have hkl := (List.getElem?_eq_some_iff.1 hv?).1
              have hFlow := hbq.low _ hTp
              have l1 : (0 : Int) ≤ (t : Int) := by omega
              have l2 : (t : Int) < ((c.ls v).length : Int) := by omega
              have l3 : (0 : Int) ≤ (p : Int) := by omega
              have l4 : (p : Int) < (c.M : Int) := by omega
              have l5 : (0 : Int) ≤ (c.T p : Int) := by omega
              have l6 : (c.T p : Int) < (c.N : Int) := by omega
              have htk : ∀ (F' : Nat → Int), (∀ a ∈ (c.ls v).take t, 0 < R a → 0 ≤ F' (c.T a)) → (0 < R p → 0 ≤ F' (c.T p)) → ∀ a ∈ (c.ls v).take (t + 1), 0 < R a → 0 ≤ F' (c.T a) := fun F' h1 h2 a ha => by
                obtain ⟨g1, g2⟩ := List.getElem?_eq_some_iff.1 hp?
                rw [List.take_succ_eq_append_getElem g1, g2] at ha
                rcases List.mem_append.1 ha with ha | ha
                · exact h1 a ha
                · simp at ha; rw [ha]; exact h2
              have HTK : Hid _ := htk
              have HDN : Hid _ := hdn
              have HV : Hid _ := hv?
              have HBQ : Hid _ := hbq
              have HFI : Hid _ := hfi
              have HPM : Hid _ := hpm
              clear htk hdn hv? hbq hps hp? hpm hmem cp
              by_cases hR : 0 < R p
              · by_cases hF : F (c.T p) = -1
                · have k1 : (F (c.T p) == -1) = true := by rw [beq_iff_eq]; exact hF
                  have hb2 := HBQ.out.put HN.out hvN HV.out HPM.out hR hF
                  have hf2 := hfi.set (c.T p) (F v + 1)
                  have HB2 : Hid _ := hb2
                  have HF1 : Hid _ := hF
                  clear hb2 hF hfi
                  go_upto_region 19 with (fail)
                  generalize wr.setCell ⟨w.heap.size, c.T p, none⟩ (.int .i64 (F v + 1)) = W3 at hf2 ⊢
                  clear cb1 cb2 ct cr cf cfv ff cp'
                  have hown := hf2.own
                  have hsz := hf2.below.size
                  have HF2 : Hid _ := hf2
                  clear hf2
                  go_wp2_with (first
                    | (at_builtin; refine wpList_pushA (x := c.T p) rfl _ _ rfl rfl rfl hown (by omega) hsz ?_; intro g1 c1 w2 hown1 hgr1 hat1)
                    | go_in)
                  have hf3 := HF2.out.push hown1 hgr1 hat1
                  go_roundw
                  case rel => exact ⟨t + 1, _, Q ++ [c.T p], by go_num, by omega, HB2.out, by rw [List.getElem?_append_left (by omega)]; exact HV.out, HTK.out (fun y => if y = c.T p then F v + 1 else F y) (fun a ha hra => by
                      have h1 := HDN.out a ha hra
                      show 0 ≤ (if c.T a = c.T p then F v + 1 else F (c.T a))
                      split <;> omega) (fun _ => by
                      show 0 ≤ (if c.T p = c.T p then F v + 1 else F (c.T p))
                      split <;> omega), by simpa using hf3⟩
                  case measure => simp [numOf]; omega
                · have k1 : (F (c.T p) == -1) = false := by rw [beq_eq_false_iff_ne]; exact hF
                  have hF0 : 0 ≤ F (c.T p) := by omega
                  clear hF hfi
                  go_wp2
                  go_roundw
                  case rel => exact ⟨t + 1, F, Q, by go_num, by omega, HBQ.out, HV.out, HTK.out F HDN.out (fun _ => hF0), HFI.out⟩
                  case measure => simp [numOf]; omega
              · clear hfi
                go_wp2
                go_roundw
                case rel => exact ⟨t + 1, F, Q, by go_num, by omega, HBQ.out, HV.out, HTK.out F HDN.out (fun h => absurd h hR), HFI.out⟩
                case measure => simp [numOf]; omega
            · have hte : (c.ls v).length = t := by omega
              have hnx := hbq.next hv? (fun p hp hr => hdn p (by rw [← hte, List.take_length]; exact hp) hr)
              have hkl := (List.getElem?_eq_some_iff.1 hv?).1
              have HNX : Hid _ := hnx
              have HFI : Hid _ := hfi
              have l2 : ¬ (t : Int) < ((c.ls v).length : Int) := by omega
              clear hnx hfi hbq hv? hdn hte
              go_wp2
              go_roundw
              case rel => exact ⟨k + 1, F, Q, by go_num, by omega, HNX.out, HFI.out⟩
              case measure => simp [numOf]; omega
        · have hfar := hbq.far HN.out (by omega)
          have HFR : Hid _ := hfar
          have HFI : Hid _ := hfi
          have j2 : ¬ (k : Int) < (Q.length : Int) := by omega
          clear hfar hfi hbq
          go_wp2
          go_ret
          exact ⟨w.heap.size, rfl, Nat.le_refl _, F, HFI.out.far, HFR.out, HFI.out.below⟩
end Go.Proofs.Ytkakmaalmhofmaa
