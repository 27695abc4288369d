/- sync.Once.Do: the first time, and later. -/
import Derived.Test.YtfdlndljpmamgaaHouseM
import Derived.Tactics
import Derived.Tactics2
import Derived.Defers
import Derived.Laws.Pointers
import Derived.Laws.LoneSync
import Derived.RegionTactic
import Derived.RegionCalls
import Derived.ChangeAlike
namespace Go.Proofs.Ytfdlndljpmamgaa
set_option maxRecDepth 100000
open Go.RowKit Go.Maps
theorem sy_disable (w : World) : (callFunc 87 #[]).run Try.prog w = .ok (.value (.tuple #[])) w := run_call_mark0 Try.func87 (by kernel_rfl) (by kernel_rfl) (by kernel_rfl) .disable (by kernel_rfl) w
theorem sy_enable (w : World) : (callFunc 89 #[]).run Try.prog w = .ok (.value (.tuple #[])) w := run_call_mark0 Try.func89 (by kernel_rfl) (by kernel_rfl) (by kernel_rfl) .enable (by kernel_rfl) w
theorem sy_acquire (a : Addr) (w : World) : (callFunc 90 #[.pointer (some a)]).run Try.prog w = .ok (.value (.tuple #[])) w := run_call_marked Try.func90 (by kernel_rfl) (by kernel_rfl) (by kernel_rfl) .acquire (by kernel_rfl) a w
theorem sy_release (a : Addr) (w : World) : (callFunc 92 #[.pointer (some a)]).run Try.prog w = .ok (.value (.tuple #[])) w := run_call_marked Try.func92 (by kernel_rfl) (by kernel_rfl) (by kernel_rfl) .releaseMerge (by kernel_rfl) a w
theorem sy_store (a : Addr) (x : Value) (u : FrameMode) (w : World) (hc : w.cell? a = some x) (hz : w.frozen? a = false) :
    CallsD Try.prog 67 #[.pointer (some a), .bool true] u w fun e u' w' => u' = u ∧ (e = .returned (.tuple #[]) ∧ w' = w.drew.setCell a (.int .u32 1)) := by
  have hc' : w.drew.cell? a = some x := by go_simp
  have hz' : w.drew.frozen? a = false := by go_simp
  have hst := run_call_store (P := Try.prog) Try.func80 (by kernel_rfl) (by kernel_rfl) (by kernel_rfl) (by kernel_rfl) (k := .u32) (y := 1) hc' hz'
  go_enter_d Try.func67, Try.ntmps67
  go_wp2
  go_region_calls
  all_goals (go_end0; exact ⟨rfl, rfl⟩)
theorem sy_unlock (a : Addr) (u : FrameMode) (w : World) (hc : w.cell? a = some (.int .i32 1)) (hz : w.frozen? a = false) :
    CallsD Try.prog 66 #[.pointer (some a)] u w fun e u' w' => u' = u ∧ (e = .returned (.tuple #[]) ∧ w' = w.setCell a (.int .i32 0)) := by
  have hd := sy_disable
  have he := sy_enable
  have hr := sy_release
  have hadd := run_call_add (P := Try.prog) Try.func93 (by kernel_rfl) (by kernel_rfl) (by kernel_rfl) .i32 (by kernel_rfl) (y := -1) (s := 0) hc hz (by simp [go_sem]; rfl)
  have hcv := run_convert_to_unsafe (P := Try.prog) (src := 141) (dst := 145) Try.underlying141 Try.underlying145 (by kernel_rfl) hc
  go_enter_d Try.func66, Try.ntmps66
  go_wp2
  go_end0
  go_wp2
  go_end0
  exact ⟨rfl, rfl⟩
theorem sy_lock (a : Addr) (w : World) (hc : w.cell? a = some (.int .i32 0)) (hz : w.frozen? a = false) :
    Calls Try.prog 65 #[.pointer (some a)] w fun e w' => e = .returned (.tuple #[]) ∧ w' = w.setCell a (.int .i32 1) := by
  have hd := sy_disable
  have he := sy_enable
  have ha := sy_acquire
  have hcas := run_call_cas_hit (P := Try.prog) Try.func88 (by kernel_rfl) (by kernel_rfl) (by kernel_rfl) .i32 (by kernel_rfl) (y := 1) hc hz
  have hc' : (w.setCell a (.int .i32 1)).cell? a = some (.int .i32 1) := World.cell?_setCell_same w a _ hc
  have hcv := run_convert_to_unsafe (P := Try.prog) (src := 141) (dst := 145) Try.underlying141 Try.underlying145 (by kernel_rfl) hc'
  go_enter Try.func65, Try.ntmps65
  go_wp2
  first | go_end0 | (simp only [Exit.inBlock, Exit.then]; refine bodyPost_ret (results_none rfl _ _ _) rfl ?_) | refine bodyPost_ret (results_none rfl _ _ _) rfl ?_
  go_wp2
  go_end0
  exact ⟨rfl, rfl⟩
abbrev on5 (d m x2 x3 x4 : Value) : Array Value := #[d, m, x2, x3, x4]
set_option maxHeartbeats 1600000 in
theorem sy_slow {w : World} {tb F : Nat} {caps : Array Value} {x3 x4 : Value} {Q : Value → Value → World → Prop} (hb : Box w tb (on5 (.int .u32 0) (.int .i32 0) (.int .u32 0) x3 x4) 78) (hE : ∀ args w, (callFunc F args).run Try.prog w = .ok (.enter F args) w)
    (hf : Calls Try.prog F caps (w.setCell ⟨tb, 1, none⟩ (.int .i32 1)) fun e w' => e = .returned (.tuple #[]) ∧ ∃ y3 y4, Box w' tb (on5 (.int .u32 0) (.int .i32 1) (.int .u32 0) y3 y4) 78 ∧ Q y3 y4 w') :
    Calls Try.prog 58 #[.pointer (some ⟨tb, 0, none⟩), .func (.func F) #[] caps] w fun e w'' => e = .returned (.tuple #[]) ∧ ∃ y3 y4 w', Box w' tb (on5 (.int .u32 0) (.int .i32 1) (.int .u32 0) y3 y4) 78 ∧ Q y3 y4 w' ∧ w'' = (w'.drew.setCell ⟨tb, 0, none⟩ (.int .u32 1)).setCell ⟨tb, 1, none⟩ (.int .i32 0) := by
  have HF : Hid (Calls Try.prog F caps (w.setCell ⟨tb, 1, none⟩ (.int .i32 1)) fun e w' => e = .returned (.tuple #[]) ∧ ∃ y3 y4, Box w' tb (on5 (.int .u32 0) (.int .i32 1) (.int .u32 0) y3 y4) 78 ∧ Q y3 y4 w') := hf
  clear hf
  have hb1 := box_set hb 1 (.int .i32 1)
  have c1 : w.cell? ⟨tb, 1, none⟩ = some (.int .i32 0) := box_cell hb rfl
  have f1 := box_free hb 1
  have d0 : (w.setCell ⟨tb, 1, none⟩ (.int .i32 1)).cell? ⟨tb, 0, none⟩ = some (.int .u32 0) := box_cell hb1 rfl
  have hl := run_call_load (P := Try.prog) Try.func64 (by kernel_rfl) (by kernel_rfl) (by kernel_rfl) .u32 (by kernel_rfl) (w := w.setCell ⟨tb, 1, none⟩ (.int .i32 1)) (a := ⟨tb, 0, none⟩) (x := 0) d0
  have hnot : ∀ (x : Bool) (w : World), (Op.unary .not (.bool x)).run Try.prog w = .ok (.bool (!x)) w := fun _ _ => rfl
  clear hb1
  go_enter_defers Try.func58, Try.ntmps58
  go_wp2_with (first | (go_at_call 65; refine (sy_lock ⟨tb, 1, none⟩ _ c1 f1).mono ?_; rintro e w' ⟨rfl, rfl⟩) | (with_reducible refine Calls.mono HF.out ?_; rintro e w' ⟨rfl, y3, y4, hb2, hq⟩) | go_in)
  refine leaves_cons (f := 67) (args := #[.pointer (some ⟨tb, 0, none⟩), .bool true]) (by simp) (by simp [go_sem]) ?_
  refine (sy_store ⟨tb, 0, none⟩ (.int .u32 0) .returning _ (box_cell hb2 rfl) (box_free hb2 0)).mono ?_
  rintro e u' w'' ⟨rfl, rfl, rfl⟩
  have hb3 := box_set (w := w'.drew) hb2 0 (.int .u32 1)
  refine leaves_cons (f := 66) (args := #[.pointer (some ⟨tb, 1, none⟩)]) (by simp [settle]) (by simp [go_sem]) ?_
  refine (sy_unlock ⟨tb, 1, none⟩ _ _ (box_cell hb3 rfl) (box_free hb3 1)).mono ?_
  rintro e u' w'' ⟨rfl, rfl, rfl⟩
  simp only [Leaves, settle]
  refine ⟨.tuple #[], by simp [results, Try.results58], rfl, y3, y4, _, hb2, hq, rfl⟩
set_option maxHeartbeats 1600000 in
/-- Do, the first time. -/
theorem do_first {w : World} {tb F : Nat} {caps : Array Value} {x3 x4 : Value} {Q : Value → Value → World → Prop} (hb : Box w tb (on5 (.int .u32 0) (.int .i32 0) (.int .u32 0) x3 x4) 78) (hE : ∀ args w, (callFunc F args).run Try.prog w = .ok (.enter F args) w)
    (hf : Calls Try.prog F caps (w.setCell ⟨tb, 1, none⟩ (.int .i32 1)) fun e w' => e = .returned (.tuple #[]) ∧ ∃ y3 y4, Box w' tb (on5 (.int .u32 0) (.int .i32 1) (.int .u32 0) y3 y4) 78 ∧ Q y3 y4 w') :
    Calls Try.prog 50 #[.pointer (some ⟨tb, 0, none⟩), .func (.func F) #[] caps] w fun e w'' => e = .returned (.tuple #[]) ∧ ∃ y3 y4 w', Box w' tb (on5 (.int .u32 0) (.int .i32 1) (.int .u32 0) y3 y4) 78 ∧ Q y3 y4 w' ∧ w'' = (w'.drew.setCell ⟨tb, 0, none⟩ (.int .u32 1)).setCell ⟨tb, 1, none⟩ (.int .i32 0) := by
  have HS := sy_slow hb hE hf
  have HS' : Hid (Calls Try.prog 58 #[.pointer (some ⟨tb, 0, none⟩), .func (.func F) #[] caps] w fun e w'' => e = .returned (.tuple #[]) ∧ ∃ y3 y4 w', Box w' tb (on5 (.int .u32 0) (.int .i32 1) (.int .u32 0) y3 y4) 78 ∧ Q y3 y4 w' ∧ w'' = (w'.drew.setCell ⟨tb, 0, none⟩ (.int .u32 1)).setCell ⟨tb, 1, none⟩ (.int .i32 0)) := HS
  clear HS hf
  have d0 : w.cell? ⟨tb, 0, none⟩ = some (.int .u32 0) := box_cell hb rfl
  have hl := run_call_load (P := Try.prog) Try.func64 (by kernel_rfl) (by kernel_rfl) (by kernel_rfl) .u32 (by kernel_rfl) d0
  have hnot : ∀ (x : Bool) (w : World), (Op.unary .not (.bool x)).run Try.prog w = .ok (.bool (!x)) w := fun _ _ => rfl
  go_enter Try.func50, Try.ntmps50
  go_wp2_with (first | (go_at_call 58; refine Calls.mono HS'.out ?_; rintro e w1 ⟨rfl, hq⟩) | go_in)
  go_end0
  exact ⟨rfl, hq⟩
/-- Do, later. -/
theorem do_later {w : World} {tb : Nat} (fv : Value) {m x2 x3 x4 : Value} (hb : Box w tb (on5 (.int .u32 1) m x2 x3 x4) 78) :
    Calls Try.prog 50 #[.pointer (some ⟨tb, 0, none⟩), fv] w fun e w' => e = .returned (.tuple #[]) ∧ w' = w := by
  have d0 : w.cell? ⟨tb, 0, none⟩ = some (.int .u32 1) := box_cell hb rfl
  have hl := run_call_load (P := Try.prog) Try.func64 (by kernel_rfl) (by kernel_rfl) (by kernel_rfl) .u32 (by kernel_rfl) d0
  have hnot : ∀ (x : Bool) (w : World), (Op.unary .not (.bool x)).run Try.prog w = .ok (.bool (!x)) w := fun _ _ => rfl
  go_enter Try.func50, Try.ntmps50
  go_wp2
  go_end0
  exact ⟨rfl, rfl⟩
end Go.Proofs.Ytfdlndljpmamgaa
