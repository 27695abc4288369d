/- Lists of numbers that are copied; the fault that FlowTree reckons with. -/
import Derived.Test.YtkakmaalmhofmaaTreeK
import Derived.Test.YtkakmaalmhofmaaTreeOf
import Derived.Test.YtkakmaalmhofmaaRefCut
import Derived.Test.YtkakmaalmhofmaaBetween
import Derived.Test.YtkakmaalmhofmaaMostB
import Derived.Test.YtkakmaalmhofmaaSame
namespace Go.Proofs.Ytkakmaalmhofmaa
open Go.RowKit Go.Maps
attribute [local go_sem ↓] Go.wp_at_zero Go.wp_at_succ

theorem ints_news {w : World} {ad : Addr} {n cap : Nat} {l : List Int} (h : IntsAt w (.slice (some ad) n cap) l) : ∀ j u, (l.map (Value.int .i64))[j]? = some u → w.cell? (ad.add j) = some u := by
  obtain ⟨ao', cap', e, _, _, hc⟩ := h
  cases e
  intro j u hj
  rw [List.getElem?_map] at hj
  have hjl : j < l.length := by
    by_cases h : j < l.length
    · exact h
    · rw [List.getElem?_eq_none (by omega)] at hj; simp at hj
  rw [List.getElem?_eq_getElem hjl] at hj
  simp at hj
  subst hj
  obtain ⟨b, off, e, c⟩ := hc j hjl
  cases e
  rw [show (⟨b, off, none⟩ : Addr).add j = ⟨b, off + j, none⟩ from by unfold Addr.add; split <;> simp_all]
  exact c
theorem intsAt_own {w : World} {base : Nat} {v : Value} {l : List Int} (h : w.ownsRow base 3 1 v l.length (l.map (Value.int .i64))) (hI : ∀ x ∈ l, I64 x) (hl : l.length ≤ 17592186044416) : IntsAt w v l := by
  rcases h.2 with ⟨rfl, e⟩ | ⟨g, cap, cur, rfl, _⟩
  · exact ⟨none, 0, by rw [e], hl, hI, fun k hk => by omega⟩
  · refine ⟨_, cap, rfl, hl, hI, fun k hk => ⟨g, 0, rfl, ?_⟩⟩
    have := h.cells (g := g) rfl k (.int .i64 l[k]) (by simp [List.getElem?_eq_getElem hk])
    rw [add_none] at this
    simpa using this
theorem IntsAt.nums {w : World} {ao : Option Addr} {n cap : Nat} {l : List Int} (h : IntsAt w (.slice ao n cap) l) : NumsZ w ao l := fun k x hx => by
  obtain ⟨ao', cap', e, _, _, hc⟩ := h
  cases e
  obtain ⟨h1, h2⟩ := List.getElem?_eq_some_iff.1 hx
  obtain ⟨b, off, e, c⟩ := hc k h1
  exact ⟨b, off, e, by rw [← h2]; exact c⟩
/-- The law's own fault. -/
def treeF (n : Int) (es : List Pair) (ws : List Int) : Int × Int := if (chk n es).1 = 0 then wsF es.length ws else chk n es
end Go.Proofs.Ytkakmaalmhofmaa
