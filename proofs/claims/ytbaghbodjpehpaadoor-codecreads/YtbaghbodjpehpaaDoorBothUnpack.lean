/- Unpack and the document's Unpacked tell the same of every string. -/
import Derived.Test.YtbaghbodjpehpaaDoorUnpackedEnd
import Derived.Test.YtbaghbodjpehpaaDoorUnpack
namespace Go.Proofs.YtbaghbodjpehpaaDoor
open Go.RowKit Go.Maps

theorem pad_dec : ∀ c : Nat, c < 64 → ∀ D : Nat, D < 6 → (c % 2 ^ D = 0 ↔ ∀ t : Nat, t < D → decide (c / 2 ^ (D - 1 - t) % 2 = 1) = false) := by decide +kernel

theorem bitOf_last (s : ByteArray) (f n : Nat) {K X D : Nat} (hK : K + 1 = f + nby n) (hlt : K < s.size) (hX : s[K].toNat = X) (hD : D + prs n = 6 * nby n) (hD6 : D < 6) {t : Nat} (ht : t < D) : bitOf s f (prs n + t) = decide ((X - 63) / 2 ^ (D - 1 - t) % 2 = 1) := by
  unfold bitOf
  have e1 : f + (prs n + t) / 6 = K := by omega
  have e2 : 5 - (prs n + t) % 6 = D - 1 - t := by omega
  have hl : K < s.data.toList.length := by rw [Array.length_toList]; exact hlt
  have e3 : s.data.toList.getD K 0 = s[K] := by
    rw [List.getD_eq_getElem?_getD, List.getElem?_eq_getElem hl]
    rfl
  rw [e1, e2, e3, hX]

/-- No bit stands behind the pairs just if the last byte holds none there. -/
theorem pad_bits (s : ByteArray) (f n : Nat) {K X D : Nat} (hK : K + 1 = f + nby n) (hlt : K < s.size) (hX : s[K].toNat = X) (hx : X - 63 < 64) (hD : D + prs n = 6 * nby n) :
    (X - 63) % 2 ^ D = 0 ↔ ∀ q, prs n ≤ q → q < 6 * nby n → bitOf s f q = false := by
  have hD6 : D < 6 := by
    have : 6 * nby n ≤ prs n + 5 := by unfold nby; omega
    omega
  rw [pad_dec (X - 63) hx D hD6]
  constructor
  · intro h q h1 h2
    obtain ⟨t, rfl⟩ : ∃ t, q = prs n + t := ⟨q - prs n, by omega⟩
    rw [bitOf_last s f n hK hlt hX hD hD6 (by omega)]
    exact h t (by omega)
  · intro h t ht
    rw [← bitOf_last s f n hK hlt hX hD hD6 ht]
    exact h _ (by omega) (by omega)

/-- What the end of both rests on: the head has told N nodes and where the pairs begin. -/
theorem both_end (s : ByteArray) (h : s.size ≤ 20000) (hg : ∀ i (h : i < s.size), goodB s[i] = true) (N f : Nat) (hN : N ≤ 100) (hf : f ≤ 4) (hf1 : 1 ≤ f) (hfs : f ≤ s.size)
    (hS : ∀ w, Calls Tryd.prog 30 #[.string s] w fun e w' => e = .returned (.tuple #[.int .i64 N, .int .i64 f]) ∧ w' = w)
    (few : s.size < f + nby N → ∀ w, Tells 15 #[.string s] w ⟨0, [], 1, s.size⟩)
    (more : ∀ T, f + nby N = T ∧ T < s.size → ∀ w, Tells 15 #[.string s] w ⟨0, [], 1, T⟩)
    (just : s.size = f + nby N → ∀ A : Ans, ((∃ q, prs N ≤ q ∧ q < 6 * nby N ∧ bitOf s f q = true ∧ A = ⟨0, [], 7, (s.size : Int) - 1⟩) ∨ ((∀ q, prs N ≤ q → q < 6 * nby N → bitOf s f q = false) ∧ A = formS N (colsE (bitOf s f) N))) → ∀ w, Tells 15 #[.string s] w A) :
    ∃ A : Ans, (∀ w, Tells 13 #[.string s] w A) ∧ (∀ w, Tells 15 #[.string s] w A) ∧ (A.c = 0 → s.size = f + nby N ∧ (∀ q, prs N ≤ q → q < 6 * nby N → bitOf s f q = false) ∧ A = formS N (colsE (bitOf s f) N)) := by
  rcases Nat.lt_trichotomy s.size (f + nby N) with hlt | heq | hgt
  · refine ⟨_, fun w => unpack_pairs s w h hg N f hS 1 s.size (fun w => (checkPairs_few s N f w hN hf hlt).mono ?_), few hlt, fun h => absurd h (by simp)⟩
    rintro e w' ⟨rfl, rfl⟩
    exact ⟨rfl, Below.refl _ _⟩
  · obtain ⟨K, hK⟩ : ∃ K, K + 1 = f + nby N := ⟨f + nby N - 1, by omega⟩
    have hlt : K < s.size := by omega
    obtain ⟨g0, g1⟩ := (goodB_iff _).1 (hg K hlt)
    have hpn : prs N ≤ 6 * nby N := by unfold nby; omega
    obtain ⟨D, hD⟩ : ∃ D, D + prs N = 6 * nby N := ⟨6 * nby N - prs N, by omega⟩
    have hpad := pad_bits s f N hK hlt rfl (by omega) hD
    by_cases hz : (s[K].toNat - 63) % 2 ^ D = 0
    · refine ⟨_, fun w => unpack_ok s w h hg N f hN hf heq hS (fun w => checkPairs_just s N f w hN hf hf1 heq hK hlt rfl ⟨g0, g1⟩ hD (Or.inr ⟨hz, rfl⟩)), just heq _ (Or.inr ⟨hpad.1 hz, rfl⟩), fun _ => ⟨heq, hpad.1 hz, rfl⟩⟩
    · have hq : ∃ q, prs N ≤ q ∧ q < 6 * nby N ∧ bitOf s f q = true := by
        refine Classical.byContradiction fun hno => hz (hpad.2 fun q h1 h2 => ?_)
        cases e : bitOf s f q
        · rfl
        · exact absurd ⟨q, h1, h2, e⟩ hno
      obtain ⟨q, h1, h2, h3⟩ := hq
      refine ⟨_, fun w => unpack_pairs s w h hg N f hS 7 K (fun w => checkPairs_just s N f w hN hf hf1 heq hK hlt rfl ⟨g0, g1⟩ hD (Or.inl ⟨hz, rfl⟩)), ?_, fun h => absurd h (by simp)⟩
      have := just heq ⟨0, [], 7, (s.size : Int) - 1⟩ (Or.inl ⟨q, h1, h2, h3, rfl⟩)
      rw [show (s.size : Int) - 1 = (K : Int) by omega] at this
      exact this
  · refine ⟨_, fun w => unpack_pairs s w h hg N f hS 1 (f + nby N : Nat) (fun w => (checkPairs_more s N f w hN hf hgt).mono ?_), more _ ⟨rfl, hgt⟩, fun h => absurd h (by simp)⟩
    rintro e w' ⟨rfl, rfl⟩
    exact ⟨rfl, Below.refl _ _⟩

theorem first_bad (s : ByteArray) (h : ¬ ∀ i (h : i < s.size), goodB s[i] = true) : ∃ K, ∃ hlt : K < s.size, (∀ i (h : i < s.size), i < K → goodB s[i] = true) ∧ goodB s[K] = false := by
  have step : ∀ n, n ≤ s.size → (∀ i (h : i < s.size), i < n → goodB s[i] = true) ∨ ∃ K, ∃ hlt : K < s.size, (∀ i (h : i < s.size), i < K → goodB s[i] = true) ∧ goodB s[K] = false := by
    intro n
    induction n with
    | zero => intro _; exact Or.inl fun i _ h => absurd h (by omega)
    | succ n ih =>
      intro hn
      rcases ih (by omega) with h1 | h1
      · cases e : goodB s[n]
        · exact Or.inr ⟨n, by omega, h1, e⟩
        · refine Or.inl fun i hi hin => ?_
          by_cases e2 : i = n
          · subst e2; exact e
          · exact h1 i hi (by omega)
      · exact Or.inr h1
  rcases step s.size (Nat.le_refl _) with h1 | h1
  · exact absurd (fun i hi => h1 i hi hi) h
  · exact h1

/-- The head of a code that is read: the number of nodes and where the pairs begin. -/
def HeadAt (s : ByteArray) (N f : Nat) : Prop := (f = 1 ∧ ∃ x, ShortAt s x N) ∨ (f = 4 ∧ 63 ≤ N ∧ ∃ x y z, LongAt s x y z N)

theorem both_unpack (s : ByteArray) : ∃ A : Ans, (∀ w, Tells 13 #[.string s] w A) ∧ (∀ w, Tells 15 #[.string s] w A) ∧
    (A.c = 0 → s.size ≤ 20000 ∧ (∀ i (h : i < s.size), goodB s[i] = true) ∧ ∃ N f, N ≤ 100 ∧ HeadAt s N f ∧ s.size = f + nby N ∧ (∀ q, prs N ≤ q → q < 6 * nby N → bitOf s f q = false) ∧ A = formS N (colsE (bitOf s f) N)) := by
  by_cases h : 20000 < s.size
  · exact ⟨_, fun w => unpack_long s w h, fun w => unpacked_long s w h, fun h => absurd h (by simp)⟩
  have h' : s.size ≤ 20000 := by omega
  by_cases hg : ∀ i (h : i < s.size), goodB s[i] = true
  case neg =>
    obtain ⟨K, hlt, h1, h2⟩ := first_bad s hg
    exact ⟨_, fun w => unpack_byte s w h' K h1 hlt h2, fun w => unpacked_byte s w h' K h1 hlt h2, fun h => absurd h (by simp)⟩
  case pos =>
  by_cases h0 : s.size = 0
  · refine ⟨⟨0, [], 1, 0⟩, fun w => unpack_size s w h' hg 1 0 (fun w => unpackSize_nil s w h0), fun w => ?_, fun h => absurd h (by simp)⟩
    have := unpacked_nil s w h' hg h0
    rw [h0] at this
    exact this
  have hp : 0 < s.size := by omega
  obtain ⟨g0, g1⟩ := (goodB_iff _).1 (hg 0 hp)
  by_cases h126 : s[0].toNat = 126
  · by_cases h4 : s.size < 4
    · exact ⟨_, fun w => unpack_size s w h' hg 1 s.size (fun w => unpackSize_cut s w hp h4 h126), fun w => unpacked_cut s w h' hg hp h4 h126, fun h => absurd h (by simp)⟩
    have k4 : 4 ≤ s.size := by omega
    have b1 := (goodB_iff _).1 (hg 1 (by omega))
    have b2 := (goodB_iff _).1 (hg 2 (by omega))
    have b3 := (goodB_iff _).1 (hg 3 (by omega))
    obtain ⟨N, hNe⟩ : ∃ N, N = (s[1].toNat - 63) * 4096 + (s[2].toNat - 63) * 64 + (s[3].toNat - 63) := ⟨_, rfl⟩
    have hL : LongAt s s[1].toNat s[2].toNat s[3].toNat N := ⟨k4, h126, rfl, rfl, rfl, b1, b2, b3, hNe.symm⟩
    have hsz : sz s[1].toNat s[2].toNat s[3].toNat 3 = N := by
      rw [hNe]
      show ((s[1].toNat - 63) * 64 + (s[2].toNat - 63)) * 64 + (s[3].toNat - 63) = _
      omega
    by_cases hlow : N < 63
    · exact ⟨_, fun w => unpack_size s w h' hg 7 0 (fun w => unpackSize_long s w k4 h' h126 rfl rfl rfl b1 b2 b3 hsz (Or.inl ⟨hlow, rfl⟩)), fun w => unpacked_low s w h' hg hL hlow, fun h => absurd h (by simp)⟩
    by_cases hhi : 100 < N
    · exact ⟨_, fun w => unpack_size s w h' hg 2 0 (fun w => unpackSize_long s w k4 h' h126 rfl rfl rfl b1 b2 b3 hsz (Or.inr (Or.inl ⟨by omega, hhi, rfl⟩))), fun w => unpacked_many s w h' hg hL hhi, fun h => absurd h (by simp)⟩
    have hN : N ≤ 100 := by omega
    have h63 : 63 ≤ N := by omega
    obtain ⟨A, a1, a2, a3⟩ := both_end s h' hg N 4 hN (by omega) (by omega) k4 (fun w => unpackSize_long s w k4 h' h126 rfl rfl rfl b1 b2 b3 hsz (Or.inr (Or.inr ⟨h63, hN, rfl⟩)))
      (fun hc w => unpacked_few4 s w h' hg hL h63 hN hc) (fun T hc w => unpacked_more4 s w h' hg hL h63 hN hc) (fun hc A hE w => unpacked_end4 s w h' hg hL h63 hN hc hE)
    exact ⟨A, a1, a2, fun hc => ⟨h', hg, N, 4, hN, Or.inr ⟨rfl, h63, _, _, _, hL⟩, a3 hc⟩⟩
  · have hx : 63 ≤ s[0].toNat ∧ s[0].toNat ≤ 125 := by omega
    have hL : ShortAt s s[0].toNat (s[0].toNat - 63) := ⟨hp, rfl, hx, rfl⟩
    have hS := fun w => unpackSize_short s w hp hx.1 hx.2
    obtain ⟨N, hNe⟩ : ∃ N, N = s[0].toNat - 63 := ⟨_, rfl⟩
    rw [← hNe] at hL hS
    have hN : N ≤ 100 := by omega
    obtain ⟨A, a1, a2, a3⟩ := both_end s h' hg N 1 hN (by omega) (by omega) (by omega) hS
      (fun hc w => unpacked_few1 s w h' hg hL hN hc) (fun T hc w => unpacked_more1 s w h' hg hL hN hc) (fun hc A hE w => unpacked_end1 s w h' hg hL hN hc hE)
    exact ⟨A, a1, a2, fun hc => ⟨h', hg, N, 1, hN, Or.inl ⟨rfl, _, hL⟩, a3 hc⟩⟩
end Go.Proofs.YtbaghbodjpehpaaDoor
