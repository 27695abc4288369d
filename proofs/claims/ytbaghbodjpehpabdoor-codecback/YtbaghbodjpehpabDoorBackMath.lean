/- The round trip of the codes, as mathematics and as contracts of Pack, Print, Unpack and Read. -/
import Derived.Test.YtbaghbodjpehpabDoorBackBits
import Derived.Test.YtbaghbodjpehpabDoorBackLine
import Derived.Test.YtbaghbodjpehpabDoorColsForm
import Derived.Test.YtbaghbodjpehpabDoorBegun
namespace Go.Proofs.YtbaghbodjpehpabDoor
open Go.RowKit Go.Maps

theorem pad_dec : ∀ c : Nat, c < 64 → ∀ D : Nat, D < 6 → (c % 2 ^ D = 0 ↔ ∀ t : Nat, t < D → decide (c / 2 ^ (D - 1 - t) % 2 = 1) = false) := by decide +kernel

theorem bitOf_last (s : ByteArray) (f n : Nat) {K X D : Nat} (hK : K + 1 = f + nby n) (hlt : K < s.size) (hX : s[K].toNat = X) (hD : D + prs n = 6 * nby n) (hD6 : D < 6) {t : Nat} (ht : t < D) : bitOf s f (prs n + t) = decide ((X - 63) / 2 ^ (D - 1 - t) % 2 = 1) := by
  unfold bitOf
  have e1 : f + (prs n + t) / 6 = K := by omega
  have e2 : 5 - (prs n + t) % 6 = D - 1 - t := by omega
  have hl : K < s.data.toList.length := by rw [Array.length_toList]; exact hlt
  have e3 : s.data.toList.getD K 0 = s[K] := by
    rw [List.getD_eq_getElem?_getD, List.getElem?_eq_getElem hl]
    rfl
  rw [e1, e2, e3, hX]

/-- No bit stands behind the pairs just if the last byte holds none there. -/
theorem pad_bits (s : ByteArray) (f n : Nat) {K X D : Nat} (hK : K + 1 = f + nby n) (hlt : K < s.size) (hX : s[K].toNat = X) (hx : X - 63 < 64) (hD : D + prs n = 6 * nby n) :
    (X - 63) % 2 ^ D = 0 ↔ ∀ q, prs n ≤ q → q < 6 * nby n → bitOf s f q = false := by
  have hD6 : D < 6 := by
    have : 6 * nby n ≤ prs n + 5 := by unfold nby; omega
    omega
  rw [pad_dec (X - 63) hx D hD6]
  constructor
  · intro h q h1 h2
    obtain ⟨t, rfl⟩ : ∃ t, q = prs n + t := ⟨q - prs n, by omega⟩
    rw [bitOf_last s f n hK hlt hX hD hD6 (by omega)]
    exact h t (by omega)
  · intro h t ht
    rw [← bitOf_last s f n hK hlt hX hD hD6 ht]
    exact h _ (by omega) (by omega)

theorem first_bad (s : ByteArray) (h : ¬ ∀ i (h : i < s.size), goodB s[i] = true) : ∃ K, ∃ hlt : K < s.size, (∀ i (h : i < s.size), i < K → goodB s[i] = true) ∧ goodB s[K] = false := by
  have step : ∀ n, n ≤ s.size → (∀ i (h : i < s.size), i < n → goodB s[i] = true) ∨ ∃ K, ∃ hlt : K < s.size, (∀ i (h : i < s.size), i < K → goodB s[i] = true) ∧ goodB s[K] = false := by
    intro n
    induction n with
    | zero => intro _; exact Or.inl fun i _ h => absurd h (by omega)
    | succ n ih =>
      intro hn
      rcases ih (by omega) with h1 | h1
      · cases e : goodB s[n]
        · exact Or.inr ⟨n, by omega, h1, e⟩
        · refine Or.inl fun i hi hin => ?_
          by_cases e2 : i = n
          · subst e2; exact e
          · exact h1 i hi (by omega)
      · exact Or.inr h1
  rcases step s.size (Nat.le_refl _) with h1 | h1
  · exact absurd (fun i hi => h1 i hi hi) h
  · exact h1

structure LongAt (s : ByteArray) (x y z N : Nat) : Prop where
  four : 4 ≤ s.size
  h0 : s[0].toNat = 126
  h1 : s[1].toNat = x
  h2 : s[2].toNat = y
  h3 : s[3].toNat = z
  bx : 63 ≤ x ∧ x ≤ 126
  by_ : 63 ≤ y ∧ y ≤ 126
  bz : 63 ≤ z ∧ z ≤ 126
  hN : (x - 63) * 4096 + (y - 63) * 64 + (z - 63) = N
structure ShortAt (s : ByteArray) (x N : Nat) : Prop where
  pos : 0 < s.size
  h0 : s[0].toNat = x
  bx : 63 ≤ x ∧ x ≤ 125
  hN : x - 63 = N
/-- The head of a code that is read: the number of nodes and where the pairs begin. -/
def HeadAt (s : ByteArray) (N f : Nat) : Prop := (f = 1 ∧ ∃ x, ShortAt s x N) ∨ (f = 4 ∧ 63 ≤ N ∧ ∃ x y z, LongAt s x y z N)

theorem head_calls {s : ByteArray} {N f : Nat} (h : HeadAt s N f) (hN : N ≤ 100) (hs : s.size ≤ 20000) (w : World) : Calls Tryd.prog 18 #[.string s] w fun e w' => e = .returned (.tuple #[.int .i64 N, .int .i64 f]) ∧ w' = w := by
  rcases h with ⟨rfl, x, hx⟩ | ⟨rfl, h63, x, y, z, hx⟩
  · have hp := hx.pos
    have h1 : 63 ≤ s[0].toNat := by rw [hx.h0]; exact hx.bx.1
    have h2 : s[0].toNat ≤ 125 := by rw [hx.h0]; exact hx.bx.2
    have := unpackSize_short s w hx.pos h1 h2
    rw [hx.h0, hx.hN] at this
    exact this
  · refine unpackSize_long s w hx.four hs hx.h0 hx.h1 hx.h2 hx.h3 hx.bx hx.by_ hx.bz ?_ (Or.inr (Or.inr ⟨h63, hN, rfl⟩))
    have := hx.hN
    show ((x - 63) * 64 + (y - 63)) * 64 + (z - 63) = N
    omega

/-- Where the head is told and no bit stands behind the pairs, Unpack tells the graph of the bits. -/
theorem unpack_just (s : ByteArray) (h : s.size ≤ 20000) (hg : ∀ i (h : i < s.size), goodB s[i] = true) (N f : Nat) (hN : N ≤ 100) (hH : HeadAt s N f) (heq : s.size = f + nby N) (hpad0 : ∀ q, prs N ≤ q → q < 6 * nby N → bitOf s f q = false) (w : World) :
    Tells 7 #[.string s] w (formS N (colsE (bitOf s f) N)) := by
  have hf : f ≤ 4 ∧ 1 ≤ f := by rcases hH with ⟨rfl, _⟩ | ⟨rfl, _⟩ <;> omega
  obtain ⟨K, hK⟩ : ∃ K, K + 1 = f + nby N := ⟨f + nby N - 1, by omega⟩
  have hlt : K < s.size := by omega
  obtain ⟨g0, g1⟩ := (goodB_iff _).1 (hg K hlt)
  have hpn : prs N ≤ 6 * nby N := by unfold nby; omega
  obtain ⟨D, hD⟩ : ∃ D, D + prs N = 6 * nby N := ⟨6 * nby N - prs N, by omega⟩
  have hz := (pad_bits s f N hK hlt rfl (by omega) hD).2 hpad0
  exact unpack_ok s w h hg N f hN hf.1 heq (head_calls hH hN h) (fun w => checkPairs_just s N f w hN hf.1 hf.2 heq hK hlt rfl ⟨g0, g1⟩ hD (Or.inr ⟨hz, rfl⟩))

theorem one_end (s : ByteArray) (h : s.size ≤ 20000) (hg : ∀ i (h : i < s.size), goodB s[i] = true) (N f : Nat) (hN : N ≤ 100) (hH : HeadAt s N f) :
    ∃ A : Ans, (∀ w, Tells 7 #[.string s] w A) ∧ (A.c = 0 → s.size = f + nby N ∧ (∀ q, prs N ≤ q → q < 6 * nby N → bitOf s f q = false) ∧ A = formS N (colsE (bitOf s f) N)) := by
  have hf : f ≤ 4 ∧ 1 ≤ f := by rcases hH with ⟨rfl, _⟩ | ⟨rfl, _⟩ <;> omega
  have hS := head_calls hH hN h
  rcases Nat.lt_trichotomy s.size (f + nby N) with hlt | heq | hgt
  · refine ⟨_, fun w => unpack_pairs s w h hg N f hS 1 s.size (fun w => (checkPairs_few s N f w hN hf.1 hlt).mono ?_), fun h => absurd h (by simp)⟩
    rintro e w' ⟨rfl, rfl⟩
    exact ⟨rfl, Below.refl _ _⟩
  · by_cases hpad0 : ∀ q, prs N ≤ q → q < 6 * nby N → bitOf s f q = false
    · exact ⟨_, unpack_just s h hg N f hN hH heq hpad0, fun _ => ⟨heq, hpad0, rfl⟩⟩
    · obtain ⟨K, hK⟩ : ∃ K, K + 1 = f + nby N := ⟨f + nby N - 1, by omega⟩
      have hlt : K < s.size := by omega
      obtain ⟨g0, g1⟩ := (goodB_iff _).1 (hg K hlt)
      have hpn : prs N ≤ 6 * nby N := by unfold nby; omega
      obtain ⟨D, hD⟩ : ∃ D, D + prs N = 6 * nby N := ⟨6 * nby N - prs N, by omega⟩
      have hz : (s[K].toNat - 63) % 2 ^ D ≠ 0 := fun hz => hpad0 ((pad_bits s f N hK hlt rfl (by omega) hD).1 hz)
      exact ⟨_, fun w => unpack_pairs s w h hg N f hS 7 K (fun w => checkPairs_just s N f w hN hf.1 hf.2 heq hK hlt rfl ⟨g0, g1⟩ hD (Or.inl ⟨hz, rfl⟩)), fun h => absurd h (by simp)⟩
  · refine ⟨_, fun w => unpack_pairs s w h hg N f hS 1 (f + nby N : Nat) (fun w => (checkPairs_more s N f w hN hf.1 hgt).mono ?_), fun h => absurd h (by simp)⟩
    rintro e w' ⟨rfl, rfl⟩
    exact ⟨rfl, Below.refl _ _⟩

theorem one_unpack (s : ByteArray) : ∃ A : Ans, (∀ w, Tells 7 #[.string s] w A) ∧
    (A.c = 0 → s.size ≤ 20000 ∧ (∀ i (h : i < s.size), goodB s[i] = true) ∧ ∃ N f, N ≤ 100 ∧ HeadAt s N f ∧ s.size = f + nby N ∧ (∀ q, prs N ≤ q → q < 6 * nby N → bitOf s f q = false) ∧ A = formS N (colsE (bitOf s f) N)) := by
  by_cases h : 20000 < s.size
  · exact ⟨_, fun w => unpack_long s w h, fun h => absurd h (by simp)⟩
  have h' : s.size ≤ 20000 := by omega
  by_cases hg : ∀ i (h : i < s.size), goodB s[i] = true
  case neg =>
    obtain ⟨K, hlt, h1, h2⟩ := first_bad s hg
    exact ⟨_, fun w => unpack_byte s w h' K h1 hlt h2, fun h => absurd h (by simp)⟩
  case pos =>
  by_cases h0 : s.size = 0
  · exact ⟨⟨0, [], 1, 0⟩, fun w => unpack_size s w h' hg 1 0 (fun w => unpackSize_nil s w h0), fun h => absurd h (by simp)⟩
  have hp : 0 < s.size := by omega
  obtain ⟨g0, g1⟩ := (goodB_iff _).1 (hg 0 hp)
  by_cases h126 : s[0].toNat = 126
  · by_cases h4 : s.size < 4
    · exact ⟨_, fun w => unpack_size s w h' hg 1 s.size (fun w => unpackSize_cut s w hp h4 h126), fun h => absurd h (by simp)⟩
    have k4 : 4 ≤ s.size := by omega
    have b1 := (goodB_iff _).1 (hg 1 (by omega))
    have b2 := (goodB_iff _).1 (hg 2 (by omega))
    have b3 := (goodB_iff _).1 (hg 3 (by omega))
    obtain ⟨N, hNe⟩ : ∃ N, N = (s[1].toNat - 63) * 4096 + (s[2].toNat - 63) * 64 + (s[3].toNat - 63) := ⟨_, rfl⟩
    have hL : LongAt s s[1].toNat s[2].toNat s[3].toNat N := ⟨k4, h126, rfl, rfl, rfl, b1, b2, b3, hNe.symm⟩
    have hsz : sz s[1].toNat s[2].toNat s[3].toNat 3 = N := by
      rw [hNe]
      show ((s[1].toNat - 63) * 64 + (s[2].toNat - 63)) * 64 + (s[3].toNat - 63) = _
      omega
    by_cases hlow : N < 63
    · exact ⟨_, fun w => unpack_size s w h' hg 7 0 (fun w => unpackSize_long s w k4 h' h126 rfl rfl rfl b1 b2 b3 hsz (Or.inl ⟨hlow, rfl⟩)), fun h => absurd h (by simp)⟩
    by_cases hhi : 100 < N
    · exact ⟨_, fun w => unpack_size s w h' hg 2 0 (fun w => unpackSize_long s w k4 h' h126 rfl rfl rfl b1 b2 b3 hsz (Or.inr (Or.inl ⟨by omega, hhi, rfl⟩))), fun h => absurd h (by simp)⟩
    have hN : N ≤ 100 := by omega
    have h63 : 63 ≤ N := by omega
    have hH : HeadAt s N 4 := Or.inr ⟨rfl, h63, _, _, _, hL⟩
    obtain ⟨A, a1, a3⟩ := one_end s h' hg N 4 hN hH
    exact ⟨A, a1, fun hc => ⟨h', hg, N, 4, hN, hH, a3 hc⟩⟩
  · have hx : 63 ≤ s[0].toNat ∧ s[0].toNat ≤ 125 := by omega
    have hL : ShortAt s s[0].toNat (s[0].toNat - 63) := ⟨hp, rfl, hx, rfl⟩
    obtain ⟨N, hNe⟩ : ∃ N, N = s[0].toNat - 63 := ⟨_, rfl⟩
    rw [← hNe] at hL
    have hN : N ≤ 100 := by omega
    have hH : HeadAt s N 1 := Or.inl ⟨rfl, _, hL⟩
    obtain ⟨A, a1, a3⟩ := one_end s h' hg N 1 hN hH
    exact ⟨A, a1, fun hc => ⟨h', hg, N, 1, hN, hH, a3 hc⟩⟩

theorem u8_eq {x : UInt8} {n : Nat} (h : x.toNat = n) : x = UInt8.ofNat n := by
  apply UInt8.toNat_inj.1
  rw [UInt8.toNat_ofNat', h]
  have := x.toNat_lt
  omega

/-- The head of a code that is read is the head that Pack writes. -/
theorem head_back {s : ByteArray} {N f : Nat} (h : HeadAt s N f) (hN : N ≤ 100) : f = (headB N).length ∧ ∀ i, i < f → s.data.toList.getD i 0 = UInt8.ofNat ((headB N).getD i 0).toNat := by
  rcases h with ⟨rfl, x, hx⟩ | ⟨rfl, h63, x, y, z, hx⟩
  · have h1 := hx.bx
    have h2 := hx.hN
    have hle : N ≤ 62 := by omega
    have hh : headB N = [63 + (N : Int)] := by unfold headB; rw [if_pos hle]
    rw [hh]
    refine ⟨rfl, fun i hi => ?_⟩
    obtain rfl : i = 0 := by omega
    rw [← get_list s 0 hx.pos]
    refine u8_eq ?_
    rw [hx.h0]
    show x = (63 + (N : Int)).toNat
    omega
  · have h1 := hx.bx
    have h2 := hx.by_
    have h3 := hx.bz
    have h4 := hx.hN
    have hle : ¬ N ≤ 62 := by omega
    have hh : headB N = [126, 63 + (N : Int) / 4096, 63 + (N : Int) / 64 % 64, 63 + (N : Int) % 64] := by unfold headB; rw [if_neg hle]
    have hfour := hx.four
    rw [hh]
    refine ⟨rfl, fun i hi => ?_⟩
    match i, hi with
    | 0, _ => rw [← get_list s 0 (by omega)]; exact u8_eq hx.h0
    | 1, _ =>
      rw [← get_list s 1 (by omega)]
      refine u8_eq ?_
      rw [hx.h1]
      show x = (63 + (N : Int) / 4096).toNat
      omega
    | 2, _ =>
      rw [← get_list s 2 (by omega)]
      refine u8_eq ?_
      rw [hx.h2]
      show y = (63 + (N : Int) / 64 % 64).toNat
      omega
    | 3, _ =>
      rw [← get_list s 3 (by omega)]
      refine u8_eq ?_
      rw [hx.h3]
      show z = (63 + (N : Int) % 64).toNat
      omega

/-- The head that Pack writes. -/
theorem head_pack (m : Nat) (p : Int → Int → Bool) (hm : m ≤ 100) : HeadAt (strOfNums (packB m p)) m (headB m).length := by
  have hsz := packS_size m p
  have hb : ∀ i (hi : i < (headB m).length) (h : i < (strOfNums (packB m p)).size), (strOfNums (packB m p))[i].toNat = ((headB m)[i]).toNat := fun i hi h => by
    obtain ⟨hl, e⟩ := str_get _ i h
    have e2 : (packB m p)[i] = (headB m)[i] := by
      simp only [packB]
      exact List.getElem_append_left hi
    have hg := head_good m hm _ (List.getElem_mem hi)
    rw [e, e2, u8_nat (by omega) (by omega)]
  generalize strOfNums (packB m p) = s at hsz hb
  by_cases h62 : m ≤ 62
  · have hh : headB m = [63 + (m : Int)] := by unfold headB; rw [if_pos h62]
    simp only [hh] at hb hsz ⊢
    refine Or.inl ⟨rfl, 63 + m, ?_, ?_, by omega, by omega⟩
    · rw [hsz]; simp; omega
    · rw [hb 0 (by simp) (by rw [hsz]; simp; omega)]
      show (63 + (m : Int)).toNat = 63 + m
      omega
  · have hh : headB m = [126, 63 + (m : Int) / 4096, 63 + (m : Int) / 64 % 64, 63 + (m : Int) % 64] := by unfold headB; rw [if_neg h62]
    simp only [hh] at hb hsz ⊢
    have h4 : 4 ≤ s.size := by rw [hsz]; simp
    refine Or.inr ⟨rfl, by omega, 63 + m / 4096, 63 + m / 64 % 64, 63 + m % 64, h4, ?_, ?_, ?_, ?_, by omega, by omega, by omega, by omega⟩
    · rw [hb 0 (by simp) (by omega)]; rfl
    · rw [hb 1 (by simp) (by omega)]
      show (63 + (m : Int) / 4096).toNat = _
      omega
    · rw [hb 2 (by simp) (by omega)]
      show (63 + (m : Int) / 64 % 64).toNat = _
      omega
    · rw [hb 3 (by simp) (by omega)]
      show (63 + (m : Int) % 64).toNat = _
      omega

def nrm (e : Pair) : Pair := (min e.1 e.2, max e.1 e.2)
theorem chkFrom_nrm {n : Int} : ∀ (es pre : List Pair), (chkFrom n pre es).1 = 0 → (es.map nrm).Nodup ∧ ∀ e ∈ es, hasB pre e.1 e.2 = false
  | [], _, _ => ⟨List.nodup_nil, fun e h => by cases h⟩
  | (a, b) :: r, pre, h => by
    rw [chkFrom] at h
    by_cases hb : bad n pre (a, b) = 0
    · rw [if_pos hb] at h
      obtain ⟨h1, h2⟩ := chkFrom_nrm r _ h
      obtain ⟨_, _, h3⟩ := bad_zero hb
      refine ⟨?_, fun e he => ?_⟩
      · rw [List.map_cons, List.nodup_cons]
        refine ⟨fun hm => ?_, h1⟩
        obtain ⟨f, hf, hfe⟩ := List.mem_map.1 hm
        have := h2 f hf
        rw [hasB_snoc, Bool.or_eq_false_iff] at this
        have h4 := this.2
        rw [Bool.eq_false_iff] at h4
        apply h4
        have e1 : min f.1 f.2 = min a b := congrArg Prod.fst hfe
        have e2 : max f.1 f.2 = max a b := congrArg Prod.snd hfe
        simp
        omega
      · rcases List.mem_cons.1 he with rfl | he
        · exact h3
        · have := h2 e he
          rw [hasB_snoc, Bool.or_eq_false_iff] at this
          exact this.1
    · rw [if_neg hb] at h
      exact absurd h hb
theorem hasB_nrm (es : List Pair) : hasB (es.map nrm) = hasB es := by
  funext u v
  unfold hasB
  rw [List.any_map]
  congr 1
  funext e
  rw [Function.comp, Bool.eq_iff_iff]
  simp [nrm]
  omega
theorem good_nrm {m : Nat} {es : List Pair} (h : (chk m es).1 = 0) : Good m (es.map nrm) := by
  obtain ⟨_, _, _, _, hr⟩ := chk_good h
  refine ⟨fun e he => ?_, ?_⟩
  · obtain ⟨f, hf, rfl⟩ := List.mem_map.1 he
    have := hr f hf
    simp only [nrm]
    omega
  · unfold chk at h
    split at h
    · cases h
    · exact (chkFrom_nrm es [] h).1
theorem allP_len {m : Nat} {es : List Pair} (h : (chk m es).1 = 0) : (allP m (hasB es)).length = es.length := by
  have := (good_nrm h).len
  rw [hasB_nrm, List.length_map] at this
  exact this
theorem allP_good (m : Nat) (p : Int → Int → Bool) : Good m (allP m p) := by
  refine ⟨fun e he => ?_, allP_nodup m p⟩
  obtain ⟨a, b, h1, h2, _, rfl⟩ := allP_mem.1 he
  simp
  omega
theorem hasB_allP {m : Nat} {p : Int → Int → Bool} {u v : Nat} (huv : u < v) (hv : v < m) : hasB (allP m p) u v = p u v := by
  rw [Bool.eq_iff_iff, has_up (allP_good m p).up (by omega), allP_mem]
  constructor
  · rintro ⟨a, b, _, _, h3, e⟩
    have e1 : (u : Int) = a := congrArg Prod.fst e
    have e2 : (v : Int) = b := congrArg Prod.snd e
    have e3 : u = a := by omega
    have e4 : v = b := by omega
    rw [e3, e4]; exact h3
  · intro h; exact ⟨u, v, huv, hv, h, rfl⟩

/-- What Pack writes of a graph is read as the graph in form. -/
theorem unpack_packed {m : Nat} {es : List Pair} (h : (chk m es).1 = 0) (w : World) : Tells 7 #[.string (strOfNums (packB m (hasB es)))] w ⟨m, allP m (hasB es), 0, 0⟩ := by
  obtain ⟨_, _, hm, hl, _⟩ := chk_good h
  have hm' : m ≤ 100 := by omega
  have hsz := packS_size m (hasB es)
  have hh := headB_pos m
  have hn := nby_le m hm'
  have := unpack_just _ (by omega) (pack_goodB m (hasB es) hm') m _ hm' (head_pack m (hasB es) hm') hsz (pack_pad m (hasB es)) w
  rw [formS_cols _ m hm' (hasB es) (fun u v h1 h2 => (pack_bit_at m (hasB es) h1 h2).symm), if_neg (by rw [allP_len h]; omega)] at this
  exact this

/-- What Print writes of a graph is read as the graph in form. -/
theorem readS_printed {m : Nat} {es : List Pair} (h : (chk m es).1 = 0) : readS (strB (lineB m (allP m (hasB es)))) = ⟨m, allP m (hasB es), 0, 0⟩ := by
  obtain ⟨_, _, hm, hl, _⟩ := chk_good h
  have hm' : m ≤ 100 := by omega
  have hlen := allP_len h
  rw [readS_line m _ hm' (by omega) (fun e he => by have := allP_in he; omega)]
  have hc := (allP_good m (hasB es)).chk hm' (by omega)
  rw [formS_good (by rw [hc])]
  congr 1
  exact allP_congr fun u v h1 h2 => hasB_allP h1 h2

/-- A code that is read: Pack writes it of what Unpack tells. -/
theorem code_back {s : ByteArray} {A : Ans} (hA : s.size ≤ 20000 ∧ (∀ i (h : i < s.size), goodB s[i] = true) ∧ ∃ N f, N ≤ 100 ∧ HeadAt s N f ∧ s.size = f + nby N ∧ (∀ q, prs N ≤ q → q < 6 * nby N → bitOf s f q = false) ∧ A = formS N (colsE (bitOf s f) N)) (hc : A.c = 0) :
    A.pos = 0 ∧ ∃ N : Nat, A.n = N ∧ (chk N A.es).1 = 0 ∧ strOfNums (packB N (hasB A.es)) = s := by
  obtain ⟨h, hg, N, f, hN, hH, hsz, hpad, rfl⟩ := hA
  obtain ⟨q, hq⟩ : ∃ q : Int → Int → Bool, q = fun u v => bitOf s f (plc u.toNat v.toNat) := ⟨_, rfl⟩
  have hform := formS_cols (bitOf s f) N hN q (fun u v _ _ => by rw [hq]; rfl)
  obtain ⟨hf1, hf2⟩ := head_back hH hN
  by_cases hmany : 1000 < (allP N q).length
  · rw [hform, if_pos hmany] at hc
    cases hc
  · rw [hform, if_neg hmany]
    refine ⟨rfl, N, rfl, ?_, ?_⟩
    · rw [(allP_good N q).chk hN (by omega)]
    · refine pack_back hsz hf1 hf2 hg hpad (fun i j h1 h2 => ?_)
      rw [hasB_allP h1 h2, hq]
      rfl
end Go.Proofs.YtbaghbodjpehpabDoor
