/- The law's switch: kind 4 of a step. -/
import Derived.Test.YtfdlndljpmamgaaSwD
namespace Go.Proofs.Ytfdlndljpmamgaa
set_option maxRecDepth 8000
open Go.RowKit Go.Maps
attribute [local go_sem ↓] Go.wp_at_zero Go.wp_at_succ
set_option maxHeartbeats 4000000 in
theorem sw4 {Q : Exit → Act → World → Prop} {w W2 : World} {bh bd k b6 b9 b10 i : Nat} {p : Nat → Hp} {b : Nat → Nat} {v : Nat → Value} {ds : Nat → List Dd} {sh sk : Int} {sa sb : ByteArray} {u0 u1 u2 u5 u11 u12 u13 u14 u15 u16 u17 u18 u19 u20 u21 u22 u23 u24 u25 u26 u27 u28 u29 u30 u31 u32 u33 u34 u35 u36 u37 u38 u39 u40 u41 u42 u43 u44 u45 u46 u47 u48 u49 u50 u51 u52 u54 u55 u56 u57 u58 u59 u60 u61 u62 u63 u64 u65 u66 u67 u68 u69 u70 u71 u72 u73 u74 u75 u76 u77 u78 u79 u80 u81 u82 u83 u84 u85 u86 u87 u88 u89 u90 u91 u92 u93 u94 u95 u96 u97 u98 u99 u100 u101 u102 u103 u104 u105 u106 u107 u108 u109 u110 u111 u112 u113 u114 u115 u116 u117 u118 u119 u120 u121 u122 u123 u124 u125 u126 u127 u128 u129 u130 u131 u132 u133 u134 u135 u136 u137 u138 u139 u140 u141 u142 u143 u144 u145 u146 u147 u148 u149 u150 u151 u152 u153 u154 u155 u156 u157 u158 u159 u160 u161 u162 u163 u164 u165 u166 u167 u168 u169 u170 u171 u172 u173 u174 u175 u176 u177 u178 u179 u180 u181 u182 u183 u184 u185 u186 u187 u188 u189 u190 u191 u192 u193 u194 u195 u196 u197 u198 u199 u200 u201 u202 u203 u204 u205 u206 u207 u208 u209 u210 u211 u212 u213 u214 u215 u216 u217 u218 u219 u220 u221 u222 u223 u224 u225 u226 u227 u228 u229 u230 u231 u232 u233 u234 u235 u236 u237 u238 u239 u240 u241 u242 u243 u244 u245 u246 u247 u248 u249 u250 u251 u252 u253 u254 u255 u256 u257 u258 u259 u260 u261 u262 u263 u264 u265 u266 u267 u268 u269 u270 u271 u272 u273 u274 u275 u276 u277 u278 u279 u280 u281 u282 u283 u284 u285 u286 u287 : Value}
    (h3 : LI w W2 bh bd k p b v ds ds) (hS5 : Box W2 b6 #[.int .i64 sh, .int .i64 sk, .string sa, .string sb] 29) (t9 : Two W2 b9 (.int .i64 0) (.int .i64 0) 31) (t10 : Two W2 b10 (.int .i64 0) (.int .i64 0) 31)
    (hk : k < 200) (hi : i < 2) (hne : b9 ≠ b10) (hlo9 : w.heap.size ≤ b9) (hlo10 : w.heap.size ≤ b10) (hsa : sa.size ≤ maxLen) (hsb : sb.size ≤ maxLen) (hk0 : ¬ sk = 0) (hk1 : ¬ sk = 1) (hk2 : ¬ sk = 2) (hk3 : ¬ sk = 3)
    (hend : ∀ (x11 x12 x13 x14 x15 x16 x17 x18 x35 x36 x37 x38 x39 x40 x41 x42 x43 x44 x45 x46 x47 x48 x49 x50 x51 x52 x53 x54 x55 x56 x57 x58 x59 x60 x61 x62 x63 x64 x65 x66 x67 x68 x69 x70 x71 x72 x73 x74 x75 x76 x77 x78 x79 x80 x81 x82 x83 x84 x85 x86 x87 x88 x89 x90 x91 x92 x93 x94 x95 x96 x97 x98 x99 x100 x101 x102 x103 x104 x105 x106 x107 x108 x109 x110 x111 x112 x113 x114 x115 x116 x117 x118 x119 x120 x121 x122 x123 x124 x125 x126 x127 x128 x129 x130 x131 x132 x133 x134 x135 x136 x137 x138 x139 x140 x141 x142 x143 x144 x145 x146 x147 x148 x149 x150 x151 x152 x153 x154 x155 x156 x157 x158 x159 x160 x161 x162 x163 x164 x165 x166 x167 x168 x169 x170 x171 x172 x173 x174 x175 x176 x177 x178 x179 x180 x181 x182 x183 x184 x185 x186 x187 x188 x189 x190 x191 x192 x193 x194 x195 x196 x197 x198 x199 x200 x201 x202 x203 x204 x205 x206 x207 x208 x209 x210 x211 x212 x213 x214 x215 x216 x217 x218 x219 x220 x221 x222 x223 x224 x225 x226 x227 x228 x229 x230 x231 x232 x233 x234 x235 x236 x237 x238 x239 x240 x241 x242 x243 x244 x245 x246 x247 x248 x249 x250 x251 x252 x253 x254 x255 x256 x257 x258 x259 x260 x261 x262 x263 x264 x265 x266 x267 x268 x269 x270 x271 x272 x273 x274 x275 x276 x277 x278 x279 x280 x281 x282 x283 x284 x285 x286 x287 : Value) (wd : World), Hid (Fin w bh bd (k + 1) b b9 b10 wd) → Q .normal { tmps := #[u0, u1, u2, .slice (some ⟨bh, 0, none⟩) 2 2, .slice (some ⟨bd, 0, none⟩) 2 2, u5, .pointer (some ⟨b6, 0, none⟩), .int .i64 (i : Int), ptr (b i), .pointer (some ⟨b9, 0, none⟩), .pointer (some ⟨b10, 0, none⟩), x11, x12, x13, x14, x15, x16, x17, x18, u19, u20, u21, u22, u23, u24, u25, u26, u27, u28, u29, u30, u31, u32, u33, u34, x35, x36, x37, x38, x39, x40, x41, x42, x43, x44, x45, x46, x47, x48, x49, x50, x51, x52, x53, x54, x55, x56, x57, x58, x59, x60, x61, x62, x63, x64, x65, x66, x67, x68, x69, x70, x71, x72, x73, x74, x75, x76, x77, x78, x79, x80, x81, x82, x83, x84, x85, x86, x87, x88, x89, x90, x91, x92, x93, x94, x95, x96, x97, x98, x99, x100, x101, x102, x103, x104, x105, x106, x107, x108, x109, x110, x111, x112, x113, x114, x115, x116, x117, x118, x119, x120, x121, x122, x123, x124, x125, x126, x127, x128, x129, x130, x131, x132, x133, x134, x135, x136, x137, x138, x139, x140, x141, x142, x143, x144, x145, x146, x147, x148, x149, x150, x151, x152, x153, x154, x155, x156, x157, x158, x159, x160, x161, x162, x163, x164, x165, x166, x167, x168, x169, x170, x171, x172, x173, x174, x175, x176, x177, x178, x179, x180, x181, x182, x183, x184, x185, x186, x187, x188, x189, x190, x191, x192, x193, x194, x195, x196, x197, x198, x199, x200, x201, x202, x203, x204, x205, x206, x207, x208, x209, x210, x211, x212, x213, x214, x215, x216, x217, x218, x219, x220, x221, x222, x223, x224, x225, x226, x227, x228, x229, x230, x231, x232, x233, x234, x235, x236, x237, x238, x239, x240, x241, x242, x243, x244, x245, x246, x247, x248, x249, x250, x251, x252, x253, x254, x255, x256, x257, x258, x259, x260, x261, x262, x263, x264, x265, x266, x267, x268, x269, x270, x271, x272, x273, x274, x275, x276, x277, x278, x279, x280, x281, x282, x283, x284, x285, x286, x287], defers := [] } wd) :
    (swOf Try.f3).wp Try.prog Q { tmps := #[u0, u1, u2, .slice (some ⟨bh, 0, none⟩) 2 2, .slice (some ⟨bd, 0, none⟩) 2 2, u5, .pointer (some ⟨b6, 0, none⟩), .int .i64 (i : Int), ptr (b i), .pointer (some ⟨b9, 0, none⟩), .pointer (some ⟨b10, 0, none⟩), u11, u12, u13, u14, u15, u16, u17, u18, u19, u20, u21, u22, u23, u24, u25, u26, u27, u28, u29, u30, u31, u32, u33, u34, u35, u36, u37, u38, u39, u40, u41, u42, u43, u44, u45, u46, u47, u48, u49, u50, u51, u52, .int .i64 sk, u54, u55, u56, u57, u58, u59, u60, u61, u62, u63, u64, u65, u66, u67, u68, u69, u70, u71, u72, u73, u74, u75, u76, u77, u78, u79, u80, u81, u82, u83, u84, u85, u86, u87, u88, u89, u90, u91, u92, u93, u94, u95, u96, u97, u98, u99, u100, u101, u102, u103, u104, u105, u106, u107, u108, u109, u110, u111, u112, u113, u114, u115, u116, u117, u118, u119, u120, u121, u122, u123, u124, u125, u126, u127, u128, u129, u130, u131, u132, u133, u134, u135, u136, u137, u138, u139, u140, u141, u142, u143, u144, u145, u146, u147, u148, u149, u150, u151, u152, u153, u154, u155, u156, u157, u158, u159, u160, u161, u162, u163, u164, u165, u166, u167, u168, u169, u170, u171, u172, u173, u174, u175, u176, u177, u178, u179, u180, u181, u182, u183, u184, u185, u186, u187, u188, u189, u190, u191, u192, u193, u194, u195, u196, u197, u198, u199, u200, u201, u202, u203, u204, u205, u206, u207, u208, u209, u210, u211, u212, u213, u214, u215, u216, u217, u218, u219, u220, u221, u222, u223, u224, u225, u226, u227, u228, u229, u230, u231, u232, u233, u234, u235, u236, u237, u238, u239, u240, u241, u242, u243, u244, u245, u246, u247, u248, u249, u250, u251, u252, u253, u254, u255, u256, u257, u258, u259, u260, u261, u262, u263, u264, u265, u266, u267, u268, u269, u270, u271, u272, u273, u274, u275, u276, u277, u278, u279, u280, u281, u282, u283, u284, u285, u286, u287], defers := [] } W2 := by
  have H3 := hid h3
  have HS5 := hid hS5
  have T9 := hid t9
  have T10 := hid t10
  have HE := hid hend
  have HKL := hid hk
  have s1 := box_cell (i := 1) hS5 rfl
  have s2 := box_cell (i := 2) hS5 rfl
  have s3 := box_cell (i := 3) hS5 rfl
  clear h3 hS5 t9 t10 hend hk
  simp only [swOf, roundOf, seqL, seqR, inBlk, inLoop, bodyOf, Try.f3]
  have n1 : (0 : Int) ≤ (i : Int) := by omega
  have n2 : (i : Int) < 2 := by omega
  obtain ⟨L, E, K, n, hH, hD, hn⟩ := (H3.out.ho i hi).house
  have hlen := (H3.out.ho i hi).lenH
  have hZ := HKL.out
  have HLEN : Hid ((ds i).length ≤ 200) := by show _ ≤ _; omega
  have HCB := hid (built_own hD HLEN.out (d_own (H3.out.ho i hi).row))
  have e5 := H3.out.cellD hi
  have HD := hid hD
  have HH := hid (And.intro hH hn)
  have hb9 := lt_of_block T9.out
  have HB9 := hid hb9
  have HIX : Hid (i < 2) := hi
  clear hH hn hD hlen hZ hb9 hi
  go_upto_region 16 with (first | (go_at_call 12; refine Calls.mono HCB.out ?_; rintro e w4 ⟨ev, nv, rfl, hEv, hNv, hB4, hEl⟩; dsimp only; obtain ⟨eo, ec, hev⟩ := hEv.form; subst hev; have HEV := hid hEv; have HNV := hid hNv; have HB4 := hid hB4; have HEL := hid hEl; clear hEv hNv hB4 hEl) | fail)
  have hBa := below_alloc (Below.refl _ w4) (Obj.cells #[.int .i64 (L.length : Int), .slice eo (allP L.length (eB E)).length ec] 42)
  have hB5 := below_next HB4.out hBa
  have t14 : Two (w4.alloc (Obj.cells #[.int .i64 (L.length : Int), .slice eo (allP L.length (eB E)).length ec] 42)) w4.heap.size (.int .i64 (L.length : Int)) (.slice eo (allP L.length (eB E)).length ec) 42 := two_new _ _ _ _
  have hE5 := HEV.out.below hBa
  have hN5 := (strs_own HNV.out).below hBa
  have h5 := H3.out.step hB5
  have hH5 := HH.out.1.below hB5
  have t9 := two_next T9.out hB5
  have t10 := two_next T10.out hB5
  have b6x := (hB5.block _ (lt_of_block HS5.out)).trans HS5.out
  obtain ⟨b14, hb14⟩ : ∃ x, x = w4.heap.size := ⟨_, rfl⟩
  have hne14 : W2.heap.size ≤ b14 := by have := HB4.out.size; omega
  rw [← hb14] at t14 ⊢
  clear hb14 hBa
  generalize w4.alloc (Obj.cells #[.int .i64 (L.length : Int), .slice eo (allP L.length (eB E)).length ec] 42) = W5 at *
  obtain ⟨no, nc, rfl, hN6⟩ := id hN5
  clear hN6
  have x2 : ∀ q, (W5.drewN q).cell? ⟨b6, 2, none⟩ = some (.string sa) := fun q => box_cell (w := W5.drewN q) (((drewN_below W5 q).block _ (lt_of_block b6x)).trans b6x) rfl
  have x3 : ∀ q, (W5.drewN q).cell? ⟨b6, 3, none⟩ = some (.string sb) := fun q => box_cell (w := W5.drewN q) (((drewN_below W5 q).block _ (lt_of_block b6x)).trans b6x) rfl
  have hLl := HD.out.len
  have NA : Hid (∀ q, Calls Try.prog 13 #[.slice no L.length nc, .string sa] (W5.drewN q) fun e w' => e = .returned (.int .i64 (idx L sa : Int)) ∧ w' = W5.drewN q) := fun q => named_call (hN5.below (drewN_below _ _)) (by omega) sa
  have NB : Hid (∀ q, Calls Try.prog 13 #[.slice no L.length nc, .string sb] (W5.drewN q) fun e w' => e = .returned (.int .i64 (idx L sb : Int)) ∧ w' = W5.drewN q) := fun q => named_call (hN5.below (drewN_below _ _)) (by omega) sb
  have HJ : Hid (∀ A, Below W5.heap.size W5 A → Calls Try.prog 14 #[ptr (b i), .string sa, .string sb] A fun e w' => (∃ r c d, e = .returned (.tuple #[.bool r, .agg #[.int .i64 c, .int .i64 d]]) ∧
((¬ sa ∈ L ∧ r = false ∧ c = 10 ∧ d = 0) ∨ (sa ∈ L ∧ ¬ sb ∈ L ∧ r = false ∧ c = 10 ∧ d = 1) ∨ (sa ∈ L ∧ sb ∈ L ∧ (r = true ↔ Star (St2 L.length E) (idx L sa) (idx L sb)) ∧ c = 0 ∧ d = 0))) ∧ (∃ q, LI w w' bh bd k q b v ds ds) ∧ Kept A w' ∧ Turns (p i).mine A w') := fun A hA => joined_law (h5.step hA) HIX.out (hH5.below hA) HD.out HH.out.2 hsa hsb
  have T9b := hid t9
  have T10b := hid t10
  have T14 := hid t14
  have HE5 := hid hE5
  have HN14 := hid hne14
  have HLL := hid hLl
  have HML : Hid (∀ x, (p i).mine x → x < W2.heap.size) := fun x hx => HH.out.1.lt hx
  have B6X := hid b6x
  clear t9 t10 t14 hE5 hN5 hLl h5 hH5 hB5 hne14 HCB e5 s1 b6x HEV HNV HB4 s2 s3
  go_quiet (first | (go_at_call 13; with_reducible exact Calls.quiet_of_same (NA.out _)) | (go_at_call 13; with_reducible exact Calls.quiet_of_same (NB.out _)))
  have hdr := drewN_below W5 nq
  have T9e := hid (two_next T9b.out hdr)
  have T10e := hid (two_next T10b.out hdr)
  have T14e := hid (two_next T14.out hdr)
  have HE5e := hid (HE5.out.below hdr)
  have HJe := hid (HJ.out _ hdr)
  have s2 := x2 nq
  have s3 := x3 nq
  generalize W5.drewN nq = W6 at *
  clear x2 x3 hdr HJ T9b T10b T14 HE5 NA NB
  go_upto_block 3 with (first | (go_at_call 14; refine Calls.mono HJe.out ?_; rintro e w7 ⟨⟨r, c, d, rfl, hcase⟩, ⟨q, hq⟩, hkp, hT7⟩; dsimp only; have t9 := hkp _ _ _ T9e.out (by simp [OwnT]); have t10 := hkp _ _ _ T10e.out (by simp [OwnT]); have t14 := hkp _ _ _ T14e.out (by simp [OwnT]); have HQ := hid hq; have T9f := hid t9; have T10f := hid t10; have T14f := hid t14; have HCS := hid hcase; have HE7 := hid (edges_kept HE5e.out hT7 (fun x hx hm => by have h1 := HEL.out x hx; have h2 := HML.out x hm; omega)); obtain ⟨q1, q2, q3, q4⟩ := store_two' t9 (.int .i64 c); clear hkp t9 t10 t14 hq hT7 hcase) | fail)
  have h7 := HQ.out.box T9f.out (by simp [OwnT]) (by omega) (stored2_turns w7 b9 (c, d))
  have t9 : Two _ b9 _ _ 31 := two_setN (x' := .int .i64 c) (y' := .int .i64 d) T9f.out
  have t10 : Two _ b10 _ _ 31 := ((stored2_turns w7 b9 (c, d)).block _ (lt_of_block T10f.out) (fun e => hne e.symm)).trans T10f.out
  have t14 : Two _ b14 _ _ 42 := ((stored2_turns w7 b9 (c, d)).block _ (lt_of_block T14f.out) (fun e => by have h1 := HN14.out; have h2 := HB9.out; omega)).trans T14f.out
  have hE8 := edges_kept HE7.out (stored2_turns w7 b9 (c, d)) (fun x hx e => by have h1 := HEL.out x hx; have h2 := HB9.out; omega)
  simp only [stored2] at h7 t10 t14 hE8
  generalize (w7.setCell ⟨b9, 0, none⟩ (.int .i64 c)).setCell ⟨b9, 1, none⟩ (.int .i64 d) = W7 at *
  have HQ7 := hid h7
  have T9c := hid t9
  have T10c := hid t10
  have T14c := hid t14
  have HE8 := hid hE8
  have HC := HCS.out
  clear h7 t9 hE8 q1 q2 q3 q4 HQ T9f T10f T14f HE7 HCS s2 s3 T9e T10e T14e HE5e HJe HML
  obtain ⟨u0, u1⟩ := cell_two t10
  obtain ⟨u2, u3⟩ := cell_two t14
  clear t10 t14
  rcases HC with ⟨m1, rfl, rfl, rfl⟩ | ⟨m1, m2, rfl, rfl, rfl⟩ | ⟨m1, m2, hr, rfl, rfl⟩
  · have n5 : (idx L sa : Int) = (L.length : Int) := by rw [idx_out.2 m1]
    clear m1
    go_wp2_with (first | (go_at_call 11; refine Calls.mono (refF_any 10 0 _) ?_; rintro e w8 ⟨rfl, hB8⟩; dsimp only; have h8 := HQ7.out.step hB8; have t9 := two_next T9c.out hB8; have t10 := two_next T10c.out hB8; have H8 := hid h8; have T9d := hid t9; have T10d := hid t10; obtain ⟨q1, q2, q3, q4⟩ := store_two' t10 (.int .i64 10); obtain ⟨q5, q6⟩ := cell_two (two_setN (x' := .int .i64 10) (y' := .int .i64 0) t10); clear h8 t9 t10 hB8) | fail)
    apply HE.out
    · skip
      have h9 := H8.out.box T10d.out (by simp [OwnT]) (by omega) (stored2_turns w8 b10 (10, 0))
      exact ⟨_, _, _, (10, 0), h9.mono (by omega), ((stored2_turns w8 b10 (10, 0)).block _ (lt_of_block T9d.out) hne).trans T9d.out, two_setN (x' := .int .i64 10) (y' := .int .i64 0) T10d.out⟩
  · have n5 : ¬ (idx L sa : Int) = (L.length : Int) := by have := idx_mem.2 m1; omega
    have n6 : (idx L sb : Int) = (L.length : Int) := by rw [idx_out.2 m2]
    clear m1 m2
    go_wp2_with (first | (go_at_call 11; refine Calls.mono (refF_any 10 1 _) ?_; rintro e w8 ⟨rfl, hB8⟩; dsimp only; have h8 := HQ7.out.step hB8; have t9 := two_next T9c.out hB8; have t10 := two_next T10c.out hB8; have H8 := hid h8; have T9d := hid t9; have T10d := hid t10; obtain ⟨q1, q2, q3, q4⟩ := store_two' t10 (.int .i64 10); obtain ⟨q5, q6⟩ := cell_two (two_setN (x' := .int .i64 10) (y' := .int .i64 1) t10); clear h8 t9 t10 hB8) | fail)
    apply HE.out
    · skip
      have h9 := H8.out.box T10d.out (by simp [OwnT]) (by omega) (stored2_turns w8 b10 (10, 1))
      exact ⟨_, _, _, (10, 1), h9.mono (by omega), ((stored2_turns w8 b10 (10, 1)).block _ (lt_of_block T9d.out) hne).trans T9d.out, two_setN (x' := .int .i64 10) (y' := .int .i64 1) T10d.out⟩
  · have i1 := idx_mem.2 m1
    have i2 := idx_mem.2 m2
    have n5 : ¬ (idx L sa : Int) = (L.length : Int) := by omega
    have n6 : ¬ (idx L sb : Int) = (L.length : Int) := by omega
    have n7 : (0 : Int) ≤ (idx L sb : Int) := by omega
    have n8 : (idx L sb : Int) < (L.length : Int) := by omega
    have HI1 := hid (And.intro i1 i2)
    have HR := hid hr
    have HST := hid (steps_tab HD.out.ed (idx L sa) (idx L sb))
    have HTB := hid (tab_law HD.out HLEN.out HE8.out)
    clear m1 m2 hr i1 i2
    go_wp2_with (first | (go_at_call 16; refine Calls.mono HTB.out ?_; rintro e w8 ⟨⟨go, gc, rfl, hG⟩, hB8⟩; dsimp only; have HG := hid hG; have HB8 := hid hB8; clear hG hB8) | (go_at_call 15; refine Calls.mono (reach_call L.length _ _ _ _ HG.out HLL.out.2.2 HI1.out.1 (shutAt_nil _ _)) ?_; rintro e w9 ⟨bI, rfl, hbI, I, hI, hI2, hB9⟩; dsimp only; have hc9 := hI.cell HI1.out.2; have hIr : I (idx L sb) = r := (by rw [Bool.eq_iff_iff, HR.out, hI2 _ HI1.out.2]; exact HST.out); rw [hIr] at hc9; have HBN := hid (below_next HB8.out hB9); have u0 := (cell_two (two_next T10c.out HBN.out)).1; clear hbI hI hI2 hB9 hIr) | fail)
    apply HE.out
    exact ⟨_, _, _, (0, 0), (HQ7.out.step HBN.out).mono (by omega), two_next T9c.out HBN.out, two_next T10c.out HBN.out⟩
end Go.Proofs.Ytfdlndljpmamgaa
