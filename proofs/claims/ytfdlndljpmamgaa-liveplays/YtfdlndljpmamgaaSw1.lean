/- The law's switch: kind 1 of a step. -/
import Derived.Test.YtfdlndljpmamgaaSwD
namespace Go.Proofs.Ytfdlndljpmamgaa
set_option maxRecDepth 8000
open Go.RowKit Go.Maps
attribute [local go_sem ↓] Go.wp_at_zero Go.wp_at_succ
set_option maxHeartbeats 4000000 in
theorem sw1 {Q : Exit → Act → World → Prop} {w W2 : World} {bh bd k b6 b9 b10 i : Nat} {p : Nat → Hp} {b : Nat → Nat} {v : Nat → Value} {ds : Nat → List Dd} {sh : Int} {sa sb : ByteArray} {u0 u1 u2 u5 u11 u12 u13 u14 u15 u16 u17 u18 u19 u20 u21 u22 u23 u24 u25 u26 u27 u28 u29 u30 u31 u32 u33 u34 u35 u36 u37 u38 u39 u40 u41 u42 u43 u44 u45 u46 u47 u48 u49 u50 u51 u52 u54 u55 u56 u57 u58 u59 u60 u61 u62 u63 u64 u65 u66 u67 u68 u69 u70 u71 u72 u73 u74 u75 u76 u77 u78 u79 u80 u81 u82 u83 u84 u85 u86 u87 u88 u89 u90 u91 u92 u93 u94 u95 u96 u97 u98 u99 u100 u101 u102 u103 u104 u105 u106 u107 u108 u109 u110 u111 u112 u113 u114 u115 u116 u117 u118 u119 u120 u121 u122 u123 u124 u125 u126 u127 u128 u129 u130 u131 u132 u133 u134 u135 u136 u137 u138 u139 u140 u141 u142 u143 u144 u145 u146 u147 u148 u149 u150 u151 u152 u153 u154 u155 u156 u157 u158 u159 u160 u161 u162 u163 u164 u165 u166 u167 u168 u169 u170 u171 u172 u173 u174 u175 u176 u177 u178 u179 u180 u181 u182 u183 u184 u185 u186 u187 u188 u189 u190 u191 u192 u193 u194 u195 u196 u197 u198 u199 u200 u201 u202 u203 u204 u205 u206 u207 u208 u209 u210 u211 u212 u213 u214 u215 u216 u217 u218 u219 u220 u221 u222 u223 u224 u225 u226 u227 u228 u229 u230 u231 u232 u233 u234 u235 u236 u237 u238 u239 u240 u241 u242 u243 u244 u245 u246 u247 u248 u249 u250 u251 u252 u253 u254 u255 u256 u257 u258 u259 u260 u261 u262 u263 u264 u265 u266 u267 u268 u269 u270 u271 u272 u273 u274 u275 u276 u277 u278 u279 u280 u281 u282 u283 u284 u285 u286 u287 : Value}
    (h3 : LI w W2 bh bd k p b v ds ds) (hS5 : Box W2 b6 #[.int .i64 sh, .int .i64 1, .string sa, .string sb] 29) (t9 : Two W2 b9 (.int .i64 0) (.int .i64 0) 31) (t10 : Two W2 b10 (.int .i64 0) (.int .i64 0) 31)
    (hk : k < 200) (hi : i < 2) (hne : b9 ≠ b10) (hlo9 : w.heap.size ≤ b9) (hlo10 : w.heap.size ≤ b10) (hsa : sa.size ≤ maxLen) (hsb : sb.size ≤ maxLen)
    (hend : ∀ (x11 x12 x13 x14 x15 x16 x17 x18 x35 x36 x37 x38 x39 x40 x41 x42 x43 x44 x45 x46 x47 x48 x49 x50 x51 x52 x53 x54 x55 x56 x57 x58 x59 x60 x61 x62 x63 x64 x65 x66 x67 x68 x69 x70 x71 x72 x73 x74 x75 x76 x77 x78 x79 x80 x81 x82 x83 x84 x85 x86 x87 x88 x89 x90 x91 x92 x93 x94 x95 x96 x97 x98 x99 x100 x101 x102 x103 x104 x105 x106 x107 x108 x109 x110 x111 x112 x113 x114 x115 x116 x117 x118 x119 x120 x121 x122 x123 x124 x125 x126 x127 x128 x129 x130 x131 x132 x133 x134 x135 x136 x137 x138 x139 x140 x141 x142 x143 x144 x145 x146 x147 x148 x149 x150 x151 x152 x153 x154 x155 x156 x157 x158 x159 x160 x161 x162 x163 x164 x165 x166 x167 x168 x169 x170 x171 x172 x173 x174 x175 x176 x177 x178 x179 x180 x181 x182 x183 x184 x185 x186 x187 x188 x189 x190 x191 x192 x193 x194 x195 x196 x197 x198 x199 x200 x201 x202 x203 x204 x205 x206 x207 x208 x209 x210 x211 x212 x213 x214 x215 x216 x217 x218 x219 x220 x221 x222 x223 x224 x225 x226 x227 x228 x229 x230 x231 x232 x233 x234 x235 x236 x237 x238 x239 x240 x241 x242 x243 x244 x245 x246 x247 x248 x249 x250 x251 x252 x253 x254 x255 x256 x257 x258 x259 x260 x261 x262 x263 x264 x265 x266 x267 x268 x269 x270 x271 x272 x273 x274 x275 x276 x277 x278 x279 x280 x281 x282 x283 x284 x285 x286 x287 : Value) (wd : World), Hid (Fin w bh bd (k + 1) b b9 b10 wd) → Q .normal { tmps := #[u0, u1, u2, .slice (some ⟨bh, 0, none⟩) 2 2, .slice (some ⟨bd, 0, none⟩) 2 2, u5, .pointer (some ⟨b6, 0, none⟩), .int .i64 (i : Int), ptr (b i), .pointer (some ⟨b9, 0, none⟩), .pointer (some ⟨b10, 0, none⟩), x11, x12, x13, x14, x15, x16, x17, x18, u19, u20, u21, u22, u23, u24, u25, u26, u27, u28, u29, u30, u31, u32, u33, u34, x35, x36, x37, x38, x39, x40, x41, x42, x43, x44, x45, x46, x47, x48, x49, x50, x51, x52, x53, x54, x55, x56, x57, x58, x59, x60, x61, x62, x63, x64, x65, x66, x67, x68, x69, x70, x71, x72, x73, x74, x75, x76, x77, x78, x79, x80, x81, x82, x83, x84, x85, x86, x87, x88, x89, x90, x91, x92, x93, x94, x95, x96, x97, x98, x99, x100, x101, x102, x103, x104, x105, x106, x107, x108, x109, x110, x111, x112, x113, x114, x115, x116, x117, x118, x119, x120, x121, x122, x123, x124, x125, x126, x127, x128, x129, x130, x131, x132, x133, x134, x135, x136, x137, x138, x139, x140, x141, x142, x143, x144, x145, x146, x147, x148, x149, x150, x151, x152, x153, x154, x155, x156, x157, x158, x159, x160, x161, x162, x163, x164, x165, x166, x167, x168, x169, x170, x171, x172, x173, x174, x175, x176, x177, x178, x179, x180, x181, x182, x183, x184, x185, x186, x187, x188, x189, x190, x191, x192, x193, x194, x195, x196, x197, x198, x199, x200, x201, x202, x203, x204, x205, x206, x207, x208, x209, x210, x211, x212, x213, x214, x215, x216, x217, x218, x219, x220, x221, x222, x223, x224, x225, x226, x227, x228, x229, x230, x231, x232, x233, x234, x235, x236, x237, x238, x239, x240, x241, x242, x243, x244, x245, x246, x247, x248, x249, x250, x251, x252, x253, x254, x255, x256, x257, x258, x259, x260, x261, x262, x263, x264, x265, x266, x267, x268, x269, x270, x271, x272, x273, x274, x275, x276, x277, x278, x279, x280, x281, x282, x283, x284, x285, x286, x287], defers := [] } wd) :
    (swOf Try.f3).wp Try.prog Q { tmps := #[u0, u1, u2, .slice (some ⟨bh, 0, none⟩) 2 2, .slice (some ⟨bd, 0, none⟩) 2 2, u5, .pointer (some ⟨b6, 0, none⟩), .int .i64 (i : Int), ptr (b i), .pointer (some ⟨b9, 0, none⟩), .pointer (some ⟨b10, 0, none⟩), u11, u12, u13, u14, u15, u16, u17, u18, u19, u20, u21, u22, u23, u24, u25, u26, u27, u28, u29, u30, u31, u32, u33, u34, u35, u36, u37, u38, u39, u40, u41, u42, u43, u44, u45, u46, u47, u48, u49, u50, u51, u52, .int .i64 1, u54, u55, u56, u57, u58, u59, u60, u61, u62, u63, u64, u65, u66, u67, u68, u69, u70, u71, u72, u73, u74, u75, u76, u77, u78, u79, u80, u81, u82, u83, u84, u85, u86, u87, u88, u89, u90, u91, u92, u93, u94, u95, u96, u97, u98, u99, u100, u101, u102, u103, u104, u105, u106, u107, u108, u109, u110, u111, u112, u113, u114, u115, u116, u117, u118, u119, u120, u121, u122, u123, u124, u125, u126, u127, u128, u129, u130, u131, u132, u133, u134, u135, u136, u137, u138, u139, u140, u141, u142, u143, u144, u145, u146, u147, u148, u149, u150, u151, u152, u153, u154, u155, u156, u157, u158, u159, u160, u161, u162, u163, u164, u165, u166, u167, u168, u169, u170, u171, u172, u173, u174, u175, u176, u177, u178, u179, u180, u181, u182, u183, u184, u185, u186, u187, u188, u189, u190, u191, u192, u193, u194, u195, u196, u197, u198, u199, u200, u201, u202, u203, u204, u205, u206, u207, u208, u209, u210, u211, u212, u213, u214, u215, u216, u217, u218, u219, u220, u221, u222, u223, u224, u225, u226, u227, u228, u229, u230, u231, u232, u233, u234, u235, u236, u237, u238, u239, u240, u241, u242, u243, u244, u245, u246, u247, u248, u249, u250, u251, u252, u253, u254, u255, u256, u257, u258, u259, u260, u261, u262, u263, u264, u265, u266, u267, u268, u269, u270, u271, u272, u273, u274, u275, u276, u277, u278, u279, u280, u281, u282, u283, u284, u285, u286, u287], defers := [] } W2 := by
  have H3 := hid h3
  have HS5 := hid hS5
  have T9 := hid t9
  have T10 := hid t10
  have HE := hid hend
  have HKL := hid hk
  have s1 := box_cell (i := 1) hS5 rfl
  have s2 := box_cell (i := 2) hS5 rfl
  have s3 := box_cell (i := 3) hS5 rfl
  clear h3 hS5 t9 t10 hend hk
  simp only [swOf, roundOf, seqL, seqR, inBlk, inLoop, bodyOf, Try.f3]
  have x2 : ∀ o, (W2.alloc o).cell? ⟨b6, 2, none⟩ = some (.string sa) := fun o => all_alloc s2 o
  have x3 : ∀ o, (W2.alloc o).cell? ⟨b6, 3, none⟩ = some (.string sb) := fun o => all_alloc s3 o
  go_upto_region 34 with (fail)
  have hB3 := below_alloc (Below.refl _ W2) (Obj.cells #[.int .i64 2, .string sa, .string sb] 33)
  have h4 := H3.out.step hB3
  have hbx0 : Bx (W2.alloc (Obj.cells #[.int .i64 2, .string sa, .string sb] 33)) b6 b9 b10 W2.heap.size #[.int .i64 sh, .int .i64 1, .string sa, .string sb] #[.int .i64 2, .string sa, .string sb] (0, 0) (0, 0) := ⟨(hB3.block _ (lt_of_block HS5.out)).trans HS5.out, two_next T9.out hB3, two_next T10.out hB3, heap_alloc_new _ _⟩
  generalize W2.alloc (Obj.cells #[.int .i64 2, .string sa, .string sb] 33) = W3 at *
  generalize W2.heap.size = b11 at *
  clear x2 x3 s1 s2 s3 hB3
  refine kind34 (b6 := b6) (b9 := b9) (b10 := b10) (b11 := b11) (x0 := .int .i64 sh) (x1 := .int .i64 1) (sa := sa) (sb := sb) (i := i) rfl rfl rfl rfl rfl rfl rfl rfl h4 hbx0 (by have := HKL.out; omega) hi hsa hsb hne (by omega) hlo10 ?_
  intro F es w' hes hel hA
  obtain ⟨c, d⟩ := F
  obtain ⟨q, hq, hx⟩ := hA
  obtain ⟨f0, f1⟩ := cell_two hx.x10
  simp only at f0 f1 hes
  have HQ := hid hq
  have HX := hid hx
  have hlds := (h4.ho i hi).lenD
  have HL9 := hid hlds
  clear h4 hbx0 hq hx hlds
  simp only [put34, V34, List.setIfInBounds_toArray, List.set_cons_succ, List.set_cons_zero]
  by_cases hc0 : c = 0
  · subst hc0
    rw [if_pos rfl] at hes
    subst hes
    go_upto_region 36 with (fail)
    have hhh := HQ.out.ho i hi
    refine reg36 (base := w.heap.size) (b11 := b11) (i := i) (d := (2, sa, sb)) rfl rfl rfl rfl hi HQ.out.rowD (cells_at hi v) HX.out.x11 hhh.row HQ.out.below.size (by have := HL9.out; have := HKL.out; omega) ?_
    intro g5 c5 w5 hA5
    have hfin := pushed (d := ⟨2, sa, sb⟩) HQ.out HX.out hi HL9.out hA5
    simp only [put36, V36, List.setIfInBounds_toArray, List.set_cons_succ, List.set_cons_zero]
    have HF := hid hfin
    clear hfin hA5 hhh HQ HX f0 f1
    go_wp2
    apply HE.out
    exact HF
  · rw [if_neg hc0] at hes
    have hfin : Fin w bh bd (k + 1) b b9 b10 w' := ⟨q, v, ds, (c, d), by have := HQ.out; rw [hes, upd_self] at this; exact this, HX.out.x9, HX.out.x10⟩
    have HF := hid hfin
    clear hfin HQ HX hes
    go_wp2
    apply HE.out
    exact HF
end Go.Proofs.Ytfdlndljpmamgaa
