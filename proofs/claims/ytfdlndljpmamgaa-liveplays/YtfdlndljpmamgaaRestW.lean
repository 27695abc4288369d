/- The law: both houses are held against the document's graph. -/
import Derived.Test.YtfdlndljpmamgaaSwD
namespace Go.Proofs.Ytfdlndljpmamgaa
set_option maxRecDepth 8000
open Go.RowKit Go.Maps
attribute [local go_sem ↓] Go.wp_at_zero Go.wp_at_succ
set_option maxHeartbeats 8000000 in
theorem rest_call {Q : Exit → Act → World → Prop} {w W2 : World} {bh bd k b9 b10 : Nat} {b : Nat → Nat} {u0 u1 u2 u5 u6 u7 u8 u11 u12 u13 u14 u15 u16 u17 u18 u19 u20 u21 u22 u23 u24 u25 u26 u27 u28 u29 u30 u31 u32 u33 u34 u35 u36 u37 u38 u39 u40 u41 u42 u43 u44 u45 u46 u47 u48 u49 u50 u51 u52 u53 u54 u55 u56 u57 u58 u59 u60 u61 u62 u63 u64 u65 u66 u67 u68 u69 u70 u71 u72 u73 u74 u75 u76 u77 u78 u79 u80 u81 u82 u83 u84 u85 u86 u87 u88 u89 u90 u91 u92 u93 u94 u95 u96 u97 u98 u99 u100 u101 u102 u103 u104 u105 u106 u107 u108 u109 u110 u111 u112 u113 u114 u115 u116 u117 u118 u119 u120 u121 u122 u123 u124 u125 u126 u127 u128 u129 u130 u131 u132 u133 u134 u135 u136 u137 u138 u139 u140 u141 u142 u143 u144 u145 u146 u147 u148 u149 u150 u151 u152 u153 u154 u155 u156 u157 u158 u159 u160 u161 u162 u163 u164 u165 u166 u167 u168 u169 u170 u171 u172 u173 u174 u175 u176 u177 u178 u179 u180 u181 u182 u183 u184 u185 u186 u187 u188 u189 u190 u191 u192 u193 u194 u195 u196 u197 u198 u199 u200 u201 u202 u203 u204 u205 u206 u207 u208 u209 u210 u211 u212 u213 u214 u215 u216 u217 u218 u219 u220 u221 u222 u223 u224 u225 u226 u227 u228 u229 u230 u231 u232 u233 u234 u235 u236 u237 u238 u239 u240 u241 u242 u243 u244 u245 u246 u247 u248 u249 u250 u251 u252 u253 u254 u255 u256 u257 u258 u259 u260 u261 u262 u263 u264 u265 u266 u267 u268 u269 u270 u271 u272 u273 u274 u275 u276 u277 u278 u279 u280 u281 u282 u283 u284 u285 u286 u287 : Value}
    (hcut : Hid (Fin w bh bd (k + 1) b b9 b10 W2)) (hk : k < 200)
    (hend : ∀ (x2 x19 x20 x21 x22 x23 x24 x25 x35 x36 x37 x38 x39 x40 x41 x42 x43 x44 x45 x46 x47 x48 x49 x50 x51 x52 x53 x54 x55 x56 x57 x58 x59 x60 x61 x62 x63 x64 x65 x66 x67 x68 x69 x70 x71 x72 x73 x74 x75 x76 x77 x78 x79 x80 x81 x82 x83 x84 x85 x86 x87 x88 x89 x90 x91 x92 x93 x94 x95 x96 x97 x98 x99 x100 x101 x102 x103 x104 x105 x106 x107 x108 x109 x110 x111 x112 x113 x114 x115 x116 x117 x118 x119 x120 x121 x122 x123 x124 x125 x126 x127 x128 x129 x130 x131 x132 x133 x134 x135 x136 x137 x138 x139 x140 x141 x142 x143 x144 x145 x146 x147 x148 x149 x150 x151 x152 x153 x154 x155 x156 x157 x158 x159 x160 x161 x162 x163 x164 x165 x166 x167 x168 x169 x170 x171 x172 x173 x174 x175 x176 x177 x178 x179 x180 x181 x182 x183 x184 x185 x186 x187 x188 x189 x190 x191 x192 x193 x194 x195 x196 x197 x198 x199 x200 x201 x202 x203 x204 x205 x206 x207 x208 x209 x210 x211 x212 x213 x214 x215 x216 x217 x218 x219 x220 x221 x222 x223 x224 x225 x226 x227 x228 x229 x230 x231 x232 x233 x234 x235 x236 x237 x238 x239 x240 x241 x242 x243 x244 x245 x246 x247 x248 x249 x250 x251 x252 x253 x254 x255 x256 x257 x258 x259 x260 x261 x262 x263 x264 x265 x266 x267 x268 x269 x270 x271 x272 x273 x274 x275 x276 x277 x278 x279 x280 x281 x282 x283 x284 x285 x286 x287 : Value) (wd : World), Hid (∃ q v ds, LI w wd bh bd (k + 1) q b v ds ds) → Q .normal { tmps := #[u0, u1, x2, .slice (some ⟨bh, 0, none⟩) 2 2, .slice (some ⟨bd, 0, none⟩) 2 2, u5, u6, u7, u8, .pointer (some ⟨b9, 0, none⟩), .pointer (some ⟨b10, 0, none⟩), u11, u12, u13, u14, u15, u16, u17, u18, x19, x20, x21, x22, x23, x24, x25, u26, u27, u28, u29, u30, u31, u32, u33, u34, x35, x36, x37, x38, x39, x40, x41, x42, x43, x44, x45, x46, x47, x48, x49, x50, x51, x52, x53, x54, x55, x56, x57, x58, x59, x60, x61, x62, x63, x64, x65, x66, x67, x68, x69, x70, x71, x72, x73, x74, x75, x76, x77, x78, x79, x80, x81, x82, x83, x84, x85, x86, x87, x88, x89, x90, x91, x92, x93, x94, x95, x96, x97, x98, x99, x100, x101, x102, x103, x104, x105, x106, x107, x108, x109, x110, x111, x112, x113, x114, x115, x116, x117, x118, x119, x120, x121, x122, x123, x124, x125, x126, x127, x128, x129, x130, x131, x132, x133, x134, x135, x136, x137, x138, x139, x140, x141, x142, x143, x144, x145, x146, x147, x148, x149, x150, x151, x152, x153, x154, x155, x156, x157, x158, x159, x160, x161, x162, x163, x164, x165, x166, x167, x168, x169, x170, x171, x172, x173, x174, x175, x176, x177, x178, x179, x180, x181, x182, x183, x184, x185, x186, x187, x188, x189, x190, x191, x192, x193, x194, x195, x196, x197, x198, x199, x200, x201, x202, x203, x204, x205, x206, x207, x208, x209, x210, x211, x212, x213, x214, x215, x216, x217, x218, x219, x220, x221, x222, x223, x224, x225, x226, x227, x228, x229, x230, x231, x232, x233, x234, x235, x236, x237, x238, x239, x240, x241, x242, x243, x244, x245, x246, x247, x248, x249, x250, x251, x252, x253, x254, x255, x256, x257, x258, x259, x260, x261, x262, x263, x264, x265, x266, x267, x268, x269, x270, x271, x272, x273, x274, x275, x276, x277, x278, x279, x280, x281, x282, x283, x284, x285, x286, x287], defers := [] } wd) :
    (restOf Try.f3).wp Try.prog Q { tmps := #[u0, u1, u2, .slice (some ⟨bh, 0, none⟩) 2 2, .slice (some ⟨bd, 0, none⟩) 2 2, u5, u6, u7, u8, .pointer (some ⟨b9, 0, none⟩), .pointer (some ⟨b10, 0, none⟩), u11, u12, u13, u14, u15, u16, u17, u18, u19, u20, u21, u22, u23, u24, u25, u26, u27, u28, u29, u30, u31, u32, u33, u34, u35, u36, u37, u38, u39, u40, u41, u42, u43, u44, u45, u46, u47, u48, u49, u50, u51, u52, u53, u54, u55, u56, u57, u58, u59, u60, u61, u62, u63, u64, u65, u66, u67, u68, u69, u70, u71, u72, u73, u74, u75, u76, u77, u78, u79, u80, u81, u82, u83, u84, u85, u86, u87, u88, u89, u90, u91, u92, u93, u94, u95, u96, u97, u98, u99, u100, u101, u102, u103, u104, u105, u106, u107, u108, u109, u110, u111, u112, u113, u114, u115, u116, u117, u118, u119, u120, u121, u122, u123, u124, u125, u126, u127, u128, u129, u130, u131, u132, u133, u134, u135, u136, u137, u138, u139, u140, u141, u142, u143, u144, u145, u146, u147, u148, u149, u150, u151, u152, u153, u154, u155, u156, u157, u158, u159, u160, u161, u162, u163, u164, u165, u166, u167, u168, u169, u170, u171, u172, u173, u174, u175, u176, u177, u178, u179, u180, u181, u182, u183, u184, u185, u186, u187, u188, u189, u190, u191, u192, u193, u194, u195, u196, u197, u198, u199, u200, u201, u202, u203, u204, u205, u206, u207, u208, u209, u210, u211, u212, u213, u214, u215, u216, u217, u218, u219, u220, u221, u222, u223, u224, u225, u226, u227, u228, u229, u230, u231, u232, u233, u234, u235, u236, u237, u238, u239, u240, u241, u242, u243, u244, u245, u246, u247, u248, u249, u250, u251, u252, u253, u254, u255, u256, u257, u258, u259, u260, u261, u262, u263, u264, u265, u266, u267, u268, u269, u270, u271, u272, u273, u274, u275, u276, u277, u278, u279, u280, u281, u282, u283, u284, u285, u286, u287], defers := [] } W2 := by
  have HE := hid hend
  have HZ : Hid (k + 1 ≤ 200) := hk
  clear hend hk
  simp only [restOf, roundOf, seqL, seqR, inBlk, inLoop, bodyOf, Try.f3]
  obtain ⟨q0, v', ds', F, hq, t9c, t10c⟩ := hcut.out
  obtain ⟨c, d⟩ := F
  obtain ⟨d0, d1⟩ := cell_two t9c
  obtain ⟨d2, d3⟩ := cell_two t10c
  simp only at d0 d1 d2 d3
  have HQ := hid hq
  clear hcut hq t9c t10c
  go_wp2_with (fail)
  clear d0 d1 d2 d3
  go_loopw [19] (fun i wz => ∃ j : Nat, j ≤ 2 ∧ i = .int .i64 (j : Int) ∧ ∃ q, LI w wz bh bd (k + 1) q b v' ds' ds') (fun i _ => 2 - (numOf i).toNat)
  case atStart => exact ⟨0, by omega, rfl, q0, HQ.out⟩
  case round =>
    obtain ⟨j, hj, rfl, q2, hli2⟩ := hrel
    obtain ⟨Wj, hWj⟩ : ∃ x, x = wr := ⟨_, rfl⟩
    subst hWj
    by_cases hj2 : j < 2
    · obtain ⟨L, E, K, n, hH, hD, hn⟩ := (hli2.ho j hj2).house
      have hlen := (hli2.ho j hj2).lenH
      have hl := hD.len
      have hZ := HZ.out
      have e1 := hli2.cellH hj2
      have n1 : (0 : Int) ≤ (j : Int) := by omega
      have n2 : (j : Int) < 2 := by omega
      have HLEN : Hid ((ds' j).length ≤ 200) := by show _ ≤ _; omega
      have hat := (hli2.ho j hj2).at_
      have HCG := hid (graph_call hH hl.2.2 hD.ed)
      rw [hat] at HCG
      have HD := hid hD
      have HH := hid (And.intro hH hn)
      have HL2 := hid hli2
      have HJ2 : Hid (j < 2) := hj2
      have HLL := hid hl
      have HRW := hid (hli2.ho j hj2).row
      clear hH hn hD hlen hl hZ hat hli2 HQ hj2
      go_upto_region 53 with (first | (go_at_call 17; refine Calls.mono HCG.out ?_; rintro e w4 ⟨ev, nv, rfl, hEv, hNv, hB4⟩; dsimp only; obtain ⟨eo, ec, hev⟩ := row_form hEv; subst hev; obtain ⟨no, nc, hnv⟩ := row_form hNv; subst hnv; have HEV := hid hEv; have HNV := hid hNv; have HB4 := hid hB4; clear hEv hNv hB4) | fail)
      have hBa := below_alloc (Below.refl _ w4) (Obj.cells #[.int .i64 (L.length : Int), .slice eo (allP L.length (eB E)).length ec] 42)
      have hB5 := below_next HB4.out hBa
      have t20 : Two (w4.alloc (Obj.cells #[.int .i64 (L.length : Int), .slice eo (allP L.length (eB E)).length ec] 42)) w4.heap.size (.int .i64 (L.length : Int)) (.slice eo (allP L.length (eB E)).length ec) 42 := two_new _ _ _ _
      have hEv5 := ownsRow_blocks HEV.out (fun x hx => hBa.block x (HEV.out.lt x hx).2)
      have hNv5 := ownsRow_blocks HNV.out (fun x hx => hBa.block x (HNV.out.lt x hx).2)
      have l20 : Wj.heap.size ≤ w4.heap.size := HB4.out.size
      clear e1
      generalize w4.alloc (Obj.cells #[.int .i64 (L.length : Int), .slice eo (allP L.length (eB E)).length ec] 42) = W5 at *
      generalize w4.heap.size = b20 at *
      have e2 := (HL2.out.step hB5).cellD HJ2.out
      have HCB := hid (built_own HD.out HLEN.out (d_own ((HL2.out.step hB5).ho j HJ2.out).row))
      have HB5 := hid hB5
      have T20 := hid t20
      have HEV5 := hid hEv5
      have HNV5 := hid hNv5
      have HL20 := hid l20
      clear hBa hB5 t20 hEv5 hNv5 l20 HEV HNV HB4 HCG HRW
      go_upto_region 54 with (first | (go_at_call 12; refine Calls.mono HCB.out ?_; rintro e w6 ⟨ev2, nv2, rfl, hEv, hNv, hB6, hEl⟩; dsimp only; obtain ⟨eo2, ec2, hev⟩ := hEv.form; subst hev; obtain ⟨no2, nc2, hnv⟩ := row_form hNv; subst hnv; have HEV6 := hid hEv; have HNV6 := hid hNv; have HB6 := hid hB6; have HEL6 := hid hEl; clear hEv hNv hB6 hEl) | fail)
      have hBa := below_alloc (Below.refl _ w6) (Obj.cells #[.int .i64 (L.length : Int), .slice eo2 (allP L.length (eB E)).length ec2] 42)
      have hB7 := below_next HB6.out hBa
      have t22 : Two (w6.alloc (Obj.cells #[.int .i64 (L.length : Int), .slice eo2 (allP L.length (eB E)).length ec2] 42)) w6.heap.size (.int .i64 (L.length : Int)) (.slice eo2 (allP L.length (eB E)).length ec2) 42 := two_new _ _ _ _
      have hEv7 := HEV6.out.below hBa
      have hNv7 := own_low (ownsRow_blocks HNV6.out (fun x hx => hBa.block x (HNV6.out.lt x hx).2)) HB5.out.size
      have l22 : Wj.heap.size ≤ w6.heap.size := Nat.le_trans HB5.out.size HB6.out.size
      have hEl7 : ∀ x, (Value.slice eo2 (allP L.length (eB E)).length ec2).ownBlock = some x → Wj.heap.size ≤ x := fun x hx => Nat.le_trans HB5.out.size (HEL6.out x hx)
      clear e2
      generalize w6.alloc (Obj.cells #[.int .i64 (L.length : Int), .slice eo2 (allP L.length (eB E)).length ec2] 42) = W7 at *
      generalize w6.heap.size = b22 at *
      refine hold54 (j := j) (b20 := b20) (b22 := b22) (no := no) (no2 := no2) (eo := eo) (eo2 := eo2) (nc := nc) (nc2 := nc2) (ec := ec) (ec2 := ec2) HL2.out HJ2.out (by have := HZ.out; omega) HH.out.1 HD.out (below_next HB5.out hB7) (two_next T20.out hB7) t22 HL20.out l22 (ownsRow_blocks HEV5.out (fun x hx => hB7.block x (HEV5.out.lt x hx).2)) hEv7 hEl7 (ownsRow_blocks HNV5.out (fun x hx => hB7.block x (HNV5.out.lt x hx).2)) hNv7 rfl rfl rfl rfl rfl rfl rfl ?_
      intro w8 C go gc hov hrw
      have HB1 : Hid (Wj.heap.size ≤ W7.heap.size) := (below_next HB5.out hB7).size
      generalize W7.heap.size = B1 at *
      have HO := hid hov
      have HR := hid hrw
      clear hov hrw hBa hB7 t22 hEv7 hNv7 l22 hEl7 HEV6 HNV6 HB6 HEL6 HEV5 HNV5 T20 HCB
      have HDE := hid HD.out.ed
      have hcn := HD.out.count
      have HMB : Hid ((allP L.length (eB E)).length ≤ 200) := Nat.le_trans hcn HLEN.out
      clear hcn
      generalize (allP L.length (eB E)).length = M at *
      simp only [put54, V54, List.setIfInBounds_toArray, List.set_cons_succ, List.set_cons_zero]
      go_wp2_with (fail)
      go_loopw [24] (fun i wz => ∃ m : Nat, m ≤ L.length ∧ i = .int .i64 (m : Int) ∧ Hid (Ov Wj (q2 j) L.length E B1 wz ∧ Rw wz Wj.heap.size B1 b20 L.length M no eo ec)) (fun i _ => L.length - (numOf i).toNat)
      case atStart => exact ⟨0, Nat.zero_le _, rfl, HO.out, HR.out⟩
      case round =>
        obtain ⟨m, hm, rfl, hJ⟩ := hrel
        clear HO HR
        by_cases hm2 : m < L.length
        · have n3 : (0 : Int) ≤ (m : Int) := by omega
          have n4 : (m : Int) < (L.length : Int) := by omega
          rcases hJ.out.2.nm with h0 | ⟨g5, he5, hO5, hg5⟩
          · omega
          · subst he5
            obtain ⟨x5, f1, f2⟩ := hO5.cell hm2
            have h6 : Ov Wj (q2 j) L.length E B1 _ := hJ.out.1.step HH.out.1 (setCell_turns wr g5 m (.string (ByteArray.mk #[63]))) (fun x hx => by subst hx; exact hg5)
            have h7 := hJ.out.2.name hO5 m (.string (ByteArray.mk #[63]))
            have H6 := hid (And.intro h6 h7)
            clear h6 h7 hO5 hg5
            have hbd := HLL.out.2.2
            go_wp2
            go_roundw
            case rel => exact ⟨m + 1, by omega, by go_num, H6.out⟩
            case measure => simp [numOf]; omega
        · obtain rfl : m = L.length := by omega
          go_wp2_with (fail)
          go_loopw [25] (fun i wz => ∃ m : Nat, m ≤ M ∧ i = .int .i64 (m : Int) ∧ Hid (Ov Wj (q2 j) L.length E B1 wz ∧ Rw wz Wj.heap.size B1 b20 L.length M no eo ec)) (fun i _ => M - (numOf i).toNat)
          case atStart => exact ⟨0, Nat.zero_le _, rfl, hJ.out⟩
          case round =>
            obtain ⟨m, hm, rfl, hI⟩ := hrel
            clear hJ
            obtain ⟨y0, y1⟩ := cell_two hI.out.2.t20
            by_cases hm3 : m < M
            · have n3 : (0 : Int) ≤ (m : Int) := by omega
              have n4 : (m : Int) < (M : Int) := by omega
              rcases hI.out.2.ed with h0 | ⟨g5, he5, hO5, hg5⟩
              · omega
              · subst he5
                obtain ⟨x5, f1, f2⟩ := hO5.cell (i := m * 2) (by omega)
                obtain ⟨x6, f3, f4⟩ := (hO5.set (m * 2) (.int .i64 (-1))).cell (i := m * 2 + 1) (by omega)
                have h6 : Ov Wj (q2 j) L.length E B1 _ := hI.out.1.step HH.out.1 ((setCell_turns wr g5 (m * 2) (.int .i64 (-1))).trans (setCell_turns _ g5 (m * 2 + 1) (.int .i64 (-1)))) (fun x hx => by subst hx; exact hg5)
                have h7 := (hI.out.2.edge hO5 (m * 2) (.int .i64 (-1))).edge (hO5.set (m * 2) (.int .i64 (-1))) (m * 2 + 1) (.int .i64 (-1))
                have H6 := hid (And.intro h6 h7)
                clear h6 h7 hO5 hg5
                have hbd := HMB.out
                go_wp2
                go_roundw
                case rel => exact ⟨m + 1, by omega, by go_num, H6.out⟩
                case measure => simp [numOf]; omega
            · obtain rfl : m = M := by omega
              have h8 := HL2.out.ask HJ2.out HH.out.1 HD.out HH.out.2 (kn_ask HH.out.1 HB1.out hI.out.1.turns hI.out.1.kn)
              have H8 := hid h8
              clear h8
              go_wp2
              go_roundw
              case rel => exact ⟨j + 1, by have := HJ2.out; omega, by go_num, H8.out⟩
              case measure => have := HJ2.out; simp [numOf]; omega
    · obtain rfl : j = 2 := by omega
      have H8 := hid hli2
      clear hli2 HQ
      go_wp2
      apply HE.out
      exact ⟨_, _, _, H8.out⟩
end Go.Proofs.Ytfdlndljpmamgaa
