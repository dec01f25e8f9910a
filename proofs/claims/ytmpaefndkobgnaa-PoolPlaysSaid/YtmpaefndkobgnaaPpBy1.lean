/- The walk of the law on acts, a round: By1. -/
import Derived.Test.YtmpaefndkobgnaaPpAct
import Derived.Deep.DeepCutAuto
import Derived.Deep.CutBlock
namespace Go.Proofs.Ytmpaefndkobgnaa
open Go.RowKit

set_option maxRecDepth 1000000 in
set_option maxHeartbeats 8000000 in
theorem act_by1 (P : PoolK) (w : World) (R Rq gB cB gG cG gL cL : Nat) (vN : Value) (s : QS) (hs : List (Int × Nat)) (A14 : Option Addr) (c14 lb lo L c k b16 : Nat) (a : ActV) (hi : Int) (hg : Nat) (wc : World) (x0 x1 x3 x4 x5 x6 x8 x9 x10 x11 x12 x17 x18 x19 x20 x21 x22 x23 x24 x25 x26 x27 x28 x29 x30 x31 x32 x33 x34 x35 x36 x37 x38 x39 x40 x41 x42 x43 x44 x45 x46 x47 x48 x49 x50 x51 x52 x53 x54 x55 x56 x57 x58 x59 x60 x61 x62 x63 x64 x65 x66 x67 x68 x69 x70 x71 x72 x73 x74 x75 x76 x77 x78 x79 x80 x81 x82 x83 x84 x85 x86 x87 x88 x89 x90 x91 x92 x93 x94 x95 x96 x97 x98 x99 x100 x101 x102 x103 x104 x105 x106 x107 x108 x109 x110 x111 x112 x113 x114 x115 x116 x117 x118 x119 x120 x121 x122 x123 x124 x125 x126 x127 x128 x129 x130 x131 x132 x133 x134 x135 x136 x137 x138 x139 x140 x141 x142 x143 x144 x145 x146 x147 x148 x149 x150 x151 x152 x153 x154 x155 x156 x157 x158 x159 x160 x161 x162 x163 x164 x165 x166 x167 x168 x169 x170 x171 x172 x173 x174 x175 x176 x177 x178 x179 x180 x181 x182 x183 x184 x185 x186 x187 x188 x189 x190 x191 x192 x193 x194 x195 x196 x197 x198 x199 x200 x201 x202 x203 x204 x205 x206 x207 x208 x209 x210 x211 x212 x213 x214 x215 x216 x217 x218 x219 x220 x221 x222 x223 x224 x225 x226 x227 x228 x229 x230 x231 x232 x233 x234 x235 x236 x237 x238 x239 x240 x241 x242 x243 x244 x245 x246 x247 x248 x249 x250 x251 x252 x253 x254 x255 x256 x257 x258 x259 x260 x261 x262 x263 x264 x265 x266 x267 x268 x269 x270 x271 x272 x273 x274 x275 x276 x277 x278 x279 x280 x281 x282 x283 x284 x285 x286 x287 x288 x289 x290 x291 x292 x293 x294 x295 x296 x297 x298 x299 x300 x301 : Value) (Kx : Act → World → Prop) (Qx : Exit → Act → World → Prop)
    (hlt : k < L) (hL2 : L ≤ 200) (hhl : hs.length ≤ k) (hlb : lb < w.heap.size) (hf0 : w.cell? ⟨lb, lo + k * 5, none⟩ = some (.int .u8 (a.d : Int))) (hf4 : w.cell? ⟨lb, lo + k * 5 + 4, none⟩ = some (.slice a.A a.L a.c)) (hok : a.ok w) (hq : QOk s) (hin : InI hi) (hgl : hg < 4294967296)
    (hps2 : Hid (PS P w R Rq s s (.slice A14 hs.length c14) hs (fun k => False ∨ k = b16) gB cB gG cG gL cL vN wc)) (hblk2 : Hid (wc.heap[b16]? = some (.cells #[.int .i64 hi, .int .u32 (hg : Int)] 29 (0, 0)))) (hd : a.d % 4 = 3) (hgd : s.good hi hg = true)
    (hQ : ∀ (y17 y18 y19 y20 y21 y22 y23 y24 y25 y149 y150 y151 y152 y153 y154 y155 y156 y157 y158 y159 y160 y161 y162 y163 y164 y165 y166 y167 y168 y169 y170 y171 y172 y173 y174 y175 y176 y177 y178 y179 y180 y181 y182 y183 y184 y185 y186 y187 y188 y189 y190 y191 y192 y193 y194 y195 y196 y197 y198 y199 y200 y201 y202 y203 y204 y205 y206 y207 y208 y209 y210 y211 y212 y213 y214 y215 y216 y217 y218 y219 y220 y221 y222 y223 y224 y225 y226 y227 y228 y229 y230 y231 y232 y233 y234 y235 y236 y237 y238 y239 y240 y241 y242 y243 y244 y245 y246 y247 y248 y249 y250 y251 y252 y253 y254 y255 y256 y257 y258 y259 y260 y261 y262 y263 y264 y265 y266 y267 y268 y269 y270 y271 y272 y273 y274 y275 y276 y277 y278 y279 y280 y281 y282 y283 y284 y285 y286 y287 y288 y289 y290 y291 y292 y293 y294 y295 y296 y297 y298 y299 y300 v' : Value) (s' : QS) (hs' : List (Int × Nat)) (vN' : Value) (W9 : World), PS P w R Rq s' s' v' hs' (fun _ => False) gB cB gG cG gL cL vN' W9 → QOk s' → hs'.length ≤ k + 1 → Kx ⟨#[x0, x1, .slice (some ⟨lb, lo, none⟩) L c, x3, x4, x5, x6, .pointer (some ⟨R, 0, none⟩), x8, x9, x10, x11, x12, .pointer (some ⟨Rq, 0, none⟩), v', .int .i64 (k : Int), .pointer (some ⟨b16, 0, none⟩), y17, y18, y19, y20, y21, y22, y23, y24, y25, x26, x27, x28, x29, x30, x31, x32, x33, x34, x35, x36, x37, x38, x39, x40, x41, x42, x43, x44, x45, x46, x47, x48, x49, x50, x51, x52, x53, x54, x55, x56, x57, x58, x59, x60, x61, x62, x63, x64, x65, x66, x67, x68, x69, x70, x71, x72, x73, x74, x75, x76, x77, x78, x79, x80, x81, x82, x83, x84, x85, x86, x87, x88, x89, x90, x91, x92, x93, x94, x95, x96, x97, x98, x99, x100, x101, x102, x103, x104, x105, x106, x107, x108, x109, x110, x111, x112, x113, x114, x115, x116, x117, x118, x119, x120, x121, x122, x123, x124, x125, x126, x127, x128, x129, x130, x131, x132, x133, x134, x135, x136, x137, x138, x139, x140, x141, x142, x143, x144, x145, x146, x147, x148, y149, y150, y151, y152, y153, y154, y155, y156, y157, y158, y159, y160, y161, y162, y163, y164, y165, y166, y167, y168, y169, y170, y171, y172, y173, y174, y175, y176, y177, y178, y179, y180, y181, y182, y183, y184, y185, y186, y187, y188, y189, y190, y191, y192, y193, y194, y195, y196, y197, y198, y199, y200, y201, y202, y203, y204, y205, y206, y207, y208, y209, y210, y211, y212, y213, y214, y215, y216, y217, y218, y219, y220, y221, y222, y223, y224, y225, y226, y227, y228, y229, y230, y231, y232, y233, y234, y235, y236, y237, y238, y239, y240, y241, y242, y243, y244, y245, y246, y247, y248, y249, y250, y251, y252, y253, y254, y255, y256, y257, y258, y259, y260, y261, y262, y263, y264, y265, y266, y267, y268, y269, y270, y271, y272, y273, y274, y275, y276, y277, y278, y279, y280, y281, y282, y283, y284, y285, y286, y287, y288, y289, y290, y291, y292, y293, y294, y295, y296, y297, y298, y299, y300, x301], []⟩ W9) :
    Code.wp Try.prog ((Try.f3.body.bind (tailAt 18)).getD .skip) (Exit.inBlock 1 (Exit.then Kx Qx)) ⟨#[x0, x1, .slice (some ⟨lb, lo, none⟩) L c, x3, x4, x5, x6, .pointer (some ⟨R, 0, none⟩), x8, x9, x10, x11, x12, .pointer (some ⟨Rq, 0, none⟩), .slice A14 hs.length c14, .int .i64 (k : Int), .pointer (some ⟨b16, 0, none⟩), x17, x18, x19, x20, x21, x22, x23, x24, x25, x26, x27, x28, x29, x30, x31, x32, x33, x34, x35, x36, x37, x38, x39, x40, x41, x42, x43, x44, x45, x46, x47, x48, x49, x50, x51, x52, x53, x54, x55, x56, x57, x58, x59, x60, x61, x62, x63, x64, x65, x66, x67, x68, x69, x70, x71, x72, x73, x74, x75, x76, x77, x78, x79, x80, x81, x82, x83, x84, x85, x86, x87, x88, x89, x90, x91, x92, x93, x94, x95, x96, x97, x98, x99, x100, x101, x102, x103, x104, x105, x106, x107, x108, x109, x110, x111, x112, x113, x114, x115, x116, x117, x118, x119, x120, x121, x122, x123, x124, x125, x126, x127, x128, x129, x130, x131, x132, x133, x134, x135, x136, x137, x138, x139, x140, x141, x142, x143, x144, x145, x146, x147, x148, x149, x150, x151, x152, x153, x154, x155, x156, x157, x158, x159, x160, x161, x162, x163, x164, x165, x166, x167, x168, x169, x170, x171, x172, x173, x174, x175, x176, x177, x178, x179, x180, x181, x182, x183, x184, x185, x186, x187, x188, x189, x190, x191, x192, x193, x194, x195, x196, x197, x198, x199, x200, x201, x202, x203, x204, x205, x206, x207, x208, x209, x210, x211, x212, x213, x214, x215, x216, x217, x218, x219, x220, x221, x222, x223, x224, x225, x226, x227, x228, x229, x230, x231, x232, x233, x234, x235, x236, x237, x238, x239, x240, x241, x242, x243, x244, x245, x246, x247, x248, x249, x250, x251, x252, x253, x254, x255, x256, x257, x258, x259, x260, x261, x262, x263, x264, x265, x266, x267, x268, x269, x270, x271, x272, x273, x274, x275, x276, x277, x278, x279, x280, x281, x282, x283, x284, x285, x286, x287, x288, x289, x290, x291, x292, x293, x294, x295, x296, x297, x298, x299, x300, x301], []⟩ wc := by
  obtain ⟨iH, hiH, hzH, hsH, hbH⟩ := infoH
  have HQx := Lib.hid hQ
  have HOK := Lib.hid hok
  have HF4 := Lib.hid hf4
  have HQ := Lib.hid hq
  have hki : (k : Int) < L := by omega
  have hLi : (L : Int) ≤ 200 := by omega
  have hhs : (hs.length : Int) ≤ 200 := by omega
  have g0 := (hps2.out.live.below.cell (p := ⟨lb, lo + k * 5, none⟩) hlb).trans hf0
  have hd256 : (a.d : Int) < 256 := by have := hok.1; omega
  clear hQ hok hf4 hq hf0
  conv => arg 2; whnf
  have hdi : (a.d : Int) % 4 = 3 := by omega
  have h0 := blk_cell hblk2.out 0
  have h1 := blk_cell hblk2.out 1
  simp at h0 h1
  have HG := Lib.hid hgd
  obtain ⟨i, e, hisn, -, -⟩ := QS.good_lt hgd
  subst e
  clear hgd
  go_wp2_with fail
  refine (hps2.out.live.bytes_ok i hg hin hgl HG.out).mono ?_
  rintro e W3 ⟨u, n23, rfl, hown3, hl3, hm3⟩
  obtain ⟨A23, c23, rfl⟩ := own_form hown3
  obtain ⟨hps3, hkp3⟩ := hps2.out.bytes hl3 hm3 hown3
  rw [Int.toNat_natCast] at hown3
  obtain ⟨x, hx⟩ : ∃ x, x = s.B.getD i [] := ⟨_, rfl⟩
  rw [← hx] at hown3
  have hblk3 := hkp3.blk hblk2.out (.inr rfl)
  have k0 := blk_cell hblk3 0
  have k1 := blk_cell hblk3 1
  simp at k0 k1
  have hn47 := own_le hown3
  have HO3 := Lib.hid hown3
  have HP3 := Lib.hid hps3
  have HX := Lib.hid hx
  have hii : (i : Int) < s.n := by omega
  clear hown3 hl3 hm3 hps3 hkp3 hblk3 h0 h1 hx
  go_wp2_with fail
  refine (q_Good _ w.heap.size Rq gB cB gG cG gL cL vN s HP3.out.rq i hg hin.1 hin.2 hgl).mono ?_
  rintro e W4 ⟨rfl, rfl⟩
  rw [HG.out]
  have r1 := blk_cell HP3.out.rq.blk 1
  simp at r1
  have rB := HP3.out.rq.cB' i hisn
  rw [← HX.out] at rB
  unfold sV at rB
  obtain ⟨AN, cN, rfl⟩ := own_form HP3.out.rq.hN
  have hconv := run_conv (P := Try.prog) (w := W3.drew) (HasA.of_own HO3.out) c23 Try.underlying32 Try.underlying5 Try.underlying9 (n := n23) (own_len HO3.out)
  go_wp2
  go_region
  have HUP : Hid (Up P w R Rq s (.slice A14 hs.length c14) hs (fun k => (False ∨ k = b16) ∨ (Value.slice A23 n23 c23).ownBlock = some k) gB cB gG cG gL cL (.slice AN s.N.length cN) (.slice A23 n23 c23) n23 W3.drew) :=
    Lib.hid ⟨HP3.out.drew, fun _ => ⟨x, own_base HO3.out hps2.out.live.below.size⟩, fun _ k hk => .inr hk⟩
  clear k0 k1 r1 rB hconv
  go_wp2
  go_loopw [25] (fun i wr => ∃ j : Nat, j ≤ n23 ∧ i = .int .i64 (j : Int) ∧ Hid (Up P w R Rq s (.slice A14 hs.length c14) hs (fun k => (False ∨ k = b16) ∨ (Value.slice A23 n23 c23).ownBlock = some k) gB cB gG cG gL cL (.slice AN s.N.length cN) (.slice A23 n23 c23) n23 wr)) (fun i _ => n23 - (intOf i).toNat)
  case atStart => exact ⟨0, Nat.zero_le _, rfl, HUP⟩
  case round =>
    obtain ⟨j, hj, rfl, hup⟩ := hrel
    by_cases hjl : j < n23
    · have hji : (j : Int) < n23 := by omega
      have hj47 : (j : Int) + 1 ≤ 9223372036854775807 := by omega
      obtain ⟨g21, b, hAe, hcb, hzb⟩ := hup.out.cell j hjl
      subst hAe
      have hnext := hup.out.step j hjl (UInt8.ofNat ((b.toNat + 1) % 256))
      rw [← enc_up] at hnext
      have HN1 := Lib.hid hnext
      clear hnext hup
      go_wp2
      exact ⟨⟨j + 1, by omega, by congr 1, HN1.out⟩, by simp only [intOf]; omega⟩
    · obtain rfl : n23 = j := by omega
      have HUE := hup
      go_wp2
      refine plays_free P w R Rq s _ hs (fun k => (False ∨ k = b16) ∨ (Value.slice A23 n23 c23).ownBlock = some k) gB cB gG cG gL cL AN cN _ _ _ rfl rfl rfl rfl HUE.out.ps ?_
      intro W9 hps9
      have HP9 := Lib.hid hps9
      clear hps9
      simp only [puts, List.foldl_cons, List.foldl_nil, Act.put, List.setIfInBounds_toArray, List.set_cons_succ, List.set_cons_zero]
      go_wp2
      exact HQx.out _ _ _ _ _ _ _ _ _ _ _ _ _ _ _ _ _ _ _ _ _ _ _ _ _ _ _ _ _ _ _ _ _ _ _ _ _ _ _ _ _ _ _ _ _ _ _ _ _ _ _ _ _ _ _ _ _ _ _ _ _ _ _ _ _ _ _ _ _ _ _ _ _ _ _ _ _ _ _ _ _ _ _ _ _ _ _ _ _ _ _ _ _ _ _ _ _ _ _ _ _ _ _ _ _ _ _ _ _ _ _ _ _ _ _ _ _ _ _ _ _ _ _ _ _ _ _ _ _ _ _ _ _ _ _ _ _ _ _ _ _ _ _ _ _ _ _ _ _ _ _ _ _ _ _ _ _ _ _ _ _ _ _ _ _ _ (HP9.out.less (fun _ h => h.elim)) (HQ.out) (by omega)
end Go.Proofs.Ytmpaefndkobgnaa
