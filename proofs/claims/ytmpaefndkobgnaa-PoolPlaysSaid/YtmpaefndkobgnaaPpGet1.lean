/- The walk of the law on acts, a round: Get1. -/
import Derived.Test.YtmpaefndkobgnaaPpAct
import Derived.Deep.DeepCutAuto
import Derived.Deep.CutBlock
namespace Go.Proofs.Ytmpaefndkobgnaa
open Go.RowKit

set_option maxRecDepth 1000000 in
set_option maxHeartbeats 8000000 in
theorem act_get1 (P : PoolK) (w : World) (R Rq gB cB gG cG gL cL : Nat) (vN : Value) (s : QS) (hs : List (Int × Nat)) (A14 : Option Addr) (c14 lb lo L c k b16 : Nat) (a : ActV) (hi : Int) (hg : Nat) (wc : World) (x0 x1 x3 x4 x5 x6 x8 x9 x10 x11 x12 x17 x18 x19 x20 x21 x22 x23 x24 x25 x26 x27 x28 x29 x30 x31 x32 x33 x34 x35 x36 x37 x38 x39 x40 x41 x42 x43 x44 x45 x46 x47 x48 x49 x50 x51 x52 x53 x54 x55 x56 x57 x58 x59 x60 x61 x62 x63 x64 x65 x66 x67 x68 x69 x70 x71 x72 x73 x74 x75 x76 x77 x78 x79 x80 x81 x82 x83 x84 x85 x86 x87 x88 x89 x90 x91 x92 x93 x94 x95 x96 x97 x98 x99 x100 x101 x102 x103 x104 x105 x106 x107 x108 x109 x110 x111 x112 x113 x114 x115 x116 x117 x118 x119 x120 x121 x122 x123 x124 x125 x126 x127 x128 x129 x130 x131 x132 x133 x134 x135 x136 x137 x138 x139 x140 x141 x142 x143 x144 x145 x146 x147 x148 x149 x150 x151 x152 x153 x154 x155 x156 x157 x158 x159 x160 x161 x162 x163 x164 x165 x166 x167 x168 x169 x170 x171 x172 x173 x174 x175 x176 x177 x178 x179 x180 x181 x182 x183 x184 x185 x186 x187 x188 x189 x190 x191 x192 x193 x194 x195 x196 x197 x198 x199 x200 x201 x202 x203 x204 x205 x206 x207 x208 x209 x210 x211 x212 x213 x214 x215 x216 x217 x218 x219 x220 x221 x222 x223 x224 x225 x226 x227 x228 x229 x230 x231 x232 x233 x234 x235 x236 x237 x238 x239 x240 x241 x242 x243 x244 x245 x246 x247 x248 x249 x250 x251 x252 x253 x254 x255 x256 x257 x258 x259 x260 x261 x262 x263 x264 x265 x266 x267 x268 x269 x270 x271 x272 x273 x274 x275 x276 x277 x278 x279 x280 x281 x282 x283 x284 x285 x286 x287 x288 x289 x290 x291 x292 x293 x294 x295 x296 x297 x298 x299 x300 x301 : Value) (Kx : Act → World → Prop) (Qx : Exit → Act → World → Prop)
    (hlt : k < L) (hL2 : L ≤ 200) (hhl : hs.length ≤ k) (hlb : lb < w.heap.size) (hf0 : w.cell? ⟨lb, lo + k * 5, none⟩ = some (.int .u8 (a.d : Int))) (hf4 : w.cell? ⟨lb, lo + k * 5 + 4, none⟩ = some (.slice a.A a.L a.c)) (hok : a.ok w) (hq : QOk s) (hin : InI hi) (hgl : hg < 4294967296)
    (hps2 : Hid (PS P w R Rq s s (.slice A14 hs.length c14) hs (fun k => False ∨ k = b16) gB cB gG cG gL cL vN wc)) (hblk2 : Hid (wc.heap[b16]? = some (.cells #[.int .i64 hi, .int .u32 (hg : Int)] 29 (0, 0)))) (hd : a.d % 4 = 0) (i : Nat) (N' : List Nat) (hN : s.N = i :: N')
    (hQ : ∀ (y17 y18 y19 y20 y21 y22 y23 y24 y25 y149 y150 y151 y152 y153 y154 y155 y156 y157 y158 y159 y160 y161 y162 y163 y164 y165 y166 y167 y168 y169 y170 y171 y172 y173 y174 y175 y176 y177 y178 y179 y180 y181 y182 y183 y184 y185 y186 y187 y188 y189 y190 y191 y192 y193 y194 y195 y196 y197 y198 y199 y200 y201 y202 y203 y204 y205 y206 y207 y208 y209 y210 y211 y212 y213 y214 y215 y216 y217 y218 y219 y220 y221 y222 y223 y224 y225 y226 y227 y228 y229 y230 y231 y232 y233 y234 y235 y236 y237 y238 y239 y240 y241 y242 y243 y244 y245 y246 y247 y248 y249 y250 y251 y252 y253 y254 y255 y256 y257 y258 y259 y260 y261 y262 y263 y264 y265 y266 y267 y268 y269 y270 y271 y272 y273 y274 y275 y276 y277 y278 y279 y280 y281 y282 y283 y284 y285 y286 y287 y288 y289 y290 y291 y292 y293 y294 y295 y296 y297 y298 y299 y300 v' : Value) (s' : QS) (hs' : List (Int × Nat)) (vN' : Value) (W9 : World), PS P w R Rq s' s' v' hs' (fun _ => False) gB cB gG cG gL cL vN' W9 → QOk s' → hs'.length ≤ k + 1 → Kx ⟨#[x0, x1, .slice (some ⟨lb, lo, none⟩) L c, x3, x4, x5, x6, .pointer (some ⟨R, 0, none⟩), x8, x9, x10, x11, x12, .pointer (some ⟨Rq, 0, none⟩), v', .int .i64 (k : Int), .pointer (some ⟨b16, 0, none⟩), y17, y18, y19, y20, y21, y22, y23, y24, y25, x26, x27, x28, x29, x30, x31, x32, x33, x34, x35, x36, x37, x38, x39, x40, x41, x42, x43, x44, x45, x46, x47, x48, x49, x50, x51, x52, x53, x54, x55, x56, x57, x58, x59, x60, x61, x62, x63, x64, x65, x66, x67, x68, x69, x70, x71, x72, x73, x74, x75, x76, x77, x78, x79, x80, x81, x82, x83, x84, x85, x86, x87, x88, x89, x90, x91, x92, x93, x94, x95, x96, x97, x98, x99, x100, x101, x102, x103, x104, x105, x106, x107, x108, x109, x110, x111, x112, x113, x114, x115, x116, x117, x118, x119, x120, x121, x122, x123, x124, x125, x126, x127, x128, x129, x130, x131, x132, x133, x134, x135, x136, x137, x138, x139, x140, x141, x142, x143, x144, x145, x146, x147, x148, y149, y150, y151, y152, y153, y154, y155, y156, y157, y158, y159, y160, y161, y162, y163, y164, y165, y166, y167, y168, y169, y170, y171, y172, y173, y174, y175, y176, y177, y178, y179, y180, y181, y182, y183, y184, y185, y186, y187, y188, y189, y190, y191, y192, y193, y194, y195, y196, y197, y198, y199, y200, y201, y202, y203, y204, y205, y206, y207, y208, y209, y210, y211, y212, y213, y214, y215, y216, y217, y218, y219, y220, y221, y222, y223, y224, y225, y226, y227, y228, y229, y230, y231, y232, y233, y234, y235, y236, y237, y238, y239, y240, y241, y242, y243, y244, y245, y246, y247, y248, y249, y250, y251, y252, y253, y254, y255, y256, y257, y258, y259, y260, y261, y262, y263, y264, y265, y266, y267, y268, y269, y270, y271, y272, y273, y274, y275, y276, y277, y278, y279, y280, y281, y282, y283, y284, y285, y286, y287, y288, y289, y290, y291, y292, y293, y294, y295, y296, y297, y298, y299, y300, x301], []⟩ W9) :
    Code.wp Try.prog ((Try.f3.body.bind (tailAt 18)).getD .skip) (Exit.inBlock 1 (Exit.then Kx Qx)) ⟨#[x0, x1, .slice (some ⟨lb, lo, none⟩) L c, x3, x4, x5, x6, .pointer (some ⟨R, 0, none⟩), x8, x9, x10, x11, x12, .pointer (some ⟨Rq, 0, none⟩), .slice A14 hs.length c14, .int .i64 (k : Int), .pointer (some ⟨b16, 0, none⟩), x17, x18, x19, x20, x21, x22, x23, x24, x25, x26, x27, x28, x29, x30, x31, x32, x33, x34, x35, x36, x37, x38, x39, x40, x41, x42, x43, x44, x45, x46, x47, x48, x49, x50, x51, x52, x53, x54, x55, x56, x57, x58, x59, x60, x61, x62, x63, x64, x65, x66, x67, x68, x69, x70, x71, x72, x73, x74, x75, x76, x77, x78, x79, x80, x81, x82, x83, x84, x85, x86, x87, x88, x89, x90, x91, x92, x93, x94, x95, x96, x97, x98, x99, x100, x101, x102, x103, x104, x105, x106, x107, x108, x109, x110, x111, x112, x113, x114, x115, x116, x117, x118, x119, x120, x121, x122, x123, x124, x125, x126, x127, x128, x129, x130, x131, x132, x133, x134, x135, x136, x137, x138, x139, x140, x141, x142, x143, x144, x145, x146, x147, x148, x149, x150, x151, x152, x153, x154, x155, x156, x157, x158, x159, x160, x161, x162, x163, x164, x165, x166, x167, x168, x169, x170, x171, x172, x173, x174, x175, x176, x177, x178, x179, x180, x181, x182, x183, x184, x185, x186, x187, x188, x189, x190, x191, x192, x193, x194, x195, x196, x197, x198, x199, x200, x201, x202, x203, x204, x205, x206, x207, x208, x209, x210, x211, x212, x213, x214, x215, x216, x217, x218, x219, x220, x221, x222, x223, x224, x225, x226, x227, x228, x229, x230, x231, x232, x233, x234, x235, x236, x237, x238, x239, x240, x241, x242, x243, x244, x245, x246, x247, x248, x249, x250, x251, x252, x253, x254, x255, x256, x257, x258, x259, x260, x261, x262, x263, x264, x265, x266, x267, x268, x269, x270, x271, x272, x273, x274, x275, x276, x277, x278, x279, x280, x281, x282, x283, x284, x285, x286, x287, x288, x289, x290, x291, x292, x293, x294, x295, x296, x297, x298, x299, x300, x301], []⟩ wc := by
  obtain ⟨iH, hiH, hzH, hsH, hbH⟩ := infoH
  have HQx := Lib.hid hQ
  have HOK := Lib.hid hok
  have HF4 := Lib.hid hf4
  have HQ := Lib.hid hq
  have hki : (k : Int) < L := by omega
  have hLi : (L : Int) ≤ 200 := by omega
  have hhs : (hs.length : Int) ≤ 200 := by omega
  have g0 := (hps2.out.live.below.cell (p := ⟨lb, lo + k * 5, none⟩) hlb).trans hf0
  have hd256 : (a.d : Int) < 256 := by have := hok.1; omega
  clear hQ hok hf4 hq hf0
  conv => arg 2; whnf
  have hdi : (a.d : Int) % 4 = 0 := by omega
  have HN := Lib.hid hN
  clear hN
  go_wp2_with fail
  refine (hps2.out.live.get_one HN.out).mono ?_
  rintro e W3 ⟨he, hl3, hm3⟩
  obtain ⟨g', hg'⟩ : ∃ g', g' = (s.G.getD i 0 + 1) % 4294967296 := ⟨_, rfl⟩
  have hgl' : g' < 4294967296 := by rw [hg']; exact Nat.mod_lt _ (by omega)
  rw [← hg'] at he
  obtain rfl : e = .returned (.tuple #[.agg #[.int .i64 (i : Int), .int .u32 (g' : Int)], .int .i64 0]) := he
  obtain ⟨hps3, -⟩ := hps2.out.pool hl3 hm3
  have HP3 := Lib.hid (hps3.alloc (.cells #[.int .i64 (i : Int), .int .u32 (g' : Int)] 29))
  have HK3 := Lib.hid (World.alloc_heap_new W3 (.cells #[.int .i64 (i : Int), .int .u32 (g' : Int)] 29))
  have hisn : i < s.n := HQ.out.lt i (by rw [HN.out]; simp)
  have hsn : s.n ≤ 4096 := hps3.rq.hn
  have hii : (i : Int) < s.n := by omega
  have hi0 : ¬ (i : Int) < 0 := by omega
  have HG' := Lib.hid hg'
  clear hps3 hl3 hm3 hg'
  go_wp2_with fail
  refine (q_Get_one _ w.heap.size Rq gB cB gG cG gL cL vN s HP3.out.rq i N' HN.out HP3.out.live.below.size).mono ?_
  rintro e W4 ⟨rfl, vN4, hrq4, ho4, hv4⟩
  obtain ⟨hps4, hk4⟩ := HP3.out.ref hrq4 ho4 (fun k h => .inr (hv4 k h))
  have hb18 := hk4.blk HK3.out (.inr rfl)
  have c0 := blk_cell hb18 0
  have c1 := blk_cell hb18 1
  simp at c0 c1
  have r2 : W4.cell? ⟨Rq, 2, none⟩ = some (.slice (some ⟨gG, 0, none⟩) s.n cG) := (by simpa using blk_cell hrq4.blk 2 : W4.cell? ⟨Rq, 2, none⟩ = some (.slice (some ⟨gG, 0, none⟩) (s.getS i N').n cG))
  have rg : W4.cell? ⟨gG, i, none⟩ = some (.int .u32 (g' : Int)) := by
    rw [hrq4.cG' i hisn, HG'.out]
    have hl := HP3.out.rq.lG
    simp [QS.getS, List.getD, List.getElem?_set, hl, hisn]
  have HP4 := Lib.hid hps4.drew
  clear hps4 hk4 hb18 hrq4 ho4 hv4
  go_wp2
  go_region
  have hhl' : hs.length ≤ 200 := by omega
  go_wp2_with (at_builtin; refine wpList_append_lies _ rfl (.tmp 188) (.tmp 190) 41 rfl w.heap.size 29 iH (.agg #[.int .i64 0, .int .u32 0]) 2 16 Try.underlying41 hiH hzH hsH hbH rfl (by decide) _ hs.length (hcs hs) rfl (own_keep HP4.out.row (fun x hx => Below.heap_alloc _ _ _ ((HP4.out.live.mine x (.inr (.inl hx))).2))) ⟨W4.drew.heap.size, 0, none⟩ 1 1 [.int .i64 (i : Int), .int .u32 (g' : Int)] rfl rfl (cell_two_new _ _ _ _) (by simp [Value.oneCell']) (by decide) (by simp only [maxLen]; omega) (by omega) (by have := HP4.out.live.below.size; simp at this ⊢; omega) _ rfl ?_; intro g5 c5 W5 hown5 hg5 hg5' hg5s)
  have hps5 := HP4.out.put (h0 := ((i : Int), g')) hown5 (((Only.refl _ _).alloc _).grown hg5 (fun x e => .inl e)) (fun x hx => by
    cases hx
    refine ⟨hg5'.elim .inl (fun e => .inr ?_), hg5s⟩
    show W4.drew.heap.size ≤ g5
    rw [e]; simp) ⟨⟨by omega, by omega⟩, hgl'⟩
  clear hown5 hg5 hg5'
  obtain ⟨AN, cN, hvN⟩ := own_form hps5.rq.hN
  subst hvN
  have HPT := Lib.hid hps5
  go_wp2
  refine plays_free P w R Rq (s.getS i N') _ (hs ++ [((i : Int), g')]) (fun _ => False) gB cB gG cG gL cL AN cN _ _ _ rfl rfl rfl rfl HPT.out ?_
  intro W9 hps9
  have HP9 := Lib.hid hps9
  clear hps9
  simp only [puts, List.foldl_cons, List.foldl_nil, Act.put, List.setIfInBounds_toArray, List.set_cons_succ, List.set_cons_zero]
  go_wp2
  exact HQx.out _ _ _ _ _ _ _ _ _ _ _ _ _ _ _ _ _ _ _ _ _ _ _ _ _ _ _ _ _ _ _ _ _ _ _ _ _ _ _ _ _ _ _ _ _ _ _ _ _ _ _ _ _ _ _ _ _ _ _ _ _ _ _ _ _ _ _ _ _ _ _ _ _ _ _ _ _ _ _ _ _ _ _ _ _ _ _ _ _ _ _ _ _ _ _ _ _ _ _ _ _ _ _ _ _ _ _ _ _ _ _ _ _ _ _ _ _ _ _ _ _ _ _ _ _ _ _ _ _ _ _ _ _ _ _ _ _ _ _ _ _ _ _ _ _ _ _ _ _ _ _ _ _ _ _ _ _ _ _ _ _ _ _ _ _ _ (HP9.out.less (fun _ h => h.elim)) (HQ.out.get HN.out) (by first | omega | (simp; omega))
end Go.Proofs.Ytmpaefndkobgnaa
