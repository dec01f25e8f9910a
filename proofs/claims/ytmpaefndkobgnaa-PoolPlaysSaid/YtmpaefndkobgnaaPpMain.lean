/- The walk of the law on acts: pools and acts that are looked at. -/
import Derived.Test.YtmpaefndkobgnaaPpGet0
import Derived.Test.YtmpaefndkobgnaaPpGet1
import Derived.Test.YtmpaefndkobgnaaPpBk
import Derived.Test.YtmpaefndkobgnaaPpSt
import Derived.Test.YtmpaefndkobgnaaPpBy1
import Derived.Test.YtmpaefndkobgnaaPpBy0
namespace Go.Proofs.Ytmpaefndkobgnaa
open Go.RowKit

set_option maxRecDepth 100000 in
set_option maxHeartbeats 8000000 in
theorem plays_main (P : PoolK) (n sz : Nat) (hn : 1 ≤ n ∧ n ≤ 50) (hsz : 1 ≤ sz ∧ sz ≤ 100) (A : Option Addr) (L c : Nat) (l : List ActV) (hL : L = l.length) (hL2 : L ≤ 200) (w : World) (hA : InActs w A l) :
    Calls Try.prog 3 #[.int .i64 (n : Int), .int .i64 (sz : Int), .slice A L c] w fun e W' => e = .returned (.bool true) ∧ Below w.heap.size w W' := by
  obtain ⟨iH, hiH, hzH, hsH, hbH⟩ := infoH
  have a1 : ¬ (n : Int) < 1 := by omega
  have a2 : ¬ (4096 : Int) < n := by omega
  have a3 : ¬ (sz : Int) < 1 := by omega
  have a4 : ¬ (65536 : Int) < sz := by omega
  have a5 : ¬ (50 : Int) < n := by omega
  have a6 : ¬ (100 : Int) < sz := by omega
  have a7 : ¬ (200 : Int) < L := by omega
  have hLi : (L : Int) ≤ 200 := by omega
  have HL := Lib.hid hL
  have HA := Lib.hid hA
  clear hL hA
  go_enter Try.func3, Try.ntmps3
  go_wp2_with fail
  refine (Live.new P n sz w (by omega) (by omega) (by omega) (by omega)).mono ?_
  rintro e W1 ⟨R, rfl, hl1⟩
  have L1 := Lib.hid hl1
  clear hl1
  go_wp2_with fail
  refine (q_New n sz (by omega) (by omega) (by omega) W1).mono ?_
  rintro e W2 ⟨rfl, ⟨gB, cB, gG, cG, gL, cL, vN, hrq⟩, hb2⟩
  have hps : PS P w R W1.heap.size (QS.new n sz) (QS.new n sz) (.slice none 0 0) [] (fun _ => False) gB cB gG cG gL cL vN W2 := by
    have hlt := hrq.lt
    refine ⟨L1.out.own (M' := fun k => FQ W1.heap.size gB gG gL vN k ∨ (Value.slice none 0 0).ownBlock = some k ∨ False) (Only.of_grew hb2) (fun k hk => ?_), ⟨hrq.blk, own_base hrq.hB L1.out.below.size, own_base hrq.hG L1.out.below.size, own_base hrq.hL L1.out.below.size, own_base hrq.hN L1.out.below.size, L1.out.below.size, hrq.hn, hrq.hNl, hrq.hNn, hrq.hGl, hrq.hsz⟩, World.ownsRow_nil _ _ _ _, fun k hk => ⟨(fun e => by cases e), (fun h => h)⟩, (fun _ h => h.elim), (fun _ h => by cases h)⟩
    rcases hk with hk | hk | hk
    · exact ⟨.inr (hlt k hk).1, (hlt k hk).2⟩
    · cases hk
    · exact hk.elim
  have HPS := Lib.hid hps
  clear hps hrq hb2
  go_wp2
  go_loopw [14, 15] (fun v i wr => ∃ k : Nat, k ≤ L ∧ i = .int .i64 (k : Int) ∧ Hid (PL P w R W1.heap.size gB cB gG cG gL cL k v wr)) (fun _ i _ => L - (intOf i).toNat)
  case atStart =>
    exact ⟨0, Nat.zero_le _, rfl, ⟨_, _, _, HPS.out, QOk.new _ _, Nat.le_refl _⟩⟩
  case round =>
    obtain ⟨k, hk, rfl, hpl⟩ := hrel
    by_cases hlt : k < L
    · have hki : (k : Int) < L := by omega
      have hkl : k < l.length := by rw [← HL.out]; exact hlt
      have hne : l ≠ [] := by rintro rfl; simp at hkl
      obtain ⟨lb, lo, hAe, hlb, hcell⟩ := HA.out hne
      subst hAe
      obtain ⟨f0, f1, f2, f3, f4, hok⟩ := hcell k hkl
      obtain ⟨s, hs, vN, hps, hq, hhl⟩ := hpl.out
      have low := hps.live.below
      have g0 := (low.cell (p := ⟨lb, lo + k * 5, none⟩) hlb).trans f0
      have g1 := (low.cell (p := ⟨lb, lo + k * 5 + 1, none⟩) hlb).trans f1
      have g2 := (low.cell (p := ⟨lb, lo + k * 5 + 2, none⟩) hlb).trans f2
      have g3 := (low.cell (p := ⟨lb, lo + k * 5 + 3, none⟩) hlb).trans f3
      have g4 := (low.cell (p := ⟨lb, lo + k * 5 + 4, none⟩) hlb).trans f4
      obtain ⟨a, ha⟩ : ∃ a, a = l[k] := ⟨_, rfl⟩
      rw [← ha] at g0 g1 g2 g3 g4 hok f4 f0
      have HPS1 := Lib.hid hps
      have HOK := Lib.hid hok
      have HF4 := Lib.hid f4
      have HF0 := Lib.hid f0
      have HQ := Lib.hid hq
      obtain ⟨A14, c14, hv14⟩ : ∃ A c, u14 = .slice A hs.length c := by
        rcases hps.row.2 with ⟨e, h0⟩ | ⟨g, cap, cur, e, _⟩
        · exact ⟨none, 0, by rw [e, h0]⟩
        · exact ⟨_, _, e⟩
      subst hv14
      clear hcell f0 f1 f2 f3 f4 hok hps hq low hne ha
      have HPA := Lib.hid (HPS1.out.alloc (.cells #[.int .i64 a.i, .int .u32 (a.g : Int)] 29))
      have HKA := Lib.hid (World.alloc_heap_new wr (.cells #[.int .i64 a.i, .int .u32 (a.g : Int)] 29))
      obtain ⟨WA, hWA⟩ : ∃ WA, WA = wr.alloc (.cells #[.int .i64 a.i, .int .u32 (a.g : Int)] 29) := ⟨_, rfl⟩
      obtain ⟨b16, hb16⟩ : ∃ b16, b16 = wr.heap.size := ⟨_, rfl⟩
      have hcell1 : WA.cell? ⟨lb, lo + k * 5 + 1, none⟩ = some (.int .i64 a.k) := (HPA.out.live.below.cell (p := ⟨lb, lo + k * 5 + 1, none⟩) hlb |> fun h => by rw [hWA]; exact h.trans ((HPS1.out.live.below.cell (p := ⟨lb, lo + k * 5 + 1, none⟩) hlb).symm.trans g1))
      go_upto_region 16 with (fail)
      rw [← hWA, ← hb16]
      rw [← hWA] at HPA HKA
      rw [← hb16] at HPA HKA
      have hhs : (hs.length : Int) ≤ 200 := by omega
      have HWA := Lib.hid hWA
      have HB16 := Lib.hid hb16
      clear hWA hb16 g0 g1 g2 g3 g4
      go_cut [137] (fun s137 wx => WA = wx ∧ s137 = .bool (decide (0 < hs.length) && decide (0 ≤ a.k)))
      case first =>
        by_cases h0 : 0 < hs.length
        · have h0i : (0 : Int) < hs.length := by omega
          have h0d : decide (0 < hs.length) = true := by simpa using h0
          by_cases hk0 : 0 ≤ a.k
          · go_wp2
            go_meet
            exact ⟨rfl, by simp [h0, hk0]⟩
          · go_wp2
            go_meet
            exact ⟨rfl, by simp [h0, hk0]⟩
        · have h0i : ¬ (0 : Int) < hs.length := by omega
          go_wp2
          go_meet
          exact ⟨rfl, by simp [h0]⟩
      case rest =>
        obtain ⟨rfl, rfl⟩ := hcut
        go_upto_if 137 with (fail)
        go_cut [16] (fun s16 wx => s16 = .pointer (some ⟨b16, 0, none⟩) ∧ ∃ (hi : Int) (hg : Nat), InI hi ∧ hg < 4294967296 ∧ Hid (PS P w R W1.heap.size s s (.slice A14 hs.length c14) hs (fun k => False ∨ k = b16) gB cB gG cG gL cL vN wx) ∧ Hid (wx.heap[b16]? = some (.cells #[.int .i64 hi, .int .u32 (hg : Int)] 29 (0, 0))))
        case first =>
          by_cases hsel : 0 < hs.length ∧ 0 ≤ a.k
          · obtain ⟨h0, hk0⟩ := hsel
            have hrow := HPA.out.row
            obtain ⟨g14, c14', hv, -, -⟩ := hrow.form h0
            cases hv
            obtain ⟨q, hq⟩ : ∃ q, q = a.k.toNat % hs.length := ⟨_, rfl⟩
            have hql : q < hs.length := by rw [hq]; exact Nat.mod_lt _ h0
            have hix : a.k % (hs.length : Int) = (q : Int) := by
              have e := Int.toNat_of_nonneg hk0
              rw [hq]
              conv => lhs; rw [← e]
              first | rfl | simp
            have hm0 : ((hs.length : Int) == 0) = false := beq_eq_false_iff_ne.2 (by omega)
            have hqi : (q : Int) < hs.length := by omega
            have d0 : WA.cell? ⟨g14, q * 2, none⟩ = some (.int .i64 hs[q].1) := (hrow.cellAt (q * 2) (by omega)).trans (hcs_get hs q hql).1
            have d1 : WA.cell? ⟨g14, q * 2 + 1, none⟩ = some (.int .u32 (hs[q].2 : Int)) := (hrow.cellAt (q * 2 + 1) (by omega)).trans (hcs_get hs q hql).2
            have c0 := blk_cell HKA.out 0
            have c1 := blk_cell HKA.out 1
            have z0 := blk_frozen HKA.out 0
            have z1 := blk_frozen HKA.out 1
            simp at c0 c1
            have hb : (decide (0 < hs.length) && decide (0 ≤ a.k)) = true := by simp [h0, hk0]
            have HQ9 := Lib.hid hq
            have hok9 := HPA.out.ok hs[q] (List.getElem_mem hql)
            rw [hb]
            clear hrow hq hb
            go_wp2
            go_meet
            refine ⟨rfl, hs[q].1, hs[q].2, hok9.1, hok9.2, ?_, ?_⟩
            · exact HPA.out.own (((Only.refl _ _).setCell (.inl (.inr rfl)) _).setCell (.inl (.inr rfl)) _) (fun x hx => ⟨.inl hx, by have := HPA.out.xlt hx; simpa [World.setCell] using this⟩)
            · have := blk_set (blk_set HKA.out 0 (.int .i64 hs[q].1)) 1 (.int .u32 (hs[q].2 : Int))
              exact Lib.hid (by simpa using this)
          · have hb : (decide (0 < hs.length) && decide (0 ≤ a.k)) = false := by
              rcases Nat.eq_zero_or_pos hs.length with h | h
              · simp [h]
              · simp [h]; omega
            rw [hb]
            clear hb hsel
            go_wp2
            go_meet
            exact ⟨rfl, a.i, a.g, HOK.out.2.2.1, HOK.out.2.2.2.1, HPA.out, HKA.out⟩
        case rest =>
          obtain ⟨rfl, hi, hg, hin, hgl, hps2, hblk2⟩ := hcut
          have low := hps2.out.live.below
          have g0 := (low.cell (p := ⟨lb, lo + k * 5, none⟩) hlb).trans HF0.out
          have hd256 : (a.d : Int) < 256 := by have := HOK.out.1; omega
          have hcs : a.d % 4 = 0 ∨ a.d % 4 = 1 ∨ a.d % 4 = 2 ∨ a.d % 4 = 3 := by omega
          clear low
          clear g0 hd256
          apply_assumption
          rcases hcs with hd | hd | hd | hd
          · cases hN : s.N with
            | nil =>
              refine act_get0 P w R W1.heap.size gB cB gG cG gL cL vN s hs A14 c14 lb lo L c k b16 a hi hg wc _ _ _ _ _ _ _ _ _ _ _ _ _ _ _ _ _ _ _ _ _ _ _ _ _ _ _ _ _ _ _ _ _ _ _ _ _ _ _ _ _ _ _ _ _ _ _ _ _ _ _ _ _ _ _ _ _ _ _ _ _ _ _ _ _ _ _ _ _ _ _ _ _ _ _ _ _ _ _ _ _ _ _ _ _ _ _ _ _ _ _ _ _ _ _ _ _ _ _ _ _ _ _ _ _ _ _ _ _ _ _ _ _ _ _ _ _ _ _ _ _ _ _ _ _ _ _ _ _ _ _ _ _ _ _ _ _ _ _ _ _ _ _ _ _ _ _ _ _ _ _ _ _ _ _ _ _ _ _ _ _ _ _ _ _ _ _ _ _ _ _ _ _ _ _ _ _ _ _ _ _ _ _ _ _ _ _ _ _ _ _ _ _ _ _ _ _ _ _ _ _ _ _ _ _ _ _ _ _ _ _ _ _ _ _ _ _ _ _ _ _ _ _ _ _ _ _ _ _ _ _ _ _ _ _ _ _ _ _ _ _ _ _ _ _ _ _ _ _ _ _ _ _ _ _ _ _ _ _ _ _ _ _ _ _ _ _ _ _ _ _ _ _ _ _ _ _ _ _ _ _ _ _ _ _ _ _ _ _ _ _ _ _ _ _ _ _ _ hlt hL2 hhl hlb HF0.out HF4.out HOK.out HQ.out hin hgl hps2 hblk2 hd hN ?_
              intro y17 y18 y19 y20 y21 y22 y23 y24 y25 y149 y150 y151 y152 y153 y154 y155 y156 y157 y158 y159 y160 y161 y162 y163 y164 y165 y166 y167 y168 y169 y170 y171 y172 y173 y174 y175 y176 y177 y178 y179 y180 y181 y182 y183 y184 y185 y186 y187 y188 y189 y190 y191 y192 y193 y194 y195 y196 y197 y198 y199 y200 y201 y202 y203 y204 y205 y206 y207 y208 y209 y210 y211 y212 y213 y214 y215 y216 y217 y218 y219 y220 y221 y222 y223 y224 y225 y226 y227 y228 y229 y230 y231 y232 y233 y234 y235 y236 y237 y238 y239 y240 y241 y242 y243 y244 y245 y246 y247 y248 y249 y250 y251 y252 y253 y254 y255 y256 y257 y258 y259 y260 y261 y262 y263 y264 y265 y266 y267 y268 y269 y270 y271 y272 y273 y274 y275 y276 y277 y278 y279 y280 y281 y282 y283 y284 y285 y286 y287 y288 y289 y290 y291 y292 y293 y294 y295 y296 y297 y298 y299 y300 v' s' hs' vN' W9 hps9 hq9 hl9
              have HP9 := Lib.hid hps9
              have HQ9 := Lib.hid hq9
              clear hps9 hq9
              go_wp2
              exact ⟨⟨k + 1, by omega, by congr 1, ⟨s', hs', vN', HP9.out, HQ9.out, hl9⟩⟩, by simp only [intOf]; omega⟩
            | cons i N' =>
              refine act_get1 P w R W1.heap.size gB cB gG cG gL cL vN s hs A14 c14 lb lo L c k b16 a hi hg wc _ _ _ _ _ _ _ _ _ _ _ _ _ _ _ _ _ _ _ _ _ _ _ _ _ _ _ _ _ _ _ _ _ _ _ _ _ _ _ _ _ _ _ _ _ _ _ _ _ _ _ _ _ _ _ _ _ _ _ _ _ _ _ _ _ _ _ _ _ _ _ _ _ _ _ _ _ _ _ _ _ _ _ _ _ _ _ _ _ _ _ _ _ _ _ _ _ _ _ _ _ _ _ _ _ _ _ _ _ _ _ _ _ _ _ _ _ _ _ _ _ _ _ _ _ _ _ _ _ _ _ _ _ _ _ _ _ _ _ _ _ _ _ _ _ _ _ _ _ _ _ _ _ _ _ _ _ _ _ _ _ _ _ _ _ _ _ _ _ _ _ _ _ _ _ _ _ _ _ _ _ _ _ _ _ _ _ _ _ _ _ _ _ _ _ _ _ _ _ _ _ _ _ _ _ _ _ _ _ _ _ _ _ _ _ _ _ _ _ _ _ _ _ _ _ _ _ _ _ _ _ _ _ _ _ _ _ _ _ _ _ _ _ _ _ _ _ _ _ _ _ _ _ _ _ _ _ _ _ _ _ _ _ _ _ _ _ _ _ _ _ _ _ _ _ _ _ _ _ _ _ _ _ _ _ _ _ _ _ _ _ _ _ _ _ _ _ _ hlt hL2 hhl hlb HF0.out HF4.out HOK.out HQ.out hin hgl hps2 hblk2 hd i N' hN ?_
              intro y17 y18 y19 y20 y21 y22 y23 y24 y25 y149 y150 y151 y152 y153 y154 y155 y156 y157 y158 y159 y160 y161 y162 y163 y164 y165 y166 y167 y168 y169 y170 y171 y172 y173 y174 y175 y176 y177 y178 y179 y180 y181 y182 y183 y184 y185 y186 y187 y188 y189 y190 y191 y192 y193 y194 y195 y196 y197 y198 y199 y200 y201 y202 y203 y204 y205 y206 y207 y208 y209 y210 y211 y212 y213 y214 y215 y216 y217 y218 y219 y220 y221 y222 y223 y224 y225 y226 y227 y228 y229 y230 y231 y232 y233 y234 y235 y236 y237 y238 y239 y240 y241 y242 y243 y244 y245 y246 y247 y248 y249 y250 y251 y252 y253 y254 y255 y256 y257 y258 y259 y260 y261 y262 y263 y264 y265 y266 y267 y268 y269 y270 y271 y272 y273 y274 y275 y276 y277 y278 y279 y280 y281 y282 y283 y284 y285 y286 y287 y288 y289 y290 y291 y292 y293 y294 y295 y296 y297 y298 y299 y300 v' s' hs' vN' W9 hps9 hq9 hl9
              have HP9 := Lib.hid hps9
              have HQ9 := Lib.hid hq9
              clear hps9 hq9
              go_wp2
              exact ⟨⟨k + 1, by omega, by congr 1, ⟨s', hs', vN', HP9.out, HQ9.out, hl9⟩⟩, by simp only [intOf]; omega⟩
          · refine act_back P w R W1.heap.size gB cB gG cG gL cL vN s hs A14 c14 lb lo L c k b16 a hi hg wc _ _ _ _ _ _ _ _ _ _ _ _ _ _ _ _ _ _ _ _ _ _ _ _ _ _ _ _ _ _ _ _ _ _ _ _ _ _ _ _ _ _ _ _ _ _ _ _ _ _ _ _ _ _ _ _ _ _ _ _ _ _ _ _ _ _ _ _ _ _ _ _ _ _ _ _ _ _ _ _ _ _ _ _ _ _ _ _ _ _ _ _ _ _ _ _ _ _ _ _ _ _ _ _ _ _ _ _ _ _ _ _ _ _ _ _ _ _ _ _ _ _ _ _ _ _ _ _ _ _ _ _ _ _ _ _ _ _ _ _ _ _ _ _ _ _ _ _ _ _ _ _ _ _ _ _ _ _ _ _ _ _ _ _ _ _ _ _ _ _ _ _ _ _ _ _ _ _ _ _ _ _ _ _ _ _ _ _ _ _ _ _ _ _ _ _ _ _ _ _ _ _ _ _ _ _ _ _ _ _ _ _ _ _ _ _ _ _ _ _ _ _ _ _ _ _ _ _ _ _ _ _ _ _ _ _ _ _ _ _ _ _ _ _ _ _ _ _ _ _ _ _ _ _ _ _ _ _ _ _ _ _ _ _ _ _ _ _ _ _ _ _ _ _ _ _ _ _ _ _ _ _ _ _ _ _ _ _ _ _ _ _ _ _ _ _ _ _ hlt hL2 hhl hlb HF0.out HF4.out HOK.out HQ.out hin hgl hps2 hblk2 hd ?_
            intro y17 y18 y19 y20 y21 y22 y23 y24 y25 y149 y150 y151 y152 y153 y154 y155 y156 y157 y158 y159 y160 y161 y162 y163 y164 y165 y166 y167 y168 y169 y170 y171 y172 y173 y174 y175 y176 y177 y178 y179 y180 y181 y182 y183 y184 y185 y186 y187 y188 y189 y190 y191 y192 y193 y194 y195 y196 y197 y198 y199 y200 y201 y202 y203 y204 y205 y206 y207 y208 y209 y210 y211 y212 y213 y214 y215 y216 y217 y218 y219 y220 y221 y222 y223 y224 y225 y226 y227 y228 y229 y230 y231 y232 y233 y234 y235 y236 y237 y238 y239 y240 y241 y242 y243 y244 y245 y246 y247 y248 y249 y250 y251 y252 y253 y254 y255 y256 y257 y258 y259 y260 y261 y262 y263 y264 y265 y266 y267 y268 y269 y270 y271 y272 y273 y274 y275 y276 y277 y278 y279 y280 y281 y282 y283 y284 y285 y286 y287 y288 y289 y290 y291 y292 y293 y294 y295 y296 y297 y298 y299 y300 v' s' hs' vN' W9 hps9 hq9 hl9
            have HP9 := Lib.hid hps9
            have HQ9 := Lib.hid hq9
            clear hps9 hq9
            go_wp2
            exact ⟨⟨k + 1, by omega, by congr 1, ⟨s', hs', vN', HP9.out, HQ9.out, hl9⟩⟩, by simp only [intOf]; omega⟩
          · refine act_set P w R W1.heap.size gB cB gG cG gL cL vN s hs A14 c14 lb lo L c k b16 a hi hg wc _ _ _ _ _ _ _ _ _ _ _ _ _ _ _ _ _ _ _ _ _ _ _ _ _ _ _ _ _ _ _ _ _ _ _ _ _ _ _ _ _ _ _ _ _ _ _ _ _ _ _ _ _ _ _ _ _ _ _ _ _ _ _ _ _ _ _ _ _ _ _ _ _ _ _ _ _ _ _ _ _ _ _ _ _ _ _ _ _ _ _ _ _ _ _ _ _ _ _ _ _ _ _ _ _ _ _ _ _ _ _ _ _ _ _ _ _ _ _ _ _ _ _ _ _ _ _ _ _ _ _ _ _ _ _ _ _ _ _ _ _ _ _ _ _ _ _ _ _ _ _ _ _ _ _ _ _ _ _ _ _ _ _ _ _ _ _ _ _ _ _ _ _ _ _ _ _ _ _ _ _ _ _ _ _ _ _ _ _ _ _ _ _ _ _ _ _ _ _ _ _ _ _ _ _ _ _ _ _ _ _ _ _ _ _ _ _ _ _ _ _ _ _ _ _ _ _ _ _ _ _ _ _ _ _ _ _ _ _ _ _ _ _ _ _ _ _ _ _ _ _ _ _ _ _ _ _ _ _ _ _ _ _ _ _ _ _ _ _ _ _ _ _ _ _ _ _ _ _ _ _ _ _ _ _ _ _ _ _ _ _ _ _ _ _ _ _ _ hlt hL2 hhl hlb HF0.out HF4.out HOK.out HQ.out hin hgl hps2 hblk2 hd ?_
            intro y17 y18 y19 y20 y21 y22 y23 y24 y25 y149 y150 y151 y152 y153 y154 y155 y156 y157 y158 y159 y160 y161 y162 y163 y164 y165 y166 y167 y168 y169 y170 y171 y172 y173 y174 y175 y176 y177 y178 y179 y180 y181 y182 y183 y184 y185 y186 y187 y188 y189 y190 y191 y192 y193 y194 y195 y196 y197 y198 y199 y200 y201 y202 y203 y204 y205 y206 y207 y208 y209 y210 y211 y212 y213 y214 y215 y216 y217 y218 y219 y220 y221 y222 y223 y224 y225 y226 y227 y228 y229 y230 y231 y232 y233 y234 y235 y236 y237 y238 y239 y240 y241 y242 y243 y244 y245 y246 y247 y248 y249 y250 y251 y252 y253 y254 y255 y256 y257 y258 y259 y260 y261 y262 y263 y264 y265 y266 y267 y268 y269 y270 y271 y272 y273 y274 y275 y276 y277 y278 y279 y280 y281 y282 y283 y284 y285 y286 y287 y288 y289 y290 y291 y292 y293 y294 y295 y296 y297 y298 y299 y300 v' s' hs' vN' W9 hps9 hq9 hl9
            have HP9 := Lib.hid hps9
            have HQ9 := Lib.hid hq9
            clear hps9 hq9
            go_wp2
            exact ⟨⟨k + 1, by omega, by congr 1, ⟨s', hs', vN', HP9.out, HQ9.out, hl9⟩⟩, by simp only [intOf]; omega⟩
          · cases hgd : s.good hi hg with
            | true =>
              refine act_by1 P w R W1.heap.size gB cB gG cG gL cL vN s hs A14 c14 lb lo L c k b16 a hi hg wc _ _ _ _ _ _ _ _ _ _ _ _ _ _ _ _ _ _ _ _ _ _ _ _ _ _ _ _ _ _ _ _ _ _ _ _ _ _ _ _ _ _ _ _ _ _ _ _ _ _ _ _ _ _ _ _ _ _ _ _ _ _ _ _ _ _ _ _ _ _ _ _ _ _ _ _ _ _ _ _ _ _ _ _ _ _ _ _ _ _ _ _ _ _ _ _ _ _ _ _ _ _ _ _ _ _ _ _ _ _ _ _ _ _ _ _ _ _ _ _ _ _ _ _ _ _ _ _ _ _ _ _ _ _ _ _ _ _ _ _ _ _ _ _ _ _ _ _ _ _ _ _ _ _ _ _ _ _ _ _ _ _ _ _ _ _ _ _ _ _ _ _ _ _ _ _ _ _ _ _ _ _ _ _ _ _ _ _ _ _ _ _ _ _ _ _ _ _ _ _ _ _ _ _ _ _ _ _ _ _ _ _ _ _ _ _ _ _ _ _ _ _ _ _ _ _ _ _ _ _ _ _ _ _ _ _ _ _ _ _ _ _ _ _ _ _ _ _ _ _ _ _ _ _ _ _ _ _ _ _ _ _ _ _ _ _ _ _ _ _ _ _ _ _ _ _ _ _ _ _ _ _ _ _ _ _ _ _ _ _ _ _ _ _ _ _ _ _ hlt hL2 hhl hlb HF0.out HF4.out HOK.out HQ.out hin hgl hps2 hblk2 hd hgd ?_
              intro y17 y18 y19 y20 y21 y22 y23 y24 y25 y149 y150 y151 y152 y153 y154 y155 y156 y157 y158 y159 y160 y161 y162 y163 y164 y165 y166 y167 y168 y169 y170 y171 y172 y173 y174 y175 y176 y177 y178 y179 y180 y181 y182 y183 y184 y185 y186 y187 y188 y189 y190 y191 y192 y193 y194 y195 y196 y197 y198 y199 y200 y201 y202 y203 y204 y205 y206 y207 y208 y209 y210 y211 y212 y213 y214 y215 y216 y217 y218 y219 y220 y221 y222 y223 y224 y225 y226 y227 y228 y229 y230 y231 y232 y233 y234 y235 y236 y237 y238 y239 y240 y241 y242 y243 y244 y245 y246 y247 y248 y249 y250 y251 y252 y253 y254 y255 y256 y257 y258 y259 y260 y261 y262 y263 y264 y265 y266 y267 y268 y269 y270 y271 y272 y273 y274 y275 y276 y277 y278 y279 y280 y281 y282 y283 y284 y285 y286 y287 y288 y289 y290 y291 y292 y293 y294 y295 y296 y297 y298 y299 y300 v' s' hs' vN' W9 hps9 hq9 hl9
              have HP9 := Lib.hid hps9
              have HQ9 := Lib.hid hq9
              clear hps9 hq9
              go_wp2
              exact ⟨⟨k + 1, by omega, by congr 1, ⟨s', hs', vN', HP9.out, HQ9.out, hl9⟩⟩, by simp only [intOf]; omega⟩
            | false =>
              refine act_by0 P w R W1.heap.size gB cB gG cG gL cL vN s hs A14 c14 lb lo L c k b16 a hi hg wc _ _ _ _ _ _ _ _ _ _ _ _ _ _ _ _ _ _ _ _ _ _ _ _ _ _ _ _ _ _ _ _ _ _ _ _ _ _ _ _ _ _ _ _ _ _ _ _ _ _ _ _ _ _ _ _ _ _ _ _ _ _ _ _ _ _ _ _ _ _ _ _ _ _ _ _ _ _ _ _ _ _ _ _ _ _ _ _ _ _ _ _ _ _ _ _ _ _ _ _ _ _ _ _ _ _ _ _ _ _ _ _ _ _ _ _ _ _ _ _ _ _ _ _ _ _ _ _ _ _ _ _ _ _ _ _ _ _ _ _ _ _ _ _ _ _ _ _ _ _ _ _ _ _ _ _ _ _ _ _ _ _ _ _ _ _ _ _ _ _ _ _ _ _ _ _ _ _ _ _ _ _ _ _ _ _ _ _ _ _ _ _ _ _ _ _ _ _ _ _ _ _ _ _ _ _ _ _ _ _ _ _ _ _ _ _ _ _ _ _ _ _ _ _ _ _ _ _ _ _ _ _ _ _ _ _ _ _ _ _ _ _ _ _ _ _ _ _ _ _ _ _ _ _ _ _ _ _ _ _ _ _ _ _ _ _ _ _ _ _ _ _ _ _ _ _ _ _ _ _ _ _ _ _ _ _ _ _ _ _ _ _ _ _ _ _ _ _ hlt hL2 hhl hlb HF0.out HF4.out HOK.out HQ.out hin hgl hps2 hblk2 hd hgd ?_
              intro y17 y18 y19 y20 y21 y22 y23 y24 y25 y149 y150 y151 y152 y153 y154 y155 y156 y157 y158 y159 y160 y161 y162 y163 y164 y165 y166 y167 y168 y169 y170 y171 y172 y173 y174 y175 y176 y177 y178 y179 y180 y181 y182 y183 y184 y185 y186 y187 y188 y189 y190 y191 y192 y193 y194 y195 y196 y197 y198 y199 y200 y201 y202 y203 y204 y205 y206 y207 y208 y209 y210 y211 y212 y213 y214 y215 y216 y217 y218 y219 y220 y221 y222 y223 y224 y225 y226 y227 y228 y229 y230 y231 y232 y233 y234 y235 y236 y237 y238 y239 y240 y241 y242 y243 y244 y245 y246 y247 y248 y249 y250 y251 y252 y253 y254 y255 y256 y257 y258 y259 y260 y261 y262 y263 y264 y265 y266 y267 y268 y269 y270 y271 y272 y273 y274 y275 y276 y277 y278 y279 y280 y281 y282 y283 y284 y285 y286 y287 y288 y289 y290 y291 y292 y293 y294 y295 y296 y297 y298 y299 y300 v' s' hs' vN' W9 hps9 hq9 hl9
              have HP9 := Lib.hid hps9
              have HQ9 := Lib.hid hq9
              clear hps9 hq9
              go_wp2
              exact ⟨⟨k + 1, by omega, by congr 1, ⟨s', hs', vN', HP9.out, HQ9.out, hl9⟩⟩, by simp only [intOf]; omega⟩
    · obtain rfl : L = k := by omega
      obtain ⟨s, hs, vN, hps, -, -⟩ := hpl.out
      have B9 := Lib.hid hps.live.below
      clear hps
      go_wp2_with fail
      refine (wakes4 P _).mono ?_
      rintro e W7 ⟨rfl, hb7⟩
      have B7 := Lib.hid (B9.out.trans (Below.mono hb7 B9.out.size))
      clear hb7
      go_wp2
      go_ret
      exact ⟨rfl, B7.out⟩
end Go.Proofs.Ytmpaefndkobgnaa
