/- KvPlays' walk. -/
import Derived.Test.YtfkdlmokigeemaaGreatDoorKvPlR
import Derived.Test.YtfkdlmokigeemaaGreatDoorKvTight
import Derived.Test.YtfkdlmokigeemaaGreatDoorKvKZ
import Derived.Test.YtfkdlmokigeemaaGreatDoorKvTk
import Derived.Test.YtfkdlmokigeemaaGreatDoorMKvP
import Derived.Test.YtfkdlmokigeemaaGreatDoorKvDoZ
import Derived.Test.YtfkdlmokigeemaaGreatDoorMKvZ
namespace Go.Proofs.YtfkdlmokigeemaaGreatDoor
open Go.RowKit

/-- The block in which pairs lie. -/
def PB (A : Option Addr) (l : List PV) (b : Nat) : Prop := l ≠ [] ∧ ∃ o m, A = some ⟨b, o, m⟩
theorem cell_block {w w' : World} {p : Addr} (h : w'.heap[p.block]? = w.heap[p.block]?) : w'.cell? p = w.cell? p := by
  unfold World.cell?
  rw [h]
theorem HasP.still {W W' : World} {A : Option Addr} {l : List PV} (h : HasP W A l) (hs : ∀ b, PB A l b → b < W'.heap.size) (hb : ∀ b, PB A l b → W'.heap[b]? = W.heap[b]?) : HasP W' A l := fun hl => by
  obtain ⟨b, o, e, h1, h2⟩ := h hl
  have hbb := hb b ⟨hl, o, none, e⟩
  exact ⟨b, o, e, hs b ⟨hl, o, none, e⟩, fun j hj => ⟨(cell_block (p := ⟨b, _, none⟩) hbb).trans (h2 j hj).1, (cell_block (p := ⟨b, _, none⟩) hbb).trans (h2 j hj).2⟩⟩
theorem HasP.lt {W : World} {A : Option Addr} {l : List PV} (h : HasP W A l) {b : Nat} (hb : PB A l b) : b < W.heap.size := by
  obtain ⟨hl, o, m, e⟩ := hb
  obtain ⟨b', o', e', h1, _⟩ := h hl
  rw [e] at e'
  cases e'
  exact h1
theorem KW.mores {T : World → Prop} {K : KvK T} {w W W' : World} {n : Nat} {R : Nat → Nat} {l : Nat → List PV} {P : Nat → Prop} (h : KW K w n R l P W) (hb : Below W.heap.size W W') {Q : Nat → Prop} (hQ : ∀ q, Q q → P q ∨ (W.heap.size ≤ q ∧ q < W'.heap.size)) : KW K w n R l Q W' := by
  obtain ⟨F, f1, f2, f3⟩ := h.ex
  refine ⟨⟨F, fun i hi => K.keep (f1 i hi) (Only.of_grew (F := fun _ => False) hb) (fun _ _ => id), fun i hi k hk => ⟨(f2 i hi k hk).1, fun hq => ?_⟩, f3⟩, h.below.trans (Below.mono hb h.below.size), fun k hk => ?_⟩
  · rcases hQ k hq with hp | ⟨h1, _⟩
    · exact (f2 i hi k hk).2 hp
    · exact absurd (K.lt (f1 i hi) k hk) (Nat.not_lt.2 h1)
  · rcases hQ k hk with hp | ⟨_, h1⟩
    · exact Nat.lt_of_lt_of_le (h.p k hp) hb.size
    · exact h1
theorem KW.taken {T : World → Prop} {K : KvK T} {w W W' : World} {n q : Nat} {R : Nat → Nat} {l : Nat → List PV} (h : KW K w n R l (fun b => b = q) W) (hg : W.grownBy W' (some q)) (hq : w.heap.size ≤ q) {G : Nat → Prop} {S : Nat} {m : List PV} (k1 : K.Pl G W' S m) (k2 : ∀ k, G k → W.heap.size ≤ k) : KW K w (n + 1) (upd R n S) (upd l n m) (fun _ => False) W' := by
  obtain ⟨F, f1, f2, f3⟩ := h.ex
  refine ⟨⟨upd F n G, fun i hi => ?_, fun i hi k hk => ⟨?_, id⟩, fun i j hi hj hij k hk => ?_⟩, h.below.grown hg h.below.size (fun k e => by cases e; exact hq), fun k hk => hk.elim⟩
  · by_cases hin : i = n
    · subst hin; rw [upd_same, upd_same, upd_same]; exact k1
    · rw [upd_other hin, upd_other hin, upd_other hin]
      exact K.keep (f1 i (by omega)) (Only.of_grown (F := fun k => k = q) hg (fun k e => by cases e; rfl)) (fun k hk e => (f2 i (by omega) k hk).2 e)
  · by_cases hin : i = n
    · subst hin; rw [upd_same] at hk
      exact Nat.le_trans h.below.size (k2 k hk)
    · rw [upd_other hin] at hk; exact (f2 i (by omega) k hk).1
  · by_cases hin : i = n
    · subst hin; rw [upd_same] at hk; rw [upd_other (Ne.symm hij)]
      exact fun hf => absurd (K.lt (f1 j (by omega)) k hf) (Nat.not_lt.2 (k2 k hk))
    · rw [upd_other hin] at hk
      by_cases hjn : j = n
      · subst hjn; rw [upd_same]
        exact fun hg => absurd (K.lt (f1 i (by omega)) k hk) (Nat.not_lt.2 (k2 k hg))
      · rw [upd_other hjn]; exact f3 i j (by omega) (by omega) hij k hk
theorem PlI.lt {T : World → Prop} {K : KvK T} {w0 W : World} {n : Nat} {R : Nat → Nat} {l : Nat → List PV} {P : Nat → Prop} {M : Nat} (h : PlI K w0 n R l P M W) {k : Nat} (hk : P k) : k < M := by
  obtain ⟨W1, h1, h2, _⟩ := h.ex
  rw [← h1]
  exact h2.p k hk
theorem run_ixC (w : World) (b o L c q : Nat) (h : q < L) : (Instr.indexAt 22 (.slice (some ⟨b, o, none⟩) L c) (.int .i64 (q : Int))).run Tryz.prog w = .ok (.pointer (some ⟨b, o + q * 7, none⟩)) w := by
  have h1 : (0 : Int) ≤ q := by omega
  have h2 : (q : Int) < L := by omega
  simp [go_sem, h1, h2]
theorem run_ldKo (w : World) (b o : Nat) (x : CmdV) (h : ∀ i u, x.cells[i]? = some u → w.cell? ⟨b, o + i, none⟩ = some u) : (Instr.loadAt 35 (.pointer (some ⟨b, o, none⟩))).run Tryz.prog w = .ok x.val w := by
  have h0 := h 0 _ rfl
  have h1 := h 1 _ rfl
  have h2 := h 2 _ rfl
  have h3 := h 3 _ rfl
  have h4 := h 4 _ rfl
  have h5 := h 5 _ rfl
  have h6 := h 6 _ rfl
  simp only [Nat.add_zero] at h0
  simp [go_sem, h0, h1, h2, h3, h4, h5, h6, CmdV.val, CmdV.cells]
theorem run_ldRep (w : World) (q : Nat) (r : Nat × ByteArray) (h : RepAt w q r.1 r.2) : (Instr.loadAt 29 (.pointer (some ⟨q, 0, none⟩))).run Tryz.prog w = .ok (ReplyV r) w := by
  have h' : w.heap[q]? = _ := h
  have c0 : w.cell? ⟨q, 0, none⟩ = some (.int .u8 (r.1 : Int)) := by rw [blk_cell h' 0]; rfl
  have c1 : w.cell? ⟨q, 1, none⟩ = some (.string r.2) := by rw [blk_cell h' 1]; rfl
  simp [go_sem, c0, c1, ReplyV]
theorem run_fdRep (w : World) (x : Int) (t : ByteArray) : (Instr.field 29 (.agg #[.int .u8 x, .string t]) 0).run Tryz.prog w = .ok (.int .u8 x) w := by
  first
    | (simp [go_sem, Instr.field]; done)
    | (simp [Instr.field, go_sem]; rfl)
    | kernel_rfl
theorem str_none9 : str ([] ++ bytesP []) = ⟨#[0]⟩ := by
  unfold bytesP
  rw [show ([] : List PV).length = 0 from rfl, vb_lt (by omega)]
  rfl
/-- The command of nothing. -/
def zCk : CmdV := ⟨0, 0, 0, none, 0, 0, [], ⟨#[]⟩, ⟨#[]⟩, 0⟩
theorem zCk_ok (w : World) : zCk.ok w := ⟨by decide, by decide, by decide, by decide, rfl, by decide, fun h => absurd rfl h, fun k hk => (by cases hk), by decide, by decide⟩
/-- Ahead of the command, and behind it. -/
def PlH (K0 : World → Prop) (q : Nat) (r : Nat × ByteArray) (NA : Option Addr) (l2 : List PV) (MA : Option Addr) (l0 : List PV) (W : World) : Prop := K0 W ∧ RepAt W q r.1 r.2 ∧ HasP W NA l2 ∧ HasP W MA l0
def P3 (q : Nat) (NA : Option Addr) (l2 : List PV) (MA : Option Addr) (l0 : List PV) (b : Nat) : Prop := b = q ∨ PB NA l2 b ∨ PB MA l0 b
theorem PlH.step {K0 K1 : World → Prop} {q : Nat} {r : Nat × ByteArray} {NA MA : Option Addr} {l2 l0 : List PV} {W W' : World} (h : PlH K0 q r NA l2 MA l0 W) (h1 : K1 W') (hs : ∀ b, P3 q NA l2 MA l0 b → b < W'.heap.size ∧ W'.heap[b]? = W.heap[b]?) : PlH K1 q r NA l2 MA l0 W' :=
  ⟨h1, rep_keep h.2.1 (hs q (.inl rfl)).2, h.2.2.1.still (fun b hb => (hs b (.inr (.inl hb))).1) (fun b hb => (hs b (.inr (.inl hb))).2), h.2.2.2.still (fun b hb => (hs b (.inr (.inr hb))).1) (fun b hb => (hs b (.inr (.inr hb))).2)⟩
set_option maxRecDepth 100000 in
set_option maxHeartbeats 8000000 in
theorem KvPlays_any {T : World → Prop} (K : KvK T) (KP : KvKP K) (A : Option Addr) (L c : Nat) (l : List CmdV) (w : World) (hT : T w) (hl : L = l.length) (hL : L ≤ 140737488351232) (hA : HasC w A l) :
    Calls Tryz.prog 3 #[.slice A L c] w fun e W' => e = .returned (.bool true) ∧ Below w.heap.size w W' := by
  have HL := Lib.hid (And.intro hl hL)
  have HA := Lib.hid hA
  have HT := Lib.hid hT
  clear hl hL hA hT
  go_enter Tryz.func3, Tryz.ntmps3
  go_wp2_with fail
  refine (GreatC_any A L c l HL.out.1 HL.out.2 w HA.out).mono ?_
  rintro e V1 ⟨he, hb⟩
  have B1 := Lib.hid hb
  clear hb
  cases hg : GreatB l with
  | true =>
    rw [hg] at he
    subst he
    clear hg
    go_wp2_with fail
    refine (wakes9_any K _ (K.grew HT.out B1.out)).mono ?_
    rintro e V9 ⟨rfl, hb9⟩
    have B9 := Lib.hid (B1.out.trans (Below.mono hb9 B1.out.size))
    clear hb9
    go_wp2
    go_ret
    exact ⟨rfl, B9.out⟩
  | false =>
    rw [hg] at he
    subst he
    have hng : ¬ GreatC l := fun h => by have := GreatB_iff.2 h; rw [hg] at this; cases this
    have hL1 : L ≤ 100 := Nat.le_of_not_lt (fun h => hng (.inl (by rw [← HL.out.1]; exact h)))
    have hLi : (L : Int) ≤ 100 := by omega
    have NGL := Lib.hid (show ∀ j (hj : j < l.length), ¬ (l[j]).great from fun j hj h => hng (.inr ⟨j, hj, h⟩))
    have HT1 := Lib.hid (K.grew HT.out B1.out)
    have HA1 := Lib.hid (HA.out.below B1.out)
    clear hg hng
    go_wp2_with fail
    refine ((KW.zero K V1 (fun _ => 0) (fun _ => [])).new HT1.out).mono ?_
    rintro e V2 ⟨S0, rfl, h0, -⟩
    have H0 := Lib.hid h0
    clear h0
    go_wp2
    go_loopw [4, 5] (fun mv i wr => ∃ j : Nat, j ≤ L ∧ i = .int .i64 (j : Int) ∧ ∃ MA ML Mc, mv = .slice MA ML Mc ∧ Hid (ML = (runP [] ((l.map CmdV.m).take j)).length ∧ HasP wr MA (runP [] ((l.map CmdV.m).take j))) ∧ Hid (∃ (n : Nat) (R : Nat → Nat) (l' : Nat → List PV), 1 ≤ n ∧ R 0 = S0 ∧ l' 0 = runP [] ((l.map CmdV.m).take j) ∧ KW K V1 n R l' (PB MA (runP [] ((l.map CmdV.m).take j))) wr)) (fun _ i _ => L - (intOf i).toNat)
    case atStart =>
      refine ⟨0, Nat.zero_le _, rfl, none, 0, 0, rfl, Lib.hid ⟨rfl, fun h => absurd rfl h⟩, Lib.hid ⟨1, _, _, Nat.le_refl _, rfl, rfl, H0.out.sub (fun b hb => absurd rfl hb.1)⟩⟩
    case round =>
      obtain ⟨i, hi, rfl, MA, ML, Mc, rfl, HM, HKW⟩ := hrel
      obtain ⟨l0, hl0⟩ : ∃ l0, l0 = runP [] ((l.map CmdV.m).take i) := ⟨_, rfl⟩
      rw [← hl0] at HM HKW
      have HL0 := Lib.hid hl0
      have LIM0 := Lib.hid (show LimN (2 * i) l0 by rw [hl0]; exact runP_lim _ i)
      have TI0 := Lib.hid (show TightP l0 by rw [hl0]; exact runP_tight _ i)
      clear hl0
      by_cases hlt : i < L
      · have hii : (i : Int) < L := by omega
        have hi1 : i < l.length := by have := HL.out.1; omega
        obtain ⟨n, R, l', hn1, hR0, hl0', hkw⟩ := HKW.out
        have hcp := hkw.copy HT1.out 0 (by omega) (by rw [hl0']; exact LIM0.out.lim (by omega))
        rw [hR0, hl0'] at hcp
        have HCP := Lib.hid hcp
        have HNR := Lib.hid (And.intro hn1 (And.intro hR0 hl0'))
        have HW := Lib.hid hkw
        clear hcp hkw hn1 hR0 hl0' HKW
        go_wp2_with fail
        refine HCP.out.mono ?_
        rintro e U1 ⟨S2, rfl, k1, hb1⟩
        obtain ⟨R1, hR1⟩ : ∃ R1, R1 = upd R n S2 := ⟨_, rfl⟩
        obtain ⟨l1, hl1⟩ : ∃ l1, l1 = upd l' n l0 := ⟨_, rfl⟩
        rw [← hR1, ← hl1] at k1
        have h0n : (0 : Nat) ≠ n := by have := HNR.out.1; omega
        have HR1 := Lib.hid (show R1 0 = S0 ∧ l1 0 = l0 ∧ R1 n = S2 ∧ l1 n = l0 by rw [hR1, hl1]; exact ⟨(upd_other h0n).trans HNR.out.2.1, (upd_other h0n).trans HNR.out.2.2, upd_same _ _ _, upd_same _ _ _⟩)
        have HMU := Lib.hid (And.intro HM.out.1 (HM.out.2.still (fun b hb => Nat.lt_of_lt_of_le (HM.out.2.lt hb) hb1.size) (fun b hb => hb1.block b (HM.out.2.lt hb))))
        have K1 := Lib.hid k1
        clear k1 hb1 hR1 hl1 h0n HCP
        have hne : l ≠ [] := fun e => by rw [e] at hi1; exact Nat.not_lt_zero _ hi1
        obtain ⟨bl, ol, el, ll, fl⟩ := HA1.out.below K1.out.below hne
        subst el
        obtain ⟨hcl, hok⟩ := fl i hi1
        obtain ⟨bv, ov, ev, lv, fv⟩ := HA1.out hne
        cases ev
        have hcv := (fv i hi1).1
        have hov := (fv i hi1).2
        obtain ⟨v, hv⟩ : ∃ v, v = l[i] := ⟨_, rfl⟩
        rw [← hv] at hcl hok hcv hov
        have HVV := Lib.hid hv
        have OKV := Lib.hid hok
        have NGV := Lib.hid (show ¬ v.great by rw [hv]; exact NGL.out i hi1)
        have HCL := Lib.hid hcl
        have HCV := Lib.hid (And.intro lv (And.intro hcv hov))
        have HRD := Lib.hid (refDo_any MA ML Mc l0 v U1 HMU.out.1 (by have h1 := HMU.out.1; have h2 := LIM0.out.len; omega) HMU.out.2 (fun p hp => by have := (TI0.out.each p hp).2.2; omega) hok)
        obtain ⟨vcl, vsq, vkd, vA, vL, vc, vks, vold, vnew, vn⟩ := v
        have x0 : U1.cell? ⟨bl, ol + i * 7, none⟩ = some (.int .u32 (vcl : Int)) := hcl 0 _ rfl
        have x1 : U1.cell? ⟨bl, ol + i * 7 + 1, none⟩ = some (.int .u32 (vsq : Int)) := hcl 1 _ rfl
        have x2 : U1.cell? ⟨bl, ol + i * 7 + 2, none⟩ = some (.int .u8 (vkd : Int)) := hcl 2 _ rfl
        have x3 : U1.cell? ⟨bl, ol + i * 7 + 3, none⟩ = some (.slice vA vL vc) := hcl 3 _ rfl
        have x4 : U1.cell? ⟨bl, ol + i * 7 + 4, none⟩ = some (.string vold) := hcl 4 _ rfl
        have x5 : U1.cell? ⟨bl, ol + i * 7 + 5, none⟩ = some (.string vnew) := hcl 5 _ rfl
        have x6 : U1.cell? ⟨bl, ol + i * 7 + 6, none⟩ = some (.int .i64 vn) := hcl 6 _ rfl
        clear hcl hok hv fl hne ll lv hcv hov fv
        simp only [CmdV.val, CmdV.cells] at HRD
        go_wp2_with fail
        refine HRD.out.mono ?_
        rintro e U2 ⟨NA, NL, Nc, he, hNL, hNA, hor, hb2⟩
        obtain ⟨v, hv⟩ : ∃ v : CmdV, v = ⟨vcl, vsq, vkd, vA, vL, vc, vks, vold, vnew, vn⟩ := ⟨_, rfl⟩
        obtain ⟨l2, hl2⟩ : ∃ l2, l2 = (doP l0 v.m).1 := ⟨_, rfl⟩
        obtain ⟨r, hr⟩ : ∃ r, r = (doP l0 v.m).2 := ⟨_, rfl⟩
        rw [← hv, ← hl2] at hNL hNA hor
        rw [← hv, ← hr] at he
        subst he
        rw [← hv] at HVV OKV NGV HCL HCV
        have VV := Lib.hid hv
        have XX := Lib.hid (And.intro hl2 hr)
        have LIM2 := Lib.hid (show LimN (2 * i + 2) l2 by rw [hl2]; exact LIM0.out.doP _)
        have TI2 := Lib.hid (show TightP l2 by rw [hl2]; exact TI0.out.doP _)
        have HN2 := Lib.hid (And.intro hNL (And.intro hNA (And.intro hor hb2)))
        have K2 := Lib.hid (K1.out.grew hb2)
        clear hNL hNA hor hb2 hv hl2 hr x0 x1 x2 x3 x4 x5 x6 HRD
        go_upto_region 10 with (fail)
        obtain ⟨q, hq⟩ : ∃ q, q = U2.heap.size := ⟨_, rfl⟩
        rw [← hq]
        obtain ⟨U3, hU3⟩ : ∃ U3, U3 = U2.alloc (.cells #[.int .u8 (r.1 : Int), .string r.2] 29) := ⟨_, rfl⟩
        rw [← hU3]
        have hb3 : Below U1.heap.size U1 U3 := by rw [hU3]; exact HN2.out.2.2.2.alloc HN2.out.2.2.2.size _
        have hb23 : Below U2.heap.size U2 U3 := by rw [hU3]; exact (Below.refl _ U2).alloc (Nat.le_refl _) _
        have hqs : U3.heap.size = q + 1 := by rw [hU3, hq]; simp
        have hrep : RepAt U3 q r.1 r.2 := by rw [hU3, hq]; exact rep_new _ _
        have hN3 : HasP U3 NA l2 := HN2.out.2.1.still (fun b hb => Nat.lt_of_lt_of_le (HN2.out.2.1.lt hb) hb23.size) (fun b hb => hb23.block b (HN2.out.2.1.lt hb))
        have hM3 : HasP U3 MA l0 := HMU.out.2.still (fun b hb => Nat.lt_of_lt_of_le (HMU.out.2.lt hb) hb3.size) (fun b hb => hb3.block b (HMU.out.2.lt hb))
        have k3 : KW K V1 (n + 1) R1 l1 (P3 q NA l2 MA l0) U3 := K1.out.mores hb3 (fun b hb => by
          rcases hb with rfl | hb | hb
          · refine .inr ⟨?_, by omega⟩
            rw [hq]; exact HN2.out.2.2.2.size
          · rcases HN2.out.2.2.1 with ⟨e1, e2⟩ | h
            · exact .inl (by rw [← e1, ← e2]; exact hb)
            · obtain ⟨_, o, m, e⟩ := id hb
              exact .inr ⟨h b o m e, hN3.lt hb⟩
          · exact .inl hb)
        have H3 : Hid (PlH (KW K V1 (n + 1) R1 l1 (P3 q NA l2 MA l0)) q r NA l2 MA l0 U3) := Lib.hid ⟨k3, hrep, hN3, hM3⟩
        clear hb3 hb23 hqs hrep hN3 hM3 k3 hU3 hq
        refine plays_region S0 S2 (some ⟨bl, ol, none⟩) L c i ⟨bl, ol + i * 7, none⟩ v r NA NL Nc q (bytesP l0) (bytesP l2) MA ML Mc
          (PlH (KW K V1 (n + 1) R1 l1 (P3 q NA l2 MA l0)) q r NA l2 MA l0) (fun M => PlH (PlI K V1 (n + 1) R1 (upd l1 0 l2) (P3 q NA l2 MA l0) M) q r NA l2 MA l0)
          ?hIs (fun M W h => h.1.le) ?hY _ U3 _ rfl rfl rfl rfl rfl rfl rfl rfl ?h0 (fun W => run_ixC W bl ol L c i hlt) ?hLd ?hRp ?hDo ?hLen ?hPut1 ?hBy1 ?hPut2 ?hBy2 ?hQ
        case hIs => exact fun M W W' h hm => h.step (h.1.mark hm) (fun b hb => ⟨Nat.lt_of_lt_of_le (h.1.lt hb) (h.1.mark hm).le, hm.old b (h.1.lt hb)⟩)
        case hY => have h1 := TI2.out.bytes (by have := LIM2.out.len; omega); have h2 := LIM2.out.len; omega
        case h0 => exact H3.out.step (H3.out.1.grew (Below.refl _ U3).drew) (fun b hb => ⟨H3.out.1.p b hb, rfl⟩)
        case hLd =>
          intro M W h
          have hbel : Below V1.heap.size V1 W := by
            rcases h with h | h
            · exact h.1.below
            · exact h.1.kw.below
          exact run_ldKo W bl (ol + i * 7) v (fun x u hu => (hbel.cell (p := ⟨bl, ol + i * 7 + x, none⟩) HCV.out.1).trans (HCV.out.2.1 x u hu))
        case hRp => exact fun M W h => run_ldRep W q r (by rcases h with h | h <;> exact h.2.1)
        case hDo =>
          intro W h
          have hd := h.1.do_ HT1.out 0 (by omega) (by rw [HR1.out.2.1]; exact LIM0.out.lim (by omega)) v (HCV.out.2.2.below h.1.below) NGV.out
          rw [HR1.out.1, HR1.out.2.1, ← XX.out.1, ← XX.out.2] at hd
          exact hd.mono fun e W' ⟨a1, a2, a3⟩ => ⟨a1, W'.heap.size, h.step ⟨W', rfl, a2, Mk.refl _⟩ (fun b hb => ⟨a2.p b hb, a3 b hb⟩)⟩
        case hLen =>
          intro M W h
          have hd := h.1.kw.len 0 (by omega)
          rw [HR1.out.1, upd_same, ← HN2.out.1] at hd
          exact hd.mono fun _ _ ⟨a1, _, a3⟩ => ⟨a1, a3⟩
        case hPut1 =>
          intro M W h
          have hn0 : n ≠ 0 := by have := HNR.out.1; omega
          obtain ⟨F', f1, _⟩ := h.1.kw.ex
          have f0 := f1 n (by omega)
          rw [HR1.out.2.2.1, upd_other hn0, HR1.out.2.2.2] at f0
          have hp := KP.put none 0 0 [] f0 (h.1.kw.t HT1.out) (LIM0.out.lim (by omega)) (by have h1 := LIM0.out.len; have h2 := TI0.out.bytes (by omega); omega) rfl (Nat.le_refl _) (by omega) (HasA.nil _ _ _)
          rw [List.nil_append] at hp
          exact hp
        case hBy1 => exact fun M W h => Bytes_any MA ML Mc l0 W HMU.out.1 (by have h1 := HMU.out.1; have h2 := LIM0.out.len; omega) h.2.2.2 LIM0.out.each
        case hPut2 =>
          intro M W h A1 L1 c1 e1 e2 e3
          obtain ⟨F', f1, _⟩ := h.1.kw.ex
          have f0 := f1 0 (by omega)
          rw [HR1.out.1, upd_same] at f0
          exact KP.put A1 L1 c1 [120] f0 (h.1.kw.t HT1.out) (LIM2.out.lim (by omega)) (by have h1 := LIM2.out.len; have h2 := TI2.out.bytes (by omega); omega) e1 e2 (by rw [e1]; decide) e3
        case hBy2 => exact fun M W h => Bytes_any NA NL Nc l2 W HN2.out.1 (by have h1 := HN2.out.1; have h2 := LIM2.out.len; omega) h.2.2.1 LIM2.out.each
        case hQ =>
          intro M v56 v59 v65 v66 v67 v70 U4 _ _ _ _ _ _ h4
          have H4 := Lib.hid h4
          clear h4
          simp only [puts, List.foldl_cons, List.foldl_nil, Act.put, List.setIfInBounds_toArray, List.set_cons_succ, List.set_cons_zero]
          generalize str ([120] ++ bytesP l2) = sY
          have HI : Hid (KW K V1 (n + 1) R1 (upd l1 0 l2) (PB NA l2) U4 ∧ HasP U4 NA l2) := Lib.hid ⟨H4.out.1.kw.sub (fun b hb => .inr (.inl hb)), H4.out.2.2.1⟩
          clear H4 H3
          obtain ⟨Wo, rfl⟩ : ∃ x, x = wr := ⟨_, rfl⟩
          have hvL : v.L ≤ 100 := by
            have h1 := great_keys NGV.out
            have h2 := OKV.out.len
            omega
          have hvLi : (v.L : Int) ≤ 100 := by omega
          go_wp2
          go_loopw [9] (fun kk wy => ∃ k : Nat, k ≤ v.L ∧ kk = .int .i64 (k : Int) ∧ Hid (KW K V1 (n + 1) R1 (upd l1 0 l2) (PB NA l2) wy ∧ HasP wy NA l2)) (fun kk _ => v.L - (intOf kk).toNat)
          case atStart => exact ⟨0, Nat.zero_le _, rfl, HI⟩
          case round =>
            obtain ⟨k, hk, rfl, HJ⟩ := hrel
            have x3 : wr.cell? ⟨bl, ol + i * 7 + 3, none⟩ = some (.slice v.A v.L v.c) := (HJ.out.1.below.cell (p := ⟨bl, ol + i * 7 + 3, none⟩) HCV.out.1).trans (HCV.out.2.1 3 _ rfl)
            by_cases hlk : k < v.L
            · have hki : (k : Int) < v.L := by omega
              have hk1 : k < v.ks.length := by have := OKV.out.len; omega
              obtain ⟨bk, ok, ek, lk, fk⟩ := (HCV.out.2.2.below HJ.out.1.below).has (fun e => by rw [e] at hk1; exact Nat.not_lt_zero _ hk1)
              rw [ek] at x3
              have gk := fk k hk1
              obtain ⟨t, ht⟩ : ∃ t, t = v.ks[k] := ⟨_, rfl⟩
              rw [← ht] at gk
              have hgt := HJ.out.1.get 0 (by omega) t (by rw [ht]; exact OKV.out.each _ (List.getElem_mem hk1))
              rw [HR1.out.1, upd_same] at hgt
              have HGT := Lib.hid hgt
              clear hgt ht fk
              go_wp2_with fail
              refine HGT.out.mono ?_
              rintro e Y1 ⟨rfl, j1, hy1⟩
              have J1 := Lib.hid (And.intro j1 (HJ.out.2.still (fun b hb => Nat.lt_of_lt_of_le (HJ.out.2.lt hb) hy1.size) (fun b hb => hy1.block b (HJ.out.2.lt hb))))
              have x3' : Y1.cell? ⟨bl, ol + i * 7 + 3, none⟩ = some (.slice (some ⟨bk, ok, none⟩) v.L v.c) := (hy1.cell (p := ⟨bl, ol + i * 7 + 3, none⟩) (Nat.lt_of_lt_of_le HCV.out.1 HJ.out.1.below.size)).trans x3
              have gk' : Y1.cell? ⟨bk, ok + k, none⟩ = some (.string t) := (hy1.cell (p := ⟨bk, ok + k, none⟩) lk).trans gk
              clear x3 gk j1 hy1 lk ek
              have HFA := Lib.hid (Find_any NA NL Nc l2 t Y1 HN2.out.1 (by have h1 := HN2.out.1; have h2 := LIM2.out.len; omega) J1.out.2)
              go_wp2_with fail
              refine HFA.out.mono ?_
              rintro e Y2 ⟨rfl, hy2⟩
              have J2 := Lib.hid (And.intro (J1.out.1.grew hy2) (J1.out.2.still (fun b hb => Nat.lt_of_lt_of_le (J1.out.2.lt hb) hy2.size) (fun b hb => hy2.block b (J1.out.2.lt hb))))
              clear x3' gk' hy2 HFA HGT HJ
              rcases find_cases l2 t with ⟨hf, hlk'⟩ | ⟨j, hj, hf, hlk'⟩
              · rw [hf, hlk']
                clear hf hlk'
                simp only [Option.getD_none, Option.isSome_none]
                go_wp2
                exact ⟨⟨k + 1, by omega, by congr 1, J2⟩, by simp only [intOf]; omega⟩
              · rw [hf, hlk']
                clear hf hlk'
                simp only [Option.getD_some, Option.isSome_some]
                obtain ⟨bp, op, ep, lp, fp⟩ := J2.out.2 (fun e => by rw [e] at hj; exact Nat.not_lt_zero _ hj)
                have gp := (fp j hj).2
                have hjn : j < NL := by have := HN2.out.1; omega
                have hjni : (j : Int) < NL := by omega
                obtain ⟨u, hu⟩ : ∃ u, u = l2[j].2 := ⟨_, rfl⟩
                rw [← hu] at gp
                rw [← hu]
                subst ep
                clear fp hu hj lp
                go_wp2
                exact ⟨⟨k + 1, by omega, by congr 1, J2⟩, by simp only [intOf]; omega⟩
            · have hki : ¬ (k : Int) < v.L := by omega
              go_wp2
              have hrun : runP [] ((l.map CmdV.m).take (i + 1)) = l2 := by
                rw [runP_succ (by rw [List.length_map]; exact hi1), List.getElem_map, ← HVV.out, ← HL0.out, ← XX.out.1]
              refine ⟨⟨i + 1, by omega, by congr 1, NA, NL, Nc, rfl, ?_, ?_⟩, by simp only [intOf]; omega⟩
              · rw [hrun]; exact Lib.hid ⟨HN2.out.1, HJ.out.2⟩
              · rw [hrun]; exact Lib.hid ⟨n + 1, R1, upd l1 0 l2, by omega, HR1.out.1, upd_same _ _ _, HJ.out.1⟩
      · have hii : ¬ (i : Int) < L := by omega
        obtain rfl : i = L := by omega
        obtain ⟨n, R, l', hn1, hR0, hl0', hkw⟩ := HKW.out
        have hsrt : SortedP l0 := by have h := hkw.sorted 0 (by omega); rw [hl0'] at h; exact h
        have HNR := Lib.hid (And.intro hn1 (And.intro hR0 (And.intro hl0' hsrt)))
        have HW := Lib.hid hkw
        have hlen0 : l0.length ≤ 200 := by have := LIM0.out.len; omega
        clear hkw hn1 hR0 hl0' HKW hsrt
        have HBY := Lib.hid (Bytes_any MA ML Mc l0 wr HM.out.1 (by have h1 := HM.out.1; omega) HM.out.2 LIM0.out.each)
        go_wp2_with fail
        refine HBY.out.mono ?_
        rintro e U1 ⟨g, GL, Gc, rfl, hown, hb1⟩
        have hGL : GL = (bytesP l0).length := own_len hown
        have hGA : HasA U1 U1.heap.size (some ⟨g, 0, none⟩) (bytesP l0) := (Data.of_own hown).has
        have hGb := TI0.out.bytes (by omega)
        have HW1 := Lib.hid (HW.out.sub (Q := fun _ => False) (fun _ h => h.elim) |>.grew hb1)
        have HG := Lib.hid (And.intro hGL (And.intro hGA hGb))
        clear hown hb1 hGL hGA hGb HBY
        go_wp2_with fail
        refine (NewR_q (lim := 64) (some ⟨g, 0, none⟩) GL Gc (bytesP l0) HG.out.1 (by have h1 := HG.out.1; have h2 := HG.out.2.2; omega) HG.out.2.1).mono ?_
        rintro e U2 ⟨q, rfl, hr1, hRw, hb2⟩
        have hql : q < U2.heap.size := by obtain ⟨bs', h, _⟩ := hr1; exact h.lt
        have HW2 := Lib.hid (HW1.out.mores (Q := fun b => b = q) hb2 (fun b hb => by subst hb; exact .inr ⟨hRw, hql⟩))
        have HTk := Lib.hid (KP.take q (bytesP l0) U2 (HW2.out.t HT1.out) (by have h1 := HG.out.1; have h2 := HG.out.2.2; omega) hr1)
        have HqW := Lib.hid (Nat.le_trans HW1.out.below.size hRw)
        clear hr1 hRw hb2 hql
        go_wp2_with fail
        refine HTk.out.mono ?_
        rintro e U3 ⟨nn, lt, rest, htr, hg3, hcase⟩
        obtain ⟨e1, e2, e3⟩ := htr.back l0 HNR.out.2.2.2 TI0.out.each (by omega) rfl
        have e2' := e2.symm
        subst e1 e2' e3
        rcases hcase with ⟨_, F, S, rfl, hpl, hF, _⟩ | ⟨hn, _⟩
        · have HW3 := Lib.hid (HW2.out.taken hg3 HqW.out hpl hF)
          clear hpl hF hg3 htr HTk
          have HGN := Lib.hid (K.getNil U3 ⟨#[97]⟩ (by decide))
          go_wp2_with fail
          refine HGN.out.mono ?_
          rintro e U4 ⟨rfl, hb4⟩
          have h0n : (0 : Nat) ≠ n := by have := HNR.out.1; omega
          obtain ⟨R3, hR3⟩ : ∃ R3, R3 = upd R n S := ⟨_, rfl⟩
          obtain ⟨l3, hl3⟩ : ∃ l3, l3 = upd l' n l0 := ⟨_, rfl⟩
          rw [← hR3, ← hl3] at HW3
          have H3 := Lib.hid (show R3 0 = S0 ∧ l3 0 = l0 ∧ R3 n = S ∧ l3 n = l0 by rw [hR3, hl3]; exact ⟨(upd_other h0n).trans HNR.out.2.1, (upd_other h0n).trans HNR.out.2.2.1, upd_same _ _ _, upd_same _ _ _⟩)
          have LP := Lib.hid (LIM0.out.lim (show 2 * i ≤ 5000 by omega))
          have W4 := Lib.hid (HW3.out.grew hb4)
          clear hb4 HGN hR3 hl3 h0n
          obtain ⟨b1, e1, hs1⟩ := W4.out.same HT1.out n 0 (by omega) (by omega) (by rw [H3.out.2.2.2]; exact LP.out) (by rw [H3.out.2.1]; exact LP.out)
          have hb1 : b1 = true := e1.2 (by rw [H3.out.2.2.2, H3.out.2.1])
          subst hb1
          rw [H3.out.1, H3.out.2.2.1] at hs1
          have HS1 := Lib.hid hs1
          clear hs1 e1
          go_wp2_with fail
          refine HS1.out.mono ?_
          rintro e U5 ⟨rfl, k5, -⟩
          have hcp := k5.copy HT1.out 0 (by omega) (by rw [H3.out.2.1]; exact LP.out)
          rw [H3.out.1, H3.out.2.1] at hcp
          have HCP := Lib.hid hcp
          clear hcp k5 HS1
          go_wp2_with fail
          refine HCP.out.mono ?_
          rintro e U6 ⟨S4, rfl, k6, -⟩
          have h01 : (0 : Nat) ≠ n + 1 := by omega
          obtain ⟨b2, e2, hs2⟩ := k6.same HT1.out 0 (n + 1) (by omega) (by omega) (by rw [upd_other h01, H3.out.2.1]; exact LP.out) (by rw [upd_same]; exact LP.out)
          have hb2 : b2 = true := e2.2 (by rw [upd_other h01, H3.out.2.1, upd_same])
          subst hb2
          rw [upd_other h01, upd_same, H3.out.1] at hs2
          have HS2 := Lib.hid hs2
          clear hs2 e2 k6 HCP
          go_wp2_with fail
          refine HS2.out.mono ?_
          rintro e U7 ⟨rfl, k7, -⟩
          have W7 := Lib.hid k7
          clear k7 HS2
          obtain ⟨F', f1, _⟩ := W7.out.ex
          have f0 := f1 0 (by omega)
          rw [upd_other h01, upd_other h01, H3.out.1, H3.out.2.1] at f0
          obtain ⟨b3, e3, hs3⟩ := K.sameNil f0 (W7.out.t HT1.out) LP.out
          have HS3 := Lib.hid hs3
          clear hs3 f0 f1 h01
          by_cases hz : l0 = []
          · have hb3 : b3 = true := e3.2 hz
            have hMz : ML = 0 := by rw [HM.out.1, hz]; rfl
            subst hb3 hMz
            clear e3 hz
            go_wp2_with fail
            refine HS3.out.mono ?_
            rintro e U8 ⟨rfl, hb8⟩
            have W8 := Lib.hid (W7.out.grew hb8)
            clear hb8 HS3
            have HLN := Lib.hid (K.lenNil U8)
            go_wp2_with fail
            refine HLN.out.mono ?_
            rintro e U9 ⟨rfl, hb9⟩
            have W9 := Lib.hid (W8.out.grew hb9)
            clear hb9 HLN
            have HDN := Lib.hid (K.doNil U9 zCk (W9.out.t HT1.out) (zCk_ok U9))
            simp only [CmdV.val, CmdV.cells, zCk, ReplyV] at HDN
            go_wp2_with fail
            refine HDN.out.mono ?_
            rintro e U10 ⟨rfl, hb10⟩
            have W10 := Lib.hid (W9.out.grew hb10)
            have hfd := run_fdRep U10 2 ⟨#[]⟩
            clear hb10 HDN
            have HCN := Lib.hid (K.copyNil U10 (W10.out.t HT1.out))
            go_wp2_with fail
            clear hfd
            refine HCN.out.mono ?_
            rintro e U11 ⟨rfl, hb11⟩
            have W11 := Lib.hid (W10.out.grew hb11)
            have HLE := Lib.hid (K.lenNil U11)
            clear hb11 HCN
            go_wp2_with fail
            refine HLE.out.mono ?_
            rintro e U12 ⟨rfl, hb12⟩
            have W12 := Lib.hid (W11.out.grew hb12)
            clear hb12 HLE
            have HPN := Lib.hid (KP.putNil U12 none 0 0 [] (W12.out.t HT1.out) rfl (Nat.le_refl _) (by omega) (HasA.nil _ _ _))
            go_wp2_with fail
            refine HPN.out.mono ?_
            rintro e U13 ⟨v7, n7, rfl, ho7, hb13⟩
            obtain ⟨A7, L7, c7, rfl, hL7, hA7⟩ := IsB.own ho7
            have hcv := run_conv hA7 c7 Tryz.underlying38 Tryz.underlying5 Tryz.underlying9 hL7
            rw [str_none9] at hcv
            have W13 := Lib.hid (W12.out.grew hb13)
            clear hb13 HPN ho7 hL7 hA7
            go_wp2_with fail
            refine (wakes9_any K _ (W13.out.t HT1.out)).mono ?_
            rintro e V9 ⟨rfl, hb9⟩
            have B9 := Lib.hid (B1.out.trans (Below.mono (W13.out.below.trans (Below.mono hb9 W13.out.below.size)) B1.out.size))
            clear hb9
            go_wp2
            go_ret
            exact ⟨rfl, B9.out⟩
          · have hb3 : b3 = false := by
              cases b3 with
              | false => rfl
              | true => exact absurd (e3.1 rfl) hz
            have hMz : ¬ (ML : Int) = 0 := fun h => hz (List.eq_nil_of_length_eq_zero (by have := HM.out.1; omega))
            have hMb : ((ML : Int) == 0) = false := by simpa using hMz
            subst hb3
            clear e3 hz
            go_wp2_with fail
            refine HS3.out.mono ?_
            rintro e U8 ⟨rfl, hb8⟩
            have W8 := Lib.hid (W7.out.grew hb8)
            clear hb8 HS3
            have HLN := Lib.hid (K.lenNil U8)
            go_wp2_with fail
            refine HLN.out.mono ?_
            rintro e U9 ⟨rfl, hb9⟩
            have W9 := Lib.hid (W8.out.grew hb9)
            clear hb9 HLN
            have HDN := Lib.hid (K.doNil U9 zCk (W9.out.t HT1.out) (zCk_ok U9))
            simp only [CmdV.val, CmdV.cells, zCk, ReplyV] at HDN
            go_wp2_with fail
            refine HDN.out.mono ?_
            rintro e U10 ⟨rfl, hb10⟩
            have W10 := Lib.hid (W9.out.grew hb10)
            have hfd := run_fdRep U10 2 ⟨#[]⟩
            clear hb10 HDN
            have HCN := Lib.hid (K.copyNil U10 (W10.out.t HT1.out))
            go_wp2_with fail
            clear hfd
            refine HCN.out.mono ?_
            rintro e U11 ⟨rfl, hb11⟩
            have W11 := Lib.hid (W10.out.grew hb11)
            have HLE := Lib.hid (K.lenNil U11)
            clear hb11 HCN
            go_wp2_with fail
            refine HLE.out.mono ?_
            rintro e U12 ⟨rfl, hb12⟩
            have W12 := Lib.hid (W11.out.grew hb12)
            clear hb12 HLE
            have HPN := Lib.hid (KP.putNil U12 none 0 0 [] (W12.out.t HT1.out) rfl (Nat.le_refl _) (by omega) (HasA.nil _ _ _))
            go_wp2_with fail
            refine HPN.out.mono ?_
            rintro e U13 ⟨v7, n7, rfl, ho7, hb13⟩
            obtain ⟨A7, L7, c7, rfl, hL7, hA7⟩ := IsB.own ho7
            have hcv := run_conv hA7 c7 Tryz.underlying38 Tryz.underlying5 Tryz.underlying9 hL7
            rw [str_none9] at hcv
            have W13 := Lib.hid (W12.out.grew hb13)
            clear hb13 HPN ho7 hL7 hA7
            go_wp2_with fail
            refine (wakes9_any K _ (W13.out.t HT1.out)).mono ?_
            rintro e V9 ⟨rfl, hb9⟩
            have B9 := Lib.hid (B1.out.trans (Below.mono (W13.out.below.trans (Below.mono hb9 W13.out.below.size)) B1.out.size))
            clear hb9
            go_wp2
            go_ret
            exact ⟨rfl, B9.out⟩
        · exact absurd rfl hn
end Go.Proofs.YtfkdlmokigeemaaGreatDoor
