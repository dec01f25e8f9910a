/- SessionRises' walk. -/
import Derived.Test.YtelbgjnaceffeaaSsAct
namespace Go.Proofs.Ytelbgjnaceffeaa
open Go.RowKit

/-- Behind some acts: what was kept last of the client. -/
structure RiseI {T : World → Prop} (K : SessK T) (w : World) (R q cl j top lc : Nat) (lt : ByteArray) (W : World) : Prop where
  ex : ∃ l, LiveP K w R l (fun k => k = q) W ∧ LimS l ∧ l.length ≤ j + 1 ∧ lookS l cl = some ⟨cl, top, lc, lt⟩
  blk : W.heap[q]? = some (.cells #[.int .u8 (lc : Int), .string lt] 36 (0, 0))
  hq : w.heap.size ≤ q
set_option maxRecDepth 100000 in
set_option maxHeartbeats 4000000 in
theorem SessionRises_any {T : World → Prop} (K : SessK T) (A : Option Addr) (L c : Nat) (l : List SA) (cl sq cd : Nat) (tx : ByteArray) (w : World) (hT : T w) (hL : L = l.length) (hLm : L ≤ 140737488351232) (hA : HasSA w A l) (hcl : cl < 4294967296) (hsq : sq < 4294967296) (hcd : cd < 256) (htx : tx.size ≤ maxLen) :
    Calls Try.prog 4 #[.slice A L c, .int .u32 (cl : Int), .int .u32 (sq : Int), .agg #[.int .u8 (cd : Int), .string tx]] w fun e W' => e = .returned (.bool true) ∧ Below w.heap.size w W' := by
  obtain ⟨g, hg, hG⟩ := great10_any A L c l (w.alloc (.cells #[.int .u8 (cd : Int), .string tx] 36)) hL hLm (hA.below ((Below.refl _ w).alloc (Nat.le_refl _) _))
  have HT := Lib.hid hT
  have HL := Lib.hid (And.intro hL hLm)
  have HA := Lib.hid hA
  have HG := Lib.hid hG
  have HGG := Lib.hid hg
  have HV := Lib.hid (And.intro hcl (And.intro hsq hcd))
  have hcli : (cl : Int) < 4294967296 := by omega
  have htxi : (tx.size : Int) ≤ 9223372036854775807 := by simp only [maxLen] at htx; omega
  clear hT hL hLm hA hG hg hcl hsq hcd htx
  go_enter Try.func4, Try.ntmps4
  go_upto_region 1 with (fail)
  obtain ⟨W0, hW0⟩ : ∃ W0, W0 = w.alloc (Obj.cells #[.int .u8 (cd : Int), .string tx] 36) := ⟨_, rfl⟩
  rw [← hW0]
  have HG0 : Hid (Calls Try.prog 10 #[.slice A L c] W0 fun e W' => e = .returned (.bool g) ∧ Below W0.heap.size W0 W') := Lib.hid (by rw [hW0]; exact HG.out)
  obtain ⟨b0, k0⟩ := boxS hW0
  obtain ⟨p, hp⟩ : ∃ p, p = w.heap.size := ⟨_, rfl⟩
  rw [← hp] at k0 ⊢
  have HB0 := Lib.hid b0
  have HK0 := Lib.hid k0
  have HP := Lib.hid hp
  have z0 := blk_cell k0 0
  have z1 := blk_cell k0 1
  simp at z0 z1
  clear hW0 b0 k0 hp HG
  have wk : ∀ W, Below w.heap.size w W → Calls Try.prog 5 #[] W fun e W' => e = .returned (.bool true) ∧ Below W.heap.size W W' := fun W hb => wakes10_any K W (K.grew HT.out hb)
  have HWK := Lib.hid wk
  clear wk
  by_cases hbad : g = true ∨ cl = 0 ∨ 100 < tx.size
  · have HBAD := Lib.hid hbad
    cases g with
    | true =>
      clear hbad
      go_wp2_with fail
      refine HG0.out.mono ?_
      rintro e W1 ⟨rfl, b1⟩
      have B1 := Lib.hid (HB0.out.trans (Below.mono b1 HB0.out.size))
      clear b1
      go_wp2_with fail
      refine (HWK.out W1 B1.out).mono ?_
      rintro e W2 ⟨rfl, b2⟩
      have B2 := Lib.hid (B1.out.trans (Below.mono b2 B1.out.size))
      clear b2
      go_wp2
      go_ret
      exact ⟨rfl, B2.out⟩
    | false =>
      by_cases hc0 : cl = 0
      · subst hc0
        clear hbad
        go_wp2_with fail
        refine HG0.out.mono ?_
        rintro e W1 ⟨rfl, b1⟩
        have B1 := Lib.hid (HB0.out.trans (Below.mono b1 HB0.out.size))
        clear b1
        go_wp2_with fail
        refine (HWK.out W1 B1.out).mono ?_
        rintro e W2 ⟨rfl, b2⟩
        have B2 := Lib.hid (B1.out.trans (Below.mono b2 B1.out.size))
        clear b2
        go_wp2
        go_ret
        exact ⟨rfl, B2.out⟩
      · have h100 : 100 < tx.size := by rcases hbad with h | h | h; cases h; exact absurd h hc0; exact h
        have h100i : (100 : Int) < tx.size := by omega
        have hc0i : ((cl : Int) == 0) = false := by simp; exact hc0
        clear hbad hc0 h100
        go_wp2_with fail
        refine HG0.out.mono ?_
        rintro e W1 ⟨rfl, b1⟩
        have B1 := Lib.hid (HB0.out.trans (Below.mono b1 HB0.out.size))
        have k1 := (b1.block p (Array.getElem?_eq_some_iff.1 HK0.out).1).trans HK0.out
        have y1 := blk_cell k1 1
        simp at y1
        clear b1 k1 z0 z1
        go_wp2_with fail
        refine (HWK.out W1 B1.out).mono ?_
        rintro e W2 ⟨rfl, b2⟩
        have B2 := Lib.hid (B1.out.trans (Below.mono b2 B1.out.size))
        clear b2
        go_wp2
        go_ret
        exact ⟨rfl, B2.out⟩
  · have hgf : g = false := by cases g; rfl; exact absurd (.inl rfl) hbad
    subst hgf
    have hc0 : cl ≠ 0 := fun h => hbad (.inr (.inl h))
    have hc0i : ((cl : Int) == 0) = false := by simp; exact hc0
    have h100 : tx.size ≤ 100 := Nat.le_of_not_lt fun h => hbad (.inr (.inr h))
    have h100i : decide ((100 : Int) < tx.size) = false := by simp; omega
    have HNG : Hid (¬ greatS l) := Lib.hid (fun h => by have := HGG.out.2 h; cases this)
    have HC0 := Lib.hid (And.intro hc0 h100)
    clear hbad hc0 h100
    go_wp2_with fail
    refine HG0.out.mono ?_
    rintro e W1 ⟨rfl, b1⟩
    have B1 := Lib.hid (HB0.out.trans (Below.mono b1 HB0.out.size))
    have k1 := (b1.block p (Array.getElem?_eq_some_iff.1 HK0.out).1).trans HK0.out
    have K1 := Lib.hid k1
    have y0 := blk_cell k1 0
    have y1 := blk_cell k1 1
    simp at y0 y1
    have HNEW := Lib.hid (K.new W1 (K.grew HT.out B1.out))
    clear b1 k1 z0 z1
    go_wp2_with fail
    refine HNEW.out.mono ?_
    rintro e W2 ⟨F, R, rfl, hpl, hF, b2⟩
    have hpl2 : LiveP K w R [] (fun _ => False) W2 := ⟨⟨F, hpl, fun k hk => ⟨Nat.le_trans B1.out.size (hF k hk), id⟩⟩, B1.out.trans (Below.mono b2 B1.out.size), fun k hk => hk.elim⟩
    have L2 := Lib.hid hpl2
    have k2 := (b2.block p (Array.getElem?_eq_some_iff.1 K1.out).1).trans K1.out
    have x0 := blk_cell k2 0
    have x1 := blk_cell k2 1
    simp at x0 x1
    have hplt : p < W2.heap.size := (Array.getElem?_eq_some_iff.1 k2).1
    have hnf : ¬ F p := fun h => by have := hF p h; have := (Array.getElem?_eq_some_iff.1 K1.out).1; omega
    have C2 : Hid (Calls Try.prog 12 #[.pointer (some ⟨R, 0, none⟩), .int .u32 (cl : Int), .int .u32 (sq : Int), .agg #[.int .u8 (cd : Int), .string tx]] W2 fun e W' => e = .returned (.tuple #[]) ∧ LiveP K w R (keepS [] cl sq cd tx) (fun _ => False) W' ∧ W'.heap[p]? = some (.cells #[.int .u8 (cd : Int), .string tx] 36 (0, 0))) := Lib.hid (by
      have h1 : LiveP K w R [] (fun k => k = p) W2 := ⟨⟨F, hpl, fun k hk => ⟨Nat.le_trans B1.out.size (hF k hk), fun e => hnf (e ▸ hk)⟩⟩, L2.out.below, fun k e => by rw [e]; exact hplt⟩
      refine (h1.keeps HT.out LimS.nil cl sq cd tx HV.out.1 HV.out.2.1 HV.out.2.2 (by have := HC0.out.2; omega)).mono fun e W' ⟨a, b, c⟩ => ⟨a, ?_, (c p hplt (.inl rfl)).trans k2⟩
      obtain ⟨F', f1, f2⟩ := b.ex
      exact ⟨⟨F', f1, fun k hk => ⟨(f2 k hk).1, id⟩⟩, b.below, fun k hk => hk.elim⟩)
    clear hpl hF b2 hpl2 hplt hnf k2 y0 y1
    go_wp2_with fail
    refine C2.out.mono ?_
    rintro e W3 ⟨rfl, h3, k3⟩
    have L3 := Lib.hid h3
    have K3 := Lib.hid k3
    have v0 := blk_cell k3 0
    have v1 := blk_cell k3 1
    simp at v0 v1
    clear h3 k3 C2 x0 x1
    go_upto_region 7 with (fail)
    obtain ⟨W4, hW4⟩ : ∃ W4, W4 = W3.alloc (Obj.cells #[.int .u8 (cd : Int), .string tx] 36) := ⟨_, rfl⟩
    rw [← hW4]
    obtain ⟨b4, k4⟩ := boxS hW4
    obtain ⟨q, hq⟩ : ∃ q, q = W3.heap.size := ⟨_, rfl⟩
    rw [← hq] at k4 ⊢
    have S4 : Hid (RiseI K w R q cl 0 sq cd tx W4) := Lib.hid ⟨⟨keepS [] cl sq cd tx, by
        have h := L3.out.more b4 (q := q) (by omega) (Array.getElem?_eq_some_iff.1 k4).1
        obtain ⟨F', f1, f2⟩ := h.ex
        exact ⟨⟨F', f1, fun k hk => ⟨(f2 k hk).1, fun e => (f2 k hk).2 (.inl e)⟩⟩, h.below, fun k e => h.p k (.inl e)⟩, LimS.nil.keep (by decide) HV.out.1 HV.out.2.1 HV.out.2.2 (by have := HC0.out.2; omega), by have := keepS_len [] cl sq cd tx; simpa using this, by rw [lookS_keep, if_pos ⟨HC0.out.1, rfl, rfl⟩]⟩, k4, by have := L3.out.below.size; omega⟩
    have HLT := Lib.hid (And.intro HV.out.2.2 HC0.out.2)
    have hsqi := HV.out.2.1
    clear hW4 b4 k4 hq v0 v1
    go_wp2
    go_loopw [10, 12, 13, 14, 15, 16] (fun v10 v12 v13 v14 v15 v16 wr => ∃ j top lc : Nat, ∃ lt : ByteArray, j ≤ L ∧ v12 = .int .i64 (j : Int) ∧ v10 = .int .u32 (top : Int) ∧ top < 4294967296 ∧ Hid (RiseI K w R q cl j top lc lt wr) ∧ Hid (lc < 256 ∧ lt.size ≤ 100)) (fun _ i _ _ _ _ _ => L - (intOf i).toNat)
    case atStart => exact ⟨0, sq, cd, tx, Nat.zero_le _, rfl, rfl, hsqi, S4, HLT⟩
    case round =>
      obtain ⟨j, top, lc, lt, hj, rfl, rfl, htop, HI, HLC⟩ := hrel
      have hLi : (L : Int) ≤ 140737488351232 := by have := HL.out.2; omega
      by_cases hlt : j < L
      · have hji : (j : Int) < L := by omega
        have hj1 : j < l.length := by have := HL.out.1; omega
        obtain ⟨bb, o, e1, l1, f1⟩ := HA.out (by rintro rfl; simp at hj1)
        subst e1
        obtain ⟨okj, z0, z1, z2, z3, z4⟩ := f1 j hj1
        have hnb : ¬ bigS l[j] := fun h => HNG.out (.inr ⟨l[j], List.getElem_mem hj1, h⟩)
        obtain ⟨a, ha⟩ : ∃ a, a = l[j] := ⟨_, rfl⟩
        rw [← ha] at okj z0 z1 z2 z3 z4 hnb
        obtain ⟨akp, acl, asq, acd, atx⟩ := a
        simp only at okj z0 z1 z2 z3 z4
        have hcda := okj.cd
        have hcla := okj.cl
        have hsqa := okj.sq
        simp only at hcda hcla hsqa
        have hatx : atx.size ≤ 100 := Nat.le_of_not_lt fun h => hnb (.inl h)
        obtain ⟨tl, hLP, hlim, hlen, hlook⟩ := HI.out.ex
        have hb0 := hLP.below
        have y1 : wr.cell? ⟨bb, o + j * 5 + 1, none⟩ = some (.int .u32 (acl : Int)) := (hb0.cell (p := ⟨bb, _, none⟩) l1).trans z1
        have y2 : wr.cell? ⟨bb, o + j * 5 + 2, none⟩ = some (.int .u32 (asq : Int)) := (hb0.cell (p := ⟨bb, _, none⟩) l1).trans z2
        have y3 : wr.cell? ⟨bb, o + j * 5 + 3, none⟩ = some (.int .u8 (acd : Int)) := (hb0.cell (p := ⟨bb, _, none⟩) l1).trans z3
        have y4 : wr.cell? ⟨bb, o + j * 5 + 4, none⟩ = some (.string atx) := (hb0.cell (p := ⟨bb, _, none⟩) l1).trans z4
        have hlen2 : tl.length ≤ 4999 := by
          have h1 : ¬ 200 < l.length := fun h => HNG.out (.inl h)
          have := HL.out.1
          omega
        have hdr : LiveP K w R tl (fun k => k = q) wr.drew := hLP.grew (Below.refl _ wr).drew
        have HKP := Lib.hid (hdr.keeps HT.out hlim acl asq acd atx hcla hsqa hcda (by omega))
        have HTL := Lib.hid (And.intro hlim (And.intro hlen (And.intro hlook hlen2)))
        have HAA := Lib.hid (And.intro hcla (And.intro hsqa (And.intro hcda hatx)))
        have HZ := Lib.hid (And.intro l1 (And.intro z1 (And.intro z2 (And.intro z3 z4))))
        clear okj f1 ha hnb hcda hcla hsqa hatx hLP hlim hlen hlook hb0 hlen2 hdr z0 z1 z2 z3 z4 l1
        simp only [replyV] at HKP
        go_upto_region 10 with (fail)
        go_region_with (refine HKP.out.mono ?_; rintro e W5 ⟨rfl, h5, k5⟩; have H5 := Lib.hid h5; have K5 := Lib.hid k5; clear h5 k5)
        all_goals
          have hb5 := H5.out.below
          have y1 : W5.cell? ⟨bb, o + j * 5 + 1, none⟩ = some (.int .u32 (acl : Int)) := (hb5.cell (p := ⟨bb, _, none⟩) HZ.out.1).trans HZ.out.2.1
          have y2 : W5.cell? ⟨bb, o + j * 5 + 2, none⟩ = some (.int .u32 (asq : Int)) := (hb5.cell (p := ⟨bb, _, none⟩) HZ.out.1).trans HZ.out.2.2.1
          have y3 : W5.cell? ⟨bb, o + j * 5 + 3, none⟩ = some (.int .u8 (acd : Int)) := (hb5.cell (p := ⟨bb, _, none⟩) HZ.out.1).trans HZ.out.2.2.2.1
          have y4 : W5.cell? ⟨bb, o + j * 5 + 4, none⟩ = some (.string atx) := (hb5.cell (p := ⟨bb, _, none⟩) HZ.out.1).trans HZ.out.2.2.2.2
          have kq : W5.heap[q]? = some (.cells #[.int .u8 (lc : Int), .string lt] 36 (0, 0)) := (K5.out q (Array.getElem?_eq_some_iff.1 HI.out.blk).1 (.inl rfl)).trans HI.out.blk
          have KQ := Lib.hid kq
          have hlk := lookS_rises HTL.out.2.2.1 HC0.out.1 acl asq acd atx
          have hlim2 := HTL.out.1.keep HTL.out.2.2.2 HAA.out.1 HAA.out.2.1 HAA.out.2.2.1 (show atx.size ≤ 1000 by have := HAA.out.2.2.2; omega)
          have hlen3 : (keepS tl acl asq acd atx).length ≤ j + 1 + 1 := by have := keepS_len tl acl asq acd atx; have := HTL.out.2.1; omega
          have HM := Lib.hid (And.intro hlk (And.intro hlim2 hlen3))
          have x0 := blk_cell kq 0
          have x1 := blk_cell kq 1
          simp at x0 x1
          have u0 := blk_frozen kq 0
          have u1 := blk_frozen kq 1
          clear hb5 kq hlk hlim2 hlen3
          by_cases hc1 : acl = cl
          · have hc1i : ((acl : Int) == (cl : Int)) = true := by simp; omega
            by_cases ht : top < asq
            · have hti : (top : Int) < asq := by omega
              have HS2 := Lib.hid (And.intro hc1 ht)
              clear hc1 ht
              go_upto_region 14 with (fail)
              obtain ⟨W6, hW6⟩ : ∃ W6, W6 = (W5.setCell ⟨q, 0, none⟩ (.int .u8 (acd : Int))).setCell ⟨q, 1, none⟩ (.string atx) := ⟨_, rfl⟩
              rw [← hW6]
              have S6 : Hid (RiseI K w R q cl (j + 1) asq acd atx W6) := Lib.hid ⟨⟨_, by rw [hW6]; exact (H5.out.set rfl HI.out.hq 0 _).set rfl HI.out.hq 1 _, HM.out.2.1, HM.out.2.2, by rw [HM.out.1, if_pos HS2.out]⟩, by rw [hW6]; exact blk_set (blk_set KQ.out 0 _) 1 _, HI.out.hq⟩
              clear hW6 x0 x1 u0 u1 y1 y2 y3 y4 hc1i hti
              obtain ⟨l6, hl6, hlm6, hln6, hlk6⟩ := S6.out.ex
              have C6 : Hid (Calls Try.prog 13 #[.pointer (some ⟨R, 0, none⟩), .int .u32 (cl : Int), .int .u32 (asq : Int)] W6 fun e W' => e = .returned (.tuple #[.agg #[.int .u8 (acd : Int), .string atx], .int .u8 1]) ∧ LiveP K w R l6 (fun k => k = q) W' ∧ Below W6.heap.size W6 W') := Lib.hid (by
                have h := hl6.look HT.out hlm6 cl asq HV.out.1 HAA.out.2.1
                rw [tellS_again hlk6] at h
                exact h)
              have HL6 := Lib.hid (And.intro hlm6 (And.intro hln6 hlk6))
              clear hl6 hlm6 hln6 hlk6
              go_wp2_with fail
              refine C6.out.mono ?_
              rintro e W7 ⟨rfl, h7, b7⟩
              have H7 := Lib.hid h7
              have K7 := Lib.hid ((b7.block q (Array.getElem?_eq_some_iff.1 S6.out.blk).1).trans S6.out.blk)
              clear h7 b7
              go_upto_region 15 with (fail)
              obtain ⟨W8, hW8⟩ : ∃ W8, W8 = W7.alloc (Obj.cells #[.int .u8 (acd : Int), .string atx] 36) := ⟨_, rfl⟩
              rw [← hW8]
              obtain ⟨b8, k8⟩ := boxS hW8
              obtain ⟨q8, hq8⟩ : ∃ x, x = W7.heap.size := ⟨_, rfl⟩
              rw [← hq8] at k8 ⊢
              have kq8 := (b8.block q (Array.getElem?_eq_some_iff.1 K7.out).1).trans K7.out
              have v0 := blk_cell k8 0
              have v1 := blk_cell k8 1
              have v2 := blk_cell kq8 0
              have v3 := blk_cell kq8 1
              simp at v0 v1 v2 v3
              have S8 : Hid (RiseI K w R q cl (j + 1) asq acd atx W8) := Lib.hid ⟨⟨l6, H7.out.grew b8, HL6.out⟩, kq8, HI.out.hq⟩
              clear hW8 b8 k8 hq8 kq8
              by_cases h0 : asq = 0
              · have h0i : decide ((0 : Int) < asq) = false := by simp; omega
                go_wp2
                exact ⟨⟨j + 1, asq, acd, atx, by omega, by congr 1, rfl, HAA.out.2.1, S8, Lib.hid ⟨HAA.out.2.2.1, HAA.out.2.2.2⟩⟩, by simp only [intOf]; omega⟩
              · have h0i : 0 < asq := by omega
                obtain ⟨T1, hT1⟩ : ∃ x, x = asq - 1 := ⟨_, rfl⟩
                have hw1 : IntKind.u32.wrap ((asq : Int) - 1) = (T1 : Int) := by
                  have := HAA.out.2.1
                  simp only [IntKind.wrap, IntKind.signed, IntKind.bits]
                  simp
                  omega
                have HT1 := Lib.hid hT1
                obtain ⟨l8, hl8, hlm8, hln8, hlk8⟩ := S8.out.ex
                have C8 : Hid (Calls Try.prog 13 #[.pointer (some ⟨R, 0, none⟩), .int .u32 (cl : Int), .int .u32 (T1 : Int)] W8 fun e W' => e = .returned (.tuple #[.agg #[.int .u8 3, .string ⟨#[]⟩], .int .u8 2]) ∧ LiveP K w R l8 (fun k => k = q) W' ∧ Below W8.heap.size W8 W') := Lib.hid (by
                  have h := hl8.look HT.out hlm8 cl T1 HV.out.1 (by have := HAA.out.2.1; omega)
                  rw [tellS_old hlk8 (by omega)] at h
                  exact h)
                have HL8 := Lib.hid (And.intro hlm8 (And.intro hln8 hlk8))
                clear hl8 hlm8 hln8 hlk8 h0 hT1
                go_wp2_with fail
                refine C8.out.mono ?_
                rintro e W9 ⟨rfl, h9, b9⟩
                have H9 := Lib.hid h9
                have K9 := Lib.hid ((b9.block q (Array.getElem?_eq_some_iff.1 S8.out.blk).1).trans S8.out.blk)
                clear h9 b9 v0 v1 v2 v3
                go_upto_region 19 with (fail)
                obtain ⟨W10, hW10⟩ : ∃ W10, W10 = W9.alloc (Obj.cells #[.int .u8 3, .string ⟨#[]⟩] 36) := ⟨_, rfl⟩
                rw [← hW10]
                obtain ⟨b10, k10⟩ := boxS hW10
                obtain ⟨q10, hq10⟩ : ∃ x, x = W9.heap.size := ⟨_, rfl⟩
                rw [← hq10] at k10 ⊢
                have v0 := blk_cell k10 0
                have v1 := blk_cell k10 1
                simp at v0 v1
                have S10 : Hid (RiseI K w R q cl (j + 1) asq acd atx W10) := Lib.hid ⟨⟨l8, H9.out.grew b10, HL8.out⟩, (b10.block q (Array.getElem?_eq_some_iff.1 K9.out).1).trans K9.out, HI.out.hq⟩
                clear hW10 b10 k10 hq10
                go_wp2
                exact ⟨⟨j + 1, asq, acd, atx, by omega, by congr 1, rfl, HAA.out.2.1, S10, Lib.hid ⟨HAA.out.2.2.1, HAA.out.2.2.2⟩⟩, by simp only [intOf]; omega⟩
            · have hti : ¬ (top : Int) < asq := by omega
              have HS2 := Lib.hid ht
              clear hc1 ht
              go_upto_region 14 with (fail)
              obtain ⟨W6, hW6⟩ : ∃ W6, W6 = W5 := ⟨_, rfl⟩
              rw [← hW6]
              have S6 : Hid (RiseI K w R q cl (j + 1) top lc lt W6) := Lib.hid ⟨⟨_, by rw [hW6]; exact H5.out, HM.out.2.1, HM.out.2.2, by rw [HM.out.1, if_neg (fun h => HS2.out h.2)]⟩, by rw [hW6]; exact KQ.out, HI.out.hq⟩
              clear hW6 x0 x1 u0 u1 y1 y2 y3 y4 hc1i hti
              obtain ⟨l6, hl6, hlm6, hln6, hlk6⟩ := S6.out.ex
              have C6 : Hid (Calls Try.prog 13 #[.pointer (some ⟨R, 0, none⟩), .int .u32 (cl : Int), .int .u32 (top : Int)] W6 fun e W' => e = .returned (.tuple #[.agg #[.int .u8 (lc : Int), .string lt], .int .u8 1]) ∧ LiveP K w R l6 (fun k => k = q) W' ∧ Below W6.heap.size W6 W') := Lib.hid (by
                have h := hl6.look HT.out hlm6 cl top HV.out.1 htop
                rw [tellS_again hlk6] at h
                exact h)
              have HL6 := Lib.hid (And.intro hlm6 (And.intro hln6 hlk6))
              clear hl6 hlm6 hln6 hlk6
              go_wp2_with fail
              refine C6.out.mono ?_
              rintro e W7 ⟨rfl, h7, b7⟩
              have H7 := Lib.hid h7
              have K7 := Lib.hid ((b7.block q (Array.getElem?_eq_some_iff.1 S6.out.blk).1).trans S6.out.blk)
              clear h7 b7
              go_upto_region 15 with (fail)
              obtain ⟨W8, hW8⟩ : ∃ W8, W8 = W7.alloc (Obj.cells #[.int .u8 (lc : Int), .string lt] 36) := ⟨_, rfl⟩
              rw [← hW8]
              obtain ⟨b8, k8⟩ := boxS hW8
              obtain ⟨q8, hq8⟩ : ∃ x, x = W7.heap.size := ⟨_, rfl⟩
              rw [← hq8] at k8 ⊢
              have kq8 := (b8.block q (Array.getElem?_eq_some_iff.1 K7.out).1).trans K7.out
              have v0 := blk_cell k8 0
              have v1 := blk_cell k8 1
              have v2 := blk_cell kq8 0
              have v3 := blk_cell kq8 1
              simp at v0 v1 v2 v3
              have S8 : Hid (RiseI K w R q cl (j + 1) top lc lt W8) := Lib.hid ⟨⟨l6, H7.out.grew b8, HL6.out⟩, kq8, HI.out.hq⟩
              clear hW8 b8 k8 hq8 kq8
              by_cases h0 : top = 0
              · have h0i : decide ((0 : Int) < top) = false := by simp; omega
                go_wp2
                exact ⟨⟨j + 1, top, lc, lt, by omega, by congr 1, rfl, htop, S8, Lib.hid HLC.out⟩, by simp only [intOf]; omega⟩
              · have h0i : 0 < top := by omega
                obtain ⟨T1, hT1⟩ : ∃ x, x = top - 1 := ⟨_, rfl⟩
                have hw1 : IntKind.u32.wrap ((top : Int) - 1) = (T1 : Int) := by
                  have := htop
                  simp only [IntKind.wrap, IntKind.signed, IntKind.bits]
                  simp
                  omega
                have HT1 := Lib.hid hT1
                obtain ⟨l8, hl8, hlm8, hln8, hlk8⟩ := S8.out.ex
                have C8 : Hid (Calls Try.prog 13 #[.pointer (some ⟨R, 0, none⟩), .int .u32 (cl : Int), .int .u32 (T1 : Int)] W8 fun e W' => e = .returned (.tuple #[.agg #[.int .u8 3, .string ⟨#[]⟩], .int .u8 2]) ∧ LiveP K w R l8 (fun k => k = q) W' ∧ Below W8.heap.size W8 W') := Lib.hid (by
                  have h := hl8.look HT.out hlm8 cl T1 HV.out.1 (by have := htop; omega)
                  rw [tellS_old hlk8 (by omega)] at h
                  exact h)
                have HL8 := Lib.hid (And.intro hlm8 (And.intro hln8 hlk8))
                clear hl8 hlm8 hln8 hlk8 h0 hT1
                go_wp2_with fail
                refine C8.out.mono ?_
                rintro e W9 ⟨rfl, h9, b9⟩
                have H9 := Lib.hid h9
                have K9 := Lib.hid ((b9.block q (Array.getElem?_eq_some_iff.1 S8.out.blk).1).trans S8.out.blk)
                clear h9 b9 v0 v1 v2 v3
                go_upto_region 19 with (fail)
                obtain ⟨W10, hW10⟩ : ∃ W10, W10 = W9.alloc (Obj.cells #[.int .u8 3, .string ⟨#[]⟩] 36) := ⟨_, rfl⟩
                rw [← hW10]
                obtain ⟨b10, k10⟩ := boxS hW10
                obtain ⟨q10, hq10⟩ : ∃ x, x = W9.heap.size := ⟨_, rfl⟩
                rw [← hq10] at k10 ⊢
                have v0 := blk_cell k10 0
                have v1 := blk_cell k10 1
                simp at v0 v1
                have S10 : Hid (RiseI K w R q cl (j + 1) top lc lt W10) := Lib.hid ⟨⟨l8, H9.out.grew b10, HL8.out⟩, (b10.block q (Array.getElem?_eq_some_iff.1 K9.out).1).trans K9.out, HI.out.hq⟩
                clear hW10 b10 k10 hq10
                go_wp2
                exact ⟨⟨j + 1, top, lc, lt, by omega, by congr 1, rfl, htop, S10, Lib.hid HLC.out⟩, by simp only [intOf]; omega⟩
          · have hc1i : ((acl : Int) == (cl : Int)) = false := by simp; omega
            have HS2 := Lib.hid hc1
            clear hc1
            go_upto_region 14 with (fail)
            obtain ⟨W6, hW6⟩ : ∃ W6, W6 = W5 := ⟨_, rfl⟩
            rw [← hW6]
            have S6 : Hid (RiseI K w R q cl (j + 1) top lc lt W6) := Lib.hid ⟨⟨_, by rw [hW6]; exact H5.out, HM.out.2.1, HM.out.2.2, by rw [HM.out.1, if_neg (fun h => HS2.out h.1)]⟩, by rw [hW6]; exact KQ.out, HI.out.hq⟩
            clear hW6 x0 x1 u0 u1 y1 y2 y3 y4 hc1i
            obtain ⟨l6, hl6, hlm6, hln6, hlk6⟩ := S6.out.ex
            have C6 : Hid (Calls Try.prog 13 #[.pointer (some ⟨R, 0, none⟩), .int .u32 (cl : Int), .int .u32 (top : Int)] W6 fun e W' => e = .returned (.tuple #[.agg #[.int .u8 (lc : Int), .string lt], .int .u8 1]) ∧ LiveP K w R l6 (fun k => k = q) W' ∧ Below W6.heap.size W6 W') := Lib.hid (by
              have h := hl6.look HT.out hlm6 cl top HV.out.1 htop
              rw [tellS_again hlk6] at h
              exact h)
            have HL6 := Lib.hid (And.intro hlm6 (And.intro hln6 hlk6))
            clear hl6 hlm6 hln6 hlk6
            go_wp2_with fail
            refine C6.out.mono ?_
            rintro e W7 ⟨rfl, h7, b7⟩
            have H7 := Lib.hid h7
            have K7 := Lib.hid ((b7.block q (Array.getElem?_eq_some_iff.1 S6.out.blk).1).trans S6.out.blk)
            clear h7 b7
            go_upto_region 15 with (fail)
            obtain ⟨W8, hW8⟩ : ∃ W8, W8 = W7.alloc (Obj.cells #[.int .u8 (lc : Int), .string lt] 36) := ⟨_, rfl⟩
            rw [← hW8]
            obtain ⟨b8, k8⟩ := boxS hW8
            obtain ⟨q8, hq8⟩ : ∃ x, x = W7.heap.size := ⟨_, rfl⟩
            rw [← hq8] at k8 ⊢
            have kq8 := (b8.block q (Array.getElem?_eq_some_iff.1 K7.out).1).trans K7.out
            have v0 := blk_cell k8 0
            have v1 := blk_cell k8 1
            have v2 := blk_cell kq8 0
            have v3 := blk_cell kq8 1
            simp at v0 v1 v2 v3
            have S8 : Hid (RiseI K w R q cl (j + 1) top lc lt W8) := Lib.hid ⟨⟨l6, H7.out.grew b8, HL6.out⟩, kq8, HI.out.hq⟩
            clear hW8 b8 k8 hq8 kq8
            by_cases h0 : top = 0
            · have h0i : decide ((0 : Int) < top) = false := by simp; omega
              go_wp2
              exact ⟨⟨j + 1, top, lc, lt, by omega, by congr 1, rfl, htop, S8, Lib.hid HLC.out⟩, by simp only [intOf]; omega⟩
            · have h0i : 0 < top := by omega
              obtain ⟨T1, hT1⟩ : ∃ x, x = top - 1 := ⟨_, rfl⟩
              have hw1 : IntKind.u32.wrap ((top : Int) - 1) = (T1 : Int) := by
                have := htop
                simp only [IntKind.wrap, IntKind.signed, IntKind.bits]
                simp
                omega
              have HT1 := Lib.hid hT1
              obtain ⟨l8, hl8, hlm8, hln8, hlk8⟩ := S8.out.ex
              have C8 : Hid (Calls Try.prog 13 #[.pointer (some ⟨R, 0, none⟩), .int .u32 (cl : Int), .int .u32 (T1 : Int)] W8 fun e W' => e = .returned (.tuple #[.agg #[.int .u8 3, .string ⟨#[]⟩], .int .u8 2]) ∧ LiveP K w R l8 (fun k => k = q) W' ∧ Below W8.heap.size W8 W') := Lib.hid (by
                have h := hl8.look HT.out hlm8 cl T1 HV.out.1 (by have := htop; omega)
                rw [tellS_old hlk8 (by omega)] at h
                exact h)
              have HL8 := Lib.hid (And.intro hlm8 (And.intro hln8 hlk8))
              clear hl8 hlm8 hln8 hlk8 h0 hT1
              go_wp2_with fail
              refine C8.out.mono ?_
              rintro e W9 ⟨rfl, h9, b9⟩
              have H9 := Lib.hid h9
              have K9 := Lib.hid ((b9.block q (Array.getElem?_eq_some_iff.1 S8.out.blk).1).trans S8.out.blk)
              clear h9 b9 v0 v1 v2 v3
              go_upto_region 19 with (fail)
              obtain ⟨W10, hW10⟩ : ∃ W10, W10 = W9.alloc (Obj.cells #[.int .u8 3, .string ⟨#[]⟩] 36) := ⟨_, rfl⟩
              rw [← hW10]
              obtain ⟨b10, k10⟩ := boxS hW10
              obtain ⟨q10, hq10⟩ : ∃ x, x = W9.heap.size := ⟨_, rfl⟩
              rw [← hq10] at k10 ⊢
              have v0 := blk_cell k10 0
              have v1 := blk_cell k10 1
              simp at v0 v1
              have S10 : Hid (RiseI K w R q cl (j + 1) top lc lt W10) := Lib.hid ⟨⟨l8, H9.out.grew b10, HL8.out⟩, (b10.block q (Array.getElem?_eq_some_iff.1 K9.out).1).trans K9.out, HI.out.hq⟩
              clear hW10 b10 k10 hq10
              go_wp2
              exact ⟨⟨j + 1, top, lc, lt, by omega, by congr 1, rfl, htop, S10, Lib.hid HLC.out⟩, by simp only [intOf]; omega⟩
      · obtain rfl : j = L := by omega
        have hji : ¬ (j : Int) < j := by omega
        have HLV := Lib.hid HI.out.ex
        clear hlt
        go_wp2_with fail
        refine (HWK.out _ (by obtain ⟨tl, h1, _⟩ := HLV.out; exact h1.below)).mono ?_
        rintro e W5 ⟨rfl, b5⟩
        have B5 : Hid (Below w.heap.size w W5) := Lib.hid (by obtain ⟨tl, h1, _⟩ := HLV.out; exact h1.below.trans (Below.mono b5 h1.below.size))
        clear b5
        go_wp2
        go_ret
        exact ⟨rfl, B5.out⟩
end Go.Proofs.Ytelbgjnaceffeaa
