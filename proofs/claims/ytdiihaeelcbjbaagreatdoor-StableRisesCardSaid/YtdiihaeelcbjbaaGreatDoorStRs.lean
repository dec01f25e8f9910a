/- StableRises: the walk. -/
import Derived.Test.YtdiihaeelcbjbaaGreatDoorMStI
namespace Go.Proofs.YtdiihaeelcbjbaaGreatDoor
open Go.RowKit

theorem HasVM.le {b b' : Nat} {w : World} {A : Option Addr} {l : List VM} (h : HasVM b w A l) (hb : b' ≤ b) : HasVM b' w A l := fun hl => by
  obtain ⟨c, q, e, h0, h1, h2⟩ := h hl
  refine ⟨c, q, e, Nat.le_trans hb h0, h1, fun j hj => ?_⟩
  obtain ⟨y, L, c0, c1, c2, c3, ho⟩ := h2 j hj
  exact ⟨y, L, c0, c1, c2, c3, ho.down hb⟩
theorem TellS.vote {P : DiskK} {K : StabK P} {B : Nat} {s : SM} {W : World} (h : TellS K B s W) (n : Nat) (hn : n < 18446744073709551616) : Calls Tryz.prog 28 #[.pointer (some ⟨B, 0, none⟩), .int .u64 (n : Int)] W fun e W' => Below W.heap.size W W' ∧
    match s.vote n with
    | some v => ∃ cs, e = .returned (.tuple #[.agg cs.toArray, .bool true]) ∧ VoteV W.heap.size W' cs v
    | none => e = .returned (.tuple #[.agg #[.int .u64 0, .int .u64 0, .int .i64 0, .slice none 0 0], .bool false]) := by
  obtain ⟨G, R, h1⟩ := h.ex
  exact K.vote n h1 h.ok h.len hn
theorem SM.ok.no_vote {s : SM} (h : s.ok) {n : Nat} (hn : n ≤ s.base) : s.vote n = none := by
  unfold SM.vote
  rw [List.find?_eq_none]
  intro v hv
  have := (h.vs v hv).1
  simp only [beq_iff_eq]
  omega
set_option maxRecDepth 100000 in
set_option maxHeartbeats 20000000 in
theorem StableRises_any {P : DiskK} (K : StabK P) (A : Option Addr) (L c : Nat) (l : List AcM) (w : World) (hT : Tab w) (hL : L = l.length) (hm : L ≤ 140737488351232) (hA : HasAcM w A l) (hok : ∀ a ∈ l, a.ok) :
    Calls Tryz.prog 5 #[.slice A L c] w fun e W' => e = .returned (.bool true) ∧ Below w.heap.size w W' := by
  have HT := Lib.hid hT
  have HL := Lib.hid (And.intro hL (And.intro hA hok))
  have HG := Lib.hid (great_any A L c l w hL hm hA)
  have HWK := Lib.hid (show ∀ W, Below w.heap.size w W → Calls Tryz.prog 8 #[] W fun e W' => e = .returned (.bool true) ∧ Below w.heap.size w W' from fun W hb => (wakes16_any K W (HT.out.grew hb)).mono fun e W' ⟨h1, h2⟩ => ⟨h1, hb.trans (Below.mono h2 hb.size)⟩)
  have HF := Lib.hid (show ∀ W, Below w.heap.size w W → Calls Tryz.prog 19 #[] W fun e W' => ∃ R B, e = .returned (.tuple #[.pointer (some ⟨R, 0, none⟩), .pointer (some ⟨B, 0, none⟩)]) ∧ LiveT K w R B (dW [] 0) SM.new (fun _ => False) W' from fun W hb => (fresh_any K W (HT.out.grew hb)).mono fun e W' ⟨R, B, h1, h2⟩ => ⟨R, B, h1, h2.rebase hb⟩)
  have HM := Lib.hid hm
  clear hT hL hm hA hok
  go_enter Tryz.func5, Tryz.ntmps5
  go_wp2_with fail
  refine HG.out.mono ?_
  rintro e W0 ⟨rfl, b0⟩
  have H0 := Lib.hid b0
  clear b0 HG
  by_cases hg : greatM l = true
  · rw [hg]
    clear hg
    go_wp2_with fail
    refine (HWK.out _ H0.out).mono ?_
    rintro e W3 ⟨rfl, b3⟩
    have H3 := Lib.hid b3
    clear b3
    go_wp2
    go_ret
    exact ⟨rfl, H3.out⟩
  have hg' : greatM l = false := by simpa using hg
  obtain ⟨g1, g2⟩ := greatM_not hg'
  have HS := Lib.hid (And.intro (show L ≤ 100 by have := HL.out.1; omega) g2)
  rw [hg']
  clear hg hg' g1 g2
  go_wp2_with fail
  refine (HF.out _ H0.out).mono ?_
  rintro e W1 ⟨R, B, rfl, l1⟩
  have L1 := Lib.hid (SetsI.new l1)
  clear l1 HF H0
  go_wp2
  go_loopw [5, 6, 7, 8, 9, 10, 11, 12, 13, 14, 15, 16, 17] (fun v5 v6 v7 v8 v9 v10 v11 v12 v13 v14 v15 v16 v17 wr => ∃ i : Nat, i ≤ L ∧ v5 = .int .i64 (i : Int) ∧ Hid (∃ d s, SetsI K w R B (fun _ => False) i d s wr)) (fun v _ _ _ _ _ _ _ _ _ _ _ _ _ => L - (intOf v).toNat)
  case atStart => exact ⟨0, Nat.zero_le _, rfl, Lib.hid ⟨_, _, L1.out⟩⟩
  case round =>
    obtain ⟨i, hi, rfl, HI⟩ := hrel
    by_cases hlt : i < L
    · have hii : (i : Int) < L := by omega
      have HN := Lib.hid (show i < L ∧ i ≤ 100 by have := HS.out.1; omega)
      obtain ⟨d, s, hS⟩ := HI.out
      have S0 := Lib.hid hS
      have T0 := Lib.hid (hS.tell (by have := HN.out.2; omega))
      clear hS HI hlt hi
      go_wp2_with fail
      refine T0.out.promise.mono ?_
      rintro e W2 ⟨rfl, b2⟩
      have T2 := Lib.hid (T0.out.grew b2)
      have H2 := Lib.hid (show Below wr.heap.size wr W2 from b2)
      clear b2 T0
      go_wp2_with fail
      refine T2.out.base.mono ?_
      rintro e W3 ⟨rfl, b3⟩
      have T3 := Lib.hid (T2.out.grew b3)
      have H3 := Lib.hid (H2.out.trans (Below.mono b3 H2.out.size))
      clear b3 T2 H2
      go_wp2_with fail
      refine T3.out.votes.mono ?_
      rintro e W4 ⟨b4, A4, k4, rfl, v4⟩
      have H4 := Lib.hid (H3.out.trans (Below.mono b4 H3.out.size))
      have V4 := Lib.hid (v4.le H3.out.size)
      clear b4 v4 T3 H3
      go_upto_region 10 with (fail)
      obtain ⟨W5, hW5⟩ : ∃ W, W = W4.alloc (.cells #[.int .u64 (s.p.n : Int), .int .i64 s.p.r] 25) := ⟨_, rfl⟩
      rw [← hW5]
      obtain ⟨b5, k5, s5⟩ := boxBA hW5
      obtain ⟨pb, hpb⟩ : ∃ p, p = W4.heap.size := ⟨_, rfl⟩
      rw [← hpb] at k5 ⊢
      have hb5 := H4.out.trans (Below.mono b5 H4.out.size)
      have S5 := Lib.hid (S0.out.more (Z := fun k => wr.heap.size ≤ k ∧ k < W5.heap.size) hb5 (fun _ h => h.1) (fun _ h => h.2))
      have V5 := Lib.hid (V4.out.only (Only.of_grew (F := fun _ => False) b5) fun _ _ _ => id)
      have K5 := Lib.hid (And.intro k5 (show wr.heap.size ≤ pb by rw [hpb]; exact H4.out.size))
      have H5 := Lib.hid S5.out.live.below
      have hi1 : i < l.length := by have := HL.out.1; have := HN.out.1; omega
      obtain ⟨bb, o, e1, hbl, hac⟩ := HL.out.2.1 (by rintro rfl; simp at hi1)
      subst e1
      obtain ⟨a, ha⟩ : ∃ a, a = l[i] := ⟨_, rfl⟩
      have hac' := hac i hi1
      rw [← ha] at hac'
      obtain ⟨X, xc, a0, a1, a2, a3, a4, a5, hxc, hX⟩ := hac'
      have hbc : ∀ j, W5.cell? ⟨bb, j, none⟩ = w.cell? ⟨bb, j, none⟩ := fun j => H5.out.cell (p := ⟨bb, j, none⟩) hbl
      have d0 := (hbc _).trans a0
      have d1 := (hbc _).trans a1
      have d2 := (hbc _).trans a2
      have d3 := (hbc _).trans a3
      have d4 := (hbc _).trans a4
      have d5 := (hbc _).trans a5
      have hao : a.ok := by rw [ha]; exact HL.out.2.2 _ (List.getElem_mem hi1)
      have hax : a.x.length ≤ 200 := by rw [ha]; exact HS.out.2 _ (List.getElem_mem hi1)
      have HAC := Lib.hid (And.intro hbl (And.intro a0 (And.intro a2 hao)))
      have hro := rose (s := s) (d := d) S0.out.live.ok hao (by omega) S0.out.dead S0.out.f
      have hset := S5.out.set HT.out (by have := HN.out.2; omega) hao X xc hxc hax (hX.below' H5.out)
      obtain ⟨r, hr⟩ : ∃ r, r = s.on d a.um := ⟨_, rfl⟩
      rw [← hr] at hro hset
      obtain ⟨⟨d', s'⟩, m⟩ := r
      obtain ⟨dn, hdn⟩ : ∃ dn, dn = decide (m = 0) := ⟨_, rfl⟩
      simp only at hro hset
      rw [← hdn] at hro hset
      have HSET := Lib.hid hset
      have RO := Lib.hid hro
      clear hW5 b5 k5 s5 hpb hb5 V4 H4 hac a0 a1 a2 a3 a4 a5 hxc hX hbc hao hax hset hro hr hdn ha hi1 hbl
      go_wp2_with fail
      refine HSET.out.mono ?_
      rintro e W6 ⟨rfl, s6, Z, o6, hZ⟩
      have V6 := Lib.hid (V5.out.only o6 fun k h1 h2 hz => (hZ k hz).2 (.inl ⟨h1, h2⟩)).weak
      have kp : W6.heap[pb]? = some (.cells #[.int .u64 (s.p.n : Int), .int .i64 s.p.r] 25 (0, 0)) := (o6.block pb (Array.getElem?_eq_some_iff.1 K5.out.1).1 fun hz => (hZ pb hz).2 (.inl ⟨K5.out.2, (Array.getElem?_eq_some_iff.1 K5.out.1).1⟩)).trans K5.out.1
      have K6 := Lib.hid kp
      have S6 := Lib.hid (s6.less (Q' := fun _ => False) fun _ h => h.elim)
      have T6 := Lib.hid (s6.tell (by have := HN.out.2; omega))
      clear s6 o6 hZ kp V5 K5 S5 H5 HSET d0 d1 d2 d3 d4 d5
      go_wp2_with fail
      refine T6.out.promise.mono ?_
      rintro e W7 ⟨rfl, b7⟩
      have T7 := Lib.hid (T6.out.grew b7)
      have H7 := Lib.hid (show Below W6.heap.size W6 W7 from b7)
      clear b7 T6
      go_wp2_with fail
      refine T7.out.votes.mono ?_
      rintro e W8 ⟨b8, A8, k8, rfl, v8⟩
      have H8 := Lib.hid (H7.out.trans (Below.mono b8 H7.out.size))
      have N8 := Lib.hid v8.weak
      clear b8 v8 T7 H7
      go_upto_region 12 with (fail)
      obtain ⟨W9, hW9⟩ : ∃ W, W = W8.alloc (.cells #[.int .u64 (s'.p.n : Int), .int .i64 s'.p.r] 25) := ⟨_, rfl⟩
      rw [← hW9]
      obtain ⟨b9, k9, z9⟩ := boxBA hW9
      obtain ⟨pc, hpc⟩ : ∃ p, p = W8.heap.size := ⟨_, rfl⟩
      rw [← hpc] at k9 ⊢
      have hb9 := H8.out.trans (Below.mono b9 H8.out.size)
      have S9 := Lib.hid (S6.out.grew hb9)
      have VN := Lib.hid (And.intro (V6.out.below hb9) (N8.out.below b9))
      have hpbl := (Array.getElem?_eq_some_iff.1 K6.out).1
      have kpb := (hb9.block pb hpbl).trans K6.out
      have hpcl := (Array.getElem?_eq_some_iff.1 k9).1
      have hpbl9 := (Array.getElem?_eq_some_iff.1 kpb).1
      have p0 : W9.cell? ⟨pb, 0, none⟩ = some (.int .u64 (s.p.n : Int)) := by rw [blk_cell kpb 0]; rfl
      have p1 : W9.cell? ⟨pb, 1, none⟩ = some (.int .i64 s.p.r) := by rw [blk_cell kpb 1]; rfl
      have q0 : W9.cell? ⟨pc, 0, none⟩ = some (.int .u64 (s'.p.n : Int)) := by rw [blk_cell k9 0]; rfl
      have q1 : W9.cell? ⟨pc, 1, none⟩ = some (.int .i64 s'.p.r) := by rw [blk_cell k9 1]; rfl
      have KC := Lib.hid (And.intro q0 (And.intro q1 hpcl))
      have KP := Lib.hid (And.intro hpbl9 (And.intro p0 p1))
      have T9 := Lib.hid (S9.out.tell (by have := HN.out.2; omega))
      clear hW9 b9 k9 z9 hpc hb9 hpbl kpb hpcl hpbl9 H8 N8 V6 K6 S6
      go_cut [95] (fun v wx => v = .bool false ∧ Hid (Below W9.heap.size W9 wx))
      case first => as_aux_lemma =>
        have hl1 : ¬ (s'.p.n : Int) < (s.p.n : Int) := by
          have := RO.out.p
          unfold ltB at this
          omega
        have hl2 : ¬ (s'.base : Int) < (s.base : Int) := by have := RO.out.base; omega
        have hl3 : decide (s'.base < s.base) = false := decide_eq_false (by have := RO.out.base; omega)
        have HBS := Lib.hid (show ∀ W, Below W9.heap.size W9 W → Calls Tryz.prog 26 #[.pointer (some ⟨B, 0, none⟩)] W fun e W' => e = .returned (.int .u64 (s'.base : Int)) ∧ Grew W W' from fun W hb => (T9.out.grew hb).base)
        cases dn with
        | true =>
          by_cases he : (s'.p.n : Int) = s.p.n
          · have hr : ¬ s'.p.r < s.p.r := by
              have := RO.out.p
              unfold ltB at this
              omega
            go_wp2_with fail
            refine (HBS.out _ (Below.refl _ _)).mono ?_
            rintro e Wx ⟨rfl, bx⟩
            have HX := Lib.hid (show Below W9.heap.size W9 Wx from bx)
            clear bx
            go_wp2
            go_meet
            exact ⟨rfl, HX⟩
          · go_wp2_with fail
            refine (HBS.out _ (Below.refl _ _)).mono ?_
            rintro e Wx ⟨rfl, bx⟩
            have HX := Lib.hid (show Below W9.heap.size W9 Wx from bx)
            clear bx
            go_wp2
            go_meet
            exact ⟨rfl, HX⟩
        | false =>
          have e := RO.out.no rfl
          subst e
          have hr : ¬ s'.p.r < s'.p.r := by omega
          have hnb := fun w => neBf (a := s'.p) (b := s'.p) w rfl
          go_wp2_with fail
          refine (HBS.out _ (Below.refl _ _)).mono ?_
          rintro e Wx ⟨rfl, bx⟩
          have r0 := (bx.cell (p := ⟨pb, 0, none⟩) KP.out.1).trans p0
          have r1 := (bx.cell (p := ⟨pb, 1, none⟩) KP.out.1).trans p1
          have t0 := (bx.cell (p := ⟨pc, 0, none⟩) KC.out.2.2).trans q0
          have t1 := (bx.cell (p := ⟨pc, 1, none⟩) KC.out.2.2).trans q1
          have HX := Lib.hid (show Below W9.heap.size W9 Wx from bx)
          clear bx
          go_wp2_with fail
          refine (HBS.out _ HX.out).mono ?_
          rintro e Wy ⟨rfl, by'⟩
          have HY := Lib.hid (HX.out.trans (Below.mono by' HX.out.size))
          clear by'
          go_wp2
          go_meet
          exact ⟨rfl, HY⟩
      case rest =>
        obtain ⟨rfl, HX⟩ := hcut
        clear p0 p1 q0 q1 KP
        obtain ⟨n, hn⟩ : ∃ n, n = s'.vs.length := ⟨_, rfl⟩
        have hn1 : n ≤ 101 := by have := S9.out.vs; have := HN.out.2; omega
        have hni : (n : Int) ≤ 101 := by omega
        have HNN := Lib.hid hn
        rw [← hn]
        clear hn
        go_wp2
        go_loopw [12, 13] (fun v12 v13 wx => ∃ k : Nat, k ≤ n ∧ v12 = .int .i64 (k : Int) ∧ Hid (Below W9.heap.size W9 wx)) (fun v _ _ => n - (intOf v).toNat)
        case atStart => exact ⟨0, Nat.zero_le _, rfl, HX⟩
        case round =>
          obtain ⟨k, hk, rfl, HK⟩ := hrel
          by_cases hlk : k < n
          · have hki : (k : Int) < n := by omega
            have hk1 : k < s'.vs.length := by have := HNN.out; omega
            obtain ⟨nb, no, e1, ln, fn⟩ := (VN.out.2.below HK.out) (by intro e; rw [e] at hk1; cases hk1)
            subst e1
            obtain ⟨X1, e1, y0, y1, y2, y3, -⟩ := fn k hk1
            obtain ⟨v, hv⟩ : ∃ v, v = s'.vs[k] := ⟨_, rfl⟩
            rw [← hv] at y0 y1 y2 y3
            have y2' : wr.cell? ⟨nb, no + k * 4 + 2, none⟩ = some (.int .i64 v.b.r) := y2
            have HMV := Lib.hid (show v ∈ s'.vs from by rw [hv]; exact List.getElem_mem hk1)
            have HPV := Lib.hid (show ∀ (j : Nat) (h : j < s'.vs.length), j < k → s'.vs[j].s < v.s from fun j h hj => by rw [hv]; exact List.pairwise_iff_getElem.1 S9.out.live.ok.sorted j k h hk1 hj)
            clear hk y2 hv
            go_upto_region 18 with (fail)
            obtain ⟨Wv, hWv⟩ : ∃ W, W = wr.alloc (.cells #[.int .u64 (v.s : Int), .int .u64 (v.b.n : Int), .int .i64 v.b.r, .slice X1 v.x.length e1] 68) := ⟨_, rfl⟩
            rw [← hWv]
            obtain ⟨pv, hpv⟩ : ∃ p, p = wr.heap.size := ⟨_, rfl⟩
            rw [← hpv]
            have bv : Below wr.heap.size wr Wv := by rw [hWv]; exact (Below.refl _ _).alloc (Nat.le_refl _) _
            have kv : Wv.heap[pv]? = some (.cells #[.int .u64 (v.s : Int), .int .u64 (v.b.n : Int), .int .i64 v.b.r, .slice X1 v.x.length e1] 68 (0, 0)) := by rw [hWv, hpv]; exact World.alloc_heap_new wr _
            have lv := (Array.getElem?_eq_some_iff.1 kv).1
            have x0 : Wv.cell? ⟨pv, 0, none⟩ = some (.int .u64 (v.s : Int)) := (blk_cell kv 0).trans rfl
            have x1 : Wv.cell? ⟨pv, 1, none⟩ = some (.int .u64 (v.b.n : Int)) := (blk_cell kv 1).trans rfl
            have x2 : Wv.cell? ⟨pv, 2, none⟩ = some (.int .i64 v.b.r) := (blk_cell kv 2).trans rfl
            have HV := Lib.hid (HK.out.trans (Below.mono bv HK.out.size))
            have z0 := (HV.out.cell (p := ⟨pc, 0, none⟩) KC.out.2.2).trans KC.out.1
            have z1 := (HV.out.cell (p := ⟨pc, 1, none⟩) KC.out.2.2).trans KC.out.2.1
            have lc := Nat.lt_of_lt_of_le KC.out.2.2 HV.out.size
            have hBs : ∀ w', Grew Wv w' → Calls Tryz.prog 26 #[.pointer (some ⟨B, 0, none⟩)] w' fun e W' => e = .returned (.int .u64 (s'.base : Int)) ∧ Grew w' W' := fun w' hg => (T9.out.grew (HV.out.trans (Below.mono hg HV.out.size))).base
            obtain ⟨hmv, -, -, -, hlv, -⟩ := S9.out.live.ok.vs v HMV.out
            have hnv : v.b.n ≤ s'.p.n := by unfold ltB at hlv; omega
            have hkm : k ≤ 1000 := by omega
            by_cases hk0 : 0 < k
            · have hkn : k - 1 < n := by omega
              have hk2 : k - 1 < s'.vs.length := by omega
              obtain ⟨-, -, w0, -, -, -, -⟩ := fn (k - 1) hk2
              have hss := HPV.out (k - 1) hk2 (by omega)
              obtain ⟨s0, hs0⟩ : ∃ s0, s0 = s'.vs[k - 1].s := ⟨_, rfl⟩
              rw [← hs0] at w0 hss
              have n0 := (bv.cell (p := ⟨nb, no + (k - 1) * 4, none⟩) ln).trans w0
              have ln := Nat.lt_of_lt_of_le ln bv.size
              clear hWv hpv bv kv fn y0 y1 y2' y3 w0 hs0
              by_cases he : v.b.n = s'.p.n
              · have hre : v.b.r ≤ s'.p.r := by unfold ltB at hlv; omega
                refine rises_v11 B pv pc k n nb no k8 s'.base s0 v s'.p _ Wv _ rfl rfl rfl rfl rfl rfl lv lc x0 x1 x2 z0 z1 hBs hmv hnv he hre hk0 hkm hkn ln n0 hss ?_
                intro W' hg
                have HJ := Lib.hid (show Below W9.heap.size W9 W' from HV.out.trans (Below.mono hg HV.out.size))
                simp only [puts, List.foldl_cons, List.foldl_nil, Act.put, List.setIfInBounds_toArray, List.set_cons_succ, List.set_cons_zero]
                clear hg lv lc x0 x1 x2 z0 z1
                go_wp2
                exact ⟨⟨k + 1, by omega, rfl, HJ⟩, by simp only [intOf]; omega⟩
              · refine rises_v01 B pv pc k n nb no k8 s'.base s0 v s'.p _ Wv _ rfl rfl rfl rfl rfl rfl lv lc x0 x1 x2 z0 z1 hBs hmv hnv he hk0 hkm hkn ln n0 hss ?_
                intro W' hg
                have HJ := Lib.hid (show Below W9.heap.size W9 W' from HV.out.trans (Below.mono hg HV.out.size))
                simp only [puts, List.foldl_cons, List.foldl_nil, Act.put, List.setIfInBounds_toArray, List.set_cons_succ, List.set_cons_zero]
                clear hg lv lc x0 x1 x2 z0 z1
                go_wp2
                exact ⟨⟨k + 1, by omega, rfl, HJ⟩, by simp only [intOf]; omega⟩
            · have hk0 : k = 0 := by omega
              clear hWv hpv bv kv fn y0 y1 y2' y3
              by_cases he : v.b.n = s'.p.n
              · have hre : v.b.r ≤ s'.p.r := by unfold ltB at hlv; omega
                refine rises_v10 B pv pc k n nb no k8 s'.base 0 v s'.p _ Wv _ rfl rfl rfl rfl rfl rfl lv lc x0 x1 x2 z0 z1 hBs hmv hnv he hre hk0 ?_
                intro W' hg
                have HJ := Lib.hid (show Below W9.heap.size W9 W' from HV.out.trans (Below.mono hg HV.out.size))
                simp only [puts, List.foldl_cons, List.foldl_nil, Act.put, List.setIfInBounds_toArray, List.set_cons_succ, List.set_cons_zero]
                clear hg lv lc x0 x1 x2 z0 z1
                go_wp2
                exact ⟨⟨1, by omega, rfl, HJ⟩, by simp only [intOf]; omega⟩
              · refine rises_v00 B pv pc k n nb no k8 s'.base 0 v s'.p _ Wv _ rfl rfl rfl rfl rfl rfl lv lc x0 x1 x2 z0 z1 hBs hmv hnv he hk0 ?_
                intro W' hg
                have HJ := Lib.hid (show Below W9.heap.size W9 W' from HV.out.trans (Below.mono hg HV.out.size))
                simp only [puts, List.foldl_cons, List.foldl_nil, Act.put, List.setIfInBounds_toArray, List.set_cons_succ, List.set_cons_zero]
                clear hg lv lc x0 x1 x2 z0 z1
                go_wp2
                exact ⟨⟨1, by omega, rfl, HJ⟩, by simp only [intOf]; omega⟩
          · have hki : ¬ (k : Int) < n := by omega
            clear hlk hk HX
            have HX := HK
            clear HK
            obtain ⟨pw, hpw⟩ : ∃ pw, pw = s.vs.length := ⟨_, rfl⟩
            have HPW := Lib.hid hpw
            have hpwi : (pw : Int) ≤ 101 := by have := S0.out.vs; have := HN.out.2; omega
            rw [← hpw]
            clear hpw
            go_wp2
            go_loopw [14] (fun v14 wy => ∃ j : Nat, j ≤ pw ∧ v14 = .int .i64 (j : Int) ∧ Hid (Below W9.heap.size W9 wy)) (fun v _ => pw - (intOf v).toNat)
            case atStart => exact ⟨0, Nat.zero_le _, rfl, HX⟩
            case round =>
              obtain ⟨j, hj, rfl, HJ⟩ := hrel
              by_cases hlj : j < pw
              · have hji : (j : Int) < pw := by omega
                have hj1 : j < s.vs.length := by have := HPW.out; omega
                obtain ⟨wb, wo, e1, lw, fw⟩ := (VN.out.1.below HJ.out) (by intro e; rw [e] at hj1; cases hj1)
                subst e1
                obtain ⟨Y, f, v0, v1, v2, v3, gy⟩ := fw j hj1
                obtain ⟨v, hv⟩ : ∃ v, v = s.vs[j] := ⟨_, rfl⟩
                rw [← hv] at v0 v1 v2 v3 gy
                have hvm : v ∈ s.vs := by rw [hv]; exact List.getElem_mem hj1
                have HVM := Lib.hid hvm
                have HW := Lib.hid (And.intro lw (And.intro v0 (And.intro v1 (And.intro v2 (And.intro v3 gy)))))
                have HVO := Lib.hid (S0.out.live.ok.vs v hvm)
                have HLJ := Lib.hid (show j < pw from hlj)
                have TV := Lib.hid ((T9.out.grew HJ.out).vote v.s HVO.out.2.1)
                have RV := Lib.hid (RO.out.vs v hvm)
                have NV := Lib.hid (fun h : v.s ≤ s'.base => T9.out.ok.no_vote h)
                clear hvm v1 v2 v3 gy hlj hj hv fw
                go_wp2_with fail
                refine TV.out.mono ?_
                rintro e Wv ⟨bv, hres⟩
                have HBV := Lib.hid bv
                have HQ : ∃ (x0 x1 x2 : Int) (X : Option Addr) (M e0 : Nat) (is : Bool), e = .returned (.tuple #[.agg #[.int .u64 x0, .int .u64 x1, .int .i64 x2, .slice X M e0], .bool is]) ∧ Hid ((v.s ≤ s'.base ∧ is = false) ∨ (s'.base < v.s ∧ is = true ∧ ∃ v', s'.vote v.s = some v' ∧ x1 = (v'.b.n : Int) ∧ x2 = v'.b.r ∧ M = v'.x.length ∧ HasA Wv Wv.heap.size X v'.x)) := by
                  by_cases hbs : v.s ≤ s'.base
                  · rw [NV.out hbs] at hres
                    exact ⟨0, 0, 0, none, 0, 0, false, hres, Lib.hid (.inl ⟨hbs, rfl⟩)⟩
                  · obtain ⟨v', hv', _⟩ := RV.out (by omega)
                    rw [hv'] at hres
                    obtain ⟨cs, he, y, M, rfl, ho⟩ := hres
                    obtain ⟨X, e0, rfl⟩ := ho.form
                    exact ⟨_, _, _, X, M, e0, true, he, Lib.hid (.inr ⟨by omega, rfl, v', hv', rfl, rfl, ho.len, ho.has⟩)⟩
                obtain ⟨x0, x1, x2, X, M, e0, is, rfl, HVQ⟩ := HQ
                clear bv hres TV NV
                go_upto_region 24 with (fail)
                obtain ⟨Wp, hWp⟩ : ∃ W, W = Wv.alloc (.cells #[.int .u64 x0, .int .u64 x1, .int .i64 x2, .slice X M e0] 68) := ⟨_, rfl⟩
                rw [← hWp]
                obtain ⟨pv, hpv⟩ : ∃ p, p = Wv.heap.size := ⟨_, rfl⟩
                rw [← hpv]
                have bp : Below Wv.heap.size Wv Wp := by rw [hWp]; exact (Below.refl _ _).alloc (Nat.le_refl _) _
                have kp : Wp.heap[pv]? = some (.cells #[.int .u64 x0, .int .u64 x1, .int .i64 x2, .slice X M e0] 68 (0, 0)) := by rw [hWp, hpv]; exact World.alloc_heap_new Wv _
                have HKP := Lib.hid kp
                have HP0 := Lib.hid (HBV.out.trans (Below.mono bp HBV.out.size))
                have HBP := Lib.hid bp
                have HP := Lib.hid (HJ.out.trans (Below.mono HP0.out HJ.out.size))
                clear hWp hpv bp kp
                go_cut [17] (fun v17 wz => ∃ d2 : Bool, v17 = .bool d2 ∧ Hid (Below Wp.heap.size Wp wz ∧ (d2 = false → ¬ (dn = true ∧ a.k % 3 = 1 ∧ a.s = v.s))))
                case first =>
                  have hw9 : Below w.heap.size w Wp := S9.out.live.below.trans (Below.mono HP.out S9.out.live.below.size)
                  have la : bb < Wp.heap.size := Nat.lt_of_lt_of_le HAC.out.1 hw9.size
                  have z0 : Wp.cell? ⟨bb, o + i * 6 + 0, none⟩ = some (.int .u8 (a.k : Int)) := (hw9.cell (p := ⟨bb, _, none⟩) HAC.out.1).trans HAC.out.2.1
                  have z2 : Wp.cell? ⟨bb, o + i * 6 + 2, none⟩ = some (.int .u64 (a.s : Int)) := (hw9.cell (p := ⟨bb, _, none⟩) HAC.out.1).trans HAC.out.2.2.1
                  have lwp : wb < Wp.heap.size := Nat.lt_of_lt_of_le HW.out.1 HP0.out.size
                  have zv : Wp.cell? ⟨wb, wo + j * 4, none⟩ = some (.int .u64 (v.s : Int)) := (HP0.out.cell (p := ⟨wb, _, none⟩) HW.out.1).trans HW.out.2.1
                  have hil : i < L := HN.out.1
                  have hak := HAC.out.2.2.2.k
                  by_cases hd : dn = true
                  · subst hd
                    by_cases hq : a.k % 3 = 1
                    · obtain ⟨e3, he3⟩ : ∃ e3, e3 = decide (a.s = v.s) := ⟨_, rfl⟩
                      refine rises_c2 bb o L c i wb wo pw k4 j a.k a.s v.s e3 _ Wp _ rfl rfl rfl rfl rfl rfl hil la hak z0 hq HLJ.out lwp z2 zv he3 ?_
                      intro W' hg
                      have HR2 := Lib.hid (show Below Wp.heap.size Wp W' ∧ (e3 = false → ¬ (true = true ∧ a.k % 3 = 1 ∧ a.s = v.s)) from ⟨hg, fun h h' => by rw [he3] at h; exact absurd h'.2.2 (of_decide_eq_false h)⟩)
                      simp only [puts, List.foldl_cons, List.foldl_nil, Act.put, List.setIfInBounds_toArray, List.set_cons_succ, List.set_cons_zero]
                      clear hg hw9 la z0 z2 lwp zv hil hak hq he3
                      go_wp2_with fail
                      go_meet
                      exact ⟨e3, rfl, HR2⟩
                    · refine rises_c1 bb o L c i wb wo pw k4 j a.k 0 0 false _ Wp _ rfl rfl rfl rfl rfl rfl hil la hak z0 hq ?_
                      intro W' hg
                      have HR2 := Lib.hid (show Below Wp.heap.size Wp W' ∧ (false = false → ¬ (true = true ∧ a.k % 3 = 1 ∧ a.s = v.s)) from ⟨hg, fun _ h' => hq h'.2.1⟩)
                      simp only [puts, List.foldl_cons, List.foldl_nil, Act.put, List.setIfInBounds_toArray, List.set_cons_succ, List.set_cons_zero]
                      clear hg hw9 la z0 z2 lwp zv hil hak hq
                      go_wp2_with fail
                      go_meet
                      exact ⟨false, rfl, Lib.hid ⟨HR2.out.1, fun _ => HR2.out.2 trivial⟩⟩
                  · have hd' : dn = false := by simpa using hd
                    subst hd'
                    refine rises_c0 bb o L c i wb wo pw k4 j 0 0 0 false _ Wp _ rfl rfl rfl rfl rfl rfl ?_
                    intro W' hg
                    have HR2 := Lib.hid (show Below Wp.heap.size Wp W' ∧ (false = false → ¬ (false = true ∧ a.k % 3 = 1 ∧ a.s = v.s)) from ⟨hg, fun _ h' => by cases h'.1⟩)
                    simp only [puts, List.foldl_cons, List.foldl_nil, Act.put, List.setIfInBounds_toArray, List.set_cons_succ, List.set_cons_zero]
                    clear hg hw9 la z0 z2 lwp zv hil hak hd
                    go_wp2_with fail
                    go_meet
                    exact ⟨false, rfl, Lib.hid ⟨HR2.out.1, fun _ => HR2.out.2 trivial⟩⟩
                case rest =>
                  obtain ⟨d2, rfl, HC⟩ := hcut
                  have hbz : Below wr.heap.size wr wc := HP0.out.trans (Below.mono HC.out.1 HP0.out.size)
                  have HZ9 := Lib.hid (HJ.out.trans (Below.mono hbz HJ.out.size))
                  have lwz : wb < wc.heap.size := Nat.lt_of_lt_of_le HW.out.1 hbz.size
                  have zv : wc.cell? ⟨wb, wo + j * 4, none⟩ = some (.int .u64 (v.s : Int)) := (hbz.cell (p := ⟨wb, _, none⟩) HW.out.1).trans HW.out.2.1
                  have hB : ∀ w', Grew wc w' → Calls Tryz.prog 26 #[.pointer (some ⟨B, 0, none⟩)] w' fun e W' => e = .returned (.int .u64 (s'.base : Int)) ∧ Grew w' W' := fun w' hg => (T9.out.grew (HZ9.out.trans (Below.mono hg HZ9.out.size))).base
                  go_upto_region 25 with (fail)
                  rcases HVQ.out with ⟨hle, rfl⟩ | ⟨hgt, rfl, v', hv', e1, e2, e3, hx⟩
                  · refine rises_w0 B wb wo pw k4 j s'.base pv 0 0 v none none false d2 _ wc _ rfl rfl rfl rfl rfl rfl rfl HLJ.out lwz zv hB hle ?_
                    intro W' hg
                    have HJ' := Lib.hid (show Below W9.heap.size W9 W' from HZ9.out.trans (Below.mono hg HZ9.out.size))
                    simp only [puts, List.foldl_cons, List.foldl_nil, Act.put, List.setIfInBounds_toArray, List.set_cons_succ, List.set_cons_zero]
                    clear hg hbz lwz zv hB hle
                    go_wp2
                    exact ⟨⟨j + 1, by have := HLJ.out; omega, rfl, HJ'⟩, by have := HLJ.out; simp only [intOf]; omega⟩
                  · cases d2 with
                    | true =>
                      refine rises_w1 B wb wo pw k4 j s'.base pv 0 0 v none none false false _ wc _ rfl rfl rfl rfl rfl rfl rfl HLJ.out lwz zv hB hgt ?_
                      intro W' hg
                      have HJ' := Lib.hid (show Below W9.heap.size W9 W' from HZ9.out.trans (Below.mono hg HZ9.out.size))
                      simp only [puts, List.foldl_cons, List.foldl_nil, Act.put, List.setIfInBounds_toArray, List.set_cons_succ, List.set_cons_zero]
                      clear hg hbz lwz zv hB hgt hv' e1 e2 e3 hx
                      go_wp2
                      exact ⟨⟨j + 1, by have := HLJ.out; omega, rfl, HJ'⟩, by have := HLJ.out; simp only [intOf]; omega⟩
                    | false =>
                      obtain ⟨v2, hv2, hsame⟩ := RV.out hgt
                      have hvv : v' = v := (Option.some.inj (hv'.symm.trans hv2)).trans (hsame (HC.out.2 rfl))
                      subst hvv
                      subst e1 e2 e3
                      have kpz := (HC.out.1.block pv (Array.getElem?_eq_some_iff.1 HKP.out).1).trans HKP.out
                      refine rises_w2 B wb wo pw k4 j s'.base pv e0 f v' X Y false false _ wc _ rfl rfl rfl rfl rfl rfl rfl HLJ.out lwz zv hB hgt (Array.getElem?_eq_some_iff.1 kpz).1 ((blk_cell kpz 1).trans rfl) ((blk_cell kpz 2).trans rfl) ((blk_cell kpz 3).trans rfl) (hx.below' (HBP.out.trans (Below.mono HC.out.1 HBP.out.size))) ((hbz.cell (p := ⟨wb, _, none⟩) HW.out.1).trans HW.out.2.2.1) ((hbz.cell (p := ⟨wb, _, none⟩) HW.out.1).trans HW.out.2.2.2.1) ((hbz.cell (p := ⟨wb, _, none⟩) HW.out.1).trans HW.out.2.2.2.2.1) (HW.out.2.2.2.2.2.below' hbz) ?_
                      intro W' hg
                      have HJ' := Lib.hid (show Below W9.heap.size W9 W' from HZ9.out.trans (Below.mono hg HZ9.out.size))
                      simp only [puts, List.foldl_cons, List.foldl_nil, Act.put, List.setIfInBounds_toArray, List.set_cons_succ, List.set_cons_zero]
                      clear hg hbz lwz zv hB hgt hv' hx hv2 hsame kpz
                      go_wp2
                      exact ⟨⟨j + 1, by have := HLJ.out; omega, rfl, HJ'⟩, by have := HLJ.out; simp only [intOf]; omega⟩
              · have hji : ¬ (j : Int) < pw := by omega
                have HE := Lib.hid (S9.out.grew HJ.out)
                have hib : (i : Int) ≤ 100 := by have := HN.out.2; omega
                clear HJ hlj hj
                go_wp2
                exact ⟨⟨i + 1, by have := HN.out.1; omega, rfl, Lib.hid ⟨_, _, HE.out⟩⟩, by have := HN.out.1; simp only [intOf]; omega⟩
    · obtain rfl : i = L := by omega
      have hii : ¬ (i : Int) < (i : Int) := by omega
      obtain ⟨d, s, hS⟩ := HI.out
      have HE := Lib.hid (HWK.out _ hS.live.below)
      clear hS HI hlt hi
      go_wp2_with fail
      refine HE.out.mono ?_
      rintro e W3 ⟨rfl, b3⟩
      have H3 := Lib.hid b3
      clear b3
      go_wp2
      go_ret
      exact ⟨rfl, H3.out⟩
end Go.Proofs.YtdiihaeelcbjbaaGreatDoor
