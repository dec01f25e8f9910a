/- StableKeeps: the walk. -/
import Derived.Test.YtdiihaeelcbjbaaGreatDoorMStV
namespace Go.Proofs.YtdiihaeelcbjbaaGreatDoor
open Go.RowKit

theorem Chain.push : ∀ {l : List UM} {s : SM} {u : UM}, Chain l s → u.ok → (l.foldl SM.upd s).may u = 0 → Chain (l ++ [u]) s
  | [], _, _, _, hu, hm => ⟨hu, hm, trivial⟩
  | _ :: _, _, _, h, hu, hm => ⟨h.1, h.2.1, Chain.push h.2.2 hu hm⟩
theorem KpI.push {P : DiskK} {K : StabK P} {w W3 W4 W' : World} {R B i sure : Nat} {us : List AcR} {v v' : Value} {a : AcM} {X : Option Addr} {xc : Nat} (hm : ((ums us).foldl SM.upd SM.new).may a.um = 0)
    (hl : LiveT K w R B (dW (ums us ++ [a.um]) (dW ((ums us).take sure) 0).A.length) (((ums us).foldl SM.upd SM.new).upd a.um) (fun k => v.ownBlock = some k) W3) (hc : Chain (ums us) SM.new) (he : ∀ e ∈ us, e.a.ok ∧ e.a.x.length ≤ 200 ∧ e.a.x.length ≤ e.c ∧ HasA w w.heap.size e.X e.a.x) (hlen : us.length ≤ i) (hs : sure ≤ us.length)
    (ha : a.ok) (hx : a.x.length ≤ 200) (hxc : a.x.length ≤ xc) (hX : HasA w w.heap.size X a.x) (b4 : Below W3.heap.size W3 W4) (hr : OwnAR w.heap.size W4 v us) (ho : OwnAR w.heap.size W' v' (us ++ [⟨a, X, xc⟩])) (hg : W4.grownBy W' v.ownBlock) (hn : ∀ k, v'.ownBlock = some k → v.ownBlock = some k ∨ W4.heap.size ≤ k) : KpI K w R B (i + 1) (us ++ [⟨a, X, xc⟩]) sure v' W' := by
  have hu : ums (us ++ [⟨a, X, xc⟩]) = ums us ++ [a.um] := by simp [ums]
  have h1 := (hl.grew b4).app hg (fun k hk => (hr.lt k hk).1) hn (fun k hk => (ho.lt k hk).2)
  refine ⟨?_, ho, ?_, ?_, by simp; omega, by simp; omega⟩
  · rw [hu, List.foldl_append, List.take_append_of_le_length (by simpa [ums] using hs)]
    exact h1
  · intro e he'
    rcases List.mem_append.1 he' with h | h
    · exact he e h
    · obtain rfl : e = ⟨a, X, xc⟩ := by simpa using h
      exact ⟨ha, hx, hxc, hX⟩
  · rw [hu]
    exact hc.push (AcM.um_ok ha (by omega)) hm
theorem Chain.at {l : List UM} {s : SM} (h : Chain l s) {j : Nat} (hj : j < l.length) : l.take (j + 1) = l.take j ++ [l[j]] ∧ ((l.take j).foldl SM.upd s).may l[j] = 0 ∧ l[j].ok := by
  have h1 := h.take (j + 1)
  have h2 : l.take (j + 1) = l.take j ++ [l[j]] := by simp
  rw [h2] at h1
  obtain ⟨_, h3⟩ := Chain.append.1 h1
  exact ⟨h2, h3.2.1, h3.1⟩
theorem ums_len (us : List AcR) : (ums us).length = us.length := by unfold ums; rw [List.length_map]
/-- The first updates done anew. -/
theorem replay {P : DiskK} {K : StabK P} {w V W : World} {R B j : Nat} {us : List AcR} {a : AcM} {X : Option Addr} {c : Nat} (hc : Chain (ums us) SM.new) (he : ∀ e ∈ us, e.a.ok ∧ e.a.x.length ≤ 200 ∧ e.a.x.length ≤ e.c ∧ HasA w w.heap.size e.X e.a.x) (hl : LiveT K V R B (dW ((ums us).take j) 0) (((ums us).take j).foldl SM.upd SM.new) (fun _ => False) W)
    (hT : Tab V) (hb : Below w.heap.size w W) (hj : j < us.length) (h40 : us.length ≤ 40) (ha : AcR.mk a X c = us[j]) : Calls Tryz.prog 20 #[.pointer (some ⟨B, 0, none⟩), a.val X c] W fun e W' => e = .returned (.bool true) ∧ LiveT K V R B (dW ((ums us).take (j + 1)) 0) (((ums us).take (j + 1)).foldl SM.upd SM.new) (fun _ => False) W' := by
  obtain ⟨e1, e2, e3, e4⟩ := he _ (ha ▸ List.getElem_mem hj)
  have hj' : j < (ums us).length := by rw [ums_len]; exact hj
  obtain ⟨t1, t2, t3⟩ := hc.at hj'
  have hu : (ums us)[j] = a.um := by
    have : (ums us)[j] = us[j].a.um := by simp [ums]
    rw [this, ← ha]
  rw [hu] at t1 t2
  have h1 := frms_len ((ums us).take j) 200 (fun u hu => hc.mem u (List.mem_of_mem_take hu)) (fun u hu => ums_x he u (List.mem_of_mem_take hu))
  have h2 : ((ums us).take j).length ≤ 40 := by rw [List.length_take]; omega
  have h3 : (200 + 70) * ((ums us).take j).length ≤ (200 + 70) * 40 := Nat.mul_le_mul_left _ h2
  have h4 := fold_len ((ums us).take j) SM.new
  have h5 : SM.new.vs.length = 0 := rfl
  refine (set_any hl hT e1 X c e3 (show a.x.length ≤ 1000 by have : (AcR.mk a X c).a.x.length ≤ 200 := e2; exact Nat.le_trans this (by decide)) (e4.below' hb) (by omega) (show (frms (((ums us).take j).map bytesUM)).length ≤ 10000000 by omega)).mono ?_
  rintro e W' ⟨h6, h7, _⟩
  rw [on_dW t2 (AcM.um_ok e1 (by have : (AcR.mk a X c).a.x.length ≤ 200 := e2; exact Nat.le_trans this (by decide)))] at h6 h7
  rw [t1, List.foldl_append]
  exact ⟨h6, h7⟩
/-- Two stores that are the same, behind j sets of both. -/
structure TwoI {P : DiskK} (K : StabK P) (w : World) (R1 B1 R2 B2 j : Nat) (d1 d2 : DS) (s : SM) (W : World) : Prop where
  two : TwoT K w R1 B1 R2 B2 d1 d2 s s W
  dead1 : d1.dead = false
  f1 : d1.f = none
  len1 : d1.A.length ≤ 10800 + 300 * j
  dead2 : d2.dead = false
  f2 : d2.f = none
  len2 : d2.A.length ≤ 10800 + 300 * j
  vs : s.vs.length ≤ 40 + j
section
variable {P : DiskK} {K : StabK P} {w W : World} {R1 B1 R2 B2 j : Nat} {d1 d2 : DS} {s : SM}
theorem TwoI.set1 (h : TwoI K w R1 B1 R2 B2 j d1 d2 s W) (hT : Tab w) (hj : j ≤ 40) {a : AcM} (ha : a.ok) (X : Option Addr) (c : Nat) (hc : a.x.length ≤ c) (hx : a.x.length ≤ 200) (hX : HasA w w.heap.size X a.x) :
    ∀ W', TwoT K w R1 B1 R2 B2 d1 d2 s s W' → Calls Tryz.prog 20 #[.pointer (some ⟨B1, 0, none⟩), a.val X c] W' fun e W'' => e = .returned (.bool (decide ((s.on d1 a.um).2 = 0))) ∧ TwoT K w R1 B1 R2 B2 (s.on d1 a.um).1.1 d2 (s.on d1 a.um).1.2 s W'' := by
  intro W' h'
  have h1 := h.len1
  have h2 := h.vs
  exact h'.set hT ha X c hc (by omega) (hX.below' h'.below) (by omega) (by omega)
theorem TwoI.set2 (h : TwoI K w R1 B1 R2 B2 j d1 d2 s W) (hT : Tab w) (hj : j ≤ 40) {a : AcM} (ha : a.ok) (X : Option Addr) (c : Nat) (hc : a.x.length ≤ c) (hx : a.x.length ≤ 200) (hX : HasA w w.heap.size X a.x) :
    ∀ W', TwoT K w R1 B1 R2 B2 (s.on d1 a.um).1.1 d2 (s.on d1 a.um).1.2 s W' → Calls Tryz.prog 20 #[.pointer (some ⟨B2, 0, none⟩), a.val X c] W' fun e W'' => e = .returned (.bool (decide ((s.on d1 a.um).2 = 0))) ∧ TwoT K w R1 B1 R2 B2 (s.on d1 a.um).1.1 (s.on d2 a.um).1.1 (s.on d1 a.um).1.2 (s.on d1 a.um).1.2 W'' := by
  intro W' h'
  have h1 := h.len2
  have h2 := h.vs
  obtain ⟨e1, e2⟩ := on_same (s := s) (AcM.um_ok ha (by omega)) h.dead1 h.f1 h.dead2 h.f2
  refine (h'.swap.set hT ha X c hc (by omega) (hX.below' h'.below) (by omega) (by omega)).mono ?_
  rintro e W'' ⟨he, ht⟩
  rw [← e2] at ht
  rw [← e1] at he
  exact ⟨he, ht.swap⟩
theorem TwoI.alike (h : TwoI K w R1 B1 R2 B2 j d1 d2 s W) (hj : j ≤ 40) (a : AcM) :
    ∀ W', TwoT K w R1 B1 R2 B2 (s.on d1 a.um).1.1 (s.on d2 a.um).1.1 (s.on d1 a.um).1.2 (s.on d1 a.um).1.2 W' → Calls Tryz.prog 24 #[.pointer (some ⟨B1, 0, none⟩), .pointer (some ⟨B2, 0, none⟩)] W' fun e W'' => e = .returned (.bool true) ∧ TwoT K w R1 B1 R2 B2 (s.on d1 a.um).1.1 (s.on d2 a.um).1.1 (s.on d1 a.um).1.2 (s.on d1 a.um).1.2 W'' := by
  intro W' h'
  have h1 := on_len s d1 a.um
  have h2 := h.vs
  refine (alike_any K B1 B2 _ _ W' (h'.tell (by omega)) (h'.swap.tell (by omega))).mono ?_
  rintro e W'' ⟨b, he, hb, hw⟩
  obtain rfl : b = true := hb.2 rfl
  exact ⟨he, h'.grew hw⟩
theorem TwoI.next (h : TwoI K w R1 B1 R2 B2 j d1 d2 s W) {a : AcM} (ha : a.ok) (hx : a.x.length ≤ 200) {W' : World} (h2 : TwoT K w R1 B1 R2 B2 (s.on d1 a.um).1.1 (s.on d2 a.um).1.1 (s.on d1 a.um).1.2 (s.on d1 a.um).1.2 W') : TwoI K w R1 B1 R2 B2 (j + 1) (s.on d1 a.um).1.1 (s.on d2 a.um).1.1 (s.on d1 a.um).1.2 W' := by
  obtain ⟨p1, p2, p3, _⟩ := on_d (s := s) ha hx h.dead1 h.f1
  obtain ⟨r1, r2, r3, _⟩ := on_d (s := s) ha hx h.dead2 h.f2
  have h3 := on_len s d1 a.um
  have h4 := h.len1
  have h5 := h.len2
  have h6 := h.vs
  have g : 10800 + 300 * j + 300 ≤ 10800 + 300 * (j + 1) := by omega
  exact ⟨h2, p1, p2, Nat.le_trans p3 (Nat.le_trans (Nat.add_le_add_right h4 300) g), r1, r2, Nat.le_trans r3 (Nat.le_trans (Nat.add_le_add_right h5 300) g), Nat.le_trans h3 (Nat.add_le_add_right h6 1)⟩
end
set_option maxRecDepth 100000 in
set_option maxHeartbeats 8000000 in
theorem StableKeeps_any {P : DiskK} (K : StabK P) (A0 : Option Addr) (L0 c0 : Nat) (l : List AcM) (A1 : Option Addr) (L1 c1 : Nat) (more : List AcM) (k2 k3 : Nat) (w : World) (hT : Tab w) (hL0 : L0 = l.length) (hm0 : L0 ≤ 140737488351232) (hok0 : ∀ a ∈ l, a.ok) (hB0 : HasAcM w A0 l) (hL1 : L1 = more.length) (hm1 : L1 ≤ 140737488351232) (hok1 : ∀ a ∈ more, a.ok) (hB1 : HasAcM w A1 more) (hk2 : k2 < 256) (hk3 : k3 < 65536) :
    Calls Tryz.prog 4 #[.slice A0 L0 c0, .slice A1 L1 c1, .int .u8 (k2 : Int), .int .u16 (k3 : Int)] w fun e W' => e = .returned (.bool true) ∧ Below w.heap.size w W' := by
  have HT := Lib.hid hT
  have HL := Lib.hid (And.intro hL0 (And.intro hB0 hok0))
  have HE := Lib.hid (And.intro hL1 (And.intro hB1 hok1))
  have HK3 := Lib.hid hk3
  have HG := Lib.hid (great_any A0 L0 c0 l w hL0 hm0 hB0)
  have HG1 := Lib.hid (fun (W : World) (hb : Below w.heap.size w W) => great_any A1 L1 c1 more W hL1 hm1 (hB1.below hb))
  have HWK := Lib.hid (show ∀ W, Below w.heap.size w W → Calls Tryz.prog 8 #[] W fun e W' => e = .returned (.bool true) ∧ Below w.heap.size w W' from fun W hb => (wakes16_any K W (HT.out.grew hb)).mono fun e W' ⟨h1, h2⟩ => ⟨h1, hb.trans (Below.mono h2 hb.size)⟩)
  have HF := Lib.hid (show ∀ W, Below w.heap.size w W → Calls Tryz.prog 19 #[] W fun e W' => ∃ R B, e = .returned (.tuple #[.pointer (some ⟨R, 0, none⟩), .pointer (some ⟨B, 0, none⟩)]) ∧ LiveT K w R B (dW [] 0) SM.new (fun _ => False) W' from fun W hb => (fresh_any K W (HT.out.grew hb)).mono fun e W' ⟨R, B, h1, h2⟩ => ⟨R, B, h1, h2.rebase hb⟩)
  have hi0 : (L0 : Int) ≤ 140737488351232 := by omega
  have hi1 : (L1 : Int) ≤ 140737488351232 := by omega
  clear hT hL0 hm0 hok0 hB0 hL1 hm1 hok1 hB1 hk3
  go_enter Tryz.func4, Tryz.ntmps4
  by_cases h40 : (40 : Int) < L0
  · clear HG HG1 HF
    go_wp2_with fail
    refine (HWK.out _ (Below.refl _ _)).mono ?_
    rintro e W3 ⟨rfl, b3⟩
    have H3 := Lib.hid b3
    clear b3
    go_wp2
    go_ret
    exact ⟨rfl, H3.out⟩
  by_cases h41 : (40 : Int) < L1
  · clear HG HG1 HF
    go_wp2_with fail
    refine (HWK.out _ (Below.refl _ _)).mono ?_
    rintro e W3 ⟨rfl, b3⟩
    have H3 := Lib.hid b3
    clear b3
    go_wp2
    go_ret
    exact ⟨rfl, H3.out⟩
  go_wp2_with fail
  refine HG.out.mono ?_
  rintro e W0 ⟨rfl, b0⟩
  have H0 := Lib.hid b0
  clear b0 HG
  by_cases hg : greatM l = true
  · rw [hg]
    clear hg HG1 HF
    go_wp2_with fail
    refine (HWK.out _ H0.out).mono ?_
    rintro e W3 ⟨rfl, b3⟩
    have H3 := Lib.hid b3
    clear b3
    go_wp2
    go_ret
    exact ⟨rfl, H3.out⟩
  have hg' : greatM l = false := by simpa using hg
  have HS := Lib.hid (And.intro (show L0 ≤ 40 by omega) (And.intro (show L1 ≤ 40 by omega) (greatM_not hg').2))
  rw [hg']
  clear hg hg'
  go_wp2_with fail
  refine (HG1.out _ H0.out).mono ?_
  rintro e W0' ⟨rfl, b0⟩
  have H0' := Lib.hid (H0.out.trans (Below.mono b0 H0.out.size))
  clear b0 HG1 H0
  have H0 := H0'
  clear H0'
  by_cases hg : greatM more = true
  · rw [hg]
    clear hg HF
    go_wp2_with fail
    refine (HWK.out _ H0.out).mono ?_
    rintro e W3 ⟨rfl, b3⟩
    have H3 := Lib.hid b3
    clear b3
    go_wp2
    go_ret
    exact ⟨rfl, H3.out⟩
  have hg' : greatM more = false := by simpa using hg
  have HS1 := Lib.hid (greatM_not hg').2
  rw [hg']
  clear hg hg'
  go_wp2_with fail
  refine (HF.out _ H0.out).mono ?_
  rintro e W1 ⟨R, B, rfl, l1⟩
  have L1' := Lib.hid (KpI.new l1)
  clear l1 H0
  go_wp2
  go_loopw [11, 12, 13, 14] (fun v11 v12 v13 v14 wr => ∃ (i : Nat) (us : List AcR) (sure : Nat), i ≤ L0 ∧ v11 = .int .i64 (sure : Int) ∧ v12 = .int .i64 (us.length : Int) ∧ v14 = .int .i64 (i : Int) ∧ Hid (KpI K w R B i us sure v13 wr)) (fun _ _ _ v _ => L0 - (intOf v).toNat)
  case atStart => exact ⟨0, [], 0, Nat.zero_le _, rfl, rfl, rfl, L1'⟩
  case round =>
    obtain ⟨i, us, sure, hi, rfl, rfl, rfl, HI⟩ := hrel
    by_cases hlt : i < L0
    · have hii : (i : Int) < L0 := by omega
      have HN := Lib.hid (show i < L0 ∧ i ≤ 40 by have := HS.out.1; omega)
      go_upto_region 11 with (fail)
      go_cut [61] (fun v wx => wx = wr ∧ ∃ b : Bool, v = .bool b)
      case first =>
        go_wp2_with fail
        go_meet
        exact ⟨rfl, _, rfl⟩
      case rest =>
        obtain ⟨rfl, b, rfl⟩ := hcut
        go_upto_if 61 with (fail)
        go_cut [11] (fun v wx => ∃ sure : Nat, v = .int .i64 (sure : Int) ∧ Hid (KpI K w R B i us sure u13 wx))
        case first =>
          cases b with
          | true =>
            have HSY := Lib.hid HI.out.sync
            clear HI
            go_wp2_with fail
            refine HSY.out.mono ?_
            rintro e W2 ⟨rfl, h2⟩
            have H2 := Lib.hid h2
            clear h2 HSY
            go_wp2
            go_meet
            exact ⟨_, rfl, H2⟩
          | false =>
            go_wp2
            go_meet
            exact ⟨_, rfl, HI⟩
        case rest =>
          obtain ⟨sure', rfl, HC⟩ := hcut
          clear HI hi
          obtain ⟨A, ca, rfl⟩ := HC.out.row.form
          have hi1 : i < l.length := by have := HL.out.1; have := HN.out.1; omega
          obtain ⟨bb, o, e1, hbl, hac⟩ := HL.out.2.1 (by rintro rfl; simp at hi1)
          subst e1
          obtain ⟨a, ha⟩ : ∃ a, a = l[i] := ⟨_, rfl⟩
          have hac' := hac i hi1
          rw [← ha] at hac'
          obtain ⟨X, xc, a0, a1, a2, a3, a4, a5, hxc, hX⟩ := hac'
          have hao : a.ok := by rw [ha]; exact HL.out.2.2 _ (List.getElem_mem hi1)
          have hax : a.x.length ≤ 200 := by rw [ha]; exact HS.out.2.2 _ (List.getElem_mem hi1)
          have HAC := Lib.hid (And.intro hao (And.intro hax (And.intro hxc (And.intro hX (show bb < w.heap.size ∧ ActAt w bb (o + i * 6) a X xc from ⟨hbl, a0, a1, a2, a3, a4, a5⟩)))))
          have hset := Lib.hid (HC.out.set HN.out.2 HT.out hao X xc hxc hax hX)
          have hbc : ∀ j, wc.cell? ⟨bb, j, none⟩ = w.cell? ⟨bb, j, none⟩ := fun j => HC.out.live.below.cell (p := ⟨bb, j, none⟩) hbl
          have d0 := (hbc _).trans a0
          have d1 := (hbc _).trans a1
          have d2 := (hbc _).trans a2
          have d3 := (hbc _).trans a3
          have d4 := (hbc _).trans a4
          have d5 := (hbc _).trans a5
          clear hac ha hi1 a0 a1 a2 a3 a4 a5 hxc hX hao hax hbc
          go_wp2_with fail
          refine hset.out.mono ?_
          rintro e W3 ⟨is, rfl, r3, hno, hyes⟩
          have HR := Lib.hid (And.intro r3 (And.intro hno hyes))
          clear hset d0 d1 d2 d3 d4 d5 r3 hno hyes
          cases is with
          | false =>
            have HQ := Lib.hid (HR.out.2.1 rfl)
            go_wp2
            exact ⟨⟨i + 1, us, sure', by have := HN.out.1; omega, rfl, rfl, rfl, Lib.hid HQ.out.next⟩, by have := HN.out.1; simp only [intOf]; omega⟩
          | true =>
            have HQ := Lib.hid (HR.out.2.2 rfl)
            have ha3 := HAC.out.2.2.2.2.2
            have hb3 := HQ.out.2.below
            have l3 := HAC.out.2.2.2.2.1
            obtain ⟨a0, a1, a2, a3, a4, a5⟩ := ha3
            have up : ∀ (q : Nat) (v : Value), w.cell? ⟨bb, q, none⟩ = some v → W3.cell? ⟨bb, q, none⟩ = some v := fun q v hv => (hb3.cell (p := ⟨bb, q, none⟩) l3).trans hv
            have d0 := up _ _ a0
            have d1 := up _ _ a1
            have d2 := up _ _ a2
            have d3 := up _ _ a3
            have d4 := up _ _ a4
            have d5 := up _ _ a5
            clear up a0 a1 a2 a3 a4 a5 hb3 l3
            obtain ⟨W4, hW4⟩ : ∃ W, W = W3.alloc (.cells #[.int .u8 (a.k : Int), .int .i64 a.n, .int .u64 (a.s : Int), .int .u64 (a.b.n : Int), .int .i64 a.b.r, .slice X a.x.length xc] 41) := ⟨_, rfl⟩
            obtain ⟨p4, hp4⟩ : ∃ p, p = W3.heap.size := ⟨_, rfl⟩
            have b4 : Below W3.heap.size W3 W4 := by rw [hW4]; exact (Below.refl _ _).alloc (Nat.le_refl _) _
            have k4 : W4.heap[p4]? = some (.cells #[.int .u8 (a.k : Int), .int .i64 a.n, .int .u64 (a.s : Int), .int .u64 (a.b.n : Int), .int .i64 a.b.r, .slice X a.x.length xc] 41 (0, 0)) := by rw [hW4, hp4]; exact World.alloc_heap_new W3 _
            have H4 := Lib.hid (And.intro b4 (show ActAt W4 p4 0 a X xc from ⟨(blk_cell k4 0).trans rfl, (blk_cell k4 1).trans rfl, (blk_cell k4 2).trans rfl, (blk_cell k4 3).trans rfl, (blk_cell k4 4).trans rfl, (blk_cell k4 5).trans rfl⟩))
            have HO := Lib.hid (HR.out.1.below b4)
            have HW4 := Lib.hid hW4
            have HP4 := Lib.hid hp4
            have hln := Lib.hid (show us.length + 1 ≤ 1000000 by have := HC.out.len; have := HN.out.2; omega)
            clear b4 k4 hW4 hp4
            have hul : (us.length : Int) ≤ 40 := by have := HC.out.len; have := HN.out.2; omega
            go_wp2_with (at_builtin; go_loud (rw [← HW4.out, ← HP4.out]; refine wpList_append_AR rfl _ _ rfl w.heap.size (.slice A us.length ca) us rfl HO.out p4 1 ⟨a, X, xc⟩ rfl H4.out.2 hln.out (Nat.le_trans HQ.out.2.below.size H4.out.1.size) ?_; intro v5 W5 ho hg hn; have HP := Lib.hid (KpI.push (i := i) HQ.out.1 HQ.out.2 HC.out.chain HC.out.each HC.out.len HC.out.sure HAC.out.1 HAC.out.2.1 HAC.out.2.2.1 HAC.out.2.2.2.1 H4.out.1 HO.out ho hg hn); clear ho hg hn))
            exact ⟨⟨i + 1, us ++ [⟨a, X, xc⟩], sure', by have := HN.out.1; omega, rfl, by simp, rfl, HP⟩, by have := HN.out.1; simp only [intOf]; omega⟩
    · obtain rfl : i = L0 := by omega
      have hii : ¬ (i : Int) < (i : Int) := by omega
      have hull : us.length ≤ 40 := by have := HI.out.len; have := HS.out.1; omega
      have HU := Lib.hid (And.intro hull (And.intro (HI.out.alen HS.out.1) (HI.out.vlen HS.out.1)))
      have hfl := frms_take_le ((ums us).map bytesUM) sure
      rw [← List.map_take] at hfl
      obtain ⟨nb, hnb⟩ : ∃ nb, nb = (dW (ums us) (dW ((ums us).take sure) 0).A.length).A.length := ⟨_, rfl⟩
      obtain ⟨ny, hny⟩ : ∃ ny, ny = (dW ((ums us).take sure) 0).A.length := ⟨_, rfl⟩
      have hnb1 : (nb : Int) ≤ 10800 := by have := HU.out.2.1; rw [hnb]; exact_mod_cast this
      have hny1 : (ny : Int) ≤ nb := by rw [hnb, hny]; exact_mod_cast hfl
      have HB := Lib.hid (show Calls Tryz.prog 21 #[.pointer (some ⟨R, 0, none⟩)] wr fun e W' => ∃ A' c', e = .returned (.slice A' nb c') ∧ Below wr.heap.size wr W' from HI.out.live.bytes.mono (by
        rintro e W' ⟨v, L, rfl, ho, hb⟩
        have hlen : L = nb := by have h1 := ho.1; rw [List.length_map, ← hnb] at h1; omega
        rcases ho.2 with ⟨rfl, h0⟩ | ⟨g, cap, cur, rfl, _⟩
        · exact ⟨none, 0, by rw [← hlen, h0], hb⟩
        · exact ⟨_, _, by rw [← hlen], hb⟩))
      have HY := Lib.hid (show ∀ W', Below wr.heap.size wr W' → Calls Tryz.prog 22 #[.pointer (some ⟨R, 0, none⟩)] W' fun e W'' => e = .returned (.int .i64 (ny : Int)) ∧ Below W'.heap.size W' W'' from fun W' hb => by rw [hny]; exact (HI.out.live.grew hb).synced)
      obtain ⟨A, ca, rfl⟩ := HI.out.row.form
      clear hlt hi hull hnb hny hfl
      go_wp2_with fail
      refine HB.out.mono ?_
      rintro e W2 ⟨A2, c2, rfl, b2⟩
      have H2 := Lib.hid b2
      clear b2 HB
      go_wp2_with fail
      refine (HY.out _ H2.out).mono ?_
      rintro e W3 ⟨rfl, b3⟩
      have H3 := Lib.hid (HI.out.grew (H2.out.trans (Below.mono b3 H2.out.size)))
      clear b3 HY H2 HI
      have hk3 := HK3.out
      go_wp2_with fail
      have hn1 : InI5 ((k3 : Int) % ((nb : Int) - ny + 1)) := ⟨by have := Int.emod_nonneg (k3 : Int) (show ((nb : Int) - ny + 1) ≠ 0 by omega); omega, by have := Int.emod_lt_of_pos (k3 : Int) (show (0 : Int) < ((nb : Int) - ny + 1) by omega); omega⟩
      obtain ⟨kn, hkn⟩ : ∃ kn, kn = (k3 : Int) % ((nb : Int) - ny + 1) := ⟨_, rfl⟩
      rw [← hkn] at hn1
      have HKN := Lib.hid hkn
      obtain ⟨q, A', q1, q2, ec, eo, eop, el⟩ := keep_open H3.out.chain (show sure ≤ (ums us).length by have := H3.out.sure; simpa [ums] using this) kn
      have hcq := H3.out.chain.take q
      have HCR := Lib.hid (show Calls Tryz.prog 12 #[.pointer (some ⟨R, 0, none⟩), .int .i64 kn] W3 fun e W' => e = .returned (.int .i64 0) ∧ LiveT K w R B ⟨A', (dW ((ums us).take sure) 0).A.length, true, none⟩ ((ums us).foldl SM.upd SM.new) (fun k => (Value.slice A us.length ca).ownBlock = some k) W' ∧ OwnAR w.heap.size W' (.slice A us.length ca) us from (H3.out.live.crash kn hn1).mono (by
        rintro e W' ⟨he, hl, Z, o, hZ⟩
        rw [ec] at he hl
        exact ⟨he, hl, H3.out.row.only o fun k hk hz => (hZ k hz).2 hk⟩))
      have HQ := Lib.hid (And.intro q1 (And.intro q2 hcq))
      have HO1 := Lib.hid (show (opn A' (dW ((ums us).take sure) 0).A.length).2.2 = 0 ∧ ofS (opn A' (dW ((ums us).take sure) 0).A.length).1 SM.new = some (((ums us).take q).foldl SM.upd SM.new) ∧ A'.length ≤ 100000 ∧ (⟨A', (dW ((ums us).take sure) 0).A.length, false, none⟩ : DS).opened = dW ((ums us).take q) (dW ((ums us).take q) 0).A.length from ⟨by rw [eo], by rw [eo]; exact ofS_put _ _ hcq, by have := HU.out.2.1; omega, eop⟩)
      clear hk3 hn1 hkn q1 q2 hcq ec eo eop el
      rw [HKN.out] at HCR
      refine HCR.out.mono ?_
      rintro e W4 ⟨rfl, l4, r4⟩
      have H4 := Lib.hid (And.intro l4 r4)
      clear l4 r4 HCR HKN
      go_wp2_with fail
      refine H4.out.1.restart.mono ?_
      rintro e W5 ⟨he, l5, Z, o5, hZ⟩
      obtain rfl : e = .returned (.int .i64 0) := he
      have H5 := Lib.hid (And.intro (show LiveT K w R B ⟨A', (dW ((ums us).take sure) 0).A.length, false, none⟩ ((ums us).foldl SM.upd SM.new) (fun k => (Value.slice A us.length ca).ownBlock = some k) W5 from l5) (H4.out.2.only o5 fun k hk hz => (hZ k hz).2 hk))
      clear l5 o5 hZ H4
      have hsok := HQ.out.2.2.ok SM.ok_new
      have HSOK := Lib.hid hsok
      have HOP := Lib.hid (H5.out.1.reopen HT.out rfl HO1.out.1 HO1.out.2.1 hsok HO1.out.2.2.1)
      clear hsok
      go_wp2_with fail
      refine HOP.out.mono ?_
      rintro e W6 ⟨Ba, rfl, l6, Z, o6, hZ⟩
      rw [HO1.out.2.2.2] at l6
      have H6 := Lib.hid (And.intro l6 (H5.out.2.only o6 fun k hk hz => (hZ k hz).2 hk))
      clear l6 o6 hZ H5 HOP HO1
      have HOP := Lib.hid (H6.out.1.reopen2 HT.out (s2 := ((ums us).take q).foldl SM.upd SM.new) rfl (by rw [opn_dW HQ.out.2.2]) (by rw [opn_dW HQ.out.2.2]; exact ofS_put _ _ HQ.out.2.2) HSOK.out (by
        have h1 := frms_take_le ((ums us).map bytesUM) q
        rw [← List.map_take] at h1
        have h2 := HU.out.2.1
        show (frms (((ums us).take q).map bytesUM)).length ≤ 100000
        omega))
      go_wp2_with fail
      refine HOP.out.mono ?_
      rintro e W7 ⟨Bb, Ga, rfl, st7, l7, Z, o7, hZ⟩
      rw [opened_dW HQ.out.2.2] at l7
      have HVQ := Lib.hid (show (((ums us).take q).foldl SM.upd SM.new).vs.length ≤ 40 by
        have h1 := fold_len ((ums us).take q) SM.new
        have h2 : ((ums us).take q).length ≤ us.length := by rw [List.length_take]; simp [ums]; omega
        have h3 : SM.new.vs.length = 0 := rfl
        have := HU.out.1
        omega)
      have H7 := Lib.hid (And.intro l7 (H6.out.2.only o7 fun k hk hz => (hZ k hz).2 hk))
      have TA := Lib.hid (show TellS K Ba (((ums us).take q).foldl SM.upd SM.new) W7 from ⟨⟨Ga, R, st7⟩, HSOK.out, by have := HVQ.out; omega⟩)
      have TB := Lib.hid (H7.out.1.tell (by have := HVQ.out; omega))
      clear l7 st7 o7 hZ H6 HOP
      have HAL := Lib.hid (alike_any K Ba Bb _ _ W7 TA.out TB.out)
      go_wp2_with fail
      refine HAL.out.mono ?_
      rintro e W8 ⟨bal, rfl, hbal, b8⟩
      obtain rfl : bal = true := hbal.2 trivial
      have H8 := Lib.hid b8
      clear b8 hbal HAL
      go_wp2_with fail
      have hqu : q ≤ us.length := by have := HQ.out.2.1; rw [ums_len] at this; exact this
      have hqi : (q : Int) ≤ us.length := by exact_mod_cast hqu
      have hul : (us.length : Int) ≤ 40 := by exact_mod_cast HU.out.1
      go_loopw [20, 21, 22, 23, 24] (fun v20 v21 v22 v23 v24 wr => ∃ n : Nat, n ≤ q ∧ v20 = .int .i64 (n : Int) ∧ Hid (Below W8.heap.size W8 wr)) (fun v _ _ _ _ _ => us.length + 1 - (intOf v).toNat)
      case atStart => exact ⟨sure, HQ.out.1, rfl, Lib.hid (Below.refl _ _)⟩
      case round =>
        obtain ⟨n, hn, rfl, HX⟩ := hrel
        have hni : (n : Int) ≤ us.length := by omega
        obtain ⟨wV, hV⟩ : ∃ V, V = wr := ⟨_, rfl⟩
        subst hV
        have H78 := Lib.hid (H8.out.trans (Below.mono HX.out H8.out.size))
        have HLB := Lib.hid (H7.out.1.grew H78.out)
        have HRW := Lib.hid (H7.out.2.below H78.out)
        have HTW := Lib.hid (HT.out.grew HLB.out.below)
        have HFR := Lib.hid (fresh_any K wV HTW.out)
        have HNQ := Lib.hid hn
        clear hn
        go_wp2_with fail
        refine HFR.out.mono ?_
        rintro e W9 ⟨Rw, Bw, rfl, l9⟩
        have H9 := Lib.hid l9
        clear l9 HFR
        go_wp2
        go_loopw [23] (fun v23 wy => ∃ j : Nat, j ≤ n ∧ v23 = .int .i64 (j : Int) ∧ Hid (LiveT K wV Rw Bw (dW ((ums us).take j) 0) (((ums us).take j).foldl SM.upd SM.new) (fun _ => False) wy)) (fun v _ => n - (intOf v).toNat)
        case atStart => exact ⟨0, Nat.zero_le _, rfl, H9⟩
        case round =>
          obtain ⟨j, hj, rfl, HJ⟩ := hrel
          by_cases hlj : j < n
          · have hji : (j : Int) < n := by omega
            have hj1 : j < us.length := by omega
            have hjl : (j : Int) < us.length := by omega
            obtain ⟨g, rfl⟩ := HRW.out.head (by rintro rfl; cases hj1)
            obtain ⟨hg, hat⟩ := HRW.out.at hj1
            obtain ⟨e0, he0⟩ : ∃ e0, e0 = us[j] := ⟨_, rfl⟩
            rw [← he0] at hat
            obtain ⟨a, X, xc⟩ := e0
            obtain ⟨a0, a1, a2, a3, a4, a5⟩ := hat
            have hby := HJ.out.below
            have up : ∀ (q : Nat) (v : Value), wV.cell? ⟨g, q, none⟩ = some v → wr.cell? ⟨g, q, none⟩ = some v := fun q v hv => (hby.cell (p := ⟨g, q, none⟩) hg).trans hv
            have d0 := up _ _ a0
            have d1 := up _ _ a1
            have d2 := up _ _ a2
            have d3 := up _ _ a3
            have d4 := up _ _ a4
            have d5 := up _ _ a5
            simp only [Nat.zero_add] at d0 d1 d2 d3 d4 d5
            have HSE := Lib.hid (replay H3.out.chain H3.out.each HJ.out HTW.out (HLB.out.below.trans (Below.mono hby HLB.out.below.size)) hj1 HU.out.1 he0)
            have HJ2 := Lib.hid (show j < n from hlj)
            clear a0 a1 a2 a3 a4 a5 up hby he0 hg hj hlj
            go_wp2_with fail
            refine HSE.out.mono ?_
            rintro e W10 ⟨rfl, l10⟩
            have H10 := Lib.hid l10
            clear l10 HSE d0 d1 d2 d3 d4 d5
            go_wp2
            exact ⟨⟨j + 1, HJ2.out, rfl, H10⟩, by have := HJ2.out; simp only [intOf]; omega⟩
          · obtain rfl : j = n := by omega
            have hji : ¬ (j : Int) < (j : Int) := by omega
            clear hlj hj
            have hvj : (((ums us).take j).foldl SM.upd SM.new).vs.length ≤ 1000 := by
              have h1 := fold_len ((ums us).take j) SM.new
              have h2 : ((ums us).take j).length ≤ us.length := by rw [List.length_take, ums_len]; omega
              have h3 : SM.new.vs.length = 0 := rfl
              have := HU.out.1
              omega
            have HAL2 := Lib.hid (alike_any K Ba Bw _ _ wr (TA.out.grew (H78.out.trans (Below.mono HJ.out.below H78.out.size))) (HJ.out.tell hvj))
            clear hvj
            go_wp2_with fail
            refine HAL2.out.mono ?_
            rintro e W10 ⟨bal, rfl, hbal, b10⟩
            have H10 := Lib.hid b10
            clear b10 HAL2
            cases bal with
            | false =>
              have hlt : j < q := by
                rcases Nat.lt_or_ge j q with h | h
                · exact h
                · have e : j = q := Nat.le_antisymm HNQ.out h
                  subst e
                  exact absurd (hbal.2 rfl) (by decide)
              have HLT := Lib.hid hlt
              have HJ3 := Lib.hid (show Below W8.heap.size W8 W10 from HX.out.trans (Below.mono (HJ.out.below.trans (Below.mono H10.out HJ.out.below.size)) HX.out.size))
              clear hbal hlt
              go_wp2
              exact ⟨⟨j + 1, HLT.out, rfl, HJ3⟩, by have := HLT.out; simp only [intOf]; omega⟩
            | true =>
              have hsame : ((ums us).take q).foldl SM.upd SM.new = ((ums us).take j).foldl SM.upd SM.new := hbal.1 rfl
              have htw := TwoT.mk' HLB.out (HJ.out.grew H10.out)
              rw [← hsame] at htw
              obtain ⟨dq, hdq⟩ : ∃ d, d = dW ((ums us).take q) (dW ((ums us).take q) 0).A.length := ⟨_, rfl⟩
              obtain ⟨dj, hdj⟩ : ∃ d, d = dW ((ums us).take j) 0 := ⟨_, rfl⟩
              have hlq : ∀ m, (frms (((ums us).take m).map bytesUM)).length ≤ 10800 := fun m => by
                have h1 := frms_take_le ((ums us).map bytesUM) m
                rw [← List.map_take] at h1
                exact Nat.le_trans h1 HU.out.2.1
              have HTI := Lib.hid (show TwoI K w R Bb Rw Bw 0 dq dj (((ums us).take q).foldl SM.upd SM.new) W10 by
                rw [hdq, hdj]
                exact ⟨htw, rfl, rfl, hlq q, rfl, rfl, hlq j, HVQ.out⟩)
              clear hbal hsame htw hdq hdj hlq HJ HX HLB HRW HTW H9 HQ H7 H3 TA TB
              have hl1i := HS.out.2.1
              go_wp2
              go_loopw [24] (fun v24 wy => ∃ m : Nat, m ≤ L1 ∧ v24 = .int .i64 (m : Int) ∧ Hid (∃ d1 d2 s, TwoI K w R Bb Rw Bw m d1 d2 s wy)) (fun v _ => L1 - (intOf v).toNat)
              case atStart => exact ⟨0, Nat.zero_le _, rfl, Lib.hid ⟨_, _, _, HTI.out⟩⟩
              case round =>
                obtain ⟨m, hm, rfl, HM⟩ := hrel
                by_cases hlm : m < L1
                · have hmi : (m : Int) < L1 := by omega
                  have hm1 : m < more.length := by have := HE.out.1; omega
                  obtain ⟨mb, mo, e1, hbl, hac⟩ := HE.out.2.1 (by rintro rfl; cases hm1)
                  subst e1
                  obtain ⟨a, ha⟩ : ∃ a, a = more[m] := ⟨_, rfl⟩
                  have hac' := hac m hm1
                  rw [← ha] at hac'
                  obtain ⟨X, xc, a0, a1, a2, a3, a4, a5, hxc, hX⟩ := hac'
                  have hao : a.ok := by rw [ha]; exact HE.out.2.2 _ (List.getElem_mem hm1)
                  have hax : a.x.length ≤ 200 := by rw [ha]; exact HS1.out _ (List.getElem_mem hm1)
                  obtain ⟨d1, d2, s, hti⟩ := HM.out
                  have hm40 : m ≤ 40 := by have := HS.out.2.1; omega
                  have HN2 := Lib.hid (fun (W' : World) (h' : TwoT K w R Bb Rw Bw (s.on d1 a.um).1.1 (s.on d2 a.um).1.1 (s.on d1 a.um).1.2 (s.on d1 a.um).1.2 W') => hti.next hao hax h')
                  have HLM := Lib.hid hlm
                  have hrow : ∀ w', (TwoT K w R Bb Rw Bw d1 d2 s s w' ∨ TwoT K w R Bb Rw Bw (s.on d1 a.um).1.1 d2 (s.on d1 a.um).1.2 s w' ∨ TwoT K w R Bb Rw Bw (s.on d1 a.um).1.1 (s.on d2 a.um).1.1 (s.on d1 a.um).1.2 (s.on d1 a.um).1.2 w') → ActAt w' mb (mo + m * 6) a X xc := fun w' h => by
                    have hb : Below w.heap.size w w' := by
                      rcases h with h | h | h
                      · exact h.below
                      · exact h.below
                      · exact h.below
                    have up : ∀ (q : Nat) (v : Value), w.cell? ⟨mb, q, none⟩ = some v → w'.cell? ⟨mb, q, none⟩ = some v := fun q v hv => (hb.cell (p := ⟨mb, q, none⟩) hbl).trans hv
                    exact ⟨up _ _ a0, up _ _ a1, up _ _ a2, up _ _ a3, up _ _ a4, up _ _ a5⟩
                  have HRW := Lib.hid hrow
                  have HS1' := Lib.hid (hti.set1 HT.out hm40 hao X xc hxc hax hX)
                  have HS2' := Lib.hid (hti.set2 HT.out hm40 hao X xc hxc hax hX)
                  have HAK := Lib.hid (hti.alike hm40 a)
                  have HT0 := Lib.hid hti.two
                  clear hac a0 a1 a2 a3 a4 a5 hxc hX hao hax hti hm40 hrow ha hm1 hm hbl hlm
                  go_upto_region 40 with (fail)
                  refine keeps_r Bb Bw mb mo L1 c1 m xc a X (decide ((s.on d1 a.um).2 = 0)) (fun W' => TwoT K w R Bb Rw Bw d1 d2 s s W') (fun W' => TwoT K w R Bb Rw Bw (s.on d1 a.um).1.1 d2 (s.on d1 a.um).1.2 s W') (fun W' => TwoT K w R Bb Rw Bw (s.on d1 a.um).1.1 (s.on d2 a.um).1.1 (s.on d1 a.um).1.2 (s.on d1 a.um).1.2 W') _ _ _ rfl rfl rfl rfl rfl HLM.out HRW.out HS1'.out HS2'.out HAK.out ⟨fun _ => HT0.out.grew (Below.refl _ _).drew, (fun h => by cases h), (fun h => by cases h)⟩ ?_
                  intro u W' hW
                  have HP := Lib.hid (HN2.out W' (hW.2.2 rfl))
                  simp only [puts, List.foldl_cons, List.foldl_nil, Act.put, List.setIfInBounds_toArray, List.set_cons_succ, List.set_cons_zero]
                  clear hW
                  go_wp2
                  exact ⟨⟨m + 1, HLM.out, rfl, Lib.hid ⟨_, _, _, HP.out⟩⟩, by have := HLM.out; simp only [intOf]; omega⟩
                · obtain rfl : m = L1 := by omega
                  have hmi : ¬ (m : Int) < (m : Int) := by omega
                  obtain ⟨d1, d2, s, hti⟩ := HM.out
                  have HEND := Lib.hid (HWK.out _ hti.two.below)
                  clear hlm hm hti HM
                  go_wp2_with fail
                  refine HEND.out.mono ?_
                  rintro e W11 ⟨rfl, b11⟩
                  have H11 := Lib.hid b11
                  clear b11
                  go_wp2
                  go_ret
                  exact ⟨rfl, H11.out⟩
end Go.Proofs.YtdiihaeelcbjbaaGreatDoor
