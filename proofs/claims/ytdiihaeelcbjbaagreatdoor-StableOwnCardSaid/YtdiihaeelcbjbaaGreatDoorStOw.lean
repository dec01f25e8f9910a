/- StableOwn: the walk. -/
import Derived.Test.YtdiihaeelcbjbaaGreatDoorStOwR
import Derived.Lib.AtoiErrMem
namespace Go.Proofs.YtdiihaeelcbjbaaGreatDoor
open Go.RowKit

theorem bytesW (W : World) (x : List UInt8) : Below W.heap.size W (Lib.bytesWorld W 5 (str x)) ∧ HasA (Lib.bytesWorld W 5 (str x)) (Lib.bytesWorld W 5 (str x)).heap.size (some ⟨W.heap.size, 0, none⟩) x ∧ RowV (Lib.bytesWorld W 5 (str x)) W.heap.size (some ⟨W.heap.size, 0, none⟩, x.length) := by
  have hb := Lib.bytesWorld_below W 5 (str x)
  have hc : ∀ j (hj : j < x.length), (Lib.bytesWorld W 5 (str x)).cell? ⟨W.heap.size, j, none⟩ = some (enc x[j]) := fun j hj => by
    rw [Lib.bytesWorld_cell W _ (str x) j (by rw [str_size]; exact hj)]
    simp [str, enc, hj]
  have hn := Lib.bytesWorld_at_new W 5 (str x)
  have hs := Lib.bytesWorld_size W 5 (str x)
  refine ⟨hb, fun _ => ⟨_, 0, rfl, by omega, fun j hj => by rw [Nat.zero_add]; exact hc j hj⟩, fun _ => ⟨_, rfl, Nat.le_refl _, _, _, hn, fun i hi => ?_, fun i hi => ⟨x[i], ?_⟩⟩⟩
  · have h1 := hc i hi
    have h2 := (cellU hn i).symm.trans h1
    have h3 := (Array.getElem?_eq_some_iff.1 h2).1
    have h4 : ¬ (Lib.bytesCells W 5 (str x)).size ≤ i := by omega
    simp [World.frozen?, hn, h4]
  · exact (cellU hn i).symm.trans (hc i hi)
/-- The blocks of rows. -/
def RQ (rows : List (Option Addr × Nat)) (k : Nat) : Prop := ∃ r ∈ rows, 0 < r.2 ∧ r.1 = some ⟨k, 0, none⟩
structure ByW {P : DiskK} (K : StabK P) (w : World) (R B : Nat) (d : DS) (s : SM) (rows : List (Option Addr × Nat)) (cs : List (Addr × Value)) (W : World) : Prop where
  live : LiveT K w R B d s (RQ rows) W
  rows : ∀ r ∈ rows, RowV W w.heap.size r
  cells : ∀ p ∈ cs, p.1.block < W.heap.size ∧ W.cell? p.1 = some p.2 ∧ ∃ A n c, p.2 = .slice A n c
section
variable {P : DiskK} {K : StabK P} {w W W' : World} {R B B' : Nat} {d d' : DS} {s s' : SM} {rows : List (Option Addr × Nat)} {cs : List (Addr × Value)} {r : Option Addr × Nat}
theorem RowV.at {base : Nat} (h : RowV W base r) {i : Nat} (hi : i < r.2) : ∃ g, r.1 = some ⟨g, 0, none⟩ ∧ base ≤ g ∧ ∃ b : UInt8, W.cell? ⟨g, i, none⟩ = some (.int .u8 (b.toNat : Int)) ∧ W.frozen? ⟨g, i, none⟩ = false := by
  obtain ⟨g, e, h1, h2⟩ := h (by omega)
  exact ⟨g, e, h1, h2.cell hi⟩
theorem ByW.set (h : ByW K w R B d s rows cs W) (hr : r ∈ rows) {g i : Nat} (e : r.1 = some ⟨g, 0, none⟩) (hi : i < r.2) (b : UInt8) : ByW K w R B d s rows cs (W.setCell ⟨g, i, none⟩ (.int .u8 (b.toNat : Int))) := by
  obtain ⟨g', e', h1, b', h2, _⟩ := (h.rows r hr).at hi
  rw [e] at e'
  cases e'
  refine ⟨h.live.turn (Z := fun k => k = g) ((Only.refl (fun k => k = g) W).setCell (p := ⟨g, i, none⟩) (.inl rfl) _) (fun k hk => ?_) (fun k hk => ?_), fun q hq => (h.rows q hq).set b, fun p hp => ?_⟩
  · subst hk
    exact ⟨r, hr, by omega, e⟩
  · subst hk
    exact h1
  · obtain ⟨c1, c2, A, n, c, c3⟩ := h.cells p hp
    refine ⟨by simpa using c1, ?_, A, n, c, c3⟩
    rw [World.cell?_setCell_other (h := fun e => ?_), c2]
    rw [← e, h2, c3] at c2
    cases c2
theorem ByW.grew (h : ByW K w R B d s rows cs W) (hb : Below W.heap.size W W') : ByW K w R B d s rows cs W' :=
  ⟨h.live.grew hb, fun q hq => (h.rows q hq).grew hb, fun p hp => by
    obtain ⟨c1, c2, c3⟩ := h.cells p hp
    exact ⟨Nat.lt_of_lt_of_le c1 hb.size, (hb.cell c1).trans c2, c3⟩⟩
theorem ByW.addR (h : ByW K w R B d s rows cs W) (hb : Below W.heap.size W W') (hr : RowV W' W.heap.size r) : ByW K w R B d s (r :: rows) cs W' := by
  have h1 := h.grew hb
  refine ⟨(h.live.more hb (Z := RQ [r]) (fun k ⟨q, hq, q1, q2⟩ => ?_) (fun k ⟨q, hq, q1, q2⟩ => ?_)).less fun k ⟨q, hq, q1, q2⟩ => ?_, fun q hq => ?_, h1.cells⟩
  · rw [List.mem_singleton.1 hq] at q1 q2
    obtain ⟨g, e, h2, h3⟩ := hr q1
    rw [q2] at e
    cases e
    exact h2
  · rw [List.mem_singleton.1 hq] at q1 q2
    obtain ⟨g, e, h2, h3⟩ := hr q1
    rw [q2] at e
    cases e
    exact h3.lt
  · rcases List.mem_cons.1 hq with rfl | hq
    · exact .inl ⟨_, List.mem_singleton.2 rfl, q1, q2⟩
    · exact .inr ⟨q, hq, q1, q2⟩
  · rcases List.mem_cons.1 hq with rfl | hq
    · exact fun h0 => by
        obtain ⟨g, e, h2, h3⟩ := hr h0
        exact ⟨g, e, Nat.le_trans h.live.below.size h2, h3⟩
    · exact h1.rows q hq
theorem ByW.addC (h : ByW K w R B d s rows cs W) {p : Addr} {A : Option Addr} {n c : Nat} (hl : p.block < W.heap.size) (hc : W.cell? p = some (.slice A n c)) : ByW K w R B d s rows ((p, .slice A n c) :: cs) W :=
  ⟨h.live, h.rows, fun q hq => by
    rcases List.mem_cons.1 hq with rfl | hq
    · exact ⟨hl, hc, A, n, c, rfl⟩
    · exact h.cells q hq⟩
theorem ByW.next (h : ByW K w R B d s rows [] W) (h2 : LiveT K w R B' d' s' (RQ rows) W') (hz : ∃ Z, Only Z W W' ∧ ∀ k, Z k → w.heap.size ≤ k ∧ ¬ RQ rows k) : ByW K w R B' d' s' rows [] W' := by
  obtain ⟨Z, o, hZ⟩ := hz
  refine ⟨h2, fun r hr h0 => (h.rows r hr).only o (fun g e hk => (hZ g hk).2 ⟨r, hr, h0, e⟩) h0, fun p hp => by cases hp⟩
end
theorem hasOnly {w W W' : World} {rows : List (Option Addr × Nat)} {q : Nat} {y : List UInt8} {Z : Nat → Prop} (hA : HasA W W.heap.size (some ⟨q, 0, none⟩) y) (hr : (some ⟨q, 0, none⟩, y.length) ∈ rows) (o : Only Z W W') (hZ : ∀ k, Z k → w.heap.size ≤ k ∧ ¬ RQ rows k) : HasA W' W'.heap.size (some ⟨q, 0, none⟩) y := fun hn => by
  obtain ⟨b, o', e, hl, hc⟩ := hA hn
  cases e
  have hk := o.block q hl (fun hz => (hZ q hz).2 ⟨_, hr, List.length_pos_iff.2 hn, rfl⟩)
  exact ⟨q, 0, rfl, Nat.lt_of_lt_of_le hl o.size, fun i hi => (World.cell?_of_block hk).trans (hc i hi)⟩
theorem addU8 (w : World) (b : UInt8) : (binOp .add 5 (.int .u8 (b.toNat : Int)) (.int .u8 1)).run Tryz.prog w = .ok (.int .u8 (((b + 1).toNat : Nat) : Int)) w := by
  have h : b.toNat < 256 := b.toNat_lt
  have e : (b + 1).toNat = (b.toNat + 1) % 256 := UInt8.toNat_add b 1
  rw [e]
  simp [go_sem, IntKind.wrap, IntKind.bits, IntKind.signed]
theorem own_up (n : Nat) (x y : List UInt8) (hn : 2 ≤ n) : (SM.new.upd ⟨2, n, B0, x⟩).upd ⟨3, 1, B0, y⟩ = ⟨B0, 1, y, [⟨n, B0, x⟩]⟩ := by
  have h : 1 < n := by omega
  simp [SM.upd, SM.new, putV, h]
theorem own_may1 (n : Nat) (x : List UInt8) (hn : 2 ≤ n) : SM.new.may ⟨2, n, B0, x⟩ = 0 := by
  have h1 : B0.fit := by decide
  have h2 : ¬ ltB B0 B0 := by decide
  have h3 : ¬ n ≤ 0 := by omega
  unfold SM.may
  simp only [SM.new, h1, h2, h3, not_true_eq_false, or_false, and_false, if_false]
theorem own_may2 (n : Nat) (x y : List UInt8) : (SM.new.upd ⟨2, n, B0, x⟩).may ⟨3, 1, B0, y⟩ = 0 := by
  have h : (SM.new.upd ⟨2, n, B0, x⟩).base = 0 := rfl
  unfold SM.may
  rw [h]
  simp
theorem convU (W : World) (x : List UInt8) : (convert 9 39 (.string (str x))).run Tryz.prog W = .ok (.slice (some ⟨W.heap.size, 0, none⟩) x.length (grownCap W x.length 0 5)) (Lib.bytesWorld W 5 (str x)) := by
  rw [Lib.run_convert_string_bytes W _ _ _ (str x) Tryz.underlying9 Tryz.underlying39 Tryz.underlying5, str_size]
set_option maxRecDepth 100000 in
set_option maxHeartbeats 8000000 in
theorem StableOwn_any {P : DiskK} (K : StabK P) (A0 : Option Addr) (L0 c0 : Nat) (A1 : Option Addr) (L1 c1 : Nat) (n : Nat) (x y : List UInt8) (w : World) (hT : Tab w) (e0 : L0 = x.length) (e1 : L1 = y.length) (hx : HasA w w.heap.size A0 x) (hy : HasA w w.heap.size A1 y) (hn : n < 18446744073709551616) :
    Calls Tryz.prog 6 #[.slice A0 L0 c0, .slice A1 L1 c1, .int .u64 (n : Int)] w fun e W' => e = .returned (.bool true) ∧ Below w.heap.size w W' := by
  have HT := Lib.hid hT
  have HX := Lib.hid (And.intro hx (And.intro hy (And.intro e0 e1)))
  have HN := Lib.hid hn
  have HWK := Lib.hid (show ∀ W, Below w.heap.size w W → Calls Tryz.prog 8 #[] W fun e W' => e = .returned (.bool true) ∧ Below w.heap.size w W' from fun W hb => (wakes16_any K W (HT.out.grew hb)).mono fun e W' ⟨h1, h2⟩ => ⟨h1, hb.trans (Below.mono h2 hb.size)⟩)
  have HF := Lib.hid (fresh_any K w hT)
  clear hT hx hy e0 e1 hn
  go_enter Tryz.func6, Tryz.ntmps6
  by_cases h0 : 200 < L0
  · have h0i : (200 : Int) < L0 := by omega
    clear h0
    go_wp2_with fail
    refine (HWK.out _ (Below.refl _ _)).mono ?_
    rintro e W3 ⟨rfl, b3⟩
    have H3 := Lib.hid b3
    clear b3
    go_wp2
    go_ret
    exact ⟨rfl, H3.out⟩
  by_cases h1 : 200 < L1
  · have h0i : ¬ (200 : Int) < L0 := by omega
    have h1i : (200 : Int) < L1 := by omega
    clear h0 h1
    go_wp2_with fail
    refine (HWK.out _ (Below.refl _ _)).mono ?_
    rintro e W3 ⟨rfl, b3⟩
    have H3 := Lib.hid b3
    clear b3
    go_wp2
    go_ret
    exact ⟨rfl, H3.out⟩
  by_cases h2 : n < 2
  · have h0i : ¬ (200 : Int) < L0 := by omega
    have h1i : ¬ (200 : Int) < L1 := by omega
    have h2i : (n : Int) < 2 := by omega
    clear h0 h1 h2
    go_wp2_with fail
    refine (HWK.out _ (Below.refl _ _)).mono ?_
    rintro e W3 ⟨rfl, b3⟩
    have H3 := Lib.hid b3
    clear b3
    go_wp2
    go_ret
    exact ⟨rfl, H3.out⟩
  have h0i : ¬ (200 : Int) < L0 := by omega
  have h1i : ¬ (200 : Int) < L1 := by omega
  have h2i : ¬ (n : Int) < 2 := by omega
  have HS := Lib.hid (And.intro (show L0 ≤ 200 by omega) (And.intro (show L1 ≤ 200 by omega) (show 2 ≤ n by omega)))
  clear h0 h1 h2
  go_wp2_with fail
  refine HF.out.mono ?_
  rintro e W1 ⟨R, B, rfl, l1⟩
  have L1' := Lib.hid l1
  have H1 := Lib.hid l1.below
  clear l1 HF
  go_upto_region 6 with (fail)
  refine own16_r A0 A1 L0 c0 L1 c1 x y _ W1 _ rfl rfl rfl (HX.out.1.below' H1.out) (HX.out.2.1.below' H1.out) HX.out.2.2.1 HX.out.2.2.2 ?_
  intro W2 hg
  have L2 := Lib.hid (L1'.out.grew hg)
  simp only [puts, List.foldl_cons, List.foldl_nil, Act.put, List.setIfInBounds_toArray, List.set_cons_succ, List.set_cons_zero]
  clear hg L1' H1
  go_upto_region 7 with (fail)
  obtain ⟨V1, hV1⟩ : ∃ V, V = Lib.bytesWorld W2 5 (str x) := ⟨_, rfl⟩
  obtain ⟨q1, hq1⟩ : ∃ q, q = W2.heap.size := ⟨_, rfl⟩
  obtain ⟨d1, g1, k1⟩ : ∃ c, x.length ≤ c ∧ (convert 9 39 (.string (str x))).run Tryz.prog W2 = .ok (.slice (some ⟨q1, 0, none⟩) x.length c) V1 := ⟨_, grownCap_ge W2 x.length 0 5, by rw [hq1, hV1]; exact convU W2 x⟩
  obtain ⟨V2, hV2⟩ : ∃ V, V = Lib.bytesWorld V1 5 (str y) := ⟨_, rfl⟩
  obtain ⟨q2, hq2⟩ : ∃ q, q = V1.heap.size := ⟨_, rfl⟩
  obtain ⟨d2, g2, k2⟩ : ∃ c, y.length ≤ c ∧ (convert 9 39 (.string (str y))).run Tryz.prog V1 = .ok (.slice (some ⟨q2, 0, none⟩) y.length c) V2 := ⟨_, grownCap_ge V1 y.length 0 5, by rw [hq2, hV2]; exact convU V1 y⟩
  obtain ⟨b1, a1, r1⟩ := bytesW W2 x
  obtain ⟨b2, a2, r2⟩ := bytesW V1 y
  rw [← hV1] at b1 a1 r1
  rw [← hV2] at b2 a2 r2
  rw [← hq1] at a1
  rw [← hq2] at a2
  have L3 := Lib.hid (show ByW K w R B (dW [] 0) SM.new [(some ⟨q2, 0, none⟩, y.length), (some ⟨q1, 0, none⟩, x.length)] [] V2 from ((ByW.addR ⟨L2.out.less (fun k ⟨r, hr, _⟩ => by cases hr), (fun r hr => by cases hr), (fun p hp => by cases hp)⟩ b1 (by rw [hq1]; exact r1)).addR b2 (by rw [hq2]; exact r2)))
  have HA := Lib.hid (And.intro (a1.below' b2) a2)
  have hS := HS.out.2.2
  have hlx : x.length ≤ 200 := by have := HS.out.1; have := HX.out.2.2.1; omega
  have hly : y.length ≤ 200 := by have := HS.out.2.1; have := HX.out.2.2.2; omega
  have u1 : (⟨2, n, B0, x⟩ : UM).ok := um2 HN.out B0_ok (by omega)
  have u2 : (⟨3, 1, B0, y⟩ : UM).ok := um3 (by decide) (by omega)
  have m1 := own_may1 n x hS
  have m2 := own_may2 n x y
  have f1 := frm_small u1 (may_fit m1)
  have f2 := frm_small u2 (may_fit m2)
  have hl1 : (dW [⟨2, n, B0, x⟩] 0).A.length ≤ 10000000 := by
    show (frms [bytesUM ⟨2, n, B0, x⟩]).length ≤ _
    rw [frms_cons, frms_nil, List.append_nil]
    simp only at f1
    omega
  have hl2 : (dW [⟨2, n, B0, x⟩, ⟨3, 1, B0, y⟩] 0).A.length ≤ 10000000 := by
    show (frms [bytesUM ⟨2, n, B0, x⟩, bytesUM ⟨3, 1, B0, y⟩]).length ≤ _
    rw [frms_cons, frms_cons, frms_nil, List.append_nil, List.length_append]
    simp only at f1 f2
    omega
  obtain ⟨rows, hrows⟩ : ∃ rows : List (Option Addr × Nat), rows = [(some ⟨q2, 0, none⟩, y.length), (some ⟨q1, 0, none⟩, x.length)] := ⟨_, rfl⟩
  rw [← hrows] at L3
  have HR := Lib.hid (show (some ⟨q2, 0, none⟩, y.length) ∈ rows ∧ (some ⟨q1, 0, none⟩, x.length) ∈ rows by rw [hrows]; simp)
  have HC1 := Lib.hid (show Calls Tryz.prog 29 #[.pointer (some ⟨B, 0, none⟩), .agg #[.int .u64 (n : Int), .int .u64 0, .int .i64 0, .slice (some ⟨q1, 0, none⟩) x.length d1]] V2 fun e W' => e = .returned (.int .i64 0) ∧ ByW K w R B (dW [⟨2, n, B0, x⟩] 0) (SM.new.upd ⟨2, n, B0, x⟩) rows [] W' ∧ HasA W' W'.heap.size (some ⟨q2, 0, none⟩) y from by
    have h := L3.out.live.setV HT.out n B0 (some ⟨q1, 0, none⟩) x.length d1 x HN.out B0_ok rfl g1 (by omega) HA.out.1 (by decide) (by decide)
    rw [show SM.on SM.new (dW [] 0) ⟨2, n, B0, x⟩ = ((dW [⟨2, n, B0, x⟩] 0, SM.new.upd ⟨2, n, B0, x⟩), 0) from on_dW m1 u1] at h
    exact h.mono fun e W' ⟨h1, h2, Z, o, hZ⟩ => ⟨h1, L3.out.next h2 ⟨Z, o, hZ⟩, hasOnly HA.out.2 HR.out.1 o hZ⟩)
  have HC2 := Lib.hid (show ∀ W, ByW K w R B (dW [⟨2, n, B0, x⟩] 0) (SM.new.upd ⟨2, n, B0, x⟩) rows [] W → HasA W W.heap.size (some ⟨q2, 0, none⟩) y → Calls Tryz.prog 17 #[.pointer (some ⟨B, 0, none⟩), .int .u64 1, .slice (some ⟨q2, 0, none⟩) y.length d2] W fun e W' => e = .returned (.int .i64 0) ∧ ByW K w R B (dW [⟨2, n, B0, x⟩, ⟨3, 1, B0, y⟩] 0) ⟨B0, 1, y, [⟨n, B0, x⟩]⟩ rows [] W' from fun W hW hY => by
    have h := hW.live.setS HT.out 1 (some ⟨q2, 0, none⟩) y.length d2 y (by decide) rfl g2 (by omega) hY (show 1 ≤ 1000 by decide) hl1
    rw [show SM.on (SM.new.upd ⟨2, n, B0, x⟩) (dW [⟨2, n, B0, x⟩] 0) ⟨3, 1, B0, y⟩ = ((dW [⟨2, n, B0, x⟩, ⟨3, 1, B0, y⟩] 0, _), 0) from on_dW m2 u2, own_up n x y hS] at h
    exact h.mono fun e W' ⟨h1, h2, h3⟩ => ⟨h1, hW.next h2 h3⟩)
  obtain ⟨d, hd⟩ : ∃ d, d = dW [⟨2, n, B0, x⟩, ⟨3, 1, B0, y⟩] 0 := ⟨_, rfl⟩
  rw [← hd] at HC2
  obtain ⟨s, hs⟩ : ∃ s : SM, s = ⟨B0, 1, y, [⟨n, B0, x⟩]⟩ := ⟨_, rfl⟩
  rw [← hs] at HC2
  have HSM := Lib.hid hs
  have HL := Lib.hid (And.intro hlx hly)
  have hxi : (x.length : Int) ≤ 200 := by omega
  have hyi : (y.length : Int) ≤ 200 := by omega
  have e8 : ∀ b : UInt8, (((b + 1).toNat : Nat) : Int) = ((b.toNat : Int) + 1) % 256 := fun b => by
    rw [UInt8.toNat_add]
    simp
  have HV := Lib.hid (show ∀ rows' cs' W, ByW K w R B d s rows' cs' W → Calls Tryz.prog 27 #[.pointer (some ⟨B, 0, none⟩), .int .u64 0] W fun e W' => Below W.heap.size W W' ∧ ∃ A c, e = .returned (.slice A 1 c) ∧ HasVM W.heap.size W' A [⟨n, B0, x⟩] from fun rows' cs' W hW => by
    have h := hW.live.votes 0 (by rw [hs]; exact (show 1 ≤ 1000 by decide)) (by decide)
    rw [hs] at h
    exact h)
  have HP := Lib.hid (show ∀ rows' cs' W, ByW K w R B d s rows' cs' W → Calls Tryz.prog 30 #[.pointer (some ⟨B, 0, none⟩)] W fun e W' => ∃ v L, e = .returned v ∧ OwnB W.heap.size W' v L y ∧ Below W.heap.size W W' from fun rows' cs' W hW => by
    have h := hW.live.snap
    rw [hs] at h
    exact h)
  have HO := Lib.hid (show ∀ rows' cs' W, ByW K w R B d s rows' cs' W → Calls Tryz.prog 28 #[.pointer (some ⟨B, 0, none⟩), .int .u64 (n : Int)] W fun e W' => Below W.heap.size W W' ∧ ∃ cs : List Value, e = .returned (.tuple #[.agg cs.toArray, .bool true]) ∧ VoteV W.heap.size W' cs ⟨n, B0, x⟩ from fun rows' cs' W hW => by
    have h := hW.live.vote n (by rw [hs]; exact (show 1 ≤ 1000 by decide)) HN.out
    have e : s.vote n = some ⟨n, B0, x⟩ := by rw [hs]; simp [SM.vote]
    rw [e] at h
    exact h)
  clear hV1 hq1 hV2 hq2 b1 a1 r1 b2 a2 r2 g1 g2 u1 u2 m1 m2 f1 f2 hl1 hl2 hrows hd hs hS hlx hly
  go_wp2_with fail
  refine HC1.out.mono ?_
  rintro e W3 ⟨rfl, l3, hy3⟩
  have HC3 := Lib.hid (HC2.out W3 l3 hy3)
  clear l3 hy3 HC1 HC2 L3 HA k1 k2
  go_wp2_with fail
  refine HC3.out.mono ?_
  rintro e W4 ⟨rfl, l4⟩
  have L4 := Lib.hid l4
  clear l4 HC3
  go_wp2
  go_loopw [13] (fun v wr => ∃ i : Nat, i ≤ x.length ∧ v = .int .i64 (i : Int) ∧ Hid (ByW K w R B d s rows [] wr)) (fun v _ => x.length - (intOf v).toNat)
  case atStart => exact ⟨0, Nat.zero_le _, rfl, L4⟩
  case round =>
    obtain ⟨i, hi, rfl, HI⟩ := hrel
    by_cases hlt : i < x.length
    · have hii : (i : Int) < x.length := by omega
      obtain ⟨g, e, _, b, c1, c2⟩ := (HI.out.rows _ HR.out.2).at hlt
      have hnx := HI.out.set HR.out.2 e hlt (b + 1)
      rw [e8] at hnx
      have HNX := Lib.hid hnx
      cases e
      clear hlt hi hnx
      go_wp2
      exact ⟨⟨i + 1, by omega, rfl, HNX⟩, by simp only [intOf]; omega⟩
    · have hii : ¬ (i : Int) < x.length := by omega
      clear hlt hi
      have HJ := HI
      clear HI
      go_wp2
      go_loopw [14] (fun v wr => ∃ i : Nat, i ≤ y.length ∧ v = .int .i64 (i : Int) ∧ Hid (ByW K w R B d s rows [] wr)) (fun v _ => y.length - (intOf v).toNat)
      case atStart => exact ⟨0, Nat.zero_le _, rfl, HJ⟩
      case round =>
        obtain ⟨i, hi, rfl, HI⟩ := hrel
        by_cases hlt : i < y.length
        · have hii : (i : Int) < y.length := by omega
          obtain ⟨g, e, _, b, c1, c2⟩ := (HI.out.rows _ HR.out.1).at hlt
          have hnx := HI.out.set HR.out.1 e hlt (b + 1)
          rw [e8] at hnx
          have HNX := Lib.hid hnx
          cases e
          clear hlt hi hnx
          go_wp2
          exact ⟨⟨i + 1, by omega, rfl, HNX⟩, by simp only [intOf]; omega⟩
        · have hii : ¬ (i : Int) < y.length := by omega
          clear hlt hi
          have HI2 := HI
          clear HI
          go_wp2_with fail
          refine (HV.out _ _ _ HI2.out).mono ?_
          rintro e W5 ⟨b5, A, c, rfl, hA⟩
          obtain ⟨vb, vo, rfl, -, hvl, hv⟩ := hA (by simp)
          obtain ⟨yv, L, -, -, -, c3, ho⟩ := hv 0 (Nat.lt_succ_self 0)
          obtain ⟨xa, xc, rfl⟩ := OwnB.form ho
          obtain rfl : L = x.length := OwnB.len ho
          have c3' : W5.cell? ⟨vb, vo + 3, none⟩ = some (.slice xa x.length xc) := by simpa using c3
          have L5 := Lib.hid ((HI2.out.addR b5 (RowV.ofB ho)).addC hvl c3')
          have A5 := Lib.hid (OwnB.has ho)
          clear b5 hA hv c3 c3' ho HI2
          go_wp2_with fail
          refine (HP.out _ _ _ L5.out).mono ?_
          rintro e W6 ⟨yv, L, rfl, ho, b6⟩
          obtain ⟨ya, yc, rfl⟩ := OwnB.form ho
          obtain rfl : L = y.length := OwnB.len ho
          have L6 := Lib.hid (L5.out.addR b6 (RowV.ofB ho))
          have A6 := Lib.hid (And.intro (A5.out.below' b6) (OwnB.has ho))
          clear b6 ho L5 A5
          go_wp2_with fail
          refine (HO.out _ _ _ L6.out).mono ?_
          rintro e W7 ⟨b7, cs7, rfl, yv, L, rfl, ho⟩
          obtain ⟨oa, oc, rfl⟩ := OwnB.form ho
          obtain rfl : L = x.length := OwnB.len ho
          have L7 := Lib.hid (L6.out.addR b7 (RowV.ofB ho))
          have A7 := Lib.hid (And.intro (A6.out.1.below' b7) (And.intro (A6.out.2.below' b7) (OwnB.has ho)))
          clear b7 ho L6 A6
          go_upto_region 20 with (fail)
          obtain ⟨W8, hW8⟩ : ∃ V, V = W7.alloc (.cells #[.int .u64 (n : Int), .int .u64 (B0.n : Int), .int .i64 B0.r, .slice oa x.length oc] 68) := ⟨_, rfl⟩
          rw [← hW8]
          obtain ⟨p17, hp⟩ : ∃ p, p = W7.heap.size := ⟨_, rfl⟩
          rw [← hp]
          have b8 : Below W7.heap.size W7 W8 := by rw [hW8]; exact (Below.refl _ _).alloc (Nat.le_refl _) _
          have k8 : W8.heap[p17]? = some (.cells #[.int .u64 (n : Int), .int .u64 (B0.n : Int), .int .i64 B0.r, .slice oa x.length oc] 68 (0, 0)) := by rw [hW8, hp]; exact World.alloc_heap_new W7 _
          have c8 : W8.cell? ⟨p17, 3, none⟩ = some (.slice oa x.length oc) := (blk_cell k8 3).trans rfl
          have L8 := Lib.hid ((L7.out.grew b8).addC (p := ⟨p17, 3, none⟩) (Array.getElem?_eq_some_iff.1 k8).1 c8)
          have cv : W8.cell? ⟨vb, vo + 3, none⟩ = some (.slice xa x.length xc) := (L8.out.cells _ (List.mem_cons_of_mem _ List.mem_cons_self)).2.1
          have f1 := run_conv (P := Tryz.prog) (w := W8) (A7.out.1.below' b8) xc Tryz.underlying39 Tryz.underlying5 Tryz.underlying9 (n := x.length) rfl
          have f2 := run_conv (P := Tryz.prog) (w := W8) (A7.out.2.1.below' b8) yc Tryz.underlying39 Tryz.underlying5 Tryz.underlying9 (n := y.length) rfl
          have f3 := run_conv (P := Tryz.prog) (w := W8) (A7.out.2.2.below' b8) oc Tryz.underlying39 Tryz.underlying5 Tryz.underlying9 (n := x.length) rfl
          have ens : ∀ (w : World) (s : ByteArray), (binOp .neq 9 (.string s) (.string s)).run Tryz.prog w = .ok (.bool false) w := fun w s => by simp [go_sem]
          clear hW8 hp b8 k8 L7 A7
          go_wp2
          clear f1 f2 f3 ens c8 cv
          go_loopw [19] (fun v wr => ∃ i : Nat, i ≤ y.length ∧ v = .int .i64 (i : Int) ∧ Hid (ByW K w R B d s ((oa, x.length) :: (ya, y.length) :: (xa, x.length) :: rows) [(⟨p17, 3, none⟩, .slice oa x.length oc), (⟨vb, vo + 3, none⟩, .slice xa x.length xc)] wr)) (fun v _ => y.length - (intOf v).toNat)
          case atStart => exact ⟨0, Nat.zero_le _, rfl, L8⟩
          case round =>
            obtain ⟨i, hi, rfl, HI⟩ := hrel
            by_cases hlt : i < y.length
            · have hii : (i : Int) < y.length := by omega
              obtain ⟨g, e, _, b, c1, c2⟩ := (HI.out.rows _ (List.mem_cons_of_mem _ List.mem_cons_self)).at hlt
              have hnx := HI.out.set (List.mem_cons_of_mem _ List.mem_cons_self) e hlt (b + 1)
              rw [e8] at hnx
              have HNX := Lib.hid hnx
              cases e
              clear hlt hi hnx
              go_wp2
              exact ⟨⟨i + 1, by omega, rfl, HNX⟩, by simp only [intOf]; omega⟩
            · have hii : ¬ (i : Int) < y.length := by omega
              clear hlt hi
              have HJ := HI
              clear HI
              go_wp2
              go_loopw [20] (fun v wr => ∃ i : Nat, i ≤ x.length ∧ v = .int .i64 (i : Int) ∧ Hid (ByW K w R B d s ((oa, x.length) :: (ya, y.length) :: (xa, x.length) :: rows) [(⟨p17, 3, none⟩, .slice oa x.length oc), (⟨vb, vo + 3, none⟩, .slice xa x.length xc)] wr)) (fun v _ => x.length - (intOf v).toNat)
              case atStart => exact ⟨0, Nat.zero_le _, rfl, HJ⟩
              case round =>
                obtain ⟨i, hi, rfl, HI⟩ := hrel
                have c0 : wr.cell? ⟨p17, 3, none⟩ = some (.slice oa x.length oc) := (HI.out.cells _ List.mem_cons_self).2.1
                by_cases hlt : i < x.length
                · have hii : (i : Int) < x.length := by omega
                  obtain ⟨g, e, _, b, c1, c2⟩ := (HI.out.rows _ List.mem_cons_self).at hlt
                  have hnx := HI.out.set List.mem_cons_self e hlt (b + 1)
                  rw [e8] at hnx
                  have HNX := Lib.hid hnx
                  cases e
                  clear hlt hi hnx
                  go_wp2
                  exact ⟨⟨i + 1, by omega, rfl, HNX⟩, by simp only [intOf]; omega⟩
                · have hii : ¬ (i : Int) < x.length := by omega
                  clear hlt hi
                  have HJ := HI
                  clear HI
                  go_wp2
                  clear c0
                  go_loopw [21] (fun v wr => ∃ i : Nat, i ≤ x.length ∧ v = .int .i64 (i : Int) ∧ Hid (ByW K w R B d s ((oa, x.length) :: (ya, y.length) :: (xa, x.length) :: rows) [(⟨p17, 3, none⟩, .slice oa x.length oc), (⟨vb, vo + 3, none⟩, .slice xa x.length xc)] wr)) (fun v _ => x.length - (intOf v).toNat)
                  case atStart => exact ⟨0, Nat.zero_le _, rfl, HJ⟩
                  case round =>
                    obtain ⟨i, hi, rfl, HI⟩ := hrel
                    have c0 : wr.cell? ⟨vb, vo + 3, none⟩ = some (.slice xa x.length xc) := (HI.out.cells _ (List.mem_cons_of_mem _ List.mem_cons_self)).2.1
                    by_cases hlt : i < x.length
                    · have hii : (i : Int) < x.length := by omega
                      obtain ⟨g, e, _, b, c1, c2⟩ := (HI.out.rows _ (List.mem_cons_of_mem _ (List.mem_cons_of_mem _ List.mem_cons_self))).at hlt
                      have hnx := HI.out.set (List.mem_cons_of_mem _ (List.mem_cons_of_mem _ List.mem_cons_self)) e hlt (b + 1)
                      rw [e8] at hnx
                      have HNX := Lib.hid hnx
                      cases e
                      clear hlt hi hnx
                      go_wp2
                      exact ⟨⟨i + 1, by omega, rfl, HNX⟩, by simp only [intOf]; omega⟩
                    · have hii : ¬ (i : Int) < x.length := by omega
                      clear hlt hi
                      go_wp2_with fail
                      refine (HO.out _ _ _ HI.out).mono ?_
                      rintro e W9 ⟨b9, cs9, rfl, y9, M, rfl, o9⟩
                      obtain ⟨ma, mc, rfl⟩ := OwnB.form o9
                      obtain rfl : M = x.length := OwnB.len o9
                      have L9 := Lib.hid (HI.out.grew b9)
                      have a9 := OwnB.has o9
                      clear b9 o9 HI
                      go_upto_region 35 with (fail)
                      obtain ⟨W10, hW10⟩ : ∃ V, V = W9.alloc (.cells #[.int .u64 (n : Int), .int .u64 (B0.n : Int), .int .i64 B0.r, .slice ma x.length mc] 68) := ⟨_, rfl⟩
                      rw [← hW10]
                      obtain ⟨p22, hp⟩ : ∃ p, p = W9.heap.size := ⟨_, rfl⟩
                      rw [← hp]
                      have b10 : Below W9.heap.size W9 W10 := by rw [hW10]; exact (Below.refl _ _).alloc (Nat.le_refl _) _
                      have k10 : W10.heap[p22]? = some (.cells #[.int .u64 (n : Int), .int .u64 (B0.n : Int), .int .i64 B0.r, .slice ma x.length mc] 68 (0, 0)) := by rw [hW10, hp]; exact World.alloc_heap_new W9 _
                      have c10 : W10.cell? ⟨p22, 3, none⟩ = some (.slice ma x.length mc) := (blk_cell k10 3).trans rfl
                      have L10 := Lib.hid (L9.out.grew b10)
                      have f1 := run_conv (P := Tryz.prog) (w := W10) (a9.below' b10) mc Tryz.underlying39 Tryz.underlying5 Tryz.underlying9 (n := x.length) rfl
                      have ees : ∀ (w : World) (s : ByteArray), (binOp .eql 9 (.string s) (.string s)).run Tryz.prog w = .ok (.bool true) w := fun w s => by simp [go_sem]
                      clear hW10 hp b10 k10 L9 a9 c0
                      go_wp2_with fail
                      refine (HP.out _ _ _ L10.out).mono ?_
                      rintro e W11 ⟨yv, L, rfl, ho, b11⟩
                      obtain ⟨za, zc, rfl⟩ := OwnB.form ho
                      obtain rfl : L = y.length := OwnB.len ho
                      have f2 := run_conv (P := Tryz.prog) (w := W11) (OwnB.has ho) zc Tryz.underlying39 Tryz.underlying5 Tryz.underlying9 (n := y.length) rfl
                      have H11 := Lib.hid (L10.out.grew b11).live.below
                      clear b11 ho L10 c10 f1
                      go_wp2_with fail
                      refine (HWK.out _ H11.out).mono ?_
                      rintro e W12 ⟨rfl, b12⟩
                      have H12 := Lib.hid b12
                      clear b12 f2 ees
                      go_wp2
                      go_ret
                      exact ⟨rfl, H12.out⟩
end Go.Proofs.YtdiihaeelcbjbaaGreatDoor
