/- The document's bytes of a ballot; the landed Put and Take. -/
import Derived.Test.YtdiihaeelcbjbaaGreatDoorBlByR
import Derived.Test.YtdiihaeelcbjbaaGreatDoorRdMore
namespace Go.Proofs.YtdiihaeelcbjbaaGreatDoor
open Go.RowKit

set_option maxRecDepth 100000 in
set_option maxHeartbeats 1000000 in
theorem refBytes_any (x : BA) (hx : x.ok) (hf : x.fit) (w : World) : Calls Tryz.prog 115 #[.agg #[.int .u64 (x.n : Int), .int .i64 x.r]] w (Gives w (bytesBA x)) := by
  have HX := Lib.hid (And.intro hx hf)
  clear hx hf
  go_enter Tryz.func115, Tryz.ntmps115
  go_upto_region 1 with (fail)
  obtain ⟨W0, hW0⟩ : ∃ W0, W0 = w.alloc (.cells #[.int .u64 (x.n : Int), .int .i64 x.r] 25) := ⟨_, rfl⟩
  rw [← hW0]
  obtain ⟨b0, k0, s0⟩ := boxBA hW0
  obtain ⟨p, hp⟩ : ∃ p, p = w.heap.size := ⟨_, rfl⟩
  rw [← hp] at k0 ⊢
  have HB := Lib.hid b0
  refine refbytes_r p x _ W0 _ rfl rfl k0 HX.out.1 HX.out.2 ⟨Below.refl _ _, (fun h => by cases h), (fun h => by cases h), (fun h => by cases h), fun h => by cases h⟩ ?_
  intro u W2 hws
  obtain ⟨m, ho⟩ := hws.2.2.2.2 rfl
  have hb : Below w.heap.size w W2 := HB.out.trans (Below.mono (show Below W0.heap.size W0 W2 from Grew.undraw hws.1) HB.out.size)
  have ho2 := own_base ho (show w.heap.size ≤ W0.drew.heap.size from HB.out.size)
  have hm := own_len ho2
  obtain ⟨g, c, hv, _⟩ := ho2.form (by rw [hm]; have := List.length_pos_iff.2 (vb_ne x.n); simp only [List.length_append]; omega)
  rw [hv] at ho2
  have HO := Lib.hid (And.intro ho2 hb)
  rw [hv]
  simp only [puts, List.foldl_cons, List.foldl_nil, Act.put, List.setIfInBounds_toArray, List.set_cons_succ, List.set_cons_zero]
  clear hws ho hb ho2 hm hv HB hW0 b0 k0 s0 hp
  go_wp2
  go_ret
  exact ⟨_, _, _, rfl, HO.out.1, HO.out.2⟩
set_option maxRecDepth 100000 in
set_option maxHeartbeats 1000000 in
theorem putBA_any (A : Option Addr) (L c : Nat) (bs : List UInt8) (x : BA) (hL : L = bs.length) (hlen : bs.length ≤ 900000) (hx : x.ok) (hf : x.fit) (w : World) (hA : HasA w w.heap.size A bs) : Calls Tryz.prog 102 #[.slice A L c, .agg #[.int .u64 (x.n : Int), .int .i64 x.r]] w (Gives w (bs ++ bytesBA x)) := by
  have HX := Lib.hid (And.intro hx (And.intro hf (And.intro hL (And.intro hlen hA))))
  clear hx hf hL hlen hA
  go_enter Tryz.func102, Tryz.ntmps102
  go_upto_region 1 with (fail)
  obtain ⟨W0, hW0⟩ : ∃ W0, W0 = w.alloc (.cells #[.int .u64 (x.n : Int), .int .i64 x.r] 25) := ⟨_, rfl⟩
  rw [← hW0]
  obtain ⟨b0, k0, s0⟩ := boxBA hW0
  obtain ⟨p, hp⟩ : ∃ p, p = w.heap.size := ⟨_, rfl⟩
  rw [← hp] at k0 ⊢
  have HB := Lib.hid b0
  refine put_r A L c p bs x w.heap.size _ W0 _ rfl rfl rfl k0 HX.out.1 HX.out.2.1 HX.out.2.2.1 HX.out.2.2.2.1 (HX.out.2.2.2.2.below' b0) b0.size ?_
  intro v8 v12 v4 W2 _ _ hO hg
  obtain ⟨g, n, c', rfl, ho⟩ := hO
  have HO := Lib.hid (And.intro ho (HB.out.trans (Below.mono hg HB.out.size)))
  simp only [puts, List.foldl_cons, List.foldl_nil, Act.put, List.setIfInBounds_toArray, List.set_cons_succ, List.set_cons_zero]
  clear ho hg HB HX hW0 b0 k0 s0 hp
  go_wp2
  go_ret
  exact ⟨_, _, _, rfl, HO.out.1, HO.out.2⟩
theorem grown_set {w W : World} {R g i : Nat} {u : Value} (h : w.grownBy W (some R)) (hg : w.heap.size ≤ g) : w.grownBy (W.setCell ⟨g, i, none⟩ u) (some R) := by
  have k := grownBy_set W g i u
  exact ⟨k.os.trans h.os, k.tape.trans h.tape, k.output.trans h.output, Nat.le_trans h.size k.size, fun b hb hn => (k.block b (Nat.lt_of_lt_of_le hb h.size) (fun e => by cases e; omega)).trans (h.block b hb hn)⟩
/-- The end of Take: the result's cells set. -/
theorem takeEnd {w W V : World} {R lim g : Nat} {s : RdS} {x0 y0 : Value} (hq : RdQ W R lim s) (hg : w.grownBy W (some R)) (k : W.heap[g]? = some (.cells #[x0, y0] 25 (0, 0))) (hgw : w.heap.size ≤ g) (x y : Value) (hV : V = (W.setCell ⟨g, 0, none⟩ x).setCell ⟨g, 1, none⟩ y) :
    RdQ V R lim s ∧ w.grownBy V (some R) ∧ V.cell? ⟨g, 0, none⟩ = some x ∧ V.cell? ⟨g, 1, none⟩ = some y := by
  subst hV
  have k2 := blk_set k 0 x
  have k3 := blk_set k2 1 y
  refine ⟨hq.sameK ((SameT.set (i := 0) k x).trans (SameT.set (i := 1) k2 y)) (by decide) (by decide), grown_set (grown_set hg hgw) hgw, ?_, ?_⟩
  · simpa using blk_cell k3 0
  · simpa using blk_cell k3 1
set_option maxRecDepth 100000 in
set_option maxHeartbeats 2000000 in
theorem takeBA_any {w : World} {R lim : Nat} {s : RdS} (h : RdQ w R lim s) : Calls Tryz.prog 73 #[.pointer (some ⟨R, 0, none⟩)] w fun e W' => e = .returned (.tuple #[.agg #[.int .u64 ((takeBA s).1.1.n : Int), .int .i64 (takeBA s).1.1.r], .int .i64 ((takeBA s).1.2 : Int)]) ∧ RdQ W' R lim (takeBA s).2 ∧ w.grownBy W' (some R) := by
  have HQ := Lib.hid h
  have HR := Lib.hid h.lt
  obtain ⟨y, hy⟩ : ∃ y, y = takeBA s := ⟨_, rfl⟩
  rw [← hy]
  have HY := Lib.hid hy
  clear h hy
  go_enter Tryz.func73, Tryz.ntmps73
  go_upto_region 1 with (fail)
  obtain ⟨W0, hW0⟩ : ∃ W0, W0 = w.alloc (.cells #[.int .u64 0, .int .i64 0] 25) := ⟨_, rfl⟩
  rw [← hW0]
  obtain ⟨b0, k0, s0⟩ := boxBA hW0
  obtain ⟨g, hg⟩ : ∃ p, p = w.heap.size := ⟨_, rfl⟩
  rw [← hg] at k0 ⊢
  have H0 := Lib.hid (And.intro (HQ.out.below b0) (And.intro k0 (And.intro (show w.heap.size ≤ g by omega) (And.intro (show R ≠ g by have := HR.out; omega) (grownBy_of_below (r := some R) b0)))))
  clear hW0 b0 k0 s0 hg
  go_wp2_with fail
  refine (UintR_q H0.out.1).mono ?_
  rintro e W1 ⟨rfl, q1, g1⟩
  have k1 := (g1.block g (Array.getElem?_eq_some_iff.1 H0.out.2.1).1 (fun e => H0.out.2.2.2.1 (by cases e; rfl))).trans H0.out.2.1
  have H1 := Lib.hid (And.intro q1 (And.intro k1 (grownBy_trans H0.out.2.2.2.2 g1)))
  clear q1 g1 k1
  go_wp2_with fail
  refine (UintR_q H1.out.1).mono ?_
  rintro e W2 ⟨rfl, q2, g2⟩
  have k2 := (g2.block g (Array.getElem?_eq_some_iff.1 H1.out.2.1).1 (fun e => H0.out.2.2.2.1 (by cases e; rfl))).trans H1.out.2.1
  have H2 := Lib.hid (And.intro q2 (And.intro k2 (grownBy_trans H1.out.2.2 g2)))
  clear q2 g2 k2
  have HY2 := HY.out
  unfold takeBA at HY2
  obtain ⟨n, hn⟩ : ∃ n, n = s.u.1 := ⟨_, rfl⟩
  obtain ⟨m, hm⟩ : ∃ m, m = s.u.2.u.1 := ⟨_, rfl⟩
  obtain ⟨s2, hs2⟩ : ∃ t, t = s.u.2.u.2 := ⟨_, rfl⟩
  rw [← hn, ← hm, ← hs2] at HY2
  rw [← hs2] at H2
  have HE := Lib.hid (ErrR_q H2.out.1)
  have kg := H2.out.2.1
  have z0 := blk_cell kg 0
  have z1 := blk_cell kg 1
  have u0 := blk_frozen kg 0
  have u1 := blk_frozen kg 1
  simp at z0 z1
  have HF := Lib.hid (fun x y V => takeEnd (V := V) H2.out.1 H2.out.2.2 H2.out.2.1 H0.out.2.2.1 x y)
  rw [← hn, ← hm]
  have HYY := Lib.hid HY2
  clear kg hs2 hn hm HY2
  go_wp2_with fail
  refine HE.out.mono ?_
  rintro e W3 ⟨rfl, rfl⟩
  by_cases he : s2.e = 0
  · have hei : (s2.e : Int) = 0 := by omega
    by_cases h7 : 7 ≤ m
    · have h7i : (7 : Int) ≤ m := by omega
      obtain rfl : y = ((B0, 11), s2) := by rw [HYY.out, if_neg (by simpa using he), if_pos h7]
      obtain ⟨V, hV⟩ : ∃ V, V = (W2.setCell ⟨g, 0, none⟩ (.int .u64 0)).setCell ⟨g, 1, none⟩ (.int .i64 0) := ⟨_, rfl⟩
      obtain ⟨f0, f1, f2, f3⟩ := HF.out _ _ V hV
      have HG := Lib.hid (And.intro f0 f1)
      clear f0 f1 he h7
      go_wp2
      rw [← hV]
      exact bodyPost_ret (v := .tuple #[.agg #[.int .u64 0, .int .i64 0], .int .i64 11]) (by simp [results, Tryz.results73, go_sem, f2, f3]) rfl ⟨rfl, HG.out⟩
    · have h7i : ¬ (7 : Int) ≤ m := by omega
      have h7j : (m : Int) < 7 := by omega
      obtain rfl : y = ((⟨n, (m : Int)⟩, 0), s2) := by rw [HYY.out, if_neg (by simpa using he), if_neg h7]
      obtain ⟨V, hV⟩ : ∃ V, V = (W2.setCell ⟨g, 0, none⟩ (.int .u64 (n : Int))).setCell ⟨g, 1, none⟩ (.int .i64 (m : Int)) := ⟨_, rfl⟩
      obtain ⟨f0, f1, f2, f3⟩ := HF.out _ _ V hV
      have HG := Lib.hid (And.intro f0 f1)
      clear f0 f1 he h7
      go_wp2
      rw [← hV]
      exact bodyPost_ret (v := .tuple #[.agg #[.int .u64 (n : Int), .int .i64 (m : Int)], .int .i64 0]) (by simp [results, Tryz.results73, go_sem, f2, f3]) rfl ⟨rfl, HG.out⟩
  · have hei : ((s2.e : Int) == 0) = false := beq_eq_false_iff_ne.2 (by omega)
    obtain rfl : y = ((B0, s2.e), s2) := by rw [HYY.out, if_pos he]
    obtain ⟨V, hV⟩ : ∃ V, V = (W2.setCell ⟨g, 0, none⟩ (.int .u64 0)).setCell ⟨g, 1, none⟩ (.int .i64 0) := ⟨_, rfl⟩
    obtain ⟨f0, f1, f2, f3⟩ := HF.out _ _ V hV
    have HG := Lib.hid (And.intro f0 f1)
    clear f0 f1 he
    go_wp2
    rw [← hV]
    exact bodyPost_ret (v := .tuple #[.agg #[.int .u64 0, .int .i64 0], .int .i64 (s2.e : Int)]) (by simp [results, Tryz.results73, go_sem, f2, f3]) rfl ⟨rfl, HG.out⟩
end Go.Proofs.YtdiihaeelcbjbaaGreatDoor
