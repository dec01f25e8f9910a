/- An update's record. judge and set: the statements that draw their order. Whether an update may be; a store over a log of the program; a set. -/
import Derived.Test.YtdiihaeelcbjbaaGreatDoorMSb1
import Derived.Test.YtdiihaeelcbjbaaGreatDoorBlBy
import Derived.Test.YtdiihaeelcbjbaaGreatDoorVarTxt
import Derived.Test.YtdiihaeelcbjbaaGreatDoorRg
import Derived.Test.YtdiihaeelcbjbaaGreatDoorMStep
import Derived.Test.YtdiihaeelcbjbaaGreatDoorMStW
-- SbF
namespace Go.Proofs.YtdiihaeelcbjbaaGreatDoor
open Go.RowKit Go.Maps Go.WideMaps

/-- Bytes put together so far, beside the update's block. -/
structure RcS (w : World) (p : Nat) (u : UM) (x : List UInt8) (A : Option Addr) (L c : Nat) (W : World) : Prop where
  below : Below w.heap.size w W
  kp : W.heap[p]? = some (.cells (cellsU u) 91 (0, 0))
  len : L = x.length
  own : W.ownsRow w.heap.size 5 1 (.slice A L c) L (x.map enc)
section
variable {w W W' : World} {p : Nat} {u : UM} {x y : List UInt8} {A : Option Addr} {L c : Nat}
theorem RcS.has (h : RcS w p u x A L c W) : HasA W W.heap.size A x := HasA.of_own h.own
theorem RcS.grew (h : RcS w p u x A L c W) (hb : Below W.heap.size W W') : RcS w p u x A L c W' :=
  ⟨h.below.trans (Below.mono hb h.below.size), (hb.block p (Array.getElem?_eq_some_iff.1 h.kp).1).trans h.kp, h.len, own_below h.own hb⟩
theorem RcS.next {e : Ending} (h : RcS w p u x A L c W) (hg : Gives W y e W') : ∃ g M d, e = .returned (.slice (some ⟨g, 0, none⟩) M d) ∧ RcS w p u y (some ⟨g, 0, none⟩) M d W' := by
  obtain ⟨g, M, d, he, ho, hb⟩ := hg
  exact ⟨g, M, d, he, h.below.trans (Below.mono hb h.below.size), (hb.block p (Array.getElem?_eq_some_iff.1 h.kp).1).trans h.kp, own_len ho, own_base ho h.below.size⟩
end
theorem putT (A : Option Addr) (L c : Nat) (y x : List UInt8) (w : World) (hL : L = y.length) (hy : y.length ≤ 100) (hx : x.length ≤ 60000) (hA : HasA w w.heap.size A y) : Calls Tryz.prog 103 #[.slice A L c, .string (str x)] w (Gives w (y ++ (vb x.length ++ x))) := by
  have h := Text_any A y L c hL (str x) (by rw [str_size]; omega) (by omega) w hA
  rw [str_size, show (str x).data.toList = x by simp [str], List.append_assoc] at h
  exact h
set_option maxRecDepth 100000 in
set_option maxHeartbeats 4000000 in
theorem record_c (u : UM) (hu : u.ok) (hf : u.k = 3 ∨ u.b.fit) (w : World) : Calls Tryz.prog 80 #[valU u] w (Gives w (bytesUM u)) := by
  have hk : u.k = 1 ∨ u.k = 2 ∨ u.k = 3 := by have := hu.k1; have := hu.k3; omega
  obtain ⟨k, us, ub, ux⟩ := u
  simp only [valU, cellsU] at hk ⊢
  have HU := Lib.hid (And.intro hu hf)
  clear hu hf
  go_enter Tryz.func80, Tryz.ntmps80
  go_upto_region 1 with (fail)
  obtain ⟨W0, hW0⟩ : ∃ W0, W0 = w.alloc (.cells #[.int .u64 (k : Int), .int .u64 (us : Int), .int .u64 (ub.n : Int), .int .i64 ub.r, .string (str ux)] 91) := ⟨_, rfl⟩
  rw [← hW0]
  obtain ⟨b0, k0, _⟩ := boxU (u := ⟨k, us, ub, ux⟩) hW0
  obtain ⟨p, hp⟩ : ∃ p, p = w.heap.size := ⟨_, rfl⟩
  rw [← hp] at k0 ⊢
  have S1 := Lib.hid (show RcS w p ⟨k, us, ub, ux⟩ [] none 0 0 W0 from ⟨b0, k0, rfl, World.ownsRow_nil _ _ _ _⟩)
  clear hW0 b0 k0 hp
  rcases hk with hk | hk | hk
  · have HS := Lib.hid (show ∀ W, Calls Tryz.prog 71 #[.agg #[.int .u64 (k : Int), .int .u64 (us : Int), .int .u64 (ub.n : Int), .int .i64 ub.r, .string (str ux)]] W fun e W' => e = .returned (.bool false) ∧ Below W.heap.size W W' from fun W => (hasSlot_any ⟨k, us, ub, ux⟩ W).mono fun e W' ⟨h1, h2⟩ => ⟨by rw [h1]; simp; omega, h2⟩)
    have HT := Lib.hid (show ∀ W, Calls Tryz.prog 72 #[.agg #[.int .u64 (k : Int), .int .u64 (us : Int), .int .u64 (ub.n : Int), .int .i64 ub.r, .string (str ux)]] W fun e W' => e = .returned (.bool true) ∧ Below W.heap.size W W' from fun W => (hasBallot_any ⟨k, us, ub, ux⟩ W).mono fun e W' ⟨h1, h2⟩ => ⟨by rw [h1]; simp; omega, h2⟩)
    have HK := Lib.hid hk
    clear hk
    have y0 := (blk_cell S1.out.kp 0).trans (show _ = some (.int .u64 (k : Int)) from rfl)
    go_wp2_with fail
    refine (Uint_any none [] 0 0 k rfl (by have := HU.out.1.k3; simp only at this; omega) (by decide) _ (HasA.nil _ _ _)).mono ?_
    rintro e W2 hg
    obtain ⟨g2, L2, c2, rfl, s2⟩ := S1.out.next hg
    have S2 := Lib.hid s2
    clear s2 hg y0 S1
    have y0 := (blk_cell S2.out.kp 0).trans (show _ = some (.int .u64 (k : Int)) from rfl)
    have y1 := (blk_cell S2.out.kp 1).trans (show _ = some (.int .u64 (us : Int)) from rfl)
    have y2 := (blk_cell S2.out.kp 2).trans (show _ = some (.int .u64 (ub.n : Int)) from rfl)
    have y3 := (blk_cell S2.out.kp 3).trans (show _ = some (.int .i64 ub.r) from rfl)
    have y4 := (blk_cell S2.out.kp 4).trans (show _ = some (.string (str ux)) from rfl)
    go_wp2_with fail
    refine (HS.out _).mono ?_
    rintro e W3 ⟨rfl, b3⟩
    have S3 := Lib.hid (S2.out.grew b3)
    clear b3 y0 y1 y2 y3 y4 S2
    have y0 := (blk_cell S3.out.kp 0).trans (show _ = some (.int .u64 (k : Int)) from rfl)
    have y1 := (blk_cell S3.out.kp 1).trans (show _ = some (.int .u64 (us : Int)) from rfl)
    have y2 := (blk_cell S3.out.kp 2).trans (show _ = some (.int .u64 (ub.n : Int)) from rfl)
    have y3 := (blk_cell S3.out.kp 3).trans (show _ = some (.int .i64 ub.r) from rfl)
    have y4 := (blk_cell S3.out.kp 4).trans (show _ = some (.string (str ux)) from rfl)
    go_wp2_with fail
    refine (HT.out _).mono ?_
    rintro e W4 ⟨rfl, b4⟩
    have S4 := Lib.hid (S3.out.grew b4)
    clear b4 y0 y1 y2 y3 y4 S3
    have y2 := (blk_cell S4.out.kp 2).trans (show _ = some (.int .u64 (ub.n : Int)) from rfl)
    have y3 := (blk_cell S4.out.kp 3).trans (show _ = some (.int .i64 ub.r) from rfl)
    go_wp2_with fail
    refine (putBA_any _ _ _ _ ub S4.out.len (by have := vb_len10 (n := k) (by have := HU.out.1.k3; simp only at this; omega); simp only [List.nil_append]; omega) HU.out.1.b (HU.out.2.resolve_left (show ¬ k = 3 by have := HK.out; omega)) _ S4.out.has).mono ?_
    rintro e W5 hg
    obtain ⟨g5, L5, c5, rfl, s5⟩ := S4.out.next hg
    have S5 := Lib.hid s5
    clear s5 hg y2 y3 S4
    have y0 := (blk_cell S5.out.kp 0).trans (show _ = some (.int .u64 (k : Int)) from rfl)
    have y1 := (blk_cell S5.out.kp 1).trans (show _ = some (.int .u64 (us : Int)) from rfl)
    have y2 := (blk_cell S5.out.kp 2).trans (show _ = some (.int .u64 (ub.n : Int)) from rfl)
    have y3 := (blk_cell S5.out.kp 3).trans (show _ = some (.int .i64 ub.r) from rfl)
    have y4 := (blk_cell S5.out.kp 4).trans (show _ = some (.string (str ux)) from rfl)
    go_wp2_with fail
    refine (HS.out _).mono ?_
    rintro e W6 ⟨rfl, b6⟩
    have S6 := Lib.hid (S5.out.grew b6)
    clear b6 y0 y1 y2 y3 y4 S5
    go_wp2
    go_ret
    refine ⟨_, _, _, rfl, ?_, S6.out.below⟩
    have ho := S6.out.own
    simp only [List.nil_append] at ho
    have hb : bytesUM ⟨k, us, ub, ux⟩ = vb k ++ bytesBA ub := by
      have := HK.out
      simp [bytesUM, show k = 1 by omega]
    rw [hb]
    simpa using ho
  · have HS := Lib.hid (show ∀ W, Calls Tryz.prog 71 #[.agg #[.int .u64 (k : Int), .int .u64 (us : Int), .int .u64 (ub.n : Int), .int .i64 ub.r, .string (str ux)]] W fun e W' => e = .returned (.bool true) ∧ Below W.heap.size W W' from fun W => (hasSlot_any ⟨k, us, ub, ux⟩ W).mono fun e W' ⟨h1, h2⟩ => ⟨by rw [h1]; simp; omega, h2⟩)
    have HT := Lib.hid (show ∀ W, Calls Tryz.prog 72 #[.agg #[.int .u64 (k : Int), .int .u64 (us : Int), .int .u64 (ub.n : Int), .int .i64 ub.r, .string (str ux)]] W fun e W' => e = .returned (.bool true) ∧ Below W.heap.size W W' from fun W => (hasBallot_any ⟨k, us, ub, ux⟩ W).mono fun e W' ⟨h1, h2⟩ => ⟨by rw [h1]; simp; omega, h2⟩)
    have HK := Lib.hid hk
    clear hk
    have y0 := (blk_cell S1.out.kp 0).trans (show _ = some (.int .u64 (k : Int)) from rfl)
    go_wp2_with fail
    refine (Uint_any none [] 0 0 k rfl (by have := HU.out.1.k3; simp only at this; omega) (by decide) _ (HasA.nil _ _ _)).mono ?_
    rintro e W2 hg
    obtain ⟨g2, L2, c2, rfl, s2⟩ := S1.out.next hg
    have S2 := Lib.hid s2
    clear s2 hg y0 S1
    have y0 := (blk_cell S2.out.kp 0).trans (show _ = some (.int .u64 (k : Int)) from rfl)
    have y1 := (blk_cell S2.out.kp 1).trans (show _ = some (.int .u64 (us : Int)) from rfl)
    have y2 := (blk_cell S2.out.kp 2).trans (show _ = some (.int .u64 (ub.n : Int)) from rfl)
    have y3 := (blk_cell S2.out.kp 3).trans (show _ = some (.int .i64 ub.r) from rfl)
    have y4 := (blk_cell S2.out.kp 4).trans (show _ = some (.string (str ux)) from rfl)
    go_wp2_with fail
    refine (HS.out _).mono ?_
    rintro e W3 ⟨rfl, b3⟩
    have S3 := Lib.hid (S2.out.grew b3)
    clear b3 y0 y1 y2 y3 y4 S2
    have y1 := (blk_cell S3.out.kp 1).trans (show _ = some (.int .u64 (us : Int)) from rfl)
    go_wp2_with fail
    refine (Uint_any _ _ _ _ us S3.out.len HU.out.1.s (by have := vb_len10 (n := k) (by have := HU.out.1.k3; simp only at this; omega); simp only [List.nil_append]; omega) _ S3.out.has).mono ?_
    rintro e W4 hg
    obtain ⟨g4, L4, c4, rfl, s4⟩ := S3.out.next hg
    have S4 := Lib.hid s4
    clear s4 hg y1 S3
    have y0 := (blk_cell S4.out.kp 0).trans (show _ = some (.int .u64 (k : Int)) from rfl)
    have y1 := (blk_cell S4.out.kp 1).trans (show _ = some (.int .u64 (us : Int)) from rfl)
    have y2 := (blk_cell S4.out.kp 2).trans (show _ = some (.int .u64 (ub.n : Int)) from rfl)
    have y3 := (blk_cell S4.out.kp 3).trans (show _ = some (.int .i64 ub.r) from rfl)
    have y4 := (blk_cell S4.out.kp 4).trans (show _ = some (.string (str ux)) from rfl)
    go_wp2_with fail
    refine (HT.out _).mono ?_
    rintro e W5 ⟨rfl, b5⟩
    have S5 := Lib.hid (S4.out.grew b5)
    clear b5 y0 y1 y2 y3 y4 S4
    have y2 := (blk_cell S5.out.kp 2).trans (show _ = some (.int .u64 (ub.n : Int)) from rfl)
    have y3 := (blk_cell S5.out.kp 3).trans (show _ = some (.int .i64 ub.r) from rfl)
    go_wp2_with fail
    refine (putBA_any _ _ _ _ ub S5.out.len (by have := vb_len10 (n := k) (by have := HU.out.1.k3; simp only at this; omega); have := vb_len10 (n := us) HU.out.1.s; simp only [List.nil_append, List.length_append]; omega) HU.out.1.b (HU.out.2.resolve_left (show ¬ k = 3 by have := HK.out; omega)) _ S5.out.has).mono ?_
    rintro e W6 hg
    obtain ⟨g6, L6, c6, rfl, s6⟩ := S5.out.next hg
    have S6 := Lib.hid s6
    clear s6 hg y2 y3 S5
    have y0 := (blk_cell S6.out.kp 0).trans (show _ = some (.int .u64 (k : Int)) from rfl)
    have y1 := (blk_cell S6.out.kp 1).trans (show _ = some (.int .u64 (us : Int)) from rfl)
    have y2 := (blk_cell S6.out.kp 2).trans (show _ = some (.int .u64 (ub.n : Int)) from rfl)
    have y3 := (blk_cell S6.out.kp 3).trans (show _ = some (.int .i64 ub.r) from rfl)
    have y4 := (blk_cell S6.out.kp 4).trans (show _ = some (.string (str ux)) from rfl)
    go_wp2_with fail
    refine (HS.out _).mono ?_
    rintro e W7 ⟨rfl, b7⟩
    have S7 := Lib.hid (S6.out.grew b7)
    clear b7 y0 y1 y2 y3 y4 S6
    have y4 := (blk_cell S7.out.kp 4).trans (show _ = some (.string (str ux)) from rfl)
    go_wp2_with fail
    refine (putT _ _ _ _ ux _ S7.out.len (by have := vb_len10 (n := k) (by have := HU.out.1.k3; simp only at this; omega); have := vb_len10 (n := us) HU.out.1.s; have := bytesBA_len HU.out.1.b (HU.out.2.resolve_left (show ¬ k = 3 by have := HK.out; omega)); simp only [List.nil_append, List.length_append] at *; omega) HU.out.1.x S7.out.has).mono ?_
    rintro e W8 hg
    obtain ⟨g8, L8, c8, rfl, s8⟩ := S7.out.next hg
    have S8 := Lib.hid s8
    clear s8 hg y4 S7
    go_wp2
    go_ret
    refine ⟨_, _, _, rfl, ?_, S8.out.below⟩
    have ho := S8.out.own
    simp only [List.nil_append, List.append_assoc] at ho
    have hb : bytesUM ⟨k, us, ub, ux⟩ = vb k ++ (vb us ++ (bytesBA ub ++ (vb ux.length ++ ux))) := by
      have := HK.out
      simp [bytesUM, show k ≠ 1 by omega, show k ≠ 3 by omega]
    rw [hb]
    simpa using ho
  · have HS := Lib.hid (show ∀ W, Calls Tryz.prog 71 #[.agg #[.int .u64 (k : Int), .int .u64 (us : Int), .int .u64 (ub.n : Int), .int .i64 ub.r, .string (str ux)]] W fun e W' => e = .returned (.bool true) ∧ Below W.heap.size W W' from fun W => (hasSlot_any ⟨k, us, ub, ux⟩ W).mono fun e W' ⟨h1, h2⟩ => ⟨by rw [h1]; simp; omega, h2⟩)
    have HT := Lib.hid (show ∀ W, Calls Tryz.prog 72 #[.agg #[.int .u64 (k : Int), .int .u64 (us : Int), .int .u64 (ub.n : Int), .int .i64 ub.r, .string (str ux)]] W fun e W' => e = .returned (.bool false) ∧ Below W.heap.size W W' from fun W => (hasBallot_any ⟨k, us, ub, ux⟩ W).mono fun e W' ⟨h1, h2⟩ => ⟨by rw [h1]; simp; omega, h2⟩)
    have HK := Lib.hid hk
    clear hk
    have y0 := (blk_cell S1.out.kp 0).trans (show _ = some (.int .u64 (k : Int)) from rfl)
    go_wp2_with fail
    refine (Uint_any none [] 0 0 k rfl (by have := HU.out.1.k3; simp only at this; omega) (by decide) _ (HasA.nil _ _ _)).mono ?_
    rintro e W2 hg
    obtain ⟨g2, L2, c2, rfl, s2⟩ := S1.out.next hg
    have S2 := Lib.hid s2
    clear s2 hg y0 S1
    have y0 := (blk_cell S2.out.kp 0).trans (show _ = some (.int .u64 (k : Int)) from rfl)
    have y1 := (blk_cell S2.out.kp 1).trans (show _ = some (.int .u64 (us : Int)) from rfl)
    have y2 := (blk_cell S2.out.kp 2).trans (show _ = some (.int .u64 (ub.n : Int)) from rfl)
    have y3 := (blk_cell S2.out.kp 3).trans (show _ = some (.int .i64 ub.r) from rfl)
    have y4 := (blk_cell S2.out.kp 4).trans (show _ = some (.string (str ux)) from rfl)
    go_wp2_with fail
    refine (HS.out _).mono ?_
    rintro e W3 ⟨rfl, b3⟩
    have S3 := Lib.hid (S2.out.grew b3)
    clear b3 y0 y1 y2 y3 y4 S2
    have y1 := (blk_cell S3.out.kp 1).trans (show _ = some (.int .u64 (us : Int)) from rfl)
    go_wp2_with fail
    refine (Uint_any _ _ _ _ us S3.out.len HU.out.1.s (by have := vb_len10 (n := k) (by have := HU.out.1.k3; simp only at this; omega); simp only [List.nil_append]; omega) _ S3.out.has).mono ?_
    rintro e W4 hg
    obtain ⟨g4, L4, c4, rfl, s4⟩ := S3.out.next hg
    have S4 := Lib.hid s4
    clear s4 hg y1 S3
    have y0 := (blk_cell S4.out.kp 0).trans (show _ = some (.int .u64 (k : Int)) from rfl)
    have y1 := (blk_cell S4.out.kp 1).trans (show _ = some (.int .u64 (us : Int)) from rfl)
    have y2 := (blk_cell S4.out.kp 2).trans (show _ = some (.int .u64 (ub.n : Int)) from rfl)
    have y3 := (blk_cell S4.out.kp 3).trans (show _ = some (.int .i64 ub.r) from rfl)
    have y4 := (blk_cell S4.out.kp 4).trans (show _ = some (.string (str ux)) from rfl)
    go_wp2_with fail
    refine (HT.out _).mono ?_
    rintro e W5 ⟨rfl, b5⟩
    have S5 := Lib.hid (S4.out.grew b5)
    clear b5 y0 y1 y2 y3 y4 S4
    have y0 := (blk_cell S5.out.kp 0).trans (show _ = some (.int .u64 (k : Int)) from rfl)
    have y1 := (blk_cell S5.out.kp 1).trans (show _ = some (.int .u64 (us : Int)) from rfl)
    have y2 := (blk_cell S5.out.kp 2).trans (show _ = some (.int .u64 (ub.n : Int)) from rfl)
    have y3 := (blk_cell S5.out.kp 3).trans (show _ = some (.int .i64 ub.r) from rfl)
    have y4 := (blk_cell S5.out.kp 4).trans (show _ = some (.string (str ux)) from rfl)
    go_wp2_with fail
    refine (HS.out _).mono ?_
    rintro e W6 ⟨rfl, b6⟩
    have S6 := Lib.hid (S5.out.grew b6)
    clear b6 y0 y1 y2 y3 y4 S5
    have y4 := (blk_cell S6.out.kp 4).trans (show _ = some (.string (str ux)) from rfl)
    go_wp2_with fail
    refine (putT _ _ _ _ ux _ S6.out.len (by have := vb_len10 (n := k) (by have := HU.out.1.k3; simp only at this; omega); have := vb_len10 (n := us) HU.out.1.s; simp only [List.nil_append, List.length_append] at *; omega) HU.out.1.x S6.out.has).mono ?_
    rintro e W7 hg
    obtain ⟨g7, L7, c7, rfl, s7⟩ := S6.out.next hg
    have S7 := Lib.hid s7
    clear s7 hg y4 S6
    go_wp2
    go_ret
    refine ⟨_, _, _, rfl, ?_, S7.out.below⟩
    have ho := S7.out.own
    simp only [List.nil_append, List.append_assoc] at ho
    have hb : bytesUM ⟨k, us, ub, ux⟩ = vb k ++ (vb us ++ (vb ux.length ++ ux)) := by
      have := HK.out
      simp [bytesUM, show k = 3 by omega]
    rw [hb]
    simpa using ho
end Go.Proofs.YtdiihaeelcbjbaaGreatDoor

-- SbG
namespace Go.Proofs.YtdiihaeelcbjbaaGreatDoor
open Go.RowKit

theorem lssTi (t : TypeId) (k : IntKind) (w : World) {x y : Int} (h : x < y) : (binOp .lss t (.int k x) (.int k y)).run Tryz.prog w = .ok (.bool true) w := by simp [go_sem, h]
theorem lssFi (t : TypeId) (k : IntKind) (w : World) {x y : Int} (h : ¬ x < y) : (binOp .lss t (.int k x) (.int k y)).run Tryz.prog w = .ok (.bool false) w := by simp [go_sem, h]
theorem geqTi (t : TypeId) (k : IntKind) (w : World) {x y : Int} (h : y ≤ x) : (binOp .geq t (.int k x) (.int k y)).run Tryz.prog w = .ok (.bool true) w := by simp [go_sem, h]
theorem geqFi (t : TypeId) (k : IntKind) (w : World) {x y : Int} (h : ¬ y ≤ x) : (binOp .geq t (.int k x) (.int k y)).run Tryz.prog w = .ok (.bool false) w := by simp [go_sem, h]
theorem leqNd (t : TypeId) (k : IntKind) (w : World) (x y : Nat) {b : Bool} (h : b = decide (x ≤ y)) : (binOp .leq t (.int k (x : Int)) (.int k (y : Int))).run Tryz.prog w = .ok (.bool b) w := by
  subst h
  by_cases h : x ≤ y
  · have h1 : (x : Int) ≤ y := by omega
    simp [go_sem, h, h1]
  · have h1 : ¬ (x : Int) ≤ y := by omega
    simp [go_sem, h, h1]
theorem fdU (w : World) (p i : Nat) (hi : i = 1 ∨ i = 2) : (Instr.fieldAt 91 (.pointer (some ⟨p, 0, none⟩)) i).run Tryz.prog w = .ok (.pointer (some ⟨p, i, none⟩)) w := by
  rcases hi with rfl | rfl <;> simp [go_sem]
theorem fdS (w : World) (p i j : Nat) (hi : (i = 0 ∧ j = 0) ∨ (i = 1 ∧ j = 1) ∨ (i = 2 ∧ j = 3)) : (Instr.fieldAt 89 (.pointer (some ⟨p, 0, none⟩)) i).run Tryz.prog w = .ok (.pointer (some ⟨p, j, none⟩)) w := by
  rcases hi with ⟨rfl, rfl⟩ | ⟨rfl, rfl⟩ | ⟨rfl, rfl⟩ <;> simp [go_sem]
theorem fdBr (w : World) (p o : Nat) : (Instr.fieldAt 25 (.pointer (some ⟨p, o, none⟩)) 1).run Tryz.prog w = .ok (.pointer (some ⟨p, o + 1, none⟩)) w := by simp [go_sem]
theorem ldInt (w : World) (p : Addr) (v : Value) (h : w.cell? p = some v) : (Instr.loadAt 3 (.pointer (some p))).run Tryz.prog w = .ok v w := by simp [go_sem, h]
theorem ldU6 (w : World) (p : Addr) (v : Value) (h : w.cell? p = some v) : (Instr.loadAt 23 (.pointer (some p))).run Tryz.prog w = .ok v w := by simp [go_sem, h]
theorem ldLg (w : World) (p : Addr) (v : Value) (h : w.cell? p = some v) : (Instr.loadAt 84 (.pointer (some p))).run Tryz.prog w = .ok v w := by simp [go_sem, h]
theorem ldBl (w : World) (p o : Nat) (x y : Value) (h0 : w.cell? ⟨p, o, none⟩ = some x) (h1 : w.cell? ⟨p, o + 1, none⟩ = some y) : (Instr.loadAt 25 (.pointer (some ⟨p, o, none⟩))).run Tryz.prog w = .ok (.agg #[x, y]) w := by simp [go_sem, h0, h1]
theorem ldUp (w : World) (p : Nat) (x0 x1 x2 x3 x4 : Value) (h0 : w.cell? ⟨p, 0, none⟩ = some x0) (h1 : w.cell? ⟨p, 1, none⟩ = some x1) (h2 : w.cell? ⟨p, 2, none⟩ = some x2) (h3 : w.cell? ⟨p, 3, none⟩ = some x3) (h4 : w.cell? ⟨p, 4, none⟩ = some x4) : (Instr.loadAt 91 (.pointer (some ⟨p, 0, none⟩))).run Tryz.prog w = .ok (.agg #[x0, x1, x2, x3, x4]) w := by
  simp [go_sem, h0, h1, h2, h3, h4]
noncomputable def opsSj0 : List Oper := opsOf Tryz.f44 1
set_option maxRecDepth 100000 in
set_option maxHeartbeats 4000000 in
theorem judge_b0 (B p k us : Nat) (ub _sp : BA) (ux : List UInt8) (_t : Bool)  (a : Act) (w : World) (Q : Exit → Act → World → Prop) (hN : a.tmps.size = 39) (h0 : a.tmps.getD 0 undef = .pointer (some ⟨B, 0, none⟩)) (h3 : a.tmps.getD 3 undef = .pointer (some ⟨p, 0, none⟩)) (lp : p < w.heap.size) (_lB : B < w.heap.size) (x0 : w.cell? ⟨p, 0, none⟩ = some (.int .u64 (k : Int))) (x1 : w.cell? ⟨p, 1, none⟩ = some (.int .u64 (us : Int))) (x2 : w.cell? ⟨p, 2, none⟩ = some (.int .u64 (ub.n : Int))) (x3 : w.cell? ⟨p, 3, none⟩ = some (.int .i64 ub.r)) (x4 : w.cell? ⟨p, 4, none⟩ = some (.string (str ux))) (hH : ∀ w', Calls Tryz.prog 72 #[.agg #[.int .u64 (k : Int), .int .u64 (us : Int), .int .u64 (ub.n : Int), .int .i64 ub.r, .string (str ux)]] w' fun e W' => e = .returned (.bool false) ∧ Grew w' W') (hQ : ∀ (w' : World), Grew w w' → Q .normal (puts [(5, .agg #[.int .u64 (k : Int), .int .u64 (us : Int), .int .u64 (ub.n : Int), .int .i64 ub.r, .string (str ux)]), (6, .bool false), (7, .bool false), (8, undef), (9, undef), (10, undef), (11, undef), (12, undef), (13, undef), (14, undef), (15, undef), (16, undef), (17, undef), (18, undef), (19, undef), (20, undef), (21, undef), (22, undef), (23, undef), (24, undef), (25, undef), (26, undef), (27, .bool false)] a) w')
    : (Code.region 1 opsSj0.toArray true).wp Tryz.prog Q a w := by
  refine region_v 39 opsSj0 [(0, .pointer (some ⟨B, 0, none⟩)), (3, .pointer (some ⟨p, 0, none⟩))] [1] [.eq (.agg #[.int .u64 (k : Int), .int .u64 (us : Int), .int .u64 (ub.n : Int), .int .i64 ub.r, .string (str ux)]), .eq (.bool false), .eq (.bool false), .eq (undef), .eq (undef), .eq (undef), .eq (undef), .eq (undef), .eq (undef), .eq (undef), .eq (undef), .eq (undef), .eq (undef), .eq (undef), .eq (undef), .eq (undef), .eq (undef), .eq (undef), .eq (undef), .eq (undef), .eq (undef), .eq (undef), .eq (.bool false)] Grew Grew.refl Grew.trans follows (by kernel_rfl) (by kernel_rfl) hN ⟨h0, h3, trivial⟩ rfl trivial ?_ ?_ ?_
  · intro _ w' hR _
    exact ⟨fun _ => ob_load (ldUp _ _ _ _ _ _ _ ((Below.cell hR.undraw (p := ⟨p, 0, none⟩) lp).trans x0) ((Below.cell hR.undraw (p := ⟨p, 1, none⟩) lp).trans x1) ((Below.cell hR.undraw (p := ⟨p, 2, none⟩) lp).trans x2) ((Below.cell hR.undraw (p := ⟨p, 3, none⟩) lp).trans x3) ((Below.cell hR.undraw (p := ⟨p, 4, none⟩) lp).trans x4)), trivial, fun _ => rfl, fun _ => rfl, fun _ => rfl, fun _ => rfl, fun _ => rfl, fun _ => rfl, fun _ => ⟨rfl, rfl⟩, fun _ => ⟨rfl, rfl⟩, fun _ => ⟨rfl, rfl⟩, fun _ => ⟨rfl, rfl⟩, fun _ => rfl, fun _ => rfl, fun _ => ⟨rfl, rfl⟩, fun _ => ⟨rfl, rfl⟩, fun _ => ⟨rfl, rfl⟩, fun _ => ⟨rfl, rfl⟩, fun _ => ⟨rfl, rfl⟩, fun _ => ⟨rfl, rfl⟩, fun _ => ⟨rfl, rfl⟩, fun _ => rfl, fun _ => ob_pick rfl rfl, trivial⟩
  · refine ⟨?_, trivial⟩
    · rintro o _ ho hd a' w' hF hR hp
      have hio := (nthO_eq _ _).symm.trans ho
      cases ho
      cases hd
      have q0 : a'.tmps.getD 5 undef = .agg #[.int .u64 (k : Int), .int .u64 (us : Int), .int .u64 (ub.n : Int), .int .i64 ub.r, .string (str ux)] := hp 0 _ 5 rfl rfl rfl
      refine step_callD hio rfl rfl (enters_of Tryz.func72 (by kernel_rfl) rfl) (show Array.map a'.eval #[.tmp 5] = _ from by simp only [List.map_toArray, List.map_cons, List.map_nil, Act.eval, q0]) ((hH w').mono ?_)
      rintro e w'' ⟨rfl, hb⟩
      exact ⟨_, rfl, _, rfl, rfl, hb⟩
  · intro _ w' hR _
    exact hQ  w'  hR.undraw
noncomputable def opsSj1 : List Oper := opsOf Tryz.f44 1
set_option maxRecDepth 100000 in
set_option maxHeartbeats 4000000 in
theorem judge_b1 (B p k us : Nat) (ub _sp : BA) (ux : List UInt8) (_t : Bool)  (a : Act) (w : World) (Q : Exit → Act → World → Prop) (hN : a.tmps.size = 39) (h0 : a.tmps.getD 0 undef = .pointer (some ⟨B, 0, none⟩)) (h3 : a.tmps.getD 3 undef = .pointer (some ⟨p, 0, none⟩)) (lp : p < w.heap.size) (_lB : B < w.heap.size) (x0 : w.cell? ⟨p, 0, none⟩ = some (.int .u64 (k : Int))) (x1 : w.cell? ⟨p, 1, none⟩ = some (.int .u64 (us : Int))) (x2 : w.cell? ⟨p, 2, none⟩ = some (.int .u64 (ub.n : Int))) (x3 : w.cell? ⟨p, 3, none⟩ = some (.int .i64 ub.r)) (x4 : w.cell? ⟨p, 4, none⟩ = some (.string (str ux))) (hH : ∀ w', Calls Tryz.prog 72 #[.agg #[.int .u64 (k : Int), .int .u64 (us : Int), .int .u64 (ub.n : Int), .int .i64 ub.r, .string (str ux)]] w' fun e W' => e = .returned (.bool true) ∧ Grew w' W') (hr : ub.r < 0) (hQ : ∀ (w' : World), Grew w w' → Q .normal (puts [(5, .agg #[.int .u64 (k : Int), .int .u64 (us : Int), .int .u64 (ub.n : Int), .int .i64 ub.r, .string (str ux)]), (6, .bool true), (7, .bool true), (8, .pointer (some ⟨p, 2, none⟩)), (9, .pointer (some ⟨p, 2 + 1, none⟩)), (10, .int .i64 ub.r), (11, .bool true), (12, .bool true), (13, undef), (14, undef), (15, undef), (16, undef), (17, .bool true), (18, .bool true), (19, undef), (20, undef), (21, undef), (22, undef), (23, undef), (24, undef), (25, undef), (26, .bool true), (27, .bool true)] a) w')
    : (Code.region 1 opsSj1.toArray true).wp Tryz.prog Q a w := by
  refine region_v 39 opsSj1 [(0, .pointer (some ⟨B, 0, none⟩)), (3, .pointer (some ⟨p, 0, none⟩))] [1] [.eq (.agg #[.int .u64 (k : Int), .int .u64 (us : Int), .int .u64 (ub.n : Int), .int .i64 ub.r, .string (str ux)]), .eq (.bool true), .eq (.bool true), .eq (.pointer (some ⟨p, 2, none⟩)), .eq (.pointer (some ⟨p, 2 + 1, none⟩)), .eq (.int .i64 ub.r), .eq (.bool true), .eq (.bool true), .eq (undef), .eq (undef), .eq (undef), .eq (undef), .eq (.bool true), .eq (.bool true), .eq (undef), .eq (undef), .eq (undef), .eq (undef), .eq (undef), .eq (undef), .eq (undef), .eq (.bool true), .eq (.bool true)] Grew Grew.refl Grew.trans follows (by kernel_rfl) (by kernel_rfl) hN ⟨h0, h3, trivial⟩ rfl trivial ?_ ?_ ?_
  · intro _ w' hR _
    exact ⟨fun _ => ob_load (ldUp _ _ _ _ _ _ _ ((Below.cell hR.undraw (p := ⟨p, 0, none⟩) lp).trans x0) ((Below.cell hR.undraw (p := ⟨p, 1, none⟩) lp).trans x1) ((Below.cell hR.undraw (p := ⟨p, 2, none⟩) lp).trans x2) ((Below.cell hR.undraw (p := ⟨p, 3, none⟩) lp).trans x3) ((Below.cell hR.undraw (p := ⟨p, 4, none⟩) lp).trans x4)), trivial, fun _ => rfl, fun _ => ob_fld (fdU _ _ _ (.inr rfl)), fun _ => ob_fld (fdBr _ _ _), fun _ => ob_load (ldInt _ _ _ ((Below.cell hR.undraw (p := ⟨p, 3, none⟩) lp).trans x3)), fun _ => ob_bin (guard_int _ _ _ _ _ _ _ _ _) (lssTi _ _ _ hr), fun _ => rfl, fun _ => rfl, fun _ => rfl, fun _ => rfl, fun _ => rfl, fun _ => ob_pick rfl rfl, fun _ => rfl, fun _ => rfl, fun _ => rfl, fun _ => rfl, fun _ => rfl, fun _ => rfl, fun _ => rfl, fun _ => rfl, fun _ => ob_pick rfl rfl, fun _ => ob_pick rfl rfl, trivial⟩
  · refine ⟨?_, trivial⟩
    · rintro o _ ho hd a' w' hF hR hp
      have hio := (nthO_eq _ _).symm.trans ho
      cases ho
      cases hd
      have q0 : a'.tmps.getD 5 undef = .agg #[.int .u64 (k : Int), .int .u64 (us : Int), .int .u64 (ub.n : Int), .int .i64 ub.r, .string (str ux)] := hp 0 _ 5 rfl rfl rfl
      refine step_callD hio rfl rfl (enters_of Tryz.func72 (by kernel_rfl) rfl) (show Array.map a'.eval #[.tmp 5] = _ from by simp only [List.map_toArray, List.map_cons, List.map_nil, Act.eval, q0]) ((hH w').mono ?_)
      rintro e w'' ⟨rfl, hb⟩
      exact ⟨_, rfl, _, rfl, rfl, hb⟩
  · intro _ w' hR _
    exact hQ  w'  hR.undraw
noncomputable def opsSj2 : List Oper := opsOf Tryz.f44 1
set_option maxRecDepth 100000 in
set_option maxHeartbeats 4000000 in
theorem judge_b2 (B p k us : Nat) (ub _sp : BA) (ux : List UInt8) (_t : Bool)  (a : Act) (w : World) (Q : Exit → Act → World → Prop) (hN : a.tmps.size = 39) (h0 : a.tmps.getD 0 undef = .pointer (some ⟨B, 0, none⟩)) (h3 : a.tmps.getD 3 undef = .pointer (some ⟨p, 0, none⟩)) (lp : p < w.heap.size) (_lB : B < w.heap.size) (x0 : w.cell? ⟨p, 0, none⟩ = some (.int .u64 (k : Int))) (x1 : w.cell? ⟨p, 1, none⟩ = some (.int .u64 (us : Int))) (x2 : w.cell? ⟨p, 2, none⟩ = some (.int .u64 (ub.n : Int))) (x3 : w.cell? ⟨p, 3, none⟩ = some (.int .i64 ub.r)) (x4 : w.cell? ⟨p, 4, none⟩ = some (.string (str ux))) (hH : ∀ w', Calls Tryz.prog 72 #[.agg #[.int .u64 (k : Int), .int .u64 (us : Int), .int .u64 (ub.n : Int), .int .i64 ub.r, .string (str ux)]] w' fun e W' => e = .returned (.bool true) ∧ Grew w' W') (hr : ¬ ub.r < 0) (hg : 7 ≤ ub.r) (hQ : ∀ (w' : World), Grew w w' → Q .normal (puts [(5, .agg #[.int .u64 (k : Int), .int .u64 (us : Int), .int .u64 (ub.n : Int), .int .i64 ub.r, .string (str ux)]), (6, .bool true), (7, .bool true), (8, .pointer (some ⟨p, 2, none⟩)), (9, .pointer (some ⟨p, 2 + 1, none⟩)), (10, .int .i64 ub.r), (11, .bool false), (12, .bool false), (13, .pointer (some ⟨p, 2, none⟩)), (14, .pointer (some ⟨p, 2 + 1, none⟩)), (15, .int .i64 ub.r), (16, .bool true), (17, .bool true), (18, .bool true), (19, undef), (20, undef), (21, undef), (22, undef), (23, undef), (24, undef), (25, undef), (26, .bool true), (27, .bool true)] a) w')
    : (Code.region 1 opsSj2.toArray true).wp Tryz.prog Q a w := by
  refine region_v 39 opsSj2 [(0, .pointer (some ⟨B, 0, none⟩)), (3, .pointer (some ⟨p, 0, none⟩))] [1] [.eq (.agg #[.int .u64 (k : Int), .int .u64 (us : Int), .int .u64 (ub.n : Int), .int .i64 ub.r, .string (str ux)]), .eq (.bool true), .eq (.bool true), .eq (.pointer (some ⟨p, 2, none⟩)), .eq (.pointer (some ⟨p, 2 + 1, none⟩)), .eq (.int .i64 ub.r), .eq (.bool false), .eq (.bool false), .eq (.pointer (some ⟨p, 2, none⟩)), .eq (.pointer (some ⟨p, 2 + 1, none⟩)), .eq (.int .i64 ub.r), .eq (.bool true), .eq (.bool true), .eq (.bool true), .eq (undef), .eq (undef), .eq (undef), .eq (undef), .eq (undef), .eq (undef), .eq (undef), .eq (.bool true), .eq (.bool true)] Grew Grew.refl Grew.trans follows (by kernel_rfl) (by kernel_rfl) hN ⟨h0, h3, trivial⟩ rfl trivial ?_ ?_ ?_
  · intro _ w' hR _
    exact ⟨fun _ => ob_load (ldUp _ _ _ _ _ _ _ ((Below.cell hR.undraw (p := ⟨p, 0, none⟩) lp).trans x0) ((Below.cell hR.undraw (p := ⟨p, 1, none⟩) lp).trans x1) ((Below.cell hR.undraw (p := ⟨p, 2, none⟩) lp).trans x2) ((Below.cell hR.undraw (p := ⟨p, 3, none⟩) lp).trans x3) ((Below.cell hR.undraw (p := ⟨p, 4, none⟩) lp).trans x4)), trivial, fun _ => rfl, fun _ => ob_fld (fdU _ _ _ (.inr rfl)), fun _ => ob_fld (fdBr _ _ _), fun _ => ob_load (ldInt _ _ _ ((Below.cell hR.undraw (p := ⟨p, 3, none⟩) lp).trans x3)), fun _ => ob_bin (guard_int _ _ _ _ _ _ _ _ _) (lssFi _ _ _ hr), fun _ => rfl, fun _ => ob_fld (fdU _ _ _ (.inr rfl)), fun _ => ob_fld (fdBr _ _ _), fun _ => ob_load (ldInt _ _ _ ((Below.cell hR.undraw (p := ⟨p, 3, none⟩) lp).trans x3)), fun _ => ob_bin (guard_int _ _ _ _ _ _ _ _ _) (geqTi _ _ _ hg), fun _ => ob_pick rfl rfl, fun _ => rfl, fun _ => rfl, fun _ => rfl, fun _ => rfl, fun _ => rfl, fun _ => rfl, fun _ => rfl, fun _ => rfl, fun _ => ob_pick rfl rfl, fun _ => ob_pick rfl rfl, trivial⟩
  · refine ⟨?_, trivial⟩
    · rintro o _ ho hd a' w' hF hR hp
      have hio := (nthO_eq _ _).symm.trans ho
      cases ho
      cases hd
      have q0 : a'.tmps.getD 5 undef = .agg #[.int .u64 (k : Int), .int .u64 (us : Int), .int .u64 (ub.n : Int), .int .i64 ub.r, .string (str ux)] := hp 0 _ 5 rfl rfl rfl
      refine step_callD hio rfl rfl (enters_of Tryz.func72 (by kernel_rfl) rfl) (show Array.map a'.eval #[.tmp 5] = _ from by simp only [List.map_toArray, List.map_cons, List.map_nil, Act.eval, q0]) ((hH w').mono ?_)
      rintro e w'' ⟨rfl, hb⟩
      exact ⟨_, rfl, _, rfl, rfl, hb⟩
  · intro _ w' hR _
    exact hQ  w'  hR.undraw
noncomputable def opsSj3 : List Oper := opsOf Tryz.f44 1
set_option maxRecDepth 100000 in
set_option maxHeartbeats 4000000 in
theorem judge_b3 (B p k us : Nat) (ub sp : BA) (ux : List UInt8) (t : Bool)  (a : Act) (w : World) (Q : Exit → Act → World → Prop) (hN : a.tmps.size = 39) (h0 : a.tmps.getD 0 undef = .pointer (some ⟨B, 0, none⟩)) (h3 : a.tmps.getD 3 undef = .pointer (some ⟨p, 0, none⟩)) (lp : p < w.heap.size) (lB : B < w.heap.size) (x0 : w.cell? ⟨p, 0, none⟩ = some (.int .u64 (k : Int))) (x1 : w.cell? ⟨p, 1, none⟩ = some (.int .u64 (us : Int))) (x2 : w.cell? ⟨p, 2, none⟩ = some (.int .u64 (ub.n : Int))) (x3 : w.cell? ⟨p, 3, none⟩ = some (.int .i64 ub.r)) (x4 : w.cell? ⟨p, 4, none⟩ = some (.string (str ux))) (hH : ∀ w', Calls Tryz.prog 72 #[.agg #[.int .u64 (k : Int), .int .u64 (us : Int), .int .u64 (ub.n : Int), .int .i64 ub.r, .string (str ux)]] w' fun e W' => e = .returned (.bool true) ∧ Grew w' W') (hr : ¬ ub.r < 0) (hg : ¬ 7 ≤ ub.r) (y1 : w.cell? ⟨B, 1, none⟩ = some (.int .u64 (sp.n : Int))) (y2 : w.cell? ⟨B, 2, none⟩ = some (.int .i64 sp.r)) (hL : ∀ w', Calls Tryz.prog 77 #[.agg #[.int .u64 (ub.n : Int), .int .i64 ub.r], .agg #[.int .u64 (sp.n : Int), .int .i64 sp.r]] w' fun e W' => e = .returned (.bool t) ∧ Grew w' W') (hQ : ∀ (w' : World), Grew w w' → Q .normal (puts [(5, .agg #[.int .u64 (k : Int), .int .u64 (us : Int), .int .u64 (ub.n : Int), .int .i64 ub.r, .string (str ux)]), (6, .bool true), (7, .bool true), (8, .pointer (some ⟨p, 2, none⟩)), (9, .pointer (some ⟨p, 2 + 1, none⟩)), (10, .int .i64 ub.r), (11, .bool false), (12, .bool false), (13, .pointer (some ⟨p, 2, none⟩)), (14, .pointer (some ⟨p, 2 + 1, none⟩)), (15, .int .i64 ub.r), (16, .bool false), (17, .bool false), (18, .bool false), (19, .pointer (some ⟨p, 2, none⟩)), (20, .agg #[.int .u64 (ub.n : Int), .int .i64 ub.r]), (21, .pointer (some ⟨B, 0, none⟩)), (22, .pointer (some ⟨B, 0, none⟩)), (23, .pointer (some ⟨B, 1, none⟩)), (24, .agg #[.int .u64 (sp.n : Int), .int .i64 sp.r]), (25, .bool t), (26, .bool t), (27, .bool t)] a) w')
    : (Code.region 1 opsSj3.toArray true).wp Tryz.prog Q a w := by
  refine region_v 39 opsSj3 [(0, .pointer (some ⟨B, 0, none⟩)), (3, .pointer (some ⟨p, 0, none⟩))] [1, 20] [.eq (.agg #[.int .u64 (k : Int), .int .u64 (us : Int), .int .u64 (ub.n : Int), .int .i64 ub.r, .string (str ux)]), .eq (.bool true), .eq (.bool true), .eq (.pointer (some ⟨p, 2, none⟩)), .eq (.pointer (some ⟨p, 2 + 1, none⟩)), .eq (.int .i64 ub.r), .eq (.bool false), .eq (.bool false), .eq (.pointer (some ⟨p, 2, none⟩)), .eq (.pointer (some ⟨p, 2 + 1, none⟩)), .eq (.int .i64 ub.r), .eq (.bool false), .eq (.bool false), .eq (.bool false), .eq (.pointer (some ⟨p, 2, none⟩)), .eq (.agg #[.int .u64 (ub.n : Int), .int .i64 ub.r]), .eq (.pointer (some ⟨B, 0, none⟩)), .eq (.pointer (some ⟨B, 0, none⟩)), .eq (.pointer (some ⟨B, 1, none⟩)), .eq (.agg #[.int .u64 (sp.n : Int), .int .i64 sp.r]), .eq (.bool t), .eq (.bool t), .eq (.bool t)] Grew Grew.refl Grew.trans follows (by kernel_rfl) (by kernel_rfl) hN ⟨h0, h3, trivial⟩ rfl trivial ?_ ?_ ?_
  · intro _ w' hR _
    exact ⟨fun _ => ob_load (ldUp _ _ _ _ _ _ _ ((Below.cell hR.undraw (p := ⟨p, 0, none⟩) lp).trans x0) ((Below.cell hR.undraw (p := ⟨p, 1, none⟩) lp).trans x1) ((Below.cell hR.undraw (p := ⟨p, 2, none⟩) lp).trans x2) ((Below.cell hR.undraw (p := ⟨p, 3, none⟩) lp).trans x3) ((Below.cell hR.undraw (p := ⟨p, 4, none⟩) lp).trans x4)), trivial, fun _ => rfl, fun _ => ob_fld (fdU _ _ _ (.inr rfl)), fun _ => ob_fld (fdBr _ _ _), fun _ => ob_load (ldInt _ _ _ ((Below.cell hR.undraw (p := ⟨p, 3, none⟩) lp).trans x3)), fun _ => ob_bin (guard_int _ _ _ _ _ _ _ _ _) (lssFi _ _ _ hr), fun _ => rfl, fun _ => ob_fld (fdU _ _ _ (.inr rfl)), fun _ => ob_fld (fdBr _ _ _), fun _ => ob_load (ldInt _ _ _ ((Below.cell hR.undraw (p := ⟨p, 3, none⟩) lp).trans x3)), fun _ => ob_bin (guard_int _ _ _ _ _ _ _ _ _) (geqFi _ _ _ hg), fun _ => ob_pick rfl rfl, fun _ => rfl, fun _ => ob_fld (fdU _ _ _ (.inr rfl)), fun _ => ob_load (ldBl _ _ _ _ _ ((Below.cell hR.undraw (p := ⟨p, 2, none⟩) lp).trans x2) ((Below.cell hR.undraw (p := ⟨p, 3, none⟩) lp).trans x3)), fun _ => rfl, fun _ => rfl, fun _ => ob_fld (fdS _ _ _ _ (.inr (.inl ⟨rfl, rfl⟩))), fun _ => ob_load (ldBl _ _ _ _ _ ((Below.cell hR.undraw (p := ⟨B, 1, none⟩) lB).trans y1) ((Below.cell hR.undraw (p := ⟨B, 2, none⟩) lB).trans y2)), trivial, fun _ => ob_pick rfl rfl, fun _ => ob_pick rfl rfl, trivial⟩
  · refine ⟨?_, ?_, trivial⟩
    · rintro o _ ho hd a' w' hF hR hp
      have hio := (nthO_eq _ _).symm.trans ho
      cases ho
      cases hd
      have q0 : a'.tmps.getD 5 undef = .agg #[.int .u64 (k : Int), .int .u64 (us : Int), .int .u64 (ub.n : Int), .int .i64 ub.r, .string (str ux)] := hp 0 _ 5 rfl rfl rfl
      refine step_callD hio rfl rfl (enters_of Tryz.func72 (by kernel_rfl) rfl) (show Array.map a'.eval #[.tmp 5] = _ from by simp only [List.map_toArray, List.map_cons, List.map_nil, Act.eval, q0]) ((hH w').mono ?_)
      rintro e w'' ⟨rfl, hb⟩
      exact ⟨_, rfl, _, rfl, rfl, hb⟩
    · rintro o _ ho hd a' w' hF hR hp
      have hio := (nthO_eq _ _).symm.trans ho
      cases ho
      cases hd
      have q13 : a'.tmps.getD 18 undef = .bool false := hp 13 _ 18 rfl rfl rfl
      have q15 : a'.tmps.getD 20 undef = .agg #[.int .u64 (ub.n : Int), .int .i64 ub.r] := hp 15 _ 20 rfl rfl rfl
      have q19 : a'.tmps.getD 24 undef = .agg #[.int .u64 (sp.n : Int), .int .i64 sp.r] := hp 19 _ 24 rfl rfl rfl
      refine step_callD hio (wanted_on rfl (show opsSj3.toArray[13]? = some _ from rfl) rfl q13) rfl (enters_of Tryz.func77 (by kernel_rfl) rfl) (show Array.map a'.eval #[.tmp 20, .tmp 24] = _ from by simp only [List.map_toArray, List.map_cons, List.map_nil, Act.eval, q15, q19]) ((hL w').mono ?_)
      rintro e w'' ⟨rfl, hb⟩
      exact ⟨_, rfl, _, rfl, rfl, hb⟩
  · intro _ w' hR _
    exact hQ  w'  hR.undraw
noncomputable def opsSl0 : List Oper := opsOf Tryz.f44 3
set_option maxRecDepth 100000 in
set_option maxHeartbeats 4000000 in
theorem judge_s0 (B p k us _sb : Nat) (ub : BA) (ux : List UInt8) (_t : Bool)  (a : Act) (w : World) (Q : Exit → Act → World → Prop) (hN : a.tmps.size = 39) (h0 : a.tmps.getD 0 undef = .pointer (some ⟨B, 0, none⟩)) (h3 : a.tmps.getD 3 undef = .pointer (some ⟨p, 0, none⟩)) (lp : p < w.heap.size) (_lB : B < w.heap.size) (x0 : w.cell? ⟨p, 0, none⟩ = some (.int .u64 (k : Int))) (x1 : w.cell? ⟨p, 1, none⟩ = some (.int .u64 (us : Int))) (x2 : w.cell? ⟨p, 2, none⟩ = some (.int .u64 (ub.n : Int))) (x3 : w.cell? ⟨p, 3, none⟩ = some (.int .i64 ub.r)) (x4 : w.cell? ⟨p, 4, none⟩ = some (.string (str ux))) (hH : ∀ w', Calls Tryz.prog 71 #[.agg #[.int .u64 (k : Int), .int .u64 (us : Int), .int .u64 (ub.n : Int), .int .i64 ub.r, .string (str ux)]] w' fun e W' => e = .returned (.bool false) ∧ Grew w' W') (hQ : ∀ (w' : World), Grew w w' → Q .normal (puts [(28, .agg #[.int .u64 (k : Int), .int .u64 (us : Int), .int .u64 (ub.n : Int), .int .i64 ub.r, .string (str ux)]), (29, .bool false), (30, .bool false), (31, undef), (32, undef), (33, undef), (34, undef), (35, undef), (36, undef), (37, undef), (38, .bool false)] a) w')
    : (Code.region 3 opsSl0.toArray true).wp Tryz.prog Q a w := by
  refine region_v 39 opsSl0 [(0, .pointer (some ⟨B, 0, none⟩)), (3, .pointer (some ⟨p, 0, none⟩))] [1] [.eq (.agg #[.int .u64 (k : Int), .int .u64 (us : Int), .int .u64 (ub.n : Int), .int .i64 ub.r, .string (str ux)]), .eq (.bool false), .eq (.bool false), .eq (undef), .eq (undef), .eq (undef), .eq (undef), .eq (undef), .eq (undef), .eq (undef), .eq (.bool false)] Grew Grew.refl Grew.trans follows (by kernel_rfl) (by kernel_rfl) hN ⟨h0, h3, trivial⟩ rfl trivial ?_ ?_ ?_
  · intro _ w' hR _
    exact ⟨fun _ => ob_load (ldUp _ _ _ _ _ _ _ ((Below.cell hR.undraw (p := ⟨p, 0, none⟩) lp).trans x0) ((Below.cell hR.undraw (p := ⟨p, 1, none⟩) lp).trans x1) ((Below.cell hR.undraw (p := ⟨p, 2, none⟩) lp).trans x2) ((Below.cell hR.undraw (p := ⟨p, 3, none⟩) lp).trans x3) ((Below.cell hR.undraw (p := ⟨p, 4, none⟩) lp).trans x4)), trivial, fun _ => rfl, fun _ => rfl, fun _ => rfl, fun _ => rfl, fun _ => rfl, fun _ => rfl, fun _ => rfl, fun _ => rfl, fun _ => ob_pick rfl rfl, trivial⟩
  · refine ⟨?_, trivial⟩
    · rintro o _ ho hd a' w' hF hR hp
      have hio := (nthO_eq _ _).symm.trans ho
      cases ho
      cases hd
      have q0 : a'.tmps.getD 28 undef = .agg #[.int .u64 (k : Int), .int .u64 (us : Int), .int .u64 (ub.n : Int), .int .i64 ub.r, .string (str ux)] := hp 0 _ 28 rfl rfl rfl
      refine step_callD hio rfl rfl (enters_of Tryz.func71 (by kernel_rfl) rfl) (show Array.map a'.eval #[.tmp 28] = _ from by simp only [List.map_toArray, List.map_cons, List.map_nil, Act.eval, q0]) ((hH w').mono ?_)
      rintro e w'' ⟨rfl, hb⟩
      exact ⟨_, rfl, _, rfl, rfl, hb⟩
  · intro _ w' hR _
    exact hQ  w'  hR.undraw
noncomputable def opsSl1 : List Oper := opsOf Tryz.f44 3
set_option maxRecDepth 100000 in
set_option maxHeartbeats 4000000 in
theorem judge_s1 (B p k us sb : Nat) (ub : BA) (ux : List UInt8) (t : Bool)  (a : Act) (w : World) (Q : Exit → Act → World → Prop) (hN : a.tmps.size = 39) (h0 : a.tmps.getD 0 undef = .pointer (some ⟨B, 0, none⟩)) (h3 : a.tmps.getD 3 undef = .pointer (some ⟨p, 0, none⟩)) (lp : p < w.heap.size) (lB : B < w.heap.size) (x0 : w.cell? ⟨p, 0, none⟩ = some (.int .u64 (k : Int))) (x1 : w.cell? ⟨p, 1, none⟩ = some (.int .u64 (us : Int))) (x2 : w.cell? ⟨p, 2, none⟩ = some (.int .u64 (ub.n : Int))) (x3 : w.cell? ⟨p, 3, none⟩ = some (.int .i64 ub.r)) (x4 : w.cell? ⟨p, 4, none⟩ = some (.string (str ux))) (hH : ∀ w', Calls Tryz.prog 71 #[.agg #[.int .u64 (k : Int), .int .u64 (us : Int), .int .u64 (ub.n : Int), .int .i64 ub.r, .string (str ux)]] w' fun e W' => e = .returned (.bool true) ∧ Grew w' W') (y3 : w.cell? ⟨B, 3, none⟩ = some (.int .u64 (sb : Int))) (ht : t = decide (us ≤ sb)) (hQ : ∀ (w' : World), Grew w w' → Q .normal (puts [(28, .agg #[.int .u64 (k : Int), .int .u64 (us : Int), .int .u64 (ub.n : Int), .int .i64 ub.r, .string (str ux)]), (29, .bool true), (30, .bool true), (31, .pointer (some ⟨p, 1, none⟩)), (32, .int .u64 (us : Int)), (33, .pointer (some ⟨B, 0, none⟩)), (34, .pointer (some ⟨B, 0, none⟩)), (35, .pointer (some ⟨B, 3, none⟩)), (36, .int .u64 (sb : Int)), (37, .bool t), (38, .bool t)] a) w')
    : (Code.region 3 opsSl1.toArray true).wp Tryz.prog Q a w := by
  refine region_v 39 opsSl1 [(0, .pointer (some ⟨B, 0, none⟩)), (3, .pointer (some ⟨p, 0, none⟩))] [1] [.eq (.agg #[.int .u64 (k : Int), .int .u64 (us : Int), .int .u64 (ub.n : Int), .int .i64 ub.r, .string (str ux)]), .eq (.bool true), .eq (.bool true), .eq (.pointer (some ⟨p, 1, none⟩)), .eq (.int .u64 (us : Int)), .eq (.pointer (some ⟨B, 0, none⟩)), .eq (.pointer (some ⟨B, 0, none⟩)), .eq (.pointer (some ⟨B, 3, none⟩)), .eq (.int .u64 (sb : Int)), .eq (.bool t), .eq (.bool t)] Grew Grew.refl Grew.trans follows (by kernel_rfl) (by kernel_rfl) hN ⟨h0, h3, trivial⟩ rfl trivial ?_ ?_ ?_
  · intro _ w' hR _
    exact ⟨fun _ => ob_load (ldUp _ _ _ _ _ _ _ ((Below.cell hR.undraw (p := ⟨p, 0, none⟩) lp).trans x0) ((Below.cell hR.undraw (p := ⟨p, 1, none⟩) lp).trans x1) ((Below.cell hR.undraw (p := ⟨p, 2, none⟩) lp).trans x2) ((Below.cell hR.undraw (p := ⟨p, 3, none⟩) lp).trans x3) ((Below.cell hR.undraw (p := ⟨p, 4, none⟩) lp).trans x4)), trivial, fun _ => rfl, fun _ => ob_fld (fdU _ _ _ (.inl rfl)), fun _ => ob_load (ldU6 _ _ _ ((Below.cell hR.undraw (p := ⟨p, 1, none⟩) lp).trans x1)), fun _ => rfl, fun _ => rfl, fun _ => ob_fld (fdS _ _ _ _ (.inr (.inr ⟨rfl, rfl⟩))), fun _ => ob_load (ldU6 _ _ _ ((Below.cell hR.undraw (p := ⟨B, 3, none⟩) lB).trans y3)), fun _ => ob_bin (guard_int _ _ _ _ _ _ _ _ _) (leqNd _ _ _ _ _ ht), fun _ => ob_pick rfl rfl, trivial⟩
  · refine ⟨?_, trivial⟩
    · rintro o _ ho hd a' w' hF hR hp
      have hio := (nthO_eq _ _).symm.trans ho
      cases ho
      cases hd
      have q0 : a'.tmps.getD 28 undef = .agg #[.int .u64 (k : Int), .int .u64 (us : Int), .int .u64 (ub.n : Int), .int .i64 ub.r, .string (str ux)] := hp 0 _ 28 rfl rfl rfl
      refine step_callD hio rfl rfl (enters_of Tryz.func71 (by kernel_rfl) rfl) (show Array.map a'.eval #[.tmp 28] = _ from by simp only [List.map_toArray, List.map_cons, List.map_nil, Act.eval, q0]) ((hH w').mono ?_)
      rintro e w'' ⟨rfl, hb⟩
      exact ⟨_, rfl, _, rfl, rfl, hb⟩
  · intro _ w' hR _
    exact hQ  w'  hR.undraw
noncomputable def opsSt : List Oper := opsOf Tryz.f47 6
def wsSt (_B _p _k _us _Lg _er : Nat) (_ub : BA) (_ux X : List UInt8) (PW : World → Prop) (W0 : World) (L : Nat → Bool) (u : Value) (w : World) : Prop := (L 6 = false → Below W0.heap.size W0 w) ∧ (L 5 = true → L 6 = false → ∃ g M c, u = .slice (some ⟨g, 0, none⟩) M c ∧ w.ownsRow W0.heap.size 5 1 (.slice (some ⟨g, 0, none⟩) M c) M (X.map enc)) ∧ (L 6 = true → PW w)
theorem wsSt_same (B p k us Lg er : Nat) (ub : BA) (ux X : List UInt8) (PW : World → Prop) {W0 : World} {L : Nat → Bool} {i : Nat} {u : Value} {w : World} (k5 : ((5 : Nat) == i) = false) (k6 : ((6 : Nat) == i) = false) (h : wsSt B p k us Lg er ub ux X PW W0 L u w) : wsSt B p k us Lg er ub ux X PW W0 (fun j => L j || j == i) u w := by
  unfold wsSt at h ⊢
  simp only [beq_noF k5, beq_noF k6]
  exact h
set_option maxRecDepth 100000 in
set_option maxHeartbeats 4000000 in
theorem set_r (B p k us Lg er : Nat) (ub : BA) (ux X : List UInt8) (PW : World → Prop) (a : Act) (w : World) (Q : Exit → Act → World → Prop) (hN : a.tmps.size = 28) (h0 : a.tmps.getD 0 undef = .pointer (some ⟨B, 0, none⟩)) (h3 : a.tmps.getD 3 undef = .pointer (some ⟨p, 0, none⟩)) (lp : p < w.drew.heap.size) (lB : B < w.drew.heap.size) (x0 : w.drew.cell? ⟨p, 0, none⟩ = some (.int .u64 (k : Int))) (x1 : w.drew.cell? ⟨p, 1, none⟩ = some (.int .u64 (us : Int))) (x2 : w.drew.cell? ⟨p, 2, none⟩ = some (.int .u64 (ub.n : Int))) (x3 : w.drew.cell? ⟨p, 3, none⟩ = some (.int .i64 ub.r)) (x4 : w.drew.cell? ⟨p, 4, none⟩ = some (.string (str ux))) (z0 : w.drew.cell? ⟨B, 0, none⟩ = some (.pointer (some ⟨Lg, 0, none⟩))) (hRc : ∀ w', Calls Tryz.prog 80 #[.agg #[.int .u64 (k : Int), .int .u64 (us : Int), .int .u64 (ub.n : Int), .int .i64 ub.r, .string (str ux)]] w' (Gives w' X)) (hAp : ∀ w', Below w.drew.heap.size w.drew w' → ∀ g M c, w'.ownsRow w.drew.heap.size 5 1 (.slice (some ⟨g, 0, none⟩) M c) M (X.map enc) → Calls Tryz.prog 79 #[.pointer (some ⟨Lg, 0, none⟩), .slice (some ⟨g, 0, none⟩) M c] w' fun e W' => e = .returned (.int .i64 (er : Int)) ∧ PW W') (hW0 : wsSt B p k us Lg er ub ux X PW w.drew (fun _ => false) undef w.drew) (hQ : ∀ (u : Value) w', wsSt B p k us Lg er ub ux X PW w.drew (fun _ => true) u w' → Q .normal (puts [(15, .pointer (some ⟨B, 0, none⟩)), (16, .pointer (some ⟨B, 0, none⟩)), (17, .pointer (some ⟨B, 0, none⟩)), (18, .pointer (some ⟨Lg, 0, none⟩)), (19, .agg #[.int .u64 (k : Int), .int .u64 (us : Int), .int .u64 (ub.n : Int), .int .i64 ub.r, .string (str ux)]), (20, u), (21, .int .i64 (er : Int)), (6, .int .i64 (er : Int))] a) w')
    : (Code.region 6 opsSt.toArray true).wp Tryz.prog Q a w := by
  refine region_c (U := Value) 28 opsSt [(0, .pointer (some ⟨B, 0, none⟩)), (3, .pointer (some ⟨p, 0, none⟩))] [5, 6] (fun u => [.pointer (some ⟨B, 0, none⟩), .pointer (some ⟨B, 0, none⟩), .pointer (some ⟨B, 0, none⟩), .pointer (some ⟨Lg, 0, none⟩), .agg #[.int .u64 (k : Int), .int .u64 (us : Int), .int .u64 (ub.n : Int), .int .i64 ub.r, .string (str ux)], u, .int .i64 (er : Int), .int .i64 (er : Int)]) (wsSt B p k us Lg er ub ux X PW w.drew) undef follows (by kernel_rfl) hN ⟨h0, h3, trivial⟩ (fun _ => Nat.le_of_ble_eq_true rfl) hW0 (fun _ _ _ _ hi h => wsSt_same _ _ _ _ _ _ _ _ _ _ (key_ne hi rfl) (key_ne hi rfl) h) ?_ ?_ ?_
  · intro L u w' hW hcl
    have nL : ∀ i, reachB opsSt 30 6 i = true → L i = false → L 6 = false := fun i h n => not_yetF hcl 30 h n
    exact ⟨fun _ => rfl, fun _ => rfl, fun _ => ob_fld (fdS _ _ _ _ (.inl ⟨rfl, rfl⟩)), fun n => ob_load (ldLg _ _ _ ((Below.cell (hW.1 ((nL 3 (by kernel_rfl) n))) (p := ⟨B, 0, none⟩) lB).trans z0)), fun n => ob_load (ldUp _ _ _ _ _ _ _ ((Below.cell (hW.1 ((nL 4 (by kernel_rfl) n))) (p := ⟨p, 0, none⟩) lp).trans x0) ((Below.cell (hW.1 ((nL 4 (by kernel_rfl) n))) (p := ⟨p, 1, none⟩) lp).trans x1) ((Below.cell (hW.1 ((nL 4 (by kernel_rfl) n))) (p := ⟨p, 2, none⟩) lp).trans x2) ((Below.cell (hW.1 ((nL 4 (by kernel_rfl) n))) (p := ⟨p, 3, none⟩) lp).trans x3) ((Below.cell (hW.1 ((nL 4 (by kernel_rfl) n))) (p := ⟨p, 4, none⟩) lp).trans x4)), trivial, trivial, fun _ => rfl, trivial⟩
  · refine ⟨?_, ?_, trivial⟩
    · rintro o ho L u a' w' hLi hpre hcl hR hW fin
      have hio := (nthO_eq _ _).symm.trans ho
      cases ho
      have q4 : a'.tmps.getD 19 undef = .agg #[.int .u64 (k : Int), .int .u64 (us : Int), .int .u64 (ub.n : Int), .int .i64 ub.r, .string (str ux)] := hR.val 4 _ 19 rfl rfl (edge_ofF hpre 4 rfl)
      obtain ⟨w1, w2, w3⟩ := hW
      have n6 : L 6 = false := not_yetF hcl 30 (show reachB opsSt 30 6 5 = true by kernel_rfl) hLi
      refine step_callD hio rfl rfl (enters_of Tryz.func80 (by kernel_rfl) rfl) (show Array.map a'.eval #[.tmp 19] = _ from by simp only [List.map_toArray, List.map_cons, List.map_nil, Act.eval, q4]) ((hRc w').mono ?_)
      rintro e w'' ⟨g, M, c, rfl, ho, hb⟩
      have b1 := w1 n6
      have hW2 : wsSt B p k us Lg er ub ux X PW w.drew (fun j => L j || j == 5) (.slice (some ⟨g, 0, none⟩) M c) w'' := by
        refine ⟨fun _ => b1.trans (Below.mono hb b1.size), fun _ _ => ⟨g, M, c, rfl, own_base ho b1.size⟩, fun h => ?_⟩
        have h' : L 6 = true := by simpa using h
        rw [n6] at h'
        cases h'
      exact ⟨_, rfl, (fin ((.slice (some ⟨g, 0, none⟩) M c)) _ _ (fun _ => rfl) (fun j hj => by
        rcases j with _ | _ | _ | _ | _ | _ | _ | _ | j <;> first | rfl | exact Bool.noConfusion (hj.symm.trans hLi) | exact Bool.noConfusion (hj.symm.trans (not_yetF hcl 30 (by kernel_rfl) hLi))) (hW2))⟩
    · rintro o ho L u a' w' hLi hpre hcl hR hW fin
      have hio := (nthO_eq _ _).symm.trans ho
      cases ho
      have q3 : a'.tmps.getD 18 undef = .pointer (some ⟨Lg, 0, none⟩) := hR.val 3 _ 18 rfl rfl (edge_ofF hpre 3 rfl)
      have q5 : a'.tmps.getD 20 undef = u := hR.val 5 _ 20 rfl rfl (edge_ofF hpre 5 rfl)
      obtain ⟨w1, w2, w3⟩ := hW
      have b1 := w1 hLi
      obtain ⟨g, M, c, e5, ho⟩ := w2 (edge_ofF hpre 5 rfl) hLi
      have q5' := q5.trans e5
      refine step_callD hio rfl rfl (enters_of Tryz.func79 (by kernel_rfl) rfl) (show Array.map a'.eval #[.tmp 18, .tmp 20] = _ from by simp only [List.map_toArray, List.map_cons, List.map_nil, Act.eval, q3, q5']) ((hAp w' b1 g M c ho).mono ?_)
      rintro e w'' ⟨rfl, hb⟩
      have hW2 : wsSt B p k us Lg er ub ux X PW w.drew (fun j => L j || j == 6) u w'' := by
        refine ⟨fun h => ?_, fun _ h => ?_, fun _ => hb⟩
        · simp at h
        · simp at h
      exact ⟨_, rfl, (fin (u) (.int .i64 (er : Int)) _ (fun _ => rfl) (fun _ _ => rfl) (hW2))⟩
  · intro L u w' hl hW
    refine hQ u w' ?_
    unfold wsSt at hW ⊢
    simp only [hl 5 (Nat.le_of_ble_eq_true rfl), hl 6 (Nat.le_of_ble_eq_true rfl)] at hW ⊢
    exact hW
end Go.Proofs.YtdiihaeelcbjbaaGreatDoor

-- SbH
namespace Go.Proofs.YtdiihaeelcbjbaaGreatDoor
open Go.RowKit Go.Maps Go.WideMaps

set_option maxRecDepth 100000 in
set_option maxHeartbeats 4000000 in
theorem judge_c {w : World} {B m L : Nat} {s : SM} (h : SkC w B m L s) (hp : s.p.ok) (u : UM) (hb : u.b.ok) : Calls Tryz.prog 44 #[.pointer (some ⟨B, 0, none⟩), valU u] w fun e W' => e = .returned (.int .i64 (s.may u : Int)) ∧ Below w.heap.size w W' := by
  obtain ⟨e, he⟩ : ∃ e, e = s.may u := ⟨_, rfl⟩
  rw [← he]
  unfold SM.may at he
  obtain ⟨k, us, ub, ux⟩ := u
  simp only at he hb
  have HS := fun W => hasSlot_any ⟨k, us, ub, ux⟩ W
  have HB := fun W => hasBallot_any ⟨k, us, ub, ux⟩ W
  have HL := Lib.hid (fun W => less_any ub s.p hb hp W)
  simp only [valU, cellsU] at HS HB ⊢
  have H := Lib.hid h
  have HE := Lib.hid he
  have HH := Lib.hid (And.intro HS HB)
  clear h hp hb he HS HB
  go_enter Tryz.func44, Tryz.ntmps44
  go_upto_region 1 with (fail)
  obtain ⟨W0, hW0⟩ : ∃ W0, W0 = w.alloc (.cells #[.int .u64 (k : Int), .int .u64 (us : Int), .int .u64 (ub.n : Int), .int .i64 ub.r, .string (str ux)] 91) := ⟨_, rfl⟩
  rw [← hW0]
  obtain ⟨b0, k0, _⟩ := boxU (u := ⟨k, us, ub, ux⟩) hW0
  obtain ⟨p, hp⟩ : ∃ p, p = w.heap.size := ⟨_, rfl⟩
  have h1 := Lib.hid (H.out.below b0)
  have HB0 := Lib.hid b0
  rw [← hp] at k0 ⊢
  have K0 := Lib.hid k0
  have lp := (Array.getElem?_eq_some_iff.1 k0).1
  have X0 := Lib.hid (show W0.cell? ⟨p, 0, none⟩ = some (.int .u64 (k : Int)) from blk_cell k0 0)
  have X1 := Lib.hid (show W0.cell? ⟨p, 1, none⟩ = some (.int .u64 (us : Int)) from blk_cell k0 1)
  have X2 := Lib.hid (show W0.cell? ⟨p, 2, none⟩ = some (.int .u64 (ub.n : Int)) from blk_cell k0 2)
  have X3 := Lib.hid (show W0.cell? ⟨p, 3, none⟩ = some (.int .i64 ub.r) from blk_cell k0 3)
  have X4 := Lib.hid (show W0.cell? ⟨p, 4, none⟩ = some (.string (str ux)) from blk_cell k0 4)
  have HLP := Lib.hid lp
  clear hW0 b0 k0 lp hp
  have hN (b : Bool) (hb : decide (k ≠ 3) = b) : ∀ W, Calls Tryz.prog 72 #[.agg #[.int .u64 (k : Int), .int .u64 (us : Int), .int .u64 (ub.n : Int), .int .i64 ub.r, .string (str ux)]] W fun e W' => e = .returned (.bool b) ∧ Grew W W' := fun W => by rw [← hb]; exact HH.out.2 W
  have hM (b : Bool) (hb : decide (k ≠ 1) = b) : ∀ W, Calls Tryz.prog 71 #[.agg #[.int .u64 (k : Int), .int .u64 (us : Int), .int .u64 (ub.n : Int), .int .i64 ub.r, .string (str ux)]] W fun e W' => e = .returned (.bool b) ∧ Grew W W' := fun W => by rw [← hb]; exact HH.out.1 W
  have HN := Lib.hid hN
  have HM := Lib.hid hM
  clear hN hM HH
  by_cases hc : k ≠ 3 ∧ (¬ ub.fit ∨ ltB ub s.p)
  · have he : e = 1 := by rw [HE.out, if_pos hc]
    have HEE := Lib.hid he
    clear he HE
    by_cases hr : ub.r < 0
    · refine judge_b1 B p k us ub s.p ux false _ W0 _ rfl rfl rfl HLP.out h1.out.lt X0.out X1.out X2.out X3.out X4.out (HN.out true (by simp [hc.1])) hr ?_
      intro W2 hg
      have H2 := Lib.hid (HB0.out.trans (Below.mono hg HB0.out.size))
      simp only [puts, List.foldl_cons, List.foldl_nil, Act.put, List.setIfInBounds_toArray, List.set_cons_succ, List.set_cons_zero]
      clear hg hr hc
      go_wp2
      go_ret
      rw [HEE.out]
      exact ⟨rfl, H2.out⟩
    · by_cases h7 : 7 ≤ ub.r
      · refine judge_b2 B p k us ub s.p ux false _ W0 _ rfl rfl rfl HLP.out h1.out.lt X0.out X1.out X2.out X3.out X4.out (HN.out true (by simp [hc.1])) hr h7 ?_
        intro W2 hg
        have H2 := Lib.hid (HB0.out.trans (Below.mono hg HB0.out.size))
        simp only [puts, List.foldl_cons, List.foldl_nil, Act.put, List.setIfInBounds_toArray, List.set_cons_succ, List.set_cons_zero]
        clear hg hr hc h7
        go_wp2
        go_ret
        rw [HEE.out]
        exact ⟨rfl, H2.out⟩
      · have hlt : ltB ub s.p := hc.2.resolve_left (by unfold BA.fit; omega)
        refine judge_b3 B p k us ub s.p ux true _ W0 _ rfl rfl rfl HLP.out h1.out.lt X0.out X1.out X2.out X3.out X4.out (HN.out true (by simp [hc.1])) hr h7 (h1.out.at 1) (h1.out.at 2) (fun W => by have := HL.out W; rw [decide_eq_true hlt] at this; exact this) ?_
        intro W2 hg
        have H2 := Lib.hid (HB0.out.trans (Below.mono hg HB0.out.size))
        simp only [puts, List.foldl_cons, List.foldl_nil, Act.put, List.setIfInBounds_toArray, List.set_cons_succ, List.set_cons_zero]
        clear hg hr hc h7 hlt
        go_wp2
        go_ret
        rw [HEE.out]
        exact ⟨rfl, H2.out⟩
  · have HEE := Lib.hid (show e = if k ≠ 1 ∧ us ≤ s.base then 31 else 0 by rw [HE.out, if_neg hc])
    clear HE
    by_cases h3 : k = 3
    · refine judge_b0 B p k us ub s.p ux false _ W0 _ rfl rfl rfl HLP.out h1.out.lt X0.out X1.out X2.out X3.out X4.out (HN.out false (by simp [h3])) ?_
      intro W2 hg
      have H2 := Lib.hid (And.intro hg (HB0.out.trans (Below.mono hg HB0.out.size)))
      simp only [puts, List.foldl_cons, List.foldl_nil, Act.put, List.setIfInBounds_toArray, List.set_cons_succ, List.set_cons_zero]
      have K2 := (hg.block p HLP.out).trans K0.out
      have h2 := h1.out.below hg
      clear hg hc
      go_upto_region 3 with (fail)
      obtain ⟨t, ht⟩ : ∃ t, t = decide (us ≤ s.base) := ⟨_, rfl⟩
      refine judge_s1 B p k us s.base ub ux t _ W2 _ rfl rfl rfl (Array.getElem?_eq_some_iff.1 K2).1 h2.lt (blk_cell K2 0) (blk_cell K2 1) (blk_cell K2 2) (blk_cell K2 3) (blk_cell K2 4) (HM.out true (by simp [h3])) (h2.at 3) ht ?_
      intro W3 hg
      have H3 := Lib.hid (H2.out.2.trans (Below.mono hg H2.out.2.size))
      have HT := Lib.hid (And.intro ht h3)
      simp only [puts, List.foldl_cons, List.foldl_nil, Act.put, List.setIfInBounds_toArray, List.set_cons_succ, List.set_cons_zero]
      clear hg K2 h2 ht h3
      cases t with
      | true =>
        go_wp2
        go_ret
        rw [HEE.out, if_pos ⟨by have := HT.out.2; omega, of_decide_eq_true HT.out.1.symm⟩]
        exact ⟨rfl, H3.out⟩
      | false =>
        go_wp2
        go_ret
        rw [HEE.out, if_neg (fun h => of_decide_eq_false HT.out.1.symm h.2)]
        exact ⟨rfl, H3.out⟩
    · have hr : ¬ ub.r < 0 := fun h => hc ⟨h3, .inl (by unfold BA.fit; omega)⟩
      have h7 : ¬ 7 ≤ ub.r := fun h => hc ⟨h3, .inl (by unfold BA.fit; omega)⟩
      have hlt : ¬ ltB ub s.p := fun h => hc ⟨h3, .inr h⟩
      refine judge_b3 B p k us ub s.p ux false _ W0 _ rfl rfl rfl HLP.out h1.out.lt X0.out X1.out X2.out X3.out X4.out (HN.out true (by simp [h3])) hr h7 (h1.out.at 1) (h1.out.at 2) (fun W => by have := HL.out W; rw [decide_eq_false hlt] at this; exact this) ?_
      intro W2 hg
      have H2 := Lib.hid (And.intro hg (HB0.out.trans (Below.mono hg HB0.out.size)))
      simp only [puts, List.foldl_cons, List.foldl_nil, Act.put, List.setIfInBounds_toArray, List.set_cons_succ, List.set_cons_zero]
      have K2 := (hg.block p HLP.out).trans K0.out
      have h2 := h1.out.below hg
      clear hg hc hr h7 hlt
      go_upto_region 3 with (fail)
      by_cases hk1 : k = 1
      · refine judge_s0 B p k us s.base ub ux false _ W2 _ rfl rfl rfl (Array.getElem?_eq_some_iff.1 K2).1 h2.lt (blk_cell K2 0) (blk_cell K2 1) (blk_cell K2 2) (blk_cell K2 3) (blk_cell K2 4) (HM.out false (by simp [hk1])) ?_
        intro W3 hg
        have H3 := Lib.hid (H2.out.2.trans (Below.mono hg H2.out.2.size))
        have HT := Lib.hid hk1
        simp only [puts, List.foldl_cons, List.foldl_nil, Act.put, List.setIfInBounds_toArray, List.set_cons_succ, List.set_cons_zero]
        clear hg K2 h2 hk1 h3
        go_wp2
        go_ret
        rw [HEE.out, if_neg (fun h => h.1 HT.out)]
        exact ⟨rfl, H3.out⟩
      · obtain ⟨t, ht⟩ : ∃ t, t = decide (us ≤ s.base) := ⟨_, rfl⟩
        refine judge_s1 B p k us s.base ub ux t _ W2 _ rfl rfl rfl (Array.getElem?_eq_some_iff.1 K2).1 h2.lt (blk_cell K2 0) (blk_cell K2 1) (blk_cell K2 2) (blk_cell K2 3) (blk_cell K2 4) (HM.out true (by simp [hk1])) (h2.at 3) ht ?_
        intro W3 hg
        have H3 := Lib.hid (H2.out.2.trans (Below.mono hg H2.out.2.size))
        have HT := Lib.hid (And.intro ht hk1)
        simp only [puts, List.foldl_cons, List.foldl_nil, Act.put, List.setIfInBounds_toArray, List.set_cons_succ, List.set_cons_zero]
        clear hg K2 h2 ht h3 hk1
        cases t with
        | true =>
          go_wp2
          go_ret
          rw [HEE.out, if_pos ⟨HT.out.2, of_decide_eq_true HT.out.1.symm⟩]
          exact ⟨rfl, H3.out⟩
        | false =>
          go_wp2
          go_ret
          rw [HEE.out, if_neg (fun h => of_decide_eq_false HT.out.1.symm h.2)]
          exact ⟨rfl, H3.out⟩
end Go.Proofs.YtdiihaeelcbjbaaGreatDoor
