/- The program's Uint: bytes of a number. -/
import Derived.Test.YtdiihaeelcbjbaaGreatDoorMBase
import Derived.Test.YtdiihaeelcbjbaaGreatDoorMMath
import Derived.Test.YtdiihaeelcbjbaaGreatDoorProg
import Derived.RangeFuncBox
import Derived.Shelf.Abstract
import Derived.Shelf.RegionOpen
import Derived.WalkKit
import Derived.OwnWalkIn
import Derived.TacticsInMore
import Derived.LoopNIn
import Derived.LoopIn
import Derived.Maps.AppendAt
import Derived.Lib.Hide
import Derived.Deep.RegionHeld3
import Derived.Lib.SliceRun
namespace Go.Proofs.YtdiihaeelcbjbaaGreatDoor
open Go.RowKit Go.Shelf

attribute [local go_sem] Oper.semAt_some
set_option maxRecDepth 100000 in
set_option maxHeartbeats 1000000 in
theorem form1_in (F : Fence) (n : Nat) (h6 : F.fn 132) (hro : F.round = none) (hn : 1 ≤ n) (l Bn : Nat) (m : Nat) (hm : m < 18446744073709551616) (J Jx : List UInt8 → World → Prop)
    (hY : ∀ pre x W, J pre W → pre.length < (vb m).length → YieldAt F (n - 1) Tryz.prog l #[enc x] W fun e W' =>
      (e = .returned (.bool true) ∧ J (pre ++ [x]) W' ∧ True) ∨ (e = .returned (.bool false) ∧ Jx (pre ++ [x]) W'))
    (W : World) (hBn : W.cell? ⟨Bn, 0, none⟩ = some (.int .u64 (m : Int))) (h0 : J [] W) :
    CallsIn F n Tryz.prog 132 #[.func (.yield l) #[] #[], .pointer (some ⟨Bn, 0, none⟩)] W fun e W' => (∃ v, e = .returned v) ∧
      ((∃ ys, ys = vb m ∧ J ys W') ∨ (∃ pre, pre <+: vb m ∧ Jx pre W')) := by
  refine callsIn_of_wp Tryz.func132 rfl h6 ?_ hro
  simp only [Tryz.ntmps132, List.size_toArray, List.length_cons, List.length_nil, Nat.reduceAdd, Nat.reduceSub, Array.replicate_succ, Array.replicate_zero, List.push_toArray, List.append_toArray, List.nil_append, List.cons_append]
  gi_wp2
  gi_loopw [3] (fun p wr => ∃ (pre : List UInt8) (r : Nat), p = .int .u64 (r : Int) ∧ r < 18446744073709551616 ∧ Hid (vb m = pre ++ vb r) ∧ J pre wr)
    (fun p _ => (intOf p).toNat)
  case atStart =>
    exact ⟨[], m, rfl, hm, rfl, h0⟩
  case round =>
    obtain ⟨pre, r, rfl, hr, hx, hJs⟩ := hrel
    by_cases hlt : r < 128
    · have hlt' : (r : Int) < 128 := by omega
      obtain ⟨fn, tmps, assign, body, hy, hR⟩ := hY pre (UInt8.ofNat r) wr hJs (by rw [hx.out, vb_lt hlt]; simp)
      rw [enc_ofNat (by omega)] at hy
      gi_wp2
      refine hR.mono ?_
      have hx' : vb m = pre ++ [UInt8.ofNat r] := by rw [hx.out, vb_lt hlt]
      rintro e W3 (⟨rfl, hJ3, _⟩ | ⟨rfl, hJx3⟩)
      · gi_wp2
        go_end0
        exact ⟨⟨_, rfl⟩, .inl ⟨pre ++ [UInt8.ofNat r], hx'.symm, hJ3⟩⟩
      · gi_wp2
        go_end0
        exact ⟨⟨_, rfl⟩, .inr ⟨pre ++ [UInt8.ofNat r], ⟨[], by simp [hx']⟩, hJx3⟩⟩
    · have hlt' : ¬ (r : Int) < 128 := by omega
      obtain ⟨fn, tmps, assign, body, hy, hR⟩ := hY pre (UInt8.ofNat (r % 128 + 128)) wr hJs (by rw [hx.out, vb_ge (by omega)]; simp)
      rw [← enc_hi r] at hy
      gi_wp2
      refine hR.mono ?_
      rintro e W3 (⟨rfl, hJ3, _⟩ | ⟨rfl, hJx3⟩)
      · gi_wp2
        have hd : (r : Int) / 128 = ((r / 128 : Nat) : Int) := by omega
        refine ⟨⟨pre ++ [UInt8.ofNat (r % 128 + 128)], r / 128, by rw [hd], by omega, ?_, hJ3⟩, by simp only [intOf]; omega⟩
        show vb m = _
        rw [hx.out, vb_ge (n := r) (by omega)]; simp
      · gi_wp2
        refine bodyPost_ret (results_none rfl _ _ _) rfl ?_
        exact ⟨⟨_, rfl⟩, .inr ⟨pre ++ [UInt8.ofNat (r % 128 + 128)], ⟨vb (r / 128), by rw [hx.out, vb_ge (n := r) (by omega)]; simp⟩, hJx3⟩⟩
theorem form1_stops (F : Fence) (n : Nat) (h6 : F.fn 132) (hro : F.round = none) (hn : 1 ≤ n) (Bn : Nat) (m : Nat) (hm : m < 18446744073709551616) (w : World) (hBn : Bn < w.heap.size)
    (hc : w.cell? ⟨Bn, 0, none⟩ = some (.int .u64 (m : Int))) :
    SeqStopsK F n Tryz.prog 132 #[.pointer (some ⟨Bn, 0, none⟩)] (fun x : UInt8 => #[enc x]) (fun _ _ => True) (fun ys => ys = vb m) (fun pre => pre <+: vb m) (vb m).length w := fun l J Jx W hW _ _ hY h0 =>
  form1_in F n h6 hro hn l Bn m hm J Jx hY W ((hW.cell (p := ⟨Bn, 0, none⟩) hBn).trans hc) h0
set_option maxHeartbeats 1000000 in
theorem form_in (F : Fence) (n : Nat) (h5 : F.fn 122) (hro : F.round = none) (m : Int) (w : World) :
    CallsIn F n Tryz.prog 122 #[.int .u64 m] w fun e w' => e = .returned (.func (.func 132) #[] #[.pointer (some ⟨w.heap.size, 0, none⟩)]) ∧ w' = w.alloc (.cells #[.int .u64 m] 23) := by
  refine callsIn_of_wp Tryz.func122 rfl h5 ?_ hro
  simp only [Tryz.ntmps122, List.size_toArray, List.length_cons, List.length_nil, Nat.reduceAdd, Nat.reduceSub, Array.replicate_succ, Array.replicate_zero, List.push_toArray, List.append_toArray, List.nil_append, List.cons_append]
  gi_wp2
  go_ret
  exact ⟨rfl, rfl⟩
set_option maxRecDepth 100000 in
set_option maxHeartbeats 2000000 in
theorem Uint_in (F : Fence) (n : Nat) (h3 : F.fn 101) (h4 : F.fn 122) (h5 : F.fn 132) (hro : F.round = none) (hn : 3 ≤ n) (A : Option Addr) (bs : List UInt8) (c m : Nat) (hm : m < 18446744073709551616) (hlen : bs.length ≤ 1000000) (w : World) (hA : HasA w w.heap.size A bs) :
    CallsIn F n Tryz.prog 101 #[.slice A bs.length c, .int .u64 (m : Int)] w fun e W' => ∃ g c', e = .returned (.slice (some ⟨g, 0, none⟩) (bs ++ vb m).length c') ∧ W'.ownsRow w.heap.size 5 1 (.slice (some ⟨g, 0, none⟩) (bs ++ vb m).length c') (bs ++ vb m).length ((bs ++ vb m).map enc) ∧ Below w.heap.size w W' := by
  have h1 : 1 ≤ n := by omega
  have hlen' : (bs.length : Int) ≤ 1000000 := by omega
  obtain ⟨i0, hi, hz0, hz1, hz2⟩ := info_parts info5
  refine callsIn_of_wp_marks Tryz.func101 rfl h3 ?_ hro
  simp only [Tryz.ntmps101, List.size_toArray, List.length_cons, List.length_nil, Nat.reduceAdd, Nat.reduceSub, Array.replicate_succ, Array.replicate_zero, List.push_toArray, List.append_toArray, List.nil_append, List.cons_append]
  gi_wp2_with (first
    | (gi_at_make; refine wpListIn_make_bytes rfl (.tmp 8) (.tmp 11) 39 rfl w.heap.size 5 i0 Tryz.underlying39 hi hz0 hz1 hz2 bs.length (bs.length + 10) _ rfl rfl (by omega) (by omega) (by omega) (Nat.le_refl _) ?_; intro w1 hown1 hg1; have hB1 : Below w.heap.size w w1 := (Below.refl _ _).grown hg1 (Nat.le_refl _) (fun k e => by cases e))
    | ((with_reducible refine wpListIn_copy_bytes rfl (.tmp 13) (.tmp 14) 39 rfl w.heap.size 5 Tryz.underlying39 size5 w.heap.size bs.length (bs.length + 10) (List.replicate bs.length 0) w.heap.size A c bs rfl rfl rfl (hown1.alloc _) ((hA.below hB1).alloc hB1.size _) ?_); intro w2 hown2 hg2)
    | (gi_at_call 122; refine (form_in F (n - 1) h4 hro _ _).mono ?_; rintro e w' ⟨rfl, rfl⟩))
  have hlt1 : w.heap.size < w1.heap.size := (hown1.lt w.heap.size rfl).2
  have bO : Boxed w2 w1.heap.size 39 (.slice (some ⟨w.heap.size, 0, none⟩) bs.length (bs.length + 10)) := (Boxed.new w1 39 _).kept hg2 (by simp; omega)
  have bN := Boxed.new w2 23 (.int .u64 (m : Int))
  have hB2 : Below w.heap.size w w2 := (hB1.alloc hB1.size _).grown hg2 (by simp; omega) (fun k e => by cases e; exact Nat.le_refl _)
  have hB3 : Below w.heap.size w (w2.alloc (.cells #[.int .u64 (m : Int)] 23)) := hB2.alloc hB2.size _
  have hs12 : w1.heap.size < w2.heap.size := bO.lt
  have hv10 := vb_len10 hm
  have H3 := Lib.hid hB3
  clear hg1 hg2 hown1
  refine wpIn_rangeFunc_ownG hro h1 (gf := 132) (lb := #[.pointer (some ⟨w2.heap.size, 0, none⟩)]) rfl h5 (enters_of Tryz.func132 (by kernel_rfl) rfl)
    (form1_stops F (n - 1) h5 hro (by omega) w2.heap.size m hm _ (by simp) bN.cell) (fun _ _ => trivial) (fun _ _ _ _ _ _ _ _ => trivial) (Below.refl _ _) (fun _ => rfl)
    (fun pre W => (∃ v, Boxed W w1.heap.size 39 v ∧ W.ownsRow w.heap.size 5 1 v (bs ++ pre).length ((bs ++ pre).map enc) ∧ True) ∧ Below w.heap.size w W)
    (fun _ _ _ => False)
    (OwnFrom.and (Own.from (holdsRow_own w.heap.size w1.heap.size 39 5 1 (fun pre => (bs ++ pre).length) (fun pre => (bs ++ pre).map enc) (fun _ _ => True)) _) (ownFrom_below (Nat.le_refl _) (by simp; omega)))
    (fun _ _ _ _ _ hs _ _ => hs)
    ⟨⟨_, bO.alloc _, by simpa using hown2.alloc _, trivial⟩, hB3⟩
    (fun x => { tmps := #[.slice A bs.length c, .int .u64 (m : Int), undef, undef, .slice none 0 0, .pointer (some ⟨w1.heap.size, 0, none⟩), .int .u8 (x.toNat : Int), .slice A bs.length c, .int .i64 (bs.length : Int), .slice A bs.length c, .int .i64 (bs.length : Int), .int .i64 ((bs.length : Int) + 10), .slice (some ⟨w.heap.size, 0, none⟩) bs.length (bs.length + 10), .slice (some ⟨w.heap.size, 0, none⟩) bs.length (bs.length + 10), .slice A bs.length c, .int .i64 (bs.length : Int), .int .u64 (m : Int), .func (.func 132) #[] #[.pointer (some ⟨w2.heap.size, 0, none⟩)], .int .u8 (x.toNat : Int), undef, undef, undef, undef, undef], defers := [] }) ?assign ?body ?done ?stop
  case assign =>
    intro l x W K hK
    gi_wp2
    exact hK
  case body =>
    rintro l pre x W ⟨⟨v, hv, hrow, _⟩, hB⟩ hlt
    have hc := hv.cell
    have hle : (bs ++ pre).length + 1 ≤ 2000000 := by simp; omega
    gi_wp2_with (gi_at_builtin; refine wpListIn_append_own _ rfl _ _ 39 rfl w.heap.size 5 i0 (.int .u8 0) 1 1 Tryz.underlying39 hi hz0 hz1 hz2 rfl (by decide) _ _ _ rfl (hrow.alloc _) ⟨W.heap.size, 0, none⟩ 1 1 [.int .u8 (x.toNat : Int)] rfl rfl (cell_one_new _ _ _) (by simp [Value.oneCell']) (by simp only [maxLen]; omega) (by omega) (by have := hB.size; simp; omega) ?_; intro v' w3 hown' hgrow _; obtain ⟨g', cap', rfl⟩ := ownsRow_succ hown'; obtain ⟨hv1, hv2, hr2, hk2, hb2⟩ := hv.appended (by decide) hrow hB.size (by omega) hown' hgrow; have hc1 := hv1.cell; have hf1 := hv1.frozen)
    simp only [List.length_append] at hv2 hr2 hk2 hb2
    have e1 : (bs ++ (pre ++ [x])).length = bs.length + pre.length + 1 := by simp; omega
    exact ⟨hk2.from _, trivial, ⟨_, hv2, by rw [e1]; simpa [enc] using hr2, trivial⟩, hB.trans hb2⟩
  case done =>
    rintro D ys W hD rfl ⟨⟨v, hv, hrow, _⟩, hB⟩ hK
    have hc := hv.cell
    gi_wp2
    refine ⟨by simp, .inl ⟨_, _, rfl, run_takeDeferred hK, ?_⟩⟩
    have hpos : 0 < (bs ++ vb m).length := by have := List.length_pos_iff.2 (vb_ne m); simp only [List.length_append]; omega
    obtain ⟨g, cap, rfl, _⟩ := hrow.form hpos
    exact ⟨_, results_tmp rfl _ _ _, g, cap, rfl, ownsRow_putObj hrow _ hK rfl, hB.trans (belowK_b (w := w) (Nat.le_refl _) W D _ _ (by simp at hD; omega) hK rfl rfl)⟩
  case stop =>
    rintro D c pre W _ _ h _
    exact h.elim
/-- varint.Uint. -/
theorem Uint_any (A : Option Addr) (bs : List UInt8) (L c m : Nat) (hL : L = bs.length) (hm : m < 18446744073709551616) (hlen : bs.length ≤ 1000000) (w : World) (hA : HasA w w.heap.size A bs) :
    Calls Tryz.prog 101 #[.slice A L c, .int .u64 (m : Int)] w (Gives w (bs ++ vb m)) := by
  subst hL
  exact ((callsIn_wide (n := 3)).1 (Uint_in Fence.wide 3 trivial trivial trivial rfl (by omega) A bs c m hm hlen w hA)).mono fun _ _ ⟨g, c', h⟩ => ⟨g, _, c', h⟩

end Go.Proofs.YtdiihaeelcbjbaaGreatDoor
