/- The walk of wakes, over a pool of the program. -/
import Derived.Test.YtmpaefndkobgnaaPoolSpec
import Derived.Laws.StructEq
namespace Go.Proofs.Ytmpaefndkobgnaa
open Go.RowKit

theorem eqHG : Try.prog.eqGuardType Try.prog.depth 29 = false := by kernel_rfl
theorem noHeld : Try.prog.stoodInHeld 29 = false := by kernel_rfl
theorem eqH (x0 x1 y0 y1 : Int) (w : World) : (Op.equalIn 10000 29 (.agg #[.int .i64 x0, .int .u32 x1]) (.agg #[.int .i64 y0, .int .u32 y1])).run Try.prog w = .ok (x0 == y0 && x1 == y1) w := by
  have h : Sem.run Try.prog program w = .ok Try.prog w := rfl
  have u3 := Try.underlying3
  have a3 := Try.isAgg3
  have z3 := Try.sizeOf3
  have u4 := Try.underlying27
  have a4 := Try.isAgg27
  have z4 := Try.sizeOf27
  rw [show (10000 : Nat) = 9999 + 1 from rfl, Op.equalIn]
  simp only [Sem.run_bind, run_underlying Try.underlying29, Result.andThen_ok, h, noHeld]
  simp only [List.forIn_toArray, List.forIn_cons, List.forIn_nil]
  go_simp
  by_cases h0 : x0 = y0 <;> by_cases h1 : x1 = y1 <;> simp [h0, h1]

set_option maxHeartbeats 4000000 in
theorem wakes4 (P : PoolK) (w : World) : Calls Try.prog 11 #[] w fun e W' => e = .returned (.bool true) ∧ Below w.heap.size w W' := by
  go_enter Try.func11, Try.ntmps11
  go_wp2_with fail
  refine (Live.new P 2 4 w (by omega) (by omega) (by omega) (by omega)).mono ?_
  rintro e W1 ⟨R, rfl, hl1⟩
  have L1 := Lib.hid hl1
  clear hl1
  go_wp2_with fail
  refine (L1.out.get_one (i := 0) (N' := [1]) rfl).mono ?_
  rintro e W2 ⟨he, hl2, -⟩
  obtain rfl : e = .returned (.tuple #[.agg #[.int .i64 0, .int .u32 1], .int .i64 0]) := he
  have L2 := Lib.hid (hl2.alloc (.cells #[.int .i64 0, .int .u32 1] 29))
  have K2 := Lib.hid (World.alloc_heap_new W2 (.cells #[.int .i64 0, .int .u32 1] 29))
  clear hl2 L1
  go_wp2_with fail
  refine (L2.out.get_one (i := 1) (N' := []) rfl).mono ?_
  rintro e W3 ⟨he, hl3, hm3⟩
  obtain rfl : e = .returned (.tuple #[.agg #[.int .i64 1, .int .u32 1], .int .i64 0]) := he
  have L3 := Lib.hid (hl3.alloc (.cells #[.int .i64 1, .int .u32 1] 29))
  have K3 := Lib.hid (World.alloc_heap_new W3 (.cells #[.int .i64 1, .int .u32 1] 29))
  have K32 := Lib.hid ((Below.heap_alloc W3 (.cells #[.int .i64 1, .int .u32 1] 29) W2.heap.size ((hl3.mine W2.heap.size (.inr rfl)).2)).trans (hm3.blk K2.out (.inr rfl)))
  clear hl3 L2 K2 hm3
  go_wp2_with fail
  refine (L3.out.get_none rfl).mono ?_
  rintro e W4 ⟨he, hl4, hm4⟩
  obtain rfl : e = .returned (.tuple #[.agg #[.int .i64 0, .int .u32 0], .int .i64 30]) := he
  have L4 := Lib.hid (hl4.alloc (.cells #[.int .i64 0, .int .u32 0] 29))
  have K42 := Lib.hid ((Below.heap_alloc W4 (.cells #[.int .i64 0, .int .u32 0] 29) W2.heap.size ((hl4.mine W2.heap.size (.inl (.inr rfl))).2)).trans (hm4.blk K32.out (.inl (.inr rfl))))
  have K43 := Lib.hid ((Below.heap_alloc W4 (.cells #[.int .i64 0, .int .u32 0] 29) W3.heap.size ((hl4.mine W3.heap.size (.inr rfl)).2)).trans (hm4.blk K3.out (.inr rfl)))
  clear hl4 L3 K32 K3 hm4
  have c0 := blk_cell K42.out 0
  have c1 := blk_cell K42.out 1
  simp at c0 c1
  go_wp2_with fail
  refine (L4.out.back 0 1 ⟨by omega, by omega⟩ (by omega) (fun _ => by decide)).mono ?_
  rintro e W5 ⟨he, hl5, hm5⟩
  obtain rfl : e = .returned (.int .i64 0) := he
  have L5 := Lib.hid hl5
  have K52 := Lib.hid (hm5.blk K42.out (.inl (.inl (.inr rfl))))
  have K53 := Lib.hid (hm5.blk K43.out (.inl (.inr rfl)))
  clear hl5 hm5 L4 K42 K43 c0 c1
  have c0 := blk_cell K52.out 0
  have c1 := blk_cell K52.out 1
  simp at c0 c1
  go_wp2_with fail
  refine (L5.out.back 0 1 ⟨by omega, by omega⟩ (by omega) (fun h => absurd h (by decide))).mono ?_
  rintro e W6 ⟨he, hl6, hm6⟩
  obtain rfl : e = .returned (.int .i64 15) := he
  have L6 := Lib.hid hl6
  have K62 := Lib.hid (hm6.blk K52.out (.inl (.inl (.inr rfl))))
  have K63 := Lib.hid (hm6.blk K53.out (.inl (.inr rfl)))
  clear hl6 hm6 L5 K52 K53 c0 c1
  go_wp2_with fail
  refine (L6.out.get_one (i := 0) (N' := []) rfl).mono ?_
  rintro e W7 ⟨he, hl7, hm7⟩
  obtain rfl : e = .returned (.tuple #[.agg #[.int .i64 0, .int .u32 2], .int .i64 0]) := he
  have L7 := Lib.hid (hl7.alloc (.cells #[.int .i64 0, .int .u32 2] 29))
  have K74 := World.alloc_heap_new W7 (.cells #[.int .i64 0, .int .u32 2] 29)
  have K72 := (Below.heap_alloc W7 (.cells #[.int .i64 0, .int .u32 2] 29) W2.heap.size ((hl7.mine W2.heap.size (.inl (.inl (.inr rfl)))).2)).trans (hm7.blk K62.out (.inl (.inl (.inr rfl))))
  have K73 := (Below.heap_alloc W7 (.cells #[.int .i64 0, .int .u32 2] 29) W3.heap.size ((hl7.mine W3.heap.size (.inl (.inr rfl))).2)).trans (hm7.blk K63.out (.inl (.inr rfl)))
  have a0 := blk_cell K72 0
  have a1 := blk_cell K72 1
  have b0 := blk_cell K73 0
  have b1 := blk_cell K73 1
  have d0 := blk_cell K74 0
  have d1 := blk_cell K74 1
  simp at a0 a1 b0 b1 d0 d1
  have q1 := fun (x0 x1 y0 y1 : Int) (w : World) => eqH x0 x1 y0 y1 w
  have q2 := noHeld
  have q3 := eqHG
  clear hl7 hm7 L6 K62 K63 K74 K72 K73
  go_wp2_with fail
  refine (L7.out.free).mono ?_
  rintro e W9 ⟨he, hl9, -⟩
  obtain rfl : e = .returned (.int .i64 0) := he
  have L9 := Lib.hid hl9
  clear hl9
  go_wp2
  go_ret
  exact ⟨rfl, L9.out.below⟩
end Go.Proofs.Ytmpaefndkobgnaa
