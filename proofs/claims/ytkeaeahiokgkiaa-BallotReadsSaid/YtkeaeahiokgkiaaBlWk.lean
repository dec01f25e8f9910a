/- Ballots that are known: wakes returns true. -/
import Derived.Test.YtkeaeahiokgkiaaBlWkR
namespace Go.Proofs.Ytkeaeahiokgkiaa
open Go.RowKit

set_option maxRecDepth 100000 in
set_option maxHeartbeats 2000000 in
theorem wakes14_any (w : World) : Calls Try.prog 8 #[] w fun e W' => e = .returned (.bool true) ∧ Below w.heap.size w W' := by
  go_enter Try.func8, Try.ntmps8
  go_wp2_with fail
  refine (next02 _).mono ?_
  rintro e W1 ⟨rfl, b1⟩
  go_upto_region 2 with (fail)
  obtain ⟨V1, hV1⟩ : ∃ V, V = W1.alloc (.cells #[.int .u64 1, .int .i64 2] 25) := ⟨_, rfl⟩
  rw [← hV1]
  obtain ⟨c1, k1, s1⟩ := boxBA hV1
  obtain ⟨p1, hp1⟩ : ∃ p, p = W1.heap.size := ⟨_, rfl⟩
  rw [← hp1] at k1 ⊢
  have H1 := Lib.hid (And.intro (Below.trans b1 (Below.mono c1 b1.size)) k1)
  clear b1 c1 k1 s1 hp1 hV1
  go_wp2_with fail
  refine (of_ba 3 1 _).mono ?_
  rintro e U2 ⟨rfl, a2⟩
  have A2 := Lib.hid a2
  clear a2
  go_wp2_with fail
  refine (next32 _).mono ?_
  rintro e W2 ⟨rfl, b2⟩
  go_upto_region 3 with (fail)
  obtain ⟨V2, hV2⟩ : ∃ V, V = W2.alloc (.cells #[.int .u64 3, .int .i64 2] 25) := ⟨_, rfl⟩
  rw [← hV2]
  obtain ⟨c2, k2, s2⟩ := boxBA hV2
  obtain ⟨p3, hp3⟩ : ∃ p, p = W2.heap.size := ⟨_, rfl⟩
  rw [← hp3] at k2 ⊢
  have m2 : Below V1.heap.size V1 V2 := (A2.out.trans (Below.mono b2 A2.out.size)).trans (Below.mono c2 (A2.out.trans (Below.mono b2 A2.out.size)).size)
  have H2 := Lib.hid (And.intro (H1.out.1.trans (Below.mono m2 H1.out.1.size)) (And.intro ((m2.block p1 (Array.getElem?_eq_some_iff.1 H1.out.2).1).trans H1.out.2) k2))
  clear b2 c2 k2 s2 hp3 hV2 m2 A2 H1
  go_wp2_with fail
  refine (of_ba 3 1 _).mono ?_
  rintro e U3 ⟨rfl, a3⟩
  have A3 := Lib.hid a3
  clear a3
  go_wp2_with fail
  refine (next31 _).mono ?_
  rintro e W3 ⟨rfl, b3⟩
  go_upto_region 4 with (fail)
  obtain ⟨V3, hV3⟩ : ∃ V, V = W3.alloc (.cells #[.int .u64 4, .int .i64 1] 25) := ⟨_, rfl⟩
  rw [← hV3]
  obtain ⟨c3, k3, s3⟩ := boxBA hV3
  obtain ⟨p5, hp5⟩ : ∃ p, p = W3.heap.size := ⟨_, rfl⟩
  rw [← hp5] at k3 ⊢
  have m3 : Below V2.heap.size V2 V3 := (A3.out.trans (Below.mono b3 A3.out.size)).trans (Below.mono c3 (A3.out.trans (Below.mono b3 A3.out.size)).size)
  have k1 := (m3.block p1 (Array.getElem?_eq_some_iff.1 H2.out.2.1).1).trans H2.out.2.1
  have k2 := (m3.block p3 (Array.getElem?_eq_some_iff.1 H2.out.2.2).1).trans H2.out.2.2
  have HB := Lib.hid (H2.out.1.trans (Below.mono m3 H2.out.1.size))
  refine wakes14_r p1 p3 p5 _ V3 _ rfl rfl rfl rfl rfl rfl rfl (Array.getElem?_eq_some_iff.1 k1).1 (blk_cell k1 0) (blk_cell k1 1) (Array.getElem?_eq_some_iff.1 k2).1 (blk_cell k2 0) (blk_cell k2 1) (Array.getElem?_eq_some_iff.1 k3).1 (blk_cell k3 0) (blk_cell k3 1) ?_
  intro v62 v69 W4 _ _ hg
  have H4 := Lib.hid (HB.out.trans (Below.mono hg HB.out.size))
  simp only [puts, List.foldl_cons, List.foldl_nil, Act.put, List.setIfInBounds_toArray, List.set_cons_succ, List.set_cons_zero]
  clear hg k1 k2 k3 m3 c3 b3 s3 hp5 hV3 A3 H2 HB
  go_wp2
  go_ret
  exact ⟨rfl, H4.out⟩
end Go.Proofs.Ytkeaeahiokgkiaa
