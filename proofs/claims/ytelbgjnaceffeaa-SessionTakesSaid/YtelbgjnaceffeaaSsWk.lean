/- The law's wakes: a table that is known. -/
import Derived.Test.YtelbgjnaceffeaaSsK
import Derived.Deep.DeepCutAuto
import Derived.Laws.StructEq
import Derived.Laws.Cover2
namespace Go.Proofs.Ytelbgjnaceffeaa
open Go.RowKit

abbrev sE : ByteArray := ⟨#[]⟩
abbrev sX : ByteArray := ⟨#[120]⟩
abbrev l1S : List SE := [⟨1, 3, 0, sX⟩]
theorem lim1S : LimS l1S := ⟨by decide, fun e he => by
  have : e = ⟨1, 3, 0, sX⟩ := by simpa using he
  subst this; decide⟩
theorem boxS {w W0 : World} {cs : Array Value} {t : TypeId} (h : W0 = w.alloc (.cells cs t)) : Below w.heap.size w W0 ∧ W0.heap[w.heap.size]? = some (.cells cs t (0, 0)) := by
  subst h
  exact ⟨(Below.refl _ w).alloc (Nat.le_refl _) _, World.alloc_heap_new w _⟩
set_option maxRecDepth 100000 in
set_option maxHeartbeats 4000000 in
theorem wakes10_any {T : World → Prop} (K : SessK T) (w : World) (hT : T w) : Calls Try.prog 5 #[] w fun e W' => e = .returned (.bool true) ∧ Below w.heap.size w W' := by
  have HT := Lib.hid hT
  clear hT
  go_enter Try.func5, Try.ntmps5
  go_wp2_with fail
  refine (LiveS.new K w HT.out).mono ?_
  rintro e W1 ⟨R, rfl, h1⟩
  have L1 := Lib.hid (LiveP.of h1)
  have C1 : Hid (Calls Try.prog 13 #[.pointer (some ⟨R, 0, none⟩), .int .u32 1, .int .u32 1] W1 fun e W' => e = .returned (.tuple #[.agg #[.int .u8 0, .string sE], .int .u8 0]) ∧ LiveP K w R [] (fun _ => False) W' ∧ Below W1.heap.size W1 W') := Lib.hid (L1.out.look HT.out LimS.nil 1 1 (by decide) (by decide))
  clear h1
  go_wp2_with fail
  refine C1.out.mono ?_
  rintro e W2 ⟨rfl, h2, -⟩
  have L2 := Lib.hid h2
  clear h2 C1
  go_upto_region 3 with (fail)
  obtain ⟨W3, hW3⟩ : ∃ W3, W3 = W2.alloc (Obj.cells #[.int .u8 0, .string sE] 36) := ⟨_, rfl⟩
  rw [← hW3]
  have L3 := Lib.hid (L2.out.grew (boxS hW3).1)
  obtain ⟨q1, hq1⟩ : ∃ q, q = W2.heap.size := ⟨_, rfl⟩
  rw [← hq1]
  have C3 : Hid (Calls Try.prog 12 #[.pointer (some ⟨R, 0, none⟩), .int .u32 1, .int .u32 3, .agg #[.int .u8 0, .string sX]] W3 fun e W' => e = .returned (.tuple #[]) ∧ LiveP K w R l1S (fun _ => False) W') := Lib.hid ((L3.out.keeps HT.out LimS.nil 1 3 0 sX (by decide) (by decide) (by decide) (by decide)).mono fun _ _ ⟨a, b, _⟩ => ⟨a, b⟩)
  clear hW3 hq1
  go_wp2_with fail
  refine C3.out.mono ?_
  rintro e W4 ⟨rfl, h4⟩
  have L4 := Lib.hid h4
  have C4 : Hid (Calls Try.prog 13 #[.pointer (some ⟨R, 0, none⟩), .int .u32 1, .int .u32 3] W4 fun e W' => e = .returned (.tuple #[.agg #[.int .u8 0, .string sX], .int .u8 1]) ∧ LiveP K w R l1S (fun _ => False) W' ∧ Below W4.heap.size W4 W') := Lib.hid (h4.look HT.out lim1S 1 3 (by decide) (by decide))
  clear h4 C3
  go_wp2_with fail
  refine C4.out.mono ?_
  rintro e W5 ⟨rfl, h5, -⟩
  have L5 := Lib.hid h5
  clear h5 C4
  go_upto_region 5 with (fail)
  obtain ⟨W6, hW6⟩ : ∃ W6, W6 = W5.alloc (Obj.cells #[.int .u8 0, .string sX] 36) := ⟨_, rfl⟩
  rw [← hW6]
  obtain ⟨b6, k6⟩ := boxS hW6
  obtain ⟨q2, hq2⟩ : ∃ q, q = W5.heap.size := ⟨_, rfl⟩
  rw [← hq2] at k6 ⊢
  have L6 := Lib.hid (L5.out.grew b6)
  have K6 := Lib.hid k6
  have C6 : Hid (Calls Try.prog 13 #[.pointer (some ⟨R, 0, none⟩), .int .u32 1, .int .u32 2] W6 fun e W' => e = .returned (.tuple #[.agg #[.int .u8 3, .string sE], .int .u8 2]) ∧ LiveP K w R l1S (fun _ => False) W' ∧ Below W6.heap.size W6 W') := Lib.hid (L6.out.look HT.out lim1S 1 2 (by decide) (by decide))
  clear hW6 hq2 b6 k6
  go_wp2_with fail
  refine C6.out.mono ?_
  rintro e W7 ⟨rfl, h7, b7⟩
  have L7 := Lib.hid h7
  have K7 := Lib.hid ((b7.block q2 (Array.getElem?_eq_some_iff.1 K6.out).1).trans K6.out)
  clear h7 C6 b7
  go_upto_region 6 with (fail)
  obtain ⟨W8, hW8⟩ : ∃ W8, W8 = W7.alloc (Obj.cells #[.int .u8 3, .string sE] 36) := ⟨_, rfl⟩
  rw [← hW8]
  obtain ⟨b8, k8⟩ := boxS hW8
  obtain ⟨q3, hq3⟩ : ∃ q, q = W7.heap.size := ⟨_, rfl⟩
  rw [← hq3] at k8 ⊢
  have L8 := Lib.hid (L7.out.grew b8)
  have K8 := Lib.hid (And.intro ((b8.block q2 (Array.getElem?_eq_some_iff.1 K7.out).1).trans K7.out) k8)
  have C8 : Hid (Calls Try.prog 13 #[.pointer (some ⟨R, 0, none⟩), .int .u32 1, .int .u32 4] W8 fun e W' => e = .returned (.tuple #[.agg #[.int .u8 0, .string sE], .int .u8 0]) ∧ LiveP K w R l1S (fun _ => False) W' ∧ Below W8.heap.size W8 W') := Lib.hid (L8.out.look HT.out lim1S 1 4 (by decide) (by decide))
  clear hW8 hq3 b8 k8
  go_wp2_with fail
  refine C8.out.mono ?_
  rintro e W9 ⟨rfl, h9, b9⟩
  have L9 := Lib.hid h9
  have K9 := Lib.hid (And.intro ((b9.block q2 (Array.getElem?_eq_some_iff.1 K8.out.1).1).trans K8.out.1) ((b9.block q3 (Array.getElem?_eq_some_iff.1 K8.out.2).1).trans K8.out.2))
  clear h9 C8 b9
  go_upto_region 7 with (fail)
  obtain ⟨W10, hW10⟩ : ∃ W10, W10 = W9.alloc (Obj.cells #[.int .u8 0, .string sE] 36) := ⟨_, rfl⟩
  rw [← hW10]
  obtain ⟨b10, k10⟩ := boxS hW10
  obtain ⟨q4, hq4⟩ : ∃ q, q = W9.heap.size := ⟨_, rfl⟩
  rw [← hq4]
  have L10 := Lib.hid (L9.out.grew b10)
  have ka := (b10.block q2 (Array.getElem?_eq_some_iff.1 K9.out.1).1).trans K9.out.1
  have kb := (b10.block q3 (Array.getElem?_eq_some_iff.1 K9.out.2).1).trans K9.out.2
  have z1 : W10.cell? ⟨q2, 1, none⟩ = some (.string sX) := by simpa using blk_cell ka 1
  have z2 : W10.cell? ⟨q3, 0, none⟩ = some (.int .u8 3) := by simpa using blk_cell kb 0
  have z3 : W10.cell? ⟨q3, 1, none⟩ = some (.string sE) := by simpa using blk_cell kb 1
  have C10 : Hid (Calls Try.prog 14 #[.pointer (some ⟨R, 0, none⟩)] W10 fun e W' => e = .returned (.int .i64 1) ∧ LiveS K w R l1S W' ∧ Below W10.heap.size W10 W') := Lib.hid L10.out.live.len
  clear hW10 hq4 b10 k10 ka kb
  go_wp2_with fail
  refine C10.out.mono ?_
  rintro e W11 ⟨rfl, h11, -⟩
  have B11 := Lib.hid h11.below
  clear h11
  go_wp2
  go_ret
  exact ⟨rfl, B11.out⟩
end Go.Proofs.Ytelbgjnaceffeaa
