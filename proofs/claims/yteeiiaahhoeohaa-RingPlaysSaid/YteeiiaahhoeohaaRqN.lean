/- A ring's calls on nil. -/
import Derived.Test.YteeiiaahhoeohaaRgSt
namespace Go.Proofs.Yteeiiaahhoeohaa
open Go.RowKit
section
set_option maxHeartbeats 1000000
theorem nilget_S (w : World) (k : Nat) (_hk : k < 18446744073709551616) : Calls Try.prog 6 #[.pointer none, .int .u64 (k : Int)] w fun e w' => e = .returned (.tuple #[.string ⟨#[]⟩, .bool false]) ∧ Below w.heap.size w w' := by
  go_enter Try.func6, Try.ntmps6
  go_wp2
  exact bodyPost_ret (v := .tuple #[.string ⟨#[]⟩, .bool false]) (by simp [results, Try.results6, go_sem]) rfl ⟨rfl, Below.refl _ w⟩
theorem nilset_S (w : World) (k : Nat) (v : ByteArray) (_hk : k < 18446744073709551616) : Calls Try.prog 7 #[.pointer none, .int .u64 (k : Int), .string v] w fun e w' => e = .returned (.int .i64 2) ∧ Below w.heap.size w w' := by
  go_enter Try.func7, Try.ntmps7
  go_wp2
  go_ret
  exact ⟨rfl, Below.refl _ w⟩
theorem nilbase_S (w : World) : Calls Try.prog 9 #[.pointer none] w fun e w' => e = .returned (.int .u64 0) ∧ Below w.heap.size w w' := by
  go_enter Try.func9, Try.ntmps9
  go_wp2
  go_ret
  exact ⟨rfl, Below.refl _ w⟩
theorem nillast_S (w : World) : Calls Try.prog 10 #[.pointer none] w fun e w' => e = .returned (.int .u64 0) ∧ Below w.heap.size w w' := by
  go_enter Try.func10, Try.ntmps10
  go_wp2
  go_ret
  exact ⟨rfl, Below.refl _ w⟩
theorem nilrel_S (w : World) (k : Nat) (_hk : k < 18446744073709551616) : Calls Try.prog 8 #[.pointer none, .int .u64 (k : Int)] w fun e w' => e = .returned (.int .i64 2) ∧ Below w.heap.size w w' := by
  go_enter Try.func8, Try.ntmps8
  go_wp2
  go_ret
  exact ⟨rfl, ((Below.refl _ w).alloc (Nat.le_refl _) _).alloc (by simp) _⟩
end
theorem nil_S : NilS := ⟨nilget_S, nilset_S, nilrel_S, nilbase_S, nillast_S⟩
end Go.Proofs.Yteeiiaahhoeohaa
