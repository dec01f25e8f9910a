/- Proved: for every row of spans and row of numbers the law VotesOrder returns true, and each argument reads afterwards as it did, given contracts of the program's package votes. No condition beyond the statement's own. -/
import Derived.Test.YtnpkaljmncehhaaRows
import Derived.Test.YtnpkaljmncehhaaVoOw
import Derived.Test.YtnpkaljmncehhaaVoOp
import Derived.ChangeMaps5
import Derived.Carry
namespace Go.Proofs.Ytnpkaljmncehhaa
open Go.ChangeShapes Go.WideShapes Go.ChangeAt Go.RowKit Go.ChangeMaps

set_option maxRecDepth 100000 in
theorem voO_lifted {T : World → Prop} (hT : ∀ w, T w) (K : VotK T) (os : Os) (started : os.Started) (H : Type) (enc : TypeId × Value → H) :
    ReturnsInHanded {} Try.checked os 5 .any (Rows.votesOrderSpec.pre6 enc Try.prog Try.f5 Rows.votesOrderRow.domain false) (Rows.votesOrderSpec.post enc Try.prog Try.f5 false true false false) := by
  refine returnsInHanded_of_change_sized (C := Try.checked) ownKnob_none started (by kernel_rfl) Try.func5
    (ChangeSpec.witness6 (enc := enc) (C := Try.checked) false ⟨#[], #[.slice none 0 0, .slice none 0 0], []⟩ 8 (by kernel_rfl) (by kernel_rfl) (by kernel_rfl) (by kernel_rfl)) ?_
  intro W base args ds gs before hval0 hW hcnd hsz0 _
  have hval : ∀ (j : Nat) t v, Try.f5.params[j]? = some t → args[j]? = some v → Value.okWide Try.prog W .any base t v := hval0
  have hW' := hW
  obtain ⟨p, q, hA0, hV, rfl, hfz, hnd⟩ := hW
  have hAA : DataW.TrodAll enc Try.prog W 0 (fun _ => true) true Try.f5.params.toList args.toList ds p := hA0
  have hsz : (DataW.weightsEach Try.prog (Try.f5.params.toList ++ Rows.votesOrderSpec.plain.varTypes Try.prog) (ds ++ gs)).all (· ≤ reachBytes) = true := hsz0
  rw [Try.params5] at hAA hval hsz
  obtain ⟨v0, v1, d0, d1, p0, p1, rfl, rfl, rfl, h0, h1⟩ := trodAll_two hAA
  obtain ⟨rfl, rfl⟩ := trodVars_none hV
  obtain ⟨A0, L0, c0, l0, rfl, hL0, hb0, hm0, hk0, hl0⟩ := open_rowG Try.underlying50 2 16 (by kernel_rfl) (by decide) (by kernel_rfl) (fun x : Nat × Nat => [.int .u64 (x.1 : Int), .int .u64 (x.2 : Int)]) (fun _ => rfl) (fun x => x.1 < 18446744073709551616 ∧ x.2 < 18446744073709551616) one_span (hval 0 50 v0 rfl rfl) h0 (fun k hk => by simpa using List.all_eq_true.1 hsz _ (DataW.weights_mem_each (j := 0) rfl rfl k hk))
  obtain ⟨A1, L1, c1, l1, rfl, hL1, hb1, hm1, hk1, hl1⟩ := open_rowG Try.underlying51 1 8 (by kernel_rfl) (by decide) (by kernel_rfl) (fun x : Nat => [.int .u64 (x : Int)]) (fun _ => rfl) (fun x => x < 18446744073709551616) one_u64 (hval 1 51 v1 rfl rfl) h1 (fun k hk => by simpa using List.all_eq_true.1 hsz _ (DataW.weights_mem_each (j := 1) rfl rfl k hk))
  clear hA0 hval0
  simp only [List.append_nil] at hW'
  have hlt0 : ∀ x ∈ p0, x.block < W.heap.size := fun x hx => hW'.lt x (by simp [hx])
  have hlt1 : ∀ x ∈ p1, x.block < W.heap.size := fun x hx => hW'.lt x (by simp [hx])
  have hsp : HasSp W A0 l0 := fun hne => by
    obtain ⟨b, o, e, hb, hc⟩ := hl0 hne
    exact ⟨b, o, e, hb, fun j hj => ⟨hc j hj 0 _ rfl, hc j hj 1 _ rfl⟩⟩
  have hu6 : HasU6 W A1 l1 := fun hne => by
    obtain ⟨b, o, e, hb, hc⟩ := hl1 hne
    refine ⟨b, o, e, hb, fun j hj => ?_⟩
    have := hc j hj 0 _ rfl
    rwa [Nat.mul_one] at this
  refine (VotesOrder_any K A0 L0 c0 l0 A1 L1 c1 l1 W (hT W) hL0 (by omega) hsp hk0 hL1 (by simpa [maxLen] using hm1) hu6 hk1).mono fun e W' ⟨he, hw⟩ => ?_
  subst he
  exact ⟨_, rfl, post_grew (pv := []) hW' (fun _ _ _ => trodAll_mk1 (shut_bool Try.underlying4 true)) (trodAll_mk2 (Below.trod laid_out (by kernel_rfl) (of_decide_eq_true (by kernel_rfl)) h0 hw hlt0) (Below.trod laid_out (by kernel_rfl) (of_decide_eq_true (by kernel_rfl)) h1 hw hlt1)) rfl (by simp) hw⟩
theorem voO_row {T : World → Prop} (hT : ∀ w, T w) (K : VotK T) : Rows.VotesOrderSaid :=
  OpenClaim.holds_of_wide 5 Try.f5 rfl rfl rfl rfl rfl rfl rfl ⟨rfl, rfl, rfl, rfl, rfl⟩ rfl rfl rfl rfl rfl (by kernel_rfl) Try.func5 (by kernel_rfl)
    (of_decide_eq_true (by kernel_rfl)) (by unfold Func.isWrapper; first | (rw [if_pos (by decide +kernel)]; kernel_rfl) | (rw [if_neg (by decide +kernel)]; exact ⟨rfl, rfl⟩))
    (fun os started H enc _ => voO_lifted hT K os started H enc)
end Go.Proofs.Ytnpkaljmncehhaa
