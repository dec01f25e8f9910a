/- Proved: for every number of replicas, row of booleans and slot the law VotesMeet returns true, and each argument reads afterwards as it did, given contracts of the program's package votes. No condition beyond the statement's own. -/
import Derived.Test.YtnpkaljmncehhaaRows
import Derived.Test.YtnpkaljmncehhaaVoMt
import Derived.Test.YtnpkaljmncehhaaVoOp
import Derived.ChangeMaps5
import Derived.Carry
namespace Go.Proofs.Ytnpkaljmncehhaa
open Go.ChangeShapes Go.WideShapes Go.ChangeAt Go.RowKit Go.ChangeMaps

set_option maxRecDepth 100000 in
theorem voM_lifted {T : World → Prop} (hT : ∀ w, T w) (K : VotK T) (os : Os) (started : os.Started) (H : Type) (enc : TypeId × Value → H) :
    ReturnsInHanded {} Try.checked os 4 .any (Rows.votesMeetSpec.pre6 enc Try.prog Try.f4 Rows.votesMeetRow.domain false) (Rows.votesMeetSpec.post enc Try.prog Try.f4 false true false false) := by
  refine returnsInHanded_of_change_sized (C := Try.checked) ownKnob_none started (by kernel_rfl) Try.func4
    (ChangeSpec.witness6 (enc := enc) (C := Try.checked) false ⟨#[], #[.int .u8 0, .slice none 0 0, .int .u64 0], []⟩ 8 (by kernel_rfl) (by kernel_rfl) (by kernel_rfl) (by kernel_rfl)) ?_
  intro W base args ds gs before hval0 hW hcnd hsz0 _
  have hval : ∀ (j : Nat) t v, Try.f4.params[j]? = some t → args[j]? = some v → Value.okWide Try.prog W .any base t v := hval0
  have hW' := hW
  obtain ⟨p, q, hA0, hV, rfl, hfz, hnd⟩ := hW
  have hAA : DataW.TrodAll enc Try.prog W 0 (fun _ => true) true Try.f4.params.toList args.toList ds p := hA0
  have hsz : (DataW.weightsEach Try.prog (Try.f4.params.toList ++ Rows.votesMeetSpec.plain.varTypes Try.prog) (ds ++ gs)).all (· ≤ reachBytes) = true := hsz0
  rw [Try.params4] at hAA hval hsz
  obtain ⟨v0, v1, v2, d0, d1, d2, p0, p1, p2, rfl, rfl, rfl, h0, h1, h2⟩ := trodAll_three hAA
  obtain ⟨rfl, rfl⟩ := trodVars_none hV
  obtain ⟨n0, rfl, rfl, rfl, w0⟩ := open_int Try.underlying5 (hval 0 5 v0 rfl rfl) h0
  obtain ⟨A1, L1, c1, l1, rfl, hL1, hb1, hm1, hk1, hl1⟩ := open_rowG Try.underlying46 1 1 (by kernel_rfl) (by decide) (by kernel_rfl) (fun x : Bool => [.bool x]) (fun _ => rfl) (fun _ => True) one_bool (hval 1 46 v1 rfl rfl) h1 (fun k hk => by simpa using List.all_eq_true.1 hsz _ (DataW.weights_mem_each (j := 1) rfl rfl k hk))
  obtain ⟨n2, rfl, rfl, rfl, w2⟩ := open_int Try.underlying35 (hval 2 35 v2 rfl rfl) h2
  clear hA0 hval0
  simp only [List.append_nil] at hW'
  obtain ⟨m0, rfl, hm0⟩ : ∃ k : Nat, n0 = (k : Int) ∧ k < 256 := by
    simp [Lit.wf, IntKind.min, IntKind.max, IntKind.signed, IntKind.bits] at w0
    exact ⟨n0.toNat, by omega, by omega⟩
  have hlt1 : ∀ x ∈ p1, x.block < W.heap.size := fun x hx => hW'.lt x (by simp [hx])
  obtain ⟨m2, rfl, hm2⟩ := wf_u64 w2
  have hbo : HasBo W A1 l1 := fun hne => by
    obtain ⟨b, o, e, hb, hc⟩ := hl1 hne
    refine ⟨b, o, e, hb, fun j hj => ?_⟩
    have := hc j hj 0 _ rfl
    rwa [Nat.mul_one] at this
  refine (VotesMeet_any K m0 A1 L1 c1 l1 m2 W (hT W) hm0 hL1 (by simpa [maxLen] using hm1) hbo hm2).mono fun e W' ⟨he, hw⟩ => ?_
  subst he
  exact ⟨_, rfl, post_grew (pv := []) hW' (fun _ _ _ => trodAll_mk1 (shut_bool Try.underlying4 true)) (trodAll_mk3 (shut_int Try.underlying5 w0) (Below.trod laid_out (by kernel_rfl) (of_decide_eq_true (by kernel_rfl)) h1 hw hlt1) (shut_int Try.underlying35 w2)) rfl (by simp) hw⟩
theorem voM_row {T : World → Prop} (hT : ∀ w, T w) (K : VotK T) : Rows.VotesMeetSaid :=
  OpenClaim.holds_of_wide 4 Try.f4 rfl rfl rfl rfl rfl rfl rfl ⟨rfl, rfl, rfl, rfl, rfl⟩ rfl rfl rfl rfl rfl (by kernel_rfl) Try.func4 (by kernel_rfl)
    (of_decide_eq_true (by kernel_rfl)) (by unfold Func.isWrapper; first | (rw [if_pos (by decide +kernel)]; kernel_rfl) | (rw [if_neg (by decide +kernel)]; exact ⟨rfl, rfl⟩))
    (fun os started H enc _ => voM_lifted hT K os started H enc)
end Go.Proofs.Ytnpkaljmncehhaa
