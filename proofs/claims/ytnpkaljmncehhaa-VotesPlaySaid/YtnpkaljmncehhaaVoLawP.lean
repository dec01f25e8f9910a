/- Proved: for every number and row of acts the law VotesPlay returns true, and each argument reads afterwards as it did, given contracts of the program's package votes. No condition beyond the statement's own. -/
import Derived.Test.YtnpkaljmncehhaaRows
import Derived.Test.YtnpkaljmncehhaaVoPw
import Derived.Test.YtnpkaljmncehhaaVoOp
import Derived.ChangeMaps5
import Derived.Carry
namespace Go.Proofs.Ytnpkaljmncehhaa
open Go.ChangeShapes Go.WideShapes Go.ChangeAt Go.RowKit Go.ChangeMaps

set_option maxRecDepth 100000 in
theorem voP_lifted {T : World → Prop} (hT : ∀ w, T w) (K : VotK T) (os : Os) (started : os.Started) (H : Type) (enc : TypeId × Value → H) :
    ReturnsInHanded {} Try.checked os 3 .any (Rows.votesPlaySpec.pre6 enc Try.prog Try.f3 Rows.votesPlayRow.domain false) (Rows.votesPlaySpec.post enc Try.prog Try.f3 false true false false) := by
  refine returnsInHanded_of_change_sized (C := Try.checked) ownKnob_none started (by kernel_rfl) Try.func3
    (ChangeSpec.witness6 (enc := enc) (C := Try.checked) false ⟨#[], #[.int .i64 0, .slice none 0 0], []⟩ 8 (by kernel_rfl) (by kernel_rfl) (by kernel_rfl) (by kernel_rfl)) ?_
  intro W base args ds gs before hval0 hW hcnd hsz0 _
  have hval : ∀ (j : Nat) t v, Try.f3.params[j]? = some t → args[j]? = some v → Value.okWide Try.prog W .any base t v := hval0
  have hW' := hW
  obtain ⟨p, q, hA0, hV, rfl, hfz, hnd⟩ := hW
  have hAA : DataW.TrodAll enc Try.prog W 0 (fun _ => true) true Try.f3.params.toList args.toList ds p := hA0
  have hsz : (DataW.weightsEach Try.prog (Try.f3.params.toList ++ Rows.votesPlaySpec.plain.varTypes Try.prog) (ds ++ gs)).all (· ≤ reachBytes) = true := hsz0
  rw [Try.params3] at hAA hval hsz
  obtain ⟨v0, v1, d0, d1, p0, p1, rfl, rfl, rfl, h0, h1⟩ := trodAll_two hAA
  obtain ⟨rfl, rfl⟩ := trodVars_none hV
  obtain ⟨n0, rfl, rfl, rfl, w0⟩ := open_int Try.underlying3 (hval 0 3 v0 rfl rfl) h0
  obtain ⟨A1, L1, c1, l1, rfl, hL1, hb1, hm1, hk1, hl1⟩ := open_rowG Try.underlying22 4 16 (by kernel_rfl) (by decide) (by kernel_rfl) (fun x : Int × Nat × Nat × Bool => [.int .i64 x.1, .int .u8 (x.2.1 : Int), .int .u8 (x.2.2.1 : Int), .bool x.2.2.2]) (fun _ => rfl) (fun x => x.2.1 < 256 ∧ x.2.2.1 < 256) one_act (hval 1 22 v1 rfl rfl) h1 (fun k hk => by simpa using List.all_eq_true.1 hsz _ (DataW.weights_mem_each (j := 1) rfl rfl k hk))
  clear hA0 hval0
  simp only [List.append_nil] at hW'
  have hlt1 : ∀ x ∈ p1, x.block < W.heap.size := fun x hx => hW'.lt x (by simp [hx])
  have hac : HasAc W A1 (l1.map fun x => ⟨x.1, x.2.1, x.2.2.1, x.2.2.2⟩) := fun hne => by
    obtain ⟨b, o, e, hb, hc⟩ := hl1 (fun e => hne (by rw [e]; rfl))
    refine ⟨b, o, e, hb, fun j hj => ?_⟩
    have hj' : j < l1.length := by simpa using hj
    simp only [List.getElem_map]
    exact ⟨hc j hj' 0 _ rfl, hc j hj' 1 _ rfl, hc j hj' 2 _ rfl, hc j hj' 3 _ rfl⟩
  refine (VotesPlay_any K n0 A1 L1 c1 _ W (hT W) (by rw [hL1, List.length_map]) (by omega) hac (fun x hx => by obtain ⟨y, hy, rfl⟩ := List.mem_map.1 hx; exact hk1 y hy)).mono fun e W' ⟨he, hw⟩ => ?_
  subst he
  exact ⟨_, rfl, post_grew (pv := []) hW' (fun _ _ _ => trodAll_mk1 (shut_bool Try.underlying4 true)) (trodAll_mk2 (shut_int Try.underlying3 w0) (Below.trod laid_out (by kernel_rfl) (of_decide_eq_true (by kernel_rfl)) h1 hw hlt1)) rfl (by simp) hw⟩
theorem voP_row {T : World → Prop} (hT : ∀ w, T w) (K : VotK T) : Rows.VotesPlaySaid :=
  OpenClaim.holds_of_wide 3 Try.f3 rfl rfl rfl rfl rfl rfl rfl ⟨rfl, rfl, rfl, rfl, rfl⟩ rfl rfl rfl rfl rfl (by kernel_rfl) Try.func3 (by kernel_rfl)
    (of_decide_eq_true (by kernel_rfl)) (by unfold Func.isWrapper; first | (rw [if_pos (by decide +kernel)]; kernel_rfl) | (rw [if_neg (by decide +kernel)]; exact ⟨rfl, rfl⟩))
    (fun os started H enc _ => voP_lifted hT K os started H enc)
end Go.Proofs.Ytnpkaljmncehhaa
