/- The document's own Max: the statement that draws its order. -/
import Derived.Test.YtkeaeahiokgkiaaRg
import Derived.Test.YtkeaeahiokgkiaaBlNx
namespace Go.Proofs.Ytkeaeahiokgkiaa
open Go.RowKit

theorem ixBA (w : World) (b o L c q : Nat) (h : q < L) : (Instr.indexAt 22 (.slice (some ⟨b, o, none⟩) L c) (.int .i64 (q : Int))).run Try.prog w = .ok (.pointer (some ⟨b, o + q * 2, none⟩)) w := by
  have h1 : (0 : Int) ≤ q := by omega
  have h2 : (q : Int) < L := by omega
  simp [go_sem, h1, h2]
noncomputable def opsMxT : List Oper := opsOf Try.f14 9
set_option maxRecDepth 100000 in
set_option maxHeartbeats 4000000 in
theorem refmax_t (b o L c i k : Nat) (x y : BA)  (a : Act) (w : World) (Q : Exit → Act → World → Prop) (hN : a.tmps.size = 38) (h0 : a.tmps.getD 0 undef = .slice (some ⟨b, o, none⟩) L c) (h4 : a.tmps.getD 4 undef = .int .i64 (i : Int)) (h5 : a.tmps.getD 5 undef = .bool true) (h6 : a.tmps.getD 6 undef = .int .i64 (k : Int)) (hl : b < w.heap.size) (hi : i < L) (hk : k < L) (ci0 : w.cell? ⟨b, o + i * 2, none⟩ = some (.int .u64 (x.n : Int))) (ci1 : w.cell? ⟨b, o + i * 2 + 1, none⟩ = some (.int .i64 x.r)) (ck0 : w.cell? ⟨b, o + k * 2, none⟩ = some (.int .u64 (y.n : Int))) (ck1 : w.cell? ⟨b, o + k * 2 + 1, none⟩ = some (.int .i64 y.r)) (hQ : ∀ (w' : World), Grew w w' → Q .normal (puts [(19, .bool true), (20, .bool true), (21, .slice (some ⟨b, o, none⟩) L c), (22, .int .i64 (i : Int)), (23, .pointer (some ⟨b, o + i * 2, none⟩)), (24, .agg #[.int .u64 (x.n : Int), .int .i64 x.r]), (25, .slice (some ⟨b, o, none⟩) L c), (26, .int .i64 (k : Int)), (27, .pointer (some ⟨b, o + k * 2, none⟩)), (28, .agg #[.int .u64 (y.n : Int), .int .i64 y.r]), (29, .bool (decide (ltB x y))), (30, .bool (!decide (ltB x y))), (31, .bool (!decide (ltB x y))), (5, .bool (!decide (ltB x y)))] a) w')
    : (Code.region 9 opsMxT.toArray true).wp Try.prog Q a w := by
  refine region_v 38 opsMxT [(0, .slice (some ⟨b, o, none⟩) L c), (4, .int .i64 (i : Int)), (5, .bool true), (6, .int .i64 (k : Int))] [10] [.eq (.bool true), .eq (.bool true), .eq (.slice (some ⟨b, o, none⟩) L c), .eq (.int .i64 (i : Int)), .eq (.pointer (some ⟨b, o + i * 2, none⟩)), .eq (.agg #[.int .u64 (x.n : Int), .int .i64 x.r]), .eq (.slice (some ⟨b, o, none⟩) L c), .eq (.int .i64 (k : Int)), .eq (.pointer (some ⟨b, o + k * 2, none⟩)), .eq (.agg #[.int .u64 (y.n : Int), .int .i64 y.r]), .eq (.bool (decide (ltB x y))), .eq (.bool (!decide (ltB x y))), .eq (.bool (!decide (ltB x y))), .eq (.bool (!decide (ltB x y)))] Grew Grew.refl Grew.trans follows (by kernel_rfl) (by kernel_rfl) hN ⟨h0, h4, h5, h6, trivial⟩ rfl trivial ?_ ?_ ?_
  · intro _ w' hR _
    exact ⟨fun _ => rfl, fun _ => rfl, fun _ => rfl, fun _ => rfl, fun _ => ob_idx (ixBA _ _ _ _ _ _ hi), fun _ => ob_load (ldBA _ _ _ _ _ ((Below.cell hR.undraw (p := ⟨b, o + i * 2, none⟩) hl).trans ci0) ((Below.cell hR.undraw (p := ⟨b, o + i * 2 + 1, none⟩) hl).trans ci1)), fun _ => rfl, fun _ => rfl, fun _ => ob_idx (ixBA _ _ _ _ _ _ hk), fun _ => ob_load (ldBA _ _ _ _ _ ((Below.cell hR.undraw (p := ⟨b, o + k * 2, none⟩) hl).trans ck0) ((Below.cell hR.undraw (p := ⟨b, o + k * 2 + 1, none⟩) hl).trans ck1)), trivial, fun _ => ob_un (run_not _ _), fun _ => ob_pick rfl rfl, fun _ => rfl, trivial⟩
  · refine ⟨?_, trivial⟩
    · rintro o _ ho hd a' w' hF hR hp
      have hio := (nthO_eq _ _).symm.trans ho
      cases ho
      cases hd
      have q1 : a'.tmps.getD 20 undef = .bool true := hp 1 _ 20 rfl rfl rfl
      have q5 : a'.tmps.getD 24 undef = .agg #[.int .u64 (x.n : Int), .int .i64 x.r] := hp 5 _ 24 rfl rfl rfl
      have q9 : a'.tmps.getD 28 undef = .agg #[.int .u64 (y.n : Int), .int .i64 y.r] := hp 9 _ 28 rfl rfl rfl
      refine step_callD hio (wanted_on rfl (show opsMxT.toArray[1]? = some _ from rfl) rfl q1) rfl (enters_of Try.func12 (by kernel_rfl) rfl) (show Array.map a'.eval #[.tmp 24, .tmp 28] = _ from by simp only [List.map_toArray, List.map_cons, List.map_nil, Act.eval, q5, q9]) ((refLess_any x y w').mono ?_)
      rintro e w'' ⟨rfl, hb⟩
      exact ⟨_, rfl, _, rfl, rfl, hb⟩
  · intro _ w' hR _
    exact hQ  w'  hR.undraw
noncomputable def opsMxF : List Oper := opsOf Try.f14 9
set_option maxRecDepth 100000 in
set_option maxHeartbeats 4000000 in
theorem refmax_f (A : Option Addr) (L c i k : Nat)  (a : Act) (w : World) (Q : Exit → Act → World → Prop) (hN : a.tmps.size = 38) (h0 : a.tmps.getD 0 undef = .slice A L c) (h4 : a.tmps.getD 4 undef = .int .i64 (i : Int)) (h5 : a.tmps.getD 5 undef = .bool false) (h6 : a.tmps.getD 6 undef = .int .i64 (k : Int))  (hQ : ∀ (w' : World), Grew w w' → Q .normal (puts [(19, .bool false), (20, .bool false), (21, undef), (22, undef), (23, undef), (24, undef), (25, undef), (26, undef), (27, undef), (28, undef), (29, undef), (30, undef), (31, .bool false), (5, .bool false)] a) w')
    : (Code.region 9 opsMxF.toArray true).wp Try.prog Q a w := by
  refine region_v 38 opsMxF [(0, .slice A L c), (4, .int .i64 (i : Int)), (5, .bool false), (6, .int .i64 (k : Int))] [] [.eq (.bool false), .eq (.bool false), .eq (undef), .eq (undef), .eq (undef), .eq (undef), .eq (undef), .eq (undef), .eq (undef), .eq (undef), .eq (undef), .eq (undef), .eq (.bool false), .eq (.bool false)] Grew Grew.refl Grew.trans follows (by kernel_rfl) (by kernel_rfl) hN ⟨h0, h4, h5, h6, trivial⟩ rfl trivial ?_ ?_ ?_
  · intro _ w' _ _
    exact ⟨fun _ => rfl, fun _ => rfl, fun _ => rfl, fun _ => rfl, fun _ => rfl, fun _ => rfl, fun _ => rfl, fun _ => rfl, fun _ => rfl, fun _ => rfl, fun _ => rfl, fun _ => rfl, fun _ => ob_pick rfl rfl, fun _ => rfl, trivial⟩
  · exact trivial
  · intro _ w' hR _
    exact hQ  w'  hR.undraw
end Go.Proofs.Ytkeaeahiokgkiaa
