/- Copying bytes into the middle of a block; the step of a region that does so. -/
import Derived.Test.YteiednjhliobeaaBase
import Derived.Deep.RegionHeld3
namespace Go.Proofs.Yteiednjhliobeaa
open Go.RowKit

/-- A block behind a copy of the bytes x to its offset o. -/
def Copied (cur cur' : Array Value) (o : Nat) (x : List UInt8) : Prop := cur'.size = cur.size ∧ (∀ j (h : j < x.length), cur'[o + j]? = some (enc x[j])) ∧ ∀ i, (i < o ∨ o + x.length ≤ i) → cur'[i]? = cur[i]?
theorem copied_mid (cur : Array Value) (o : Nat) (x : List UInt8) (h : o + x.length ≤ cur.size) : Copied cur (cur.toList.take o ++ x.map enc ++ cur.toList.drop (o + (x.map enc).length)).toArray o x := by
  have hl : (cur.toList.take o).length = o := by simp; omega
  refine ⟨by simp; omega, fun j hj => ?_, fun i hi => ?_⟩
  · simp only [List.getElem?_toArray]
    rw [List.getElem?_append_left (by simp; omega), List.getElem?_append_right (by omega), hl]
    simp [hj]
  · simp only [List.getElem?_toArray]
    rcases hi with hi | hi
    · rw [List.getElem?_append_left (by simp; omega), List.getElem?_append_left (by simp; omega), List.getElem?_take]
      simp [hi]
    · rw [List.getElem?_append_right (by simp; omega)]
      simp only [List.length_append, hl, List.length_map, List.getElem?_drop]
      rw [show o + x.length + (i - (o + x.length)) = i by omega]
      simp
theorem run_copy_into (w : World) (g o C c : Nat) (t : TypeId) (A : Option Addr) (B : Nat) (x : List UInt8) (cur : Array Value) (hg : w.heap[g]? = some (.cells cur t (0, 0))) (hfit : o + x.length ≤ cur.size) (hs : HasA w B A x) :
    ∃ w', (∀ ty, (Builtin.copy_ #[27, 27] ty #[.slice (some ⟨g, o, none⟩) x.length C, .slice A x.length c]).run Try.prog w = .ok (.int .i64 (x.length : Int)) w') ∧ (∃ cur', w'.heap[g]? = some (.cells cur' t (0, 0)) ∧ Copied cur cur' o x) ∧ w.grownBy w' (some g) := by
  by_cases hb : x = []
  · subst hb
    exact ⟨w, fun ty => run_copy_none (P := Try.prog) w 27 27 ty 5 (some ⟨g, o, none⟩) A 0 C 0 c Try.underlying27 size5 rfl, ⟨cur, hg, rfl, fun j h => by simp at h, fun _ _ => rfl⟩, grownBy_refl _ _⟩
  · obtain ⟨b, off, rfl, _, _⟩ := id hs hb
    have h := fun ty => run_copy_row (P := Try.prog) w 27 27 ty 5 g o x.length C ⟨b, off, none⟩ x.length c cur t (x.map enc) Try.underlying27 size5 hg (by simp) (hs.src rfl) (by simpa using hfit) (encs_one x)
    refine ⟨_, fun ty => by rw [h ty]; simp [goInt], ⟨_, setRow_heap w g cur _ t _ hg, copied_mid cur o x hfit⟩, ⟨rfl, rfl, rfl, by simp, fun k _ hk => setRow_other w g k _ (fun e => hk (by simp [e]))⟩⟩

/-- A copy, at a step of a region that draws its order. -/
theorem step_copy {w : World} {ops : Array Oper} {o : Oper} {a : Act} {K : Act → World → Prop} {Q : Exit → Act → World → Prop} {E : Prop} (hgd : o.guard = none) (d s : Operand) (t : TypeId)
    (ho : o.op = .call { callee := .builtin .copy, args := #[d, s], argTypes := #[t, t] }) (vd vs v : Value) (hd : a.eval d = vd) (hs : a.eval s = vs) (w' : World)
    (hr : ∀ ty, (Builtin.copy_ #[t, t] ty #[vd, vs]).run Try.prog w = .ok v w') (h : K (a.put o.dst v) w') :
    if Region.wanted o (yielded ops a.tmps) = true then Oper.wp Try.prog o a w K Q else E := by
  have hw : Region.wanted o (yielded ops a.tmps) = true := by simp [Region.wanted, hgd]
  rw [if_pos hw]
  unfold Oper.wp execOp
  simp only [ho, resolve, invoke, builtin, Sem.run_bind, Sem.run_pure, Result.andThen_ok, List.map_toArray, List.map_cons, List.map_nil, hd, hs, hr]
  exact h
end Go.Proofs.Yteiednjhliobeaa
