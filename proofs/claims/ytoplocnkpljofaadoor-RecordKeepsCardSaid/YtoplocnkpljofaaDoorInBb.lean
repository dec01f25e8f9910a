/- Rows of bytes that came in. -/
import Derived.Test.YtoplocnkpljofaaDoorMBase
import Derived.Deep.Matrix
import Derived.ProofKit
namespace Go.Proofs.YtoplocnkpljofaaDoor
open Go.ChangeShapes Go.WideShapes Go.ChangeAt Go.RowKit Go.ChangeMaps

/-- Rows of bytes that came in. -/
def InBB (w : World) (A : Option Addr) (ls : List (List UInt8)) : Prop := ls ≠ [] → ∃ b o, A = some ⟨b, o, none⟩ ∧ b < w.heap.size ∧
  ∀ i (h : i < ls.length), ∃ A' L' c', w.cell? ⟨b, o + i, none⟩ = some (.slice A' L' c') ∧ L' = (ls[i]).length ∧ L' ≤ c' ∧ HasA w w.heap.size A' ls[i]
theorem InBB.below {w w' : World} {A : Option Addr} {ls : List (List UInt8)} (h : InBB w A ls) (hb : Below w.heap.size w w') : InBB w' A ls := fun hn => by
  obtain ⟨b, o, hA, hlt, hc⟩ := h hn
  refine ⟨b, o, hA, Nat.lt_of_lt_of_le hlt hb.size, fun i hi => ?_⟩
  obtain ⟨A', L', c', h1, h2, h3, h4⟩ := hc i hi
  exact ⟨A', L', c', (hb.cell (p := ⟨b, o + i, none⟩) hlt).trans h1, h2, h3, h4.below' hb⟩

theorem cellsBB : Tryd.prog.cellsOf 29 = 1 := by kernel_rfl

section
variable {H : Type} {enc : TypeId × Value → H}
set_option maxRecDepth 100000 in
theorem open_bbc {W : World} {base : Nat} {v : Value} {d : DataW H} {p : List MemPlace} (hval : Value.okWide Tryd.prog W .any base 35 v) (h : DataW.Trod enc Tryd.prog W 0 (fun _ => true) true 35 v d p) :
    ∃ A n c ls, v = .slice A n c ∧ n = List.length ls ∧ n ≤ c ∧ n ≤ maxLen ∧ InBB W A ls := by
  obtain ⟨a0, len, cap, rfl⟩ := okWide_slice Tryd.underlying35 hval
  obtain ⟨fuel, hf⟩ := h
  rcases Deep.open_int_rows Tryd.underlying35 Tryd.underlying29 Tryd.underlying5 cellsBB cells5 hf with ⟨hcs, hx⟩ | ⟨a, len', cap', A, L, C, Z, hcs, _, hl, hm, hx, hall⟩
  · simp [Value.cells] at hcs
    obtain ⟨rfl, rfl, rfl⟩ := hcs
    exact ⟨none, 0, 0, [], rfl, rfl, Nat.le_refl _, Nat.zero_le _, fun h => absurd rfl h⟩
  · simp [Value.cells] at hcs
    obtain ⟨rfl, rfl, rfl⟩ := hcs
    refine ⟨_, len, cap, (List.range len).map fun r => ((Z r).take (L r)).map fun n => UInt8.ofNat n.toNat, rfl, by simp, hl, by omega, fun hne => ?_⟩
    have hpos : 0 < len := by
      rcases Nat.eq_zero_or_pos len with h0 | h0
      · subst h0; simp at hne
      · exact h0
    obtain ⟨ab, ao, spot⟩ := a
    have hspot : spot = none := by simpa [Addr.add] using World.cell?_spot (hall 0 (by omega)).1
    subst hspot
    refine ⟨ab, ao, rfl, ?_, fun i hi => ?_⟩
    · have := World.block_lt_of_cell? W _ (hall 0 (by omega)).1
      rw [addr_add] at this
      exact this
    · have hi' : i < len := by simpa using hi
      obtain ⟨hc, hLC, hCm, hZ, hwz, hnone, hcell⟩ := hall i (by omega)
      rw [addr_add] at hc
      refine ⟨A i, L i, C i, hc, by simp; omega, hLC, fun hne2 => ?_⟩
      have hLpos : 0 < L i := by
        rcases Nat.eq_zero_or_pos (L i) with h0 | h0
        · simp [h0] at hne2
        · exact h0
      cases hA : A i with
      | none => have := hnone hA; omega
      | some a' =>
        obtain ⟨_, hcell'⟩ := hcell a' hA
        obtain ⟨b', o', spot'⟩ := a'
        have hspot' : spot' = none := by simpa [Addr.add] using World.cell?_spot (hcell' 0 (by omega))
        subst hspot'
        refine ⟨b', o', rfl, ?_, fun j hj => ?_⟩
        · have := World.block_lt_of_cell? W _ (hcell' 0 (by omega))
          rw [addr_add] at this
          exact this
        · have hjL : j < L i := by simp at hj; omega
          have hzj : j < (Z i).length := by omega
          have hc2 := hcell' j (by omega)
          rw [addr_add] at hc2
          rw [hc2]
          have hw := hwz (Z i)[j] (List.getElem_mem hzj)
          simp [Lit.wf, IntKind.min, IntKind.max, IntKind.signed, IntKind.bits] at hw
          have hg : (Z i).getD j 0 = (Z i)[j] := by simp [List.getD, hzj]
          rw [hg]
          simp only [List.getElem_map, List.getElem_take, List.getElem_range]
          rw [enc_ofNat (by omega)]
          congr 2
          omega
set_option maxRecDepth 20000 in
theorem open_bb {W : World} {base : Nat} {v : Value} {d : DataW H} {p : List MemPlace} (hval : Value.okWide Tryd.prog W .any base 35 v) (h : DataW.Trod enc Tryd.prog W 0 (fun _ => true) true 35 v d p) :
    ∃ A n c ls, v = .slice A n c ∧ n = List.length ls ∧ n ≤ maxLen ∧ InBB W A ls := by
  obtain ⟨A, n, c, ls, h1, h2, _, h3, h4⟩ := open_bbc hval h
  exact ⟨A, n, c, ls, h1, h2, h3, h4⟩
end
end Go.Proofs.YtoplocnkpljofaaDoor
