/- Rows that came in: their items, by what an item's cells say. -/
import Derived.Test.YtnpkaljmncehhaaVoK
import Derived.Deep.Slices
import Derived.ProofKit
import Derived.SizedLaws
namespace Go.Proofs.Ytnpkaljmncehhaa
open Go.ChangeShapes Go.WideShapes Go.ChangeAt Go.RowKit Go.ChangeMaps

section
variable {H : Type} {enc : TypeId × Value → H}
set_option maxRecDepth 20000 in
theorem open_rowG {α : Type} [Inhabited α] {t e : TypeId} (ht : Try.prog.underlying t = some (.slice e)) (sz by_ : Nat) (hsz : Try.prog.cellsOf e = sz) (hz : 0 < sz) (hby : Try.prog.bytesOf e = by_) (cs : α → List Value) (hcs1 : ∀ x, (cs x).length = sz) (ok : α → Prop)
    {W : World} (one : ∀ {n : Nat} {l : List Value} {y : DataW H × List MemPlace}, DataW.trod enc Try.prog W 0 (fun _ => true) true n e l = some y → ∃ x, ok x ∧ l = cs x)
    {base : Nat} {v : Value} {d : DataW H} {p : List MemPlace} (hval : Value.okWide Try.prog W .any base t v) (h : DataW.Trod enc Try.prog W 0 (fun _ => true) true t v d p) (hw : ∀ k ∈ d.weights Try.prog t, k ≤ reachBytes) :
    ∃ A n c ls, v = .slice A n c ∧ n = List.length ls ∧ n * by_ ≤ 140737488351232 ∧ n ≤ maxLen ∧ (∀ x ∈ ls, ok x) ∧ (ls ≠ [] → ∃ b o, A = some ⟨b, o, none⟩ ∧ b < W.heap.size ∧ ∀ j (h : j < ls.length) k u, (cs ls[j])[k]? = some u → W.cell? ⟨b, o + j * sz + k, none⟩ = some u) := by
  obtain ⟨a0, len, cap, rfl⟩ := okWide_slice ht hval
  obtain ⟨fuel, hf⟩ := h
  rcases Deep.open_slice ht hf with ⟨hcs, hx⟩ | ⟨a, len', cap', m, n, D, Pl, hcs, _, hl, hm, hmm, hdx, hall⟩
  · simp [Value.cells] at hcs
    obtain ⟨rfl, rfl, rfl⟩ := hcs
    exact ⟨none, 0, 0, [], rfl, rfl, by omega, Nat.zero_le _, fun x hx => (by cases hx), fun h => absurd rfl h⟩
  · simp [Value.cells] at hcs
    obtain ⟨rfl, rfl, rfl⟩ := hcs
    simp only [if_true] at hmm
    have hd : d = .slice ((List.range len).map D) ((List.range (m - len)).map fun j => D (len + j)) := congrArg Prod.fst hdx
    have hlen2 : len * by_ ≤ 140737488351232 := by
      rw [hd] at hw
      have := hw _ (by simp only [DataW.weights, ht]; exact List.mem_cons_self ..)
      rw [hby] at this
      simp only [List.length_map, List.length_range, reachBytes] at this
      have h2 : len * by_ ≤ (len + (m - len)) * by_ := Nat.mul_le_mul_right _ (by omega)
      omega
    have each : ∀ i, i < len → ∃ x : α, ok x ∧ ∀ j u, (cs x)[j]? = some u → W.cell? ((a.add (i * sz)).add j) = some u := by
      intro i hi
      obtain ⟨cs', h1, h2⟩ := hall i (by omega)
      rw [hsz] at h1
      obtain ⟨_, hlen, hcell⟩ := World.cells?_some h1
      obtain ⟨x, hx, hxc⟩ := one h2
      refine ⟨x, hx, fun j u hj => ?_⟩
      have hj2 : j < sz := by rw [← hcs1 x]; exact (List.getElem?_eq_some_iff.1 hj).1
      rw [hcell j hj2, hxc]
      exact hj
    obtain ⟨F, hF⟩ := Deep.choose_lt each
    refine ⟨_, len, cap, (List.range len).map F, rfl, by simp, hlen2, by omega, fun x hx => ?_, fun hne => ?_⟩
    · obtain ⟨i, hi, rfl⟩ := List.mem_map.1 hx
      exact (hF i (List.mem_range.1 hi)).1
    have hpos : 0 < len := by
      rcases Nat.eq_zero_or_pos len with h0 | h0
      · subst h0; simp at hne
      · exact h0
    have c00 := (hF 0 hpos).2 0 _ (List.getElem?_eq_getElem (by rw [hcs1]; exact hz))
    obtain ⟨ab, ao, spot⟩ := a
    have hspot : spot = none := by simpa [Addr.add] using World.cell?_spot c00
    subst hspot
    refine ⟨ab, ao, rfl, ?_, fun j hj k u hk => ?_⟩
    · have := World.block_lt_of_cell? W _ c00
      rw [addr_add, addr_add] at this
      exact this
    · have hj' : j < len := by simpa using hj
      have e : ((List.range len).map F)[j] = F j := by simp
      rw [e] at hk
      have c0 := (hF j hj').2 k u hk
      rw [addr_add, addr_add] at c0
      exact c0
theorem one_u64 {W : World} {n : Nat} {l : List Value} {y : DataW H × List MemPlace} (h : DataW.trod enc Try.prog W 0 (fun _ => true) true n 35 l = some y) : ∃ x : Nat, x < 18446744073709551616 ∧ l = [.int .u64 (x : Int)] := by
  obtain ⟨n0, e0, _, w0⟩ := DataW.trod_int Try.underlying35 h
  obtain ⟨k, rfl, hk⟩ := wf_u64 w0
  exact ⟨k, hk, e0⟩
theorem one_bool {W : World} {n : Nat} {l : List Value} {y : DataW H × List MemPlace} (h : DataW.trod enc Try.prog W 0 (fun _ => true) true n 4 l = some y) : ∃ x : Bool, True ∧ l = [.bool x] := by
  obtain ⟨b, e0, _⟩ := DataW.trod_bool Try.underlying4 h
  exact ⟨b, trivial, e0⟩
theorem cells15b : Try.prog.cellsOf 4 = 1 := by kernel_rfl
theorem cells15u : Try.prog.cellsOf 35 = 1 := by kernel_rfl
theorem cells15i : Try.prog.cellsOf 3 = 1 := by kernel_rfl
theorem cells15c : Try.prog.cellsOf 5 = 1 := by kernel_rfl
set_option maxRecDepth 20000 in
theorem one_span {W : World} {n : Nat} {l : List Value} {y : DataW H × List MemPlace} (h : DataW.trod enc Try.prog W 0 (fun _ => true) true n 42 l = some y) : ∃ x : Nat × Nat, (x.1 < 18446744073709551616 ∧ x.2 < 18446744073709551616) ∧ l = [.int .u64 (x.1 : Int), .int .u64 (x.2 : Int)] := by
  obtain ⟨xs, m, _, hy, hcl, hxl, hf⟩ := DataW.trod_struct Try.underlying42 h
  rw [show Try.prog.cellsOf 42 = 2 by kernel_rfl] at hcl
  match xs, hxl, l, hcl with
  | [y0, y1], _, [v0, v1], _ =>
    have g0 := hf 0 _ rfl
    have g1 := hf 1 _ rfl
    simp [cells15u] at g0 g1
    obtain ⟨k0, h0, e0⟩ := one_u64 g0
    obtain ⟨k1, h1, e1⟩ := one_u64 g1
    simp at e0 e1
    subst e0 e1
    exact ⟨(k0, k1), ⟨h0, h1⟩, rfl⟩
set_option maxRecDepth 20000 in
theorem one_act {W : World} {n : Nat} {l : List Value} {y : DataW H × List MemPlace} (h : DataW.trod enc Try.prog W 0 (fun _ => true) true n 33 l = some y) : ∃ x : Int × Nat × Nat × Bool, (x.2.1 < 256 ∧ x.2.2.1 < 256) ∧ l = [.int .i64 x.1, .int .u8 (x.2.1 : Int), .int .u8 (x.2.2.1 : Int), .bool x.2.2.2] := by
  obtain ⟨xs, m, _, hy, hcl, hxl, hf⟩ := DataW.trod_struct Try.underlying33 h
  rw [show Try.prog.cellsOf 33 = 4 by kernel_rfl] at hcl
  match xs, hxl, l, hcl with
  | [y0, y1, y2, y3], _, [v0, v1, v2, v3], _ =>
    have g0 := hf 0 _ rfl
    have g1 := hf 1 _ rfl
    have g2 := hf 2 _ rfl
    have g3 := hf 3 _ rfl
    simp [cells15i, cells15c, cells15b] at g0 g1 g2 g3
    obtain ⟨n0, e0, _, w0⟩ := DataW.trod_int Try.underlying3 g0
    obtain ⟨n1, e1, _, w1⟩ := DataW.trod_int Try.underlying5 g1
    obtain ⟨n2, e2, _, w2⟩ := DataW.trod_int Try.underlying5 g2
    obtain ⟨b, e3, _⟩ := DataW.trod_bool Try.underlying4 g3
    have k1 : ∃ k : Nat, n1 = (k : Int) ∧ k < 256 := by
      simp [Lit.wf, IntKind.min, IntKind.max, IntKind.signed, IntKind.bits] at w1
      exact ⟨n1.toNat, by omega, by omega⟩
    have k2 : ∃ k : Nat, n2 = (k : Int) ∧ k < 256 := by
      simp [Lit.wf, IntKind.min, IntKind.max, IntKind.signed, IntKind.bits] at w2
      exact ⟨n2.toNat, by omega, by omega⟩
    obtain ⟨k1, rfl, h1⟩ := k1
    obtain ⟨k2, rfl, h2⟩ := k2
    simp at e0 e1 e2 e3
    subst e0 e1 e2 e3
    exact ⟨(n0, k1, k2, b), ⟨h1, h2⟩, rfl⟩
end
end Go.Proofs.Ytnpkaljmncehhaa
