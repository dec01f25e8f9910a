/- Opening a row of acts that came in. -/
import Derived.Test.YtoplocnkpljofaaDoorMDk
import Derived.Deep.Slices
import Derived.ProofKit
import Derived.SizedLaws
namespace Go.Proofs.YtoplocnkpljofaaDoor
open Go.ChangeShapes Go.WideShapes Go.ChangeAt Go.RowKit Go.ChangeMaps

theorem cellsAct : Tryd.prog.cellsOf 31 = 3 := by kernel_rfl
theorem cellsI : Tryd.prog.cellsOf 3 = 1 := by kernel_rfl
theorem bytesU8 : Tryd.prog.bytesOf 5 = 1 := by kernel_rfl
theorem bytesAct : Tryd.prog.bytesOf 31 = 40 := by kernel_rfl
theorem cellsB : Tryd.prog.cellsOf 29 = 1 := by kernel_rfl

section
variable {H : Type} {enc : TypeId × Value → H}
set_option maxRecDepth 20000 in
/-- A slice of bytes within. -/
theorem open_b1 {W : World} {n : Nat} {v : Value} {y : DataW H × List MemPlace} (h : DataW.trod enc Tryd.prog W 0 (fun _ => true) true n 29 [v] = some y) (hw : ∀ k ∈ y.1.weights Tryd.prog 29, k ≤ reachBytes) :
    ∃ A L c B, v = .slice A L c ∧ L = List.length B ∧ L ≤ 140737488351232 ∧ HasA W W.heap.size A B ∧ L ≤ c := by
  rcases open_ints Tryd.underlying29 Tryd.underlying5 cells5 h with ⟨hcs, hx⟩ | ⟨a, len', cap', zs, hcs, _, hl, hm, hz, hx, hcell, hwz⟩
  · simp at hcs
    subst hcs
    exact ⟨none, 0, 0, [], rfl, rfl, Nat.zero_le _, HasA.nil _ _ _, Nat.le_refl _⟩
  · simp at hcs
    subst hcs
    simp only [if_true] at hz
    have hlen : ((zs.take len').map fun n => UInt8.ofNat n.toNat).length = len' := by simp; omega
    have hwz' : zs.length ≤ 140737488351232 := by
      rw [hx] at hw
      have := hw _ (by simp only [DataW.weights, Tryd.underlying29]; exact List.mem_cons_self ..)
      rw [bytesU8] at this
      simp only [lits, List.length_map, List.length_take, List.length_drop, reachBytes] at this
      omega
    refine ⟨_, len', cap', (zs.take len').map fun n => UInt8.ofNat n.toNat, rfl, hlen.symm, by omega, fun hne => ?_, hl⟩
    have hpos : 0 < len' := by
      rcases Nat.eq_zero_or_pos len' with h0 | h0
      · exact absurd (List.eq_nil_of_length_eq_zero (by rw [hlen]; exact h0)) hne
      · exact h0
    obtain ⟨ab, ao, spot⟩ := a
    have hspot : spot = none := by simpa [Addr.add] using World.cell?_spot (hcell 0 (by omega))
    subst hspot
    refine ⟨ab, ao, rfl, ?_, fun i hi => ?_⟩
    · have := World.block_lt_of_cell? W _ (hcell 0 (by omega))
      rw [addr_add] at this
      exact this
    · rw [hlen] at hi
      have hzi : i < zs.length := by omega
      have hc := hcell i hzi
      rw [addr_add] at hc
      rw [hc]
      have hw := hwz zs[i] (List.getElem_mem hzi)
      simp [Lit.wf, IntKind.min, IntKind.max, IntKind.signed, IntKind.bits] at hw
      have hg : zs.getD i 0 = zs[i] := by simp [List.getD, hzi]
      rw [hg]
      simp only [List.getElem_map, List.getElem_take]
      rw [enc_ofNat (by omega)]
      congr 2
      omega
theorem wf_u8n {n : Int} (h : (Lit.int .u8 n).wf = true) : ∃ k : Nat, n = (k : Int) ∧ k < 256 := by
  simp [Lit.wf, IntKind.min, IntKind.max, IntKind.signed, IntKind.bits] at h
  exact ⟨n.toNat, by omega, by omega⟩
theorem mem_weightsAll {H : Type} {P : Program} {e : TypeId} : ∀ {ds : List (DataW H)} {d : DataW H}, d ∈ ds → ∀ n ∈ d.weights P e, n ∈ DataW.weightsAll P e ds
  | d0 :: ds, d, hd, n, hn => by
    simp only [DataW.weightsAll, List.mem_append]
    rcases List.mem_cons.1 hd with rfl | hd
    · exact .inl hn
    · exact .inr (mem_weightsAll hd n hn)
set_option maxRecDepth 20000 in
/-- An act within. -/
theorem open_act {W : World} {n : Nat} {cs : List Value} {y : DataW H × List MemPlace} (h : DataW.trod enc Tryd.prog W 0 (fun _ => true) true n 31 cs = some y) (hw : ∀ k ∈ y.1.weights Tryd.prog 31, k ≤ reachBytes) :
    ∃ a : ActD, a.ok W ∧ cs = [.int .u8 (a.d : Int), .int .i64 a.n, .slice a.A a.L a.c] := by
  obtain ⟨xs, m, _, hy, hcl, hxl, hf⟩ := DataW.trod_struct Tryd.underlying31 h
  rw [cellsAct] at hcl
  match xs, hxl, cs, hcl with
  | [y0, y1, y2], _, [v0, v1, v2], _ =>
    have g0 := hf 0 _ rfl
    have g1 := hf 1 _ rfl
    have g2 := hf 2 _ rfl
    simp [cells5, cellsI, cellsB] at g0 g1 g2
    obtain ⟨n0, e0, _, w0⟩ := DataW.trod_int Tryd.underlying5 g0
    obtain ⟨n1, e1, _, w1⟩ := DataW.trod_int Tryd.underlying3 g1
    obtain ⟨A, L, c, B, e2, hL, hLm, hA, hLc⟩ := open_b1 g2 (fun k hk => hw k (by
      rw [hy]
      simp only [DataW.weights, Tryd.underlying31]
      exact DataW.weights_mem_each (j := 2) rfl rfl k hk))
    obtain ⟨d, rfl, hd⟩ := wf_u8n w0
    simp at e0 e1
    subst e0 e1 e2
    exact ⟨⟨d, n1, A, L, c, B⟩, ⟨hd, wf_i64 w1, hL, hLm, hA, hLc⟩, rfl⟩
set_option maxRecDepth 20000 in
theorem open_acts {W : World} {base : Nat} {v : Value} {d : DataW H} {p : List MemPlace} (hval : Value.okWide Tryd.prog W .any base 22 v) (h : DataW.Trod enc Tryd.prog W 0 (fun _ => true) true 22 v d p) (hw : ∀ k ∈ d.weights Tryd.prog 22, k ≤ reachBytes) :
    ∃ A n c ls, v = .slice A n c ∧ n = List.length ls ∧ n ≤ 140737488351232 ∧ InActsD W A ls := by
  obtain ⟨a0, len, cap, rfl⟩ := okWide_slice Tryd.underlying22 hval
  obtain ⟨fuel, hf⟩ := h
  rcases Deep.open_slice Tryd.underlying22 hf with ⟨hcs, hx⟩ | ⟨a, len', cap', m, n, D, Pl, hcs, _, hl, hm, hmm, hdx, hall⟩
  · simp [Value.cells] at hcs
    obtain ⟨rfl, rfl, rfl⟩ := hcs
    exact ⟨none, 0, 0, [], rfl, rfl, Nat.zero_le _, fun h => absurd rfl h⟩
  · simp [Value.cells] at hcs
    obtain ⟨rfl, rfl, rfl⟩ := hcs
    simp only [if_true] at hmm
    have hd : d = .slice ((List.range len).map D) ((List.range (m - len)).map fun j => D (len + j)) := congrArg Prod.fst hdx
    have hlen2 : len ≤ 140737488351232 := by
      rw [hd] at hw
      have := hw _ (by simp only [DataW.weights, Tryd.underlying22]; exact List.mem_cons_self ..)
      rw [bytesAct] at this
      simp only [List.length_map, List.length_range, reachBytes] at this
      omega
    have each : ∀ i, i < len → ∃ x : ActD, x.ok W ∧ ∀ j u, ([.int .u8 (x.d : Int), .int .i64 x.n, .slice x.A x.L x.c] : List Value)[j]? = some u → W.cell? ((a.add (i * 3)).add j) = some u := by
      intro i hi
      obtain ⟨cs', h1, h2⟩ := hall i (by omega)
      rw [cellsAct] at h1
      obtain ⟨_, hlen, hcell⟩ := World.cells?_some h1
      obtain ⟨x, hx, rfl⟩ := open_act h2 (fun k hk => hw k (by
        rw [hd]
        simp only [DataW.weights, Tryd.underlying22]
        exact List.mem_cons_of_mem _ (List.mem_append_left _ (mem_weightsAll (List.mem_map.2 ⟨i, List.mem_range.2 hi, rfl⟩) k hk))))
      refine ⟨x, hx, fun j u hj => ?_⟩
      have hj5 : j < 3 := by
        rcases Nat.lt_or_ge j 3 with h | h
        · exact h
        · rw [List.getElem?_eq_none (by simpa using h)] at hj; cases hj
      rw [hcell j hj5]
      exact hj
    have : Inhabited ActD := ⟨⟨0, 0, none, 0, 0, []⟩⟩
    obtain ⟨F, hF⟩ := Deep.choose_lt each
    refine ⟨_, len, cap, (List.range len).map F, rfl, by simp, hlen2, fun hne => ?_⟩
    have hpos : 0 < len := by
      rcases Nat.eq_zero_or_pos len with h0 | h0
      · subst h0; simp at hne
      · exact h0
    have c00 := (hF 0 hpos).2 0 _ rfl
    obtain ⟨ab, ao, spot⟩ := a
    have hspot : spot = none := by simpa [Addr.add] using World.cell?_spot c00
    subst hspot
    refine ⟨ab, ao, rfl, ?_, fun j hj => ?_⟩
    · have := World.block_lt_of_cell? W _ c00
      rw [addr_add, addr_add] at this
      exact this
    · have hj' : j < len := by simpa using hj
      have hc := (hF j hj').2
      have k0 := hc 0 _ rfl
      have k1 := hc 1 _ rfl
      have k2 := hc 2 _ rfl
      rw [addr_add, addr_add] at k0 k1 k2
      have e : ((List.range len).map F)[j] = F j := by simp
      rw [e]
      exact ⟨k0, k1, k2, (hF j hj').1⟩
end
end Go.Proofs.YtoplocnkpljofaaDoor
