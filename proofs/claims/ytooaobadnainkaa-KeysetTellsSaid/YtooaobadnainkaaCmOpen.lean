/- Opening commands that came in: one, and a row of them. -/
import Derived.Test.YtooaobadnainkaaMCmP
import Derived.Deep.Slices
import Derived.ProofKit
import Derived.SizedLaws
namespace Go.Proofs.Ytooaobadnainkaa
open Go.ChangeShapes Go.WideShapes Go.ChangeAt Go.RowKit Go.ChangeMaps

theorem cellsCmd : Try.prog.cellsOf 31 = 7 := by kernel_rfl
theorem cellsStr : Try.prog.cellsOf 9 = 1 := by kernel_rfl
theorem cellsU32 : Try.prog.cellsOf 28 = 1 := by kernel_rfl
theorem cellsI64 : Try.prog.cellsOf 2 = 1 := by kernel_rfl
theorem cellsKs : Try.prog.cellsOf 29 = 1 := by kernel_rfl
theorem bytesStr : Try.prog.bytesOf 9 = 16 := by kernel_rfl
theorem bytesCmd : Try.prog.bytesOf 31 = 80 := by kernel_rfl
theorem wf_u32n {n : Int} (h : (Lit.int .u32 n).wf = true) : ∃ k : Nat, n = (k : Int) ∧ k < 4294967296 := by
  simp [Lit.wf, IntKind.min, IntKind.max, IntKind.signed, IntKind.bits] at h
  exact ⟨n.toNat, by omega, by omega⟩
theorem wf_u8c {n : Int} (h : (Lit.int .u8 n).wf = true) : ∃ k : Nat, n = (k : Int) ∧ k < 256 := by
  simp [Lit.wf, IntKind.min, IntKind.max, IntKind.signed, IntKind.bits] at h
  exact ⟨n.toNat, by omega, by omega⟩
theorem wf_i64c {n : Int} (h : (Lit.int .i64 n).wf = true) : -9223372036854775808 ≤ n ∧ n ≤ 9223372036854775807 := by
  simp [Lit.wf, IntKind.min, IntKind.max, IntKind.signed, IntKind.bits] at h
  omega
theorem mem_weightsAllC {H : Type} {P : Program} {e : TypeId} : ∀ {ds : List (DataW H)} {d : DataW H}, d ∈ ds → ∀ n ∈ d.weights P e, n ∈ DataW.weightsAll P e ds
  | d0 :: ds, d, hd, n, hn => by
    simp only [DataW.weightsAll, List.mem_append]
    rcases List.mem_cons.1 hd with rfl | hd
    · exact .inl hn
    · exact .inr (mem_weightsAllC hd n hn)

section
variable {H : Type} {enc : TypeId × Value → H}
set_option maxRecDepth 20000 in
/-- A row of texts within. -/
theorem open_keys {W : World} {n : Nat} {v : Value} {y : DataW H × List MemPlace} (h : DataW.trod enc Try.prog W 0 (fun _ => true) true n 29 [v] = some y) (hw : ∀ k ∈ y.1.weights Try.prog 29, k ≤ reachBytes) :
    ∃ A L c ks, v = .slice A L c ∧ L = List.length ks ∧ L ≤ 140737488351232 ∧ HasS W A ks ∧ ∀ k ∈ ks, k.size ≤ maxLen := by
  rcases Deep.open_slice Try.underlying29 h with ⟨hcs, hx⟩ | ⟨a, len, cap, m, n, D, Pl, hcs, _, hl, hm, hmm, hdx, hall⟩
  · simp at hcs
    subst hcs
    exact ⟨none, 0, 0, [], rfl, rfl, Nat.zero_le _, fun h => absurd rfl h, fun k hk => by cases hk⟩
  · simp at hcs
    subst hcs
    simp only [if_true] at hmm
    have hd : y.1 = .slice ((List.range len).map D) ((List.range (m - len)).map fun j => D (len + j)) := congrArg Prod.fst hdx
    have hlen2 : len ≤ 140737488351232 := by
      rw [hd] at hw
      have := hw _ (by simp only [DataW.weights, Try.underlying29]; exact List.mem_cons_self ..)
      rw [bytesStr] at this
      simp only [List.length_map, List.length_range, reachBytes] at this
      omega
    have each : ∀ i, i < len → ∃ x : ByteArray, x.size ≤ maxLen ∧ W.cell? ((a.add (i * 1)).add 0) = some (.string x) := by
      intro i hi
      obtain ⟨cs', h1, h2⟩ := hall i (by omega)
      rw [cellsStr] at h1
      obtain ⟨_, hlen, hcell⟩ := World.cells?_some h1
      obtain ⟨x, hx, _, hs⟩ := DataW.trod_string Try.underlying9 h2
      refine ⟨x, hs, ?_⟩
      rw [hcell 0 (by omega), hx]
      rfl
    have : Inhabited ByteArray := ⟨⟨#[]⟩⟩
    obtain ⟨F, hF⟩ := Deep.choose_lt each
    refine ⟨_, len, cap, (List.range len).map F, rfl, by simp, hlen2, fun hne => ?_, fun k hk => ?_⟩
    · have hpos : 0 < len := by
        rcases Nat.eq_zero_or_pos len with h0 | h0
        · subst h0; simp at hne
        · exact h0
      have c00 := (hF 0 hpos).2
      obtain ⟨ab, ao, spot⟩ := a
      have hspot : spot = none := by simpa [Addr.add] using World.cell?_spot c00
      subst hspot
      refine ⟨ab, ao, rfl, ?_, fun j hj => ?_⟩
      · have := World.block_lt_of_cell? W _ c00
        rw [addr_add, addr_add] at this
        exact this
      · have hj' : j < len := by simpa using hj
        have hc := (hF j hj').2
        rw [addr_add, addr_add, Nat.mul_one, Nat.add_zero] at hc
        have e : ((List.range len).map F)[j] = F j := by simp
        rw [e]
        exact hc
    · obtain ⟨j, hj, rfl⟩ := List.mem_map.1 hk
      exact (hF j (List.mem_range.1 hj)).1
set_option maxRecDepth 20000 in
/-- A command within. -/
theorem open_cmd1 {W : World} {n : Nat} {cs : List Value} {y : DataW H × List MemPlace} (h : DataW.trod enc Try.prog W 0 (fun _ => true) true n 31 cs = some y) (hw : ∀ k ∈ y.1.weights Try.prog 31, k ≤ reachBytes) :
    ∃ a : CmdV, a.ok W ∧ cs = a.cells.toList := by
  obtain ⟨xs, m, _, hy, hcl, hxl, hf⟩ := DataW.trod_struct Try.underlying31 h
  rw [cellsCmd] at hcl
  match xs, hxl, cs, hcl with
  | [y0, y1, y2, y3, y4, y5, y6], _, [v0, v1, v2, v3, v4, v5, v6], _ =>
    have g0 := hf 0 _ rfl
    have g1 := hf 1 _ rfl
    have g2 := hf 2 _ rfl
    have g3 := hf 3 _ rfl
    have g4 := hf 4 _ rfl
    have g5 := hf 5 _ rfl
    have g6 := hf 6 _ rfl
    simp [cells5, cellsU32, cellsI64, cellsKs, cellsStr] at g0 g1 g2 g3 g4 g5 g6
    obtain ⟨n0, e0, _, w0⟩ := DataW.trod_int Try.underlying28 g0
    obtain ⟨n1, e1, _, w1⟩ := DataW.trod_int Try.underlying28 g1
    obtain ⟨n2, e2, _, w2⟩ := DataW.trod_int Try.underlying5 g2
    obtain ⟨A, L, c, ks, e3, hL, hLm, hA, hks⟩ := open_keys g3 (fun k hk => hw k (by
      rw [hy]
      simp only [DataW.weights, Try.underlying31]
      exact DataW.weights_mem_each (j := 3) rfl rfl k hk))
    obtain ⟨t4, e4, _, w4⟩ := DataW.trod_string Try.underlying9 g4
    obtain ⟨t5, e5, _, w5⟩ := DataW.trod_string Try.underlying9 g5
    obtain ⟨n6, e6, _, w6⟩ := DataW.trod_int Try.underlying2 g6
    obtain ⟨cl, rfl, hcl⟩ := wf_u32n w0
    obtain ⟨sq, rfl, hsq⟩ := wf_u32n w1
    obtain ⟨kd, rfl, hkd⟩ := wf_u8c w2
    simp at e0 e1 e2 e4 e5 e6
    subst e0 e1 e2 e3 e4 e5 e6
    exact ⟨⟨cl, sq, kd, A, L, c, ks, t4, t5, n6⟩, ⟨hcl, hsq, hkd, wf_i64c w6, hL, hLm, hA, hks, w4, w5⟩, rfl⟩
set_option maxRecDepth 20000 in
/-- A command that came in. -/
theorem open_cmd {W : World} {v : Value} {d : DataW H} {p : List MemPlace} (h : DataW.Trod enc Try.prog W 0 (fun _ => true) true 31 v d p) (hw : ∀ k ∈ d.weights Try.prog 31, k ≤ reachBytes) :
    ∃ a : CmdV, v = a.val ∧ a.ok W := by
  obtain ⟨fuel, hf⟩ := h
  obtain ⟨a, ha, hc⟩ := open_cmd1 hf hw
  refine ⟨a, ?_, ha⟩
  have hs : v.cells.toList.length = 7 := by rw [hc]; rfl
  cases v with
  | agg cs =>
    have : cs.toList = a.cells.toList := hc
    rw [CmdV.val, Array.toList_inj.1 this]
  | _ => simp [Value.cells] at hs
set_option maxRecDepth 20000 in
/-- A row of commands that came in. -/
theorem open_cmds {W : World} {base : Nat} {v : Value} {d : DataW H} {p : List MemPlace} (hval : Value.okWide Try.prog W .any base 22 v) (h : DataW.Trod enc Try.prog W 0 (fun _ => true) true 22 v d p) (hw : ∀ k ∈ d.weights Try.prog 22, k ≤ reachBytes) :
    ∃ A n c ls, v = .slice A n c ∧ n = List.length ls ∧ n ≤ c ∧ n ≤ 140737488351232 ∧ HasC W A ls := by
  obtain ⟨a0, len, cap, rfl⟩ := okWide_slice Try.underlying22 hval
  obtain ⟨fuel, hf⟩ := h
  rcases Deep.open_slice Try.underlying22 hf with ⟨hcs, hx⟩ | ⟨a, len', cap', m, n, D, Pl, hcs, _, hl, hm, hmm, hdx, hall⟩
  · simp [Value.cells] at hcs
    obtain ⟨rfl, rfl, rfl⟩ := hcs
    exact ⟨none, 0, 0, [], rfl, rfl, Nat.le_refl _, Nat.zero_le _, fun h => absurd rfl h⟩
  · simp [Value.cells] at hcs
    obtain ⟨rfl, rfl, rfl⟩ := hcs
    simp only [if_true] at hmm
    have hd : d = .slice ((List.range len).map D) ((List.range (m - len)).map fun j => D (len + j)) := congrArg Prod.fst hdx
    have hlen2 : len ≤ 140737488351232 := by
      rw [hd] at hw
      have := hw _ (by simp only [DataW.weights, Try.underlying22]; exact List.mem_cons_self ..)
      rw [bytesCmd] at this
      simp only [List.length_map, List.length_range, reachBytes] at this
      omega
    have each : ∀ i, i < len → ∃ x : CmdV, x.ok W ∧ ∀ j u, x.cells[j]? = some u → W.cell? ((a.add (i * 7)).add j) = some u := by
      intro i hi
      obtain ⟨cs', h1, h2⟩ := hall i (by omega)
      rw [cellsCmd] at h1
      obtain ⟨_, hlen, hcell⟩ := World.cells?_some h1
      obtain ⟨x, hx, hxc⟩ := open_cmd1 h2 (fun k hk => hw k (by
        rw [hd]
        simp only [DataW.weights, Try.underlying22]
        exact List.mem_cons_of_mem _ (List.mem_append_left _ (mem_weightsAllC (List.mem_map.2 ⟨i, List.mem_range.2 hi, rfl⟩) k hk))))
      refine ⟨x, hx, fun j u hj => ?_⟩
      have hj7 : j < 7 := (Array.getElem?_eq_some_iff.1 hj).1
      rw [hcell j hj7, hxc, Array.getElem?_toList]
      exact hj
    have : Inhabited CmdV := ⟨⟨0, 0, 0, none, 0, 0, [], ⟨#[]⟩, ⟨#[]⟩, 0⟩⟩
    obtain ⟨F, hF⟩ := Deep.choose_lt each
    refine ⟨_, len, cap, (List.range len).map F, rfl, by simp, hl, hlen2, fun hne => ?_⟩
    have hpos : 0 < len := by
      rcases Nat.eq_zero_or_pos len with h0 | h0
      · subst h0; simp at hne
      · exact h0
    have c00 := (hF 0 hpos).2 0 _ rfl
    obtain ⟨ab, ao, spot⟩ := a
    have hspot : spot = none := by simpa [Addr.add] using World.cell?_spot c00
    subst hspot
    refine ⟨ab, ao, rfl, ?_, fun j hj => ?_⟩
    · have := World.block_lt_of_cell? W _ c00
      rw [addr_add, addr_add] at this
      exact this
    · have hj' : j < len := by simpa using hj
      have e : ((List.range len).map F)[j] = F j := by simp
      rw [e]
      refine ⟨fun i u hu => ?_, (hF j hj').1⟩
      have hc := (hF j hj').2 i u hu
      rw [addr_add, addr_add] at hc
      exact hc
end
end Go.Proofs.Ytooaobadnainkaa
