/- Opening rows of acts on a table, and a reply, that came in. -/
import Derived.Test.YtelbgjnaceffeaaSsAct
import Derived.Deep.Slices
import Derived.ProofKit
import Derived.SizedLaws
namespace Go.Proofs.Ytelbgjnaceffeaa
open Go.ChangeShapes Go.WideShapes Go.ChangeAt Go.RowKit Go.ChangeMaps

theorem cellsSA : Try.prog.cellsOf 41 = 5 := by kernel_rfl
theorem cellsSR : Try.prog.cellsOf 36 = 2 := by kernel_rfl
theorem cellsSb : Try.prog.cellsOf 4 = 1 := by kernel_rfl
theorem cellsSu : Try.prog.cellsOf 34 = 1 := by kernel_rfl
theorem cellsS8 : Try.prog.cellsOf 5 = 1 := by kernel_rfl
theorem cellsSs : Try.prog.cellsOf 9 = 1 := by kernel_rfl
theorem bytesSA : Try.prog.bytesOf 41 = 40 := by kernel_rfl
theorem wf_u32s {n : Int} (h : (Lit.int .u32 n).wf = true) : ∃ k : Nat, n = (k : Int) ∧ k < 4294967296 := by
  simp [Lit.wf, IntKind.min, IntKind.max, IntKind.signed, IntKind.bits] at h
  exact ⟨n.toNat, by omega, by omega⟩
theorem wf_u8s {n : Int} (h : (Lit.int .u8 n).wf = true) : ∃ k : Nat, n = (k : Int) ∧ k < 256 := by
  simp [Lit.wf, IntKind.min, IntKind.max, IntKind.signed, IntKind.bits] at h
  exact ⟨n.toNat, by omega, by omega⟩
def SA.cells (a : SA) : Array Value := #[.bool a.kp, .int .u32 (a.cl : Int), .int .u32 (a.sq : Int), .int .u8 (a.cd : Int), .string a.tx]
section
variable {H : Type} {enc : TypeId × Value → H}
set_option maxRecDepth 20000 in
/-- A reply within. -/
theorem open_reply1 {W : World} {n : Nat} {cs : List Value} {y : DataW H × List MemPlace} (h : DataW.trod enc Try.prog W 0 (fun _ => true) true n 36 cs = some y) :
    ∃ (cd : Nat) (tx : ByteArray), cd < 256 ∧ tx.size ≤ maxLen ∧ cs = [.int .u8 (cd : Int), .string tx] := by
  obtain ⟨xs, m, _, hy, hcl, hxl, hf⟩ := DataW.trod_struct Try.underlying36 h
  rw [cellsSR] at hcl
  match xs, hxl, cs, hcl with
  | [y0, y1], _, [v0, v1], _ =>
    have g0 := hf 0 _ rfl
    have g1 := hf 1 _ rfl
    simp [cellsS8, cellsSs] at g0 g1
    obtain ⟨n0, e0, _, w0⟩ := DataW.trod_int Try.underlying5 g0
    obtain ⟨t1, e1, _, w1⟩ := DataW.trod_string Try.underlying9 g1
    obtain ⟨cd, rfl, hcd⟩ := wf_u8s w0
    simp at e0 e1
    subst e0 e1
    exact ⟨cd, t1, hcd, w1, rfl⟩
set_option maxRecDepth 20000 in
/-- A reply that came in. -/
theorem open_reply {W : World} {v : Value} {d : DataW H} {p : List MemPlace} (h : DataW.Trod enc Try.prog W 0 (fun _ => true) true 36 v d p) :
    ∃ (cd : Nat) (tx : ByteArray), cd < 256 ∧ tx.size ≤ maxLen ∧ v = .agg #[.int .u8 (cd : Int), .string tx] := by
  obtain ⟨fuel, hf⟩ := h
  obtain ⟨cd, tx, h1, h2, hc⟩ := open_reply1 hf
  refine ⟨cd, tx, h1, h2, ?_⟩
  have hs : v.cells.toList.length = 2 := by rw [hc]; rfl
  cases v with
  | agg cs =>
    have : cs.toList = [.int .u8 (cd : Int), .string tx] := hc
    rw [← Array.toList_inj.1 (show cs.toList = (#[.int .u8 (cd : Int), .string tx] : Array Value).toList from this)]
  | _ => simp [Value.cells] at hs
set_option maxRecDepth 20000 in
/-- An act within. -/
theorem open_sa1 {W : World} {n : Nat} {cs : List Value} {y : DataW H × List MemPlace} (h : DataW.trod enc Try.prog W 0 (fun _ => true) true n 41 cs = some y) :
    ∃ a : SA, a.ok ∧ cs = a.cells.toList := by
  obtain ⟨xs, m, _, hy, hcl, hxl, hf⟩ := DataW.trod_struct Try.underlying41 h
  rw [cellsSA] at hcl
  match xs, hxl, cs, hcl with
  | [y0, y1, y2, y3], _, [v0, v1, v2, v3, v4], _ =>
    have g0 := hf 0 _ rfl
    have g1 := hf 1 _ rfl
    have g2 := hf 2 _ rfl
    have g3 := hf 3 _ rfl
    simp [cellsSb, cellsSu, cellsSR] at g0 g1 g2 g3
    obtain ⟨b0, e0, _⟩ := DataW.trod_bool Try.underlying4 g0
    obtain ⟨n1, e1, _, w1⟩ := DataW.trod_int Try.underlying34 g1
    obtain ⟨n2, e2, _, w2⟩ := DataW.trod_int Try.underlying34 g2
    obtain ⟨cd, tx, h3, h4, e3⟩ := open_reply1 g3
    obtain ⟨cl, rfl, hcl⟩ := wf_u32s w1
    obtain ⟨sq, rfl, hsq⟩ := wf_u32s w2
    simp at e0 e1 e2 e3
    obtain ⟨e3, e4⟩ := e3
    subst e0 e1 e2 e3 e4
    exact ⟨⟨b0, cl, sq, cd, tx⟩, ⟨hcl, hsq, h3, h4⟩, rfl⟩
set_option maxRecDepth 20000 in
/-- A row of acts that came in. -/
theorem open_sas {W : World} {base : Nat} {v : Value} {d : DataW H} {p : List MemPlace} (hval : Value.okWide Try.prog W .any base 33 v) (h : DataW.Trod enc Try.prog W 0 (fun _ => true) true 33 v d p) (hw : ∀ k ∈ d.weights Try.prog 33, k ≤ reachBytes) :
    ∃ A n c ls, v = .slice A n c ∧ n = List.length ls ∧ n ≤ c ∧ n ≤ 140737488351232 ∧ HasSA W A ls := by
  obtain ⟨a0, len, cap, rfl⟩ := okWide_slice Try.underlying33 hval
  obtain ⟨fuel, hf⟩ := h
  rcases Deep.open_slice Try.underlying33 hf with ⟨hcs, hx⟩ | ⟨a, len', cap', m, n, D, Pl, hcs, _, hl, hm, hmm, hdx, hall⟩
  · simp [Value.cells] at hcs
    obtain ⟨rfl, rfl, rfl⟩ := hcs
    exact ⟨none, 0, 0, [], rfl, rfl, Nat.le_refl _, Nat.zero_le _, fun h => absurd rfl h⟩
  · simp [Value.cells] at hcs
    obtain ⟨rfl, rfl, rfl⟩ := hcs
    simp only [if_true] at hmm
    have hd : d = .slice ((List.range len).map D) ((List.range (m - len)).map fun j => D (len + j)) := congrArg Prod.fst hdx
    have hlen2 : len ≤ 140737488351232 := by
      rw [hd] at hw
      have := hw _ (by simp only [DataW.weights, Try.underlying33]; exact List.mem_cons_self ..)
      rw [bytesSA] at this
      simp only [List.length_map, List.length_range, reachBytes] at this
      omega
    have each : ∀ i, i < len → ∃ x : SA, x.ok ∧ ∀ j u, x.cells[j]? = some u → W.cell? ((a.add (i * 5)).add j) = some u := by
      intro i hi
      obtain ⟨cs', h1, h2⟩ := hall i (by omega)
      rw [cellsSA] at h1
      obtain ⟨_, hlen, hcell⟩ := World.cells?_some h1
      obtain ⟨x, hx, hxc⟩ := open_sa1 h2
      refine ⟨x, hx, fun j u hj => ?_⟩
      have hj5 : j < 5 := (Array.getElem?_eq_some_iff.1 hj).1
      rw [hcell j hj5, hxc, Array.getElem?_toList]
      exact hj
    have : Inhabited SA := ⟨⟨false, 0, 0, 0, ⟨#[]⟩⟩⟩
    obtain ⟨F, hF⟩ := Deep.choose_lt each
    refine ⟨_, len, cap, (List.range len).map F, rfl, by simp, hl, hlen2, fun hne => ?_⟩
    have hpos : 0 < len := by
      rcases Nat.eq_zero_or_pos len with h0 | h0
      · subst h0; simp at hne
      · exact h0
    have c00 := (hF 0 hpos).2 0 _ rfl
    obtain ⟨ab, ao, spot⟩ := a
    have hspot : spot = none := by simpa [Addr.add] using World.cell?_spot c00
    subst hspot
    refine ⟨ab, ao, rfl, ?_, fun j hj => ?_⟩
    · have := World.block_lt_of_cell? W _ c00
      rw [addr_add, addr_add] at this
      exact this
    · have hj' : j < len := by simpa using hj
      obtain ⟨hok, hc⟩ := hF j hj'
      have e : ((List.range len).map F)[j] = F j := by simp
      rw [e]
      have c0 := hc 0 _ rfl
      have c1 := hc 1 _ rfl
      have c2 := hc 2 _ rfl
      have c3 := hc 3 _ rfl
      have c4 := hc 4 _ rfl
      rw [addr_add, addr_add] at c0 c1 c2 c3 c4
      exact ⟨hok, c0, c1, c2, c3, c4⟩
end
end Go.Proofs.Ytelbgjnaceffeaa
