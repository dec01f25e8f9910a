/- Parts of the proof: RxRu, WvN, WvP, WvQ, WxQ. -/
import Derived.Test.YtfjmdkhemnmkpaaGreatDoorA17
import Derived.Test.YtfjmdkhemnmkpaaGreatDoorA13
import Derived.Test.YtfjmdkhemnmkpaaGreatDoorA02
import Derived.Test.YtfjmdkhemnmkpaaGreatDoorA10
import Derived.Test.YtfjmdkhemnmkpaaGreatDoorA16
import Derived.Test.YtfjmdkhemnmkpaaGreatDoorA01
import Derived.Test.YtfjmdkhemnmkpaaGreatDoorProg
import Derived.Test.YtfjmdkhemnmkpaaGreatDoorRows
import Derived.Laws.BitsAllLaws
import Derived.Laws.Bits64
import Derived.Laws.BitsLemmas
import Derived.Below
import Derived.Laws.OwnMore
import Derived.Laws.MakeOwn
import Derived.Laws.CopyRow
import Derived.Laws.IdiomCopy
import Derived.Laws.BytesArg
import Derived.Shelf.Bytes.SlSmallAll
import Derived.Deep.AppendLies
import Derived.Deep.AppendSrc
import Derived.OwnWalk
import Derived.BigFrame
import Derived.OwnWalkIn
import Derived.Maps.AppendAt
import Derived.OrdersIn
import Derived.RangeFuncBox
import Derived.WalkKit
import Derived.Lib.Hide
import Derived.Lib.SliceRun
import Derived.ProofKit
import Derived.Deep.RegionHeld3
import Derived.RangeFuncNested
import Derived.RangeFuncBound
import Derived.RangeFuncCalls
import Derived.RangeFuncLeaves
import Derived.Deep.DeepCutAuto
import Derived.IntWalk
import Derived.Deep.DeepFit
import Derived.Deep.CutBlock
import Derived.Test.YtfjmdkhemnmkpaaGreatDoorA14
namespace Go.Proofs.YtfjmdkhemnmkpaaGreatDoor
open Go.RowKit
theorem runO_one (f : Nat → CM) : ∀ (o : List Nat) (a : AM), (runO f o a).1 = oneO (o.map f) a
  | [], _ => rfl
  | i :: o, a => runO_one f o (doA a (f i)).1
end Go.Proofs.YtfjmdkhemnmkpaaGreatDoor

namespace Go.Proofs.YtfjmdkhemnmkpaaGreatDoor
open Go.RowKit
def KindA (w : World) (k : Nat) : Prop := (∃ es ck, w.heap[k]? = some (.map es ck)) ∨ ∃ cs t z, w.heap[k]? = some (.cells cs t z) ∧ ∀ (o : Nat) (v : Value), cs[o]? = some v → (∃ q, v = .pointer q) ∨ (∃ q, v = .map q) ∨ ∃ n, v = .int .u64 n
theorem KindA.cell {w : World} {k o : Nat} {v : Value} (h : KindA w k) (hc : w.cell? ⟨k, o, none⟩ = some v) : (∃ q, v = .pointer q) ∨ (∃ q, v = .map q) ∨ ∃ n, v = .int .u64 n := by
  rcases h with ⟨es, ck, h⟩ | ⟨cs, t, z, h, hv⟩
  · unfold World.cell? at hc
    rw [h] at hc
    simp at hc
  · unfold World.cell? at hc
    rw [h] at hc
    exact hv o v (by simpa using hc)
end Go.Proofs.YtfjmdkhemnmkpaaGreatDoor

namespace Go.Proofs.YtfjmdkhemnmkpaaGreatDoor
open Go.RowKit Go.Maps
theorem appQ_sorted {F : Nat → Prop} {w : World} {R : Nat} {a : AM} (h : AppQ F w R a) : SortedA a := by
  obtain ⟨Rk, Rs, Fb, _, h2, _, _⟩ := h.ex
  obtain ⟨Fk, Fs, ⟨_, _, hk, _⟩, ⟨_, _, hs, _⟩, _, _⟩ := h2.ex
  exact ⟨hk, hs⟩
theorem appQ_kinds {F : Nat → Prop} {w : World} {R : Nat} {a : AM} (h : AppQ F w R a) : ∀ k, F k → KindA w k := by
  obtain ⟨Rk, Rs, Fb, h1, h2, _, h4⟩ := h.ex
  obtain ⟨Fk, Fs, ⟨p, hp, _, hpF⟩, ⟨q, hq, _, hqF⟩, _, h5⟩ := h2.ex
  have one : ∀ {p : Option Nat} {v : Value} {o : Nat}, (#[Value.map p] : Array Value)[o]? = some v → (∃ q, v = .pointer q) ∨ (∃ q, v = .map q) ∨ ∃ n, v = .int .u64 n := by
    intro p v o ho
    cases o with
    | zero => exact .inr (.inl ⟨p, by simpa using ho.symm⟩)
    | succ o => simp at ho
  intro k hk
  rcases (h4 k).1 hk with hk | rfl
  · rcases (h5 k).1 hk with hk | hk
    · rcases (hpF k).1 hk with rfl | e
      · exact .inr ⟨_, _, _, hp.cell, fun o v ho => one ho⟩
      · exact .inl (hp.map.blk e)
    · rcases (hqF k).1 hk with rfl | e
      · exact .inr ⟨_, _, _, hq.cell, fun o v ho => one ho⟩
      · exact .inl (hq.map.blk e)
  · refine .inr ⟨_, _, _, h1, fun o v ho => ?_⟩
    match o with
    | 0 => exact .inl ⟨some ⟨Rk, 0, none⟩, by simpa using ho.symm⟩
    | 1 => exact .inl ⟨some ⟨Rs, 0, none⟩, by simpa using ho.symm⟩
    | 2 => exact .inr (.inr ⟨(a.n : Int), by simpa using ho.symm⟩)
    | o + 3 => simp at ho
structure RunW : Prop where
  run : ∀ {F : Nat → Prop} {w : World} {R : Nat} {a : AM} (A : Option Addr) (L c : Nat) (l : List CmdV) (f : Value) (pk : Nat → Nat → Nat → Int), AppQ F w R a → TabK w → LimAn 1000 a → L = l.length → L ≤ 100 → HasCF F w A l → (∀ v ∈ l, ¬ v.great) → PickF F w f pk →
    Calls Tryz.prog 12 #[.pointer (some ⟨R, 0, none⟩), .slice A L c, f] w fun e W' => ∃ A' c', e = .returned (.slice A' L c') ∧ L ≤ c' ∧ HasD W' A' (runD pk (l.map (·.m)) a) ∧ ∃ F', AppQ F' W' R (endR pk (l.map (·.m)) a) ∧ Only F w W' ∧ (∀ k, F' k → F k ∨ w.heap.size ≤ k) ∧ NotF w.heap.size F' A'
  none_ : ∀ {F : Nat → Prop} {w : World} {R : Nat} {a : AM} (A : Option Addr) (L c : Nat) (l : List CmdV), AppQ F w R a → TabK w → LimAn 1000 a → L = l.length → L ≤ 100 → HasCF F w A l → (∀ v ∈ l, ¬ v.great) →
    Calls Tryz.prog 12 #[.pointer (some ⟨R, 0, none⟩), .slice A L c, .nilFunc] w fun e W' => ∃ A' c', e = .returned (.slice A' L c') ∧ L ≤ c' ∧ HasD W' A' (runD (picksM []) (l.map (·.m)) a) ∧ ∃ F', AppQ F' W' R (endR (picksM []) (l.map (·.m)) a) ∧ Only F w W' ∧ (∀ k, F' k → F k ∨ w.heap.size ≤ k) ∧ NotF w.heap.size F' A'
  one : ∀ {F : Nat → Prop} {w : World} {R : Nat} {a : AM} (A : Option Addr) (L c : Nat) (l : List CmdV), AppQ F w R a → TabK w → LimAn 1000 a → L = l.length → L ≤ 100 → HasCF F w A l → (∀ v ∈ l, ¬ v.great) →
    Calls Tryz.prog 17 #[.pointer (some ⟨R, 0, none⟩), .slice A L c] w fun e W' => ∃ A' c', e = .returned (.slice A' L c') ∧ L ≤ c' ∧ HasD W' A' (oneD (l.map (·.m)) a) ∧ ∃ F', AppQ F' W' R (endO (l.map (·.m)) a) ∧ Only F w W' ∧ (∀ k, F' k → F k ∨ w.heap.size ≤ k) ∧ NotF w.heap.size F' A'
  runNil : ∀ (A : Option Addr) (L c : Nat) (w : World), TabK w → L ≤ 140737488351232 → Calls Tryz.prog 12 #[.pointer none, .slice A L c, .nilFunc] w fun e W' => ∃ A' c', e = .returned (.slice A' 0 c') ∧ Below w.heap.size w W'
  oneNil : ∀ (A : Option Addr) (L c : Nat) (w : World), TabK w → L ≤ 140737488351232 → Calls Tryz.prog 17 #[.pointer none, .slice A L c] w fun e W' => ∃ A' c', e = .returned (.slice A' 0 c') ∧ Below w.heap.size w W'
def wvK (r : RunW) : WvK TabK where
  grew := TabK.grew
  Pl := AppQ
  keep := AppQ.keep
  lt := AppQ.lt
  sorted := appQ_sorted
  new := fun w _ => anew_any w
  fold := fun A L c l w hT hL hm hA hng => afold_any A L c l w hT hL hm hA hng
  same := fun _ h1 h2 => asame_any h1 h2
  run := r.run
theorem wvO (r : RunW) : WvO (wvK r) := ⟨r.one⟩
end Go.Proofs.YtfjmdkhemnmkpaaGreatDoor

namespace Go.Proofs.YtfjmdkhemnmkpaaGreatDoor
open Go.RowKit Go.Maps
def KindF (w : World) (k : Nat) : Prop := (∃ es ck, w.heap[k]? = some (.map es ck)) ∨ ∃ cs t z v, w.heap[k]? = some (.cells cs t z) ∧ cs[0]? = some v ∧ ((∃ q, v = .pointer q) ∨ ∃ q, v = .map q)
theorem KindF.cell {w : World} {k : Nat} {v : Value} (h : KindF w k) (hc : w.cell? ⟨k, 0, none⟩ = some v) : (∃ q, v = .pointer q) ∨ ∃ q, v = .map q := by
  rcases h with ⟨es, ck, h⟩ | ⟨cs, t, z, u, h, hv, hu⟩
  · unfold World.cell? at hc
    rw [h] at hc
    simp at hc
  · unfold World.cell? at hc
    rw [h] at hc
    have : cs[0]? = some v := by simpa using hc
    rw [hv] at this
    cases this
    exact hu
theorem appQ_kindF {F : Nat → Prop} {w : World} {R : Nat} {a : AM} (h : AppQ F w R a) : ∀ k, F k → KindF w k := by
  obtain ⟨Rk, Rs, Fb, h1, h2, _, h4⟩ := h.ex
  obtain ⟨Fk, Fs, ⟨p, hp, _, hpF⟩, ⟨q, hq, _, hqF⟩, _, h5⟩ := h2.ex
  intro k hk
  rcases (h4 k).1 hk with hk | rfl
  · rcases (h5 k).1 hk with hk | hk
    · rcases (hpF k).1 hk with rfl | e
      · exact .inr ⟨_, _, _, _, hp.cell, rfl, .inr ⟨_, rfl⟩⟩
      · exact .inl (hp.map.blk e)
    · rcases (hqF k).1 hk with rfl | e
      · exact .inr ⟨_, _, _, _, hq.cell, rfl, .inr ⟨_, rfl⟩⟩
      · exact .inl (hq.map.blk e)
  · exact .inr ⟨_, _, _, _, h1, rfl, .inl ⟨_, rfl⟩⟩
def KindT (w : World) (k : Nat) : Prop := (∃ es ck, w.heap[k]? = some (.map es ck)) ∨ ∃ cs t z, w.heap[k]? = some (.cells cs t z) ∧ (t = 92 ∨ t = 126 ∨ t = 130) ∧ ∀ (o : Nat) (v : Value), cs[o]? = some v → (∃ q, v = .pointer q) ∨ (∃ q, v = .map q) ∨ ∃ n, v = .int .u64 n
theorem KindT.a {w : World} {k : Nat} (h : KindT w k) : KindA w k := by
  rcases h with h | ⟨cs, t, z, h1, _, h2⟩
  · exact .inl h
  · exact .inr ⟨cs, t, z, h1, h2⟩
theorem appQ_kindT {F : Nat → Prop} {w : World} {R : Nat} {a : AM} (h : AppQ F w R a) : ∀ k, F k → KindT w k := by
  intro k hk
  have hA := appQ_kinds h k hk
  obtain ⟨Rk, Rs, Fb, h1, h2, _, h4⟩ := h.ex
  obtain ⟨Fk, Fs, ⟨p, hp, _, hpF⟩, ⟨q, hq, _, hqF⟩, _, h5⟩ := h2.ex
  rcases hA with hA | ⟨cs, t, z, k1, k2⟩
  · exact .inl hA
  · refine .inr ⟨cs, t, z, k1, ?_, k2⟩
    rcases (h4 k).1 hk with hk | rfl
    · rcases (h5 k).1 hk with hk | hk
      · rcases (hpF k).1 hk with rfl | e
        · have := hp.cell
          rw [k1] at this
          simp at this
          exact .inr (.inl this.2.1)
        · obtain ⟨es, ck, hm⟩ := hp.map.blk e
          rw [k1] at hm
          cases hm
      · rcases (hqF k).1 hk with rfl | e
        · have := hq.cell
          rw [k1] at this
          simp at this
          exact .inr (.inr this.2.1)
        · obtain ⟨es, ck, hm⟩ := hq.map.blk e
          rw [k1] at hm
          cases hm
    · rw [k1] at h1
      simp at h1
      exact .inl h1.2.1
theorem var_only {P : Program} {F : Nat → Prop} {w w' : World} {n : String} {cs : Array Value} {v : Value} (h : w.var? P n = some cs) (ho : Only F w w') (hk : ∀ k, F k → KindF w k) (hv : cs[0]? = some v) (hn : ¬ ((∃ q, v = .pointer q) ∨ ∃ q, v = .map q)) : w'.var? P n = some cs := by
  unfold World.var? at h ⊢
  cases hg : P.globalNamed n with
  | none => rw [hg] at h; cases h
  | some g =>
    rw [hg] at h
    simp only [Option.bind_some] at h ⊢
    cases hc : w.heap[g]? with
    | none => rw [hc] at h; cases h
    | some o =>
      rw [ho.block g (Array.getElem?_eq_some_iff.1 hc).1 (fun hf => by
        rw [hc] at h
        cases o with
        | cells a b c =>
          have e : a = cs := by simpa using h
          subst e
          refine hn ((hk g hf).cell ?_)
          unfold World.cell?
          rw [hc]
          simpa using hv
        | _ => cases h), hc]
      rw [hc] at h
      exact h
theorem TabK.only {F : Nat → Prop} {w w' : World} (h : TabK w) (ho : Only F w w') (hk : ∀ k, F k → KindF w k) : TabK w' := by
  refine ⟨⟨Nat.lt_of_lt_of_le h.keys.1 ho.size, fun i hi => ?_⟩, var_only h.pow ho hk (v := .int .u64 1) rfl (by rintro (⟨q, e⟩ | ⟨q, e⟩) <;> cases e), ?_, ?_⟩
  · have hb : w'.heap[(0 : Nat)]? = w.heap[(0 : Nat)]? := ho.block _ h.keys.1 fun hf => by
      rcases (hk _ hf).cell (h.keys.2 0 (by omega)).1 with ⟨q, e⟩ | ⟨q, e⟩ <;> cases e
    exact ⟨(World.cell?_of_block hb).trans (h.keys.2 i hi).1, (World.cell?_of_block hb).trans (h.keys.2 i hi).2⟩
  · obtain ⟨tp, p, e⟩ := h.syn
    exact ⟨tp, p, var_only e ho hk (v := .iface tp p) rfl (by rintro (⟨q, e⟩ | ⟨q, e⟩) <;> cases e)⟩
  · obtain ⟨tp, p, e⟩ := h.ran
    exact ⟨tp, p, var_only e ho hk (v := .iface tp p) rfl (by rintro (⟨q, e⟩ | ⟨q, e⟩) <;> cases e)⟩
def cellD (d : DV) (j : Nat) : Value := if j = 0 then .int .u8 (d.cd : Int) else if j = 1 then .string d.tx else if j = 2 then .bool d.fr else if j = 3 then .int .i64 (d.wv : Int) else .int .i64 (d.tn : Int)
theorem cellD_cells (d : DV) {j : Nat} (h : j < 5) : d.cells[j]? = some (cellD d j) := by
  match j, h with
  | 0, _ => rfl
  | 1, _ => rfl
  | 2, _ => rfl
  | 3, _ => rfl
  | 4, _ => rfl
def rowDn (T : Nat → DV) (n : Nat) : Array Value := Array.ofFn (n := n * 5) fun i => cellD (T (i.val / 5)) (i.val % 5)
theorem rowDn_size (T : Nat → DV) (n : Nat) : (rowDn T n).size = n * 5 := by simp [rowDn]
theorem rowDn_get (T : Nat → DV) (n i : Nat) : (rowDn T n)[i]? = if i < n * 5 then some (cellD (T (i / 5)) (i % 5)) else none := by
  unfold rowDn
  rw [Array.getElem?_ofFn]
  by_cases h : i < n * 5
  · rw [dif_pos h, if_pos h]
  · rw [dif_neg h, if_neg h]
theorem rowDn_set (T : Nat → DV) {n q : Nat} (h : q < n) (d : DV) : (((((rowDn T n).setIfInBounds (q * 5) (.int .u8 (d.cd : Int))).setIfInBounds (q * 5 + 1) (.string d.tx)).setIfInBounds (q * 5 + 2) (.bool d.fr)).setIfInBounds (q * 5 + 3) (.int .i64 (d.wv : Int))).setIfInBounds (q * 5 + 4) (.int .i64 (d.tn : Int)) = rowDn (updT T q d) n := by
  apply Array.ext_getElem?
  intro i
  simp only [Array.getElem?_setIfInBounds, Array.size_setIfInBounds, rowDn_get, rowDn_size]
  by_cases hi : i / 5 = q
  · have h5 : i = q * 5 ∨ i = q * 5 + 1 ∨ i = q * 5 + 2 ∨ i = q * 5 + 3 ∨ i = q * 5 + 4 := by omega
    have hm : i % 5 < 5 := Nat.mod_lt _ (by decide)
    rcases h5 with e | e | e | e | e <;> subst e
    · simp (disch := omega) [updT, cellD, show (q * 5) % 5 = 0 by omega, hi, show q * 5 < n * 5 by omega]
    · simp (disch := omega) [updT, cellD, show (q * 5 + 1) % 5 = 1 by omega, hi, show q * 5 + 1 < n * 5 by omega]
    · simp (disch := omega) [updT, cellD, show (q * 5 + 2) % 5 = 2 by omega, hi, show q * 5 + 2 < n * 5 by omega]
    · simp (disch := omega) [updT, cellD, show (q * 5 + 3) % 5 = 3 by omega, hi, show q * 5 + 3 < n * 5 by omega]
    · simp (disch := omega) [updT, cellD, show (q * 5 + 4) % 5 = 4 by omega, hi, show q * 5 + 4 < n * 5 by omega]
  · rw [if_neg (by omega), if_neg (by omega), if_neg (by omega), if_neg (by omega), if_neg (by omega)]
    unfold updT
    simp only [if_neg hi]
theorem HasD.row {W : World} {b n : Nat} {T : Nat → DV} {ty : TypeId} {ds : List DV} (h : W.heap[b]? = some (.cells (rowDn T n) ty (0, 0))) (hl : ds.length ≤ n) (hT : ∀ j (h : j < ds.length), ds[j] = T j) : HasD W (some ⟨b, 0, none⟩) ds := fun _ =>
  ⟨b, 0, rfl, (Array.getElem?_eq_some_iff.1 h).1, fun j hj i u hu => by
    have hi : i < 5 := by
      have := (Array.getElem?_eq_some_iff.1 hu).1
      simpa [DV.cells] using this
    rw [cellD_cells _ hi, hT j hj] at hu
    rw [blk_cell h, rowDn_get, if_pos (by omega), show (0 + j * 5 + i) / 5 = j by omega, show (0 + j * 5 + i) % 5 = i by omega]
    exact hu⟩
def D0 : DV := ⟨0, ⟨#[]⟩, false, 0, 0⟩
theorem made_D (n : Nat) : madeCells #[.int .u8 0, .string ⟨#[]⟩, .bool false, .int .i64 0, .int .i64 0] (n * 5) = rowDn (fun _ => D0) n := by
  apply Array.ext_getElem?
  intro i
  rw [rowDn_get]
  by_cases h : i < n * 5
  · rw [if_pos h, Array.getElem?_eq_getElem (by rw [size_madeCells]; exact h)]
    have h5 : i % 5 = 0 ∨ i % 5 = 1 ∨ i % 5 = 2 ∨ i % 5 = 3 ∨ i % 5 = 4 := by omega
    rcases h5 with hm | hm | hm | hm | hm <;> simp [madeCells, hm, D0, cellD]
  · rw [if_neg h, Array.getElem?_eq_none (by rw [size_madeCells]; omega)]
theorem infoDn : (Tryz.prog.info? 47).map (fun i => (i.zero, i.size, i.bytes)) = some (some (.agg #[.int .u8 0, .string ⟨#[]⟩, .bool false, .int .i64 0, .int .i64 0]), 5, 48) := by kernel_rfl
theorem mk_D (w : World) (M : Nat) (hM : M ≤ 100000) : (Instr.makeSlice 40 (.int .i64 (M : Int)) (.int .i64 (M : Int))).run Tryz.prog w = .ok (.slice (some ⟨w.heap.size, 0, none⟩) M M) (w.alloc (.cells (rowDn (fun _ => D0) M) 47)) := by
  have h := infoDn
  cases hi : Tryz.prog.info? 47 with
  | none => rw [hi] at h; cases h
  | some i =>
    rw [hi] at h
    simp at h
    obtain ⟨hz, hs, hb⟩ := h
    have := run_make (P := Tryz.prog) w 40 47 i _ Tryz.underlying40 hi hz .i64 .i64 (M : Int) (M : Int) (by omega) (by omega) (by rw [hb]; omega) (by omega)
    rw [hs] at this
    rw [← made_D]
    exact this
def setDn (W : World) (b q : Nat) (d : DV) : World := ((((W.setCell ⟨b, q * 5, none⟩ (.int .u8 (d.cd : Int))).setCell ⟨b, q * 5 + 1, none⟩ (.string d.tx)).setCell ⟨b, q * 5 + 2, none⟩ (.bool d.fr)).setCell ⟨b, q * 5 + 3, none⟩ (.int .i64 (d.wv : Int))).setCell ⟨b, q * 5 + 4, none⟩ (.int .i64 (d.tn : Int))
theorem setDn_row {W : World} {b q n : Nat} {T : Nat → DV} {ty : TypeId} (d : DV) (h : W.heap[b]? = some (.cells (rowDn T n) ty (0, 0))) (hq : q < n) : (setDn W b q d).heap[b]? = some (.cells (rowDn (updT T q d) n) ty (0, 0)) := by
  have := blk_set (blk_set (blk_set (blk_set (blk_set h (q * 5) (.int .u8 (d.cd : Int))) (q * 5 + 1) (.string d.tx)) (q * 5 + 2) (.bool d.fr)) (q * 5 + 3) (.int .i64 (d.wv : Int))) (q * 5 + 4) (.int .i64 (d.tn : Int))
  rw [rowDn_set T hq d] at this
  exact this
theorem setDn_only {F : Nat → Prop} {a W : World} {b q : Nat} {d : DV} (h : Only F a W) (hb : F b ∨ a.heap.size ≤ b) : Only F a (setDn W b q d) :=
  ((((h.setCell (p := ⟨b, q * 5, none⟩) hb _).setCell (p := ⟨b, q * 5 + 1, none⟩) hb _).setCell (p := ⟨b, q * 5 + 2, none⟩) hb _).setCell (p := ⟨b, q * 5 + 3, none⟩) hb _).setCell (p := ⟨b, q * 5 + 4, none⟩) hb _
structure GoQ (F : Nat → Prop) (w : World) (R b n : Nat) (a : AM) (T : Nat → DV) (W : World) : Prop where
  ex : ∃ F', AppQ F' W R a ∧ (∀ k, F' k → F k ∨ w.heap.size ≤ k) ∧ ¬ F' b
  only : Only F w W
  lo : w.heap.size ≤ b
  row : W.heap[b]? = some (.cells (rowDn T n) 47 (0, 0))
section
variable {F : Nat → Prop} {w W W' : World} {R b n : Nat} {a a' : AM} {T : Nat → DV}
theorem GoQ.lt (h : GoQ F w R b n a T W) : b < W.heap.size := (Array.getElem?_eq_some_iff.1 h.row).1
theorem GoQ.grew (h : GoQ F w R b n a T W) (hb : Below W.heap.size W W') : GoQ F w R b n a T W' := by
  obtain ⟨F', h1, h2, h3⟩ := h.ex
  exact ⟨⟨F', h1.keep (Only.of_grew (F := fun _ => False) hb) (fun _ _ => id), h2, h3⟩, h.only.grew hb, h.lo, (hb.block b h.lt).trans h.row⟩
theorem GoQ.set (h : GoQ F w R b n a T W) {q : Nat} (d : DV) (hq : q < n) : GoQ F w R b n a (updT T q d) (setDn W b q d) := by
  obtain ⟨F', h1, h2, h3⟩ := h.ex
  exact ⟨⟨F', h1.keep (setDn_only (F := fun k => k = b) (Only.refl _ W) (.inl rfl)) (fun k hk e => h3 (e ▸ hk)), h2, h3⟩, setDn_only h.only (.inr h.lo), h.lo, setDn_row d h.row hq⟩
theorem GoQ.tab (h : GoQ F w R b n a T W) (hT : TabK w) (hA : AppQ F w R a') : TabK W := hT.only h.only (appQ_kindF hA)
theorem GoQ.at (h : GoQ F w R b n a T W) {q : Nat} (hq : q < n) : ∃ v0 v1 v2 v3 v4, W.cell? ⟨b, q * 5, none⟩ = some v0 ∧ W.cell? ⟨b, q * 5 + 1, none⟩ = some v1 ∧ W.cell? ⟨b, q * 5 + 2, none⟩ = some v2 ∧ W.cell? ⟨b, q * 5 + 3, none⟩ = some v3 ∧ W.cell? ⟨b, q * 5 + 4, none⟩ = some v4 := by
  refine ⟨_, _, _, _, _, (blk_cell h.row _).trans ((rowDn_get _ _ _).trans (if_pos ?_)), (blk_cell h.row _).trans ((rowDn_get _ _ _).trans (if_pos ?_)), (blk_cell h.row _).trans ((rowDn_get _ _ _).trans (if_pos ?_)), (blk_cell h.row _).trans ((rowDn_get _ _ _).trans (if_pos ?_)), (blk_cell h.row _).trans ((rowDn_get _ _ _).trans (if_pos ?_))⟩ <;> omega
theorem GoQ.fin {ds : List DV} (h : GoQ F w R b n a T W) (hl : ds.length ≤ n) (hT : ∀ j (h : j < ds.length), ds[j] = T j) : HasD W (some ⟨b, 0, none⟩) ds ∧ ∃ F', AppQ F' W R a ∧ Only F w W ∧ (∀ k, F' k → F k ∨ w.heap.size ≤ k) ∧ NotF w.heap.size F' (some ⟨b, 0, none⟩) := by
  obtain ⟨F', h1, h2, h3⟩ := h.ex
  exact ⟨HasD.row h.row hl hT, F', h1, h.only, h2, fun b' o m e => by cases e; exact ⟨h.lo, h3⟩⟩
end
end Go.Proofs.YtfjmdkhemnmkpaaGreatDoor

namespace Go.Proofs.YtfjmdkhemnmkpaaGreatDoor
open Go.RowKit Go.Maps
def runnerC (R : Nat) (A : Option Addr) (L c : Nat) (f : Value) (b t : Nat) : Array Value := #[.pointer (some ⟨R, 0, none⟩), .slice A L c, f, .slice (some ⟨b, 0, none⟩) L L, .int .i64 (t : Int)]
structure RunQ (F : Nat → Prop) (w : World) (R b r : Nat) (A : Option Addr) (L c : Nat) (f : Value) (a : AM) (T : Nat → DV) (t : Nat) (W : World) : Prop where
  go : GoQ F w R b L a T W
  cell : W.heap[r]? = some (.cells (runnerC R A L c f b t) 73 (0, 0))
  lo : w.heap.size ≤ r
  ne : r ≠ b
section
variable {F : Nat → Prop} {w W W' : World} {R b r : Nat} {A : Option Addr} {L c : Nat} {f : Value} {a : AM} {T : Nat → DV} {t : Nat}
theorem RunQ.lt (h : RunQ F w R b r A L c f a T t W) : r < W.heap.size := (Array.getElem?_eq_some_iff.1 h.cell).1
theorem RunQ.grew (h : RunQ F w R b r A L c f a T t W) (hb : Below W.heap.size W W') : RunQ F w R b r A L c f a T t W' :=
  ⟨h.go.grew hb, (hb.block r h.lt).trans h.cell, h.lo, h.ne⟩
theorem RunQ.at (h : RunQ F w R b r A L c f a T t W) : W.cell? ⟨r, 0, none⟩ = some (.pointer (some ⟨R, 0, none⟩)) ∧ W.cell? ⟨r, 1, none⟩ = some (.slice A L c) ∧ W.cell? ⟨r, 2, none⟩ = some f ∧ W.cell? ⟨r, 3, none⟩ = some (.slice (some ⟨b, 0, none⟩) L L) ∧ W.cell? ⟨r, 4, none⟩ = some (.int .i64 (t : Int)) :=
  ⟨blk_cell h.cell 0, blk_cell h.cell 1, blk_cell h.cell 2, blk_cell h.cell 3, blk_cell h.cell 4⟩
theorem RunQ.apart {F' : Nat → Prop} (h : RunQ F w R b r A L c f a T t W) (hA : AppQ F' W R a) : ¬ F' r := fun hf => by
  rcases (appQ_kinds hA r hf).cell h.at.2.1 with ⟨q, e⟩ | ⟨q, e⟩ | ⟨q, e⟩ <;> cases e
end
def FarW (r b : Nat) (W W' : World) : Prop := W.heap.size ≤ W'.heap.size ∧ ∀ k, k < W.heap.size → k ≠ r → k ≠ b → ¬ KindT W k → W'.heap[k]? = W.heap[k]?
theorem setDn_heap {W : World} {b q g : Nat} {d : DV} (hg : g ≠ b) : (setDn W b q d).heap[g]? = W.heap[g]? := ((Below.heap_setCell _ _ _ _ hg).trans ((Below.heap_setCell _ _ _ _ hg).trans ((Below.heap_setCell _ _ _ _ hg).trans ((Below.heap_setCell _ _ _ _ hg).trans (Below.heap_setCell _ _ _ _ hg)))))
theorem KindT.same {W W' : World} {k : Nat} (h : KindT W' k) (e : W'.heap[k]? = W.heap[k]?) : KindT W k := by
  unfold KindT at h ⊢
  rw [e] at h
  exact h
theorem FarW.trans {r b : Nat} {W V U : World} (h : FarW r b W V) (k : FarW r b V U) : FarW r b W U :=
  ⟨Nat.le_trans h.1 k.1, fun x e1 e2 e3 e4 => (k.2 x (Nat.lt_of_lt_of_le e1 h.1) e2 e3 (fun hk => e4 (hk.same (h.2 x e1 e2 e3 e4)))).trans (h.2 x e1 e2 e3 e4)⟩
theorem FarW.below {r b : Nat} {W V : World} (h : Below W.heap.size W V) : FarW r b W V := ⟨h.size, fun x e _ _ _ => h.block x e⟩
def OffB (r b : Nat) (A : Option Addr) : Prop := ∀ x o m, A = some ⟨x, o, m⟩ → x ≠ r ∧ x ≠ b
theorem HasI.far {r b : Nat} {W V : World} {A : Option Addr} {l : List Nat} (h : HasI W A l) (hf : FarW r b W V) (ho : OffB r b A) : HasI V A l := fun hl => by
  obtain ⟨x, o, e, h1, h2⟩ := h hl
  have hl0 : 0 < l.length := List.length_pos_iff.2 hl
  have hb := hf.2 x h1 (ho x o none e).1 (ho x o none e).2 fun hk => by
    rcases hk.a.cell (h2 0 hl0) with ⟨q, e⟩ | ⟨q, e⟩ | ⟨q, e⟩ <;> cases e
  exact ⟨x, o, e, Nat.lt_of_lt_of_le h1 hf.1, fun j hj => (World.cell?_of_block hb).trans (h2 j hj)⟩
theorem HasS.far {r b : Nat} {W V : World} {A : Option Addr} {l : List ByteArray} (h : HasS W A l) (hf : FarW r b W V) (ho : OffB r b A) : HasS V A l := fun hl => by
  obtain ⟨x, o, e, h1, h2⟩ := h hl
  have hl0 : 0 < l.length := List.length_pos_iff.2 hl
  have hb := hf.2 x h1 (ho x o none e).1 (ho x o none e).2 fun hk => by
    rcases hk.a.cell (h2 0 hl0) with ⟨q, e⟩ | ⟨q, e⟩ | ⟨q, e⟩ <;> cases e
  exact ⟨x, o, e, Nat.lt_of_lt_of_le h1 hf.1, fun j hj => (World.cell?_of_block hb).trans (h2 j hj)⟩
structure CmdQ (r b : Nat) (W : World) (A : Option Addr) (l : List CmdV) : Prop where
  has : HasC W A l
  offA : OffB r b A
  offK : ∀ v ∈ l, OffB r b v.A
theorem CmdQ.far {r b : Nat} {W V : World} {A : Option Addr} {l : List CmdV} (h : CmdQ r b W A l) (hf : FarW r b W V) : CmdQ r b V A l := by
  refine ⟨fun hl => ?_, h.offA, h.offK⟩
  obtain ⟨x, o, e, h1, h2⟩ := h.has hl
  have hl0 : 0 < l.length := List.length_pos_iff.2 hl
  have hb := hf.2 x h1 (h.offA x o none e).1 (h.offA x o none e).2 fun hk => by
    rcases hk.a.cell ((h2 0 hl0).1 0 _ rfl) with ⟨q, e⟩ | ⟨q, e⟩ | ⟨q, e⟩ <;> cases e
  refine ⟨x, o, e, Nat.lt_of_lt_of_le h1 hf.1, fun j hj => ⟨fun i u hu => (World.cell?_of_block hb).trans ((h2 j hj).1 i u hu), ?_⟩⟩
  have k := (h2 j hj).2
  exact ⟨k.cl, k.sq, k.kd, k.n, k.len, k.max, k.has.far hf (h.offK _ (List.getElem_mem hj)), k.each, k.old, k.new⟩
theorem CmdQ.below {r b : Nat} {W V : World} {A : Option Addr} {l : List CmdV} (h : CmdQ r b W A l) (hb : Below W.heap.size W V) : CmdQ r b V A l := ⟨h.has.below hb, h.offA, h.offK⟩
end Go.Proofs.YtfjmdkhemnmkpaaGreatDoor
