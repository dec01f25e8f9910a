/- The sorted clients of a map: slices.AppendSeq, Collect, Sort, Sorted at what maps.Keys gives. -/
import Derived.Test.YtelbgjnaceffeaaSqK
import Derived.Test.YtelbgjnaceffeaaSoI
import Derived.Test.YtelbgjnaceffeaaSameT
import Derived.Maps.AppendAt
namespace Go.Proofs.Ytelbgjnaceffeaa
open Go.RowKit Go.Maps
attribute [local go_sem] Oper.semAt_some

theorem infoU : (Try.prog.info? 34).map (fun i => (i.zero, i.size, i.bytes)) = some (some (.int .u32 0), 1, 4) := by kernel_rfl
theorem infoU_parts : ∃ i, Try.prog.info? 34 = some i ∧ i.zero = some (.int .u32 0) ∧ i.size = 1 ∧ i.bytes = 4 := by
  have h := infoU
  cases hi : Try.prog.info? 34 with
  | none => rw [hi] at h; cases h
  | some i => rw [hi] at h; simp at h; exact ⟨i, rfl, h.1, h.2.1, h.2.2⟩
abbrev cV (c : Nat) : Value := .int .u32 (c : Int)
/-- What maps.Keys hands back: a function over a block that holds the map. -/
def keysV (g : Nat) : Value := .func (.func 38) #[] #[.pointer (some ⟨g, 0, none⟩)]
theorem keys_any (p : Option Nat) (w : World) : Calls Try.prog 31 #[.map p] w fun e W' => e = .returned (keysV w.heap.size) ∧ W' = w.alloc (.cells #[.map p] 64) := by
  go_enter Try.func31, Try.ntmps31
  go_wp2
  go_ret
  exact ⟨rfl, rfl⟩
/-- What AppendSeq has gathered so far. -/
def GatherJ (w : World) (gb : Nat) (ss : List Nat) (W : World) : Prop := Go.RowKit.Below w.heap.size w W ∧ w.heap.size ≤ gb ∧ ∃ v, W.heap[gb]? = some (.cells #[v] 76 (0, 0)) ∧ W.ownsRow w.heap.size 34 1 v ss.length (ss.map cV)
theorem GatherJ.walk {w : World} {gb B : Nat} (hB : w.heap.size ≤ B) (ss : List Nat) (W W' : World) (row : Option Nat) (h : GatherJ w gb ss W) (hg : W.grownBy W' row) (hr : ∀ r, row = some r → B ≤ r ∧ ∃ o : Obj, W.heap[r]? = some o ∧ o.isWalk = true) : GatherJ w gb ss W' := by
  obtain ⟨h1, h2, v, h3, h4⟩ := h
  have hn : ∀ r, row = some r → B ≤ r ∧ ∃ o : Obj, W.heap[r]? = some o ∧ o.isCells = false := fun r e => ⟨(hr r e).1, by obtain ⟨o, k1, k2⟩ := (hr r e).2; exact ⟨o, k1, Obj.not_cells_of_walk k2⟩⟩
  exact ⟨Abides.below (Nat.le_refl _) hB W W' row h1 hg hn, h2, v, Abides.block W W' row h3 hg hn, Abides.own W W' row h4 hg hn⟩
theorem GatherJ.abides {w : World} {gb B : Nat} (hB : w.heap.size ≤ B) (ss : List Nat) : AbidesL B (GatherJ w gb ss) :=
  Abides.l ((Abides.below (Nat.le_refl _) hB).and ((Abides.pure _).and (Abides.ex fun _ => Abides.block.and Abides.own)))
set_option maxRecDepth 100000 in
set_option maxHeartbeats 8000000 in
theorem apps_in (g b : Nat) (l : List SE) (hso : SortedE l) (hl : l.length ≤ 1000000) (w : World) (hm : MapQ w b l) (hg : w.heap[g]? = some (.cells #[.map (some b)] 64 (0, 0))) :
    CallsIn Fence.wide 5 Try.prog 40 #[.slice none 0 0, keysV g] w fun e W' => ∃ (v : Value) (ss : List Nat), e = .returned v ∧ ss.Perm (l.map (·.cl)) ∧ W'.ownsRow w.heap.size 34 1 v ss.length (ss.map cV) ∧ Go.RowKit.Below w.heap.size w W' := by
  have HM := Lib.hid hm
  have HGB := Lib.hid hg
  have HSL := Lib.hid (And.intro hso hl)
  clear hm hg hso hl
  unfold keysV
  refine callsIn_of_wp_marks Try.func40 rfl trivial ?_ rfl
  simp only [Try.ntmps40, List.size_toArray, List.length_cons, List.length_nil, Nat.reduceAdd, Nat.reduceSub, Array.replicate_succ, Array.replicate_zero, List.push_toArray, List.append_toArray, List.nil_append, List.cons_append]
  gi_wp2
  obtain ⟨W0, hW0⟩ : ∃ W0, W0 = w.alloc (.cells #[.slice none 0 0] 76) := ⟨_, rfl⟩
  rw [← hW0]
  have hb0 : Go.RowKit.Below w.heap.size w W0 := by rw [hW0]; exact (Go.RowKit.Below.refl _ w).alloc (Nat.le_refl _) _
  have k0 : W0.heap[w.heap.size]? = some (.cells #[.slice none 0 0] 76 (0, 0)) := by rw [hW0]; exact World.alloc_heap_new w _
  obtain ⟨gb, hgb⟩ : ∃ q, q = w.heap.size := ⟨_, rfl⟩
  rw [← hgb] at k0
  rw [← hgb]
  have HB0 := Lib.hid (And.intro hb0 (And.intro k0 (And.intro hgb (show W0.heap.size = w.heap.size + 1 by rw [hW0]; exact Array.size_push _))))
  have hBW : w.heap.size ≤ W0.heap.size := hb0.size
  have hglt : g < w.heap.size := (Array.getElem?_eq_some_iff.1 HGB.out).1
  have hJ0 : GatherJ w gb [] W0 := ⟨hb0, by rw [hgb]; exact Nat.le_refl _, _, k0, World.ownsRow_nil _ _ _ _⟩
  have hc0 : W0.cell? ⟨g, 0, none⟩ = some (.map (some b)) := by
    have := blk_cell ((hb0.block g hglt).trans HGB.out) 0
    simpa using this
  have hm0 : MapQ W0 b l := HM.out.below hb0
  have HI0 := Lib.hid (And.intro hJ0 (And.intro (Nat.le_refl W0.heap.size) (And.intro hm0 hc0)))
  clear hb0 k0 hgb hJ0 hc0 hm0 hW0 hglt
  have hSz : AbidesL W0.heap.size (fun W => W0.heap.size ≤ W.heap.size) := fun _ _ _ h hg _ => Nat.le_trans h hg.size
  refine wpIn_rangeFunc_tiedL rfl (by omega) (gf := 38) (fb := #[]) (lb := #[.pointer (some ⟨g, 0, none⟩)]) rfl trivial (enters_of Try.func38 (by kernel_rfl) rfl) (encs := fun x : KeyX => #[.int .u32 (x.c : Int)]) (fun _ => rfl)
    ((GatherJ.abides hBW []).and (hSz.and (AbidesL.owns.and Abides.cell.l))) (AbidesL.ex fun ss => (Abides.pure _).l.and (GatherJ.abides hBW ss)) (fun x => ((GatherJ.abides hBW x.ss).and (Abides.pure _).l).and AbidesL.ranges) (fun x => (GatherJ.abides hBW (x.ss ++ [x.c])).and AbidesL.ranges) (fun _ => (Abides.pure _).l) (fun _ => (Abides.pure _).l)
    (keys_seq 4 (by omega) g b l HSL.out.1 W0.heap.size (GatherJ w gb) (fun ss W W' row h hg hr => GatherJ.walk hBW ss W W' row h hg hr)) HI0.out
    (fun x => { tmps := #[.slice none 0 0, .func (.func 38) #[] #[.pointer (some ⟨g, 0, none⟩)], .pointer (some ⟨gb, 0, none⟩), undef, .slice none 0 0, .int .u32 (x.c : Int), .func (.func 38) #[] #[.pointer (some ⟨g, 0, none⟩)], .int .u32 (x.c : Int), undef, undef, undef, undef, undef], defers := [] }) ?assign ?body ?done ?stop
  case assign =>
    intro y x W K hK
    gi_wp2
    exact hK
  case body =>
    rintro y ⟨ss, c, r, left, cnt⟩ W ⟨⟨hJ, hlen⟩, hrg⟩ hlt
    dsimp only at hJ hlen hrg ⊢
    obtain ⟨hb, hg, v, hv, ho⟩ := hJ
    obtain ⟨i0, hi, hz0, hz1, hz2⟩ := infoU_parts
    have hc : W.cell? ⟨gb, 0, none⟩ = some v := by simpa using blk_cell hv 0
    have hf : W.frozen? ⟨gb, 0, none⟩ = false := blk_frozen hv 0
    have hgl : gb < W.heap.size := (Array.getElem?_eq_some_iff.1 hv).1
    have HL := Lib.hid (And.intro hlen HSL.out.2)
    have HRG := Lib.hid hrg
    clear hrg hlen
    obtain ⟨n1, hn1⟩ : ∃ q, q = ss.length := ⟨_, rfl⟩
    rw [← hn1] at ho
    have HN1 := Lib.hid hn1
    have hn1m : n1 + 1 ≤ 1000000 := by have := HL.out; omega
    clear hn1
    gi_wp2_with (first
      | (gi_at_builtin
         refine wpListIn_append_own _ rfl _ _ 76 rfl w.heap.size 34 i0 (.int .u32 0) 1 4 Try.underlying76 hi hz0 hz1 hz2 rfl (by decide) v n1 (ss.map cV) rfl (ho.alloc _) ⟨W.heap.size, 0, none⟩ 1 1 [cV c] rfl rfl (cell_one_new _ _ _) (by simp [Value.oneCell', cV]) (by simp only [maxLen]; omega) (by omega) (by have := hb.size; simp; omega) ?_
         intro v' w3 hown' hg3 _
         obtain ⟨A3, c3, rfl⟩ := own_form hown'
         have hv3 : w3.heap[gb]? = some (.cells #[v] 76 (0, 0)) := SameT.grown hg3 (own_typed (ho.alloc _)) _ _ _ (by decide) ((Go.RowKit.Below.heap_alloc _ _ gb hgl).trans hv)
         have hc3 : w3.cell? ⟨gb, 0, none⟩ = some v := by simpa using blk_cell hv3 0
         have hf3 : w3.frozen? ⟨gb, 0, none⟩ = false := blk_frozen hv3 0
         have HW3 := Lib.hid (And.intro hown' (And.intro hg3 hv3))
         clear hown' hg3 hv3)
      | gi_in)
    obtain ⟨hown', hg3, hv3⟩ := HW3.out
    have kA : KeepsOthers W (W.alloc (.cells #[cV c] 34)) := KeepsOthers.alloc _ _
    have kB : KeepsOthers (W.alloc (.cells #[cV c] 34)) w3 := KeepsOthers.of_grownBy hg3 (fun j o e ho' => by
      obtain ⟨cs, hcs⟩ := own_typed (ho.alloc _) j e
      rw [hcs] at ho'
      cases ho'
      rfl)
    have kC := kA.trans (kB.trans (KeepsOthers.setCell w3 ⟨gb, 0, none⟩ (.slice A3 (n1 + 1) c3)))
    have hb3 : Go.RowKit.Below w.heap.size w w3 := (hb.alloc hb.size _).grown hg3 (by have := hb.size; simp; omega) (fun k e => (ho.lt k e).1)
    refine ⟨kC.from _, ⟨hb3.setCell (p := ⟨gb, 0, none⟩) hg _, hg, _, blk_set hv3 0 _, ?_⟩, HRG.out.of_walks kC.walks⟩
    have ho4 := (SameT.set (i := 0) hv3 (.slice A3 (n1 + 1) c3)).own hown' (by decide)
    rw [List.length_append, List.length_singleton, ← HN1.out, List.map_append]
    exact ho4
  case done =>
    rintro D W hD ⟨ss, hp, hb, hg, v, hv, ho⟩ hK
    have hc := blk_cell hv 0
    simp at hc
    obtain ⟨A9, c9, rfl⟩ := own_form ho
    obtain ⟨n9, hn9⟩ : ∃ q, q = ss.length := ⟨_, rfl⟩
    rw [← hn9] at ho hc
    have HD := Lib.hid (And.intro hp (And.intro hb (And.intro ho (And.intro hn9 hK))))
    have hDw : w.heap.size ≤ D := Nat.le_trans hBW hD
    clear hp hb ho hn9 hK hv hg
    gi_wp2
    have hr : ∀ r, some D = some r → w.heap.size ≤ r ∧ ∃ o, W.heap[r]? = some o ∧ o.isCells = false := fun r e => by
      cases e
      exact ⟨hDw, _, HD.out.2.2.2.2, rfl⟩
    have e1 := Abides.own (B := w.heap.size) W _ (some D) HD.out.2.2.1 (grownBy_putObj' W D (.deferred none)) hr
    have e2 := Abides.below (Nat.le_refl w.heap.size) (Nat.le_refl w.heap.size) W _ (some D) HD.out.2.1 (grownBy_putObj' W D (.deferred none)) hr
    refine ⟨by simp, .inl ⟨_, _, rfl, run_takeDeferred HD.out.2.2.2.2, ?_⟩⟩
    refine ⟨.slice A9 n9 c9, (results_tmp (fn := Try.f40) (t := 4) rfl _ _ _).trans rfl, .slice A9 n9 c9, ss, rfl, HD.out.1, ?_, e2⟩
    rw [← HD.out.2.2.2.1]
    exact e1
  case stop =>
    intro D cc W hD hf
    exact hf.elim
set_option maxRecDepth 100000 in
set_option maxHeartbeats 8000000 in
theorem apps_nil_in (g : Nat) (w : World) (hg : w.heap[g]? = some (.cells #[.map none] 64 (0, 0))) :
    CallsIn Fence.wide 5 Try.prog 40 #[.slice none 0 0, keysV g] w fun e W' => e = .returned (.slice none 0 0) ∧ Go.RowKit.Below w.heap.size w W' := by
  have HGB := Lib.hid hg
  clear hg
  unfold keysV
  refine callsIn_of_wp_marks Try.func40 rfl trivial ?_ rfl
  simp only [Try.ntmps40, List.size_toArray, List.length_cons, List.length_nil, Nat.reduceAdd, Nat.reduceSub, Array.replicate_succ, Array.replicate_zero, List.push_toArray, List.append_toArray, List.nil_append, List.cons_append]
  gi_wp2
  obtain ⟨W0, hW0⟩ : ∃ W0, W0 = w.alloc (.cells #[.slice none 0 0] 76) := ⟨_, rfl⟩
  rw [← hW0]
  have hb0 : Go.RowKit.Below w.heap.size w W0 := by rw [hW0]; exact (Go.RowKit.Below.refl _ w).alloc (Nat.le_refl _) _
  have k0 : W0.heap[w.heap.size]? = some (.cells #[.slice none 0 0] 76 (0, 0)) := by rw [hW0]; exact World.alloc_heap_new w _
  obtain ⟨gb, hgb⟩ : ∃ q, q = w.heap.size := ⟨_, rfl⟩
  rw [← hgb] at k0
  rw [← hgb]
  have hBW : w.heap.size ≤ W0.heap.size := hb0.size
  have hglt : g < w.heap.size := (Array.getElem?_eq_some_iff.1 HGB.out).1
  obtain ⟨J, hJd⟩ : ∃ J : World → Prop, J = fun W => Go.RowKit.Below w.heap.size w W ∧ W.heap[gb]? = some (.cells #[.slice none 0 0] 76 (0, 0)) := ⟨_, rfl⟩
  have hJa : Abides W0.heap.size J := by rw [hJd]; exact (Abides.below (Nat.le_refl _) hBW).and Abides.block
  have hc0 : W0.cell? ⟨g, 0, none⟩ = some (.map none) := by
    have := blk_cell ((hb0.block g hglt).trans HGB.out) 0
    simpa using this
  have HI0 := Lib.hid (And.intro (show J W0 by rw [hJd]; exact ⟨hb0, k0⟩) hc0)
  have HJD := Lib.hid hJd
  clear hb0 k0 hc0 hW0 hglt hJd hgb
  refine wpIn_rangeFunc_tiedL rfl (by omega) (gf := 38) (fb := #[]) (lb := #[.pointer (some ⟨g, 0, none⟩)]) rfl trivial (enters_of Try.func38 (by kernel_rfl) rfl) (encs := fun x : KeyX => #[.int .u32 (x.c : Int)]) (fun _ => rfl)
    (hJa.l.and Abides.cell.l) hJa.l (fun _ => (Abides.pure _).l) (fun _ => (Abides.pure _).l) (fun _ => (Abides.pure _).l) (fun _ => (Abides.pure _).l)
    (keys_nil_seq 4 g W0.heap.size J (fun W W' row h hg hr => hJa W W' row h hg (fun r e => ⟨(hr r e).1, by obtain ⟨o, k1, k2⟩ := (hr r e).2; exact ⟨o, k1, Obj.not_cells_of_walk k2⟩⟩))) HI0.out
    (fun x => { tmps := #[.slice none 0 0, .func (.func 38) #[] #[.pointer (some ⟨g, 0, none⟩)], .pointer (some ⟨gb, 0, none⟩), undef, .slice none 0 0, .int .u32 (x.c : Int), .func (.func 38) #[] #[.pointer (some ⟨g, 0, none⟩)], .int .u32 (x.c : Int), undef, undef, undef, undef, undef], defers := [] }) ?assign ?body ?done ?stop
  case assign =>
    intro y x W K hK
    gi_wp2
    exact hK
  case body =>
    intro y x W hf
    exact hf.elim
  case done =>
    intro D W hD hJW hK
    rw [HJD.out] at hJW
    obtain ⟨hb, hv⟩ := hJW
    have hc := blk_cell hv 0
    simp at hc
    have HD := Lib.hid (And.intro hb hK)
    have hDw : w.heap.size ≤ D := Nat.le_trans hBW hD
    clear hb hK hv hJa
    gi_wp2
    have hr : ∀ r, some D = some r → w.heap.size ≤ r ∧ ∃ o, W.heap[r]? = some o ∧ o.isCells = false := fun r e => by
      cases e
      exact ⟨hDw, _, HD.out.2, rfl⟩
    have e2 := Abides.below (Nat.le_refl w.heap.size) (Nat.le_refl w.heap.size) W _ (some D) HD.out.1 (grownBy_putObj' W D (.deferred none)) hr
    refine ⟨by simp, .inl ⟨_, _, rfl, run_takeDeferred HD.out.2, ?_⟩⟩
    exact ⟨.slice none 0 0, (results_tmp (fn := Try.f40) (t := 4) rfl _ _ _).trans rfl, rfl, e2⟩
  case stop =>
    intro D cc W hD hf
    exact hf.elim
end Go.Proofs.Ytelbgjnaceffeaa
