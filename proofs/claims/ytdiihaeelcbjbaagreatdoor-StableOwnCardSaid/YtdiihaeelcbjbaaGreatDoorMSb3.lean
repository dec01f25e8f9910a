/- at: a vote as that of its slot, in new memory; Vote. Rows of votes that a call owns; how votes come out of a map; what sorting leaves. Votes of slots in order: the library's sorting at a row of votes. What the sorting leaves of a row of votes. Votes: those of slots from one on, in order. -/
import Derived.Test.YtdiihaeelcbjbaaGreatDoorMSb1
import Derived.Maps.AppendAt
import Derived.Shelf.GgSortFunc.InsertionK
import Derived.Test.YtdiihaeelcbjbaaGreatDoorSortL
-- SbK
namespace Go.Proofs.YtdiihaeelcbjbaaGreatDoor
open Go.RowKit Go.Maps Go.WideMaps

theorem set4 {W : World} {g : Nat} {a0 a1 a2 a3 : Value} {t : TypeId} (k : W.heap[g]? = some (.cells #[a0, a1, a2, a3] t (0, 0))) (x0 x1 x2 x3 : Value) {V : World} (hV : V = (((W.setCell ⟨g, 0, none⟩ x0).setCell ⟨g, 1, none⟩ x1).setCell ⟨g, 2, none⟩ x2).setCell ⟨g, 3, none⟩ x3) :
    V.cell? ⟨g, 0, none⟩ = some x0 ∧ V.cell? ⟨g, 1, none⟩ = some x1 ∧ V.cell? ⟨g, 2, none⟩ = some x2 ∧ V.cell? ⟨g, 3, none⟩ = some x3 ∧ Only (fun k => k = g) W V := by
  have k4 : V.heap[g]? = some (.cells #[x0, x1, x2, x3] t (0, 0)) := by
    rw [hV]
    exact blk_set (blk_set (blk_set (blk_set k 0 x0) 1 x1) 2 x2) 3 x3
  refine ⟨blk_cell k4 0, blk_cell k4 1, blk_cell k4 2, blk_cell k4 3, ?_⟩
  rw [hV]
  exact ((((Only.refl (fun k => k = g) W).setCell (p := ⟨g, 0, none⟩) (.inl rfl) _).setCell (p := ⟨g, 1, none⟩) (.inl rfl) _).setCell (p := ⟨g, 2, none⟩) (.inl rfl) _).setCell (p := ⟨g, 3, none⟩) (.inl rfl) _
set_option maxRecDepth 100000 in
set_option maxHeartbeats 1000000 in
theorem at_c (v : VM) (w : World) : Calls Tryz.prog 49 #[votV v, .int .u64 (v.s : Int)] w fun e W' => ∃ y L, e = .returned (.agg #[.int .u64 (v.s : Int), .int .u64 (v.b.n : Int), .int .i64 v.b.r, y]) ∧ OwnB w.heap.size W' y L v.x ∧ Below w.heap.size w W' := by
  obtain ⟨n, b, x⟩ := v
  unfold votV
  simp only
  go_enter Tryz.func49, Tryz.ntmps49
  go_upto_region 1 with (fail)
  obtain ⟨W0, hW0⟩ : ∃ W0, W0 = w.alloc (.cells #[.int .u64 (b.n : Int), .int .i64 b.r, .string (str x)] 100) := ⟨_, rfl⟩
  rw [← hW0]
  obtain ⟨W1, hW1⟩ : ∃ W1, W1 = W0.alloc (.cells #[.int .u64 0, .int .u64 0, .int .i64 0, .slice none 0 0] 68) := ⟨_, rfl⟩
  rw [← hW1]
  have b0 : Below w.heap.size w W0 := by rw [hW0]; exact (Below.refl _ w).alloc (Nat.le_refl _) _
  have b1 : Below W0.heap.size W0 W1 := by rw [hW1]; exact (Below.refl _ W0).alloc (Nat.le_refl _) _
  have s0 : W0.heap.size = w.heap.size + 1 := by rw [hW0]; exact Array.size_push _
  obtain ⟨p, hp⟩ : ∃ p, p = w.heap.size := ⟨_, rfl⟩
  obtain ⟨g, hg⟩ : ∃ g, g = p + 1 := ⟨_, rfl⟩
  have k0 : W0.heap[p]? = some (.cells #[.int .u64 (b.n : Int), .int .i64 b.r, .string (str x)] 100 (0, 0)) := by rw [hW0, hp]; exact World.alloc_heap_new w _
  have k1 : W1.heap[g]? = some (.cells #[.int .u64 0, .int .u64 0, .int .i64 0, .slice none 0 0] 68 (0, 0)) := by rw [hW1, show g = W0.heap.size by omega]; exact World.alloc_heap_new W0 _
  have k0' := (b1.block p (by omega)).trans k0
  have hb : Below w.heap.size w W1 := b0.trans (Below.mono b1 b0.size)
  obtain ⟨y, V, hr, ho, hbv⟩ := bytes_conv W1 x
  have kg := (hbv.block g (Array.getElem?_eq_some_iff.1 k1).1).trans k1
  have z0 : W1.cell? ⟨p, 0, none⟩ = some (.int .u64 (b.n : Int)) := blk_cell k0' 0
  have z1 : W1.cell? ⟨p, 1, none⟩ = some (.int .i64 b.r) := blk_cell k0' 1
  have z2 : W1.cell? ⟨p, 2, none⟩ = some (.string (str x)) := blk_cell k0' 2
  have c0 : V.cell? ⟨g, 0, none⟩ = some (.int .u64 0) := blk_cell kg 0
  have c1 : V.cell? ⟨g, 1, none⟩ = some (.int .u64 0) := blk_cell kg 1
  have c2 : V.cell? ⟨g, 2, none⟩ = some (.int .i64 0) := blk_cell kg 2
  have c3 : V.cell? ⟨g, 3, none⟩ = some (.slice none 0 0) := blk_cell kg 3
  have u0 := blk_frozen kg 0
  have u1 := blk_frozen kg 1
  have u2 := blk_frozen kg 2
  have u3 := blk_frozen kg 3
  obtain ⟨xa, xc, rfl⟩ := ho.form
  obtain ⟨V4, hV4⟩ : ∃ V4, V4 = (((V.setCell ⟨g, 0, none⟩ (.int .u64 (n : Int))).setCell ⟨g, 1, none⟩ (.int .u64 (b.n : Int))).setCell ⟨g, 2, none⟩ (.int .i64 b.r)).setCell ⟨g, 3, none⟩ (.slice xa x.length xc) := ⟨_, rfl⟩
  obtain ⟨f0, f1, f2, f3, o4⟩ := set4 kg _ _ _ _ hV4
  have hgl := (Array.getElem?_eq_some_iff.1 k1).1
  have HF := Lib.hid (show OwnB w.heap.size V4 (.slice xa x.length xc) x.length x ∧ Below w.heap.size w V4 from
    ⟨(ho.only o4 (fun k h1 h2 e => by omega)).down hb.size, (hb.trans (Below.mono hbv hb.size)).trans (o4.below (Nat.le_trans hb.size hbv.size) (fun k e => by omega))⟩)
  rw [← hp, ← hg]
  clear hW0 hW1 b0 b1 s0 hp hg k0 k1 k0' hb ho hbv kg o4 hgl
  obtain ⟨M, hM⟩ : ∃ M, M = x.length := ⟨_, rfl⟩
  rw [← hM] at hr f3 hV4 HF
  have HMM := Lib.hid hM
  clear hM
  go_wp2
  rw [← hV4]
  exact bodyPost_ret (v := .agg #[.int .u64 (n : Int), .int .u64 (b.n : Int), .int .i64 b.r, .slice xa M xc]) (by simp [results, Tryz.results49, go_sem, f0, f1, f2, f3]) rfl ⟨_, _, rfl, HF.out⟩
theorem findV_s {l : List VM} {n : Nat} {v : VM} (h : findV l n = some v) : v.s = n := by
  have := List.find?_some h
  simpa using this
set_option maxRecDepth 100000 in
set_option maxHeartbeats 2000000 in
theorem vote_c {w : World} {B m L : Nat} {s : SM} (h : SkC w B m L s) (n : Nat) (hn : n < 18446744073709551616) : Calls Tryz.prog 28 #[.pointer (some ⟨B, 0, none⟩), .int .u64 (n : Int)] w fun e W' => Below w.heap.size w W' ∧
    match s.vote n with
    | some v => ∃ cs, e = .returned (.tuple #[.agg cs.toArray, .bool true]) ∧ VoteV w.heap.size W' cs v
    | none => e = .returned (.tuple #[.agg #[.int .u64 0, .int .u64 0, .int .i64 0, .slice none 0 0], .bool false]) := by
  have H := Lib.hid h
  have HN := Lib.hid hn
  obtain ⟨q, hq⟩ : ∃ q, q = s.vote n := ⟨_, rfl⟩
  rw [← hq]
  have HQ := Lib.hid (show findV s.vs n = q from hq.symm)
  clear h hn hq
  go_enter Tryz.func28, Tryz.ntmps28
  go_upto_region 1 with (fail)
  obtain ⟨W0, hW0⟩ : ∃ W0, W0 = w.alloc (.cells #[.int .u64 0, .int .u64 0, .int .i64 0, .slice none 0 0] 68) := ⟨_, rfl⟩
  rw [← hW0]
  obtain ⟨g, hg⟩ : ∃ p, p = w.heap.size := ⟨_, rfl⟩
  have b0 : Below w.heap.size w W0 := by rw [hW0]; exact (Below.refl _ w).alloc (Nat.le_refl _) _
  have k0 : W0.heap[g]? = some (.cells #[.int .u64 0, .int .u64 0, .int .i64 0, .slice none 0 0] 68 (0, 0)) := by rw [hW0, hg]; exact World.alloc_heap_new w _
  rw [← hg]
  have h1 := H.out.below b0
  have c5 : W0.cell? ⟨B, 5, none⟩ = some (.map (some m)) := h1.at 5
  have hlook := h1.map.look HN.out
  rw [HQ.out] at hlook
  have hvv : valV s.vs n = q.getD ⟨0, B0, []⟩ := by unfold valV; rw [HQ.out]
  rw [hvv] at hlook
  have HB := Lib.hid (And.intro b0 (And.intro k0 (show w.heap.size ≤ g by omega)))
  clear hW0 b0 k0 hg h1 hvv
  cases q with
  | none =>
    have hlk : (Instr.lookup 87 (.map (some m)) (.int .u64 (n : Int)) true).run Tryz.prog W0 = .ok (.tuple #[.agg #[.int .u64 0, .int .i64 0, .string ⟨#[]⟩], .bool false]) W0 := hlook
    clear hlook
    go_upto_region 4 with (fail)
    obtain ⟨W2, hW2⟩ : ∃ W2, W2 = W0.alloc (.cells #[.int .u64 0, .int .i64 0, .string ⟨#[]⟩] 100) := ⟨_, rfl⟩
    rw [← hW2]
    have b2 : Below W0.heap.size W0 W2 := by rw [hW2]; exact (Below.refl _ W0).alloc (Nat.le_refl _) _
    have kg := (b2.block g (Array.getElem?_eq_some_iff.1 HB.out.2.1).1).trans HB.out.2.1
    have c0 : W2.cell? ⟨g, 0, none⟩ = some (.int .u64 0) := blk_cell kg 0
    have c1 : W2.cell? ⟨g, 1, none⟩ = some (.int .u64 0) := blk_cell kg 1
    have c2 : W2.cell? ⟨g, 2, none⟩ = some (.int .i64 0) := blk_cell kg 2
    have c3 : W2.cell? ⟨g, 3, none⟩ = some (.slice none 0 0) := blk_cell kg 3
    have u0 := blk_frozen kg 0
    have u1 := blk_frozen kg 1
    have u2 := blk_frozen kg 2
    have u3 := blk_frozen kg 3
    obtain ⟨V4, hV4⟩ : ∃ V4, V4 = (((W2.setCell ⟨g, 0, none⟩ (.int .u64 0)).setCell ⟨g, 1, none⟩ (.int .u64 0)).setCell ⟨g, 2, none⟩ (.int .i64 0)).setCell ⟨g, 3, none⟩ (.slice none 0 0) := ⟨_, rfl⟩
    obtain ⟨f0, f1, f2, f3, o4⟩ := set4 kg _ _ _ _ hV4
    have hb2 := HB.out.1.trans (Below.mono b2 HB.out.1.size)
    have HF := Lib.hid (hb2.trans (o4.below hb2.size (fun k e => by have := HB.out.2.2; omega)))
    clear hW2 b2 kg o4 hb2 hlk c5
    go_wp2
    rw [← hV4]
    exact bodyPost_ret (v := .tuple #[.agg #[.int .u64 0, .int .u64 0, .int .i64 0, .slice none 0 0], .bool false]) (by simp [results, Tryz.results28, go_sem, f0, f1, f2, f3]) rfl ⟨HF.out, rfl⟩
  | some v =>
    obtain ⟨vs, vb, vx⟩ := v
    obtain rfl : vs = n := findV_s HQ.out
    have hlk : (Instr.lookup 87 (.map (some m)) (.int .u64 (vs : Int)) true).run Tryz.prog W0 = .ok (.tuple #[.agg #[.int .u64 (vb.n : Int), .int .i64 vb.r, .string (str vx)], .bool true]) W0 := hlook
    clear hlook
    go_upto_region 4 with (fail)
    obtain ⟨W2, hW2⟩ : ∃ W2, W2 = W0.alloc (.cells #[.int .u64 (vb.n : Int), .int .i64 vb.r, .string (str vx)] 100) := ⟨_, rfl⟩
    rw [← hW2]
    have b2 : Below W0.heap.size W0 W2 := by rw [hW2]; exact (Below.refl _ W0).alloc (Nat.le_refl _) _
    have kg := (b2.block g (Array.getElem?_eq_some_iff.1 HB.out.2.1).1).trans HB.out.2.1
    obtain ⟨p, hp⟩ : ∃ p, p = W0.heap.size := ⟨_, rfl⟩
    have kp : W2.heap[p]? = some (.cells #[.int .u64 (vb.n : Int), .int .i64 vb.r, .string (str vx)] 100 (0, 0)) := by rw [hW2, hp]; exact World.alloc_heap_new W0 _
    rw [← hp]
    have z0 : W2.cell? ⟨p, 0, none⟩ = some (.int .u64 (vb.n : Int)) := blk_cell kp 0
    have z1 : W2.cell? ⟨p, 1, none⟩ = some (.int .i64 vb.r) := blk_cell kp 1
    have z2 : W2.cell? ⟨p, 2, none⟩ = some (.string (str vx)) := blk_cell kp 2
    have hb2 := HB.out.1.trans (Below.mono b2 HB.out.1.size)
    have HG := Lib.hid (And.intro hb2 (And.intro kg HB.out.2.2))
    have HC := Lib.hid (show Calls Tryz.prog 49 #[.agg #[.int .u64 (vb.n : Int), .int .i64 vb.r, .string (str vx)], .int .u64 (vs : Int)] W2 _ from at_c ⟨vs, vb, vx⟩ W2)
    clear hW2 b2 kg kp hb2 hlk c5 hp
    go_wp2_with fail
    refine HC.out.mono ?_
    rintro e W3 ⟨y, L, rfl, ho, b3⟩
    have kg := (b3.block g (Array.getElem?_eq_some_iff.1 HG.out.2.1).1).trans HG.out.2.1
    have c0 : W3.cell? ⟨g, 0, none⟩ = some (.int .u64 0) := blk_cell kg 0
    have c1 : W3.cell? ⟨g, 1, none⟩ = some (.int .u64 0) := blk_cell kg 1
    have c2 : W3.cell? ⟨g, 2, none⟩ = some (.int .i64 0) := blk_cell kg 2
    have c3 : W3.cell? ⟨g, 3, none⟩ = some (.slice none 0 0) := blk_cell kg 3
    have u0 := blk_frozen kg 0
    have u1 := blk_frozen kg 1
    have u2 := blk_frozen kg 2
    have u3 := blk_frozen kg 3
    obtain ⟨xa, xc, rfl⟩ := ho.form
    obtain ⟨V4, hV4⟩ : ∃ V4, V4 = (((W3.setCell ⟨g, 0, none⟩ (.int .u64 (vs : Int))).setCell ⟨g, 1, none⟩ (.int .u64 (vb.n : Int))).setCell ⟨g, 2, none⟩ (.int .i64 vb.r)).setCell ⟨g, 3, none⟩ (.slice xa L xc) := ⟨_, rfl⟩
    obtain ⟨f0, f1, f2, f3, o4⟩ := set4 kg _ _ _ _ hV4
    have hb3 := HG.out.1.trans (Below.mono b3 HG.out.1.size)
    have HF := Lib.hid (show OwnB w.heap.size V4 (.slice xa L xc) L vx ∧ Below w.heap.size w V4 from
      ⟨(ho.only o4 (fun k h1 h2 e => by have := (Array.getElem?_eq_some_iff.1 HG.out.2.1).1; omega)).down HG.out.1.size, hb3.trans (o4.below hb3.size (fun k e => by have := HB.out.2.2; omega))⟩)
    clear kg o4 hb3 b3 ho z0 z1 z2 HC
    go_wp2
    rw [← hV4]
    exact bodyPost_ret (v := .tuple #[.agg #[.int .u64 (vs : Int), .int .u64 (vb.n : Int), .int .i64 vb.r, .slice xa L xc], .bool true]) (by simp [results, Tryz.results28, go_sem, f0, f1, f2, f3]) rfl ⟨HF.out.2, _, rfl, _, _, rfl, HF.out.1⟩
end Go.Proofs.YtdiihaeelcbjbaaGreatDoor

-- SbL
namespace Go.Proofs.YtdiihaeelcbjbaaGreatDoor
open Go.RowKit Go.Maps Go.WideMaps

/-- A vote with the place of its bytes. -/
structure VR where
  v : VM
  A : Option Addr
  c : Nat
instance : Inhabited VR := ⟨⟨⟨0, B0, []⟩, none, 0⟩⟩
def encV (e : VR) : List Value := [.int .u64 (e.v.s : Int), .int .u64 (e.v.b.n : Int), .int .i64 e.v.b.r, .slice e.A e.v.x.length e.c]
def cellsVR (l : List VR) : List Value := l.flatMap encV
theorem cellsVR_len : ∀ (l : List VR), (cellsVR l).length = l.length * 4
  | [] => rfl
  | a :: l => by
    have := cellsVR_len l
    unfold cellsVR at this ⊢
    rw [List.flatMap_cons, List.length_append, this, List.length_cons]
    simp [encV]
    omega
theorem cellsVR_one (l : List VR) : ∀ u ∈ cellsVR l, u.oneCell' = true := by
  intro u hu
  obtain ⟨a, _, ha⟩ := List.mem_flatMap.1 hu
  simp [encV] at ha
  rcases ha with rfl | rfl | rfl | rfl <;> rfl
theorem cellsVR_get : ∀ {l : List VR} {j i : Nat} (h : j < l.length), i < 4 → (cellsVR l)[j * 4 + i]? = (encV l[j])[i]?
  | a :: l, 0, i, _, hi => by
    show (encV a ++ cellsVR l)[0 * 4 + i]? = _
    rw [Nat.zero_mul, Nat.zero_add, List.getElem?_append_left (by simp [encV]; exact hi)]
    rfl
  | a :: l, j + 1, i, h, hi => by
    show (encV a ++ cellsVR l)[(j + 1) * 4 + i]? = _
    rw [List.getElem?_append_right (by simp [encV]; omega)]
    have := cellsVR_get (l := l) (j := j) (i := i) (by simpa using h) hi
    simpa [encV, show (j + 1) * 4 + i - 4 = j * 4 + i by omega] using this
/-- Votes in a row that the call owns, each's bytes in new memory. -/
structure OwnV (base : Nat) (w : World) (y : Value) (l : List VR) : Prop where
  row : w.ownsRow base 68 4 y l.length (cellsVR l)
  bs : ∀ e ∈ l, OwnB base w (.slice e.A e.v.x.length e.c) e.v.x.length e.v.x
section
variable {base : Nat} {w w' : World} {y : Value} {l : List VR}
theorem OwnV.nil (base : Nat) (w : World) : OwnV base w (.slice none 0 0) [] := ⟨World.ownsRow_nil _ _ _ _, fun _ h => by cases h⟩
theorem OwnV.form (h : OwnV base w y l) : ∃ A c, y = .slice A l.length c := by
  rcases h.row.2 with ⟨rfl, h0⟩ | ⟨g, cap, cur, rfl, _⟩
  · exact ⟨none, 0, by rw [h0]⟩
  · exact ⟨_, _, rfl⟩
theorem OwnV.below (h : OwnV base w y l) (hb : Below w.heap.size w w') : OwnV base w' y l := by
  refine ⟨World.ownsRow.kept h.row (grownBy_of_below (r := none) hb) ?_, fun e he => (h.bs e he).grew hb⟩
  cases y.ownBlock with
  | none => exact .inl rfl
  | some x => exact .inr (by simp)
theorem OwnV.lt (h : OwnV base w y l) : ∀ k, y.ownBlock = some k → base ≤ k ∧ ∃ cs, w.heap[k]? = some (.cells cs 68 (0, 0)) := fun k e => by
  rcases h.row.2 with ⟨rfl, _⟩ | ⟨g, cap, cur, rfl, hb, hg, _⟩
  · cases e
  · cases e; exact ⟨hb, _, hg⟩
/-- Another block of another kind has changed. -/
theorem OwnV.only {Z : Nat → Prop} (h : OwnV base w y l) (o : Only Z w w') (h1 : ∀ k, Z k → ∀ cs, w.heap[k]? ≠ some (.cells cs 68 (0, 0))) (h2 : ∀ k, Z k → ∀ cs mk, w.heap[k]? ≠ some (.cells cs 5 mk)) : OwnV base w' y l := by
  refine ⟨?_, fun e he => ?_⟩
  · obtain ⟨hl, hr⟩ := h.row
    refine ⟨hl, hr.imp id ?_⟩
    rintro ⟨g, cap, cur, rfl, hb, hg, h3⟩
    exact ⟨g, cap, cur, rfl, hb, (o.block g (Array.getElem?_eq_some_iff.1 hg).1 (fun hz => h1 g hz _ hg)).trans hg, h3⟩
  · obtain ⟨h0, A, c, e1, hh⟩ := h.bs e he
    refine ⟨h0, A, c, e1, fun hn => ?_⟩
    obtain ⟨g, cur, mk, hA, hb, hg, hf, hc⟩ := hh hn
    have hk := o.block g (Array.getElem?_eq_some_iff.1 hg).1 (fun hz => h2 g hz _ _ hg)
    refine ⟨g, cur, mk, hA, hb, hk.trans hg, fun i hi => ?_, hc⟩
    rw [← hf i hi]
    unfold World.frozen?
    rw [hk]
end
theorem infoVt : (Tryz.prog.info? 68).map (fun i => (i.zero, i.size, i.bytes)) = some (some (.agg #[.int .u64 0, .int .u64 0, .int .i64 0, .slice none 0 0]), 4, 48) := by kernel_rfl
theorem infoVt_parts : ∃ i, Tryz.prog.info? 68 = some i ∧ i.zero = some (.agg #[.int .u64 0, .int .u64 0, .int .i64 0, .slice none 0 0]) ∧ i.size = 4 ∧ i.bytes = 48 := by
  have h := infoVt
  cases hi : Tryz.prog.info? 68 with
  | none => rw [hi] at h; cases h
  | some i => rw [hi] at h; simp at h; exact ⟨i, rfl, h.1, h.2.1, h.2.2⟩
/-- An append of a vote. -/
theorem wpList_append_V {ops : Array Oper} {rest : List Oper} {o : Oper} {a : Act} {w : World} {Q : Exit → Act → World → Prop} (hgd : o.guard = none) (s x : Operand)
    (ho : o.op = .call { callee := .builtin .append, args := #[s, x], argTypes := #[65, 65] }) (base : Nat) (v : Value) (l : List VR) (hs : a.eval s = v) (hown : OwnV base w v l)
    (p c : Nat) (e : VR) (hx : a.eval x = .slice (some ⟨p, 0, none⟩) 1 c) (h0 : w.cell? ⟨p, 0, none⟩ = some (.int .u64 (e.v.s : Int))) (h1 : w.cell? ⟨p, 1, none⟩ = some (.int .u64 (e.v.b.n : Int))) (h2 : w.cell? ⟨p, 2, none⟩ = some (.int .i64 e.v.b.r)) (h3 : w.cell? ⟨p, 3, none⟩ = some (.slice e.A e.v.x.length e.c)) (hlen : l.length + 1 ≤ 1000000) (hbase : base ≤ w.heap.size) (he : OwnB base w (.slice e.A e.v.x.length e.c) e.v.x.length e.v.x)
    (h : ∀ v' w', OwnV base w' v' (l ++ [e]) → w.grownBy w' v.ownBlock → wpList Tryz.prog ops Q rest (a.put o.dst v') w') : wpList Tryz.prog ops Q (o :: rest) a w := by
  obtain ⟨i, hi, hz, hsz, hby⟩ := infoVt_parts
  refine wpList_append_own_at w hgd s x 65 ho base 68 i _ 4 48 Tryz.underlying65 hi hz hsz hby rfl (by omega) v l.length (cellsVR l) hs hown.row ⟨p, 0, none⟩ 1 c (cellsVR [e]) hx rfl (fun j u hj => ?_) (cellsVR_one [e]) (by simp only [maxLen]; omega) (by omega) hbase ?_
  · rw [addr_add, Nat.zero_add]
    match j, hj with
    | 0, hj => cases hj; exact h0
    | 1, hj => cases hj; exact h1
    | 2, hj => cases hj; exact h2
    | 3, hj => cases hj; exact h3
    | j + 4, hj => simp [cellsVR, encV] at hj
  · intro v' w' g1 g2 _ _
    refine h v' w' ⟨?_, ?_⟩ g2
    · rw [show cellsVR (l ++ [e]) = cellsVR l ++ cellsVR [e] by simp [cellsVR], List.length_append]
      exact g1
    · have ho : Only (fun k => v.ownBlock = some k) w w' := Only.of_grown g2 fun k hk => hk
      have keep : ∀ f : VR, OwnB base w (.slice f.A f.v.x.length f.c) f.v.x.length f.v.x → OwnB base w' (.slice f.A f.v.x.length f.c) f.v.x.length f.v.x := fun f hf => by
        obtain ⟨q0, A, d, e1, hh⟩ := hf
        refine ⟨q0, A, d, e1, fun hn => ?_⟩
        obtain ⟨g, cur, mk, hA, hb, hg, hf, hc⟩ := hh hn
        have hk := ho.block g (Array.getElem?_eq_some_iff.1 hg).1 (fun hz => by
          obtain ⟨_, cs, h5⟩ := hown.lt g hz
          rw [hg] at h5
          injection h5 with h5
          injection h5 with _ h6 _
          exact absurd h6 (by decide))
        refine ⟨g, cur, mk, hA, hb, hk.trans hg, fun i hi => ?_, hc⟩
        rw [← hf i hi]
        unfold World.frozen?
        rw [hk]
      intro f hf
      rcases List.mem_append.1 hf with hf | hf
      · exact keep f (hown.bs f hf)
      · obtain rfl := List.mem_singleton.1 hf
        exact keep _ he
/-! Votes out of a map, in whatever order. -/
theorem perm_take : ∀ {l : List VM} {v : VM} {p q : VM → Bool}, SortedV l → v ∈ l → (∀ y, q y = (p y || decide (y.s = v.s))) → p v = false → (l.filter q).Perm (l.filter p ++ [v])
  | [], _, _, _, _, hv, _, _ => by cases hv
  | a :: l, v, p, q, hs, hv, hq, hp => by
    obtain ⟨h1, h2⟩ := List.pairwise_cons.1 hs
    by_cases e : a = v
    · subst e
      have e1 : l.filter q = l.filter p := List.filter_congr fun y hy => by
        have := h1 y hy
        have h3 : ¬ y.s = a.s := by omega
        rw [hq]
        simp [h3]
      rw [List.filter_cons, List.filter_cons, if_pos (by rw [hq]; simp), if_neg (by rw [hp]; simp), e1]
      exact (List.perm_append_comm (l₁ := [a])).trans (List.Perm.refl _)
    · have hv' := (List.mem_cons.1 hv).resolve_left (fun h => e h.symm)
      have ih := perm_take (p := p) (q := q) h2 hv' hq hp
      have h3 := h1 v hv'
      have h4 : ¬ a.s = v.s := by omega
      have e2 : q a = p a := by rw [hq]; simp [h4]
      rw [List.filter_cons, List.filter_cons, e2]
      by_cases h5 : p a = true
      · rw [if_pos h5, if_pos h5]
        exact ih.cons a
      · rw [if_neg h5, if_neg h5]
        exact ih
theorem perm_sorted : ∀ {m l : List VM}, SortedV m → l.Perm m → l.Pairwise (fun a b => a.s ≤ b.s) → l = m
  | [], l, _, hp, _ => List.perm_nil.1 hp
  | a :: m, l, hs, hp, hl => by
    obtain ⟨h1, h2⟩ := List.pairwise_cons.1 hs
    cases l with
    | nil => exact absurd hp.length_eq (by simp)
    | cons b l =>
      obtain ⟨h3, h4⟩ := List.pairwise_cons.1 hl
      have hb : b ∈ a :: m := hp.mem_iff.1 List.mem_cons_self
      have ha : a ∈ b :: l := hp.mem_iff.2 List.mem_cons_self
      have e : b = a := by
        rcases List.mem_cons.1 hb with h | h
        · exact h
        · rcases List.mem_cons.1 ha with h' | h'
          · exact h'.symm
          · have := h1 b h
            have := h3 a h'
            omega
      subst e
      rw [perm_sorted h2 ((List.perm_cons b).1 hp) h4]
end Go.Proofs.YtdiihaeelcbjbaaGreatDoor

-- SbM
namespace Go.Proofs.YtdiihaeelcbjbaaGreatDoor
open Go.RowKit Go.Maps Go.WideMaps

set_option maxRecDepth 100000 in
theorem isNaN_c (x : Nat) (w : World) : Calls Tryz.prog 83 #[.int .u64 (x : Int)] w fun e W' => e = .returned (.bool false) ∧ W' = w := by
  go_enter Tryz.func83, Tryz.ntmps83
  go_wp2
  go_ret
  simp
def cmpN (a b : Nat) : Int := if a < b then -1 else if b < a then 1 else 0
set_option maxRecDepth 100000 in
theorem compare_c (a b : Nat) (w : World) : Calls Tryz.prog 52 #[.int .u64 (a : Int), .int .u64 (b : Int)] w fun e W' => e = .returned (.int .i64 (cmpN a b)) ∧ W' = w := by
  have H1 := Lib.hid (isNaN_c a w)
  have H2 := Lib.hid (isNaN_c b w)
  obtain ⟨r, hr⟩ : ∃ r, r = cmpN a b := ⟨_, rfl⟩
  rw [← hr]
  unfold cmpN at hr
  have HR := Lib.hid hr
  clear hr
  go_enter Tryz.func52, Tryz.ntmps52
  go_wp2_with fail
  refine H1.out.mono ?_
  rintro e W ⟨rfl, rfl⟩
  go_wp2_with fail
  refine H2.out.mono ?_
  rintro e W ⟨rfl, rfl⟩
  clear H1 H2
  by_cases h1 : a < b
  · have h1i : (a : Int) < b := by omega
    have hr : r = -1 := by rw [HR.out, if_pos h1]
    clear HR h1
    subst hr
    go_wp2
    go_ret
    exact ⟨rfl, rfl⟩
  · have h1i : ¬ (a : Int) < b := by omega
    by_cases h2 : b < a
    · have h2i : (b : Int) < a := by omega
      have hr : r = 1 := by rw [HR.out, if_neg h1, if_pos h2]
      clear HR h1 h2
      subst hr
      go_wp2
      go_ret
      exact ⟨rfl, rfl⟩
    · have h2i : ¬ (b : Int) < a := by omega
      have hr : r = 0 := by rw [HR.out, if_neg h1, if_neg h2]
      clear HR h1 h2
      subst hr
      go_wp2
      go_ret
      exact ⟨rfl, rfl⟩
def cfV (x y : VR) : Int := cmpN x.v.s y.v.s
theorem ltV (x y : VR) : ltOf cfV x y = decide (x.v.s < y.v.s) := by
  unfold ltOf cfV cmpN
  by_cases h1 : x.v.s < y.v.s
  · simp [h1]
  · by_cases h2 : y.v.s < x.v.s <;> simp [h1, h2]
theorem swoV : Go.Sort.SWO (ltOf cfV) where
  irrefl x := by rw [ltV]; simp
  trans x y z h1 h2 := by rw [ltV] at *; simp at *; omega
  ntrans x y z h1 h2 := by rw [ltV] at *; simp at *; omega
set_option maxRecDepth 100000 in
theorem closure_c (x y : VR) (W : World) : Calls Tryz.prog 51 #[.agg (encV x).toArray, .agg (encV y).toArray] W fun e w' => e = .returned (.int .i64 (cfV x y)) ∧ ∃ q os', w' = Go.Sort.grow (W.drewN q) os' := by
  have hcon := fun W' => Lib.hid (compare_c x.v.s y.v.s W')
  unfold encV cfV
  generalize cmpN x.v.s y.v.s = r at hcon ⊢
  go_enter Tryz.func51, Tryz.ntmps51
  go_upto_region 1 with (fail)
  obtain ⟨W0, hW0⟩ : ∃ W0, W0 = W.alloc (.cells #[.int .u64 (x.v.s : Int), .int .u64 (x.v.b.n : Int), .int .i64 x.v.b.r, .slice x.A x.v.x.length x.c] 68) := ⟨_, rfl⟩
  rw [← hW0]
  obtain ⟨W1, hW1⟩ : ∃ W1, W1 = W0.alloc (.cells #[.int .u64 (y.v.s : Int), .int .u64 (y.v.b.n : Int), .int .i64 y.v.b.r, .slice y.A y.v.x.length y.c] 68) := ⟨_, rfl⟩
  rw [← hW1]
  obtain ⟨p, hp⟩ : ∃ p, p = W.heap.size := ⟨_, rfl⟩
  have s0 : W0.heap.size = p + 1 := by rw [hW0, hp]; exact Array.size_push _
  have k0 : W0.heap[p]? = some (.cells #[.int .u64 (x.v.s : Int), .int .u64 (x.v.b.n : Int), .int .i64 x.v.b.r, .slice x.A x.v.x.length x.c] 68 (0, 0)) := by rw [hW0, hp]; exact World.alloc_heap_new W _
  have k1 : W1.heap[p + 1]? = some (.cells #[.int .u64 (y.v.s : Int), .int .u64 (y.v.b.n : Int), .int .i64 y.v.b.r, .slice y.A y.v.x.length y.c] 68 (0, 0)) := by rw [hW1, ← s0]; exact World.alloc_heap_new W0 _
  have b1 : Below W0.heap.size W0 W1 := by rw [hW1]; exact (Below.refl _ W0).alloc (Nat.le_refl _) _
  have k0' := (b1.block p (by omega)).trans k0
  have HG := Lib.hid (show ∃ q os', W1 = Go.Sort.grow (W.drewN q) os' from ⟨0, _, by rw [hW1, hW0, Go.Sort.alloc_eq_grow, Go.Sort.alloc_eq_grow, Go.Sort.grow_grow]; rfl⟩)
  have x0 : W1.cell? ⟨p, 0, none⟩ = some (.int .u64 (x.v.s : Int)) := blk_cell k0' 0
  have y0 : W1.cell? ⟨p + 1, 0, none⟩ = some (.int .u64 (y.v.s : Int)) := blk_cell k1 0
  rw [← hp]
  clear hW0 hW1 hp s0 k0 k1 b1 k0'
  go_wp2_with fail
  refine (hcon _).out.mono ?_
  rintro e W3 ⟨rfl, rfl⟩
  go_wp2
  go_ret
  exact ⟨rfl, HG.out⟩
set_option maxRecDepth 100000 in
/-- The row is sorted. -/
theorem sort_c (w : World) (g cap : Nat) (d : Array VR) (hH : Go.Sort.HoldsK encV 4 w g 0 d) (hg : g < w.heap.size) (hsz : d.size < 4611686018427387904) :
    Calls Tryz.prog 50 #[.slice (some ⟨g, 0, none⟩) d.size cap, .func (.func 51) #[] #[]] w fun e w' => e = .returned (.tuple #[]) ∧ ∃ d' n os, Go.Sort.PermIn 0 d.size d d' ∧ Go.Sort.SortedIn (ltOf cfV) 0 d.size d' ∧ w' = sortWorldK encV 4 w g 0 n d' os :=
  AnyQ.slices_SortFunc lay_sort 4 Tryz.isAgg68 Tryz.sizeOf68 encV (fun _ => rfl) (fun x v hv => by simp [encV] at hv; rcases hv with rfl | rfl | rfl | rfl <;> rfl) cfV swoV 51 #[] g 0 cap d w (enters_of Tryz.func51 (by kernel_rfl) rfl) (fun _ _ _ _ x y => closure_c x y _) hH hg hsz
theorem sort_none (w : World) (p : Option Addr) (cap : Nat) : Calls Tryz.prog 50 #[.slice p 0 cap, .func (.func 51) #[] #[]] w fun e w' => e = .returned (.tuple #[]) ∧ w' = w := AnyF.slices_SortFunc_none lay_sort p cap _ w
end Go.Proofs.YtdiihaeelcbjbaaGreatDoor

-- SbN
namespace Go.Proofs.YtdiihaeelcbjbaaGreatDoor
open Go.RowKit Go.Maps Go.WideMaps

theorem OwnV.holds {base : Nat} {w : World} {g cap : Nat} {l : List VR} (h : OwnV base w (.slice (some ⟨g, 0, none⟩) l.length cap) l) : Go.Sort.HoldsK encV 4 w g 0 l.toArray := by
  intro t ht
  have ht' : t < l.length * 4 := by simpa using ht
  have hj : t / 4 < l.length := by omega
  have hi : t % 4 < 4 := Nat.mod_lt _ (by decide)
  have e1 : (Go.Sort.flatK encV 4 l.toArray)[t]! = (encV l[t / 4])[t % 4]! := by
    rw [Go.Sort.get_flatK _ _ _ _ (by simpa using ht')]
    congr 2
    simp [hj]
  have hc := cellsVR_get (l := l) hj hi
  rw [show t / 4 * 4 + t % 4 = t by omega] at hc
  have hlen : (encV l[t / 4]).length = 4 := rfl
  have he : (encV l[t / 4])[t % 4]? = some ((encV l[t / 4])[t % 4]!) := by
    rw [List.getElem?_eq_getElem (by omega)]
    simp [List.getElem!_eq_getElem?_getD, List.getElem?_eq_getElem (show t % 4 < (encV l[t / 4]).length by omega)]
  rw [he] at hc
  have := World.ownsRow.cells h.row (g := g) rfl t _ hc
  rw [addr_add, Nat.zero_add] at this
  rw [Nat.zero_add, e1]
  refine ⟨this, ?_⟩
  rcases h.row.2 with ⟨e, h0⟩ | ⟨g', c', cur, e, _, hg, _⟩
  · cases e
  · cases e
    simp [World.frozen?, hg]
theorem sortW_grown {w : World} {g n : Nat} {d' : Array VR} {os : Array Obj} : w.grownBy (sortWorldK encV 4 w g 0 n d' os) (some g) := by
  unfold sortWorldK Go.Sort.putRowK
  refine ⟨rfl, rfl, rfl, by simp [Go.Sort.grow, Go.Sort.ahead], fun k hk hne => ?_⟩
  rw [Go.Sort.heap_grow_old _ _ (by simpa [Go.Sort.ahead] using hk)]
  have : g ≠ k := fun e => hne (by rw [e])
  simp [Go.Sort.putRow, Go.Sort.mapBlock, Go.Sort.ahead, Array.getElem?_modify, this]
theorem sortW_cell {w : World} {g n : Nat} {d d' : Array VR} {os : Array Obj} (hH : Go.Sort.HoldsK encV 4 w g 0 d) (hg : g < w.heap.size) (hs : d'.size = d.size) {j i : Nat} (hj : j < d'.size) (hi : i < 4) : (sortWorldK encV 4 w g 0 n d' os).cell? ⟨g, 0 + j * 4 + i, none⟩ = (encV d'[j])[i]? := by
  have h1 := Go.Sort.holds_putRow id (Go.Sort.ahead w n) g 0 _ (Go.Sort.flatK encV 4 d') (Go.Sort.holds_ahead _ _ n _ _ _ hH) (by simp [hs])
  have hlt : j * 4 + i < d'.size * 4 := by omega
  have h2 := (h1 (j * 4 + i) (by simpa using hlt)).1
  unfold sortWorldK Go.Sort.putRowK
  rw [Go.Sort.cell?_grow _ _ _ (by simpa [Go.Sort.ahead] using hg), Nat.add_assoc, h2, Go.Sort.get_flatK _ _ _ _ hlt]
  have e1 : (j * 4 + i) / 4 = j := by omega
  have e2 : (j * 4 + i) % 4 = i := by omega
  rw [e1, e2]
  have hlen : (encV d'[j]).length = 4 := rfl
  rw [List.getElem?_eq_getElem (by omega)]
  simp [hj, List.getElem!_eq_getElem?_getD, List.getElem?_eq_getElem (show i < (encV d'[j]).length by omega)]
theorem sorted_out {base : Nat} {w : World} {g cap n : Nat} {l : List VR} {m : List VM} {d' : Array VR} {os : Array Obj} (h : OwnV base w (.slice (some ⟨g, 0, none⟩) l.length cap) l) (_hl : l ≠ []) (hm : SortedV m) (hp : (l.map VR.v).Perm m) (hperm : Go.Sort.PermIn 0 l.toArray.size l.toArray d') (hs : Go.Sort.SortedIn (ltOf cfV) 0 l.toArray.size d') :
    HasVM base (sortWorldK encV 4 w g 0 n d' os) (some ⟨g, 0, none⟩) m ∧ m.length = l.length := by
  obtain ⟨h1, _, h3⟩ := hperm
  have h3' : d'.toList.Perm l := by
    have e1 : d'.extract 0 l.toArray.size = d' := by rw [← h1]; exact Array.extract_size
    have e2 : l.toArray.extract 0 l.toArray.size = l.toArray := Array.extract_size
    rw [e1, e2] at h3
    exact h3
  have hsz : d'.size = l.length := by simpa using h1
  have hsorted : (d'.toList.map VR.v).Pairwise (fun a b => a.s ≤ b.s) := by
    rw [List.pairwise_iff_getElem]
    intro i j hi hj hij
    have hi' : i < d'.size := by simpa using hi
    have hj' : j < d'.size := by simpa using hj
    have := hs i j (Nat.zero_le _) hij (by simpa [hsz] using hj')
    rw [ltV] at this
    simp [hi', hj'] at this
    simpa using this
  have he : d'.toList.map VR.v = m := perm_sorted hm ((h3'.map VR.v).trans hp) hsorted
  have hg : g < w.heap.size := by
    rcases h.row.2 with ⟨e, _⟩ | ⟨g', c', cur, e, _, hg, _⟩
    · cases e
    · cases e; exact (Array.getElem?_eq_some_iff.1 hg).1
  have hbase : base ≤ g := (h.lt g rfl).1
  have hgr := sortW_grown (w := w) (g := g) (n := n) (d' := d') (os := os)
  refine ⟨fun _ => ⟨g, 0, rfl, hbase, Nat.lt_of_lt_of_le hg hgr.size, fun j hj => ?_⟩, by rw [← he]; simpa using hsz⟩
  have hj' : j < d'.size := by rw [← he] at hj; simpa using hj
  have ej : m[j] = d'[j].v := by simp [← he]
  have c0 := sortW_cell (n := n) (os := os) h.holds hg h1 hj' (i := 0) (by decide)
  have c1 := sortW_cell (n := n) (os := os) h.holds hg h1 hj' (i := 1) (by decide)
  have c2 := sortW_cell (n := n) (os := os) h.holds hg h1 hj' (i := 2) (by decide)
  have c3 := sortW_cell (n := n) (os := os) h.holds hg h1 hj' (i := 3) (by decide)
  have hmem : d'[j] ∈ l := h3'.mem_iff.1 (by simp)
  have hb := h.bs _ hmem
  have hb' : OwnB base (sortWorldK encV 4 w g 0 n d' os) (.slice d'[j].A d'[j].v.x.length d'[j].c) d'[j].v.x.length d'[j].v.x := by
    obtain ⟨q0, A, c, e1, hh⟩ := hb
    refine ⟨q0, A, c, e1, fun hn => ?_⟩
    obtain ⟨b, cur, mk, hA, hbb, hbk, hf, hc⟩ := hh hn
    have hk := hgr.block b (Array.getElem?_eq_some_iff.1 hbk).1 (fun hz => by
      cases hz
      obtain ⟨_, cs, h5⟩ := h.lt g rfl
      rw [hbk] at h5
      injection h5 with h5
      injection h5 with _ h6 _
      exact absurd h6 (by decide))
    refine ⟨b, cur, mk, hA, hbb, hk.trans hbk, fun i hi => ?_, hc⟩
    rw [← hf i hi]
    unfold World.frozen?
    rw [hk]
  rw [ej]
  exact ⟨_, _, c0, c1, c2, c3, hb'⟩
end Go.Proofs.YtdiihaeelcbjbaaGreatDoor

-- SbO
namespace Go.Proofs.YtdiihaeelcbjbaaGreatDoor
open Go.RowKit Go.Maps Go.WideMaps

/-- Votes taken out of the map so far. -/
def VtI (w : World) (m r : Nat) (l : List VM) (n : Nat) (y : Value) (W : World) : Prop := ∃ (left : Lit → Bool) (cnt : Nat) (ys : List VR), W.ranges Tryz.prog 23 votR m r l.length (mapV l) left cnt ∧ Below w.heap.size w W ∧ OwnV w.heap.size W y ys ∧ (ys.map VR.v).Perm (l.filter fun v => decide (n ≤ v.s) && !left (kyV v.s))
theorem findV_mem {l : List VM} {n : Nat} {v : VM} (h : findV l n = some v) : v ∈ l ∧ v.s = n := ⟨List.mem_of_find?_eq_some h, findV_s h⟩
theorem at_mem {l : List VM} {x : Nat} {c : VM} {y1 : DataW Unit} (h : ∀ zd, (mapV l).atKey (kyV x) zd = y1) (hc : y1 = votD c) : ∃ v, v ∈ l ∧ v.s = x ∧ votV v = votV c := by
  cases hf : findV l x with
  | none =>
    exfalso
    have h1 := h .nil
    have h2 := h (.lit (.int .u64 0))
    rw [mapV_at, hf] at h1 h2
    simp only [Option.elim] at h1 h2
    rw [← h1] at h2
    cases h2
  | some v =>
    have h1 := h .nil
    rw [mapV_at, hf] at h1
    simp only [Option.elim] at h1
    obtain ⟨h2, h3⟩ := findV_mem hf
    exact ⟨v, h2, h3, votD_eq (h1.trans hc)⟩
set_option maxRecDepth 100000 in
set_option maxHeartbeats 4000000 in
theorem votes_c {w : World} {B m L : Nat} {s : SM} (h : SkC w B m L s) (hso : SortedV s.vs) (hn : s.vs.length ≤ 1000) (n : Nat) : Calls Tryz.prog 27 #[.pointer (some ⟨B, 0, none⟩), .int .u64 (n : Int)] w fun e W' => Below w.heap.size w W' ∧
    ∃ A c, e = .returned (.slice A (s.vs.filter fun v => decide (n ≤ v.s)).length c) ∧ HasVM w.heap.size W' A (s.vs.filter fun v => decide (n ≤ v.s)) := by
  have c5 : w.cell? ⟨B, 5, none⟩ = some (.map (some m)) := h.at 5
  have hown : w.ownsMap Tryz.prog 23 votR m s.vs.length (mapV s.vs) := h.map
  have HML := Lib.hid h.mlt
  obtain ⟨l, hl⟩ : ∃ l, l = s.vs := ⟨_, rfl⟩
  rw [← hl] at hown hso hn ⊢
  have HS := Lib.hid (And.intro hso hn)
  obtain ⟨mv, hmv⟩ : ∃ mv, mv = l.filter fun v => decide (n ≤ v.s) := ⟨_, rfl⟩
  rw [← hmv]
  have HMV := Lib.hid hmv
  clear h hl hso hn hmv
  go_enter Tryz.func27, Tryz.ntmps27
  go_wp2_with (first
    | (at_range; refine wpList_range_own _ rfl _ 87 rfl 23 100 keyedU64 Tryz.underlying87 votR m _ _ rfl hown ?_; intro w0 hrg0 hg0 hs0)
    | go_in)
  go_frame
  obtain ⟨r, hr⟩ : ∃ r, r = w.heap.size := ⟨_, rfl⟩
  have b0 : Below w.heap.size w w0 := (Below.refl _ w).grown hg0 (Nat.le_refl _) (fun k e => by cases e)
  rw [← hr] at hrg0 ⊢
  have HR := Lib.hid (And.intro hr (show r ≠ m by have := HML.out; omega))
  have H0 := Lib.hid (show VtI w m r l n (.slice none 0 0) w0 from ⟨_, _, [], hrg0, b0, OwnV.nil _ _, by
    have e : (l.filter fun v => decide (n ≤ v.s) && !has (mapV l) (kyV v.s)) = [] := by
      rw [List.filter_eq_nil_iff]
      intro v hv
      have : has (mapV l) (kyV v.s) = true := by
        rw [mapV_has, findV, List.find?_isSome]
        exact ⟨v, hv, by simp⟩
      simp [this]
    rw [e]
    exact List.Perm.refl _⟩)
  clear hrg0 hg0 hs0 hr hown c5 b0
  go_loopw [5] (fun v5 wr => Hid (VtI w m r l n v5 wr)) (fun _ wr => wr.rangeLeft m r)
  case atStart => exact H0
  case round =>
    obtain ⟨left, cnt, ys, hrg, hbw, hov, hpm⟩ := hrel.out
    clear hrel H0
    obtain ⟨A5, q5, rfl⟩ := hov.form
    obtain ⟨N, hN⟩ : ∃ N, N = ys.length := ⟨_, rfl⟩
    have HOV := Lib.hid hov
    rw [← hN] at HOV ⊢
    have HNN := Lib.hid hN
    have HPM := Lib.hid (And.intro hpm hbw)
    clear hov hN hpm hbw
    go_wp2_with (first
      | (at_next; refine wpList_next_ranges _ rfl _ rfl 23 keyedU64 votR (fun x : Nat => Value.int .u64 (x : Int)) votV (fun key kl hkey => by obtain ⟨x, h1, _⟩ := key_inv64 hkey; exact ⟨x, h1⟩) (fun v y hv => by obtain ⟨c, h1, _⟩ := votR_inv hv; exact ⟨c, h1⟩) m r l.length _ _ _ rfl hrg ?_ ?_)
      | go_in)
    · -- nothing is left
      intro _ hl0
      have hp : (ys.map VR.v).Perm (l.filter fun v => decide (n ≤ v.s)) := by
        have h1 := HPM.out.1
        have e : (l.filter fun v => decide (n ≤ v.s) && !left (kyV v.s)) = l.filter fun v => decide (n ≤ v.s) := List.filter_congr fun v _ => by rw [hl0]; simp
        rw [e] at h1
        exact h1
      have hsm : SortedV (l.filter fun v => decide (n ≤ v.s)) := HS.out.1.filter _
      rw [← HMV.out] at hp hsm
      have hlen : N = mv.length := by rw [HNN.out, ← hp.length_eq, List.length_map]
      have HX := Lib.hid (And.intro hp (And.intro hsm hlen))
      clear hrg hl0 hp hsm hlen
      by_cases hy : N = 0
      · subst hy
        have HN0 := Lib.hid (sort_none wr A5 q5)
        go_wp2_with fail
        refine HN0.out.mono ?_
        rintro e W1 ⟨rfl, rfl⟩
        go_wp2
        go_ret
        have h0 : mv = [] := List.eq_nil_of_length_eq_zero HX.out.2.2.symm
        refine ⟨HPM.out.2, A5, q5, ?_, fun hne => absurd h0 hne⟩
        rw [h0]
        rfl
      · have hne : ys ≠ [] := by rintro rfl; exact hy HNN.out
        obtain ⟨g, rfl⟩ : ∃ g, A5 = some ⟨g, 0, none⟩ := by
          rcases HOV.out.row.2 with ⟨_, h0⟩ | ⟨g, cap, cur, e, _⟩
          · exact absurd (by rw [HNN.out]; exact h0) hy
          · cases e
            exact ⟨g, rfl⟩
        have hov : OwnV w.heap.size wr (.slice (some ⟨g, 0, none⟩) ys.length q5) ys := by rw [← HNN.out]; exact HOV.out
        have hgl : g < wr.heap.size := by
          obtain ⟨_, cs, hg⟩ := hov.lt g rfl
          exact (Array.getElem?_eq_some_iff.1 hg).1
        have hbg := (hov.lt g rfl).1
        have hsrt := sort_c wr g q5 ys.toArray hov.holds hgl (by
          have h1 := HX.out.1.length_eq
          have h2 := HS.out.2
          rw [List.length_map] at h1
          have h3 : mv.length ≤ l.length := by rw [HMV.out]; exact List.length_filter_le _ _
          simp
          omega)
        have hsrt' : Calls Tryz.prog 50 #[.slice (some ⟨g, 0, none⟩) N q5, .func (.func 51) #[] #[]] wr fun e w' => e = .returned (.tuple #[]) ∧ HasVM w.heap.size w' (some ⟨g, 0, none⟩) mv ∧ Below w.heap.size w w' := by
          have e1 : ys.toArray.size = N := by rw [HNN.out]; simp
          rw [e1] at hsrt
          refine hsrt.mono ?_
          rintro e w' ⟨he, d', k, os, p1, p2, rfl⟩
          rw [← e1] at p1 p2
          obtain ⟨o1, _⟩ := sorted_out (n := k) (os := os) hov hne HX.out.2.1 HX.out.1 p1 p2
          exact ⟨he, o1, HPM.out.2.grown (sortW_grown) HPM.out.2.size (fun k e => by cases e; exact hbg)⟩
        have HSO := Lib.hid hsrt'
        clear hsrt hsrt' hov hgl hbg hne hy HOV
        go_wp2_with fail
        refine HSO.out.mono ?_
        rintro e W1 ⟨rfl, h1, h2⟩
        have H1 := Lib.hid (And.intro h1 h2)
        clear h1 h2 HSO
        go_wp2
        go_ret
        exact ⟨H1.out.2, _, q5, by rw [HX.out.2.2]; rfl, H1.out.1⟩
    · -- an entry has come
      intro x c kl y1 y2 w1 cnt1 hkey hlk hv hat hrg1 hlt hg1 hs1 hen
      obtain ⟨x', hx1, hx2, hx3⟩ := key_inv64 hkey
      obtain rfl : x' = x := by have := congrArg (fun v => match v with | Value.int _ i => i | _ => 0) hx1; simp at this; omega
      subst hx2
      obtain ⟨c', hc1, hc2⟩ := votR_inv hv
      obtain ⟨v, hvm, rfl, hvv⟩ := at_mem hat (congrArg Prod.fst hc2)
      rw [hc1, ← hvv] at hen ⊢
      obtain ⟨vs, vb, vx⟩ := v
      unfold votV at hen ⊢
      simp only at hen hkey hlk hrg1 ⊢
      have hb1 : Below w.heap.size w w1 := HPM.out.2.grown hg1 HPM.out.2.size (fun k e => by cases e; rw [HR.out.1]; exact Nat.le_refl _)
      have hov1 : OwnV w.heap.size w1 (.slice A5 N q5) ys := HOV.out.only (Only.of_grown hg1 (F := fun k => k = r) fun k e => by cases e; rfl) (fun k hk cs h5 => by
        subst hk
        obtain ⟨es, clock, since, seen, c0, _, _, _, _, hrr, _⟩ := hrg
        rw [hrr] at h5
        cases h5) (fun k hk cs mk h5 => by
        subst hk
        obtain ⟨es, clock, since, seen, c0, _, _, _, _, hrr, _⟩ := hrg
        rw [hrr] at h5
        cases h5)
      have HG := Lib.hid (And.intro hb1 (And.intro hov1 (And.intro hrg1 (And.intro hlt hrg.left_eq))))
      have HV := Lib.hid (And.intro hvm hlk)
      clear hb1 hov1 hrg1 hlt hg1 hs1 hat hc1 hc2 hvv hv hvm hlk hx1 hx3 hkey hrg
      go_upto_region 7 with (fail)
      obtain ⟨W2, hW2⟩ : ∃ W2, W2 = w1.alloc (.cells #[.int .u64 (vb.n : Int), .int .i64 vb.r, .string (str vx)] 100) := ⟨_, rfl⟩
      rw [← hW2]
      obtain ⟨p, hp⟩ : ∃ p, p = w1.heap.size := ⟨_, rfl⟩
      have b2 : Below w1.heap.size w1 W2 := by rw [hW2]; exact (Below.refl _ w1).alloc (Nat.le_refl _) _
      have kp : W2.heap[p]? = some (.cells #[.int .u64 (vb.n : Int), .int .i64 vb.r, .string (str vx)] 100 (0, 0)) := by rw [hW2, hp]; exact World.alloc_heap_new w1 _
      rw [← hp]
      have z0 : W2.cell? ⟨p, 0, none⟩ = some (.int .u64 (vb.n : Int)) := blk_cell kp 0
      have z1 : W2.cell? ⟨p, 1, none⟩ = some (.int .i64 vb.r) := blk_cell kp 1
      have z2 : W2.cell? ⟨p, 2, none⟩ = some (.string (str vx)) := blk_cell kp 2
      have H2 := Lib.hid (show Below w.heap.size w W2 ∧ OwnV w.heap.size W2 (.slice A5 N q5) ys ∧ W2.ranges Tryz.prog 23 votR m r l.length (mapV l) (fun z => left z && !z.sameKey (kyV vs)) cnt1 from
        ⟨HG.out.1.trans (Below.mono b2 HG.out.1.size), HG.out.2.1.below b2, HG.out.2.2.1.kept (grownBy_of_below (r := none) b2) (by simp) (by simp)⟩)
      have HPS := Lib.hid (show (l.filter fun v => decide (n ≤ v.s) && !(left (kyV v.s) && !(kyV v.s).sameKey (kyV vs))).Perm (if n ≤ vs then (l.filter fun v => decide (n ≤ v.s) && !left (kyV v.s)) ++ [(⟨vs, vb, vx⟩ : VM)] else l.filter fun v => decide (n ≤ v.s) && !left (kyV v.s)) from by
        by_cases hle : n ≤ vs
        · rw [if_pos hle]
          refine perm_take HS.out.1 HV.out.1 (fun y => ?_) ?_
          · simp only [same_kyV]
            by_cases e : y.s = vs
            · simp [e, hle]
            · simp [e]
          · simp only [HV.out.2]
            simp
        · rw [if_neg hle]
          have e : (l.filter fun v => decide (n ≤ v.s) && !(left (kyV v.s) && !(kyV v.s).sameKey (kyV vs))) = l.filter fun v => decide (n ≤ v.s) && !left (kyV v.s) := List.filter_congr fun y _ => by
            simp only [same_kyV]
            by_cases e : y.s = vs
            · have : ¬ n ≤ y.s := by omega
              simp [this]
            · simp [e]
          rw [e])
      clear hW2 b2 kp hp hen
      by_cases hle : n ≤ vs
      · have hlei : (n : Int) ≤ (vs : Int) := by omega
        have HP2 := HPS.out
        rw [if_pos hle] at HP2
        have HPT := Lib.hid HP2
        have HC := Lib.hid (show Calls Tryz.prog 49 #[.agg #[.int .u64 (vb.n : Int), .int .i64 vb.r, .string (str vx)], .int .u64 (vs : Int)] W2 _ from at_c ⟨vs, vb, vx⟩ W2)
        clear hle HP2 HPS
        go_wp2_with fail
        refine HC.out.mono ?_
        rintro e W3 ⟨y, L2, rfl, ho, b3⟩
        obtain ⟨ya, yc, rfl⟩ := ho.form
        obtain rfl : L2 = vx.length := ho.len
        obtain ⟨W4, hW4⟩ : ∃ W4, W4 = W3.alloc (.cells #[.int .u64 (vs : Int), .int .u64 (vb.n : Int), .int .i64 vb.r, .slice ya vx.length yc] 68) := ⟨_, rfl⟩
        obtain ⟨q, hq⟩ : ∃ q, q = W3.heap.size := ⟨_, rfl⟩
        have b4 : Below W3.heap.size W3 W4 := by rw [hW4]; exact (Below.refl _ W3).alloc (Nat.le_refl _) _
        have kq : W4.heap[q]? = some (.cells #[.int .u64 (vs : Int), .int .u64 (vb.n : Int), .int .i64 vb.r, .slice ya vx.length yc] 68 (0, 0)) := by rw [hW4, hq]; exact World.alloc_heap_new W3 _
        have b34 : Below W2.heap.size W2 W4 := b3.trans (Below.mono b4 b3.size)
        have H4 := Lib.hid (show Below w.heap.size w W4 ∧ OwnV w.heap.size W4 (.slice A5 N q5) ys ∧ W4.ranges Tryz.prog 23 votR m r l.length (mapV l) (fun z => left z && !z.sameKey (kyV vs)) cnt1 ∧ OwnB w.heap.size W4 (.slice ya vx.length yc) vx.length vx from
          ⟨H2.out.1.trans (Below.mono b34 H2.out.1.size), H2.out.2.1.below b34, H2.out.2.2.kept (grownBy_of_below (r := none) b34) (by simp) (by simp), (ho.grew b4).down H2.out.1.size⟩)
        have HW4 := Lib.hid (And.intro hW4 (And.intro hq kq))
        have hys : ys.length + 1 ≤ 1000000 := by
          have h1 := HPM.out.1.length_eq
          have h2 := HS.out.2
          have h3 := List.length_filter_le (fun v : VM => decide (n ≤ v.s) && !left (kyV v.s)) l
          rw [List.length_map] at h1
          omega
        have HYS := Lib.hid hys
        clear hW4 hq b4 kq b34 ho b3 z0 z1 z2 HC H2 hys
        go_wp2_with (at_builtin; rw [← HW4.out.1]; refine wpList_append_V rfl (.tmp 23) (.tmp 27) rfl w.heap.size _ ys rfl H4.out.2.1 W3.heap.size 1 ⟨⟨vs, vb, vx⟩, ya, yc⟩ rfl (by rw [← HW4.out.2.1]; exact blk_cell HW4.out.2.2 0) (by rw [← HW4.out.2.1]; exact blk_cell HW4.out.2.2 1) (by rw [← HW4.out.2.1]; exact blk_cell HW4.out.2.2 2) (by rw [← HW4.out.2.1]; exact blk_cell HW4.out.2.2 3) HYS.out H4.out.1.size H4.out.2.2.2 ?_; intro v7 W7 ho7 hg7)
        have hnr : ∀ k, (Value.slice A5 N q5).ownBlock = some k → w.heap.size ≤ k ∧ k ≠ m ∧ k ≠ r := fun k hk => by
          obtain ⟨h1, cs, h2⟩ := H4.out.2.1.lt k hk
          obtain ⟨es, clock, since, seen, c0, hmm, _, _, _, hrr, _⟩ := H4.out.2.2.1
          refine ⟨h1, fun e => ?_, fun e => ?_⟩
          · rw [← e, h2] at hmm
            cases hmm
          · rw [← e, h2] at hrr
            cases hrr
        have hrg7 := H4.out.2.2.1.kept hg7 (fun e => (hnr m e.symm).2.1 rfl) (fun e => (hnr r e.symm).2.2 rfl)
        have H7 := Lib.hid (show VtI w m r l n v7 W7 from ⟨_, _, _, hrg7, H4.out.1.grown hg7 H4.out.1.size fun k e => (hnr k e).1, ho7, by
          rw [List.map_append]
          exact (HPM.out.1.append_right _).trans HPT.out.symm⟩)
        have HLQ := Lib.hid hrg7.left_eq
        clear ho7 hg7 hnr hrg7
        go_roundw
        case rel => exact H7
        case measure => rw [HLQ.out, HG.out.2.2.2.2]; exact HG.out.2.2.2.1
      · have hlei : ¬ (n : Int) ≤ (vs : Int) := by omega
        have HP2 := HPS.out
        rw [if_neg hle] at HP2
        have H7 := Lib.hid (show VtI w m r l n (.slice A5 N q5) W2 from ⟨_, _, _, H2.out.2.2, H2.out.1, H2.out.2.1, HPM.out.1.trans HP2.symm⟩)
        have HLQ := Lib.hid H2.out.2.2.left_eq
        clear hle HP2 HPS z0 z1 z2
        go_wp2_with go_in
        go_roundw
        case rel => exact H7
        case measure => rw [HLQ.out, HG.out.2.2.2.2]; exact HG.out.2.2.2.1
end Go.Proofs.YtdiihaeelcbjbaaGreatDoor
