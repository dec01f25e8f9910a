/- The law's wakes on waves: batches that are known. -/
import Derived.Test.YtooaobadnainkaaKsK
import Derived.Deep.DeepCutAuto
import Derived.Handy
namespace Go.Proofs.Ytooaobadnainkaa
open Go.RowKit

abbrev kE12 : ByteArray := ⟨#[]⟩
/-- A command that the law's of makes: its keys lie in block S. -/
def ofV (cl S n : Nat) (ks : List ByteArray) : CmdV := ⟨cl, 0, 7, some ⟨S, 0, none⟩, n, n, ks, kE12, kE12, 0⟩
set_option maxRecDepth 100000 in
theorem of_any (cl S n : Nat) (ks : List ByteArray) (w : World) :
    Calls Try.prog 14 #[.int .u32 (cl : Int), .slice (some ⟨S, 0, none⟩) n n] w fun e W' => e = .returned (ofV cl S n ks).val ∧ Below w.heap.size w W' := by
  go_enter Try.func14, Try.ntmps14
  go_wp2
  have hk := World.alloc_heap_new w (Obj.cells #[.int .u32 (cl : Int), .int .u32 0, .int .u8 7, .slice (some ⟨S, 0, none⟩) n n, .string kE12, .string kE12, .int .i64 0] 31)
  have hb : Below w.heap.size w (w.alloc (Obj.cells #[.int .u32 (cl : Int), .int .u32 0, .int .u8 7, .slice (some ⟨S, 0, none⟩) n n, .string kE12, .string kE12, .int .i64 0] 31)) := (Below.refl _ w).alloc (Nat.le_refl _) _
  obtain ⟨W, hW⟩ : ∃ W, W = w.alloc (Obj.cells #[.int .u32 (cl : Int), .int .u32 0, .int .u8 7, .slice (some ⟨S, 0, none⟩) n n, .string kE12, .string kE12, .int .i64 0] 31) := ⟨_, rfl⟩
  rw [← hW] at hk hb ⊢
  have d0 := blk_cell hk 0
  have d1 := blk_cell hk 1
  have d2 := blk_cell hk 2
  have d3 := blk_cell hk 3
  have d4 := blk_cell hk 4
  have d5 := blk_cell hk 5
  have d6 := blk_cell hk 6
  simp at d0 d1 d2 d3 d4 d5 d6
  exact bodyPost_ret (v := (ofV cl S n ks).val) (by simp [results, Try.results14, go_sem, d0, d1, d2, d3, d4, d5, d6, ofV, CmdV.val, CmdV.cells]) rfl ⟨rfl, hb⟩
abbrev bA : ByteArray := ⟨#[97]⟩
abbrev bB : ByteArray := ⟨#[98]⟩
abbrev bC : ByteArray := ⟨#[99]⟩
def cm (cl : Nat) (ks : List ByteArray) : CM := ⟨cl, 0, 7, ks, kE12, kE12, 0⟩
theorem w5_is : wavesI [cm 1 [bA], cm 2 [bB], cm 3 [bA, bB], cm 4 [bC], cm 5 [bA]] = [0, 0, 1, 0, 2] := by decide +kernel
theorem w3_is : wavesI [cm 1 [bA], cm 2 [⟨#[112]⟩, ⟨#[113]⟩, ⟨#[114]⟩, ⟨#[115]⟩, ⟨#[116]⟩], cm 3 [bB]] = [0, 1, 2] := by decide +kernel
theorem way_t : wayM (cm 1 [bA]) (cm 1 [bB]) = true := by decide +kernel
theorem of_ok {w : World} {cl S n : Nat} {ks : List ByteArray} (hcl : cl < 100) (hn : n = ks.length) (hn2 : n ≤ 5) (hks : (ks.all fun k => decide (k.size ≤ 1)) = true) (cs : Array Value) (t : TypeId) (h1 : w.heap[S]? = some (.cells cs t (0, 0))) (h2 : cs = (ks.map Value.string).toArray) : (ofV cl S n ks).ok w :=
  ⟨by show cl < 4294967296; omega, by show 0 < 4294967296; omega, by show 7 < 256; omega, by show -9223372036854775808 ≤ (0 : Int) ∧ (0 : Int) ≤ 9223372036854775807; omega, hn, by show n ≤ _; omega,
    fun _ => ⟨S, 0, rfl, (Array.getElem?_eq_some_iff.1 h1).1, fun j hj => by
      rw [blk_cell h1, Nat.zero_add, h2]
      have : j < ks.length := hj
      simp [this, ofV]⟩,
    fun k hk => by have := of_decide_eq_true (List.all_eq_true.1 hks k hk); simp only [maxLen]; omega, by show kE12.size ≤ _; simp only [maxLen]; decide, by show kE12.size ≤ _; simp only [maxLen]; decide⟩
theorem of_small {cl S n : Nat} {ks : List ByteArray} (hn2 : ks.length ≤ 5) (hks : (ks.all fun k => decide (k.size ≤ 1)) = true) : ¬ (ofV cl S n ks).great := by
  rintro (h | h | h | ⟨j, hj, h⟩)
  · revert h; show ¬ 500 < kE12.size; decide
  · revert h; show ¬ 500 < kE12.size; decide
  · have h' : 100 < ks.length := h; omega
  · have h' : 500 < (ks[j]'hj).size := h
    have := of_decide_eq_true (List.all_eq_true.1 hks _ (List.getElem_mem hj))
    omega
theorem flat7 : ∀ (l : List CmdV) (j : Nat) (hj : j < l.length) (i : Nat), i < 7 → (l.flatMap fun v => v.cells.toList)[j * 7 + i]? = l[j].cells[i]?
  | v :: l, 0, _, i, hi => by
    have h7 : v.cells.toList.length = 7 := rfl
    rw [List.flatMap_cons, List.getElem?_append_left (by omega)]
    simp
  | v :: l, j + 1, hj, i, hi => by
    have h7 : v.cells.toList.length = 7 := rfl
    rw [List.flatMap_cons, List.getElem?_append_right (by omega), h7, show (j + 1) * 7 + i - 7 = j * 7 + i by omega]
    exact flat7 l j (by simpa using hj) i hi
/-- Commands that a block holds. -/
theorem hasC_blk {V : World} {b : Nat} {l : List CmdV} {t : TypeId} (h : V.heap[b]? = some (.cells (l.flatMap fun v => v.cells.toList).toArray t (0, 0))) (ok : ∀ v ∈ l, v.ok V) : HasC V (some ⟨b, 0, none⟩) l := fun _ =>
  ⟨b, 0, rfl, (Array.getElem?_eq_some_iff.1 h).1, fun j hj => ⟨fun i u hu => by
    have hi : i < 7 := (Array.getElem?_eq_some_iff.1 hu).1
    rw [blk_cell h, Nat.zero_add, List.getElem?_toArray, flat7 l j hj i hi]
    exact hu, ok _ (List.getElem_mem hj)⟩⟩
theorem way_f : wayM (cm 1 [bA]) (cm 2 [bB]) = false := by decide +kernel
theorem alloc_sz (V : World) (o : Obj) : (V.alloc o).heap.size = V.heap.size + 1 := by simp
set_option maxRecDepth 100000 in
set_option maxHeartbeats 8000000 in
theorem wakes12_any {T : World → Prop} (K : KsK T) (w : World) (hT : T w) : Calls Try.prog 6 #[] w fun e W' => e = .returned (.bool true) ∧ Below w.heap.size w W' := by
  have HT := Lib.hid hT
  have BW := Lib.hid (Below.refl w.heap.size w)
  clear hT
  go_enter Try.func6, Try.ntmps6
  have D : Hid (Calls Try.prog 14 #[.int .u32 1, .slice (some ⟨w.heap.size, 0, none⟩) 1 1] (w.alloc (Obj.cells #[.string bA] 9)) fun e W' => e = .returned (.agg #[.int .u32 1, .int .u32 0, .int .u8 7, .slice (some ⟨w.heap.size, 0, none⟩) 1 1, .string kE12, .string kE12, .int .i64 0]) ∧ Below (w.alloc (Obj.cells #[.string bA] 9)).heap.size (w.alloc (Obj.cells #[.string bA] 9)) W') := Lib.hid (of_any 1 w.heap.size 1 [bA] _)
  go_wp2_with fail
  refine D.out.mono ?_
  rintro e U1 ⟨rfl, hb⟩
  have ha : Below w.heap.size w (w.alloc (Obj.cells #[.string bA] 9)) := (Below.refl _ w).alloc (Nat.le_refl _) _
  have sn := (hb.block w.heap.size (by rw [alloc_sz]; omega)).trans (World.alloc_heap_new w (Obj.cells #[.string bA] 9))
  have hv : Below w.heap.size w U1 := ha.trans (Below.mono hb ha.size)
  have bw := Lib.hid (BW.out.trans (Below.mono hv BW.out.size))
  obtain ⟨S1, hS⟩ : ∃ S, S = w.heap.size := ⟨_, rfl⟩
  rw [← hS] at sn ⊢
  have F1 : Hid (U1.heap[S1]? = some (.cells #[.string bA] 9 (0, 0))) := Lib.hid sn
  clear D hb ha sn hS BW 
  have BW := bw
  clear bw 
  clear hv
  have D : Hid (Calls Try.prog 14 #[.int .u32 2, .slice (some ⟨U1.heap.size, 0, none⟩) 1 1] (U1.alloc (Obj.cells #[.string bB] 9)) fun e W' => e = .returned (.agg #[.int .u32 2, .int .u32 0, .int .u8 7, .slice (some ⟨U1.heap.size, 0, none⟩) 1 1, .string kE12, .string kE12, .int .i64 0]) ∧ Below (U1.alloc (Obj.cells #[.string bB] 9)).heap.size (U1.alloc (Obj.cells #[.string bB] 9)) W') := Lib.hid (of_any 2 U1.heap.size 1 [bB] _)
  go_wp2_with fail
  refine D.out.mono ?_
  rintro e U2 ⟨rfl, hb⟩
  have ha : Below U1.heap.size U1 (U1.alloc (Obj.cells #[.string bB] 9)) := (Below.refl _ U1).alloc (Nat.le_refl _) _
  have sn := (hb.block U1.heap.size (by rw [alloc_sz]; omega)).trans (World.alloc_heap_new U1 (Obj.cells #[.string bB] 9))
  have hv : Below U1.heap.size U1 U2 := ha.trans (Below.mono hb ha.size)
  have g1 := Lib.hid ((hv.block S1 (Array.getElem?_eq_some_iff.1 F1.out).1).trans F1.out)
  have bw := Lib.hid (BW.out.trans (Below.mono hv BW.out.size))
  obtain ⟨S2, hS⟩ : ∃ S, S = U1.heap.size := ⟨_, rfl⟩
  rw [← hS] at sn ⊢
  have F2 : Hid (U2.heap[S2]? = some (.cells #[.string bB] 9 (0, 0))) := Lib.hid sn
  clear D hb ha sn hS BW F1
  have BW := bw
  have F1 := g1
  clear bw g1
  clear hv
  have D : Hid (Calls Try.prog 14 #[.int .u32 3, .slice (some ⟨U2.heap.size, 0, none⟩) 2 2] (U2.alloc (Obj.cells #[.string bA, .string bB] 9)) fun e W' => e = .returned (.agg #[.int .u32 3, .int .u32 0, .int .u8 7, .slice (some ⟨U2.heap.size, 0, none⟩) 2 2, .string kE12, .string kE12, .int .i64 0]) ∧ Below (U2.alloc (Obj.cells #[.string bA, .string bB] 9)).heap.size (U2.alloc (Obj.cells #[.string bA, .string bB] 9)) W') := Lib.hid (of_any 3 U2.heap.size 2 [bA, bB] _)
  go_wp2_with fail
  refine D.out.mono ?_
  rintro e U3 ⟨rfl, hb⟩
  have ha : Below U2.heap.size U2 (U2.alloc (Obj.cells #[.string bA, .string bB] 9)) := (Below.refl _ U2).alloc (Nat.le_refl _) _
  have sn := (hb.block U2.heap.size (by rw [alloc_sz]; omega)).trans (World.alloc_heap_new U2 (Obj.cells #[.string bA, .string bB] 9))
  have hv : Below U2.heap.size U2 U3 := ha.trans (Below.mono hb ha.size)
  have g1 := Lib.hid ((hv.block S1 (Array.getElem?_eq_some_iff.1 F1.out).1).trans F1.out)
  have g2 := Lib.hid ((hv.block S2 (Array.getElem?_eq_some_iff.1 F2.out).1).trans F2.out)
  have bw := Lib.hid (BW.out.trans (Below.mono hv BW.out.size))
  obtain ⟨S3, hS⟩ : ∃ S, S = U2.heap.size := ⟨_, rfl⟩
  rw [← hS] at sn ⊢
  have F3 : Hid (U3.heap[S3]? = some (.cells #[.string bA, .string bB] 9 (0, 0))) := Lib.hid sn
  clear D hb ha sn hS BW F1 F2
  have BW := bw
  have F1 := g1
  have F2 := g2
  clear bw g1 g2
  clear hv
  have D : Hid (Calls Try.prog 14 #[.int .u32 4, .slice (some ⟨U3.heap.size, 0, none⟩) 1 1] (U3.alloc (Obj.cells #[.string bC] 9)) fun e W' => e = .returned (.agg #[.int .u32 4, .int .u32 0, .int .u8 7, .slice (some ⟨U3.heap.size, 0, none⟩) 1 1, .string kE12, .string kE12, .int .i64 0]) ∧ Below (U3.alloc (Obj.cells #[.string bC] 9)).heap.size (U3.alloc (Obj.cells #[.string bC] 9)) W') := Lib.hid (of_any 4 U3.heap.size 1 [bC] _)
  go_wp2_with fail
  refine D.out.mono ?_
  rintro e U4 ⟨rfl, hb⟩
  have ha : Below U3.heap.size U3 (U3.alloc (Obj.cells #[.string bC] 9)) := (Below.refl _ U3).alloc (Nat.le_refl _) _
  have sn := (hb.block U3.heap.size (by rw [alloc_sz]; omega)).trans (World.alloc_heap_new U3 (Obj.cells #[.string bC] 9))
  have hv : Below U3.heap.size U3 U4 := ha.trans (Below.mono hb ha.size)
  have g1 := Lib.hid ((hv.block S1 (Array.getElem?_eq_some_iff.1 F1.out).1).trans F1.out)
  have g2 := Lib.hid ((hv.block S2 (Array.getElem?_eq_some_iff.1 F2.out).1).trans F2.out)
  have g3 := Lib.hid ((hv.block S3 (Array.getElem?_eq_some_iff.1 F3.out).1).trans F3.out)
  have bw := Lib.hid (BW.out.trans (Below.mono hv BW.out.size))
  obtain ⟨S4, hS⟩ : ∃ S, S = U3.heap.size := ⟨_, rfl⟩
  rw [← hS] at sn ⊢
  have F4 : Hid (U4.heap[S4]? = some (.cells #[.string bC] 9 (0, 0))) := Lib.hid sn
  clear D hb ha sn hS BW F1 F2 F3
  have BW := bw
  have F1 := g1
  have F2 := g2
  have F3 := g3
  clear bw g1 g2 g3
  clear hv
  have D : Hid (Calls Try.prog 14 #[.int .u32 5, .slice (some ⟨U4.heap.size, 0, none⟩) 1 1] (U4.alloc (Obj.cells #[.string bA] 9)) fun e W' => e = .returned (.agg #[.int .u32 5, .int .u32 0, .int .u8 7, .slice (some ⟨U4.heap.size, 0, none⟩) 1 1, .string kE12, .string kE12, .int .i64 0]) ∧ Below (U4.alloc (Obj.cells #[.string bA] 9)).heap.size (U4.alloc (Obj.cells #[.string bA] 9)) W') := Lib.hid (of_any 5 U4.heap.size 1 [bA] _)
  go_wp2_with fail
  refine D.out.mono ?_
  rintro e U5 ⟨rfl, hb⟩
  have ha : Below U4.heap.size U4 (U4.alloc (Obj.cells #[.string bA] 9)) := (Below.refl _ U4).alloc (Nat.le_refl _) _
  have sn := (hb.block U4.heap.size (by rw [alloc_sz]; omega)).trans (World.alloc_heap_new U4 (Obj.cells #[.string bA] 9))
  have hv : Below U4.heap.size U4 U5 := ha.trans (Below.mono hb ha.size)
  have g1 := Lib.hid ((hv.block S1 (Array.getElem?_eq_some_iff.1 F1.out).1).trans F1.out)
  have g2 := Lib.hid ((hv.block S2 (Array.getElem?_eq_some_iff.1 F2.out).1).trans F2.out)
  have g3 := Lib.hid ((hv.block S3 (Array.getElem?_eq_some_iff.1 F3.out).1).trans F3.out)
  have g4 := Lib.hid ((hv.block S4 (Array.getElem?_eq_some_iff.1 F4.out).1).trans F4.out)
  have bw := Lib.hid (BW.out.trans (Below.mono hv BW.out.size))
  obtain ⟨S5, hS⟩ : ∃ S, S = U4.heap.size := ⟨_, rfl⟩
  rw [← hS] at sn ⊢
  have F5 : Hid (U5.heap[S5]? = some (.cells #[.string bA] 9 (0, 0))) := Lib.hid sn
  clear D hb ha sn hS BW F1 F2 F3 F4
  have BW := bw
  have F1 := g1
  have F2 := g2
  have F3 := g3
  have F4 := g4
  clear bw g1 g2 g3 g4
  clear hv
  have ha : Below U5.heap.size U5 (U5.alloc (Obj.cells #[.int .u32 1, .int .u32 0, .int .u8 7, .slice (some ⟨S1, 0, none⟩) 1 1, .string kE12, .string kE12, .int .i64 0, .int .u32 2, .int .u32 0, .int .u8 7, .slice (some ⟨S2, 0, none⟩) 1 1, .string kE12, .string kE12, .int .i64 0, .int .u32 3, .int .u32 0, .int .u8 7, .slice (some ⟨S3, 0, none⟩) 2 2, .string kE12, .string kE12, .int .i64 0, .int .u32 4, .int .u32 0, .int .u8 7, .slice (some ⟨S4, 0, none⟩) 1 1, .string kE12, .string kE12, .int .i64 0, .int .u32 5, .int .u32 0, .int .u8 7, .slice (some ⟨S5, 0, none⟩) 1 1, .string kE12, .string kE12, .int .i64 0] 31)) := (Below.refl _ U5).alloc (Nat.le_refl _) _
  have hn : (U5.alloc (Obj.cells #[.int .u32 1, .int .u32 0, .int .u8 7, .slice (some ⟨S1, 0, none⟩) 1 1, .string kE12, .string kE12, .int .i64 0, .int .u32 2, .int .u32 0, .int .u8 7, .slice (some ⟨S2, 0, none⟩) 1 1, .string kE12, .string kE12, .int .i64 0, .int .u32 3, .int .u32 0, .int .u8 7, .slice (some ⟨S3, 0, none⟩) 2 2, .string kE12, .string kE12, .int .i64 0, .int .u32 4, .int .u32 0, .int .u8 7, .slice (some ⟨S4, 0, none⟩) 1 1, .string kE12, .string kE12, .int .i64 0, .int .u32 5, .int .u32 0, .int .u8 7, .slice (some ⟨S5, 0, none⟩) 1 1, .string kE12, .string kE12, .int .i64 0] 31)).heap[U5.heap.size]? = some (.cells (([ofV 1 S1 1 [bA], ofV 2 S2 1 [bB], ofV 3 S3 2 [bA, bB], ofV 4 S4 1 [bC], ofV 5 S5 1 [bA]] : List CmdV).flatMap fun v => v.cells.toList).toArray 31 (0, 0)) := World.alloc_heap_new U5 (Obj.cells #[.int .u32 1, .int .u32 0, .int .u8 7, .slice (some ⟨S1, 0, none⟩) 1 1, .string kE12, .string kE12, .int .i64 0, .int .u32 2, .int .u32 0, .int .u8 7, .slice (some ⟨S2, 0, none⟩) 1 1, .string kE12, .string kE12, .int .i64 0, .int .u32 3, .int .u32 0, .int .u8 7, .slice (some ⟨S3, 0, none⟩) 2 2, .string kE12, .string kE12, .int .i64 0, .int .u32 4, .int .u32 0, .int .u8 7, .slice (some ⟨S4, 0, none⟩) 1 1, .string kE12, .string kE12, .int .i64 0, .int .u32 5, .int .u32 0, .int .u8 7, .slice (some ⟨S5, 0, none⟩) 1 1, .string kE12, .string kE12, .int .i64 0] 31)
  have f1 := (ha.block S1 (Array.getElem?_eq_some_iff.1 F1.out).1).trans F1.out
  have f2 := (ha.block S2 (Array.getElem?_eq_some_iff.1 F2.out).1).trans F2.out
  have f3 := (ha.block S3 (Array.getElem?_eq_some_iff.1 F3.out).1).trans F3.out
  have f4 := (ha.block S4 (Array.getElem?_eq_some_iff.1 F4.out).1).trans F4.out
  have f5 := (ha.block S5 (Array.getElem?_eq_some_iff.1 F5.out).1).trans F5.out
  have hok : ∀ v ∈ ([ofV 1 S1 1 [bA], ofV 2 S2 1 [bB], ofV 3 S3 2 [bA, bB], ofV 4 S4 1 [bC], ofV 5 S5 1 [bA]] : List CmdV), v.ok (U5.alloc (Obj.cells #[.int .u32 1, .int .u32 0, .int .u8 7, .slice (some ⟨S1, 0, none⟩) 1 1, .string kE12, .string kE12, .int .i64 0, .int .u32 2, .int .u32 0, .int .u8 7, .slice (some ⟨S2, 0, none⟩) 1 1, .string kE12, .string kE12, .int .i64 0, .int .u32 3, .int .u32 0, .int .u8 7, .slice (some ⟨S3, 0, none⟩) 2 2, .string kE12, .string kE12, .int .i64 0, .int .u32 4, .int .u32 0, .int .u8 7, .slice (some ⟨S4, 0, none⟩) 1 1, .string kE12, .string kE12, .int .i64 0, .int .u32 5, .int .u32 0, .int .u8 7, .slice (some ⟨S5, 0, none⟩) 1 1, .string kE12, .string kE12, .int .i64 0] 31)) := by
    intro v hv
    simp only [List.mem_cons, List.not_mem_nil, or_false] at hv
    rcases hv with rfl | rfl | rfl | rfl | rfl
    · exact of_ok (by decide) rfl (by decide) (by decide) _ _ f1 rfl
    · exact of_ok (by decide) rfl (by decide) (by decide) _ _ f2 rfl
    · exact of_ok (by decide) rfl (by decide) (by decide) _ _ f3 rfl
    · exact of_ok (by decide) rfl (by decide) (by decide) _ _ f4 rfl
    · exact of_ok (by decide) rfl (by decide) (by decide) _ _ f5 rfl
  have hng : ∀ v ∈ ([ofV 1 S1 1 [bA], ofV 2 S2 1 [bB], ofV 3 S3 2 [bA, bB], ofV 4 S4 1 [bC], ofV 5 S5 1 [bA]] : List CmdV), ¬ v.great := by
    intro v hv
    simp only [List.mem_cons, List.not_mem_nil, or_false] at hv
    rcases hv with rfl | rfl | rfl | rfl | rfl
    · exact of_small (by decide) (by decide)
    · exact of_small (by decide) (by decide)
    · exact of_small (by decide) (by decide)
    · exact of_small (by decide) (by decide)
    · exact of_small (by decide) (by decide)
  have D : Hid (Calls Try.prog 7 #[.slice (some ⟨U5.heap.size, 0, none⟩) 5 5] (U5.alloc (Obj.cells #[.int .u32 1, .int .u32 0, .int .u8 7, .slice (some ⟨S1, 0, none⟩) 1 1, .string kE12, .string kE12, .int .i64 0, .int .u32 2, .int .u32 0, .int .u8 7, .slice (some ⟨S2, 0, none⟩) 1 1, .string kE12, .string kE12, .int .i64 0, .int .u32 3, .int .u32 0, .int .u8 7, .slice (some ⟨S3, 0, none⟩) 2 2, .string kE12, .string kE12, .int .i64 0, .int .u32 4, .int .u32 0, .int .u8 7, .slice (some ⟨S4, 0, none⟩) 1 1, .string kE12, .string kE12, .int .i64 0, .int .u32 5, .int .u32 0, .int .u8 7, .slice (some ⟨S5, 0, none⟩) 1 1, .string kE12, .string kE12, .int .i64 0] 31)) fun e W' => ∃ A' c', e = .returned (.slice A' 5 c') ∧ 5 ≤ c' ∧ HasI W' A' (wavesI (([ofV 1 S1 1 [bA], ofV 2 S2 1 [bB], ofV 3 S3 2 [bA, bB], ofV 4 S4 1 [bC], ofV 5 S5 1 [bA]] : List CmdV).map (·.m))) ∧ Below (U5.alloc (Obj.cells #[.int .u32 1, .int .u32 0, .int .u8 7, .slice (some ⟨S1, 0, none⟩) 1 1, .string kE12, .string kE12, .int .i64 0, .int .u32 2, .int .u32 0, .int .u8 7, .slice (some ⟨S2, 0, none⟩) 1 1, .string kE12, .string kE12, .int .i64 0, .int .u32 3, .int .u32 0, .int .u8 7, .slice (some ⟨S3, 0, none⟩) 2 2, .string kE12, .string kE12, .int .i64 0, .int .u32 4, .int .u32 0, .int .u8 7, .slice (some ⟨S4, 0, none⟩) 1 1, .string kE12, .string kE12, .int .i64 0, .int .u32 5, .int .u32 0, .int .u8 7, .slice (some ⟨S5, 0, none⟩) 1 1, .string kE12, .string kE12, .int .i64 0] 31)).heap.size (U5.alloc (Obj.cells #[.int .u32 1, .int .u32 0, .int .u8 7, .slice (some ⟨S1, 0, none⟩) 1 1, .string kE12, .string kE12, .int .i64 0, .int .u32 2, .int .u32 0, .int .u8 7, .slice (some ⟨S2, 0, none⟩) 1 1, .string kE12, .string kE12, .int .i64 0, .int .u32 3, .int .u32 0, .int .u8 7, .slice (some ⟨S3, 0, none⟩) 2 2, .string kE12, .string kE12, .int .i64 0, .int .u32 4, .int .u32 0, .int .u8 7, .slice (some ⟨S4, 0, none⟩) 1 1, .string kE12, .string kE12, .int .i64 0, .int .u32 5, .int .u32 0, .int .u8 7, .slice (some ⟨S5, 0, none⟩) 1 1, .string kE12, .string kE12, .int .i64 0] 31)) W') := Lib.hid (K.waves (some ⟨U5.heap.size, 0, none⟩) 5 5 [ofV 1 S1 1 [bA], ofV 2 S2 1 [bB], ofV 3 S3 2 [bA, bB], ofV 4 S4 1 [bC], ofV 5 S5 1 [bA]] (U5.alloc (Obj.cells #[.int .u32 1, .int .u32 0, .int .u8 7, .slice (some ⟨S1, 0, none⟩) 1 1, .string kE12, .string kE12, .int .i64 0, .int .u32 2, .int .u32 0, .int .u8 7, .slice (some ⟨S2, 0, none⟩) 1 1, .string kE12, .string kE12, .int .i64 0, .int .u32 3, .int .u32 0, .int .u8 7, .slice (some ⟨S3, 0, none⟩) 2 2, .string kE12, .string kE12, .int .i64 0, .int .u32 4, .int .u32 0, .int .u8 7, .slice (some ⟨S4, 0, none⟩) 1 1, .string kE12, .string kE12, .int .i64 0, .int .u32 5, .int .u32 0, .int .u8 7, .slice (some ⟨S5, 0, none⟩) 1 1, .string kE12, .string kE12, .int .i64 0] 31)) (K.grew HT.out (BW.out.trans (Below.mono ha BW.out.size))) rfl (by decide) (hasC_blk hn hok) hng)
  have HA := Lib.hid ha
  clear ha hn hok hng f1 f2 f3 f4 f5 F1 F2 F3 F4 F5
  go_wp2_with fail
  refine D.out.mono ?_
  rintro e BP ⟨AP, cP, rfl, hcP, hi, hb⟩
  rw [show ([ofV 1 S1 1 [bA], ofV 2 S2 1 [bB], ofV 3 S3 2 [bA, bB], ofV 4 S4 1 [bC], ofV 5 S5 1 [bA]] : List CmdV).map (·.m) = [cm 1 [bA], cm 2 [bB], cm 3 [bA, bB], cm 4 [bC], cm 5 [bA]] from rfl, w5_is] at hi
  obtain ⟨bP, oP, rfl, hl, hf⟩ := hi (by simp)
  have hv : Below U5.heap.size U5 BP := HA.out.trans (Below.mono hb HA.out.size)
  have bw := Lib.hid (BW.out.trans (Below.mono hv BW.out.size))
  clear D HA hb BW
  have BW := bw
  clear bw
  clear hv
  have IP := Lib.hid (And.intro hl hf)
  clear hl hf hi
  have D : Hid (Calls Try.prog 14 #[.int .u32 1, .slice (some ⟨BP.heap.size, 0, none⟩) 1 1] (BP.alloc (Obj.cells #[.string bA] 9)) fun e W' => e = .returned (.agg #[.int .u32 1, .int .u32 0, .int .u8 7, .slice (some ⟨BP.heap.size, 0, none⟩) 1 1, .string kE12, .string kE12, .int .i64 0]) ∧ Below (BP.alloc (Obj.cells #[.string bA] 9)).heap.size (BP.alloc (Obj.cells #[.string bA] 9)) W') := Lib.hid (of_any 1 BP.heap.size 1 [bA] _)
  go_wp2_with fail
  refine D.out.mono ?_
  rintro e U6 ⟨rfl, hb⟩
  have ha : Below BP.heap.size BP (BP.alloc (Obj.cells #[.string bA] 9)) := (Below.refl _ BP).alloc (Nat.le_refl _) _
  have sn := (hb.block BP.heap.size (by rw [alloc_sz]; omega)).trans (World.alloc_heap_new BP (Obj.cells #[.string bA] 9))
  have hv : Below BP.heap.size BP U6 := ha.trans (Below.mono hb ha.size)
  have bw := Lib.hid (BW.out.trans (Below.mono hv BW.out.size))
  obtain ⟨S6, hS⟩ : ∃ S, S = BP.heap.size := ⟨_, rfl⟩
  rw [← hS] at sn ⊢
  have F6 : Hid (U6.heap[S6]? = some (.cells #[.string bA] 9 (0, 0))) := Lib.hid sn
  clear D hb ha sn hS BW 
  have BW := bw
  clear bw 
  have jP : Hid (bP < U6.heap.size ∧ ∀ j (hj : j < ([0, 0, 1, 0, 2] : List Nat).length), U6.cell? ⟨bP, oP + j, none⟩ = some (.int .i64 (([0, 0, 1, 0, 2] : List Nat)[j] : Int))) := Lib.hid ⟨Nat.lt_of_lt_of_le IP.out.1 hv.size, fun j hj => (Below.cell hv (p := ⟨bP, oP + j, none⟩) IP.out.1).trans (IP.out.2 j hj)⟩
  clear IP
  have IP := jP
  clear jP
  clear hv
  have D : Hid (Calls Try.prog 14 #[.int .u32 2, .slice (some ⟨U6.heap.size, 0, none⟩) 5 5] (U6.alloc (Obj.cells #[.string ⟨#[112]⟩, .string ⟨#[113]⟩, .string ⟨#[114]⟩, .string ⟨#[115]⟩, .string ⟨#[116]⟩] 9)) fun e W' => e = .returned (.agg #[.int .u32 2, .int .u32 0, .int .u8 7, .slice (some ⟨U6.heap.size, 0, none⟩) 5 5, .string kE12, .string kE12, .int .i64 0]) ∧ Below (U6.alloc (Obj.cells #[.string ⟨#[112]⟩, .string ⟨#[113]⟩, .string ⟨#[114]⟩, .string ⟨#[115]⟩, .string ⟨#[116]⟩] 9)).heap.size (U6.alloc (Obj.cells #[.string ⟨#[112]⟩, .string ⟨#[113]⟩, .string ⟨#[114]⟩, .string ⟨#[115]⟩, .string ⟨#[116]⟩] 9)) W') := Lib.hid (of_any 2 U6.heap.size 5 [⟨#[112]⟩, ⟨#[113]⟩, ⟨#[114]⟩, ⟨#[115]⟩, ⟨#[116]⟩] _)
  go_wp2_with fail
  refine D.out.mono ?_
  rintro e U7 ⟨rfl, hb⟩
  have ha : Below U6.heap.size U6 (U6.alloc (Obj.cells #[.string ⟨#[112]⟩, .string ⟨#[113]⟩, .string ⟨#[114]⟩, .string ⟨#[115]⟩, .string ⟨#[116]⟩] 9)) := (Below.refl _ U6).alloc (Nat.le_refl _) _
  have sn := (hb.block U6.heap.size (by rw [alloc_sz]; omega)).trans (World.alloc_heap_new U6 (Obj.cells #[.string ⟨#[112]⟩, .string ⟨#[113]⟩, .string ⟨#[114]⟩, .string ⟨#[115]⟩, .string ⟨#[116]⟩] 9))
  have hv : Below U6.heap.size U6 U7 := ha.trans (Below.mono hb ha.size)
  have g6 := Lib.hid ((hv.block S6 (Array.getElem?_eq_some_iff.1 F6.out).1).trans F6.out)
  have bw := Lib.hid (BW.out.trans (Below.mono hv BW.out.size))
  obtain ⟨S7, hS⟩ : ∃ S, S = U6.heap.size := ⟨_, rfl⟩
  rw [← hS] at sn ⊢
  have F7 : Hid (U7.heap[S7]? = some (.cells #[.string ⟨#[112]⟩, .string ⟨#[113]⟩, .string ⟨#[114]⟩, .string ⟨#[115]⟩, .string ⟨#[116]⟩] 9 (0, 0))) := Lib.hid sn
  clear D hb ha sn hS BW F6
  have BW := bw
  have F6 := g6
  clear bw g6
  have jP : Hid (bP < U7.heap.size ∧ ∀ j (hj : j < ([0, 0, 1, 0, 2] : List Nat).length), U7.cell? ⟨bP, oP + j, none⟩ = some (.int .i64 (([0, 0, 1, 0, 2] : List Nat)[j] : Int))) := Lib.hid ⟨Nat.lt_of_lt_of_le IP.out.1 hv.size, fun j hj => (Below.cell hv (p := ⟨bP, oP + j, none⟩) IP.out.1).trans (IP.out.2 j hj)⟩
  clear IP
  have IP := jP
  clear jP
  clear hv
  have D : Hid (Calls Try.prog 14 #[.int .u32 3, .slice (some ⟨U7.heap.size, 0, none⟩) 1 1] (U7.alloc (Obj.cells #[.string bB] 9)) fun e W' => e = .returned (.agg #[.int .u32 3, .int .u32 0, .int .u8 7, .slice (some ⟨U7.heap.size, 0, none⟩) 1 1, .string kE12, .string kE12, .int .i64 0]) ∧ Below (U7.alloc (Obj.cells #[.string bB] 9)).heap.size (U7.alloc (Obj.cells #[.string bB] 9)) W') := Lib.hid (of_any 3 U7.heap.size 1 [bB] _)
  go_wp2_with fail
  refine D.out.mono ?_
  rintro e U8 ⟨rfl, hb⟩
  have ha : Below U7.heap.size U7 (U7.alloc (Obj.cells #[.string bB] 9)) := (Below.refl _ U7).alloc (Nat.le_refl _) _
  have sn := (hb.block U7.heap.size (by rw [alloc_sz]; omega)).trans (World.alloc_heap_new U7 (Obj.cells #[.string bB] 9))
  have hv : Below U7.heap.size U7 U8 := ha.trans (Below.mono hb ha.size)
  have g6 := Lib.hid ((hv.block S6 (Array.getElem?_eq_some_iff.1 F6.out).1).trans F6.out)
  have g7 := Lib.hid ((hv.block S7 (Array.getElem?_eq_some_iff.1 F7.out).1).trans F7.out)
  have bw := Lib.hid (BW.out.trans (Below.mono hv BW.out.size))
  obtain ⟨S8, hS⟩ : ∃ S, S = U7.heap.size := ⟨_, rfl⟩
  rw [← hS] at sn ⊢
  have F8 : Hid (U8.heap[S8]? = some (.cells #[.string bB] 9 (0, 0))) := Lib.hid sn
  clear D hb ha sn hS BW F6 F7
  have BW := bw
  have F6 := g6
  have F7 := g7
  clear bw g6 g7
  have jP : Hid (bP < U8.heap.size ∧ ∀ j (hj : j < ([0, 0, 1, 0, 2] : List Nat).length), U8.cell? ⟨bP, oP + j, none⟩ = some (.int .i64 (([0, 0, 1, 0, 2] : List Nat)[j] : Int))) := Lib.hid ⟨Nat.lt_of_lt_of_le IP.out.1 hv.size, fun j hj => (Below.cell hv (p := ⟨bP, oP + j, none⟩) IP.out.1).trans (IP.out.2 j hj)⟩
  clear IP
  have IP := jP
  clear jP
  clear hv
  have ha : Below U8.heap.size U8 (U8.alloc (Obj.cells #[.int .u32 1, .int .u32 0, .int .u8 7, .slice (some ⟨S6, 0, none⟩) 1 1, .string kE12, .string kE12, .int .i64 0, .int .u32 2, .int .u32 0, .int .u8 7, .slice (some ⟨S7, 0, none⟩) 5 5, .string kE12, .string kE12, .int .i64 0, .int .u32 3, .int .u32 0, .int .u8 7, .slice (some ⟨S8, 0, none⟩) 1 1, .string kE12, .string kE12, .int .i64 0] 31)) := (Below.refl _ U8).alloc (Nat.le_refl _) _
  have hn : (U8.alloc (Obj.cells #[.int .u32 1, .int .u32 0, .int .u8 7, .slice (some ⟨S6, 0, none⟩) 1 1, .string kE12, .string kE12, .int .i64 0, .int .u32 2, .int .u32 0, .int .u8 7, .slice (some ⟨S7, 0, none⟩) 5 5, .string kE12, .string kE12, .int .i64 0, .int .u32 3, .int .u32 0, .int .u8 7, .slice (some ⟨S8, 0, none⟩) 1 1, .string kE12, .string kE12, .int .i64 0] 31)).heap[U8.heap.size]? = some (.cells (([ofV 1 S6 1 [bA], ofV 2 S7 5 [⟨#[112]⟩, ⟨#[113]⟩, ⟨#[114]⟩, ⟨#[115]⟩, ⟨#[116]⟩], ofV 3 S8 1 [bB]] : List CmdV).flatMap fun v => v.cells.toList).toArray 31 (0, 0)) := World.alloc_heap_new U8 (Obj.cells #[.int .u32 1, .int .u32 0, .int .u8 7, .slice (some ⟨S6, 0, none⟩) 1 1, .string kE12, .string kE12, .int .i64 0, .int .u32 2, .int .u32 0, .int .u8 7, .slice (some ⟨S7, 0, none⟩) 5 5, .string kE12, .string kE12, .int .i64 0, .int .u32 3, .int .u32 0, .int .u8 7, .slice (some ⟨S8, 0, none⟩) 1 1, .string kE12, .string kE12, .int .i64 0] 31)
  have f6 := (ha.block S6 (Array.getElem?_eq_some_iff.1 F6.out).1).trans F6.out
  have f7 := (ha.block S7 (Array.getElem?_eq_some_iff.1 F7.out).1).trans F7.out
  have f8 := (ha.block S8 (Array.getElem?_eq_some_iff.1 F8.out).1).trans F8.out
  have hok : ∀ v ∈ ([ofV 1 S6 1 [bA], ofV 2 S7 5 [⟨#[112]⟩, ⟨#[113]⟩, ⟨#[114]⟩, ⟨#[115]⟩, ⟨#[116]⟩], ofV 3 S8 1 [bB]] : List CmdV), v.ok (U8.alloc (Obj.cells #[.int .u32 1, .int .u32 0, .int .u8 7, .slice (some ⟨S6, 0, none⟩) 1 1, .string kE12, .string kE12, .int .i64 0, .int .u32 2, .int .u32 0, .int .u8 7, .slice (some ⟨S7, 0, none⟩) 5 5, .string kE12, .string kE12, .int .i64 0, .int .u32 3, .int .u32 0, .int .u8 7, .slice (some ⟨S8, 0, none⟩) 1 1, .string kE12, .string kE12, .int .i64 0] 31)) := by
    intro v hv
    simp only [List.mem_cons, List.not_mem_nil, or_false] at hv
    rcases hv with rfl | rfl | rfl
    · exact of_ok (by decide) rfl (by decide) (by decide) _ _ f6 rfl
    · exact of_ok (by decide) rfl (by decide) (by decide) _ _ f7 rfl
    · exact of_ok (by decide) rfl (by decide) (by decide) _ _ f8 rfl
  have hng : ∀ v ∈ ([ofV 1 S6 1 [bA], ofV 2 S7 5 [⟨#[112]⟩, ⟨#[113]⟩, ⟨#[114]⟩, ⟨#[115]⟩, ⟨#[116]⟩], ofV 3 S8 1 [bB]] : List CmdV), ¬ v.great := by
    intro v hv
    simp only [List.mem_cons, List.not_mem_nil, or_false] at hv
    rcases hv with rfl | rfl | rfl
    · exact of_small (by decide) (by decide)
    · exact of_small (by decide) (by decide)
    · exact of_small (by decide) (by decide)
  have D : Hid (Calls Try.prog 7 #[.slice (some ⟨U8.heap.size, 0, none⟩) 3 3] (U8.alloc (Obj.cells #[.int .u32 1, .int .u32 0, .int .u8 7, .slice (some ⟨S6, 0, none⟩) 1 1, .string kE12, .string kE12, .int .i64 0, .int .u32 2, .int .u32 0, .int .u8 7, .slice (some ⟨S7, 0, none⟩) 5 5, .string kE12, .string kE12, .int .i64 0, .int .u32 3, .int .u32 0, .int .u8 7, .slice (some ⟨S8, 0, none⟩) 1 1, .string kE12, .string kE12, .int .i64 0] 31)) fun e W' => ∃ A' c', e = .returned (.slice A' 3 c') ∧ 3 ≤ c' ∧ HasI W' A' (wavesI (([ofV 1 S6 1 [bA], ofV 2 S7 5 [⟨#[112]⟩, ⟨#[113]⟩, ⟨#[114]⟩, ⟨#[115]⟩, ⟨#[116]⟩], ofV 3 S8 1 [bB]] : List CmdV).map (·.m))) ∧ Below (U8.alloc (Obj.cells #[.int .u32 1, .int .u32 0, .int .u8 7, .slice (some ⟨S6, 0, none⟩) 1 1, .string kE12, .string kE12, .int .i64 0, .int .u32 2, .int .u32 0, .int .u8 7, .slice (some ⟨S7, 0, none⟩) 5 5, .string kE12, .string kE12, .int .i64 0, .int .u32 3, .int .u32 0, .int .u8 7, .slice (some ⟨S8, 0, none⟩) 1 1, .string kE12, .string kE12, .int .i64 0] 31)).heap.size (U8.alloc (Obj.cells #[.int .u32 1, .int .u32 0, .int .u8 7, .slice (some ⟨S6, 0, none⟩) 1 1, .string kE12, .string kE12, .int .i64 0, .int .u32 2, .int .u32 0, .int .u8 7, .slice (some ⟨S7, 0, none⟩) 5 5, .string kE12, .string kE12, .int .i64 0, .int .u32 3, .int .u32 0, .int .u8 7, .slice (some ⟨S8, 0, none⟩) 1 1, .string kE12, .string kE12, .int .i64 0] 31)) W') := Lib.hid (K.waves (some ⟨U8.heap.size, 0, none⟩) 3 3 [ofV 1 S6 1 [bA], ofV 2 S7 5 [⟨#[112]⟩, ⟨#[113]⟩, ⟨#[114]⟩, ⟨#[115]⟩, ⟨#[116]⟩], ofV 3 S8 1 [bB]] (U8.alloc (Obj.cells #[.int .u32 1, .int .u32 0, .int .u8 7, .slice (some ⟨S6, 0, none⟩) 1 1, .string kE12, .string kE12, .int .i64 0, .int .u32 2, .int .u32 0, .int .u8 7, .slice (some ⟨S7, 0, none⟩) 5 5, .string kE12, .string kE12, .int .i64 0, .int .u32 3, .int .u32 0, .int .u8 7, .slice (some ⟨S8, 0, none⟩) 1 1, .string kE12, .string kE12, .int .i64 0] 31)) (K.grew HT.out (BW.out.trans (Below.mono ha BW.out.size))) rfl (by decide) (hasC_blk hn hok) hng)
  have HA := Lib.hid ha
  clear ha hn hok hng f6 f7 f8 F6 F7 F8
  go_wp2_with fail
  refine D.out.mono ?_
  rintro e BQ ⟨AQ, cQ, rfl, hcQ, hi, hb⟩
  rw [show ([ofV 1 S6 1 [bA], ofV 2 S7 5 [⟨#[112]⟩, ⟨#[113]⟩, ⟨#[114]⟩, ⟨#[115]⟩, ⟨#[116]⟩], ofV 3 S8 1 [bB]] : List CmdV).map (·.m) = [cm 1 [bA], cm 2 [⟨#[112]⟩, ⟨#[113]⟩, ⟨#[114]⟩, ⟨#[115]⟩, ⟨#[116]⟩], cm 3 [bB]] from rfl, w3_is] at hi
  obtain ⟨bQ, oQ, rfl, hl, hf⟩ := hi (by simp)
  have hv : Below U8.heap.size U8 BQ := HA.out.trans (Below.mono hb HA.out.size)
  have bw := Lib.hid (BW.out.trans (Below.mono hv BW.out.size))
  clear D HA hb BW
  have BW := bw
  clear bw
  have jP : Hid (bP < BQ.heap.size ∧ ∀ j (hj : j < ([0, 0, 1, 0, 2] : List Nat).length), BQ.cell? ⟨bP, oP + j, none⟩ = some (.int .i64 (([0, 0, 1, 0, 2] : List Nat)[j] : Int))) := Lib.hid ⟨Nat.lt_of_lt_of_le IP.out.1 hv.size, fun j hj => (Below.cell hv (p := ⟨bP, oP + j, none⟩) IP.out.1).trans (IP.out.2 j hj)⟩
  clear IP
  have IP := jP
  clear jP
  clear hv
  have IQ := Lib.hid (And.intro hl hf)
  clear hl hf hi
  have y0 : BQ.cell? ⟨bP, oP, none⟩ = some (.int .i64 0) := IP.out.2 0 (by decide)
  have y1 : BQ.cell? ⟨bP, oP + 1, none⟩ = some (.int .i64 0) := IP.out.2 1 (by decide)
  have y2 : BQ.cell? ⟨bP, oP + 2, none⟩ = some (.int .i64 1) := IP.out.2 2 (by decide)
  have y3 : BQ.cell? ⟨bP, oP + 3, none⟩ = some (.int .i64 0) := IP.out.2 3 (by decide)
  have y4 : BQ.cell? ⟨bP, oP + 4, none⟩ = some (.int .i64 2) := IP.out.2 4 (by decide)
  have x1 : BQ.cell? ⟨bQ, oQ + 1, none⟩ = some (.int .i64 1) := IQ.out.2 1 (by decide)
  have x2 : BQ.cell? ⟨bQ, oQ + 2, none⟩ = some (.int .i64 2) := IQ.out.2 2 (by decide)
  have D : Hid (Calls Try.prog 14 #[.int .u32 1, .slice (some ⟨BQ.heap.size, 0, none⟩) 1 1] (BQ.alloc (Obj.cells #[.string bA] 9)) fun e W' => e = .returned (.agg #[.int .u32 1, .int .u32 0, .int .u8 7, .slice (some ⟨BQ.heap.size, 0, none⟩) 1 1, .string kE12, .string kE12, .int .i64 0]) ∧ Below (BQ.alloc (Obj.cells #[.string bA] 9)).heap.size (BQ.alloc (Obj.cells #[.string bA] 9)) W') := Lib.hid (of_any 1 BQ.heap.size 1 [bA] _)
  go_wp2_with fail
  refine D.out.mono ?_
  rintro e U9 ⟨rfl, hb⟩
  have ha : Below BQ.heap.size BQ (BQ.alloc (Obj.cells #[.string bA] 9)) := (Below.refl _ BQ).alloc (Nat.le_refl _) _
  have sn := (hb.block BQ.heap.size (by rw [alloc_sz]; omega)).trans (World.alloc_heap_new BQ (Obj.cells #[.string bA] 9))
  have hv : Below BQ.heap.size BQ U9 := ha.trans (Below.mono hb ha.size)
  have bw := Lib.hid (BW.out.trans (Below.mono hv BW.out.size))
  obtain ⟨S9, hS⟩ : ∃ S, S = BQ.heap.size := ⟨_, rfl⟩
  rw [← hS] at sn ⊢
  have F9 : Hid (U9.heap[S9]? = some (.cells #[.string bA] 9 (0, 0))) := Lib.hid sn
  clear D hb ha sn hv hS BW 
  have BW := bw
  clear bw 
  clear y0 y1 y2 y3 y4 x1 x2 IP IQ
  have D : Hid (Calls Try.prog 14 #[.int .u32 1, .slice (some ⟨U9.heap.size, 0, none⟩) 1 1] (U9.alloc (Obj.cells #[.string bB] 9)) fun e W' => e = .returned (.agg #[.int .u32 1, .int .u32 0, .int .u8 7, .slice (some ⟨U9.heap.size, 0, none⟩) 1 1, .string kE12, .string kE12, .int .i64 0]) ∧ Below (U9.alloc (Obj.cells #[.string bB] 9)).heap.size (U9.alloc (Obj.cells #[.string bB] 9)) W') := Lib.hid (of_any 1 U9.heap.size 1 [bB] _)
  go_wp2_with fail
  refine D.out.mono ?_
  rintro e U10 ⟨rfl, hb⟩
  have ha : Below U9.heap.size U9 (U9.alloc (Obj.cells #[.string bB] 9)) := (Below.refl _ U9).alloc (Nat.le_refl _) _
  have sn := (hb.block U9.heap.size (by rw [alloc_sz]; omega)).trans (World.alloc_heap_new U9 (Obj.cells #[.string bB] 9))
  have hv : Below U9.heap.size U9 U10 := ha.trans (Below.mono hb ha.size)
  have g9 := Lib.hid ((hv.block S9 (Array.getElem?_eq_some_iff.1 F9.out).1).trans F9.out)
  have bw := Lib.hid (BW.out.trans (Below.mono hv BW.out.size))
  obtain ⟨S10, hS⟩ : ∃ S, S = U9.heap.size := ⟨_, rfl⟩
  rw [← hS] at sn ⊢
  have F10 : Hid (U10.heap[S10]? = some (.cells #[.string bB] 9 (0, 0))) := Lib.hid sn
  clear D hb ha sn hv hS BW F9
  have BW := bw
  have F9 := g9
  clear bw g9
  have hw := K.way (ofV 1 S9 1 [bA]) (ofV 1 S10 1 [bB]) U10 (K.grew HT.out BW.out) (of_ok (by decide) rfl (by decide) (by decide) _ _ F9.out rfl) (of_ok (by decide) rfl (by decide) (by decide) _ _ F10.out rfl) (of_small (by decide) (by decide)) (of_small (by decide) (by decide))
  rw [show wayM (ofV 1 S9 1 [bA]).m (ofV 1 S10 1 [bB]).m = true from way_t] at hw
  have D : Hid (Calls Try.prog 11 #[.agg #[.int .u32 1, .int .u32 0, .int .u8 7, .slice (some ⟨S9, 0, none⟩) 1 1, .string kE12, .string kE12, .int .i64 0], .agg #[.int .u32 1, .int .u32 0, .int .u8 7, .slice (some ⟨S10, 0, none⟩) 1 1, .string kE12, .string kE12, .int .i64 0]] U10 fun e W' => e = .returned (.bool true) ∧ Below U10.heap.size U10 W') := Lib.hid hw
  clear hw F9 F10
  go_wp2_with fail
  refine D.out.mono ?_
  rintro e BR ⟨rfl, hb⟩
  have bw := Lib.hid (BW.out.trans (Below.mono hb BW.out.size))
  clear hb D BW
  have BW := bw
  clear bw
  have D : Hid (Calls Try.prog 14 #[.int .u32 1, .slice (some ⟨BR.heap.size, 0, none⟩) 1 1] (BR.alloc (Obj.cells #[.string bA] 9)) fun e W' => e = .returned (.agg #[.int .u32 1, .int .u32 0, .int .u8 7, .slice (some ⟨BR.heap.size, 0, none⟩) 1 1, .string kE12, .string kE12, .int .i64 0]) ∧ Below (BR.alloc (Obj.cells #[.string bA] 9)).heap.size (BR.alloc (Obj.cells #[.string bA] 9)) W') := Lib.hid (of_any 1 BR.heap.size 1 [bA] _)
  go_wp2_with fail
  refine D.out.mono ?_
  rintro e U11 ⟨rfl, hb⟩
  have ha : Below BR.heap.size BR (BR.alloc (Obj.cells #[.string bA] 9)) := (Below.refl _ BR).alloc (Nat.le_refl _) _
  have sn := (hb.block BR.heap.size (by rw [alloc_sz]; omega)).trans (World.alloc_heap_new BR (Obj.cells #[.string bA] 9))
  have hv : Below BR.heap.size BR U11 := ha.trans (Below.mono hb ha.size)
  have bw := Lib.hid (BW.out.trans (Below.mono hv BW.out.size))
  obtain ⟨S11, hS⟩ : ∃ S, S = BR.heap.size := ⟨_, rfl⟩
  rw [← hS] at sn ⊢
  have F11 : Hid (U11.heap[S11]? = some (.cells #[.string bA] 9 (0, 0))) := Lib.hid sn
  clear D hb ha sn hv hS BW 
  have BW := bw
  clear bw 
  have D : Hid (Calls Try.prog 14 #[.int .u32 2, .slice (some ⟨U11.heap.size, 0, none⟩) 1 1] (U11.alloc (Obj.cells #[.string bB] 9)) fun e W' => e = .returned (.agg #[.int .u32 2, .int .u32 0, .int .u8 7, .slice (some ⟨U11.heap.size, 0, none⟩) 1 1, .string kE12, .string kE12, .int .i64 0]) ∧ Below (U11.alloc (Obj.cells #[.string bB] 9)).heap.size (U11.alloc (Obj.cells #[.string bB] 9)) W') := Lib.hid (of_any 2 U11.heap.size 1 [bB] _)
  go_wp2_with fail
  refine D.out.mono ?_
  rintro e U12 ⟨rfl, hb⟩
  have ha : Below U11.heap.size U11 (U11.alloc (Obj.cells #[.string bB] 9)) := (Below.refl _ U11).alloc (Nat.le_refl _) _
  have sn := (hb.block U11.heap.size (by rw [alloc_sz]; omega)).trans (World.alloc_heap_new U11 (Obj.cells #[.string bB] 9))
  have hv : Below U11.heap.size U11 U12 := ha.trans (Below.mono hb ha.size)
  have g11 := Lib.hid ((hv.block S11 (Array.getElem?_eq_some_iff.1 F11.out).1).trans F11.out)
  have bw := Lib.hid (BW.out.trans (Below.mono hv BW.out.size))
  obtain ⟨S12, hS⟩ : ∃ S, S = U11.heap.size := ⟨_, rfl⟩
  rw [← hS] at sn ⊢
  have F12 : Hid (U12.heap[S12]? = some (.cells #[.string bB] 9 (0, 0))) := Lib.hid sn
  clear D hb ha sn hv hS BW F11
  have BW := bw
  have F11 := g11
  clear bw g11
  have hw := K.way (ofV 1 S11 1 [bA]) (ofV 2 S12 1 [bB]) U12 (K.grew HT.out BW.out) (of_ok (by decide) rfl (by decide) (by decide) _ _ F11.out rfl) (of_ok (by decide) rfl (by decide) (by decide) _ _ F12.out rfl) (of_small (by decide) (by decide)) (of_small (by decide) (by decide))
  rw [show wayM (ofV 1 S11 1 [bA]).m (ofV 2 S12 1 [bB]).m = false from way_f] at hw
  have D : Hid (Calls Try.prog 11 #[.agg #[.int .u32 1, .int .u32 0, .int .u8 7, .slice (some ⟨S11, 0, none⟩) 1 1, .string kE12, .string kE12, .int .i64 0], .agg #[.int .u32 2, .int .u32 0, .int .u8 7, .slice (some ⟨S12, 0, none⟩) 1 1, .string kE12, .string kE12, .int .i64 0]] U12 fun e W' => e = .returned (.bool false) ∧ Below U12.heap.size U12 W') := Lib.hid hw
  clear hw F11 F12
  go_wp2_with fail
  refine D.out.mono ?_
  rintro e BS ⟨rfl, hb⟩
  have bw := Lib.hid (BW.out.trans (Below.mono hb BW.out.size))
  clear hb D BW
  have BW := bw
  clear bw
  go_wp2
  go_ret
  exact ⟨rfl, BW.out⟩
end Go.Proofs.Ytooaobadnainkaa
