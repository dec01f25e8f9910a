/- A reader of the program that had an error: numbers are 0; the error persists. -/
import Derived.Test.YtfaplmpenlbajaaDoorMVar
namespace Go.Proofs.YtfaplmpenlbajaaDoor
open Go.RowKit Go.Shelf
attribute [local go_sem] Oper.semAt_some

set_option maxRecDepth 100000 in
set_option maxHeartbeats 2000000 in
theorem number_seq_err (n : Nat) (hn : 1 ≤ n) (w : World) (R b1 b2 : Nat) (e lim : Int) (he : (e != 0) = true) (bs : List UInt8) (B : Nat) :
    TiedSeq Fence.wide n Tryd.prog 54 #[.pointer (some ⟨R, 0, none⟩)] #[] (fun x : At => #[.int .i64 (x.i : Int), .int .u8 (x.c.toNat : Int)]) B
      (St w R b1 b2 e lim bs 0) (St w R b1 b2 e lim bs 0) (fun _ _ => False) (fun _ _ => False) (fun _ _ => False) (fun _ _ => False) := by
  intro l G Gx hG hGx hY W h0 hGW
  refine callsIn_of_wp Tryd.func54 rfl trivial ?_ rfl
  simp only [Tryd.ntmps54, List.size_toArray, List.length_cons, List.length_nil, Nat.reduceAdd, Nat.reduceSub, Array.replicate_succ, Array.replicate_zero, List.push_toArray, List.append_toArray, List.nil_append, List.cons_append]
  have H0 := Lib.hid h0
  have hc0 : W.cell? ⟨R, 0, none⟩ = some (.int .i64 e) := by
    obtain ⟨A, L, c, hh, -⟩ := H0.out.1
    simpa using blk_cell hh 0
  clear h0 hY
  gi_wp2
  gi_loopw [6] (fun p wr => p = .int .i64 0 ∧ Hid (wr = W)) (fun _ _ => 0)
  case atStart => exact ⟨rfl, Lib.hid rfl⟩
  case round =>
    obtain ⟨rfl, hw⟩ := hrel
    obtain rfl := hw.out
    gi_wp2_with (first | (refine ⟨trivial, ?_⟩; gi_at_call 19; refine (callsIn_wide.2 (Byte_err R e lim he bs _ H0.out.1)).mono ?_; rintro e' w' ⟨rfl, rfl⟩) | (refine ⟨trivial, ?_⟩; gi_at_call 40; refine (callsIn_wide.2 (failed_any R e _ hc0)).mono ?_; rintro e' w' ⟨rfl, rfl⟩))
    refine ⟨fun f hf => absurd hf (by simp), ?_⟩
    gi_wp2
    refine bodyPost_ret (results_none rfl _ _ _) rfl ?_
    exact ⟨⟨_, rfl⟩, .inl ⟨H0.out, hGW⟩⟩

set_option maxRecDepth 100000 in
set_option maxHeartbeats 4000000 in
theorem UintR_err_in (n : Nat) (hn : 3 ≤ n) (w : World) (R : Nat) (e lim : Int) (he : (e != 0) = true) (bs : List UInt8) (h : Rd w R e lim bs) :
    CallsIn Fence.wide n Tryd.prog 36 #[.pointer (some ⟨R, 0, none⟩)] w fun x W' => x = .returned (.int .u64 0) ∧ Rd W' R e lim bs ∧ w.grownBy W' (some R) := by
  have h1 : 1 ≤ n := by omega
  have H := Lib.hid h
  clear h
  refine callsIn_of_wp_marks Tryd.func36 rfl trivial ?_ rfl
  simp only [Tryd.ntmps36, List.size_toArray, List.length_cons, List.length_nil, Nat.reduceAdd, Nat.reduceSub, Array.replicate_succ, Array.replicate_zero, List.push_toArray, List.append_toArray, List.nil_append, List.cons_append]
  gi_wp2
  have hRlt := H.out.lt
  obtain ⟨W0, hW0⟩ : ∃ W0, (w.alloc (Obj.cells #[Value.pointer (some { block := R, off := 0 })] 39)).alloc (Obj.cells #[Value.int IntKind.u64 0] 50) = W0 := ⟨_, rfl⟩
  have hsz : W0.heap.size = w.heap.size + 1 + 1 := by rw [← hW0]; simp
  have hB0 : Below w.heap.size w W0 := by rw [← hW0]; exact ((Below.refl _ _).alloc (Nat.le_refl _) _).alloc (by simp) _
  have hbx1 : W0.heap[w.heap.size]? = some (.cells #[.pointer (some ⟨R, 0, none⟩)] 39 (0, 0)) := by
    rw [← hW0]; exact (Below.heap_alloc _ _ _ (by simp)).trans (World.alloc_heap_new w _)
  have hbx2 : W0.heap[w.heap.size + 1]? = some (.cells #[.int .u64 ((0 : Nat) : Int)] 50 (0, 0)) := by
    rw [← hW0]; have := World.alloc_heap_new (w.alloc (Obj.cells #[Value.pointer (some { block := R, off := 0 })] 39)) (Obj.cells #[Value.int IntKind.u64 0] 50); rwa [World.size_alloc] at this
  rw [hW0]
  have hst0 : St w R w.heap.size (w.heap.size + 1) e lim bs 0 W0 := ⟨H.out.below hB0, hbx1, hbx2, grownBy_of_below hB0⟩
  have HST := Lib.hid hst0
  have HSZ := Lib.hid hsz
  have hle0 : w.heap.size ≤ W0.heap.size := by omega
  clear hst0 hbx1 hbx2 hW0 hsz
  refine wpIn_rangeFunc_tied rfl h1 (gf := 54) (fb := #[.pointer (some ⟨R, 0, none⟩)]) (lb := #[]) rfl trivial (enters_of Tryd.func54 (by kernel_rfl) rfl) (encs := fun x : At => #[.int .i64 (x.i : Int), .int .u8 (x.c.toNat : Int)]) (fun _ => rfl)
    (Abides.st hle0) (Abides.st hle0) (fun _ _ _ _ h => h.elim) (fun _ _ _ _ h => h.elim) (fun _ _ _ _ h => h.elim) (fun _ _ _ _ h => h.elim)
    (number_seq_err (n - 1) (by omega) w R w.heap.size (w.heap.size + 1) e lim he bs W0.heap.size) HST.out
    (fun x => { tmps := #[.pointer (some ⟨R, 0, none⟩), .pointer (some ⟨w.heap.size, 0, none⟩), .int .u64 0, .pointer (some ⟨w.heap.size + 1, 0, none⟩), .int .i64 (x.i : Int), .int .u8 (x.c.toNat : Int), .pointer (some ⟨R, 0, none⟩), .bool false, .pointer (some ⟨R, 0, none⟩), .func (.func 54) #[.pointer (some ⟨R, 0, none⟩)] #[], .int .i64 (x.i : Int), .int .u8 (x.c.toNat : Int), undef, undef, undef, undef, undef, undef, undef, undef, undef, undef, undef, undef, undef, undef, undef, undef, undef, undef, undef, undef, undef, undef, undef, undef, undef, undef, undef, undef, undef, undef, undef], defers := [] }) ?assign ?body ?done ?stop
  case assign =>
    intro l x W K hK
    gi_wp2
    exact hK
  case body =>
    intro l x W h
    exact h.elim
  case done =>
    rintro D W hD hst hK
    have HS := Lib.hid hst
    have HKK := Lib.hid hK
    obtain ⟨hRd, hx1, hx2, hgr⟩ := hst
    have hc1 : W.cell? ⟨w.heap.size, 0, none⟩ = some (.pointer (some ⟨R, 0, none⟩)) := by simpa using blk_cell hx1 0
    have hc3 : W.cell? ⟨R, 0, none⟩ = some (.int .i64 e) := by
      obtain ⟨A, L, c, hh, -⟩ := hRd
      simpa using blk_cell hh 0
    clear hRd hx1 hx2 hgr hK
    have hend : w.grownBy (W.putObj D (.deferred none)) (some R) := Abides.grownBy (Nat.le_refl w.heap.size) W _ (some D) HS.out.2.2.2 (grownBy_putObj' W D _) (fun r e => by cases e; exact ⟨by have := HSZ.out; omega, _, HKK.out, rfl⟩)
    have hendr : Rd (W.putObj D (.deferred none)) R e lim bs := Abides.rd (B := w.heap.size) W _ (some D) HS.out.1 (grownBy_putObj' W D _) (fun r e => by cases e; exact ⟨by have := HSZ.out; omega, _, HKK.out, rfl⟩)
    have HE := Lib.hid hend
    have HER := Lib.hid hendr
    clear hend hendr
    gi_wp2_with (refine ⟨trivial, ?_⟩; gi_at_call 40; refine (callsIn_wide.2 (failed_any R e _ hc3)).mono ?_; rintro e w' ⟨rfl, rfl⟩)
    refine ⟨by simp, .inl ⟨_, _, rfl, run_takeDeferred HKK.out, ?_⟩⟩
    exact ⟨_, results_tmp rfl _ _ _, rfl, HER.out, HE.out⟩
  case stop =>
    intro D c W hD h
    exact h.elim
theorem UintR_err (w : World) (R : Nat) (e lim : Int) (he : (e != 0) = true) (bs : List UInt8) (h : Rd w R e lim bs) :
    Calls Tryd.prog 36 #[.pointer (some ⟨R, 0, none⟩)] w fun x W' => x = .returned (.int .u64 0) ∧ Rd W' R e lim bs ∧ w.grownBy W' (some R) :=
  (callsIn_wide (n := 3)).1 (UintR_err_in 3 (by omega) w R e lim he bs h)
end Go.Proofs.YtfaplmpenlbajaaDoor
