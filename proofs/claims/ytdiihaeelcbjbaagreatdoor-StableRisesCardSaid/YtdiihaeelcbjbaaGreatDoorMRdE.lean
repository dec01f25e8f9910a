/- A reader of the program that had an error: numbers are 0; the error persists. A reader of the program, whatever it has: numbers, its error; the first error persists. A reader of the program: a byte; a new one. A reader of the program: Done. -/
import Derived.Test.YtdiihaeelcbjbaaGreatDoorMVar
import Derived.Test.YtdiihaeelcbjbaaGreatDoorMRdA
import Derived.Test.YtdiihaeelcbjbaaGreatDoorVarDone
namespace Go.Proofs.YtdiihaeelcbjbaaGreatDoor
open Go.RowKit Go.Shelf

attribute [local go_sem] Oper.semAt_some

set_option maxRecDepth 100000 in
set_option maxHeartbeats 2000000 in
theorem number_seq_err (n : Nat) (hn : 1 ≤ n) (w : World) (R b1 b2 : Nat) (e lim : Int) (he : (e != 0) = true) (bs : List UInt8) (B : Nat) :
    TiedSeq Fence.wide n Tryz.prog 91 #[.pointer (some ⟨R, 0, none⟩)] #[] (fun x : At => #[.int .i64 (x.i : Int), .int .u8 (x.c.toNat : Int)]) B
      (St w R b1 b2 e lim bs 0) (St w R b1 b2 e lim bs 0) (fun _ _ => False) (fun _ _ => False) (fun _ _ => False) (fun _ _ => False) := by
  intro l G Gx hG hGx hY W h0 hGW
  refine callsIn_of_wp Tryz.func91 rfl trivial ?_ rfl
  simp only [Tryz.ntmps91, List.size_toArray, List.length_cons, List.length_nil, Nat.reduceAdd, Nat.reduceSub, Array.replicate_succ, Array.replicate_zero, List.push_toArray, List.append_toArray, List.nil_append, List.cons_append]
  have H0 := Lib.hid h0
  have hc0 : W.cell? ⟨R, 0, none⟩ = some (.int .i64 e) := by
    obtain ⟨A, L, c, hh, -⟩ := H0.out.1
    simpa using blk_cell hh 0
  clear h0 hY
  gi_wp2
  gi_loopw [6] (fun p wr => p = .int .i64 0 ∧ Hid (wr = W)) (fun _ _ => 0)
  case atStart => exact ⟨rfl, Lib.hid rfl⟩
  case round =>
    obtain ⟨rfl, hw⟩ := hrel
    obtain rfl := hw.out
    gi_wp2_with (first | (refine ⟨trivial, ?_⟩; gi_at_call 119; refine (callsIn_wide.2 (Byte_err R e lim he bs _ H0.out.1)).mono ?_; rintro e' w' ⟨rfl, rfl⟩) | (refine ⟨trivial, ?_⟩; gi_at_call 93; refine (callsIn_wide.2 (failed_any R e _ hc0)).mono ?_; rintro e' w' ⟨rfl, rfl⟩))
    refine ⟨fun f hf => absurd hf (by simp), ?_⟩
    gi_wp2
    refine bodyPost_ret (results_none rfl _ _ _) rfl ?_
    exact ⟨⟨_, rfl⟩, .inl ⟨H0.out, hGW⟩⟩
set_option maxRecDepth 100000 in
set_option maxHeartbeats 4000000 in
theorem UintR_err_in (n : Nat) (hn : 3 ≤ n) (w : World) (R : Nat) (e lim : Int) (he : (e != 0) = true) (bs : List UInt8) (h : Rd w R e lim bs) :
    CallsIn Fence.wide n Tryz.prog 70 #[.pointer (some ⟨R, 0, none⟩)] w fun x W' => x = .returned (.int .u64 0) ∧ Rd W' R e lim bs ∧ w.grownBy W' (some R) := by
  have h1 : 1 ≤ n := by omega
  have H := Lib.hid h
  clear h
  refine callsIn_of_wp_marks Tryz.func70 rfl trivial ?_ rfl
  simp only [Tryz.ntmps70, List.size_toArray, List.length_cons, List.length_nil, Nat.reduceAdd, Nat.reduceSub, Array.replicate_succ, Array.replicate_zero, List.push_toArray, List.append_toArray, List.nil_append, List.cons_append]
  gi_wp2
  have hRlt := H.out.lt
  obtain ⟨W0, hW0⟩ : ∃ W0, (w.alloc (Obj.cells #[Value.pointer (some { block := R, off := 0 })] 124)).alloc (Obj.cells #[Value.int IntKind.u64 0] 23) = W0 := ⟨_, rfl⟩
  have hsz : W0.heap.size = w.heap.size + 1 + 1 := by rw [← hW0]; simp
  have hB0 : Below w.heap.size w W0 := by rw [← hW0]; exact ((Below.refl _ _).alloc (Nat.le_refl _) _).alloc (by simp) _
  have hbx1 : W0.heap[w.heap.size]? = some (.cells #[.pointer (some ⟨R, 0, none⟩)] 124 (0, 0)) := by
    rw [← hW0]; exact (Below.heap_alloc _ _ _ (by simp)).trans (World.alloc_heap_new w _)
  have hbx2 : W0.heap[w.heap.size + 1]? = some (.cells #[.int .u64 ((0 : Nat) : Int)] 23 (0, 0)) := by
    rw [← hW0]; have := World.alloc_heap_new (w.alloc (Obj.cells #[Value.pointer (some { block := R, off := 0 })] 124)) (Obj.cells #[Value.int IntKind.u64 0] 23); rwa [World.size_alloc] at this
  rw [hW0]
  have hst0 : St w R w.heap.size (w.heap.size + 1) e lim bs 0 W0 := ⟨H.out.below hB0, hbx1, hbx2, grownBy_of_below hB0⟩
  have HST := Lib.hid hst0
  have HSZ := Lib.hid hsz
  have hle0 : w.heap.size ≤ W0.heap.size := by omega
  clear hst0 hbx1 hbx2 hW0 hsz
  refine wpIn_rangeFunc_tied rfl h1 (gf := 91) (fb := #[.pointer (some ⟨R, 0, none⟩)]) (lb := #[]) rfl trivial (enters_of Tryz.func91 (by kernel_rfl) rfl) (encs := fun x : At => #[.int .i64 (x.i : Int), .int .u8 (x.c.toNat : Int)]) (fun _ => rfl)
    (Abides.st hle0) (Abides.st hle0) (fun _ _ _ _ h => h.elim) (fun _ _ _ _ h => h.elim) (fun _ _ _ _ h => h.elim) (fun _ _ _ _ h => h.elim)
    (number_seq_err (n - 1) (by omega) w R w.heap.size (w.heap.size + 1) e lim he bs W0.heap.size) HST.out
    (fun x => { tmps := #[.pointer (some ⟨R, 0, none⟩), .pointer (some ⟨w.heap.size, 0, none⟩), .int .u64 0, .pointer (some ⟨w.heap.size + 1, 0, none⟩), .int .i64 (x.i : Int), .int .u8 (x.c.toNat : Int), .pointer (some ⟨R, 0, none⟩), .bool false, .pointer (some ⟨R, 0, none⟩), .func (.func 91) #[.pointer (some ⟨R, 0, none⟩)] #[], .int .i64 (x.i : Int), .int .u8 (x.c.toNat : Int), undef, undef, undef, undef, undef, undef, undef, undef, undef, undef, undef, undef, undef, undef, undef, undef, undef, undef, undef, undef, undef, undef, undef, undef, undef, undef, undef, undef, undef, undef, undef], defers := [] }) ?assign ?body ?done ?stop
  case assign =>
    intro l x W K hK
    gi_wp2
    exact hK
  case body =>
    intro l x W h
    exact h.elim
  case done =>
    rintro D W hD hst hK
    have HS := Lib.hid hst
    have HKK := Lib.hid hK
    obtain ⟨hRd, hx1, hx2, hgr⟩ := hst
    have hc1 : W.cell? ⟨w.heap.size, 0, none⟩ = some (.pointer (some ⟨R, 0, none⟩)) := by simpa using blk_cell hx1 0
    have hc3 : W.cell? ⟨R, 0, none⟩ = some (.int .i64 e) := by
      obtain ⟨A, L, c, hh, -⟩ := hRd
      simpa using blk_cell hh 0
    clear hRd hx1 hx2 hgr hK
    have hend : w.grownBy (W.putObj D (.deferred none)) (some R) := Abides.grownBy (Nat.le_refl w.heap.size) W _ (some D) HS.out.2.2.2 (grownBy_putObj' W D _) (fun r e => by cases e; exact ⟨by have := HSZ.out; omega, _, HKK.out, rfl⟩)
    have hendr : Rd (W.putObj D (.deferred none)) R e lim bs := Abides.rd (B := w.heap.size) W _ (some D) HS.out.1 (grownBy_putObj' W D _) (fun r e => by cases e; exact ⟨by have := HSZ.out; omega, _, HKK.out, rfl⟩)
    have HE := Lib.hid hend
    have HER := Lib.hid hendr
    clear hend hendr
    gi_wp2_with (refine ⟨trivial, ?_⟩; gi_at_call 93; refine (callsIn_wide.2 (failed_any R e _ hc3)).mono ?_; rintro e w' ⟨rfl, rfl⟩)
    refine ⟨by simp, .inl ⟨_, _, rfl, run_takeDeferred HKK.out, ?_⟩⟩
    exact ⟨_, results_tmp rfl _ _ _, rfl, HER.out, HE.out⟩
  case stop =>
    intro D c W hD h
    exact h.elim
theorem UintR_err (w : World) (R : Nat) (e lim : Int) (he : (e != 0) = true) (bs : List UInt8) (h : Rd w R e lim bs) :
    Calls Tryz.prog 70 #[.pointer (some ⟨R, 0, none⟩)] w fun x W' => x = .returned (.int .u64 0) ∧ Rd W' R e lim bs ∧ w.grownBy W' (some R) :=
  (callsIn_wide (n := 3)).1 (UintR_err_in 3 (by omega) w R e lim he bs h)
end Go.Proofs.YtdiihaeelcbjbaaGreatDoor

-- RdU
namespace Go.Proofs.YtdiihaeelcbjbaaGreatDoor
open Go.RowKit

def RdQ (w : World) (R lim : Nat) (s : RdS) : Prop := ∃ bs', Rd w R (s.e : Int) (lim : Int) bs' ∧ (s.e = 0 → bs' = s.bs) ∧ (s.e ≠ 0 → s.bs = [])
section
variable {w : World} {R lim : Nat} {s : RdS}
theorem RdQ.below {w' : World} (h : RdQ w R lim s) (hb : Below w.heap.size w w') : RdQ w' R lim s := by
  obtain ⟨bs', h1, h2, h3⟩ := h
  exact ⟨bs', h1.below hb, h2, h3⟩
theorem UintR_q (h : RdQ w R lim s) : Calls Tryz.prog 70 #[.pointer (some ⟨R, 0, none⟩)] w fun x W' => x = .returned (.int .u64 (s.u.1 : Int)) ∧ RdQ W' R lim s.u.2 ∧ w.grownBy W' (some R) := by
  obtain ⟨bs', h1, h2, h3⟩ := h
  by_cases h0 : s.e = 0
  · obtain rfl := h2 h0
    rw [h0] at h1
    cases hr : rdU s.bs with
    | short =>
      rw [RdS.u_short h0 hr]
      exact (UintR_short w R lim s.bs h1 hr).mono fun _ _ ⟨a, b, c⟩ => ⟨a, ⟨[], b, fun h => absurd h (by decide), fun _ => rfl⟩, c⟩
    | form r =>
      rw [RdS.u_form h0 hr]
      exact (UintR_form w R lim s.bs r h1 hr).mono fun _ _ ⟨a, b, c⟩ => ⟨a, ⟨_, b, fun h => absurd h (by decide), fun _ => rfl⟩, c⟩
    | ok n r =>
      rw [RdS.u_ok h0 hr]
      exact (UintR_ok w R lim s.bs n r h1 hr).mono fun _ _ ⟨a, b, c⟩ => ⟨a, ⟨_, b, fun _ => rfl, fun h => absurd rfl h⟩, c⟩
  · rw [RdS.u_err h0]
    exact (UintR_err w R s.e lim (by simpa using h0) bs' h1).mono fun _ _ ⟨a, b, c⟩ => ⟨a, ⟨_, b, fun h => absurd h h0, fun _ => rfl⟩, c⟩

theorem ErrR_q (h : RdQ w R lim s) : Calls Tryz.prog 94 #[.pointer (some ⟨R, 0, none⟩)] w fun x W' => x = .returned (.int .i64 (s.e : Int)) ∧ w = W' := by
  obtain ⟨bs', h1, -, -⟩ := h
  exact Err_any R s.e lim bs' w h1

end
end Go.Proofs.YtdiihaeelcbjbaaGreatDoor

-- RdB
namespace Go.Proofs.YtdiihaeelcbjbaaGreatDoor
open Go.RowKit

section
variable {w : World} {R lim : Nat} {s : RdS}
theorem ByteR_q (h : RdQ w R lim s) : Calls Tryz.prog 119 #[.pointer (some ⟨R, 0, none⟩)] w fun x W' => x = .returned (.int .u8 (s.b.1 : Int)) ∧ RdQ W' R lim s.b.2 ∧ w.grownBy W' (some R) := by
  obtain ⟨bs', h1, h2, h3⟩ := h
  by_cases h0 : s.e = 0
  · obtain rfl := h2 h0
    rw [h0] at h1
    cases hb : s.bs with
    | nil =>
      rw [hb] at h1
      rw [show s.b = (0, ⟨10, []⟩) by rw [RdS.b, if_pos h0, hb]]
      exact (Byte_end R lim w h1).mono fun _ _ ⟨a, b⟩ => by subst b; exact ⟨a, ⟨_, h1.fail 10, fun h => absurd h (by decide), fun _ => rfl⟩, grownBy_set _ _ _ _⟩
    | cons c r =>
      rw [hb] at h1
      rw [show s.b = (c.toNat, ⟨0, r⟩) by rw [RdS.b, if_pos h0, hb]]
      exact (Byte_one R lim c r w h1).mono fun _ _ ⟨a, b, g⟩ => ⟨a, ⟨_, b, fun _ => rfl, fun h => absurd rfl h⟩, g⟩
  · rw [show s.b = (0, ⟨s.e, []⟩) by rw [RdS.b, if_neg h0]]
    exact (Byte_err R s.e lim (by simpa using h0) bs' w h1).mono fun _ _ ⟨a, b⟩ => by subst b; exact ⟨a, ⟨_, h1, fun h => absurd h h0, fun _ => rfl⟩, rfl, rfl, rfl, Nat.le_refl _, fun _ _ _ => rfl⟩
theorem NewR_q (A : Option Addr) (L c : Nat) (bs : List UInt8) (hL : L = bs.length) (hlen : bs.length ≤ 1000000) (hA : HasA w w.heap.size A bs) :
    Calls Tryz.prog 69 #[.slice A L c, .int .i64 (lim : Int)] w fun x W' => ∃ R, x = .returned (.pointer (some ⟨R, 0, none⟩)) ∧ RdQ W' R lim ⟨0, bs⟩ ∧ w.heap.size ≤ R ∧ Below w.heap.size w W' := by
  refine (New_any A L c lim bs hL hlen w hA).mono ?_
  rintro x W' ⟨R, a, b, g, hb⟩
  exact ⟨R, a, ⟨bs, b, fun _ => rfl, fun h => absurd rfl h⟩, g, hb⟩
end
end Go.Proofs.YtdiihaeelcbjbaaGreatDoor

-- RdD
namespace Go.Proofs.YtdiihaeelcbjbaaGreatDoor
open Go.RowKit

section
variable {w : World} {R lim : Nat} {s : RdS}
theorem DoneR_q (h : RdQ w R lim s) : Calls Tryz.prog 76 #[.pointer (some ⟨R, 0, none⟩)] w fun x W' => x = .returned (.int .i64 (s.done : Int)) ∧ w.grownBy W' (some R) := by
  obtain ⟨bs', h1, h2, h3⟩ := h
  by_cases h0 : s.e = 0
  · obtain rfl := h2 h0
    rw [h0] at h1
    cases hb : s.bs with
    | nil =>
      rw [hb] at h1
      exact (Done_ok R lim w h1).mono fun _ _ ⟨a, b⟩ => by subst b; exact ⟨by rw [a, RdS.done, if_pos h0, if_pos hb]; rfl, rfl, rfl, rfl, Nat.le_refl _, fun _ _ _ => rfl⟩
    | cons c r =>
      rw [hb] at h1
      exact (Done_left R lim c r w h1).mono fun _ _ ⟨a, b⟩ => by subst b; exact ⟨by rw [a, RdS.done, if_pos h0, if_neg (by rw [hb]; simp)]; rfl, grownBy_set _ _ _ _⟩
  · exact (Done_err R s.e lim (by simpa using h0) bs' w h1).mono fun _ _ ⟨a, b⟩ => by subst b; exact ⟨by rw [a, RdS.done, if_neg h0], rfl, rfl, rfl, Nat.le_refl _, fun _ _ _ => rfl⟩
end
end Go.Proofs.YtdiihaeelcbjbaaGreatDoor
