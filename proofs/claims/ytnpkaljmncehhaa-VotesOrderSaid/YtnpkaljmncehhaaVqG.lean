/- The first run of a set for which a test holds; the first one above a number; where the consecutive numbers behind one end. -/
import Derived.Test.YtnpkaljmncehhaaVqF
namespace Go.Proofs.Ytnpkaljmncehhaa
open Go.RowKit

theorem enF1 : ∀ args w, (callFunc 41 args).run Try.prog w = .ok (.enter 41 args) w := enters_of Try.func41 (by kernel_rfl) rfl
theorem enAb : ∀ args w, (callFunc 39 args).run Try.prog w = .ok (.enter 39 args) w := enters_of Try.func39 (by kernel_rfl) rfl
set_option maxRecDepth 100000 in
set_option maxHeartbeats 4000000 in
theorem first_any (R k : Nat) (v : Value) (l : List (Nat × Nat)) (f : FuncId) (hen : ∀ args w, (callFunc f args).run Try.prog w = .ok (.enter f args) w) (cs : Array Value) (p : Nat → Bool) (w : World) (hl : l.length ≤ 1000000) (hS : SetQ w R k v l)
    (hf : ∀ (j : Nat) (hj : j < l.length) (W : World), Below w.heap.size w W → Calls Try.prog f (#[.agg #[.int .u64 (l[j].1 : Int), .int .u64 (l[j].2 : Int)]] ++ cs) W fun e W' => e = .returned (.bool (p j)) ∧ Below W.heap.size W W') :
    Calls Try.prog 33 #[.pointer (some ⟨R, k, none⟩), .func (.func f) #[] cs] w fun e W' => ∃ i : Nat, e = .returned (.int .i64 (i : Int)) ∧ FirstP p l.length i ∧ Below w.heap.size w W' := by
  obtain ⟨n, hn⟩ : ∃ n, n = l.length := ⟨_, rfl⟩
  have HF := Lib.hid hf
  have HS := Lib.hid hS
  have HN := Lib.hid (And.intro hn hl)
  rw [← hn]
  clear hf hS hn hl
  go_enter Try.func33, Try.ntmps33
  go_upto_region 1 with (fail)
  obtain ⟨W0, hW0⟩ : ∃ W0, W0 = w.alloc (.cells #[.pointer (some ⟨R, k, none⟩)] 70) := ⟨_, rfl⟩
  rw [← hW0]
  obtain ⟨W1, hW1⟩ : ∃ W1, W1 = W0.alloc (.cells #[.func (.func f) #[] cs] 75) := ⟨_, rfl⟩
  rw [← hW1]
  have b0 : Below w.heap.size w W0 := by rw [hW0]; exact (Below.refl _ w).alloc (Nat.le_refl _) _
  have k0 : W0.heap[w.heap.size]? = some (.cells #[.pointer (some ⟨R, k, none⟩)] 70 (0, 0)) := by rw [hW0]; exact World.alloc_heap_new w _
  have s0 : W0.heap.size = w.heap.size + 1 := by rw [hW0, World.size_alloc]
  have b1 : Below W0.heap.size W0 W1 := by rw [hW1]; exact (Below.refl _ W0).alloc (Nat.le_refl _) _
  have k1 : W1.heap[W0.heap.size]? = some (.cells #[.func (.func f) #[] cs] 75 (0, 0)) := by rw [hW1]; exact World.alloc_heap_new W0 _
  have k0' := (b1.block _ (by omega)).trans k0
  rw [s0] at k1
  obtain ⟨q, hq⟩ : ∃ q, q = w.heap.size := ⟨_, rfl⟩
  rw [← hq] at k0' k1 ⊢
  have hb := b0.trans (Below.mono b1 b0.size)
  have hS1 := HS.out.grew hb
  obtain ⟨A, c, hv⟩ := hS1.own.form
  subst hv
  have hc := hS1.cell
  rw [← HN.out.1] at hc
  have c0 := blk_cell k0' 0
  have c1 := blk_cell k1 0
  have hql := (Array.getElem?_eq_some_iff.1 k1).1
  have HB := Lib.hid hb
  have HC : Hid (∀ (j : Nat) (W : World), j < n → Below W1.heap.size W1 W → Calls Try.prog 41 (#[.int .i64 (j : Int)] ++ #[.pointer (some ⟨q + 1, 0, none⟩), .pointer (some ⟨q, 0, none⟩)]) W fun e W' => e = .returned (.bool (p j)) ∧ Below W.heap.size W W') := Lib.hid (fun j W hj hW => by
    have hj' : j < l.length := by have := HN.out.1; omega
    exact first1_any R k _ l (q + 1) q j hj' f hen cs (p j) W HN.out.2 (hS1.grew hW) ((hW.cell (p := ⟨q + 1, 0, none⟩) hql).trans c1) ((hW.cell (p := ⟨q, 0, none⟩) (by show q < _; omega)).trans c0) (fun W' hW' => HF.out j hj' W' (hb.trans (Below.mono (hW.trans (Below.mono hW' hW.size)) hb.size))))
  have hn6 : n ≤ 1000000 := by have := HN.out; omega
  clear hS1 hb b0 b1 k0 k0' k1 s0 hW0 hW1 hq HF HS
  go_wp2_with fail
  refine (search_any n hn6 p _ enF1 _ W1 HC.out).mono ?_
  rintro e W2 ⟨i, rfl, hi, h2⟩
  have HI := Lib.hid hi
  have H2 := Lib.hid h2
  clear hi h2
  go_wp2
  go_ret
  exact ⟨i, rfl, HI.out, HB.out.trans (Below.mono H2.out HB.out.size)⟩
/-- Whether a run ends above a number. -/
def abP (l : List (Nat × Nat)) (n : Nat) (j : Nat) : Bool := match l[j]? with
  | some x => decide (n < x.2)
  | none => false
theorem abP_at {l : List (Nat × Nat)} {n j : Nat} (h : j < l.length) : abP l n j = decide (n < l[j].2) := by
  unfold abP
  rw [List.getElem?_eq_getElem h]
set_option maxRecDepth 100000 in
set_option maxHeartbeats 4000000 in
theorem above_any (R k : Nat) (v : Value) (l : List (Nat × Nat)) (n : Nat) (w : World) (hl : l.length ≤ 1000000) (hS : SetQ w R k v l) :
    Calls Try.prog 32 #[.pointer (some ⟨R, k, none⟩), .int .u64 (n : Int)] w fun e W' => ∃ i : Nat, e = .returned (.int .i64 (i : Int)) ∧ FirstP (abP l n) l.length i ∧ Below w.heap.size w W' := by
  have HS := Lib.hid hS
  have HL := Lib.hid hl
  clear hS hl
  go_enter Try.func32, Try.ntmps32
  go_upto_region 1 with (fail)
  obtain ⟨W0, hW0⟩ : ∃ W0, W0 = w.alloc (.cells #[.int .u64 (n : Int)] 35) := ⟨_, rfl⟩
  rw [← hW0]
  have b0 : Below w.heap.size w W0 := by rw [hW0]; exact (Below.refl _ w).alloc (Nat.le_refl _) _
  have k0 : W0.heap[w.heap.size]? = some (.cells #[.int .u64 (n : Int)] 35 (0, 0)) := by rw [hW0]; exact World.alloc_heap_new w _
  obtain ⟨q, hq⟩ : ∃ q, q = w.heap.size := ⟨_, rfl⟩
  rw [← hq] at k0 ⊢
  have HQ : Hid (∀ (j : Nat) (hj : j < l.length) (W : World), Below W0.heap.size W0 W → Calls Try.prog 39 (#[.agg #[.int .u64 (l[j].1 : Int), .int .u64 (l[j].2 : Int)]] ++ #[.pointer (some ⟨q, 0, none⟩)]) W fun e W' => e = .returned (.bool (abP l n j)) ∧ Below W.heap.size W W') := Lib.hid (fun j hj W hW => by
    have hql := (Array.getElem?_eq_some_iff.1 k0).1
    rw [abP_at hj]
    exact above1_any q n l[j].1 l[j].2 W ((hW.cell (p := ⟨q, 0, none⟩) hql).trans (blk_cell k0 0)) (Nat.lt_of_lt_of_le hql hW.size))
  have HS1 := Lib.hid (HS.out.grew b0)
  have HB := Lib.hid b0
  clear b0 k0 hW0 hq HS
  go_wp2_with fail
  refine (first_any R k v l _ enAb _ (abP l n) W0 HL.out HS1.out HQ.out).mono ?_
  rintro e W2 ⟨i, rfl, hi, h2⟩
  have HI := Lib.hid hi
  have H2 := Lib.hid h2
  clear hi h2
  go_wp2
  go_ret
  exact ⟨i, rfl, HI.out, HB.out.trans (Below.mono H2.out HB.out.size)⟩
end Go.Proofs.Ytnpkaljmncehhaa
