/- The first run for which a test holds; the first one above a number; where the consecutive numbers behind one end. -/
import Derived.Test.YtnpkaljmncehhaaVqS
namespace Go.Proofs.Ytnpkaljmncehhaa
open Go.RowKit

/-- A set as it lies: its row in the cell k of the block R. -/
structure SetQ (w : World) (R k : Nat) (v : Value) (l : List (Nat × Nat)) : Prop where
  cell : w.cell? ⟨R, k, none⟩ = some v
  lt : R < w.heap.size
  own : OwnR w v l
theorem SetQ.grew {w w' : World} {R k : Nat} {v : Value} {l : List (Nat × Nat)} (h : SetQ w R k v l) (hb : Below w.heap.size w w') : SetQ w' R k v l :=
  ⟨(hb.cell (p := ⟨R, k, none⟩) h.lt).trans h.cell, Nat.lt_of_lt_of_le h.lt hb.size, h.own.grew hb⟩
set_option maxRecDepth 100000 in
set_option maxHeartbeats 4000000 in
/-- The closure that the search is handed. -/
theorem first1_any (R k : Nat) (v : Value) (l : List (Nat × Nat)) (pI pS j : Nat) (hj : j < l.length) (f : FuncId) (hen : ∀ args w, (callFunc f args).run Try.prog w = .ok (.enter f args) w) (cs : Array Value) (b : Bool) (w : World) (hl : l.length ≤ 1000000)
    (hS : SetQ w R k v l) (hpI : w.cell? ⟨pI, 0, none⟩ = some (.func (.func f) #[] cs)) (hpS : w.cell? ⟨pS, 0, none⟩ = some (.pointer (some ⟨R, k, none⟩)))
    (hf : ∀ W, Below w.heap.size w W → Calls Try.prog f (#[.agg #[.int .u64 (l[j].1 : Int), .int .u64 (l[j].2 : Int)]] ++ cs) W fun e W' => e = .returned (.bool b) ∧ Below W.heap.size W W') :
    Calls Try.prog 41 #[.int .i64 (j : Int), .pointer (some ⟨pI, 0, none⟩), .pointer (some ⟨pS, 0, none⟩)] w fun e W' => e = .returned (.bool b) ∧ Below w.heap.size w W' := by
  have HF := Lib.hid hf
  have hne : l ≠ [] := by rintro rfl; simp at hj
  obtain ⟨g, c, cur, rfl, hnc, hg, _, _⟩ := hS.own.at hne
  obtain ⟨c0, c1⟩ := hS.own.cells j hj
  have hc := hS.cell
  obtain ⟨n, hn⟩ : ∃ n, n = l.length := ⟨_, rfl⟩
  rw [← hn] at hc hl hnc hj
  obtain ⟨x, hx⟩ : ∃ x, x = l[j].1 := ⟨_, rfl⟩
  obtain ⟨y, hy⟩ : ∃ y, y = l[j].2 := ⟨_, rfl⟩
  rw [← hx] at c0 HF
  rw [← hy] at c1 HF
  have hji : (j : Int) < (n : Int) := by omega
  have hni : (n : Int) ≤ 1000000 := by omega
  clear hf hS hne hg hn hx hy hj hl
  go_enter Try.func41, Try.ntmps41
  go_upto_region 1 with (fail)
  go_region_with (refine (HF.out _ (Below.refl _ _).drew).mono ?_; rintro e W5 ⟨rfl, h5⟩; have H5 := Lib.hid h5; clear h5)
  all_goals go_wp2
  all_goals go_ret
  all_goals exact ⟨rfl, (Below.refl _ _).drew.trans H5.out⟩
end Go.Proofs.Ytnpkaljmncehhaa
