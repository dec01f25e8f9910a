/- The walk of the law that a pool behind acts answers what the document says, over a pool of the program. -/
import Derived.Test.YtmpaefndkobgnaaPpR
import Derived.Test.YtmpaefndkobgnaaPoolWakes
import Derived.Test.YtmpaefndkobgnaaPaWalk
import Derived.Deep.AppendLies
namespace Go.Proofs.Ytmpaefndkobgnaa
open Go.RowKit

/-- An act as it lies: what to do, the place, the handle, the bytes. -/
structure ActV where
  d : Nat
  k : Int
  i : Int
  g : Nat
  A : Option Addr
  L : Nat
  c : Nat
  x : List UInt8
def ActV.ok (w : World) (a : ActV) : Prop := a.d < 256 ∧ InI a.k ∧ InI a.i ∧ a.g < 4294967296 ∧ a.L = a.x.length ∧ a.L ≤ 140737488351232 ∧ HasA w w.heap.size a.A a.x
/-- Acts that lie in a row. -/
def InActs (w : World) (A : Option Addr) (l : List ActV) : Prop := l ≠ [] → ∃ b o, A = some ⟨b, o, none⟩ ∧ b < w.heap.size ∧ ∀ j (h : j < l.length), w.cell? ⟨b, o + j * 5, none⟩ = some (.int .u8 (l[j].d : Int)) ∧ w.cell? ⟨b, o + j * 5 + 1, none⟩ = some (.int .i64 l[j].k) ∧
  w.cell? ⟨b, o + j * 5 + 2, none⟩ = some (.int .i64 l[j].i) ∧ w.cell? ⟨b, o + j * 5 + 3, none⟩ = some (.int .u32 (l[j].g : Int)) ∧ w.cell? ⟨b, o + j * 5 + 4, none⟩ = some (.slice l[j].A l[j].L l[j].c) ∧ l[j].ok w

set_option maxRecDepth 100000 in
set_option maxHeartbeats 8000000 in
/-- Sizes that may not be. -/
theorem plays_bad (P : PoolK) (n sz : Int) (hn : InI n) (hsz : InI sz) (hbad : ¬ (1 ≤ n ∧ n ≤ 4096 ∧ 1 ≤ sz ∧ sz ≤ 65536)) (A : Option Addr) (L c : Nat) (w : World) :
    Calls Try.prog 3 #[.int .i64 n, .int .i64 sz, .slice A L c] w fun e W' => e = .returned (.bool true) ∧ Below w.heap.size w W' := by
  have HB := Lib.hid hbad
  have hcs : (n < 1) ∨ (¬ n < 1 ∧ 4096 < n) ∨ (¬ n < 1 ∧ ¬ 4096 < n ∧ sz < 1) ∨ (¬ n < 1 ∧ ¬ 4096 < n ∧ ¬ sz < 1 ∧ 65536 < sz) := by omega
  clear hbad
  go_enter Try.func3, Try.ntmps3
  go_wp2_with fail
  refine (P.new_bad n sz w hn hsz HB.out).mono ?_
  rintro e W1 ⟨rfl, hb1⟩
  have B1 := Lib.hid hb1
  clear hb1
  rcases hcs with h1 | ⟨h1, h2⟩ | ⟨h1, h2, h3⟩ | ⟨h1, h2, h3, h4⟩
  all_goals go_wp2_with fail
  all_goals refine (P.nil_get W1).mono ?_
  all_goals rintro e W2 ⟨rfl, hb2⟩
  all_goals have B2 := Lib.hid (B1.out.trans (Below.mono hb2 B1.out.size))
  all_goals clear hb2
  all_goals simp only [hV]
  all_goals go_wp2_with fail
  all_goals refine (P.nil_bytes _).mono ?_
  all_goals rintro e W3 ⟨A3, c3, rfl, hb3⟩
  all_goals have B3 := Lib.hid ((B2.out.alloc B2.out.size (.cells #[.int .i64 0, .int .u32 0] 29)).trans (Below.mono hb3 (by have := B2.out.size; simp; omega)))
  all_goals clear hb3
  all_goals go_wp2_with fail
  all_goals refine (P.nil_back _).mono ?_
  all_goals rintro e W4 ⟨rfl, hb4⟩
  all_goals have B4 := Lib.hid (B3.out.trans (Below.mono hb4 B3.out.size))
  all_goals clear hb4
  all_goals go_wp2_with fail
  all_goals refine (P.nil_set _).mono ?_
  all_goals rintro e W5 ⟨rfl, hb5⟩
  all_goals have B5 := Lib.hid (B4.out.trans (Below.mono hb5 B4.out.size))
  all_goals clear hb5
  all_goals go_wp2_with fail
  all_goals refine (P.nil_free _).mono ?_
  all_goals rintro e W6 ⟨rfl, hb6⟩
  all_goals have B6 := Lib.hid (B5.out.trans (Below.mono hb6 B5.out.size))
  all_goals clear hb6
  all_goals go_wp2_with fail
  all_goals refine (wakes4 P _).mono ?_
  all_goals rintro e W7 ⟨rfl, hb7⟩
  all_goals have B7 := Lib.hid (B6.out.trans (Below.mono hb7 B6.out.size))
  all_goals clear hb7
  all_goals go_wp2
  all_goals go_ret
  all_goals exact ⟨rfl, B7.out⟩

set_option maxRecDepth 100000 in
set_option maxHeartbeats 8000000 in
/-- Pools and acts beyond those that are looked at. -/
theorem plays_big (P : PoolK) (n sz : Nat) (hn : 1 ≤ n ∧ n ≤ 4096) (hsz : 1 ≤ sz ∧ sz ≤ 65536) (A : Option Addr) (L c : Nat) (hL : L ≤ 140737488351232) (hbig : 50 < n ∨ 100 < sz ∨ 200 < L) (w : World) :
    Calls Try.prog 3 #[.int .i64 (n : Int), .int .i64 (sz : Int), .slice A L c] w fun e W' => e = .returned (.bool true) ∧ Below w.heap.size w W' := by
  have hcs : (50 : Int) < n ∨ (¬ (50 : Int) < n ∧ (100 : Int) < sz) ∨ (¬ (50 : Int) < n ∧ ¬ (100 : Int) < sz ∧ (200 : Int) < L) := by omega
  have a1 : ¬ (n : Int) < 1 := by omega
  have a2 : ¬ (4096 : Int) < n := by omega
  have a3 : ¬ (sz : Int) < 1 := by omega
  have a4 : ¬ (65536 : Int) < sz := by omega
  go_enter Try.func3, Try.ntmps3
  go_wp2_with fail
  refine (Live.new P n sz w (by omega) (by omega) (by omega) (by omega)).mono ?_
  rintro e W1 ⟨R, rfl, hl1⟩
  have B1 := Lib.hid hl1.below
  clear hl1
  rcases hcs with h1 | ⟨h1, h2⟩ | ⟨h1, h2, h3⟩
  all_goals go_wp2_with fail
  all_goals refine (wakes4 P _).mono ?_
  all_goals rintro e W7 ⟨rfl, hb7⟩
  all_goals have B7 := Lib.hid (B1.out.trans (Below.mono hb7 B1.out.size))
  all_goals clear hb7
  all_goals go_wp2
  all_goals go_ret
  all_goals exact ⟨rfl, B7.out⟩
end Go.Proofs.Ytmpaefndkobgnaa
