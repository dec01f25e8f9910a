/- A command as it lies. -/
import Derived.Test.YtooaobadnainkaaMBaseO
import Derived.LoopTactic
namespace Go.Proofs.Ytooaobadnainkaa
open Go.RowKit

/-- Texts that lie in a row. -/
def HasS (w : World) (A : Option Addr) (l : List ByteArray) : Prop := l ≠ [] → ∃ b o, A = some ⟨b, o, none⟩ ∧ b < w.heap.size ∧ ∀ j (h : j < l.length), w.cell? ⟨b, o + j, none⟩ = some (.string l[j])
theorem HasS.below {w W : World} {A : Option Addr} {l : List ByteArray} (h : HasS w A l) (hb : Below w.heap.size w W) : HasS W A l := fun hl => by
  obtain ⟨b, o, e, h1, h2⟩ := h hl
  exact ⟨b, o, e, Nat.lt_of_lt_of_le h1 hb.size, fun j hj => (hb.cell (p := ⟨b, o + j, none⟩) h1).trans (h2 j hj)⟩
/-- A command. -/
structure CmdV where
  cl : Nat
  sq : Nat
  kd : Nat
  A : Option Addr
  L : Nat
  c : Nat
  ks : List ByteArray
  old : ByteArray
  new : ByteArray
  n : Int
def CmdV.cells (a : CmdV) : Array Value := #[.int .u32 (a.cl : Int), .int .u32 (a.sq : Int), .int .u8 (a.kd : Int), .slice a.A a.L a.c, .string a.old, .string a.new, .int .i64 a.n]
def CmdV.val (a : CmdV) : Value := .agg a.cells
structure CmdV.ok (w : World) (a : CmdV) : Prop where
  cl : a.cl < 4294967296
  sq : a.sq < 4294967296
  kd : a.kd < 256
  n : -9223372036854775808 ≤ a.n ∧ a.n ≤ 9223372036854775807
  len : a.L = a.ks.length
  max : a.L ≤ 140737488351232
  has : HasS w a.A a.ks
  each : ∀ k ∈ a.ks, k.size ≤ maxLen
  old : a.old.size ≤ maxLen
  new : a.new.size ≤ maxLen
/-- Whether two are alike. -/
def CmdV.same (a b : CmdV) : Bool := decide (a.ks = b.ks ∧ a.cl = b.cl ∧ a.sq = b.sq ∧ a.kd = b.kd ∧ a.old = b.old ∧ a.new = b.new ∧ a.n = b.n)
end Go.Proofs.Ytooaobadnainkaa
