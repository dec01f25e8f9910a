/- What Take of kv comes to, in plain mathematics. A state of kv as it lies: sorted pairs, and its blocks. -/
import Derived.Test.YthmmbopibpdpiaaGreatDoorMKvM
import Derived.Test.YthmmbopibpdpiaaGreatDoorMKqA
-- KvTR
namespace Go.Proofs.YthmmbopibpdpiaaGreatDoor

/-- What Take comes to: n the error; the pairs, and what is behind them. -/
structure TakeO (bs : List UInt8) (l : List PV) (rest : List UInt8) (n : Nat) : Prop where
  ok : n = 0 → SortedP l ∧ (bs.length ≤ 5000 → LimP l) ∧ bs = bytesP l ++ rest
  no : n ≠ 0 → n = 10 ∨ n = 11
/-- .. by a reader that takes all that may be in a state. -/
structure TakeR (bs : List UInt8) (l : List PV) (rest : List UInt8) (n : Nat) : Prop where
  ok : n = 0 → SortedP l ∧ (bs.length ≤ 5000 → LimP l) ∧ bs = bytesP l ++ rest
  no : n ≠ 0 → n = 10 ∨ n = 11
  back : ∀ m, SortedP m → (∀ p ∈ m, 1 ≤ p.1.size ∧ p.1.size ≤ 32 ∧ p.2.size ≤ 64) → m.length ≤ 5000 → bs = bytesP m → n = 0 ∧ l = m ∧ rest = []
end Go.Proofs.YthmmbopibpdpiaaGreatDoor

-- KqPl
namespace Go.Proofs.YthmmbopibpdpiaaGreatDoor
open Go.RowKit Go.Maps

/-- A state of sorted pairs; F: its blocks. -/
def PlQ (F : Nat → Prop) (w : World) (R : Nat) (l : List PV) : Prop := ∃ p, StQ w R p l ∧ SortedP l ∧ ∀ k, F k ↔ (k = R ∨ p = some k)
theorem PlQ.mk {w : World} {R : Nat} {p : Option Nat} {l : List PV} (h : StQ w R p l) (hs : SortedP l) : PlQ (fun k => k = R ∨ p = some k) w R l := ⟨p, h, hs, fun _ => Iff.rfl⟩
theorem only_of {w W : World} {F : Nat → Prop} {R : Nat} {p : Option Nat} (hF : ∀ k, F k ↔ (k = R ∨ p = some k)) (h : Only (fun x => x = R ∨ p = some x) w W) : Only F w W := h.mono fun x _ hx => (hF x).2 hx
end Go.Proofs.YthmmbopibpdpiaaGreatDoor
