/- What the walks of the laws on states ask of the program's package kv, of bytes. -/
import Derived.Test.YtfkdlmokigeemaaGreatDoorMKvK
import Derived.Test.YtfkdlmokigeemaaGreatDoorMKvZ
import Derived.Test.YtfkdlmokigeemaaGreatDoorMRdE
import Derived.Test.YtfkdlmokigeemaaGreatDoorKvDoZ
namespace Go.Proofs.YtfkdlmokigeemaaGreatDoor
open Go.RowKit

/-- What Take comes to: n the error; the pairs, and what is behind them. -/
structure TakeR (bs : List UInt8) (l : List PV) (rest : List UInt8) (n : Nat) : Prop where
  ok : n = 0 → SortedP l ∧ (bs.length ≤ 5000 → LimP l) ∧ bs = bytesP l ++ rest
  no : n ≠ 0 → n = 10 ∨ n = 11
  back : ∀ m, SortedP m → (∀ p ∈ m, 1 ≤ p.1.size ∧ p.1.size ≤ 32 ∧ p.2.size ≤ 64) → m.length ≤ 5000 → bs = bytesP m → n = 0 ∧ l = m ∧ rest = []
/-- Put and Take. -/
structure KvKP {T : World → Prop} (K : KvK T) where
  put : ∀ {F : Nat → Prop} {w : World} {R : Nat} {l : List PV} (A : Option Addr) (L c : Nat) (bs : List UInt8), K.Pl F w R l → T w → LimP l → (bytesP l).length ≤ 900000 → L = bs.length → L ≤ c → L ≤ 1000 → HasA w w.heap.size A bs → Calls Tryz.prog 12 #[.pointer (some ⟨R, 0, none⟩), .slice A L c] w fun e W' => ∃ v n, e = .returned v ∧ W'.ownsRow w.heap.size 5 1 v n ((bs ++ bytesP l).map enc) ∧ Below w.heap.size w W'
  putNil : ∀ (w : World) (A : Option Addr) (L c : Nat) (bs : List UInt8), T w → L = bs.length → L ≤ c → L ≤ 1000 → HasA w w.heap.size A bs → Calls Tryz.prog 12 #[.pointer none, .slice A L c] w fun e W' => ∃ v n, e = .returned v ∧ W'.ownsRow w.heap.size 5 1 v n ((bs ++ bytesP []).map enc) ∧ Below w.heap.size w W'
  take : ∀ (R : Nat) (bs : List UInt8) (w : World), T w → bs.length ≤ 1000000 → RdQ w R 64 ⟨0, bs⟩ → Calls Tryz.prog 16 #[.pointer (some ⟨R, 0, none⟩)] w fun e W' => ∃ (n : Nat) (l : List PV) (rest : List UInt8), TakeR bs l rest n ∧ w.grownBy W' (some R) ∧
    ((n = 0 ∧ ∃ F S, e = .returned (.tuple #[.pointer (some ⟨S, 0, none⟩), .int .i64 0]) ∧ K.Pl F W' S l ∧ (∀ k, F k → w.heap.size ≤ k) ∧ RdQ W' R 64 ⟨0, rest⟩) ∨ (n ≠ 0 ∧ e = .returned (.tuple #[.pointer none, .int .i64 (n : Int)])))
end Go.Proofs.YtfkdlmokigeemaaGreatDoor
