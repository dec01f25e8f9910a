/- What the walks of the laws on disks ask of the program's disk; a bit turned. -/
import Derived.Test.YtdiihaeelcbjbaaGreatDoorMBase
import Derived.LoopTactic
import Derived.Deep.DeepCutAuto
namespace Go.Proofs.YtdiihaeelcbjbaaGreatDoor
open Go.RowKit

/-- A disk: its bytes, how many are synced, whether it has no power, its fuse. -/
structure DS where
  A : List UInt8
  y : Nat
  dead : Bool
  f : Option Nat
def DS.new : DS := ⟨[], 0, false, none⟩
def DS.app (s : DS) (x : List UInt8) : DS × Nat :=
  if s.dead then (s, 20) else match s.f with
    | none => ({ s with A := s.A ++ x }, 0)
    | some f => if f < x.length then (⟨s.A ++ x.take f, s.y, true, none⟩, 21) else ({ s with A := s.A ++ x, f := some (f - x.length) }, 0)
def DS.sync (s : DS) : DS × Nat := if s.dead then (s, 20) else ({ s with y := s.A.length }, 0)
def DS.cut (s : DS) (n : Int) : DS × Nat := if s.dead then (s, 20) else if n < s.y ∨ (s.A.length : Int) < n then (s, 1) else ({ s with A := s.A.take n.toNat }, 0)
def DS.fuse (s : DS) (n : Int) : DS × Nat := if s.dead then (s, 20) else ({ s with f := if n < 0 then none else some n.toNat }, 0)
def DS.crash (s : DS) (n : Int) : DS × Nat := if s.dead then (s, 20) else ({ s with A := if 0 ≤ n ∧ n < (s.A.length - s.y : Nat) then s.A.take (s.y + n.toNat) else s.A, dead := true, f := none }, 0)
def DS.turn (s : DS) (n : Int) : DS × Nat := if s.dead = false ∨ n < 0 ∨ (s.A.length : Int) ≤ n / 8 then (s, 1) else ({ s with A := s.A.set (n.toNat / 8) (s.A.getD (n.toNat / 8) 0 ^^^ (1 <<< UInt8.ofNat (n.toNat % 8))) }, 0)
def DS.restart (s : DS) : DS × Nat := ({ s with dead := false }, 0)
def InI5 (i : Int) : Prop := -9223372036854775808 ≤ i ∧ i ≤ 9223372036854775807

/-- A call that changes the disk, and answers a number. -/
def Turns (Pl : (Nat → Prop) → World → Nat → DS → Prop) (F : Nat → Prop) (R : Nat) (w : World) (r : DS × Nat) (e : Ending) (W' : World) : Prop :=
  e = .returned (.int .i64 (r.2 : Int)) ∧ ∃ F', Pl F' W' R r.1 ∧ Only F w W' ∧ ∀ k, F' k → F k ∨ w.heap.size ≤ k
/-- A disk of the program: how it lies is left open; what its calls come to is told by the document's state. -/
structure DiskK where
  Pl : (Nat → Prop) → World → Nat → DS → Prop
  keep : ∀ {F G : Nat → Prop} {w w' : World} {R : Nat} {s : DS}, Pl F w R s → Only G w w' → (∀ k, F k → ¬ G k) → Pl F w' R s
  lt : ∀ {F : Nat → Prop} {w : World} {R : Nat} {s : DS}, Pl F w R s → ∀ k, F k → k < w.heap.size
  sy : ∀ {F : Nat → Prop} {w : World} {R : Nat} {s : DS}, Pl F w R s → s.y ≤ s.A.length
  new : ∀ w : World, Calls Tryz.prog 9 #[] w fun e W' => ∃ F R, e = .returned (.pointer (some ⟨R, 0, none⟩)) ∧ Pl F W' R DS.new ∧ (∀ k, F k → w.heap.size ≤ k) ∧ Below w.heap.size w W'
  app : ∀ {F : Nat → Prop} {w : World} {R : Nat} {s : DS} (A : Option Addr) (L c : Nat) (x : List UInt8), Pl F w R s → L = x.length → L ≤ c → s.A.length + x.length ≤ 1000000000 → HasA w w.heap.size A x → (∀ b o, x ≠ [] → A = some ⟨b, o, none⟩ → ¬ F b) →
    Calls Tryz.prog 36 #[.pointer (some ⟨R, 0, none⟩), .slice A L c] w (Turns Pl F R w (s.app x))
  sync : ∀ {F : Nat → Prop} {w : World} {R : Nat} {s : DS}, Pl F w R s → Calls Tryz.prog 78 #[.pointer (some ⟨R, 0, none⟩)] w (Turns Pl F R w s.sync)
  cut : ∀ {F : Nat → Prop} {w : World} {R : Nat} {s : DS} (n : Int), Pl F w R s → InI5 n → Calls Tryz.prog 89 #[.pointer (some ⟨R, 0, none⟩), .int .i64 n] w (Turns Pl F R w (s.cut n))
  fuse : ∀ {F : Nat → Prop} {w : World} {R : Nat} {s : DS} (n : Int), Pl F w R s → InI5 n → Calls Tryz.prog 34 #[.pointer (some ⟨R, 0, none⟩), .int .i64 n] w (Turns Pl F R w (s.fuse n))
  crash : ∀ {F : Nat → Prop} {w : World} {R : Nat} {s : DS} (n : Int), Pl F w R s → InI5 n → Calls Tryz.prog 12 #[.pointer (some ⟨R, 0, none⟩), .int .i64 n] w (Turns Pl F R w (s.crash n))
  restart : ∀ {F : Nat → Prop} {w : World} {R : Nat} {s : DS}, Pl F w R s → Calls Tryz.prog 23 #[.pointer (some ⟨R, 0, none⟩)] w (Turns Pl F R w s.restart)
  bytes : ∀ {F : Nat → Prop} {w : World} {R : Nat} {s : DS}, Pl F w R s → Calls Tryz.prog 21 #[.pointer (some ⟨R, 0, none⟩)] w fun e W' => ∃ v L, e = .returned v ∧ W'.ownsRow w.heap.size 5 1 v L (s.A.map enc) ∧ Below w.heap.size w W'
  synced : ∀ {F : Nat → Prop} {w : World} {R : Nat} {s : DS}, Pl F w R s → Calls Tryz.prog 22 #[.pointer (some ⟨R, 0, none⟩)] w fun e W' => e = .returned (.int .i64 (s.y : Int)) ∧ Below w.heap.size w W'
  isdead : ∀ {F : Nat → Prop} {w : World} {R : Nat} {s : DS}, Pl F w R s → Calls Tryz.prog 87 #[.pointer (some ⟨R, 0, none⟩)] w fun e W' => e = .returned (.bool s.dead) ∧ Below w.heap.size w W'

/-- A disk that came since w; nothing else changed. -/
structure LiveD (P : DiskK) (w : World) (R : Nat) (s : DS) (W : World) : Prop where
  ex : ∃ F, P.Pl F W R s ∧ ∀ k, F k → w.heap.size ≤ k
  below : Below w.heap.size w W
section
variable {P : DiskK} {w W W' : World} {R : Nat} {s : DS}
theorem LiveD.sy (h : LiveD P w R s W) : s.y ≤ s.A.length := h.ex.elim fun _ h => P.sy h.1
theorem LiveD.grew (h : LiveD P w R s W) (hb : Below W.heap.size W W') : LiveD P w R s W' := by
  obtain ⟨F, h1, h2⟩ := h.ex
  exact ⟨⟨F, P.keep h1 (Only.of_grew (F := fun _ => False) hb) (fun _ _ => id), h2⟩, h.below.trans (Below.mono hb h.below.size)⟩
theorem LiveD.new (P : DiskK) (w : World) : Calls Tryz.prog 9 #[] w fun e W' => ∃ R, e = .returned (.pointer (some ⟨R, 0, none⟩)) ∧ LiveD P w R DS.new W' :=
  (P.new w).mono fun _ _ ⟨F, R, h1, h2, h3, h4⟩ => ⟨R, h1, ⟨F, h2, h3⟩, h4⟩
/-- A call that changes the disk. -/
def TurnsD (P : DiskK) (w : World) (R : Nat) (r : DS × Nat) (e : Ending) (W' : World) : Prop := e = .returned (.int .i64 (r.2 : Int)) ∧ LiveD P w R r.1 W'
theorem LiveD.turns {r : DS × Nat} {e : Ending} {F : Nat → Prop} (h : LiveD P w R s W) (h2 : ∀ k, F k → w.heap.size ≤ k) (ht : Turns P.Pl F R W r e W') : TurnsD P w R r e W' := by
  obtain ⟨he, F', h3, h4, h5⟩ := ht
  exact ⟨he, ⟨F', h3, fun k hk => (h5 k hk).elim (h2 k) (fun h' => Nat.le_trans h.below.size h')⟩, h.below.trans (h4.below h.below.size h2)⟩
theorem LiveD.app (A : Option Addr) (L c : Nat) (x : List UInt8) (h : LiveD P w R s W) (hL : L = x.length) (hLc : L ≤ c) (hl : s.A.length + x.length ≤ 1000000000) (hA : HasA w w.heap.size A x) : Calls Tryz.prog 36 #[.pointer (some ⟨R, 0, none⟩), .slice A L c] W (TurnsD P w R (s.app x)) := by
  obtain ⟨F, h1, h2⟩ := h.ex
  refine (P.app A L c x h1 hL hLc hl (hA.below' h.below) (fun b o hx e hb => ?_)).mono fun _ _ ht => h.turns h2 ht
  obtain ⟨b', o', e', hlt, _⟩ := hA hx
  rw [e] at e'; cases e'
  exact absurd (h2 b hb) (Nat.not_le.2 hlt)
theorem LiveD.sync (h : LiveD P w R s W) : Calls Tryz.prog 78 #[.pointer (some ⟨R, 0, none⟩)] W (TurnsD P w R s.sync) := by
  obtain ⟨F, h1, h2⟩ := h.ex
  exact (P.sync h1).mono fun _ _ ht => h.turns h2 ht
theorem LiveD.cut (n : Int) (h : LiveD P w R s W) (hn : InI5 n) : Calls Tryz.prog 89 #[.pointer (some ⟨R, 0, none⟩), .int .i64 n] W (TurnsD P w R (s.cut n)) := by
  obtain ⟨F, h1, h2⟩ := h.ex
  exact (P.cut n h1 hn).mono fun _ _ ht => h.turns h2 ht
theorem LiveD.fuse (n : Int) (h : LiveD P w R s W) (hn : InI5 n) : Calls Tryz.prog 34 #[.pointer (some ⟨R, 0, none⟩), .int .i64 n] W (TurnsD P w R (s.fuse n)) := by
  obtain ⟨F, h1, h2⟩ := h.ex
  exact (P.fuse n h1 hn).mono fun _ _ ht => h.turns h2 ht
theorem LiveD.crash (n : Int) (h : LiveD P w R s W) (hn : InI5 n) : Calls Tryz.prog 12 #[.pointer (some ⟨R, 0, none⟩), .int .i64 n] W (TurnsD P w R (s.crash n)) := by
  obtain ⟨F, h1, h2⟩ := h.ex
  exact (P.crash n h1 hn).mono fun _ _ ht => h.turns h2 ht
theorem LiveD.restart (h : LiveD P w R s W) : Calls Tryz.prog 23 #[.pointer (some ⟨R, 0, none⟩)] W (TurnsD P w R s.restart) := by
  obtain ⟨F, h1, h2⟩ := h.ex
  exact (P.restart h1).mono fun _ _ ht => h.turns h2 ht
theorem LiveD.bytes (h : LiveD P w R s W) : Calls Tryz.prog 21 #[.pointer (some ⟨R, 0, none⟩)] W fun e W' => ∃ v L, e = .returned v ∧ W'.ownsRow W.heap.size 5 1 v L (s.A.map enc) ∧ LiveD P w R s W' ∧ Below W.heap.size W W' := by
  obtain ⟨F, h1, h2⟩ := h.ex
  exact (P.bytes h1).mono fun _ _ ⟨v, L, he, ho, hb⟩ => ⟨v, L, he, ho, h.grew hb, hb⟩
theorem LiveD.synced (h : LiveD P w R s W) : Calls Tryz.prog 22 #[.pointer (some ⟨R, 0, none⟩)] W fun e W' => e = .returned (.int .i64 (s.y : Int)) ∧ LiveD P w R s W' ∧ Below W.heap.size W W' := by
  obtain ⟨F, h1, h2⟩ := h.ex
  exact (P.synced h1).mono fun _ _ ⟨he, hb⟩ => ⟨he, h.grew hb, hb⟩
theorem LiveD.isdead (h : LiveD P w R s W) : Calls Tryz.prog 87 #[.pointer (some ⟨R, 0, none⟩)] W fun e W' => e = .returned (.bool s.dead) ∧ LiveD P w R s W' ∧ Below W.heap.size W W' := by
  obtain ⟨F, h1, h2⟩ := h.ex
  exact (P.isdead h1).mono fun _ _ ⟨he, hb⟩ => ⟨he, h.grew hb, hb⟩
end
end Go.Proofs.YtdiihaeelcbjbaaGreatDoor
namespace Go.Proofs.YtdiihaeelcbjbaaGreatDoor
open Go.RowKit

/-- A disk's Turn. -/
def TurnK (P : DiskK) : Prop := ∀ (F : Nat → Prop) (w : World) (R : Nat) (s : DS) (n : Int), P.Pl F w R s → InI5 n → Calls Tryz.prog 37 #[.pointer (some ⟨R, 0, none⟩), .int .i64 n] w (Turns P.Pl F R w (s.turn n))
theorem LiveD.turn {P : DiskK} (T : TurnK P) {w W : World} {R : Nat} {s : DS} (n : Int) (h : LiveD P w R s W) (hn : InI5 n) : Calls Tryz.prog 37 #[.pointer (some ⟨R, 0, none⟩), .int .i64 n] W (TurnsD P w R (s.turn n)) := by
  obtain ⟨F, h1, h2⟩ := h.ex
  exact (T _ _ _ _ n h1 hn).mono fun _ _ ht => h.turns h2 ht
end Go.Proofs.YtdiihaeelcbjbaaGreatDoor
