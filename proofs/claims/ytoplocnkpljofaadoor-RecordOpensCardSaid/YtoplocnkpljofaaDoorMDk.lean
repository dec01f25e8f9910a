/- What the walks of the laws on disks ask of the program's disk. The walks of Great and wakes, and of one act. The walk of an act, Turn too. -/
import Derived.Test.YtoplocnkpljofaaDoorMBase
import Derived.LoopTactic
import Derived.Deep.DeepCutAuto
-- DkSpec
namespace Go.Proofs.YtoplocnkpljofaaDoor
open Go.RowKit

/-- A disk: its bytes, how many are synced, whether it has no power, its fuse. -/
structure DS where
  A : List UInt8
  y : Nat
  dead : Bool
  f : Option Nat
def DS.new : DS := ⟨[], 0, false, none⟩
def DS.app (s : DS) (x : List UInt8) : DS × Nat :=
  if s.dead then (s, 20) else match s.f with
    | none => ({ s with A := s.A ++ x }, 0)
    | some f => if f < x.length then (⟨s.A ++ x.take f, s.y, true, none⟩, 21) else ({ s with A := s.A ++ x, f := some (f - x.length) }, 0)
def DS.sync (s : DS) : DS × Nat := if s.dead then (s, 20) else ({ s with y := s.A.length }, 0)
def DS.cut (s : DS) (n : Int) : DS × Nat := if s.dead then (s, 20) else if n < s.y ∨ (s.A.length : Int) < n then (s, 1) else ({ s with A := s.A.take n.toNat }, 0)
def DS.fuse (s : DS) (n : Int) : DS × Nat := if s.dead then (s, 20) else ({ s with f := if n < 0 then none else some n.toNat }, 0)
def DS.crash (s : DS) (n : Int) : DS × Nat := if s.dead then (s, 20) else ({ s with A := if 0 ≤ n ∧ n < (s.A.length - s.y : Nat) then s.A.take (s.y + n.toNat) else s.A, dead := true, f := none }, 0)
def DS.turn (s : DS) (n : Int) : DS × Nat := if s.dead = false ∨ n < 0 ∨ (s.A.length : Int) ≤ n / 8 then (s, 1) else ({ s with A := s.A.set (n.toNat / 8) (s.A.getD (n.toNat / 8) 0 ^^^ (1 <<< UInt8.ofNat (n.toNat % 8))) }, 0)
def DS.restart (s : DS) : DS × Nat := ({ s with dead := false }, 0)
def InI5 (i : Int) : Prop := -9223372036854775808 ≤ i ∧ i ≤ 9223372036854775807

/-- A call that changes the disk, and answers a number. -/
def Turns (Pl : (Nat → Prop) → World → Nat → DS → Prop) (F : Nat → Prop) (R : Nat) (w : World) (r : DS × Nat) (e : Ending) (W' : World) : Prop :=
  e = .returned (.int .i64 (r.2 : Int)) ∧ ∃ F', Pl F' W' R r.1 ∧ Only F w W' ∧ ∀ k, F' k → F k ∨ w.heap.size ≤ k
/-- A disk of the program: how it lies is left open; what its calls come to is told by the document's state. -/
structure DiskK where
  Pl : (Nat → Prop) → World → Nat → DS → Prop
  keep : ∀ {F G : Nat → Prop} {w w' : World} {R : Nat} {s : DS}, Pl F w R s → Only G w w' → (∀ k, F k → ¬ G k) → Pl F w' R s
  lt : ∀ {F : Nat → Prop} {w : World} {R : Nat} {s : DS}, Pl F w R s → ∀ k, F k → k < w.heap.size
  sy : ∀ {F : Nat → Prop} {w : World} {R : Nat} {s : DS}, Pl F w R s → s.y ≤ s.A.length
  new : ∀ w : World, Calls Tryd.prog 8 #[] w fun e W' => ∃ F R, e = .returned (.pointer (some ⟨R, 0, none⟩)) ∧ Pl F W' R DS.new ∧ (∀ k, F k → w.heap.size ≤ k) ∧ Below w.heap.size w W'
  app : ∀ {F : Nat → Prop} {w : World} {R : Nat} {s : DS} (A : Option Addr) (L c : Nat) (x : List UInt8), Pl F w R s → L = x.length → L ≤ c → s.A.length + x.length ≤ 1000000000 → HasA w w.heap.size A x → (∀ b o, x ≠ [] → A = some ⟨b, o, none⟩ → ¬ F b) →
    Calls Tryd.prog 23 #[.pointer (some ⟨R, 0, none⟩), .slice A L c] w (Turns Pl F R w (s.app x))
  sync : ∀ {F : Nat → Prop} {w : World} {R : Nat} {s : DS}, Pl F w R s → Calls Tryd.prog 24 #[.pointer (some ⟨R, 0, none⟩)] w (Turns Pl F R w s.sync)
  cut : ∀ {F : Nat → Prop} {w : World} {R : Nat} {s : DS} (n : Int), Pl F w R s → InI5 n → Calls Tryd.prog 25 #[.pointer (some ⟨R, 0, none⟩), .int .i64 n] w (Turns Pl F R w (s.cut n))
  fuse : ∀ {F : Nat → Prop} {w : World} {R : Nat} {s : DS} (n : Int), Pl F w R s → InI5 n → Calls Tryd.prog 16 #[.pointer (some ⟨R, 0, none⟩), .int .i64 n] w (Turns Pl F R w (s.fuse n))
  crash : ∀ {F : Nat → Prop} {w : World} {R : Nat} {s : DS} (n : Int), Pl F w R s → InI5 n → Calls Tryd.prog 19 #[.pointer (some ⟨R, 0, none⟩), .int .i64 n] w (Turns Pl F R w (s.crash n))
  restart : ∀ {F : Nat → Prop} {w : World} {R : Nat} {s : DS}, Pl F w R s → Calls Tryd.prog 20 #[.pointer (some ⟨R, 0, none⟩)] w (Turns Pl F R w s.restart)
  bytes : ∀ {F : Nat → Prop} {w : World} {R : Nat} {s : DS}, Pl F w R s → Calls Tryd.prog 10 #[.pointer (some ⟨R, 0, none⟩)] w fun e W' => ∃ v L, e = .returned v ∧ W'.ownsRow w.heap.size 5 1 v L (s.A.map enc) ∧ Below w.heap.size w W'
  synced : ∀ {F : Nat → Prop} {w : World} {R : Nat} {s : DS}, Pl F w R s → Calls Tryd.prog 11 #[.pointer (some ⟨R, 0, none⟩)] w fun e W' => e = .returned (.int .i64 (s.y : Int)) ∧ Below w.heap.size w W'
  isdead : ∀ {F : Nat → Prop} {w : World} {R : Nat} {s : DS}, Pl F w R s → Calls Tryd.prog 13 #[.pointer (some ⟨R, 0, none⟩)] w fun e W' => e = .returned (.bool s.dead) ∧ Below w.heap.size w W'

/-- A disk that came since w; nothing else changed. -/
structure LiveD (P : DiskK) (w : World) (R : Nat) (s : DS) (W : World) : Prop where
  ex : ∃ F, P.Pl F W R s ∧ ∀ k, F k → w.heap.size ≤ k
  below : Below w.heap.size w W
section
variable {P : DiskK} {w W W' : World} {R : Nat} {s : DS}
theorem LiveD.sy (h : LiveD P w R s W) : s.y ≤ s.A.length := h.ex.elim fun _ h => P.sy h.1
theorem LiveD.grew (h : LiveD P w R s W) (hb : Below W.heap.size W W') : LiveD P w R s W' := by
  obtain ⟨F, h1, h2⟩ := h.ex
  exact ⟨⟨F, P.keep h1 (Only.of_grew (F := fun _ => False) hb) (fun _ _ => id), h2⟩, h.below.trans (Below.mono hb h.below.size)⟩
theorem LiveD.new (P : DiskK) (w : World) : Calls Tryd.prog 8 #[] w fun e W' => ∃ R, e = .returned (.pointer (some ⟨R, 0, none⟩)) ∧ LiveD P w R DS.new W' :=
  (P.new w).mono fun _ _ ⟨F, R, h1, h2, h3, h4⟩ => ⟨R, h1, ⟨F, h2, h3⟩, h4⟩
/-- A call that changes the disk. -/
def TurnsD (P : DiskK) (w : World) (R : Nat) (r : DS × Nat) (e : Ending) (W' : World) : Prop := e = .returned (.int .i64 (r.2 : Int)) ∧ LiveD P w R r.1 W'
theorem LiveD.turns {r : DS × Nat} {e : Ending} {F : Nat → Prop} (h : LiveD P w R s W) (h2 : ∀ k, F k → w.heap.size ≤ k) (ht : Turns P.Pl F R W r e W') : TurnsD P w R r e W' := by
  obtain ⟨he, F', h3, h4, h5⟩ := ht
  exact ⟨he, ⟨F', h3, fun k hk => (h5 k hk).elim (h2 k) (fun h' => Nat.le_trans h.below.size h')⟩, h.below.trans (h4.below h.below.size h2)⟩
theorem LiveD.app (A : Option Addr) (L c : Nat) (x : List UInt8) (h : LiveD P w R s W) (hL : L = x.length) (hLc : L ≤ c) (hl : s.A.length + x.length ≤ 1000000000) (hA : HasA w w.heap.size A x) : Calls Tryd.prog 23 #[.pointer (some ⟨R, 0, none⟩), .slice A L c] W (TurnsD P w R (s.app x)) := by
  obtain ⟨F, h1, h2⟩ := h.ex
  refine (P.app A L c x h1 hL hLc hl (hA.below' h.below) (fun b o hx e hb => ?_)).mono fun _ _ ht => h.turns h2 ht
  obtain ⟨b', o', e', hlt, _⟩ := hA hx
  rw [e] at e'; cases e'
  exact absurd (h2 b hb) (Nat.not_le.2 hlt)
theorem LiveD.sync (h : LiveD P w R s W) : Calls Tryd.prog 24 #[.pointer (some ⟨R, 0, none⟩)] W (TurnsD P w R s.sync) := by
  obtain ⟨F, h1, h2⟩ := h.ex
  exact (P.sync h1).mono fun _ _ ht => h.turns h2 ht
theorem LiveD.cut (n : Int) (h : LiveD P w R s W) (hn : InI5 n) : Calls Tryd.prog 25 #[.pointer (some ⟨R, 0, none⟩), .int .i64 n] W (TurnsD P w R (s.cut n)) := by
  obtain ⟨F, h1, h2⟩ := h.ex
  exact (P.cut n h1 hn).mono fun _ _ ht => h.turns h2 ht
theorem LiveD.fuse (n : Int) (h : LiveD P w R s W) (hn : InI5 n) : Calls Tryd.prog 16 #[.pointer (some ⟨R, 0, none⟩), .int .i64 n] W (TurnsD P w R (s.fuse n)) := by
  obtain ⟨F, h1, h2⟩ := h.ex
  exact (P.fuse n h1 hn).mono fun _ _ ht => h.turns h2 ht
theorem LiveD.crash (n : Int) (h : LiveD P w R s W) (hn : InI5 n) : Calls Tryd.prog 19 #[.pointer (some ⟨R, 0, none⟩), .int .i64 n] W (TurnsD P w R (s.crash n)) := by
  obtain ⟨F, h1, h2⟩ := h.ex
  exact (P.crash n h1 hn).mono fun _ _ ht => h.turns h2 ht
theorem LiveD.restart (h : LiveD P w R s W) : Calls Tryd.prog 20 #[.pointer (some ⟨R, 0, none⟩)] W (TurnsD P w R s.restart) := by
  obtain ⟨F, h1, h2⟩ := h.ex
  exact (P.restart h1).mono fun _ _ ht => h.turns h2 ht
theorem LiveD.bytes (h : LiveD P w R s W) : Calls Tryd.prog 10 #[.pointer (some ⟨R, 0, none⟩)] W fun e W' => ∃ v L, e = .returned v ∧ W'.ownsRow W.heap.size 5 1 v L (s.A.map enc) ∧ LiveD P w R s W' ∧ Below W.heap.size W W' := by
  obtain ⟨F, h1, h2⟩ := h.ex
  exact (P.bytes h1).mono fun _ _ ⟨v, L, he, ho, hb⟩ => ⟨v, L, he, ho, h.grew hb, hb⟩
theorem LiveD.synced (h : LiveD P w R s W) : Calls Tryd.prog 11 #[.pointer (some ⟨R, 0, none⟩)] W fun e W' => e = .returned (.int .i64 (s.y : Int)) ∧ LiveD P w R s W' ∧ Below W.heap.size W W' := by
  obtain ⟨F, h1, h2⟩ := h.ex
  exact (P.synced h1).mono fun _ _ ⟨he, hb⟩ => ⟨he, h.grew hb, hb⟩
theorem LiveD.isdead (h : LiveD P w R s W) : Calls Tryd.prog 13 #[.pointer (some ⟨R, 0, none⟩)] W fun e W' => e = .returned (.bool s.dead) ∧ LiveD P w R s W' ∧ Below W.heap.size W W' := by
  obtain ⟨F, h1, h2⟩ := h.ex
  exact (P.isdead h1).mono fun _ _ ⟨he, hb⟩ => ⟨he, h.grew hb, hb⟩
end
end Go.Proofs.YtoplocnkpljofaaDoor

-- DkGreat
namespace Go.Proofs.YtoplocnkpljofaaDoor
open Go.RowKit

/-- An act as it lies: what to do, a number, the bytes. -/
structure ActD where
  d : Nat
  n : Int
  A : Option Addr
  L : Nat
  c : Nat
  x : List UInt8
def ActD.ok (w : World) (a : ActD) : Prop := a.d < 256 ∧ InI5 a.n ∧ a.L = a.x.length ∧ a.L ≤ 140737488351232 ∧ HasA w w.heap.size a.A a.x ∧ a.L ≤ a.c
/-- Acts that lie in a row. -/
def InActsD (w : World) (A : Option Addr) (l : List ActD) : Prop := l ≠ [] → ∃ b o, A = some ⟨b, o, none⟩ ∧ b < w.heap.size ∧ ∀ j (h : j < l.length), w.cell? ⟨b, o + j * 3, none⟩ = some (.int .u8 (l[j].d : Int)) ∧ w.cell? ⟨b, o + j * 3 + 1, none⟩ = some (.int .i64 l[j].n) ∧ w.cell? ⟨b, o + j * 3 + 2, none⟩ = some (.slice l[j].A l[j].L l[j].c) ∧ l[j].ok w
/-- How many bytes the first k acts have. -/
def sumTo (l : List ActD) (k : Nat) : Nat := ((l.take k).map (·.L)).sum
theorem sumTo_succ (l : List ActD) (k : Nat) (h : k < l.length) : sumTo l (k + 1) = sumTo l k + l[k].L := by
  unfold sumTo
  rw [List.take_succ_eq_append_getElem h, List.map_append, List.sum_append]
  simp only [List.map_cons, List.map_nil, List.sum_cons, List.sum_nil, Nat.add_zero]
theorem sumTo_le (l : List ActD) : ∀ k, k ≤ l.length → sumTo l k ≤ sumTo l l.length
  | k, h => by
    obtain ⟨d, hd⟩ : ∃ d, l.length = k + d := ⟨l.length - k, by omega⟩
    have : ∀ d, k + d ≤ l.length → sumTo l k ≤ sumTo l (k + d) := by
      intro d
      induction d with
      | zero => intro _; exact Nat.le_refl _
      | succ d ih => intro hd; rw [← Nat.add_assoc, sumTo_succ l (k + d) (by omega)]; exact Nat.le_trans (ih (by omega)) (Nat.le_add_right _ _)
    rw [hd]; exact this d (by omega)
def great (l : List ActD) : Bool := decide (200 < l.length) || decide (10000 < sumTo l l.length)

set_option maxHeartbeats 2000000 in
theorem Great_any (A : Option Addr) (L c : Nat) (l : List ActD) (hL : L = l.length) (hLm : L ≤ 140737488351232) (w : World) (hA : InActsD w A l) :
    Calls Tryd.prog 6 #[.slice A L c] w fun e w' => e = .returned (.bool (great l)) ∧ w = w' := by
  have HL := Lib.hid hL
  by_cases hbig : 200 < L
  · have hbi : (200 : Int) < L := by omega
    have HG := Lib.hid (show great l = true by simp [great, ← hL, hbig])
    clear hL hbig
    go_enter Tryd.func6, Tryd.ntmps6
    go_wp2
    go_ret
    exact ⟨by rw [HG.out]; rfl, rfl⟩
  · have hbi : ¬ (200 : Int) < L := by omega
    have hLi : (L : Int) ≤ 200 := by omega
    have HA := Lib.hid hA
    have HB := Lib.hid hbig
    clear hL hA hbig
    go_enter Tryd.func6, Tryd.ntmps6
    go_wp2
    go_loopw [3, 4] (fun v i wr => ∃ k : Nat, k ≤ L ∧ i = .int .i64 (k : Int) ∧ Hid (sumTo l k ≤ 10000 ∧ w = wr) ∧ v = .int .i64 ((10000 - sumTo l k : Nat) : Int)) (fun _ i _ => L - (intOf i).toNat)
    case atStart => exact ⟨0, Nat.zero_le _, rfl, Lib.hid ⟨by simp [sumTo], rfl⟩, by simp [sumTo]⟩
    case round =>
      obtain ⟨k, hk, rfl, hsw, rfl⟩ := hrel
      obtain ⟨hs, rfl⟩ := hsw.out
      by_cases hlt : k < L
      · have hki : (k : Int) < L := by omega
        have hkl : k < l.length := by rw [← HL.out]; exact hlt
        obtain ⟨lb, lo, e, hlb, hc⟩ := HA.out (by rintro rfl; simp at hkl)
        subst e
        obtain ⟨f0, f1, f2, hok⟩ := hc k hkl
        obtain ⟨m, hm⟩ : ∃ m, m = l[k].L := ⟨_, rfl⟩
        have hm47 : m ≤ 140737488351232 := by rw [hm]; exact hok.2.2.2.1
        rw [← hm] at f2
        have hsucc := sumTo_succ l k hkl
        rw [← hm] at hsucc
        obtain ⟨r, hr⟩ : ∃ r, r = 10000 - sumTo l k := ⟨_, rfl⟩
        rw [← hr]
        by_cases hgt : r < m
        · have hgi : (r : Int) < m := by omega
          have HG := Lib.hid (show great l = true by
            have := sumTo_le l (k + 1) (by omega)
            have : 10000 < sumTo l l.length := by omega
            simp [great, this])
          clear hsucc hr hc hok hm hs hsw
          go_wp2
          go_ret
          exact ⟨by rw [HG.out]; rfl, rfl⟩
        · have hgi : ¬ (r : Int) < m := by omega
          obtain ⟨t, ht⟩ : ∃ t, t = r - m := ⟨_, rfl⟩
          have hrm : (r : Int) - m = (t : Int) := by omega
          have ht1 : (t : Int) ≤ 10000 := by omega
          have HS := Lib.hid (show sumTo l (k + 1) ≤ 10000 ∧ t = 10000 - sumTo l (k + 1) from ⟨by omega, by omega⟩)
          clear ht
          clear hsucc hr hc hok hm hs hsw
          go_wp2
          exact ⟨⟨k + 1, by omega, by congr 1, Lib.hid ⟨HS.out.1, trivial⟩, by rw [← HS.out.2]⟩, by simp only [intOf]; omega⟩
      · obtain rfl : L = k := by omega
        have HG := Lib.hid (show great l = false by
          have h1 : ¬ 10000 < sumTo l l.length := by rw [← HL.out]; omega
          have h2 : ¬ 200 < l.length := by rw [← HL.out]; exact HB.out
          simp [great, h1, h2])
        clear hs hsw
        go_wp2
        go_ret
        exact ⟨by rw [HG.out]; rfl, rfl⟩

/-- What an act comes to. -/
def DS.act (s : DS) (a : ActD) : DS × Nat :=
  if a.d % 7 = 0 then s.app a.x else if a.d % 7 = 1 then s.sync else if a.d % 7 = 2 then s.cut a.n else if a.d % 7 = 3 then s.fuse a.n else if a.d % 7 = 4 then s.crash a.n else if a.d % 7 = 5 then s.turn a.n else s.restart

set_option maxHeartbeats 2000000 in
theorem Does_any (P : DiskK) (w : World) (R : Nat) (s : DS) (W : World) (h : LiveD P w R s W) (a : ActD) (hok : a.ok w) (h5 : a.d % 7 ≠ 5) (hlen : s.A.length + a.x.length ≤ 1000000000) :
    Calls Tryd.prog 9 #[.pointer (some ⟨R, 0, none⟩), .agg #[.int .u8 (a.d : Int), .int .i64 a.n, .slice a.A a.L a.c]] W (TurnsD P w R (s.act a)) := by
  obtain ⟨hd, hn, hL, hLm, hA, hLc⟩ := hok
  have HN := Lib.hid hn
  have hd256 : (a.d : Int) < 256 := by omega
  have HH := Lib.hid h
  have HLA := Lib.hid (And.intro hL (And.intro hLc hA))
  have HLE := Lib.hid hlen
  obtain ⟨q, hq⟩ : ∃ q, q = a.d % 7 := ⟨_, rfl⟩
  have hqi : (a.d : Int) % 7 = (q : Int) := by omega
  have hq7 : q < 7 := by omega
  have HQ := Lib.hid hq
  have hq5 : q ≠ 5 := by rw [hq]; exact h5
  clear hn h hL hA hlen hq h5 hLc
  go_enter Tryd.func9, Tryd.ntmps9
  go_upto_region 1 with (fail)
  have hnew := World.alloc_heap_new W (.cells #[.int .u8 (a.d : Int), .int .i64 a.n, .slice a.A a.L a.c] 31)
  have hl1 := HH.out.grew ((Below.refl _ W).alloc (Nat.le_refl _) (.cells #[.int .u8 (a.d : Int), .int .i64 a.n, .slice a.A a.L a.c] 31))
  obtain ⟨W1, hW1⟩ : ∃ W1, W1 = W.alloc (.cells #[.int .u8 (a.d : Int), .int .i64 a.n, .slice a.A a.L a.c] 31) := ⟨_, rfl⟩
  obtain ⟨B, hB⟩ : ∃ B, B = W.heap.size := ⟨_, rfl⟩
  rw [← hW1] at hnew hl1 ⊢
  rw [← hB] at hnew ⊢
  have c0 := blk_cell hnew 0
  have c1 := blk_cell hnew 1
  have c2 := blk_cell hnew 2
  simp at c0 c1 c2
  have HL1 := Lib.hid hl1
  clear hnew hl1 hW1 hB HH
  have hcs : q = 0 ∨ q = 1 ∨ q = 2 ∨ q = 3 ∨ q = 4 ∨ q = 6 := by omega
  have fin : ∀ (r : DS × Nat) (e : Ending) (W' : World), s.act a = r → TurnsD P w R r e W' → TurnsD P w R (s.act a) e W' := fun r e W' h => h ▸ id
  have HF := Lib.hid fin
  clear fin
  rcases hcs with rfl | rfl | rfl | rfl | rfl | rfl
  · go_wp2_with fail
    refine (LiveD.app a.A a.L a.c a.x HL1.out HLA.out.1 HLA.out.2.1 HLE.out HLA.out.2.2).mono ?_
    rintro e W2 ⟨rfl, h2⟩
    have H2 := Lib.hid h2
    clear h2
    go_wp2
    go_ret
    exact HF.out _ _ _ (by simp [DS.act, ← HQ.out]) ⟨rfl, H2.out⟩
  · go_wp2_with fail
    refine (LiveD.sync HL1.out).mono ?_
    rintro e W2 ⟨rfl, h2⟩
    have H2 := Lib.hid h2
    clear h2
    go_wp2
    go_ret
    exact HF.out _ _ _ (by simp [DS.act, ← HQ.out]) ⟨rfl, H2.out⟩
  · go_wp2_with fail
    refine (LiveD.cut a.n HL1.out HN.out).mono ?_
    rintro e W2 ⟨rfl, h2⟩
    have H2 := Lib.hid h2
    clear h2
    go_wp2
    go_ret
    exact HF.out _ _ _ (by simp [DS.act, ← HQ.out]) ⟨rfl, H2.out⟩
  · go_wp2_with fail
    refine (LiveD.fuse a.n HL1.out HN.out).mono ?_
    rintro e W2 ⟨rfl, h2⟩
    have H2 := Lib.hid h2
    clear h2
    go_wp2
    go_ret
    exact HF.out _ _ _ (by simp [DS.act, ← HQ.out]) ⟨rfl, H2.out⟩
  · go_wp2_with fail
    refine (LiveD.crash a.n HL1.out HN.out).mono ?_
    rintro e W2 ⟨rfl, h2⟩
    have H2 := Lib.hid h2
    clear h2
    go_wp2
    go_ret
    exact HF.out _ _ _ (by simp [DS.act, ← HQ.out]) ⟨rfl, H2.out⟩
  · go_wp2_with fail
    refine (LiveD.restart HL1.out).mono ?_
    rintro e W2 ⟨rfl, h2⟩
    have H2 := Lib.hid h2
    clear h2
    go_wp2
    go_ret
    exact HF.out _ _ _ (by simp [DS.act, ← HQ.out]) ⟨rfl, H2.out⟩
end Go.Proofs.YtoplocnkpljofaaDoor

-- DkTurn
namespace Go.Proofs.YtoplocnkpljofaaDoor
open Go.RowKit

/-- A disk's Turn. -/
def TurnK (P : DiskK) : Prop := ∀ (F : Nat → Prop) (w : World) (R : Nat) (s : DS) (n : Int), P.Pl F w R s → InI5 n → Calls Tryd.prog 21 #[.pointer (some ⟨R, 0, none⟩), .int .i64 n] w (Turns P.Pl F R w (s.turn n))
theorem LiveD.turn {P : DiskK} (T : TurnK P) {w W : World} {R : Nat} {s : DS} (n : Int) (h : LiveD P w R s W) (hn : InI5 n) : Calls Tryd.prog 21 #[.pointer (some ⟨R, 0, none⟩), .int .i64 n] W (TurnsD P w R (s.turn n)) := by
  obtain ⟨F, h1, h2⟩ := h.ex
  exact (T _ _ _ _ n h1 hn).mono fun _ _ ht => h.turns h2 ht

set_option maxHeartbeats 2000000 in
theorem Does_turn (P : DiskK) (T : TurnK P) (w : World) (R : Nat) (s : DS) (W : World) (h : LiveD P w R s W) (a : ActD) (hok : a.ok w) (h5 : a.d % 7 = 5) :
    Calls Tryd.prog 9 #[.pointer (some ⟨R, 0, none⟩), .agg #[.int .u8 (a.d : Int), .int .i64 a.n, .slice a.A a.L a.c]] W (TurnsD P w R (s.act a)) := by
  obtain ⟨hd, hn, -⟩ := hok
  have HN := Lib.hid hn
  have hd256 : (a.d : Int) < 256 := by omega
  have HH := Lib.hid h
  have HT := Lib.hid T
  have hqi : (a.d : Int) % 7 = 5 := by omega
  have HQ := Lib.hid h5
  clear hn h h5 T
  go_enter Tryd.func9, Tryd.ntmps9
  go_upto_region 1 with (fail)
  have hnew := World.alloc_heap_new W (.cells #[.int .u8 (a.d : Int), .int .i64 a.n, .slice a.A a.L a.c] 31)
  have hl1 := HH.out.grew ((Below.refl _ W).alloc (Nat.le_refl _) (.cells #[.int .u8 (a.d : Int), .int .i64 a.n, .slice a.A a.L a.c] 31))
  obtain ⟨W1, hW1⟩ : ∃ W1, W1 = W.alloc (.cells #[.int .u8 (a.d : Int), .int .i64 a.n, .slice a.A a.L a.c] 31) := ⟨_, rfl⟩
  obtain ⟨B, hB⟩ : ∃ B, B = W.heap.size := ⟨_, rfl⟩
  rw [← hW1] at hnew hl1 ⊢
  rw [← hB] at hnew ⊢
  have c0 := blk_cell hnew 0
  have c1 := blk_cell hnew 1
  have c2 := blk_cell hnew 2
  simp at c0 c1 c2
  have HL1 := Lib.hid hl1
  clear hnew hl1 hW1 hB HH
  go_wp2_with fail
  refine (LiveD.turn HT.out a.n HL1.out HN.out).mono ?_
  rintro e W2 ⟨rfl, h2⟩
  have H2 := Lib.hid h2
  clear h2
  go_wp2
  go_ret
  have e : s.act a = s.turn a.n := by simp [DS.act, HQ.out]
  rw [e]
  exact ⟨rfl, H2.out⟩
theorem Does_all (P : DiskK) (T : TurnK P) (w : World) (R : Nat) (s : DS) (W : World) (h : LiveD P w R s W) (a : ActD) (hok : a.ok w) (hlen : s.A.length + a.x.length ≤ 1000000000) :
    Calls Tryd.prog 9 #[.pointer (some ⟨R, 0, none⟩), .agg #[.int .u8 (a.d : Int), .int .i64 a.n, .slice a.A a.L a.c]] W (TurnsD P w R (s.act a)) := by
  by_cases h5 : a.d % 7 = 5
  · exact Does_turn P T w R s W h a hok h5
  · exact Does_any P w R s W h a hok h5 hlen

/-- How many bytes an act leaves at most. -/
theorem act_len (s : DS) (a : ActD) : (s.act a).1.A.length ≤ s.A.length + a.x.length := by
  unfold DS.act
  split
  · unfold DS.app
    split
    · exact Nat.le_add_right _ _
    · split
      · simp
      · split
        · simp; omega
        · simp
  · split
    · unfold DS.sync; split <;> exact Nat.le_add_right _ _
    · split
      · unfold DS.cut
        split
        · exact Nat.le_add_right _ _
        · split
          · exact Nat.le_add_right _ _
          · simp; omega
      · split
        · unfold DS.fuse; split <;> exact Nat.le_add_right _ _
        · split
          · unfold DS.crash
            split
            · exact Nat.le_add_right _ _
            · simp only
              split
              · rw [List.length_take]; omega
              · exact Nat.le_add_right _ _
          · split
            · unfold DS.turn
              split
              · exact Nat.le_add_right _ _
              · simp
            · exact Nat.le_add_right _ _
end Go.Proofs.YtoplocnkpljofaaDoor
