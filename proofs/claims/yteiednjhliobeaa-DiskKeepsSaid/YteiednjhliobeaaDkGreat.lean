/- The walks of Great and wakes, and of one act. -/
import Derived.Test.YteiednjhliobeaaDkSpec
import Derived.Deep.DeepCutAuto
namespace Go.Proofs.Yteiednjhliobeaa
open Go.RowKit

/-- An act as it lies: what to do, a number, the bytes. -/
structure ActD where
  d : Nat
  n : Int
  A : Option Addr
  L : Nat
  c : Nat
  x : List UInt8
def ActD.ok (w : World) (a : ActD) : Prop := a.d < 256 ∧ InI5 a.n ∧ a.L = a.x.length ∧ a.L ≤ 140737488351232 ∧ HasA w w.heap.size a.A a.x ∧ a.L ≤ a.c
/-- Acts that lie in a row. -/
def InActsD (w : World) (A : Option Addr) (l : List ActD) : Prop := l ≠ [] → ∃ b o, A = some ⟨b, o, none⟩ ∧ b < w.heap.size ∧ ∀ j (h : j < l.length), w.cell? ⟨b, o + j * 3, none⟩ = some (.int .u8 (l[j].d : Int)) ∧ w.cell? ⟨b, o + j * 3 + 1, none⟩ = some (.int .i64 l[j].n) ∧ w.cell? ⟨b, o + j * 3 + 2, none⟩ = some (.slice l[j].A l[j].L l[j].c) ∧ l[j].ok w
/-- How many bytes the first k acts have. -/
def sumTo (l : List ActD) (k : Nat) : Nat := ((l.take k).map (·.L)).sum
theorem sumTo_succ (l : List ActD) (k : Nat) (h : k < l.length) : sumTo l (k + 1) = sumTo l k + l[k].L := by
  unfold sumTo
  rw [List.take_succ_eq_append_getElem h, List.map_append, List.sum_append]
  simp only [List.map_cons, List.map_nil, List.sum_cons, List.sum_nil, Nat.add_zero]
theorem sumTo_le (l : List ActD) : ∀ k, k ≤ l.length → sumTo l k ≤ sumTo l l.length
  | k, h => by
    obtain ⟨d, hd⟩ : ∃ d, l.length = k + d := ⟨l.length - k, by omega⟩
    have : ∀ d, k + d ≤ l.length → sumTo l k ≤ sumTo l (k + d) := by
      intro d
      induction d with
      | zero => intro _; exact Nat.le_refl _
      | succ d ih => intro hd; rw [← Nat.add_assoc, sumTo_succ l (k + d) (by omega)]; exact Nat.le_trans (ih (by omega)) (Nat.le_add_right _ _)
    rw [hd]; exact this d (by omega)
def great (l : List ActD) : Bool := decide (200 < l.length) || decide (10000 < sumTo l l.length)

set_option maxHeartbeats 2000000 in
theorem Great_any (A : Option Addr) (L c : Nat) (l : List ActD) (hL : L = l.length) (hLm : L ≤ 140737488351232) (w : World) (hA : InActsD w A l) :
    Calls Try.prog 4 #[.slice A L c] w fun e w' => e = .returned (.bool (great l)) ∧ w = w' := by
  have HL := Lib.hid hL
  by_cases hbig : 200 < L
  · have hbi : (200 : Int) < L := by omega
    have HG := Lib.hid (show great l = true by simp [great, ← hL, hbig])
    clear hL hbig
    go_enter Try.func4, Try.ntmps4
    go_wp2
    go_ret
    exact ⟨by rw [HG.out]; rfl, rfl⟩
  · have hbi : ¬ (200 : Int) < L := by omega
    have hLi : (L : Int) ≤ 200 := by omega
    have HA := Lib.hid hA
    have HB := Lib.hid hbig
    clear hL hA hbig
    go_enter Try.func4, Try.ntmps4
    go_wp2
    go_loopw [3, 4] (fun v i wr => ∃ k : Nat, k ≤ L ∧ i = .int .i64 (k : Int) ∧ Hid (sumTo l k ≤ 10000 ∧ w = wr) ∧ v = .int .i64 ((10000 - sumTo l k : Nat) : Int)) (fun _ i _ => L - (intOf i).toNat)
    case atStart => exact ⟨0, Nat.zero_le _, rfl, Lib.hid ⟨by simp [sumTo], rfl⟩, by simp [sumTo]⟩
    case round =>
      obtain ⟨k, hk, rfl, hsw, rfl⟩ := hrel
      obtain ⟨hs, rfl⟩ := hsw.out
      by_cases hlt : k < L
      · have hki : (k : Int) < L := by omega
        have hkl : k < l.length := by rw [← HL.out]; exact hlt
        obtain ⟨lb, lo, e, hlb, hc⟩ := HA.out (by rintro rfl; simp at hkl)
        subst e
        obtain ⟨f0, f1, f2, hok⟩ := hc k hkl
        obtain ⟨m, hm⟩ : ∃ m, m = l[k].L := ⟨_, rfl⟩
        have hm47 : m ≤ 140737488351232 := by rw [hm]; exact hok.2.2.2.1
        rw [← hm] at f2
        have hsucc := sumTo_succ l k hkl
        rw [← hm] at hsucc
        obtain ⟨r, hr⟩ : ∃ r, r = 10000 - sumTo l k := ⟨_, rfl⟩
        rw [← hr]
        by_cases hgt : r < m
        · have hgi : (r : Int) < m := by omega
          have HG := Lib.hid (show great l = true by
            have := sumTo_le l (k + 1) (by omega)
            have : 10000 < sumTo l l.length := by omega
            simp [great, this])
          clear hsucc hr hc hok hm hs hsw
          go_wp2
          go_ret
          exact ⟨by rw [HG.out]; rfl, rfl⟩
        · have hgi : ¬ (r : Int) < m := by omega
          obtain ⟨t, ht⟩ : ∃ t, t = r - m := ⟨_, rfl⟩
          have hrm : (r : Int) - m = (t : Int) := by omega
          have ht1 : (t : Int) ≤ 10000 := by omega
          have HS := Lib.hid (show sumTo l (k + 1) ≤ 10000 ∧ t = 10000 - sumTo l (k + 1) from ⟨by omega, by omega⟩)
          clear ht
          clear hsucc hr hc hok hm hs hsw
          go_wp2
          exact ⟨⟨k + 1, by omega, by congr 1, Lib.hid ⟨HS.out.1, trivial⟩, by rw [← HS.out.2]⟩, by simp only [intOf]; omega⟩
      · obtain rfl : L = k := by omega
        have HG := Lib.hid (show great l = false by
          have h1 : ¬ 10000 < sumTo l l.length := by rw [← HL.out]; omega
          have h2 : ¬ 200 < l.length := by rw [← HL.out]; exact HB.out
          simp [great, h1, h2])
        clear hs hsw
        go_wp2
        go_ret
        exact ⟨by rw [HG.out]; rfl, rfl⟩

/-- What an act comes to. -/
def DS.act (s : DS) (a : ActD) : DS × Nat :=
  if a.d % 7 = 0 then s.app a.x else if a.d % 7 = 1 then s.sync else if a.d % 7 = 2 then s.cut a.n else if a.d % 7 = 3 then s.fuse a.n else if a.d % 7 = 4 then s.crash a.n else if a.d % 7 = 5 then s.turn a.n else s.restart

set_option maxHeartbeats 2000000 in
theorem Does_any (P : DiskK) (w : World) (R : Nat) (s : DS) (W : World) (h : LiveD P w R s W) (a : ActD) (hok : a.ok w) (h5 : a.d % 7 ≠ 5) (hlen : s.A.length + a.x.length ≤ 1000000000) :
    Calls Try.prog 9 #[.pointer (some ⟨R, 0, none⟩), .agg #[.int .u8 (a.d : Int), .int .i64 a.n, .slice a.A a.L a.c]] W (TurnsD P w R (s.act a)) := by
  obtain ⟨hd, hn, hL, hLm, hA, hLc⟩ := hok
  have HN := Lib.hid hn
  have hd256 : (a.d : Int) < 256 := by omega
  have HH := Lib.hid h
  have HLA := Lib.hid (And.intro hL (And.intro hLc hA))
  have HLE := Lib.hid hlen
  obtain ⟨q, hq⟩ : ∃ q, q = a.d % 7 := ⟨_, rfl⟩
  have hqi : (a.d : Int) % 7 = (q : Int) := by omega
  have hq7 : q < 7 := by omega
  have HQ := Lib.hid hq
  have hq5 : q ≠ 5 := by rw [hq]; exact h5
  clear hn h hL hA hlen hq h5 hLc
  go_enter Try.func9, Try.ntmps9
  go_upto_region 1 with (fail)
  have hnew := World.alloc_heap_new W (.cells #[.int .u8 (a.d : Int), .int .i64 a.n, .slice a.A a.L a.c] 29)
  have hl1 := HH.out.grew ((Below.refl _ W).alloc (Nat.le_refl _) (.cells #[.int .u8 (a.d : Int), .int .i64 a.n, .slice a.A a.L a.c] 29))
  obtain ⟨W1, hW1⟩ : ∃ W1, W1 = W.alloc (.cells #[.int .u8 (a.d : Int), .int .i64 a.n, .slice a.A a.L a.c] 29) := ⟨_, rfl⟩
  obtain ⟨B, hB⟩ : ∃ B, B = W.heap.size := ⟨_, rfl⟩
  rw [← hW1] at hnew hl1 ⊢
  rw [← hB] at hnew ⊢
  have c0 := blk_cell hnew 0
  have c1 := blk_cell hnew 1
  have c2 := blk_cell hnew 2
  simp at c0 c1 c2
  have HL1 := Lib.hid hl1
  clear hnew hl1 hW1 hB HH
  have hcs : q = 0 ∨ q = 1 ∨ q = 2 ∨ q = 3 ∨ q = 4 ∨ q = 6 := by omega
  have fin : ∀ (r : DS × Nat) (e : Ending) (W' : World), s.act a = r → TurnsD P w R r e W' → TurnsD P w R (s.act a) e W' := fun r e W' h => h ▸ id
  have HF := Lib.hid fin
  clear fin
  rcases hcs with rfl | rfl | rfl | rfl | rfl | rfl
  · go_wp2_with fail
    refine (LiveD.app a.A a.L a.c a.x HL1.out HLA.out.1 HLA.out.2.1 HLE.out HLA.out.2.2).mono ?_
    rintro e W2 ⟨rfl, h2⟩
    have H2 := Lib.hid h2
    clear h2
    go_wp2
    go_ret
    exact HF.out _ _ _ (by simp [DS.act, ← HQ.out]) ⟨rfl, H2.out⟩
  · go_wp2_with fail
    refine (LiveD.sync HL1.out).mono ?_
    rintro e W2 ⟨rfl, h2⟩
    have H2 := Lib.hid h2
    clear h2
    go_wp2
    go_ret
    exact HF.out _ _ _ (by simp [DS.act, ← HQ.out]) ⟨rfl, H2.out⟩
  · go_wp2_with fail
    refine (LiveD.cut a.n HL1.out HN.out).mono ?_
    rintro e W2 ⟨rfl, h2⟩
    have H2 := Lib.hid h2
    clear h2
    go_wp2
    go_ret
    exact HF.out _ _ _ (by simp [DS.act, ← HQ.out]) ⟨rfl, H2.out⟩
  · go_wp2_with fail
    refine (LiveD.fuse a.n HL1.out HN.out).mono ?_
    rintro e W2 ⟨rfl, h2⟩
    have H2 := Lib.hid h2
    clear h2
    go_wp2
    go_ret
    exact HF.out _ _ _ (by simp [DS.act, ← HQ.out]) ⟨rfl, H2.out⟩
  · go_wp2_with fail
    refine (LiveD.crash a.n HL1.out HN.out).mono ?_
    rintro e W2 ⟨rfl, h2⟩
    have H2 := Lib.hid h2
    clear h2
    go_wp2
    go_ret
    exact HF.out _ _ _ (by simp [DS.act, ← HQ.out]) ⟨rfl, H2.out⟩
  · go_wp2_with fail
    refine (LiveD.restart HL1.out).mono ?_
    rintro e W2 ⟨rfl, h2⟩
    have H2 := Lib.hid h2
    clear h2
    go_wp2
    go_ret
    exact HF.out _ _ _ (by simp [DS.act, ← HQ.out]) ⟨rfl, H2.out⟩
end Go.Proofs.Yteiednjhliobeaa
