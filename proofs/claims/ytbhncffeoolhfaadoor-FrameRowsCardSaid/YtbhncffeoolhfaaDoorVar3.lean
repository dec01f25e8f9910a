/- Contracts of varint's reader: NewReader, failed, fail, Byte, Err, Done. -/
import Derived.Test.YtbhncffeoolhfaaDoorBase
import Derived.Deep.RegionHeld3
import Derived.Lib.SliceRun
namespace Go.Proofs.YtbhncffeoolhfaaDoor
open Go.RowKit
/-- Block R is a reader: its error, its limit, the bytes from its position on. -/
def Rd (w : World) (R : Nat) (e lim : Int) (bs : List UInt8) : Prop :=
  ∃ A L c, w.heap[R]? = some (.cells #[.int .i64 e, .slice A L c, .int .i64 lim] 71 (0, 0)) ∧ L = bs.length ∧ L ≤ c ∧ L ≤ 140737488355328 ∧ Data w A bs

/-- The world w' is w but for the reader R and new blocks. -/
theorem Data.grown {w w' : World} {A : Option Addr} {bs : List UInt8} {R : Nat} {cs : Array Value} (h : Data w A bs) (hR : w.heap[R]? = some (.cells cs 71 (0, 0))) (hg : w.grownBy w' (some R)) : Data w' A bs :=
  h.kept fun b cur hb => (hg.block b (Array.getElem?_eq_some_iff.1 hb).1 (fun e => by cases e; rw [hR] at hb; cases hb)).trans hb
theorem Rd.lt {w : World} {R : Nat} {e lim : Int} {bs : List UInt8} (h : Rd w R e lim bs) : R < w.heap.size := by
  obtain ⟨A, L, c, h, _⟩ := h; exact (Array.getElem?_eq_some_iff.1 h).1
theorem Rd.below {w w' : World} {R : Nat} {e lim : Int} {bs : List UInt8} (h : Rd w R e lim bs) (hb : Below w.heap.size w w') : Rd w' R e lim bs := by
  have hR := h.lt
  obtain ⟨A, L, c, hh, hL, hc, hm, hd⟩ := h
  exact ⟨A, L, c, (hb.block R hR).trans hh, hL, hc, hm, hd.kept fun b cur h => (hb.block b (Array.getElem?_eq_some_iff.1 h).1).trans h⟩
theorem Rd.other {w w' : World} {R R' : Nat} {e lim e' lim' : Int} {bs bs' : List UInt8} (h : Rd w R e lim bs) (h' : Rd w R' e' lim' bs') (hne : R ≠ R') (hg : w.grownBy w' (some R')) : Rd w' R e lim bs := by
  obtain ⟨A, L, c, hh, hL, hc, hm, hd⟩ := h
  obtain ⟨A', L', c', hh', _⟩ := h'
  exact ⟨A, L, c, (hg.block R (Array.getElem?_eq_some_iff.1 hh).1 (fun e => by cases e; exact hne rfl)).trans hh, hL, hc, hm, hd.grown hh' hg⟩
theorem Rd.fail {w : World} {R : Nat} {e lim : Int} {bs : List UInt8} (h : Rd w R e lim bs) (x : Int) : Rd (w.setCell ⟨R, 0, none⟩ (.int .i64 x)) R x lim bs := by
  obtain ⟨A, L, c, hh, hL, hc, hm, hd⟩ := h
  exact ⟨A, L, c, by rw [blk_set hh]; rfl, hL, hc, hm, hd.grown hh (grownBy_set _ _ _ _)⟩
theorem failed_any (R : Nat) (e : Int) (w : World) (hc : w.cell? ⟨R, 0, none⟩ = some (.int .i64 e)) :
    Calls Tryd.prog 36 #[.pointer (some ⟨R, 0, none⟩)] w fun x w' => x = .returned (.bool (e != 0)) ∧ w = w' := by
  go_enter Tryd.func36, Tryd.ntmps36
  go_wp2
  go_ret
  exact ⟨rfl, rfl⟩

theorem fail_ok (R : Nat) (x : Int) (w : World) (hc : w.cell? ⟨R, 0, none⟩ = some (.int .i64 0)) (hf : w.frozen? ⟨R, 0, none⟩ = false) :
    Calls Tryd.prog 35 #[.pointer (some ⟨R, 0, none⟩), .int .i64 x] w fun y w' => (∃ v, y = .returned v) ∧ w' = w.setCell ⟨R, 0, none⟩ (.int .i64 x) := by
  go_enter Tryd.func35, Tryd.ntmps35
  go_wp2
  go_end0
  exact ⟨⟨_, rfl⟩, rfl⟩

theorem fail_not (R : Nat) (e x : Int) (he : (e == 0) = false) (w : World) (hc : w.cell? ⟨R, 0, none⟩ = some (.int .i64 e)) :
    Calls Tryd.prog 35 #[.pointer (some ⟨R, 0, none⟩), .int .i64 x] w fun y w' => (∃ v, y = .returned v) ∧ w = w' := by
  go_enter Tryd.func35, Tryd.ntmps35
  go_wp2
  go_end0
  exact ⟨⟨_, rfl⟩, rfl⟩

theorem Err_any (R : Nat) (e lim : Int) (bs : List UInt8) (w : World) (h : Rd w R e lim bs) :
    Calls Tryd.prog 32 #[.pointer (some ⟨R, 0, none⟩)] w fun x w' => x = .returned (.int .i64 e) ∧ w = w' := by
  obtain ⟨A, L, c, hh, -⟩ := h
  have h0 := blk_cell hh 0
  simp at h0
  have HH := Lib.hid hh
  clear hh
  go_enter Tryd.func32, Tryd.ntmps32
  go_wp2
  go_ret
  exact ⟨rfl, rfl⟩

theorem Byte_err (R : Nat) (e lim : Int) (he : (e != 0) = true) (bs : List UInt8) (w : World) (h : Rd w R e lim bs) :
    Calls Tryd.prog 37 #[.pointer (some ⟨R, 0, none⟩)] w fun x w' => x = .returned (.int .u8 0) ∧ w = w' := by
  obtain ⟨A, L, c, hh, -⟩ := h
  have h0 := blk_cell hh 0
  simp at h0
  have HH := Lib.hid hh
  clear hh
  go_enter Tryd.func37, Tryd.ntmps37
  go_wp2_with (go_at_call 36; refine (failed_any R e _ h0).mono ?_; rintro e w' ⟨rfl, rfl⟩)
  go_ret
  exact ⟨rfl, rfl⟩

theorem Byte_end (R : Nat) (lim : Int) (w : World) (h : Rd w R 0 lim []) :
    Calls Tryd.prog 37 #[.pointer (some ⟨R, 0, none⟩)] w fun x w' => x = .returned (.int .u8 0) ∧ w' = w.setCell ⟨R, 0, none⟩ (.int .i64 10) := by
  obtain ⟨A, L, c, hh, rfl, -⟩ := h
  have h0 := blk_cell hh 0
  have h1 := blk_cell hh 1
  have hf := blk_frozen hh 0
  simp at h0 h1
  have HH := Lib.hid hh
  clear hh
  go_enter Tryd.func37, Tryd.ntmps37
  go_wp2_with (first | (go_at_call 36; refine (failed_any R 0 _ h0).mono ?_; rintro e w' ⟨rfl, rfl⟩) | (go_at_call 35; refine (fail_ok R 10 _ h0 hf).mono ?_; rintro e w' ⟨⟨v, rfl⟩, rfl⟩))
  go_ret
  exact ⟨rfl, rfl⟩

theorem Byte_one (R : Nat) (lim : Int) (b : UInt8) (bs : List UInt8) (w : World) (h : Rd w R 0 lim (b :: bs)) :
    Calls Tryd.prog 37 #[.pointer (some ⟨R, 0, none⟩)] w fun x w' => x = .returned (.int .u8 (b.toNat : Int)) ∧ Rd w' R 0 lim bs ∧ w.grownBy w' (some R) := by
  obtain ⟨A, L, c, hh, hL, hc, hm, hd⟩ := h
  obtain ⟨bb, o, cur, rfl, hb, hcur⟩ := id hd (by simp)
  have h0 := blk_cell hh 0
  have h1 := blk_cell hh 1
  have hf := blk_frozen hh 1
  have hx : w.cell? ⟨bb, o, none⟩ = some (.int .u8 (b.toNat : Int)) := by
    rw [blk_cell hb]
    exact hcur 0 (by simp)
  simp at h0 h1
  have hL1 : 1 ≤ L := by rw [hL]; simp
  have HL := Lib.hid hL
  have HH := Lib.hid hh
  have HB := Lib.hid hb
  clear hh hb hL
  have hLi : (1 : Int) ≤ L := by omega
  have hci : (L : Int) ≤ c := by omega
  have hLm : (L : Int) ≤ 140737488355328 := by omega
  have hz : ((L : Int) == 0) = false := by simp; omega
  by_cases hc1 : c = 1
  · subst hc1
    go_enter Tryd.func37, Tryd.ntmps37
    go_wp2_with (first | (go_at_call 36; refine (failed_any R 0 _ h0).mono ?_; rintro e w' ⟨rfl, rfl⟩))
    go_ret
    have hbs : bs = [] := List.eq_nil_of_length_eq_zero (by have := HL.out; simp at this; omega)
    subst hbs
    refine ⟨rfl, ⟨_, 0, 0, by rw [blk_set HH.out]; rfl, rfl, Nat.le_refl _, by omega, Data.nil _ _⟩, grownBy_set _ _ _ _⟩
  · go_enter Tryd.func37, Tryd.ntmps37
    go_wp2_with (first | (go_at_call 36; refine (failed_any R 0 _ h0).mono ?_; rintro e w' ⟨rfl, rfl⟩))
    go_ret
    have hg := grownBy_set w R 1 (Value.slice (some ⟨bb, o + 1, none⟩) (L - 1) (c - 1))
    refine ⟨rfl, ⟨_, L - 1, c - 1, by rw [blk_set HH.out]; rfl, by rw [HL.out]; rfl, by omega, by omega, ?_⟩, hg⟩
    exact (hd.cut 1).grown HH.out hg

/-- slices.Clone. -/
theorem Clone_any (A : Option Addr) (L c : Nat) (bs : List UInt8) (hL : L = bs.length) (hlen : bs.length ≤ 1000000) (w : World) (hA : HasA w w.heap.size A bs) :
    Calls Tryd.prog 13 #[.slice A L c] w fun x w' => (∃ A' c', x = .returned (.slice A' L c') ∧ L ≤ c' ∧ Data w' A' bs) ∧ Below w.heap.size w w' := by
  obtain ⟨i0, hi, hz0, hz1, hz2⟩ := info_parts info5
  have HL := Lib.hid hL
  have hLn : L ≤ 1000000 := by omega
  clear hL
  cases A with
  | none =>
    have hbs : bs = [] := Classical.byContradiction fun hn => by obtain ⟨_, _, h, _⟩ := hA hn; cases h
    have h0 : L = 0 := by rw [HL.out, hbs]; rfl
    subst h0
    have hq : ∀ W, (binOp .eql 22 (.slice none 0 c) (.slice none 0 0)).run Tryd.prog W = .ok (.bool true) W := fun W => Lib.run_eql_slice_nil W _ _ none 0 c 0 0 Tryd.underlying22
    go_enter Tryd.func13, Tryd.ntmps13
    go_wp2
    go_ret
    exact ⟨⟨none, 0, rfl, Nat.le_refl _, by rw [hbs]; exact Data.nil _ _⟩, Below.refl _ _⟩
  | some a =>
    have ho : (w.alloc (.cells #[] 5)).ownsRow w.heap.size 5 1 (.slice (some ⟨w.heap.size, 0, none⟩) 0 0) 0 (([] : List UInt8).map enc) :=
      ⟨by simp, .inr ⟨w.heap.size, 0, #[], rfl, Nat.le_refl _, heap_alloc_new w _, Nat.le_refl _, Nat.zero_le _, rfl, rfl⟩⟩
    have HO := Lib.hid ho
    have HAA := Lib.hid (hA.alloc (Nat.le_refl _) (.cells #[] 5))
    clear ho hA
    have hq : ∀ W, (binOp .eql 22 (.slice (some a) L c) (.slice none 0 0)).run Tryd.prog W = .ok (.bool false) W := fun W => Lib.run_eql_slice_nil W _ _ (some a) L c 0 0 Tryd.underlying22
    go_enter Tryd.func13, Tryd.ntmps13
    go_wp2_with (at_builtin; refine wpList_append_has rfl (.tmp 5) (.tmp 6) 22 rfl w.heap.size 5 i0 Tryd.underlying22 hi hz0 hz1 hz2 _ 0 _ rfl HO.out _ _ L c bs rfl HL.out HAA.out (by omega) (by simp) ?_; intro v' W2 hown2 hg2)
    have hB : Below w.heap.size w W2 := ((Below.refl _ _).alloc (Nat.le_refl _) _).grown hg2 (by simp) (fun k e => by cases e; exact Nat.le_refl _)
    rw [Nat.zero_add, List.nil_append] at hown2
    have hform : ∃ A' c', v' = .slice A' L c' ∧ L ≤ c' := by
      rcases hown2.2 with ⟨rfl, h0⟩ | ⟨g, cap, cur, rfl, _, _, hc, _⟩
      · exact ⟨none, 0, by rw [h0], by omega⟩
      · exact ⟨_, _, rfl, hc⟩
    obtain ⟨A', c', rfl, hc'⟩ := hform
    go_ret
    exact ⟨⟨A', c', rfl, hc', Data.of_own hown2⟩, hB⟩

/-- NewReader. -/
theorem New_any (A : Option Addr) (L c : Nat) (lim : Int) (bs : List UInt8) (hL : L = bs.length) (hlen : bs.length ≤ 1000000) (w : World) (hA : HasA w w.heap.size A bs) :
    Calls Tryd.prog 30 #[.slice A L c, .int .i64 lim] w fun x w' => ∃ R, x = .returned (.pointer (some ⟨R, 0, none⟩)) ∧ Rd w' R 0 lim bs ∧ w.heap.size ≤ R ∧ Below w.heap.size w w' := by
  have HL := Lib.hid hL
  have hLn : L ≤ 1000000 := by omega
  clear hL
  go_enter Tryd.func30, Tryd.ntmps30
  go_wp2_with fail
  refine (Clone_any A L c bs HL.out hlen w hA).mono ?_
  rintro e W1 ⟨⟨A', c', rfl, hc', hd⟩, hB⟩
  have HD := Lib.hid hd
  clear hd
  go_wp2
  go_ret
  refine ⟨W1.heap.size, rfl, ⟨A', L, c', World.alloc_heap_new W1 _, HL.out, hc', by omega, HD.out.kept fun b cur h => (Below.heap_alloc _ _ _ (Array.getElem?_eq_some_iff.1 h).1).trans h⟩, hB.size, hB.alloc hB.size _⟩
end Go.Proofs.YtbhncffeoolhfaaDoor