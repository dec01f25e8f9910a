/- Contracts of varint's reader: NewReader, failed, fail, Byte, Err, Done. -/
import Derived.Test.YtmphgahkeoaplaaW2
import Derived.Deep.RegionHeld3
import Derived.Lib.SliceRun
namespace Go.Proofs.Ytmphgahkeoaplaa
open Go.RowKit

/-- The address A bears the bytes bs, in a block of bytes. -/
def Data (w : World) (A : Option Addr) (bs : List UInt8) : Prop :=
  bs ≠ [] → ∃ b o cur, A = some ⟨b, o, none⟩ ∧ w.heap[b]? = some (.cells cur 5 (0, 0)) ∧ ∀ i (h : i < bs.length), cur[o + i]? = some (enc bs[i])

theorem Data.nil (w : World) (A : Option Addr) : Data w A [] := fun h => absurd rfl h
theorem Data.has {w : World} {A : Option Addr} {bs : List UInt8} (h : Data w A bs) : HasA w w.heap.size A bs := fun hn => by
  obtain ⟨b, o, cur, hA, hb, hc⟩ := h hn
  exact ⟨b, o, hA, (Array.getElem?_eq_some_iff.1 hb).1, fun i hi => (cell_of_row w b (o + i) cur 5 (0, 0) hb).trans (hc i hi)⟩
theorem Data.kept {w w' : World} {A : Option Addr} {bs : List UInt8} (h : Data w A bs) (hk : ∀ (b : Nat) (cur : Array Value), w.heap[b]? = some (.cells cur 5 (0, 0)) → w'.heap[b]? = some (.cells cur 5 (0, 0))) : Data w' A bs := fun hn => by
  obtain ⟨b, o, cur, hA, hb, hc⟩ := h hn
  exact ⟨b, o, cur, hA, hk b cur hb, hc⟩
theorem Data.cut {w : World} {b o : Nat} {bs : List UInt8} (k : Nat) (h : Data w (some ⟨b, o, none⟩) bs) : Data w (some ⟨b, o + k, none⟩) (bs.drop k) := fun hn => by
  have hne : bs ≠ [] := by rintro rfl; simp at hn
  obtain ⟨b', o', cur, hA, hb, hc⟩ := h hne
  cases hA
  refine ⟨b, o + k, cur, rfl, hb, fun i hi => ?_⟩
  have hi' : k + i < bs.length := by simp at hi; omega
  rw [Nat.add_assoc, hc (k + i) hi']; simp
theorem Data.of_own {w : World} {base n c : Nat} {A : Option Addr} {bs : List UInt8} (h : w.ownsRow base 5 1 (.slice A n c) n (bs.map enc)) : Data w A bs := fun hn => by
  have hl := own_len h
  rcases h.2 with ⟨_, h0⟩ | ⟨g, cap, cur, hv, _, hg, _, _, _, ht⟩
  · exact absurd (List.eq_nil_of_length_eq_zero (by omega)) hn
  · cases hv
    refine ⟨g, 0, cur, rfl, hg, fun i hi => ?_⟩
    have : (cur.toList.take (n * 1))[i]? = some (enc bs[i]) := by rw [ht]; simp [hi]
    rw [List.getElem?_take_of_lt (by omega)] at this
    simpa using this

/-- Block R is a reader: its error, its limit, the bytes from its position on. -/
def Rd (w : World) (R : Nat) (e lim : Int) (bs : List UInt8) : Prop :=
  ∃ A L c, w.heap[R]? = some (.cells #[.int .i64 e, .slice A L c, .int .i64 lim] 49 (0, 0)) ∧ L = bs.length ∧ L ≤ c ∧ L ≤ 140737488355328 ∧ Data w A bs

theorem blk_cell {w : World} {R : Nat} {cs : Array Value} {t : TypeId} (h : w.heap[R]? = some (.cells cs t (0, 0))) (i : Nat) : w.cell? ⟨R, i, none⟩ = cs[i]? := cell_of_row w R i cs t (0, 0) h
theorem blk_frozen {w : World} {R : Nat} {cs : Array Value} {t : TypeId} (h : w.heap[R]? = some (.cells cs t (0, 0))) (i : Nat) : w.frozen? ⟨R, i, none⟩ = false := by simp [World.frozen?, h]
theorem blk_set {w : World} {R : Nat} {cs : Array Value} {t : TypeId} (h : w.heap[R]? = some (.cells cs t (0, 0))) (i : Nat) (u : Value) : (w.setCell ⟨R, i, none⟩ u).heap[R]? = some (.cells (cs.setIfInBounds i u) t (0, 0)) := by
  simp [World.setCell, Array.getElem?_modify, h]
theorem grownBy_set (w : World) (R i : Nat) (u : Value) : w.grownBy (w.setCell ⟨R, i, none⟩ u) (some R) :=
  ⟨rfl, rfl, rfl, by simp [World.setCell], fun k _ hk => Below.heap_setCell _ _ _ _ (fun e => hk (by rw [e]))⟩

/-- The world w' is w but for the reader R and new blocks. -/
theorem Data.grown {w w' : World} {A : Option Addr} {bs : List UInt8} {R : Nat} {cs : Array Value} (h : Data w A bs) (hR : w.heap[R]? = some (.cells cs 49 (0, 0))) (hg : w.grownBy w' (some R)) : Data w' A bs :=
  h.kept fun b cur hb => (hg.block b (Array.getElem?_eq_some_iff.1 hb).1 (fun e => by cases e; rw [hR] at hb; cases hb)).trans hb
theorem Rd.lt {w : World} {R : Nat} {e lim : Int} {bs : List UInt8} (h : Rd w R e lim bs) : R < w.heap.size := by
  obtain ⟨A, L, c, h, _⟩ := h; exact (Array.getElem?_eq_some_iff.1 h).1
theorem Rd.below {w w' : World} {R : Nat} {e lim : Int} {bs : List UInt8} (h : Rd w R e lim bs) (hb : Below w.heap.size w w') : Rd w' R e lim bs := by
  have hR := h.lt
  obtain ⟨A, L, c, hh, hL, hc, hm, hd⟩ := h
  exact ⟨A, L, c, (hb.block R hR).trans hh, hL, hc, hm, hd.kept fun b cur h => (hb.block b (Array.getElem?_eq_some_iff.1 h).1).trans h⟩
theorem Rd.other {w w' : World} {R R' : Nat} {e lim e' lim' : Int} {bs bs' : List UInt8} (h : Rd w R e lim bs) (h' : Rd w R' e' lim' bs') (hne : R ≠ R') (hg : w.grownBy w' (some R')) : Rd w' R e lim bs := by
  obtain ⟨A, L, c, hh, hL, hc, hm, hd⟩ := h
  obtain ⟨A', L', c', hh', _⟩ := h'
  exact ⟨A, L, c, (hg.block R (Array.getElem?_eq_some_iff.1 hh).1 (fun e => by cases e; exact hne rfl)).trans hh, hL, hc, hm, hd.grown hh' hg⟩
theorem Rd.fail {w : World} {R : Nat} {e lim : Int} {bs : List UInt8} (h : Rd w R e lim bs) (x : Int) : Rd (w.setCell ⟨R, 0, none⟩ (.int .i64 x)) R x lim bs := by
  obtain ⟨A, L, c, hh, hL, hc, hm, hd⟩ := h
  exact ⟨A, L, c, by rw [blk_set hh]; rfl, hL, hc, hm, hd.grown hh (grownBy_set _ _ _ _)⟩
theorem grownBy_trans {a b c : World} {r : Option Nat} (h : a.grownBy b r) (k : b.grownBy c r) : a.grownBy c r :=
  ⟨k.os.trans h.os, k.tape.trans h.tape, k.output.trans h.output, Nat.le_trans h.size k.size, fun i hi hn => (k.block i (Nat.lt_of_lt_of_le hi h.size) hn).trans (h.block i hi hn)⟩
theorem grownBy_of_below {a b : World} {r : Option Nat} (h : Below a.heap.size a b) : a.grownBy b r := ⟨h.os, h.tape, h.output, h.size, fun k hk _ => h.block k hk⟩
theorem grownBy_refl (a : World) (r : Option Nat) : a.grownBy a r := ⟨rfl, rfl, rfl, Nat.le_refl _, fun _ _ _ => rfl⟩

theorem failed_any (R : Nat) (e : Int) (w : World) (hc : w.cell? ⟨R, 0, none⟩ = some (.int .i64 e)) :
    Calls Try.prog 23 #[.pointer (some ⟨R, 0, none⟩)] w fun x w' => x = .returned (.bool (e != 0)) ∧ w = w' := by
  go_enter Try.func23, Try.ntmps23
  go_wp2
  go_ret
  exact ⟨rfl, rfl⟩

theorem fail_ok (R : Nat) (x : Int) (w : World) (hc : w.cell? ⟨R, 0, none⟩ = some (.int .i64 0)) (hf : w.frozen? ⟨R, 0, none⟩ = false) :
    Calls Try.prog 24 #[.pointer (some ⟨R, 0, none⟩), .int .i64 x] w fun y w' => (∃ v, y = .returned v) ∧ w' = w.setCell ⟨R, 0, none⟩ (.int .i64 x) := by
  go_enter Try.func24, Try.ntmps24
  go_wp2
  go_end0
  exact ⟨⟨_, rfl⟩, rfl⟩

theorem fail_not (R : Nat) (e x : Int) (he : (e == 0) = false) (w : World) (hc : w.cell? ⟨R, 0, none⟩ = some (.int .i64 e)) :
    Calls Try.prog 24 #[.pointer (some ⟨R, 0, none⟩), .int .i64 x] w fun y w' => (∃ v, y = .returned v) ∧ w = w' := by
  go_enter Try.func24, Try.ntmps24
  go_wp2
  go_end0
  exact ⟨⟨_, rfl⟩, rfl⟩

theorem Err_any (R : Nat) (e lim : Int) (bs : List UInt8) (w : World) (h : Rd w R e lim bs) :
    Calls Try.prog 19 #[.pointer (some ⟨R, 0, none⟩)] w fun x w' => x = .returned (.int .i64 e) ∧ w = w' := by
  obtain ⟨A, L, c, hh, -⟩ := h
  have h0 := blk_cell hh 0
  simp at h0
  have HH := Lib.hid hh
  clear hh
  go_enter Try.func19, Try.ntmps19
  go_wp2
  go_ret
  exact ⟨rfl, rfl⟩

theorem Byte_err (R : Nat) (e lim : Int) (he : (e != 0) = true) (bs : List UInt8) (w : World) (h : Rd w R e lim bs) :
    Calls Try.prog 14 #[.pointer (some ⟨R, 0, none⟩)] w fun x w' => x = .returned (.int .u8 0) ∧ w = w' := by
  obtain ⟨A, L, c, hh, -⟩ := h
  have h0 := blk_cell hh 0
  simp at h0
  have HH := Lib.hid hh
  clear hh
  go_enter Try.func14, Try.ntmps14
  go_wp2_with (go_at_call 23; refine (failed_any R e _ h0).mono ?_; rintro e w' ⟨rfl, rfl⟩)
  go_ret
  exact ⟨rfl, rfl⟩

theorem Byte_end (R : Nat) (lim : Int) (w : World) (h : Rd w R 0 lim []) :
    Calls Try.prog 14 #[.pointer (some ⟨R, 0, none⟩)] w fun x w' => x = .returned (.int .u8 0) ∧ w' = w.setCell ⟨R, 0, none⟩ (.int .i64 10) := by
  obtain ⟨A, L, c, hh, rfl, -⟩ := h
  have h0 := blk_cell hh 0
  have h1 := blk_cell hh 1
  have hf := blk_frozen hh 0
  simp at h0 h1
  have HH := Lib.hid hh
  clear hh
  go_enter Try.func14, Try.ntmps14
  go_wp2_with (first | (go_at_call 23; refine (failed_any R 0 _ h0).mono ?_; rintro e w' ⟨rfl, rfl⟩) | (go_at_call 24; refine (fail_ok R 10 _ h0 hf).mono ?_; rintro e w' ⟨⟨v, rfl⟩, rfl⟩))
  go_ret
  exact ⟨rfl, rfl⟩

theorem Byte_one (R : Nat) (lim : Int) (b : UInt8) (bs : List UInt8) (w : World) (h : Rd w R 0 lim (b :: bs)) :
    Calls Try.prog 14 #[.pointer (some ⟨R, 0, none⟩)] w fun x w' => x = .returned (.int .u8 (b.toNat : Int)) ∧ Rd w' R 0 lim bs ∧ w.grownBy w' (some R) := by
  obtain ⟨A, L, c, hh, hL, hc, hm, hd⟩ := h
  obtain ⟨bb, o, cur, rfl, hb, hcur⟩ := id hd (by simp)
  have h0 := blk_cell hh 0
  have h1 := blk_cell hh 1
  have hf := blk_frozen hh 1
  have hx : w.cell? ⟨bb, o, none⟩ = some (.int .u8 (b.toNat : Int)) := by
    rw [blk_cell hb]
    exact hcur 0 (by simp)
  simp at h0 h1
  have hL1 : 1 ≤ L := by rw [hL]; simp
  have HL := Lib.hid hL
  have HH := Lib.hid hh
  have HB := Lib.hid hb
  clear hh hb hL
  have hLi : (1 : Int) ≤ L := by omega
  have hci : (L : Int) ≤ c := by omega
  have hLm : (L : Int) ≤ 140737488355328 := by omega
  have hz : ((L : Int) == 0) = false := by simp; omega
  by_cases hc1 : c = 1
  · subst hc1
    go_enter Try.func14, Try.ntmps14
    go_wp2_with (first | (go_at_call 23; refine (failed_any R 0 _ h0).mono ?_; rintro e w' ⟨rfl, rfl⟩))
    go_ret
    have hbs : bs = [] := List.eq_nil_of_length_eq_zero (by have := HL.out; simp at this; omega)
    subst hbs
    refine ⟨rfl, ⟨_, 0, 0, by rw [blk_set HH.out]; rfl, rfl, Nat.le_refl _, by omega, Data.nil _ _⟩, grownBy_set _ _ _ _⟩
  · go_enter Try.func14, Try.ntmps14
    go_wp2_with (first | (go_at_call 23; refine (failed_any R 0 _ h0).mono ?_; rintro e w' ⟨rfl, rfl⟩))
    go_ret
    have hg := grownBy_set w R 1 (Value.slice (some ⟨bb, o + 1, none⟩) (L - 1) (c - 1))
    refine ⟨rfl, ⟨_, L - 1, c - 1, by rw [blk_set HH.out]; rfl, by rw [HL.out]; rfl, by omega, by omega, ?_⟩, hg⟩
    exact (hd.cut 1).grown HH.out hg

theorem Done_err (R : Nat) (e lim : Int) (he : (e == 0) = false) (bs : List UInt8) (w : World) (h : Rd w R e lim bs) :
    Calls Try.prog 18 #[.pointer (some ⟨R, 0, none⟩)] w fun x w' => x = .returned (.int .i64 e) ∧ w = w' := by
  obtain ⟨A, L, c, hh, -⟩ := h
  have h0 := blk_cell hh 0
  have h1 := blk_cell hh 1
  simp at h0 h1
  have HH := Lib.hid hh
  clear hh
  by_cases hL : L = 0
  · subst hL
    go_enter Try.func18, Try.ntmps18
    go_wp2
    go_ret
    exact ⟨rfl, rfl⟩
  · have hLi : (0 : Int) < L := by omega
    have hLn : 0 < L := by omega
    go_enter Try.func18, Try.ntmps18
    go_wp2_with (go_at_call 24; refine (fail_not R e 11 he _ h0).mono ?_; rintro y w' ⟨⟨v, rfl⟩, rfl⟩)
    go_ret
    exact ⟨rfl, rfl⟩

theorem Done_ok (R : Nat) (lim : Int) (w : World) (h : Rd w R 0 lim []) :
    Calls Try.prog 18 #[.pointer (some ⟨R, 0, none⟩)] w fun x w' => x = .returned (.int .i64 0) ∧ w = w' := by
  obtain ⟨A, L, c, hh, rfl, -⟩ := h
  have h0 := blk_cell hh 0
  have h1 := blk_cell hh 1
  simp at h0 h1
  have HH := Lib.hid hh
  clear hh
  go_enter Try.func18, Try.ntmps18
  go_wp2
  go_ret
  exact ⟨rfl, rfl⟩

theorem Done_left (R : Nat) (lim : Int) (b : UInt8) (bs : List UInt8) (w : World) (h : Rd w R 0 lim (b :: bs)) :
    Calls Try.prog 18 #[.pointer (some ⟨R, 0, none⟩)] w fun x w' => x = .returned (.int .i64 11) ∧ w' = w.setCell ⟨R, 0, none⟩ (.int .i64 11) := by
  obtain ⟨A, L, c, hh, hL, -⟩ := h
  have h0 := blk_cell hh 0
  have h1 := blk_cell hh 1
  have hf := blk_frozen hh 0
  simp at h0 h1
  have HH := Lib.hid hh
  have hLn : 0 < L := by rw [hL]; simp
  clear hh hL
  have hLi : (0 : Int) < L := by omega
  go_enter Try.func18, Try.ntmps18
  go_wp2_with (go_at_call 24; refine (fail_ok R 11 _ h0 hf).mono ?_; rintro y w' ⟨⟨v, rfl⟩, rfl⟩)
  go_ret
  exact ⟨rfl, rfl⟩

/-- slices.Clone. -/
theorem Clone_any (A : Option Addr) (L c : Nat) (bs : List UInt8) (hL : L = bs.length) (hlen : bs.length ≤ 1000000) (w : World) (hA : HasA w w.heap.size A bs) :
    Calls Try.prog 22 #[.slice A L c] w fun x w' => (∃ A' c', x = .returned (.slice A' L c') ∧ L ≤ c' ∧ Data w' A' bs) ∧ Below w.heap.size w w' := by
  obtain ⟨i0, hi, hz0, hz1, hz2⟩ := info_parts info5
  have HL := Lib.hid hL
  have hLn : L ≤ 1000000 := by omega
  clear hL
  cases A with
  | none =>
    have hbs : bs = [] := Classical.byContradiction fun hn => by obtain ⟨_, _, h, _⟩ := hA hn; cases h
    have h0 : L = 0 := by rw [HL.out, hbs]; rfl
    subst h0
    have hq : ∀ W, (binOp .eql 22 (.slice none 0 c) (.slice none 0 0)).run Try.prog W = .ok (.bool true) W := fun W => Lib.run_eql_slice_nil W _ _ none 0 c 0 0 Try.underlying22
    go_enter Try.func22, Try.ntmps22
    go_wp2
    go_ret
    exact ⟨⟨none, 0, rfl, Nat.le_refl _, by rw [hbs]; exact Data.nil _ _⟩, Below.refl _ _⟩
  | some a =>
    have ho : (w.alloc (.cells #[] 5)).ownsRow w.heap.size 5 1 (.slice (some ⟨w.heap.size, 0, none⟩) 0 0) 0 (([] : List UInt8).map enc) :=
      ⟨by simp, .inr ⟨w.heap.size, 0, #[], rfl, Nat.le_refl _, heap_alloc_new w _, Nat.le_refl _, Nat.zero_le _, rfl, rfl⟩⟩
    have HO := Lib.hid ho
    have HAA := Lib.hid (hA.alloc (Nat.le_refl _) (.cells #[] 5))
    clear ho hA
    have hq : ∀ W, (binOp .eql 22 (.slice (some a) L c) (.slice none 0 0)).run Try.prog W = .ok (.bool false) W := fun W => Lib.run_eql_slice_nil W _ _ (some a) L c 0 0 Try.underlying22
    go_enter Try.func22, Try.ntmps22
    go_wp2_with (at_builtin; refine wpList_append_has rfl (.tmp 5) (.tmp 6) 22 rfl w.heap.size 5 i0 Try.underlying22 hi hz0 hz1 hz2 _ 0 _ rfl HO.out _ _ L c bs rfl HL.out HAA.out (by omega) (by simp) ?_; intro v' W2 hown2 hg2)
    have hB : Below w.heap.size w W2 := ((Below.refl _ _).alloc (Nat.le_refl _) _).grown hg2 (by simp) (fun k e => by cases e; exact Nat.le_refl _)
    rw [Nat.zero_add, List.nil_append] at hown2
    have hform : ∃ A' c', v' = .slice A' L c' ∧ L ≤ c' := by
      rcases hown2.2 with ⟨rfl, h0⟩ | ⟨g, cap, cur, rfl, _, _, hc, _⟩
      · exact ⟨none, 0, by rw [h0], by omega⟩
      · exact ⟨_, _, rfl, hc⟩
    obtain ⟨A', c', rfl, hc'⟩ := hform
    go_ret
    exact ⟨⟨A', c', rfl, hc', Data.of_own hown2⟩, hB⟩

/-- NewReader. -/
theorem New_any (A : Option Addr) (L c : Nat) (lim : Int) (bs : List UInt8) (hL : L = bs.length) (hlen : bs.length ≤ 1000000) (w : World) (hA : HasA w w.heap.size A bs) :
    Calls Try.prog 13 #[.slice A L c, .int .i64 lim] w fun x w' => ∃ R, x = .returned (.pointer (some ⟨R, 0, none⟩)) ∧ Rd w' R 0 lim bs ∧ w.heap.size ≤ R ∧ Below w.heap.size w w' := by
  have HL := Lib.hid hL
  have hLn : L ≤ 1000000 := by omega
  clear hL
  go_enter Try.func13, Try.ntmps13
  go_wp2_with fail
  refine (Clone_any A L c bs HL.out hlen w hA).mono ?_
  rintro e W1 ⟨⟨A', c', rfl, hc', hd⟩, hB⟩
  have HD := Lib.hid hd
  clear hd
  go_wp2
  go_ret
  refine ⟨W1.heap.size, rfl, ⟨A', L, c', World.alloc_heap_new W1 _, HL.out, hc', by omega, HD.out.kept fun b cur h => (Below.heap_alloc _ _ _ (Array.getElem?_eq_some_iff.1 h).1).trans h⟩, hB.size, hB.alloc hB.size _⟩
end Go.Proofs.Ytmphgahkeoaplaa
