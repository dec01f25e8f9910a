/- Contracts of varint.form, form$1 and Uint. Contracts of varint's reader: NewReader, failed, fail, Byte, Err, Done. Contracts of varint's Reader.number and Reader.Uint. Contracts of varint's Reader.Uint, Int and Text. Contracts of varint's Reader.Uint (by outcome), Int and Text. -/
import Derived.Test.YtdiihaeelcbjbaaGreatDoorVarU
-- Var3
namespace Go.Proofs.YtdiihaeelcbjbaaGreatDoor
open Go.RowKit
/-- Block R is a reader: its error, its limit, the bytes from its position on. -/
def Rd (w : World) (R : Nat) (e lim : Int) (bs : List UInt8) : Prop :=
  ∃ A L c, w.heap[R]? = some (.cells #[.int .i64 e, .slice A L c, .int .i64 lim] 146 (0, 0)) ∧ L = bs.length ∧ L ≤ c ∧ L ≤ 140737488355328 ∧ Data w A bs
/-- The world w' is w but for the reader R and new blocks. -/
theorem Data.grown {w w' : World} {A : Option Addr} {bs : List UInt8} {R : Nat} {cs : Array Value} (h : Data w A bs) (hR : w.heap[R]? = some (.cells cs 146 (0, 0))) (hg : w.grownBy w' (some R)) : Data w' A bs :=
  h.kept fun b cur hb => (hg.block b (Array.getElem?_eq_some_iff.1 hb).1 (fun e => by cases e; rw [hR] at hb; cases hb)).trans hb
theorem Rd.lt {w : World} {R : Nat} {e lim : Int} {bs : List UInt8} (h : Rd w R e lim bs) : R < w.heap.size := by
  obtain ⟨A, L, c, h, _⟩ := h; exact (Array.getElem?_eq_some_iff.1 h).1
theorem Rd.below {w w' : World} {R : Nat} {e lim : Int} {bs : List UInt8} (h : Rd w R e lim bs) (hb : Below w.heap.size w w') : Rd w' R e lim bs := by
  have hR := h.lt
  obtain ⟨A, L, c, hh, hL, hc, hm, hd⟩ := h
  exact ⟨A, L, c, (hb.block R hR).trans hh, hL, hc, hm, hd.kept fun b cur h => (hb.block b (Array.getElem?_eq_some_iff.1 h).1).trans h⟩
theorem Rd.other {w w' : World} {R R' : Nat} {e lim e' lim' : Int} {bs bs' : List UInt8} (h : Rd w R e lim bs) (h' : Rd w R' e' lim' bs') (hne : R ≠ R') (hg : w.grownBy w' (some R')) : Rd w' R e lim bs := by
  obtain ⟨A, L, c, hh, hL, hc, hm, hd⟩ := h
  obtain ⟨A', L', c', hh', _⟩ := h'
  exact ⟨A, L, c, (hg.block R (Array.getElem?_eq_some_iff.1 hh).1 (fun e => by cases e; exact hne rfl)).trans hh, hL, hc, hm, hd.grown hh' hg⟩
theorem Rd.fail {w : World} {R : Nat} {e lim : Int} {bs : List UInt8} (h : Rd w R e lim bs) (x : Int) : Rd (w.setCell ⟨R, 0, none⟩ (.int .i64 x)) R x lim bs := by
  obtain ⟨A, L, c, hh, hL, hc, hm, hd⟩ := h
  exact ⟨A, L, c, by rw [blk_set hh]; rfl, hL, hc, hm, hd.grown hh (grownBy_set _ _ _ _)⟩
theorem failed_any (R : Nat) (e : Int) (w : World) (hc : w.cell? ⟨R, 0, none⟩ = some (.int .i64 e)) :
    Calls Tryz.prog 93 #[.pointer (some ⟨R, 0, none⟩)] w fun x w' => x = .returned (.bool (e != 0)) ∧ w = w' := by
  go_enter Tryz.func93, Tryz.ntmps93
  go_wp2
  go_ret
  exact ⟨rfl, rfl⟩
theorem fail_ok (R : Nat) (x : Int) (w : World) (hc : w.cell? ⟨R, 0, none⟩ = some (.int .i64 0)) (hf : w.frozen? ⟨R, 0, none⟩ = false) :
    Calls Tryz.prog 92 #[.pointer (some ⟨R, 0, none⟩), .int .i64 x] w fun y w' => (∃ v, y = .returned v) ∧ w' = w.setCell ⟨R, 0, none⟩ (.int .i64 x) := by
  go_enter Tryz.func92, Tryz.ntmps92
  go_wp2
  go_end0
  exact ⟨⟨_, rfl⟩, rfl⟩
theorem fail_not (R : Nat) (e x : Int) (he : (e == 0) = false) (w : World) (hc : w.cell? ⟨R, 0, none⟩ = some (.int .i64 e)) :
    Calls Tryz.prog 92 #[.pointer (some ⟨R, 0, none⟩), .int .i64 x] w fun y w' => (∃ v, y = .returned v) ∧ w = w' := by
  go_enter Tryz.func92, Tryz.ntmps92
  go_wp2
  go_end0
  exact ⟨⟨_, rfl⟩, rfl⟩
theorem Err_any (R : Nat) (e lim : Int) (bs : List UInt8) (w : World) (h : Rd w R e lim bs) :
    Calls Tryz.prog 94 #[.pointer (some ⟨R, 0, none⟩)] w fun x w' => x = .returned (.int .i64 e) ∧ w = w' := by
  obtain ⟨A, L, c, hh, -⟩ := h
  have h0 := blk_cell hh 0
  simp at h0
  have HH := Lib.hid hh
  clear hh
  go_enter Tryz.func94, Tryz.ntmps94
  go_wp2
  go_ret
  exact ⟨rfl, rfl⟩
theorem Byte_err (R : Nat) (e lim : Int) (he : (e != 0) = true) (bs : List UInt8) (w : World) (h : Rd w R e lim bs) :
    Calls Tryz.prog 119 #[.pointer (some ⟨R, 0, none⟩)] w fun x w' => x = .returned (.int .u8 0) ∧ w = w' := by
  obtain ⟨A, L, c, hh, -⟩ := h
  have h0 := blk_cell hh 0
  simp at h0
  have HH := Lib.hid hh
  clear hh
  go_enter Tryz.func119, Tryz.ntmps119
  go_wp2_with (go_at_call 93; refine (failed_any R e _ h0).mono ?_; rintro e w' ⟨rfl, rfl⟩)
  go_ret
  exact ⟨rfl, rfl⟩
theorem Byte_end (R : Nat) (lim : Int) (w : World) (h : Rd w R 0 lim []) :
    Calls Tryz.prog 119 #[.pointer (some ⟨R, 0, none⟩)] w fun x w' => x = .returned (.int .u8 0) ∧ w' = w.setCell ⟨R, 0, none⟩ (.int .i64 10) := by
  obtain ⟨A, L, c, hh, rfl, -⟩ := h
  have h0 := blk_cell hh 0
  have h1 := blk_cell hh 1
  have hf := blk_frozen hh 0
  simp at h0 h1
  have HH := Lib.hid hh
  clear hh
  go_enter Tryz.func119, Tryz.ntmps119
  go_wp2_with (first | (go_at_call 93; refine (failed_any R 0 _ h0).mono ?_; rintro e w' ⟨rfl, rfl⟩) | (go_at_call 92; refine (fail_ok R 10 _ h0 hf).mono ?_; rintro e w' ⟨⟨v, rfl⟩, rfl⟩))
  go_ret
  exact ⟨rfl, rfl⟩
theorem Byte_one (R : Nat) (lim : Int) (b : UInt8) (bs : List UInt8) (w : World) (h : Rd w R 0 lim (b :: bs)) :
    Calls Tryz.prog 119 #[.pointer (some ⟨R, 0, none⟩)] w fun x w' => x = .returned (.int .u8 (b.toNat : Int)) ∧ Rd w' R 0 lim bs ∧ w.grownBy w' (some R) := by
  obtain ⟨A, L, c, hh, hL, hc, hm, hd⟩ := h
  obtain ⟨bb, o, cur, rfl, hb, hcur⟩ := id hd (by simp)
  have h0 := blk_cell hh 0
  have h1 := blk_cell hh 1
  have hf := blk_frozen hh 1
  have hx : w.cell? ⟨bb, o, none⟩ = some (.int .u8 (b.toNat : Int)) := by
    rw [blk_cell hb]
    exact hcur 0 (by simp)
  simp at h0 h1
  have hL1 : 1 ≤ L := by rw [hL]; simp
  have HL := Lib.hid hL
  have HH := Lib.hid hh
  have HB := Lib.hid hb
  clear hh hb hL
  have hLi : (1 : Int) ≤ L := by omega
  have hci : (L : Int) ≤ c := by omega
  have hLm : (L : Int) ≤ 140737488355328 := by omega
  have hz : ((L : Int) == 0) = false := by simp; omega
  by_cases hc1 : c = 1
  · subst hc1
    go_enter Tryz.func119, Tryz.ntmps119
    go_wp2_with (first | (go_at_call 93; refine (failed_any R 0 _ h0).mono ?_; rintro e w' ⟨rfl, rfl⟩))
    go_ret
    have hbs : bs = [] := List.eq_nil_of_length_eq_zero (by have := HL.out; simp at this; omega)
    subst hbs
    refine ⟨rfl, ⟨_, 0, 0, by rw [blk_set HH.out]; rfl, rfl, Nat.le_refl _, by omega, Data.nil _ _⟩, grownBy_set _ _ _ _⟩
  · go_enter Tryz.func119, Tryz.ntmps119
    go_wp2_with (first | (go_at_call 93; refine (failed_any R 0 _ h0).mono ?_; rintro e w' ⟨rfl, rfl⟩))
    go_ret
    have hg := grownBy_set w R 1 (Value.slice (some ⟨bb, o + 1, none⟩) (L - 1) (c - 1))
    refine ⟨rfl, ⟨_, L - 1, c - 1, by rw [blk_set HH.out]; rfl, by rw [HL.out]; rfl, by omega, by omega, ?_⟩, hg⟩
    exact (hd.cut 1).grown HH.out hg
/-- slices.Clone. -/
theorem Clone_new (A : Option Addr) (L c : Nat) (bs : List UInt8) (hL : L = bs.length) (hlen : bs.length ≤ 1000000) (w : World) (hA : HasA w w.heap.size A bs) :
    Calls Tryz.prog 90 #[.slice A L c] w fun x w' => (∃ A' c', x = .returned (.slice A' L c') ∧ L ≤ c' ∧ Data w' A' bs ∧ ∀ b o, A' = some ⟨b, o, none⟩ → w.heap.size ≤ b) ∧ Below w.heap.size w w' := by
  obtain ⟨i0, hi, hz0, hz1, hz2⟩ := info_parts info5
  have HL := Lib.hid hL
  have hLn : L ≤ 1000000 := by omega
  clear hL
  cases A with
  | none =>
    have hbs : bs = [] := Classical.byContradiction fun hn => by obtain ⟨_, _, h, _⟩ := hA hn; cases h
    have h0 : L = 0 := by rw [HL.out, hbs]; rfl
    subst h0
    have hq : ∀ W, (binOp .eql 39 (.slice none 0 c) (.slice none 0 0)).run Tryz.prog W = .ok (.bool true) W := fun W => Lib.run_eql_slice_nil W _ _ none 0 c 0 0 Tryz.underlying39
    go_enter Tryz.func90, Tryz.ntmps90
    go_wp2
    go_ret
    exact ⟨⟨none, 0, rfl, Nat.le_refl _, by rw [hbs]; exact Data.nil _ _, fun _ _ e => by cases e⟩, Below.refl _ _⟩
  | some a =>
    have ho : (w.alloc (.cells #[] 5)).ownsRow w.heap.size 5 1 (.slice (some ⟨w.heap.size, 0, none⟩) 0 0) 0 (([] : List UInt8).map enc) :=
      ⟨by simp, .inr ⟨w.heap.size, 0, #[], rfl, Nat.le_refl _, heap_alloc_new w _, Nat.le_refl _, Nat.zero_le _, rfl, rfl⟩⟩
    have HO := Lib.hid ho
    have HAA := Lib.hid (hA.alloc (Nat.le_refl _) (.cells #[] 5))
    clear ho hA
    have hq : ∀ W, (binOp .eql 39 (.slice (some a) L c) (.slice none 0 0)).run Tryz.prog W = .ok (.bool false) W := fun W => Lib.run_eql_slice_nil W _ _ (some a) L c 0 0 Tryz.underlying39
    go_enter Tryz.func90, Tryz.ntmps90
    go_wp2_with (at_builtin; refine wpList_append_has rfl (.tmp 5) (.tmp 6) 39 rfl w.heap.size 5 i0 Tryz.underlying39 hi hz0 hz1 hz2 _ 0 _ rfl HO.out _ _ L c bs rfl HL.out HAA.out (by omega) (by simp) ?_; intro v' W2 hown2 hg2)
    have hB : Below w.heap.size w W2 := ((Below.refl _ _).alloc (Nat.le_refl _) _).grown hg2 (by simp) (fun k e => by cases e; exact Nat.le_refl _)
    rw [Nat.zero_add, List.nil_append] at hown2
    have hform : ∃ A' c', v' = .slice A' L c' ∧ L ≤ c' ∧ ∀ b o, A' = some ⟨b, o, none⟩ → w.heap.size ≤ b := by
      rcases hown2.2 with ⟨rfl, h0⟩ | ⟨g, cap, cur, rfl, hg, _, hc, _⟩
      · exact ⟨none, 0, by rw [h0], by omega, fun _ _ e => by cases e⟩
      · exact ⟨_, _, rfl, hc, fun b o e => by cases e; exact hg⟩
    obtain ⟨A', c', rfl, hc', hn'⟩ := hform
    go_ret
    exact ⟨⟨A', c', rfl, hc', Data.of_own hown2, hn'⟩, hB⟩
theorem Clone_any (A : Option Addr) (L c : Nat) (bs : List UInt8) (hL : L = bs.length) (hlen : bs.length ≤ 1000000) (w : World) (hA : HasA w w.heap.size A bs) :
    Calls Tryz.prog 90 #[.slice A L c] w fun x w' => (∃ A' c', x = .returned (.slice A' L c') ∧ L ≤ c' ∧ Data w' A' bs) ∧ Below w.heap.size w w' :=
  (Clone_new A L c bs hL hlen w hA).mono fun _ _ ⟨⟨A', c', h1, h2, h3, _⟩, h4⟩ => ⟨⟨A', c', h1, h2, h3⟩, h4⟩
/-- NewReader. -/
theorem New_any (A : Option Addr) (L c : Nat) (lim : Int) (bs : List UInt8) (hL : L = bs.length) (hlen : bs.length ≤ 1000000) (w : World) (hA : HasA w w.heap.size A bs) :
    Calls Tryz.prog 69 #[.slice A L c, .int .i64 lim] w fun x w' => ∃ R, x = .returned (.pointer (some ⟨R, 0, none⟩)) ∧ Rd w' R 0 lim bs ∧ w.heap.size ≤ R ∧ Below w.heap.size w w' := by
  have HL := Lib.hid hL
  have hLn : L ≤ 1000000 := by omega
  clear hL
  go_enter Tryz.func69, Tryz.ntmps69
  go_wp2_with fail
  refine (Clone_any A L c bs HL.out hlen w hA).mono ?_
  rintro e W1 ⟨⟨A', c', rfl, hc', hd⟩, hB⟩
  have HD := Lib.hid hd
  clear hd
  go_wp2
  go_ret
  refine ⟨W1.heap.size, rfl, ⟨A', L, c', World.alloc_heap_new W1 _, HL.out, hc', by omega, HD.out.kept fun b cur h => (Below.heap_alloc _ _ _ (Array.getElem?_eq_some_iff.1 h).1).trans h⟩, hB.size, hB.alloc hB.size _⟩
end Go.Proofs.YtdiihaeelcbjbaaGreatDoor

-- Var4
namespace Go.Proofs.YtdiihaeelcbjbaaGreatDoor
open Go.RowKit Go.Shelf
attribute [local go_sem] Oper.semAt_some
theorem Abides.rd {B R : Nat} {e lim : Int} {bs : List UInt8} : Abides B (fun W => Rd W R e lim bs) := by
  rintro W W' row ⟨A, L, c, hh, hL, hc, hm, hd⟩ hg hr
  have key : ∀ (k : Nat) (cs : Array Value) (t : TypeId), W.heap[k]? = some (.cells cs t (0, 0)) → W'.heap[k]? = some (.cells cs t (0, 0)) := fun k cs t h =>
    Abides.block (B := B) W W' row h hg hr
  exact ⟨A, L, c, key _ _ _ hh, hL, hc, hm, hd.kept fun b cur h => key _ _ _ h⟩
theorem Abides.grownBy {B R : Nat} {w : World} (hB : w.heap.size ≤ B) : Abides B (fun W => w.grownBy W (some R)) := by
  intro W W' row h hg hr
  refine ⟨hg.os.trans h.os, hg.tape.trans h.tape, hg.output.trans h.output, Nat.le_trans h.size hg.size, fun k hk hn => (hg.block k (Nat.lt_of_lt_of_le hk h.size) (fun e => ?_)).trans (h.block k hk hn)⟩
  have := (hr k e.symm).1
  omega
/-- A call of yield: the place, the byte, what came before it, what comes behind it. -/
structure At where
  i : Nat
  c : UInt8
  acc : Nat
  rest : List UInt8
/-- What the reader's rounds keep: the reader, the box of its pointer, the box of the number. -/
def St (w : World) (R b1 b2 : Nat) (e lim : Int) (bs : List UInt8) (acc : Nat) (W : World) : Prop :=
  Rd W R e lim bs ∧ W.heap[b1]? = some (.cells #[.pointer (some ⟨R, 0, none⟩)] 124 (0, 0)) ∧ W.heap[b2]? = some (.cells #[.int .u64 (acc : Int)] 23 (0, 0)) ∧ w.grownBy W (some R)
theorem Abides.st {B : Nat} {w : World} {R b1 b2 : Nat} {e lim : Int} {bs : List UInt8} {acc : Nat} (hB : w.heap.size ≤ B) : Abides B (St w R b1 b2 e lim bs acc) :=
  Abides.rd.and (Abides.block.and (Abides.block.and (Abides.grownBy hB)))
theorem St.move {w W W' : World} {R b1 b2 : Nat} {e lim e' : Int} {bs bs' : List UInt8} {acc : Nat} (h : St w R b1 b2 e lim bs acc W) (hg : W.grownBy W' (some R)) (hr : Rd W' R e' lim bs') : St w R b1 b2 e' lim bs' acc W' := by
  obtain ⟨⟨A, L, c, hh, _⟩, h1, h2, h3⟩ := h
  refine ⟨hr, (hg.block b1 (Array.getElem?_eq_some_iff.1 h1).1 (fun e => ?_)).trans h1, (hg.block b2 (Array.getElem?_eq_some_iff.1 h2).1 (fun e => ?_)).trans h2, grownBy_trans h3 hg⟩
  · cases e; rw [h1] at hh; cases hh
  · cases e; rw [h2] at hh; cases hh
section
variable (w : World) (R b1 b2 : Nat) (lim : Int) (bs : List UInt8)
def NI0 (W : World) : Prop := St w R b1 b2 0 lim bs 0 W
def NIy (x : At) (W : World) : Prop := St w R b1 b2 0 lim x.rest x.acc W ∧ Hid (rdU bs = rd (10 - x.i) x.i x.acc (x.c :: x.rest) ∧ x.acc < 128 ^ x.i) ∧ x.i < 10
def NIo (x : At) (W : World) : Prop := St w R b1 b2 0 lim x.rest (x.acc + x.c.toNat % 128 * 128 ^ x.i) W ∧ Hid (¬ ((0 < x.i ∧ x.c.toNat = 0) ∨ (x.i = 9 ∧ 1 < x.c.toNat)))
def NIx (c : Code) (W : World) : Prop := ∃ rest acc, St w R b1 b2 11 lim rest acc W ∧ Hid (c = .exit 0 ∧ rdU bs = .form rest)
def NId (W : World) : Prop := (∃ n rest, St w R b1 b2 0 lim rest n W ∧ Hid (rdU bs = .ok n rest)) ∨ (∃ acc, St w R b1 b2 10 lim [] acc W ∧ Hid (rdU bs = .short))
end
set_option maxRecDepth 100000 in
set_option maxHeartbeats 2000000 in
theorem number_seq (n : Nat) (hn : 1 ≤ n) (w : World) (R b1 b2 : Nat) (lim : Int) (bs : List UInt8) (B : Nat) (hRB : R < B) :
    TiedSeq Fence.wide n Tryz.prog 91 #[.pointer (some ⟨R, 0, none⟩)] #[] (fun x : At => #[.int .i64 (x.i : Int), .int .u8 (x.c.toNat : Int)]) B
      (NI0 w R b1 b2 lim bs) (NId w R b1 b2 lim bs) (NIy w R b1 b2 lim bs) (NIo w R b1 b2 lim) (NIx w R b1 b2 lim bs) (NIx w R b1 b2 lim bs) := by
  intro l G Gx hG hGx hY W h0 hGW
  refine callsIn_of_wp Tryz.func91 rfl trivial ?_ rfl
  simp only [Tryz.ntmps91, List.size_toArray, List.length_cons, List.length_nil, Nat.reduceAdd, Nat.reduceSub, Array.replicate_succ, Array.replicate_zero, List.push_toArray, List.append_toArray, List.nil_append, List.cons_append]
  have HY := Lib.hid hY
  have H0 := Lib.hid h0
  clear hY h0
  gi_wp2
  gi_loopw [6] (fun p wr => ∃ (i acc : Nat) (rest : List UInt8), p = .int .i64 (i : Int) ∧ i ≤ 10 ∧ Hid (St w R b1 b2 0 lim rest acc wr) ∧ Hid (rdU bs = rd (10 - i) i acc rest ∧ acc < 128 ^ i) ∧ Hid (G wr))
    (fun p _ => 10 - (intOf p).toNat)
  case atStart =>
    exact ⟨0, 0, bs, rfl, by omega, H0.out, ⟨rfl, by simp⟩, hGW⟩
  case round =>
    obtain ⟨i, acc, rest, rfl, hi, hst, hrd, hGw⟩ := hrel
    by_cases hi10 : i < 10
    · have hii : (i : Int) < 10 := by omega
      cases rest with
      | nil =>
        have hst' := hst.out
        have hR := Lib.hid hst'.1
        have hRR := Lib.hid (hR.out.fail 10)
        obtain ⟨A, L, c, hh, -⟩ := hR.out
        have hs0 : (wr.setCell ⟨R, 0, none⟩ (.int .i64 10)).cell? ⟨R, 0, none⟩ = some (.int .i64 10) := by
          have := blk_cell (blk_set hh 0 (.int .i64 10)) 0
          simpa using this
        clear hst' hh
        have hst2 := Lib.hid (hst.out.move (grownBy_set wr R 0 (.int .i64 10)) hRR.out)
        have hG2 := Lib.hid (hG _ _ hGw.out (KeepsFrom.of_grownBy (grownBy_set wr R 0 (.int .i64 10)) (fun j e => by cases e; exact hRB)))
        gi_wp2_with (first | (refine ⟨trivial, ?_⟩; gi_at_call 119; refine (callsIn_wide.2 (Byte_end R lim _ hR.out)).mono ?_; rintro e w' ⟨rfl, rfl⟩) | (refine ⟨trivial, ?_⟩; gi_at_call 93; refine (callsIn_wide.2 (failed_any R 10 _ hs0)).mono ?_; rintro e w' ⟨rfl, rfl⟩))
        refine ⟨fun f hf => absurd hf (by simp), ?_⟩
        gi_wp2
        refine bodyPost_ret (results_none rfl _ _ _) rfl ?_
        refine ⟨⟨_, rfl⟩, .inl ⟨.inr ⟨acc, hst2.out, ?_⟩, hG2.out⟩⟩
        show rdU bs = .short
        rw [hrd.out.1]
        obtain ⟨f, hf⟩ : ∃ f, 10 - i = f + 1 := ⟨9 - i, by omega⟩
        rw [hf]; rfl
      | cons c r =>
        have hst' := hst.out
        have hR := Lib.hid hst'.1
        clear hst'
        gi_wp2_with (first
          | (refine ⟨trivial, ?_⟩; gi_at_call 119; refine (callsIn_wide.2 (Byte_one R lim c r _ hR.out)).mono ?_; rintro e w' ⟨rfl, hr1, hg1⟩
             have hst2 := Lib.hid (hst.out.move hg1 hr1)
             have hc0 : w'.cell? ⟨R, 0, none⟩ = some (.int .i64 0) := by
               obtain ⟨A, L, c, hh, -⟩ := hr1
               simpa using blk_cell hh 0
             have hG2 := Lib.hid (hG _ _ hGw.out (KeepsFrom.of_grownBy hg1 (fun j e => by cases e; exact hRB)))
             obtain ⟨fn, tmps, assign, body, hy, hRR⟩ := HY.out ⟨i, c, acc, r⟩ w' ⟨hst2.out, hrd.out, hi10⟩ hG2.out
             dsimp only at hy
             clear hr1 hg1)
          | (refine ⟨trivial, ?_⟩; gi_at_call 93; refine (callsIn_wide.2 (failed_any R 0 _ hc0)).mono ?_; rintro e w' ⟨rfl, rfl⟩))
        refine hRR.mono ?_
        rintro e W3 (⟨rfl, hIo, hG3⟩ | ⟨rfl, cc, hIx, hGx3⟩)
        · have HIo := Lib.hid hIo
          have HG3 := Lib.hid hG3
          clear hIo hG3 hy
          by_cases hc : c.toNat < 128
          · have hc' : (c.toNat : Int) < 128 := by omega
            gi_wp2
            refine bodyPost_ret (results_none rfl _ _ _) rfl ?_
            refine ⟨⟨_, rfl⟩, .inl ⟨.inl ⟨_, r, HIo.out.1, ?_⟩, HG3.out⟩⟩
            show rdU bs = .ok _ r
            rw [hrd.out.1]
            obtain ⟨f, hf⟩ : ∃ f, 10 - i = f + 1 := ⟨9 - i, by omega⟩
            rw [hf, rd, if_neg HIo.out.2.out, if_pos hc, Nat.mod_eq_of_lt hc]
          · have hc' : ¬ (c.toNat : Int) < 128 := by omega
            gi_wp2
            have hc2 := c.toNat_lt
            have hm : c.toNat % 128 = c.toNat - 128 := by omega
            refine ⟨⟨i + 1, acc + (c.toNat - 128) * 128 ^ i, r, by congr 1, by omega, ?_, ?_, HG3.out⟩, by simp only [intOf]; omega⟩
            · have := HIo.out.1
              simp only [hm] at this
              exact this
            · refine ⟨?_, ?_⟩
              · rw [hrd.out.1]
                obtain ⟨f, hf⟩ : ∃ f, 10 - i = f + 1 := ⟨9 - i, by omega⟩
                rw [hf, rd, if_neg HIo.out.2.out, if_neg hc, show 10 - (i + 1) = f by omega]
              · have h3 : (c.toNat - 128) * 128 ^ i ≤ 127 * 128 ^ i := Nat.mul_le_mul_right _ (by omega)
                have h4 := hrd.out.2
                rw [Nat.pow_succ]; omega
        · have HIx := Lib.hid hIx
          have HGx3 := Lib.hid hGx3
          clear hIx hGx3 hy
          gi_wp2
          refine bodyPost_ret (results_none rfl _ _ _) rfl ?_
          exact ⟨⟨_, rfl⟩, .inr ⟨cc, HIx.out, HGx3.out⟩⟩
    · have hii : ¬ (i : Int) < 10 := by omega
      obtain rfl : i = 10 := by omega
      gi_wp2
      go_end0
      exact ⟨⟨_, rfl⟩, .inl ⟨.inl ⟨acc, rest, hst.out, hrd.out.1⟩, hGw.out⟩⟩
theorem shl_or (acc i : Nat) (c : UInt8) (hacc : acc < 128 ^ i) (hi : i < 10) (h9 : ¬ (i = 9 ∧ 1 < c.toNat)) :
    bits .or .u64 (acc : Int) (IntKind.u64.wrap (((c.toNat % 128 : Nat) : Int) * 2 ^ (7 * i))) = ((acc + c.toNat % 128 * 128 ^ i : Nat) : Int) := by
  have hp : (128 : Nat) ^ i = 2 ^ (7 * i) := by rw [Nat.pow_mul]
  have hlt : acc + c.toNat % 128 * 128 ^ i < 18446744073709551616 := by
    by_cases h : i = 9
    · subst h
      have : (128 : Nat) ^ 9 = 9223372036854775808 := by decide
      rw [this] at hacc ⊢
      have h1 : c.toNat ≤ 1 := by omega
      have h2 : c.toNat % 128 ≤ 1 := by omega
      have : c.toNat % 128 * 9223372036854775808 ≤ 1 * 9223372036854775808 := Nat.mul_le_mul_right _ h2
      omega
    · have h1 : (128 : Nat) ^ (i + 1) ≤ 128 ^ 9 := Nat.pow_le_pow_right (by omega) (by omega)
      have h2 : (128 : Nat) ^ 9 = 9223372036854775808 := by decide
      have h3 : c.toNat % 128 * 128 ^ i ≤ 127 * 128 ^ i := Nat.mul_le_mul_right _ (by omega)
      rw [Nat.pow_succ] at h1
      omega
  have e : (((c.toNat % 128 : Nat) : Int) * 2 ^ (7 * i)) = ((c.toNat % 128 * 128 ^ i : Nat) : Int) := by rw [hp]; push_cast; rfl
  rw [e, IntKind.wrap_u64, Int.emod_eq_of_lt (by omega) (by omega), u64_or_nat _ _ (by omega) (by omega), hp, or_disjoint _ _ _ (by rw [← hp]; exact hacc)]
/-- The statement that adds seven bits, as the translation has it. -/
def ops9 (p : String) : List Oper := [
  { dst := some 30, op := Op.load 23 (Operand.tmp 3), type := 23, pos := p, after := #[], guard := none },
  { dst := some 31, op := Op.move (Operand.tmp 5), type := 5, pos := p, after := #[], guard := none },
  { dst := some 32, op := Op.binOp BinOp.andNot 5 (Operand.tmp 31) (Operand.const (Value.int IntKind.u8 128)) 5, type := 5, pos := p, after := #[{ on := 1, ground := Ground.data }], guard := none },
  { dst := some 33, op := Op.convert 5 23 (Operand.tmp 32), type := 23, pos := p, after := #[{ on := 2, ground := Ground.data }], guard := none },
  { dst := some 34, op := Op.move (Operand.tmp 4), type := 3, pos := p, after := #[], guard := none },
  { dst := some 35, op := Op.binOp BinOp.mul 3 (Operand.const (Value.int IntKind.i64 7)) (Operand.tmp 34) 3, type := 3, pos := p, after := #[{ on := 4, ground := Ground.data }], guard := none },
  { dst := some 36, op := Op.binOp BinOp.shl 23 (Operand.tmp 33) (Operand.tmp 35) 3, type := 23, pos := p, after := #[{ on := 3, ground := Ground.data }, { on := 5, ground := Ground.data }], guard := none },
  { dst := some 37, op := Op.binOp BinOp.or 23 (Operand.tmp 30) (Operand.tmp 36) 23, type := 23, pos := p, after := #[{ on := 0, ground := Ground.data }, { on := 6, ground := Ground.data }], guard := none },
  { dst := none, op := Op.store 23 (Operand.tmp 3) (Operand.tmp 37), type := 0, pos := p, after := #[{ on := 7, ground := Ground.data }, { on := 0, ground := Ground.phase }, { on := 1, ground := Ground.phase }, { on := 2, ground := Ground.phase }, { on := 3, ground := Ground.phase }, { on := 4, ground := Ground.phase }, { on := 5, ground := Ground.phase }, { on := 6, ground := Ground.phase }, { on := 7, ground := Ground.phase }], guard := none }]
/-- What each slot comes to. -/
def val9 (acc i : Nat) (c : UInt8) : Nat → Value
  | 0 => .int .u64 (acc : Int)
  | 1 => .int .u8 (c.toNat : Int)
  | 2 => .int .u8 ((c.toNat % 128 : Nat) : Int)
  | 3 => .int .u64 ((c.toNat % 128 : Nat) : Int)
  | 4 => .int .i64 (i : Int)
  | 5 => .int .i64 ((7 * i : Nat) : Int)
  | 6 => .int .u64 (IntKind.u64.wrap (((c.toNat % 128 : Nat) : Int) * 2 ^ (7 * i)))
  | _ => .int .u64 (bits .or .u64 (acc : Int) (IntKind.u64.wrap (((c.toNat % 128 : Nat) : Int) * 2 ^ (7 * i))))
set_option maxRecDepth 100000 in
set_option maxHeartbeats 4000000 in
theorem region9 {p : String} (l m b2 acc i : Nat) (c : UInt8) (hi : i < 10) (W : World) (a : Act) (Q : Exit → Act → World → Prop) (hN : a.tmps.size = 43) (h3 : a.tmps.getD 3 undef = .pointer (some ⟨b2, 0, none⟩)) (h4 : a.tmps.getD 4 undef = .int .i64 (i : Int)) (h5 : a.tmps.getD 5 undef = .int .u8 (c.toNat : Int))
    (hc2 : W.cell? ⟨b2, 0, none⟩ = some (.int .u64 (acc : Int))) (hf2 : W.frozen? ⟨b2, 0, none⟩ = false)
    (hQ : ∀ a', Q .normal a' ((W.setCell ⟨b2, 0, none⟩ (val9 acc i c 7)).drew)) :
    (Code.region 9 (ops9 p).toArray true).wpIn (Fence.wide.inRound l) m Tryz.prog Q a W := by
  have hcd : W.drew.cell? ⟨b2, 0, none⟩ = some (.int .u64 (acc : Int)) := hc2
  have hfd : W.drew.frozen? ⟨b2, 0, none⟩ = false := hf2
  refine wpIn_region_by follows (by kernel_rfl) (fun L a' w' => a'.tmps.size = 43 ∧ (a'.tmps.getD 3 undef = .pointer (some ⟨b2, 0, none⟩) ∧ a'.tmps.getD 4 undef = .int .i64 (i : Int) ∧ a'.tmps.getD 5 undef = .int .u8 (c.toNat : Int)) ∧ (∀ j, j < 8 → L j = true → a'.tmps.getD (30 + j) undef = val9 acc i c j) ∧ (L 8 = false → w' = W.drew) ∧ (L 8 = true → w' = W.drew.setCell ⟨b2, 0, none⟩ (val9 acc i c 7)))
    ⟨hN, ⟨h3, h4, h5⟩, fun _ _ h => absurd h (by simp), fun _ => rfl, fun h => absurd h (by simp)⟩ ?_ ?_
  · rintro L a' w' j o ⟨hs, ⟨k3, k4, k5⟩, hv, hw0, _⟩ hj hlj hpre hcl
    have hlt : j < 9 := by
      have := (Array.getElem?_eq_some_iff.1 hj).1
      simpa [ops9] using this
    have put : ∀ (v : Value), j < 8 → v = val9 acc i c j → L 8 = false → w' = W.drew →
        ((a'.put (some (30 + j)) v).tmps.size = 43 ∧ ((a'.put (some (30 + j)) v).tmps.getD 3 undef = .pointer (some ⟨b2, 0, none⟩) ∧ (a'.put (some (30 + j)) v).tmps.getD 4 undef = .int .i64 (i : Int) ∧ (a'.put (some (30 + j)) v).tmps.getD 5 undef = .int .u8 (c.toNat : Int)) ∧ (∀ q, q < 8 → (L q || q == j) = true → (a'.put (some (30 + j)) v).tmps.getD (30 + q) undef = val9 acc i c q) ∧ ((L 8 || 8 == j) = false → w' = W.drew) ∧ ((L 8 || 8 == j) = true → w' = W.drew.setCell ⟨b2, 0, none⟩ (val9 acc i c 7))) := by
      intro v hj8 hval h8 hw'
      refine ⟨size_put.trans hs, ⟨(getD_put_ne (by omega)).trans k3, (getD_put_ne (by omega)).trans k4, (getD_put_ne (by omega)).trans k5⟩, fun q hq hlq => ?_, fun _ => hw', fun h => ?_⟩
      · by_cases e : q = j
        · subst e; rw [getD_put_same (by rw [hs]; omega)]; exact hval
        · rw [getD_put_ne (by omega)]; exact hv q hq (by simpa [e] using hlq)
      · have : ¬ (8 = j) := by omega
        simp [h8, this] at h
    have no8 : j < 8 → L 8 = false := by
      intro hj8
      refine Bool.eq_false_iff.2 fun h8 => ?_
      have := hcl 8 _ { on := j, ground := Ground.phase } (show (ops9 p).toArray[8]? = some { dst := none, op := Op.store 23 (Operand.tmp 3) (Operand.tmp 37), type := 0, pos := p, after := #[{ on := 7, ground := Ground.data }, { on := 0, ground := Ground.phase }, { on := 1, ground := Ground.phase }, { on := 2, ground := Ground.phase }, { on := 3, ground := Ground.phase }, { on := 4, ground := Ground.phase }, { on := 5, ground := Ground.phase }, { on := 6, ground := Ground.phase }, { on := 7, ground := Ground.phase }], guard := none } from rfl) h8 (by
        rcases j with _ | _ | _ | _ | _ | _ | _ | _ | j <;> first | (simp; done) | omega) rfl
      rw [hlj] at this; cases this
    have pre : ∀ q, q < 8 → hasEdge o q = true → a'.tmps.getD (30 + q) undef = val9 acc i c q := by
      intro q hq he
      unfold hasEdge at he
      rw [List.any_eq_true] at he
      obtain ⟨e, hem, he'⟩ := he
      have h1 : e.on = q ∧ Region.binds .any e = true := by simpa using he'
      exact hv q hq (h1.1 ▸ hpre e (by simpa using hem) h1.2)
    rcases j with _ | _ | _ | _ | _ | _ | _ | _ | _ | j
    · have hw' := hw0 (no8 (by omega))
      subst hw'
      refine step_run (o := { dst := some 30, op := Op.load 23 (Operand.tmp 3), type := 23, pos := p, after := #[], guard := none }) rfl rfl (by intro c h; cases h) rfl (v := val9 acc i c 0) (w' := W.drew) ?_ (put _ (by omega) rfl (no8 (by omega)) rfl)
      simp only [execOp, Act.eval, k3, val9]
      simp [go_sem, hcd]
    · have hw' := hw0 (no8 (by omega))
      subst hw'
      refine step_run (o := { dst := some 31, op := Op.move (Operand.tmp 5), type := 5, pos := p, after := #[], guard := none }) rfl rfl (by intro c h; cases h) rfl (v := val9 acc i c 1) (w' := W.drew) ?_ (put _ (by omega) rfl (no8 (by omega)) rfl)
      simp only [execOp, Act.eval, k5, val9]
      simp [go_sem]
    · have hw' := hw0 (no8 (by omega))
      subst hw'
      have p1 := pre 1 (by omega) (by rw [← Option.some.inj hj]; rfl)
      simp only [val9, Nat.reduceAdd] at p1
      refine step_run (o := { dst := some 32, op := Op.binOp BinOp.andNot 5 (Operand.tmp 31) (Operand.const (Value.int IntKind.u8 128)) 5, type := 5, pos := p, after := #[{ on := 1, ground := Ground.data }], guard := none }) rfl rfl (by intro c h; cases h) rfl (v := val9 acc i c 2) (w' := W.drew) ?_ (put _ (by omega) rfl (no8 (by omega)) rfl)
      simp only [execOp, Act.eval, p1, val9]
      simp [go_sem]
      have := andNot128 c
      push_cast at this
      exact this
    · have hw' := hw0 (no8 (by omega))
      subst hw'
      have p2 := pre 2 (by omega) (by rw [← Option.some.inj hj]; rfl)
      simp only [val9, Nat.reduceAdd] at p2
      refine step_run (o := { dst := some 33, op := Op.convert 5 23 (Operand.tmp 32), type := 23, pos := p, after := #[{ on := 2, ground := Ground.data }], guard := none }) rfl rfl (by intro c h; cases h) rfl (v := val9 acc i c 3) (w' := W.drew) ?_ (put _ (by omega) rfl (no8 (by omega)) rfl)
      simp only [execOp, Act.eval, p2, val9]
      simp [go_sem]
      have := c.toNat_lt
      rw [IntKind.wrap_u64]; omega
    · have hw' := hw0 (no8 (by omega))
      subst hw'
      refine step_run (o := { dst := some 34, op := Op.move (Operand.tmp 4), type := 3, pos := p, after := #[], guard := none }) rfl rfl (by intro c h; cases h) rfl (v := val9 acc i c 4) (w' := W.drew) ?_ (put _ (by omega) rfl (no8 (by omega)) rfl)
      simp only [execOp, Act.eval, k4, val9]
      simp [go_sem]
    · have hw' := hw0 (no8 (by omega))
      subst hw'
      have p4 := pre 4 (by omega) (by rw [← Option.some.inj hj]; rfl)
      simp only [val9, Nat.reduceAdd] at p4
      refine step_run (o := { dst := some 35, op := Op.binOp BinOp.mul 3 (Operand.const (Value.int IntKind.i64 7)) (Operand.tmp 34) 3, type := 3, pos := p, after := #[{ on := 4, ground := Ground.data }], guard := none }) rfl rfl (by intro c h; cases h) rfl (v := val9 acc i c 5) (w' := W.drew) ?_ (put _ (by omega) rfl (no8 (by omega)) rfl)
      simp only [execOp, Act.eval, p4, val9]
      simp [go_sem]
      rw [IntKind.wrap_i64]; omega
    · have hw' := hw0 (no8 (by omega))
      subst hw'
      have p3 := pre 3 (by omega) (by rw [← Option.some.inj hj]; rfl)
      simp only [val9, Nat.reduceAdd] at p3
      have p5 := pre 5 (by omega) (by rw [← Option.some.inj hj]; rfl)
      simp only [val9, Nat.reduceAdd] at p5
      refine step_run (o := { dst := some 36, op := Op.binOp BinOp.shl 23 (Operand.tmp 33) (Operand.tmp 35) 3, type := 23, pos := p, after := #[{ on := 3, ground := Ground.data }, { on := 5, ground := Ground.data }], guard := none }) rfl rfl (by intro c h; cases h) rfl (v := val9 acc i c 6) (w' := W.drew) ?_ (put _ (by omega) rfl (no8 (by omega)) rfl)
      simp only [execOp, Act.eval, p3, p5, val9]
      simp [go_sem]
      rw [show (7 * (i : Int)).toNat = 7 * i by omega]
    · have hw' := hw0 (no8 (by omega))
      subst hw'
      have p0 := pre 0 (by omega) (by rw [← Option.some.inj hj]; rfl)
      simp only [val9, Nat.reduceAdd] at p0
      have p6 := pre 6 (by omega) (by rw [← Option.some.inj hj]; rfl)
      simp only [val9, Nat.reduceAdd] at p6
      refine step_run (o := { dst := some 37, op := Op.binOp BinOp.or 23 (Operand.tmp 30) (Operand.tmp 36) 23, type := 23, pos := p, after := #[{ on := 0, ground := Ground.data }, { on := 6, ground := Ground.data }], guard := none }) rfl rfl (by intro c h; cases h) rfl (v := val9 acc i c 7) (w' := W.drew) ?_ (put _ (by omega) rfl (no8 (by omega)) rfl)
      simp only [execOp, Act.eval, p0, p6, val9]
      simp [go_sem]
    · have h8 : L 8 = false := hlj
      have hw' := hw0 h8
      subst hw'
      have p7 := pre 7 (by omega) (by rw [← Option.some.inj hj]; rfl)
      simp only [Nat.reduceAdd] at p7
      refine step_skip (o := { dst := none, op := Op.store 23 (Operand.tmp 3) (Operand.tmp 37), type := 0, pos := p, after := #[{ on := 7, ground := Ground.data }, { on := 0, ground := Ground.phase }, { on := 1, ground := Ground.phase }, { on := 2, ground := Ground.phase }, { on := 3, ground := Ground.phase }, { on := 4, ground := Ground.phase }, { on := 5, ground := Ground.phase }, { on := 6, ground := Ground.phase }, { on := 7, ground := Ground.phase }], guard := none }) rfl rfl (by intro c h; cases h) rfl (w' := W.drew.setCell ⟨b2, 0, none⟩ (val9 acc i c 7)) ?_ ⟨hs, ⟨k3, k4, k5⟩, fun q hq hlq => hv q hq ?_, fun h => ?_, fun _ => rfl⟩
      · simp only [execOp, Act.eval, k3, p7]
        simp [go_sem, hcd, hfd, val9]
      · have : ¬ (q = 8) := by omega
        simpa [this] using hlq
      · simp at h
    · omega
  · rintro L a' w' ⟨_, _, _, _, h8⟩ hl
    rw [h8 (hl 8 (by simp [ops9]))]
    exact hQ a'

end Go.Proofs.YtdiihaeelcbjbaaGreatDoor

-- Var5
namespace Go.Proofs.YtdiihaeelcbjbaaGreatDoor
open Go.RowKit Go.Shelf

attribute [local go_sem] Oper.semAt_some
/-- What holds behind the statement that adds seven bits. -/
theorem after9 {w W W0 : World} {R i j acc : Nat} {c : UInt8} {lim : Int} {rest : List UInt8} {Ix : Code → World → Prop} {a' : Act} (_hle0 : w.heap.size ≤ W0.heap.size) (_hsz : W0.heap.size = w.heap.size + 1 + 1)
    (hst : St w R w.heap.size (w.heap.size + 1) 0 lim rest acc W) (_hx2 : W.heap[w.heap.size + 1]? = some (.cells #[.int .u64 (acc : Int)] 23 (0, 0))) (hacc : acc < 128 ^ j) (hj : j < 10) (hcond : ¬ ((0 < j ∧ c.toNat = 0) ∨ (j = 9 ∧ 1 < c.toNat))) (hij : i = j) :
    tiedPost W0.heap.size (fun W => St w R w.heap.size (w.heap.size + 1) 0 lim rest (acc + c.toNat % 128 * 128 ^ i) W ∧ Hid (¬ ((0 < i ∧ c.toNat = 0) ∨ (i = 9 ∧ 1 < c.toNat)))) Ix W .normal a' ((W.setCell ⟨w.heap.size + 1, 0, none⟩ (val9 acc j c 7)).drew) := by
  subst hij
  have hval : val9 acc i c 7 = .int .u64 ((acc + c.toNat % 128 * 128 ^ i : Nat) : Int) := by
    show Value.int .u64 _ = _
    rw [shl_or acc i c hacc hj (fun h => hcond (.inr h))]
  rw [hval]
  obtain ⟨⟨A, L, cc, hh, hL, hc, hm, hd⟩, h1, h2, h3⟩ := hst
  have hne : R ≠ w.heap.size + 1 := by rintro rfl; rw [h2] at hh; cases hh
  have key : ∀ (k : Nat), k ≠ w.heap.size + 1 → ((W.setCell ⟨w.heap.size + 1, 0, none⟩ (.int .u64 ((acc + c.toNat % 128 * 128 ^ i : Nat) : Int))).drew).heap[k]? = W.heap[k]? := fun k hk => Below.heap_setCell _ _ _ _ hk
  refine ⟨((KeepsOthers.setCell _ _ _).trans (KeepsOthers.drew _)).from _, ⟨⟨A, L, cc, (key R hne).trans hh, hL, hc, hm, hd.kept fun b cur hb => (key b ?_).trans hb⟩, (key _ (by omega)).trans h1, ?_, ?_⟩, hcond⟩
  · rintro rfl; rw [h2] at hb; cases hb
  · show (W.setCell ⟨w.heap.size + 1, 0, none⟩ _).heap[w.heap.size + 1]? = _
    rw [blk_set h2]; rfl
  · refine ⟨h3.os, h3.tape, h3.output, ?_, fun k hk hn => (key k (by omega)).trans (h3.block k hk hn)⟩
    have := (grownBy_set W (w.heap.size + 1) 0 (.int .u64 ((acc + c.toNat % 128 * 128 ^ i : Nat) : Int))).size
    exact Nat.le_trans h3.size this
set_option maxRecDepth 100000 in
set_option maxHeartbeats 4000000 in
theorem UintR_in (n : Nat) (hn : 3 ≤ n) (w : World) (R : Nat) (lim : Int) (bs : List UInt8) (h : Rd w R 0 lim bs) :
    CallsIn Fence.wide n Tryz.prog 70 #[.pointer (some ⟨R, 0, none⟩)] w fun e W' => w.grownBy W' (some R) ∧
      ((∃ m rest, e = .returned (.int .u64 ((m : Nat) : Int)) ∧ rdU bs = .ok m rest ∧ Rd W' R 0 lim rest) ∨
       (e = .returned (.int .u64 0) ∧ rdU bs = .short ∧ Rd W' R 10 lim []) ∨
       (∃ rest, e = .returned (.int .u64 0) ∧ rdU bs = .form rest ∧ Rd W' R 11 lim rest)) := by
  have h1 : 1 ≤ n := by omega
  have H := Lib.hid h
  clear h
  refine callsIn_of_wp_marks Tryz.func70 rfl trivial ?_ rfl
  simp only [Tryz.ntmps70, List.size_toArray, List.length_cons, List.length_nil, Nat.reduceAdd, Nat.reduceSub, Array.replicate_succ, Array.replicate_zero, List.push_toArray, List.append_toArray, List.nil_append, List.cons_append]
  gi_wp2
  have hRlt := H.out.lt
  obtain ⟨W0, hW0⟩ : ∃ W0, (w.alloc (Obj.cells #[Value.pointer (some { block := R, off := 0 })] 124)).alloc (Obj.cells #[Value.int IntKind.u64 0] 23) = W0 := ⟨_, rfl⟩
  have hsz : W0.heap.size = w.heap.size + 1 + 1 := by rw [← hW0]; simp
  have hB0 : Below w.heap.size w W0 := by rw [← hW0]; exact ((Below.refl _ _).alloc (Nat.le_refl _) _).alloc (by simp) _
  have hbx1 : W0.heap[w.heap.size]? = some (.cells #[.pointer (some ⟨R, 0, none⟩)] 124 (0, 0)) := by
    rw [← hW0]; exact (Below.heap_alloc _ _ _ (by simp)).trans (World.alloc_heap_new w _)
  have hbx2 : W0.heap[w.heap.size + 1]? = some (.cells #[.int .u64 ((0 : Nat) : Int)] 23 (0, 0)) := by
    rw [← hW0]; have := World.alloc_heap_new (w.alloc (Obj.cells #[Value.pointer (some { block := R, off := 0 })] 124)) (Obj.cells #[Value.int IntKind.u64 0] 23); rwa [World.size_alloc] at this
  rw [hW0]
  have hst0 : NI0 w R w.heap.size (w.heap.size + 1) lim bs W0 := ⟨H.out.below hB0, hbx1, hbx2, grownBy_of_below hB0⟩
  have HST := Lib.hid hst0
  have HSZ := Lib.hid hsz
  have hle0 : w.heap.size ≤ W0.heap.size := by omega
  clear hst0 hbx1 hbx2 hW0 hsz
  refine wpIn_rangeFunc_tied rfl h1 (gf := 91) (fb := #[.pointer (some ⟨R, 0, none⟩)]) (lb := #[]) rfl trivial (enters_of Tryz.func91 (by kernel_rfl) rfl) (encs := fun x : At => #[.int .i64 (x.i : Int), .int .u8 (x.c.toNat : Int)]) (fun _ => rfl)
    (Abides.st hle0) ?dn (fun x => (Abides.st hle0).and (Abides.pure _)) (fun x => (Abides.st hle0).and (Abides.pure _)) ?lx1 ?lx2
    (number_seq (n - 1) (by omega) w R w.heap.size (w.heap.size + 1) lim bs W0.heap.size (by omega)) HST.out
    (fun x => { tmps := #[.pointer (some ⟨R, 0, none⟩), .pointer (some ⟨w.heap.size, 0, none⟩), .int .u64 0, .pointer (some ⟨w.heap.size + 1, 0, none⟩), .int .i64 (x.i : Int), .int .u8 (x.c.toNat : Int), .pointer (some ⟨R, 0, none⟩), .bool false, .pointer (some ⟨R, 0, none⟩), .func (.func 91) #[.pointer (some ⟨R, 0, none⟩)] #[], .int .i64 (x.i : Int), .int .u8 (x.c.toNat : Int), undef, undef, undef, undef, undef, undef, undef, undef, undef, undef, undef, undef, undef, undef, undef, undef, undef, undef, undef, undef, undef, undef, undef, undef, undef, undef, undef, undef, undef, undef, undef], defers := [] }) ?assign ?body ?done ?stop
  case dn =>
    rintro W W' row (⟨m, rest, h, hp⟩ | ⟨acc, h, hp⟩) hg hr
    · exact .inl ⟨m, rest, Abides.st hle0 W W' row h hg hr, hp⟩
    · exact .inr ⟨acc, Abides.st hle0 W W' row h hg hr, hp⟩
  case lx1 =>
    rintro c W W' row ⟨rest, acc, h, hp⟩ hg hr
    exact ⟨rest, acc, Abides.st hle0 W W' row h hg hr, hp⟩
  case lx2 =>
    rintro c W W' row ⟨rest, acc, h, hp⟩ hg hr
    exact ⟨rest, acc, Abides.st hle0 W W' row h hg hr, hp⟩
  case assign =>
    intro l x W K hK
    gi_wp2
    exact hK
  case body =>
    rintro l ⟨i, c, acc, rest⟩ W ⟨hst, hrd, hi⟩ hlt
    dsimp only at hst hrd hi ⊢
    have HS := Lib.hid hst
    obtain ⟨hRd, hx1, hx2, hgr⟩ := hst
    have hc1 : W.cell? ⟨w.heap.size, 0, none⟩ = some (.pointer (some ⟨R, 0, none⟩)) := by simpa using blk_cell hx1 0
    have hc2 : W.cell? ⟨w.heap.size + 1, 0, none⟩ = some (.int .u64 (acc : Int)) := by simpa using blk_cell hx2 0
    have hf2 := blk_frozen hx2 0
    have hc3 : W.cell? ⟨R, 0, none⟩ = some (.int .i64 0) := by
      obtain ⟨A, L, c, hh, -⟩ := hRd
      simpa using blk_cell hh 0
    have hf3 : W.frozen? ⟨R, 0, none⟩ = false := by
      obtain ⟨A, L, c, hh, -⟩ := hRd
      exact blk_frozen hh 0
    have HX2 := Lib.hid hx2
    have hu := c.toNat_lt
    clear hRd hx1 hx2 hgr
    gi_wp2_with (first | (refine ⟨trivial, fun _ => by omega, ?_⟩; gi_at_call 92; refine (CallsIn.inRound l (callsIn_wide.2 (fail_ok R 11 _ hc3 hf3))).mono ?_; rintro y w' ⟨⟨v, rfl⟩, rfl⟩))
    all_goals have HU := Lib.hid hu
    · have hcond : (0 < i ∧ c.toNat = 0) ∨ (i = 9 ∧ 1 < c.toNat) := by first | omega | (rename_i h; simp at h; omega)
      refine ⟨(KeepsOthers.setCell _ _ _).from _, rest, acc, HS.out.move (grownBy_set W R 0 (.int .i64 11)) (HS.out.1.fail 11), rfl, ?_⟩
      rw [hrd.out.1]
      obtain ⟨f, hf⟩ : ∃ f, 10 - i = f + 1 := ⟨9 - i, by omega⟩
      rw [hf, rd, if_pos hcond]
    · have hcond : (0 < i ∧ c.toNat = 0) ∨ (i = 9 ∧ 1 < c.toNat) := by first | omega | (rename_i h; simp at h; omega)
      refine ⟨(KeepsOthers.setCell _ _ _).from _, rest, acc, HS.out.move (grownBy_set W R 0 (.int .i64 11)) (HS.out.1.fail 11), rfl, ?_⟩
      rw [hrd.out.1]
      obtain ⟨f, hf⟩ : ∃ f, 10 - i = f + 1 := ⟨9 - i, by omega⟩
      rw [hf, rd, if_pos hcond]
    · have hcond : ¬ ((0 < i ∧ c.toNat = 0) ∨ (i = 9 ∧ 1 < c.toNat)) := by first | omega | (rename_i h; simp at h; omega)
      have hi9 : i = 9 := by omega
      refine region9 l _ (w.heap.size + 1) acc 9 c (by omega) W _ _ rfl rfl rfl rfl hc2 hf2 (fun a' => ?_)
      exact after9 (a' := a') (Ix := NIx w R w.heap.size (w.heap.size + 1) lim bs) (_hle0 := hle0) HSZ.out HS.out HX2.out (hi9 ▸ hrd.out.2) (by omega) (hi9 ▸ hcond) hi9
    · have hcond : ¬ ((0 < i ∧ c.toNat = 0) ∨ (i = 9 ∧ 1 < c.toNat)) := by first | omega | (rename_i h; simp at h; omega)
      refine region9 l _ (w.heap.size + 1) acc i c hi W _ _ rfl rfl rfl rfl hc2 hf2 (fun a' => ?_)
      exact after9 (a' := a') (Ix := NIx w R w.heap.size (w.heap.size + 1) lim bs) (_hle0 := hle0) HSZ.out HS.out HX2.out hrd.out.2 hi hcond rfl
    · have hcond : ¬ ((0 < i ∧ c.toNat = 0) ∨ (i = 9 ∧ 1 < c.toNat)) := by first | omega | (rename_i h; simp at h; omega)
      refine region9 l _ (w.heap.size + 1) acc i c hi W _ _ rfl rfl rfl rfl hc2 hf2 (fun a' => ?_)
      exact after9 (a' := a') (Ix := NIx w R w.heap.size (w.heap.size + 1) lim bs) (_hle0 := hle0) HSZ.out HS.out HX2.out hrd.out.2 hi hcond rfl
  case done =>
    rintro D W hD hId hK
    have hI : ∃ e rest acc, St w R w.heap.size (w.heap.size + 1) e lim rest acc W ∧ ((e = 0 ∧ rdU bs = .ok acc rest) ∨ (e = 10 ∧ rest = [] ∧ rdU bs = .short)) := by
      rcases hId with ⟨m, rest, h, hp⟩ | ⟨acc, h, hp⟩
      · exact ⟨0, rest, m, h, .inl ⟨rfl, hp.out⟩⟩
      · exact ⟨10, [], acc, h, .inr ⟨rfl, rfl, hp.out⟩⟩
    obtain ⟨e, rest, acc, hst, hcase⟩ := hI
    have HC := Lib.hid hcase
    have HS := Lib.hid hst
    have HKK := Lib.hid hK
    obtain ⟨hRd, hx1, hx2, hgr⟩ := hst
    have hc1 : W.cell? ⟨w.heap.size, 0, none⟩ = some (.pointer (some ⟨R, 0, none⟩)) := by simpa using blk_cell hx1 0
    have hc2 : W.cell? ⟨w.heap.size + 1, 0, none⟩ = some (.int .u64 (acc : Int)) := by simpa using blk_cell hx2 0
    have hc3 : W.cell? ⟨R, 0, none⟩ = some (.int .i64 e) := by
      obtain ⟨A, L, c, hh, -⟩ := hRd
      simpa using blk_cell hh 0
    clear hRd hx1 hx2 hgr hcase hId hK
    have hend : w.grownBy (W.putObj D (.deferred none)) (some R) := Abides.grownBy (Nat.le_refl w.heap.size) W _ (some D) HS.out.2.2.2 (grownBy_putObj' W D _) (fun r e => by cases e; exact ⟨by have := HSZ.out; omega, _, HKK.out, rfl⟩)
    have hendr : ∀ x y, Rd W R x lim y → Rd (W.putObj D (.deferred none)) R x lim y := fun x y h => Abides.rd (B := w.heap.size) W _ (some D) h (grownBy_putObj' W D _) (fun r e => by cases e; exact ⟨by have := HSZ.out; omega, _, HKK.out, rfl⟩)
    have HE := Lib.hid hend
    have HER := Lib.hid hendr
    clear hend hendr
    rcases HC.out with ⟨rfl, hrd⟩ | ⟨rfl, rfl, hrd⟩
    · have HR := Lib.hid hrd
      clear hrd
      gi_wp2_with (refine ⟨trivial, ?_⟩; gi_at_call 93; refine (callsIn_wide.2 (failed_any R 0 _ hc3)).mono ?_; rintro e w' ⟨rfl, rfl⟩)
      refine ⟨by simp, .inl ⟨_, _, rfl, run_takeDeferred HKK.out, ?_⟩⟩
      exact ⟨_, results_tmp rfl _ _ _, HE.out, .inl ⟨acc, rest, rfl, HR.out, HER.out _ _ HS.out.1⟩⟩
    · have HR := Lib.hid hrd
      clear hrd
      gi_wp2_with (refine ⟨trivial, ?_⟩; gi_at_call 93; refine (callsIn_wide.2 (failed_any R 10 _ hc3)).mono ?_; rintro e w' ⟨rfl, rfl⟩)
      refine ⟨by simp, .inl ⟨_, _, rfl, run_takeDeferred HKK.out, ?_⟩⟩
      exact ⟨_, results_tmp rfl _ _ _, HE.out, .inr (.inl ⟨rfl, HR.out, HER.out _ _ HS.out.1⟩)⟩
  case stop =>
    rintro D c W hD ⟨rest, acc, hst, hp⟩ hK
    obtain ⟨rfl, hrd⟩ := hp.out
    have HR := Lib.hid hrd
    have HS := Lib.hid hst
    have HKK := Lib.hid hK
    obtain ⟨hRd, hx1, hx2, hgr⟩ := hst
    have hc1 : W.cell? ⟨w.heap.size, 0, none⟩ = some (.pointer (some ⟨R, 0, none⟩)) := by simpa using blk_cell hx1 0
    have hc3 : W.cell? ⟨R, 0, none⟩ = some (.int .i64 11) := by
      obtain ⟨A, L, c, hh, -⟩ := hRd
      simpa using blk_cell hh 0
    clear hRd hx1 hx2 hgr hK hrd hp
    have hend : w.grownBy (W.putObj D (.deferred none)) (some R) := Abides.grownBy (Nat.le_refl w.heap.size) W _ (some D) HS.out.2.2.2 (grownBy_putObj' W D _) (fun r e => by cases e; exact ⟨by have := HSZ.out; omega, _, HKK.out, rfl⟩)
    have hendr : ∀ x y, Rd W R x lim y → Rd (W.putObj D (.deferred none)) R x lim y := fun x y h => Abides.rd (B := w.heap.size) W _ (some D) h (grownBy_putObj' W D _) (fun r e => by cases e; exact ⟨by have := HSZ.out; omega, _, HKK.out, rfl⟩)
    have HE := Lib.hid hend
    have HER := Lib.hid hendr
    clear hend hendr
    gi_wp2_with (refine ⟨trivial, ?_⟩; gi_at_call 93; refine (callsIn_wide.2 (failed_any R 11 _ hc3)).mono ?_; rintro e w' ⟨rfl, rfl⟩)
    refine ⟨by simp, .inl ⟨_, _, rfl, run_takeDeferred HKK.out, ?_⟩⟩
    exact ⟨_, results_tmp rfl _ _ _, HE.out, .inr (.inr ⟨rest, rfl, HR.out, HER.out _ _ HS.out.1⟩)⟩

end Go.Proofs.YtdiihaeelcbjbaaGreatDoor

-- Var6
namespace Go.Proofs.YtdiihaeelcbjbaaGreatDoor
open Go.RowKit
theorem UintR_ok (w : World) (R : Nat) (lim : Int) (bs : List UInt8) (m : Nat) (rest : List UInt8) (h : Rd w R 0 lim bs) (hr : rdU bs = .ok m rest) :
    Calls Tryz.prog 70 #[.pointer (some ⟨R, 0, none⟩)] w fun e W' => e = .returned (.int .u64 (m : Int)) ∧ Rd W' R 0 lim rest ∧ w.grownBy W' (some R) := by
  refine ((callsIn_wide (n := 3)).1 (UintR_in 3 (by omega) w R lim bs h)).mono ?_
  rintro e W' ⟨hg, ⟨m', rest', rfl, h1, h2⟩ | ⟨_, h1, _⟩ | ⟨_, _, h1, _⟩⟩
  · rw [hr] at h1; injection h1 with h1 h3; subst h1; subst h3
    exact ⟨rfl, h2, hg⟩
  · rw [hr] at h1; cases h1
  · rw [hr] at h1; cases h1
theorem UintR_short (w : World) (R : Nat) (lim : Int) (bs : List UInt8) (h : Rd w R 0 lim bs) (hr : rdU bs = .short) :
    Calls Tryz.prog 70 #[.pointer (some ⟨R, 0, none⟩)] w fun e W' => e = .returned (.int .u64 0) ∧ Rd W' R 10 lim [] ∧ w.grownBy W' (some R) := by
  refine ((callsIn_wide (n := 3)).1 (UintR_in 3 (by omega) w R lim bs h)).mono ?_
  rintro e W' ⟨hg, ⟨m', rest', _, h1, _⟩ | ⟨rfl, h1, h2⟩ | ⟨_, _, h1, _⟩⟩
  · rw [hr] at h1; cases h1
  · exact ⟨rfl, h2, hg⟩
  · rw [hr] at h1; cases h1
theorem UintR_form (w : World) (R : Nat) (lim : Int) (bs rest : List UInt8) (h : Rd w R 0 lim bs) (hr : rdU bs = .form rest) :
    Calls Tryz.prog 70 #[.pointer (some ⟨R, 0, none⟩)] w fun e W' => e = .returned (.int .u64 0) ∧ Rd W' R 11 lim rest ∧ w.grownBy W' (some R) := by
  refine ((callsIn_wide (n := 3)).1 (UintR_in 3 (by omega) w R lim bs h)).mono ?_
  rintro e W' ⟨hg, ⟨m', rest', _, h1, _⟩ | ⟨_, h1, _⟩ | ⟨rest', rfl, h1, h2⟩⟩
  · rw [hr] at h1; cases h1
  · rw [hr] at h1; cases h1
  · rw [hr] at h1; injection h1 with h1; subst h1
    exact ⟨rfl, h2, hg⟩
end Go.Proofs.YtdiihaeelcbjbaaGreatDoor
