/- Contracts of varint's Reader.number and Reader.Uint. -/
import Derived.Test.YtbhncffeoolhfaaDoorVar3
import Derived.Test.YtbhncffeoolhfaaDoorLoop
import Derived.Test.YtbhncffeoolhfaaDoorMath
import Derived.Shelf.Abstract
import Derived.Shelf.RegionOpen
import Derived.OwnWalkIn
import Derived.TacticsInMore
import Derived.LoopNIn
import Derived.LoopIn
import Derived.Maps.AppendAt
import Derived.Test.YtbhncffeoolhfaaDoorRegion
namespace Go.Proofs.YtbhncffeoolhfaaDoor
open Go.RowKit Go.Shelf
attribute [local go_sem] Oper.semAt_some
theorem Abides.rd {B R : Nat} {e lim : Int} {bs : List UInt8} : Abides B (fun W => Rd W R e lim bs) := by
  rintro W W' row ⟨A, L, c, hh, hL, hc, hm, hd⟩ hg hr
  have key : ∀ (k : Nat) (cs : Array Value) (t : TypeId), W.heap[k]? = some (.cells cs t (0, 0)) → W'.heap[k]? = some (.cells cs t (0, 0)) := fun k cs t h =>
    Abides.block (B := B) W W' row h hg hr
  exact ⟨A, L, c, key _ _ _ hh, hL, hc, hm, hd.kept fun b cur h => key _ _ _ h⟩
theorem Abides.grownBy {B R : Nat} {w : World} (hB : w.heap.size ≤ B) : Abides B (fun W => w.grownBy W (some R)) := by
  intro W W' row h hg hr
  refine ⟨hg.os.trans h.os, hg.tape.trans h.tape, hg.output.trans h.output, Nat.le_trans h.size hg.size, fun k hk hn => (hg.block k (Nat.lt_of_lt_of_le hk h.size) (fun e => ?_)).trans (h.block k hk hn)⟩
  have := (hr k e.symm).1
  omega

/-- A call of yield: the place, the byte, what came before it, what comes behind it. -/
structure At where
  i : Nat
  c : UInt8
  acc : Nat
  rest : List UInt8

/-- What the reader's rounds keep: the reader, the box of its pointer, the box of the number. -/
def St (w : World) (R b1 b2 : Nat) (e lim : Int) (bs : List UInt8) (acc : Nat) (W : World) : Prop :=
  Rd W R e lim bs ∧ W.heap[b1]? = some (.cells #[.pointer (some ⟨R, 0, none⟩)] 63 (0, 0)) ∧ W.heap[b2]? = some (.cells #[.int .u64 (acc : Int)] 38 (0, 0)) ∧ w.grownBy W (some R)

theorem Abides.st {B : Nat} {w : World} {R b1 b2 : Nat} {e lim : Int} {bs : List UInt8} {acc : Nat} (hB : w.heap.size ≤ B) : Abides B (St w R b1 b2 e lim bs acc) :=
  Abides.rd.and (Abides.block.and (Abides.block.and (Abides.grownBy hB)))

theorem St.move {w W W' : World} {R b1 b2 : Nat} {e lim e' : Int} {bs bs' : List UInt8} {acc : Nat} (h : St w R b1 b2 e lim bs acc W) (hg : W.grownBy W' (some R)) (hr : Rd W' R e' lim bs') : St w R b1 b2 e' lim bs' acc W' := by
  obtain ⟨⟨A, L, c, hh, _⟩, h1, h2, h3⟩ := h
  refine ⟨hr, (hg.block b1 (Array.getElem?_eq_some_iff.1 h1).1 (fun e => ?_)).trans h1, (hg.block b2 (Array.getElem?_eq_some_iff.1 h2).1 (fun e => ?_)).trans h2, grownBy_trans h3 hg⟩
  · cases e; rw [h1] at hh; cases hh
  · cases e; rw [h2] at hh; cases hh

section
variable (w : World) (R b1 b2 : Nat) (lim : Int) (bs : List UInt8)
def NI0 (W : World) : Prop := St w R b1 b2 0 lim bs 0 W
def NIy (x : At) (W : World) : Prop := St w R b1 b2 0 lim x.rest x.acc W ∧ Hid (rdU bs = rd (10 - x.i) x.i x.acc (x.c :: x.rest) ∧ x.acc < 128 ^ x.i) ∧ x.i < 10
def NIo (x : At) (W : World) : Prop := St w R b1 b2 0 lim x.rest (x.acc + x.c.toNat % 128 * 128 ^ x.i) W ∧ Hid (¬ ((0 < x.i ∧ x.c.toNat = 0) ∨ (x.i = 9 ∧ 1 < x.c.toNat)))
def NIx (c : Code) (W : World) : Prop := ∃ rest acc, St w R b1 b2 11 lim rest acc W ∧ Hid (c = .exit 0 ∧ rdU bs = .form rest)
def NId (W : World) : Prop := (∃ n rest, St w R b1 b2 0 lim rest n W ∧ Hid (rdU bs = .ok n rest)) ∨ (∃ acc, St w R b1 b2 10 lim [] acc W ∧ Hid (rdU bs = .short))
end
set_option maxRecDepth 100000 in
set_option maxHeartbeats 2000000 in
theorem number_seq (n : Nat) (hn : 1 ≤ n) (w : World) (R b1 b2 : Nat) (lim : Int) (bs : List UInt8) (B : Nat) (hRB : R < B) :
    TiedSeq Fence.wide n Tryd.prog 34 #[.pointer (some ⟨R, 0, none⟩)] #[] (fun x : At => #[.int .i64 (x.i : Int), .int .u8 (x.c.toNat : Int)]) B
      (NI0 w R b1 b2 lim bs) (NId w R b1 b2 lim bs) (NIy w R b1 b2 lim bs) (NIo w R b1 b2 lim) (NIx w R b1 b2 lim bs) (NIx w R b1 b2 lim bs) := by
  intro l G Gx hG hGx hY W h0 hGW
  refine callsIn_of_wp Tryd.func34 rfl trivial ?_ rfl
  simp only [Tryd.ntmps34, List.size_toArray, List.length_cons, List.length_nil, Nat.reduceAdd, Nat.reduceSub, Array.replicate_succ, Array.replicate_zero, List.push_toArray, List.append_toArray, List.nil_append, List.cons_append]
  have HY := Lib.hid hY
  have H0 := Lib.hid h0
  clear hY h0
  gi_wp2
  gi_loopw [6] (fun p wr => ∃ (i acc : Nat) (rest : List UInt8), p = .int .i64 (i : Int) ∧ i ≤ 10 ∧ Hid (St w R b1 b2 0 lim rest acc wr) ∧ Hid (rdU bs = rd (10 - i) i acc rest ∧ acc < 128 ^ i) ∧ Hid (G wr))
    (fun p _ => 10 - (intOf p).toNat)
  case atStart =>
    exact ⟨0, 0, bs, rfl, by omega, H0.out, ⟨rfl, by simp⟩, hGW⟩
  case round =>
    obtain ⟨i, acc, rest, rfl, hi, hst, hrd, hGw⟩ := hrel
    by_cases hi10 : i < 10
    · have hii : (i : Int) < 10 := by omega
      cases rest with
      | nil =>
        have hst' := hst.out
        have hR := Lib.hid hst'.1
        have hRR := Lib.hid (hR.out.fail 10)
        obtain ⟨A, L, c, hh, -⟩ := hR.out
        have hs0 : (wr.setCell ⟨R, 0, none⟩ (.int .i64 10)).cell? ⟨R, 0, none⟩ = some (.int .i64 10) := by
          have := blk_cell (blk_set hh 0 (.int .i64 10)) 0
          simpa using this
        clear hst' hh
        have hst2 := Lib.hid (hst.out.move (grownBy_set wr R 0 (.int .i64 10)) hRR.out)
        have hG2 := Lib.hid (hG _ _ hGw.out (KeepsFrom.of_grownBy (grownBy_set wr R 0 (.int .i64 10)) (fun j e => by cases e; exact hRB)))
        gi_wp2_with (first | (refine ⟨trivial, ?_⟩; gi_at_call 37; refine (callsIn_wide.2 (Byte_end R lim _ hR.out)).mono ?_; rintro e w' ⟨rfl, rfl⟩) | (refine ⟨trivial, ?_⟩; gi_at_call 36; refine (callsIn_wide.2 (failed_any R 10 _ hs0)).mono ?_; rintro e w' ⟨rfl, rfl⟩))
        refine ⟨fun f hf => absurd hf (by simp), ?_⟩
        gi_wp2
        refine bodyPost_ret (results_none rfl _ _ _) rfl ?_
        refine ⟨⟨_, rfl⟩, .inl ⟨.inr ⟨acc, hst2.out, ?_⟩, hG2.out⟩⟩
        show rdU bs = .short
        rw [hrd.out.1]
        obtain ⟨f, hf⟩ : ∃ f, 10 - i = f + 1 := ⟨9 - i, by omega⟩
        rw [hf]; rfl
      | cons c r =>
        have hst' := hst.out
        have hR := Lib.hid hst'.1
        clear hst'
        gi_wp2_with (first
          | (refine ⟨trivial, ?_⟩; gi_at_call 37; refine (callsIn_wide.2 (Byte_one R lim c r _ hR.out)).mono ?_; rintro e w' ⟨rfl, hr1, hg1⟩
             have hst2 := Lib.hid (hst.out.move hg1 hr1)
             have hc0 : w'.cell? ⟨R, 0, none⟩ = some (.int .i64 0) := by
               obtain ⟨A, L, c, hh, -⟩ := hr1
               simpa using blk_cell hh 0
             have hG2 := Lib.hid (hG _ _ hGw.out (KeepsFrom.of_grownBy hg1 (fun j e => by cases e; exact hRB)))
             obtain ⟨fn, tmps, assign, body, hy, hRR⟩ := HY.out ⟨i, c, acc, r⟩ w' ⟨hst2.out, hrd.out, hi10⟩ hG2.out
             dsimp only at hy
             clear hr1 hg1)
          | (refine ⟨trivial, ?_⟩; gi_at_call 36; refine (callsIn_wide.2 (failed_any R 0 _ hc0)).mono ?_; rintro e w' ⟨rfl, rfl⟩))
        refine hRR.mono ?_
        rintro e W3 (⟨rfl, hIo, hG3⟩ | ⟨rfl, cc, hIx, hGx3⟩)
        · have HIo := Lib.hid hIo
          have HG3 := Lib.hid hG3
          clear hIo hG3 hy
          by_cases hc : c.toNat < 128
          · have hc' : (c.toNat : Int) < 128 := by omega
            gi_wp2
            refine bodyPost_ret (results_none rfl _ _ _) rfl ?_
            refine ⟨⟨_, rfl⟩, .inl ⟨.inl ⟨_, r, HIo.out.1, ?_⟩, HG3.out⟩⟩
            show rdU bs = .ok _ r
            rw [hrd.out.1]
            obtain ⟨f, hf⟩ : ∃ f, 10 - i = f + 1 := ⟨9 - i, by omega⟩
            rw [hf, rd, if_neg HIo.out.2.out, if_pos hc, Nat.mod_eq_of_lt hc]
          · have hc' : ¬ (c.toNat : Int) < 128 := by omega
            gi_wp2
            have hc2 := c.toNat_lt
            have hm : c.toNat % 128 = c.toNat - 128 := by omega
            refine ⟨⟨i + 1, acc + (c.toNat - 128) * 128 ^ i, r, by congr 1, by omega, ?_, ?_, HG3.out⟩, by simp only [intOf]; omega⟩
            · have := HIo.out.1
              simp only [hm] at this
              exact this
            · refine ⟨?_, ?_⟩
              · rw [hrd.out.1]
                obtain ⟨f, hf⟩ : ∃ f, 10 - i = f + 1 := ⟨9 - i, by omega⟩
                rw [hf, rd, if_neg HIo.out.2.out, if_neg hc, show 10 - (i + 1) = f by omega]
              · have h3 : (c.toNat - 128) * 128 ^ i ≤ 127 * 128 ^ i := Nat.mul_le_mul_right _ (by omega)
                have h4 := hrd.out.2
                rw [Nat.pow_succ]; omega
        · have HIx := Lib.hid hIx
          have HGx3 := Lib.hid hGx3
          clear hIx hGx3 hy
          gi_wp2
          refine bodyPost_ret (results_none rfl _ _ _) rfl ?_
          exact ⟨⟨_, rfl⟩, .inr ⟨cc, HIx.out, HGx3.out⟩⟩
    · have hii : ¬ (i : Int) < 10 := by omega
      obtain rfl : i = 10 := by omega
      gi_wp2
      go_end0
      exact ⟨⟨_, rfl⟩, .inl ⟨.inl ⟨acc, rest, hst.out, hrd.out.1⟩, hGw.out⟩⟩

theorem shl_or (acc i : Nat) (c : UInt8) (hacc : acc < 128 ^ i) (hi : i < 10) (h9 : ¬ (i = 9 ∧ 1 < c.toNat)) :
    bits .or .u64 (acc : Int) (IntKind.u64.wrap (((c.toNat % 128 : Nat) : Int) * 2 ^ (7 * i))) = ((acc + c.toNat % 128 * 128 ^ i : Nat) : Int) := by
  have hp : (128 : Nat) ^ i = 2 ^ (7 * i) := by rw [Nat.pow_mul]
  have hlt : acc + c.toNat % 128 * 128 ^ i < 18446744073709551616 := by
    by_cases h : i = 9
    · subst h
      have : (128 : Nat) ^ 9 = 9223372036854775808 := by decide
      rw [this] at hacc ⊢
      have h1 : c.toNat ≤ 1 := by omega
      have h2 : c.toNat % 128 ≤ 1 := by omega
      have : c.toNat % 128 * 9223372036854775808 ≤ 1 * 9223372036854775808 := Nat.mul_le_mul_right _ h2
      omega
    · have h1 : (128 : Nat) ^ (i + 1) ≤ 128 ^ 9 := Nat.pow_le_pow_right (by omega) (by omega)
      have h2 : (128 : Nat) ^ 9 = 9223372036854775808 := by decide
      have h3 : c.toNat % 128 * 128 ^ i ≤ 127 * 128 ^ i := Nat.mul_le_mul_right _ (by omega)
      rw [Nat.pow_succ] at h1
      omega
  have e : (((c.toNat % 128 : Nat) : Int) * 2 ^ (7 * i)) = ((c.toNat % 128 * 128 ^ i : Nat) : Int) := by rw [hp]; push_cast; rfl
  rw [e, IntKind.wrap_u64, Int.emod_eq_of_lt (by omega) (by omega), u64_or_nat _ _ (by omega) (by omega), hp, or_disjoint _ _ _ (by rw [← hp]; exact hacc)]

/-- The statement that adds seven bits, as the translation has it. -/
def ops9 (p : String) : List Oper := [
  { dst := some 30, op := Op.load 38 (Operand.tmp 3), type := 38, pos := p, after := #[], guard := none },
  { dst := some 31, op := Op.move (Operand.tmp 5), type := 5, pos := p, after := #[], guard := none },
  { dst := some 32, op := Op.binOp BinOp.andNot 5 (Operand.tmp 31) (Operand.const (Value.int IntKind.u8 128)) 5, type := 5, pos := p, after := #[{ on := 1, ground := Ground.data }], guard := none },
  { dst := some 33, op := Op.convert 5 38 (Operand.tmp 32), type := 38, pos := p, after := #[{ on := 2, ground := Ground.data }], guard := none },
  { dst := some 34, op := Op.move (Operand.tmp 4), type := 3, pos := p, after := #[], guard := none },
  { dst := some 35, op := Op.binOp BinOp.mul 3 (Operand.const (Value.int IntKind.i64 7)) (Operand.tmp 34) 3, type := 3, pos := p, after := #[{ on := 4, ground := Ground.data }], guard := none },
  { dst := some 36, op := Op.binOp BinOp.shl 38 (Operand.tmp 33) (Operand.tmp 35) 3, type := 38, pos := p, after := #[{ on := 3, ground := Ground.data }, { on := 5, ground := Ground.data }], guard := none },
  { dst := some 37, op := Op.binOp BinOp.or 38 (Operand.tmp 30) (Operand.tmp 36) 38, type := 38, pos := p, after := #[{ on := 0, ground := Ground.data }, { on := 6, ground := Ground.data }], guard := none },
  { dst := none, op := Op.store 38 (Operand.tmp 3) (Operand.tmp 37), type := 0, pos := p, after := #[{ on := 7, ground := Ground.data }, { on := 0, ground := Ground.phase }, { on := 1, ground := Ground.phase }, { on := 2, ground := Ground.phase }, { on := 3, ground := Ground.phase }, { on := 4, ground := Ground.phase }, { on := 5, ground := Ground.phase }, { on := 6, ground := Ground.phase }, { on := 7, ground := Ground.phase }], guard := none }]

/-- What each slot comes to. -/
def val9 (acc i : Nat) (c : UInt8) : Nat → Value
  | 0 => .int .u64 (acc : Int)
  | 1 => .int .u8 (c.toNat : Int)
  | 2 => .int .u8 ((c.toNat % 128 : Nat) : Int)
  | 3 => .int .u64 ((c.toNat % 128 : Nat) : Int)
  | 4 => .int .i64 (i : Int)
  | 5 => .int .i64 ((7 * i : Nat) : Int)
  | 6 => .int .u64 (IntKind.u64.wrap (((c.toNat % 128 : Nat) : Int) * 2 ^ (7 * i)))
  | _ => .int .u64 (bits .or .u64 (acc : Int) (IntKind.u64.wrap (((c.toNat % 128 : Nat) : Int) * 2 ^ (7 * i))))

set_option maxRecDepth 100000 in
set_option maxHeartbeats 4000000 in
theorem region9 {p : String} (l m b2 acc i : Nat) (c : UInt8) (hi : i < 10) (W : World) (a : Act) (Q : Exit → Act → World → Prop) (hN : a.tmps.size = 43) (h3 : a.tmps.getD 3 undef = .pointer (some ⟨b2, 0, none⟩)) (h4 : a.tmps.getD 4 undef = .int .i64 (i : Int)) (h5 : a.tmps.getD 5 undef = .int .u8 (c.toNat : Int))
    (hc2 : W.cell? ⟨b2, 0, none⟩ = some (.int .u64 (acc : Int))) (hf2 : W.frozen? ⟨b2, 0, none⟩ = false)
    (hQ : ∀ a', Q .normal a' ((W.setCell ⟨b2, 0, none⟩ (val9 acc i c 7)).drew)) :
    (Code.region 9 (ops9 p).toArray true).wpIn (Fence.wide.inRound l) m Tryd.prog Q a W := by
  have hcd : W.drew.cell? ⟨b2, 0, none⟩ = some (.int .u64 (acc : Int)) := hc2
  have hfd : W.drew.frozen? ⟨b2, 0, none⟩ = false := hf2
  refine wpIn_region_by follows (by kernel_rfl) (fun L a' w' => a'.tmps.size = 43 ∧ (a'.tmps.getD 3 undef = .pointer (some ⟨b2, 0, none⟩) ∧ a'.tmps.getD 4 undef = .int .i64 (i : Int) ∧ a'.tmps.getD 5 undef = .int .u8 (c.toNat : Int)) ∧ (∀ j, j < 8 → L j = true → a'.tmps.getD (30 + j) undef = val9 acc i c j) ∧ (L 8 = false → w' = W.drew) ∧ (L 8 = true → w' = W.drew.setCell ⟨b2, 0, none⟩ (val9 acc i c 7)))
    ⟨hN, ⟨h3, h4, h5⟩, fun _ _ h => absurd h (by simp), fun _ => rfl, fun h => absurd h (by simp)⟩ ?_ ?_
  · rintro L a' w' j o ⟨hs, ⟨k3, k4, k5⟩, hv, hw0, _⟩ hj hlj hpre hcl
    have hlt : j < 9 := by
      have := (Array.getElem?_eq_some_iff.1 hj).1
      simpa [ops9] using this
    have put : ∀ (v : Value), j < 8 → v = val9 acc i c j → L 8 = false → w' = W.drew →
        ((a'.put (some (30 + j)) v).tmps.size = 43 ∧ ((a'.put (some (30 + j)) v).tmps.getD 3 undef = .pointer (some ⟨b2, 0, none⟩) ∧ (a'.put (some (30 + j)) v).tmps.getD 4 undef = .int .i64 (i : Int) ∧ (a'.put (some (30 + j)) v).tmps.getD 5 undef = .int .u8 (c.toNat : Int)) ∧ (∀ q, q < 8 → (L q || q == j) = true → (a'.put (some (30 + j)) v).tmps.getD (30 + q) undef = val9 acc i c q) ∧ ((L 8 || 8 == j) = false → w' = W.drew) ∧ ((L 8 || 8 == j) = true → w' = W.drew.setCell ⟨b2, 0, none⟩ (val9 acc i c 7))) := by
      intro v hj8 hval h8 hw'
      refine ⟨size_put.trans hs, ⟨(getD_put_ne (by omega)).trans k3, (getD_put_ne (by omega)).trans k4, (getD_put_ne (by omega)).trans k5⟩, fun q hq hlq => ?_, fun _ => hw', fun h => ?_⟩
      · by_cases e : q = j
        · subst e; rw [getD_put_same (by rw [hs]; omega)]; exact hval
        · rw [getD_put_ne (by omega)]; exact hv q hq (by simpa [e] using hlq)
      · have : ¬ (8 = j) := by omega
        simp [h8, this] at h
    have no8 : j < 8 → L 8 = false := by
      intro hj8
      refine Bool.eq_false_iff.2 fun h8 => ?_
      have := hcl 8 _ { on := j, ground := Ground.phase } (show (ops9 p).toArray[8]? = some { dst := none, op := Op.store 38 (Operand.tmp 3) (Operand.tmp 37), type := 0, pos := p, after := #[{ on := 7, ground := Ground.data }, { on := 0, ground := Ground.phase }, { on := 1, ground := Ground.phase }, { on := 2, ground := Ground.phase }, { on := 3, ground := Ground.phase }, { on := 4, ground := Ground.phase }, { on := 5, ground := Ground.phase }, { on := 6, ground := Ground.phase }, { on := 7, ground := Ground.phase }], guard := none } from rfl) h8 (by
        rcases j with _ | _ | _ | _ | _ | _ | _ | _ | j <;> first | (simp; done) | omega) rfl
      rw [hlj] at this; cases this
    have pre : ∀ q, q < 8 → hasEdge o q = true → a'.tmps.getD (30 + q) undef = val9 acc i c q := by
      intro q hq he
      unfold hasEdge at he
      rw [List.any_eq_true] at he
      obtain ⟨e, hem, he'⟩ := he
      have h1 : e.on = q ∧ Region.binds .any e = true := by simpa using he'
      exact hv q hq (h1.1 ▸ hpre e (by simpa using hem) h1.2)
    rcases j with _ | _ | _ | _ | _ | _ | _ | _ | _ | j
    · have hw' := hw0 (no8 (by omega))
      subst hw'
      refine step_run (o := { dst := some 30, op := Op.load 38 (Operand.tmp 3), type := 38, pos := p, after := #[], guard := none }) rfl rfl (by intro c h; cases h) rfl (v := val9 acc i c 0) (w' := W.drew) ?_ (put _ (by omega) rfl (no8 (by omega)) rfl)
      simp only [execOp, Act.eval, k3, val9]
      simp [go_sem, hcd]
    · have hw' := hw0 (no8 (by omega))
      subst hw'
      refine step_run (o := { dst := some 31, op := Op.move (Operand.tmp 5), type := 5, pos := p, after := #[], guard := none }) rfl rfl (by intro c h; cases h) rfl (v := val9 acc i c 1) (w' := W.drew) ?_ (put _ (by omega) rfl (no8 (by omega)) rfl)
      simp only [execOp, Act.eval, k5, val9]
      simp [go_sem]
    · have hw' := hw0 (no8 (by omega))
      subst hw'
      have p1 := pre 1 (by omega) (by rw [← Option.some.inj hj]; rfl)
      simp only [val9, Nat.reduceAdd] at p1
      refine step_run (o := { dst := some 32, op := Op.binOp BinOp.andNot 5 (Operand.tmp 31) (Operand.const (Value.int IntKind.u8 128)) 5, type := 5, pos := p, after := #[{ on := 1, ground := Ground.data }], guard := none }) rfl rfl (by intro c h; cases h) rfl (v := val9 acc i c 2) (w' := W.drew) ?_ (put _ (by omega) rfl (no8 (by omega)) rfl)
      simp only [execOp, Act.eval, p1, val9]
      simp [go_sem]
      have := andNot128 c
      push_cast at this
      exact this
    · have hw' := hw0 (no8 (by omega))
      subst hw'
      have p2 := pre 2 (by omega) (by rw [← Option.some.inj hj]; rfl)
      simp only [val9, Nat.reduceAdd] at p2
      refine step_run (o := { dst := some 33, op := Op.convert 5 38 (Operand.tmp 32), type := 38, pos := p, after := #[{ on := 2, ground := Ground.data }], guard := none }) rfl rfl (by intro c h; cases h) rfl (v := val9 acc i c 3) (w' := W.drew) ?_ (put _ (by omega) rfl (no8 (by omega)) rfl)
      simp only [execOp, Act.eval, p2, val9]
      simp [go_sem]
      have := c.toNat_lt
      rw [IntKind.wrap_u64]; omega
    · have hw' := hw0 (no8 (by omega))
      subst hw'
      refine step_run (o := { dst := some 34, op := Op.move (Operand.tmp 4), type := 3, pos := p, after := #[], guard := none }) rfl rfl (by intro c h; cases h) rfl (v := val9 acc i c 4) (w' := W.drew) ?_ (put _ (by omega) rfl (no8 (by omega)) rfl)
      simp only [execOp, Act.eval, k4, val9]
      simp [go_sem]
    · have hw' := hw0 (no8 (by omega))
      subst hw'
      have p4 := pre 4 (by omega) (by rw [← Option.some.inj hj]; rfl)
      simp only [val9, Nat.reduceAdd] at p4
      refine step_run (o := { dst := some 35, op := Op.binOp BinOp.mul 3 (Operand.const (Value.int IntKind.i64 7)) (Operand.tmp 34) 3, type := 3, pos := p, after := #[{ on := 4, ground := Ground.data }], guard := none }) rfl rfl (by intro c h; cases h) rfl (v := val9 acc i c 5) (w' := W.drew) ?_ (put _ (by omega) rfl (no8 (by omega)) rfl)
      simp only [execOp, Act.eval, p4, val9]
      simp [go_sem]
      rw [IntKind.wrap_i64]; omega
    · have hw' := hw0 (no8 (by omega))
      subst hw'
      have p3 := pre 3 (by omega) (by rw [← Option.some.inj hj]; rfl)
      simp only [val9, Nat.reduceAdd] at p3
      have p5 := pre 5 (by omega) (by rw [← Option.some.inj hj]; rfl)
      simp only [val9, Nat.reduceAdd] at p5
      refine step_run (o := { dst := some 36, op := Op.binOp BinOp.shl 38 (Operand.tmp 33) (Operand.tmp 35) 3, type := 38, pos := p, after := #[{ on := 3, ground := Ground.data }, { on := 5, ground := Ground.data }], guard := none }) rfl rfl (by intro c h; cases h) rfl (v := val9 acc i c 6) (w' := W.drew) ?_ (put _ (by omega) rfl (no8 (by omega)) rfl)
      simp only [execOp, Act.eval, p3, p5, val9]
      simp [go_sem]
      rw [show (7 * (i : Int)).toNat = 7 * i by omega]
    · have hw' := hw0 (no8 (by omega))
      subst hw'
      have p0 := pre 0 (by omega) (by rw [← Option.some.inj hj]; rfl)
      simp only [val9, Nat.reduceAdd] at p0
      have p6 := pre 6 (by omega) (by rw [← Option.some.inj hj]; rfl)
      simp only [val9, Nat.reduceAdd] at p6
      refine step_run (o := { dst := some 37, op := Op.binOp BinOp.or 38 (Operand.tmp 30) (Operand.tmp 36) 38, type := 38, pos := p, after := #[{ on := 0, ground := Ground.data }, { on := 6, ground := Ground.data }], guard := none }) rfl rfl (by intro c h; cases h) rfl (v := val9 acc i c 7) (w' := W.drew) ?_ (put _ (by omega) rfl (no8 (by omega)) rfl)
      simp only [execOp, Act.eval, p0, p6, val9]
      simp [go_sem]
    · have h8 : L 8 = false := hlj
      have hw' := hw0 h8
      subst hw'
      have p7 := pre 7 (by omega) (by rw [← Option.some.inj hj]; rfl)
      simp only [Nat.reduceAdd] at p7
      refine step_skip (o := { dst := none, op := Op.store 38 (Operand.tmp 3) (Operand.tmp 37), type := 0, pos := p, after := #[{ on := 7, ground := Ground.data }, { on := 0, ground := Ground.phase }, { on := 1, ground := Ground.phase }, { on := 2, ground := Ground.phase }, { on := 3, ground := Ground.phase }, { on := 4, ground := Ground.phase }, { on := 5, ground := Ground.phase }, { on := 6, ground := Ground.phase }, { on := 7, ground := Ground.phase }], guard := none }) rfl rfl (by intro c h; cases h) rfl (w' := W.drew.setCell ⟨b2, 0, none⟩ (val9 acc i c 7)) ?_ ⟨hs, ⟨k3, k4, k5⟩, fun q hq hlq => hv q hq ?_, fun h => ?_, fun _ => rfl⟩
      · simp only [execOp, Act.eval, k3, p7]
        simp [go_sem, hcd, hfd, val9]
      · have : ¬ (q = 8) := by omega
        simpa [this] using hlq
      · simp at h
    · omega
  · rintro L a' w' ⟨_, _, _, _, h8⟩ hl
    rw [h8 (hl 8 (by simp [ops9]))]
    exact hQ a'

end Go.Proofs.YtbhncffeoolhfaaDoor