/- A row of numbers of the kind uint64 as it lies: what its loads, stores and exchanges come to; cmp.Less; the insertion sort. The plain functions and what is known of them are the library's. -/
import Derived.Test.YtnpkaljmncehhaaMBaseO
import Derived.Sort.AssemblyPlain
import Derived.CellFam
import Derived.Deep.Draws
import Derived.Deep.QuietTactic
import Derived.Deep.DeepCutAuto
import Derived.BigQuiet
import Derived.BigGuard
import Derived.BigCall
import Derived.WalkKit
namespace Go.Proofs.Ytnpkaljmncehhaa
open Go.RowKit Go.Sort

abbrev nV (x : Int) : Value := .int .u64 x
/-- A row's cells: d between others. -/
def rowZ (pre : List Value) (d : Array Int) (rest : List Value) : Array Value := (pre ++ d.toList.map nV ++ rest).toArray
theorem rowZ_get {pre rest : List Value} {d : Array Int} {t : Nat} (h : t < d.size) : (rowZ pre d rest)[pre.length + t]? = some (nV d[t]!) := by
  unfold rowZ
  have h1 : t < d.toList.length := by simpa using h
  rw [List.getElem?_toArray, List.append_assoc, List.getElem?_append_right (by omega), Nat.add_sub_cancel_left, List.getElem?_append_left (by simpa using h), List.getElem?_map, List.getElem?_eq_getElem h1, getElem!_pos d t h]
  simp
theorem rowZ_set {pre rest : List Value} {d : Array Int} {t : Nat} (x : Int) (h : t < d.size) : (rowZ pre d rest).setIfInBounds (pre.length + t) (nV x) = rowZ pre (d.setIfInBounds t x) rest := by
  unfold rowZ
  rw [List.setIfInBounds_toArray]
  congr 1
  rw [List.append_assoc, List.append_assoc, List.set_append_right _ _ (by omega), Nat.add_sub_cancel_left, List.set_append_left _ _ (by simpa using h)]
  congr 2
  rw [Array.toList_setIfInBounds, List.map_set]
/-- Behind calls that began at w the row lies at b from off on and holds d; of what lay in w nothing else has changed. -/
structure SR (w : World) (b off n : Nat) (pre rest : List Value) (d : Array Int) (W : World) : Prop where
  size : d.size = n
  off : off = pre.length
  row : W.heap[b]? = some (.cells (rowZ pre d rest) 77 (0, 0))
  grown : w.grownBy W (some b)
section
variable {w W W' : World} {b off n : Nat} {pre rest : List Value} {d : Array Int}
theorem SR.cell (h : SR w b off n pre rest d W) {t : Nat} (ht : t < n) : W.cell? ⟨b, off + t, none⟩ = some (nV d[t]!) := by
  rw [blk_cell h.row, h.off]
  exact rowZ_get (by rw [h.size]; exact ht)
theorem SR.frozen (h : SR w b off n pre rest d W) (t : Nat) : W.frozen? ⟨b, off + t, none⟩ = false := blk_frozen h.row _
theorem SR.lt (h : SR w b off n pre rest d W) : b < W.heap.size := (Array.getElem?_eq_some_iff.1 h.row).1
theorem SR.drewN (h : SR w b off n pre rest d W) (q : Nat) : SR w b off n pre rest d (W.drewN q) := ⟨h.size, h.off, h.row, ⟨h.grown.os, h.grown.tape, h.grown.output, h.grown.size, h.grown.block⟩⟩
theorem SR.drew (h : SR w b off n pre rest d W) : SR w b off n pre rest d W.drew := h.drewN 1
/-- Behind a call that changed no block of W but new ones. -/
theorem SR.grew (h : SR w b off n pre rest d W) (hb : Go.RowKit.Below W.heap.size W W') : SR w b off n pre rest d W' := ⟨h.size, h.off, (hb.block b h.lt).trans h.row, grownBy_trans h.grown (grownBy_of_below hb)⟩
/-- A cell of a block that came since w was written. -/
theorem SR.other (h : SR w b off n pre rest d W) {q : Nat} (hq : w.heap.size ≤ q) (hb : q ≠ b) (i : Nat) (v : Value) : SR w b off n pre rest d (W.setCell ⟨q, i, none⟩ v) := by
  refine ⟨h.size, h.off, (Go.RowKit.Below.heap_setCell _ _ _ _ (fun e => hb (by simpa using e.symm))).trans h.row, ⟨h.grown.os, h.grown.tape, h.grown.output, ?_, fun k hk hne => (Go.RowKit.Below.heap_setCell _ _ _ _ (fun e => ?_)).trans (h.grown.block k hk hne)⟩⟩
  · simpa [World.setCell] using h.grown.size
  · have : k = q := by simpa using e
    omega
theorem SR.set (h : SR w b off n pre rest d W) {t : Nat} (ht : t < n) (x : Int) : SR w b off n pre rest (d.setIfInBounds t x) (W.setCell ⟨b, off + t, none⟩ (nV x)) := by
  refine ⟨by rw [Array.size_setIfInBounds]; exact h.size, h.off, ?_, grownBy_trans h.grown (grownBy_set _ _ _ _)⟩
  rw [blk_set h.row, h.off, rowZ_set x (by rw [h.size]; exact ht)]
/-- An exchange, q draws on. -/
theorem SR.swap (h : SR w b off n pre rest d W) {j k : Nat} (hj : j < n) (hk : k < n) (q : Nat) : SR w b off n pre rest (swp d j k) (((W.drewN q).setCell ⟨b, off + j, none⟩ (nV d[k]!)).setCell ⟨b, off + k, none⟩ (nV d[j]!)) :=
  ((h.drewN q).set hj _).set hk _
theorem SR.alloc (h : SR w b off n pre rest d W) (o : Obj) : SR w b off n pre rest d (W.alloc o) := h.grew ((Go.RowKit.Below.refl _ W).alloc (Nat.le_refl _) o)
end
theorem swp_len (d : Array Int) (i j : Nat) : (swp d i j).size = d.size := swp_size d i j

set_option maxHeartbeats 1000000 in
theorem isNaN_n (x : Int) (w : World) : Calls Try.prog 66 #[nV x] w fun e w' => e = .returned (.bool false) ∧ w' = w := by
  go_enter Try.func66, Try.ntmps66
  go_wp2
  go_ret
  exact ⟨by simp, rfl⟩
set_option maxHeartbeats 1000000 in
theorem less_n (x y : Int) (w : World) : Calls Try.prog 55 #[nV x, nV y] w fun e w' => e = .returned (.bool (ltInt x y)) ∧ w' = w := by
  go_enter Try.func55, Try.ntmps55
  go_wp2_with (go_at_call 66; refine (isNaN_n _ _).mono ?_; rintro e w' ⟨rfl, rfl⟩)
  go_ret
  exact ⟨rfl, rfl⟩

/-! The insertion sort's loops, a step at a time. -/
section
variable (lt : Int → Int → Bool)
theorem insI_go {a j : Nat} {d : Array Int} (hj : a < j) (hl : lt d[j]! d[j - 1]! = true) : insInner lt a j d = insInner lt a (j - 1) (swp d j (j - 1)) := by
  cases j with
  | zero => omega
  | succ k =>
    have hl' : lt d[k + 1]! d[k]! = true := hl
    rw [insInner, if_pos (by rw [hl', Bool.and_true]; exact decide_eq_true hj)]
    rfl
theorem insI_end {a j : Nat} {d : Array Int} (h : j ≤ a ∨ lt d[j]! d[j - 1]! = false) : insInner lt a j d = d := by
  cases j with
  | zero => rfl
  | succ k =>
    rw [insInner, if_neg]
    rcases h with h | h
    · simp; omega
    · have h' : lt d[k + 1]! d[k]! = false := h
      rw [h', Bool.and_false]
      exact Bool.false_ne_true
theorem insO_go {a e i : Nat} {d : Array Int} (h : i < e) : insOuter lt a e i d = insOuter lt a e (i + 1) (insInner lt a i d) := by
  conv => lhs; rw [insOuter]
  rw [if_pos h]
theorem insO_end {a e i : Nat} {d : Array Int} (h : ¬ i < e) : insOuter lt a e i d = d := by
  rw [insOuter, if_neg h]
end
set_option maxRecDepth 100000 in
set_option maxHeartbeats 4000000 in
theorem ins_n {w W0 : World} {b off n : Nat} {pre rest : List Value} {d : Array Int} (cap a e : Nat) (hs : SR w b off n pre rest d W0) (hae : a ≤ e) (he : e ≤ n) (hsz : n < 4611686018427387904) :
    Calls Try.prog 49 #[.slice (some ⟨b, off, none⟩) n cap, .int .i64 (a : Int), .int .i64 (e : Int)] W0 fun x W => x = .returned (.tuple #[]) ∧ SR w b off n pre rest (insertionSort ltInt d a e) W := by
  have HS := Lib.hid hs
  clear hs
  go_enter Try.func49, Try.ntmps49
  go_wp2
  go_loopw [6] (fun vi wr => ∃ (i : Nat) (dk : Array Int), vi = .int .i64 (i : Int) ∧ a < i ∧ i ≤ e + 1 ∧ Hid (SR w b off n pre rest dk wr ∧ insOuter ltInt a e i dk = insertionSort ltInt d a e)) (fun vi _ => e + 1 - (intOf vi).toNat)
  case atStart => exact ⟨a + 1, d, by go_num, by omega, by omega, Lib.hid ⟨HS.out, rfl⟩⟩
  case round =>
    obtain ⟨i, dk, rfl, hai, hie, HI⟩ := hrel
    by_cases hlt : i < e
    · have hlz : (i : Int) < (e : Int) := by omega
      go_wp2
      go_loopw [7] (fun vj wr2 => ∃ (j : Nat) (dj : Array Int), vj = .int .i64 (j : Int) ∧ a ≤ j ∧ j ≤ i ∧ Hid (SR w b off n pre rest dj wr2 ∧ insInner ltInt a j dj = insInner ltInt a i dk)) (fun vj _ => (intOf vj).toNat)
      case atStart => exact ⟨i, dk, rfl, by omega, Nat.le_refl _, Lib.hid ⟨HI.out.1, rfl⟩⟩
      case round =>
        obtain ⟨j, dj, rfl, haj, hji, HJ⟩ := hrel
        obtain ⟨G, hG⟩ : ∃ G : Nat → Int, ∀ t, G t = dj[t]! := ⟨fun t => dj[t]!, fun _ => rfl⟩
        have hcw : ∀ t, t < n → wr.cell? ⟨b, off + t, none⟩ = some (.int .u64 (G t)) := fun t ht => by rw [hG]; exact HJ.out.1.cell ht
        have hfw : ∀ t, t < n → wr.frozen? ⟨b, off + t, none⟩ = false := fun t _ => HJ.out.1.frozen t
        have HG := Lib.hid hG
        clear hG
        -- the inner loop is at its end
        have hout : (j ≤ a ∨ ltInt dj[j]! dj[j - 1]! = false) → ∀ q, ∃ (i' : Nat) (dk' : Array Int), Value.int .i64 ((i : Int) + 1) = .int .i64 (i' : Int) ∧ a < i' ∧ i' ≤ e + 1 ∧ Hid (SR w b off n pre rest dk' (wr.drewN q) ∧ insOuter ltInt a e i' dk' = insertionSort ltInt d a e) := fun hst q =>
          ⟨i + 1, dj, by go_num, by omega, by omega, Lib.hid ⟨HJ.out.1.drewN q, by rw [← HI.out.2, insO_go ltInt hlt, ← HJ.out.2, insI_end ltInt hst]⟩⟩
        have OUT : Hid _ := Lib.hid hout
        clear hout
        go_wp2
        by_cases hja : a < j
        · go_quiet (first | (go_at_call 55; refine Calls.quiet_of_same (less_n _ _ _)))
          go_wp2
          · have hl : ltInt (G j) (G (j - 1)) = true := by assumption
            go_region
            all_goals go_wp2
            go_roundw
            case rel =>
              refine ⟨j - 1, swp dj j (j - 1), by congr 1; omega, by omega, by omega, Lib.hid ⟨?_, ?_⟩⟩
              · rw [HG.out, HG.out]
                exact HJ.out.1.swap (by omega) (by omega) (nq + 1)
              · rw [← HJ.out.2, insI_go ltInt hja (by rw [← HG.out, ← HG.out]; exact hl)]
            case measure => simp [intOf]; omega
          · have hl : ltInt (G j) (G (j - 1)) = false := by assumption
            go_roundw
            case rel => exact OUT.out (.inr (by rw [← HG.out, ← HG.out]; exact hl)) nq
            case measure => simp [intOf]; omega
        · go_quiet (first | (go_at_call 55; refine Calls.quiet_of_same (less_n _ _ _)))
          go_wp2
          go_roundw
          case rel => exact OUT.out (.inl (by omega)) nq
          case measure => simp [intOf]; omega
    · have hlz : ¬ (i : Int) < (e : Int) := by omega
      go_wp2
      go_end0
      exact ⟨rfl, by rw [← HI.out.2, insO_end ltInt hlt]; exact HI.out.1⟩
end Go.Proofs.Ytnpkaljmncehhaa
