/- A row of numbers of the kind uint32 as it lies: what its loads, stores and exchanges come to; cmp.Less; the insertion sort. The plain functions and what is known of them are the library's. The heap sort of a row of numbers; a row turned round. The partitions of a row of numbers: partitionEqual, partition. -/
import Derived.Test.YthmmbopibpdpiaaGreatDoorMBaseO
import Derived.Sort.AssemblyPlain
import Derived.CellFam
import Derived.Deep.Draws
import Derived.Deep.QuietTactic
import Derived.Deep.DeepCutAuto
import Derived.BigQuiet
import Derived.BigGuard
import Derived.BigCall
import Derived.WalkKit
import Derived.Deep.CutBlock
import Derived.Handy
-- SoA
namespace Go.Proofs.YthmmbopibpdpiaaGreatDoor
open Go.RowKit Go.Sort

abbrev nV (x : Int) : Value := .int .u32 x
/-- A row's cells: d between others. -/
def rowZ (pre : List Value) (d : Array Int) (rest : List Value) : Array Value := (pre ++ d.toList.map nV ++ rest).toArray
theorem rowZ_get {pre rest : List Value} {d : Array Int} {t : Nat} (h : t < d.size) : (rowZ pre d rest)[pre.length + t]? = some (nV d[t]!) := by
  unfold rowZ
  have h1 : t < d.toList.length := by simpa using h
  rw [List.getElem?_toArray, List.append_assoc, List.getElem?_append_right (by omega), Nat.add_sub_cancel_left, List.getElem?_append_left (by simpa using h), List.getElem?_map, List.getElem?_eq_getElem h1, getElem!_pos d t h]
  simp
theorem rowZ_set {pre rest : List Value} {d : Array Int} {t : Nat} (x : Int) (h : t < d.size) : (rowZ pre d rest).setIfInBounds (pre.length + t) (nV x) = rowZ pre (d.setIfInBounds t x) rest := by
  unfold rowZ
  rw [List.setIfInBounds_toArray]
  congr 1
  rw [List.append_assoc, List.append_assoc, List.set_append_right _ _ (by omega), Nat.add_sub_cancel_left, List.set_append_left _ _ (by simpa using h)]
  congr 2
  rw [Array.toList_setIfInBounds, List.map_set]
/-- Behind calls that began at w the row lies at b from off on and holds d; of what lay in w nothing else has changed. -/
structure SR (w : World) (b off n : Nat) (pre rest : List Value) (d : Array Int) (W : World) : Prop where
  size : d.size = n
  off : off = pre.length
  row : W.heap[b]? = some (.cells (rowZ pre d rest) 31 (0, 0))
  grown : w.grownBy W (some b)
section
variable {w W W' : World} {b off n : Nat} {pre rest : List Value} {d : Array Int}
theorem SR.cell (h : SR w b off n pre rest d W) {t : Nat} (ht : t < n) : W.cell? ⟨b, off + t, none⟩ = some (nV d[t]!) := by
  rw [blk_cell h.row, h.off]
  exact rowZ_get (by rw [h.size]; exact ht)
theorem SR.frozen (h : SR w b off n pre rest d W) (t : Nat) : W.frozen? ⟨b, off + t, none⟩ = false := blk_frozen h.row _
theorem SR.lt (h : SR w b off n pre rest d W) : b < W.heap.size := (Array.getElem?_eq_some_iff.1 h.row).1
theorem SR.drewN (h : SR w b off n pre rest d W) (q : Nat) : SR w b off n pre rest d (W.drewN q) := ⟨h.size, h.off, h.row, ⟨h.grown.os, h.grown.tape, h.grown.output, h.grown.size, h.grown.block⟩⟩
theorem SR.drew (h : SR w b off n pre rest d W) : SR w b off n pre rest d W.drew := h.drewN 1
/-- Behind a call that changed no block of W but new ones. -/
theorem SR.grew (h : SR w b off n pre rest d W) (hb : Go.RowKit.Below W.heap.size W W') : SR w b off n pre rest d W' := ⟨h.size, h.off, (hb.block b h.lt).trans h.row, grownBy_trans h.grown (grownBy_of_below hb)⟩
/-- A cell of a block that came since w was written. -/
theorem SR.other (h : SR w b off n pre rest d W) {q : Nat} (hq : w.heap.size ≤ q) (hb : q ≠ b) (i : Nat) (v : Value) : SR w b off n pre rest d (W.setCell ⟨q, i, none⟩ v) := by
  refine ⟨h.size, h.off, (Go.RowKit.Below.heap_setCell _ _ _ _ (fun e => hb (by simpa using e.symm))).trans h.row, ⟨h.grown.os, h.grown.tape, h.grown.output, ?_, fun k hk hne => (Go.RowKit.Below.heap_setCell _ _ _ _ (fun e => ?_)).trans (h.grown.block k hk hne)⟩⟩
  · simpa [World.setCell] using h.grown.size
  · have : k = q := by simpa using e
    omega
theorem SR.set (h : SR w b off n pre rest d W) {t : Nat} (ht : t < n) (x : Int) : SR w b off n pre rest (d.setIfInBounds t x) (W.setCell ⟨b, off + t, none⟩ (nV x)) := by
  refine ⟨by rw [Array.size_setIfInBounds]; exact h.size, h.off, ?_, grownBy_trans h.grown (grownBy_set _ _ _ _)⟩
  rw [blk_set h.row, h.off, rowZ_set x (by rw [h.size]; exact ht)]
/-- An exchange, q draws on. -/
theorem SR.swap (h : SR w b off n pre rest d W) {j k : Nat} (hj : j < n) (hk : k < n) (q : Nat) : SR w b off n pre rest (swp d j k) (((W.drewN q).setCell ⟨b, off + j, none⟩ (nV d[k]!)).setCell ⟨b, off + k, none⟩ (nV d[j]!)) :=
  ((h.drewN q).set hj _).set hk _
theorem SR.alloc (h : SR w b off n pre rest d W) (o : Obj) : SR w b off n pre rest d (W.alloc o) := h.grew ((Go.RowKit.Below.refl _ W).alloc (Nat.le_refl _) o)
end
theorem swp_len (d : Array Int) (i j : Nat) : (swp d i j).size = d.size := swp_size d i j

set_option maxHeartbeats 1000000 in
theorem isNaN_n (x : Int) (w : World) : Calls Tryz.prog 121 #[nV x] w fun e w' => e = .returned (.bool false) ∧ w' = w := by
  go_enter Tryz.func121, Tryz.ntmps121
  go_wp2
  go_ret
  exact ⟨by simp, rfl⟩
set_option maxHeartbeats 1000000 in
theorem less_n (x y : Int) (w : World) : Calls Tryz.prog 96 #[nV x, nV y] w fun e w' => e = .returned (.bool (ltInt x y)) ∧ w' = w := by
  go_enter Tryz.func96, Tryz.ntmps96
  go_wp2_with (go_at_call 121; refine (isNaN_n _ _).mono ?_; rintro e w' ⟨rfl, rfl⟩)
  go_ret
  exact ⟨rfl, rfl⟩

/-! The insertion sort's loops, a step at a time. -/
section
variable (lt : Int → Int → Bool)
theorem insI_go {a j : Nat} {d : Array Int} (hj : a < j) (hl : lt d[j]! d[j - 1]! = true) : insInner lt a j d = insInner lt a (j - 1) (swp d j (j - 1)) := by
  cases j with
  | zero => omega
  | succ k =>
    have hl' : lt d[k + 1]! d[k]! = true := hl
    rw [insInner, if_pos (by rw [hl', Bool.and_true]; exact decide_eq_true hj)]
    rfl
theorem insI_end {a j : Nat} {d : Array Int} (h : j ≤ a ∨ lt d[j]! d[j - 1]! = false) : insInner lt a j d = d := by
  cases j with
  | zero => rfl
  | succ k =>
    rw [insInner, if_neg]
    rcases h with h | h
    · simp; omega
    · have h' : lt d[k + 1]! d[k]! = false := h
      rw [h', Bool.and_false]
      exact Bool.false_ne_true
theorem insO_go {a e i : Nat} {d : Array Int} (h : i < e) : insOuter lt a e i d = insOuter lt a e (i + 1) (insInner lt a i d) := by
  conv => lhs; rw [insOuter]
  rw [if_pos h]
theorem insO_end {a e i : Nat} {d : Array Int} (h : ¬ i < e) : insOuter lt a e i d = d := by
  rw [insOuter, if_neg h]
end
set_option maxRecDepth 100000 in
set_option maxHeartbeats 4000000 in
theorem ins_n {w W0 : World} {b off n : Nat} {pre rest : List Value} {d : Array Int} (cap a e : Nat) (hs : SR w b off n pre rest d W0) (hae : a ≤ e) (he : e ≤ n) (hsz : n < 4611686018427387904) :
    Calls Tryz.prog 90 #[.slice (some ⟨b, off, none⟩) n cap, .int .i64 (a : Int), .int .i64 (e : Int)] W0 fun x W => x = .returned (.tuple #[]) ∧ SR w b off n pre rest (insertionSort ltInt d a e) W := by
  have HS := Lib.hid hs
  clear hs
  go_enter Tryz.func90, Tryz.ntmps90
  go_wp2
  go_loopw [6] (fun vi wr => ∃ (i : Nat) (dk : Array Int), vi = .int .i64 (i : Int) ∧ a < i ∧ i ≤ e + 1 ∧ Hid (SR w b off n pre rest dk wr ∧ insOuter ltInt a e i dk = insertionSort ltInt d a e)) (fun vi _ => e + 1 - (intOf vi).toNat)
  case atStart => exact ⟨a + 1, d, by go_num, by omega, by omega, Lib.hid ⟨HS.out, rfl⟩⟩
  case round =>
    obtain ⟨i, dk, rfl, hai, hie, HI⟩ := hrel
    by_cases hlt : i < e
    · have hlz : (i : Int) < (e : Int) := by omega
      go_wp2
      go_loopw [7] (fun vj wr2 => ∃ (j : Nat) (dj : Array Int), vj = .int .i64 (j : Int) ∧ a ≤ j ∧ j ≤ i ∧ Hid (SR w b off n pre rest dj wr2 ∧ insInner ltInt a j dj = insInner ltInt a i dk)) (fun vj _ => (intOf vj).toNat)
      case atStart => exact ⟨i, dk, rfl, by omega, Nat.le_refl _, Lib.hid ⟨HI.out.1, rfl⟩⟩
      case round =>
        obtain ⟨j, dj, rfl, haj, hji, HJ⟩ := hrel
        obtain ⟨G, hG⟩ : ∃ G : Nat → Int, ∀ t, G t = dj[t]! := ⟨fun t => dj[t]!, fun _ => rfl⟩
        have hcw : ∀ t, t < n → wr.cell? ⟨b, off + t, none⟩ = some (.int .u32 (G t)) := fun t ht => by rw [hG]; exact HJ.out.1.cell ht
        have hfw : ∀ t, t < n → wr.frozen? ⟨b, off + t, none⟩ = false := fun t _ => HJ.out.1.frozen t
        have HG := Lib.hid hG
        clear hG
        -- the inner loop is at its end
        have hout : (j ≤ a ∨ ltInt dj[j]! dj[j - 1]! = false) → ∀ q, ∃ (i' : Nat) (dk' : Array Int), Value.int .i64 ((i : Int) + 1) = .int .i64 (i' : Int) ∧ a < i' ∧ i' ≤ e + 1 ∧ Hid (SR w b off n pre rest dk' (wr.drewN q) ∧ insOuter ltInt a e i' dk' = insertionSort ltInt d a e) := fun hst q =>
          ⟨i + 1, dj, by go_num, by omega, by omega, Lib.hid ⟨HJ.out.1.drewN q, by rw [← HI.out.2, insO_go ltInt hlt, ← HJ.out.2, insI_end ltInt hst]⟩⟩
        have OUT : Hid _ := Lib.hid hout
        clear hout
        go_wp2
        by_cases hja : a < j
        · go_quiet (first | (go_at_call 96; refine Calls.quiet_of_same (less_n _ _ _)))
          go_wp2
          · have hl : ltInt (G j) (G (j - 1)) = true := by assumption
            go_region
            all_goals go_wp2
            go_roundw
            case rel =>
              refine ⟨j - 1, swp dj j (j - 1), by congr 1; omega, by omega, by omega, Lib.hid ⟨?_, ?_⟩⟩
              · rw [HG.out, HG.out]
                exact HJ.out.1.swap (by omega) (by omega) (nq + 1)
              · rw [← HJ.out.2, insI_go ltInt hja (by rw [← HG.out, ← HG.out]; exact hl)]
            case measure => simp [intOf]; omega
          · have hl : ltInt (G j) (G (j - 1)) = false := by assumption
            go_roundw
            case rel => exact OUT.out (.inr (by rw [← HG.out, ← HG.out]; exact hl)) nq
            case measure => simp [intOf]; omega
        · go_quiet (first | (go_at_call 96; refine Calls.quiet_of_same (less_n _ _ _)))
          go_wp2
          go_roundw
          case rel => exact OUT.out (.inl (by omega)) nq
          case measure => simp [intOf]; omega
    · have hlz : ¬ (i : Int) < (e : Int) := by omega
      go_wp2
      go_end0
      exact ⟨rfl, by rw [← HI.out.2, insO_end ltInt hlt]; exact HI.out.1⟩
end Go.Proofs.YthmmbopibpdpiaaGreatDoor

-- SoB
namespace Go.Proofs.YthmmbopibpdpiaaGreatDoor
open Go.RowKit Go.Sort

/-! The heap's loops, a step at a time. -/
section
variable (lt : Int → Int → Bool)
/-- The child that is looked at. -/
def kid (hi f r : Nat) (d : Array Int) : Nat := if 2 * r + 2 < hi ∧ lt d[f + (2 * r + 1)]! d[f + (2 * r + 2)]! = true then 2 * r + 2 else 2 * r + 1
theorem sift_end {hi f r : Nat} {d : Array Int} (h : hi ≤ 2 * r + 1) : siftDown lt hi f r d = d := by
  rw [siftDown, dif_pos h]
theorem sift_next {hi f r : Nat} {d : Array Int} (h : 2 * r + 1 < hi) : siftDown lt hi f r d = if lt d[f + r]! d[f + kid lt hi f r d]! = true then siftDown lt hi f (kid lt hi f r d) (swp d (f + r) (f + kid lt hi f r d)) else d := by
  have e : f + (2 * r + 1) + 1 = f + (2 * r + 2) := by omega
  conv => lhs; rw [siftDown, dif_neg (by omega), e]
  unfold kid
  by_cases hc : 2 * r + 2 < hi ∧ lt d[f + (2 * r + 1)]! d[f + (2 * r + 2)]! = true
  · have h1 : (decide (2 * r + 1 + 1 < hi) && lt d[f + (2 * r + 1)]! d[f + (2 * r + 2)]!) = true := by
      rw [hc.2, Bool.and_true]
      exact decide_eq_true hc.1
    rw [if_pos h1, if_pos hc]
    cases hl : lt d[f + r]! d[f + (2 * r + 2)]! with
    | true =>
      rw [if_neg (by simp), if_pos rfl]
      exact dif_pos hc.1
    | false =>
      rw [if_pos (by simp), if_neg (by simp)]
  · have h1 : ¬ (decide (2 * r + 1 + 1 < hi) && lt d[f + (2 * r + 1)]! d[f + (2 * r + 2)]!) = true := fun h2 => hc (by
      rw [Bool.and_eq_true, decide_eq_true_eq] at h2
      exact h2)
    rw [if_neg h1, if_neg hc]
    cases hl : lt d[f + r]! d[f + (2 * r + 1)]! with
    | true => rw [if_neg (by simp), if_pos rfl]
    | false => rw [if_pos (by simp), if_neg (by simp)]
theorem kid_lt {hi f r : Nat} {d : Array Int} (h : 2 * r + 1 < hi) : kid lt hi f r d < hi ∧ r < kid lt hi f r d := by
  unfold kid
  split
  · rename_i hc; exact ⟨hc.1, by omega⟩
  · exact ⟨h, by omega⟩
end
theorem wrap_int64 {x : Int} (h0 : -9223372036854775808 ≤ x) (h1 : x ≤ 9223372036854775807) : IntKind.i64.wrap x = x := by
  simp [IntKind.wrap, IntKind.bits, IntKind.signed]
  omega
set_option maxRecDepth 100000 in
set_option maxHeartbeats 4000000 in
theorem sift_n {w W0 : World} {b off n : Nat} {pre rest : List Value} {d : Array Int} (cap lo hi f : Nat) (hs : SR w b off n pre rest d W0) (hf : f + hi ≤ n) (hlo : lo ≤ n) (hsz : n < 1152921504606846976) :
    Calls Tryz.prog 116 #[.slice (some ⟨b, off, none⟩) n cap, .int .i64 (lo : Int), .int .i64 (hi : Int), .int .i64 (f : Int)] W0 fun x W => x = .returned (.tuple #[]) ∧ SR w b off n pre rest (siftDown ltInt hi f lo d) W := by
  have HS := Lib.hid hs
  clear hs
  go_enter Tryz.func116, Tryz.ntmps116
  go_wp2
  go_loopw [8] (fun vr wr => ∃ (r : Nat) (dk : Array Int), vr = .int .i64 (r : Int) ∧ r ≤ n ∧ Hid (SR w b off n pre rest dk wr ∧ siftDown ltInt hi f r dk = siftDown ltInt hi f lo d)) (fun vr _ => hi - (intOf vr).toNat)
  case atStart => exact ⟨lo, d, rfl, hlo, Lib.hid ⟨HS.out, rfl⟩⟩
  case round =>
    obtain ⟨r, dk, rfl, hrn, HI⟩ := hrel
    by_cases hlt : 2 * r + 1 < hi
    · have hlz : ¬ (hi : Int) ≤ 2 * (r : Int) + 1 := by omega
      obtain ⟨G, hG⟩ : ∃ G : Nat → Int, ∀ t, G t = dk[t]! := ⟨fun t => dk[t]!, fun _ => rfl⟩
      have hcw : ∀ t, t < n → wr.cell? ⟨b, off + t, none⟩ = some (.int .u32 (G t)) := fun t ht => by rw [hG]; exact HI.out.1.cell ht
      have hfw : ∀ t, t < n → wr.frozen? ⟨b, off + t, none⟩ = false := fun t _ => HI.out.1.frozen t
      have HG := Lib.hid hG
      obtain ⟨c, hc⟩ : ∃ c, c = kid ltInt hi f r dk := ⟨_, rfl⟩
      obtain ⟨hk1, hk2⟩ := kid_lt ltInt (f := f) (d := dk) hlt
      rw [← hc] at hk1 hk2
      have HC := Lib.hid hc
      clear hG hc
      obtain ⟨tb, htb⟩ : ∃ t, t = (decide (2 * r + 2 < hi) && ltInt (G (f + 2 * r + 1)) (G (f + 2 * r + 2))) := ⟨_, rfl⟩
      have hcb : (c : Int) = if tb then 2 * (r : Int) + 1 + 1 else 2 * (r : Int) + 1 := by
        have e1 : f + 2 * r + 1 = f + (2 * r + 1) := by omega
        have e2 : f + 2 * r + 2 = f + (2 * r + 2) := by omega
        rw [e1, e2, HG.out, HG.out] at htb
        rw [HC.out, kid]
        by_cases h2 : 2 * r + 2 < hi ∧ ltInt dk[f + (2 * r + 1)]! dk[f + (2 * r + 2)]! = true
        · rw [if_pos h2, htb, decide_eq_true h2.1, h2.2]
          simp; omega
        · have : tb = false := by
            cases htt : tb with
            | false => rfl
            | true =>
              rw [htt] at htb
              have := htb.symm
              rw [Bool.and_eq_true, decide_eq_true_eq] at this
              exact absurd this h2
          rw [if_neg h2, this]
          simp
      have HT := Lib.hid (And.intro htb hcb)
      clear htb hcb
      go_upto_region 3 with (fail)
      go_cut [36] (fun s36 wx => s36 = .bool tb ∧ Hid (SR w b off n pre rest dk wx))
      case first =>
        by_cases h2 : 2 * r + 2 < hi
        · have h2z : 2 * (r : Int) + 1 + 1 < (hi : Int) := by omega
          go_quiet (first | (go_at_call 96; refine Calls.quiet_of_same (less_n _ _ _)))
          go_wp2
          go_meet
          exact ⟨by rw [HT.out.1, decide_eq_true h2, Bool.true_and], Lib.hid (HI.out.1.drewN _)⟩
        · have h2z : ¬ 2 * (r : Int) + 1 + 1 < (hi : Int) := by omega
          go_quiet (first | (go_at_call 96; refine Calls.quiet_of_same (less_n _ _ _)))
          go_wp2
          go_meet
          exact ⟨by rw [HT.out.1, decide_eq_false h2, Bool.false_and], Lib.hid (HI.out.1.drewN _)⟩
      case rest =>
        obtain ⟨rfl, H3⟩ := hcut
        clear hcw hfw
        have hcw : ∀ t, t < n → wc.cell? ⟨b, off + t, none⟩ = some (.int .u32 (G t)) := fun t ht => by rw [HG.out]; exact H3.out.cell ht
        have hfw : ∀ t, t < n → wc.frozen? ⟨b, off + t, none⟩ = false := fun t _ => H3.out.frozen t
        go_upto_if 36 with (fail)
        go_cut [9] (fun s9 wx => s9 = .int .i64 (c : Int) ∧ wc = wx)
        case first =>
          cases tb with
          | true =>
            go_wp2
            go_meet
            exact ⟨by rw [HT.out.2]; rfl, rfl⟩
          | false =>
            go_wp2
            go_meet
            exact ⟨by rw [HT.out.2]; rfl, rfl⟩
        case rest =>
          obtain ⟨rfl, rfl⟩ := hcut
          have hi1 : f + r < n := by omega
          have hi2 : f + c < n := by omega
          go_upto_region 5 with (fail)
          cases hl : ltInt (G (f + r)) (G (f + c)) with
          | true =>
            go_quiet (first | (go_at_call 96; refine Calls.quiet_of_same (less_n _ _ _)))
            go_wp2
            go_region
            all_goals go_wp2
            go_roundw
            case rel =>
              have e : siftDown ltInt hi f r dk = siftDown ltInt hi f c (swp dk (f + r) (f + c)) := by
                rw [sift_next ltInt hlt, ← HC.out, if_pos (by rw [← HG.out, ← HG.out]; exact hl)]
              refine ⟨c, swp dk (f + r) (f + c), rfl, by omega, Lib.hid ⟨?_, by rw [← e]; exact HI.out.2⟩⟩
              rw [HG.out, HG.out]
              exact H3.out.swap (by omega) (by omega) (nq + 1)
            case measure => simp [intOf]; omega
          | false =>
            have e : siftDown ltInt hi f r dk = dk := by
              rw [sift_next ltInt hlt, ← HC.out, if_neg (by rw [← HG.out, ← HG.out, hl]; simp)]
            have HE := Lib.hid e
            clear e
            go_quiet (first | (go_at_call 96; refine Calls.quiet_of_same (less_n _ _ _)))
            go_wp2
            go_returns
            exact ⟨rfl, by rw [← HI.out.2, HE.out]; exact H3.out.drewN _⟩
    · have hlz : (hi : Int) ≤ 2 * (r : Int) + 1 := by omega
      go_wp2
      go_end0
      exact ⟨rfl, by rw [← HI.out.2, sift_end ltInt (by omega)]; exact HI.out.1⟩
set_option maxRecDepth 100000 in
set_option maxHeartbeats 4000000 in
theorem heap_n {w W0 : World} {b off n : Nat} {pre rest : List Value} {d : Array Int} (cap a e : Nat) (hs : SR w b off n pre rest d W0) (hae : a < e) (he : e ≤ n) (hsz : n < 1152921504606846976) :
    Calls Tryz.prog 91 #[.slice (some ⟨b, off, none⟩) n cap, .int .i64 (a : Int), .int .i64 (e : Int)] W0 fun x W => x = .returned (.tuple #[]) ∧ SR w b off n pre rest (heapSort ltInt d a e) W := by
  obtain ⟨h, hh⟩ : ∃ h, h = e - a := ⟨_, rfl⟩
  have he' : (e : Int) - (a : Int) = (h : Int) := by omega
  have hh1 : 1 ≤ h := by omega
  have hhn : a + h ≤ n := by omega
  have HH := Lib.hid hh
  have HS := Lib.hid hs
  clear hs hh hae he
  go_enter Tryz.func91, Tryz.ntmps91
  go_wp2
  go_loopw [9] (fun vi wr => ∃ (k : Nat) (dk : Array Int), vi = .int .i64 ((k : Int) - 1) ∧ k ≤ h ∧ Hid (SR w b off n pre rest dk wr ∧ heapBuild ltInt h a k dk = heapBuild ltInt h a ((h - 1) / 2 + 1) d)) (fun vi _ => (intOf vi + 1).toNat)
  case atStart => exact ⟨(h - 1) / 2 + 1, d, by congr 1; omega, by omega, Lib.hid ⟨HS.out, rfl⟩⟩
  case round =>
    obtain ⟨k, dk, rfl, hkh, HI⟩ := hrel
    cases k with
    | succ k =>
      rw [show ((k + 1 : Nat) : Int) - 1 = (k : Int) by omega]
      have HC := Lib.hid (sift_n cap k h a HI.out.1 hhn (by omega) hsz)
      go_wp2_with (go_at_call 116; refine HC.out.mono ?_; rintro e1 W1 ⟨rfl, hs1⟩)
      go_roundw
      case rel => exact ⟨k, _, rfl, by omega, Lib.hid ⟨hs1, by rw [← HI.out.2]; rfl⟩⟩
      case measure => simp [intOf]
    | zero =>
      rw [show ((0 : Nat) : Int) - 1 = -1 by omega]
      have HB := Lib.hid HI.out.2
      obtain ⟨d1, hd1⟩ : ∃ x, x = heapBuild ltInt h a ((h - 1) / 2 + 1) d := ⟨_, rfl⟩
      have h1 : dk = d1 := by rw [hd1, ← HI.out.2]; rfl
      have HD1 := Lib.hid (And.intro hd1 (h1 ▸ HI.out.1))
      clear hd1 h1 HB hkh
      go_wp2
      go_loopw [10] (fun vi wr2 => ∃ (k : Nat) (dk : Array Int), vi = .int .i64 ((k : Int) - 1) ∧ k ≤ h ∧ Hid (SR w b off n pre rest dk wr2 ∧ heapPop ltInt a k dk = heapPop ltInt a h d1)) (fun vi _ => (intOf vi + 1).toNat)
      case atStart => exact ⟨h, d1, rfl, Nat.le_refl _, Lib.hid ⟨HD1.out.2, rfl⟩⟩
      case round =>
        obtain ⟨k, dj, rfl, hkh, HJ⟩ := hrel
        cases k with
        | succ k =>
          rw [show ((k + 1 : Nat) : Int) - 1 = (k : Int) by omega]
          obtain ⟨G, hG⟩ : ∃ G : Nat → Int, ∀ t, G t = dj[t]! := ⟨fun t => dj[t]!, fun _ => rfl⟩
          have hcw : ∀ t, t < n → wr.cell? ⟨b, off + t, none⟩ = some (.int .u32 (G t)) := fun t ht => by rw [hG]; exact HJ.out.1.cell ht
          have hfw : ∀ t, t < n → wr.frozen? ⟨b, off + t, none⟩ = false := fun t _ => HJ.out.1.frozen t
          have HG := Lib.hid hG
          clear hG
          rcases Nat.eq_zero_or_pos k with hk0 | hk0
          · subst hk0
            obtain ⟨W2, hW2⟩ : ∃ W2, W2 = ((wr.setCell ⟨b, off + a, none⟩ (.int .u32 (G a))).setCell ⟨b, off + a, none⟩ (.int .u32 (G a))).drew := ⟨_, rfl⟩
            have hs2 : SR w b off n pre rest (swp dj a (a + 0)) W2 := by
              rw [hW2, HG.out]
              exact HJ.out.1.swap (by omega) (by omega) 1
            have HC := Lib.hid (sift_n cap 0 0 a hs2 (by omega) (by omega) hsz)
            clear hs2
            go_wp2
            go_region
            rw [← hW2]
            clear hW2 hcw hfw
            go_wp2_with (go_at_call 116; refine HC.out.mono ?_; rintro e1 W3 ⟨rfl, hs3⟩)
            go_roundw
            case rel => exact ⟨0, _, rfl, by omega, Lib.hid ⟨hs3, by rw [← HJ.out.2]; rfl⟩⟩
            case measure => simp [intOf]
          · obtain ⟨W2, hW2⟩ : ∃ W2, W2 = ((wr.setCell ⟨b, off + a, none⟩ (.int .u32 (G (a + k)))).setCell ⟨b, off + (a + k), none⟩ (.int .u32 (G a))).drew := ⟨_, rfl⟩
            have hs2 : SR w b off n pre rest (swp dj a (a + k)) W2 := by
              rw [hW2, HG.out, HG.out]
              exact HJ.out.1.swap (by omega) (by omega) 1
            have HC := Lib.hid (sift_n cap 0 k a hs2 (by omega) (by omega) hsz)
            clear hs2
            go_wp2
            go_region
            rw [← hW2]
            clear hW2 hcw hfw
            go_wp2_with (go_at_call 116; refine HC.out.mono ?_; rintro e1 W3 ⟨rfl, hs3⟩)
            go_roundw
            case rel => exact ⟨k, _, rfl, by omega, Lib.hid ⟨hs3, by rw [← HJ.out.2]; rfl⟩⟩
            case measure => simp [intOf]
        | zero =>
          rw [show ((0 : Nat) : Int) - 1 = -1 by omega]
          go_wp2
          go_end0
          refine ⟨rfl, ?_⟩
          unfold heapSort
          rw [← HH.out, ← HD1.out.1, ← HJ.out.2]
          exact HJ.out.1
end Go.Proofs.YthmmbopibpdpiaaGreatDoor

-- SoC
namespace Go.Proofs.YthmmbopibpdpiaaGreatDoor
open Go.RowKit Go.Sort

theorem and_parts {a : Prop} [Decidable a] {b : Bool} (h : (decide a && b) = true) : a ∧ b = true := by
  rw [Bool.and_eq_true, decide_eq_true_eq] at h
  exact h
section
variable (p : Int → Bool) {d : Array Int}
theorem scanUp_on {i j : Nat} (h : i ≤ j) (hp : p d[i]! = true) : scanUp p d j i = scanUp p d j (i + 1) := by
  conv => lhs; rw [scanUp]
  rw [if_pos (by rw [hp, Bool.and_true]; exact decide_eq_true h)]
theorem scanUp_off {i j : Nat} (h : (decide (i ≤ j) && p d[i]!) = false) : scanUp p d j i = i := by
  rw [scanUp, if_neg (by rw [h]; exact Bool.false_ne_true)]
theorem scanDown_on {i j : Nat} (h1 : 1 ≤ j) (h : i ≤ j) (hp : p d[j]! = true) : scanDown p d i j = scanDown p d i (j - 1) := by
  cases j with
  | zero => omega
  | succ k =>
    conv => lhs; rw [scanDown]
    rw [if_pos (by rw [hp, Bool.and_true]; exact decide_eq_true h)]
    rfl
theorem scanDown_off {i j : Nat} (h : (decide (i ≤ j) && p d[j]!) = false) : scanDown p d i j = j := by
  cases j with
  | zero => rfl
  | succ k => rw [scanDown, if_neg (by rw [h]; exact Bool.false_ne_true)]
end
set_option maxRecDepth 100000 in
set_option maxHeartbeats 8000000 in
theorem peq_n {w W0 : World} {b off n : Nat} {pre rest : List Value} {dk : Array Int} (cap a e p : Nat) (hs : SR w b off n pre rest dk W0) (hap : a ≤ p) (hpe : p < e) (he : e ≤ n) (hsz : n < 1152921504606846976) :
    Calls Tryz.prog 97 #[.slice (some ⟨b, off, none⟩) n cap, .int .i64 (a : Int), .int .i64 (e : Int), .int .i64 (p : Int)] W0 fun x W => x = .returned (.int .i64 ((partitionEqual ltInt dk a e p).1 : Int)) ∧ SR w b off n pre rest (partitionEqual ltInt dk a e p).2 W := by
  have HS := Lib.hid hs
  obtain ⟨d0, hd0⟩ : ∃ x, x = swp dk a p := ⟨_, rfl⟩
  obtain ⟨r, hr⟩ : ∃ r, r = partitionEqual ltInt dk a e p := ⟨_, rfl⟩
  rw [← hr]
  have HR := Lib.hid (show partEqLoop ltInt a (a + 1) (e - 1) d0 = r by rw [hr, hd0]; rfl)
  have HD0 := Lib.hid hd0
  clear hs hr hd0
  obtain ⟨G, hG⟩ : ∃ G : Nat → Int, ∀ t, G t = dk[t]! := ⟨fun t => dk[t]!, fun _ => rfl⟩
  have HG := Lib.hid hG
  clear hG
  go_enter Tryz.func97, Tryz.ntmps97
  go_upto_region 1 with (fail)
  go_cut [] (fun wx => Hid (SR w b off n pre rest (swp dk a p) wx))
  case first =>
    have hcw : ∀ t, t < n → W0.cell? ⟨b, off + t, none⟩ = some (.int .u32 (G t)) := fun t ht => by rw [HG.out]; exact HS.out.cell ht
    have hfw : ∀ t, t < n → W0.frozen? ⟨b, off + t, none⟩ = false := fun t _ => HS.out.frozen t
    have HW := Lib.hid (HS.out.swap (j := a) (k := p) (by omega) (by omega) 1)
    by_cases hpq : a = p
    · subst hpq
      go_region
      all_goals go_wp2
      go_meet
      refine Lib.hid ?_
      rw [HG.out]
      exact HW.out
    · have hpq2 : a < p := by omega
      go_region
      all_goals go_wp2
      go_meet
      refine Lib.hid ?_
      rw [HG.out, HG.out]
      exact HW.out
  case rest =>
    have H0 := hcut
    clear hcut
    rw [← HD0.out] at H0
    clear HG HD0 HS
    go_wp2
    go_loopw [9, 10] (fun vi vj wr => ∃ (i j : Nat) (dk : Array Int), vi = .int .i64 (i : Int) ∧ vj = .int .i64 (j : Int) ∧ a < i ∧ i ≤ j + 1 ∧ j < e ∧ Hid (SR w b off n pre rest dk wr ∧ partEqLoop ltInt a i j dk = r)) (fun vi vj _ => (intOf vj + 1 - intOf vi).toNat)
    case atStart => exact ⟨a + 1, e - 1, d0, by go_num, by congr 1; omega, by omega, by omega, by omega, Lib.hid ⟨H0.out, HR.out⟩⟩
    case round =>
      obtain ⟨i, j, dk, rfl, rfl, hai, hij, hje, HI⟩ := hrel
      obtain ⟨G, hG⟩ : ∃ G : Nat → Int, ∀ t, G t = dk[t]! := ⟨fun t => dk[t]!, fun _ => rfl⟩
      have HG := Lib.hid hG
      clear hG
      go_wp2
      go_loopw [9] (fun vi wr => ∃ (z0 : Nat), vi = .int .i64 (z0 : Int) ∧ i ≤ z0 ∧ z0 ≤ j + 1 ∧ Hid (SR w b off n pre rest dk wr ∧ scanUp (fun x => !ltInt dk[a]! x) dk j z0 = scanUp (fun x => !ltInt dk[a]! x) dk j i)) (fun vi _ => j + 1 - (intOf vi).toNat)
      case atStart => exact ⟨i, by first | rfl | (congr 1; omega), Nat.le_refl _, by omega, Lib.hid ⟨HI.out.1, rfl⟩⟩
      case round =>
        obtain ⟨x, rfl, hx1, hx2, HX⟩ := hrel
        have hcw : ∀ t, t < n → wr.cell? ⟨b, off + t, none⟩ = some (.int .u32 (G t)) := fun t ht => by rw [HG.out]; exact HX.out.1.cell ht
        have hfw : ∀ t, t < n → wr.frozen? ⟨b, off + t, none⟩ = false := fun t _ => HX.out.1.frozen t
        obtain ⟨tb, htb⟩ : ∃ t, t = (decide (x ≤ j) && !ltInt (G a) (G x)) := ⟨_, rfl⟩
        have HXT := Lib.hid htb
        clear htb
        go_upto_region 3 with (fail)
        go_cut [43] (fun s wx => s = .bool tb ∧ Hid (SR w b off n pre rest dk wx))
        case first =>
          by_cases hxl : x ≤ j
          · have hxz : (x : Int) ≤ (j : Int) := by omega
            go_quiet (first | (go_at_call 96; refine Calls.quiet_of_same (less_n _ _ _)))
            go_wp2
            go_meet
            exact ⟨by rw [HXT.out, decide_eq_true hxl, Bool.true_and], Lib.hid (HX.out.1.drewN _)⟩
          · have hxz : ¬ (x : Int) ≤ (j : Int) := by omega
            go_quiet (first | (go_at_call 96; refine Calls.quiet_of_same (less_n _ _ _)))
            go_wp2
            go_meet
            exact ⟨by rw [HXT.out, decide_eq_false hxl, Bool.false_and], Lib.hid (HX.out.1.drewN _)⟩
        case rest =>
          obtain ⟨rfl, HXW⟩ := hcut
          clear hcw hfw
          cases tb with
          | true =>
            obtain ⟨hxl, hxp⟩ := and_parts HXT.out.symm
            have HP := Lib.hid hxp
            clear hxp
            go_wp2
            go_roundw
            case rel => exact ⟨x + 1, by go_num, by omega, by omega, Lib.hid ⟨HXW.out, by rw [← HX.out.2, scanUp_on (fun x => !ltInt dk[a]! x) (d := dk) hxl (by rw [← HP.out, HG.out, HG.out])]⟩⟩
            case measure => simp [intOf]; omega
          | false =>
            have hxs : scanUp (fun x => !ltInt dk[a]! x) dk j i = x := by
              rw [← HX.out.2, scanUp_off (fun x => !ltInt dk[a]! x) (d := dk) (by have := HXT.out; rw [HG.out, HG.out] at this; exact this.symm)]
            have HXS := Lib.hid hxs
            clear hxs
            go_wp2
            go_loopw [10] (fun vj wr => ∃ (z0 : Nat), vj = .int .i64 (z0 : Int) ∧ z0 ≤ j ∧ x ≤ z0 + 1 ∧ Hid (SR w b off n pre rest dk wr ∧ scanDown (fun x => ltInt dk[a]! x) dk x z0 = scanDown (fun x => ltInt dk[a]! x) dk x j)) (fun vj _ => (intOf vj).toNat)
            case atStart => exact ⟨j, by first | rfl | (congr 1; omega), Nat.le_refl _, by omega, Lib.hid ⟨HXW.out, rfl⟩⟩
            case round =>
              obtain ⟨y, rfl, hy1, hy2, HY⟩ := hrel
              have hcw : ∀ t, t < n → wr.cell? ⟨b, off + t, none⟩ = some (.int .u32 (G t)) := fun t ht => by rw [HG.out]; exact HY.out.1.cell ht
              have hfw : ∀ t, t < n → wr.frozen? ⟨b, off + t, none⟩ = false := fun t _ => HY.out.1.frozen t
              obtain ⟨tb, htb⟩ : ∃ t, t = (decide (x ≤ y) && ltInt (G a) (G y)) := ⟨_, rfl⟩
              have HYT := Lib.hid htb
              clear htb
              go_upto_region 5 with (fail)
              go_cut [59] (fun s wx => s = .bool tb ∧ Hid (SR w b off n pre rest dk wx))
              case first =>
                by_cases hxl : x ≤ y
                · have hxz : (x : Int) ≤ (y : Int) := by omega
                  go_quiet (first | (go_at_call 96; refine Calls.quiet_of_same (less_n _ _ _)))
                  go_wp2
                  go_meet
                  exact ⟨by rw [HYT.out, decide_eq_true hxl, Bool.true_and], Lib.hid (HY.out.1.drewN _)⟩
                · have hxz : ¬ (x : Int) ≤ (y : Int) := by omega
                  go_quiet (first | (go_at_call 96; refine Calls.quiet_of_same (less_n _ _ _)))
                  go_wp2
                  go_meet
                  exact ⟨by rw [HYT.out, decide_eq_false hxl, Bool.false_and], Lib.hid (HY.out.1.drewN _)⟩
              case rest =>
                obtain ⟨rfl, HYW⟩ := hcut
                clear hcw hfw
                cases tb with
                | true =>
                  obtain ⟨hxl, hxp⟩ := and_parts HYT.out.symm
                  have HP := Lib.hid hxp
                  clear hxp
                  go_wp2
                  go_roundw
                  case rel => exact ⟨y - 1, by congr 1; omega, by omega, by omega, Lib.hid ⟨HYW.out, by rw [← HY.out.2, scanDown_on (fun x => ltInt dk[a]! x) (d := dk) (by omega) hxl (by rw [← HP.out, HG.out, HG.out])]⟩⟩
                  case measure => simp [intOf]; omega
                | false =>
                  have hys : scanDown (fun x => ltInt dk[a]! x) dk x j = y := by
                    rw [← HY.out.2, scanDown_off (fun x => ltInt dk[a]! x) (d := dk) (by have := HYT.out; rw [HG.out, HG.out] at this; exact this.symm)]
                  have HYS := Lib.hid hys
                  clear hys
                  have hstep := partEqLoop_eq ltInt a i j dk
                  rw [HXS.out, HYS.out] at hstep
                  have HST := Lib.hid hstep
                  clear hstep
                  by_cases hxy : y < x
                  · have hxz : (y : Int) < (x : Int) := by omega
                    have hfin : r = (x, dk) := by
                      rw [← HI.out.2, HST.out, if_pos hxy]
                    have HF := Lib.hid hfin
                    clear hfin
                    go_wp2
                    go_ret
                    rw [HF.out]
                    exact ⟨rfl, HYW.out⟩
                  · have hxz : ¬ (y : Int) < (x : Int) := by omega
                    have hgo : partEqLoop ltInt a (x + 1) (y - 1) (swp dk x y) = r := by
                      rw [← HI.out.2, HST.out, if_neg hxy]
                    have HGO := Lib.hid hgo
                    clear hgo
                    have hlt : x < y := by
                      have h1 := HXT.out
                      have h2 := HYT.out
                      rw [decide_eq_true (show x ≤ j by omega), Bool.true_and] at h1
                      rw [decide_eq_true (show x ≤ y by omega), Bool.true_and] at h2
                      rcases Nat.lt_or_ge x y with h | h
                      · exact h
                      · have e : x = y := by omega
                        rw [e, ← h2] at h1
                        cases h1
                    go_upto_region 8 with (fail)
                    go_cut [] (fun wx => Hid (SR w b off n pre rest (swp dk x y) wx))
                    case first =>
                      have hcw : ∀ t, t < n → wc.cell? ⟨b, off + t, none⟩ = some (.int .u32 (G t)) := fun t ht => by rw [HG.out]; exact HYW.out.cell ht
                      have hfw : ∀ t, t < n → wc.frozen? ⟨b, off + t, none⟩ = false := fun t _ => HYW.out.frozen t
                      have HW := Lib.hid (HYW.out.swap (j := x) (k := y) (by omega) (by omega) 1)
                      go_region
                      all_goals go_wp2
                      go_meet
                      refine Lib.hid ?_
                      rw [HG.out, HG.out]
                      exact HW.out
                    case rest =>
                      have HZ := hcut
                      clear hcut
                      go_wp2
                      go_roundw
                      case rel => exact ⟨x + 1, y - 1, swp dk x y, by go_num, by congr 1; omega, by omega, by omega, by omega, Lib.hid ⟨HZ.out, HGO.out⟩⟩
                      case measure => simp [intOf]; omega
end Go.Proofs.YthmmbopibpdpiaaGreatDoor
