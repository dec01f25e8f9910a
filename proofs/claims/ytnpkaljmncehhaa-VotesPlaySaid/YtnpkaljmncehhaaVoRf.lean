/- The document's own tally, slot by slot: Has, Chosen, Upto, Add. -/
import Derived.Test.YtnpkaljmncehhaaVoTw
namespace Go.Proofs.Ytnpkaljmncehhaa
open Go.RowKit

def boR (f : Nat → Bool) : Array Value := ((List.range 202).map fun s => Value.bool (f s)).toArray
theorem boR_get (f : Nat → Bool) {s : Nat} (h : s < 202) : (boR f)[s]? = some (.bool (f s)) := by
  unfold boR
  simp [h]
theorem boR_set (f : Nat → Bool) {s : Nat} (_ : s < 202) : (boR f).setIfInBounds s (.bool true) = boR (fun x => if x = s then true else f x) := by
  unfold boR
  apply Array.ext'
  simp only [Array.toList_setIfInBounds]
  apply List.ext_getElem
  · simp
  · intro i h1 h2
    rw [List.getElem_set]
    by_cases e : s = i
    · subst e; simp
    · rw [if_neg e]
      simp [Ne.symm e]
/-- The document's tally as it lies. -/
structure RefV (w : World) (q g cap : Nat) (rb : Nat → Nat) (n F : Nat) (S : Nat → Nat → Bool) (W : World) : Prop where
  kq : W.heap[q]? = some (.cells #[.slice (some ⟨g, 0, none⟩) n cap, .int .i64 (F : Int)] 38 (0, 0))
  row : ∀ i, i < n → W.cell? ⟨g, i, none⟩ = some (.slice (some ⟨rb i, 0, none⟩) 202 202)
  rows : ∀ i, i < n → W.heap[rb i]? = some (.cells (boR (S i)) 4 (0, 0))
  gl : g < W.heap.size
  new : w.heap.size ≤ q ∧ w.heap.size ≤ g ∧ ∀ i, i < n → w.heap.size ≤ rb i
  apart : q ≠ g ∧ (∀ i, i < n → rb i ≠ q ∧ rb i ≠ g) ∧ ∀ i j, i < n → j < n → rb i = rb j → i = j
section
variable {w W W' : World} {q g cap : Nat} {rb : Nat → Nat} {n F : Nat} {S : Nat → Nat → Bool}
/-- The blocks that it is made of. -/
def RefB (q g : Nat) (rb : Nat → Nat) (n k : Nat) : Prop := k = q ∨ k = g ∨ ∃ i, i < n ∧ k = rb i
theorem RefV.keep (h : RefV w q g cap rb n F S W) (hk : ∀ k, RefB q g rb n k → W'.heap[k]? = W.heap[k]?) (hs : W.heap.size ≤ W'.heap.size) : RefV w q g cap rb n F S W' :=
  ⟨(hk q (.inl rfl)).trans h.kq, fun i hi => (show W'.cell? ⟨g, i, none⟩ = W.cell? ⟨g, i, none⟩ from World.cell?_of_block (hk g (.inr (.inl rfl)))).trans (h.row i hi), fun i hi => (hk _ (.inr (.inr ⟨i, hi, rfl⟩))).trans (h.rows i hi), Nat.lt_of_lt_of_le h.gl hs, h.new, h.apart⟩
theorem RefV.lt (h : RefV w q g cap rb n F S W) : ∀ k, RefB q g rb n k → k < W.heap.size := by
  rintro k (rfl | rfl | ⟨i, hi, rfl⟩)
  · exact (Array.getElem?_eq_some_iff.1 h.kq).1
  · exact h.gl
  · exact (Array.getElem?_eq_some_iff.1 (h.rows i hi)).1
theorem RefV.base (h : RefV w q g cap rb n F S W) : ∀ k, RefB q g rb n k → w.heap.size ≤ k := by
  rintro k (rfl | rfl | ⟨i, hi, rfl⟩)
  · exact h.new.1
  · exact h.new.2.1
  · exact h.new.2.2 i hi
theorem RefV.below (h : RefV w q g cap rb n F S W) (hb : Below W.heap.size W W') : RefV w q g cap rb n F S W' := h.keep (fun k hk => hb.block k (h.lt k hk)) hb.size
theorem RefV.only (h : RefV w q g cap rb n F S W) {G : Nat → Prop} (ho : Only G W W') (hG : ∀ k, G k → ¬ RefB q g rb n k) : RefV w q g cap rb n F S W' := h.keep (fun k hk => ho.block k (h.lt k hk) fun hg => hG k hg hk) ho.size
def hasR (F : Nat) (S : Nat → Nat → Bool) (r s : Nat) : Bool := decide (s ≤ F) || S r s
set_option maxRecDepth 100000 in
set_option maxHeartbeats 1000000 in
theorem refHas_any (h : RefV w q g cap rb n F S W) (hn : n ≤ 7) (_ : F ≤ 1000) (r s : Nat) (hr : r < n) (hs : s < 202) : Calls Try.prog 25 #[.pointer (some ⟨q, 0, none⟩), .int .i64 (r : Int), .int .i64 (s : Int)] W fun e W' => e = .returned (.bool (hasR F S r s)) ∧ W' = W := by
  have x0 := blk_cell h.kq 0
  have x1 := blk_cell h.kq 1
  simp at x0 x1
  have y0 := h.row r hr
  have z0 := (blk_cell (h.rows r hr) s).trans (boR_get _ hs)
  obtain ⟨t, ht⟩ : ∃ t, t = hasR F S r s := ⟨_, rfl⟩
  rw [← ht]
  have HT := Lib.hid ht
  have hri : (r : Int) < n := by omega
  have hni : (n : Int) ≤ 7 := by omega
  have hsi : (s : Int) < 202 := by omega
  obtain ⟨b, hb⟩ : ∃ b, b = S r s := ⟨_, rfl⟩
  rw [← hb] at z0
  have HB := Lib.hid hb
  clear h ht hb
  go_enter Try.func25, Try.ntmps25
  by_cases h1 : s ≤ F
  · have h1i : (s : Int) ≤ F := by omega
    obtain rfl : t = true := by rw [HT.out, hasR, decide_eq_true h1]; rfl
    clear h1
    go_wp2
    go_ret
    exact ⟨rfl, rfl⟩
  · have h1i : ¬ (s : Int) ≤ F := by omega
    obtain rfl : t = b := by rw [HT.out, hasR, decide_eq_false h1, HB.out]; rfl
    clear h1
    go_wp2
    go_ret
    exact ⟨rfl, rfl⟩
def chosenR (n F : Nat) (S : Nat → Nat → Bool) (s : Nat) : Bool := decide (n < 2 * cntF (fun r => hasR F S r s) n)
set_option maxRecDepth 100000 in
set_option maxHeartbeats 1000000 in
theorem refChosen_any (h : RefV w q g cap rb n F S W) (hn : n ≤ 7) (hF : F ≤ 1000) (s : Nat) (hs : s < 202) : Calls Try.prog 24 #[.pointer (some ⟨q, 0, none⟩), .int .i64 (s : Int)] W fun e W' => e = .returned (.bool (chosenR n F S s)) ∧ W' = W := by
  have x0 := blk_cell h.kq 0
  simp at x0
  have HH := Lib.hid h
  have hni : (n : Int) ≤ 7 := by omega
  have HN := Lib.hid hn
  have HF := Lib.hid hF
  obtain ⟨t, ht⟩ : ∃ t, t = chosenR n F S s := ⟨_, rfl⟩
  rw [← ht]
  have HTT := Lib.hid ht
  clear h hn hF ht
  go_enter Try.func24, Try.ntmps24
  go_wp2
  go_loopw [5, 6] (fun v5 v6 wr => wr = W ∧ ∃ i k : Nat, i ≤ n ∧ v6 = .int .i64 (i : Int) ∧ v5 = .int .i64 (k : Int) ∧ Hid (k = cntF (fun r => hasR F S r s) i)) (fun _ i _ => n - (intOf i).toNat)
  case atStart => exact ⟨rfl, 0, 0, Nat.zero_le _, rfl, rfl, Lib.hid rfl⟩
  case round =>
    obtain ⟨rfl, i, k, hi, rfl, rfl, HK⟩ := hrel
    have hk7 : (k : Int) ≤ 7 := by have := cntF_le (fun r => hasR F S r s) i; have := HN.out; have := HK.out; omega
    by_cases hlt : i < n
    · have hii : (i : Int) < n := by omega
      have HC := refHas_any HH.out HN.out HF.out i s hlt hs
      obtain ⟨b, hb⟩ : ∃ b, b = hasR F S i s := ⟨_, rfl⟩
      rw [← hb] at HC
      have HCC := Lib.hid HC
      have HB := Lib.hid hb
      clear HC hb
      go_wp2_with fail
      refine HCC.out.mono ?_
      rintro e W3 ⟨rfl, rfl⟩
      cases b with
      | true =>
        have HS := Lib.hid (show cntF (fun r => hasR F S r s) (i + 1) = k + 1 by rw [cntF, ← HK.out, if_pos HB.out.symm])
        go_wp2
        exact ⟨⟨trivial, i + 1, k + 1, by omega, by congr 1, by congr 1, Lib.hid HS.out.symm⟩, by simp only [intOf]; omega⟩
      | false =>
        have HS := Lib.hid (show cntF (fun r => hasR F S r s) (i + 1) = k by rw [cntF, ← HK.out, if_neg (by rw [← HB.out]; decide)]; rfl)
        go_wp2
        exact ⟨⟨trivial, i + 1, k, by omega, by congr 1, rfl, Lib.hid HS.out.symm⟩, by simp only [intOf]; omega⟩
    · have hii : ¬ (i : Int) < n := by omega
      have hin : i = n := by omega
      by_cases h2 : n < 2 * k
      · have h2i : (n : Int) < 2 * k := by omega
        obtain rfl : t = true := by rw [HTT.out, chosenR, ← hin, ← HK.out, hin]; simpa using h2
        clear h2
        go_wp2
        go_ret
        exact ⟨rfl, rfl⟩
      · have h2i : ¬ (n : Int) < 2 * k := by omega
        obtain rfl : t = false := by rw [HTT.out, chosenR, ← hin, ← HK.out, hin]; simpa using h2
        clear h2
        go_wp2
        go_ret
        exact ⟨rfl, rfl⟩
/-- Where the reference's consecutive chosen slots end. -/
structure UptoR (n F : Nat) (S : Nat → Nat → Bool) (s m : Nat) : Prop where
  le : s ≤ m
  lt : m ≤ 200
  all : ∀ x, s < x → x ≤ m → chosenR n F S x = true
  stop : m < 200 → chosenR n F S (m + 1) = false
set_option maxRecDepth 100000 in
set_option maxHeartbeats 1000000 in
theorem refUpto_any (h : RefV w q g cap rb n F S W) (hn : n ≤ 7) (hF : F ≤ 1000) (s : Nat) (hs : s ≤ 200) : Calls Try.prog 26 #[.pointer (some ⟨q, 0, none⟩), .int .i64 (s : Int)] W fun e W' => (∃ m, UptoR n F S s m ∧ e = .returned (.int .i64 (m : Int))) ∧ W' = W := by
  have HH := Lib.hid h
  have HN := Lib.hid hn
  have HF := Lib.hid hF
  clear h hn hF
  go_enter Try.func26, Try.ntmps26
  go_wp2
  go_loopw [1] (fun v1 wr => wr = W ∧ ∃ m : Nat, s ≤ m ∧ m ≤ 200 ∧ v1 = .int .i64 (m : Int) ∧ Hid (∀ x, s < x → x ≤ m → chosenR n F S x = true)) (fun v _ => 200 - (intOf v).toNat)
  case atStart => exact ⟨rfl, s, Nat.le_refl _, hs, rfl, Lib.hid (fun _ _ _ => by omega)⟩
  case round =>
    obtain ⟨rfl, m, hsm, hm, rfl, HA⟩ := hrel
    by_cases hlt : m < 200
    · have hmi : (m : Int) < 200 := by omega
      obtain ⟨m1, hm1⟩ : ∃ x, x = m + 1 := ⟨_, rfl⟩
      have hm1i : (m : Int) + 1 = (m1 : Int) := by omega
      have HC := refChosen_any HH.out HN.out HF.out m1 (by omega)
      obtain ⟨b, hb⟩ : ∃ b, b = chosenR n F S m1 := ⟨_, rfl⟩
      rw [← hb] at HC
      have HCC := Lib.hid HC
      have HB := Lib.hid (And.intro hb hm1)
      clear HC hb hm1
      go_wp2_with fail
      refine HCC.out.mono ?_
      rintro e W3 ⟨rfl, rfl⟩
      cases b with
      | true =>
        have HA2 : Hid (∀ x, s < x → x ≤ m1 → chosenR n F S x = true) := Lib.hid fun x h1 h2 => by
          by_cases e : x = m1
          · rw [e]; exact HB.out.1.symm
          · exact HA.out x h1 (by have := HB.out.2; omega)
        have hms : s ≤ m1 ∧ m1 ≤ 200 := by have := HB.out.2; omega
        go_wp2
        exact ⟨⟨trivial, m1, hms.1, hms.2, rfl, HA2⟩, by simp only [intOf]; have := HB.out.2; omega⟩
      | false =>
        have HU : Hid (UptoR n F S s m) := Lib.hid ⟨hsm, hm, HA.out, fun _ => by rw [← HB.out.2]; exact HB.out.1.symm⟩
        go_wp2
        go_ret
        exact ⟨⟨m, HU.out, rfl⟩, rfl⟩
    · have hmi : ¬ (m : Int) < 200 := by omega
      have HU : Hid (UptoR n F S s m) := Lib.hid ⟨hsm, hm, HA.out, fun h => absurd h hlt⟩
      go_wp2
      go_ret
      exact ⟨⟨m, HU.out, rfl⟩, rfl⟩
end
end Go.Proofs.Ytnpkaljmncehhaa
