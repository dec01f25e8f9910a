/- The pivot and the patterns of a row of numbers: a pivot within the row, an exchange of some. -/
import Derived.Test.YtelbgjnaceffeaaSoE
import Derived.Test.YtelbgjnaceffeaaShelfL
import Derived.Laws.Closers25b
import Derived.Laws.BitsAllLaws
namespace Go.Proofs.Ytelbgjnaceffeaa
open Go.RowKit Go.Sort

theorem bitLen_bounds : ∀ (k x : Nat), x ≤ k → x < 2 ^ 64 → x < 2 ^ Lib.bitLen x ∧ (0 < x → 2 ^ Lib.bitLen x ≤ 2 * x)
  | 0, x, h, _ => by
    obtain rfl : x = 0 := by omega
    exact ⟨by decide +kernel, fun h => absurd h (by omega)⟩
  | k + 1, x, h, h64 => by
    by_cases h0 : x = 0
    · subst h0
      exact ⟨by decide +kernel, fun h => absurd h (by omega)⟩
    · have e := Lib.bitLen_half x h0 h64
      obtain ⟨i1, i2⟩ := bitLen_bounds k (x / 2) (by omega) (by omega)
      rw [e, Nat.pow_add, Nat.pow_one]
      refine ⟨by omega, fun _ => ?_⟩
      by_cases h1 : x / 2 = 0
      · have hx : x = 1 := by omega
        subst hx
        decide +kernel
      · have := i2 (by omega)
        omega
set_option maxRecDepth 100000 in
set_option maxHeartbeats 4000000 in
theorem npow_n (l : Nat) (w : World) (hl0 : 0 < l) (hl : l < 1152921504606846976) : Calls Try.prog 55 #[.int .i64 (l : Int)] w fun e W => ∃ m : Nat, e = .returned (.int .u64 (m : Int)) ∧ l < m ∧ m ≤ 2 * l ∧ W = w := by
  have HL := Lib.hid (lay_bits_Len (l : Int) w (by omega) (by omega))
  have hb := bitLen_bounds l l (Nat.le_refl _) (by omega)
  rw [Int.toNat_natCast] at HL
  obtain ⟨k, hk⟩ : ∃ k, k = Lib.bitLen l := ⟨_, rfl⟩
  rw [← hk] at HL hb
  have hk64 : k ≤ 64 := by rw [hk]; exact Lib.bitLen_le l 64 (by omega) (by omega)
  have HB := Lib.hid (And.intro hb hk64)
  clear hb hk
  go_enter Try.func55, Try.ntmps55
  go_wp2_with (go_at_call 42; refine HL.out.mono ?_; rintro e1 W1 ⟨rfl, rfl⟩)
  go_ret
  obtain ⟨⟨h1, h2⟩, _⟩ := HB.out
  have h2' := h2 hl0
  refine ⟨2 ^ k, ?_, h1, h2', rfl⟩
  have e : ((2 : Int) ^ k) = ((2 ^ k : Nat) : Int) := by norm_cast
  rw [e]
  congr 2
  generalize 2 ^ k = m at h1 h2'
  simp [IntKind.wrap, IntKind.bits, IntKind.signed]
  omega
theorem xor_nat (a b : Int) : ∃ y : Nat, y < 18446744073709551616 ∧ bits .xor .u64 a b = (y : Int) := by
  have h := bits_within .xor .u64 a b
  simp only [IntKind.min, IntKind.max, IntKind.signed, IntKind.bits] at h
  obtain ⟨h1, h2⟩ := h
  simp at h1 h2
  exact ⟨(bits .xor .u64 a b).toNat, by omega, by omega⟩
/-- The number in a block of its own behind a store and a draw. -/
theorem cell_again {w W : World} {q : Nat} {t : TypeId} {u v : Value} (hq : w.heap[q]? = some (.cells #[u] t (0, 0))) (hW : W = (w.setCell ⟨q, 0, none⟩ v).drew) : W.heap[q]? = some (.cells #[v] t (0, 0)) := by
  subst hW
  exact blk_set hq 0 v
set_option maxRecDepth 100000 in
set_option maxHeartbeats 4000000 in
theorem next_n (q x : Nat) (w : World) (_hx : x < 18446744073709551616) (hq : w.heap[q]? = some (.cells #[.int .u64 (x : Int)] 105 (0, 0))) : Calls Try.prog 56 #[.pointer (some ⟨q, 0, none⟩)] w fun e W => ∃ y : Nat, y < 18446744073709551616 ∧ e = .returned (.int .u64 (y : Int)) ∧ W.heap[q]? = some (.cells #[.int .u64 (y : Int)] 105 (0, 0)) ∧ ∀ (v : World) (b off n : Nat) (pre rest : List Value) (d : Array Int), SR v b off n pre rest d w → v.heap.size ≤ q → q ≠ b → SR v b off n pre rest d W := by
  have c0 : w.cell? ⟨q, 0, none⟩ = some (.int .u64 (x : Int)) := by simpa using blk_cell hq 0
  have f0 : w.frozen? ⟨q, 0, none⟩ = false := blk_frozen hq 0
  have HQ := Lib.hid hq
  clear hq
  go_enter Try.func56, Try.ntmps56
  go_wp2
  go_region
  obtain ⟨y1, hy1, e1⟩ := xor_nat (x : Int) (IntKind.u64.wrap ((x : Int) * 8192))
  rw [e1]
  obtain ⟨W1, hW1⟩ : ∃ W, W = (w.setCell ⟨q, 0, none⟩ (.int .u64 (y1 : Int))).drew := ⟨_, rfl⟩
  rw [← hW1]
  have k1 := cell_again HQ.out hW1
  have H1 := Lib.hid (And.intro hW1 k1)
  clear c0 f0 hW1
  have c0 : W1.cell? ⟨q, 0, none⟩ = some (.int .u64 (y1 : Int)) := by simpa using blk_cell k1 0
  have f0 : W1.frozen? ⟨q, 0, none⟩ = false := blk_frozen k1 0
  clear k1 e1
  go_wp2
  go_region
  obtain ⟨y2, hy2, e2⟩ := xor_nat (y1 : Int) ((y1 : Int) / 128)
  rw [e2]
  obtain ⟨W2, hW2⟩ : ∃ W, W = (W1.setCell ⟨q, 0, none⟩ (.int .u64 (y2 : Int))).drew := ⟨_, rfl⟩
  rw [← hW2]
  have k2 := cell_again H1.out.2 hW2
  have H2 := Lib.hid (And.intro hW2 k2)
  clear c0 f0 hW2
  have c0 : W2.cell? ⟨q, 0, none⟩ = some (.int .u64 (y2 : Int)) := by simpa using blk_cell k2 0
  have f0 : W2.frozen? ⟨q, 0, none⟩ = false := blk_frozen k2 0
  clear k2 e2
  go_wp2
  go_region
  obtain ⟨y3, hy3, e3⟩ := xor_nat (y2 : Int) (IntKind.u64.wrap ((y2 : Int) * 131072))
  rw [e3]
  obtain ⟨W3, hW3⟩ : ∃ W, W = (W2.setCell ⟨q, 0, none⟩ (.int .u64 (y3 : Int))).drew := ⟨_, rfl⟩
  rw [← hW3]
  have k3 := cell_again H2.out.2 hW3
  have H3 := Lib.hid (And.intro hW3 k3)
  clear c0 f0 hW3
  have c0 : W3.cell? ⟨q, 0, none⟩ = some (.int .u64 (y3 : Int)) := by simpa using blk_cell k3 0
  clear k3 e3
  go_wp2
  go_ret
  refine ⟨y3, hy3, rfl, H3.out.2, fun v b off n pre rest d hs hv hb => ?_⟩
  rw [H3.out.1, H2.out.1, H1.out.1]
  exact (((((hs.other hv hb 0 _).drew).other hv hb 0 _).drew).other hv hb 0 _).drew
end Go.Proofs.Ytelbgjnaceffeaa
