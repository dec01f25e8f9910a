/- The contracts of crc.More and crc.Sum. -/
import Derived.Test.YtbhncffeoolhfaaDoorCrcFour
namespace Go.Proofs.YtbhncffeoolhfaaDoor
open Go.RowKit

theorem not_u32 (x : Nat) (h : x < 4294967296) : bits .xor .u32 IntKind.u32.max (x : Int) = ((x ^^^ 4294967295 : Nat) : Int) := by
  have e : IntKind.u32.max = ((4294967295 : Nat) : Int) := by decide
  rw [e, u32_xor_nat _ _ (by omega) h, Nat.xor_comm]

/-- What the loop keeps: the state behind the bytes so far, in the captured variable. -/
def MK (w : World) (s : Nat) (W : World) : Prop := Below w.heap.size w W ∧ StC W w.heap.size s

set_option maxHeartbeats 1000000 in
theorem More_any (A : Option Addr) (L c s : Nat) (bs : List UInt8) (hs : s < 4294967296) (hL : L = bs.length) (hlen : L ≤ 1000000) (w : World) (hT : Tab w) (hA : HasA w w.heap.size A bs) :
    Calls Tryd.prog 29 #[.int .u32 (s : Int), .slice A L c] w fun e w' => e = .returned (.int .u32 ((crcS (s ^^^ 4294967295) bs ^^^ 4294967295 : Nat) : Int)) ∧ Grew w w' := by
  have hmf : ∀ (fn : Fn) (first cap : Array Value) (w : World), (Instr.makeFunc fn first cap).run Tryd.prog w = .ok (.func fn first cap) w := fun _ _ _ _ => rfl
  have HL := Lib.hid hL
  have HA := Lib.hid hA
  have HT := Lib.hid hT
  have hli : (L : Int) ≤ 1000000 := by omega
  obtain ⟨s0, hs0⟩ : ∃ s0, s0 = s ^^^ 4294967295 := ⟨_, rfl⟩
  have hs0l : s0 < 4294967296 := by rw [hs0]; exact Nat.xor_lt_two_pow (n := 32) hs (by omega)
  have hn := not_u32 s hs
  rw [← hs0] at hn ⊢
  clear hL hA hT hs0
  go_enter Tryd.func29, Tryd.ntmps29
  go_wp2
  go_loopw [14] (fun i wr => ∃ k : Nat, k ≤ L ∧ i = .int .i64 k ∧ Hid (MK w (crcS s0 (bs.take k)) wr)) (fun i _ => L - (intOf i).toNat)
  case atStart =>
    exact ⟨0, Nat.zero_le _, rfl, (Below.refl _ _).alloc (Nat.le_refl _) _, World.alloc_heap_new _ _⟩
  case round =>
    obtain ⟨k, hk, rfl, hmk⟩ := hrel
    obtain ⟨t, ht⟩ : ∃ t, t = crcS s0 (bs.take k) := ⟨_, rfl⟩
    have htl : t < 4294967296 := by rw [ht]; exact crcS_lt _ hs0l
    have HTT := Lib.hid ht
    rw [← ht] at hmk
    clear ht
    have h1 := cell_of_one hmk.out.2
    have h2 := free_of_one hmk.out.2
    by_cases hlt : k < L
    · have hki : (k : Int) < L := by omega
      have hkb : k < bs.length := by rw [← HL.out]; exact hlt
      have hne : bs ≠ [] := by rintro rfl; simp at hkb
      obtain ⟨b, o, hAe, hbB, hcell⟩ := HA.out hne
      subst hAe
      have hc := hcell k hkb
      have hx : wr.cell? ⟨b, o + k, none⟩ = some (.int .u8 (bs[k].toNat : Int)) := (hmk.out.1.cell (p := ⟨b, o + k, none⟩) hbB).trans hc
      clear hcell hc
      have hbl := bs[k].toNat_lt
      obtain ⟨y, hy⟩ : ∃ y, y = bs[k].toNat := ⟨_, rfl⟩
      have HY := Lib.hid hy
      rw [← hy] at hx hbl
      clear hy
      have hxl : t ^^^ y < 4294967296 := Nat.xor_lt_two_pow (n := 32) htl (by omega)
      have hxe := u32_xor_nat t y htl (by omega)
      obtain ⟨z, hz⟩ : ∃ z, z = t ^^^ y := ⟨_, rfl⟩
      have HZ := Lib.hid hz
      rw [← hz] at hxe hxl
      clear hz
      have hT0 : Tab (wr.setCell ⟨w.heap.size, 0, none⟩ (.int .u32 (z : Int))) := HT.out.grew (hmk.out.1.setCell (Nat.le_refl _) _)
      have HT0 := Lib.hid hT0
      have HS0 := Lib.hid (one_setCell (u := .int .u32 (z : Int)) hmk.out.2)
      have B0 := Lib.hid (hmk.out.1.setCell (p := ⟨w.heap.size, 0, none⟩) (Nat.le_refl _) (.int .u32 (z : Int)))
      clear hT0
      go_wp2_with fail
      refine (four_any w.heap.size z hxl _ HT0.out HT.out.1 HS0.out).mono ?_
      rintro e W1 ⟨rfl, hS1, hB1⟩
      have B1 := Lib.hid (B0.out.trans hB1)
      have HS1 := Lib.hid hS1
      have HT1 := Lib.hid (HT.out.grew B1.out)
      clear hS1 hB1 HT0 HS0 B0
      go_wp2_with fail
      refine (four_any w.heap.size (stps 4 z) (stps_lt 4 hxl) _ HT1.out HT.out.1 HS1.out).mono ?_
      rintro e W2 ⟨rfl, hS2, hB2⟩
      have B2 := Lib.hid (B1.out.trans hB2)
      have HS2 := Lib.hid hS2
      clear hS2 hB2 HT1 HS1 B1
      go_wp2
      go_roundw
      case rel =>
        refine ⟨k + 1, by omega, by go_num, B2.out, ?_⟩
        have e : crcS s0 (bs.take (k + 1)) = stps 4 (stps 4 z) := by
          rw [take_snoc bs k hkb, crcS_snoc, ← HTT.out, ← HY.out, ← HZ.out, ← stps_add]
        rw [e]; exact HS2.out
      case measure => simp only [intOf]; omega
    · have hki : ¬ (k : Int) < L := by omega
      have hn2 := not_u32 t htl
      go_wp2
      go_ret
      have hkL : k = L := by omega
      have hall : bs.take k = bs := List.take_of_length_le (by have := HL.out; omega)
      refine ⟨ret_int ?_, hmk.out.1⟩
      rw [HTT.out, hall]

set_option maxHeartbeats 1000000 in
theorem Sum_any (A : Option Addr) (L c : Nat) (bs : List UInt8) (hL : L = bs.length) (hlen : L ≤ 1000000) (w : World) (hT : Tab w) (hA : HasA w w.heap.size A bs) :
    Calls Tryd.prog 23 #[.slice A L c] w fun e w' => e = .returned (.int .u32 (crcSum bs : Int)) ∧ Grew w w' := by
  have HL := Lib.hid hL
  have HA := Lib.hid hA
  have HT := Lib.hid hT
  clear hL hA hT
  go_enter Tryd.func23, Tryd.ntmps23
  go_wp2_with fail
  refine (More_any A L c 0 bs (by omega) HL.out hlen w HT.out HA.out).mono ?_
  rintro e W1 ⟨rfl, hg⟩
  have HG := Lib.hid hg
  clear hg
  go_wp2
  go_ret
  refine ⟨ret_int ?_, HG.out⟩
  rfl
end Go.Proofs.YtbhncffeoolhfaaDoor
