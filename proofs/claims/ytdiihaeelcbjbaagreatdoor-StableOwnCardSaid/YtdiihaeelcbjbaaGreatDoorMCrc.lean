/- The contract of the document's own checksum. The table of the effect of four steps, as the program's variable holds it, and the contract of the closure that does four steps. The contracts of crc.More and crc.Sum. From the row's condition on the variable to the table that the walks ask for; a start that meets it. -/
import Derived.Test.YtdiihaeelcbjbaaGreatDoorMBase
import Derived.Test.YtdiihaeelcbjbaaGreatDoorMMath
import Derived.LoopTactic
import Derived.RegionTactic
import Derived.BigRegion
import Derived.OneCell
import Derived.Test.YtdiihaeelcbjbaaGreatDoorCards
import Derived.Lib.LaidTab
import Derived.LaidMore
import Derived.LaidHandle
import Derived.OpenShut
import Derived.Stop.Joined
-- CrcRef
namespace Go.Proofs.YtdiihaeelcbjbaaGreatDoor
open Go.RowKit

theorem and1_u32 (u : Nat) (h : u < 4294967296) : bits .and .u32 (u : Int) 1 = ((u % 2 : Nat) : Int) := by
  have := u32_and_nat u 1 h (by omega)
  rw [show ((1 : Nat) : Int) = 1 from rfl] at this
  rw [this, Nat.and_one_is_mod]

theorem take_snoc (bs : List UInt8) (k : Nat) (h : k < bs.length) : bs.take (k + 1) = bs.take k ++ [bs[k]] := by
  rw [List.take_succ_eq_append_getElem h]
theorem crcS_snoc (c : Nat) (bs : List UInt8) (b : UInt8) : crcS c (bs ++ [b]) = stps 8 (crcS c bs ^^^ b.toNat) := by rw [crcS_append]; rfl

set_option maxHeartbeats 1000000 in
theorem ref_Sum (A : Option Addr) (L c : Nat) (bs : List UInt8) (hL : L = bs.length) (hlen : L ≤ 1000000) (w : World) (hA : HasA w w.heap.size A bs) :
    Calls Tryz.prog 58 #[.slice A L c] w fun e w' => e = .returned (.int .u32 (crcSum bs : Int)) ∧ w = w' := by
  have HL := Lib.hid hL
  have HA := Lib.hid hA
  clear hL hA
  have hli : (L : Int) ≤ 1000000 := by omega
  go_enter Tryz.func58, Tryz.ntmps58
  go_wp2
  go_loop [3, 4] (fun t i => ∃ k : Nat, k ≤ L ∧ i = .int .i64 k ∧ t = .int .u32 ((crcS 4294967295 (bs.take k) : Nat) : Int)) (fun _ i => L - (intOf i).toNat)
  case atStart => exact ⟨0, Nat.zero_le _, rfl, rfl⟩
  case round =>
    obtain ⟨k, hk, rfl, rfl⟩ := hrel
    by_cases hlt : k < L
    · have hki : (k : Int) < L := by omega
      have hkb : k < bs.length := by have := HL.out; omega
      obtain ⟨b, o, rfl, _, hcell⟩ := HA.out (by rintro rfl; simp at hkb)
      have hc := hcell k hkb
      have hx : w.cell? ⟨b, o + k, none⟩ = some (.int .u8 (bs[k].toNat : Int)) := hc
      clear hcell hc
      obtain ⟨s, hs⟩ : ∃ s, s = crcS 4294967295 (bs.take k) := ⟨_, rfl⟩
      have hsl : s < 4294967296 := by rw [hs]; exact crcS_lt _ (by omega)
      have HS := Lib.hid hs
      rw [← hs]
      clear hs
      have hbl := bs[k].toNat_lt
      obtain ⟨y, hy⟩ : ∃ y, y = bs[k].toNat := ⟨_, rfl⟩
      have HY := Lib.hid hy
      rw [← hy] at hx hbl
      clear hy
      have hxor : s ^^^ y < 4294967296 := Nat.xor_lt_two_pow (n := 32) hsl (by omega)
      go_wp2
      go_loop [3, 5] (fun t j => ∃ q : Nat, q ≤ 8 ∧ j = .int .i64 q ∧ t = .int .u32 ((stps q (s ^^^ y) : Nat) : Int)) (fun _ j => 8 - (intOf j).toNat)
      case atStart =>
        refine ⟨0, Nat.zero_le _, rfl, ?_⟩
        rw [u32_xor_nat s y hsl (by omega)]; rfl
      case round =>
        obtain ⟨q, hq, rfl, rfl⟩ := hrel
        obtain ⟨z, hz⟩ : ∃ z, z = stps q (s ^^^ y) := ⟨_, rfl⟩
        have hzl : z < 4294967296 := by rw [hz]; exact stps_lt q hxor
        have HZ := Lib.hid hz
        rw [← hz]
        clear hz
        by_cases hq8 : q < 8
        · have hqi : (q : Int) < 8 := by omega
          have ha := and1_u32 z hzl
          by_cases hodd : z % 2 = 1
          · rw [hodd] at ha
            have hb : bits .and .u32 (z : Int) 1 = 1 := ha
            clear ha
            go_wp2
            refine ⟨⟨q + 1, by omega, by congr 1, ?_⟩, by simp only [intOf]; omega⟩
            rw [show ((z : Int) / 2) = ((z / 2 : Nat) : Int) by omega, show (2197175160 : Int) = ((2197175160 : Nat) : Int) from rfl, u32_xor_nat _ _ (by omega) (by omega), stps_succ, ← HZ.out]
            congr 2
            unfold stp
            rw [if_pos hodd]
          · have h0 : z % 2 = 0 := by omega
            rw [h0] at ha
            have hb : bits .and .u32 (z : Int) 1 = 0 := ha
            clear ha
            go_wp2
            refine ⟨⟨q + 1, by omega, by congr 1, ?_⟩, by simp only [intOf]; omega⟩
            rw [show ((z : Int) / 2) = ((z / 2 : Nat) : Int) by omega, stps_succ, ← HZ.out]
            congr 2
            unfold stp
            rw [if_neg hodd, Nat.xor_zero]
        · have hqi : ¬ (q : Int) < 8 := by omega
          obtain rfl : q = 8 := by omega
          go_wp2
          refine ⟨⟨k + 1, by omega, by congr 1, ?_⟩, by simp only [intOf]; omega⟩
          rw [take_snoc bs k hkb, crcS_snoc, ← HS.out, ← HY.out, ← HZ.out]
    · have hki : ¬ (k : Int) < L := by omega
      go_wp2
      go_ret
      have hkL : k = L := by omega
      refine ⟨ret_int ?_, rfl⟩
      have hall : bs.take k = bs := List.take_of_length_le (by have := HL.out; omega)
      rw [hall, show (4294967295 : Int) = ((4294967295 : Nat) : Int) from rfl, u32_xor_nat _ _ (crcS_lt _ (by omega)) (by omega)]
      rfl
end Go.Proofs.YtdiihaeelcbjbaaGreatDoor

-- CrcFour
namespace Go.Proofs.YtdiihaeelcbjbaaGreatDoor
open Go.RowKit

/-- The effect of four steps on four bits. -/
def eff (i : Nat) : Nat := stps 4 i
/-- The variable holds the table. -/
def Tab (w : World) : Prop := 0 < w.heap.size ∧ ∀ i, i < 16 → w.cell? ⟨0, i, none⟩ = some (.int .u32 (eff i : Int))
theorem Tab.below {w w' : World} {B : Nat} (h : Tab w) (hB : 0 < B) (hb : Below B w w') : Tab w' :=
  ⟨Nat.lt_of_lt_of_le h.1 hb.size, fun i hi => (hb.cell (p := ⟨0, i, none⟩) hB).trans (h.2 i hi)⟩
theorem Tab.grew {w w' : World} (h : Tab w) (hb : Below w.heap.size w w') : Tab w' := h.below h.1 hb

theorem and15_u32 (u : Nat) (h : u < 4294967296) : bits .and .u32 (u : Int) 15 = ((u % 16 : Nat) : Int) := by
  have := u32_and_nat u 15 h (by omega)
  rw [show ((15 : Nat) : Int) = 15 from rfl] at this
  rw [this, show (15 : Nat) = 2 ^ 4 - 1 from rfl, Nat.and_two_pow_sub_one_eq_mod]
theorem eff_lt (i : Nat) (h : i < 16) : eff i < 4294967296 := stps_lt 4 (by omega)
theorem four_steps (s : Nat) : s / 16 ^^^ eff (s % 16) = stps 4 s := by
  rw [stps_split 4 s, Nat.xor_comm]; rfl

/-- The captured variable. -/
def StC (w : World) (g s : Nat) : Prop := w.heap[g]? = some (.cells #[.int .u32 (s : Int)] 112 (0, 0))

set_option maxHeartbeats 1000000 in
theorem four_any (g s : Nat) (hs : s < 4294967296) (w : World) (hT : Tab w) (_hg : 0 < g) (hc : StC w g s) :
    Calls Tryz.prog 138 #[.pointer (some ⟨g, 0, none⟩)] w fun e w' => e = .returned (.tuple #[]) ∧ StC w' g (stps 4 s) ∧ Below g w w' := by
  have h1 := cell_of_one hc
  have h2 := free_of_one hc
  obtain ⟨q, hq⟩ : ∃ q, q = s % 16 := ⟨_, rfl⟩
  have hq16 : q < 16 := by omega
  have ha := and15_u32 s hs
  rw [← hq] at ha
  have hcell := hT.2 q hq16
  obtain ⟨E, hE⟩ : ∃ E, E = eff q := ⟨_, rfl⟩
  have hEl : E < 4294967296 := by rw [hE]; exact eff_lt q hq16
  rw [← hE] at hcell
  have HQ := Lib.hid hq
  have HE := Lib.hid hE
  have HC := Lib.hid hc
  clear hq hE hc
  have hqi : (q : Int) < 16 := by omega
  go_enter Tryz.func138, Tryz.ntmps138
  go_region
  all_goals
    go_end0
    refine ⟨rfl, ?_, ?_⟩
    · have e : bits .xor .u32 ((s : Int) / 16) (E : Int) = ((stps 4 s : Nat) : Int) := by
        rw [show ((s : Int) / 16) = ((s / 16 : Nat) : Int) by omega, u32_xor_nat _ _ (by omega) hEl, HE.out, HQ.out, four_steps]
      rw [e]
      exact one_setCell HC.out
    · exact ((Below.refl g w).setCell (Nat.le_refl _) _).drew
end Go.Proofs.YtdiihaeelcbjbaaGreatDoor

-- CrcCode
namespace Go.Proofs.YtdiihaeelcbjbaaGreatDoor
open Go.RowKit

theorem not_u32 (x : Nat) (h : x < 4294967296) : bits .xor .u32 IntKind.u32.max (x : Int) = ((x ^^^ 4294967295 : Nat) : Int) := by
  have e : IntKind.u32.max = ((4294967295 : Nat) : Int) := by decide
  rw [e, u32_xor_nat _ _ (by omega) h, Nat.xor_comm]

/-- What the loop keeps: the state behind the bytes so far, in the captured variable. -/
def MK (w : World) (s : Nat) (W : World) : Prop := Below w.heap.size w W ∧ StC W w.heap.size s

set_option maxHeartbeats 1000000 in
theorem More_any (A : Option Addr) (L c s : Nat) (bs : List UInt8) (hs : s < 4294967296) (hL : L = bs.length) (hlen : L ≤ 1000000) (w : World) (hT : Tab w) (hA : HasA w w.heap.size A bs) :
    Calls Tryz.prog 136 #[.int .u32 (s : Int), .slice A L c] w fun e w' => e = .returned (.int .u32 ((crcS (s ^^^ 4294967295) bs ^^^ 4294967295 : Nat) : Int)) ∧ Grew w w' := by
  have hmf : ∀ (fn : Fn) (first cap : Array Value) (w : World), (Instr.makeFunc fn first cap).run Tryz.prog w = .ok (.func fn first cap) w := fun _ _ _ _ => rfl
  have HL := Lib.hid hL
  have HA := Lib.hid hA
  have HT := Lib.hid hT
  have hli : (L : Int) ≤ 1000000 := by omega
  obtain ⟨s0, hs0⟩ : ∃ s0, s0 = s ^^^ 4294967295 := ⟨_, rfl⟩
  have hs0l : s0 < 4294967296 := by rw [hs0]; exact Nat.xor_lt_two_pow (n := 32) hs (by omega)
  have hn := not_u32 s hs
  rw [← hs0] at hn ⊢
  clear hL hA hT hs0
  go_enter Tryz.func136, Tryz.ntmps136
  go_wp2
  go_loopw [14] (fun i wr => ∃ k : Nat, k ≤ L ∧ i = .int .i64 k ∧ Hid (MK w (crcS s0 (bs.take k)) wr)) (fun i _ => L - (intOf i).toNat)
  case atStart =>
    exact ⟨0, Nat.zero_le _, rfl, (Below.refl _ _).alloc (Nat.le_refl _) _, World.alloc_heap_new _ _⟩
  case round =>
    obtain ⟨k, hk, rfl, hmk⟩ := hrel
    obtain ⟨t, ht⟩ : ∃ t, t = crcS s0 (bs.take k) := ⟨_, rfl⟩
    have htl : t < 4294967296 := by rw [ht]; exact crcS_lt _ hs0l
    have HTT := Lib.hid ht
    rw [← ht] at hmk
    clear ht
    have h1 := cell_of_one hmk.out.2
    have h2 := free_of_one hmk.out.2
    by_cases hlt : k < L
    · have hki : (k : Int) < L := by omega
      have hkb : k < bs.length := by rw [← HL.out]; exact hlt
      have hne : bs ≠ [] := by rintro rfl; simp at hkb
      obtain ⟨b, o, hAe, hbB, hcell⟩ := HA.out hne
      subst hAe
      have hc := hcell k hkb
      have hx : wr.cell? ⟨b, o + k, none⟩ = some (.int .u8 (bs[k].toNat : Int)) := (hmk.out.1.cell (p := ⟨b, o + k, none⟩) hbB).trans hc
      clear hcell hc
      have hbl := bs[k].toNat_lt
      obtain ⟨y, hy⟩ : ∃ y, y = bs[k].toNat := ⟨_, rfl⟩
      have HY := Lib.hid hy
      rw [← hy] at hx hbl
      clear hy
      have hxl : t ^^^ y < 4294967296 := Nat.xor_lt_two_pow (n := 32) htl (by omega)
      have hxe := u32_xor_nat t y htl (by omega)
      obtain ⟨z, hz⟩ : ∃ z, z = t ^^^ y := ⟨_, rfl⟩
      have HZ := Lib.hid hz
      rw [← hz] at hxe hxl
      clear hz
      have hT0 : Tab (wr.setCell ⟨w.heap.size, 0, none⟩ (.int .u32 (z : Int))) := HT.out.grew (hmk.out.1.setCell (Nat.le_refl _) _)
      have HT0 := Lib.hid hT0
      have HS0 := Lib.hid (one_setCell (u := .int .u32 (z : Int)) hmk.out.2)
      have B0 := Lib.hid (hmk.out.1.setCell (p := ⟨w.heap.size, 0, none⟩) (Nat.le_refl _) (.int .u32 (z : Int)))
      clear hT0
      go_wp2_with fail
      refine (four_any w.heap.size z hxl _ HT0.out HT.out.1 HS0.out).mono ?_
      rintro e W1 ⟨rfl, hS1, hB1⟩
      have B1 := Lib.hid (B0.out.trans hB1)
      have HS1 := Lib.hid hS1
      have HT1 := Lib.hid (HT.out.grew B1.out)
      clear hS1 hB1 HT0 HS0 B0
      go_wp2_with fail
      refine (four_any w.heap.size (stps 4 z) (stps_lt 4 hxl) _ HT1.out HT.out.1 HS1.out).mono ?_
      rintro e W2 ⟨rfl, hS2, hB2⟩
      have B2 := Lib.hid (B1.out.trans hB2)
      have HS2 := Lib.hid hS2
      clear hS2 hB2 HT1 HS1 B1
      go_wp2
      go_roundw
      case rel =>
        refine ⟨k + 1, by omega, by go_num, B2.out, ?_⟩
        have e : crcS s0 (bs.take (k + 1)) = stps 4 (stps 4 z) := by
          rw [take_snoc bs k hkb, crcS_snoc, ← HTT.out, ← HY.out, ← HZ.out, ← stps_add]
        rw [e]; exact HS2.out
      case measure => simp only [intOf]; omega
    · have hki : ¬ (k : Int) < L := by omega
      have hn2 := not_u32 t htl
      go_wp2
      go_ret
      have hkL : k = L := by omega
      have hall : bs.take k = bs := List.take_of_length_le (by have := HL.out; omega)
      refine ⟨ret_int ?_, hmk.out.1⟩
      rw [HTT.out, hall]

set_option maxHeartbeats 1000000 in
theorem Sum_any (A : Option Addr) (L c : Nat) (bs : List UInt8) (hL : L = bs.length) (hlen : L ≤ 1000000) (w : World) (hT : Tab w) (hA : HasA w w.heap.size A bs) :
    Calls Tryz.prog 130 #[.slice A L c] w fun e w' => e = .returned (.int .u32 (crcSum bs : Int)) ∧ Grew w w' := by
  have HL := Lib.hid hL
  have HA := Lib.hid hA
  have HT := Lib.hid hT
  clear hL hA hT
  go_enter Tryz.func130, Tryz.ntmps130
  go_wp2_with fail
  refine (More_any A L c 0 bs (by omega) HL.out hlen w HT.out HA.out).mono ?_
  rintro e W1 ⟨rfl, hg⟩
  have HG := Lib.hid hg
  clear hg
  go_wp2
  go_ret
  refine ⟨ret_int ?_, HG.out⟩
  rfl
end Go.Proofs.YtdiihaeelcbjbaaGreatDoor

-- CrcLaid
namespace Go.Proofs.YtdiihaeelcbjbaaGreatDoor
open Go.ChangeShapes Go.WideShapes Go.ChangeAt Go.RowKit Go.ChangeMaps

abbrev crcLaid : List (String × DataW Unit) := [("quorate/crc.effect", Rows.laid_quorate_crc_effect)]
def effs : List Int := (List.range 16).map fun i => (eff i : Int)
theorem laid_eff : (Rows.laid_quorate_crc_effect : DataW Unit) = Lib.tabData .u32 effs := by kernel_rfl
theorem gEffect : Tryz.prog.globalNamed "quorate/crc.effect" = some 0 := by kernel_rfl
theorem tEffect : (Tryz.prog.globals[(0 : Nat)]?).map (·.type) = some 200 := by kernel_rfl
theorem cellsA : Tryz.prog.cellsOf 200 = 16 := by kernel_rfl
theorem cellsE : Tryz.prog.cellsOf 112 = 1 := by kernel_rfl

theorem tab_of_laid {W : World} (h : laidMetH Tryz.prog crcLaid W) : Tab W := by
  rw [MakeChecks.laidMetH_plain _ _ _ (by kernel_rfl)] at h
  unfold crcLaid at h
  rw [laid_eff] at h
  have hT := Lib.tabIs_of_head gEffect tEffect Tryz.underlying200 Tryz.underlying112 cellsE cellsA h
  have hcell : ∀ i, i < 16 → W.cell? ⟨0, i, none⟩ = some (.int .u32 (eff i : Int)) := fun i hi => by
    have := hT.cell gEffect i (by simpa [effs] using hi)
    rw [this]
    simp [effs, List.getD, hi]
  exact ⟨World.block_lt_of_cell? W _ (hcell 0 (by omega)), hcell⟩

theorem door_met (os : Os) (args : Array Value) : laidMetH Tryz.prog crcLaid ((World.doorLaid Tryz.prog 400 os).forCall (fun _ _ => 0) ⟨#[], args, []⟩).memory :=
  laidMetH_of_parts3 (fuel := 8) (laidMet_of_run' 8 (by kernel_rfl) (by kernel_rfl)) (by kernel_rfl) (by kernel_rfl)
end Go.Proofs.YtdiihaeelcbjbaaGreatDoor
