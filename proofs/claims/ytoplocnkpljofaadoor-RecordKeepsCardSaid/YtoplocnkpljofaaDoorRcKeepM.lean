/- What the law that what was synced is told does to the disk, step by step. -/
import Derived.Test.YtoplocnkpljofaaDoorRcPlace
import Derived.Test.YtoplocnkpljofaaDoorMRc
namespace Go.Proofs.YtoplocnkpljofaaDoor
open Go.RowKit

/-- The disk behind i records, of which sr are synced. -/
def KS (l : List (List UInt8)) (sr i : Nat) : DS := ⟨frms (l.take i), if i ≤ sr then 0 else (frms (l.take sr)).length, false, none⟩
theorem KS_new (l : List (List UInt8)) (sr : Nat) : KS l sr 0 = DS.new := by simp [KS, DS.new, frms]
theorem KS_more (l : List (List UInt8)) (i : Nat) (hi : i < l.length) : frms (l.take (i + 1)) = frms (l.take i) ++ frm l[i] := by
  rw [List.take_succ_eq_append_getElem hi, frms_append, frms_cons, frms_nil, List.append_nil]
theorem KS_step (l : List (List UInt8)) (sr i : Nat) (hi : i < l.length) (h : i ≠ sr) (hf : Fit l[i]) : (KS l sr i).recd l[i] = (KS l sr (i + 1), 0) := by
  have hf' : 1 ≤ (l[i]).length ∧ (l[i]).length ≤ 65536 := hf
  have e : (if i ≤ sr then 0 else (frms (l.take sr)).length) = (if i + 1 ≤ sr then 0 else (frms (l.take sr)).length) := by
    by_cases h1 : i ≤ sr
    · rw [if_pos h1, if_pos (by omega)]
    · rw [if_neg h1, if_neg (by omega)]
  simp only [DS.recd, KS, hf', and_self, if_true, DS.app, KS_more l i hi, e]
  simp
/-- What is synced at record i. -/
def KY (l : List (List UInt8)) (i : Nat) : DS := ⟨frms (l.take i), (frms (l.take i)).length, false, none⟩
theorem KS_sync (l : List (List UInt8)) (i : Nat) : (KS l i i).sync = (KY l i, 0) := by simp [KS, KY, DS.sync]
theorem KY_step (l : List (List UInt8)) (i : Nat) (hi : i < l.length) (hf : Fit l[i]) : (KY l i).recd l[i] = (KS l i (i + 1), 0) := by
  have hf' : 1 ≤ (l[i]).length ∧ (l[i]).length ≤ 65536 := hf
  have e : ¬ i + 1 ≤ i := by omega
  simp only [DS.recd, KS, KY, hf', and_self, if_true, DS.app, KS_more l i hi, e, if_false]
  simp
/-- Behind all records. -/
def KF (l : List (List UInt8)) (sr : Nat) : DS := ⟨frms l, (frms (l.take sr)).length, false, none⟩
theorem KS_last (l : List (List UInt8)) (sr : Nat) (h : sr < l.length) : KS l sr l.length = KF l sr := by
  simp only [KS, KF, List.take_length]
  rw [if_neg (by omega)]
theorem KY_last (l : List (List UInt8)) : KY l l.length = KF l l.length := by simp only [KY, KF, List.take_length]
theorem KF_crash (l : List (List UInt8)) (sr N : Nat) (h : (frms (l.take sr)).length + N ≤ (frms l).length) : (KF l sr).crash (N : Int) = (⟨(frms l).take ((frms (l.take sr)).length + N), (frms (l.take sr)).length, true, none⟩, 0) := by
  by_cases hlt : (N : Int) < ((frms l).length - (frms (l.take sr)).length : Nat)
  · simp only [DS.crash, KF]
    simp
    omega
  · have e : (frms l).take ((frms (l.take sr)).length + N) = frms l := List.take_of_length_le (by omega)
    rw [e]
    simp only [DS.crash, KF]
    simp
    omega
/-- Behind the opening: all that is told is synced. -/
def KO (l : List (List UInt8)) (kept : Nat) : DS := ⟨frms (l.take kept), (frms (l.take kept)).length, false, none⟩
theorem KO_crash (l : List (List UInt8)) (kept : Nat) : (KO l kept).crash 0 = (⟨frms (l.take kept), (frms (l.take kept)).length, true, none⟩, 0) := by simp [KO, DS.crash]
theorem shl_pow (r : Nat) (h : r < 8) : (1 <<< UInt8.ofNat r : UInt8) = UInt8.ofNat (2 ^ r) := by
  rcases r with _ | _ | _ | _ | _ | _ | _ | _ | r
  all_goals first | rfl | omega
theorem turn_is (A : List UInt8) (y p : Nat) (hp : p / 8 < A.length) : (⟨A, y, true, none⟩ : DS).turn (p : Int) = (⟨turn A p, y, true, none⟩, 0) := by
  have h1 : ¬ (true = false ∨ (p : Int) < 0 ∨ (A.length : Int) ≤ (p : Int) / 8) := by simp; omega
  unfold DS.turn
  rw [if_neg h1, Int.toNat_natCast, shl_pow _ (Nat.mod_lt _ (by omega))]
  rfl
theorem InBB.take {w : World} {A : Option Addr} {ls : List (List UInt8)} (h : InBB w A ls) (k : Nat) : InBB w A (ls.take k) := fun hn => by
  obtain ⟨b, o, e, hb, hc⟩ := h (by rintro rfl; simp at hn)
  refine ⟨b, o, e, hb, fun i hi => ?_⟩
  have hi' : i < ls.length := by rw [List.length_take] at hi; omega
  have : (ls.take k)[i] = ls[i] := by simp
  rw [this]
  exact hc i hi'
/-- A disk whose opening tells the first records. -/
def KG (l : List (List UInt8)) (kept : Nat) (s : DS) : Prop := s.dead = false ∧ opn s.A s.y = (l.take kept, (frms (l.take kept)).length, 0) ∧ s.opened = KO l kept ∧ s.A.length ≤ 100000
theorem KG_torn (l : List (List UInt8)) (kept M Y : Nat) (h : opn ((frms l).take M) Y = (l.take kept, (frms (l.take kept)).length, 0)) (ht : ((frms l).take M).take (frms (l.take kept)).length = frms (l.take kept)) (hl : (frms l).length ≤ 100000) : KG l kept ⟨(frms l).take M, Y, false, none⟩ := by
  refine ⟨rfl, h, ?_, by show ((frms l).take M).length ≤ _; rw [List.length_take]; omega⟩
  simp only [DS.opened, h, ht, KO]
theorem KG_again (l : List (List UInt8)) (hs : Short l) (kept : Nat) (hl : (frms l).length ≤ 100000) : KG l kept (KO l kept) := by
  have h := opn_again (l.take kept) (fun x hx => hs.fit x (List.mem_of_mem_take hx))
  have hle := frms_take_le l kept
  refine ⟨rfl, h, ?_, Nat.le_trans hle hl⟩
  simp only [DS.opened, KO, h, List.take_length]
/-- Where the bit lies that is turned, and what opening comes to then. -/
theorem KT_place (l : List (List UInt8)) (hs : Short l) (i q : Nat) (hi : i < l.length) (hq : q < 8 * (4 + (l[i]).length)) : (8 * ((frms (l.take (i + 1))).length - (l[i]).length - 4) + q) / 8 < (frms l).length ∧ 8 * ((frms (l.take (i + 1))).length - (l[i]).length - 4) + q ≤ 8 * (frms l).length := by
  have h1 := frms_succ l hs i hi
  have h2 := frms_take_le l (i + 1)
  omega
end Go.Proofs.YtoplocnkpljofaaDoor
