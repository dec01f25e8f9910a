/- rowsFit: whether rows may be those of a table. -/
import Derived.Test.YtelbgjnaceffeaaSqY
namespace Go.Proofs.Ytelbgjnaceffeaa
open Go.RowKit Go.Maps

set_option maxRecDepth 100000 in
set_option maxHeartbeats 4000000 in
theorem fit_any (A : Option Addr) (L c : Nat) (l : List SE) (w : World) (hL : L = l.length) (hLm : L ≤ 1000000) (hA : HasW w A l) :
    Calls Try.prog 18 #[.slice A L c] w fun e W' => e = .returned (.bool (fitF 0 l)) ∧ Below w.heap.size w W' := by
  obtain ⟨r, hr⟩ : ∃ r, r = fitF 0 l := ⟨_, rfl⟩
  rw [← hr]
  have HR := Lib.hid hr
  have HL := Lib.hid hL
  have HA := Lib.hid hA
  have hLi : (L : Int) ≤ 1000000 := by omega
  clear hL hA hr
  go_enter Try.func18, Try.ntmps18
  go_wp2
  go_loopw [3, 8] (fun t i wr => ∃ (j T : Nat), j ≤ L ∧ i = .int .i64 (j : Int) ∧ t = .int .u64 (T : Int) ∧ Hid (r = fitF T (l.drop j)) ∧ Hid (Below w.heap.size w wr)) (fun _ i _ => L - (intOf i).toNat)
  case atStart => exact ⟨0, 0, Nat.zero_le _, rfl, rfl, HR, Lib.hid (Below.refl _ _)⟩
  case round =>
    obtain ⟨j, T, hj, rfl, rfl, HF, HB⟩ := hrel
    by_cases hlt : j < L
    · have hji : (j : Int) < L := by omega
      have hj1 : j < l.length := by have := HL.out; omega
      obtain ⟨b, o, e1, l1, f1⟩ := HA.out (by rintro rfl; simp at hj1)
      subst e1
      obtain ⟨g1, g2, g3, g4⟩ := f1 j hj1
      have hfj : r = (decide (T < l[j].cl) && decide (l[j].cl ≤ 4294967295) && decide (l[j].sq ≤ 4294967295) && decide (l[j].cd ≤ 3) && fitF l[j].cl (l.drop (j + 1))) := by
        rw [HF.out, List.drop_eq_getElem_cons hj1]
        rfl
      obtain ⟨⟨cl, sq, cd, tx⟩, he⟩ : ∃ e, e = l[j] := ⟨_, rfl⟩
      rw [← he] at g1 g2 g3 g4 hfj
      simp only at g1 g2 g3 g4 hfj
      have x1 := (HB.out.cell (p := ⟨b, o + j * 4, none⟩) l1).trans g1
      have x2 := (HB.out.cell (p := ⟨b, o + j * 4 + 1, none⟩) l1).trans g2
      have x3 := (HB.out.cell (p := ⟨b, o + j * 4 + 2, none⟩) l1).trans g3
      have x4 := (HB.out.cell (p := ⟨b, o + j * 4 + 3, none⟩) l1).trans g4
      have HFJ := Lib.hid hfj
      obtain ⟨q, hq⟩ : ∃ q, q = wr.heap.size := ⟨_, rfl⟩
      obtain ⟨W1, hW1⟩ : ∃ W1, W1 = wr.alloc (Obj.cells #[.int .u64 (cl : Int), .int .u64 (sq : Int), .int .u64 (cd : Int), .string tx] 55) := ⟨_, rfl⟩
      have hB1 : Below wr.heap.size wr W1 := by rw [hW1]; exact (Below.refl _ wr).alloc (Nat.le_refl _) _
      have k1 : W1.heap[q]? = some (.cells #[.int .u64 (cl : Int), .int .u64 (sq : Int), .int .u64 (cd : Int), .string tx] 55 (0, 0)) := by rw [hW1, hq]; exact World.alloc_heap_new wr _
      have c0 : W1.cell? ⟨q, 0, none⟩ = some (.int .u64 (cl : Int)) := by simpa using blk_cell k1 0
      have c1 : W1.cell? ⟨q, 1, none⟩ = some (.int .u64 (sq : Int)) := by simpa using blk_cell k1 1
      have c2 : W1.cell? ⟨q, 2, none⟩ = some (.int .u64 (cd : Int)) := by simpa using blk_cell k1 2
      have HB1 := Lib.hid (HB.out.trans (Below.mono hB1 HB.out.size))
      clear f1 g1 g2 g3 g4 l1 he hfj hB1 k1
      go_upto_region 5 with (fail)
      rw [← hq, ← hW1]
      clear x1 x2 x3 x4 hq hW1
      by_cases h1 : T < cl
      · have h1i : ¬ (cl : Int) ≤ (T : Int) := by omega
        by_cases h2 : cl ≤ 4294967295
        · have h2i : ¬ (4294967295 : Int) < (cl : Int) := by omega
          by_cases h3 : sq ≤ 4294967295
          · have h3i : ¬ (4294967295 : Int) < (sq : Int) := by omega
            by_cases h4 : cd ≤ 3
            · have h4i : ¬ (3 : Int) < (cd : Int) := by omega
              have HFN : Hid (r = fitF cl (l.drop (j + 1))) := Lib.hid (by rw [HFJ.out, decide_eq_true h1, decide_eq_true h2, decide_eq_true h3, decide_eq_true h4]; rfl)
              clear h1 h2 h3 h4
              go_wp2
              exact ⟨⟨j + 1, cl, by omega, by congr 1, rfl, HFN, HB1⟩, by simp only [intOf]; omega⟩
            · have h4i : (3 : Int) < (cd : Int) := by omega
              have hrf : r = false := by rw [HFJ.out, decide_eq_false h4]; simp
              subst hrf
              clear h1 h2 h3 h4
              go_wp2
              go_ret
              exact ⟨rfl, HB1.out⟩
          · have h3i : (4294967295 : Int) < (sq : Int) := by omega
            have hrf : r = false := by rw [HFJ.out, decide_eq_false h3]; simp
            subst hrf
            clear h1 h2 h3
            go_wp2
            go_ret
            exact ⟨rfl, HB1.out⟩
        · have h2i : (4294967295 : Int) < (cl : Int) := by omega
          have hrf : r = false := by rw [HFJ.out, decide_eq_false h2]; simp
          subst hrf
          clear h1 h2
          go_wp2
          go_ret
          exact ⟨rfl, HB1.out⟩
      · have h1i : (cl : Int) ≤ (T : Int) := by omega
        have hrf : r = false := by rw [HFJ.out, decide_eq_false h1]; simp
        subst hrf
        clear h1
        go_wp2
        go_ret
        exact ⟨rfl, HB1.out⟩
    · have hji : ¬ (j : Int) < L := by omega
      obtain rfl : j = L := by omega
      have hrt : r = true := by rw [HF.out, List.drop_of_length_le (by have := HL.out; omega)]; rfl
      subst hrt
      go_wp2
      go_ret
      exact ⟨rfl, HB.out⟩
end Go.Proofs.Ytelbgjnaceffeaa
