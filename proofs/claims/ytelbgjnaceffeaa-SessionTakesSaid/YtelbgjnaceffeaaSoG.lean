/- Patterns of a row of numbers broken; a pivot of a row of numbers. -/
import Derived.Test.YtelbgjnaceffeaaSoF
namespace Go.Proofs.Ytelbgjnaceffeaa
open Go.RowKit Go.Sort

theorem keep_two {W : World} {b q i j : Nat} {u v : Value} {o : Obj} (hq : q ≠ b) (h : W.heap[q]? = some o) : (((W.setCell ⟨b, i, none⟩ u).setCell ⟨b, j, none⟩ v).drew).heap[q]? = some o :=
  (Go.RowKit.Below.heap_setCell _ _ _ _ hq).trans ((Go.RowKit.Below.heap_setCell _ _ _ _ hq).trans h)
/-- The row behind an exchange of some places from a to e. -/
def PermSR (w : World) (b off n : Nat) (pre rest : List Value) (a e : Nat) (d : Array Int) (W : World) : Prop := ∃ d', PermIn a e d d' ∧ SR w b off n pre rest d' W
set_option maxRecDepth 100000 in
set_option maxHeartbeats 8000000 in
theorem brk_n {w W0 : World} {b off n : Nat} {pre rest : List Value} {d : Array Int} (cap a e : Nat) (hs : SR w b off n pre rest d W0) (hae : a + 13 ≤ e) (he : e ≤ n) (hsz : n < 1152921504606846976) :
    Calls Try.prog 45 #[.slice (some ⟨b, off, none⟩) n cap, .int .i64 (a : Int), .int .i64 (e : Int)] W0 fun x W => x = .returned (.tuple #[]) ∧ PermSR w b off n pre rest a e d W := by
  obtain ⟨l, hl⟩ : ∃ l, l = e - a := ⟨_, rfl⟩
  obtain ⟨f, hf⟩ : ∃ f, f = l / 4 := ⟨_, rfl⟩
  obtain ⟨c, hc⟩ : ∃ c, c = a + f * 2 - 1 := ⟨_, rfl⟩
  have hlz : (e : Int) - (a : Int) = (l : Int) := by omega
  have hfz : (l : Int) / 4 = (f : Int) := by omega
  have hcz : (a : Int) + (f : Int) * 2 - 1 = (c : Int) := by omega
  have hl8 : 13 ≤ l := by omega
  have hal : a + l = e := by omega
  have hf2 : 2 ≤ f := by omega
  have hfl : f * 4 ≤ l := by omega
  have hca : c + 1 = a + f * 2 := by omega
  have HN := Lib.hid (npow_n l · (by omega) (by omega))
  have HS := Lib.hid hs
  obtain ⟨W1, hW1⟩ : ∃ W, W = W0.alloc (Obj.cells #[.int .u64 (l : Int)] 105) := ⟨_, rfl⟩
  have h1 : SR w b off n pre rest d W1 := by rw [hW1]; exact hs.alloc _
  have k1 : W1.heap[W0.heap.size]? = some (.cells #[.int .u64 (l : Int)] 105 (0, 0)) := by rw [hW1]; exact World.alloc_heap_new W0 _
  have hq1 : w.heap.size ≤ W0.heap.size := hs.grown.size
  have hq2 : W0.heap.size ≠ b := by have := hs.lt; omega
  obtain ⟨q, hq⟩ : ∃ q, q = W0.heap.size := ⟨_, rfl⟩
  rw [← hq] at k1 hq1 hq2
  have H1 := Lib.hid (And.intro h1 (And.intro k1 (And.intro hq1 hq2)))
  have HL := Lib.hid (show l < 18446744073709551616 by omega)
  clear hs hl hf hc h1 k1 hq1 hq2 hae
  go_enter Try.func45, Try.ntmps45
  go_upto_region 3 with (fail)
  rw [← hq, ← hW1]
  clear hq hW1
  go_wp2_with (go_at_call 55; refine (HN.out _).mono ?_; rintro e1 W2 ⟨m, rfl, hm1, hm2, rfl⟩)
  obtain ⟨m1, hm⟩ : ∃ m1, m = m1 + 1 := ⟨m - 1, by omega⟩
  have hmz : (m : Int) - 1 = (m1 : Int) := by omega
  have hm1l : m1 < 2 * l := by omega
  have HM2 := Lib.hid (show m1 < 18446744073709551616 by omega)
  clear hm hm1 hm2
  go_loopw [9, 10] (fun vi _ wr => ∃ (u y : Nat) (dk : Array Int), vi = .int .i64 (u : Int) ∧ c ≤ u ∧ u ≤ c + 3 ∧ Hid (y < 18446744073709551616) ∧ Hid (PermIn a e d dk ∧ SR w b off n pre rest dk wr ∧ wr.heap[q]? = some (.cells #[.int .u64 (y : Int)] 105 (0, 0)))) (fun vi _ _ => c + 3 - (intOf vi).toNat)
  case atStart => exact ⟨c, l, d, rfl, Nat.le_refl _, by omega, HL, Lib.hid ⟨permIn_refl d a e, H1.out.1, H1.out.2.1⟩⟩
  case round =>
    obtain ⟨u, y, dk, rfl, hu1, hu2, hy, HI⟩ := hrel
    by_cases hu : u < c + 3
    · have huz : (u : Int) ≤ (a : Int) + (f : Int) * 2 + 1 := by omega
      have HX := Lib.hid (next_n q y wr hy.out HI.out.2.2)
      have HU := Lib.hid (show u < c + 3 from hu)
      clear hy
      go_upto_if 43 with (go_at_call 56; refine HX.out.mono ?_; rintro e2 W3 ⟨z, hz, rfl, hq3, hs3⟩; have HZ := Lib.hid hz; obtain ⟨o, ho⟩ : ∃ o, o = z &&& m1 := ⟨_, rfl⟩; have hand : bits .and .u64 (z : Int) (m1 : Int) = (o : Int) := (by rw [ho]; exact u64_and_nat z m1 hz HM2.out); have hol : o ≤ m1 := (by rw [ho]; exact Nat.and_le_right); clear hz ho)
      go_cut [10] (fun s10 wx => W3 = wx ∧ ∃ p : Nat, s10 = .int .i64 (p : Int) ∧ p < l)
      case first =>
        by_cases hol2 : l ≤ o
        · have holz : (l : Int) ≤ (o : Int) := by omega
          go_wp2
          go_meet
          exact ⟨rfl, o - l, by congr 1; omega, by omega⟩
        · have holz : ¬ (l : Int) ≤ (o : Int) := by omega
          go_wp2
          go_meet
          exact ⟨rfl, o, rfl, by omega⟩
      case rest =>
        obtain ⟨rfl, p, rfl, hpl⟩ := hcut
        obtain ⟨s, hs⟩ : ∃ s, s = a + p := ⟨_, rfl⟩
        have hsz2 : (a : Int) + (p : Int) = (s : Int) := by omega
        have hse : s < e := by omega
        have has : a ≤ s := by omega
        have hau : a ≤ u := by omega
        have hue : u < e := by omega
        have HR3 := Lib.hid (hs3 _ _ _ _ _ _ _ HI.out.2.1 H1.out.2.2.1 H1.out.2.2.2)
        have HQ3 := Lib.hid hq3
        have HPM := Lib.hid (permIn_trans d dk (swp dk u s) a e HI.out.1 (swp_permIn dk a e u s hau hue has hse (by rw [HI.out.2.1.size]; exact he)))
        have HCC := Lib.hid (And.intro hu1 hu)
        clear hs hs3 hq3 hand hol hpl huz
        obtain ⟨G, hG⟩ : ∃ G : Nat → Int, ∀ t, G t = dk[t]! := ⟨fun t => dk[t]!, fun _ => rfl⟩
        have HG := Lib.hid hG
        clear hG
        have hcw : ∀ t, t < n → W3.cell? ⟨b, off + t, none⟩ = some (.int .u32 (G t)) := fun t ht => by rw [HG.out]; exact HR3.out.cell ht
        have hfw : ∀ t, t < n → W3.frozen? ⟨b, off + t, none⟩ = false := fun t _ => HR3.out.frozen t
        have HW := Lib.hid (HR3.out.swap (j := u) (k := s) (by omega) (by omega) 1)
        rcases Nat.lt_trichotomy u s with hpq | hpq | hpq
        · skip
          go_upto_region 10 with (fail)
          go_region
          all_goals go_wp2
          go_roundw
          case rel =>
            refine ⟨u + 1, z, swp dk u s, by go_num, by have := HCC.out.1; omega, by have := HCC.out.2; omega, HZ, Lib.hid ?_⟩
            rw [HG.out, HG.out]
            exact ⟨HPM.out, HW.out, keep_two H1.out.2.2.2 HQ3.out⟩
          case measure => simp [intOf]; have := HCC.out.2; omega
        · subst hpq
          go_upto_region 10 with (fail)
          go_region
          all_goals go_wp2
          go_roundw
          case rel =>
            refine ⟨u + 1, z, swp dk u u, by go_num, by have := HCC.out.1; omega, by have := HCC.out.2; omega, HZ, Lib.hid ?_⟩
            rw [HG.out]
            exact ⟨HPM.out, HW.out, keep_two H1.out.2.2.2 HQ3.out⟩
          case measure => simp [intOf]; have := HCC.out.2; omega
        · skip
          go_upto_region 10 with (fail)
          go_region
          all_goals go_wp2
          go_roundw
          case rel =>
            refine ⟨u + 1, z, swp dk u s, by go_num, by have := HCC.out.1; omega, by have := HCC.out.2; omega, HZ, Lib.hid ?_⟩
            rw [HG.out, HG.out]
            exact ⟨HPM.out, HW.out, keep_two H1.out.2.2.2 HQ3.out⟩
          case measure => simp [intOf]; have := HCC.out.2; omega
    · have huz : ¬ (u : Int) ≤ (a : Int) + (f : Int) * 2 + 1 := by omega
      go_wp2
      go_end0
      exact ⟨rfl, _, HI.out.1, HI.out.2.1⟩
end Go.Proofs.Ytelbgjnaceffeaa
