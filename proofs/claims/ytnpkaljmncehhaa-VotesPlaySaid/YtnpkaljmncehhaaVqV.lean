/- Runs of a set are handed on, one by one. -/
import Derived.Test.YtnpkaljmncehhaaVqF
namespace Go.Proofs.Ytnpkaljmncehhaa
open Go.RowKit

set_option maxRecDepth 100000 in
set_option maxHeartbeats 4000000 in
theorem visit_any (R k : Nat) (v : Value) (l : List (Nat × Nat)) (i j : Nat) (J : Nat → World → Prop) (f : FuncId) (hen : ∀ args w, (callFunc f args).run Try.prog w = .ok (.enter f args) w) (bs cs : Array Value) (w : World) (hl : l.length ≤ 1000000) (hij : i ≤ j) (hj : j ≤ l.length) (h0 : J 0 w)
    (hS : ∀ m W, J m W → SetQ W R k v l)
    (hf : ∀ (m : Nat) (W : World) (h : i + m < l.length), i + m < j → J m W → Calls Try.prog f (bs.push (.agg #[.int .u64 (l[i + m].1 : Int), .int .u64 (l[i + m].2 : Int)]) ++ cs) W fun e W' => e = .returned (.tuple #[]) ∧ J (m + 1) W') :
    Calls Try.prog 28 #[.pointer (some ⟨R, k, none⟩), .int .i64 (i : Int), .int .i64 (j : Int), .func (.func f) bs cs] w fun e W' => e = .returned (.tuple #[]) ∧ J (j - i) W' := by
  have HF := Lib.hid hf
  have HS := Lib.hid hS
  have H0 := Lib.hid h0
  have HL := Lib.hid (And.intro hl hj)
  obtain ⟨d, hd⟩ : ∃ d, d = j - i := ⟨_, rfl⟩
  have hdi : (j : Int) - (i : Int) = (d : Int) := by omega
  have hj6 : (j : Int) ≤ 1000000 := by omega
  have hii : (i : Int) ≤ (j : Int) := by omega
  have HD := Lib.hid hd
  rw [← hd]
  clear hf hS h0 hl hij hj hd
  go_enter Try.func28, Try.ntmps28
  go_wp2
  go_loopw [8, 12] (fun _ x wr => ∃ m : Nat, m ≤ d ∧ x = .int .i64 (m : Int) ∧ Hid (J m wr)) (fun _ x _ => d - (intOf x).toNat)
  case atStart => exact ⟨0, Nat.zero_le _, rfl, H0⟩
  case round =>
    obtain ⟨m, hm, rfl, HJ⟩ := hrel
    by_cases hlt : m < d
    · have hmi : (m : Int) < (d : Int) := by omega
      have hml : i + m < l.length := by have := HL.out.2; have := HD.out; omega
      have hmj : i + m < j := by have := HD.out; omega
      have hS1 := HS.out m wr HJ.out
      have hne : l ≠ [] := by rintro rfl; simp at hml
      obtain ⟨g, c, cur, rfl, hnc, hg, -, -⟩ := hS1.own.at hne
      obtain ⟨c0, c1⟩ := hS1.own.cells (i + m) hml
      have hc := hS1.cell
      obtain ⟨L, hL⟩ : ∃ L, L = l.length := ⟨_, rfl⟩
      rw [← hL] at hc
      have HCALL := Lib.hid (HF.out m wr hml hmj HJ.out)
      obtain ⟨x, hx⟩ : ∃ x, x = l[i + m].1 := ⟨_, rfl⟩
      obtain ⟨y, hy⟩ : ∃ y, y = l[i + m].2 := ⟨_, rfl⟩
      rw [← hx] at c0 HCALL
      rw [← hy] at c1 HCALL
      obtain ⟨q, hq⟩ : ∃ q, q = i + m := ⟨_, rfl⟩
      rw [← hq] at c0 c1
      have hqi : (i : Int) + (m : Int) = (q : Int) := by omega
      have hqL : (q : Int) < (L : Int) := by omega
      have hL6 : (L : Int) ≤ 1000000 := by have := HL.out.1; omega
      clear hL hq hx hy hne hS1 hg hnc hml
      go_wp2_with fail
      refine HCALL.out.mono ?_
      rintro e W1 ⟨rfl, hj1⟩
      have HJ1 := Lib.hid hj1
      clear hj1
      go_wp2
      exact ⟨⟨m + 1, by omega, rfl, HJ1⟩, by simp only [intOf]; omega⟩
    · obtain rfl : m = d := by omega
      have hmi : ¬ (m : Int) < (m : Int) := by omega
      clear hlt
      go_wp2
      go_end0
      exact ⟨rfl, HJ.out⟩
end Go.Proofs.Ytnpkaljmncehhaa
