/- The contracts of the document's own pool. -/
import Derived.Test.YtmpaefndkobgnaaFoot
import Derived.Test.YtmpaefndkobgnaaPuts
import Derived.LoopTactic
namespace Go.Proofs.Ytmpaefndkobgnaa
open Go.RowKit

def sV (x : List UInt8) : Value := .string (str x)
def gV (g : Nat) : Value := .int .u32 (g : Int)
def bV (b : Bool) : Value := .bool b
def iV (i : Nat) : Value := .int .i64 (i : Int)

/-- The document's pool: each buffer's bytes, generation, whether it is lent; the free ones, the next one first. -/
structure QS where
  n : Nat
  sz : Nat
  B : List (List UInt8)
  G : List Nat
  L : List Bool
  N : List Nat
/-- How it lies: block R, three rows that stay, and the row of the free ones. -/
structure RQ (w : World) (base R gB cB gG cG gL cL : Nat) (vN : Value) (s : QS) : Prop where
  blk : w.heap[R]? = some (.cells #[.int .i64 (s.sz : Int), .slice (some ⟨gB, 0, none⟩) s.n cB, .slice (some ⟨gG, 0, none⟩) s.n cG, .slice (some ⟨gL, 0, none⟩) s.n cL, vN] 49 (0, 0))
  hB : w.ownsRow base 9 1 (.slice (some ⟨gB, 0, none⟩) s.n cB) s.n (s.B.map sV)
  hG : w.ownsRow base 27 1 (.slice (some ⟨gG, 0, none⟩) s.n cG) s.n (s.G.map gV)
  hL : w.ownsRow base 4 1 (.slice (some ⟨gL, 0, none⟩) s.n cL) s.n (s.L.map bV)
  hN : w.ownsRow base 3 1 vN s.N.length (s.N.map iV)
  hR : base ≤ R
  hn : s.n ≤ 4096
  hNl : s.N.length ≤ s.n
  hNn : ∀ i ∈ s.N, i < s.n
  hGl : ∀ g ∈ s.G, g < 4294967296
  hsz : s.sz ≤ 65536
/-- The blocks that it takes. -/
def FQ (R gB gG gL : Nat) (vN : Value) (k : Nat) : Prop := k = R ∨ k = gB ∨ k = gG ∨ k = gL ∨ vN.ownBlock = some k
/-- A pool at R, of the blocks F. -/
def QRep (F : Nat → Prop) (w : World) (base R : Nat) (s : QS) : Prop := ∃ gB cB gG cG gL cL vN, RQ w base R gB cB gG cG gL cL vN s ∧ F = FQ R gB gG gL vN

def QS.good (s : QS) (i : Int) (g : Nat) : Bool := decide (0 ≤ i) && decide (i < s.n) && s.L.getD i.toNat false && (s.G.getD i.toNat 0 == g)

section
variable {w : World} {base R gB cB gG cG gL cL : Nat} {vN : Value} {s : QS}
theorem RQ.lB (h : RQ w base R gB cB gG cG gL cL vN s) : s.B.length = s.n := by have := h.hB.1; simpa using this
theorem RQ.lG (h : RQ w base R gB cB gG cG gL cL vN s) : s.G.length = s.n := by have := h.hG.1; simpa using this
theorem RQ.lL (h : RQ w base R gB cB gG cG gL cL vN s) : s.L.length = s.n := by have := h.hL.1; simpa using this
theorem RQ.cB' (h : RQ w base R gB cB gG cG gL cL vN s) (i : Nat) (hi : i < s.n) : w.cell? ⟨gB, i, none⟩ = some (sV (s.B.getD i [])) := by
  rw [h.hB.cellAt i (by omega)]
  have := h.lB
  simp [List.getD, show i < s.B.length by omega]
theorem RQ.cG' (h : RQ w base R gB cB gG cG gL cL vN s) (i : Nat) (hi : i < s.n) : w.cell? ⟨gG, i, none⟩ = some (.int .u32 (s.G.getD i 0 : Int)) := by
  rw [h.hG.cellAt i (by omega)]
  have := h.lG
  simp [List.getD, show i < s.G.length by omega, gV]
theorem RQ.cL' (h : RQ w base R gB cB gG cG gL cL vN s) (i : Nat) (hi : i < s.n) : w.cell? ⟨gL, i, none⟩ = some (.bool (s.L.getD i false)) := by
  rw [h.hL.cellAt i (by omega)]
  have := h.lL
  simp [List.getD, show i < s.L.length by omega, bV]
end

set_option maxHeartbeats 1000000 in
theorem q_Good (w : World) (base R gB cB gG cG gL cL : Nat) (vN : Value) (s : QS) (h : RQ w base R gB cB gG cG gL cL vN s) (i : Int) (g : Nat) (hi1 : -9223372036854775808 ≤ i) (hi2 : i ≤ 9223372036854775807) (hg : g < 4294967296) :
    Calls Try.prog 16 #[.pointer (some ⟨R, 0, none⟩), .int .i64 i, .int .u32 (g : Int)] w fun e w' => e = .returned (.bool (s.good i g)) ∧ w = w' := by
  have f1 := blk_cell h.blk 1
  have f2 := blk_cell h.blk 2
  have f3 := blk_cell h.blk 3
  simp at f1 f2 f3
  have HQ := Lib.hid h
  obtain ⟨n, hn⟩ : ∃ n, n = s.n := ⟨_, rfl⟩
  have hn4 : n ≤ 4096 := by rw [hn]; exact h.hn
  rw [← hn] at f1 f2 f3
  have HN := Lib.hid hn
  clear h hn
  by_cases h0 : 0 ≤ i
  · by_cases h1 : i < n
    · obtain ⟨k, rfl⟩ := Int.eq_ofNat_of_zero_le h0
      have hk : k < s.n := by rw [← HN.out]; omega
      have c1 := HQ.out.cL' k hk
      have c2 := HQ.out.cG' k hk
      obtain ⟨lb, hlb⟩ : ∃ lb, lb = s.L.getD k false := ⟨_, rfl⟩
      obtain ⟨gb, hgb⟩ : ∃ gb, gb = s.G.getD k 0 := ⟨_, rfl⟩
      rw [← hlb] at c1
      rw [← hgb] at c2
      have HG := Lib.hid (show s.good (k : Int) g = (lb && (gb == g)) by
        have : (k : Int) < s.n := by rw [← HN.out]; exact h1
        rw [hlb, hgb]; simp [QS.good, this])
      clear hlb hgb
      have hki : (k : Int) < n := h1
      cases lb
      · go_enter Try.func16, Try.ntmps16
        go_wp2
        go_ret
        exact ⟨by rw [HG.out]; rfl, rfl⟩
      · by_cases hgg : gb = g
        · have hb : ((gb : Int) == (g : Int)) = true := by simp [hgg]
          have HB := Lib.hid (show (gb == g) = true by simpa using hgg)
          clear hgg
          go_enter Try.func16, Try.ntmps16
          go_wp2
          go_ret
          exact ⟨by rw [HG.out, HB.out]; rfl, rfl⟩
        · have hb : ((gb : Int) == (g : Int)) = false := by simp; omega
          have HB := Lib.hid (show (gb == g) = false by simpa using hgg)
          clear hgg
          go_enter Try.func16, Try.ntmps16
          go_wp2
          go_ret
          exact ⟨by rw [HG.out, HB.out]; rfl, rfl⟩
    · have HG := Lib.hid (show s.good i g = false by
        have : ¬ i < (s.n : Int) := by rw [← HN.out]; exact h1
        simp [QS.good, this])
      go_enter Try.func16, Try.ntmps16
      go_wp2
      go_ret
      exact ⟨by rw [HG.out]; rfl, rfl⟩
  · have HG := Lib.hid (show s.good i g = false by simp [QS.good, h0])
    go_enter Try.func16, Try.ntmps16
    go_wp2
    go_ret
    exact ⟨by rw [HG.out]; rfl, rfl⟩
end Go.Proofs.Ytmpaefndkobgnaa
