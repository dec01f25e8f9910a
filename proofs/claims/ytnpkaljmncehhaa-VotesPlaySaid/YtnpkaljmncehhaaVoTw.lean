/- Two tallies side by side. -/
import Derived.Test.YtnpkaljmncehhaaVoWk
namespace Go.Proofs.Ytnpkaljmncehhaa
open Go.RowKit

structure TwoV {T : World → Prop} (K : VotK T) (w : World) (Ra Rb : Nat) (ta tb : TM) (W : World) : Prop where
  ex : ∃ Fa Fb, K.Pl Fa W Ra ta ∧ K.Pl Fb W Rb tb ∧ (∀ k, Fa k → w.heap.size ≤ k) ∧ (∀ k, Fb k → w.heap.size ≤ k) ∧ ∀ k, Fa k → ¬ Fb k
  below : Below w.heap.size w W
  oka : ta.ok
  okb : tb.ok
section
variable {T : World → Prop} {K : VotK T} {w W W' : World} {Ra Rb : Nat} {ta tb : TM}
theorem TwoV.grew (h : TwoV K w Ra Rb ta tb W) (hb : Below W.heap.size W W') : TwoV K w Ra Rb ta tb W' := by
  obtain ⟨Fa, Fb, a1, b1, a2, b2, d⟩ := h.ex
  exact ⟨⟨Fa, Fb, K.keep a1 (Only.of_grew (F := fun _ => False) hb) (fun _ _ => id), K.keep b1 (Only.of_grew (F := fun _ => False) hb) (fun _ _ => id), a2, b2, d⟩, h.below.trans (Below.mono hb h.below.size), h.oka, h.okb⟩
theorem TwoV.swap (h : TwoV K w Ra Rb ta tb W) : TwoV K w Rb Ra tb ta W := by
  obtain ⟨Fa, Fb, a1, b1, a2, b2, d⟩ := h.ex
  exact ⟨⟨Fb, Fa, b1, a1, b2, a2, fun k hb ha => d k ha hb⟩, h.below, h.okb, h.oka⟩
theorem TwoV.left (h : TwoV K w Ra Rb ta tb W) : LiveV K w Ra ta (fun _ => False) W := by
  obtain ⟨Fa, Fb, a1, b1, a2, b2, d⟩ := h.ex
  exact ⟨⟨Fa, a1, fun k hk => ⟨a2 k hk, id⟩⟩, h.below, fun _ h => h.elim, h.oka⟩
theorem TwoV.right (h : TwoV K w Ra Rb ta tb W) : LiveV K w Rb tb (fun _ => False) W := h.swap.left
theorem LiveV.two (h : LiveV K w Ra ta (fun _ => False) W) (hT : T w) (n : Nat) (h0 : 1 ≤ n) (h7 : n ≤ 7) : Calls Try.prog 6 #[.int .i64 (n : Int)] W fun e W' => ∃ Rb, e = .returned (.tuple #[.pointer (some ⟨Rb, 0, none⟩), .int .i64 0]) ∧ TwoV K w Ra Rb ta (TM.new n) W' := by
  obtain ⟨Fa, a1, a2⟩ := h.ex
  refine (K.new n W (K.grew hT h.below) h0 h7).mono fun _ W' ⟨Fb, Rb, he, b1, b2, hb⟩ => ⟨Rb, he, ⟨Fa, Fb, K.keep a1 (Only.of_grew (F := fun _ => False) hb) (fun _ _ => id), b1, fun k hk => (a2 k hk).1, fun k hk => Nat.le_trans h.below.size (b2 k hk), fun k ha hb => ?_⟩, h.below.trans (Below.mono hb h.below.size), h.ok, TM.ok_new h0 h7⟩
  have := K.lt a1 k ha
  have := b2 k hb
  omega
theorem TwoV.add (h : TwoV K w Ra Rb ta tb W) (hT : T w) (hc : ta.c ≤ 1000) (r : Int) (a b : Nat) (ha : a < 18446744073709551616) (hb : b < 18446744073709551616) : Calls Try.prog 12 #[.pointer (some ⟨Ra, 0, none⟩), .int .i64 r, .agg #[.int .u64 (a : Int), .int .u64 (b : Int)]] W fun e W' => e = .returned (.int .i64 (ta.addE r a b : Int)) ∧ TwoV K w Ra Rb (ta.addX r a b) tb W' := by
  obtain ⟨Fa, Fb, a1, b1, a2, b2, d⟩ := h.ex
  refine (K.add r a b a1 (K.grew hT h.below) h.oka hc ha hb).mono fun _ W' ⟨he, F', k1, k2, k3⟩ => ⟨he, ⟨F', Fb, k1, K.keep b1 k2 (fun k hb ha => d k ha hb), fun k hk => ?_, b2, fun k hk hb => ?_⟩, h.below.trans (k2.below h.below.size a2), h.oka.addX hb, h.okb⟩
  · rcases k3 k hk with h' | h'
    · exact a2 k h'
    · exact Nat.le_trans h.below.size h'
  · rcases k3 k hk with h' | h'
    · exact d k h' hb
    · have := K.lt b1 k hb
      omega
theorem LiveV.spansX {w W : World} {R : Nat} {t : TM} {P : Nat → Prop} (h : LiveV K w R t P W) (hT : T w) (hc : t.c ≤ 1000) (r : Nat) (hr : r < t.n) : Calls Try.prog 17 #[.pointer (some ⟨R, 0, none⟩), .int .i64 (r : Int)] W fun e W' => ∃ A c l, e = .returned (.slice A (List.length l) c) ∧ SpansOf l (t.S r) ∧ l.length ≤ 100000 ∧ HasSp W' A l ∧ Below W.heap.size W W' := by
  obtain ⟨F, f1, _⟩ := h.ex
  exact (K.spans r f1 (K.grew hT h.below) h.ok hc hr).mono fun e W' ⟨A, c, l', he, hl', hn, hA, _, hb⟩ => ⟨A, c, l', he, hl', hn, hA, hb⟩
theorem LiveV.uptoX {w W : World} {R : Nat} {t : TM} {P : Nat → Prop} (h : LiveV K w R t P W) (hT : T w) (hc : t.c ≤ 1000) (s : Nat) (hs : s < 18446744073709551616) : Calls Try.prog 18 #[.pointer (some ⟨R, 0, none⟩), .int .u64 (s : Int)] W fun e W' => ∃ m, UptoIs t s m ∧ e = .returned (.int .u64 (m : Int)) ∧ Below W.heap.size W W' := by
  obtain ⟨F, f1, _⟩ := h.ex
  exact K.upto s f1 (K.grew hT h.below) h.ok hc hs
end
end Go.Proofs.Ytnpkaljmncehhaa
