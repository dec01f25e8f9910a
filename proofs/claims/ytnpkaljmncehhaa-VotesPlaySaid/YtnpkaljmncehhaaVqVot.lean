/- What the laws ask of the program's votes. -/
import Derived.Test.YtnpkaljmncehhaaVqN
import Derived.Test.YtnpkaljmncehhaaVqY
import Derived.Test.YtnpkaljmncehhaaVqZ
import Derived.Test.YtnpkaljmncehhaaVqK
namespace Go.Proofs.Ytnpkaljmncehhaa
open Go.RowKit

/-- A tally over its blocks. -/
def PlQ (F : Nat → Prop) (w : World) (R : Nat) (t : TM) : Prop := ∃ vs ls, TlQ w R t vs ls ∧ ∀ k, F k ↔ TlF R vs k
theorem PlQ.turn {F : Nat → Prop} {w W' : World} {R : Nat} {t' : TM} {vs : Nat → Value} (hF : ∀ k, F k ↔ TlF R vs k) (h : TurnQ w R vs t' W') : ∃ F', PlQ F' W' R t' ∧ Only F w W' ∧ ∀ k, F' k → F k ∨ w.heap.size ≤ k := by
  obtain ⟨vs', ls', h1, h2, h3⟩ := h
  exact ⟨TlF R vs', ⟨vs', ls', h1, fun _ => Iff.rfl⟩, h2.mono fun k _ hk => (hF k).2 hk, fun k hk => (h3 k hk).imp (hF k).2 id⟩
def lVot : VotK (fun _ => True) where
  grew := fun _ _ => trivial
  Pl := PlQ
  keep := fun ⟨vs, ls, h, hF⟩ ho hd => ⟨vs, ls, h.only ho fun k hk => hd k ((hF k).2 hk), hF⟩
  lt := fun ⟨vs, ls, h, hF⟩ k hk => h.lt k ((hF k).1 hk)
  maj := fun n w _ _ hn => (maj_any n w hn).mono fun e W' ⟨h1, h2⟩ => ⟨h1, by rw [h2]; exact Below.refl _ _⟩
  new := fun n w _ h0 h7 => (new_any n w h0 h7).mono fun e W' ⟨h1, h2, h3⟩ => ⟨TlF w.heap.size fun _ => .slice none 0 0, w.heap.size, h1, ⟨_, _, h2, fun _ => Iff.rfl⟩, (fun k hk => hk.elim (fun e => Nat.le_of_eq e.symm) fun ⟨_, _, e⟩ => nomatch e), h3⟩
  newBad := fun n w _ h => (newBad_any n w h).mono fun e W' ⟨h1, h2⟩ => ⟨h1, by rw [h2]; exact Below.refl _ _⟩
  add := fun r a b ⟨vs, ls, h, hF⟩ _ hok hc ha hb => (tadd_any _ _ vs ls r a b _ h hok (by omega) ha hb).mono fun e W' ⟨h1, h2⟩ => ⟨h1, PlQ.turn hF h2⟩
  release := fun x ⟨vs, ls, h, hF⟩ _ hok hc hx => (trel_any _ _ vs ls x _ h hok (by omega) hx).mono fun e W' ⟨h1, h2⟩ => ⟨h1, PlQ.turn hF h2⟩
  has := fun r s ⟨vs, ls, h, _⟩ _ hok hc hr hs => has_any _ _ vs ls r s _ h hok (by omega) hr hs
  chosen := fun s ⟨vs, ls, h, _⟩ _ hok hc hs => chosen_any _ _ vs ls s _ h hok (by omega) hs
  upto := fun s ⟨vs, ls, h, _⟩ _ hok hc hs => tupto_any _ _ vs ls s _ h hok (by omega) hs
  spans := fun {F w R t} r ⟨vs, ls, h, _⟩ _ hok hc hr => (spans_any R t vs ls r w h hok (by omega) hr).mono fun e W' ⟨A, c, h1, h2, h3⟩ => by
    have hr7 : r < 7 := by have := hok.n7; omega
    refine ⟨A, c, ls r, h1, ?_, by have := h.len r hr7; omega, h2.has, fun hl p hp => ?_, h3⟩
    · have := h.spans r hr7
      rw [show t.set r = t.S r from funext fun s => TM.set_of hr] at this
      exact this
    · subst hp
      rcases h2.2 with ⟨e, _⟩ | ⟨g, cap, cur, e, hb, _⟩
      · cases e
      · cases e
        exact hb
end Go.Proofs.Ytnpkaljmncehhaa
