/- The program's ring (elements uint64) keeps what the walks ask. -/
import Derived.Test.YteeiiaahhoeohaaRqRU
namespace Go.Proofs.Yteeiiaahhoeohaa
open Go.RowKit

set_option maxHeartbeats 2000000 in
theorem relLow_U {w : World} {R G m : Nat} {cs : Array Value} {s : RS Nat} (h : RQU w R G m cs s) (k : Nat) (hk1 : k < s.b) (_hk : k < 18446744073709551616) :
    Calls Try.prog 14 #[.pointer (some ⟨R, 0, none⟩), .int .u64 (k : Int)] w fun e w' => e = .returned (.int .i64 31) ∧ Only (FR R G) w w' ∧ Below w.heap.size w w' := by
  obtain ⟨b, hb⟩ : ∃ b, b = s.b := ⟨_, rfl⟩
  obtain ⟨P, hP⟩ : ∃ P, P = w.heap.size := ⟨_, rfl⟩
  obtain ⟨W0, hW0⟩ : ∃ W0, W0 = (w.alloc (.cells #[.pointer (some ⟨R, 0, none⟩)] 40)).alloc (.cells #[.int .u64 (k : Int)] 29) := ⟨_, rfl⟩
  have hga : Below w.heap.size w W0 := by rw [hW0]; exact ((Below.refl _ _).alloc (Nat.le_refl _) _).alloc (by simp) _
  have hr : W0.heap[P]? = some (.cells #[.pointer (some ⟨R, 0, none⟩)] 40 (0, 0)) := by
    rw [hW0, hP]; exact (Below.heap_alloc _ _ _ (by simp)).trans (World.alloc_heap_new w _)
  have hx : W0.heap[P + 1]? = some (.cells #[.int .u64 (k : Int)] 29 (0, 0)) := by
    rw [hW0, hP]
    have := World.alloc_heap_new (w.alloc (.cells #[.pointer (some ⟨R, 0, none⟩)] 40)) (.cells #[.int .u64 (k : Int)] 29)
    rwa [World.size_alloc] at this
  have c0 := blk_cell hr 0
  have c1 := blk_cell hx 0
  have c2 := blk_cell (h.grew hga).blk 0
  simp at c0 c1 c2
  rw [← hb] at c2
  have hbk : (k : Int) < (b : Int) := by omega
  have HGA := Lib.hid hga
  clear h hb hga hr hx hk1
  go_enter Try.func14, Try.ntmps14
  go_upto_region 1 with (fail)
  rw [← hW0, ← hP]
  clear hW0
  have HP := Lib.hid hP
  clear hP
  go_upto_region 3 with (fail)
  go_region
  go_wp2
  go_ret
  exact ⟨rfl, Only.of_grew HGA.out.drew, HGA.out.drew⟩

theorem rel_U {w : World} {R G m : Nat} {cs : Array Value} {s : RS Nat} (h : RQU w R G m cs s) (k : Nat) (hk : k < 18446744073709551616) :
    Calls Try.prog 14 #[.pointer (some ⟨R, 0, none⟩), .int .u64 (k : Int)] w fun e w' => e = .returned (.int .i64 ((s.rel k).2 : Int)) ∧ (∃ m' cs', RQU w' R G m' cs' (s.rel k).1) ∧ Only (FR R G) w w' := by
  by_cases hk1 : s.b ≤ k
  · have e2 : (s.rel k).2 = 0 := by unfold RS.rel; rw [if_neg (by omega)]
    rw [e2]
    exact (callsIn_wide (n := 4)).1 (rel_in_U 4 (Nat.le_refl _) h k hk1 hk)
  · have e : s.rel k = (s, 31) := by unfold RS.rel; rw [if_pos (by omega)]
    rw [e]
    exact (relLow_U h k (by omega) hk).mono fun _ _ ⟨he, ho, hg⟩ => ⟨he, ⟨m, cs, h.grew hg⟩, ho⟩

/-- The program's ring. -/
def lRingU : RingU where
  Pl F w R s := ∃ G m cs, RQU w R G m cs s ∧ ∀ k, F k ↔ FR R G k
  keep := fun ⟨G, m, cs, h, hF⟩ ho hd => ⟨G, m, cs, h.only ho fun k hk => hd k ((hF k).2 hk), hF⟩
  lt := fun ⟨_, _, _, h, hF⟩ k hk => h.lt k ((hF k).1 hk)
  newBad := newBad_U
  new := fun w n h1 h2 => (new_U w n h1 h2).mono fun _ _ ⟨R, G, he, h, hb, hg⟩ => ⟨FR R G, R, he, ⟨G, 0, _, h, fun _ => Iff.rfl⟩, hb, hg⟩
  set := fun {F} _ R _ k v ⟨G, _, _, h, hF⟩ hk => (set_U h k v hk).mono fun _ _ ⟨he, ⟨m', cs', h'⟩, ho⟩ => ⟨he, F, ⟨G, m', cs', h', hF⟩, ho.mono fun x _ hx => (hF x).2 hx, fun _ hx => .inl hx⟩
  rel := fun {F} _ R _ k ⟨G, _, _, h, hF⟩ hk => (rel_U h k hk).mono fun _ _ ⟨he, ⟨m', cs', h'⟩, ho⟩ => ⟨he, F, ⟨G, m', cs', h', hF⟩, ho.mono fun x _ hx => (hF x).2 hx, fun _ hx => .inl hx⟩
  get := fun k ⟨_, _, _, h, _⟩ hk => get_U h k hk
  last := fun {_} w _ _ ⟨_, m, _, h, _⟩ => (last_U h).mono fun _ _ ⟨he, hw⟩ => ⟨m, h.last, he, by subst hw; exact Below.refl _ _⟩
end Go.Proofs.Yteeiiaahhoeohaa
