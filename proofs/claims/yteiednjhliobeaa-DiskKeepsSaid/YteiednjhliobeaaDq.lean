/- How the program's disk lies; what 'powered' lets through. -/
import Derived.Test.YteiednjhliobeaaDkSpec
import Derived.Test.YteiednjhliobeaaPuts
import Derived.LoopTactic
namespace Go.Proofs.Yteiednjhliobeaa
open Go.RowKit

/-- The program's disk: block R; its bytes in the row A. -/
structure DQ (w : World) (R : Nat) (A : Option Addr) (c : Nat) (s : DS) : Prop where
  blk : w.heap[R]? = some (.cells #[.slice A s.A.length c, .int .i64 (s.y : Int), .bool s.dead, .bool s.f.isSome, .int .i64 ((s.f.getD 0 : Nat) : Int)] 38 (0, 0))
  own : w.ownsRow 0 5 1 (.slice A s.A.length c) s.A.length (s.A.map enc)
  sy : s.y ≤ s.A.length
  ln : s.A.length ≤ 1000000000
  fu : s.f.getD 0 ≤ 9223372036854775807
/-- Its blocks. -/
def FD (R : Nat) (A : Option Addr) (k : Nat) : Prop := k = R ∨ ∃ g, A = some ⟨g, 0, none⟩ ∧ k = g

theorem blkd_ne {w : World} {g g' : Nat} {c c' : Array Value} {t t' : TypeId} (h : w.heap[g]? = some (.cells c t (0, 0))) (h' : w.heap[g']? = some (.cells c' t' (0, 0))) (ht : t ≠ t') : g ≠ g' := by
  rintro rfl
  rw [h] at h'
  injection h' with h'
  injection h' with _ h'
  exact ht h'
theorem blkd_keep {w : World} {g g' j : Nat} {o : Obj} {u : Value} (h : w.heap[g]? = some o) (hn : g ≠ g') : (w.setCell ⟨g', j, none⟩ u).heap[g]? = some o := (Below.heap_setCell _ _ _ _ hn).trans h
theorem ownd_keep {W W' : World} {base n sz : Nat} {e : TypeId} {v : Value} {vs : List Value} (ho : W.ownsRow base e sz v n vs) (hk : ∀ x, v.ownBlock = some x → W'.heap[x]? = W.heap[x]?) : W'.ownsRow base e sz v n vs := by
  refine ⟨ho.1, ?_⟩
  rcases ho.2 with h2 | ⟨g, cap, cur, rfl, b, r, s⟩
  · exact .inl h2
  · exact .inr ⟨g, cap, cur, rfl, b, (hk g rfl).trans r, s⟩
theorem ownd_blk {w : World} {base n : Nat} {e : TypeId} {v : Value} {xs : List Value} (h : w.ownsRow base e 1 v n xs) {x : Nat} (hx : v.ownBlock = some x) : ∃ cur, w.heap[x]? = some (.cells cur e (0, 0)) := by
  rcases h.2 with ⟨rfl, _⟩ | ⟨g, cap, cur, rfl, b, r, s⟩
  · simp [Value.ownBlock] at hx
  · simp [Value.ownBlock] at hx
    exact ⟨cur, by rw [← hx]; exact r⟩

section
variable {w w' : World} {R c : Nat} {A : Option Addr} {s : DS}
theorem DQ.ne (h : DQ w R A c s) {x : Nat} (hx : (Value.slice A s.A.length c).ownBlock = some x) : x ≠ R := by
  obtain ⟨cur, hb⟩ := ownd_blk h.own hx
  exact blkd_ne hb h.blk (by decide)
theorem DQ.adr (h : DQ w R A c s) : (A = none ∧ s.A = [] ∧ c = 0) ∨ ∃ g, A = some ⟨g, 0, none⟩ := by
  rcases h.own.2 with ⟨hv, h0⟩ | ⟨g, cap, cur, hv, _⟩
  · have := own_len h.own
    injection hv with h1 h2 h3
    exact .inl ⟨h1, List.eq_nil_of_length_eq_zero h2, h3⟩
  · injection hv with h1
    exact .inr ⟨g, h1⟩
theorem DQ.mine (h : DQ w R A c s) {x : Nat} (hx : (Value.slice A s.A.length c).ownBlock = some x) : FD R A x := by
  rcases h.adr with ⟨rfl, _⟩ | ⟨g, rfl⟩
  · simp [Value.ownBlock] at hx
  · simp [Value.ownBlock] at hx
    exact .inr ⟨g, rfl, hx.symm⟩
theorem DQ.lt (h : DQ w R A c s) : ∀ k, FD R A k → k < w.heap.size := by
  rintro k (rfl | ⟨g, rfl, rfl⟩)
  · exact (Array.getElem?_eq_some_iff.1 h.blk).1
  · obtain ⟨cur, hb⟩ := ownd_blk h.own (x := k) (by simp [Value.ownBlock])
    exact (Array.getElem?_eq_some_iff.1 hb).1
theorem DQ.only {F : Nat → Prop} (h : DQ w R A c s) (ho : Only F w w') (hF : ∀ k, FD R A k → ¬ F k) : DQ w' R A c s :=
  ⟨ho.blk h.blk (hF R (.inl rfl)), ho.own h.own (fun k hk => hF k (h.mine hk)), h.sy, h.ln, h.fu⟩
theorem DQ.grew (h : DQ w R A c s) (hb : Below w.heap.size w w') : DQ w' R A c s := h.only (Only.of_grew (F := fun _ => False) hb) (fun _ _ => id)
/-- A cell of another block does not matter. -/
theorem DQ.apart (h : DQ w R A c s) {b : Nat} {cs : Array Value} {t : TypeId} (hb : w.heap[b]? = some (.cells cs t (0, 0))) (h1 : t ≠ 38) (h2 : t ≠ 5) : ¬ FD R A b := by
  rintro (rfl | ⟨g, rfl, rfl⟩)
  · exact blkd_ne hb h.blk h1 rfl
  · obtain ⟨cur, hb'⟩ := ownd_blk h.own (x := b) (by simp [Value.ownBlock])
    exact blkd_ne hb hb' h2 rfl
/-- The disk behind a store into one of its own fields but the bytes. -/
theorem DQ.set (h : DQ w R A c s) (j : Nat) (u : Value) (s' : DS) (hA : s'.A = s.A) (hc : (#[.slice A s.A.length c, .int .i64 (s.y : Int), .bool s.dead, .bool s.f.isSome, .int .i64 ((s.f.getD 0 : Nat) : Int)] : Array Value).setIfInBounds j u = #[.slice A s'.A.length c, .int .i64 (s'.y : Int), .bool s'.dead, .bool s'.f.isSome, .int .i64 ((s'.f.getD 0 : Nat) : Int)])
    (hy : s'.y ≤ s'.A.length) (hf : s'.f.getD 0 ≤ 9223372036854775807) : DQ (w.setCell ⟨R, j, none⟩ u) R A c s' := by
  refine ⟨?_, ?_, hy, by rw [hA]; exact h.ln, hf⟩
  · rw [blk_set h.blk, hc]
  · rw [hA]
    exact ownd_keep h.own (fun x hx => Below.heap_setCell _ _ _ _ (h.ne hx))
/-- A beginning of a row is a row. -/
theorem ownd_take {w : World} {base n c : Nat} {e : TypeId} {A : Option Addr} {xs : List Value} (h : w.ownsRow base e 1 (.slice A n c) n xs) (k : Nat) (hk : k ≤ n) : w.ownsRow base e 1 (.slice A k c) k (xs.take k) := by
  have hl : xs.length = n := by have := h.1; simp at this; omega
  refine ⟨by rw [List.length_take, hl]; omega, ?_⟩
  rcases h.2 with ⟨hv, h0⟩ | ⟨g', cap, cur, hv, h1, h2, h3, h4, h5, h6⟩
  · injection hv with a b d
    subst a; subst d
    obtain rfl : k = 0 := by omega
    exact .inl ⟨rfl, by omega⟩
  · injection hv with a b d
    subst a; subst d
    refine .inr ⟨g', c, cur, rfl, h1, h2, by omega, h4, h5, ?_⟩
    rw [← h6, List.take_take]
    congr 1
    omega
/-- Fewer bytes. -/
theorem DQ.cut (h : DQ w R A c s) (n : Nat) (h1 : s.y ≤ n) (h2 : n ≤ s.A.length) : DQ (w.setCell ⟨R, 0, none⟩ (.slice A n c)) R A c { s with A := s.A.take n } := by
  have hl : (s.A.take n).length = n := by rw [List.length_take]; omega
  refine ⟨?_, ?_, by show s.y ≤ (s.A.take n).length; omega, by show (s.A.take n).length ≤ _; have := h.ln; omega, h.fu⟩
  · rw [blk_set h.blk]
    show _ = some (Obj.cells #[.slice A (s.A.take n).length c, .int .i64 (s.y : Int), .bool s.dead, .bool s.f.isSome, .int .i64 ((s.f.getD 0 : Nat) : Int)] 38 (0, 0))
    rw [hl]; rfl
  · show (w.setCell _ _).ownsRow 0 5 1 (.slice A (s.A.take n).length c) (s.A.take n).length ((s.A.take n).map enc)
    rw [hl, List.map_take]
    refine ownd_keep (ownd_take h.own n h2) (fun x hx => Below.heap_setCell _ _ _ _ (h.ne (x := x) ?_))
    rcases h.adr with ⟨rfl, _⟩ | ⟨g, rfl⟩
    · simp [Value.ownBlock] at hx
    · simpa [Value.ownBlock] using hx
end

set_option maxHeartbeats 1000000 in
theorem powered_off {w : World} {R c : Nat} {A : Option Addr} {s : DS} (h : DQ w R A c s) (hd : s.dead = true) (u : Value) :
    Calls Try.prog 18 #[.pointer (some ⟨R, 0, none⟩), u] w fun e w' => e = .returned (.int .i64 20) ∧ Below w.heap.size w w' := by
  have f2 := blk_cell h.blk 2
  rw [hd] at f2
  simp at f2
  clear h hd
  go_enter Try.func18, Try.ntmps18
  go_wp2
  go_ret
  exact ⟨rfl, Below.refl _ _⟩

set_option maxHeartbeats 2000000 in
theorem powered_on {w : World} {R c : Nat} {A : Option Addr} {s : DS} (h : DQ w R A c s) (hd : s.dead = false) (f : FuncId) (hen : ∀ args w, (callFunc f args).run Try.prog w = .ok (.enter f args) w) (cs : Array Value) (Q : Int → World → Prop)
    (hf : Calls Try.prog f cs w fun e w' => ∃ r, e = .returned (.int .i64 r) ∧ Q r w') :
    Calls Try.prog 18 #[.pointer (some ⟨R, 0, none⟩), .func (.func f) #[] cs] w fun e w' => ∃ r, e = .returned (.int .i64 r) ∧ Q r w' := by
  have f2 := blk_cell h.blk 2
  rw [hd] at f2
  simp at f2
  have HF := Lib.hid hf
  clear h hd hf
  go_enter Try.func18, Try.ntmps18
  go_wp2_with fail
  refine HF.out.mono ?_
  rintro e w' ⟨r, rfl, hq⟩
  have HQ := Lib.hid hq
  clear hq
  go_wp2
  go_ret
  exact ⟨r, rfl, HQ.out⟩

/-- A disk without power: nothing changes. -/
theorem DQ.turns_same {w w' : World} {R c : Nat} {A : Option Addr} {s : DS} (h : DQ w R A c s) (hb : Below w.heap.size w w') (r : Nat) {e : Ending} (he : e = .returned (.int .i64 (r : Int))) :
    Turns (fun F w R s => ∃ A c, DQ w R A c s ∧ F = FD R A) (FD R A) R w (s, r) e w' :=
  ⟨he, FD R A, ⟨A, c, h.grew hb, rfl⟩, Only.of_grew hb, fun _ hk => .inl hk⟩
end Go.Proofs.Yteiednjhliobeaa
