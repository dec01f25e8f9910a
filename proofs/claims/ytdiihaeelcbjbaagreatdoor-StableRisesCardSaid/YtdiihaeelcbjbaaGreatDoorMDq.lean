/- How the program's disk lies; what 'powered' lets through. The program's closures on a disk: Sync, Fuse, Cut; fail. The program's put, burn, and Append's closure on a disk. The program's disk keeps the contracts that the walks ask of it. The program's Turn. -/
import Derived.Test.YtdiihaeelcbjbaaGreatDoorDkSpec
import Derived.Test.YtdiihaeelcbjbaaGreatDoorMBase
import Derived.LoopTactic
import Derived.Deep.DeepCutAuto
import Derived.Deep.RegionHeld3
import Derived.IntWalk
-- Dq
namespace Go.Proofs.YtdiihaeelcbjbaaGreatDoor
open Go.RowKit

/-- The program's disk: block R; its bytes in the row A. -/
structure DQ (w : World) (R : Nat) (A : Option Addr) (c : Nat) (s : DS) : Prop where
  blk : w.heap[R]? = some (.cells #[.slice A s.A.length c, .int .i64 (s.y : Int), .bool s.dead, .bool s.f.isSome, .int .i64 ((s.f.getD 0 : Nat) : Int)] 74 (0, 0))
  own : w.ownsRow 0 5 1 (.slice A s.A.length c) s.A.length (s.A.map enc)
  sy : s.y ≤ s.A.length
  ln : s.A.length ≤ 1000000000
  fu : s.f.getD 0 ≤ 9223372036854775807
/-- Its blocks. -/
def FD (R : Nat) (A : Option Addr) (k : Nat) : Prop := k = R ∨ ∃ g, A = some ⟨g, 0, none⟩ ∧ k = g

theorem blkd_ne {w : World} {g g' : Nat} {c c' : Array Value} {t t' : TypeId} (h : w.heap[g]? = some (.cells c t (0, 0))) (h' : w.heap[g']? = some (.cells c' t' (0, 0))) (ht : t ≠ t') : g ≠ g' := by
  rintro rfl
  rw [h] at h'
  injection h' with h'
  injection h' with _ h'
  exact ht h'
theorem blkd_keep {w : World} {g g' j : Nat} {o : Obj} {u : Value} (h : w.heap[g]? = some o) (hn : g ≠ g') : (w.setCell ⟨g', j, none⟩ u).heap[g]? = some o := (Below.heap_setCell _ _ _ _ hn).trans h
theorem ownd_keep {W W' : World} {base n sz : Nat} {e : TypeId} {v : Value} {vs : List Value} (ho : W.ownsRow base e sz v n vs) (hk : ∀ x, v.ownBlock = some x → W'.heap[x]? = W.heap[x]?) : W'.ownsRow base e sz v n vs := by
  refine ⟨ho.1, ?_⟩
  rcases ho.2 with h2 | ⟨g, cap, cur, rfl, b, r, s⟩
  · exact .inl h2
  · exact .inr ⟨g, cap, cur, rfl, b, (hk g rfl).trans r, s⟩
theorem ownd_blk {w : World} {base n : Nat} {e : TypeId} {v : Value} {xs : List Value} (h : w.ownsRow base e 1 v n xs) {x : Nat} (hx : v.ownBlock = some x) : ∃ cur, w.heap[x]? = some (.cells cur e (0, 0)) := by
  rcases h.2 with ⟨rfl, _⟩ | ⟨g, cap, cur, rfl, b, r, s⟩
  · simp [Value.ownBlock] at hx
  · simp [Value.ownBlock] at hx
    exact ⟨cur, by rw [← hx]; exact r⟩

section
variable {w w' : World} {R c : Nat} {A : Option Addr} {s : DS}
theorem DQ.ne (h : DQ w R A c s) {x : Nat} (hx : (Value.slice A s.A.length c).ownBlock = some x) : x ≠ R := by
  obtain ⟨cur, hb⟩ := ownd_blk h.own hx
  exact blkd_ne hb h.blk (by decide)
theorem DQ.adr (h : DQ w R A c s) : (A = none ∧ s.A = [] ∧ c = 0) ∨ ∃ g, A = some ⟨g, 0, none⟩ := by
  rcases h.own.2 with ⟨hv, h0⟩ | ⟨g, cap, cur, hv, _⟩
  · have := own_len h.own
    injection hv with h1 h2 h3
    exact .inl ⟨h1, List.eq_nil_of_length_eq_zero h2, h3⟩
  · injection hv with h1
    exact .inr ⟨g, h1⟩
theorem DQ.mine (h : DQ w R A c s) {x : Nat} (hx : (Value.slice A s.A.length c).ownBlock = some x) : FD R A x := by
  rcases h.adr with ⟨rfl, _⟩ | ⟨g, rfl⟩
  · simp [Value.ownBlock] at hx
  · simp [Value.ownBlock] at hx
    exact .inr ⟨g, rfl, hx.symm⟩
theorem DQ.lt (h : DQ w R A c s) : ∀ k, FD R A k → k < w.heap.size := by
  rintro k (rfl | ⟨g, rfl, rfl⟩)
  · exact (Array.getElem?_eq_some_iff.1 h.blk).1
  · obtain ⟨cur, hb⟩ := ownd_blk h.own (x := k) (by simp [Value.ownBlock])
    exact (Array.getElem?_eq_some_iff.1 hb).1
theorem DQ.only {F : Nat → Prop} (h : DQ w R A c s) (ho : Only F w w') (hF : ∀ k, FD R A k → ¬ F k) : DQ w' R A c s :=
  ⟨ho.blk h.blk (hF R (.inl rfl)), ho.own h.own (fun k hk => hF k (h.mine hk)), h.sy, h.ln, h.fu⟩
theorem DQ.grew (h : DQ w R A c s) (hb : Below w.heap.size w w') : DQ w' R A c s := h.only (Only.of_grew (F := fun _ => False) hb) (fun _ _ => id)
/-- A cell of another block does not matter. -/
theorem DQ.apart (h : DQ w R A c s) {b : Nat} {cs : Array Value} {t : TypeId} (hb : w.heap[b]? = some (.cells cs t (0, 0))) (h1 : t ≠ 74) (h2 : t ≠ 5) : ¬ FD R A b := by
  rintro (rfl | ⟨g, rfl, rfl⟩)
  · exact blkd_ne hb h.blk h1 rfl
  · obtain ⟨cur, hb'⟩ := ownd_blk h.own (x := b) (by simp [Value.ownBlock])
    exact blkd_ne hb hb' h2 rfl
/-- The disk behind a store into one of its own fields but the bytes. -/
theorem DQ.set (h : DQ w R A c s) (j : Nat) (u : Value) (s' : DS) (hA : s'.A = s.A) (hc : (#[.slice A s.A.length c, .int .i64 (s.y : Int), .bool s.dead, .bool s.f.isSome, .int .i64 ((s.f.getD 0 : Nat) : Int)] : Array Value).setIfInBounds j u = #[.slice A s'.A.length c, .int .i64 (s'.y : Int), .bool s'.dead, .bool s'.f.isSome, .int .i64 ((s'.f.getD 0 : Nat) : Int)])
    (hy : s'.y ≤ s'.A.length) (hf : s'.f.getD 0 ≤ 9223372036854775807) : DQ (w.setCell ⟨R, j, none⟩ u) R A c s' := by
  refine ⟨?_, ?_, hy, by rw [hA]; exact h.ln, hf⟩
  · rw [blk_set h.blk, hc]
  · rw [hA]
    exact ownd_keep h.own (fun x hx => Below.heap_setCell _ _ _ _ (h.ne hx))
/-- A beginning of a row is a row. -/
theorem ownd_take {w : World} {base n c : Nat} {e : TypeId} {A : Option Addr} {xs : List Value} (h : w.ownsRow base e 1 (.slice A n c) n xs) (k : Nat) (hk : k ≤ n) : w.ownsRow base e 1 (.slice A k c) k (xs.take k) := by
  have hl : xs.length = n := by have := h.1; simp at this; omega
  refine ⟨by rw [List.length_take, hl]; omega, ?_⟩
  rcases h.2 with ⟨hv, h0⟩ | ⟨g', cap, cur, hv, h1, h2, h3, h4, h5, h6⟩
  · injection hv with a b d
    subst a; subst d
    obtain rfl : k = 0 := by omega
    exact .inl ⟨rfl, by omega⟩
  · injection hv with a b d
    subst a; subst d
    refine .inr ⟨g', c, cur, rfl, h1, h2, by omega, h4, h5, ?_⟩
    rw [← h6, List.take_take]
    congr 1
    omega
/-- Fewer bytes. -/
theorem DQ.cut (h : DQ w R A c s) (n : Nat) (h1 : s.y ≤ n) (h2 : n ≤ s.A.length) : DQ (w.setCell ⟨R, 0, none⟩ (.slice A n c)) R A c { s with A := s.A.take n } := by
  have hl : (s.A.take n).length = n := by rw [List.length_take]; omega
  refine ⟨?_, ?_, by show s.y ≤ (s.A.take n).length; omega, by show (s.A.take n).length ≤ _; have := h.ln; omega, h.fu⟩
  · rw [blk_set h.blk]
    show _ = some (Obj.cells #[.slice A (s.A.take n).length c, .int .i64 (s.y : Int), .bool s.dead, .bool s.f.isSome, .int .i64 ((s.f.getD 0 : Nat) : Int)] 74 (0, 0))
    rw [hl]; rfl
  · show (w.setCell _ _).ownsRow 0 5 1 (.slice A (s.A.take n).length c) (s.A.take n).length ((s.A.take n).map enc)
    rw [hl, List.map_take]
    refine ownd_keep (ownd_take h.own n h2) (fun x hx => Below.heap_setCell _ _ _ _ (h.ne (x := x) ?_))
    rcases h.adr with ⟨rfl, _⟩ | ⟨g, rfl⟩
    · simp [Value.ownBlock] at hx
    · simpa [Value.ownBlock] using hx
end

set_option maxHeartbeats 1000000 in
theorem powered_off {w : World} {R c : Nat} {A : Option Addr} {s : DS} (h : DQ w R A c s) (hd : s.dead = true) (u : Value) :
    Calls Tryz.prog 39 #[.pointer (some ⟨R, 0, none⟩), u] w fun e w' => e = .returned (.int .i64 20) ∧ Below w.heap.size w w' := by
  have f2 := blk_cell h.blk 2
  rw [hd] at f2
  simp at f2
  clear h hd
  go_enter Tryz.func39, Tryz.ntmps39
  go_wp2
  go_ret
  exact ⟨rfl, Below.refl _ _⟩

set_option maxHeartbeats 2000000 in
theorem powered_on {w : World} {R c : Nat} {A : Option Addr} {s : DS} (h : DQ w R A c s) (hd : s.dead = false) (f : FuncId) (hen : ∀ args w, (callFunc f args).run Tryz.prog w = .ok (.enter f args) w) (cs : Array Value) (Q : Int → World → Prop)
    (hf : Calls Tryz.prog f cs w fun e w' => ∃ r, e = .returned (.int .i64 r) ∧ Q r w') :
    Calls Tryz.prog 39 #[.pointer (some ⟨R, 0, none⟩), .func (.func f) #[] cs] w fun e w' => ∃ r, e = .returned (.int .i64 r) ∧ Q r w' := by
  have f2 := blk_cell h.blk 2
  rw [hd] at f2
  simp at f2
  have HF := Lib.hid hf
  clear h hd hf
  go_enter Tryz.func39, Tryz.ntmps39
  go_wp2_with fail
  refine HF.out.mono ?_
  rintro e w' ⟨r, rfl, hq⟩
  have HQ := Lib.hid hq
  clear hq
  go_wp2
  go_ret
  exact ⟨r, rfl, HQ.out⟩

/-- A disk without power: nothing changes. -/
theorem DQ.turns_same {w w' : World} {R c : Nat} {A : Option Addr} {s : DS} (h : DQ w R A c s) (hb : Below w.heap.size w w') (r : Nat) {e : Ending} (he : e = .returned (.int .i64 (r : Int))) :
    Turns (fun F w R s => ∃ A c, DQ w R A c s ∧ F = FD R A) (FD R A) R w (s, r) e w' :=
  ⟨he, FD R A, ⟨A, c, h.grew hb, rfl⟩, Only.of_grew hb, fun _ hk => .inl hk⟩
end Go.Proofs.YtdiihaeelcbjbaaGreatDoor

-- DqA
namespace Go.Proofs.YtdiihaeelcbjbaaGreatDoor
open Go.RowKit

section
variable {w w' : World} {R c : Nat} {A : Option Addr} {s : DS}
theorem DQ.moved (h : DQ w R A c s) (s' : DS) (hb : w'.heap[R]? = some (.cells #[.slice A s.A.length c, .int .i64 (s'.y : Int), .bool s'.dead, .bool s'.f.isSome, .int .i64 ((s'.f.getD 0 : Nat) : Int)] 74 (0, 0))) (hA : s'.A = s.A) (hy : s'.y ≤ s.A.length) (hf : s'.f.getD 0 ≤ 9223372036854775807)
    (ho : Only (fun k => k = R) w w') : DQ w' R A c s' := by
  refine ⟨by rw [hA]; exact hb, ?_, by rw [hA]; exact hy, by rw [hA]; exact h.ln, hf⟩
  rw [hA]
  exact ho.own h.own (fun k hk => h.ne hk)
end

theorem run_uptoD (w : World) (A : Option Addr) (L c N : Nat) (h : N ≤ c) (_hc : N ≤ 1000000000) : (Instr.sliceAt 39 (.slice A L c) none (some (.int .i64 (N : Int))) none).run Tryz.prog w = .ok (.slice A N c) w := by
  have h1 : (N : Int) ≤ c := by omega
  cases A <;> simp [go_sem, h1]

set_option maxHeartbeats 2000000 in
theorem l_fail {w : World} {R c : Nat} {A : Option Addr} {s : DS} (h : DQ w R A c s) :
    Calls Tryz.prog 41 #[.pointer (some ⟨R, 0, none⟩)] w fun e w' => e = .returned (.tuple #[]) ∧ DQ w' R A c { s with dead := true, f := none } ∧ Only (fun k => k = R) w w' := by
  have f2 := blk_cell h.blk 2
  have f3 := blk_cell h.blk 3
  have f4 := blk_cell h.blk 4
  simp at f2 f3 f4
  have z2 := blk_frozen h.blk 2
  have z3 := blk_frozen h.blk 3
  have z4 := blk_frozen h.blk 4
  have HL := Lib.hid h
  clear h
  go_enter Tryz.func41, Tryz.ntmps41
  go_wp2
  have hq : DQ (((w.setCell ⟨R, 2, none⟩ (.bool true)).setCell ⟨R, 3, none⟩ (.bool false)).setCell ⟨R, 4, none⟩ (.int .i64 0)) R A c { s with dead := true, f := none } ∧ Only (fun k => k = R) w (((w.setCell ⟨R, 2, none⟩ (.bool true)).setCell ⟨R, 3, none⟩ (.bool false)).setCell ⟨R, 4, none⟩ (.int .i64 0)) := by
    have ho := (((Only.refl (fun k => k = R) w).setCell (p := ⟨R, 2, none⟩) (.inl rfl) (.bool true)).setCell (p := ⟨R, 3, none⟩) (.inl rfl) (.bool false)).setCell (p := ⟨R, 4, none⟩) (.inl rfl) (.int .i64 0)
    exact ⟨HL.out.moved { s with dead := true, f := none } ((blk_set (blk_set (blk_set HL.out.blk 2 _) 3 _) 4 _).trans rfl) rfl HL.out.sy (by simp) ho, ho⟩
  have HQ := Lib.hid hq
  obtain ⟨W2, hW2⟩ : ∃ W2, W2 = ((w.setCell ⟨R, 2, none⟩ (.bool true)).setCell ⟨R, 3, none⟩ (.bool false)).setCell ⟨R, 4, none⟩ (.int .i64 0) := ⟨_, rfl⟩
  rw [← hW2] at HQ ⊢
  clear hq hW2
  exact bodyPost_end (results_none rfl _ _ _) rfl ⟨rfl, HQ.out⟩

set_option maxHeartbeats 2000000 in
theorem l_Sync1 {w : World} {R c : Nat} {A : Option Addr} {s : DS} (h : DQ w R A c s) (D : Nat) (hD : w.heap[D]? = some (.cells #[.pointer (some ⟨R, 0, none⟩)] 29 (0, 0))) :
    Calls Tryz.prog 99 #[.pointer (some ⟨D, 0, none⟩)] w fun e w' => e = .returned (.int .i64 0) ∧ DQ w' R A c { s with y := s.A.length } ∧ Only (fun k => k = R) w w' := by
  have f0 := blk_cell h.blk 0
  have f1 := blk_cell h.blk 1
  have p0 := blk_cell hD 0
  simp at f0 f1 p0
  have z1 := blk_frozen h.blk 1
  obtain ⟨n, hn⟩ : ∃ n, n = s.A.length := ⟨_, rfl⟩
  rw [← hn] at f0
  have HN := Lib.hid hn
  have HL := Lib.hid h
  clear h hn hD
  go_enter Tryz.func99, Tryz.ntmps99
  go_upto_region 1 with (fail)
  go_region
  have hq : DQ (w.setCell ⟨R, 1, none⟩ (.int .i64 (n : Int))) R A c { s with y := s.A.length } ∧ Only (fun k => k = R) w (w.setCell ⟨R, 1, none⟩ (.int .i64 (n : Int))).drew := by
    have ho := (Only.refl (fun k => k = R) w).setCell (p := ⟨R, 1, none⟩) (.inl rfl) (.int .i64 (n : Int))
    exact ⟨HL.out.moved { s with y := s.A.length } ((blk_set HL.out.blk 1 _).trans (by rw [HN.out]; rfl)) rfl (Nat.le_refl _) HL.out.fu ho, ho.drew⟩
  have HQ := Lib.hid hq
  obtain ⟨W2, hW2⟩ : ∃ W2, W2 = w.setCell ⟨R, 1, none⟩ (.int .i64 (n : Int)) := ⟨_, rfl⟩
  rw [← hW2] at HQ ⊢
  clear hq hW2
  go_wp2
  go_ret
  exact ⟨rfl, HQ.out.1.grew (Below.refl _ _).drew, HQ.out.2⟩

set_option maxHeartbeats 2000000 in
theorem l_Fuse1 {w : World} {R c : Nat} {A : Option Addr} {s : DS} (h : DQ w R A c s) (D N : Nat) (n : Int) (hn : InI5 n) (hD : w.heap[D]? = some (.cells #[.pointer (some ⟨R, 0, none⟩)] 29 (0, 0))) (hN : w.heap[N]? = some (.cells #[.int .i64 n] 3 (0, 0))) :
    Calls Tryz.prog 57 #[.pointer (some ⟨N, 0, none⟩), .pointer (some ⟨D, 0, none⟩)] w fun e w' => e = .returned (.int .i64 0) ∧ DQ w' R A c { s with f := if n < 0 then none else some n.toNat } ∧ Only (fun k => k = R) w w' := by
  have f3 := blk_cell h.blk 3
  have f4 := blk_cell h.blk 4
  have p0 := blk_cell hD 0
  have n0 := blk_cell hN 0
  simp at f3 f4 p0 n0
  have z3 := blk_frozen h.blk 3
  have z4 := blk_frozen h.blk 4
  have HL := Lib.hid h
  clear h hD hN
  obtain ⟨hn1, hn2⟩ := hn
  by_cases h0 : 0 ≤ n
  · have hm : max n 0 = n := by omega
    have hn0 : ¬ n < 0 := by omega
    have HF := Lib.hid (show ∀ W, DQ W R A c { s with f := if n < 0 then none else some n.toNat } → DQ W R A c { s with f := some n.toNat } by rw [if_neg hn0]; exact fun _ => id)
    go_enter Tryz.func57, Tryz.ntmps57
    go_upto_region 1 with (fail)
    go_region
    have hq : DQ ((w.setCell ⟨R, 3, none⟩ (.bool true)).setCell ⟨R, 4, none⟩ (.int .i64 n)) R A c { s with f := if n < 0 then none else some n.toNat } ∧ Only (fun k => k = R) w ((w.setCell ⟨R, 3, none⟩ (.bool true)).setCell ⟨R, 4, none⟩ (.int .i64 n)).drew := by
      have ho := ((Only.refl (fun k => k = R) w).setCell (p := ⟨R, 3, none⟩) (.inl rfl) (.bool true)).setCell (p := ⟨R, 4, none⟩) (.inl rfl) (.int .i64 n)
      refine ⟨HL.out.moved { s with f := if n < 0 then none else some n.toNat } ((blk_set (blk_set HL.out.blk 3 _) 4 _).trans ?_) rfl HL.out.sy ?_ ho, ho.drew⟩
      · have : ((n.toNat : Nat) : Int) = n := by omega
        simp [this, hn0]
      · simp [hn0]; omega
    have HQ := Lib.hid hq
    obtain ⟨W2, hW2⟩ : ∃ W2, W2 = (w.setCell ⟨R, 3, none⟩ (.bool true)).setCell ⟨R, 4, none⟩ (.int .i64 n) := ⟨_, rfl⟩
    rw [← hW2] at HQ ⊢
    clear hq hW2
    go_wp2
    go_ret
    exact ⟨rfl, HF.out _ (HQ.out.1.grew (Below.refl _ _).drew), HQ.out.2⟩
  · have hm : max n 0 = 0 := by omega
    have hn0 : n < 0 := by omega
    have HF := Lib.hid (show ∀ W, DQ W R A c { s with f := if n < 0 then none else some n.toNat } → DQ W R A c { s with f := none } by rw [if_pos hn0]; exact fun _ => id)
    go_enter Tryz.func57, Tryz.ntmps57
    go_upto_region 1 with (fail)
    go_region
    have hq : DQ ((w.setCell ⟨R, 3, none⟩ (.bool false)).setCell ⟨R, 4, none⟩ (.int .i64 0)) R A c { s with f := if n < 0 then none else some n.toNat } ∧ Only (fun k => k = R) w ((w.setCell ⟨R, 3, none⟩ (.bool false)).setCell ⟨R, 4, none⟩ (.int .i64 0)).drew := by
      have ho := ((Only.refl (fun k => k = R) w).setCell (p := ⟨R, 3, none⟩) (.inl rfl) (.bool false)).setCell (p := ⟨R, 4, none⟩) (.inl rfl) (.int .i64 0)
      exact ⟨HL.out.moved { s with f := if n < 0 then none else some n.toNat } ((blk_set (blk_set HL.out.blk 3 _) 4 _).trans (by simp [hn0])) rfl HL.out.sy (by simp [hn0]) ho, ho.drew⟩
    have HQ := Lib.hid hq
    obtain ⟨W2, hW2⟩ : ∃ W2, W2 = (w.setCell ⟨R, 3, none⟩ (.bool false)).setCell ⟨R, 4, none⟩ (.int .i64 0) := ⟨_, rfl⟩
    rw [← hW2] at HQ ⊢
    clear hq hW2
    go_wp2
    go_ret
    exact ⟨rfl, HF.out _ (HQ.out.1.grew (Below.refl _ _).drew), HQ.out.2⟩

set_option maxHeartbeats 2000000 in
theorem l_Cut1 {w : World} {R c : Nat} {A : Option Addr} {s : DS} (h : DQ w R A c s) (D N : Nat) (n : Int) (hn : InI5 n) (hD : w.heap[D]? = some (.cells #[.pointer (some ⟨R, 0, none⟩)] 29 (0, 0))) (hN : w.heap[N]? = some (.cells #[.int .i64 n] 3 (0, 0))) (hd : s.dead = false) :
    Calls Tryz.prog 118 #[.pointer (some ⟨N, 0, none⟩), .pointer (some ⟨D, 0, none⟩)] w fun e w' => e = .returned (.int .i64 ((s.cut n).2 : Int)) ∧ DQ w' R A c (s.cut n).1 ∧ Only (fun k => k = R) w w' := by
  have f0 := blk_cell h.blk 0
  have f1 := blk_cell h.blk 1
  have p0 := blk_cell hD 0
  have n0 := blk_cell hN 0
  simp at f0 f1 p0 n0
  have z0 := blk_frozen h.blk 0
  obtain ⟨y, hy⟩ : ∃ y, y = s.y := ⟨_, rfl⟩
  obtain ⟨L, hL⟩ : ∃ L, L = s.A.length := ⟨_, rfl⟩
  have hcap := own_cap h.own
  have hln := h.ln
  have hsy := h.sy
  rw [← hL] at f0 hcap hln hsy
  rw [← hy] at f1 hsy
  have HY := Lib.hid (And.intro hy hL)
  have HL := Lib.hid h
  have HAD := Lib.hid h.adr
  have HD := Lib.hid hd
  clear h hD hN hy hL hd
  obtain ⟨hn1, hn2⟩ := hn
  by_cases h0 : n < y
  · have HR := Lib.hid (show s.cut n = (s, 1) by simp [DS.cut, HD.out, ← HY.out.1, h0])
    go_enter Tryz.func118, Tryz.ntmps118
    go_upto_region 1 with (fail)
    go_region
    all_goals go_wp2
    all_goals go_ret
    all_goals exact ⟨by rw [HR.out]; rfl, by rw [HR.out]; exact HL.out.grew (Below.refl _ _).drew, (Only.refl _ _).drew⟩
  · by_cases h1 : (L : Int) < n
    · have HR := Lib.hid (show s.cut n = (s, 1) by simp [DS.cut, HD.out, ← HY.out.2, h1])
      go_enter Tryz.func118, Tryz.ntmps118
      go_upto_region 1 with (fail)
      go_region
      all_goals go_wp2
      all_goals go_ret
      all_goals exact ⟨by rw [HR.out]; rfl, by rw [HR.out]; exact HL.out.grew (Below.refl _ _).drew, (Only.refl _ _).drew⟩
    · obtain ⟨k, rfl⟩ := Int.eq_ofNat_of_zero_le (show 0 ≤ n by omega)
      have hkL : k ≤ L := by omega
      have hkc : (k : Int) ≤ c := by omega
      have HR := Lib.hid (show s.cut (k : Int) = ({ s with A := s.A.take k }, 0) by simp [DS.cut, HD.out, ← HY.out.1, ← HY.out.2, h0, h1])
      go_enter Tryz.func118, Tryz.ntmps118
      go_upto_region 1 with (fail)
      go_region
      all_goals go_upto_region 3 with (fail)
      have hrun := fun w' => run_uptoD w' A L c k (by omega) (by omega)
      go_region
      have hq : DQ (w.setCell ⟨R, 0, none⟩ (.slice A k c)) R A c { s with A := s.A.take k } ∧ Only (fun k => k = R) w (w.setCell ⟨R, 0, none⟩ (.slice A k c)) :=
        ⟨HL.out.cut k (by rw [← HY.out.1]; omega) (by rw [← HY.out.2]; exact hkL), (Only.refl (fun k => k = R) w).setCell (p := ⟨R, 0, none⟩) (.inl rfl) (.slice A k c)⟩
      have HQ := Lib.hid hq
      obtain ⟨W2, hW2⟩ : ∃ W2, W2 = w.setCell ⟨R, 0, none⟩ (.slice A k c) := ⟨_, rfl⟩
      rw [← hW2] at HQ ⊢
      clear hq hW2 hrun
      go_wp2
      go_ret
      exact ⟨by rw [HR.out]; rfl, by rw [HR.out]; exact HQ.out.1.grew (Below.refl _ _).drew.drew, HQ.out.2.drew.drew⟩

theorem crash_keeps (s : DS) (n : Int) (hd : s.dead = false) (h : ¬ (0 ≤ n ∧ n < (s.A.length - s.y : Nat))) : s.crash n = ({ s with dead := true, f := none }, 0) := by
  simp [DS.crash, hd, h]
theorem crash_cuts (s : DS) (k : Nat) (hd : s.dead = false) (h : (k : Int) < (s.A.length - s.y : Nat)) : s.crash (k : Int) = ({ s with A := s.A.take (s.y + k), dead := true, f := none }, 0) := by
  have : (0 : Int) ≤ k ∧ (k : Int) < (s.A.length - s.y : Nat) := ⟨by omega, h⟩
  simp [DS.crash, hd]
  omega

set_option maxHeartbeats 4000000 in
theorem l_Crash1 {w : World} {R c : Nat} {A : Option Addr} {s : DS} (h : DQ w R A c s) (D N : Nat) (n : Int) (hn : InI5 n) (hD : w.heap[D]? = some (.cells #[.pointer (some ⟨R, 0, none⟩)] 29 (0, 0))) (hN : w.heap[N]? = some (.cells #[.int .i64 n] 3 (0, 0))) (hd : s.dead = false) :
    Calls Tryz.prog 40 #[.pointer (some ⟨N, 0, none⟩), .pointer (some ⟨D, 0, none⟩)] w fun e w' => e = .returned (.int .i64 ((s.crash n).2 : Int)) ∧ DQ w' R A c (s.crash n).1 ∧ Only (fun k => k = R) w w' := by
  have f0 := blk_cell h.blk 0
  have f1 := blk_cell h.blk 1
  have p0 := blk_cell hD 0
  have n0 := blk_cell hN 0
  simp at f0 f1 p0 n0
  have z0 := blk_frozen h.blk 0
  obtain ⟨y, hy⟩ : ∃ y, y = s.y := ⟨_, rfl⟩
  obtain ⟨L, hL⟩ : ∃ L, L = s.A.length := ⟨_, rfl⟩
  have hcap := own_cap h.own
  have hln := h.ln
  have hsy := h.sy
  rw [← hL] at f0 hcap hln hsy
  rw [← hy] at f1 hsy
  have hnD := blkd_ne hD h.blk (by decide)
  have HY := Lib.hid (And.intro hy hL)
  have HL := Lib.hid h
  have HD := Lib.hid hd
  have HCD := Lib.hid hD
  clear h hD hN hy hL hd
  obtain ⟨hn1, hn2⟩ := hn
  by_cases h0 : 0 ≤ n
  · by_cases h1 : n < (L : Int) - y
    · obtain ⟨k, rfl⟩ := Int.eq_ofNat_of_zero_le h0
      obtain ⟨j, hj⟩ : ∃ j, j = y + k := ⟨_, rfl⟩
      have hji : (y : Int) + k = (j : Int) := by omega
      have hjL : j ≤ L := by omega
      have hjc : (j : Int) ≤ c := by omega
      have HR := Lib.hid (show s.crash (k : Int) = ({ s with A := s.A.take j, dead := true, f := none }, 0) by
        rw [crash_cuts s k HD.out (by rw [← HY.out.1, ← HY.out.2]; omega), hj, HY.out.1])
      have HJ := Lib.hid hj
      clear hj
      go_enter Tryz.func40, Tryz.ntmps40
      go_upto_region 1 with (fail)
      go_region
      go_upto_region 2 with (fail)
      have hrun := fun w' => run_uptoD w' A L c j (by omega) (by omega)
      go_region
      have hq : DQ (w.setCell ⟨R, 0, none⟩ (.slice A j c)) R A c { s with A := s.A.take j } ∧ Only (fun k => k = R) w (w.setCell ⟨R, 0, none⟩ (.slice A j c)) :=
        ⟨HL.out.cut j (by rw [← HY.out.1, HJ.out]; omega) (by rw [← HY.out.2]; exact hjL), (Only.refl (fun k => k = R) w).setCell (p := ⟨R, 0, none⟩) (.inl rfl) (.slice A j c)⟩
      have HQ := Lib.hid hq
      have hp0 : (w.setCell ⟨R, 0, none⟩ (.slice A j c)).cell? ⟨D, 0, none⟩ = some (.pointer (some ⟨R, 0, none⟩)) := by
        rw [blk_cell (blkd_keep HCD.out hnD)]; rfl
      obtain ⟨W2, hW2⟩ : ∃ W2, W2 = w.setCell ⟨R, 0, none⟩ (.slice A j c) := ⟨_, rfl⟩
      rw [← hW2] at HQ hp0 ⊢
      clear hq hW2 hrun
      go_wp2_with fail
      refine (l_fail (HQ.out.1.grew (Below.refl _ _).drew.drew)).mono ?_
      rintro e W3 ⟨rfl, hq, ho⟩
      have HQ3 := Lib.hid (And.intro hq (HQ.out.2.drew.drew.trans ho (fun _ h => .inl h)))
      clear hq ho
      go_wp2
      go_ret
      exact ⟨by rw [HR.out]; rfl, by rw [HR.out]; exact HQ3.out.1, HQ3.out.2⟩
    · have HR := Lib.hid (crash_keeps s n HD.out (by rw [← HY.out.1, ← HY.out.2]; omega))
      go_enter Tryz.func40, Tryz.ntmps40
      go_upto_region 1 with (fail)
      go_region
      go_wp2_with fail
      refine (l_fail (HL.out.grew (Below.refl _ _).drew)).mono ?_
      rintro e W3 ⟨rfl, hq, ho⟩
      have HQ3 := Lib.hid (And.intro hq ((Only.refl (fun k => k = R) w).drew.trans ho (fun _ h => .inl h)))
      clear hq ho
      go_wp2
      go_ret
      exact ⟨by rw [HR.out]; rfl, by rw [HR.out]; exact HQ3.out.1, HQ3.out.2⟩
  · have HR := Lib.hid (crash_keeps s n HD.out (by omega))
    go_enter Tryz.func40, Tryz.ntmps40
    go_upto_region 1 with (fail)
    go_region
    go_wp2_with fail
    refine (l_fail (HL.out.grew (Below.refl _ _).drew)).mono ?_
    rintro e W3 ⟨rfl, hq, ho⟩
    have HQ3 := Lib.hid (And.intro hq ((Only.refl (fun k => k = R) w).drew.trans ho (fun _ h => .inl h)))
    clear hq ho
    go_wp2
    go_ret
    exact ⟨by rw [HR.out]; rfl, by rw [HR.out]; exact HQ3.out.1, HQ3.out.2⟩
end Go.Proofs.YtdiihaeelcbjbaaGreatDoor

-- DqB
namespace Go.Proofs.YtdiihaeelcbjbaaGreatDoor
open Go.RowKit

section
variable {w w' : World} {R c : Nat} {A : Option Addr} {s : DS}
theorem own_mine {n : Nat} (h : DQ w R A c s) {x : Nat} (hx : (Value.slice A n c).ownBlock = some x) : FD R A x := by
  rcases h.adr with ⟨rfl, _⟩ | ⟨g, rfl⟩
  · simp [Value.ownBlock] at hx
  · simp [Value.ownBlock] at hx
    exact .inr ⟨g, rfl, hx.symm⟩
/-- Bytes behind. -/
theorem DQ.appended (h : DQ w R A c s) (x : List UInt8) (n : Nat) (hn : n = s.A.length) (m : Nat) (hm : m = x.length) (hl : n + m ≤ 1000000000) {W1 : World} {A1 : Option Addr} {c1 : Nat} (ho : W1.ownsRow 0 5 1 (.slice A1 (n + m) c1) (n + m) ((s.A ++ x).map enc))
    (hg : w.grownBy W1 (Value.slice A n c).ownBlock) (hat : (Value.slice A1 (n + m) c1).ownBlock = (Value.slice A n c).ownBlock ∨ (Value.slice A1 (n + m) c1).ownBlock = some w.heap.size) :
    DQ (W1.setCell ⟨R, 0, none⟩ (.slice A1 (n + m) c1)) R A1 c1 { s with A := s.A ++ x } ∧ Only (FD R A) w (W1.setCell ⟨R, 0, none⟩ (.slice A1 (n + m) c1)) ∧ ∀ k, FD R A1 k → FD R A k ∨ w.heap.size ≤ k := by
  have hlen : (s.A ++ x).length = n + m := by rw [List.length_append, hn, hm]
  have ho1 : Only (FD R A) w W1 := Only.of_grown hg (fun k hk => own_mine h hk)
  have hb : W1.heap[R]? = _ := (hg.block R (Array.getElem?_eq_some_iff.1 h.blk).1 (fun e => h.ne (x := R) (by
    rcases h.adr with ⟨rfl, _⟩ | ⟨g, rfl⟩
    · simp [Value.ownBlock] at e
    · simpa [Value.ownBlock] using e.symm) rfl)).trans h.blk
  have hne : ∀ k, (Value.slice A1 (n + m) c1).ownBlock = some k → k ≠ R := by
    intro k hk
    obtain ⟨cur, hc⟩ := ownd_blk ho hk
    exact blkd_ne hc hb (by decide)
  refine ⟨⟨?_, ?_, ?_, ?_, h.fu⟩, ho1.setCell (.inl (.inl rfl)) _, ?_⟩
  · rw [blk_set hb, ← hlen]; rfl
  · show (W1.setCell _ _).ownsRow 0 5 1 (.slice A1 (s.A ++ x).length c1) (s.A ++ x).length ((s.A ++ x).map enc)
    rw [hlen]
    exact ownd_keep ho (fun k hk => Below.heap_setCell _ _ _ _ (hne k hk))
  · show s.y ≤ (s.A ++ x).length
    have := h.sy; rw [hlen]; omega
  · show (s.A ++ x).length ≤ _
    rw [hlen]; exact hl
  · rintro k (rfl | ⟨g, rfl, rfl⟩)
    · exact .inl (.inl rfl)
    · rcases hat with e | e
      · exact .inl (own_mine h (n := n) (x := k) (by rw [← e]; rfl))
      · simp [Value.ownBlock] at e
        exact .inr (by omega)
end

set_option maxHeartbeats 2000000 in
theorem l_put {w : World} {R c : Nat} {A : Option Addr} {s : DS} (h : DQ w R A c s) (Ax : Option Addr) (Lx cx : Nat) (x : List UInt8) (hL : Lx = x.length) (hl : s.A.length + x.length ≤ 1000000000) (hA : HasA w w.heap.size Ax x) :
    Calls Tryz.prog 62 #[.pointer (some ⟨R, 0, none⟩), .slice Ax Lx cx] w fun e w' => e = .returned (.tuple #[]) ∧ ∃ A' c', DQ w' R A' c' { s with A := s.A ++ x } ∧ Only (FD R A) w w' ∧ ∀ k, FD R A' k → FD R A k ∨ w.heap.size ≤ k := by
  obtain ⟨n, hn⟩ : ∃ n, n = s.A.length := ⟨_, rfl⟩
  have f0 := blk_cell h.blk 0
  simp at f0
  have hown := h.own
  have hnm : n + Lx ≤ 1000000000 := by omega
  rw [← hn] at f0 hown
  obtain ⟨i0, hi, hz0, hz1, hz2⟩ := info_parts info5
  have HO := Lib.hid hown
  have HL := Lib.hid h
  have HN := Lib.hid hn
  have HX := Lib.hid hL
  have HA := Lib.hid hA
  clear h hn hL hl hA hown
  go_enter Tryz.func62, Tryz.ntmps62
  go_wp2_with (
    at_builtin
    refine wpList_append_hasAt rfl (.tmp 8) (.tmp 9) 39 rfl 0 5 i0 Tryz.underlying39 hi hz0 hz1 hz2 (.slice A n c) n s.A rfl HO.out w.heap.size Ax Lx cx x rfl HX.out HA.out (by omega) (Nat.zero_le _) ?_
    intro v1 W1 hown1 hg1 hat1
    obtain ⟨A1, c1, rfl⟩ := own_form hown1
    have hq := HL.out.appended x n HN.out Lx HX.out hnm hown1 hg1 hat1
    have hb1 : W1.heap[R]? = _ := (hg1.block R (Array.getElem?_eq_some_iff.1 HL.out.blk).1 (fun e => HL.out.ne (x := R) (by
      rcases HL.out.adr with ⟨rfl, _⟩ | ⟨g, rfl⟩
      · simp [Value.ownBlock] at e
      · simpa [Value.ownBlock] using e.symm) rfl)).trans HL.out.blk
    have g0 := blk_cell hb1 0
    simp at g0
    have z0 := blk_frozen hb1 0
    have HQ := Lib.hid hq
    clear hq hb1 hown1 hg1 hat1)
  exact bodyPost_end (results_none rfl _ _ _) rfl ⟨rfl, _, _, HQ.out⟩

/-- What Append comes to where there is power, ahead of the closure's end. -/
def Burnt (s : DS) (x : List UInt8) : DS × Nat := match s.f with
  | none => ({ s with A := s.A ++ x }, 0)
  | some f => if f < x.length then (⟨s.A ++ x.take f, s.y, true, none⟩, 21) else ({ s with A := s.A ++ x, f := some (f - x.length) }, 0)

theorem en_put : ∀ args w, (callFunc 62 args).run Tryz.prog w = .ok (.enter 62 args) w := enters_of Tryz.func62 (by kernel_rfl) rfl

set_option maxHeartbeats 4000000 in
theorem l_burn {w : World} {R c : Nat} {A : Option Addr} {s : DS} (h : DQ w R A c s) (Ax : Option Addr) (Lx cx : Nat) (x : List UInt8) (hL : Lx = x.length) (hl : s.A.length + x.length ≤ 1000000000) (hA : HasA w w.heap.size Ax x) (hc : Lx ≤ cx) :
    Calls Tryz.prog 61 #[.pointer (some ⟨R, 0, none⟩), .slice Ax Lx cx, .func (.func 62) #[.pointer (some ⟨R, 0, none⟩)] #[]] w fun e w' => e = .returned (.int .i64 ((Burnt s x).2 : Int)) ∧ ∃ A' c', DQ w' R A' c' (Burnt s x).1 ∧ Only (FD R A) w w' ∧ ∀ k, FD R A' k → FD R A k ∨ w.heap.size ≤ k := by
  have f3 := blk_cell h.blk 3
  have f4 := blk_cell h.blk 4
  simp at f3 f4
  have hLx : Lx ≤ 1000000000 := by omega
  have HL := Lib.hid h
  have HX := Lib.hid hL
  have HLE := Lib.hid hl
  have HA := Lib.hid hA
  have HFU := Lib.hid h.fu
  have en := en_put
  clear h hL hl hA
  cases hf : s.f with
  | none =>
    rw [hf] at f3 f4
    simp at f3 f4
    have HR := Lib.hid (show Burnt s x = ({ s with A := s.A ++ x }, 0) by simp [Burnt, hf])
    clear hf
    go_enter Tryz.func61, Tryz.ntmps61
    go_wp2_with fail
    refine (l_put HL.out Ax Lx cx x HX.out HLE.out HA.out).mono ?_
    rintro e W1 ⟨rfl, A1, c1, hq⟩
    have HQ := Lib.hid hq
    clear hq
    go_wp2
    go_ret
    exact ⟨by rw [HR.out]; rfl, A1, c1, by rw [HR.out]; exact HQ.out⟩
  | some f =>
    rw [hf] at f3 f4
    simp at f3 f4
    have HF := Lib.hid hf
    have hf63 : (f : Int) ≤ 9223372036854775807 := by have := HFU.out; rw [hf] at this; simp at this; omega
    clear hf
    by_cases hlt : f < Lx
    · have hlti : (f : Int) < Lx := by omega
      have hfc : (f : Int) ≤ cx := by omega
      have HR := Lib.hid (show Burnt s x = (⟨s.A ++ x.take f, s.y, true, none⟩, 21) by simp [Burnt, HF.out, ← HX.out, hlt])
      have hrun := fun w' => run_uptoD w' Ax Lx cx f (by omega) (by omega)
      go_enter Tryz.func61, Tryz.ntmps61
      go_wp2_with fail
      refine (l_put HL.out Ax f cx (x.take f) (by rw [List.length_take, ← HX.out]; omega) (by rw [List.length_take]; have := HLE.out; omega) (HA.out.take f)).mono ?_
      rintro e W1 ⟨rfl, A1, c1, hq1, ho1, hs1⟩
      have HQ1 := Lib.hid hq1
      have O1 := Lib.hid (And.intro ho1 hs1)
      clear hq1 ho1 hs1
      go_wp2_with fail
      refine (l_fail HQ1.out).mono ?_
      rintro e W2 ⟨rfl, hq2, ho2⟩
      have HQ2 := Lib.hid (And.intro hq2 (O1.out.1.trans ho2 (fun k hk => .inl (.inl hk))))
      clear hq2 ho2
      go_wp2
      go_ret
      exact ⟨by rw [HR.out]; rfl, A1, c1, by rw [HR.out]; exact HQ2.out.1, HQ2.out.2, O1.out.2⟩
    · have hlti : ¬ (f : Int) < Lx := by omega
      obtain ⟨r, hr⟩ : ∃ r, r = f - Lx := ⟨_, rfl⟩
      have hri : (f : Int) - Lx = (r : Int) := by omega
      have hrm : r ≤ 9223372036854775807 := by omega
      have HR := Lib.hid (show Burnt s x = ({ s with A := s.A ++ x, f := some r }, 0) by simp [Burnt, HF.out, ← HX.out, hlt, hr])
      clear hr
      go_enter Tryz.func61, Tryz.ntmps61
      go_wp2_with fail
      refine (l_put HL.out Ax Lx cx x HX.out HLE.out HA.out).mono ?_
      rintro e W1 ⟨rfl, A1, c1, hq1, ho1, hs1⟩
      have g4 := blk_cell hq1.blk 4
      simp [HF.out] at g4
      have z4 := blk_frozen hq1.blk 4
      have HQ1 := Lib.hid hq1
      have O1 := Lib.hid (And.intro ho1 hs1)
      clear hq1 ho1 hs1
      go_wp2
      have hq2 : DQ (W1.setCell ⟨R, 4, none⟩ (.int .i64 (r : Int))) R A1 c1 { s with A := s.A ++ x, f := some r } ∧ Only (FD R A) w (W1.setCell ⟨R, 4, none⟩ (.int .i64 (r : Int))) := by
        have ho := (Only.refl (fun k => k = R) W1).setCell (p := ⟨R, 4, none⟩) (.inl rfl) (.int .i64 (r : Int))
        exact ⟨HQ1.out.moved { s with A := s.A ++ x, f := some r } ((blk_set HQ1.out.blk 4 _).trans (by simp [HF.out])) rfl HQ1.out.sy hrm ho, O1.out.1.trans ho (fun k hk => .inl (.inl hk))⟩
      go_ret
      exact ⟨by rw [HR.out]; rfl, A1, c1, by rw [HR.out]; exact hq2.1, hq2.2, O1.out.2⟩

set_option maxHeartbeats 2000000 in
theorem l_Append1 {w : World} {R c : Nat} {A : Option Addr} {s : DS} (h : DQ w R A c s) (D B : Nat) (Ax : Option Addr) (Lx cx : Nat) (x : List UInt8) (hL : Lx = x.length) (hl : s.A.length + x.length ≤ 1000000000) (hA : HasA w w.heap.size Ax x) (hc : Lx ≤ cx)
    (hD : w.heap[D]? = some (.cells #[.pointer (some ⟨R, 0, none⟩)] 29 (0, 0))) (hB : w.heap[B]? = some (.cells #[.slice Ax Lx cx] 39 (0, 0))) :
    Calls Tryz.prog 60 #[.pointer (some ⟨D, 0, none⟩), .pointer (some ⟨B, 0, none⟩)] w fun e w' => e = .returned (.int .i64 ((Burnt s x).2 : Int)) ∧ ∃ A' c', DQ w' R A' c' (Burnt s x).1 ∧ Only (FD R A) w w' ∧ ∀ k, FD R A' k → FD R A k ∨ w.heap.size ≤ k := by
  have p0 := blk_cell hD 0
  have b0 := blk_cell hB 0
  simp at p0 b0
  have HL := Lib.hid (l_burn h Ax Lx cx x hL hl hA hc)
  clear h hL hl hA hc hD hB
  go_enter Tryz.func60, Tryz.ntmps60
  go_wp2_with fail
  refine HL.out.mono ?_
  rintro e W1 ⟨rfl, A1, c1, hq⟩
  have HQ := Lib.hid hq
  clear hq
  go_wp2
  go_ret
  exact ⟨rfl, A1, c1, HQ.out⟩
end Go.Proofs.YtdiihaeelcbjbaaGreatDoor

-- DqC
namespace Go.Proofs.YtdiihaeelcbjbaaGreatDoor
open Go.RowKit

/-- How a disk of the program lies, and its blocks. -/
def PlQ (F : Nat → Prop) (w : World) (R : Nat) (s : DS) : Prop := ∃ A c, DQ w R A c s ∧ F = FD R A

/-- The world behind the boxing of a disk's address and a value. -/
theorem boxedD (w : World) (v u : Value) (t : TypeId) :
    ((w.alloc (.cells #[v] 29)).alloc (.cells #[u] t)).heap[w.heap.size]? = some (.cells #[v] 29 (0, 0)) ∧
    ((w.alloc (.cells #[v] 29)).alloc (.cells #[u] t)).heap[w.heap.size + 1]? = some (.cells #[u] t (0, 0)) ∧
    Below w.heap.size w ((w.alloc (.cells #[v] 29)).alloc (.cells #[u] t)) := by
  have h1 := World.alloc_heap_new w (.cells #[v] 29)
  have h2 := World.alloc_heap_new (w.alloc (.cells #[v] 29)) (.cells #[u] t)
  refine ⟨(Below.heap_alloc _ _ _ (by simp)).trans h1, by simpa using h2, ((Below.refl _ w).alloc (Nat.le_refl _) _).alloc (by simp) _⟩

section
variable {w : World} {R c : Nat} {A : Option Addr} {s : DS}
/-- From what a closure does in a world that only grew to what the call does. -/
theorem turns_of {W w' : World} (hb : Below w.heap.size w W) (h : ∃ A' c', DQ w' R A' c' s ∧ Only (FD R A) W w' ∧ ∀ k, FD R A' k → FD R A k ∨ W.heap.size ≤ k) (r : Nat) {e : Ending} (he : e = .returned (.int .i64 (r : Int))) : Turns PlQ (FD R A) R w (s, r) e w' := by
  obtain ⟨A', c', h1, h2, h3⟩ := h
  refine ⟨he, FD R A', ⟨A', c', h1, rfl⟩, (Only.of_grew hb).trans h2 (fun x hx => .inl hx), fun k hk => (h3 k hk).imp id (fun h => Nat.le_trans hb.size h)⟩
theorem turns_in {W w' : World} (hb : Below w.heap.size w W) (h : DQ w' R A c s) (ho : Only (fun k => k = R) W w') (r : Nat) {e : Ending} (he : e = .returned (.int .i64 (r : Int))) : Turns PlQ (FD R A) R w (s, r) e w' :=
  turns_of hb ⟨A, c, h, ho.mono (fun _ _ hx => .inl hx), fun _ hk => .inl hk⟩ r he
end

set_option maxHeartbeats 2000000 in
theorem d_New (w : World) : Calls Tryz.prog 9 #[] w fun e W' => ∃ F R, e = .returned (.pointer (some ⟨R, 0, none⟩)) ∧ PlQ F W' R DS.new ∧ (∀ k, F k → w.heap.size ≤ k) ∧ Below w.heap.size w W' := by
  go_enter Tryz.func9, Tryz.ntmps9
  go_wp2
  have hb := World.alloc_heap_new w (.cells #[.slice none 0 0, .int .i64 0, .bool false, .bool false, .int .i64 0] 74)
  go_ret
  refine ⟨FD w.heap.size none, _, rfl, ⟨none, 0, ⟨hb, World.ownsRow_nil _ _ _ _, Nat.le_refl _, Nat.zero_le _, Nat.zero_le _⟩, rfl⟩, ?_, (Below.refl _ w).alloc (Nat.le_refl _) _⟩
  rintro k (rfl | ⟨g, h, _⟩)
  · exact Nat.le_refl _
  · cases h

set_option maxHeartbeats 2000000 in
theorem d_Restart {w : World} {R c : Nat} {A : Option Addr} {s : DS} (h : DQ w R A c s) : Calls Tryz.prog 23 #[.pointer (some ⟨R, 0, none⟩)] w (Turns PlQ (FD R A) R w s.restart) := by
  have f2 := blk_cell h.blk 2
  simp at f2
  have z2 := blk_frozen h.blk 2
  have HL := Lib.hid h
  clear h
  go_enter Tryz.func23, Tryz.ntmps23
  go_wp2
  have ho := (Only.refl (fun k => k = R) w).setCell (p := ⟨R, 2, none⟩) (.inl rfl) (.bool false)
  have hq := HL.out.moved { s with dead := false } ((blk_set HL.out.blk 2 _).trans rfl) rfl HL.out.sy HL.out.fu ho
  go_ret
  exact turns_in (Below.refl _ _) hq ho 0 rfl

set_option maxHeartbeats 2000000 in
theorem d_Synced {w : World} {R c : Nat} {A : Option Addr} {s : DS} (h : DQ w R A c s) : Calls Tryz.prog 22 #[.pointer (some ⟨R, 0, none⟩)] w fun e W' => e = .returned (.int .i64 (s.y : Int)) ∧ Below w.heap.size w W' := by
  have f1 := blk_cell h.blk 1
  simp at f1
  obtain ⟨y, hy⟩ : ∃ y, y = s.y := ⟨_, rfl⟩
  rw [← hy] at f1 ⊢
  clear h hy
  go_enter Tryz.func22, Tryz.ntmps22
  go_wp2
  go_ret
  exact ⟨rfl, Below.refl _ _⟩

set_option maxHeartbeats 2000000 in
theorem d_Dead {w : World} {R c : Nat} {A : Option Addr} {s : DS} (h : DQ w R A c s) : Calls Tryz.prog 87 #[.pointer (some ⟨R, 0, none⟩)] w fun e W' => e = .returned (.bool s.dead) ∧ Below w.heap.size w W' := by
  have f2 := blk_cell h.blk 2
  simp at f2
  obtain ⟨y, hy⟩ : ∃ y, y = s.dead := ⟨_, rfl⟩
  rw [← hy] at f2 ⊢
  clear h hy
  go_enter Tryz.func87, Tryz.ntmps87
  go_wp2
  go_ret
  exact ⟨rfl, Below.refl _ _⟩

set_option maxRecDepth 100000 in
set_option maxHeartbeats 4000000 in
theorem d_Bytes {w : World} {R c : Nat} {A : Option Addr} {s : DS} (h : DQ w R A c s) : Calls Tryz.prog 21 #[.pointer (some ⟨R, 0, none⟩)] w fun e W' => ∃ v L, e = .returned v ∧ W'.ownsRow w.heap.size 5 1 v L (s.A.map enc) ∧ Below w.heap.size w W' := by
  have f0 := blk_cell h.blk 0
  simp at f0
  obtain ⟨x, hx⟩ : ∃ y, y = s.A := ⟨_, rfl⟩
  obtain ⟨L, hL⟩ : ∃ y, y = x.length := ⟨_, rfl⟩
  have hown := h.own
  have hl := h.ln
  rw [← hx] at f0 hown hl ⊢
  rw [← hL] at f0 hown hl
  have hR := (Array.getElem?_eq_some_iff.1 h.blk).1
  have f1 : (w.alloc (.cells (Array.replicate L (.int .u8 0)) 5)).cell? ⟨R, 0, none⟩ = some (.slice A L c) := (World.cell?_alloc_lt w _ _ hR).trans f0
  have hA := (HasA.of_own hown).alloc (Nat.le_refl _) (.cells (Array.replicate L (.int .u8 0)) 5)
  have hnew := World.alloc_heap_new w (.cells (Array.replicate L (.int .u8 0)) 5)
  have hb := (Below.refl _ w).alloc (Nat.le_refl _) (.cells (Array.replicate L (.int .u8 0)) 5)
  obtain ⟨W2, hr, ⟨cur', hb2, hcp⟩, hgr⟩ := run_copy_into (w.alloc (.cells (Array.replicate L (.int .u8 0)) 5)) w.heap.size 0 L c 5 A w.heap.size x (Array.replicate L (.int .u8 0)) hnew (by rw [← hL]; simp) hA
  rw [← hL] at hr
  have e2 : cur' = (x.map enc).toArray := by
    apply Array.ext_getElem?
    intro i
    by_cases hi : i < x.length
    · have := hcp.2.1 i hi
      rw [Nat.zero_add] at this
      rw [this]; simp [hi]
    · rw [Array.getElem?_eq_none (by rw [hcp.1]; simp; rw [hL]; omega), Array.getElem?_eq_none (by simp; omega)]
  rw [e2] at hb2
  have B2 := Lib.hid (hb.grown hgr hb.size (fun k e => by cases e; exact Nat.le_refl _))
  have HN := Lib.hid hb2
  have HX := Lib.hid hL
  clear h hx hL hown hR hA hnew hb hb2 hcp hgr e2
  go_enter Tryz.func21, Tryz.ntmps21
  go_wp2_with (first
    | (at_make; refine wpList_make_n rfl (.tmp 10) (.tmp 10) rfl L rfl rfl hl ?_)
    | (refine wpList_copy_run rfl (.tmp 12) (.tmp 16) _ rfl _ _ _ rfl rfl W2 hr ?_)
    | fail)
  go_ret
  refine ⟨_, L, rfl, ⟨by rw [HX.out]; simp, .inr ⟨w.heap.size, L, _, rfl, Nat.le_refl _, HN.out, Nat.le_refl _, by simp only [maxLen]; omega, by rw [HX.out]; simp, ?_⟩⟩, B2.out⟩
  rw [Nat.mul_one, HX.out]
  simp
  exact List.take_of_length_le (by simp)

section
variable {w : World} {R c : Nat} {A : Option Addr} {s : DS}

set_option maxHeartbeats 2000000 in
theorem d_Sync (h : DQ w R A c s) : Calls Tryz.prog 78 #[.pointer (some ⟨R, 0, none⟩)] w (Turns PlQ (FD R A) R w s.sync) := by
  have hP := World.alloc_heap_new w (.cells #[.pointer (some ⟨R, 0, none⟩)] 29)
  have hB := (Below.refl _ w).alloc (Nat.le_refl _) (.cells #[.pointer (some ⟨R, 0, none⟩)] 29)
  have HL := Lib.hid h
  clear h
  go_enter Tryz.func78, Tryz.ntmps78
  go_upto_region 1 with (fail)
  obtain ⟨W, hW⟩ : ∃ W, W = w.alloc (.cells #[.pointer (some ⟨R, 0, none⟩)] 29) := ⟨_, rfl⟩
  rw [← hW] at hP hB ⊢
  have p0 := blk_cell hP 0
  simp at p0
  have HP := Lib.hid hP
  have HB := Lib.hid hB
  clear hW hP hB
  have H1 := HL.out.grew HB.out
  cases hd : s.dead with
  | true =>
    have HR := Lib.hid (show s.sync = (s, 20) by simp [DS.sync, hd])
    have H2 := Lib.hid (powered_off H1 hd (.func (.func 99) #[] #[.pointer (some ⟨w.heap.size, 0, none⟩)]))
    clear H1 hd
    go_wp2_with fail
    refine H2.out.mono ?_
    rintro e w' ⟨rfl, hb⟩
    have HB2 := Lib.hid hb
    clear hb
    go_wp2
    go_ret
    rw [HR.out]
    exact turns_in HB.out ((HL.out.grew HB.out).grew HB2.out) (Only.of_grew HB2.out) 20 rfl
  | false =>
    have HR := Lib.hid (show s.sync = ({ s with y := s.A.length }, 0) by simp [DS.sync, hd])
    have H2 := Lib.hid (powered_on H1 hd 99 (enters_of Tryz.func99 (by kernel_rfl) rfl) #[.pointer (some ⟨w.heap.size, 0, none⟩)] (fun r w' => r = 0 ∧ DQ w' R A c { s with y := s.A.length } ∧ Only (fun k => k = R) W w')
      ((l_Sync1 H1 w.heap.size HP.out).mono (by rintro e w' ⟨rfl, h1, h2⟩; exact ⟨0, rfl, rfl, h1, h2⟩)))
    clear H1 hd
    go_wp2_with fail
    refine H2.out.mono ?_
    rintro e w' ⟨r, rfl, rfl, hq⟩
    have HQ := Lib.hid hq
    clear hq
    go_wp2
    go_ret
    rw [HR.out]
    exact turns_in HB.out HQ.out.1 HQ.out.2 0 rfl

set_option maxHeartbeats 2000000 in
theorem d_Cut (h : DQ w R A c s) (n : Int) (hn : InI5 n) : Calls Tryz.prog 89 #[.pointer (some ⟨R, 0, none⟩), .int .i64 n] w (Turns PlQ (FD R A) R w (s.cut n)) := by
  obtain ⟨hP, hN, hB⟩ := boxedD w (.pointer (some ⟨R, 0, none⟩)) (.int .i64 n) 3
  have HL := Lib.hid h
  have HI := Lib.hid hn
  clear h hn
  go_enter Tryz.func89, Tryz.ntmps89
  go_upto_region 1 with (fail)
  obtain ⟨W, hW⟩ : ∃ W, W = (w.alloc (.cells #[.pointer (some ⟨R, 0, none⟩)] 29)).alloc (.cells #[.int .i64 n] 3) := ⟨_, rfl⟩
  rw [← hW] at hP hN hB ⊢
  have p0 := blk_cell hP 0
  have n0 := blk_cell hN 0
  simp at p0 n0
  have HP := Lib.hid hP
  have HN := Lib.hid hN
  have HB := Lib.hid hB
  clear hW hP hN hB
  have H1 := HL.out.grew HB.out
  cases hd : s.dead with
  | true =>
    have HR := Lib.hid (show s.cut n = (s, 20) by simp [DS.cut, hd])
    have H2 := Lib.hid (powered_off H1 hd (.func (.func 118) #[] #[.pointer (some ⟨w.heap.size + 1, 0, none⟩), .pointer (some ⟨w.heap.size, 0, none⟩)]))
    clear H1 hd
    go_wp2_with fail
    refine H2.out.mono ?_
    rintro e w' ⟨rfl, hb⟩
    have HB2 := Lib.hid hb
    clear hb
    go_wp2
    go_ret
    rw [HR.out]
    exact turns_in HB.out ((HL.out.grew HB.out).grew HB2.out) (Only.of_grew HB2.out) 20 rfl
  | false =>
    have H2 := Lib.hid (powered_on H1 hd 118 (enters_of Tryz.func118 (by kernel_rfl) rfl) #[.pointer (some ⟨w.heap.size + 1, 0, none⟩), .pointer (some ⟨w.heap.size, 0, none⟩)] (fun r w' => r = ((s.cut n).2 : Int) ∧ DQ w' R A c (s.cut n).1 ∧ Only (fun k => k = R) W w')
      ((l_Cut1 H1 w.heap.size (w.heap.size + 1) n HI.out HP.out HN.out hd).mono (by rintro e w' ⟨rfl, h1, h2⟩; exact ⟨_, rfl, rfl, h1, h2⟩)))
    clear H1 hd
    go_wp2_with fail
    refine H2.out.mono ?_
    rintro e w' ⟨r, rfl, rfl, hq⟩
    have HQ := Lib.hid hq
    clear hq
    go_wp2
    go_ret
    exact turns_in HB.out HQ.out.1 HQ.out.2 _ rfl

set_option maxHeartbeats 2000000 in
theorem d_Crash (h : DQ w R A c s) (n : Int) (hn : InI5 n) : Calls Tryz.prog 12 #[.pointer (some ⟨R, 0, none⟩), .int .i64 n] w (Turns PlQ (FD R A) R w (s.crash n)) := by
  obtain ⟨hP, hN, hB⟩ := boxedD w (.pointer (some ⟨R, 0, none⟩)) (.int .i64 n) 3
  have HL := Lib.hid h
  have HI := Lib.hid hn
  clear h hn
  go_enter Tryz.func12, Tryz.ntmps12
  go_upto_region 1 with (fail)
  obtain ⟨W, hW⟩ : ∃ W, W = (w.alloc (.cells #[.pointer (some ⟨R, 0, none⟩)] 29)).alloc (.cells #[.int .i64 n] 3) := ⟨_, rfl⟩
  rw [← hW] at hP hN hB ⊢
  have p0 := blk_cell hP 0
  have n0 := blk_cell hN 0
  simp at p0 n0
  have HP := Lib.hid hP
  have HN := Lib.hid hN
  have HB := Lib.hid hB
  clear hW hP hN hB
  have H1 := HL.out.grew HB.out
  cases hd : s.dead with
  | true =>
    have HR := Lib.hid (show s.crash n = (s, 20) by simp [DS.crash, hd])
    have H2 := Lib.hid (powered_off H1 hd (.func (.func 40) #[] #[.pointer (some ⟨w.heap.size + 1, 0, none⟩), .pointer (some ⟨w.heap.size, 0, none⟩)]))
    clear H1 hd
    go_wp2_with fail
    refine H2.out.mono ?_
    rintro e w' ⟨rfl, hb⟩
    have HB2 := Lib.hid hb
    clear hb
    go_wp2
    go_ret
    rw [HR.out]
    exact turns_in HB.out ((HL.out.grew HB.out).grew HB2.out) (Only.of_grew HB2.out) 20 rfl
  | false =>
    have H2 := Lib.hid (powered_on H1 hd 40 (enters_of Tryz.func40 (by kernel_rfl) rfl) #[.pointer (some ⟨w.heap.size + 1, 0, none⟩), .pointer (some ⟨w.heap.size, 0, none⟩)] (fun r w' => r = ((s.crash n).2 : Int) ∧ DQ w' R A c (s.crash n).1 ∧ Only (fun k => k = R) W w')
      ((l_Crash1 H1 w.heap.size (w.heap.size + 1) n HI.out HP.out HN.out hd).mono (by rintro e w' ⟨rfl, h1, h2⟩; exact ⟨_, rfl, rfl, h1, h2⟩)))
    clear H1 hd
    go_wp2_with fail
    refine H2.out.mono ?_
    rintro e w' ⟨r, rfl, rfl, hq⟩
    have HQ := Lib.hid hq
    clear hq
    go_wp2
    go_ret
    exact turns_in HB.out HQ.out.1 HQ.out.2 _ rfl

set_option maxHeartbeats 2000000 in
theorem d_Fuse (h : DQ w R A c s) (n : Int) (hn : InI5 n) : Calls Tryz.prog 34 #[.pointer (some ⟨R, 0, none⟩), .int .i64 n] w (Turns PlQ (FD R A) R w (s.fuse n)) := by
  obtain ⟨hP, hN, hB⟩ := boxedD w (.pointer (some ⟨R, 0, none⟩)) (.int .i64 n) 3
  have HL := Lib.hid h
  have HI := Lib.hid hn
  clear h hn
  go_enter Tryz.func34, Tryz.ntmps34
  go_upto_region 1 with (fail)
  obtain ⟨W, hW⟩ : ∃ W, W = (w.alloc (.cells #[.pointer (some ⟨R, 0, none⟩)] 29)).alloc (.cells #[.int .i64 n] 3) := ⟨_, rfl⟩
  rw [← hW] at hP hN hB ⊢
  have p0 := blk_cell hP 0
  have n0 := blk_cell hN 0
  simp at p0 n0
  have HP := Lib.hid hP
  have HN := Lib.hid hN
  have HB := Lib.hid hB
  clear hW hP hN hB
  have H1 := HL.out.grew HB.out
  cases hd : s.dead with
  | true =>
    have HR := Lib.hid (show s.fuse n = (s, 20) by simp [DS.fuse, hd])
    have H2 := Lib.hid (powered_off H1 hd (.func (.func 57) #[] #[.pointer (some ⟨w.heap.size + 1, 0, none⟩), .pointer (some ⟨w.heap.size, 0, none⟩)]))
    clear H1 hd
    go_wp2_with fail
    refine H2.out.mono ?_
    rintro e w' ⟨rfl, hb⟩
    have HB2 := Lib.hid hb
    clear hb
    go_wp2
    go_ret
    rw [HR.out]
    exact turns_in HB.out ((HL.out.grew HB.out).grew HB2.out) (Only.of_grew HB2.out) 20 rfl
  | false =>
    have HR := Lib.hid (show s.fuse n = ({ s with f := if n < 0 then none else some n.toNat }, 0) by simp [DS.fuse, hd])
    have H2 := Lib.hid (powered_on H1 hd 57 (enters_of Tryz.func57 (by kernel_rfl) rfl) #[.pointer (some ⟨w.heap.size + 1, 0, none⟩), .pointer (some ⟨w.heap.size, 0, none⟩)] (fun r w' => r = ((s.fuse n).2 : Int) ∧ DQ w' R A c (s.fuse n).1 ∧ Only (fun k => k = R) W w')
      ((l_Fuse1 H1 w.heap.size (w.heap.size + 1) n HI.out HP.out HN.out).mono (by rintro e w' ⟨rfl, h1, h2⟩; exact ⟨_, rfl, by rw [HR.out]; rfl, by rw [HR.out]; exact h1, h2⟩)))
    clear H1 hd
    go_wp2_with fail
    refine H2.out.mono ?_
    rintro e w' ⟨r, rfl, rfl, hq⟩
    have HQ := Lib.hid hq
    clear hq
    go_wp2
    go_ret
    exact turns_in HB.out HQ.out.1 HQ.out.2 _ rfl

set_option maxHeartbeats 2000000 in
theorem d_Append (h : DQ w R A c s) (Ax : Option Addr) (Lx cx : Nat) (x : List UInt8) (hL : Lx = x.length) (hLc : Lx ≤ cx) (hl : s.A.length + x.length ≤ 1000000000) (hA : HasA w w.heap.size Ax x) : Calls Tryz.prog 36 #[.pointer (some ⟨R, 0, none⟩), .slice Ax Lx cx] w (Turns PlQ (FD R A) R w (s.app x)) := by
  obtain ⟨hP, hN, hB⟩ := boxedD w (.pointer (some ⟨R, 0, none⟩)) (.slice Ax Lx cx) 39
  have HL := Lib.hid h
  have HI := Lib.hid (And.intro hL (And.intro hLc (And.intro hl hA)))
  clear h hL hLc hl hA
  go_enter Tryz.func36, Tryz.ntmps36
  go_upto_region 1 with (fail)
  obtain ⟨W, hW⟩ : ∃ W, W = (w.alloc (.cells #[.pointer (some ⟨R, 0, none⟩)] 29)).alloc (.cells #[.slice Ax Lx cx] 39) := ⟨_, rfl⟩
  rw [← hW] at hP hN hB ⊢
  have p0 := blk_cell hP 0
  have n0 := blk_cell hN 0
  simp at p0 n0
  have HP := Lib.hid hP
  have HN := Lib.hid hN
  have HB := Lib.hid hB
  clear hW hP hN hB
  have H1 := HL.out.grew HB.out
  cases hd : s.dead with
  | true =>
    have HR := Lib.hid (show s.app x = (s, 20) by simp [DS.app, hd])
    have H2 := Lib.hid (powered_off H1 hd (.func (.func 60) #[] #[.pointer (some ⟨w.heap.size, 0, none⟩), .pointer (some ⟨w.heap.size + 1, 0, none⟩)]))
    clear H1 hd
    go_wp2_with fail
    refine H2.out.mono ?_
    rintro e w' ⟨rfl, hb⟩
    have HB2 := Lib.hid hb
    clear hb
    go_wp2
    go_ret
    rw [HR.out]
    exact turns_in HB.out ((HL.out.grew HB.out).grew HB2.out) (Only.of_grew HB2.out) 20 rfl
  | false =>
    have HR := Lib.hid (show s.app x = Burnt s x by simp only [DS.app, Burnt, hd]; rfl)
    have H2 := Lib.hid (powered_on H1 hd 60 (enters_of Tryz.func60 (by kernel_rfl) rfl) #[.pointer (some ⟨w.heap.size, 0, none⟩), .pointer (some ⟨w.heap.size + 1, 0, none⟩)] (fun r w' => r = ((s.app x).2 : Int) ∧ ∃ A' c', DQ w' R A' c' (s.app x).1 ∧ Only (FD R A) W w' ∧ ∀ k, FD R A' k → FD R A k ∨ W.heap.size ≤ k)
      ((l_Append1 H1 w.heap.size (w.heap.size + 1) Ax Lx cx x HI.out.1 HI.out.2.2.1 (HI.out.2.2.2.below' HB.out) HI.out.2.1 HP.out HN.out).mono (by rintro e w' ⟨rfl, h1⟩; exact ⟨_, rfl, by rw [HR.out], by rw [HR.out]; exact h1⟩)))
    clear H1 hd
    go_wp2_with fail
    refine H2.out.mono ?_
    rintro e w' ⟨r, rfl, rfl, hq⟩
    have HQ := Lib.hid hq
    clear hq
    go_wp2
    go_ret
    exact turns_of HB.out HQ.out _ rfl
end

/-- The landed disk. -/
def lDisk : DiskK where
  Pl := PlQ
  keep := fun ⟨A, c, h, e⟩ ho hF => ⟨A, c, h.only ho (fun k hk => hF k (by rw [e]; exact hk)), e⟩
  lt := fun ⟨A, c, h, e⟩ k hk => h.lt k (by rw [← e]; exact hk)
  sy := fun ⟨A, c, h, _⟩ => h.sy
  new := d_New
  app := fun A L c x ⟨_, _, h, e⟩ hL hLc hl hA _ => by subst e; exact d_Append h A L c x hL hLc hl hA
  sync := fun ⟨_, _, h, e⟩ => by subst e; exact d_Sync h
  cut := fun n ⟨_, _, h, e⟩ hn => by subst e; exact d_Cut h n hn
  fuse := fun n ⟨_, _, h, e⟩ hn => by subst e; exact d_Fuse h n hn
  crash := fun n ⟨_, _, h, e⟩ hn => by subst e; exact d_Crash h n hn
  restart := fun ⟨_, _, h, e⟩ => by subst e; exact d_Restart h
  bytes := fun ⟨_, _, h, _⟩ => d_Bytes h
  synced := fun ⟨_, _, h, _⟩ => d_Synced h
  isdead := fun ⟨_, _, h, _⟩ => d_Dead h
end Go.Proofs.YtdiihaeelcbjbaaGreatDoor

-- DqT
namespace Go.Proofs.YtdiihaeelcbjbaaGreatDoor
open Go.RowKit

section
variable {w : World} {R c : Nat} {A : Option Addr} {s : DS}
theorem DQ.bit (h : DQ w R A c s) (i : Nat) (hi : i < s.A.length) (x : UInt8) : ∃ g cur, A = some ⟨g, 0, none⟩ ∧ w.heap[g]? = some (.cells cur 5 (0, 0)) ∧ cur[i]? = some (enc s.A[i]) ∧
    DQ (w.setCell ⟨g, i, none⟩ (enc x)) R A c { s with A := s.A.set i x } ∧ Only (FD R A) w (w.setCell ⟨g, i, none⟩ (enc x)) := by
  rcases h.own.2 with ⟨hv, h0⟩ | ⟨g, cap, cur, hv, hb, hc, hn, hm, hs, ht⟩
  · injection hv with _ hv _
    omega
  · injection hv with e1 _ e3
    subst e1
    subst e3
    have hci : cur[i]? = some (enc s.A[i]) := by
      have : (cur.toList.take (s.A.length * 1))[i]? = some (enc s.A[i]) := by rw [ht]; simp [hi]
      rw [List.getElem?_take_of_lt (by omega)] at this
      simpa using this
    have hne : R ≠ g := fun e => h.ne (x := g) rfl e.symm
    refine ⟨g, cur, rfl, hc, hci, ⟨?_, ?_, ?_, ?_, h.fu⟩, (Only.refl _ w).setCell (.inl (.inr ⟨g, rfl, rfl⟩)) _⟩
    · rw [blkd_keep h.blk hne]
      simp
    · refine ⟨by simp, .inr ⟨g, c, cur.setIfInBounds i (enc x), by simp, hb, blk_set hc _ _, by simpa using hn, hm, by simpa using hs, ?_⟩⟩
      show ((cur.setIfInBounds i (enc x)).toList.take ((s.A.set i x).length * 1)) = (s.A.set i x).map enc
      rw [List.length_set, Array.toList_setIfInBounds, List.take_set, ht, List.map_set]
    · simpa using h.sy
    · simpa using h.ln

theorem turn_on (s : DS) (k r q : Nat) (hd : s.dead = true) (hq : q = k / 8) (hr : k % 8 = r) (hqL : q < s.A.length) (x : UInt8) (hx : some x = s.A[q]?) : s.turn (k : Int) = ({ s with A := s.A.set q (x ^^^ (1 <<< UInt8.ofNat r)) }, 0) := by
  have h1 : ¬ (s.dead = false ∨ (k : Int) < 0 ∨ (s.A.length : Int) ≤ (k : Int) / 8) := by
    rw [hd]; simp; omega
  have h2 : s.A.getD q 0 = x := by rw [List.getD, ← hx]; rfl
  unfold DS.turn
  rw [if_neg h1, Int.toNat_natCast, ← hq, hr, h2]
theorem turn_end {k q g : Nat} {W2 : World} (h : DQ w R (some ⟨g, 0, none⟩) c s) (hq : q = k / 8) (hqL : q < s.A.length) (x : UInt8) (r m : Nat) (hm : m = (1 <<< UInt8.ofNat r : UInt8).toNat) (ht : s.turn (k : Int) = ({ s with A := s.A.set q (x ^^^ (1 <<< UInt8.ofNat r)) }, 0))
    (hW : W2 = w.setCell ⟨g, k / 8, none⟩ (.int .u8 (bits .xor .u8 (x.toNat : Int) (m : Int)))) : Turns PlQ (FD R (some ⟨g, 0, none⟩)) R w (s.turn (k : Int)) (.returned (.int .i64 0)) W2.drew := by
  have e : Value.int .u8 (bits .xor .u8 (x.toNat : Int) (m : Int)) = enc (x ^^^ (1 <<< UInt8.ofNat r)) := by
    have h1 := (1 <<< UInt8.ofNat r : UInt8).toNat_lt
    rw [hm, u8_xor_nat _ _ (by have := x.toNat_lt; omega) (by omega)]
    unfold enc
    rw [UInt8.toNat_xor]
  obtain ⟨g', cur, e', hb, hci, k1, k2⟩ := h.bit q hqL (x ^^^ (1 <<< UInt8.ofNat r))
  cases e'
  rw [ht]
  refine turns_of (s := { s with A := s.A.set q (x ^^^ (1 <<< UInt8.ofNat r)) }) (Below.refl _ w) ⟨some ⟨g, 0, none⟩, c, ?_, ?_, fun _ hk => .inl hk⟩ 0 rfl
  · rw [hW, e, ← hq]; exact k1.grew (Below.refl _ _).drew
  · rw [hW, e, ← hq]; exact k2.drew

set_option maxRecDepth 100000 in
set_option maxHeartbeats 4000000 in
theorem d_Turn (h : DQ w R A c s) (n : Int) (hn : InI5 n) : Calls Tryz.prog 37 #[.pointer (some ⟨R, 0, none⟩), .int .i64 n] w (Turns PlQ (FD R A) R w (s.turn n)) := by
  have f0 := blk_cell h.blk 0
  have f2 := blk_cell h.blk 2
  simp at f0 f2
  obtain ⟨L, hL⟩ : ∃ L, L = s.A.length := ⟨_, rfl⟩
  rw [← hL] at f0
  have hln := h.ln
  rw [← hL] at hln
  have HL := Lib.hid h
  have HLL := Lib.hid hL
  obtain ⟨hn1, hn2⟩ := hn
  cases hd : s.dead with
  | false =>
    rw [hd] at f2
    have HR := Lib.hid (show s.turn n = (s, 1) by simp [DS.turn, hd])
    clear h hL hd
    go_enter Tryz.func37, Tryz.ntmps37
    go_wp2
    go_ret
    rw [HR.out]
    exact turns_in (Below.refl _ _) HL.out (Only.refl _ _) 1 rfl
  | true =>
    rw [hd] at f2
    by_cases h0 : n < 0
    · have HR := Lib.hid (show s.turn n = (s, 1) by simp [DS.turn, h0])
      clear h hL hd
      go_enter Tryz.func37, Tryz.ntmps37
      go_wp2
      go_ret
      rw [HR.out]
      exact turns_in (Below.refl _ _) HL.out (Only.refl _ _) 1 rfl
    · obtain ⟨k, rfl⟩ := Int.eq_ofNat_of_zero_le (show 0 ≤ n by omega)
      by_cases h1 : L ≤ k / 8
      · have h1i : (L : Int) ≤ (k : Int) / 8 := by omega
        have HR := Lib.hid (show s.turn (k : Int) = (s, 1) by
          have : (s.A.length : Int) ≤ (k : Int) / 8 := by rw [← hL]; omega
          simp [DS.turn, this])
        clear h hL hd h0 h1 hn1
        go_enter Tryz.func37, Tryz.ntmps37
        go_wp2
        go_ret
        rw [HR.out]
        exact turns_in (Below.refl _ _) HL.out (Only.refl _ _) 1 rfl
      · have h1i : (k : Int) / 8 < (L : Int) := by omega
        have h1j : ¬ (L : Int) ≤ (k : Int) / 8 := by omega
        obtain ⟨q, hq⟩ : ∃ q, q = k / 8 := ⟨_, rfl⟩
        have hqL : q < s.A.length := by omega
        obtain ⟨g, cur, rfl, hb, hci, -, -⟩ := h.bit q hqL 0
        have b0 := (blk_cell hb q).trans hci
        have z0 := blk_frozen hb q
        obtain ⟨x, hx⟩ : ∃ x, some x = s.A[q]? := ⟨s.A[q], by simp [hqL]⟩
        have hx2 : s.A[q] = x := by have := hx; rw [List.getElem?_eq_getElem hqL] at this; exact (Option.some.inj this).symm
        rw [hx2] at b0
        rw [hq] at b0 z0
        simp only [Go.Proofs.YtdiihaeelcbjbaaGreatDoor.enc] at b0
        have hx256 : (x.toNat : Int) ≤ 255 := by have := x.toNat_lt; omega
        have hx0 : (0 : Int) ≤ x.toNat := by omega
        have HX := Lib.hid (And.intro hx hq)
        have HD := Lib.hid hd
        have h8 : k % 8 = 0 ∨ k % 8 = 1 ∨ k % 8 = 2 ∨ k % 8 = 3 ∨ k % 8 = 4 ∨ k % 8 = 5 ∨ k % 8 = 6 ∨ k % 8 = 7 := by omega
        clear h hL hd h0 h1 hn1 hq hb hci hx hx2 hqL
        rcases h8 with h8 | h8 | h8 | h8 | h8 | h8 | h8 | h8
        · have hri : (k : Int) % 8 = 0 := by omega
          have HR := Lib.hid (turn_on s k 0 q HD.out HX.out.2 (by omega) (by rw [← HLL.out, HX.out.2]; omega) x HX.out.1)
          clear h8
          go_enter Tryz.func37, Tryz.ntmps37
          go_upto_region 5 with (fail)
          go_region
          obtain ⟨W2, hW2⟩ : ∃ W2, W2 = w.setCell ⟨g, k / 8, none⟩ (.int .u8 (bits .xor .u8 (x.toNat : Int) 1)) := ⟨_, rfl⟩
          have HW := Lib.hid hW2
          rw [← hW2]
          clear hW2
          go_wp2
          go_ret
          exact turn_end HL.out HX.out.2 (by rw [← HLL.out, HX.out.2]; omega) x 0 1 rfl HR.out HW.out
        · have hri : (k : Int) % 8 = 1 := by omega
          have HR := Lib.hid (turn_on s k 1 q HD.out HX.out.2 (by omega) (by rw [← HLL.out, HX.out.2]; omega) x HX.out.1)
          clear h8
          go_enter Tryz.func37, Tryz.ntmps37
          go_upto_region 5 with (fail)
          go_region
          obtain ⟨W2, hW2⟩ : ∃ W2, W2 = w.setCell ⟨g, k / 8, none⟩ (.int .u8 (bits .xor .u8 (x.toNat : Int) 2)) := ⟨_, rfl⟩
          have HW := Lib.hid hW2
          rw [← hW2]
          clear hW2
          go_wp2
          go_ret
          exact turn_end HL.out HX.out.2 (by rw [← HLL.out, HX.out.2]; omega) x 1 2 rfl HR.out HW.out
        · have hri : (k : Int) % 8 = 2 := by omega
          have HR := Lib.hid (turn_on s k 2 q HD.out HX.out.2 (by omega) (by rw [← HLL.out, HX.out.2]; omega) x HX.out.1)
          clear h8
          go_enter Tryz.func37, Tryz.ntmps37
          go_upto_region 5 with (fail)
          go_region
          obtain ⟨W2, hW2⟩ : ∃ W2, W2 = w.setCell ⟨g, k / 8, none⟩ (.int .u8 (bits .xor .u8 (x.toNat : Int) 4)) := ⟨_, rfl⟩
          have HW := Lib.hid hW2
          rw [← hW2]
          clear hW2
          go_wp2
          go_ret
          exact turn_end HL.out HX.out.2 (by rw [← HLL.out, HX.out.2]; omega) x 2 4 rfl HR.out HW.out
        · have hri : (k : Int) % 8 = 3 := by omega
          have HR := Lib.hid (turn_on s k 3 q HD.out HX.out.2 (by omega) (by rw [← HLL.out, HX.out.2]; omega) x HX.out.1)
          clear h8
          go_enter Tryz.func37, Tryz.ntmps37
          go_upto_region 5 with (fail)
          go_region
          obtain ⟨W2, hW2⟩ : ∃ W2, W2 = w.setCell ⟨g, k / 8, none⟩ (.int .u8 (bits .xor .u8 (x.toNat : Int) 8)) := ⟨_, rfl⟩
          have HW := Lib.hid hW2
          rw [← hW2]
          clear hW2
          go_wp2
          go_ret
          exact turn_end HL.out HX.out.2 (by rw [← HLL.out, HX.out.2]; omega) x 3 8 rfl HR.out HW.out
        · have hri : (k : Int) % 8 = 4 := by omega
          have HR := Lib.hid (turn_on s k 4 q HD.out HX.out.2 (by omega) (by rw [← HLL.out, HX.out.2]; omega) x HX.out.1)
          clear h8
          go_enter Tryz.func37, Tryz.ntmps37
          go_upto_region 5 with (fail)
          go_region
          obtain ⟨W2, hW2⟩ : ∃ W2, W2 = w.setCell ⟨g, k / 8, none⟩ (.int .u8 (bits .xor .u8 (x.toNat : Int) 16)) := ⟨_, rfl⟩
          have HW := Lib.hid hW2
          rw [← hW2]
          clear hW2
          go_wp2
          go_ret
          exact turn_end HL.out HX.out.2 (by rw [← HLL.out, HX.out.2]; omega) x 4 16 rfl HR.out HW.out
        · have hri : (k : Int) % 8 = 5 := by omega
          have HR := Lib.hid (turn_on s k 5 q HD.out HX.out.2 (by omega) (by rw [← HLL.out, HX.out.2]; omega) x HX.out.1)
          clear h8
          go_enter Tryz.func37, Tryz.ntmps37
          go_upto_region 5 with (fail)
          go_region
          obtain ⟨W2, hW2⟩ : ∃ W2, W2 = w.setCell ⟨g, k / 8, none⟩ (.int .u8 (bits .xor .u8 (x.toNat : Int) 32)) := ⟨_, rfl⟩
          have HW := Lib.hid hW2
          rw [← hW2]
          clear hW2
          go_wp2
          go_ret
          exact turn_end HL.out HX.out.2 (by rw [← HLL.out, HX.out.2]; omega) x 5 32 rfl HR.out HW.out
        · have hri : (k : Int) % 8 = 6 := by omega
          have HR := Lib.hid (turn_on s k 6 q HD.out HX.out.2 (by omega) (by rw [← HLL.out, HX.out.2]; omega) x HX.out.1)
          clear h8
          go_enter Tryz.func37, Tryz.ntmps37
          go_upto_region 5 with (fail)
          go_region
          obtain ⟨W2, hW2⟩ : ∃ W2, W2 = w.setCell ⟨g, k / 8, none⟩ (.int .u8 (bits .xor .u8 (x.toNat : Int) 64)) := ⟨_, rfl⟩
          have HW := Lib.hid hW2
          rw [← hW2]
          clear hW2
          go_wp2
          go_ret
          exact turn_end HL.out HX.out.2 (by rw [← HLL.out, HX.out.2]; omega) x 6 64 rfl HR.out HW.out
        · have hri : (k : Int) % 8 = 7 := by omega
          have HR := Lib.hid (turn_on s k 7 q HD.out HX.out.2 (by omega) (by rw [← HLL.out, HX.out.2]; omega) x HX.out.1)
          clear h8
          go_enter Tryz.func37, Tryz.ntmps37
          go_upto_region 5 with (fail)
          go_region
          obtain ⟨W2, hW2⟩ : ∃ W2, W2 = w.setCell ⟨g, k / 8, none⟩ (.int .u8 (bits .xor .u8 (x.toNat : Int) 128)) := ⟨_, rfl⟩
          have HW := Lib.hid hW2
          rw [← hW2]
          clear hW2
          go_wp2
          go_ret
          exact turn_end HL.out HX.out.2 (by rw [← HLL.out, HX.out.2]; omega) x 7 128 rfl HR.out HW.out
end
theorem lTurn : TurnK lDisk := fun _ _ _ _ n ⟨_, _, h, e⟩ hn => by subst e; exact d_Turn h n hn
end Go.Proofs.YtdiihaeelcbjbaaGreatDoor
