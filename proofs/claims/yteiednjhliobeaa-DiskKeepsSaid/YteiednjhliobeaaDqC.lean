/- The program's disk keeps the contracts that the walks ask of it. -/
import Derived.Test.YteiednjhliobeaaDqB
import Derived.Test.YteiednjhliobeaaMakeCopy
namespace Go.Proofs.Yteiednjhliobeaa
open Go.RowKit

/-- How a disk of the program lies, and its blocks. -/
def PlQ (F : Nat → Prop) (w : World) (R : Nat) (s : DS) : Prop := ∃ A c, DQ w R A c s ∧ F = FD R A

/-- The world behind the boxing of a disk's address and a value. -/
theorem boxedD (w : World) (v u : Value) (t : TypeId) :
    ((w.alloc (.cells #[v] 25)).alloc (.cells #[u] t)).heap[w.heap.size]? = some (.cells #[v] 25 (0, 0)) ∧
    ((w.alloc (.cells #[v] 25)).alloc (.cells #[u] t)).heap[w.heap.size + 1]? = some (.cells #[u] t (0, 0)) ∧
    Below w.heap.size w ((w.alloc (.cells #[v] 25)).alloc (.cells #[u] t)) := by
  have h1 := World.alloc_heap_new w (.cells #[v] 25)
  have h2 := World.alloc_heap_new (w.alloc (.cells #[v] 25)) (.cells #[u] t)
  refine ⟨(Below.heap_alloc _ _ _ (by simp)).trans h1, by simpa using h2, ((Below.refl _ w).alloc (Nat.le_refl _) _).alloc (by simp) _⟩

section
variable {w : World} {R c : Nat} {A : Option Addr} {s : DS}
/-- From what a closure does in a world that only grew to what the call does. -/
theorem turns_of {W w' : World} (hb : Below w.heap.size w W) (h : ∃ A' c', DQ w' R A' c' s ∧ Only (FD R A) W w' ∧ ∀ k, FD R A' k → FD R A k ∨ W.heap.size ≤ k) (r : Nat) {e : Ending} (he : e = .returned (.int .i64 (r : Int))) : Turns PlQ (FD R A) R w (s, r) e w' := by
  obtain ⟨A', c', h1, h2, h3⟩ := h
  refine ⟨he, FD R A', ⟨A', c', h1, rfl⟩, (Only.of_grew hb).trans h2 (fun x hx => .inl hx), fun k hk => (h3 k hk).imp id (fun h => Nat.le_trans hb.size h)⟩
theorem turns_in {W w' : World} (hb : Below w.heap.size w W) (h : DQ w' R A c s) (ho : Only (fun k => k = R) W w') (r : Nat) {e : Ending} (he : e = .returned (.int .i64 (r : Int))) : Turns PlQ (FD R A) R w (s, r) e w' :=
  turns_of hb ⟨A, c, h, ho.mono (fun _ _ hx => .inl hx), fun _ hk => .inl hk⟩ r he
end

set_option maxHeartbeats 2000000 in
theorem d_New (w : World) : Calls Try.prog 6 #[] w fun e W' => ∃ F R, e = .returned (.pointer (some ⟨R, 0, none⟩)) ∧ PlQ F W' R DS.new ∧ (∀ k, F k → w.heap.size ≤ k) ∧ Below w.heap.size w W' := by
  go_enter Try.func6, Try.ntmps6
  go_wp2
  have hb := World.alloc_heap_new w (.cells #[.slice none 0 0, .int .i64 0, .bool false, .bool false, .int .i64 0] 38)
  go_ret
  refine ⟨FD w.heap.size none, _, rfl, ⟨none, 0, ⟨hb, World.ownsRow_nil _ _ _ _, Nat.le_refl _, Nat.zero_le _, Nat.zero_le _⟩, rfl⟩, ?_, (Below.refl _ w).alloc (Nat.le_refl _) _⟩
  rintro k (rfl | ⟨g, h, _⟩)
  · exact Nat.le_refl _
  · cases h

set_option maxHeartbeats 2000000 in
theorem d_Restart {w : World} {R c : Nat} {A : Option Addr} {s : DS} (h : DQ w R A c s) : Calls Try.prog 17 #[.pointer (some ⟨R, 0, none⟩)] w (Turns PlQ (FD R A) R w s.restart) := by
  have f2 := blk_cell h.blk 2
  simp at f2
  have z2 := blk_frozen h.blk 2
  have HL := Lib.hid h
  clear h
  go_enter Try.func17, Try.ntmps17
  go_wp2
  have ho := (Only.refl (fun k => k = R) w).setCell (p := ⟨R, 2, none⟩) (.inl rfl) (.bool false)
  have hq := HL.out.moved { s with dead := false } ((blk_set HL.out.blk 2 _).trans rfl) rfl HL.out.sy HL.out.fu ho
  go_ret
  exact turns_in (Below.refl _ _) hq ho 0 rfl

set_option maxHeartbeats 2000000 in
theorem d_Synced {w : World} {R c : Nat} {A : Option Addr} {s : DS} (h : DQ w R A c s) : Calls Try.prog 10 #[.pointer (some ⟨R, 0, none⟩)] w fun e W' => e = .returned (.int .i64 (s.y : Int)) ∧ Below w.heap.size w W' := by
  have f1 := blk_cell h.blk 1
  simp at f1
  obtain ⟨y, hy⟩ : ∃ y, y = s.y := ⟨_, rfl⟩
  rw [← hy] at f1 ⊢
  clear h hy
  go_enter Try.func10, Try.ntmps10
  go_wp2
  go_ret
  exact ⟨rfl, Below.refl _ _⟩

set_option maxHeartbeats 2000000 in
theorem d_Dead {w : World} {R c : Nat} {A : Option Addr} {s : DS} (h : DQ w R A c s) : Calls Try.prog 8 #[.pointer (some ⟨R, 0, none⟩)] w fun e W' => e = .returned (.bool s.dead) ∧ Below w.heap.size w W' := by
  have f2 := blk_cell h.blk 2
  simp at f2
  obtain ⟨y, hy⟩ : ∃ y, y = s.dead := ⟨_, rfl⟩
  rw [← hy] at f2 ⊢
  clear h hy
  go_enter Try.func8, Try.ntmps8
  go_wp2
  go_ret
  exact ⟨rfl, Below.refl _ _⟩

set_option maxHeartbeats 4000000 in
theorem d_Bytes {w : World} {R c : Nat} {A : Option Addr} {s : DS} (h : DQ w R A c s) : Calls Try.prog 7 #[.pointer (some ⟨R, 0, none⟩)] w fun e W' => ∃ v L, e = .returned v ∧ W'.ownsRow w.heap.size 5 1 v L (s.A.map enc) ∧ Below w.heap.size w W' := by
  have f0 := blk_cell h.blk 0
  simp at f0
  obtain ⟨x, hx⟩ : ∃ y, y = s.A := ⟨_, rfl⟩
  obtain ⟨L, hL⟩ : ∃ y, y = x.length := ⟨_, rfl⟩
  have hown := h.own
  have hl := h.ln
  rw [← hx] at f0 hown hl ⊢
  rw [← hL] at f0 hown hl
  have hR := (Array.getElem?_eq_some_iff.1 h.blk).1
  have f1 : (w.alloc (.cells (Array.replicate L (.int .u8 0)) 5)).cell? ⟨R, 0, none⟩ = some (.slice A L c) := (World.cell?_alloc_lt w _ _ hR).trans f0
  have hA := (HasA.of_own hown).alloc (Nat.le_refl _) (.cells (Array.replicate L (.int .u8 0)) 5)
  have hnew := World.alloc_heap_new w (.cells (Array.replicate L (.int .u8 0)) 5)
  have hb := (Below.refl _ w).alloc (Nat.le_refl _) (.cells (Array.replicate L (.int .u8 0)) 5)
  obtain ⟨W2, hr, ⟨cur', hb2, hcp⟩, hgr⟩ := run_copy_into (w.alloc (.cells (Array.replicate L (.int .u8 0)) 5)) w.heap.size 0 L c 5 A w.heap.size x (Array.replicate L (.int .u8 0)) hnew (by rw [← hL]; simp) hA
  rw [← hL] at hr
  have e2 : cur' = (x.map enc).toArray := by
    apply Array.ext_getElem?
    intro i
    by_cases hi : i < x.length
    · have := hcp.2.1 i hi
      rw [Nat.zero_add] at this
      rw [this]; simp [hi]
    · rw [Array.getElem?_eq_none (by rw [hcp.1]; simp; rw [hL]; omega), Array.getElem?_eq_none (by simp; omega)]
  rw [e2] at hb2
  have B2 := Lib.hid (hb.grown hgr hb.size (fun k e => by cases e; exact Nat.le_refl _))
  have HN := Lib.hid hb2
  have HX := Lib.hid hL
  clear h hx hL hown hR hA hnew hb hb2 hcp hgr e2
  go_enter Try.func7, Try.ntmps7
  go_wp2_with (first
    | (at_make; refine wpList_make_n rfl (.tmp 10) (.tmp 10) rfl L rfl rfl hl ?_)
    | (refine wpList_copy_run rfl (.tmp 12) (.tmp 16) _ rfl _ _ _ rfl rfl W2 hr ?_)
    | fail)
  go_ret
  refine ⟨_, L, rfl, ⟨by rw [HX.out]; simp, .inr ⟨w.heap.size, L, _, rfl, Nat.le_refl _, HN.out, Nat.le_refl _, by simp only [maxLen]; omega, by rw [HX.out]; simp, ?_⟩⟩, B2.out⟩
  rw [Nat.mul_one, HX.out]
  simp
  exact List.take_of_length_le (by simp)

section
variable {w : World} {R c : Nat} {A : Option Addr} {s : DS}

set_option maxHeartbeats 2000000 in
theorem d_Sync (h : DQ w R A c s) : Calls Try.prog 12 #[.pointer (some ⟨R, 0, none⟩)] w (Turns PlQ (FD R A) R w s.sync) := by
  have hP := World.alloc_heap_new w (.cells #[.pointer (some ⟨R, 0, none⟩)] 25)
  have hB := (Below.refl _ w).alloc (Nat.le_refl _) (.cells #[.pointer (some ⟨R, 0, none⟩)] 25)
  have HL := Lib.hid h
  clear h
  go_enter Try.func12, Try.ntmps12
  go_upto_region 1 with (fail)
  obtain ⟨W, hW⟩ : ∃ W, W = w.alloc (.cells #[.pointer (some ⟨R, 0, none⟩)] 25) := ⟨_, rfl⟩
  rw [← hW] at hP hB ⊢
  have p0 := blk_cell hP 0
  simp at p0
  have HP := Lib.hid hP
  have HB := Lib.hid hB
  clear hW hP hB
  have H1 := HL.out.grew HB.out
  cases hd : s.dead with
  | true =>
    have HR := Lib.hid (show s.sync = (s, 20) by simp [DS.sync, hd])
    have H2 := Lib.hid (powered_off H1 hd (.func (.func 22) #[] #[.pointer (some ⟨w.heap.size, 0, none⟩)]))
    clear H1 hd
    go_wp2_with fail
    refine H2.out.mono ?_
    rintro e w' ⟨rfl, hb⟩
    have HB2 := Lib.hid hb
    clear hb
    go_wp2
    go_ret
    rw [HR.out]
    exact turns_in HB.out ((HL.out.grew HB.out).grew HB2.out) (Only.of_grew HB2.out) 20 rfl
  | false =>
    have HR := Lib.hid (show s.sync = ({ s with y := s.A.length }, 0) by simp [DS.sync, hd])
    have H2 := Lib.hid (powered_on H1 hd 22 (enters_of Try.func22 (by kernel_rfl) rfl) #[.pointer (some ⟨w.heap.size, 0, none⟩)] (fun r w' => r = 0 ∧ DQ w' R A c { s with y := s.A.length } ∧ Only (fun k => k = R) W w')
      ((l_Sync1 H1 w.heap.size HP.out).mono (by rintro e w' ⟨rfl, h1, h2⟩; exact ⟨0, rfl, rfl, h1, h2⟩)))
    clear H1 hd
    go_wp2_with fail
    refine H2.out.mono ?_
    rintro e w' ⟨r, rfl, rfl, hq⟩
    have HQ := Lib.hid hq
    clear hq
    go_wp2
    go_ret
    rw [HR.out]
    exact turns_in HB.out HQ.out.1 HQ.out.2 0 rfl

set_option maxHeartbeats 2000000 in
theorem d_Cut (h : DQ w R A c s) (n : Int) (hn : InI5 n) : Calls Try.prog 14 #[.pointer (some ⟨R, 0, none⟩), .int .i64 n] w (Turns PlQ (FD R A) R w (s.cut n)) := by
  obtain ⟨hP, hN, hB⟩ := boxedD w (.pointer (some ⟨R, 0, none⟩)) (.int .i64 n) 3
  have HL := Lib.hid h
  have HI := Lib.hid hn
  clear h hn
  go_enter Try.func14, Try.ntmps14
  go_upto_region 1 with (fail)
  obtain ⟨W, hW⟩ : ∃ W, W = (w.alloc (.cells #[.pointer (some ⟨R, 0, none⟩)] 25)).alloc (.cells #[.int .i64 n] 3) := ⟨_, rfl⟩
  rw [← hW] at hP hN hB ⊢
  have p0 := blk_cell hP 0
  have n0 := blk_cell hN 0
  simp at p0 n0
  have HP := Lib.hid hP
  have HN := Lib.hid hN
  have HB := Lib.hid hB
  clear hW hP hN hB
  have H1 := HL.out.grew HB.out
  cases hd : s.dead with
  | true =>
    have HR := Lib.hid (show s.cut n = (s, 20) by simp [DS.cut, hd])
    have H2 := Lib.hid (powered_off H1 hd (.func (.func 25) #[] #[.pointer (some ⟨w.heap.size + 1, 0, none⟩), .pointer (some ⟨w.heap.size, 0, none⟩)]))
    clear H1 hd
    go_wp2_with fail
    refine H2.out.mono ?_
    rintro e w' ⟨rfl, hb⟩
    have HB2 := Lib.hid hb
    clear hb
    go_wp2
    go_ret
    rw [HR.out]
    exact turns_in HB.out ((HL.out.grew HB.out).grew HB2.out) (Only.of_grew HB2.out) 20 rfl
  | false =>
    have H2 := Lib.hid (powered_on H1 hd 25 (enters_of Try.func25 (by kernel_rfl) rfl) #[.pointer (some ⟨w.heap.size + 1, 0, none⟩), .pointer (some ⟨w.heap.size, 0, none⟩)] (fun r w' => r = ((s.cut n).2 : Int) ∧ DQ w' R A c (s.cut n).1 ∧ Only (fun k => k = R) W w')
      ((l_Cut1 H1 w.heap.size (w.heap.size + 1) n HI.out HP.out HN.out hd).mono (by rintro e w' ⟨rfl, h1, h2⟩; exact ⟨_, rfl, rfl, h1, h2⟩)))
    clear H1 hd
    go_wp2_with fail
    refine H2.out.mono ?_
    rintro e w' ⟨r, rfl, rfl, hq⟩
    have HQ := Lib.hid hq
    clear hq
    go_wp2
    go_ret
    exact turns_in HB.out HQ.out.1 HQ.out.2 _ rfl

set_option maxHeartbeats 2000000 in
theorem d_Crash (h : DQ w R A c s) (n : Int) (hn : InI5 n) : Calls Try.prog 13 #[.pointer (some ⟨R, 0, none⟩), .int .i64 n] w (Turns PlQ (FD R A) R w (s.crash n)) := by
  obtain ⟨hP, hN, hB⟩ := boxedD w (.pointer (some ⟨R, 0, none⟩)) (.int .i64 n) 3
  have HL := Lib.hid h
  have HI := Lib.hid hn
  clear h hn
  go_enter Try.func13, Try.ntmps13
  go_upto_region 1 with (fail)
  obtain ⟨W, hW⟩ : ∃ W, W = (w.alloc (.cells #[.pointer (some ⟨R, 0, none⟩)] 25)).alloc (.cells #[.int .i64 n] 3) := ⟨_, rfl⟩
  rw [← hW] at hP hN hB ⊢
  have p0 := blk_cell hP 0
  have n0 := blk_cell hN 0
  simp at p0 n0
  have HP := Lib.hid hP
  have HN := Lib.hid hN
  have HB := Lib.hid hB
  clear hW hP hN hB
  have H1 := HL.out.grew HB.out
  cases hd : s.dead with
  | true =>
    have HR := Lib.hid (show s.crash n = (s, 20) by simp [DS.crash, hd])
    have H2 := Lib.hid (powered_off H1 hd (.func (.func 23) #[] #[.pointer (some ⟨w.heap.size + 1, 0, none⟩), .pointer (some ⟨w.heap.size, 0, none⟩)]))
    clear H1 hd
    go_wp2_with fail
    refine H2.out.mono ?_
    rintro e w' ⟨rfl, hb⟩
    have HB2 := Lib.hid hb
    clear hb
    go_wp2
    go_ret
    rw [HR.out]
    exact turns_in HB.out ((HL.out.grew HB.out).grew HB2.out) (Only.of_grew HB2.out) 20 rfl
  | false =>
    have H2 := Lib.hid (powered_on H1 hd 23 (enters_of Try.func23 (by kernel_rfl) rfl) #[.pointer (some ⟨w.heap.size + 1, 0, none⟩), .pointer (some ⟨w.heap.size, 0, none⟩)] (fun r w' => r = ((s.crash n).2 : Int) ∧ DQ w' R A c (s.crash n).1 ∧ Only (fun k => k = R) W w')
      ((l_Crash1 H1 w.heap.size (w.heap.size + 1) n HI.out HP.out HN.out hd).mono (by rintro e w' ⟨rfl, h1, h2⟩; exact ⟨_, rfl, rfl, h1, h2⟩)))
    clear H1 hd
    go_wp2_with fail
    refine H2.out.mono ?_
    rintro e w' ⟨r, rfl, rfl, hq⟩
    have HQ := Lib.hid hq
    clear hq
    go_wp2
    go_ret
    exact turns_in HB.out HQ.out.1 HQ.out.2 _ rfl

set_option maxHeartbeats 2000000 in
theorem d_Fuse (h : DQ w R A c s) (n : Int) (hn : InI5 n) : Calls Try.prog 15 #[.pointer (some ⟨R, 0, none⟩), .int .i64 n] w (Turns PlQ (FD R A) R w (s.fuse n)) := by
  obtain ⟨hP, hN, hB⟩ := boxedD w (.pointer (some ⟨R, 0, none⟩)) (.int .i64 n) 3
  have HL := Lib.hid h
  have HI := Lib.hid hn
  clear h hn
  go_enter Try.func15, Try.ntmps15
  go_upto_region 1 with (fail)
  obtain ⟨W, hW⟩ : ∃ W, W = (w.alloc (.cells #[.pointer (some ⟨R, 0, none⟩)] 25)).alloc (.cells #[.int .i64 n] 3) := ⟨_, rfl⟩
  rw [← hW] at hP hN hB ⊢
  have p0 := blk_cell hP 0
  have n0 := blk_cell hN 0
  simp at p0 n0
  have HP := Lib.hid hP
  have HN := Lib.hid hN
  have HB := Lib.hid hB
  clear hW hP hN hB
  have H1 := HL.out.grew HB.out
  cases hd : s.dead with
  | true =>
    have HR := Lib.hid (show s.fuse n = (s, 20) by simp [DS.fuse, hd])
    have H2 := Lib.hid (powered_off H1 hd (.func (.func 26) #[] #[.pointer (some ⟨w.heap.size + 1, 0, none⟩), .pointer (some ⟨w.heap.size, 0, none⟩)]))
    clear H1 hd
    go_wp2_with fail
    refine H2.out.mono ?_
    rintro e w' ⟨rfl, hb⟩
    have HB2 := Lib.hid hb
    clear hb
    go_wp2
    go_ret
    rw [HR.out]
    exact turns_in HB.out ((HL.out.grew HB.out).grew HB2.out) (Only.of_grew HB2.out) 20 rfl
  | false =>
    have HR := Lib.hid (show s.fuse n = ({ s with f := if n < 0 then none else some n.toNat }, 0) by simp [DS.fuse, hd])
    have H2 := Lib.hid (powered_on H1 hd 26 (enters_of Try.func26 (by kernel_rfl) rfl) #[.pointer (some ⟨w.heap.size + 1, 0, none⟩), .pointer (some ⟨w.heap.size, 0, none⟩)] (fun r w' => r = ((s.fuse n).2 : Int) ∧ DQ w' R A c (s.fuse n).1 ∧ Only (fun k => k = R) W w')
      ((l_Fuse1 H1 w.heap.size (w.heap.size + 1) n HI.out HP.out HN.out).mono (by rintro e w' ⟨rfl, h1, h2⟩; exact ⟨_, rfl, by rw [HR.out]; rfl, by rw [HR.out]; exact h1, h2⟩)))
    clear H1 hd
    go_wp2_with fail
    refine H2.out.mono ?_
    rintro e w' ⟨r, rfl, rfl, hq⟩
    have HQ := Lib.hid hq
    clear hq
    go_wp2
    go_ret
    exact turns_in HB.out HQ.out.1 HQ.out.2 _ rfl

set_option maxHeartbeats 2000000 in
theorem d_Append (h : DQ w R A c s) (Ax : Option Addr) (Lx cx : Nat) (x : List UInt8) (hL : Lx = x.length) (hLc : Lx ≤ cx) (hl : s.A.length + x.length ≤ 1000000000) (hA : HasA w w.heap.size Ax x) : Calls Try.prog 11 #[.pointer (some ⟨R, 0, none⟩), .slice Ax Lx cx] w (Turns PlQ (FD R A) R w (s.app x)) := by
  obtain ⟨hP, hN, hB⟩ := boxedD w (.pointer (some ⟨R, 0, none⟩)) (.slice Ax Lx cx) 27
  have HL := Lib.hid h
  have HI := Lib.hid (And.intro hL (And.intro hLc (And.intro hl hA)))
  clear h hL hLc hl hA
  go_enter Try.func11, Try.ntmps11
  go_upto_region 1 with (fail)
  obtain ⟨W, hW⟩ : ∃ W, W = (w.alloc (.cells #[.pointer (some ⟨R, 0, none⟩)] 25)).alloc (.cells #[.slice Ax Lx cx] 27) := ⟨_, rfl⟩
  rw [← hW] at hP hN hB ⊢
  have p0 := blk_cell hP 0
  have n0 := blk_cell hN 0
  simp at p0 n0
  have HP := Lib.hid hP
  have HN := Lib.hid hN
  have HB := Lib.hid hB
  clear hW hP hN hB
  have H1 := HL.out.grew HB.out
  cases hd : s.dead with
  | true =>
    have HR := Lib.hid (show s.app x = (s, 20) by simp [DS.app, hd])
    have H2 := Lib.hid (powered_off H1 hd (.func (.func 19) #[] #[.pointer (some ⟨w.heap.size, 0, none⟩), .pointer (some ⟨w.heap.size + 1, 0, none⟩)]))
    clear H1 hd
    go_wp2_with fail
    refine H2.out.mono ?_
    rintro e w' ⟨rfl, hb⟩
    have HB2 := Lib.hid hb
    clear hb
    go_wp2
    go_ret
    rw [HR.out]
    exact turns_in HB.out ((HL.out.grew HB.out).grew HB2.out) (Only.of_grew HB2.out) 20 rfl
  | false =>
    have HR := Lib.hid (show s.app x = Burnt s x by simp only [DS.app, Burnt, hd]; rfl)
    have H2 := Lib.hid (powered_on H1 hd 19 (enters_of Try.func19 (by kernel_rfl) rfl) #[.pointer (some ⟨w.heap.size, 0, none⟩), .pointer (some ⟨w.heap.size + 1, 0, none⟩)] (fun r w' => r = ((s.app x).2 : Int) ∧ ∃ A' c', DQ w' R A' c' (s.app x).1 ∧ Only (FD R A) W w' ∧ ∀ k, FD R A' k → FD R A k ∨ W.heap.size ≤ k)
      ((l_Append1 H1 w.heap.size (w.heap.size + 1) Ax Lx cx x HI.out.1 HI.out.2.2.1 (HI.out.2.2.2.below' HB.out) HI.out.2.1 HP.out HN.out).mono (by rintro e w' ⟨rfl, h1⟩; exact ⟨_, rfl, by rw [HR.out], by rw [HR.out]; exact h1⟩)))
    clear H1 hd
    go_wp2_with fail
    refine H2.out.mono ?_
    rintro e w' ⟨r, rfl, rfl, hq⟩
    have HQ := Lib.hid hq
    clear hq
    go_wp2
    go_ret
    exact turns_of HB.out HQ.out _ rfl
end

/-- The landed disk. -/
def lDisk : DiskK where
  Pl := PlQ
  keep := fun ⟨A, c, h, e⟩ ho hF => ⟨A, c, h.only ho (fun k hk => hF k (by rw [e]; exact hk)), e⟩
  lt := fun ⟨A, c, h, e⟩ k hk => h.lt k (by rw [← e]; exact hk)
  sy := fun ⟨A, c, h, _⟩ => h.sy
  new := d_New
  app := fun A L c x ⟨_, _, h, e⟩ hL hLc hl hA _ => by subst e; exact d_Append h A L c x hL hLc hl hA
  sync := fun ⟨_, _, h, e⟩ => by subst e; exact d_Sync h
  cut := fun n ⟨_, _, h, e⟩ hn => by subst e; exact d_Cut h n hn
  fuse := fun n ⟨_, _, h, e⟩ hn => by subst e; exact d_Fuse h n hn
  crash := fun n ⟨_, _, h, e⟩ hn => by subst e; exact d_Crash h n hn
  restart := fun ⟨_, _, h, e⟩ => by subst e; exact d_Restart h
  bytes := fun ⟨_, _, h, _⟩ => d_Bytes h
  synced := fun ⟨_, _, h, _⟩ => d_Synced h
  isdead := fun ⟨_, _, h, _⟩ => d_Dead h
end Go.Proofs.Yteiednjhliobeaa
