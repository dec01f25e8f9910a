/- read: the update that a record is. -/
import Derived.Test.YtdiihaeelcbjbaaGreatDoorMSb1
import Derived.Test.YtdiihaeelcbjbaaGreatDoorBlBy
import Derived.Test.YtdiihaeelcbjbaaGreatDoorRdT
namespace Go.Proofs.YtdiihaeelcbjbaaGreatDoor
open Go.RowKit Go.Maps Go.WideMaps

theorem rd_len : ∀ (f i acc : Nat) {x rest : List UInt8} {n : Nat}, rd f i acc x = .ok n rest → rest.length ≤ x.length
  | 0, i, acc, x, rest, n, h => by
    unfold rd at h
    cases h
    exact Nat.le_refl _
  | f + 1, i, acc, [], rest, n, h => by
    unfold rd at h
    cases h
  | f + 1, i, acc, c :: bs, rest, n, h => by
    unfold rd at h
    split at h
    · cases h
    · split at h
      · cases h
        exact Nat.le_succ _
      · exact Nat.le_succ_of_le (rd_len f (i + 1) _ h)
theorem RdS.u_len (s : RdS) : s.u.2.bs.length ≤ s.bs.length := by
  by_cases h : s.e = 0
  · cases hr : rdU s.bs with
    | short => rw [RdS.u_short h hr]; exact Nat.zero_le _
    | form r => rw [RdS.u_form h hr]; exact Nat.zero_le _
    | ok n r => rw [RdS.u_ok h hr]; exact rd_len 10 0 0 hr
  · rw [RdS.u_err h]; exact Nat.zero_le _
/-- A text's limit plays no part beyond the bytes. -/
theorem RdS.t_lim {s : RdS} {a b : Nat} (ha : s.bs.length ≤ a) (hb : s.bs.length ≤ b) (h : (s.t a).2.done = 0) : s.t b = s.t a := by
  have hl := s.u_len
  unfold RdS.t at h ⊢
  by_cases he : s.u.2.e = 0
  · rw [if_pos he] at h ⊢
    rw [if_pos he]
    by_cases hn : s.u.2.bs.length < s.u.1
    · by_cases h1 : a < s.u.1
      · rw [if_pos h1] at h
        cases h
      · rw [if_neg h1, if_pos hn] at h
        cases h
    · rw [if_neg (show ¬ a < s.u.1 by omega), if_neg (show ¬ b < s.u.1 by omega)]
  · rw [if_neg he, if_neg he]
theorem takeBA_len (s : RdS) : (takeBA s).2.bs.length ≤ s.bs.length := by
  have h1 := s.u_len
  have h2 := s.u.2.u_len
  unfold takeBA
  split
  · exact Nat.le_trans h2 h1
  · split
    · exact Nat.le_trans h2 h1
    · exact Nat.le_trans h2 h1
theorem takeBA_ok (s : RdS) : (takeBA s).1.1.ok := by
  have h1 := s.u_lt
  have h2 := s.u.2.u_lt
  unfold takeBA
  split
  · exact B0_ok
  · split
    · exact B0_ok
    · rename_i h
      exact ⟨h1, by simp only; omega, by simp only; omega⟩
/-- What a record's being an update comes to, part by part. -/
theorem readUM_some {x : List UInt8} {u : UM} (h : readUM x = some u) (hx : x.length ≤ 65536) : ∃ r1 r2 r3 r4 : RdS, (⟨0, x⟩ : RdS).u = (u.k, r1) ∧ (1 ≤ u.k ∧ u.k ≤ 3) ∧ ((u.k = 1 → u.s = 0 ∧ r2 = r1) ∧ (u.k ≠ 1 → r1.u = (u.s, r2))) ∧ ((u.k = 3 → u.b = B0 ∧ r3 = r2) ∧ (u.k ≠ 3 → takeBA r2 = ((u.b, 0), r3))) ∧ ((u.k = 1 → u.x = [] ∧ r4 = r3) ∧ (u.k ≠ 1 → r3.t 65536 = (u.x, r4))) ∧ r4.done = 0 ∧ u.s < 18446744073709551616 ∧ u.b.ok ∧ u.x.length ≤ 65536 := by
  unfold readUM at h
  have l0 := (⟨0, x⟩ : RdS).u_len
  obtain ⟨⟨k, r1⟩, e1⟩ : ∃ p, p = (⟨0, x⟩ : RdS).u := ⟨_, rfl⟩
  rw [← e1] at h l0
  simp only at h l0
  split at h
  · cases h
  rename_i hk
  obtain ⟨⟨n, r2⟩, e2⟩ : ∃ p, p = if k = 1 then (0, r1) else r1.u := ⟨_, rfl⟩
  rw [← e2] at h
  have l1 : r2.bs.length ≤ r1.bs.length ∧ n < 18446744073709551616 := by
    split at e2
    · cases e2
      exact ⟨Nat.le_refl _, by decide⟩
    · have h1 := r1.u_len
      have h2 := r1.u_lt
      rw [← e2] at h1 h2
      exact ⟨h1, h2⟩
  simp only at h
  obtain ⟨⟨⟨b, eb⟩, r3⟩, e3⟩ : ∃ p, p = if k = 3 then ((B0, 0), r2) else takeBA r2 := ⟨_, rfl⟩
  rw [← e3] at h
  have l2 : r3.bs.length ≤ r2.bs.length ∧ b.ok := by
    split at e3
    · cases e3
      exact ⟨Nat.le_refl _, B0_ok⟩
    · have h1 := takeBA_len r2
      have h2 := takeBA_ok r2
      rw [← e3] at h1 h2
      exact ⟨h1, h2⟩
  simp only at h
  split at h
  · cases h
  rename_i hb
  have hb0 : eb = 0 := Decidable.not_not.1 hb
  subst hb0
  obtain ⟨⟨t, r4⟩, e4⟩ : ∃ p, p = if k = 1 then ([], r3) else r3.t x.length := ⟨_, rfl⟩
  rw [← e4] at h
  simp only at h
  split at h
  · cases h
  rename_i hd
  have hd0 : r4.done = 0 := Decidable.not_not.1 hd
  cases h
  have hl3 : r3.bs.length ≤ x.length := by have : (⟨0, x⟩ : RdS).bs.length = x.length := rfl; omega
  refine ⟨r1, r2, r3, r4, e1.symm, by simp only; omega, ⟨fun e => ?_, fun e => ?_⟩, ⟨fun e => ?_, fun e => ?_⟩, ⟨fun e => ?_, fun e => ?_⟩, hd0, l1.2, l2.2, ?_⟩
  · simp only at e
    rw [if_pos e] at e2
    cases e2
    exact ⟨rfl, rfl⟩
  · simp only at e
    rw [if_neg e] at e2
    exact e2.symm
  · simp only at e
    rw [if_pos e] at e3
    cases e3
    exact ⟨rfl, rfl⟩
  · simp only at e
    rw [if_neg e] at e3
    exact e3.symm
  · simp only at e
    rw [if_pos e] at e4
    cases e4
    exact ⟨rfl, rfl⟩
  · simp only at e
    rw [if_neg e] at e4
    have h4 : (r3.t x.length).2.done = 0 := by rw [← e4]; exact hd0
    rw [RdS.t_lim hl3 (by omega) h4]
    exact e4.symm
  · simp only
    split at e4
    · cases e4
      exact Nat.zero_le _
    · have h1 := r3.u_len
      unfold RdS.t at e4
      split at e4
      · split at e4
        · cases e4; exact Nat.zero_le _
        · split at e4
          · cases e4; exact Nat.zero_le _
          · cases e4
            rw [List.length_take]
            omega
      · cases e4; exact Nat.zero_le _
/-- A reader, the result's block, the update's. -/
structure RdI (w : World) (g q R : Nat) (u : UM) (rs : RdS) (W : World) : Prop where
  below : Below w.heap.size w W
  kg : W.heap[g]? = some (.cells #[.int .u64 0, .int .u64 0, .int .u64 0, .int .i64 0, .string ⟨#[]⟩] 91 (0, 0))
  kq : W.heap[q]? = some (.cells (cellsU u) 91 (0, 0))
  rd : RdQ W R 65536 rs
  ne : g ≠ q ∧ g ≠ R ∧ q ≠ R
  new : w.heap.size ≤ g ∧ w.heap.size ≤ q ∧ w.heap.size ≤ R
section
variable {w W W' : World} {g q R : Nat} {u : UM} {rs rs' : RdS}
theorem RdI.grew (h : RdI w g q R u rs W) (hb : Below W.heap.size W W') : RdI w g q R u rs W' :=
  ⟨h.below.trans (Below.mono hb h.below.size), (hb.block g (Array.getElem?_eq_some_iff.1 h.kg).1).trans h.kg, (hb.block q (Array.getElem?_eq_some_iff.1 h.kq).1).trans h.kq, h.rd.below hb, h.ne, h.new⟩
theorem RdI.read (h : RdI w g q R u rs W) (hr : RdQ W' R 65536 rs') (hg : W.grownBy W' (some R)) : RdI w g q R u rs' W' :=
  ⟨h.below.grown hg h.below.size (fun k e => by cases e; exact h.new.2.2), (hg.block g (Array.getElem?_eq_some_iff.1 h.kg).1 (fun e => h.ne.2.1 (by cases e; rfl))).trans h.kg, (hg.block q (Array.getElem?_eq_some_iff.1 h.kq).1 (fun e => h.ne.2.2 (by cases e; rfl))).trans h.kq, hr, h.ne, h.new⟩
theorem RdI.set (h : RdI w g q R u rs W) (i : Nat) (v : Value) (u' : UM) (hu : cellsU u' = (cellsU u).setIfInBounds i v) : RdI w g q R u' rs (W.setCell ⟨q, i, none⟩ v) :=
  ⟨h.below.setCell (p := ⟨q, i, none⟩) h.new.2.1 _, (Below.heap_setCell _ _ _ _ (fun e => h.ne.1 (by simpa using e))).trans h.kg, by rw [hu]; exact blk_set h.kq i v, h.rd.sameK (SameT.set (i := i) h.kq v) (by decide) (by decide), h.ne, h.new⟩
end
theorem set5 {W : World} {g : Nat} {a0 a1 a2 a3 a4 : Value} {t : TypeId} (k : W.heap[g]? = some (.cells #[a0, a1, a2, a3, a4] t (0, 0))) (x0 x1 x2 x3 x4 : Value) {V : World} (hV : V = ((((W.setCell ⟨g, 0, none⟩ x0).setCell ⟨g, 1, none⟩ x1).setCell ⟨g, 2, none⟩ x2).setCell ⟨g, 3, none⟩ x3).setCell ⟨g, 4, none⟩ x4) :
    V.cell? ⟨g, 0, none⟩ = some x0 ∧ V.cell? ⟨g, 1, none⟩ = some x1 ∧ V.cell? ⟨g, 2, none⟩ = some x2 ∧ V.cell? ⟨g, 3, none⟩ = some x3 ∧ V.cell? ⟨g, 4, none⟩ = some x4 ∧ Only (fun k => k = g) W V := by
  have k4 : V.heap[g]? = some (.cells #[x0, x1, x2, x3, x4] t (0, 0)) := by
    rw [hV]
    exact blk_set (blk_set (blk_set (blk_set (blk_set k 0 x0) 1 x1) 2 x2) 3 x3) 4 x4
  refine ⟨blk_cell k4 0, blk_cell k4 1, blk_cell k4 2, blk_cell k4 3, blk_cell k4 4, ?_⟩
  rw [hV]
  exact (((((Only.refl (fun k => k = g) W).setCell (p := ⟨g, 0, none⟩) (.inl rfl) _).setCell (p := ⟨g, 1, none⟩) (.inl rfl) _).setCell (p := ⟨g, 2, none⟩) (.inl rfl) _).setCell (p := ⟨g, 3, none⟩) (.inl rfl) _).setCell (p := ⟨g, 4, none⟩) (.inl rfl) _
set_option maxRecDepth 100000 in
set_option maxHeartbeats 8000000 in
theorem read_c {w : World} {x : List UInt8} {u : UM} (h : readUM x = some u) (hx : x.length ≤ 65536) (A : Option Addr) (L c : Nat) (hL : L = x.length) (hA : HasA w w.heap.size A x) :
    Calls Tryz.prog 43 #[.slice A L c] w fun e W' => e = .returned (.tuple #[valU u, .bool true]) ∧ Below w.heap.size w W' := by
  obtain ⟨r1, r2, r3, r4, e1, hk, ⟨e2a, e2b⟩, ⟨e3a, e3b⟩, ⟨e4a, e4b⟩, e5, -⟩ := readUM_some h hx
  have hS := fun (v : UM) (W : World) => hasSlot_any v W
  have hB := fun (v : UM) (W : World) => hasBallot_any v W
  have hkl : u.k < 18446744073709551616 := by omega
  obtain ⟨k, us, ub, ux⟩ := u
  simp only [valU, cellsU] at *
  have HS0 := Lib.hid hS
  have HB0 := Lib.hid hB
  have HX := Lib.hid (And.intro hL (And.intro (show x.length ≤ 1000000 by omega) hA))
  have HE1 := Lib.hid e1
  have HK := Lib.hid (And.intro (show k = k from rfl) (And.intro hkl hk))
  have HD4 := Lib.hid e5
  have hk3 : k = 1 ∨ k = 2 ∨ k = 3 := by omega
  clear hS hB hL hA e1 e5 hkl h hx hk
  go_enter Tryz.func43, Tryz.ntmps43
  go_upto_region 1 with (fail)
  obtain ⟨W0, hW0⟩ : ∃ W0, W0 = w.alloc (.cells #[.int .u64 0, .int .u64 0, .int .u64 0, .int .i64 0, .string ⟨#[]⟩] 91) := ⟨_, rfl⟩
  rw [← hW0]
  obtain ⟨g, hg⟩ : ∃ p, p = w.heap.size := ⟨_, rfl⟩
  have b0 : Below w.heap.size w W0 := by rw [hW0]; exact (Below.refl _ w).alloc (Nat.le_refl _) _
  have k0 : W0.heap[g]? = some (.cells #[.int .u64 0, .int .u64 0, .int .u64 0, .int .i64 0, .string ⟨#[]⟩] 91 (0, 0)) := by rw [hW0, hg]; exact World.alloc_heap_new w _
  rw [← hg]
  have HN := Lib.hid (NewR_q (lim := 65536) A L c x HX.out.1 HX.out.2.1 (HX.out.2.2.below' b0))
  have H0 := Lib.hid (And.intro b0 (And.intro k0 (show w.heap.size ≤ g by omega)))
  clear hW0 b0 k0 hg
  go_wp2_with fail
  refine HN.out.mono ?_
  rintro e W1 ⟨R, rfl, q1, hR, b1⟩
  have HQ1 := Lib.hid q1
  have H1 := Lib.hid (And.intro b1 hR)
  clear q1 hR b1 HN
  go_wp2_with fail
  refine (UintR_q HQ1.out).mono ?_
  rintro e W2 ⟨rfl, q2, g2⟩
  rw [HE1.out] at q2 ⊢
  simp only at q2 ⊢
  have HQ2 := Lib.hid (And.intro q2 g2)
  clear q2 g2
  go_upto_region 3 with (fail)
  obtain ⟨W3, hW3⟩ : ∃ W3, W3 = W2.alloc (.cells #[.int .u64 (k : Int), .int .u64 0, .int .u64 0, .int .i64 0, .string ⟨#[]⟩] 91) := ⟨_, rfl⟩
  rw [← hW3]
  obtain ⟨q, hq⟩ : ∃ p, p = W2.heap.size := ⟨_, rfl⟩
  rw [← hq]
  have S3 := Lib.hid (show RdI w g q R ⟨k, 0, B0, []⟩ r1 W3 from by
    have s0 := H0.out.1.size
    have s1 := H1.out.1.size
    have s2 := HQ2.out.2.size
    have hgl := (Array.getElem?_eq_some_iff.1 H0.out.2.1).1
    have hRl := HQ1.out.lt
    have hR := H1.out.2
    have b3 : Below W2.heap.size W2 W3 := by rw [hW3]; exact (Below.refl _ W2).alloc (Nat.le_refl _) _
    have kg1 := (H1.out.1.block g hgl).trans H0.out.2.1
    have kg2 := (HQ2.out.2.block g (Array.getElem?_eq_some_iff.1 kg1).1 (fun e => by have := Option.some.inj e; omega)).trans kg1
    have kg3 := (b3.block g (Array.getElem?_eq_some_iff.1 kg2).1).trans kg2
    have bw1 := H0.out.1.trans (Below.mono H1.out.1 s0)
    have bw2 := bw1.grown HQ2.out.2 bw1.size (fun k e => by cases e; omega)
    have kq : W3.heap[q]? = some (.cells #[.int .u64 (k : Int), .int .u64 0, .int .u64 0, .int .i64 0, .string ⟨#[]⟩] 91 (0, 0)) := by rw [hW3, hq]; exact World.alloc_heap_new W2 _
    exact ⟨bw2.trans (Below.mono b3 bw2.size), kg3, kq, HQ2.out.1.below b3, by omega, by have := H0.out.2.2; omega⟩)
  clear hW3 hq HQ2 HQ1 H1 H0 HE1
  rcases hk3 with hk3 | hk3 | hk3
  · -- kind 1
    have HSG := Lib.hid (show ∀ (v1 v2 v3 v4 v5 : Value) (hv : ∃ v : UM, v.k = k ∧ #[v1, v2, v3, v4, v5] = cellsU v) (W : World), Calls Tryz.prog 71 #[.agg #[v1, v2, v3, v4, v5]] W fun e W' => e = .returned (.bool false) ∧ Below W.heap.size W W' from fun v1 v2 v3 v4 v5 ⟨v, h1, h2⟩ W => by rw [h2]; exact (HS0.out v W).mono fun e W' ⟨h3, h4⟩ => ⟨by rw [h3, h1, hk3]; rfl, h4⟩)
    have HBG := Lib.hid (show ∀ (v1 v2 v3 v4 v5 : Value) (hv : ∃ v : UM, v.k = k ∧ #[v1, v2, v3, v4, v5] = cellsU v) (W : World), Calls Tryz.prog 72 #[.agg #[v1, v2, v3, v4, v5]] W fun e W' => e = .returned (.bool true) ∧ Below W.heap.size W W' from fun v1 v2 v3 v4 v5 ⟨v, h1, h2⟩ W => by rw [h2]; exact (HB0.out v W).mono fun e W' ⟨h3, h4⟩ => ⟨by rw [h3, h1, hk3]; rfl, h4⟩)
    obtain ⟨rfl, rfl⟩ := e2a hk3
    obtain ⟨rfl, rfl⟩ := e4a hk3
    have HR3 := Lib.hid (e3b (by omega))
    have HDD := HD4
    clear e2a e2b e3a e3b e4a e4b hk3
    go_upto_region 3 with (fail)
    have c0 := (blk_cell S3.out.kq 0).trans (show _ = some (.int .u64 (k : Int)) from rfl)
    have c1 := (blk_cell S3.out.kq 1).trans (show _ = some (.int .u64 0) from rfl)
    have c2 := (blk_cell S3.out.kq 2).trans (show _ = some (.int .u64 0) from rfl)
    have c3 := (blk_cell S3.out.kq 3).trans (show _ = some (.int .i64 0) from rfl)
    have c4 := (blk_cell S3.out.kq 4).trans (show _ = some (.string ⟨#[]⟩) from rfl)
    have u0 := blk_frozen S3.out.kq 0
    have u1 := blk_frozen S3.out.kq 1
    have u2 := blk_frozen S3.out.kq 2
    have u3 := blk_frozen S3.out.kq 3
    have u4 := blk_frozen S3.out.kq 4
    go_wp2_with fail
    refine (HSG.out _ _ _ _ _ ⟨⟨k, 0, B0, []⟩, rfl, rfl⟩ _).mono ?_
    rintro e W4 ⟨rfl, b4⟩
    have S4 := Lib.hid (S3.out.grew b4)
    clear c0 c1 c2 c3 c4 u0 u1 u2 u3 u4 b4 S3
    go_upto_region 5 with (fail)
    have c0 := (blk_cell S4.out.kq 0).trans (show _ = some (.int .u64 (k : Int)) from rfl)
    have c1 := (blk_cell S4.out.kq 1).trans (show _ = some (.int .u64 0) from rfl)
    have c2 := (blk_cell S4.out.kq 2).trans (show _ = some (.int .u64 0) from rfl)
    have c3 := (blk_cell S4.out.kq 3).trans (show _ = some (.int .i64 0) from rfl)
    have c4 := (blk_cell S4.out.kq 4).trans (show _ = some (.string ⟨#[]⟩) from rfl)
    have u0 := blk_frozen S4.out.kq 0
    have u1 := blk_frozen S4.out.kq 1
    have u2 := blk_frozen S4.out.kq 2
    have u3 := blk_frozen S4.out.kq 3
    have u4 := blk_frozen S4.out.kq 4
    go_wp2_with fail
    refine (HBG.out _ _ _ _ _ ⟨⟨k, 0, B0, []⟩, rfl, rfl⟩ _).mono ?_
    rintro e W5 ⟨rfl, b5⟩
    have S5 := Lib.hid (S4.out.grew b5)
    clear c0 c1 c2 c3 c4 u0 u1 u2 u3 u4 b5 S4
    have hr3 := HR3.out
    go_upto_region 6 with (fail)
    go_wp2_with fail
    refine (takeBA_any S5.out.rd).mono ?_
    rintro e W6 ⟨rfl, q6, g6⟩
    have S6 := Lib.hid (S5.out.read q6 g6)
    clear q6 g6 S5
    rw [hr3] at S6 ⊢
    simp only at S6 ⊢
    go_upto_region 7 with (fail)
    obtain ⟨W7, hW7⟩ : ∃ V, V = W6.alloc (.cells #[.int .u64 (ub.n : Int), .int .i64 ub.r] 25) := ⟨_, rfl⟩
    rw [← hW7]
    obtain ⟨b7, kb, _⟩ := boxBA hW7
    obtain ⟨pb, hpb⟩ : ∃ p, p = W6.heap.size := ⟨_, rfl⟩
    rw [← hpb] at kb ⊢
    have d0 : W7.cell? ⟨pb, 0, none⟩ = some (.int .u64 (ub.n : Int)) := blk_cell kb 0
    have d1 : W7.cell? ⟨pb, 1, none⟩ = some (.int .i64 ub.r) := blk_cell kb 1
    have S7 := Lib.hid (S6.out.grew b7)
    clear hW7 b7 kb hpb S6 hr3
    have c0 := (blk_cell S7.out.kq 0).trans (show _ = some (.int .u64 (k : Int)) from rfl)
    have c1 := (blk_cell S7.out.kq 1).trans (show _ = some (.int .u64 0) from rfl)
    have c2 := (blk_cell S7.out.kq 2).trans (show _ = some (.int .u64 0) from rfl)
    have c3 := (blk_cell S7.out.kq 3).trans (show _ = some (.int .i64 0) from rfl)
    have c4 := (blk_cell S7.out.kq 4).trans (show _ = some (.string ⟨#[]⟩) from rfl)
    have u0 := blk_frozen S7.out.kq 0
    have u1 := blk_frozen S7.out.kq 1
    have u2 := blk_frozen S7.out.kq 2
    have u3 := blk_frozen S7.out.kq 3
    have u4 := blk_frozen S7.out.kq 4
    go_upto_region 10 with (fail)
    obtain ⟨W8, hW8⟩ : ∃ V, V = (W7.setCell ⟨q, 2, none⟩ (.int .u64 (ub.n : Int))).setCell ⟨q, 3, none⟩ (.int .i64 ub.r) := ⟨_, rfl⟩
    rw [← hW8]
    have S8 := Lib.hid (show RdI w g q R ⟨k, 0, ub, []⟩ r4 W8 by rw [hW8]; exact (S7.out.set 2 (.int .u64 (ub.n : Int)) ⟨k, 0, ⟨ub.n, 0⟩, []⟩ rfl).set 3 _ _ rfl)
    clear hW8 S7 d0 d1
    clear c0 c1 c2 c3 c4 u0 u1 u2 u3 u4
    go_upto_region 10 with (fail)
    have c0 := (blk_cell S8.out.kq 0).trans (show _ = some (.int .u64 (k : Int)) from rfl)
    have c1 := (blk_cell S8.out.kq 1).trans (show _ = some (.int .u64 0) from rfl)
    have c2 := (blk_cell S8.out.kq 2).trans (show _ = some (.int .u64 (ub.n : Int)) from rfl)
    have c3 := (blk_cell S8.out.kq 3).trans (show _ = some (.int .i64 ub.r) from rfl)
    have c4 := (blk_cell S8.out.kq 4).trans (show _ = some (.string ⟨#[]⟩) from rfl)
    have u0 := blk_frozen S8.out.kq 0
    have u1 := blk_frozen S8.out.kq 1
    have u2 := blk_frozen S8.out.kq 2
    have u3 := blk_frozen S8.out.kq 3
    have u4 := blk_frozen S8.out.kq 4
    go_wp2_with fail
    refine (HSG.out _ _ _ _ _ ⟨⟨k, 0, ub, []⟩, rfl, rfl⟩ _).mono ?_
    rintro e W9 ⟨rfl, b9⟩
    have S9 := Lib.hid (S8.out.grew b9)
    clear c0 c1 c2 c3 c4 u0 u1 u2 u3 u4 b9 S8
    go_upto_region 12 with (fail)
    have y0 : W9.cell? ⟨q, 0, none⟩ = some (.int .u64 (k : Int)) := blk_cell S9.out.kq 0
    have HE := Lib.hid (effects_any W9.drew)
    go_region_with (refine HE.out.mono ?_; rintro e V1 ⟨eb, rfl, h3⟩; have H3 := Lib.hid h3; have y0' := (h3.below.cell (p := ⟨q, 0, none⟩) (show q < W9.drew.heap.size from (Array.getElem?_eq_some_iff.1 S9.out.kq).1)).trans y0; obtain ⟨en, hem⟩ := h3.map; obtain ⟨fv, hlook⟩ := hem.is k HK.out.2.1; rw [show decide (1 ≤ k ∧ k ≤ 3) = true from decide_eq_true HK.out.2.2] at hlook; clear h3 hem)
    all_goals
      have S90 := Lib.hid (S9.out.grew (show Below W9.heap.size W9 V1 from Grew.undraw H3.out.below))
      have HDN := Lib.hid (DoneR_q S90.out.rd)
      clear y0 y0' hlook HE H3 S9
      go_upto_region 13 with (fail)
      go_wp2_with fail
      refine HDN.out.mono ?_
      rintro e V2 ⟨rfl, g91⟩
      have hk91 := (g91.block g (Array.getElem?_eq_some_iff.1 S90.out.kg).1 (fun e => S90.out.ne.2.1 (by cases e; rfl))).trans S90.out.kg
      have hq91 := (g91.block q (Array.getElem?_eq_some_iff.1 S90.out.kq).1 (fun e => S90.out.ne.2.2 (by cases e; rfl))).trans S90.out.kq
      have hb91 := S90.out.below.grown g91 S90.out.below.size (fun k e => by cases e; exact S90.out.new.2.2)
      have hdn := HDD.out
      rw [hdn]
      have c0 : V2.cell? ⟨q, 0, none⟩ = some (.int .u64 (k : Int)) := blk_cell hq91 0
      have c1 : V2.cell? ⟨q, 1, none⟩ = some (.int .u64 0) := blk_cell hq91 1
      have c2 : V2.cell? ⟨q, 2, none⟩ = some (.int .u64 (ub.n : Int)) := blk_cell hq91 2
      have c3 : V2.cell? ⟨q, 3, none⟩ = some (.int .i64 ub.r) := blk_cell hq91 3
      have c4 : V2.cell? ⟨q, 4, none⟩ = some (.string ⟨#[]⟩) := blk_cell hq91 4
      have e0 : V2.cell? ⟨g, 0, none⟩ = some (.int .u64 0) := blk_cell hk91 0
      have e1 : V2.cell? ⟨g, 1, none⟩ = some (.int .u64 0) := blk_cell hk91 1
      have e2 : V2.cell? ⟨g, 2, none⟩ = some (.int .u64 0) := blk_cell hk91 2
      have e3 : V2.cell? ⟨g, 3, none⟩ = some (.int .i64 0) := blk_cell hk91 3
      have e4 : V2.cell? ⟨g, 4, none⟩ = some (.string ⟨#[]⟩) := blk_cell hk91 4
      have u0 := blk_frozen hk91 0
      have u1 := blk_frozen hk91 1
      have u2 := blk_frozen hk91 2
      have u3 := blk_frozen hk91 3
      have u4 := blk_frozen hk91 4
      obtain ⟨V5, hV5⟩ : ∃ V5, V5 = ((((V2.setCell ⟨g, 0, none⟩ (.int .u64 (k : Int))).setCell ⟨g, 1, none⟩ (.int .u64 0)).setCell ⟨g, 2, none⟩ (.int .u64 (ub.n : Int))).setCell ⟨g, 3, none⟩ (.int .i64 ub.r)).setCell ⟨g, 4, none⟩ (.string ⟨#[]⟩) := ⟨_, rfl⟩
      obtain ⟨f0, f1, f2, f3, f4, o5⟩ := set5 hk91 _ _ _ _ _ hV5
      have HF := Lib.hid (hb91.trans (o5.below hb91.size (fun k e => by rw [e]; exact S90.out.new.1)))
      clear hk91 hq91 hb91 o5 g91 hdn HDN
      go_wp2
      rw [← hV5]
      exact bodyPost_ret (v := .tuple #[.agg #[.int .u64 (k : Int), .int .u64 0, .int .u64 (ub.n : Int), .int .i64 ub.r, .string ⟨#[]⟩], .bool true]) (by simp [results, Tryz.results43, go_sem, f0, f1, f2, f3, f4]) rfl ⟨rfl, HF.out⟩
  · -- kind 2
    have HSG := Lib.hid (show ∀ (v1 v2 v3 v4 v5 : Value) (hv : ∃ v : UM, v.k = k ∧ #[v1, v2, v3, v4, v5] = cellsU v) (W : World), Calls Tryz.prog 71 #[.agg #[v1, v2, v3, v4, v5]] W fun e W' => e = .returned (.bool true) ∧ Below W.heap.size W W' from fun v1 v2 v3 v4 v5 ⟨v, h1, h2⟩ W => by rw [h2]; exact (HS0.out v W).mono fun e W' ⟨h3, h4⟩ => ⟨by rw [h3, h1, hk3]; rfl, h4⟩)
    have HBG := Lib.hid (show ∀ (v1 v2 v3 v4 v5 : Value) (hv : ∃ v : UM, v.k = k ∧ #[v1, v2, v3, v4, v5] = cellsU v) (W : World), Calls Tryz.prog 72 #[.agg #[v1, v2, v3, v4, v5]] W fun e W' => e = .returned (.bool true) ∧ Below W.heap.size W W' from fun v1 v2 v3 v4 v5 ⟨v, h1, h2⟩ W => by rw [h2]; exact (HB0.out v W).mono fun e W' ⟨h3, h4⟩ => ⟨by rw [h3, h1, hk3]; rfl, h4⟩)
    have HR2 := Lib.hid (e2b (by omega))
    have HR4 := Lib.hid (e4b (by omega))
    have HR3 := Lib.hid (e3b (by omega))
    have HDD := HD4
    clear e2a e2b e3a e3b e4a e4b hk3
    go_upto_region 3 with (fail)
    have c0 := (blk_cell S3.out.kq 0).trans (show _ = some (.int .u64 (k : Int)) from rfl)
    have c1 := (blk_cell S3.out.kq 1).trans (show _ = some (.int .u64 0) from rfl)
    have c2 := (blk_cell S3.out.kq 2).trans (show _ = some (.int .u64 0) from rfl)
    have c3 := (blk_cell S3.out.kq 3).trans (show _ = some (.int .i64 0) from rfl)
    have c4 := (blk_cell S3.out.kq 4).trans (show _ = some (.string ⟨#[]⟩) from rfl)
    have u0 := blk_frozen S3.out.kq 0
    have u1 := blk_frozen S3.out.kq 1
    have u2 := blk_frozen S3.out.kq 2
    have u3 := blk_frozen S3.out.kq 3
    have u4 := blk_frozen S3.out.kq 4
    go_wp2_with fail
    refine (HSG.out _ _ _ _ _ ⟨⟨k, 0, B0, []⟩, rfl, rfl⟩ _).mono ?_
    rintro e W4 ⟨rfl, b4⟩
    have S4 := Lib.hid (S3.out.grew b4)
    clear c0 c1 c2 c3 c4 u0 u1 u2 u3 u4 b4 S3
    have hr2 := HR2.out
    go_upto_region 4 with (fail)
    go_wp2_with fail
    refine (UintR_q S4.out.rd).mono ?_
    rintro e W5 ⟨rfl, q5, g5⟩
    have S5 := Lib.hid (S4.out.read q5 g5)
    clear q5 g5 S4
    rw [hr2] at S5 ⊢
    simp only at S5 ⊢
    have c0 := (blk_cell S5.out.kq 0).trans (show _ = some (.int .u64 (k : Int)) from rfl)
    have c1 := (blk_cell S5.out.kq 1).trans (show _ = some (.int .u64 0) from rfl)
    have c2 := (blk_cell S5.out.kq 2).trans (show _ = some (.int .u64 0) from rfl)
    have c3 := (blk_cell S5.out.kq 3).trans (show _ = some (.int .i64 0) from rfl)
    have c4 := (blk_cell S5.out.kq 4).trans (show _ = some (.string ⟨#[]⟩) from rfl)
    have u0 := blk_frozen S5.out.kq 0
    have u1 := blk_frozen S5.out.kq 1
    have u2 := blk_frozen S5.out.kq 2
    have u3 := blk_frozen S5.out.kq 3
    have u4 := blk_frozen S5.out.kq 4
    go_upto_region 5 with (fail)
    obtain ⟨W6, hW6⟩ : ∃ V, V = W5.setCell ⟨q, 1, none⟩ (.int .u64 (us : Int)) := ⟨_, rfl⟩
    rw [← hW6]
    have S6 := Lib.hid (show RdI w g q R ⟨k, us, B0, []⟩ r2 W6 by rw [hW6]; exact S5.out.set 1 _ _ rfl)
    clear hW6 S5 hr2
    clear c0 c1 c2 c3 c4 u0 u1 u2 u3 u4
    go_upto_region 5 with (fail)
    have c0 := (blk_cell S6.out.kq 0).trans (show _ = some (.int .u64 (k : Int)) from rfl)
    have c1 := (blk_cell S6.out.kq 1).trans (show _ = some (.int .u64 (us : Int)) from rfl)
    have c2 := (blk_cell S6.out.kq 2).trans (show _ = some (.int .u64 0) from rfl)
    have c3 := (blk_cell S6.out.kq 3).trans (show _ = some (.int .i64 0) from rfl)
    have c4 := (blk_cell S6.out.kq 4).trans (show _ = some (.string ⟨#[]⟩) from rfl)
    have u0 := blk_frozen S6.out.kq 0
    have u1 := blk_frozen S6.out.kq 1
    have u2 := blk_frozen S6.out.kq 2
    have u3 := blk_frozen S6.out.kq 3
    have u4 := blk_frozen S6.out.kq 4
    go_wp2_with fail
    refine (HBG.out _ _ _ _ _ ⟨⟨k, us, B0, []⟩, rfl, rfl⟩ _).mono ?_
    rintro e W7 ⟨rfl, b7⟩
    have S7 := Lib.hid (S6.out.grew b7)
    clear c0 c1 c2 c3 c4 u0 u1 u2 u3 u4 b7 S6
    have hr3 := HR3.out
    go_upto_region 6 with (fail)
    go_wp2_with fail
    refine (takeBA_any S7.out.rd).mono ?_
    rintro e W8 ⟨rfl, q8, g8⟩
    have S8 := Lib.hid (S7.out.read q8 g8)
    clear q8 g8 S7
    rw [hr3] at S8 ⊢
    simp only at S8 ⊢
    go_upto_region 7 with (fail)
    obtain ⟨W9, hW9⟩ : ∃ V, V = W8.alloc (.cells #[.int .u64 (ub.n : Int), .int .i64 ub.r] 25) := ⟨_, rfl⟩
    rw [← hW9]
    obtain ⟨b9, kb, _⟩ := boxBA hW9
    obtain ⟨pb, hpb⟩ : ∃ p, p = W8.heap.size := ⟨_, rfl⟩
    rw [← hpb] at kb ⊢
    have d0 : W9.cell? ⟨pb, 0, none⟩ = some (.int .u64 (ub.n : Int)) := blk_cell kb 0
    have d1 : W9.cell? ⟨pb, 1, none⟩ = some (.int .i64 ub.r) := blk_cell kb 1
    have S9 := Lib.hid (S8.out.grew b9)
    clear hW9 b9 kb hpb S8 hr3
    have c0 := (blk_cell S9.out.kq 0).trans (show _ = some (.int .u64 (k : Int)) from rfl)
    have c1 := (blk_cell S9.out.kq 1).trans (show _ = some (.int .u64 (us : Int)) from rfl)
    have c2 := (blk_cell S9.out.kq 2).trans (show _ = some (.int .u64 0) from rfl)
    have c3 := (blk_cell S9.out.kq 3).trans (show _ = some (.int .i64 0) from rfl)
    have c4 := (blk_cell S9.out.kq 4).trans (show _ = some (.string ⟨#[]⟩) from rfl)
    have u0 := blk_frozen S9.out.kq 0
    have u1 := blk_frozen S9.out.kq 1
    have u2 := blk_frozen S9.out.kq 2
    have u3 := blk_frozen S9.out.kq 3
    have u4 := blk_frozen S9.out.kq 4
    go_upto_region 10 with (fail)
    obtain ⟨W10, hW10⟩ : ∃ V, V = (W9.setCell ⟨q, 2, none⟩ (.int .u64 (ub.n : Int))).setCell ⟨q, 3, none⟩ (.int .i64 ub.r) := ⟨_, rfl⟩
    rw [← hW10]
    have S10 := Lib.hid (show RdI w g q R ⟨k, us, ub, []⟩ r3 W10 by rw [hW10]; exact (S9.out.set 2 (.int .u64 (ub.n : Int)) ⟨k, us, ⟨ub.n, 0⟩, []⟩ rfl).set 3 _ _ rfl)
    clear hW10 S9 d0 d1
    clear c0 c1 c2 c3 c4 u0 u1 u2 u3 u4
    go_upto_region 10 with (fail)
    have c0 := (blk_cell S10.out.kq 0).trans (show _ = some (.int .u64 (k : Int)) from rfl)
    have c1 := (blk_cell S10.out.kq 1).trans (show _ = some (.int .u64 (us : Int)) from rfl)
    have c2 := (blk_cell S10.out.kq 2).trans (show _ = some (.int .u64 (ub.n : Int)) from rfl)
    have c3 := (blk_cell S10.out.kq 3).trans (show _ = some (.int .i64 ub.r) from rfl)
    have c4 := (blk_cell S10.out.kq 4).trans (show _ = some (.string ⟨#[]⟩) from rfl)
    have u0 := blk_frozen S10.out.kq 0
    have u1 := blk_frozen S10.out.kq 1
    have u2 := blk_frozen S10.out.kq 2
    have u3 := blk_frozen S10.out.kq 3
    have u4 := blk_frozen S10.out.kq 4
    go_wp2_with fail
    refine (HSG.out _ _ _ _ _ ⟨⟨k, us, ub, []⟩, rfl, rfl⟩ _).mono ?_
    rintro e W11 ⟨rfl, b11⟩
    have S11 := Lib.hid (S10.out.grew b11)
    clear c0 c1 c2 c3 c4 u0 u1 u2 u3 u4 b11 S10
    have hr4 := HR4.out
    go_upto_region 11 with (fail)
    go_wp2_with fail
    refine (TextR_q S11.out.rd (by decide)).mono ?_
    rintro e W12 ⟨rfl, q12, g12⟩
    have S12 := Lib.hid (S11.out.read q12 g12)
    clear q12 g12 S11
    rw [hr4] at S12 ⊢
    simp only at S12 ⊢
    have c0 := (blk_cell S12.out.kq 0).trans (show _ = some (.int .u64 (k : Int)) from rfl)
    have c1 := (blk_cell S12.out.kq 1).trans (show _ = some (.int .u64 (us : Int)) from rfl)
    have c2 := (blk_cell S12.out.kq 2).trans (show _ = some (.int .u64 (ub.n : Int)) from rfl)
    have c3 := (blk_cell S12.out.kq 3).trans (show _ = some (.int .i64 ub.r) from rfl)
    have c4 := (blk_cell S12.out.kq 4).trans (show _ = some (.string ⟨#[]⟩) from rfl)
    have u0 := blk_frozen S12.out.kq 0
    have u1 := blk_frozen S12.out.kq 1
    have u2 := blk_frozen S12.out.kq 2
    have u3 := blk_frozen S12.out.kq 3
    have u4 := blk_frozen S12.out.kq 4
    go_upto_region 12 with (fail)
    obtain ⟨W13, hW13⟩ : ∃ V, V = W12.setCell ⟨q, 4, none⟩ (.string (str ux)) := ⟨_, rfl⟩
    rw [← hW13]
    have S13 := Lib.hid (show RdI w g q R ⟨k, us, ub, ux⟩ r4 W13 by rw [hW13]; exact S12.out.set 4 _ _ rfl)
    clear hW13 S12 hr4
    clear c0 c1 c2 c3 c4 u0 u1 u2 u3 u4
    go_upto_region 12 with (fail)
    have y0 : W13.cell? ⟨q, 0, none⟩ = some (.int .u64 (k : Int)) := blk_cell S13.out.kq 0
    have HE := Lib.hid (effects_any W13.drew)
    go_region_with (refine HE.out.mono ?_; rintro e V1 ⟨eb, rfl, h3⟩; have H3 := Lib.hid h3; have y0' := (h3.below.cell (p := ⟨q, 0, none⟩) (show q < W13.drew.heap.size from (Array.getElem?_eq_some_iff.1 S13.out.kq).1)).trans y0; obtain ⟨en, hem⟩ := h3.map; obtain ⟨fv, hlook⟩ := hem.is k HK.out.2.1; rw [show decide (1 ≤ k ∧ k ≤ 3) = true from decide_eq_true HK.out.2.2] at hlook; clear h3 hem)
    all_goals
      have S90 := Lib.hid (S13.out.grew (show Below W13.heap.size W13 V1 from Grew.undraw H3.out.below))
      have HDN := Lib.hid (DoneR_q S90.out.rd)
      clear y0 y0' hlook HE H3 S13
      go_upto_region 13 with (fail)
      go_wp2_with fail
      refine HDN.out.mono ?_
      rintro e V2 ⟨rfl, g91⟩
      have hk91 := (g91.block g (Array.getElem?_eq_some_iff.1 S90.out.kg).1 (fun e => S90.out.ne.2.1 (by cases e; rfl))).trans S90.out.kg
      have hq91 := (g91.block q (Array.getElem?_eq_some_iff.1 S90.out.kq).1 (fun e => S90.out.ne.2.2 (by cases e; rfl))).trans S90.out.kq
      have hb91 := S90.out.below.grown g91 S90.out.below.size (fun k e => by cases e; exact S90.out.new.2.2)
      have hdn := HDD.out
      rw [hdn]
      have c0 : V2.cell? ⟨q, 0, none⟩ = some (.int .u64 (k : Int)) := blk_cell hq91 0
      have c1 : V2.cell? ⟨q, 1, none⟩ = some (.int .u64 (us : Int)) := blk_cell hq91 1
      have c2 : V2.cell? ⟨q, 2, none⟩ = some (.int .u64 (ub.n : Int)) := blk_cell hq91 2
      have c3 : V2.cell? ⟨q, 3, none⟩ = some (.int .i64 ub.r) := blk_cell hq91 3
      have c4 : V2.cell? ⟨q, 4, none⟩ = some (.string (str ux)) := blk_cell hq91 4
      have e0 : V2.cell? ⟨g, 0, none⟩ = some (.int .u64 0) := blk_cell hk91 0
      have e1 : V2.cell? ⟨g, 1, none⟩ = some (.int .u64 0) := blk_cell hk91 1
      have e2 : V2.cell? ⟨g, 2, none⟩ = some (.int .u64 0) := blk_cell hk91 2
      have e3 : V2.cell? ⟨g, 3, none⟩ = some (.int .i64 0) := blk_cell hk91 3
      have e4 : V2.cell? ⟨g, 4, none⟩ = some (.string ⟨#[]⟩) := blk_cell hk91 4
      have u0 := blk_frozen hk91 0
      have u1 := blk_frozen hk91 1
      have u2 := blk_frozen hk91 2
      have u3 := blk_frozen hk91 3
      have u4 := blk_frozen hk91 4
      obtain ⟨V5, hV5⟩ : ∃ V5, V5 = ((((V2.setCell ⟨g, 0, none⟩ (.int .u64 (k : Int))).setCell ⟨g, 1, none⟩ (.int .u64 (us : Int))).setCell ⟨g, 2, none⟩ (.int .u64 (ub.n : Int))).setCell ⟨g, 3, none⟩ (.int .i64 ub.r)).setCell ⟨g, 4, none⟩ (.string (str ux)) := ⟨_, rfl⟩
      obtain ⟨f0, f1, f2, f3, f4, o5⟩ := set5 hk91 _ _ _ _ _ hV5
      have HF := Lib.hid (hb91.trans (o5.below hb91.size (fun k e => by rw [e]; exact S90.out.new.1)))
      clear hk91 hq91 hb91 o5 g91 hdn HDN
      go_wp2
      rw [← hV5]
      exact bodyPost_ret (v := .tuple #[.agg #[.int .u64 (k : Int), .int .u64 (us : Int), .int .u64 (ub.n : Int), .int .i64 ub.r, .string (str ux)], .bool true]) (by simp [results, Tryz.results43, go_sem, f0, f1, f2, f3, f4]) rfl ⟨rfl, HF.out⟩
  · -- kind 3
    have HSG := Lib.hid (show ∀ (v1 v2 v3 v4 v5 : Value) (hv : ∃ v : UM, v.k = k ∧ #[v1, v2, v3, v4, v5] = cellsU v) (W : World), Calls Tryz.prog 71 #[.agg #[v1, v2, v3, v4, v5]] W fun e W' => e = .returned (.bool true) ∧ Below W.heap.size W W' from fun v1 v2 v3 v4 v5 ⟨v, h1, h2⟩ W => by rw [h2]; exact (HS0.out v W).mono fun e W' ⟨h3, h4⟩ => ⟨by rw [h3, h1, hk3]; rfl, h4⟩)
    have HBG := Lib.hid (show ∀ (v1 v2 v3 v4 v5 : Value) (hv : ∃ v : UM, v.k = k ∧ #[v1, v2, v3, v4, v5] = cellsU v) (W : World), Calls Tryz.prog 72 #[.agg #[v1, v2, v3, v4, v5]] W fun e W' => e = .returned (.bool false) ∧ Below W.heap.size W W' from fun v1 v2 v3 v4 v5 ⟨v, h1, h2⟩ W => by rw [h2]; exact (HB0.out v W).mono fun e W' ⟨h3, h4⟩ => ⟨by rw [h3, h1, hk3]; rfl, h4⟩)
    have HR2 := Lib.hid (e2b (by omega))
    have HR4 := Lib.hid (e4b (by omega))
    obtain ⟨rfl, rfl⟩ := e3a hk3
    have HDD := HD4
    clear e2a e2b e3a e3b e4a e4b hk3
    go_upto_region 3 with (fail)
    have c0 := (blk_cell S3.out.kq 0).trans (show _ = some (.int .u64 (k : Int)) from rfl)
    have c1 := (blk_cell S3.out.kq 1).trans (show _ = some (.int .u64 0) from rfl)
    have c2 := (blk_cell S3.out.kq 2).trans (show _ = some (.int .u64 0) from rfl)
    have c3 := (blk_cell S3.out.kq 3).trans (show _ = some (.int .i64 0) from rfl)
    have c4 := (blk_cell S3.out.kq 4).trans (show _ = some (.string ⟨#[]⟩) from rfl)
    have u0 := blk_frozen S3.out.kq 0
    have u1 := blk_frozen S3.out.kq 1
    have u2 := blk_frozen S3.out.kq 2
    have u3 := blk_frozen S3.out.kq 3
    have u4 := blk_frozen S3.out.kq 4
    go_wp2_with fail
    refine (HSG.out _ _ _ _ _ ⟨⟨k, 0, B0, []⟩, rfl, rfl⟩ _).mono ?_
    rintro e W4 ⟨rfl, b4⟩
    have S4 := Lib.hid (S3.out.grew b4)
    clear c0 c1 c2 c3 c4 u0 u1 u2 u3 u4 b4 S3
    have hr2 := HR2.out
    go_upto_region 4 with (fail)
    go_wp2_with fail
    refine (UintR_q S4.out.rd).mono ?_
    rintro e W5 ⟨rfl, q5, g5⟩
    have S5 := Lib.hid (S4.out.read q5 g5)
    clear q5 g5 S4
    rw [hr2] at S5 ⊢
    simp only at S5 ⊢
    have c0 := (blk_cell S5.out.kq 0).trans (show _ = some (.int .u64 (k : Int)) from rfl)
    have c1 := (blk_cell S5.out.kq 1).trans (show _ = some (.int .u64 0) from rfl)
    have c2 := (blk_cell S5.out.kq 2).trans (show _ = some (.int .u64 0) from rfl)
    have c3 := (blk_cell S5.out.kq 3).trans (show _ = some (.int .i64 0) from rfl)
    have c4 := (blk_cell S5.out.kq 4).trans (show _ = some (.string ⟨#[]⟩) from rfl)
    have u0 := blk_frozen S5.out.kq 0
    have u1 := blk_frozen S5.out.kq 1
    have u2 := blk_frozen S5.out.kq 2
    have u3 := blk_frozen S5.out.kq 3
    have u4 := blk_frozen S5.out.kq 4
    go_upto_region 5 with (fail)
    obtain ⟨W6, hW6⟩ : ∃ V, V = W5.setCell ⟨q, 1, none⟩ (.int .u64 (us : Int)) := ⟨_, rfl⟩
    rw [← hW6]
    have S6 := Lib.hid (show RdI w g q R ⟨k, us, B0, []⟩ r3 W6 by rw [hW6]; exact S5.out.set 1 _ _ rfl)
    clear hW6 S5 hr2
    clear c0 c1 c2 c3 c4 u0 u1 u2 u3 u4
    go_upto_region 5 with (fail)
    have c0 := (blk_cell S6.out.kq 0).trans (show _ = some (.int .u64 (k : Int)) from rfl)
    have c1 := (blk_cell S6.out.kq 1).trans (show _ = some (.int .u64 (us : Int)) from rfl)
    have c2 := (blk_cell S6.out.kq 2).trans (show _ = some (.int .u64 0) from rfl)
    have c3 := (blk_cell S6.out.kq 3).trans (show _ = some (.int .i64 0) from rfl)
    have c4 := (blk_cell S6.out.kq 4).trans (show _ = some (.string ⟨#[]⟩) from rfl)
    have u0 := blk_frozen S6.out.kq 0
    have u1 := blk_frozen S6.out.kq 1
    have u2 := blk_frozen S6.out.kq 2
    have u3 := blk_frozen S6.out.kq 3
    have u4 := blk_frozen S6.out.kq 4
    go_wp2_with fail
    refine (HBG.out _ _ _ _ _ ⟨⟨k, us, B0, []⟩, rfl, rfl⟩ _).mono ?_
    rintro e W7 ⟨rfl, b7⟩
    have S7 := Lib.hid (S6.out.grew b7)
    clear c0 c1 c2 c3 c4 u0 u1 u2 u3 u4 b7 S6
    go_upto_region 10 with (fail)
    have c0 := (blk_cell S7.out.kq 0).trans (show _ = some (.int .u64 (k : Int)) from rfl)
    have c1 := (blk_cell S7.out.kq 1).trans (show _ = some (.int .u64 (us : Int)) from rfl)
    have c2 := (blk_cell S7.out.kq 2).trans (show _ = some (.int .u64 0) from rfl)
    have c3 := (blk_cell S7.out.kq 3).trans (show _ = some (.int .i64 0) from rfl)
    have c4 := (blk_cell S7.out.kq 4).trans (show _ = some (.string ⟨#[]⟩) from rfl)
    have u0 := blk_frozen S7.out.kq 0
    have u1 := blk_frozen S7.out.kq 1
    have u2 := blk_frozen S7.out.kq 2
    have u3 := blk_frozen S7.out.kq 3
    have u4 := blk_frozen S7.out.kq 4
    go_wp2_with fail
    refine (HSG.out _ _ _ _ _ ⟨⟨k, us, B0, []⟩, rfl, rfl⟩ _).mono ?_
    rintro e W8 ⟨rfl, b8⟩
    have S8 := Lib.hid (S7.out.grew b8)
    clear c0 c1 c2 c3 c4 u0 u1 u2 u3 u4 b8 S7
    have hr4 := HR4.out
    go_upto_region 11 with (fail)
    go_wp2_with fail
    refine (TextR_q S8.out.rd (by decide)).mono ?_
    rintro e W9 ⟨rfl, q9, g9⟩
    have S9 := Lib.hid (S8.out.read q9 g9)
    clear q9 g9 S8
    rw [hr4] at S9 ⊢
    simp only at S9 ⊢
    have c0 := (blk_cell S9.out.kq 0).trans (show _ = some (.int .u64 (k : Int)) from rfl)
    have c1 := (blk_cell S9.out.kq 1).trans (show _ = some (.int .u64 (us : Int)) from rfl)
    have c2 := (blk_cell S9.out.kq 2).trans (show _ = some (.int .u64 0) from rfl)
    have c3 := (blk_cell S9.out.kq 3).trans (show _ = some (.int .i64 0) from rfl)
    have c4 := (blk_cell S9.out.kq 4).trans (show _ = some (.string ⟨#[]⟩) from rfl)
    have u0 := blk_frozen S9.out.kq 0
    have u1 := blk_frozen S9.out.kq 1
    have u2 := blk_frozen S9.out.kq 2
    have u3 := blk_frozen S9.out.kq 3
    have u4 := blk_frozen S9.out.kq 4
    go_upto_region 12 with (fail)
    obtain ⟨W10, hW10⟩ : ∃ V, V = W9.setCell ⟨q, 4, none⟩ (.string (str ux)) := ⟨_, rfl⟩
    rw [← hW10]
    have S10 := Lib.hid (show RdI w g q R ⟨k, us, B0, ux⟩ r4 W10 by rw [hW10]; exact S9.out.set 4 _ _ rfl)
    clear hW10 S9 hr4
    clear c0 c1 c2 c3 c4 u0 u1 u2 u3 u4
    go_upto_region 12 with (fail)
    have y0 : W10.cell? ⟨q, 0, none⟩ = some (.int .u64 (k : Int)) := blk_cell S10.out.kq 0
    have HE := Lib.hid (effects_any W10.drew)
    go_region_with (refine HE.out.mono ?_; rintro e V1 ⟨eb, rfl, h3⟩; have H3 := Lib.hid h3; have y0' := (h3.below.cell (p := ⟨q, 0, none⟩) (show q < W10.drew.heap.size from (Array.getElem?_eq_some_iff.1 S10.out.kq).1)).trans y0; obtain ⟨en, hem⟩ := h3.map; obtain ⟨fv, hlook⟩ := hem.is k HK.out.2.1; rw [show decide (1 ≤ k ∧ k ≤ 3) = true from decide_eq_true HK.out.2.2] at hlook; clear h3 hem)
    all_goals
      have S90 := Lib.hid (S10.out.grew (show Below W10.heap.size W10 V1 from Grew.undraw H3.out.below))
      have HDN := Lib.hid (DoneR_q S90.out.rd)
      clear y0 y0' hlook HE H3 S10
      go_upto_region 13 with (fail)
      go_wp2_with fail
      refine HDN.out.mono ?_
      rintro e V2 ⟨rfl, g91⟩
      have hk91 := (g91.block g (Array.getElem?_eq_some_iff.1 S90.out.kg).1 (fun e => S90.out.ne.2.1 (by cases e; rfl))).trans S90.out.kg
      have hq91 := (g91.block q (Array.getElem?_eq_some_iff.1 S90.out.kq).1 (fun e => S90.out.ne.2.2 (by cases e; rfl))).trans S90.out.kq
      have hb91 := S90.out.below.grown g91 S90.out.below.size (fun k e => by cases e; exact S90.out.new.2.2)
      have hdn := HDD.out
      rw [hdn]
      have c0 : V2.cell? ⟨q, 0, none⟩ = some (.int .u64 (k : Int)) := blk_cell hq91 0
      have c1 : V2.cell? ⟨q, 1, none⟩ = some (.int .u64 (us : Int)) := blk_cell hq91 1
      have c2 : V2.cell? ⟨q, 2, none⟩ = some (.int .u64 0) := blk_cell hq91 2
      have c3 : V2.cell? ⟨q, 3, none⟩ = some (.int .i64 0) := blk_cell hq91 3
      have c4 : V2.cell? ⟨q, 4, none⟩ = some (.string (str ux)) := blk_cell hq91 4
      have e0 : V2.cell? ⟨g, 0, none⟩ = some (.int .u64 0) := blk_cell hk91 0
      have e1 : V2.cell? ⟨g, 1, none⟩ = some (.int .u64 0) := blk_cell hk91 1
      have e2 : V2.cell? ⟨g, 2, none⟩ = some (.int .u64 0) := blk_cell hk91 2
      have e3 : V2.cell? ⟨g, 3, none⟩ = some (.int .i64 0) := blk_cell hk91 3
      have e4 : V2.cell? ⟨g, 4, none⟩ = some (.string ⟨#[]⟩) := blk_cell hk91 4
      have u0 := blk_frozen hk91 0
      have u1 := blk_frozen hk91 1
      have u2 := blk_frozen hk91 2
      have u3 := blk_frozen hk91 3
      have u4 := blk_frozen hk91 4
      obtain ⟨V5, hV5⟩ : ∃ V5, V5 = ((((V2.setCell ⟨g, 0, none⟩ (.int .u64 (k : Int))).setCell ⟨g, 1, none⟩ (.int .u64 (us : Int))).setCell ⟨g, 2, none⟩ (.int .u64 0)).setCell ⟨g, 3, none⟩ (.int .i64 0)).setCell ⟨g, 4, none⟩ (.string (str ux)) := ⟨_, rfl⟩
      obtain ⟨f0, f1, f2, f3, f4, o5⟩ := set5 hk91 _ _ _ _ _ hV5
      have HF := Lib.hid (hb91.trans (o5.below hb91.size (fun k e => by rw [e]; exact S90.out.new.1)))
      clear hk91 hq91 hb91 o5 g91 hdn HDN
      go_wp2
      rw [← hV5]
      exact bodyPost_ret (v := .tuple #[.agg #[.int .u64 (k : Int), .int .u64 (us : Int), .int .u64 0, .int .i64 0, .string (str ux)], .bool true]) (by simp [results, Tryz.results43, go_sem, f0, f1, f2, f3, f4]) rfl ⟨rfl, HF.out⟩
end Go.Proofs.YtdiihaeelcbjbaaGreatDoor
