/- A pivot of a row of numbers: some place within it, and a hint. -/
import Derived.Test.YtelbgjnaceffeaaSoG
namespace Go.Proofs.Ytelbgjnaceffeaa
open Go.RowKit Go.Sort

/-- The count of exchanges: a block of its own that came since w. -/
structure SwP (w : World) (b q s : Nat) (W : World) : Prop where
  blk : W.heap[q]? = some (.cells #[.int .i64 (s : Int)] 3 (0, 0))
  lo : w.heap.size ≤ q
  ne : q ≠ b
/-- The row stands, and so does the count, which has risen by at most k. -/
def Both (w : World) (b off n : Nat) (pre rest : List Value) (d : Array Int) (q s k : Nat) (W : World) : Prop := SR w b off n pre rest d W ∧ ∃ s', s' ≤ s + k ∧ SwP w b q s' W
theorem Both.step {w W W' : World} {b off n : Nat} {pre rest : List Value} {d : Array Int} {q s k j : Nat} (h : Both w b off n pre rest d q s k W) (hf : ∀ s', s' ≤ s + k → SwP w b q s' W → Both w b off n pre rest d q s' j W') : Both w b off n pre rest d q s (k + j) W' := by
  obtain ⟨_, s', h1, h2⟩ := h
  obtain ⟨k1, s2, k2, k3⟩ := hf s' h1 h2
  exact ⟨k1, s2, by omega, k3⟩
set_option maxRecDepth 100000 in
set_option maxHeartbeats 4000000 in
theorem ord2_n {w W0 : World} {b off n : Nat} {pre rest : List Value} {d : Array Int} (cap x y q s : Nat) (hs : SR w b off n pre rest d W0) (hq : SwP w b q s W0) (hx : x < n) (hy : y < n) (_hsz : n < 1152921504606846976) (hss : s ≤ 1000) :
    Calls Try.prog 60 #[.slice (some ⟨b, off, none⟩) n cap, .int .i64 (x : Int), .int .i64 (y : Int), .pointer (some ⟨q, 0, none⟩)] W0 fun e W => ∃ u v : Nat, e = .returned (.tuple #[.int .i64 (u : Int), .int .i64 (v : Int)]) ∧ (u = x ∧ v = y ∨ u = y ∧ v = x) ∧ Both w b off n pre rest d q s 1 W := by
  have HS := Lib.hid hs
  have HQ := Lib.hid hq
  obtain ⟨G, hG⟩ : ∃ G : Nat → Int, ∀ t, G t = d[t]! := ⟨fun t => d[t]!, fun _ => rfl⟩
  have HG := Lib.hid hG
  have hcw : ∀ t, t < n → W0.cell? ⟨b, off + t, none⟩ = some (.int .u32 (G t)) := fun t ht => by rw [hG]; exact hs.cell ht
  have hfw : ∀ t, t < n → W0.frozen? ⟨b, off + t, none⟩ = false := fun t _ => hs.frozen t
  have c0 : W0.cell? ⟨q, 0, none⟩ = some (.int .i64 (s : Int)) := by simpa using blk_cell hq.blk 0
  have f0 : W0.frozen? ⟨q, 0, none⟩ = false := blk_frozen hq.blk 0
  clear hs hq hG
  go_enter Try.func60, Try.ntmps60
  go_upto_region 1 with (fail)
  go_quiet (first | (go_at_call 49; refine Calls.quiet_of_same (less_n _ _ _)))
  go_wp2
  · go_ret2
    refine ⟨y, x, rfl, .inr ⟨rfl, rfl⟩, (HS.out.drewN _).other HQ.out.lo HQ.out.ne 0 _, s + 1, Nat.le_refl _, ⟨?_, HQ.out.lo, HQ.out.ne⟩⟩
    have := blk_set (w := W0.drewN nq) HQ.out.blk 0 (.int .i64 ((s : Int) + 1))
    simpa using this
  · go_ret2
    exact ⟨x, y, rfl, .inl ⟨rfl, rfl⟩, HS.out.drewN _, s, by omega, HQ.out.blk, HQ.out.lo, HQ.out.ne⟩
set_option maxRecDepth 100000 in
set_option maxHeartbeats 4000000 in
theorem med_n {w W0 : World} {b off n : Nat} {pre rest : List Value} {d : Array Int} (cap x y z q s : Nat) (hs : SR w b off n pre rest d W0) (hq : SwP w b q s W0) (hx : x < n) (hy : y < n) (hz : z < n) (hsz : n < 1152921504606846976) (hss : s ≤ 900) :
    Calls Try.prog 58 #[.slice (some ⟨b, off, none⟩) n cap, .int .i64 (x : Int), .int .i64 (y : Int), .int .i64 (z : Int), .pointer (some ⟨q, 0, none⟩)] W0 fun e W => ∃ u : Nat, e = .returned (.int .i64 (u : Int)) ∧ (u = x ∨ u = y ∨ u = z) ∧ Both w b off n pre rest d q s 3 W := by
  have HC := Lib.hid (ord2_n cap x y q s hs hq hx hy hsz (by omega))
  clear hs hq
  go_enter Try.func58, Try.ntmps58
  go_upto_region 2 with (go_at_call 60; refine HC.out.mono ?_; rintro e1 W1 ⟨x1, y1, rfl, hxy1, hs1, s1, h1, hq1⟩)
  have hx1 : x1 < n := by omega
  have hy1 : y1 < n := by omega
  have HC2 := Lib.hid (ord2_n cap y1 z q s1 hs1 hq1 hy1 hz hsz (by omega))
  go_upto_region 3 with (go_at_call 60; refine HC2.out.mono ?_; rintro e2 W2 ⟨y2, z2, rfl, hyz2, hs2, s2, h2, hq2⟩)
  have hy2 : y2 < n := by omega
  have HC3 := Lib.hid (ord2_n cap x1 y2 q s2 hs2 hq2 hx1 hy2 hsz (by omega))
  go_wp2_with (go_at_call 60; refine HC3.out.mono ?_; rintro e3 W3 ⟨x3, y3, rfl, hxy3, hs3, s3, h3, hq3⟩)
  go_ret
  exact ⟨y3, rfl, by omega, hs3, s3, by omega, hq3⟩
set_option maxRecDepth 100000 in
set_option maxHeartbeats 4000000 in
theorem meda_n {w W0 : World} {b off n : Nat} {pre rest : List Value} {d : Array Int} (cap x q s : Nat) (hs : SR w b off n pre rest d W0) (hq : SwP w b q s W0) (hx : 1 ≤ x) (hx2 : x + 1 < n) (hsz : n < 1152921504606846976) (hss : s ≤ 900) :
    Calls Try.prog 57 #[.slice (some ⟨b, off, none⟩) n cap, .int .i64 (x : Int), .pointer (some ⟨q, 0, none⟩)] W0 fun e W => ∃ u : Nat, e = .returned (.int .i64 (u : Int)) ∧ (x ≤ u + 1 ∧ u ≤ x + 1) ∧ Both w b off n pre rest d q s 3 W := by
  obtain ⟨y, hy⟩ : ∃ y, y = x - 1 := ⟨_, rfl⟩
  obtain ⟨z, hz⟩ : ∃ z, z = x + 1 := ⟨_, rfl⟩
  have hyz : (x : Int) - 1 = (y : Int) := by omega
  have hzz : (x : Int) + 1 = (z : Int) := by omega
  have HC := Lib.hid (med_n cap y x z q s hs hq (by omega) (by omega) (by omega) hsz hss)
  have HE := Lib.hid (And.intro hy hz)
  clear hs hq hy hz
  go_enter Try.func57, Try.ntmps57
  go_wp2_with (go_at_call 58; refine HC.out.mono ?_; rintro e1 W1 ⟨u, rfl, hu, hb⟩)
  go_ret
  exact ⟨u, rfl, by have := HE.out.1; have := HE.out.2; omega, hb⟩
set_option maxRecDepth 100000 in
set_option maxHeartbeats 8000000 in
theorem piv_n {w W0 : World} {b off n : Nat} {pre rest : List Value} {d : Array Int} (cap a e : Nat) (hs : SR w b off n pre rest d W0) (hae : a + 13 ≤ e) (he : e ≤ n) (hsz : n < 1152921504606846976) :
    Calls Try.prog 46 #[.slice (some ⟨b, off, none⟩) n cap, .int .i64 (a : Int), .int .i64 (e : Int)] W0 fun x W => ∃ p h : Nat, x = .returned (.tuple #[.int .i64 (p : Int), .int .i64 (h : Int)]) ∧ a ≤ p ∧ p < e ∧ h ≤ 2 ∧ SR w b off n pre rest d W := by
  obtain ⟨l, hl⟩ : ∃ l, l = e - a := ⟨_, rfl⟩
  obtain ⟨f, hf⟩ : ∃ f, f = l / 4 := ⟨_, rfl⟩
  have hlz : (e : Int) - (a : Int) = (l : Int) := by omega
  have hfz : (l : Int) / 4 = (f : Int) := by omega
  have hl8 : 13 ≤ l := by omega
  have hal : a + l = e := by omega
  have hfl : f * 4 ≤ l := by omega
  have hf12 : 50 ≤ l → 12 ≤ f := by omega
  have HF12 := Lib.hid hf12
  obtain ⟨i, hi⟩ : ∃ i, i = a + f := ⟨_, rfl⟩
  obtain ⟨j, hj⟩ : ∃ j, j = a + f * 2 := ⟨_, rfl⟩
  obtain ⟨k, hk⟩ : ∃ k, k = a + f * 3 := ⟨_, rfl⟩
  have hiz : (a : Int) + (f : Int) = (i : Int) := by omega
  have hjz : (a : Int) + (f : Int) * 2 = (j : Int) := by omega
  have hkz : (a : Int) + (f : Int) * 3 = (k : Int) := by omega
  have HIJ := Lib.hid (And.intro hi (And.intro hj hk))
  obtain ⟨W1, hW1⟩ : ∃ W, W = W0.alloc (Obj.cells #[.int .i64 0] 3) := ⟨_, rfl⟩
  have h1 : SR w b off n pre rest d W1 := by rw [hW1]; exact hs.alloc _
  have k1 : W1.heap[W0.heap.size]? = some (.cells #[.int .i64 ((0 : Nat) : Int)] 3 (0, 0)) := by rw [hW1]; exact World.alloc_heap_new W0 _
  have hq1 : w.heap.size ≤ W0.heap.size := hs.grown.size
  have hq2 : W0.heap.size ≠ b := by have := hs.lt; omega
  obtain ⟨q, hq⟩ : ∃ q, q = W0.heap.size := ⟨_, rfl⟩
  rw [← hq] at k1 hq1 hq2
  have H1 := Lib.hid (And.intro h1 (SwP.mk k1 hq1 hq2))
  clear hs hl hf hf12 hi hj hk h1 k1 hq1 hq2 hae
  go_enter Try.func46, Try.ntmps46
  go_upto_region 6 with (fail)
  rw [← hq, ← hW1]
  clear hq hW1
  have hin : a ≤ i ∧ i < e ∧ a ≤ j ∧ j < e ∧ a ≤ k ∧ k < e := by have := HIJ.out; omega
  have HIN := Lib.hid hin
  clear hin hlz hfz hkz hiz hjz
  go_upto_if 34 with (fail)
  go_cut [10, 11, 12] (fun s10 s11 s12 wx => ∃ i2 j2 k2 s2 : Nat, s10 = .int .i64 (i2 : Int) ∧ s11 = .int .i64 (j2 : Int) ∧ s12 = .int .i64 (k2 : Int) ∧ Hid (a ≤ i2 ∧ i2 < e ∧ a ≤ j2 ∧ j2 < e ∧ a ≤ k2 ∧ k2 < e) ∧ Hid (s2 ≤ 9 ∧ SR w b off n pre rest d wx ∧ SwP w b q s2 wx))
  case first =>
    by_cases h50 : 50 ≤ l
    · have h50z : (50 : Int) ≤ (l : Int) := by omega
      have hf := HF12.out h50
      obtain ⟨hi, hj, hk⟩ := HIJ.out
      have HC1 := Lib.hid (meda_n cap i q 0 H1.out.1 H1.out.2 (by omega) (by omega) hsz (by omega))
      have HII := Lib.hid (And.intro hi (And.intro hj (And.intro hk hf)))
      clear hi hj hk hf
      go_upto_region 9 with (go_at_call 57; refine HC1.out.mono ?_; rintro e1 W2 ⟨i2, rfl, hi2, hs2, c2, hc2, hq2⟩)
      have HC2 := Lib.hid (meda_n cap j q c2 hs2 hq2 (by have := HII.out; omega) (by have := HII.out; omega) hsz (by omega))
      go_upto_region 10 with (go_at_call 57; refine HC2.out.mono ?_; rintro e1 W3 ⟨j2, rfl, hj2, hs3, c3, hc3, hq3⟩)
      have HC3 := Lib.hid (meda_n cap k q c3 hs3 hq3 (by have := HII.out; omega) (by have := HII.out; omega) hsz (by omega))
      go_wp2_with (go_at_call 57; refine HC3.out.mono ?_; rintro e1 W4 ⟨k2, rfl, hk2, hs4, c4, hc4, hq4⟩)
      go_meet
      exact ⟨i2, j2, k2, c4, rfl, rfl, rfl, Lib.hid (by have := HII.out; omega), Lib.hid ⟨by omega, hs4, hq4⟩⟩
    · have h50z : ¬ (50 : Int) ≤ (l : Int) := by omega
      go_wp2
      go_meet
      exact ⟨i, j, k, 0, rfl, rfl, rfl, HIN, Lib.hid ⟨by omega, H1.out.1, H1.out.2⟩⟩
  case rest =>
    obtain ⟨i2, j2, k2, s2, rfl, rfl, rfl, HIN2, HS2⟩ := hcut
    have HC4 := Lib.hid (med_n cap i2 j2 k2 q s2 HS2.out.2.1 HS2.out.2.2 (by have := HIN2.out; omega) (by have := HIN2.out; omega) (by have := HIN2.out; omega) hsz (by have := HS2.out.1; omega))
    go_upto_region 12 with (go_at_call 58; refine HC4.out.mono ?_; rintro e1 W5 ⟨p, rfl, hp, hs5, c5, hc5, hq5⟩)
    have hpr : a ≤ p ∧ p < e := by have := HIN2.out; omega
    have HPR := Lib.hid hpr
    have HS5 := Lib.hid hs5
    have c0 : W5.cell? ⟨q, 0, none⟩ = some (.int .i64 (c5 : Int)) := by simpa using blk_cell hq5.blk 0
    clear hpr hp hs5 hq5 hc5
    by_cases h0 : c5 = 0
    · subst h0
      go_wp2
      go_ret2
      exact ⟨p, 1, rfl, HPR.out.1, HPR.out.2, by omega, HS5.out⟩
    · have h0z : ((c5 : Int) == 0) = false := by simpa using h0
      have h0y : ¬ (c5 : Int) = 0 := by omega
      by_cases h12 : c5 = 12
      · subst h12
        go_wp2
        go_ret2
        exact ⟨p, 2, rfl, HPR.out.1, HPR.out.2, by omega, HS5.out⟩
      · have h12z : ((c5 : Int) == 12) = false := by
          have : ¬ (c5 : Int) = 12 := by omega
          simpa using this
        have h12y : ¬ (c5 : Int) = 12 := by omega
        go_wp2
        go_ret2
        exact ⟨p, 0, rfl, HPR.out.1, HPR.out.2, by omega, HS5.out⟩
end Go.Proofs.Ytelbgjnaceffeaa
