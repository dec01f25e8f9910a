/- The reference's May: which commands may be. -/
import Derived.Test.YtfaplmpenlbajaaDoorCmRow
import Derived.Test.YtfaplmpenlbajaaDoorCmMath
import Derived.Deep.DeepCutAuto
import Derived.Deep.CutBlock
namespace Go.Proofs.YtfaplmpenlbajaaDoor
open Go.RowKit

def CmdV.m (a : CmdV) : CM := ⟨a.cl, a.sq, a.kd, a.ks, a.old, a.new, a.n⟩
theorem CmdV.ok.wf {w : World} {a : CmdV} (h : a.ok w) : a.m.Wf := ⟨h.cl, h.sq, h.kd, h.n⟩
open Classical in
theorem CmdV.same_m {a b : CmdV} : a.same b = true ↔ a.m = b.m := by
  obtain ⟨acl, asq, akd, _, _, _, ks, old, new, n⟩ := a
  obtain ⟨bcl, bsq, bkd, _, _, _, ks', old', new', n'⟩ := b
  simp only [CmdV.same, CmdV.m, decide_eq_true_eq, CM.mk.injEq]
  constructor
  · rintro ⟨h1, h2, h3, h4, h5, h6, h7⟩; exact ⟨h2, h3, h4, h1, h5, h6, h7⟩
  · rintro ⟨h2, h3, h4, h1, h5, h6, h7⟩; exact ⟨h1, h2, h3, h4, h5, h6, h7⟩
theorem size0 {s : ByteArray} : s.size = 0 ↔ s = ⟨#[]⟩ := by
  constructor
  · intro h
    obtain ⟨d⟩ := s
    have : d.size = 0 := h
    rw [Array.eq_empty_of_size_eq_zero this]
  · rintro rfl; rfl

theorem toE (s : ByteArray) : s.toList.isEmpty = decide (s.size = 0) := by
  rw [ByteArray.toList_eq]
  obtain ⟨d⟩ := s
  show d.toList.isEmpty = decide (d.size = 0)
  rw [← Array.length_toList]
  cases d.toList <;> simp
theorem toNil (s : ByteArray) : s.toList = [] ↔ s.size = 0 := by
  have := toE s
  rw [Bool.eq_iff_iff, List.isEmpty_iff, decide_eq_true_iff] at this
  exact this
theorem kdE (a k : Nat) : ((a : Int) == (k : Int)) = decide (a = k) := by
  rw [Bool.eq_iff_iff]; simp; omega

set_option maxRecDepth 100000 in
set_option maxHeartbeats 8000000 in
theorem refMay_any (a : CmdV) (w : World) (ha : a.ok w) : Calls Tryd.prog 11 #[a.val] w fun e W' => e = .returned (.bool a.m.may) ∧ Below w.heap.size w W' := by
  obtain ⟨acl, asq, akd, A, M, c, ks, old, new, n⟩ := a
  obtain ⟨hcl, hsq, hkd, hn64, hlen, hmx, hhas, heach, hold, hnew⟩ := ha
  simp only at hcl hsq hkd hn64 hlen hmx hhas heach hold hnew
  simp only [CmdV.val, CmdV.cells, CmdV.m]
  have HH := Lib.hid (And.intro hhas hlen)
  have HE := Lib.hid heach
  have hM : (M : Int) ≤ 140737488351232 := by omega
  have hkd' : (akd : Int) < 256 := by omega
  have ho64 : (old.size : Int) ≤ 9223372036854775807 := by simp only [maxLen] at hold; omega
  have hn64' : (new.size : Int) ≤ 9223372036854775807 := by simp only [maxLen] at hnew; omega
  clear hhas hlen heach hold hnew
  go_enter Tryd.func11, Tryd.ntmps11
  go_upto_region 1 with (fail)
  obtain ⟨W0, hW0⟩ : ∃ W0, W0 = w.alloc (Obj.cells #[.int .u32 (acl : Int), .int .u32 (asq : Int), .int .u8 (akd : Int), .slice A M c, .string old, .string new, .int .i64 n] 26) := ⟨_, rfl⟩
  rw [← hW0]
  obtain ⟨p, hp⟩ : ∃ p, p = w.heap.size := ⟨_, rfl⟩
  have hB : Below w.heap.size w W0 := by rw [hW0]; exact (Below.refl _ w).alloc (Nat.le_refl _) _
  have k1 : W0.heap[p]? = some (.cells #[.int .u32 (acl : Int), .int .u32 (asq : Int), .int .u8 (akd : Int), .slice A M c, .string old, .string new, .int .i64 n] 26 (0, 0)) := by
    rw [hW0, hp]; exact World.alloc_heap_new w _
  rw [← hp]
  have x0 := blk_cell k1 0
  have x2 := blk_cell k1 2
  have x3 := blk_cell k1 3
  have x4 := blk_cell k1 4
  have x5 := blk_cell k1 5
  have x6 := blk_cell k1 6
  simp at x0 x2 x3 x4 x5 x6
  have BW := Lib.hid hB
  clear hW0 hp hB k1
  go_upto_block 0 with (fail)
  go_cut [3, 4] (fun s3 s4 wx => W0 = wx ∧ (1 ≤ akd ∧ akd ≤ 8) ∧ s3 = .int .i64 (leastK akd : Int) ∧ s4 = .int .i64 (mostK akd : Int))
  case first =>
    by_cases hk8 : 1 ≤ akd ∧ akd ≤ 8
    · obtain rfl | rfl | rfl | rfl | rfl | rfl | rfl | rfl : akd = 1 ∨ akd = 2 ∨ akd = 3 ∨ akd = 4 ∨ akd = 5 ∨ akd = 6 ∨ akd = 7 ∨ akd = 8 := by omega
      all_goals
        clear hk8 hkd hkd'
        go_wp2
        go_meet
        exact ⟨rfl, by decide, rfl, rfl⟩
    · have HN := Lib.hid (show CM.may ⟨acl, asq, akd, ks, old, new, n⟩ = false from CM.may_no.2 fun h => hk8 h.kd)
      have q1 : ((akd : Int) == 1) = false := by simp; omega
      have q2 : ((akd : Int) == 2) = false := by simp; omega
      have q3 : ((akd : Int) == 3) = false := by simp; omega
      have q4 : ((akd : Int) == 4) = false := by simp; omega
      have q5 : ((akd : Int) == 5) = false := by simp; omega
      have q6 : ((akd : Int) == 6) = false := by simp; omega
      have q7 : ((akd : Int) == 7) = false := by simp; omega
      have q8 : ((akd : Int) == 8) = false := by simp; omega
      go_wp2
      go_ret
      exact ⟨by rw [HN.out]; rfl, BW.out⟩
  case rest =>
    obtain ⟨rfl, hk8, rfl, rfl⟩ := hcut
    obtain ⟨ls, hls⟩ : ∃ ls, ls = leastK akd := ⟨_, rfl⟩
    obtain ⟨ms, hms⟩ : ∃ ms, ms = mostK akd := ⟨_, rfl⟩
    have HLM := Lib.hid (And.intro hls hms)
    rw [← hls, ← hms]
    clear hls hms
    go_wp2
    go_loopw [5] (fun i wr => wr = W0 ∧ ∃ k : Nat, k ≤ M ∧ i = .int .i64 (k : Int) ∧ Hid (∀ j (h1 : j < ks.length), j < k → 1 ≤ (ks[j]).size ∧ (ks[j]).size ≤ 32)) (fun i _ => M - (intOf i).toNat)
    case atStart => exact ⟨rfl, 0, Nat.zero_le _, rfl, Lib.hid (fun j _ h => by omega)⟩
    case round =>
      obtain ⟨rfl, k, hk, rfl, hb⟩ := hrel
      by_cases hlt : k < M
      · have hki : (k : Int) < M := by omega
        have hk1 : k < ks.length := by have := HH.out.2; omega
        obtain ⟨bk, o1, e1, l1, f1⟩ := HH.out.1 (by rintro rfl; simp at hk1)
        subst e1
        have g1 := (BW.out.cell (p := ⟨bk, o1 + k, none⟩) l1).trans (f1 k hk1)
        obtain ⟨t, ht⟩ : ∃ t, t = ks[k] := ⟨_, rfl⟩
        rw [← ht] at g1
        have ht64 : (t.size : Int) ≤ 9223372036854775807 := by have := HE.out t (by rw [ht]; exact List.getElem_mem hk1); simp only [maxLen] at this; omega
        have HT := Lib.hid ht
        clear ht f1
        by_cases q1 : t.size < 1
        · have q1i : (t.size : Int) < 1 := by omega
          have HN := Lib.hid (show CM.may ⟨acl, asq, akd, ks, old, new, n⟩ = false from CM.may_no.2 fun h => by have := (h.each ks[k] (List.getElem_mem hk1)).1; rw [← HT.out] at this; omega)
          clear q1
          go_wp2
          go_ret
          exact ⟨by rw [HN.out]; rfl, BW.out⟩
        have q1i : ¬ (t.size : Int) < 1 := by omega
        by_cases q2 : 32 < t.size
        · have q2i : (32 : Int) < t.size := by omega
          have HN := Lib.hid (show CM.may ⟨acl, asq, akd, ks, old, new, n⟩ = false from CM.may_no.2 fun h => by have := (h.each ks[k] (List.getElem_mem hk1)).2; rw [← HT.out] at this; omega)
          clear q1 q2
          go_wp2
          go_ret
          exact ⟨by rw [HN.out]; rfl, BW.out⟩
        have q2i : ¬ (32 : Int) < t.size := by omega
        have HQ := Lib.hid (And.intro q1 q2)
        clear q1 q2
        go_wp2
        refine ⟨⟨trivial, k + 1, by omega, by congr 1, Lib.hid (fun j h1 h2 => ?_)⟩, by simp only [intOf]; omega⟩
        by_cases hj : j < k
        · exact hb.out j h1 hj
        · obtain rfl : j = k := by omega
          rw [← HT.out]
          have := HQ.out
          omega
      · have hki : ¬ (k : Int) < M := by omega
        obtain rfl : k = M := by omega
        have HALL := Lib.hid (show ∀ t ∈ ks, 1 ≤ t.size ∧ t.size ≤ 32 from fun t ht => by
          obtain ⟨j, hj, rfl⟩ := List.getElem_of_mem ht
          exact hb.out j hj (by have := HH.out.2; omega))
        clear hb hlt hk
        go_upto_region 20 with (fail)
        go_cut [6] (fun s6 wx => wr = wx ∧ s6 = .bool (decide (old.size = 0 ∨ akd = 5)))
        case first =>
          by_cases h0 : old.size = 0
          · obtain rfl := size0.1 h0
            go_wp2
            go_meet
            exact ⟨rfl, congrArg Value.bool (decide_eq_true (Or.inl rfl)).symm⟩
          have hb : old.toList.isEmpty = false := (toE old).trans (decide_eq_false h0)
          by_cases h5 : akd = 5
          · obtain rfl := h5
            go_wp2
            go_meet
            exact ⟨rfl, by simp⟩
          have q5 : ((akd : Int) == 5) = false := by simp; omega
          go_wp2
          go_meet
          exact ⟨rfl, by simp [h0, h5]⟩
        case rest =>
          obtain ⟨rfl, rfl⟩ := hcut
          obtain ⟨fo, hfo⟩ : ∃ fo, fo = decide (old.size = 0 ∨ akd = 5) := ⟨_, rfl⟩
          have HFO := Lib.hid hfo
          rw [← hfo]
          clear hfo
          go_upto_region 21 with (fail)
          go_cut [7] (fun s7 wx => wr = wx ∧ s7 = .bool (decide (new.size = 0 ∨ akd = 1 ∨ akd = 5)))
          case first =>
            by_cases h0 : new.size = 0
            · obtain rfl := size0.1 h0
              go_wp2
              go_meet
              exact ⟨rfl, congrArg Value.bool (decide_eq_true (Or.inl rfl)).symm⟩
            have hb : new.toList.isEmpty = false := (toE new).trans (decide_eq_false h0)
            by_cases h1 : akd = 1
            · obtain rfl := h1
              go_wp2
              go_meet
              exact ⟨rfl, by simp⟩
            have q1 : ((akd : Int) == 1) = false := by simp; omega
            by_cases h5 : akd = 5
            · obtain rfl := h5
              go_wp2
              go_meet
              exact ⟨rfl, by simp⟩
            have q5 : ((akd : Int) == 5) = false := by simp; omega
            go_wp2
            go_meet
            exact ⟨rfl, by simp [h0, h1, h5]⟩
          case rest =>
            obtain ⟨rfl, rfl⟩ := hcut
            obtain ⟨fn, hfn⟩ : ∃ fn, fn = decide (new.size = 0 ∨ akd = 1 ∨ akd = 5) := ⟨_, rfl⟩
            have HFN := Lib.hid hfn
            rw [← hfn]
            clear hfn
            by_cases c0 : 0 < acl
            case neg =>
              have HN := Lib.hid (show CM.may ⟨acl, asq, akd, ks, old, new, n⟩ = false from CM.may_no.2 fun h => c0 (h.cl))
              have i0 : ¬ (0 : Int) < (acl : Int) := by omega
              clear c0
              go_wp2
              go_ret
              exact ⟨by rw [HN.out]; rfl, BW.out⟩
            have i0 : (0 : Int) < (acl : Int) := by omega
            by_cases c1 : ls ≤ k
            case neg =>
              have HN := Lib.hid (show CM.may ⟨acl, asq, akd, ks, old, new, n⟩ = false from CM.may_no.2 fun h => c1 (by have := h.len.1; rw [HLM.out.1, HH.out.2]; exact this))
              have i1 : ¬ (ls : Int) ≤ (k : Int) := by omega
              clear c1
              go_wp2
              go_ret
              exact ⟨by rw [HN.out]; rfl, BW.out⟩
            have i1 : (ls : Int) ≤ (k : Int) := by omega
            by_cases c2 : k ≤ ms
            case neg =>
              have HN := Lib.hid (show CM.may ⟨acl, asq, akd, ks, old, new, n⟩ = false from CM.may_no.2 fun h => c2 (by have := h.len.2; rw [HLM.out.2, HH.out.2]; exact this))
              have i2 : ¬ (k : Int) ≤ (ms : Int) := by omega
              clear c2
              go_wp2
              go_ret
              exact ⟨by rw [HN.out]; rfl, BW.out⟩
            have i2 : (k : Int) ≤ (ms : Int) := by omega
            by_cases c3 : old.size ≤ 64
            case neg =>
              have HN := Lib.hid (show CM.may ⟨acl, asq, akd, ks, old, new, n⟩ = false from CM.may_no.2 fun h => c3 (h.old))
              have i3 : ¬ (old.size : Int) ≤ 64 := by omega
              clear c3
              go_wp2
              go_ret
              exact ⟨by rw [HN.out]; rfl, BW.out⟩
            have i3 : (old.size : Int) ≤ 64 := by omega
            by_cases c4 : new.size ≤ 64
            case neg =>
              have HN := Lib.hid (show CM.may ⟨acl, asq, akd, ks, old, new, n⟩ = false from CM.may_no.2 fun h => c4 (h.new))
              have i4 : ¬ (new.size : Int) ≤ 64 := by omega
              clear c4
              go_wp2
              go_ret
              exact ⟨by rw [HN.out]; rfl, BW.out⟩
            have i4 : (new.size : Int) ≤ 64 := by omega
            have HCS := Lib.hid (And.intro c0 (And.intro c1 (And.intro c2 (And.intro c3 c4))))
            clear c0 c1 c2 c3 c4
            cases fo with
            | false =>
              have HN := Lib.hid (show CM.may ⟨acl, asq, akd, ks, old, new, n⟩ = false from CM.may_no.2 fun h => absurd (decide_eq_true h.old0) (by rw [← HFO.out]; simp))
              go_wp2
              go_ret
              exact ⟨by rw [HN.out]; rfl, BW.out⟩
            | true =>
              cases fn with
              | false =>
                have HN := Lib.hid (show CM.may ⟨acl, asq, akd, ks, old, new, n⟩ = false from CM.may_no.2 fun h => absurd (decide_eq_true h.new0) (by rw [← HFN.out]; simp))
                go_wp2
                go_ret
                exact ⟨by rw [HN.out]; rfl, BW.out⟩
              | true =>
                by_cases hn0 : n = 0
                · subst hn0
                  have HN := Lib.hid (show CM.may ⟨acl, asq, akd, ks, old, new, 0⟩ = true from CM.may_iff.2 ⟨hk8, HALL.out, HCS.out.1, ⟨by rw [← HLM.out.1, ← HH.out.2]; exact HCS.out.2.1, by rw [← HLM.out.2, ← HH.out.2]; exact HCS.out.2.2.1⟩, HCS.out.2.2.2.1, HCS.out.2.2.2.2, of_decide_eq_true HFO.out.symm, of_decide_eq_true HFN.out.symm, .inl rfl⟩)
                  go_wp2
                  go_ret
                  exact ⟨by rw [HN.out]; rfl, BW.out⟩
                have qn : (n == 0) = false := by simpa using hn0
                by_cases h4 : akd = 4
                · subst h4
                  have HN := Lib.hid (show CM.may ⟨acl, asq, 4, ks, old, new, n⟩ = true from CM.may_iff.2 ⟨hk8, HALL.out, HCS.out.1, ⟨by rw [← HLM.out.1, ← HH.out.2]; exact HCS.out.2.1, by rw [← HLM.out.2, ← HH.out.2]; exact HCS.out.2.2.1⟩, HCS.out.2.2.2.1, HCS.out.2.2.2.2, of_decide_eq_true HFO.out.symm, of_decide_eq_true HFN.out.symm, .inr rfl⟩)
                  clear hn0
                  go_wp2
                  go_ret
                  exact ⟨by rw [HN.out]; rfl, BW.out⟩
                have q4 : ((akd : Int) == 4) = false := by simp; omega
                have HN := Lib.hid (show CM.may ⟨acl, asq, akd, ks, old, new, n⟩ = false from CM.may_no.2 fun h => h.n0.elim hn0 h4)
                clear hn0 h4
                go_wp2
                go_ret
                exact ⟨by rw [HN.out]; rfl, BW.out⟩
end Go.Proofs.YtfaplmpenlbajaaDoor
