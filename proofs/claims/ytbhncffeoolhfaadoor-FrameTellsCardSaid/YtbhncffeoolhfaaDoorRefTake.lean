/- The contract of the document's own reading of a number (varint's Take). -/
import Derived.Test.YtbhncffeoolhfaaDoorRefTakeR
import Derived.LoopTactic
import Derived.RegionTactic
namespace Go.Proofs.YtbhncffeoolhfaaDoor
open Go.RowKit

/-- What it answers. -/
def tkV (bs : List UInt8) : Value := match rdU bs with
  | .ok n rest => .tuple #[.int .u64 (n : Int), .int .i64 ((bs.length - rest.length : Nat) : Int), .int .i64 0]
  | .short => .tuple #[.int .u64 0, .int .i64 0, .int .i64 10]
  | .form _ => .tuple #[.int .u64 0, .int .i64 0, .int .i64 11]
theorem tkV_short {bs : List UInt8} (h : rdU bs = .short) : tkV bs = .tuple #[.int .u64 0, .int .i64 0, .int .i64 10] := by unfold tkV; rw [h]
theorem tkV_form {bs r : List UInt8} (h : rdU bs = .form r) : tkV bs = .tuple #[.int .u64 0, .int .i64 0, .int .i64 11] := by unfold tkV; rw [h]
theorem tkV_ok {bs r : List UInt8} {n : Nat} (h : rdU bs = .ok n r) : tkV bs = .tuple #[.int .u64 (n : Int), .int .i64 ((bs.length - r.length : Nat) : Int), .int .i64 0] := by unfold tkV; rw [h]

theorem or7 (V g : Nat) (hV : V * 128 < 18446744073709551616) (hg : g < 256) : bits .or .u64 ((V : Int) * 128) (IntKind.u64.wrap (bits .and .u8 (g : Int) 127)) = ((g % 128 + 128 * V : Nat) : Int) := by
  have h1 : bits .and .u8 (g : Int) 127 = ((g % 128 : Nat) : Int) := by
    have := u8_and_nat g 127 hg (by omega)
    rw [show ((127 : Nat) : Int) = 127 from rfl] at this
    rw [this, and127 g hg]
  have h2 : IntKind.u64.wrap ((g % 128 : Nat) : Int) = ((g % 128 : Nat) : Int) := by rw [IntKind.wrap_u64]; omega
  have h3 : (V : Int) * 128 = ((V * 128 : Nat) : Int) := by omega
  rw [h1, h2, h3, u64_or_nat _ _ hV (by omega), Nat.or_comm, show V * 128 = V * 2 ^ 7 from rfl, or_disjoint _ _ _ (by omega)]
  omega
set_option maxRecDepth 100000 in
set_option maxHeartbeats 2000000 in
theorem ref_Take01 (A : Option Addr) (L c : Nat) (bs : List UInt8) (hL : L = bs.length) (hlen : L ≤ 1000000) (hcap : L ≤ c) (w : World) (hA : HasA w w.heap.size A bs) :
    Calls Tryd.prog 20 #[.slice A L c] w fun e W' => e = .returned (tkV bs) ∧ Below w.heap.size w W' := by
  have HL := Lib.hid hL
  have HA := Lib.hid hA
  clear hL hA
  have hli : (L : Int) ≤ 1000000 := by omega
  go_enter Tryd.func20, Tryd.ntmps20
  go_wp2
  go_loop [5] (fun i => ∃ k : Nat, k ≤ 10 ∧ k ≤ L ∧ i = .int .i64 (k : Int) ∧ Hid (Hi (bs.take k))) (fun i => 10 - (intOf i).toNat)
  case atStart => exact ⟨0, by omega, by omega, rfl, Lib.hid Hi.nil⟩
  case round =>
    obtain ⟨k, hk10, hkL, rfl, hhi⟩ := hrel
    by_cases hkL' : k < L
    · have hkb : k < bs.length := by have := HL.out; omega
      obtain ⟨b, o, rfl, _, hcell⟩ := HA.out (by rintro rfl; simp at hkb)
      have hx : w.cell? ⟨b, o + k, none⟩ = some (.int .u8 (bs[k].toNat : Int)) := hcell k hkb
      obtain ⟨y, hy⟩ : ∃ y, y = bs[k].toNat := ⟨_, rfl⟩
      have hyl : y < 256 := by rw [hy]; exact bs[k].toNat_lt
      have HY := Lib.hid hy
      have HC := Lib.hid hcell
      rw [← hy] at hx
      clear hy hcell
      have hki : (k : Int) < L := by omega
      by_cases hk : k < 10
      · have hk10i : (k : Int) < 10 := by omega
        by_cases h128 : 128 ≤ y
        · have h128i : (128 : Int) ≤ y := by omega
          go_wp2
          refine ⟨⟨k + 1, by omega, by omega, by congr 1, Lib.hid (hhi.out.snoc hkb (by rw [← HY.out]; exact h128))⟩, by simp only [intOf]; omega⟩
        · have h128i : ¬ (128 : Int) ≤ y := by omega
          have hk10f : ((k : Int) == 10) = false := by simp; omega
          by_cases hf : k = 9 ∧ 1 < y
          · obtain ⟨rfl, hy1⟩ := hf
            have hy1i : (1 : Int) < y := by omega
            have H9 := Lib.hid (tkV_form (take_ten bs hhi.out hkb (by rw [← HY.out]; exact hy1)))
            go_wp2
            go_ret3
            exact ⟨by rw [H9.out]; rfl, Below.refl _ _⟩
          · have hkLf : ((k : Int) == (L : Int)) = false := by simp; omega
            obtain ⟨hr, hnl⟩ := take_end bs k hhi.out hkb (by omega) (by rw [← HY.out]; omega) (fun e => by
              rw [← HY.out]
              rcases Nat.lt_or_ge 1 y with h | h
              · exact absurd ⟨e, h⟩ hf
              · exact h)
            obtain ⟨N, hN⟩ : ∃ N, N = valL (bs.take (k + 1)) := ⟨_, rfl⟩
            rw [← hN] at hr hnl
            have HR := Lib.hid hr
            have HN := Lib.hid hN
            clear hr hN
            have h9 : ((k : Int) == 9) = false ∨ (((k : Int) == 9) = true ∧ w.cell? ⟨b, o + 9, none⟩ = some (.int .u8 (y : Int)) ∧ ¬ (1 : Int) < y ∧ (9 : Int) < L) := by
              by_cases hk9 : k = 9
              · subst hk9
                exact .inr ⟨rfl, hx, by omega, by omega⟩
              · exact .inl (by simp; omega)
            rcases h9 with h9 | ⟨h9, hx9, hy9, hL9⟩
            all_goals
              go_wp2
              go_loop [6, 7] (fun n i => ∃ (j : Nat) (z : Int), j ≤ k + 1 ∧ i = .int .i64 z ∧ Hid (z = (j : Int) - 1) ∧ n = .int .u64 ((valL ((bs.take (k + 1)).drop j) : Nat) : Int)) (fun _ i => (intOf i + 1).toNat)
              case atStart =>
                refine ⟨k + 1, (k : Int), Nat.le_refl _, rfl, Lib.hid (by omega), ?_⟩
                rw [List.drop_of_length_le (by rw [List.length_take]; omega)]; rfl
              case round =>
                obtain ⟨j, z, hj, rfl, hz, rfl⟩ := hrel
                rcases j with _ | q
                · obtain rfl : z = -1 := by rw [hz.out]; rfl
                  rw [List.drop_zero, ← HN.out]
                  have hkl : k + 1 = (bs.take (k + 1)).length := by rw [List.length_take]; omega
                  have HKL := Lib.hid hkl
                  clear hkl
                  go_wp2
                  refine take_region (some ⟨b, o, none⟩) L c k N bs hnl HKL.out (by omega) (by omega) _ w _ rfl rfl rfl rfl HA.out ?_
                  intro v62 W hv62 hgW
                  have HG := Lib.hid hgW
                  clear hv62 hgW
                  by_cases hsame : vb N = bs.take (k + 1)
                  · have hsb : (vb N == bs.take (k + 1)) = true := by rw [hsame]; simp
                    have HE := Lib.hid (tkV_ok (HR.out.trans (if_pos hsame)))
                    rw [hsb]
                    clear hsame hsb
                    simp only [puts, List.foldl_cons, List.foldl_nil, Act.put, List.setIfInBounds_toArray, List.set_cons_succ, List.set_cons_zero]
                    go_wp2
                    go_ret3
                    refine ⟨?_, HG.out⟩
                    rw [HE.out, List.length_drop]
                    have hkb' : bs.length - (bs.length - (k + 1)) = k + 1 := by omega
                    rw [hkb']; rfl
                  · have hsb : (vb N == bs.take (k + 1)) = false := by simp [hsame]
                    have HE := Lib.hid (tkV_form (HR.out.trans (if_neg hsame)))
                    rw [hsb]
                    clear hsame hsb
                    simp only [puts, List.foldl_cons, List.foldl_nil, Act.put, List.setIfInBounds_toArray, List.set_cons_succ, List.set_cons_zero]
                    go_wp2
                    go_ret3
                    exact ⟨by rw [HE.out]; rfl, HG.out⟩
                · obtain rfl : z = (q : Int) := by rw [hz.out]; omega
                  have hqb : q < bs.length := by omega
                  have hq0 : (0 : Int) ≤ (q : Int) := by omega
                  have hqL : (q : Int) < L := by omega
                  have hxq : w.cell? ⟨b, o + q, none⟩ = some (.int .u8 (bs[q].toNat : Int)) := HC.out q hqb
                  obtain ⟨g, hg⟩ : ∃ g, g = bs[q].toNat := ⟨_, rfl⟩
                  have hgl : g < 256 := by rw [hg]; exact bs[q].toNat_lt
                  have HG := Lib.hid hg
                  rw [← hg] at hxq
                  clear hg
                  obtain ⟨V, hV⟩ : ∃ V, V = valL ((bs.take (k + 1)).drop (q + 1)) := ⟨_, rfl⟩
                  have hstep : valL ((bs.take (k + 1)).drop q) = g % 128 + 128 * V := by
                    have hq1 : q < (bs.take (k + 1)).length := by rw [List.length_take]; omega
                    rw [List.drop_eq_getElem_cons hq1, valL, ← hV, List.getElem_take, ← HG.out]
                  have hle := valL_drop_le (bs.take (k + 1)) q
                  rw [← HN.out, hstep] at hle
                  have hVl : V * 128 < 18446744073709551616 := by omega
                  have hVi : (V : Int) * 128 < 18446744073709551616 := by omega
                  have HV := Lib.hid hV
                  have HS := Lib.hid hstep
                  rw [← hV]
                  clear hV hstep hle
                  go_wp2
                  refine ⟨⟨q, (q : Int) - 1, by omega, rfl, Lib.hid rfl, ?_⟩, by simp only [intOf]; omega⟩
                  rw [or7 V g hVl hgl, HS.out]
      · obtain rfl : k = 10 := by omega
        have h9 : Hi (bs.take 9) := fun c hc => hhi.out c (by
          rw [List.take_succ_eq_append_getElem (show 9 < bs.length by omega)]; exact List.mem_append_left _ hc)
        have h9b : 128 ≤ (bs[9]'(by omega)).toNat := hhi.out _ (by
          rw [List.take_succ_eq_append_getElem (show 9 < bs.length by omega)]; exact List.mem_append_right _ (by simp))
        have H9 := Lib.hid (tkV_form (take_ten bs h9 (by omega) (by omega)))
        clear h9 h9b
        go_wp2
        go_ret3
        exact ⟨by rw [H9.out]; rfl, Below.refl _ _⟩
    · obtain rfl : k = L := by omega
      by_cases hk10' : k = 10
      · subst hk10'
        have hbl : 10 = bs.length := HL.out
        have h9 : Hi (bs.take 9) := fun c hc => hhi.out c (by
          rw [List.take_succ_eq_append_getElem (show 9 < bs.length by omega)]; exact List.mem_append_left _ hc)
        have h9b : 128 ≤ (bs[9]'(by omega)).toNat := hhi.out _ (by
          rw [List.take_succ_eq_append_getElem (show 9 < bs.length by omega)]; exact List.mem_append_right _ (by simp))
        have H9 := Lib.hid (tkV_form (take_ten bs h9 (by omega) (by omega)))
        clear h9 h9b hbl
        go_wp2
        go_ret3
        exact ⟨by rw [H9.out]; rfl, Below.refl _ _⟩
      · have H9 := Lib.hid (tkV_short (take_short bs k hhi.out HL.out (by omega)))
        have hki : ((k : Int) == 10) = false := by simp; omega
        go_wp2
        all_goals
          go_ret3
          exact ⟨by rw [H9.out]; rfl, Below.refl _ _⟩
end Go.Proofs.YtbhncffeoolhfaaDoor
