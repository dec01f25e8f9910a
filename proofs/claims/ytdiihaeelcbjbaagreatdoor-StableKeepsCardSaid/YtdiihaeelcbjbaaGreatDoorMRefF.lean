/- Contract of the document's own Uint (varint). The contract of the document's own comparison of two rows of bytes. The statement of the document's Take that holds two calls, whatever its order of evaluation. The contract of the document's own reading of a number (varint's Take). The contract of the document's own frame of bytes. The statement of the document's taking of a frame that holds a call, whatever its order of evaluation. The contract of the document's own taking of a frame. The contract of the document's own taking of all frames. What the walks of the laws on frames ask of the program's three functions. -/
import Derived.Test.YtdiihaeelcbjbaaGreatDoorMMath
import Derived.Test.YtdiihaeelcbjbaaGreatDoorMBase
import Derived.LoopTactic
import Derived.RegionTactic
import Derived.Test.YtdiihaeelcbjbaaGreatDoorMCrc
import Derived.Test.YtdiihaeelcbjbaaGreatDoorRefU
-- RefUint
namespace Go.Proofs.YtdiihaeelcbjbaaGreatDoor
open Go.RowKit

end Go.Proofs.YtdiihaeelcbjbaaGreatDoor

-- RefSame
namespace Go.Proofs.YtdiihaeelcbjbaaGreatDoor
open Go.RowKit

theorem same_any (A1 : Option Addr) (L1 c1 : Nat) (x : List UInt8) (h1 : L1 = x.length) (A2 : Option Addr) (L2 c2 : Nat) (y : List UInt8) (h2 : L2 = y.length) (w : World) (hA1 : HasA w w.heap.size A1 x) (hA2 : HasA w w.heap.size A2 y) :
    Calls Tryz.prog 128 #[.slice A1 L1 c1, .slice A2 L2 c2] w fun e w' => e = .returned (.bool (x == y)) ∧ w = w' := by
  have k1 := run_conv (P := Tryz.prog) hA1 c1 Tryz.underlying39 Tryz.underlying5 Tryz.underlying9 h1
  have k2 := run_conv (P := Tryz.prog) hA2 c2 Tryz.underlying39 Tryz.underlying5 Tryz.underlying9 h2
  have k3 := run_eq w x y
  clear h1 h2 hA1 hA2
  go_enter Tryz.func128, Tryz.ntmps128
  go_wp2
  go_ret
  exact ⟨by first | rfl | simp [str_toList], rfl⟩

end Go.Proofs.YtdiihaeelcbjbaaGreatDoor

-- RefTakeR
namespace Go.Proofs.YtdiihaeelcbjbaaGreatDoor
open Go.RowKit

def oT130 (p : String) : Oper := { dst := some 61, op := Op.move (Operand.tmp 6), type := 23, pos := p, after := #[], guard := none }
def oT131 (p : String) : Oper := { dst := some 62, op := Op.call { callee := Callee.value (Operand.func 59), args := #[Operand.tmp 61], argTypes := #[23] }, type := 39, pos := p, after := #[{ on := 0, ground := Ground.data }], guard := none }
def oT132 (p : String) : Oper := { dst := some 63, op := Op.move (Operand.tmp 0), type := 39, pos := p, after := #[], guard := none }
def oT133 (p : String) : Oper := { dst := some 64, op := Op.move (Operand.tmp 5), type := 3, pos := p, after := #[], guard := none }
def oT134 (p : String) : Oper := { dst := some 65, op := Op.binOp BinOp.add 3 (Operand.tmp 64) (Operand.const (Value.int IntKind.i64 1)) 3, type := 3, pos := p, after := #[{ on := 3, ground := Ground.data }], guard := none }
def oT135 (p : String) : Oper := { dst := some 66, op := Op.slice 39 (Operand.tmp 63) none (some (Operand.tmp 65)) none, type := 39, pos := p, after := #[{ on := 2, ground := Ground.data }, { on := 4, ground := Ground.data }], guard := none }
def oT136 (p : String) : Oper := { dst := some 67, op := Op.call { callee := Callee.value (Operand.func 128), args := #[Operand.tmp 62, Operand.tmp 66], argTypes := #[39, 39] }, type := 4, pos := p, after := #[{ on := 1, ground := Ground.data }, { on := 5, ground := Ground.data }, { on := 1, ground := Ground.chain }], guard := none }
def oT137 (p : String) : Oper := { dst := some 68, op := Op.unOp UnOp.not 4 (Operand.tmp 67), type := 4, pos := p, after := #[{ on := 6, ground := Ground.data }], guard := none }
def opsT13 (p : String) : List Oper := [oT130 p, oT131 p, oT132 p, oT133 p, oT134 p, oT135 p, oT136 p, oT137 p]
theorem opsT13_back (p : String) : backwards (opsT13 p) = true := by kernel_rfl
theorem opsT13_slots (p : String) : slotsOk 72 (opsT13 p) = true := by kernel_rfl
/-- What each slot comes to. -/
def psiT13 (A : Option Addr) (L c k N : Nat) (bs : List UInt8) : Nat → Value → World → Prop
  | 0, v, _ => v = .int .u64 (N : Int)
  | 1, v, w => IsB w v (vb N)
  | 2, v, _ => v = .slice A L c
  | 3, v, _ => v = .int .i64 (k : Int)
  | 4, v, _ => v = .int .i64 ((k + 1 : Nat) : Int)
  | 5, v, _ => v = .slice A (k + 1) c
  | 6, v, _ => v = .bool (vb N == bs.take (k + 1))
  | 7, v, _ => v = .bool (!(vb N == bs.take (k + 1)))
  | _, _, _ => True
theorem psiT13_grew (A : Option Addr) (L c k N : Nat) (bs : List UInt8) : ∀ i v w w', psiT13 A L c k N bs i v w → Grew w w' → psiT13 A L c k N bs i v w' := by
  intro i v w w' h hg
  rcases i with _ | _ | _ | _ | _ | _ | _ | _ | i
  · exact h
  · exact IsB.grew h hg
  · exact h
  · exact h
  · exact h
  · exact h
  · exact h
  · exact h
  · trivial
set_option maxRecDepth 100000 in
set_option maxHeartbeats 4000000 in
theorem take_region {p : String} (A : Option Addr) (L c k N : Nat) (bs : List UInt8) (hN0 : N < 18446744073709551616) (hkl : k + 1 = (bs.take (k + 1)).length) (hkc : k + 1 ≤ c) (hk9 : k ≤ 9) (a : Act) (w : World) (Q : Exit → Act → World → Prop) (hN : a.tmps.size = 72) (h0 : a.tmps.getD 0 undef = .slice A L c) (h5 : a.tmps.getD 5 undef = .int .i64 (k : Int)) (h6 : a.tmps.getD 6 undef = .int .u64 (N : Int)) (hA : HasA w w.heap.size A bs) (hQ : ∀ (v62 : Value), ∀ (w' : World), IsB w' v62 (vb N) → Grew w w' → Q .normal (puts [(61, .int .u64 (N : Int)), (62, v62), (63, .slice A L c), (64, .int .i64 (k : Int)), (65, .int .i64 ((k + 1 : Nat) : Int)), (66, .slice A (k + 1) c), (67, .bool (vb N == bs.take (k + 1))), (68, .bool (!(vb N == bs.take (k + 1))))] a) w')
    : (Code.region 13 (opsT13 p).toArray true).wp Tryz.prog Q a w := by
  refine (wpIn_wide (n := 1)).1 (wpIn_region_vals 72 hN follows (opsT13_back p) (opsT13_slots p) Grew Grew.refl Grew.trans (psiT13 A L c k N bs) (psiT13_grew A L c k N bs) ?_ ?_)
  · intro i o d ho hd a' w' hF hR hp
    rcases i with _ | _ | _ | _ | _ | _ | _ | _ | i
    · obtain rfl : oT130 p = o := Option.some.inj ho
      obtain rfl : 61 = d := Option.some.inj hd
      exact step_move rfl rfl rfl (hF.at 6 rfl h6) ⟨_, rfl, rfl, Grew.refl _⟩
    · obtain rfl : oT131 p = o := Option.some.inj ho
      obtain rfl : 62 = d := Option.some.inj hd
      have q0 : a'.tmps.getD 61 undef = .int .u64 (N : Int) := hp 0 (oT130 p) 61 rfl rfl rfl
      exact step_gives rfl rfl rfl (enters_of Tryz.func59 (by kernel_rfl) rfl) (show Array.map a'.eval #[.tmp 61] = _ from by simp only [List.map_toArray, List.map_cons, List.map_nil, Act.eval, q0]) (ref_Uint N hN0 w') (fun v w'' h hg => ⟨v, rfl, h, hg⟩)
    · obtain rfl : oT132 p = o := Option.some.inj ho
      obtain rfl : 63 = d := Option.some.inj hd
      exact step_move rfl rfl rfl (hF.at 0 rfl h0) ⟨_, rfl, rfl, Grew.refl _⟩
    · obtain rfl : oT133 p = o := Option.some.inj ho
      obtain rfl : 64 = d := Option.some.inj hd
      exact step_move rfl rfl rfl (hF.at 5 rfl h5) ⟨_, rfl, rfl, Grew.refl _⟩
    · obtain rfl : oT134 p = o := Option.some.inj ho
      obtain rfl : 65 = d := Option.some.inj hd
      have q3 : a'.tmps.getD 64 undef = .int .i64 (k : Int) := hp 3 (oT133 p) 64 rfl rfl rfl
      exact step_bin rfl rfl rfl q3 rfl (guard_int _ _ _ _ _ _ _ _ _) (run_addi _ _ _ _ (by omega) (by omega)) ⟨_, rfl, rfl, Grew.refl _⟩
    · obtain rfl : oT135 p = o := Option.some.inj ho
      obtain rfl : 66 = d := Option.some.inj hd
      have q2 : a'.tmps.getD 63 undef = .slice A L c := hp 2 (oT132 p) 63 rfl rfl rfl
      have q4 : a'.tmps.getD 65 undef = .int .i64 ((k + 1 : Nat) : Int) := hp 4 (oT134 p) 65 rfl rfl rfl
      exact step_upto rfl rfl rfl q2 q4 (run_upto _ _ _ _ _ (by omega) (by omega)) ⟨_, rfl, rfl, Grew.refl _⟩
    · obtain rfl : oT136 p = o := Option.some.inj ho
      obtain rfl : 67 = d := Option.some.inj hd
      have q1 : IsB w' (a'.tmps.getD 62 undef) (vb N) := hp 1 (oT131 p) 62 rfl rfl rfl
      have q5 : a'.tmps.getD 66 undef = .slice A (k + 1) c := hp 5 (oT135 p) 66 rfl rfl rfl
      obtain ⟨A1, L1, c1, hv1, hL1, hA1⟩ := q1
      refine step_call rfl rfl rfl trivial (fun h => by cases h) (enters_of Tryz.func128 (by kernel_rfl) rfl) ?_
      rw [show Array.map a'.eval #[.tmp 62, .tmp 66] = #[.slice A1 L1 c1, .slice A (k + 1) c] by simp only [List.map_toArray, List.map_cons, List.map_nil, Act.eval, hv1, q5]]
      refine (callsIn_wide.2 (same_any A1 L1 c1 (vb N) hL1 A (k + 1) c (bs.take (k + 1)) hkl w' hA1 ((HasA.below' hA hR.undraw).take (k + 1)))).mono ?_
      rintro e w'' ⟨rfl, rfl⟩
      exact ⟨_, rfl, _, rfl, rfl, Grew.refl _⟩
    · obtain rfl : oT137 p = o := Option.some.inj ho
      obtain rfl : 68 = d := Option.some.inj hd
      have q6 : a'.tmps.getD 67 undef = .bool (vb N == bs.take (k + 1)) := hp 6 (oT136 p) 67 rfl rfl rfl
      exact step_un rfl rfl rfl q6 (run_not _ _) ⟨_, rfl, rfl, Grew.refl _⟩
    · exact absurd ((Array.getElem?_eq_some_iff.1 ho).1) (by simp [opsT13])
  · intro a' w' hF hR hp
    have e0 : psiT13 A L c k N bs 0 (a'.tmps.getD 61 undef) w' := hp 0 (oT130 p) 61 rfl rfl
    have e1 : psiT13 A L c k N bs 1 (a'.tmps.getD 62 undef) w' := hp 1 (oT131 p) 62 rfl rfl
    have e2 : psiT13 A L c k N bs 2 (a'.tmps.getD 63 undef) w' := hp 2 (oT132 p) 63 rfl rfl
    have e3 : psiT13 A L c k N bs 3 (a'.tmps.getD 64 undef) w' := hp 3 (oT133 p) 64 rfl rfl
    have e4 : psiT13 A L c k N bs 4 (a'.tmps.getD 65 undef) w' := hp 4 (oT134 p) 65 rfl rfl
    have e5 : psiT13 A L c k N bs 5 (a'.tmps.getD 66 undef) w' := hp 5 (oT135 p) 66 rfl rfl
    have e6 : psiT13 A L c k N bs 6 (a'.tmps.getD 67 undef) w' := hp 6 (oT136 p) 67 rfl rfl
    have e7 : psiT13 A L c k N bs 7 (a'.tmps.getD 68 undef) w' := hp 7 (oT137 p) 68 rfl rfl
    rw [hF.puts [(61, .int .u64 (N : Int)), (62, a'.tmps.getD 62 undef), (63, .slice A L c), (64, .int .i64 (k : Int)), (65, .int .i64 ((k + 1 : Nat) : Int)), (66, .slice A (k + 1) c), (67, .bool (vb N == bs.take (k + 1))), (68, .bool (!(vb N == bs.take (k + 1))))] ?_ rfl (by rw [hN]; rfl)]
    · exact hQ _ w' e1 hR.undraw
    · intro x hx
      simp only [List.mem_cons, List.not_mem_nil, or_false] at hx
      rcases hx with rfl | rfl | rfl | rfl | rfl | rfl | rfl | rfl
      · exact e0
      · exact rfl
      · exact e2
      · exact e3
      · exact e4
      · exact e5
      · exact e6
      · exact e7
end Go.Proofs.YtdiihaeelcbjbaaGreatDoor

-- RefTake
namespace Go.Proofs.YtdiihaeelcbjbaaGreatDoor
open Go.RowKit

/-- What it answers. -/
def tkV (bs : List UInt8) : Value := match rdU bs with
  | .ok n rest => .tuple #[.int .u64 (n : Int), .int .i64 ((bs.length - rest.length : Nat) : Int), .int .i64 0]
  | .short => .tuple #[.int .u64 0, .int .i64 0, .int .i64 10]
  | .form _ => .tuple #[.int .u64 0, .int .i64 0, .int .i64 11]
theorem tkV_short {bs : List UInt8} (h : rdU bs = .short) : tkV bs = .tuple #[.int .u64 0, .int .i64 0, .int .i64 10] := by unfold tkV; rw [h]
theorem tkV_form {bs r : List UInt8} (h : rdU bs = .form r) : tkV bs = .tuple #[.int .u64 0, .int .i64 0, .int .i64 11] := by unfold tkV; rw [h]
theorem tkV_ok {bs r : List UInt8} {n : Nat} (h : rdU bs = .ok n r) : tkV bs = .tuple #[.int .u64 (n : Int), .int .i64 ((bs.length - r.length : Nat) : Int), .int .i64 0] := by unfold tkV; rw [h]

theorem or7 (V g : Nat) (hV : V * 128 < 18446744073709551616) (hg : g < 256) : bits .or .u64 ((V : Int) * 128) (IntKind.u64.wrap (bits .and .u8 (g : Int) 127)) = ((g % 128 + 128 * V : Nat) : Int) := by
  have h1 : bits .and .u8 (g : Int) 127 = ((g % 128 : Nat) : Int) := by
    have := u8_and_nat g 127 hg (by omega)
    rw [show ((127 : Nat) : Int) = 127 from rfl] at this
    rw [this, and127 g hg]
  have h2 : IntKind.u64.wrap ((g % 128 : Nat) : Int) = ((g % 128 : Nat) : Int) := by rw [IntKind.wrap_u64]; omega
  have h3 : (V : Int) * 128 = ((V * 128 : Nat) : Int) := by omega
  rw [h1, h2, h3, u64_or_nat _ _ hV (by omega), Nat.or_comm, show V * 128 = V * 2 ^ 7 from rfl, or_disjoint _ _ _ (by omega)]
  omega
set_option maxRecDepth 100000 in
set_option maxHeartbeats 2000000 in
theorem ref_Take01 (A : Option Addr) (L c : Nat) (bs : List UInt8) (hL : L = bs.length) (hlen : L ≤ 1000000) (hcap : L ≤ c) (w : World) (hA : HasA w w.heap.size A bs) :
    Calls Tryz.prog 114 #[.slice A L c] w fun e W' => e = .returned (tkV bs) ∧ Below w.heap.size w W' := by
  have HL := Lib.hid hL
  have HA := Lib.hid hA
  clear hL hA
  have hli : (L : Int) ≤ 1000000 := by omega
  go_enter Tryz.func114, Tryz.ntmps114
  go_wp2
  go_loop [5] (fun i => ∃ k : Nat, k ≤ 10 ∧ k ≤ L ∧ i = .int .i64 (k : Int) ∧ Hid (Hi (bs.take k))) (fun i => 10 - (intOf i).toNat)
  case atStart => exact ⟨0, by omega, by omega, rfl, Lib.hid Hi.nil⟩
  case round =>
    obtain ⟨k, hk10, hkL, rfl, hhi⟩ := hrel
    by_cases hkL' : k < L
    · have hkb : k < bs.length := by have := HL.out; omega
      obtain ⟨b, o, rfl, _, hcell⟩ := HA.out (by rintro rfl; simp at hkb)
      have hx : w.cell? ⟨b, o + k, none⟩ = some (.int .u8 (bs[k].toNat : Int)) := hcell k hkb
      obtain ⟨y, hy⟩ : ∃ y, y = bs[k].toNat := ⟨_, rfl⟩
      have hyl : y < 256 := by rw [hy]; exact bs[k].toNat_lt
      have HY := Lib.hid hy
      have HC := Lib.hid hcell
      rw [← hy] at hx
      clear hy hcell
      have hki : (k : Int) < L := by omega
      by_cases hk : k < 10
      · have hk10i : (k : Int) < 10 := by omega
        by_cases h128 : 128 ≤ y
        · have h128i : (128 : Int) ≤ y := by omega
          go_wp2
          refine ⟨⟨k + 1, by omega, by omega, by congr 1, Lib.hid (hhi.out.snoc hkb (by rw [← HY.out]; exact h128))⟩, by simp only [intOf]; omega⟩
        · have h128i : ¬ (128 : Int) ≤ y := by omega
          have hk10f : ((k : Int) == 10) = false := by simp; omega
          by_cases hf : k = 9 ∧ 1 < y
          · obtain ⟨rfl, hy1⟩ := hf
            have hy1i : (1 : Int) < y := by omega
            have H9 := Lib.hid (tkV_form (take_ten bs hhi.out hkb (by rw [← HY.out]; exact hy1)))
            go_wp2
            go_ret3
            exact ⟨by rw [H9.out]; rfl, Below.refl _ _⟩
          · have hkLf : ((k : Int) == (L : Int)) = false := by simp; omega
            obtain ⟨hr, hnl⟩ := take_end bs k hhi.out hkb (by omega) (by rw [← HY.out]; omega) (fun e => by
              rw [← HY.out]
              rcases Nat.lt_or_ge 1 y with h | h
              · exact absurd ⟨e, h⟩ hf
              · exact h)
            obtain ⟨N, hN⟩ : ∃ N, N = valL (bs.take (k + 1)) := ⟨_, rfl⟩
            rw [← hN] at hr hnl
            have HR := Lib.hid hr
            have HN := Lib.hid hN
            clear hr hN
            have h9 : ((k : Int) == 9) = false ∨ (((k : Int) == 9) = true ∧ w.cell? ⟨b, o + 9, none⟩ = some (.int .u8 (y : Int)) ∧ ¬ (1 : Int) < y ∧ (9 : Int) < L) := by
              by_cases hk9 : k = 9
              · subst hk9
                exact .inr ⟨rfl, hx, by omega, by omega⟩
              · exact .inl (by simp; omega)
            rcases h9 with h9 | ⟨h9, hx9, hy9, hL9⟩
            all_goals
              go_wp2
              go_loop [6, 7] (fun n i => ∃ (j : Nat) (z : Int), j ≤ k + 1 ∧ i = .int .i64 z ∧ Hid (z = (j : Int) - 1) ∧ n = .int .u64 ((valL ((bs.take (k + 1)).drop j) : Nat) : Int)) (fun _ i => (intOf i + 1).toNat)
              case atStart =>
                refine ⟨k + 1, (k : Int), Nat.le_refl _, rfl, Lib.hid (by omega), ?_⟩
                rw [List.drop_of_length_le (by rw [List.length_take]; omega)]; rfl
              case round =>
                obtain ⟨j, z, hj, rfl, hz, rfl⟩ := hrel
                rcases j with _ | q
                · obtain rfl : z = -1 := by rw [hz.out]; rfl
                  rw [List.drop_zero, ← HN.out]
                  have hkl : k + 1 = (bs.take (k + 1)).length := by rw [List.length_take]; omega
                  have HKL := Lib.hid hkl
                  clear hkl
                  go_wp2
                  refine take_region (some ⟨b, o, none⟩) L c k N bs hnl HKL.out (by omega) (by omega) _ w _ rfl rfl rfl rfl HA.out ?_
                  intro v62 W hv62 hgW
                  have HG := Lib.hid hgW
                  clear hv62 hgW
                  by_cases hsame : vb N = bs.take (k + 1)
                  · have hsb : (vb N == bs.take (k + 1)) = true := by rw [hsame]; simp
                    have HE := Lib.hid (tkV_ok (HR.out.trans (if_pos hsame)))
                    rw [hsb]
                    clear hsame hsb
                    simp only [puts, List.foldl_cons, List.foldl_nil, Act.put, List.setIfInBounds_toArray, List.set_cons_succ, List.set_cons_zero]
                    go_wp2
                    go_ret3
                    refine ⟨?_, HG.out⟩
                    rw [HE.out, List.length_drop]
                    have hkb' : bs.length - (bs.length - (k + 1)) = k + 1 := by omega
                    rw [hkb']; rfl
                  · have hsb : (vb N == bs.take (k + 1)) = false := by simp [hsame]
                    have HE := Lib.hid (tkV_form (HR.out.trans (if_neg hsame)))
                    rw [hsb]
                    clear hsame hsb
                    simp only [puts, List.foldl_cons, List.foldl_nil, Act.put, List.setIfInBounds_toArray, List.set_cons_succ, List.set_cons_zero]
                    go_wp2
                    go_ret3
                    exact ⟨by rw [HE.out]; rfl, HG.out⟩
                · obtain rfl : z = (q : Int) := by rw [hz.out]; omega
                  have hqb : q < bs.length := by omega
                  have hq0 : (0 : Int) ≤ (q : Int) := by omega
                  have hqL : (q : Int) < L := by omega
                  have hxq : w.cell? ⟨b, o + q, none⟩ = some (.int .u8 (bs[q].toNat : Int)) := HC.out q hqb
                  obtain ⟨g, hg⟩ : ∃ g, g = bs[q].toNat := ⟨_, rfl⟩
                  have hgl : g < 256 := by rw [hg]; exact bs[q].toNat_lt
                  have HG := Lib.hid hg
                  rw [← hg] at hxq
                  clear hg
                  obtain ⟨V, hV⟩ : ∃ V, V = valL ((bs.take (k + 1)).drop (q + 1)) := ⟨_, rfl⟩
                  have hstep : valL ((bs.take (k + 1)).drop q) = g % 128 + 128 * V := by
                    have hq1 : q < (bs.take (k + 1)).length := by rw [List.length_take]; omega
                    rw [List.drop_eq_getElem_cons hq1, valL, ← hV, List.getElem_take, ← HG.out]
                  have hle := valL_drop_le (bs.take (k + 1)) q
                  rw [← HN.out, hstep] at hle
                  have hVl : V * 128 < 18446744073709551616 := by omega
                  have hVi : (V : Int) * 128 < 18446744073709551616 := by omega
                  have HV := Lib.hid hV
                  have HS := Lib.hid hstep
                  rw [← hV]
                  clear hV hstep hle
                  go_wp2
                  refine ⟨⟨q, (q : Int) - 1, by omega, rfl, Lib.hid rfl, ?_⟩, by simp only [intOf]; omega⟩
                  rw [or7 V g hVl hgl, HS.out]
      · obtain rfl : k = 10 := by omega
        have h9 : Hi (bs.take 9) := fun c hc => hhi.out c (by
          rw [List.take_succ_eq_append_getElem (show 9 < bs.length by omega)]; exact List.mem_append_left _ hc)
        have h9b : 128 ≤ (bs[9]'(by omega)).toNat := hhi.out _ (by
          rw [List.take_succ_eq_append_getElem (show 9 < bs.length by omega)]; exact List.mem_append_right _ (by simp))
        have H9 := Lib.hid (tkV_form (take_ten bs h9 (by omega) (by omega)))
        clear h9 h9b
        go_wp2
        go_ret3
        exact ⟨by rw [H9.out]; rfl, Below.refl _ _⟩
    · obtain rfl : k = L := by omega
      by_cases hk10' : k = 10
      · subst hk10'
        have hbl : 10 = bs.length := HL.out
        have h9 : Hi (bs.take 9) := fun c hc => hhi.out c (by
          rw [List.take_succ_eq_append_getElem (show 9 < bs.length by omega)]; exact List.mem_append_left _ hc)
        have h9b : 128 ≤ (bs[9]'(by omega)).toNat := hhi.out _ (by
          rw [List.take_succ_eq_append_getElem (show 9 < bs.length by omega)]; exact List.mem_append_right _ (by simp))
        have H9 := Lib.hid (tkV_form (take_ten bs h9 (by omega) (by omega)))
        clear h9 h9b hbl
        go_wp2
        go_ret3
        exact ⟨by rw [H9.out]; rfl, Below.refl _ _⟩
      · have H9 := Lib.hid (tkV_short (take_short bs k hhi.out HL.out (by omega)))
        have hki : ((k : Int) == 10) = false := by simp; omega
        go_wp2
        all_goals
          go_ret3
          exact ⟨by rw [H9.out]; rfl, Below.refl _ _⟩
end Go.Proofs.YtdiihaeelcbjbaaGreatDoor

-- RefFrame
namespace Go.Proofs.YtdiihaeelcbjbaaGreatDoor
open Go.RowKit

theorem leB4 (s : Nat) : leB 4 s = [UInt8.ofNat (s % 256), UInt8.ofNat (s / 256 % 256), UInt8.ofNat (s / 256 / 256 % 256), UInt8.ofNat (s / 256 / 256 / 256 % 256)] := rfl

theorem hasA_le4 (W : World) (s : Nat) (hs : s < 4294967296) : HasA (W.alloc (.cells #[.int .u8 ((s : Int) % 256), .int .u8 ((s : Int) / 256 % 256), .int .u8 ((s : Int) / 65536 % 256), .int .u8 ((s : Int) / 16777216)] 5)) (W.heap.size + 1) (some ⟨W.heap.size, 0, none⟩) (leB 4 s) := by
  have h := hasA_new W (leB 4 s)
  have e : ((leB 4 s).map enc).toArray = #[.int .u8 ((s : Int) % 256), .int .u8 ((s : Int) / 256 % 256), .int .u8 ((s : Int) / 65536 % 256), .int .u8 ((s : Int) / 16777216)] := by
    rw [leB4]
    simp only [List.map_cons, List.map_nil]
    rw [enc_ofNat (by omega), enc_ofNat (by omega), enc_ofNat (by omega), enc_ofNat (by omega)]
    congr 1
    simp only [List.cons.injEq, Value.int.injEq, true_and, and_true]
    omega
  rw [e] at h
  simpa using h

set_option maxHeartbeats 1000000 in
theorem ref_Frame (A : Option Addr) (L c : Nat) (bs : List UInt8) (hL : L = bs.length) (hlen : L ≤ 1000000) (w : World) (hA : HasA w w.heap.size A bs) :
    Calls Tryz.prog 35 #[.slice A L c] w (Gives w (frm bs)) := by
  obtain ⟨i0, hi, hz0, hz1, hz2⟩ := info_parts info5
  have HL := Lib.hid hL
  have HA := Lib.hid hA
  clear hL hA
  have hli : (L : Int) ≤ 1000000 := by omega
  have hv := vb_len10 (n := L) (by omega)
  have hvp : 0 < (vb L).length := List.length_pos_iff.2 (vb_ne _)
  go_enter Tryz.func35, Tryz.ntmps35
  go_wp2_with fail
  refine (ref_Sum A L c bs HL.out (by omega) w HA.out).mono ?_
  rintro e w' ⟨rfl, rfl⟩
  obtain ⟨s, hs⟩ : ∃ s, s = crcSum bs := ⟨_, rfl⟩
  have hsl : s < 4294967296 := by rw [hs]; exact crcSum_lt bs
  have HS := Lib.hid hs
  rw [← hs]
  clear hs
  go_wp2_with fail
  refine (ref_Uint L (by omega) w).mono ?_
  rintro e W1 ⟨g, L1, c1, rfl, hown1, hb1⟩
  have hl1 : L1 ≤ 10 ∧ 0 < L1 := by have := own_len hown1; omega
  obtain ⟨hl1a, hl1b⟩ := hl1
  have H1 := Lib.hid hown1
  have B1 := Lib.hid hb1
  clear hown1 hb1
  have HS4 := Lib.hid (hasA_le4 W1 s hsl)
  go_wp2_with (first
    | (at_builtin; refine wpList_append_has rfl (.tmp 11) (.tmp 26) 39 rfl w.heap.size 5 i0 Tryz.underlying39 hi hz0 hz1 hz2 _ L1 (vb L) rfl (H1.out.alloc _) _ _ 4 4 (leB 4 s) rfl rfl HS4.out (by omega) (by have := B1.out.size; simp; omega) ?_; intro v2 W2 hown2 hg2
       have hB2 : Below w.heap.size w W2 := (B1.out.alloc B1.out.size _).grown hg2 (by have := B1.out.size; simp; omega) (fun k e => by cases e; exact (H1.out.lt g rfl).1)
       have HA2 := Lib.hid (HA.out.below hB2)
       have HO2 := Lib.hid hown2
       have B2 := Lib.hid hB2
       clear hown2 hg2 hB2)
    | (at_builtin; refine wpList_append_has rfl (.tmp 28) (.tmp 29) 39 rfl w.heap.size 5 i0 Tryz.underlying39 hi hz0 hz1 hz2 _ (L1 + 4) (vb L ++ leB 4 s) rfl HO2.out _ _ L c bs rfl HL.out HA2.out (by omega) B2.out.size ?_; intro v3 W3 hown3 hg3)
    | fail)
  go_ret
  have hB3 : Below w.heap.size w W3 := B2.out.grown hg3 B2.out.size (fun k e => (HO2.out.lt k e).1)
  obtain ⟨g3, c3, rfl, _⟩ := hown3.form (by omega)
  refine ⟨g3, _, c3, rfl, ?_, hB3⟩
  have e : vb L ++ leB 4 s ++ bs = frm bs := by rw [frm, body, HS.out, ← HL.out, List.append_assoc]
  rw [← e]
  exact hown3
end Go.Proofs.YtdiihaeelcbjbaaGreatDoor

-- RefFrR
namespace Go.Proofs.YtdiihaeelcbjbaaGreatDoor
open Go.RowKit

def oRT100 (p : String) : Oper := { dst := some 39, op := Op.move (Operand.tmp 9), type := 39, pos := p, after := #[], guard := none }
def oRT101 (p : String) : Oper := { dst := some 40, op := Op.call { callee := Callee.value (Operand.func 35), args := #[Operand.tmp 39], argTypes := #[39] }, type := 39, pos := p, after := #[{ on := 0, ground := Ground.data }], guard := none }
def oRT102 (p : String) : Oper := { dst := some 41, op := Op.convert 39 9 (Operand.tmp 40), type := 9, pos := p, after := #[{ on := 1, ground := Ground.data }], guard := none }
def oRT103 (p : String) : Oper := { dst := some 42, op := Op.move (Operand.tmp 0), type := 39, pos := p, after := #[], guard := none }
def oRT104 (p : String) : Oper := { dst := some 43, op := Op.move (Operand.tmp 8), type := 3, pos := p, after := #[], guard := none }
def oRT105 (p : String) : Oper := { dst := some 44, op := Op.slice 39 (Operand.tmp 42) none (some (Operand.tmp 43)) none, type := 39, pos := p, after := #[{ on := 3, ground := Ground.data }, { on := 4, ground := Ground.data }], guard := none }
def oRT106 (p : String) : Oper := { dst := some 45, op := Op.convert 39 9 (Operand.tmp 44), type := 9, pos := p, after := #[{ on := 5, ground := Ground.data }], guard := none }
def oRT107 (p : String) : Oper := { dst := some 46, op := Op.binOp BinOp.neq 9 (Operand.tmp 41) (Operand.tmp 45) 9, type := 4, pos := p, after := #[{ on := 2, ground := Ground.data }, { on := 6, ground := Ground.data }], guard := none }
def opsRT10 (p : String) : List Oper := [oRT100 p, oRT101 p, oRT102 p, oRT103 p, oRT104 p, oRT105 p, oRT106 p, oRT107 p]
theorem opsRT10_back (p : String) : backwards (opsRT10 p) = true := by kernel_rfl
theorem opsRT10_slots (p : String) : slotsOk 49 (opsRT10 p) = true := by kernel_rfl
/-- What each slot comes to. -/
def psiRT10 (A A2 : Option Addr) (L c n c2 m : Nat) (bs x : List UInt8) : Nat → Value → World → Prop
  | 0, v, _ => v = .slice A2 n c2
  | 1, v, w => IsB w v (frm x)
  | 2, v, _ => v = .string (str (frm x))
  | 3, v, _ => v = .slice A L c
  | 4, v, _ => v = .int .i64 (m : Int)
  | 5, v, _ => v = .slice A m c
  | 6, v, _ => v = .string (str (bs.take m))
  | 7, v, _ => v = .bool (frm x != bs.take m)
  | _, _, _ => True
theorem psiRT10_grew (A A2 : Option Addr) (L c n c2 m : Nat) (bs x : List UInt8) : ∀ i v w w', psiRT10 A A2 L c n c2 m bs x i v w → Grew w w' → psiRT10 A A2 L c n c2 m bs x i v w' := by
  intro i v w w' h hg
  rcases i with _ | _ | _ | _ | _ | _ | _ | _ | i
  · exact h
  · exact IsB.grew h hg
  · exact h
  · exact h
  · exact h
  · exact h
  · exact h
  · exact h
  · trivial
set_option maxRecDepth 100000 in
set_option maxHeartbeats 4000000 in
theorem rtake_region {p : String} (A A2 : Option Addr) (L c n c2 m : Nat) (bs x : List UInt8) (hxl : n = x.length) (hn : n ≤ 65536) (hm : m = (bs.take m).length) (hmc : m ≤ c) (hm2 : m ≤ 1000000) (a : Act) (w : World) (Q : Exit → Act → World → Prop) (hN : a.tmps.size = 49) (h0 : a.tmps.getD 0 undef = .slice A L c) (h8 : a.tmps.getD 8 undef = .int .i64 (m : Int)) (h9 : a.tmps.getD 9 undef = .slice A2 n c2) (hA : HasA w w.heap.size A bs) (hA2 : HasA w w.heap.size A2 x) (hQ : ∀ (v40 : Value), ∀ (w' : World), IsB w' v40 (frm x) → Grew w w' → Q .normal (puts [(39, .slice A2 n c2), (40, v40), (41, .string (str (frm x))), (42, .slice A L c), (43, .int .i64 (m : Int)), (44, .slice A m c), (45, .string (str (bs.take m))), (46, .bool (frm x != bs.take m))] a) w')
    : (Code.region 10 (opsRT10 p).toArray true).wp Tryz.prog Q a w := by
  refine (wpIn_wide (n := 1)).1 (wpIn_region_vals 49 hN follows (opsRT10_back p) (opsRT10_slots p) Grew Grew.refl Grew.trans (psiRT10 A A2 L c n c2 m bs x) (psiRT10_grew A A2 L c n c2 m bs x) ?_ ?_)
  · intro i o d ho hd a' w' hF hR hp
    rcases i with _ | _ | _ | _ | _ | _ | _ | _ | i
    · obtain rfl : oRT100 p = o := Option.some.inj ho
      obtain rfl : 39 = d := Option.some.inj hd
      exact step_move rfl rfl rfl (hF.at 9 rfl h9) ⟨_, rfl, rfl, Grew.refl _⟩
    · obtain rfl : oRT101 p = o := Option.some.inj ho
      obtain rfl : 40 = d := Option.some.inj hd
      have q0 : a'.tmps.getD 39 undef = .slice A2 n c2 := hp 0 (oRT100 p) 39 rfl rfl rfl
      exact step_gives rfl rfl rfl (enters_of Tryz.func35 (by kernel_rfl) rfl) (show Array.map a'.eval #[.tmp 39] = _ from by simp only [List.map_toArray, List.map_cons, List.map_nil, Act.eval, q0]) (ref_Frame A2 n c2 x hxl (by omega) w' (HasA.below' hA2 hR.undraw)) (fun v w'' h hg => ⟨v, rfl, h, hg⟩)
    · obtain rfl : oRT102 p = o := Option.some.inj ho
      obtain rfl : 41 = d := Option.some.inj hd
      have q1 : IsB w' (a'.tmps.getD 40 undef) (frm x) := hp 1 (oRT101 p) 40 rfl rfl rfl
      exact step_conv rfl rfl rfl (show IsB w' (a'.tmps.getD 40 undef) _ from q1) ⟨_, rfl, rfl, Grew.refl _⟩
    · obtain rfl : oRT103 p = o := Option.some.inj ho
      obtain rfl : 42 = d := Option.some.inj hd
      exact step_move rfl rfl rfl (hF.at 0 rfl h0) ⟨_, rfl, rfl, Grew.refl _⟩
    · obtain rfl : oRT104 p = o := Option.some.inj ho
      obtain rfl : 43 = d := Option.some.inj hd
      exact step_move rfl rfl rfl (hF.at 8 rfl h8) ⟨_, rfl, rfl, Grew.refl _⟩
    · obtain rfl : oRT105 p = o := Option.some.inj ho
      obtain rfl : 44 = d := Option.some.inj hd
      have q3 : a'.tmps.getD 42 undef = .slice A L c := hp 3 (oRT103 p) 42 rfl rfl rfl
      have q4 : a'.tmps.getD 43 undef = .int .i64 (m : Int) := hp 4 (oRT104 p) 43 rfl rfl rfl
      exact step_upto rfl rfl rfl q3 q4 (run_upto _ _ _ _ _ (by omega) (by omega)) ⟨_, rfl, rfl, Grew.refl _⟩
    · obtain rfl : oRT106 p = o := Option.some.inj ho
      obtain rfl : 45 = d := Option.some.inj hd
      have q5 : a'.tmps.getD 44 undef = .slice A m c := hp 5 (oRT105 p) 44 rfl rfl rfl
      exact step_cv rfl rfl rfl q5 (run_conv ((HasA.below' hA hR.undraw).take m) _ Tryz.underlying39 Tryz.underlying5 Tryz.underlying9 hm) ⟨_, rfl, rfl, Grew.refl _⟩
    · obtain rfl : oRT107 p = o := Option.some.inj ho
      obtain rfl : 46 = d := Option.some.inj hd
      have q2 : a'.tmps.getD 41 undef = .string (str (frm x)) := hp 2 (oRT102 p) 41 rfl rfl rfl
      have q6 : a'.tmps.getD 45 undef = .string (str (bs.take m)) := hp 6 (oRT106 p) 45 rfl rfl rfl
      exact step_bin rfl rfl rfl q2 q6 (guard_str _ _ _ _ _ _ _) (run_neq _ _ _) ⟨_, rfl, rfl, Grew.refl _⟩
    · exact absurd ((Array.getElem?_eq_some_iff.1 ho).1) (by simp [opsRT10])
  · intro a' w' hF hR hp
    have e0 : psiRT10 A A2 L c n c2 m bs x 0 (a'.tmps.getD 39 undef) w' := hp 0 (oRT100 p) 39 rfl rfl
    have e1 : psiRT10 A A2 L c n c2 m bs x 1 (a'.tmps.getD 40 undef) w' := hp 1 (oRT101 p) 40 rfl rfl
    have e2 : psiRT10 A A2 L c n c2 m bs x 2 (a'.tmps.getD 41 undef) w' := hp 2 (oRT102 p) 41 rfl rfl
    have e3 : psiRT10 A A2 L c n c2 m bs x 3 (a'.tmps.getD 42 undef) w' := hp 3 (oRT103 p) 42 rfl rfl
    have e4 : psiRT10 A A2 L c n c2 m bs x 4 (a'.tmps.getD 43 undef) w' := hp 4 (oRT104 p) 43 rfl rfl
    have e5 : psiRT10 A A2 L c n c2 m bs x 5 (a'.tmps.getD 44 undef) w' := hp 5 (oRT105 p) 44 rfl rfl
    have e6 : psiRT10 A A2 L c n c2 m bs x 6 (a'.tmps.getD 45 undef) w' := hp 6 (oRT106 p) 45 rfl rfl
    have e7 : psiRT10 A A2 L c n c2 m bs x 7 (a'.tmps.getD 46 undef) w' := hp 7 (oRT107 p) 46 rfl rfl
    rw [hF.puts [(39, .slice A2 n c2), (40, a'.tmps.getD 40 undef), (41, .string (str (frm x))), (42, .slice A L c), (43, .int .i64 (m : Int)), (44, .slice A m c), (45, .string (str (bs.take m))), (46, .bool (frm x != bs.take m))] ?_ rfl (by rw [hN]; rfl)]
    · exact hQ _ w' e1 hR.undraw
    · intro x hx
      simp only [List.mem_cons, List.not_mem_nil, or_false] at hx
      rcases hx with rfl | rfl | rfl | rfl | rfl | rfl | rfl | rfl
      · exact e0
      · exact rfl
      · exact e2
      · exact e3
      · exact e4
      · exact e5
      · exact e6
      · exact e7
end Go.Proofs.YtdiihaeelcbjbaaGreatDoor

-- RefFrTake
namespace Go.Proofs.YtdiihaeelcbjbaaGreatDoor
open Go.RowKit

/-- What taking a frame gives back: contents, size and no error, or nothing and the error. -/
def TakePost (w : World) (bs : List UInt8) (e : Ending) (W' : World) : Prop :=
  (∃ x n v, tk bs = .ok x n ∧ e = .returned (.tuple #[v, .int .i64 (n : Int), .int .i64 0]) ∧ IsB W' v x ∧ Below w.heap.size w W') ∨
  (∃ (k : Nat) (v : Value), tk bs = .err k ∧ e = .returned (.tuple #[v, .int .i64 0, .int .i64 (k : Int)]) ∧ IsB W' v [] ∧ Below w.heap.size w W')
/-- A slice of the bytes X below block B. -/
def IsBat (B : Nat) (w : World) (v : Value) (X : List UInt8) : Prop := ∃ A L c, v = .slice A L c ∧ L = X.length ∧ HasA w B A X
theorem IsBat.below {B : Nat} {w w' : World} {v : Value} {X : List UInt8} (h : IsBat B w v X) (hb : Below B w w') : IsBat B w' v X := by
  obtain ⟨A, L, c, hv, hL, hA⟩ := h
  exact ⟨A, L, c, hv, hL, hA.below hb⟩
theorem IsBat.isB {B : Nat} {w : World} {v : Value} {X : List UInt8} (h : IsBat B w v X) (hB : B ≤ w.heap.size) : IsB w v X := by
  obtain ⟨A, L, c, hv, hL, hA⟩ := h
  exact ⟨A, L, c, hv, hL, hA.more hB⟩
theorem IsBat.slice {B : Nat} {w : World} {v : Value} {X : List UInt8} (h : IsBat B w v X) : v.oneCell' = true := by
  obtain ⟨A, L, c, rfl, _⟩ := h
  rfl
/-- The same, the contents lying in what came in. -/
def TakePostR (B : Nat) (w : World) (bs : List UInt8) (e : Ending) (W' : World) : Prop :=
  (∃ x n v, tk bs = .ok x n ∧ e = .returned (.tuple #[v, .int .i64 (n : Int), .int .i64 0]) ∧ IsBat B W' v x ∧ Below w.heap.size w W') ∨
  (∃ (k : Nat), tk bs = .err k ∧ e = .returned (.tuple #[.slice none 0 0, .int .i64 0, .int .i64 (k : Int)]) ∧ Below w.heap.size w W')
theorem IsB.none (w : World) : IsB w (.slice none 0 0) [] := ⟨_, _, _, rfl, rfl, HasA.nil _ _ _⟩

theorem frm_ne_iff (n : Nat) (rest x : List UInt8) (hx : x = (rest.drop 4).take n) (hl : 4 + n ≤ rest.length) : (frm x != (vb n ++ rest).take ((vb n).length + (4 + n))) = !(decide (rest.take 4 = leB 4 (crcSum x))) := by
  have hxl : x.length = n := by rw [hx, List.length_take, List.length_drop]; omega
  have e : (vb n ++ rest).take ((vb n).length + (4 + n)) = vb n ++ (rest.take 4 ++ x) := by
    rw [List.take_append, List.take_of_length_le (by omega), Nat.add_sub_cancel_left, List.take_add, ← hx]
  rw [e, frm, hxl, body, bne]
  congr 1
  by_cases h : rest.take 4 = leB 4 (crcSum x)
  · rw [h]; simp
  · have h2 : ¬ (vb n ++ (leB 4 (crcSum x) ++ x) = vb n ++ (rest.take 4 ++ x)) := fun e => h (List.append_cancel_right (List.append_cancel_left e)).symm
    rw [beq_eq_false_iff_ne.2 h2]
    simp [h]

set_option maxRecDepth 100000 in
set_option maxHeartbeats 2000000 in
theorem ref_FTake (A : Option Addr) (L c : Nat) (bs : List UInt8) (hL : L = bs.length) (hlen : L ≤ 1000000) (hcap : L ≤ c) (w : World) (B : Nat) (hBw : B ≤ w.heap.size) (hAB : HasA w B A bs) :
    Calls Tryz.prog 84 #[.slice A L c] w (TakePostR B w bs) := by
  have hA := hAB.more hBw
  have HAB := Lib.hid hAB
  have HL := Lib.hid hL
  have HA := Lib.hid hA
  clear hL hA hAB
  have hli : (L : Int) ≤ 1000000 := by omega
  cases hr : rdU bs with
  | short =>
    have HE := Lib.hid (tkV_short hr)
    have HT := Lib.hid (tk_of_short hr)
    clear hr
    go_enter Tryz.func84, Tryz.ntmps84
    go_wp2_with fail
    refine (ref_Take01 A L c bs HL.out hlen hcap w HA.out).mono ?_
    rintro e W1 ⟨rfl, hb1⟩
    rw [HE.out]
    have B1 := Lib.hid hb1
    clear hb1
    go_wp2
    go_ret3
    exact .inr ⟨10, HT.out, rfl, B1.out⟩
  | form r =>
    have HE := Lib.hid (tkV_form hr)
    have HT := Lib.hid (tk_of_form hr)
    clear hr
    go_enter Tryz.func84, Tryz.ntmps84
    go_wp2_with fail
    refine (ref_Take01 A L c bs HL.out hlen hcap w HA.out).mono ?_
    rintro e W1 ⟨rfl, hb1⟩
    rw [HE.out]
    have B1 := Lib.hid hb1
    clear hb1
    go_wp2
    go_ret3
    exact .inr ⟨11, HT.out, rfl, B1.out⟩
  | ok n rest =>
    obtain ⟨hbs, hn64⟩ := rdU_ok hr
    have hT := tk_of_ok hr
    have hE := tkV_ok hr
    have hkl : bs.length - rest.length = (vb n).length := by rw [hbs]; simp
    rw [hkl] at hE
    obtain ⟨k, hk⟩ : ∃ k, k = (vb n).length := ⟨_, rfl⟩
    have hk10 : k ≤ 10 := by rw [hk]; exact vb_len10 hn64
    have hkr : L = k + rest.length := by rw [HL.out, hbs, List.length_append, hk]
    rw [← hk] at hE
    have HE := Lib.hid hE
    have HB := Lib.hid hbs
    have HK := Lib.hid hk
    clear hE hbs hk hkl hr
    by_cases hn1 : n < 1
    · obtain rfl : n = 0 := by omega
      have HT := Lib.hid (hT.trans (show tkR 0 rest = .err 11 by unfold tkR; rw [if_pos (by omega)]))
      clear hT hkr
      go_enter Tryz.func84, Tryz.ntmps84
      go_wp2_with fail
      refine (ref_Take01 A L c bs HL.out hlen hcap w HA.out).mono ?_
      rintro e W1 ⟨rfl, hb1⟩
      rw [HE.out]
      have B1 := Lib.hid hb1
      clear hb1
      go_wp2
      go_ret3
      exact .inr ⟨11, HT.out, rfl, B1.out⟩
    · have hn1i : ¬ (n : Int) < 1 := by omega
      by_cases hn2 : 65536 < n
      · have hn2i : (65536 : Int) < n := by omega
        have HT := Lib.hid (hT.trans (show tkR n rest = .err 11 by unfold tkR; rw [if_pos (by omega)]))
        clear hT hkr
        go_enter Tryz.func84, Tryz.ntmps84
        go_wp2_with fail
        refine (ref_Take01 A L c bs HL.out hlen hcap w HA.out).mono ?_
        rintro e W1 ⟨rfl, hb1⟩
        rw [HE.out]
        have B1 := Lib.hid hb1
        clear hb1
        go_wp2
        go_ret3
        exact .inr ⟨11, HT.out, rfl, B1.out⟩
      · have hn2i : ¬ (65536 : Int) < n := by omega
        by_cases hsh : rest.length < 4 + n
        · have hshi : (L : Int) < (k : Int) + 4 + (n : Int) := by omega
          have HT := Lib.hid (hT.trans (show tkR n rest = .err 10 by unfold tkR; rw [if_neg (by omega), if_pos (by omega)]))
          clear hT hkr
          go_enter Tryz.func84, Tryz.ntmps84
          go_wp2_with fail
          refine (ref_Take01 A L c bs HL.out hlen hcap w HA.out).mono ?_
          rintro e W1 ⟨rfl, hb1⟩
          rw [HE.out]
          have B1 := Lib.hid hb1
          clear hb1
          go_wp2
          go_ret3
          exact .inr ⟨10, HT.out, rfl, B1.out⟩
        · have hshi : ¬ (L : Int) < (k : Int) + 4 + (n : Int) := by omega
          have hci : (k : Int) + 4 + (n : Int) ≤ c := by omega
          have hne : bs ≠ [] := by intro e; have := HL.out; rw [e] at this; simp at this; omega
          obtain ⟨b, o, hAe, hbB, hcell⟩ := HA.out hne
          subst hAe
          have HKR := Lib.hid hkr
          have HT := Lib.hid hT
          clear hcell hne hkr hT
          go_enter Tryz.func84, Tryz.ntmps84
          go_wp2_with fail
          refine (ref_Take01 _ L c bs HL.out hlen hcap w HA.out).mono ?_
          rintro e W1 ⟨rfl, hb1⟩
          rw [HE.out]
          have B1 := Lib.hid hb1
          clear hb1
          go_wp2
          rw [show k + 4 + n - (k + 4) = n by omega]
          obtain ⟨x, hx⟩ : ∃ x, x = (rest.drop 4).take n := ⟨_, rfl⟩
          have hxl : n = x.length := by rw [hx, List.length_take, List.length_drop]; omega
          have hdr : (bs.drop (k + 4)).take n = x := by
            rw [HB.out, hx, HK.out, ← List.drop_drop, List.drop_left]
          have hA2 : HasA W1 W1.heap.size (some ⟨b, o + (k + 4), none⟩) x := by
            rw [← hdr]
            exact ((HA.out.below' B1.out).cut b o (k + 4) rfl).take n
          have hA3 : HasA W1 B (some ⟨b, o + (k + 4), none⟩) x := by
            rw [← hdr]
            exact ((HAB.out.below (Below.mono B1.out hBw)).cut b o (k + 4) rfl).take n
          have hm : k + 4 + n = (bs.take (k + 4 + n)).length := by rw [List.length_take, ← HL.out, HKR.out]; omega
          have hcmp : (frm x != bs.take (k + 4 + n)) = !(decide (rest.take 4 = leB 4 (crcSum x))) := by
            have h := frm_ne_iff n rest x hx (by omega)
            rw [← HB.out, ← HK.out, show k + (4 + n) = k + 4 + n by omega] at h
            exact h
          refine rtake_region (some ⟨b, o, none⟩) (some ⟨b, o + (k + 4), none⟩) L c n (c - (k + 4)) (k + 4 + n) bs x hxl (by omega) hm (by omega) (by omega) _ W1 _ rfl rfl rfl rfl (HA.out.below' B1.out) hA2 ?_
          intro v40 W2 hv40 hg2
          rw [hcmp]
          have HX := Lib.hid hx
          have HXL := Lib.hid hxl
          have HA2 := Lib.hid hA3
          have HG2 := Lib.hid hg2
          clear hx hxl hdr hA2 hA3 hm hcmp hv40 hg2
          by_cases hsum : rest.take 4 = leB 4 (crcSum x)
          · have hd : decide (rest.take 4 = leB 4 (crcSum x)) = true := by simpa using hsum
            have HT2 := Lib.hid (HT.out.trans (show tkR n rest = .ok x (k + 4 + n) by
              unfold tkR
              rw [if_neg (by omega), if_neg hsh, ← HX.out, if_pos hsum, ← HK.out, Nat.add_assoc]))
            rw [hd]
            clear hsum hd
            simp only [puts, List.foldl_cons, List.foldl_nil, Act.put, List.setIfInBounds_toArray, List.set_cons_succ, List.set_cons_zero]
            go_wp2
            go_ret3
            refine .inl ⟨x, k + 4 + n, _, HT2.out, rfl, ⟨_, n, _, rfl, HXL.out, HA2.out.below (Below.mono HG2.out (Nat.le_trans hBw B1.out.size))⟩, B1.out.trans (Below.mono HG2.out B1.out.size)⟩
          · have hd : decide (rest.take 4 = leB 4 (crcSum x)) = false := by simpa using hsum
            have HT2 := Lib.hid (HT.out.trans (show tkR n rest = .err 12 by
              unfold tkR
              rw [if_neg (by omega), if_neg hsh, ← HX.out, if_neg hsum]))
            rw [hd]
            clear hsum hd
            simp only [puts, List.foldl_cons, List.foldl_nil, Act.put, List.setIfInBounds_toArray, List.set_cons_succ, List.set_cons_zero]
            go_wp2
            go_ret3
            exact .inr ⟨12, HT2.out, rfl, B1.out.trans (Below.mono HG2.out B1.out.size)⟩

theorem TakePostR.post {B : Nat} {w : World} {bs : List UInt8} {e : Ending} {W' : World} (hB : B ≤ w.heap.size) (h : TakePostR B w bs e W') : TakePost w bs e W' := by
  rcases h with ⟨x, n, v, h1, h2, h3, h4⟩ | ⟨k, h1, h2, h4⟩
  · exact .inl ⟨x, n, v, h1, h2, h3.isB (Nat.le_trans hB h4.size), h4⟩
  · exact .inr ⟨k, _, h1, h2, IsB.none _, h4⟩
end Go.Proofs.YtdiihaeelcbjbaaGreatDoor

-- RefFrAll
namespace Go.Proofs.YtdiihaeelcbjbaaGreatDoor
open Go.RowKit

theorem infoB : (Tryz.prog.info? 39).map (fun i => (i.zero, i.size, i.bytes)) = some (some (.slice none 0 0), 1, 24) := by kernel_rfl
theorem infoB_parts : ∃ i, Tryz.prog.info? 39 = some i ∧ i.zero = some (.slice none 0 0) ∧ i.size = 1 ∧ i.bytes = 24 := by
  obtain ⟨i, hi, h⟩ := Option.map_eq_some_iff.1 infoB
  simp only [Prod.mk.injEq] at h
  exact ⟨i, hi, h.1, h.2.1, h.2.2⟩

/-- v is a slice of slices of the bytes Xs. -/
def IsBB (w : World) (v : Value) (Xs : List (List UInt8)) : Prop := ∃ A L c, v = .slice A L c ∧ L = Xs.length ∧
  (Xs ≠ [] → ∃ b o, A = some ⟨b, o, none⟩ ∧ b < w.heap.size ∧ ∀ i (h : i < Xs.length), ∃ u, w.cell? ⟨b, o + i, none⟩ = some u ∧ IsB w u Xs[i])
theorem IsBB.grew {w w' : World} {v : Value} {Xs : List (List UInt8)} (h : IsBB w v Xs) (hg : Grew w w') : IsBB w' v Xs := by
  obtain ⟨A, L, c, hv, hL, hA⟩ := h
  refine ⟨A, L, c, hv, hL, fun hn => ?_⟩
  obtain ⟨b, o, hAe, hb, hc⟩ := hA hn
  refine ⟨b, o, hAe, Nat.lt_of_lt_of_le hb (Below.size hg), fun i hi => ?_⟩
  obtain ⟨u, hu, hI⟩ := hc i hi
  exact ⟨u, (Below.cell hg (p := ⟨b, o + i, none⟩) hb).trans hu, hI.grew hg⟩
/-- Values that are slices of bytes, one by one. -/
def AllB (P : Value → List UInt8 → Prop) (vs : List Value) (Xs : List (List UInt8)) : Prop := vs.length = Xs.length ∧ ∀ i (h : i < vs.length) (h' : i < Xs.length), P vs[i] Xs[i]
theorem AllB.nil {P : Value → List UInt8 → Prop} : AllB P [] [] := ⟨rfl, fun i h => by simp at h⟩
theorem AllB.snoc {P : Value → List UInt8 → Prop} {vs : List Value} {Xs : List (List UInt8)} {v : Value} {X : List UInt8} (h : AllB P vs Xs) (hv : P v X) : AllB P (vs ++ [v]) (Xs ++ [X]) := by
  refine ⟨by simp [h.1], fun i hi hi' => ?_⟩
  by_cases hl : i < vs.length
  · have hl' : i < Xs.length := by rw [← h.1]; exact hl
    rw [List.getElem_append_left hl, List.getElem_append_left hl']
    exact h.2 i hl hl'
  · have e : i = vs.length := by simp at hi; omega
    subst e
    have e2 : vs.length = Xs.length := h.1
    simp only [e2, List.getElem_concat_length]
    exact hv
theorem AllB.mono {P P' : Value → List UInt8 → Prop} {vs : List Value} {Xs : List (List UInt8)} (h : AllB P vs Xs) (hp : ∀ v X, P v X → P' v X) : AllB P' vs Xs := ⟨h.1, fun i h1 h2 => hp _ _ (h.2 i h1 h2)⟩
theorem IsBB.own {w : World} {base n : Nat} {e : TypeId} {v : Value} {vs : List Value} {Xs : List (List UInt8)} (h : w.ownsRow base e 1 v n vs) (hb : AllB (IsB w) vs Xs) : IsBB w v Xs := by
  have hl : vs.length = n := by have := h.1; simpa using this
  rcases h.2 with ⟨rfl, h0⟩ | ⟨g, cap, cur, rfl, _⟩
  · refine ⟨none, 0, 0, rfl, by have := hb.1; omega, fun hn => absurd (List.eq_nil_of_length_eq_zero (by have := hb.1; omega)) hn⟩
  · refine ⟨_, n, cap, rfl, by have := hb.1; omega, fun hn => ⟨g, 0, rfl, (h.lt g rfl).2, fun i hi => ?_⟩⟩
    have hi' : i < vs.length := by rw [hb.1]; exact hi
    refine ⟨vs[i], ?_, hb.2 i hi' hi⟩
    have := h.cells (g := g) rfl i vs[i] (by simp [hi'])
    rwa [addr_add] at this

theorem tk_err_pos (bs : List UInt8) : tk bs ≠ .err 0 := by
  unfold tk
  split
  · intro h; cases h
  · intro h; cases h
  · unfold tkR
    repeat' split
    all_goals (intro h; cases h)

/-- What taking all frames gives back. -/
def AllPost (w : World) (bs : List UInt8) (e : Ending) (W' : World) : Prop :=
  ∃ v, e = .returned (.tuple #[v, .int .i64 ((al bs).2.1 : Int), .int .i64 ((al bs).2.2 : Int)]) ∧ IsBB W' v (al bs).1 ∧ Below w.heap.size w W'

/-- The same, with the rows' own memory told: a row of the call's own, of slices of what lay before. -/
def AllOwn (B : Nat) (w : World) (bs : List UInt8) (e : Ending) (W' : World) : Prop :=
  ∃ v vs, e = .returned (.tuple #[v, .int .i64 ((al bs).2.1 : Int), .int .i64 ((al bs).2.2 : Int)]) ∧ W'.ownsRow w.heap.size 39 1 v (al bs).1.length vs ∧ AllB (IsBat B W') vs (al bs).1 ∧ Below w.heap.size w W'
theorem AllOwn.post {B : Nat} {w : World} {bs : List UInt8} {e : Ending} {W' : World} (hB : B ≤ w.heap.size) (h : AllOwn B w bs e W') : AllPost w bs e W' := by
  obtain ⟨v, vs, he, ho, ha, hb⟩ := h
  exact ⟨v, he, IsBB.own ho (ha.mono fun v X h => h.isB (Nat.le_trans hB hb.size)), hb⟩

/-- What the loop keeps. -/
def FA (B : Nat) (w : World) (bs : List UInt8) (v : Value) (p : Nat) (W : World) : Prop :=
  ∃ vs dn, W.ownsRow w.heap.size 39 1 v dn.length vs ∧ AllB (IsBat B W) vs dn ∧ al bs = (dn ++ (al (bs.drop p)).1, p + (al (bs.drop p)).2.1, (al (bs.drop p)).2.2) ∧ Below w.heap.size w W

theorem al_count (bs : List UInt8) : (al bs).1.length ≤ bs.length := by
  induction hn : bs.length using Nat.strongRecOn generalizing bs with
  | ind n ih =>
    by_cases hb : bs = []
    · subst hb; rw [al_nil]; simp
    · cases h : tk bs with
      | err e => rw [al_err hb h]; simp
      | ok x m =>
        have := tk_pos h
        have := ih (bs.drop m).length (by rw [List.length_drop]; omega) (bs.drop m) rfl
        rw [al_ok h]
        simp only [List.length_cons]
        rw [List.length_drop] at this
        omega

set_option maxRecDepth 100000 in
set_option maxHeartbeats 2000000 in
theorem ref_FAllO (A : Option Addr) (L c : Nat) (bs : List UInt8) (hL : L = bs.length) (hlen : L ≤ 1000000) (hcap : L ≤ c) (w : World) (B : Nat) (hBw : B ≤ w.heap.size) (hA : HasA w B A bs) :
    Calls Tryz.prog 53 #[.slice A L c] w (AllOwn B w bs) := by
  obtain ⟨iB, hi, hz0, hz1, hz2⟩ := infoB_parts
  have HL := Lib.hid hL
  have HA := Lib.hid hA
  clear hL hA
  have hli : (L : Int) ≤ 1000000 := by omega
  go_enter Tryz.func53, Tryz.ntmps53
  go_wp2
  go_loopw [5, 6] (fun v i wr => ∃ p : Nat, p ≤ L ∧ i = .int .i64 (p : Int) ∧ Hid (FA B w bs v p wr)) (fun _ i _ => L - (intOf i).toNat)
  case atStart =>
    refine ⟨0, Nat.zero_le _, rfl, Lib.hid ⟨[], [], World.ownsRow_nil _ _ _ _, AllB.nil, by simp, Below.refl _ _⟩⟩
  case round =>
    obtain ⟨p, hp, rfl, hfa⟩ := hrel
    by_cases hlt : p < L
    · have hpi : (p : Int) < L := by omega
      have hci : (L : Int) ≤ c := by omega
      have hbl := HL.out
      have hne : bs ≠ [] := by rintro rfl; simp at hbl; omega
      obtain ⟨b, o, hAe, hbB, -⟩ := HA.out hne
      subst hAe
      clear hne hbl
      obtain ⟨vs, dn, hown, hall, hal, hB⟩ := hfa.out
      have HD := Lib.hid (show L - p = (bs.drop p).length by rw [List.length_drop, HL.out])
      have HA2 := Lib.hid ((HA.out.below (Below.mono hB hBw)).cut b o p rfl)
      have hsz := hB.size
      have HO := Lib.hid hown
      have HALL := Lib.hid hall
      have HAL := Lib.hid hal
      have B0 := Lib.hid hB
      clear hown hall hal hB hfa
      have HD2 := Lib.hid (show L - p ≤ 1000000 by omega)
      cases htk : tk (bs.drop p) with
      | err e =>
        have HTK := Lib.hid htk
        clear htk
        go_wp2_with fail
        refine (ref_FTake _ (L - p) (c - p) (bs.drop p) HD.out HD2.out (by omega) wr B (Nat.le_trans hBw hsz) HA2.out).mono ?_
        rintro e1 W1 (⟨x, n, v, h1, h2, h3, h4⟩ | ⟨k, h1, rfl, h4⟩)
        · rw [HTK.out] at h1; cases h1
        · rw [HTK.out] at h1
          cases h1
          have hek : ((e : Int) != 0) = true := by
            rcases Nat.eq_zero_or_pos e with h0 | h0
            · subst h0; exact absurd HTK.out (tk_err_pos _)
            · simp; omega
          have B1 := Lib.hid (B0.out.trans (Below.mono h4 hsz))
          have HO1 := Lib.hid (own_below HO.out h4)
          have HALL1 := Lib.hid (HALL.out.mono fun v X h => h.below (Below.mono h4 (Nat.le_trans hBw hsz)))
          have HAL1 := Lib.hid (HAL.out.trans (by rw [al_err (by intro h0; have := congrArg List.length h0; rw [List.length_drop, ← HL.out] at this; simp at this; omega) HTK.out]))
          clear h4
          go_wp2
          go_ret3
          refine ⟨u5, vs, ?_, ?_, ?_, B1.out⟩
          · rw [HAL1.out]; simp
          · rw [HAL1.out]; simpa using HO1.out
          · rw [HAL1.out]; simpa using HALL1.out
      | ok x n =>
        have htp := tk_pos htk
        have hcnt := al_count bs
        rw [HAL.out, ← HL.out] at hcnt
        simp only [List.length_append] at hcnt
        have hdl : dn.length ≤ 1000000 := by omega
        have hnp : n ≤ L - p := by rw [HD.out]; exact htp.2
        have hn5 := htp.1
        have hni : (p : Int) + (n : Int) ≤ 1000000 := by omega
        have HTK := Lib.hid htk
        clear htk htp hcnt
        go_wp2_with fail
        refine (ref_FTake _ (L - p) (c - p) (bs.drop p) HD.out HD2.out (by omega) wr B (Nat.le_trans hBw hsz) HA2.out).mono ?_
        rintro e1 W1 (⟨x', n', v, h1, rfl, h3, h4⟩ | ⟨k, h1, rfl, h4⟩)
        · rw [HTK.out] at h1
          cases h1
          have B1 := Lib.hid (B0.out.trans (Below.mono h4 hsz))
          have HO1 := Lib.hid (own_below HO.out h4)
          have HALL1 := Lib.hid (HALL.out.mono fun v X h => h.below (Below.mono h4 (Nat.le_trans hBw hsz)))
          have H3 := Lib.hid h3
          obtain ⟨Ax, Lx, cx, rfl, -⟩ := h3
          clear h4
          go_wp2_with (at_builtin; refine wpList_append_own _ rfl (.tmp 27) (.tmp 29) 75 rfl w.heap.size 39 iB (.slice none 0 0) 1 24 Tryz.underlying75 hi hz0 hz1 hz2 rfl (by decide) _ dn.length vs rfl (HO1.out.alloc _) ⟨W1.heap.size, 0, none⟩ 1 1 [.slice Ax Lx cx] rfl rfl (cell_one_new _ _ _) (fun u hu => by rw [List.mem_singleton.1 hu]; exact H3.out.slice) (by simp only [maxLen]; omega) (by omega) (by have := B1.out.size; simp; omega) ?_; intro v2 W2 hown2 hg2 _)
          have hB2 : Below w.heap.size w W2 := (B1.out.alloc B1.out.size _).grown hg2 (by have := B1.out.size; simp; omega) (fun k e => (HO1.out.lt k e).1)
          have hB12 : Below w.heap.size W1 W2 := ((Below.refl w.heap.size W1).alloc B1.out.size _).grown hg2 (by have := B1.out.size; simp; omega) (fun k e => (HO1.out.lt k e).1)
          refine ⟨⟨p + n, by omega, by congr 1, Lib.hid ⟨vs ++ [.slice Ax Lx cx], dn ++ [x], ?_, ?_, ?_, hB2⟩⟩, by simp only [intOf]; omega⟩
          · rw [List.length_append]; exact hown2
          · exact (HALL1.out.mono fun v X h => h.below (Below.mono hB12 hBw)).snoc (H3.out.below (Below.mono hB12 hBw))
          · rw [HAL.out, al_ok HTK.out, List.drop_drop]
            simp [Nat.add_assoc]
        · rw [HTK.out] at h1; cases h1
    · obtain rfl : p = L := by omega
      obtain ⟨vs, dn, hown, hall, hal, hB⟩ := hfa.out
      have hd : bs.drop p = [] := List.drop_of_length_le (by rw [← HL.out]; exact Nat.le_refl _)
      rw [hd, al_nil] at hal
      have HO := Lib.hid hown
      have HALL := Lib.hid hall
      have HAL := Lib.hid hal
      have B0 := Lib.hid hB
      clear hown hall hal hB hfa hd
      go_wp2
      go_ret3
      refine ⟨u5, vs, ?_, ?_, ?_, B0.out⟩
      · rw [HAL.out]; simp
      · rw [HAL.out]; simpa using HO.out
      · rw [HAL.out]; simpa using HALL.out

theorem ref_FAll (A : Option Addr) (L c : Nat) (bs : List UInt8) (hL : L = bs.length) (hlen : L ≤ 1000000) (hcap : L ≤ c) (w : World) (hA : HasA w w.heap.size A bs) :
    Calls Tryz.prog 53 #[.slice A L c] w (AllPost w bs) := (ref_FAllO A L c bs hL hlen hcap w w.heap.size (Nat.le_refl _) hA).mono fun _ _ h => h.post (Nat.le_refl _)
end Go.Proofs.YtdiihaeelcbjbaaGreatDoor

-- FrPost
namespace Go.Proofs.YtdiihaeelcbjbaaGreatDoor
open Go.RowKit

/-- frame.Put: the bytes, then the frame, in new memory; or the bytes, and why not. -/
def PutPost (w : World) (bs x : List UInt8) (e : Ending) (W' : World) : Prop :=
  (Fit x ∧ ∃ g L' c', e = .returned (.tuple #[.slice (some ⟨g, 0, none⟩) L' c', .int .i64 0]) ∧ W'.ownsRow w.heap.size 5 1 (.slice (some ⟨g, 0, none⟩) L' c') L' ((bs ++ frm x).map enc) ∧ Below w.heap.size w W') ∨
  (¬ Fit x ∧ ∃ v, e = .returned (.tuple #[v, .int .i64 3]) ∧ IsB W' v bs ∧ Below w.heap.size w W')
def PutSpec : Prop := ∀ (A : Option Addr) (L c : Nat) (bs : List UInt8) (A2 : Option Addr) (L2 c2 : Nat) (x : List UInt8) (w : World), L = bs.length → L ≤ 200000 → L ≤ c → L2 = x.length → L2 ≤ 200000 → L2 ≤ c2 → Tab w →
  HasA w w.heap.size A bs → HasA w w.heap.size A2 x → Calls Tryz.prog 100 #[.slice A L c, .slice A2 L2 c2] w (PutPost w bs x)
def AllSpec : Prop := ∀ (A : Option Addr) (L c : Nat) (bs : List UInt8) (w : World), L = bs.length → L ≤ 200000 → L ≤ c → Tab w → HasA w w.heap.size A bs → Calls Tryz.prog 117 #[.slice A L c] w (AllPost w bs)

theorem frm_a : frm [97] = [1, 48, 67, 208, 193, 97] := by
  have h1 : vb 1 = [1] := vb_lt (by omega)
  have h2 : leB 4 (crcSum [97]) = [48, 67, 208, 193] := by decide +kernel
  rw [frm, body, h2]
  exact congrArg (· ++ _) h1
theorem fit_a : Fit [97] := ⟨by decide, by decide⟩
theorem tk_a : tk (frm [97] ++ [7]) = .ok [97] 6 := by
  rw [tk_frm _ _ fit_a, frm_a]; rfl
theorem tk_0 : tk [0] = .err 11 := by
  have h : rdU [0] = .ok 0 [] := by decide
  rw [tk_of_ok h]; rfl
theorem not_fit_nil : ¬ Fit [] := by intro h; have := h.1; simp at this

end Go.Proofs.YtdiihaeelcbjbaaGreatDoor
