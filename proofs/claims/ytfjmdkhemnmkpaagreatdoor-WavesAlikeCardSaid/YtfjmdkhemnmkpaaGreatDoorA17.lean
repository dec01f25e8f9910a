/- Parts of the proof: CmGreat, WvAlP, WvAl, RxFoR, RxRm, KsI, KsRw, RxOr. -/
import Derived.Test.YtfjmdkhemnmkpaaGreatDoorA02
import Derived.Deep.DeepCutAuto
import Derived.Test.YtfjmdkhemnmkpaaGreatDoorA03
import Derived.Test.YtfjmdkhemnmkpaaGreatDoorA16
import Derived.Test.YtfjmdkhemnmkpaaGreatDoorA01
import Derived.Test.YtfjmdkhemnmkpaaGreatDoorProg
import Derived.Test.YtfjmdkhemnmkpaaGreatDoorRows
import Derived.Laws.BitsAllLaws
import Derived.Laws.Bits64
import Derived.Laws.BitsLemmas
import Derived.Below
import Derived.Laws.OwnMore
import Derived.Laws.MakeOwn
import Derived.Laws.CopyRow
import Derived.Laws.IdiomCopy
import Derived.Laws.BytesArg
import Derived.Shelf.Bytes.SlSmallAll
import Derived.Deep.AppendLies
import Derived.Deep.AppendSrc
import Derived.OwnWalk
import Derived.BigFrame
import Derived.OwnWalkIn
import Derived.Maps.AppendAt
import Derived.OrdersIn
import Derived.RangeFuncBox
import Derived.WalkKit
import Derived.Lib.Hide
import Derived.Lib.SliceRun
import Derived.ProofKit
import Derived.Deep.RegionHeld3
import Derived.RangeFuncNested
import Derived.RangeFuncBound
import Derived.RangeFuncCalls
import Derived.RangeFuncLeaves
import Derived.Test.YtfjmdkhemnmkpaaGreatDoorA08
import Derived.Test.YtfjmdkhemnmkpaaGreatDoorA10
import Derived.IntWalk
import Derived.Deep.DeepFit
import Derived.Deep.CutBlock
import Derived.Test.YtfjmdkhemnmkpaaGreatDoorA13
import Derived.Test.YtfjmdkhemnmkpaaGreatDoorA15
import Derived.Test.YtfjmdkhemnmkpaaGreatDoorA12
import Derived.Test.YtfjmdkhemnmkpaaGreatDoorA14
namespace Go.Proofs.YtfjmdkhemnmkpaaGreatDoor
open Go.RowKit
set_option maxRecDepth 100000 in
set_option maxHeartbeats 4000000 in
theorem GreatC_any (A : Option Addr) (L c : Nat) (l : List CmdV) (hl : L = l.length) (hL : L ≤ 140737488351232) (w : World) (hA : HasC w A l) :
    Calls Tryz.prog 5 #[.slice A L c] w fun e W' => e = .returned (.bool (GreatB l)) ∧ Below w.heap.size w W' := by
  have HL := Lib.hid hl
  have HA := Lib.hid hA
  have hLi : (L : Int) ≤ 140737488351232 := by omega
  clear hl hA hL
  by_cases h100 : 100 < L
  · have h1 : (100 : Int) < L := by omega
    go_enter Tryz.func5, Tryz.ntmps5
    go_wp2
    go_ret
    exact ⟨by rw [GreatB_iff.2 (.inl (by rw [← HL.out]; exact h100))]; rfl, Below.refl _ _⟩
  have h1 : ¬ (100 : Int) < L := by omega
  go_enter Tryz.func5, Tryz.ntmps5
  go_wp2
  go_loopw [3] (fun i wr => ∃ k : Nat, k ≤ L ∧ i = .int .i64 (k : Int) ∧ Hid (Below w.heap.size w wr ∧ ∀ j (h1 : j < l.length), j < k → ¬ (l[j]).great)) (fun i _ => L - (intOf i).toNat)
  case atStart => exact ⟨0, Nat.zero_le _, rfl, Lib.hid ⟨Below.refl _ _, fun j _ h => by omega⟩⟩
  case round =>
    obtain ⟨k, hk, rfl, hb⟩ := hrel
    by_cases hlt : k < L
    · have hki : (k : Int) < L := by omega
      have hk1 : k < l.length := by have := HL.out; omega
      obtain ⟨bk, o1, e1, l1, f1⟩ := HA.out (by rintro rfl; simp at hk1)
      subst e1
      have g1 := f1 k hk1
      obtain ⟨a, ha⟩ : ∃ a, a = l[k] := ⟨_, rfl⟩
      rw [← ha] at g1
      obtain ⟨acl, asq, akd, KA, KL, kc, ks, old, new, n⟩ := a
      have cA : ∀ i u, (#[.int .u32 (acl : Int), .int .u32 (asq : Int), .int .u8 (akd : Int), .slice KA KL kc, .string old, .string new, .int .i64 n] : Array Value)[i]? = some u → wr.cell? ⟨bk, o1 + k * 7 + i, none⟩ = some u := fun i u hu => (hb.out.1.cell (p := ⟨bk, o1 + k * 7 + i, none⟩) l1).trans (g1.1 i u hu)
      have a0 := cA 0 _ rfl
      have a1 := cA 1 _ rfl
      have a2 := cA 2 _ rfl
      have a3 := cA 3 _ rfl
      have a4 := cA 4 _ rfl
      have a5 := cA 5 _ rfl
      have a6 := cA 6 _ rfl
      simp only [Nat.add_zero] at a0
      have OK := Lib.hid (g1.2.below hb.out.1)
      have hKL : (KL : Int) ≤ 140737488351232 := by have := g1.2.max; simp only at this; omega
      have ho64 : (old.size : Int) ≤ 9223372036854775807 := by have := g1.2.old; simp only [maxLen] at this; omega
      have hn64 : (new.size : Int) ≤ 9223372036854775807 := by have := g1.2.new; simp only [maxLen] at this; omega
      have HE := Lib.hid ha
      clear cA g1 f1 ha
      go_upto_region 7 with (fail)
      obtain ⟨W2, hW2⟩ : ∃ W2, W2 = wr.alloc (Obj.cells #[.int .u32 (acl : Int), .int .u32 (asq : Int), .int .u8 (akd : Int), .slice KA KL kc, .string old, .string new, .int .i64 n] 57) := ⟨_, rfl⟩
      rw [← hW2]
      obtain ⟨p, hp⟩ : ∃ p, p = wr.heap.size := ⟨_, rfl⟩
      have hB : Below wr.heap.size wr W2 := by rw [hW2]; exact (Below.refl _ wr).alloc (Nat.le_refl _) _
      have k1 : W2.heap[p]? = some (.cells #[.int .u32 (acl : Int), .int .u32 (asq : Int), .int .u8 (akd : Int), .slice KA KL kc, .string old, .string new, .int .i64 n] 57 (0, 0)) := by
        rw [hW2, hp]; exact World.alloc_heap_new wr _
      rw [← hp]
      have x3 := blk_cell k1 3
      have x4 := blk_cell k1 4
      have x5 := blk_cell k1 5
      simp at x3 x4 x5
      have K1 := Lib.hid k1
      have HB := Lib.hid (hb.out.1.trans (Below.mono hB hb.out.1.size))
      have OK2 := Lib.hid (OK.out.below hB)
      clear hW2 hp hB k1 OK a0 a1 a2 a3 a4 a5 a6
      by_cases q1 : 500 < old.size
      · have q1i : (500 : Int) < old.size := by omega
        have hg : GreatC l := .inr ⟨k, hk1, by rw [← HE.out]; exact .inl q1⟩
        have HG := Lib.hid hg
        clear hg
        go_wp2
        go_ret
        exact ⟨by rw [GreatB_iff.2 HG.out]; rfl, HB.out⟩
      have q1i : ¬ (500 : Int) < old.size := by omega
      by_cases q2 : 500 < new.size
      · have q2i : (500 : Int) < new.size := by omega
        have hg : GreatC l := .inr ⟨k, hk1, by rw [← HE.out]; exact .inr (.inl q2)⟩
        have HG := Lib.hid hg
        clear hg
        go_wp2
        go_ret
        exact ⟨by rw [GreatB_iff.2 HG.out]; rfl, HB.out⟩
      have q2i : ¬ (500 : Int) < new.size := by omega
      by_cases q3 : 100 < KL
      · have q3i : (100 : Int) < KL := by omega
        have hg : GreatC l := .inr ⟨k, hk1, by rw [← HE.out]; exact .inr (.inr (.inl (by have := OK2.out.len; simp only at *; omega)))⟩
        have HG := Lib.hid hg
        clear hg
        go_wp2
        go_ret
        exact ⟨by rw [GreatB_iff.2 HG.out]; rfl, HB.out⟩
      have q3i : ¬ (100 : Int) < KL := by omega
      have HQ := Lib.hid (And.intro q1 (And.intro q2 q3))
      clear q1 q2 q3
      go_wp2
      go_loopw [5] (fun i wx => ∃ j : Nat, j ≤ KL ∧ i = .int .i64 (j : Int) ∧ Hid (Below W2.heap.size W2 wx ∧ ∀ u (h1 : u < ks.length), u < j → ¬ 500 < (ks[u]).size)) (fun i _ => KL - (intOf i).toNat)
      case atStart => exact ⟨0, Nat.zero_le _, rfl, Lib.hid ⟨Below.refl _ _, fun j _ h => by omega⟩⟩
      case round =>
        obtain ⟨j, hj, rfl, hx⟩ := hrel
        have x3' := (hx.out.1.cell (p := ⟨p, 3, none⟩) (Array.getElem?_eq_some_iff.1 K1.out).1).trans x3
        by_cases hjl : j < KL
        · have hji : (j : Int) < KL := by omega
          have hj1 : j < ks.length := by have := OK2.out.len; simp only at this; omega
          obtain ⟨b2, o2, e2, l2, f2⟩ := OK2.out.has (by intro e; simp only at e; rw [e] at hj1; simp at hj1)
          simp only at e2
          subst e2
          have g2 := (hx.out.1.cell (p := ⟨b2, o2 + j, none⟩) l2).trans (f2 j hj1)
          obtain ⟨X, hX⟩ : ∃ X, X = ks[j] := ⟨_, rfl⟩
          simp only at g2
          rw [← hX] at g2
          have hX64 : (X.size : Int) ≤ 9223372036854775807 := by have := OK2.out.each X (by rw [hX]; exact List.getElem_mem hj1); simp only [maxLen] at this; omega
          have HX := Lib.hid hX
          clear hX f2
          by_cases q4 : 500 < X.size
          · have q4i : (500 : Int) < X.size := by omega
            have hg : GreatC l := .inr ⟨k, hk1, by rw [← HE.out]; exact .inr (.inr (.inr ⟨j, hj1, by simp only; rw [← HX.out]; exact q4⟩))⟩
            have HG := Lib.hid hg
            clear hg
            go_wp2
            go_ret
            exact ⟨by rw [GreatB_iff.2 HG.out]; rfl, HB.out.trans (Below.mono hx.out.1 HB.out.size)⟩
          · have q4i : ¬ (500 : Int) < X.size := by omega
            have Q4 := Lib.hid q4
            clear q4
            go_wp2
            exact ⟨⟨j + 1, by omega, by congr 1, Lib.hid ⟨hx.out.1, fun u h1 hu => by
              rcases Nat.lt_or_ge u j with h | h
              · exact hx.out.2 u h1 h
              · have : u = j := by omega
                subst this
                rw [← HX.out]
                exact Q4.out⟩⟩, by simp only [intOf]; omega⟩
        · have hji : ¬ (j : Int) < KL := by omega
          have hng : ¬ (l[k]).great := by
            rw [← HE.out]
            rintro (h | h | h | ⟨u, hu, h⟩)
            · exact HQ.out.1 h
            · exact HQ.out.2.1 h
            · exact HQ.out.2.2 (by have := OK2.out.len; simp only at this h; omega)
            · exact hx.out.2 u hu (by have := OK2.out.len; simp only at this hu; omega) h
          have NG := Lib.hid hng
          clear hng
          go_wp2
          exact ⟨⟨k + 1, by omega, by congr 1, Lib.hid ⟨HB.out.trans (Below.mono hx.out.1 HB.out.size), fun u h1 hu => by
            rcases Nat.lt_or_ge u k with h | h
            · exact hb.out.2 u h1 h
            · have : u = k := by omega
              subst this
              exact NG.out⟩⟩, by simp only [intOf]; omega⟩
    · obtain rfl : k = L := by omega
      have hki : ¬ (k : Int) < k := by omega
      clear hlt
      have hng : GreatB l = false := by
        rw [← Bool.not_eq_true, GreatB_iff]
        rintro (h | ⟨j, hj, h⟩)
        · have := HL.out; omega
        · exact hb.out.2 j hj (by have := HL.out; omega) h
      have NG := Lib.hid hng
      clear hng
      go_wp2
      go_ret
      exact ⟨by rw [NG.out]; rfl, hb.out.1⟩
end Go.Proofs.YtfjmdkhemnmkpaaGreatDoor

namespace Go.Proofs.YtfjmdkhemnmkpaaGreatDoor
open Go.RowKit
def HasZ (w : World) (A : Option Addr) (zs : List Int) : Prop := zs ≠ [] → ∃ b o, A = some ⟨b, o, none⟩ ∧ b < w.heap.size ∧ ∀ j (h : j < zs.length), w.cell? ⟨b, o + j, none⟩ = some (.int .i64 zs[j])
def picksM (zs : List Int) (w k _n : Nat) : Int := zs[7 * w + k]?.getD 0
theorem picksM_lim {zs : List Int} (h : ∀ z ∈ zs, -9223372036854775808 ≤ z ∧ z ≤ 9223372036854775807) (w k n : Nat) : -9223372036854775808 ≤ picksM zs w k n ∧ picksM zs w k n ≤ 9223372036854775807 := by
  unfold picksM
  cases hz : zs[7 * w + k]? with
  | none => exact ⟨by decide, by decide⟩
  | some z => exact h z (List.mem_of_getElem? hz)
set_option maxRecDepth 100000 in
set_option maxHeartbeats 4000000 in
theorem At_any (A : Option Addr) (L c : Nat) (zs : List Int) (wv k n : Nat) (w : World) (hL : L = zs.length) (hL2 : L ≤ 200) (hw : wv ≤ 1000000) (hk : k ≤ 1000000) (hA : HasZ w A zs) :
    Calls Tryz.prog 13 #[.slice A L c, .int .i64 (wv : Int), .int .i64 (k : Int), .int .i64 (n : Int)] w fun e W' => e = .returned (.int .i64 (picksM zs wv k n)) ∧ Below w.heap.size w W' := by
  obtain ⟨at_, hat⟩ : ∃ x, x = 7 * wv + k := ⟨_, rfl⟩
  have h7 : IntKind.i64.wrap (7 * (wv : Int)) = 7 * (wv : Int) := by simp [IntKind.wrap, IntKind.bits, IntKind.signed]; omega
  have h7k : IntKind.i64.wrap (7 * (wv : Int) + (k : Int)) = (at_ : Int) := by simp [IntKind.wrap, IntKind.bits, IntKind.signed]; omega
  have hw0 : ¬ (wv : Int) < 0 := by omega
  have hk0 : ¬ (k : Int) < 0 := by omega
  unfold picksM
  rw [← hat]
  have HT := Lib.hid (And.intro hat (And.intro hw hk))
  have HA := Lib.hid hA
  have HL := Lib.hid (And.intro hL hL2)
  clear hat hL hA hL2 hw hk
  by_cases hlt : at_ < L
  · have hli : ¬ (L : Int) ≤ (at_ : Int) := by omega
    have hlj : (at_ : Int) < L := by omega
    have hlz : at_ < zs.length := by have := HL.out; omega
    obtain ⟨b, o, e1, h1, h2⟩ := HA.out (by rintro rfl; simp at hlz)
    subst e1
    have c0 := h2 at_ hlz
    rw [List.getElem?_eq_getElem hlz, Option.getD_some]
    obtain ⟨z, hz⟩ : ∃ z, z = zs[at_] := ⟨_, rfl⟩
    rw [← hz] at c0 ⊢
    clear h1 h2 hz hlz hlt
    go_enter Tryz.func13, Tryz.ntmps13
    go_wp2
    go_ret
    exact ⟨rfl, Below.refl _ _⟩
  · have hli : (L : Int) ≤ (at_ : Int) := by omega
    rw [List.getElem?_eq_none (by have := HL.out; omega), Option.getD_none]
    clear hlt
    go_enter Tryz.func13, Tryz.ntmps13
    go_wp2
    go_ret
    exact ⟨rfl, Below.refl _ _⟩
theorem picks_fn {F : Nat → Prop} {w0 : World} (A : Option Addr) (L c : Nat) (zs : List Int) (hL : L = zs.length) (hL2 : L ≤ 200) (hA : ∀ W, Only F w0 W → HasZ W A zs) (hz : ∀ z ∈ zs, -9223372036854775808 ≤ z ∧ z ≤ 9223372036854775807) :
    PickF F w0 (.func (.func 13) #[.slice A L c] #[]) (picksM zs) :=
  ⟨⟨_, _, _, rfl, enters_of Tryz.func13 (by kernel_rfl) rfl, fun wv k n W h1 h2 _ ho => At_any A L c zs wv k n W hL hL2 h1 h2 (hA W ho)⟩, picksM_lim hz⟩
theorem HasZ.out {F : Nat → Prop} {w w0 : World} {A : Option Addr} {zs : List Int} (hA : HasZ w A zs) (hb : Below w.heap.size w w0) (hF : ∀ k, F k → w.heap.size ≤ k) (W : World) (ho : Only F w0 W) : HasZ W A zs := fun hl => by
  obtain ⟨b, o, e, l1, f1⟩ := hA hl
  have hk : W.heap[b]? = w.heap[b]? := (ho.block b (Nat.lt_of_lt_of_le l1 hb.size) (fun hf => by have := hF b hf; omega)).trans (hb.block b l1)
  exact ⟨b, o, e, Nat.lt_of_lt_of_le l1 (Nat.le_trans hb.size ho.size), fun j hj => (World.cell?_of_block hk).trans (f1 j hj)⟩
structure AtQ (W : World) (g n : Nat) (f : Nat → Int) : Prop where
  ex : ∃ cs, W.heap[g]? = some (.cells cs 3 (0, 0)) ∧ cs.size = n ∧ ∀ t, t < n → cs[t]? = some (.int .i64 (f t))
section
variable {W W' : World} {g n : Nat} {f : Nat → Int}
theorem AtQ.lt (h : AtQ W g n f) : g < W.heap.size := by obtain ⟨cs, h1, _⟩ := h.ex; exact (Array.getElem?_eq_some_iff.1 h1).1
theorem AtQ.cell (h : AtQ W g n f) {t : Nat} (ht : t < n) : W.cell? ⟨g, t, none⟩ = some (.int .i64 (f t)) := by obtain ⟨cs, h1, _, h3⟩ := h.ex; rw [blk_cell h1 t]; exact h3 t ht
theorem AtQ.frozen (h : AtQ W g n f) (t : Nat) : W.frozen? ⟨g, t, none⟩ = false := by obtain ⟨cs, h1, _⟩ := h.ex; exact blk_frozen h1 t
theorem AtQ.keep (h : AtQ W g n f) (hk : W'.heap[g]? = W.heap[g]?) : AtQ W' g n f := by obtain ⟨cs, h1, h2⟩ := h.ex; exact ⟨cs, hk.trans h1, h2⟩
theorem AtQ.set (h : AtQ W g n f) {t : Nat} (ht : t < n) (v : Int) : AtQ (W.setCell ⟨g, t, none⟩ (.int .i64 v)) g n (fun j => if j = t then v else f j) := by
  obtain ⟨cs, h1, h2, h3⟩ := h.ex
  refine ⟨_, blk_set h1 t _, by simpa using h2, fun j hj => ?_⟩
  rw [Array.getElem?_setIfInBounds]
  by_cases e : j = t
  · subst e; rw [if_pos rfl, if_pos (by omega), if_pos rfl]
  · rw [if_neg (fun h => e h.symm), if_neg e]; exact h3 j hj
theorem AtQ.congr {f' : Nat → Int} (h : AtQ W g n f) (e : ∀ t, t < n → f t = f' t) : AtQ W g n f' := by obtain ⟨cs, h1, h2, h3⟩ := h.ex; exact ⟨cs, h1, h2, fun t ht => by rw [← e t ht]; exact h3 t ht⟩
theorem AtQ.made (w : World) (n : Nat) : AtQ (w.alloc (.cells (madeCells #[.int .i64 0] n) 3)) w.heap.size n (fun _ => 0) := by
  have e : madeCells #[Value.int .i64 0] n = Array.replicate n (.int .i64 0) := by
    apply Array.ext'
    rw [toList_madeCells_one]
    simp
  refine ⟨_, World.alloc_heap_new w _, by rw [e]; simp, fun t ht => ?_⟩
  rw [e]
  simp [ht]
end
theorem mkI (w : World) (M : Nat) (hM : M ≤ 100000) : (Instr.makeSlice 23 (.int .i64 (M : Int)) (.int .i64 (M : Int))).run Tryz.prog w = .ok (.slice (some ⟨w.heap.size, 0, none⟩) M M) (w.alloc (.cells (madeCells #[.int .i64 0] M) 3)) := by
  obtain ⟨i, hi, hz, hs, hb⟩ := infoI_parts
  have := run_make (P := Tryz.prog) w 23 3 i _ Tryz.underlying23 hi hz .i64 .i64 (M : Int) (M : Int) (by omega) (by omega) (by rw [hb]; omega) (by omega)
  rw [hs, Nat.mul_one] at this
  exact this
end Go.Proofs.YtfjmdkhemnmkpaaGreatDoor

namespace Go.Proofs.YtfjmdkhemnmkpaaGreatDoor
open Go.RowKit
theorem great_noW {l : List CmdV} (h : GreatB l = false) : l.length ≤ 100 ∧ ∀ v ∈ l, ¬ v.great := by
  have h' : ¬ GreatC l := fun hg => by rw [GreatB_iff.2 hg] at h; cases h
  refine ⟨Nat.le_of_not_lt fun hh => h' (.inl hh), fun v hv hg => ?_⟩
  obtain ⟨j, hj, rfl⟩ := List.mem_iff_getElem.1 hv
  exact h' (.inr ⟨j, hj, hg⟩)
theorem foldA_sorted (ms : List CM) : SortedA (oneO ms ⟨[], [], 0⟩) := SortedA.empty.one ms
structure TwoA {T : World → Prop} (K : WvK T) (w W : World) (F G : Nat → Prop) (R S : Nat) (a b : AM) : Prop where
  a : K.Pl F W R a
  b : K.Pl G W S b
  apart : ∀ k, F k → ¬ G k
  f : ∀ k, F k → w.heap.size ≤ k
  g : ∀ k, G k → w.heap.size ≤ k
  below : Below w.heap.size w W
section
variable {T : World → Prop} {K : WvK T} {w W W' : World} {F G : Nat → Prop} {R S : Nat} {a b : AM}
theorem TwoA.one (h : TwoA K w W F G R S a b) {F' : Nat → Prop} {a' : AM} (h1 : K.Pl F' W' R a') (ho : Only F W W') (hs : ∀ k, F' k → F k ∨ W.heap.size ≤ k) : TwoA K w W' F' G R S a' b :=
  ⟨h1, K.keep h.b ho (fun k hk hf => h.apart k hf hk), fun k hk hg => by
    rcases hs k hk with e | e
    · exact h.apart k e hg
    · have := K.lt h.b k hg; omega, fun k hk => by
    rcases hs k hk with e | e
    · exact h.f k e
    · exact Nat.le_trans h.below.size e, h.g, h.below.trans (ho.below h.below.size h.f)⟩
theorem TwoA.two (h : TwoA K w W F G R S a b) {G' : Nat → Prop} {b' : AM} (h1 : K.Pl G' W' S b') (ho : Only G W W') (hs : ∀ k, G' k → G k ∨ W.heap.size ≤ k) : TwoA K w W' F G' R S a b' :=
  ⟨K.keep h.a ho (fun k hk hf => h.apart k hk hf), h1, fun k hk hg => by
    rcases hs k hg with e | e
    · exact h.apart k hk e
    · have := K.lt h.a k hk; omega, h.f, fun k hk => by
    rcases hs k hk with e | e
    · exact h.g k e
    · exact Nat.le_trans h.below.size e, h.below.trans (ho.below h.below.size h.g)⟩
end
set_option maxRecDepth 100000 in
set_option maxHeartbeats 8000000 in
theorem WavesAlike_any {T : World → Prop} (K : WvK T) (O : WvO K) (hWakes : ∀ w, T w → Calls Tryz.prog 6 #[] w fun e W' => e = .returned (.bool true) ∧ Below w.heap.size w W')
    (A0 : Option Addr) (L0 c0 : Nat) (l0 : List CmdV) (A : Option Addr) (L c : Nat) (l : List CmdV) (Ap : Option Addr) (Lp cp : Nat) (zs : List Int) (w : World) (hT : T w)
    (hl0 : L0 = l0.length) (hL0 : L0 ≤ 140737488351232) (hA0 : HasC w A0 l0) (hl : L = l.length) (hL : L ≤ 140737488351232) (hA : HasC w A l) (hp : Lp = zs.length) (hLp : Lp ≤ 140737488351232) (hAp : HasZ w Ap zs) (hz : ∀ z ∈ zs, -9223372036854775808 ≤ z ∧ z ≤ 9223372036854775807) :
    Calls Tryz.prog 4 #[.slice A0 L0 c0, .slice A L c, .slice Ap Lp cp] w fun e W' => e = .returned (.bool true) ∧ Below w.heap.size w W' := by
  have H0 := Lib.hid (And.intro hl0 (And.intro hL0 hA0))
  have HL := Lib.hid (And.intro hl (And.intro hL hA))
  have HP := Lib.hid (And.intro hp (And.intro hLp (And.intro hAp hz)))
  have HT := Lib.hid hT
  have HWK := Lib.hid hWakes
  have hLpi : (Lp : Int) ≤ 140737488351232 := by omega
  clear hl0 hL0 hA0 hl hL hA hp hLp hAp hz hT hWakes
  go_enter Tryz.func4, Tryz.ntmps4
  go_wp2_with fail
  refine (GreatC_any A0 L0 c0 l0 H0.out.1 H0.out.2.1 w H0.out.2.2).mono ?_
  rintro e V1 ⟨he, hb⟩
  have B1 := Lib.hid hb
  clear hb
  cases hg0 : GreatB l0 with
  | true =>
    rw [hg0] at he
    subst he
    go_wp2_with fail
    refine (HWK.out V1 (K.grew HT.out B1.out)).mono ?_
    rintro e V2 ⟨rfl, hb2⟩
    have B2 := Lib.hid (B1.out.trans (Below.mono hb2 B1.out.size))
    clear hb2
    go_wp2
    go_ret
    exact ⟨rfl, B2.out⟩
  | false =>
    rw [hg0] at he
    subst he
    go_wp2_with fail
    refine (GreatC_any A L c l HL.out.1 HL.out.2.1 V1 (HL.out.2.2.below B1.out)).mono ?_
    rintro e V2 ⟨he, hb⟩
    have B2 := Lib.hid (B1.out.trans (Below.mono hb B1.out.size))
    clear hb
    cases hg1 : GreatB l with
    | true =>
      rw [hg1] at he
      subst he
      go_wp2_with fail
      refine (HWK.out V2 (K.grew HT.out B2.out)).mono ?_
      rintro e V3 ⟨rfl, hb2⟩
      have B3 := Lib.hid (B2.out.trans (Below.mono hb2 B2.out.size))
      clear hb2
      go_wp2
      go_ret
      exact ⟨rfl, B3.out⟩
    | false =>
      rw [hg1] at he
      subst he
      by_cases h200 : 200 < Lp
      · have h200i : (200 : Int) < Lp := by omega
        clear h200
        go_wp2_with fail
        refine (HWK.out V2 (K.grew HT.out B2.out)).mono ?_
        rintro e V3 ⟨rfl, hb2⟩
        have B3 := Lib.hid (B2.out.trans (Below.mono hb2 B2.out.size))
        clear hb2
        go_wp2
        go_ret
        exact ⟨rfl, B3.out⟩
      · have h200i : ¬ (200 : Int) < Lp := by omega
        obtain ⟨hlen0, hng0⟩ := great_noW hg0
        obtain ⟨hlen1, hng1⟩ := great_noW hg1
        have N0 := Lib.hid (And.intro hlen0 hng0)
        have N1 := Lib.hid (And.intro hlen1 hng1)
        have hL100 : L ≤ 100 := by have := HL.out.1; omega
        have hLi : (L : Int) ≤ 100 := by omega
        have HF1 := Lib.hid (K.fold A0 L0 c0 l0 V2 (K.grew HT.out B2.out) H0.out.1 (by have := H0.out.1; omega) (H0.out.2.2.below B2.out) hng0)
        clear hlen0 hng0 hlen1 hng1 hg0 hg1
        go_wp2_with fail
        refine HF1.out.mono ?_
        rintro e V3 ⟨F, R, rfl, hp3, hf3, hb3⟩
        have b3 := B2.out.trans (Below.mono hb3 B2.out.size)
        have B3 := Lib.hid b3
        have P3 := Lib.hid (And.intro hp3 (And.intro hf3 hb3))
        have HF2 := Lib.hid (K.fold A0 L0 c0 l0 V3 (K.grew HT.out b3) H0.out.1 (by have := H0.out.1; have := N0.out.1; omega) (H0.out.2.2.below b3) N0.out.2)
        clear hp3 hf3 hb3 b3 HF1
        go_wp2_with fail
        refine HF2.out.mono ?_
        rintro e V4 ⟨G, S, rfl, hp4, hf4, hb4⟩
        obtain ⟨a0, ha0⟩ : ∃ a, a = oneO (l0.map (·.m)) ⟨[], [], 0⟩ := ⟨_, rfl⟩
        have hlim : LimAn 1000 a0 := by
          rw [ha0]
          refine (oneO_lim LimAn.nil _ (by rw [List.length_map]; have := N0.out.1; omega) fun m hm => ?_).more (by rw [List.length_map]; have := N0.out.1; omega)
          obtain ⟨v, hv, rfl⟩ := List.mem_map.1 hm
          obtain ⟨j, hj, rfl⟩ := List.mem_iff_getElem.1 hv
          obtain ⟨_, _, _, _, f⟩ := H0.out.2.2 (by rintro rfl; simp at hj)
          exact ⟨(f j hj).2.cl, (f j hj).2.sq⟩
        have hsrt : SortedA a0 := by rw [ha0]; exact foldA_sorted _
        have P3' := P3.out
        rw [← ha0] at hp4 P3'
        have hw2 : w.heap.size ≤ V2.heap.size := B2.out.size
        have T4 : TwoA K w V4 F G R S a0 a0 := ⟨K.keep P3'.1 (Only.of_grew (F := fun _ => False) hb4) (fun _ _ => id), hp4, fun k hk hg => by have := K.lt P3'.1 k hk; have := hf4 k hg; omega, fun k hk => Nat.le_trans hw2 (P3'.2.1 k hk), fun k hk => Nat.le_trans hw2 (Nat.le_trans P3'.2.2.size (hf4 k hk)), B3.out.trans (Below.mono hb4 B3.out.size)⟩
        have H4 := Lib.hid (And.intro T4 (And.intro hlim hsrt))
        have hpk := picks_fn (F := F) (w0 := V4) Ap Lp cp zs HP.out.1 (by omega) (HP.out.2.2.1.out T4.below T4.f) HP.out.2.2.2
        have HRUN := Lib.hid (K.run A L c l _ (picksM zs) T4.a (K.grew HT.out T4.below) hlim HL.out.1 hL100 (HL.out.2.2.out T4.below T4.f) N1.out.2 hpk)
        have hmf : ∀ (fn : Fn) (first cap : Array Value) (w : World), (Instr.makeFunc fn first cap).run Tryz.prog w = .ok (.func fn first cap) w := fun _ _ _ _ => rfl
        clear hp4 hf4 hb4 ha0 hlim hsrt P3' hw2 T4 hpk P3 HF2 B3
        go_wp2_with fail
        refine HRUN.out.mono ?_
        rintro e V5 ⟨Ax, xc, rfl, hxc, hdx, F5, hp5, ho5, hs5, hn5⟩
        have T5 := H4.out.1.one hp5 ho5 hs5
        have X5 := Lib.hid (And.intro hdx (And.intro hn5 hxc))
        have H5 := Lib.hid T5
        have HONE := Lib.hid (O.one A L c l T5.b (K.grew HT.out T5.below) H4.out.2.1 HL.out.1 hL100 (HL.out.2.2.out T5.below T5.g) N1.out.2)
        have L45 := Lib.hid (And.intro ho5.size (K.lt H4.out.1.b))
        clear hdx hp5 ho5 hs5 hn5 hxc T5 HRUN hmf
        go_wp2_with fail
        refine HONE.out.mono ?_
        rintro e V6 ⟨Ay, yc, rfl, hyc, hdy, G6, hp6, ho6, hs6, hn6⟩
        have T6 := H5.out.two hp6 ho6 hs6
        have hdx6 : HasD V6 Ax (runD (picksM zs) (l.map (·.m)) a0) := X5.out.1.only ho6 (fun b o m e hg => by have := (X5.out.2.1 b o m e).1; have := L45.out.2 b hg; omega)
        have hsame := T6.a
        rw [endR_same _ _ H4.out.2.2] at hsame
        have HSM := Lib.hid (K.same (K.grew HT.out T6.below) hsame T6.b)
        have D6 := Lib.hid (And.intro hdx6 hdy)
        have B6 := Lib.hid T6.below
        have SRT := Lib.hid H4.out.2.2
        clear hdx6 hdy hp6 ho6 hs6 hn6 hyc T6 hsame HONE H5 H4 X5 L45
        go_wp2_with fail
        refine HSM.out.mono ?_
        rintro e V7 ⟨rfl, hb7⟩
        have B7 := Lib.hid (B6.out.trans (Below.mono hb7 B6.out.size))
        obtain ⟨ms, hms⟩ : ∃ ms, ms = l.map (·.m) := ⟨_, rfl⟩
        have hdx7 := D6.out.1.below hb7
        have hdy7 := D6.out.2.below hb7
        rw [← hms] at hdx7 hdy7
        have hmsl : ms.length = L := by rw [hms, List.length_map]; exact HL.out.1.symm
        have D7 := Lib.hid (And.intro hdx7 hdy7)
        have HM := Lib.hid hmsl
        have hmk := mkI V7 L (by omega)
        have ham := AtQ.made V7 L
        obtain ⟨g, hg⟩ : ∃ g, g = V7.heap.size := ⟨_, rfl⟩
        rw [← hg] at hmk ham
        obtain ⟨V8, hV8⟩ : ∃ V8, V8 = V7.alloc (.cells (madeCells #[.int .i64 0] L) 3) := ⟨_, rfl⟩
        rw [← hV8] at hmk ham
        have hb8 : Below V7.heap.size V7 V8 := by rw [hV8]; exact (Below.refl _ _).alloc (Nat.le_refl _) _
        have M8 := Lib.hid (And.intro ham hb8)
        have GG := Lib.hid hg
        clear hb7 hms hmsl hdx7 hdy7 ham hb8 hg hV8 HSM D6 B6
        go_wp2
        go_loopw [12] (fun i wx => ∃ j : Nat, j ≤ L ∧ i = .int .i64 (j : Int) ∧ Hid (AtQ wx g L (fun t => if t < j then -1 else 0) ∧ Below V7.heap.size V7 wx)) (fun i _ => L - (intOf i).toNat)
        case atStart => exact ⟨0, Nat.zero_le _, rfl, Lib.hid ⟨M8.out.1.congr (fun t _ => by simp), M8.out.2⟩⟩
        case round =>
          obtain ⟨j, hj, rfl, HS⟩ := hrel
          by_cases hlt : j < L
          · have hji : (j : Int) < L := by omega
            have cg := HS.out.1.cell hlt
            have fg := HS.out.1.frozen j
            rw [if_neg (by omega)] at cg
            obtain ⟨W9, hW9⟩ : ∃ W9, W9 = wr.setCell ⟨g, j, none⟩ (.int .i64 (-1)) := ⟨_, rfl⟩
            have h9 : AtQ W9 g L (fun t => if t < j + 1 then -1 else 0) ∧ Below V7.heap.size V7 W9 := by
              rw [hW9]
              refine ⟨(HS.out.1.set hlt (-1)).congr (fun t _ => ?_), HS.out.2.setCell (p := ⟨g, j, none⟩) (by rw [GG.out]; exact Nat.le_refl _) _⟩
              by_cases e : t = j
              · subst e; simp
              · by_cases e2 : t < j
                · rw [if_neg e, if_pos e2, if_pos (by omega)]
                · rw [if_neg e, if_neg e2, if_neg (by omega)]
            have H9 := Lib.hid h9
            clear h9
            go_wp2
            rw [← hW9]
            exact ⟨⟨j + 1, by omega, by congr 1, H9⟩, by simp only [intOf]; omega⟩
          · have hji : ¬ (j : Int) < L := by omega
            obtain rfl : j = L := by omega
            have M9 := Lib.hid (show AtQ wr g j (fun t => if ordAt (picksM zs) ms t < 0 then (waveI ms (ordAt (picksM zs) ms t) : Int) else -1) ∧ Below V7.heap.size V7 wr from ⟨HS.out.1.congr (fun t ht => by rw [if_pos ht, if_neg (Nat.not_lt_zero _)]), HS.out.2⟩)
            clear HS hji
            go_wp2
            go_loopw [13] (fun i wx => ∃ q : Nat, q ≤ j ∧ i = .int .i64 (q : Int) ∧ Hid (AtQ wx g j (fun t => if ordAt (picksM zs) ms t < q then (waveI ms (ordAt (picksM zs) ms t) : Int) else -1) ∧ Below V7.heap.size V7 wx)) (fun i _ => j - (intOf i).toNat)
            case atStart => exact ⟨0, Nat.zero_le _, rfl, M9⟩
            case round =>
              obtain ⟨q, hq, rfl, HS⟩ := hrel
              by_cases hlt : q < j
              · have hqi : (q : Int) < j := by omega
                have hqm : q < ms.length := by have := HM.out; omega
                obtain ⟨r1, r2, r, e1, e2⟩ := runD_get (picksM zs) ms SRT.out hqm
                obtain ⟨x, xo, ex, hxl, fx⟩ := D7.out.1 (by intro e; rw [e] at r1; simp at r1)
                obtain ⟨y, yo, ey, hyl, fy⟩ := D7.out.2 (by intro e; rw [e] at r2; simp at r2)
                subst ex ey
                have fxq := fx q r1
                have fyq := fy q r2
                rw [e1] at fxq
                rw [e2] at fyq
                have htl := turn_lt (pk := picksM zs) hqm
                have hot := ordAt_turn (pk := picksM zs) hqm
                obtain ⟨t, ht⟩ : ∃ t, t = (orderM (picksM zs) ms).idxOf q := ⟨_, rfl⟩
                rw [← ht] at fxq htl hot
                obtain ⟨v, hv⟩ : ∃ v, v = waveI ms q := ⟨_, rfl⟩
                rw [← hv] at fxq
                have htj : t < j := by have := HM.out; omega
                have cg := HS.out.1.cell htj
                rw [hot, if_neg (by omega)] at cg
                have fg := HS.out.1.frozen t
                have hgl := HS.out.1.lt
                have hxc : ∀ i u, (⟨r.1.1, r.1.2, r.2, v, t⟩ : DV).cells[i]? = some u → wr.cell? ⟨x, xo + q * 5 + i, none⟩ = some u := fun i u hu => (HS.out.2.cell (p := ⟨x, xo + q * 5 + i, none⟩) hxl).trans (fxq i u hu)
                have hyc : ∀ i u, (⟨r.1.1, r.1.2, r.2, 0, q⟩ : DV).cells[i]? = some u → wr.cell? ⟨y, yo + q * 5 + i, none⟩ = some u := fun i u hu => (HS.out.2.cell (p := ⟨y, yo + q * 5 + i, none⟩) hyl).trans (fyq i u hu)
                have hxw : x < wr.heap.size := Nat.lt_of_lt_of_le hxl HS.out.2.size
                have hyw : y < wr.heap.size := Nat.lt_of_lt_of_le hyl HS.out.2.size
                have HX := Lib.hid (And.intro hxw (And.intro hyw (And.intro hxc (And.intro hyc (And.intro hgl (And.intro cg fg))))))
                have HT2 := Lib.hid (And.intro ht (And.intro hv hqm))
                clear r1 r2 e1 e2 hxl fx hyl fy fxq fyq htl hot ht hv cg fg hgl hxc hyc hxw hyw hqm
                go_upto_region 16 with (fail)
                refine wahold x xo xc y yo yc g j j c q r.1.1 v t A r.1.2 r.2 hlt htj _ wr _ rfl rfl rfl rfl rfl rfl HX.out.1 HX.out.2.1 HX.out.2.2.1 HX.out.2.2.2.1 HX.out.2.2.2.2.1 HX.out.2.2.2.2.2.1 ?_
                intro w7 hg7
                have S7 := Lib.hid (show AtQ w7 g j (fun t => if ordAt (picksM zs) ms t < q then (waveI ms (ordAt (picksM zs) ms t) : Int) else -1) ∧ Below V7.heap.size V7 w7 from ⟨HS.out.1.keep (hg7.block g HS.out.1.lt), HS.out.2.trans (Below.mono hg7 HS.out.2.size)⟩)
                have G7 := Lib.hid hg7
                clear hg7
                simp only [puts, List.foldl_cons, List.foldl_nil, Act.put, List.setIfInBounds_toArray, List.set_cons_succ, List.set_cons_zero]
                go_upto_region 18 with (fail)
                refine wastore x xo xc y yo yc g j j c q r.1.1 v t A r.1.2 r.2 hlt htj _ w7 _ rfl rfl rfl rfl (Nat.lt_of_lt_of_le HX.out.1 G7.out.size) (fun i u hu => (G7.out.cell (p := ⟨x, xo + q * 5 + i, none⟩) HX.out.1).trans (HX.out.2.2.1 i u hu)) S7.out.1.lt ((G7.out.cell (p := ⟨g, t, none⟩) HX.out.2.2.2.2.1).trans HX.out.2.2.2.2.2.1) (S7.out.1.frozen t) ?_
                intro w8 hg8
                have S8 : AtQ w8 g j (fun t => if ordAt (picksM zs) ms t < q then (waveI ms (ordAt (picksM zs) ms t) : Int) else -1) := S7.out.1.keep (hg8.block g S7.out.1.lt)
                obtain ⟨W9, hW9⟩ : ∃ W9, W9 = w8.setCell ⟨g, 0 + t, none⟩ (.int .i64 (v : Int)) := ⟨_, rfl⟩
                have h9 : AtQ W9 g j (fun t => if ordAt (picksM zs) ms t < q + 1 then (waveI ms (ordAt (picksM zs) ms t) : Int) else -1) ∧ Below V7.heap.size V7 W9 := by
                  rw [hW9, Nat.zero_add]
                  refine ⟨(S8.set htj (v : Int)).congr (fun t' ht' => ?_), (S7.out.2.trans (Below.mono hg8 S7.out.2.size)).setCell (p := ⟨g, t, none⟩) (by rw [GG.out]; exact Nat.le_refl _) _⟩
                  have hot := ordAt_turn (pk := picksM zs) HT2.out.2.2
                  rw [← HT2.out.1] at hot
                  by_cases e : t' = t
                  · subst e
                    rw [if_pos rfl, hot, if_pos (by omega), HT2.out.2.1]
                  · have hne : ordAt (picksM zs) ms t' ≠ q := fun e2 => e (by
                      have := ordAt_inj (pk := picksM zs) (ms := ms) (t := t') (by have := HM.out; omega) e2
                      rw [this, HT2.out.1])
                    rw [if_neg e]
                    by_cases e2 : ordAt (picksM zs) ms t' < q
                    · rw [if_pos e2, if_pos (by omega)]
                    · rw [if_neg e2, if_neg (by omega)]
                rw [← hW9]
                have H9 := Lib.hid h9
                clear h9 hW9 S8 hg8 S7 G7
                simp only [puts, List.foldl_cons, List.foldl_nil, Act.put, List.setIfInBounds_toArray, List.set_cons_succ, List.set_cons_zero]
                go_wp2
                exact ⟨⟨q + 1, by omega, by congr 1, H9⟩, by simp only [intOf]; omega⟩
              · have hqi : ¬ (q : Int) < j := by omega
                obtain rfl : q = j := by omega
                have M10 := Lib.hid (show AtQ wr g q (fun t => (waveI ms (ordAt (picksM zs) ms t) : Int)) ∧ Below V7.heap.size V7 wr from ⟨HS.out.1.congr (fun t ht => by rw [if_pos (by have := ordAt_lt (pk := picksM zs) (ms := ms) (t := t) (by have := HM.out; omega); have := HM.out; omega)]), HS.out.2⟩)
                clear HS hqi
                go_wp2
                go_loopw [14] (fun i wx => ∃ p : Nat, p ≤ q ∧ i = .int .i64 ((p + 1 : Nat) : Int) ∧ Hid (AtQ wx g q (fun t => (waveI ms (ordAt (picksM zs) ms t) : Int)) ∧ Below V7.heap.size V7 wx)) (fun i _ => q + 1 - (intOf i).toNat)
                case atStart => exact ⟨0, Nat.zero_le _, rfl, M10⟩
                case round =>
                  obtain ⟨p, hp, rfl, HS⟩ := hrel
                  by_cases hlt : p + 1 < q
                  · have hpi : ((p + 1 : Nat) : Int) < q := by omega
                    have cu := HS.out.1.cell (t := p) (by omega)
                    have cv := HS.out.1.cell (t := p + 1) hlt
                    have hw := ord_wave (pk := picksM zs) (ms := ms) (t := p) (by have := HM.out; omega)
                    obtain ⟨u, hu⟩ : ∃ u, u = waveI ms (ordAt (picksM zs) ms p) := ⟨_, rfl⟩
                    obtain ⟨v, hv⟩ : ∃ v, v = waveI ms (ordAt (picksM zs) ms (p + 1)) := ⟨_, rfl⟩
                    rw [← hu] at cu hw
                    rw [← hv] at cv hw
                    have CC := Lib.hid (And.intro cu (And.intro cv hw))
                    clear hu hv cu cv hw
                    go_upto_region 22 with (fail)
                    refine waless g q q p u v hlt (by omega) CC.out.2.2 _ wr _ rfl rfl rfl HS.out.1.lt CC.out.1 CC.out.2.1 ?_
                    intro w7 hg7
                    have S7 := Lib.hid (show AtQ w7 g q (fun t => (waveI ms (ordAt (picksM zs) ms t) : Int)) ∧ Below V7.heap.size V7 w7 from ⟨HS.out.1.keep (hg7.block g HS.out.1.lt), HS.out.2.trans (Below.mono hg7 HS.out.2.size)⟩)
                    clear hg7 CC
                    simp only [puts, List.foldl_cons, List.foldl_nil, Act.put, List.setIfInBounds_toArray, List.set_cons_succ, List.set_cons_zero]
                    have hwp : IntKind.i64.wrap (((p + 1 : Nat) : Int) + 1) = ((p + 1 + 1 : Nat) : Int) := by simp [IntKind.wrap, IntKind.bits, IntKind.signed]; omega
                    go_wp2
                    exact ⟨⟨p + 1, by omega, by congr 1, S7⟩, by simp only [intOf]; omega⟩
                  · have hpi : ¬ ((p + 1 : Nat) : Int) < q := by omega
                    have hw0 : Below w.heap.size w wr := B7.out.trans (Below.mono HS.out.2 B7.out.size)
                    have HWW := Lib.hid (HWK.out wr (K.grew HT.out hw0))
                    have W0 := Lib.hid hw0
                    clear hw0
                    go_wp2_with fail
                    refine HWW.out.mono ?_
                    rintro e W9 ⟨rfl, hb9⟩
                    have B9 := Lib.hid (W0.out.trans (Below.mono hb9 W0.out.size))
                    clear hb9
                    go_wp2
                    go_ret
                    exact ⟨rfl, B9.out⟩
end Go.Proofs.YtfjmdkhemnmkpaaGreatDoor

namespace Go.Proofs.YtfjmdkhemnmkpaaGreatDoor
open Go.RowKit
def tupAt : Value → Nat → Value
  | .tuple xs, i => xs.getD i undef
  | _, _ => undef
end Go.Proofs.YtfjmdkhemnmkpaaGreatDoor

namespace Go.Proofs.YtfjmdkhemnmkpaaGreatDoor
open Go.RowKit
def updT {α : Type} (T : Nat → α) (q : Nat) (x : α) : Nat → α := fun j => if j = q then x else T j
theorem runO_snoc (f : Nat → CM) (i : Nat) : ∀ (l : List Nat) (a : AM), i ∉ l → (runO f (l ++ [i]) a).1 = (doA (runO f l a).1 (f i)).1 ∧ toldO (runO f (l ++ [i]) a).2 = updT (toldO (runO f l a).2) i (doA (runO f l a).1 (f i)).2
  | [], a, _ => by
    refine ⟨rfl, ?_⟩
    funext j
    unfold toldO updT
    show (if j = i then some (doA a (f i)).2 else none).getD _ = _
    by_cases h : j = i
    · rw [if_pos h, if_pos h]; rfl
    · rw [if_neg h, if_neg h]; rfl
  | k :: l, a, h => by
    have h1 : i ≠ k := fun e => h (by rw [e]; exact List.mem_cons_self ..)
    have h2 : i ∉ l := fun e => h (List.mem_cons_of_mem _ e)
    obtain ⟨e1, e2⟩ := runO_snoc f i l (doA a (f k)).1 h2
    refine ⟨e1, ?_⟩
    funext j
    have e3 := congrFun e2 j
    unfold toldO updT at e3 ⊢
    show (if j = k then some (doA a (f k)).2 else (runO f (l ++ [i]) (doA a (f k)).1).2 j).getD _ = if j = i then (doA (runO f l (doA a (f k)).1).1 (f i)).2 else (if j = k then some (doA a (f k)).2 else (runO f l (doA a (f k)).1).2 j).getD _
    by_cases hk : j = k
    · have hi : j ≠ i := fun e => h1 (e.symm.trans hk)
      rw [if_pos hk, if_neg hi, if_pos hk]
    · rw [if_neg hk, if_neg hk]
      exact e3
theorem nodup_fresh {o : List Nat} (hn : o.Nodup) {t : Nat} (h : t < o.length) : o[t] ∉ o.take t := by
  intro hm
  obtain ⟨i, hi, e⟩ := List.mem_iff_getElem.1 hm
  rw [List.length_take] at hi
  rw [List.getElem_take] at e
  have e1 := hn.idxOf_getElem i (by omega)
  have e2 := hn.idxOf_getElem t h
  rw [e] at e1
  omega
end Go.Proofs.YtfjmdkhemnmkpaaGreatDoor

namespace Go.Proofs.YtfjmdkhemnmkpaaGreatDoor
open Go.RowKit
def wavesI (l : List CM) : List Nat := (wavesM l).map (·.2)
theorem wavesI_len (l : List CM) : (wavesI l).length = l.length := by rw [wavesI, List.length_map, wavesM_len]
theorem wavesI_at {l : List CM} {i : Nat} (h : i < (wavesI l).length) : (wavesI l)[i] = waveI l i := by
  have h' : i < l.length := by rw [wavesI_len] at h; exact h
  have h1 := wavesM_at h'
  have h2 : (wavesM l)[i]? = some ((wavesM l)[i]'(by rw [wavesM_len]; exact h')) := List.getElem?_eq_getElem _
  rw [waveI, h2]
  simp [wavesI]
end Go.Proofs.YtfjmdkhemnmkpaaGreatDoor

namespace Go.Proofs.YtfjmdkhemnmkpaaGreatDoor
open Go.RowKit
theorem wavesI_take {l : List CM} {n : Nat} (hn : n < l.length) : wavesI (l.take (n + 1)) = wavesI (l.take n) ++ [waveI l n] := by
  unfold wavesI
  rw [wavesM_succ hn, List.map_append, waveI_at hn]
  rfl
end Go.Proofs.YtfjmdkhemnmkpaaGreatDoor

namespace Go.Proofs.YtfjmdkhemnmkpaaGreatDoor
open Go.RowKit
theorem orderM_len (pk : Nat → Nat → Nat → Int) (ms : List CM) : (orderM pk ms).length = ms.length := by rw [(orderM_perm pk ms).length_eq, List.length_range]
theorem wave_few {ms : List CM} {t : Nat} (h : t < numW ms) : t < ms.length := by
  unfold numW at h
  obtain ⟨k, h1, h2⟩ := topW_is ms ms.length (Nat.le_refl _) t (by omega)
  have := waveI_le (l := ms) k h1
  omega
theorem run_fromI (A : Option Addr) (L c n : Nat) (h1 : n ≤ L) (h2 : L ≤ c) (_hc : L ≤ 1000000000) : ∃ A', (∀ w : World, (Instr.sliceAt 23 (.slice A L c) (some (.int .i64 (n : Int))) none none).run Tryz.prog w = .ok (.slice A' (L - n) (c - n)) w) ∧ ∀ b o, A = some ⟨b, o, none⟩ → n < L → A' = some ⟨b, o + n, none⟩ := by
  have e1 : (0 : Int) ≤ (n : Int) := by omega
  have e2 : (n : Int) ≤ (L : Int) := by omega
  have e3 : (L : Int) ≤ (c : Int) := by omega
  cases A with
  | none =>
    refine ⟨none, fun w => ?_, fun _ _ e => by cases e⟩
    simp [go_sem, e1, e2]
  | some a =>
    by_cases hcn : c = n
    · refine ⟨some a, fun w => ?_, fun b o e h => by omega⟩
      simp [go_sem, e1, e2, hcn]
    · refine ⟨some (a.add n), fun w => ?_, fun b o e _ => by cases e; exact congrArg some (addr_add b o n)⟩
      simp [go_sem, e1, e2, hcn]
theorem HasI.take {w : World} {A : Option Addr} {l : List Nat} (h : HasI w A l) (n : Nat) : HasI w A (l.take n) := fun hl => by
  obtain ⟨b, o, e, h1, h2⟩ := h (by rintro rfl; simp at hl)
  refine ⟨b, o, e, h1, fun j hj => ?_⟩
  rw [List.getElem_take]
  exact h2 j (by simp at hj; omega)
theorem HasI.drop {w : World} {A A' : Option Addr} {l : List Nat} {n : Nat} (h : HasI w A l) (hA : ∀ b o, A = some ⟨b, o, none⟩ → n < l.length → A' = some ⟨b, o + n, none⟩) : HasI w A' (l.drop n) := fun hl => by
  obtain ⟨b, o, e, h1, h2⟩ := h (by rintro rfl; simp at hl)
  have hn : n < l.length := by
    have : ¬ l.length ≤ n := fun h => hl (List.drop_eq_nil_iff.2 h)
    omega
  refine ⟨b, o + n, hA b o e hn, h1, fun j hj => ?_⟩
  rw [List.length_drop] at hj
  rw [List.getElem_drop, Nat.add_assoc]
  exact h2 (n + j) (by omega)
end Go.Proofs.YtfjmdkhemnmkpaaGreatDoor
