/- The contract of frame.first: the frame with which bytes begin. -/
import Derived.Test.YtbhncffeoolhfaaDoorFrFirstR
import Derived.Test.YtbhncffeoolhfaaDoorFrLen
namespace Go.Proofs.YtbhncffeoolhfaaDoor
open Go.RowKit

theorem neB_iff (a0 a1 a2 a3 : UInt8) (s : Nat) (hs : s < 4294967296) : neB (a0.toNat : Int) (a1.toNat : Int) (a2.toNat : Int) (a3.toNat : Int) s = !(decide ([a0, a1, a2, a3] = leB 4 s)) := by
  unfold neB
  congr 1
  have key : ∀ (a : UInt8) (m : Nat), m < 256 → (((a.toNat : Int) == (m : Int)) = decide (a = UInt8.ofNat m)) := by
    intro a m hm
    by_cases h : a = UInt8.ofNat m
    · subst h
      have : (UInt8.ofNat m).toNat = m := toNat_ofNat_lt hm
      rw [this]; simp
    · have h2 : ¬ ((a.toNat : Int) = (m : Int)) := by
        intro e
        apply h
        have e2 : a.toNat = m := by omega
        rw [← e2]; simp
      rw [beq_eq_false_iff_ne.2 h2]
      simp [h]
  have e0 : ((s : Int) % 256) = ((s % 256 : Nat) : Int) := by omega
  have e1 : ((s : Int) / 256 % 256) = ((s / 256 % 256 : Nat) : Int) := by omega
  have e2 : ((s : Int) / 65536 % 256) = ((s / 256 / 256 % 256 : Nat) : Int) := by omega
  have e3 : ((s : Int) / 16777216) = ((s / 256 / 256 / 256 % 256 : Nat) : Int) := by omega
  rw [e0, e1, e2, e3, key a0 _ (by omega), key a1 _ (by omega), key a2 _ (by omega), key a3 _ (by omega), leB4']
  simp

/-- What the first frame comes to, its contents lying in what came in. -/
def FirstPost (B : Nat) (w : World) (bs : List UInt8) (e : Ending) (W' : World) : Prop :=
  (∃ x n v, tk bs = .ok x n ∧ e = .returned (.tuple #[.agg #[v, .int .i64 (n : Int)], .int .i64 0]) ∧ IsBat B W' v x ∧ Below w.heap.size w W') ∨
  (∃ k : Nat, tk bs = .err k ∧ e = .returned (.tuple #[.agg #[.slice none 0 0, .int .i64 0], .int .i64 (k : Int)]) ∧ Below w.heap.size w W')

/-- A part is laid in the result's block. -/
theorem part_set {w W : World} {cs : Array Value} (h : W.heap[w.heap.size]? = some (.cells cs 46 (0, 0))) (hB : Below w.heap.size w W) (u : Value) (m : Int) (hz : cs.size = 2 := by rfl) :
    ((W.setCell ⟨w.heap.size, 0, none⟩ u).setCell ⟨w.heap.size, 1, none⟩ (.int .i64 m)).cell? ⟨w.heap.size, 0, none⟩ = some u ∧ ((W.setCell ⟨w.heap.size, 0, none⟩ u).setCell ⟨w.heap.size, 1, none⟩ (.int .i64 m)).cell? ⟨w.heap.size, 1, none⟩ = some (.int .i64 m) ∧
    Below w.heap.size w ((W.setCell ⟨w.heap.size, 0, none⟩ u).setCell ⟨w.heap.size, 1, none⟩ (.int .i64 m)) := by
  have hfin := blk_set (blk_set h 0 u) 1 (.int .i64 m)
  have d0 := blk_cell hfin 0
  have d1 := blk_cell hfin 1
  refine ⟨by rw [d0]; simp [hz], by rw [d1]; simp [hz], (hB.setCell (p := ⟨w.heap.size, 0, none⟩) (Nat.le_refl _) _).setCell (p := ⟨w.heap.size, 1, none⟩) (Nat.le_refl _) _⟩
theorem part_keep {w W : World} {B : Nat} {u v : Value} (p : Addr) (hp : p.block < B) (hB : B ≤ w.heap.size) : ((W.setCell ⟨w.heap.size, 0, none⟩ u).setCell ⟨w.heap.size, 1, none⟩ v).cell? p = W.cell? p := by
  refine World.cell?_of_block ((Below.heap_setCell _ _ _ _ ?_).trans (Below.heap_setCell _ _ _ _ ?_)) <;> (intro e; have : p.block = w.heap.size := e; omega)

set_option maxHeartbeats 2000000 in
theorem first_any (A : Option Addr) (L c : Nat) (bs : List UInt8) (hL : L = bs.length) (hlen : L ≤ 1000000) (hcap : L ≤ c) (w : World) (B : Nat) (hBw : B ≤ w.heap.size) (hT : Tab w) (hAB : HasA w B A bs) :
    Calls Tryd.prog 19 #[.slice A L c] w (FirstPost B w bs) := by
  have HAB := Lib.hid hAB
  have HA := Lib.hid (hAB.more hBw)
  have HL := Lib.hid hL
  have HT := Lib.hid hT
  have hli : (L : Int) ≤ 1000000 := by omega
  clear hL hAB hT
  go_enter Tryd.func19, Tryd.ntmps19
  go_wp2_with fail
  have hb0 : ∀ o, Below w.heap.size w (w.alloc o) := fun o => (Below.refl _ _).alloc (Nat.le_refl _) o
  refine (lengthOf_any A L c bs HL.out hlen hcap _ (HA.out.below' (hb0 _))).mono ?_
  rintro e W1 ⟨hb1, hcase⟩
  have hblk := (Below.block hb1 w.heap.size (by simp)).trans (World.alloc_heap_new w _)
  have B1 := Lib.hid ((hb0 _).trans (Below.mono hb1 (by simp)))
  have HB1 := Lib.hid hblk
  have b0 := blk_cell hblk 0
  have b1 := blk_cell hblk 1
  have z0 := blk_frozen hblk 0
  have z1 := blk_frozen hblk 1
  simp at b0 b1
  clear hb1 hb0 hblk
  rcases hcase with ⟨n, rest, hr, hn1, hn2, rfl⟩ | ⟨k, hk, hk0, rfl⟩
  · obtain ⟨hbs, hn64⟩ := rdU_ok hr
    have hTk := Lib.hid (tk_of_ok hr)
    have HBS := Lib.hid hbs
    have hn1i : (1 : Int) ≤ n := by omega
    have hn2i : (n : Int) ≤ 65536 := by omega
    clear hr hbs
    go_wp2_with fail
    refine (Uint_any none [] 0 0 n rfl hn64 (by simp) W1 (HasA.nil _ _ _)).mono ?_
    rintro e W2 ⟨g, k, ck, rfl, hown, hb2⟩
    have hkl : k = (vb n).length := by have := own_len hown; simpa using this
    have hk10 : k ≤ 10 := by rw [hkl]; exact vb_len10 hn64
    have HKL := Lib.hid hkl
    have HBl2 := Lib.hid ((Below.block hb2 w.heap.size (Array.getElem?_eq_some_iff.1 HB1.out).1).trans HB1.out)
    have B2 := Lib.hid (B1.out.trans (Below.mono hb2 B1.out.size))
    have b0 := blk_cell HBl2.out 0
    have b1 := blk_cell HBl2.out 1
    have z0 := blk_frozen HBl2.out 0
    have z1 := blk_frozen HBl2.out 1
    simp at b0 b1
    have hkr : L = k + rest.length := by rw [HL.out, HBS.out, List.length_append, HKL.out]
    clear hown hb2 hkl HB1
    by_cases hsh : rest.length < 4 + n
    · have hshi : (L : Int) < (k : Int) + 4 + (n : Int) := by omega
      have HTK := Lib.hid (hTk.out.trans (show tkR n rest = .err 10 by unfold tkR; rw [if_neg (by omega), if_pos (by omega)]))
      clear hkr
      go_wp2
      obtain ⟨hc0, hc1, hB3⟩ := part_set HBl2.out B2.out (.slice none 0 0) 0
      exact bodyPost_ret (by simp [results, Tryd.results19, go_sem, hc0, hc1]) rfl (.inr ⟨10, HTK.out, rfl, hB3⟩)
    · have hshi : ¬ (L : Int) < (k : Int) + 4 + (n : Int) := by omega
      have hci : (k : Int) + 4 + (n : Int) ≤ c := by omega
      have hne : bs ≠ [] := by intro e; have := HL.out; rw [e] at this; simp at this; omega
      obtain ⟨b, o, hAe, hbB, hcell⟩ := HA.out hne
      subst hAe
      have HKR := Lib.hid hkr
      clear hcell hne hkr
      go_wp2
      obtain ⟨ys, hys⟩ : ∃ ys, ys = rest.take 4 := ⟨_, rfl⟩
      have hy4 : ys.length = 4 := by rw [hys, List.length_take]; omega
      have hdr : (bs.drop k).take 4 = ys := by rw [HBS.out, HKL.out, List.drop_left, hys]
      have hA4 : HasA (W2.alloc (Obj.cells (sumC 0 0) 39)) W2.heap.size (some ⟨b, o + k, none⟩) ys := by
        rw [← hdr]
        exact (((HA.out.below' B2.out).alloc (Nat.le_refl _) _).cut b o k rfl).take 4
      refine first_copy W2.heap.size W2.heap.size b o (o + k) L c (c - k) k ys hy4 (Nat.le_refl _) (by omega) (by omega) rfl rfl _ _ _ rfl rfl rfl rfl (by simp) hA4 ⟨_, rfl, World.alloc_heap_new W2 _⟩ ?_
      rintro v38 W3 ⟨rfl, hk3⟩ hg3
      have hB23 : Below W2.heap.size W2 W3 := ((Below.refl _ _).alloc (Nat.le_refl _) _).grown hg3 (by simp) (fun k e => by cases e; exact Nat.le_refl _)
      have hD3 : W2.heap.size < W3.heap.size := (Array.getElem?_eq_some_iff.1 hk3).1
      have HD3 := Lib.hid hD3
      obtain ⟨a0, a1, a2, a3, ha⟩ : ∃ a0 a1 a2 a3, ys = [a0, a1, a2, a3] := by
        rcases ys with _ | ⟨y0, _ | ⟨y1, _ | ⟨y2, _ | ⟨y3, _ | _⟩⟩⟩⟩ <;> simp at hy4
        exact ⟨_, _, _, _, rfl⟩
      rw [ha] at hk3
      have HK3 := Lib.hid hk3
      have B3 := Lib.hid (B2.out.trans (Below.mono hB23 B2.out.size))
      have HBl3 := Lib.hid ((hB23.block w.heap.size (Array.getElem?_eq_some_iff.1 HBl2.out).1).trans HBl2.out)
      have HYS := Lib.hid (ha.symm.trans hys)
      obtain ⟨x, hx⟩ : ∃ x, x = (rest.drop 4).take n := ⟨_, rfl⟩
      have hxl : n = x.length := by rw [hx, List.length_take, List.length_drop]; omega
      have hdr2 : (bs.drop (k + 4)).take n = x := by rw [HBS.out, hx, HKL.out, ← List.drop_drop, List.drop_left]
      have hA2 : HasA W3 B (some ⟨b, o + (k + 4), none⟩) x := by
        rw [← hdr2]
        exact ((HAB.out.below (Below.mono B3.out hBw)).cut b o (k + 4) rfl).take n
      have HA2 := Lib.hid hA2
      have HX := Lib.hid hx
      have HXL := Lib.hid hxl
      clear hA2 hA4 hdr hdr2 hys hy4 hk3 hg3 hB23 hD3 ha hx hxl b0 b1 z0 z1
      simp only [puts, List.foldl_cons, List.foldl_nil, Act.put, List.setIfInBounds_toArray, List.set_cons_succ, List.set_cons_zero]
      go_wp2
      rw [show k + 4 + n - (k + 4) = n by omega]
      refine first_cmp W2.heap.size (some ⟨b, o + (k + 4), none⟩) n (c - (k + 4)) x (a0.toNat : Int) (a1.toNat : Int) (a2.toNat : Int) (a3.toNat : Int) HXL.out (by omega) _ W3 _ rfl rfl rfl (HT.out.grew B3.out) (HA2.out.more (Nat.le_trans hBw B3.out.size)) HD3.out HK3.out ?_
      intro W4 hg4
      have hsl := crcSum_lt x
      rw [neB_iff a0 a1 a2 a3 _ hsl, HYS.out]
      have HBl4 := Lib.hid ((Below.block hg4 w.heap.size (Array.getElem?_eq_some_iff.1 HBl3.out).1).trans HBl3.out)
      have B4 := Lib.hid (B3.out.trans (Below.mono hg4 B3.out.size))
      have HA4 := Lib.hid (HA2.out.below (Below.mono hg4 (Nat.le_trans hBw B3.out.size)))
      have b0 := blk_cell HBl4.out 0
      have b1 := blk_cell HBl4.out 1
      have z0 := blk_frozen HBl4.out 0
      have z1 := blk_frozen HBl4.out 1
      simp at b0 b1
      clear hg4 hsl HA2
      by_cases hsum : rest.take 4 = leB 4 (crcSum x)
      · have hd : decide (rest.take 4 = leB 4 (crcSum x)) = true := by simpa using hsum
        have HT2 := Lib.hid (hTk.out.trans (show tkR n rest = .ok x (k + 4 + n) by
          unfold tkR
          rw [if_neg (by omega), if_neg hsh, ← HX.out, if_pos hsum, ← HKL.out, Nat.add_assoc]))
        rw [hd]
        clear hsum hd
        simp only [puts, List.foldl_cons, List.foldl_nil, Act.put, List.setIfInBounds_toArray, List.set_cons_succ, List.set_cons_zero]
        go_wp2
        obtain ⟨hc0, hc1, hB3⟩ := part_set HBl4.out B4.out (.slice (some ⟨b, o + (k + 4), none⟩) n (c - (k + 4))) ((k : Int) + 4 + n)
        exact bodyPost_ret (v := .tuple #[.agg #[.slice (some ⟨b, o + (k + 4), none⟩) n (c - (k + 4)), .int .i64 ((k : Int) + 4 + n)], .int .i64 0]) (by simp [results, Tryd.results19, go_sem, hc0, hc1]) rfl (.inl ⟨x, k + 4 + n, .slice (some ⟨b, o + (k + 4), none⟩) n (c - (k + 4)), HT2.out, rfl, ⟨_, _, _, rfl, HXL.out, HA4.out.keep (fun p hp => part_keep p hp hBw)⟩, hB3⟩)
      · have hd : decide (rest.take 4 = leB 4 (crcSum x)) = false := by simpa using hsum
        have HT2 := Lib.hid (hTk.out.trans (show tkR n rest = .err 12 by
          unfold tkR
          rw [if_neg (by omega), if_neg hsh, ← HX.out, if_neg hsum]))
        rw [hd]
        clear hsum hd
        simp only [puts, List.foldl_cons, List.foldl_nil, Act.put, List.setIfInBounds_toArray, List.set_cons_succ, List.set_cons_zero]
        go_wp2
        obtain ⟨hc0, hc1, hB3⟩ := part_set HBl4.out B4.out (.slice none 0 0) 0
        exact bodyPost_ret (by simp [results, Tryd.results19, go_sem, hc0, hc1]) rfl (.inr ⟨12, HT2.out, rfl, hB3⟩)
  · go_wp2
    obtain ⟨hc0, hc1, hB3⟩ := part_set HB1.out B1.out (.slice none 0 0) 0
    exact bodyPost_ret (by simp [results, Tryd.results19, go_sem, hc0, hc1]) rfl (.inr ⟨k, hk, rfl, hB3⟩)
end Go.Proofs.YtbhncffeoolhfaaDoor
