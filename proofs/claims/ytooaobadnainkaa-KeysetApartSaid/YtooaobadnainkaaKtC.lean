/- The program's Lone, shareKey, Way. -/
import Derived.Test.YtooaobadnainkaaKtB
import Derived.Test.YtooaobadnainkaaKqU0
namespace Go.Proofs.Ytooaobadnainkaa
open Go.RowKit

theorem touchK_le (ks : List ByteArray) : (touchK ks).length ≤ ks.length := by
  have key : ∀ j, j ≤ ks.length → (touchP (ks.take j)).length ≤ j := by
    intro j
    induction j with
    | zero => intro _; simp [touchP]
    | succ j ih =>
      intro hj
      rw [touchP_succ (by omega)]
      have h1 := ih (by omega)
      have h2 : (withP (touchP (ks.take j)) ks[j] ⟨#[]⟩).length ≤ (touchP (ks.take j)).length + 1 := withP_len _ _ _
      omega
  have := key ks.length (Nat.le_refl _)
  rw [List.take_length] at this
  simpa [touchK] using this
theorem boxedW {w W0 : World} {cs : Array Value} {t : TypeId} (h : W0 = w.alloc (.cells cs t)) : Below w.heap.size w W0 ∧ W0.heap[w.heap.size]? = some (.cells cs t (0, 0)) := by
  subst h
  exact ⟨(Below.refl _ w).alloc (Nat.le_refl _) _, World.alloc_heap_new w _⟩
/-- A command's cells in a block of its own. -/
structure BoxC (p : Nat) (v : CmdV) (W : World) : Prop where
  blk : W.heap[p]? = some (.cells v.cells 31 (0, 0))
theorem BoxC.below {p : Nat} {v : CmdV} {W W' : World} (h : BoxC p v W) (hb : Below W.heap.size W W') : BoxC p v W' := ⟨(hb.block p (Array.getElem?_eq_some_iff.1 h.blk).1).trans h.blk⟩
theorem BoxC.lt {p : Nat} {v : CmdV} {W : World} (h : BoxC p v W) : p < W.heap.size := (Array.getElem?_eq_some_iff.1 h.blk).1
theorem BoxC.at {p : Nat} {cl sq kd : Nat} {A : Option Addr} {L c : Nat} {ks : List ByteArray} {old new : ByteArray} {n : Int} {W : World} (h : BoxC p ⟨cl, sq, kd, A, L, c, ks, old, new, n⟩ W) :
    W.cell? ⟨p, 0, none⟩ = some (.int .u32 (cl : Int)) ∧ W.cell? ⟨p, 1, none⟩ = some (.int .u32 (sq : Int)) ∧ W.cell? ⟨p, 2, none⟩ = some (.int .u8 (kd : Int)) ∧ W.cell? ⟨p, 3, none⟩ = some (.slice A L c) ∧ W.cell? ⟨p, 4, none⟩ = some (.string old) ∧ W.cell? ⟨p, 5, none⟩ = some (.string new) ∧ W.cell? ⟨p, 6, none⟩ = some (.int .i64 n) := by
  have k := h.blk
  exact ⟨blk_cell k 0, blk_cell k 1, blk_cell k 2, blk_cell k 3, blk_cell k 4, blk_cell k 5, blk_cell k 6⟩
set_option maxRecDepth 100000 in
set_option maxHeartbeats 4000000 in
theorem lone_anyK (v : CmdV) (w : World) (hv : v.ok w) (hn : v.ks.length ≤ 10000) : Calls Try.prog 9 #[v.val] w fun e W' => e = .returned (.bool (loneM v.m)) ∧ Below w.heap.size w W' := by
  have HT : Hid (∀ W, Below w.heap.size w W → Calls Try.prog 18 #[v.val] W fun e W' => ∃ x, e = .returned x ∧ TxtS W' x (touchK v.ks) ∧ Below W.heap.size W W') := Lib.hid (fun W hb => touches_any v W (hv.below hb) hn)
  have hle : (touchK v.ks).length ≤ 10000 := Nat.le_trans (touchK_le _) hn
  have hl : loneM v.m = decide (4 < (touchK v.ks).length) := rfl
  rw [hl]
  obtain ⟨N, hN⟩ : ∃ N, N = (touchK v.ks).length := ⟨_, rfl⟩
  rw [← hN] at hle ⊢
  have HN := Lib.hid (And.intro hN hle)
  clear hv hn hl hN hle
  obtain ⟨cl, sq, kd, KA, L, c, ks, old, new, n⟩ := v
  simp only [CmdV.val, CmdV.cells] at HT HN ⊢
  go_enter Try.func9, Try.ntmps9
  go_upto_region 1 with (fail)
  obtain ⟨W0, hW0⟩ : ∃ W0, W0 = w.alloc (Obj.cells #[.int .u32 (cl : Int), .int .u32 (sq : Int), .int .u8 (kd : Int), .slice KA L c, .string old, .string new, .int .i64 n] 31) := ⟨_, rfl⟩
  rw [← hW0]
  obtain ⟨hB0, k0⟩ := boxedW hW0
  obtain ⟨p, hp⟩ : ∃ p, p = w.heap.size := ⟨_, rfl⟩
  rw [← hp] at k0 ⊢
  have C0 : BoxC p ⟨cl, sq, kd, KA, L, c, ks, old, new, n⟩ W0 := ⟨k0⟩
  have HM := Lib.hid (more_any W0)
  obtain ⟨g, hg⟩ : ∃ g, g = W0.heap.size := ⟨_, rfl⟩
  rw [← hg] at HM
  obtain ⟨W1, hW1⟩ : ∃ W1, W1 = W0.alloc (.cells #[.int .i64 4] 3) := ⟨_, rfl⟩
  obtain ⟨hB1, k1⟩ := boxedW hW1
  rw [← hW1] at HM
  rw [← hg] at k1
  have G1 : W1.cell? ⟨g, 0, none⟩ = some (.int .i64 4) := by simpa using blk_cell k1 0
  have HG := Lib.hid (And.intro G1 (Array.getElem?_eq_some_iff.1 k1).1)
  have HC1 := Lib.hid (C0.below hB1)
  have HB1 := Lib.hid (hB0.trans (Below.mono hB1 hB0.size))
  clear hW0 hB0 k0 hp C0 hg hW1 hB1 k1 G1
  go_wp2_with fail
  refine HM.out.mono ?_
  rintro e W2 ⟨rfl, rfl⟩
  obtain ⟨x0, x1, x2, x3, x4, x5, x6⟩ := HC1.out.at
  have HT1 := Lib.hid (HT.out W2 HB1.out)
  unfold loneV
  go_wp2_with fail
  refine HT1.out.mono ?_
  rintro e W3 ⟨x, rfl, ⟨⟨A3, L3, c3, rfl, hL3, hc3, has3⟩⟩, hb3⟩
  have hg3 := (hb3.cell (p := ⟨g, 0, none⟩) HG.out.2).trans HG.out.1
  obtain rfl : L3 = N := by rw [hL3, HN.out.1]
  have HF := Lib.hid (more1_any g A3 L3 c3 (by have := HN.out.2; omega) W3 hg3)
  have HB3 := Lib.hid (HB1.out.trans (Below.mono hb3 HB1.out.size))
  clear hL3 hc3 has3 hb3 hg3 x0 x1 x2 x3 x4 x5 x6
  go_wp2_with fail
  refine HF.out.mono ?_
  rintro e W4 ⟨rfl, rfl⟩
  go_wp2
  go_ret
  exact ⟨rfl, HB3.out⟩
theorem share_comm (xs ys : List ByteArray) : (ys.any fun j => xs.any (isK j)) = xs.any fun k => ys.any fun j => decide (k = j) := by
  rw [Bool.eq_iff_iff]
  simp only [isK, List.any_eq_true, decide_eq_true_eq]
  constructor
  · rintro ⟨x, hx, y, hy, rfl⟩; exact ⟨y, hy, y, hx, rfl⟩
  · rintro ⟨x, hx, y, hy, rfl⟩; exact ⟨x, hy, x, hx, rfl⟩
theorem share_touch (xs ys : List ByteArray) : ((touchK ys).any fun j => (touchK xs).any (isK j)) = xs.any fun k => ys.any fun j => decide (k = j) := by
  rw [share_comm, Bool.eq_iff_iff]
  simp only [List.any_eq_true, decide_eq_true_eq, touchK_mem]
set_option maxRecDepth 100000 in
set_option maxHeartbeats 4000000 in
theorem share_anyK (a b : CmdV) (w : World) (ha : a.ok w) (hb : b.ok w) (hna : a.ks.length ≤ 10000) (hnb : b.ks.length ≤ 10000) :
    Calls Try.prog 20 #[a.val, b.val] w fun e W' => e = .returned (.bool (a.ks.any fun k => b.ks.any fun j => decide (k = j))) ∧ Below w.heap.size w W' := by
  rw [← share_touch]
  have HTA : Hid (∀ W, Below w.heap.size w W → Calls Try.prog 18 #[a.val] W fun e W' => ∃ x, e = .returned x ∧ TxtS W' x (touchK a.ks) ∧ Below W.heap.size W W') := Lib.hid (fun W hb => touches_any a W (ha.below hb) hna)
  have HTB : Hid (∀ W, Below w.heap.size w W → Calls Try.prog 18 #[b.val] W fun e W' => ∃ x, e = .returned x ∧ TxtS W' x (touchK b.ks) ∧ Below W.heap.size W W') := Lib.hid (fun W hw => touches_any b W (hb.below hw) hnb)
  have hla : (touchK a.ks).length ≤ 10000 := Nat.le_trans (touchK_le _) hna
  have hlb : (touchK b.ks).length ≤ 10000 := Nat.le_trans (touchK_le _) hnb
  obtain ⟨xs, hxs⟩ : ∃ xs, xs = touchK a.ks := ⟨_, rfl⟩
  obtain ⟨ys, hys⟩ : ∃ ys, ys = touchK b.ks := ⟨_, rfl⟩
  rw [← hxs] at HTA hla
  rw [← hys] at HTB hlb
  rw [← hxs, ← hys]
  have HN := Lib.hid (And.intro hla hlb)
  have hmf : ∀ (fn : Fn) (first cap : Array Value) (w : World), (Instr.makeFunc fn first cap).run Try.prog w = .ok (.func fn first cap) w := fun _ _ _ _ => rfl
  clear ha hb hna hnb hla hlb hxs hys
  obtain ⟨cl, sq, kd, KA, L, c, ks, old, new, n⟩ := a
  obtain ⟨cl', sq', kd', KA', L', c', ks', old', new', n'⟩ := b
  simp only [CmdV.val, CmdV.cells] at HTA HTB ⊢
  go_enter Try.func20, Try.ntmps20
  go_upto_region 1 with (fail)
  obtain ⟨W0, hW0⟩ : ∃ W0, W0 = w.alloc (Obj.cells #[.int .u32 (cl : Int), .int .u32 (sq : Int), .int .u8 (kd : Int), .slice KA L c, .string old, .string new, .int .i64 n] 31) := ⟨_, rfl⟩
  rw [← hW0]
  obtain ⟨hB0, k0⟩ := boxedW hW0
  obtain ⟨W1, hW1⟩ : ∃ W1, W1 = W0.alloc (Obj.cells #[.int .u32 (cl' : Int), .int .u32 (sq' : Int), .int .u8 (kd' : Int), .slice KA' L' c', .string old', .string new', .int .i64 n'] 31) := ⟨_, rfl⟩
  rw [← hW1]
  obtain ⟨hB1, k1⟩ := boxedW hW1
  have hq : W0.heap.size = w.heap.size + 1 := by rw [hW0]; simp
  obtain ⟨p, hp⟩ : ∃ p, p = w.heap.size := ⟨_, rfl⟩
  rw [hq] at k1
  rw [← hp] at k0 k1 ⊢
  obtain ⟨q, hq'⟩ : ∃ q, q = p + 1 := ⟨_, rfl⟩
  rw [← hq'] at k1 ⊢
  have HC : Hid (BoxC p ⟨cl, sq, kd, KA, L, c, ks, old, new, n⟩ W1 ∧ BoxC q ⟨cl', sq', kd', KA', L', c', ks', old', new', n'⟩ W1) := Lib.hid ⟨BoxC.below ⟨k0⟩ hB1, ⟨k1⟩⟩
  have HB1 := Lib.hid (hB0.trans (Below.mono hB1 hB0.size))
  clear hW0 hB0 k0 hp hq hq' hW1 hB1 k1
  obtain ⟨x0, x1, x2, x3, x4, x5, x6⟩ := HC.out.1.at
  have HT1 := Lib.hid (HTA.out W1 HB1.out)
  go_wp2_with fail
  refine HT1.out.mono ?_
  rintro e W2 ⟨x, rfl, ⟨⟨A3, L3, c3, rfl, hL3, hc3, has3⟩⟩, hb2⟩
  have HA3 := Lib.hid (And.intro has3 hL3)
  have HB2 := Lib.hid (HB1.out.trans (Below.mono hb2 HB1.out.size))
  have HC2 := Lib.hid (HC.out.2.below hb2)
  clear hL3 has3 hc3 hb2 x0 x1 x2 x3 x4 x5 x6
  go_upto_region 2 with (fail)
  obtain ⟨W3, hW3⟩ : ∃ W3, W3 = W2.alloc (Obj.cells #[.slice A3 L3 c3] 29) := ⟨_, rfl⟩
  rw [← hW3]
  obtain ⟨hB3, k3⟩ := boxedW hW3
  obtain ⟨g, hg⟩ : ∃ g, g = W2.heap.size := ⟨_, rfl⟩
  rw [← hg] at k3 ⊢
  obtain ⟨x0, x1, x2, x3, x4, x5, x6⟩ := (HC2.out.below hB3).at
  have HG : Hid (W3.cell? ⟨g, 0, none⟩ = some (.slice A3 L3 c3) ∧ g < W3.heap.size ∧ HasS W3 A3 xs) := Lib.hid ⟨by simpa using blk_cell k3 0, (Array.getElem?_eq_some_iff.1 k3).1, HA3.out.1.below hB3⟩
  have HB3 := Lib.hid (HB2.out.trans (Below.mono hB3 HB2.out.size))
  clear hW3 hB3 k3 hg
  have HT3 := Lib.hid (HTB.out W3 HB3.out)
  go_wp2_with fail
  refine HT3.out.mono ?_
  rintro e W4 ⟨x, rfl, ⟨⟨A4, L4, c4, rfl, hL4, hc4, has4⟩⟩, hb4⟩
  have HF := Lib.hid (contf_any g A3 L3 c3 xs A4 L4 c4 ys HA3.out.2 (by have := HA3.out.2; have := HN.out.1; omega) hL4 (by have := HN.out.2; omega) W4 (HG.out.2.2.below hb4) has4 ((hb4.cell (p := ⟨g, 0, none⟩) HG.out.2.1).trans HG.out.1))
  unfold testV at HF
  have HB4 := Lib.hid (HB3.out.trans (Below.mono hb4 HB3.out.size))
  clear hL4 hc4 has4 hb4 x0 x1 x2 x3 x4 x5 x6
  go_wp2_with fail
  refine HF.out.mono ?_
  rintro e W5 ⟨rfl, rfl⟩
  go_wp2
  go_ret
  exact ⟨rfl, HB4.out⟩
set_option maxRecDepth 100000 in
set_option maxHeartbeats 4000000 in
theorem way_anyK (a b : CmdV) (w : World) (ha : a.ok w) (hb : b.ok w) (hna : a.ks.length ≤ 10000) (hnb : b.ks.length ≤ 10000) :
    Calls Try.prog 11 #[a.val, b.val] w fun e W' => e = .returned (.bool (wayM a.m b.m)) ∧ Below w.heap.size w W' := by
  have HLA : Hid (∀ W, Below w.heap.size w W → Calls Try.prog 9 #[a.val] W fun e W' => e = .returned (.bool (loneM a.m)) ∧ Below W.heap.size W W') := Lib.hid (fun W h => lone_anyK a W (ha.below h) hna)
  have HLB : Hid (∀ W, Below w.heap.size w W → Calls Try.prog 9 #[b.val] W fun e W' => e = .returned (.bool (loneM b.m)) ∧ Below W.heap.size W W') := Lib.hid (fun W h => lone_anyK b W (hb.below h) hnb)
  have HS : Hid (∀ W, Below w.heap.size w W → Calls Try.prog 20 #[a.val, b.val] W fun e W' => e = .returned (.bool (a.ks.any fun k => b.ks.any fun j => decide (k = j))) ∧ Below W.heap.size W W') := Lib.hid (fun W h => share_anyK a b W (ha.below h) (hb.below h) hna hnb)
  have hw : wayM a.m b.m = (decide (a.cl = b.cl) || loneM a.m || loneM b.m || (a.ks.any fun k => b.ks.any fun j => decide (k = j))) := by
    show (loneM a.m || loneM b.m || decide (a.cl = b.cl) || _) = _
    cases loneM a.m <;> cases loneM b.m <;> cases decide (a.cl = b.cl) <;> rfl
  obtain ⟨la, hla⟩ : ∃ x, x = loneM a.m := ⟨_, rfl⟩
  obtain ⟨lb, hlb⟩ : ∃ x, x = loneM b.m := ⟨_, rfl⟩
  obtain ⟨sh, hsh⟩ : ∃ x, x = a.ks.any fun k => b.ks.any fun j => decide (k = j) := ⟨_, rfl⟩
  rw [← hla, ← hlb, ← hsh] at hw
  rw [← hla] at HLA
  rw [← hlb] at HLB
  rw [← hsh] at HS
  rw [hw]
  obtain ⟨r, hr⟩ : ∃ r, r = (decide (a.cl = b.cl) || la || lb || sh) := ⟨_, rfl⟩
  rw [← hr]
  have HR := Lib.hid hr
  clear hr
  have ca := ha.cl
  have cb := hb.cl
  clear ha hb hna hnb hla hlb hsh hw
  obtain ⟨cl, sq, kd, KA, L, c, ks, old, new, n⟩ := a
  obtain ⟨cl', sq', kd', KA', L', c', ks', old', new', n'⟩ := b
  simp only [CmdV.val, CmdV.cells] at HLA HLB HS HR ca cb ⊢
  go_enter Try.func11, Try.ntmps11
  go_upto_region 1 with (fail)
  obtain ⟨W0, hW0⟩ : ∃ W0, W0 = w.alloc (Obj.cells #[.int .u32 (cl : Int), .int .u32 (sq : Int), .int .u8 (kd : Int), .slice KA L c, .string old, .string new, .int .i64 n] 31) := ⟨_, rfl⟩
  rw [← hW0]
  obtain ⟨hB0, k0⟩ := boxedW hW0
  obtain ⟨W1, hW1⟩ : ∃ W1, W1 = W0.alloc (Obj.cells #[.int .u32 (cl' : Int), .int .u32 (sq' : Int), .int .u8 (kd' : Int), .slice KA' L' c', .string old', .string new', .int .i64 n'] 31) := ⟨_, rfl⟩
  rw [← hW1]
  obtain ⟨hB1, k1⟩ := boxedW hW1
  have hq : W0.heap.size = w.heap.size + 1 := by rw [hW0]; simp
  obtain ⟨p, hp⟩ : ∃ p, p = w.heap.size := ⟨_, rfl⟩
  rw [hq] at k1
  rw [← hp] at k0 k1 ⊢
  obtain ⟨q, hq'⟩ : ∃ q, q = p + 1 := ⟨_, rfl⟩
  rw [← hq'] at k1 ⊢
  have HC : Hid (BoxC p ⟨cl, sq, kd, KA, L, c, ks, old, new, n⟩ W1 ∧ BoxC q ⟨cl', sq', kd', KA', L', c', ks', old', new', n'⟩ W1) := Lib.hid ⟨BoxC.below ⟨k0⟩ hB1, ⟨k1⟩⟩
  have HB1 := Lib.hid (hB0.trans (Below.mono hB1 hB0.size))
  clear hW0 hB0 k0 hp hq hq' hW1 hB1 k1
  obtain ⟨x0, x1, x2, x3, x4, x5, x6⟩ := HC.out.1.at
  obtain ⟨y0, y1, y2, y3, y4, y5, y6⟩ := HC.out.2.at
  by_cases he : cl = cl'
  · have hei : (cl : Int) = cl' := by omega
    go_wp2
    go_ret
    exact ⟨by rw [show r = true by rw [HR.out]; simp [he]]; rfl, HB1.out⟩
  have hei : ¬ (cl : Int) = cl' := by omega
  have H1 := Lib.hid (HLA.out W1 HB1.out)
  go_wp2_with fail
  refine H1.out.mono ?_
  rintro e W2 ⟨rfl, hb2⟩
  have HB2 := Lib.hid (HB1.out.trans (Below.mono hb2 HB1.out.size))
  have HC2 : Hid (BoxC p ⟨cl, sq, kd, KA, L, c, ks, old, new, n⟩ W2 ∧ BoxC q ⟨cl', sq', kd', KA', L', c', ks', old', new', n'⟩ W2) := Lib.hid ⟨HC.out.1.below hb2, HC.out.2.below hb2⟩
  clear hb2 x0 x1 x2 x3 x4 x5 x6 y0 y1 y2 y3 y4 y5 y6
  obtain ⟨x0, x1, x2, x3, x4, x5, x6⟩ := HC2.out.1.at
  obtain ⟨y0, y1, y2, y3, y4, y5, y6⟩ := HC2.out.2.at
  cases la with
  | true =>
    go_wp2
    go_ret
    exact ⟨by rw [show r = true by rw [HR.out]; simp]; rfl, HB2.out⟩
  | false =>
    have H2 := Lib.hid (HLB.out W2 HB2.out)
    go_wp2_with fail
    refine H2.out.mono ?_
    rintro e W3 ⟨rfl, hb3⟩
    have HB3 := Lib.hid (HB2.out.trans (Below.mono hb3 HB2.out.size))
    have HC3 : Hid (BoxC p ⟨cl, sq, kd, KA, L, c, ks, old, new, n⟩ W3 ∧ BoxC q ⟨cl', sq', kd', KA', L', c', ks', old', new', n'⟩ W3) := Lib.hid ⟨HC2.out.1.below hb3, HC2.out.2.below hb3⟩
    clear hb3 x0 x1 x2 x3 x4 x5 x6 y0 y1 y2 y3 y4 y5 y6
    obtain ⟨x0, x1, x2, x3, x4, x5, x6⟩ := HC3.out.1.at
    obtain ⟨y0, y1, y2, y3, y4, y5, y6⟩ := HC3.out.2.at
    cases lb with
    | true =>
      go_wp2
      go_ret
      exact ⟨by rw [show r = true by rw [HR.out]; simp]; rfl, HB3.out⟩
    | false =>
      have H3 := Lib.hid (HS.out W3 HB3.out)
      go_wp2_with fail
      refine H3.out.mono ?_
      rintro e W4 ⟨rfl, hb4⟩
      have HB4 := Lib.hid (HB3.out.trans (Below.mono hb4 HB3.out.size))
      clear hb4 x0 x1 x2 x3 x4 x5 x6 y0 y1 y2 y3 y4 y5 y6
      go_wp2
      go_ret
      exact ⟨by
        show Ending.returned (.bool (((cl : Int) == (cl' : Int)) || sh)) = _
        rw [show ((cl : Int) == (cl' : Int)) = false by simpa using hei, show r = sh by rw [HR.out]; simp [he]]
        rfl, HB4.out⟩
end Go.Proofs.Ytooaobadnainkaa
