/- add: one more command's wave. -/
import Derived.Test.YtooaobadnainkaaKtD
import Derived.Test.YtooaobadnainkaaKtR
import Derived.Deep.DeepCutAuto
namespace Go.Proofs.Ytooaobadnainkaa
open Go.RowKit Go.Maps

theorem maxN (a b : Nat) : max (a : Int) (b : Int) = ((max a b : Nat) : Int) := by omega
/-- A row that lies stays, behind stores into maps. -/
theorem Only.cellW {F : Nat → Prop} {w w' : World} (h : Only F w w') {p : Addr} {v : Value} (hp : w.cell? p = some v) (hl : p.block < w.heap.size) (hn : ¬ F p.block) : w'.cell? p = some v :=
  (World.cell?_of_block (h.block p.block hl hn)).trans hp
/-- The past while a command's keys are told: its client has the wave, and some of its keys. -/
structure PmQ (W : World) (R g bk bc : Nat) (l : List CM) (m : CM) (x : Nat) (ks : List ByteArray) (j : Nat) : Prop where
  cell : W.heap[R]? = some (.cells #[loneV g, .map (some bk), .map (some bc), .int .i64 (leastW (wavesM l) : Int), .int .i64 (countW (wavesM l) : Int)] 47 (0, 0))
  lim : W.heap[g]? = some (.cells #[.int .i64 4] 3 (0, 0))
  keys : ∃ n, n ≤ 10000 * l.length + j ∧ TwS W bk n (keyS (wavesM l) x (ks.take j))
  cls : ∃ n, n ≤ l.length + 1 ∧ TwU W bc n (clT (wavesM l ++ [(m, x)]))
  ne : bk ≠ bc
section
variable {W W' : World} {R g bk bc : Nat} {l : List CM} {m : CM} {x : Nat} {ks : List ByteArray} {j : Nat}
theorem PmQ.at (h : PmQ W R g bk bc l m x ks j) : W.cell? ⟨R, 1, none⟩ = some (.map (some bk)) ∧ W.cell? ⟨R, 4, none⟩ = some (.int .i64 (countW (wavesM l) : Int)) ∧ W.frozen? ⟨R, 4, none⟩ = false :=
  ⟨blk_cell h.cell 1, blk_cell h.cell 4, blk_frozen h.cell 4⟩
theorem PmQ.of (h : PsQ W R g bk bc l) (hlo : loneM m = false) (hx : x = nextW (wavesM l) m) {nc : Nat} (hnc : nc ≤ l.length) (hT : TwU W' bc (nc + 1) (fun j => if j = m.cl then x + 1 else clT (wavesM l) j)) (hg : W.grownBy W' (some bc)) : PmQ W' R g bk bc l m x ks 0 := by
  obtain ⟨n1, a1, h1⟩ := h.keys
  obtain ⟨l1, l2, l3, l4⟩ := h.lt
  obtain ⟨p1, p2, p3, p4, p5⟩ := h.apart
  have hb : ∀ k, k < W.heap.size → k ≠ bc → W'.heap[k]? = W.heap[k]? := fun k hk hne => hg.block k hk (fun e => hne (Option.some.inj e))
  refine ⟨(hb R l1 p2).trans h.cell, (hb g l2 p4).trans h.lim, ⟨n1, by omega, (h1.keep (hb bk l3 h.ne)).congr (fun k _ => by simp [keyS, inK])⟩, ⟨nc + 1, by omega, hT.congr (fun c _ => ?_)⟩, h.ne⟩
  subst hx
  rw [clT_many hlo]
theorem PmQ.next (h : PmQ W R g bk bc l m x ks j) (hj : j < ks.length) {n : Nat} (hn : n ≤ 10000 * l.length + j) (hT : TwS W' bk (n + 1) (fun k => if k = ks[j] then x + 1 else keyS (wavesM l) x (ks.take j) k)) (hg : W.grownBy W' (some bk)) : PmQ W' R g bk bc l m x ks (j + 1) := by
  obtain ⟨n2, a2, h2⟩ := h.cls
  obtain ⟨n1, a1, h1⟩ := h.keys
  have hb : ∀ k, k < W.heap.size → k ≠ bk → W'.heap[k]? = W.heap[k]? := fun k hk hne => hg.block k hk (fun e => hne (Option.some.inj e))
  refine ⟨(hb R (Array.getElem?_eq_some_iff.1 h.cell).1 (h1.ne_cells h.cell)).trans h.cell, (hb g (Array.getElem?_eq_some_iff.1 h.lim).1 (h1.ne_cells h.lim)).trans h.lim, ⟨n + 1, by omega, hT.congr (fun k _ => ?_)⟩, ⟨n2, a2, h2.keep (hb bc h2.lt (Ne.symm h.ne))⟩, h.ne⟩
  rw [keyS_succ _ _ hj]
theorem PmQ.done (h : PmQ W R g bk bc l m x ks ks.length) (hlo : loneM m = false) (hx : x = nextW (wavesM l) m) (hks : touchK m.ks = ks) (hl : ks.length ≤ 10000) : PsQ (W.setCell ⟨R, 4, none⟩ (.int .i64 ((max (countW (wavesM l)) (x + 1) : Nat) : Int))) R g bk bc (l ++ [m]) := by
  obtain ⟨n1, a1, h1⟩ := h.keys
  obtain ⟨n2, a2, h2⟩ := h.cls
  have hgR : g ≠ R := fun e => by
    have h3 := h.cell
    rw [← e, h.lim] at h3
    exact absurd (congrArg Array.size (Obj.cells.inj (Option.some.inj h3)).1) (by simp)
  have hb : ∀ k, k ≠ R → (W.setCell ⟨R, 4, none⟩ (.int .i64 ((max (countW (wavesM l)) (x + 1) : Nat) : Int))).heap[k]? = W.heap[k]? := fun k hk => Below.heap_setCell _ _ _ _ hk
  refine ⟨?_, (hb g hgR).trans h.lim, ⟨n1, by simp; omega, (h1.keep (hb bk (Ne.symm (h1.ne_cells h.cell)))).congr (fun k _ => ?_)⟩, ⟨n2, by simp; omega, (h2.keep (hb bc (Ne.symm (h2.ne_cells h.cell)))).congr (fun c _ => ?_)⟩, h.ne⟩
  · rw [blk_set h.cell 4, wavesM_snoc, ← hx, least_many hlo, count_any]
    simp
  · rw [wavesM_snoc, hx, keyT_many hlo, hks, List.take_length, ← hx]
    rfl
  · rw [wavesM_snoc, hx]
end
set_option maxRecDepth 100000 in
set_option maxHeartbeats 8000000 in
theorem add_any {w : World} {R g bk bc : Nat} {l : List CM} (h : PsQ w R g bk bc l) (hl : l.length ≤ 1000) (v : CmdV) (hv : v.ok w) (hn : v.ks.length ≤ 10000) :
    Calls Try.prog 16 #[.pointer (some ⟨R, 0, none⟩), v.val] w fun e W' => e = .returned (.int .i64 (nextW (wavesM l) v.m : Int)) ∧ PsQ W' R g bk bc (l ++ [v.m]) ∧ Only (fun x => x = R ∨ x = bk ∨ x = bc) w W' := by
  have HT : Hid (∀ W, Below w.heap.size w W → Calls Try.prog 18 #[v.val] W fun e W' => ∃ x, e = .returned x ∧ TxtS W' x (touchK v.ks) ∧ Below W.heap.size W W') := Lib.hid (fun W hb => touches_any v W (hv.below hb) hn)
  have hle : (touchK v.ks).length ≤ 10000 := Nat.le_trans (touchK_le _) hn
  have heach : ∀ k ∈ touchK v.ks, k.size ≤ maxLen := fun k hk => hv.each k ((touchK_mem _ _).1 hk)
  have hcl := hv.cl
  obtain ⟨m, hm⟩ : ∃ m, m = v.m := ⟨_, rfl⟩
  have hmcl : m.cl = v.cl := by rw [hm]; rfl
  have hlo : loneM m = decide (4 < (touchK v.ks).length) := by rw [hm]; rfl
  have hks : touchK m.ks = touchK v.ks := by rw [hm]; rfl
  rw [← hm]
  obtain ⟨ks, hkk⟩ : ∃ ks, ks = touchK v.ks := ⟨_, rfl⟩
  rw [← hkk] at HT hle heach hlo hks
  have HM := Lib.hid (And.intro hmcl (And.intro hlo hks))
  have HE := Lib.hid (And.intro hle heach)
  have HPS := Lib.hid h
  have HL := Lib.hid hl
  clear h hl hv hn hle heach hm hmcl hlo hks hkk
  obtain ⟨cl, sq, kd, KA, L, c, ks0, old, new, n⟩ := v
  simp only [CmdV.val, CmdV.cells] at HT HM hcl ⊢
  go_enter Try.func16, Try.ntmps16
  go_upto_region 1 with (fail)
  obtain ⟨W0, hW0⟩ : ∃ W0, W0 = w.alloc (Obj.cells #[.int .u32 (cl : Int), .int .u32 (sq : Int), .int .u8 (kd : Int), .slice KA L c, .string old, .string new, .int .i64 n] 31) := ⟨_, rfl⟩
  rw [← hW0]
  obtain ⟨hB0, k0⟩ := boxedW hW0
  obtain ⟨p, hp⟩ : ∃ p, p = w.heap.size := ⟨_, rfl⟩
  rw [← hp] at k0 ⊢
  have HC0 := Lib.hid (show BoxC p ⟨cl, sq, kd, KA, L, c, ks0, old, new, n⟩ W0 from ⟨k0⟩)
  have HB0 := Lib.hid hB0
  have HPW := Lib.hid hp
  clear hW0 hB0 k0 hp
  obtain ⟨x0, x1, x2, x3, x4, x5, x6⟩ := HC0.out.at
  have HT0 := Lib.hid (HT.out W0 HB0.out)
  go_wp2_with fail
  refine HT0.out.mono ?_
  rintro e W1 ⟨x, rfl, ⟨⟨A, N, c3, rfl, hN, hc3, has⟩⟩, hb1⟩
  have HB1 := Lib.hid (HB0.out.trans (Below.mono hb1 HB0.out.size))
  have HP1 := Lib.hid (HPS.out.below HB1.out)
  have HC1 := Lib.hid (HC0.out.below hb1)
  have HA1 := Lib.hid (And.intro hN has)
  clear hN hc3 has hb1 x0 x1 x2 x3 x4 x5 x6 HT HT0
  obtain ⟨q0, q1, q2, q3, q4⟩ := HP1.out.at
  have HF := Lib.hid (more1_any g A N c3 (by have := HA1.out.1; have := HE.out.1; omega) W1 (by simpa using blk_cell HP1.out.lim 0))
  unfold loneV at q0
  go_wp2_with fail
  refine HF.out.mono ?_
  rintro e W2 ⟨rfl, rfl⟩
  obtain ⟨b, hb⟩ : ∃ b, b = loneM m := ⟨_, rfl⟩
  rw [show decide (4 < N) = b by rw [hb, HM.out.2.1, HA1.out.1]]
  have HBB := Lib.hid hb
  clear hb
  cases b with
  | true =>
    have HAL := Lib.hid (addLone_any HP1.out HL.out HBB.out.symm)
    clear q0 q1 q2 q3 q4
    go_wp2_with fail
    refine HAL.out.mono ?_
    rintro e W3 ⟨rfl, h3, h4⟩
    have HZ := Lib.hid (And.intro h3 h4)
    clear h3 h4
    go_wp2
    go_ret
    exact ⟨rfl, HZ.out.1, (Only.of_grew HB1.out).trans HZ.out.2 (fun x e => .inl (.inl e))⟩
  | false =>
    obtain ⟨nk, hnk, hTS⟩ := HP1.out.keys
    obtain ⟨nc, hnc, hTU⟩ := HP1.out.cls
    have HBU := Lib.hid (behindU_any (hTU.keep (w' := W2.drew) rfl) cl hcl (Nat.le_trans (clT_le l cl) (by have := HL.out; omega)))
    obtain ⟨s1, hs1⟩ : ∃ s, s = leastW (wavesM l) := ⟨_, rfl⟩
    obtain ⟨s2, hs2⟩ : ∃ s, s = clT (wavesM l) cl := ⟨_, rfl⟩
    rw [← hs1] at q3
    rw [← hs2] at HBU
    have hs1l : s1 ≤ l.length := by rw [hs1]; exact leastW_le l
    have hs2l : s2 ≤ l.length := by rw [hs2]; exact clT_le l cl
    have HS := Lib.hid (And.intro (And.intro hs1 hs2) (And.intro hs1l hs2l))
    have HTS := Lib.hid (And.intro hnk hTS)
    have HTU := Lib.hid (And.intro hnc hTU)
    clear hnk hTS hnc hTU hs1 hs2 hs1l hs2l
    obtain ⟨x0, x1, x2, x3, x4, x5, x6⟩ := HC1.out.at
    clear x1 x2 x3 x4 x5 x6
    go_upto_region 4 with (fail)
    have hlt := HP1.out.lt
    refine ktwave R p bc cl s1 s2 _ W2 _ rfl rfl rfl hlt.1 HC1.out.lt q3 q2 x0 (fun w' hg => ?_) ?_
    · have HT' := HTU.out.2.keep (hg.block bc hlt.2.2.2)
      have := behindU_any HT' cl hcl (Nat.le_trans (clT_le l cl) (by have := HL.out; omega))
      rwa [← HS.out.1.2] at this
    intro w4 hg4
    have HB4 := Lib.hid (HB1.out.trans (Below.mono hg4 HB1.out.size))
    have HP4 := Lib.hid (HP1.out.below hg4)
    have HC4 := Lib.hid (HC1.out.below hg4)
    have HA4 := Lib.hid (HA1.out.2.below hg4)
    have HT4 : Hid (∀ k, k.size ≤ maxLen → Calls Try.prog 24 #[.map (some bk), .string k] w4 fun e W' => e = .returned (.int .i64 (keyT (wavesM l) k : Int)) ∧ W' = w4) := Lib.hid (fun k hk => by
      obtain ⟨n1, _, h1⟩ := HP4.out.keys
      exact behindS_any h1 k hk (Nat.le_trans (keyT_le l k) (by have := HL.out; omega)))
    clear hg4 q0 q1 q2 q3 q4 x0 hlt
    obtain ⟨q0, q1, q2, q3, q4⟩ := HP4.out.at
    clear q0 q2 q3 q4
    simp only [puts, List.foldl_cons, List.foldl_nil, Act.put, List.setIfInBounds_toArray, List.set_cons_succ, List.set_cons_zero]
    have hNi : (N : Int) ≤ 10000 := by have := HA1.out.1; have := HE.out.1; omega
    go_wp2
    go_loopw [6, 35] (fun v6 i wr => wr = w4 ∧ ∃ j : Nat, j ≤ N ∧ i = .int .i64 (j : Int) ∧ v6 = .int .i64 (foldW (wavesM l) (max s1 s2) (ks.take j) : Int)) (fun _ i _ => N - (intOf i).toNat)
    case atStart => exact ⟨rfl, 0, Nat.zero_le _, rfl, rfl⟩
    case round =>
      obtain ⟨rfl, j, hj, rfl, rfl⟩ := hrel
      by_cases hlt : j < N
      · have hji : (j : Int) < N := by omega
        have hj1 : j < ks.length := by have := HA1.out.1; omega
        obtain ⟨kb, ko, e1, l1, f1⟩ := HA4.out (by rintro rfl; simp at hj1)
        subst e1
        have g1 := f1 j hj1
        have hfs := foldW_succ (wavesM l) (max s1 s2) hj1
        have htm := HE.out.2 ks[j] (List.getElem_mem hj1)
        obtain ⟨t, ht⟩ : ∃ t, t = ks[j] := ⟨_, rfl⟩
        rw [← ht] at g1 hfs htm
        obtain ⟨f, hf⟩ : ∃ f, f = foldW (wavesM l) (max s1 s2) (ks.take j) := ⟨_, rfl⟩
        rw [← hf] at hfs ⊢
        have HTC := Lib.hid (HT4.out t htm)
        obtain ⟨k, hk⟩ : ∃ k, k = keyT (wavesM l) t := ⟨_, rfl⟩
        rw [← hk] at HTC hfs
        have HFS := Lib.hid hfs
        have hmx : ∀ (ts : Array TypeId) (ty : TypeId) (w : World), (Builtin.max_ ts ty #[.int .i64 (f : Int), .int .i64 (k : Int)]).run Try.prog w = .ok (.int .i64 ((max f k : Nat) : Int)) w := fun ts ty w => run_maxN ts ty w f k
        clear f1 l1 ht htm hf hk hfs
        go_wp2_with fail
        refine HTC.out.mono ?_
        rintro e V ⟨rfl, rfl⟩
        go_wp2
        exact ⟨⟨trivial, j + 1, by omega, by congr 1, by rw [HFS.out]⟩, by simp only [intOf]; omega⟩
      · have hji : ¬ (j : Int) < N := by omega
        obtain rfl : N = j := by omega
        rw [List.take_of_length_le (by have := HA1.out.1; omega)]
        have hxx : foldW (wavesM l) (max s1 s2) ks = nextW (wavesM l) m := by
          rw [nextW_many _ HBB.out.symm, HM.out.1, HM.out.2.2, HS.out.1.1, HS.out.1.2]
          rfl
        obtain ⟨x, hx⟩ : ∃ x, x = foldW (wavesM l) (max s1 s2) ks := ⟨_, rfl⟩
        rw [← hx] at hxx ⊢
        have hxl : x ≤ 1000 := by rw [hxx]; exact Nat.le_trans (nextW_max l m) HL.out
        have HX := Lib.hid (And.intro hxx hxl)
        clear hx hxx hxl hlt
        go_upto_region 10 with (fail)
        obtain ⟨nc2, hnc2, hTU2⟩ := HP4.out.cls
        obtain ⟨y0, _, _, _, _, _, _⟩ := HC4.out.at
        have hlt4 := HP4.out.lt
        have hq2 := HP4.out.at.2.2.1
        refine ktclient R p bc cl x (fun W W3 => TwU W3 bc (nc2 + 1) (fun j => if j = cl then x + 1 else clT (wavesM l) j) ∧ W.grownBy W3 (some bc)) _ wr _ rfl rfl rfl rfl hlt4.1 HC4.out.lt hq2 y0 (fun w' hg => ?_) ?_
        · obtain ⟨W3, h1, h2, h3⟩ := putTU (hTU2.keep (hg.block bc hlt4.2.2.2)) (by have := HL.out; simp only [maxLen]; omega) hcl (x := x) (by have := HX.out.2; omega)
          exact ⟨W3, h1, h2, h3⟩
        intro w5 w6 hg5 hP6
        have hps5 := HP4.out.below hg5
        have HPM : Hid (PmQ w6 R g bk bc l m x ks 0) := Lib.hid (PmQ.of hps5 HBB.out.symm HX.out.1 hnc2 (by rw [HM.out.1]; exact hP6.1) hP6.2)
        have ho6 : Only (fun x => x = bc) wr w6 := (Only.of_grew hg5).trans (Only.of_grown (F := fun x => x = bc) hP6.2 (fun k e => (Option.some.inj e).symm)) (fun x e => .inl e)
        have HA6 : Hid (HasS w6 A ks) := Lib.hid (fun hne => by
          obtain ⟨b, o, e, h1, h2⟩ := HA4.out hne
          refine ⟨b, o, e, Nat.lt_of_lt_of_le h1 ho6.size, fun i hi => ?_⟩
          have := h2 i hi
          exact ho6.cellW this h1 (hTU2.ne_cell this))
        have HO6 : Hid (Only (fun x => x = R ∨ x = bk ∨ x = bc) w w6) := Lib.hid ((Only.of_grew HB4.out).trans ho6 (fun x e => .inl (.inr (.inr e))))
        clear hg5 hP6 hps5 ho6 hTU2 hnc2 y0 hlt4 hq2 q1
        simp only [puts, List.foldl_cons, List.foldl_nil, Act.put, List.setIfInBounds_toArray, List.set_cons_succ, List.set_cons_zero]
        have hxi : (x : Int) ≤ 1000 := by have := HX.out.2; omega
        go_wp2
        go_loopw [57] (fun i wr => ∃ j : Nat, j ≤ N ∧ i = .int .i64 (j : Int) ∧ Hid (PmQ wr R g bk bc l m x ks j ∧ Only (fun x => x = bk) w6 wr)) (fun i _ => N - (intOf i).toNat)
        case atStart => exact ⟨0, Nat.zero_le _, rfl, Lib.hid ⟨HPM.out, Only.refl _ _⟩⟩
        case round =>
          obtain ⟨j, hj, rfl, HR⟩ := hrel
          obtain ⟨q1, q4, z4⟩ := HR.out.1.at
          by_cases hlt : j < N
          · have hji : (j : Int) < N := by omega
            have hj1 : j < ks.length := by have := HA1.out.1; omega
            obtain ⟨nk2, hnk2, hTS2⟩ := HR.out.1.keys
            obtain ⟨n0, _, hTS0⟩ := HPM.out.keys
            obtain ⟨kb, ko, e1, l1, f1⟩ := HA6.out (by rintro rfl; simp at hj1)
            subst e1
            have g0 := f1 j hj1
            have g1 := HR.out.2.cellW g0 l1 (hTS0.ne_cell g0)
            have htm := HE.out.2 ks[j] (List.getElem_mem hj1)
            obtain ⟨W7, hrun, h7, hg7⟩ := putTS hTS2 (by have := HL.out; have := HE.out.1; simp only [maxLen]; omega) htm (x := x) (by omega)
            have H7 : Hid (PmQ W7 R g bk bc l m x ks (j + 1) ∧ Only (fun x => x = bk) w6 W7) := Lib.hid ⟨HR.out.1.next hj1 hnk2 h7 hg7, HR.out.2.grown hg7 (fun k e => .inl (Option.some.inj e).symm)⟩
            obtain ⟨t, ht⟩ : ∃ t, t = ks[j] := ⟨_, rfl⟩
            rw [← ht] at g1 hrun
            clear f1 l1 g0 htm h7 hg7 hTS2 hnk2 hTS0 ht q4 z4
            go_wp2
            exact ⟨⟨j + 1, by omega, by congr 1, H7⟩, by simp only [intOf]; omega⟩
          · have hji : ¬ (j : Int) < N := by omega
            obtain rfl : N = j := by omega
            have hfin := HR.out.1
            rw [show N = ks.length from HA1.out.1] at hfin
            have hd := hfin.done HBB.out.symm HX.out.1 HM.out.2.2 HE.out.1
            obtain ⟨C, hC⟩ : ∃ C, C = countW (wavesM l) := ⟨_, rfl⟩
            have hCl : C ≤ 1000 := by rw [hC]; exact Nat.le_trans (countW_le l) HL.out
            rw [← hC] at hd q4
            have hmx : ∀ (ts : Array TypeId) (ty : TypeId) (w : World), (Builtin.max_ ts ty #[.int .i64 (C : Int), .int .i64 ((x : Int) + 1)]).run Try.prog w = .ok (.int .i64 ((max C (x + 1) : Nat) : Int)) w := fun ts ty w => run_maxN ts ty w C (x + 1)
            have HD : Hid (PsQ (wr.setCell ⟨R, 4, none⟩ (.int .i64 ((max C (x + 1) : Nat) : Int))) R g bk bc (l ++ [m]) ∧ Only (fun x => x = R ∨ x = bk ∨ x = bc) w (wr.setCell ⟨R, 4, none⟩ (.int .i64 ((max C (x + 1) : Nat) : Int)))) := Lib.hid ⟨hd, Only.setCell (p := ⟨R, 4, none⟩) (HO6.out.trans HR.out.2 (fun x e => .inl (.inr (.inl e)))) (.inl (.inl rfl)) _⟩
            obtain ⟨M, hM⟩ : ∃ M, M = max C (x + 1) := ⟨_, rfl⟩
            rw [← hM] at hmx HD
            clear hfin hd hC hCl hM hlt
            go_wp2
            go_ret
            exact ⟨by rw [HX.out.1]; rfl, HD.out⟩
end Go.Proofs.Ytooaobadnainkaa
