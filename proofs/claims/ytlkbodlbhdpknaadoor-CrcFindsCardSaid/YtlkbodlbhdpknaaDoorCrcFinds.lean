/- The walk of the law CrcFinds. -/
import Derived.Test.YtlkbodlbhdpknaaDoorCrcR23
import Derived.BigRegion
import Derived.RegionTactic
namespace Go.Proofs.YtlkbodlbhdpknaaDoor
open Go.RowKit

theorem and1_div (mask i : Nat) (h : mask < 4294967296) : bits .and .u32 ((mask / 2 ^ i : Nat) : Int) 1 = ((mask / 2 ^ i % 2 : Nat) : Int) :=
  and1_u32 _ (Nat.lt_of_le_of_lt (Nat.div_le_self _ _) h)

theorem xor_high (m k : Nat) (h : m < 2 ^ k) : m ^^^ 2 ^ k = m + 2 ^ k := by
  have h1 := xor_split k (m + 2 ^ k)
  rw [Nat.add_mod_right, Nat.mod_eq_of_lt h, Nat.add_div_right _ (Nat.two_pow_pos k), Nat.div_eq_of_lt h, Nat.zero_add, Nat.one_mul] at h1
  exact h1.symm
theorem xor_mul (x y b : Nat) : x * 2 ^ b ^^^ y * 2 ^ b = (x ^^^ y) * 2 ^ b := by
  have := Nat.shiftLeft_xor_distrib (a := x) (b := y) (i := b)
  simpa [Nat.shiftLeft_eq] using this.symm
/-- One bit more of the mask. -/
theorem next_bit (a : List UInt8) (n bit k mask : Nat) (hn : n = a.length) (h : bit + k < 8 * n) (hodd : mask / 2 ^ k % 2 = 1) (X : List UInt8) (hX : X = xorB a (leB n (mask % 2 ^ k * 2 ^ bit))) :
    X.set ((bit + k) / 8) (X.getD ((bit + k) / 8) 0 ^^^ UInt8.ofNat (2 ^ ((bit + k) % 8))) = xorB a (leB n (mask % 2 ^ (k + 1) * 2 ^ bit)) := by
  have hXl : X.length = n := by rw [hX, xorB_length (by rw [leB_length]; exact hn.symm)]; exact hn.symm
  have h1 := xorB_bit X (bit + k) (by omega)
  rw [← h1, hXl, hX, xorB_assoc, ← leB_xor]
  congr 2
  have hlt : mask % 2 ^ k < 2 ^ k := Nat.mod_lt _ (Nat.two_pow_pos k)
  rw [Nat.mod_pow_succ, hodd, Nat.mul_one, ← xor_high _ _ hlt, ← xor_mul, ← Nat.pow_add, Nat.add_comm k bit]
theorem same_bit (mask k : Nat) (h : mask / 2 ^ k % 2 = 0) : mask % 2 ^ (k + 1) = mask % 2 ^ k := by
  rw [Nat.mod_pow_succ, h, Nat.mul_zero, Nat.add_zero]
theorem set_bit (mask k : Nat) (h : mask / 2 ^ k % 2 = 1) : (mask % 2 ^ (k + 1) != 0) = true := by
  have := Nat.two_pow_pos k
  rw [Nat.mod_pow_succ, h, Nat.mul_one, bne_iff_ne]
  omega
theorem xor8 (c : UInt8) (r : Nat) (hr : r < 8) : Value.int .u8 (bits .xor .u8 (c.toNat : Int) (2 ^ r % 256)) = enc (c ^^^ UInt8.ofNat (2 ^ r)) := by
  have h1 : (2 : Nat) ^ r < 256 := Nat.lt_of_le_of_lt (Nat.pow_le_pow_right (by omega) (show r ≤ 7 by omega)) (by decide)
  have e : ((2 : Int) ^ r % 256) = ((2 ^ r : Nat) : Int) := by
    have : ((2 : Int) ^ r) = ((2 ^ r : Nat) : Int) := by push_cast; rfl
    rw [this]; exact Int.emod_eq_of_lt (Int.natCast_nonneg _) (Int.ofNat_lt.2 h1)
  rw [e, u8_xor_nat _ _ (by have := c.toNat_lt; omega) h1]
  unfold enc
  rw [UInt8.toNat_xor]
  congr 3
  simp [Nat.mod_eq_of_lt h1]

/-- 'make([]byte, n)', in a plain walk. -/
theorem wpList_make_bytes {w : World} {ops : Array Oper} {rest : List Oper} {o : Oper} {a : Act} {Q : Exit → Act → World → Prop}
    (hg : o.guard = none) (l c : Operand) (t : TypeId) (hop : o.op = Op.makeSlice t l c) (base : Nat) (e : TypeId) (i : TypeInfo) (ht : Tryd.prog.underlying t = some (.slice e)) (hi : Tryd.prog.info? e = some i) (hz : i.zero = some (.int .u8 0)) (hsize : i.size = 1) (hby : i.bytes = 1)
    (L C : Nat) (x y : Int) (hl : a.eval l = .int .i64 y) (hc : a.eval c = .int .i64 x) (hyL : y = (L : Int)) (hxC : x = (C : Int)) (hLC : L ≤ C) (hC : C ≤ 140737488355328) (hb : base ≤ w.heap.size)
    (hK : ∀ w', w'.ownsRow base e 1 (.slice (some ⟨w.heap.size, 0, none⟩) L C) L ((List.replicate L (0 : UInt8)).map enc) → w.grownBy w' none → wpList Tryd.prog ops Q rest (a.put o.dst (.slice (some ⟨w.heap.size, 0, none⟩) L C)) w') :
    wpList Tryd.prog ops Q (o :: rest) a w := by
  subst hxC
  subst hyL
  have hr := run_make (P := Tryd.prog) w t e i _ ht hi hz .i64 .i64 (L : Int) (C : Int) (by omega) (by omega) (by rw [hby]; omega) (by omega)
  simp only [Int.toNat_natCast] at hr
  refine wpList_plain hg fun K hK' => ?_
  unfold Oper.wp
  simp [execOp, hop, hl, hc, hr, Result.andThen]
  refine hK' _ _ (hK _ ⟨by simp, .inr ⟨w.heap.size, C, _, rfl, hb, heap_alloc_new w _, hLC, by simp only [maxLen]; omega, ?_, ?_⟩⟩ (World.grownBy_alloc w _ none))
  · rw [size_madeCells, hsize]
  · rw [hsize, Nat.mul_one, Nat.mul_one]
    show List.take L (madeCells #[Value.int .u8 0] C).toList = _
    rw [toList_madeCells_one]
    simp [List.take_replicate, Nat.min_eq_left hLC]
    right; rfl

/-- The bytes over one another, as far as they have been made. -/
def cRow (a b : List UInt8) (N q : Nat) : List UInt8 := xorB (a.take q) (b.take q) ++ List.replicate (N - q) 0
theorem cRow_zero (a b : List UInt8) (N : Nat) : cRow a b N 0 = List.replicate N 0 := by simp [cRow, xorB]
theorem cRow_length (a b : List UInt8) (N q : Nat) (ha : q ≤ a.length) (hb : q ≤ b.length) (hq : q ≤ N) : (cRow a b N q).length = N := by
  simp [cRow, xorB]; omega
theorem cRow_succ (a b : List UInt8) (N q : Nat) (ha : q < a.length) (hb : q < b.length) (hq : q < N) : (cRow a b N q).set q (a[q] ^^^ b[q]) = cRow a b N (q + 1) := by
  have h1 : (xorB (a.take q) (b.take q)).length = q := by simp [xorB]; omega
  unfold cRow
  rw [List.set_append_right _ _ (by omega), h1, Nat.sub_self, show N - q = (N - (q + 1)) + 1 by omega, List.replicate_succ, List.set_cons_zero]
  rw [List.take_succ_eq_append_getElem ha, List.take_succ_eq_append_getElem hb]
  unfold xorB
  rw [List.zipWith_append (by simp; omega)]
  simp
theorem cRow_end (a b : List UInt8) (N : Nat) : cRow a b N N = xorB (a.take N) (b.take N) := by simp [cRow]
theorem xor8b (c d : UInt8) : Value.int .u8 (bits .xor .u8 (c.toNat : Int) (d.toNat : Int)) = enc (c ^^^ d) := by
  rw [u8_xor_nat _ _ (by have := c.toNat_lt; omega) (by have := d.toNat_lt; omega)]
  unfold enc
  rw [UInt8.toNat_xor]

/-- What the loop keeps. -/
def FK (w : World) (Ax : Option Addr) (n cx : Nat) (a : List UInt8) (bit m : Nat) (W : World) : Prop :=
  Below w.heap.size w W ∧ W.ownsRow w.heap.size 5 1 (.slice Ax n cx) n ((xorB a (leB n (m * 2 ^ bit))).map enc)

set_option maxRecDepth 100000 in
set_option maxHeartbeats 4000000 in
theorem Finds_any (A1 : Option Addr) (L1 c1 : Nat) (a : List UInt8) (hL1 : L1 = a.length) (hLm1 : L1 ≤ maxLen) (A2 : Option Addr) (L2 c2 : Nat) (b : List UInt8) (hL2 : L2 = b.length) (hLm2 : L2 ≤ maxLen) (at_ mask : Nat) (hat : at_ < 65536) (hmask : mask < 4294967296) (hc1 : L1 ≤ c1) (hc2 : L2 ≤ c2) (w : World) (hT : Tab w) (hA1 : HasA w w.heap.size A1 a) (hA2 : HasA w w.heap.size A2 b) :
    Calls Tryd.prog 4 #[.slice A1 L1 c1, .slice A2 L2 c2, .int .u16 (at_ : Int), .int .u32 (mask : Int)] w fun e W' => e = .returned (.bool true) ∧ Below w.heap.size w W' := by
  obtain ⟨i0, hi, hz0, hz1, hz2⟩ := info_parts info5
  unfold maxLen at hLm1 hLm2
  have HT := Lib.hid hT
  clear hT
  have HL1 := Lib.hid hL1
  have HL2 := Lib.hid hL2
  clear hL1 hL2
  by_cases hlong : 5000 < L1
  · have hl : (5000 : Int) < L1 := by omega
    go_enter Tryd.func4, Tryd.ntmps4
    go_wp2_with (go_at_call 5; refine (wakes_any _ HT.out).mono ?_; rintro e W' ⟨rfl, hb⟩)
    go_ret
    exact ⟨rfl, hb⟩
  · have hl : ¬ (5000 : Int) < L1 := by omega
    by_cases hlong2 : 5000 < L2
    · have hl2 : (5000 : Int) < L2 := by omega
      go_enter Tryd.func4, Tryd.ntmps4
      go_wp2_with (go_at_call 5; refine (wakes_any _ HT.out).mono ?_; rintro e W' ⟨rfl, hb⟩)
      go_ret
      exact ⟨rfl, hb⟩
    · have hl2 : ¬ (5000 : Int) < L2 := by omega
      have HA1 := Lib.hid hA1
      have HA2 := Lib.hid hA2
      clear hA1 hA2
      obtain ⟨bit, hbit⟩ : ∃ bit : Nat, bit = if 0 < L1 then at_ % (8 * L1) else 0 := ⟨_, rfl⟩
      have hb8 : bit ≤ 8 * L1 := by
        rw [hbit]; split
        · exact Nat.le_of_lt (Nat.mod_lt _ (by omega))
        · omega
      have HBT := Lib.hid hbit
      clear hbit
      by_cases hpos : 0 < L1
      · have hposi : (0 : Int) < L1 := by omega
        have hm8 : (0 : Int) < 8 * (L1 : Int) := by omega
        go_enter Tryd.func4, Tryd.ntmps4
        go_wp2_with (first
          | (at_builtin; refine wpList_append_has rfl (.const (.slice none 0 0)) (.tmp 26) 22 rfl w.heap.size 5 i0 Tryd.underlying22 hi hz0 hz1 hz2 (.slice none 0 0) 0 [] rfl (World.ownsRow_nil _ _ _ _) w.heap.size _ L1 c1 a rfl HL1.out HA1.out (by omega) (Nat.le_refl _) ?_; intro v1 W1 hown1 hg1
             have hO1 : W1.ownsRow w.heap.size 5 1 v1 L1 (a.map enc) := by simpa using hown1
             have hB1 : Below w.heap.size w W1 := (Below.refl w.heap.size w).grown hg1 (Nat.le_refl _) (fun k e => by cases e)
             obtain ⟨gx, cx, rfl, _⟩ := hO1.form hpos
             have HO1 := Lib.hid hO1
             have B1 := Lib.hid hB1
             clear hown1 hg1 hO1 hB1)
          | fail)
        have hbe : ((at_ : Int) % (8 * (L1 : Int))) = ((bit : Nat) : Int) := by rw [HBT.out, if_pos hpos]; push_cast; rfl
        rw [hbe]
        have hbi : (bit : Int) ≤ 8 * (L1 : Int) := by omega
        have hl1i : (L1 : Int) ≤ 5000 := by omega
        clear hbe
        go_loopw [11, 12] (fun ch i wr => ∃ (k : Nat), k ≤ 32 ∧ bit + k ≤ 8 * L1 ∧ i = .int .i64 (k : Int) ∧ ch = .bool (mask % 2 ^ k != 0) ∧ Hid (FK w (some ⟨gx, 0, none⟩) L1 cx a bit (mask % 2 ^ k) wr)) (fun _ i _ => 32 - (intOf i).toNat)
        case atStart =>
          refine ⟨0, by omega, by omega, rfl, by simp [Nat.mod_one], B1.out, ?_⟩
          have : xorB a (leB L1 0) = a := by rw [leB_zero, HL1.out]; exact xorB_zeros a
          simp only [Nat.pow_zero, Nat.mod_one, Nat.zero_mul]
          rw [this]; exact HO1.out
        case round =>
          obtain ⟨k, hk, hbk, rfl, rfl, hfk⟩ := hrel
          have hki : (k : Int) ≤ 32 := by omega
          have hbki : (bit : Int) + (k : Int) ≤ 8 * (L1 : Int) := by omega
          by_cases hgo : k < 32 ∧ bit + k < 8 * L1
          · obtain ⟨hg1, hg2⟩ := hgo
            have hg1i : (k : Int) < 32 := by omega
            have hg2i : (bit : Int) + (k : Int) < 8 * (L1 : Int) := by omega
            have ha := and1_div mask k hmask
            obtain ⟨chb, hchb⟩ : ∃ chb, chb = (mask % 2 ^ k != 0) := ⟨_, rfl⟩
            have HCH := Lib.hid hchb
            rw [← hchb]
            clear hchb
            obtain ⟨hB, hO⟩ := hfk.out
            obtain ⟨j, hj⟩ : ∃ j, j = (bit + k) / 8 := ⟨_, rfl⟩
            obtain ⟨r, hr⟩ : ∃ r, r = (bit + k) % 8 := ⟨_, rfl⟩
            have hjl : j < L1 := by omega
            have hr8 : r < 8 := by omega
            have hXl : (xorB a (leB L1 (mask % 2 ^ k * 2 ^ bit))).length = L1 := by rw [xorB_length (by rw [leB_length]; exact HL1.out.symm)]; exact HL1.out.symm
            obtain ⟨X, hX⟩ : ∃ X, X = xorB a (leB L1 (mask % 2 ^ k * 2 ^ bit)) := ⟨_, rfl⟩
            rw [← hX] at hO hXl
            have hjX : j < X.length := by omega
            obtain ⟨y, hy⟩ : ∃ y, y = X[j].toNat := ⟨_, rfl⟩
            have hyl : y < 256 := by rw [hy]; exact X[j].toNat_lt
            have hcell : wr.cell? ⟨gx, j, none⟩ = some (.int .u8 (y : Int)) := by
              rw [hO.cellAt j (by omega), hy]; simp [hjX, enc]
            have hfro : wr.frozen? ⟨gx, j, none⟩ = false := hO.frozenAt j
            have HX := Lib.hid hX
            have HY := Lib.hid hy
            have HO := Lib.hid hO
            have HB := Lib.hid hB
            have HJ := Lib.hid hj
            have HR := Lib.hid hr
            have hcell' : wr.cell? ⟨gx, (bit + k) / 8, none⟩ = some (.int .u8 (y : Int)) := by rw [← HJ.out]; exact hcell
            have hfro' : wr.frozen? ⟨gx, (bit + k) / 8, none⟩ = false := by rw [← HJ.out]; exact hfro
            clear hcell hfro
            clear hX hy hO hB hj hr hXl
            by_cases hodd : mask / 2 ^ k % 2 = 1
            · rw [hodd] at ha
              have hb : bits .and .u32 ((mask : Int) / 2 ^ k) 1 = 1 := by
                have : ((mask / 2 ^ k : Nat) : Int) = (mask : Int) / 2 ^ k := by push_cast; rfl
                rw [← this]; exact ha
              clear ha
              go_wp2
              go_region
              go_wp2
              refine ⟨⟨k + 1, by omega, by omega, by congr 1, by rw [set_bit mask k hodd], HB.out.setCell (p := ⟨gx, _, none⟩) (HO.out.lt gx rfl).1 _ |>.drew, ?_⟩, by simp only [intOf]; omega⟩
              have h1 := HO.out.stored ((bit + k) / 8) (Value.int .u8 (bits .xor .u8 (y : Int) (2 ^ ((bit + k) % 8) % 256)))
              rw [HY.out, xor8 _ _ (by omega)] at h1
              have h2 := next_bit a L1 bit k mask HL1.out hg2 hodd X HX.out
              rw [← h2]
              rw [HY.out, xor8 _ _ (by omega)]
              have h3 : X.getD ((bit + k) / 8) 0 = X[j] := by rw [← HJ.out]; simp [List.getD, hjX]
              rw [h3, List.map_set]
              exact h1.1
            · have h0 : mask / 2 ^ k % 2 = 0 := by omega
              rw [h0] at ha
              have hb : bits .and .u32 ((mask : Int) / 2 ^ k) 1 = 0 := by
                have : ((mask / 2 ^ k : Nat) : Int) = (mask : Int) / 2 ^ k := by push_cast; rfl
                rw [← this]; exact ha
              clear ha
              go_wp2
              refine ⟨⟨k + 1, by omega, by omega, by congr 1, ?_, ?_⟩, by simp only [intOf]; omega⟩
              · rw [same_bit mask k h0, ← HCH.out]
              · rw [same_bit mask k h0]; exact hfk.out
          · obtain ⟨chb, hchb⟩ : ∃ chb, chb = (mask % 2 ^ k != 0) := ⟨_, rfl⟩
            have HCH := Lib.hid hchb
            rw [← hchb]
            clear hchb
            have hmm : mask % 2 ^ k < 4294967296 := Nat.lt_of_le_of_lt (Nat.mod_le _ _) hmask
            have hmb : mask % 2 ^ k * 2 ^ bit < 256 ^ L1 := by
              have h1 : mask % 2 ^ k < 2 ^ k := Nat.mod_lt _ (Nat.two_pow_pos k)
              have h2 : mask % 2 ^ k * 2 ^ bit < 2 ^ k * 2 ^ bit := Nat.mul_lt_mul_of_pos_right h1 (Nat.two_pow_pos bit)
              rw [← Nat.pow_add] at h2
              have h3 : (2 : Nat) ^ (k + bit) ≤ 2 ^ (8 * L1) := Nat.pow_le_pow_right (by omega) (by omega)
              rw [Nat.pow_mul] at h3
              exact Nat.lt_of_lt_of_le h2 h3
            have HF := Lib.hid (HL1.out ▸ crc_fault a bit (mask % 2 ^ k) (by rw [← HL1.out]; exact hb8) hmm (by rw [← HL1.out]; exact hmb))
            clear hmb hmm
            have hk32i : (k : Int) < 32 ∨ ¬ (k : Int) < 32 := Decidable.em _
            have hge : (k : Int) < 32 → ¬ ((bit : Int) + (k : Int) < 8 * (L1 : Int)) := by omega
            rcases hk32i with hk32i | hk32i
            all_goals
              (try have hge' := hge hk32i)
              clear hge
              obtain ⟨X, hX⟩ : ∃ X, X = xorB a (leB L1 (mask % 2 ^ k * 2 ^ bit)) := ⟨_, rfl⟩
              obtain ⟨hBw, hOw⟩ := hfk.out
              rw [← hX] at hOw
              have HX1 := Lib.hid (HasA.of_own hOw)
              have HXL := Lib.hid (own_len hOw)
              have HBW := Lib.hid hBw
              have hqq : (((crcSum X : Nat) : Int) != ((crcSum a : Nat) : Int)) = chb := by
                have hf := HF.out
                rw [HCH.out, hX]
                by_cases hm0 : mask % 2 ^ k = 0
                · have := hf.2 hm0
                  rw [this, hm0]; simp
                · have h1 : crcSum (xorB a (leB L1 (mask % 2 ^ k * 2 ^ bit))) ≠ crcSum a := fun e => hm0 (hf.1 e)
                  have h2 : ((crcSum (xorB a (leB L1 (mask % 2 ^ k * 2 ^ bit))) : Nat) : Int) ≠ ((crcSum a : Nat) : Int) := fun e => h1 (by exact_mod_cast e)
                  rw [bne_iff_ne.2 h2, bne_iff_ne.2 hm0]
              have HQ := Lib.hid hqq
              clear hqq hX hBw hOw hfk
              go_wp2_with fail
              refine (Sum_any _ L1 cx X HXL.out (by omega) wr (HT.out.grew HBW.out) HX1.out).mono ?_
              rintro e W3 ⟨rfl, hg3⟩
              have B3 := Lib.hid (HBW.out.trans (Below.mono hg3 HBW.out.size))
              clear hg3 HX1 HBW
              go_wp2_with fail
              refine (Sum_any A1 L1 c1 a HL1.out (by omega) W3 (HT.out.grew B3.out) (HA1.out.below' B3.out)).mono ?_
              rintro e W4 ⟨rfl, hg4⟩
              have B4 := Lib.hid (B3.out.trans (Below.mono hg4 B3.out.size))
              clear hg4 B3
              have hqq := HQ.out
              obtain ⟨N, hN⟩ : ∃ N : Nat, min (L1 : Int) (L2 : Int) = (N : Int) := ⟨min L1 L2, by omega⟩
              have hN1 : N ≤ L1 := by omega
              have hN2 : N ≤ L2 := by omega
              go_wp2_with (first
                | (at_make; refine wpList_make_bytes rfl (.tmp 86) (.tmp 86) 22 rfl w.heap.size 5 i0 Tryd.underlying22 hi hz0 hz1 hz2 N N _ _ rfl rfl rfl rfl (Nat.le_refl _) (by omega) B4.out.size ?_; intro W5 hown5 hg5; have HO5 := Lib.hid hown5; have HG5 := Lib.hid hg5; have B5 := Lib.hid (B4.out.grown hg5 B4.out.size (fun k e => by cases e)); clear hown5 hg5)
                | (at_make; refine wpList_make_bytes rfl (.tmp 88) (.tmp 88) 22 rfl w.heap.size 5 i0 Tryd.underlying22 hi hz0 hz1 hz2 N N _ _ rfl rfl rfl rfl (Nat.le_refl _) (by omega) B5.out.size ?_; intro W6 hown6 hg6; have HO6 := Lib.hid hown6; have B6 := Lib.hid (B5.out.grown hg6 B5.out.size (fun k e => by cases e)); have HO56 := Lib.hid (HO5.out.kept (row := none) hg6 (.inr (by simp [Value.ownBlock]))); clear hown6 hg6)
                | fail)
              clear hN hqq
              have hNi1 : (N : Int) ≤ L1 := by omega
              have hNi2 : (N : Int) ≤ L2 := by omega
              have hg45 : W4.heap.size < W5.heap.size := (HO5.out.lt _ rfl).2
              go_loopw [16] (fun i wr => ∃ q : Nat, q ≤ N ∧ i = .int .i64 (q : Int) ∧ Hid (wr.ownsRow w.heap.size 5 1 (.slice (some ⟨W4.heap.size, 0, none⟩) N N) N ((cRow a b N q).map enc)) ∧ Hid (wr.ownsRow w.heap.size 5 1 (.slice (some ⟨W5.heap.size, 0, none⟩) N N) N ((List.replicate N (0 : UInt8)).map enc)) ∧ Hid (Below w.heap.size w wr)) (fun i _ => N - (intOf i).toNat)
              case atStart => exact ⟨0, Nat.zero_le _, rfl, by rw [cRow_zero]; exact HO56.out, HO6.out, B6.out⟩
              case round =>
                obtain ⟨q, hq, rfl, hC, hZ, hBw⟩ := hrel
                by_cases hlt : q < N
                · have hqi : (q : Int) < N := by omega
                  have hqa : q < a.length := by have := HL1.out; omega
                  have hqb : q < b.length := by have := HL2.out; omega
                  obtain ⟨b1, o1, rfl, hb1, hcell1⟩ := HA1.out (by rintro rfl; simp at hqa)
                  obtain ⟨b2, o2, rfl, hb2, hcell2⟩ := HA2.out (by rintro rfl; simp at hqb)
                  have hx1 : wr.cell? ⟨b1, o1 + q, none⟩ = some (.int .u8 (a[q].toNat : Int)) := (hBw.out.cell (p := ⟨b1, o1 + q, none⟩) hb1).trans (hcell1 q hqa)
                  have hx2 : wr.cell? ⟨b2, o2 + q, none⟩ = some (.int .u8 (b[q].toNat : Int)) := (hBw.out.cell (p := ⟨b2, o2 + q, none⟩) hb2).trans (hcell2 q hqb)
                  have hlen := cRow_length a b N q (by omega) (by omega) (by omega)
                  obtain ⟨y3, hx3⟩ : ∃ y3 : Int, wr.cell? ⟨W4.heap.size, q, none⟩ = some (.int .u8 y3) := by
                    have hql : q < (cRow a b N q).length := by omega
                    refine ⟨((cRow a b N q)[q].toNat : Int), ?_⟩
                    rw [hC.out.cellAt q (by omega)]; simp [hql, enc]
                  have hf3 : wr.frozen? ⟨W4.heap.size, q, none⟩ = false := hC.out.frozenAt q
                  have hl1q : (q : Int) < L1 := by omega
                  have hl2q : (q : Int) < L2 := by omega
                  clear hcell1 hcell2 hlen
                  go_wp2
                  go_region
                  go_wp2
                  refine ⟨⟨q + 1, by omega, by congr 1, ?_, ?_, ?_⟩, by simp only [intOf]; omega⟩
                  · have h1 := (hC.out.stored q (Value.int .u8 (bits .xor .u8 (a[q].toNat : Int) (b[q].toNat : Int)))).1
                    rw [← cRow_succ a b N q hqa hqb hlt, List.map_set, ← xor8b]
                    exact h1
                  · have h2 := hZ.out.kept (grownBy_set wr W4.heap.size q (Value.int .u8 (bits .xor .u8 (a[q].toNat : Int) (b[q].toNat : Int)))) (.inr (by simp [Value.ownBlock]; omega))
                    exact h2
                  · exact (hBw.out.setCell (p := ⟨W4.heap.size, q, none⟩) B4.out.size _).drew
                · have hqi : ¬ (q : Int) < N := by omega
                  obtain rfl : q = N := by omega
                  have hla : q = (a.take q).length := by rw [List.length_take, ← HL1.out]; omega
                  have hlb : q = (b.take q).length := by rw [List.length_take, ← HL2.out]; omega
                  have HLA := Lib.hid hla
                  have HLB := Lib.hid hlb
                  clear hla hlb
                  go_wp2
                  refine finds_region A1 L1 c1 a A2 L2 c2 b q W4.heap.size W5.heap.size (cRow a b q q) (by omega) (by omega) (by omega) HLA.out HLB.out (own_len hC.out) ?_ _ wr _ rfl rfl rfl rfl rfl rfl (HT.out.grew hBw.out) ((HA1.out.below' hBw.out).take q) ((HA2.out.below' hBw.out).take q) (HasA.of_own hZ.out) (HasA.of_own hC.out) ?_
                  · rw [cRow_end]
                    have h3 := crcSum_three (a.take q) (b.take q) (by rw [← HLA.out, ← HLB.out])
                    rw [← HLA.out] at h3
                    exact h3
                  · intro a' w' hd h8 hg
                    go_wp2
                    refine bodyPost_ret (results_tmp rfl _ _ _) hd ⟨by rw [h8], hBw.out.trans (Below.mono hg hBw.out.size)⟩
      · obtain rfl : L1 = 0 := by omega
        have ha0 : a = [] := List.eq_nil_of_length_eq_zero (by have := HL1.out; omega)
        go_enter Tryd.func4, Tryd.ntmps4
        go_wp2_with (first
          | (at_builtin; refine wpList_append_has rfl (.const (.slice none 0 0)) (.tmp 26) 22 rfl w.heap.size 5 i0 Tryd.underlying22 hi hz0 hz1 hz2 (.slice none 0 0) 0 [] rfl (World.ownsRow_nil _ _ _ _) w.heap.size _ 0 c1 a rfl HL1.out HA1.out (by omega) (Nat.le_refl _) ?_; intro v1 W1 hown1 hg1
             have hO1 : W1.ownsRow w.heap.size 5 1 v1 0 (a.map enc) := by simpa using hown1
             have hB1 : Below w.heap.size w W1 := (Below.refl w.heap.size w).grown hg1 (Nat.le_refl _) (fun k e => by cases e)
             have hform : ∃ Ax cx, v1 = .slice Ax 0 cx := by
               rcases hO1.2 with ⟨rfl, h0⟩ | ⟨g, cap, cur, rfl, _⟩
               · exact ⟨none, 0, by rw [h0]⟩
               · exact ⟨_, _, rfl⟩
             obtain ⟨Ax, cx, rfl⟩ := hform
             have HX1 := Lib.hid (HasA.of_own hO1)
             have HXL := Lib.hid (own_len hO1)
             have HBW := Lib.hid hB1
             clear hown1 hg1 hO1 hB1)
          | fail)
        have HA0 := Lib.hid ha0
        clear ha0
        go_loopw [11, 12] (fun ch i wr => i = .int .i64 0 ∧ ch = .bool false ∧ wr = W1) (fun _ _ _ => 0)
        case atStart => exact ⟨rfl, rfl, rfl⟩
        case round =>
          obtain ⟨rfl, rfl, rfl⟩ := hrel
          obtain ⟨X, hX⟩ : ∃ X, X = a := ⟨_, rfl⟩
          rw [← hX] at HX1 HXL
          have hqq : (((crcSum X : Nat) : Int) != ((crcSum a : Nat) : Int)) = false := by rw [hX]; simp
          have HQ := Lib.hid hqq
          clear hqq hX
          go_wp2_with fail
          refine (Sum_any _ 0 cx X HXL.out (by omega) wr (HT.out.grew HBW.out) HX1.out).mono ?_
          rintro e W3 ⟨rfl, hg3⟩
          have B3 := Lib.hid (HBW.out.trans (Below.mono hg3 HBW.out.size))
          clear hg3 HX1 HBW
          go_wp2_with fail
          refine (Sum_any A1 0 c1 a HL1.out (by omega) W3 (HT.out.grew B3.out) (HA1.out.below' B3.out)).mono ?_
          rintro e W4 ⟨rfl, hg4⟩
          have B4 := Lib.hid (B3.out.trans (Below.mono hg4 B3.out.size))
          clear hg4 B3
          have hqq := HQ.out
          obtain ⟨N, hN⟩ : ∃ N : Nat, min (0 : Int) (L2 : Int) = (N : Int) := ⟨min 0 L2, by omega⟩
          have hN1 : N ≤ 0 := by omega
          have hN2 : N ≤ L2 := by omega
          go_wp2_with (first
            | (at_make; refine wpList_make_bytes rfl (.tmp 86) (.tmp 86) 22 rfl w.heap.size 5 i0 Tryd.underlying22 hi hz0 hz1 hz2 N N _ _ rfl rfl rfl rfl (Nat.le_refl _) (by omega) B4.out.size ?_; intro W5 hown5 hg5; have HO5 := Lib.hid hown5; have HG5 := Lib.hid hg5; have B5 := Lib.hid (B4.out.grown hg5 B4.out.size (fun k e => by cases e)); clear hown5 hg5)
            | (at_make; refine wpList_make_bytes rfl (.tmp 88) (.tmp 88) 22 rfl w.heap.size 5 i0 Tryd.underlying22 hi hz0 hz1 hz2 N N _ _ rfl rfl rfl rfl (Nat.le_refl _) (by omega) B5.out.size ?_; intro W6 hown6 hg6; have HO6 := Lib.hid hown6; have B6 := Lib.hid (B5.out.grown hg6 B5.out.size (fun k e => by cases e)); have HO56 := Lib.hid (HO5.out.kept (row := none) hg6 (.inr (by simp [Value.ownBlock]))); clear hown6 hg6)
            | fail)
          clear hN hqq
          have hNi1 : (N : Int) ≤ 0 := by omega
          have hNi2 : (N : Int) ≤ L2 := by omega
          have hg45 : W4.heap.size < W5.heap.size := (HO5.out.lt _ rfl).2
          go_loopw [16] (fun i wr => ∃ q : Nat, q ≤ N ∧ i = .int .i64 (q : Int) ∧ Hid (wr.ownsRow w.heap.size 5 1 (.slice (some ⟨W4.heap.size, 0, none⟩) N N) N ((cRow a b N q).map enc)) ∧ Hid (wr.ownsRow w.heap.size 5 1 (.slice (some ⟨W5.heap.size, 0, none⟩) N N) N ((List.replicate N (0 : UInt8)).map enc)) ∧ Hid (Below w.heap.size w wr)) (fun i _ => N - (intOf i).toNat)
          case atStart => exact ⟨0, Nat.zero_le _, rfl, by rw [cRow_zero]; exact HO56.out, HO6.out, B6.out⟩
          case round =>
            obtain ⟨q, hq, rfl, hC, hZ, hBw⟩ := hrel
            by_cases hlt : q < N
            · exact absurd hlt (by omega)
            · have hqi : ¬ (q : Int) < N := by omega
              obtain rfl : q = N := by omega
              have hla : q = (a.take q).length := by rw [List.length_take, ← HL1.out]; omega
              have hlb : q = (b.take q).length := by rw [List.length_take, ← HL2.out]; omega
              have HLA := Lib.hid hla
              have HLB := Lib.hid hlb
              clear hla hlb
              go_wp2
              refine finds_region A1 0 c1 a A2 L2 c2 b q W4.heap.size W5.heap.size (cRow a b q q) (by omega) (by omega) (by omega) HLA.out HLB.out (own_len hC.out) ?_ _ wr _ rfl rfl rfl rfl rfl rfl (HT.out.grew hBw.out) ((HA1.out.below' hBw.out).take q) ((HA2.out.below' hBw.out).take q) (HasA.of_own hZ.out) (HasA.of_own hC.out) ?_
              · rw [cRow_end]
                have h3 := crcSum_three (a.take q) (b.take q) (by rw [← HLA.out, ← HLB.out])
                rw [← HLA.out] at h3
                exact h3
              · intro a' w' hd h8 hg
                go_wp2
                refine bodyPost_ret (results_tmp rfl _ _ _) hd ⟨by rw [h8], hBw.out.trans (Below.mono hg hBw.out.size)⟩
end Go.Proofs.YtlkbodlbhdpknaaDoor
