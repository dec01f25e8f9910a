/- The walk of the law that what one holds no other one changes, over a pool of the program. -/
import Derived.Test.YtmpaefndkobgnaaPoolWakes
import Derived.Test.YtmpaefndkobgnaaPaR16
import Derived.LoopTactic
import Derived.Deep.AppendLies
namespace Go.Proofs.Ytmpaefndkobgnaa
open Go.RowKit

/-- 'make([]byte, n)', in a plain walk. -/
theorem wpList_make_c {w : World} {ops : Array Oper} {rest : List Oper} {o : Oper} {a : Act} {Q : Exit → Act → World → Prop}
    (hg : o.guard = none) (l c : Operand) (hop : o.op = Op.makeSlice 32 l c) (L : Nat) (hl : a.eval l = .int .i64 (L : Int)) (hc : a.eval c = .int .i64 (L : Int)) (hL : L ≤ 1000000)
    (hK : wpList Try.prog ops Q rest (a.put o.dst (.slice (some ⟨w.heap.size, 0, none⟩) L L)) (w.alloc (.cells (Array.replicate L (.int .u8 0)) 5))) :
    wpList Try.prog ops Q (o :: rest) a w := by
  obtain ⟨i, hi, hz, hsize, hby⟩ := info_parts info5
  have hr := run_make (P := Try.prog) w 32 5 i _ Try.underlying32 hi hz .i64 .i64 (L : Int) (L : Int) (by omega) (by omega) (by rw [hby]; omega) (by omega)
  simp only [Int.toNat_natCast] at hr
  refine wpList_plain hg fun K hK' => ?_
  unfold Oper.wp
  simp [execOp, hop, hl, hc, hr, Result.andThen]
  refine hK' _ _ ?_
  have e : madeCells #[Value.int .u8 0] L = Array.replicate L (.int .u8 0) := by
    apply Array.ext'
    show (madeCells #[Value.int .u8 0] L).toList = _
    rw [toList_madeCells_one]
    simp
  rw [← e] at hK
  rw [hsize, Nat.mul_one]
  exact hK

theorem infoH : ∃ i, Try.prog.info? 29 = some i ∧ i.zero = some (.agg #[.int .i64 0, .int .u32 0]) ∧ i.size = 2 ∧ i.bytes = 16 := by
  have h : (Try.prog.info? 29).map (fun i => (i.zero, i.size, i.bytes)) = some (some (.agg #[.int .i64 0, .int .u32 0]), 2, 16) := by kernel_rfl
  obtain ⟨i, hi, h⟩ := Option.map_eq_some_iff.1 h
  simp only [Prod.mk.injEq] at h
  exact ⟨i, hi, h.1, h.2.1, h.2.2⟩
/-- The cells of the handles of the first k. -/
def hc (k : Nat) : List Value := (List.range k).flatMap fun (j : Nat) => [.int .i64 (j : Int), .int .u32 1]
theorem hc_succ (k : Nat) : hc (k + 1) = hc k ++ [.int .i64 (k : Int), .int .u32 1] := by simp [hc, List.range_succ]
theorem hc_length : ∀ k, (hc k).length = k * 2
  | 0 => rfl
  | k + 1 => by rw [hc_succ, List.length_append, hc_length k]; simp; omega
theorem hc_get : ∀ (k j : Nat), j < k → (hc k)[j * 2]? = some (.int .i64 (j : Int)) ∧ (hc k)[j * 2 + 1]? = some (.int .u32 1)
  | 0, _, h => by omega
  | k + 1, j, h => by
    rw [hc_succ]
    by_cases hj : j < k
    · have := hc_get k j hj
      rw [List.getElem?_append_left (by rw [hc_length]; omega), List.getElem?_append_left (by rw [hc_length]; omega)]
      exact this
    · obtain rfl : j = k := by omega
      rw [List.getElem?_append_right (by rw [hc_length]; omega), List.getElem?_append_right (by rw [hc_length]; omega), hc_length]
      simp
/-- Behind k rounds of the first loop. -/
def PA1 (P : PoolK) (w : World) (R m s k : Nat) (v : Value) (W : World) : Prop := Live P w R (pa1 m s k) (fun x => v.ownBlock = some x) W ∧ W.ownsRow w.heap.size 29 2 v k (hc k)

/-- A buffer filled as far as j. -/
def fillC (s k j : Nat) : Array Value := ((List.replicate j (UInt8.ofNat k) ++ List.replicate (s - j) 0).map enc).toArray
theorem fillC_full (s k : Nat) : fillC s k s = ((rep s k).map enc).toArray := by simp [fillC, rep]
theorem fillC_size (s k j : Nat) (h : j ≤ s) : (fillC s k j).size = s := by simp [fillC]; omega
theorem fillC_step (s k j : Nat) (h : j < s) (hk : k < 256) : (fillC s k j).setIfInBounds j (.int .u8 (k : Int)) = fillC s k (j + 1) := by
  have e : ∀ t (x : UInt8), (List.replicate j x ++ List.replicate (t + 1) 0).set j x = List.replicate (j + 1) x ++ List.replicate t 0 := fun t x => by
    rw [List.set_append_right _ _ (by simp), List.length_replicate, Nat.sub_self, List.replicate_succ, List.set_cons_zero, List.replicate_succ', List.append_assoc, List.singleton_append]
  rw [← enc_ofNat hk]
  apply Array.ext'
  rw [Array.toList_setIfInBounds]
  simp only [fillC]
  obtain ⟨t, ht⟩ : ∃ t, s - j = t + 1 := ⟨s - j - 1, by omega⟩
  rw [← List.map_set, ht, e t, show s - (j + 1) = t by omega]
/-- Within the filling of buffer k. -/
def FK (P : PoolK) (w : World) (R m s k : Nat) (v : Value) (b j : Nat) (W : World) : Prop :=
  Live P w R (pa1g m s k) (fun x => v.ownBlock = some x ∨ x = b ∨ x = b + 1) W ∧ W.ownsRow w.heap.size 29 2 v k (hc k) ∧ W.heap[b]? = some (.cells #[.int .i64 (k : Int), .int .u32 1] 29 (0, 0)) ∧ W.heap[b + 1]? = some (.cells (fillC s k j) 5 (0, 0))
theorem own_size {W : World} {base n sz : Nat} {e : TypeId} {v : Value} {vs : List Value} {x : Nat} (ho : W.ownsRow base e sz v n vs) (h : v.ownBlock = some x) : x < W.heap.size := (ho.lt x h).2
theorem own_other {W W' : World} {base n sz : Nat} {e : TypeId} {v : Value} {vs : List Value} (ho : W.ownsRow base e sz v n vs) (hk : ∀ x, v.ownBlock = some x → W'.heap[x]? = W.heap[x]?) : W'.ownsRow base e sz v n vs := by
  refine ⟨ho.1, ?_⟩
  rcases ho.2 with h2 | ⟨g, cap, cur, rfl, b, r, s⟩
  · exact .inl h2
  · exact .inr ⟨g, cap, cur, rfl, b, (hk g rfl).trans r, s⟩
theorem FK.step {P : PoolK} {w : World} {R m s k b j : Nat} {v : Value} {W : World} (h : FK P w R m s k v b j W) (hj : j < s) (hk : k < 256) : FK P w R m s k v b (j + 1) (W.setCell ⟨b + 1, j, none⟩ (.int .u8 (k : Int))) := by
  obtain ⟨h1, h2, h3, h4⟩ := h
  have hne : ∀ x, v.ownBlock = some x → x ≠ b + 1 := fun x hx e => by
    subst e
    rcases h2.2 with ⟨rfl, _⟩ | ⟨g, cap, cur, rfl, _, r, _⟩
    · cases hx
    · cases hx; rw [h4] at r; cases r
  refine ⟨h1.own ((Only.refl _ _).setCell (.inl (.inr (.inr rfl))) _) (fun x hx => ⟨.inl hx, by have := (h1.mine x hx).2; simpa [World.setCell] using this⟩), own_other h2 (fun x hx => Below.heap_setCell _ _ _ _ (hne x hx)), (Below.heap_setCell _ _ _ _ (by simp)).trans h3, ?_⟩
  rw [blk_set h4, fillC_step s k j hj hk]
theorem FK.start {P : PoolK} {w : World} {R m s k : Nat} {v : Value} {W : World} (h : Live P w R (pa1g m s k) (fun x => v.ownBlock = some x) W) (ho : W.ownsRow w.heap.size 29 2 v k (hc k)) :
    FK P w R m s k v W.heap.size 0 ((W.alloc (.cells #[.int .i64 (k : Int), .int .u32 1] 29)).alloc (.cells (Array.replicate s (.int .u8 0)) 5)) := by
  refine ⟨h.own (((Only.refl _ _).alloc _).alloc _) (fun x hx => ?_), own_other ho (fun x hx => (Below.heap_alloc _ _ _ (by have := own_size ho hx; simp; omega)).trans (Below.heap_alloc _ _ _ (own_size ho hx))), (Below.heap_alloc _ _ _ (by simp)).trans (World.alloc_heap_new W _), ?_⟩
  · rcases hx with hx | rfl | rfl
    · exact ⟨.inl hx, by have := own_size ho hx; simp; omega⟩
    · exact ⟨.inr (Nat.le_refl _), by simp; omega⟩
    · exact ⟨.inr (by omega), by simp⟩
  · have := World.alloc_heap_new (W.alloc (.cells #[.int .i64 (k : Int), .int .u32 1] 29)) (.cells (Array.replicate s (.int .u8 0)) 5)
    rw [World.size_alloc] at this
    rw [this]
    simp [fillC]
    right; rfl

theorem cell_two_new (w : World) (x y : Value) (t : TypeId) : ∀ j u, ([x, y] : List Value)[j]? = some u → (w.alloc (.cells #[x, y] t)).cell? ((⟨w.heap.size, 0, none⟩ : Addr).add j) = some u := fun j u hj => by
  rw [addr_add, Nat.zero_add, blk_cell (World.alloc_heap_new w (.cells #[x, y] t))]
  simpa using hj

theorem pa1_good (m s k : Nat) (h : k < m) : (pa1 m s m).good (k : Int) 1 = true := by
  rw [pa1, qf_good k 1 h]; simp [h]
theorem pa1_B (m s k : Nat) (h : k < m) : (pa1 m s m).B.getD k [] = rep s k := by
  rw [pa1, qf_B k h]; simp [h]

theorem PA1.drew {P : PoolK} {w : World} {R m s k : Nat} {v : Value} {W : World} (h : PA1 P w R m s k v W) : PA1 P w R m s k v W.drew :=
  ⟨h.1.own (Only.refl _ _).drew (fun x hx => ⟨.inl hx, (h.1.mine x hx).2⟩), own_other h.2 (fun _ _ => rfl)⟩
/-- Behind i that are given back. -/
def PA6 (P : PoolK) (w : World) (R m s f i g cap : Nat) (W : World) : Prop := Live P w R (pa6 m s f i) (fun x => some g = some x) W ∧ W.ownsRow w.heap.size 29 2 (.slice (some ⟨g, 0, none⟩) m cap) m (hc m)

/-- Behind k that are lent again. -/
def PA7 (P : PoolK) (w : World) (R m s f k g cap : Nat) (W : World) : Prop := ∃ t, pa7 m s f k t ∧ Live P w R t (fun x => some g = some x) W ∧ W.ownsRow w.heap.size 29 2 (.slice (some ⟨g, 0, none⟩) m cap) m (hc m)
def PA8 (P : PoolK) (w : World) (R m s f k g cap b c : Nat) (W : World) : Prop := (∃ t, pa7 m s f k t ∧ Live P w R t (fun x => some g = some x) W) ∧ W.ownsRow w.heap.size 29 2 (.slice (some ⟨g, 0, none⟩) m cap) m (hc m) ∧ W.heap[b]? = some (.cells #[.int .i64 (c : Int), .int .u32 2] 29 (0, 0))
theorem PA8.drew {P : PoolK} {w : World} {R m s f k g cap b c : Nat} {W : World} (h : PA8 P w R m s f k g cap b c W) : PA8 P w R m s f k g cap b c W.drew := by
  obtain ⟨⟨t, h1, h2⟩, h3, h4⟩ := h
  exact ⟨⟨t, h1, h2.own (Only.refl _ _).drew (fun x hx => ⟨.inl hx, (h2.mine x hx).2⟩)⟩, own_other h3 (fun _ _ => rfl), h4⟩

theorem mv_own {M : Nat → Prop} {W W' : World} {base n sz : Nat} {e : TypeId} {v : Value} {vs : List Value} (h : Mv M W W') (ho : W.ownsRow base e sz v n vs) (hm : ∀ x, v.ownBlock = some x → M x) : W'.ownsRow base e sz v n vs := by
  refine ⟨ho.1, ?_⟩
  rcases ho.2 with h2 | ⟨g, cap, cur, rfl, b, r, s⟩
  · exact .inl h2
  · exact .inr ⟨g, cap, cur, rfl, b, h.blk r (hm g rfl), s⟩

set_option maxRecDepth 100000 in
set_option maxHeartbeats 8000000 in
theorem apart_any (P : PoolK) (n0 s0 f0 : Nat) (hn : n0 < 256) (hs : s0 < 256) (hf : f0 < 256) (w : World) :
    Calls Try.prog 4 #[.int .u8 (n0 : Int), .int .u8 (s0 : Int), .int .u8 (f0 : Int)] w fun e W' => e = .returned (.bool true) ∧ Below w.heap.size w W' := by
  obtain ⟨iH, hiH, hzH, hsH, hbH⟩ := infoH
  obtain ⟨m, hm⟩ : ∃ m, m = 1 + n0 % 50 := ⟨_, rfl⟩
  obtain ⟨s, hs'⟩ : ∃ s, s = 1 + s0 % 50 := ⟨_, rfl⟩
  have hm1 : 1 ≤ m := by omega
  have hm2 : m ≤ 50 := by omega
  have hs1 : 1 ≤ s := by omega
  have hs2 : s ≤ 50 := by omega
  have hmi : (1 : Int) + (n0 : Int) % 50 = (m : Int) := by omega
  have hsi : (1 : Int) + (s0 : Int) % 50 = (s : Int) := by omega
  have HM := Lib.hid hm
  have HS := Lib.hid hs'
  clear hm hs'
  go_enter Try.func4, Try.ntmps4
  go_wp2_with fail
  refine (Live.new P m s w (by omega) (by omega) (by omega) (by omega)).mono ?_
  rintro e W1 ⟨R, rfl, hl1⟩
  rw [pa1_zero] at hl1
  have L1 := Lib.hid hl1
  clear hl1
  go_wp2
  go_loopw [11, 12] (fun v i wr => ∃ k : Nat, k ≤ m ∧ i = .int .i64 (k : Int) ∧ Hid (PA1 P w R m s k v wr)) (fun _ i _ => m - (intOf i).toNat)
  case atStart =>
    exact ⟨0, Nat.zero_le _, rfl, L1.out.own (Only.refl _ _) (fun x hx => by cases hx), World.ownsRow_nil _ _ _ _⟩
  case round =>
    obtain ⟨k, hk, rfl, hpa⟩ := hrel
    by_cases hlt : k < m
    · have hki : (k : Int) < m := by omega
      have hk50 : k < 50 := by omega
      go_wp2_with fail
      refine (hpa.out.1.get_one (pa1_N m s k hlt)).mono ?_
      rintro e W2 ⟨he, hl2, hm2⟩
      rw [pa1_gen m s k hlt] at he
      rw [pa1_get m s k hlt] at hl2
      obtain rfl : e = .returned (.tuple #[.agg #[.int .i64 (k : Int), .int .u32 1], .int .i64 0]) := he
      have hrow2 : W2.ownsRow w.heap.size 29 2 u11 k (hc k) := mv_own hm2 hpa.out.2 (fun x hx => hx)
      have L2 := Lib.hid hl2
      have O2 := Lib.hid hrow2
      clear hl2 hm2 hrow2
      have hmk : min (s : Int) 0 = 0 := by omega
      go_wp2_with (at_make; refine wpList_make_c rfl _ _ rfl s rfl rfl (by omega) ?_)
      have K0 := Lib.hid (FK.start L2.out O2.out)
      go_loopw [16] (fun i wr => ∃ j : Nat, j ≤ s ∧ i = .int .i64 (j : Int) ∧ Hid (FK P w R m s k u11 W2.heap.size j wr)) (fun i _ => s - (intOf i).toNat)
      case atStart =>
        exact ⟨0, Nat.zero_le _, rfl, K0.out⟩
      case round =>
        obtain ⟨j, hj, rfl, hfk⟩ := hrel
        by_cases hjs : j < s
        · have hji : (j : Int) < s := by omega
          have hkm : (k : Int) < 50 := by omega
          have c1 : wr.cell? ⟨W2.heap.size + 1, j, none⟩ = (fillC s k j)[j]? := blk_cell hfk.out.2.2.2 j
          have c2 : ∃ u, wr.cell? ⟨W2.heap.size + 1, j, none⟩ = some u := ⟨_, c1.trans (Array.getElem?_eq_getElem (by rw [fillC_size s k j hj]; exact hjs))⟩
          obtain ⟨u, c3⟩ := c2
          have c4 := blk_frozen hfk.out.2.2.2 j
          clear c1
          go_wp2
          refine ⟨⟨j + 1, by omega, by congr 1, hfk.out.step hjs (by omega)⟩, by simp only [intOf]; omega⟩
        · obtain rfl : s = j := by omega
          have hrow := hfk.out.2.2.2
          rw [fillC_full] at hrow
          have HR := Lib.hid hrow
          have HH := Lib.hid (show HasA wr wr.heap.size (some ⟨W2.heap.size + 1, 0, none⟩) (rep s k) from fun _ => ⟨_, 0, rfl, (Array.getElem?_eq_some_iff.1 hrow).1, fun i hi => by rw [Nat.zero_add, blk_cell hrow]; simp [hi]⟩)
          clear hrow
          go_wp2
          refine apart_fill P w R (fun x => u11.ownBlock = some x ∨ x = W2.heap.size ∨ x = W2.heap.size + 1) m s k W2.heap.size (W2.heap.size + 1) hlt hm2 hs2 (.inr (.inl rfl)) (.inr (.inr rfl)) _ wr _ rfl rfl rfl rfl rfl hfk.out.1 hfk.out.2.2.1 HR.out HH.out ?_
          rintro v85 v86 W4 - - ⟨hl4, hm4⟩
          have hrow4 : W4.ownsRow w.heap.size 29 2 u11 k (hc k) := mv_own hm4 hfk.out.2.1 (fun x hx => .inl hx)
          have hb4 := hm4.blk hfk.out.2.2.1 (.inr (.inl rfl))
          have c0 := blk_cell hb4 0
          have c1 := blk_cell hb4 1
          simp at c0 c1
          have L4 := Lib.hid (hl4.own (M' := fun x => u11.ownBlock = some x) (Only.refl _ _) (fun x hx => ⟨.inl (.inl hx), (hl4.mine x (.inl hx)).2⟩))
          have O4 := Lib.hid hrow4
          clear hl4 hm4 hrow4 hb4 HR HH
          simp only [puts, List.foldl_cons, List.foldl_nil, Act.put, List.setIfInBounds_toArray, List.set_cons_succ, List.set_cons_zero]
          go_wp2_with (at_builtin; refine wpList_append_lies _ rfl (.tmp 90) (.tmp 92) 41 rfl w.heap.size 29 iH (.agg #[.int .i64 0, .int .u32 0]) 2 16 Try.underlying41 hiH hzH hsH hbH rfl (by decide) u11 k (hc k) rfl (own_other O4.out (fun x hx => Below.heap_alloc _ _ _ (own_size O4.out hx))) ⟨W4.heap.size, 0, none⟩ 1 1 [.int .i64 (k : Int), .int .u32 1] rfl rfl (cell_two_new _ _ _ _) (by simp [Value.oneCell']) (by decide) (by simp only [maxLen]; omega) (by omega) (by have := L4.out.below.size; simp; omega) _ rfl ?_; intro g5 c5 W5 hown5 hg5 hg5' hg5s)
          refine ⟨⟨k + 1, by omega, by congr 1, ?_, by rw [hc_succ]; exact hown5⟩, by simp only [intOf]; omega⟩
          refine L4.out.own (((Only.refl _ _).alloc _).grown hg5 (fun x e => .inl e)) (fun x hx => ?_)
          cases hx
          refine ⟨hg5'.elim .inl (fun e => .inr ?_), hg5s⟩
          show W4.heap.size ≤ g5
          rw [e]; simp
    · obtain rfl : m = k := by omega
      obtain ⟨g, cap, rfl, -, -⟩ := hpa.out.2.form (by omega)
      go_wp2
      go_loopw [17] (fun i wr => ∃ k : Nat, k ≤ m ∧ i = .int .i64 (k : Int) ∧ Hid (PA1 P w R m s m (.slice (some ⟨g, 0, none⟩) m cap) wr)) (fun i _ => m - (intOf i).toNat)
      case atStart =>
        exact ⟨0, Nat.zero_le _, rfl, hpa.out⟩
      case round =>
        obtain ⟨k, hk, rfl, hp3⟩ := hrel
        by_cases hlt : k < m
        · have hki : (k : Int) < m := by omega
          have hc0 : wr.cell? ⟨g, k * 2, none⟩ = some (.int .i64 (k : Int)) := (hp3.out.2.cellAt (k * 2) (by omega)).trans (hc_get m k hlt).1
          have hc1 : wr.cell? ⟨g, k * 2 + 1, none⟩ = some (.int .u32 1) := (hp3.out.2.cellAt (k * 2 + 1) (by omega)).trans (hc_get m k hlt).2
          go_wp2_with fail
          refine (hp3.out.1.bytes_ok (k : Int) 1 ⟨by omega, by omega⟩ (by omega) (pa1_good m s k hlt)).mono ?_
          rintro e W6 ⟨v6, L6, rfl, ho6, hl6, hm6⟩
          rw [Int.toNat_natCast, pa1_B m s k hlt] at ho6
          have hL6 : L6 = s := by have := own_len ho6; simpa [rep] using this
          obtain rfl : s = L6 := hL6.symm
          obtain ⟨g6, c6, rfl, -, -⟩ := ho6.form (by omega)
          have HP6 := Lib.hid (show PA1 P w R m s m (.slice (some ⟨g, 0, none⟩) m cap) W6 from ⟨hl6.own (Only.refl _ _) (fun x hx => ⟨.inl (.inl hx), (hl6.mine x (.inl hx)).2⟩), mv_own hm6 hp3.out.2 (fun x hx => hx)⟩)
          have HO6 := Lib.hid ho6
          clear ho6 hl6 hm6 hc0 hc1 hL6
          go_wp2
          go_loopw [20] (fun i wr => ∃ j : Nat, j ≤ s ∧ i = .int .i64 (j : Int) ∧ Hid (W6 = wr)) (fun i _ => s - (intOf i).toNat)
          case atStart =>
            exact ⟨0, Nat.zero_le _, rfl, rfl⟩
          case round =>
            obtain ⟨j, hj, rfl, hw⟩ := hrel
            obtain rfl := hw.out
            by_cases hjs : j < s
            · have hji : (j : Int) < s := by omega
              have hk50 : (k : Int) < 50 := by omega
              have hcj : W6.cell? ⟨g6, j, none⟩ = some (.int .u8 (k : Int)) := by
                rw [HO6.out.cellAt j (by omega)]
                rw [← enc_ofNat (show k < 256 by omega)]
                simp [rep, hjs]
              go_wp2
              exact ⟨⟨j + 1, by omega, by congr 1, trivial⟩, by simp only [intOf]; omega⟩
            · obtain rfl : s = j := by omega
              go_wp2
              go_loopw [21] (fun i wr => ∃ j : Nat, j ≤ k ∧ i = .int .i64 (j : Int) ∧ Hid (PA1 P w R m s m (.slice (some ⟨g, 0, none⟩) m cap) wr)) (fun i _ => k - (intOf i).toNat)
              case atStart =>
                exact ⟨0, Nat.zero_le _, rfl, HP6.out⟩
              case round =>
                obtain ⟨j, hj, rfl, hp5⟩ := hrel
                by_cases hjk : j < k
                · have hji : (j : Int) < k := by omega
                  have hjm : (j : Int) < m := by omega
                  have hne : ((j : Int) == (k : Int)) = false := by simp; omega
                  have hc0 : wr.cell? ⟨g, k * 2, none⟩ = some (.int .i64 (k : Int)) := (hp5.out.2.cellAt (k * 2) (by omega)).trans (hc_get m k hlt).1
                  have hd0 : wr.cell? ⟨g, j * 2, none⟩ = some (.int .i64 (j : Int)) := (hp5.out.2.cellAt (j * 2) (by omega)).trans (hc_get m j (by omega)).1
                  go_wp2
                  go_region
                  go_wp2
                  exact ⟨⟨j + 1, by omega, by congr 1, hp5.out.drew⟩, by simp only [intOf]; omega⟩
                · obtain rfl : k = j := by omega
                  go_wp2
                  exact ⟨⟨k + 1, by omega, by congr 1, hp5.out⟩, by simp only [intOf]; omega⟩
        · obtain rfl : m = k := by omega
          have h60 : PA6 P w R m s f0 0 g cap wr := ⟨by rw [← pa6_zero]; exact hp3.out.1, hp3.out.2⟩
          have H60 := Lib.hid h60
          clear h60
          go_wp2
          go_loopw [22] (fun i wr => ∃ k : Nat, k ≤ m ∧ i = .int .i64 (k : Int) ∧ Hid (PA6 P w R m s f0 k g cap wr)) (fun i _ => m - (intOf i).toNat)
          case atStart =>
            exact ⟨0, Nat.zero_le _, rfl, H60.out⟩
          case round =>
            obtain ⟨k, hk, rfl, hp6⟩ := hrel
            by_cases hlt : k < m
            · have hki : (k : Int) < m := by omega
              obtain ⟨q, hq⟩ : ∃ q, q = idx m f0 k := ⟨_, rfl⟩
              have hqm : q < m := by rw [hq]; exact idx_lt (by omega)
              have hqi : (q : Int) < m := by omega
              have hix : ((k : Int) + (f0 : Int)) % (m : Int) = (q : Int) := by rw [hq, idx]; first | rfl | simp
              have hm0 : ((m : Int) == 0) = false := by simp; omega
              have hfi : (f0 : Int) < 256 := by omega
              have hmi50 : (m : Int) ≤ 50 := by omega
              have hc0 : wr.cell? ⟨g, q * 2, none⟩ = some (.int .i64 (q : Int)) := (hp6.out.2.cellAt (q * 2) (by omega)).trans (hc_get m q hqm).1
              have hc1 : wr.cell? ⟨g, q * 2 + 1, none⟩ = some (.int .u32 1) := (hp6.out.2.cellAt (q * 2 + 1) (by omega)).trans (hc_get m q hqm).2
              have HQ := Lib.hid hq
              clear hq
              have LA := Lib.hid (hp6.out.1.alloc (.cells #[.int .i64 (q : Int), .int .u32 1] 29))
              have OA := Lib.hid (own_other (W' := wr.alloc (.cells #[.int .i64 (q : Int), .int .u32 1] 29)) hp6.out.2 (fun x hx => Below.heap_alloc _ _ _ (own_size hp6.out.2 hx)))
              have KA := Lib.hid (World.alloc_heap_new wr (.cells #[.int .i64 (q : Int), .int .u32 1] 29))
              go_wp2_with fail
              have hb1 := pa6_back m s f0 k hlt
              have hb2 := pa6_stale m s f0 k [] hlt
              have hgd := pa6_good m s f0 k hlt
              rw [← HQ.out] at hb1 hb2 hgd
              refine (LA.out.back (q : Int) 1 ⟨by omega, by omega⟩ (by omega) (fun _ => by show (stack m f0 k).length < m; rw [stack_length]; exact hlt)).mono ?_
              rintro e W7 ⟨he, hl7, hm7⟩
              rw [hb1.1] at he
              rw [hb1.2] at hl7
              obtain rfl : e = .returned (.int .i64 0) := he
              have L7 := Lib.hid hl7
              have O7 := Lib.hid (mv_own hm7 OA.out (fun x hx => .inl hx))
              have K7 := Lib.hid (hm7.blk KA.out (.inr rfl))
              clear hl7 hm7 hc0 hc1 LA OA KA
              have c0 := blk_cell K7.out 0
              have c1 := blk_cell K7.out 1
              simp at c0 c1
              go_wp2_with fail
              refine (L7.out.back (q : Int) 1 ⟨by omega, by omega⟩ (by omega) (fun h => by rw [hgd] at h; cases h)).mono ?_
              rintro e W8 ⟨he, hl8, hm8⟩
              rw [hb2.1] at he
              rw [hb2.2.1] at hl8
              obtain rfl : e = .returned (.int .i64 15) := he
              have L8 := Lib.hid hl8
              have O8 := Lib.hid (mv_own hm8 O7.out (fun x hx => .inl hx))
              have K8 := Lib.hid (hm8.blk K7.out (.inr rfl))
              clear hl8 hm8 c0 c1 L7 O7 K7
              have c0 := blk_cell K8.out 0
              have c1 := blk_cell K8.out 1
              simp at c0 c1
              go_wp2_with fail
              refine (L8.out.set (q : Int) 1 none 0 0 [] ⟨by omega, by omega⟩ (by omega) rfl (by omega) (Nat.le_refl _) (HasA.nil _ _ _) (fun b o e => by cases e)).mono ?_
              rintro e W9 ⟨he, hl9, hm9⟩
              rw [hb2.2.2.1] at he
              rw [hb2.2.2.2] at hl9
              obtain rfl : e = .returned (.int .i64 15) := he
              have L9 := Lib.hid hl9
              have O9 := Lib.hid (mv_own hm9 O8.out (fun x hx => .inl hx))
              clear hl9 hm9 c0 c1 L8 O8 K8
              go_wp2_with fail
              refine (L9.out.free).mono ?_
              rintro e W10 ⟨he, hl10, hm10⟩
              obtain rfl : e = .returned (.int .i64 ((k : Int) + 1)) := he.trans (by show Ending.returned (.int .i64 (((stack m f0 (k + 1)).length : Nat) : Int)) = _; rw [stack_length]; rfl)
              have H10 := Lib.hid (show PA6 P w R m s f0 (k + 1) g cap W10 from ⟨hl10.own (Only.refl _ _) (fun x hx => ⟨.inl (.inl hx), (hl10.mine x (.inl hx)).2⟩), mv_own hm10 O9.out (fun x hx => .inl hx)⟩)
              clear hl10 hm10 L9 O9 hb1 hb2 hgd
              go_wp2
              exact ⟨⟨k + 1, by omega, by congr 1, H10.out⟩, by simp only [intOf]; omega⟩
            · obtain rfl : m = k := by omega
              have H70 := Lib.hid (show PA7 P w R m s f0 0 g cap wr from ⟨_, pa7_zero m s f0, hp6.out⟩)
              go_wp2
              go_loopw [24] (fun i wr => ∃ k : Nat, k ≤ m ∧ i = .int .i64 (k : Int) ∧ Hid (PA7 P w R m s f0 k g cap wr)) (fun i _ => m - (intOf i).toNat)
              case atStart =>
                exact ⟨0, Nat.zero_le _, rfl, H70.out⟩
              case round =>
                obtain ⟨k, hk, rfl, hp7⟩ := hrel
                by_cases hlt : k < m
                · have hki : (k : Int) < m := by omega
                  obtain ⟨t, h7, hl, ho⟩ := hp7.out
                  obtain ⟨c, N', hN, hcm, hgen, h7', hgood, hB⟩ := pa7_get h7 hlt
                  have HL := Lib.hid hl
                  have HO := Lib.hid ho
                  have H7' := Lib.hid h7'
                  clear hl ho h7 h7'
                  go_wp2_with fail
                  refine (HL.out.get_one hN).mono ?_
                  rintro e W7 ⟨he, hl7, hm7⟩
                  rw [hgen] at he
                  obtain rfl : e = .returned (.tuple #[.agg #[.int .i64 (c : Int), .int .u32 2], .int .i64 0]) := he
                  have o7 := mv_own hm7 HO.out (fun x hx => hx)
                  have L7 := Lib.hid (hl7.alloc (.cells #[.int .i64 (c : Int), .int .u32 2] 29))
                  have O7 := Lib.hid (own_other (W' := W7.alloc (.cells #[.int .i64 (c : Int), .int .u32 2] 29)) o7 (fun x hx => Below.heap_alloc _ _ _ (own_size o7 hx)))
                  have K7 := Lib.hid (World.alloc_heap_new W7 (.cells #[.int .i64 (c : Int), .int .u32 2] 29))
                  clear hl7 hm7 o7 HL HO
                  go_wp2_with fail
                  refine (L7.out.bytes_ok (c : Int) 2 ⟨by omega, by omega⟩ (by omega) hgood).mono ?_
                  rintro e W8 ⟨v8, L8, rfl, ho8, hl8, hm8⟩
                  rw [Int.toNat_natCast, hB] at ho8
                  obtain rfl : L8 = 0 := own_len ho8
                  obtain ⟨A8, c8, rfl⟩ := own_form ho8
                  have HP8 := Lib.hid (show PA8 P w R m s f0 (k + 1) g cap W7.heap.size c W8 from ⟨⟨_, H7'.out, hl8.own (Only.refl _ _) (fun x hx => ⟨.inl (.inl (.inl hx)), (hl8.mine x (.inl (.inl hx))).2⟩)⟩, mv_own hm8 O7.out (fun x hx => .inl hx), hm8.blk K7.out (.inr rfl)⟩)
                  clear ho8 hl8 hm8 L7 O7 K7
                  go_wp2
                  go_loopw [29] (fun i wr => ∃ j : Nat, j ≤ m ∧ i = .int .i64 (j : Int) ∧ Hid (PA8 P w R m s f0 (k + 1) g cap W7.heap.size c wr)) (fun i _ => m - (intOf i).toNat)
                  case atStart =>
                    exact ⟨0, Nat.zero_le _, rfl, HP8.out⟩
                  case round =>
                    obtain ⟨j, hj, rfl, hp8⟩ := hrel
                    by_cases hjm : j < m
                    · have hji : (j : Int) < m := by omega
                      have hc0 : wr.cell? ⟨g, j * 2, none⟩ = some (.int .i64 (j : Int)) := (hp8.out.2.1.cellAt (j * 2) (by omega)).trans (hc_get m j hjm).1
                      have hc1 : wr.cell? ⟨g, j * 2 + 1, none⟩ = some (.int .u32 1) := (hp8.out.2.1.cellAt (j * 2 + 1) (by omega)).trans (hc_get m j hjm).2
                      have d0 := blk_cell hp8.out.2.2 0
                      have d1 := blk_cell hp8.out.2.2 1
                      simp at d0 d1
                      have q1 := fun (x0 x1 y0 y1 : Int) (w : World) => eqH x0 x1 y0 y1 w
                      have q2 := noHeld
                      have q3 := eqHG
                      go_wp2
                      go_region
                      go_wp2
                      exact ⟨⟨j + 1, by omega, by congr 1, hp8.out.drew⟩, by simp only [intOf]; omega⟩
                    · obtain rfl : m = j := by omega
                      go_wp2
                      exact ⟨⟨k + 1, by omega, by congr 1, hp8.out.1.elim fun t h => ⟨t, h.1, h.2, hp8.out.2.1⟩⟩, by simp only [intOf]; omega⟩
                · obtain rfl : m = k := by omega
                  obtain ⟨t, _, hl, _⟩ := hp7.out
                  have HB := Lib.hid hl.below
                  clear hl
                  go_wp2_with fail
                  refine (wakes4 P wr).mono ?_
                  rintro e W9 ⟨rfl, hb9⟩
                  have HB9 := Lib.hid (HB.out.trans (Below.mono hb9 HB.out.size))
                  go_wp2
                  go_ret
                  exact ⟨rfl, HB9.out⟩
end Go.Proofs.Ytmpaefndkobgnaa
