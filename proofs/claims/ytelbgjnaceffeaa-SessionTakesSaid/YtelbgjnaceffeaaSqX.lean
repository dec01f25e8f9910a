/- Put of a table of sessions: its bytes behind given ones. -/
import Derived.Test.YtelbgjnaceffeaaSqR
import Derived.Test.YtelbgjnaceffeaaSqC
namespace Go.Proofs.Ytelbgjnaceffeaa
open Go.RowKit Go.Maps Go.Shelf
attribute [local go_sem] Oper.semAt_some

def onesTo (l : List SE) (i : Nat) : List UInt8 := (l.take i).flatMap oneS
theorem onesTo_succ {l : List SE} {i : Nat} (h : i < l.length) : onesTo l (i + 1) = onesTo l i ++ oneS l[i] := by
  unfold onesTo
  rw [List.take_succ_eq_append_getElem h, List.flatMap_append]
  simp
/-- The bytes so far, behind i rounds. -/
def PutJ (w : World) (g : Nat) (l : List SE) (i : Nat) (W : World) : Prop := Below w.heap.size w W ∧ (w.heap.size ≤ g ∧ ∃ v, W.heap[g]? = some (.cells #[v] 22 (0, 0)) ∧ W.ownsRow w.heap.size 5 1 v (vb l.length ++ onesTo l i).length ((vb l.length ++ onesTo l i).map enc))
theorem PutJ.abides {w : World} {B g : Nat} {l : List SE} {i : Nat} (hB : w.heap.size ≤ B) : Abides B (PutJ w g l i) := (Abides.below (Nat.le_refl _) hB).and ((Abides.pure _).and (Abides.ex fun _ => Abides.block.and Abides.own))
theorem PutJ.below {w W W' : World} {g : Nat} {l : List SE} {i : Nat} (h : PutJ w g l i W) (hb : Below W.heap.size W W') : PutJ w g l i W' := by
  obtain ⟨h1, hg, v, h2, h3⟩ := h
  exact ⟨h1.trans (Below.mono hb h1.size), hg, v, (hb.block g (Array.getElem?_eq_some_iff.1 h2).1).trans h2, own_below h3 hb⟩
theorem onesTo_all (l : List SE) : vb l.length ++ onesTo l l.length = bytesSS l := by
  unfold onesTo bytesSS
  rw [List.take_length]
theorem onesTo_le (l : List SE) (i : Nat) : (onesTo l i).length ≤ (l.flatMap oneS).length := by
  unfold onesTo
  conv => rhs; rw [← List.take_append_drop i l, List.flatMap_append, List.length_append]
  omega
/-- One append. -/
theorem put_step {w W W1 W2 : World} {g : Nat} {xs t : List UInt8} {v v1 : Value} (hb : Below w.heap.size w W) (hg : w.heap.size ≤ g)
    (ho : W.ownsRow w.heap.size 5 1 v xs.length (xs.map enc)) (g1 : Grew W W1) (o1 : W2.ownsRow w.heap.size 5 1 v1 (xs.length + t.length) ((xs ++ t).map enc)) (r1 : W1.grownBy W2 v.ownBlock) (c1 : W2.heap[g]? = some (.cells #[v] 22 (0, 0))) :
    Below w.heap.size w (W2.setCell ⟨g, 0, none⟩ v1) ∧ (W2.setCell ⟨g, 0, none⟩ v1).heap[g]? = some (.cells #[v1] 22 (0, 0)) ∧ (W2.setCell ⟨g, 0, none⟩ v1).ownsRow w.heap.size 5 1 v1 (xs ++ t).length ((xs ++ t).map enc) ∧
      KeepsOthers W (W2.setCell ⟨g, 0, none⟩ v1) ∧ (∀ {u : Value} {m : List SE}, KeysW m u W → KeysW m u (W2.setCell ⟨g, 0, none⟩ v1)) ∧ ∀ (q : Nat) (cs : Array Value), W.heap[q]? = some (.cells cs 58 (0, 0)) → (W2.setCell ⟨g, 0, none⟩ v1).heap[q]? = some (.cells cs 58 (0, 0)) := by
  have hty : ∀ r, v.ownBlock = some r → ∃ cs, W1.heap[r]? = some (.cells cs 5 (0, 0)) := own_typed (own_below ho g1)
  have hs := ((SameT.grew (T := []) g1).trans (SameT.grown r1 hty)).trans (SameT.set (i := 0) c1 v1)
  refine ⟨((hb.trans (Below.mono g1 hb.size)).grown r1 (Nat.le_trans hb.size (Below.size g1)) (fun k e => (ho.lt k e).1)).setCell (p := ⟨g, 0, none⟩) hg _, by simpa using blk_set c1 0 v1, ?_, ?_, fun {u m} hk => hs.own hk (by decide), fun q cs h => hs _ _ _ (by decide) h⟩
  · have := (SameT.set (i := 0) c1 v1).own o1 (by decide)
    rwa [List.length_append]
  · exact ((KeepsOthers.of_grownBy (grownBy_of_below (r := none) g1) (fun j o e => by cases e)).trans (KeepsOthers.of_grownBy r1 (fun j o e ho' => by
      obtain ⟨cs, hc⟩ := hty j e
      rw [hc] at ho'
      cases ho'
      rfl))).trans (KeepsOthers.setCell _ _ _)
set_option maxRecDepth 100000 in
set_option maxHeartbeats 8000000 in
theorem put_in (a : Value) (p : Option Nat) (l : List SE) (hs : SortedE l) (hl : LimS l) (hbl : (bytesSS l).length ≤ 900000) (w : World) (hm : MapO w p l) (hall : ∀ W, Below w.heap.size w W → Calls Try.prog 26 #[a] W fun e W' => e = .returned (.map p) ∧ W' = W)
    (hlen : Calls Try.prog 14 #[a] w fun e W' => e = .returned (.int .i64 (l.length : Int)) ∧ W' = w) (A : Option Addr) (L c : Nat) (bs : List UInt8) (hL : L = bs.length) (hL1 : L ≤ 1000) (hA : HasA w w.heap.size A bs) :
    CallsIn Fence.wide 5 Try.prog 9 #[a, .slice A L c] w fun e W' => ∃ v n, e = .returned v ∧ W'.ownsRow w.heap.size 5 1 v n ((bs ++ bytesSS l).map enc) ∧ Below w.heap.size w W' := by
  have HSL := Lib.hid (And.intro hs (And.intro hl hbl))
  have HM := Lib.hid hm
  have HALL := Lib.hid hall
  have HLEN := Lib.hid hlen
  have HA := Lib.hid (And.intro hL (And.intro hL1 hA))
  obtain ⟨N, hN⟩ : ∃ N, N = l.length := ⟨_, rfl⟩
  rw [← hN] at HLEN
  have hN5 : N ≤ 5000 := by rw [hN]; exact hl.len
  have hNi : (N : Int) < 18446744073709551616 := by omega
  have HN := Lib.hid (And.intro hN hN5)
  clear hs hl hbl hm hall hlen hL hL1 hA hN hN5
  refine callsIn_of_wp_marks Try.func9 rfl trivial ?_ rfl
  simp only [Try.ntmps9, List.size_toArray, List.length_cons, List.length_nil, Nat.reduceAdd, Nat.reduceSub, Array.replicate_succ, Array.replicate_zero, List.push_toArray, List.append_toArray, List.nil_append, List.cons_append]
  gi_wp2_with fail
  refine ⟨trivial, ?_⟩
  refine (callsIn_wide.2 HLEN.out).mono ?_
  rintro e W1 ⟨rfl, rfl⟩
  gi_wp2_with fail
  refine ⟨trivial, ?_⟩
  refine (callsIn_wide.2 (Uint_any none [] 0 0 N rfl (by have := HN.out.2; omega) (by simp) W1 (HasA.nil _ _ _))).mono ?_
  rintro e W2 ⟨g2, L2, c2, rfl, hown, hb⟩
  have H2 := Lib.hid (And.intro hown hb)
  clear hown hb
  gi_wp2
  obtain ⟨W3, hW3⟩ : ∃ W3, W3 = W2.alloc (Obj.cells #[.slice (some ⟨g2, 0, none⟩) L2 c2] 22) := ⟨_, rfl⟩
  rw [← hW3]
  have hB3 : Below W2.heap.size W2 W3 := by rw [hW3]; exact (Below.refl _ W2).alloc (Nat.le_refl _) _
  have k3 : W3.heap[W2.heap.size]? = some (.cells #[.slice (some ⟨g2, 0, none⟩) L2 c2] 22 (0, 0)) := by rw [hW3]; exact World.alloc_heap_new W2 _
  have hG2 := H2.out.2.size
  obtain ⟨G, hG⟩ : ∃ G, G = W2.heap.size := ⟨_, rfl⟩
  rw [← hG] at k3 hG2 ⊢
  have o3 := own_below H2.out.1 hB3
  rw [List.nil_append, HN.out.1] at o3
  have hL2 := own_len o3
  have hJ0 : PutJ W1 G l 0 W3 := ⟨H2.out.2.trans (Below.mono hB3 H2.out.2.size), hG2, _, k3, by
    have e : vb l.length ++ onesTo l 0 = vb l.length := by unfold onesTo; simp
    rw [e, ← hL2]
    exact o3⟩
  have HJ0 := Lib.hid hJ0
  have hW13 : W1.heap.size ≤ W3.heap.size := hJ0.1.size
  have hcl : ∀ e ∈ l, e.cl < 4294967296 := fun e he => (HSL.out.2.1.each e he).1
  have hll : l.length ≤ 1000000 := by have := HSL.out.2.1.len; omega
  clear hW3 hB3 k3 hG o3 hL2 hJ0
  refine wpIn_rangeFunc_tied2 rfl (by omega) (gf := 22) (fb := #[a]) (lb := #[]) rfl trivial (enters_of Try.func22 (by kernel_rfl) rfl) (encs := pairE l) (fun _ => rfl)
    (PutJ.abides hW13) (PutJ.abides hW13) (fun x => (PutJ.abides hW13).and (Abides.own.and (Abides.pure _))) (fun x => (PutJ.abides hW13).and Abides.own) (fun _ => Abides.pure _) (fun _ => Abides.pure _)
    (order_seq 4 (by omega) W1 a p l HM.out HALL.out HSL.out.1 hll hcl W3.heap.size (PutJ W1 G l) (fun i W h => h.1) (fun W W' h hb => h.below hb)) HJ0.out
    (fun x a' W' => ∃ q : Nat, (a' = { tmps := #[a, .slice A L c, undef, undef, .slice none 0 0, .pointer (some ⟨G, 0, none⟩), cV (eAt l x.1).cl, .pointer (some ⟨q, 0, none⟩), a, .int .i64 (N : Int), .int .u64 (N : Int), .slice (some ⟨g2, 0, none⟩) L2 c2, a, .func (.func 22) #[a] #[], cV (eAt l x.1).cl, sessV (eAt l x.1), undef, undef, undef, undef, undef, undef, undef, undef, undef, undef, undef, undef, undef, undef, undef, undef, undef, undef, undef, undef, undef, undef, undef, undef, undef, undef, undef, undef], defers := [] } ∧ x.1 < l.length) ∧ W'.heap[q]? = some (.cells #[.int .u32 ((eAt l x.1).sq : Int), .int .u8 ((eAt l x.1).cd : Int), .string (eAt l x.1).tx] 58 (0, 0)) ∧ PutJ W1 G l x.1 W' ∧ KeysW l x.2 W')
    (fun x a' => Abides.ex fun q => (Abides.pure _).and (Abides.block.and ((PutJ.abides hW13).and Abides.own))) ?assign ?body ?done ?stop
  case assign =>
    intro y x W K ⟨hJ, hKs, hi⟩ hW hK
    simp only [pairE, sessV]
    have hb0 : Below W.heap.size W (W.alloc (.cells #[.int .u32 ((eAt l x.1).sq : Int), .int .u8 ((eAt l x.1).cd : Int), .string (eAt l x.1).tx] 58)) := (Below.refl _ W).alloc (Nat.le_refl _) _
    have hJ' := hJ.below hb0
    have hK' : KeysW l x.2 (W.alloc (.cells #[.int .u32 ((eAt l x.1).sq : Int), .int .u8 ((eAt l x.1).cd : Int), .string (eAt l x.1).tx] 58)) := World.ownsRow.alloc hKs _
    have hkf := (KeepsOthers.alloc W (.cells #[.int .u32 ((eAt l x.1).sq : Int), .int .u8 ((eAt l x.1).cd : Int), .string (eAt l x.1).tx] 58)).from W3.heap.size
    have hnew := World.alloc_heap_new W (.cells #[.int .u32 ((eAt l x.1).sq : Int), .int .u8 ((eAt l x.1).cd : Int), .string (eAt l x.1).tx] 58)
    have HK9 := Lib.hid (And.intro hJ' (And.intro hK' (And.intro hkf (And.intro hnew hi))))
    clear hJ' hK' hkf hnew hb0 hJ hKs
    gi_wp2
    exact hK _ _ HK9.out.2.2.1 ⟨W.heap.size, ⟨rfl, HK9.out.2.2.2.2⟩, HK9.out.2.2.2.1, HK9.out.1, HK9.out.2.1⟩
  case body =>
    rintro y ⟨i, u⟩ a' W ⟨q, ⟨rfl, hi⟩, hq, hJ, hK⟩ hlt
    dsimp only at hJ hK hi hq ⊢
    rw [eAt_at hi] at hq ⊢
    obtain ⟨hb, hg, v, hv, ho⟩ := hJ
    have hz := HSL.out.2.1.each l[i] (List.getElem_mem hi)
    have hpl : (vb l.length ++ onesTo l i).length ≤ 900000 := by
      have h1 := onesTo_le l i
      have h2 := HSL.out.2.2
      unfold bytesSS at h2
      rw [List.length_append] at h2 ⊢
      omega
    have hps := onesTo_succ hi
    obtain ⟨⟨cl, sq, cd, tx⟩, he⟩ : ∃ e, e = l[i] := ⟨_, rfl⟩
    rw [← he] at hz hps hq
    rw [← he]
    simp only at hz hq ⊢
    obtain ⟨xs, hxs⟩ : ∃ xs, xs = vb l.length ++ onesTo l i := ⟨_, rfl⟩
    rw [← hxs] at ho hpl
    have HPS := Lib.hid (show vb l.length ++ onesTo l (i + 1) = xs ++ vb cl ++ vb sq ++ vb cd ++ txt tx by rw [hps, hxs]; simp only [oneS, List.append_assoc])
    clear hps he hxs
    have hWb := hb.size
    have l1 := vb_len10 (n := cl) (by omega)
    have l2 := vb_len10 (n := sq) (by omega)
    have l3 := vb_len10 (n := cd) (by omega)
    have l4 := txt_len (s := tx) (by omega)
    gi_wp2
    refine put_regionPa y (5 - 1 - 1) (by decide) W1.heap.size G v cl xs (by omega) hz.1 _ W _ rfl rfl rfl hv ho hWb ?_
    intro u1 v1 V1 V2 g1 o1 r1 c1
    obtain ⟨s1, s2, s3, s4, s5, s6⟩ := put_step hb hg ho g1 o1 r1 c1
    have q4 := s6 q _ hq
    obtain ⟨W4, hW4⟩ : ∃ W4, W4 = V2.setCell ⟨G, 0, none⟩ v1 := ⟨_, rfl⟩
    rw [← hW4] at s1 s2 s3 s4 s5 q4 ⊢
    have K4 := Lib.hid (And.intro s4 (s5 hK))
    clear g1 o1 r1 c1 s4 s5 s6 hW4 hv ho hK hq
    simp only [puts, List.foldl_cons, List.foldl_nil, Act.put, List.setIfInBounds_toArray, List.set_cons_succ, List.set_cons_zero]
    gi_wp2
    refine put_regionPb y (5 - 1 - 1) (by decide) W1.heap.size G v1 q sq (xs ++ vb cl) (by rw [List.length_append]; omega) hz.2.1 _ W4 _ rfl rfl (by simpa using blk_cell q4 0) rfl s2 s3 s1.size ?_
    intro u2 v2 V3 V4 g3 o3 r3 c3
    obtain ⟨t1, t2, t3, t4, t5, t6⟩ := put_step s1 hg s3 g3 o3 r3 c3
    have q5 := t6 q _ q4
    obtain ⟨W5, hW5⟩ : ∃ W5, W5 = V4.setCell ⟨G, 0, none⟩ v2 := ⟨_, rfl⟩
    rw [← hW5] at t1 t2 t3 t4 t5 q5 ⊢
    have K5 := Lib.hid (And.intro (K4.out.1.trans t4) (t5 K4.out.2))
    clear g3 o3 r3 c3 t4 t5 t6 hW5 q4 s1 s2 s3
    simp only [puts, List.foldl_cons, List.foldl_nil, Act.put, List.setIfInBounds_toArray, List.set_cons_succ, List.set_cons_zero]
    gi_wp2
    refine put_regionPc y (5 - 1 - 1) (by decide) W1.heap.size G v2 q cd (xs ++ vb cl ++ vb sq) (by rw [List.length_append, List.length_append]; omega) hz.2.2.1 _ W5 _ rfl rfl (by simpa using blk_cell q5 1) rfl t2 t3 t1.size ?_
    intro u3 v3 V5 V6 g5 o5 r5 c5
    obtain ⟨x1, x2, x3, x4, x5, x6⟩ := put_step t1 hg t3 g5 o5 r5 c5
    have q6 := x6 q _ q5
    obtain ⟨W6, hW6⟩ : ∃ W6, W6 = V6.setCell ⟨G, 0, none⟩ v3 := ⟨_, rfl⟩
    rw [← hW6] at x1 x2 x3 x4 x5 q6 ⊢
    have K6 := Lib.hid (And.intro (K5.out.1.trans x4) (x5 K5.out.2))
    clear g5 o5 r5 c5 x4 x5 x6 hW6 q5 t1 t2 t3
    simp only [puts, List.foldl_cons, List.foldl_nil, Act.put, List.setIfInBounds_toArray, List.set_cons_succ, List.set_cons_zero]
    gi_wp2
    refine put_regionPd y (5 - 1 - 1) (by decide) W1.heap.size G v3 q tx (xs ++ vb cl ++ vb sq ++ vb cd) (by rw [List.length_append, List.length_append, List.length_append]; omega) (by omega) _ W6 _ rfl rfl (by simpa using blk_cell q6 2) rfl x2 x3 x1.size ?_
    intro u4 v4 V7 V8 g7 o7 r7 c7
    obtain ⟨y1, y2, y3, y4, y5, y6⟩ := put_step x1 hg x3 g7 o7 r7 c7
    simp only [puts, List.foldl_cons, List.foldl_nil, Act.put, List.setIfInBounds_toArray, List.set_cons_succ, List.set_cons_zero]
    refine ⟨(K6.out.1.trans y4).from _, ⟨y1, hg, v4, y2, ?_⟩, y5 K6.out.2⟩
    rw [HPS.out]
    exact y3
  case done =>
    intro D W hD hId hK
    obtain ⟨hb, hg, v, hv, ho⟩ := hId
    rw [onesTo_all] at ho
    obtain ⟨A9, c9, rfl⟩ := own_form ho
    have hc := blk_cell hv 0
    simp at hc
    obtain ⟨M, hM⟩ : ∃ M, M = (bytesSS l).length := ⟨_, rfl⟩
    rw [← hM] at ho hc
    have hd : W.heap[D]? = some (.deferred (some [])) := hK
    have HD := Lib.hid (And.intro hb (And.intro ho (And.intro hM hK)))
    clear hb hg hv ho hM hK hd
    gi_wp2_with fail
    refine ⟨trivial, ?_⟩
    obtain ⟨W5, hW5⟩ : ∃ W5, W5 = W.alloc (Obj.cells #[.slice A L c, .slice A9 M c9] 22) := ⟨_, rfl⟩
    rw [← hW5]
    have hB5 : Below W.heap.size W W5 := by rw [hW5]; exact (Below.refl _ W).alloc (Nat.le_refl _) _
    have k5 : W5.heap[W.heap.size]? = some (.cells #[.slice A L c, .slice A9 M c9] 22 (0, 0)) := by rw [hW5]; exact World.alloc_heap_new W _
    have hw5 : Below W1.heap.size W1 W5 := HD.out.1.trans (Below.mono hB5 HD.out.1.size)
    have d5 : W5.heap[D]? = some (.deferred (some [])) := (hB5.block D (Array.getElem?_eq_some_iff.1 HD.out.2.2.2).1).trans HD.out.2.2.2
    have hfl : (List.flatten [bs, bytesSS l]).length ≤ 1000000 ∧ 1 ≤ (List.flatten [bs, bytesSS l]).length := by
      have h1 := HSL.out.2.2
      have h2 := HA.out.1
      have h3 := HA.out.2.1
      have h4 : 0 < (vb l.length).length := List.length_pos_iff.2 (vb_ne _)
      have h5 : 0 < (bytesSS l).length := by unfold bytesSS; rw [List.length_append]; omega
      simp only [List.flatten_cons, List.flatten_nil, List.length_append, List.length_nil]
      omega
    refine (callsIn_wide.2 (Concat_any W.heap.size 2 2 [bs, bytesSS l] rfl (by omega) (by omega) hfl.2 hfl.1 W5 (Array.getElem?_eq_some_iff.1 k5).1 ?_)).mono ?_
    · intro i hi
      have hi2 : i = 0 ∨ i = 1 := by simp at hi; omega
      rcases hi2 with rfl | rfl
      · exact ⟨A, L, c, by rw [blk_cell k5]; rfl, HA.out.1, HA.out.2.2.below' hw5⟩
      · exact ⟨A9, M, c9, by rw [blk_cell k5]; rfl, HD.out.2.2.1, HasA.of_own (own_below HD.out.2.1 hB5)⟩
    rintro e W6 ⟨g6, L6, c6, rfl, hown, hb6⟩
    have h6 : Below W1.heap.size W1 W6 := hw5.trans (Below.mono hb6 hw5.size)
    have d6 : W6.heap[D]? = some (.deferred (some [])) := (hb6.block D (Array.getElem?_eq_some_iff.1 d5).1).trans d5
    have HF := Lib.hid (And.intro (own_base hown (base' := W1.heap.size) hw5.size) (And.intro h6 d6))
    have hDw : W1.heap.size ≤ D := Nat.le_trans hW13 hD
    clear hown hb6 h6 d6 hW5 hB5 k5 hw5 d5 hfl
    gi_wp2
    have hr : ∀ r, some D = some r → W1.heap.size ≤ r ∧ ∃ o, W6.heap[r]? = some o ∧ o.isCells = false := fun r e => by
      cases e
      exact ⟨hDw, _, HF.out.2.2, rfl⟩
    have hown6 : W6.ownsRow W1.heap.size 5 1 (.slice (some ⟨g6, 0, none⟩) L6 c6) L6 ((bs ++ bytesSS l).map enc) := by
      have h := HF.out.1
      simpa using h
    have e1 := Abides.own (B := W1.heap.size) W6 _ (some D) hown6 (grownBy_putObj' W6 D (.deferred none)) hr
    have e2 := Abides.below (Nat.le_refl W1.heap.size) (Nat.le_refl W1.heap.size) W6 _ (some D) HF.out.2.1 (grownBy_putObj' W6 D (.deferred none)) hr
    refine ⟨by simp, .inl ⟨_, _, rfl, run_takeDeferred HF.out.2.2, ?_⟩⟩
    refine ⟨.slice (some ⟨g6, 0, none⟩) L6 c6, (results_tmp (fn := Try.f9) (t := 4) rfl _ _ _).trans rfl, .slice (some ⟨g6, 0, none⟩) L6 c6, L6, rfl, e1, e2⟩
  case stop =>
    intro D cc W hD hf
    exact hf.elim
theorem put_any {w : World} {R : Nat} {p : Option Nat} {l : List SE} (A : Option Addr) (L c : Nat) (bs : List UInt8) (h : StQ w R p l) (hs : SortedE l) (hl : LimS l) (hbl : (bytesSS l).length ≤ 900000) (hL : L = bs.length) (hL1 : L ≤ 1000) (hA : HasA w w.heap.size A bs) :
    Calls Try.prog 9 #[.pointer (some ⟨R, 0, none⟩), .slice A L c] w fun e W' => ∃ v n, e = .returned v ∧ W'.ownsRow w.heap.size 5 1 v n ((bs ++ bytesSS l).map enc) ∧ Below w.heap.size w W' :=
  callsIn_wide.1 (put_in _ p l hs hl hbl w h.map (fun _W hb => all_any (h.below hb)) (len_any h) A L c bs hL hL1 hA)
end Go.Proofs.Ytelbgjnaceffeaa
