/- A ballot's bytes, by the reference and by the landed Put: the statements that draw their order. -/
import Derived.Test.YtdiihaeelcbjbaaGreatDoorRg
import Derived.Test.YtdiihaeelcbjbaaGreatDoorMBl1
import Derived.Test.YtdiihaeelcbjbaaGreatDoorRefU
import Derived.Test.YtdiihaeelcbjbaaGreatDoorMVar
namespace Go.Proofs.YtdiihaeelcbjbaaGreatDoor
open Go.RowKit

theorem fdBA (w : World) (p i : Nat) (hi : i = 0 ∨ i = 1) : (Instr.fieldAt 25 (.pointer (some ⟨p, 0, none⟩)) i).run Tryz.prog w = .ok (.pointer (some ⟨p, i, none⟩)) w := by
  rcases hi with rfl | rfl <;> simp [go_sem]
theorem ldB6 (w : World) (p : Addr) (v : Value) (h : w.cell? p = some v) : (Instr.loadAt 23 (.pointer (some p))).run Tryz.prog w = .ok v w := by
  simp [go_sem, h]
theorem ldBi (w : World) (p : Addr) (v : Value) (h : w.cell? p = some v) : (Instr.loadAt 3 (.pointer (some p))).run Tryz.prog w = .ok v w := by
  simp [go_sem, h]
theorem cvBu (w : World) (x : BA) (hf : x.fit) : (convert 3 23 (.int .i64 x.r)).run Tryz.prog w = .ok (.int .u64 (x.r.toNat : Int)) w := by
  obtain ⟨h1, h2⟩ := hf
  have e : ((x.r.toNat : Nat) : Int) = x.r := by omega
  rw [e]
  simp [go_sem, IntKind.wrap]
  omega
def tupB (u : Value) (i : Nat) : Value := match u with
  | .tuple vs => vs.getD i undef
  | _ => undef
/-- Bytes that a call owns, as a value. -/
def OwB (B : Nat) (w : World) (v : Value) (X : List UInt8) : Prop := ∃ g n c, v = .slice (some ⟨g, 0, none⟩) n c ∧ w.ownsRow B 5 1 v n (X.map enc)
theorem OwB.grew {B : Nat} {w w' : World} {v : Value} {X : List UInt8} (h : OwB B w v X) (hg : Grew w w') : OwB B w' v X := by
  obtain ⟨g, n, c, e, h⟩ := h
  exact ⟨g, n, c, e, own_below h hg⟩
noncomputable def opsBb : List Oper := opsOf Tryz.f115 1
def wsBb (_pb : Nat) (x : BA) (W0 : World) (L : Nat → Bool) (u : Value) (w : World) : Prop := Below W0.heap.size W0 w ∧ (L 2 = true → L 7 = false → ∃ m, w.ownsRow W0.heap.size 5 1 (tupB u 0) m ((vb x.n).map enc)) ∧ (L 6 = true → L 7 = false → ∃ g m c, tupB u 1 = .slice (some ⟨g, 0, none⟩) m c ∧ m = (vb x.r.toNat).length ∧ HasA w w.heap.size (some ⟨g, 0, none⟩) (vb x.r.toNat)) ∧ (L 7 = true → ∃ m, w.ownsRow W0.heap.size 5 1 (tupB u 2) m ((vb x.n ++ vb x.r.toNat).map enc)) ∧ (L 8 = true → ∃ m, w.ownsRow W0.heap.size 5 1 (tupB u 3) m ((vb x.n ++ vb x.r.toNat).map enc))
theorem wsBb_same (pb : Nat) (x : BA) {W0 : World} {L : Nat → Bool} {i : Nat} {u : Value} {w : World} (k2 : ((2 : Nat) == i) = false) (k6 : ((6 : Nat) == i) = false) (k7 : ((7 : Nat) == i) = false) (k8 : ((8 : Nat) == i) = false) (h : wsBb pb x W0 L u w) : wsBb pb x W0 (fun j => L j || j == i) u w := by
  unfold wsBb at h ⊢
  simp only [beq_noF k2, beq_noF k6, beq_noF k7, beq_noF k8]
  exact h
set_option maxRecDepth 100000 in
set_option maxHeartbeats 4000000 in
theorem refbytes_r (pb : Nat) (x : BA) (a : Act) (w : World) (Q : Exit → Act → World → Prop) (hN : a.tmps.size = 11) (h1 : a.tmps.getD 1 undef = .pointer (some ⟨pb, 0, none⟩)) (hp : w.drew.heap[pb]? = some (.cells #[.int .u64 (x.n : Int), .int .i64 x.r] 25 (0, 0))) (hx : x.ok) (hf : x.fit) (hW0 : wsBb pb x w.drew (fun _ => false) undef w.drew) (hQ : ∀ (u : Value) w', wsBb pb x w.drew (fun _ => true) u w' → Q .normal (puts [(3, .pointer (some ⟨pb, 0, none⟩)), (4, .int .u64 (x.n : Int)), (5, tupB u 0), (6, .pointer (some ⟨pb, 1, none⟩)), (7, .int .i64 x.r), (8, .int .u64 (x.r.toNat : Int)), (9, tupB u 1), (10, tupB u 2), (2, tupB u 3)] a) w')
    : (Code.region 1 opsBb.toArray true).wp Tryz.prog Q a w := by
  refine region_c (U := Value) 11 opsBb [(1, .pointer (some ⟨pb, 0, none⟩))] [2, 6, 7, 8] (fun u => [.pointer (some ⟨pb, 0, none⟩), .int .u64 (x.n : Int), tupB u 0, .pointer (some ⟨pb, 1, none⟩), .int .i64 x.r, .int .u64 (x.r.toNat : Int), tupB u 1, tupB u 2, tupB u 3]) (wsBb pb x w.drew) undef follows (by kernel_rfl) hN ⟨h1, trivial⟩ (fun _ => Nat.le_of_ble_eq_true rfl) hW0 (fun _ _ _ _ hi h => wsBb_same _ _ (key_ne hi rfl) (key_ne hi rfl) (key_ne hi rfl) (key_ne hi rfl) h) ?_ ?_ ?_
  · intro L u w' hW _
    exact ⟨fun _ => ob_fld (fdBA _ _ _ (.inl rfl)), fun _ => ob_load (ldB6 _ _ _ (by rw [blk_cell ((hW.1.block pb (Array.getElem?_eq_some_iff.1 hp).1).trans hp) 0]; rfl)), trivial, fun _ => ob_fld (fdBA _ _ _ (.inr rfl)), fun _ => ob_load (ldBi _ _ _ (by rw [blk_cell ((hW.1.block pb (Array.getElem?_eq_some_iff.1 hp).1).trans hp) 1]; rfl)), fun _ => ob_cv (cvBu _ x hf), trivial, trivial, trivial, trivial⟩
  · refine ⟨?_, ?_, ?_, ?_, trivial⟩
    · rintro o ho L u a' w' hLi hpre hcl hR hW fin
      have hio := (nthO_eq _ _).symm.trans ho
      cases ho
      have q1 : a'.tmps.getD 4 undef = .int .u64 (x.n : Int) := hR.val 1 _ 4 rfl rfl (edge_ofF hpre 1 rfl)
      obtain ⟨w1, w2, w3, w4, w5⟩ := hW
      have n6 : L 6 = false := not_yetF hcl 30 (show reachB opsBb 30 6 2 = true by kernel_rfl) hLi
      have n7 : L 7 = false := not_yetF hcl 30 (show reachB opsBb 30 7 2 = true by kernel_rfl) hLi
      have n8 : L 8 = false := not_yetF hcl 30 (show reachB opsBb 30 8 2 = true by kernel_rfl) hLi
      refine step_callD hio rfl rfl (enters_of Tryz.func59 (by kernel_rfl) rfl) (show Array.map a'.eval #[.tmp 4] = _ from by simp only [List.map_toArray, List.map_cons, List.map_nil, Act.eval, q1]) ((ref_Uint x.n hx.n w').mono ?_)
      rintro e w'' ⟨g, m, c, rfl, ho, hb⟩
      have hW2 : wsBb pb x w.drew (fun j => L j || j == 2) (.tuple #[.slice (some ⟨g, 0, none⟩) m c, tupB u 1, tupB u 2, tupB u 3]) w'' := by
        refine ⟨w1.trans (Below.mono hb w1.size), fun _ _ => ⟨m, own_base ho w1.size⟩, fun h => ?_, fun h => ?_, fun h => ?_⟩
        · have h' : L 6 = true := by simpa using h
          rw [n6] at h'
          cases h'
        · have h' : L 7 = true := by simpa using h
          rw [n7] at h'
          cases h'
        · have h' : L 8 = true := by simpa using h
          rw [n8] at h'
          cases h'
      exact ⟨_, rfl, (fin ((.tuple #[.slice (some ⟨g, 0, none⟩) m c, tupB u 1, tupB u 2, tupB u 3])) _ _ (fun _ => rfl) (fun j hj => by
        rcases j with _ | _ | _ | _ | _ | _ | _ | _ | _ | j <;> first | rfl | exact Bool.noConfusion (hj.symm.trans hLi) | exact Bool.noConfusion (hj.symm.trans (not_yetF hcl 30 (by kernel_rfl) hLi))) (hW2))⟩
    · rintro o ho L u a' w' hLi hpre hcl hR hW fin
      have hio := (nthO_eq _ _).symm.trans ho
      cases ho
      have q5 : a'.tmps.getD 8 undef = .int .u64 (x.r.toNat : Int) := hR.val 5 _ 8 rfl rfl (edge_ofF hpre 5 rfl)
      obtain ⟨w1, w2, w3, w4, w5⟩ := hW
      have n7 : L 7 = false := not_yetF hcl 30 (show reachB opsBb 30 7 6 = true by kernel_rfl) hLi
      have n8 : L 8 = false := not_yetF hcl 30 (show reachB opsBb 30 8 6 = true by kernel_rfl) hLi
      obtain ⟨m0, ho0⟩ := w2 (edge_ofF hpre 2 rfl) n7
      refine step_callD hio rfl rfl (enters_of Tryz.func59 (by kernel_rfl) rfl) (show Array.map a'.eval #[.tmp 8] = _ from by simp only [List.map_toArray, List.map_cons, List.map_nil, Act.eval, q5]) ((ref_Uint x.r.toNat (by have := hf.2; omega) w').mono ?_)
      rintro e w'' ⟨g, m, c, rfl, ho, hb⟩
      have hW2 : wsBb pb x w.drew (fun j => L j || j == 6) (.tuple #[tupB u 0, .slice (some ⟨g, 0, none⟩) m c, tupB u 2, tupB u 3]) w'' := by
        refine ⟨w1.trans (Below.mono hb w1.size), fun _ _ => ⟨m0, own_below ho0 hb⟩, fun _ _ => ⟨g, m, c, rfl, own_len ho, HasA.of_own ho⟩, fun h => ?_, fun h => ?_⟩
        · have h' : L 7 = true := by simpa using h
          rw [n7] at h'
          cases h'
        · have h' : L 8 = true := by simpa using h
          rw [n8] at h'
          cases h'
      exact ⟨_, rfl, (fin ((.tuple #[tupB u 0, .slice (some ⟨g, 0, none⟩) m c, tupB u 2, tupB u 3])) _ _ (fun _ => rfl) (fun j hj => by
        rcases j with _ | _ | _ | _ | _ | _ | _ | _ | _ | j <;> first | rfl | exact Bool.noConfusion (hj.symm.trans hLi) | exact Bool.noConfusion (hj.symm.trans (not_yetF hcl 30 (by kernel_rfl) hLi))) (hW2))⟩
    · rintro o ho L u a' w' hLi hpre hcl hR hW fin
      have hio := (nthO_eq _ _).symm.trans ho
      cases ho
      have q2 : a'.tmps.getD 5 undef = tupB u 0 := hR.val 2 _ 5 rfl rfl (edge_ofF hpre 2 rfl)
      have q6 : a'.tmps.getD 9 undef = tupB u 1 := hR.val 6 _ 9 rfl rfl (edge_ofF hpre 6 rfl)
      obtain ⟨w1, w2, w3, w4, w5⟩ := hW
      have n8 : L 8 = false := not_yetF hcl 30 (show reachB opsBb 30 8 7 = true by kernel_rfl) hLi
      obtain ⟨i0, hi, hz0, hz1, hz2⟩ := info_parts info5
      obtain ⟨m0, ho0⟩ := w2 (edge_ofF hpre 2 rfl) hLi
      obtain ⟨g, m, c, e5, hm, hA⟩ := w3 (edge_ofF hpre 6 rfl) hLi
      obtain ⟨b, o, eb, _, hc⟩ := hA (vb_ne _)
      cases eb
      have hm0 := own_len ho0
      have hv1 := vb_len10 hx.n
      have hv2 := vb_len10 (show x.r.toNat < 18446744073709551616 by have := hf.2; omega)
      obtain ⟨v', w'', hrun, ho', hg', _, _⟩ := run_append_own_at (P := Tryz.prog) w' w.drew.heap.size 39 39 5 i0 _ 1 1 Tryz.underlying39 hi hz0 hz1 hz2 rfl (by omega) (tupB u 0) m0 ((vb x.n).map enc) ho0 ⟨g, 0, none⟩ m c ((vb x.r.toNat).map enc) (by simp [hm]) (fun j v hj => by
        rw [List.getElem?_map] at hj
        obtain ⟨y, hy, rfl⟩ := Option.map_eq_some_iff.1 hj
        obtain ⟨hl, rfl⟩ := List.getElem?_eq_some_iff.1 hy
        have := hc j hl
        rw [addr_add]
        exact this) (encs_one _) (by rw [hm0, hm]; simp only [maxLen]; omega) (by rw [hm0, hm]; omega) w1.size
      rw [← List.map_append] at ho'
      have q6' := q6.trans e5
      refine step_run hio rfl (by intro c h; cases h) (by simp [Oper.about, resolve, Target.leads, Sem.run_pure]) (v := v') (w' := w'') (by
        unfold execOp
        simp only [resolve, invoke, builtin, Sem.run_bind, Sem.run_pure, Result.andThen_ok, List.map_toArray, List.map_cons, List.map_nil, Act.eval, q2, q6', hrun]) ?_
      have hW2 : wsBb pb x w.drew (fun j => L j || j == 7) (.tuple #[tupB u 0, tupB u 1, v', tupB u 3]) w'' := by
        refine ⟨w1.grown hg' w1.size (fun k e => (ho0.lt k e).1), fun _ h => ?_, fun _ h => ?_, fun _ => ⟨_, ho'⟩, fun h => ?_⟩
        · simp at h
        · simp at h
        · have h' : L 8 = true := by simpa using h
          rw [n8] at h'
          cases h'
      exact (fin ((.tuple #[tupB u 0, tupB u 1, v', tupB u 3])) _ _ (fun _ => rfl) (fun j hj => by
        rcases j with _ | _ | _ | _ | _ | _ | _ | _ | _ | j <;> first | rfl | exact Bool.noConfusion (hj.symm.trans hLi) | exact Bool.noConfusion (hj.symm.trans (not_yetF hcl 30 (by kernel_rfl) hLi))) (hW2))
    · rintro o ho L u a' w' hLi hpre hcl hR hW fin
      have hio := (nthO_eq _ _).symm.trans ho
      cases ho
      have q7 : a'.tmps.getD 10 undef = tupB u 2 := hR.val 7 _ 10 rfl rfl (edge_ofF hpre 7 rfl)
      obtain ⟨w1, w2, w3, w4, w5⟩ := hW
      have h7 := edge_ofF hpre 7 rfl
      have hW2 : wsBb pb x w.drew (fun j => L j || j == 8) (.tuple #[tupB u 0, tupB u 1, tupB u 2, tupB u 2]) w' := by
        refine ⟨w1, fun _ h => ?_, fun _ h => ?_, fun _ => w4 h7, fun _ => w4 h7⟩
        · have h' : L 7 = false := by simpa using h
          rw [h7] at h'
          cases h'
        · have h' : L 7 = false := by simpa using h
          rw [h7] at h'
          cases h'
      exact step_assign hio rfl rfl q7 (fin ((.tuple #[tupB u 0, tupB u 1, tupB u 2, tupB u 2])) _ _ (fun _ => rfl) (fun j hj => by
        rcases j with _ | _ | _ | _ | _ | _ | _ | _ | _ | j <;> first | rfl | exact Bool.noConfusion (hj.symm.trans hLi) | exact Bool.noConfusion (hj.symm.trans (not_yetF hcl 30 (by kernel_rfl) hLi))) (hW2))
  · intro L u w' hl hW
    refine hQ u w' ?_
    unfold wsBb at hW ⊢
    simp only [hl 2 (Nat.le_of_ble_eq_true rfl), hl 6 (Nat.le_of_ble_eq_true rfl), hl 7 (Nat.le_of_ble_eq_true rfl), hl 8 (Nat.le_of_ble_eq_true rfl)] at hW ⊢
    exact hW
noncomputable def opsPt : List Oper := opsOf Tryz.f102 1
set_option maxRecDepth 100000 in
set_option maxHeartbeats 4000000 in
theorem put_r (A : Option Addr) (L c pb : Nat) (bs : List UInt8) (x : BA) (B : Nat)  (a : Act) (w : World) (Q : Exit → Act → World → Prop) (hN : a.tmps.size = 13) (h0 : a.tmps.getD 0 undef = .slice A L c) (h3 : a.tmps.getD 3 undef = .pointer (some ⟨pb, 0, none⟩)) (hp : w.heap[pb]? = some (.cells #[.int .u64 (x.n : Int), .int .i64 x.r] 25 (0, 0))) (hx : x.ok) (hf : x.fit) (hL : L = bs.length) (hlen : bs.length ≤ 900000) (hA : HasA w w.heap.size A bs) (hB : B ≤ w.drew.heap.size) (hQ : ∀ (v8 : Value), ∀ (v12 : Value), ∀ (v4 : Value), ∀ (w' : World), IsB w' v8 (bs ++ vb x.n) → (fun v w => OwB B w v (bs ++ bytesBA x)) v12 w' → (fun v w => OwB B w v (bs ++ bytesBA x)) v4 w' → Grew w w' → Q .normal (puts [(5, .slice A L c), (6, .pointer (some ⟨pb, 0, none⟩)), (7, .int .u64 (x.n : Int)), (8, v8), (9, .pointer (some ⟨pb, 1, none⟩)), (10, .int .i64 x.r), (11, .int .u64 (x.r.toNat : Int)), (12, v12), (4, v4)] a) w')
    : (Code.region 1 opsPt.toArray true).wp Tryz.prog Q a w := by
  refine region_v 13 opsPt [(0, .slice A L c), (3, .pointer (some ⟨pb, 0, none⟩))] [3, 7, 8] [.eq (.slice A L c), .eq (.pointer (some ⟨pb, 0, none⟩)), .eq (.int .u64 (x.n : Int)), .pr fun v w => IsB w v (bs ++ vb x.n), .eq (.pointer (some ⟨pb, 1, none⟩)), .eq (.int .i64 x.r), .eq (.int .u64 (x.r.toNat : Int)), .pr fun v w => OwB B w v (bs ++ bytesBA x), .pr fun v w => OwB B w v (bs ++ bytesBA x)] Grew Grew.refl Grew.trans follows (by kernel_rfl) (by kernel_rfl) hN ⟨h0, h3, trivial⟩ rfl ?_ ?_ ?_ ?_
  · exact ⟨(fun _ _ _ h hg => IsB.grew h hg), (fun _ _ _ h hg => h.grew hg), (fun _ _ _ h hg => h.grew hg), trivial⟩
  · intro _ w' hR _
    exact ⟨fun _ => rfl, fun _ => ob_fld (fdBA _ _ _ (.inl rfl)), fun _ => ob_load (ldB6 _ _ _ ((Below.cell hR.undraw (p := ⟨pb, 0, none⟩) (Array.getElem?_eq_some_iff.1 hp).1).trans (by rw [blk_cell hp 0]; rfl))), trivial, fun _ => ob_fld (fdBA _ _ _ (.inr rfl)), fun _ => ob_load (ldBi _ _ _ ((Below.cell hR.undraw (p := ⟨pb, 1, none⟩) (Array.getElem?_eq_some_iff.1 hp).1).trans (by rw [blk_cell hp 1]; rfl))), fun _ => ob_cv (cvBu _ x hf), trivial, trivial, trivial⟩
  · refine ⟨?_, ?_, ?_, trivial⟩
    · rintro o _ ho hd a' w' hF hR hp
      have hio := (nthO_eq _ _).symm.trans ho
      cases ho
      cases hd
      have q0 : a'.tmps.getD 5 undef = .slice A L c := hp 0 _ 5 rfl rfl rfl
      have q2 : a'.tmps.getD 7 undef = .int .u64 (x.n : Int) := hp 2 _ 7 rfl rfl rfl
      refine step_callD hio rfl rfl (enters_of Tryz.func101 (by kernel_rfl) rfl) (show Array.map a'.eval #[.tmp 5, .tmp 7] = _ from by simp only [List.map_toArray, List.map_cons, List.map_nil, Act.eval, q0, q2]) ((Uint_any A bs L c x.n hL hx.n (by omega) w' (hA.below' hR.undraw)).mono ?_)
      rintro e w'' ⟨g, L2, c2, rfl, ho, hb⟩
      exact ⟨_, rfl, _, rfl, IsB.own ho, hb⟩
    · rintro o _ ho hd a' w' hF hR hp
      have hio := (nthO_eq _ _).symm.trans ho
      cases ho
      cases hd
      have q3 : IsB w' (a'.tmps.getD 8 undef) (bs ++ vb x.n) := hp 3 _ 8 rfl rfl rfl
      have q6 : a'.tmps.getD 11 undef = .int .u64 (x.r.toNat : Int) := hp 6 _ 11 rfl rfl rfl
      obtain ⟨A2, L2, c2, e3, hL2, hA2⟩ := q3
      refine step_callD hio rfl rfl (enters_of Tryz.func101 (by kernel_rfl) rfl) (show Array.map a'.eval #[.tmp 8, .tmp 11] = _ from by simp only [List.map_toArray, List.map_cons, List.map_nil, Act.eval, e3, q6]) ((Uint_any A2 (bs ++ vb x.n) L2 c2 x.r.toNat hL2 (by have := hf.2; omega) (by have := vb_len10 hx.n; simp only [List.length_append]; omega) w' hA2).mono ?_)
      rintro e w'' ⟨g, L3, c3, rfl, ho, hb⟩
      exact ⟨_, rfl, _, rfl, ⟨g, L3, c3, rfl, own_base (by rw [List.append_assoc] at ho; exact ho) (Nat.le_trans hB (Below.size hR))⟩, hb⟩
    · rintro o _ ho hd a' w' hF hR hp
      have hio := (nthO_eq _ _).symm.trans ho
      cases ho
      cases hd
      have q7 : (fun v w => OwB B w v (bs ++ bytesBA x)) (a'.tmps.getD 12 undef) w' := hp 7 _ 12 rfl rfl rfl
      exact step_assign hio rfl rfl rfl ⟨_, rfl, q7, Grew.refl _⟩
  · intro u w' hR h
    exact hQ (u 3) (u 7) (u 8) w' (h 3 (Nat.le_of_ble_eq_true rfl)) (h 7 (Nat.le_of_ble_eq_true rfl)) (h 8 (Nat.le_of_ble_eq_true rfl)) hR.undraw
end Go.Proofs.YtdiihaeelcbjbaaGreatDoor
