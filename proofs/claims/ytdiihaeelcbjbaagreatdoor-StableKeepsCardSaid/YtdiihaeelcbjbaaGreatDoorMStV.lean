/- Two stores side by side. StableKeeps: the statement that draws its order. Rows of acts that a law puts together; the first updates of a store. -/
import Derived.Test.YtdiihaeelcbjbaaGreatDoorMStI
import Derived.Test.YtdiihaeelcbjbaaGreatDoorRg
import Derived.Test.YtdiihaeelcbjbaaGreatDoorMStep
import Derived.Test.YtdiihaeelcbjbaaGreatDoorMStN
import Derived.Test.YtdiihaeelcbjbaaGreatDoorMStS
import Derived.Maps.AppendAt
-- StTw
namespace Go.Proofs.YtdiihaeelcbjbaaGreatDoor
open Go.RowKit

/-- Two stores, each on a disk of its own, that came since w. -/
structure TwoT {P : DiskK} (K : StabK P) (w : World) (R1 B1 R2 B2 : Nat) (d1 d2 : DS) (s1 s2 : SM) (W : World) : Prop where
  ex : ∃ F1 G1 F2 G2, (P.Pl F1 W R1 d1 ∧ K.St G1 W B1 R1 s1 ∧ ∀ k, G1 k → ¬ F1 k) ∧ (P.Pl F2 W R2 d2 ∧ K.St G2 W B2 R2 s2 ∧ ∀ k, G2 k → ¬ F2 k) ∧ (∀ k, F1 k ∨ G1 k → ¬ (F2 k ∨ G2 k)) ∧ ∀ k, (F1 k ∨ G1 k) ∨ (F2 k ∨ G2 k) → w.heap.size ≤ k
  below : Below w.heap.size w W
  ok1 : s1.ok
  ok2 : s2.ok
section
variable {P : DiskK} {K : StabK P} {w V W W' : World} {R1 B1 R2 B2 : Nat} {d1 d2 d1' d2' : DS} {s1 s2 s1' s2' : SM} {Q Q2 : Nat → Prop}
theorem TwoT.swap (h : TwoT K w R1 B1 R2 B2 d1 d2 s1 s2 W) : TwoT K w R2 B2 R1 B1 d2 d1 s2 s1 W := by
  obtain ⟨F1, G1, F2, G2, h1, h2, h3, h4⟩ := h.ex
  exact ⟨⟨F2, G2, F1, G1, h2, h1, fun k hk hk' => h3 k hk' hk, fun k hk => h4 k hk.symm⟩, h.below, h.ok2, h.ok1⟩
theorem TwoT.mk' (hb : LiveT K w R1 B1 d1 s1 Q V) (hw : LiveT K V R2 B2 d2 s2 Q2 W) : TwoT K w R1 B1 R2 B2 d1 d2 s1 s2 W := by
  obtain ⟨F1, G1, a1, a2, a3, a4⟩ := hb.ex
  obtain ⟨F2, G2, b1, b2, b3, b4⟩ := hw.ex
  have og := Only.of_grew (F := fun _ => False) hw.below
  have l1 : ∀ k, F1 k ∨ G1 k → k < V.heap.size := fun k hk => hk.elim (P.lt a1 k) (K.lt a2 k)
  refine ⟨⟨F1, G1, F2, G2, ⟨P.keep a1 og (fun _ _ => id), K.keep a2 og (fun _ _ => id), a3⟩, ⟨b1, b2, b3⟩, fun k hk hk' => ?_, fun k hk => ?_⟩, hb.below.trans (Below.mono hw.below hb.below.size), hb.ok, hw.ok⟩
  · have := l1 k hk
    have := (b4 k hk').1
    omega
  · rcases hk with hk | hk
    · exact (a4 k hk).1
    · exact Nat.le_trans hb.below.size (b4 k hk).1
theorem TwoT.first (h : TwoT K w R1 B1 R2 B2 d1 d2 s1 s2 W) : ∃ Q, LiveT K w R1 B1 d1 s1 Q W ∧ ∀ {d1' : DS} {s1' : SM} {W' : World}, LiveT K w R1 B1 d1' s1' Q W' → (∃ Z, Only Z W W' ∧ ∀ k, Z k → w.heap.size ≤ k ∧ ¬ Q k) → TwoT K w R1 B1 R2 B2 d1' d2 s1' s2 W' := by
  obtain ⟨F1, G1, F2, G2, ⟨a1, a2, a3⟩, ⟨b1, b2, b3⟩, h3, h4⟩ := h.ex
  refine ⟨fun k => F2 k ∨ G2 k, ⟨⟨F1, G1, a1, a2, a3, fun k hk => ⟨h4 k (.inl hk), h3 k hk⟩⟩, h.below, fun k hk => hk.elim (P.lt b1 k) (K.lt b2 k), h.ok1⟩, ?_⟩
  intro d1' s1' W' hl ⟨Z, o, hZ⟩
  obtain ⟨F1', G1', c1, c2, c3, c4⟩ := hl.ex
  exact ⟨⟨F1', G1', F2, G2, ⟨c1, c2, c3⟩, ⟨P.keep b1 o (fun k hk hz => (hZ k hz).2 (.inl hk)), K.keep b2 o (fun k hk hz => (hZ k hz).2 (.inr hk)), b3⟩, fun k hk => (c4 k hk).2, fun k hk => hk.elim (fun h => (c4 k h).1) (fun h => h4 k (.inr h))⟩, hl.below, hl.ok, h.ok2⟩
theorem TwoT.grew (h : TwoT K w R1 B1 R2 B2 d1 d2 s1 s2 W) (hb : Below W.heap.size W W') : TwoT K w R1 B1 R2 B2 d1 d2 s1 s2 W' := by
  obtain ⟨F1, G1, F2, G2, ⟨a1, a2, a3⟩, ⟨b1, b2, b3⟩, h3, h4⟩ := h.ex
  have og := Only.of_grew (F := fun _ => False) hb
  exact ⟨⟨F1, G1, F2, G2, ⟨P.keep a1 og (fun _ _ => id), K.keep a2 og (fun _ _ => id), a3⟩, ⟨P.keep b1 og (fun _ _ => id), K.keep b2 og (fun _ _ => id), b3⟩, h3, h4⟩, h.below.trans (Below.mono hb h.below.size), h.ok1, h.ok2⟩
theorem TwoT.tell (h : TwoT K w R1 B1 R2 B2 d1 d2 s1 s2 W) (hl : s1.vs.length ≤ 1000) : TellS K B1 s1 W := by
  obtain ⟨F1, G1, F2, G2, ⟨a1, a2, a3⟩, _⟩ := h.ex
  exact ⟨⟨G1, R1, a2⟩, h.ok1, hl⟩
/-- A set on the first. -/
theorem TwoT.set (h : TwoT K w R1 B1 R2 B2 d1 d2 s1 s2 W) (hT : Tab w) {a : AcM} (ha : a.ok) (A : Option Addr) (c : Nat) (hc : a.x.length ≤ c) (hx : a.x.length ≤ 1000) (hA : HasA W W.heap.size A a.x) (hv : s1.vs.length ≤ 1000) (hl : d1.A.length ≤ 10000000) :
    Calls Tryz.prog 20 #[.pointer (some ⟨B1, 0, none⟩), a.val A c] W fun e W' => e = .returned (.bool (decide ((s1.on d1 a.um).2 = 0))) ∧ TwoT K w R1 B1 R2 B2 (s1.on d1 a.um).1.1 d2 (s1.on d1 a.um).1.2 s2 W' := by
  obtain ⟨Q, h1, h2⟩ := h.first
  refine (set_any h1 hT ha A c hc hx hA hv hl).mono ?_
  rintro e W' ⟨he, hl, hz⟩
  exact ⟨he, h2 hl hz⟩
/-- Opened once more: what was open stays. -/
theorem LiveT.reopen2 (h : LiveT K w R1 B1 d1 s1 Q W) (hT : Tab w) (hd : d1.dead = false) (ho : (opn d1.A d1.y).2.2 = 0) (hs : ofS (opn d1.A d1.y).1 SM.new = some s2) (hok : s2.ok) (hl : d1.A.length ≤ 100000) : Calls Tryz.prog 13 #[.pointer (some ⟨R1, 0, none⟩)] W fun e W' => ∃ B2 Ga, e = .returned (.tuple #[.pointer (some ⟨B2, 0, none⟩), .int .i64 0]) ∧ K.St Ga W' B1 R1 s1 ∧ LiveT K w R1 B2 d1.opened s2 (fun k => Q k ∨ Ga k) W' ∧ ∃ Z, Only Z W W' ∧ ∀ k, Z k → w.heap.size ≤ k ∧ ¬ Q k := by
  obtain ⟨F, G, h1, h2, h3, h4⟩ := h.ex
  refine (K.opens (hT.grew h.below) h1 hd ho hs hok hl (fun k hk => Nat.lt_of_lt_of_le hT.1 (h4 k (.inl hk)).1)).mono ?_
  rintro e W' ⟨B', F', G', he, k1, k2, k3, k4, k5⟩
  have hst := K.keep h2 k3 h3
  have hlt := K.lt h2
  refine ⟨B', G, he, hst, ⟨⟨F', G', k1, k2, fun k hk => (k5 k hk).2, fun k hk => ?_⟩, h.below.trans (k3.below h.below.size fun k hk => (h4 k (.inl hk)).1), ?_, hok⟩, F, k3, fun k hk => h4 k (.inl hk)⟩
  · have hnew : W.heap.size ≤ k → w.heap.size ≤ k ∧ ¬ (Q k ∨ G k) := fun hk => ⟨Nat.le_trans h.below.size hk, fun hq => hq.elim (fun hq => by have := h.q k hq; omega) (fun hg => by have := hlt k hg; omega)⟩
    rcases hk with hk | hk
    · rcases k4 k hk with h' | h'
      · exact ⟨(h4 k (.inl h')).1, fun hq => hq.elim (h4 k (.inl h')).2 (fun hg => h3 k hg h')⟩
      · exact hnew h'
    · exact hnew (k5 k hk).1
  · rintro k (hk | hk)
    · exact Nat.lt_of_lt_of_le (h.q k hk) k3.size
    · exact Nat.lt_of_lt_of_le (hlt k hk) k3.size
end
/-- Disks without a fuse: what a set comes to hangs on the store alone. -/
theorem on_same {s : SM} {d1 d2 : DS} {u : UM} (hu : u.ok) (h1 : d1.dead = false) (f1 : d1.f = none) (h2 : d2.dead = false) (f2 : d2.f = none) : (s.on d1 u).2 = (s.on d2 u).2 ∧ (s.on d1 u).1.2 = (s.on d2 u).1.2 := by
  by_cases hm : s.may u = 0
  · rw [SM.on_put hm hu h1 f1, SM.on_put hm hu h2 f2]
    exact ⟨rfl, rfl⟩
  · rw [SM.on_not hm, SM.on_not hm]
    exact ⟨rfl, rfl⟩
end Go.Proofs.YtdiihaeelcbjbaaGreatDoor

-- StKpR
namespace Go.Proofs.YtdiihaeelcbjbaaGreatDoor
open Go.RowKit

theorem neqBo (w : World) (r : Bool) : (binOp .neq 4 (.bool r) (.bool r)).run Tryz.prog w = .ok (.bool false) w := by cases r <;> simp [go_sem]
theorem guardBo (op : BinOp) (t : TypeId) (w : World) (x y : Operand) (r s : Bool) : (eqGuard op t x y (.bool r) (.bool s)).run Tryz.prog w = .ok () w := by simp [eqGuard]
theorem ixAk (w : World) (b o L c q : Nat) (h : q < L) : (Instr.indexAt 22 (.slice (some ⟨b, o, none⟩) L c) (.int .i64 (q : Int))).run Tryz.prog w = .ok (.pointer (some ⟨b, o + q * 6, none⟩)) w := by
  have h1 : (0 : Int) ≤ q := by omega
  have h2 : (q : Int) < L := by omega
  simp [go_sem, h1, h2]
/-- An act's cells. -/
def ActAt (w : World) (b o : Nat) (a : AcM) (X : Option Addr) (c : Nat) : Prop := w.cell? ⟨b, o, none⟩ = some (.int .u8 (a.k : Int)) ∧ w.cell? ⟨b, o + 1, none⟩ = some (.int .i64 a.n) ∧ w.cell? ⟨b, o + 2, none⟩ = some (.int .u64 (a.s : Int)) ∧ w.cell? ⟨b, o + 3, none⟩ = some (.int .u64 (a.b.n : Int)) ∧ w.cell? ⟨b, o + 4, none⟩ = some (.int .i64 a.b.r) ∧ w.cell? ⟨b, o + 5, none⟩ = some (.slice X a.x.length c)
theorem ldAk {w : World} {b o : Nat} {a : AcM} {X : Option Addr} {c : Nat} (h : ActAt w b o a X c) : (Instr.loadAt 41 (.pointer (some ⟨b, o, none⟩))).run Tryz.prog w = .ok (.agg #[.int .u8 (a.k : Int), .int .i64 a.n, .int .u64 (a.s : Int), .int .u64 (a.b.n : Int), .int .i64 a.b.r, .slice X a.x.length c]) w := by
  obtain ⟨c0, c1, c2, c3, c4, c5⟩ := h
  exact ldAcM w b o a X c c0 c1 c2 c3 c4 c5
noncomputable def opsKp : List Oper := opsOf Tryz.f4 40
def wsKp (_Bb _Bw _mb _mo _n _c2 _k _c : Nat) (_a0 : AcM) (_X : Option Addr) (_r : Bool) (P0 P1 P2 : World → Prop) (_W0 : World) (L : Nat → Bool) (_u : Value) (w : World) : Prop := (L 5 = false → P0 w) ∧ (L 5 = true → L 11 = false → P1 w) ∧ (L 11 = true → P2 w)
theorem wsKp_same (Bb Bw mb mo n c2 k c : Nat) (a0 : AcM) (X : Option Addr) (r : Bool) (P0 P1 P2 : World → Prop) {W0 : World} {L : Nat → Bool} {i : Nat} {u : Value} {w : World} (k5 : ((5 : Nat) == i) = false) (k11 : ((11 : Nat) == i) = false) (h : wsKp Bb Bw mb mo n c2 k c a0 X r P0 P1 P2 W0 L u w) : wsKp Bb Bw mb mo n c2 k c a0 X r P0 P1 P2 W0 (fun j => L j || j == i) u w := by
  unfold wsKp at h ⊢
  simp only [beq_noF k5, beq_noF k11]
  exact h
theorem wsKp_any (Bb Bw mb mo n c2 k c : Nat) (a0 : AcM) (X : Option Addr) (r : Bool) (P0 P1 P2 : World → Prop) {W0 : World} {L : Nat → Bool} {u : Value} {w : World} (h : wsKp Bb Bw mb mo n c2 k c a0 X r P0 P1 P2 W0 L u w) : P0 w ∨ P1 w ∨ P2 w := by
  obtain ⟨h1, h2, h3⟩ := h
  cases h5 : L 5 with
  | false => exact .inl (h1 h5)
  | true =>
    cases h11 : L 11 with
    | false => exact .inr (.inl (h2 h5 h11))
    | true => exact .inr (.inr (h3 h11))
set_option maxRecDepth 100000 in
set_option maxHeartbeats 4000000 in
theorem keeps_r (Bb Bw mb mo n c2 k c : Nat) (a0 : AcM) (X : Option Addr) (r : Bool) (P0 P1 P2 : World → Prop) (a : Act) (w : World) (Q : Exit → Act → World → Prop) (hN : a.tmps.size = 180) (h1 : a.tmps.getD 1 undef = .slice (some ⟨mb, mo, none⟩) n c2) (h18 : a.tmps.getD 18 undef = .pointer (some ⟨Bb, 0, none⟩)) (h22 : a.tmps.getD 22 undef = .pointer (some ⟨Bw, 0, none⟩)) (h24 : a.tmps.getD 24 undef = .int .i64 (k : Int)) (hk : k < n) (hrow : ∀ w', (P0 w' ∨ P1 w' ∨ P2 w') → ActAt w' mb (mo + k * 6) a0 X c) (h5c : ∀ w', P0 w' → Calls Tryz.prog 20 #[.pointer (some ⟨Bb, 0, none⟩), .agg #[.int .u8 (a0.k : Int), .int .i64 a0.n, .int .u64 (a0.s : Int), .int .u64 (a0.b.n : Int), .int .i64 a0.b.r, .slice X a0.x.length c]] w' fun e W' => e = .returned (.bool r) ∧ P1 W') (h11c : ∀ w', P1 w' → Calls Tryz.prog 20 #[.pointer (some ⟨Bw, 0, none⟩), .agg #[.int .u8 (a0.k : Int), .int .i64 a0.n, .int .u64 (a0.s : Int), .int .u64 (a0.b.n : Int), .int .i64 a0.b.r, .slice X a0.x.length c]] w' fun e W' => e = .returned (.bool r) ∧ P2 W') (h16c : ∀ w', P2 w' → Calls Tryz.prog 24 #[.pointer (some ⟨Bb, 0, none⟩), .pointer (some ⟨Bw, 0, none⟩)] w' fun e W' => e = .returned (.bool true) ∧ P2 W') (hW0 : wsKp Bb Bw mb mo n c2 k c a0 X r P0 P1 P2 w.drew (fun _ => false) undef w.drew) (hQ : ∀ (u : Value) w', wsKp Bb Bw mb mo n c2 k c a0 X r P0 P1 P2 w.drew (fun _ => true) u w' → Q .normal (puts [(160, .pointer (some ⟨Bb, 0, none⟩)), (161, .slice (some ⟨mb, mo, none⟩) n c2), (162, .int .i64 (k : Int)), (163, .pointer (some ⟨mb, mo + k * 6, none⟩)), (164, .agg #[.int .u8 (a0.k : Int), .int .i64 a0.n, .int .u64 (a0.s : Int), .int .u64 (a0.b.n : Int), .int .i64 a0.b.r, .slice X a0.x.length c]), (165, .bool r), (166, .pointer (some ⟨Bw, 0, none⟩)), (167, .slice (some ⟨mb, mo, none⟩) n c2), (168, .int .i64 (k : Int)), (169, .pointer (some ⟨mb, mo + k * 6, none⟩)), (170, .agg #[.int .u8 (a0.k : Int), .int .i64 a0.n, .int .u64 (a0.s : Int), .int .u64 (a0.b.n : Int), .int .i64 a0.b.r, .slice X a0.x.length c]), (171, .bool r), (172, .bool false), (173, .bool false), (174, .pointer (some ⟨Bb, 0, none⟩)), (175, .pointer (some ⟨Bw, 0, none⟩)), (176, .bool true), (177, .bool false), (178, .bool false)] a) w')
    : (Code.region 40 opsKp.toArray true).wp Tryz.prog Q a w := by
  refine region_c (U := Value) 180 opsKp [(1, .slice (some ⟨mb, mo, none⟩) n c2), (18, .pointer (some ⟨Bb, 0, none⟩)), (22, .pointer (some ⟨Bw, 0, none⟩)), (24, .int .i64 (k : Int))] [5, 11, 16] (fun _ => [.pointer (some ⟨Bb, 0, none⟩), .slice (some ⟨mb, mo, none⟩) n c2, .int .i64 (k : Int), .pointer (some ⟨mb, mo + k * 6, none⟩), .agg #[.int .u8 (a0.k : Int), .int .i64 a0.n, .int .u64 (a0.s : Int), .int .u64 (a0.b.n : Int), .int .i64 a0.b.r, .slice X a0.x.length c], .bool r, .pointer (some ⟨Bw, 0, none⟩), .slice (some ⟨mb, mo, none⟩) n c2, .int .i64 (k : Int), .pointer (some ⟨mb, mo + k * 6, none⟩), .agg #[.int .u8 (a0.k : Int), .int .i64 a0.n, .int .u64 (a0.s : Int), .int .u64 (a0.b.n : Int), .int .i64 a0.b.r, .slice X a0.x.length c], .bool r, .bool false, .bool false, .pointer (some ⟨Bb, 0, none⟩), .pointer (some ⟨Bw, 0, none⟩), .bool true, .bool false, .bool false]) (wsKp Bb Bw mb mo n c2 k c a0 X r P0 P1 P2 w.drew) undef follows (by kernel_rfl) hN ⟨h1, h18, h22, h24, trivial⟩ (fun _ => Nat.le_of_ble_eq_true rfl) hW0 (fun _ _ _ _ hi h => wsKp_same _ _ _ _ _ _ _ _ _ _ _ _ _ _ (key_ne hi rfl) (key_ne hi rfl) h) ?_ ?_ ?_
  · intro L u w' hW _
    exact ⟨fun _ => rfl, fun _ => rfl, fun _ => rfl, fun _ => ob_idx (ixAk _ _ _ _ _ _ hk), fun _ => ob_load (ldAk (hrow _ (wsKp_any _ _ _ _ _ _ _ _ _ _ _ _ _ _ hW))), trivial, fun _ => rfl, fun _ => rfl, fun _ => rfl, fun _ => ob_idx (ixAk _ _ _ _ _ _ hk), fun _ => ob_load (ldAk (hrow _ (wsKp_any _ _ _ _ _ _ _ _ _ _ _ _ _ _ hW))), trivial, fun _ => ob_bin (guardBo _ _ _ _ _ _ _) (neqBo _ _), fun _ => rfl, fun _ => rfl, fun _ => rfl, trivial, fun _ => ob_un (run_not _ _), fun _ => ob_pick rfl rfl, trivial⟩
  · refine ⟨?_, ?_, ?_, trivial⟩
    · rintro o ho L u a' w' hLi hpre hcl hR hW fin
      have hio := (nthO_eq _ _).symm.trans ho
      cases ho
      have q0 : a'.tmps.getD 160 undef = .pointer (some ⟨Bb, 0, none⟩) := hR.val 0 _ 160 rfl rfl (edge_ofF hpre 0 rfl)
      have q4 : a'.tmps.getD 164 undef = .agg #[.int .u8 (a0.k : Int), .int .i64 a0.n, .int .u64 (a0.s : Int), .int .u64 (a0.b.n : Int), .int .i64 a0.b.r, .slice X a0.x.length c] := hR.val 4 _ 164 rfl rfl (edge_ofF hpre 4 rfl)
      obtain ⟨w1, w2, w3⟩ := hW
      have n11 : L 11 = false := not_yetF hcl 30 (show reachB opsKp 30 11 5 = true by kernel_rfl) hLi
      refine step_callD hio rfl rfl (enters_of Tryz.func20 (by kernel_rfl) rfl) (show Array.map a'.eval #[.tmp 160, .tmp 164] = _ from by simp only [List.map_toArray, List.map_cons, List.map_nil, Act.eval, q0, q4]) ((h5c w' (w1 hLi)).mono ?_)
      rintro e w'' ⟨rfl, hb⟩
      have hW2 : wsKp Bb Bw mb mo n c2 k c a0 X r P0 P1 P2 w.drew (fun j => L j || j == 5) u w'' := by
        refine ⟨fun h => ?_, fun _ _ => hb, fun h => ?_⟩
        · simp at h
        · have h' : L 11 = true := by simpa using h
          rw [n11] at h'
          cases h'
      exact ⟨_, rfl, (fin (u) (.bool r) _ (fun _ => rfl) (fun _ _ => rfl) (hW2))⟩
    · rintro o ho L u a' w' hLi hpre hcl hR hW fin
      have hio := (nthO_eq _ _).symm.trans ho
      cases ho
      have q6 : a'.tmps.getD 166 undef = .pointer (some ⟨Bw, 0, none⟩) := hR.val 6 _ 166 rfl rfl (edge_ofF hpre 6 rfl)
      have q10 : a'.tmps.getD 170 undef = .agg #[.int .u8 (a0.k : Int), .int .i64 a0.n, .int .u64 (a0.s : Int), .int .u64 (a0.b.n : Int), .int .i64 a0.b.r, .slice X a0.x.length c] := hR.val 10 _ 170 rfl rfl (edge_ofF hpre 10 rfl)
      obtain ⟨w1, w2, w3⟩ := hW
      have y5 : L 5 = true := edge_ofF hpre 5 rfl
      refine step_callD hio rfl rfl (enters_of Tryz.func20 (by kernel_rfl) rfl) (show Array.map a'.eval #[.tmp 166, .tmp 170] = _ from by simp only [List.map_toArray, List.map_cons, List.map_nil, Act.eval, q6, q10]) ((h11c w' (w2 y5 hLi)).mono ?_)
      rintro e w'' ⟨rfl, hb⟩
      have hW2 : wsKp Bb Bw mb mo n c2 k c a0 X r P0 P1 P2 w.drew (fun j => L j || j == 11) u w'' := by
        refine ⟨fun h => ?_, fun _ h => ?_, fun _ => hb⟩
        · have h' : L 5 = false := by simpa using h
          rw [y5] at h'
          cases h'
        · simp at h
      exact ⟨_, rfl, (fin (u) (.bool r) _ (fun _ => rfl) (fun _ _ => rfl) (hW2))⟩
    · rintro o ho L u a' w' hLi hpre hcl hR hW fin
      have hio := (nthO_eq _ _).symm.trans ho
      cases ho
      have q13 : a'.tmps.getD 173 undef = .bool false := hR.val 13 _ 173 rfl rfl (edge_ofF hpre 13 rfl)
      have q14 : a'.tmps.getD 174 undef = .pointer (some ⟨Bb, 0, none⟩) := hR.val 14 _ 174 rfl rfl (edge_ofF hpre 14 rfl)
      have q15 : a'.tmps.getD 175 undef = .pointer (some ⟨Bw, 0, none⟩) := hR.val 15 _ 175 rfl rfl (edge_ofF hpre 15 rfl)
      obtain ⟨w1, w2, w3⟩ := hW
      have y13 : L 13 = true := edge_ofF hpre 13 rfl
      have y11 : L 11 = true := by
        cases h : L 11 with
        | true => rfl
        | false =>
          have := not_yetF hcl 30 (show reachB opsKp 30 13 11 = true by kernel_rfl) h
          rw [y13] at this
          cases this
      refine step_callD hio (wanted_on rfl (show opsKp.toArray[13]? = some _ from rfl) rfl q13) rfl (enters_of Tryz.func24 (by kernel_rfl) rfl) (show Array.map a'.eval #[.tmp 174, .tmp 175] = _ from by simp only [List.map_toArray, List.map_cons, List.map_nil, Act.eval, q14, q15]) ((h16c w' (w3 y11)).mono ?_)
      rintro e w'' ⟨rfl, hb⟩
      have hW2 : wsKp Bb Bw mb mo n c2 k c a0 X r P0 P1 P2 w.drew (fun j => L j || j == 16) u w'' := by
        refine ⟨fun h => ?_, fun _ h => ?_, fun _ => hb⟩
        · have h' : L 5 = false := by simpa using h
          have := not_yetF hcl 30 (show reachB opsKp 30 11 5 = true by kernel_rfl) h'
          rw [y11] at this
          cases this
        · have h' : L 11 = false := by simpa using h
          rw [y11] at h'
          cases h'
      exact ⟨_, rfl, (fin (u) (.bool true) _ (fun _ => rfl) (fun _ _ => rfl) (hW2))⟩
  · intro L u w' hl hW
    refine hQ u w' ?_
    unfold wsKp at hW ⊢
    simp only [hl 5 (Nat.le_of_ble_eq_true rfl), hl 11 (Nat.le_of_ble_eq_true rfl)] at hW ⊢
    exact hW
end Go.Proofs.YtdiihaeelcbjbaaGreatDoor

-- StAr
namespace Go.Proofs.YtdiihaeelcbjbaaGreatDoor
open Go.RowKit

def cellsAR (l : List AcR) : List Value := l.flatMap AcR.cells
theorem cellsAR_one (l : List AcR) : ∀ u ∈ cellsAR l, u.oneCell' = true := by
  intro u hu
  obtain ⟨a, _, ha⟩ := List.mem_flatMap.1 hu
  simp [AcR.cells] at ha
  rcases ha with rfl | rfl | rfl | rfl | rfl | rfl <;> rfl
theorem cellsAR_get : ∀ {l : List AcR} {j i : Nat} (h : j < l.length), i < 6 → (cellsAR l)[j * 6 + i]? = (l[j].cells)[i]?
  | a :: l, 0, i, _, hi => by
    show (a.cells ++ cellsAR l)[0 * 6 + i]? = _
    rw [Nat.zero_mul, Nat.zero_add, List.getElem?_append_left (by simp [AcR.cells]; exact hi)]
    rfl
  | a :: l, j + 1, i, h, hi => by
    show (a.cells ++ cellsAR l)[(j + 1) * 6 + i]? = _
    rw [List.getElem?_append_right (by simp [AcR.cells]; omega)]
    have := cellsAR_get (l := l) (j := j) (i := i) (by simpa using h) hi
    simpa [AcR.cells, show (j + 1) * 6 + i - 6 = j * 6 + i by omega] using this
def OwnAR (base : Nat) (w : World) (y : Value) (l : List AcR) : Prop := w.ownsRow base 41 6 y l.length (cellsAR l)
section
variable {base : Nat} {w w' : World} {y : Value} {l : List AcR}
theorem OwnAR.nil (base : Nat) (w : World) : OwnAR base w (.slice none 0 0) [] := World.ownsRow_nil _ _ _ _
theorem OwnAR.form (h : OwnAR base w y l) : ∃ A c, y = .slice A l.length c := by
  rcases h.2 with ⟨rfl, h0⟩ | ⟨g, cap, cur, rfl, _⟩
  · exact ⟨none, 0, by rw [h0]⟩
  · exact ⟨_, _, rfl⟩
theorem OwnAR.only {Z : Nat → Prop} (h : OwnAR base w y l) (o : Only Z w w') (hz : ∀ k, y.ownBlock = some k → ¬ Z k) : OwnAR base w' y l := by
  obtain ⟨hl, hr⟩ := h
  refine ⟨hl, hr.imp id ?_⟩
  rintro ⟨g, cap, cur, rfl, hb, hg, h3⟩
  exact ⟨g, cap, cur, rfl, hb, (o.block g (Array.getElem?_eq_some_iff.1 hg).1 (hz g rfl)).trans hg, h3⟩
theorem OwnAR.below (h : OwnAR base w y l) (hb : Below w.heap.size w w') : OwnAR base w' y l := h.only (Only.of_grew (F := fun _ => False) hb) fun _ _ => id
theorem OwnAR.lt (h : OwnAR base w y l) : ∀ k, y.ownBlock = some k → base ≤ k ∧ k < w.heap.size := fun k e => by
  rcases h.2 with ⟨rfl, _⟩ | ⟨g, cap, cur, rfl, hb, hg, _⟩
  · cases e
  · cases e; exact ⟨hb, (Array.getElem?_eq_some_iff.1 hg).1⟩
/-- An act of the row, as it lies. -/
theorem OwnAR.at {g c n : Nat} (h : OwnAR base w (.slice (some ⟨g, 0, none⟩) n c) l) {j : Nat} (hj : j < l.length) : g < w.heap.size ∧ ActAt w g (0 + j * 6) l[j].a l[j].X l[j].c := by
  have hg := (h.lt g rfl).2
  have at' : ∀ i v, i < 6 → (l[j].cells)[i]? = some v → w.cell? ⟨g, 0 + j * 6 + i, none⟩ = some v := fun i v hi hv => by
    have := World.ownsRow.cells h (g := g) rfl (j * 6 + i) v ((cellsAR_get hj hi).trans hv)
    rw [addr_add] at this
    rw [Nat.add_assoc]
    exact this
  exact ⟨hg, at' 0 _ (by decide) rfl, at' 1 _ (by decide) rfl, at' 2 _ (by decide) rfl, at' 3 _ (by decide) rfl, at' 4 _ (by decide) rfl, at' 5 _ (by decide) rfl⟩
theorem OwnAR.head {A : Option Addr} {n c : Nat} (h : OwnAR base w (.slice A n c) l) (hl : l ≠ []) : ∃ g, A = some ⟨g, 0, none⟩ := by
  rcases h.2 with ⟨_, h0⟩ | ⟨g, cap, cur, e, _⟩
  · exact absurd (List.eq_nil_of_length_eq_zero h0) hl
  · cases e
    exact ⟨g, rfl⟩
end
theorem infoAc : (Tryz.prog.info? 41).map (fun i => (i.zero, i.size, i.bytes)) = some (some (.agg #[.int .u8 0, .int .i64 0, .int .u64 0, .int .u64 0, .int .i64 0, .slice none 0 0]), 6, 64) := by kernel_rfl
theorem infoAc_parts : ∃ i, Tryz.prog.info? 41 = some i ∧ i.zero = some (.agg #[.int .u8 0, .int .i64 0, .int .u64 0, .int .u64 0, .int .i64 0, .slice none 0 0]) ∧ i.size = 6 ∧ i.bytes = 64 := by
  have h := infoAc
  cases hi : Tryz.prog.info? 41 with
  | none => rw [hi] at h; cases h
  | some i => rw [hi] at h; simp at h; exact ⟨i, rfl, h.1, h.2.1, h.2.2⟩
/-- An append of an act. -/
theorem wpList_append_AR {ops : Array Oper} {rest : List Oper} {o : Oper} {a : Act} {w : World} {Q : Exit → Act → World → Prop} (hgd : o.guard = none) (s x : Operand)
    (ho : o.op = .call { callee := .builtin .append, args := #[s, x], argTypes := #[22, 22] }) (base : Nat) (v : Value) (l : List AcR) (hs : a.eval s = v) (hown : OwnAR base w v l)
    (p c : Nat) (e : AcR) (hx : a.eval x = .slice (some ⟨p, 0, none⟩) 1 c) (hat : ActAt w p 0 e.a e.X e.c) (hlen : l.length + 1 ≤ 1000000) (hbase : base ≤ w.heap.size)
    (h : ∀ v' w', OwnAR base w' v' (l ++ [e]) → w.grownBy w' v.ownBlock → (∀ k, v'.ownBlock = some k → v.ownBlock = some k ∨ w.heap.size ≤ k) → wpList Tryz.prog ops Q rest (a.put o.dst v') w') : wpList Tryz.prog ops Q (o :: rest) a w := by
  obtain ⟨i, hi, hz, hsz, hby⟩ := infoAc_parts
  obtain ⟨h0, h1, h2, h3, h4, h5⟩ := hat
  refine wpList_append_own_at w hgd s x 22 ho base 41 i _ 6 64 Tryz.underlying22 hi hz hsz hby rfl (by omega) v l.length (cellsAR l) hs hown ⟨p, 0, none⟩ 1 c (cellsAR [e]) hx rfl (fun j u hj => ?_) (cellsAR_one [e]) (by simp only [maxLen]; omega) (by omega) hbase ?_
  · rw [addr_add, Nat.zero_add]
    match j, hj with
    | 0, hj => cases hj; exact h0
    | 1, hj => cases hj; exact h1
    | 2, hj => cases hj; exact h2
    | 3, hj => cases hj; exact h3
    | 4, hj => cases hj; exact h4
    | 5, hj => cases hj; exact h5
    | j + 6, hj => simp [cellsAR, AcR.cells] at hj
  · intro v' w' g1 g2 g3 g4
    refine h v' w' ?_ g2 ?_
    · unfold OwnAR
      rw [show cellsAR (l ++ [e]) = cellsAR l ++ cellsAR [e] by simp [cellsAR], List.length_append]
      exact g1
    · intro k hk
      rcases g4 with e | e
      · exact .inl (by rw [← e]; exact hk)
      · rw [e] at hk
        cases hk
        exact .inr (Nat.le_refl _)
/-! The first updates. -/
def ums (us : List AcR) : List UM := us.map fun e => e.a.um
theorem ums_take (us : List AcR) (n : Nat) : ums (us.take n) = (ums us).take n := by unfold ums; rw [List.map_take]
theorem fold_len : ∀ (l : List UM) (s : SM), (l.foldl SM.upd s).vs.length ≤ s.vs.length + l.length
  | [], s => Nat.le_refl _
  | u :: l, s => by
    have h1 := fold_len l (s.upd u)
    have h2 := upd_len s u
    rw [List.foldl_cons, List.length_cons]
    omega
/-- A store behind the sets that were done, and the row that keeps them. -/
structure KpI {P : DiskK} (K : StabK P) (w : World) (R B : Nat) (i : Nat) (us : List AcR) (sure : Nat) (y : Value) (W : World) : Prop where
  live : LiveT K w R B (dW (ums us) (dW ((ums us).take sure) 0).A.length) ((ums us).foldl SM.upd SM.new) (fun k => y.ownBlock = some k) W
  row : OwnAR w.heap.size W y us
  each : ∀ e ∈ us, e.a.ok ∧ e.a.x.length ≤ 200 ∧ e.a.x.length ≤ e.c ∧ HasA w w.heap.size e.X e.a.x
  chain : Chain (ums us) SM.new
  len : us.length ≤ i
  sure : sure ≤ us.length
section
variable {P : DiskK} {K : StabK P} {w W W' : World} {R B i sure : Nat} {us : List AcR} {y : Value}
theorem ums_x {us : List AcR} (h : ∀ e ∈ us, e.a.ok ∧ e.a.x.length ≤ 200 ∧ e.a.x.length ≤ e.c ∧ HasA w w.heap.size e.X e.a.x) : ∀ u ∈ ums us, u.x.length ≤ 200 := by
  intro u hu
  obtain ⟨e, he, rfl⟩ := List.mem_map.1 hu
  exact Nat.le_trans (um_x e.a) (h e he).2.1
theorem KpI.alen (h : KpI K w R B i us sure y W) (hi : i ≤ 40) : (frms ((ums us).map bytesUM)).length ≤ 10800 := by
  have h1 := frms_len (ums us) 200 (fun u hu => h.chain.mem u hu) (ums_x h.each)
  have h2 : (ums us).length ≤ 40 := by
    have := h.len
    unfold ums
    rw [List.length_map]
    omega
  have h3 : (200 + 70) * (ums us).length ≤ (200 + 70) * 40 := Nat.mul_le_mul_left _ h2
  omega
theorem KpI.vlen (h : KpI K w R B i us sure y W) (hi : i ≤ 40) : ((ums us).foldl SM.upd SM.new).vs.length ≤ 40 := by
  have h1 := fold_len (ums us) SM.new
  have h2 : SM.new.vs.length = 0 := rfl
  have h3 : (ums us).length = us.length := by unfold ums; rw [List.length_map]
  have := h.len
  omega
theorem KpI.grew (h : KpI K w R B i us sure y W) (hb : Below W.heap.size W W') : KpI K w R B i us sure y W' := ⟨h.live.grew hb, h.row.below hb, h.each, h.chain, h.len, h.sure⟩
theorem KpI.next (h : KpI K w R B i us sure y W) : KpI K w R B (i + 1) us sure y W := ⟨h.live, h.row, h.each, h.chain, Nat.le_succ_of_le h.len, h.sure⟩
/-- What is synced. -/
theorem KpI.sync (h : KpI K w R B i us sure y W) : Calls Tryz.prog 14 #[.pointer (some ⟨B, 0, none⟩)] W fun e W' => e = .returned (.int .i64 0) ∧ KpI K w R B i us us.length y W' := by
  refine h.live.sync.mono ?_
  rintro e W' ⟨he, hl, Z, o, hZ⟩
  refine ⟨he, ?_, h.row.only o fun k hk hz => (hZ k hz).2 hk, h.each, h.chain, h.len, Nat.le_refl _⟩
  have e1 : (ums us).take us.length = ums us := List.take_of_length_le (by unfold ums; rw [List.length_map]; exact Nat.le_refl _)
  rw [e1]
  exact hl
theorem KpI.new (h : LiveT K w R B (dW [] 0) SM.new (fun _ => False) W) : KpI K w R B 0 [] 0 (.slice none 0 0) W :=
  ⟨h.less (fun _ hk => by cases hk), OwnAR.nil _ _, (fun _ h => by cases h), trivial, Nat.le_refl _, Nat.le_refl _⟩
/-- A set: not done. -/
theorem KpI.set (h : KpI K w R B i us sure y W) (hi : i ≤ 40) (hT : Tab w) {a : AcM} (ha : a.ok) (A : Option Addr) (c : Nat) (hc : a.x.length ≤ c) (hx : a.x.length ≤ 200) (hA : HasA w w.heap.size A a.x) :
    Calls Tryz.prog 20 #[.pointer (some ⟨B, 0, none⟩), a.val A c] W fun e W' => ∃ is : Bool, e = .returned (.bool is) ∧ OwnAR w.heap.size W' y us ∧ (is = false → KpI K w R B i us sure y W') ∧ (is = true → (((ums us).foldl SM.upd SM.new).may a.um = 0 ∧ LiveT K w R B (dW (ums us ++ [a.um]) (dW ((ums us).take sure) 0).A.length) (((ums us).foldl SM.upd SM.new).upd a.um) (fun k => y.ownBlock = some k) W')) := by
  have hal := h.alen hi
  have hvl := h.vlen hi
  refine (set_any h.live hT ha A c hc (by omega) (hA.below' h.live.below) (by omega) (show (frms ((ums us).map bytesUM)).length ≤ 10000000 by omega)).mono ?_
  rintro e W' ⟨he, hl, Z, o, hZ⟩
  have hrow := h.row.only o fun k hk hz => (hZ k hz).2 hk
  by_cases hm : ((ums us).foldl SM.upd SM.new).may a.um = 0
  · rw [on_dW hm (AcM.um_ok ha (by omega))] at he hl
    exact ⟨true, he, hrow, (fun h => by cases h), fun _ => ⟨hm, hl⟩⟩
  · rw [SM.on_not hm] at he hl
    exact ⟨false, by rw [he]; simp [hm], hrow, fun _ => ⟨hl, hrow, h.each, h.chain, h.len, h.sure⟩, (fun h => by cases h)⟩
/-- A row that is protected is appended to. -/
theorem LiveT.app {d : DS} {s : SM} {v v' : Value} (h : LiveT K w R B d s (fun k => v.ownBlock = some k) W) (hg : W.grownBy W' v.ownBlock) (hv : ∀ k, v.ownBlock = some k → w.heap.size ≤ k) (hn : ∀ k, v'.ownBlock = some k → v.ownBlock = some k ∨ W.heap.size ≤ k) (hl : ∀ k, v'.ownBlock = some k → k < W'.heap.size) : LiveT K w R B d s (fun k => v'.ownBlock = some k) W' := by
  obtain ⟨F, G, h1, h2, h3, h4⟩ := h.ex
  have o : Only (fun k => v.ownBlock = some k) W W' := Only.of_grown hg fun k hk => hk
  refine ⟨⟨F, G, P.keep h1 o (fun k hk => (h4 k (.inl hk)).2), K.keep h2 o (fun k hk => (h4 k (.inr hk)).2), h3, fun k hk => ⟨(h4 k hk).1, fun hq => ?_⟩⟩, h.below.trans (o.below h.below.size hv), hl, h.ok⟩
  rcases hn k hq with e | e
  · exact (h4 k hk).2 e
  · have : k < W.heap.size := hk.elim (P.lt h1 k) (K.lt h2 k)
    omega
end
end Go.Proofs.YtdiihaeelcbjbaaGreatDoor
