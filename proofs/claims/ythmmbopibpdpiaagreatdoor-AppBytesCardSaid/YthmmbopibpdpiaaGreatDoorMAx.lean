/- What the walk of AppBytes asks of the program's package app; an application is its pairs, its table's entries and its count. What the known commands of the law's wakes come to. The law's wakes on applications: commands that are known. AppBytes: the statement that holds all, whatever its order of evaluation. AppBytes' walk. -/
import Derived.Test.YthmmbopibpdpiaaGreatDoorMKvM
import Derived.Test.YthmmbopibpdpiaaGreatDoorMSs
import Derived.Deep.DeepCutAuto
import Derived.Laws.StructEq
import Derived.Laws.Cover2
import Derived.Test.YthmmbopibpdpiaaGreatDoorMStep
-- AxK
namespace Go.Proofs.YthmmbopibpdpiaaGreatDoor
open Go.RowKit

/-- An application. -/
structure AM where
  ps : List PV
  ss : List SE
  n : Nat
/-- What a command does to an application: it, the reply, whether the command was fresh. -/
noncomputable def doA (a : AM) (m : CM) : AM × (Nat × ByteArray) × Bool :=
  if m.cl = 0 then (a, (2, ⟨#[]⟩), false)
  else if (tellS a.ss m.cl m.sq).2 = 0 then (⟨(doP a.ps m).1, keepS a.ss m.cl m.sq (doP a.ps m).2.1 (doP a.ps m).2.2, a.n + 1⟩, (doP a.ps m).2, true)
  else (a, (tellS a.ss m.cl m.sq).1, false)
def bytesA (a : AM) : List UInt8 := vb a.n ++ bytesP a.ps ++ bytesSS a.ss
/-- Within the limits of a walk. -/
structure LimA (a : AM) : Prop where
  p : LimP a.ps
  s : LimB 100000 a.ss
  n : a.n ≤ 1000000
/-- What Of comes to: n the error. -/
structure OfR (bs : List UInt8) (a : AM) (n : Nat) : Prop where
  ok : n = 0 → bs = bytesA a ∧ LimP a.ps ∧ LimB 100000 a.ss
  no : n ≠ 0 → n = 10 ∨ n = 11
/-- The program's package app; T tells what the program's own tables hold. -/
structure AppK (T : World → Prop) where
  grew : ∀ {w w' : World}, T w → Below w.heap.size w w' → T w'
  Pl : (Nat → Prop) → World → Nat → AM → Prop
  keep : ∀ {F G : Nat → Prop} {w w' : World} {R : Nat} {a : AM}, Pl F w R a → Only G w w' → (∀ k, F k → ¬ G k) → Pl F w' R a
  lt : ∀ {F : Nat → Prop} {w : World} {R : Nat} {a : AM}, Pl F w R a → ∀ k, F k → k < w.heap.size
  new : ∀ (w : World), T w → Calls Tryz.prog 7 #[] w fun e W' => ∃ F R, e = .returned (.pointer (some ⟨R, 0, none⟩)) ∧ Pl F W' R ⟨[], [], 0⟩ ∧ (∀ k, F k → w.heap.size ≤ k) ∧ Below w.heap.size w W'
  do_ : ∀ {F : Nat → Prop} {w : World} {R : Nat} {a : AM} (v : CmdV), Pl F w R a → T w → LimA a → v.ok w → ¬ v.great → Calls Tryz.prog 8 #[.pointer (some ⟨R, 0, none⟩), v.val] w fun e W' => e = .returned (.tuple #[ReplyV (doA a v.m).2.1, .bool (doA a v.m).2.2]) ∧ ∃ F', Pl F' W' R (doA a v.m).1 ∧ Only F w W' ∧ ∀ k, F' k → F k ∨ w.heap.size ≤ k
  count : ∀ {F : Nat → Prop} {w : World} {R : Nat} {a : AM}, Pl F w R a → Calls Tryz.prog 9 #[.pointer (some ⟨R, 0, none⟩)] w fun e W' => e = .returned (.int .u64 (a.n : Int)) ∧ Below w.heap.size w W'
  bytes : ∀ {F : Nat → Prop} {w : World} {R : Nat} {a : AM}, Pl F w R a → T w → (bytesA a).length ≤ 3000 → LimP a.ps → LimB 100000 a.ss → Calls Tryz.prog 6 #[.pointer (some ⟨R, 0, none⟩)] w fun e W' => ∃ v n, e = .returned v ∧ W'.ownsRow w.heap.size 5 1 v n ((bytesA a).map enc) ∧ Below w.heap.size w W'
  of : ∀ (A : Option Addr) (L c : Nat) (bs : List UInt8) (w : World), T w → L = bs.length → L ≤ 3000 → HasA w w.heap.size A bs → Calls Tryz.prog 5 #[.slice A L c] w fun e W' => ∃ (n : Nat) (a : AM), OfR bs a n ∧ Below w.heap.size w W' ∧
    ((n = 0 ∧ ∃ F S, e = .returned (.tuple #[.pointer (some ⟨S, 0, none⟩), .int .i64 0]) ∧ Pl F W' S a ∧ ∀ k, F k → w.heap.size ≤ k) ∨ (n ≠ 0 ∧ e = .returned (.tuple #[.pointer none, .int .i64 (n : Int)])))
/-- An application that came since w, and blocks P that its calls leave. -/
structure LiveX {T : World → Prop} (K : AppK T) (w : World) (R : Nat) (a : AM) (P : Nat → Prop) (W : World) : Prop where
  ex : ∃ F, K.Pl F W R a ∧ ∀ k, F k → w.heap.size ≤ k ∧ ¬ P k
  below : Below w.heap.size w W
  p : ∀ k, P k → k < W.heap.size
section
variable {T : World → Prop} {K : AppK T} {w W W' : World} {R : Nat} {a : AM} {P : Nat → Prop}
theorem LiveX.t (h : LiveX K w R a P W) (hT : T w) : T W := K.grew hT h.below
theorem LiveX.grew (h : LiveX K w R a P W) (hb : Below W.heap.size W W') : LiveX K w R a P W' := by
  obtain ⟨F, h1, h2⟩ := h.ex
  exact ⟨⟨F, K.keep h1 (Only.of_grew (F := fun _ => False) hb) (fun _ _ => id), h2⟩, h.below.trans (Below.mono hb h.below.size), fun k hk => Nat.lt_of_lt_of_le (h.p k hk) hb.size⟩
/-- A block that came since is left too, from now on. -/
theorem LiveX.more (h : LiveX K w R a P W) (hb : Below W.heap.size W W') {q : Nat} (h1 : W.heap.size ≤ q) (h2 : q < W'.heap.size) : LiveX K w R a (fun k => k = q ∨ P k) W' := by
  obtain ⟨F, k1, k2⟩ := h.ex
  have hF : ∀ k, F k → k < W.heap.size := K.lt k1
  refine ⟨⟨F, K.keep k1 (Only.of_grew (F := fun _ => False) hb) (fun _ _ => id), fun k hk => ⟨(k2 k hk).1, ?_⟩⟩, h.below.trans (Below.mono hb h.below.size), ?_⟩
  · rintro (rfl | h')
    · have := hF _ hk; omega
    · exact (k2 k hk).2 h'
  · rintro k (rfl | h')
    · exact h2
    · exact Nat.lt_of_lt_of_le (h.p k h') hb.size
theorem LiveX.new (K : AppK T) (w : World) (hT : T w) : Calls Tryz.prog 7 #[] w fun e W' => ∃ R, e = .returned (.pointer (some ⟨R, 0, none⟩)) ∧ LiveX K w R ⟨[], [], 0⟩ (fun _ => False) W' :=
  (K.new w hT).mono fun _ _ ⟨F, R, k1, k2, k3, k4⟩ => ⟨R, k1, ⟨F, k2, fun k hk => ⟨k3 k hk, id⟩⟩, k4, fun _ h => h.elim⟩
theorem LiveX.do_ (h : LiveX K w R a P W) (hT : T w) (hl : LimA a) (v : CmdV) (hv : v.ok W) (hg : ¬ v.great) : Calls Tryz.prog 8 #[.pointer (some ⟨R, 0, none⟩), v.val] W fun e W' => e = .returned (.tuple #[ReplyV (doA a v.m).2.1, .bool (doA a v.m).2.2]) ∧ LiveX K w R (doA a v.m).1 P W' ∧ ∀ k, P k → W'.heap[k]? = W.heap[k]? := by
  obtain ⟨F, h1, h2⟩ := h.ex
  refine (K.do_ v h1 (h.t hT) hl hv hg).mono fun _ _ ⟨he, F', k1, k2, k3⟩ => ⟨he, ⟨⟨F', k1, fun k hk => ?_⟩, h.below.trans (k2.below h.below.size (fun k hk => (h2 k hk).1)), fun k hk => Nat.lt_of_lt_of_le (h.p k hk) k2.size⟩, fun k hk => k2.block k (h.p k hk) (fun hF => (h2 k hF).2 hk)⟩
  rcases k3 k hk with h' | h'
  · exact h2 k h'
  · exact ⟨Nat.le_trans h.below.size h', fun hp => by have := h.p k hp; omega⟩
theorem LiveX.count (h : LiveX K w R a P W) : Calls Tryz.prog 9 #[.pointer (some ⟨R, 0, none⟩)] W fun e W' => e = .returned (.int .u64 (a.n : Int)) ∧ LiveX K w R a P W' ∧ Below W.heap.size W W' := by
  obtain ⟨F, h1, h2⟩ := h.ex
  exact (K.count h1).mono fun _ _ ⟨he, hb⟩ => ⟨he, h.grew hb, hb⟩
end
/- The known commands. -/
abbrev xK1 : ByteArray := ⟨#[49]⟩
abbrev xK2 : ByteArray := ⟨#[50]⟩
def xm (sq kd : Nat) (n : Int) : CM := ⟨1, sq, kd, [kA], kE, kE, n⟩
abbrev xA0 : AM := ⟨[], [], 0⟩
abbrev xA1 : AM := ⟨[(kA, xK1)], [⟨1, 1, 0, xK1⟩], 1⟩
abbrev xA2 : AM := ⟨[(kA, xK2)], [⟨1, 2, 0, xK2⟩], 2⟩
theorem xmay1 : (xm 1 4 1).may = true := CM.may_iff.2 ⟨by decide, each1, by decide, by decide, by decide, by decide, by decide, by decide, by decide⟩
theorem xmay2 : (xm 2 4 1).may = true := CM.may_iff.2 ⟨by decide, each1, by decide, by decide, by decide, by decide, by decide, by decide, by decide⟩
theorem xdec1 : decI 1 = [49] := by
  unfold decI
  rw [if_neg (by decide), show Int.toNat 1 = 1 from rfl, decN_lt (by decide)]
  rfl
theorem xdec2 : decI 2 = [50] := by
  unfold decI
  rw [if_neg (by decide), show Int.toNat 2 = 2 from rfl, decN_lt (by decide)]
  rfl
theorem xnum1 : numM xK1.data.toList = some 1 := by
  have : xK1.data.toList = [49] := rfl
  rw [this, numM, if_neg (by decide), numD, if_neg (by unfold badD; decide), if_neg (by decide), if_neg (by decide), if_pos (by decide)]
  rfl
theorem xd1 : doP [] (xm 1 4 1) = ([(kA, xK1)], 0, xK1) := by
  rw [doP_add xmay1 rfl (show keyP (xm 1 4 1).ks 0 = kA from rfl)]
  have h2 : sumP [] kA (xm 1 4 1).n = some 1 := by rw [sumP_some (m := 0) (show seedP [] kA = some 0 from rfl)]; rfl
  unfold addP
  rw [h2]
  show (withP [] kA (str (decI 1)), 0, str (decI 1)) = _
  rw [xdec1]
  rfl
theorem xd2 : doP [(kA, xK1)] (xm 2 4 1) = ([(kA, xK2)], 0, xK2) := by
  rw [doP_add xmay2 rfl (show keyP (xm 2 4 1).ks 0 = kA from rfl)]
  have h1 : seedP [(kA, xK1)] kA = some 1 := by rw [seedP, look_own]; exact xnum1
  have h2 : sumP [(kA, xK1)] kA (xm 2 4 1).n = some 2 := by rw [sumP_some h1]; rfl
  unfold addP
  rw [h2]
  show (withP [(kA, xK1)] kA (str (decI 2)), 0, str (decI 2)) = _
  rw [xdec2]
  rfl
theorem xa1 : doA xA0 (xm 1 4 1) = (xA1, (0, xK1), true) := by
  unfold doA
  rw [if_neg (by decide), if_pos (by decide)]
  show (AM.mk (doP [] (xm 1 4 1)).1 (keepS [] 1 1 (doP [] (xm 1 4 1)).2.1 (doP [] (xm 1 4 1)).2.2) 1, (doP [] (xm 1 4 1)).2, true) = _
  rw [xd1]
  rfl
theorem xa2 : doA xA1 (xm 1 4 1) = (xA1, (0, xK1), false) := by
  unfold doA
  rw [if_neg (by decide), if_neg (by decide)]
  rfl
theorem xa3 : doA xA1 (xm 2 4 1) = (xA2, (0, xK2), true) := by
  unfold doA
  rw [if_neg (by decide), if_pos (by decide)]
  show (AM.mk (doP [(kA, xK1)] (xm 2 4 1)).1 (keepS [⟨1, 1, 0, xK1⟩] 1 2 (doP [(kA, xK1)] (xm 2 4 1)).2.1 (doP [(kA, xK1)] (xm 2 4 1)).2.2) 2, (doP [(kA, xK1)] (xm 2 4 1)).2, true) = _
  rw [xd2]
  rfl
theorem xa4 : doA xA2 (xm 1 2 0) = (xA2, (3, kE), false) := by
  unfold doA
  rw [if_neg (by decide), if_neg (by decide)]
  rfl
end Go.Proofs.YthmmbopibpdpiaaGreatDoor

-- AxWk
namespace Go.Proofs.YthmmbopibpdpiaaGreatDoor
open Go.RowKit

/-- A known command, its key in block S. -/
def xv (S sq kd : Nat) (n : Int) : CmdV := ⟨1, sq, kd, some ⟨S, 0, none⟩, 1, 1, [kA], kE, kE, n⟩
theorem xv_ok {w : World} {S sq kd : Nat} {n : Int} (hsq : sq < 10) (hkd : kd < 10) (hn : n = 0 ∨ n = 1) (h1 : w.heap[S]? = some (.cells #[.string kA] 9 (0, 0))) : (xv S sq kd n).ok w :=
  ⟨by show 1 < 4294967296; omega, by show sq < 4294967296; omega, by show kd < 256; omega, by show -9223372036854775808 ≤ n ∧ n ≤ 9223372036854775807; omega, rfl, by show 1 ≤ _; omega,
    fun _ => ⟨S, 0, rfl, (Array.getElem?_eq_some_iff.1 h1).1, fun j hj => by
      have : j = 0 := by have : j < 1 := hj; omega
      subst this
      rw [blk_cell h1]
      rfl⟩, fun k hk => by have := sm1 k hk; simp only [maxLen]; omega, by show kE.size ≤ _; simp only [maxLen]; decide, by show kE.size ≤ _; simp only [maxLen]; decide⟩
theorem xv_small {S sq kd : Nat} {n : Int} : ¬ (xv S sq kd n).great := by
  rintro (h | h | h | ⟨j, hj, h⟩)
  · revert h; show ¬ 500 < kE.size; decide
  · revert h; show ¬ 500 < kE.size; decide
  · revert h; show ¬ 100 < 1; decide
  · have h' : 500 < ([kA][j]'hj).size := h
    have := sm1 _ (List.getElem_mem hj)
    omega
theorem alloc_size (V : World) (o : Obj) : (V.alloc o).heap.size = V.heap.size + 1 := by simp
theorem alloc_old {V : World} {o : Obj} {k : Nat} {x : Obj} (h : V.heap[k]? = some x) : (V.alloc o).heap[k]? = some x :=
  (Below.heap_alloc _ _ _ (Array.getElem?_eq_some_iff.1 h).1).trans h
section
variable {T : World → Prop} {K : AppK T} {w V : World} {R : Nat} {a : AM} {P : Nat → Prop}
theorem LiveX.one (h : LiveX K w R a P V) (o : Obj) : LiveX K w R a (fun k => k = V.heap.size ∨ P k) (V.alloc o) :=
  h.more ((Below.refl _ V).alloc (Nat.le_refl _) _) (Nat.le_refl _) (by rw [alloc_size]; omega)
theorem LiveX.set (h : LiveX K w R a P V) {C : Nat} (hC : P C) (hw : w.heap.size ≤ C) (i : Nat) (u : Value) : LiveX K w R a P (V.setCell ⟨C, i, none⟩ u) := by
  obtain ⟨F, h1, h2⟩ := h.ex
  have ho : Only (fun k => k = C) V (V.setCell ⟨C, i, none⟩ u) := (Only.refl (fun k => k = C) V).setCell (p := ⟨C, i, none⟩) (.inl rfl) u
  refine ⟨⟨F, K.keep h1 ho (fun k hk e => ?_), h2⟩, h.below.setCell hw u, fun k hk => Nat.lt_of_lt_of_le (h.p k hk) ho.size⟩
  subst e
  exact (h2 k hk).2 hC
theorem LiveX.doX (h : LiveX K w R a P V) (hT : T w) (hl : LimA a) {S sq kd : Nat} {n : Int} (hv : (xv S sq kd n).ok V) {a' : AM} {r : Nat × ByteArray} {b : Bool} (hx : doA a (xm sq kd n) = (a', r, b)) :
    Calls Tryz.prog 8 #[.pointer (some ⟨R, 0, none⟩), .agg #[.int .u32 1, .int .u32 (sq : Int), .int .u8 (kd : Int), .slice (some ⟨S, 0, none⟩) 1 1, .string kE, .string kE, .int .i64 n]] V fun e W' =>
      e = .returned (.tuple #[.agg #[.int .u8 (r.1 : Int), .string r.2], .bool b]) ∧ LiveX K w R a' P W' ∧ ∀ k, P k → W'.heap[k]? = V.heap[k]? := by
  refine (h.do_ hT hl (xv S sq kd n) hv xv_small).mono fun e W' ⟨he, h1, h2⟩ => ?_
  have hm : (xv S sq kd n).m = xm sq kd n := rfl
  rw [hm, hx] at he h1
  exact ⟨he, h1, h2⟩
end
theorem limX0 : LimA xA0 := ⟨limP_nil, ⟨by decide, fun e he => by cases he⟩, by decide⟩
theorem limX1 : LimA xA1 := ⟨limP_one (by decide) (by decide), ⟨by decide, fun e he => by
  have : e = ⟨1, 1, 0, xK1⟩ := by simpa using he
  subst this; decide⟩, by decide⟩
theorem limX2 : LimA xA2 := ⟨limP_one (by decide) (by decide), ⟨by decide, fun e he => by
  have : e = ⟨1, 2, 0, xK2⟩ := by simpa using he
  subst this; decide⟩, by decide⟩
abbrev xR (c : Int) (t : ByteArray) : Obj := .cells #[.int .u8 c, .string t] 36 (0, 0)
abbrev xC (S : Nat) (sq : Int) : Obj := .cells #[.int .u32 1, .int .u32 sq, .int .u8 4, .slice (some ⟨S, 0, none⟩) 1 1, .string kE, .string kE, .int .i64 1] 34 (0, 0)
/-- The command's block holds it. -/
theorem xcell {V : World} {C S : Nat} {sq : Int} (h : V.heap[C]? = some (xC S sq)) : V.cell? ⟨C, 0, none⟩ = some (.int .u32 1) ∧ V.cell? ⟨C, 1, none⟩ = some (.int .u32 sq) ∧ V.cell? ⟨C, 2, none⟩ = some (.int .u8 4) ∧ V.cell? ⟨C, 3, none⟩ = some (.slice (some ⟨S, 0, none⟩) 1 1) ∧ V.cell? ⟨C, 4, none⟩ = some (.string kE) ∧ V.cell? ⟨C, 5, none⟩ = some (.string kE) ∧ V.cell? ⟨C, 6, none⟩ = some (.int .i64 1) := by
  refine ⟨?_, ?_, ?_, ?_, ?_, ?_, ?_⟩ <;> rw [blk_cell h] <;> rfl

set_option maxRecDepth 100000 in
set_option maxHeartbeats 4000000 in
theorem wakes11_any {T : World → Prop} (K : AppK T) (w : World) (hT : T w) : Calls Tryz.prog 4 #[] w fun e W' => e = .returned (.bool true) ∧ Below w.heap.size w W' := by
  have HT := Lib.hid hT
  clear hT
  go_enter Tryz.func4, Tryz.ntmps4
  go_wp2_with fail
  refine (LiveX.new K w HT.out).mono ?_
  rintro e W1 ⟨R, rfl, h1⟩
  have L1 := Lib.hid h1
  clear h1
  go_upto_region 3 with (fail)
  obtain ⟨V2, hV2⟩ : ∃ V2, V2 = (W1.alloc (Obj.cells #[.string kA] 9)).alloc (Obj.cells #[.int .u32 1, .int .u32 1, .int .u8 4, .slice (some ⟨W1.heap.size, 0, none⟩) 1 1, .string kE, .string kE, .int .i64 1] 34) := ⟨_, rfl⟩
  rw [← hV2]
  have h2 := (L1.out.one (Obj.cells #[.string kA] 9)).one (Obj.cells #[.int .u32 1, .int .u32 1, .int .u8 4, .slice (some ⟨W1.heap.size, 0, none⟩) 1 1, .string kE, .string kE, .int .i64 1] 34)
  have s2 := alloc_old (o := Obj.cells #[.int .u32 1, .int .u32 1, .int .u8 4, .slice (some ⟨W1.heap.size, 0, none⟩) 1 1, .string kE, .string kE, .int .i64 1] 34) (World.alloc_heap_new W1 (Obj.cells #[.string kA] 9))
  have c2 := World.alloc_heap_new (W1.alloc (Obj.cells #[.string kA] 9)) (Obj.cells #[.int .u32 1, .int .u32 1, .int .u8 4, .slice (some ⟨W1.heap.size, 0, none⟩) 1 1, .string kE, .string kE, .int .i64 1] 34)
  rw [← hV2] at h2 s2 c2
  rw [alloc_size] at h2 c2
  have hw : w.heap.size ≤ W1.heap.size + 1 := Nat.le_trans L1.out.below.size (Nat.le_succ _)
  have hsc : W1.heap.size ≠ W1.heap.size + 1 := by omega
  obtain ⟨C, hC⟩ : ∃ C, C = W1.heap.size + 1 := ⟨_, rfl⟩
  rw [← hC] at h2 c2 hw hsc ⊢
  obtain ⟨S, hS⟩ : ∃ S, S = W1.heap.size := ⟨_, rfl⟩
  rw [← hS] at h2 s2 c2 hsc ⊢
  generalize hP2 : (fun k => k = C ∨ k = S ∨ False) = P2 at h2
  have HW := Lib.hid hw
  have NS := Lib.hid hsc
  have FS := Lib.hid s2
  have FC := Lib.hid c2
  have L := Lib.hid h2
  have PC : Hid (P2 C) := Lib.hid (by rw [← hP2]; exact .inl rfl)
  have PS : Hid (P2 S) := Lib.hid (by rw [← hP2]; exact .inr (.inl rfl))
  clear hP2 hV2 hw hsc hC hS h2 s2 c2 L1
  obtain ⟨z0, z1, z2, z3, z4, z5, z6⟩ := xcell FC.out
  have D1 : Hid (Calls Tryz.prog 8 #[.pointer (some ⟨R, 0, none⟩), .agg #[.int .u32 1, .int .u32 1, .int .u8 4, .slice (some ⟨S, 0, none⟩) 1 1, .string kE, .string kE, .int .i64 1]] V2 fun e W' => e = .returned (.tuple #[.agg #[.int .u8 0, .string xK1], .bool true]) ∧ LiveX K w R xA1 P2 W' ∧ ∀ k, P2 k → W'.heap[k]? = V2.heap[k]?) := Lib.hid (L.out.doX (S := S) (sq := 1) (kd := 4) (n := 1) HT.out limX0 (xv_ok (by decide) (by decide) (.inr rfl) FS.out) xa1)
  clear L
  go_wp2_with fail
  refine D1.out.mono ?_
  rintro e U1 ⟨rfl, h, st⟩
  have L := Lib.hid h
  have GS := Lib.hid ((st S PS.out).trans FS.out)
  have GC := Lib.hid ((st C PC.out).trans FC.out)
  clear h st D1 z0 z1 z2 z3 z4 z5 z6 FS FC
  go_upto_region 4 with (fail)
  obtain ⟨X1, hV⟩ : ∃ V, V = U1.alloc (Obj.cells #[.int .u8 0, .string xK1] 36) := ⟨_, rfl⟩
  rw [← hV]
  have h := L.out.one (Obj.cells #[.int .u8 0, .string xK1] 36)
  have nw := World.alloc_heap_new U1 (Obj.cells #[.int .u8 0, .string xK1] 36)
  have fS := alloc_old (o := (Obj.cells #[.int .u8 0, .string xK1] 36)) GS.out
  have fC := alloc_old (o := (Obj.cells #[.int .u8 0, .string xK1] 36)) GC.out
  rw [← hV] at h nw fS fC
  have nq : U1.heap.size ≠ C := by
    have := (Array.getElem?_eq_some_iff.1 GC.out).1
    omega
  obtain ⟨q1, hq⟩ : ∃ q, q = U1.heap.size := ⟨_, rfl⟩
  rw [← hq] at h nw nq ⊢
  generalize hPn : (fun k => k = q1 ∨ P2 k) = R1 at h
  have QS : Hid (R1 S) := Lib.hid (by rw [← hPn]; exact .inr PS.out)
  have QC : Hid (R1 C) := Lib.hid (by rw [← hPn]; exact .inr PC.out)
  have Pq1 : Hid (R1 q1) := Lib.hid (by rw [← hPn]; exact .inl rfl)
  have Nq1 := Lib.hid nq
  clear hPn L PS PC
  have PS := QS
  have FS := Lib.hid fS
  have PC := QC
  have FC := Lib.hid fC
  have Fq1 := Lib.hid nw
  have L := Lib.hid h
  clear h nw nq hV hq QS fS GS QC fC GC
  obtain ⟨z0, z1, z2, z3, z4, z5, z6⟩ := xcell FC.out
  have D2 : Hid (Calls Tryz.prog 8 #[.pointer (some ⟨R, 0, none⟩), .agg #[.int .u32 1, .int .u32 1, .int .u8 4, .slice (some ⟨S, 0, none⟩) 1 1, .string kE, .string kE, .int .i64 1]] X1 fun e W' => e = .returned (.tuple #[.agg #[.int .u8 0, .string xK1], .bool false]) ∧ LiveX K w R xA1 R1 W' ∧ ∀ k, R1 k → W'.heap[k]? = X1.heap[k]?) := Lib.hid (L.out.doX (S := S) (sq := 1) (kd := 4) (n := 1) HT.out limX1 (xv_ok (by decide) (by decide) (.inr rfl) FS.out) xa2)
  clear L
  go_wp2_with fail
  refine D2.out.mono ?_
  rintro e U2 ⟨rfl, h, st⟩
  have L := Lib.hid h
  have GS := Lib.hid ((st S PS.out).trans FS.out)
  have GC := Lib.hid ((st C PC.out).trans FC.out)
  have Gq1 := Lib.hid ((st q1 Pq1.out).trans Fq1.out)
  clear h st D2 z0 z1 z2 z3 z4 z5 z6 FS FC Fq1
  go_upto_region 5 with (fail)
  obtain ⟨X2, hV⟩ : ∃ V, V = U2.alloc (Obj.cells #[.int .u8 0, .string xK1] 36) := ⟨_, rfl⟩
  rw [← hV]
  have h := L.out.one (Obj.cells #[.int .u8 0, .string xK1] 36)
  have nw := World.alloc_heap_new U2 (Obj.cells #[.int .u8 0, .string xK1] 36)
  have fS := alloc_old (o := (Obj.cells #[.int .u8 0, .string xK1] 36)) GS.out
  have fC := alloc_old (o := (Obj.cells #[.int .u8 0, .string xK1] 36)) GC.out
  have fq1 := alloc_old (o := (Obj.cells #[.int .u8 0, .string xK1] 36)) Gq1.out
  rw [← hV] at h nw fS fC fq1
  have nq : U2.heap.size ≠ C := by
    have := (Array.getElem?_eq_some_iff.1 GC.out).1
    omega
  obtain ⟨q2, hq⟩ : ∃ q, q = U2.heap.size := ⟨_, rfl⟩
  rw [← hq] at h nw nq ⊢
  generalize hPn : (fun k => k = q2 ∨ R1 k) = R2 at h
  have QS : Hid (R2 S) := Lib.hid (by rw [← hPn]; exact .inr PS.out)
  have QC : Hid (R2 C) := Lib.hid (by rw [← hPn]; exact .inr PC.out)
  have Qq1 : Hid (R2 q1) := Lib.hid (by rw [← hPn]; exact .inr Pq1.out)
  have Pq2 : Hid (R2 q2) := Lib.hid (by rw [← hPn]; exact .inl rfl)
  have Nq2 := Lib.hid nq
  clear hPn L PS PC Pq1
  have PS := QS
  have FS := Lib.hid fS
  have PC := QC
  have FC := Lib.hid fC
  have Pq1 := Qq1
  have Fq1 := Lib.hid fq1
  have Fq2 := Lib.hid nw
  have L := Lib.hid h
  clear h nw nq hV hq QS fS GS QC fC GC Qq1 fq1 Gq1
  obtain ⟨z0, z1, z2, z3, z4, z5, z6⟩ := xcell FC.out
  have zf := blk_frozen FC.out 1
  go_upto_region 6 with (fail)
  clear z0 z1 z2 z3 z4 z5 z6 zf
  obtain ⟨Y2, hV⟩ : ∃ V, V = X2.setCell ⟨C, 1, none⟩ (.int .u32 2) := ⟨_, rfl⟩
  rw [← hV]
  have h := L.out.set PC.out HW.out 1 (.int .u32 2)
  have fC : (X2.setCell ⟨C, 1, none⟩ (.int .u32 2)).heap[C]? = some (xC S 2) := blk_set FC.out 1 (.int .u32 2)
  have fS := (Below.heap_setCell X2 ⟨C, 1, none⟩ (.int .u32 2) S NS.out).trans FS.out
  have fq1 := (Below.heap_setCell X2 ⟨C, 1, none⟩ (.int .u32 2) q1 Nq1.out).trans Fq1.out
  have fq2 := (Below.heap_setCell X2 ⟨C, 1, none⟩ (.int .u32 2) q2 Nq2.out).trans Fq2.out
  rw [← hV] at h fS fC fq1 fq2
  clear L FS FC Fq1 Fq2
  have FS := Lib.hid fS
  have FC := Lib.hid fC
  have Fq1 := Lib.hid fq1
  have Fq2 := Lib.hid fq2
  have L := Lib.hid h
  clear h hV fS fC fq1 fq2
  obtain ⟨z0, z1, z2, z3, z4, z5, z6⟩ := xcell FC.out
  have D3 : Hid (Calls Tryz.prog 8 #[.pointer (some ⟨R, 0, none⟩), .agg #[.int .u32 1, .int .u32 2, .int .u8 4, .slice (some ⟨S, 0, none⟩) 1 1, .string kE, .string kE, .int .i64 1]] Y2 fun e W' => e = .returned (.tuple #[.agg #[.int .u8 0, .string xK2], .bool true]) ∧ LiveX K w R xA2 R2 W' ∧ ∀ k, R2 k → W'.heap[k]? = Y2.heap[k]?) := Lib.hid (L.out.doX (S := S) (sq := 2) (kd := 4) (n := 1) HT.out limX1 (xv_ok (by decide) (by decide) (.inr rfl) FS.out) xa3)
  clear L
  go_wp2_with fail
  refine D3.out.mono ?_
  rintro e U3 ⟨rfl, h, st⟩
  have L := Lib.hid h
  have GS := Lib.hid ((st S PS.out).trans FS.out)
  have GC := Lib.hid ((st C PC.out).trans FC.out)
  have Gq1 := Lib.hid ((st q1 Pq1.out).trans Fq1.out)
  have Gq2 := Lib.hid ((st q2 Pq2.out).trans Fq2.out)
  clear h st D3 z0 z1 z2 z3 z4 z5 z6 FS FC Fq1 Fq2
  go_upto_region 7 with (fail)
  obtain ⟨X3, hV⟩ : ∃ V, V = U3.alloc (Obj.cells #[.int .u8 0, .string xK2] 36) := ⟨_, rfl⟩
  rw [← hV]
  have h := L.out.one (Obj.cells #[.int .u8 0, .string xK2] 36)
  have nw := World.alloc_heap_new U3 (Obj.cells #[.int .u8 0, .string xK2] 36)
  have fS := alloc_old (o := (Obj.cells #[.int .u8 0, .string xK2] 36)) GS.out
  have fC := alloc_old (o := (Obj.cells #[.int .u8 0, .string xK2] 36)) GC.out
  have fq1 := alloc_old (o := (Obj.cells #[.int .u8 0, .string xK2] 36)) Gq1.out
  have fq2 := alloc_old (o := (Obj.cells #[.int .u8 0, .string xK2] 36)) Gq2.out
  rw [← hV] at h nw fS fC fq1 fq2
  have nq : U3.heap.size ≠ C := by
    have := (Array.getElem?_eq_some_iff.1 GC.out).1
    omega
  obtain ⟨q3, hq⟩ : ∃ q, q = U3.heap.size := ⟨_, rfl⟩
  rw [← hq] at h nw nq ⊢
  generalize hPn : (fun k => k = q3 ∨ R2 k) = R3 at h
  have QS : Hid (R3 S) := Lib.hid (by rw [← hPn]; exact .inr PS.out)
  have QC : Hid (R3 C) := Lib.hid (by rw [← hPn]; exact .inr PC.out)
  have Qq1 : Hid (R3 q1) := Lib.hid (by rw [← hPn]; exact .inr Pq1.out)
  have Qq2 : Hid (R3 q2) := Lib.hid (by rw [← hPn]; exact .inr Pq2.out)
  have Pq3 : Hid (R3 q3) := Lib.hid (by rw [← hPn]; exact .inl rfl)
  have Nq3 := Lib.hid nq
  clear hPn L PS PC Pq1 Pq2
  have PS := QS
  have FS := Lib.hid fS
  have PC := QC
  have FC := Lib.hid fC
  have Pq1 := Qq1
  have Fq1 := Lib.hid fq1
  have Pq2 := Qq2
  have Fq2 := Lib.hid fq2
  have Fq3 := Lib.hid nw
  have L := Lib.hid h
  clear h nw nq hV hq QS fS GS QC fC GC Qq1 fq1 Gq1 Qq2 fq2 Gq2
  have D4 : Hid (Calls Tryz.prog 8 #[.pointer (some ⟨R, 0, none⟩), .agg #[.int .u32 1, .int .u32 1, .int .u8 2, .slice (some ⟨X3.heap.size, 0, none⟩) 1 1, .string kE, .string kE, .int .i64 0]] (X3.alloc (Obj.cells #[.string kA] 9)) fun e W' => e = .returned (.tuple #[.agg #[.int .u8 3, .string kE], .bool false]) ∧ LiveX K w R xA2 (fun k => k = X3.heap.size ∨ R3 k) W' ∧ ∀ k, (fun k => k = X3.heap.size ∨ R3 k) k → W'.heap[k]? = (X3.alloc (Obj.cells #[.string kA] 9)).heap[k]?) := Lib.hid ((L.out.one (Obj.cells #[.string kA] 9)).doX (S := X3.heap.size) (sq := 1) (kd := 2) (n := 0) HT.out limX2 (xv_ok (by decide) (by decide) (.inl rfl) (World.alloc_heap_new X3 (Obj.cells #[.string kA] 9))) xa4)
  clear L
  go_wp2_with fail
  refine D4.out.mono ?_
  rintro e U4 ⟨rfl, h, st⟩
  have L := Lib.hid h
  have GS := Lib.hid ((st S (.inr PS.out)).trans (alloc_old (o := (Obj.cells #[.string kA] 9)) FS.out))
  have GC := Lib.hid ((st C (.inr PC.out)).trans (alloc_old (o := (Obj.cells #[.string kA] 9)) FC.out))
  have Gq1 := Lib.hid ((st q1 (.inr Pq1.out)).trans (alloc_old (o := (Obj.cells #[.string kA] 9)) Fq1.out))
  have Gq2 := Lib.hid ((st q2 (.inr Pq2.out)).trans (alloc_old (o := (Obj.cells #[.string kA] 9)) Fq2.out))
  have Gq3 := Lib.hid ((st q3 (.inr Pq3.out)).trans (alloc_old (o := (Obj.cells #[.string kA] 9)) Fq3.out))
  clear h st D4 FS FC Fq1 Fq2 Fq3
  generalize hPn : (fun k => k = X3.heap.size ∨ R3 k) = Pn at L
  have QS : Hid (Pn S) := Lib.hid (by rw [← hPn]; exact .inr PS.out)
  have QC : Hid (Pn C) := Lib.hid (by rw [← hPn]; exact .inr PC.out)
  have Qq1 : Hid (Pn q1) := Lib.hid (by rw [← hPn]; exact .inr Pq1.out)
  have Qq2 : Hid (Pn q2) := Lib.hid (by rw [← hPn]; exact .inr Pq2.out)
  have Qq3 : Hid (Pn q3) := Lib.hid (by rw [← hPn]; exact .inr Pq3.out)
  clear hPn PS PC Pq1 Pq2 Pq3
  have PS := QS
  have PC := QC
  have Pq1 := Qq1
  have Pq2 := Qq2
  have Pq3 := Qq3
  clear QS QC Qq1 Qq2 Qq3
  go_upto_region 8 with (fail)
  obtain ⟨X4, hV⟩ : ∃ V, V = U4.alloc (Obj.cells #[.int .u8 3, .string kE] 36) := ⟨_, rfl⟩
  rw [← hV]
  have h := L.out.one (Obj.cells #[.int .u8 3, .string kE] 36)
  have nw := World.alloc_heap_new U4 (Obj.cells #[.int .u8 3, .string kE] 36)
  have fS := alloc_old (o := (Obj.cells #[.int .u8 3, .string kE] 36)) GS.out
  have fC := alloc_old (o := (Obj.cells #[.int .u8 3, .string kE] 36)) GC.out
  have fq1 := alloc_old (o := (Obj.cells #[.int .u8 3, .string kE] 36)) Gq1.out
  have fq2 := alloc_old (o := (Obj.cells #[.int .u8 3, .string kE] 36)) Gq2.out
  have fq3 := alloc_old (o := (Obj.cells #[.int .u8 3, .string kE] 36)) Gq3.out
  rw [← hV] at h nw fS fC fq1 fq2 fq3
  have nq : U4.heap.size ≠ C := by
    have := (Array.getElem?_eq_some_iff.1 GC.out).1
    omega
  obtain ⟨q4, hq⟩ : ∃ q, q = U4.heap.size := ⟨_, rfl⟩
  rw [← hq] at h nw nq ⊢
  generalize hPn : (fun k => k = q4 ∨ Pn k) = R4 at h
  have QS : Hid (R4 S) := Lib.hid (by rw [← hPn]; exact .inr PS.out)
  have QC : Hid (R4 C) := Lib.hid (by rw [← hPn]; exact .inr PC.out)
  have Qq1 : Hid (R4 q1) := Lib.hid (by rw [← hPn]; exact .inr Pq1.out)
  have Qq2 : Hid (R4 q2) := Lib.hid (by rw [← hPn]; exact .inr Pq2.out)
  have Qq3 : Hid (R4 q3) := Lib.hid (by rw [← hPn]; exact .inr Pq3.out)
  have Pq4 : Hid (R4 q4) := Lib.hid (by rw [← hPn]; exact .inl rfl)
  have Nq4 := Lib.hid nq
  clear hPn L PS PC Pq1 Pq2 Pq3
  have PS := QS
  have FS := Lib.hid fS
  have PC := QC
  have FC := Lib.hid fC
  have Pq1 := Qq1
  have Fq1 := Lib.hid fq1
  have Pq2 := Qq2
  have Fq2 := Lib.hid fq2
  have Pq3 := Qq3
  have Fq3 := Lib.hid fq3
  have Fq4 := Lib.hid nw
  have L := Lib.hid h
  clear h nw nq hV hq QS fS GS QC fC GC Qq1 fq1 Gq1 Qq2 fq2 Gq2 Qq3 fq3 Gq3
  have b1 := Fq1.out
  have y10 : X4.cell? ⟨q1, 0, none⟩ = some (.int .u8 0) := by rw [blk_cell b1 0]; rfl
  have y11 : X4.cell? ⟨q1, 1, none⟩ = some (.string xK1) := by rw [blk_cell b1 1]; rfl
  clear b1
  have b2 := Fq2.out
  have y20 : X4.cell? ⟨q2, 0, none⟩ = some (.int .u8 0) := by rw [blk_cell b2 0]; rfl
  have y21 : X4.cell? ⟨q2, 1, none⟩ = some (.string xK1) := by rw [blk_cell b2 1]; rfl
  clear b2
  have b3 := Fq3.out
  have y30 : X4.cell? ⟨q3, 0, none⟩ = some (.int .u8 0) := by rw [blk_cell b3 0]; rfl
  have y31 : X4.cell? ⟨q3, 1, none⟩ = some (.string xK2) := by rw [blk_cell b3 1]; rfl
  clear b3
  have b4 := Fq4.out
  have y40 : X4.cell? ⟨q4, 0, none⟩ = some (.int .u8 3) := by rw [blk_cell b4 0]; rfl
  have y41 : X4.cell? ⟨q4, 1, none⟩ = some (.string kE) := by rw [blk_cell b4 1]; rfl
  clear b4
  have DC : Hid (Calls Tryz.prog 9 #[.pointer (some ⟨R, 0, none⟩)] X4 fun e W' => e = .returned (.int .u64 2) ∧ LiveX K w R xA2 R4 W' ∧ Below X4.heap.size X4 W') := Lib.hid L.out.count
  go_wp2_with fail
  refine DC.out.mono ?_
  rintro e V9 ⟨rfl, h9, -⟩
  have L9 := Lib.hid h9
  clear h9
  go_wp2
  go_ret
  exact ⟨rfl, L9.out.below⟩
end Go.Proofs.YthmmbopibpdpiaaGreatDoor

-- AxTkR
namespace Go.Proofs.YthmmbopibpdpiaaGreatDoor
open Go.RowKit

theorem run_eqX (w : World) (t : TypeId) (x : ByteArray) : (binOp .eql t (.string x) (.string x)).run Tryz.prog w = .ok (.bool true) w := by
  simp [go_sem]
def oAxB0 (p : String) : Oper := { dst := some 29, op := Op.move (Operand.tmp 3), type := 24, pos := p, after := #[], guard := none }
def oAxB1 (p : String) : Oper := { dst := some 30, op := Op.call { callee := Callee.value (Operand.func 6), args := #[Operand.tmp 29], argTypes := #[24] }, type := 22, pos := p, after := #[{ on := 0, ground := Ground.data }], guard := none }
def oAxB2 (p : String) : Oper := { dst := some 31, op := Op.convert 22 9 (Operand.tmp 30), type := 9, pos := p, after := #[{ on := 1, ground := Ground.data }], guard := none }
def oAxB3 (p : String) : Oper := { dst := some 32, op := Op.move (Operand.tmp 0), type := 22, pos := p, after := #[], guard := none }
def oAxB4 (p : String) : Oper := { dst := some 33, op := Op.convert 22 9 (Operand.tmp 32), type := 9, pos := p, after := #[{ on := 3, ground := Ground.data }], guard := none }
def oAxB5 (p : String) : Oper := { dst := some 34, op := Op.binOp BinOp.eql 9 (Operand.tmp 31) (Operand.tmp 33) 9, type := 4, pos := p, after := #[{ on := 2, ground := Ground.data }, { on := 4, ground := Ground.data }], guard := none }
def oAxB6 (p : String) : Oper := { dst := some 35, op := Op.move (Operand.tmp 34), type := 4, pos := p, after := #[{ on := 5, ground := Ground.data }, { on := 1, ground := Ground.chain }], guard := none }
def oAxB7 (p : String) : Oper := { dst := some 36, op := Op.call { callee := Callee.value (Operand.func 4), args := #[], argTypes := #[] }, type := 4, pos := p, after := #[{ on := 6, ground := Ground.chain }, { on := 6, ground := Ground.guard }], guard := some (6, true) }
def oAxB8 (p : String) : Oper := { dst := some 37, op := Op.pick (Operand.tmp 35) (Operand.tmp 36) (Operand.const (Value.bool false)), type := 4, pos := p, after := #[{ on := 6, ground := Ground.data }, { on := 7, ground := Ground.data }], guard := none }
def oAxB9 (p : String) : Oper := { dst := some 2, op := Op.assign (Operand.tmp 37), type := 4, pos := p, after := #[{ on := 8, ground := Ground.data }, { on := 7, ground := Ground.chain }, { on := 0, ground := Ground.phase }, { on := 1, ground := Ground.phase }, { on := 2, ground := Ground.phase }, { on := 3, ground := Ground.phase }, { on := 4, ground := Ground.phase }, { on := 5, ground := Ground.phase }, { on := 6, ground := Ground.phase }, { on := 7, ground := Ground.phase }, { on := 8, ground := Ground.phase }], guard := none }
def opsAxB (p : String) : List Oper := [oAxB0 p, oAxB1 p, oAxB2 p, oAxB3 p, oAxB4 p, oAxB5 p, oAxB6 p, oAxB7 p, oAxB8 p, oAxB9 p]
theorem opsAxB_back (p : String) : backwards (opsAxB p) = true := by kernel_rfl
theorem opsAxB_slots (p : String) : slotsOk 38 (opsAxB p) = true := by kernel_rfl
/-- What each slot comes to. -/
def psiAxB (S : Nat) (A : Option Addr) (L c : Nat) (X : List UInt8) : Nat → Value → World → Prop
  | 0, v, _ => v = .pointer (some ⟨S, 0, none⟩)
  | 1, v, w => IsB w v (X)
  | 2, v, _ => v = .string (str (X))
  | 3, v, _ => v = .slice A L c
  | 4, v, _ => v = .string (str X)
  | 5, v, _ => v = .bool true
  | 6, v, _ => v = .bool true
  | 7, v, _ => v = .bool true
  | 8, v, _ => v = .bool true
  | 9, v, _ => v = .bool true
  | _, _, _ => True
theorem psiAxB_grew (S : Nat) (A : Option Addr) (L c : Nat) (X : List UInt8) : ∀ i v w w', psiAxB S A L c X i v w → Grew w w' → psiAxB S A L c X i v w' := by
  intro i v w w' h hg
  rcases i with _ | _ | _ | _ | _ | _ | _ | _ | _ | _ | i
  · exact h
  · exact IsB.grew h hg
  · exact h
  · exact h
  · exact h
  · exact h
  · exact h
  · exact h
  · exact h
  · exact h
  · trivial
set_option maxRecDepth 100000 in
set_option maxHeartbeats 4000000 in
theorem axtakes_ok {p : String} (S : Nat) (A : Option Addr) (L c : Nat) (X : List UInt8) (hL : L = X.length) (a : Act) (w : World) (Q : Exit → Act → World → Prop) (hN : a.tmps.size = 38) (h0 : a.tmps.getD 0 undef = .slice A L c) (h3 : a.tmps.getD 3 undef = .pointer (some ⟨S, 0, none⟩)) (hPut : ∀ w', Grew w w' → Calls Tryz.prog 6 #[.pointer (some ⟨S, 0, none⟩)] w' fun e W' => ∃ v m, e = .returned v ∧ W'.ownsRow w'.heap.size 5 1 v m (X.map enc) ∧ Below w'.heap.size w' W') (hA : HasA w w.heap.size A X) (hWk : ∀ w', Grew w w' → Calls Tryz.prog 4 #[] w' fun e W' => e = .returned (.bool true) ∧ Below w'.heap.size w' W') (hQ : ∀ (v30 : Value), ∀ (w' : World), IsB w' v30 (X) → Grew w w' → Q .normal (puts [(29, .pointer (some ⟨S, 0, none⟩)), (30, v30), (31, .string (str (X))), (32, .slice A L c), (33, .string (str X)), (34, .bool true), (35, .bool true), (36, .bool true), (37, .bool true), (2, .bool true)] a) w')
    : (Code.region 6 (opsAxB p).toArray true).wp Tryz.prog Q a w := by
  refine (wpIn_wide (n := 1)).1 (wpIn_region_vals 38 hN follows (opsAxB_back p) (opsAxB_slots p) Grew Grew.refl Grew.trans (psiAxB S A L c X) (psiAxB_grew S A L c X) ?_ ?_)
  · intro i o d ho hd a' w' hF hR hp
    rcases i with _ | _ | _ | _ | _ | _ | _ | _ | _ | _ | i
    · obtain rfl : oAxB0 p = o := Option.some.inj ho
      obtain rfl : 29 = d := Option.some.inj hd
      exact step_move rfl rfl rfl (hF.at 3 rfl h3) ⟨_, rfl, rfl, Grew.refl _⟩
    · obtain rfl : oAxB1 p = o := Option.some.inj ho
      obtain rfl : 30 = d := Option.some.inj hd
      have q0 : a'.tmps.getD 29 undef = .pointer (some ⟨S, 0, none⟩) := hp 0 (oAxB0 p) 29 rfl rfl rfl
      refine step_callD rfl rfl rfl (enters_of Tryz.func6 (by kernel_rfl) rfl) (show Array.map a'.eval #[.tmp 29] = _ from by simp only [List.map_toArray, List.map_cons, List.map_nil, Act.eval, q0]) ((hPut w' hR.undraw).mono ?_)
      rintro e w'' ⟨x, m, rfl, ho', hb⟩
      exact ⟨_, rfl, _, rfl, IsB.own ho', hb⟩
    · obtain rfl : oAxB2 p = o := Option.some.inj ho
      obtain rfl : 31 = d := Option.some.inj hd
      have q1 : IsB w' (a'.tmps.getD 30 undef) (X) := hp 1 (oAxB1 p) 30 rfl rfl rfl
      exact step_conv rfl rfl rfl (show IsB w' (a'.tmps.getD 30 undef) _ from q1) ⟨_, rfl, rfl, Grew.refl _⟩
    · obtain rfl : oAxB3 p = o := Option.some.inj ho
      obtain rfl : 32 = d := Option.some.inj hd
      exact step_move rfl rfl rfl (hF.at 0 rfl h0) ⟨_, rfl, rfl, Grew.refl _⟩
    · obtain rfl : oAxB4 p = o := Option.some.inj ho
      obtain rfl : 33 = d := Option.some.inj hd
      have q3 : a'.tmps.getD 32 undef = .slice A L c := hp 3 (oAxB3 p) 32 rfl rfl rfl
      exact step_cv rfl rfl rfl q3 (run_conv (HasA.below' hA hR.undraw) _ Tryz.underlying22 Tryz.underlying5 Tryz.underlying9 hL) ⟨_, rfl, rfl, Grew.refl _⟩
    · obtain rfl : oAxB5 p = o := Option.some.inj ho
      obtain rfl : 34 = d := Option.some.inj hd
      have q2 : a'.tmps.getD 31 undef = .string (str (X)) := hp 2 (oAxB2 p) 31 rfl rfl rfl
      have q4 : a'.tmps.getD 33 undef = .string (str X) := hp 4 (oAxB4 p) 33 rfl rfl rfl
      exact step_bin rfl rfl rfl q2 q4 (guard_str _ _ _ _ _ _ _) (run_eqX _ _ _) ⟨_, rfl, rfl, Grew.refl _⟩
    · obtain rfl : oAxB6 p = o := Option.some.inj ho
      obtain rfl : 35 = d := Option.some.inj hd
      have q5 : a'.tmps.getD 34 undef = .bool true := hp 5 (oAxB5 p) 34 rfl rfl rfl
      exact step_move rfl rfl rfl q5 ⟨_, rfl, rfl, Grew.refl _⟩
    · obtain rfl : oAxB7 p = o := Option.some.inj ho
      obtain rfl : 36 = d := Option.some.inj hd
      have q6 : a'.tmps.getD 35 undef = .bool true := hp 6 (oAxB6 p) 35 rfl rfl rfl
      refine step_callD rfl (wanted_on rfl (show (opsAxB p).toArray[6]? = some (oAxB6 p) from rfl) rfl q6) rfl (enters_of Tryz.func4 (by kernel_rfl) rfl) (show Array.map a'.eval #[] = _ from by simp only [List.map_toArray, List.map_nil]) ((hWk w' hR.undraw).mono ?_)
      rintro e w'' ⟨rfl, hb⟩
      exact ⟨_, rfl, _, rfl, rfl, hb⟩
    · obtain rfl : oAxB8 p = o := Option.some.inj ho
      obtain rfl : 37 = d := Option.some.inj hd
      have q6 : a'.tmps.getD 35 undef = .bool true := hp 6 (oAxB6 p) 35 rfl rfl rfl
      have q7 : a'.tmps.getD 36 undef = .bool true := hp 7 (oAxB7 p) 36 rfl rfl rfl
      exact step_pick rfl rfl rfl q6 (show (if true = true then a'.tmps.getD 36 undef else _) = _ from q7) ⟨_, rfl, rfl, Grew.refl _⟩
    · obtain rfl : oAxB9 p = o := Option.some.inj ho
      obtain rfl : 2 = d := Option.some.inj hd
      have q8 : a'.tmps.getD 37 undef = .bool true := hp 8 (oAxB8 p) 37 rfl rfl rfl
      exact step_assign rfl rfl rfl q8 ⟨_, rfl, rfl, Grew.refl _⟩
    · exact absurd ((Array.getElem?_eq_some_iff.1 ho).1) (by simp [opsAxB])
  · intro a' w' hF hR hp
    have e0 : psiAxB S A L c X 0 (a'.tmps.getD 29 undef) w' := hp 0 (oAxB0 p) 29 rfl rfl
    have e1 : psiAxB S A L c X 1 (a'.tmps.getD 30 undef) w' := hp 1 (oAxB1 p) 30 rfl rfl
    have e2 : psiAxB S A L c X 2 (a'.tmps.getD 31 undef) w' := hp 2 (oAxB2 p) 31 rfl rfl
    have e3 : psiAxB S A L c X 3 (a'.tmps.getD 32 undef) w' := hp 3 (oAxB3 p) 32 rfl rfl
    have e4 : psiAxB S A L c X 4 (a'.tmps.getD 33 undef) w' := hp 4 (oAxB4 p) 33 rfl rfl
    have e5 : psiAxB S A L c X 5 (a'.tmps.getD 34 undef) w' := hp 5 (oAxB5 p) 34 rfl rfl
    have e6 : psiAxB S A L c X 6 (a'.tmps.getD 35 undef) w' := hp 6 (oAxB6 p) 35 rfl rfl
    have e7 : psiAxB S A L c X 7 (a'.tmps.getD 36 undef) w' := hp 7 (oAxB7 p) 36 rfl rfl
    have e8 : psiAxB S A L c X 8 (a'.tmps.getD 37 undef) w' := hp 8 (oAxB8 p) 37 rfl rfl
    have e9 : psiAxB S A L c X 9 (a'.tmps.getD 2 undef) w' := hp 9 (oAxB9 p) 2 rfl rfl
    rw [hF.puts [(29, .pointer (some ⟨S, 0, none⟩)), (30, a'.tmps.getD 30 undef), (31, .string (str (X))), (32, .slice A L c), (33, .string (str X)), (34, .bool true), (35, .bool true), (36, .bool true), (37, .bool true), (2, .bool true)] ?_ rfl (by rw [hN]; rfl)]
    · exact hQ _ w' e1 hR.undraw
    · intro x hx
      simp only [List.mem_cons, List.not_mem_nil, or_false] at hx
      rcases hx with rfl | rfl | rfl | rfl | rfl | rfl | rfl | rfl | rfl | rfl
      · exact e0
      · exact rfl
      · exact e2
      · exact e3
      · exact e4
      · exact e5
      · exact e6
      · exact e7
      · exact e8
      · exact e9
end Go.Proofs.YthmmbopibpdpiaaGreatDoor

-- AxTk
namespace Go.Proofs.YthmmbopibpdpiaaGreatDoor
open Go.RowKit

set_option maxRecDepth 100000 in
set_option maxHeartbeats 4000000 in
theorem AppBytes_any {T : World → Prop} (K : AppK T) (A : Option Addr) (L c : Nat) (bs : List UInt8) (w : World) (hT : T w) (hL : L = bs.length) (hLm : L ≤ maxLen) (hA : HasA w w.heap.size A bs) :
    Calls Tryz.prog 3 #[.slice A L c] w fun e W' => e = .returned (.bool true) ∧ Below w.heap.size w W' := by
  have HT := Lib.hid hT
  have HL := Lib.hid hL
  have HA := Lib.hid hA
  have hLi : (L : Int) ≤ 9223372036854775807 := by simp only [maxLen] at hLm; omega
  clear hT hL hA hLm
  go_enter Tryz.func3, Tryz.ntmps3
  by_cases h3 : 3000 < L
  · have h3i : (3000 : Int) < L := by omega
    go_wp2_with fail
    refine (wakes11_any K w HT.out).mono ?_
    rintro e W1 ⟨rfl, hb1⟩
    have B1 := Lib.hid hb1
    clear hb1
    go_wp2
    go_ret
    exact ⟨rfl, B1.out⟩
  · have h3i : ¬ (3000 : Int) < L := by omega
    have HO := Lib.hid (K.of A L c bs w HT.out HL.out (by omega) HA.out)
    have H3 := Lib.hid h3
    clear h3
    go_wp2_with fail
    refine HO.out.mono ?_
    rintro e W2 ⟨n, a, ho, hb2, hcase⟩
    have OF := Lib.hid ho
    have B2 := Lib.hid hb2
    clear ho hb2 HO
    rcases hcase with ⟨hn, F, S, rfl, hpl, hF⟩ | ⟨hn, rfl⟩
    · subst hn
      obtain ⟨hbs, hlp, hls⟩ := OF.out.ok rfl
      have hLX : LiveX K w S a (fun _ => False) W2 := ⟨⟨F, hpl, fun k hk => ⟨hF k hk, id⟩⟩, B2.out, fun _ h => h.elim⟩
      have hPut : ∀ w', Grew W2 w' → Calls Tryz.prog 6 #[.pointer (some ⟨S, 0, none⟩)] w' fun e W' => ∃ v m, e = .returned v ∧ W'.ownsRow w'.heap.size 5 1 v m (bs.map enc) ∧ Below w'.heap.size w' W' := fun w' h => by
        obtain ⟨F', f1, _⟩ := (hLX.grew h).ex
        have hp := K.bytes f1 (K.grew HT.out (hLX.grew h).below) (by rw [← hbs, ← HL.out]; have := H3.out; omega) hlp hls
        rw [hbs]
        exact hp
      have hWk : ∀ w', Grew W2 w' → Calls Tryz.prog 4 #[] w' fun e W' => e = .returned (.bool true) ∧ Below w'.heap.size w' W' := fun w' h => wakes11_any K w' (K.grew HT.out (hLX.grew h).below)
      have HP := Lib.hid hPut
      have HW := Lib.hid hWk
      clear hpl hF hLX hPut hWk hbs OF
      go_upto_region 6 with (fail)
      refine axtakes_ok S A L c bs HL.out _ W2 _ rfl rfl rfl HP.out (HA.out.below' B2.out) HW.out ?_
      intro v30 w7 _ hl7
      have H7 := Lib.hid (B2.out.trans (Below.mono hl7 B2.out.size))
      clear hl7
      simp only [puts, List.foldl_cons, List.foldl_nil, Act.put, List.setIfInBounds_toArray, List.set_cons_succ, List.set_cons_zero]
      go_wp2
      go_ret
      exact ⟨rfl, H7.out⟩
    · have hc := OF.out.no hn
      rcases hc with rfl | rfl
      all_goals
        clear hn
        go_wp2_with fail
        refine (wakes11_any K W2 (K.grew HT.out B2.out)).mono ?_
        rintro e W3 ⟨rfl, hb3⟩
        have B3 := Lib.hid (B2.out.trans (Below.mono hb3 B2.out.size))
        clear hb3
        go_wp2
        go_ret
        exact ⟨rfl, B3.out⟩
end Go.Proofs.YthmmbopibpdpiaaGreatDoor
