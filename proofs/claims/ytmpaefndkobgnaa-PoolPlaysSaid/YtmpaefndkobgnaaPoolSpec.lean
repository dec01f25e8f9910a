/- What the walks of the laws on pools ask of the program's pool; the walk of wakes. -/
import Derived.Test.YtmpaefndkobgnaaPoolRefNew
namespace Go.Proofs.Ytmpaefndkobgnaa
open Go.RowKit

/-- A handle as a value. -/
def hV (i : Int) (g : Nat) : Value := .agg #[.int .i64 i, .int .u32 (g : Int)]
def InI (i : Int) : Prop := -9223372036854775808 ≤ i ∧ i ≤ 9223372036854775807

/-- A pool of the program: how it lies is left open; what its calls come to is told by the document's state. -/
structure PoolK where
  Pl : (Nat → Prop) → World → Nat → QS → Prop
  keep : ∀ {F G : Nat → Prop} {w w' : World} {R : Nat} {s : QS}, Pl F w R s → Only G w w' → (∀ k, F k → ¬ G k) → Pl F w' R s
  lt : ∀ {F : Nat → Prop} {w : World} {R : Nat} {s : QS}, Pl F w R s → ∀ k, F k → k < w.heap.size
  new_ok : ∀ (n sz : Nat) (w : World), 0 < n → n ≤ 4096 → 0 < sz → sz ≤ 65536 → Calls Try.prog 5 #[.int .i64 (n : Int), .int .i64 (sz : Int)] w fun e W' =>
    ∃ F R, e = .returned (.tuple #[.pointer (some ⟨R, 0, none⟩), .int .i64 0]) ∧ Pl F W' R (QS.new n sz) ∧ (∀ k, F k → w.heap.size ≤ k) ∧ Below w.heap.size w W'
  new_bad : ∀ (n sz : Int) (w : World), InI n → InI sz → ¬ (1 ≤ n ∧ n ≤ 4096 ∧ 1 ≤ sz ∧ sz ≤ 65536) → Calls Try.prog 5 #[.int .i64 n, .int .i64 sz] w fun e W' =>
    e = .returned (.tuple #[.pointer none, .int .i64 1]) ∧ Below w.heap.size w W'
  get_none : ∀ {F : Nat → Prop} {w : World} {R : Nat} {s : QS}, Pl F w R s → s.N = [] → Calls Try.prog 6 #[.pointer (some ⟨R, 0, none⟩)] w fun e W' =>
    e = .returned (.tuple #[hV 0 0, .int .i64 30]) ∧ ∃ F', Pl F' W' R s ∧ Only F w W' ∧ ∀ k, F' k → F k ∨ w.heap.size ≤ k
  get_one : ∀ {F : Nat → Prop} {w : World} {R : Nat} {s : QS} {i : Nat} {N' : List Nat}, Pl F w R s → s.N = i :: N' → Calls Try.prog 6 #[.pointer (some ⟨R, 0, none⟩)] w fun e W' =>
    e = .returned (.tuple #[hV (i : Int) ((s.G.getD i 0 + 1) % 4294967296), .int .i64 0]) ∧ ∃ F', Pl F' W' R (s.getS i N') ∧ Only F w W' ∧ ∀ k, F' k → F k ∨ w.heap.size ≤ k
  back : ∀ {F : Nat → Prop} {w : World} {R : Nat} {s : QS} (i : Int) (g : Nat), Pl F w R s → InI i → g < 4294967296 → (s.good i g = true → s.N.length < s.n) → Calls Try.prog 8 #[.pointer (some ⟨R, 0, none⟩), hV i g] w fun e W' =>
    e = .returned (.int .i64 (s.backR i g : Int)) ∧ ∃ F', Pl F' W' R (s.backS i g) ∧ Only F w W' ∧ ∀ k, F' k → F k ∨ w.heap.size ≤ k
  set : ∀ {F : Nat → Prop} {w : World} {R : Nat} {s : QS} (i : Int) (g : Nat) (A : Option Addr) (L c : Nat) (x : List UInt8), Pl F w R s → InI i → g < 4294967296 → L = x.length → L ≤ 140737488355328 → L ≤ c → HasA w w.heap.size A x → (∀ b o, A = some ⟨b, o, none⟩ → ¬ F b) →
    Calls Try.prog 9 #[.pointer (some ⟨R, 0, none⟩), hV i g, .slice A L c] w fun e W' =>
    e = .returned (.int .i64 (s.setR i g x : Int)) ∧ ∃ F', Pl F' W' R (s.setS i g x) ∧ Only F w W' ∧ ∀ k, F' k → F k ∨ w.heap.size ≤ k
  bytes_ok : ∀ {F : Nat → Prop} {w : World} {R : Nat} {s : QS} (i : Int) (g : Nat), Pl F w R s → InI i → g < 4294967296 → s.good i g = true → Calls Try.prog 7 #[.pointer (some ⟨R, 0, none⟩), hV i g] w fun e W' =>
    ∃ v L, e = .returned (.tuple #[v, .int .i64 0]) ∧ W'.ownsRow w.heap.size 5 1 v L ((s.B.getD i.toNat []).map enc) ∧ ∃ F', Pl F' W' R s ∧ Only F w W' ∧ (∀ k, F' k → F k ∨ w.heap.size ≤ k) ∧ ∀ k, v.ownBlock = some k → ¬ F' k
  bytes_bad : ∀ {F : Nat → Prop} {w : World} {R : Nat} {s : QS} (i : Int) (g : Nat), Pl F w R s → InI i → g < 4294967296 → s.good i g = false → Calls Try.prog 7 #[.pointer (some ⟨R, 0, none⟩), hV i g] w fun e W' =>
    ∃ A c, e = .returned (.tuple #[.slice A 0 c, .int .i64 15]) ∧ ∃ F', Pl F' W' R s ∧ Only F w W' ∧ ∀ k, F' k → F k ∨ w.heap.size ≤ k
  free : ∀ {F : Nat → Prop} {w : World} {R : Nat} {s : QS}, Pl F w R s → Calls Try.prog 10 #[.pointer (some ⟨R, 0, none⟩)] w fun e W' =>
    e = .returned (.int .i64 (s.N.length : Int)) ∧ Below w.heap.size w W'
  nil_get : ∀ w : World, Calls Try.prog 6 #[.pointer none] w fun e W' => e = .returned (.tuple #[hV 0 0, .int .i64 2]) ∧ Below w.heap.size w W'
  nil_back : ∀ w : World, Calls Try.prog 8 #[.pointer none, hV 0 0] w fun e W' => e = .returned (.int .i64 2) ∧ Below w.heap.size w W'
  nil_set : ∀ w : World, Calls Try.prog 9 #[.pointer none, hV 0 0, .slice none 0 0] w fun e W' => e = .returned (.int .i64 2) ∧ Below w.heap.size w W'
  nil_bytes : ∀ w : World, Calls Try.prog 7 #[.pointer none, hV 0 0] w fun e W' => ∃ A c, e = .returned (.tuple #[.slice A 0 c, .int .i64 2]) ∧ Below w.heap.size w W'
  nil_free : ∀ w : World, Calls Try.prog 10 #[.pointer none] w fun e W' => e = .returned (.int .i64 0) ∧ Below w.heap.size w W'

/-- A pool that came since w, beside blocks M of the law's own; nothing else changed. -/
structure Live (P : PoolK) (w : World) (R : Nat) (s : QS) (M : Nat → Prop) (W : World) : Prop where
  ex : ∃ F, P.Pl F W R s ∧ (∀ k, F k → w.heap.size ≤ k) ∧ ∀ k, F k → ¬ M k
  mine : ∀ k, M k → w.heap.size ≤ k ∧ k < W.heap.size
  below : Below w.heap.size w W
/-- What a call on the pool leaves. -/
structure Mv (M : Nat → Prop) (W W' : World) : Prop where
  size : W.heap.size ≤ W'.heap.size
  same : ∀ k, M k → W'.heap[k]? = W.heap[k]?
section
variable {P : PoolK} {w W W' : World} {R : Nat} {s : QS} {M M' : Nat → Prop}
theorem Mv.blk {o : Obj} {k : Nat} (h : Mv M W W') (hk : W.heap[k]? = some o) (hm : M k) : W'.heap[k]? = some o := (h.same k hm).trans hk
theorem Mv.trans {W'' : World} (h : Mv M W W') (k : Mv M W' W'') : Mv M W W'' := ⟨Nat.le_trans h.size k.size, fun i hi => (k.same i hi).trans (h.same i hi)⟩
theorem Live.step {s' : QS} {F F' : Nat → Prop} (h1 : Live P w R s M W) (h2 : ∀ k, F k → w.heap.size ≤ k) (h2' : ∀ k, F k → ¬ M k) (h3 : P.Pl F' W' R s') (h4 : Only F W W') (h5 : ∀ k, F' k → F k ∨ W.heap.size ≤ k) : Live P w R s' M W' ∧ Mv M W W' :=
  ⟨⟨⟨F', h3, fun k hk => (h5 k hk).elim (h2 k) (fun h => Nat.le_trans h1.below.size h), fun k hk hm => (h5 k hk).elim (fun h => h2' k h hm) (fun h => absurd (h1.mine k hm).2 (Nat.not_lt.2 h))⟩, fun k hk => ⟨(h1.mine k hk).1, Nat.lt_of_lt_of_le (h1.mine k hk).2 h4.size⟩, h1.below.trans (h4.below h1.below.size h2)⟩,
   h4.size, fun k hk => h4.block k (h1.mine k hk).2 (fun hf => h2' k hf hk)⟩
/-- The law's own steps. -/
theorem Live.own (h : Live P w R s M W) (ho : Only M W W') (hM : ∀ k, M' k → (M k ∨ W.heap.size ≤ k) ∧ k < W'.heap.size) : Live P w R s M' W' := by
  obtain ⟨F, h1, h2, h3⟩ := h.ex
  refine ⟨⟨F, P.keep h1 ho h3, h2, fun k hk hm => (hM k hm).1.elim (h3 k hk) (fun h => absurd (P.lt h1 k hk) (Nat.not_lt.2 h))⟩, fun k hk => ⟨(hM k hk).1.elim (fun hm => (h.mine k hm).1) (fun hl => Nat.le_trans h.below.size hl), (hM k hk).2⟩, ?_⟩
  exact h.below.trans (ho.below h.below.size (fun k hk => (h.mine k hk).1))
theorem Live.alloc (h : Live P w R s M W) (o : Obj) : Live P w R s (fun k => M k ∨ k = W.heap.size) (W.alloc o) :=
  h.own ((Only.refl _ _).alloc o) (fun k hk => hk.elim (fun hm => ⟨.inl hm, by have := (h.mine k hm).2; simp; omega⟩) (fun e => ⟨.inr (by omega), by simp; omega⟩))
theorem Live.grew (h : Live P w R s M W) (hg : Below W.heap.size W W') : Live P w R s M W' ∧ Mv M W W' := by
  refine ⟨h.own (Only.of_grew hg) (fun k hk => ⟨.inl hk, Nat.lt_of_lt_of_le (h.mine k hk).2 hg.size⟩), hg.size, fun k hk => hg.block k (h.mine k hk).2⟩
theorem Live.new (P : PoolK) (n sz : Nat) (w : World) (h1 : 0 < n) (h2 : n ≤ 4096) (h3 : 0 < sz) (h4 : sz ≤ 65536) : Calls Try.prog 5 #[.int .i64 (n : Int), .int .i64 (sz : Int)] w fun e W' =>
    ∃ R, e = .returned (.tuple #[.pointer (some ⟨R, 0, none⟩), .int .i64 0]) ∧ Live P w R (QS.new n sz) (fun _ => False) W' :=
  (P.new_ok n sz w h1 h2 h3 h4).mono fun _ _ ⟨F, R, h1, h2, h3, h4⟩ => ⟨R, h1, ⟨F, h2, h3, fun _ _ h => h⟩, fun _ h => h.elim, h4⟩
theorem Live.get_none (h : Live P w R s M W) (hN : s.N = []) : Calls Try.prog 6 #[.pointer (some ⟨R, 0, none⟩)] W fun e W' =>
    e = .returned (.tuple #[hV 0 0, .int .i64 30]) ∧ Live P w R s M W' ∧ Mv M W W' := by
  obtain ⟨F, h1, h2, h3⟩ := h.ex
  exact (P.get_none h1 hN).mono fun _ _ ⟨he, F', h4, h5, h6⟩ => ⟨he, h.step h2 h3 h4 h5 h6⟩
theorem Live.get_one {i : Nat} {N' : List Nat} (h : Live P w R s M W) (hN : s.N = i :: N') : Calls Try.prog 6 #[.pointer (some ⟨R, 0, none⟩)] W fun e W' =>
    e = .returned (.tuple #[hV (i : Int) ((s.G.getD i 0 + 1) % 4294967296), .int .i64 0]) ∧ Live P w R (s.getS i N') M W' ∧ Mv M W W' := by
  obtain ⟨F, h1, h2, h3⟩ := h.ex
  exact (P.get_one h1 hN).mono fun _ _ ⟨he, F', h4, h5, h6⟩ => ⟨he, h.step h2 h3 h4 h5 h6⟩
theorem Live.back (i : Int) (g : Nat) (h : Live P w R s M W) (hi : InI i) (hg : g < 4294967296) (hr : s.good i g = true → s.N.length < s.n) : Calls Try.prog 8 #[.pointer (some ⟨R, 0, none⟩), hV i g] W fun e W' =>
    e = .returned (.int .i64 (s.backR i g : Int)) ∧ Live P w R (s.backS i g) M W' ∧ Mv M W W' := by
  obtain ⟨F, h1, h2, h3⟩ := h.ex
  exact (P.back i g h1 hi hg hr).mono fun _ _ ⟨he, F', h4, h5, h6⟩ => ⟨he, h.step h2 h3 h4 h5 h6⟩
theorem Live.set (i : Int) (g : Nat) (A : Option Addr) (L c : Nat) (x : List UInt8) (h : Live P w R s M W) (hi : InI i) (hg : g < 4294967296) (hL : L = x.length) (hl : L ≤ 140737488355328) (hc : L ≤ c) (hA : HasA W W.heap.size A x) (hm : ∀ b o, A = some ⟨b, o, none⟩ → M b) :
    Calls Try.prog 9 #[.pointer (some ⟨R, 0, none⟩), hV i g, .slice A L c] W fun e W' => e = .returned (.int .i64 (s.setR i g x : Int)) ∧ Live P w R (s.setS i g x) M W' ∧ Mv M W W' := by
  obtain ⟨F, h1, h2, h3⟩ := h.ex
  exact (P.set i g A L c x h1 hi hg hL hl hc hA (fun b o e hf => h3 b hf (hm b o e))).mono fun _ _ ⟨he, F', h4, h5, h6⟩ => ⟨he, h.step h2 h3 h4 h5 h6⟩
theorem Live.bytes_ok (i : Int) (g : Nat) (h : Live P w R s M W) (hi : InI i) (hg : g < 4294967296) (hgd : s.good i g = true) : Calls Try.prog 7 #[.pointer (some ⟨R, 0, none⟩), hV i g] W fun e W' =>
    ∃ v L, e = .returned (.tuple #[v, .int .i64 0]) ∧ W'.ownsRow W.heap.size 5 1 v L ((s.B.getD i.toNat []).map enc) ∧ Live P w R s (fun k => M k ∨ v.ownBlock = some k) W' ∧ Mv M W W' := by
  obtain ⟨F, h1, h2, h3⟩ := h.ex
  refine (P.bytes_ok i g h1 hi hg hgd).mono ?_
  rintro e W' ⟨v, L, he, ho, F', h4, h5, h6, h7⟩
  obtain ⟨hl, hm⟩ := h.step h2 h3 h4 h5 h6
  refine ⟨v, L, he, ho, ⟨⟨F', h4, fun k hk => (h6 k hk).elim (h2 k) (fun h' => Nat.le_trans h.below.size h'), fun k hk hm => hm.elim (fun hm => (h6 k hk).elim (fun h => h3 k h hm) (fun h' => absurd (h.mine k hm).2 (Nat.not_lt.2 h'))) (fun e => h7 k e hk)⟩, fun k hk => hk.elim (fun hm => hl.mine k hm) (fun e => ⟨Nat.le_trans h.below.size (ho.lt k e).1, (ho.lt k e).2⟩), hl.below⟩, hm⟩
theorem Live.bytes_bad (i : Int) (g : Nat) (h : Live P w R s M W) (hi : InI i) (hg : g < 4294967296) (hgd : s.good i g = false) : Calls Try.prog 7 #[.pointer (some ⟨R, 0, none⟩), hV i g] W fun e W' =>
    ∃ A c, e = .returned (.tuple #[.slice A 0 c, .int .i64 15]) ∧ Live P w R s M W' ∧ Mv M W W' := by
  obtain ⟨F, h1, h2, h3⟩ := h.ex
  exact (P.bytes_bad i g h1 hi hg hgd).mono fun _ _ ⟨A, c, he, F', h4, h5, h6⟩ => ⟨A, c, he, h.step h2 h3 h4 h5 h6⟩
theorem Live.free (h : Live P w R s M W) : Calls Try.prog 10 #[.pointer (some ⟨R, 0, none⟩)] W fun e W' =>
    e = .returned (.int .i64 (s.N.length : Int)) ∧ Live P w R s M W' ∧ Mv M W W' := by
  obtain ⟨F, h1, h2, h3⟩ := h.ex
  exact (P.free h1).mono fun _ _ ⟨he, hb⟩ => ⟨he, h.grew hb⟩
end
end Go.Proofs.Ytmpaefndkobgnaa
