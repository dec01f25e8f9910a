/- A range over a function that walks a map of its own: iterator and body are tied by what holds at each call of yield; the iterator may turn its own walk's block. -/
import Derived.Test.YthmmbopibpdpiaaGreatDoorMBaseO
import Derived.RangeFuncSeq
import Derived.Shelf.AbstractIn
import Derived.Sort.MapsRangeIn
namespace Go.Proofs.YthmmbopibpdpiaaGreatDoor
open Go.RowKit

/-- Whatever is neither cells nor a walk's object and lies at or beyond B lies as it lay. -/
structure KeepsL (B : Nat) (W W' : World) : Prop where
  size : W.heap.size ≤ W'.heap.size
  same : ∀ (k : Nat) (o : Obj), B ≤ k → W.heap[k]? = some o → o.isCells = false → o.isWalk = false → W'.heap[k]? = some o
theorem KeepsFrom.l {B : Nat} {W W' : World} (h : KeepsFrom B W W') : KeepsL B W W' := ⟨h.size, fun k o h1 h2 h3 _ => h.same k o h1 h2 h3⟩
theorem KeepsL.of_grownBy {B : Nat} {W W' : World} {row : Option Nat} (hg : W.grownBy W' row) (hr : ∀ r, row = some r → ∃ o : Obj, W.heap[r]? = some o ∧ o.isWalk = true) : KeepsL B W W' :=
  ⟨hg.size, fun k o _ hk _ hw => (hg.block k (Array.getElem?_eq_some_iff.1 hk).1 (fun e => by
    obtain ⟨o', h1, h2⟩ := hr k e.symm
    rw [hk] at h1
    cases h1
    rw [hw] at h2
    cases h2)).trans hk⟩
/-- I abides the turn of a block that holds neither cells nor a walk and lies at or beyond B. -/
def AbidesL (B : Nat) (I : World → Prop) : Prop :=
  ∀ W W' row, I W → W.grownBy W' row → (∀ r, row = some r → B ≤ r ∧ ∃ o : Obj, W.heap[r]? = some o ∧ o.isCells = false ∧ o.isWalk = false) → I W'
theorem Abides.l {B : Nat} {I : World → Prop} (h : Abides B I) : AbidesL B I := fun W W' row hI hg hr => h W W' row hI hg (fun r e => ⟨(hr r e).1, by obtain ⟨_, o, h1, h2, _⟩ := hr r e; exact ⟨o, h1, h2⟩⟩)
theorem AbidesL.putObj {B : Nat} {I : World → Prop} (h : AbidesL B I) {W : World} {l : Nat} {o : Obj} (o' : Obj) (hs : I W) (hB : B ≤ l) (hl : W.heap[l]? = some o) (ho : o.isCells = false) (hw : o.isWalk = false) : I (W.putObj l o') :=
  h W _ (some l) hs (grownBy_putObj' W l o') (fun r e => by cases e; exact ⟨hB, o, hl, ho, hw⟩)
theorem AbidesL.alloc {B : Nat} {I : World → Prop} (h : AbidesL B I) {W : World} (o : Obj) (hs : I W) : I (W.alloc o) :=
  h W _ none hs (World.grownBy_alloc W o none) (fun r e => by cases e)
theorem AbidesL.and {B : Nat} {I J : World → Prop} (h : AbidesL B I) (k : AbidesL B J) : AbidesL B (fun W => I W ∧ J W) :=
  fun W W' row hs hg hr => ⟨h W W' row hs.1 hg hr, k W W' row hs.2 hg hr⟩
theorem AbidesL.ex {B : Nat} {β : Type} {I : β → World → Prop} (h : ∀ b, AbidesL B (I b)) : AbidesL B (fun W => ∃ b, I b W) :=
  fun W W' row ⟨b, hb⟩ hg hr => ⟨b, h b W W' row hb hg hr⟩
/-- A range over a map under way abides. -/
theorem AbidesL.ranges {H : Type} {P : Program} {k : TypeId} {R : Value → Option (DataW H × List MemPlace)} {B b r n : Nat} {D : DataW H} {left : Lit → Bool} {cnt : Nat} : AbidesL B (fun W => W.ranges P k R b r n D left cnt) :=
  fun W W' row h hg hr => h.of_walks ⟨hg.size, fun i o hi hw => (hg.block i (Array.getElem?_eq_some_iff.1 hi).1 (fun e => by
    obtain ⟨_, o', h1, _, h2⟩ := hr i e.symm
    rw [hi] at h1
    cases h1
    rw [hw] at h2
    cases h2)).trans hi⟩
theorem AbidesL.owns {H : Type} {P : Program} {k : TypeId} {R : Value → Option (DataW H × List MemPlace)} {B b n : Nat} {D : DataW H} : AbidesL B (fun W => W.ownsMap P k R b n D) := by
  rintro W W' row ⟨es, clock, hb, rest⟩ hg hr
  refine ⟨es, clock, (hg.block b (Array.getElem?_eq_some_iff.1 hb).1 (fun e => ?_)).trans hb, rest⟩
  obtain ⟨_, o', h1, _, h2⟩ := hr b e.symm
  rw [hb] at h1
  cases h1
  cases h2
/-- What the iterator owes: for whatever book-keeping G (at a jump Gx) of the loop's, if a call of yield at Iy comes back in Io (or, with false, in Ix), the iterator comes back in Id (or in Ixd). -/
def TiedSeqL {γ : Type} (F : Fence) (n : Nat) (P : Program) (gf : Nat) (fb lb : Array Value) (encs : γ → Array Value) (B : Nat)
    (I0 Id : World → Prop) (Iy Io : γ → World → Prop) (Ix Ixd : Code → World → Prop) : Prop :=
  ∀ (l : Nat) (G : World → Prop) (Gx : Code → World → Prop), (∀ A C, G A → KeepsL B A C → G C) → (∀ c A C, Gx c A → KeepsL B A C → Gx c C) →
    (∀ x W, Iy x W → G W → YieldAt F (n - 1) P l (encs x) W fun e W' =>
      (e = .returned (.bool true) ∧ Io x W' ∧ G W') ∨ (e = .returned (.bool false) ∧ ∃ c, Ix c W' ∧ Gx c W')) →
    ∀ W, I0 W → G W → CallsIn F n P gf (fb ++ #[.func (.yield l) #[] #[]] ++ lb) W fun e W' => (∃ v, e = .returned v) ∧ ((Id W' ∧ G W') ∨ (∃ c, Ixd c W' ∧ Gx c W'))
theorem wpIn_rangeFunc_tiedL {F : Fence} {n : Nat} {P : Program} {γ : Type} {g : Operand} {ps : Array Tmp} {assign body : Code} {Q : Exit → Act → World → Prop} {a : Act} {w : World}
    (hro : F.round = none) (h1 : 1 ≤ n) {gf : Nat} {fb lb : Array Value} (hg : a.eval g = .func (.func gf) fb lb) (hFg : F.fn gf) (eg : ∀ args w, (callFunc gf args).run P w = .ok (.enter gf args) w)
    {encs : γ → Array Value} (hps : ∀ x, (encs x).size = ps.size)
    {I0 Id : World → Prop} {Iy Io : γ → World → Prop} {Ix Ixd : Code → World → Prop}
    (hI0 : AbidesL w.heap.size I0) (hId : AbidesL w.heap.size Id) (hIy : ∀ x, AbidesL w.heap.size (Iy x)) (hIo : ∀ x, AbidesL w.heap.size (Io x)) (hIx : ∀ c, AbidesL w.heap.size (Ix c)) (hIxd : ∀ c, AbidesL w.heap.size (Ixd c))
    (hseq : TiedSeqL F (n - 1) P gf fb lb encs w.heap.size I0 Id Iy Io Ix Ixd) (h0 : I0 w) (a₁ : γ → Act)
    (hassign : ∀ (l : Nat) (x : γ) (W : World) (K : Act → World → Prop), K (a₁ x) W →
      assign.wpIn (F.inRound l) (n - 1 - 1) P (Exit.then K (fun _ _ _ => False)) { tmps := (ps.zip (encs x)).foldl (fun t (p, v) => t.setIfInBounds p v) a.tmps, defers := [] } W)
    (hbody : ∀ (l : Nat) (x : γ) (W : World), Iy x W → w.heap.size ≤ W.heap.size → body.wpIn (F.inRound l) (n - 1 - 1) P (tiedPost w.heap.size (Io x) Ix W) (a₁ x) W)
    (hdone : ∀ (D : Nat) (W : World), w.heap.size ≤ D → Id W → W.heap[D]? = some (.deferred (some [])) → Q .normal { a with defers := { target := .collected D, args := #[] } :: a.defers } W)
    (hstop : ∀ (D : Nat) (c : Code) (W : World), w.heap.size ≤ D → Ixd c W → W.heap[D]? = some (.deferred (some [])) → c.wpIn F n P Q { a with defers := { target := .collected D, args := #[] } :: a.defers } W) :
    (Code.rangeFunc g ps assign body).wpIn F n P Q a w := by
  refine wpIn_rangeFunc ?_
  intro fn hfn
  rw [hro]
  obtain ⟨rec, hrec⟩ : ∃ rec : LoopState → Option Code → Loop, rec = fun st pe => { state := st, pending := pe, fn, tmps := a.tmps, params := ps, assign, body, defers := w.heap.size } := ⟨_, rfl⟩
  obtain ⟨W1, hW1⟩ : ∃ W1, (w.alloc (.deferred (some []))).alloc (.loop (rec .ready none)) = W1 := ⟨_, rfl⟩
  have hL1 : W1.heap[w.heap.size + 1]? = some (.loop (rec .ready none)) := by
    rw [← hW1]; have := World.alloc_heap_new (w.alloc (.deferred (some []))) (.loop (rec .ready none)); rwa [World.size_alloc] at this
  have hK1 : W1.heap[w.heap.size]? = some (.deferred (some [])) := by
    rw [← hW1]; exact (Below.heap_alloc _ _ _ (by simp)).trans (World.alloc_heap_new w _)
  have hI1 : I0 W1 := by rw [← hW1]; exact hI0.alloc _ (hI0.alloc _ h0)
  refine ⟨w.heap.size + 1, [{ target := .collected w.heap.size, args := #[] }], W1, { target := .fn (.func gf) lb, args := fb ++ #[.func (.yield (w.heap.size + 1)) #[] #[]] }, W1, gf,
    fb ++ #[.func (.yield (w.heap.size + 1)) #[] #[]] ++ lb, W1, ?_, ?_, ?_, ?_, fun _ => h1, ?_⟩
  · rw [← hW1, hrec]; exact run_enterLoop_outer _ _ _ _ _
  · simp only [resolve, hg]
    simp [go_sem]
  · intro f' hf'; simp [Target.leads] at hf'; subst hf'; exact hFg
  · simp [invoke, go_sem, eg]
  · refine (hseq (w.heap.size + 1)
      (fun W => W.heap[w.heap.size + 1]? = some (.loop (rec .ready none)) ∧ W.heap[w.heap.size]? = some (.deferred (some [])))
      (fun c W => W.heap[w.heap.size + 1]? = some (.loop (rec .done (some c))) ∧ W.heap[w.heap.size]? = some (.deferred (some [])))
      (fun A C h k => ⟨k.same _ _ (by omega) h.1 rfl rfl, k.same _ _ (Nat.le_refl _) h.2 rfl rfl⟩)
      (fun c A C h k => ⟨k.same _ _ (by omega) h.1 rfl rfl, k.same _ _ (Nat.le_refl _) h.2 rfl rfl⟩)
      ?_ W1 hI1 ⟨hL1, hK1⟩).mono ?_
    · rintro x W hi ⟨hl, hk⟩
      have hlt : w.heap.size + 1 < W.heap.size := (Array.getElem?_eq_some_iff.1 hl).1
      have hy := run_yield (P := P) (args := encs x) hl (by rw [hrec]; exact hps x)
      rw [hrec] at hy
      refine ⟨fn, _, assign, body, hy, roundIn_of_wpIn hfn (hassign _ x W _ ⟨_, run_beginRound hl (by rw [hrec]), ?_⟩)⟩
      have hl2 : (W.putObj (w.heap.size + 1) (.loop { rec .ready none with state := .busy })).heap[w.heap.size + 1]? = some (.loop { rec .ready none with state := .busy }) := World.putObj_heap_same hlt
      have hk2 : (W.putObj (w.heap.size + 1) (.loop { rec .ready none with state := .busy })).heap[w.heap.size]? = some (.deferred (some [])) := (World.putObj_heap_other (by omega)).trans hk
      refine wpIn_mono (hbody _ x _ ((hIy x).putObj _ hi (by omega) hl rfl rfl) (Nat.le_trans (by omega : w.heap.size ≤ W.heap.size) (grownBy_putObj' W _ _).size)) ?_
      have fin : ∀ (jump : Option Code) (W3 : World), KeepsFrom w.heap.size (W.putObj (w.heap.size + 1) (.loop { rec .ready none with state := .busy })) W3 →
          (Instr.endRound (w.heap.size + 1) jump).run P W3 = .ok (.bool jump.isNone) (W3.putObj (w.heap.size + 1) (.loop (rec (if jump.isNone then .ready else .done) jump))) ∧
          W3.heap[w.heap.size + 1]? = some (.loop { rec .ready none with state := .busy }) ∧
          (W3.putObj (w.heap.size + 1) (.loop (rec (if jump.isNone then .ready else .done) jump))).heap[w.heap.size + 1]? = some (.loop (rec (if jump.isNone then .ready else .done) jump)) ∧
          (W3.putObj (w.heap.size + 1) (.loop (rec (if jump.isNone then .ready else .done) jump))).heap[w.heap.size]? = some (.deferred (some [])) := fun jump W3 hk3 => by
        have hl3 := hk3.same _ _ (by omega) hl2 rfl
        have := run_endRound (P := P) jump hl3
        rw [hrec] at this ⊢
        exact ⟨this, by rw [hrec] at hl3; exact hl3, World.putObj_heap_same (Array.getElem?_eq_some_iff.1 hl3).1, (World.putObj_heap_other (by omega)).trans (hk3.same _ _ (Nat.le_refl _) hk2 rfl)⟩
      rintro e a3 W3 hp
      cases e with
      | normal =>
        obtain ⟨hk3, hi3⟩ := hp
        obtain ⟨hr, hl3, hl4, hk4⟩ := fin none W3 hk3
        exact ⟨_, _, hr, .inl ⟨rfl, (hIo x).putObj _ hi3 (by omega) hl3 rfl rfl, hl4, hk4⟩⟩
      | ret =>
        obtain ⟨hk3, hi3⟩ := hp
        obtain ⟨hr, hl3, hl4, hk4⟩ := fin (some .ret) W3 hk3
        exact ⟨_, _, hr, .inr ⟨rfl, .ret, (hIx _).putObj _ hi3 (by omega) hl3 rfl rfl, hl4, hk4⟩⟩
      | exit id =>
        obtain ⟨hk3, hi3⟩ := hp
        obtain ⟨hr, hl3, hl4, hk4⟩ := fin (some (.exit id)) W3 hk3
        exact ⟨_, _, hr, .inr ⟨rfl, .exit id, (hIx _).putObj _ hi3 (by omega) hl3 rfl rfl, hl4, hk4⟩⟩
      | goto t =>
        obtain ⟨hk3, hi3⟩ := hp
        obtain ⟨hr, hl3, hl4, hk4⟩ := fin (some (.goto t)) W3 hk3
        exact ⟨_, _, hr, .inr ⟨rfl, .goto t, (hIx _).putObj _ hi3 (by omega) hl3 rfl rfl, hl4, hk4⟩⟩
      | panic ch => exact hp.elim
      | outgrown => exact hp.elim
    · rintro e W2 ⟨⟨v, rfl⟩, (⟨hi, hl, hk⟩ | ⟨c, hi, hl, hk⟩)⟩
      · exact ⟨none, _, by have := run_endLoop (P := P) hl (by rw [hrec]; simp); rw [hrec] at this; exact this, hdone _ _ (Nat.le_refl _) (hId.putObj _ hi (by omega) hl rfl rfl) ((World.putObj_heap_other (by omega)).trans hk)⟩
      · exact ⟨some c, _, by have := run_endLoop (P := P) hl (by rw [hrec]; simp); rw [hrec] at this; exact this, hstop _ c _ (Nat.le_refl _) ((hIxd c).putObj _ hi (by omega) hl rfl rfl) ((World.putObj_heap_other (by omega)).trans hk)⟩
end Go.Proofs.YthmmbopibpdpiaaGreatDoor
