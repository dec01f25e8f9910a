/- Parts of the proof: Loop4, KsHr, KtA, KsSup, KtM, KtD. -/
import Derived.Test.YtfjmdkhemnmkpaaGreatDoorA01
import Derived.RangeFuncSeq
import Derived.Shelf.AbstractIn
import Derived.Sort.MapsRangeIn
import Derived.Test.YtfjmdkhemnmkpaaGreatDoorA14
import Derived.Test.YtfjmdkhemnmkpaaGreatDoorA03
import Derived.Deep.QuietTactic
import Derived.BigQuiet
import Derived.Handy
import Derived.Test.YtfjmdkhemnmkpaaGreatDoorA12
import Derived.Test.YtfjmdkhemnmkpaaGreatDoorA13
namespace Go.Proofs.YtfjmdkhemnmkpaaGreatDoor
open Go.RowKit
def isLD : Obj → Bool
  | .loop _ => true
  | .deferred _ => true
  | _ => false
structure KeepsD (B : Nat) (W W' : World) : Prop where
  size : W.heap.size ≤ W'.heap.size
  same : ∀ (k : Nat) (o : Obj), B ≤ k → W.heap[k]? = some o → isLD o = true → W'.heap[k]? = some o
def AbidesD (B : Nat) (I : World → Prop) : Prop :=
  ∀ W W' row, I W → W.grownBy W' row → (∀ r, row = some r → B ≤ r ∧ ∃ o : Obj, W.heap[r]? = some o ∧ isLD o = true) → I W'
theorem AbidesD.putObj {B : Nat} {I : World → Prop} (h : AbidesD B I) {W : World} {l : Nat} {o : Obj} (o' : Obj) (hs : I W) (hB : B ≤ l) (hl : W.heap[l]? = some o) (ho : isLD o = true) : I (W.putObj l o') :=
  h W _ (some l) hs (grownBy_putObj' W l o') (fun r e => by cases e; exact ⟨hB, o, hl, ho⟩)
theorem AbidesD.alloc {B : Nat} {I : World → Prop} (h : AbidesD B I) {W : World} (o : Obj) (hs : I W) : I (W.alloc o) :=
  h W _ none hs (World.grownBy_alloc W o none) (fun r e => by cases e)
theorem AbidesD.and {B : Nat} {I J : World → Prop} (h : AbidesD B I) (k : AbidesD B J) : AbidesD B (fun W => I W ∧ J W) :=
  fun W W' row hs hg hr => ⟨h W W' row hs.1 hg hr, k W W' row hs.2 hg hr⟩
theorem AbidesD.ex {B : Nat} {β : Type} {I : β → World → Prop} (h : ∀ b, AbidesD B (I b)) : AbidesD B (fun W => ∃ b, I b W) :=
  fun W W' row ⟨b, hb⟩ hg hr => ⟨b, h b W W' row hb hg hr⟩
def tiedPostD (B : Nat) (Io : World → Prop) (Ix : Code → World → Prop) (W : World) : Exit → Act → World → Prop
  | .normal, _, W' => KeepsD B W W' ∧ Io W'
  | .ret, _, W' => KeepsD B W W' ∧ Ix .ret W'
  | .exit id, _, W' => KeepsD B W W' ∧ Ix (.exit id) W'
  | .goto t, _, W' => KeepsD B W W' ∧ Ix (.goto t) W'
  | .panic _, _, _ => False
  | .outgrown, _, _ => False
def TiedSeqD {γ : Type} (F : Fence) (n : Nat) (P : Program) (gf : Nat) (fb lb : Array Value) (encs : γ → Array Value) (B : Nat)
    (I0 Id : World → Prop) (Iy Io : γ → World → Prop) (Ix Ixd : Code → World → Prop) : Prop :=
  ∀ (l : Nat) (G : World → Prop) (Gx : Code → World → Prop), (∀ A C, G A → KeepsD B A C → G C) → (∀ c A C, Gx c A → KeepsD B A C → Gx c C) →
    (∀ x W, Iy x W → G W → YieldAt F (n - 1) P l (encs x) W fun e W' =>
      (e = .returned (.bool true) ∧ Io x W' ∧ G W') ∨ (e = .returned (.bool false) ∧ ∃ c, Ix c W' ∧ Gx c W')) →
    ∀ W, I0 W → G W → CallsIn F n P gf (fb ++ #[.func (.yield l) #[] #[]] ++ lb) W fun e W' => (∃ v, e = .returned v) ∧ ((Id W' ∧ G W') ∨ (∃ c, Ixd c W' ∧ Gx c W'))
theorem wpIn_rangeFunc_tiedD {F : Fence} {n : Nat} {P : Program} {γ : Type} {g : Operand} {ps : Array Tmp} {assign body : Code} {Q : Exit → Act → World → Prop} {a : Act} {w : World}
    (hro : F.round = none) (h1 : 1 ≤ n) {gf : Nat} {fb lb : Array Value} (hg : a.eval g = .func (.func gf) fb lb) (hFg : F.fn gf) (eg : ∀ args w, (callFunc gf args).run P w = .ok (.enter gf args) w)
    {encs : γ → Array Value} (hps : ∀ x, (encs x).size = ps.size)
    {I0 Id : World → Prop} {Iy Io : γ → World → Prop} {Ix Ixd : Code → World → Prop}
    (hI0 : AbidesD w.heap.size I0) (hId : AbidesD w.heap.size Id) (hIy : ∀ x, AbidesD w.heap.size (Iy x)) (hIo : ∀ x, AbidesD w.heap.size (Io x)) (hIx : ∀ c, AbidesD w.heap.size (Ix c)) (hIxd : ∀ c, AbidesD w.heap.size (Ixd c))
    (hseq : TiedSeqD F (n - 1) P gf fb lb encs w.heap.size I0 Id Iy Io Ix Ixd) (h0 : I0 w) (a₁ : γ → Act)
    (hassign : ∀ (l : Nat) (x : γ) (W : World) (K : Act → World → Prop), K (a₁ x) W →
      assign.wpIn (F.inRound l) (n - 1 - 1) P (Exit.then K (fun _ _ _ => False)) { tmps := (ps.zip (encs x)).foldl (fun t (p, v) => t.setIfInBounds p v) a.tmps, defers := [] } W)
    (hbody : ∀ (l : Nat) (x : γ) (W : World), Iy x W → w.heap.size ≤ W.heap.size → body.wpIn (F.inRound l) (n - 1 - 1) P (tiedPostD w.heap.size (Io x) Ix W) (a₁ x) W)
    (hdone : ∀ (D : Nat) (W : World), w.heap.size ≤ D → Id W → W.heap[D]? = some (.deferred (some [])) → Q .normal { a with defers := { target := .collected D, args := #[] } :: a.defers } W)
    (hstop : ∀ (D : Nat) (c : Code) (W : World), w.heap.size ≤ D → Ixd c W → W.heap[D]? = some (.deferred (some [])) → c.wpIn F n P Q { a with defers := { target := .collected D, args := #[] } :: a.defers } W) :
    (Code.rangeFunc g ps assign body).wpIn F n P Q a w := by
  refine wpIn_rangeFunc ?_
  intro fn hfn
  rw [hro]
  obtain ⟨rec, hrec⟩ : ∃ rec : LoopState → Option Code → Loop, rec = fun st pe => { state := st, pending := pe, fn, tmps := a.tmps, params := ps, assign, body, defers := w.heap.size } := ⟨_, rfl⟩
  obtain ⟨W1, hW1⟩ : ∃ W1, (w.alloc (.deferred (some []))).alloc (.loop (rec .ready none)) = W1 := ⟨_, rfl⟩
  have hL1 : W1.heap[w.heap.size + 1]? = some (.loop (rec .ready none)) := by
    rw [← hW1]; have := World.alloc_heap_new (w.alloc (.deferred (some []))) (.loop (rec .ready none)); rwa [World.size_alloc] at this
  have hK1 : W1.heap[w.heap.size]? = some (.deferred (some [])) := by
    rw [← hW1]; exact (Below.heap_alloc _ _ _ (by simp)).trans (World.alloc_heap_new w _)
  have hI1 : I0 W1 := by rw [← hW1]; exact hI0.alloc _ (hI0.alloc _ h0)
  refine ⟨w.heap.size + 1, [{ target := .collected w.heap.size, args := #[] }], W1, { target := .fn (.func gf) lb, args := fb ++ #[.func (.yield (w.heap.size + 1)) #[] #[]] }, W1, gf,
    fb ++ #[.func (.yield (w.heap.size + 1)) #[] #[]] ++ lb, W1, ?_, ?_, ?_, ?_, fun _ => h1, ?_⟩
  · rw [← hW1, hrec]; exact run_enterLoop_outer _ _ _ _ _
  · simp only [resolve, hg]
    simp [go_sem]
  · intro f' hf'; simp [Target.leads] at hf'; subst hf'; exact hFg
  · simp [invoke, go_sem, eg]
  · refine (hseq (w.heap.size + 1)
      (fun W => W.heap[w.heap.size + 1]? = some (.loop (rec .ready none)) ∧ W.heap[w.heap.size]? = some (.deferred (some [])))
      (fun c W => W.heap[w.heap.size + 1]? = some (.loop (rec .done (some c))) ∧ W.heap[w.heap.size]? = some (.deferred (some [])))
      (fun A C h k => ⟨k.same _ _ (by omega) h.1 rfl, k.same _ _ (Nat.le_refl _) h.2 rfl⟩)
      (fun c A C h k => ⟨k.same _ _ (by omega) h.1 rfl, k.same _ _ (Nat.le_refl _) h.2 rfl⟩)
      ?_ W1 hI1 ⟨hL1, hK1⟩).mono ?_
    · rintro x W hi ⟨hl, hk⟩
      have hlt : w.heap.size + 1 < W.heap.size := (Array.getElem?_eq_some_iff.1 hl).1
      have hy := run_yield (P := P) (args := encs x) hl (by rw [hrec]; exact hps x)
      rw [hrec] at hy
      refine ⟨fn, _, assign, body, hy, roundIn_of_wpIn hfn (hassign _ x W _ ⟨_, run_beginRound hl (by rw [hrec]), ?_⟩)⟩
      have hl2 : (W.putObj (w.heap.size + 1) (.loop { rec .ready none with state := .busy })).heap[w.heap.size + 1]? = some (.loop { rec .ready none with state := .busy }) := World.putObj_heap_same hlt
      have hk2 : (W.putObj (w.heap.size + 1) (.loop { rec .ready none with state := .busy })).heap[w.heap.size]? = some (.deferred (some [])) := (World.putObj_heap_other (by omega)).trans hk
      refine wpIn_mono (hbody _ x _ ((hIy x).putObj _ hi (by omega) hl rfl) (Nat.le_trans (by omega : w.heap.size ≤ W.heap.size) (grownBy_putObj' W _ _).size)) ?_
      have fin : ∀ (jump : Option Code) (W3 : World), KeepsD w.heap.size (W.putObj (w.heap.size + 1) (.loop { rec .ready none with state := .busy })) W3 →
          (Instr.endRound (w.heap.size + 1) jump).run P W3 = .ok (.bool jump.isNone) (W3.putObj (w.heap.size + 1) (.loop (rec (if jump.isNone then .ready else .done) jump))) ∧
          W3.heap[w.heap.size + 1]? = some (.loop { rec .ready none with state := .busy }) ∧
          (W3.putObj (w.heap.size + 1) (.loop (rec (if jump.isNone then .ready else .done) jump))).heap[w.heap.size + 1]? = some (.loop (rec (if jump.isNone then .ready else .done) jump)) ∧
          (W3.putObj (w.heap.size + 1) (.loop (rec (if jump.isNone then .ready else .done) jump))).heap[w.heap.size]? = some (.deferred (some [])) := fun jump W3 hk3 => by
        have hl3 := hk3.same _ _ (by omega) hl2 rfl
        have := run_endRound (P := P) jump hl3
        rw [hrec] at this ⊢
        exact ⟨this, by rw [hrec] at hl3; exact hl3, World.putObj_heap_same (Array.getElem?_eq_some_iff.1 hl3).1, (World.putObj_heap_other (by omega)).trans (hk3.same _ _ (Nat.le_refl _) hk2 rfl)⟩
      rintro e a3 W3 hp
      cases e with
      | normal =>
        obtain ⟨hk3, hi3⟩ := hp
        obtain ⟨hr, hl3, hl4, hk4⟩ := fin none W3 hk3
        exact ⟨_, _, hr, .inl ⟨rfl, (hIo x).putObj _ hi3 (by omega) hl3 rfl, hl4, hk4⟩⟩
      | ret =>
        obtain ⟨hk3, hi3⟩ := hp
        obtain ⟨hr, hl3, hl4, hk4⟩ := fin (some .ret) W3 hk3
        exact ⟨_, _, hr, .inr ⟨rfl, .ret, (hIx _).putObj _ hi3 (by omega) hl3 rfl, hl4, hk4⟩⟩
      | exit id =>
        obtain ⟨hk3, hi3⟩ := hp
        obtain ⟨hr, hl3, hl4, hk4⟩ := fin (some (.exit id)) W3 hk3
        exact ⟨_, _, hr, .inr ⟨rfl, .exit id, (hIx _).putObj _ hi3 (by omega) hl3 rfl, hl4, hk4⟩⟩
      | goto t =>
        obtain ⟨hk3, hi3⟩ := hp
        obtain ⟨hr, hl3, hl4, hk4⟩ := fin (some (.goto t)) W3 hk3
        exact ⟨_, _, hr, .inr ⟨rfl, .goto t, (hIx _).putObj _ hi3 (by omega) hl3 rfl, hl4, hk4⟩⟩
      | panic ch => exact hp.elim
      | outgrown => exact hp.elim
    · rintro e W2 ⟨⟨v, rfl⟩, (⟨hi, hl, hk⟩ | ⟨c, hi, hl, hk⟩)⟩
      · exact ⟨none, _, by have := run_endLoop (P := P) hl (by rw [hrec]; simp); rw [hrec] at this; exact this, hdone _ _ (Nat.le_refl _) (hId.putObj _ hi (by omega) hl rfl) ((World.putObj_heap_other (by omega)).trans hk)⟩
      · exact ⟨some c, _, by have := run_endLoop (P := P) hl (by rw [hrec]; simp); rw [hrec] at this; exact this, hstop _ c _ (Nat.le_refl _) ((hIxd c).putObj _ hi (by omega) hl rfl) ((World.putObj_heap_other (by omega)).trans hk)⟩
end Go.Proofs.YtfjmdkhemnmkpaaGreatDoor

namespace Go.Proofs.YtfjmdkhemnmkpaaGreatDoor
open Go.RowKit
def HasR (w : World) (A : Option Addr) (gs : List (List Nat)) : Prop := gs ≠ [] → ∃ b o, A = some ⟨b, o, none⟩ ∧ b < w.heap.size ∧ ∀ j (h : j < gs.length), ∃ A' c', w.cell? ⟨b, o + j, none⟩ = some (.slice A' gs[j].length c') ∧ gs[j].length ≤ c' ∧ HasI w A' gs[j]
end Go.Proofs.YtfjmdkhemnmkpaaGreatDoor

namespace Go.Proofs.YtfjmdkhemnmkpaaGreatDoor
open Go.RowKit Go.Maps Go.WideMaps
structure TwK {K : Type} (kt : TypeId) (kl : K → Lit) (ok : K → Prop) (w : World) (b n : Nat) (T : K → Nat) : Prop where
  ex : ∃ D : DataW Nat, w.ownsMap Tryz.prog kt (plainElem (H := Nat) Tryz.prog 3) b n D ∧ ∀ k, ok k → Maps.has D (kl k) = decide (T k ≠ 0) ∧ (T k ≠ 0 → D.atKey (kl k) (.lit (.int .i64 0)) = .lit (.int .i64 ((T k : Int) - 1)))
theorem zeroIw (w : World) : (zeroValue 3).run Tryz.prog w = .ok (.int .i64 0) w := by kernel_rfl
section
variable {K : Type} {kt : TypeId} {kl : K → Lit} {ok : K → Prop} {w w' : World} {b n : Nat} {T : K → Nat}
theorem TwK.lt (h : TwK kt kl ok w b n T) : b < w.heap.size := by obtain ⟨D, h, _⟩ := h.ex; exact h.lt
theorem TwK.keep (h : TwK kt kl ok w b n T) (hb : w'.heap[b]? = w.heap[b]?) : TwK kt kl ok w' b n T := by
  obtain ⟨D, ⟨es, ck, h1, h2⟩, h3⟩ := h.ex
  exact ⟨D, ⟨es, ck, hb.trans h1, h2⟩, h3⟩
theorem TwK.new (w : World) : TwK kt kl ok (w.alloc (.map #[] 0)) w.heap.size 0 (fun _ => 0) :=
  ⟨.map [], World.ownsMap_made _ _ _ _, fun k _ => ⟨by simp [Maps.has], fun h => absurd rfl h⟩⟩
theorem TwK.congr (h : TwK kt kl ok w b n T) {S : K → Nat} (he : ∀ k, ok k → T k = S k) : TwK kt kl ok w b n S := by
  obtain ⟨D, h1, h2⟩ := h.ex
  exact ⟨D, h1, fun k hk => by rw [← he k hk]; exact h2 k hk⟩
theorem TwK.look (h : TwK kt kl ok w b n T) (hK : Keyed Tryz.prog kt) {mt : TypeId} (hm : Tryz.prog.underlying mt = some (.map kt 3)) {k : K} (hk : ok k) {kv : Value} (hkey : keyOf Tryz.prog kt kv = some (kl k)) :
    ∃ z : Int, (Instr.lookup mt (.map (some b)) kv true).run Tryz.prog w = .ok (.tuple #[.int .i64 z, .bool (decide (T k ≠ 0))]) w ∧ (T k ≠ 0 → z = (T k : Int) - 1) := by
  obtain ⟨D, hown, hD⟩ := h.ex
  obtain ⟨v, ps, hrun, hv⟩ := World.ownsMap.look_ok hown hK hm (zeroIw w) (plainElem_int (H := Nat) Tryz.underlying3 (a := 0) (by decide)) hkey
  obtain ⟨a, rfl, he, _⟩ := plainElem_int_inv Tryz.underlying3 hv
  rw [(hD k hk).1] at hrun
  refine ⟨a, hrun, fun h0 => ?_⟩
  have h1 := (hD k hk).2 h0
  have h2 := congrArg Prod.fst he
  simp only [h1, DataW.lit.injEq, Lit.int.injEq, true_and] at h2
  exact h2.symm
theorem TwK.put [DecidableEq K] (h : TwK kt kl ok w b n T) (hK : Keyed Tryz.prog kt) {mt : TypeId} (hm : Tryz.prog.underlying mt = some (.map kt 3)) (hn : n < maxLen) {k : K} (hkk : ok k) (hi : ∀ j, j ≠ k → kl j ≠ kl k) {kv : Value} (hkey : ∀ j, ok j → ∃ v, keyOf Tryz.prog kt v = some (kl j)) (hkv : keyOf Tryz.prog kt kv = some (kl k)) {x : Nat} (hx : x < 1000000) :
    ∃ w', (Instr.mapUpdate mt (.map (some b)) kv (.int .i64 (x : Int))).run Tryz.prog w = .ok () w' ∧ TwK kt kl ok w' b (n + 1) (fun j => if j = k then x + 1 else T j) ∧ w.grownBy w' (some b) := by
  obtain ⟨D, hown, hD⟩ := h.ex
  obtain ⟨w', hrun, h1, h2⟩ := hown.store hK hm hn hkv (plainElem_int (H := Nat) Tryz.underlying3 (a := (x : Int)) (by simp [Lit.wf, IntKind.min, IntKind.max, IntKind.signed, IntKind.bits]; omega))
  refine ⟨w', hrun, ⟨_, h1, fun j hj => ?_⟩, h2.grown⟩
  obtain ⟨vj, hvj⟩ := hkey j hj
  by_cases hjk : j = k
  · subst hjk
    rw [Maps.has_put_same hown.isMap (hK.key hvj), Maps.atKey_put_same hown.isMap (hK.key hvj)]
    simp
  · rw [Maps.has_put_other (hi j hjk), Maps.atKey_put_other (hi j hjk)]
    simpa [hjk] using hD j hj
end
def kyW (c : Nat) : Lit := .int .u32 (c : Int)
theorem kyW_ne {k j : Nat} (h : j ≠ k) : kyW j ≠ kyW k := by
  intro e
  injection e with _ e
  omega
theorem keyedUW : Maps.Keyed Tryz.prog 54 := Maps.int_keyed Tryz.underlying54
theorem keyUW {c : Nat} (h : c < 4294967296) : keyOf Tryz.prog 54 (.int .u32 (c : Int)) = some (kyW c) := keyOf_int_mk Tryz.underlying54 (by
  simp [Lit.wf, IntKind.min, IntKind.max, IntKind.signed, IntKind.bits]
  omega)
abbrev TwS (w : World) (b n : Nat) (T : ByteArray → Nat) : Prop := TwK 9 litB (fun k => k.size ≤ maxLen) w b n T
abbrev TwU (w : World) (b n : Nat) (T : Nat → Nat) : Prop := TwK 54 kyW (fun c => c < 4294967296) w b n T
section
variable {w : World} {b n : Nat}
theorem lookTS {T : ByteArray → Nat} (h : TwS w b n T) {k : ByteArray} (hk : k.size ≤ maxLen) : ∃ z : Int, (Instr.lookup 187 (.map (some b)) (.string k) true).run Tryz.prog w = .ok (.tuple #[.int .i64 z, .bool (decide (T k ≠ 0))]) w ∧ (T k ≠ 0 → z = (T k : Int) - 1) :=
  TwK.look h keyedS Tryz.underlying187 hk (keyL hk)
theorem lookTU {T : Nat → Nat} (h : TwU w b n T) {c : Nat} (hc : c < 4294967296) : ∃ z : Int, (Instr.lookup 188 (.map (some b)) (.int .u32 (c : Int)) true).run Tryz.prog w = .ok (.tuple #[.int .i64 z, .bool (decide (T c ≠ 0))]) w ∧ (T c ≠ 0 → z = (T c : Int) - 1) :=
  TwK.look h keyedUW Tryz.underlying188 hc (keyUW hc)
theorem putTS {T : ByteArray → Nat} (h : TwS w b n T) (hn : n < maxLen) {k : ByteArray} (hk : k.size ≤ maxLen) {x : Nat} (hx : x < 1000000) : ∃ w', (Instr.mapUpdate 187 (.map (some b)) (.string k) (.int .i64 (x : Int))).run Tryz.prog w = .ok () w' ∧ TwS w' b (n + 1) (fun j => if j = k then x + 1 else T j) ∧ w.grownBy w' (some b) :=
  TwK.put h keyedS Tryz.underlying187 hn hk (fun _ hj e => hj (litB_inj.1 e)) (fun _ hj => ⟨_, keyL hj⟩) (keyL hk) hx
theorem putTU {T : Nat → Nat} (h : TwU w b n T) (hn : n < maxLen) {c : Nat} (hc : c < 4294967296) {x : Nat} (hx : x < 1000000) : ∃ w', (Instr.mapUpdate 188 (.map (some b)) (.int .u32 (c : Int)) (.int .i64 (x : Int))).run Tryz.prog w = .ok () w' ∧ TwU w' b (n + 1) (fun j => if j = c then x + 1 else T j) ∧ w.grownBy w' (some b) :=
  TwK.put h keyedUW Tryz.underlying188 hn hc (fun _ hj => kyW_ne hj) (fun _ hj => ⟨_, keyUW hj⟩) (keyUW hc) hx
end
set_option maxRecDepth 100000 in
set_option maxHeartbeats 2000000 in
theorem behindS_any {w : World} {b n : Nat} {T : ByteArray → Nat} (h : TwS w b n T) (k : ByteArray) (hk : k.size ≤ maxLen) (hT : T k ≤ 1000000) :
    Calls Tryz.prog 122 #[.map (some b), .string k] w fun e W' => e = .returned (.int .i64 (T k : Int)) ∧ W' = w := by
  obtain ⟨z, hrun, hz⟩ := lookTS h hk
  obtain ⟨t, ht⟩ : ∃ t, t = T k := ⟨_, rfl⟩
  rw [← ht] at hT hrun hz ⊢
  clear h ht
  by_cases h0 : t = 0
  · subst h0
    rw [show decide ((0 : Nat) ≠ 0) = false from rfl] at hrun
    clear hz
    go_enter Tryz.func122, Tryz.ntmps122
    go_wp2
    go_ret
    exact ⟨rfl, rfl⟩
  · obtain rfl := hz h0
    rw [show decide (t ≠ 0) = true from decide_eq_true h0] at hrun
    have hti : (t : Int) ≤ 1000000 := by omega
    clear hz
    go_enter Tryz.func122, Tryz.ntmps122
    go_wp2
    go_ret
    exact ⟨by congr 2, rfl⟩
set_option maxRecDepth 100000 in
set_option maxHeartbeats 2000000 in
theorem behindU_any {w : World} {b n : Nat} {T : Nat → Nat} (h : TwU w b n T) (k : Nat) (hk : k < 4294967296) (hT : T k ≤ 1000000) :
    Calls Tryz.prog 121 #[.map (some b), .int .u32 (k : Int)] w fun e W' => e = .returned (.int .i64 (T k : Int)) ∧ W' = w := by
  obtain ⟨z, hrun, hz⟩ := lookTU h hk
  obtain ⟨t, ht⟩ : ∃ t, t = T k := ⟨_, rfl⟩
  rw [← ht] at hT hrun hz ⊢
  clear h ht
  by_cases h0 : t = 0
  · subst h0
    rw [show decide ((0 : Nat) ≠ 0) = false from rfl] at hrun
    clear hz
    go_enter Tryz.func121, Tryz.ntmps121
    go_wp2
    go_ret
    exact ⟨rfl, rfl⟩
  · obtain rfl := hz h0
    rw [show decide (t ≠ 0) = true from decide_eq_true h0] at hrun
    have hti : (t : Int) ≤ 1000000 := by omega
    clear hz
    go_enter Tryz.func121, Tryz.ntmps121
    go_wp2
    go_ret
    exact ⟨by congr 2, rfl⟩
end Go.Proofs.YtfjmdkhemnmkpaaGreatDoor

namespace Go.Proofs.YtfjmdkhemnmkpaaGreatDoor
def supW (P : CM → Bool) (acc : List (CM × Nat)) : Nat := acc.foldl (fun w p => if P p.1 = true then max w (p.2 + 1) else w) 0
theorem nextW_sup (acc : List (CM × Nat)) (m : CM) : nextW acc m = supW (fun a => wayM a m) acc := rfl
theorem supW_snoc (P : CM → Bool) (acc : List (CM × Nat)) (p : CM × Nat) : supW P (acc ++ [p]) = if P p.1 = true then max (supW P acc) (p.2 + 1) else supW P acc := by
  unfold supW
  rw [List.foldl_append]
  rfl
theorem supW_or (P Q : CM → Bool) (acc : List (CM × Nat)) : supW (fun a => P a || Q a) acc = max (supW P acc) (supW Q acc) := by
  have key : ∀ (acc : List (CM × Nat)) (x y : Nat), acc.foldl (fun w p => if (P p.1 || Q p.1) = true then max w (p.2 + 1) else w) (max x y) = max (acc.foldl (fun w p => if P p.1 = true then max w (p.2 + 1) else w) x) (acc.foldl (fun w p => if Q p.1 = true then max w (p.2 + 1) else w) y) := by
    intro acc
    induction acc with
    | nil => intro x y; rfl
    | cons p acc ih =>
      intro x y
      simp only [List.foldl_cons]
      rw [← ih]
      congr 1
      cases hP : P p.1 <;> cases hQ : Q p.1 <;> simp <;> omega
  have := key acc 0 0
  simpa [supW] using this
theorem supW_congr {P Q : CM → Bool} (acc : List (CM × Nat)) (h : ∀ p ∈ acc, P p.1 = Q p.1) : supW P acc = supW Q acc := by
  unfold supW
  have key : ∀ (acc : List (CM × Nat)) (x : Nat), (∀ p ∈ acc, P p.1 = Q p.1) → acc.foldl (fun w p => if P p.1 = true then max w (p.2 + 1) else w) x = acc.foldl (fun w p => if Q p.1 = true then max w (p.2 + 1) else w) x := by
    intro acc
    induction acc with
    | nil => intro x _; rfl
    | cons p acc ih =>
      intro x h
      simp only [List.foldl_cons]
      rw [h p (List.mem_cons_self ..), ih _ (fun q hq => h q (List.mem_cons_of_mem _ hq))]
  exact key acc 0 h
theorem supW_none (acc : List (CM × Nat)) : supW (fun _ => false) acc = 0 := by
  unfold supW
  induction acc with
  | nil => rfl
  | cons p acc ih => simpa using ih
theorem supW_mono {P Q : CM → Bool} (acc : List (CM × Nat)) (h : ∀ a, P a = true → Q a = true) : supW P acc ≤ supW Q acc := by
  have e : supW Q acc = max (supW P acc) (supW Q acc) := by
    rw [← supW_or]
    refine supW_congr acc fun p _ => ?_
    cases hP : P p.1 with
    | false => rfl
    | true => simp [h p.1 hP]
  omega
theorem supW_any {K : Type} (P : K → CM → Bool) (acc : List (CM × Nat)) (ks : List K) : supW (fun a => ks.any fun k => P k a) acc = ks.foldl (fun w k => max w (supW (P k) acc)) 0 := by
  have key : ∀ (ks : List K) (Q : CM → Bool), ks.foldl (fun w k => max w (supW (P k) acc)) (supW Q acc) = supW (fun a => Q a || ks.any fun k => P k a) acc := by
    intro ks
    induction ks with
    | nil => intro Q; simp
    | cons k ks ih =>
      intro Q
      simp only [List.foldl_cons, List.any_cons]
      rw [← supW_or, ih]
      exact supW_congr acc fun p _ => by rw [Bool.or_assoc]
  have := key ks (fun _ => false)
  rw [supW_none] at this
  rw [this]
  exact supW_congr acc fun p _ => by simp
def namesB (k : ByteArray) (a : CM) : Bool := a.ks.any fun j => decide (j = k)
theorem wayM_parts (a m : CM) : wayM a m = (loneM m || (loneM a || (decide (a.cl = m.cl) || m.ks.any fun k => namesB k a))) := by
  unfold wayM
  have e : (a.ks.any fun k => m.ks.any fun j => decide (k = j)) = (m.ks.any fun k => namesB k a) := by
    rw [Bool.eq_iff_iff]
    simp only [namesB, List.any_eq_true, decide_eq_true_eq]
    constructor
    · rintro ⟨x, hx, y, hy, e⟩; exact ⟨y, hy, x, hx, e⟩
    · rintro ⟨x, hx, y, hy, e⟩; exact ⟨y, hy, x, hx, e⟩
  rw [e, Bool.or_comm (loneM a) (loneM m), Bool.or_assoc, Bool.or_assoc]
theorem nextW_parts (acc : List (CM × Nat)) (m : CM) : nextW acc m = if loneM m = true then supW (fun _ => true) acc else max (supW loneM acc) (max (supW (fun a => decide (a.cl = m.cl)) acc) (m.ks.foldl (fun w k => max w (supW (namesB k) acc)) 0)) := by
  rw [nextW_sup, show (fun a => wayM a m) = fun a => (loneM m || (loneM a || (decide (a.cl = m.cl) || m.ks.any fun k => namesB k a))) from funext fun a => wayM_parts a m]
  cases hl : loneM m with
  | true => rw [if_pos rfl]; exact supW_congr acc fun p _ => by simp
  | false =>
    rw [if_neg (by simp), ← supW_any, ← supW_or, ← supW_or]
    exact supW_congr acc fun p _ => by simp
theorem supW_set {P : CM → Bool} {acc : List (CM × Nat)} {m : CM} (hm : P m = true) (h : ∀ a, P a = true → wayM a m = true) : supW P (acc ++ [(m, nextW acc m)]) = nextW acc m + 1 := by
  rw [supW_snoc, if_pos hm, nextW_sup]
  have := supW_mono (P := P) (Q := fun a => wayM a m) acc h
  omega
theorem supW_keep {P : CM → Bool} {acc : List (CM × Nat)} {m : CM} {w : Nat} (hm : P m = false) : supW P (acc ++ [(m, w)]) = supW P acc := by
  rw [supW_snoc, if_neg (by rw [hm]; exact Bool.false_ne_true)]
theorem way_names {k : ByteArray} {a m : CM} (ha : namesB k a = true) (hm : namesB k m = true) : wayM a m = true := by
  rw [wayM_parts]
  have : (m.ks.any fun k => namesB k a) = true := by
    simp only [namesB, List.any_eq_true, decide_eq_true_eq] at ha hm ⊢
    obtain ⟨x, hx, rfl⟩ := ha
    obtain ⟨y, hy, e⟩ := hm
    exact ⟨y, hy, x, hx, e.symm⟩
  rw [this]; simp
theorem way_client {a m : CM} (h : a.cl = m.cl) : wayM a m = true := by rw [wayM_parts]; simp [h]
theorem way_lone {a m : CM} (h : loneM m = true ∨ loneM a = true) : wayM a m = true := by rw [wayM_parts]; rcases h with h | h <;> simp [h]
end Go.Proofs.YtfjmdkhemnmkpaaGreatDoor

namespace Go.Proofs.YtfjmdkhemnmkpaaGreatDoor
def keyT (acc : List (CM × Nat)) (k : ByteArray) : Nat := supW (fun a => !loneM a && namesB k a) acc
def clT (acc : List (CM × Nat)) (c : Nat) : Nat := supW (fun a => !loneM a && decide (a.cl = c)) acc
def leastW (acc : List (CM × Nat)) : Nat := supW loneM acc
def countW (acc : List (CM × Nat)) : Nat := supW (fun _ => true) acc
def inK (ks : List ByteArray) (k : ByteArray) : Bool := ks.any fun j => decide (j = k)
theorem inK_iff {ks : List ByteArray} {k : ByteArray} : inK ks k = true ↔ k ∈ ks := by simp [inK]
theorem inK_snoc (a : List ByteArray) (j k : ByteArray) : inK (a ++ [j]) k = (inK a k || decide (j = k)) := by
  unfold inK
  rw [List.any_append]
  simp
theorem foldl_max {K : Type} (f : K → Nat) : ∀ (l : List K) (s : Nat), l.foldl (fun w k => max w (f k)) s = max s (l.foldl (fun w k => max w (f k)) 0)
  | [], s => by simp
  | k :: l, s => by
    simp only [List.foldl_cons]
    rw [foldl_max f l (max s (f k)), foldl_max f l (max 0 (f k))]
    omega
theorem names_touch (a : CM) (ks : List ByteArray) : ((touchK ks).any fun k => !loneM a && namesB k a) = (!loneM a && ks.any fun k => namesB k a) := by
  cases loneM a with
  | true => simp
  | false =>
    rw [Bool.eq_iff_iff]
    simp only [Bool.not_false, Bool.true_and, List.any_eq_true, touchK_mem]
theorem nextW_many (acc : List (CM × Nat)) {m : CM} (h : loneM m = false) : nextW acc m = (touchK m.ks).foldl (fun w k => max w (keyT acc k)) (max (leastW acc) (clT acc m.cl)) := by
  rw [foldl_max, show (touchK m.ks).foldl (fun w k => max w (keyT acc k)) 0 = supW (fun a => (touchK m.ks).any fun k => !loneM a && namesB k a) acc from (supW_any (fun k a => !loneM a && namesB k a) acc (touchK m.ks)).symm]
  unfold leastW clT
  rw [← supW_or, ← supW_or, nextW_sup]
  refine supW_congr acc fun p _ => ?_
  rw [wayM_parts, h, names_touch]
  cases loneM p.1 <;> simp
theorem nextW_lone (acc : List (CM × Nat)) {m : CM} (h : loneM m = true) : nextW acc m = countW acc := by rw [nextW_parts, if_pos h]; rfl
section
variable {acc : List (CM × Nat)} {m : CM}
theorem least_lone (h : loneM m = true) : leastW (acc ++ [(m, nextW acc m)]) = countW acc + 1 := by
  unfold leastW
  rw [supW_set h (fun a _ => way_lone (.inl h)), nextW_lone acc h]
theorem count_any (x : Nat) : countW (acc ++ [(m, x)]) = max (countW acc) (x + 1) := by
  unfold countW
  rw [supW_snoc, if_pos rfl]
theorem count_lone (h : loneM m = true) : countW (acc ++ [(m, nextW acc m)]) = countW acc + 1 := by
  rw [count_any, nextW_lone acc h]
  omega
theorem keyT_lone (h : loneM m = true) (x : Nat) (k : ByteArray) : keyT (acc ++ [(m, x)]) k = keyT acc k := supW_keep (by simp [h])
theorem clT_lone (h : loneM m = true) (x : Nat) (c : Nat) : clT (acc ++ [(m, x)]) c = clT acc c := supW_keep (by simp [h])
theorem least_many (h : loneM m = false) (x : Nat) : leastW (acc ++ [(m, x)]) = leastW acc := supW_keep h
theorem names_mem {k : ByteArray} {m : CM} : namesB k m = true ↔ k ∈ touchK m.ks := by
  simp [namesB, touchK_mem]
theorem keyT_many (h : loneM m = false) (k : ByteArray) : keyT (acc ++ [(m, nextW acc m)]) k = if inK (touchK m.ks) k = true then nextW acc m + 1 else keyT acc k := by
  by_cases hk : inK (touchK m.ks) k = true
  · rw [if_pos hk]
    have hn := names_mem.2 (inK_iff.1 hk)
    exact supW_set (P := fun a => !loneM a && namesB k a) (by simp [h, hn]) (fun a ha => by
      simp only [Bool.and_eq_true] at ha
      exact way_names ha.2 hn)
  · rw [if_neg hk]
    have hn : namesB k m = false := by
      cases hh : namesB k m with
      | false => rfl
      | true => exact absurd (inK_iff.2 (names_mem.1 hh)) hk
    exact supW_keep (by simp [hn])
theorem clT_many (h : loneM m = false) (c : Nat) : clT (acc ++ [(m, nextW acc m)]) c = if c = m.cl then nextW acc m + 1 else clT acc c := by
  by_cases hc : c = m.cl
  · rw [if_pos hc]
    subst hc
    exact supW_set (P := fun a => !loneM a && decide (a.cl = m.cl)) (by simp [h]) (fun a ha => by
      simp only [Bool.and_eq_true, decide_eq_true_eq] at ha
      exact way_client ha.2)
  · rw [if_neg hc]
    exact supW_keep (by simp; intro _ e; exact hc e.symm)
end
theorem supW_le {P : CM → Bool} {n : Nat} : ∀ {acc : List (CM × Nat)}, (∀ p ∈ acc, p.2 + 1 ≤ n) → supW P acc ≤ n := by
  intro acc h
  unfold supW
  have key : ∀ (acc : List (CM × Nat)) (x : Nat), x ≤ n → (∀ p ∈ acc, p.2 + 1 ≤ n) → acc.foldl (fun w p => if P p.1 = true then max w (p.2 + 1) else w) x ≤ n := by
    intro acc
    induction acc with
    | nil => intro x hx _; exact hx
    | cons p acc ih =>
      intro x hx h
      simp only [List.foldl_cons]
      refine ih _ ?_ (fun q hq => h q (List.mem_cons_of_mem _ hq))
      have := h p (List.mem_cons_self ..)
      split <;> omega
  exact key acc 0 (Nat.zero_le _) h
theorem wavesM_snoc (l : List CM) (m : CM) : wavesM (l ++ [m]) = wavesM l ++ [(m, nextW (wavesM l) m)] := by
  unfold wavesM
  rw [List.foldl_append]
  rfl
theorem wavesM_le (l : List CM) : ∀ p ∈ wavesM l, p.2 + 1 ≤ l.length := by
  intro p hp
  obtain ⟨i, hi, rfl⟩ := List.mem_iff_getElem.1 hp
  have hi' : i < l.length := by rw [wavesM_len] at hi; exact hi
  have h1 := wavesM_at hi'
  rw [List.getElem?_eq_getElem hi] at h1
  have h2 : ((wavesM l)[i]).2 = waveI l i := by rw [waveI_at hi']; exact congrArg Prod.snd (Option.some.inj h1)
  rw [h2]
  have := waveI_le i hi'
  omega
theorem nextW_max (l : List CM) (m : CM) : nextW (wavesM l) m ≤ l.length := by rw [nextW_sup]; exact supW_le (wavesM_le l)
theorem keyT_le (l : List CM) (k : ByteArray) : keyT (wavesM l) k ≤ l.length := supW_le (wavesM_le l)
theorem clT_le (l : List CM) (c : Nat) : clT (wavesM l) c ≤ l.length := supW_le (wavesM_le l)
theorem leastW_le (l : List CM) : leastW (wavesM l) ≤ l.length := supW_le (wavesM_le l)
theorem countW_le (l : List CM) : countW (wavesM l) ≤ l.length := supW_le (wavesM_le l)
def foldW (acc : List (CM × Nat)) (s : Nat) (ks : List ByteArray) : Nat := ks.foldl (fun w k => max w (keyT acc k)) s
theorem foldW_succ (acc : List (CM × Nat)) (s : Nat) {ks : List ByteArray} {j : Nat} (h : j < ks.length) : foldW acc s (ks.take (j + 1)) = max (foldW acc s (ks.take j)) (keyT acc ks[j]) := by
  unfold foldW
  rw [List.take_succ_eq_append_getElem h, List.foldl_append]
  rfl
def keyS (acc : List (CM × Nat)) (x : Nat) (ks : List ByteArray) (k : ByteArray) : Nat := if inK ks k = true then x + 1 else keyT acc k
theorem keyS_succ (acc : List (CM × Nat)) (x : Nat) {ks : List ByteArray} {j : Nat} (h : j < ks.length) (k : ByteArray) : keyS acc x (ks.take (j + 1)) k = if k = ks[j] then x + 1 else keyS acc x (ks.take j) k := by
  unfold keyS
  rw [List.take_succ_eq_append_getElem h, inK_snoc]
  by_cases hk : k = ks[j]
  · rw [if_pos hk, decide_eq_true hk.symm, Bool.or_true, if_pos rfl]
  · rw [if_neg hk, decide_eq_false (fun e => hk e.symm), Bool.or_false]
end Go.Proofs.YtfjmdkhemnmkpaaGreatDoor

namespace Go.Proofs.YtfjmdkhemnmkpaaGreatDoor
open Go.RowKit Go.Maps
structure PsQ (W : World) (R g bk bc : Nat) (l : List CM) : Prop where
  cell : W.heap[R]? = some (.cells #[loneV g, .map (some bk), .map (some bc), .int .i64 (leastW (wavesM l) : Int), .int .i64 (countW (wavesM l) : Int)] 190 (0, 0))
  lim : W.heap[g]? = some (.cells #[.int .i64 4] 3 (0, 0))
  keys : ∃ n, n ≤ 10000 * l.length ∧ TwS W bk n (keyT (wavesM l))
  cls : ∃ n, n ≤ l.length ∧ TwU W bc n (clT (wavesM l))
  ne : bk ≠ bc
theorem TwK.blk {K : Type} {kt : TypeId} {kl : K → Lit} {ok : K → Prop} {w : World} {b n : Nat} {T : K → Nat} (h : TwK kt kl ok w b n T) : ∃ es clock, w.heap[b]? = some (.map es clock) := by
  obtain ⟨D, ⟨es, ck, h1, _⟩, _⟩ := h.ex
  exact ⟨es, ck, h1⟩
theorem TwK.ne_cells {K : Type} {kt : TypeId} {kl : K → Lit} {ok : K → Prop} {w : World} {b n : Nat} {T : K → Nat} (h : TwK kt kl ok w b n T) {q : Nat} {cs : Array Value} {t : TypeId} {z : Nat × Nat} (hq : w.heap[q]? = some (.cells cs t z)) : q ≠ b := by
  obtain ⟨es, ck, h1⟩ := h.blk
  intro e
  rw [e, h1] at hq
  cases hq
theorem TwK.ne_cell {K : Type} {kt : TypeId} {kl : K → Lit} {ok : K → Prop} {w : World} {b n : Nat} {T : K → Nat} (h : TwK kt kl ok w b n T) {p : Addr} {v : Value} (hp : w.cell? p = some v) : p.block ≠ b := by
  obtain ⟨es, ck, h1⟩ := h.blk
  intro e
  subst e
  unfold World.cell? at hp
  rw [h1] at hp
  simp at hp
section
variable {W W' : World} {R g bk bc : Nat} {l : List CM}
theorem PsQ.lt (h : PsQ W R g bk bc l) : R < W.heap.size ∧ g < W.heap.size ∧ bk < W.heap.size ∧ bc < W.heap.size := by
  obtain ⟨_, _, h1⟩ := h.keys
  obtain ⟨_, _, h2⟩ := h.cls
  exact ⟨(Array.getElem?_eq_some_iff.1 h.cell).1, (Array.getElem?_eq_some_iff.1 h.lim).1, h1.lt, h2.lt⟩
theorem PsQ.below (h : PsQ W R g bk bc l) (hb : Below W.heap.size W W') : PsQ W' R g bk bc l := by
  obtain ⟨k1, k2, k3, k4⟩ := h.lt
  obtain ⟨n1, a1, h1⟩ := h.keys
  obtain ⟨n2, a2, h2⟩ := h.cls
  exact ⟨(hb.block R k1).trans h.cell, (hb.block g k2).trans h.lim, ⟨n1, a1, h1.keep (hb.block bk k3)⟩, ⟨n2, a2, h2.keep (hb.block bc k4)⟩, h.ne⟩
theorem PsQ.apart (h : PsQ W R g bk bc l) : R ≠ bk ∧ R ≠ bc ∧ g ≠ bk ∧ g ≠ bc ∧ R ≠ g := by
  obtain ⟨n1, _, h1⟩ := h.keys
  obtain ⟨n2, _, h2⟩ := h.cls
  refine ⟨h1.ne_cells h.cell, h2.ne_cells h.cell, h1.ne_cells h.lim, h2.ne_cells h.lim, fun e => ?_⟩
  have h3 := h.cell
  rw [e, h.lim] at h3
  have h4 := Obj.cells.inj (Option.some.inj h3)
  exact absurd (congrArg Array.size h4.1) (by simp)
theorem PsQ.at (h : PsQ W R g bk bc l) : W.cell? ⟨R, 0, none⟩ = some (loneV g) ∧ W.cell? ⟨R, 1, none⟩ = some (.map (some bk)) ∧ W.cell? ⟨R, 2, none⟩ = some (.map (some bc)) ∧ W.cell? ⟨R, 3, none⟩ = some (.int .i64 (leastW (wavesM l) : Int)) ∧ W.cell? ⟨R, 4, none⟩ = some (.int .i64 (countW (wavesM l) : Int)) :=
  ⟨blk_cell h.cell 0, blk_cell h.cell 1, blk_cell h.cell 2, blk_cell h.cell 3, blk_cell h.cell 4⟩
theorem PsQ.fz (h : PsQ W R g bk bc l) (i : Nat) : W.frozen? ⟨R, i, none⟩ = false := blk_frozen h.cell i
end
set_option maxRecDepth 100000 in
set_option maxHeartbeats 4000000 in
theorem nothing_any (w : World) : Calls Tryz.prog 98 #[] w fun e W' => ∃ R g bk bc, e = .returned (.pointer (some ⟨R, 0, none⟩)) ∧ PsQ W' R g bk bc [] ∧ (w.heap.size ≤ R ∧ w.heap.size ≤ bk ∧ w.heap.size ≤ bc) ∧ Below w.heap.size w W' := by
  have HM := Lib.hid (more_any w)
  obtain ⟨W0, hW0⟩ : ∃ W0, W0 = w.alloc (.cells #[.int .i64 4] 3) := ⟨_, rfl⟩
  rw [← hW0] at HM
  obtain ⟨hB0, k0⟩ := boxedW hW0
  have s0 : W0.heap.size = w.heap.size + 1 := by rw [hW0]; simp
  have m1 := run_makeMap (P := Tryz.prog) 187 W0
  have t1 : TwS (W0.alloc (.map #[] 0)) W0.heap.size 0 (fun _ => 0) := TwK.new W0
  have hB1 : Below W0.heap.size W0 (W0.alloc (.map #[] 0)) := (Below.refl _ W0).alloc (Nat.le_refl _) _
  have s1 : (W0.alloc (.map #[] 0)).heap.size = W0.heap.size + 1 := by simp
  obtain ⟨W1, hW1⟩ : ∃ W1, W1 = W0.alloc (.map #[] 0) := ⟨_, rfl⟩
  rw [← hW1] at m1 t1 hB1 s1
  have m2 := run_makeMap (P := Tryz.prog) 188 W1
  have t2 : TwU (W1.alloc (.map #[] 0)) W1.heap.size 0 (fun _ => 0) := TwK.new W1
  have hB2 : Below W1.heap.size W1 (W1.alloc (.map #[] 0)) := (Below.refl _ W1).alloc (Nat.le_refl _) _
  have s2 : (W1.alloc (.map #[] 0)).heap.size = W1.heap.size + 1 := by simp
  obtain ⟨W2, hW2⟩ : ∃ W2, W2 = W1.alloc (.map #[] 0) := ⟨_, rfl⟩
  rw [← hW2] at m2 t2 hB2 s2
  obtain ⟨g, hg⟩ : ∃ g, g = w.heap.size := ⟨_, rfl⟩
  obtain ⟨bk, hbk⟩ : ∃ bk, bk = W0.heap.size := ⟨_, rfl⟩
  obtain ⟨bc, hbc⟩ : ∃ bc, bc = W1.heap.size := ⟨_, rfl⟩
  rw [← hbk] at m1 t1
  rw [← hbc] at m2 t2
  obtain ⟨W3, hW3⟩ : ∃ W3, W3 = W2.alloc (.cells #[loneV g, .map (some bk), .map (some bc), .int .i64 0, .int .i64 0] 190) := ⟨_, rfl⟩
  obtain ⟨hB3, k3⟩ := boxedW hW3
  have HH : Hid (PsQ W3 W2.heap.size g bk bc [] ∧ (w.heap.size ≤ W2.heap.size ∧ w.heap.size ≤ bk ∧ w.heap.size ≤ bc) ∧ Below w.heap.size w W3) := by
    refine Lib.hid ⟨⟨k3, ?_, ⟨0, by simp, ?_⟩, ⟨0, by simp, ?_⟩, by omega⟩, by omega, ?_⟩
    · exact ((hB3.block g (by omega)).trans ((hB2.block g (by omega)).trans ((hB1.block g (by omega)).trans (by rw [hg]; exact k0))))
    · exact (t1.keep ((hB3.block bk (by omega)).trans (hB2.block bk (by omega)))).congr (fun k _ => rfl)
    · exact (t2.keep (hB3.block bc (by omega))).congr (fun k _ => rfl)
    · exact hB0.trans (Below.mono (hB1.trans (Below.mono (hB2.trans (Below.mono hB3 (by omega))) (by omega))) (by omega))
  rw [← hg] at HM
  obtain ⟨R, hR⟩ : ∃ R, R = W2.heap.size := ⟨_, rfl⟩
  rw [← hR] at HH
  unfold loneV at HM hW3
  have HW3 := Lib.hid hW3
  have HR := Lib.hid hR
  clear hB0 k0 s0 t1 hB1 s1 t2 hB2 s2 hB3 k3 hg hbk hbc hW0 hW1 hW2 hW3 hR
  go_enter Tryz.func98, Tryz.ntmps98
  go_wp2_with fail
  refine HM.out.mono ?_
  rintro e V ⟨rfl, rfl⟩
  go_wp2
  rw [← HW3.out, ← HR.out]
  go_ret
  exact ⟨R, g, bk, bc, rfl, HH.out⟩
set_option maxRecDepth 100000 in
set_option maxHeartbeats 4000000 in
theorem addLone_any {w : World} {R g bk bc : Nat} {l : List CM} (h : PsQ w R g bk bc l) (hl : l.length ≤ 1000) {m : CM} (hm : loneM m = true) :
    Calls Tryz.prog 120 #[.pointer (some ⟨R, 0, none⟩)] w fun e W' => e = .returned (.int .i64 (nextW (wavesM l) m : Int)) ∧ PsQ W' R g bk bc (l ++ [m]) ∧ Only (fun x => x = R) w W' := by
  obtain ⟨x0, x1, x2, x3, x4⟩ := h.at
  have z3 := h.fz 3
  have z4 := h.fz 4
  obtain ⟨N, hN⟩ : ∃ N, N = countW (wavesM l) := ⟨_, rfl⟩
  have hNl : N ≤ 1000 := by rw [hN]; exact Nat.le_trans (countW_le l) hl
  have hNi : (N : Int) ≤ 1000 := by omega
  rw [nextW_lone _ hm, ← hN]
  have hap := h.apart
  have HH : Hid (PsQ ((w.setCell ⟨R, 4, none⟩ (.int .i64 ((N : Int) + 1))).setCell ⟨R, 3, none⟩ (.int .i64 ((N : Int) + 1))) R g bk bc (l ++ [m]) ∧ Only (fun x => x = R) w ((w.setCell ⟨R, 4, none⟩ (.int .i64 ((N : Int) + 1))).setCell ⟨R, 3, none⟩ (.int .i64 ((N : Int) + 1)))) := by
    obtain ⟨n1, a1, h1⟩ := h.keys
    obtain ⟨n2, a2, h2⟩ := h.cls
    have k4 := blk_set h.cell 4 (.int .i64 ((N : Int) + 1))
    have k3 := blk_set k4 3 (.int .i64 ((N : Int) + 1))
    have hbl : ∀ k, k ≠ R → ((w.setCell ⟨R, 4, none⟩ (.int .i64 ((N : Int) + 1))).setCell ⟨R, 3, none⟩ (.int .i64 ((N : Int) + 1))).heap[k]? = w.heap[k]? := fun k hk => (Below.heap_setCell _ _ _ _ hk).trans (Below.heap_setCell _ _ _ _ hk)
    refine Lib.hid ⟨⟨?_, (hbl g (Ne.symm hap.2.2.2.2)).trans h.lim, ⟨n1, by simp; omega, (h1.keep (hbl bk (Ne.symm hap.1))).congr (fun k _ => ?_)⟩, ⟨n2, by simp; omega, (h2.keep (hbl bc (Ne.symm hap.2.1))).congr (fun k _ => ?_)⟩, h.ne⟩, ?_⟩
    · rw [k3, wavesM_snoc, least_lone hm, count_lone hm, ← hN]
      simp
    · rw [wavesM_snoc, keyT_lone hm]
    · rw [wavesM_snoc, clT_lone hm]
    · exact Only.setCell (p := ⟨R, 3, none⟩) (Only.setCell (p := ⟨R, 4, none⟩) (Only.refl (fun x => x = R) w) (.inl rfl) _) (.inl rfl) _
  rw [← hN] at x4
  clear hN h hm hap hNl
  go_enter Tryz.func120, Tryz.ntmps120
  go_wp2
  go_ret
  exact ⟨rfl, HH.out⟩
end Go.Proofs.YtfjmdkhemnmkpaaGreatDoor
