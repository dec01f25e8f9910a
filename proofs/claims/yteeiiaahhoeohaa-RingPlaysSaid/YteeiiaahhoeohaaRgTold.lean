/- What the walks ask of the program's All; the walk of told, the law's own reading of a ring. -/
import Derived.Test.YteeiiaahhoeohaaRgSlides
import Derived.Laws.AppendOwn
import Derived.OwnWalk
namespace Go.Proofs.Yteeiiaahhoeohaa
open Go.RowKit

/-- The slots that have values, in order. -/
structure Listed (s : RS ByteArray) (ls : List (Nat × ByteArray)) : Prop where
  at_ : ∀ p ∈ ls, s.t p.1 = some p.2
  all : ∀ k v, s.t k = some v → (k, v) ∈ ls
  up : ls.Pairwise fun a b => a.1 < b.1
  lt : ∀ p ∈ ls, p.1 < 18446744073709551616
/-- A call leaves alone all that holds no cells, and the boxes of rings and of functions to be called for each slot. -/
def Mild (W W' : World) : Prop := KeepsOthers W W' ∧ ∀ (k : Nat) (cs : Array Value) (t : TypeId), t = 23 ∨ t = 85 → W.heap[k]? = some (.cells cs t (0, 0)) → W'.heap[k]? = some (.cells cs t (0, 0))
theorem Mild.trans {a b c : World} (h : Mild a b) (k : Mild b c) : Mild a c := ⟨h.1.trans k.1, fun i cs t ht hi => k.2 i cs t ht (h.2 i cs t ht hi)⟩
/-- All, of a ring of texts: whatever is called, call by call, till it says no. -/
def AllS (K : RingS) : Prop := ∀ (F : Nat → Prop) (w : World) (R : Nat) (s : RS ByteArray) (ls : List (Nat × ByteArray)), K.Pl F w R s → Listed s ls →
  ∀ (f : FuncId) (cs : Array Value) (Y : Nat → Prop) (I : Nat → World → Prop) (J : World → Prop), (∀ args w, (callFunc f args).run Try.prog w = .ok (.enter f args) w) → (∀ k, Y k → ¬ F k) → I 0 w →
  (∀ j, Abides w.heap.size (I j)) → Abides w.heap.size J → (∀ j W, I j W → Only Y w W) →
  (∀ j (hj : j < ls.length) W, I j W → Calls Try.prog f (#[.int .u64 ((ls[j]).1 : Int), .string (ls[j]).2] ++ cs) W fun e W' => Mild W W' ∧ ((e = .returned (.bool true) ∧ I (j + 1) W') ∨ (e = .returned (.bool false) ∧ J W'))) →
  Calls Try.prog 28 #[.pointer (some ⟨R, 0, none⟩), .func (.func f) #[] cs] w fun e W' => e = .returned (.tuple #[]) ∧ (I ls.length W' ∨ J W')

theorem infoU64 : (Try.prog.info? 29).map (fun i => (i.zero, i.size, i.bytes)) = some (some (.int .u64 0), 1, 8) := by kernel_rfl
theorem infoStr : (Try.prog.info? 9).map (fun i => (i.zero, i.size, i.bytes)) = some (some (.string ⟨#[]⟩), 1, 16) := by kernel_rfl
def nV (p : Nat × ByteArray) : Value := .int .u64 (p.1 : Int)
def tV (p : Nat × ByteArray) : Value := .string p.2

/-- What told has behind j slots. -/
structure TB (w : World) (most : Nat) (ls : List (Nat × ByteArray)) (lb mb mo : Nat) (j : Nat) (W : World) : Prop where
  below : Below w.heap.size w W
  l : ∃ v, W.heap[lb]? = some (.cells #[v] 56 (0, 0)) ∧ W.ownsRow w.heap.size 29 1 v j ((ls.take j).map nV)
  m : ∃ v, W.heap[mb]? = some (.cells #[v] 57 (0, 0)) ∧ W.ownsRow w.heap.size 9 1 v j ((ls.take j).map tV)
  o : W.heap[mo]? = some (.cells #[.int .i64 (most : Int)] 3 (0, 0))
  lo : w.heap.size ≤ lb ∧ w.heap.size ≤ mb ∧ w.heap.size ≤ mo
theorem TB.grew {w W W' : World} {most : Nat} {ls : List (Nat × ByteArray)} {lb mb mo j : Nat} (h : TB w most ls lb mb mo j W) (hb : Below W.heap.size W W') : TB w most ls lb mb mo j W' := by
  obtain ⟨v1, h1, h2⟩ := h.l
  obtain ⟨v2, h3, h4⟩ := h.m
  have hk : ∀ {k : Nat} {o : Obj}, W.heap[k]? = some o → W'.heap[k]? = some o := fun hk => (hb.block _ (Array.getElem?_eq_some_iff.1 hk).1).trans hk
  exact ⟨h.below.trans (Below.mono hb h.below.size), ⟨v1, hk h1, own_below h2 hb⟩, ⟨v2, hk h3, own_below h4 hb⟩, hk h.o, h.lo⟩

theorem TB.abides {w : World} {most : Nat} {ls : List (Nat × ByteArray)} {lb mb mo j B : Nat} (hB : w.heap.size ≤ B) : Abides B (TB w most ls lb mb mo j) := by
  rintro W W' row ⟨h1, ⟨v1, h2, h3⟩, ⟨v2, h4, h5⟩, h6, h7⟩ hg hr
  exact ⟨Abides.below (Nat.le_refl _) hB W W' row h1 hg hr, ⟨v1, Abides.block W W' row h2 hg hr, Abides.own W W' row h3 hg hr⟩, ⟨v2, Abides.block W W' row h4 hg hr, Abides.own W W' row h5 hg hr⟩, Abides.block W W' row h6 hg hr, h7⟩

theorem blk_neR {w : World} {g g' : Nat} {c c' : Array Value} {t t' : TypeId} (h : w.heap[g]? = some (.cells c t (0, 0))) (h' : w.heap[g']? = some (.cells c' t' (0, 0))) (ht : t ≠ t') : g ≠ g' := by
  rintro rfl
  rw [h] at h'
  injection h' with h'
  injection h' with _ h'
  exact ht h'
theorem own_typR {W : World} {base n : Nat} {e : TypeId} {v : Value} {vs : List Value} (ho : W.ownsRow base e 1 v n vs) {r : Nat} (hr : v.ownBlock = some r) : ∃ cs, W.heap[r]? = some (.cells cs e (0, 0)) := by
  rcases ho.2 with ⟨rfl, _⟩ | ⟨g, cap, cur, rfl, _, h, _⟩
  · cases hr
  · cases hr; exact ⟨_, h⟩

theorem one_cell (w : World) (v : Value) (t : TypeId) : ∀ j u, ([v] : List Value)[j]? = some u → (w.alloc (.cells #[v] t)).cell? ((⟨w.heap.size, 0, none⟩ : Addr).add j) = some u := by
  intro j u hj
  rcases j with _ | j
  · rw [addr_add, blk_cell (World.alloc_heap_new w (.cells #[v] t))]; simpa using hj
  · simp at hj
/-- A row that a captured cell holds grows by one: what lies in other blocks lies on. -/
theorem row_more {W W1 : World} {base n : Nat} {e t : TypeId} {v v' x : Value} {vs : List Value} {cb : Nat} (hk : W.heap[cb]? = some (.cells #[v] t (0, 0))) (ho : W.ownsRow base e 1 v n vs) (hte : t ≠ e) (o : Obj) (hg : (W.alloc o).grownBy W1 v.ownBlock) (ho1 : W1.ownsRow base e 1 v' (n + 1) (vs ++ [x])) (hB : base ≤ W.heap.size) (hcb : base ≤ cb) :
    W1.heap[cb]? = some (.cells #[v] t (0, 0)) ∧ (W1.setCell ⟨cb, 0, none⟩ v').heap[cb]? = some (.cells #[v'] t (0, 0)) ∧ (W1.setCell ⟨cb, 0, none⟩ v').ownsRow base e 1 v' (n + 1) (vs ++ [x]) ∧ Below base W (W1.setCell ⟨cb, 0, none⟩ v') ∧
      (∀ (k : Nat) (cs : Array Value) (u : TypeId), W.heap[k]? = some (.cells cs u (0, 0)) → u ≠ e → k ≠ cb → (W1.setCell ⟨cb, 0, none⟩ v').heap[k]? = some (.cells cs u (0, 0))) ∧ KeepsOthers W (W1.setCell ⟨cb, 0, none⟩ v') := by
  have keep : ∀ (k : Nat) (cs : Array Value) (u : TypeId), W.heap[k]? = some (Obj.cells cs u (0, 0)) → u ≠ e → W1.heap[k]? = some (Obj.cells cs u (0, 0)) := fun k cs u h hu => by
    have hlt := (Array.getElem?_eq_some_iff.1 h).1
    have h1 := (Below.heap_alloc W o k hlt).trans h
    refine (hg.block k (by simp; omega) (fun e' => ?_)).trans h1
    obtain ⟨cs', h2⟩ := own_typR ho e'.symm
    rw [h] at h2
    injection h2 with h2
    injection h2 with _ h2
    exact hu h2
  have h1 := keep cb _ _ hk hte
  refine ⟨h1, ?_, ?_, ?_, fun k cs u h hu hne => (Below.heap_setCell _ _ _ _ hne).trans (keep k cs u h hu), ?_⟩
  · rw [blk_set h1]; rfl
  · refine ⟨ho1.1, ?_⟩
    rcases ho1.2 with h2 | ⟨g, cap, cur, rfl, b, r, q⟩
    · exact .inl h2
    · exact .inr ⟨g, cap, cur, rfl, b, (Below.heap_setCell _ _ _ _ (blk_neR r h1 (Ne.symm hte))).trans r, q⟩
  · exact (((Below.refl base W).alloc hB o).grown hg (by simp; omega) (fun k e' => (ho.lt k e').1)).setCell (p := ⟨cb, 0, none⟩) hcb v'
  · refine ((KeepsOthers.alloc W o).trans (KeepsOthers.of_grownBy hg (fun j o' e' ho' => ?_))).trans (KeepsOthers.setCell _ _ _)
    obtain ⟨cs', h2⟩ := own_typR ho e'
    have hlt := (Array.getElem?_eq_some_iff.1 h2).1
    rw [(Below.heap_alloc W o j hlt).trans h2] at ho'
    cases ho'; rfl
/-- Boxes of other types stay. -/
theorem mild_of {W W' : World} {e t : TypeId} {cb : Nat} {v : Value} (hk : W.heap[cb]? = some (.cells #[v] t (0, 0))) (he : e ≠ 23 ∧ e ≠ 85) (ht : t ≠ 23 ∧ t ≠ 85)
    (h : ∀ (k : Nat) (cs : Array Value) (u : TypeId), W.heap[k]? = some (.cells cs u (0, 0)) → u ≠ e → k ≠ cb → W'.heap[k]? = some (.cells cs u (0, 0))) (ho : KeepsOthers W W') : Mild W W' := by
  refine ⟨ho, fun k cs u hu hc => h k cs u hc ?_ ?_⟩
  · rcases hu with rfl | rfl
    · exact Ne.symm he.1
    · exact Ne.symm he.2
  · refine blk_neR hc hk ?_
    rcases hu with rfl | rfl
    · exact Ne.symm ht.1
    · exact Ne.symm ht.2

set_option maxRecDepth 100000 in
set_option maxHeartbeats 4000000 in
theorem told1_any (w : World) (most : Nat) (_hmost : most ≤ 1000) (ls : List (Nat × ByteArray)) (lb mb mo j : Nat) (W : World) (h : TB w most ls lb mb mo j W) (hj : j < ls.length) (hj1 : j ≤ 1000) :
    Calls Try.prog 29 #[.int .u64 ((ls[j]).1 : Int), .string (ls[j]).2, .pointer (some ⟨lb, 0, none⟩), .pointer (some ⟨mb, 0, none⟩), .pointer (some ⟨mo, 0, none⟩)] W fun e W' => e = .returned (.bool (decide (j + 1 < most))) ∧ TB w most ls lb mb mo (j + 1) W' ∧ Mild W W' := by
  obtain ⟨iu, hiu, hu0, hu1, hu2⟩ := info_parts infoU64
  obtain ⟨is, his, hs0, hs1, hs2⟩ := info_parts infoStr
  obtain ⟨v1, k1, o1⟩ := h.l
  obtain ⟨v2, k2, o2⟩ := h.m
  obtain ⟨A1, c1, rfl⟩ := own_form o1
  obtain ⟨A2, c2, rfl⟩ := own_form o2
  have b1 := blk_cell k1 0
  have z1 := blk_frozen k1 0
  simp at b1
  obtain ⟨sl, hsl⟩ : ∃ x, x = (ls[j]).1 := ⟨_, rfl⟩
  obtain ⟨tx, htx⟩ : ∃ x, x = (ls[j]).2 := ⟨_, rfl⟩
  rw [← hsl, ← htx]
  have HH := Lib.hid h
  have K1 := Lib.hid k1
  have K2 := Lib.hid k2
  have O1 := Lib.hid o1
  have O2 := Lib.hid o2
  have HS := Lib.hid (And.intro hsl htx)
  clear h k1 k2 o1 o2 hsl htx
  go_enter Try.func29, Try.ntmps29
  go_upto_region 2 with (
    at_builtin
    refine wpList_append_own _ rfl (.tmp 8) (.tmp 10) 56 rfl w.heap.size 29 iu (.int .u64 0) 1 8 Try.underlying56 hiu hu0 hu1 hu2 rfl (by decide) _ j ((ls.take j).map nV) rfl (O1.out.alloc _) ⟨W.heap.size, 0, none⟩ 1 1 [.int .u64 (sl : Int)] rfl rfl (one_cell W _ _) (fun u hu => by rw [List.mem_singleton.1 hu]; rfl) (by simp only [maxLen]; omega) (by omega) (by have := HH.out.below.size; simp; omega) ?_
    intro v3 W1 ho3 hg3 _
    obtain ⟨A3, c3, rfl⟩ := own_form ho3
    obtain ⟨r1, r2, r3, r4, r5, r6⟩ := row_more (cb := lb) K1.out O1.out (by decide) _ hg3 ho3 HH.out.below.size HH.out.lo.1
    have d1 := blk_cell r1 0
    have y1 := blk_frozen r1 0
    simp at d1
    have R1 := Lib.hid (And.intro r2 (And.intro r3 (And.intro r4 (And.intro r5 r6))))
    clear r1 r2 r3 r4 r5 r6 ho3 hg3)
  obtain ⟨W2, hW2⟩ : ∃ W2, W2 = W1.setCell ⟨lb, 0, none⟩ (.slice A3 (j + 1) c3) := ⟨_, rfl⟩
  rw [← hW2] at R1 ⊢
  have nml : mb ≠ lb := blk_neR K2.out K1.out (by decide)
  have nol : mo ≠ lb := blk_neR HH.out.o K1.out (by decide)
  have e2 := R1.out.2.2.2.1 mb _ _ K2.out (by decide) nml
  have eo := R1.out.2.2.2.1 mo _ _ HH.out.o (by decide) nol
  have ow2 : W2.ownsRow w.heap.size 9 1 (.slice A2 j c2) j ((ls.take j).map tV) := by
    refine ⟨O2.out.1, ?_⟩
    rcases O2.out.2 with h2 | ⟨g, cap, cur, e, b, r, q⟩
    · exact .inl h2
    · exact .inr ⟨g, cap, cur, e, b, R1.out.2.2.2.1 g _ _ r (by decide) (blk_neR r K1.out (by decide)), q⟩
  have hB2 : Below w.heap.size w W2 := HH.out.below.trans R1.out.2.2.1
  have b2 := blk_cell e2 0
  have z2 := blk_frozen e2 0
  simp at b2
  have M1 := Lib.hid (mild_of K1.out (by decide) (by decide) R1.out.2.2.2.1 R1.out.2.2.2.2)
  have E2 := Lib.hid e2
  have EO := Lib.hid eo
  have OW2 := Lib.hid ow2
  have B2 := Lib.hid hB2
  have S2 := Lib.hid (And.intro R1.out.1 R1.out.2.1)
  clear e2 eo ow2 hB2 hW2 R1 nml nol d1 y1 b1 z1
  go_upto_region 3 with (
    at_builtin
    refine wpList_append_own _ rfl (.tmp 12) (.tmp 14) 57 rfl w.heap.size 9 is (.string ⟨#[]⟩) 1 16 Try.underlying57 his hs0 hs1 hs2 rfl (by decide) _ j ((ls.take j).map tV) rfl (OW2.out.alloc _) ⟨W2.heap.size, 0, none⟩ 1 1 [.string tx] rfl rfl (one_cell W2 _ _) (fun u hu => by rw [List.mem_singleton.1 hu]; rfl) (by simp only [maxLen]; omega) (by omega) (by have := B2.out.size; simp; omega) ?_
    intro v4 W3 ho4 hg4 _
    obtain ⟨A4, c4, rfl⟩ := own_form ho4
    obtain ⟨r1, r2, r3, r4, r5, r6⟩ := row_more (cb := mb) E2.out OW2.out (by decide) _ hg4 ho4 B2.out.size HH.out.lo.2.1
    have d1 := blk_cell r1 0
    have y1 := blk_frozen r1 0
    simp at d1
    have R3 := Lib.hid (And.intro r2 (And.intro r3 (And.intro r4 (And.intro r5 r6))))
    clear r1 r2 r3 r4 r5 r6 ho4)
  obtain ⟨W4, hW4⟩ : ∃ W4, W4 = W3.setCell ⟨mb, 0, none⟩ (.slice A4 (j + 1) c4) := ⟨_, rfl⟩
  rw [← hW4] at R3 ⊢
  have nlm : lb ≠ mb := blk_neR S2.out.1 E2.out (by decide)
  have nom : mo ≠ mb := blk_neR EO.out E2.out (by decide)
  have e1 := R3.out.2.2.2.1 lb _ _ S2.out.1 (by decide) nlm
  have eo := R3.out.2.2.2.1 mo _ _ EO.out (by decide) nom
  have ow1 : W4.ownsRow w.heap.size 29 1 (.slice A3 (j + 1) c3) (j + 1) ((ls.take j).map nV ++ [.int .u64 (sl : Int)]) := by
    refine ⟨S2.out.2.1, ?_⟩
    rcases S2.out.2.2 with h2 | ⟨g, cap, cur, e, b, r, q⟩
    · exact .inl h2
    · exact .inr ⟨g, cap, cur, e, b, R3.out.2.2.2.1 g _ _ r (by decide) (blk_neR r E2.out (by decide)), q⟩
  have et : (ls.take (j + 1)).map nV = (ls.take j).map nV ++ [.int .u64 (sl : Int)] := by
    rw [List.take_succ_eq_append_getElem hj, List.map_append, HS.out.1]; rfl
  have et2 : (ls.take (j + 1)).map tV = (ls.take j).map tV ++ [.string tx] := by
    rw [List.take_succ_eq_append_getElem hj, List.map_append, HS.out.2]; rfl
  have hTB : TB w most ls lb mb mo (j + 1) W4 := ⟨B2.out.trans R3.out.2.2.1, ⟨_, e1, by rw [et]; exact ow1⟩, ⟨_, R3.out.1, by rw [et2]; exact R3.out.2.1⟩, eo, HH.out.lo⟩
  have M3 := Lib.hid (M1.out.trans (mild_of E2.out (by decide) (by decide) R3.out.2.2.2.1 R3.out.2.2.2.2))
  have f1 := blk_cell e1 0
  have fo := blk_cell eo 0
  simp at f1 fo
  have HTB := Lib.hid hTB
  clear hTB e1 eo ow1 et et2 hW4 R3 nlm nom d1 y1 b2 z2
  by_cases hlt : j + 1 < most
  · have hlti : (j : Int) + 1 < (most : Int) := by omega
    have HD := Lib.hid (show decide (j + 1 < most) = true by simp [hlt])
    clear hlt
    go_wp2
    go_ret
    exact ⟨by rw [HD.out]; simp, HTB.out, M3.out⟩
  · have hlti : ¬ (j : Int) + 1 < (most : Int) := by omega
    have HD := Lib.hid (show decide (j + 1 < most) = false by simp [hlt])
    clear hlt
    go_wp2
    go_ret
    exact ⟨by rw [HD.out]; simp, HTB.out, M3.out⟩

set_option maxRecDepth 100000 in
set_option maxHeartbeats 4000000 in
/-- told: the first slots that have values, as many as are wanted, and their values. -/
theorem told_any (K : RingS) (hAl : AllS K) (w0 W0 : World) (R : Nat) (s : RS ByteArray) (hl : LiveR K w0 R s W0) (ls : List (Nat × ByteArray)) (hls : Listed s ls) (hlen : ls.length ≤ 1000) (most : Nat) (hm1 : 1 ≤ most) (hm2 : most ≤ 1000) :
    Calls Try.prog 21 #[.pointer (some ⟨R, 0, none⟩), .int .i64 (most : Int)] W0 fun e W' => ∃ A c A' c', e = .returned (.tuple #[.slice A (min most ls.length) c, .slice A' (min most ls.length) c']) ∧
      W'.ownsRow W0.heap.size 29 1 (.slice A (min most ls.length) c) (min most ls.length) ((ls.take (min most ls.length)).map nV) ∧ W'.ownsRow W0.heap.size 9 1 (.slice A' (min most ls.length) c') (min most ls.length) ((ls.take (min most ls.length)).map tV) ∧ Below W0.heap.size W0 W' := by
  obtain ⟨p, hpm⟩ : ∃ p, p = min most ls.length := ⟨_, rfl⟩
  rw [← hpm]
  have HPM := Lib.hid hpm
  clear hpm
  obtain ⟨F, hp, hF⟩ := hl.ex
  have HP := Lib.hid hp
  have HA := Lib.hid hAl
  have HLS := Lib.hid (And.intro hls hlen)
  have hmi : (most : Int) ≤ 1000 := by omega
  clear hl hp hF hAl hls hlen
  go_enter Try.func21, Try.ntmps21
  go_upto_region 3 with (fail)
  obtain ⟨n, hn⟩ : ∃ n, n = W0.heap.size := ⟨_, rfl⟩
  obtain ⟨W1, hW1⟩ : ∃ W1, W1 = ((W0.alloc (Obj.cells #[.int .i64 (most : Int)] 3)).alloc (Obj.cells #[.slice none 0 0] 56)).alloc (Obj.cells #[.slice none 0 0] 57) := ⟨_, rfl⟩
  have hsz : W1.heap.size = n + 3 := by rw [hW1, hn]; simp
  have hst : TB W0 most ls (n + 1) (n + 1 + 1) n 0 W1 := by
    have hk : ∀ (V : World) (o : Obj) (k : Nat), k < V.heap.size → (V.alloc o).heap[k]? = V.heap[k]? := fun V o k h => Below.heap_alloc _ _ _ h
    have ha : ∀ (V : World) (o : Obj) (k : Nat), V.heap.size = k → (V.alloc o).heap[k]? = some o := fun V o k h => by subst h; exact World.alloc_heap_new V o
    subst hW1
    subst hn
    refine ⟨(((Below.refl _ W0).alloc (Nat.le_refl _) _).alloc (by simp) _).alloc (by simp <;> omega) _, ⟨.slice none 0 0, ?_, World.ownsRow_nil _ _ _ _⟩, ⟨.slice none 0 0, ?_, World.ownsRow_nil _ _ _ _⟩, ?_, by omega, by omega, by omega⟩
    · rw [hk _ _ _ (by simp)]; exact ha _ _ _ (by simp)
    · exact ha _ _ _ (by simp)
    · rw [hk _ _ _ (by simp <;> omega), hk _ _ _ (by simp)]; exact ha _ _ _ rfl
  rw [← hW1, ← hn]
  have only : ∀ j W, TB W0 most ls (n + 1) (n + 1 + 1) n j W → Only (fun k => n ≤ k) W1 W := by
    intro j W h
    have h1 := h.below
    have h2 := hst.below
    refine ⟨h1.os.trans h2.os.symm, h1.tape.trans h2.tape.symm, h1.output.trans h2.output.symm, ?_, fun k _ hk => ?_⟩
    · obtain ⟨v, hv, _⟩ := h.m
      have := (Array.getElem?_eq_some_iff.1 hv).1
      omega
    · have hkn : k < W0.heap.size := by omega
      exact (h1.block k hkn).trans (h2.block k hkn).symm
  have hall := HA.out F W1 R s ls (K.keep HP.out (Only.of_grew (F := fun _ => False) (by rw [hn] at hst; exact hst.below)) (fun _ _ => id)) HLS.out.1 29 #[.pointer (some ⟨n + 1, 0, none⟩), .pointer (some ⟨n + 1 + 1, 0, none⟩), .pointer (some ⟨n, 0, none⟩)] (fun k => n ≤ k)
    (fun j W => TB W0 most ls (n + 1) (n + 1 + 1) n j W ∧ (j = 0 ∨ j < most)) (fun W => TB W0 most ls (n + 1) (n + 1 + 1) n most W ∧ most ≤ ls.length) (enters_of Try.func29 (by kernel_rfl) rfl)
    (fun k hk hf => by have := K.lt HP.out k hf; omega) ⟨hst, .inl rfl⟩ (fun j => (TB.abides hst.below.size).and (Abides.pure _)) ((TB.abides hst.below.size).and (Abides.pure _)) (fun j W h => only j W h.1)
    (fun j hj W h => (told1_any W0 most hm2 ls (n + 1) (n + 1 + 1) n j W h.1 hj (by have := HLS.out.2; omega)).mono fun e W' ⟨he, ht, hm⟩ => by
      refine ⟨hm, ?_⟩
      by_cases hlt : j + 1 < most
      · exact .inl ⟨by rw [he]; simp [hlt], ht, .inr hlt⟩
      · have hjm : j + 1 = most := by
          rcases h.2 with h0 | h0
          · omega
          · omega
        exact .inr ⟨by rw [he]; simp [hlt], by have h' := ht; rw [hjm] at h'; exact h', by omega⟩)
  have HALL := Lib.hid hall
  have HN := Lib.hid hn
  clear hall only hst hW1 hn hsz
  go_wp2_with fail
  refine HALL.out.mono ?_
  rintro e W2 ⟨rfl, hij⟩
  have hp := HPM.out
  have htb : TB W0 most ls (n + 1) (n + 1 + 1) n p W2 := by
    rcases hij with ⟨h1, h2⟩ | ⟨h1, h2⟩
    · have : p = ls.length := by rw [hp]; rcases h2 with h0 | h0 <;> omega
      rw [this]; exact h1
    · have : p = most := by rw [hp]; omega
      rw [this]; exact h1
  obtain ⟨v1, k1, o1⟩ := htb.l
  obtain ⟨v2, k2, o2⟩ := htb.m
  obtain ⟨A1, c1, rfl⟩ := own_form o1
  obtain ⟨A2, c2, rfl⟩ := own_form o2
  have b1 := blk_cell k1 0
  have b2 := blk_cell k2 0
  simp at b1 b2
  have HB := Lib.hid htb.below
  have O1 := Lib.hid o1
  have O2 := Lib.hid o2
  clear hij htb k1 k2 o1 o2 hp HALL
  go_upto_region 4 with (fail)
  go_region
  go_wp2
  refine bodyPost_ret (v := .tuple #[.slice A1 p c1, .slice A2 p c2]) (by simp [results, Try.results21, go_sem]) rfl ⟨A1, c1, A2, c2, rfl, ?_, ?_, HB.out.drew⟩
  · exact own_below O1.out (Below.refl _ W2).drew
  · exact own_below O2.out (Below.refl _ W2).drew
end Go.Proofs.Yteeiiaahhoeohaa
