/- What the walks of the laws on stores ask of the program's package stable; stores that live. -/
import Derived.Test.YtdiihaeelcbjbaaGreatDoorStM
import Derived.Test.YtdiihaeelcbjbaaGreatDoorBlW
import Derived.Test.YtdiihaeelcbjbaaGreatDoorRcSp
namespace Go.Proofs.YtdiihaeelcbjbaaGreatDoor
open Go.RowKit

/-- A set, on a disk: what disk and store become, the answer. -/
def SM.on (s : SM) (d : DS) (u : UM) : (DS × SM) × Nat :=
  if s.may u ≠ 0 then ((d, s), s.may u) else (((d.recd (bytesUM u)).1, if (d.recd (bytesUM u)).2 = 0 then s.upd u else s), (d.recd (bytesUM u)).2)
def SM.vote (s : SM) (n : Nat) : Option VM := s.vs.find? fun v => v.s == n
/-- Bytes in new memory: in a block of their own that may be written. -/
def OwnB (base : Nat) (w : World) (y : Value) (L : Nat) (x : List UInt8) : Prop := L = x.length ∧ ∃ A c, y = .slice A L c ∧ (x ≠ [] → ∃ g cur mk, A = some ⟨g, 0, none⟩ ∧ base ≤ g ∧ w.heap[g]? = some (.cells cur 5 mk) ∧ (∀ i, i < x.length → w.frozen? ⟨g, i, none⟩ = false) ∧ ∀ i (h : i < x.length), cur[i]? = some (enc x[i]))
section
variable {base : Nat} {w W : World} {y : Value} {L : Nat} {x : List UInt8}
theorem OwnB.len (h : OwnB base w y L x) : L = x.length := h.1
theorem OwnB.form (h : OwnB base w y L x) : ∃ A c, y = .slice A L c := by
  obtain ⟨_, A, c, e, _⟩ := h
  exact ⟨A, c, e⟩
theorem OwnB.has {A : Option Addr} {c : Nat} (h : OwnB base w (.slice A L c) L x) : HasA w w.heap.size A x := fun hn => by
  obtain ⟨_, A', c', e, h⟩ := h
  cases e
  obtain ⟨g, cur, mk, hA, _, hg, _, hc⟩ := h hn
  exact ⟨g, 0, hA, (Array.getElem?_eq_some_iff.1 hg).1, fun i hi => by rw [Nat.zero_add]; exact (cell_of_row w g i cur _ mk hg).trans (hc i hi)⟩
theorem OwnB.isB (h : OwnB base w y L x) : IsB w y x := by
  obtain ⟨A, c, rfl⟩ := h.form
  exact ⟨A, L, c, rfl, h.1, h.has⟩
theorem OwnB.only {Z : Nat → Prop} (h : OwnB base w y L x) (o : Only Z w W) (hZ : ∀ k, base ≤ k → k < w.heap.size → ¬ Z k) : OwnB base W y L x := by
  obtain ⟨h0, A, c, e, h⟩ := h
  refine ⟨h0, A, c, e, fun hn => ?_⟩
  obtain ⟨g, cur, mk, hA, hb, hg, hf, hc⟩ := h hn
  have hl := (Array.getElem?_eq_some_iff.1 hg).1
  have hk := o.block g hl (hZ g hb hl)
  refine ⟨g, cur, mk, hA, hb, hk.trans hg, fun i hi => ?_, hc⟩
  rw [← hf i hi]
  unfold World.frozen?
  rw [hk]
theorem OwnB.grew (h : OwnB base w y L x) (hb : Below w.heap.size w W) : OwnB base W y L x := h.only (Only.of_grew (F := fun _ => False) hb) fun _ _ _ => id
theorem OwnB.down {b : Nat} (h : OwnB base w y L x) (hb : b ≤ base) : OwnB b w y L x := by
  obtain ⟨h0, A, c, e, h⟩ := h
  refine ⟨h0, A, c, e, fun hn => ?_⟩
  obtain ⟨g, cur, mk, hA, h1, h2⟩ := h hn
  exact ⟨g, cur, mk, hA, Nat.le_trans hb h1, h2⟩
end
/-- A vote that was told: its cells, its bytes in new memory. -/
def VoteV (base : Nat) (w : World) (cs : List Value) (v : VM) : Prop := ∃ y L, cs = [.int .u64 (v.s : Int), .int .u64 (v.b.n : Int), .int .i64 v.b.r, y] ∧ OwnB base w y L v.x
/-- Votes that lie in a row, each's bytes in new memory. -/
def HasVM (base : Nat) (w : World) (A : Option Addr) (l : List VM) : Prop := l ≠ [] → ∃ b o, A = some ⟨b, o, none⟩ ∧ base ≤ b ∧ b < w.heap.size ∧ ∀ j (h : j < l.length), ∃ y L, w.cell? ⟨b, o + j * 4, none⟩ = some (.int .u64 (l[j].s : Int)) ∧ w.cell? ⟨b, o + j * 4 + 1, none⟩ = some (.int .u64 (l[j].b.n : Int)) ∧ w.cell? ⟨b, o + j * 4 + 2, none⟩ = some (.int .i64 l[j].b.r) ∧ w.cell? ⟨b, o + j * 4 + 3, none⟩ = some y ∧ OwnB base w y L l[j].x
/-- A call that changes a store and its disk. -/
def TurnsS (Pl : (Nat → Prop) → World → Nat → DS → Prop) (St : (Nat → Prop) → World → Nat → Nat → SM → Prop) (F G : Nat → Prop) (w : World) (R B : Nat) (r : (DS × SM) × Nat) (e : Ending) (W' : World) : Prop :=
  e = .returned (.int .i64 (r.2 : Int)) ∧ ∃ F' G', Pl F' W' R r.1.1 ∧ St G' W' B R r.1.2 ∧ (∀ k, G' k → ¬ F' k) ∧ Only (fun k => F k ∨ G k) w W' ∧ ∀ k, F' k ∨ G' k → F k ∨ G k ∨ w.heap.size ≤ k
/-- The program's package stable, over a disk of the program. -/
structure StabK (P : DiskK) where
  St : (Nat → Prop) → World → Nat → Nat → SM → Prop
  keep : ∀ {G F : Nat → Prop} {w w' : World} {B R : Nat} {s : SM}, St G w B R s → Only F w w' → (∀ k, G k → ¬ F k) → St G w' B R s
  lt : ∀ {G : Nat → Prop} {w : World} {B R : Nat} {s : SM}, St G w B R s → ∀ k, G k → k < w.heap.size
  openDead : ∀ {F : Nat → Prop} {w : World} {R : Nat} {d : DS}, Tab w → P.Pl F w R d → d.dead = true → d.A.length ≤ 100000 → Calls Tryz.prog 13 #[.pointer (some ⟨R, 0, none⟩)] w fun e W' => e = .returned (.tuple #[.pointer none, .int .i64 20]) ∧ Below w.heap.size w W'
  opens : ∀ {F : Nat → Prop} {w : World} {R : Nat} {d : DS} {s : SM}, Tab w → P.Pl F w R d → d.dead = false → (opn d.A d.y).2.2 = 0 → ofS (opn d.A d.y).1 SM.new = some s → s.ok → d.A.length ≤ 100000 → (∀ k, F k → 0 < k) → Calls Tryz.prog 13 #[.pointer (some ⟨R, 0, none⟩)] w fun e W' => ∃ B F' G, e = .returned (.tuple #[.pointer (some ⟨B, 0, none⟩), .int .i64 0]) ∧
    P.Pl F' W' R d.opened ∧ St G W' B R s ∧ Only F w W' ∧ (∀ k, F' k → F k ∨ w.heap.size ≤ k) ∧ ∀ k, G k → w.heap.size ≤ k ∧ ¬ F' k
  setP : ∀ {F G : Nat → Prop} {w : World} {B R : Nat} {d : DS} {s : SM} (b : BA), Tab w → P.Pl F w R d → St G w B R s → (∀ k, G k → ¬ F k) → s.ok → s.vs.length ≤ 1000 → d.A.length ≤ 10000000 → b.ok → (∀ k, F k ∨ G k → 0 < k) →
    Calls Tryz.prog 15 #[.pointer (some ⟨B, 0, none⟩), .agg #[.int .u64 (b.n : Int), .int .i64 b.r]] w (TurnsS P.Pl St F G w R B (s.on d ⟨1, 0, b, []⟩))
  setV : ∀ {F G : Nat → Prop} {w : World} {B R : Nat} {d : DS} {s : SM} (n : Nat) (b : BA) (A : Option Addr) (L c : Nat) (x : List UInt8), Tab w → P.Pl F w R d → St G w B R s → (∀ k, G k → ¬ F k) → s.ok → s.vs.length ≤ 1000 → d.A.length ≤ 10000000 → n < 18446744073709551616 → b.ok → L = x.length → L ≤ c → L ≤ 1000 → HasA w w.heap.size A x → (∀ k, F k ∨ G k → 0 < k) →
    Calls Tryz.prog 29 #[.pointer (some ⟨B, 0, none⟩), .agg #[.int .u64 (n : Int), .int .u64 (b.n : Int), .int .i64 b.r, .slice A L c]] w (TurnsS P.Pl St F G w R B (s.on d ⟨2, n, b, x⟩))
  setS : ∀ {F G : Nat → Prop} {w : World} {B R : Nat} {d : DS} {s : SM} (n : Nat) (A : Option Addr) (L c : Nat) (x : List UInt8), Tab w → P.Pl F w R d → St G w B R s → (∀ k, G k → ¬ F k) → s.ok → s.vs.length ≤ 1000 → d.A.length ≤ 10000000 → n < 18446744073709551616 → L = x.length → L ≤ c → L ≤ 1000 → HasA w w.heap.size A x → (∀ k, F k ∨ G k → 0 < k) →
    Calls Tryz.prog 17 #[.pointer (some ⟨B, 0, none⟩), .int .u64 (n : Int), .slice A L c] w (TurnsS P.Pl St F G w R B (s.on d ⟨3, n, B0, x⟩))
  sync : ∀ {F G : Nat → Prop} {w : World} {B R : Nat} {d : DS} {s : SM}, P.Pl F w R d → St G w B R s → (∀ k, G k → ¬ F k) →
    Calls Tryz.prog 14 #[.pointer (some ⟨B, 0, none⟩)] w (TurnsS P.Pl St F G w R B ((d.sync.1, s), d.sync.2))
  promise : ∀ {G : Nat → Prop} {w : World} {B R : Nat} {s : SM}, St G w B R s → s.ok → Calls Tryz.prog 25 #[.pointer (some ⟨B, 0, none⟩)] w fun e W' => e = .returned (.agg #[.int .u64 (s.p.n : Int), .int .i64 s.p.r]) ∧ Below w.heap.size w W'
  base : ∀ {G : Nat → Prop} {w : World} {B R : Nat} {s : SM}, St G w B R s → s.ok → Calls Tryz.prog 26 #[.pointer (some ⟨B, 0, none⟩)] w fun e W' => e = .returned (.int .u64 (s.base : Int)) ∧ Below w.heap.size w W'
  snap : ∀ {G : Nat → Prop} {w : World} {B R : Nat} {s : SM}, St G w B R s → s.ok → Calls Tryz.prog 30 #[.pointer (some ⟨B, 0, none⟩)] w fun e W' => ∃ y L, e = .returned y ∧ OwnB w.heap.size W' y L s.snap ∧ Below w.heap.size w W'
  vote : ∀ {G : Nat → Prop} {w : World} {B R : Nat} {s : SM} (n : Nat), St G w B R s → s.ok → s.vs.length ≤ 1000 → n < 18446744073709551616 → Calls Tryz.prog 28 #[.pointer (some ⟨B, 0, none⟩), .int .u64 (n : Int)] w fun e W' => Below w.heap.size w W' ∧
    match s.vote n with
    | some v => ∃ cs, e = .returned (.tuple #[.agg cs.toArray, .bool true]) ∧ VoteV w.heap.size W' cs v
    | none => e = .returned (.tuple #[.agg #[.int .u64 0, .int .u64 0, .int .i64 0, .slice none 0 0], .bool false])
  votes : ∀ {G : Nat → Prop} {w : World} {B R : Nat} {s : SM} (n : Nat), St G w B R s → s.ok → s.vs.length ≤ 1000 → n < 18446744073709551616 → Calls Tryz.prog 27 #[.pointer (some ⟨B, 0, none⟩), .int .u64 (n : Int)] w fun e W' => Below w.heap.size w W' ∧
    ∃ A c, e = .returned (.slice A (s.vs.filter fun v => decide (n ≤ v.s)).length c) ∧ HasVM w.heap.size W' A (s.vs.filter fun v => decide (n ≤ v.s))
theorem SM.on_ok {s : SM} (h : s.ok) (d : DS) {u : UM} (hu : u.ok) : (s.on d u).1.2.ok := by
  unfold SM.on
  split
  · exact h
  · rename_i hm
    show (if (d.recd (bytesUM u)).2 = 0 then s.upd u else s).ok
    split
    · exact h.upd hu (by simpa using hm)
    · exact h
theorem um1 {b : BA} (hb : b.ok) : (⟨1, 0, b, []⟩ : UM).ok := ⟨(show 1 ≤ 1 by decide), (show 1 ≤ 3 by decide), (show (0 : Nat) < 18446744073709551616 by decide), hb, Nat.zero_le _, (fun _ => ⟨rfl, rfl⟩), (fun e => absurd e (show ¬ 1 = 3 by decide))⟩
theorem um2 {n : Nat} {b : BA} {x : List UInt8} (hn : n < 18446744073709551616) (hb : b.ok) (hx : x.length ≤ 60000) : (⟨2, n, b, x⟩ : UM).ok := ⟨(show 1 ≤ 2 by decide), (show 2 ≤ 3 by decide), hn, hb, hx, (fun e => absurd e (show ¬ 2 = 1 by decide)), (fun e => absurd e (show ¬ 2 = 3 by decide))⟩
theorem um3 {n : Nat} {x : List UInt8} (hn : n < 18446744073709551616) (hx : x.length ≤ 60000) : (⟨3, n, B0, x⟩ : UM).ok := ⟨(show 1 ≤ 3 by decide), Nat.le_refl 3, hn, B0_ok, hx, (fun e => absurd e (show ¬ 3 = 1 by decide)), (fun _ => rfl)⟩
/-- A store and its disk that came since w, and blocks Q that their calls leave. -/
structure LiveT {P : DiskK} (K : StabK P) (w : World) (R B : Nat) (d : DS) (s : SM) (Q : Nat → Prop) (W : World) : Prop where
  ex : ∃ F G, P.Pl F W R d ∧ K.St G W B R s ∧ (∀ k, G k → ¬ F k) ∧ ∀ k, F k ∨ G k → w.heap.size ≤ k ∧ ¬ Q k
  below : Below w.heap.size w W
  q : ∀ k, Q k → k < W.heap.size
  ok : s.ok
section
variable {P : DiskK} {K : StabK P} {w W W' : World} {R B : Nat} {d : DS} {s : SM} {Q : Nat → Prop}
theorem LiveT.grew (h : LiveT K w R B d s Q W) (hb : Below W.heap.size W W') : LiveT K w R B d s Q W' := by
  obtain ⟨F, G, h1, h2, h3, h4⟩ := h.ex
  have ho := Only.of_grew (F := fun _ => False) hb
  exact ⟨⟨F, G, P.keep h1 ho (fun _ _ => id), K.keep h2 ho (fun _ _ => id), h3, h4⟩, h.below.trans (Below.mono hb h.below.size), fun k hk => Nat.lt_of_lt_of_le (h.q k hk) hb.size, h.ok⟩
/-- New blocks are protected, too. -/
theorem LiveT.more (h : LiveT K w R B d s Q W) (hb : Below W.heap.size W W') {Z : Nat → Prop} (h1 : ∀ k, Z k → W.heap.size ≤ k) (h2 : ∀ k, Z k → k < W'.heap.size) : LiveT K w R B d s (fun k => Z k ∨ Q k) W' := by
  obtain ⟨F, G, f1, f2, f3, f4⟩ := h.ex
  have ho := Only.of_grew (F := fun _ => False) hb
  refine ⟨⟨F, G, P.keep f1 ho (fun _ _ => id), K.keep f2 ho (fun _ _ => id), f3, fun k hk => ⟨(f4 k hk).1, ?_⟩⟩, h.below.trans (Below.mono hb h.below.size), ?_, h.ok⟩
  · rintro (hz | hq)
    · have : k < W.heap.size := hk.elim (P.lt f1 k) (K.lt f2 k)
      have := h1 k hz
      omega
    · exact (f4 k hk).2 hq
  · rintro k (hk | hk)
    · exact h2 k hk
    · exact Nat.lt_of_lt_of_le (h.q k hk) hb.size
/-- What is protected may change. -/
theorem LiveT.turn (h : LiveT K w R B d s Q W) {Z : Nat → Prop} (ho : Only Z W W') (hZ : ∀ k, Z k → Q k) (hZw : ∀ k, Z k → w.heap.size ≤ k) : LiveT K w R B d s Q W' := by
  obtain ⟨F, G, f1, f2, f3, f4⟩ := h.ex
  exact ⟨⟨F, G, P.keep f1 ho (fun k hk hz => (f4 k (.inl hk)).2 (hZ k hz)), K.keep f2 ho (fun k hk hz => (f4 k (.inr hk)).2 (hZ k hz)), f3, f4⟩, h.below.trans (ho.below h.below.size hZw), fun k hk => Nat.lt_of_lt_of_le (h.q k hk) ho.size, h.ok⟩
/-- A call of the store has gone by. -/
theorem LiveT.of_turns (h : LiveT K w R B d s Q W) {F G : Nat → Prop} (f4 : ∀ k, F k ∨ G k → w.heap.size ≤ k ∧ ¬ Q k) {r : (DS × SM) × Nat} {e : Ending} (hok : r.1.2.ok) (ht : TurnsS P.Pl K.St F G W R B r e W') : e = .returned (.int .i64 (r.2 : Int)) ∧ LiveT K w R B r.1.1 r.1.2 Q W' ∧ ∃ Z, Only Z W W' ∧ ∀ k, Z k → w.heap.size ≤ k ∧ ¬ Q k := by
  obtain ⟨he, F', G', k1, k2, k3, k4, k5⟩ := ht
  refine ⟨he, ⟨⟨F', G', k1, k2, k3, fun k hk => ?_⟩, h.below.trans (k4.below h.below.size (fun k hk => (f4 k hk).1)), fun k hk => Nat.lt_of_lt_of_le (h.q k hk) k4.size, hok⟩, _, k4, f4⟩
  rcases k5 k hk with h' | h' | h'
  · exact f4 k (.inl h')
  · exact f4 k (.inr h')
  · exact ⟨Nat.le_trans h.below.size h', fun hq => by have := h.q k hq; omega⟩
theorem LiveT.setP (h : LiveT K w R B d s Q W) (hT : Tab w) (b : BA) (hb : b.ok) (hv : s.vs.length ≤ 1000) (hl : d.A.length ≤ 10000000) : Calls Tryz.prog 15 #[.pointer (some ⟨B, 0, none⟩), .agg #[.int .u64 (b.n : Int), .int .i64 b.r]] W fun e W' => e = .returned (.int .i64 ((s.on d ⟨1, 0, b, []⟩).2 : Int)) ∧ LiveT K w R B (s.on d ⟨1, 0, b, []⟩).1.1 (s.on d ⟨1, 0, b, []⟩).1.2 Q W' ∧ ∃ Z, Only Z W W' ∧ ∀ k, Z k → w.heap.size ≤ k ∧ ¬ Q k := by
  obtain ⟨F, G, h1, h2, h3, h4⟩ := h.ex
  exact (K.setP b (hT.grew h.below) h1 h2 h3 h.ok hv hl hb (fun k hk => Nat.lt_of_lt_of_le hT.1 (h4 k hk).1)).mono fun _ _ ht => h.of_turns h4 (SM.on_ok h.ok d (um1 hb)) ht
theorem LiveT.setV (h : LiveT K w R B d s Q W) (hT : Tab w) (n : Nat) (b : BA) (A : Option Addr) (L c : Nat) (x : List UInt8) (hn : n < 18446744073709551616) (hb : b.ok) (hL : L = x.length) (hc : L ≤ c) (hx : L ≤ 1000) (hA : HasA W W.heap.size A x) (hv : s.vs.length ≤ 1000) (hl : d.A.length ≤ 10000000) : Calls Tryz.prog 29 #[.pointer (some ⟨B, 0, none⟩), .agg #[.int .u64 (n : Int), .int .u64 (b.n : Int), .int .i64 b.r, .slice A L c]] W fun e W' => e = .returned (.int .i64 ((s.on d ⟨2, n, b, x⟩).2 : Int)) ∧ LiveT K w R B (s.on d ⟨2, n, b, x⟩).1.1 (s.on d ⟨2, n, b, x⟩).1.2 Q W' ∧ ∃ Z, Only Z W W' ∧ ∀ k, Z k → w.heap.size ≤ k ∧ ¬ Q k := by
  obtain ⟨F, G, h1, h2, h3, h4⟩ := h.ex
  exact (K.setV n b A L c x (hT.grew h.below) h1 h2 h3 h.ok hv hl hn hb hL hc hx hA (fun k hk => Nat.lt_of_lt_of_le hT.1 (h4 k hk).1)).mono fun _ _ ht => h.of_turns h4 (SM.on_ok h.ok d (um2 hn hb (by omega))) ht
theorem LiveT.setS (h : LiveT K w R B d s Q W) (hT : Tab w) (n : Nat) (A : Option Addr) (L c : Nat) (x : List UInt8) (hn : n < 18446744073709551616) (hL : L = x.length) (hc : L ≤ c) (hx : L ≤ 1000) (hA : HasA W W.heap.size A x) (hv : s.vs.length ≤ 1000) (hl : d.A.length ≤ 10000000) : Calls Tryz.prog 17 #[.pointer (some ⟨B, 0, none⟩), .int .u64 (n : Int), .slice A L c] W fun e W' => e = .returned (.int .i64 ((s.on d ⟨3, n, B0, x⟩).2 : Int)) ∧ LiveT K w R B (s.on d ⟨3, n, B0, x⟩).1.1 (s.on d ⟨3, n, B0, x⟩).1.2 Q W' ∧ ∃ Z, Only Z W W' ∧ ∀ k, Z k → w.heap.size ≤ k ∧ ¬ Q k := by
  obtain ⟨F, G, h1, h2, h3, h4⟩ := h.ex
  exact (K.setS n A L c x (hT.grew h.below) h1 h2 h3 h.ok hv hl hn hL hc hx hA (fun k hk => Nat.lt_of_lt_of_le hT.1 (h4 k hk).1)).mono fun _ _ ht => h.of_turns h4 (SM.on_ok h.ok d (um3 hn (by omega))) ht
theorem LiveT.sync (h : LiveT K w R B d s Q W) : Calls Tryz.prog 14 #[.pointer (some ⟨B, 0, none⟩)] W fun e W' => e = .returned (.int .i64 (d.sync.2 : Int)) ∧ LiveT K w R B d.sync.1 s Q W' ∧ ∃ Z, Only Z W W' ∧ ∀ k, Z k → w.heap.size ≤ k ∧ ¬ Q k := by
  obtain ⟨F, G, h1, h2, h3, h4⟩ := h.ex
  exact (K.sync h1 h2 h3).mono fun _ _ ht => h.of_turns h4 (r := ((d.sync.1, s), d.sync.2)) h.ok ht
theorem LiveT.promise (h : LiveT K w R B d s Q W) : Calls Tryz.prog 25 #[.pointer (some ⟨B, 0, none⟩)] W fun e W' => e = .returned (.agg #[.int .u64 (s.p.n : Int), .int .i64 s.p.r]) ∧ Below W.heap.size W W' := by
  obtain ⟨F, G, h1, h2, h3, h4⟩ := h.ex
  exact K.promise h2 h.ok
theorem LiveT.base (h : LiveT K w R B d s Q W) : Calls Tryz.prog 26 #[.pointer (some ⟨B, 0, none⟩)] W fun e W' => e = .returned (.int .u64 (s.base : Int)) ∧ Below W.heap.size W W' := by
  obtain ⟨F, G, h1, h2, h3, h4⟩ := h.ex
  exact K.base h2 h.ok
theorem LiveT.snap (h : LiveT K w R B d s Q W) : Calls Tryz.prog 30 #[.pointer (some ⟨B, 0, none⟩)] W fun e W' => ∃ y L, e = .returned y ∧ OwnB W.heap.size W' y L s.snap ∧ Below W.heap.size W W' := by
  obtain ⟨F, G, h1, h2, h3, h4⟩ := h.ex
  exact K.snap h2 h.ok
theorem LiveT.vote (h : LiveT K w R B d s Q W) (n : Nat) (hv : s.vs.length ≤ 1000) (hn : n < 18446744073709551616) : Calls Tryz.prog 28 #[.pointer (some ⟨B, 0, none⟩), .int .u64 (n : Int)] W fun e W' => Below W.heap.size W W' ∧
    match s.vote n with
    | some v => ∃ cs, e = .returned (.tuple #[.agg cs.toArray, .bool true]) ∧ VoteV W.heap.size W' cs v
    | none => e = .returned (.tuple #[.agg #[.int .u64 0, .int .u64 0, .int .i64 0, .slice none 0 0], .bool false]) := by
  obtain ⟨F, G, h1, h2, h3, h4⟩ := h.ex
  exact K.vote n h2 h.ok hv hn
theorem LiveT.votes (h : LiveT K w R B d s Q W) (n : Nat) (hv : s.vs.length ≤ 1000) (hn : n < 18446744073709551616) : Calls Tryz.prog 27 #[.pointer (some ⟨B, 0, none⟩), .int .u64 (n : Int)] W fun e W' => Below W.heap.size W W' ∧
    ∃ A c, e = .returned (.slice A (s.vs.filter fun v => decide (n ≤ v.s)).length c) ∧ HasVM W.heap.size W' A (s.vs.filter fun v => decide (n ≤ v.s)) := by
  obtain ⟨F, G, h1, h2, h3, h4⟩ := h.ex
  exact K.votes n h2 h.ok hv hn
/-- A disk is opened. -/
theorem LiveT.of_open (K : StabK P) (h : LiveD P w R d W) (hT : Tab w) (hd : d.dead = false) (ho : (opn d.A d.y).2.2 = 0) (hs : ofS (opn d.A d.y).1 SM.new = some s) (hok : s.ok) (hl : d.A.length ≤ 100000) : Calls Tryz.prog 13 #[.pointer (some ⟨R, 0, none⟩)] W fun e W' => ∃ B, e = .returned (.tuple #[.pointer (some ⟨B, 0, none⟩), .int .i64 0]) ∧ LiveT K w R B d.opened s (fun _ => False) W' := by
  obtain ⟨F, h1, h2⟩ := h.ex
  refine (K.opens (hT.grew h.below) h1 hd ho hs hok hl (fun k hk => Nat.lt_of_lt_of_le hT.1 (h2 k hk))).mono ?_
  rintro e W' ⟨B, F', G, he, k1, k2, k3, k4, k5⟩
  refine ⟨B, he, ⟨F', G, k1, k2, fun k hk => (k5 k hk).2, fun k hk => ⟨?_, id⟩⟩, h.below.trans (k3.below h.below.size h2), fun _ h => h.elim, hok⟩
  rcases hk with hk | hk
  · rcases k4 k hk with h' | h'
    · exact h2 k h'
    · exact Nat.le_trans h.below.size h'
  · exact Nat.le_trans h.below.size (k5 k hk).1
/-- A call on the disk alone leaves the store. -/
theorem LiveT.disk (h : LiveT K w R B d s Q W) {r : DS × Nat} {e : Ending} {F G : Nat → Prop} (f2 : K.St G W B R s) (f3 : ∀ k, G k → ¬ F k) (f4 : ∀ k, F k ∨ G k → w.heap.size ≤ k ∧ ¬ Q k) (ht : Turns P.Pl F R W r e W') : e = .returned (.int .i64 (r.2 : Int)) ∧ LiveT K w R B r.1 s Q W' ∧ ∃ Z, Only Z W W' ∧ ∀ k, Z k → w.heap.size ≤ k ∧ ¬ Q k := by
  obtain ⟨he, F', k1, k2, k3⟩ := ht
  refine ⟨he, ⟨⟨F', G, k1, K.keep f2 k2 f3, fun k hk hf => ?_, fun k hk => ?_⟩, h.below.trans (k2.below h.below.size (fun k hk => (f4 k (.inl hk)).1)), fun k hk => Nat.lt_of_lt_of_le (h.q k hk) k2.size, h.ok⟩, _, k2, fun k hk => f4 k (.inl hk)⟩
  · rcases k3 k hf with h' | h'
    · exact f3 k hk h'
    · exact absurd (K.lt f2 k hk) (Nat.not_lt.2 h')
  · rcases hk with hk | hk
    · rcases k3 k hk with h' | h'
      · exact f4 k (.inl h')
      · exact ⟨Nat.le_trans h.below.size h', fun hq => by have := h.q k hq; omega⟩
    · exact f4 k (.inr hk)
theorem LiveT.crash (h : LiveT K w R B d s Q W) (n : Int) (hn : InI5 n) : Calls Tryz.prog 12 #[.pointer (some ⟨R, 0, none⟩), .int .i64 n] W fun e W' => e = .returned (.int .i64 ((d.crash n).2 : Int)) ∧ LiveT K w R B (d.crash n).1 s Q W' ∧ ∃ Z, Only Z W W' ∧ ∀ k, Z k → w.heap.size ≤ k ∧ ¬ Q k := by
  obtain ⟨F, G, h1, h2, h3, h4⟩ := h.ex
  exact (P.crash n h1 hn).mono fun _ _ ht => h.disk h2 h3 h4 ht
theorem LiveT.restart (h : LiveT K w R B d s Q W) : Calls Tryz.prog 23 #[.pointer (some ⟨R, 0, none⟩)] W fun e W' => e = .returned (.int .i64 (d.restart.2 : Int)) ∧ LiveT K w R B d.restart.1 s Q W' ∧ ∃ Z, Only Z W W' ∧ ∀ k, Z k → w.heap.size ≤ k ∧ ¬ Q k := by
  obtain ⟨F, G, h1, h2, h3, h4⟩ := h.ex
  exact (P.restart h1).mono fun _ _ ht => h.disk h2 h3 h4 ht
theorem LiveT.bytes (h : LiveT K w R B d s Q W) : Calls Tryz.prog 21 #[.pointer (some ⟨R, 0, none⟩)] W fun e W' => ∃ v L, e = .returned v ∧ W'.ownsRow W.heap.size 5 1 v L (d.A.map enc) ∧ Below W.heap.size W W' := by
  obtain ⟨F, G, h1, h2, h3, h4⟩ := h.ex
  exact P.bytes h1
theorem LiveT.synced (h : LiveT K w R B d s Q W) : Calls Tryz.prog 22 #[.pointer (some ⟨R, 0, none⟩)] W fun e W' => e = .returned (.int .i64 (d.y : Int)) ∧ Below W.heap.size W W' := by
  obtain ⟨F, G, h1, h2, h3, h4⟩ := h.ex
  exact P.synced h1
theorem LiveT.live (h : LiveT K w R B d s Q W) : LiveD P w R d W := by
  obtain ⟨F, G, h1, h2, h3, h4⟩ := h.ex
  exact ⟨⟨F, h1, fun k hk => (h4 k (.inl hk)).1⟩, h.below⟩
end
end Go.Proofs.YtdiihaeelcbjbaaGreatDoor
