/- Acts of the laws on stores: what set and fresh come to. Acts that lie in a row; whether there are too many, or one too long. Rows that came in: their items, by what an item's cells say. Rows of acts on stores that came in. -/
import Derived.Test.YtdiihaeelcbjbaaGreatDoorMStW
import Derived.Test.YtdiihaeelcbjbaaGreatDoorMBaseO
import Derived.Deep.Slices
import Derived.ProofKit
import Derived.SizedLaws
-- StAct
namespace Go.Proofs.YtdiihaeelcbjbaaGreatDoor
open Go.RowKit

theorem eqZ (m : Nat) : ((m : Int) == 0) = decide (m = 0) := by
  by_cases h : m = 0 <;> simp [h]
/-- An act. -/
structure AcM where
  k : Nat
  n : Int
  s : Nat
  b : BA
  x : List UInt8
structure AcM.ok (a : AcM) : Prop where
  k : a.k < 256
  s : a.s < 18446744073709551616
  b : a.b.ok
def AcM.val (a : AcM) (A : Option Addr) (c : Nat) : Value := .agg #[.int .u8 (a.k : Int), .int .i64 a.n, .int .u64 (a.s : Int), .int .u64 (a.b.n : Int), .int .i64 a.b.r, .slice A a.x.length c]
/-- The update that an act sets. -/
def AcM.um (a : AcM) : UM := if a.k % 3 = 0 then ⟨1, 0, a.b, []⟩ else if a.k % 3 = 1 then ⟨2, a.s, a.b, a.x⟩ else ⟨3, a.s, B0, a.x⟩
theorem AcM.um_ok {a : AcM} (h : a.ok) (hx : a.x.length ≤ 60000) : a.um.ok := by
  unfold AcM.um
  split
  · exact um1 h.b
  · split
    · exact um2 h.s h.b hx
    · exact um3 h.s hx
theorem boxAc {w W : World} {a : AcM} {A : Option Addr} {c : Nat} (h : W = w.alloc (.cells #[.int .u8 (a.k : Int), .int .i64 a.n, .int .u64 (a.s : Int), .int .u64 (a.b.n : Int), .int .i64 a.b.r, .slice A a.x.length c] 41)) : Below w.heap.size w W ∧ W.heap[w.heap.size]? = some (.cells #[.int .u8 (a.k : Int), .int .i64 a.n, .int .u64 (a.s : Int), .int .u64 (a.b.n : Int), .int .i64 a.b.r, .slice A a.x.length c] 41 (0, 0)) := by
  subst h
  exact ⟨(Below.refl _ w).alloc (Nat.le_refl _) _, World.alloc_heap_new w _⟩
set_option maxRecDepth 100000 in
set_option maxHeartbeats 2000000 in
theorem set_any {P : DiskK} {K : StabK P} {w W : World} {R B : Nat} {d : DS} {s : SM} {Q : Nat → Prop} (h : LiveT K w R B d s Q W) (hT : Tab w) {a : AcM} (ha : a.ok) (A : Option Addr) (c : Nat) (hc : a.x.length ≤ c) (hx : a.x.length ≤ 1000) (hA : HasA W W.heap.size A a.x) (hv : s.vs.length ≤ 1000) (hl : d.A.length ≤ 10000000) :
    Calls Tryz.prog 20 #[.pointer (some ⟨B, 0, none⟩), a.val A c] W fun e W' => e = .returned (.bool (decide ((s.on d a.um).2 = 0))) ∧ LiveT K w R B (s.on d a.um).1.1 (s.on d a.um).1.2 Q W' ∧ ∃ Z, Only Z W W' ∧ ∀ k, Z k → w.heap.size ≤ k ∧ ¬ Q k := by
  obtain ⟨W1, hW1⟩ : ∃ W1, W1 = W.alloc (.cells #[.int .u8 (a.k : Int), .int .i64 a.n, .int .u64 (a.s : Int), .int .u64 (a.b.n : Int), .int .i64 a.b.r, .slice A a.x.length c] 41) := ⟨_, rfl⟩
  obtain ⟨b1, k1⟩ := boxAc hW1
  have l1 := h.grew b1
  have hA1 := hA.below' b1
  have HP := Lib.hid (l1.setP hT a.b ha.b hv hl)
  have HV := Lib.hid (l1.setV hT a.s a.b A a.x.length c a.x ha.s ha.b rfl hc hx hA1 hv hl)
  have HS := Lib.hid (l1.setS hT a.s A a.x.length c a.x ha.s rfl hc hx hA1 hv hl)
  have HF := Lib.hid (show ∀ (r : (DS × SM) × Nat) (W' : World), LiveT K w R B r.1.1 r.1.2 Q W' → (∃ Z, Only Z W1 W' ∧ ∀ k, Z k → w.heap.size ≤ k ∧ ¬ Q k) → LiveT K w R B r.1.1 r.1.2 Q W' ∧ ∃ Z, Only Z W W' ∧ ∀ k, Z k → w.heap.size ≤ k ∧ ¬ Q k from fun r W' hl ⟨Z, o, hZ⟩ => ⟨hl, Z, (Only.of_grew (F := Z) b1).trans o (fun _ => .inl), hZ⟩)
  clear l1 hA1 h hA hT hv hl hx hc
  have c0 := blk_cell k1 0
  have c2 := blk_cell k1 2
  have c3 := blk_cell k1 3
  have c4 := blk_cell k1 4
  have c5 := blk_cell k1 5
  simp at c0 c2 c3 c4 c5
  obtain ⟨pa, hpa⟩ : ∃ p, p = W.heap.size := ⟨_, rfl⟩
  rw [← hpa] at c0 c2 c3 c4 c5
  have hk := ha.k
  obtain ⟨k, hkk⟩ : ∃ k, k = a.k := ⟨_, rfl⟩
  obtain ⟨q, hq⟩ : ∃ q, q = k % 3 := ⟨_, rfl⟩
  have hq3 : q < 3 := by omega
  have htm : (k : Int).tmod 3 = (q : Int) := by rw [Int.tmod_eq_emod_of_nonneg (by omega)]; omega
  have HU := Lib.hid (And.intro hkk hq)
  have hval : a.val A c = .agg #[.int .u8 (k : Int), .int .i64 a.n, .int .u64 (a.s : Int), .int .u64 (a.b.n : Int), .int .i64 a.b.r, .slice A a.x.length c] := by rw [hkk]; rfl
  rw [hval]
  rw [← hkk] at c0 hW1
  clear hval hk hq b1 k1 ha
  rcases (show q = 0 ∨ q = 1 ∨ q = 2 by omega) with hq | hq | hq
  · have hu : a.um = ⟨1, 0, a.b, []⟩ := if_pos (by rw [← HU.out.1, ← HU.out.2]; exact hq)
    rw [hu]
    clear hu
    obtain ⟨r, hr⟩ : ∃ r, r = s.on d ⟨1, 0, a.b, []⟩ := ⟨_, rfl⟩
    have H1 := HP.out
    rw [← hr] at H1 ⊢
    obtain ⟨⟨d', s'⟩, m⟩ := r
    have HC := Lib.hid H1
    have htm0 : (k : Int).tmod 3 = 0 := by rw [htm, hq]; rfl
    clear H1 hr htm hq hq3 hkk HU HP HV HS
    go_enter Tryz.func20, Tryz.ntmps20
    go_upto_region 1 with (fail)
    rw [← hW1, ← hpa]
    clear hW1 hpa
    go_wp2_with fail
    refine HC.out.mono ?_
    rintro e W2 ⟨he, h2, h3⟩
    obtain rfl : e = .returned (.int .i64 (m : Int)) := he
    have H2 := Lib.hid (HF.out ((d', s'), m) W2 h2 h3)
    clear h2 h3 HC HF c0 c2 c3 c4 c5
    go_wp2
    go_ret
    exact ⟨congrArg (fun b => Ending.returned (.bool b)) (eqZ m), H2.out⟩
  · have hu : a.um = ⟨2, a.s, a.b, a.x⟩ := (if_neg (by rw [← HU.out.1, ← HU.out.2]; omega)).trans (if_pos (by rw [← HU.out.1, ← HU.out.2]; exact hq))
    rw [hu]
    clear hu
    obtain ⟨r, hr⟩ : ∃ r, r = s.on d ⟨2, a.s, a.b, a.x⟩ := ⟨_, rfl⟩
    have H1 := HV.out
    rw [← hr] at H1 ⊢
    obtain ⟨⟨d', s'⟩, m⟩ := r
    have HC := Lib.hid H1
    have htm0 : (k : Int).tmod 3 = 1 := by rw [htm, hq]; rfl
    clear H1 hr htm hq hq3 hkk HU HP HV HS
    go_enter Tryz.func20, Tryz.ntmps20
    go_upto_region 1 with (fail)
    rw [← hW1, ← hpa]
    clear hW1 hpa
    go_wp2_with fail
    refine HC.out.mono ?_
    rintro e W2 ⟨he, h2, h3⟩
    obtain rfl : e = .returned (.int .i64 (m : Int)) := he
    have H2 := Lib.hid (HF.out ((d', s'), m) W2 h2 h3)
    clear h2 h3 HC HF c0 c2 c3 c4 c5
    go_wp2
    go_ret
    exact ⟨congrArg (fun b => Ending.returned (.bool b)) (eqZ m), H2.out⟩
  · have hu : a.um = ⟨3, a.s, B0, a.x⟩ := (if_neg (by rw [← HU.out.1, ← HU.out.2]; omega)).trans (if_neg (by rw [← HU.out.1, ← HU.out.2]; omega))
    rw [hu]
    clear hu
    obtain ⟨r, hr⟩ : ∃ r, r = s.on d ⟨3, a.s, B0, a.x⟩ := ⟨_, rfl⟩
    have H1 := HS.out
    rw [← hr] at H1 ⊢
    obtain ⟨⟨d', s'⟩, m⟩ := r
    have HC := Lib.hid H1
    have htm0 : (k : Int).tmod 3 = 2 := by rw [htm, hq]; rfl
    clear H1 hr htm hq hq3 hkk HU HP HV HS
    go_enter Tryz.func20, Tryz.ntmps20
    go_upto_region 1 with (fail)
    rw [← hW1, ← hpa]
    clear hW1 hpa
    go_wp2_with fail
    refine HC.out.mono ?_
    rintro e W2 ⟨he, h2, h3⟩
    obtain rfl : e = .returned (.int .i64 (m : Int)) := he
    have H2 := Lib.hid (HF.out ((d', s'), m) W2 h2 h3)
    clear h2 h3 HC HF c0 c2 c3 c4 c5
    go_wp2
    go_ret
    exact ⟨congrArg (fun b => Ending.returned (.bool b)) (eqZ m), H2.out⟩
set_option maxRecDepth 100000 in
set_option maxHeartbeats 2000000 in
theorem fresh_any {P : DiskK} (K : StabK P) (w : World) (hT : Tab w) : Calls Tryz.prog 19 #[] w fun e W' => ∃ R B, e = .returned (.tuple #[.pointer (some ⟨R, 0, none⟩), .pointer (some ⟨B, 0, none⟩)]) ∧ LiveT K w R B (dW [] 0) SM.new (fun _ => False) W' := by
  have HT := Lib.hid hT
  have HN := Lib.hid (LiveD.new P w)
  clear hT
  go_enter Tryz.func19, Tryz.ntmps19
  go_wp2_with fail
  refine HN.out.mono ?_
  rintro e W1 ⟨R, rfl, l1⟩
  have o0 := opn_again [] (fun x hx => by cases hx)
  have HO := Lib.hid (LiveT.of_open K l1 HT.out rfl (show (opn DS.new.A DS.new.y).2.2 = 0 from congrArg (fun x => x.2.2) o0) (show ofS (opn DS.new.A DS.new.y).1 SM.new = some SM.new from (congrArg (fun x : List (List UInt8) × Nat × Nat => ofS x.1 SM.new) o0).trans rfl) SM.ok_new (by decide))
  clear l1 o0 HN
  go_wp2_with fail
  refine HO.out.mono ?_
  rintro e W2 ⟨B, rfl, l2⟩
  rw [opened_new] at l2
  have L2 := Lib.hid l2
  clear l2 HO
  go_wp2
  exact bodyPost_ret (v := .tuple #[.pointer (some ⟨R, 0, none⟩), .pointer (some ⟨B, 0, none⟩)]) (by simp [results, Tryz.results19, go_sem]) rfl ⟨R, B, rfl, L2.out⟩
/-- Out of a later world, seen from an earlier one. -/
theorem LiveT.rebase {P : DiskK} {K : StabK P} {w0 w W : World} {R B : Nat} {d : DS} {s : SM} {Q : Nat → Prop} (h : LiveT K w R B d s Q W) (hb : Below w0.heap.size w0 w) : LiveT K w0 R B d s Q W := by
  obtain ⟨F, G, h1, h2, h3, h4⟩ := h.ex
  exact ⟨⟨F, G, h1, h2, h3, fun k hk => ⟨Nat.le_trans hb.size (h4 k hk).1, (h4 k hk).2⟩⟩, hb.trans (Below.mono h.below hb.size), h.q, h.ok⟩
end Go.Proofs.YtdiihaeelcbjbaaGreatDoor

-- StGr
namespace Go.Proofs.YtdiihaeelcbjbaaGreatDoor
open Go.RowKit

/-- Acts that lie in a row. -/
def HasAcM (w : World) (A : Option Addr) (l : List AcM) : Prop := l ≠ [] → ∃ b o, A = some ⟨b, o, none⟩ ∧ b < w.heap.size ∧ ∀ j (h : j < l.length), ∃ X c, w.cell? ⟨b, o + j * 6, none⟩ = some (.int .u8 (l[j].k : Int)) ∧ w.cell? ⟨b, o + j * 6 + 1, none⟩ = some (.int .i64 l[j].n) ∧ w.cell? ⟨b, o + j * 6 + 2, none⟩ = some (.int .u64 (l[j].s : Int)) ∧
  w.cell? ⟨b, o + j * 6 + 3, none⟩ = some (.int .u64 (l[j].b.n : Int)) ∧ w.cell? ⟨b, o + j * 6 + 4, none⟩ = some (.int .i64 l[j].b.r) ∧ w.cell? ⟨b, o + j * 6 + 5, none⟩ = some (.slice X l[j].x.length c) ∧ l[j].x.length ≤ c ∧ HasA w w.heap.size X l[j].x
theorem HasAcM.below {w W : World} {A : Option Addr} {l : List AcM} (h : HasAcM w A l) (hb : Below w.heap.size w W) : HasAcM W A l := fun hl => by
  obtain ⟨b, o, e, h1, h2⟩ := h hl
  refine ⟨b, o, e, Nat.lt_of_lt_of_le h1 hb.size, fun j hj => ?_⟩
  obtain ⟨X, c, c0, c1, c2, c3, c4, c5, c6, c7⟩ := h2 j hj
  have up : ∀ (q : Nat) (v : Value), w.cell? ⟨b, q, none⟩ = some v → W.cell? ⟨b, q, none⟩ = some v := fun q v hv => (hb.cell (p := ⟨b, q, none⟩) h1).trans hv
  exact ⟨X, c, up _ _ c0, up _ _ c1, up _ _ c2, up _ _ c3, up _ _ c4, up _ _ c5, c6, c7.below' hb⟩
/-- Loading an act. -/
theorem ldAcM (w : World) (b o : Nat) (a : AcM) (X : Option Addr) (c : Nat) (c0 : w.cell? ⟨b, o, none⟩ = some (.int .u8 (a.k : Int))) (c1 : w.cell? ⟨b, o + 1, none⟩ = some (.int .i64 a.n)) (c2 : w.cell? ⟨b, o + 2, none⟩ = some (.int .u64 (a.s : Int))) (c3 : w.cell? ⟨b, o + 3, none⟩ = some (.int .u64 (a.b.n : Int))) (c4 : w.cell? ⟨b, o + 4, none⟩ = some (.int .i64 a.b.r)) (c5 : w.cell? ⟨b, o + 5, none⟩ = some (.slice X a.x.length c)) :
    (Instr.loadAt 41 (.pointer (some ⟨b, o, none⟩))).run Tryz.prog w = .ok (a.val X c) w := by
  simp [go_sem, c0, c1, c2, c3, c4, c5, AcM.val]
def greatM (l : List AcM) : Bool := decide (100 < l.length) || l.any fun a => decide (200 < a.x.length)
theorem greatM_not {l : List AcM} (h : greatM l = false) : l.length ≤ 100 ∧ ∀ a ∈ l, a.x.length ≤ 200 := by
  unfold greatM at h
  rw [Bool.or_eq_false_iff, decide_eq_false_iff_not, List.any_eq_false] at h
  exact ⟨by omega, fun a ha => by have := h.2 a ha; simp only [decide_eq_true_eq] at this; omega⟩
set_option maxRecDepth 100000 in
set_option maxHeartbeats 2000000 in
theorem great_any (A : Option Addr) (L c : Nat) (l : List AcM) (w : World) (hL : L = l.length) (hm : L ≤ 140737488351232) (hA : HasAcM w A l) : Calls Tryz.prog 7 #[.slice A L c] w fun e W' => e = .returned (.bool (greatM l)) ∧ Below w.heap.size w W' := by
  have HL := Lib.hid (And.intro hL hA)
  have hmi : (L : Int) ≤ 140737488351232 := by omega
  go_enter Tryz.func7, Tryz.ntmps7
  by_cases hbig : 100 < L
  · have hbi : (100 : Int) < L := by omega
    have hg : greatM l = true := by unfold greatM; rw [← hL, decide_eq_true hbig]; rfl
    rw [hg]
    clear hL hm hA hbig hg
    go_wp2
    go_ret
    exact ⟨rfl, Below.refl _ _⟩
  · have hbi : ¬ (100 : Int) < L := by omega
    have HS := Lib.hid hbig
    clear hL hm hA hbig
    go_wp2
    go_loopw [3] (fun v wr => ∃ i : Nat, i ≤ L ∧ v = .int .i64 (i : Int) ∧ Hid (Below w.heap.size w wr ∧ ∀ j (h : j < l.length), j < i → ¬ 200 < l[j].x.length)) (fun v _ => L - (intOf v).toNat)
    case atStart => exact ⟨0, Nat.zero_le _, rfl, Lib.hid ⟨Below.refl _ _, fun j _ h => absurd h (Nat.not_lt_zero _)⟩⟩
    case round =>
      obtain ⟨i, hi, rfl, HI⟩ := hrel
      by_cases hlt : i < L
      · have hii : (i : Int) < L := by omega
        have hi1 : i < l.length := by have := HL.out.1; omega
        obtain ⟨b, o, e, h1, h2⟩ := HL.out.2 (by rintro rfl; simp at hi1)
        subst e
        obtain ⟨X, c', -, -, -, -, -, c5, -, -⟩ := h2 i hi1
        have d5 := (HI.out.1.cell (p := ⟨b, o + i * 6 + 5, none⟩) h1).trans c5
        obtain ⟨M, hM⟩ : ∃ M, M = l[i].x.length := ⟨_, rfl⟩
        rw [← hM] at d5
        have HM := Lib.hid hM
        clear h1 h2 c5 hM
        by_cases hb : 200 < M
        · have hbI : (200 : Int) < M := by omega
          have HB := Lib.hid hb
          clear hb hlt hi
          go_wp2
          go_ret
          refine ⟨?_, HI.out.1⟩
          have hg : greatM l = true := by
            unfold greatM
            rw [Bool.or_eq_true]
            right
            rw [List.any_eq_true]
            exact ⟨_, List.getElem_mem hi1, by have := HB.out; have := HM.out; simp only [decide_eq_true_eq]; omega⟩
          rw [hg]
          rfl
        · have hbI : ¬ (200 : Int) < M := by omega
          have HJ := Lib.hid (show Below w.heap.size w wr ∧ ∀ j (h : j < l.length), j < i + 1 → ¬ 200 < l[j].x.length from ⟨HI.out.1, fun j h hj => by
            by_cases e : j = i
            · subst e
              have := HM.out
              omega
            · exact HI.out.2 j h (by omega)⟩)
          clear hb hlt hi
          go_wp2
          exact ⟨⟨i + 1, by omega, rfl, HJ⟩, by simp only [intOf]; omega⟩
      · obtain rfl : i = L := by omega
        have hii : ¬ (i : Int) < (i : Int) := by omega
        have hg : greatM l = false := by
          unfold greatM
          rw [Bool.or_eq_false_iff, decide_eq_false_iff_not, List.any_eq_false]
          refine ⟨by rw [← HL.out.1]; exact HS.out, fun a ha => ?_⟩
          obtain ⟨j, hj, rfl⟩ := List.getElem_of_mem ha
          simp only [decide_eq_true_eq]
          exact HI.out.2 j hj (by rw [HL.out.1]; exact hj)
        have HG := Lib.hid hg
        clear hlt hi hg
        go_wp2
        go_ret
        refine ⟨?_, HI.out.1⟩
        rw [HG.out]
        rfl
end Go.Proofs.YtdiihaeelcbjbaaGreatDoor

-- RowG
namespace Go.Proofs.YtdiihaeelcbjbaaGreatDoor
open Go.ChangeShapes Go.WideShapes Go.ChangeAt Go.RowKit Go.ChangeMaps

section
variable {H : Type} {enc : TypeId × Value → H}
set_option maxRecDepth 20000 in
theorem open_rowG {α : Type} [Inhabited α] {t e : TypeId} (ht : Tryz.prog.underlying t = some (.slice e)) (sz by_ : Nat) (hsz : Tryz.prog.cellsOf e = sz) (hz : 0 < sz) (hby : Tryz.prog.bytesOf e = by_) (cs : α → List Value) (hcs1 : ∀ x, (cs x).length = sz) (ok : α → Prop)
    {W : World} (one : ∀ {n : Nat} {l : List Value} {y : DataW H × List MemPlace}, DataW.trod enc Tryz.prog W 0 (fun _ => true) true n e l = some y → ∃ x, ok x ∧ l = cs x)
    {base : Nat} {v : Value} {d : DataW H} {p : List MemPlace} (hval : Value.okWide Tryz.prog W .any base t v) (h : DataW.Trod enc Tryz.prog W 0 (fun _ => true) true t v d p) (hw : ∀ k ∈ d.weights Tryz.prog t, k ≤ reachBytes) :
    ∃ A n c ls, v = .slice A n c ∧ n = List.length ls ∧ n * by_ ≤ 140737488351232 ∧ n ≤ maxLen ∧ (∀ x ∈ ls, ok x) ∧ (ls ≠ [] → ∃ b o, A = some ⟨b, o, none⟩ ∧ b < W.heap.size ∧ ∀ j (h : j < ls.length) k u, (cs ls[j])[k]? = some u → W.cell? ⟨b, o + j * sz + k, none⟩ = some u) := by
  obtain ⟨a0, len, cap, rfl⟩ := okWide_slice ht hval
  obtain ⟨fuel, hf⟩ := h
  rcases Deep.open_slice ht hf with ⟨hcs, hx⟩ | ⟨a, len', cap', m, n, D, Pl, hcs, _, hl, hm, hmm, hdx, hall⟩
  · simp [Value.cells] at hcs
    obtain ⟨rfl, rfl, rfl⟩ := hcs
    exact ⟨none, 0, 0, [], rfl, rfl, by omega, Nat.zero_le _, fun x hx => (by cases hx), fun h => absurd rfl h⟩
  · simp [Value.cells] at hcs
    obtain ⟨rfl, rfl, rfl⟩ := hcs
    simp only [if_true] at hmm
    have hd : d = .slice ((List.range len).map D) ((List.range (m - len)).map fun j => D (len + j)) := congrArg Prod.fst hdx
    have hlen2 : len * by_ ≤ 140737488351232 := by
      rw [hd] at hw
      have := hw _ (by simp only [DataW.weights, ht]; exact List.mem_cons_self ..)
      rw [hby] at this
      simp only [List.length_map, List.length_range, reachBytes] at this
      have h2 : len * by_ ≤ (len + (m - len)) * by_ := Nat.mul_le_mul_right _ (by omega)
      omega
    have each : ∀ i, i < len → ∃ x : α, ok x ∧ ∀ j u, (cs x)[j]? = some u → W.cell? ((a.add (i * sz)).add j) = some u := by
      intro i hi
      obtain ⟨cs', h1, h2⟩ := hall i (by omega)
      rw [hsz] at h1
      obtain ⟨_, hlen, hcell⟩ := World.cells?_some h1
      obtain ⟨x, hx, hxc⟩ := one h2
      refine ⟨x, hx, fun j u hj => ?_⟩
      have hj2 : j < sz := by rw [← hcs1 x]; exact (List.getElem?_eq_some_iff.1 hj).1
      rw [hcell j hj2, hxc]
      exact hj
    obtain ⟨F, hF⟩ := Deep.choose_lt each
    refine ⟨_, len, cap, (List.range len).map F, rfl, by simp, hlen2, by omega, fun x hx => ?_, fun hne => ?_⟩
    · obtain ⟨i, hi, rfl⟩ := List.mem_map.1 hx
      exact (hF i (List.mem_range.1 hi)).1
    have hpos : 0 < len := by
      rcases Nat.eq_zero_or_pos len with h0 | h0
      · subst h0; simp at hne
      · exact h0
    have c00 := (hF 0 hpos).2 0 _ (List.getElem?_eq_getElem (by rw [hcs1]; exact hz))
    obtain ⟨ab, ao, spot⟩ := a
    have hspot : spot = none := by simpa [Addr.add] using World.cell?_spot c00
    subst hspot
    refine ⟨ab, ao, rfl, ?_, fun j hj k u hk => ?_⟩
    · have := World.block_lt_of_cell? W _ c00
      rw [addr_add, addr_add] at this
      exact this
    · have hj' : j < len := by simpa using hj
      have e : ((List.range len).map F)[j] = F j := by simp
      rw [e] at hk
      have c0 := (hF j hj').2 k u hk
      rw [addr_add, addr_add] at c0
      exact c0
theorem one_u64 {W : World} {n : Nat} {l : List Value} {y : DataW H × List MemPlace} (h : DataW.trod enc Tryz.prog W 0 (fun _ => true) true n 23 l = some y) : ∃ x : Nat, x < 18446744073709551616 ∧ l = [.int .u64 (x : Int)] := by
  obtain ⟨n0, e0, _, w0⟩ := DataW.trod_int Tryz.underlying23 h
  obtain ⟨k, rfl, hk⟩ := wf_u64 w0
  exact ⟨k, hk, e0⟩
end
end Go.Proofs.YtdiihaeelcbjbaaGreatDoor

-- StOp
namespace Go.Proofs.YtdiihaeelcbjbaaGreatDoor
open Go.ChangeShapes Go.WideShapes Go.ChangeAt Go.RowKit Go.ChangeMaps

section
variable {H : Type} {enc : TypeId × Value → H}
set_option maxRecDepth 20000 in
/-- Bytes within. -/
theorem open_b1 {W : World} {n : Nat} {cs : List Value} {y : DataW H × List MemPlace} (hf : DataW.trod enc Tryz.prog W 0 (fun _ => true) true n 39 cs = some y) :
    ∃ A L c B, cs = [.slice A L c] ∧ L = List.length B ∧ L ≤ c ∧ HasA W W.heap.size A B := by
  rcases open_ints Tryz.underlying39 Tryz.underlying5 cells5 hf with ⟨hcs, hx⟩ | ⟨a, len, cap, zs, hcs, _, hl, hm, hz, hx, hcell, hwz⟩
  · exact ⟨none, 0, 0, [], hcs, rfl, Nat.le_refl _, HasA.nil _ _ _⟩
  · simp only [if_true] at hz
    have hlen : ((zs.take len).map fun n => UInt8.ofNat n.toNat).length = len := by simp; omega
    refine ⟨_, len, cap, (zs.take len).map fun n => UInt8.ofNat n.toNat, hcs, hlen.symm, by omega, fun hne => ?_⟩
    have hpos : 0 < len := by
      rcases Nat.eq_zero_or_pos len with h0 | h0
      · exact absurd (List.eq_nil_of_length_eq_zero (by rw [hlen]; exact h0)) hne
      · exact h0
    obtain ⟨ab, ao, spot⟩ := a
    have hspot : spot = none := by simpa [Addr.add] using World.cell?_spot (hcell 0 (by omega))
    subst hspot
    refine ⟨ab, ao, rfl, ?_, fun i hi => ?_⟩
    · have := World.block_lt_of_cell? W _ (hcell 0 (by omega))
      rw [addr_add] at this
      exact this
    · rw [hlen] at hi
      have hzi : i < zs.length := by omega
      have hc := hcell i hzi
      rw [addr_add] at hc
      rw [hc]
      have hw := hwz zs[i] (List.getElem_mem hzi)
      simp [Lit.wf, IntKind.min, IntKind.max, IntKind.signed, IntKind.bits] at hw
      have hg : zs.getD i 0 = zs[i] := by simp [List.getD, hzi]
      rw [hg]
      simp only [List.getElem_map, List.getElem_take]
      rw [enc_ofNat (by omega)]
      congr 2
      omega
/-- An act within, with the place of its bytes. -/
structure AcR where
  a : AcM
  X : Option Addr
  c : Nat
def AcR.cells (r : AcR) : List Value := [.int .u8 (r.a.k : Int), .int .i64 r.a.n, .int .u64 (r.a.s : Int), .int .u64 (r.a.b.n : Int), .int .i64 r.a.b.r, .slice r.X r.a.x.length r.c]
def AcR.ok (W : World) (r : AcR) : Prop := r.a.ok ∧ r.a.x.length ≤ r.c ∧ HasA W W.heap.size r.X r.a.x
theorem cells16a : Tryz.prog.cellsOf 41 = 6 := by kernel_rfl
theorem cells16i : Tryz.prog.cellsOf 3 = 1 := by kernel_rfl
theorem cells16u : Tryz.prog.cellsOf 23 = 1 := by kernel_rfl
theorem cells16b : Tryz.prog.cellsOf 25 = 2 := by kernel_rfl
theorem cells16s : Tryz.prog.cellsOf 39 = 1 := by kernel_rfl
theorem bytes16a : Tryz.prog.bytesOf 41 = 64 := by kernel_rfl
theorem wf_u8a {n : Int} (h : (Lit.int .u8 n).wf = true) : ∃ k : Nat, n = (k : Int) ∧ k < 256 := by
  simp [Lit.wf, IntKind.min, IntKind.max, IntKind.signed, IntKind.bits] at h
  exact ⟨n.toNat, by omega, by omega⟩
theorem wf_u16a {n : Int} (h : (Lit.int .u16 n).wf = true) : ∃ k : Nat, n = (k : Int) ∧ k < 65536 := by
  simp [Lit.wf, IntKind.min, IntKind.max, IntKind.signed, IntKind.bits] at h
  exact ⟨n.toNat, by omega, by omega⟩
set_option maxRecDepth 20000 in
theorem one_act {W : World} {n : Nat} {l : List Value} {y : DataW H × List MemPlace} (h : DataW.trod enc Tryz.prog W 0 (fun _ => true) true n 41 l = some y) : ∃ r : AcR, r.ok W ∧ l = r.cells := by
  obtain ⟨xs, m, _, hy, hcl, hxl, hf⟩ := DataW.trod_struct Tryz.underlying41 h
  rw [cells16a] at hcl
  match xs, hxl, l, hcl with
  | [y0, y1, y2, y3, y4], _, [v0, v1, v2, v3, v4, v5], _ =>
    have g0 := hf 0 _ rfl
    have g1 := hf 1 _ rfl
    have g2 := hf 2 _ rfl
    have g3 := hf 3 _ rfl
    have g4 := hf 4 _ rfl
    simp [cells16i, cells16u, cells16b, cells16s, cells5] at g0 g1 g2 g3 g4
    obtain ⟨n0, e0, _, w0⟩ := DataW.trod_int Tryz.underlying5 g0
    obtain ⟨n1, e1, _, w1⟩ := DataW.trod_int Tryz.underlying3 g1
    obtain ⟨n2, e2, _, w2⟩ := DataW.trod_int Tryz.underlying23 g2
    obtain ⟨b, hb, e3⟩ := open_ba1 g3
    obtain ⟨X, L, c, B, e4, hL, hc, hB⟩ := open_b1 g4
    obtain ⟨k0, rfl, h0⟩ := wf_u8a w0
    obtain ⟨k2, rfl, h2⟩ := wf_u64 w2
    simp [BA.cells] at e0 e1 e2 e3 e4
    obtain ⟨e3, e3'⟩ := e3
    subst e0 e1 e2 e3 e3' e4 hL
    exact ⟨⟨⟨k0, n1, k2, b, B⟩, X, c⟩, ⟨⟨h0, h2, hb⟩, hc, hB⟩, rfl⟩
set_option maxRecDepth 100000 in
/-- A row of acts that came in. -/
theorem open_acs {W : World} {base : Nat} {v : Value} {d : DataW H} {p : List MemPlace} (hval : Value.okWide Tryz.prog W .any base 22 v) (h : DataW.Trod enc Tryz.prog W 0 (fun _ => true) true 22 v d p) (hw : ∀ k ∈ d.weights Tryz.prog 22, k ≤ reachBytes) :
    ∃ A n c ls, v = .slice A n c ∧ n = List.length ls ∧ n ≤ 140737488351232 ∧ (∀ a ∈ ls, a.ok) ∧ HasAcM W A ls := by
  have : Inhabited AcR := ⟨⟨⟨0, 0, 0, B0, []⟩, none, 0⟩⟩
  obtain ⟨A, n, c, ls, e, hn, hb, _, hok, hr⟩ := open_rowG Tryz.underlying22 6 64 cells16a (by decide) bytes16a AcR.cells (fun _ => rfl) (AcR.ok W) one_act hval h hw
  refine ⟨A, n, c, ls.map AcR.a, e, by rw [List.length_map]; exact hn, ?_, fun a ha => ?_, fun hne => ?_⟩
  · omega
  · obtain ⟨r, hr, rfl⟩ := List.mem_map.1 ha
    exact (hok r hr).1
  · obtain ⟨b, o, eA, hlt, hc⟩ := hr (by intro e; rw [e] at hne; exact hne rfl)
    refine ⟨b, o, eA, hlt, fun j hj => ?_⟩
    have hj' : j < ls.length := by simpa using hj
    obtain ⟨_, h2, h3⟩ := hok ls[j] (List.getElem_mem hj')
    have ej : (ls.map AcR.a)[j] = ls[j].a := by simp
    rw [ej]
    have cc := hc j hj'
    exact ⟨ls[j].X, ls[j].c, cc 0 _ rfl, cc 1 _ rfl, cc 2 _ rfl, cc 3 _ rfl, cc 4 _ rfl, cc 5 _ rfl, h2, h3⟩
end
end Go.Proofs.YtdiihaeelcbjbaaGreatDoor
