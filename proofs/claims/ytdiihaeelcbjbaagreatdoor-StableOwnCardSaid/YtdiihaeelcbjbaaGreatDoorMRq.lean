/- A log of the program: a block that holds its disk's address; ready, Append and Sync. What a log's opening tells: rows of new memory, apart from the disk. An opening of the program: records that were read and where they end; what reading adds to it. The steps of an opening: their statements whose order is open. The steps of an opening: what each comes to. The steps of an opening: one after another, up to the first error. Opening: the statement that runs the steps. Open: by what its steps come to; the program's log keeps what the walks ask. -/
import Derived.Test.YtdiihaeelcbjbaaGreatDoorRcSp
import Derived.Test.YtdiihaeelcbjbaaGreatDoorMFr
import Derived.Deep.DeepCutAuto
import Derived.Test.YtdiihaeelcbjbaaGreatDoorMBase
-- RqA
namespace Go.Proofs.YtdiihaeelcbjbaaGreatDoor
open Go.RowKit

/-- How a log lies. -/
def LgQ (G : Nat → Prop) (w : World) (B R : Nat) : Prop := w.heap[B]? = some (.cells #[.pointer (some ⟨R, 0, none⟩)] 120 (0, 0)) ∧ G = fun k => k = B
theorem LgQ.keep {G F : Nat → Prop} {w w' : World} {B R : Nat} (h : LgQ G w B R) (ho : Only F w w') (hF : ∀ k, G k → ¬ F k) : LgQ G w' B R := ⟨ho.blk h.1 (hF B (by rw [h.2])), h.2⟩
theorem LgQ.lt {G : Nat → Prop} {w : World} {B R : Nat} (h : LgQ G w B R) : ∀ k, G k → k < w.heap.size := fun k hk => by
  rw [h.2] at hk
  rw [hk]
  exact (Array.getElem?_eq_some_iff.1 h.1).1

/-- What a call on a log comes to. -/
def LgPost (P : DiskK) (F G : Nat → Prop) (w : World) (B R : Nat) (r : DS × Nat) (e : Ending) (W' : World) : Prop :=
  e = .returned (.int .i64 (r.2 : Int)) ∧ ∃ F' G', P.Pl F' W' R r.1 ∧ LgQ G' W' B R ∧ (∀ k, G' k → ¬ F' k) ∧ Only (fun k => F k ∨ G k) w W' ∧ ∀ k, F' k ∨ G' k → F k ∨ G k ∨ w.heap.size ≤ k
section
variable {P : DiskK} {F G : Nat → Prop} {w W W' : World} {B R : Nat} {s : DS}
theorem LgPost.same (hp : P.Pl F w R s) (hg : LgQ G w B R) (hd : ∀ k, G k → ¬ F k) (hb : Below w.heap.size w W') (r : Nat) {e : Ending} (he : e = .returned (.int .i64 (r : Int))) : LgPost P F G w B R (s, r) e W' := by
  have ho := Only.of_grew (F := fun _ => False) hb
  exact ⟨he, F, G, P.keep hp ho (fun _ _ => id), hg.keep ho (fun _ _ => id), hd, Only.of_grew hb, fun k hk => hk.elim .inl (fun h => .inr (.inl h))⟩
theorem LgPost.turns (hg : LgQ G w B R) (hd : ∀ k, G k → ¬ F k) (hb : Below w.heap.size w W) {r : DS × Nat} {e : Ending} (ht : Turns P.Pl F R W r e W') : LgPost P F G w B R r e W' := by
  obtain ⟨he, F', k1, k2, k3⟩ := ht
  have hgW : LgQ G W B R := hg.keep (Only.of_grew (F := fun _ => False) hb) (fun _ _ => id)
  refine ⟨he, F', G, k1, hgW.keep k2 hd, fun k hk hf => ?_, ?_, fun k hk => ?_⟩
  · rcases k3 k hf with h' | h'
    · exact hd k hk h'
    · exact absurd (hgW.lt k hk) (Nat.not_lt.2 h')
  · exact ((Only.of_grew hb).trans k2 (fun x hx => .inl (.inl hx)))
  · rcases hk with hk | hk
    · rcases k3 k hk with h' | h'
      · exact .inl h'
      · exact .inr (.inr (Nat.le_trans hb.size h'))
    · exact .inr (.inl hk)
end

set_option maxHeartbeats 2000000 in
theorem l_SyncNil (w : World) : Calls Tryz.prog 46 #[.pointer none] w fun e W' => e = .returned (.int .i64 2) ∧ Below w.heap.size w W' := by
  go_enter Tryz.func46, Tryz.ntmps46
  go_wp2
  go_ret
  exact ⟨rfl, Below.refl _ _⟩
set_option maxHeartbeats 2000000 in
/-- There is no log. -/
theorem l_readyNil (w : World) : Calls Tryz.prog 65 #[.pointer none] w fun e W' => e = .returned (.int .i64 2) ∧ Below w.heap.size w W' := by
  go_enter Tryz.func65, Tryz.ntmps65
  go_wp2
  go_ret
  exact ⟨rfl, Below.refl _ _⟩
set_option maxHeartbeats 2000000 in
/-- There is no disk. -/
theorem l_readyBare (w : World) (B : Nat) (h : w.heap[B]? = some (.cells #[.pointer none] 120 (0, 0))) : Calls Tryz.prog 65 #[.pointer (some ⟨B, 0, none⟩)] w fun e W' => e = .returned (.int .i64 2) ∧ Below w.heap.size w W' := by
  have b0 := blk_cell h 0
  simp at b0
  clear h
  go_enter Tryz.func65, Tryz.ntmps65
  go_wp2
  go_ret
  exact ⟨rfl, Below.refl _ _⟩
/-- Whether there is power, as an error's number. -/
def DS.rdy (s : DS) : Nat := if s.dead then 20 else 0
theorem DS.rdy_off {s : DS} (h : s.dead = true) : s.rdy = 20 := by simp [DS.rdy, h]
theorem DS.rdy_on {s : DS} (h : s.dead = false) : s.rdy = 0 := by simp [DS.rdy, h]
set_option maxHeartbeats 2000000 in
/-- Whether there is power. -/
theorem l_ready (P : DiskK) {F G : Nat → Prop} {w : World} {B R : Nat} {s : DS} (hp : P.Pl F w R s) (hg : LgQ G w B R) : Calls Tryz.prog 65 #[.pointer (some ⟨B, 0, none⟩)] w fun e W' => e = .returned (.int .i64 (s.rdy : Int)) ∧ Below w.heap.size w W' := by
  have b0 := blk_cell hg.1 0
  simp at b0
  have HP := Lib.hid hp
  clear hp hg
  go_enter Tryz.func65, Tryz.ntmps65
  go_wp2_with fail
  refine (P.isdead HP.out).mono ?_
  rintro e W1 ⟨he, hb1⟩
  have B1 := Lib.hid hb1
  clear hb1
  cases hdd : s.dead with
  | true =>
    rw [hdd] at he
    subst he
    have HR := Lib.hid (DS.rdy_off hdd)
    clear hdd
    go_wp2
    go_ret
    rw [HR.out]
    exact ⟨rfl, B1.out⟩
  | false =>
    rw [hdd] at he
    subst he
    have HR := Lib.hid (DS.rdy_on hdd)
    clear hdd
    go_wp2
    go_ret
    rw [HR.out]
    exact ⟨rfl, B1.out⟩
set_option maxHeartbeats 2000000 in
theorem l_AppendNil (w : World) (v : Value) : Calls Tryz.prog 79 #[.pointer none, v] w fun e W' => e = .returned (.int .i64 2) ∧ Below w.heap.size w W' := by
  go_enter Tryz.func79, Tryz.ntmps79
  go_wp2_with fail
  refine (l_readyNil w).mono ?_
  rintro e W1 ⟨rfl, hb1⟩
  have B1 := Lib.hid hb1
  clear hb1
  go_wp2
  go_ret
  exact ⟨rfl, B1.out⟩

set_option maxHeartbeats 2000000 in
/-- Sync is the disk's. -/
theorem l_LogSyncT (P : DiskK) {F G : Nat → Prop} {w : World} {B R : Nat} {s : DS} (hp : P.Pl F w R s) (hg : LgQ G w B R) :
    Calls Tryz.prog 46 #[.pointer (some ⟨B, 0, none⟩)] w (Turns P.Pl F R w s.sync) := by
  have b0 := blk_cell hg.1 0
  simp at b0
  have HP := Lib.hid hp
  clear hp hg
  go_enter Tryz.func46, Tryz.ntmps46
  go_wp2_with fail
  refine (P.sync HP.out).mono ?_
  rintro e W' ht
  have HR := Lib.hid ht
  obtain ⟨rfl, -⟩ := ht
  go_wp2
  go_ret
  exact HR.out
theorem l_LogSync (P : DiskK) {F G : Nat → Prop} {w : World} {B R : Nat} {s : DS} (hp : P.Pl F w R s) (hg : LgQ G w B R) (hd : ∀ k, G k → ¬ F k) :
    Calls Tryz.prog 46 #[.pointer (some ⟨B, 0, none⟩)] w (LgPost P F G w B R s.sync) :=
  (l_LogSyncT P hp hg).mono fun _ _ ht => LgPost.turns hg hd (Below.refl _ w) ht

set_option maxRecDepth 100000 in
set_option maxHeartbeats 4000000 in
theorem l_LogAppend (P : DiskK) {F G : Nat → Prop} {w : World} {B R : Nat} {s : DS} (A : Option Addr) (L c : Nat) (x : List UInt8) (hT : Tab w) (hp : P.Pl F w R s) (hg : LgQ G w B R) (hd : ∀ k, G k → ¬ F k) (hL : L = x.length) (hLc : L ≤ c) (hm : L ≤ 200000) (hl : s.A.length + x.length ≤ 100000000) (hA : HasA w w.heap.size A x) :
    Calls Tryz.prog 79 #[.pointer (some ⟨B, 0, none⟩), .slice A L c] w (LgPost P F G w B R (s.recd x)) := by
  have b0 := blk_cell hg.1 0
  simp at b0
  have HP := Lib.hid hp
  have HG := Lib.hid (And.intro hg hd)
  have HT := Lib.hid hT
  have HL := Lib.hid (And.intro hL (And.intro hLc (And.intro hm hl)))
  have HA := Lib.hid hA
  have hBlt := (Array.getElem?_eq_some_iff.1 hg.1).1
  clear hp hg hd hT hL hLc hm hl hA
  go_enter Tryz.func79, Tryz.ntmps79
  go_wp2_with fail
  refine (l_ready P HP.out HG.out.1).mono ?_
  rintro e W1 ⟨he, hb1⟩
  have c0 := (hb1.cell (p := ⟨B, 0, none⟩) hBlt).trans b0
  have B1 := Lib.hid hb1
  cases hdd : s.dead with
  | true =>
    rw [DS.rdy_off hdd] at he
    subst he
    have HR := Lib.hid (show s.recd x = (s, 20) by simp [DS.recd, hdd])
    clear hdd hb1
    go_wp2
    go_ret
    rw [HR.out]
    exact LgPost.same HP.out HG.out.1 HG.out.2 B1.out 20 rfl
  | false =>
    rw [DS.rdy_on hdd] at he
    subst he
    have HDD := Lib.hid hdd
    clear hdd hb1
    go_wp2_with fail
    refine (put_any none 0 0 [] A L c x W1 rfl (by omega) (by omega) HL.out.1 HL.out.2.2.1 HL.out.2.1 (HT.out.grew B1.out) (HasA.nil _ _ _) (HA.out.below' B1.out)).mono ?_
    rintro e W2 (⟨hf, g, L2, c2, rfl, ho2, hb2⟩ | ⟨hf, v, rfl, -, hb2⟩)
    · have d0 := (hb2.cell (p := ⟨B, 0, none⟩) (Nat.lt_of_lt_of_le hBlt B1.out.size)).trans c0
      have hB2 := B1.out.trans (Below.mono hb2 B1.out.size)
      rw [List.nil_append] at ho2
      have HO := Lib.hid ho2
      have HB2 := Lib.hid hB2
      have HF := Lib.hid hf
      have HR := Lib.hid (show s.recd x = s.app (frm x) by
        have hf' : 1 ≤ x.length ∧ x.length ≤ 65536 := hf
        simp [DS.recd, HDD.out, hf'])
      have hgn : ∀ b o, (some (⟨g, 0, none⟩ : Addr)) = some ⟨b, o, none⟩ → ¬ F b := fun b o e hfb => by
        cases e
        have h1 := (ho2.lt g rfl).1
        have h2 := P.lt HP.out g hfb
        have := B1.out.size
        omega
      have HN := Lib.hid hgn
      clear hf ho2 hB2 hb2 hgn
      go_wp2_with fail
      refine (P.app (some ⟨g, 0, none⟩) L2 c2 (frm x) (P.keep HP.out (Only.of_grew (F := fun _ => False) HB2.out) (fun _ _ => id)) (own_len HO.out) (own_cap HO.out) (by have h1 := HL.out.2.2.2; have h2 := HF.out.2; have h3 := frm_length x; have h4 := vb_len10 (n := x.length) (by omega); omega) (HasA.of_own HO.out) (fun b o _ e => HN.out b o e)).mono ?_
      rintro e W3 ht
      have HX := Lib.hid (LgPost.turns HG.out.1 HG.out.2 HB2.out ht)
      obtain ⟨rfl, -⟩ := ht
      go_wp2
      go_ret
      rw [HR.out]
      exact HX.out
    · have HB2 := Lib.hid (B1.out.trans (Below.mono hb2 B1.out.size))
      have HR := Lib.hid (show s.recd x = (s, 3) by
        have hf' : ¬ (1 ≤ x.length ∧ x.length ≤ 65536) := hf
        simp [DS.recd, HDD.out, hf'])
      clear hf hb2
      go_wp2
      go_ret
      rw [HR.out]
      exact LgPost.same HP.out HG.out.1 HG.out.2 HB2.out 3 rfl
end Go.Proofs.YtdiihaeelcbjbaaGreatDoor

-- RlB
namespace Go.Proofs.YtdiihaeelcbjbaaGreatDoor
open Go.RowKit

/-- Rows of the call's own, of bytes of its own: where they lie. -/
theorem BBn.of_own {base base' n : Nat} {w : World} {v : Value} {vs : List Value} {Xs : List (List UInt8)} {N : Nat → Prop} (ho : w.ownsRow base 39 1 v n vs) (ha : AllB (IsD base' w) vs Xs)
    (h1 : ∀ k, v.ownBlock = some k → N k) (h2 : ∀ b cur, base' ≤ b → w.heap[b]? = some (.cells cur 5 (0, 0)) → N b) : BBn N w v Xs := by
  have hl : vs.length = n := by have := ho.1; simpa using this
  rcases ho.2 with ⟨rfl, h0⟩ | ⟨g, cap, cur, rfl, hb, hg, hn, _⟩
  · refine ⟨none, 0, 0, rfl, by have := ha.1; omega, Nat.le_refl _, fun hx => absurd (List.eq_nil_of_length_eq_zero (by have := ha.1; omega)) hx⟩
  · refine ⟨_, n, cap, rfl, by have := ha.1; omega, hn, fun hx => ⟨g, 0, rfl, h1 g rfl, (ho.lt g rfl).2, fun i hi => ?_⟩⟩
    have hi' : i < vs.length := by rw [ha.1]; exact hi
    obtain ⟨A', L', c', e, hL', hc', hd, hbb⟩ := ha.2 i hi' hi
    refine ⟨A', L', c', ?_, hL', hc', fun hne => ?_⟩
    · have := ho.cells (g := g) rfl i vs[i] (by simp [hi'])
      rw [addr_add] at this
      rw [this, e]
    · obtain ⟨b, o, cur', hA', hbl, hcc⟩ := hd hne
      refine ⟨b, o, hA', h2 b cur' (hbb b o hA') hbl, (Array.getElem?_eq_some_iff.1 hbl).1, fun j hj => ?_⟩
      rw [blk_cell hbl]
      exact hcc j hj
theorem IsD.base {B B' : Nat} {w : World} {v : Value} {X : List UInt8} (h : IsD B w v X) (hb : B' ≤ B) : IsD B' w v X := by
  obtain ⟨A, L, c, e, hL, hc, hd, hbb⟩ := h
  exact ⟨A, L, c, e, hL, hc, hd, fun b o e => Nat.le_trans hb (hbb b o e)⟩
/-- Bytes lie as they lay where only blocks of other kinds, or of F, have changed. -/
theorem IsD.only {B : Nat} {F : Nat → Prop} {w w' : World} {v : Value} {X : List UInt8} (h : IsD B w v X) (ho : Only F w w') (hF : ∀ k, F k → k < B) : IsD B w' v X := by
  obtain ⟨A, L, c, e, hL, hc, hd, hbb⟩ := h
  refine ⟨A, L, c, e, hL, hc, fun hn => ?_, hbb⟩
  obtain ⟨b, o, cur, hA, hbl, hcc⟩ := hd hn
  exact ⟨b, o, cur, hA, ho.blk hbl (fun hf => by have := hbb b o hA; have := hF b hf; omega), hcc⟩
end Go.Proofs.YtdiihaeelcbjbaaGreatDoor

-- RqB
namespace Go.Proofs.YtdiihaeelcbjbaaGreatDoor
open Go.RowKit

section
variable {P : Program} {w : World}
/-- An append of a row of one's own to another one. -/
theorem run_append_cat (base base' : Nat) (t ty e : TypeId) (i : TypeInfo) (z : Value) (by' : Nat) (ht : P.underlying t = some (.slice e)) (hi : P.info? e = some i) (hz : i.zero = some z)
    (hsize : i.size = 1) (hby : i.bytes = by') (hzs : z.cells.size = 1) (v : Value) (n : Nat) (xs : List Value) (hown : w.ownsRow base e 1 v n xs)
    (v2 : Value) (m : Nat) (us : List Value) (h : w.ownsRow base' e 1 v2 m us) (h1 : ∀ u ∈ us, u.oneCell' = true) (h63 : n + m ≤ maxLen) (hbytes : (n + m) * by' ≤ 140737488355328) (hbase : base ≤ w.heap.size) :
    ∃ v' w', (Builtin.append_ #[t, t] ty #[v, v2]).run P w = .ok v' w' ∧ w'.ownsRow base e 1 v' (n + m) (xs ++ us) ∧ w.grownBy w' v.ownBlock ∧ (v'.ownBlock = v.ownBlock ∨ v'.ownBlock = some w.heap.size) := by
  have hlen : us.length = m := by have := h.1; simpa using this
  rcases h.2 with ⟨rfl, rfl⟩ | ⟨g, cap, cur, rfl, _, hg, hn, _⟩
  · obtain rfl := List.eq_nil_of_length_eq_zero hlen
    refine ⟨v, w, ?_, by simpa using hown, ⟨rfl, rfl, rfl, Nat.le_refl _, fun _ _ _ => rfl⟩, .inl rfl⟩
    rcases hown.2 with ⟨rfl, rfl⟩ | ⟨g, cap, cur, rfl, _, _, hnc, _⟩
    · simp [Builtin.append_, run_underlying ht, sizeOf, typeInfo, hi, Builtin.lenOf, Builtin.firstCells]
    · simp [Builtin.append_, run_underlying ht, sizeOf, typeInfo, hi, Builtin.lenOf, Builtin.firstCells, loadCells, hnc, storeCells]
  · obtain ⟨v', w', hr, h2, h3, _, h5⟩ := run_append_own_at (P := P) w base t ty e i z 1 by' ht hi hz hsize hby hzs (by omega) v n xs hown ⟨g, 0, none⟩ m cap us (by omega) (h.cells (g := g) rfl) h1 h63 hbytes hbase
    exact ⟨v', w', hr, h2, h3, h5⟩
theorem wpList_append_cat {ops : Array Oper} {rest : List Oper} {o : Oper} {a : Act} {Q : Exit → Act → World → Prop} (hgd : Region.wanted o (yielded ops a.tmps) = true) (s x : Operand) (t : TypeId)
    (ho : o.op = .call { callee := .builtin .append, args := #[s, x], argTypes := #[t, t] })
    (base base' : Nat) (e : TypeId) (i : TypeInfo) (z : Value) (by' : Nat) (ht : P.underlying t = some (.slice e)) (hi : P.info? e = some i) (hz : i.zero = some z)
    (hsize : i.size = 1) (hby : i.bytes = by') (hzs : z.cells.size = 1) (v : Value) (n : Nat) (xs : List Value) (hs : a.eval s = v) (hown : w.ownsRow base e 1 v n xs)
    (v2 : Value) (m : Nat) (us : List Value) (hx : a.eval x = v2) (h2 : w.ownsRow base' e 1 v2 m us) (h1 : ∀ u ∈ us, u.oneCell' = true) (h63 : n + m ≤ maxLen) (hbytes : (n + m) * by' ≤ 140737488355328) (hbase : base ≤ w.heap.size)
    (h : ∀ v' w', w'.ownsRow base e 1 v' (n + m) (xs ++ us) → w.grownBy w' v.ownBlock → (v'.ownBlock = v.ownBlock ∨ v'.ownBlock = some w.heap.size) → wpList P ops Q rest (a.put o.dst v') w') : wpList P ops Q (o :: rest) a w := by
  obtain ⟨v', w', hrun, k2, k3, k4⟩ := run_append_cat (P := P) base base' t o.type e i z by' ht hi hz hsize hby hzs v n xs hown v2 m us h2 h1 h63 hbytes hbase
  refine BigFrame.wpList_want hgd fun K hK => ?_
  unfold Oper.wp execOp
  simp only [ho, resolve, invoke, builtin, Sem.run_bind, Sem.run_pure, Result.andThen_ok, List.map_toArray, List.map_cons, List.map_nil, hs, hx, hrun]
  exact hK _ _ (h v' w' k2 k3 k4)
end
theorem IsD.one {B : Nat} {w : World} {v : Value} {X : List UInt8} (h : IsD B w v X) : v.oneCell' = true := by
  obtain ⟨A, L, c, rfl, _⟩ := h
  rfl
theorem AllB.one {B : Nat} {w : World} {vs : List Value} {Xs : List (List UInt8)} (h : AllB (IsD B w) vs Xs) : ∀ u ∈ vs, u.oneCell' = true := by
  intro u hu
  obtain ⟨i, hi, rfl⟩ := List.getElem_of_mem hu
  exact (h.2 i hi (by rw [← h.1]; exact hi)).one
theorem AllB.cat {Q : Value → List UInt8 → Prop} {vs us : List Value} {Xs Ys : List (List UInt8)} (h : AllB Q vs Xs) (k : AllB Q us Ys) : AllB Q (vs ++ us) (Xs ++ Ys) := by
  refine ⟨by rw [List.length_append, List.length_append, h.1, k.1], fun i h1 h2 => ?_⟩
  rw [List.getElem_append, List.getElem_append]
  split
  · rw [dif_pos (by rw [← h.1]; assumption)]
    exact h.2 i _ _
  · rw [dif_neg (by rw [← h.1]; assumption)]
    have : i - vs.length = i - Xs.length := by rw [h.1]
    simp only [← this]
    exact k.2 _ _ (by rw [List.length_append] at h2; rw [← h.1] at h2; omega)

/-- An opening at block O, of the log at block B: the records xs were read, n bytes. -/
def OS (base O B : Nat) (xs : List (List UInt8)) (n : Nat) (W : World) : Prop :=
  ∃ v vs, W.heap[O]? = some (.cells #[.pointer (some ⟨B, 0, none⟩), v, .int .i64 (n : Int)] 122 (0, 0)) ∧ W.ownsRow base 39 1 v xs.length vs ∧ AllB (IsD base W) vs xs
theorem OS.keep {base O B n : Nat} {xs : List (List UInt8)} {W W' : World} {T : List TypeId} (h : OS base O B xs n W) (hs : SameT T W W') (h1 : 122 ∉ T) (h2 : 39 ∉ T) (h3 : 5 ∉ T) : OS base O B xs n W' := by
  obtain ⟨v, vs, k1, k2, k3⟩ := h
  exact ⟨v, vs, hs _ _ _ h1 k1, hs.own k2 h2, k3.mono fun _ _ h => h.same hs h3⟩
theorem OS.grew {base O B n : Nat} {xs : List (List UInt8)} {W W' : World} (h : OS base O B xs n W) (hb : Below W.heap.size W W') : OS base O B xs n W' := h.keep (SameT.grew (T := []) hb) (by simp) (by simp) (by simp)
/-- Only blocks ahead of base have changed. -/
theorem OS.only {base O B n : Nat} {xs : List (List UInt8)} {W W' : World} {F : Nat → Prop} (h : OS base O B xs n W) (hO : base ≤ O) (ho : Only F W W') (hF : ∀ k, F k → k < base ∨ W.heap.size ≤ k) : OS base O B xs n W' := by
  have hn : ∀ k, base ≤ k → k < W.heap.size → ¬ F k := fun k h1 h2 hf => by rcases hF k hf with h' | h' <;> omega
  obtain ⟨v, vs, k1, k2, k3⟩ := h
  refine ⟨v, vs, ho.blk k1 (hn O hO (Array.getElem?_eq_some_iff.1 k1).1), ⟨k2.1, ?_⟩, k3.mono fun v X h => ?_⟩
  · rcases k2.2 with h2 | ⟨g, cap, cur, rfl, b, r, s⟩
    · exact .inl h2
    · exact .inr ⟨g, cap, cur, rfl, b, ho.blk r (hn g b (Array.getElem?_eq_some_iff.1 r).1), s⟩
  · obtain ⟨A, L, c, e, hL, hc, hd, hbb⟩ := h
    refine ⟨A, L, c, e, hL, hc, fun hx => ?_, hbb⟩
    obtain ⟨b, o, cur, hA, hbl, hcc⟩ := hd hx
    exact ⟨b, o, cur, hA, ho.blk hbl (hn b (hbb b o hA) (Array.getElem?_eq_some_iff.1 hbl).1), hcc⟩

def TR : List TypeId := [39, 122]
theorem SameT.sub {T U : List TypeId} {a b : World} (h : SameT T a b) (hs : ∀ t ∈ T, t ∈ U) : SameT U a b := fun k cs t ht hk => h k cs t (fun h' => ht (hs t h')) hk

set_option maxRecDepth 100000 in
set_option maxHeartbeats 4000000 in
theorem l_read {base O B n : Nat} {xs : List (List UInt8)} {w : World} (A : Option Addr) (L c : Nat) (bs : List UInt8) (hT : Tab w) (h : OS base O B xs n w) (hO : base ≤ O) (hL : L = bs.length) (hLc : L ≤ c) (hl : L ≤ 200000) (hx : xs.length ≤ 200000) (hn : n ≤ 200000) (hA : HasA w w.heap.size A bs) :
    Calls Tryz.prog 88 #[.pointer (some ⟨O, 0, none⟩), .slice A L c] w fun e W' => e = .returned (.int .i64 ((al bs).2.2 : Int)) ∧ OS base O B (xs ++ (al bs).1) (n + (al bs).2.1) W' ∧ Below base w W' ∧ SameT TR w W' := by
  have hal := al_le bs
  have haln := al_count bs
  have hbs : bs.length ≤ 200000 := by omega
  obtain ⟨v, vs, hb, ho, ha⟩ := h
  obtain ⟨A0, c0, rfl⟩ := own_form ho
  have hOl := (Array.getElem?_eq_some_iff.1 hb).1
  obtain ⟨i0, hi, hz0, hz1, hz2⟩ := infoB_parts
  obtain ⟨sz, hsz⟩ : ∃ sz, sz = (al bs).2.1 := ⟨_, rfl⟩
  have HB := Lib.hid hb
  have HOW := Lib.hid ho
  have HAL := Lib.hid ha
  have HT := Lib.hid hT
  have HL := Lib.hid hL
  have HA := Lib.hid hA
  have HSZ := Lib.hid hsz
  rw [← hsz] at hal
  clear hb ho ha hT hL hA hsz
  go_enter Tryz.func88, Tryz.ntmps88
  go_wp2_with fail
  refine (all_new A L c bs w HL.out hl hLc HT.out HA.out).mono ?_
  rintro e W1 ⟨v2, us, rfl, ho2, ha2, hb1⟩
  obtain ⟨A2, c2, rfl⟩ := own_form ho2
  rw [← HSZ.out]
  have hbl1 : W1.heap[O]? = _ := (hb1.block O hOl).trans HB.out
  have b0 := blk_cell hbl1 0
  have b1 := blk_cell hbl1 1
  have b2 := blk_cell hbl1 2
  simp at b0 b1 b2
  have hs1 : SameT [] w W1 := SameT.grew hb1
  have ho1 := hs1.own HOW.out (by simp)
  have ha1 : AllB (IsD base W1) vs xs := HAL.out.mono fun _ _ h => h.same hs1 (by simp)
  have hB1 : Below base w W1 := Below.mono hb1 (by omega)
  have hbase1 : base ≤ W1.heap.size := Nat.le_trans (by omega) hb1.size
  have HS1 := Lib.hid hs1
  have HO1 := Lib.hid ho1
  have HA1 := Lib.hid ha1
  have HO2 := Lib.hid ho2
  have HA2 := Lib.hid ha2
  have HBL := Lib.hid hbl1
  have HB1 := Lib.hid (And.intro hB1 hbase1)
  have hw1 := hb1.size
  clear hs1 ho1 ha1 ho2 ha2 hbl1 hB1 hbase1 hb1
  go_wp2_with (
    at_builtin
    refine wpList_append_cat rfl (.tmp 18) (.tmp 19) 75 rfl base w.heap.size 39 i0 (.slice none 0 0) 24 Tryz.underlying75 hi hz0 hz1 hz2 rfl (.slice A0 xs.length c0) xs.length vs rfl HO1.out (.slice A2 (al bs).1.length c2) (al bs).1.length us rfl HO2.out HA2.out.one (by simp only [maxLen]; omega) (by omega) HB1.out.2 ?_
    intro v3 W2 hown2 hg2 hat2
    obtain ⟨A3, c3, rfl⟩ := own_form hown2
    have hty := own_typed HO1.out
    have hs2 : SameT [39] W1 W2 := SameT.grown hg2 hty
    have hB2 : Below base w W2 := HB1.out.1.grown hg2 HB1.out.2 (fun k hk => (HO1.out.lt k hk).1)
    have hbl2 : W2.heap[O]? = _ := hs2 _ _ _ (by decide) HBL.out
    have g0 := blk_cell hbl2 0
    have g1 := blk_cell hbl2 1
    have g2 := blk_cell hbl2 2
    simp at g0 g1 g2
    have z1 := blk_frozen hbl2 1
    have z2 := blk_frozen hbl2 2
    have HS2 := Lib.hid hs2
    have HBL2 := Lib.hid hbl2
    have HB2 := Lib.hid hB2
    have HO3 := Lib.hid hown2
    clear hty hs2 hB2 hbl2 hown2 hg2 hat2)
  go_ret
  have k1 := blk_set HBL2.out 1 (.slice A3 (xs.length + (al bs).1.length) c3)
  have k2 := blk_set k1 2 (.int .i64 ((n : Int) + (sz : Int)))
  have t1 := SameT.set (i := 1) HBL2.out (.slice A3 (xs.length + (al bs).1.length) c3)
  have t2 := SameT.set (i := 2) k1 (.int .i64 ((n : Int) + (sz : Int)))
  have t := t1.trans t2
  have tt := (HS1.out.trans HS2.out).trans t
  refine ⟨rfl, ⟨.slice A3 (xs.length + (al bs).1.length) c3, vs ++ us, ?_, ?_, ?_⟩, (HB2.out.setCell (p := ⟨O, 1, none⟩) hO _).setCell (p := ⟨O, 2, none⟩) hO _, tt.sub (by simp [TR])⟩
  · rw [k2, ← HSZ.out]
    simp
  · rw [List.length_append]
    exact t.own HO3.out (by decide)
  · exact ((HAL.out.mono fun _ _ h => h.same tt (by decide)).cat (HA2.out.mono fun _ _ h => (h.same (HS2.out.trans t) (by decide)).base (by omega)))
end Go.Proofs.YtdiihaeelcbjbaaGreatDoor

-- RqR
namespace Go.Proofs.YtdiihaeelcbjbaaGreatDoor
open Go.RowKit

section
variable {n : Nat} {ops : Array Oper} {i : Nat} {o : Oper} {a : Act} {w : World} {K : Act → World → Prop} {Q : Exit → Act → World → Prop}
theorem step_callQ {f : FuncId} {xs : Array Operand} {ts : Array TypeId} {vs : Array Value} (hi : ops[i]? = some o) (hw : Region.wanted o (yielded ops a.tmps) = true)
    (ho : o.op = .call { callee := .value (.func f), args := xs, argTypes := ts }) (eg : ∀ args w, (callFunc f args).run Tryz.prog w = .ok (.enter f args) w) (hxs : xs.map a.eval = vs) (hc : Calls Tryz.prog f vs w fun e w' => ∃ v, e = .returned v ∧ K (a.put o.dst v) w') : wpOpIn Fence.wide n Tryz.prog ops Q i K a w := by
  refine step_call hi hw ho trivial (fun h => by cases h) eg ?_
  rw [hxs]
  exact callsIn_wide.2 hc
theorem step_nilCheckQ {x : Operand} {p : Addr} (hi : ops[i]? = some o) (hw : Region.wanted o (yielded ops a.tmps) = true) (ho : o.op = .nilCheck x) (hx : a.eval x = .pointer (some p)) (_ : True) (h : K (a.put o.dst (.pointer (some p))) w) : wpOpIn Fence.wide n Tryz.prog ops Q i K a w :=
  step_run hi hw (by rw [ho]; intro c h; cases h) (by simp [Oper.about, ho]) (by simp [execOp, ho, hx]) h
theorem step_fieldQ {t : TypeId} {x : Operand} {j : Nat} {vx v : Value} (hi : ops[i]? = some o) (hw : Region.wanted o (yielded ops a.tmps) = true) (ho : o.op = .fieldAddr t x j) (hx : a.eval x = vx) (hr : (Instr.fieldAt t vx j).run Tryz.prog w = .ok v w) (h : K (a.put o.dst v) w) : wpOpIn Fence.wide n Tryz.prog ops Q i K a w :=
  step_run hi hw (by rw [ho]; intro c h; cases h) (by simp [Oper.about, ho]) (by simp [execOp, ho, hx, hr]) h
end
theorem run_opn0 (w : World) (O : Nat) : (Instr.fieldAt 122 (.pointer (some ⟨O, 0, none⟩)) 0).run Tryz.prog w = .ok (.pointer (some ⟨O, 0, none⟩)) w := by simp [go_sem]
theorem run_opn1 (w : World) (O : Nat) : (Instr.fieldAt 122 (.pointer (some ⟨O, 0, none⟩)) 1).run Tryz.prog w = .ok (.pointer (some ⟨O, 1, none⟩)) w := by simp [go_sem]
theorem run_opn2 (w : World) (O : Nat) : (Instr.fieldAt 122 (.pointer (some ⟨O, 0, none⟩)) 2).run Tryz.prog w = .ok (.pointer (some ⟨O, 2, none⟩)) w := by simp [go_sem]
theorem run_log (w : World) (B : Nat) : (Instr.fieldAt 120 (.pointer (some ⟨B, 0, none⟩)) 0).run Tryz.prog w = .ok (.pointer (some ⟨B, 0, none⟩)) w := by simp [go_sem]
theorem run_ldLog (w : World) (p : Addr) (b : Nat) (h : w.cell? p = some (.pointer (some ⟨b, 0, none⟩))) : (Instr.loadAt 84 (.pointer (some p))).run Tryz.prog w = .ok (.pointer (some ⟨b, 0, none⟩)) w := by simp [go_sem, h]
theorem run_ldDisk (w : World) (p : Addr) (b : Nat) (h : w.cell? p = some (.pointer (some ⟨b, 0, none⟩))) : (Instr.loadAt 29 (.pointer (some p))).run Tryz.prog w = .ok (.pointer (some ⟨b, 0, none⟩)) w := by simp [go_sem, h]
theorem run_ldN (w : World) (p : Addr) (m : Int) (h : w.cell? p = some (.int .i64 m)) : (Instr.loadAt 3 (.pointer (some p))).run Tryz.prog w = .ok (.int .i64 m) w := by simp [go_sem, h]
theorem Data.upto {w : World} {A : Option Addr} {bs : List UInt8} (h : Data w A bs) (k : Nat) : Data w A (bs.take k) := fun hn => by
  obtain ⟨b, o, cur, e, h1, h2⟩ := h (fun e => hn (by rw [e]; simp))
  refine ⟨b, o, cur, e, h1, fun j hj => ?_⟩
  have hj' : j < bs.length := by rw [List.length_take] at hj; omega
  rw [List.getElem_take]
  exact h2 j hj'
theorem Only.of_below {B : Nat} {w w' : World} (h : Below B w w') : Only (fun k => B ≤ k) w w' := ⟨h.os, h.tape, h.output, h.size, fun k _ hk => h.block k (Nat.lt_of_not_le hk)⟩
theorem run_neqE (w : World) (t : TypeId) (x : Nat) : (binOp .neq t (.int .i64 (x : Int)) (.int .i64 0)).run Tryz.prog w = .ok (.bool ((x : Int) != 0)) w := by
  simp [go_sem]
theorem Data.after {w : World} {A A' : Option Addr} {bs : List UInt8} {m : Nat} (h : Data w A bs) (hA : ∀ b o, A = some ⟨b, o, none⟩ → m < bs.length → A' = some ⟨b, o + m, none⟩) : Data w A' (bs.drop m) := fun hn => by
  have hm : m < bs.length := Nat.lt_of_not_le (fun hle => hn (List.drop_eq_nil_of_le hle))
  obtain ⟨b, o, cur, e, h1, h2⟩ := h (fun e => by rw [e] at hm; simp at hm)
  subst e
  rw [hA b o rfl hm]
  exact Data.cut m (fun _ => ⟨b, o, cur, rfl, h1, h2⟩) hn
def oRC0 (p : String) : Oper := { dst := some 3, op := Op.move (Operand.tmp 0), type := 118, pos := p, after := #[], guard := none }
def oRC1 (p : String) : Oper := { dst := some 4, op := Op.nilCheck (Operand.tmp 3), type := 0, pos := p, after := #[{ on := 0, ground := Ground.data }], guard := none }
def oRC2 (p : String) : Oper := { dst := some 5, op := Op.fieldAddr 122 (Operand.tmp 4) 0, type := 0, pos := p, after := #[{ on := 1, ground := Ground.data }], guard := none }
def oRC3 (p : String) : Oper := { dst := some 6, op := Op.load 84 (Operand.tmp 5), type := 84, pos := p, after := #[{ on := 2, ground := Ground.data }], guard := none }
def oRC4 (p : String) : Oper := { dst := some 7, op := Op.nilCheck (Operand.tmp 6), type := 0, pos := p, after := #[{ on := 3, ground := Ground.data }], guard := none }
def oRC5 (p : String) : Oper := { dst := some 8, op := Op.fieldAddr 120 (Operand.tmp 7) 0, type := 0, pos := p, after := #[{ on := 4, ground := Ground.data }], guard := none }
def oRC6 (p : String) : Oper := { dst := some 9, op := Op.load 29 (Operand.tmp 8), type := 29, pos := p, after := #[{ on := 5, ground := Ground.data }], guard := none }
def oRC7 (p : String) : Oper := { dst := some 10, op := Op.move (Operand.tmp 0), type := 118, pos := p, after := #[], guard := none }
def oRC8 (p : String) : Oper := { dst := some 11, op := Op.nilCheck (Operand.tmp 10), type := 0, pos := p, after := #[{ on := 7, ground := Ground.data }], guard := none }
def oRC9 (p : String) : Oper := { dst := some 12, op := Op.fieldAddr 122 (Operand.tmp 11) 2, type := 0, pos := p, after := #[{ on := 8, ground := Ground.data }], guard := none }
def oRC10 (p : String) : Oper := { dst := some 13, op := Op.load 3 (Operand.tmp 12), type := 3, pos := p, after := #[{ on := 9, ground := Ground.data }], guard := none }
def oRC11 (p : String) : Oper := { dst := some 14, op := Op.call { callee := Callee.value (Operand.func 89), args := #[Operand.tmp 9, Operand.tmp 13], argTypes := #[29, 3] }, type := 43, pos := p, after := #[{ on := 6, ground := Ground.data }, { on := 10, ground := Ground.data }], guard := none }
def oRC12 (p : String) : Oper := { dst := some 2, op := Op.assign (Operand.tmp 14), type := 43, pos := p, after := #[{ on := 11, ground := Ground.data }, { on := 11, ground := Ground.chain }, { on := 0, ground := Ground.phase }, { on := 1, ground := Ground.phase }, { on := 2, ground := Ground.phase }, { on := 3, ground := Ground.phase }, { on := 4, ground := Ground.phase }, { on := 5, ground := Ground.phase }, { on := 6, ground := Ground.phase }, { on := 7, ground := Ground.phase }, { on := 8, ground := Ground.phase }, { on := 9, ground := Ground.phase }, { on := 10, ground := Ground.phase }, { on := 11, ground := Ground.phase }], guard := none }
def opsRC (p : String) : List Oper := [oRC0 p, oRC1 p, oRC2 p, oRC3 p, oRC4 p, oRC5 p, oRC6 p, oRC7 p, oRC8 p, oRC9 p, oRC10 p, oRC11 p, oRC12 p]
theorem opsRC_back (p : String) : backwards (opsRC p) = true := by kernel_rfl
theorem opsRC_slots (p : String) : slotsOk 15 (opsRC p) = true := by kernel_rfl
/-- What each slot comes to. -/
def psiRC (_P : DiskK) (_F : Nat → Prop) (O B R : Nat) (s : DS) (_v : Value) (n : Nat) (_L : Nat → Bool) : Nat → Value → World → Prop
  | 0, v, _ => v = .pointer (some ⟨O, 0, none⟩)
  | 1, v, _ => v = .pointer (some ⟨O, 0, none⟩)
  | 2, v, _ => v = .pointer (some ⟨O, 0, none⟩)
  | 3, v, _ => v = .pointer (some ⟨B, 0, none⟩)
  | 4, v, _ => v = .pointer (some ⟨B, 0, none⟩)
  | 5, v, _ => v = .pointer (some ⟨B, 0, none⟩)
  | 6, v, _ => v = .pointer (some ⟨R, 0, none⟩)
  | 7, v, _ => v = .pointer (some ⟨O, 0, none⟩)
  | 8, v, _ => v = .pointer (some ⟨O, 0, none⟩)
  | 9, v, _ => v = .pointer (some ⟨O, 2, none⟩)
  | 10, v, _ => v = .int .i64 (n : Int)
  | 11, v, _ => v = .int .i64 ((s.cut (n : Int)).2 : Int)
  | 12, v, _ => v = .int .i64 ((s.cut (n : Int)).2 : Int)
  | _, _, _ => True
def wsRC (P : DiskK) (F : Nat → Prop) (O B R : Nat) (s : DS) (v : Value) (n : Nat) (W0 : World) (L : Nat → Bool) (w : World) : Prop := ∃ F', P.Pl F' w R (if L 11 = true then (s.cut (n : Int)).1 else s) ∧ Only F W0 w ∧ (∀ k, F' k → F k ∨ W0.heap.size ≤ k) ∧ w.heap[B]? = some (.cells #[.pointer (some ⟨R, 0, none⟩)] 120 (0, 0)) ∧ w.heap[O]? = some (.cells #[.pointer (some ⟨B, 0, none⟩), v, .int .i64 (n : Int)] 122 (0, 0))
theorem psiRC_same (P : DiskK) (F : Nat → Prop) (O B R : Nat) (s : DS) (v : Value) (n : Nat) : ∀ (L : Nat → Bool) (i j : Nat) (u : Value) (w : World), psiRC P F O B R s v n L j u w → psiRC P F O B R s v n (andI L i) j u w := by
  intro L i j u w h
  rcases j with _ | _ | _ | _ | _ | _ | _ | _ | _ | _ | _ | _ | _ | j
  · exact h
  · exact h
  · exact h
  · exact h
  · exact h
  · exact h
  · exact h
  · exact h
  · exact h
  · exact h
  · exact h
  · exact h
  · exact h
  · trivial
theorem wsRC_same (P : DiskK) (F : Nat → Prop) (O B R : Nat) (s : DS) (v : Value) (n : Nat) : ∀ (W0 : World) (L : Nat → Bool) (i : Nat) (w : World), i ≠ 11 → wsRC P F O B R s v n W0 L w → wsRC P F O B R s v n W0 (andI L i) w := by
  intro W0 L i w n11 h
  have e : ∀ k, k ≠ i → andI L i k = L k := fun k hk => by simp [andI, hk]
  unfold wsRC at h ⊢
  rw [e 11 (Ne.symm n11)]
  exact h
theorem psiRC_any (P : DiskK) (F : Nat → Prop) (O B R : Nat) (s : DS) (v : Value) (n : Nat) {L L' : Nat → Bool} {j : Nat} {u : Value} {w w' : World} (h : psiRC P F O B R s v n L j u w) : psiRC P F O B R s v n L' j u w' := by
  rcases j with _ | _ | _ | _ | _ | _ | _ | _ | _ | _ | _ | _ | _ | j
  all_goals first | exact h | trivial
section
variable {P : DiskK} {F : Nat → Prop} {O B R : Nat} {s : DS} {v : Value} {n : Nat} {W0 w : World} {L : Nat → Bool}
theorem wsRC_log (h : wsRC P F O B R s v n W0 L w) : w.heap[B]? = some (.cells #[.pointer (some ⟨R, 0, none⟩)] 120 (0, 0)) := h.elim fun _ h => h.2.2.2.1
theorem wsRC_opn (h : wsRC P F O B R s v n W0 L w) : w.heap[O]? = some (.cells #[.pointer (some ⟨B, 0, none⟩), v, .int .i64 (n : Int)] 122 (0, 0)) := h.elim fun _ h => h.2.2.2.2
end
set_option maxRecDepth 100000 in
set_option maxHeartbeats 4000000 in
theorem cut_region {p : String} (P : DiskK) (F : Nat → Prop) (O B R : Nat) (s : DS) (v : Value) (n : Nat) (hn : InI5 (n : Int)) (hOF : ¬ F O) (hBF : ¬ F B) (a : Act) (w : World) (Q : Exit → Act → World → Prop) (hN : a.tmps.size = 15) (h0 : a.tmps.getD 0 undef = .pointer (some ⟨O, 0, none⟩)) (hp : P.Pl F w R s) (hlog : w.heap[B]? = some (.cells #[.pointer (some ⟨R, 0, none⟩)] 120 (0, 0))) (hopn : w.heap[O]? = some (.cells #[.pointer (some ⟨B, 0, none⟩), v, .int .i64 (n : Int)] 122 (0, 0))) (hB0 : B < w.heap.size) (hO0 : O < w.heap.size) (hQ : ∀ (w' : World), (∃ F', P.Pl F' w' R (s.cut (n : Int)).1 ∧ Only F w w' ∧ (∀ k, F' k → F k ∨ w.heap.size ≤ k)) → Q .normal (puts [(3, .pointer (some ⟨O, 0, none⟩)), (4, .pointer (some ⟨O, 0, none⟩)), (5, .pointer (some ⟨O, 0, none⟩)), (6, .pointer (some ⟨B, 0, none⟩)), (7, .pointer (some ⟨B, 0, none⟩)), (8, .pointer (some ⟨B, 0, none⟩)), (9, .pointer (some ⟨R, 0, none⟩)), (10, .pointer (some ⟨O, 0, none⟩)), (11, .pointer (some ⟨O, 0, none⟩)), (12, .pointer (some ⟨O, 2, none⟩)), (13, .int .i64 (n : Int)), (14, .int .i64 ((s.cut (n : Int)).2 : Int)), (2, .int .i64 ((s.cut (n : Int)).2 : Int))] a) w')
    : (Code.region 1 (opsRC p).toArray true).wp Tryz.prog Q a w := by
  refine (wpIn_wide (n := 1)).1 (wpIn_region_st 15 hN follows (opsRC_back p) (opsRC_slots p) (wsRC P F O B R s v n w) (psiRC P F O B R s v n) (⟨F, by rw [if_neg (by simp)]; exact P.keep hp (Only.drew (Only.refl (fun _ => False) w)) (fun _ _ => id), Only.drew (Only.refl F w), fun k h => .inl h, hlog, hopn⟩) ?_ ?_)
  · intro L i o d a' w' ho hd hLi hdep hcl hF hW hp
    rcases i with _ | _ | _ | _ | _ | _ | _ | _ | _ | _ | _ | _ | _ | i
    · obtain rfl : oRC0 p = o := Option.some.inj ho
      obtain rfl : 3 = d := Option.some.inj hd
      exact step_move rfl rfl rfl (hF.at 0 rfl h0) ⟨_, rfl, rfl, wsRC_same _ _ _ _ _ _ _ _  _ _ _ _ (by decide) hW, fun j u _ h => psiRC_same _ _ _ _ _ _ _ _  _ _ _ _ _ h⟩
    · obtain rfl : oRC1 p = o := Option.some.inj ho
      obtain rfl : 4 = d := Option.some.inj hd
      have q0 : a'.tmps.getD 3 undef = .pointer (some ⟨O, 0, none⟩) := hp 0 (oRC0 p) 3 (hdep 0 rfl) rfl rfl
      exact step_nilCheckQ rfl rfl rfl q0 (trivial) ⟨_, rfl, rfl, wsRC_same _ _ _ _ _ _ _ _  _ _ _ _ (by decide) hW, fun j u _ h => psiRC_same _ _ _ _ _ _ _ _  _ _ _ _ _ h⟩
    · obtain rfl : oRC2 p = o := Option.some.inj ho
      obtain rfl : 5 = d := Option.some.inj hd
      have q1 : a'.tmps.getD 4 undef = .pointer (some ⟨O, 0, none⟩) := hp 1 (oRC1 p) 4 (hdep 1 rfl) rfl rfl
      exact step_fieldQ rfl rfl rfl q1 (run_opn0 _ _) ⟨_, rfl, rfl, wsRC_same _ _ _ _ _ _ _ _  _ _ _ _ (by decide) hW, fun j u _ h => psiRC_same _ _ _ _ _ _ _ _  _ _ _ _ _ h⟩
    · obtain rfl : oRC3 p = o := Option.some.inj ho
      obtain rfl : 6 = d := Option.some.inj hd
      have q2 : a'.tmps.getD 5 undef = .pointer (some ⟨O, 0, none⟩) := hp 2 (oRC2 p) 5 (hdep 2 rfl) rfl rfl
      exact step_load rfl rfl rfl q2 (run_ldLog _ _ _ (by have := blk_cell (wsRC_opn hW) 0; simpa using this)) ⟨_, rfl, rfl, wsRC_same _ _ _ _ _ _ _ _  _ _ _ _ (by decide) hW, fun j u _ h => psiRC_same _ _ _ _ _ _ _ _  _ _ _ _ _ h⟩
    · obtain rfl : oRC4 p = o := Option.some.inj ho
      obtain rfl : 7 = d := Option.some.inj hd
      have q3 : a'.tmps.getD 6 undef = .pointer (some ⟨B, 0, none⟩) := hp 3 (oRC3 p) 6 (hdep 3 rfl) rfl rfl
      exact step_nilCheckQ rfl rfl rfl q3 (trivial) ⟨_, rfl, rfl, wsRC_same _ _ _ _ _ _ _ _  _ _ _ _ (by decide) hW, fun j u _ h => psiRC_same _ _ _ _ _ _ _ _  _ _ _ _ _ h⟩
    · obtain rfl : oRC5 p = o := Option.some.inj ho
      obtain rfl : 8 = d := Option.some.inj hd
      have q4 : a'.tmps.getD 7 undef = .pointer (some ⟨B, 0, none⟩) := hp 4 (oRC4 p) 7 (hdep 4 rfl) rfl rfl
      exact step_fieldQ rfl rfl rfl q4 (run_log _ _) ⟨_, rfl, rfl, wsRC_same _ _ _ _ _ _ _ _  _ _ _ _ (by decide) hW, fun j u _ h => psiRC_same _ _ _ _ _ _ _ _  _ _ _ _ _ h⟩
    · obtain rfl : oRC6 p = o := Option.some.inj ho
      obtain rfl : 9 = d := Option.some.inj hd
      have q5 : a'.tmps.getD 8 undef = .pointer (some ⟨B, 0, none⟩) := hp 5 (oRC5 p) 8 (hdep 5 rfl) rfl rfl
      exact step_load rfl rfl rfl q5 (run_ldDisk _ _ _ (by have := blk_cell (wsRC_log hW) 0; simpa using this)) ⟨_, rfl, rfl, wsRC_same _ _ _ _ _ _ _ _  _ _ _ _ (by decide) hW, fun j u _ h => psiRC_same _ _ _ _ _ _ _ _  _ _ _ _ _ h⟩
    · obtain rfl : oRC7 p = o := Option.some.inj ho
      obtain rfl : 10 = d := Option.some.inj hd
      exact step_move rfl rfl rfl (hF.at 0 rfl h0) ⟨_, rfl, rfl, wsRC_same _ _ _ _ _ _ _ _  _ _ _ _ (by decide) hW, fun j u _ h => psiRC_same _ _ _ _ _ _ _ _  _ _ _ _ _ h⟩
    · obtain rfl : oRC8 p = o := Option.some.inj ho
      obtain rfl : 11 = d := Option.some.inj hd
      have q7 : a'.tmps.getD 10 undef = .pointer (some ⟨O, 0, none⟩) := hp 7 (oRC7 p) 10 (hdep 7 rfl) rfl rfl
      exact step_nilCheckQ rfl rfl rfl q7 (trivial) ⟨_, rfl, rfl, wsRC_same _ _ _ _ _ _ _ _  _ _ _ _ (by decide) hW, fun j u _ h => psiRC_same _ _ _ _ _ _ _ _  _ _ _ _ _ h⟩
    · obtain rfl : oRC9 p = o := Option.some.inj ho
      obtain rfl : 12 = d := Option.some.inj hd
      have q8 : a'.tmps.getD 11 undef = .pointer (some ⟨O, 0, none⟩) := hp 8 (oRC8 p) 11 (hdep 8 rfl) rfl rfl
      exact step_fieldQ rfl rfl rfl q8 (run_opn2 _ _) ⟨_, rfl, rfl, wsRC_same _ _ _ _ _ _ _ _  _ _ _ _ (by decide) hW, fun j u _ h => psiRC_same _ _ _ _ _ _ _ _  _ _ _ _ _ h⟩
    · obtain rfl : oRC10 p = o := Option.some.inj ho
      obtain rfl : 13 = d := Option.some.inj hd
      have q9 : a'.tmps.getD 12 undef = .pointer (some ⟨O, 2, none⟩) := hp 9 (oRC9 p) 12 (hdep 9 rfl) rfl rfl
      exact step_load rfl rfl rfl q9 (run_ldN _ _ _ (by have := blk_cell (wsRC_opn hW) 2; simpa using this)) ⟨_, rfl, rfl, wsRC_same _ _ _ _ _ _ _ _  _ _ _ _ (by decide) hW, fun j u _ h => psiRC_same _ _ _ _ _ _ _ _  _ _ _ _ _ h⟩
    · obtain rfl : oRC11 p = o := Option.some.inj ho
      obtain rfl : 14 = d := Option.some.inj hd
      have q6 : a'.tmps.getD 9 undef = .pointer (some ⟨R, 0, none⟩) := hp 6 (oRC6 p) 9 (hdep 6 rfl) rfl rfl
      have q10 : a'.tmps.getD 13 undef = .int .i64 (n : Int) := hp 10 (oRC10 p) 13 (hdep 10 rfl) rfl rfl
      obtain ⟨F1, k1, k2, k3, k4, k5⟩ := hW
      have hc : L 11 = false := hLi
      rw [if_neg (by rw [hc]; simp)] at k1
      refine step_callQ rfl rfl rfl (enters_of Tryz.func89 (by kernel_rfl) rfl) (show Array.map a'.eval #[.tmp 9, .tmp 13] = #[.pointer (some ⟨R, 0, none⟩), .int .i64 (n : Int)] from by simp only [List.map_toArray, List.map_cons, List.map_nil, Act.eval, q6, q10]) ((P.cut (n : Int) k1 hn).mono ?_)
      rintro e w'' ⟨rfl, F2, j1, j2, j3⟩
      have hOl := (Array.getElem?_eq_some_iff.1 k5).1
      have hBl := (Array.getElem?_eq_some_iff.1 k4).1
      have nF : ∀ k, k < w.heap.size → ¬ F k → ¬ F1 k := fun k h1 h2 h3 => (k3 k h3).elim h2 (fun h => absurd h1 (Nat.not_lt.2 h))
      exact ⟨_, rfl, _, rfl, rfl, ⟨F2, by rw [if_pos (andI_self _ _)]; exact j1, k2.trans j2 (fun k h => k3 k h), fun k h => (j3 k h).elim (k3 k) (fun h' => .inr (Nat.le_trans k2.size h')), j2.blk k4 (nF B hB0 hBF), j2.blk k5 (nF O hO0 hOF)⟩, fun j u _ h => psiRC_any _ _ _ _ _ _ _ _  h⟩
    · obtain rfl : oRC12 p = o := Option.some.inj ho
      obtain rfl : 2 = d := Option.some.inj hd
      have q11 : a'.tmps.getD 14 undef = .int .i64 ((s.cut (n : Int)).2 : Int) := hp 11 (oRC11 p) 14 (hdep 11 rfl) rfl rfl
      exact step_assign rfl rfl rfl q11 ⟨_, rfl, rfl, wsRC_same _ _ _ _ _ _ _ _  _ _ _ _ (by decide) hW, fun j u _ h => psiRC_same _ _ _ _ _ _ _ _  _ _ _ _ _ h⟩
    · exact absurd ((Array.getElem?_eq_some_iff.1 ho).1) (by simp [opsRC])
  · intro L a' w' hLall hF hW hp
    have e0 : psiRC P F O B R s v n L 0 (a'.tmps.getD 3 undef) w' := hp 0 (oRC0 p) 3 rfl rfl
    have e1 : psiRC P F O B R s v n L 1 (a'.tmps.getD 4 undef) w' := hp 1 (oRC1 p) 4 rfl rfl
    have e2 : psiRC P F O B R s v n L 2 (a'.tmps.getD 5 undef) w' := hp 2 (oRC2 p) 5 rfl rfl
    have e3 : psiRC P F O B R s v n L 3 (a'.tmps.getD 6 undef) w' := hp 3 (oRC3 p) 6 rfl rfl
    have e4 : psiRC P F O B R s v n L 4 (a'.tmps.getD 7 undef) w' := hp 4 (oRC4 p) 7 rfl rfl
    have e5 : psiRC P F O B R s v n L 5 (a'.tmps.getD 8 undef) w' := hp 5 (oRC5 p) 8 rfl rfl
    have e6 : psiRC P F O B R s v n L 6 (a'.tmps.getD 9 undef) w' := hp 6 (oRC6 p) 9 rfl rfl
    have e7 : psiRC P F O B R s v n L 7 (a'.tmps.getD 10 undef) w' := hp 7 (oRC7 p) 10 rfl rfl
    have e8 : psiRC P F O B R s v n L 8 (a'.tmps.getD 11 undef) w' := hp 8 (oRC8 p) 11 rfl rfl
    have e9 : psiRC P F O B R s v n L 9 (a'.tmps.getD 12 undef) w' := hp 9 (oRC9 p) 12 rfl rfl
    have e10 : psiRC P F O B R s v n L 10 (a'.tmps.getD 13 undef) w' := hp 10 (oRC10 p) 13 rfl rfl
    have e11 : psiRC P F O B R s v n L 11 (a'.tmps.getD 14 undef) w' := hp 11 (oRC11 p) 14 rfl rfl
    have e12 : psiRC P F O B R s v n L 12 (a'.tmps.getD 2 undef) w' := hp 12 (oRC12 p) 2 rfl rfl
    rw [hF.puts [(3, .pointer (some ⟨O, 0, none⟩)), (4, .pointer (some ⟨O, 0, none⟩)), (5, .pointer (some ⟨O, 0, none⟩)), (6, .pointer (some ⟨B, 0, none⟩)), (7, .pointer (some ⟨B, 0, none⟩)), (8, .pointer (some ⟨B, 0, none⟩)), (9, .pointer (some ⟨R, 0, none⟩)), (10, .pointer (some ⟨O, 0, none⟩)), (11, .pointer (some ⟨O, 0, none⟩)), (12, .pointer (some ⟨O, 2, none⟩)), (13, .int .i64 (n : Int)), (14, .int .i64 ((s.cut (n : Int)).2 : Int)), (2, .int .i64 ((s.cut (n : Int)).2 : Int))] ?_ rfl (by rw [hN]; rfl)]
    · exact hQ  w'  (by obtain ⟨F1, k1, k2, k3, _⟩ := hW; rw [if_pos (hLall 11 (by simp [opsRC]))] at k1; exact ⟨F1, k1, k2, k3⟩)
    · intro x hx
      simp only [List.mem_cons, List.not_mem_nil, or_false] at hx
      rcases hx with rfl | rfl | rfl | rfl | rfl | rfl | rfl | rfl | rfl | rfl | rfl | rfl | rfl
      · exact e0
      · exact e1
      · exact e2
      · exact e3
      · exact e4
      · exact e5
      · exact e6
      · exact e7
      · exact e8
      · exact e9
      · exact e10
      · exact e11
      · exact e12
def oRS0 (p : String) : Oper := { dst := some 3, op := Op.move (Operand.tmp 0), type := 118, pos := p, after := #[], guard := none }
def oRS1 (p : String) : Oper := { dst := some 4, op := Op.move (Operand.tmp 0), type := 118, pos := p, after := #[], guard := none }
def oRS2 (p : String) : Oper := { dst := some 5, op := Op.nilCheck (Operand.tmp 4), type := 0, pos := p, after := #[{ on := 1, ground := Ground.data }], guard := none }
def oRS3 (p : String) : Oper := { dst := some 6, op := Op.fieldAddr 122 (Operand.tmp 5) 0, type := 0, pos := p, after := #[{ on := 2, ground := Ground.data }], guard := none }
def oRS4 (p : String) : Oper := { dst := some 7, op := Op.load 84 (Operand.tmp 6), type := 84, pos := p, after := #[{ on := 3, ground := Ground.data }], guard := none }
def oRS5 (p : String) : Oper := { dst := some 8, op := Op.nilCheck (Operand.tmp 7), type := 0, pos := p, after := #[{ on := 4, ground := Ground.data }], guard := none }
def oRS6 (p : String) : Oper := { dst := some 9, op := Op.fieldAddr 120 (Operand.tmp 8) 0, type := 0, pos := p, after := #[{ on := 5, ground := Ground.data }], guard := none }
def oRS7 (p : String) : Oper := { dst := some 10, op := Op.load 29 (Operand.tmp 9), type := 29, pos := p, after := #[{ on := 6, ground := Ground.data }], guard := none }
def oRS8 (p : String) : Oper := { dst := some 11, op := Op.call { callee := Callee.value (Operand.func 21), args := #[Operand.tmp 10], argTypes := #[29] }, type := 39, pos := p, after := #[{ on := 7, ground := Ground.data }], guard := none }
def oRS9 (p : String) : Oper := { dst := some 12, op := Op.move (Operand.tmp 0), type := 118, pos := p, after := #[], guard := none }
def oRS10 (p : String) : Oper := { dst := some 13, op := Op.nilCheck (Operand.tmp 12), type := 0, pos := p, after := #[{ on := 9, ground := Ground.data }], guard := none }
def oRS11 (p : String) : Oper := { dst := some 14, op := Op.fieldAddr 122 (Operand.tmp 13) 0, type := 0, pos := p, after := #[{ on := 10, ground := Ground.data }], guard := none }
def oRS12 (p : String) : Oper := { dst := some 15, op := Op.load 84 (Operand.tmp 14), type := 84, pos := p, after := #[{ on := 11, ground := Ground.data }], guard := none }
def oRS13 (p : String) : Oper := { dst := some 16, op := Op.nilCheck (Operand.tmp 15), type := 0, pos := p, after := #[{ on := 12, ground := Ground.data }], guard := none }
def oRS14 (p : String) : Oper := { dst := some 17, op := Op.fieldAddr 120 (Operand.tmp 16) 0, type := 0, pos := p, after := #[{ on := 13, ground := Ground.data }], guard := none }
def oRS15 (p : String) : Oper := { dst := some 18, op := Op.load 29 (Operand.tmp 17), type := 29, pos := p, after := #[{ on := 14, ground := Ground.data }], guard := none }
def oRS16 (p : String) : Oper := { dst := some 19, op := Op.call { callee := Callee.value (Operand.func 22), args := #[Operand.tmp 18], argTypes := #[29] }, type := 3, pos := p, after := #[{ on := 15, ground := Ground.data }, { on := 8, ground := Ground.chain }], guard := none }
def oRS17 (p : String) : Oper := { dst := some 20, op := Op.slice 39 (Operand.tmp 11) none (some (Operand.tmp 19)) none, type := 39, pos := p, after := #[{ on := 8, ground := Ground.data }, { on := 16, ground := Ground.data }], guard := none }
def oRS18 (p : String) : Oper := { dst := some 21, op := Op.call { callee := Callee.value (Operand.func 88), args := #[Operand.tmp 3, Operand.tmp 20], argTypes := #[118, 39] }, type := 43, pos := p, after := #[{ on := 0, ground := Ground.data }, { on := 17, ground := Ground.data }, { on := 16, ground := Ground.chain }], guard := none }
def oRS19 (p : String) : Oper := { dst := some 22, op := Op.binOp BinOp.neq 43 (Operand.tmp 21) (Operand.const (Value.int IntKind.i64 0)) 43, type := 4, pos := p, after := #[{ on := 18, ground := Ground.data }], guard := none }
def opsRS (p : String) : List Oper := [oRS0 p, oRS1 p, oRS2 p, oRS3 p, oRS4 p, oRS5 p, oRS6 p, oRS7 p, oRS8 p, oRS9 p, oRS10 p, oRS11 p, oRS12 p, oRS13 p, oRS14 p, oRS15 p, oRS16 p, oRS17 p, oRS18 p, oRS19 p]
theorem opsRS_back (p : String) : backwards (opsRS p) = true := by kernel_rfl
theorem opsRS_slots (p : String) : slotsOk 23 (opsRS p) = true := by kernel_rfl
/-- What each slot comes to. -/
def psiRS (_P : DiskK) (_w0 : World) (_F : Nat → Prop) (O B R : Nat) (s : DS) (_xs : List (List UInt8)) (_m : Nat) (_L : Nat → Bool) : Nat → Value → World → Prop
  | 0, v, _ => v = .pointer (some ⟨O, 0, none⟩)
  | 1, v, _ => v = .pointer (some ⟨O, 0, none⟩)
  | 2, v, _ => v = .pointer (some ⟨O, 0, none⟩)
  | 3, v, _ => v = .pointer (some ⟨O, 0, none⟩)
  | 4, v, _ => v = .pointer (some ⟨B, 0, none⟩)
  | 5, v, _ => v = .pointer (some ⟨B, 0, none⟩)
  | 6, v, _ => v = .pointer (some ⟨B, 0, none⟩)
  | 7, v, _ => v = .pointer (some ⟨R, 0, none⟩)
  | 8, v, w => ∃ A c, v = .slice A s.A.length c ∧ s.A.length ≤ c ∧ Data w A s.A
  | 9, v, _ => v = .pointer (some ⟨O, 0, none⟩)
  | 10, v, _ => v = .pointer (some ⟨O, 0, none⟩)
  | 11, v, _ => v = .pointer (some ⟨O, 0, none⟩)
  | 12, v, _ => v = .pointer (some ⟨B, 0, none⟩)
  | 13, v, _ => v = .pointer (some ⟨B, 0, none⟩)
  | 14, v, _ => v = .pointer (some ⟨B, 0, none⟩)
  | 15, v, _ => v = .pointer (some ⟨R, 0, none⟩)
  | 16, v, _ => v = .int .i64 (s.y : Int)
  | 17, v, w => ∃ A c, v = .slice A (s.A.take s.y).length c ∧ (s.A.take s.y).length ≤ c ∧ Data w A (s.A.take s.y)
  | 18, v, _ => v = .int .i64 ((al (s.A.take s.y)).2.2 : Int)
  | 19, v, _ => v = .bool ((((al (s.A.take s.y)).2.2 : Nat) : Int) != 0)
  | _, _, _ => True
def wsRS (P : DiskK) (w0 : World) (F : Nat → Prop) (O B R : Nat) (s : DS) (xs : List (List UInt8)) (m : Nat) (W0 : World) (L : Nat → Bool) (w : World) : Prop := Below w0.heap.size w0 w ∧ SameT TR W0 w ∧ P.Pl F w R s ∧ w.heap[B]? = some (.cells #[.pointer (some ⟨R, 0, none⟩)] 120 (0, 0)) ∧ OS w0.heap.size O B (if L 18 = true then xs ++ (al (s.A.take s.y)).1 else xs) (if L 18 = true then m + (al (s.A.take s.y)).2.1 else m) w
theorem psiRS_same (P : DiskK) (w0 : World) (F : Nat → Prop) (O B R : Nat) (s : DS) (xs : List (List UInt8)) (m : Nat) : ∀ (L : Nat → Bool) (i j : Nat) (u : Value) (w : World), psiRS P w0 F O B R s xs m L j u w → psiRS P w0 F O B R s xs m (andI L i) j u w := by
  intro L i j u w h
  rcases j with _ | _ | _ | _ | _ | _ | _ | _ | _ | _ | _ | _ | _ | _ | _ | _ | _ | _ | _ | _ | j
  · exact h
  · exact h
  · exact h
  · exact h
  · exact h
  · exact h
  · exact h
  · exact h
  · exact h
  · exact h
  · exact h
  · exact h
  · exact h
  · exact h
  · exact h
  · exact h
  · exact h
  · exact h
  · exact h
  · exact h
  · trivial
theorem wsRS_same (P : DiskK) (w0 : World) (F : Nat → Prop) (O B R : Nat) (s : DS) (xs : List (List UInt8)) (m : Nat) : ∀ (W0 : World) (L : Nat → Bool) (i : Nat) (w : World), i ≠ 18 → wsRS P w0 F O B R s xs m W0 L w → wsRS P w0 F O B R s xs m W0 (andI L i) w := by
  intro W0 L i w n18 h
  have e : ∀ k, k ≠ i → andI L i k = L k := fun k hk => by simp [andI, hk]
  unfold wsRS at h ⊢
  rw [e 18 (Ne.symm n18)]
  exact h
theorem psiRS_keep (P : DiskK) (w0 : World) (F : Nat → Prop) (O B R : Nat) (s : DS) (xs : List (List UInt8)) (m : Nat) {L L' : Nat → Bool} {j : Nat} {u : Value} {W W' : World} (h : psiRS P w0 F O B R s xs m L j u W) (hs : SameT TR W W') : psiRS P w0 F O B R s xs m L' j u W' := by
  rcases j with _ | _ | _ | _ | _ | _ | _ | _ | _ | _ | _ | _ | _ | _ | _ | _ | _ | _ | _ | _ | j
  all_goals first | exact h | trivial | (obtain ⟨A, c, h1, h2, h3⟩ := h; exact ⟨A, c, h1, h2, hs.data h3 (by decide)⟩)
set_option maxRecDepth 100000 in
set_option maxHeartbeats 4000000 in
theorem synced_region {p : String} (P : DiskK) (w0 : World) (F : Nat → Prop) (O B R : Nat) (s : DS) (xs : List (List UInt8)) (m : Nat) (hT : Tab w0) (hO0 : w0.heap.size ≤ O) (hF0 : ∀ k, F k → k < w0.heap.size) (hy : s.y ≤ s.A.length) (hl : s.A.length ≤ 100000) (hx : xs.length ≤ 200000) (hm : m ≤ 200000) (a : Act) (w : World) (Q : Exit → Act → World → Prop) (hN : a.tmps.size = 23) (h0 : a.tmps.getD 0 undef = .pointer (some ⟨O, 0, none⟩)) (hb0 : Below w0.heap.size w0 w) (hp : P.Pl F w R s) (hlog : w.heap[B]? = some (.cells #[.pointer (some ⟨R, 0, none⟩)] 120 (0, 0))) (hopn : OS w0.heap.size O B xs m w) (hQ : ∀ (v11 : Value), ∀ (v20 : Value), ∀ (w' : World), True → True → (Below w0.heap.size w0 w' ∧ SameT TR w w' ∧ P.Pl F w' R s ∧ w'.heap[B]? = some (.cells #[.pointer (some ⟨R, 0, none⟩)] 120 (0, 0)) ∧ OS w0.heap.size O B (xs ++ (al (s.A.take s.y)).1) (m + (al (s.A.take s.y)).2.1) w') → Q .normal (puts [(3, .pointer (some ⟨O, 0, none⟩)), (4, .pointer (some ⟨O, 0, none⟩)), (5, .pointer (some ⟨O, 0, none⟩)), (6, .pointer (some ⟨O, 0, none⟩)), (7, .pointer (some ⟨B, 0, none⟩)), (8, .pointer (some ⟨B, 0, none⟩)), (9, .pointer (some ⟨B, 0, none⟩)), (10, .pointer (some ⟨R, 0, none⟩)), (11, v11), (12, .pointer (some ⟨O, 0, none⟩)), (13, .pointer (some ⟨O, 0, none⟩)), (14, .pointer (some ⟨O, 0, none⟩)), (15, .pointer (some ⟨B, 0, none⟩)), (16, .pointer (some ⟨B, 0, none⟩)), (17, .pointer (some ⟨B, 0, none⟩)), (18, .pointer (some ⟨R, 0, none⟩)), (19, .int .i64 (s.y : Int)), (20, v20), (21, .int .i64 ((al (s.A.take s.y)).2.2 : Int)), (22, .bool ((((al (s.A.take s.y)).2.2 : Nat) : Int) != 0))] a) w')
    : (Code.region 1 (opsRS p).toArray true).wp Tryz.prog Q a w := by
  refine (wpIn_wide (n := 1)).1 (wpIn_region_st 23 hN follows (opsRS_back p) (opsRS_slots p) (wsRS P w0 F O B R s xs m w) (psiRS P w0 F O B R s xs m) (⟨hb0.drew, SameT.drew w, P.keep hp (Only.drew (Only.refl (fun _ => False) w)) (fun _ _ => id), hlog, by rw [if_neg (by simp), if_neg (by simp)]; exact hopn.keep (T := []) (SameT.drew w) (by simp) (by simp) (by simp)⟩) ?_ ?_)
  · intro L i o d a' w' ho hd hLi hdep hcl hF hW hp
    rcases i with _ | _ | _ | _ | _ | _ | _ | _ | _ | _ | _ | _ | _ | _ | _ | _ | _ | _ | _ | _ | i
    · obtain rfl : oRS0 p = o := Option.some.inj ho
      obtain rfl : 3 = d := Option.some.inj hd
      exact step_move rfl rfl rfl (hF.at 0 rfl h0) ⟨_, rfl, rfl, wsRS_same _ _ _ _ _ _ _ _ _  _ _ _ _ (by decide) hW, fun j u _ h => psiRS_same _ _ _ _ _ _ _ _ _  _ _ _ _ _ h⟩
    · obtain rfl : oRS1 p = o := Option.some.inj ho
      obtain rfl : 4 = d := Option.some.inj hd
      exact step_move rfl rfl rfl (hF.at 0 rfl h0) ⟨_, rfl, rfl, wsRS_same _ _ _ _ _ _ _ _ _  _ _ _ _ (by decide) hW, fun j u _ h => psiRS_same _ _ _ _ _ _ _ _ _  _ _ _ _ _ h⟩
    · obtain rfl : oRS2 p = o := Option.some.inj ho
      obtain rfl : 5 = d := Option.some.inj hd
      have q1 : a'.tmps.getD 4 undef = .pointer (some ⟨O, 0, none⟩) := hp 1 (oRS1 p) 4 (hdep 1 rfl) rfl rfl
      exact step_nilCheckQ rfl rfl rfl q1 (trivial) ⟨_, rfl, rfl, wsRS_same _ _ _ _ _ _ _ _ _  _ _ _ _ (by decide) hW, fun j u _ h => psiRS_same _ _ _ _ _ _ _ _ _  _ _ _ _ _ h⟩
    · obtain rfl : oRS3 p = o := Option.some.inj ho
      obtain rfl : 6 = d := Option.some.inj hd
      have q2 : a'.tmps.getD 5 undef = .pointer (some ⟨O, 0, none⟩) := hp 2 (oRS2 p) 5 (hdep 2 rfl) rfl rfl
      exact step_fieldQ rfl rfl rfl q2 (run_opn0 _ _) ⟨_, rfl, rfl, wsRS_same _ _ _ _ _ _ _ _ _  _ _ _ _ (by decide) hW, fun j u _ h => psiRS_same _ _ _ _ _ _ _ _ _  _ _ _ _ _ h⟩
    · obtain rfl : oRS4 p = o := Option.some.inj ho
      obtain rfl : 7 = d := Option.some.inj hd
      have q3 : a'.tmps.getD 6 undef = .pointer (some ⟨O, 0, none⟩) := hp 3 (oRS3 p) 6 (hdep 3 rfl) rfl rfl
      exact step_load rfl rfl rfl q3 (run_ldLog _ _ _ (by obtain ⟨_, _, k1, _⟩ := hW.2.2.2.2; have := blk_cell k1 0; simpa using this)) ⟨_, rfl, rfl, wsRS_same _ _ _ _ _ _ _ _ _  _ _ _ _ (by decide) hW, fun j u _ h => psiRS_same _ _ _ _ _ _ _ _ _  _ _ _ _ _ h⟩
    · obtain rfl : oRS5 p = o := Option.some.inj ho
      obtain rfl : 8 = d := Option.some.inj hd
      have q4 : a'.tmps.getD 7 undef = .pointer (some ⟨B, 0, none⟩) := hp 4 (oRS4 p) 7 (hdep 4 rfl) rfl rfl
      exact step_nilCheckQ rfl rfl rfl q4 (trivial) ⟨_, rfl, rfl, wsRS_same _ _ _ _ _ _ _ _ _  _ _ _ _ (by decide) hW, fun j u _ h => psiRS_same _ _ _ _ _ _ _ _ _  _ _ _ _ _ h⟩
    · obtain rfl : oRS6 p = o := Option.some.inj ho
      obtain rfl : 9 = d := Option.some.inj hd
      have q5 : a'.tmps.getD 8 undef = .pointer (some ⟨B, 0, none⟩) := hp 5 (oRS5 p) 8 (hdep 5 rfl) rfl rfl
      exact step_fieldQ rfl rfl rfl q5 (run_log _ _) ⟨_, rfl, rfl, wsRS_same _ _ _ _ _ _ _ _ _  _ _ _ _ (by decide) hW, fun j u _ h => psiRS_same _ _ _ _ _ _ _ _ _  _ _ _ _ _ h⟩
    · obtain rfl : oRS7 p = o := Option.some.inj ho
      obtain rfl : 10 = d := Option.some.inj hd
      have q6 : a'.tmps.getD 9 undef = .pointer (some ⟨B, 0, none⟩) := hp 6 (oRS6 p) 9 (hdep 6 rfl) rfl rfl
      exact step_load rfl rfl rfl q6 (run_ldDisk _ _ _ (by have := blk_cell hW.2.2.2.1 0; simpa using this)) ⟨_, rfl, rfl, wsRS_same _ _ _ _ _ _ _ _ _  _ _ _ _ (by decide) hW, fun j u _ h => psiRS_same _ _ _ _ _ _ _ _ _  _ _ _ _ _ h⟩
    · obtain rfl : oRS8 p = o := Option.some.inj ho
      obtain rfl : 11 = d := Option.some.inj hd
      have q7 : a'.tmps.getD 10 undef = .pointer (some ⟨R, 0, none⟩) := hp 7 (oRS7 p) 10 (hdep 7 rfl) rfl rfl
      refine step_callQ rfl rfl rfl (enters_of Tryz.func21 (by kernel_rfl) rfl) (show Array.map a'.eval #[.tmp 10] = #[.pointer (some ⟨R, 0, none⟩)] from by simp only [List.map_toArray, List.map_cons, List.map_nil, Act.eval, q7]) ((P.bytes hW.2.2.1).mono ?_)
      rintro e w'' ⟨vv, n', rfl, ho, hb⟩
      obtain ⟨A', c', rfl⟩ := own_form ho
      obtain rfl := own_len ho
      exact ⟨_, rfl, _, rfl, ⟨A', c', rfl, own_cap ho, Data.of_own ho⟩, ⟨hW.1.trans (Below.mono hb hW.1.size), hW.2.1.trans (SameT.grew (T := []) hb) |>.sub (by simp [TR]), P.keep hW.2.2.1 (Only.of_grew (F := fun _ => False) hb) (fun _ _ => id), (hb.block B (Array.getElem?_eq_some_iff.1 hW.2.2.2.1).1).trans hW.2.2.2.1, (by
          have hO5 := hW.2.2.2.2.grew hb
          rw [show andI L 8 18 = L 18 from by simp [andI]]
          exact hO5)⟩, fun j u _ h => psiRS_keep _ _ _ _ _ _ _ _ _  h (SameT.grew (T := TR) hb)⟩
    · obtain rfl : oRS9 p = o := Option.some.inj ho
      obtain rfl : 12 = d := Option.some.inj hd
      exact step_move rfl rfl rfl (hF.at 0 rfl h0) ⟨_, rfl, rfl, wsRS_same _ _ _ _ _ _ _ _ _  _ _ _ _ (by decide) hW, fun j u _ h => psiRS_same _ _ _ _ _ _ _ _ _  _ _ _ _ _ h⟩
    · obtain rfl : oRS10 p = o := Option.some.inj ho
      obtain rfl : 13 = d := Option.some.inj hd
      have q9 : a'.tmps.getD 12 undef = .pointer (some ⟨O, 0, none⟩) := hp 9 (oRS9 p) 12 (hdep 9 rfl) rfl rfl
      exact step_nilCheckQ rfl rfl rfl q9 (trivial) ⟨_, rfl, rfl, wsRS_same _ _ _ _ _ _ _ _ _  _ _ _ _ (by decide) hW, fun j u _ h => psiRS_same _ _ _ _ _ _ _ _ _  _ _ _ _ _ h⟩
    · obtain rfl : oRS11 p = o := Option.some.inj ho
      obtain rfl : 14 = d := Option.some.inj hd
      have q10 : a'.tmps.getD 13 undef = .pointer (some ⟨O, 0, none⟩) := hp 10 (oRS10 p) 13 (hdep 10 rfl) rfl rfl
      exact step_fieldQ rfl rfl rfl q10 (run_opn0 _ _) ⟨_, rfl, rfl, wsRS_same _ _ _ _ _ _ _ _ _  _ _ _ _ (by decide) hW, fun j u _ h => psiRS_same _ _ _ _ _ _ _ _ _  _ _ _ _ _ h⟩
    · obtain rfl : oRS12 p = o := Option.some.inj ho
      obtain rfl : 15 = d := Option.some.inj hd
      have q11 : a'.tmps.getD 14 undef = .pointer (some ⟨O, 0, none⟩) := hp 11 (oRS11 p) 14 (hdep 11 rfl) rfl rfl
      exact step_load rfl rfl rfl q11 (run_ldLog _ _ _ (by obtain ⟨_, _, k1, _⟩ := hW.2.2.2.2; have := blk_cell k1 0; simpa using this)) ⟨_, rfl, rfl, wsRS_same _ _ _ _ _ _ _ _ _  _ _ _ _ (by decide) hW, fun j u _ h => psiRS_same _ _ _ _ _ _ _ _ _  _ _ _ _ _ h⟩
    · obtain rfl : oRS13 p = o := Option.some.inj ho
      obtain rfl : 16 = d := Option.some.inj hd
      have q12 : a'.tmps.getD 15 undef = .pointer (some ⟨B, 0, none⟩) := hp 12 (oRS12 p) 15 (hdep 12 rfl) rfl rfl
      exact step_nilCheckQ rfl rfl rfl q12 (trivial) ⟨_, rfl, rfl, wsRS_same _ _ _ _ _ _ _ _ _  _ _ _ _ (by decide) hW, fun j u _ h => psiRS_same _ _ _ _ _ _ _ _ _  _ _ _ _ _ h⟩
    · obtain rfl : oRS14 p = o := Option.some.inj ho
      obtain rfl : 17 = d := Option.some.inj hd
      have q13 : a'.tmps.getD 16 undef = .pointer (some ⟨B, 0, none⟩) := hp 13 (oRS13 p) 16 (hdep 13 rfl) rfl rfl
      exact step_fieldQ rfl rfl rfl q13 (run_log _ _) ⟨_, rfl, rfl, wsRS_same _ _ _ _ _ _ _ _ _  _ _ _ _ (by decide) hW, fun j u _ h => psiRS_same _ _ _ _ _ _ _ _ _  _ _ _ _ _ h⟩
    · obtain rfl : oRS15 p = o := Option.some.inj ho
      obtain rfl : 18 = d := Option.some.inj hd
      have q14 : a'.tmps.getD 17 undef = .pointer (some ⟨B, 0, none⟩) := hp 14 (oRS14 p) 17 (hdep 14 rfl) rfl rfl
      exact step_load rfl rfl rfl q14 (run_ldDisk _ _ _ (by have := blk_cell hW.2.2.2.1 0; simpa using this)) ⟨_, rfl, rfl, wsRS_same _ _ _ _ _ _ _ _ _  _ _ _ _ (by decide) hW, fun j u _ h => psiRS_same _ _ _ _ _ _ _ _ _  _ _ _ _ _ h⟩
    · obtain rfl : oRS16 p = o := Option.some.inj ho
      obtain rfl : 19 = d := Option.some.inj hd
      have q15 : a'.tmps.getD 18 undef = .pointer (some ⟨R, 0, none⟩) := hp 15 (oRS15 p) 18 (hdep 15 rfl) rfl rfl
      refine step_callQ rfl rfl rfl (enters_of Tryz.func22 (by kernel_rfl) rfl) (show Array.map a'.eval #[.tmp 18] = #[.pointer (some ⟨R, 0, none⟩)] from by simp only [List.map_toArray, List.map_cons, List.map_nil, Act.eval, q15]) ((P.synced hW.2.2.1).mono ?_)
      rintro e w'' ⟨rfl, hb⟩
      exact ⟨_, rfl, _, rfl, rfl, ⟨hW.1.trans (Below.mono hb hW.1.size), hW.2.1.trans (SameT.grew (T := []) hb) |>.sub (by simp [TR]), P.keep hW.2.2.1 (Only.of_grew (F := fun _ => False) hb) (fun _ _ => id), (hb.block B (Array.getElem?_eq_some_iff.1 hW.2.2.2.1).1).trans hW.2.2.2.1, (by
          have hO5 := hW.2.2.2.2.grew hb
          rw [show andI L 16 18 = L 18 from by simp [andI]]
          exact hO5)⟩, fun j u _ h => psiRS_keep _ _ _ _ _ _ _ _ _  h (SameT.grew (T := TR) hb)⟩
    · obtain rfl : oRS17 p = o := Option.some.inj ho
      obtain rfl : 20 = d := Option.some.inj hd
      have q8 : (fun v w => ∃ A c, v = .slice A s.A.length c ∧ s.A.length ≤ c ∧ Data w A s.A) (a'.tmps.getD 11 undef) w' := hp 8 (oRS8 p) 11 (hdep 8 rfl) rfl rfl
      have q16 : a'.tmps.getD 19 undef = .int .i64 (s.y : Int) := hp 16 (oRS16 p) 19 (hdep 16 rfl) rfl rfl
      obtain ⟨A, c, hv, hc, hd⟩ := q8
      exact step_upto rfl rfl rfl hv q16 (run_upto6 _ A s.A.length c s.y (by omega) (by omega)) ⟨_, rfl, ⟨A, c, by rw [List.length_take_of_le hy], by rw [List.length_take_of_le hy]; omega, Data.upto hd s.y⟩, wsRS_same _ _ _ _ _ _ _ _ _  _ _ _ _ (by decide) hW, fun j u _ h => psiRS_same _ _ _ _ _ _ _ _ _  _ _ _ _ _ h⟩
    · obtain rfl : oRS18 p = o := Option.some.inj ho
      obtain rfl : 21 = d := Option.some.inj hd
      have q0 : a'.tmps.getD 3 undef = .pointer (some ⟨O, 0, none⟩) := hp 0 (oRS0 p) 3 (hdep 0 rfl) rfl rfl
      have q17 : (fun v w => ∃ A c, v = .slice A (s.A.take s.y).length c ∧ (s.A.take s.y).length ≤ c ∧ Data w A (s.A.take s.y)) (a'.tmps.getD 20 undef) w' := hp 17 (oRS17 p) 20 (hdep 17 rfl) rfl rfl
      obtain ⟨A, c, hv, hc, hd⟩ := q17
      have hO5 := hW.2.2.2.2
      rw [if_neg (by rw [hLi]; simp), if_neg (by rw [hLi]; simp)] at hO5
      refine step_callQ rfl rfl rfl (enters_of Tryz.func88 (by kernel_rfl) rfl) (show Array.map a'.eval #[.tmp 3, .tmp 20] = #[.pointer (some ⟨O, 0, none⟩), .slice A (s.A.take s.y).length c] from by simp only [List.map_toArray, List.map_cons, List.map_nil, Act.eval, q0, hv]) ((l_read A (s.A.take s.y).length c (s.A.take s.y) (hT.below hT.1 hW.1) hO5 hO0 rfl hc (by simp only [List.length_take]; omega) hx (by omega) hd.has).mono ?_)
      rintro e w'' ⟨rfl, h5, hb, hs⟩
      refine ⟨_, rfl, _, rfl, rfl, ⟨hW.1.trans hb, (hW.2.1.trans hs).sub (by simp [TR]), P.keep hW.2.2.1 (Only.of_below hb) (fun k h => fun h' => absurd (hF0 k h) (Nat.not_lt.2 h')), hs _ _ _ (by decide) hW.2.2.2.1, ?_⟩, fun j u _ h => psiRS_keep _ _ _ _ _ _ _ _ _  h hs⟩
      rw [if_pos (andI_self _ _), if_pos (andI_self _ _)]
      exact h5
    · obtain rfl : oRS19 p = o := Option.some.inj ho
      obtain rfl : 22 = d := Option.some.inj hd
      have q18 : a'.tmps.getD 21 undef = .int .i64 ((al (s.A.take s.y)).2.2 : Int) := hp 18 (oRS18 p) 21 (hdep 18 rfl) rfl rfl
      exact step_bin rfl rfl rfl q18 rfl (guard_int _ _ _ _ _ _ _ _ _) (run_neqE _ _ _) ⟨_, rfl, rfl, wsRS_same _ _ _ _ _ _ _ _ _  _ _ _ _ (by decide) hW, fun j u _ h => psiRS_same _ _ _ _ _ _ _ _ _  _ _ _ _ _ h⟩
    · exact absurd ((Array.getElem?_eq_some_iff.1 ho).1) (by simp [opsRS])
  · intro L a' w' hLall hF hW hp
    have e0 : psiRS P w0 F O B R s xs m L 0 (a'.tmps.getD 3 undef) w' := hp 0 (oRS0 p) 3 rfl rfl
    have e1 : psiRS P w0 F O B R s xs m L 1 (a'.tmps.getD 4 undef) w' := hp 1 (oRS1 p) 4 rfl rfl
    have e2 : psiRS P w0 F O B R s xs m L 2 (a'.tmps.getD 5 undef) w' := hp 2 (oRS2 p) 5 rfl rfl
    have e3 : psiRS P w0 F O B R s xs m L 3 (a'.tmps.getD 6 undef) w' := hp 3 (oRS3 p) 6 rfl rfl
    have e4 : psiRS P w0 F O B R s xs m L 4 (a'.tmps.getD 7 undef) w' := hp 4 (oRS4 p) 7 rfl rfl
    have e5 : psiRS P w0 F O B R s xs m L 5 (a'.tmps.getD 8 undef) w' := hp 5 (oRS5 p) 8 rfl rfl
    have e6 : psiRS P w0 F O B R s xs m L 6 (a'.tmps.getD 9 undef) w' := hp 6 (oRS6 p) 9 rfl rfl
    have e7 : psiRS P w0 F O B R s xs m L 7 (a'.tmps.getD 10 undef) w' := hp 7 (oRS7 p) 10 rfl rfl
    have e8 : psiRS P w0 F O B R s xs m L 8 (a'.tmps.getD 11 undef) w' := hp 8 (oRS8 p) 11 rfl rfl
    have e9 : psiRS P w0 F O B R s xs m L 9 (a'.tmps.getD 12 undef) w' := hp 9 (oRS9 p) 12 rfl rfl
    have e10 : psiRS P w0 F O B R s xs m L 10 (a'.tmps.getD 13 undef) w' := hp 10 (oRS10 p) 13 rfl rfl
    have e11 : psiRS P w0 F O B R s xs m L 11 (a'.tmps.getD 14 undef) w' := hp 11 (oRS11 p) 14 rfl rfl
    have e12 : psiRS P w0 F O B R s xs m L 12 (a'.tmps.getD 15 undef) w' := hp 12 (oRS12 p) 15 rfl rfl
    have e13 : psiRS P w0 F O B R s xs m L 13 (a'.tmps.getD 16 undef) w' := hp 13 (oRS13 p) 16 rfl rfl
    have e14 : psiRS P w0 F O B R s xs m L 14 (a'.tmps.getD 17 undef) w' := hp 14 (oRS14 p) 17 rfl rfl
    have e15 : psiRS P w0 F O B R s xs m L 15 (a'.tmps.getD 18 undef) w' := hp 15 (oRS15 p) 18 rfl rfl
    have e16 : psiRS P w0 F O B R s xs m L 16 (a'.tmps.getD 19 undef) w' := hp 16 (oRS16 p) 19 rfl rfl
    have e17 : psiRS P w0 F O B R s xs m L 17 (a'.tmps.getD 20 undef) w' := hp 17 (oRS17 p) 20 rfl rfl
    have e18 : psiRS P w0 F O B R s xs m L 18 (a'.tmps.getD 21 undef) w' := hp 18 (oRS18 p) 21 rfl rfl
    have e19 : psiRS P w0 F O B R s xs m L 19 (a'.tmps.getD 22 undef) w' := hp 19 (oRS19 p) 22 rfl rfl
    rw [hF.puts [(3, .pointer (some ⟨O, 0, none⟩)), (4, .pointer (some ⟨O, 0, none⟩)), (5, .pointer (some ⟨O, 0, none⟩)), (6, .pointer (some ⟨O, 0, none⟩)), (7, .pointer (some ⟨B, 0, none⟩)), (8, .pointer (some ⟨B, 0, none⟩)), (9, .pointer (some ⟨B, 0, none⟩)), (10, .pointer (some ⟨R, 0, none⟩)), (11, a'.tmps.getD 11 undef), (12, .pointer (some ⟨O, 0, none⟩)), (13, .pointer (some ⟨O, 0, none⟩)), (14, .pointer (some ⟨O, 0, none⟩)), (15, .pointer (some ⟨B, 0, none⟩)), (16, .pointer (some ⟨B, 0, none⟩)), (17, .pointer (some ⟨B, 0, none⟩)), (18, .pointer (some ⟨R, 0, none⟩)), (19, .int .i64 (s.y : Int)), (20, a'.tmps.getD 20 undef), (21, .int .i64 ((al (s.A.take s.y)).2.2 : Int)), (22, .bool ((((al (s.A.take s.y)).2.2 : Nat) : Int) != 0))] ?_ rfl (by rw [hN]; rfl)]
    · exact hQ _ _ w' trivial trivial (by have h5 := hW.2.2.2.2; rw [if_pos (hLall 18 (by simp [opsRS])), if_pos (hLall 18 (by simp [opsRS]))] at h5; exact ⟨hW.1, hW.2.1, hW.2.2.1, hW.2.2.2.1, h5⟩)
    · intro x hx
      simp only [List.mem_cons, List.not_mem_nil, or_false] at hx
      rcases hx with rfl | rfl | rfl | rfl | rfl | rfl | rfl | rfl | rfl | rfl | rfl | rfl | rfl | rfl | rfl | rfl | rfl | rfl | rfl | rfl
      · exact e0
      · exact e1
      · exact e2
      · exact e3
      · exact e4
      · exact e5
      · exact e6
      · exact e7
      · exact rfl
      · exact e9
      · exact e10
      · exact e11
      · exact e12
      · exact e13
      · exact e14
      · exact e15
      · exact e16
      · exact rfl
      · exact e18
      · exact e19
def oRR0 (p : String) : Oper := { dst := some 3, op := Op.move (Operand.tmp 0), type := 118, pos := p, after := #[], guard := none }
def oRR1 (p : String) : Oper := { dst := some 4, op := Op.move (Operand.tmp 0), type := 118, pos := p, after := #[], guard := none }
def oRR2 (p : String) : Oper := { dst := some 5, op := Op.nilCheck (Operand.tmp 4), type := 0, pos := p, after := #[{ on := 1, ground := Ground.data }], guard := none }
def oRR3 (p : String) : Oper := { dst := some 6, op := Op.fieldAddr 122 (Operand.tmp 5) 0, type := 0, pos := p, after := #[{ on := 2, ground := Ground.data }], guard := none }
def oRR4 (p : String) : Oper := { dst := some 7, op := Op.load 84 (Operand.tmp 6), type := 84, pos := p, after := #[{ on := 3, ground := Ground.data }], guard := none }
def oRR5 (p : String) : Oper := { dst := some 8, op := Op.nilCheck (Operand.tmp 7), type := 0, pos := p, after := #[{ on := 4, ground := Ground.data }], guard := none }
def oRR6 (p : String) : Oper := { dst := some 9, op := Op.fieldAddr 120 (Operand.tmp 8) 0, type := 0, pos := p, after := #[{ on := 5, ground := Ground.data }], guard := none }
def oRR7 (p : String) : Oper := { dst := some 10, op := Op.load 29 (Operand.tmp 9), type := 29, pos := p, after := #[{ on := 6, ground := Ground.data }], guard := none }
def oRR8 (p : String) : Oper := { dst := some 11, op := Op.call { callee := Callee.value (Operand.func 21), args := #[Operand.tmp 10], argTypes := #[29] }, type := 39, pos := p, after := #[{ on := 7, ground := Ground.data }], guard := none }
def oRR9 (p : String) : Oper := { dst := some 12, op := Op.move (Operand.tmp 0), type := 118, pos := p, after := #[], guard := none }
def oRR10 (p : String) : Oper := { dst := some 13, op := Op.nilCheck (Operand.tmp 12), type := 0, pos := p, after := #[{ on := 9, ground := Ground.data }], guard := none }
def oRR11 (p : String) : Oper := { dst := some 14, op := Op.fieldAddr 122 (Operand.tmp 13) 2, type := 0, pos := p, after := #[{ on := 10, ground := Ground.data }], guard := none }
def oRR12 (p : String) : Oper := { dst := some 15, op := Op.load 3 (Operand.tmp 14), type := 3, pos := p, after := #[{ on := 11, ground := Ground.data }], guard := none }
def oRR13 (p : String) : Oper := { dst := some 16, op := Op.slice 39 (Operand.tmp 11) (some (Operand.tmp 15)) none none, type := 39, pos := p, after := #[{ on := 8, ground := Ground.data }, { on := 12, ground := Ground.data }], guard := none }
def oRR14 (p : String) : Oper := { dst := some 17, op := Op.call { callee := Callee.value (Operand.func 88), args := #[Operand.tmp 3, Operand.tmp 16], argTypes := #[118, 39] }, type := 43, pos := p, after := #[{ on := 0, ground := Ground.data }, { on := 13, ground := Ground.data }, { on := 8, ground := Ground.chain }], guard := none }
def opsRR (p : String) : List Oper := [oRR0 p, oRR1 p, oRR2 p, oRR3 p, oRR4 p, oRR5 p, oRR6 p, oRR7 p, oRR8 p, oRR9 p, oRR10 p, oRR11 p, oRR12 p, oRR13 p, oRR14 p]
theorem opsRR_back (p : String) : backwards (opsRR p) = true := by kernel_rfl
theorem opsRR_slots (p : String) : slotsOk 18 (opsRR p) = true := by kernel_rfl
/-- What each slot comes to. -/
def psiRR (_P : DiskK) (_w0 : World) (_F : Nat → Prop) (O B R : Nat) (s : DS) (_xs : List (List UInt8)) (m : Nat) (_L : Nat → Bool) : Nat → Value → World → Prop
  | 0, v, _ => v = .pointer (some ⟨O, 0, none⟩)
  | 1, v, _ => v = .pointer (some ⟨O, 0, none⟩)
  | 2, v, _ => v = .pointer (some ⟨O, 0, none⟩)
  | 3, v, _ => v = .pointer (some ⟨O, 0, none⟩)
  | 4, v, _ => v = .pointer (some ⟨B, 0, none⟩)
  | 5, v, _ => v = .pointer (some ⟨B, 0, none⟩)
  | 6, v, _ => v = .pointer (some ⟨B, 0, none⟩)
  | 7, v, _ => v = .pointer (some ⟨R, 0, none⟩)
  | 8, v, w => ∃ A c, v = .slice A s.A.length c ∧ s.A.length ≤ c ∧ Data w A s.A
  | 9, v, _ => v = .pointer (some ⟨O, 0, none⟩)
  | 10, v, _ => v = .pointer (some ⟨O, 0, none⟩)
  | 11, v, _ => v = .pointer (some ⟨O, 2, none⟩)
  | 12, v, _ => v = .int .i64 (m : Int)
  | 13, v, w => ∃ A c, v = .slice A (s.A.drop m).length c ∧ (s.A.drop m).length ≤ c ∧ Data w A (s.A.drop m)
  | 14, v, _ => v = .int .i64 ((al (s.A.drop m)).2.2 : Int)
  | _, _, _ => True
def wsRR (P : DiskK) (w0 : World) (F : Nat → Prop) (O B R : Nat) (s : DS) (xs : List (List UInt8)) (m : Nat) (W0 : World) (L : Nat → Bool) (w : World) : Prop := Below w0.heap.size w0 w ∧ SameT TR W0 w ∧ P.Pl F w R s ∧ w.heap[B]? = some (.cells #[.pointer (some ⟨R, 0, none⟩)] 120 (0, 0)) ∧ OS w0.heap.size O B (if L 14 = true then xs ++ (al (s.A.drop m)).1 else xs) (if L 14 = true then m + (al (s.A.drop m)).2.1 else m) w
theorem psiRR_same (P : DiskK) (w0 : World) (F : Nat → Prop) (O B R : Nat) (s : DS) (xs : List (List UInt8)) (m : Nat) : ∀ (L : Nat → Bool) (i j : Nat) (u : Value) (w : World), psiRR P w0 F O B R s xs m L j u w → psiRR P w0 F O B R s xs m (andI L i) j u w := by
  intro L i j u w h
  rcases j with _ | _ | _ | _ | _ | _ | _ | _ | _ | _ | _ | _ | _ | _ | _ | j
  · exact h
  · exact h
  · exact h
  · exact h
  · exact h
  · exact h
  · exact h
  · exact h
  · exact h
  · exact h
  · exact h
  · exact h
  · exact h
  · exact h
  · exact h
  · trivial
theorem wsRR_same (P : DiskK) (w0 : World) (F : Nat → Prop) (O B R : Nat) (s : DS) (xs : List (List UInt8)) (m : Nat) : ∀ (W0 : World) (L : Nat → Bool) (i : Nat) (w : World), i ≠ 14 → wsRR P w0 F O B R s xs m W0 L w → wsRR P w0 F O B R s xs m W0 (andI L i) w := by
  intro W0 L i w n14 h
  have e : ∀ k, k ≠ i → andI L i k = L k := fun k hk => by simp [andI, hk]
  unfold wsRR at h ⊢
  rw [e 14 (Ne.symm n14)]
  exact h
theorem psiRR_keep (P : DiskK) (w0 : World) (F : Nat → Prop) (O B R : Nat) (s : DS) (xs : List (List UInt8)) (m : Nat) {L L' : Nat → Bool} {j : Nat} {u : Value} {W W' : World} (h : psiRR P w0 F O B R s xs m L j u W) (hs : SameT TR W W') : psiRR P w0 F O B R s xs m L' j u W' := by
  rcases j with _ | _ | _ | _ | _ | _ | _ | _ | _ | _ | _ | _ | _ | _ | _ | j
  all_goals first | exact h | trivial | (obtain ⟨A, c, h1, h2, h3⟩ := h; exact ⟨A, c, h1, h2, hs.data h3 (by decide)⟩)
/-- What comes behind all is not yet done where what is ahead of it is not. -/
theorem notclRR {p : String} {L : Nat → Bool} (hcl : ∀ j o', (opsRR p).toArray[j]? = some o' → L j = true → ∀ k, hasEdge o' k = true → L k = true) (h : L 12 = false) : L 14 = false := by
  cases h14 : L 14 with
  | false => rfl
  | true =>
    have h13 := hcl 14 (oRR14 p) rfl h14 13 (by rfl)
    have h12 := hcl 13 (oRR13 p) rfl h13 12 (by rfl)
    rw [h] at h12
    cases h12
set_option maxRecDepth 100000 in
set_option maxHeartbeats 4000000 in
theorem rest_region {p : String} (P : DiskK) (w0 : World) (F : Nat → Prop) (O B R : Nat) (s : DS) (xs : List (List UInt8)) (m : Nat) (hT : Tab w0) (hO0 : w0.heap.size ≤ O) (hF0 : ∀ k, F k → k < w0.heap.size) (_hy : s.y ≤ s.A.length) (hl : s.A.length ≤ 100000) (hx : xs.length ≤ 200000) (hm : m ≤ s.A.length) (a : Act) (w : World) (Q : Exit → Act → World → Prop) (hN : a.tmps.size = 18) (h0 : a.tmps.getD 0 undef = .pointer (some ⟨O, 0, none⟩)) (hb0 : Below w0.heap.size w0 w) (hp : P.Pl F w R s) (hlog : w.heap[B]? = some (.cells #[.pointer (some ⟨R, 0, none⟩)] 120 (0, 0))) (hopn : OS w0.heap.size O B xs m w) (hQ : ∀ (v11 : Value), ∀ (v16 : Value), ∀ (w' : World), True → True → (Below w0.heap.size w0 w' ∧ SameT TR w w' ∧ P.Pl F w' R s ∧ w'.heap[B]? = some (.cells #[.pointer (some ⟨R, 0, none⟩)] 120 (0, 0)) ∧ OS w0.heap.size O B (xs ++ (al (s.A.drop m)).1) (m + (al (s.A.drop m)).2.1) w') → Q .normal (puts [(3, .pointer (some ⟨O, 0, none⟩)), (4, .pointer (some ⟨O, 0, none⟩)), (5, .pointer (some ⟨O, 0, none⟩)), (6, .pointer (some ⟨O, 0, none⟩)), (7, .pointer (some ⟨B, 0, none⟩)), (8, .pointer (some ⟨B, 0, none⟩)), (9, .pointer (some ⟨B, 0, none⟩)), (10, .pointer (some ⟨R, 0, none⟩)), (11, v11), (12, .pointer (some ⟨O, 0, none⟩)), (13, .pointer (some ⟨O, 0, none⟩)), (14, .pointer (some ⟨O, 2, none⟩)), (15, .int .i64 (m : Int)), (16, v16), (17, .int .i64 ((al (s.A.drop m)).2.2 : Int))] a) w')
    : (Code.region 1 (opsRR p).toArray true).wp Tryz.prog Q a w := by
  refine (wpIn_wide (n := 1)).1 (wpIn_region_st 18 hN follows (opsRR_back p) (opsRR_slots p) (wsRR P w0 F O B R s xs m w) (psiRR P w0 F O B R s xs m) (⟨hb0.drew, SameT.drew w, P.keep hp (Only.drew (Only.refl (fun _ => False) w)) (fun _ _ => id), hlog, by rw [if_neg (by simp), if_neg (by simp)]; exact hopn.keep (T := []) (SameT.drew w) (by simp) (by simp) (by simp)⟩) ?_ ?_)
  · intro L i o d a' w' ho hd hLi hdep hcl hF hW hp
    rcases i with _ | _ | _ | _ | _ | _ | _ | _ | _ | _ | _ | _ | _ | _ | _ | i
    · obtain rfl : oRR0 p = o := Option.some.inj ho
      obtain rfl : 3 = d := Option.some.inj hd
      exact step_move rfl rfl rfl (hF.at 0 rfl h0) ⟨_, rfl, rfl, wsRR_same _ _ _ _ _ _ _ _ _  _ _ _ _ (by decide) hW, fun j u _ h => psiRR_same _ _ _ _ _ _ _ _ _  _ _ _ _ _ h⟩
    · obtain rfl : oRR1 p = o := Option.some.inj ho
      obtain rfl : 4 = d := Option.some.inj hd
      exact step_move rfl rfl rfl (hF.at 0 rfl h0) ⟨_, rfl, rfl, wsRR_same _ _ _ _ _ _ _ _ _  _ _ _ _ (by decide) hW, fun j u _ h => psiRR_same _ _ _ _ _ _ _ _ _  _ _ _ _ _ h⟩
    · obtain rfl : oRR2 p = o := Option.some.inj ho
      obtain rfl : 5 = d := Option.some.inj hd
      have q1 : a'.tmps.getD 4 undef = .pointer (some ⟨O, 0, none⟩) := hp 1 (oRR1 p) 4 (hdep 1 rfl) rfl rfl
      exact step_nilCheckQ rfl rfl rfl q1 (trivial) ⟨_, rfl, rfl, wsRR_same _ _ _ _ _ _ _ _ _  _ _ _ _ (by decide) hW, fun j u _ h => psiRR_same _ _ _ _ _ _ _ _ _  _ _ _ _ _ h⟩
    · obtain rfl : oRR3 p = o := Option.some.inj ho
      obtain rfl : 6 = d := Option.some.inj hd
      have q2 : a'.tmps.getD 5 undef = .pointer (some ⟨O, 0, none⟩) := hp 2 (oRR2 p) 5 (hdep 2 rfl) rfl rfl
      exact step_fieldQ rfl rfl rfl q2 (run_opn0 _ _) ⟨_, rfl, rfl, wsRR_same _ _ _ _ _ _ _ _ _  _ _ _ _ (by decide) hW, fun j u _ h => psiRR_same _ _ _ _ _ _ _ _ _  _ _ _ _ _ h⟩
    · obtain rfl : oRR4 p = o := Option.some.inj ho
      obtain rfl : 7 = d := Option.some.inj hd
      have q3 : a'.tmps.getD 6 undef = .pointer (some ⟨O, 0, none⟩) := hp 3 (oRR3 p) 6 (hdep 3 rfl) rfl rfl
      exact step_load rfl rfl rfl q3 (run_ldLog _ _ _ (by obtain ⟨_, _, k1, _⟩ := hW.2.2.2.2; have := blk_cell k1 0; simpa using this)) ⟨_, rfl, rfl, wsRR_same _ _ _ _ _ _ _ _ _  _ _ _ _ (by decide) hW, fun j u _ h => psiRR_same _ _ _ _ _ _ _ _ _  _ _ _ _ _ h⟩
    · obtain rfl : oRR5 p = o := Option.some.inj ho
      obtain rfl : 8 = d := Option.some.inj hd
      have q4 : a'.tmps.getD 7 undef = .pointer (some ⟨B, 0, none⟩) := hp 4 (oRR4 p) 7 (hdep 4 rfl) rfl rfl
      exact step_nilCheckQ rfl rfl rfl q4 (trivial) ⟨_, rfl, rfl, wsRR_same _ _ _ _ _ _ _ _ _  _ _ _ _ (by decide) hW, fun j u _ h => psiRR_same _ _ _ _ _ _ _ _ _  _ _ _ _ _ h⟩
    · obtain rfl : oRR6 p = o := Option.some.inj ho
      obtain rfl : 9 = d := Option.some.inj hd
      have q5 : a'.tmps.getD 8 undef = .pointer (some ⟨B, 0, none⟩) := hp 5 (oRR5 p) 8 (hdep 5 rfl) rfl rfl
      exact step_fieldQ rfl rfl rfl q5 (run_log _ _) ⟨_, rfl, rfl, wsRR_same _ _ _ _ _ _ _ _ _  _ _ _ _ (by decide) hW, fun j u _ h => psiRR_same _ _ _ _ _ _ _ _ _  _ _ _ _ _ h⟩
    · obtain rfl : oRR7 p = o := Option.some.inj ho
      obtain rfl : 10 = d := Option.some.inj hd
      have q6 : a'.tmps.getD 9 undef = .pointer (some ⟨B, 0, none⟩) := hp 6 (oRR6 p) 9 (hdep 6 rfl) rfl rfl
      exact step_load rfl rfl rfl q6 (run_ldDisk _ _ _ (by have := blk_cell hW.2.2.2.1 0; simpa using this)) ⟨_, rfl, rfl, wsRR_same _ _ _ _ _ _ _ _ _  _ _ _ _ (by decide) hW, fun j u _ h => psiRR_same _ _ _ _ _ _ _ _ _  _ _ _ _ _ h⟩
    · obtain rfl : oRR8 p = o := Option.some.inj ho
      obtain rfl : 11 = d := Option.some.inj hd
      have q7 : a'.tmps.getD 10 undef = .pointer (some ⟨R, 0, none⟩) := hp 7 (oRR7 p) 10 (hdep 7 rfl) rfl rfl
      refine step_callQ rfl rfl rfl (enters_of Tryz.func21 (by kernel_rfl) rfl) (show Array.map a'.eval #[.tmp 10] = #[.pointer (some ⟨R, 0, none⟩)] from by simp only [List.map_toArray, List.map_cons, List.map_nil, Act.eval, q7]) ((P.bytes hW.2.2.1).mono ?_)
      rintro e w'' ⟨vv, n', rfl, ho, hb⟩
      obtain ⟨A', c', rfl⟩ := own_form ho
      obtain rfl := own_len ho
      exact ⟨_, rfl, _, rfl, ⟨A', c', rfl, own_cap ho, Data.of_own ho⟩, ⟨hW.1.trans (Below.mono hb hW.1.size), hW.2.1.trans (SameT.grew (T := []) hb) |>.sub (by simp [TR]), P.keep hW.2.2.1 (Only.of_grew (F := fun _ => False) hb) (fun _ _ => id), (hb.block B (Array.getElem?_eq_some_iff.1 hW.2.2.2.1).1).trans hW.2.2.2.1, (by
          have hO5 := hW.2.2.2.2.grew hb
          rw [show andI L 8 14 = L 14 from by simp [andI]]
          exact hO5)⟩, fun j u _ h => psiRR_keep _ _ _ _ _ _ _ _ _  h (SameT.grew (T := TR) hb)⟩
    · obtain rfl : oRR9 p = o := Option.some.inj ho
      obtain rfl : 12 = d := Option.some.inj hd
      exact step_move rfl rfl rfl (hF.at 0 rfl h0) ⟨_, rfl, rfl, wsRR_same _ _ _ _ _ _ _ _ _  _ _ _ _ (by decide) hW, fun j u _ h => psiRR_same _ _ _ _ _ _ _ _ _  _ _ _ _ _ h⟩
    · obtain rfl : oRR10 p = o := Option.some.inj ho
      obtain rfl : 13 = d := Option.some.inj hd
      have q9 : a'.tmps.getD 12 undef = .pointer (some ⟨O, 0, none⟩) := hp 9 (oRR9 p) 12 (hdep 9 rfl) rfl rfl
      exact step_nilCheckQ rfl rfl rfl q9 (trivial) ⟨_, rfl, rfl, wsRR_same _ _ _ _ _ _ _ _ _  _ _ _ _ (by decide) hW, fun j u _ h => psiRR_same _ _ _ _ _ _ _ _ _  _ _ _ _ _ h⟩
    · obtain rfl : oRR11 p = o := Option.some.inj ho
      obtain rfl : 14 = d := Option.some.inj hd
      have q10 : a'.tmps.getD 13 undef = .pointer (some ⟨O, 0, none⟩) := hp 10 (oRR10 p) 13 (hdep 10 rfl) rfl rfl
      exact step_fieldQ rfl rfl rfl q10 (run_opn2 _ _) ⟨_, rfl, rfl, wsRR_same _ _ _ _ _ _ _ _ _  _ _ _ _ (by decide) hW, fun j u _ h => psiRR_same _ _ _ _ _ _ _ _ _  _ _ _ _ _ h⟩
    · obtain rfl : oRR12 p = o := Option.some.inj ho
      obtain rfl : 15 = d := Option.some.inj hd
      have q11 : a'.tmps.getD 14 undef = .pointer (some ⟨O, 2, none⟩) := hp 11 (oRR11 p) 14 (hdep 11 rfl) rfl rfl
      exact step_load rfl rfl rfl q11 (run_ldN _ _ _ (by have hc := notclRR hcl hLi; obtain ⟨_, _, k1, _⟩ := hW.2.2.2.2; rw [if_neg (by rw [hc]; simp)] at k1; have := blk_cell k1 2; simpa using this)) ⟨_, rfl, rfl, wsRR_same _ _ _ _ _ _ _ _ _  _ _ _ _ (by decide) hW, fun j u _ h => psiRR_same _ _ _ _ _ _ _ _ _  _ _ _ _ _ h⟩
    · obtain rfl : oRR13 p = o := Option.some.inj ho
      obtain rfl : 16 = d := Option.some.inj hd
      have q8 : (fun v w => ∃ A c, v = .slice A s.A.length c ∧ s.A.length ≤ c ∧ Data w A s.A) (a'.tmps.getD 11 undef) w' := hp 8 (oRR8 p) 11 (hdep 8 rfl) rfl rfl
      have q12 : a'.tmps.getD 15 undef = .int .i64 (m : Int) := hp 12 (oRR12 p) 15 (hdep 12 rfl) rfl rfl
      obtain ⟨A, c, hv, hc, hd⟩ := q8
      obtain ⟨A', hfr, hA'⟩ := run_from6 w' A s.A.length c m hm hc (by omega)
      exact step_from rfl rfl rfl hv q12 (hfr _) ⟨_, rfl, ⟨A', c - m, by rw [List.length_drop], by rw [List.length_drop]; omega, hd.after hA'⟩, wsRR_same _ _ _ _ _ _ _ _ _  _ _ _ _ (by decide) hW, fun j u _ h => psiRR_same _ _ _ _ _ _ _ _ _  _ _ _ _ _ h⟩
    · obtain rfl : oRR14 p = o := Option.some.inj ho
      obtain rfl : 17 = d := Option.some.inj hd
      have q0 : a'.tmps.getD 3 undef = .pointer (some ⟨O, 0, none⟩) := hp 0 (oRR0 p) 3 (hdep 0 rfl) rfl rfl
      have q13 : (fun v w => ∃ A c, v = .slice A (s.A.drop m).length c ∧ (s.A.drop m).length ≤ c ∧ Data w A (s.A.drop m)) (a'.tmps.getD 16 undef) w' := hp 13 (oRR13 p) 16 (hdep 13 rfl) rfl rfl
      obtain ⟨A, c, hv, hc, hd⟩ := q13
      have hO5 := hW.2.2.2.2
      rw [if_neg (by rw [hLi]; simp), if_neg (by rw [hLi]; simp)] at hO5
      refine step_callQ rfl rfl rfl (enters_of Tryz.func88 (by kernel_rfl) rfl) (show Array.map a'.eval #[.tmp 3, .tmp 16] = #[.pointer (some ⟨O, 0, none⟩), .slice A (s.A.drop m).length c] from by simp only [List.map_toArray, List.map_cons, List.map_nil, Act.eval, q0, hv]) ((l_read A (s.A.drop m).length c (s.A.drop m) (hT.below hT.1 hW.1) hO5 hO0 rfl hc (by simp only [List.length_drop]; omega) hx (by omega) hd.has).mono ?_)
      rintro e w'' ⟨rfl, h5, hb, hs⟩
      refine ⟨_, rfl, _, rfl, rfl, ⟨hW.1.trans hb, (hW.2.1.trans hs).sub (by simp [TR]), P.keep hW.2.2.1 (Only.of_below hb) (fun k h => fun h' => absurd (hF0 k h) (Nat.not_lt.2 h')), hs _ _ _ (by decide) hW.2.2.2.1, ?_⟩, fun j u _ h => psiRR_keep _ _ _ _ _ _ _ _ _  h hs⟩
      rw [if_pos (andI_self _ _), if_pos (andI_self _ _)]
      exact h5
    · exact absurd ((Array.getElem?_eq_some_iff.1 ho).1) (by simp [opsRR])
  · intro L a' w' hLall hF hW hp
    have e0 : psiRR P w0 F O B R s xs m L 0 (a'.tmps.getD 3 undef) w' := hp 0 (oRR0 p) 3 rfl rfl
    have e1 : psiRR P w0 F O B R s xs m L 1 (a'.tmps.getD 4 undef) w' := hp 1 (oRR1 p) 4 rfl rfl
    have e2 : psiRR P w0 F O B R s xs m L 2 (a'.tmps.getD 5 undef) w' := hp 2 (oRR2 p) 5 rfl rfl
    have e3 : psiRR P w0 F O B R s xs m L 3 (a'.tmps.getD 6 undef) w' := hp 3 (oRR3 p) 6 rfl rfl
    have e4 : psiRR P w0 F O B R s xs m L 4 (a'.tmps.getD 7 undef) w' := hp 4 (oRR4 p) 7 rfl rfl
    have e5 : psiRR P w0 F O B R s xs m L 5 (a'.tmps.getD 8 undef) w' := hp 5 (oRR5 p) 8 rfl rfl
    have e6 : psiRR P w0 F O B R s xs m L 6 (a'.tmps.getD 9 undef) w' := hp 6 (oRR6 p) 9 rfl rfl
    have e7 : psiRR P w0 F O B R s xs m L 7 (a'.tmps.getD 10 undef) w' := hp 7 (oRR7 p) 10 rfl rfl
    have e8 : psiRR P w0 F O B R s xs m L 8 (a'.tmps.getD 11 undef) w' := hp 8 (oRR8 p) 11 rfl rfl
    have e9 : psiRR P w0 F O B R s xs m L 9 (a'.tmps.getD 12 undef) w' := hp 9 (oRR9 p) 12 rfl rfl
    have e10 : psiRR P w0 F O B R s xs m L 10 (a'.tmps.getD 13 undef) w' := hp 10 (oRR10 p) 13 rfl rfl
    have e11 : psiRR P w0 F O B R s xs m L 11 (a'.tmps.getD 14 undef) w' := hp 11 (oRR11 p) 14 rfl rfl
    have e12 : psiRR P w0 F O B R s xs m L 12 (a'.tmps.getD 15 undef) w' := hp 12 (oRR12 p) 15 rfl rfl
    have e13 : psiRR P w0 F O B R s xs m L 13 (a'.tmps.getD 16 undef) w' := hp 13 (oRR13 p) 16 rfl rfl
    have e14 : psiRR P w0 F O B R s xs m L 14 (a'.tmps.getD 17 undef) w' := hp 14 (oRR14 p) 17 rfl rfl
    rw [hF.puts [(3, .pointer (some ⟨O, 0, none⟩)), (4, .pointer (some ⟨O, 0, none⟩)), (5, .pointer (some ⟨O, 0, none⟩)), (6, .pointer (some ⟨O, 0, none⟩)), (7, .pointer (some ⟨B, 0, none⟩)), (8, .pointer (some ⟨B, 0, none⟩)), (9, .pointer (some ⟨B, 0, none⟩)), (10, .pointer (some ⟨R, 0, none⟩)), (11, a'.tmps.getD 11 undef), (12, .pointer (some ⟨O, 0, none⟩)), (13, .pointer (some ⟨O, 0, none⟩)), (14, .pointer (some ⟨O, 2, none⟩)), (15, .int .i64 (m : Int)), (16, a'.tmps.getD 16 undef), (17, .int .i64 ((al (s.A.drop m)).2.2 : Int))] ?_ rfl (by rw [hN]; rfl)]
    · exact hQ _ _ w' trivial trivial (by have h5 := hW.2.2.2.2; rw [if_pos (hLall 14 (by simp [opsRR])), if_pos (hLall 14 (by simp [opsRR]))] at h5; exact ⟨hW.1, hW.2.1, hW.2.2.1, hW.2.2.2.1, h5⟩)
    · intro x hx
      simp only [List.mem_cons, List.not_mem_nil, or_false] at hx
      rcases hx with rfl | rfl | rfl | rfl | rfl | rfl | rfl | rfl | rfl | rfl | rfl | rfl | rfl | rfl | rfl
      · exact e0
      · exact e1
      · exact e2
      · exact e3
      · exact e4
      · exact e5
      · exact e6
      · exact e7
      · exact rfl
      · exact e9
      · exact e10
      · exact e11
      · exact e12
      · exact rfl
      · exact e14
end Go.Proofs.YtdiihaeelcbjbaaGreatDoor

-- RqD
namespace Go.Proofs.YtdiihaeelcbjbaaGreatDoor
open Go.RowKit

section
variable {P : DiskK} {F : Nat → Prop} {w0 w : World} {O B R : Nat} {s : DS}

set_option maxRecDepth 100000 in
set_option maxHeartbeats 4000000 in
theorem l_cutRest {v : Value} {n : Nat} (hp : P.Pl F w R s) (hlog : w.heap[B]? = some (.cells #[.pointer (some ⟨R, 0, none⟩)] 120 (0, 0)))
    (hopn : w.heap[O]? = some (.cells #[.pointer (some ⟨B, 0, none⟩), v, .int .i64 (n : Int)] 122 (0, 0))) (hn : InI5 (n : Int)) (hOF : ¬ F O) (hBF : ¬ F B) :
    Calls Tryz.prog 68 #[.pointer (some ⟨O, 0, none⟩)] w fun e W' => e = .returned (.int .i64 ((s.cut (n : Int)).2 : Int)) ∧ ∃ F', P.Pl F' W' R (s.cut (n : Int)).1 ∧ Only F w W' ∧ ∀ k, F' k → F k ∨ w.heap.size ≤ k := by
  have HP := Lib.hid hp
  have HL := Lib.hid hlog
  have HO := Lib.hid hopn
  clear hp hlog hopn
  obtain ⟨r, hr⟩ : ∃ r, r = (s.cut (n : Int)).2 := ⟨_, rfl⟩
  go_enter Tryz.func68, Tryz.ntmps68
  go_wp2
  refine cut_region P F O B R s v n hn hOF hBF _ _ _ rfl rfl HP.out HL.out HO.out (Array.getElem?_eq_some_iff.1 HL.out).1 (Array.getElem?_eq_some_iff.1 HO.out).1 ?_
  rintro W1 hq
  have HQ := Lib.hid hq
  have HR := Lib.hid hr
  rw [← hr]
  clear hq hr
  simp only [puts, List.foldl_cons, List.foldl_nil, Act.put, List.setIfInBounds_toArray, List.set_cons_succ, List.set_cons_zero]
  go_wp2
  go_ret
  rw [← HR.out]
  exact ⟨rfl, HQ.out⟩

set_option maxRecDepth 100000 in
set_option maxHeartbeats 4000000 in
/-- What is synced is read: an error there is the log's. -/
theorem l_readSynced (hT : Tab w0) (hb0 : Below w0.heap.size w0 w) (hp : P.Pl F w R s) (hlog : w.heap[B]? = some (.cells #[.pointer (some ⟨R, 0, none⟩)] 120 (0, 0)))
    (hopn : OS w0.heap.size O B [] 0 w) (hO0 : w0.heap.size ≤ O) (hF0 : ∀ k, F k → k < w0.heap.size) (hl : s.A.length ≤ 100000) :
    Calls Tryz.prog 66 #[.pointer (some ⟨O, 0, none⟩)] w fun e W' => (((al (s.A.take s.y)).2.2 = 0 ∧ e = .returned (.int .i64 0)) ∨ ((al (s.A.take s.y)).2.2 ≠ 0 ∧ e = .returned (.int .i64 22))) ∧
      Below w0.heap.size w0 W' ∧ SameT TR w W' ∧ P.Pl F W' R s ∧ OS w0.heap.size O B (al (s.A.take s.y)).1 (al (s.A.take s.y)).2.1 W' := by
  have HY := Lib.hid (P.sy hp)
  have HP := Lib.hid hp
  have HL := Lib.hid hlog
  have HO := Lib.hid hopn
  have HB := Lib.hid hb0
  have HT := Lib.hid hT
  clear hp hlog hopn hb0 hT
  go_enter Tryz.func66, Tryz.ntmps66
  go_wp2
  refine synced_region P w0 F O B R s [] 0 HT.out hO0 hF0 HY.out hl (by simp) (by omega) _ _ _ rfl rfl HB.out HP.out HL.out HO.out ?_
  rintro v1 v2 W1 - - ⟨k1, k2, k3, k4, k5⟩
  rw [List.nil_append, Nat.zero_add] at k5
  have HQ := Lib.hid (And.intro k1 (And.intro k2 (And.intro k3 k5)))
  clear k1 k2 k3 k4 k5
  obtain ⟨r, hr⟩ : ∃ r, r = (al (s.A.take s.y)).2.2 := ⟨_, rfl⟩
  simp only [puts, List.foldl_cons, List.foldl_nil, Act.put, List.setIfInBounds_toArray, List.set_cons_succ, List.set_cons_zero]
  rw [← hr]
  by_cases h0 : r = 0
  · have HR := Lib.hid hr
    subst h0
    clear hr
    go_wp2
    go_ret
    exact ⟨.inl ⟨HR.out.symm, rfl⟩, HQ.out⟩
  · have HR := Lib.hid hr
    have hb : (((r : Nat) : Int) != 0) = true := by simp; omega
    rw [hb]
    clear hr hb
    go_wp2
    go_ret
    exact ⟨.inr ⟨by rw [← HR.out]; exact h0, rfl⟩, HQ.out⟩

set_option maxRecDepth 100000 in
set_option maxHeartbeats 4000000 in
/-- What follows is read, up to the first error. -/
theorem l_readRest {xs : List (List UInt8)} {m : Nat} (hT : Tab w0) (hb0 : Below w0.heap.size w0 w) (hp : P.Pl F w R s) (hlog : w.heap[B]? = some (.cells #[.pointer (some ⟨R, 0, none⟩)] 120 (0, 0)))
    (hopn : OS w0.heap.size O B xs m w) (hO0 : w0.heap.size ≤ O) (hF0 : ∀ k, F k → k < w0.heap.size) (hl : s.A.length ≤ 100000) (hx : xs.length ≤ 200000) (hm : m ≤ s.A.length) :
    Calls Tryz.prog 67 #[.pointer (some ⟨O, 0, none⟩)] w fun e W' => e = .returned (.int .i64 0) ∧
      Below w0.heap.size w0 W' ∧ SameT TR w W' ∧ P.Pl F W' R s ∧ OS w0.heap.size O B (xs ++ (al (s.A.drop m)).1) (m + (al (s.A.drop m)).2.1) W' := by
  have HY := Lib.hid (P.sy hp)
  have HP := Lib.hid hp
  have HL := Lib.hid hlog
  have HO := Lib.hid hopn
  have HB := Lib.hid hb0
  have HT := Lib.hid hT
  clear hp hlog hopn hb0 hT
  go_enter Tryz.func67, Tryz.ntmps67
  go_wp2
  refine rest_region P w0 F O B R s xs m HT.out hO0 hF0 HY.out hl hx hm _ _ _ rfl rfl HB.out HP.out HL.out HO.out ?_
  rintro v1 v2 W1 - - ⟨k1, k2, k3, k4, k5⟩
  have HQ := Lib.hid (And.intro k1 (And.intro k2 (And.intro k3 k5)))
  clear k1 k2 k3 k4 k5
  obtain ⟨r, hr⟩ : ∃ r, r = (al (s.A.drop m)).2.2 := ⟨_, rfl⟩
  simp only [puts, List.foldl_cons, List.foldl_nil, Act.put, List.setIfInBounds_toArray, List.set_cons_succ, List.set_cons_zero]
  rw [← hr]
  clear hr
  go_wp2
  go_ret
  exact ⟨rfl, HQ.out⟩
end
end Go.Proofs.YtdiihaeelcbjbaaGreatDoor

-- RqC
namespace Go.Proofs.YtdiihaeelcbjbaaGreatDoor
open Go.RowKit

/-- What a step comes to: it goes on, or ends with an error. -/
def StepPost (b : Nat) (Q : Nat → World → Prop) (E : Nat → World → Prop) (k : Nat) (w : World) (e : Ending) (w' : World) : Prop :=
  (e = .returned (.int .i64 0) ∧ w'.heap[b]? = w.heap[b]? ∧ Q (k + 1) w') ∨ ∃ r : Nat, r ≠ 0 ∧ e = .returned (.int .i64 (r : Int)) ∧ E r w'

set_option maxRecDepth 100000 in
set_option maxHeartbeats 8000000 in
theorem inOrder_any (f0 f1 f2 f3 f4 : FuncId) (r0 r1 r2 r3 r4 : Array Value) (e0 : ∀ args w, (callFunc f0 args).run Tryz.prog w = .ok (.enter f0 args) w) (e1 : ∀ args w, (callFunc f1 args).run Tryz.prog w = .ok (.enter f1 args) w) (e2 : ∀ args w, (callFunc f2 args).run Tryz.prog w = .ok (.enter f2 args) w) (e3 : ∀ args w, (callFunc f3 args).run Tryz.prog w = .ok (.enter f3 args) w) (e4 : ∀ args w, (callFunc f4 args).run Tryz.prog w = .ok (.enter f4 args) w)
    (b : Nat) (w : World) (hb : w.heap[b]? = some (.cells #[.func (.func f0) r0 #[], .func (.func f1) r1 #[], .func (.func f2) r2 #[], .func (.func f3) r3 #[], .func (.func f4) r4 #[]] 47 (0, 0))) (Q : Nat → World → Prop) (E : Nat → World → Prop) (h0 : Q 0 w)
    (c0 : ∀ w1, w1.heap[b]? = w.heap[b]? → Q 0 w1 → Calls Tryz.prog f0 (r0 ++ #[]) w1 (StepPost b Q E 0 w1))
    (c1 : ∀ w1, w1.heap[b]? = w.heap[b]? → Q 1 w1 → Calls Tryz.prog f1 (r1 ++ #[]) w1 (StepPost b Q E 1 w1))
    (c2 : ∀ w1, w1.heap[b]? = w.heap[b]? → Q 2 w1 → Calls Tryz.prog f2 (r2 ++ #[]) w1 (StepPost b Q E 2 w1))
    (c3 : ∀ w1, w1.heap[b]? = w.heap[b]? → Q 3 w1 → Calls Tryz.prog f3 (r3 ++ #[]) w1 (StepPost b Q E 3 w1))
    (c4 : ∀ w1, w1.heap[b]? = w.heap[b]? → Q 4 w1 → Calls Tryz.prog f4 (r4 ++ #[]) w1 (StepPost b Q E 4 w1)) :
    Calls Tryz.prog 64 #[.slice (some ⟨b, 0, none⟩) 5 5] w fun e w' => (e = .returned (.int .i64 0) ∧ Q 5 w') ∨ ∃ r : Nat, r ≠ 0 ∧ e = .returned (.int .i64 (r : Int)) ∧ E r w' := by
  have HB := Lib.hid hb
  have H0 := Lib.hid h0
  have C0 := Lib.hid c0
  have C1 := Lib.hid c1
  have C2 := Lib.hid c2
  have C3 := Lib.hid c3
  have C4 := Lib.hid c4
  clear hb h0 c0 c1 c2 c3 c4
  go_enter Tryz.func64, Tryz.ntmps64
  go_wp2
  go_loopw [8] (fun i wr => ∃ k : Nat, k ≤ 5 ∧ i = .int .i64 (k : Int) ∧ Hid (wr.heap[b]? = w.heap[b]? ∧ Q k wr)) (fun i _ => 5 - (intOf i).toNat)
  case atStart => exact ⟨0, by omega, rfl, Lib.hid ⟨rfl, H0.out⟩⟩
  case round =>
    obtain ⟨k, hk, rfl, HS⟩ := hrel
    obtain rfl | rfl | rfl | rfl | rfl | rfl : k = 0 ∨ k = 1 ∨ k = 2 ∨ k = 3 ∨ k = 4 ∨ k = 5 := by omega
    · have c0 := blk_cell (HS.out.1.trans HB.out) 0
      simp at c0
      go_wp2_with fail
      refine (C0.out _ HS.out.1 HS.out.2).mono ?_
      rintro e W1 (⟨rfl, hb1, hq1⟩ | ⟨r, hr, rfl, he⟩)
      · have H1 := Lib.hid (And.intro (hb1.trans HS.out.1) hq1)
        clear hb1 hq1 HS c0
        go_wp2
        exact ⟨⟨1, by omega, by congr 1, H1⟩, by simp only [intOf]; omega⟩
      · have HE := Lib.hid he
        have hr' : ¬ ((r : Int) = 0) := by omega
        clear he HS c0
        go_wp2
        go_ret
        exact .inr ⟨r, hr, rfl, HE.out⟩
    · have c0 := blk_cell (HS.out.1.trans HB.out) 1
      simp at c0
      go_wp2_with fail
      refine (C1.out _ HS.out.1 HS.out.2).mono ?_
      rintro e W1 (⟨rfl, hb1, hq1⟩ | ⟨r, hr, rfl, he⟩)
      · have H1 := Lib.hid (And.intro (hb1.trans HS.out.1) hq1)
        clear hb1 hq1 HS c0
        go_wp2
        exact ⟨⟨2, by omega, by congr 1, H1⟩, by simp only [intOf]; omega⟩
      · have HE := Lib.hid he
        have hr' : ¬ ((r : Int) = 0) := by omega
        clear he HS c0
        go_wp2
        go_ret
        exact .inr ⟨r, hr, rfl, HE.out⟩
    · have c0 := blk_cell (HS.out.1.trans HB.out) 2
      simp at c0
      go_wp2_with fail
      refine (C2.out _ HS.out.1 HS.out.2).mono ?_
      rintro e W1 (⟨rfl, hb1, hq1⟩ | ⟨r, hr, rfl, he⟩)
      · have H1 := Lib.hid (And.intro (hb1.trans HS.out.1) hq1)
        clear hb1 hq1 HS c0
        go_wp2
        exact ⟨⟨3, by omega, by congr 1, H1⟩, by simp only [intOf]; omega⟩
      · have HE := Lib.hid he
        have hr' : ¬ ((r : Int) = 0) := by omega
        clear he HS c0
        go_wp2
        go_ret
        exact .inr ⟨r, hr, rfl, HE.out⟩
    · have c0 := blk_cell (HS.out.1.trans HB.out) 3
      simp at c0
      go_wp2_with fail
      refine (C3.out _ HS.out.1 HS.out.2).mono ?_
      rintro e W1 (⟨rfl, hb1, hq1⟩ | ⟨r, hr, rfl, he⟩)
      · have H1 := Lib.hid (And.intro (hb1.trans HS.out.1) hq1)
        clear hb1 hq1 HS c0
        go_wp2
        exact ⟨⟨4, by omega, by congr 1, H1⟩, by simp only [intOf]; omega⟩
      · have HE := Lib.hid he
        have hr' : ¬ ((r : Int) = 0) := by omega
        clear he HS c0
        go_wp2
        go_ret
        exact .inr ⟨r, hr, rfl, HE.out⟩
    · have c0 := blk_cell (HS.out.1.trans HB.out) 4
      simp at c0
      go_wp2_with fail
      refine (C4.out _ HS.out.1 HS.out.2).mono ?_
      rintro e W1 (⟨rfl, hb1, hq1⟩ | ⟨r, hr, rfl, he⟩)
      · have H1 := Lib.hid (And.intro (hb1.trans HS.out.1) hq1)
        clear hb1 hq1 HS c0
        go_wp2
        exact ⟨⟨5, by omega, by congr 1, H1⟩, by simp only [intOf]; omega⟩
      · have HE := Lib.hid he
        have hr' : ¬ ((r : Int) = 0) := by omega
        clear he HS c0
        go_wp2
        go_ret
        exact .inr ⟨r, hr, rfl, HE.out⟩
    · have HQ := Lib.hid HS.out.2
      clear HS
      go_wp2
      go_ret
      exact .inl ⟨rfl, HQ.out⟩
end Go.Proofs.YtdiihaeelcbjbaaGreatDoor

-- RqE
namespace Go.Proofs.YtdiihaeelcbjbaaGreatDoor
open Go.RowKit

section
variable {n : Nat} {ops : Array Oper} {i : Nat} {o : Oper} {a : Act} {w : World} {K : Act → World → Prop} {Q Q' : Exit → Act → World → Prop}
theorem step_mk {f : FuncId} {x : Operand} {vx : Value} (hi : ops[i]? = some o) (hw : Region.wanted o (yielded ops a.tmps) = true) (ho : o.op = .makeFunc (.func f) #[x] #[]) (hx : a.eval x = vx) (h : K (a.put o.dst (.func (.func f) #[vx] #[])) w) : wpOpIn Fence.wide n Tryz.prog ops Q i K a w :=
  step_run hi hw (by rw [ho]; intro c h; cases h) (by simp [Oper.about, ho]) (by simp [execOp, ho, hx, Instr.makeFunc]) h
theorem run_build5 (w : World) (f0 f1 f2 f3 f4 : FuncId) (r0 r1 r2 r3 r4 : Array Value) : (Instr.buildSlice 142 5 #[(0, .func (.func f0) r0 #[]), (1, .func (.func f1) r1 #[]), (2, .func (.func f2) r2 #[]), (3, .func (.func f3) r3 #[]), (4, .func (.func f4) r4 #[])]).run Tryz.prog w = .ok (.slice (some ⟨w.heap.size, 0, none⟩) 5 5) (w.alloc (.cells #[.func (.func f0) r0 #[], .func (.func f1) r1 #[], .func (.func f2) r2 #[], .func (.func f3) r3 #[], .func (.func f4) r4 #[]] 47)) := by
  simp [go_sem, Instr.buildSlice]
theorem step_build5 {x0 x1 x2 x3 x4 : Operand} {f0 f1 f2 f3 f4 : FuncId} {r0 r1 r2 r3 r4 : Array Value} (hi : ops[i]? = some o) (hw : Region.wanted o (yielded ops a.tmps) = true) (ho : o.op = .buildSlice 142 5 #[(0, x0), (1, x1), (2, x2), (3, x3), (4, x4)])
    (e0 : a.eval x0 = .func (.func f0) r0 #[]) (e1 : a.eval x1 = .func (.func f1) r1 #[]) (e2 : a.eval x2 = .func (.func f2) r2 #[]) (e3 : a.eval x3 = .func (.func f3) r3 #[]) (e4 : a.eval x4 = .func (.func f4) r4 #[])
    (h : K (a.put o.dst (.slice (some ⟨w.heap.size, 0, none⟩) 5 5)) (w.alloc (.cells #[.func (.func f0) r0 #[], .func (.func f1) r1 #[], .func (.func f2) r2 #[], .func (.func f3) r3 #[], .func (.func f4) r4 #[]] 47))) : wpOpIn Fence.wide n Tryz.prog ops Q i K a w :=
  step_run hi hw (by rw [ho]; intro c h; cases h) (by simp [Oper.about, ho]) (by
    have hb := run_build5 w f0 f1 f2 f3 f4 r0 r1 r2 r3 r4
    simp [execOp, ho, e0, e1, e2, e3, e4, hb]) h
end
def oOP0 (p : String) : Oper := { dst := some 12, op := Op.move (Operand.tmp 5), type := 118, pos := p, after := #[], guard := none }
def oOP1 (p : String) : Oper := { dst := some 13, op := Op.nilCheck (Operand.tmp 12), type := 0, pos := p, after := #[{ on := 0, ground := Ground.data }], guard := none }
def oOP2 (p : String) : Oper := { dst := some 14, op := Op.fieldAddr 122 (Operand.tmp 13) 0, type := 0, pos := p, after := #[{ on := 1, ground := Ground.data }], guard := none }
def oOP3 (p : String) : Oper := { dst := some 15, op := Op.load 84 (Operand.tmp 14), type := 84, pos := p, after := #[{ on := 2, ground := Ground.data }], guard := none }
def oOP4 (p : String) : Oper := { dst := some 16, op := Op.makeFunc (Fn.func 65) #[Operand.tmp 15] #[], type := 47, pos := p, after := #[{ on := 3, ground := Ground.data }], guard := none }
def oOP5 (p : String) : Oper := { dst := some 17, op := Op.move (Operand.tmp 5), type := 118, pos := p, after := #[], guard := none }
def oOP6 (p : String) : Oper := { dst := some 18, op := Op.makeFunc (Fn.func 66) #[Operand.tmp 17] #[], type := 47, pos := p, after := #[{ on := 5, ground := Ground.data }], guard := none }
def oOP7 (p : String) : Oper := { dst := some 19, op := Op.move (Operand.tmp 5), type := 118, pos := p, after := #[], guard := none }
def oOP8 (p : String) : Oper := { dst := some 20, op := Op.makeFunc (Fn.func 67) #[Operand.tmp 19] #[], type := 47, pos := p, after := #[{ on := 7, ground := Ground.data }], guard := none }
def oOP9 (p : String) : Oper := { dst := some 21, op := Op.move (Operand.tmp 5), type := 118, pos := p, after := #[], guard := none }
def oOP10 (p : String) : Oper := { dst := some 22, op := Op.makeFunc (Fn.func 68) #[Operand.tmp 21] #[], type := 47, pos := p, after := #[{ on := 9, ground := Ground.data }], guard := none }
def oOP11 (p : String) : Oper := { dst := some 23, op := Op.move (Operand.tmp 5), type := 118, pos := p, after := #[], guard := none }
def oOP12 (p : String) : Oper := { dst := some 24, op := Op.nilCheck (Operand.tmp 23), type := 0, pos := p, after := #[{ on := 11, ground := Ground.data }], guard := none }
def oOP13 (p : String) : Oper := { dst := some 25, op := Op.fieldAddr 122 (Operand.tmp 24) 0, type := 0, pos := p, after := #[{ on := 12, ground := Ground.data }], guard := none }
def oOP14 (p : String) : Oper := { dst := some 26, op := Op.load 84 (Operand.tmp 25), type := 84, pos := p, after := #[{ on := 13, ground := Ground.data }], guard := none }
def oOP15 (p : String) : Oper := { dst := some 27, op := Op.makeFunc (Fn.func 46) #[Operand.tmp 26] #[], type := 47, pos := p, after := #[{ on := 14, ground := Ground.data }], guard := none }
def oOP16 (p : String) : Oper := { dst := some 28, op := Op.buildSlice 142 5 #[(0, Operand.tmp 16), (1, Operand.tmp 18), (2, Operand.tmp 20), (3, Operand.tmp 22), (4, Operand.tmp 27)], type := 142, pos := p, after := #[{ on := 4, ground := Ground.data }, { on := 6, ground := Ground.data }, { on := 8, ground := Ground.data }, { on := 10, ground := Ground.data }, { on := 15, ground := Ground.data }], guard := none }
def oOP17 (p : String) : Oper := { dst := some 29, op := Op.call { callee := Callee.value (Operand.func 64), args := #[Operand.tmp 28], argTypes := #[142] }, type := 43, pos := p, after := #[{ on := 16, ground := Ground.data }], guard := none }
def oOP18 (p : String) : Oper := { dst := some 6, op := Op.assign (Operand.tmp 29), type := 43, pos := p, after := #[{ on := 17, ground := Ground.data }, { on := 17, ground := Ground.chain }, { on := 0, ground := Ground.phase }, { on := 1, ground := Ground.phase }, { on := 2, ground := Ground.phase }, { on := 3, ground := Ground.phase }, { on := 4, ground := Ground.phase }, { on := 5, ground := Ground.phase }, { on := 6, ground := Ground.phase }, { on := 7, ground := Ground.phase }, { on := 8, ground := Ground.phase }, { on := 9, ground := Ground.phase }, { on := 10, ground := Ground.phase }, { on := 11, ground := Ground.phase }, { on := 12, ground := Ground.phase }, { on := 13, ground := Ground.phase }, { on := 14, ground := Ground.phase }, { on := 15, ground := Ground.phase }, { on := 16, ground := Ground.phase }, { on := 17, ground := Ground.phase }], guard := none }
def opsOP (p : String) : List Oper := [oOP0 p, oOP1 p, oOP2 p, oOP3 p, oOP4 p, oOP5 p, oOP6 p, oOP7 p, oOP8 p, oOP9 p, oOP10 p, oOP11 p, oOP12 p, oOP13 p, oOP14 p, oOP15 p, oOP16 p, oOP17 p, oOP18 p]
theorem opsOP_back (p : String) : backwards (opsOP p) = true := by kernel_rfl
theorem opsOP_slots (p : String) : slotsOk 41 (opsOP p) = true := by kernel_rfl
/-- What each slot comes to. -/
def psiOP (O B S r : Nat) (_v : Value) (_x : Int) (_PW : World → Prop) (_L : Nat → Bool) : Nat → Value → World → Prop
  | 0, v, _ => v = .pointer (some ⟨O, 0, none⟩)
  | 1, v, _ => v = .pointer (some ⟨O, 0, none⟩)
  | 2, v, _ => v = .pointer (some ⟨O, 0, none⟩)
  | 3, v, _ => v = .pointer (some ⟨B, 0, none⟩)
  | 4, v, _ => v = .func (.func 65) #[.pointer (some ⟨B, 0, none⟩)] #[]
  | 5, v, _ => v = .pointer (some ⟨O, 0, none⟩)
  | 6, v, _ => v = .func (.func 66) #[.pointer (some ⟨O, 0, none⟩)] #[]
  | 7, v, _ => v = .pointer (some ⟨O, 0, none⟩)
  | 8, v, _ => v = .func (.func 67) #[.pointer (some ⟨O, 0, none⟩)] #[]
  | 9, v, _ => v = .pointer (some ⟨O, 0, none⟩)
  | 10, v, _ => v = .func (.func 68) #[.pointer (some ⟨O, 0, none⟩)] #[]
  | 11, v, _ => v = .pointer (some ⟨O, 0, none⟩)
  | 12, v, _ => v = .pointer (some ⟨O, 0, none⟩)
  | 13, v, _ => v = .pointer (some ⟨O, 0, none⟩)
  | 14, v, _ => v = .pointer (some ⟨B, 0, none⟩)
  | 15, v, _ => v = .func (.func 46) #[.pointer (some ⟨B, 0, none⟩)] #[]
  | 16, v, _ => v = .slice (some ⟨S, 0, none⟩) 5 5
  | 17, v, _ => v = .int .i64 (r : Int)
  | 18, v, _ => v = .int .i64 (r : Int)
  | _, _, _ => True
def wsOP (O B S _r : Nat) (v : Value) (x : Int) (PW : World → Prop) (W0 : World) (L : Nat → Bool) (w : World) : Prop := (L 16 = false ∧ Below W0.heap.size W0 w ∧ w.heap.size = S ∧ w.heap[O]? = some (.cells #[.pointer (some ⟨B, 0, none⟩), v, .int .i64 x] 122 (0, 0))) ∨ (L 16 = true ∧ L 17 = false ∧ Below W0.heap.size W0 w ∧ w.heap[S]? = some (.cells #[.func (.func 65) #[.pointer (some ⟨B, 0, none⟩)] #[], .func (.func 66) #[.pointer (some ⟨O, 0, none⟩)] #[], .func (.func 67) #[.pointer (some ⟨O, 0, none⟩)] #[], .func (.func 68) #[.pointer (some ⟨O, 0, none⟩)] #[], .func (.func 46) #[.pointer (some ⟨B, 0, none⟩)] #[]] 47 (0, 0)) ∧ w.heap[O]? = some (.cells #[.pointer (some ⟨B, 0, none⟩), v, .int .i64 x] 122 (0, 0))) ∨ (L 16 = true ∧ L 17 = true ∧ PW w)
theorem psiOP_same (O B S r : Nat) (v : Value) (x : Int) (PW : World → Prop) : ∀ (L : Nat → Bool) (i j : Nat) (u : Value) (w : World), psiOP O B S r v x PW L j u w → psiOP O B S r v x PW (andI L i) j u w := by
  intro L i j u w h
  rcases j with _ | _ | _ | _ | _ | _ | _ | _ | _ | _ | _ | _ | _ | _ | _ | _ | _ | _ | _ | j
  · exact h
  · exact h
  · exact h
  · exact h
  · exact h
  · exact h
  · exact h
  · exact h
  · exact h
  · exact h
  · exact h
  · exact h
  · exact h
  · exact h
  · exact h
  · exact h
  · exact h
  · exact h
  · exact h
  · trivial
theorem wsOP_same (O B S r : Nat) (v : Value) (x : Int) (PW : World → Prop) : ∀ (W0 : World) (L : Nat → Bool) (i : Nat) (w : World), i ≠ 16 → i ≠ 17 → wsOP O B S r v x PW W0 L w → wsOP O B S r v x PW W0 (andI L i) w := by
  intro W0 L i w n16 n17 h
  have e : ∀ k, k ≠ i → andI L i k = L k := fun k hk => by simp [andI, hk]
  unfold wsOP at h ⊢
  rw [e 16 (Ne.symm n16), e 17 (Ne.symm n17)]
  exact h
theorem psiOP_any (O B S r : Nat) (v : Value) (x : Int) (PW : World → Prop) {L L' : Nat → Bool} {j : Nat} {u : Value} {w w' : World} (h : psiOP O B S r v x PW L j u w) : psiOP O B S r v x PW L' j u w' := by
  rcases j with _ | _ | _ | _ | _ | _ | _ | _ | _ | _ | _ | _ | _ | _ | _ | _ | _ | _ | _ | j
  all_goals first | exact h | trivial
section
variable {O B S r : Nat} {v : Value} {x : Int} {PW : World → Prop} {W0 w : World} {L : Nat → Bool}
theorem wsOP_opn (h : wsOP O B S r v x PW W0 L w) (h17 : L 17 = false) : w.heap[O]? = some (.cells #[.pointer (some ⟨B, 0, none⟩), v, .int .i64 x] 122 (0, 0)) := by
  rcases h with ⟨_, _, _, h⟩ | ⟨_, _, _, _, h⟩ | ⟨_, h, _⟩
  · exact h
  · exact h
  · rw [h17] at h; cases h
theorem wsOP_size (h : wsOP O B S r v x PW W0 L w) (h16 : L 16 = false) : w.heap.size = S := by
  rcases h with ⟨_, _, h, _⟩ | ⟨h, _⟩ | ⟨h, _⟩
  · exact h
  · rw [h16] at h; cases h
  · rw [h16] at h; cases h
theorem wsOP_ready (h : wsOP O B S r v x PW W0 L w) (h17 : L 17 = false) (h16 : L 16 = true) : L 16 = true ∧ Below W0.heap.size W0 w ∧ w.heap[S]? = some (.cells #[.func (.func 65) #[.pointer (some ⟨B, 0, none⟩)] #[], .func (.func 66) #[.pointer (some ⟨O, 0, none⟩)] #[], .func (.func 67) #[.pointer (some ⟨O, 0, none⟩)] #[], .func (.func 68) #[.pointer (some ⟨O, 0, none⟩)] #[], .func (.func 46) #[.pointer (some ⟨B, 0, none⟩)] #[]] 47 (0, 0)) ∧ w.heap[O]? = some (.cells #[.pointer (some ⟨B, 0, none⟩), v, .int .i64 x] 122 (0, 0)) := by
  rcases h with ⟨h, _⟩ | ⟨h, _, k1, k2, k3⟩ | ⟨_, h, _⟩
  · rw [h16] at h; cases h
  · exact ⟨h, k1, k2, k3⟩
  · rw [h17] at h; cases h
theorem wsOP_built (h : wsOP O B S r v x PW W0 L w) (h16 : L 16 = false) (h17 : L 17 = false) : wsOP O B S r v x PW W0 (andI L 16) (w.alloc (.cells #[.func (.func 65) #[.pointer (some ⟨B, 0, none⟩)] #[], .func (.func 66) #[.pointer (some ⟨O, 0, none⟩)] #[], .func (.func 67) #[.pointer (some ⟨O, 0, none⟩)] #[], .func (.func 68) #[.pointer (some ⟨O, 0, none⟩)] #[], .func (.func 46) #[.pointer (some ⟨B, 0, none⟩)] #[]] 47)) := by
  rcases h with ⟨_, k1, k2, k3⟩ | ⟨h, _⟩ | ⟨h, _⟩
  · refine .inr (.inl ⟨andI_self _ _, by simp [andI, h17], k1.alloc k1.size _, by rw [← k2]; exact World.alloc_heap_new w _, ?_⟩)
    have hl := (Array.getElem?_eq_some_iff.1 k3).1
    rw [Below.heap_alloc _ _ _ hl]
    exact k3
  · rw [h16] at h; cases h
  · rw [h16] at h; cases h
end
theorem notclOP3 {p : String} {L : Nat → Bool} (hcl : ∀ j o', (opsOP p).toArray[j]? = some o' → L j = true → ∀ k, hasEdge o' k = true → L k = true) (h : L 3 = false) : L 17 = false := by
  cases h17 : L 17 with
  | false => rfl
  | true =>
    have h16 := hcl 17 (oOP17 p) rfl h17 16 (by rfl)
    have h4 := hcl 16 (oOP16 p) rfl h16 4 (by rfl)
    have h3 := hcl 4 (oOP4 p) rfl h4 3 (by rfl)
    rw [h] at h3
    cases h3
theorem notclOP14 {p : String} {L : Nat → Bool} (hcl : ∀ j o', (opsOP p).toArray[j]? = some o' → L j = true → ∀ k, hasEdge o' k = true → L k = true) (h : L 14 = false) : L 17 = false := by
  cases h17 : L 17 with
  | false => rfl
  | true =>
    have h16 := hcl 17 (oOP17 p) rfl h17 16 (by rfl)
    have h15 := hcl 16 (oOP16 p) rfl h16 15 (by rfl)
    have h14 := hcl 15 (oOP15 p) rfl h15 14 (by rfl)
    rw [h] at h14
    cases h14
theorem notclOP16 {p : String} {L : Nat → Bool} (hcl : ∀ j o', (opsOP p).toArray[j]? = some o' → L j = true → ∀ k, hasEdge o' k = true → L k = true) (h : L 16 = false) : L 17 = false := by
  cases h17 : L 17 with
  | false => rfl
  | true =>
    have h16 := hcl 17 (oOP17 p) rfl h17 16 (by rfl)
    rw [h] at h16
    cases h16

set_option maxRecDepth 100000 in
set_option maxHeartbeats 4000000 in
theorem open_region {p : String} (O B S r : Nat) (v : Value) (x : Int) (PW : World → Prop)  (a : Act) (w : World) (Q : Exit → Act → World → Prop) (hN : a.tmps.size = 41) (h5 : a.tmps.getD 5 undef = .pointer (some ⟨O, 0, none⟩)) (hS : w.heap.size = S) (hopn : w.heap[O]? = some (.cells #[.pointer (some ⟨B, 0, none⟩), v, .int .i64 x] 122 (0, 0))) (hc : ∀ w', Below w.heap.size w w' → w'.heap[S]? = some (.cells #[.func (.func 65) #[.pointer (some ⟨B, 0, none⟩)] #[], .func (.func 66) #[.pointer (some ⟨O, 0, none⟩)] #[], .func (.func 67) #[.pointer (some ⟨O, 0, none⟩)] #[], .func (.func 68) #[.pointer (some ⟨O, 0, none⟩)] #[], .func (.func 46) #[.pointer (some ⟨B, 0, none⟩)] #[]] 47 (0, 0)) → w'.heap[O]? = some (.cells #[.pointer (some ⟨B, 0, none⟩), v, .int .i64 x] 122 (0, 0)) → Calls Tryz.prog 64 #[.slice (some ⟨S, 0, none⟩) 5 5] w' fun e w'' => e = .returned (.int .i64 (r : Int)) ∧ PW w'') (hQ : ∀ (w' : World), PW w' → Q .normal (puts [(12, .pointer (some ⟨O, 0, none⟩)), (13, .pointer (some ⟨O, 0, none⟩)), (14, .pointer (some ⟨O, 0, none⟩)), (15, .pointer (some ⟨B, 0, none⟩)), (16, .func (.func 65) #[.pointer (some ⟨B, 0, none⟩)] #[]), (17, .pointer (some ⟨O, 0, none⟩)), (18, .func (.func 66) #[.pointer (some ⟨O, 0, none⟩)] #[]), (19, .pointer (some ⟨O, 0, none⟩)), (20, .func (.func 67) #[.pointer (some ⟨O, 0, none⟩)] #[]), (21, .pointer (some ⟨O, 0, none⟩)), (22, .func (.func 68) #[.pointer (some ⟨O, 0, none⟩)] #[]), (23, .pointer (some ⟨O, 0, none⟩)), (24, .pointer (some ⟨O, 0, none⟩)), (25, .pointer (some ⟨O, 0, none⟩)), (26, .pointer (some ⟨B, 0, none⟩)), (27, .func (.func 46) #[.pointer (some ⟨B, 0, none⟩)] #[]), (28, .slice (some ⟨S, 0, none⟩) 5 5), (29, .int .i64 (r : Int)), (6, .int .i64 (r : Int))] a) w')
    : (Code.region 2 (opsOP p).toArray true).wp Tryz.prog Q a w := by
  refine (wpIn_wide (n := 1)).1 (wpIn_region_st 41 hN follows (opsOP_back p) (opsOP_slots p) (wsOP O B S r v x PW w) (psiOP O B S r v x PW) (.inl ⟨rfl, (Below.refl _ w).drew, hS, hopn⟩) ?_ ?_)
  · intro L i o d a' w' ho hd hLi hdep hcl hF hW hp
    rcases i with _ | _ | _ | _ | _ | _ | _ | _ | _ | _ | _ | _ | _ | _ | _ | _ | _ | _ | _ | i
    · obtain rfl : oOP0 p = o := Option.some.inj ho
      obtain rfl : 12 = d := Option.some.inj hd
      exact step_move rfl rfl rfl (hF.at 5 rfl h5) ⟨_, rfl, rfl, wsOP_same _ _ _ _ _ _ _  _ _ _ _ (by decide) (by decide) hW, fun j u _ h => psiOP_same _ _ _ _ _ _ _  _ _ _ _ _ h⟩
    · obtain rfl : oOP1 p = o := Option.some.inj ho
      obtain rfl : 13 = d := Option.some.inj hd
      have q0 : a'.tmps.getD 12 undef = .pointer (some ⟨O, 0, none⟩) := hp 0 (oOP0 p) 12 (hdep 0 rfl) rfl rfl
      exact step_nilCheckQ rfl rfl rfl q0 (trivial) ⟨_, rfl, rfl, wsOP_same _ _ _ _ _ _ _  _ _ _ _ (by decide) (by decide) hW, fun j u _ h => psiOP_same _ _ _ _ _ _ _  _ _ _ _ _ h⟩
    · obtain rfl : oOP2 p = o := Option.some.inj ho
      obtain rfl : 14 = d := Option.some.inj hd
      have q1 : a'.tmps.getD 13 undef = .pointer (some ⟨O, 0, none⟩) := hp 1 (oOP1 p) 13 (hdep 1 rfl) rfl rfl
      exact step_fieldQ rfl rfl rfl q1 (run_opn0 _ _) ⟨_, rfl, rfl, wsOP_same _ _ _ _ _ _ _  _ _ _ _ (by decide) (by decide) hW, fun j u _ h => psiOP_same _ _ _ _ _ _ _  _ _ _ _ _ h⟩
    · obtain rfl : oOP3 p = o := Option.some.inj ho
      obtain rfl : 15 = d := Option.some.inj hd
      have q2 : a'.tmps.getD 14 undef = .pointer (some ⟨O, 0, none⟩) := hp 2 (oOP2 p) 14 (hdep 2 rfl) rfl rfl
      exact step_load rfl rfl rfl q2 (run_ldLog _ _ _ (by have := blk_cell (wsOP_opn hW (notclOP3 hcl hLi)) 0; simpa using this)) ⟨_, rfl, rfl, wsOP_same _ _ _ _ _ _ _  _ _ _ _ (by decide) (by decide) hW, fun j u _ h => psiOP_same _ _ _ _ _ _ _  _ _ _ _ _ h⟩
    · obtain rfl : oOP4 p = o := Option.some.inj ho
      obtain rfl : 16 = d := Option.some.inj hd
      have q3 : a'.tmps.getD 15 undef = .pointer (some ⟨B, 0, none⟩) := hp 3 (oOP3 p) 15 (hdep 3 rfl) rfl rfl
      exact step_mk rfl rfl rfl q3 ⟨_, rfl, rfl, wsOP_same _ _ _ _ _ _ _  _ _ _ _ (by decide) (by decide) hW, fun j u _ h => psiOP_any _ _ _ _ _ _ _  h⟩
    · obtain rfl : oOP5 p = o := Option.some.inj ho
      obtain rfl : 17 = d := Option.some.inj hd
      exact step_move rfl rfl rfl (hF.at 5 rfl h5) ⟨_, rfl, rfl, wsOP_same _ _ _ _ _ _ _  _ _ _ _ (by decide) (by decide) hW, fun j u _ h => psiOP_same _ _ _ _ _ _ _  _ _ _ _ _ h⟩
    · obtain rfl : oOP6 p = o := Option.some.inj ho
      obtain rfl : 18 = d := Option.some.inj hd
      have q5 : a'.tmps.getD 17 undef = .pointer (some ⟨O, 0, none⟩) := hp 5 (oOP5 p) 17 (hdep 5 rfl) rfl rfl
      exact step_mk rfl rfl rfl q5 ⟨_, rfl, rfl, wsOP_same _ _ _ _ _ _ _  _ _ _ _ (by decide) (by decide) hW, fun j u _ h => psiOP_any _ _ _ _ _ _ _  h⟩
    · obtain rfl : oOP7 p = o := Option.some.inj ho
      obtain rfl : 19 = d := Option.some.inj hd
      exact step_move rfl rfl rfl (hF.at 5 rfl h5) ⟨_, rfl, rfl, wsOP_same _ _ _ _ _ _ _  _ _ _ _ (by decide) (by decide) hW, fun j u _ h => psiOP_same _ _ _ _ _ _ _  _ _ _ _ _ h⟩
    · obtain rfl : oOP8 p = o := Option.some.inj ho
      obtain rfl : 20 = d := Option.some.inj hd
      have q7 : a'.tmps.getD 19 undef = .pointer (some ⟨O, 0, none⟩) := hp 7 (oOP7 p) 19 (hdep 7 rfl) rfl rfl
      exact step_mk rfl rfl rfl q7 ⟨_, rfl, rfl, wsOP_same _ _ _ _ _ _ _  _ _ _ _ (by decide) (by decide) hW, fun j u _ h => psiOP_any _ _ _ _ _ _ _  h⟩
    · obtain rfl : oOP9 p = o := Option.some.inj ho
      obtain rfl : 21 = d := Option.some.inj hd
      exact step_move rfl rfl rfl (hF.at 5 rfl h5) ⟨_, rfl, rfl, wsOP_same _ _ _ _ _ _ _  _ _ _ _ (by decide) (by decide) hW, fun j u _ h => psiOP_same _ _ _ _ _ _ _  _ _ _ _ _ h⟩
    · obtain rfl : oOP10 p = o := Option.some.inj ho
      obtain rfl : 22 = d := Option.some.inj hd
      have q9 : a'.tmps.getD 21 undef = .pointer (some ⟨O, 0, none⟩) := hp 9 (oOP9 p) 21 (hdep 9 rfl) rfl rfl
      exact step_mk rfl rfl rfl q9 ⟨_, rfl, rfl, wsOP_same _ _ _ _ _ _ _  _ _ _ _ (by decide) (by decide) hW, fun j u _ h => psiOP_any _ _ _ _ _ _ _  h⟩
    · obtain rfl : oOP11 p = o := Option.some.inj ho
      obtain rfl : 23 = d := Option.some.inj hd
      exact step_move rfl rfl rfl (hF.at 5 rfl h5) ⟨_, rfl, rfl, wsOP_same _ _ _ _ _ _ _  _ _ _ _ (by decide) (by decide) hW, fun j u _ h => psiOP_same _ _ _ _ _ _ _  _ _ _ _ _ h⟩
    · obtain rfl : oOP12 p = o := Option.some.inj ho
      obtain rfl : 24 = d := Option.some.inj hd
      have q11 : a'.tmps.getD 23 undef = .pointer (some ⟨O, 0, none⟩) := hp 11 (oOP11 p) 23 (hdep 11 rfl) rfl rfl
      exact step_nilCheckQ rfl rfl rfl q11 (trivial) ⟨_, rfl, rfl, wsOP_same _ _ _ _ _ _ _  _ _ _ _ (by decide) (by decide) hW, fun j u _ h => psiOP_same _ _ _ _ _ _ _  _ _ _ _ _ h⟩
    · obtain rfl : oOP13 p = o := Option.some.inj ho
      obtain rfl : 25 = d := Option.some.inj hd
      have q12 : a'.tmps.getD 24 undef = .pointer (some ⟨O, 0, none⟩) := hp 12 (oOP12 p) 24 (hdep 12 rfl) rfl rfl
      exact step_fieldQ rfl rfl rfl q12 (run_opn0 _ _) ⟨_, rfl, rfl, wsOP_same _ _ _ _ _ _ _  _ _ _ _ (by decide) (by decide) hW, fun j u _ h => psiOP_same _ _ _ _ _ _ _  _ _ _ _ _ h⟩
    · obtain rfl : oOP14 p = o := Option.some.inj ho
      obtain rfl : 26 = d := Option.some.inj hd
      have q13 : a'.tmps.getD 25 undef = .pointer (some ⟨O, 0, none⟩) := hp 13 (oOP13 p) 25 (hdep 13 rfl) rfl rfl
      exact step_load rfl rfl rfl q13 (run_ldLog _ _ _ (by have := blk_cell (wsOP_opn hW (notclOP14 hcl hLi)) 0; simpa using this)) ⟨_, rfl, rfl, wsOP_same _ _ _ _ _ _ _  _ _ _ _ (by decide) (by decide) hW, fun j u _ h => psiOP_same _ _ _ _ _ _ _  _ _ _ _ _ h⟩
    · obtain rfl : oOP15 p = o := Option.some.inj ho
      obtain rfl : 27 = d := Option.some.inj hd
      have q14 : a'.tmps.getD 26 undef = .pointer (some ⟨B, 0, none⟩) := hp 14 (oOP14 p) 26 (hdep 14 rfl) rfl rfl
      exact step_mk rfl rfl rfl q14 ⟨_, rfl, rfl, wsOP_same _ _ _ _ _ _ _  _ _ _ _ (by decide) (by decide) hW, fun j u _ h => psiOP_any _ _ _ _ _ _ _  h⟩
    · obtain rfl : oOP16 p = o := Option.some.inj ho
      obtain rfl : 28 = d := Option.some.inj hd
      have q4 : a'.tmps.getD 16 undef = .func (.func 65) #[.pointer (some ⟨B, 0, none⟩)] #[] := hp 4 (oOP4 p) 16 (hdep 4 rfl) rfl rfl
      have q6 : a'.tmps.getD 18 undef = .func (.func 66) #[.pointer (some ⟨O, 0, none⟩)] #[] := hp 6 (oOP6 p) 18 (hdep 6 rfl) rfl rfl
      have q8 : a'.tmps.getD 20 undef = .func (.func 67) #[.pointer (some ⟨O, 0, none⟩)] #[] := hp 8 (oOP8 p) 20 (hdep 8 rfl) rfl rfl
      have q10 : a'.tmps.getD 22 undef = .func (.func 68) #[.pointer (some ⟨O, 0, none⟩)] #[] := hp 10 (oOP10 p) 22 (hdep 10 rfl) rfl rfl
      have q15 : a'.tmps.getD 27 undef = .func (.func 46) #[.pointer (some ⟨B, 0, none⟩)] #[] := hp 15 (oOP15 p) 27 (hdep 15 rfl) rfl rfl
      refine step_build5 rfl rfl rfl q4 q6 q8 q10 q15 ?_
      rw [wsOP_size hW hLi]
      exact ⟨_, rfl, rfl, wsOP_built hW hLi (notclOP16 hcl hLi), fun j u _ h => psiOP_any _ _ _ _ _ _ _  h⟩
    · obtain rfl : oOP17 p = o := Option.some.inj ho
      obtain rfl : 29 = d := Option.some.inj hd
      have q16 : a'.tmps.getD 28 undef = .slice (some ⟨S, 0, none⟩) 5 5 := hp 16 (oOP16 p) 28 (hdep 16 rfl) rfl rfl
      obtain ⟨h16, hb, hs, ho⟩ := wsOP_ready hW hLi (hdep 16 rfl)
      refine step_callQ rfl rfl rfl (enters_of Tryz.func64 (by kernel_rfl) rfl) (show Array.map a'.eval #[.tmp 28] = #[.slice (some ⟨S, 0, none⟩) 5 5] from by simp only [List.map_toArray, List.map_cons, List.map_nil, Act.eval, q16]) ((hc w' hb hs ho).mono ?_)
      rintro e w'' ⟨rfl, hq⟩
      exact ⟨_, rfl, _, rfl, rfl, .inr (.inr ⟨andI_old h16, andI_self _ _, hq⟩), fun j u _ h => psiOP_any _ _ _ _ _ _ _  h⟩
    · obtain rfl : oOP18 p = o := Option.some.inj ho
      obtain rfl : 6 = d := Option.some.inj hd
      have q17 : a'.tmps.getD 29 undef = .int .i64 (r : Int) := hp 17 (oOP17 p) 29 (hdep 17 rfl) rfl rfl
      exact step_assign rfl rfl rfl q17 ⟨_, rfl, rfl, wsOP_same _ _ _ _ _ _ _  _ _ _ _ (by decide) (by decide) hW, fun j u _ h => psiOP_same _ _ _ _ _ _ _  _ _ _ _ _ h⟩
    · exact absurd ((Array.getElem?_eq_some_iff.1 ho).1) (by simp [opsOP])
  · intro L a' w' hLall hF hW hp
    have e0 : psiOP O B S r v x PW L 0 (a'.tmps.getD 12 undef) w' := hp 0 (oOP0 p) 12 rfl rfl
    have e1 : psiOP O B S r v x PW L 1 (a'.tmps.getD 13 undef) w' := hp 1 (oOP1 p) 13 rfl rfl
    have e2 : psiOP O B S r v x PW L 2 (a'.tmps.getD 14 undef) w' := hp 2 (oOP2 p) 14 rfl rfl
    have e3 : psiOP O B S r v x PW L 3 (a'.tmps.getD 15 undef) w' := hp 3 (oOP3 p) 15 rfl rfl
    have e4 : psiOP O B S r v x PW L 4 (a'.tmps.getD 16 undef) w' := hp 4 (oOP4 p) 16 rfl rfl
    have e5 : psiOP O B S r v x PW L 5 (a'.tmps.getD 17 undef) w' := hp 5 (oOP5 p) 17 rfl rfl
    have e6 : psiOP O B S r v x PW L 6 (a'.tmps.getD 18 undef) w' := hp 6 (oOP6 p) 18 rfl rfl
    have e7 : psiOP O B S r v x PW L 7 (a'.tmps.getD 19 undef) w' := hp 7 (oOP7 p) 19 rfl rfl
    have e8 : psiOP O B S r v x PW L 8 (a'.tmps.getD 20 undef) w' := hp 8 (oOP8 p) 20 rfl rfl
    have e9 : psiOP O B S r v x PW L 9 (a'.tmps.getD 21 undef) w' := hp 9 (oOP9 p) 21 rfl rfl
    have e10 : psiOP O B S r v x PW L 10 (a'.tmps.getD 22 undef) w' := hp 10 (oOP10 p) 22 rfl rfl
    have e11 : psiOP O B S r v x PW L 11 (a'.tmps.getD 23 undef) w' := hp 11 (oOP11 p) 23 rfl rfl
    have e12 : psiOP O B S r v x PW L 12 (a'.tmps.getD 24 undef) w' := hp 12 (oOP12 p) 24 rfl rfl
    have e13 : psiOP O B S r v x PW L 13 (a'.tmps.getD 25 undef) w' := hp 13 (oOP13 p) 25 rfl rfl
    have e14 : psiOP O B S r v x PW L 14 (a'.tmps.getD 26 undef) w' := hp 14 (oOP14 p) 26 rfl rfl
    have e15 : psiOP O B S r v x PW L 15 (a'.tmps.getD 27 undef) w' := hp 15 (oOP15 p) 27 rfl rfl
    have e16 : psiOP O B S r v x PW L 16 (a'.tmps.getD 28 undef) w' := hp 16 (oOP16 p) 28 rfl rfl
    have e17 : psiOP O B S r v x PW L 17 (a'.tmps.getD 29 undef) w' := hp 17 (oOP17 p) 29 rfl rfl
    have e18 : psiOP O B S r v x PW L 18 (a'.tmps.getD 6 undef) w' := hp 18 (oOP18 p) 6 rfl rfl
    rw [hF.puts [(12, .pointer (some ⟨O, 0, none⟩)), (13, .pointer (some ⟨O, 0, none⟩)), (14, .pointer (some ⟨O, 0, none⟩)), (15, .pointer (some ⟨B, 0, none⟩)), (16, .func (.func 65) #[.pointer (some ⟨B, 0, none⟩)] #[]), (17, .pointer (some ⟨O, 0, none⟩)), (18, .func (.func 66) #[.pointer (some ⟨O, 0, none⟩)] #[]), (19, .pointer (some ⟨O, 0, none⟩)), (20, .func (.func 67) #[.pointer (some ⟨O, 0, none⟩)] #[]), (21, .pointer (some ⟨O, 0, none⟩)), (22, .func (.func 68) #[.pointer (some ⟨O, 0, none⟩)] #[]), (23, .pointer (some ⟨O, 0, none⟩)), (24, .pointer (some ⟨O, 0, none⟩)), (25, .pointer (some ⟨O, 0, none⟩)), (26, .pointer (some ⟨B, 0, none⟩)), (27, .func (.func 46) #[.pointer (some ⟨B, 0, none⟩)] #[]), (28, .slice (some ⟨S, 0, none⟩) 5 5), (29, .int .i64 (r : Int)), (6, .int .i64 (r : Int))] ?_ rfl (by rw [hN]; rfl)]
    · exact hQ  w'  (hW.elim (fun h => absurd (h.1.symm.trans (hLall 16 (by simp [opsOP]))) (by simp)) (fun h => h.elim (fun h => absurd (h.2.1.symm.trans (hLall 17 (by simp [opsOP]))) (by simp)) (fun h => h.2.2)))
    · intro x hx
      simp only [List.mem_cons, List.not_mem_nil, or_false] at hx
      rcases hx with rfl | rfl | rfl | rfl | rfl | rfl | rfl | rfl | rfl | rfl | rfl | rfl | rfl | rfl | rfl | rfl | rfl | rfl | rfl
      · exact e0
      · exact e1
      · exact e2
      · exact e3
      · exact e4
      · exact e5
      · exact e6
      · exact e7
      · exact e8
      · exact e9
      · exact e10
      · exact e11
      · exact e12
      · exact e13
      · exact e14
      · exact e15
      · exact e16
      · exact e17
      · exact e18
end Go.Proofs.YtdiihaeelcbjbaaGreatDoor

-- RqF
namespace Go.Proofs.YtdiihaeelcbjbaaGreatDoor
open Go.RowKit

/-- The steps of an opening at O of the log at B. -/
def FunO (B O : Nat) : Obj := .cells #[.func (.func 65) #[.pointer (some ⟨B, 0, none⟩)] #[], .func (.func 66) #[.pointer (some ⟨O, 0, none⟩)] #[], .func (.func 67) #[.pointer (some ⟨O, 0, none⟩)] #[], .func (.func 68) #[.pointer (some ⟨O, 0, none⟩)] #[], .func (.func 46) #[.pointer (some ⟨B, 0, none⟩)] #[]] 47 (0, 0)
/-- The world in which the steps run. -/
def InO (d : Option Addr) (w w' : World) : Prop := Below w.heap.size w w' ∧ w'.heap[w.heap.size + 2]? = some (FunO w.heap.size (w.heap.size + 1)) ∧ w'.heap[w.heap.size]? = some (.cells #[.pointer d] 120 (0, 0)) ∧
  w'.heap[w.heap.size + 1]? = some (.cells #[.pointer (some ⟨w.heap.size, 0, none⟩), .slice none 0 0, .int .i64 0] 122 (0, 0))

/-- What Open comes to, by what its steps come to. -/
def OpenPost (w : World) (r : Nat) (PW : World → Prop) (e : Ending) (W' : World) : Prop :=
  PW W' ∧ ((r ≠ 0 ∧ e = .returned (.tuple #[.pointer none, .slice none 0 0, .int .i64 (r : Int)])) ∨
    (r = 0 ∧ ∃ v x, W'.heap[w.heap.size + 1]? = some (.cells #[.pointer (some ⟨w.heap.size, 0, none⟩), v, .int .i64 x] 122 (0, 0)) ∧ e = .returned (.tuple #[.pointer (some ⟨w.heap.size, 0, none⟩), v, .int .i64 0])))

set_option maxRecDepth 100000 in
set_option maxHeartbeats 4000000 in
theorem open_walk (d : Option Addr) (w : World) (r : Nat) (PW : World → Prop)
    (hc : ∀ w', InO d w w' → Calls Tryz.prog 64 #[.slice (some ⟨w.heap.size + 2, 0, none⟩) 5 5] w' fun e w'' => e = .returned (.int .i64 (r : Int)) ∧ PW w'')
    (hgood : r = 0 → ∀ W', PW W' → ∃ v x, W'.heap[w.heap.size + 1]? = some (.cells #[.pointer (some ⟨w.heap.size, 0, none⟩), v, .int .i64 x] 122 (0, 0)))
    (hdr : ∀ W, PW W → PW W.drew) : Calls Tryz.prog 42 #[.pointer d] w (OpenPost w r PW) := by
  have HC := Lib.hid hc
  have HG := Lib.hid hgood
  have HD := Lib.hid hdr
  clear hc hgood hdr
  go_enter Tryz.func42, Tryz.ntmps42
  go_wp2
  refine open_region (w.heap.size + 1) w.heap.size (w.heap.size + 2) r _ _ PW _ _ _ rfl rfl (by simp) (by
      have h1 := World.alloc_heap_new (w.alloc (.cells #[.pointer d] 120)) (.cells #[.pointer (some ⟨w.heap.size, 0, none⟩), .slice none 0 0, .int .i64 0] 122)
      simpa using h1) (fun w' hb hs ho => ?_) ?_
  · have hb1 : Below w.heap.size w ((w.alloc (.cells #[.pointer d] 120)).alloc (.cells #[.pointer (some ⟨w.heap.size, 0, none⟩), .slice none 0 0, .int .i64 0] 122)) := ((Below.refl _ w).alloc (Nat.le_refl _) _).alloc (by simp) _
    refine HC.out w' ⟨hb1.trans (Below.mono hb (by simp; omega)), hs, ?_, ho⟩
    rw [hb.block _ (by simp; omega), Below.heap_alloc _ _ _ (by simp)]
    exact World.alloc_heap_new w _
  · intro W' hq
    have HQ := Lib.hid hq
    clear hq
    simp only [puts, List.foldl_cons, List.foldl_nil, Act.put, List.setIfInBounds_toArray, List.set_cons_succ, List.set_cons_zero]
    by_cases h0 : r = 0
    · subst h0
      obtain ⟨v, x, ho⟩ := HG.out rfl W' HQ.out
      have b0 := blk_cell ho 0
      have b1 := blk_cell ho 1
      simp at b0 b1
      have HO := Lib.hid ho
      clear ho
      go_wp2
      go_region
      go_wp2
      go_ret3
      exact (show OpenPost w 0 PW _ _ from ⟨HD.out _ HQ.out, .inr ⟨rfl, v, x, HO.out, rfl⟩⟩)
    · have hr' : ¬ ((r : Int) = 0) := by omega
      go_wp2
      go_ret3
      exact (show OpenPost w r PW _ _ from ⟨HQ.out, .inl ⟨h0, rfl⟩⟩)

/-- The steps, for this opening. -/
theorem order_walk (B O S : Nat) (w : World) (hb : w.heap[S]? = some (FunO B O)) (Q : Nat → World → Prop) (E : Nat → World → Prop) (h0 : Q 0 w)
    (c0 : ∀ w1, w1.heap[S]? = some (FunO B O) → Q 0 w1 → Calls Tryz.prog 65 #[.pointer (some ⟨B, 0, none⟩)] w1 (StepPost S Q E 0 w1))
    (c1 : ∀ w1, w1.heap[S]? = some (FunO B O) → Q 1 w1 → Calls Tryz.prog 66 #[.pointer (some ⟨O, 0, none⟩)] w1 (StepPost S Q E 1 w1))
    (c2 : ∀ w1, w1.heap[S]? = some (FunO B O) → Q 2 w1 → Calls Tryz.prog 67 #[.pointer (some ⟨O, 0, none⟩)] w1 (StepPost S Q E 2 w1))
    (c3 : ∀ w1, w1.heap[S]? = some (FunO B O) → Q 3 w1 → Calls Tryz.prog 68 #[.pointer (some ⟨O, 0, none⟩)] w1 (StepPost S Q E 3 w1))
    (c4 : ∀ w1, w1.heap[S]? = some (FunO B O) → Q 4 w1 → Calls Tryz.prog 46 #[.pointer (some ⟨B, 0, none⟩)] w1 (StepPost S Q E 4 w1)) :
    Calls Tryz.prog 64 #[.slice (some ⟨S, 0, none⟩) 5 5] w fun e w' => (e = .returned (.int .i64 0) ∧ Q 5 w') ∨ ∃ r : Nat, r ≠ 0 ∧ e = .returned (.int .i64 (r : Int)) ∧ E r w' :=
  inOrder_any _ _ _ _ _ _ _ _ _ _
    (enters_of Tryz.func65 (by kernel_rfl) rfl)
    (enters_of Tryz.func66 (by kernel_rfl) rfl)
    (enters_of Tryz.func67 (by kernel_rfl) rfl)
    (enters_of Tryz.func68 (by kernel_rfl) rfl)
    (enters_of Tryz.func46 (by kernel_rfl) rfl)
    S w hb Q E h0 (fun w1 h1 h2 => c0 w1 (h1.trans hb) h2) (fun w1 h1 h2 => c1 w1 (h1.trans hb) h2) (fun w1 h1 h2 => c2 w1 (h1.trans hb) h2) (fun w1 h1 h2 => c3 w1 (h1.trans hb) h2) (fun w1 h1 h2 => c4 w1 (h1.trans hb) h2)

theorem Only.of_below_F {F : Nat → Prop} {w w' : World} (h : Below w.heap.size w w') : Only F w w' := Only.of_grew h
theorem bb_nil (N : Nat → Prop) (w : World) : BBn N w (.slice none 0 0) [] := ⟨none, 0, 0, rfl, rfl, Nat.le_refl _, fun h => absurd rfl h⟩

theorem l_OpenNil (w : World) : Calls Tryz.prog 42 #[.pointer none] w fun e W' => ∃ v, e = .returned (.tuple #[.pointer none, v, .int .i64 2]) ∧ BBn (fun _ => True) W' v [] ∧ Below w.heap.size w W' := by
  refine (open_walk none w 2 (fun W' => Below w.heap.size w W') (fun w' hi => ?_) (fun h => by cases h) (fun _ h => h.drew)).mono ?_
  · refine (order_walk _ _ _ w' hi.2.1 (fun k W => k = 0 ∧ InO none w W) (fun r W => r = 2 ∧ Below w.heap.size w W) ⟨rfl, hi⟩ (fun w1 _ hq => ?_) (fun _ _ hq => by cases hq.1) (fun _ _ hq => by cases hq.1) (fun _ _ hq => by cases hq.1) (fun _ _ hq => by cases hq.1)).mono ?_
    · exact (l_readyBare w1 _ hq.2.2.2.1).mono fun e W' ⟨he, hb⟩ => .inr ⟨2, by omega, he, rfl, hq.2.1.trans (Below.mono hb hq.2.1.size)⟩
    · rintro e W' (⟨_, h, _⟩ | ⟨r, _, he, rfl, hb⟩)
      · cases h
      · exact ⟨he, hb⟩
  · rintro e W' ⟨hb, ⟨_, he⟩ | ⟨h, _⟩⟩
    · exact ⟨_, he, bb_nil _ _, hb⟩
    · cases h

section
variable (P : DiskK) {F : Nat → Prop} {w : World} {R : Nat} {s : DS}
theorem l_OpenDead (hp : P.Pl F w R s) (hd : s.dead = true) : Calls Tryz.prog 42 #[.pointer (some ⟨R, 0, none⟩)] w fun e W' => ∃ v, e = .returned (.tuple #[.pointer none, v, .int .i64 20]) ∧ BBn (fun _ => True) W' v [] ∧ Below w.heap.size w W' := by
  refine (open_walk (some ⟨R, 0, none⟩) w 20 (fun W' => Below w.heap.size w W') (fun w' hi => ?_) (fun h => by cases h) (fun _ h => h.drew)).mono ?_
  · refine (order_walk _ _ _ w' hi.2.1 (fun k W => k = 0 ∧ InO (some ⟨R, 0, none⟩) w W) (fun r W => r = 20 ∧ Below w.heap.size w W) ⟨rfl, hi⟩ (fun w1 _ hq => ?_) (fun _ _ hq => by cases hq.1) (fun _ _ hq => by cases hq.1) (fun _ _ hq => by cases hq.1) (fun _ _ hq => by cases hq.1)).mono ?_
    · refine (l_ready P (P.keep hp (Only.of_grew (F := fun _ => False) hq.2.1) (fun _ _ => id)) (G := fun k => k = w.heap.size) ⟨hq.2.2.2.1, rfl⟩).mono fun e W' ⟨he, hb⟩ => .inr ⟨20, by omega, ?_, rfl, hq.2.1.trans (Below.mono hb hq.2.1.size)⟩
      rw [DS.rdy_off hd] at he
      exact he
    · rintro e W' (⟨_, h, _⟩ | ⟨r, _, he, rfl, hb⟩)
      · cases h
      · exact ⟨he, hb⟩
  · rintro e W' ⟨hb, ⟨_, he⟩ | ⟨h, _⟩⟩
    · exact ⟨_, he, bb_nil _ _, hb⟩
    · cases h

theorem tk_err_ne {b : List UInt8} {e : Nat} (h : tk b = .err e) : e ≠ 0 := by
  cases hr : rdU b with
  | short => rw [tk_of_short hr] at h; cases h; decide
  | form r => rw [tk_of_form hr] at h; cases h; decide
  | ok n r =>
    rw [tk_of_ok hr] at h
    unfold tkR at h
    split at h
    · cases h; decide
    · split at h
      · cases h; decide
      · split at h <;> cases h
        decide
/-- Where there is no error, all is read. -/
theorem al_all : ∀ (k : Nat) (b : List UInt8), b.length ≤ k → (al b).2.2 = 0 → (al b).2.1 = b.length
  | 0, b, h, _ => by
    obtain rfl : b = [] := List.eq_nil_of_length_eq_zero (by omega)
    rw [al_nil]; simp
  | k + 1, b, h, h0 => by
    by_cases hb : b = []
    · subst hb; rw [al_nil]; simp
    · cases ht : tk b with
      | err e =>
        rw [al_err hb ht] at h0
        exact absurd h0 (tk_err_ne ht)
      | ok x m =>
        have hp := tk_pos ht
        rw [al_ok ht] at h0 ⊢
        have := al_all k (b.drop m) (by rw [List.length_drop]; omega) h0
        rw [List.length_drop] at this
        show m + _ = _
        omega

/-- What an opening knows ahead of its first cut. -/
def QO (P : DiskK) (F : Nat → Prop) (w : World) (R : Nat) (s : DS) (xs : List (List UInt8)) (n : Nat) (W : World) : Prop :=
  Below w.heap.size w W ∧ W.heap[w.heap.size]? = some (.cells #[.pointer (some ⟨R, 0, none⟩)] 120 (0, 0)) ∧ P.Pl F W R s ∧ OS w.heap.size (w.heap.size + 1) w.heap.size xs n W
theorem QO.of {w' : World} (hp : P.Pl F w R s) (hi : InO (some ⟨R, 0, none⟩) w w') : QO P F w R s [] 0 w' :=
  ⟨hi.1, hi.2.2.1, P.keep hp (Only.of_grew (F := fun _ => False) hi.1) (fun _ _ => id), .slice none 0 0, [], hi.2.2.2, World.ownsRow_nil _ _ _ _, ⟨rfl, fun i h => by simp at h⟩⟩
theorem QO.ready {xs : List (List UInt8)} {n : Nat} {W : World} (h : QO P F w R s xs n W) (hd : s.dead = false) (S : Nat) (hS : S < W.heap.size) : Calls Tryz.prog 65 #[.pointer (some ⟨w.heap.size, 0, none⟩)] W fun e W' => e = .returned (.int .i64 0) ∧ W'.heap[S]? = W.heap[S]? ∧ QO P F w R s xs n W' := by
  refine (l_ready P h.2.2.1 (G := fun k => k = w.heap.size) ⟨h.2.1, rfl⟩).mono fun e W' ⟨he, hb⟩ => ⟨?_, hb.block S hS, h.1.trans (Below.mono hb h.1.size), (hb.block _ (Array.getElem?_eq_some_iff.1 h.2.1).1).trans h.2.1, P.keep h.2.2.1 (Only.of_grew (F := fun _ => False) hb) (fun _ _ => id), h.2.2.2.grew hb⟩
  rw [DS.rdy_on hd] at he
  exact he

theorem l_OpenBad (hT : Tab w) (hp : P.Pl F w R s) (hd : s.dead = false) (ho : (opn s.A s.y).2.2 = 22) (hl : s.A.length ≤ 100000) : Calls Tryz.prog 42 #[.pointer (some ⟨R, 0, none⟩)] w fun e W' => ∃ v, e = .returned (.tuple #[.pointer none, v, .int .i64 22]) ∧ BBn (fun _ => True) W' v [] ∧ Below w.heap.size w W' := by
  have hy := P.sy hp
  have hne : (al (s.A.take s.y)).2.2 ≠ 0 := fun h0 => by
    have h1 := al_all _ _ (Nat.le_refl _) h0
    rw [List.length_take_of_le hy] at h1
    rw [opn_ok h0 h1] at ho
    cases ho
  refine (open_walk (some ⟨R, 0, none⟩) w 22 (fun W' => Below w.heap.size w W') (fun w' hi => ?_) (fun h => by cases h) (fun _ h => h.drew)).mono ?_
  · refine (order_walk _ _ _ w' hi.2.1 (fun k W => (k = 0 ∨ k = 1) ∧ QO P F w R s [] 0 W) (fun r W => r = 22 ∧ Below w.heap.size w W) ⟨.inl rfl, QO.of P hp hi⟩ (fun w1 hs hq => ?_) (fun w1 hs hq => ?_) (fun _ _ hq => by simp at hq) (fun _ _ hq => by simp at hq) (fun _ _ hq => by simp at hq)).mono ?_
    · exact (QO.ready P hq.2 hd _ (Array.getElem?_eq_some_iff.1 hs).1).mono fun e W' ⟨he, hb, hk⟩ => .inl ⟨he, hb, .inr rfl, hk⟩
    · refine (l_readSynced hT hq.2.1 hq.2.2.2.1 hq.2.2.1 hq.2.2.2.2 (by omega) (P.lt hp) hl).mono fun e W' ⟨he, hb, _⟩ => .inr ⟨22, by omega, ?_, rfl, hb⟩
      rcases he with ⟨h, _⟩ | ⟨_, h⟩
      · exact absurd h hne
      · exact h
    · rintro e W' (⟨_, h, _⟩ | ⟨r, _, he, rfl, hb⟩)
      · simp at h
      · exact ⟨he, hb⟩
  · rintro e W' ⟨hb, ⟨_, he⟩ | ⟨h, _⟩⟩
    · exact ⟨_, he, bb_nil _ _, hb⟩
    · cases h

/-- What an opening knows from its cut on: the records lie apart from the disk. -/
def QC (P : DiskK) (F : Nat → Prop) (w : World) (R : Nat) (s : DS) (xs : List (List UInt8)) (W : World) : Prop :=
  ∃ F' M v x, w.heap.size + 2 < M ∧ M ≤ W.heap.size ∧ P.Pl F' W R s ∧ Only F w W ∧ (∀ k, F' k → F k ∨ M ≤ k) ∧ W.heap[w.heap.size]? = some (.cells #[.pointer (some ⟨R, 0, none⟩)] 120 (0, 0)) ∧
    W.heap[w.heap.size + 1]? = some (.cells #[.pointer (some ⟨w.heap.size, 0, none⟩), v, .int .i64 x] 122 (0, 0)) ∧ BBn (fun k => w.heap.size ≤ k ∧ k < M ∧ k ≠ w.heap.size) W v xs
theorem QO.rows {xs : List (List UInt8)} {n : Nat} {W : World} (h : QO P F w R s xs n W) : ∃ v, W.heap[w.heap.size + 1]? = some (.cells #[.pointer (some ⟨w.heap.size, 0, none⟩), v, .int .i64 (n : Int)] 122 (0, 0)) ∧ BBn (fun k => w.heap.size ≤ k ∧ k < W.heap.size ∧ k ≠ w.heap.size) W v xs := by
  obtain ⟨v, vs, k1, k2, k3⟩ := h.2.2.2
  refine ⟨v, k1, BBn.of_own k2 k3 (fun k hk => ?_) (fun b cur hb hbl => ⟨hb, (Array.getElem?_eq_some_iff.1 hbl).1, fun e => ?_⟩)⟩
  · obtain ⟨cs, hc⟩ := own_typed k2 k hk
    refine ⟨(k2.lt k hk).1, (k2.lt k hk).2, fun e => ?_⟩
    rw [e, h.2.1] at hc
    exact absurd hc (by simp)
  · rw [e, h.2.1] at hbl
    exact absurd hbl (by simp)

theorem QC.drew {xs : List (List UInt8)} {W : World} (h : QC P F w R s xs W) : QC P F w R s xs W.drew := by
  obtain ⟨F1, M, v, x, hM, hW, k1, k2, k3, k4, k5, k6⟩ := h
  have ho := Only.drew (Only.refl (fun _ => False) W)
  exact ⟨F1, M, v, x, hM, hW, P.keep k1 ho (fun _ _ => id), k2.drew, k3, k4, k5, k6.keep ho (fun _ _ => id)⟩
/-- A call that changes the disk alone. -/
theorem QC.of {s' : DS} {F1 F2 : Nat → Prop} {M : Nat} {v : Value} {x : Int} {xs : List (List UInt8)} {W W' : World} (hF : ∀ k, F k → k < w.heap.size) (hM : w.heap.size + 2 < M) (hW : M ≤ W.heap.size) (ho : Only F w W) (h1 : ∀ k, F1 k → F k ∨ M ≤ k)
    (hlog : W.heap[w.heap.size]? = some (.cells #[.pointer (some ⟨R, 0, none⟩)] 120 (0, 0))) (hopn : W.heap[w.heap.size + 1]? = some (.cells #[.pointer (some ⟨w.heap.size, 0, none⟩), v, .int .i64 x] 122 (0, 0)))
    (hb : BBn (fun k => w.heap.size ≤ k ∧ k < M ∧ k ≠ w.heap.size) W v xs) (k1 : P.Pl F2 W' R s') (k2 : Only F1 W W') (k3 : ∀ k, F2 k → F1 k ∨ W.heap.size ≤ k) : QC P F w R s' xs W' := by
  have hn : ∀ k, w.heap.size ≤ k → k < M → ¬ F1 k := fun k a b hf => by
    rcases h1 k hf with h | h
    · have := hF k h; omega
    · omega
  refine ⟨F2, M, v, x, hM, Nat.le_trans hW k2.size, k1, ho.trans k2 (fun k hk => (h1 k hk).elim .inl (fun h => .inr (by omega))), fun k hk => ?_, k2.blk hlog (hn _ (by omega) (by omega)), k2.blk hopn (hn _ (by omega) (by omega)), hb.keep k2 (fun k hk => hn k hk.1 hk.2.1)⟩
  rcases k3 k hk with h | h
  · exact h1 k h
  · exact .inr (Nat.le_trans hW h)

theorem l_Opens (hT : Tab w) (hp : P.Pl F w R s) (hd : s.dead = false) (ho : (opn s.A s.y).2.2 = 0) (hl : s.A.length ≤ 100000) : Calls Tryz.prog 42 #[.pointer (some ⟨R, 0, none⟩)] w fun e W' => ∃ B v F' G, e = .returned (.tuple #[.pointer (some ⟨B, 0, none⟩), v, .int .i64 0]) ∧
    P.Pl F' W' R s.opened ∧ LgQ G W' B R ∧ BBn (fun k => w.heap.size ≤ k ∧ ¬ F' k ∧ ¬ G k) W' v (opn s.A s.y).1 ∧ Only F w W' ∧ (∀ k, F' k → F k ∨ w.heap.size ≤ k) ∧ ∀ k, G k → w.heap.size ≤ k ∧ ¬ F' k := by
  have hy := P.sy hp
  have hF := P.lt hp
  have h0 : (al (s.A.take s.y)).2.2 = 0 := by
    by_cases h : (al (s.A.take s.y)).2.2 = 0 ∧ (al (s.A.take s.y)).2.1 = s.y
    · exact h.1
    · rw [opn_bad h] at ho; cases ho
  have h1 : (al (s.A.take s.y)).2.1 = s.y := by rw [al_all _ _ (Nat.le_refl _) h0, List.length_take_of_le hy]
  have hop := opn_ok h0 h1
  have hle := opn_le hy
  have hye : s.y ≤ (opn s.A s.y).2.1 := by rw [hop]; exact Nat.le_add_right _ _
  have hcn := al_count (s.A.take s.y)
  rw [List.length_take_of_le hy] at hcn
  have hcut : s.cut ((opn s.A s.y).2.1 : Int) = ({ s with A := s.A.take (opn s.A s.y).2.1 }, 0) := by
    rw [DS.cut, if_neg (by rw [hd]; simp), if_neg (by omega)]
    simp
  have hsy : DS.sync { s with A := s.A.take (opn s.A s.y).2.1 } = (s.opened, 0) := by
    rw [DS.sync, if_neg (by simpa using hd), DS.opened]
    simp only [List.length_take_of_le hle]
  refine (open_walk (some ⟨R, 0, none⟩) w 0 (QC P F w R s.opened (opn s.A s.y).1) (fun w' hi => ?_) (fun _ W' hq => ?_) (fun _ h => QC.drew P h)).mono ?_
  · refine (order_walk _ _ _ w' hi.2.1 (fun k W => match k with
      | 0 => QO P F w R s [] 0 W
      | 1 => QO P F w R s [] 0 W
      | 2 => QO P F w R s (al (s.A.take s.y)).1 s.y W
      | 3 => QO P F w R s (opn s.A s.y).1 (opn s.A s.y).2.1 W
      | 4 => QC P F w R { s with A := s.A.take (opn s.A s.y).2.1 } (opn s.A s.y).1 W
      | _ => QC P F w R s.opened (opn s.A s.y).1 W) (fun _ _ => False) (QO.of P hp hi) (fun w1 hs hq => ?_) (fun w1 hs hq => ?_) (fun w1 hs hq => ?_) (fun w1 hs hq => ?_) (fun w1 hs hq => ?_)).mono ?_
    · exact (QO.ready P hq hd _ (Array.getElem?_eq_some_iff.1 hs).1).mono fun e W' ⟨he, hb, hk⟩ => .inl ⟨he, hb, hk⟩
    · refine (l_readSynced hT hq.1 hq.2.2.1 hq.2.1 hq.2.2.2 (by omega) hF hl).mono fun e W' ⟨he, hb, hsT, hpl, hos⟩ => .inl ⟨?_, ?_, hb, ?_, hpl, ?_⟩
      · rcases he with ⟨_, h⟩ | ⟨h, _⟩
        · exact h
        · exact absurd h0 h
      · exact (hsT _ _ _ (by decide) hs).trans hs.symm
      · exact hsT _ _ _ (by decide) hq.2.1
      · rw [h1] at hos
        exact hos
    · refine (l_readRest hT hq.1 hq.2.2.1 hq.2.1 hq.2.2.2 (by omega) hF hl (by omega) hy).mono fun e W' ⟨he, hb, hsT, hpl, hos⟩ => .inl ⟨he, ?_, hb, ?_, hpl, ?_⟩
      · exact (hsT _ _ _ (by decide) hs).trans hs.symm
      · exact hsT _ _ _ (by decide) hq.2.1
      · rw [hop]
        exact hos
    · obtain ⟨v, hopn, hbb⟩ := QO.rows P hq
      have hS := (Array.getElem?_eq_some_iff.1 hs).1
      have nF : ∀ k, w.heap.size ≤ k → ¬ F k := fun k hk hf => absurd (hF k hf) (Nat.not_lt.2 hk)
      refine (l_cutRest hq.2.2.1 hq.2.1 hopn ⟨by omega, by omega⟩ (nF _ (by omega)) (nF _ (Nat.le_refl _))).mono fun e W' ⟨he, F', k1, k2, k3⟩ => .inl ⟨?_, ?_, ?_⟩
      · rw [hcut] at he
        exact he
      · exact k2.block _ hS (nF _ (by omega))
      · rw [hcut] at k1
        exact QC.of P hF hS (Nat.le_refl _) (Only.of_below_F hq.1) (fun k h => .inl h) hq.2.1 hopn hbb k1 k2 k3
    · obtain ⟨F1, M, v, x, hM, hW, k1, k2, k3, k4, k5, k6⟩ := hq
      refine (l_LogSyncT P k1 (G := fun k => k = w.heap.size) ⟨k4, rfl⟩).mono fun e W' ⟨he, F2, j1, j2, j3⟩ => .inl ⟨?_, ?_, ?_⟩
      · rw [hsy] at he
        exact he
      · refine j2.block _ (Array.getElem?_eq_some_iff.1 hs).1 (fun hf => ?_)
        rcases k3 _ hf with h | h
        · have := hF _ h; omega
        · omega
      · rw [hsy] at j1
        exact QC.of P hF hM hW k2 k3 k4 k5 k6 j1 j2 j3
    · rintro e W' (⟨he, hq⟩ | ⟨_, _, _, h⟩)
      · exact ⟨he, hq⟩
      · exact h.elim
  · obtain ⟨F1, M, v, x, hM, hW, k1, k2, k3, k4, k5, k6⟩ := hq
    exact ⟨v, x, k5⟩
  · rintro e W' ⟨⟨F1, M, v, x, hM, hW, k1, k2, k3, k4, k5, k6⟩, ⟨h, _⟩ | ⟨_, v', x', k7, rfl⟩⟩
    · exact absurd rfl h
    · rw [k5] at k7
      obtain ⟨rfl, rfl⟩ : v = v' ∧ x = x' := by simpa using k7
      have nF1 : ∀ k, w.heap.size ≤ k → k < M → ¬ F1 k := fun k a b hf => by
        rcases k3 k hf with h | h
        · have := hF k h; omega
        · omega
      refine ⟨w.heap.size, v, F1, fun k => k = w.heap.size, rfl, k1, ⟨k4, rfl⟩, ?_, k2, fun k hk => (k3 k hk).elim .inl (fun h => .inr (by omega)), fun k hk => ?_⟩
      · obtain ⟨A, L, c, e, hL, hc, hA⟩ := k6
        refine ⟨A, L, c, e, hL, hc, fun hn => ?_⟩
        obtain ⟨b, o, eA, nb, lb, hr⟩ := hA hn
        refine ⟨b, o, eA, ⟨nb.1, nF1 b nb.1 nb.2.1, nb.2.2⟩, lb, fun i hi => ?_⟩
        obtain ⟨A', L', c', h1, h2, h3, h4⟩ := hr i hi
        refine ⟨A', L', c', h1, h2, h3, fun hn' => ?_⟩
        obtain ⟨b', o', e', nb', lb', hr'⟩ := h4 hn'
        exact ⟨b', o', e', ⟨nb'.1, nF1 b' nb'.1 nb'.2.1, nb'.2.2⟩, lb', hr'⟩
      · subst hk
        exact ⟨Nat.le_refl _, nF1 _ (Nat.le_refl _) (by omega)⟩
end

/-- The program's log keeps what the walks ask, on any disk that does. -/
def lRec (P : DiskK) : RecK P where
  Lg := LgQ
  keep := LgQ.keep
  lt := LgQ.lt
  openNil := l_OpenNil
  appNil := l_AppendNil
  syncNil := l_SyncNil
  openDead := fun _ hp hd _ => l_OpenDead P hp hd
  openBad := fun hT hp hd ho hl => l_OpenBad P hT hp hd ho hl
  opens := fun hT hp hd ho hl _ => l_Opens P hT hp hd ho hl
  app := fun A L c x hT hp hg hd hL hLc hm hl hA _ => l_LogAppend P A L c x hT hp hg hd hL hLc hm hl hA
  sync := fun hp hg hd => l_LogSync P hp hg hd
end Go.Proofs.YtdiihaeelcbjbaaGreatDoor
