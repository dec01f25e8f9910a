/- inOrder: a table's clients in their order with their sessions, for a range over a function. The four statements of a round of Put: the bytes of a client, a number, a code, a text behind the captured ones. Put of a table of sessions: its bytes behind given ones. -/
import Derived.Test.YthmmbopibpdpiaaGreatDoorMSqK
import Derived.Test.YthmmbopibpdpiaaGreatDoorMSqA
import Derived.RangeFuncBox
import Derived.Shelf.Abstract
import Derived.Shelf.RegionOpen
import Derived.WalkMore
import Derived.Test.YthmmbopibpdpiaaGreatDoorConcat
import Derived.Test.YthmmbopibpdpiaaGreatDoorVarTxt
-- SqI
namespace Go.Proofs.YthmmbopibpdpiaaGreatDoor
open Go.RowKit Go.Maps Go.Sort Go.Shelf
attribute [local go_sem] Oper.semAt_some

def eAt (l : List SE) (i : Nat) : SE := l[i]?.getD ⟨0, 0, 0, ⟨#[]⟩⟩
theorem eAt_at {l : List SE} {i : Nat} (h : i < l.length) : eAt l i = l[i] := by simp [eAt, h]
/-- A round: the entry's place, and the row of the clients. -/
def pairE (l : List SE) (x : Nat × Value) : Array Value := #[cV (eAt l x.1).cl, sessV (eAt l x.1)]
def KeysWS (l : List SE) (v : Value) (W : World) : Prop := W.ownsRow 0 31 1 v l.length ((l.map (·.cl)).map cV)
theorem lookS_at {l : List SE} (hs : SortedE l) {j : Nat} (hj : j < l.length) : lookS l l[j].cl = some l[j] := by
  unfold lookS
  rw [List.find?_eq_some_iff_getElem]
  refine ⟨by simp, j, hj, rfl, fun i hi => ?_⟩
  have := List.pairwise_iff_getElem.1 hs i j (by omega) hj hi
  simp
  omega
theorem valS_at {l : List SE} (hs : SortedE l) {j : Nat} (hj : j < l.length) : valS l l[j].cl = l[j] := by rw [valS, lookS_at hs hj, Option.getD_some]
set_option maxRecDepth 100000 in
set_option maxHeartbeats 4000000 in
theorem order_seqS (n : Nat) (hn : 1 ≤ n) (w0 : World) (a : Value) (p : Option Nat) (l : List SE) (h : MapOS w0 p l) (hall : ∀ W, Go.RowKit.Below w0.heap.size w0 W → Calls Tryz.prog 48 #[a] W fun e W' => e = .returned (.map p) ∧ W' = W) (hs : SortedE l) (hl : l.length ≤ 1000000) (hcl : ∀ e ∈ l, e.cl < 4294967296) (B : Nat) (J : Nat → World → Prop)
    (hJb : ∀ i W, J i W → Go.RowKit.Below w0.heap.size w0 W) (hJ0 : ∀ W W', J 0 W → Go.RowKit.Below W.heap.size W W' → J 0 W') :
    TiedSeq Fence.wide n Tryz.prog 37 #[a] #[] (pairE l) B
      (J 0) (J l.length) (fun x W => J x.1 W ∧ KeysWS l x.2 W ∧ x.1 < l.length) (fun x W => J (x.1 + 1) W ∧ KeysWS l x.2 W) (fun _ _ => False) (fun _ _ => False) := by
  intro y G Gx hG hGx hY W h0 hGW
  refine callsIn_of_wp Tryz.func37 rfl trivial ?_ rfl
  simp only [Tryz.ntmps37, List.size_toArray, List.length_cons, List.length_nil, Nat.reduceAdd, Nat.reduceSub, Array.replicate_succ, Array.replicate_zero, List.push_toArray, List.append_toArray, List.nil_append, List.cons_append]
  have HY := Lib.hid hY
  have H0 := Lib.hid h0
  have HG := Lib.hid hG
  have HGW := Lib.hid hGW
  have HST := Lib.hid h
  have HJB := Lib.hid hJb
  have HJ0 := Lib.hid hJ0
  have HSL := Lib.hid (And.intro hs (And.intro hl hcl))
  have HA := Lib.hid (hall W (hJb 0 W h0))
  have HK := Lib.hid (keys_anyS p W)
  have HSO := Lib.hid (sorted_anyS (h.below (hJb 0 W h0)) hs hl)
  clear hY h0 hG hGx hGW h hall hJb hJ0 hs hl hcl
  gi_wp2_with fail
  refine ⟨trivial, ?_⟩
  refine (callsIn_wide.2 HA.out).mono ?_
  rintro e W1 ⟨rfl, rfl⟩
  gi_wp2_with fail
  refine ⟨trivial, ?_⟩
  refine (callsIn_wide.2 HK.out).mono ?_
  rintro e W2 ⟨rfl, rfl⟩
  gi_wp2_with fail
  refine ⟨trivial, ?_⟩
  refine (callsIn_wide.2 HSO.out).mono ?_
  rintro e W3 ⟨v, rfl, ho, hb3⟩
  obtain ⟨A3, c3, rfl⟩ := own_form ho
  obtain ⟨N, hN⟩ : ∃ N, N = l.length := ⟨_, rfl⟩
  rw [← hN] at ho ⊢
  have HO := Lib.hid (show KeysWS l (.slice A3 N c3) W3 by unfold KeysWS; rw [← hN]; exact ownU_mono ho (Nat.zero_le _))
  have HJ3 := Lib.hid (HJ0.out _ _ H0.out hb3)
  have HG3 := Lib.hid (HG.out _ _ HGW.out (KeepsFrom.of_grownBy (grownBy_of_below (r := none) hb3) (fun j e => by cases e)))
  have HNL := Lib.hid hN
  have hNi : (N : Int) ≤ 1000000 := by have := HSL.out.2.1; omega
  clear ho hb3 hN HA HK HSO H0 HGW
  gi_wp2
  gi_loopw [13] (fun i wr => ∃ j : Nat, i = .int .i64 (j : Int) ∧ j ≤ N ∧ Hid (J j wr) ∧ Hid (KeysWS l (.slice A3 N c3) wr) ∧ Hid (G wr)) (fun i _ => N - (intOf i).toNat)
  case atStart => exact ⟨0, rfl, Nat.zero_le _, HJ3.out, HO.out, HG3.out⟩
  case round =>
    obtain ⟨j, rfl, hj, hJ, hK, hg⟩ := hrel
    by_cases hlt : j < N
    · have hji : (j : Int) < (N : Int) := by omega
      have hjl : j < l.length := by have := HNL.out; omega
      have hOj := hK.out
      obtain ⟨kb, ke⟩ : ∃ kb, A3 = some ⟨kb, 0, none⟩ := by
        rcases hOj.2 with ⟨_, e0⟩ | ⟨g, cap, cur, e, _⟩
        · omega
        · cases e; exact ⟨g, rfl⟩
      subst ke
      have g1 : wr.cell? ⟨kb, j, none⟩ = some (.int .u32 (l[j].cl : Int)) := by
        have := World.ownsRow.cells hOj (g := kb) rfl j (cV l[j].cl) (by simp [hjl])
        rwa [addr_add, Nat.zero_add] at this
      have hget := (HST.out.below (HJB.out j wr hJ.out)).get (c := l[j].cl) (HSL.out.2.2 _ (List.getElem_mem hjl))
      rw [valS_at HSL.out.1 hjl] at hget
      obtain ⟨fn, tmps, assign, body, hy, hRR⟩ := HY.out (j, .slice (some ⟨kb, 0, none⟩) N c3) wr ⟨hJ.out, hK.out, hjl⟩ hg.out
      have hpv : pairE l (j, .slice (some ⟨kb, 0, none⟩) N c3) = #[.int .u32 (l[j].cl : Int), sessV l[j]] := by
        simp only [pairE, eAt_at hjl, cV]
      rw [hpv] at hy
      obtain ⟨c, hc⟩ : ∃ c, c = l[j].cl := ⟨_, rfl⟩
      obtain ⟨u, hu⟩ : ∃ u, u = sessV l[j] := ⟨_, rfl⟩
      rw [← hc] at hy hget g1
      rw [← hu] at hy hget
      clear hOj hc hu hpv
      gi_wp2
      refine hRR.mono ?_
      rintro e W4 (⟨rfl, hIo, hG4⟩ | ⟨rfl, cc, hf, _⟩)
      · have HIo := Lib.hid hIo
        have HG4 := Lib.hid hG4
        clear hIo hG4 hy
        gi_wp2
        refine ⟨⟨j + 1, by congr 1, by omega, HIo.out.1, HIo.out.2, HG4.out⟩, by simp only [intOf]; omega⟩
      · exact hf.elim
    · have hji : ¬ (j : Int) < (N : Int) := by omega
      obtain rfl : j = N := by omega
      gi_wp2
      go_end0
      exact ⟨⟨_, rfl⟩, by rw [← HNL.out]; exact hJ.out, hg.out⟩
end Go.Proofs.YthmmbopibpdpiaaGreatDoor

-- SqR
namespace Go.Proofs.YthmmbopibpdpiaaGreatDoor
open Go.RowKit

theorem run_ldB (w : World) (p : Addr) (v : Value) (h : w.cell? p = some v) : (Instr.loadAt 22 (.pointer (some p))).run Tryz.prog w = .ok v w := by
  simp [go_sem, h]
theorem run_ldU (w : World) (p : Addr) (v : Value) (h : w.cell? p = some v) : (Instr.loadAt 31 (.pointer (some p))).run Tryz.prog w = .ok v w := by
  simp [go_sem, h]
theorem run_ldC (w : World) (p : Addr) (v : Value) (h : w.cell? p = some v) : (Instr.loadAt 5 (.pointer (some p))).run Tryz.prog w = .ok v w := by
  simp [go_sem, h]
theorem run_ldT (w : World) (p : Addr) (v : Value) (h : w.cell? p = some v) : (Instr.loadAt 9 (.pointer (some p))).run Tryz.prog w = .ok v w := by
  simp [go_sem, h]
theorem run_fdS0 (w : World) (q o : Nat) : (Instr.fieldAt 82 (.pointer (some ⟨q, o, none⟩)) 0).run Tryz.prog w = .ok (.pointer (some ⟨q, o, none⟩)) w := by
  first
    | kernel_rfl
    | (simp [go_sem, Instr.fieldAt]; done)
theorem run_fdS1 (w : World) (q o : Nat) : (Instr.fieldAt 82 (.pointer (some ⟨q, o, none⟩)) 1).run Tryz.prog w = .ok (.pointer (some ⟨q, o + 1, none⟩)) w := by
  first
    | kernel_rfl
    | (simp [go_sem, Instr.fieldAt]; done)
theorem run_fdR0 (w : World) (q o : Nat) : (Instr.fieldAt 36 (.pointer (some ⟨q, o, none⟩)) 0).run Tryz.prog w = .ok (.pointer (some ⟨q, o, none⟩)) w := by
  first
    | kernel_rfl
    | (simp [go_sem, Instr.fieldAt]; done)
theorem run_fdR1 (w : World) (q o : Nat) : (Instr.fieldAt 36 (.pointer (some ⟨q, o, none⟩)) 1).run Tryz.prog w = .ok (.pointer (some ⟨q, o + 1, none⟩)) w := by
  first
    | kernel_rfl
    | (simp [go_sem, Instr.fieldAt]; done)
theorem run_cv32 (w : World) (m : Nat) (h : m < 4294967296) : (convert 31 39 (.int .u32 (m : Int))).run Tryz.prog w = .ok (.int .u64 (m : Int)) w := by
  simp [go_sem, IntKind.wrap_u64]
  omega
theorem run_cv8 (w : World) (m : Nat) (h : m < 256) : (convert 5 39 (.int .u8 (m : Int))).run Tryz.prog w = .ok (.int .u64 (m : Int)) w := by
  simp [go_sem, IntKind.wrap_u64]
  omega
theorem run_stB (w : World) (b : Nat) (A' : Option Addr) (n c : Nat) (u : Value) (h : w.cell? ⟨b, 0, none⟩ = some u) (hf : w.frozen? ⟨b, 0, none⟩ = false) : (Instr.storeAt 22 (.pointer (some ⟨b, 0, none⟩)) (.slice A' n c)).run Tryz.prog w = .ok () (w.setCell ⟨b, 0, none⟩ (.slice A' n c)) := by
  simp [go_sem, h, hf]
theorem vb_short (m : Nat) (h : m < 18446744073709551616) : (vb m).length ≤ 2000000 := by
  have := vb_len10 (n := m) h
  omega

def oPa0 (p : String) : Oper := { dst := some 16, op := Op.load 22 (Operand.tmp 5), type := 22, pos := p, after := #[], guard := none }
def oPa1 (p : String) : Oper := { dst := some 17, op := Op.move (Operand.tmp 6), type := 31, pos := p, after := #[], guard := none }
def oPa2 (p : String) : Oper := { dst := some 18, op := Op.convert 31 39 (Operand.tmp 17), type := 39, pos := p, after := #[{ on := 1, ground := Ground.data }], guard := none }
def oPa3 (p : String) : Oper := { dst := some 19, op := Op.call { callee := Callee.value (Operand.func 16), args := #[Operand.const (Value.slice none 0 0), Operand.tmp 18], argTypes := #[22, 39] }, type := 22, pos := p, after := #[{ on := 2, ground := Ground.data }], guard := none }
def oPa4 (p : String) : Oper := { dst := some 20, op := Op.call { callee := Callee.builtin Builtin.append, args := #[Operand.tmp 16, Operand.tmp 19], argTypes := #[22, 22] }, type := 22, pos := p, after := #[{ on := 0, ground := Ground.data }, { on := 3, ground := Ground.data }, { on := 3, ground := Ground.chain }], guard := none }
def oPa5 (p : String) : Oper := { dst := none, op := Op.store 22 (Operand.tmp 5) (Operand.tmp 20), type := 0, pos := p, after := #[{ on := 4, ground := Ground.data }, { on := 4, ground := Ground.chain }, { on := 0, ground := Ground.phase }, { on := 1, ground := Ground.phase }, { on := 2, ground := Ground.phase }, { on := 3, ground := Ground.phase }, { on := 4, ground := Ground.phase }], guard := none }
def opsPa (p : String) : List Oper := [oPa0 p, oPa1 p, oPa2 p, oPa3 p]
theorem opsPa_back (p : String) : backwards (opsPa p ++ [oPa4 p, oPa5 p]) = true := by kernel_rfl
theorem opsPa_slots (p : String) : slotsOk 44 (opsPa p) = true := by kernel_rfl
theorem opsPa_all (p : String) : ((List.range ((opsPa p).length + 1)).all (hasEdge (oPa5 p))) = true := by kernel_rfl
theorem opsPa_pen (p : String) (L : Nat → Bool) (hcl : ∀ j o' e, (opsPa p ++ [oPa4 p, oPa5 p]).toArray[j]? = some o' → L j = true → e ∈ o'.after → Region.binds .any e = true → L e.on = true) (hp : ∀ e ∈ (oPa4 p).after, Region.binds .any e = true → L e.on = true) : ∀ j, j < (opsPa p).length → L j = true := by
  have h0 : L 0 = true := hp { on := 0, ground := Ground.data } (by simp [oPa4]) rfl
  have h3 : L 3 = true := hp { on := 3, ground := Ground.data } (by simp [oPa4]) rfl
  have h2 : L 2 = true := hcl 3 (oPa3 p) { on := 2, ground := Ground.data } rfl h3 (by simp [oPa3]) rfl
  have h1 : L 1 = true := hcl 2 (oPa2 p) { on := 1, ground := Ground.data } rfl h2 (by simp [oPa2]) rfl
  intro j hj
  have hj' : j < 4 := hj
  rcases j with _ | _ | _ | _ | j
  · exact h0
  · exact h1
  · exact h2
  · exact h3
  · omega
def psiPa (v : Value) (m : Nat) (ys : List UInt8) : Nat → Value → World → Prop
  | 0, u, _ => u = v
  | 1, u, _ => u = .int .u32 (m : Int)
  | 2, u, _ => u = .int .u64 (m : Int)
  | 3, u, w => IsB w u ys
  | _, _, _ => True
theorem psiPa_grew (v : Value) (m : Nat) (ys : List UInt8) : ∀ i u w w', psiPa v m ys i u w → Grew w w' → psiPa v m ys i u w' := by
  intro i u w w' h hg
  rcases i with _ | _ | _ | _ | i
  · exact h
  · exact h
  · exact h
  · exact IsB.grew h hg
  · trivial
set_option maxRecDepth 100000 in
set_option maxHeartbeats 4000000 in
theorem put_regionPa {p : String} (l n : Nat) (hn : 1 ≤ n) (B g : Nat) (v : Value) (m : Nat) (xs : List UInt8) (hx : xs.length ≤ 100000000) (hy : m < 4294967296) (a : Act) (w : World) (Q : Exit → Act → World → Prop) (hN : a.tmps.size = 44)
    (h0 : a.tmps.getD 6 undef = .int .u32 (m : Int)) (h1 : a.tmps.getD 5 undef = .pointer (some ⟨g, 0, none⟩)) (hg : w.heap[g]? = some (.cells #[v] 22 (0, 0))) (hown : w.ownsRow B 5 1 v xs.length (xs.map enc)) (hB : B ≤ w.heap.size)
    (hQ : ∀ (u v' : Value) (W1 W2 : World), Grew w W1 → W2.ownsRow B 5 1 v' (xs.length + (vb m).length) ((xs ++ vb m).map enc) → W1.grownBy W2 v.ownBlock → W2.heap[g]? = some (.cells #[v] 22 (0, 0)) → Q .normal (puts [(16, v), (17, .int .u32 (m : Int)), (18, .int .u64 (m : Int)), (19, u), (20, v')] a) (W2.setCell ⟨g, 0, none⟩ v')) :
    (Code.region 5 (opsPa p ++ [oPa4 p, oPa5 p]).toArray true).wpIn (Fence.wide.inRound l) n Tryz.prog Q a w := by
  obtain ⟨i0, hi, hz0, hz1, hz2⟩ := info_parts info5
  have hyl : (vb m).length ≤ 2000000 := vb_short m (by omega)
  have hgw : g < w.heap.size := (Array.getElem?_eq_some_iff.1 hg).1
  have hc : w.cell? ⟨g, 0, none⟩ = some v := by simpa using blk_cell hg 0
  obtain ⟨ys, hys⟩ : ∃ ys, ys = vb m := ⟨_, rfl⟩
  rw [← hys] at hQ hyl
  refine wpIn_region_two 44 hN follows (opsPa_back p) (opsPa_slots p) (opsPa_all p) (opsPa_pen p) Grew Grew.refl Grew.trans (psiPa v m ys) (psiPa_grew v m ys) ?_ ?_
  · intro i o d ho hd a' w' hF hR hp
    rcases i with _ | _ | _ | _ | i
    · obtain rfl : oPa0 p = o := Option.some.inj ho
      obtain rfl : 16 = d := Option.some.inj hd
      have hx : a'.eval (.tmp 5) = .pointer (some ⟨g, 0, none⟩) := hF.at 5 rfl h1
      exact step_run (o := oPa0 p) (v := v) (w' := w') rfl rfl (by intro c h; cases h) (by simp [Oper.about, oPa0]) (by simp [execOp, oPa0, hx, run_ldB w' _ v ((Below.cell hR.undraw (p := ⟨g, 0, none⟩) hgw).trans hc)]) ⟨_, rfl, rfl, Grew.refl _⟩
    · obtain rfl : oPa1 p = o := Option.some.inj ho
      obtain rfl : 17 = d := Option.some.inj hd
      have hx : a'.eval (.tmp 6) = .int .u32 (m : Int) := hF.at 6 rfl h0
      exact step_run (o := oPa1 p) (v := .int .u32 (m : Int)) (w' := w') rfl rfl (by intro c h; cases h) (by simp [Oper.about, oPa1]) (by simp [execOp, oPa1, hx]) ⟨_, rfl, rfl, Grew.refl _⟩
    · obtain rfl : oPa2 p = o := Option.some.inj ho
      obtain rfl : 18 = d := Option.some.inj hd
      have hx : a'.eval (.tmp 17) = .int .u32 (m : Int) := hp 1 (oPa1 p) 17 rfl rfl rfl
      exact step_run (o := oPa2 p) (v := .int .u64 (m : Int)) (w' := w') rfl rfl (by intro c h; cases h) (by simp [Oper.about, oPa2]) (by simp [execOp, oPa2, hx, run_cv32 w' m hy]) ⟨_, rfl, rfl, Grew.refl _⟩
    · obtain rfl : oPa3 p = o := Option.some.inj ho
      obtain rfl : 19 = d := Option.some.inj hd
      have hx : a'.tmps.getD 18 undef = .int .u64 (m : Int) := hp 2 (oPa2 p) 18 rfl rfl rfl
      refine step_call (o := oPa3 p) rfl rfl (xs := #[.const (.slice none 0 0), .tmp 18]) (ts := #[22, 39]) rfl trivial (fun _ => by omega) (enters_of Tryz.func16 (by kernel_rfl) rfl) ?_
      rw [show Array.map a'.eval #[.const (.slice none 0 0), .tmp 18] = #[.slice none 0 0, .int .u64 (m : Int)] from by simp only [List.map_toArray, List.map_cons, List.map_nil, Act.eval, hx]]
      refine (CallsIn.inRound l (callsIn_wide.2 (Uint_any none [] 0 0 m rfl (by omega) (by simp) w' (HasA.nil _ _ _)))).mono ?_
      rintro e w'' ⟨gg, L, c, rfl, ho, hb⟩
      rw [show ([] ++ vb m) = ys by rw [hys]; rfl] at ho
      exact ⟨_, rfl, _, rfl, IsB.own ho, hb⟩
    · exact absurd ((Array.getElem?_eq_some_iff.1 ho).1) (by simp [opsPa])
  · intro a' w' hF hR hp
    have e0 : a'.tmps.getD 16 undef = v := hp 0 (oPa0 p) 16 rfl rfl
    have e1 : a'.tmps.getD 17 undef = .int .u32 (m : Int) := hp 1 (oPa1 p) 17 rfl rfl
    have e2 : a'.tmps.getD 18 undef = .int .u64 (m : Int) := hp 2 (oPa2 p) 18 rfl rfl
    obtain ⟨A5, L5, c5, e3, hl5, hA5⟩ : IsB w' (a'.tmps.getD 19 undef) ys := hp 3 (oPa3 p) 19 rfl rfl
    have hgr := hR.undraw
    have hown' := own_below hown hgr
    obtain ⟨v', W2, hrun, hown2, hg2⟩ := run_append_has (P := Tryz.prog) (w := w') B 22 22 5 i0 Tryz.underlying22 hi hz0 hz1 hz2 v xs.length xs hown' _ A5 L5 c5 ys hl5 hA5 (by omega) (Nat.le_trans hB (Below.size hgr))
    obtain ⟨A3, c3, rfl⟩ := own_form hown2
    have hx3 : a'.eval (.tmp 16) = v := e0
    have hx5 : a'.eval (.tmp 19) = .slice A5 L5 c5 := e3
    refine step_run (o := oPa4 p) (v := .slice A3 (xs.length + L5) c3) (w' := W2) rfl rfl (by intro c h; cases h) (by simp [Oper.about, oPa4, resolve, Target.leads, Sem.run_pure]) (by
      unfold execOp
      simp only [oPa4, resolve, invoke, builtin, Sem.run_bind, Sem.run_pure, Result.andThen_ok, List.map_toArray, List.map_cons, List.map_nil, hx3, hx5, hrun]) ?_
    have hty := own_typed hown'
    have hb5' : w'.heap[g]? = some (.cells #[v] 22 (0, 0)) := SameT.grew (T := []) hgr _ _ _ (by simp) hg
    have hb52 : W2.heap[g]? = some (.cells #[v] 22 (0, 0)) := SameT.grown hg2 hty _ _ _ (by decide) hb5'
    have hx1 : (a'.put (some 20) (.slice A3 (xs.length + L5) c3)).eval (.tmp 5) = .pointer (some ⟨g, 0, none⟩) := (getD_put_ne (by decide)).trans (hF.at 5 rfl h1)
    have hx6 : (a'.put (some 20) (.slice A3 (xs.length + L5) c3)).eval (.tmp 20) = .slice A3 (xs.length + L5) c3 := getD_put_same (by rw [hF.size, hN]; decide)
    refine step_skip (o := oPa5 p) (w' := W2.setCell ⟨g, 0, none⟩ (.slice A3 (xs.length + L5) c3)) rfl rfl (by intro c h; cases h) (by simp [Oper.about, oPa5]) (by
      have hst := run_stB W2 g A3 (xs.length + L5) c3 v (by simpa using blk_cell hb52 0) (blk_frozen hb52 0)
      have h5x : (a'.put (oPa4 p).dst (.slice A3 (xs.length + L5) c3)).eval (.tmp 5) = .pointer (some ⟨g, 0, none⟩) := hx1
      have h23x : (a'.put (oPa4 p).dst (.slice A3 (xs.length + L5) c3)).eval (.tmp 20) = .slice A3 (xs.length + L5) c3 := hx6
      unfold execOp
      simp only [oPa5, h5x, h23x, Sem.run_bind, hst, Result.andThen_ok]
      rfl) ?_
    have hput : a'.put (some 20) (.slice A3 (xs.length + L5) c3) = puts [(16, v), (17, .int .u32 (m : Int)), (18, .int .u64 (m : Int)), (19, .slice A5 L5 c5), (20, .slice A3 (xs.length + L5) c3)] a := by
      have h1 := hF.puts [(16, v), (17, .int .u32 (m : Int)), (18, .int .u64 (m : Int)), (19, .slice A5 L5 c5)] (by
        intro x hx
        simp only [List.mem_cons, List.not_mem_nil, or_false] at hx
        rcases hx with rfl | rfl | rfl | rfl
        · exact e0
        · exact e1
        · exact e2
        · exact e3) rfl (by rw [hN]; rfl)
      conv => lhs; rw [h1]
      rfl
    show Q .normal (a'.put (some 20) (.slice A3 (xs.length + L5) c3)) _
    rw [hput]
    subst hl5
    exact hQ _ _ w' W2 hgr hown2 hg2 hb52
def oPb0 (p : String) : Oper := { dst := some 21, op := Op.load 22 (Operand.tmp 5), type := 22, pos := p, after := #[], guard := none }
def oPb1 (p : String) : Oper := { dst := some 22, op := Op.fieldAddr 82 (Operand.tmp 7) 0, type := 0, pos := p, after := #[], guard := none }
def oPb2 (p : String) : Oper := { dst := some 23, op := Op.load 31 (Operand.tmp 22), type := 31, pos := p, after := #[{ on := 1, ground := Ground.data }], guard := none }
def oPb3 (p : String) : Oper := { dst := some 24, op := Op.convert 31 39 (Operand.tmp 23), type := 39, pos := p, after := #[{ on := 2, ground := Ground.data }], guard := none }
def oPb4 (p : String) : Oper := { dst := some 25, op := Op.call { callee := Callee.value (Operand.func 16), args := #[Operand.const (Value.slice none 0 0), Operand.tmp 24], argTypes := #[22, 39] }, type := 22, pos := p, after := #[{ on := 3, ground := Ground.data }], guard := none }
def oPb5 (p : String) : Oper := { dst := some 26, op := Op.call { callee := Callee.builtin Builtin.append, args := #[Operand.tmp 21, Operand.tmp 25], argTypes := #[22, 22] }, type := 22, pos := p, after := #[{ on := 0, ground := Ground.data }, { on := 4, ground := Ground.data }, { on := 4, ground := Ground.chain }], guard := none }
def oPb6 (p : String) : Oper := { dst := none, op := Op.store 22 (Operand.tmp 5) (Operand.tmp 26), type := 0, pos := p, after := #[{ on := 5, ground := Ground.data }, { on := 5, ground := Ground.chain }, { on := 0, ground := Ground.phase }, { on := 1, ground := Ground.phase }, { on := 2, ground := Ground.phase }, { on := 3, ground := Ground.phase }, { on := 4, ground := Ground.phase }, { on := 5, ground := Ground.phase }], guard := none }
def opsPb (p : String) : List Oper := [oPb0 p, oPb1 p, oPb2 p, oPb3 p, oPb4 p]
theorem opsPb_back (p : String) : backwards (opsPb p ++ [oPb5 p, oPb6 p]) = true := by kernel_rfl
theorem opsPb_slots (p : String) : slotsOk 44 (opsPb p) = true := by kernel_rfl
theorem opsPb_all (p : String) : ((List.range ((opsPb p).length + 1)).all (hasEdge (oPb6 p))) = true := by kernel_rfl
theorem opsPb_pen (p : String) (L : Nat → Bool) (hcl : ∀ j o' e, (opsPb p ++ [oPb5 p, oPb6 p]).toArray[j]? = some o' → L j = true → e ∈ o'.after → Region.binds .any e = true → L e.on = true) (hp : ∀ e ∈ (oPb5 p).after, Region.binds .any e = true → L e.on = true) : ∀ j, j < (opsPb p).length → L j = true := by
  have h0 : L 0 = true := hp { on := 0, ground := Ground.data } (by simp [oPb5]) rfl
  have h4 : L 4 = true := hp { on := 4, ground := Ground.data } (by simp [oPb5]) rfl
  have h3 : L 3 = true := hcl 4 (oPb4 p) { on := 3, ground := Ground.data } rfl h4 (by simp [oPb4]) rfl
  have h2 : L 2 = true := hcl 3 (oPb3 p) { on := 2, ground := Ground.data } rfl h3 (by simp [oPb3]) rfl
  have h1 : L 1 = true := hcl 2 (oPb2 p) { on := 1, ground := Ground.data } rfl h2 (by simp [oPb2]) rfl
  intro j hj
  have hj' : j < 5 := hj
  rcases j with _ | _ | _ | _ | _ | j
  · exact h0
  · exact h1
  · exact h2
  · exact h3
  · exact h4
  · omega
def psiPb (v : Value) (q m : Nat) (ys : List UInt8) : Nat → Value → World → Prop
  | 0, u, _ => u = v
  | 1, u, _ => u = .pointer (some ⟨q, 0, none⟩)
  | 2, u, _ => u = .int .u32 (m : Int)
  | 3, u, _ => u = .int .u64 (m : Int)
  | 4, u, w => IsB w u ys
  | _, _, _ => True
theorem psiPb_grew (v : Value) (q m : Nat) (ys : List UInt8) : ∀ i u w w', psiPb v q m ys i u w → Grew w w' → psiPb v q m ys i u w' := by
  intro i u w w' h hg
  rcases i with _ | _ | _ | _ | _ | i
  · exact h
  · exact h
  · exact h
  · exact h
  · exact IsB.grew h hg
  · trivial
set_option maxRecDepth 100000 in
set_option maxHeartbeats 4000000 in
theorem put_regionPb {p : String} (l n : Nat) (hn : 1 ≤ n) (B g : Nat) (v : Value) (q m : Nat) (xs : List UInt8) (hx : xs.length ≤ 100000000) (hy : m < 4294967296) (a : Act) (w : World) (Q : Exit → Act → World → Prop) (hN : a.tmps.size = 44)
    (h0 : a.tmps.getD 7 undef = .pointer (some ⟨q, 0, none⟩)) (hcl : w.cell? ⟨q, 0, none⟩ = some (.int .u32 (m : Int))) (h1 : a.tmps.getD 5 undef = .pointer (some ⟨g, 0, none⟩)) (hg : w.heap[g]? = some (.cells #[v] 22 (0, 0))) (hown : w.ownsRow B 5 1 v xs.length (xs.map enc)) (hB : B ≤ w.heap.size)
    (hQ : ∀ (u v' : Value) (W1 W2 : World), Grew w W1 → W2.ownsRow B 5 1 v' (xs.length + (vb m).length) ((xs ++ vb m).map enc) → W1.grownBy W2 v.ownBlock → W2.heap[g]? = some (.cells #[v] 22 (0, 0)) → Q .normal (puts [(21, v), (22, .pointer (some ⟨q, 0, none⟩)), (23, .int .u32 (m : Int)), (24, .int .u64 (m : Int)), (25, u), (26, v')] a) (W2.setCell ⟨g, 0, none⟩ v')) :
    (Code.region 6 (opsPb p ++ [oPb5 p, oPb6 p]).toArray true).wpIn (Fence.wide.inRound l) n Tryz.prog Q a w := by
  obtain ⟨i0, hi, hz0, hz1, hz2⟩ := info_parts info5
  have hyl : (vb m).length ≤ 2000000 := vb_short m (by omega)
  have hgw : g < w.heap.size := (Array.getElem?_eq_some_iff.1 hg).1
  have hc : w.cell? ⟨g, 0, none⟩ = some v := by simpa using blk_cell hg 0
  have hqw : q < w.heap.size := World.block_lt_of_cell? w ⟨q, 0, none⟩ hcl
  obtain ⟨ys, hys⟩ : ∃ ys, ys = vb m := ⟨_, rfl⟩
  rw [← hys] at hQ hyl
  refine wpIn_region_two 44 hN follows (opsPb_back p) (opsPb_slots p) (opsPb_all p) (opsPb_pen p) Grew Grew.refl Grew.trans (psiPb v q m ys) (psiPb_grew v q m ys) ?_ ?_
  · intro i o d ho hd a' w' hF hR hp
    rcases i with _ | _ | _ | _ | _ | i
    · obtain rfl : oPb0 p = o := Option.some.inj ho
      obtain rfl : 21 = d := Option.some.inj hd
      have hx : a'.eval (.tmp 5) = .pointer (some ⟨g, 0, none⟩) := hF.at 5 rfl h1
      exact step_run (o := oPb0 p) (v := v) (w' := w') rfl rfl (by intro c h; cases h) (by simp [Oper.about, oPb0]) (by simp [execOp, oPb0, hx, run_ldB w' _ v ((Below.cell hR.undraw (p := ⟨g, 0, none⟩) hgw).trans hc)]) ⟨_, rfl, rfl, Grew.refl _⟩
    · obtain rfl : oPb1 p = o := Option.some.inj ho
      obtain rfl : 22 = d := Option.some.inj hd
      have hx : a'.eval (.tmp 7) = .pointer (some ⟨q, 0, none⟩) := hF.at 7 rfl h0
      exact step_run (o := oPb1 p) (v := .pointer (some ⟨q, 0, none⟩)) (w' := w') rfl rfl (by intro c h; cases h) (by simp [Oper.about, oPb1]) (by simp [execOp, oPb1, hx, run_fdS0 w' q 0]) ⟨_, rfl, rfl, Grew.refl _⟩
    · obtain rfl : oPb2 p = o := Option.some.inj ho
      obtain rfl : 23 = d := Option.some.inj hd
      have hx : a'.eval (.tmp 22) = .pointer (some ⟨q, 0, none⟩) := hp 1 (oPb1 p) 22 rfl rfl rfl
      exact step_run (o := oPb2 p) (v := .int .u32 (m : Int)) (w' := w') rfl rfl (by intro c h; cases h) (by simp [Oper.about, oPb2]) (by simp [execOp, oPb2, hx, run_ldU w' ⟨q, 0, none⟩ _ ((Below.cell hR.undraw (p := ⟨q, 0, none⟩) hqw).trans hcl)]) ⟨_, rfl, rfl, Grew.refl _⟩
    · obtain rfl : oPb3 p = o := Option.some.inj ho
      obtain rfl : 24 = d := Option.some.inj hd
      have hx : a'.eval (.tmp 23) = .int .u32 (m : Int) := hp 2 (oPb2 p) 23 rfl rfl rfl
      exact step_run (o := oPb3 p) (v := .int .u64 (m : Int)) (w' := w') rfl rfl (by intro c h; cases h) (by simp [Oper.about, oPb3]) (by simp [execOp, oPb3, hx, run_cv32 w' m hy]) ⟨_, rfl, rfl, Grew.refl _⟩
    · obtain rfl : oPb4 p = o := Option.some.inj ho
      obtain rfl : 25 = d := Option.some.inj hd
      have hx : a'.tmps.getD 24 undef = .int .u64 (m : Int) := hp 3 (oPb3 p) 24 rfl rfl rfl
      refine step_call (o := oPb4 p) rfl rfl (xs := #[.const (.slice none 0 0), .tmp 24]) (ts := #[22, 39]) rfl trivial (fun _ => by omega) (enters_of Tryz.func16 (by kernel_rfl) rfl) ?_
      rw [show Array.map a'.eval #[.const (.slice none 0 0), .tmp 24] = #[.slice none 0 0, .int .u64 (m : Int)] from by simp only [List.map_toArray, List.map_cons, List.map_nil, Act.eval, hx]]
      refine (CallsIn.inRound l (callsIn_wide.2 (Uint_any none [] 0 0 m rfl (by omega) (by simp) w' (HasA.nil _ _ _)))).mono ?_
      rintro e w'' ⟨gg, L, c, rfl, ho, hb⟩
      rw [show ([] ++ vb m) = ys by rw [hys]; rfl] at ho
      exact ⟨_, rfl, _, rfl, IsB.own ho, hb⟩
    · exact absurd ((Array.getElem?_eq_some_iff.1 ho).1) (by simp [opsPb])
  · intro a' w' hF hR hp
    have e0 : a'.tmps.getD 21 undef = v := hp 0 (oPb0 p) 21 rfl rfl
    have e1 : a'.tmps.getD 22 undef = .pointer (some ⟨q, 0, none⟩) := hp 1 (oPb1 p) 22 rfl rfl
    have e2 : a'.tmps.getD 23 undef = .int .u32 (m : Int) := hp 2 (oPb2 p) 23 rfl rfl
    have e3 : a'.tmps.getD 24 undef = .int .u64 (m : Int) := hp 3 (oPb3 p) 24 rfl rfl
    obtain ⟨A5, L5, c5, e4, hl5, hA5⟩ : IsB w' (a'.tmps.getD 25 undef) ys := hp 4 (oPb4 p) 25 rfl rfl
    have hgr := hR.undraw
    have hown' := own_below hown hgr
    obtain ⟨v', W2, hrun, hown2, hg2⟩ := run_append_has (P := Tryz.prog) (w := w') B 22 22 5 i0 Tryz.underlying22 hi hz0 hz1 hz2 v xs.length xs hown' _ A5 L5 c5 ys hl5 hA5 (by omega) (Nat.le_trans hB (Below.size hgr))
    obtain ⟨A3, c3, rfl⟩ := own_form hown2
    have hx3 : a'.eval (.tmp 21) = v := e0
    have hx5 : a'.eval (.tmp 25) = .slice A5 L5 c5 := e4
    refine step_run (o := oPb5 p) (v := .slice A3 (xs.length + L5) c3) (w' := W2) rfl rfl (by intro c h; cases h) (by simp [Oper.about, oPb5, resolve, Target.leads, Sem.run_pure]) (by
      unfold execOp
      simp only [oPb5, resolve, invoke, builtin, Sem.run_bind, Sem.run_pure, Result.andThen_ok, List.map_toArray, List.map_cons, List.map_nil, hx3, hx5, hrun]) ?_
    have hty := own_typed hown'
    have hb5' : w'.heap[g]? = some (.cells #[v] 22 (0, 0)) := SameT.grew (T := []) hgr _ _ _ (by simp) hg
    have hb52 : W2.heap[g]? = some (.cells #[v] 22 (0, 0)) := SameT.grown hg2 hty _ _ _ (by decide) hb5'
    have hx1 : (a'.put (some 26) (.slice A3 (xs.length + L5) c3)).eval (.tmp 5) = .pointer (some ⟨g, 0, none⟩) := (getD_put_ne (by decide)).trans (hF.at 5 rfl h1)
    have hx6 : (a'.put (some 26) (.slice A3 (xs.length + L5) c3)).eval (.tmp 26) = .slice A3 (xs.length + L5) c3 := getD_put_same (by rw [hF.size, hN]; decide)
    refine step_skip (o := oPb6 p) (w' := W2.setCell ⟨g, 0, none⟩ (.slice A3 (xs.length + L5) c3)) rfl rfl (by intro c h; cases h) (by simp [Oper.about, oPb6]) (by
      have hst := run_stB W2 g A3 (xs.length + L5) c3 v (by simpa using blk_cell hb52 0) (blk_frozen hb52 0)
      have h5x : (a'.put (oPb5 p).dst (.slice A3 (xs.length + L5) c3)).eval (.tmp 5) = .pointer (some ⟨g, 0, none⟩) := hx1
      have h23x : (a'.put (oPb5 p).dst (.slice A3 (xs.length + L5) c3)).eval (.tmp 26) = .slice A3 (xs.length + L5) c3 := hx6
      unfold execOp
      simp only [oPb6, h5x, h23x, Sem.run_bind, hst, Result.andThen_ok]
      rfl) ?_
    have hput : a'.put (some 26) (.slice A3 (xs.length + L5) c3) = puts [(21, v), (22, .pointer (some ⟨q, 0, none⟩)), (23, .int .u32 (m : Int)), (24, .int .u64 (m : Int)), (25, .slice A5 L5 c5), (26, .slice A3 (xs.length + L5) c3)] a := by
      have h1 := hF.puts [(21, v), (22, .pointer (some ⟨q, 0, none⟩)), (23, .int .u32 (m : Int)), (24, .int .u64 (m : Int)), (25, .slice A5 L5 c5)] (by
        intro x hx
        simp only [List.mem_cons, List.not_mem_nil, or_false] at hx
        rcases hx with rfl | rfl | rfl | rfl | rfl
        · exact e0
        · exact e1
        · exact e2
        · exact e3
        · exact e4) rfl (by rw [hN]; rfl)
      conv => lhs; rw [h1]
      rfl
    show Q .normal (a'.put (some 26) (.slice A3 (xs.length + L5) c3)) _
    rw [hput]
    subst hl5
    exact hQ _ _ w' W2 hgr hown2 hg2 hb52
def oPc0 (p : String) : Oper := { dst := some 27, op := Op.load 22 (Operand.tmp 5), type := 22, pos := p, after := #[], guard := none }
def oPc1 (p : String) : Oper := { dst := some 28, op := Op.fieldAddr 82 (Operand.tmp 7) 1, type := 0, pos := p, after := #[], guard := none }
def oPc2 (p : String) : Oper := { dst := some 29, op := Op.fieldAddr 36 (Operand.tmp 28) 0, type := 0, pos := p, after := #[{ on := 1, ground := Ground.data }], guard := none }
def oPc3 (p : String) : Oper := { dst := some 30, op := Op.load 5 (Operand.tmp 29), type := 5, pos := p, after := #[{ on := 2, ground := Ground.data }], guard := none }
def oPc4 (p : String) : Oper := { dst := some 31, op := Op.convert 5 39 (Operand.tmp 30), type := 39, pos := p, after := #[{ on := 3, ground := Ground.data }], guard := none }
def oPc5 (p : String) : Oper := { dst := some 32, op := Op.call { callee := Callee.value (Operand.func 16), args := #[Operand.const (Value.slice none 0 0), Operand.tmp 31], argTypes := #[22, 39] }, type := 22, pos := p, after := #[{ on := 4, ground := Ground.data }], guard := none }
def oPc6 (p : String) : Oper := { dst := some 33, op := Op.call { callee := Callee.builtin Builtin.append, args := #[Operand.tmp 27, Operand.tmp 32], argTypes := #[22, 22] }, type := 22, pos := p, after := #[{ on := 0, ground := Ground.data }, { on := 5, ground := Ground.data }, { on := 5, ground := Ground.chain }], guard := none }
def oPc7 (p : String) : Oper := { dst := none, op := Op.store 22 (Operand.tmp 5) (Operand.tmp 33), type := 0, pos := p, after := #[{ on := 6, ground := Ground.data }, { on := 6, ground := Ground.chain }, { on := 0, ground := Ground.phase }, { on := 1, ground := Ground.phase }, { on := 2, ground := Ground.phase }, { on := 3, ground := Ground.phase }, { on := 4, ground := Ground.phase }, { on := 5, ground := Ground.phase }, { on := 6, ground := Ground.phase }], guard := none }
def opsPc (p : String) : List Oper := [oPc0 p, oPc1 p, oPc2 p, oPc3 p, oPc4 p, oPc5 p]
theorem opsPc_back (p : String) : backwards (opsPc p ++ [oPc6 p, oPc7 p]) = true := by kernel_rfl
theorem opsPc_slots (p : String) : slotsOk 44 (opsPc p) = true := by kernel_rfl
theorem opsPc_all (p : String) : ((List.range ((opsPc p).length + 1)).all (hasEdge (oPc7 p))) = true := by kernel_rfl
theorem opsPc_pen (p : String) (L : Nat → Bool) (hcl : ∀ j o' e, (opsPc p ++ [oPc6 p, oPc7 p]).toArray[j]? = some o' → L j = true → e ∈ o'.after → Region.binds .any e = true → L e.on = true) (hp : ∀ e ∈ (oPc6 p).after, Region.binds .any e = true → L e.on = true) : ∀ j, j < (opsPc p).length → L j = true := by
  have h0 : L 0 = true := hp { on := 0, ground := Ground.data } (by simp [oPc6]) rfl
  have h5 : L 5 = true := hp { on := 5, ground := Ground.data } (by simp [oPc6]) rfl
  have h4 : L 4 = true := hcl 5 (oPc5 p) { on := 4, ground := Ground.data } rfl h5 (by simp [oPc5]) rfl
  have h3 : L 3 = true := hcl 4 (oPc4 p) { on := 3, ground := Ground.data } rfl h4 (by simp [oPc4]) rfl
  have h2 : L 2 = true := hcl 3 (oPc3 p) { on := 2, ground := Ground.data } rfl h3 (by simp [oPc3]) rfl
  have h1 : L 1 = true := hcl 2 (oPc2 p) { on := 1, ground := Ground.data } rfl h2 (by simp [oPc2]) rfl
  intro j hj
  have hj' : j < 6 := hj
  rcases j with _ | _ | _ | _ | _ | _ | j
  · exact h0
  · exact h1
  · exact h2
  · exact h3
  · exact h4
  · exact h5
  · omega
def psiPc (v : Value) (q m : Nat) (ys : List UInt8) : Nat → Value → World → Prop
  | 0, u, _ => u = v
  | 1, u, _ => u = .pointer (some ⟨q, 1, none⟩)
  | 2, u, _ => u = .pointer (some ⟨q, 1, none⟩)
  | 3, u, _ => u = .int .u8 (m : Int)
  | 4, u, _ => u = .int .u64 (m : Int)
  | 5, u, w => IsB w u ys
  | _, _, _ => True
theorem psiPc_grew (v : Value) (q m : Nat) (ys : List UInt8) : ∀ i u w w', psiPc v q m ys i u w → Grew w w' → psiPc v q m ys i u w' := by
  intro i u w w' h hg
  rcases i with _ | _ | _ | _ | _ | _ | i
  · exact h
  · exact h
  · exact h
  · exact h
  · exact h
  · exact IsB.grew h hg
  · trivial
set_option maxRecDepth 100000 in
set_option maxHeartbeats 4000000 in
theorem put_regionPc {p : String} (l n : Nat) (hn : 1 ≤ n) (B g : Nat) (v : Value) (q m : Nat) (xs : List UInt8) (hx : xs.length ≤ 100000000) (hy : m < 256) (a : Act) (w : World) (Q : Exit → Act → World → Prop) (hN : a.tmps.size = 44)
    (h0 : a.tmps.getD 7 undef = .pointer (some ⟨q, 0, none⟩)) (hcl : w.cell? ⟨q, 1, none⟩ = some (.int .u8 (m : Int))) (h1 : a.tmps.getD 5 undef = .pointer (some ⟨g, 0, none⟩)) (hg : w.heap[g]? = some (.cells #[v] 22 (0, 0))) (hown : w.ownsRow B 5 1 v xs.length (xs.map enc)) (hB : B ≤ w.heap.size)
    (hQ : ∀ (u v' : Value) (W1 W2 : World), Grew w W1 → W2.ownsRow B 5 1 v' (xs.length + (vb m).length) ((xs ++ vb m).map enc) → W1.grownBy W2 v.ownBlock → W2.heap[g]? = some (.cells #[v] 22 (0, 0)) → Q .normal (puts [(27, v), (28, .pointer (some ⟨q, 1, none⟩)), (29, .pointer (some ⟨q, 1, none⟩)), (30, .int .u8 (m : Int)), (31, .int .u64 (m : Int)), (32, u), (33, v')] a) (W2.setCell ⟨g, 0, none⟩ v')) :
    (Code.region 7 (opsPc p ++ [oPc6 p, oPc7 p]).toArray true).wpIn (Fence.wide.inRound l) n Tryz.prog Q a w := by
  obtain ⟨i0, hi, hz0, hz1, hz2⟩ := info_parts info5
  have hyl : (vb m).length ≤ 2000000 := vb_short m (by omega)
  have hgw : g < w.heap.size := (Array.getElem?_eq_some_iff.1 hg).1
  have hc : w.cell? ⟨g, 0, none⟩ = some v := by simpa using blk_cell hg 0
  have hqw : q < w.heap.size := World.block_lt_of_cell? w ⟨q, 1, none⟩ hcl
  obtain ⟨ys, hys⟩ : ∃ ys, ys = vb m := ⟨_, rfl⟩
  rw [← hys] at hQ hyl
  refine wpIn_region_two 44 hN follows (opsPc_back p) (opsPc_slots p) (opsPc_all p) (opsPc_pen p) Grew Grew.refl Grew.trans (psiPc v q m ys) (psiPc_grew v q m ys) ?_ ?_
  · intro i o d ho hd a' w' hF hR hp
    rcases i with _ | _ | _ | _ | _ | _ | i
    · obtain rfl : oPc0 p = o := Option.some.inj ho
      obtain rfl : 27 = d := Option.some.inj hd
      have hx : a'.eval (.tmp 5) = .pointer (some ⟨g, 0, none⟩) := hF.at 5 rfl h1
      exact step_run (o := oPc0 p) (v := v) (w' := w') rfl rfl (by intro c h; cases h) (by simp [Oper.about, oPc0]) (by simp [execOp, oPc0, hx, run_ldB w' _ v ((Below.cell hR.undraw (p := ⟨g, 0, none⟩) hgw).trans hc)]) ⟨_, rfl, rfl, Grew.refl _⟩
    · obtain rfl : oPc1 p = o := Option.some.inj ho
      obtain rfl : 28 = d := Option.some.inj hd
      have hx : a'.eval (.tmp 7) = .pointer (some ⟨q, 0, none⟩) := hF.at 7 rfl h0
      exact step_run (o := oPc1 p) (v := .pointer (some ⟨q, 1, none⟩)) (w' := w') rfl rfl (by intro c h; cases h) (by simp [Oper.about, oPc1]) (by simp [execOp, oPc1, hx, run_fdS1 w' q 0]) ⟨_, rfl, rfl, Grew.refl _⟩
    · obtain rfl : oPc2 p = o := Option.some.inj ho
      obtain rfl : 29 = d := Option.some.inj hd
      have hx : a'.eval (.tmp 28) = .pointer (some ⟨q, 1, none⟩) := hp 1 (oPc1 p) 28 rfl rfl rfl
      exact step_run (o := oPc2 p) (v := .pointer (some ⟨q, 1, none⟩)) (w' := w') rfl rfl (by intro c h; cases h) (by simp [Oper.about, oPc2]) (by simp [execOp, oPc2, hx, run_fdR0 w' q 1]) ⟨_, rfl, rfl, Grew.refl _⟩
    · obtain rfl : oPc3 p = o := Option.some.inj ho
      obtain rfl : 30 = d := Option.some.inj hd
      have hx : a'.eval (.tmp 29) = .pointer (some ⟨q, 1, none⟩) := hp 2 (oPc2 p) 29 rfl rfl rfl
      exact step_run (o := oPc3 p) (v := .int .u8 (m : Int)) (w' := w') rfl rfl (by intro c h; cases h) (by simp [Oper.about, oPc3]) (by simp [execOp, oPc3, hx, run_ldC w' ⟨q, 1, none⟩ _ ((Below.cell hR.undraw (p := ⟨q, 1, none⟩) hqw).trans hcl)]) ⟨_, rfl, rfl, Grew.refl _⟩
    · obtain rfl : oPc4 p = o := Option.some.inj ho
      obtain rfl : 31 = d := Option.some.inj hd
      have hx : a'.eval (.tmp 30) = .int .u8 (m : Int) := hp 3 (oPc3 p) 30 rfl rfl rfl
      exact step_run (o := oPc4 p) (v := .int .u64 (m : Int)) (w' := w') rfl rfl (by intro c h; cases h) (by simp [Oper.about, oPc4]) (by simp [execOp, oPc4, hx, run_cv8 w' m hy]) ⟨_, rfl, rfl, Grew.refl _⟩
    · obtain rfl : oPc5 p = o := Option.some.inj ho
      obtain rfl : 32 = d := Option.some.inj hd
      have hx : a'.tmps.getD 31 undef = .int .u64 (m : Int) := hp 4 (oPc4 p) 31 rfl rfl rfl
      refine step_call (o := oPc5 p) rfl rfl (xs := #[.const (.slice none 0 0), .tmp 31]) (ts := #[22, 39]) rfl trivial (fun _ => by omega) (enters_of Tryz.func16 (by kernel_rfl) rfl) ?_
      rw [show Array.map a'.eval #[.const (.slice none 0 0), .tmp 31] = #[.slice none 0 0, .int .u64 (m : Int)] from by simp only [List.map_toArray, List.map_cons, List.map_nil, Act.eval, hx]]
      refine (CallsIn.inRound l (callsIn_wide.2 (Uint_any none [] 0 0 m rfl (by omega) (by simp) w' (HasA.nil _ _ _)))).mono ?_
      rintro e w'' ⟨gg, L, c, rfl, ho, hb⟩
      rw [show ([] ++ vb m) = ys by rw [hys]; rfl] at ho
      exact ⟨_, rfl, _, rfl, IsB.own ho, hb⟩
    · exact absurd ((Array.getElem?_eq_some_iff.1 ho).1) (by simp [opsPc])
  · intro a' w' hF hR hp
    have e0 : a'.tmps.getD 27 undef = v := hp 0 (oPc0 p) 27 rfl rfl
    have e1 : a'.tmps.getD 28 undef = .pointer (some ⟨q, 1, none⟩) := hp 1 (oPc1 p) 28 rfl rfl
    have e2 : a'.tmps.getD 29 undef = .pointer (some ⟨q, 1, none⟩) := hp 2 (oPc2 p) 29 rfl rfl
    have e3 : a'.tmps.getD 30 undef = .int .u8 (m : Int) := hp 3 (oPc3 p) 30 rfl rfl
    have e4 : a'.tmps.getD 31 undef = .int .u64 (m : Int) := hp 4 (oPc4 p) 31 rfl rfl
    obtain ⟨A5, L5, c5, e5, hl5, hA5⟩ : IsB w' (a'.tmps.getD 32 undef) ys := hp 5 (oPc5 p) 32 rfl rfl
    have hgr := hR.undraw
    have hown' := own_below hown hgr
    obtain ⟨v', W2, hrun, hown2, hg2⟩ := run_append_has (P := Tryz.prog) (w := w') B 22 22 5 i0 Tryz.underlying22 hi hz0 hz1 hz2 v xs.length xs hown' _ A5 L5 c5 ys hl5 hA5 (by omega) (Nat.le_trans hB (Below.size hgr))
    obtain ⟨A3, c3, rfl⟩ := own_form hown2
    have hx3 : a'.eval (.tmp 27) = v := e0
    have hx5 : a'.eval (.tmp 32) = .slice A5 L5 c5 := e5
    refine step_run (o := oPc6 p) (v := .slice A3 (xs.length + L5) c3) (w' := W2) rfl rfl (by intro c h; cases h) (by simp [Oper.about, oPc6, resolve, Target.leads, Sem.run_pure]) (by
      unfold execOp
      simp only [oPc6, resolve, invoke, builtin, Sem.run_bind, Sem.run_pure, Result.andThen_ok, List.map_toArray, List.map_cons, List.map_nil, hx3, hx5, hrun]) ?_
    have hty := own_typed hown'
    have hb5' : w'.heap[g]? = some (.cells #[v] 22 (0, 0)) := SameT.grew (T := []) hgr _ _ _ (by simp) hg
    have hb52 : W2.heap[g]? = some (.cells #[v] 22 (0, 0)) := SameT.grown hg2 hty _ _ _ (by decide) hb5'
    have hx1 : (a'.put (some 33) (.slice A3 (xs.length + L5) c3)).eval (.tmp 5) = .pointer (some ⟨g, 0, none⟩) := (getD_put_ne (by decide)).trans (hF.at 5 rfl h1)
    have hx6 : (a'.put (some 33) (.slice A3 (xs.length + L5) c3)).eval (.tmp 33) = .slice A3 (xs.length + L5) c3 := getD_put_same (by rw [hF.size, hN]; decide)
    refine step_skip (o := oPc7 p) (w' := W2.setCell ⟨g, 0, none⟩ (.slice A3 (xs.length + L5) c3)) rfl rfl (by intro c h; cases h) (by simp [Oper.about, oPc7]) (by
      have hst := run_stB W2 g A3 (xs.length + L5) c3 v (by simpa using blk_cell hb52 0) (blk_frozen hb52 0)
      have h5x : (a'.put (oPc6 p).dst (.slice A3 (xs.length + L5) c3)).eval (.tmp 5) = .pointer (some ⟨g, 0, none⟩) := hx1
      have h23x : (a'.put (oPc6 p).dst (.slice A3 (xs.length + L5) c3)).eval (.tmp 33) = .slice A3 (xs.length + L5) c3 := hx6
      unfold execOp
      simp only [oPc7, h5x, h23x, Sem.run_bind, hst, Result.andThen_ok]
      rfl) ?_
    have hput : a'.put (some 33) (.slice A3 (xs.length + L5) c3) = puts [(27, v), (28, .pointer (some ⟨q, 1, none⟩)), (29, .pointer (some ⟨q, 1, none⟩)), (30, .int .u8 (m : Int)), (31, .int .u64 (m : Int)), (32, .slice A5 L5 c5), (33, .slice A3 (xs.length + L5) c3)] a := by
      have h1 := hF.puts [(27, v), (28, .pointer (some ⟨q, 1, none⟩)), (29, .pointer (some ⟨q, 1, none⟩)), (30, .int .u8 (m : Int)), (31, .int .u64 (m : Int)), (32, .slice A5 L5 c5)] (by
        intro x hx
        simp only [List.mem_cons, List.not_mem_nil, or_false] at hx
        rcases hx with rfl | rfl | rfl | rfl | rfl | rfl
        · exact e0
        · exact e1
        · exact e2
        · exact e3
        · exact e4
        · exact e5) rfl (by rw [hN]; rfl)
      conv => lhs; rw [h1]
      rfl
    show Q .normal (a'.put (some 33) (.slice A3 (xs.length + L5) c3)) _
    rw [hput]
    subst hl5
    exact hQ _ _ w' W2 hgr hown2 hg2 hb52
def oPd0 (p : String) : Oper := { dst := some 34, op := Op.load 22 (Operand.tmp 5), type := 22, pos := p, after := #[], guard := none }
def oPd1 (p : String) : Oper := { dst := some 35, op := Op.fieldAddr 82 (Operand.tmp 7) 1, type := 0, pos := p, after := #[], guard := none }
def oPd2 (p : String) : Oper := { dst := some 36, op := Op.fieldAddr 36 (Operand.tmp 35) 1, type := 0, pos := p, after := #[{ on := 1, ground := Ground.data }], guard := none }
def oPd3 (p : String) : Oper := { dst := some 37, op := Op.load 9 (Operand.tmp 36), type := 9, pos := p, after := #[{ on := 2, ground := Ground.data }], guard := none }
def oPd4 (p : String) : Oper := { dst := some 38, op := Op.call { callee := Callee.value (Operand.func 38), args := #[Operand.const (Value.slice none 0 0), Operand.tmp 37], argTypes := #[22, 9] }, type := 22, pos := p, after := #[{ on := 3, ground := Ground.data }], guard := none }
def oPd5 (p : String) : Oper := { dst := some 39, op := Op.call { callee := Callee.builtin Builtin.append, args := #[Operand.tmp 34, Operand.tmp 38], argTypes := #[22, 22] }, type := 22, pos := p, after := #[{ on := 0, ground := Ground.data }, { on := 4, ground := Ground.data }, { on := 4, ground := Ground.chain }], guard := none }
def oPd6 (p : String) : Oper := { dst := none, op := Op.store 22 (Operand.tmp 5) (Operand.tmp 39), type := 0, pos := p, after := #[{ on := 5, ground := Ground.data }, { on := 5, ground := Ground.chain }, { on := 0, ground := Ground.phase }, { on := 1, ground := Ground.phase }, { on := 2, ground := Ground.phase }, { on := 3, ground := Ground.phase }, { on := 4, ground := Ground.phase }, { on := 5, ground := Ground.phase }], guard := none }
def opsPd (p : String) : List Oper := [oPd0 p, oPd1 p, oPd2 p, oPd3 p, oPd4 p]
theorem opsPd_back (p : String) : backwards (opsPd p ++ [oPd5 p, oPd6 p]) = true := by kernel_rfl
theorem opsPd_slots (p : String) : slotsOk 44 (opsPd p) = true := by kernel_rfl
theorem opsPd_all (p : String) : ((List.range ((opsPd p).length + 1)).all (hasEdge (oPd6 p))) = true := by kernel_rfl
theorem opsPd_pen (p : String) (L : Nat → Bool) (hcl : ∀ j o' e, (opsPd p ++ [oPd5 p, oPd6 p]).toArray[j]? = some o' → L j = true → e ∈ o'.after → Region.binds .any e = true → L e.on = true) (hp : ∀ e ∈ (oPd5 p).after, Region.binds .any e = true → L e.on = true) : ∀ j, j < (opsPd p).length → L j = true := by
  have h0 : L 0 = true := hp { on := 0, ground := Ground.data } (by simp [oPd5]) rfl
  have h4 : L 4 = true := hp { on := 4, ground := Ground.data } (by simp [oPd5]) rfl
  have h3 : L 3 = true := hcl 4 (oPd4 p) { on := 3, ground := Ground.data } rfl h4 (by simp [oPd4]) rfl
  have h2 : L 2 = true := hcl 3 (oPd3 p) { on := 2, ground := Ground.data } rfl h3 (by simp [oPd3]) rfl
  have h1 : L 1 = true := hcl 2 (oPd2 p) { on := 1, ground := Ground.data } rfl h2 (by simp [oPd2]) rfl
  intro j hj
  have hj' : j < 5 := hj
  rcases j with _ | _ | _ | _ | _ | j
  · exact h0
  · exact h1
  · exact h2
  · exact h3
  · exact h4
  · omega
def psiPd (v : Value) (q : Nat) (x : ByteArray) (ys : List UInt8) : Nat → Value → World → Prop
  | 0, u, _ => u = v
  | 1, u, _ => u = .pointer (some ⟨q, 1, none⟩)
  | 2, u, _ => u = .pointer (some ⟨q, 2, none⟩)
  | 3, u, _ => u = .string x
  | 4, u, w => IsB w u ys
  | _, _, _ => True
theorem psiPd_grew (v : Value) (q : Nat) (x : ByteArray) (ys : List UInt8) : ∀ i u w w', psiPd v q x ys i u w → Grew w w' → psiPd v q x ys i u w' := by
  intro i u w w' h hg
  rcases i with _ | _ | _ | _ | _ | i
  · exact h
  · exact h
  · exact h
  · exact h
  · exact IsB.grew h hg
  · trivial
set_option maxRecDepth 100000 in
set_option maxHeartbeats 4000000 in
theorem put_regionPd {p : String} (l n : Nat) (hn : 1 ≤ n) (B g : Nat) (v : Value) (q : Nat) (x : ByteArray) (xs : List UInt8) (hx : xs.length ≤ 100000000) (hy : x.size ≤ 1000000) (a : Act) (w : World) (Q : Exit → Act → World → Prop) (hN : a.tmps.size = 44)
    (h0 : a.tmps.getD 7 undef = .pointer (some ⟨q, 0, none⟩)) (hcl : w.cell? ⟨q, 2, none⟩ = some (.string x)) (h1 : a.tmps.getD 5 undef = .pointer (some ⟨g, 0, none⟩)) (hg : w.heap[g]? = some (.cells #[v] 22 (0, 0))) (hown : w.ownsRow B 5 1 v xs.length (xs.map enc)) (hB : B ≤ w.heap.size)
    (hQ : ∀ (u v' : Value) (W1 W2 : World), Grew w W1 → W2.ownsRow B 5 1 v' (xs.length + (txt x).length) ((xs ++ txt x).map enc) → W1.grownBy W2 v.ownBlock → W2.heap[g]? = some (.cells #[v] 22 (0, 0)) → Q .normal (puts [(34, v), (35, .pointer (some ⟨q, 1, none⟩)), (36, .pointer (some ⟨q, 2, none⟩)), (37, .string x), (38, u), (39, v')] a) (W2.setCell ⟨g, 0, none⟩ v')) :
    (Code.region 8 (opsPd p ++ [oPd5 p, oPd6 p]).toArray true).wpIn (Fence.wide.inRound l) n Tryz.prog Q a w := by
  obtain ⟨i0, hi, hz0, hz1, hz2⟩ := info_parts info5
  have hyl : (txt x).length ≤ 2000000 := by have := txt_len hy; omega
  have hgw : g < w.heap.size := (Array.getElem?_eq_some_iff.1 hg).1
  have hc : w.cell? ⟨g, 0, none⟩ = some v := by simpa using blk_cell hg 0
  have hqw : q < w.heap.size := World.block_lt_of_cell? w ⟨q, 2, none⟩ hcl
  obtain ⟨ys, hys⟩ : ∃ ys, ys = txt x := ⟨_, rfl⟩
  rw [← hys] at hQ hyl
  refine wpIn_region_two 44 hN follows (opsPd_back p) (opsPd_slots p) (opsPd_all p) (opsPd_pen p) Grew Grew.refl Grew.trans (psiPd v q x ys) (psiPd_grew v q x ys) ?_ ?_
  · intro i o d ho hd a' w' hF hR hp
    rcases i with _ | _ | _ | _ | _ | i
    · obtain rfl : oPd0 p = o := Option.some.inj ho
      obtain rfl : 34 = d := Option.some.inj hd
      have hx : a'.eval (.tmp 5) = .pointer (some ⟨g, 0, none⟩) := hF.at 5 rfl h1
      exact step_run (o := oPd0 p) (v := v) (w' := w') rfl rfl (by intro c h; cases h) (by simp [Oper.about, oPd0]) (by simp [execOp, oPd0, hx, run_ldB w' _ v ((Below.cell hR.undraw (p := ⟨g, 0, none⟩) hgw).trans hc)]) ⟨_, rfl, rfl, Grew.refl _⟩
    · obtain rfl : oPd1 p = o := Option.some.inj ho
      obtain rfl : 35 = d := Option.some.inj hd
      have hx : a'.eval (.tmp 7) = .pointer (some ⟨q, 0, none⟩) := hF.at 7 rfl h0
      exact step_run (o := oPd1 p) (v := .pointer (some ⟨q, 1, none⟩)) (w' := w') rfl rfl (by intro c h; cases h) (by simp [Oper.about, oPd1]) (by simp [execOp, oPd1, hx, run_fdS1 w' q 0]) ⟨_, rfl, rfl, Grew.refl _⟩
    · obtain rfl : oPd2 p = o := Option.some.inj ho
      obtain rfl : 36 = d := Option.some.inj hd
      have hx : a'.eval (.tmp 35) = .pointer (some ⟨q, 1, none⟩) := hp 1 (oPd1 p) 35 rfl rfl rfl
      exact step_run (o := oPd2 p) (v := .pointer (some ⟨q, 2, none⟩)) (w' := w') rfl rfl (by intro c h; cases h) (by simp [Oper.about, oPd2]) (by simp [execOp, oPd2, hx, run_fdR1 w' q 1]) ⟨_, rfl, rfl, Grew.refl _⟩
    · obtain rfl : oPd3 p = o := Option.some.inj ho
      obtain rfl : 37 = d := Option.some.inj hd
      have hx : a'.eval (.tmp 36) = .pointer (some ⟨q, 2, none⟩) := hp 2 (oPd2 p) 36 rfl rfl rfl
      exact step_run (o := oPd3 p) (v := .string x) (w' := w') rfl rfl (by intro c h; cases h) (by simp [Oper.about, oPd3]) (by simp [execOp, oPd3, hx, run_ldT w' ⟨q, 2, none⟩ _ ((Below.cell hR.undraw (p := ⟨q, 2, none⟩) hqw).trans hcl)]) ⟨_, rfl, rfl, Grew.refl _⟩
    · obtain rfl : oPd4 p = o := Option.some.inj ho
      obtain rfl : 38 = d := Option.some.inj hd
      have hx : a'.tmps.getD 37 undef = .string x := hp 3 (oPd3 p) 37 rfl rfl rfl
      refine step_call (o := oPd4 p) rfl rfl (xs := #[.const (.slice none 0 0), .tmp 37]) (ts := #[22, 9]) rfl trivial (fun _ => by omega) (enters_of Tryz.func38 (by kernel_rfl) rfl) ?_
      rw [show Array.map a'.eval #[.const (.slice none 0 0), .tmp 37] = #[.slice none 0 0, .string x] from by simp only [List.map_toArray, List.map_cons, List.map_nil, Act.eval, hx]]
      refine (CallsIn.inRound l (callsIn_wide.2 (Text_any none [] 0 0 rfl x hy (by simp) w' (HasA.nil _ _ _)))).mono ?_
      rintro e w'' ⟨gg, L, c, rfl, ho, hb⟩
      rw [show ([] ++ vb x.size ++ x.data.toList) = ys by rw [hys]; rfl] at ho
      exact ⟨_, rfl, _, rfl, IsB.own ho, hb⟩
    · exact absurd ((Array.getElem?_eq_some_iff.1 ho).1) (by simp [opsPd])
  · intro a' w' hF hR hp
    have e0 : a'.tmps.getD 34 undef = v := hp 0 (oPd0 p) 34 rfl rfl
    have e1 : a'.tmps.getD 35 undef = .pointer (some ⟨q, 1, none⟩) := hp 1 (oPd1 p) 35 rfl rfl
    have e2 : a'.tmps.getD 36 undef = .pointer (some ⟨q, 2, none⟩) := hp 2 (oPd2 p) 36 rfl rfl
    have e3 : a'.tmps.getD 37 undef = .string x := hp 3 (oPd3 p) 37 rfl rfl
    obtain ⟨A5, L5, c5, e4, hl5, hA5⟩ : IsB w' (a'.tmps.getD 38 undef) ys := hp 4 (oPd4 p) 38 rfl rfl
    have hgr := hR.undraw
    have hown' := own_below hown hgr
    obtain ⟨v', W2, hrun, hown2, hg2⟩ := run_append_has (P := Tryz.prog) (w := w') B 22 22 5 i0 Tryz.underlying22 hi hz0 hz1 hz2 v xs.length xs hown' _ A5 L5 c5 ys hl5 hA5 (by omega) (Nat.le_trans hB (Below.size hgr))
    obtain ⟨A3, c3, rfl⟩ := own_form hown2
    have hx3 : a'.eval (.tmp 34) = v := e0
    have hx5 : a'.eval (.tmp 38) = .slice A5 L5 c5 := e4
    refine step_run (o := oPd5 p) (v := .slice A3 (xs.length + L5) c3) (w' := W2) rfl rfl (by intro c h; cases h) (by simp [Oper.about, oPd5, resolve, Target.leads, Sem.run_pure]) (by
      unfold execOp
      simp only [oPd5, resolve, invoke, builtin, Sem.run_bind, Sem.run_pure, Result.andThen_ok, List.map_toArray, List.map_cons, List.map_nil, hx3, hx5, hrun]) ?_
    have hty := own_typed hown'
    have hb5' : w'.heap[g]? = some (.cells #[v] 22 (0, 0)) := SameT.grew (T := []) hgr _ _ _ (by simp) hg
    have hb52 : W2.heap[g]? = some (.cells #[v] 22 (0, 0)) := SameT.grown hg2 hty _ _ _ (by decide) hb5'
    have hx1 : (a'.put (some 39) (.slice A3 (xs.length + L5) c3)).eval (.tmp 5) = .pointer (some ⟨g, 0, none⟩) := (getD_put_ne (by decide)).trans (hF.at 5 rfl h1)
    have hx6 : (a'.put (some 39) (.slice A3 (xs.length + L5) c3)).eval (.tmp 39) = .slice A3 (xs.length + L5) c3 := getD_put_same (by rw [hF.size, hN]; decide)
    refine step_skip (o := oPd6 p) (w' := W2.setCell ⟨g, 0, none⟩ (.slice A3 (xs.length + L5) c3)) rfl rfl (by intro c h; cases h) (by simp [Oper.about, oPd6]) (by
      have hst := run_stB W2 g A3 (xs.length + L5) c3 v (by simpa using blk_cell hb52 0) (blk_frozen hb52 0)
      have h5x : (a'.put (oPd5 p).dst (.slice A3 (xs.length + L5) c3)).eval (.tmp 5) = .pointer (some ⟨g, 0, none⟩) := hx1
      have h23x : (a'.put (oPd5 p).dst (.slice A3 (xs.length + L5) c3)).eval (.tmp 39) = .slice A3 (xs.length + L5) c3 := hx6
      unfold execOp
      simp only [oPd6, h5x, h23x, Sem.run_bind, hst, Result.andThen_ok]
      rfl) ?_
    have hput : a'.put (some 39) (.slice A3 (xs.length + L5) c3) = puts [(34, v), (35, .pointer (some ⟨q, 1, none⟩)), (36, .pointer (some ⟨q, 2, none⟩)), (37, .string x), (38, .slice A5 L5 c5), (39, .slice A3 (xs.length + L5) c3)] a := by
      have h1 := hF.puts [(34, v), (35, .pointer (some ⟨q, 1, none⟩)), (36, .pointer (some ⟨q, 2, none⟩)), (37, .string x), (38, .slice A5 L5 c5)] (by
        intro x hx
        simp only [List.mem_cons, List.not_mem_nil, or_false] at hx
        rcases hx with rfl | rfl | rfl | rfl | rfl
        · exact e0
        · exact e1
        · exact e2
        · exact e3
        · exact e4) rfl (by rw [hN]; rfl)
      conv => lhs; rw [h1]
      rfl
    show Q .normal (a'.put (some 39) (.slice A3 (xs.length + L5) c3)) _
    rw [hput]
    subst hl5
    exact hQ _ _ w' W2 hgr hown2 hg2 hb52
end Go.Proofs.YthmmbopibpdpiaaGreatDoor

-- SqX
namespace Go.Proofs.YthmmbopibpdpiaaGreatDoor
open Go.RowKit Go.Maps Go.Shelf
attribute [local go_sem] Oper.semAt_some

def onesTo (l : List SE) (i : Nat) : List UInt8 := (l.take i).flatMap oneS
theorem onesTo_succ {l : List SE} {i : Nat} (h : i < l.length) : onesTo l (i + 1) = onesTo l i ++ oneS l[i] := by
  unfold onesTo
  rw [List.take_succ_eq_append_getElem h, List.flatMap_append]
  simp
/-- The bytes so far, behind i rounds. -/
def PutJS (w : World) (g : Nat) (l : List SE) (i : Nat) (W : World) : Prop := Below w.heap.size w W ∧ (w.heap.size ≤ g ∧ ∃ v, W.heap[g]? = some (.cells #[v] 22 (0, 0)) ∧ W.ownsRow w.heap.size 5 1 v (vb l.length ++ onesTo l i).length ((vb l.length ++ onesTo l i).map enc))
theorem PutJS.abides {w : World} {B g : Nat} {l : List SE} {i : Nat} (hB : w.heap.size ≤ B) : Abides B (PutJS w g l i) := (Abides.below (Nat.le_refl _) hB).and ((Abides.pure _).and (Abides.ex fun _ => Abides.block.and Abides.own))
theorem PutJS.below {w W W' : World} {g : Nat} {l : List SE} {i : Nat} (h : PutJS w g l i W) (hb : Below W.heap.size W W') : PutJS w g l i W' := by
  obtain ⟨h1, hg, v, h2, h3⟩ := h
  exact ⟨h1.trans (Below.mono hb h1.size), hg, v, (hb.block g (Array.getElem?_eq_some_iff.1 h2).1).trans h2, own_below h3 hb⟩
theorem onesTo_all (l : List SE) : vb l.length ++ onesTo l l.length = bytesSS l := by
  unfold onesTo bytesSS
  rw [List.take_length]
theorem onesTo_le (l : List SE) (i : Nat) : (onesTo l i).length ≤ (l.flatMap oneS).length := by
  unfold onesTo
  conv => rhs; rw [← List.take_append_drop i l, List.flatMap_append, List.length_append]
  omega
/-- One append. -/
theorem put_stepS {w W W1 W2 : World} {g : Nat} {xs t : List UInt8} {v v1 : Value} (hb : Below w.heap.size w W) (hg : w.heap.size ≤ g)
    (ho : W.ownsRow w.heap.size 5 1 v xs.length (xs.map enc)) (g1 : Grew W W1) (o1 : W2.ownsRow w.heap.size 5 1 v1 (xs.length + t.length) ((xs ++ t).map enc)) (r1 : W1.grownBy W2 v.ownBlock) (c1 : W2.heap[g]? = some (.cells #[v] 22 (0, 0))) :
    Below w.heap.size w (W2.setCell ⟨g, 0, none⟩ v1) ∧ (W2.setCell ⟨g, 0, none⟩ v1).heap[g]? = some (.cells #[v1] 22 (0, 0)) ∧ (W2.setCell ⟨g, 0, none⟩ v1).ownsRow w.heap.size 5 1 v1 (xs ++ t).length ((xs ++ t).map enc) ∧
      KeepsOthers W (W2.setCell ⟨g, 0, none⟩ v1) ∧ (∀ {u : Value} {m : List SE}, KeysWS m u W → KeysWS m u (W2.setCell ⟨g, 0, none⟩ v1)) ∧ ∀ (q : Nat) (cs : Array Value), W.heap[q]? = some (.cells cs 82 (0, 0)) → (W2.setCell ⟨g, 0, none⟩ v1).heap[q]? = some (.cells cs 82 (0, 0)) := by
  have hty : ∀ r, v.ownBlock = some r → ∃ cs, W1.heap[r]? = some (.cells cs 5 (0, 0)) := own_typed (own_below ho g1)
  have hs := ((SameT.grew (T := []) g1).trans (SameT.grown r1 hty)).trans (SameT.set (i := 0) c1 v1)
  refine ⟨((hb.trans (Below.mono g1 hb.size)).grown r1 (Nat.le_trans hb.size (Below.size g1)) (fun k e => (ho.lt k e).1)).setCell (p := ⟨g, 0, none⟩) hg _, by simpa using blk_set c1 0 v1, ?_, ?_, fun {u m} hk => hs.own hk (by decide), fun q cs h => hs _ _ _ (by decide) h⟩
  · have := (SameT.set (i := 0) c1 v1).own o1 (by decide)
    rwa [List.length_append]
  · exact ((KeepsOthers.of_grownBy (grownBy_of_below (r := none) g1) (fun j o e => by cases e)).trans (KeepsOthers.of_grownBy r1 (fun j o e ho' => by
      obtain ⟨cs, hc⟩ := hty j e
      rw [hc] at ho'
      cases ho'
      rfl))).trans (KeepsOthers.setCell _ _ _)
set_option maxRecDepth 100000 in
set_option maxHeartbeats 8000000 in
theorem put_inS (a : Value) (p : Option Nat) (l : List SE) (hs : SortedE l) {b : Nat} (hl : LimB b l) (hbb : b ≤ 100000) (hbl : (bytesSS l).length ≤ 900000) (w : World) (hm : MapOS w p l) (hall : ∀ W, Below w.heap.size w W → Calls Tryz.prog 48 #[a] W fun e W' => e = .returned (.map p) ∧ W' = W)
    (hlen : Calls Tryz.prog 36 #[a] w fun e W' => e = .returned (.int .i64 (l.length : Int)) ∧ W' = w) (A : Option Addr) (L c : Nat) (bs : List UInt8) (hL : L = bs.length) (hL1 : L ≤ 100000) (hA : HasA w w.heap.size A bs) :
    CallsIn Fence.wide 5 Tryz.prog 17 #[a, .slice A L c] w fun e W' => ∃ v n, e = .returned v ∧ W'.ownsRow w.heap.size 5 1 v n ((bs ++ bytesSS l).map enc) ∧ Below w.heap.size w W' := by
  have HSL := Lib.hid (And.intro hs (And.intro hl hbl))
  have HBB := Lib.hid hbb
  have HM := Lib.hid hm
  have HALL := Lib.hid hall
  have HLEN := Lib.hid hlen
  have HA := Lib.hid (And.intro hL (And.intro hL1 hA))
  obtain ⟨N, hN⟩ : ∃ N, N = l.length := ⟨_, rfl⟩
  rw [← hN] at HLEN
  have hN5 : N ≤ 5000 := by rw [hN]; exact hl.len
  have hNi : (N : Int) < 18446744073709551616 := by omega
  have HN := Lib.hid (And.intro hN hN5)
  clear hs hl hbl hbb hm hall hlen hL hL1 hA hN hN5
  refine callsIn_of_wp_marks Tryz.func17 rfl trivial ?_ rfl
  simp only [Tryz.ntmps17, List.size_toArray, List.length_cons, List.length_nil, Nat.reduceAdd, Nat.reduceSub, Array.replicate_succ, Array.replicate_zero, List.push_toArray, List.append_toArray, List.nil_append, List.cons_append]
  gi_wp2_with fail
  refine ⟨trivial, ?_⟩
  refine (callsIn_wide.2 HLEN.out).mono ?_
  rintro e W1 ⟨rfl, rfl⟩
  gi_wp2_with fail
  refine ⟨trivial, ?_⟩
  refine (callsIn_wide.2 (Uint_any none [] 0 0 N rfl (by have := HN.out.2; omega) (by simp) W1 (HasA.nil _ _ _))).mono ?_
  rintro e W2 ⟨g2, L2, c2, rfl, hown, hb⟩
  have H2 := Lib.hid (And.intro hown hb)
  clear hown hb
  gi_wp2
  obtain ⟨W3, hW3⟩ : ∃ W3, W3 = W2.alloc (Obj.cells #[.slice (some ⟨g2, 0, none⟩) L2 c2] 22) := ⟨_, rfl⟩
  rw [← hW3]
  have hB3 : Below W2.heap.size W2 W3 := by rw [hW3]; exact (Below.refl _ W2).alloc (Nat.le_refl _) _
  have k3 : W3.heap[W2.heap.size]? = some (.cells #[.slice (some ⟨g2, 0, none⟩) L2 c2] 22 (0, 0)) := by rw [hW3]; exact World.alloc_heap_new W2 _
  have hG2 := H2.out.2.size
  obtain ⟨G, hG⟩ : ∃ G, G = W2.heap.size := ⟨_, rfl⟩
  rw [← hG] at k3 hG2 ⊢
  have o3 := own_below H2.out.1 hB3
  rw [List.nil_append, HN.out.1] at o3
  have hL2 := own_len o3
  have hJ0 : PutJS W1 G l 0 W3 := ⟨H2.out.2.trans (Below.mono hB3 H2.out.2.size), hG2, _, k3, by
    have e : vb l.length ++ onesTo l 0 = vb l.length := by unfold onesTo; simp
    rw [e, ← hL2]
    exact o3⟩
  have HJ0 := Lib.hid hJ0
  have hW13 : W1.heap.size ≤ W3.heap.size := hJ0.1.size
  have hcl : ∀ e ∈ l, e.cl < 4294967296 := fun e he => (HSL.out.2.1.each e he).1
  have hll : l.length ≤ 1000000 := by have := HSL.out.2.1.len; omega
  clear hW3 hB3 k3 hG o3 hL2 hJ0
  refine wpIn_rangeFunc_tied2 rfl (by omega) (gf := 37) (fb := #[a]) (lb := #[]) rfl trivial (enters_of Tryz.func37 (by kernel_rfl) rfl) (encs := pairE l) (fun _ => rfl)
    (PutJS.abides hW13) (PutJS.abides hW13) (fun x => (PutJS.abides hW13).and (Abides.own.and (Abides.pure _))) (fun x => (PutJS.abides hW13).and Abides.own) (fun _ => Abides.pure _) (fun _ => Abides.pure _)
    (order_seqS 4 (by omega) W1 a p l HM.out HALL.out HSL.out.1 hll hcl W3.heap.size (PutJS W1 G l) (fun i W h => h.1) (fun W W' h hb => h.below hb)) HJ0.out
    (fun x a' W' => ∃ q : Nat, (a' = { tmps := #[a, .slice A L c, undef, undef, .slice none 0 0, .pointer (some ⟨G, 0, none⟩), cV (eAt l x.1).cl, .pointer (some ⟨q, 0, none⟩), a, .int .i64 (N : Int), .int .u64 (N : Int), .slice (some ⟨g2, 0, none⟩) L2 c2, a, .func (.func 37) #[a] #[], cV (eAt l x.1).cl, sessV (eAt l x.1), undef, undef, undef, undef, undef, undef, undef, undef, undef, undef, undef, undef, undef, undef, undef, undef, undef, undef, undef, undef, undef, undef, undef, undef, undef, undef, undef, undef], defers := [] } ∧ x.1 < l.length) ∧ W'.heap[q]? = some (.cells #[.int .u32 ((eAt l x.1).sq : Int), .int .u8 ((eAt l x.1).cd : Int), .string (eAt l x.1).tx] 82 (0, 0)) ∧ PutJS W1 G l x.1 W' ∧ KeysWS l x.2 W')
    (fun x a' => Abides.ex fun q => (Abides.pure _).and (Abides.block.and ((PutJS.abides hW13).and Abides.own))) ?assign ?body ?done ?stop
  case assign =>
    intro y x W K ⟨hJ, hKs, hi⟩ hW hK
    simp only [pairE, sessV]
    have hb0 : Below W.heap.size W (W.alloc (.cells #[.int .u32 ((eAt l x.1).sq : Int), .int .u8 ((eAt l x.1).cd : Int), .string (eAt l x.1).tx] 82)) := (Below.refl _ W).alloc (Nat.le_refl _) _
    have hJ' := hJ.below hb0
    have hK' : KeysWS l x.2 (W.alloc (.cells #[.int .u32 ((eAt l x.1).sq : Int), .int .u8 ((eAt l x.1).cd : Int), .string (eAt l x.1).tx] 82)) := World.ownsRow.alloc hKs _
    have hkf := (KeepsOthers.alloc W (.cells #[.int .u32 ((eAt l x.1).sq : Int), .int .u8 ((eAt l x.1).cd : Int), .string (eAt l x.1).tx] 82)).from W3.heap.size
    have hnew := World.alloc_heap_new W (.cells #[.int .u32 ((eAt l x.1).sq : Int), .int .u8 ((eAt l x.1).cd : Int), .string (eAt l x.1).tx] 82)
    have HK9 := Lib.hid (And.intro hJ' (And.intro hK' (And.intro hkf (And.intro hnew hi))))
    clear hJ' hK' hkf hnew hb0 hJ hKs
    gi_wp2
    exact hK _ _ HK9.out.2.2.1 ⟨W.heap.size, ⟨rfl, HK9.out.2.2.2.2⟩, HK9.out.2.2.2.1, HK9.out.1, HK9.out.2.1⟩
  case body =>
    rintro y ⟨i, u⟩ a' W ⟨q, ⟨rfl, hi⟩, hq, hJ, hK⟩ hlt
    dsimp only at hJ hK hi hq ⊢
    rw [eAt_at hi] at hq ⊢
    obtain ⟨hb, hg, v, hv, ho⟩ := hJ
    have hz := HSL.out.2.1.each l[i] (List.getElem_mem hi)
    have hbb := HBB.out
    have hpl : (vb l.length ++ onesTo l i).length ≤ 900000 := by
      have h1 := onesTo_le l i
      have h2 := HSL.out.2.2
      unfold bytesSS at h2
      rw [List.length_append] at h2 ⊢
      omega
    have hps := onesTo_succ hi
    obtain ⟨⟨cl, sq, cd, tx⟩, he⟩ : ∃ e, e = l[i] := ⟨_, rfl⟩
    rw [← he] at hz hps hq
    rw [← he]
    simp only at hz hq ⊢
    obtain ⟨xs, hxs⟩ : ∃ xs, xs = vb l.length ++ onesTo l i := ⟨_, rfl⟩
    rw [← hxs] at ho hpl
    have HPS := Lib.hid (show vb l.length ++ onesTo l (i + 1) = xs ++ vb cl ++ vb sq ++ vb cd ++ txt tx by rw [hps, hxs]; simp only [oneS, List.append_assoc])
    clear hps he hxs
    have hWb := hb.size
    have l1 := vb_len10 (n := cl) (by omega)
    have l2 := vb_len10 (n := sq) (by omega)
    have l3 := vb_len10 (n := cd) (by omega)
    have l4 := txt_len (s := tx) (by omega)
    gi_wp2
    refine put_regionPa y (5 - 1 - 1) (by decide) W1.heap.size G v cl xs (by omega) hz.1 _ W _ rfl rfl rfl hv ho hWb ?_
    intro u1 v1 V1 V2 g1 o1 r1 c1
    obtain ⟨s1, s2, s3, s4, s5, s6⟩ := put_stepS hb hg ho g1 o1 r1 c1
    have q4 := s6 q _ hq
    obtain ⟨W4, hW4⟩ : ∃ W4, W4 = V2.setCell ⟨G, 0, none⟩ v1 := ⟨_, rfl⟩
    rw [← hW4] at s1 s2 s3 s4 s5 q4 ⊢
    have K4 := Lib.hid (And.intro s4 (s5 hK))
    clear g1 o1 r1 c1 s4 s5 s6 hW4 hv ho hK hq
    simp only [puts, List.foldl_cons, List.foldl_nil, Act.put, List.setIfInBounds_toArray, List.set_cons_succ, List.set_cons_zero]
    gi_wp2
    refine put_regionPb y (5 - 1 - 1) (by decide) W1.heap.size G v1 q sq (xs ++ vb cl) (by rw [List.length_append]; omega) hz.2.1 _ W4 _ rfl rfl (by simpa using blk_cell q4 0) rfl s2 s3 s1.size ?_
    intro u2 v2 V3 V4 g3 o3 r3 c3
    obtain ⟨t1, t2, t3, t4, t5, t6⟩ := put_stepS s1 hg s3 g3 o3 r3 c3
    have q5 := t6 q _ q4
    obtain ⟨W5, hW5⟩ : ∃ W5, W5 = V4.setCell ⟨G, 0, none⟩ v2 := ⟨_, rfl⟩
    rw [← hW5] at t1 t2 t3 t4 t5 q5 ⊢
    have K5 := Lib.hid (And.intro (K4.out.1.trans t4) (t5 K4.out.2))
    clear g3 o3 r3 c3 t4 t5 t6 hW5 q4 s1 s2 s3
    simp only [puts, List.foldl_cons, List.foldl_nil, Act.put, List.setIfInBounds_toArray, List.set_cons_succ, List.set_cons_zero]
    gi_wp2
    refine put_regionPc y (5 - 1 - 1) (by decide) W1.heap.size G v2 q cd (xs ++ vb cl ++ vb sq) (by rw [List.length_append, List.length_append]; omega) hz.2.2.1 _ W5 _ rfl rfl (by simpa using blk_cell q5 1) rfl t2 t3 t1.size ?_
    intro u3 v3 V5 V6 g5 o5 r5 c5
    obtain ⟨x1, x2, x3, x4, x5, x6⟩ := put_stepS t1 hg t3 g5 o5 r5 c5
    have q6 := x6 q _ q5
    obtain ⟨W6, hW6⟩ : ∃ W6, W6 = V6.setCell ⟨G, 0, none⟩ v3 := ⟨_, rfl⟩
    rw [← hW6] at x1 x2 x3 x4 x5 q6 ⊢
    have K6 := Lib.hid (And.intro (K5.out.1.trans x4) (x5 K5.out.2))
    clear g5 o5 r5 c5 x4 x5 x6 hW6 q5 t1 t2 t3
    simp only [puts, List.foldl_cons, List.foldl_nil, Act.put, List.setIfInBounds_toArray, List.set_cons_succ, List.set_cons_zero]
    gi_wp2
    refine put_regionPd y (5 - 1 - 1) (by decide) W1.heap.size G v3 q tx (xs ++ vb cl ++ vb sq ++ vb cd) (by rw [List.length_append, List.length_append, List.length_append]; omega) (by omega) _ W6 _ rfl rfl (by simpa using blk_cell q6 2) rfl x2 x3 x1.size ?_
    intro u4 v4 V7 V8 g7 o7 r7 c7
    obtain ⟨y1, y2, y3, y4, y5, y6⟩ := put_stepS x1 hg x3 g7 o7 r7 c7
    simp only [puts, List.foldl_cons, List.foldl_nil, Act.put, List.setIfInBounds_toArray, List.set_cons_succ, List.set_cons_zero]
    refine ⟨(K6.out.1.trans y4).from _, ⟨y1, hg, v4, y2, ?_⟩, y5 K6.out.2⟩
    rw [HPS.out]
    exact y3
  case done =>
    intro D W hD hId hK
    obtain ⟨hb, hg, v, hv, ho⟩ := hId
    rw [onesTo_all] at ho
    obtain ⟨A9, c9, rfl⟩ := own_form ho
    have hc := blk_cell hv 0
    simp at hc
    obtain ⟨M, hM⟩ : ∃ M, M = (bytesSS l).length := ⟨_, rfl⟩
    rw [← hM] at ho hc
    have hd : W.heap[D]? = some (.deferred (some [])) := hK
    have HD := Lib.hid (And.intro hb (And.intro ho (And.intro hM hK)))
    clear hb hg hv ho hM hK hd
    gi_wp2_with fail
    refine ⟨trivial, ?_⟩
    obtain ⟨W5, hW5⟩ : ∃ W5, W5 = W.alloc (Obj.cells #[.slice A L c, .slice A9 M c9] 22) := ⟨_, rfl⟩
    rw [← hW5]
    have hB5 : Below W.heap.size W W5 := by rw [hW5]; exact (Below.refl _ W).alloc (Nat.le_refl _) _
    have k5 : W5.heap[W.heap.size]? = some (.cells #[.slice A L c, .slice A9 M c9] 22 (0, 0)) := by rw [hW5]; exact World.alloc_heap_new W _
    have hw5 : Below W1.heap.size W1 W5 := HD.out.1.trans (Below.mono hB5 HD.out.1.size)
    have d5 : W5.heap[D]? = some (.deferred (some [])) := (hB5.block D (Array.getElem?_eq_some_iff.1 HD.out.2.2.2).1).trans HD.out.2.2.2
    have hfl : (List.flatten [bs, bytesSS l]).length ≤ 1000000 ∧ 1 ≤ (List.flatten [bs, bytesSS l]).length := by
      have h1 := HSL.out.2.2
      have h2 := HA.out.1
      have h3 := HA.out.2.1
      have h4 : 0 < (vb l.length).length := List.length_pos_iff.2 (vb_ne _)
      have h5 : 0 < (bytesSS l).length := by unfold bytesSS; rw [List.length_append]; omega
      simp only [List.flatten_cons, List.flatten_nil, List.length_append, List.length_nil]
      omega
    refine (callsIn_wide.2 (Concat_any W.heap.size 2 2 [bs, bytesSS l] rfl (by omega) (by omega) hfl.2 hfl.1 W5 (Array.getElem?_eq_some_iff.1 k5).1 ?_)).mono ?_
    · intro i hi
      have hi2 : i = 0 ∨ i = 1 := by simp at hi; omega
      rcases hi2 with rfl | rfl
      · exact ⟨A, L, c, by rw [blk_cell k5]; rfl, HA.out.1, HA.out.2.2.below' hw5⟩
      · exact ⟨A9, M, c9, by rw [blk_cell k5]; rfl, HD.out.2.2.1, HasA.of_own (own_below HD.out.2.1 hB5)⟩
    rintro e W6 ⟨g6, L6, c6, rfl, hown, hb6⟩
    have h6 : Below W1.heap.size W1 W6 := hw5.trans (Below.mono hb6 hw5.size)
    have d6 : W6.heap[D]? = some (.deferred (some [])) := (hb6.block D (Array.getElem?_eq_some_iff.1 d5).1).trans d5
    have HF := Lib.hid (And.intro (own_base hown (base' := W1.heap.size) hw5.size) (And.intro h6 d6))
    have hDw : W1.heap.size ≤ D := Nat.le_trans hW13 hD
    clear hown hb6 h6 d6 hW5 hB5 k5 hw5 d5 hfl
    gi_wp2
    have hr : ∀ r, some D = some r → W1.heap.size ≤ r ∧ ∃ o, W6.heap[r]? = some o ∧ o.isCells = false := fun r e => by
      cases e
      exact ⟨hDw, _, HF.out.2.2, rfl⟩
    have hown6 : W6.ownsRow W1.heap.size 5 1 (.slice (some ⟨g6, 0, none⟩) L6 c6) L6 ((bs ++ bytesSS l).map enc) := by
      have h := HF.out.1
      simpa using h
    have e1 := Abides.own (B := W1.heap.size) W6 _ (some D) hown6 (grownBy_putObj' W6 D (.deferred none)) hr
    have e2 := Abides.below (Nat.le_refl W1.heap.size) (Nat.le_refl W1.heap.size) W6 _ (some D) HF.out.2.1 (grownBy_putObj' W6 D (.deferred none)) hr
    refine ⟨by simp, .inl ⟨_, _, rfl, run_takeDeferred HF.out.2.2, ?_⟩⟩
    refine ⟨.slice (some ⟨g6, 0, none⟩) L6 c6, (results_tmp (fn := Tryz.f17) (t := 4) rfl _ _ _).trans rfl, .slice (some ⟨g6, 0, none⟩) L6 c6, L6, rfl, e1, e2⟩
  case stop =>
    intro D cc W hD hf
    exact hf.elim
theorem put_anyS {w : World} {R : Nat} {p : Option Nat} {l : List SE} (A : Option Addr) (L c : Nat) (bs : List UInt8) (h : StQS w R p l) (hs : SortedE l) {b : Nat} (hl : LimB b l) (hbb : b ≤ 100000) (hbl : (bytesSS l).length ≤ 900000) (hL : L = bs.length) (hL1 : L ≤ 100000) (hA : HasA w w.heap.size A bs) :
    Calls Tryz.prog 17 #[.pointer (some ⟨R, 0, none⟩), .slice A L c] w fun e W' => ∃ v n, e = .returned v ∧ W'.ownsRow w.heap.size 5 1 v n ((bs ++ bytesSS l).map enc) ∧ Below w.heap.size w W' :=
  callsIn_wide.1 (put_inS _ p l hs hl hbb hbl w h.map (fun _W hb => all_anyS (h.below hb)) (len_anyS h) A L c bs hL hL1 hA)
end Go.Proofs.YthmmbopibpdpiaaGreatDoor
