/- inOrder: a state's keys in their order with their values, for a range over a function. The two statements of Put's round: a text's bytes behind the captured ones. Put: a state's bytes behind given ones. -/
import Derived.Test.YthmmbopibpdpiaaGreatDoorMKqA
import Derived.Test.YthmmbopibpdpiaaGreatDoorKvLay
import Derived.Test.YthmmbopibpdpiaaGreatDoorOwnS
import Derived.RangeFuncBox
import Derived.Shelf.Abstract
import Derived.Shelf.RegionOpen
import Derived.WalkKit
import Derived.OwnWalkIn
import Derived.TacticsInMore
import Derived.LoopNIn
import Derived.LoopIn
import Derived.WalkMore
import Derived.Test.YthmmbopibpdpiaaGreatDoorSameT
import Derived.Test.YthmmbopibpdpiaaGreatDoorVarTxt
import Derived.Test.YthmmbopibpdpiaaGreatDoorConcat
-- KqI
namespace Go.Proofs.YthmmbopibpdpiaaGreatDoor
open Go.RowKit Go.Maps Go.Sort Go.Shelf
attribute [local go_sem] Oper.semAt_some

/-- What maps.Keys tells: a function over a block that holds the map. -/
def keysV (g : Nat) : Value := .func (.func 70) #[] #[.pointer (some ⟨g, 0, none⟩)]
theorem keys_any (p : Option Nat) (w : World) : Calls Tryz.prog 54 #[.map p] w fun e W' => e = .returned (keysV w.heap.size) ∧ W' = w.alloc (.cells #[.map p] 90) :=
  (callsIn_wide (n := 5)).1 (lay_maps_Keys_54 p w)
theorem sorted_any {w : World} {p : Option Nat} {l : List PV} (h : MapO w p l) (hs : SortedP l) (hl : l.length ≤ 1000000) :
    Calls Tryz.prog 53 #[keysV w.heap.size] (w.alloc (.cells #[.map p] 90)) fun e W' => ∃ v, e = .returned v ∧ OwnS w.heap.size W' v (l.map (·.1)) ∧ Below w.heap.size w W' := by
  have h0 : Below w.heap.size w (w.alloc (.cells #[.map p] 90)) := (Below.refl _ w).alloc (Nat.le_refl _) _
  cases p with
  | none =>
    obtain rfl : l = [] := h
    have hk := lay_slices_Sorted_keys_nil_53_54 w
    refine ((callsIn_wide (n := 5)).1 hk).mono ?_
    rintro e W' ⟨v, ss, rfl, rfl, _, hv, hb⟩
    exact ⟨v, rfl, by rw [hv.2 rfl]; exact OwnS.nil _ _, h0.trans (Below.mono hb h0.size)⟩
  | some b =>
    have hk := lay_slices_Sorted_keys_53_54 b l.length (mapD l) _ w (show w.ownsMap _ _ _ b _ _ from h) (by rw [mapD_size]; simp only [maxLen]; omega) (by rw [mapD_size]; omega)
    refine ((callsIn_wide (n := 5)).1 hk).mono ?_
    rintro e W' ⟨v, ss, rfl, hp, hrow, _, hb⟩
    have hlen : ss.length = (l.map (·.1)).length := by
      rw [hp.length_eq, mapD_keys, List.length_map, List.length_map]
    have hcells := sorted_keys hs hp
    refine ⟨v, rfl, ?_, h0.trans (Below.mono hb h0.size)⟩
    rw [hlen] at hrow
    have hrow2 : OwnS (w.alloc (.cells #[.map (some b)] 90)).heap.size W' v (l.map (·.1)) := by
      unfold OwnS
      have e1 : cellsS (l.map (·.1)) = (ss.mergeSort fun x y => decide (x ≤ y)).map encStr := by
        rw [show (fun x y => decide (x ≤ y)) = Go.leB from rfl, hcells, cellsS, List.map_map]
        rfl
      rw [e1]
      exact hrow
    exact hrow2.mono h0.size
/-- A round: the pair's place, and the row of the keys. -/
def pk (l : List PV) (i : Nat) : ByteArray := (l[i]?.getD (⟨#[]⟩, ⟨#[]⟩)).1
def pv (l : List PV) (i : Nat) : ByteArray := (l[i]?.getD (⟨#[]⟩, ⟨#[]⟩)).2
theorem pk_at {l : List PV} {i : Nat} (h : i < l.length) : pk l i = l[i].1 := by simp [pk, h]
theorem pv_at {l : List PV} {i : Nat} (h : i < l.length) : pv l i = l[i].2 := by simp [pv, h]
def pairV (l : List PV) (x : Nat × Value) : Array Value := #[.string (pk l x.1), .string (pv l x.1)]
def KeysW (l : List PV) (v : Value) (W : World) : Prop := OwnS 0 W v (l.map (·.1))
theorem look_at {l : List PV} (hs : SortedP l) {j : Nat} (hj : j < l.length) : lookP l l[j].1 = some l[j].2 := by
  have h1 := lookP_of_mem (l := l) (k := l[j].1) (v := l[j].2) (List.getElem_mem hj)
  cases hc : lookP l l[j].1 with
  | none => rw [hc] at h1; cases h1
  | some u =>
    obtain ⟨i, hi, e1⟩ := List.mem_iff_getElem.1 (lookP_mem hc)
    rcases Nat.lt_trichotomy i j with h | h | h
    · have := List.pairwise_iff_getElem.1 hs i j hi hj h
      rw [e1, ltB_irr] at this
      cases this
    · subst h
      rw [e1]
    · have := List.pairwise_iff_getElem.1 hs j i hj hi h
      rw [e1, ltB_irr] at this
      cases this
theorem run_fdHeld (w : World) (t : ByteArray) : (Instr.field 107 (heldV t) 0).run Tryz.prog w = .ok (.string t) w := by
  first
    | (simp [go_sem, Instr.field]; done)
    | (simp [Instr.field, go_sem]; rfl)
    | kernel_rfl
set_option maxRecDepth 100000 in
set_option maxHeartbeats 4000000 in
theorem order_seq (n : Nat) (hn : 1 ≤ n) (w0 : World) (a : Value) (p : Option Nat) (l : List PV) (h : MapO w0 p l) (hall : ∀ W, Below w0.heap.size w0 W → Calls Tryz.prog 52 #[a] W fun e W' => e = .returned (.map p) ∧ W' = W) (hs : SortedP l) (hl : l.length ≤ 1000000) (hkz : ∀ q ∈ l, q.1.size ≤ 1000000) (B : Nat) (J : Nat → World → Prop)
    (hJb : ∀ i W, J i W → Below w0.heap.size w0 W) (hJ0 : ∀ W W', J 0 W → Below W.heap.size W W' → J 0 W') :
    TiedSeq Fence.wide n Tryz.prog 41 #[a] #[] (pairV l) B
      (J 0) (J l.length) (fun x W => J x.1 W ∧ KeysW l x.2 W ∧ x.1 < l.length) (fun x W => J (x.1 + 1) W ∧ KeysW l x.2 W) (fun _ _ => False) (fun _ _ => False) := by
  intro y G Gx hG hGx hY W h0 hGW
  refine callsIn_of_wp Tryz.func41 rfl trivial ?_ rfl
  simp only [Tryz.ntmps41, List.size_toArray, List.length_cons, List.length_nil, Nat.reduceAdd, Nat.reduceSub, Array.replicate_succ, Array.replicate_zero, List.push_toArray, List.append_toArray, List.nil_append, List.cons_append]
  have HY := Lib.hid hY
  have H0 := Lib.hid h0
  have HG := Lib.hid hG
  have HGW := Lib.hid hGW
  have HST := Lib.hid h
  have HJB := Lib.hid hJb
  have HJ0 := Lib.hid hJ0
  have HSL := Lib.hid (And.intro hs (And.intro hl hkz))
  have HA := Lib.hid (hall W (hJb 0 W h0))
  have HK := Lib.hid (keys_any p W)
  have HSO := Lib.hid (sorted_any (h.below (hJb 0 W h0)) hs hl)
  clear hY h0 hG hGx hGW h hall hJb hJ0 hs hl hkz
  gi_wp2_with fail
  refine ⟨trivial, ?_⟩
  refine (callsIn_wide.2 HA.out).mono ?_
  rintro e W1 ⟨rfl, rfl⟩
  gi_wp2_with fail
  refine ⟨trivial, ?_⟩
  refine (callsIn_wide.2 HK.out).mono ?_
  rintro e W2 ⟨rfl, rfl⟩
  gi_wp2_with fail
  refine ⟨trivial, ?_⟩
  refine (callsIn_wide.2 HSO.out).mono ?_
  rintro e W3 ⟨v, rfl, ho, hb3⟩
  obtain ⟨A3, c3, rfl, hc3⟩ := ho.form
  obtain ⟨N, hN⟩ : ∃ N, N = (l.map (·.1)).length := ⟨_, rfl⟩
  have hNl : N = l.length := by rw [hN, List.length_map]
  rw [← hN] at hc3 ⊢
  have HO := Lib.hid (show KeysW l (.slice A3 N c3) W3 by rw [hN]; exact ho.mono (Nat.zero_le _))
  have HJ3 := Lib.hid (HJ0.out _ _ H0.out hb3)
  have HG3 := Lib.hid (HG.out _ _ HGW.out (KeepsFrom.of_grownBy (grownBy_of_below (r := none) hb3) (fun j e => by cases e)))
  have HNL := Lib.hid (And.intro hNl hc3)
  have hNi : (N : Int) ≤ 1000000 := by have := HSL.out.2.1; omega
  clear ho hb3 hN hNl hc3 HA HK HSO H0 HGW
  gi_wp2
  gi_loopw [13] (fun i wr => ∃ j : Nat, i = .int .i64 (j : Int) ∧ j ≤ N ∧ Hid (J j wr) ∧ Hid (KeysW l (.slice A3 N c3) wr) ∧ Hid (G wr)) (fun i _ => N - (intOf i).toNat)
  case atStart => exact ⟨0, rfl, Nat.zero_le _, HJ3.out, HO.out, HG3.out⟩
  case round =>
    obtain ⟨j, rfl, hj, hJ, hK, hg⟩ := hrel
    by_cases hlt : j < N
    · have hji : (j : Int) < (N : Int) := by omega
      have hjl : j < l.length := by have := HNL.out.1; omega
      have hOj := hK.out
      obtain ⟨kb, ko, e1, l1, f1⟩ := OwnS.has hOj (by intro e; rw [List.map_eq_nil_iff] at e; subst e; simp at hjl)
      subst e1
      have g1 := f1 j (by simpa using hjl)
      rw [List.getElem_map] at g1
      obtain ⟨k, hk⟩ : ∃ k, k = l[j].1 := ⟨_, rfl⟩
      obtain ⟨v, hv⟩ : ∃ v, v = l[j].2 := ⟨_, rfl⟩
      rw [← hk] at g1
      have hget := (HST.out.below (HJB.out j wr hJ.out)).get (k := k) (by
        have := HSL.out.2.2 l[j] (List.getElem_mem hjl)
        rw [hk]
        simp only [maxLen]
        omega)
      rw [hk, look_at HSL.out.1 hjl, Option.getD_some, ← hk, ← hv] at hget
      obtain ⟨fn, tmps, assign, body, hy, hRR⟩ := HY.out (j, .slice (some ⟨kb, ko, none⟩) N c3) wr ⟨hJ.out, hK.out, hjl⟩ hg.out
      have hpv : pairV l (j, .slice (some ⟨kb, ko, none⟩) N c3) = #[.string k, .string v] := by
        simp only [pairV, pk_at hjl, pv_at hjl, ← hk, ← hv]
      rw [hpv] at hy
      have hfd := run_fdHeld wr v
      clear hOj f1 l1 hk hv hpv
      gi_wp2
      refine hRR.mono ?_
      rintro e W4 (⟨rfl, hIo, hG4⟩ | ⟨rfl, cc, hf, _⟩)
      · have HIo := Lib.hid hIo
        have HG4 := Lib.hid hG4
        clear hIo hG4 hy
        gi_wp2
        refine ⟨⟨j + 1, by congr 1, by omega, HIo.out.1, HIo.out.2, HG4.out⟩, by simp only [intOf]; omega⟩
      · exact hf.elim
    · have hji : ¬ (j : Int) < (N : Int) := by omega
      obtain rfl : j = N := by omega
      gi_wp2
      go_end0
      exact ⟨⟨_, rfl⟩, by rw [← HNL.out.1]; exact hJ.out, hg.out⟩
end Go.Proofs.YthmmbopibpdpiaaGreatDoor

-- KqR
namespace Go.Proofs.YthmmbopibpdpiaaGreatDoor
open Go.RowKit

def psiKq (v x : Value) (ys : List UInt8) : Nat → Value → World → Prop
  | 0, u, _ => u = v
  | 1, u, _ => u = x
  | 2, u, w => IsB w u ys
  | _, _, _ => True
theorem psiKq_grew (v x : Value) (ys : List UInt8) : ∀ i u w w', psiKq v x ys i u w → Grew w w' → psiKq v x ys i u w' := by
  intro i u w w' h hg
  rcases i with _ | _ | _ | i
  · exact h
  · exact h
  · exact IsB.grew h hg
  · trivial
theorem run_ldKq (w : World) (p : Addr) (v : Value) (h : w.cell? p = some v) : (Instr.loadAt 22 (.pointer (some p))).run Tryz.prog w = .ok v w := by
  simp [go_sem, h]
theorem run_stKq (w : World) (b : Nat) (A' : Option Addr) (n c : Nat) (u : Value) (h : w.cell? ⟨b, 0, none⟩ = some u) (hf : w.frozen? ⟨b, 0, none⟩ = false) : (Instr.storeAt 22 (.pointer (some ⟨b, 0, none⟩)) (.slice A' n c)).run Tryz.prog w = .ok () (w.setCell ⟨b, 0, none⟩ (.slice A' n c)) := by
  simp [go_sem, h, hf]

def oRa0 (p : String) : Oper := { dst := some 16, op := Op.load 22 (Operand.tmp 5), type := 22, pos := p, after := #[], guard := none }
def oRa1 (p : String) : Oper := { dst := some 17, op := Op.move (Operand.tmp 6), type := 9, pos := p, after := #[], guard := none }
def oRa2 (p : String) : Oper := { dst := some 18, op := Op.call { callee := Callee.value (Operand.func 38), args := #[Operand.const (Value.slice none 0 0), Operand.tmp 17], argTypes := #[22, 9] }, type := 22, pos := p, after := #[{ on := 1, ground := Ground.data }], guard := none }
def oRa3 (p : String) : Oper := { dst := some 19, op := Op.call { callee := Callee.builtin Builtin.append, args := #[Operand.tmp 16, Operand.tmp 18], argTypes := #[22, 22] }, type := 22, pos := p, after := #[{ on := 0, ground := Ground.data }, { on := 2, ground := Ground.data }, { on := 2, ground := Ground.chain }], guard := none }
def oRa4 (p : String) : Oper := { dst := none, op := Op.store 22 (Operand.tmp 5) (Operand.tmp 19), type := 0, pos := p, after := #[{ on := 3, ground := Ground.data }, { on := 3, ground := Ground.chain }, { on := 0, ground := Ground.phase }, { on := 1, ground := Ground.phase }, { on := 2, ground := Ground.phase }, { on := 3, ground := Ground.phase }], guard := none }
def opsRa (p : String) : List Oper := [oRa0 p, oRa1 p, oRa2 p]
theorem opsRa_back (p : String) : backwards (opsRa p ++ [oRa3 p, oRa4 p]) = true := by kernel_rfl
theorem opsRa_slots (p : String) : slotsOk 28 (opsRa p) = true := by kernel_rfl
theorem opsRa_all (p : String) : ((List.range ((opsRa p).length + 1)).all (hasEdge (oRa4 p))) = true := by kernel_rfl
theorem opsRa_pen (p : String) (L : Nat → Bool) (hcl : ∀ j o' e, (opsRa p ++ [oRa3 p, oRa4 p]).toArray[j]? = some o' → L j = true → e ∈ o'.after → Region.binds .any e = true → L e.on = true) (hp : ∀ e ∈ (oRa3 p).after, Region.binds .any e = true → L e.on = true) : ∀ j, j < (opsRa p).length → L j = true := by
  have h0 : L 0 = true := hp { on := 0, ground := Ground.data } (by simp [oRa3]) rfl
  have h2 : L 2 = true := hp { on := 2, ground := Ground.data } (by simp [oRa3]) rfl
  have h1 : L 1 = true := hcl 2 (oRa2 p) { on := 1, ground := Ground.data } rfl h2 (by simp [oRa2]) rfl
  intro j hj
  have hj' : j < 3 := hj
  rcases j with _ | _ | _ | j
  · exact h0
  · exact h1
  · exact h2
  · omega
set_option maxRecDepth 100000 in
set_option maxHeartbeats 4000000 in
theorem put_regionRa {p : String} (l n : Nat) (hn : 1 ≤ n) (B g : Nat) (v : Value) (x : ByteArray) (xs : List UInt8) (hx : xs.length ≤ 100000000) (hy : x.size ≤ 1000000) (a : Act) (w : World) (Q : Exit → Act → World → Prop) (hN : a.tmps.size = 28)
    (h0 : a.tmps.getD 6 undef = .string x) (h1 : a.tmps.getD 5 undef = .pointer (some ⟨g, 0, none⟩)) (hg : w.heap[g]? = some (.cells #[v] 22 (0, 0))) (hown : w.ownsRow B 5 1 v xs.length (xs.map enc)) (hB : B ≤ w.heap.size)
    (hQ : ∀ (u v' : Value) (W1 W2 : World), Grew w W1 → W2.ownsRow B 5 1 v' (xs.length + (txt x).length) ((xs ++ txt x).map enc) → W1.grownBy W2 v.ownBlock → W2.heap[g]? = some (.cells #[v] 22 (0, 0)) → Q .normal (puts [(16, v), (17, .string x), (18, u), (19, v')] a) (W2.setCell ⟨g, 0, none⟩ v')) :
    (Code.region 5 (opsRa p ++ [oRa3 p, oRa4 p]).toArray true).wpIn (Fence.wide.inRound l) n Tryz.prog Q a w := by
  obtain ⟨i0, hi, hz0, hz1, hz2⟩ := info_parts info5
  have hyl : (txt x).length ≤ 2000000 := by have := txt_len hy; omega
  have hgw : g < w.heap.size := (Array.getElem?_eq_some_iff.1 hg).1
  have hc : w.cell? ⟨g, 0, none⟩ = some v := by simpa using blk_cell hg 0
  obtain ⟨ys, hys⟩ : ∃ ys, ys = txt x := ⟨_, rfl⟩
  rw [← hys] at hQ hyl
  refine wpIn_region_two 28 hN follows (opsRa_back p) (opsRa_slots p) (opsRa_all p) (opsRa_pen p) Grew Grew.refl Grew.trans (psiKq v (.string x) ys) (psiKq_grew v (.string x) ys) ?_ ?_
  · intro i o d ho hd a' w' hF hR hp
    rcases i with _ | _ | _ | i
    · obtain rfl : oRa0 p = o := Option.some.inj ho
      obtain rfl : 16 = d := Option.some.inj hd
      have hx : a'.eval (.tmp 5) = .pointer (some ⟨g, 0, none⟩) := hF.at 5 rfl h1
      exact step_run (o := oRa0 p) (v := v) (w' := w') rfl rfl (by intro c h; cases h) (by simp [Oper.about, oRa0]) (by simp [execOp, oRa0, hx, run_ldKq w' _ v ((Below.cell hR.undraw (p := ⟨g, 0, none⟩) hgw).trans hc)]) ⟨_, rfl, rfl, Grew.refl _⟩
    · obtain rfl : oRa1 p = o := Option.some.inj ho
      obtain rfl : 17 = d := Option.some.inj hd
      have hx : a'.eval (.tmp 6) = .string x := hF.at 6 rfl h0
      exact step_run (o := oRa1 p) (v := .string x) (w' := w') rfl rfl (by intro c h; cases h) (by simp [Oper.about, oRa1]) (by simp [execOp, oRa1, hx]) ⟨_, rfl, rfl, Grew.refl _⟩
    · obtain rfl : oRa2 p = o := Option.some.inj ho
      obtain rfl : 18 = d := Option.some.inj hd
      have hx : a'.tmps.getD 17 undef = .string x := hp 1 (oRa1 p) 17 rfl rfl rfl
      refine step_call (o := oRa2 p) rfl rfl (xs := #[.const (.slice none 0 0), .tmp 17]) (ts := #[22, 9]) rfl trivial (fun _ => by omega) (enters_of Tryz.func38 (by kernel_rfl) rfl) ?_
      rw [show Array.map a'.eval #[.const (.slice none 0 0), .tmp 17] = #[.slice none 0 0, .string x] from by simp only [List.map_toArray, List.map_cons, List.map_nil, Act.eval, hx]]
      refine (CallsIn.inRound l (callsIn_wide.2 (Text_any none [] 0 0 rfl x hy (by simp) w' (HasA.nil _ _ _)))).mono ?_
      rintro e w'' ⟨gg, L, c, rfl, ho, hb⟩
      rw [show ([] ++ vb x.size ++ x.data.toList) = ys by rw [hys]; rfl] at ho
      exact ⟨_, rfl, _, rfl, IsB.own ho, hb⟩
    · exact absurd ((Array.getElem?_eq_some_iff.1 ho).1) (by simp [opsRa])
  · intro a' w' hF hR hp
    have e0 : a'.tmps.getD 16 undef = v := hp 0 (oRa0 p) 16 rfl rfl
    have e1 : a'.tmps.getD 17 undef = .string x := hp 1 (oRa1 p) 17 rfl rfl
    obtain ⟨A5, L5, c5, e2, hl5, hA5⟩ : IsB w' (a'.tmps.getD 18 undef) ys := hp 2 (oRa2 p) 18 rfl rfl
    have hgr := hR.undraw
    have hown' := own_below hown hgr
    obtain ⟨v', W2, hrun, hown2, hg2⟩ := run_append_has (P := Tryz.prog) (w := w') B 22 22 5 i0 Tryz.underlying22 hi hz0 hz1 hz2 v xs.length xs hown' _ A5 L5 c5 ys hl5 hA5 (by omega) (Nat.le_trans hB (Below.size hgr))
    obtain ⟨A3, c3, rfl⟩ := own_form hown2
    have hx3 : a'.eval (.tmp 16) = v := e0
    have hx5 : a'.eval (.tmp 18) = .slice A5 L5 c5 := e2
    refine step_run (o := oRa3 p) (v := .slice A3 (xs.length + L5) c3) (w' := W2) rfl rfl (by intro c h; cases h) (by simp [Oper.about, oRa3, resolve, Target.leads, Sem.run_pure]) (by
      unfold execOp
      simp only [oRa3, resolve, invoke, builtin, Sem.run_bind, Sem.run_pure, Result.andThen_ok, List.map_toArray, List.map_cons, List.map_nil, hx3, hx5, hrun]) ?_
    have hty := own_typed hown'
    have hb5' : w'.heap[g]? = some (.cells #[v] 22 (0, 0)) := SameT.grew (T := []) hgr _ _ _ (by simp) hg
    have hb52 : W2.heap[g]? = some (.cells #[v] 22 (0, 0)) := SameT.grown hg2 hty _ _ _ (by decide) hb5'
    have hx1 : (a'.put (some 19) (.slice A3 (xs.length + L5) c3)).eval (.tmp 5) = .pointer (some ⟨g, 0, none⟩) := (getD_put_ne (by decide)).trans (hF.at 5 rfl h1)
    have hx6 : (a'.put (some 19) (.slice A3 (xs.length + L5) c3)).eval (.tmp 19) = .slice A3 (xs.length + L5) c3 := getD_put_same (by rw [hF.size, hN]; decide)
    refine step_skip (o := oRa4 p) (w' := W2.setCell ⟨g, 0, none⟩ (.slice A3 (xs.length + L5) c3)) rfl rfl (by intro c h; cases h) (by simp [Oper.about, oRa4]) (by
      have hst := run_stKq W2 g A3 (xs.length + L5) c3 v (by simpa using blk_cell hb52 0) (blk_frozen hb52 0)
      have h5x : (a'.put (oRa3 p).dst (.slice A3 (xs.length + L5) c3)).eval (.tmp 5) = .pointer (some ⟨g, 0, none⟩) := hx1
      have h23x : (a'.put (oRa3 p).dst (.slice A3 (xs.length + L5) c3)).eval (.tmp 19) = .slice A3 (xs.length + L5) c3 := hx6
      unfold execOp
      simp only [oRa4, h5x, h23x, Sem.run_bind, hst, Result.andThen_ok]
      rfl) ?_
    have hput : a'.put (some 19) (.slice A3 (xs.length + L5) c3) = puts [(16, v), (17, .string x), (18, .slice A5 L5 c5), (19, .slice A3 (xs.length + L5) c3)] a := by
      have h1 := hF.puts [(16, v), (17, .string x), (18, .slice A5 L5 c5)] (by
        intro x hx
        simp only [List.mem_cons, List.not_mem_nil, or_false] at hx
        rcases hx with rfl | rfl | rfl
        · exact e0
        · exact e1
        · exact e2) rfl (by rw [hN]; rfl)
      conv => lhs; rw [h1]
      rfl
    show Q .normal (a'.put (some 19) (.slice A3 (xs.length + L5) c3)) _
    rw [hput]
    subst hl5
    exact hQ _ _ w' W2 hgr hown2 hg2 hb52
def oRb0 (p : String) : Oper := { dst := some 20, op := Op.load 22 (Operand.tmp 5), type := 22, pos := p, after := #[], guard := none }
def oRb1 (p : String) : Oper := { dst := some 21, op := Op.move (Operand.tmp 7), type := 9, pos := p, after := #[], guard := none }
def oRb2 (p : String) : Oper := { dst := some 22, op := Op.call { callee := Callee.value (Operand.func 38), args := #[Operand.const (Value.slice none 0 0), Operand.tmp 21], argTypes := #[22, 9] }, type := 22, pos := p, after := #[{ on := 1, ground := Ground.data }], guard := none }
def oRb3 (p : String) : Oper := { dst := some 23, op := Op.call { callee := Callee.builtin Builtin.append, args := #[Operand.tmp 20, Operand.tmp 22], argTypes := #[22, 22] }, type := 22, pos := p, after := #[{ on := 0, ground := Ground.data }, { on := 2, ground := Ground.data }, { on := 2, ground := Ground.chain }], guard := none }
def oRb4 (p : String) : Oper := { dst := none, op := Op.store 22 (Operand.tmp 5) (Operand.tmp 23), type := 0, pos := p, after := #[{ on := 3, ground := Ground.data }, { on := 3, ground := Ground.chain }, { on := 0, ground := Ground.phase }, { on := 1, ground := Ground.phase }, { on := 2, ground := Ground.phase }, { on := 3, ground := Ground.phase }], guard := none }
def opsRb (p : String) : List Oper := [oRb0 p, oRb1 p, oRb2 p]
theorem opsRb_back (p : String) : backwards (opsRb p ++ [oRb3 p, oRb4 p]) = true := by kernel_rfl
theorem opsRb_slots (p : String) : slotsOk 28 (opsRb p) = true := by kernel_rfl
theorem opsRb_all (p : String) : ((List.range ((opsRb p).length + 1)).all (hasEdge (oRb4 p))) = true := by kernel_rfl
theorem opsRb_pen (p : String) (L : Nat → Bool) (hcl : ∀ j o' e, (opsRb p ++ [oRb3 p, oRb4 p]).toArray[j]? = some o' → L j = true → e ∈ o'.after → Region.binds .any e = true → L e.on = true) (hp : ∀ e ∈ (oRb3 p).after, Region.binds .any e = true → L e.on = true) : ∀ j, j < (opsRb p).length → L j = true := by
  have h0 : L 0 = true := hp { on := 0, ground := Ground.data } (by simp [oRb3]) rfl
  have h2 : L 2 = true := hp { on := 2, ground := Ground.data } (by simp [oRb3]) rfl
  have h1 : L 1 = true := hcl 2 (oRb2 p) { on := 1, ground := Ground.data } rfl h2 (by simp [oRb2]) rfl
  intro j hj
  have hj' : j < 3 := hj
  rcases j with _ | _ | _ | j
  · exact h0
  · exact h1
  · exact h2
  · omega
set_option maxRecDepth 100000 in
set_option maxHeartbeats 4000000 in
theorem put_regionRb {p : String} (l n : Nat) (hn : 1 ≤ n) (B g : Nat) (v : Value) (x : ByteArray) (xs : List UInt8) (hx : xs.length ≤ 100000000) (hy : x.size ≤ 1000000) (a : Act) (w : World) (Q : Exit → Act → World → Prop) (hN : a.tmps.size = 28)
    (h0 : a.tmps.getD 7 undef = .string x) (h1 : a.tmps.getD 5 undef = .pointer (some ⟨g, 0, none⟩)) (hg : w.heap[g]? = some (.cells #[v] 22 (0, 0))) (hown : w.ownsRow B 5 1 v xs.length (xs.map enc)) (hB : B ≤ w.heap.size)
    (hQ : ∀ (u v' : Value) (W1 W2 : World), Grew w W1 → W2.ownsRow B 5 1 v' (xs.length + (txt x).length) ((xs ++ txt x).map enc) → W1.grownBy W2 v.ownBlock → W2.heap[g]? = some (.cells #[v] 22 (0, 0)) → Q .normal (puts [(20, v), (21, .string x), (22, u), (23, v')] a) (W2.setCell ⟨g, 0, none⟩ v')) :
    (Code.region 6 (opsRb p ++ [oRb3 p, oRb4 p]).toArray true).wpIn (Fence.wide.inRound l) n Tryz.prog Q a w := by
  obtain ⟨i0, hi, hz0, hz1, hz2⟩ := info_parts info5
  have hyl : (txt x).length ≤ 2000000 := by have := txt_len hy; omega
  have hgw : g < w.heap.size := (Array.getElem?_eq_some_iff.1 hg).1
  have hc : w.cell? ⟨g, 0, none⟩ = some v := by simpa using blk_cell hg 0
  obtain ⟨ys, hys⟩ : ∃ ys, ys = txt x := ⟨_, rfl⟩
  rw [← hys] at hQ hyl
  refine wpIn_region_two 28 hN follows (opsRb_back p) (opsRb_slots p) (opsRb_all p) (opsRb_pen p) Grew Grew.refl Grew.trans (psiKq v (.string x) ys) (psiKq_grew v (.string x) ys) ?_ ?_
  · intro i o d ho hd a' w' hF hR hp
    rcases i with _ | _ | _ | i
    · obtain rfl : oRb0 p = o := Option.some.inj ho
      obtain rfl : 20 = d := Option.some.inj hd
      have hx : a'.eval (.tmp 5) = .pointer (some ⟨g, 0, none⟩) := hF.at 5 rfl h1
      exact step_run (o := oRb0 p) (v := v) (w' := w') rfl rfl (by intro c h; cases h) (by simp [Oper.about, oRb0]) (by simp [execOp, oRb0, hx, run_ldKq w' _ v ((Below.cell hR.undraw (p := ⟨g, 0, none⟩) hgw).trans hc)]) ⟨_, rfl, rfl, Grew.refl _⟩
    · obtain rfl : oRb1 p = o := Option.some.inj ho
      obtain rfl : 21 = d := Option.some.inj hd
      have hx : a'.eval (.tmp 7) = .string x := hF.at 7 rfl h0
      exact step_run (o := oRb1 p) (v := .string x) (w' := w') rfl rfl (by intro c h; cases h) (by simp [Oper.about, oRb1]) (by simp [execOp, oRb1, hx]) ⟨_, rfl, rfl, Grew.refl _⟩
    · obtain rfl : oRb2 p = o := Option.some.inj ho
      obtain rfl : 22 = d := Option.some.inj hd
      have hx : a'.tmps.getD 21 undef = .string x := hp 1 (oRb1 p) 21 rfl rfl rfl
      refine step_call (o := oRb2 p) rfl rfl (xs := #[.const (.slice none 0 0), .tmp 21]) (ts := #[22, 9]) rfl trivial (fun _ => by omega) (enters_of Tryz.func38 (by kernel_rfl) rfl) ?_
      rw [show Array.map a'.eval #[.const (.slice none 0 0), .tmp 21] = #[.slice none 0 0, .string x] from by simp only [List.map_toArray, List.map_cons, List.map_nil, Act.eval, hx]]
      refine (CallsIn.inRound l (callsIn_wide.2 (Text_any none [] 0 0 rfl x hy (by simp) w' (HasA.nil _ _ _)))).mono ?_
      rintro e w'' ⟨gg, L, c, rfl, ho, hb⟩
      rw [show ([] ++ vb x.size ++ x.data.toList) = ys by rw [hys]; rfl] at ho
      exact ⟨_, rfl, _, rfl, IsB.own ho, hb⟩
    · exact absurd ((Array.getElem?_eq_some_iff.1 ho).1) (by simp [opsRb])
  · intro a' w' hF hR hp
    have e0 : a'.tmps.getD 20 undef = v := hp 0 (oRb0 p) 20 rfl rfl
    have e1 : a'.tmps.getD 21 undef = .string x := hp 1 (oRb1 p) 21 rfl rfl
    obtain ⟨A5, L5, c5, e2, hl5, hA5⟩ : IsB w' (a'.tmps.getD 22 undef) ys := hp 2 (oRb2 p) 22 rfl rfl
    have hgr := hR.undraw
    have hown' := own_below hown hgr
    obtain ⟨v', W2, hrun, hown2, hg2⟩ := run_append_has (P := Tryz.prog) (w := w') B 22 22 5 i0 Tryz.underlying22 hi hz0 hz1 hz2 v xs.length xs hown' _ A5 L5 c5 ys hl5 hA5 (by omega) (Nat.le_trans hB (Below.size hgr))
    obtain ⟨A3, c3, rfl⟩ := own_form hown2
    have hx3 : a'.eval (.tmp 20) = v := e0
    have hx5 : a'.eval (.tmp 22) = .slice A5 L5 c5 := e2
    refine step_run (o := oRb3 p) (v := .slice A3 (xs.length + L5) c3) (w' := W2) rfl rfl (by intro c h; cases h) (by simp [Oper.about, oRb3, resolve, Target.leads, Sem.run_pure]) (by
      unfold execOp
      simp only [oRb3, resolve, invoke, builtin, Sem.run_bind, Sem.run_pure, Result.andThen_ok, List.map_toArray, List.map_cons, List.map_nil, hx3, hx5, hrun]) ?_
    have hty := own_typed hown'
    have hb5' : w'.heap[g]? = some (.cells #[v] 22 (0, 0)) := SameT.grew (T := []) hgr _ _ _ (by simp) hg
    have hb52 : W2.heap[g]? = some (.cells #[v] 22 (0, 0)) := SameT.grown hg2 hty _ _ _ (by decide) hb5'
    have hx1 : (a'.put (some 23) (.slice A3 (xs.length + L5) c3)).eval (.tmp 5) = .pointer (some ⟨g, 0, none⟩) := (getD_put_ne (by decide)).trans (hF.at 5 rfl h1)
    have hx6 : (a'.put (some 23) (.slice A3 (xs.length + L5) c3)).eval (.tmp 23) = .slice A3 (xs.length + L5) c3 := getD_put_same (by rw [hF.size, hN]; decide)
    refine step_skip (o := oRb4 p) (w' := W2.setCell ⟨g, 0, none⟩ (.slice A3 (xs.length + L5) c3)) rfl rfl (by intro c h; cases h) (by simp [Oper.about, oRb4]) (by
      have hst := run_stKq W2 g A3 (xs.length + L5) c3 v (by simpa using blk_cell hb52 0) (blk_frozen hb52 0)
      have h5x : (a'.put (oRb3 p).dst (.slice A3 (xs.length + L5) c3)).eval (.tmp 5) = .pointer (some ⟨g, 0, none⟩) := hx1
      have h23x : (a'.put (oRb3 p).dst (.slice A3 (xs.length + L5) c3)).eval (.tmp 23) = .slice A3 (xs.length + L5) c3 := hx6
      unfold execOp
      simp only [oRb4, h5x, h23x, Sem.run_bind, hst, Result.andThen_ok]
      rfl) ?_
    have hput : a'.put (some 23) (.slice A3 (xs.length + L5) c3) = puts [(20, v), (21, .string x), (22, .slice A5 L5 c5), (23, .slice A3 (xs.length + L5) c3)] a := by
      have h1 := hF.puts [(20, v), (21, .string x), (22, .slice A5 L5 c5)] (by
        intro x hx
        simp only [List.mem_cons, List.not_mem_nil, or_false] at hx
        rcases hx with rfl | rfl | rfl
        · exact e0
        · exact e1
        · exact e2) rfl (by rw [hN]; rfl)
      conv => lhs; rw [h1]
      rfl
    show Q .normal (a'.put (some 23) (.slice A3 (xs.length + L5) c3)) _
    rw [hput]
    subst hl5
    exact hQ _ _ w' W2 hgr hown2 hg2 hb52
end Go.Proofs.YthmmbopibpdpiaaGreatDoor

-- KqX
namespace Go.Proofs.YthmmbopibpdpiaaGreatDoor
open Go.RowKit Go.Maps Go.Shelf
attribute [local go_sem] Oper.semAt_some

/-- The bytes so far, behind i rounds. -/
def PutJ (w : World) (_B0 g : Nat) (l : List PV) (i : Nat) (W : World) : Prop := Below w.heap.size w W ∧ (w.heap.size ≤ g ∧ ∃ v, W.heap[g]? = some (.cells #[v] 22 (0, 0)) ∧ W.ownsRow w.heap.size 5 1 v (vb l.length ++ pairsTo l i).length ((vb l.length ++ pairsTo l i).map enc))
theorem PutJ.abides {w : World} {B B0 g : Nat} {l : List PV} {i : Nat} (hB : w.heap.size ≤ B) : Abides B (PutJ w B0 g l i) := (Abides.below (Nat.le_refl _) hB).and ((Abides.pure _).and (Abides.ex fun _ => Abides.block.and Abides.own))
theorem PutJ.below {w W W' : World} {B0 g : Nat} {l : List PV} {i : Nat} (h : PutJ w B0 g l i W) (hb : Below W.heap.size W W') : PutJ w B0 g l i W' := by
  obtain ⟨h1, hg, v, h2, h3⟩ := h
  exact ⟨h1.trans (Below.mono hb h1.size), hg, v, (hb.block g (Array.getElem?_eq_some_iff.1 h2).1).trans h2, own_below h3 hb⟩
theorem pairsTo_all (l : List PV) : vb l.length ++ pairsTo l l.length = bytesP l := by
  unfold pairsTo bytesP
  rw [List.take_length]
theorem pairsTo_le (l : List PV) (i : Nat) : (pairsTo l i).length ≤ (l.flatMap pairB).length := by
  unfold pairsTo
  conv => rhs; rw [← List.take_append_drop i l, List.flatMap_append, List.length_append]
  omega
/-- One append. -/
theorem put_step {w W W1 W2 : World} {g : Nat} {xs t : List UInt8} {v v1 : Value} (hb : Below w.heap.size w W) (hg : w.heap.size ≤ g)
    (ho : W.ownsRow w.heap.size 5 1 v xs.length (xs.map enc)) (g1 : Grew W W1) (o1 : W2.ownsRow w.heap.size 5 1 v1 (xs.length + t.length) ((xs ++ t).map enc)) (r1 : W1.grownBy W2 v.ownBlock) (c1 : W2.heap[g]? = some (.cells #[v] 22 (0, 0))) :
    Below w.heap.size w (W2.setCell ⟨g, 0, none⟩ v1) ∧ (W2.setCell ⟨g, 0, none⟩ v1).heap[g]? = some (.cells #[v1] 22 (0, 0)) ∧ (W2.setCell ⟨g, 0, none⟩ v1).ownsRow w.heap.size 5 1 v1 (xs ++ t).length ((xs ++ t).map enc) ∧
      KeepsOthers W (W2.setCell ⟨g, 0, none⟩ v1) ∧ ∀ {u : Value} {m : List PV}, KeysW m u W → KeysW m u (W2.setCell ⟨g, 0, none⟩ v1) := by
  have hty : ∀ r, v.ownBlock = some r → ∃ cs, W1.heap[r]? = some (.cells cs 5 (0, 0)) := own_typed (own_below ho g1)
  have hs := ((SameT.grew (T := []) g1).trans (SameT.grown r1 hty)).trans (SameT.set (i := 0) c1 v1)
  refine ⟨((hb.trans (Below.mono g1 hb.size)).grown r1 (Nat.le_trans hb.size (Below.size g1)) (fun k e => (ho.lt k e).1)).setCell (p := ⟨g, 0, none⟩) hg _, by simpa using blk_set c1 0 v1, ?_, ?_, fun {u m} hk => hs.own hk (by decide)⟩
  · have := (SameT.set (i := 0) c1 v1).own o1 (by decide)
    rwa [List.length_append]
  · exact ((KeepsOthers.of_grownBy (grownBy_of_below (r := none) g1) (fun j o e => by cases e)).trans (KeepsOthers.of_grownBy r1 (fun j o e ho' => by
      obtain ⟨cs, hc⟩ := hty j e
      rw [hc] at ho'
      cases ho'
      rfl))).trans (KeepsOthers.setCell _ _ _)
set_option maxRecDepth 100000 in
set_option maxHeartbeats 8000000 in
theorem put_in (a : Value) (p : Option Nat) (l : List PV) (hs : SortedP l) (hl : LimP l) (hbl : (bytesP l).length ≤ 900000) (w : World) (hm : MapO w p l) (hall : ∀ W, Below w.heap.size w W → Calls Tryz.prog 52 #[a] W fun e W' => e = .returned (.map p) ∧ W' = W)
    (hlen : Calls Tryz.prog 40 #[a] w fun e W' => e = .returned (.int .i64 (l.length : Int)) ∧ W' = w) (A : Option Addr) (L c : Nat) (bs : List UInt8) (hL : L = bs.length) (hL1 : L ≤ 100000) (hA : HasA w w.heap.size A bs) :
    CallsIn Fence.wide 5 Tryz.prog 18 #[a, .slice A L c] w fun e W' => ∃ v n, e = .returned v ∧ W'.ownsRow w.heap.size 5 1 v n ((bs ++ bytesP l).map enc) ∧ Below w.heap.size w W' := by
  have HSL := Lib.hid (And.intro hs (And.intro hl hbl))
  have HM := Lib.hid hm
  have HALL := Lib.hid hall
  have HLEN := Lib.hid hlen
  have HA := Lib.hid (And.intro hL (And.intro hL1 hA))
  obtain ⟨N, hN⟩ : ∃ N, N = l.length := ⟨_, rfl⟩
  rw [← hN] at HLEN
  have hN5 : N ≤ 5000 := by rw [hN]; exact hl.len
  have hNi : (N : Int) < 18446744073709551616 := by omega
  have HN := Lib.hid (And.intro hN hN5)
  clear hs hl hbl hm hall hlen hL hL1 hA hN hN5
  refine callsIn_of_wp_marks Tryz.func18 rfl trivial ?_ rfl
  simp only [Tryz.ntmps18, List.size_toArray, List.length_cons, List.length_nil, Nat.reduceAdd, Nat.reduceSub, Array.replicate_succ, Array.replicate_zero, List.push_toArray, List.append_toArray, List.nil_append, List.cons_append]
  gi_wp2_with fail
  refine ⟨trivial, ?_⟩
  refine (callsIn_wide.2 HLEN.out).mono ?_
  rintro e W1 ⟨rfl, rfl⟩
  gi_wp2_with fail
  refine ⟨trivial, ?_⟩
  refine (callsIn_wide.2 (Uint_any none [] 0 0 N rfl (by have := HN.out.2; omega) (by simp) W1 (HasA.nil _ _ _))).mono ?_
  rintro e W2 ⟨g2, L2, c2, rfl, hown, hb⟩
  have H2 := Lib.hid (And.intro hown hb)
  clear hown hb
  gi_wp2
  obtain ⟨W3, hW3⟩ : ∃ W3, W3 = W2.alloc (Obj.cells #[.slice (some ⟨g2, 0, none⟩) L2 c2] 22) := ⟨_, rfl⟩
  rw [← hW3]
  have hB3 : Below W2.heap.size W2 W3 := by rw [hW3]; exact (Below.refl _ W2).alloc (Nat.le_refl _) _
  have k3 : W3.heap[W2.heap.size]? = some (.cells #[.slice (some ⟨g2, 0, none⟩) L2 c2] 22 (0, 0)) := by rw [hW3]; exact World.alloc_heap_new W2 _
  have hG2 := H2.out.2.size
  obtain ⟨G, hG⟩ : ∃ G, G = W2.heap.size := ⟨_, rfl⟩
  rw [← hG] at k3 hG2 ⊢
  have o3 := own_below H2.out.1 hB3
  rw [List.nil_append, HN.out.1] at o3
  have hL2 := own_len o3
  have hJ0 : PutJ W1 0 G l 0 W3 := ⟨H2.out.2.trans (Below.mono hB3 H2.out.2.size), hG2, _, k3, by
    have e : vb l.length ++ pairsTo l 0 = vb l.length := by unfold pairsTo; simp
    rw [e, ← hL2]
    exact o3⟩
  have HJ0 := Lib.hid hJ0
  have hW13 : W1.heap.size ≤ W3.heap.size := hJ0.1.size
  have hkz : ∀ q ∈ l, q.1.size ≤ 1000000 := fun q hq => by have := (HSL.out.2.1.each q hq).1; omega
  have hll : l.length ≤ 1000000 := by have := HSL.out.2.1.len; omega
  clear hW3 hB3 k3 hG o3 hL2 hJ0
  refine wpIn_rangeFunc_tied rfl (by omega) (gf := 41) (fb := #[a]) (lb := #[]) rfl trivial (enters_of Tryz.func41 (by kernel_rfl) rfl) (encs := pairV l) (fun _ => rfl)
    (PutJ.abides hW13) (PutJ.abides hW13) (fun x => (PutJ.abides hW13).and (Abides.own.and (Abides.pure _))) (fun x => (PutJ.abides hW13).and Abides.own) (fun _ => Abides.pure _) (fun _ => Abides.pure _)
    (order_seq 4 (by omega) W1 a p l HM.out HALL.out HSL.out.1 hll hkz W3.heap.size (PutJ W1 0 G l) (fun i W h => h.1) (fun W W' h hb => h.below hb)) HJ0.out
    (fun x => { tmps := #[a, .slice A L c, undef, undef, .slice none 0 0, .pointer (some ⟨G, 0, none⟩), .string (pk l x.1), .string (pv l x.1), a, .int .i64 (N : Int), .int .u64 (N : Int), .slice (some ⟨g2, 0, none⟩) L2 c2, a, .func (.func 41) #[a] #[], .string (pk l x.1), .string (pv l x.1), undef, undef, undef, undef, undef, undef, undef, undef, undef, undef, undef, undef], defers := [] }) ?assign ?body ?done ?stop
  case assign =>
    intro y x W K hK
    simp only [pairV]
    gi_wp2
    exact hK
  case body =>
    rintro y ⟨i, u⟩ W ⟨hJ, hK, hi⟩ hlt
    dsimp only at hJ hK hi ⊢
    rw [pk_at hi, pv_at hi]
    obtain ⟨hb, hg, v, hv, ho⟩ := hJ
    have hsz : ∀ q ∈ l, q.1.size ≤ 1000 ∧ q.2.size ≤ 1000 := HSL.out.2.1.each
    have hz := hsz l[i] (List.getElem_mem hi)
    have hpl : (vb l.length ++ pairsTo l i).length ≤ 900000 := by
      have h1 := pairsTo_le l i
      have h2 := HSL.out.2.2
      unfold bytesP at h2
      rw [List.length_append] at h2 ⊢
      omega
    have hps := pairsTo_succ hi
    obtain ⟨k, hk⟩ : ∃ k, k = l[i].1 := ⟨_, rfl⟩
    obtain ⟨z, hz'⟩ : ∃ z, z = l[i].2 := ⟨_, rfl⟩
    rw [← hk, ← hz'] at hz hps
    obtain ⟨xs, hxs⟩ : ∃ xs, xs = vb l.length ++ pairsTo l i := ⟨_, rfl⟩
    rw [← hxs] at ho hpl
    have HPS := Lib.hid (show vb l.length ++ pairsTo l (i + 1) = xs ++ txt k ++ txt z by rw [hps, hxs]; simp only [List.append_assoc])
    rw [← hk, ← hz']
    clear hsz hps hk hz' hxs
    gi_wp2
    have hWb := hb.size
    refine put_regionRa y (5 - 1 - 1) (by decide) W1.heap.size G v k xs (by omega) (by omega) _ W _ rfl rfl rfl hv ho hWb ?_
    intro u1 v1 V1 V2 g1 o1 r1 c1
    obtain ⟨s1, s2, s3, s4, s5⟩ := put_step hb hg ho g1 o1 r1 c1
    obtain ⟨W4, hW4⟩ : ∃ W4, W4 = V2.setCell ⟨G, 0, none⟩ v1 := ⟨_, rfl⟩
    rw [← hW4] at s1 s2 s3 s4 s5 ⊢
    have K4 := Lib.hid (And.intro s4 (s5 hK))
    clear g1 o1 r1 c1 s4 s5 hW4 hv ho hK
    simp only [puts, List.foldl_cons, List.foldl_nil, Act.put, List.setIfInBounds_toArray, List.set_cons_succ, List.set_cons_zero]
    gi_wp2
    have hxl : (xs ++ txt k).length ≤ 1000000 + 1000000 := by have := txt_len (s := k) (by omega); rw [List.length_append]; omega
    refine put_regionRb y (5 - 1 - 1) (by decide) W1.heap.size G v1 z (xs ++ txt k) (by omega) (by omega) _ W4 _ rfl rfl rfl s2 s3 s1.size ?_
    intro u2 v2 V3 V4 g3 o3 r3 c3
    obtain ⟨t1, t2, t3, t4, t5⟩ := put_step s1 hg s3 g3 o3 r3 c3
    simp only [puts, List.foldl_cons, List.foldl_nil, Act.put, List.setIfInBounds_toArray, List.set_cons_succ, List.set_cons_zero]
    refine ⟨(K4.out.1.trans t4).from _, ⟨t1, hg, v2, t2, ?_⟩, t5 K4.out.2⟩
    rw [HPS.out]
    exact t3
  case done =>
    intro D W hD hId hK
    obtain ⟨hb, hg, v, hv, ho⟩ := hId
    rw [pairsTo_all] at ho
    obtain ⟨A9, c9, rfl⟩ := own_form ho
    have hc := blk_cell hv 0
    simp at hc
    obtain ⟨M, hM⟩ : ∃ M, M = (bytesP l).length := ⟨_, rfl⟩
    rw [← hM] at ho hc
    have hd : W.heap[D]? = some (.deferred (some [])) := hK
    have HD := Lib.hid (And.intro hb (And.intro ho (And.intro hM hK)))
    clear hb hg hv ho hM hK hd
    gi_wp2_with fail
    refine ⟨trivial, ?_⟩
    obtain ⟨W5, hW5⟩ : ∃ W5, W5 = W.alloc (Obj.cells #[.slice A L c, .slice A9 M c9] 22) := ⟨_, rfl⟩
    rw [← hW5]
    have hB5 : Below W.heap.size W W5 := by rw [hW5]; exact (Below.refl _ W).alloc (Nat.le_refl _) _
    have k5 : W5.heap[W.heap.size]? = some (.cells #[.slice A L c, .slice A9 M c9] 22 (0, 0)) := by rw [hW5]; exact World.alloc_heap_new W _
    have hw5 : Below W1.heap.size W1 W5 := HD.out.1.trans (Below.mono hB5 HD.out.1.size)
    have d5 : W5.heap[D]? = some (.deferred (some [])) := (hB5.block D (Array.getElem?_eq_some_iff.1 HD.out.2.2.2).1).trans HD.out.2.2.2
    have hfl : (List.flatten [bs, bytesP l]).length ≤ 1000000 ∧ 1 ≤ (List.flatten [bs, bytesP l]).length := by
      have h1 := HSL.out.2.2
      have h2 := HA.out.1
      have h3 := HA.out.2.1
      have h4 : 0 < (vb l.length).length := List.length_pos_iff.2 (vb_ne _)
      have h5 : 0 < (bytesP l).length := by unfold bytesP; rw [List.length_append]; omega
      simp only [List.flatten_cons, List.flatten_nil, List.length_append, List.length_nil]
      omega
    refine (callsIn_wide.2 (Concat_any W.heap.size 2 2 [bs, bytesP l] rfl (by omega) (by omega) hfl.2 hfl.1 W5 (Array.getElem?_eq_some_iff.1 k5).1 ?_)).mono ?_
    · intro i hi
      have hi2 : i = 0 ∨ i = 1 := by simp at hi; omega
      rcases hi2 with rfl | rfl
      · exact ⟨A, L, c, by rw [blk_cell k5]; rfl, HA.out.1, HA.out.2.2.below' hw5⟩
      · exact ⟨A9, M, c9, by rw [blk_cell k5]; rfl, HD.out.2.2.1, HasA.of_own (own_below HD.out.2.1 hB5)⟩
    rintro e W6 ⟨g6, L6, c6, rfl, hown, hb6⟩
    have h6 : Below W1.heap.size W1 W6 := hw5.trans (Below.mono hb6 hw5.size)
    have d6 : W6.heap[D]? = some (.deferred (some [])) := (hb6.block D (Array.getElem?_eq_some_iff.1 d5).1).trans d5
    have HF := Lib.hid (And.intro (own_base hown (base' := W1.heap.size) hw5.size) (And.intro h6 d6))
    have hDw : W1.heap.size ≤ D := Nat.le_trans hW13 hD
    clear hown hb6 h6 d6 hW5 hB5 k5 hw5 d5 hfl
    gi_wp2
    have hr : ∀ r, some D = some r → W1.heap.size ≤ r ∧ ∃ o, W6.heap[r]? = some o ∧ o.isCells = false := fun r e => by
      cases e
      exact ⟨hDw, _, HF.out.2.2, rfl⟩
    have hown6 : W6.ownsRow W1.heap.size 5 1 (.slice (some ⟨g6, 0, none⟩) L6 c6) L6 ((bs ++ bytesP l).map enc) := by
      have h := HF.out.1
      simpa using h
    have e1 := Abides.own (B := W1.heap.size) W6 _ (some D) hown6 (grownBy_putObj' W6 D (.deferred none)) hr
    have e2 := Abides.below (Nat.le_refl W1.heap.size) (Nat.le_refl W1.heap.size) W6 _ (some D) HF.out.2.1 (grownBy_putObj' W6 D (.deferred none)) hr
    refine ⟨by simp, .inl ⟨_, _, rfl, run_takeDeferred HF.out.2.2, ?_⟩⟩
    refine ⟨.slice (some ⟨g6, 0, none⟩) L6 c6, (results_tmp (fn := Tryz.f18) (t := 4) rfl _ _ _).trans rfl, .slice (some ⟨g6, 0, none⟩) L6 c6, L6, rfl, e1, e2⟩
  case stop =>
    intro D cc W hD hf
    exact hf.elim
theorem put_any {w : World} {R : Nat} {p : Option Nat} {l : List PV} (A : Option Addr) (L c : Nat) (bs : List UInt8) (h : StQ w R p l) (hs : SortedP l) (hl : LimP l) (hbl : (bytesP l).length ≤ 900000) (hL : L = bs.length) (hL1 : L ≤ 100000) (hA : HasA w w.heap.size A bs) :
    Calls Tryz.prog 18 #[.pointer (some ⟨R, 0, none⟩), .slice A L c] w fun e W' => ∃ v n, e = .returned v ∧ W'.ownsRow w.heap.size 5 1 v n ((bs ++ bytesP l).map enc) ∧ Below w.heap.size w W' :=
  callsIn_wide.1 (put_in _ p l hs hl hbl w h.map (fun _W hb => all_any (h.below hb)) (len_any h) A L c bs hL hL1 hA)
theorem bytes_nil : (bytesP []).length ≤ 900000 := by
  have h : (bytesP []).length = (vb 0).length := by unfold bytesP; simp
  rw [h, vb_lt (by decide)]
  decide
theorem put_nil (w : World) (A : Option Addr) (L c : Nat) (bs : List UInt8) (hL : L = bs.length) (hL1 : L ≤ 100000) (hA : HasA w w.heap.size A bs) :
    Calls Tryz.prog 18 #[.pointer none, .slice A L c] w fun e W' => ∃ v n, e = .returned v ∧ W'.ownsRow w.heap.size 5 1 v n ((bs ++ bytesP []).map enc) ∧ Below w.heap.size w W' :=
  callsIn_wide.1 (put_in (.pointer none) none [] SortedP.nil ⟨by decide, fun p hp => by cases hp⟩ bytes_nil w rfl (fun W _ => all_nil W) (len_nil w) A L c bs hL hL1 hA)
end Go.Proofs.YthmmbopibpdpiaaGreatDoor
