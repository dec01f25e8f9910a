/- Maps of last waves, by texts and by clients: what a look and a store come to; the program's behind. -/
import Derived.Test.YtooaobadnainkaaLitB
import Derived.Deep.QuietTactic
import Derived.BigQuiet
import Derived.Handy
namespace Go.Proofs.Ytooaobadnainkaa
open Go.RowKit Go.Maps Go.WideMaps

/-- Block b is a map of last waves: T tells of each key one more than its wave, and 0 if it has none. -/
structure TwK {K : Type} (kt : TypeId) (kl : K → Lit) (ok : K → Prop) (w : World) (b n : Nat) (T : K → Nat) : Prop where
  ex : ∃ D : DataW Nat, w.ownsMap Try.prog kt (plainElem (H := Nat) Try.prog 3) b n D ∧ ∀ k, ok k → Maps.has D (kl k) = decide (T k ≠ 0) ∧ (T k ≠ 0 → D.atKey (kl k) (.lit (.int .i64 0)) = .lit (.int .i64 ((T k : Int) - 1)))
theorem zeroIw (w : World) : (zeroValue 3).run Try.prog w = .ok (.int .i64 0) w := by kernel_rfl
section
variable {K : Type} {kt : TypeId} {kl : K → Lit} {ok : K → Prop} {w w' : World} {b n : Nat} {T : K → Nat}
theorem TwK.lt (h : TwK kt kl ok w b n T) : b < w.heap.size := by obtain ⟨D, h, _⟩ := h.ex; exact h.lt
theorem TwK.keep (h : TwK kt kl ok w b n T) (hb : w'.heap[b]? = w.heap[b]?) : TwK kt kl ok w' b n T := by
  obtain ⟨D, ⟨es, ck, h1, h2⟩, h3⟩ := h.ex
  exact ⟨D, ⟨es, ck, hb.trans h1, h2⟩, h3⟩
theorem TwK.new (w : World) : TwK kt kl ok (w.alloc (.map #[] 0)) w.heap.size 0 (fun _ => 0) :=
  ⟨.map [], World.ownsMap_made _ _ _ _, fun k _ => ⟨by simp [Maps.has], fun h => absurd rfl h⟩⟩
theorem TwK.congr (h : TwK kt kl ok w b n T) {S : K → Nat} (he : ∀ k, ok k → T k = S k) : TwK kt kl ok w b n S := by
  obtain ⟨D, h1, h2⟩ := h.ex
  exact ⟨D, h1, fun k hk => by rw [← he k hk]; exact h2 k hk⟩
theorem TwK.look (h : TwK kt kl ok w b n T) (hK : Keyed Try.prog kt) {mt : TypeId} (hm : Try.prog.underlying mt = some (.map kt 3)) {k : K} (hk : ok k) {kv : Value} (hkey : keyOf Try.prog kt kv = some (kl k)) :
    ∃ z : Int, (Instr.lookup mt (.map (some b)) kv true).run Try.prog w = .ok (.tuple #[.int .i64 z, .bool (decide (T k ≠ 0))]) w ∧ (T k ≠ 0 → z = (T k : Int) - 1) := by
  obtain ⟨D, hown, hD⟩ := h.ex
  obtain ⟨v, ps, hrun, hv⟩ := World.ownsMap.look_ok hown hK hm (zeroIw w) (plainElem_int (H := Nat) Try.underlying3 (a := 0) (by decide)) hkey
  obtain ⟨a, rfl, he, _⟩ := plainElem_int_inv Try.underlying3 hv
  rw [(hD k hk).1] at hrun
  refine ⟨a, hrun, fun h0 => ?_⟩
  have h1 := (hD k hk).2 h0
  have h2 := congrArg Prod.fst he
  simp only [h1, DataW.lit.injEq, Lit.int.injEq, true_and] at h2
  exact h2.symm
theorem TwK.put [DecidableEq K] (h : TwK kt kl ok w b n T) (hK : Keyed Try.prog kt) {mt : TypeId} (hm : Try.prog.underlying mt = some (.map kt 3)) (hn : n < maxLen) {k : K} (hkk : ok k) (hi : ∀ j, j ≠ k → kl j ≠ kl k) {kv : Value} (hkey : ∀ j, ok j → ∃ v, keyOf Try.prog kt v = some (kl j)) (hkv : keyOf Try.prog kt kv = some (kl k)) {x : Nat} (hx : x < 1000000) :
    ∃ w', (Instr.mapUpdate mt (.map (some b)) kv (.int .i64 (x : Int))).run Try.prog w = .ok () w' ∧ TwK kt kl ok w' b (n + 1) (fun j => if j = k then x + 1 else T j) ∧ w.grownBy w' (some b) := by
  obtain ⟨D, hown, hD⟩ := h.ex
  obtain ⟨w', hrun, h1, h2⟩ := hown.store hK hm hn hkv (plainElem_int (H := Nat) Try.underlying3 (a := (x : Int)) (by simp [Lit.wf, IntKind.min, IntKind.max, IntKind.signed, IntKind.bits]; omega))
  refine ⟨w', hrun, ⟨_, h1, fun j hj => ?_⟩, h2.grown⟩
  obtain ⟨vj, hvj⟩ := hkey j hj
  by_cases hjk : j = k
  · subst hjk
    rw [Maps.has_put_same hown.isMap (hK.key hvj), Maps.atKey_put_same hown.isMap (hK.key hvj)]
    simp
  · rw [Maps.has_put_other (hi j hjk), Maps.atKey_put_other (hi j hjk)]
    simpa [hjk] using hD j hj
end
def kyW (c : Nat) : Lit := .int .u32 (c : Int)
theorem kyW_ne {k j : Nat} (h : j ≠ k) : kyW j ≠ kyW k := by
  intro e
  injection e with _ e
  omega
theorem keyedUW : Maps.Keyed Try.prog 28 := Maps.int_keyed Try.underlying28
theorem keyUW {c : Nat} (h : c < 4294967296) : keyOf Try.prog 28 (.int .u32 (c : Int)) = some (kyW c) := keyOf_int_mk Try.underlying28 (by
  simp [Lit.wf, IntKind.min, IntKind.max, IntKind.signed, IntKind.bits]
  omega)
/-- A map of last waves by texts. -/
abbrev TwS (w : World) (b n : Nat) (T : ByteArray → Nat) : Prop := TwK 9 litB (fun k => k.size ≤ maxLen) w b n T
/-- A map of last waves by clients. -/
abbrev TwU (w : World) (b n : Nat) (T : Nat → Nat) : Prop := TwK 28 kyW (fun c => c < 4294967296) w b n T
section
variable {w : World} {b n : Nat}
theorem lookTS {T : ByteArray → Nat} (h : TwS w b n T) {k : ByteArray} (hk : k.size ≤ maxLen) : ∃ z : Int, (Instr.lookup 44 (.map (some b)) (.string k) true).run Try.prog w = .ok (.tuple #[.int .i64 z, .bool (decide (T k ≠ 0))]) w ∧ (T k ≠ 0 → z = (T k : Int) - 1) :=
  TwK.look h keyedS Try.underlying44 hk (keyL hk)
theorem lookTU {T : Nat → Nat} (h : TwU w b n T) {c : Nat} (hc : c < 4294967296) : ∃ z : Int, (Instr.lookup 45 (.map (some b)) (.int .u32 (c : Int)) true).run Try.prog w = .ok (.tuple #[.int .i64 z, .bool (decide (T c ≠ 0))]) w ∧ (T c ≠ 0 → z = (T c : Int) - 1) :=
  TwK.look h keyedUW Try.underlying45 hc (keyUW hc)
theorem putTS {T : ByteArray → Nat} (h : TwS w b n T) (hn : n < maxLen) {k : ByteArray} (hk : k.size ≤ maxLen) {x : Nat} (hx : x < 1000000) : ∃ w', (Instr.mapUpdate 44 (.map (some b)) (.string k) (.int .i64 (x : Int))).run Try.prog w = .ok () w' ∧ TwS w' b (n + 1) (fun j => if j = k then x + 1 else T j) ∧ w.grownBy w' (some b) :=
  TwK.put h keyedS Try.underlying44 hn hk (fun _ hj e => hj (litB_inj.1 e)) (fun _ hj => ⟨_, keyL hj⟩) (keyL hk) hx
theorem putTU {T : Nat → Nat} (h : TwU w b n T) (hn : n < maxLen) {c : Nat} (hc : c < 4294967296) {x : Nat} (hx : x < 1000000) : ∃ w', (Instr.mapUpdate 45 (.map (some b)) (.int .u32 (c : Int)) (.int .i64 (x : Int))).run Try.prog w = .ok () w' ∧ TwU w' b (n + 1) (fun j => if j = c then x + 1 else T j) ∧ w.grownBy w' (some b) :=
  TwK.put h keyedUW Try.underlying45 hn hc (fun _ hj => kyW_ne hj) (fun _ hj => ⟨_, keyUW hj⟩) (keyUW hc) hx
end
set_option maxRecDepth 100000 in
set_option maxHeartbeats 2000000 in
theorem behindS_any {w : World} {b n : Nat} {T : ByteArray → Nat} (h : TwS w b n T) (k : ByteArray) (hk : k.size ≤ maxLen) (hT : T k ≤ 1000000) :
    Calls Try.prog 24 #[.map (some b), .string k] w fun e W' => e = .returned (.int .i64 (T k : Int)) ∧ W' = w := by
  obtain ⟨z, hrun, hz⟩ := lookTS h hk
  obtain ⟨t, ht⟩ : ∃ t, t = T k := ⟨_, rfl⟩
  rw [← ht] at hT hrun hz ⊢
  clear h ht
  by_cases h0 : t = 0
  · subst h0
    rw [show decide ((0 : Nat) ≠ 0) = false from rfl] at hrun
    clear hz
    go_enter Try.func24, Try.ntmps24
    go_wp2
    go_ret
    exact ⟨rfl, rfl⟩
  · obtain rfl := hz h0
    rw [show decide (t ≠ 0) = true from decide_eq_true h0] at hrun
    have hti : (t : Int) ≤ 1000000 := by omega
    clear hz
    go_enter Try.func24, Try.ntmps24
    go_wp2
    go_ret
    exact ⟨by congr 2, rfl⟩
set_option maxRecDepth 100000 in
set_option maxHeartbeats 2000000 in
theorem behindU_any {w : World} {b n : Nat} {T : Nat → Nat} (h : TwU w b n T) (k : Nat) (hk : k < 4294967296) (hT : T k ≤ 1000000) :
    Calls Try.prog 23 #[.map (some b), .int .u32 (k : Int)] w fun e W' => e = .returned (.int .i64 (T k : Int)) ∧ W' = w := by
  obtain ⟨z, hrun, hz⟩ := lookTU h hk
  obtain ⟨t, ht⟩ : ∃ t, t = T k := ⟨_, rfl⟩
  rw [← ht] at hT hrun hz ⊢
  clear h ht
  by_cases h0 : t = 0
  · subst h0
    rw [show decide ((0 : Nat) ≠ 0) = false from rfl] at hrun
    clear hz
    go_enter Try.func23, Try.ntmps23
    go_wp2
    go_ret
    exact ⟨rfl, rfl⟩
  · obtain rfl := hz h0
    rw [show decide (t ≠ 0) = true from decide_eq_true h0] at hrun
    have hti : (t : Int) ≤ 1000000 := by omega
    clear hz
    go_enter Try.func23, Try.ntmps23
    go_wp2
    go_ret
    exact ⟨by congr 2, rfl⟩
end Go.Proofs.Ytooaobadnainkaa
