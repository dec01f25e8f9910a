/- KvPlays: the statement that does a command and compares, whatever its order of evaluation. -/
import Derived.Test.YtfkdlmokigeemaaGreatDoorKvMk
import Derived.Test.YtfkdlmokigeemaaGreatDoorMKvZ
import Derived.Test.YtfkdlmokigeemaaGreatDoorKvDoZ
namespace Go.Proofs.YtfkdlmokigeemaaGreatDoor
open Go.RowKit

def oPl0 (p : String) : Oper := { dst := some 39, op := Op.move (Operand.tmp 3), type := 25, pos := p, after := #[], guard := none }
def oPl1 (p : String) : Oper := { dst := some 40, op := Op.move (Operand.tmp 0), type := 22, pos := p, after := #[], guard := none }
def oPl2 (p : String) : Oper := { dst := some 41, op := Op.move (Operand.tmp 5), type := 3, pos := p, after := #[], guard := none }
def oPl3 (p : String) : Oper := { dst := some 42, op := Op.indexAddr 22 (Operand.tmp 40) (Operand.tmp 41), type := 0, pos := p, after := #[{ on := 1, ground := Ground.data }, { on := 2, ground := Ground.data }], guard := none }
def oPl4 (p : String) : Oper := { dst := some 43, op := Op.load 35 (Operand.tmp 42), type := 35, pos := p, after := #[{ on := 3, ground := Ground.data }], guard := none }
def oPl5 (p : String) : Oper := { dst := some 44, op := Op.call { callee := Callee.value (Operand.func 10), args := #[Operand.tmp 39, Operand.tmp 43], argTypes := #[25, 35] }, type := 29, pos := p, after := #[{ on := 0, ground := Ground.data }, { on := 4, ground := Ground.data }], guard := none }
def oPl6 (p : String) : Oper := { dst := some 45, op := Op.load 29 (Operand.tmp 8), type := 29, pos := p, after := #[], guard := none }
def oPl7 (p : String) : Oper := { dst := some 46, op := Op.binOp BinOp.neq 29 (Operand.tmp 44) (Operand.tmp 45) 29, type := 4, pos := p, after := #[{ on := 5, ground := Ground.data }, { on := 6, ground := Ground.data }], guard := none }
def oPl8 (p : String) : Oper := { dst := some 47, op := Op.move (Operand.tmp 46), type := 4, pos := p, after := #[{ on := 7, ground := Ground.data }, { on := 5, ground := Ground.chain }], guard := none }
def oPl9 (p : String) : Oper := { dst := some 48, op := Op.move (Operand.tmp 3), type := 25, pos := p, after := #[{ on := 8, ground := Ground.guard }], guard := some (8, false) }
def oPl10 (p : String) : Oper := { dst := some 49, op := Op.call { callee := Callee.value (Operand.func 11), args := #[Operand.tmp 48], argTypes := #[25] }, type := 3, pos := p, after := #[{ on := 9, ground := Ground.data }, { on := 8, ground := Ground.chain }, { on := 8, ground := Ground.guard }], guard := some (8, false) }
def oPl11 (p : String) : Oper := { dst := some 50, op := Op.move (Operand.tmp 7), type := 27, pos := p, after := #[{ on := 8, ground := Ground.guard }], guard := some (8, false) }
def oPl12 (p : String) : Oper := { dst := some 51, op := Op.call { callee := Callee.builtin Builtin.len, args := #[Operand.tmp 50], argTypes := #[27] }, type := 3, pos := p, after := #[{ on := 11, ground := Ground.data }, { on := 8, ground := Ground.guard }], guard := some (8, false) }
def oPl13 (p : String) : Oper := { dst := some 52, op := Op.binOp BinOp.neq 3 (Operand.tmp 49) (Operand.tmp 51) 3, type := 4, pos := p, after := #[{ on := 10, ground := Ground.data }, { on := 12, ground := Ground.data }, { on := 8, ground := Ground.guard }], guard := some (8, false) }
def oPl14 (p : String) : Oper := { dst := some 53, op := Op.pick (Operand.tmp 47) (Operand.const (Value.bool true)) (Operand.tmp 52), type := 4, pos := p, after := #[{ on := 8, ground := Ground.data }, { on := 13, ground := Ground.data }], guard := none }
def oPl15 (p : String) : Oper := { dst := some 54, op := Op.move (Operand.tmp 53), type := 4, pos := p, after := #[{ on := 14, ground := Ground.data }, { on := 10, ground := Ground.chain }], guard := none }
def oPl16 (p : String) : Oper := { dst := some 55, op := Op.move (Operand.tmp 6), type := 25, pos := p, after := #[{ on := 15, ground := Ground.guard }], guard := some (15, false) }
def oPl17 (p : String) : Oper := { dst := some 56, op := Op.call { callee := Callee.value (Operand.func 12), args := #[Operand.tmp 55, Operand.const (Value.slice none 0 0)], argTypes := #[25, 38] }, type := 38, pos := p, after := #[{ on := 16, ground := Ground.data }, { on := 15, ground := Ground.chain }, { on := 15, ground := Ground.guard }], guard := some (15, false) }
def oPl18 (p : String) : Oper := { dst := some 57, op := Op.convert 38 9 (Operand.tmp 56), type := 9, pos := p, after := #[{ on := 17, ground := Ground.data }, { on := 15, ground := Ground.guard }], guard := some (15, false) }
def oPl19 (p : String) : Oper := { dst := some 58, op := Op.move (Operand.tmp 4), type := 27, pos := p, after := #[{ on := 15, ground := Ground.guard }], guard := some (15, false) }
def oPl20 (p : String) : Oper := { dst := some 59, op := Op.call { callee := Callee.value (Operand.func 13), args := #[Operand.tmp 58], argTypes := #[27] }, type := 38, pos := p, after := #[{ on := 19, ground := Ground.data }, { on := 17, ground := Ground.chain }, { on := 15, ground := Ground.guard }], guard := some (15, false) }
def oPl21 (p : String) : Oper := { dst := some 60, op := Op.convert 38 9 (Operand.tmp 59), type := 9, pos := p, after := #[{ on := 20, ground := Ground.data }, { on := 15, ground := Ground.guard }], guard := some (15, false) }
def oPl22 (p : String) : Oper := { dst := some 61, op := Op.binOp BinOp.neq 9 (Operand.tmp 57) (Operand.tmp 60) 9, type := 4, pos := p, after := #[{ on := 18, ground := Ground.data }, { on := 21, ground := Ground.data }, { on := 15, ground := Ground.guard }], guard := some (15, false) }
def oPl23 (p : String) : Oper := { dst := some 62, op := Op.pick (Operand.tmp 54) (Operand.const (Value.bool true)) (Operand.tmp 61), type := 4, pos := p, after := #[{ on := 15, ground := Ground.data }, { on := 22, ground := Ground.data }], guard := none }
def oPl24 (p : String) : Oper := { dst := some 63, op := Op.move (Operand.tmp 62), type := 4, pos := p, after := #[{ on := 23, ground := Ground.data }, { on := 20, ground := Ground.chain }], guard := none }
def oPl25 (p : String) : Oper := { dst := some 64, op := Op.move (Operand.tmp 3), type := 25, pos := p, after := #[{ on := 24, ground := Ground.guard }], guard := some (24, false) }
def oPl26 (p : String) : Oper := { dst := some 65, op := Op.buildSlice 38 1 #[(0, Operand.const (Value.int IntKind.u8 120))], type := 38, pos := p, after := #[{ on := 24, ground := Ground.guard }], guard := some (24, false) }
def oPl27 (p : String) : Oper := { dst := some 66, op := Op.convert 38 38 (Operand.tmp 65), type := 38, pos := p, after := #[{ on := 26, ground := Ground.data }, { on := 24, ground := Ground.guard }], guard := some (24, false) }
def oPl28 (p : String) : Oper := { dst := some 67, op := Op.call { callee := Callee.value (Operand.func 12), args := #[Operand.tmp 64, Operand.tmp 66], argTypes := #[25, 38] }, type := 38, pos := p, after := #[{ on := 25, ground := Ground.data }, { on := 27, ground := Ground.data }, { on := 24, ground := Ground.chain }, { on := 24, ground := Ground.guard }], guard := some (24, false) }
def oPl29 (p : String) : Oper := { dst := some 68, op := Op.convert 38 9 (Operand.tmp 67), type := 9, pos := p, after := #[{ on := 28, ground := Ground.data }, { on := 24, ground := Ground.guard }], guard := some (24, false) }
def oPl30 (p : String) : Oper := { dst := some 69, op := Op.move (Operand.tmp 7), type := 27, pos := p, after := #[{ on := 24, ground := Ground.guard }], guard := some (24, false) }
def oPl31 (p : String) : Oper := { dst := some 70, op := Op.call { callee := Callee.value (Operand.func 13), args := #[Operand.tmp 69], argTypes := #[27] }, type := 38, pos := p, after := #[{ on := 30, ground := Ground.data }, { on := 28, ground := Ground.chain }, { on := 24, ground := Ground.guard }], guard := some (24, false) }
def oPl32 (p : String) : Oper := { dst := some 71, op := Op.convert 38 9 (Operand.tmp 70), type := 9, pos := p, after := #[{ on := 31, ground := Ground.data }, { on := 24, ground := Ground.guard }], guard := some (24, false) }
def oPl33 (p : String) : Oper := { dst := some 72, op := Op.binOp BinOp.add 9 (Operand.const (Value.string { data := #[120] })) (Operand.tmp 71) 9, type := 9, pos := p, after := #[{ on := 32, ground := Ground.data }, { on := 24, ground := Ground.guard }], guard := some (24, false) }
def oPl34 (p : String) : Oper := { dst := some 73, op := Op.binOp BinOp.neq 9 (Operand.tmp 68) (Operand.tmp 72) 9, type := 4, pos := p, after := #[{ on := 29, ground := Ground.data }, { on := 33, ground := Ground.data }, { on := 24, ground := Ground.guard }], guard := some (24, false) }
def oPl35 (p : String) : Oper := { dst := some 74, op := Op.pick (Operand.tmp 63) (Operand.const (Value.bool true)) (Operand.tmp 73), type := 4, pos := p, after := #[{ on := 24, ground := Ground.data }, { on := 34, ground := Ground.data }], guard := none }
def opsPl (p : String) : List Oper := [oPl0 p, oPl1 p, oPl2 p, oPl3 p, oPl4 p, oPl5 p, oPl6 p, oPl7 p, oPl8 p, oPl9 p, oPl10 p, oPl11 p, oPl12 p, oPl13 p, oPl14 p, oPl15 p, oPl16 p, oPl17 p, oPl18 p, oPl19 p, oPl20 p, oPl21 p, oPl22 p, oPl23 p, oPl24 p, oPl25 p, oPl26 p, oPl27 p, oPl28 p, oPl29 p, oPl30 p, oPl31 p, oPl32 p, oPl33 p, oPl34 p, oPl35 p]
theorem opsPl_back (p : String) : backwards (opsPl p) = true := by kernel_rfl
theorem opsPl_slots (p : String) : slotsOk 190 (opsPl p) = true := by kernel_rfl
/-- What each slot comes to. -/
def psiPl (S S2 : Nat) (A : Option Addr) (L c j : Nat) (pp : Addr) (cv : CmdV) (rp : Nat × ByteArray) (NA : Option Addr) (NL Nc _q : Nat) (X Y : List UInt8) (MA : Option Addr) (ML Mc : Nat) (M : Nat) : Nat → Value → World → Prop
  | 0, v, _ => v = .pointer (some ⟨S, 0, none⟩)
  | 1, v, _ => v = .slice A L c
  | 2, v, _ => v = .int .i64 (j : Int)
  | 3, v, _ => v = .pointer (some pp)
  | 4, v, _ => v = cv.val
  | 5, v, _ => v = ReplyV rp
  | 6, v, _ => v = ReplyV rp
  | 7, v, _ => v = .bool false
  | 8, v, _ => v = .bool false
  | 9, v, _ => v = .pointer (some ⟨S, 0, none⟩)
  | 10, v, _ => v = .int .i64 (NL : Int)
  | 11, v, _ => v = .slice NA NL Nc
  | 12, v, _ => v = .int .i64 (NL : Int)
  | 13, v, _ => v = .bool false
  | 14, v, _ => v = .bool false
  | 15, v, _ => v = .bool false
  | 16, v, _ => v = .pointer (some ⟨S2, 0, none⟩)
  | 17, v, w => IsB w v (X)
  | 18, v, _ => v = .string (str X)
  | 19, v, _ => v = .slice MA ML Mc
  | 20, v, w => IsB w v (X)
  | 21, v, _ => v = .string (str X)
  | 22, v, _ => v = .bool false
  | 23, v, _ => v = .bool false
  | 24, v, _ => v = .bool false
  | 25, v, _ => v = .pointer (some ⟨S, 0, none⟩)
  | 26, v, w => LitB M w v
  | 27, v, w => IsBk w v [120]
  | 28, v, w => IsB w v ([120] ++ Y)
  | 29, v, _ => v = .string (str ([120] ++ Y))
  | 30, v, _ => v = .slice NA NL Nc
  | 31, v, w => IsB w v (Y)
  | 32, v, _ => v = .string (str Y)
  | 33, v, _ => v = .string (str ([120] ++ Y))
  | 34, v, _ => v = .bool false
  | 35, v, _ => v = .bool false
  | _, _, _ => True
theorem psiPl_grew (S S2 : Nat) (A : Option Addr) (L c j : Nat) (pp : Addr) (cv : CmdV) (rp : Nat × ByteArray) (NA : Option Addr) (NL Nc q : Nat) (X Y : List UInt8) (MA : Option Addr) (ML Mc : Nat) (M : Nat) : ∀ i v w w', psiPl S S2 A L c j pp cv rp NA NL Nc q X Y MA ML Mc M i v w → Mk M w w' → psiPl S S2 A L c j pp cv rp NA NL Nc q X Y MA ML Mc M i v w' := by
  intro i v w w' h hg
  rcases i with _ | _ | _ | _ | _ | _ | _ | _ | _ | _ | _ | _ | _ | _ | _ | _ | _ | _ | _ | _ | _ | _ | _ | _ | _ | _ | _ | _ | _ | _ | _ | _ | _ | _ | _ | _ | i
  · exact h
  · exact h
  · exact h
  · exact h
  · exact h
  · exact h
  · exact h
  · exact h
  · exact h
  · exact h
  · exact h
  · exact h
  · exact h
  · exact h
  · exact h
  · exact h
  · exact h
  · exact IsB.mk h hg
  · exact h
  · exact h
  · exact IsB.mk h hg
  · exact h
  · exact h
  · exact h
  · exact h
  · exact h
  · exact LitB.mk h hg
  · exact IsBk.mk h hg
  · exact IsB.mk h hg
  · exact h
  · exact h
  · exact IsB.mk h hg
  · exact h
  · exact h
  · exact h
  · exact h
  · trivial
def depPl (i : Nat) : Bool := decide (5 ≤ i) && !(i == 6)
set_option maxRecDepth 100000 in
theorem depPl_ok (p : String) : depOk (opsPl p) 5 depPl = true := by kernel_rfl
theorem psiPl_zero (S S2 : Nat) (A : Option Addr) (L c j : Nat) (pp : Addr) (cv : CmdV) (rp : Nat × ByteArray) (NA : Option Addr) (NL Nc q : Nat) (X Y : List UInt8) (MA : Option Addr) (ML Mc : Nat) (p : String) : ∀ M M' i v w w', i < (opsPl p).length → depPl i = false → psiPl S S2 A L c j pp cv rp NA NL Nc q X Y MA ML Mc M i v w → psiPl S S2 A L c j pp cv rp NA NL Nc q X Y MA ML Mc M' i v w' := by
  intro M M' i v w w' _ hd h
  rcases i with _ | _ | _ | _ | _ | _ | _ | _ | _ | _ | _ | _ | _ | _ | _ | _ | _ | _ | _ | _ | _ | _ | _ | _ | _ | _ | _ | _ | _ | _ | _ | _ | _ | _ | _ | _ | i
  · exact h
  · exact h
  · exact h
  · exact h
  · exact h
  · exact absurd hd (by decide)
  · exact h
  · exact absurd hd (by decide)
  · exact absurd hd (by decide)
  · exact absurd hd (by decide)
  · exact absurd hd (by decide)
  · exact absurd hd (by decide)
  · exact absurd hd (by decide)
  · exact absurd hd (by decide)
  · exact absurd hd (by decide)
  · exact absurd hd (by decide)
  · exact absurd hd (by decide)
  · exact absurd hd (by decide)
  · exact absurd hd (by decide)
  · exact absurd hd (by decide)
  · exact absurd hd (by decide)
  · exact absurd hd (by decide)
  · exact absurd hd (by decide)
  · exact absurd hd (by decide)
  · exact absurd hd (by decide)
  · exact absurd hd (by decide)
  · exact absurd hd (by decide)
  · exact absurd hd (by decide)
  · exact absurd hd (by decide)
  · exact absurd hd (by decide)
  · exact absurd hd (by decide)
  · exact absurd hd (by decide)
  · exact absurd hd (by decide)
  · exact absurd hd (by decide)
  · exact absurd hd (by decide)
  · exact absurd hd (by decide)
  · trivial
set_option maxRecDepth 100000 in
set_option maxHeartbeats 4000000 in
theorem plays_region {p : String} (S S2 : Nat) (A : Option Addr) (L c j : Nat) (pp : Addr) (cv : CmdV) (rp : Nat × ByteArray) (NA : Option Addr) (NL Nc q : Nat) (X Y : List UInt8) (MA : Option Addr) (ML Mc : Nat) (I0 : World → Prop) (I1 : Nat → World → Prop) (hIs : ∀ M w w', I1 M w → Mk M w w' → I1 M w') (hLe : ∀ M w, I1 M w → M ≤ w.heap.size) (hY : Y.length ≤ 900000000) (a : Act) (w : World) (Q : Exit → Act → World → Prop) (hN : a.tmps.size = 190) (h0 : a.tmps.getD 0 undef = .slice A L c) (h3 : a.tmps.getD 3 undef = .pointer (some ⟨S, 0, none⟩)) (h4 : a.tmps.getD 4 undef = .slice MA ML Mc) (h5 : a.tmps.getD 5 undef = .int .i64 (j : Int)) (h6 : a.tmps.getD 6 undef = .pointer (some ⟨S2, 0, none⟩)) (h7 : a.tmps.getD 7 undef = .slice NA NL Nc) (h8 : a.tmps.getD 8 undef = .pointer (some ⟨q, 0, none⟩)) (hI00 : I0 w.drew) (hIx : ∀ w', (Instr.indexAt 22 (.slice A L c) (.int .i64 (j : Int))).run Tryz.prog w' = .ok (.pointer (some pp)) w') (hLd : ∀ M w', (I0 w' ∨ I1 M w') → (Instr.loadAt 35 (.pointer (some pp))).run Tryz.prog w' = .ok cv.val w') (hRp : ∀ M w', (I0 w' ∨ I1 M w') → (Instr.loadAt 29 (.pointer (some ⟨q, 0, none⟩))).run Tryz.prog w' = .ok (ReplyV rp) w')
    (hDo : ∀ w', I0 w' → Calls Tryz.prog 10 #[.pointer (some ⟨S, 0, none⟩), cv.val] w' fun e W' => e = .returned (ReplyV rp) ∧ ∃ M, I1 M W') (hLen : ∀ M w', I1 M w' → Calls Tryz.prog 11 #[.pointer (some ⟨S, 0, none⟩)] w' fun e W' => e = .returned (.int .i64 (NL : Int)) ∧ Below w'.heap.size w' W')
    (hPut1 : ∀ M w', I1 M w' → Calls Tryz.prog 12 #[.pointer (some ⟨S2, 0, none⟩), .slice none 0 0] w' fun e W' => ∃ v m, e = .returned v ∧ W'.ownsRow w'.heap.size 5 1 v m (X.map enc) ∧ Below w'.heap.size w' W') (hBy1 : ∀ M w', I1 M w' → Calls Tryz.prog 13 #[.slice MA ML Mc] w' (Gives w' X))
    (hPut2 : ∀ M w', I1 M w' → ∀ A1 L1 c1, L1 = [(120 : UInt8)].length → L1 ≤ c1 → HasA w' w'.heap.size A1 [120] → Calls Tryz.prog 12 #[.pointer (some ⟨S, 0, none⟩), .slice A1 L1 c1] w' fun e W' => ∃ v m, e = .returned v ∧ W'.ownsRow w'.heap.size 5 1 v m (([120] ++ Y).map enc) ∧ Below w'.heap.size w' W') (hBy2 : ∀ M w', I1 M w' → Calls Tryz.prog 13 #[.slice NA NL Nc] w' (Gives w' Y)) (hQ : ∀ (M : Nat), ∀ (v56 : Value), ∀ (v59 : Value), ∀ (v65 : Value), ∀ (v66 : Value), ∀ (v67 : Value), ∀ (v70 : Value), ∀ (w' : World), (fun v w => IsB w v (X)) v56 w' → (fun v w => IsB w v (X)) v59 w' → (fun v w => LitB M w v) v65 w' → (fun v w => IsBk w v [120]) v66 w' → (fun v w => IsB w v ([120] ++ Y)) v67 w' → (fun v w => IsB w v (Y)) v70 w' → I1 M w' → Q .normal (puts [(39, .pointer (some ⟨S, 0, none⟩)), (40, .slice A L c), (41, .int .i64 (j : Int)), (42, .pointer (some pp)), (43, cv.val), (44, ReplyV rp), (45, ReplyV rp), (46, .bool false), (47, .bool false), (48, .pointer (some ⟨S, 0, none⟩)), (49, .int .i64 (NL : Int)), (50, .slice NA NL Nc), (51, .int .i64 (NL : Int)), (52, .bool false), (53, .bool false), (54, .bool false), (55, .pointer (some ⟨S2, 0, none⟩)), (56, v56), (57, .string (str X)), (58, .slice MA ML Mc), (59, v59), (60, .string (str X)), (61, .bool false), (62, .bool false), (63, .bool false), (64, .pointer (some ⟨S, 0, none⟩)), (65, v65), (66, v66), (67, v67), (68, .string (str ([120] ++ Y))), (69, .slice NA NL Nc), (70, v70), (71, .string (str Y)), (72, .string (str ([120] ++ Y))), (73, .bool false), (74, .bool false)] a) w')
    : (Code.region 10 (opsPl p).toArray true).wp Tryz.prog Q a w := by
  refine (wpIn_wide (n := 1)).1 (wpIn_region_piv 190 hN follows (opsPl_back p) (opsPl_slots p) 5 depPl (depPl_ok p) I0 I1 (fun M => Mk M) hIs (fun M => psiPl S S2 A L c j pp cv rp NA NL Nc q X Y MA ML Mc M) (fun M => psiPl_grew S S2 A L c j pp cv rp NA NL Nc q X Y MA ML Mc M) (psiPl_zero S S2 A L c j pp cv rp NA NL Nc q X Y MA ML Mc p) hI00 ?_ ?_ (show 5 < 36 by omega) ?_)
  · intro i o d ho hd hic M a' w' hF hI hI1 hp
    rcases i with _ | _ | _ | _ | _ | _ | _ | _ | _ | _ | _ | _ | _ | _ | _ | _ | _ | _ | _ | _ | _ | _ | _ | _ | _ | _ | _ | _ | _ | _ | _ | _ | _ | _ | _ | _ | i
    · obtain rfl : oPl0 p = o := Option.some.inj ho
      obtain rfl : 39 = d := Option.some.inj hd
      exact step_move rfl rfl rfl (hF.at 3 rfl h3) ⟨_, rfl, rfl, Mk.refl _, fun _ => rfl⟩
    · obtain rfl : oPl1 p = o := Option.some.inj ho
      obtain rfl : 40 = d := Option.some.inj hd
      exact step_move rfl rfl rfl (hF.at 0 rfl h0) ⟨_, rfl, rfl, Mk.refl _, fun _ => rfl⟩
    · obtain rfl : oPl2 p = o := Option.some.inj ho
      obtain rfl : 41 = d := Option.some.inj hd
      exact step_move rfl rfl rfl (hF.at 5 rfl h5) ⟨_, rfl, rfl, Mk.refl _, fun _ => rfl⟩
    · obtain rfl : oPl3 p = o := Option.some.inj ho
      obtain rfl : 42 = d := Option.some.inj hd
      have q1 : a'.tmps.getD 40 undef = .slice A L c := hp 1 (oPl1 p) 40 rfl rfl rfl
      have q2 : a'.tmps.getD 41 undef = .int .i64 (j : Int) := hp 2 (oPl2 p) 41 rfl rfl rfl
      exact step_index rfl rfl rfl q1 q2 (hIx w') ⟨_, rfl, rfl, Mk.refl _, fun _ => rfl⟩
    · obtain rfl : oPl4 p = o := Option.some.inj ho
      obtain rfl : 43 = d := Option.some.inj hd
      have q3 : a'.tmps.getD 42 undef = .pointer (some pp) := hp 3 (oPl3 p) 42 rfl rfl rfl
      exact step_load rfl rfl rfl q3 (hLd _ w' hI) ⟨_, rfl, rfl, Mk.refl _, fun _ => rfl⟩
    · exact absurd rfl hic
    · obtain rfl : oPl6 p = o := Option.some.inj ho
      obtain rfl : 45 = d := Option.some.inj hd
      exact step_load rfl rfl rfl (hF.at 8 rfl h8) (hRp _ w' hI) ⟨_, rfl, rfl, Mk.refl _, fun _ => rfl⟩
    · obtain rfl : oPl7 p = o := Option.some.inj ho
      obtain rfl : 46 = d := Option.some.inj hd
      have q5 : a'.tmps.getD 44 undef = ReplyV rp := hp 5 (oPl5 p) 44 rfl rfl rfl
      have q6 : a'.tmps.getD 45 undef = ReplyV rp := hp 6 (oPl6 p) 45 rfl rfl rfl
      exact step_bin rfl rfl rfl q5 q6 (guard_rep _ _ _ _ _ _) (run_neRep _ _) ⟨_, rfl, rfl, Mk.refl _, fun _ => rfl⟩
    · obtain rfl : oPl8 p = o := Option.some.inj ho
      obtain rfl : 47 = d := Option.some.inj hd
      have q7 : a'.tmps.getD 46 undef = .bool false := hp 7 (oPl7 p) 46 rfl rfl rfl
      exact step_move rfl rfl rfl q7 ⟨_, rfl, rfl, Mk.refl _, fun _ => rfl⟩
    · obtain rfl : oPl9 p = o := Option.some.inj ho
      obtain rfl : 48 = d := Option.some.inj hd
      have q8 : a'.tmps.getD 47 undef = .bool false := hp 8 (oPl8 p) 47 rfl rfl rfl
      exact step_move rfl (wanted_on rfl (show (opsPl p).toArray[8]? = some (oPl8 p) from rfl) rfl q8) rfl (hF.at 3 rfl h3) ⟨_, rfl, rfl, Mk.refl _, fun _ => rfl⟩
    · obtain rfl : oPl10 p = o := Option.some.inj ho
      obtain rfl : 49 = d := Option.some.inj hd
      have q8 : a'.tmps.getD 47 undef = .bool false := hp 8 (oPl8 p) 47 rfl rfl rfl
      have q9 : a'.tmps.getD 48 undef = .pointer (some ⟨S, 0, none⟩) := hp 9 (oPl9 p) 48 rfl rfl rfl
      refine step_callD rfl (wanted_on rfl (show (opsPl p).toArray[8]? = some (oPl8 p) from rfl) rfl q8) rfl (enters_of Tryz.func11 (by kernel_rfl) rfl) (show Array.map a'.eval #[.tmp 48] = _ from by simp only [List.map_toArray, List.map_cons, List.map_nil, Act.eval, q9]) ((hLen _ w' (hI1 rfl)).mono ?_)
      rintro e w'' ⟨rfl, hb⟩
      exact ⟨_, rfl, _, rfl, rfl, Mk.grew hb (hLe _ _ (hI1 rfl)), fun h' => absurd h' (by decide)⟩
    · obtain rfl : oPl11 p = o := Option.some.inj ho
      obtain rfl : 50 = d := Option.some.inj hd
      have q8 : a'.tmps.getD 47 undef = .bool false := hp 8 (oPl8 p) 47 rfl rfl rfl
      exact step_move rfl (wanted_on rfl (show (opsPl p).toArray[8]? = some (oPl8 p) from rfl) rfl q8) rfl (hF.at 7 rfl h7) ⟨_, rfl, rfl, Mk.refl _, fun _ => rfl⟩
    · obtain rfl : oPl12 p = o := Option.some.inj ho
      obtain rfl : 51 = d := Option.some.inj hd
      have q8 : a'.tmps.getD 47 undef = .bool false := hp 8 (oPl8 p) 47 rfl rfl rfl
      have q11 : a'.tmps.getD 50 undef = .slice NA NL Nc := hp 11 (oPl11 p) 50 rfl rfl rfl
      exact step_len Tryz.underlying27 rfl (wanted_on rfl (show (opsPl p).toArray[8]? = some (oPl8 p) from rfl) rfl q8) rfl q11 ⟨_, rfl, rfl, Mk.refl _, fun _ => rfl⟩
    · obtain rfl : oPl13 p = o := Option.some.inj ho
      obtain rfl : 52 = d := Option.some.inj hd
      have q8 : a'.tmps.getD 47 undef = .bool false := hp 8 (oPl8 p) 47 rfl rfl rfl
      have q10 : a'.tmps.getD 49 undef = .int .i64 (NL : Int) := hp 10 (oPl10 p) 49 rfl rfl rfl
      have q12 : a'.tmps.getD 51 undef = .int .i64 (NL : Int) := hp 12 (oPl12 p) 51 rfl rfl rfl
      exact step_bin rfl (wanted_on rfl (show (opsPl p).toArray[8]? = some (oPl8 p) from rfl) rfl q8) rfl q10 q12 (guard_int _ _ _ _ _ _ _ _ _) (run_neiK _ _ _) ⟨_, rfl, rfl, Mk.refl _, fun _ => rfl⟩
    · obtain rfl : oPl14 p = o := Option.some.inj ho
      obtain rfl : 53 = d := Option.some.inj hd
      have q8 : a'.tmps.getD 47 undef = .bool false := hp 8 (oPl8 p) 47 rfl rfl rfl
      have q13 : a'.tmps.getD 52 undef = .bool false := hp 13 (oPl13 p) 52 rfl rfl rfl
      exact step_pick rfl rfl rfl q8 (show (if false = true then _ else a'.tmps.getD 52 undef) = _ from q13) ⟨_, rfl, rfl, Mk.refl _, fun _ => rfl⟩
    · obtain rfl : oPl15 p = o := Option.some.inj ho
      obtain rfl : 54 = d := Option.some.inj hd
      have q14 : a'.tmps.getD 53 undef = .bool false := hp 14 (oPl14 p) 53 rfl rfl rfl
      exact step_move rfl rfl rfl q14 ⟨_, rfl, rfl, Mk.refl _, fun _ => rfl⟩
    · obtain rfl : oPl16 p = o := Option.some.inj ho
      obtain rfl : 55 = d := Option.some.inj hd
      have q15 : a'.tmps.getD 54 undef = .bool false := hp 15 (oPl15 p) 54 rfl rfl rfl
      exact step_move rfl (wanted_on rfl (show (opsPl p).toArray[15]? = some (oPl15 p) from rfl) rfl q15) rfl (hF.at 6 rfl h6) ⟨_, rfl, rfl, Mk.refl _, fun _ => rfl⟩
    · obtain rfl : oPl17 p = o := Option.some.inj ho
      obtain rfl : 56 = d := Option.some.inj hd
      have q15 : a'.tmps.getD 54 undef = .bool false := hp 15 (oPl15 p) 54 rfl rfl rfl
      have q16 : a'.tmps.getD 55 undef = .pointer (some ⟨S2, 0, none⟩) := hp 16 (oPl16 p) 55 rfl rfl rfl
      refine step_callD rfl (wanted_on rfl (show (opsPl p).toArray[15]? = some (oPl15 p) from rfl) rfl q15) rfl (enters_of Tryz.func12 (by kernel_rfl) rfl) (show Array.map a'.eval #[.tmp 55, .const (.slice none 0 0)] = _ from by simp only [List.map_toArray, List.map_cons, List.map_nil, Act.eval, q16]) ((hPut1 _ w' (hI1 rfl)).mono ?_)
      rintro e w'' ⟨x, m, rfl, ho', hb⟩
      exact ⟨_, rfl, _, rfl, IsB.own ho', Mk.grew hb (hLe _ _ (hI1 rfl)), fun h' => absurd h' (by decide)⟩
    · obtain rfl : oPl18 p = o := Option.some.inj ho
      obtain rfl : 57 = d := Option.some.inj hd
      have q15 : a'.tmps.getD 54 undef = .bool false := hp 15 (oPl15 p) 54 rfl rfl rfl
      have q17 : (fun v w => IsB w v (X)) (a'.tmps.getD 56 undef) w' := hp 17 (oPl17 p) 56 rfl rfl rfl
      exact step_conv rfl (wanted_on rfl (show (opsPl p).toArray[15]? = some (oPl15 p) from rfl) rfl q15) rfl (show IsB w' (a'.tmps.getD 56 undef) _ from q17) ⟨_, rfl, rfl, Mk.refl _, fun _ => rfl⟩
    · obtain rfl : oPl19 p = o := Option.some.inj ho
      obtain rfl : 58 = d := Option.some.inj hd
      have q15 : a'.tmps.getD 54 undef = .bool false := hp 15 (oPl15 p) 54 rfl rfl rfl
      exact step_move rfl (wanted_on rfl (show (opsPl p).toArray[15]? = some (oPl15 p) from rfl) rfl q15) rfl (hF.at 4 rfl h4) ⟨_, rfl, rfl, Mk.refl _, fun _ => rfl⟩
    · obtain rfl : oPl20 p = o := Option.some.inj ho
      obtain rfl : 59 = d := Option.some.inj hd
      have q15 : a'.tmps.getD 54 undef = .bool false := hp 15 (oPl15 p) 54 rfl rfl rfl
      have q19 : a'.tmps.getD 58 undef = .slice MA ML Mc := hp 19 (oPl19 p) 58 rfl rfl rfl
      refine step_callD rfl (wanted_on rfl (show (opsPl p).toArray[15]? = some (oPl15 p) from rfl) rfl q15) rfl (enters_of Tryz.func13 (by kernel_rfl) rfl) (show Array.map a'.eval #[.tmp 58] = _ from by simp only [List.map_toArray, List.map_cons, List.map_nil, Act.eval, q19]) ((hBy1 _ w' (hI1 rfl)).mono ?_)
      rintro e w'' ⟨g, L', c', rfl, ho', hb⟩
      exact ⟨_, rfl, _, rfl, IsB.own ho', Mk.grew hb (hLe _ _ (hI1 rfl)), fun h' => absurd h' (by decide)⟩
    · obtain rfl : oPl21 p = o := Option.some.inj ho
      obtain rfl : 60 = d := Option.some.inj hd
      have q15 : a'.tmps.getD 54 undef = .bool false := hp 15 (oPl15 p) 54 rfl rfl rfl
      have q20 : (fun v w => IsB w v (X)) (a'.tmps.getD 59 undef) w' := hp 20 (oPl20 p) 59 rfl rfl rfl
      exact step_conv rfl (wanted_on rfl (show (opsPl p).toArray[15]? = some (oPl15 p) from rfl) rfl q15) rfl (show IsB w' (a'.tmps.getD 59 undef) _ from q20) ⟨_, rfl, rfl, Mk.refl _, fun _ => rfl⟩
    · obtain rfl : oPl22 p = o := Option.some.inj ho
      obtain rfl : 61 = d := Option.some.inj hd
      have q15 : a'.tmps.getD 54 undef = .bool false := hp 15 (oPl15 p) 54 rfl rfl rfl
      have q18 : a'.tmps.getD 57 undef = .string (str X) := hp 18 (oPl18 p) 57 rfl rfl rfl
      have q21 : a'.tmps.getD 60 undef = .string (str X) := hp 21 (oPl21 p) 60 rfl rfl rfl
      exact step_bin rfl (wanted_on rfl (show (opsPl p).toArray[15]? = some (oPl15 p) from rfl) rfl q15) rfl q18 q21 (guard_str _ _ _ _ _ _ _) (run_nesK _ _ _) ⟨_, rfl, rfl, Mk.refl _, fun _ => rfl⟩
    · obtain rfl : oPl23 p = o := Option.some.inj ho
      obtain rfl : 62 = d := Option.some.inj hd
      have q15 : a'.tmps.getD 54 undef = .bool false := hp 15 (oPl15 p) 54 rfl rfl rfl
      have q22 : a'.tmps.getD 61 undef = .bool false := hp 22 (oPl22 p) 61 rfl rfl rfl
      exact step_pick rfl rfl rfl q15 (show (if false = true then _ else a'.tmps.getD 61 undef) = _ from q22) ⟨_, rfl, rfl, Mk.refl _, fun _ => rfl⟩
    · obtain rfl : oPl24 p = o := Option.some.inj ho
      obtain rfl : 63 = d := Option.some.inj hd
      have q23 : a'.tmps.getD 62 undef = .bool false := hp 23 (oPl23 p) 62 rfl rfl rfl
      exact step_move rfl rfl rfl q23 ⟨_, rfl, rfl, Mk.refl _, fun _ => rfl⟩
    · obtain rfl : oPl25 p = o := Option.some.inj ho
      obtain rfl : 64 = d := Option.some.inj hd
      have q24 : a'.tmps.getD 63 undef = .bool false := hp 24 (oPl24 p) 63 rfl rfl rfl
      exact step_move rfl (wanted_on rfl (show (opsPl p).toArray[24]? = some (oPl24 p) from rfl) rfl q24) rfl (hF.at 3 rfl h3) ⟨_, rfl, rfl, Mk.refl _, fun _ => rfl⟩
    · obtain rfl : oPl26 p = o := Option.some.inj ho
      obtain rfl : 65 = d := Option.some.inj hd
      have q24 : a'.tmps.getD 63 undef = .bool false := hp 24 (oPl24 p) 63 rfl rfl rfl
      exact step_bs1 rfl (wanted_on rfl (show (opsPl p).toArray[24]? = some (oPl24 p) from rfl) rfl q24) rfl ⟨_, rfl, LitB.new (hLe _ _ (hI1 rfl)), Mk.grew ((Below.refl _ w').alloc (Nat.le_refl _) _) (hLe _ _ (hI1 rfl)), fun h' => absurd h' (by decide)⟩
    · obtain rfl : oPl27 p = o := Option.some.inj ho
      obtain rfl : 66 = d := Option.some.inj hd
      have q24 : a'.tmps.getD 63 undef = .bool false := hp 24 (oPl24 p) 63 rfl rfl rfl
      have q26 : (fun v w => LitB M w v) (a'.tmps.getD 65 undef) w' := hp 26 (oPl26 p) 65 rfl rfl rfl
      obtain ⟨g, hv, hg, fr, hh⟩ := q26
      obtain ⟨w'', hr, hw, hi2⟩ := run_cvB w' g fr hh
      exact step_cvW rfl (wanted_on rfl (show (opsPl p).toArray[24]? = some (oPl24 p) from rfl) rfl q24) rfl hv hr ⟨_, rfl, hi2, hw M hg, fun h' => absurd h' (by decide)⟩
    · obtain rfl : oPl28 p = o := Option.some.inj ho
      obtain rfl : 67 = d := Option.some.inj hd
      have q24 : a'.tmps.getD 63 undef = .bool false := hp 24 (oPl24 p) 63 rfl rfl rfl
      have q25 : a'.tmps.getD 64 undef = .pointer (some ⟨S, 0, none⟩) := hp 25 (oPl25 p) 64 rfl rfl rfl
      have q27 : (fun v w => IsBk w v [120]) (a'.tmps.getD 66 undef) w' := hp 27 (oPl27 p) 66 rfl rfl rfl
      obtain ⟨A1, L1, c1, hv, h1, h2, h3'⟩ := q27
      refine step_callD rfl (wanted_on rfl (show (opsPl p).toArray[24]? = some (oPl24 p) from rfl) rfl q24) rfl (enters_of Tryz.func12 (by kernel_rfl) rfl) (show Array.map a'.eval #[.tmp 64, .tmp 66] = #[.pointer (some ⟨S, 0, none⟩), .slice A1 L1 c1] from by simp only [List.map_toArray, List.map_cons, List.map_nil, Act.eval, hv, q25]) ((hPut2 _ w' (hI1 rfl) A1 L1 c1 h1 h2 h3').mono ?_)
      rintro e w'' ⟨x, m, rfl, ho', hb⟩
      exact ⟨_, rfl, _, rfl, IsB.own ho', Mk.grew hb (hLe _ _ (hI1 rfl)), fun h' => absurd h' (by decide)⟩
    · obtain rfl : oPl29 p = o := Option.some.inj ho
      obtain rfl : 68 = d := Option.some.inj hd
      have q24 : a'.tmps.getD 63 undef = .bool false := hp 24 (oPl24 p) 63 rfl rfl rfl
      have q28 : (fun v w => IsB w v ([120] ++ Y)) (a'.tmps.getD 67 undef) w' := hp 28 (oPl28 p) 67 rfl rfl rfl
      exact step_conv rfl (wanted_on rfl (show (opsPl p).toArray[24]? = some (oPl24 p) from rfl) rfl q24) rfl (show IsB w' (a'.tmps.getD 67 undef) _ from q28) ⟨_, rfl, rfl, Mk.refl _, fun _ => rfl⟩
    · obtain rfl : oPl30 p = o := Option.some.inj ho
      obtain rfl : 69 = d := Option.some.inj hd
      have q24 : a'.tmps.getD 63 undef = .bool false := hp 24 (oPl24 p) 63 rfl rfl rfl
      exact step_move rfl (wanted_on rfl (show (opsPl p).toArray[24]? = some (oPl24 p) from rfl) rfl q24) rfl (hF.at 7 rfl h7) ⟨_, rfl, rfl, Mk.refl _, fun _ => rfl⟩
    · obtain rfl : oPl31 p = o := Option.some.inj ho
      obtain rfl : 70 = d := Option.some.inj hd
      have q24 : a'.tmps.getD 63 undef = .bool false := hp 24 (oPl24 p) 63 rfl rfl rfl
      have q30 : a'.tmps.getD 69 undef = .slice NA NL Nc := hp 30 (oPl30 p) 69 rfl rfl rfl
      refine step_callD rfl (wanted_on rfl (show (opsPl p).toArray[24]? = some (oPl24 p) from rfl) rfl q24) rfl (enters_of Tryz.func13 (by kernel_rfl) rfl) (show Array.map a'.eval #[.tmp 69] = _ from by simp only [List.map_toArray, List.map_cons, List.map_nil, Act.eval, q30]) ((hBy2 _ w' (hI1 rfl)).mono ?_)
      rintro e w'' ⟨g, L', c', rfl, ho', hb⟩
      exact ⟨_, rfl, _, rfl, IsB.own ho', Mk.grew hb (hLe _ _ (hI1 rfl)), fun h' => absurd h' (by decide)⟩
    · obtain rfl : oPl32 p = o := Option.some.inj ho
      obtain rfl : 71 = d := Option.some.inj hd
      have q24 : a'.tmps.getD 63 undef = .bool false := hp 24 (oPl24 p) 63 rfl rfl rfl
      have q31 : (fun v w => IsB w v (Y)) (a'.tmps.getD 70 undef) w' := hp 31 (oPl31 p) 70 rfl rfl rfl
      exact step_conv rfl (wanted_on rfl (show (opsPl p).toArray[24]? = some (oPl24 p) from rfl) rfl q24) rfl (show IsB w' (a'.tmps.getD 70 undef) _ from q31) ⟨_, rfl, rfl, Mk.refl _, fun _ => rfl⟩
    · obtain rfl : oPl33 p = o := Option.some.inj ho
      obtain rfl : 72 = d := Option.some.inj hd
      have q24 : a'.tmps.getD 63 undef = .bool false := hp 24 (oPl24 p) 63 rfl rfl rfl
      have q32 : a'.tmps.getD 71 undef = .string (str Y) := hp 32 (oPl32 p) 71 rfl rfl rfl
      exact step_bin rfl (wanted_on rfl (show (opsPl p).toArray[24]? = some (oPl24 p) from rfl) rfl q24) rfl rfl q32 (guard_str _ _ _ _ _ _ _) (run_add _ [120] _ (by simp only [List.length_cons, List.length_nil]; omega)) ⟨_, rfl, rfl, Mk.refl _, fun _ => rfl⟩
    · obtain rfl : oPl34 p = o := Option.some.inj ho
      obtain rfl : 73 = d := Option.some.inj hd
      have q24 : a'.tmps.getD 63 undef = .bool false := hp 24 (oPl24 p) 63 rfl rfl rfl
      have q29 : a'.tmps.getD 68 undef = .string (str ([120] ++ Y)) := hp 29 (oPl29 p) 68 rfl rfl rfl
      have q33 : a'.tmps.getD 72 undef = .string (str ([120] ++ Y)) := hp 33 (oPl33 p) 72 rfl rfl rfl
      exact step_bin rfl (wanted_on rfl (show (opsPl p).toArray[24]? = some (oPl24 p) from rfl) rfl q24) rfl q29 q33 (guard_str _ _ _ _ _ _ _) (run_nesK _ _ _) ⟨_, rfl, rfl, Mk.refl _, fun _ => rfl⟩
    · obtain rfl : oPl35 p = o := Option.some.inj ho
      obtain rfl : 74 = d := Option.some.inj hd
      have q24 : a'.tmps.getD 63 undef = .bool false := hp 24 (oPl24 p) 63 rfl rfl rfl
      have q34 : a'.tmps.getD 73 undef = .bool false := hp 34 (oPl34 p) 73 rfl rfl rfl
      exact step_pick rfl rfl rfl q24 (show (if false = true then _ else a'.tmps.getD 73 undef) = _ from q34) ⟨_, rfl, rfl, Mk.refl _, fun _ => rfl⟩
    · exact absurd ((Array.getElem?_eq_some_iff.1 ho).1) (by simp [opsPl])
  · intro o d ho hd M a' w' hF hI hp
    · obtain rfl : oPl5 p = o := Option.some.inj ho
      obtain rfl : 44 = d := Option.some.inj hd
      have q0 : a'.tmps.getD 39 undef = .pointer (some ⟨S, 0, none⟩) := hp 0 (oPl0 p) 39 rfl rfl rfl
      have q4 : a'.tmps.getD 43 undef = cv.val := hp 4 (oPl4 p) 43 rfl rfl rfl
      refine step_callD rfl rfl rfl (enters_of Tryz.func10 (by kernel_rfl) rfl) (show Array.map a'.eval #[.tmp 39, .tmp 43] = _ from by simp only [List.map_toArray, List.map_cons, List.map_nil, Act.eval, q0, q4]) ((hDo w' hI).mono ?_)
      rintro e w'' ⟨rfl, M', hM⟩
      exact ⟨_, rfl, _, M', rfl, rfl, hM⟩
  · intro M a' w' hF hR hp
    have e0 : psiPl S S2 A L c j pp cv rp NA NL Nc q X Y MA ML Mc M 0 (a'.tmps.getD 39 undef) w' := hp 0 (oPl0 p) 39 rfl rfl
    have e1 : psiPl S S2 A L c j pp cv rp NA NL Nc q X Y MA ML Mc M 1 (a'.tmps.getD 40 undef) w' := hp 1 (oPl1 p) 40 rfl rfl
    have e2 : psiPl S S2 A L c j pp cv rp NA NL Nc q X Y MA ML Mc M 2 (a'.tmps.getD 41 undef) w' := hp 2 (oPl2 p) 41 rfl rfl
    have e3 : psiPl S S2 A L c j pp cv rp NA NL Nc q X Y MA ML Mc M 3 (a'.tmps.getD 42 undef) w' := hp 3 (oPl3 p) 42 rfl rfl
    have e4 : psiPl S S2 A L c j pp cv rp NA NL Nc q X Y MA ML Mc M 4 (a'.tmps.getD 43 undef) w' := hp 4 (oPl4 p) 43 rfl rfl
    have e5 : psiPl S S2 A L c j pp cv rp NA NL Nc q X Y MA ML Mc M 5 (a'.tmps.getD 44 undef) w' := hp 5 (oPl5 p) 44 rfl rfl
    have e6 : psiPl S S2 A L c j pp cv rp NA NL Nc q X Y MA ML Mc M 6 (a'.tmps.getD 45 undef) w' := hp 6 (oPl6 p) 45 rfl rfl
    have e7 : psiPl S S2 A L c j pp cv rp NA NL Nc q X Y MA ML Mc M 7 (a'.tmps.getD 46 undef) w' := hp 7 (oPl7 p) 46 rfl rfl
    have e8 : psiPl S S2 A L c j pp cv rp NA NL Nc q X Y MA ML Mc M 8 (a'.tmps.getD 47 undef) w' := hp 8 (oPl8 p) 47 rfl rfl
    have e9 : psiPl S S2 A L c j pp cv rp NA NL Nc q X Y MA ML Mc M 9 (a'.tmps.getD 48 undef) w' := hp 9 (oPl9 p) 48 rfl rfl
    have e10 : psiPl S S2 A L c j pp cv rp NA NL Nc q X Y MA ML Mc M 10 (a'.tmps.getD 49 undef) w' := hp 10 (oPl10 p) 49 rfl rfl
    have e11 : psiPl S S2 A L c j pp cv rp NA NL Nc q X Y MA ML Mc M 11 (a'.tmps.getD 50 undef) w' := hp 11 (oPl11 p) 50 rfl rfl
    have e12 : psiPl S S2 A L c j pp cv rp NA NL Nc q X Y MA ML Mc M 12 (a'.tmps.getD 51 undef) w' := hp 12 (oPl12 p) 51 rfl rfl
    have e13 : psiPl S S2 A L c j pp cv rp NA NL Nc q X Y MA ML Mc M 13 (a'.tmps.getD 52 undef) w' := hp 13 (oPl13 p) 52 rfl rfl
    have e14 : psiPl S S2 A L c j pp cv rp NA NL Nc q X Y MA ML Mc M 14 (a'.tmps.getD 53 undef) w' := hp 14 (oPl14 p) 53 rfl rfl
    have e15 : psiPl S S2 A L c j pp cv rp NA NL Nc q X Y MA ML Mc M 15 (a'.tmps.getD 54 undef) w' := hp 15 (oPl15 p) 54 rfl rfl
    have e16 : psiPl S S2 A L c j pp cv rp NA NL Nc q X Y MA ML Mc M 16 (a'.tmps.getD 55 undef) w' := hp 16 (oPl16 p) 55 rfl rfl
    have e17 : psiPl S S2 A L c j pp cv rp NA NL Nc q X Y MA ML Mc M 17 (a'.tmps.getD 56 undef) w' := hp 17 (oPl17 p) 56 rfl rfl
    have e18 : psiPl S S2 A L c j pp cv rp NA NL Nc q X Y MA ML Mc M 18 (a'.tmps.getD 57 undef) w' := hp 18 (oPl18 p) 57 rfl rfl
    have e19 : psiPl S S2 A L c j pp cv rp NA NL Nc q X Y MA ML Mc M 19 (a'.tmps.getD 58 undef) w' := hp 19 (oPl19 p) 58 rfl rfl
    have e20 : psiPl S S2 A L c j pp cv rp NA NL Nc q X Y MA ML Mc M 20 (a'.tmps.getD 59 undef) w' := hp 20 (oPl20 p) 59 rfl rfl
    have e21 : psiPl S S2 A L c j pp cv rp NA NL Nc q X Y MA ML Mc M 21 (a'.tmps.getD 60 undef) w' := hp 21 (oPl21 p) 60 rfl rfl
    have e22 : psiPl S S2 A L c j pp cv rp NA NL Nc q X Y MA ML Mc M 22 (a'.tmps.getD 61 undef) w' := hp 22 (oPl22 p) 61 rfl rfl
    have e23 : psiPl S S2 A L c j pp cv rp NA NL Nc q X Y MA ML Mc M 23 (a'.tmps.getD 62 undef) w' := hp 23 (oPl23 p) 62 rfl rfl
    have e24 : psiPl S S2 A L c j pp cv rp NA NL Nc q X Y MA ML Mc M 24 (a'.tmps.getD 63 undef) w' := hp 24 (oPl24 p) 63 rfl rfl
    have e25 : psiPl S S2 A L c j pp cv rp NA NL Nc q X Y MA ML Mc M 25 (a'.tmps.getD 64 undef) w' := hp 25 (oPl25 p) 64 rfl rfl
    have e26 : psiPl S S2 A L c j pp cv rp NA NL Nc q X Y MA ML Mc M 26 (a'.tmps.getD 65 undef) w' := hp 26 (oPl26 p) 65 rfl rfl
    have e27 : psiPl S S2 A L c j pp cv rp NA NL Nc q X Y MA ML Mc M 27 (a'.tmps.getD 66 undef) w' := hp 27 (oPl27 p) 66 rfl rfl
    have e28 : psiPl S S2 A L c j pp cv rp NA NL Nc q X Y MA ML Mc M 28 (a'.tmps.getD 67 undef) w' := hp 28 (oPl28 p) 67 rfl rfl
    have e29 : psiPl S S2 A L c j pp cv rp NA NL Nc q X Y MA ML Mc M 29 (a'.tmps.getD 68 undef) w' := hp 29 (oPl29 p) 68 rfl rfl
    have e30 : psiPl S S2 A L c j pp cv rp NA NL Nc q X Y MA ML Mc M 30 (a'.tmps.getD 69 undef) w' := hp 30 (oPl30 p) 69 rfl rfl
    have e31 : psiPl S S2 A L c j pp cv rp NA NL Nc q X Y MA ML Mc M 31 (a'.tmps.getD 70 undef) w' := hp 31 (oPl31 p) 70 rfl rfl
    have e32 : psiPl S S2 A L c j pp cv rp NA NL Nc q X Y MA ML Mc M 32 (a'.tmps.getD 71 undef) w' := hp 32 (oPl32 p) 71 rfl rfl
    have e33 : psiPl S S2 A L c j pp cv rp NA NL Nc q X Y MA ML Mc M 33 (a'.tmps.getD 72 undef) w' := hp 33 (oPl33 p) 72 rfl rfl
    have e34 : psiPl S S2 A L c j pp cv rp NA NL Nc q X Y MA ML Mc M 34 (a'.tmps.getD 73 undef) w' := hp 34 (oPl34 p) 73 rfl rfl
    have e35 : psiPl S S2 A L c j pp cv rp NA NL Nc q X Y MA ML Mc M 35 (a'.tmps.getD 74 undef) w' := hp 35 (oPl35 p) 74 rfl rfl
    rw [hF.puts [(39, .pointer (some ⟨S, 0, none⟩)), (40, .slice A L c), (41, .int .i64 (j : Int)), (42, .pointer (some pp)), (43, cv.val), (44, ReplyV rp), (45, ReplyV rp), (46, .bool false), (47, .bool false), (48, .pointer (some ⟨S, 0, none⟩)), (49, .int .i64 (NL : Int)), (50, .slice NA NL Nc), (51, .int .i64 (NL : Int)), (52, .bool false), (53, .bool false), (54, .bool false), (55, .pointer (some ⟨S2, 0, none⟩)), (56, a'.tmps.getD 56 undef), (57, .string (str X)), (58, .slice MA ML Mc), (59, a'.tmps.getD 59 undef), (60, .string (str X)), (61, .bool false), (62, .bool false), (63, .bool false), (64, .pointer (some ⟨S, 0, none⟩)), (65, a'.tmps.getD 65 undef), (66, a'.tmps.getD 66 undef), (67, a'.tmps.getD 67 undef), (68, .string (str ([120] ++ Y))), (69, .slice NA NL Nc), (70, a'.tmps.getD 70 undef), (71, .string (str Y)), (72, .string (str ([120] ++ Y))), (73, .bool false), (74, .bool false)] ?_ rfl (by rw [hN]; rfl)]
    · exact hQ M _ _ _ _ _ _ w' e17 e20 e26 e27 e28 e31 hR
    · intro x hx
      simp only [List.mem_cons, List.not_mem_nil, or_false] at hx
      rcases hx with rfl | rfl | rfl | rfl | rfl | rfl | rfl | rfl | rfl | rfl | rfl | rfl | rfl | rfl | rfl | rfl | rfl | rfl | rfl | rfl | rfl | rfl | rfl | rfl | rfl | rfl | rfl | rfl | rfl | rfl | rfl | rfl | rfl | rfl | rfl | rfl
      · exact e0
      · exact e1
      · exact e2
      · exact e3
      · exact e4
      · exact e5
      · exact e6
      · exact e7
      · exact e8
      · exact e9
      · exact e10
      · exact e11
      · exact e12
      · exact e13
      · exact e14
      · exact e15
      · exact e16
      · exact rfl
      · exact e18
      · exact e19
      · exact rfl
      · exact e21
      · exact e22
      · exact e23
      · exact e24
      · exact e25
      · exact rfl
      · exact rfl
      · exact rfl
      · exact e29
      · exact e30
      · exact rfl
      · exact e32
      · exact e33
      · exact e34
      · exact e35
end Go.Proofs.YtfkdlmokigeemaaGreatDoor
