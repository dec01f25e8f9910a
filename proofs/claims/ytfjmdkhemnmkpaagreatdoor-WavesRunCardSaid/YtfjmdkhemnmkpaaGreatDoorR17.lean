/- Parts of the proof: RxDoR, RxM. -/
import Derived.Test.YtfjmdkhemnmkpaaGreatDoorR02
import Derived.Test.YtfjmdkhemnmkpaaGreatDoorR16
import Derived.Test.YtfjmdkhemnmkpaaGreatDoorR03
import Derived.Test.YtfjmdkhemnmkpaaGreatDoorR12
import Derived.Test.YtfjmdkhemnmkpaaGreatDoorR08
set_option maxRecDepth 100000
set_option maxHeartbeats 8000000
namespace Go.Proofs.YtfjmdkhemnmkpaaGreatDoor
open Go.RowKit
theorem run_fxA (w:World) (p i:Nat) (hi:i=0\/i=1\/i=2):(Instr.fieldAt 32 (.pointer (some ⟨p,0,none⟩)) i).run Tryz.prog w=.ok (.pointer (some ⟨p,i,none⟩)) w:=by
 rcases hi with rfl|rfl|rfl<;>simp [go_sem]
theorem run_fxC (w:World) (p i:Nat) (hi:i=0\/i=1):(Instr.fieldAt 57 (.pointer (some ⟨p,0,none⟩)) i).run Tryz.prog w=.ok (.pointer (some ⟨p,i,none⟩)) w:=by
 rcases hi with rfl|rfl<;>simp [go_sem]
theorem run_fxL (w:World) (b o i:Nat) (hi:i=0\/i=1\/i=2):(Instr.fieldAt 84 (.pointer (some ⟨b,o,none⟩)) i).run Tryz.prog w=.ok (.pointer (some ⟨b,o+i,none⟩)) w:=by
 rcases hi with rfl|rfl|rfl<;>simp [go_sem]
theorem run_ixL (w:World) (b o L c q:Nat) (h:q<L):(Instr.indexAt 29 (.slice (some ⟨b,o,none⟩) L c) (.int .i64 (q:Int))).run Tryz.prog w=.ok (.pointer (some ⟨b,o+q*4,none⟩)) w:=by
 have h1:(0:Int)<=q:=by omega
 have h2:(q:Int)<L:=by omega
 simp [go_sem,h1,h2]
theorem run_lxS (w:World) (t:TypeId) (ht:t=29\/t=30\/t=54\/t=28) (p:Addr) (v:Value) (h:w.cell? p=some v):(Instr.loadAt t (.pointer (some p))).run Tryz.prog w=.ok v w:=by
 rcases ht with rfl|rfl|rfl|rfl<;>simp [go_sem,h]
theorem run_lxR (w:World) (b o:Nat) (cd:Nat) (tx:ByteArray) (h0:w.cell? ⟨b,o,none⟩=some (.int .u8 (cd:Int))) (h1:w.cell? ⟨b,o+1,none⟩=some (.string tx)):(Instr.loadAt 45 (.pointer (some ⟨b,o,none⟩))).run Tryz.prog w=.ok (.agg #[.int .u8 (cd:Int),.string tx]) w:=by
 simp [go_sem,h0,h1]
theorem run_ltX (w:World) (t:TypeId) (k:IntKind) (x y:Nat) (b:Bool) (hb:b=decide (x<y)):(binOp .lss t (.int k (x:Int)) (.int k (y:Int))).run Tryz.prog w=.ok (.bool b) w:=by
 subst hb
 by_cases h:x<y
 ·have h1:(x:Int)<y:=by omega
  simp [go_sem,h,h1]
 ·have h1:¬(x:Int)<y:=by omega
  simp [go_sem,h,h1]
theorem run_gtX (w:World) (t:TypeId) (k:IntKind) (x y:Nat) (b:Bool) (hb:b=decide (y<x)):(binOp .gtr t (.int k (x:Int)) (.int k (y:Int))).run Tryz.prog w=.ok (.bool b) w:=by
 subst hb
 by_cases h:y<x
 ·have h1:(y:Int)<x:=by omega
  simp [go_sem,h,h1]
 ·have h1:¬(y:Int)<x:=by omega
  simp [go_sem,h,h1]
theorem run_eqX (w:World) (t:TypeId) (k:IntKind) (x y:Nat) (b:Bool) (hb:b=decide (x=y)):(binOp .eql t (.int k (x:Int)) (.int k (y:Int))).run Tryz.prog w=.ok (.bool b) w:=by
 subst hb
 by_cases h:x=y
 ·subst h;simp [go_sem]
 ·have h1:¬(x:Int)=y:=by omega
  simp [go_sem,h,h1]
def AppC (w:World) (r:Nat) (A0:Option Addr) (n0 c0:Nat) (A1:Option Addr) (n1 c1 n:Nat):Prop:=w.heap[r]?=some (.cells #[.slice A0 n0 c0,.slice A1 n1 c1,.int .u64 (n:Int)] 32 (0,0))
theorem AppC.lt {w:World} {r n0 c0 n1 c1 n:Nat} {A0 A1:Option Addr} (h:AppC w r A0 n0 c0 A1 n1 c1 n):r<w.heap.size:=(geS.1 h).1
theorem run_lxA (w:World) (r n0 c0 n1 c1 n:Nat) (A0 A1:Option Addr) (h:AppC w r A0 n0 c0 A1 n1 c1 n):(Instr.loadAt 32 (.pointer (some ⟨r,0,none⟩))).run Tryz.prog w=.ok (.agg #[.slice A0 n0 c0,.slice A1 n1 c1,.int .u64 (n:Int)]) w:=by
 have k0:w.cell? ⟨r,0,none⟩=some (.slice A0 n0 c0):=by rw [blk_cell h 0];rfl
 have k1:w.cell? ⟨r,1,none⟩=some (.slice A1 n1 c1):=by rw [blk_cell h 1];rfl
 have k2:w.cell? ⟨r,2,none⟩=some (.int .u64 (n:Int)):=by rw [blk_cell h 2];rfl
 simp [go_sem,k0,k1,k2]
def setA (w:World) (r:Nat) (A0:Option Addr) (n0 c0:Nat) (A1:Option Addr) (n1 c1 n:Nat):World:=((w.setCell ⟨r,0,none⟩ (.slice A0 n0 c0)).setCell ⟨r,1,none⟩ (.slice A1 n1 c1)).setCell ⟨r,2,none⟩ (.int .u64 (n:Int))
def setR (w:World) (r cd:Nat) (tx:ByteArray):World:=(w.setCell ⟨r,0,none⟩ (.int .u8 (cd:Int))).setCell ⟨r,1,none⟩ (.string tx)
def RepX (w:World) (r cd:Nat) (tx:ByteArray):Prop:=w.heap[r]?=some (.cells #[.int .u8 (cd:Int),.string tx] 45 (0,0))
section
variable {w:World} {r n0 c0 n1 c1 n m0 d0 m1 d1 m:Nat} {A0 A1 B0 B1:Option Addr}
theorem AppC.set (h:AppC w r A0 n0 c0 A1 n1 c1 n):AppC (setA w r B0 m0 d0 B1 m1 d1 m) r B0 m0 d0 B1 m1 d1 m:=blk_set (blk_set (blk_set h 0 _) 1 _) 2 _
theorem RepX.set {cd ce:Nat} {tx ty:ByteArray} (h:RepX w r cd tx):RepX (setR w r ce ty) r ce ty:=blk_set (blk_set h 0 _) 1 _
theorem setA_heap (w:World) (r:Nat) {k:Nat} (hk:k≠r):(setA w r B0 m0 d0 B1 m1 d1 m).heap[k]?=w.heap[k]?:=(Below.heap_setCell _ _ _ _ hk).trans ((Below.heap_setCell _ _ _ _ hk).trans (Below.heap_setCell _ _ _ _ hk))
theorem setR_heap (w:World) (r:Nat) {k cd:Nat} {tx:ByteArray} (hk:k≠r):(setR w r cd tx).heap[k]?=w.heap[k]?:=(Below.heap_setCell _ _ _ _ hk).trans (Below.heap_setCell _ _ _ _ hk)
theorem setA_only {F:Nat->Prop} {a w:World} (h:Only F a w) {r:Nat} (hr:F r\/a.heap.size<=r):Only F a (setA w r B0 m0 d0 B1 m1 d1 m):=((h.setCell (p:=⟨r,0,none⟩) hr _).setCell (p:=⟨r,1,none⟩) hr _).setCell (p:=⟨r,2,none⟩) hr _
theorem setR_only {F:Nat->Prop} {a w:World} (h:Only F a w) {r cd:Nat} {tx:ByteArray} (hr:F r\/a.heap.size<=r):Only F a (setR w r cd tx):=(h.setCell (p:=⟨r,0,none⟩) hr _).setCell (p:=⟨r,1,none⟩) hr _
theorem run_sxA (h:AppC w r A0 n0 c0 A1 n1 c1 n):(Instr.storeAt 32 (.pointer (some ⟨r,0,none⟩)) (.agg #[.slice B0 m0 d0,.slice B1 m1 d1,.int .u64 (m:Int)])).run Tryz.prog w=.ok () (setA w r B0 m0 d0 B1 m1 d1 m):=by
 have k0:w.cell? ⟨r,0,none⟩=some (.slice A0 n0 c0):=by rw [blk_cell h 0];rfl
 have k1:w.cell? ⟨r,1,none⟩=some (.slice A1 n1 c1):=by rw [blk_cell h 1];rfl
 have k2:w.cell? ⟨r,2,none⟩=some (.int .u64 (n:Int)):=by rw [blk_cell h 2];rfl
 have z0:=blk_frozen h 0;have z1:=blk_frozen h 1;have z2:=blk_frozen h 2;simp [go_sem,k0,k1,k2,z0,z1,z2,setA]
theorem run_sxR {cd ce:Nat} {tx ty:ByteArray} (h:RepX w r cd tx):(Instr.storeAt 45 (.pointer (some ⟨r,0,none⟩)) (.agg #[.int .u8 (ce:Int),.string ty])).run Tryz.prog w=.ok () (setR w r ce ty):=by
 have k0:w.cell? ⟨r,0,none⟩=some (.int .u8 (cd:Int)):=by rw [blk_cell h 0];rfl
 have k1:w.cell? ⟨r,1,none⟩=some (.string tx):=by rw [blk_cell h 1];rfl
 have z0:=blk_frozen h 0;have z1:=blk_frozen h 1;simp [go_sem,k0,k1,z0,z1,setR]
end
theorem run_bxA (w:World) (n0 c0 n1 c1 n:Nat) (A0 A1:Option Addr):(Instr.build 32 #[(0,.slice A0 n0 c0),(1,.slice A1 n1 c1),(2,.int .u64 (n:Int))]).run Tryz.prog w=.ok (.agg #[.slice A0 n0 c0,.slice A1 n1 c1,.int .u64 (n:Int)]) w:=by
 simp [go_sem,Instr.build]
theorem run_adX (w:World) (x y:Nat) (h:IntKind.u64.wrap ((x:Int)+1)=(y:Int)):(binOp .add 30 (.int .u64 (x:Int)) (.int .u64 1)).run Tryz.prog w=.ok (.int .u64 (y:Int)) w:=by
 simp [go_sem,h]
noncomputable def opsR4A:List Oper:=opsOf Tryz.f23 4
theorem rx4 (pb qb eb eo nl lc k ce cc:Nat) (b:Bool) (hk:k<nl) (hbb:b=decide (ce<cc)) (a:Act) (w:World) (Q:Exit->Act->World->Prop) (hN:a.tmps.size=120) (h2:a.tmps.getD 2 undef=.pointer (some ⟨pb,0,none⟩)) (h3:a.tmps.getD 3 undef=.pointer (some ⟨qb,0,none⟩)) (h7:a.tmps.getD 7 undef=.int .i64 (k:Int)) (c1:w.cell? ⟨pb,1,none⟩=some (.slice (some ⟨eb,eo,none⟩) nl lc)) (ce0:w.cell? ⟨eb,eo+k*4+0,none⟩=some (.int .u32 (ce:Int))) (cq0:w.cell? ⟨qb,0,none⟩=some (.int .u32 (cc:Int))) (hQ:∀(w':World),Grew w w'->Q .normal (puts [(17,.int .i64 (k:Int)),(18,.pointer (some ⟨pb,1,none⟩)),(19,.slice (some ⟨eb,eo,none⟩) nl lc),(20,.int .i64 (nl:Int)),(21,.bool true),(22,.bool true),(23,.pointer (some ⟨pb,1,none⟩)),(24,.slice (some ⟨eb,eo,none⟩) nl lc),(25,.int .i64 (k:Int)),(26,.pointer (some ⟨eb,eo+k*4,none⟩)),(27,.pointer (some ⟨eb,eo+k*4+0,none⟩)),(28,.int .u32 (ce:Int)),(29,.pointer (some ⟨qb,0,none⟩)),(30,.int .u32 (cc:Int)),(31,.bool b),(32,.bool b)] a) w')
 :(Code.region 4 opsR4A.toArray true).wp Tryz.prog Q a w:=by
 refine region_v 120 opsR4A [(2,.pointer (some ⟨pb,0,none⟩)),(3,.pointer (some ⟨qb,0,none⟩)),(7,.int .i64 (k:Int))] [] [.eq (.int .i64 (k:Int)),.eq (.pointer (some ⟨pb,1,none⟩)),.eq (.slice (some ⟨eb,eo,none⟩) nl lc),.eq (.int .i64 (nl:Int)),.eq (.bool true),.eq (.bool true),.eq (.pointer (some ⟨pb,1,none⟩)),.eq (.slice (some ⟨eb,eo,none⟩) nl lc),.eq (.int .i64 (k:Int)),.eq (.pointer (some ⟨eb,eo+k*4,none⟩)),.eq (.pointer (some ⟨eb,eo+k*4+0,none⟩)),.eq (.int .u32 (ce:Int)),.eq (.pointer (some ⟨qb,0,none⟩)),.eq (.int .u32 (cc:Int)),.eq (.bool b),.eq (.bool b)] Grew Grew.refl Grew.trans follows (by kernel_rfl) (by kernel_rfl) hN ⟨h2,h3,h7,trivial⟩ rfl trivial ?_ ?_ ?_
 ·intro _ w' hR _;exact ⟨fun _=>rfl,fun _=>ob_fld (run_fxA _ _ _ (.inr (.inl rfl))),fun _=>ob_load (run_lxS _ _ (.inl rfl) _ _ ((Below.cell hR.undraw (p:=⟨pb,1,none⟩) (World.block_lt_of_cell? w _ c1)).trans c1)),fun _=>ob_len Tryz.underlying29 rfl,fun _=>ob_bin (guard_int _ _ _ _ _ _ _ _ _) (run_ltX _ _ _ _ _ _ (by simp [hk])),fun _=>rfl,fun _=>ob_fld (run_fxA _ _ _ (.inr (.inl rfl))),fun _=>ob_load (run_lxS _ _ (.inl rfl) _ _ ((Below.cell hR.undraw (p:=⟨pb,1,none⟩) (World.block_lt_of_cell? w _ c1)).trans c1)),fun _=>rfl,fun _=>ob_idx (run_ixL _ _ _ _ _ _ hk),fun _=>ob_fld (run_fxL _ _ _ _ (.inl rfl)),fun _=>ob_load (run_lxS _ _ (.inr (.inr (.inl rfl))) _ _ ((Below.cell hR.undraw (p:=⟨eb,eo+k*4+0,none⟩) (World.block_lt_of_cell? w _ ce0)).trans ce0)),fun _=>ob_fld (run_fxC _ _ _ (.inl rfl)),fun _=>ob_load (run_lxS _ _ (.inr (.inr (.inl rfl))) _ _ ((Below.cell hR.undraw (p:=⟨qb,0,none⟩) (World.block_lt_of_cell? w _ cq0)).trans cq0)),fun _=>ob_bin (guard_int _ _ _ _ _ _ _ _ _) (run_ltX _ _ _ _ _ _ hbb),fun _=>ob_pick rfl rfl,trivial⟩
 ·exact trivial
 ·intro _ w' hR _;exact hQ w' hR.undraw
noncomputable def opsR4N:List Oper:=opsOf Tryz.f23 4
theorem rx4n (pb qb nl lc k:Nat) (E:Option Addr) (hk:nl<=k) (a:Act) (w:World) (Q:Exit->Act->World->Prop) (hN:a.tmps.size=120) (h2:a.tmps.getD 2 undef=.pointer (some ⟨pb,0,none⟩)) (h3:a.tmps.getD 3 undef=.pointer (some ⟨qb,0,none⟩)) (h7:a.tmps.getD 7 undef=.int .i64 (k:Int)) (c1:w.cell? ⟨pb,1,none⟩=some (.slice E nl lc)) (hQ:∀(w':World),Grew w w'->Q .normal (puts [(17,.int .i64 (k:Int)),(18,.pointer (some ⟨pb,1,none⟩)),(19,.slice E nl lc),(20,.int .i64 (nl:Int)),(21,.bool false),(22,.bool false),(23,undef),(24,undef),(25,undef),(26,undef),(27,undef),(28,undef),(29,undef),(30,undef),(31,undef),(32,.bool false)] a) w')
 :(Code.region 4 opsR4N.toArray true).wp Tryz.prog Q a w:=by
 refine region_v 120 opsR4N [(2,.pointer (some ⟨pb,0,none⟩)),(3,.pointer (some ⟨qb,0,none⟩)),(7,.int .i64 (k:Int))] [] [.eq (.int .i64 (k:Int)),.eq (.pointer (some ⟨pb,1,none⟩)),.eq (.slice E nl lc),.eq (.int .i64 (nl:Int)),.eq (.bool false),.eq (.bool false),.eq (undef),.eq (undef),.eq (undef),.eq (undef),.eq (undef),.eq (undef),.eq (undef),.eq (undef),.eq (undef),.eq (.bool false)] Grew Grew.refl Grew.trans follows (by kernel_rfl) (by kernel_rfl) hN ⟨h2,h3,h7,trivial⟩ rfl trivial ?_ ?_ ?_
 ·intro _ w' hR _;exact ⟨fun _=>rfl,fun _=>ob_fld (run_fxA _ _ _ (.inr (.inl rfl))),fun _=>ob_load (run_lxS _ _ (.inl rfl) _ _ ((Below.cell hR.undraw (p:=⟨pb,1,none⟩) (World.block_lt_of_cell? w _ c1)).trans c1)),fun _=>ob_len Tryz.underlying29 rfl,fun _=>ob_bin (guard_int _ _ _ _ _ _ _ _ _) (run_ltX _ _ _ _ _ _ (by simp;omega)),fun _=>rfl,fun _=>rfl,fun _=>rfl,fun _=>rfl,fun _=>rfl,fun _=>rfl,fun _=>rfl,fun _=>rfl,fun _=>rfl,fun _=>rfl,fun _=>ob_pick rfl rfl,trivial⟩
 ·exact trivial
 ·intro _ w' hR _;exact hQ w' hR.undraw
noncomputable def opsR6A:List Oper:=opsOf Tryz.f23 6
theorem rx6 (pb qb eb eo nl lc k ce cc:Nat) (b:Bool) (hk:k<nl) (hbb:b=decide (ce=cc)) (a:Act) (w:World) (Q:Exit->Act->World->Prop) (hN:a.tmps.size=120) (h2:a.tmps.getD 2 undef=.pointer (some ⟨pb,0,none⟩)) (h3:a.tmps.getD 3 undef=.pointer (some ⟨qb,0,none⟩)) (h7:a.tmps.getD 7 undef=.int .i64 (k:Int)) (c1:w.cell? ⟨pb,1,none⟩=some (.slice (some ⟨eb,eo,none⟩) nl lc)) (ce0:w.cell? ⟨eb,eo+k*4+0,none⟩=some (.int .u32 (ce:Int))) (cq0:w.cell? ⟨qb,0,none⟩=some (.int .u32 (cc:Int))) (hQ:∀(w':World),Grew w w'->Q .normal (puts [(35,.int .i64 (k:Int)),(36,.pointer (some ⟨pb,1,none⟩)),(37,.slice (some ⟨eb,eo,none⟩) nl lc),(38,.int .i64 (nl:Int)),(39,.bool true),(40,.bool true),(41,.pointer (some ⟨pb,1,none⟩)),(42,.slice (some ⟨eb,eo,none⟩) nl lc),(43,.int .i64 (k:Int)),(44,.pointer (some ⟨eb,eo+k*4,none⟩)),(45,.pointer (some ⟨eb,eo+k*4+0,none⟩)),(46,.int .u32 (ce:Int)),(47,.pointer (some ⟨qb,0,none⟩)),(48,.int .u32 (cc:Int)),(49,.bool b),(50,.bool b),(8,.bool b)] a) w')
 :(Code.region 6 opsR6A.toArray true).wp Tryz.prog Q a w:=by
 refine region_v 120 opsR6A [(2,.pointer (some ⟨pb,0,none⟩)),(3,.pointer (some ⟨qb,0,none⟩)),(7,.int .i64 (k:Int))] [] [.eq (.int .i64 (k:Int)),.eq (.pointer (some ⟨pb,1,none⟩)),.eq (.slice (some ⟨eb,eo,none⟩) nl lc),.eq (.int .i64 (nl:Int)),.eq (.bool true),.eq (.bool true),.eq (.pointer (some ⟨pb,1,none⟩)),.eq (.slice (some ⟨eb,eo,none⟩) nl lc),.eq (.int .i64 (k:Int)),.eq (.pointer (some ⟨eb,eo+k*4,none⟩)),.eq (.pointer (some ⟨eb,eo+k*4+0,none⟩)),.eq (.int .u32 (ce:Int)),.eq (.pointer (some ⟨qb,0,none⟩)),.eq (.int .u32 (cc:Int)),.eq (.bool b),.eq (.bool b),.eq (.bool b)] Grew Grew.refl Grew.trans follows (by kernel_rfl) (by kernel_rfl) hN ⟨h2,h3,h7,trivial⟩ rfl trivial ?_ ?_ ?_
 ·intro _ w' hR _;exact ⟨fun _=>rfl,fun _=>ob_fld (run_fxA _ _ _ (.inr (.inl rfl))),fun _=>ob_load (run_lxS _ _ (.inl rfl) _ _ ((Below.cell hR.undraw (p:=⟨pb,1,none⟩) (World.block_lt_of_cell? w _ c1)).trans c1)),fun _=>ob_len Tryz.underlying29 rfl,fun _=>ob_bin (guard_int _ _ _ _ _ _ _ _ _) (run_ltX _ _ _ _ _ _ (by simp [hk])),fun _=>rfl,fun _=>ob_fld (run_fxA _ _ _ (.inr (.inl rfl))),fun _=>ob_load (run_lxS _ _ (.inl rfl) _ _ ((Below.cell hR.undraw (p:=⟨pb,1,none⟩) (World.block_lt_of_cell? w _ c1)).trans c1)),fun _=>rfl,fun _=>ob_idx (run_ixL _ _ _ _ _ _ hk),fun _=>ob_fld (run_fxL _ _ _ _ (.inl rfl)),fun _=>ob_load (run_lxS _ _ (.inr (.inr (.inl rfl))) _ _ ((Below.cell hR.undraw (p:=⟨eb,eo+k*4+0,none⟩) (World.block_lt_of_cell? w _ ce0)).trans ce0)),fun _=>ob_fld (run_fxC _ _ _ (.inl rfl)),fun _=>ob_load (run_lxS _ _ (.inr (.inr (.inl rfl))) _ _ ((Below.cell hR.undraw (p:=⟨qb,0,none⟩) (World.block_lt_of_cell? w _ cq0)).trans cq0)),fun _=>ob_bin (guard_int _ _ _ _ _ _ _ _ _) (run_eqX _ _ _ _ _ _ hbb),fun _=>ob_pick rfl rfl,fun _=>rfl,trivial⟩
 ·exact trivial
 ·intro _ w' hR _;exact hQ w' hR.undraw
noncomputable def opsR6N:List Oper:=opsOf Tryz.f23 6
theorem rx6n (pb qb nl lc k:Nat) (E:Option Addr) (hk:nl<=k) (a:Act) (w:World) (Q:Exit->Act->World->Prop) (hN:a.tmps.size=120) (h2:a.tmps.getD 2 undef=.pointer (some ⟨pb,0,none⟩)) (h3:a.tmps.getD 3 undef=.pointer (some ⟨qb,0,none⟩)) (h7:a.tmps.getD 7 undef=.int .i64 (k:Int)) (c1:w.cell? ⟨pb,1,none⟩=some (.slice E nl lc)) (hQ:∀(w':World),Grew w w'->Q .normal (puts [(35,.int .i64 (k:Int)),(36,.pointer (some ⟨pb,1,none⟩)),(37,.slice E nl lc),(38,.int .i64 (nl:Int)),(39,.bool false),(40,.bool false),(41,undef),(42,undef),(43,undef),(44,undef),(45,undef),(46,undef),(47,undef),(48,undef),(49,undef),(50,.bool false),(8,.bool false)] a) w')
 :(Code.region 6 opsR6N.toArray true).wp Tryz.prog Q a w:=by
 refine region_v 120 opsR6N [(2,.pointer (some ⟨pb,0,none⟩)),(3,.pointer (some ⟨qb,0,none⟩)),(7,.int .i64 (k:Int))] [] [.eq (.int .i64 (k:Int)),.eq (.pointer (some ⟨pb,1,none⟩)),.eq (.slice E nl lc),.eq (.int .i64 (nl:Int)),.eq (.bool false),.eq (.bool false),.eq (undef),.eq (undef),.eq (undef),.eq (undef),.eq (undef),.eq (undef),.eq (undef),.eq (undef),.eq (undef),.eq (.bool false),.eq (.bool false)] Grew Grew.refl Grew.trans follows (by kernel_rfl) (by kernel_rfl) hN ⟨h2,h3,h7,trivial⟩ rfl trivial ?_ ?_ ?_
 ·intro _ w' hR _;exact ⟨fun _=>rfl,fun _=>ob_fld (run_fxA _ _ _ (.inr (.inl rfl))),fun _=>ob_load (run_lxS _ _ (.inl rfl) _ _ ((Below.cell hR.undraw (p:=⟨pb,1,none⟩) (World.block_lt_of_cell? w _ c1)).trans c1)),fun _=>ob_len Tryz.underlying29 rfl,fun _=>ob_bin (guard_int _ _ _ _ _ _ _ _ _) (run_ltX _ _ _ _ _ _ (by simp;omega)),fun _=>rfl,fun _=>rfl,fun _=>rfl,fun _=>rfl,fun _=>rfl,fun _=>rfl,fun _=>rfl,fun _=>rfl,fun _=>rfl,fun _=>rfl,fun _=>ob_pick rfl rfl,fun _=>rfl,trivial⟩
 ·exact trivial
 ·intro _ w' hR _;exact hQ w' hR.undraw
noncomputable def opsR7A:List Oper:=opsOf Tryz.f23 7
theorem rx7 (pb qb eb eo nl lc k se sc:Nat) (b:Bool) (hk:k<nl) (hbb:b=decide (se=sc)) (a:Act) (w:World) (Q:Exit->Act->World->Prop) (hN:a.tmps.size=120) (h2:a.tmps.getD 2 undef=.pointer (some ⟨pb,0,none⟩)) (h3:a.tmps.getD 3 undef=.pointer (some ⟨qb,0,none⟩)) (h7:a.tmps.getD 7 undef=.int .i64 (k:Int)) (h8:a.tmps.getD 8 undef=.bool true) (c1:w.cell? ⟨pb,1,none⟩=some (.slice (some ⟨eb,eo,none⟩) nl lc)) (ce1:w.cell? ⟨eb,eo+k*4+1,none⟩=some (.int .u32 (se:Int))) (cq1:w.cell? ⟨qb,1,none⟩=some (.int .u32 (sc:Int))) (hQ:∀(w':World),Grew w w'->Q .normal (puts [(51,.bool true),(52,.bool true),(53,.pointer (some ⟨pb,1,none⟩)),(54,.slice (some ⟨eb,eo,none⟩) nl lc),(55,.int .i64 (k:Int)),(56,.pointer (some ⟨eb,eo+k*4,none⟩)),(57,.pointer (some ⟨eb,eo+k*4+1,none⟩)),(58,.int .u32 (se:Int)),(59,.pointer (some ⟨qb,1,none⟩)),(60,.int .u32 (sc:Int)),(61,.bool b),(62,.bool b)] a) w')
 :(Code.region 7 opsR7A.toArray true).wp Tryz.prog Q a w:=by
 refine region_v 120 opsR7A [(2,.pointer (some ⟨pb,0,none⟩)),(3,.pointer (some ⟨qb,0,none⟩)),(7,.int .i64 (k:Int)),(8,.bool true)] [] [.eq (.bool true),.eq (.bool true),.eq (.pointer (some ⟨pb,1,none⟩)),.eq (.slice (some ⟨eb,eo,none⟩) nl lc),.eq (.int .i64 (k:Int)),.eq (.pointer (some ⟨eb,eo+k*4,none⟩)),.eq (.pointer (some ⟨eb,eo+k*4+1,none⟩)),.eq (.int .u32 (se:Int)),.eq (.pointer (some ⟨qb,1,none⟩)),.eq (.int .u32 (sc:Int)),.eq (.bool b),.eq (.bool b)] Grew Grew.refl Grew.trans follows (by kernel_rfl) (by kernel_rfl) hN ⟨h2,h3,h7,h8,trivial⟩ rfl trivial ?_ ?_ ?_
 ·intro _ w' hR _;exact ⟨fun _=>rfl,fun _=>rfl,fun _=>ob_fld (run_fxA _ _ _ (.inr (.inl rfl))),fun _=>ob_load (run_lxS _ _ (.inl rfl) _ _ ((Below.cell hR.undraw (p:=⟨pb,1,none⟩) (World.block_lt_of_cell? w _ c1)).trans c1)),fun _=>rfl,fun _=>ob_idx (run_ixL _ _ _ _ _ _ hk),fun _=>ob_fld (run_fxL _ _ _ _ (.inr (.inl rfl))),fun _=>ob_load (run_lxS _ _ (.inr (.inr (.inl rfl))) _ _ ((Below.cell hR.undraw (p:=⟨eb,eo+k*4+1,none⟩) (World.block_lt_of_cell? w _ ce1)).trans ce1)),fun _=>ob_fld (run_fxC _ _ _ (.inr rfl)),fun _=>ob_load (run_lxS _ _ (.inr (.inr (.inl rfl))) _ _ ((Below.cell hR.undraw (p:=⟨qb,1,none⟩) (World.block_lt_of_cell? w _ cq1)).trans cq1)),fun _=>ob_bin (guard_int _ _ _ _ _ _ _ _ _) (run_eqX _ _ _ _ _ _ hbb),fun _=>ob_pick rfl rfl,trivial⟩
 ·exact trivial
 ·intro _ w' hR _;exact hQ w' hR.undraw
noncomputable def opsR7N:List Oper:=opsOf Tryz.f23 7
theorem rx7n (pb qb k:Nat) (a:Act) (w:World) (Q:Exit->Act->World->Prop) (hN:a.tmps.size=120) (h2:a.tmps.getD 2 undef=.pointer (some ⟨pb,0,none⟩)) (h3:a.tmps.getD 3 undef=.pointer (some ⟨qb,0,none⟩)) (h7:a.tmps.getD 7 undef=.int .i64 (k:Int)) (h8:a.tmps.getD 8 undef=.bool false) (hQ:∀(w':World),Grew w w'->Q .normal (puts [(51,.bool false),(52,.bool false),(53,undef),(54,undef),(55,undef),(56,undef),(57,undef),(58,undef),(59,undef),(60,undef),(61,undef),(62,.bool false)] a) w')
 :(Code.region 7 opsR7N.toArray true).wp Tryz.prog Q a w:=by
 refine region_v 120 opsR7N [(2,.pointer (some ⟨pb,0,none⟩)),(3,.pointer (some ⟨qb,0,none⟩)),(7,.int .i64 (k:Int)),(8,.bool false)] [] [.eq (.bool false),.eq (.bool false),.eq (undef),.eq (undef),.eq (undef),.eq (undef),.eq (undef),.eq (undef),.eq (undef),.eq (undef),.eq (undef),.eq (.bool false)] Grew Grew.refl Grew.trans follows (by kernel_rfl) (by kernel_rfl) hN ⟨h2,h3,h7,h8,trivial⟩ rfl trivial ?_ ?_ ?_
 ·intro _ w' _ _;exact ⟨fun _=>rfl,fun _=>rfl,fun _=>rfl,fun _=>rfl,fun _=>rfl,fun _=>rfl,fun _=>rfl,fun _=>rfl,fun _=>rfl,fun _=>rfl,fun _=>rfl,fun _=>ob_pick rfl rfl,trivial⟩
 ·exact trivial
 ·intro _ w' hR _;exact hQ w' hR.undraw
noncomputable def opsR9A:List Oper:=opsOf Tryz.f23 9
theorem rx9 (pb qb eb eo nl lc k se sc:Nat) (b:Bool) (hk:k<nl) (hbb:b=decide (sc<se)) (a:Act) (w:World) (Q:Exit->Act->World->Prop) (hN:a.tmps.size=120) (h2:a.tmps.getD 2 undef=.pointer (some ⟨pb,0,none⟩)) (h3:a.tmps.getD 3 undef=.pointer (some ⟨qb,0,none⟩)) (h7:a.tmps.getD 7 undef=.int .i64 (k:Int)) (h8:a.tmps.getD 8 undef=.bool true) (c1:w.cell? ⟨pb,1,none⟩=some (.slice (some ⟨eb,eo,none⟩) nl lc)) (ce1:w.cell? ⟨eb,eo+k*4+1,none⟩=some (.int .u32 (se:Int))) (cq1:w.cell? ⟨qb,1,none⟩=some (.int .u32 (sc:Int))) (hQ:∀(w':World),Grew w w'->Q .normal (puts [(70,.bool true),(71,.bool true),(72,.pointer (some ⟨pb,1,none⟩)),(73,.slice (some ⟨eb,eo,none⟩) nl lc),(74,.int .i64 (k:Int)),(75,.pointer (some ⟨eb,eo+k*4,none⟩)),(76,.pointer (some ⟨eb,eo+k*4+1,none⟩)),(77,.int .u32 (se:Int)),(78,.pointer (some ⟨qb,1,none⟩)),(79,.int .u32 (sc:Int)),(80,.bool b),(81,.bool b)] a) w')
 :(Code.region 9 opsR9A.toArray true).wp Tryz.prog Q a w:=by
 refine region_v 120 opsR9A [(2,.pointer (some ⟨pb,0,none⟩)),(3,.pointer (some ⟨qb,0,none⟩)),(7,.int .i64 (k:Int)),(8,.bool true)] [] [.eq (.bool true),.eq (.bool true),.eq (.pointer (some ⟨pb,1,none⟩)),.eq (.slice (some ⟨eb,eo,none⟩) nl lc),.eq (.int .i64 (k:Int)),.eq (.pointer (some ⟨eb,eo+k*4,none⟩)),.eq (.pointer (some ⟨eb,eo+k*4+1,none⟩)),.eq (.int .u32 (se:Int)),.eq (.pointer (some ⟨qb,1,none⟩)),.eq (.int .u32 (sc:Int)),.eq (.bool b),.eq (.bool b)] Grew Grew.refl Grew.trans follows (by kernel_rfl) (by kernel_rfl) hN ⟨h2,h3,h7,h8,trivial⟩ rfl trivial ?_ ?_ ?_
 ·intro _ w' hR _;exact ⟨fun _=>rfl,fun _=>rfl,fun _=>ob_fld (run_fxA _ _ _ (.inr (.inl rfl))),fun _=>ob_load (run_lxS _ _ (.inl rfl) _ _ ((Below.cell hR.undraw (p:=⟨pb,1,none⟩) (World.block_lt_of_cell? w _ c1)).trans c1)),fun _=>rfl,fun _=>ob_idx (run_ixL _ _ _ _ _ _ hk),fun _=>ob_fld (run_fxL _ _ _ _ (.inr (.inl rfl))),fun _=>ob_load (run_lxS _ _ (.inr (.inr (.inl rfl))) _ _ ((Below.cell hR.undraw (p:=⟨eb,eo+k*4+1,none⟩) (World.block_lt_of_cell? w _ ce1)).trans ce1)),fun _=>ob_fld (run_fxC _ _ _ (.inr rfl)),fun _=>ob_load (run_lxS _ _ (.inr (.inr (.inl rfl))) _ _ ((Below.cell hR.undraw (p:=⟨qb,1,none⟩) (World.block_lt_of_cell? w _ cq1)).trans cq1)),fun _=>ob_bin (guard_int _ _ _ _ _ _ _ _ _) (run_gtX _ _ _ _ _ _ hbb),fun _=>ob_pick rfl rfl,trivial⟩
 ·exact trivial
 ·intro _ w' hR _;exact hQ w' hR.undraw
noncomputable def opsR9N:List Oper:=opsOf Tryz.f23 9
theorem rx9n (pb qb k:Nat) (a:Act) (w:World) (Q:Exit->Act->World->Prop) (hN:a.tmps.size=120) (h2:a.tmps.getD 2 undef=.pointer (some ⟨pb,0,none⟩)) (h3:a.tmps.getD 3 undef=.pointer (some ⟨qb,0,none⟩)) (h7:a.tmps.getD 7 undef=.int .i64 (k:Int)) (h8:a.tmps.getD 8 undef=.bool false) (hQ:∀(w':World),Grew w w'->Q .normal (puts [(70,.bool false),(71,.bool false),(72,undef),(73,undef),(74,undef),(75,undef),(76,undef),(77,undef),(78,undef),(79,undef),(80,undef),(81,.bool false)] a) w')
 :(Code.region 9 opsR9N.toArray true).wp Tryz.prog Q a w:=by
 refine region_v 120 opsR9N [(2,.pointer (some ⟨pb,0,none⟩)),(3,.pointer (some ⟨qb,0,none⟩)),(7,.int .i64 (k:Int)),(8,.bool false)] [] [.eq (.bool false),.eq (.bool false),.eq (undef),.eq (undef),.eq (undef),.eq (undef),.eq (undef),.eq (undef),.eq (undef),.eq (undef),.eq (undef),.eq (.bool false)] Grew Grew.refl Grew.trans follows (by kernel_rfl) (by kernel_rfl) hN ⟨h2,h3,h7,h8,trivial⟩ rfl trivial ?_ ?_ ?_
 ·intro _ w' _ _;exact ⟨fun _=>rfl,fun _=>rfl,fun _=>rfl,fun _=>rfl,fun _=>rfl,fun _=>rfl,fun _=>rfl,fun _=>rfl,fun _=>rfl,fun _=>rfl,fun _=>rfl,fun _=>ob_pick rfl rfl,trivial⟩
 ·exact trivial
 ·intro _ w' hR _;exact hQ w' hR.undraw
noncomputable def opsR8:List Oper:=opsOf Tryz.f23 8
def wsR8 (_pb r4 r5 n0 c0 eb eo nl lc n _k cd:Nat) (A0:Option Addr) (tx:ByteArray) (W0:World) (L:Nat->Bool) (_u:Value) (w:World):Prop:=(∀b,b≠r4->b≠r5->w.heap[b]?=W0.heap[b]?)/\(∃a0 m0 d0 a1 m1 d1 m,AppC w r4 a0 m0 d0 a1 m1 d1 m)/\(∃c t,RepX w r5 c t)/\(L 7=true->AppC w r4 A0 n0 c0 (some ⟨eb,eo,none⟩) nl lc n)/\(L 8=true->RepX w r5 cd tx)/\Only (fun b=>b=r4\/b=r5) W0 w
theorem wsR8_same (pb r4 r5 n0 c0 eb eo nl lc n k cd:Nat) (A0:Option Addr) (tx:ByteArray) {W0:World} {L:Nat->Bool} {i:Nat} {u:Value} {w:World} (k7:((7:Nat)==i)=false) (k8:((8:Nat)==i)=false) (h:wsR8 pb r4 r5 n0 c0 eb eo nl lc n k cd A0 tx W0 L u w):wsR8 pb r4 r5 n0 c0 eb eo nl lc n k cd A0 tx W0 (fun j=>L j||j==i) u w:=by
 unfold wsR8 at h ⊢;simp only [beq_noF k7,beq_noF k8];exact h
theorem rx8 (pb r4 r5 n0 c0 eb eo nl lc n k cd:Nat) (A0:Option Addr) (tx:ByteArray) (a:Act) (w:World) (Q:Exit->Act->World->Prop) (hN:a.tmps.size=120) (h2:a.tmps.getD 2 undef=.pointer (some ⟨pb,0,none⟩)) (h4:a.tmps.getD 4 undef=.pointer (some ⟨r4,0,none⟩)) (h5:a.tmps.getD 5 undef=.pointer (some ⟨r5,0,none⟩)) (h7:a.tmps.getD 7 undef=.int .i64 (k:Int)) (hk:k<nl) (hp:AppC w pb A0 n0 c0 (some ⟨eb,eo,none⟩) nl lc n) (hp4:pb≠r4) (hp5:pb≠r5) (he4:eb≠r4) (he5:eb≠r5) (h45:r4≠r5) (ce2:w.cell? ⟨eb,eo+k*4+2,none⟩=some (.int .u8 (cd:Int))) (ce3:w.cell? ⟨eb,eo+k*4+2+1,none⟩=some (.string tx)) (hW0:wsR8 pb r4 r5 n0 c0 eb eo nl lc n k cd A0 tx w.drew (fun _=>false) undef w.drew) (hQ:∀(u:Value) w',wsR8 pb r4 r5 n0 c0 eb eo nl lc n k cd A0 tx w.drew (fun _=>true) u w'->Q .normal (puts [(63,.agg #[.slice A0 n0 c0,.slice (some ⟨eb,eo,none⟩) nl lc,.int .u64 (n:Int)]),(64,.pointer (some ⟨pb,1,none⟩)),(65,.slice (some ⟨eb,eo,none⟩) nl lc),(66,.int .i64 (k:Int)),(67,.pointer (some ⟨eb,eo+k*4,none⟩)),(68,.pointer (some ⟨eb,eo+k*4+2,none⟩)),(69,.agg #[.int .u8 (cd:Int),.string tx]),(6,(Value.bool false))] a) w')
 :(Code.region 8 opsR8.toArray true).wp Tryz.prog Q a w:=by
 refine region_c (U:=Value) 120 opsR8 [(2,.pointer (some ⟨pb,0,none⟩)),(4,.pointer (some ⟨r4,0,none⟩)),(5,.pointer (some ⟨r5,0,none⟩)),(7,.int .i64 (k:Int))] [7,8] (fun _=>[.agg #[.slice A0 n0 c0,.slice (some ⟨eb,eo,none⟩) nl lc,.int .u64 (n:Int)],.pointer (some ⟨pb,1,none⟩),.slice (some ⟨eb,eo,none⟩) nl lc,.int .i64 (k:Int),.pointer (some ⟨eb,eo+k*4,none⟩),.pointer (some ⟨eb,eo+k*4+2,none⟩),.agg #[.int .u8 (cd:Int),.string tx],undef,undef,(Value.bool false)]) (wsR8 pb r4 r5 n0 c0 eb eo nl lc n k cd A0 tx w.drew) undef follows (by kernel_rfl) hN ⟨h2,h4,h5,h7,trivial⟩ (fun _=>nBl rfl) hW0 (fun _ _ _ _ hi h=>wsR8_same _ _ _ _ _ _ _ _ _ _ _ _ _ _ (key_ne hi rfl) (key_ne hi rfl) h) ?_ ?_ ?_
 ·intro L u w' hW _;exact ⟨fun _=>ob_load (run_lxA _ _ _ _ _ _ _ _ _ ((hW.1 pb hp4 hp5).trans hp)),fun _=>ob_fld (run_fxA _ _ _ (.inr (.inl rfl))),fun _=>ob_load (run_lxS _ _ (.inl rfl) _ _ (by rw [blk_cell ((hW.1 pb hp4 hp5).trans hp) 1];rfl)),fun _=>rfl,fun _=>ob_idx (run_ixL _ _ _ _ _ _ hk),fun _=>ob_fld (run_fxL _ _ _ _ (.inr (.inr rfl))),fun _=>ob_load (run_lxR _ _ _ _ _ ((World.cell?_of_block (a:=⟨eb,eo+k*4+2,none⟩) (hW.1 eb he4 he5)).trans ce2) ((World.cell?_of_block (a:=⟨eb,eo+k*4+2+1,none⟩) (hW.1 eb he4 he5)).trans ce3)),trivial,trivial,fun _=>rfl,trivial⟩
 ·refine ⟨?_,?_,trivial⟩
  ·rintro o ho L u a' w' hLi hpre hcl hR hW fin;have hio:=(nthO_eq _ _).symm.trans ho
   cases ho
   have hF:=hR.frm;have q0:a'.tmps.getD 63 undef=.agg #[.slice A0 n0 c0,.slice (some ⟨eb,eo,none⟩) nl lc,.int .u64 (n:Int)]:=hR.val 0 _ 63 rfl rfl (edge_ofF hpre 0 rfl);obtain ⟨w1,⟨a0,m0,d0,a1,m1,d1,m,w2⟩,w3,w4,w5,w6⟩:=hW;have hx1:a'.eval (.tmp 4)=.pointer (some ⟨r4,0,none⟩):=(hF.at 4 rfl h4);have hx2:a'.eval (.tmp 63)=.agg #[.slice A0 n0 c0,.slice (some ⟨eb,eo,none⟩) nl lc,.int .u64 (n:Int)]:=q0;have hst:=run_sxA (B0:=A0) (m0:=n0) (d0:=c0) (B1:=some ⟨eb,eo,none⟩) (m1:=nl) (d1:=lc) (m:=n) w2
   refine step_skip hio rfl (by intro c h;cases h) (by simp [Oper.about]) (w':=setA w' r4 A0 n0 c0 (some ⟨eb,eo,none⟩) nl lc n) (by
    unfold execOp;simp only [hx1,hx2,Sem.run_bind,hst,Result.andThen_ok]
    rfl) ?_
   have hW2:wsR8 pb r4 r5 n0 c0 eb eo nl lc n k cd A0 tx w.drew (fun j=>L j||j==7) u (setA w' r4 A0 n0 c0 (some ⟨eb,eo,none⟩) nl lc n):=by
    refine ⟨fun b h1 h2=>(setA_heap _ _ h1).trans (w1 b h1 h2),⟨_,_,_,_,_,_,_,w2.set⟩,?_,fun _=>w2.set,fun h=>?_,setA_only w6 (.inl (.inl rfl))⟩
    ·obtain ⟨c,t,h⟩:=w3;exact ⟨c,t,(setA_heap _ _ (Ne.symm h45)).trans h⟩
    ·exact (setA_heap _ _ (Ne.symm h45)).trans (w5 (by simpa using h))
   exact (fin (u) _ _ (fun h=>(by cases h)) (fun _ _=>rfl) (hW2))
  ·rintro o ho L u a' w' hLi hpre hcl hR hW fin;have hio:=(nthO_eq _ _).symm.trans ho
   cases ho
   have hF:=hR.frm;have q6:a'.tmps.getD 69 undef=.agg #[.int .u8 (cd:Int),.string tx]:=hR.val 6 _ 69 rfl rfl (edge_ofF hpre 6 rfl);obtain ⟨w1,w2,⟨c,t,w3⟩,w4,w5,w6⟩:=hW;have hx1:a'.eval (.tmp 5)=.pointer (some ⟨r5,0,none⟩):=(hF.at 5 rfl h5);have hx2:a'.eval (.tmp 69)=.agg #[.int .u8 (cd:Int),.string tx]:=q6;have hst:=run_sxR (ce:=cd) (ty:=tx) w3
   refine step_skip hio rfl (by intro c h;cases h) (by simp [Oper.about]) (w':=setR w' r5 cd tx) (by
    unfold execOp;simp only [hx1,hx2,Sem.run_bind,hst,Result.andThen_ok]
    rfl) ?_
   have hW2:wsR8 pb r4 r5 n0 c0 eb eo nl lc n k cd A0 tx w.drew (fun j=>L j||j==8) u (setR w' r5 cd tx):=by
    refine ⟨fun b h1 h2=>(setR_heap _ _ h2).trans (w1 b h1 h2),?_,⟨_,_,w3.set⟩,fun h=>?_,fun _=>w3.set,setR_only w6 (.inl (.inr rfl))⟩
    ·obtain ⟨a0,m0,d0,a1,m1,d1,m,h⟩:=w2;exact ⟨a0,m0,d0,a1,m1,d1,m,(setR_heap _ _ h45).trans h⟩
    ·exact (setR_heap _ _ h45).trans (w4 (by simpa using h))
   exact (fin (u) _ _ (fun h=>(by cases h)) (fun _ _=>rfl) (hW2))
 ·intro L u w' hl hW;refine hQ u w' ?_;unfold wsR8 at hW ⊢;simp only [hl 7 (nBl rfl),hl 8 (nBl rfl)] at hW ⊢;exact hW
noncomputable def opsR16:List Oper:=opsOf Tryz.f23 16
def wsR16 (_pb r4 r5 _x _n0 _c0 _nl _lc _n n1 _k _m2 _e2 n8 c8 Ln lc2 cd Bs B0:Nat) (_A0 _E _E2 A8 Al:Option Addr) (lr l2:List SE) (tx:ByteArray) (W0:World) (L:Nat->Bool) (u:Value) (w:World):Prop:=(∀b,b<Bs->b≠r4->b≠r5->w.heap[b]?=W0.heap[b]?)/\(L 6=false->OwnE Bs w (.slice Al Ln lc2) lr)/\(L 6=true->∃A' C',u=.slice A' (lr++l2).length C'/\OwnE Bs w u (lr++l2))/\(∃a0 m0 d0 a1 m1 d1 m,AppC w r4 a0 m0 d0 a1 m1 d1 m)/\(∃c t,RepX w r5 c t)/\(L 12=true->∃A' C',u=.slice A' (lr++l2).length C'/\AppC w r4 A8 n8 c8 A' (lr++l2).length C' n1)/\(L 13=true->RepX w r5 cd tx)/\Below B0 W0 w/\Bs<=w.heap.size
theorem wsR16_same (pb r4 r5 x n0 c0 nl lc n n1 k m2 e2 n8 c8 Ln lc2 cd Bs B0:Nat) (A0 E E2 A8 Al:Option Addr) (lr l2:List SE) (tx:ByteArray) {W0:World} {L:Nat->Bool} {i:Nat} {u:Value} {w:World} (k6:((6:Nat)==i)=false) (k12:((12:Nat)==i)=false) (k13:((13:Nat)==i)=false) (h:wsR16 pb r4 r5 x n0 c0 nl lc n n1 k m2 e2 n8 c8 Ln lc2 cd Bs B0 A0 E E2 A8 Al lr l2 tx W0 L u w):wsR16 pb r4 r5 x n0 c0 nl lc n n1 k m2 e2 n8 c8 Ln lc2 cd Bs B0 A0 E E2 A8 Al lr l2 tx W0 (fun j=>L j||j==i) u w:=by
 unfold wsR16 at h ⊢;simp only [beq_noF k6,beq_noF k12,beq_noF k13];exact h
theorem rx16 (pb r4 r5 x n0 c0 nl lc n n1 k m2 e2 n8 c8 Ln lc2 cd Bs B0:Nat) (A0 E E2 A8 Al:Option Addr) (lr l2:List SE) (tx:ByteArray) (a:Act) (w:World) (Q:Exit->Act->World->Prop) (hN:a.tmps.size=120) (h2:a.tmps.getD 2 undef=.pointer (some ⟨pb,0,none⟩)) (h4:a.tmps.getD 4 undef=.pointer (some ⟨r4,0,none⟩)) (h5:a.tmps.getD 5 undef=.pointer (some ⟨r5,0,none⟩)) (h7:a.tmps.getD 7 undef=.int .i64 (k:Int)) (h9:a.tmps.getD 9 undef=.slice A8 n8 c8) (h10:a.tmps.getD 10 undef=.pointer (some ⟨x,0,none⟩)) (h11:a.tmps.getD 11 undef=.slice Al Ln lc2) (hBB:B0<=Bs) (h4B:r4<Bs) (h5B:r5<Bs) (hpB:pb<Bs) (hxB:x<Bs) (h40:B0<=r4) (h50:B0<=r5) (hp4:pb≠r4) (hp5:pb≠r5) (hx4:x≠r4) (hx5:x≠r5) (h45:r4≠r5) (hp:AppC w pb A0 n0 c0 E nl lc n) (hx:RepX w x cd tx) (hm2:m2=l2.length) (hlen:lr.length+m2<=1000000) (hE2:∀W,(∀b,b<Bs->b≠r4->b≠r5->W.heap[b]?=w.heap[b]?)->HasE W E2 l2) (hsl:∀W,(Instr.sliceAt 29 (.slice E nl lc) (some (.int .i64 (k:Int))) none none).run Tryz.prog W=.ok (.slice E2 m2 e2) W) (hn1:IntKind.u64.wrap ((n:Int)+1)=(n1:Int)) (hW0:wsR16 pb r4 r5 x n0 c0 nl lc n n1 k m2 e2 n8 c8 Ln lc2 cd Bs B0 A0 E E2 A8 Al lr l2 tx w.drew (fun _=>false) undef w.drew) (hQ:∀(u:Value) w',wsR16 pb r4 r5 x n0 c0 nl lc n n1 k m2 e2 n8 c8 Ln lc2 cd Bs B0 A0 E E2 A8 Al lr l2 tx w.drew (fun _=>true) u w'->Q .normal (puts [(108,.slice A8 n8 c8),(109,.slice Al Ln lc2),(110,.pointer (some ⟨pb,1,none⟩)),(111,.slice E nl lc),(112,.int .i64 (k:Int)),(113,.slice E2 m2 e2),(114,u),(115,.pointer (some ⟨pb,2,none⟩)),(116,.int .u64 (n:Int)),(117,.int .u64 (n1:Int)),(118,.agg #[.slice A8 n8 c8,u,.int .u64 (n1:Int)]),(119,.agg #[.int .u8 (cd:Int),.string tx]),(6,(Value.bool true))] a) w')
 :(Code.region 16 opsR16.toArray true).wp Tryz.prog Q a w:=by
 refine region_c (U:=Value) 120 opsR16 [(2,.pointer (some ⟨pb,0,none⟩)),(4,.pointer (some ⟨r4,0,none⟩)),(5,.pointer (some ⟨r5,0,none⟩)),(7,.int .i64 (k:Int)),(9,.slice A8 n8 c8),(10,.pointer (some ⟨x,0,none⟩)),(11,.slice Al Ln lc2)] [6,10,12,13] (fun u=>[.slice A8 n8 c8,.slice Al Ln lc2,.pointer (some ⟨pb,1,none⟩),.slice E nl lc,.int .i64 (k:Int),.slice E2 m2 e2,u,.pointer (some ⟨pb,2,none⟩),.int .u64 (n:Int),.int .u64 (n1:Int),.agg #[.slice A8 n8 c8,u,.int .u64 (n1:Int)],.agg #[.int .u8 (cd:Int),.string tx],undef,undef,(Value.bool true)]) (wsR16 pb r4 r5 x n0 c0 nl lc n n1 k m2 e2 n8 c8 Ln lc2 cd Bs B0 A0 E E2 A8 Al lr l2 tx w.drew) undef follows (by kernel_rfl) hN ⟨h2,h4,h5,h7,h9,h10,h11,trivial⟩ (fun _=>nBl rfl) hW0 (fun _ _ _ _ hi h=>wsR16_same _ _ _ _ _ _ _ _ _ _ _ _ _ _ _ _ _ _ _ _ _ _ _ _ _ _ _ _ (key_ne hi rfl) (key_ne hi rfl) (key_ne hi rfl) h) ?_ ?_ ?_
 ·intro L u w' hW _;exact ⟨fun _=>rfl,fun _=>rfl,fun _=>ob_fld (run_fxA _ _ _ (.inr (.inl rfl))),fun _=>ob_load (run_lxS _ _ (.inl rfl) _ _ (by rw [blk_cell ((hW.1 pb hpB hp4 hp5).trans hp) 1];rfl)),fun _=>rfl,fun _=>ob_sl (hsl _),trivial,fun _=>ob_fld (run_fxA _ _ _ (.inr (.inr rfl))),fun _=>ob_load (run_lxS _ _ (.inr (.inl rfl)) _ _ (by rw [blk_cell ((hW.1 pb hpB hp4 hp5).trans hp) 2];rfl)),fun _=>ob_bin (guard_int _ _ _ _ _ _ _ _ _) (run_adX _ _ _ hn1),trivial,fun _=>ob_load (run_lxR _ _ _ _ _ (by rw [blk_cell ((hW.1 x hxB hx4 hx5).trans hx) 0];rfl) (by rw [blk_cell ((hW.1 x hxB hx4 hx5).trans hx) (0+1)];rfl)),trivial,trivial,fun _=>rfl,trivial⟩
 ·refine ⟨?_,?_,?_,?_,trivial⟩
  ·rintro o ho L u a' w' hLi hpre hcl hR hW fin;have hio:=(nthO_eq _ _).symm.trans ho
   cases ho
   have q1:a'.tmps.getD 109 undef=.slice Al Ln lc2:=hR.val 1 _ 109 rfl rfl (edge_ofF hpre 1 rfl);have q5:a'.tmps.getD 113 undef=.slice E2 m2 e2:=hR.val 5 _ 113 rfl rfl (edge_ofF hpre 5 rfl);obtain ⟨w1,w2,w3,w4,w5,w6,w7,w8,w9⟩:=hW;obtain ⟨v',w'',hrun,ho',hg'⟩:=run_append_E w' 29 Bs _ lr (w2 hLi) E2 m2 e2 l2 hm2 (hE2 w' w1) hlen w9;obtain ⟨A',C',hv',_⟩:=ho'.form;have hge:=(w2 hLi).ge;have hbl:∀b,b<Bs->w''.heap[b]?=w'.heap[b]?:=fun b hb=>hg'.block b (nLl hb w9) (fun e=>by have:=hge b e.symm;omega)
   refine step_run hio rfl (by intro c h;cases h) (by simp [Oper.about,resolve,Target.leads,Sem.run_pure]) (v:=v') (w':=w'') (by
    unfold execOp;simp only [resolve,invoke,builtin,Sem.run_bind,Sem.run_pure,Result.andThen_ok,List.map_toArray,List.map_cons,List.map_nil,Act.eval,q1,q5,hrun]) ?_
   have hW2:wsR16 pb r4 r5 x n0 c0 nl lc n n1 k m2 e2 n8 c8 Ln lc2 cd Bs B0 A0 E E2 A8 Al lr l2 tx w.drew (fun j=>L j||j==6) v' w'':=by
    refine ⟨fun b h1 h2 h3=>(hbl b h1).trans (w1 b h1 h2 h3),fun h=>?_,fun _=>⟨A',C',hv',ho'⟩,?_,?_,fun h=>?_,fun h=>?_,w8.grown hg' (nLt hBB w9) (fun j e=>nLt hBB (hge j e)),nLt w9 hg'.size⟩
    ·simp at h
    ·obtain ⟨a0,m0,d0,a1,m1,d1,m,h⟩:=w4;exact ⟨a0,m0,d0,a1,m1,d1,m,(hbl r4 h4B).trans h⟩
    ·obtain ⟨c,t,h⟩:=w5;exact ⟨c,t,(hbl r5 h5B).trans h⟩
    ·have h':L 12=true:=by simpa using h
     rw [not_yetF hcl 30 (show reachB opsR16 30 12 6=true by kernel_rfl) hLi] at h'
     cases h'
    ·have h':L 13=true:=by simpa using h
     exact (hbl r5 h5B).trans (w7 h')
   exact (fin (v') _ _ (fun _=>rfl) (fun j hj=>by
    rcases j with _|_|_|_|_|_|_|_|_|_|_|_|_|_|_|j<;>first|rfl|exact Bool.noConfusion (hj.symm.trans hLi)|exact Bool.noConfusion (hj.symm.trans (not_yetF hcl 30 (by kernel_rfl) hLi))) (hW2))
  ·rintro o ho L u a' w' hLi hpre hcl hR hW fin;have hio:=(nthO_eq _ _).symm.trans ho
   cases ho
   have q0:a'.tmps.getD 108 undef=.slice A8 n8 c8:=hR.val 0 _ 108 rfl rfl (edge_ofF hpre 0 rfl);have q6:a'.tmps.getD 114 undef=u:=hR.val 6 _ 114 rfl rfl (edge_ofF hpre 6 rfl);have q9:a'.tmps.getD 117 undef=.int .u64 (n1:Int):=hR.val 9 _ 117 rfl rfl (edge_ofF hpre 9 rfl);obtain ⟨A',C',hv,_⟩:=hW.2.2.1 (edge_ofF hpre 6 rfl)
   refine step_run hio rfl (by intro c h;cases h) (by simp [Oper.about]) (v:=.agg #[.slice A8 n8 c8,u,.int .u64 (n1:Int)]) (w':=w') (by
    subst hv;have r0:a'.tmps[108]?.getD undef=.slice A8 n8 c8:=by simpa using q0
    have r6:a'.tmps[114]?.getD undef=.slice A' (lr++l2).length C':=by simpa using q6
    have r9:a'.tmps[117]?.getD undef=.int .u64 (n1:Int):=by simpa using q9
    simp [execOp,Act.eval,r0,r6,r9,run_bxA]) ?_
   exact (fin (u) (.agg #[.slice A8 n8 c8,u,.int .u64 (n1:Int)]) _ (fun _=>rfl) (fun _ _=>rfl) (wsR16_same _ _ _ _ _ _ _ _ _ _ _ _ _ _ _ _ _ _ _ _ _ _ _ _ _ _ _ _ rfl rfl rfl hW))
  ·rintro o ho L u a' w' hLi hpre hcl hR hW fin;have hio:=(nthO_eq _ _).symm.trans ho
   cases ho
   have hF:=hR.frm;have q10:a'.tmps.getD 118 undef=.agg #[.slice A8 n8 c8,u,.int .u64 (n1:Int)]:=hR.val 10 _ 118 rfl rfl (edge_ofF hpre 10 rfl);obtain ⟨w1,w2,w3,⟨a0,m0,d0,a1,m1,d1,m,w4⟩,w5,w6,w7,w8,w9⟩:=hW;obtain ⟨A',C',hv,ho'⟩:=w3 (reach_ofF hcl 30 10 6 (show reachB opsR16 30 10 6=true by kernel_rfl) (edge_ofF hpre 10 rfl));have hx1:a'.eval (.tmp 4)=.pointer (some ⟨r4,0,none⟩):=(hF.at 4 rfl h4);have hx2:a'.eval (.tmp 118)=.agg #[.slice A8 n8 c8,.slice A' (lr++l2).length C',.int .u64 (n1:Int)]:=by rw [<-hv];exact q10
   have hst:=run_sxA (B0:=A8) (m0:=n8) (d0:=c8) (B1:=A') (m1:=(lr++l2).length) (d1:=C') (m:=n1) w4
   refine step_skip hio rfl (by intro c h;cases h) (by simp [Oper.about]) (w':=setA w' r4 A8 n8 c8 A' (lr++l2).length C' n1) (by
    unfold execOp;simp only [hx1,hx2,Sem.run_bind,hst,Result.andThen_ok]
    rfl) ?_
   have hW2:wsR16 pb r4 r5 x n0 c0 nl lc n n1 k m2 e2 n8 c8 Ln lc2 cd Bs B0 A0 E E2 A8 Al lr l2 tx w.drew (fun j=>L j||j==12) u (setA w' r4 A8 n8 c8 A' (lr++l2).length C' n1):=by
    have hne:∀g,u.ownBlock=some g->g≠r4:=fun g hg=>by have:=ho'.ge g hg;omega
    refine ⟨fun b h1 h2 h3=>(setA_heap _ _ h2).trans (w1 b h1 h2 h3),fun h=>?_,fun _=>⟨A',C',hv,?_⟩,⟨_,_,_,_,_,_,_,w4.set⟩,?_,fun _=>⟨A',C',hv,w4.set⟩,fun h=>?_,?_,?_⟩
    ·have h6:=reach_ofF hcl 30 10 6 (show reachB opsR16 30 10 6=true by kernel_rfl) (edge_ofF hpre 10 rfl);have h':L 6=false:=by simpa using h
     rw [h6] at h'
     cases h'
    ·exact World.ownsRow.kept ho' ⟨rfl,rfl,rfl,by simp [setA],fun b hb hbe=>setA_heap _ _ (fun e=>by subst e;exact hbe rfl)⟩ (by
      cases hu:u.ownBlock with
      |none=>exact .inl rfl
      |some g=>exact .inr (fun e=>hne g hu (by injection e)))
    ·obtain ⟨c,t,h⟩:=w5;exact ⟨c,t,(setA_heap _ _ (Ne.symm h45)).trans h⟩
    ·exact (setA_heap _ _ (Ne.symm h45)).trans (w7 (by simpa using h))
    ·exact ((w8.setCell (p:=⟨r4,0,none⟩) h40 _).setCell (p:=⟨r4,1,none⟩) h40 _).setCell (p:=⟨r4,2,none⟩) h40 _
    ·simpa [setA] using w9
   exact (fin (u) _ _ (fun h=>(by cases h)) (fun _ _=>rfl) (hW2))
  ·rintro o ho L u a' w' hLi hpre hcl hR hW fin;have hio:=(nthO_eq _ _).symm.trans ho
   cases ho
   have hF:=hR.frm;have q11:a'.tmps.getD 119 undef=.agg #[.int .u8 (cd:Int),.string tx]:=hR.val 11 _ 119 rfl rfl (edge_ofF hpre 11 rfl);obtain ⟨w1,w2,w3,w4,⟨c,t,w5⟩,w6,w7,w8,w9⟩:=hW;have h12:=edge_ofF hpre 12 rfl;obtain ⟨A',C',hv,ho'⟩:=w3 (reach_ofF hcl 30 12 6 (show reachB opsR16 30 12 6=true by kernel_rfl) h12);have hx1:a'.eval (.tmp 5)=.pointer (some ⟨r5,0,none⟩):=hF.at 5 rfl h5;have hx2:a'.eval (.tmp 119)=.agg #[.int .u8 (cd:Int),.string tx]:=q11;have hst:=run_sxR (ce:=cd) (ty:=tx) w5
   refine step_skip hio rfl (by intro c h;cases h) (by simp [Oper.about]) (w':=setR w' r5 cd tx) (by
    unfold execOp;simp only [hx1,hx2,Sem.run_bind,hst,Result.andThen_ok]
    rfl) ?_
   have hW2:wsR16 pb r4 r5 x n0 c0 nl lc n n1 k m2 e2 n8 c8 Ln lc2 cd Bs B0 A0 E E2 A8 Al lr l2 tx w.drew (fun j=>L j||j==13) u (setR w' r5 cd tx):=by
    have hne:∀g,u.ownBlock=some g->g≠r5:=fun g hg=>by have:=ho'.ge g hg;omega
    refine ⟨fun b h1 h2 h3=>(setR_heap _ _ h3).trans (w1 b h1 h2 h3),fun h=>?_,fun _=>⟨A',C',hv,?_⟩,?_,⟨_,_,w5.set⟩,fun h=>?_,fun _=>w5.set,?_,?_⟩
    ·have h':L 6=false:=by simpa using h
     rw [reach_ofF hcl 30 12 6 (show reachB opsR16 30 12 6=true by kernel_rfl) h12] at h'
     cases h'
    ·exact World.ownsRow.kept ho' ⟨rfl,rfl,rfl,by simp [setR],fun b hb hbe=>setR_heap _ _ (fun e=>by subst e;exact hbe rfl)⟩ (by
      cases hu:u.ownBlock with
      |none=>exact .inl rfl
      |some g=>exact .inr (fun e=>hne g hu (by injection e)))
    ·obtain ⟨a0,m0,d0,a1,m1,d1,m,h⟩:=w4;exact ⟨a0,m0,d0,a1,m1,d1,m,(setR_heap _ _ h45).trans h⟩
    ·obtain ⟨A2,C2,h1,h2⟩:=w6 (by simpa using h);exact ⟨A2,C2,h1,(setR_heap _ _ h45).trans h2⟩
    ·exact (w8.setCell (p:=⟨r5,0,none⟩) h50 _).setCell (p:=⟨r5,1,none⟩) h50 _
    ·simpa [setR] using w9
   exact (fin (u) _ _ (fun h=>(by cases h)) (fun _ _=>rfl) (hW2))
 ·intro L u w' hl hW;refine hQ u w' ?_;unfold wsR16 at hW ⊢;simp only [hl 6 (nBl rfl),hl 12 (nBl rfl),hl 13 (nBl rfl)] at hW ⊢;exact hW
end Go.Proofs.YtfjmdkhemnmkpaaGreatDoor
namespace Go.Proofs.YtfjmdkhemnmkpaaGreatDoor
theorem drop_ge {l:List SE} (hs:SortedE l) {c k:Nat} (h2:∀h:k<l.length,c<=l[k].cl):∀x∈l.drop k,c<=x.cl:=by
 intro x hx;obtain ⟨i,hi,rfl⟩:=List.mem_iff_getElem.1 hx;rw [List.length_drop] at hi;rw [List.getElem_drop];have hk:k<l.length:=by omega
 cases i with
 |zero=>exact h2 hk
 |succ i=>
  have h3:=List.pairwise_iff_getElem.1 hs k (k+(i+1)) hk (by omega) (by omega);have:=h2 hk;omega
theorem take_lt {l:List SE} {c k:Nat} (h1:∀j (h:j<l.length),j<k->l[j].cl<c):∀x∈l.take k,x.cl<c:=by
 intro x hx;obtain ⟨i,hi,rfl⟩:=List.mem_iff_getElem.1 hx;rw [List.length_take] at hi;rw [List.getElem_take];exact h1 i (by omega) (by omega)
theorem split_lt {a b:List SE} {c:Nat} (ha:∀x∈a,x.cl<c) (hb:∀x∈b,c<=x.cl):(a++b).filter (fun x=>decide (x.cl<c))=a:=by
 rw [List.filter_append,List.filter_eq_self.2 (fun x hx=>by simpa using ha x hx),List.filter_eq_nil_iff.2 (fun x hx=>by simpa using hb x hx),List.append_nil]
theorem split_in {a b:List SE} {e:SE} {c:Nat} (ha:∀x∈a,x.cl<c) (he:e.cl=c) (hb:∀x∈b,c<x.cl):lookS (a++e::b) c=some e/\(a++e::b).filter (fun x=>decide (c<x.cl))=b:=by
 refine ⟨?_,?_⟩
 ·unfold lookS;rw [List.find?_append,List.find?_eq_none.2 (fun x hx=>by have:=ha x hx;simp;omega),List.find?_cons,decide_eq_true he]
  rfl
 ·rw [List.filter_append,List.filter_eq_nil_iff.2 (fun x hx=>by have:=ha x hx;simp;omega),List.filter_cons,if_neg (by simp;omega),List.filter_eq_self.2 (fun x hx=>by simpa using hb x hx),List.nil_append]
theorem split_out {a b:List SE} {c:Nat} (ha:∀x∈a,x.cl<c) (hb:∀x∈b,c<x.cl):lookS (a++b) c=none/\(a++b).filter (fun x=>decide (c<x.cl))=b:=by
 refine ⟨?_,?_⟩
 ·unfold lookS;rw [List.find?_append,List.find?_eq_none.2 (fun x hx=>by have:=ha x hx;simp;omega),List.find?_eq_none.2 (fun x hx=>by have:=hb x hx;simp;omega)]
  rfl
 ·rw [List.filter_append,List.filter_eq_nil_iff.2 (fun x hx=>by have:=ha x hx;simp;omega),List.filter_eq_self.2 (fun x hx=>by simpa using hb x hx),List.nil_append]
structure StopE (l:List SE) (c k:Nat):Prop where
 le:k<=l.length
 lt:∀j (h:j<l.length),j<k->l[j].cl<c
 ge:∀h:k<l.length,c<=l[k].cl
theorem StopE.before {l:List SE} (hs:SortedE l) {c k:Nat} (h:StopE l c k):l.filter (fun x=>decide (x.cl<c))=l.take k:=by
 have:=split_lt (take_lt h.lt) (drop_ge hs h.ge)
 rwa [List.take_append_drop] at this
theorem StopE.own {l:List SE} (hs:SortedE l) {c k:Nat} (h:StopE l c k) (hk:k<l.length) (he:l[k].cl=c):lookS l c=some l[k]/\l.filter (fun x=>decide (c<x.cl))=l.drop (k+1):=by
 have:=split_in (take_lt h.lt) he (drop_ge (c:=c+1) (k:=k+1) hs fun h1=>by
  have h3:=List.pairwise_iff_getElem.1 hs k (k+1) hk h1 (by omega);omega)
 rwa [List.getElem_cons_drop,List.take_append_drop] at this
theorem StopE.not {l:List SE} (hs:SortedE l) {c k:Nat} (h:StopE l c k) (hk:∀h:k<l.length,l[k].cl≠c):lookS l c=none/\l.filter (fun x=>decide (c<x.cl))=l.drop k:=by
 have:=split_out (take_lt h.lt) (drop_ge (c:=c+1) hs fun h1=>by have:=h.ge h1;have:=hk h1;omega)
 rwa [List.take_append_drop] at this
theorem doA_zero {a:AM} {m:CM} (h:m.cl=0):doA a m=(a,(2,⟨#[]⟩),false):=by unfold doA;rw [if_pos h]
theorem doA_again {a:AM} {m:CM} {e:SE} (h:m.cl≠0) (hl:lookS a.ss m.cl=some e) (hs:e.sq=m.sq):doA a m=(a,(e.cd,e.tx),false):=by
 have ht:tellS a.ss m.cl m.sq=((e.cd,e.tx),1):=by unfold tellS;rw [hl];simp [hs]
 unfold doA;rw [if_neg h,ht]
 rfl
theorem doA_old {a:AM} {m:CM} {e:SE} (h:m.cl≠0) (hl:lookS a.ss m.cl=some e) (hs:m.sq<e.sq):doA a m=(a,(3,⟨#[]⟩),false):=by
 have ht:tellS a.ss m.cl m.sq=((3,⟨#[]⟩),2):=by unfold tellS;rw [hl];simp [Nat.not_lt.2 (Nat.le_of_lt hs),Nat.ne_of_gt hs]
 unfold doA;rw [if_neg h,ht]
 rfl
theorem doA_new {a:AM} {m:CM} (h:m.cl≠0) (hl:lookS a.ss m.cl=none\/∃e,lookS a.ss m.cl=some e/\e.sq<m.sq):
 doA a m=(⟨(doP a.ps m).1,a.ss.filter (fun e=>decide (e.cl<m.cl))++⟨m.cl,m.sq,(doP a.ps m).2.1,(doP a.ps m).2.2⟩::a.ss.filter (fun e=>decide (m.cl<e.cl)),a.n+1⟩,(doP a.ps m).2,true):=by
 have ht:tellS a.ss m.cl m.sq=((0,⟨#[]⟩),0):=by
  unfold tellS
  rcases hl with hl|⟨e,hl,hs⟩
  ·rw [hl]
  ·rw [hl];simp [hs]
 unfold doA;rw [if_neg h,if_pos (by rw [ht])];unfold keepS;rw [if_pos ⟨h,by rw [ht]⟩]
end Go.Proofs.YtfjmdkhemnmkpaaGreatDoor
