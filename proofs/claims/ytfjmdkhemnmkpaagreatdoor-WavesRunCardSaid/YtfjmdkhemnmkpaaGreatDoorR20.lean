/- Parts of the proof: KvDoR. -/
import Derived.Test.YtfjmdkhemnmkpaaGreatDoorR02
import Derived.Test.YtfjmdkhemnmkpaaGreatDoorR03
import Derived.Test.YtfjmdkhemnmkpaaGreatDoorR19
set_option maxRecDepth 100000
set_option maxHeartbeats 8000000
namespace Go.Proofs.YtfjmdkhemnmkpaaGreatDoor
open Go.RowKit
def IsP (B:Nat) (w:World) (v:Value) (l:List PV):Prop:=∃A n c,v=.slice A n c/\n=l.length/\OwnP B w v l
theorem IsP.grew {B:Nat} {w w':World} {v:Value} {l:List PV} (h:IsP B w v l) (hg:Grew w w'):IsP B w' v l:=by
 obtain ⟨A,n,c,h1,h2,h3⟩:=h;exact ⟨A,n,c,h1,h2,h3.below hg⟩
theorem IsP.of_own {B B':Nat} {w:World} {v:Value} {l:List PV} (h:OwnP B' w v l) (hB:B<=B'):IsP B w v l:=by
 obtain ⟨A,c,rfl,_⟩:=h.form;exact ⟨A,_,c,rfl,rfl,h.mono hB⟩
theorem run_fdC (w:World) (b i:Nat) (hi:i=3\/i=4\/i=5):(Instr.fieldAt 57 (.pointer (some ⟨b,0,none⟩)) i).run Tryz.prog w=.ok (.pointer (some ⟨b,i,none⟩)) w:=by
 rcases hi with rfl|rfl|rfl<;>simp [go_sem]
theorem run_fdP (w:World) (b o:Nat):(Instr.fieldAt 116 (.pointer (some ⟨b,o,none⟩)) 1).run Tryz.prog w=.ok (.pointer (some ⟨b,o+1,none⟩)) w:=by
 simp [go_sem]
theorem run_ldT (w:World) (t:TypeId) (ht:t=9\/t=55) (p:Addr) (v:Value) (h:w.cell? p=some v):(Instr.loadAt t (.pointer (some p))).run Tryz.prog w=.ok v w:=by
 rcases ht with rfl|rfl<;>simp [go_sem,h]
theorem run_ixS (w:World) (b o L c q:Nat) (h:q<L):(Instr.indexAt 55 (.slice (some ⟨b,o,none⟩) L c) (.int .i64 (q:Int))).run Tryz.prog w=.ok (.pointer (some ⟨b,o+q,none⟩)) w:=by
 have h1:(0:Int)<=q:=by omega
 have h2:(q:Int)<L:=by omega
 simp [go_sem,h1,h2]
theorem run_ixP (w:World) (b o L c q:Nat) (h:q<L):(Instr.indexAt 28 (.slice (some ⟨b,o,none⟩) L c) (.int .i64 (q:Int))).run Tryz.prog w=.ok (.pointer (some ⟨b,o+q*2,none⟩)) w:=by
 have h1:(0:Int)<=q:=by omega
 have h2:(q:Int)<L:=by omega
 simp [go_sem,h1,h2]
theorem run_stR (w:World) (q:Nat) (cd:Int) (tx:ByteArray) (h:w.heap[q]?=some (.cells #[.int .u8 0,.string ⟨#[]⟩] 45 (0,0))):
 (Instr.storeAt 45 (.pointer (some ⟨q,0,none⟩)) (.agg #[.int .u8 cd,.string tx])).run Tryz.prog w=.ok () ((w.setCell ⟨q,0,none⟩ (.int .u8 cd)).setCell ⟨q,1,none⟩ (.string tx)):=by
 have c0:w.cell? ⟨q,0,none⟩=some (.int .u8 0):=by rw [blk_cell h 0];rfl
 have c1:w.cell? ⟨q,1,none⟩=some (.string ⟨#[]⟩):=by rw [blk_cell h 1];rfl
 have z0:=blk_frozen h 0;have z1:=blk_frozen h 1;simp [go_sem,c0,c1,z0,z1]
theorem run_rep0 (w:World):(Instr.build 45 #[]).run Tryz.prog w=.ok (.agg #[.int .u8 0,.string ⟨#[]⟩]) w:=by
 simp [go_sem,Instr.build]
theorem run_rep1 (w:World) (x:ByteArray):(Instr.build 45 #[(1,.string x)]).run Tryz.prog w=.ok (.agg #[.int .u8 0,.string x]) w:=by
 simp [go_sem,Instr.build]
section
variable {n:Nat} {Q:Exit->Act->World->Prop} {ops:Array Oper} {i:Nat} {o:Oper} {a:Act} {w:World} {K:Act->World->Prop}
theorem step_rep0 (hi:ops[i]?=some o) (hw:Region.wanted o (yielded ops a.tmps)=true) (ho:o.op=.build 45 #[]) (h:K (a.put o.dst (.agg #[.int .u8 0,.string ⟨#[]⟩])) w):wpOpIn Fence.wide n Tryz.prog ops Q i K a w:=
 step_run hi hw (by rw [ho];intro c h;cases h) (by simp [Oper.about,ho]) (by simp [execOp,ho,run_rep0]) h
theorem step_rep1 {x:Operand} {s:ByteArray} (hi:ops[i]?=some o) (hw:Region.wanted o (yielded ops a.tmps)=true) (ho:o.op=.build 45 #[(1,x)]) (hx:a.eval x=.string s) (h:K (a.put o.dst (.agg #[.int .u8 0,.string s])) w):wpOpIn Fence.wide n Tryz.prog ops Q i K a w:=
 step_run hi hw (by rw [ho];intro c h;cases h) (by simp [Oper.about,ho]) (by simp [execOp,ho,hx,run_rep1]) h
end
noncomputable def opsDoA:List Oper:=opsOf Tryz.f45 6
theorem do_put_region (pb q kb ko kc KL:Nat) (A:Option Addr) (L c:Nat) (l:List PV) (k0 nw:ByteArray) (B:Nat) (a:Act) (w:World) (Q:Exit->Act->World->Prop) (hN:a.tmps.size=156) (h0:a.tmps.getD 0 undef=.slice A L c) (h3:a.tmps.getD 3 undef=.pointer (some ⟨pb,0,none⟩)) (h5:a.tmps.getD 5 undef=.pointer (some ⟨q,0,none⟩)) (hB:B<=w.heap.size) (hq:w.heap[q]?=some (.cells #[.int .u8 0,.string ⟨#[]⟩] 45 (0,0))) (hL:L=l.length) (hLm:L<=10000) (hA:HasP w A l) (c3:w.cell? ⟨pb,3,none⟩=some (.slice (some ⟨kb,ko,none⟩) KL kc)) (ck:w.cell? ⟨kb,ko,none⟩=some (.string k0)) (hKL:0<KL) (c5:w.cell? ⟨pb,5,none⟩=some (.string nw)) (hQ:∀(v33:Value),∀(v4:Value),∀(w':World),(fun v w=>IsP B w v (withP l k0 nw)) v33 w'->(fun v w=>IsP B w v (withP l k0 nw)) v4 w'->Grew w w'->Q .normal (puts [(26,.slice A L c),(27,.pointer (some ⟨pb,3,none⟩)),(28,.slice (some ⟨kb,ko,none⟩) KL kc),(29,.pointer (some ⟨kb,ko+0,none⟩)),(30,.string k0),(31,.pointer (some ⟨pb,5,none⟩)),(32,.string nw),(33,v33),(34,.agg #[.int .u8 0,.string ⟨#[]⟩]),(4,v4)] a) ((w'.setCell ⟨q,0,none⟩ (.int .u8 0)).setCell ⟨q,1,none⟩ (.string ⟨#[]⟩)))
 :(Code.region 6 opsDoA.toArray true).wp Tryz.prog Q a w:=by
 refine (wpIn_wide (n:=1)).1 (region_s (fun _=>trivial) 156 10 opsDoA [(0,.slice A L c),(3,.pointer (some ⟨pb,0,none⟩)),(5,.pointer (some ⟨q,0,none⟩))] [7,8,9] [.eq (.slice A L c),.eq (.pointer (some ⟨pb,3,none⟩)),.eq (.slice (some ⟨kb,ko,none⟩) KL kc),.eq (.pointer (some ⟨kb,ko+0,none⟩)),.eq (.string k0),.eq (.pointer (some ⟨pb,5,none⟩)),.eq (.string nw),.pr fun v w=>IsP B w v (withP l k0 nw),.eq (.agg #[.int .u8 0,.string ⟨#[]⟩]),.pr fun v w=>IsP B w v (withP l k0 nw),.eq undef] Grew (fun w' W=>W=(w'.setCell ⟨q,0,none⟩ (.int .u8 0)).setCell ⟨q,1,none⟩ (.string ⟨#[]⟩)) Grew.refl Grew.trans follows (by kernel_rfl) (by kernel_rfl) hN ⟨h0,h3,h5,trivial⟩ rfl rfl ?_ ?_ ?_ ?_ ?_)
 ·exact ⟨(fun _ _ _ h hg=>IsP.grew h hg),(fun _ _ _ h hg=>IsP.grew h hg),trivial⟩
 ·intro _ w' hR _;exact ⟨fun _=>rfl,fun _=>ob_fld (run_fdC w' pb 3 (.inl rfl)),fun _=>ob_load (run_ldT w' _ (.inr rfl) _ _ ((Below.cell hR.undraw (p:=⟨pb,3,none⟩) (World.block_lt_of_cell? w _ c3)).trans c3)),fun _=>ob_idx (run_ixS w' kb ko KL kc 0 hKL),fun _=>ob_load (run_ldT w' _ (.inl rfl) _ _ ((Below.cell hR.undraw (p:=⟨kb,ko,none⟩) (World.block_lt_of_cell? w _ ck)).trans ck)),fun _=>ob_fld (run_fdC w' pb 5 (.inr (.inr rfl))),fun _=>ob_load (run_ldT w' _ (.inl rfl) _ _ ((Below.cell hR.undraw (p:=⟨pb,5,none⟩) (World.block_lt_of_cell? w _ c5)).trans c5)),trivial,trivial,trivial,trivial,trivial⟩
 ·refine ⟨?_,?_,?_,trivial⟩
  ·rintro o _ ho hd a' w' hF hR hp;have hio:=(nthO_eq _ _).symm.trans ho
   cases ho
   cases hd
   have q0:a'.tmps.getD 26 undef=.slice A L c:=hp 0 _ 26 rfl rfl rfl;have q4:a'.tmps.getD 30 undef=.string k0:=hp 4 _ 30 rfl rfl rfl;have q6:a'.tmps.getD 32 undef=.string nw:=hp 6 _ 32 rfl rfl rfl;refine step_callD hio rfl rfl (enters_of Tryz.func69 (by kernel_rfl) rfl) (show Array.map a'.eval #[.tmp 26,.tmp 30,.tmp 32]=_ from by simp only [List.map_toArray,List.map_cons,List.map_nil,Act.eval,q0,q4,q6]) ((With_any A L c l k0 nw w' hL (by omega) (hA.below hR.undraw)).mono ?_);rintro e w'' ⟨x,rfl,ho,hb⟩;exact ⟨_,rfl,_,rfl,IsP.of_own ho (nLt hB hR.undraw.size),hb⟩
  ·rintro o _ ho hd a' w' hF hR hp;have hio:=(nthO_eq _ _).symm.trans ho
   cases ho
   cases hd
   exact step_rep0 hio rfl rfl ⟨_,rfl,rfl,Grew.refl _⟩
  ·rintro o _ ho hd a' w' hF hR hp;have hio:=(nthO_eq _ _).symm.trans ho
   cases ho
   cases hd
   have q7:(fun v w=>IsP B w v (withP l k0 nw)) (a'.tmps.getD 33 undef) w':=hp 7 _ 33 rfl rfl rfl;exact step_assign hio rfl rfl rfl ⟨_,rfl,q7,Grew.refl _⟩
 ·rintro o ho a' w' hF hR hp
  cases ho
  have e8:a'.tmps.getD 34 undef=.agg #[.int .u8 0,.string ⟨#[]⟩]:=hp 8 _ 34 (by decide) rfl rfl;have hq':=(hR.undraw.block q (geS.1 hq).1).trans hq;have hst:=run_stR w' q 0 ⟨#[]⟩ hq';have hx1:a'.eval (.tmp 5)=.pointer (some ⟨q,0,none⟩):=hF.at 5 rfl h5;have hx2:a'.eval (.tmp 34)=.agg #[.int .u8 0,.string ⟨#[]⟩]:=e8;refine ⟨_,?_,rfl⟩;unfold execOp;simp only [hx1,hx2,Sem.run_bind,hst,Result.andThen_ok]
  rfl
 ·rintro u w' _ hR h rfl;exact hQ (u 7) (u 9) w' (h 7 (by decide)) (h 9 (by decide)) hR.undraw
noncomputable def opsDoB:List Oper:=opsOf Tryz.f45 21
theorem do_cas_region (pb q kb ko kc KL:Nat) (A:Option Addr) (L c:Nat) (l:List PV) (k0 nw:ByteArray) (B:Nat) (a:Act) (w:World) (Q:Exit->Act->World->Prop) (hN:a.tmps.size=156) (h0:a.tmps.getD 0 undef=.slice A L c) (h3:a.tmps.getD 3 undef=.pointer (some ⟨pb,0,none⟩)) (h5:a.tmps.getD 5 undef=.pointer (some ⟨q,0,none⟩)) (hB:B<=w.heap.size) (hq:w.heap[q]?=some (.cells #[.int .u8 0,.string ⟨#[]⟩] 45 (0,0))) (hL:L=l.length) (hLm:L<=10000) (hA:HasP w A l) (c3:w.cell? ⟨pb,3,none⟩=some (.slice (some ⟨kb,ko,none⟩) KL kc)) (ck:w.cell? ⟨kb,ko,none⟩=some (.string k0)) (hKL:0<KL) (c5:w.cell? ⟨pb,5,none⟩=some (.string nw)) (hQ:∀(v94:Value),∀(v4:Value),∀(w':World),(fun v w=>IsP B w v (withP l k0 nw)) v94 w'->(fun v w=>IsP B w v (withP l k0 nw)) v4 w'->Grew w w'->Q .normal (puts [(87,.slice A L c),(88,.pointer (some ⟨pb,3,none⟩)),(89,.slice (some ⟨kb,ko,none⟩) KL kc),(90,.pointer (some ⟨kb,ko+0,none⟩)),(91,.string k0),(92,.pointer (some ⟨pb,5,none⟩)),(93,.string nw),(94,v94),(95,.agg #[.int .u8 0,.string ⟨#[]⟩]),(4,v4)] a) ((w'.setCell ⟨q,0,none⟩ (.int .u8 0)).setCell ⟨q,1,none⟩ (.string ⟨#[]⟩)))
 :(Code.region 21 opsDoB.toArray true).wp Tryz.prog Q a w:=by
 refine (wpIn_wide (n:=1)).1 (region_s (fun _=>trivial) 156 10 opsDoB [(0,.slice A L c),(3,.pointer (some ⟨pb,0,none⟩)),(5,.pointer (some ⟨q,0,none⟩))] [7,8,9] [.eq (.slice A L c),.eq (.pointer (some ⟨pb,3,none⟩)),.eq (.slice (some ⟨kb,ko,none⟩) KL kc),.eq (.pointer (some ⟨kb,ko+0,none⟩)),.eq (.string k0),.eq (.pointer (some ⟨pb,5,none⟩)),.eq (.string nw),.pr fun v w=>IsP B w v (withP l k0 nw),.eq (.agg #[.int .u8 0,.string ⟨#[]⟩]),.pr fun v w=>IsP B w v (withP l k0 nw),.eq undef] Grew (fun w' W=>W=(w'.setCell ⟨q,0,none⟩ (.int .u8 0)).setCell ⟨q,1,none⟩ (.string ⟨#[]⟩)) Grew.refl Grew.trans follows (by kernel_rfl) (by kernel_rfl) hN ⟨h0,h3,h5,trivial⟩ rfl rfl ?_ ?_ ?_ ?_ ?_)
 ·exact ⟨(fun _ _ _ h hg=>IsP.grew h hg),(fun _ _ _ h hg=>IsP.grew h hg),trivial⟩
 ·intro _ w' hR _;exact ⟨fun _=>rfl,fun _=>ob_fld (run_fdC w' pb 3 (.inl rfl)),fun _=>ob_load (run_ldT w' _ (.inr rfl) _ _ ((Below.cell hR.undraw (p:=⟨pb,3,none⟩) (World.block_lt_of_cell? w _ c3)).trans c3)),fun _=>ob_idx (run_ixS w' kb ko KL kc 0 hKL),fun _=>ob_load (run_ldT w' _ (.inl rfl) _ _ ((Below.cell hR.undraw (p:=⟨kb,ko,none⟩) (World.block_lt_of_cell? w _ ck)).trans ck)),fun _=>ob_fld (run_fdC w' pb 5 (.inr (.inr rfl))),fun _=>ob_load (run_ldT w' _ (.inl rfl) _ _ ((Below.cell hR.undraw (p:=⟨pb,5,none⟩) (World.block_lt_of_cell? w _ c5)).trans c5)),trivial,trivial,trivial,trivial,trivial⟩
 ·refine ⟨?_,?_,?_,trivial⟩
  ·rintro o _ ho hd a' w' hF hR hp;have hio:=(nthO_eq _ _).symm.trans ho
   cases ho
   cases hd
   have q0:a'.tmps.getD 87 undef=.slice A L c:=hp 0 _ 87 rfl rfl rfl;have q4:a'.tmps.getD 91 undef=.string k0:=hp 4 _ 91 rfl rfl rfl;have q6:a'.tmps.getD 93 undef=.string nw:=hp 6 _ 93 rfl rfl rfl;refine step_callD hio rfl rfl (enters_of Tryz.func69 (by kernel_rfl) rfl) (show Array.map a'.eval #[.tmp 87,.tmp 91,.tmp 93]=_ from by simp only [List.map_toArray,List.map_cons,List.map_nil,Act.eval,q0,q4,q6]) ((With_any A L c l k0 nw w' hL (by omega) (hA.below hR.undraw)).mono ?_);rintro e w'' ⟨x,rfl,ho,hb⟩;exact ⟨_,rfl,_,rfl,IsP.of_own ho (nLt hB hR.undraw.size),hb⟩
  ·rintro o _ ho hd a' w' hF hR hp;have hio:=(nthO_eq _ _).symm.trans ho
   cases ho
   cases hd
   exact step_rep0 hio rfl rfl ⟨_,rfl,rfl,Grew.refl _⟩
  ·rintro o _ ho hd a' w' hF hR hp;have hio:=(nthO_eq _ _).symm.trans ho
   cases ho
   cases hd
   have q7:(fun v w=>IsP B w v (withP l k0 nw)) (a'.tmps.getD 94 undef) w':=hp 7 _ 94 rfl rfl rfl;exact step_assign hio rfl rfl rfl ⟨_,rfl,q7,Grew.refl _⟩
 ·rintro o ho a' w' hF hR hp
  cases ho
  have e8:a'.tmps.getD 95 undef=.agg #[.int .u8 0,.string ⟨#[]⟩]:=hp 8 _ 95 (by decide) rfl rfl;have hq':=(hR.undraw.block q (geS.1 hq).1).trans hq;have hst:=run_stR w' q 0 ⟨#[]⟩ hq';have hx1:a'.eval (.tmp 5)=.pointer (some ⟨q,0,none⟩):=hF.at 5 rfl h5;have hx2:a'.eval (.tmp 95)=.agg #[.int .u8 0,.string ⟨#[]⟩]:=e8;refine ⟨_,?_,rfl⟩;unfold execOp;simp only [hx1,hx2,Sem.run_bind,hst,Result.andThen_ok]
  rfl
 ·rintro u w' _ hR h rfl;exact hQ (u 7) (u 9) w' (h 7 (by decide)) (h 9 (by decide)) hR.undraw
noncomputable def opsDoC:List Oper:=opsOf Tryz.f45 23
theorem do_swap_region (pb q kb ko kc KL:Nat) (A:Option Addr) (L c:Nat) (l:List PV) (k0 k1:ByteArray) (B:Nat) (a:Act) (w:World) (Q:Exit->Act->World->Prop) (hN:a.tmps.size=156) (h0:a.tmps.getD 0 undef=.slice A L c) (h3:a.tmps.getD 3 undef=.pointer (some ⟨pb,0,none⟩)) (h5:a.tmps.getD 5 undef=.pointer (some ⟨q,0,none⟩)) (hB:B<=w.heap.size) (hq:w.heap[q]?=some (.cells #[.int .u8 0,.string ⟨#[]⟩] 45 (0,0))) (hL:L=l.length) (hLm:L<=10000) (hA:HasP w A l) (c3:w.cell? ⟨pb,3,none⟩=some (.slice (some ⟨kb,ko,none⟩) KL kc)) (ck:w.cell? ⟨kb,ko,none⟩=some (.string k0)) (hKL:0<KL) (ck1:w.cell? ⟨kb,ko+1,none⟩=some (.string k1)) (hKL1:1<KL) (hQ:∀(v107:Value),∀(v4:Value),∀(w':World),(fun v w=>IsP B w v (swapP l k0 k1)) v107 w'->(fun v w=>IsP B w v (swapP l k0 k1)) v4 w'->Grew w w'->Q .normal (puts [(98,.slice A L c),(99,.pointer (some ⟨pb,3,none⟩)),(100,.slice (some ⟨kb,ko,none⟩) KL kc),(101,.pointer (some ⟨kb,ko+0,none⟩)),(102,.string k0),(103,.pointer (some ⟨pb,3,none⟩)),(104,.slice (some ⟨kb,ko,none⟩) KL kc),(105,.pointer (some ⟨kb,ko+1,none⟩)),(106,.string k1),(107,v107),(108,.agg #[.int .u8 0,.string ⟨#[]⟩]),(4,v4)] a) ((w'.setCell ⟨q,0,none⟩ (.int .u8 0)).setCell ⟨q,1,none⟩ (.string ⟨#[]⟩)))
 :(Code.region 23 opsDoC.toArray true).wp Tryz.prog Q a w:=by
 refine (wpIn_wide (n:=1)).1 (region_s (fun _=>trivial) 156 12 opsDoC [(0,.slice A L c),(3,.pointer (some ⟨pb,0,none⟩)),(5,.pointer (some ⟨q,0,none⟩))] [9,10,11] [.eq (.slice A L c),.eq (.pointer (some ⟨pb,3,none⟩)),.eq (.slice (some ⟨kb,ko,none⟩) KL kc),.eq (.pointer (some ⟨kb,ko+0,none⟩)),.eq (.string k0),.eq (.pointer (some ⟨pb,3,none⟩)),.eq (.slice (some ⟨kb,ko,none⟩) KL kc),.eq (.pointer (some ⟨kb,ko+1,none⟩)),.eq (.string k1),.pr fun v w=>IsP B w v (swapP l k0 k1),.eq (.agg #[.int .u8 0,.string ⟨#[]⟩]),.pr fun v w=>IsP B w v (swapP l k0 k1),.eq undef] Grew (fun w' W=>W=(w'.setCell ⟨q,0,none⟩ (.int .u8 0)).setCell ⟨q,1,none⟩ (.string ⟨#[]⟩)) Grew.refl Grew.trans follows (by kernel_rfl) (by kernel_rfl) hN ⟨h0,h3,h5,trivial⟩ rfl rfl ?_ ?_ ?_ ?_ ?_)
 ·exact ⟨(fun _ _ _ h hg=>IsP.grew h hg),(fun _ _ _ h hg=>IsP.grew h hg),trivial⟩
 ·intro _ w' hR _;exact ⟨fun _=>rfl,fun _=>ob_fld (run_fdC w' pb 3 (.inl rfl)),fun _=>ob_load (run_ldT w' _ (.inr rfl) _ _ ((Below.cell hR.undraw (p:=⟨pb,3,none⟩) (World.block_lt_of_cell? w _ c3)).trans c3)),fun _=>ob_idx (run_ixS w' kb ko KL kc 0 hKL),fun _=>ob_load (run_ldT w' _ (.inl rfl) _ _ ((Below.cell hR.undraw (p:=⟨kb,ko,none⟩) (World.block_lt_of_cell? w _ ck)).trans ck)),fun _=>ob_fld (run_fdC w' pb 3 (.inl rfl)),fun _=>ob_load (run_ldT w' _ (.inr rfl) _ _ ((Below.cell hR.undraw (p:=⟨pb,3,none⟩) (World.block_lt_of_cell? w _ c3)).trans c3)),fun _=>ob_idx (run_ixS w' kb ko KL kc 1 hKL1),fun _=>ob_load (run_ldT w' _ (.inl rfl) _ _ ((Below.cell hR.undraw (p:=⟨kb,ko+1,none⟩) (World.block_lt_of_cell? w _ ck1)).trans ck1)),trivial,trivial,trivial,trivial,trivial⟩
 ·refine ⟨?_,?_,?_,trivial⟩
  ·rintro o _ ho hd a' w' hF hR hp;have hio:=(nthO_eq _ _).symm.trans ho
   cases ho
   cases hd
   have q0:a'.tmps.getD 98 undef=.slice A L c:=hp 0 _ 98 rfl rfl rfl;have q4:a'.tmps.getD 102 undef=.string k0:=hp 4 _ 102 rfl rfl rfl;have q8:a'.tmps.getD 106 undef=.string k1:=hp 8 _ 106 rfl rfl rfl;refine step_callD hio rfl rfl (enters_of Tryz.func72 (by kernel_rfl) rfl) (show Array.map a'.eval #[.tmp 98,.tmp 102,.tmp 106]=_ from by simp only [List.map_toArray,List.map_cons,List.map_nil,Act.eval,q0,q4,q8]) ((swap_any A L c l k0 k1 w' hL hLm (hA.below hR.undraw)).mono ?_);rintro e w'' ⟨x,rfl,ho,hb⟩;exact ⟨_,rfl,_,rfl,IsP.of_own ho (nLt hB hR.undraw.size),hb⟩
  ·rintro o _ ho hd a' w' hF hR hp;have hio:=(nthO_eq _ _).symm.trans ho
   cases ho
   cases hd
   exact step_rep0 hio rfl rfl ⟨_,rfl,rfl,Grew.refl _⟩
  ·rintro o _ ho hd a' w' hF hR hp;have hio:=(nthO_eq _ _).symm.trans ho
   cases ho
   cases hd
   have q9:(fun v w=>IsP B w v (swapP l k0 k1)) (a'.tmps.getD 107 undef) w':=hp 9 _ 107 rfl rfl rfl;exact step_assign hio rfl rfl rfl ⟨_,rfl,q9,Grew.refl _⟩
 ·rintro o ho a' w' hF hR hp
  cases ho
  have e10:a'.tmps.getD 108 undef=.agg #[.int .u8 0,.string ⟨#[]⟩]:=hp 10 _ 108 (by decide) rfl rfl;have hq':=(hR.undraw.block q (geS.1 hq).1).trans hq;have hst:=run_stR w' q 0 ⟨#[]⟩ hq';have hx1:a'.eval (.tmp 5)=.pointer (some ⟨q,0,none⟩):=hF.at 5 rfl h5;have hx2:a'.eval (.tmp 108)=.agg #[.int .u8 0,.string ⟨#[]⟩]:=e10;refine ⟨_,?_,rfl⟩;unfold execOp;simp only [hx1,hx2,Sem.run_bind,hst,Result.andThen_ok]
  rfl
 ·rintro u w' _ hR h rfl;exact hQ (u 9) (u 11) w' (h 9 (by decide)) (h 11 (by decide)) hR.undraw
noncomputable def opsDoD:List Oper:=opsOf Tryz.f45 12
theorem do_del_region (pb q kb ko kc KL ab ao j:Nat) (A:Option Addr) (L c:Nat) (l:List PV) (k0 u:ByteArray) (B:Nat) (a:Act) (w:World) (Q:Exit->Act->World->Prop) (hN:a.tmps.size=156) (h0:a.tmps.getD 0 undef=.slice A L c) (h3:a.tmps.getD 3 undef=.pointer (some ⟨pb,0,none⟩)) (h5:a.tmps.getD 5 undef=.pointer (some ⟨q,0,none⟩)) (h6:a.tmps.getD 6 undef=.int .i64 (j:Int)) (hB:B<=w.heap.size) (hq:w.heap[q]?=some (.cells #[.int .u8 0,.string ⟨#[]⟩] 45 (0,0))) (hL:L=l.length) (hLm:L<=10000) (hA:HasP w A l) (c3:w.cell? ⟨pb,3,none⟩=some (.slice (some ⟨kb,ko,none⟩) KL kc)) (ck:w.cell? ⟨kb,ko,none⟩=some (.string k0)) (hKL:0<KL) (hAb:A=some ⟨ab,ao,none⟩) (hj:j<L) (cu:w.cell? ⟨ab,ao+j*2+1,none⟩=some (.string u)) (hQ:∀(v50:Value),∀(v4:Value),∀(w':World),(fun v w=>IsP B w v (withoutP l k0)) v50 w'->(fun v w=>IsP B w v (withoutP l k0)) v4 w'->Grew w w'->Q .normal (puts [(45,.slice A L c),(46,.pointer (some ⟨pb,3,none⟩)),(47,.slice (some ⟨kb,ko,none⟩) KL kc),(48,.pointer (some ⟨kb,ko+0,none⟩)),(49,.string k0),(50,v50),(51,.slice A L c),(52,.int .i64 (j:Int)),(53,.pointer (some ⟨ab,ao+j*2,none⟩)),(54,.pointer (some ⟨ab,ao+j*2+1,none⟩)),(55,.string u),(56,.agg #[.int .u8 0,.string u]),(4,v4)] a) ((w'.setCell ⟨q,0,none⟩ (.int .u8 0)).setCell ⟨q,1,none⟩ (.string u)))
 :(Code.region 12 opsDoD.toArray true).wp Tryz.prog Q a w:=by
 refine (wpIn_wide (n:=1)).1 (region_s (fun _=>trivial) 156 13 opsDoD [(0,.slice A L c),(3,.pointer (some ⟨pb,0,none⟩)),(5,.pointer (some ⟨q,0,none⟩)),(6,.int .i64 (j:Int))] [5,11,12] [.eq (.slice A L c),.eq (.pointer (some ⟨pb,3,none⟩)),.eq (.slice (some ⟨kb,ko,none⟩) KL kc),.eq (.pointer (some ⟨kb,ko+0,none⟩)),.eq (.string k0),.pr fun v w=>IsP B w v (withoutP l k0),.eq (.slice A L c),.eq (.int .i64 (j:Int)),.eq (.pointer (some ⟨ab,ao+j*2,none⟩)),.eq (.pointer (some ⟨ab,ao+j*2+1,none⟩)),.eq (.string u),.eq (.agg #[.int .u8 0,.string u]),.pr fun v w=>IsP B w v (withoutP l k0),.eq undef] Grew (fun w' W=>W=(w'.setCell ⟨q,0,none⟩ (.int .u8 0)).setCell ⟨q,1,none⟩ (.string u)) Grew.refl Grew.trans follows (by kernel_rfl) (by kernel_rfl) hN ⟨h0,h3,h5,h6,trivial⟩ rfl rfl ?_ ?_ ?_ ?_ ?_)
 ·exact ⟨(fun _ _ _ h hg=>IsP.grew h hg),(fun _ _ _ h hg=>IsP.grew h hg),trivial⟩
 ·intro _ w' hR _;exact ⟨fun _=>rfl,fun _=>ob_fld (run_fdC w' pb 3 (.inl rfl)),fun _=>ob_load (run_ldT w' _ (.inr rfl) _ _ ((Below.cell hR.undraw (p:=⟨pb,3,none⟩) (World.block_lt_of_cell? w _ c3)).trans c3)),fun _=>ob_idx (run_ixS w' kb ko KL kc 0 hKL),fun _=>ob_load (run_ldT w' _ (.inl rfl) _ _ ((Below.cell hR.undraw (p:=⟨kb,ko,none⟩) (World.block_lt_of_cell? w _ ck)).trans ck)),trivial,fun _=>rfl,fun _=>rfl,fun _=>ob_idx (by rw [hAb];exact run_ixP w' ab ao L c j hj),fun _=>ob_fld (run_fdP w' ab (ao+j*2)),fun _=>ob_load (run_ldT w' _ (.inl rfl) _ _ ((Below.cell hR.undraw (p:=⟨ab,ao+j*2+1,none⟩) (World.block_lt_of_cell? w _ cu)).trans cu)),trivial,trivial,trivial,trivial⟩
 ·refine ⟨?_,?_,?_,trivial⟩
  ·rintro o _ ho hd a' w' hF hR hp;have hio:=(nthO_eq _ _).symm.trans ho
   cases ho
   cases hd
   have q0:a'.tmps.getD 45 undef=.slice A L c:=hp 0 _ 45 rfl rfl rfl;have q4:a'.tmps.getD 49 undef=.string k0:=hp 4 _ 49 rfl rfl rfl;refine step_callD hio rfl rfl (enters_of Tryz.func70 (by kernel_rfl) rfl) (show Array.map a'.eval #[.tmp 45,.tmp 49]=_ from by simp only [List.map_toArray,List.map_cons,List.map_nil,Act.eval,q0,q4]) ((Without_any A L c l k0 w' hL (by omega) (hA.below hR.undraw)).mono ?_);rintro e w'' ⟨x,rfl,ho,hb⟩;exact ⟨_,rfl,_,rfl,IsP.of_own ho (nLt hB hR.undraw.size),hb⟩
  ·rintro o _ ho hd a' w' hF hR hp;have hio:=(nthO_eq _ _).symm.trans ho
   cases ho
   cases hd
   have q10:a'.tmps.getD 55 undef=.string u:=hp 10 _ 55 rfl rfl rfl;exact step_rep1 hio rfl rfl q10 ⟨_,rfl,rfl,Grew.refl _⟩
  ·rintro o _ ho hd a' w' hF hR hp;have hio:=(nthO_eq _ _).symm.trans ho
   cases ho
   cases hd
   have q5:(fun v w=>IsP B w v (withoutP l k0)) (a'.tmps.getD 50 undef) w':=hp 5 _ 50 rfl rfl rfl;exact step_assign hio rfl rfl rfl ⟨_,rfl,q5,Grew.refl _⟩
 ·rintro o ho a' w' hF hR hp
  cases ho
  have e11:a'.tmps.getD 56 undef=.agg #[.int .u8 0,.string u]:=hp 11 _ 56 (by decide) rfl rfl;have hq':=(hR.undraw.block q (geS.1 hq).1).trans hq;have hst:=run_stR w' q 0 u hq';have hx1:a'.eval (.tmp 5)=.pointer (some ⟨q,0,none⟩):=hF.at 5 rfl h5;have hx2:a'.eval (.tmp 56)=.agg #[.int .u8 0,.string u]:=e11;refine ⟨_,?_,rfl⟩;unfold execOp;simp only [hx1,hx2,Sem.run_bind,hst,Result.andThen_ok]
  rfl
 ·rintro u w' _ hR h rfl;exact hQ (u 5) (u 12) w' (h 5 (by decide)) (h 12 (by decide)) hR.undraw
end Go.Proofs.YtfjmdkhemnmkpaaGreatDoor
