/- Parts of the proof: RxFo, RxRuR, RxRm, RxPk, KsI, KsRun, KsRfR, KvTchD. -/
import Derived.Test.YtfjmdkhemnmkpaaGreatDoorR22
import Derived.Test.YtfjmdkhemnmkpaaGreatDoorR14
import Derived.Test.YtfjmdkhemnmkpaaGreatDoorR03
import Derived.Test.YtfjmdkhemnmkpaaGreatDoorR02
import Derived.Test.YtfjmdkhemnmkpaaGreatDoorR15
import Derived.Test.YtfjmdkhemnmkpaaGreatDoorR16
import Derived.Test.YtfjmdkhemnmkpaaGreatDoorR18
set_option maxRecDepth 100000
set_option maxHeartbeats 8000000
namespace Go.Proofs.YtfjmdkhemnmkpaaGreatDoor
open Go.RowKit
theorem refDoX_lim {N:Nat} (A0 E:Option Addr) (c0 lc:Nat) (a:AM) (v:CmdV) (w:World) (hl:LimAn N a) (hN:N<=1000) (hs:SortedA a) (hlc:a.ss.length<=lc) (hP:HasP w A0 a.ps) (hE:HasE w E a.ss) (hv:v.ok w):
 Calls Tryz.prog 23 #[.agg #[.slice A0 a.ps.length c0,.slice E a.ss.length lc,.int .u64 (a.n:Int)],v.val] w fun e W'=>∃v',e=.returned (.tuple #[v',ReplyV (doA a v.m).2.1,.bool (doA a v.m).2.2])/\AppV W' v' (doA a v.m).1/\Below w.heap.size w W':=
 refDoX_any A0 E _ c0 _ lc _ a v w rfl rfl hlc rfl hP hE hs.2 (by have:=hl.p.len;omega) (fun p hp=>by have:=hl.p.each p hp;omega) (by have:=hl.len;omega) (by have:=hl.n;omega) hv
structure FoS (w:World) (r2 r3:Nat) (a:AM) (W:World):Prop where
 ex:∃B1 d1 B2 d2,AppC W r3 B1 a.ps.length d1 B2 a.ss.length d2 a.n/\a.ss.length<=d2/\HasP W B1 a.ps/\HasE W B2 a.ss
 res:AppC W r2 none 0 0 none 0 0 0
 below:Below w.heap.size w W
 ord:w.heap.size<=r2/\r2<r3/\r3<W.heap.size
theorem FoS.start {w W0 W1:World} (h0:W0=w.alloc (.cells #[.slice none 0 0,.slice none 0 0,.int .u64 0] 32)) (h1:W1=W0.alloc (.cells #[.slice none 0 0,.slice none 0 0,.int .u64 0] 32)):FoS w w.heap.size (w.heap.size+1) ⟨[],[],0⟩ W1:=by
 have s0:W0.heap.size=w.heap.size+1:=by rw [h0];exact World.size_alloc _ _
 have s1:W1.heap.size=w.heap.size+1+1:=by rw [h1,World.size_alloc,s0]
 have b0:Below w.heap.size w W0:=by rw [h0];exact (Below.refl _ _).alloc (nLr _) _
 have b1:Below W0.heap.size W0 W1:=by rw [h1];exact (Below.refl _ _).alloc (nLr _) _
 refine ⟨⟨none,0,none,0,?_,nLr _,fun h=>absurd rfl h,fun h=>absurd rfl h⟩,(b1.block _ (by omega)).trans (by rw [h0];exact wAh w _),b0.trans (Below.mono b1 b0.size),by omega⟩;rw [<-s0,h1];exact wAh W0 _
theorem oneO_take (ms:List CM) (a:AM) {k:Nat} (h:k<ms.length):oneO (ms.take (k+1)) a=(doA (oneO (ms.take k) a) ms[k]).1:=by
 rw [List.take_succ_eq_append_getElem h];unfold oneO;rw [List.foldl_append]
 rfl
theorem refFoldX_any (A:Option Addr) (L c:Nat) (l:List CmdV) (w:World) (hL:L=l.length) (hm:L<=100) (hC:HasC w A l):
 Calls Tryz.prog 8 #[.slice A L c] w fun e W'=>∃v',e=.returned v'/\AppV W' v' (oneO (l.map (·.m)) ⟨[],[],0⟩)/\Below w.heap.size w W':=by
 obtain ⟨W0,hW0⟩:∃x,x=w.alloc (Obj.cells #[.slice none 0 0,.slice none 0 0,.int .u64 0] 32):=⟨_,rfl⟩;obtain ⟨W1,hW1⟩:∃x,x=W0.alloc (Obj.cells #[.slice none 0 0,.slice none 0 0,.int .u64 0] 32):=⟨_,rfl⟩;have D:=FoS.start hW0 hW1;obtain ⟨r2,hr2⟩:∃p,p=w.heap.size:=⟨_,rfl⟩;obtain ⟨r3,hr3⟩:∃q,q=r2+1:=⟨_,rfl⟩;rw [<-hr2,<-hr3] at D;obtain ⟨ms,hms⟩:∃ms,ms=l.map (·.m):=⟨_,rfl⟩;rw [<-hms];have H1:=hiD D;have HL:=hiD (aI hL hC);have HMS:=hiD (aI hms (show ms.length=L by rw [hms,List.length_map];exact hL.symm));have hmi:(L:Int)<=100:=by omega
 clear D hL hC hms;go_enter Tryz.func8,Tryz.ntmps8;go_upto_region 2 with (fail)
 rw [<-hW0,<-hW1,<-hr2,<-hr3];clear hW0 hW1 hr2 hr3
 go_wp2_with fail
 go_loopw [4] (fun i wr=>∃k:Nat,k<=L/\i=.int .i64 (k:Int)/\Hid (FoS w r2 r3 (oneO (ms.take k) ⟨[],[],0⟩) wr)) (fun i _=>L - (intOf i).toNat)
 case atStart=>exact ⟨0,Nat.zero_le _,rfl,hiD H1.out⟩
 case round=>
  obtain ⟨k,hk,rfl,HK⟩:=hrel
  by_cases hlt:k<L
  ·have hki:(k:Int)<L:=by omega
   have hk1:k<l.length:=by have:=HL.out.1;omega
   have hk2:k<ms.length:=by have:=HMS.out.2;omega
   obtain ⟨cb,co,hA,hcb,hf⟩:=HL.out.2 (by rintro rfl;simp at hk1);obtain ⟨hfc,hfo⟩:=hf k hk1;subst hA;obtain ⟨x,hx⟩:∃x,x=l[k]:=⟨_,rfl⟩;rw [<-hx] at hfc hfo;obtain ⟨a,ha⟩:∃a,a=oneO (ms.take k) ⟨[],[],0⟩:=⟨_,rfl⟩;have hms:ms[k]=x.m:=by rw [hx];simp [HMS.out.1]
   have hstep:oneO (ms.take (k+1)) ⟨[],[],0⟩=(doA a x.m).1:=by rw [oneO_take ms _ hk2,hms,<-ha]
   have hlim:LimAn 100 a:=by
    rw [ha];refine (oneO_lim LimAn.nil _ (by rw [List.length_take];omega) fun m hm=>?_).more (by rw [List.length_take];omega);have hm2:=List.mem_of_mem_take hm;rw [HMS.out.1] at hm2;obtain ⟨v,hv,rfl⟩:=List.mem_map.1 hm2;obtain ⟨j,hj,rfl⟩:=List.mem_iff_getElem.1 hv;obtain ⟨_,_,_,_,f⟩:=HL.out.2 (by rintro rfl;simp at hj);exact ⟨(f j hj).2.cl,(f j hj).2.sq⟩
   have hsrt:SortedA a:=by rw [ha];exact SortedA.empty.one _
   have F0:=HK.out;rw [<-ha] at F0;obtain ⟨B1,d1,B2,d2,e1,e2,e3,e4⟩:=F0.ex;obtain ⟨o1,o2,o3⟩:=F0.ord;have hX:=hiD (aI hfc (aI hfo (aI hcb (aI hstep (aI hlim (aI hsrt F0))))));have hcall:∀W:World,(∀g,g<wr.heap.size->g≠r3->W.heap[g]?=wr.heap[g]?)->Below w.heap.size wr.drew W->wr.heap.size<=W.heap.size->Calls Tryz.prog 23 #[.agg #[.slice B1 a.ps.length d1,.slice B2 a.ss.length d2,.int .u64 (a.n:Int)],x.val] W fun e W'=>∃v',e=.returned (.tuple #[v',.agg #[.int .u8 ((doA a x.m).2.1.1:Int),.string (doA a x.m).2.1.2],.bool (doA a x.m).2.2])/\AppV W' v' (doA a x.m).1/\Below W.heap.size W W':=fun W h1 h2 h3=>refDoX_lim B1 B2 d1 d2 a x W hlim (by omega) hsrt e2 (e3.apart e1 h1) (e4.apart e1 h1) (hfo.below (F0.below.drew.trans h2))
   have hxc:∀i u,x.cells[i]?=some u->wr.cell? ⟨cb,co+k*7+i,none⟩=some u:=fun i u hu=>(F0.below.cell (p:=⟨cb,co+k*7+i,none⟩) hcb).trans (hfc i u hu)
   go_upto_region 5 with (fail)
   refine rxfo r3 k cb co L c B1 a.ps.length d1 B2 a.ss.length d2 a.n w.heap.size x (doA a x.m).2.1.1 (doA a x.m).2.1.2 (doA a x.m).2.2 (doA a x.m).1 _ wr _ rfl rfl rfl rfl hlt o3 F0.below.size (by omega) (by omega) (by omega) hxc hcall ⟨fun _ _ _=>rfl,nLr _,Below.refl _ _,fun _=>e1,fun h=>(by cases h),fun h=>(by cases h)⟩ ?_;intro u W9 hws;obtain ⟨w1,w2,w3,_,w5,w6⟩:=hws;obtain ⟨v',hu,hAV⟩:=w5 rfl;obtain ⟨C1,f1,C2,f2,hv,hc9⟩:=w6 rfl;subst hu;have hv':v'=.agg #[.slice C1 (doA a x.m).1.ps.length f1,.slice C2 (doA a x.m).1.ss.length f2,.int .u64 ((doA a x.m).1.n:Int)]:=hv;obtain ⟨G1,g1,G2,g2,hv2,hle,hP9,hE9⟩:=hAV;rw [hv'] at hv2
   cases hv2
   have F9:FoS w r2 r3 (oneO (ms.take (k+1)) ⟨[],[],0⟩) W9:=by
    rw [hstep];exact ⟨⟨C1,f1,C2,f2,hc9,hle,hP9,hE9⟩,(w1 r2 (by show r2<wr.heap.size;omega) (by omega)).trans F0.res,F0.below.drew.trans w3,o1,o2,nLl o3 w2⟩
   have H9:=hiD F9;clear hx ha hms hstep hlim hsrt F0 hcall hxc w1 w2 w3 w5 w6 hv hv' hc9 hle hP9 hE9 F9 e1 e2 e3 e4 hfc hfo o1 o2 o3 hcb hk1 hk2;simp only [puts,List.foldl_cons,List.foldl_nil,Act.put,List.setIfInBounds_toArray,List.set_cons_succ,List.set_cons_zero];go_wp2;exact ⟨⟨k+1,by omega,by congr 1,hiD H9.out⟩,by simp only [intOf];omega⟩
  ·have hki:¬(k:Int)<L:=by omega
   have F0:=HK.out;rw [List.take_of_length_le (by have:=HMS.out.2;omega)] at F0;obtain ⟨B1,d1,B2,d2,e1,e2,e3,e4⟩:=F0.ex;obtain ⟨o1,o2,o3⟩:=F0.ord;obtain ⟨y0,y1,y2⟩:=e1.cells;obtain ⟨x0,x1,x2⟩:=F0.res.cells;have z0:=blk_frozen F0.res 0;have z1:=blk_frozen F0.res 1;have z2:=blk_frozen F0.res 2;have HF:=hiD (aI F0 (aI e2 (aI e3 (aI e4 o1))));obtain ⟨a,ha⟩:∃a,a=oneO ms ⟨[],[],0⟩:=⟨_,rfl⟩;rw [<-ha] at y0 y1 y2 HF;have HA:=hiD ha;clear F0 e1 e2 e3 e4 o1 o2 o3 ha HK;go_wp2;have k9:AppC (setA wr r2 B1 a.ps.length d1 B2 a.ss.length d2 a.n) r2 B1 a.ps.length d1 B2 a.ss.length d2 a.n:=HF.out.1.res.set;have h9:∀b,b<wr.heap.size->b≠r2->(setA wr r2 B1 a.ps.length d1 B2 a.ss.length d2 a.n).heap[b]?=wr.heap[b]?:=fun b _ h=>setA_heap _ _ h
   have ho:=HF.out.2.2.2.2;have b9:Below w.heap.size w (setA wr r2 B1 a.ps.length d1 B2 a.ss.length d2 a.n):=((HF.out.1.below.setCell (p:=⟨r2,0,none⟩) ho _).setCell (p:=⟨r2,1,none⟩) ho _).setCell (p:=⟨r2,2,none⟩) ho _;have p9:=HF.out.2.2.1.apart HF.out.1.res h9;have q9:=HF.out.2.2.2.1.apart HF.out.1.res h9;obtain ⟨W9,hW9⟩:∃W9,W9=setA wr r2 B1 a.ps.length d1 B2 a.ss.length d2 a.n:=⟨_,rfl⟩;rw [<-hW9] at k9 b9 p9 q9;unfold setA at hW9;rw [<-hW9];obtain ⟨t0,t1,t2⟩:=k9.cells;rw [<-HA.out];exact bodyPost_ret (v:=.agg #[.slice B1 a.ps.length d1,.slice B2 a.ss.length d2,.int .u64 (a.n:Int)]) (by simp [results,Tryz.results8,go_sem,t0,t1,t2]) rfl ⟨_,rfl,⟨B1,d1,B2,d2,rfl,HF.out.2.1,p9,q9⟩,b9⟩
theorem run_ixR (w:World) (b L c q:Nat) (h:q<L):(Instr.indexAt 35 (.slice (some ⟨b,0,none⟩) L c) (.int .i64 (q:Int))).run Tryz.prog w=.ok (.pointer (some ⟨b,q*2,none⟩)) w:=by
 have h1:(q:Int)<L:=by omega
 have h0:(0:Int)<=(q:Int):=by omega
 simp [go_sem,h1,h0]
theorem run_ixB (w:World) (b L c q:Nat) (h:q<L):(Instr.indexAt 36 (.slice (some ⟨b,0,none⟩) L c) (.int .i64 (q:Int))).run Tryz.prog w=.ok (.pointer (some ⟨b,q,none⟩)) w:=by
 have h1:(q:Int)<L:=by omega
 have h0:(0:Int)<=(q:Int):=by omega
 simp [go_sem,h1,h0]
def setRat (w:World) (b o cd:Nat) (tx:ByteArray):World:=(w.setCell ⟨b,o,none⟩ (.int .u8 (cd:Int))).setCell ⟨b,o+1,none⟩ (.string tx)
theorem run_sxRat {w:World} {b o cd:Nat} {tx:ByteArray} {cs:Array Value} (h:w.heap[b]?=some (.cells cs 45 (0,0))) (ho:o+1<cs.size):(Instr.storeAt 45 (.pointer (some ⟨b,o,none⟩)) (.agg #[.int .u8 (cd:Int),.string tx])).run Tryz.prog w=.ok () (setRat w b o cd tx):=by
 have c0:w.cell? ⟨b,o,none⟩=some cs[o]:=by rw [blk_cell h o];exact Array.getElem?_eq_getElem (by omega)
 have c1:w.cell? ⟨b,o+1,none⟩=some cs[o+1]:=by rw [blk_cell h (o+1)];exact Array.getElem?_eq_getElem ho
 have z0:=blk_frozen h o;have z1:=blk_frozen h (o+1);simp [go_sem,c0,c1,z0,z1,setRat]
theorem setRat_heap {w:World} {b o cd k:Nat} {tx:ByteArray} (hk:k≠b):(setRat w b o cd tx).heap[k]?=w.heap[k]?:=(Below.heap_setCell _ _ _ _ hk).trans (Below.heap_setCell _ _ _ _ hk)
theorem run_sxB {w:World} {b o:Nat} {x:Bool} {cs:Array Value} (h:w.heap[b]?=some (.cells cs 4 (0,0))) (ho:o<cs.size):(Instr.storeAt 4 (.pointer (some ⟨b,o,none⟩)) (.bool x)).run Tryz.prog w=.ok () (w.setCell ⟨b,o,none⟩ (.bool x)):=by
 have c0:w.cell? ⟨b,o,none⟩=some cs[o]:=by rw [blk_cell h o];exact Array.getElem?_eq_getElem ho
 have z0:=blk_frozen h o;simp [go_sem,c0,z0]
def RowR (cs:Array Value):Prop:=∀(i:Nat) (v:Value),cs[i]?=some v->(i%2=0->∃z:Int,v=.int .u8 z)/\(i%2=1->∃t,v=.string t)
def RowB (cs:Array Value):Prop:=∀(i:Nat) (v:Value),cs[i]?=some v->∃x:Bool,v=.bool x
theorem AppV.apartR {w W:World} {v:Value} {a:AM} {r:Nat} {cs:Array Value} {ty:TypeId} (h:AppV w v a) (hr:w.heap[r]?=some (.cells cs ty (0,0))) (hc:RowR cs) (hW:∀b,b<w.heap.size->b≠r->W.heap[b]?=w.heap[b]?):AppV W v a:=by
 obtain ⟨B0,d0,B1,d1,e1,e2,e3,e4⟩:=h;refine ⟨B0,d0,B1,d1,e1,e2,fun hl=>?_,fun hl=>?_⟩
 ·have hl0:0<a.ps.length:=List.length_pos_iff.2 hl;obtain ⟨b,o,e,h1,h2⟩:=e3 hl
  have hb:b≠r:=by
   rintro rfl;obtain ⟨k1,k2⟩:=h2 0 hl0;rw [blk_cell hr] at k1 k2
   rcases Nat.mod_two_eq_zero_or_one (o+0*2) with hm|hm
   ·obtain ⟨z,hz⟩:=(hc _ _ k1).1 hm
    cases hz
   ·obtain ⟨z,hz⟩:=(hc _ _ k2).1 (by omega)
    cases hz
  have hbw:=hW b h1 hb;exact ⟨b,o,e,lt_heap h1 hbw,fun j hj=>⟨(cell_heap hbw).trans (h2 j hj).1,(cell_heap hbw).trans (h2 j hj).2⟩⟩
 ·have hl0:0<a.ss.length:=List.length_pos_iff.2 hl;obtain ⟨b,o,e,h1,h2⟩:=e4 hl
  have hb:b≠r:=by
   rintro rfl;have k1:w.cell? ⟨b,o+0*4+0,none⟩=some (.int .u32 (a.ss[0].cl:Int)):=h2 0 hl0 0 _ rfl;rw [blk_cell hr] at k1
   rcases Nat.mod_two_eq_zero_or_one (o+0*4+0) with hm|hm
   ·obtain ⟨z,hz⟩:=(hc _ _ k1).1 hm
    cases hz
   ·obtain ⟨z,hz⟩:=(hc _ _ k1).2 hm
    cases hz
  have hbw:=hW b h1 hb;exact ⟨b,o,e,lt_heap h1 hbw,fun j hj i u hu=>(cell_heap hbw).trans (h2 j hj i u hu)⟩
theorem AppV.apartB {w W:World} {v:Value} {a:AM} {r:Nat} {cs:Array Value} {ty:TypeId} (h:AppV w v a) (hr:w.heap[r]?=some (.cells cs ty (0,0))) (hc:RowB cs) (hW:∀b,b<w.heap.size->b≠r->W.heap[b]?=w.heap[b]?):AppV W v a:=by
 obtain ⟨B0,d0,B1,d1,e1,e2,e3,e4⟩:=h;refine ⟨B0,d0,B1,d1,e1,e2,fun hl=>?_,fun hl=>?_⟩
 ·have hl0:0<a.ps.length:=List.length_pos_iff.2 hl;obtain ⟨b,o,e,h1,h2⟩:=e3 hl
  have hb:b≠r:=by
   rintro rfl;obtain ⟨k1,k2⟩:=h2 0 hl0;rw [blk_cell hr] at k1;obtain ⟨z,hz⟩:=hc _ _ k1
   cases hz
  have hbw:=hW b h1 hb;exact ⟨b,o,e,lt_heap h1 hbw,fun j hj=>⟨(cell_heap hbw).trans (h2 j hj).1,(cell_heap hbw).trans (h2 j hj).2⟩⟩
 ·have hl0:0<a.ss.length:=List.length_pos_iff.2 hl;obtain ⟨b,o,e,h1,h2⟩:=e4 hl
  have hb:b≠r:=by
   rintro rfl;have k1:w.cell? ⟨b,o+0*4+0,none⟩=some (.int .u32 (a.ss[0].cl:Int)):=h2 0 hl0 0 _ rfl;rw [blk_cell hr] at k1;obtain ⟨z,hz⟩:=hc _ _ k1
   cases hz
  have hbw:=hW b h1 hb;exact ⟨b,o,e,lt_heap h1 hbw,fun j hj i u hu=>(cell_heap hbw).trans (h2 j hj i u hu)⟩
noncomputable def opsRu:List Oper:=opsOf Tryz.f10 8
def wsRu (r3 rb fb q _cb _co _Lq _cc _rc _fc:Nat) (A0:Option Addr) (n0 c0:Nat) (E:Option Addr) (nl lc n B0:Nat) (_x:CmdV) (cd:Nat) (tx:ByteArray) (fr:Bool) (b:AM) (rs fs:Array Value) (W0:World) (L:Nat->Bool) (u:Value) (w:World):Prop:=(∀g,g<W0.heap.size->g≠r3->g≠rb->g≠fb->w.heap[g]?=W0.heap[g]?)/\W0.heap.size<=w.heap.size/\Below B0 W0 w/\(L 14=false->AppC w r3 A0 n0 c0 E nl lc n)/\(L 9=true->∃v',u=.tuple #[v',.agg #[.int .u8 (cd:Int),.string tx],.bool fr]/\AppV w v' b)/\(L 14=true->∃B1 d1 B2 d2,tupAt u 0=.agg #[.slice B1 b.ps.length d1,.slice B2 b.ss.length d2,.int .u64 (b.n:Int)]/\AppC w r3 B1 b.ps.length d1 B2 b.ss.length d2 b.n)/\(L 16=false->w.heap[rb]?=some (.cells rs 45 (0,0)))/\(L 16=true->w.heap[rb]?=some (.cells ((rs.setIfInBounds (q*2) (.int .u8 (cd:Int))).setIfInBounds (q*2+1) (.string tx)) 45 (0,0)))/\(L 18=false->w.heap[fb]?=some (.cells fs 4 (0,0)))/\(L 18=true->w.heap[fb]?=some (.cells (fs.setIfInBounds q (.bool fr)) 4 (0,0)))
theorem wsRu_same (r3 rb fb q cb co Lq cc rc fc:Nat) (A0:Option Addr) (n0 c0:Nat) (E:Option Addr) (nl lc n B0:Nat) (x:CmdV) (cd:Nat) (tx:ByteArray) (fr:Bool) (b:AM) (rs fs:Array Value) {W0:World} {L:Nat->Bool} {i:Nat} {u:Value} {w:World} (k9:((9:Nat)==i)=false) (k14:((14:Nat)==i)=false) (k16:((16:Nat)==i)=false) (k18:((18:Nat)==i)=false) (h:wsRu r3 rb fb q cb co Lq cc rc fc A0 n0 c0 E nl lc n B0 x cd tx fr b rs fs W0 L u w):wsRu r3 rb fb q cb co Lq cc rc fc A0 n0 c0 E nl lc n B0 x cd tx fr b rs fs W0 (fun j=>L j||j==i) u w:=by
 unfold wsRu at h ⊢;simp only [beq_noF k9,beq_noF k14,beq_noF k16,beq_noF k18];exact h
theorem rxru (r3 rb fb q cb co Lq cc rc fc:Nat) (A0:Option Addr) (n0 c0:Nat) (E:Option Addr) (nl lc n B0:Nat) (x:CmdV) (cd:Nat) (tx:ByteArray) (fr:Bool) (b:AM) (rs fs:Array Value) (a:Act) (w:World) (Q:Exit->Act->World->Prop) (hN:a.tmps.size=58) (h1:a.tmps.getD 1 undef=.slice (some ⟨cb,co,none⟩) Lq cc) (h3:a.tmps.getD 3 undef=.pointer (some ⟨r3,0,none⟩)) (h10:a.tmps.getD 10 undef=.slice (some ⟨rb,0,none⟩) Lq rc) (h11:a.tmps.getD 11 undef=.slice (some ⟨fb,0,none⟩) Lq fc) (h14:a.tmps.getD 14 undef=.int .i64 (q:Int)) (hq:q<Lq) (hrs:rs.size=Lq*2) (hfs:fs.size=Lq) (hrk:RowR rs) (hfk:RowB fs) (h3B:r3<w.heap.size) (hrB:rb<w.heap.size) (hfB:fb<w.heap.size) (hB0:B0<=w.heap.size) (hB3:B0<=r3) (hBr:B0<=rb) (hBf:B0<=fb) (hr3:r3≠rb) (hf3:r3≠fb) (hrf:rb≠fb) (hcb:cb≠r3) (hcr:cb≠rb) (hcf:cb≠fb) (hcw:cb<w.heap.size) (hx:∀i u,x.cells[i]?=some u->w.cell? ⟨cb,co+q*7+i,none⟩=some u) (hC:∀w',(∀g,g<w.heap.size->g≠r3->g≠rb->g≠fb->w'.heap[g]?=w.heap[g]?)->Below B0 w.drew w'->w.heap.size<=w'.heap.size->Calls Tryz.prog 23 #[.agg #[.slice A0 n0 c0,.slice E nl lc,.int .u64 (n:Int)],x.val] w' fun e W'=>∃v',e=.returned (.tuple #[v',.agg #[.int .u8 (cd:Int),.string tx],.bool fr])/\AppV W' v' b/\Below w'.heap.size w' W') (hW0:wsRu r3 rb fb q cb co Lq cc rc fc A0 n0 c0 E nl lc n B0 x cd tx fr b rs fs w.drew (fun _=>false) undef w.drew) (hQ:∀(u:Value) w',wsRu r3 rb fb q cb co Lq cc rc fc A0 n0 c0 E nl lc n B0 x cd tx fr b rs fs w.drew (fun _=>true) u w'->Q .normal (puts [(35,.slice (some ⟨rb,0,none⟩) Lq rc),(36,.int .i64 (q:Int)),(37,.slice (some ⟨fb,0,none⟩) Lq fc),(38,.int .i64 (q:Int)),(39,.agg #[.slice A0 n0 c0,.slice E nl lc,.int .u64 (n:Int)]),(40,.slice (some ⟨cb,co,none⟩) Lq cc),(41,.int .i64 (q:Int)),(42,.pointer (some ⟨cb,co+q*7,none⟩)),(43,x.val),(44,u),(34,u),(45,tupAt u 0),(46,tupAt u 1),(47,tupAt u 2),(48,.pointer (some ⟨rb,q*2,none⟩)),(49,.pointer (some ⟨fb,q,none⟩))] a) w')
 :(Code.region 8 opsRu.toArray true).wp Tryz.prog Q a w:=by
 refine region_c (U:=Value) 58 opsRu [(1,.slice (some ⟨cb,co,none⟩) Lq cc),(3,.pointer (some ⟨r3,0,none⟩)),(10,.slice (some ⟨rb,0,none⟩) Lq rc),(11,.slice (some ⟨fb,0,none⟩) Lq fc),(14,.int .i64 (q:Int))] [9,11,12,13,14,16,18] (fun u=>[.slice (some ⟨rb,0,none⟩) Lq rc,.int .i64 (q:Int),.slice (some ⟨fb,0,none⟩) Lq fc,.int .i64 (q:Int),.agg #[.slice A0 n0 c0,.slice E nl lc,.int .u64 (n:Int)],.slice (some ⟨cb,co,none⟩) Lq cc,.int .i64 (q:Int),.pointer (some ⟨cb,co+q*7,none⟩),x.val,u,u,tupAt u 0,tupAt u 1,tupAt u 2,undef,.pointer (some ⟨rb,q*2,none⟩),undef,.pointer (some ⟨fb,q,none⟩),undef]) (wsRu r3 rb fb q cb co Lq cc rc fc A0 n0 c0 E nl lc n B0 x cd tx fr b rs fs w.drew) undef follows (by kernel_rfl) hN ⟨h1,h3,h10,h11,h14,trivial⟩ (fun _=>nBl rfl) hW0 (fun _ _ _ _ hi h=>wsRu_same _ _ _ _ _ _ _ _ _ _ _ _ _ _ _ _ _ _ _ _ _ _ _ _ _ (key_ne hi rfl) (key_ne hi rfl) (key_ne hi rfl) (key_ne hi rfl) h) ?_ ?_ ?_
 ·intro L u w' hW hcl;exact ⟨fun _=>rfl,fun _=>rfl,fun _=>rfl,fun _=>rfl,fun hLi=>ob_load (run_lxA _ _ _ _ _ _ _ _ _ (hW.2.2.2.1 (not_yetF hcl 40 (show reachB opsRu 40 14 4=true by kernel_rfl) hLi))),fun _=>rfl,fun _=>rfl,fun _=>ob_idx (run_ixX _ _ _ _ _ _ hq),fun _=>ob_load (run_ldX _ _ _ x (fun i u hu=>(cell_heap (hW.1 cb hcw hcb hcr hcf)).trans (hx i u hu))),trivial,fun _=>rfl,trivial,trivial,trivial,trivial,fun _=>ob_idx (run_ixR _ _ _ _ _ hq),trivial,fun _=>ob_idx (run_ixB _ _ _ _ _ hq),trivial,trivial⟩
 ·refine ⟨?_,?_,?_,?_,?_,?_,?_,trivial⟩
  ·rintro o ho L u a' w' hLi hpre hcl hR hW fin;have hio:=(nthO_eq _ _).symm.trans ho
   cases ho
   have q4:a'.tmps.getD 39 undef=.agg #[.slice A0 n0 c0,.slice E nl lc,.int .u64 (n:Int)]:=hR.val 4 _ 39 rfl rfl (edge_ofF hpre 4 rfl);have q8:a'.tmps.getD 43 undef=x.val:=hR.val 8 _ 43 rfl rfl (edge_ofF hpre 8 rfl);obtain ⟨w1,w2,w3,w4,w5,w6,w7,w8,w9,w10⟩:=hW;have n14:L 14=false:=not_yetF hcl 40 (show reachB opsRu 40 14 9=true by kernel_rfl) hLi;have n16:L 16=false:=not_yetF hcl 40 (show reachB opsRu 40 16 9=true by kernel_rfl) hLi;have n18:L 18=false:=not_yetF hcl 40 (show reachB opsRu 40 18 9=true by kernel_rfl) hLi;refine step_callD hio rfl rfl (enters_of Tryz.func23 (by kernel_rfl) rfl) (show Array.map a'.eval #[.tmp 39,.tmp 43]=_ from by simp only [List.map_toArray,List.map_cons,List.map_nil,Act.eval,q4,q8]) ((hC w' w1 w3 w2).mono ?_);rintro e w'' ⟨v',rfl,hv',hb⟩
   have hW2:wsRu r3 rb fb q cb co Lq cc rc fc A0 n0 c0 E nl lc n B0 x cd tx fr b rs fs w.drew (fun j=>L j||j==9) (.tuple #[v',.agg #[.int .u8 (cd:Int),.string tx],.bool fr]) w'':=by
    have hsz:∀{g:Nat},g<w.heap.size->g<w'.heap.size:=fun h=>nLl h w2
    refine ⟨fun g h1 h2 h3 h4=>(hb.block g (hsz h1)).trans (w1 g h1 h2 h3 h4),nLt w2 hb.size,w3.trans (Below.mono hb (nLt hB0 w2)),fun _=>(hb.block r3 (hsz h3B)).trans (w4 n14),fun _=>⟨v',rfl,hv'⟩,fun h=>?_,fun _=>(hb.block rb (hsz hrB)).trans (w7 n16),fun h=>?_,fun _=>(hb.block fb (hsz hfB)).trans (w9 n18),fun h=>?_⟩
    ·have h':L 14=true:=by simpa using h
     rw [n14] at h'
     cases h'
    ·have h':L 16=true:=by simpa using h
     rw [n16] at h'
     cases h'
    ·have h':L 18=true:=by simpa using h
     rw [n18] at h'
     cases h'
   exact ⟨_,rfl,(fin ((.tuple #[v',.agg #[.int .u8 (cd:Int),.string tx],.bool fr])) _ _ (fun _=>rfl) (fun j hj=>by
    rcases j with _|_|_|_|_|_|_|_|_|_|_|_|_|_|_|_|_|_|_|j<;>first|rfl|exact Bool.noConfusion (hj.symm.trans hLi)|exact Bool.noConfusion (hj.symm.trans (not_yetF hcl 30 (by kernel_rfl) hLi))) (hW2))⟩
  ·rintro o ho L u a' w' hLi hpre hcl hR hW fin;have hio:=(nthO_eq _ _).symm.trans ho
   cases ho
   have q10:a'.tmps.getD 34 undef=u:=hR.val 10 _ 34 rfl rfl (edge_ofF hpre 10 rfl);obtain ⟨v',hv,_⟩:=hW.2.2.2.2.1 (reach_ofF hcl 40 10 9 (show reachB opsRu 40 10 9=true by kernel_rfl) (edge_ofF hpre 10 rfl));exact step_extractF hio rfl rfl (q10.trans hv) (by rw [hv];rfl) (fin (u) (tupAt u 0) _ (fun _=>rfl) (fun _ _=>rfl) (wsRu_same _ _ _ _ _ _ _ _ _ _ _ _ _ _ _ _ _ _ _ _ _ _ _ _ _ rfl rfl rfl rfl hW))
  ·rintro o ho L u a' w' hLi hpre hcl hR hW fin;have hio:=(nthO_eq _ _).symm.trans ho
   cases ho
   have q10:a'.tmps.getD 34 undef=u:=hR.val 10 _ 34 rfl rfl (edge_ofF hpre 10 rfl);obtain ⟨v',hv,_⟩:=hW.2.2.2.2.1 (reach_ofF hcl 40 10 9 (show reachB opsRu 40 10 9=true by kernel_rfl) (edge_ofF hpre 10 rfl));exact step_extractF hio rfl rfl (q10.trans hv) (by rw [hv];rfl) (fin (u) (tupAt u 1) _ (fun _=>rfl) (fun _ _=>rfl) (wsRu_same _ _ _ _ _ _ _ _ _ _ _ _ _ _ _ _ _ _ _ _ _ _ _ _ _ rfl rfl rfl rfl hW))
  ·rintro o ho L u a' w' hLi hpre hcl hR hW fin;have hio:=(nthO_eq _ _).symm.trans ho
   cases ho
   have q10:a'.tmps.getD 34 undef=u:=hR.val 10 _ 34 rfl rfl (edge_ofF hpre 10 rfl);obtain ⟨v',hv,_⟩:=hW.2.2.2.2.1 (reach_ofF hcl 40 10 9 (show reachB opsRu 40 10 9=true by kernel_rfl) (edge_ofF hpre 10 rfl));exact step_extractF hio rfl rfl (q10.trans hv) (by rw [hv];rfl) (fin (u) (tupAt u 2) _ (fun _=>rfl) (fun _ _=>rfl) (wsRu_same _ _ _ _ _ _ _ _ _ _ _ _ _ _ _ _ _ _ _ _ _ _ _ _ _ rfl rfl rfl rfl hW))
  ·rintro o ho L u a' w' hLi hpre hcl hR hW fin;have hio:=(nthO_eq _ _).symm.trans ho
   cases ho
   have hF:=hR.frm;have q11:a'.tmps.getD 45 undef=tupAt u 0:=hR.val 11 _ 45 rfl rfl (edge_ofF hpre 11 rfl);obtain ⟨w1,w2,w3,w4,w5,w6,w7,w8,w9,w10⟩:=hW;have h4:=w4 hLi;obtain ⟨v',hu,hAV⟩:=w5 (edge_ofF hpre 9 rfl);have hAV0:=hAV;obtain ⟨B1,d1,B2,d2,hv,hle,_,_⟩:=hAV;subst hv;have hx1:a'.eval (.tmp 3)=.pointer (some ⟨r3,0,none⟩):=(hF.at 3 rfl h3);have hx2:a'.eval (.tmp 45)=.agg #[.slice B1 b.ps.length d1,.slice B2 b.ss.length d2,.int .u64 (b.n:Int)]:=q11.trans (by rw [hu];rfl);have hst:=run_sxA (B0:=B1) (m0:=b.ps.length) (d0:=d1) (B1:=B2) (m1:=b.ss.length) (d1:=d2) (m:=b.n) h4
   refine step_skip hio rfl (by intro c h;cases h) (by simp [Oper.about]) (w':=setA w' r3 B1 b.ps.length d1 B2 b.ss.length d2 b.n) (by
    unfold execOp;simp only [hx1,hx2,Sem.run_bind,hst,Result.andThen_ok]
    rfl) ?_
   have hW2:wsRu r3 rb fb q cb co Lq cc rc fc A0 n0 c0 E nl lc n B0 x cd tx fr b rs fs w.drew (fun j=>L j||j==14) u (setA w' r3 B1 b.ps.length d1 B2 b.ss.length d2 b.n):=by
    refine ⟨fun g h1 h2 h3 h4=>(setA_heap _ _ h2).trans (w1 g h1 h2 h3 h4),by simpa [setA] using w2,((w3.setCell (p:=⟨r3,0,none⟩) hB3 _).setCell (p:=⟨r3,1,none⟩) hB3 _).setCell (p:=⟨r3,2,none⟩) hB3 _,fun h=>(by simp at h),fun _=>⟨_,hu,hAV0.apart h4 (fun g _ h2=>setA_heap _ _ h2)⟩,fun _=>⟨B1,d1,B2,d2,by rw [hu];rfl,h4.set⟩,fun h=>(setA_heap _ _ (Ne.symm hr3)).trans (w7 (by simpa using h)),fun h=>(setA_heap _ _ (Ne.symm hr3)).trans (w8 (by simpa using h)),fun h=>(setA_heap _ _ (Ne.symm hf3)).trans (w9 (by simpa using h)),fun h=>(setA_heap _ _ (Ne.symm hf3)).trans (w10 (by simpa using h))⟩
   exact (fin (u) _ _ (fun h=>(by cases h)) (fun _ _=>rfl) (hW2))
  ·rintro o ho L u a' w' hLi hpre hcl hR hW fin;have hio:=(nthO_eq _ _).symm.trans ho
   cases ho
   have q15:a'.tmps.getD 48 undef=.pointer (some ⟨rb,q*2,none⟩):=hR.val 15 _ 48 rfl rfl (edge_ofF hpre 15 rfl);have q12:a'.tmps.getD 46 undef=tupAt u 1:=hR.val 12 _ 46 rfl rfl (edge_ofF hpre 12 rfl);obtain ⟨w1,w2,w3,w4,w5,w6,w7,w8,w9,w10⟩:=hW;have h7:=w7 hLi;obtain ⟨v',hu,hAV⟩:=w5 (reach_ofF hcl 40 12 9 (show reachB opsRu 40 12 9=true by kernel_rfl) (edge_ofF hpre 12 rfl));have hx1:a'.eval (.tmp 48)=.pointer (some ⟨rb,q*2,none⟩):=q15;have hx2:a'.eval (.tmp 46)=.agg #[.int .u8 (cd:Int),.string tx]:=q12.trans (by rw [hu];rfl);have hst:=run_sxRat (cd:=cd) (tx:=tx) h7 (show q*2+1<rs.size by omega)
   refine step_skip hio rfl (by intro c h;cases h) (by simp [Oper.about]) (w':=setRat w' rb (q*2) cd tx) (by
    unfold execOp;simp only [hx1,hx2,Sem.run_bind,hst,Result.andThen_ok]
    rfl) ?_
   have hW2:wsRu r3 rb fb q cb co Lq cc rc fc A0 n0 c0 E nl lc n B0 x cd tx fr b rs fs w.drew (fun j=>L j||j==16) u (setRat w' rb (q*2) cd tx):=by
    refine ⟨fun g h1 h2 h3 h4=>(setRat_heap h3).trans (w1 g h1 h2 h3 h4),by simpa [setRat] using w2,(w3.setCell (p:=⟨rb,q*2,none⟩) hBr _).setCell (p:=⟨rb,q*2+1,none⟩) hBr _,fun h=>(setRat_heap hr3).trans (w4 (by simpa using h)),fun _=>⟨v',hu,hAV.apartR h7 hrk (fun g _ h2=>setRat_heap h2)⟩,fun h=>?_,fun h=>(by simp at h),fun _=>blk_set (blk_set h7 _ _) _ _,fun h=>(setRat_heap (Ne.symm hrf)).trans (w9 (by simpa using h)),fun h=>(setRat_heap (Ne.symm hrf)).trans (w10 (by simpa using h))⟩;obtain ⟨B1,d1,B2,d2,e1,e2⟩:=w6 (by simpa using h);exact ⟨B1,d1,B2,d2,e1,(setRat_heap hr3).trans e2⟩
   exact (fin (u) _ _ (fun h=>(by cases h)) (fun _ _=>rfl) (hW2))
  ·rintro o ho L u a' w' hLi hpre hcl hR hW fin;have hio:=(nthO_eq _ _).symm.trans ho
   cases ho
   have q17:a'.tmps.getD 49 undef=.pointer (some ⟨fb,q,none⟩):=hR.val 17 _ 49 rfl rfl (edge_ofF hpre 17 rfl);have q13:a'.tmps.getD 47 undef=tupAt u 2:=hR.val 13 _ 47 rfl rfl (edge_ofF hpre 13 rfl);obtain ⟨w1,w2,w3,w4,w5,w6,w7,w8,w9,w10⟩:=hW;have h9:=w9 hLi;obtain ⟨v',hu,hAV⟩:=w5 (reach_ofF hcl 40 13 9 (show reachB opsRu 40 13 9=true by kernel_rfl) (edge_ofF hpre 13 rfl));have hx1:a'.eval (.tmp 49)=.pointer (some ⟨fb,q,none⟩):=q17;have hx2:a'.eval (.tmp 47)=.bool fr:=q13.trans (by rw [hu];rfl);have hst:=run_sxB (x:=fr) h9 (show q<fs.size by omega)
   refine step_skip hio rfl (by intro c h;cases h) (by simp [Oper.about]) (w':=w'.setCell ⟨fb,q,none⟩ (.bool fr)) (by
    unfold execOp;simp only [hx1,hx2,Sem.run_bind,hst,Result.andThen_ok]
    rfl) ?_
   have hW2:wsRu r3 rb fb q cb co Lq cc rc fc A0 n0 c0 E nl lc n B0 x cd tx fr b rs fs w.drew (fun j=>L j||j==18) u (w'.setCell ⟨fb,q,none⟩ (.bool fr)):=by
    have hsc:∀{g:Nat},g≠fb->(w'.setCell ⟨fb,q,none⟩ (.bool fr)).heap[g]?=w'.heap[g]?:=fun h=>Below.heap_setCell _ _ _ _ h
    refine ⟨fun g h1 h2 h3 h4=>(hsc h4).trans (w1 g h1 h2 h3 h4),by simpa using w2,w3.setCell (p:=⟨fb,q,none⟩) hBf _,fun h=>(hsc hf3).trans (w4 (by simpa using h)),fun _=>⟨v',hu,hAV.apartB h9 hfk (fun g _ h2=>hsc h2)⟩,fun h=>?_,fun h=>(hsc hrf).trans (w7 (by simpa using h)),fun h=>(hsc hrf).trans (w8 (by simpa using h)),fun h=>(by simp at h),fun _=>blk_set h9 _ _⟩;obtain ⟨B1,d1,B2,d2,e1,e2⟩:=w6 (by simpa using h);exact ⟨B1,d1,B2,d2,e1,(hsc hf3).trans e2⟩
   exact (fin (u) _ _ (fun h=>(by cases h)) (fun _ _=>rfl) (hW2))
 ·intro L u w' hl hW;refine hQ u w' ?_;unfold wsRu at hW ⊢;simp only [hl 9 (nBl rfl),hl 14 (nBl rfl),hl 16 (nBl rfl),hl 18 (nBl rfl)] at hW ⊢;exact hW
def updT {α:Type} (T:Nat->α) (q:Nat) (x:α):Nat->α:=fun j=>if j=q then x else T j
def rowR (T:Nat->(Nat × ByteArray) × Bool) (n:Nat):Array Value:=Array.ofFn (n:=n*2) fun i=>if i.val%2=0 then .int .u8 ((T (i.val/2)).1.1:Int) else .string (T (i.val/2)).1.2
def rowB (T:Nat->(Nat × ByteArray) × Bool) (n:Nat):Array Value:=Array.ofFn (n:=n) fun i=>.bool (T i.val).2
def rowT (T:Nat->Nat) (n:Nat):Array Value:=Array.ofFn (n:=n) fun i=>.int .i64 (T i.val:Int)
theorem rowR_size (T:Nat->(Nat × ByteArray) × Bool) (n:Nat):(rowR T n).size=n*2:=by simp [rowR]
theorem rowB_size (T:Nat->(Nat × ByteArray) × Bool) (n:Nat):(rowB T n).size=n:=by simp [rowB]
theorem rowT_size (T:Nat->Nat) (n:Nat):(rowT T n).size=n:=by simp [rowT]
theorem rowR_get (T:Nat->(Nat × ByteArray) × Bool) (n i:Nat):(rowR T n)[i]?=if i<n*2 then some (if i%2=0 then .int .u8 ((T (i/2)).1.1:Int) else .string (T (i/2)).1.2) else none:=by
 simp [rowR,Array.getElem?_ofFn]
theorem rowB_get (T:Nat->(Nat × ByteArray) × Bool) (n i:Nat):(rowB T n)[i]?=if i<n then some (.bool (T i).2) else none:=by
 simp [rowB,Array.getElem?_ofFn]
theorem rowT_get (T:Nat->Nat) (n i:Nat):(rowT T n)[i]?=if i<n then some (.int .i64 (T i:Int)) else none:=by
 simp [rowT,Array.getElem?_ofFn]
theorem rowR_row (T:Nat->(Nat × ByteArray) × Bool) (n:Nat):RowR (rowR T n):=by
 intro i v hv;rw [rowR_get] at hv
 split at hv
 ·have e:=osI hv;subst e;exact ⟨fun h=>⟨_,by rw [if_pos h]⟩,fun h=>⟨_,by rw [if_neg (by omega)]⟩⟩
 ·cases hv
theorem rowB_row (T:Nat->(Nat × ByteArray) × Bool) (n:Nat):RowB (rowB T n):=by
 intro i v hv;rw [rowB_get] at hv
 split at hv
 ·exact ⟨_,(osI hv).symm⟩
 ·cases hv
theorem rowR_set (T:Nat->(Nat × ByteArray) × Bool) {n q:Nat} (h:q<n) (cd:Nat) (tx:ByteArray) (fr:Bool):((rowR T n).setIfInBounds (q*2) (.int .u8 (cd:Int))).setIfInBounds (q*2+1) (.string tx)=rowR (updT T q ((cd,tx),fr)) n:=by
 apply Array.ext_getElem?
 intro i;rw [Array.getElem?_setIfInBounds,Array.getElem?_setIfInBounds,rowR_get,rowR_get,Array.size_setIfInBounds,rowR_size]
 by_cases h1:q*2+1=i
 ·subst h1;rw [if_pos rfl,if_pos (by omega),if_pos (by omega),if_neg (by omega),updT,if_pos (by omega)]
 ·rw [if_neg h1]
  by_cases h2:q*2=i
  ·subst h2;rw [if_pos rfl,if_pos (by omega),if_pos (by omega),if_pos (by omega),updT,if_pos (by omega)]
  ·rw [if_neg h2]
   by_cases hi:i<n*2
   ·have hne:¬i/2=q:=by omega
    rw [if_pos hi,if_pos hi];unfold updT;simp only [if_neg hne]
   ·rw [if_neg hi,if_neg hi]
theorem rowB_set (T:Nat->(Nat × ByteArray) × Bool) {n q:Nat} (h:q<n) (r:Nat × ByteArray) (fr:Bool):(rowB T n).setIfInBounds q (.bool fr)=rowB (updT T q (r,fr)) n:=by
 apply Array.ext_getElem?
 intro i;rw [Array.getElem?_setIfInBounds,rowB_get,rowB_get,rowB_size]
 by_cases h1:q=i
 ·subst h1;rw [if_pos rfl,if_pos h,if_pos h,updT,if_pos rfl]
 ·rw [if_neg h1,updT,if_neg (Ne.symm h1)]
theorem rowT_set (T:Nat->Nat) {n q:Nat} (h:q<n) (t:Nat):(rowT T n).setIfInBounds q (.int .i64 (t:Int))=rowT (updT T q t) n:=by
 apply Array.ext_getElem?
 intro i;rw [Array.getElem?_setIfInBounds,rowT_get,rowT_get,rowT_size]
 by_cases h1:q=i
 ·subst h1;rw [if_pos rfl,if_pos h,if_pos h,updT,if_pos rfl]
 ·rw [if_neg h1,updT,if_neg (Ne.symm h1)]
theorem runO_snoc (f:Nat->CM) (i:Nat):∀(l:List Nat) (a:AM),i∉l->(runO f (l++[i]) a).1=(doA (runO f l a).1 (f i)).1/\toldO (runO f (l++[i]) a).2=updT (toldO (runO f l a).2) i (doA (runO f l a).1 (f i)).2
 |[],a,_=>by
  refine ⟨rfl,?_⟩
  funext j
  unfold toldO updT;show (if j=i then some (doA a (f i)).2 else none).getD _=_
  by_cases h:j=i
  ·rw [if_pos h,if_pos h];rfl
  ·rw [if_neg h,if_neg h];rfl
 |k::l,a,h=>by
  have h1:i≠k:=fun e=>h (by rw [e];exact List.mem_cons_self ..)
  have h2:i∉l:=fun e=>h (List.mem_cons_of_mem _ e)
  obtain ⟨e1,e2⟩:=runO_snoc f i l (doA a (f k)).1 h2;refine ⟨e1,?_⟩
  funext j
  have e3:=congrFun e2 j;unfold toldO updT at e3 ⊢;show (if j=k then some (doA a (f k)).2 else (runO f (l++[i]) (doA a (f k)).1).2 j).getD _=if j=i then (doA (runO f l (doA a (f k)).1).1 (f i)).2 else (if j=k then some (doA a (f k)).2 else (runO f l (doA a (f k)).1).2 j).getD _
  by_cases hk:j=k
  ·have hi:j≠i:=fun e=>h1 (e.symm.trans hk)
   rw [if_pos hk,if_neg hi,if_pos hk]
  ·rw [if_neg hk,if_neg hk];exact e3
def turnTo (o:List Nat) (t:Nat) (j:Nat):Nat:=if j∈o.take t then o.idxOf j else 0
theorem turnTo_succ {o:List Nat} (hn:o.Nodup) {t:Nat} (h:t<o.length):turnTo o (t+1)=updT (turnTo o t) o[t] t:=by
 funext j
 unfold turnTo updT;rw [List.take_succ_eq_append_getElem h]
 by_cases hj:j=o[t]
 ·have hm:j∈o.take t++[o[t]]:=List.mem_append_right _ (List.mem_singleton.2 hj);rw [if_pos hm,if_pos hj,hj];exact hn.idxOf_getElem t h
 ·show _=if j=o[t] then t else (if j∈o.take t then o.idxOf j else 0);rw [if_neg hj]
  by_cases hm:j∈o.take t
  ·rw [if_pos hm,if_pos (List.mem_append_left _ hm)]
  ·rw [if_neg hm,if_neg (fun h=>(List.mem_append.1 h).elim hm (fun h=>hj (List.mem_singleton.1 h)))]
theorem nodup_fresh {o:List Nat} (hn:o.Nodup) {t:Nat} (h:t<o.length):o[t]∉o.take t:=by
 intro hm;obtain ⟨i,hi,e⟩:=List.mem_iff_getElem.1 hm;rw [List.length_take] at hi;rw [List.getElem_take] at e;have e1:=hn.idxOf_getElem i (by omega);have e2:=hn.idxOf_getElem t h;rw [e] at e1;omega
theorem tmod_fix (x:Int) {n:Nat} (h:0<n):(if x.tmod (n:Int)<0 then x.tmod (n:Int)+(n:Int) else x.tmod (n:Int))=x%(n:Int):=by
 have h1:=Int.emod_nonneg x (show (n:Int)≠0 by omega);have h2:=Int.emod_lt_of_pos x (show 0<(n:Int) by omega);have h3:=Int.tmod_eq_emod (a:=x) (b:=(n:Int));rw [h3]
 by_cases hd:0<=x\/(n:Int) ∣ x
 ·rw [if_pos hd,if_neg (by omega)];omega
 ·rw [if_neg hd,Int.natAbs_natCast,if_pos (by omega)];omega
theorem tmod_range (x:Int) {n:Nat} (h:0<n): -(n:Int)<x.tmod (n:Int)/\x.tmod (n:Int)<(n:Int):=by
 have h1:=Int.emod_nonneg x (show (n:Int)≠0 by omega);have h2:=Int.emod_lt_of_pos x (show 0<(n:Int) by omega);have h3:=Int.tmod_eq_emod (a:=x) (b:=(n:Int));have h4:(((n:Int).natAbs:Nat):Int)=(n:Int):=by rw [Int.natAbs_natCast]
 by_cases hd:0<=x\/(n:Int) ∣ x
 ·rw [if_pos hd] at h3;omega
 ·have hne:x%(n:Int)≠0:=fun e=>hd (.inr (Int.dvd_of_emod_eq_zero e))
  rw [if_neg hd] at h3;omega
theorem refPick_any (A:Option Addr) (L c:Nat) (zs:List Int) (wv k n:Nat) (w:World) (hL:L=zs.length) (hL2:L<=200) (hw:wv<=1000000) (hk:k<=1000000) (hn:0<n) (hn2:n<=1000000) (hA:HasZ w A zs) (hz:∀z∈zs, -9223372036854775808<=z/\z<=9223372036854775807):
 Calls Tryz.prog 25 #[.slice A L c,.int .i64 (wv:Int),.int .i64 (k:Int),.int .i64 (n:Int)] w fun e W'=>e=.returned (.int .i64 (picksM zs wv k n%(n:Int)))/\Below w.heap.size w W':=by
 obtain ⟨at_,hat⟩:∃x,x=7*wv+k:=⟨_,rfl⟩;have h7:IntKind.i64.wrap (7*(wv:Int))=7*(wv:Int):=by simp [IntKind.wrap,IntKind.bits,IntKind.signed];omega
 have h7k:IntKind.i64.wrap (7*(wv:Int)+(k:Int))=(at_:Int):=by simp [IntKind.wrap,IntKind.bits,IntKind.signed];omega
 have hn0:((n:Int)==0)=false:=by simp;omega
 have hnz:¬n=0:=by omega
 have hni:¬(n:Int)=0:=by omega
 unfold picksM;rw [<-hat];have HT:=hiD (aI hat (aI hw hk));have HA:=hiD hA;have HL:=hiD (aI hL hL2);have HN:=hiD (aI hn hn2);have HZ:=hiD hz;clear hat hL hA hL2 hw hk hn hn2 hz
 by_cases hlt:at_<L
 ·have hli:¬(L:Int)<=(at_:Int):=by omega
  have hlj:(at_:Int)<L:=by omega
  have hl0:(0:Int)<=(at_:Int):=by omega
  have hz1:at_<zs.length:=by have:=HL.out.1;omega
  obtain ⟨b,o,rfl,_,f⟩:=HA.out (by rintro rfl;simp at hz1);have g:=f at_ hz1;have hget:zs[at_]?.getD 0=zs[at_]:=by rw [List.getElem?_eq_getElem hz1];rfl
  rw [hget];obtain ⟨x,hx⟩:∃x,x=zs[at_]:=⟨_,rfl⟩;rw [<-hx] at g ⊢;have hfix:=tmod_fix x HN.out.1;have hrg:=tmod_range x HN.out.1;have HX:=hiD (aI hfix hrg);clear hget hx f hfix hlt hz1
  by_cases ht:x.tmod (n:Int)<0
  ·have hws:IntKind.i64.wrap (x.tmod (n:Int)+(n:Int))=x.tmod (n:Int)+(n:Int):=by have:=HX.out.2;have:=HN.out.2;simp [IntKind.wrap,IntKind.bits,IntKind.signed];omega
   have he:x%(n:Int)=x.tmod (n:Int)+(n:Int):=by have:=HX.out.1;rw [if_pos ht] at this;exact this.symm
   rw [he];clear hrg he;go_enter Tryz.func25,Tryz.ntmps25;go_wp2;go_ret;exact ⟨rfl,Below.refl _ _⟩
  ·have he:x%(n:Int)=x.tmod (n:Int):=by have:=HX.out.1;rw [if_neg ht] at this;exact this.symm
   rw [he];clear hrg he;go_enter Tryz.func25,Tryz.ntmps25;go_wp2;go_ret;exact ⟨rfl,Below.refl _ _⟩
 ·have hli:(L:Int)<=(at_:Int):=by omega
  rw [List.getElem?_eq_none (by have:=HL.out;omega),Option.getD_none,Int.zero_emod];clear hlt;go_enter Tryz.func25,Tryz.ntmps25;go_wp2;go_ret;exact ⟨rfl,Below.refl _ _⟩
def wavesI (l:List CM):List Nat:=(wavesM l).map (·.2)
theorem wavesI_len (l:List CM):(wavesI l).length=l.length:=by rw [wavesI,List.length_map,wavesM_len]
theorem wavesI_at {l:List CM} {i:Nat} (h:i<(wavesI l).length):(wavesI l)[i]=waveI l i:=by
 have h':i<l.length:=by rw [wavesI_len] at h;exact h
 have h1:=wavesM_at h';have h2:(wavesM l)[i]?=some ((wavesM l)[i]'(by rw [wavesM_len];exact h')):=List.getElem?_eq_getElem _;rw [waveI,h2];simp [wavesI]
theorem run_ixC (w:World) (b o L c q:Nat) (h:q<L):(Instr.indexAt 22 (.slice (some ⟨b,o,none⟩) L c) (.int .i64 (q:Int))).run Tryz.prog w=.ok (.pointer (some ⟨b,o+q*7,none⟩)) w:=by
 have h1:(0:Int)<=q:=by omega
 have h2:(q:Int)<L:=by omega
 simp [go_sem,h1,h2]
theorem run_ldC (w:World) (b o:Nat) (x:CmdV) (h:∀i u,x.cells[i]?=some u->w.cell? ⟨b,o+i,none⟩=some u):(Instr.loadAt 57 (.pointer (some ⟨b,o,none⟩))).run Tryz.prog w=.ok x.val w:=by
 have h0:=h 0 _ rfl;have h1:=h 1 _ rfl;have h2:=h 2 _ rfl;have h3:=h 3 _ rfl;have h4:=h 4 _ rfl;have h5:=h 5 _ rfl;have h6:=h 6 _ rfl;simp only [Nat.add_zero] at h0;simp [go_sem,h0,h1,h2,h3,h4,h5,h6,CmdV.val,CmdV.cells]
def oRW90 (p:String):Oper:={dst:=some 18,op:=Op.move (Operand.tmp 0),type:=22,pos:=p,after:=#[],guard:=none}
def oRW91 (p:String):Oper:={dst:=some 19,op:=Op.move (Operand.tmp 6),type:=3,pos:=p,after:=#[],guard:=none}
def oRW92 (p:String):Oper:={dst:=some 20,op:=Op.indexAddr 22 (Operand.tmp 18) (Operand.tmp 19),type:=0,pos:=p,after:=#[{on:=0,ground:=Ground.data},{on:=1,ground:=Ground.data}],guard:=none}
def oRW93 (p:String):Oper:={dst:=some 21,op:=Op.load 57 (Operand.tmp 20),type:=57,pos:=p,after:=#[{on:=2,ground:=Ground.data}],guard:=none}
def oRW94 (p:String):Oper:={dst:=some 22,op:=Op.move (Operand.tmp 0),type:=22,pos:=p,after:=#[],guard:=none}
def oRW95 (p:String):Oper:={dst:=some 23,op:=Op.move (Operand.tmp 4),type:=3,pos:=p,after:=#[],guard:=none}
def oRW96 (p:String):Oper:={dst:=some 24,op:=Op.indexAddr 22 (Operand.tmp 22) (Operand.tmp 23),type:=0,pos:=p,after:=#[{on:=4,ground:=Ground.data},{on:=5,ground:=Ground.data}],guard:=none}
def oRW97 (p:String):Oper:={dst:=some 25,op:=Op.load 57 (Operand.tmp 24),type:=57,pos:=p,after:=#[{on:=6,ground:=Ground.data}],guard:=none}
def oRW98 (p:String):Oper:={dst:=some 26,op:=Op.call {callee:=Callee.value (Operand.func 24),args:=#[Operand.tmp 21,Operand.tmp 25],argTypes:=#[57,57]},type:=4,pos:=p,after:=#[{on:=3,ground:=Ground.data},{on:=7,ground:=Ground.data}],guard:=none}
def opsRW9 (p:String):List Oper:=[oRW90 p,oRW91 p,oRW92 p,oRW93 p,oRW94 p,oRW95 p,oRW96 p,oRW97 p,oRW98 p]
theorem opsRW9_back (p:String):backwards (opsRW9 p)=true:=by kernel_rfl
theorem opsRW9_slots (p:String):slotsOk 39 (opsRW9 p)=true:=by kernel_rfl
def psiRW9 (b o L c k q:Nat) (x y:CmdV) (r:Bool):Nat->Value->World->Prop
 |0,v,_=>v=.slice (some ⟨b,o,none⟩) L c
 |1,v,_=>v=.int .i64 (k:Int)
 |2,v,_=>v=.pointer (some ⟨b,o+k*7,none⟩)
 |3,v,_=>v=x.val
 |4,v,_=>v=.slice (some ⟨b,o,none⟩) L c
 |5,v,_=>v=.int .i64 (q:Int)
 |6,v,_=>v=.pointer (some ⟨b,o+q*7,none⟩)
 |7,v,_=>v=y.val
 |8,v,_=>v=.bool r
 |_,_,_=>True
theorem psiRW9_grew (b o L c k q:Nat) (x y:CmdV) (r:Bool):∀i v w w',psiRW9 b o L c k q x y r i v w->Grew w w'->psiRW9 b o L c k q x y r i v w':=by
 intro i v w w' h hg
 rcases i with _|_|_|_|_|_|_|_|_|i
 ·exact h
 ·exact h
 ·exact h
 ·exact h
 ·exact h
 ·exact h
 ·exact h
 ·exact h
 ·exact h
 ·trivial
theorem rfway {p:String} (b o L c k q:Nat) (x y:CmdV) (r:Bool) (hk:k<L) (hi:q<L) (a:Act) (w:World) (Q:Exit->Act->World->Prop) (hN:a.tmps.size=39) (h0:a.tmps.getD 0 undef=.slice (some ⟨b,o,none⟩) L c) (h4:a.tmps.getD 4 undef=.int .i64 (q:Int)) (h6:a.tmps.getD 6 undef=.int .i64 (k:Int)) (hb:b<w.heap.size) (hx:∀j u,x.cells[j]?=some u->w.cell? ⟨b,o+k*7+j,none⟩=some u) (hy:∀j u,y.cells[j]?=some u->w.cell? ⟨b,o+q*7+j,none⟩=some u) (hW:∀w',Grew w w'->Calls Tryz.prog 24 #[x.val,y.val] w' fun e W'=>e=.returned (.bool r)/\Below w'.heap.size w' W') (hQ:∀(w':World),Grew w w'->Q .normal (puts [(18,.slice (some ⟨b,o,none⟩) L c),(19,.int .i64 (k:Int)),(20,.pointer (some ⟨b,o+k*7,none⟩)),(21,x.val),(22,.slice (some ⟨b,o,none⟩) L c),(23,.int .i64 (q:Int)),(24,.pointer (some ⟨b,o+q*7,none⟩)),(25,y.val),(26,.bool r)] a) w')
 :(Code.region 9 (opsRW9 p).toArray true).wp Tryz.prog Q a w:=by
 refine (wpIn_wide (n:=1)).1 (wpIn_region_vals 39 hN follows (opsRW9_back p) (opsRW9_slots p) Grew Grew.refl Grew.trans (psiRW9 b o L c k q x y r) (psiRW9_grew b o L c k q x y r) ?_ ?_)
 ·intro i o d ho hd a' w' hF hR hp
  rcases i with _|_|_|_|_|_|_|_|_|i
  ·obtain rfl:oRW90 p=o:=osI ho;obtain rfl:18=d:=osI hd;exact step_move rfl rfl rfl (hF.at 0 rfl h0) ⟨_,rfl,rfl,Grew.refl _⟩
  ·obtain rfl:oRW91 p=o:=osI ho;obtain rfl:19=d:=osI hd;exact step_move rfl rfl rfl (hF.at 6 rfl h6) ⟨_,rfl,rfl,Grew.refl _⟩
  ·obtain rfl:oRW92 p=o:=osI ho;obtain rfl:20=d:=osI hd;have q0:a'.tmps.getD 18 undef=.slice (some ⟨b,o,none⟩) L c:=hp 0 (oRW90 p) 18 rfl rfl rfl;have q1:a'.tmps.getD 19 undef=.int .i64 (k:Int):=hp 1 (oRW91 p) 19 rfl rfl rfl;exact step_index rfl rfl rfl q0 q1 (run_ixC _ _ _ _ _ _ hk) ⟨_,rfl,rfl,Grew.refl _⟩
  ·obtain rfl:oRW93 p=o:=osI ho;obtain rfl:21=d:=osI hd;have q2:a'.tmps.getD 20 undef=.pointer (some ⟨b,o+k*7,none⟩):=hp 2 (oRW92 p) 20 rfl rfl rfl;exact step_load rfl rfl rfl q2 (run_ldC _ _ _ _ (fun i u hu=>(Below.cell hR.undraw (p:=⟨b,o+k*7+i,none⟩) hb).trans (hx i u hu))) ⟨_,rfl,rfl,Grew.refl _⟩
  ·obtain rfl:oRW94 p=o:=osI ho;obtain rfl:22=d:=osI hd;exact step_move rfl rfl rfl (hF.at 0 rfl h0) ⟨_,rfl,rfl,Grew.refl _⟩
  ·obtain rfl:oRW95 p=o:=osI ho;obtain rfl:23=d:=osI hd;exact step_move rfl rfl rfl (hF.at 4 rfl h4) ⟨_,rfl,rfl,Grew.refl _⟩
  ·obtain rfl:oRW96 p=o:=osI ho;obtain rfl:24=d:=osI hd;have q4:a'.tmps.getD 22 undef=.slice (some ⟨b,o,none⟩) L c:=hp 4 (oRW94 p) 22 rfl rfl rfl;have q5:a'.tmps.getD 23 undef=.int .i64 (q:Int):=hp 5 (oRW95 p) 23 rfl rfl rfl;exact step_index rfl rfl rfl q4 q5 (run_ixC _ _ _ _ _ _ hi) ⟨_,rfl,rfl,Grew.refl _⟩
  ·obtain rfl:oRW97 p=o:=osI ho;obtain rfl:25=d:=osI hd;have q6:a'.tmps.getD 24 undef=.pointer (some ⟨b,o+q*7,none⟩):=hp 6 (oRW96 p) 24 rfl rfl rfl;exact step_load rfl rfl rfl q6 (run_ldC _ _ _ _ (fun i u hu=>(Below.cell hR.undraw (p:=⟨b,o+q*7+i,none⟩) hb).trans (hy i u hu))) ⟨_,rfl,rfl,Grew.refl _⟩
  ·obtain rfl:oRW98 p=o:=osI ho;obtain rfl:26=d:=osI hd;have q3:a'.tmps.getD 21 undef=x.val:=hp 3 (oRW93 p) 21 rfl rfl rfl;have q7:a'.tmps.getD 25 undef=y.val:=hp 7 (oRW97 p) 25 rfl rfl rfl;refine step_callD rfl rfl rfl (enters_of Tryz.func24 (by kernel_rfl) rfl) (show Array.map a'.eval #[.tmp 21,.tmp 25]=_ from by simp only [List.map_toArray,List.map_cons,List.map_nil,Act.eval,q3,q7]) ((hW w' hR.undraw).mono ?_);rintro e w'' ⟨rfl,hb⟩;exact ⟨_,rfl,_,rfl,rfl,hb⟩
  ·exact absurd ((geS.1 ho).1) (by simp [opsRW9])
 ·intro a' w' hF hR hp;have e0:psiRW9 b o L c k q x y r 0 (a'.tmps.getD 18 undef) w':=hp 0 (oRW90 p) 18 rfl rfl;have e1:psiRW9 b o L c k q x y r 1 (a'.tmps.getD 19 undef) w':=hp 1 (oRW91 p) 19 rfl rfl;have e2:psiRW9 b o L c k q x y r 2 (a'.tmps.getD 20 undef) w':=hp 2 (oRW92 p) 20 rfl rfl;have e3:psiRW9 b o L c k q x y r 3 (a'.tmps.getD 21 undef) w':=hp 3 (oRW93 p) 21 rfl rfl;have e4:psiRW9 b o L c k q x y r 4 (a'.tmps.getD 22 undef) w':=hp 4 (oRW94 p) 22 rfl rfl;have e5:psiRW9 b o L c k q x y r 5 (a'.tmps.getD 23 undef) w':=hp 5 (oRW95 p) 23 rfl rfl;have e6:psiRW9 b o L c k q x y r 6 (a'.tmps.getD 24 undef) w':=hp 6 (oRW96 p) 24 rfl rfl;have e7:psiRW9 b o L c k q x y r 7 (a'.tmps.getD 25 undef) w':=hp 7 (oRW97 p) 25 rfl rfl;have e8:psiRW9 b o L c k q x y r 8 (a'.tmps.getD 26 undef) w':=hp 8 (oRW98 p) 26 rfl rfl;rw [hF.puts [(18,.slice (some ⟨b,o,none⟩) L c),(19,.int .i64 (k:Int)),(20,.pointer (some ⟨b,o+k*7,none⟩)),(21,x.val),(22,.slice (some ⟨b,o,none⟩) L c),(23,.int .i64 (q:Int)),(24,.pointer (some ⟨b,o+q*7,none⟩)),(25,y.val),(26,.bool r)] ?_ rfl (by rw [hN];rfl)]
  ·exact hQ w' hR.undraw
  ·intro x hx;simp only [List.mem_cons,List.not_mem_nil,or_false] at hx
   rcases hx with rfl|rfl|rfl|rfl|rfl|rfl|rfl|rfl|rfl
   ·exact e0
   ·exact e1
   ·exact e2
   ·exact e3
   ·exact e4
   ·exact e5
   ·exact e6
   ·exact e7
   ·exact e8
theorem Touches_any (v:CmdV) (w:World) (hv:v.ok w) (hm:v.L<=1000):
 Calls Tryz.prog 74 #[v.val] w fun e W'=>∃x,e=.returned x/\OwnS w.heap.size W' x (touchK v.ks)/\Below w.heap.size w W':=by
 obtain ⟨acl,asq,akd,KA,KL,kc,ks,old,new,n⟩:=v;obtain ⟨hcl,hsq,hkd,hn64,hlen,hmx,hhas,heach,hold,hnew⟩:=hv;simp only at hcl hsq hkd hn64 hlen hmx hhas heach hold hnew hm ⊢;simp only [CmdV.val,CmdV.cells];have HL:=hiD hlen;have HA:=hiD hhas;have hLi:(KL:Int)<=1000:=by omega
 clear hlen heach hold hnew hhas hmx hcl hsq hkd hn64;go_enter Tryz.func74,Tryz.ntmps74;go_upto_region 1 with (fail)
 obtain ⟨W1,hW1⟩:∃W1,W1=w.alloc (Obj.cells #[.int .u32 (acl:Int),.int .u32 (asq:Int),.int .u8 (akd:Int),.slice KA KL kc,.string old,.string new,.int .i64 n] 57):=⟨_,rfl⟩;rw [<-hW1];obtain ⟨p,hp⟩:∃p,p=w.heap.size:=⟨_,rfl⟩;have hs1:W1.heap.size=p+1:=by rw [hW1,hp];exact World.size_alloc _ _
 have hB:Below w.heap.size w W1:=by rw [hW1];exact (Below.refl _ w).alloc (nLr _) _
 have k1:W1.heap[p]?=some (.cells #[.int .u32 (acl:Int),.int .u32 (asq:Int),.int .u8 (akd:Int),.slice KA KL kc,.string old,.string new,.int .i64 n] 57 (0,0)):=by
  rw [hW1,hp];exact wAh w _
 rw [<-hp];have X3:=hiD (show W1.cell? ⟨p,3,none⟩=some (.slice KA KL kc) by rw [blk_cell k1 3];rfl);have PP:=hiD (show p<W1.heap.size by omega);have XB:=hiD hB;have HA1:=hiD (HA.out.below hB);clear hW1 hp hs1 hB k1 HA hm;go_wp2
 go_loopw [3,4] (fun s3 i wr=>∃j:Nat,∃A3 c3 M,j<=KL/\i=.int .i64 (j:Int)/\s3=.slice A3 M c3/\M<=j/\Hid (M=(touchP (ks.take j)).length)/\Hid (HasP wr A3 (touchP (ks.take j)))/\Hid (Below W1.heap.size W1 wr)) (fun _ i _=>KL - (intOf i).toNat)
 case atStart=>exact ⟨0,none,0,0,Nat.zero_le _,rfl,rfl,nLr _,hiD rfl,hiD (fun h=>absurd rfl h),hiD (Below.refl _ _)⟩
 case round=>
  obtain ⟨j,A3,c3,M,hj,rfl,rfl,hMj,HM,HP,HB⟩:=hrel;have x3:=(HB.out.cell (p:=⟨p,3,none⟩) PP.out).trans X3.out
  by_cases hlt:j<KL
  ·have hji:(j:Int)<KL:=by omega
   have hj1:j<ks.length:=by have:=HL.out;omega
   obtain ⟨b,o,e1,l1,f1⟩:=HA1.out (by rintro rfl;exact Nat.not_lt_zero _ hj1);subst e1;obtain ⟨t,ht⟩:∃t,t=ks[j]:=⟨_,rfl⟩;have g1:=(HB.out.cell (p:=⟨b,o+j,none⟩) l1).trans (f1 j hj1);rw [<-ht] at g1;have HT:=hiD ht;have HS:=hiD (touchP_succ hj1);clear ht f1
   go_wp2_with fail
   refine (With_any A3 M c3 (touchP (ks.take j)) t {data:=#[]} wr HM.out (by omega) HP.out).mono ?_;rintro e W4 ⟨v4,rfl,ho4,hb4⟩;obtain ⟨r,hr⟩:∃r,r=touchP (ks.take (j+1)):=⟨_,rfl⟩;rw [HT.out,<-HS.out,<-hr] at ho4;have hrl:r.length<=M+1:=by have:=withP_len (touchP (ks.take j)) ks[j] ⟨#[]⟩;rw [<-HS.out,<-hr] at this;have:=HM.out;omega
   obtain ⟨A4,c4,rfl,_⟩:=ho4.form;obtain ⟨n4,hn4⟩:∃n4,n4=r.length:=⟨_,rfl⟩;rw [<-hn4] at ho4 hrl ⊢;have O4:=hiD ho4.has;have B4:=hiD (HB.out.trans (Below.mono hb4 HB.out.size));have N4:=hiD (aI hn4 hr);clear ho4 hb4 hn4 hr x3 g1;go_wp2;refine ⟨⟨j+1,A4,c4,n4,by omega,by congr 1,rfl,by omega,hiD ?_,hiD ?_,B4⟩,by simp only [intOf];omega⟩
   ·rw [<-N4.out.2];exact N4.out.1
   ·rw [<-N4.out.2];exact O4.out
  ·have hji:¬(j:Int)<KL:=by omega
   obtain rfl:j=KL:=by omega
   have HF:Hid (touchP (ks.take j)=touchP ks):=hiD (by rw [HL.out,List.take_length]);obtain ⟨r,hr⟩:∃r,r=touchP ks:=⟨_,rfl⟩;rw [HF.out,<-hr] at HM HP;have HR:=hiD hr;have BB:=hiD (XB.out.trans (Below.mono HB.out XB.out.size));clear hr HF HB;have hMi:(M:Int)<=1000:=by omega
   obtain ⟨B0,hB0⟩:∃B0,B0=wr.heap.size:=⟨_,rfl⟩;have HB0:=hiD (aI hB0 (show w.heap.size<=B0 by rw [hB0];exact BB.out.size));clear hB0;go_wp2
   go_loopw [5,6] (fun s5 i wx=>∃j:Nat,∃A5 c5,j<=M/\i=.int .i64 (j:Int)/\s5=.slice A5 j c5/\Hid (OwnS B0 wx (.slice A5 j c5) ((r.take j).map (·.1)))/\Hid (Below B0 wr wx)/\Hid (Below w.heap.size w wx)) (fun _ i _=>M - (intOf i).toNat)
   case atStart=>exact ⟨0,none,0,Nat.zero_le _,rfl,rfl,hiD (OwnS.nil _ _),hiD (Below.refl _ _),BB⟩
   case round=>
    clear x3;obtain ⟨i,A5,c5,hi,rfl,rfl,HO,HB2,HBW⟩:=hrel
    by_cases hlt2:i<M
    ·have hii:(i:Int)<M:=by omega
     have hi1:i<r.length:=by have:=HM.out;omega
     obtain ⟨b,o,e1,l1,f1⟩:=HP.out (by rintro rfl;exact Nat.not_lt_zero _ hi1);subst e1;obtain ⟨t,ht⟩:∃t,t=r[i].1:=⟨_,rfl⟩;have g1:=(HB2.out.cell (p:=⟨b,o+i*2,none⟩) (by rw [HB0.out.1];exact l1)).trans (f1 i hi1).1;rw [<-ht] at g1;obtain ⟨q,hq⟩:∃q,q=(r.take i).map (·.1):=⟨_,rfl⟩;have HT:=hiD (show (r.take (i+1)).map (·.1)=q++[t] by rw [List.take_succ_eq_append_getElem hi1,List.map_append,ht,hq];rfl);have hql:q.length=i:=by rw [hq,List.length_map,List.length_take];omega
     rw [<-hq] at HO;have HN:=hiD (show (wr.alloc (.cells #[.string t] 9)).cell? ⟨wr.heap.size,0,none⟩=some (.string t) by rw [blk_cell (wAh wr (.cells #[.string t] 9)) 0];rfl);have hbn:Below wr.heap.size wr (wr.alloc (.cells #[.string t] 9)):=(Below.refl _ wr).alloc (nLr _) _;have HBN:=hiD hbn;have HQ:=hiD hql;have HS0:=hiD (show B0<=wr.heap.size by rw [HB0.out.1];exact HB2.out.size);clear ht f1 hq hbn hql
     go_wp2_with (first|(at_builtin;refine wpList_append_S rfl (.tmp 27) (.tmp 33) rfl B0 (.slice A5 i c5) q rfl (HO.out.below HBN.out) wr.heap.size 1 t rfl HN.out (by rw [HQ.out];omega) (nLt HS0.out (by simp)) ?_;intro v6 U6 hown6 hg6;have hb6:Below w.heap.size w U6:=(HBW.out.trans (Below.mono HBN.out HBW.out.size)).grown hg6 (nLt HBW.out.size (by simp)) (fun x e=>nLt HB0.out.2 (World.ownsRow.lt HO.out x e).1);have B7:=hiD ((HB2.out.trans (Below.mono HBN.out HS0.out)).grown hg6 (nLt HS0.out (by simp)) (fun x e=>(World.ownsRow.lt HO.out x e).1));have O6:=hiD hown6;have B6:=hiD hb6;have G6:=hiD hg6;obtain ⟨A6,c6,hv6,_⟩:=hown6.form;rw [List.length_append,HQ.out] at hv6;replace hv6:v6=.slice A6 (i+1) c6:=hv6;subst hv6;clear hown6 hg6 hb6)|fail)
     refine ⟨⟨i+1,A6,c6,by omega,by congr 1,rfl,hiD ?_,B7,B6⟩,by simp only [intOf];omega⟩;rw [HT.out];exact O6.out
    ·have hii:¬(i:Int)<M:=by omega
     obtain rfl:i=M:=by omega
     have HE:Hid ((r.take i).map (·.1)=touchK ks):=hiD (by rw [HM.out,List.take_length,HR.out,touchK]);rw [HE.out] at HO;go_wp2;go_ret;exact ⟨_,rfl,HO.out.mono HB0.out.2,HBW.out⟩
end Go.Proofs.YtfjmdkhemnmkpaaGreatDoor
