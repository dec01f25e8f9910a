/- Parts of the proof: RxDo, RxFoR. -/
import Derived.Test.YtfjmdkhemnmkpaaGreatDoorR17
import Derived.Test.YtfjmdkhemnmkpaaGreatDoorR21
import Derived.Deep.DeepCutAuto
set_option maxRecDepth 100000
set_option maxHeartbeats 8000000
namespace Go.Proofs.YtfjmdkhemnmkpaaGreatDoor
open Go.RowKit
def AppV (w:World) (v:Value) (a:AM):Prop:=∃A0 c0 E lc,v=.agg #[.slice A0 a.ps.length c0,.slice E a.ss.length lc,.int .u64 (a.n:Int)]/\a.ss.length<=lc/\HasP w A0 a.ps/\HasE w E a.ss
theorem AppV.below {w W:World} {v:Value} {a:AM} (h:AppV w v a) (hb:Below w.heap.size w W):AppV W v a:=by
 obtain ⟨A0,c0,E,lc,h1,h2,h3,h4⟩:=h;exact ⟨A0,c0,E,lc,h1,h2,h3.below hb,h4.below hb⟩
structure DoX (w:World) (p q r4 r5:Nat) (A0 E:Option Addr) (n0 c0 nl lc n:Nat) (cs:Array Value) (W:World):Prop where
 app:AppC W p A0 n0 c0 E nl lc n
 cmd:W.heap[q]?=some (.cells cs 57 (0,0))
 res:AppC W r4 none 0 0 none 0 0 0
 rep:RepX W r5 0 ⟨#[]⟩
 below:Below w.heap.size w W
 ord:w.heap.size<=p/\p<q/\q<r4/\r4<r5/\r5<W.heap.size
theorem DoX.grew {w W W':World} {p q r4 r5 n0 c0 nl lc n:Nat} {A0 E:Option Addr} {cs:Array Value} (h:DoX w p q r4 r5 A0 E n0 c0 nl lc n cs W) (hb:Below W.heap.size W W'):DoX w p q r4 r5 A0 E n0 c0 nl lc n cs W':=by
 obtain ⟨o1,o2,o3,o4,o5⟩:=h.ord;exact ⟨(hb.block p (by omega)).trans h.app,(hb.block q (by omega)).trans h.cmd,(hb.block r4 (by omega)).trans h.res,(hb.block r5 (by omega)).trans h.rep,h.below.trans (Below.mono hb h.below.size),o1,o2,o3,o4,nLl o5 hb.size⟩
theorem DoX.start {w W0 W1 W2 W3:World} {A0 E:Option Addr} {n0 c0 nl lc n:Nat} {cs:Array Value} (h0:W0=w.alloc (.cells #[.slice A0 n0 c0,.slice E nl lc,.int .u64 (n:Int)] 32)) (h1:W1=W0.alloc (.cells cs 57)) (h2:W2=W1.alloc (.cells #[.slice none 0 0,.slice none 0 0,.int .u64 0] 32)) (h3:W3=W2.alloc (.cells #[.int .u8 0,.string ⟨#[]⟩] 45)):DoX w w.heap.size (w.heap.size+1) (w.heap.size+1+1) (w.heap.size+1+1+1) A0 E n0 c0 nl lc n cs W3:=by
 have s0:W0.heap.size=w.heap.size+1:=by rw [h0];exact World.size_alloc _ _
 have s1:W1.heap.size=w.heap.size+1+1:=by rw [h1,World.size_alloc,s0]
 have s2:W2.heap.size=w.heap.size+1+1+1:=by rw [h2,World.size_alloc,s1]
 have s3:W3.heap.size=w.heap.size+1+1+1+1:=by rw [h3,World.size_alloc,s2]
 have b0:Below w.heap.size w W0:=by rw [h0];exact (Below.refl _ _).alloc (nLr _) _
 have b1:Below W0.heap.size W0 W1:=by rw [h1];exact (Below.refl _ _).alloc (nLr _) _
 have b2:Below W1.heap.size W1 W2:=by rw [h2];exact (Below.refl _ _).alloc (nLr _) _
 have b3:Below W2.heap.size W2 W3:=by rw [h3];exact (Below.refl _ _).alloc (nLr _) _
 have b13:=b2.trans (Below.mono b3 b2.size);have b03:=b1.trans (Below.mono b13 b1.size);refine ⟨(b03.block _ (by omega)).trans (by rw [h0];exact wAh w _),(b13.block _ (by omega)).trans ?_,(b3.block _ (by omega)).trans ?_,?_,b0.trans (Below.mono b03 b0.size),by omega⟩
 ·rw [<-s0,h1];exact wAh W0 _
 ·rw [<-s1,h2];exact wAh W1 _
 ·rw [<-s2,h3];exact wAh W2 _
theorem DoX.fin {w W:World} {p q r4 r5 n0 c0 nl lc n:Nat} {A0 E:Option Addr} {cs:Array Value} (h:DoX w p q r4 r5 A0 E n0 c0 nl lc n cs W) (X0:Option Addr) (m0 d0:Nat) (X1:Option Addr) (m1 d1 m cd:Nat) (tx:ByteArray):AppC (setR (setA W r4 X0 m0 d0 X1 m1 d1 m) r5 cd tx) r4 X0 m0 d0 X1 m1 d1 m/\RepX (setR (setA W r4 X0 m0 d0 X1 m1 d1 m) r5 cd tx) r5 cd tx/\Below w.heap.size w (setR (setA W r4 X0 m0 d0 X1 m1 d1 m) r5 cd tx):=by
 obtain ⟨o1,o2,o3,o4,o5⟩:=h.ord;refine ⟨(setR_heap _ _ (by omega)).trans h.res.set,RepX.set ((setA_heap _ _ (by omega)).trans h.rep),?_⟩;exact ((((h.below.setCell (p:=⟨r4,0,none⟩) (by show w.heap.size<=r4;omega) _).setCell (p:=⟨r4,1,none⟩) (by show w.heap.size<=r4;omega) _).setCell (p:=⟨r4,2,none⟩) (by show w.heap.size<=r4;omega) _).setCell (p:=⟨r5,0,none⟩) (by show w.heap.size<=r5;omega) _).setCell (p:=⟨r5,1,none⟩) (by show w.heap.size<=r5;omega) _
theorem AppC.cells {w:World} {r n0 c0 n1 c1 n:Nat} {A0 A1:Option Addr} (h:AppC w r A0 n0 c0 A1 n1 c1 n):w.cell? ⟨r,0,none⟩=some (.slice A0 n0 c0)/\w.cell? ⟨r,1,none⟩=some (.slice A1 n1 c1)/\w.cell? ⟨r,2,none⟩=some (.int .u64 (n:Int)):=⟨by simpa using blk_cell h 0,by simpa using blk_cell h 1,by simpa using blk_cell h 2⟩
theorem RepX.cells {w:World} {r cd:Nat} {tx:ByteArray} (h:RepX w r cd tx):w.cell? ⟨r,0,none⟩=some (.int .u8 (cd:Int))/\w.cell? ⟨r,1,none⟩=some (.string tx):=⟨by simpa using blk_cell h 0,by simpa using blk_cell h 1⟩
theorem run_uptoE (w:World) (A:Option Addr) (L c N:Nat) (h:N<=c) (_hc:N<=1000000000):(Instr.sliceAt 29 (.slice A L c) none (some (.int .i64 (N:Int))) none).run Tryz.prog w=.ok (.slice A N c) w:=by
 have h1:(N:Int)<=c:=by omega
 cases A<;>simp [go_sem,h1]
theorem run_fromE (A:Option Addr) (L c n:Nat) (h1:n<=L) (h2:L<=c) (_hc:L<=1000000000):∃A',(∀w:World,(Instr.sliceAt 29 (.slice A L c) (some (.int .i64 (n:Int))) none none).run Tryz.prog w=.ok (.slice A' (L - n) (c - n)) w)/\∀b o,A=some ⟨b,o,none⟩->n<L->A'=some ⟨b,o+n*4,none⟩:=by
 have e1:(0:Int)<=(n:Int):=by omega
 have e2:(n:Int)<=(L:Int):=by omega
 have e3:(L:Int)<=(c:Int):=by omega
 cases A with
 |none=>
  refine ⟨none,fun w=>?_,fun _ _ e=>by cases e⟩;simp [go_sem,e1,e2]
 |some a=>
  by_cases hcn:c=n
  ·refine ⟨some a,fun w=>?_,fun b o e h=>by omega⟩;simp [go_sem,e1,e2,hcn]
  ·refine ⟨some (a.add (n*4)),fun w=>?_,fun b o e _=>by cases e;exact congrArg some (addr_add b o (n*4))⟩;simp [go_sem,e1,e2,hcn]
theorem HasE.at_ {w:World} {A:Option Addr} {l:List SE} (h:HasE w A l) {j:Nat} (hj:j<l.length):∃b o,A=some ⟨b,o,none⟩/\b<w.heap.size/\w.cell? ⟨b,o+j*4+0,none⟩=some (.int .u32 (l[j].cl:Int))/\w.cell? ⟨b,o+j*4+1,none⟩=some (.int .u32 (l[j].sq:Int))/\w.cell? ⟨b,o+j*4+2,none⟩=some (.int .u8 (l[j].cd:Int))/\w.cell? ⟨b,o+j*4+3,none⟩=some (.string l[j].tx):=by
 obtain ⟨b,o,e,h1,h2⟩:=h (by rintro rfl;simp at hj);exact ⟨b,o,e,h1,h2 j hj 0 _ rfl,h2 j hj 1 _ rfl,h2 j hj 2 _ rfl,h2 j hj 3 _ rfl⟩
theorem cell_heap {w W:World} {b i:Nat} (h:W.heap[b]?=w.heap[b]?):W.cell? ⟨b,i,none⟩=w.cell? ⟨b,i,none⟩:=by simp [World.cell?,h]
theorem lt_heap {w W:World} {b:Nat} (hb:b<w.heap.size) (h:W.heap[b]?=w.heap[b]?):b<W.heap.size:=by
 rw [Array.getElem?_eq_getElem hb] at h;exact (geS.1 h).1
theorem HasE.drop {w W:World} {A A':Option Addr} {l:List SE} {n:Nat} (h:HasE w A l) (hA:∀b o,A=some ⟨b,o,none⟩->n<l.length->A'=some ⟨b,o+n*4,none⟩) (hW:∀b,b<w.heap.size->W.heap[b]?=w.heap[b]?):HasE W A' (l.drop n):=fun hl=>by
 obtain ⟨b,o,e,h1,h2⟩:=h (by rintro rfl;simp at hl)
 have hn:n<l.length:=by
  have:¬l.length<=n:=fun h=>hl (List.drop_eq_nil_iff.2 h)
  omega
 have hb:=hW b h1;refine ⟨b,o+n*4,hA b o e hn,lt_heap h1 hb,fun j hj i u hu=>?_⟩;rw [List.getElem_drop] at hu;rw [List.length_drop] at hj;have:=h2 (n+j) (by omega) i u hu;rw [<-cell_heap hb,show o+(n+j)*4+i=o+n*4+j*4+i by omega] at this;exact this
theorem HasP.heap {w W:World} {A:Option Addr} {l:List PV} (h:HasP w A l) (hW:∀b o,A=some ⟨b,o,none⟩->b<w.heap.size->W.heap[b]?=w.heap[b]?):HasP W A l:=fun hl=>by
 obtain ⟨b,o,e,h1,h2⟩:=h hl;have hb:=hW b o e h1;exact ⟨b,o,e,lt_heap h1 hb,fun j hj=>⟨(cell_heap hb).trans (h2 j hj).1,(cell_heap hb).trans (h2 j hj).2⟩⟩
theorem hasE_one {w:World} (e:SE):HasE (w.alloc (.cells (eCells e) 84)) (some ⟨w.heap.size,0,none⟩) [e]:=fun _=>by
 have h:=wAh w (.cells (eCells e) 84);refine ⟨w.heap.size,0,rfl,(geS.1 h).1,fun j hj i u hu=>?_⟩;obtain rfl:j=0:=by simpa using hj
 rw [blk_cell h,show 0+0*4+i=i by omega];exact hu
theorem refDoX_any (A0 E:Option Addr) (n0 c0 nl lc n:Nat) (a:AM) (v:CmdV) (w:World) (hn0:n0=a.ps.length) (hnl:nl=a.ss.length) (hlc:nl<=lc) (hn:n=a.n) (hP:HasP w A0 a.ps) (hE:HasE w E a.ss) (hs:SortedE a.ss) (hps:a.ps.length<=5000) (hpz:∀p∈a.ps,p.2.size<=1000000) (hsl:a.ss.length<=5000) (hnn:a.n<=1000000) (hv:v.ok w):
 Calls Tryz.prog 23 #[.agg #[.slice A0 n0 c0,.slice E nl lc,.int .u64 (n:Int)],v.val] w fun e W'=>∃v',e=.returned (.tuple #[v',ReplyV (doA a v.m).2.1,.bool (doA a v.m).2.2])/\AppV W' v' (doA a v.m).1/\Below w.heap.size w W':=by
 obtain ⟨W0,hW0⟩:∃x,x=w.alloc (Obj.cells #[.slice A0 n0 c0,.slice E nl lc,.int .u64 (n:Int)] 32):=⟨_,rfl⟩;obtain ⟨W1,hW1⟩:∃x,x=W0.alloc (Obj.cells v.cells 57):=⟨_,rfl⟩;obtain ⟨W2,hW2⟩:∃x,x=W1.alloc (Obj.cells #[.slice none 0 0,.slice none 0 0,.int .u64 0] 32):=⟨_,rfl⟩;obtain ⟨W3,hW3⟩:∃x,x=W2.alloc (Obj.cells #[.int .u8 0,.string ⟨#[]⟩] 45):=⟨_,rfl⟩;have D:=DoX.start hW0 hW1 hW2 hW3;obtain ⟨p,hp⟩:∃p,p=w.heap.size:=⟨_,rfl⟩;obtain ⟨q,hq⟩:∃q,q=p+1:=⟨_,rfl⟩;obtain ⟨r4,hr4⟩:∃q',q'=q+1:=⟨_,rfl⟩;obtain ⟨r5,hr5⟩:∃q',q'=r4+1:=⟨_,rfl⟩;rw [<-hp,<-hq,<-hr4,<-hr5] at D;have H3:=hiD D;have HA:=hiD (aI hn0 (aI hnl (aI hlc (aI hn (aI hP (aI hE hs))))));have HL:=hiD (aI hps (aI hpz (aI hsl hnn)));obtain ⟨vv,hvv⟩:∃vv,vv=v:=⟨_,rfl⟩;rw [<-hvv] at hv H3 ⊢;have HV:=hiD hv;have HVV:=hiD hvv;obtain ⟨acl,asq,akd,KA,KL,kc,ks,old,new,kn⟩:=v;have hcells:vv.cells=#[.int .u32 (acl:Int),.int .u32 (asq:Int),.int .u8 (akd:Int),.slice KA KL kc,.string old,.string new,.int .i64 kn]:=by rw [hvv];rfl
 have hval:vv.val=.agg #[.int .u32 (acl:Int),.int .u32 (asq:Int),.int .u8 (akd:Int),.slice KA KL kc,.string old,.string new,.int .i64 kn]:=by rw [hvv];rfl
 have hmc:vv.m.cl=acl/\vv.m.sq=asq:=by rw [hvv];exact ⟨rfl,rfl⟩
 have HM:=hiD hmc;have z0:W3.cell? ⟨q,0,none⟩=some (.int .u32 (acl:Int)):=by have e:=blk_cell H3.out.cmd 0;rw [hcells] at e;simpa using e
 have HCE:=hiD hcells;simp only [CmdV.cells] at hW1;rw [hval];clear D hn0 hnl hlc hn hP hE hs hps hpz hsl hnn hv hvv hcells hmc hval;go_enter Tryz.func23,Tryz.ntmps23;go_upto_region 1 with (fail)
 rw [<-hW0,<-hW1,<-hW2,<-hW3,<-hp,<-hq,<-hr4,<-hr5];clear hW0 hW1 hW2 hW3 hp hq hr4 hr5
 by_cases h0:acl=0
 ·subst h0;have y0:W3.cell? ⟨p,0,none⟩=some (.slice A0 n0 c0):=by simpa using blk_cell H3.out.app 0
  have y1:W3.cell? ⟨p,1,none⟩=some (.slice E nl lc):=by simpa using blk_cell H3.out.app 1
  have y2:W3.cell? ⟨p,2,none⟩=some (.int .u64 (n:Int)):=by simpa using blk_cell H3.out.app 2
  have x0:W3.cell? ⟨r4,0,none⟩=some (.slice none 0 0):=by simpa using blk_cell H3.out.res 0
  have x1:W3.cell? ⟨r4,1,none⟩=some (.slice none 0 0):=by simpa using blk_cell H3.out.res 1
  have x2:W3.cell? ⟨r4,2,none⟩=some (.int .u64 0):=by simpa using blk_cell H3.out.res 2
  have x3:W3.cell? ⟨r5,0,none⟩=some (.int .u8 0):=by simpa using blk_cell H3.out.rep 0
  have x4:W3.cell? ⟨r5,1,none⟩=some (.string ⟨#[]⟩):=by simpa using blk_cell H3.out.rep 1
  have f0:=blk_frozen H3.out.res 0;have f1:=blk_frozen H3.out.res 1;have f2:=blk_frozen H3.out.res 2;have f3:=blk_frozen H3.out.rep 0;have f4:=blk_frozen H3.out.rep 1;have h45:r4≠r5:=Nat.ne_of_lt H3.out.ord.2.2.2.1;have h54:r5≠r4:=Ne.symm h45;go_wp2;have hfin:=H3.out.fin A0 n0 c0 E nl lc n 2 ⟨#[]⟩;unfold setR setA at hfin;obtain ⟨W9,hW9⟩:∃W9,W9=(((((W3.setCell ⟨r4,0,none⟩ (.slice A0 n0 c0)).setCell ⟨r4,1,none⟩ (.slice E nl lc)).setCell ⟨r4,2,none⟩ (.int .u64 (n:Int))).setCell ⟨r5,0,none⟩ (.int .u8 ((2:Nat):Int))).setCell ⟨r5,1,none⟩ (.string ⟨#[]⟩)):=⟨_,rfl⟩;rw [<-hW9] at hfin;rw [show (((((W3.setCell ⟨r4,0,none⟩ (.slice A0 n0 c0)).setCell ⟨r4,1,none⟩ (.slice E nl lc)).setCell ⟨r4,2,none⟩ (.int .u64 (n:Int))).setCell ⟨r5,0,none⟩ (.int .u8 2)).setCell ⟨r5,1,none⟩ (.string ⟨#[]⟩))=W9 from hW9.symm];obtain ⟨k4,k5,b9⟩:=hfin;obtain ⟨d0,d1,d2⟩:=k4.cells;obtain ⟨d3,d4⟩:=k5.cells;obtain ⟨a1,a2,a3,a4,a5,a6,a7⟩:=HA.out;rw [doA_zero HM.out.1];exact bodyPost_ret (v:=.tuple #[.agg #[.slice A0 n0 c0,.slice E nl lc,.int .u64 (n:Int)],ReplyV (2,⟨#[]⟩),.bool false]) (by simp [results,Tryz.results23,go_sem,d0,d1,d2,d3,d4,ReplyV]) rfl ⟨_,rfl,⟨A0,c0,E,lc,by rw [a1,a2,a4],by show a.ss.length<=lc;omega,a5.below b9,a6.below b9⟩,b9⟩
 ·have h0b:((acl:Int)==0)=false:=by simpa using h0
  have H0:=hiD h0;clear h0
  go_upto_block 0 with (fail)
  go_cut [7] (fun s7 wx=>∃k:Nat,s7=.int .i64 (k:Int)/\Hid (StopE a.ss acl k/\Below W3.heap.size W3 wx))
  case first=>
   go_wp2_with fail
   go_loopw [7] (fun i wr=>∃k:Nat,k<=nl/\i=.int .i64 (k:Int)/\Hid (Below W3.heap.size W3 wr/\∀j (h:j<a.ss.length),j<k->(a.ss[j]).cl<acl)) (fun i _=>nl - (intOf i).toNat)
   case atStart=>exact ⟨0,Nat.zero_le _,rfl,hiD ⟨Below.refl _ _,fun j _ h=>by omega⟩⟩
   case round=>
    obtain ⟨k,hk,rfl,HK⟩:=hrel;have D:=H3.out.grew HK.out.1;have c1:wr.cell? ⟨p,1,none⟩=some (.slice E nl lc):=D.app.cells.2.1;have cq0:wr.cell? ⟨q,0,none⟩=some (.int .u32 (acl:Int)):=by have e:=blk_cell D.cmd 0;rw [HCE.out] at e;simpa using e
    by_cases hlt:k<nl
    ·have hk1:k<a.ss.length:=by have:=HA.out.2.1;omega
     have hE1:HasE wr E a.ss:=HA.out.2.2.2.2.2.1.below D.below;obtain ⟨eb,eo,hEe,_,ce0,_⟩:=hE1.at_ hk1;subst hEe;obtain ⟨ce,hce⟩:∃ce,ce=(a.ss[k]).cl:=⟨_,rfl⟩;rw [<-hce] at ce0;obtain ⟨b,hb⟩:∃b,b=decide (ce<acl):=⟨_,rfl⟩;go_upto_region 4 with (fail)
     refine rx4 p q eb eo nl lc k ce acl b hlt hb _ wr _ rfl rfl rfl rfl c1 ce0 cq0 ?_;intro w' hgr;have G:=hiD hgr;have HC:=hiD (aI hce hb);clear hgr hce hb c1 cq0 ce0 D hE1;simp only [puts,List.foldl_cons,List.foldl_nil,Act.put,List.setIfInBounds_toArray,List.set_cons_succ,List.set_cons_zero]
     cases b with
     |true=>
      have hki:(k:Int)<=5000:=by have:=HA.out.2.1;have:=HL.out.2.2.1;omega
      go_wp2;refine ⟨⟨k+1,by omega,by congr 1,hiD ⟨HK.out.1.trans (Below.mono G.out HK.out.1.size),fun j h hj=>?_⟩⟩,by simp only [intOf];omega⟩
      rcases Nat.lt_or_ge j k with h1|h1
      ·exact HK.out.2 j h h1
      ·obtain rfl:j=k:=by omega
       rw [<-HC.out.1];exact of_decide_eq_true HC.out.2.symm
     |false=>
      go_wp2;go_meet;refine ⟨k,rfl,hiD ⟨⟨by omega,HK.out.2,fun h=>?_⟩,HK.out.1.trans (Below.mono G.out HK.out.1.size)⟩⟩;rw [<-HC.out.1];exact Nat.not_lt.1 (of_decide_eq_false HC.out.2.symm)
    ·have hge:nl<=k:=by omega
     go_upto_region 4 with (fail)
     refine rx4n p q nl lc k E hge _ wr _ rfl rfl rfl rfl c1 ?_;intro w' hgr;have G:=hiD hgr;clear hgr c1 cq0 D;simp only [puts,List.foldl_cons,List.foldl_nil,Act.put,List.setIfInBounds_toArray,List.set_cons_succ,List.set_cons_zero];go_wp2;go_meet;exact ⟨k,rfl,hiD ⟨⟨by have:=HA.out.2.1;omega,HK.out.2,fun h=>by have:=HA.out.2.1;omega⟩,HK.out.1.trans (Below.mono G.out HK.out.1.size)⟩⟩
  case rest=>
   obtain ⟨k,rfl,HK⟩:=hcut;have hnl:nl=a.ss.length:=HA.out.2.1;have hkl:k<=nl:=by rw [hnl];exact HK.out.1.le
   have HNL:=hiD hnl;clear hnl;go_upto_region 6 with (fail)
   go_cut [8] (fun s8 wx=>∃own:Bool,s8=.bool own/\Hid ((own=true->∃h:k<a.ss.length,(a.ss[k]).cl=acl)/\(own=false->∀h:k<a.ss.length,(a.ss[k]).cl≠acl)/\Below W3.heap.size W3 wx))
   case first=>
    have D:=H3.out.grew HK.out.2;have c1:wc.cell? ⟨p,1,none⟩=some (.slice E nl lc):=D.app.cells.2.1;have cq0:wc.cell? ⟨q,0,none⟩=some (.int .u32 (acl:Int)):=by have e:=blk_cell D.cmd 0;rw [HCE.out] at e;simpa using e
    by_cases hlt:k<nl
    ·have hk1:k<a.ss.length:=by have:=HNL.out;omega
     have hE1:HasE wc E a.ss:=HA.out.2.2.2.2.2.1.below D.below;obtain ⟨eb,eo,hEe,_,ce0,_⟩:=hE1.at_ hk1;subst hEe;obtain ⟨ce,hce⟩:∃ce,ce=(a.ss[k]).cl:=⟨_,rfl⟩;rw [<-hce] at ce0;obtain ⟨b,hb⟩:∃b,b=decide (ce=acl):=⟨_,rfl⟩;refine rx6 p q eb eo nl lc k ce acl b hlt hb _ wc _ rfl rfl rfl rfl c1 ce0 cq0 ?_;intro w' hgr;simp only [puts,List.foldl_cons,List.foldl_nil,Act.put,List.setIfInBounds_toArray,List.set_cons_succ,List.set_cons_zero]
     go_wp2_with fail
     go_meet;refine ⟨b,rfl,hiD ⟨fun h=>⟨hk1,?_⟩,fun h _=>?_,HK.out.2.trans (Below.mono hgr HK.out.2.size)⟩⟩
     ·rw [<-hce];rw [hb] at h;exact of_decide_eq_true h
     ·rw [<-hce];rw [hb] at h;exact of_decide_eq_false h
    ·refine rx6n p q nl lc k E (by omega) _ wc _ rfl rfl rfl rfl c1 ?_;intro w' hgr;simp only [puts,List.foldl_cons,List.foldl_nil,Act.put,List.setIfInBounds_toArray,List.set_cons_succ,List.set_cons_zero]
     go_wp2_with fail
     go_meet;exact ⟨false,rfl,hiD ⟨fun h=>(by cases h),fun _ h=>(by have:=HNL.out;omega),HK.out.2.trans (Below.mono hgr HK.out.2.size)⟩⟩
   case rest=>
    obtain ⟨own,rfl,HO⟩:=hcut;go_upto_region 7 with (fail)
    go_cut [62] (fun s6 wx=>∃again:Bool,s6=.bool again/\Hid ((again=true->own=true/\∀h:k<a.ss.length,(a.ss[k]).sq=asq)/\(again=false->own=true->∀h:k<a.ss.length,¬(a.ss[k]).sq=asq)/\Below W3.heap.size W3 wx))
    case first=>
     have D:=H3.out.grew HO.out.2.2;have c1:wc.cell? ⟨p,1,none⟩=some (.slice E nl lc):=D.app.cells.2.1;have cq1:wc.cell? ⟨q,1,none⟩=some (.int .u32 (asq:Int)):=by have e:=blk_cell D.cmd 1;rw [HCE.out] at e;simpa using e
     cases own with
     |true=>
      obtain ⟨hk1,hcl⟩:=HO.out.1 rfl;have hlt:k<nl:=by have:=HNL.out;omega
      have hE1:HasE wc E a.ss:=HA.out.2.2.2.2.2.1.below D.below;obtain ⟨eb,eo,hEe,_,_,ce1,_⟩:=hE1.at_ hk1;subst hEe;obtain ⟨se,hse⟩:∃se,se=(a.ss[k]).sq:=⟨_,rfl⟩;rw [<-hse] at ce1;obtain ⟨b,hb⟩:∃b,b=decide (se=asq):=⟨_,rfl⟩;refine rx7 p q eb eo nl lc k se asq b hlt hb _ wc _ rfl rfl rfl rfl rfl c1 ce1 cq1 ?_;intro w' hgr;have HB:=hiD (aI hse hb);clear hse hb;simp only [puts,List.foldl_cons,List.foldl_nil,Act.put,List.setIfInBounds_toArray,List.set_cons_succ,List.set_cons_zero]
      go_wp2_with fail
      go_meet;have hse:=HB.out.1;have hb:=HB.out.2;refine ⟨b,rfl,hiD ⟨fun h=>⟨by simp,fun _=>?_⟩,fun h _ _=>?_,HO.out.2.2.trans (Below.mono hgr HO.out.2.2.size)⟩⟩
      ·rw [<-hse];rw [hb] at h;exact of_decide_eq_true h
      ·rw [<-hse];rw [hb] at h;exact of_decide_eq_false h
     |false=>
      refine rx7n p q k _ wc _ rfl rfl rfl rfl rfl ?_;intro w' hgr;simp only [puts,List.foldl_cons,List.foldl_nil,Act.put,List.setIfInBounds_toArray,List.set_cons_succ,List.set_cons_zero]
      go_wp2_with fail
      go_meet;exact ⟨false,rfl,hiD ⟨fun h=>(by cases h),fun _ h=>(by cases h),HO.out.2.2.trans (Below.mono hgr HO.out.2.2.size)⟩⟩
    case rest=>
     obtain ⟨again,rfl,HG⟩:=hcut
     cases again with
     |true=>
      go_upto_region 8 with (fail)
      obtain ⟨ho,hsq⟩:=HG.out.1 rfl;subst ho;obtain ⟨hk1,hcl⟩:=HO.out.1 rfl;have hsq1:=hsq hk1;have D:=H3.out.grew HG.out.2.2;obtain ⟨o1,o2,o3,o4,o5⟩:=H3.out.ord;have hlt:k<nl:=by have:=HNL.out;omega
      obtain ⟨eb,eo,hEe,heb,_,_,ce2,ce3⟩:=HA.out.2.2.2.2.2.1.at_ hk1;obtain ⟨x,hx⟩:∃x,x=a.ss[k]:=⟨_,rfl⟩;rw [<-hx] at ce2 ce3 hsq1;have hlk:=(HK.out.1.own HA.out.2.2.2.2.2.2 hk1 hcl).1;rw [<-hx] at hlk;have hDA:=hiD (doA_again (a:=a) (m:=vv.m) (e:=x) (by rw [HM.out.1];exact H0.out) (by rw [HM.out.1];exact hlk) (by rw [HM.out.2];exact hsq1));subst hEe;have d2:=(D.below.cell (p:=⟨eb,eo+k*4+2,none⟩) heb).trans ce2;have d3:=(D.below.cell (p:=⟨eb,eo+k*4+3,none⟩) heb).trans ce3;refine rx8 p r4 r5 n0 c0 eb eo nl lc n k x.cd A0 x.tx _ wc _ rfl rfl rfl rfl rfl hlt D.app (by omega) (by omega) (by omega) (by omega) (by omega) d2 d3 ⟨fun _ _ _=>rfl,⟨_,_,_,_,_,_,_,D.res⟩,⟨_,_,D.rep⟩,fun h=>(by cases h),fun h=>(by cases h),Only.refl _ _⟩ ?_;intro u w' hws;obtain ⟨_,_,_,k4,k5,hon⟩:=hws;have b9:Below w.heap.size w w':=D.below.drew.trans (hon.below (B:=w.heap.size) D.below.size (fun z hz=>by rcases hz with h|h<;>omega));obtain ⟨d0,d1,d2⟩:=(k4 rfl).cells;obtain ⟨d3,d4⟩:=(k5 rfl).cells;have F9:=hiD b9;clear hx hlk hsq hsq1 ce2 ce3 k4 k5 hon b9 D;simp only [puts,List.foldl_cons,List.foldl_nil,Act.put,List.setIfInBounds_toArray,List.set_cons_succ,List.set_cons_zero]
      go_wp2_with fail
      rw [hDA.out];obtain ⟨a1,a2,a3,a4,a5,a6,a7⟩:=HA.out;exact bodyPost_ret (v:=.tuple #[.agg #[.slice A0 n0 c0,.slice (some ⟨eb,eo,none⟩) nl lc,.int .u64 (n:Int)],ReplyV (x.cd,x.tx),.bool false]) (by simp [results,Tryz.results23,go_sem,d0,d1,d2,d3,d4,ReplyV]) rfl ⟨_,rfl,⟨A0,c0,some ⟨eb,eo,none⟩,lc,by rw [a1,a2,a4],by show a.ss.length<=lc;omega,a5.below F9.out,a6.below F9.out⟩,F9.out⟩
     |false=>
      go_upto_region 9 with (fail)
      go_cut [81] (fun s6 wx=>∃late:Bool,s6=.bool late/\Hid ((late=true->own=true/\∀h:k<a.ss.length,asq<(a.ss[k]).sq)/\(late=false->own=true->∀h:k<a.ss.length,¬asq<(a.ss[k]).sq)/\Below W3.heap.size W3 wx))
      case first=>
       have D:=H3.out.grew HG.out.2.2;have c1:wc.cell? ⟨p,1,none⟩=some (.slice E nl lc):=D.app.cells.2.1;have cq1:wc.cell? ⟨q,1,none⟩=some (.int .u32 (asq:Int)):=by have e:=blk_cell D.cmd 1;rw [HCE.out] at e;simpa using e
       cases own with
       |true=>
        obtain ⟨hk1,hcl⟩:=HO.out.1 rfl;have hlt:k<nl:=by have:=HNL.out;omega
        have hE1:HasE wc E a.ss:=HA.out.2.2.2.2.2.1.below D.below;obtain ⟨eb,eo,hEe,_,_,ce1,_⟩:=hE1.at_ hk1;subst hEe;obtain ⟨se,hse⟩:∃se,se=(a.ss[k]).sq:=⟨_,rfl⟩;rw [<-hse] at ce1;obtain ⟨b,hb⟩:∃b,b=decide (asq<se):=⟨_,rfl⟩;refine rx9 p q eb eo nl lc k se asq b hlt hb _ wc _ rfl rfl rfl rfl rfl c1 ce1 cq1 ?_;intro w' hgr;have HB:=hiD (aI hse hb);clear hse hb;simp only [puts,List.foldl_cons,List.foldl_nil,Act.put,List.setIfInBounds_toArray,List.set_cons_succ,List.set_cons_zero]
        go_wp2_with fail
        go_meet;have hse:=HB.out.1;have hb:=HB.out.2;refine ⟨b,rfl,hiD ⟨fun h=>⟨by simp,fun _=>?_⟩,fun h _ _=>?_,HG.out.2.2.trans (Below.mono hgr HG.out.2.2.size)⟩⟩
        ·rw [<-hse];rw [hb] at h;exact of_decide_eq_true h
        ·rw [<-hse];rw [hb] at h;exact of_decide_eq_false h
       |false=>
        refine rx9n p q k _ wc _ rfl rfl rfl rfl rfl ?_;intro w' hgr;simp only [puts,List.foldl_cons,List.foldl_nil,Act.put,List.setIfInBounds_toArray,List.set_cons_succ,List.set_cons_zero]
        go_wp2_with fail
        go_meet;exact ⟨false,rfl,hiD ⟨fun h=>(by cases h),fun _ h=>(by cases h),HG.out.2.2.trans (Below.mono hgr HG.out.2.2.size)⟩⟩
      case rest=>
       obtain ⟨late,rfl,HLT⟩:=hcut
       cases late with
       |true=>
        obtain ⟨ho,hsq⟩:=HLT.out.1 rfl;subst ho;obtain ⟨hk1,hcl⟩:=HO.out.1 rfl;have hsq1:=hsq hk1;have D:=H3.out.grew HLT.out.2.2;have hlk:=(HK.out.1.own HA.out.2.2.2.2.2.2 hk1 hcl).1;have hDA:=hiD (doA_old (a:=a) (m:=vv.m) (e:=a.ss[k]) (by rw [HM.out.1];exact H0.out) (by rw [HM.out.1];exact hlk) (by rw [HM.out.2];exact hsq1));obtain ⟨y0,y1,y2⟩:=D.app.cells;obtain ⟨x0,x1,x2⟩:=D.res.cells;obtain ⟨x3,x4⟩:=D.rep.cells;have f0:=blk_frozen D.res 0;have f1:=blk_frozen D.res 1;have f2:=blk_frozen D.res 2;have f3:=blk_frozen D.rep 0;have f4:=blk_frozen D.rep 1;have h45:r4≠r5:=Nat.ne_of_lt H3.out.ord.2.2.2.1;have h54:r5≠r4:=Ne.symm h45;have HD:=hiD D;clear hlk hsq hsq1 hcl hk1 D;go_wp2;have hfin:=HD.out.fin A0 n0 c0 E nl lc n 3 ⟨#[]⟩;unfold setR setA at hfin;obtain ⟨W9,hW9⟩:∃W9,W9=(((((wc.setCell ⟨r4,0,none⟩ (.slice A0 n0 c0)).setCell ⟨r4,1,none⟩ (.slice E nl lc)).setCell ⟨r4,2,none⟩ (.int .u64 (n:Int))).setCell ⟨r5,0,none⟩ (.int .u8 ((3:Nat):Int))).setCell ⟨r5,1,none⟩ (.string ⟨#[]⟩)):=⟨_,rfl⟩;rw [<-hW9] at hfin;rw [show (((((wc.setCell ⟨r4,0,none⟩ (.slice A0 n0 c0)).setCell ⟨r4,1,none⟩ (.slice E nl lc)).setCell ⟨r4,2,none⟩ (.int .u64 (n:Int))).setCell ⟨r5,0,none⟩ (.int .u8 3)).setCell ⟨r5,1,none⟩ (.string ⟨#[]⟩))=W9 from hW9.symm];obtain ⟨k4,k5,b9⟩:=hfin;obtain ⟨d0,d1,d2⟩:=k4.cells;obtain ⟨d3,d4⟩:=k5.cells;obtain ⟨a1,a2,a3,a4,a5,a6,a7⟩:=HA.out;rw [hDA.out];exact bodyPost_ret (v:=.tuple #[.agg #[.slice A0 n0 c0,.slice E nl lc,.int .u64 (n:Int)],ReplyV (3,⟨#[]⟩),.bool false]) (by simp [results,Tryz.results23,go_sem,d0,d1,d2,d3,d4,ReplyV]) rfl ⟨_,rfl,⟨A0,c0,E,lc,by rw [a1,a2,a4],by show a.ss.length<=lc;omega,a5.below b9,a6.below b9⟩,b9⟩
       |false=>
        have D:=H3.out.grew HLT.out.2.2
        have hnew:lookS a.ss vv.m.cl=none\/∃e,lookS a.ss vv.m.cl=some e/\e.sq<vv.m.sq:=by
         rw [HM.out.1,HM.out.2]
         cases own with
         |false=>exact .inl (HK.out.1.not HA.out.2.2.2.2.2.2 (HO.out.2.1 rfl)).1
         |true=>
          obtain ⟨hk1,hcl⟩:=HO.out.1 rfl;have h1:=HG.out.2.1 rfl rfl hk1;have h2:=HLT.out.2.1 rfl rfl hk1;exact .inr ⟨_,(HK.out.1.own HA.out.2.2.2.2.2.2 hk1 hcl).1,by omega⟩
        have hDA:=doA_new (a:=a) (m:=vv.m) (by rw [HM.out.1];exact H0.out) hnew;obtain ⟨kd,hkd⟩:∃kd,kd=if own then k+1 else k:=⟨_,rfl⟩
        have hrest:a.ss.filter (fun e=>decide (vv.m.cl<e.cl))=a.ss.drop kd:=by
         rw [HM.out.1,hkd]
         cases own with
         |false=>exact (HK.out.1.not HA.out.2.2.2.2.2.2 (HO.out.2.1 rfl)).2
         |true=>
          obtain ⟨hk1,hcl⟩:=HO.out.1 rfl;exact (HK.out.1.own HA.out.2.2.2.2.2.2 hk1 hcl).2
        have hkdl:kd<=nl:=by
         rw [hkd,HNL.out]
         cases own with
         |false=>exact HK.out.1.le
         |true=>exact (HO.out.1 rfl).1
        rw [hrest,show a.ss.filter (fun e=>decide (e.cl<vv.m.cl))=a.ss.take k from by rw [HM.out.1];exact HK.out.1.before HA.out.2.2.2.2.2.2,HM.out.1,HM.out.2] at hDA;have HDA:=hiD hDA;have HKD:=hiD (aI hkd hkdl);obtain ⟨y0,y1,y2⟩:=D.app.cells;have FF:∀i,wc.cell? ⟨q,i,none⟩=(#[.int .u32 (acl:Int),.int .u32 (asq:Int),.int .u8 (akd:Int),.slice KA KL kc,.string old,.string new,.int .i64 kn]:Array Value)[i]?:=fun i=>by rw [blk_cell D.cmd i,HCE.out]
        have x0:=FF 0;have x1:=FF 1;have x2:=FF 2;have x3:=FF 3;have x4:=FF 4;have x5:=FF 5;have x6:=FF 6;simp at x0 x1 x2 x3 x4 x5 x6;have HC:=refDo_any A0 n0 c0 a.ps vv wc HA.out.1 (by have:=HA.out.1;have:=HL.out.1;omega) (HA.out.2.2.2.2.1.below D.below) HL.out.2.1 (HV.out.below D.below);rw [show vv.val=.agg #[.int .u32 (acl:Int),.int .u32 (asq:Int),.int .u8 (akd:Int),.slice KA KL kc,.string old,.string new,.int .i64 kn] from by rw [HVV.out];rfl] at HC;have HCC:=hiD HC;have HD:=hiD D;clear D hnew hDA hrest hkd hkdl HC FF
        go_wp2_with fail
        refine HCC.out.mono ?_;rintro e W4 ⟨A8,n8,c8,rfl,hn8,hP8,hA8,hb4⟩;obtain ⟨⟨ps',cd,tx⟩,hd⟩:∃r,r=doP a.ps vv.m:=⟨_,rfl⟩;rw [<-hd] at hn8 hP8 ⊢;have D4:=HD.out.grew hb4;have H4:=hiD (aI D4 (aI hd (aI hn8 hP8)));have HA8:=hiD hA8;have HSZ:=hiD HD.out.ord.2.2.2.2;have B4:=hiD hb4;clear x0 x1 x2 x3 x4 x5 x6 y0 y1 y2 hd hn8 hP8 hA8 D4 hb4 HCC HD;go_upto_region 12 with (fail)
        obtain ⟨W5,hW5⟩:∃W5,W5=W4.alloc (Obj.cells #[.int .u8 (cd:Int),.string tx] 45):=⟨_,rfl⟩;rw [<-hW5];obtain ⟨x,hx⟩:∃x,x=W4.heap.size:=⟨_,rfl⟩;rw [<-hx];have hb5:Below W4.heap.size W4 W5:=by rw [hW5];exact (Below.refl _ _).alloc (nLr _) _
        have D5:=H4.out.1.grew hb5;have kx:RepX W5 x cd tx:=by rw [hW5,hx];exact wAh W4 _
        have hs5:W5.heap.size=x+1:=by rw [hW5,World.size_alloc,hx]
        have hx5:r5<x:=by rw [hx];exact H4.out.1.ord.2.2.2.2
        have hP5:HasP W5 A8 ps':=HasP.below H4.out.2.2.2 hb5;have hE5:HasE W5 E a.ss:=HA.out.2.2.2.2.2.1.below D5.below;have hklc:k<=lc:=nLt hkl HA.out.2.2.1;have hup:=fun W=>run_uptoE W E nl lc k hklc (by have:=HL.out.2.2.1;have:=HNL.out;omega)
        have c1:W5.cell? ⟨p,1,none⟩=some (.slice E nl lc):=D5.app.cells.2.1;have H5:=hiD (aI D5 (aI kx (aI hs5 (aI hx5 (aI hP5 hE5)))));have HLT1:Hid ((a.ss.take k).length=k/\k<=5000):=hiD ⟨by rw [List.length_take];have:=HNL.out;omega,by have:=HL.out.2.2.1;have:=HNL.out;omega⟩;clear hW5 hx hb5 D5 kx hs5 hx5 hP5 hE5 hklc;go_upto_region 13 with (first|(at_builtin;refine wpList_append_E rfl (.const (.slice none 0 0)) (.tmp 94) rfl W5.heap.size (.slice none 0 0) [] rfl (OwnE.nil _ _) E k lc (a.ss.take k) rfl HLT1.out.1.symm (H5.out.2.2.2.2.2.take k) (by have:=HLT1.out.2;simp;omega) (nLr _) ?_;intro v6 W6 hown6 hg6;have H6:=hiD (aI hown6 hg6);obtain ⟨A6,c6,hv6,_⟩:=hown6.form;rw [List.nil_append,HLT1.out.1] at hv6;subst hv6;clear hown6 hg6)|fail)
        have hb6:Below W5.heap.size W5 W6:=(Below.refl _ _).grown H6.out.2 (nLr _) (fun g e=>by cases e);have D6:=H5.out.1.grew hb6;have k6:RepX W6 x cd tx:=(hb6.block x (by have:=H5.out.2.2.1;omega)).trans H5.out.2.1;have FF:∀i,W6.cell? ⟨q,i,none⟩=(#[.int .u32 (acl:Int),.int .u32 (asq:Int),.int .u8 (akd:Int),.slice KA KL kc,.string old,.string new,.int .i64 kn]:Array Value)[i]?:=fun i=>by rw [blk_cell D6.cmd i,HCE.out]
        have x0:=FF 0;have x1:=FF 1;simp at x0 x1;obtain ⟨x2,x3⟩:=k6.cells;have B6:=hiD (aI hb6 k6);have hone:=hasE_one (w:=W6) ⟨acl,asq,cd,tx⟩;have HONE:=hiD hone;clear hb6 D6 k6 FF c1 hone hup
        go_upto_if 105 with (first|(at_builtin;refine wpList_append_E rfl (.tmp 96) (.tmp 103) rfl W5.heap.size (.slice A6 k c6) (a.ss.take k) rfl (OwnE.below H6.out.1 ((Below.refl _ W6).alloc (nLr _) _)) (some ⟨W6.heap.size,0,none⟩) 1 1 [⟨acl,asq,cd,tx⟩] rfl rfl HONE.out (by have:=HLT1.out;omega) (nLt B6.out.1.size (by simp)) ?_;intro v7 W7 hown7 hg7;have H7:=hiD (aI hown7 hg7);obtain ⟨A7,c7,hv7,_⟩:=hown7.form;rw [List.length_append,HLT1.out.1] at hv7;replace hv7:v7=.slice A7 (k+1) c7:=hv7;subst hv7;clear hown7 hg7)|fail)
        have hb7:Below W5.heap.size W5 W7:=(B6.out.1.trans (Below.mono ((Below.refl _ W6).alloc (nLr _) (.cells (eCells ⟨acl,asq,cd,tx⟩) 84)) B6.out.1.size)).grown H7.out.2 (nLt B6.out.1.size (by simp)) (fun g e=>OwnE.ge H6.out.1 g e);have D7:=H5.out.1.grew hb7;have k7:RepX W7 x cd tx:=(hb7.block x (by have:=H5.out.2.2.1;omega)).trans H5.out.2.1;have B7:=hiD (aI hb7 (aI D7 k7));have hki:(k:Int)<=5000:=by have:=HLT1.out.2;omega
        clear x0 x1 x2 x3 hb7 D7 k7;go_cut [7] (fun s7 wx=>W7=wx/\s7=.int .i64 (kd:Int))
        case first=>
         have hkd:=HKD.out.1
         cases own with
         |true=>
          have hk:kd=k+1:=hkd;subst hk;have HK1:=HKD;clear HKD hkd;go_wp2;go_meet;exact ⟨rfl,rfl⟩
         |false=>
          have hk:kd=k:=hkd;subst hk;clear hkd;go_wp2;go_meet;exact ⟨rfl,rfl⟩
        case rest=>
         obtain ⟨rfl,rfl⟩:=hcut;go_upto_region 16 with (fail)
         obtain ⟨E2,hsl,hE2⟩:=run_fromE E nl lc kd HKD.out.2 HA.out.2.2.1 (by have:=HL.out.2.2.1;have:=HNL.out;omega);obtain ⟨n1,hn1⟩:∃n1,n1=a.n+1:=⟨_,rfl⟩
         have hwr:IntKind.u64.wrap ((n:Int)+1)=(n1:Int):=by
          have h1:=HA.out.2.2.2.1;have h2:=HL.out.2.2.2;rw [IntKind.wrap_u64];omega
         obtain ⟨o1,o2,o3,o4,o5⟩:=H5.out.1.ord;have hwB:w.heap.size<=W5.heap.size:=H5.out.1.below.size;have hxB:=H5.out.2.2.1;have hx5:=H5.out.2.2.2.1;have hdl:(a.ss.drop kd).length=nl - kd:=by rw [List.length_drop,HNL.out]
         have hW5:∀b,b<W5.heap.size->W7.heap[b]?=W5.heap[b]?:=fun b hb=>B7.out.1.block b hb
         have hDE:∀W:World,(∀b,b<W5.heap.size->b≠r4->b≠r5->W.heap[b]?=W7.heap[b]?)->HasE W E2 (a.ss.drop kd):=fun W hW=>HA.out.2.2.2.2.2.1.drop (fun b o e h=>hE2 b o e (by rw [HNL.out];exact h)) (fun b hb=>((hW b (by omega) (by omega) (by omega)).trans (hW5 b (by omega))).trans (H5.out.1.below.block b hb))
         have hDP:∀W:World,(∀b,b<W5.heap.size->b≠r4->b≠r5->W.heap[b]?=W7.heap[b]?)->HasP W A8 ps':=fun W hW=>by
          rcases HA8.out with ⟨h1,h2⟩|h1
          ·rw [h1];have h3:ps'=a.ps:=(congrArg Prod.fst H4.out.2.1).trans h2;rw [h3];exact HA.out.2.2.2.2.1.heap (fun b o _ hb=>((hW b (by omega) (by omega) (by omega)).trans (hW5 b (by omega))).trans (H5.out.1.below.block b hb))
          ·refine H5.out.2.2.2.2.1.heap (fun b o e hb=>?_);have h2:=h1 b o none e;have h3:=HSZ.out;exact (hW b hb (by omega) (by omega)).trans (hW5 b hb)
         have hn8:=H4.out.2.2.1;have HD:=hiD (aI hn1 (aI hDP hdl));have hown:=OwnE.below H7.out.1 ((Below.refl _ W7).drew);have hlk:(a.ss.take k++[(⟨acl,asq,cd,tx⟩:SE)]).length+(nl - kd)<=1000000:=by rw [List.length_append,HLT1.out.1];have:=HL.out.2.2.1;have:=HNL.out;have:=HLT1.out.2;show k+1+(nl - kd)<=1000000;omega
         refine rx16 p r4 r5 x n0 c0 nl lc n n1 kd (nl - kd) (lc - kd) n8 c8 (k+1) c7 cd W5.heap.size w.heap.size A0 E E2 A8 A7 (a.ss.take k++[(⟨acl,asq,cd,tx⟩:SE)]) (a.ss.drop kd) tx _ W7 _ rfl rfl rfl rfl rfl rfl rfl rfl hwB (by omega) (by omega) (by omega) (by omega) (by omega) (by omega) (by omega) (by omega) (by omega) (by omega) (by omega) B7.out.2.1.app B7.out.2.2 hdl.symm hlk hDE hsl hwr ⟨fun _ _ _ _=>rfl,fun _=>hown,fun h=>(by cases h),⟨_,_,_,_,_,_,_,B7.out.2.1.res⟩,⟨_,_,B7.out.2.1.rep⟩,fun h=>(by cases h),fun h=>(by cases h),Below.refl _ _,B7.out.1.size⟩ ?_;intro u W9 hws;obtain ⟨w1,_,w3,_,_,w6,w7,w8,_⟩:=hws;obtain ⟨A9,C9,hu,k4⟩:=w6 rfl;obtain ⟨A9',C9',hu',ho⟩:=w3 rfl;rw [hu] at hu' ho
         cases hu'
         subst hu;obtain ⟨d0,d1,d2⟩:=k4.cells;obtain ⟨d3,d4⟩:=(w7 rfl).cells;have b9:Below w.heap.size w W9:=B7.out.2.1.below.drew.trans w8;have hP9:=hDP W9 w1;have F9:=hiD (aI b9 (aI ho hP9));have HN8:=hiD hn8;clear w1 w3 w6 w7 w8 k4 ho b9 hP9 hDE hDP hsl hE2 hwr hW5 hdl hn1 hown hlk hn8;simp only [puts,List.foldl_cons,List.foldl_nil,Act.put,List.setIfInBounds_toArray,List.set_cons_succ,List.set_cons_zero]
         go_wp2_with fail
         rw [HDA.out,<-H4.out.2.1];obtain ⟨A10,c10,hv10,hc10⟩:=F9.out.2.1.form
         cases hv10
         have hll:(a.ss.take k++[(⟨acl,asq,cd,tx⟩:SE)]++a.ss.drop kd)=a.ss.take k++⟨acl,asq,cd,tx⟩::a.ss.drop kd:=by rw [List.append_assoc];rfl
         have hE9:=F9.out.2.1.has;rw [hll] at hE9 hc10 d1;have hpn:n8=ps'.length:=HN8.out;exact bodyPost_ret (v:=.tuple #[.agg #[.slice A8 n8 c8,.slice A9 (a.ss.take k++⟨acl,asq,cd,tx⟩::a.ss.drop kd).length C9,.int .u64 (n1:Int)],ReplyV (cd,tx),.bool true]) (by simp [results,Tryz.results23,go_sem,d0,d1,d2,d3,d4,ReplyV]) rfl ⟨_,rfl,⟨A8,c8,A9,C9,by rw [hpn,HD.out.1],hc10,F9.out.2.2,hE9⟩,F9.out.1⟩
def tupAt:Value->Nat->Value
 |.tuple xs,i=>xs.getD i undef
 |_,_=>undef
theorem HasP.apart {w W:World} {A A0 A1:Option Addr} {l:List PV} {r n0 c0 n1 c1 n:Nat} (h:HasP w A l) (hr:AppC w r A0 n0 c0 A1 n1 c1 n) (hW:∀b,b<w.heap.size->b≠r->W.heap[b]?=w.heap[b]?):HasP W A l:=fun hl=>by
 have hl0:0<l.length:=List.length_pos_iff.2 hl;obtain ⟨b,o,e,h1,h2⟩:=h hl
 have hb:b≠r:=by
  rintro rfl;have c:=(h2 0 hl0).1;rw [blk_cell hr] at c;have hm:=Array.mem_of_getElem? c;simp at hm
 have hbw:=hW b h1 hb;exact ⟨b,o,e,lt_heap h1 hbw,fun j hj=>⟨(cell_heap hbw).trans (h2 j hj).1,(cell_heap hbw).trans (h2 j hj).2⟩⟩
theorem HasE.apart {w W:World} {A A0 A1:Option Addr} {l:List SE} {r n0 c0 n1 c1 n:Nat} (h:HasE w A l) (hr:AppC w r A0 n0 c0 A1 n1 c1 n) (hW:∀b,b<w.heap.size->b≠r->W.heap[b]?=w.heap[b]?):HasE W A l:=fun hl=>by
 have hl0:0<l.length:=List.length_pos_iff.2 hl;obtain ⟨b,o,e,h1,h2⟩:=h hl
 have hb:b≠r:=by
  rintro rfl;have c:w.cell? ⟨b,o+0*4+0,none⟩=some (.int .u32 (l[0].cl:Int)):=h2 0 hl0 0 _ rfl;rw [blk_cell hr] at c;have hm:=Array.mem_of_getElem? c;simp at hm
 have hbw:=hW b h1 hb;exact ⟨b,o,e,lt_heap h1 hbw,fun j hj i u hu=>(cell_heap hbw).trans (h2 j hj i u hu)⟩
theorem AppV.apart {w W:World} {v:Value} {a:AM} {r:Nat} {A0 A1:Option Addr} {n0 c0 n1 c1 n:Nat} (h:AppV w v a) (hr:AppC w r A0 n0 c0 A1 n1 c1 n) (hW:∀b,b<w.heap.size->b≠r->W.heap[b]?=w.heap[b]?):AppV W v a:=by
 obtain ⟨B0,d0,B1,d1,e1,e2,e3,e4⟩:=h;exact ⟨B0,d0,B1,d1,e1,e2,e3.apart hr hW,e4.apart hr hW⟩
theorem run_ldX (w:World) (b o:Nat) (x:CmdV) (h:∀i u,x.cells[i]?=some u->w.cell? ⟨b,o+i,none⟩=some u):(Instr.loadAt 57 (.pointer (some ⟨b,o,none⟩))).run Tryz.prog w=.ok x.val w:=by
 have h0:=h 0 _ rfl;have h1:=h 1 _ rfl;have h2:=h 2 _ rfl;have h3:=h 3 _ rfl;have h4:=h 4 _ rfl;have h5:=h 5 _ rfl;have h6:=h 6 _ rfl;simp at h0;simp [go_sem,h0,h1,h2,h3,h4,h5,h6,CmdV.val,CmdV.cells]
theorem run_ixX (w:World) (b o L c q:Nat) (h:q<L):(Instr.indexAt 22 (.slice (some ⟨b,o,none⟩) L c) (.int .i64 (q:Int))).run Tryz.prog w=.ok (.pointer (some ⟨b,o+q*7,none⟩)) w:=by
 have h1:(q:Int)<L:=by omega
 have h0:(0:Int)<=(q:Int):=by omega
 simp [go_sem,h1,h0]
noncomputable def opsFo:List Oper:=opsOf Tryz.f8 5
def wsFo (r3 _k _cb _co _Lc _cc:Nat) (A0:Option Addr) (n0 c0:Nat) (E:Option Addr) (nl lc n B0:Nat) (_x:CmdV) (cd:Nat) (tx:ByteArray) (fr:Bool) (b:AM) (W0:World) (L:Nat->Bool) (u:Value) (w:World):Prop:=(∀g,g<W0.heap.size->g≠r3->w.heap[g]?=W0.heap[g]?)/\W0.heap.size<=w.heap.size/\Below B0 W0 w/\(L 10=false->AppC w r3 A0 n0 c0 E nl lc n)/\(L 5=true->∃v',u=.tuple #[v',.agg #[.int .u8 (cd:Int),.string tx],.bool fr]/\AppV w v' b)/\(L 10=true->∃B1 d1 B2 d2,tupAt u 0=.agg #[.slice B1 b.ps.length d1,.slice B2 b.ss.length d2,.int .u64 (b.n:Int)]/\AppC w r3 B1 b.ps.length d1 B2 b.ss.length d2 b.n)
theorem wsFo_same (r3 k cb co Lc cc:Nat) (A0:Option Addr) (n0 c0:Nat) (E:Option Addr) (nl lc n B0:Nat) (x:CmdV) (cd:Nat) (tx:ByteArray) (fr:Bool) (b:AM) {W0:World} {L:Nat->Bool} {i:Nat} {u:Value} {w:World} (k5:((5:Nat)==i)=false) (k10:((10:Nat)==i)=false) (h:wsFo r3 k cb co Lc cc A0 n0 c0 E nl lc n B0 x cd tx fr b W0 L u w):wsFo r3 k cb co Lc cc A0 n0 c0 E nl lc n B0 x cd tx fr b W0 (fun j=>L j||j==i) u w:=by
 unfold wsFo at h ⊢;simp only [beq_noF k5,beq_noF k10];exact h
theorem rxfo (r3 k cb co Lc cc:Nat) (A0:Option Addr) (n0 c0:Nat) (E:Option Addr) (nl lc n B0:Nat) (x:CmdV) (cd:Nat) (tx:ByteArray) (fr:Bool) (b:AM) (a:Act) (w:World) (Q:Exit->Act->World->Prop) (hN:a.tmps.size=23) (h0:a.tmps.getD 0 undef=.slice (some ⟨cb,co,none⟩) Lc cc) (h3:a.tmps.getD 3 undef=.pointer (some ⟨r3,0,none⟩)) (h4:a.tmps.getD 4 undef=.int .i64 (k:Int)) (hk:k<Lc) (h3B:r3<w.heap.size) (hB0:B0<=w.heap.size) (hB3:B0<=r3) (hcb:cb≠r3) (hcw:cb<w.heap.size) (hx:∀i u,x.cells[i]?=some u->w.cell? ⟨cb,co+k*7+i,none⟩=some u) (hC:∀w',(∀g,g<w.heap.size->g≠r3->w'.heap[g]?=w.heap[g]?)->Below B0 w.drew w'->w.heap.size<=w'.heap.size->Calls Tryz.prog 23 #[.agg #[.slice A0 n0 c0,.slice E nl lc,.int .u64 (n:Int)],x.val] w' fun e W'=>∃v',e=.returned (.tuple #[v',.agg #[.int .u8 (cd:Int),.string tx],.bool fr])/\AppV W' v' b/\Below w'.heap.size w' W') (hW0:wsFo r3 k cb co Lc cc A0 n0 c0 E nl lc n B0 x cd tx fr b w.drew (fun _=>false) undef w.drew) (hQ:∀(u:Value) w',wsFo r3 k cb co Lc cc A0 n0 c0 E nl lc n B0 x cd tx fr b w.drew (fun _=>true) u w'->Q .normal (puts [(13,.agg #[.slice A0 n0 c0,.slice E nl lc,.int .u64 (n:Int)]),(14,.slice (some ⟨cb,co,none⟩) Lc cc),(15,.int .i64 (k:Int)),(16,.pointer (some ⟨cb,co+k*7,none⟩)),(17,x.val),(18,u),(12,u),(19,tupAt u 0),(20,tupAt u 1),(21,tupAt u 2)] a) w')
 :(Code.region 5 opsFo.toArray true).wp Tryz.prog Q a w:=by
 refine region_c (U:=Value) 23 opsFo [(0,.slice (some ⟨cb,co,none⟩) Lc cc),(3,.pointer (some ⟨r3,0,none⟩)),(4,.int .i64 (k:Int))] [5,7,8,9,10] (fun u=>[.agg #[.slice A0 n0 c0,.slice E nl lc,.int .u64 (n:Int)],.slice (some ⟨cb,co,none⟩) Lc cc,.int .i64 (k:Int),.pointer (some ⟨cb,co+k*7,none⟩),x.val,u,u,tupAt u 0,tupAt u 1,tupAt u 2,undef]) (wsFo r3 k cb co Lc cc A0 n0 c0 E nl lc n B0 x cd tx fr b w.drew) undef follows (by kernel_rfl) hN ⟨h0,h3,h4,trivial⟩ (fun _=>nBl rfl) hW0 (fun _ _ _ _ hi h=>wsFo_same _ _ _ _ _ _ _ _ _ _ _ _ _ _ _ _ _ _ _ (key_ne hi rfl) (key_ne hi rfl) h) ?_ ?_ ?_
 ·intro L u w' hW hcl;exact ⟨fun hLi=>ob_load (run_lxA _ _ _ _ _ _ _ _ _ (hW.2.2.2.1 (not_yetF hcl 30 (show reachB opsFo 30 10 0=true by kernel_rfl) hLi))),fun _=>rfl,fun _=>rfl,fun _=>ob_idx (run_ixX _ _ _ _ _ _ hk),fun _=>ob_load (run_ldX _ _ _ x (fun i u hu=>(cell_heap (hW.1 cb hcw hcb)).trans (hx i u hu))),trivial,fun _=>rfl,trivial,trivial,trivial,trivial,trivial⟩
 ·refine ⟨?_,?_,?_,?_,?_,trivial⟩
  ·rintro o ho L u a' w' hLi hpre hcl hR hW fin;have hio:=(nthO_eq _ _).symm.trans ho
   cases ho
   have q0:a'.tmps.getD 13 undef=.agg #[.slice A0 n0 c0,.slice E nl lc,.int .u64 (n:Int)]:=hR.val 0 _ 13 rfl rfl (edge_ofF hpre 0 rfl);have q4:a'.tmps.getD 17 undef=x.val:=hR.val 4 _ 17 rfl rfl (edge_ofF hpre 4 rfl);obtain ⟨w1,w2,w3,w4,w5,w6⟩:=hW;have n10:L 10=false:=not_yetF hcl 30 (show reachB opsFo 30 10 5=true by kernel_rfl) hLi;refine step_callD hio rfl rfl (enters_of Tryz.func23 (by kernel_rfl) rfl) (show Array.map a'.eval #[.tmp 13,.tmp 17]=_ from by simp only [List.map_toArray,List.map_cons,List.map_nil,Act.eval,q0,q4]) ((hC w' w1 w3 w2).mono ?_);rintro e w'' ⟨v',rfl,hv',hb⟩
   have hW2:wsFo r3 k cb co Lc cc A0 n0 c0 E nl lc n B0 x cd tx fr b w.drew (fun j=>L j||j==5) (.tuple #[v',.agg #[.int .u8 (cd:Int),.string tx],.bool fr]) w'':=by
    have hw3:w.drew.heap.size<=w'.heap.size:=w2;refine ⟨fun g h1 h2=>(hb.block g (nLl h1 w2)).trans (w1 g h1 h2),nLt w2 hb.size,w3.trans (Below.mono hb (nLt hB0 w2)),fun _=>(hb.block r3 (nLl h3B w2)).trans (w4 n10),fun _=>⟨v',rfl,hv'⟩,fun h=>?_⟩;have h':L 10=true:=by simpa using h
    rw [n10] at h'
    cases h'
   exact ⟨_,rfl,(fin ((.tuple #[v',.agg #[.int .u8 (cd:Int),.string tx],.bool fr])) _ _ (fun _=>rfl) (fun j hj=>by
    rcases j with _|_|_|_|_|_|_|_|_|_|_|j<;>first|rfl|exact Bool.noConfusion (hj.symm.trans hLi)|exact Bool.noConfusion (hj.symm.trans (not_yetF hcl 30 (by kernel_rfl) hLi))) (hW2))⟩
  ·rintro o ho L u a' w' hLi hpre hcl hR hW fin;have hio:=(nthO_eq _ _).symm.trans ho
   cases ho
   have q6:a'.tmps.getD 12 undef=u:=hR.val 6 _ 12 rfl rfl (edge_ofF hpre 6 rfl);obtain ⟨v',hv,_⟩:=hW.2.2.2.2.1 (reach_ofF hcl 30 6 5 (show reachB opsFo 30 6 5=true by kernel_rfl) (edge_ofF hpre 6 rfl));exact step_extractF hio rfl rfl (q6.trans hv) (by rw [hv];rfl) (fin (u) (tupAt u 0) _ (fun _=>rfl) (fun _ _=>rfl) (wsFo_same _ _ _ _ _ _ _ _ _ _ _ _ _ _ _ _ _ _ _ rfl rfl hW))
  ·rintro o ho L u a' w' hLi hpre hcl hR hW fin;have hio:=(nthO_eq _ _).symm.trans ho
   cases ho
   have q6:a'.tmps.getD 12 undef=u:=hR.val 6 _ 12 rfl rfl (edge_ofF hpre 6 rfl);obtain ⟨v',hv,_⟩:=hW.2.2.2.2.1 (reach_ofF hcl 30 6 5 (show reachB opsFo 30 6 5=true by kernel_rfl) (edge_ofF hpre 6 rfl));exact step_extractF hio rfl rfl (q6.trans hv) (by rw [hv];rfl) (fin (u) (tupAt u 1) _ (fun _=>rfl) (fun _ _=>rfl) (wsFo_same _ _ _ _ _ _ _ _ _ _ _ _ _ _ _ _ _ _ _ rfl rfl hW))
  ·rintro o ho L u a' w' hLi hpre hcl hR hW fin;have hio:=(nthO_eq _ _).symm.trans ho
   cases ho
   have q6:a'.tmps.getD 12 undef=u:=hR.val 6 _ 12 rfl rfl (edge_ofF hpre 6 rfl);obtain ⟨v',hv,_⟩:=hW.2.2.2.2.1 (reach_ofF hcl 30 6 5 (show reachB opsFo 30 6 5=true by kernel_rfl) (edge_ofF hpre 6 rfl));exact step_extractF hio rfl rfl (q6.trans hv) (by rw [hv];rfl) (fin (u) (tupAt u 2) _ (fun _=>rfl) (fun _ _=>rfl) (wsFo_same _ _ _ _ _ _ _ _ _ _ _ _ _ _ _ _ _ _ _ rfl rfl hW))
  ·rintro o ho L u a' w' hLi hpre hcl hR hW fin;have hio:=(nthO_eq _ _).symm.trans ho
   cases ho
   have hF:=hR.frm;have q7:a'.tmps.getD 19 undef=tupAt u 0:=hR.val 7 _ 19 rfl rfl (edge_ofF hpre 7 rfl);obtain ⟨w1,w2,w3,w4,w5,w6⟩:=hW;have h4:=w4 hLi;obtain ⟨v',hu,hAV⟩:=w5 (edge_ofF hpre 5 rfl);have hAV0:=hAV;obtain ⟨B1,d1,B2,d2,hv,hle,_,_⟩:=hAV;subst hv;have hx1:a'.eval (.tmp 3)=.pointer (some ⟨r3,0,none⟩):=(hF.at 3 rfl h3);have hx2:a'.eval (.tmp 19)=.agg #[.slice B1 b.ps.length d1,.slice B2 b.ss.length d2,.int .u64 (b.n:Int)]:=q7.trans (by rw [hu];rfl);have hst:=run_sxA (B0:=B1) (m0:=b.ps.length) (d0:=d1) (B1:=B2) (m1:=b.ss.length) (d1:=d2) (m:=b.n) h4
   refine step_skip hio rfl (by intro c h;cases h) (by simp [Oper.about]) (w':=setA w' r3 B1 b.ps.length d1 B2 b.ss.length d2 b.n) (by
    unfold execOp;simp only [hx1,hx2,Sem.run_bind,hst,Result.andThen_ok]
    rfl) ?_
   have hW2:wsFo r3 k cb co Lc cc A0 n0 c0 E nl lc n B0 x cd tx fr b w.drew (fun j=>L j||j==10) u (setA w' r3 B1 b.ps.length d1 B2 b.ss.length d2 b.n):=by
    refine ⟨fun g h1 h2=>(setA_heap _ _ h2).trans (w1 g h1 h2),by simpa [setA] using w2,((w3.setCell (p:=⟨r3,0,none⟩) hB3 _).setCell (p:=⟨r3,1,none⟩) hB3 _).setCell (p:=⟨r3,2,none⟩) hB3 _,fun h=>(by simp at h),fun _=>⟨_,hu,hAV0.apart h4 (fun g _ h2=>setA_heap _ _ h2)⟩,fun _=>⟨B1,d1,B2,d2,by rw [hu];rfl,h4.set⟩⟩
   exact (fin (u) _ _ (fun h=>(by cases h)) (fun _ _=>rfl) (hW2))
 ·intro L u w' hl hW;refine hQ u w' ?_;unfold wsFo at hW ⊢;simp only [hl 5 (nBl rfl),hl 10 (nBl rfl)] at hW ⊢;exact hW
end Go.Proofs.YtfjmdkhemnmkpaaGreatDoor
