/- Parts of the proof: WvWk, CmOpen, WvOpen, CmLaid, KqLaid, WvLawR. -/
import Derived.Test.YtfjmdkhemnmkpaaGreatDoorR16
import Derived.Handy
import Derived.Test.YtfjmdkhemnmkpaaGreatDoorR03
import Derived.Deep.Slices
import Derived.ProofKit
import Derived.SizedLaws
import Derived.Test.YtfjmdkhemnmkpaaGreatDoorR06
import Derived.Test.YtfjmdkhemnmkpaaGreatDoorCards
import Derived.SevenTiedAt
import Derived.LaidMore
import Derived.LaidHandle
import Derived.OpenShut
import Derived.Lib.LaidTab
import Derived.Stop.Joined
import Derived.Stop.LaidErr
import Derived.Test.YtfjmdkhemnmkpaaGreatDoorR32
import Derived.Test.YtfjmdkhemnmkpaaGreatDoorTie
import Derived.ChangeMaps5
set_option maxRecDepth 100000
set_option maxHeartbeats 8000000
namespace Go.Proofs.YtfjmdkhemnmkpaaGreatDoor
open Go.RowKit
def addV (cl S:Nat) (k:ByteArray):CmdV:=⟨cl,1,4,some ⟨S,0,none⟩,1,1,[k],kE,kE,1⟩
/-- A command that the law's add makes. -/
theorem addW_any (cl:Nat) (k:ByteArray) (w:World):Calls Tryz.prog 19 #[.int .u32 (cl:Int),.string k] w fun e W'=>∃S,e=.returned (addV cl S k).val/\W'.heap[S]?=some (.cells #[.string k] 9 (0,0))/\w.heap.size<=S/\Below w.heap.size w W':=by
 obtain ⟨W0,hW0⟩:∃W0,W0=w.alloc (Obj.cells #[.int .u32 0,.int .u32 0,.int .u8 0,.slice none 0 0,.string kE,.string kE,.int .i64 0] 57):=⟨_,rfl⟩;obtain ⟨W1,hW1⟩:∃W1,W1=W0.alloc (Obj.cells #[.string k] 9):=⟨_,rfl⟩;obtain ⟨g,hg⟩:∃g,g=w.heap.size:=⟨_,rfl⟩;have s0:W0.heap.size=g+1:=by rw [hW0,hg];exact World.size_alloc _ _
 have hb0:Below w.heap.size w W0:=by rw [hW0];exact (Below.refl _ w).alloc (nLr _) _
 have k0:W0.heap[g]?=some (.cells #[.int .u32 0,.int .u32 0,.int .u8 0,.slice none 0 0,.string kE,.string kE,.int .i64 0] 57 (0,0)):=by rw [hW0,hg];exact wAh w _
 have hb1:Below W0.heap.size W0 W1:=by rw [hW1];exact (Below.refl _ W0).alloc (nLr _) _
 have k1:W1.heap[g+1]?=some (.cells #[.string k] 9 (0,0)):=by rw [<-s0,hW1];exact wAh W0 _
 have k2:=(hb1.block g (by omega)).trans k0;have y0:=blk_cell k2 0;have y1:=blk_cell k2 1;have y2:=blk_cell k2 2;have y3:=blk_cell k2 3;have y4:=blk_cell k2 4;have y5:=blk_cell k2 5;have y6:=blk_cell k2 6;simp at y0 y1 y2 y3 y4 y5 y6;have u0:=blk_frozen k2 0;have u1:=blk_frozen k2 1;have u2:=blk_frozen k2 2;have u3:=blk_frozen k2 3;have u4:=blk_frozen k2 4;have u5:=blk_frozen k2 5;have u6:=blk_frozen k2 6;have HB:=hiD (aI (hb0.trans (Below.mono hb1 hb0.size)) (aI k1 (aI k2 hg)));clear hb0 hb1 k0 k1 k2;go_enter Tryz.func19,Tryz.ntmps19;go_upto_region 1 with (fail)
 rw [<-hW0,<-hg];clear hW0 hg;have e1:W0.heap.size=g+1:=s0;rw [hW1] at y0 y1 y2 y3 y4 y5 y6 u0 u1 u2 u3 u4 u5 u6;clear s0;have E1:=hiD e1;clear e1;go_wp2;rw [E1.out,<-hW1];obtain ⟨W9,hW9⟩:∃W9,W9=(((((((W1.setCell ⟨g,0,none⟩ (.int .u32 (cl:Int))).setCell ⟨g,1,none⟩ (.int .u32 1)).setCell ⟨g,2,none⟩ (.int .u8 4)).setCell ⟨g,3,none⟩ (.slice (some ⟨g+1,0,none⟩) 1 1)).setCell ⟨g,4,none⟩ (.string kE)).setCell ⟨g,5,none⟩ (.string kE)).setCell ⟨g,6,none⟩ (.int .i64 1)):=⟨_,rfl⟩;rw [<-hW9]
 have k9:W9.heap[g]?=some (.cells #[.int .u32 (cl:Int),.int .u32 1,.int .u8 4,.slice (some ⟨g+1,0,none⟩) 1 1,.string kE,.string kE,.int .i64 1] 57 (0,0)):=by
  rw [hW9];exact blk_set (blk_set (blk_set (blk_set (blk_set (blk_set (blk_set HB.out.2.2.1 0 _) 1 _) 2 _) 3 _) 4 _) 5 _) 6 _
 have hgw:w.heap.size<=g:=by rw [HB.out.2.2.2];exact nLr _
 have nb:∀{V:World} {o:Obj} (i:Nat) (u:Value),V.heap[g+1]?=some o->(V.setCell ⟨g,i,none⟩ u).heap[g+1]?=some o:=fun i u h=>(Below.heap_setCell _ _ _ _ (by show g+1≠g;omega)).trans h
 have ks9:W9.heap[g+1]?=some (.cells #[.string k] 9 (0,0)):=by rw [hW9];exact nb _ _ (nb _ _ (nb _ _ (nb _ _ (nb _ _ (nb _ _ (nb _ _ HB.out.2.1))))))
 have b9:Below w.heap.size w W9:=by
  rw [hW9];exact ((((((HB.out.1.setCell (p:=⟨g,0,none⟩) hgw _).setCell (p:=⟨g,1,none⟩) hgw _).setCell (p:=⟨g,2,none⟩) hgw _).setCell (p:=⟨g,3,none⟩) hgw _).setCell (p:=⟨g,4,none⟩) hgw _).setCell (p:=⟨g,5,none⟩) hgw _).setCell (p:=⟨g,6,none⟩) hgw _
 have d0:=blk_cell k9 0;have d1:=blk_cell k9 1;have d2:=blk_cell k9 2;have d3:=blk_cell k9 3;have d4:=blk_cell k9 4;have d5:=blk_cell k9 5;have d6:=blk_cell k9 6;simp at d0 d1 d2 d3 d4 d5 d6;exact bodyPost_ret (v:=(addV cl (g+1) k).val) (by simp [results,Tryz.results19,go_sem,d0,d1,d2,d3,d4,d5,d6,addV,CmdV.val,CmdV.cells]) rfl ⟨g+1,rfl,ks9,by omega,b9⟩
theorem add_ok {w:World} {cl S:Nat} {k:ByteArray} (hcl:cl<100) (hk:k.size<=1) (h:w.heap[S]?=some (.cells #[.string k] 9 (0,0))):(addV cl S k).ok w:=
 ⟨by show cl<4294967296;omega,by show 1<4294967296;omega,by show 4<256;omega,by show -9223372036854775808<=(1:Int)/\(1:Int)<=9223372036854775807;omega,rfl,by show 1<=_;omega,
  fun _=>⟨S,0,rfl,(geS.1 h).1,fun j hj=>by
   have hj':j<1:=hj;obtain rfl:j=0:=by omega
   rw [blk_cell h];rfl⟩,fun x hx=>by
   have:x=k:=by simpa [addV] using hx
   rw [this];exact nLt hk (by decide),by show kE.size<=_;decide,by show kE.size<=_;decide⟩
theorem add_small {cl S:Nat} {k:ByteArray} (hk:k.size<=1):¬(addV cl S k).great:=by
 rintro (h|h|h|⟨j,hj,h⟩)
 ·revert h;show ¬500<kE.size;decide
 ·revert h;show ¬500<kE.size;decide
 ·revert h;show ¬100<1;decide
 ·have hj':j<1:=hj;obtain rfl:j=0:=by omega
  have h':500<k.size:=h;omega
theorem flat7W:∀(l:List CmdV) (j:Nat) (hj:j<l.length) (i:Nat),i<7->(l.flatMap fun v=>v.cells.toList)[j*7+i]?=l[j].cells[i]?
 |v::l,0,_,i,hi=>by
  have h7:v.cells.toList.length=7:=rfl;rw [List.flatMap_cons,List.getElem?_append_left (by omega)];simp
 |v::l,j+1,hj,i,hi=>by
  have h7:v.cells.toList.length=7:=rfl;rw [List.flatMap_cons,List.getElem?_append_right (by omega),h7,show (j+1)*7+i - 7=j*7+i by omega];exact flat7W l j (by simpa using hj) i hi
theorem hasC_blkW {V:World} {b:Nat} {l:List CmdV} {t:TypeId} (h:V.heap[b]?=some (.cells (l.flatMap fun v=>v.cells.toList).toArray t (0,0))) (ok:∀v∈l,v.ok V):HasC V (some ⟨b,0,none⟩) l:=fun _=>
 ⟨b,0,rfl,(geS.1 h).1,fun j hj=>⟨fun i u hu=>by
  have hi:i<7:=(geS.1 hu).1;rw [blk_cell h,Nat.zero_add,List.getElem?_toArray,flat7W l j hj i hi];exact hu,ok _ (List.getElem_mem hj)⟩⟩
/- The known batch. -/
def wam (cl:Nat) (k:ByteArray):CM:=⟨cl,1,4,[k],kE,kE,1⟩
def wms:List CM:=[wam 1 kA,wam 2 kB,wam 3 kA]
theorem w13_order:orderM (picksM [1]) wms=[1,0,2]:=by decide+kernel
theorem wmay1:(wam 1 kA).may=true:=CM.may_iff.2 ⟨by decide,fun k hk=>by simp [wam] at hk;subst hk;decide,by decide,by decide,by decide,by decide,by decide,by decide,by decide⟩
theorem wmay2:(wam 2 kB).may=true:=CM.may_iff.2 ⟨by decide,fun k hk=>by simp [wam] at hk;subst hk;decide,by decide,by decide,by decide,by decide,by decide,by decide,by decide⟩
theorem wmay3:(wam 3 kA).may=true:=CM.may_iff.2 ⟨by decide,fun k hk=>by simp [wam] at hk;subst hk;decide,by decide,by decide,by decide,by decide,by decide,by decide,by decide⟩
theorem wdd2:doP [] (wam 2 kB)=([(kB,xK1)],0,xK1):=by
 rw [doP_add wmay2 rfl (show keyP (wam 2 kB).ks 0=kB from rfl)];have h2:sumP [] kB (wam 2 kB).n=some 1:=by rw [sumP_some (m:=0) (show seedP [] kB=some 0 from rfl)];rfl
 unfold addP;rw [h2];show (withP [] kB (str (decI 1)),0,str (decI 1))=_;rw [xdec1]
 rfl
theorem wdd1:doP [(kB,xK1)] (wam 1 kA)=([(kA,xK1),(kB,xK1)],0,xK1):=by
 rw [doP_add wmay1 rfl (show keyP (wam 1 kA).ks 0=kA from rfl)];have h1:lookP [(kB,xK1)] kA=none:=by decide+kernel
 have h2:sumP [(kB,xK1)] kA (wam 1 kA).n=some 1:=by rw [sumP_some (m:=0) (by rw [seedP,h1])];rfl
 unfold addP;rw [h2];show (withP [(kB,xK1)] kA (str (decI 1)),0,str (decI 1))=_;rw [xdec1];have h3:withP [(kB,xK1)] kA xK1=[(kA,xK1),(kB,xK1)]:=by decide+kernel
 exact congrArg (fun l=>(l,0,xK1)) h3
theorem wdd3:doP [(kA,xK1),(kB,xK1)] (wam 3 kA)=([(kA,xK2),(kB,xK1)],0,xK2):=by
 rw [doP_add wmay3 rfl (show keyP (wam 3 kA).ks 0=kA from rfl)];have h1:lookP [(kA,xK1),(kB,xK1)] kA=some xK1:=by decide+kernel
 have h2:sumP [(kA,xK1),(kB,xK1)] kA (wam 3 kA).n=some 2:=by rw [sumP_some (m:=1) (by rw [seedP,h1];exact xnum1)];rfl
 unfold addP;rw [h2];show (withP [(kA,xK1),(kB,xK1)] kA (str (decI 2)),0,str (decI 2))=_;rw [xdec2];have h3:withP [(kA,xK1),(kB,xK1)] kA xK2=[(kA,xK2),(kB,xK1)]:=by decide+kernel
 exact congrArg (fun l=>(l,0,xK2)) h3
theorem wa2:doA ⟨[],[],0⟩ (wam 2 kB)=(⟨[(kB,xK1)],[⟨2,1,0,xK1⟩],1⟩,(0,xK1),true):=by
 unfold doA;rw [if_neg (by decide),if_pos (by decide)];show (AM.mk (doP [] (wam 2 kB)).1 (keepS [] 2 1 (doP [] (wam 2 kB)).2.1 (doP [] (wam 2 kB)).2.2) 1,(doP [] (wam 2 kB)).2,true)=_;rw [wdd2]
 rfl
theorem wa1:doA ⟨[(kB,xK1)],[⟨2,1,0,xK1⟩],1⟩ (wam 1 kA)=(⟨[(kA,xK1),(kB,xK1)],[⟨1,1,0,xK1⟩,⟨2,1,0,xK1⟩],2⟩,(0,xK1),true):=by
 unfold doA;rw [if_neg (by decide),if_pos (by decide)];show (AM.mk (doP [(kB,xK1)] (wam 1 kA)).1 (keepS [⟨2,1,0,xK1⟩] 1 1 (doP [(kB,xK1)] (wam 1 kA)).2.1 (doP [(kB,xK1)] (wam 1 kA)).2.2) 2,(doP [(kB,xK1)] (wam 1 kA)).2,true)=_;rw [wdd1]
 rfl
theorem wa3:(doA ⟨[(kA,xK1),(kB,xK1)],[⟨1,1,0,xK1⟩,⟨2,1,0,xK1⟩],2⟩ (wam 3 kA)).2=((0,xK2),true):=by
 unfold doA;rw [if_neg (by decide),if_pos (by decide)];show ((doP [(kA,xK1),(kB,xK1)] (wam 3 kA)).2,true)=_;rw [wdd3]
theorem w13_runD:runD (picksM [1]) wms ⟨[],[],0⟩=[⟨0,xK1,true,0,1⟩,⟨0,xK1,true,0,0⟩,⟨0,xK2,true,1,2⟩]:=by
 have h0:waveI wms 0=0:=by decide+kernel
 have h1:waveI wms 1=0:=by decide+kernel
 have h2:waveI wms 2=1:=by decide+kernel
 have hr:∀i,toldO (runO (atM wms) [1,0,2] ⟨[],[],0⟩).2 i=(if i=1 then some ((0,xK1),true) else if i=0 then some ((0,xK1),true) else if i=2 then some ((0,xK2),true) else none).getD ((0,⟨#[]⟩),false):=by
  intro i;unfold toldO;simp only [runO,show atM wms 1=wam 2 kB from rfl,show atM wms 0=wam 1 kA from rfl,show atM wms 2=wam 3 kA from rfl];rw [wa2,wa1,wa3]
 unfold runD;rw [w13_order,show wms.length=3 from rfl,show List.range 3=[0,1,2] from rfl];simp only [List.map_cons,List.map_nil,hr,h0,h1,h2]
 rfl
theorem wakes13_any {T:World->Prop} (K:WvK T) (w:World) (hT:T w):Calls Tryz.prog 6 #[] w fun e W'=>e=.returned (.bool true)/\Below w.heap.size w W':=by
 have HT:=hiD hT;have HN:=hiD (K.new w hT);clear hT;go_enter Tryz.func6,Tryz.ntmps6
 go_wp2_with fail
 refine HN.out.mono ?_;rintro e V1 ⟨F,R,rfl,hp,hf,hb1⟩;have P1:=hiD (aI hp (aI hf hb1));clear hp hf hb1 HN;have D1:=hiD (addW_any 1 kA V1)
 go_wp2_with fail
 refine D1.out.mono ?_;rintro e V2 ⟨S1,rfl,k1,s1,hb2⟩;have Q2:=hiD (aI k1 (aI s1 hb2));have D2:=hiD (addW_any 2 kB V2);clear k1 s1 hb2 D1
 go_wp2_with fail
 refine D2.out.mono ?_;rintro e V3 ⟨S2,rfl,k2,s2,hb3⟩;have Q3:=hiD (aI k2 (aI s2 hb3));have D3:=hiD (addW_any 3 kA V3);clear k2 s2 hb3 D2
 go_wp2_with fail
 refine D3.out.mono ?_;rintro e V4 ⟨S3,rfl,k3,s3,hb4⟩;have Q4:=hiD (aI k3 (aI s3 hb4));clear k3 s3 hb4 D3;have hmf:∀(fn:Fn) (first cap:Array Value) (w:World),(Instr.makeFunc fn first cap).run Tryz.prog w=.ok (.func fn first cap) w:=fun _ _ _ _=>rfl
 have hb14:Below V1.heap.size V1 V4:=(Q2.out.2.2.trans (Below.mono Q3.out.2.2 Q2.out.2.2.size)).trans (Below.mono Q4.out.2.2 (nLt Q2.out.2.2.size Q3.out.2.2.size));have hBB:=fun (o1 o2:Obj)=>((hb14.alloc hb14.size o1).alloc (by rw [World.size_alloc];have:=hb14.size;omega) o2)
 have kk1:V4.heap[S1]?=some (.cells #[.string kA] 9 (0,0)):=(Q4.out.2.2.block S1 (by have:=(geS.1 Q2.out.1).1;have:=Q3.out.2.2.size;omega)).trans ((Q3.out.2.2.block S1 (geS.1 Q2.out.1).1).trans Q2.out.1);have kk2:V4.heap[S2]?=some (.cells #[.string kB] 9 (0,0)):=(Q4.out.2.2.block S2 (geS.1 Q3.out.1).1).trans Q3.out.1;have kk3:V4.heap[S3]?=some (.cells #[.string kA] 9 (0,0)):=Q4.out.1;have hs1:V1.heap.size<=S1:=Q2.out.2.1;have hs2:V1.heap.size<=S2:=nLt Q2.out.2.2.size Q3.out.2.1;have hs3:V1.heap.size<=S3:=nLt (nLt Q2.out.2.2.size Q3.out.2.2.size) Q4.out.2.1;have hFl:=K.lt P1.out.1;have Q5:=hiD (aI hb14 (aI kk1 (aI kk2 (aI kk3 (aI hs1 (aI hs2 (aI hs3 hFl)))))));have QB:=hiD hBB;clear hb14 hBB kk1 kk2 kk3 hs1 hs2 hs3 hFl Q2 Q3 Q4;simp only [addV,CmdV.val,CmdV.cells]
 go_wp2_with fail
 obtain ⟨b,hb⟩:∃b,b=V4.heap.size:=⟨_,rfl⟩;have hbb:∀o1 o2,((V4.alloc o1).alloc o2).heap.size=b+2:=fun o1 o2=>by rw [World.size_alloc,World.size_alloc,hb]
 have HBB:=hiD (aI hb hbb)
 have hext:∀(o1 o2:Obj) (S:Nat) (x:Obj),V1.heap.size<=S->V4.heap[S]?=some x->∀W:World,(∀k,k<((V4.alloc o1).alloc o2).heap.size->¬F k->W.heap[k]?=((V4.alloc o1).alloc o2).heap[k]?)->W.heap[S]?=some x:=fun o1 o2 S x hS hx W h2=>by
  have hl:=(geS.1 hx).1;have h3:=h2 S (by rw [hbb];omega) (fun hf=>by have:=Q5.out.2.2.2.2.2.2.2 S hf;omega);rw [h3,Below.heap_alloc _ _ _ (by rw [World.size_alloc];omega),Below.heap_alloc _ _ _ hl];exact hx
 refine Calls.mono (K.run (F:=F) (a:=⟨[],[],0⟩) (some ⟨V4.heap.size,0,none⟩) 3 3 [addV 1 S1 kA,addV 2 S2 kB,addV 3 S3 kA] _ (picksM [1]) (K.keep P1.out.1 (Only.of_grew (F:=fun _=>False) (QB.out _ _)) (fun _ _=>id)) (K.grew HT.out (P1.out.2.2.trans (Below.mono (QB.out _ _) P1.out.2.2.size))) (LimAn.nil.more (by decide)) rfl (by decide) ?_ ?_ ?_) ?_
 ·intro W h1 h2;refine hasC_blkW (t:=57) ((h2 _ (by rw [hbb];omega) (fun hf=>by have:=Q5.out.2.2.2.2.2.2.2 _ hf;have:=Q5.out.1.size;omega)).trans ((Below.heap_alloc _ _ _ (by rw [World.size_alloc];omega)).trans (wAh V4 _))) fun v hv=>?_
  simp only [List.mem_cons,List.not_mem_nil,or_false] at hv
  rcases hv with rfl|rfl|rfl
  ·exact add_ok (by decide) (by decide) (hext _ _ S1 _ Q5.out.2.2.2.2.1 Q5.out.2.1 W h2)
  ·exact add_ok (by decide) (by decide) (hext _ _ S2 _ Q5.out.2.2.2.2.2.1 Q5.out.2.2.1 W h2)
  ·exact add_ok (by decide) (by decide) (hext _ _ S3 _ Q5.out.2.2.2.2.2.2.1 Q5.out.2.2.2.1 W h2)
 ·intro v hv;simp only [List.mem_cons,List.not_mem_nil,or_false] at hv
  rcases hv with rfl|rfl|rfl<;>exact add_small (by decide)
 ·refine picks_fn (some ⟨V4.heap.size+1,0,none⟩) 1 1 [1] rfl (by decide) (fun W ho _=>⟨V4.heap.size+1,0,rfl,by have:=ho.size;rw [hbb] at this;omega,fun j hj=>?_⟩) (fun z hz=>by simp at hz;subst hz;decide);have hj':j<1:=hj;obtain rfl:j=0:=by omega
  have h3:=ho.block (V4.heap.size+1) (by rw [hbb];omega) (fun hf=>by have:=Q5.out.2.2.2.2.2.2.2 _ hf;have:=Q5.out.1.size;omega);refine (World.cell?_of_block (a:=⟨V4.heap.size+1,0+0,none⟩) h3).trans ?_
  have h4:∀(o:Obj) (cs:Array Value) (t:TypeId),((V4.alloc o).alloc (.cells cs t)).heap[V4.heap.size+1]?=some (.cells cs t (0,0)):=fun o cs t=>by
   have:=wAh (V4.alloc o) (.cells cs t);rw [World.size_alloc] at this;exact this
  rw [Nat.add_zero,blk_cell (h4 _ _ _) 0]
  rfl
 ·rintro e V7 ⟨A',c',rfl,hc',hd,F',hp',ho',_,_⟩;rw [show List.map (fun x=>x.m) [addV 1 S1 kA,addV 2 S2 kB,addV 3 S3 kA]=wms from rfl,w13_runD] at hd;have hb7:Below w.heap.size w V7:=(P1.out.2.2.trans (Below.mono (QB.out _ _) P1.out.2.2.size)).trans (ho'.below (nLt P1.out.2.2.size (QB.out _ _).size) P1.out.2.1);obtain ⟨x,xo,ex,hxl,fx⟩:=hd (by simp);subst ex;have a0:V7.cell? ⟨x,xo,none⟩=some (.int .u8 0):=fx 0 (by decide) 0 _ rfl;have a1:V7.cell? ⟨x,xo+1,none⟩=some (.string xK1):=fx 0 (by decide) 1 _ rfl;have a2:V7.cell? ⟨x,xo+2,none⟩=some (.bool true):=fx 0 (by decide) 2 _ rfl;have a3:V7.cell? ⟨x,xo+3,none⟩=some (.int .i64 0):=fx 0 (by decide) 3 _ rfl;have a4:V7.cell? ⟨x,xo+4,none⟩=some (.int .i64 1):=fx 0 (by decide) 4 _ rfl;have b0:V7.cell? ⟨x,xo+5,none⟩=some (.int .u8 0):=fx 1 (by decide) 0 _ rfl;have b1:V7.cell? ⟨x,xo+6,none⟩=some (.string xK1):=fx 1 (by decide) 1 _ rfl;have b2:V7.cell? ⟨x,xo+7,none⟩=some (.bool true):=fx 1 (by decide) 2 _ rfl;have b3:V7.cell? ⟨x,xo+8,none⟩=some (.int .i64 0):=fx 1 (by decide) 3 _ rfl;have b4:V7.cell? ⟨x,xo+9,none⟩=some (.int .i64 0):=fx 1 (by decide) 4 _ rfl;have c0:V7.cell? ⟨x,xo+10,none⟩=some (.int .u8 0):=fx 2 (by decide) 0 _ rfl;have c1:V7.cell? ⟨x,xo+11,none⟩=some (.string xK2):=fx 2 (by decide) 1 _ rfl;have c2:V7.cell? ⟨x,xo+12,none⟩=some (.bool true):=fx 2 (by decide) 2 _ rfl;have c3:V7.cell? ⟨x,xo+13,none⟩=some (.int .i64 1):=fx 2 (by decide) 3 _ rfl;have c4:V7.cell? ⟨x,xo+14,none⟩=some (.int .i64 2):=fx 2 (by decide) 4 _ rfl;have B7:=hiD hb7;clear hd hp' ho' hb7 hxl fx hext hbb hmf;go_wp2;go_ret;exact ⟨rfl,B7.out⟩
end Go.Proofs.YtfjmdkhemnmkpaaGreatDoor
namespace Go.Proofs.YtfjmdkhemnmkpaaGreatDoor
open Go.ChangeAt Go.ChangeMaps Go.ChangeShapes Go.RowKit Go.WideShapes
theorem cellsCmd:Tryz.prog.cellsOf 57=7:=by kernel_rfl
theorem cellsStr:Tryz.prog.cellsOf 9=1:=by kernel_rfl
theorem cellsU32:Tryz.prog.cellsOf 54=1:=by kernel_rfl
theorem cellsI64:Tryz.prog.cellsOf 2=1:=by kernel_rfl
theorem cellsKs:Tryz.prog.cellsOf 55=1:=by kernel_rfl
theorem bytesStr:Tryz.prog.bytesOf 9=16:=by kernel_rfl
theorem bytesCmd:Tryz.prog.bytesOf 57=80:=by kernel_rfl
theorem wf_u32n {n:Int} (h:(Lit.int .u32 n).wf=true):∃k:Nat,n=(k:Int)/\k<4294967296:=by
 simp [Lit.wf,IntKind.min,IntKind.max,IntKind.signed,IntKind.bits] at h;exact ⟨n.toNat,by omega,by omega⟩
theorem wf_u8c {n:Int} (h:(Lit.int .u8 n).wf=true):∃k:Nat,n=(k:Int)/\k<256:=by
 simp [Lit.wf,IntKind.min,IntKind.max,IntKind.signed,IntKind.bits] at h;exact ⟨n.toNat,by omega,by omega⟩
theorem wf_i64c {n:Int} (h:(Lit.int .i64 n).wf=true): -9223372036854775808<=n/\n<=9223372036854775807:=by
 simp [Lit.wf,IntKind.min,IntKind.max,IntKind.signed,IntKind.bits] at h;omega
theorem mem_weightsAllC {H:Type} {P:Program} {e:TypeId}:∀{ds:List (DataW H)} {d:DataW H},d∈ds->∀n∈d.weights P e,n∈DataW.weightsAll P e ds
 |d0::ds,d,hd,n,hn=>by
  simp only [DataW.weightsAll,List.mem_append]
  rcases List.mem_cons.1 hd with rfl|hd
  ·exact .inl hn
  ·exact .inr (mem_weightsAllC hd n hn)
section
variable {H:Type} {enc:TypeId × Value->H}
/-- A row of texts within. -/
theorem open_keys {W:World} {n:Nat} {v:Value} {y:DataW H × List MemPlace} (h:DataW.trod enc Tryz.prog W 0 (fun _=>true) true n 55 [v]=some y) (hw:∀k∈y.1.weights Tryz.prog 55,k<=reachBytes):
 ∃A L c ks,v=.slice A L c/\L=List.length ks/\L<=140737488351232/\HasS W A ks/\∀k∈ks,k.size<=maxLen:=by
 rcases Deep.open_slice Tryz.underlying55 h with ⟨hcs,hx⟩|⟨a,len,cap,m,n,D,Pl,hcs,_,hl,hm,hmm,hdx,hall⟩
 ·simp at hcs;subst hcs;exact ⟨none,0,0,[],rfl,rfl,Nat.zero_le _,fun h=>absurd rfl h,fun k hk=>by cases hk⟩
 ·simp at hcs;subst hcs;simp only [if_true] at hmm;have hd:y.1=.slice ((List.range len).map D) ((List.range (m - len)).map fun j=>D (len+j)):=congrArg Prod.fst hdx
  have hlen2:len<=140737488351232:=by
   rw [hd] at hw;have:=hw _ (by simp only [DataW.weights,Tryz.underlying55];exact List.mem_cons_self ..);rw [bytesStr] at this;simp only [List.length_map,List.length_range,reachBytes] at this;omega
  have each:∀i,i<len->∃x:ByteArray,x.size<=maxLen/\W.cell? ((a.add (i*1)).add 0)=some (.string x):=by
   intro i hi;obtain ⟨cs',h1,h2⟩:=hall i (by omega);rw [cellsStr] at h1;obtain ⟨_,hlen,hcell⟩:=World.cells?_some h1;obtain ⟨x,hx,_,hs⟩:=DataW.trod_string Tryz.underlying9 h2;refine ⟨x,hs,?_⟩;rw [hcell 0 (by omega),hx]
   rfl
  have:Inhabited ByteArray:=⟨⟨#[]⟩⟩;obtain ⟨F,hF⟩:=Deep.choose_lt each;refine ⟨_,len,cap,(List.range len).map F,rfl,by simp,hlen2,fun hne=>?_,fun k hk=>?_⟩
  ·have hpos:0<len:=by
    rcases Nat.eq_zero_or_pos len with h0|h0
    ·subst h0;simp at hne
    ·exact h0
   have c00:=(hF 0 hpos).2;obtain ⟨ab,ao,spot⟩:=a;have hspot:spot=none:=by simpa [Addr.add] using World.cell?_spot c00
   subst hspot;refine ⟨ab,ao,rfl,?_,fun j hj=>?_⟩
   ·have:=World.block_lt_of_cell? W _ c00;rw [addr_add,addr_add] at this;exact this
   ·have hj':j<len:=by simpa using hj
    have hc:=(hF j hj').2;rw [addr_add,addr_add,Nat.mul_one,Nat.add_zero] at hc;have e:((List.range len).map F)[j]=F j:=by simp
    rw [e];exact hc
  ·obtain ⟨j,hj,rfl⟩:=List.mem_map.1 hk;exact (hF j (List.mem_range.1 hj)).1
/-- A command within. -/
theorem open_cmd1 {W:World} {n:Nat} {cs:List Value} {y:DataW H × List MemPlace} (h:DataW.trod enc Tryz.prog W 0 (fun _=>true) true n 57 cs=some y) (hw:∀k∈y.1.weights Tryz.prog 57,k<=reachBytes):
 ∃a:CmdV,a.ok W/\cs=a.cells.toList:=by
 obtain ⟨xs,m,_,hy,hcl,hxl,hf⟩:=DataW.trod_struct Tryz.underlying57 h;rw [cellsCmd] at hcl
 match xs,hxl,cs,hcl with
 |[y0,y1,y2,y3,y4,y5,y6],_,[v0,v1,v2,v3,v4,v5,v6],_=>
  have g0:=hf 0 _ rfl;have g1:=hf 1 _ rfl;have g2:=hf 2 _ rfl;have g3:=hf 3 _ rfl;have g4:=hf 4 _ rfl;have g5:=hf 5 _ rfl;have g6:=hf 6 _ rfl;simp [cells5,cellsU32,cellsI64,cellsKs,cellsStr] at g0 g1 g2 g3 g4 g5 g6;obtain ⟨n0,e0,_,w0⟩:=DataW.trod_int Tryz.underlying54 g0;obtain ⟨n1,e1,_,w1⟩:=DataW.trod_int Tryz.underlying54 g1;obtain ⟨n2,e2,_,w2⟩:=DataW.trod_int Tryz.underlying5 g2
  obtain ⟨A,L,c,ks,e3,hL,hLm,hA,hks⟩:=open_keys g3 (fun k hk=>hw k (by
   rw [hy];simp only [DataW.weights,Tryz.underlying57];exact DataW.weights_mem_each (j:=3) rfl rfl k hk))
  obtain ⟨t4,e4,_,w4⟩:=DataW.trod_string Tryz.underlying9 g4;obtain ⟨t5,e5,_,w5⟩:=DataW.trod_string Tryz.underlying9 g5;obtain ⟨n6,e6,_,w6⟩:=DataW.trod_int Tryz.underlying2 g6;obtain ⟨cl,rfl,hcl⟩:=wf_u32n w0;obtain ⟨sq,rfl,hsq⟩:=wf_u32n w1;obtain ⟨kd,rfl,hkd⟩:=wf_u8c w2;simp at e0 e1 e2 e4 e5 e6;subst e0 e1 e2 e3 e4 e5 e6;exact ⟨⟨cl,sq,kd,A,L,c,ks,t4,t5,n6⟩,⟨hcl,hsq,hkd,wf_i64c w6,hL,hLm,hA,hks,w4,w5⟩,rfl⟩
/-- A command that came in. -/
theorem open_cmd {W:World} {v:Value} {d:DataW H} {p:List MemPlace} (h:DataW.Trod enc Tryz.prog W 0 (fun _=>true) true 57 v d p) (hw:∀k∈d.weights Tryz.prog 57,k<=reachBytes):
 ∃a:CmdV,v=a.val/\a.ok W:=by
 obtain ⟨fuel,hf⟩:=h;obtain ⟨a,ha,hc⟩:=open_cmd1 hf hw;refine ⟨a,?_,ha⟩;have hs:v.cells.toList.length=7:=by rw [hc];rfl
 cases v with
 |agg cs=>
  have:cs.toList=a.cells.toList:=hc;rw [CmdV.val,Array.toList_inj.1 this]
 |_=>simp [Value.cells] at hs
/-- A row of commands that came in. -/
theorem open_cmds {W:World} {base:Nat} {v:Value} {d:DataW H} {p:List MemPlace} (hval:Value.okWide Tryz.prog W .any base 22 v) (h:DataW.Trod enc Tryz.prog W 0 (fun _=>true) true 22 v d p) (hw:∀k∈d.weights Tryz.prog 22,k<=reachBytes):
 ∃A n c ls,v=.slice A n c/\n=List.length ls/\n<=c/\n<=140737488351232/\HasC W A ls:=by
 obtain ⟨a0,len,cap,rfl⟩:=okWide_slice Tryz.underlying22 hval;obtain ⟨fuel,hf⟩:=h
 rcases Deep.open_slice Tryz.underlying22 hf with ⟨hcs,hx⟩|⟨a,len',cap',m,n,D,Pl,hcs,_,hl,hm,hmm,hdx,hall⟩
 ·simp [Value.cells] at hcs;obtain ⟨rfl,rfl,rfl⟩:=hcs;exact ⟨none,0,0,[],rfl,rfl,nLr _,Nat.zero_le _,fun h=>absurd rfl h⟩
 ·simp [Value.cells] at hcs;obtain ⟨rfl,rfl,rfl⟩:=hcs;simp only [if_true] at hmm;have hd:d=.slice ((List.range len).map D) ((List.range (m - len)).map fun j=>D (len+j)):=congrArg Prod.fst hdx
  have hlen2:len<=140737488351232:=by
   rw [hd] at hw;have:=hw _ (by simp only [DataW.weights,Tryz.underlying22];exact List.mem_cons_self ..);rw [bytesCmd] at this;simp only [List.length_map,List.length_range,reachBytes] at this;omega
  have each:∀i,i<len->∃x:CmdV,x.ok W/\∀j u,x.cells[j]?=some u->W.cell? ((a.add (i*7)).add j)=some u:=by
   intro i hi;obtain ⟨cs',h1,h2⟩:=hall i (by omega);rw [cellsCmd] at h1;obtain ⟨_,hlen,hcell⟩:=World.cells?_some h1
   obtain ⟨x,hx,hxc⟩:=open_cmd1 h2 (fun k hk=>hw k (by
    rw [hd];simp only [DataW.weights,Tryz.underlying22];exact List.mem_cons_of_mem _ (List.mem_append_left _ (mem_weightsAllC (List.mem_map.2 ⟨i,List.mem_range.2 hi,rfl⟩) k hk))))
   refine ⟨x,hx,fun j u hj=>?_⟩;have hj7:j<7:=(geS.1 hj).1;rw [hcell j hj7,hxc,Array.getElem?_toList];exact hj
  have:Inhabited CmdV:=⟨⟨0,0,0,none,0,0,[],⟨#[]⟩,⟨#[]⟩,0⟩⟩;obtain ⟨F,hF⟩:=Deep.choose_lt each;refine ⟨_,len,cap,(List.range len).map F,rfl,by simp,hl,hlen2,fun hne=>?_⟩
  have hpos:0<len:=by
   rcases Nat.eq_zero_or_pos len with h0|h0
   ·subst h0;simp at hne
   ·exact h0
  have c00:=(hF 0 hpos).2 0 _ rfl;obtain ⟨ab,ao,spot⟩:=a;have hspot:spot=none:=by simpa [Addr.add] using World.cell?_spot c00
  subst hspot;refine ⟨ab,ao,rfl,?_,fun j hj=>?_⟩
  ·have:=World.block_lt_of_cell? W _ c00;rw [addr_add,addr_add] at this;exact this
  ·have hj':j<len:=by simpa using hj
   have e:((List.range len).map F)[j]=F j:=by simp
   rw [e];refine ⟨fun i u hu=>?_,(hF j hj').1⟩;have hc:=(hF j hj').2 i u hu;rw [addr_add,addr_add] at hc;exact hc
end
theorem cellsZ:Tryz.prog.cellsOf 3=1:=by kernel_rfl
theorem bytesInt:Tryz.prog.bytesOf 3=8:=by kernel_rfl
section
variable {H:Type} {enc:TypeId × Value->H}
theorem open_zs {W:World} {base:Nat} {v:Value} {d:DataW H} {p:List MemPlace} (hval:Value.okWide Tryz.prog W .any base 23 v) (h:DataW.Trod enc Tryz.prog W 0 (fun _=>true) true 23 v d p) (hw:∀k∈d.weights Tryz.prog 23,k<=reachBytes):
 ∃A L c zs,v=.slice A L c/\L=List.length zs/\L<=140737488351232/\HasZ W A zs/\∀z∈zs, -9223372036854775808<=z/\z<=9223372036854775807:=by
 obtain ⟨a0,len,cap,rfl⟩:=okWide_slice Tryz.underlying23 hval;obtain ⟨fuel,hf⟩:=h
 rcases open_ints Tryz.underlying23 Tryz.underlying3 cellsZ hf with ⟨hcs,hx⟩|⟨a,len',cap',zs,hcs,_,hl,hm,hz,hx,hcell,hwz⟩
 ·simp [Value.cells] at hcs;obtain ⟨rfl,rfl,rfl⟩:=hcs;exact ⟨none,0,0,[],rfl,rfl,Nat.zero_le _,fun h=>absurd rfl h,fun z hz=>by cases hz⟩
 ·simp [Value.cells] at hcs;obtain ⟨rfl,rfl,rfl⟩:=hcs;simp only [if_true] at hz;have hlen:(zs.take len).length=len:=by simp;omega
  have hd:d=.slice (lits .i64 (zs.take len)) (lits .i64 (zs.drop len)):=congrArg Prod.fst hx
  have hlen2:len<=140737488351232:=by
   rw [hd] at hw;have:=hw _ (by simp only [DataW.weights,Tryz.underlying23];exact List.mem_cons_self ..);rw [bytesInt] at this;simp only [lits,List.length_map,hlen,reachBytes] at this;omega
  refine ⟨_,len,cap,zs.take len,rfl,hlen.symm,hlen2,fun hne=>?_,fun z hz2=>?_⟩
  ·have hpos:0<len:=by
    rcases Nat.eq_zero_or_pos len with h0|h0
    ·exact absurd (List.eq_nil_of_length_eq_zero (by rw [hlen];exact h0)) hne
    ·exact h0
   obtain ⟨ab,ao,spot⟩:=a;have hspot:spot=none:=by simpa [Addr.add] using World.cell?_spot (hcell 0 (by omega))
   subst hspot;refine ⟨ab,ao,rfl,?_,fun i hi=>?_⟩
   ·have:=World.block_lt_of_cell? W _ (hcell 0 (by omega));rw [addr_add] at this;exact this
   ·rw [hlen] at hi;have hzi:i<zs.length:=by omega
    have hc:=hcell i hzi;rw [addr_add] at hc;rw [hc];have hg:zs.getD i 0=zs[i]:=by simp [List.getD,hzi]
    rw [hg];simp only [List.getElem_take]
  ·have hw2:=hwz z (List.mem_of_mem_take hz2);simp [Lit.wf,IntKind.min,IntKind.max,IntKind.signed,IntKind.bits] at hw2;omega
end
abbrev cmdLaid:List (String × DataW Unit):=[("quorate/cmd.keysOf",Rows.laid_quorate_cmd_keysOf)]
def spans:List (Int × Int):=(List.range 9).map fun i=>((leastT i:Int),(mostT i:Int))
def pairD (p:Int × Int):DataW Unit:=.agg [.lit (.int .i64 p.1),.lit (.int .i64 p.2)]
theorem laid_spans:(Rows.laid_quorate_cmd_keysOf:DataW Unit)=.agg (spans.map pairD):=by kernel_rfl
theorem gKeys:Tryz.prog.globalNamed "quorate/cmd.keysOf"=some 0:=by kernel_rfl
theorem tKeys:(Tryz.prog.globals[(0:Nat)]?).map (·.type)=some 174:=by kernel_rfl
theorem cellsSpans:Tryz.prog.cellsOf 174=18:=by kernel_rfl
theorem cellsSpan:Tryz.prog.cellsOf 173=2:=by kernel_rfl
theorem cellsInt:Tryz.prog.cellsOf 3=1:=by kernel_rfl
theorem span_cells {W:World} {m:Nat} {cs:List Value} {y:DataW Unit × List MemPlace} {p:Int × Int} (h:DataW.trod (fun _=>()) Tryz.prog W 0 (fun _=>true) false m 173 cs=some y) (hy:y.1=pairD p):cs=[.int .i64 p.1,.int .i64 p.2]:=by
 obtain ⟨xs,k,_,hx,hcl,hxl,hf⟩:=DataW.trod_struct Tryz.underlying173 h;rw [cellsSpan] at hcl
 match xs,hxl,cs,hcl with
 |[y0,y1],_,[v0,v1],_=>
  have g0:=hf 0 _ rfl;have g1:=hf 1 _ rfl;simp [cellsInt] at g0 g1;obtain ⟨n0,e0,f0,_⟩:=DataW.trod_int Tryz.underlying3 g0;obtain ⟨n1,e1,f1,_⟩:=DataW.trod_int Tryz.underlying3 g1;rw [hx,pairD] at hy;simp [f0,f1] at hy e0 e1;rw [e0,e1,hy.1,hy.2]
theorem tabQ_of_met {W:World} (h:laidMet Tryz.prog cmdLaid W):TabQ W:=by
 unfold cmdLaid at h;rw [laid_spans] at h;obtain ⟨ps,⟨g',t',cs,fuel,p,q,hg',ht',hvar,hd,_,_⟩,_⟩:=h;obtain rfl:=osI (gKeys.symm.trans hg');obtain rfl:=osI (tKeys.symm.trans ht');obtain ⟨xs,m,_,hx,hcl,hxl,hf⟩:=DataW.trod_array Tryz.underlying174 hd;rw [cellsSpans] at hcl
 have hxs:xs.map (·.1)=spans.map pairD:=by
  have:=congrArg Prod.fst hx
  simpa using this.symm
 have hcell:∀i,i<9->W.cell? ⟨0,i*2,none⟩=some (.int .i64 (leastT i:Int))/\W.cell? ⟨0,i*2+1,none⟩=some (.int .i64 (mostT i:Int)):=fun i hi=>by
  have hE:=hf i hi;rw [cellsSpan] at hE;have hix:i<xs.length:=by rw [hxl];exact hi
  rw [List.getElem?_eq_getElem hix] at hE
  have h1:xs[i].1=pairD ((leastT i:Int),(mostT i:Int)):=by
   have:=congrArg (·[i]?) hxs
   simpa [spans,hi,hix] using this
  have h2:=span_cells hE h1;have k0:=congrArg (·[0]?) h2;have k1:=congrArg (·[1]?) h2;simp [List.getElem?_drop] at k0 k1;exact ⟨(World.var?_cell gKeys hvar _).trans (by simpa using k0),(World.var?_cell gKeys hvar _).trans (by simpa using k1)⟩
 exact ⟨World.block_lt_of_cell? W _ (hcell 0 (by omega)).1,hcell⟩
abbrev kvLaid:List (String × DataW Unit):=[("math/bits.deBruijn32tab",Rows.laid_math_bits_deBruijn32tab),("math/bits.deBruijn64tab",Rows.laid_math_bits_deBruijn64tab),("internal/strconv.uint64pow10",Rows.laid_internal_strconv_uint64pow10),("strconv.ErrRange",Rows.laid_strconv_ErrRange),("strconv.ErrSyntax",Rows.laid_strconv_ErrSyntax),("quorate/cmd.keysOf",Rows.laid_quorate_cmd_keysOf)]
theorem laid_rest {P:Program} {x:String × DataW Unit} {r:List (String × DataW Unit)} {w:World} (h:laidMet P (x::r) w):laidMet P r w:=by
 obtain ⟨n,d⟩:=x;obtain ⟨ps,⟨g,t,cs,fuel,p,q,_,_,_,_,hr,e⟩,hnd,hall⟩:=h;subst e;refine ⟨q,hr,(List.nodup_append.1 hnd).2.1,fun b off hm=>hall b off (List.mem_append.2 (.inr hm))⟩
theorem gPow:Tryz.prog.globalNamed "internal/strconv.uint64pow10"=some 1:=by kernel_rfl
theorem tPow:(Tryz.prog.globals[(1:Nat)]?).map (·.type)=some 243:=by kernel_rfl
theorem cPow:Tryz.prog.cellsOf 243=20:=by kernel_rfl
theorem cU64:Tryz.prog.cellsOf 30=1:=by kernel_rfl
theorem laid_pow:(Rows.laid_internal_strconv_uint64pow10:DataW Unit)=Lib.tabData .u64 Lib.pow10Tab:=by kernel_rfl
theorem gSyn:Tryz.prog.globalNamed "strconv.ErrSyntax"=some 2:=by kernel_rfl
theorem tSyn:(Tryz.prog.globals[(2:Nat)]?).map (·.type)=some 200:=by kernel_rfl
theorem gRan:Tryz.prog.globalNamed "strconv.ErrRange"=some 3:=by kernel_rfl
theorem tRan:(Tryz.prog.globals[(3:Nat)]?).map (·.type)=some 200:=by kernel_rfl
theorem cErrS:Tryz.prog.cellsOf 258=1:=by kernel_rfl
theorem cStr:Tryz.prog.cellsOf 9=1:=by kernel_rfl
theorem starE: "*"++ "errors.errorString"= "*errors.errorString":=by decide
theorem rowE (u:TypeId) (h:Tryz.prog.typeName? 3 u=some "*errors.errorString"):u=256:=
 typeName_ptr_named (nm:= "errors.errorString") (by rw [starE];kernel_rfl) (by kernel_rfl) (by decide) u (by rw [starE];exact h)
theorem tabK_of_laid {W:World} (h:laidMetH Tryz.prog kvLaid W):TabK W:=by
 rw [MakeChecks.laidMetH_plain _ _ _ (by kernel_rfl)] at h;unfold kvLaid at h;have h2:=laid_rest (laid_rest h);have h3:=laid_rest h2;have h4:=laid_rest h3;have h5:=laid_rest h4;refine ⟨tabQ_of_met h5,?_,?_,?_⟩
 ·rw [laid_pow] at h2;exact Lib.tabIs_of_head gPow tPow Tryz.underlying243 Tryz.underlying30 cU64 cPow h2
 ·unfold Rows.laid_strconv_ErrSyntax at h4;obtain ⟨a0,s0,hv0, -, -, -⟩:=laid_sentinel h4 gSyn tSyn Tryz.underlying200 rowE Tryz.underlying256 Tryz.underlying258 rfl rfl Tryz.underlying9 cErrS cStr;exact ⟨_,_,hv0⟩
 ·unfold Rows.laid_strconv_ErrRange at h3;obtain ⟨a0,s0,hv0, -, -, -⟩:=laid_sentinel h3 gRan tRan Tryz.underlying200 rowE Tryz.underlying256 Tryz.underlying258 rfl rfl Tryz.underlying9 cErrS cStr;exact ⟨_,_,hv0⟩
theorem door_metK (os:Os) (args:Array Value):laidMetH Tryz.prog kvLaid ((World.doorLaid Tryz.prog 400 os).forCall (fun _ _=>0) ⟨#[],args,[]⟩).memory:=
 laidMetH_of_parts3 (fuel:=8) (laidMet_of_run' 8 (by kernel_rfl) (by kernel_rfl)) (by kernel_rfl) (by kernel_rfl)
theorem wavesRun_lifted (K:WvK TabK) (N:WvN K) (os:Os) (started:os.Started) (H:Type) (enc:TypeId × Value->H):
 ReturnsInHanded {} Tryz.checked os 3 .any (fun w args=>(Rows.wavesRunSpec.pre enc Tryz.prog Tryz.f3 [] false w args/\laidMetH Tryz.prog kvLaid w)/\sizedMet enc Tryz.prog Tryz.f3 (OpenSpec.ofChange Rows.wavesRunSpec) false w args)
  (Rows.wavesRunSpec.post enc Tryz.prog Tryz.f3 false true false false):=by
 refine returnsInHanded_of_change_and (C:=Tryz.checked) (X:=fun w _=>laidMetH Tryz.prog kvLaid w) (fun _ _ _ hh h=>h.of_heap hh) ownKnob_none started (by kernel_rfl) Tryz.func3
  (ChangeSpec.witness_shaped (enc:=enc) (C:=Tryz.checked) (os:=os) (X:=fun w _=>laidMetH Tryz.prog kvLaid w) false (World.doorLaid Tryz.prog 400 os) #[.slice none 0 0,.slice none 0 0,.slice none 0 0] 8 rfl (World.shaped_of_RefB (by kernel_rfl) (by kernel_rfl)) (by kernel_rfl) (by kernel_rfl) (by kernel_rfl) (door_metK os _)) ?_
 intro W base args ds gs before hval0 hW hcnd hsz0 hL _;have hval:∀(j:Nat) t v,Tryz.f3.params[j]?=some t->args[j]?=some v->Value.okWide Tryz.prog W .any base t v:=hval0;have hW':=hW;obtain ⟨p,q,hA0,hV,rfl,hfz,hnd⟩:=hW;have hA:DataW.TrodAll enc Tryz.prog W 0 (fun _=>true) true Tryz.f3.params.toList args.toList ds p:=hA0;have hsz:(DataW.weightsEach Tryz.prog (Tryz.f3.params.toList++Rows.wavesRunSpec.plain.varTypes Tryz.prog) (ds++gs)).all (·<=reachBytes)=true:=hsz0;rw [Tryz.params3] at hA hval hsz;obtain ⟨v0,v1,v2,d0,d1,d2,p0,p1,p2,rfl,rfl,rfl,h0,h1,h2⟩:=trodAll_three hA;obtain ⟨rfl,rfl⟩:=trodVars_none hV;have hT:=tabK_of_laid hL;clear hA0 hval0;simp only [List.append_nil] at hW'
 have hwt:∀(j:Nat) (t:TypeId) (d:DataW H),[22,22,23][j]?=some t->[d0,d1,d2][j]?=some d->∀k∈d.weights Tryz.prog t,k<=reachBytes:=fun j t d ht hd k hk=>by
  have:=List.all_eq_true.1 hsz _ (DataW.weights_mem_each (j:=j) (by rw [List.getElem?_append_left (by have:=(List.getElem?_eq_some_iff.1 ht).1;simpa using this)];exact ht) (by rw [List.getElem?_append_left (by have:=(List.getElem?_eq_some_iff.1 hd).1;simpa using this)];exact hd) k hk)
  simpa using this
 obtain ⟨A0,n0,c0,ls0,rfl,hl0,hc0,hm0,hB0⟩:=open_cmds (hval 0 22 v0 rfl rfl) h0 (hwt 0 _ _ rfl rfl);obtain ⟨A1,n1,c1,ls1,rfl,hl1,hc1,hm1,hB1⟩:=open_cmds (hval 1 22 v1 rfl rfl) h1 (hwt 1 _ _ rfl rfl);obtain ⟨A2,n2,c2,zs,rfl,hl2,hm2,hB2,hz2⟩:=open_zs (hval 2 23 v2 rfl rfl) h2 (hwt 2 _ _ rfl rfl);have hlt0:∀x∈p0,x.block<W.heap.size:=fun x hx=>hW'.lt x (by simp [hx])
 have hlt1:∀x∈p1,x.block<W.heap.size:=fun x hx=>hW'.lt x (by simp [hx])
 have hlt2:∀x∈p2,x.block<W.heap.size:=fun x hx=>hW'.lt x (by simp [hx])
 refine (WavesRun_any K N (fun w h=>wakes13_any K w h) A0 n0 c0 ls0 A1 n1 c1 ls1 A2 n2 c2 zs W hT hl0 hm0 hB0 hl1 hm1 hB1 hl2 hm2 hB2 hz2).mono fun e W' ⟨he,hw⟩=>?_
 subst he;exact ⟨_,rfl,post_grew (pv:=[]) hW' (fun _ _ _=>trodAll_mk1 (shut_bool Tryz.underlying4 true)) (trodAll_mk3 (Below.trod laid_out (by kernel_rfl) (of_decide_eq_true (by kernel_rfl)) h0 hw hlt0) (Below.trod laid_out (by kernel_rfl) (of_decide_eq_true (by kernel_rfl)) h1 hw hlt1) (Below.trod laid_out (by kernel_rfl) (of_decide_eq_true (by kernel_rfl)) h2 hw hlt2)) rfl (by simp) hw⟩
theorem wavesRun_row (K:WvK TabK) (N:WvN K):Rows.WavesRunSaid:=
 OpenClaim.holds_of_wide 3 Tryz.f3 rfl rfl rfl rfl rfl rfl rfl ⟨rfl,rfl,rfl,rfl,rfl⟩ rfl rfl rfl rfl rfl (by kernel_rfl) Tryz.func3 (by kernel_rfl)
  (of_decide_eq_true (by kernel_rfl)) (by unfold Func.isWrapper;first|(rw [if_pos (by decide+kernel)];kernel_rfl)|(rw [if_neg (by decide+kernel)];exact ⟨rfl,rfl⟩))
  (fun os started H enc _=>wavesRun_lifted K N os started H enc)
theorem wavesRun_tied (K:WvK TabK) (N:WvN K):Rows.WavesRunCardSaid:=
 Claim7.holds_tied_plain_at .later [] [.data,.data,.data,.sentinel,.sentinel,.data] true Rows.wavesRunCard.stood.harness true
  (wavesRun_row K N) (fun _ h=>by cases h) (by kernel_rfl) (fun _ h=>by cases h) wavesRun_row_tie rfl ⟨rfl,rfl⟩ (by kernel_rfl) rfl
  (fun f fn hf hfn=>by
   obtain rfl:f=3:=osI ((show Tryz.prog.funcNamed "quorate/quoratelaw13.WavesRun"=some 3 by kernel_rfl).symm.trans hf) |>.symm;obtain rfl:fn=Tryz.f3:=(osI (Tryz.func3.symm.trans hfn)).symm
   exact ⟨by kernel_rfl,fun j t ht=>by
    rw [Tryz.params3] at ht;have hm:t∈[22,22,23]:=by simpa using Array.mem_of_getElem? ht
    have hall:([22,22,23].all fun u=>!Tryz.prog.wantsStandIn u)=true:=by kernel_rfl
    exact (show Tryz.prog.wantsStandIn t=false by simpa using List.all_eq_true.1 hall t hm)⟩)
  (by kernel_rfl)
end Go.Proofs.YtfjmdkhemnmkpaaGreatDoor
