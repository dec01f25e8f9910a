/- Parts of the proof: KsRf, KsRw, RxOr, RxRu. -/
import Derived.Test.YtfjmdkhemnmkpaaGreatDoorR23
import Derived.Test.YtfjmdkhemnmkpaaGreatDoorR15
import Derived.Deep.DeepCutAuto
import Derived.OwnWalk
import Derived.Test.YtfjmdkhemnmkpaaGreatDoorR14
set_option maxRecDepth 100000
set_option maxHeartbeats 8000000
namespace Go.Proofs.YtfjmdkhemnmkpaaGreatDoor
open Go.RowKit
theorem refLone_any (v:CmdV) (w:World) (hv:v.ok w) (hm:v.L<=1000):Calls Tryz.prog 46 #[v.val] w fun e W'=>e=.returned (.bool (loneM v.m))/\Below w.heap.size w W':=by
 obtain ⟨W1,hW1⟩:∃W1,W1=w.alloc (Obj.cells v.cells 57):=⟨_,rfl⟩;have hB:Below w.heap.size w W1:=by rw [hW1];exact (Below.refl _ w).alloc (nLr _) _
 have k1:W1.heap[w.heap.size]?=some (.cells v.cells 57 (0,0)):=by rw [hW1];exact wAh w _
 have HT:=Touches_any v W1 (hv.below hB) hm;obtain ⟨r,hr⟩:∃r,r=loneM v.m:=⟨_,rfl⟩;have hr2:r=decide (4<(touchK v.ks).length):=hr;rw [<-hr];clear hr;obtain ⟨acl,asq,akd,KA,KL,kc,ks,old,new,n⟩:=v;simp only at hm hr2;simp only [CmdV.val,CmdV.cells] at HT hW1 k1 ⊢;obtain ⟨p,hp⟩:∃p,p=w.heap.size:=⟨_,rfl⟩;rw [<-hp] at k1;have z0:=blk_cell k1 0;have z1:=blk_cell k1 1;have z2:=blk_cell k1 2;have z3:=blk_cell k1 3;have z4:=blk_cell k1 4;have z5:=blk_cell k1 5;have z6:=blk_cell k1 6;simp at z0 z1 z2 z3 z4 z5 z6;have HTT:=hiD HT;have HB:=hiD hB;have HR:=hiD hr2;clear HT hB k1 hm hv hr2;go_enter Tryz.func46,Tryz.ntmps46;go_upto_region 1 with (fail)
 rw [<-hW1,<-hp];clear hW1 hp
 go_wp2_with fail
 refine HTT.out.mono ?_;rintro e W2 ⟨x,rfl,ho,hb⟩;obtain ⟨A,c,rfl,_⟩:=ho.form;obtain ⟨T,hT⟩:∃T,T=(touchK ks).length:=⟨_,rfl⟩;rw [<-hT];have hrT:=HR.out;rw [<-hT] at hrT;have H2:=hiD (HB.out.trans (Below.mono hb HB.out.size));clear ho hb z0 z1 z2 z3 z4 z5 z6 hT HTT HR
 by_cases h4:4<T
 ·have h4i:(4:Int)<T:=by omega
  rw [decide_eq_true h4] at hrT;subst hrT;clear h4;go_wp2;go_ret;exact ⟨rfl,H2.out⟩
 ·have h4i:¬(4:Int)<T:=by omega
  rw [decide_eq_false h4] at hrT;subst hrT;clear h4;go_wp2;go_ret;exact ⟨by show Ending.returned (.bool (decide ((4:Int)<(T:Int))))=_;rw [decide_eq_false (by omega)],H2.out⟩
theorem toListK {a b:ByteArray} (h:a.toList=b.toList):a=b:=by
 rw [ByteArray.toList_eq,ByteArray.toList_eq] at h;exact ByteArray.ext (Array.ext' h)
def shareK (a b:List ByteArray):Bool:=a.any fun k=>b.any fun j=>decide (k=j)
theorem shareK_iff {a b:List ByteArray}:shareK a b=true<->∃i,∃h:i<a.length,∃j,∃h2:j<b.length,a[i]=b[j]:=by
 unfold shareK;simp only [List.any_eq_true,decide_eq_true_eq]
 constructor
 ·rintro ⟨x,hx,y,hy,e⟩;obtain ⟨i,hi,rfl⟩:=List.mem_iff_getElem.1 hx;obtain ⟨j,hj,rfl⟩:=List.mem_iff_getElem.1 hy;exact ⟨i,hi,j,hj,e⟩
 ·rintro ⟨i,hi,j,hj,e⟩;exact ⟨_,List.getElem_mem hi,_,List.getElem_mem hj,e⟩
theorem wayM_share {a b:CM} (h:shareK a.ks b.ks=true):wayM a b=true:=by
 unfold wayM;show (_||shareK a.ks b.ks)=true;rw [h,Bool.or_true]
theorem wayM_not {a b:CM} (h:shareK a.ks b.ks=false):wayM a b=(loneM a||loneM b||decide (a.cl=b.cl)):=by
 unfold wayM;show (_||shareK a.ks b.ks)=_;rw [h,Bool.or_false]
theorem refWay_any (a b:CmdV) (w:World) (ha:a.ok w) (hb:b.ok w) (hma:a.L<=1000) (hmb:b.L<=1000):Calls Tryz.prog 24 #[a.val,b.val] w fun e W'=>e=.returned (.bool (wayM a.m b.m))/\Below w.heap.size w W':=by
 obtain ⟨W0,hW0⟩:∃W0,W0=w.alloc (Obj.cells a.cells 57):=⟨_,rfl⟩;obtain ⟨W1,hW1⟩:∃W1,W1=W0.alloc (Obj.cells b.cells 57):=⟨_,rfl⟩;have hB0:Below w.heap.size w W0:=by rw [hW0];exact (Below.refl _ w).alloc (nLr _) _
 have hs0:W0.heap.size=w.heap.size+1:=by rw [hW0];exact World.size_alloc _ _
 have hB1:Below W0.heap.size W0 W1:=by rw [hW1];exact (Below.refl _ W0).alloc (nLr _) _
 have hs1:W1.heap.size=W0.heap.size+1:=by rw [hW1];exact World.size_alloc _ _
 have kp:W1.heap[w.heap.size]?=some (.cells a.cells 57 (0,0)):=by
  refine (hB1.block _ (by omega)).trans ?_;rw [hW0];exact wAh w _
 have kq:W1.heap[w.heap.size+1]?=some (.cells b.cells 57 (0,0)):=by rw [<-hs0,hW1];exact wAh W0 _
 have hB:Below w.heap.size w W1:=hB0.trans (Below.mono hB1 hB0.size);obtain ⟨p,hp⟩:∃p,p=w.heap.size:=⟨_,rfl⟩;obtain ⟨q,hq⟩:∃q,q=p+1:=⟨_,rfl⟩;rw [<-hp] at kp kq;rw [<-hq] at kq;have hpq:p<W1.heap.size/\q<W1.heap.size:=by omega
 obtain ⟨r,hr⟩:∃r,r=wayM a.m b.m:=⟨_,rfl⟩;have hr1:shareK a.ks b.ks=true->r=true:=fun h=>by rw [hr];exact wayM_share h
 have hr2:shareK a.ks b.ks=false->r=(loneM a.m||loneM b.m||decide (a.cl=b.cl)):=fun h=>by rw [hr];exact wayM_not h
 have HLa0:=fun W (h:Below W1.heap.size W1 W)=>refLone_any a W ((ha.below hB).below h) hma
 have HLb0:=fun W (h:Below W1.heap.size W1 W)=>refLone_any b W ((hb.below hB).below h) hmb
 rw [<-hr];clear hr;obtain ⟨ra,hra⟩:∃x,x=loneM a.m:=⟨_,rfl⟩;obtain ⟨rb,hrb⟩:∃x,x=loneM b.m:=⟨_,rfl⟩;rw [<-hra] at HLa0 hr2;rw [<-hrb] at HLb0 hr2;clear hra hrb;have OA:=hiD (ha.below hB);have OB:=hiD (hb.below hB);have HB:=hiD hB;have PQ:=hiD hpq;clear ha hb hB0 hB1 hs0 hs1 hB hpq;obtain ⟨acl,asq,akd,KA,KL,kc,ks,old,new,n⟩:=a;obtain ⟨bcl,bsq,bkd,JA,JL,jc,js,bld,bew,bn⟩:=b;simp only at hma hmb;simp only [CmdV.val,CmdV.cells] at HLa0 HLb0 hW0 hW1 kp kq ⊢;simp only at hr1 hr2;have HLa:=hiD HLa0;have HLb:=hiD HLb0;have HR:=hiD (aI hr1 hr2);clear HLa0 HLb0 hr1 hr2;have XA:=hiD (fun i=>blk_cell kp i);have XB:=hiD (fun i=>blk_cell kq i);have hKi:(KL:Int)<=1000:=by omega
 have hJi:(JL:Int)<=1000:=by omega
 have LKS:Hid (KL=ks.length):=hiD OA.out.len;have LJS:Hid (JL=js.length):=hiD OB.out.len;have HKS:Hid (HasS W1 KA ks):=hiD OA.out.has;have HJS:Hid (HasS W1 JA js):=hiD OB.out.has;clear kp kq hma hmb OA OB;go_enter Tryz.func24,Tryz.ntmps24;go_upto_region 1 with (fail)
 rw [<-hW0,<-hW1,<-hp,<-hq];clear hW0 hW1 hp hq;go_wp2
 go_loopw [5] (fun i wr=>∃j:Nat,j<=KL/\i=.int .i64 (j:Int)/\Hid (Below W1.heap.size W1 wr/\∀u (h1:u<ks.length),u<j->∀t (h2:t<js.length),ks[u]≠js[t])) (fun i _=>KL - (intOf i).toNat)
 case atStart=>exact ⟨0,Nat.zero_le _,rfl,hiD ⟨Below.refl _ _,fun u _ h=>by omega⟩⟩
 case round=>
  obtain ⟨j,hj,rfl,hx⟩:=hrel;have x3:=(hx.out.1.cell (p:=⟨p,3,none⟩) PQ.out.1).trans (XA.out 3);simp at x3
  by_cases hlt:j<KL
  ·have hji:(j:Int)<KL:=by omega
   have hj1:j<ks.length:=by have:=LKS.out;omega
   obtain ⟨kb,ko,e1,l1,f1⟩:=HKS.out (by rintro rfl;simp at hj1);subst e1;obtain ⟨X,hX⟩:∃X,X=ks[j]:=⟨_,rfl⟩;have g1:=f1 j hj1;rw [<-hX] at g1;have FK:=hiD (aI l1 (aI g1 hX));clear l1 f1 g1 hX;obtain ⟨Wa,hWa⟩:∃Wa,Wa=wr:=⟨_,rfl⟩;go_wp2
   go_loopw [6] (fun i wx=>∃t:Nat,t<=JL/\i=.int .i64 (t:Int)/\Hid (Below W1.heap.size W1 wx/\∀u (h1:u<js.length),u<t->X≠js[u])) (fun i _=>JL - (intOf i).toNat)
   case atStart=>exact ⟨0,Nat.zero_le _,rfl,hiD ⟨hx.out.1,fun u _ h=>by omega⟩⟩
   case round=>
    obtain ⟨t,ht,rfl,hy⟩:=hrel;have x3a:=(hy.out.1.cell (p:=⟨p,3,none⟩) PQ.out.1).trans (XA.out 3);have x3b:=(hy.out.1.cell (p:=⟨q,3,none⟩) PQ.out.2).trans (XB.out 3);simp at x3a x3b
    by_cases htl:t<JL
    ·have hti:(t:Int)<JL:=by omega
     have ht1:t<js.length:=by have:=LJS.out;omega
     obtain ⟨jb,jo,e2,l2,f2⟩:=HJS.out (by rintro rfl;simp at ht1);subst e2;obtain ⟨Y,hY⟩:∃Y,Y=js[t]:=⟨_,rfl⟩;have g2:=f2 t ht1;rw [<-hY] at g2;have gX:=(hy.out.1.cell (p:=⟨kb,ko+j,none⟩) FK.out.1).trans FK.out.2.1;have gY:=(hy.out.1.cell (p:=⟨jb,jo+t,none⟩) l2).trans g2;have HY:=hiD hY;clear l2 f2 g2 hY
     by_cases hXY:X=Y
     ·subst hXY;have hsh:r=true:=HR.out.1 (shareK_iff.2 ⟨j,hj1,t,ht1,by rw [<-FK.out.2.2,<-HY.out]⟩);subst hsh;go_upto_region 7 with (fail)
      go_region
      all_goals
       go_wp2;go_ret;exact ⟨rfl,HB.out.trans (Below.mono hy.out.1.drew HB.out.size)⟩
     ·have hne:(X.toList==Y.toList)=false:=by
       rw [Bool.eq_false_iff];intro e;exact hXY (toListK (by simpa using e))
      have HXY:=hiD hXY;clear hXY;go_upto_region 7 with (fail)
      go_region
      all_goals
       go_wp2;refine ⟨⟨t+1,by omega,by congr 1,hiD ⟨hy.out.1.drew,fun u h1 hu=>?_⟩⟩,by simp only [intOf];omega⟩
       rcases Nat.lt_or_ge u t with h|h
       ·exact hy.out.2 u h1 h
       ·have:u=t:=by omega
        subst this;rw [<-HY.out];exact HXY.out
    ·have hti:¬(t:Int)<JL:=by omega
     go_wp2;refine ⟨⟨j+1,by omega,by congr 1,hiD ⟨hy.out.1,fun u h1 hu t h2=>?_⟩⟩,by simp only [intOf];omega⟩
     rcases Nat.lt_or_ge u j with h|h
     ·exact hx.out.2 u h1 h t h2
     ·have:u=j:=by omega
      subst this;rw [<-FK.out.2.2];exact hy.out.2 t h2 (by have:=LJS.out;omega)
  ·have hji:¬(j:Int)<KL:=by omega
   have hns:shareK ks js=false:=by
    rw [Bool.eq_false_iff];intro hc;obtain ⟨u,hu,t,ht,e⟩:=shareK_iff.1 hc;exact hx.out.2 u hu (by have:=LKS.out;omega) t ht e
   have hrr:=HR.out.2 hns;have cA:=fun (W:World) (h:Below W1.heap.size W1 W) i=>(h.cell (p:=⟨p,i,none⟩) PQ.out.1).trans (XA.out i)
   have cB:=fun (W:World) (h:Below W1.heap.size W1 W) i=>(h.cell (p:=⟨q,i,none⟩) PQ.out.2).trans (XB.out i)
   have CA:=hiD cA;have CB:=hiD cB;have a0:=cA wr hx.out.1 0;have a1:=cA wr hx.out.1 1;have a2:=cA wr hx.out.1 2;have a4:=cA wr hx.out.1 4;have a5:=cA wr hx.out.1 5;have a6:=cA wr hx.out.1 6;simp at a0 a1 a2 a4 a5 a6;have HX:=hiD hx.out.1;have hbw:w.heap.size<=wr.heap.size:=nLt HB.out.size hx.out.1.size;have HBW:=hiD (HB.out.trans (Below.mono hx.out.1 HB.out.size));have HRR:=hiD hrr;clear hns hrr cA cB hx hbw
   go_wp2_with fail
   refine (HLa.out wr HX.out).mono ?_;rintro e W3 ⟨rfl,hb3⟩;have h13:Below W1.heap.size W1 W3:=HX.out.trans (Below.mono hb3 HX.out.size);have H3:=hiD (aI h13 (HBW.out.trans (Below.mono hb3 HBW.out.size)));clear a0 a1 a2 a4 a5 a6 x3 hb3 h13
   cases ra with
   |true=>
    have hrt:r=true:=HRR.out;subst hrt;go_wp2;go_ret;exact ⟨rfl,H3.out.2⟩
   |false=>
    have b0:=CB.out W3 H3.out.1 0;have b1:=CB.out W3 H3.out.1 1;have b2:=CB.out W3 H3.out.1 2;have b3:=CB.out W3 H3.out.1 3;have b4:=CB.out W3 H3.out.1 4;have b5:=CB.out W3 H3.out.1 5;have b6:=CB.out W3 H3.out.1 6;simp at b0 b1 b2 b3 b4 b5 b6
    go_wp2_with fail
    refine (HLb.out W3 H3.out.1).mono ?_;rintro e W4 ⟨rfl,hb4⟩;have h14:Below W1.heap.size W1 W4:=H3.out.1.trans (Below.mono hb4 H3.out.1.size);have H4:=hiD (aI h14 (H3.out.2.trans (Below.mono hb4 H3.out.2.size)));clear b0 b1 b2 b3 b4 b5 b6 hb4 h14
    cases rb with
    |true=>
     have hrt:r=true:=HRR.out;subst hrt;go_wp2;go_ret;exact ⟨rfl,H4.out.2⟩
    |false=>
     have y0:=CA.out W4 H4.out.1 0;have z0:=CB.out W4 H4.out.1 0;simp at y0 z0;have hrt:r=decide (acl=bcl):=HRR.out
     by_cases hc:acl=bcl
     ·subst hc;rw [decide_eq_true rfl] at hrt;subst hrt;go_wp2;go_ret;exact ⟨rfl,H4.out.2⟩
     ·rw [decide_eq_false hc] at hrt;subst hrt;have hci:¬(acl:Int)=bcl:=by omega
      have hcb:((acl:Int)==bcl)=false:=by simpa using hci
      clear hc;go_wp2;go_ret;exact ⟨rfl,H4.out.2⟩
theorem nextW_succ {acc:List (CM × Nat)} {k:Nat} (h:k<acc.length) (m:CM):nextW (acc.take (k+1)) m=if wayM acc[k].1 m=true then max (nextW (acc.take k) m) (acc[k].2+1) else nextW (acc.take k) m:=by
 unfold nextW;rw [List.take_succ_eq_append_getElem h,List.foldl_append]
 rfl
theorem nextW_le {acc:List (CM × Nat)} {m:CM} {B:Nat} (h:∀p∈acc,p.2+1<=B):nextW acc m<=B:=by
 rcases fold_is m acc 0 with e|⟨p,hp,_,e⟩
 ·unfold nextW;omega
 ·have:=h p hp;unfold nextW;omega
theorem wavesM_get {l:List CM} {n k:Nat} (hk:k<n) (hn:n<=l.length):∃h:k<(wavesM (l.take n)).length,(wavesM (l.take n))[k]=(l[k]'(by omega),waveI l k):=by
 have hlen:(wavesM (l.take n)).length=n:=by rw [wavesM_len];simp;omega
 refine ⟨by omega,?_⟩;have h1:=wavesM_at (l:=l) (i:=k) (by omega);rw [wavesM_prefix l n hn,List.getElem?_append_left (by omega),List.getElem?_eq_getElem (by omega)] at h1;rw [osI h1,<-waveI_at]
theorem wavesI_take {l:List CM} {n:Nat} (hn:n<l.length):wavesI (l.take (n+1))=wavesI (l.take n)++[waveI l n]:=by
 unfold wavesI;rw [wavesM_succ hn,List.map_append,waveI_at hn]
 rfl
theorem wavesI_get {l:List CM} {n k:Nat} (hk:k<n) (hn:n<=l.length):∃h:k<(wavesI (l.take n)).length,(wavesI (l.take n))[k]=waveI l k:=by
 obtain ⟨h,e⟩:=wavesM_get hk hn;refine ⟨by unfold wavesI;rw [List.length_map];exact h,?_⟩;unfold wavesI;rw [List.getElem_map,e]
theorem refWaves_any (A:Option Addr) (L c:Nat) (l:List CmdV) (w:World) (hl:L=l.length) (hL:L<=100) (hA:HasC w A l) (hng:∀v∈l,¬v.great):
 Calls Tryz.prog 9 #[.slice A L c] w fun e W'=>∃x,e=.returned x/\OwnI w.heap.size W' x (wavesI (l.map (·.m)))/\Below w.heap.size w W':=by
 obtain ⟨ms,hms⟩:∃ms,ms=l.map (·.m):=⟨_,rfl⟩;rw [<-hms];have hmsl:ms.length=L:=by rw [hms,List.length_map];exact hl.symm
 have HM:=hiD (aI hms (aI hmsl hl));have HA:=hiD hA;have NG:=hiD hng;have hLi:(L:Int)<=100:=by omega
 clear hms hmsl hl hA hng;go_enter Tryz.func9,Tryz.ntmps9;go_wp2
 go_loopw [3,4] (fun s3 i wr=>∃(n:Nat) (A3:Option Addr) (c3:Nat),n<=L/\i=.int .i64 (n:Int)/\s3=.slice A3 n c3/\Hid (OwnI w.heap.size wr (.slice A3 n c3) (wavesI (ms.take n))/\Below w.heap.size w wr)) (fun _ i _=>L - (intOf i).toNat)
 case atStart=>exact ⟨0,none,0,Nat.zero_le _,rfl,rfl,hiD ⟨by simpa [wavesI,wavesM] using OwnI.nil _ _,Below.refl _ _⟩⟩
 case round=>
  obtain ⟨n,A3,c3,hn,rfl,rfl,HO⟩:=hrel
  by_cases hlt:n<L
  ·have hni:(n:Int)<L:=by omega
   have hn1:n<l.length:=by have:=HM.out.2.2;omega
   obtain ⟨b,o,e1,hb0,fC⟩:=HA.out (by rintro rfl;simp at hn1);subst e1;obtain ⟨y,hy⟩:∃y,y=l[n]:=⟨_,rfl⟩;have hym:(ms[n]'(by have:=HM.out.2.1;omega))=y.m:=by simp only [HM.out.1,List.getElem_map,hy]
   have FC:=hiD (aI hb0 (aI fC (aI hy hym)));clear hb0 fC hy hym;obtain ⟨wo,rfl⟩:∃x,x=wr:=⟨_,rfl⟩;go_wp2
   go_loopw [5,6] (fun s5 i wx=>∃k:Nat,k<=n/\i=.int .i64 (k:Int)/\s5=.int .i64 (nextW ((wavesM (ms.take n)).take k) y.m:Int)/\Hid (Below wo.heap.size wo wx)) (fun _ i _=>n - (intOf i).toNat)
   case atStart=>exact ⟨0,Nat.zero_le _,rfl,rfl,hiD (Below.refl _ _)⟩
   case round=>
    obtain ⟨k,hk,rfl,rfl,HX⟩:=hrel
    by_cases hkl:k<n
    ·have hki:(k:Int)<n:=by omega
     have hk1:k<l.length:=by omega
     have hnm:n<=ms.length:=by have:=HM.out.2.1;omega
     obtain ⟨h1,e1⟩:=wavesM_get hkl hnm;obtain ⟨h2,e2⟩:=wavesI_get hkl hnm;have hns:=nextW_succ h1 y.m;rw [e1] at hns;obtain ⟨x,hx⟩:∃x,x=l[k]:=⟨_,rfl⟩;have hxm:(ms[k]'(by omega))=x.m:=by simp only [HM.out.1,List.getElem_map,hx]
     rw [hxm] at hns;have hHI:=HO.out.1.has;obtain ⟨g,go,eg,hgl,fI⟩:=hHI (by intro e;rw [e] at h2;simp at h2);subst eg;have cI:=fI k h2;rw [e2] at cI;have hwl:=waveI_le (l:=ms) k (by omega)
     have hB:nextW ((wavesM (ms.take n)).take k) y.m<=n:=nextW_le (fun p hp=>by
      obtain ⟨j,hj,rfl⟩:=List.mem_iff_getElem.1 (List.mem_of_mem_take hp);have hlen:(wavesM (ms.take n)).length=n:=by rw [wavesM_len];simp;omega
      obtain ⟨h3,e3⟩:=wavesM_get (l:=ms) (n:=n) (k:=j) (by omega) hnm;rw [e3];have:=waveI_le (l:=ms) j (by omega);show waveI ms j+1<=n;omega)
     obtain ⟨wk,hwk⟩:∃x,x=waveI ms k:=⟨_,rfl⟩;obtain ⟨r,hr⟩:∃r,r=wayM x.m y.m:=⟨_,rfl⟩;obtain ⟨s,hs⟩:∃s,s=nextW ((wavesM (ms.take n)).take k) y.m:=⟨_,rfl⟩;rw [<-hwk] at cI hns hwl;rw [<-hr] at hns;rw [<-hs] at hns hB ⊢;have hw0:Below w.heap.size w wo:=HO.out.2;have hw1:Below w.heap.size w wr:=hw0.trans (Below.mono HX.out hw0.size);have okx:x.ok w:=by rw [hx];exact (FC.out.2.1 k hk1).2
     have oky:y.ok w:=by rw [FC.out.2.2.1];exact (FC.out.2.1 n hn1).2
     have lx:x.L<=1000:=by
      have:=NG.out x (by rw [hx];exact List.getElem_mem hk1);have h3:=okx.len;unfold CmdV.great at this;omega
     have ly:y.L<=1000:=by
      have:=NG.out y (by rw [FC.out.2.2.1];exact List.getElem_mem hn1);have h3:=oky.len;unfold CmdV.great at this;omega
     have cx:∀j u,x.cells[j]?=some u->wr.cell? ⟨b,o+k*7+j,none⟩=some u:=fun j u hu=>(hw1.cell (p:=⟨b,o+k*7+j,none⟩) FC.out.1).trans ((FC.out.2.1 k hk1).1 j u (by rw [<-hx];exact hu))
     have cy:∀j u,y.cells[j]?=some u->wr.cell? ⟨b,o+n*7+j,none⟩=some u:=fun j u hu=>(hw1.cell (p:=⟨b,o+n*7+j,none⟩) FC.out.1).trans ((FC.out.2.1 n hn1).1 j u (by rw [<-FC.out.2.2.1];exact hu))
     have hbw:b<wr.heap.size:=nLl FC.out.1 hw1.size
     have hway:∀w',Grew wr w'->Calls Tryz.prog 24 #[x.val,y.val] w' fun e W'=>e=.returned (.bool r)/\Below w'.heap.size w' W':=fun w' h=>by
      have hw2:=hw1.trans (Below.mono h hw1.size);rw [hr];exact refWay_any x y w' (okx.below hw2) (oky.below hw2) lx ly
     have WAY:=hiD (aI hbw (aI cx (aI cy hway)));have CI:=hiD (aI hgl cI);have NS:=hiD hns;have BD:=hiD (aI hwl hB);clear hnm h1 e1 h2 e2 hns hx hxm hHI fI hwk hr hs hw0 hw1 okx oky lx ly cx cy hbw hway cI hgl hwl hB hk1;go_upto_region 9 with (fail)
     refine rfway b o L c k n x y r (by omega) hlt _ wr _ rfl rfl rfl rfl WAY.out.1 WAY.out.2.1 WAY.out.2.2.1 WAY.out.2.2.2 ?_;intro w7 hg7;have h7:Below wo.heap.size wo w7:=HX.out.trans (Below.mono hg7 HX.out.size);have ck:w7.cell? ⟨g,go+k,none⟩=some (.int .i64 (wk:Int)):=(h7.cell (p:=⟨g,go+k,none⟩) CI.out.1).trans CI.out.2;have H7:=hiD h7;clear hg7 h7;simp only [puts,List.foldl_cons,List.foldl_nil,Act.put,List.setIfInBounds_toArray,List.set_cons_succ,List.set_cons_zero]
     cases r with
     |true=>
      have hmax:max (s:Int) ((wk:Int)+1)=((max s (wk+1):Nat):Int):=by omega
      have hwk1:IntKind.i64.wrap ((wk:Int)+1)=(wk:Int)+1:=by
       have:=BD.out;simp [IntKind.wrap,IntKind.bits,IntKind.signed];omega
      have hkn2:(k:Int)<n:=hki;go_wp2;exact ⟨⟨k+1,by omega,by congr 1,by rw [NS.out,if_pos rfl],H7⟩,by simp only [intOf];omega⟩
     |false=>
      go_wp2;exact ⟨⟨k+1,by omega,by congr 1,by rw [NS.out];rfl,H7⟩,by simp only [intOf];omega⟩
    ·have hki:¬(k:Int)<n:=by omega
     obtain rfl:k=n:=by omega
     have hnm:k<ms.length:=by have:=HM.out.2.1;omega
     have hlenw:(wavesM (ms.take k)).length=k:=by rw [wavesM_len];simp;omega
     have hwv:nextW ((wavesM (ms.take k)).take k) y.m=waveI ms k:=by
      rw [List.take_of_length_le (by omega),waveI_at hnm,FC.out.2.2.2]
     rw [hwv];obtain ⟨wk,hwk⟩:∃x,x=waveI ms k:=⟨_,rfl⟩;have htk:=wavesI_take hnm;rw [<-hwk] at htk ⊢;have hwlen:(wavesI (ms.take k)).length=k:=by rw [wavesI_len];simp;omega
     have HO1:=hiD (HO.out.1.below HX.out);have B1:=hiD (HO.out.2.trans (Below.mono HX.out HO.out.2.size));have HTK:=hiD (aI htk hwlen);clear hnm hlenw hwv hwk htk hwlen HO HX
     go_wp2_with (at_builtin;refine wpList_append_I rfl (.tmp 34) (.tmp 36) rfl w.heap.size (.slice A3 k c3) (wavesI (ms.take k)) rfl (HO1.out.below ((Below.refl _ wr).alloc (nLr _) _)) wr.heap.size 1 wk rfl (by have:=cell_one_new wr (.int .i64 (wk:Int)) 3 0 _ rfl;exact this) (by have:=HTK.out.2;omega) (by have:=B1.out.size;simp;omega) ?_;intro v4 W4 ho4 hg4;rw [<-HTK.out.1] at ho4;obtain ⟨A4,c4,rfl,_⟩:=ho4.form;have hl4:(wavesI (ms.take (k+1))).length=k+1:=(by rw [HTK.out.1,List.length_append,HTK.out.2];rfl);rw [hl4] at ho4 ⊢;have H4:=hiD (aI ho4 hg4);clear ho4 hg4 hl4)
     have hge:=HO1.out.ge;exact ⟨⟨k+1,A4,c4,by omega,by congr 1,rfl,hiD ⟨H4.out.1,(B1.out.alloc B1.out.size _).grown H4.out.2 (nLt B1.out.size (by simp)) hge⟩⟩,by simp only [intOf];omega⟩
  ·have hni:¬(n:Int)<L:=by omega
   obtain rfl:n=L:=by omega
   have ho:=HO.out;rw [List.take_of_length_le (by have:=HM.out.2.1;omega)] at ho;have HOO:=hiD ho;clear ho HO;go_wp2;go_ret;exact ⟨_,rfl,HOO.out.1,HOO.out.2⟩
theorem orderW_append (pk:Nat->Nat->Nat->Int):∀(s:Nat) (gs hs:List (List Nat)),orderW pk s (gs++hs)=orderW pk s gs++orderW pk (s+gs.length) hs
 |s,[],hs=>by simp [orderW]
 |s,g::gs,hs=>by
  show orderG (pk s) g.length 0 g++orderW pk (s+1) (gs++hs)=(orderG (pk s) g.length 0 g++orderW pk (s+1) gs)++_;rw [orderW_append pk (s+1) gs hs,List.append_assoc,List.length_cons,show s+1+gs.length=s+(gs.length+1) by omega]
theorem orderG_step (pk:Nat->Nat->Int) (k:Nat) {l:List Nat} (h:0<l.length):orderG pk l.length k l=(l[(pk k l.length%(l.length:Int)).toNat]?.getD 0)::orderG pk (l.eraseIdx (pk k l.length%(l.length:Int)).toNat).length (k+1) (l.eraseIdx (pk k l.length%(l.length:Int)).toNat):=by
 cases l with
 |nil=>simp at h
 |cons x l=>
  have hi:=pick_lt (pk k (x::l).length) (n:=(x::l).length) (by simp);rw [show ((x::l).eraseIdx (pk k (x::l).length%((x::l).length:Int)).toNat).length=l.length by rw [List.length_eraseIdx_of_lt hi];rfl]
  rfl
def waveTo (ms:List CM) (t j:Nat):List Nat:=(List.range j).filter fun i=>decide (waveI ms i=t)
theorem waveTo_succ (ms:List CM) (t j:Nat):waveTo ms t (j+1)=if waveI ms j=t then waveTo ms t j++[j] else waveTo ms t j:=by
 unfold waveTo;rw [List.range_succ,List.filter_append]
 by_cases h:waveI ms j=t<;>simp [h]
theorem waveTo_len (ms:List CM) (t j:Nat):(waveTo ms t j).length<=j:=by
 unfold waveTo;exact nLt (List.length_filter_le _ _) (by simp)
def ordTo (pk:Nat->Nat->Nat->Int) (ms:List CM) (t:Nat):List Nat:=orderW pk 0 ((groupsM ms).take t)
theorem ordTo_succ (pk:Nat->Nat->Nat->Int) (ms:List CM) {t:Nat} (h:t<numW ms):ordTo pk ms (t+1)=ordTo pk ms t++orderG (pk t) (waveTo ms t ms.length).length 0 (waveTo ms t ms.length):=by
 have hl:t<(groupsM ms).length:=by rw [groups_len];exact h
 have hg:(groupsM ms)[t]=waveTo ms t ms.length:=by simp [groupsM,waveTo]
 unfold ordTo;rw [List.take_succ_eq_append_getElem hl,orderW_append,hg,List.length_take,Nat.min_eq_left (Nat.le_of_lt hl),Nat.zero_add]
 congr 1
 show orderG (pk t) _ 0 _++orderW pk (t+1) []=_;rw [show orderW pk (t+1) []=[] from rfl,List.append_nil]
theorem ordTo_part (pk:Nat->Nat->Nat->Int) (ms:List CM) (t:Nat):∃r,orderM pk ms=ordTo pk ms t++r:=by
 refine ⟨orderW pk (0+((groupsM ms).take t).length) ((groupsM ms).drop t),?_⟩;unfold orderM ordTo;rw [<-orderW_append,List.take_append_drop]
theorem orderM_len (pk:Nat->Nat->Nat->Int) (ms:List CM):(orderM pk ms).length=ms.length:=by rw [(orderM_perm pk ms).length_eq,List.length_range]
theorem ordTo_all (pk:Nat->Nat->Nat->Int) (ms:List CM) {t:Nat} (h:ms.length<=(ordTo pk ms t).length):ordTo pk ms t=orderM pk ms:=by
 obtain ⟨r,hr⟩:=ordTo_part pk ms t;have h1:=congrArg List.length hr;rw [orderM_len,List.length_append] at h1;have h2:r=[]:=List.length_eq_zero_iff.1 (by omega);rw [hr,h2,List.append_nil]
theorem ordTo_lt (pk:Nat->Nat->Nat->Int) (ms:List CM) {t:Nat} (h:(ordTo pk ms t).length<ms.length):t<numW ms:=by
 rcases Nat.lt_or_ge t (numW ms) with h1|h1
 ·exact h1
 ·have:ordTo pk ms t=orderM pk ms:=by
   unfold ordTo orderM;rw [List.take_of_length_le (by rw [groups_len];exact h1)]
  rw [this,orderM_len] at h;omega
theorem wave_few {ms:List CM} {t:Nat} (h:t<numW ms):t<ms.length:=by
 unfold numW at h;obtain ⟨k,h1,h2⟩:=topW_is ms ms.length (nLr _) t (by omega);have:=waveI_le (l:=ms) k h1;omega
theorem run_uptoI (w:World) (A:Option Addr) (L c N:Nat) (h:N<=c) (_hc:N<=1000000000):(Instr.sliceAt 23 (.slice A L c) none (some (.int .i64 (N:Int))) none).run Tryz.prog w=.ok (.slice A N c) w:=by
 have h1:(N:Int)<=c:=by omega
 cases A<;>simp [go_sem,h1]
theorem run_fromI (A:Option Addr) (L c n:Nat) (h1:n<=L) (h2:L<=c) (_hc:L<=1000000000):∃A',(∀w:World,(Instr.sliceAt 23 (.slice A L c) (some (.int .i64 (n:Int))) none none).run Tryz.prog w=.ok (.slice A' (L - n) (c - n)) w)/\∀b o,A=some ⟨b,o,none⟩->n<L->A'=some ⟨b,o+n,none⟩:=by
 have e1:(0:Int)<=(n:Int):=by omega
 have e2:(n:Int)<=(L:Int):=by omega
 have e3:(L:Int)<=(c:Int):=by omega
 cases A with
 |none=>
  refine ⟨none,fun w=>?_,fun _ _ e=>by cases e⟩;simp [go_sem,e1,e2]
 |some a=>
  by_cases hcn:c=n
  ·refine ⟨some a,fun w=>?_,fun b o e h=>by omega⟩;simp [go_sem,e1,e2,hcn]
  ·refine ⟨some (a.add n),fun w=>?_,fun b o e _=>by cases e;exact congrArg some (addr_add b o n)⟩;simp [go_sem,e1,e2,hcn]
theorem HasI.take {w:World} {A:Option Addr} {l:List Nat} (h:HasI w A l) (n:Nat):HasI w A (l.take n):=fun hl=>by
 obtain ⟨b,o,e,h1,h2⟩:=h (by rintro rfl;simp at hl);refine ⟨b,o,e,h1,fun j hj=>?_⟩;rw [List.getElem_take];exact h2 j (by simp at hj;omega)
theorem HasI.drop {w:World} {A A':Option Addr} {l:List Nat} {n:Nat} (h:HasI w A l) (hA:∀b o,A=some ⟨b,o,none⟩->n<l.length->A'=some ⟨b,o+n,none⟩):HasI w A' (l.drop n):=fun hl=>by
 obtain ⟨b,o,e,h1,h2⟩:=h (by rintro rfl;simp at hl)
 have hn:n<l.length:=by
  have:¬l.length<=n:=fun h=>hl (List.drop_eq_nil_iff.2 h)
  omega
 refine ⟨b,o+n,hA b o e hn,h1,fun j hj=>?_⟩;rw [List.length_drop] at hj;rw [List.getElem_drop,Nat.add_assoc];exact h2 (n+j) (by omega)
theorem wpList_append_Is {ops:Array Oper} {rest:List Oper} {o:Oper} {a:Act} {w:World} {Q:Exit->Act->World->Prop} (hgd:o.guard=none) (s x:Operand)
 (ho:o.op=.call {callee:=.builtin .append,args:=#[s,x],argTypes:=#[23,23]}) (base:Nat) (v:Value) (l:List Nat) (hs:a.eval s=v) (hown:OwnI base w v l)
 (A:Option Addr) (m c:Nat) (l2:List Nat) (hx:a.eval x=.slice A m c) (hm:m=l2.length) (hA:HasI w A l2) (hlen:l.length+m<=1000000) (hbase:base<=w.heap.size)
 (h:∀v' w',OwnI base w' v' (l++l2)->w.grownBy w' v.ownBlock->wpList Tryz.prog ops Q rest (a.put o.dst v') w'):wpList Tryz.prog ops Q (o::rest) a w:=by
 obtain ⟨i,hi,hz,hsz,hby⟩:=infoI_parts
 by_cases h0:l2=[]
 ·subst h0;obtain rfl:m=0:=hm;refine wpList_plain hgd fun K hK=>?_
  have hrun:(Builtin.append_ #[23,23] o.type #[v,.slice A 0 c]).run Tryz.prog w=.ok v w:=by
   have hfc:∀k,(Builtin.firstCells 1 0 (.slice A 0 k)).run Tryz.prog w=.ok #[] w:=fun k=>by
    cases A<;>simp [Builtin.firstCells,loadCells,loadCellsFrom]
   rcases hown.2 with ⟨rfl,_⟩|⟨g,cap,cur,rfl,_,hg,hnc,_⟩
   ·simp [Builtin.append_,run_underlying Tryz.underlying23,sizeOf,typeInfo,hi,Builtin.lenOf,hsz,hfc]
   ·simp [Builtin.append_,run_underlying Tryz.underlying23,sizeOf,typeInfo,hi,Builtin.lenOf,hsz,hfc,hnc,storeCells]
  unfold Oper.wp execOp;simp only [ho,resolve,invoke,builtin,Sem.run_bind,Sem.run_pure,Result.andThen_ok,List.map_toArray,List.map_cons,List.map_nil,hs,hx,hrun];exact hK _ _ (h v w (by rw [List.append_nil];exact hown) ⟨rfl,rfl,rfl,nLr _,fun _ _ _=>rfl⟩)
 ·obtain ⟨b,o',rfl,hb,hc⟩:=hA h0;refine wpList_append_own_at w hgd s x 23 ho base 3 i _ 1 8 Tryz.underlying23 hi hz hsz hby rfl (by omega) v l.length (cellsI l) hs hown ⟨b,o',none⟩ m c (cellsI l2) hx (by simp [cellsI,hm]) (fun j u hj=>?_) (cellsI_one l2) (by simp only [maxLen];omega) (by omega) hbase ?_
  ·unfold cellsI at hj;rw [List.getElem?_map] at hj;obtain ⟨t,ht,rfl⟩:=Option.map_eq_some_iff.1 hj;obtain ⟨hl,rfl⟩:=List.getElem?_eq_some_iff.1 ht;rw [addr_add];exact hc j hl
  ·intro v' w' h1 h2 _ _;refine h v' w' ?_ h2;unfold OwnI cellsI;rw [List.map_append,List.length_append,<-hm];exact h1
def T0:Nat->(Nat × ByteArray) × Bool:=fun _=>((0,⟨#[]⟩),false)
theorem made_R (n:Nat):madeCells #[.int .u8 0,.string ⟨#[]⟩] (n*2)=rowR T0 n:=by
 apply Array.ext_getElem?
 intro i;rw [rowR_get]
 by_cases h:i<n*2
 ·rw [if_pos h,Array.getElem?_eq_getElem (by rw [size_madeCells];exact h)]
  rcases Nat.mod_two_eq_zero_or_one i with hm|hm<;>simp [madeCells,hm,T0]
 ·rw [if_neg h,Array.getElem?_eq_none (by rw [size_madeCells];omega)]
theorem made_B (n:Nat):madeCells #[.bool false] n=rowB T0 n:=by
 apply Array.ext_getElem?
 intro i;rw [rowB_get]
 by_cases h:i<n
 ·rw [if_pos h,Array.getElem?_eq_getElem (by rw [size_madeCells];exact h)];simp [madeCells,T0,Nat.mod_one]
 ·rw [if_neg h,Array.getElem?_eq_none (by rw [size_madeCells];omega)]
theorem made_T (n:Nat):madeCells #[.int .i64 0] n=rowT (fun _=>0) n:=by
 apply Array.ext_getElem?
 intro i;rw [rowT_get]
 by_cases h:i<n
 ·rw [if_pos h,Array.getElem?_eq_getElem (by rw [size_madeCells];exact h)];simp [madeCells,Nat.mod_one]
 ·rw [if_neg h,Array.getElem?_eq_none (by rw [size_madeCells];omega)]
theorem mk_T (w:World) (M:Nat) (hM:M<=100000):(Instr.makeSlice 23 (.int .i64 (M:Int)) (.int .i64 (M:Int))).run Tryz.prog w=.ok (.slice (some ⟨w.heap.size,0,none⟩) M M) (w.alloc (.cells (rowT (fun _=>0) M) 3)):=by
 rw [<-made_T];exact mkI w M hM
theorem infoBo:(Tryz.prog.info? 4).map (fun i=>(i.zero,i.size,i.bytes))=some (some (.bool false),1,1):=by kernel_rfl
theorem mk_B (w:World) (M:Nat) (hM:M<=100000):(Instr.makeSlice 36 (.int .i64 (M:Int)) (.int .i64 (M:Int))).run Tryz.prog w=.ok (.slice (some ⟨w.heap.size,0,none⟩) M M) (w.alloc (.cells (rowB T0 M) 4)):=by
 have h:=infoBo
 cases hi:Tryz.prog.info? 4 with
 |none=>rw [hi] at h;cases h
 |some i=>
  rw [hi] at h;simp at h;obtain ⟨hz,hs,hb⟩:=h;have:=run_make (P:=Tryz.prog) w 36 4 i _ Tryz.underlying36 hi hz .i64 .i64 (M:Int) (M:Int) (by omega) (by omega) (by rw [hb];omega) (by omega);rw [hs,Nat.mul_one] at this;rw [<-made_B];exact this
theorem infoRe:(Tryz.prog.info? 45).map (fun i=>(i.zero,i.size,i.bytes))=some (some (.agg #[.int .u8 0,.string ⟨#[]⟩]),2,24):=by kernel_rfl
theorem mk_R (w:World) (M:Nat) (hM:M<=100000):(Instr.makeSlice 35 (.int .i64 (M:Int)) (.int .i64 (M:Int))).run Tryz.prog w=.ok (.slice (some ⟨w.heap.size,0,none⟩) M M) (w.alloc (.cells (rowR T0 M) 45)):=by
 have h:=infoRe
 cases hi:Tryz.prog.info? 45 with
 |none=>rw [hi] at h;cases h
 |some i=>
  rw [hi] at h;simp at h;obtain ⟨hz,hs,hb⟩:=h;have:=run_make (P:=Tryz.prog) w 35 45 i _ Tryz.underlying35 hi hz .i64 .i64 (M:Int) (M:Int) (by omega) (by omega) (by rw [hb];omega) (by omega);rw [hs] at this;rw [<-made_R];exact this
theorem AppV.blocks {w W:World} {v:Value} {a:AM} (h:AppV w v a) (hW:∀b,b<w.heap.size->(∃o,(∃t u:ByteArray,w.cell? ⟨b,o,none⟩=some (.string t)/\w.cell? ⟨b,o+1,none⟩=some (.string u))\/∃z:Int,w.cell? ⟨b,o,none⟩=some (.int .u32 z))->W.heap[b]?=w.heap[b]?):AppV W v a:=by
 obtain ⟨B0,d0,B1,d1,e1,e2,e3,e4⟩:=h;refine ⟨B0,d0,B1,d1,e1,e2,fun hl=>?_,fun hl=>?_⟩
 ·have hl0:0<a.ps.length:=List.length_pos_iff.2 hl;obtain ⟨b,o,e,h1,h2⟩:=e3 hl;have hbw:=hW b h1 ⟨_,.inl ⟨_,_,h2 0 hl0⟩⟩;exact ⟨b,o,e,lt_heap h1 hbw,fun j hj=>⟨(cell_heap hbw).trans (h2 j hj).1,(cell_heap hbw).trans (h2 j hj).2⟩⟩
 ·have hl0:0<a.ss.length:=List.length_pos_iff.2 hl;obtain ⟨b,o,e,h1,h2⟩:=e4 hl;have k1:w.cell? ⟨b,o+0*4+0,none⟩=some (.int .u32 (a.ss[0].cl:Int)):=h2 0 hl0 0 _ rfl;have hbw:=hW b h1 ⟨_,.inr ⟨_,k1⟩⟩;exact ⟨b,o,e,lt_heap h1 hbw,fun j hj i u hu=>(cell_heap hbw).trans (h2 j hj i u hu)⟩
theorem neR {w:World} {b r o:Nat} {cs:Array Value} {ty:TypeId} (hr:w.heap[r]?=some (.cells cs ty (0,0))) (hc:RowR cs) (h:(∃t u:ByteArray,w.cell? ⟨b,o,none⟩=some (.string t)/\w.cell? ⟨b,o+1,none⟩=some (.string u))\/∃z:Int,w.cell? ⟨b,o,none⟩=some (.int .u32 z)):b≠r:=by
 rintro rfl
 rcases h with ⟨t,u,k1,k2⟩|⟨z,k1⟩
 ·rw [blk_cell hr] at k1 k2
  rcases Nat.mod_two_eq_zero_or_one o with hm|hm
  ·obtain ⟨z,hz⟩:=(hc _ _ k1).1 hm
   cases hz
  ·obtain ⟨z,hz⟩:=(hc _ _ k2).1 (by omega)
   cases hz
 ·rw [blk_cell hr] at k1
  rcases Nat.mod_two_eq_zero_or_one o with hm|hm
  ·obtain ⟨z,hz⟩:=(hc _ _ k1).1 hm
   cases hz
  ·obtain ⟨z,hz⟩:=(hc _ _ k1).2 hm
   cases hz
theorem neB {w:World} {b r o:Nat} {cs:Array Value} {ty:TypeId} (hr:w.heap[r]?=some (.cells cs ty (0,0))) (hc:RowB cs) (h:(∃t u:ByteArray,w.cell? ⟨b,o,none⟩=some (.string t)/\w.cell? ⟨b,o+1,none⟩=some (.string u))\/∃z:Int,w.cell? ⟨b,o,none⟩=some (.int .u32 z)):b≠r:=by
 rintro rfl
 rcases h with ⟨t,u,k1,k2⟩|⟨z,k1⟩<;>
 ·rw [blk_cell hr] at k1;obtain ⟨z,hz⟩:=hc _ _ k1
  cases hz
theorem neT {w:World} {b r o n:Nat} {U:Nat->Nat} {ty:TypeId} (hr:w.heap[r]?=some (.cells (rowT U n) ty (0,0))) (h:(∃t u:ByteArray,w.cell? ⟨b,o,none⟩=some (.string t)/\w.cell? ⟨b,o+1,none⟩=some (.string u))\/∃z:Int,w.cell? ⟨b,o,none⟩=some (.int .u32 z)):b≠r:=by
 rintro rfl
 rcases h with ⟨t,u,k1,k2⟩|⟨z,k1⟩<;>
 ·rw [blk_cell hr,rowT_get] at k1
  split at k1<;>cases k1
theorem neA {w:World} {b r o n0 c0 n1 c1 n:Nat} {A0 A1:Option Addr} (hr:AppC w r A0 n0 c0 A1 n1 c1 n) (h:(∃t u:ByteArray,w.cell? ⟨b,o,none⟩=some (.string t)/\w.cell? ⟨b,o+1,none⟩=some (.string u))\/∃z:Int,w.cell? ⟨b,o,none⟩=some (.int .u32 z)):b≠r:=by
 rintro rfl
 rcases h with ⟨t,u,k1,k2⟩|⟨z,k1⟩<;>
 ·rw [blk_cell hr] at k1;have hm:=Array.mem_of_getElem? k1;simp at hm
structure RuS (w:World) (p r6 rb fb tb L:Nat) (a:AM) (T:Nat->(Nat × ByteArray) × Bool) (U:Nat->Nat) (W:World):Prop where
 ex:∃B1 d1 B2 d2,AppC W p B1 a.ps.length d1 B2 a.ss.length d2 a.n/\a.ss.length<=d2/\HasP W B1 a.ps/\HasE W B2 a.ss
 res:AppC W r6 none 0 0 none 0 0 0
 rep:W.heap[rb]?=some (.cells (rowR T L) 45 (0,0))
 fre:W.heap[fb]?=some (.cells (rowB T L) 4 (0,0))
 tur:W.heap[tb]?=some (.cells (rowT U L) 3 (0,0))
 below:Below w.heap.size w W
 ord:w.heap.size<=p/\p<r6/\r6<rb/\rb<fb/\fb<tb/\tb<W.heap.size
theorem RuS.start {w W0 W1 W2 W3 W4:World} {A0 E:Option Addr} {c0 lc L:Nat} {a:AM} (hlc:a.ss.length<=lc) (hP:HasP w A0 a.ps) (hE:HasE w E a.ss) (h0:W0=w.alloc (.cells #[.slice A0 a.ps.length c0,.slice E a.ss.length lc,.int .u64 (a.n:Int)] 32)) (h1:W1=W0.alloc (.cells #[.slice none 0 0,.slice none 0 0,.int .u64 0] 32)) (h2:W2=W1.alloc (.cells (rowR T0 L) 45)) (h3:W3=W2.alloc (.cells (rowB T0 L) 4)) (h4:W4=W3.alloc (.cells (rowT (fun _=>0) L) 3)):RuS w w.heap.size (w.heap.size+1) (w.heap.size+1+1) (w.heap.size+1+1+1) (w.heap.size+1+1+1+1) L a T0 (fun _=>0) W4:=by
 have s0:W0.heap.size=w.heap.size+1:=by rw [h0];exact World.size_alloc _ _
 have s1:W1.heap.size=w.heap.size+1+1:=by rw [h1,World.size_alloc,s0]
 have s2:W2.heap.size=w.heap.size+1+1+1:=by rw [h2,World.size_alloc,s1]
 have s3:W3.heap.size=w.heap.size+1+1+1+1:=by rw [h3,World.size_alloc,s2]
 have s4:W4.heap.size=w.heap.size+1+1+1+1+1:=by rw [h4,World.size_alloc,s3]
 have b0:Below w.heap.size w W0:=by rw [h0];exact (Below.refl _ _).alloc (nLr _) _
 have b1:Below W0.heap.size W0 W1:=by rw [h1];exact (Below.refl _ _).alloc (nLr _) _
 have b2:Below W1.heap.size W1 W2:=by rw [h2];exact (Below.refl _ _).alloc (nLr _) _
 have b3:Below W2.heap.size W2 W3:=by rw [h3];exact (Below.refl _ _).alloc (nLr _) _
 have b4:Below W3.heap.size W3 W4:=by rw [h4];exact (Below.refl _ _).alloc (nLr _) _
 have b24:=b3.trans (Below.mono b4 b3.size);have b14:=b2.trans (Below.mono b24 b2.size);have b04:=b1.trans (Below.mono b14 b1.size);have bw:=b0.trans (Below.mono b04 b0.size);refine ⟨⟨A0,c0,E,lc,(b04.block _ (by omega)).trans (by rw [h0];exact wAh w _),hlc,hP.below bw,hE.below bw⟩,(b14.block _ (by omega)).trans ?_,(b24.block _ (by omega)).trans ?_,(b4.block _ (by omega)).trans ?_,?_,bw,by omega⟩
 ·rw [<-s0,h1];exact wAh W0 _
 ·rw [<-s1,h2];exact wAh W1 _
 ·rw [<-s2,h3];exact wAh W2 _
 ·rw [<-s3,h4];exact wAh W3 _
theorem runO_one (f:Nat->CM):∀(o:List Nat) (a:AM),(runO f o a).1=oneO (o.map f) a
 |[],_=>rfl
 |i::o,a=>runO_one f o (doA a (f i)).1
theorem refRun_any (A0 E:Option Addr) (c0 lc:Nat) (a:AM) (A:Option Addr) (L c:Nat) (l:List CmdV) (O:Option Addr) (Lo oc:Nat) (ord:List Nat) (w:World) (hlim:LimAn 200 a) (hs:SortedA a) (hlc:a.ss.length<=lc) (hP:HasP w A0 a.ps) (hE:HasE w E a.ss) (hl:L=l.length) (hL:L<=100) (hA:HasC w A l) (hLo:Lo=ord.length) (hO:HasI w O ord) (hol:Lo<=100) (hor:∀i∈ord,i<L) (hnd:ord.Nodup):
 Calls Tryz.prog 10 #[.agg #[.slice A0 a.ps.length c0,.slice E a.ss.length lc,.int .u64 (a.n:Int)],.slice A L c,.slice O Lo oc] w fun e W'=>∃v' rb fb tb,e=.returned (.tuple #[v',.slice (some ⟨rb,0,none⟩) L L,.slice (some ⟨fb,0,none⟩) L L,.slice (some ⟨tb,0,none⟩) L L])/\AppV W' v' (runO (atM (l.map (·.m))) ord a).1/\W'.heap[rb]?=some (.cells (rowR (toldO (runO (atM (l.map (·.m))) ord a).2) L) 45 (0,0))/\W'.heap[fb]?=some (.cells (rowB (toldO (runO (atM (l.map (·.m))) ord a).2) L) 4 (0,0))/\W'.heap[tb]?=some (.cells (rowT (turnTo ord Lo) L) 3 (0,0))/\Below w.heap.size w W':=by
 obtain ⟨n0,hn0⟩:∃x,x=a.ps.length:=⟨_,rfl⟩;obtain ⟨nl,hnl⟩:∃x,x=a.ss.length:=⟨_,rfl⟩;obtain ⟨n,hn⟩:∃x,x=a.n:=⟨_,rfl⟩;rw [<-hn0,<-hnl,<-hn];have HN:=hiD (aI hn0 (aI hnl hn));have HA:=hiD (aI hlim (aI hs (aI hlc (aI hP hE))));have HC:=hiD (aI hl hA);have HO:=hiD (aI hLo (aI hO (aI hor hnd)));have hLi:(L:Int)<=100:=by omega
 have hoi:(Lo:Int)<=100:=by omega
 obtain ⟨ms,hms⟩:∃ms,ms=l.map (·.m):=⟨_,rfl⟩;rw [<-hms];have HMS:=hiD (aI hms (show ms.length=L by rw [hms,List.length_map];exact hl.symm));have hmR:=fun W=>mk_R W L (by omega)
 have hmB:=fun W=>mk_B W L (by omega)
 have hmT:=fun W=>mk_T W L (by omega)
 clear hn0 hnl hn hlim hs hlc hP hE hl hA hLo hO hor hnd hms;go_enter Tryz.func10,Tryz.ntmps10;go_upto_region 4 with (fail)
 obtain ⟨W0,hW0⟩:∃x,x=w.alloc (Obj.cells #[.slice A0 n0 c0,.slice E nl lc,.int .u64 (n:Int)] 32):=⟨_,rfl⟩;rw [<-hW0];obtain ⟨W1,hW1⟩:∃x,x=W0.alloc (Obj.cells #[.slice none 0 0,.slice none 0 0,.int .u64 0] 32):=⟨_,rfl⟩;rw [<-hW1];obtain ⟨W2,hW2⟩:∃x,x=W1.alloc (Obj.cells (rowR T0 L) 45):=⟨_,rfl⟩;rw [<-hW2];obtain ⟨W3,hW3⟩:∃x,x=W2.alloc (Obj.cells (rowB T0 L) 4):=⟨_,rfl⟩;rw [<-hW3];obtain ⟨W4,hW4⟩:∃x,x=W3.alloc (Obj.cells (rowT (fun _=>0) L) 3):=⟨_,rfl⟩;rw [<-hW4];have D:=RuS.start (L:=L) HA.out.2.2.1 HA.out.2.2.2.1 HA.out.2.2.2.2 (by rw [hW0,HN.out.1,HN.out.2.1,HN.out.2.2]) hW1 hW2 hW3 hW4;obtain ⟨p,hp⟩:∃x,x=w.heap.size:=⟨_,rfl⟩;obtain ⟨r6,hr6⟩:∃x,x=p+1:=⟨_,rfl⟩;obtain ⟨rb,hrb⟩:∃x,x=r6+1:=⟨_,rfl⟩;obtain ⟨fb,hfb⟩:∃x,x=rb+1:=⟨_,rfl⟩;obtain ⟨tb,htb⟩:∃x,x=fb+1:=⟨_,rfl⟩;rw [<-hp,<-hr6,<-hrb,<-hfb,<-htb] at D ⊢;have H4:=hiD D;clear D hW0 hW1 hW2 hW3 hW4 hp hr6 hrb hfb htb hmR hmB hmT
 go_wp2_with fail
 go_loopw [13] (fun i wr=>∃t:Nat,t<=Lo/\i=.int .i64 (t:Int)/\Hid (RuS w p r6 rb fb tb L (runO (atM ms) (ord.take t) a).1 (toldO (runO (atM ms) (ord.take t) a).2) (turnTo ord t) wr)) (fun i _=>Lo - (intOf i).toNat)
 case atStart=>exact ⟨0,Nat.zero_le _,rfl,hiD H4.out⟩
 case round=>
  obtain ⟨t,ht,rfl,HK⟩:=hrel
  by_cases hlt:t<Lo
  ·have hti:(t:Int)<Lo:=by omega
   have ht1:t<ord.length:=by have:=HO.out.1;omega
   obtain ⟨q,hq⟩:∃q,q=ord[t]:=⟨_,rfl⟩;have hqL:q<L:=HO.out.2.2.1 q (by rw [hq];exact List.getElem_mem ht1);obtain ⟨og,oo,hOe,hog,hof⟩:=HO.out.2.1 (by rintro rfl;simp at ht1);subst hOe;have oc0:=(HK.out.below.cell (p:=⟨og,oo+t,none⟩) hog).trans (hof t ht1);rw [<-hq] at oc0;have hk1:q<l.length:=by have:=HC.out.1;omega
   obtain ⟨cb,co,hAe,hcb,hf⟩:=HC.out.2 (by rintro rfl;simp at hk1);obtain ⟨hfc,hfo⟩:=hf q hk1;subst hAe;obtain ⟨x,hx⟩:∃x,x=l[q]:=⟨_,rfl⟩;rw [<-hx] at hfc hfo;have hxm:atM ms q=x.m:=by rw [atM_get (by have:=HMS.out.2;omega),hx];simp [HMS.out.1]
   have hsn:=runO_snoc (atM ms) q (ord.take t) a (by rw [hq];exact nodup_fresh HO.out.2.2.2 ht1);rw [show ord.take t++[q]=ord.take (t+1) by rw [hq,List.take_succ_eq_append_getElem ht1],hxm] at hsn;have htu:=turnTo_succ HO.out.2.2.2 ht1;rw [<-hq] at htu;obtain ⟨at_,hat⟩:∃b,b=(runO (atM ms) (ord.take t) a).1:=⟨_,rfl⟩;obtain ⟨T,hT⟩:∃b,b=toldO (runO (atM ms) (ord.take t) a).2:=⟨_,rfl⟩;have F0:=HK.out;rw [<-hat,<-hT] at F0 hsn
   have hlim:LimAn 400 at_:=by
    rw [hat,runO_one];refine (oneO_lim HA.out.1 _ (by simp;omega) fun m hm=>?_).more (by simp;omega);obtain ⟨j,hj,rfl⟩:=List.mem_map.1 hm;have hjL:=HO.out.2.2.1 j (List.mem_of_mem_take hj);have hjl:j<l.length:=by have:=HC.out.1;omega
    rw [atM_get (by have:=HMS.out.2;omega)];have hjm:(ms[j]'(by have:=HMS.out.2;omega))=(l[j]).m:=by simp [HMS.out.1]
    rw [hjm];exact ⟨(hf j hjl).2.cl,(hf j hjl).2.sq⟩
   have hsrt:SortedA at_:=by rw [hat,runO_one];exact HA.out.2.1.one _
   obtain ⟨B1,d1,B2,d2,e1,e2,e3,e4⟩:=F0.ex;obtain ⟨o1,o2,o3,o4,o5,o6⟩:=F0.ord
   have hcall:∀W:World,(∀g,g<wr.heap.size->g≠p->g≠rb->g≠fb->W.heap[g]?=wr.heap[g]?)->Below w.heap.size wr.drew W->wr.heap.size<=W.heap.size->Calls Tryz.prog 23 #[.agg #[.slice B1 at_.ps.length d1,.slice B2 at_.ss.length d2,.int .u64 (at_.n:Int)],x.val] W fun e W'=>∃v',e=.returned (.tuple #[v',.agg #[.int .u8 ((doA at_ x.m).2.1.1:Int),.string (doA at_ x.m).2.1.2],.bool (doA at_ x.m).2.2])/\AppV W' v' (doA at_ x.m).1/\Below W.heap.size W W':=fun W h1 h2 h3=>by
    have h5:AppV wr (.agg #[.slice B1 at_.ps.length d1,.slice B2 at_.ss.length d2,.int .u64 (at_.n:Int)]) at_:=⟨B1,d1,B2,d2,rfl,e2,e3,e4⟩;obtain ⟨C1,f1,C2,f2,hv,g2,g3,g4⟩:=h5.blocks (W:=W) fun b hb ⟨_,hk⟩=>h1 b hb (neA e1 hk) (neR F0.rep (rowR_row _ _) hk) (neB F0.fre (rowB_row _ _) hk)
    cases hv
    exact refDoX_lim B1 B2 d1 d2 at_ x W hlim (by omega) hsrt g2 g3 g4 (hfo.below (F0.below.drew.trans h2))
   have hxc:∀i u,x.cells[i]?=some u->wr.cell? ⟨cb,co+q*7+i,none⟩=some u:=fun i u hu=>(F0.below.cell (p:=⟨cb,co+q*7+i,none⟩) hcb).trans (hfc i u hu)
   have HQ:=hiD hq;have HG:=hiD (aI hsn (aI htu F0));have HAT:=hiD (aI hat hT);clear hq hsn htu hat hT hx hxm hlim hsrt hfc hfo hf hof HK;go_upto_region 8 with (fail)
   refine rxru p rb fb q cb co L c L L B1 at_.ps.length d1 B2 at_.ss.length d2 at_.n w.heap.size x (doA at_ x.m).2.1.1 (doA at_ x.m).2.1.2 (doA at_ x.m).2.2 (doA at_ x.m).1 (rowR T L) (rowB T L) _ wr _ rfl rfl rfl rfl rfl rfl hqL (rowR_size _ _) (rowB_size _ _) (rowR_row _ _) (rowB_row _ _) (by omega) (by omega) (by omega) F0.below.size (by omega) (by omega) (by omega) (by omega) (by omega) (by omega) (by omega) (by omega) (by omega) (by omega) hxc hcall ⟨fun _ _ _ _ _=>rfl,nLr _,Below.refl _ _,fun _=>e1,fun h=>(by cases h),fun h=>(by cases h),fun _=>F0.rep,fun h=>(by cases h),fun _=>F0.fre,fun h=>(by cases h)⟩ ?_;intro u W9 hws;obtain ⟨w1,w2,w3,_,w5,w6,_,w8,_,w10⟩:=hws;obtain ⟨v',hu,hAV⟩:=w5 rfl;obtain ⟨C1,f1,C2,f2,hv,hc9⟩:=w6 rfl;subst hu;have hv':v'=.agg #[.slice C1 (doA at_ x.m).1.ps.length f1,.slice C2 (doA at_ x.m).1.ss.length f2,.int .u64 ((doA at_ x.m).1.n:Int)]:=hv;obtain ⟨G1,g1,G2,g2,hv2,hle,hP9,hE9⟩:=hAV;rw [hv'] at hv2
   cases hv2
   have k8:=w8 rfl;have k10:=w10 rfl;rw [rowR_set T hqL _ _ (doA at_ x.m).2.2] at k8;rw [rowB_set T hqL (doA at_ x.m).2.1 _] at k10;have F9:RuS w p r6 rb fb tb L (doA at_ x.m).1 (updT T q (doA at_ x.m).2) (turnTo ord t) W9:=⟨⟨C1,f1,C2,f2,hc9,hle,hP9,hE9⟩,(w1 r6 (by show r6<wr.heap.size;omega) (by omega) (by omega) (by omega)).trans F0.res,k8,k10,(w1 tb o6 (by omega) (by omega) (by omega)).trans F0.tur,F0.below.drew.trans w3,o1,o2,o3,o4,o5,nLl o6 w2⟩;have y0:W9.cell? ⟨tb,q,none⟩=some (.int .i64 (turnTo ord t q:Int)):=by rw [blk_cell F9.tur,rowT_get,if_pos hqL]
   have z0:=blk_frozen F9.tur q;have H9:=hiD F9;have hqi:(q:Int)<L:=by omega
   clear w1 w2 w3 w5 w6 w8 w10 hv hv' hc9 hle hP9 hE9 k8 k10 F9 F0 hcall hxc e1 e2 e3 e4 oc0 hog hcb o1 o2 o3 o4 o5 o6;simp only [puts,List.foldl_cons,List.foldl_nil,Act.put,List.setIfInBounds_toArray,List.set_cons_succ,List.set_cons_zero];go_wp2;have hD:=H9.out;obtain ⟨o1,o2,o3,o4,o5,o6⟩:=hD.ord;have hsc:∀{g:Nat},g≠tb->(W9.setCell ⟨tb,q,none⟩ (.int .i64 (t:Int))).heap[g]?=W9.heap[g]?:=fun h=>Below.heap_setCell _ _ _ _ h
   obtain ⟨C1,f1,C2,f2,g1,g2,g3,g4⟩:=hD.ex;have h5:AppV W9 (.agg #[.slice C1 (doA at_ x.m).1.ps.length f1,.slice C2 (doA at_ x.m).1.ss.length f2,.int .u64 ((doA at_ x.m).1.n:Int)]) (doA at_ x.m).1:=⟨C1,f1,C2,f2,rfl,g2,g3,g4⟩;obtain ⟨K1,k1,K2,k2,hv,j2,j3,j4⟩:=h5.blocks (W:=W9.setCell ⟨tb,q,none⟩ (.int .i64 (t:Int))) fun b _ ⟨_,hk⟩=>hsc (neT hD.tur hk)
   cases hv
   have htr:=blk_set hD.tur q (.int .i64 (t:Int));rw [rowT_set (turnTo ord t) hqL t,<-HG.out.2.1] at htr;refine ⟨⟨t+1,by omega,by congr 1,hiD ?_⟩,by simp only [intOf];omega⟩;rw [HG.out.1.1,HG.out.1.2];exact ⟨⟨C1,f1,C2,f2,(hsc (by omega)).trans g1,j2,j3,j4⟩,(hsc (by omega)).trans hD.res,(hsc (by omega)).trans hD.rep,(hsc (by omega)).trans hD.fre,htr,hD.below.setCell (p:=⟨tb,q,none⟩) (by show w.heap.size<=tb;omega) _,o1,o2,o3,o4,o5,by simpa using o6⟩
  ·have hti:¬(t:Int)<Lo:=by omega
   have F0:=HK.out;have htL:t=ord.length:=by have:=HO.out.1;omega
   rw [htL,List.take_of_length_le (nLr _),<-HO.out.1] at F0;obtain ⟨b',hb'⟩:∃b,b=(runO (atM ms) ord a).1:=⟨_,rfl⟩;rw [<-hb'] at F0;obtain ⟨B1,d1,B2,d2,e1,e2,e3,e4⟩:=F0.ex;obtain ⟨y0,y1,y2⟩:=e1.cells;obtain ⟨x0,x1,x2⟩:=F0.res.cells;have z0:=blk_frozen F0.res 0;have z1:=blk_frozen F0.res 1;have z2:=blk_frozen F0.res 2;have HF:=hiD F0;have HE:=hiD (aI e1 (aI e2 (aI e3 e4)));have HB:=hiD hb';clear F0 htL hb' e1 e2 e3 e4 HK;go_wp2;have hD:=HF.out;obtain ⟨o1,o2,o3,o4,o5,o6⟩:=hD.ord;have k9:AppC (setA wr r6 B1 b'.ps.length d1 B2 b'.ss.length d2 b'.n) r6 B1 b'.ps.length d1 B2 b'.ss.length d2 b'.n:=hD.res.set;have hsc:∀{g:Nat},g≠r6->(setA wr r6 B1 b'.ps.length d1 B2 b'.ss.length d2 b'.n).heap[g]?=wr.heap[g]?:=fun h=>setA_heap _ _ h
   have ho:w.heap.size<=r6:=by omega
   have b9:Below w.heap.size w (setA wr r6 B1 b'.ps.length d1 B2 b'.ss.length d2 b'.n):=((hD.below.setCell (p:=⟨r6,0,none⟩) ho _).setCell (p:=⟨r6,1,none⟩) ho _).setCell (p:=⟨r6,2,none⟩) ho _;have h5:AppV wr (.agg #[.slice B1 b'.ps.length d1,.slice B2 b'.ss.length d2,.int .u64 (b'.n:Int)]) b':=⟨B1,d1,B2,d2,rfl,HE.out.2.1,HE.out.2.2.1,HE.out.2.2.2⟩;have h6:=h5.blocks (W:=setA wr r6 B1 b'.ps.length d1 B2 b'.ss.length d2 b'.n) fun b _ ⟨_,hk⟩=>hsc (neA hD.res hk)
   have r1:=(hsc (show rb≠r6 by omega)).trans hD.rep;have r2:=(hsc (show fb≠r6 by omega)).trans hD.fre;have r3:=(hsc (show tb≠r6 by omega)).trans hD.tur;obtain ⟨W9,hW9⟩:∃W9,W9=setA wr r6 B1 b'.ps.length d1 B2 b'.ss.length d2 b'.n:=⟨_,rfl⟩;rw [<-hW9] at k9 b9 h6 r1 r2 r3;unfold setA at hW9;rw [<-hW9];obtain ⟨t0,t1,t2⟩:=k9.cells;rw [<-HB.out];exact bodyPost_ret (v:=.tuple #[.agg #[.slice B1 b'.ps.length d1,.slice B2 b'.ss.length d2,.int .u64 (b'.n:Int)],.slice (some ⟨rb,0,none⟩) L L,.slice (some ⟨fb,0,none⟩) L L,.slice (some ⟨tb,0,none⟩) L L]) (by simp [results,Tryz.results10,go_sem,t0,t1,t2]) rfl ⟨_,rb,fb,tb,rfl,h6,r1,r2,r3,b9⟩
end Go.Proofs.YtfjmdkhemnmkpaaGreatDoor
