/- Parts of the proof: MKvA0, MKvA, RefU, RefT. -/
import Derived.Test.YtfjmdkhemnmkpaaGreatDoorR02
import Derived.Deep.DeepCutAuto
import Derived.Maps.AppendAt
import Derived.IntWalk
import Derived.Test.YtfjmdkhemnmkpaaGreatDoorR03
import Derived.Deep.DeepFit
set_option maxRecDepth 100000
set_option maxHeartbeats 8000000
namespace Go.Proofs.YtfjmdkhemnmkpaaGreatDoor
open Go.RowKit
theorem infoP:(Tryz.prog.info? 116).map (fun i=>(i.zero,i.size,i.bytes))=some (some (.agg #[.string ⟨#[]⟩,.string ⟨#[]⟩]),2,32):=by kernel_rfl
theorem infoP_parts:∃i,Tryz.prog.info? 116=some i/\i.zero=some (.agg #[.string ⟨#[]⟩,.string ⟨#[]⟩])/\i.size=2/\i.bytes=32:=by
 have h:=infoP
 cases hi:Tryz.prog.info? 116 with
 |none=>rw [hi] at h;cases h
 |some i=>rw [hi] at h;simp at h;exact ⟨i,rfl,h.1,h.2.1,h.2.2⟩
def OwnP (base:Nat) (w:World) (v:Value) (l:List PV):Prop:=w.ownsRow base 116 2 v l.length (cellsP l)
theorem OwnP.form {base:Nat} {w:World} {v:Value} {l:List PV} (h:OwnP base w v l):∃A c,v=.slice A l.length c/\l.length<=c:=by
 rcases h.2 with ⟨rfl,h0⟩|⟨g,cap,cur,rfl,_,_,hn,_⟩
 ·exact ⟨none,0,by rw [h0],by omega⟩
 ·exact ⟨_,_,rfl,hn⟩
theorem OwnP.below {base:Nat} {w w':World} {v:Value} {l:List PV} (h:OwnP base w v l) (hb:Below w.heap.size w w'):OwnP base w' v l:=by
 refine World.ownsRow.kept h (grownBy_of_below (r:=none) hb) ?_
 cases v.ownBlock with
 |none=>exact .inl rfl
 |some x=>exact .inr (by simp)
theorem OwnP.has {base:Nat} {w:World} {A:Option Addr} {n c:Nat} {l:List PV} (h:OwnP base w (.slice A n c) l):HasP w A l:=fun hl=>by
 have hl':0<l.length:=List.length_pos_iff.2 hl
 rcases h.2 with ⟨e,h0⟩|⟨g,cap,cur,e,_,hg,hn,_⟩
 ·omega
 ·cases e
  refine ⟨g,0,rfl,(geS.1 hg).1,fun j hj=>?_⟩;have c0:=World.ownsRow.cells h (g:=g) rfl (j*2) _ (cellsP_get l j hj).1;have c1:=World.ownsRow.cells h (g:=g) rfl (j*2+1) _ (cellsP_get l j hj).2;rw [addr_add] at c0 c1;exact ⟨c0,by rw [Nat.add_assoc];exact c1⟩
theorem OwnP.nil (base:Nat) (w:World):OwnP base w (.slice none 0 0) []:=World.ownsRow_nil _ _ _ _
theorem wpList_append_P {ops:Array Oper} {rest:List Oper} {o:Oper} {a:Act} {w:World} {Q:Exit->Act->World->Prop} (hgd:o.guard=none) (s x:Operand)
 (ho:o.op=.call {callee:=.builtin .append,args:=#[s,x],argTypes:=#[28,28]}) (base:Nat) (v:Value) (l:List PV) (hs:a.eval s=v) (hown:OwnP base w v l)
 (A:Option Addr) (m c:Nat) (l2:List PV) (hx:a.eval x=.slice A m c) (hm:m=l2.length) (hA:HasP w A l2) (hlen:l.length+m<=1000000) (hbase:base<=w.heap.size)
 (h:∀v' w',OwnP base w' v' (l++l2)->w.grownBy w' v.ownBlock->wpList Tryz.prog ops Q rest (a.put o.dst v') w'):wpList Tryz.prog ops Q (o::rest) a w:=by
 obtain ⟨i,hi,hz,hsz,hby⟩:=infoP_parts
 by_cases h0:l2=[]
 ·subst h0;obtain rfl:m=0:=hm;refine wpList_plain hgd fun K hK=>?_
  have hrun:(Builtin.append_ #[28,28] o.type #[v,.slice A 0 c]).run Tryz.prog w=.ok v w:=by
   have hfc:∀k,(Builtin.firstCells 2 0 (.slice A 0 k)).run Tryz.prog w=.ok #[] w:=fun k=>by
    cases A<;>simp [Builtin.firstCells,loadCells,loadCellsFrom]
   rcases hown.2 with ⟨rfl,_⟩|⟨g,cap,cur,rfl,_,hg,hnc,_⟩
   ·simp [Builtin.append_,run_underlying Tryz.underlying28,sizeOf,typeInfo,hi,Builtin.lenOf,hsz,hfc]
   ·simp [Builtin.append_,run_underlying Tryz.underlying28,sizeOf,typeInfo,hi,Builtin.lenOf,hsz,hfc,hnc,storeCells]
  unfold Oper.wp execOp;simp only [ho,resolve,invoke,builtin,Sem.run_bind,Sem.run_pure,Result.andThen_ok,List.map_toArray,List.map_cons,List.map_nil,hs,hx,hrun];exact hK _ _ (h v w (by rw [List.append_nil];exact hown) ⟨rfl,rfl,rfl,nLr _,fun _ _ _=>rfl⟩)
 ·obtain ⟨b,o',rfl,hb,hc⟩:=hA h0;refine wpList_append_own_at w hgd s x 28 ho base 116 i _ 2 32 Tryz.underlying28 hi hz hsz hby rfl (by omega) v l.length (cellsP l) hs hown ⟨b,o',none⟩ m c (cellsP l2) hx (by rw [cellsP_len,hm]) (fun j u hj=>?_) (cellsP_one l2) (by simp only [maxLen];omega) (by omega) hbase ?_
  ·have hjl:j<l2.length*2:=by rw [<-cellsP_len];exact (List.getElem?_eq_some_iff.1 hj).1
   rw [addr_add]
   rcases Nat.mod_two_eq_zero_or_one j with h2|h2
   ·have e:j=j/2*2:=by omega
    have hc':=hc (j/2) (by omega);have hg:=cellsP_get l2 (j/2) (by omega);rw [e,hg.1] at hj;rw [e,<-hj];exact hc'.1
   ·have e:j=j/2*2+1:=by omega
    have hc':=hc (j/2) (by omega);have hg:=cellsP_get l2 (j/2) (by omega);rw [e,hg.2] at hj;rw [e,<-hj,<-Nat.add_assoc];exact hc'.2
  ·intro v' w' h1 h2 _ _;refine h v' w' ?_ h2;unfold OwnP;rw [cellsP_append,List.length_append,<-hm];exact h1
theorem hasP_one {w:World} (p:PV):HasP (w.alloc (.cells #[.string p.1,.string p.2] 116)) (some ⟨w.heap.size,0,none⟩) [p]:=fun _=>by
 have h:=wAh w (.cells #[.string p.1,.string p.2] 116);refine ⟨w.heap.size,0,rfl,(geS.1 h).1,fun j hj=>?_⟩;obtain rfl:j=0:=by simpa using hj
 exact ⟨by rw [blk_cell h];rfl,by rw [blk_cell h];rfl⟩
theorem Without_any (A:Option Addr) (L c:Nat) (l:List PV) (k:ByteArray) (w:World) (hL:L=l.length) (hLm:L<=100000) (hA:HasP w A l):
 Calls Tryz.prog 70 #[.slice A L c,.string k] w fun e W'=>∃v,e=.returned v/\OwnP w.heap.size W' v (withoutP l k)/\Below w.heap.size w W':=by
 have HL:=hiD hL;have HA:=hiD hA;have hLi:(L:Int)<=100000:=by omega
 clear hL hA;go_enter Tryz.func70,Tryz.ntmps70;go_wp2
 go_loopw [5,6] (fun s5 i wr=>∃j:Nat,∃A5 c5 M,j<=L/\i=.int .i64 (j:Int)/\s5=.slice A5 M c5/\M<=j/\Hid (M=(withoutP (l.take j) k).length)/\Hid (OwnP w.heap.size wr (.slice A5 M c5) (withoutP (l.take j) k))/\Hid (Below w.heap.size w wr)) (fun _ i _=>L - (intOf i).toNat)
 case atStart=>exact ⟨0,none,0,0,Nat.zero_le _,rfl,rfl,nLr _,hiD rfl,hiD (OwnP.nil _ _),hiD (Below.refl _ _)⟩
 case round=>
  obtain ⟨j,A5,c5,M,hj,rfl,rfl,hMj,HM,HO,HB⟩:=hrel
  by_cases hlt:j<L
  ·have hji:(j:Int)<L:=by omega
   have hj1:j<l.length:=by have:=HL.out;omega
   obtain ⟨b,o,e1,l1,f1⟩:=HA.out (by rintro rfl;simp at hj1);subst e1;obtain ⟨t,ht⟩:∃t,t=l[j].1:=⟨_,rfl⟩;obtain ⟨u,hu⟩:∃u,u=l[j].2:=⟨_,rfl⟩;have g1:=(HB.out.cell (p:=⟨b,o+j*2,none⟩) l1).trans (f1 j hj1).1;have g2:=(HB.out.cell (p:=⟨b,o+j*2+1,none⟩) l1).trans (f1 j hj1).2;rw [<-ht] at g1;rw [<-hu] at g2;have HT:=hiD (aI ht hu);have hsucc:=withoutP_succ (k:=k) hj1;have HS:=hiD hsucc;clear ht hu f1 hsucc
   by_cases he:t=k
   ·subst he;have hneb:(t.toList !=t.toList)=false:=by simp
    go_wp2
    all_goals
     refine ⟨⟨j+1,A5,c5,M,by omega,by congr 1,rfl,by omega,hiD ?_,hiD ?_,HB⟩,by simp only [intOf];omega⟩
     ·rw [HS.out,if_neg (by rw [<-HT.out.1];simp),List.append_nil];exact HM.out
     ·rw [HS.out,if_neg (by rw [<-HT.out.1];simp),List.append_nil];exact HO.out
   ·have hne:¬t.toList=k.toList:=fun h=>he (toList_inj9.1 h)
    have hneb:(t.toList !=k.toList)=true:=by simpa using hne
    have HP:=hiD (hasP_one (w:=wr) (t,u));have hbn:Below wr.heap.size wr (wr.alloc (.cells #[.string t,.string u] 116)):=(Below.refl _ wr).alloc (nLr _) _;have HBN:=hiD hbn;clear hbn
    go_wp2_with (first|(at_builtin;refine wpList_append_P rfl (.tmp 20) (.tmp 25) rfl w.heap.size (.slice A5 M c5) (withoutP (l.take j) k) rfl (HO.out.below HBN.out) (some ⟨wr.heap.size,0,none⟩) 1 1 [(t,u)] rfl rfl HP.out (by rw [<-HM.out];omega) (nLt HB.out.size (by simp)) ?_;intro v6 U6 hown6 hg6;have hb6:Below w.heap.size w U6:=(HB.out.trans (Below.mono HBN.out HB.out.size)).grown hg6 (nLt HB.out.size (by simp)) (fun x e=>(World.ownsRow.lt HO.out x e).1);obtain ⟨A6,c6,rfl,_⟩:=hown6.form;have O6:=hiD hown6;have B6:=hiD hb6;clear hown6 hg6 hb6)|fail)
    ·have hlen6:(withoutP (l.take j) k++[(t,u)]).length=M+1:=by rw [List.length_append,<-HM.out];rfl
     have hsu:withoutP (l.take (j+1)) k=withoutP (l.take j) k++[(t,u)]:=by rw [HS.out,if_pos (by rw [<-HT.out.1];exact he),HT.out.1,HT.out.2]
     have HSU:=hiD hsu;have HL6:=hiD hlen6;clear hsu hlen6;refine ⟨⟨j+1,A6,c6,M+1,by omega,by congr 1,by rw [<-HM.out],by omega,hiD ?_,hiD ?_,B6⟩,by simp only [intOf];omega⟩
     ·rw [HSU.out,HL6.out]
     ·rw [HSU.out,<-HL6.out];exact O6.out
    ·rename_i hx
     exact absurd (by simpa using hx) hne
  ·have hji:¬(j:Int)<L:=by omega
   obtain rfl:j=L:=by omega
   go_wp2;go_ret;refine ⟨_,rfl,?_,HB.out⟩;have h:=HO.out;rw [HL.out,List.take_length] at h;exact h
theorem OwnP.mono {b b':Nat} {w:World} {v:Value} {l:List PV} (h:OwnP b w v l) (hb:b'<=b):OwnP b' w v l:=by
 refine ⟨h.1,?_⟩
 rcases h.2 with h2|⟨g,cap,cur,e,h1,h2⟩
 ·exact .inl h2
 ·exact .inr ⟨g,cap,cur,e,nLt hb h1,h2⟩
theorem run_fromP (A:Option Addr) (L c n:Nat) (h1:n<=L) (h2:L<=c) (_hc:L<=1000000000):∃A',(∀w:World,(Instr.sliceAt 28 (.slice A L c) (some (.int .i64 (n:Int))) none none).run Tryz.prog w=.ok (.slice A' (L - n) (c - n)) w)/\∀b o,A=some ⟨b,o,none⟩->n<L->A'=some ⟨b,o+n*2,none⟩:=by
 have e1:(0:Int)<=(n:Int):=by omega
 have e2:(n:Int)<=(L:Int):=by omega
 have e3:(L:Int)<=(c:Int):=by omega
 cases A with
 |none=>
  refine ⟨none,fun w=>?_,fun _ _ e=>by cases e⟩;simp [go_sem,e1,e2]
 |some a=>
  by_cases hcn:c=n
  ·refine ⟨some a,fun w=>?_,fun b o e h=>by omega⟩;simp [go_sem,e1,e2,hcn]
  ·refine ⟨some (a.add (n*2)),fun w=>?_,fun b o e _=>by cases e;exact congrArg some (addr_add b o (n*2))⟩;simp [go_sem,e1,e2,hcn]
theorem With_any (A:Option Addr) (L c:Nat) (l:List PV) (k v:ByteArray) (w:World) (hL:L=l.length) (hLm:L<=100000) (hA:HasP w A l):
 Calls Tryz.prog 69 #[.slice A L c,.string k,.string v] w fun e W'=>∃x,e=.returned x/\OwnP w.heap.size W' x (withP l k v)/\Below w.heap.size w W':=by
 have HL:=hiD hL;have HA:=hiD hA;clear hL hA;go_enter Tryz.func69,Tryz.ntmps69
 go_wp2_with fail
 refine (Without_any A L c l k w HL.out hLm HA.out).mono ?_;rintro e W1 ⟨vr,rfl,ho,hb⟩;obtain ⟨r,hr⟩:∃r,r=withoutP l k:=⟨_,rfl⟩;rw [<-hr] at ho;have hrl:r.length<=100000:=by have:=withoutP_len l k;rw [<-hr] at this;have:=HL.out;omega
 obtain ⟨Ar,cr,rfl,hrc⟩:=ho.form;obtain ⟨M,hM⟩:∃M,M=r.length:=⟨_,rfl⟩;rw [<-hM] at ho hrl hrc ⊢;have HR:=hiD (aI hr hM);have HO:=hiD ho;have HB:=hiD hb;have HP:=hiD ho.has;have hMi:(M:Int)<=100000:=by omega
 have hMc:(M:Int)<=cr:=by omega
 clear ho hb hr hM;go_wp2
 go_loopw [8] (fun i wr=>wr=W1/\∃j:Nat,j<=M/\i=.int .i64 (j:Int)/\Hid (∀x (h1:x<r.length),x<j->ltB r[x].1 k=true)) (fun i _=>M - (intOf i).toNat)
 case atStart=>exact ⟨rfl,0,Nat.zero_le _,rfl,hiD (fun x _ h=>by omega)⟩
 case round=>
  obtain ⟨rfl,j,hj,rfl,HJ⟩:=hrel
  by_cases hlt:j<M
  ·have hji:(j:Int)<M:=by omega
   have hj1:j<r.length:=by have:=HR.out.2;omega
   obtain ⟨b,o,e1,l1,f1⟩:=HP.out (by rintro rfl;simp at hj1);subst e1;obtain ⟨t,ht⟩:∃t,t=r[j].1:=⟨_,rfl⟩;have g1:=(f1 j hj1).1;rw [<-ht] at g1;have HT:=hiD ht;clear ht f1
   cases hc:ltB t k with
   |true=>
    have hcb:Op.bytesLess t.toList k.toList=true:=hc;go_wp2;refine ⟨⟨trivial,j+1,by omega,by congr 1,hiD (fun x h1 h2=>?_)⟩,by simp only [intOf];omega⟩
    by_cases hx:x<j
    ·exact HJ.out x h1 hx
    ·obtain rfl:x=j:=by omega
     rw [<-HT.out];exact hc
   |false=>
    have hcb:Op.bytesLess t.toList k.toList=false:=hc;have HPL:=hiD (placeP_is (r:=r) (k:=k) (n:=j) (by omega) HJ.out (fun h=>by rw [<-HT.out];exact hc));have hji2:(j:Int)<=M:=by omega
    have hjc:(j:Int)<=cr:=by omega
    have hjm:j<=100000:=by omega
    obtain ⟨A7,hfr,hA7⟩:=run_fromP (some ⟨b,o,none⟩) M cr j (by omega) hrc (by omega);have HFD:=hiD (HP.out.drop (n:=j) (fun b o e h=>hA7 b o e (by have:=HR.out.2;omega)));have htl:j=(r.take j).length:=by rw [List.length_take];have:=HR.out.2;omega
    have hl5:(r.take j++[(k,v)]).length=j+1:=by rw [List.length_append,<-htl];rfl
    have HTL:=hiD (aI htl hl5);clear hA7 htl hl5
    go_wp2_with (first|(at_builtin;refine wpList_append_P rfl (.const (.slice none 0 0)) (.tmp 30) rfl wr.heap.size (.slice none 0 0) [] rfl (OwnP.nil _ _) (some ⟨b,o,none⟩) j cr (r.take j) rfl HTL.out.1 (HP.out.take j) (by show 0+j<=1000000;omega) (nLr _) ?_;intro v4 U4 hown4 hg4;rw [List.nil_append] at hown4;have hb4:Below wr.heap.size wr U4:=(Below.refl _ wr).grown hg4 (nLr _) (fun x e=>by cases e);obtain ⟨A4,c4,rfl,_⟩:=hown4.form;rw [<-HTL.out.1] at hown4 ⊢;have O4:=hiD hown4;have B4:=hiD hb4;clear hown4 hg4 hb4)|(at_builtin;refine wpList_append_P rfl (.tmp 32) (.tmp 36) rfl wr.heap.size (.slice A4 j c4) (r.take j) rfl (O4.out.below ((Below.refl U4.heap.size U4).alloc (nLr _) _)) (some ⟨U4.heap.size,0,none⟩) 1 1 [(k,v)] rfl rfl (hasP_one (w:=U4) (k,v)) (by rw [<-HTL.out.1];omega) (nLt B4.out.size (by simp)) ?_;intro v5 U5 hown5 hg5;have hb5:Below wr.heap.size wr U5:=(B4.out.trans (Below.mono ((Below.refl U4.heap.size U4).alloc (nLr _) _) B4.out.size)).grown hg5 (nLt B4.out.size (by simp)) (fun x e=>(World.ownsRow.lt O4.out x e).1);obtain ⟨A5,c5,rfl,_⟩:=hown5.form;rw [HTL.out.2] at hown5 ⊢;have O5:=hiD hown5;have B5:=hiD hb5;have H5:=hiD (HFD.out.below hb5);clear hown5 hg5 hb5)|(at_builtin;refine wpList_append_P rfl (.tmp 38) (.tmp 41) rfl wr.heap.size (.slice A5 (j+1) c5) (r.take j++[(k,v)]) rfl O5.out A7 (M - j) (cr - j) (r.drop j) rfl (by rw [List.length_drop,<-HR.out.2]) H5.out (by rw [HTL.out.2];omega) B5.out.size ?_;intro v6 U6 hown6 hg6;have hb6:Below wr.heap.size wr U6:=B5.out.grown hg6 B5.out.size (fun x e=>(World.ownsRow.lt O5.out x e).1);obtain ⟨A6,c6,rfl,_⟩:=hown6.form;obtain ⟨n6,hn6⟩:∃n6,n6=(r.take j++[(k,v)]++r.drop j).length:=⟨_,rfl⟩;rw [<-hn6] at hown6 ⊢;have O6:=hiD hown6;have B6:=hiD hb6;clear hn6 hown6 hg6 hb6)|fail)
    all_goals
     go_ret;refine ⟨_,rfl,?_,HB.out.trans (Below.mono B6.out HB.out.size)⟩;have h:=O6.out;unfold withP;rw [<-HR.out.1,HPL.out];rw [List.append_assoc] at h;exact h.mono HB.out.size
  ·have hji:¬(j:Int)<M:=by omega
   obtain rfl:j=M:=by omega
   have HPL:=hiD (placeP_is (r:=r) (k:=k) (n:=j) (by have:=HR.out.2;omega) HJ.out (fun h=>by have:=HR.out.2;omega));have hjc:(j:Int)<=cr:=by omega
   have hjm:j<=100000:=by omega
   obtain ⟨A7,hfr,hA7⟩:=run_fromP Ar j cr j (by omega) hrc (by omega);have HFD:=hiD (HP.out.drop (n:=j) (fun b o e h=>hA7 b o e (by have:=HR.out.2;omega)));have htl:j=(r.take j).length:=by rw [List.length_take];have:=HR.out.2;omega
   have hl5:(r.take j++[(k,v)]).length=j+1:=by rw [List.length_append,<-htl];rfl
   have HTL:=hiD (aI htl hl5);clear hA7 htl hl5
   go_wp2_with (first|(at_builtin;refine wpList_append_P rfl (.const (.slice none 0 0)) (.tmp 30) rfl wr.heap.size (.slice none 0 0) [] rfl (OwnP.nil _ _) Ar j cr (r.take j) rfl HTL.out.1 (HP.out.take j) (by show 0+j<=1000000;omega) (nLr _) ?_;intro v4 U4 hown4 hg4;rw [List.nil_append] at hown4;have hb4:Below wr.heap.size wr U4:=(Below.refl _ wr).grown hg4 (nLr _) (fun x e=>by cases e);obtain ⟨A4,c4,rfl,_⟩:=hown4.form;rw [<-HTL.out.1] at hown4 ⊢;have O4:=hiD hown4;have B4:=hiD hb4;clear hown4 hg4 hb4)|(at_builtin;refine wpList_append_P rfl (.tmp 32) (.tmp 36) rfl wr.heap.size (.slice A4 j c4) (r.take j) rfl (O4.out.below ((Below.refl U4.heap.size U4).alloc (nLr _) _)) (some ⟨U4.heap.size,0,none⟩) 1 1 [(k,v)] rfl rfl (hasP_one (w:=U4) (k,v)) (by rw [<-HTL.out.1];omega) (nLt B4.out.size (by simp)) ?_;intro v5 U5 hown5 hg5;have hb5:Below wr.heap.size wr U5:=(B4.out.trans (Below.mono ((Below.refl U4.heap.size U4).alloc (nLr _) _) B4.out.size)).grown hg5 (nLt B4.out.size (by simp)) (fun x e=>(World.ownsRow.lt O4.out x e).1);obtain ⟨A5,c5,rfl,_⟩:=hown5.form;rw [HTL.out.2] at hown5 ⊢;have O5:=hiD hown5;have B5:=hiD hb5;have H5:=hiD (HFD.out.below hb5);clear hown5 hg5 hb5)|(at_builtin;refine wpList_append_P rfl (.tmp 38) (.tmp 41) rfl wr.heap.size (.slice A5 (j+1) c5) (r.take j++[(k,v)]) rfl O5.out A7 0 (cr - j) (r.drop j) rfl (by rw [List.length_drop,<-HR.out.2];omega) H5.out (by rw [HTL.out.2];omega) B5.out.size ?_;intro v6 U6 hown6 hg6;have hb6:Below wr.heap.size wr U6:=B5.out.grown hg6 B5.out.size (fun x e=>(World.ownsRow.lt O5.out x e).1);obtain ⟨A6,c6,rfl,_⟩:=hown6.form;obtain ⟨n6,hn6⟩:∃n6,n6=(r.take j++[(k,v)]++r.drop j).length:=⟨_,rfl⟩;rw [<-hn6] at hown6 ⊢;have O6:=hiD hown6;have B6:=hiD hb6;clear hn6 hown6 hg6 hb6)|fail)
   all_goals
    go_ret;refine ⟨_,rfl,?_,HB.out.trans (Below.mono B6.out HB.out.size)⟩;have h:=O6.out;unfold withP;rw [<-HR.out.1,HPL.out];rw [List.append_assoc] at h;exact h.mono HB.out.size
theorem run_quo10 (t:TypeId) (w:World) (n:Nat) (h:n<18446744073709551616):(binOp .quo t (.int .u64 (n:Int)) (.int .u64 10)).run Tryz.prog w=.ok (.int .u64 ((n/10:Nat):Int)) w:=by
 have e:=wrap_u64 (x:=(n:Int)/10) (by omega) (by omega);simp [go_sem,e]
theorem run_rem10 (t:TypeId) (w:World) (n:Nat):(binOp .rem t (.int .u64 (n:Int)) (.int .u64 10)).run Tryz.prog w=.ok (.int .u64 ((n%10:Nat):Int)) w:=by
 have e:(n:Int).tmod 10=(n:Int)%10:=Int.tmod_eq_emod_of_nonneg (by omega);simp [go_sem,e]
theorem run_add48 (t:TypeId) (w:World) (n:Nat) (h:n<=1000):(binOp .add t (.int .u64 48) (.int .u64 (n:Int))).run Tryz.prog w=.ok (.int .u64 ((48+n:Nat):Int)) w:=by
 have e:=wrap_u64 (x:=48+(n:Int)) (by omega) (by omega);simp [go_sem,e]
theorem run_cv85 (w:World) (n:Nat) (h:n<256):(convert 30 5 (.int .u64 (n:Int))).run Tryz.prog w=.ok (.int .u8 (n:Int)) w:=by
 have e:=wrap_u8 (x:=(n:Int)) (by omega) (by omega);simp [go_sem,e]
theorem run_bs9 (w:World) (x:Int):(Instr.buildSlice 48 1 #[(0,.int .u8 x)]).run Tryz.prog w=.ok (.slice (some ⟨w.heap.size,0,none⟩) 1 1) (w.alloc (.cells #[.int .u8 x] 5)):=by
 simp [go_sem,Instr.buildSlice]
theorem isB_nine (w:World) (n:Nat) (h:n<256):IsB (w.alloc (.cells #[.int .u8 (n:Int)] 5)) (.slice (some ⟨w.heap.size,0,none⟩) 1 1) [UInt8.ofNat n]:=by
 have h1:=wAh w (.cells #[.int .u8 (n:Int)] 5);refine ⟨_,1,1,rfl,rfl,fun _=>⟨w.heap.size,0,rfl,(geS.1 h1).1,fun j hj=>?_⟩⟩;obtain rfl:j=0:=by simpa using hj
 rw [blk_cell h1];simp only [List.getElem_cons_zero,enc_ofNat h]
 rfl
section
variable {n:Nat} {Q:Exit->Act->World->Prop} {ops:Array Oper} {i:Nat} {o:Oper} {a:Act} {w:World} {K:Act->World->Prop}
theorem step_bs9 {y:Operand} {x:Int} (hi:ops[i]?=some o) (hw:Region.wanted o (yielded ops a.tmps)=true) (ho:o.op=.buildSlice 48 1 #[(0,y)]) (hy:a.eval y=.int .u8 x) (h:K (a.put o.dst (.slice (some ⟨w.heap.size,0,none⟩) 1 1)) (w.alloc (.cells #[.int .u8 x] 5))):wpOpIn Fence.wide n Tryz.prog ops Q i K a w:=
 step_run hi hw (by rw [ho];intro c h;cases h) (by simp [Oper.about,ho]) (by
  have hb:=run_bs9 w x;simp [execOp,ho,hy,hb]) h
theorem step_callK {f:FuncId} {xs:Array Operand} {ts:Array TypeId} {vs:Array Value} (hi:ops[i]?=some o) (hw:Region.wanted o (yielded ops a.tmps)=true)
 (ho:o.op=.call {callee:=.value (.func f),args:=xs,argTypes:=ts}) (eg:∀args w,(callFunc f args).run Tryz.prog w=.ok (.enter f args) w) (hxs:xs.map a.eval=vs) (hc:Calls Tryz.prog f vs w fun e w'=>∃v,e=.returned v/\K (a.put o.dst v) w'):wpOpIn Fence.wide n Tryz.prog ops Q i K a w:=by
 refine step_call hi hw ho trivial (fun h=>by cases h) eg ?_;rw [hxs];exact callsIn_wide.2 hc
end
def oDG0 (p:String):Oper:={dst:=some 10,op:=Op.move (Operand.tmp 0),type:=30,pos:=p,after:=#[],guard:=none}
def oDG1 (p:String):Oper:={dst:=some 11,op:=Op.binOp BinOp.quo 30 (Operand.tmp 10) (Operand.const (Value.int IntKind.u64 10)) 30,type:=30,pos:=p,after:=#[{on:=0,ground:=Ground.data}],guard:=none}
def oDG3 (p:String):Oper:={dst:=some 13,op:=Op.move (Operand.tmp 0),type:=30,pos:=p,after:=#[],guard:=none}
def oDG4 (p:String):Oper:={dst:=some 14,op:=Op.binOp BinOp.rem 30 (Operand.tmp 13) (Operand.const (Value.int IntKind.u64 10)) 30,type:=30,pos:=p,after:=#[{on:=3,ground:=Ground.data}],guard:=none}
def oDG5 (p:String):Oper:={dst:=some 15,op:=Op.binOp BinOp.add 30 (Operand.const (Value.int IntKind.u64 48)) (Operand.tmp 14) 30,type:=30,pos:=p,after:=#[{on:=4,ground:=Ground.data}],guard:=none}
def oDG6 (p:String):Oper:={dst:=some 16,op:=Op.convert 30 5 (Operand.tmp 15),type:=5,pos:=p,after:=#[{on:=5,ground:=Ground.data}],guard:=none}
def oDG7 (p:String):Oper:={dst:=some 17,op:=Op.buildSlice 48 1 #[(0,Operand.tmp 16)],type:=48,pos:=p,after:=#[{on:=6,ground:=Ground.data}],guard:=none}
def oDG8 (p:String):Oper:={dst:=some 18,op:=Op.convert 48 9 (Operand.tmp 17),type:=9,pos:=p,after:=#[{on:=7,ground:=Ground.data}],guard:=none}
def oDG9 (p:String):Oper:={dst:=some 19,op:=Op.binOp BinOp.add 9 (Operand.tmp 12) (Operand.tmp 18) 9,type:=9,pos:=p,after:=#[{on:=2,ground:=Ground.data},{on:=8,ground:=Ground.data}],guard:=none}
def oDG10 (p:String):Oper:={dst:=some 2,op:=Op.assign (Operand.tmp 19),type:=9,pos:=p,after:=#[{on:=9,ground:=Ground.data},{on:=2,ground:=Ground.chain},{on:=0,ground:=Ground.phase},{on:=1,ground:=Ground.phase},{on:=2,ground:=Ground.phase},{on:=3,ground:=Ground.phase},{on:=4,ground:=Ground.phase},{on:=5,ground:=Ground.phase},{on:=6,ground:=Ground.phase},{on:=7,ground:=Ground.phase},{on:=8,ground:=Ground.phase},{on:=9,ground:=Ground.phase}],guard:=none}
theorem OwnP.lo {base n c:Nat} {w:World} {A:Option Addr} {l:List PV} (h:OwnP base w (.slice A n c) l) {b o:Nat} {m:Option Nat} (e:A=some ⟨b,o,m⟩):base<=b:=by
 rcases h.2 with ⟨e',_⟩|⟨g,cap,cur,e',hb,_⟩
 ·cases e';cases e
 ·cases e';cases e;exact hb
theorem OwnP.set {base q i:Nat} {W:World} {v a:Value} {l:List PV} (h:OwnP base W v l) (hq:q<base):OwnP base (W.setCell ⟨q,i,none⟩ a) v l:=by
 refine World.ownsRow.kept h (grownBy_set W q i a) ?_
 cases e:v.ownBlock with
 |none=>exact .inl rfl
 |some x=>
  have:=(World.ownsRow.lt h x e).1;exact .inr (by simp;omega)
theorem ref_Uint:∀(m:Nat),m<18446744073709551616->∀(w:World),
 Calls Tryz.prog 34 #[.int .u64 (m:Int)] w (Gives w (vb m)):=by
 obtain ⟨i0,hi,hz0,hz1,hz2⟩:=info_parts info5;intro m
 induction m using Nat.strongRecOn with
 |ind m ih=>
  intro hm w
  by_cases h:m<128
  ·have h':(m:Int)<128:=by omega
   go_enter Tryz.func34,Tryz.ntmps34;go_wp2;go_ret;have e:enc (UInt8.ofNat m)=.int .u8 (m:Int):=enc_ofNat (by omega);have ho:=ownsRow_new w w.heap.size 1 [UInt8.ofNat m] (nLr _) rfl (by omega);rw [List.map_cons,List.map_nil,e] at ho;rw [vb_lt h];refine ⟨w.heap.size,1,1,rfl,?_,(Below.refl _ _).alloc (nLr _) _⟩;rw [List.map_cons,List.map_nil,e];exact ho
  ·have h':¬(m:Int)<128:=by omega
   have hr:m/128<18446744073709551616:=by omega
   have IH:=hiD (ih (m/128) (by omega) hr);have ho:=ownsRow_new w w.heap.size 1 [UInt8.ofNat (m%128+128)] (nLr _) rfl (by omega);rw [List.map_cons,List.map_nil,enc_ofNat (by omega),show (((m%128+128:Nat):Int))=128+(m:Int)%128 by omega] at ho;have HO:=hiD ho;have hv:=vb_len10 hr;have hz:(vb (m/128)).length<=10:=hv;clear ih ho;go_enter Tryz.func34,Tryz.ntmps34
   go_wp2_with fail
   rw [show ((m:Int)/128)=((m/128:Nat):Int) by omega];refine (IH.out _).mono ?_;rintro e W1 ⟨g,L1,c1,rfl,hown1,hb1⟩
   have ho1:W1.ownsRow w.heap.size 5 1 (.slice (some ⟨w.heap.size,0,none⟩) 1 1) 1 ([UInt8.ofNat (m%128+128)].map enc):=by
    rw [List.map_cons,List.map_nil,enc_ofNat (by omega),show (((m%128+128:Nat):Int))=128+(m:Int)%128 by omega]
    rcases HO.out.2 with ⟨h,_⟩|⟨g',cap,cur,hv,hbg,hgg,r⟩
    ·cases h
    ·cases hv
     exact ⟨HO.out.1,.inr ⟨_,_,cur,rfl,hbg,(hb1.block _ (by simp)).trans hgg,r⟩⟩
   have H1:=hiD ho1;have HL:=hiD (own_len hown1);have hL1:L1<=10:=by have:=own_len hown1;omega
   have H2:=hiD (HasA.of_own hown1);have hbb:Below w.heap.size w W1:=((Below.refl _ _).alloc (nLr _) _).trans (hb1.mono (by simp));have H3:=hiD hbb;clear ho1 hown1 hb1 hbb
   go_wp2_with (at_builtin;refine wpList_append_has rfl (.tmp 12) (.tmp 15) 48 rfl w.heap.size 5 i0 Tryz.underlying48 hi hz0 hz1 hz2 _ 1 _ rfl H1.out W1.heap.size _ _ _ (vb (m/128)) rfl HL.out H2.out (by omega) H3.out.size ?_;intro v' W2 hown2 hg2)
   go_ret;have e2:[UInt8.ofNat (m%128+128)]++vb (m/128)=vb m:=by rw [vb_ge (n:=m) (by omega)];rfl
   rw [e2] at hown2;obtain ⟨g2,c2,rfl,_⟩:=hown2.form (by omega);exact ⟨g2,_,c2,rfl,hown2,H3.out.grown hg2 H3.out.size (fun k e=>by cases e;exact nLr _)⟩
theorem ref_Text (s:ByteArray) (hs:s.size<=1000000) (w:World):
 Calls Tryz.prog 36 #[.string s] w (Gives w (vb s.size++s.data.toList)):=by
 obtain ⟨i0,hi,hz0,hz1,hz2⟩:=info_parts info5;have hs':(s.size:Int)<=1000000:=by omega
 have hv:=vb_len10 (n:=s.size) (by omega);have hp:0<(vb s.size).length:=List.length_pos_iff.2 (vb_ne _);go_enter Tryz.func36,Tryz.ntmps36
 go_wp2_with fail
 refine (ref_Uint s.size (by omega) w).mono ?_;rintro e W1 ⟨g,L1,c1,rfl,hown1,hb1⟩;have hl1:L1<=1000010/\0<L1:=by have:=own_len hown1;omega
 have hl2:=hl1.1;have hl3:=hl1.2;have H1:=hiD hown1;have H3:=hiD hb1;clear hown1 hb1 hl1
 go_wp2_with (at_builtin;refine wpList_append_str rfl (.tmp 6) (.tmp 7) 48 9 rfl w.heap.size 5 i0 Tryz.underlying48 Tryz.underlying9 hi hz0 hz1 hz2 _ L1 _ rfl H1.out s rfl (by omega) H3.out.size ?_;intro v' W2 hown2 hg2)
 go_ret;obtain ⟨g2,c2,rfl,_⟩:=hown2.form (by omega);exact ⟨g2,_,c2,rfl,hown2,H3.out.grown hg2 H3.out.size (fun k e=>by cases e;exact (H1.out.lt g rfl).1)⟩
end Go.Proofs.YtfjmdkhemnmkpaaGreatDoor
