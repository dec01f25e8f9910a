/- Parts of the proof: MKvZ. -/
import Derived.Test.YtfjmdkhemnmkpaaGreatDoorR18
import Derived.Test.YtfjmdkhemnmkpaaGreatDoorR02
import Derived.Deep.DeepCutAuto
import Derived.IntWalk
import Derived.Test.YtfjmdkhemnmkpaaGreatDoorR03
import Derived.Deep.CutBlock
set_option maxRecDepth 100000
set_option maxHeartbeats 8000000
namespace Go.Proofs.YtfjmdkhemnmkpaaGreatDoor
open Go.RowKit
theorem Find_any (A:Option Addr) (L c:Nat) (l:List PV) (k:ByteArray) (w:World) (hL:L=l.length) (hLm:L<=1000000) (hA:HasP w A l):
 Calls Tryz.prog 68 #[.slice A L c,.string k] w fun e W'=>e=.returned (.int .i64 (findI l k))/\Below w.heap.size w W':=by
 have HL:=hiD hL;have HA:=hiD hA;have hLi:(L:Int)<=1000000:=by omega
 clear hL hA;go_enter Tryz.func68,Tryz.ntmps68;go_wp2
 go_loopw [5] (fun i wr=>wr=w/\∃j:Nat,j<=L/\i=.int .i64 (j:Int)/\Hid (∀x (h1:x<l.length),x<j->l[x].1≠k)) (fun i _=>L - (intOf i).toNat)
 case atStart=>exact ⟨rfl,0,Nat.zero_le _,rfl,hiD (fun x _ h=>by omega)⟩
 case round=>
  obtain ⟨rfl,j,hj,rfl,HB⟩:=hrel
  by_cases hlt:j<L
  ·have hji:(j:Int)<L:=by omega
   have hj1:j<l.length:=by have:=HL.out;omega
   obtain ⟨b,o,e1,l1,f1⟩:=HA.out (by rintro rfl;simp at hj1);subst e1;have g1:=(f1 j hj1).1;obtain ⟨t,ht⟩:∃t,t=l[j].1:=⟨_,rfl⟩;rw [<-ht] at g1;have HT:=hiD ht;clear ht f1
   by_cases he:t=k
   ·subst he;have HR:=hiD (findI_at hj1 HT.out.symm HB.out);go_wp2;go_ret;rw [HR.out];exact ⟨rfl,Below.refl _ _⟩
   ·have hne:¬t.toList=k.toList:=fun h=>he (toList_inj9.1 h)
    have hneb:(t.toList==k.toList)=false:=by simpa using hne
    go_wp2;refine ⟨⟨trivial,j+1,by omega,by congr 1,hiD (fun x h1 h2=>?_)⟩,by simp only [intOf];omega⟩
    by_cases hx:x<j
    ·exact HB.out x h1 hx
    ·obtain rfl:x=j:=by omega
     rw [<-HT.out];exact he
  ·have hji:¬(j:Int)<L:=by omega
   obtain rfl:j=L:=by omega
   have HR:=hiD (findI_no (l:=l) (k:=k) (fun x hx=>HB.out x hx (by have:=HL.out;omega)));go_wp2;go_ret;rw [HR.out];exact ⟨rfl,Below.refl _ _⟩
theorem Bytes_any (A:Option Addr) (L c:Nat) (l:List PV) (w:World) (hL:L=l.length) (hLm:L<=10000) (hA:HasP w A l) (hs:∀p∈l,p.1.size<=1000/\p.2.size<=1000):
 Calls Tryz.prog 35 #[.slice A L c] w (Gives w (bytesP l)):=by
 obtain ⟨i0,hi,hz0,hz1,hz2⟩:=info_parts info5;have HL:=hiD hL;have HA:=hiD hA;have HS:=hiD hs;have hLi:(L:Int)<=10000:=by omega
 clear hL hA hs;go_enter Tryz.func35,Tryz.ntmps35
 go_wp2_with fail
 refine (ref_Uint L (by omega) w).mono ?_;rintro e V0 ⟨g0,L0,c0,rfl,hown,hb⟩;have hl0:L0<=10:=by have:=own_len hown;have:=vb_len10 (n:=L) (by omega);omega
 have hl01:0<L0:=by have:=own_len hown;have:=List.length_pos_iff.2 (vb_ne L);omega
 have O0:=hiD hown;have B0:=hiD hb;clear hown hb;go_wp2
 go_loopw [3,4] (fun s3 i wr=>∃k M:Nat,∃A3 c3,k<=L/\i=.int .i64 (k:Int)/\s3=.slice A3 M c3/\M<=10+k*2100/\0<M/\Hid (wr.ownsRow w.heap.size 5 1 (.slice A3 M c3) M ((vb L++pairsTo l k).map enc))/\Hid (Below w.heap.size w wr)) (fun _ i _=>L - (intOf i).toNat)
 case atStart=>exact ⟨0,L0,_,c0,Nat.zero_le _,rfl,rfl,by omega,hl01,hiD (by simpa [pairsTo] using O0.out),B0⟩
 case round=>
  obtain ⟨k,M,A3,c3,hk,rfl,rfl,hM,hM0,HO,HB⟩:=hrel
  by_cases hlt:k<L
  ·have hki:(k:Int)<L:=by omega
   have hk1:k<l.length:=by have:=HL.out;omega
   obtain ⟨b,o,e1,l1,f1⟩:=HA.out (by rintro rfl;simp at hk1);subst e1;obtain ⟨t,ht⟩:∃t,t=l[k].1:=⟨_,rfl⟩;obtain ⟨u,hu⟩:∃u,u=l[k].2:=⟨_,rfl⟩;have g1:=(HB.out.cell (p:=⟨b,o+k*2,none⟩) l1).trans (f1 k hk1).1;rw [<-ht] at g1;have hsz:=HS.out l[k] (List.getElem_mem hk1);rw [<-ht,<-hu] at hsz;have F2:=hiD (aI l1 (f1 k hk1).2);have HT:=hiD (aI ht hu);obtain ⟨hs1,hs2⟩:=hsz;clear ht hu f1 l1
   go_wp2_with fail
   refine (ref_Text t (by omega) wr).mono ?_;rintro e V1 ⟨g5,L1,c1,rfl,hown,hb⟩;have hl1:L1<=1010:=by have:=own_len hown;have:=txt_le (s:=t) (by omega);simp only [txt] at this;omega
   have OC1:Hid (V1.ownsRow wr.heap.size 5 1 (.slice (some ⟨g5,0,none⟩) L1 c1) L1 ((txt t).map enc)):=hiD hown;have OO1:=hiD (own_below HO.out hb);have BB1:=hiD (HB.out.trans (Below.mono hb HB.out.size));clear hown hb g1
   go_wp2_with (first|(at_builtin;refine wpList_append_has rfl (.tmp 15) (.tmp 21) 48 rfl w.heap.size 5 i0 Tryz.underlying48 hi hz0 hz1 hz2 (.slice A3 M c3) M (vb L++pairsTo l k) rfl OO1.out _ _ L1 c1 (txt t) rfl (own_len OC1.out) (HasA.of_own OC1.out) (by omega) BB1.out.size ?_;intro u2 U2 hown hg;have hb2:Below w.heap.size w U2:=BB1.out.grown hg BB1.out.size (fun k e=>(OO1.out.lt k e).1);have g2:=(hb2.cell (p:=⟨b,o+k*2+1,none⟩) F2.out.1).trans F2.out.2;rw [<-HT.out.2] at g2;obtain ⟨A4,c4,rfl⟩:=own_form hown;have O2:=hiD hown;have B2:=hiD hb2;clear hown hg hb2)|fail)
   refine (ref_Text u (by omega) U2).mono ?_;rintro e V3 ⟨g6,L3,c6,rfl,hown,hb⟩;have hl3:L3<=1010:=by have:=own_len hown;have:=txt_le (s:=u) (by omega);simp only [txt] at this;omega
   have OC3:Hid (V3.ownsRow U2.heap.size 5 1 (.slice (some ⟨g6,0,none⟩) L3 c6) L3 ((txt u).map enc)):=hiD hown;have OO3:=hiD (own_below O2.out hb);have BB3:=hiD (B2.out.trans (Below.mono hb B2.out.size));clear hown hb g2
   go_wp2_with (first|(at_builtin;refine wpList_append_has rfl (.tmp 23) (.tmp 29) 48 rfl w.heap.size 5 i0 Tryz.underlying48 hi hz0 hz1 hz2 (.slice A4 (M+L1) c4) (M+L1) (vb L++pairsTo l k++txt t) rfl OO3.out _ _ L3 c6 (txt u) rfl (own_len OC3.out) (HasA.of_own OC3.out) (by omega) BB3.out.size ?_;intro u4 U4 hown hg;have hb4:Below w.heap.size w U4:=BB3.out.grown hg BB3.out.size (fun k e=>(OO3.out.lt k e).1);obtain ⟨A5,c5,rfl⟩:=own_form hown;have O4:=hiD hown;have B4:=hiD hb4;clear hown hg hb4)|fail)
   refine ⟨⟨k+1,M+L1+L3,A5,c5,by omega,by congr 1,rfl,by omega,by omega,hiD ?_,B4⟩,by simp only [intOf];omega⟩;rw [pairsTo_succ hk1,<-HT.out.1,<-HT.out.2,<-List.append_assoc,<-List.append_assoc];exact O4.out
  ·have hki:¬(k:Int)<L:=by omega
   obtain rfl:k=L:=by omega
   go_wp2;go_ret;have h:=HO.out;rw [show pairsTo l k=l.flatMap pairB by unfold pairsTo;rw [HL.out,List.take_length]] at h
   rcases h.2 with ⟨e,h2⟩|⟨g,cap,cur,e,_⟩
   ·omega
   ·cases e
    exact ⟨g,M,_,rfl,by rw [bytesP,<-HL.out];exact h,HB.out⟩
theorem swap_any (A:Option Addr) (L c:Nat) (l:List PV) (a b:ByteArray) (w:World) (hL:L=l.length) (hLm:L<=10000) (hA:HasP w A l):
 Calls Tryz.prog 72 #[.slice A L c,.string a,.string b] w fun e W'=>∃x,e=.returned x/\OwnP w.heap.size W' x (swapP l a b)/\Below w.heap.size w W':=by
 have HL:=hiD hL;have HA:=hiD hA;have hLi:(L:Int)<=10000:=by omega
 clear hL hA;go_enter Tryz.func72,Tryz.ntmps72
 go_wp2_with fail
 refine (Find_any A L c l a w HL.out (by omega) HA.out).mono ?_;rintro e W1 ⟨he,hb1⟩;obtain ⟨x,hx⟩:∃x,x=findI l a:=⟨_,rfl⟩;rw [<-hx] at he;subst he;have HX:=hiD hx;clear hx;have B1:=hiD hb1;clear hb1
 go_wp2_with fail
 refine (Find_any A L c l b W1 HL.out (by omega) (HA.out.below B1.out)).mono ?_;rintro e W2 ⟨he,hb2⟩;obtain ⟨y,hy⟩:∃y,y=findI l b:=⟨_,rfl⟩;rw [<-hy] at he;subst he;have HY:=hiD hy;clear hy;have B2:=hiD (B1.out.trans (Below.mono hb2 B1.out.size));clear hb2
 go_wp2_with fail
 refine (Without_any A L c l a W2 HL.out (by omega) (HA.out.below B2.out)).mono ?_;rintro e W3 ⟨v3,rfl,ho3,hb3⟩;obtain ⟨A3,c3,rfl,_⟩:=ho3.form;obtain ⟨n3,hn3⟩:∃n3,n3=(withoutP l a).length:=⟨_,rfl⟩;have hn3l:n3<=10000:=by have:=withoutP_len l a;have:=HL.out;omega
 rw [<-hn3] at ho3 ⊢;have O3:=hiD ho3.has;have N3:=hiD hn3;have B3:=hiD (B2.out.trans (Below.mono hb3 B2.out.size));clear ho3 hn3 hb3
 go_wp2_with fail
 refine (Without_any A3 n3 c3 (withoutP l a) b W3 N3.out (by omega) O3.out).mono ?_;rintro e W4 ⟨v4,rfl,ho4,hb4⟩;obtain ⟨r,hr⟩:∃r,r=withoutP (withoutP l a) b:=⟨_,rfl⟩;rw [<-hr] at ho4;have hrl:r.length<=10000:=by have:=withoutP_len (withoutP l a) b;rw [<-hr] at this;have:=N3.out;omega
 obtain ⟨A4,c4,rfl,_⟩:=ho4.form;obtain ⟨n4,hn4⟩:∃n4,n4=r.length:=⟨_,rfl⟩;rw [<-hn4] at ho4 hrl ⊢;have O4:=hiD (ho4.mono B3.out.size);have N4:=hiD (aI hn4 hr);have B4:=hiD (B3.out.trans (Below.mono hb4 B3.out.size));clear ho4 hn4 hr hb4
 rcases find_cases l b with ⟨hfb,hlb⟩|⟨j,hj,hfb,hlb⟩
 ·have ey:y= -1:=HY.out.trans hfb;clear HY;subst ey
  rcases find_cases l a with ⟨hfa,hla⟩|⟨i,hi,hfa,hla⟩
  ·have ex:x= -1:=HX.out.trans hfa;clear HX;subst ex;have HS:=hiD (show swapP l a b=r by rw [swapP,hlb,hla,<-N4.out.2];rfl);clear hfa hfb hla hlb;go_wp2;go_ret;rw [HS.out];exact ⟨_,rfl,O4.out,B4.out⟩
  ·have ex:x=(i:Int):=HX.out.trans hfa;clear HX;subst ex;obtain ⟨u,hu⟩:∃u,u=l[i].2:=⟨_,rfl⟩;have HS:=hiD (show swapP l a b=withP r b u by rw [swapP,hlb,hla,<-N4.out.2,hu];rfl);obtain ⟨bb,o,e1,l1,f1⟩:=HA.out (by rintro rfl;simp at hi);subst e1;have g1:=(B4.out.cell (p:=⟨bb,o+i*2+1,none⟩) l1).trans (f1 i hi).2;rw [<-hu] at g1;have hiL:(i:Int)<L:=by have:=HL.out;omega
   clear hfa hfb hla hlb hu f1
   go_wp2_with fail
   refine (With_any A4 n4 c4 r b u W4 N4.out.1 (by omega) O4.out.has).mono ?_;rintro e W5 ⟨v5,rfl,ho5,hb5⟩;have O5:=hiD (ho5.mono B4.out.size);have B5:=hiD (B4.out.trans (Below.mono hb5 B4.out.size));clear ho5 hb5;go_wp2;go_ret;rw [HS.out];exact ⟨_,rfl,O5.out,B5.out⟩
 ·have ey:y=(j:Int):=HY.out.trans hfb;clear HY;subst ey;obtain ⟨v,hv⟩:∃v,v=l[j].2:=⟨_,rfl⟩;obtain ⟨bb,o,e1,l1,f1⟩:=HA.out (by rintro rfl;simp at hj);subst e1;have g1:=(B4.out.cell (p:=⟨bb,o+j*2+1,none⟩) l1).trans (f1 j hj).2;rw [<-hv] at g1;have hjL:(j:Int)<L:=by have:=HL.out;omega
  have F1:=hiD (aI l1 f1);have HV:=hiD hv;clear f1 hv hfb
  go_wp2_with fail
  refine (With_any A4 n4 c4 r a v W4 N4.out.1 (by omega) O4.out.has).mono ?_;rintro e W5 ⟨v5,rfl,ho5,hb5⟩;obtain ⟨r5,hr5⟩:∃r5,r5=withP r a v:=⟨_,rfl⟩;have hl5:r5.length<=10001:=by have:=withP_len r a v;rw [<-hr5] at this;have:=N4.out.1;omega
  rw [<-hr5] at ho5;obtain ⟨A5,c5,rfl,_⟩:=ho5.form;obtain ⟨n5,hn5⟩:∃n5,n5=r5.length:=⟨_,rfl⟩;rw [<-hn5] at ho5 hl5 ⊢;have O5:=hiD (ho5.mono B4.out.size);have N5:=hiD (aI hn5 hr5);have B5:=hiD (B4.out.trans (Below.mono hb5 B4.out.size));clear ho5 hn5 hr5 hb5 g1
  rcases find_cases l a with ⟨hfa,hla⟩|⟨i,hi,hfa,hla⟩
  ·have ex:x= -1:=HX.out.trans hfa;clear HX;subst ex;have HS:=hiD (show swapP l a b=r5 by rw [swapP,hlb,hla,<-N4.out.2,N5.out.2,HV.out];rfl);clear hfa hla hlb;go_wp2;go_ret;rw [HS.out];exact ⟨_,rfl,O5.out,B5.out⟩
  ·have ex:x=(i:Int):=HX.out.trans hfa;clear HX;subst ex;obtain ⟨u,hu⟩:∃u,u=l[i].2:=⟨_,rfl⟩;have HS:=hiD (show swapP l a b=withP r5 b u by rw [swapP,hlb,hla,<-N4.out.2,N5.out.2,hu,HV.out];rfl);have g2:=(B5.out.cell (p:=⟨bb,o+i*2+1,none⟩) F1.out.1).trans (F1.out.2 i hi).2;rw [<-hu] at g2;have hiL:(i:Int)<L:=by have:=HL.out;omega
   clear hfa hla hlb hu
   go_wp2_with fail
   refine (With_any A5 n5 c5 r5 b u W5 N5.out.1 (by omega) O5.out.has).mono ?_;rintro e W6 ⟨v6,rfl,ho6,hb6⟩;have O6:=hiD (ho6.mono B5.out.size);have B6:=hiD (B5.out.trans (Below.mono hb6 B5.out.size));clear ho6 hb6;go_wp2;go_ret;rw [HS.out];exact ⟨_,rfl,O6.out,B6.out⟩
def oDG2 (p:String):Oper:={dst:=some 12,op:=Op.call {callee:=Callee.value (Operand.func 97),args:=#[Operand.tmp 11],argTypes:=#[30]},type:=9,pos:=p,after:=#[{on:=1,ground:=Ground.data}],guard:=none}
def opsDG (p:String):List Oper:=[oDG0 p,oDG1 p,oDG2 p,oDG3 p,oDG4 p,oDG5 p,oDG6 p,oDG7 p,oDG8 p,oDG9 p,oDG10 p]
theorem opsDG_back (p:String):backwards (opsDG p)=true:=by kernel_rfl
theorem opsDG_slots (p:String):slotsOk 20 (opsDG p)=true:=by kernel_rfl
theorem digits_region {p:String} (n:Nat) (hn:n<18446744073709551616) (ih:∀w:World,Calls Tryz.prog 97 #[.int .u64 ((n/10:Nat):Int)] w fun e W'=>e=.returned (.string (str (decN (n/10))))/\Below w.heap.size w W') (a:Act) (w:World) (Q:Exit->Act->World->Prop) (hN:a.tmps.size=20) (h0:a.tmps.getD 0 undef=.int .u64 (n:Int)) (hQ:∀(v17:Value),∀(w':World),IsB w' v17 ([UInt8.ofNat (48+n%10)])->Grew w w'->Q .normal (puts [(10,.int .u64 (n:Int)),(11,.int .u64 ((n/10:Nat):Int)),(12,.string (str (decN (n/10)))),(13,.int .u64 (n:Int)),(14,.int .u64 ((n%10:Nat):Int)),(15,.int .u64 ((48+n%10:Nat):Int)),(16,.int .u8 ((48+n%10:Nat):Int)),(17,v17),(18,.string (str ([UInt8.ofNat (48+n%10)]))),(19,.string (str (decN (n/10)++[UInt8.ofNat (48+n%10)]))),(2,.string (str (decN (n/10)++[UInt8.ofNat (48+n%10)])))] a) w')
 :(Code.region 3 (opsDG p).toArray true).wp Tryz.prog Q a w:=by
 refine (wpIn_wide (n:=1)).1 (wpIn_region_vals 20 hN follows (opsDG_back p) (opsDG_slots p) Grew Grew.refl Grew.trans (psiDG n) (psiDG_grew n) ?_ ?_)
 ·intro i o d ho hd a' w' hF hR hp
  rcases i with _|_|_|_|_|_|_|_|_|_|_|i
  ·obtain rfl:oDG0 p=o:=osI ho;obtain rfl:10=d:=osI hd;exact step_move rfl rfl rfl (hF.at 0 rfl h0) ⟨_,rfl,rfl,Grew.refl _⟩
  ·obtain rfl:oDG1 p=o:=osI ho;obtain rfl:11=d:=osI hd;have q0:a'.tmps.getD 10 undef=.int .u64 (n:Int):=hp 0 (oDG0 p) 10 rfl rfl rfl;exact step_bin rfl rfl rfl q0 rfl (guard_int _ _ _ _ _ _ _ _ _) (run_quo10 _ _ _ hn) ⟨_,rfl,rfl,Grew.refl _⟩
  ·obtain rfl:oDG2 p=o:=osI ho;obtain rfl:12=d:=osI hd;have q1:a'.tmps.getD 11 undef=.int .u64 ((n/10:Nat):Int):=hp 1 (oDG1 p) 11 rfl rfl rfl;refine step_callK rfl rfl rfl (enters_of Tryz.func97 (by kernel_rfl) rfl) (show Array.map a'.eval #[.tmp 11]=_ from by simp only [List.map_toArray,List.map_cons,List.map_nil,Act.eval,q1]) ((ih w').mono ?_);rintro e w'' ⟨rfl,hb⟩;exact ⟨_,rfl,_,rfl,rfl,hb⟩
  ·obtain rfl:oDG3 p=o:=osI ho;obtain rfl:13=d:=osI hd;exact step_move rfl rfl rfl (hF.at 0 rfl h0) ⟨_,rfl,rfl,Grew.refl _⟩
  ·obtain rfl:oDG4 p=o:=osI ho;obtain rfl:14=d:=osI hd;have q3:a'.tmps.getD 13 undef=.int .u64 (n:Int):=hp 3 (oDG3 p) 13 rfl rfl rfl;exact step_bin rfl rfl rfl q3 rfl (guard_int _ _ _ _ _ _ _ _ _) (run_rem10 _ _ _) ⟨_,rfl,rfl,Grew.refl _⟩
  ·obtain rfl:oDG5 p=o:=osI ho;obtain rfl:15=d:=osI hd;have q4:a'.tmps.getD 14 undef=.int .u64 ((n%10:Nat):Int):=hp 4 (oDG4 p) 14 rfl rfl rfl;exact step_bin rfl rfl rfl rfl q4 (guard_int _ _ _ _ _ _ _ _ _) (run_add48 _ _ _ (by omega)) ⟨_,rfl,rfl,Grew.refl _⟩
  ·obtain rfl:oDG6 p=o:=osI ho;obtain rfl:16=d:=osI hd;have q5:a'.tmps.getD 15 undef=.int .u64 ((48+n%10:Nat):Int):=hp 5 (oDG5 p) 15 rfl rfl rfl;exact step_cv rfl rfl rfl q5 (run_cv85 _ _ (by omega)) ⟨_,rfl,rfl,Grew.refl _⟩
  ·obtain rfl:oDG7 p=o:=osI ho;obtain rfl:17=d:=osI hd;have q6:a'.tmps.getD 16 undef=.int .u8 ((48+n%10:Nat):Int):=hp 6 (oDG6 p) 16 rfl rfl rfl;exact step_bs9 rfl rfl rfl q6 ⟨_,rfl,isB_nine w' _ (by omega),(Below.refl _ w').alloc (nLr _) _⟩
  ·obtain rfl:oDG8 p=o:=osI ho;obtain rfl:18=d:=osI hd;have q7:IsB w' (a'.tmps.getD 17 undef) ([UInt8.ofNat (48+n%10)]):=hp 7 (oDG7 p) 17 rfl rfl rfl;exact step_conv rfl rfl rfl (show IsB w' (a'.tmps.getD 17 undef) _ from q7) ⟨_,rfl,rfl,Grew.refl _⟩
  ·obtain rfl:oDG9 p=o:=osI ho;obtain rfl:19=d:=osI hd;have q2:a'.tmps.getD 12 undef=.string (str (decN (n/10))):=hp 2 (oDG2 p) 12 rfl rfl rfl;have q8:a'.tmps.getD 18 undef=.string (str ([UInt8.ofNat (48+n%10)])):=hp 8 (oDG8 p) 18 rfl rfl rfl;exact step_bin rfl rfl rfl q2 q8 (guard_str _ _ _ _ _ _ _) (run_add _ _ _ (by have:=decN_len n hn;simp only [List.length_cons,List.length_nil];have:=decN_len (n/10) (by omega);omega)) ⟨_,rfl,rfl,Grew.refl _⟩
  ·obtain rfl:oDG10 p=o:=osI ho;obtain rfl:2=d:=osI hd;have q9:a'.tmps.getD 19 undef=.string (str (decN (n/10)++[UInt8.ofNat (48+n%10)])):=hp 9 (oDG9 p) 19 rfl rfl rfl;exact step_assign rfl rfl rfl q9 ⟨_,rfl,rfl,Grew.refl _⟩
  ·exact absurd ((geS.1 ho).1) (by simp [opsDG])
 ·intro a' w' hF hR hp;have e0:psiDG n 0 (a'.tmps.getD 10 undef) w':=hp 0 (oDG0 p) 10 rfl rfl;have e1:psiDG n 1 (a'.tmps.getD 11 undef) w':=hp 1 (oDG1 p) 11 rfl rfl;have e2:psiDG n 2 (a'.tmps.getD 12 undef) w':=hp 2 (oDG2 p) 12 rfl rfl;have e3:psiDG n 3 (a'.tmps.getD 13 undef) w':=hp 3 (oDG3 p) 13 rfl rfl;have e4:psiDG n 4 (a'.tmps.getD 14 undef) w':=hp 4 (oDG4 p) 14 rfl rfl;have e5:psiDG n 5 (a'.tmps.getD 15 undef) w':=hp 5 (oDG5 p) 15 rfl rfl;have e6:psiDG n 6 (a'.tmps.getD 16 undef) w':=hp 6 (oDG6 p) 16 rfl rfl;have e7:psiDG n 7 (a'.tmps.getD 17 undef) w':=hp 7 (oDG7 p) 17 rfl rfl;have e8:psiDG n 8 (a'.tmps.getD 18 undef) w':=hp 8 (oDG8 p) 18 rfl rfl;have e9:psiDG n 9 (a'.tmps.getD 19 undef) w':=hp 9 (oDG9 p) 19 rfl rfl;have e10:psiDG n 10 (a'.tmps.getD 2 undef) w':=hp 10 (oDG10 p) 2 rfl rfl;rw [hF.puts [(10,.int .u64 (n:Int)),(11,.int .u64 ((n/10:Nat):Int)),(12,.string (str (decN (n/10)))),(13,.int .u64 (n:Int)),(14,.int .u64 ((n%10:Nat):Int)),(15,.int .u64 ((48+n%10:Nat):Int)),(16,.int .u8 ((48+n%10:Nat):Int)),(17,a'.tmps.getD 17 undef),(18,.string (str ([UInt8.ofNat (48+n%10)]))),(19,.string (str (decN (n/10)++[UInt8.ofNat (48+n%10)]))),(2,.string (str (decN (n/10)++[UInt8.ofNat (48+n%10)])))] ?_ rfl (by rw [hN];rfl)]
  ·exact hQ _ w' e7 hR.undraw
  ·intro x hx;simp only [List.mem_cons,List.not_mem_nil,or_false] at hx
   rcases hx with rfl|rfl|rfl|rfl|rfl|rfl|rfl|rfl|rfl|rfl|rfl
   ·exact e0
   ·exact e1
   ·exact e2
   ·exact e3
   ·exact e4
   ·exact e5
   ·exact e6
   ·exact rfl
   ·exact e8
   ·exact e9
   ·exact e10
theorem digits_any:∀(n:Nat),n<18446744073709551616->∀w:World,Calls Tryz.prog 97 #[.int .u64 (n:Int)] w fun e W'=>e=.returned (.string (str (decN n)))/\Below w.heap.size w W':=by
 intro n
 induction n using Nat.strongRecOn with
 |ind n ih=>
  intro hn w
  by_cases h:n<10
  ·have h':(n:Int)<10:=by omega
   obtain ⟨ch,hch⟩:∃ch:UInt8,ch=UInt8.ofNat (48+n):=⟨_,rfl⟩;have hdl:=decN_lt h;rw [<-hch] at hdl;have HD:=hiD hdl;clear hdl;have HB:=hiD (isB_nine w (48+n) (by omega));have hb1:=(Below.refl w.heap.size w).alloc (nLr _) (Obj.cells #[.int .u8 ((48+n:Nat):Int)] 5);have HB1:=hiD hb1
   have hcv:(convert 48 9 (.slice (some ⟨w.heap.size,0,none⟩) 1 1)).run Tryz.prog (w.alloc (.cells #[.int .u8 ((48+n:Nat):Int)] 5))=.ok (.string (str [UInt8.ofNat (48+n)])) (w.alloc (.cells #[.int .u8 ((48+n:Nat):Int)] 5)):=by
    obtain ⟨A,L,c,e,h1,h2⟩:=HB.out
    cases e
    exact run_conv h2 1 Tryz.underlying48 Tryz.underlying5 Tryz.underlying9 h1
   rw [show ((48+n:Nat):Int)=48+(n:Int) by omega,<-hch] at hcv;clear hb1 hch;have hw1:=wrap_u64 (x:=48+(n:Int)) (by omega) (by omega);have hw2:=wrap_u8 (x:=48+(n:Int)) (by omega) (by omega);go_enter Tryz.func97,Tryz.ntmps97;go_wp2;go_ret;rw [HD.out];refine ⟨rfl,?_⟩;have h9:=HB1.out;rw [show ((48+n:Nat):Int)=48+(n:Int) by omega] at h9;exact h9
  ·have h':¬(n:Int)<10:=by omega
   have HD:=hiD (decN_ge h);have IH:=hiD (fun w=>ih (n/10) (by omega) (by omega) w);go_enter Tryz.func97,Tryz.ntmps97;go_wp2;refine digits_region n hn IH.out _ _ _ rfl rfl ?_;intro v17 W1 _ hb;have HB:=hiD hb;clear hb;simp only [puts,List.foldl_cons,List.foldl_nil,Act.put,List.setIfInBounds_toArray,List.set_cons_succ,List.set_cons_zero];go_wp2;go_ret;rw [HD.out];exact ⟨rfl,HB.out⟩
theorem Decimal_any (n:Int) (h1: -9223372036854775808<=n) (h2:n<=9223372036854775807) (w:World):Calls Tryz.prog 73 #[.int .i64 n] w fun e W'=>e=.returned (.string (str (decI n)))/\Below w.heap.size w W':=by
 by_cases h:n<0
 ·obtain ⟨k,hk⟩:∃k:Nat,(-n).toNat=k:=⟨_,rfl⟩;have hkn: -n=(k:Int):=by omega
  have hk64:k<18446744073709551616:=by omega
  have hw1:IntKind.u64.wrap n=n+18446744073709551616:=by rw [IntKind.wrap_u64];omega
  have hw2:IntKind.u64.wrap (-(n+18446744073709551616))=(k:Int):=by rw [IntKind.wrap_u64];omega
  have hw3:IntKind.u64.wrap (-18446744073709551616+ -n)=(k:Int):=by rw [IntKind.wrap_u64];omega
  have HD:=hiD (show decI n=45::decN k by rw [decI,if_pos h,hk]);have hdl:=decN_len k hk64;go_enter Tryz.func73,Tryz.ntmps73
  go_wp2_with fail
  refine (digits_any k hk64 w).mono ?_;rintro e W1 ⟨rfl,hb⟩;obtain ⟨D,hD⟩:∃D,D=decN k:=⟨_,rfl⟩;rw [<-hD] at HD hdl ⊢;have HB:=hiD hb;have hsz:¬9223372036854775807<1+(str D).size:=by rw [str_size];omega
  have hcat:({data:=#[45]}:ByteArray)++str D=str (45::D):=(str_append [45] D).symm;clear hb hD hw1 hw2 hw3 hkn hk;go_wp2;go_ret;rw [HD.out,<-hcat];exact ⟨rfl,HB.out⟩
 ·obtain ⟨k,hk⟩:∃k:Nat,n=(k:Int):=⟨n.toNat,by omega⟩;subst hk;have hk64:k<18446744073709551616:=by omega
  have hw1:IntKind.u64.wrap (k:Int)=(k:Int):=wrap_u64 (by omega) (by omega);have HD:=hiD (show decI (k:Int)=decN k by rw [decI,if_neg h];rfl);go_enter Tryz.func73,Tryz.ntmps73
  go_wp2_with fail
  refine (digits_any k hk64 w).mono ?_;rintro e W1 ⟨rfl,hb⟩;have HB:=hiD hb;clear hb;go_wp2;go_ret;rw [HD.out];exact ⟨rfl,HB.out⟩
theorem Number_any (bs:List UInt8) (hl:bs.length<=1000000) (w:World):
 Calls Tryz.prog 96 #[.string (str bs)] w (NumP bs w):=by
 have hsz:=str_size bs;obtain ⟨S,hS⟩:∃S,S=str bs:=⟨_,rfl⟩;rw [<-hS] at hsz ⊢;obtain ⟨M,hM⟩:∃M,M=bs.length:=⟨_,rfl⟩;rw [<-hM] at hsz hl;have HS:=hiD hS;have HM:=hiD hM;clear hS hM;go_enter Tryz.func96,Tryz.ntmps96;go_upto_region 1 with (fail)
 go_cut [4] (fun s4 wx=>w=wx/\∃neg:Bool,s4=.bool neg/\Hid ((neg=true<->bs[0]?=some 45)))
 case first=>
  by_cases hz:M=0
  ·have hb:bs=[]:=List.eq_nil_of_length_eq_zero (by rw [<-HM.out,hz]);have HG:Hid ((false=true)<->bs[0]?=some 45):=hiD (by simp [hb]);clear hb;subst hz;go_wp2;go_meet;exact ⟨rfl,false,rfl,HG⟩
  ·have hM0:(0:Int)<M:=by omega
   have h0:0<bs.length:=by rw [<-HM.out];omega
   obtain ⟨b,hb⟩:∃b,b=bs[0]:=⟨_,rfl⟩
   have hix:∀hj,(S[0]'hj).toNat=b.toNat:=by
    have h:=HS.out;subst h;intro h';rw [hb]
    rfl
   have HBB:Hid (bs[0]?=some b):=hiD (by rw [List.getElem?_eq_getElem h0,hb]);clear hb hz
   by_cases h:b=45
   ·subst h;have hb:(45:UInt8).toNat=45:=rfl;rw [hb] at hix;clear hb;go_wp2;go_meet;exact ⟨rfl,true,rfl,hiD ⟨fun _=>HBB.out,fun _=>rfl⟩⟩
   ·have hbb:((b.toNat:Int)==45)=false:=by
     have:¬((b.toNat:Int)=45):=fun e=>h (UInt8.toNat.inj (by have:(45:UInt8).toNat=45:=rfl;omega))
     simpa using this
    go_wp2;go_meet;exact ⟨rfl,false,rfl,hiD (by rw [HBB.out];simpa using h)⟩
 obtain ⟨rfl,neg,rfl,HG⟩:=hcut
 apply_assumption
 go_upto_region 3 with (fail)
 go_cut [17] (fun s17 wx=>w=wx/\s17=.bool neg)
 case first=>
  go_wp2;go_meet;exact ⟨rfl,rfl⟩
 obtain ⟨rfl,rfl⟩:=hcut
 apply_assumption
 go_cut [5] (fun s5 wx=>w=wx/\∃d:List UInt8,s5=.string (str d)/\d.length<=1000000/\Hid (numM bs=numD neg d))
 case first=>
  cases neg with
  |false=>
   have HN:Hid (numM bs=numD false bs):=hiD (by rw [numM,if_neg (fun h=>by simpa using HG.out.2 h)]);go_wp2;go_meet;exact ⟨rfl,bs,by rw [HS.out],by rw [<-HM.out];exact hl,HN⟩
  |true=>
   have hb0:=HG.out.1 rfl
   have hlen:0<bs.length:=by
    rcases Nat.eq_zero_or_pos bs.length with h|h
    ·rw [List.eq_nil_of_length_eq_zero h] at hb0;simp at hb0
    ·exact h
   have HN:Hid (numM bs=numD true (bs.drop 1)):=hiD (by rw [numM,if_pos hb0])
   have hdr:S.extract 1 M=str (bs.drop 1):=by
    rw [HS.out,HM.out]
    cases bs with
    |nil=>simp at hlen
    |cons b d=>exact str_size (b::d) ▸ str_drop1 b d
   have hM0:(1:Int)<=M:=by have:=HM.out;omega
   have HL2:Hid ((bs.drop 1).length<=1000000):=hiD (by rw [List.length_drop,<-HM.out];omega);obtain ⟨D,hD⟩:∃D,D=bs.drop 1:=⟨_,rfl⟩;rw [<-hD] at hdr HN HL2;clear hD hb0 hlen;go_wp2;go_meet;exact ⟨rfl,D,rfl,HL2.out,HN⟩
 obtain ⟨rfl,d,rfl,hdl,HN⟩:=hcut;clear hl hsz HS HM HG
 apply_assumption
 have hsz:=str_size d;obtain ⟨D,hD⟩:∃D,D=str d:=⟨_,rfl⟩;rw [<-hD] at hsz ⊢;obtain ⟨N,hN⟩:∃N,N=d.length:=⟨_,rfl⟩;rw [<-hN] at hsz hdl;have HD:=hiD hD;have HL:=hiD hN;have hdi:(N:Int)<=1000000:=by omega
 clear hD hN hdl;go_upto_region 5 with (fail)
 go_cut [39] (fun s39 wx=>w=wx/\∃bad:Bool,s39=.bool bad/\Hid (BD bad neg d))
 case first=>
  by_cases hz:N=0
  ·have HB:Hid (BD true neg d):=hiD ⟨fun _=>.inl (by rw [<-HL.out,hz]),fun _=>rfl⟩
   have hDe:D={data:=#[]}:=by
    have:=HD.out;rw [List.eq_nil_of_length_eq_zero (HL.out.symm.trans hz)] at this;exact this
   subst hDe hz;go_wp2;go_meet;exact ⟨rfl,true,rfl,HB⟩
  ·have hN0:(0:Int)<N:=by omega
   have h0:0<d.length:=by rw [<-HL.out];omega
   have hne2:¬D.toList=[]:=fun e=>by
    have h:=HD.out;rw [h,ByteArray.toList_eq] at e;have e2:d=[]:=by simpa [str] using e
    rw [HL.out,e2] at hN0;simp at hN0
   have hne:D.toList.isEmpty=false:=by simpa using hne2
   obtain ⟨b,hb⟩:∃b,b=d[0]:=⟨_,rfl⟩
   have hix:∀hj,(D[0]'hj).toNat=b.toNat:=by
    have h:=HD.out;subst h;intro h';rw [hb]
    rfl
   have HBB:Hid (d[0]?=some b):=hiD (by rw [List.getElem?_eq_getElem h0,hb]);clear hb hz h0
   by_cases h19:19<N
   ·have HB:Hid (BD true neg d):=hiD ⟨fun _=>.inr (.inl (by rw [<-HL.out];exact h19)),fun _=>rfl⟩;have h19i:(19:Int)<N:=by omega
    go_wp2;go_meet;exact ⟨rfl,true,rfl,HB⟩
   ·have h19i:¬(19:Int)<N:=by omega
    by_cases h48:b=48
    ·subst h48;have hb:(48:UInt8).toNat=48:=rfl;rw [hb] at hix;clear hb
     by_cases h1:1<N
     ·have HB:Hid (BD true neg d):=hiD ⟨fun _=>.inr (.inr ⟨HBB.out,.inl (by rw [<-HL.out];exact h1)⟩),fun _=>rfl⟩;have h1i:(1:Int)<N:=by omega
      go_wp2;go_meet;exact ⟨rfl,true,rfl,HB⟩
     ·have HB:Hid (BD neg neg d):=hiD ⟨fun h=>.inr (.inr ⟨HBB.out,.inr h⟩),fun h=>by
       have:=HL.out
       rcases h with h|h|⟨_,h|h⟩
       ·omega
       ·omega
       ·omega
       ·exact h⟩
      have h1i:¬(1:Int)<N:=by omega
      go_wp2;go_meet;exact ⟨rfl,neg,rfl,HB⟩
    ·have hbb:((b.toNat:Int)==48)=false:=by
      have:¬((b.toNat:Int)=48):=fun e=>h48 (UInt8.toNat.inj (by have:(48:UInt8).toNat=48:=rfl;omega))
      simpa using this
     have HB:Hid (BD false neg d):=hiD ⟨fun h=>by simp at h,fun h=>by
      have:=HL.out
      rcases h with h|h|⟨h,_⟩
      ·omega
      ·omega
      ·rw [HBB.out] at h;simp at h;exact absurd h h48⟩
     go_wp2;go_meet;exact ⟨rfl,false,rfl,HB⟩
 obtain ⟨rfl,bad,rfl,HB⟩:=hcut
 apply_assumption
 cases bad with
 |true=>
  have HR:=hiD (show numM bs=none by rw [HN.out,numD,if_pos (HB.out.1 rfl)]);go_wp2;exact bodyPost_ret (v:=.tuple #[.int .i64 0,.bool false]) (by simp [results,Tryz.results96,go_sem]) rfl ⟨rfl,0,false,rfl,by rw [HR.out];rfl⟩
 |false=>
  have HNB:=hiD (show ¬badD neg d from fun h=>by have:=HB.out.2 h;simp at this);clear HB
  have h19:N<=19:=by
   have h1:=HNB.out;have h2:=HL.out;have h3:¬19<d.length:=fun h=>h1 (.inr (.inl h))
   omega
  go_wp2
  go_loopw [6,7] (fun s6 i wr=>wr=w/\∃k V:Nat,k<=N/\s6=.int .u64 (V:Int)/\i=.int .i64 (k:Int)/\Hid (V=valD (d.take k)/\(d.take k).all dig=true/\V<10 ^ k)) (fun _ i _=>N - (intOf i).toNat)
  case atStart=>exact ⟨rfl,0,0,Nat.zero_le _,rfl,rfl,hiD ⟨by simp [valD],by simp,by simp⟩⟩
  case round=>
   obtain ⟨rfl,k,V,hk,rfl,rfl,HV⟩:=hrel
   by_cases hlt:k<N
   ·have hki:(k:Int)<N:=by omega
    have hk1:k<d.length:=by have:=HL.out;omega
    obtain ⟨q,hq⟩:∃q,q=d[k].toNat:=⟨_,rfl⟩
    have hix:∀hj,(D[k]'hj).toNat=q:=by
     have h:=HD.out;subst h;intro h';rw [hq]
     rfl
    have HQ:=hiD hq;have hq256:q<256:=by rw [hq];exact d[k].toNat_lt
    clear hq
    by_cases hgo:48<=q/\q<=57
    ·obtain ⟨hg1,hg2⟩:=hgo
     have hV18:V<1000000000000000000:=by
      have h1:(10:Nat) ^ k<=10 ^ 18:=Nat.pow_le_pow_right (by omega) (by omega);have h2:=HV.out.2.2;omega
     have hn1:¬(q:Int)<48:=by omega
     have hn2:¬(57:Int)<(q:Int):=by omega
     have HG2:=hiD (aI hg1 hg2);go_wp2;refine ⟨⟨trivial,k+1,10*V+(q - 48),by omega,by congr 1;omega,by congr 1,hiD ⟨?_,?_,?_⟩⟩,by simp only [intOf];omega⟩
     ·rw [valD_succ hk1,<-HV.out.1,<-HQ.out]
     ·exact all_succ hk1 HV.out.2.1 (by unfold dig;rw [<-HQ.out];exact decide_eq_true HG2.out)
     ·have h:=HV.out.2.2;have h2:=HG2.out;rw [Nat.pow_succ];omega
    ·have HR:=hiD (show numM bs=none by
      rw [HN.out,numD,if_neg HNB.out,if_pos];intro h;have h1:=List.all_eq_true.1 h d[k] (List.getElem_mem hk1);unfold dig at h1;rw [<-HQ.out] at h1;exact hgo (of_decide_eq_true h1))
     by_cases h48:q<48
     ·have h48i:(q:Int)<48:=by omega
      clear hgo;go_wp2;exact bodyPost_ret (v:=.tuple #[.int .i64 0,.bool false]) (by simp [results,Tryz.results96,go_sem]) rfl ⟨rfl,0,false,rfl,by rw [HR.out];rfl⟩
     ·have h48i:¬(q:Int)<48:=by omega
      have h57i:(57:Int)<(q:Int):=by omega
      clear hgo h48;go_wp2;exact bodyPost_ret (v:=.tuple #[.int .i64 0,.bool false]) (by simp [results,Tryz.results96,go_sem]) rfl ⟨rfl,0,false,rfl,by rw [HR.out];rfl⟩
   ·have hki:¬(k:Int)<N:=by omega
    obtain rfl:k=N:=by omega
    have hVd:V=valD d:=by rw [HV.out.1,HL.out,List.take_length]
    have hall:d.all dig=true:=by have:=HV.out.2.1;rwa [HL.out,List.take_length] at this
    have hV19:V<10000000000000000000:=by
     have h1:(10:Nat) ^ k<=10 ^ 19:=Nat.pow_le_pow_right (by omega) (by omega);have h2:=HV.out.2.2;omega
    cases neg with
    |true=>
     by_cases hb:V<=9223372036854775808
     ·have HR:=hiD (show numM bs=some (-(V:Int)) by rw [HN.out,numD,if_neg HNB.out,if_neg (by simpa using hall),if_pos rfl,<-hVd,if_pos hb]);clear hVd hall;go_wp2;have hdd:decide ((V:Int)<=9223372036854775808)=true:=by simp;omega
      have hww:wrap64 (-wrap64 (V:Int))= -(V:Int):=by unfold wrap64;omega
      exact bodyPost_ret (v:=.tuple #[.int .i64 (wrap64 (-wrap64 (V:Int))),.bool true]) (by simp [results,Tryz.results96,go_sem,hdd]) rfl ⟨rfl,_,true,rfl,by rw [HR.out,hww];rfl⟩
     ·have HR:=hiD (show numM bs=none by rw [HN.out,numD,if_neg HNB.out,if_neg (by simpa using hall),if_pos rfl,<-hVd,if_neg hb]);clear hVd hall;go_wp2;have hdd:decide ((V:Int)<=9223372036854775808)=false:=by simp;omega
      exact bodyPost_ret (v:=.tuple #[.int .i64 (wrap64 (-wrap64 (V:Int))),.bool false]) (by simp [results,Tryz.results96,go_sem,hdd]) rfl ⟨rfl,_,false,rfl,by rw [HR.out];rfl⟩
    |false=>
     by_cases hb:V<9223372036854775808
     ·have HR:=hiD (show numM bs=some (V:Int) by rw [HN.out,numD,if_neg HNB.out,if_neg (by simpa using hall),if_neg (by simp),<-hVd,if_pos hb]);clear hVd hall;go_wp2;have hdd:decide ((V:Int)<9223372036854775808)=true:=by simp;omega
      exact bodyPost_ret (v:=.tuple #[.int .i64 ((V:Int)),.bool true]) (by simp [results,Tryz.results96,go_sem,hdd]) rfl ⟨rfl,_,true,rfl,by rw [HR.out];rfl⟩
     ·have HR:=hiD (show numM bs=none by rw [HN.out,numD,if_neg HNB.out,if_neg (by simpa using hall),if_neg (by simp),<-hVd,if_neg hb]);clear hVd hall;go_wp2;have hdd:decide ((V:Int)<9223372036854775808)=false:=by simp;omega
      exact bodyPost_ret (v:=.tuple #[.int .i64 (wrap64 (V:Int)),.bool false]) (by simp [results,Tryz.results96,go_sem,hdd]) rfl ⟨rfl,_,false,rfl,by rw [HR.out];rfl⟩
theorem add_any (A:Option Addr) (L c:Nat) (l:List PV) (v:CmdV) (k0:ByteArray) (w:World) (hL:L=l.length) (hLm:L<=10000) (hA:HasP w A l) (hs:∀p∈l,p.2.size<=1000000) (hv:v.ok w) (hk:0<v.ks.length) (hk0:v.ks[0]=k0):
 Calls Tryz.prog 71 #[.slice A L c,v.val] w (PR w A l (addP l k0 v.n)):=by
 obtain ⟨acl,asq,akd,KA,KL,kc,ks,old,new,n⟩:=v;obtain ⟨hcl,hsq,hkd,hn64,hlen,hmx,hhas,heach,hold,hnew⟩:=hv;simp only at hcl hsq hkd hn64 hlen hmx hhas heach hold hnew hk hk0 ⊢;simp only [CmdV.val,CmdV.cells];have HL:=hiD hL;have HA:=hiD hA;have HV:=hiD hs;have hLi:(L:Int)<=10000:=by omega
 obtain ⟨kb,ko,ke,kl,kf⟩:=hhas (by rintro rfl;simp at hk);have kc0:=kf 0 hk;rw [hk0] at kc0;have hKL:(0:Int)<KL:=by omega
 have hKL2:(KL:Int)<=140737488351232:=by omega
 subst ke;clear hL hA hs hlen heach hold hnew hhas kf hk0 hk hmx hcl hsq hkd;go_enter Tryz.func71,Tryz.ntmps71;go_upto_region 2 with (fail)
 obtain ⟨W0,hW0⟩:∃W0,W0=w.alloc (Obj.cells #[.int .u32 (acl:Int),.int .u32 (asq:Int),.int .u8 (akd:Int),.slice (some ⟨kb,ko,none⟩) KL kc,.string old,.string new,.int .i64 n] 57):=⟨_,rfl⟩;rw [<-hW0];obtain ⟨W1,hW1⟩:∃W1,W1=W0.alloc (Obj.cells #[.int .u8 0,.string {data:=#[]}] 45):=⟨_,rfl⟩;rw [<-hW1];obtain ⟨p,hp⟩:∃p,p=w.heap.size:=⟨_,rfl⟩;have hs0:W0.heap.size=p+1:=by rw [hW0,hp];exact World.size_alloc _ _
 have hs1:W1.heap.size=p+2:=by rw [hW1,World.size_alloc,hs0]
 have hB0:Below w.heap.size w W0:=by rw [hW0];exact (Below.refl _ w).alloc (nLr _) _
 have hB:Below w.heap.size w W1:=by rw [hW1];exact hB0.alloc (by rw [hs0,hp];omega) _
 have q1:W1.heap[p+1]?=some (.cells #[.int .u8 0,.string {data:=#[]}] 45 (0,0)):=by
  have h:=wAh W0 (.cells #[.int .u8 0,.string {data:=#[]}] 45);rw [hs0,<-hW1] at h;exact h
 have k1:W1.heap[p]?=some (.cells #[.int .u32 (acl:Int),.int .u32 (asq:Int),.int .u8 (akd:Int),.slice (some ⟨kb,ko,none⟩) KL kc,.string old,.string new,.int .i64 n] 57 (0,0)):=by
  have h:W0.heap[p]?=some (.cells #[.int .u32 (acl:Int),.int .u32 (asq:Int),.int .u8 (akd:Int),.slice (some ⟨kb,ko,none⟩) KL kc,.string old,.string new,.int .i64 n] 57 (0,0)):=by
   rw [hW0,hp];exact wAh w _
  rw [hW1];exact (((Below.refl _ W0).alloc (nLr _) _).block p (by rw [hs0];omega)).trans h
 obtain ⟨q,hq⟩:∃q,q=w.heap.size+1:=⟨_,rfl⟩;have hqp:q=p+1:=by omega
 rw [<-hq,<-hp];rw [<-hqp] at q1;have x3:W1.cell? ⟨p,3,none⟩=some (.slice (some ⟨kb,ko,none⟩) KL kc):=by rw [blk_cell k1 3];rfl
 have x6:W1.cell? ⟨p,6,none⟩=some (.int .i64 n):=by rw [blk_cell k1 6];rfl
 have g0:W1.cell? ⟨kb,ko,none⟩=some (.string k0):=(hB.cell (p:=⟨kb,ko+0,none⟩) kl).trans kc0;have XX:=hiD (aI x3 (aI x6 g0));have XB:=hiD hB;have QQ:=hiD q1;have PP:=hiD (show p<W1.heap.size/\q<W1.heap.size/\kb<W1.heap.size/\q=w.heap.size+1 by rw [hs1];omega);have HA1:=hiD (HA.out.below hB);clear hW0 hW1 hp hs0 hs1 hB0 hB q1 k1 hq hqp kc0 x6 kl
 go_wp2_with fail
 refine (Find_any A L c l k0 W1 HL.out (by omega) HA1.out).mono ?_;rintro e W2 ⟨he,hb2⟩;obtain ⟨x,hx⟩:∃x,x=findI l k0:=⟨_,rfl⟩;rw [<-hx] at he;subst he;have HX:=hiD hx;have B2:=hiD hb2;have HA2:=hiD (HA1.out.below hb2);clear hx hb2 x3 g0;go_upto_region 3 with (fail)
 go_cut [17] (fun s17 wx=>W2=wx/\s17=.bool (decide (0<=x)))
 case first=>
  go_wp2;go_meet;exact ⟨rfl,rfl⟩
 obtain ⟨rfl,rfl⟩:=hcut
 apply_assumption
 go_cut [6,7] (fun s6 s7 wx=>W2=wx/\∃(m:Int) (ok:Bool),s6=.int .i64 m/\s7=.bool ok/\Hid (seedP l k0=if ok then some m else none))
 case first=>
  rcases find_cases l k0 with ⟨hf,hl⟩|⟨j,hj,hf,hl⟩
  ·have ex:x= -1:=HX.out.trans hf;clear HX;subst ex;have HS:Hid (seedP l k0=some 0):=hiD (by rw [seedP,hl]);clear hf hl;go_wp2;go_meet;exact ⟨rfl,0,true,rfl,rfl,HS⟩
  ·have ex:x=(j:Int):=HX.out.trans hf;clear HX;subst ex;obtain ⟨u,hu⟩:∃u,u=l[j].2:=⟨_,rfl⟩;have HS:Hid (seedP l k0=numM u.data.toList):=hiD (by rw [seedP,hl,<-hu])
   have hul:u.data.toList.length<=1000000:=by
    have h:=HV.out l[j] (List.getElem_mem hj);rw [<-hu] at h;exact (show u.data.toList.length=u.size from Array.length_toList) ▸ h
   obtain ⟨bb,o,e1,l1,f1⟩:=HA2.out (by rintro rfl;exact Nat.not_lt_zero _ hj);subst e1;have g1:=(f1 j hj).2;rw [<-hu] at g1;have hjL:(j:Int)<L:=by have:=HL.out;omega
   obtain ⟨us,hus⟩:∃us,us=u.data.toList:=⟨_,rfl⟩;have hue:u=str us:=by rw [hus,str_data]
   rw [<-hus] at HS hul;have hj0:(0:Int)<=(j:Int):=by omega
   subst hue;clear hf hl hu f1 hus
   go_wp2_with fail
   refine (Number_any us hul W2).mono ?_;rintro e W3 ⟨rfl,m,ok,rfl,hm⟩;have HM:=hiD hm;clear hm g1;go_wp2;go_meet;exact ⟨rfl,m,ok,rfl,rfl,hiD (HS.out.trans HM.out)⟩
 obtain ⟨rfl,m,ok,rfl,rfl,HS⟩:=hcut
 apply_assumption
 have x6:=(B2.out.cell (p:=⟨p,6,none⟩) PP.out.1).trans XX.out.2.1;obtain ⟨hn1,hn2⟩:=hn64;go_upto_region 5 with (fail)
 go_cut [52] (fun s52 wx=>W2=wx/\∃bad:Bool,s52=.bool bad/\Hid (if bad then sumP l k0 n=none else sumP l k0 n=some (m+n)/\ -9223372036854775808<=m+n/\m+n<=9223372036854775807))
 case first=>
  cases ok with
  |false=>
   have HB:Hid (if true then sumP l k0 n=none else sumP l k0 n=some (m+n)/\ -9223372036854775808<=m+n/\m+n<=9223372036854775807):=hiD (sumP_none HS.out);go_wp2;go_meet;exact ⟨rfl,true,rfl,HB⟩
  |true=>
   obtain ⟨hm1,hm2⟩:=seedP_range (l:=l) (k:=k0) (m:=m) HS.out;have hsum:=sumP_some (n:=n) (show seedP l k0=some m from HS.out)
   by_cases hin: -9223372036854775808<=m+n/\m+n<=9223372036854775807
   ·rw [if_pos hin] at hsum;have HB:Hid (if false then sumP l k0 n=none else sumP l k0 n=some (m+n)/\ -9223372036854775808<=m+n/\m+n<=9223372036854775807):=hiD ⟨hsum,hin⟩;obtain ⟨hi1,hi2⟩:=hin;clear hsum
    by_cases hp0:0<n
    ·have hp1:¬9223372036854775807 - n<m:=by omega
     have hp2:¬n<0:=by omega
     go_wp2;go_meet;exact ⟨rfl,false,rfl,HB⟩
    ·by_cases hneg:n<0
     ·have hp1:¬m< -9223372036854775808 - n:=by omega
      go_wp2;go_meet;exact ⟨rfl,false,rfl,HB⟩
     ·go_wp2;go_meet;exact ⟨rfl,false,rfl,HB⟩
   ·rw [if_neg hin] at hsum;have HB:Hid (if true then sumP l k0 n=none else sumP l k0 n=some (m+n)/\ -9223372036854775808<=m+n/\m+n<=9223372036854775807):=hiD hsum;clear hsum
    by_cases hp0:0<n
    ·have hp1:9223372036854775807 - n<m:=by omega
     have hp2:¬n<0:=by omega
     clear hin;go_wp2;go_meet;exact ⟨rfl,true,rfl,HB⟩
    ·have hneg:n<0:=by omega
     have hp1:m< -9223372036854775808 - n:=by omega
     clear hin;go_wp2;go_meet;exact ⟨rfl,true,rfl,HB⟩
 obtain ⟨rfl,bad,rfl,HB⟩:=hcut
 apply_assumption
 cases bad with
 |true=>
  have HR:=hiD (show addP l k0 n=(l,2,⟨#[]⟩) by rw [addP,show sumP l k0 n=none from HB.out]);have q2:=(B2.out.block q PP.out.2.1).trans QQ.out;have c0:W2.cell? ⟨q,0,none⟩=some (.int .u8 0):=by rw [blk_cell q2 0];rfl
  have c1:W2.cell? ⟨q,1,none⟩=some (.string {data:=#[]}):=by rw [blk_cell q2 1];rfl
  have z0:W2.frozen? ⟨q,0,none⟩=false:=blk_frozen q2 0;have z1:W2.frozen? ⟨q,1,none⟩=false:=blk_frozen q2 1;have QS:=hiD q2;clear q2;go_wp2;obtain ⟨d0,d1,hbz,hbq⟩:=reply_set (.int .u8 2) (.string {data:=#[]}) QS.out (XB.out.trans (Below.mono B2.out XB.out.size)) (by have:=PP.out.2.2.2;omega) (nLt XB.out.size B2.out.size);refine bodyPost_ret (v:=.tuple #[.slice A L c,.agg #[.int .u8 2,.string {data:=#[]}]]) (by simp [results,Tryz.results71,go_sem,d0,d1]) rfl ⟨A,L,c,by rw [HR.out];rfl,by rw [HR.out];exact HL.out,by rw [HR.out];exact HA.out.below hbz,.inl ⟨rfl,by rw [HR.out]⟩,hbz⟩
 |false=>
  have HR:=hiD (show addP l k0 n=(withP l k0 (str (decI (m+n))),0,str (decI (m+n))) by rw [addP,show sumP l k0 n=some (m+n) from HB.out.1]);have hz1: -9223372036854775808<=m+n:=HB.out.2.1;have hz2:m+n<=9223372036854775807:=HB.out.2.2
  go_wp2_with fail
  refine (Decimal_any (m+n) hz1 hz2 W2).mono ?_;rintro e W3 ⟨rfl,hb3⟩;obtain ⟨S,hS⟩:∃S,S=str (decI (m+n)):=⟨_,rfl⟩;rw [<-hS] at HR ⊢;have B3:=hiD (B2.out.trans (Below.mono hb3 B2.out.size));have x3:=(B3.out.cell (p:=⟨p,3,none⟩) PP.out.1).trans XX.out.1;have g0:=(B3.out.cell (p:=⟨kb,ko,none⟩) PP.out.2.2.1).trans XX.out.2.2;clear hb3 hS x6 hz1 hz2
  go_wp2_with fail
  refine (With_any A L c l k0 S W3 HL.out (by omega) (HA1.out.below B3.out)).mono ?_;rintro e W4 ⟨v4,rfl,ho4,hb4⟩;obtain ⟨r,hr⟩:∃r,r=withP l k0 S:=⟨_,rfl⟩;rw [<-hr] at ho4 HR;obtain ⟨A4,c4,rfl,_⟩:=ho4.form;obtain ⟨n4,hn4⟩:∃n4,n4=r.length:=⟨_,rfl⟩;rw [<-hn4] at ho4 ⊢;have O4:=hiD ho4;have B4:=hiD (B3.out.trans (Below.mono hb4 B3.out.size));have N4:=hiD hn4;clear ho4 hb4 hn4 hr x3 g0;have q2:=(B4.out.block q PP.out.2.1).trans QQ.out;have c0:W4.cell? ⟨q,0,none⟩=some (.int .u8 0):=by rw [blk_cell q2 0];rfl
  have c1:W4.cell? ⟨q,1,none⟩=some (.string {data:=#[]}):=by rw [blk_cell q2 1];rfl
  have z0:W4.frozen? ⟨q,0,none⟩=false:=blk_frozen q2 0;have z1:W4.frozen? ⟨q,1,none⟩=false:=blk_frozen q2 1;have QS:=hiD q2;clear q2;go_wp2;obtain ⟨d0,d1,hbz,hbq⟩:=reply_set (.int .u8 0) (.string S) QS.out (XB.out.trans (Below.mono B4.out XB.out.size)) (by have:=PP.out.2.2.2;omega) (nLt XB.out.size B4.out.size);have hq3:q<W3.heap.size:=nLl PP.out.2.1 B3.out.size;refine bodyPost_ret (v:=.tuple #[.slice A4 n4 c4,.agg #[.int .u8 0,.string S]]) (by simp [results,Tryz.results71,go_sem,d0,d1]) rfl ⟨A4,n4,c4,by rw [HR.out];rfl,by rw [HR.out];exact N4.out,by rw [HR.out];exact ((O4.out.set hq3).set hq3).has,.inr (fun b o m e=>nLt (nLt XB.out.size B3.out.size) (O4.out.lo e)),hbz⟩
theorem refMay_any (a:CmdV) (w:World) (ha:a.ok w):Calls Tryz.prog 67 #[a.val] w fun e W'=>e=.returned (.bool a.m.may)/\Below w.heap.size w W':=by
 obtain ⟨acl,asq,akd,A,M,c,ks,old,new,n⟩:=a;obtain ⟨hcl,hsq,hkd,hn64,hlen,hmx,hhas,heach,hold,hnew⟩:=ha;simp only at hcl hsq hkd hn64 hlen hmx hhas heach hold hnew;simp only [CmdV.val,CmdV.cells,CmdV.m];have HH:=hiD (aI hhas hlen);have HE:=hiD heach;have hM:(M:Int)<=140737488351232:=by omega
 have hkd':(akd:Int)<256:=by omega
 have ho64:(old.size:Int)<=9223372036854775807:=by simp only [maxLen] at hold;omega
 have hn64':(new.size:Int)<=9223372036854775807:=by simp only [maxLen] at hnew;omega
 clear hhas hlen heach hold hnew;go_enter Tryz.func67,Tryz.ntmps67;go_upto_region 1 with (fail)
 obtain ⟨W0,hW0⟩:∃W0,W0=w.alloc (Obj.cells #[.int .u32 (acl:Int),.int .u32 (asq:Int),.int .u8 (akd:Int),.slice A M c,.string old,.string new,.int .i64 n] 57):=⟨_,rfl⟩;rw [<-hW0];obtain ⟨p,hp⟩:∃p,p=w.heap.size:=⟨_,rfl⟩;have hB:Below w.heap.size w W0:=by rw [hW0];exact (Below.refl _ w).alloc (nLr _) _
 have k1:W0.heap[p]?=some (.cells #[.int .u32 (acl:Int),.int .u32 (asq:Int),.int .u8 (akd:Int),.slice A M c,.string old,.string new,.int .i64 n] 57 (0,0)):=by
  rw [hW0,hp];exact wAh w _
 rw [<-hp];have x0:=blk_cell k1 0;have x2:=blk_cell k1 2;have x3:=blk_cell k1 3;have x4:=blk_cell k1 4;have x5:=blk_cell k1 5;have x6:=blk_cell k1 6;simp at x0 x2 x3 x4 x5 x6;have BW:=hiD hB;clear hW0 hp hB k1
 go_upto_block 0 with (fail)
 go_cut [3,4] (fun s3 s4 wx=>W0=wx/\(1<=akd/\akd<=8)/\s3=.int .i64 (leastK akd:Int)/\s4=.int .i64 (mostK akd:Int))
 case first=>
  by_cases hk8:1<=akd/\akd<=8
  ·obtain rfl|rfl|rfl|rfl|rfl|rfl|rfl|rfl:akd=1\/akd=2\/akd=3\/akd=4\/akd=5\/akd=6\/akd=7\/akd=8:=by omega
   all_goals
    clear hk8 hkd hkd';go_wp2;go_meet;exact ⟨rfl,by decide,rfl,rfl⟩
  ·have HN:=hiD (show CM.may ⟨acl,asq,akd,ks,old,new,n⟩=false from CM.may_no.2 fun h=>hk8 h.kd);have q1:((akd:Int)==1)=false:=by simp;omega
   have q2:((akd:Int)==2)=false:=by simp;omega
   have q3:((akd:Int)==3)=false:=by simp;omega
   have q4:((akd:Int)==4)=false:=by simp;omega
   have q5:((akd:Int)==5)=false:=by simp;omega
   have q6:((akd:Int)==6)=false:=by simp;omega
   have q7:((akd:Int)==7)=false:=by simp;omega
   have q8:((akd:Int)==8)=false:=by simp;omega
   go_wp2;go_ret;exact ⟨by rw [HN.out];rfl,BW.out⟩
 case rest=>
  obtain ⟨rfl,hk8,rfl,rfl⟩:=hcut;obtain ⟨ls,hls⟩:∃ls,ls=leastK akd:=⟨_,rfl⟩;obtain ⟨ms,hms⟩:∃ms,ms=mostK akd:=⟨_,rfl⟩;have HLM:=hiD (aI hls hms);rw [<-hls,<-hms];clear hls hms;go_wp2
  go_loopw [5] (fun i wr=>wr=W0/\∃k:Nat,k<=M/\i=.int .i64 (k:Int)/\Hid (∀j (h1:j<ks.length),j<k->1<=(ks[j]).size/\(ks[j]).size<=32)) (fun i _=>M - (intOf i).toNat)
  case atStart=>exact ⟨rfl,0,Nat.zero_le _,rfl,hiD (fun j _ h=>by omega)⟩
  case round=>
   obtain ⟨rfl,k,hk,rfl,hb⟩:=hrel
   by_cases hlt:k<M
   ·have hki:(k:Int)<M:=by omega
    have hk1:k<ks.length:=by have:=HH.out.2;omega
    obtain ⟨bk,o1,e1,l1,f1⟩:=HH.out.1 (by rintro rfl;simp at hk1);subst e1;have g1:=(BW.out.cell (p:=⟨bk,o1+k,none⟩) l1).trans (f1 k hk1);obtain ⟨t,ht⟩:∃t,t=ks[k]:=⟨_,rfl⟩;rw [<-ht] at g1;have ht64:(t.size:Int)<=9223372036854775807:=by have:=HE.out t (by rw [ht];exact List.getElem_mem hk1);simp only [maxLen] at this;omega
    have HT:=hiD ht;clear ht f1
    by_cases q1:t.size<1
    ·have q1i:(t.size:Int)<1:=by omega
     have HN:=hiD (show CM.may ⟨acl,asq,akd,ks,old,new,n⟩=false from CM.may_no.2 fun h=>by have:=(h.each ks[k] (List.getElem_mem hk1)).1;rw [<-HT.out] at this;omega);clear q1;go_wp2;go_ret;exact ⟨by rw [HN.out];rfl,BW.out⟩
    have q1i:¬(t.size:Int)<1:=by omega
    by_cases q2:32<t.size
    ·have q2i:(32:Int)<t.size:=by omega
     have HN:=hiD (show CM.may ⟨acl,asq,akd,ks,old,new,n⟩=false from CM.may_no.2 fun h=>by have:=(h.each ks[k] (List.getElem_mem hk1)).2;rw [<-HT.out] at this;omega);clear q1 q2;go_wp2;go_ret;exact ⟨by rw [HN.out];rfl,BW.out⟩
    have q2i:¬(32:Int)<t.size:=by omega
    have HQ:=hiD (aI q1 q2);clear q1 q2;go_wp2;refine ⟨⟨trivial,k+1,by omega,by congr 1,hiD (fun j h1 h2=>?_)⟩,by simp only [intOf];omega⟩
    by_cases hj:j<k
    ·exact hb.out j h1 hj
    ·obtain rfl:j=k:=by omega
     rw [<-HT.out];have:=HQ.out;omega
   ·have hki:¬(k:Int)<M:=by omega
    obtain rfl:k=M:=by omega
    have HALL:=hiD (show ∀t∈ks,1<=t.size/\t.size<=32 from fun t ht=>by
     obtain ⟨j,hj,rfl⟩:=List.getElem_of_mem ht;exact hb.out j hj (by have:=HH.out.2;omega))
    clear hb hlt hk;go_upto_region 20 with (fail)
    go_cut [6] (fun s6 wx=>wr=wx/\s6=.bool (decide (old.size=0\/akd=5)))
    case first=>
     by_cases h0:old.size=0
     ·obtain rfl:=size0.1 h0;go_wp2;go_meet;exact ⟨rfl,congrArg Value.bool (decide_eq_true (Or.inl rfl)).symm⟩
     have hb:old.toList.isEmpty=false:=(toE old).trans (decide_eq_false h0)
     by_cases h5:akd=5
     ·obtain rfl:=h5;go_wp2;go_meet;exact ⟨rfl,by simp⟩
     have q5:((akd:Int)==5)=false:=by simp;omega
     go_wp2;go_meet;exact ⟨rfl,by simp [h0,h5]⟩
    case rest=>
     obtain ⟨rfl,rfl⟩:=hcut;obtain ⟨fo,hfo⟩:∃fo,fo=decide (old.size=0\/akd=5):=⟨_,rfl⟩;have HFO:=hiD hfo;rw [<-hfo];clear hfo;go_upto_region 21 with (fail)
     go_cut [7] (fun s7 wx=>wr=wx/\s7=.bool (decide (new.size=0\/akd=1\/akd=5)))
     case first=>
      by_cases h0:new.size=0
      ·obtain rfl:=size0.1 h0;go_wp2;go_meet;exact ⟨rfl,congrArg Value.bool (decide_eq_true (Or.inl rfl)).symm⟩
      have hb:new.toList.isEmpty=false:=(toE new).trans (decide_eq_false h0)
      by_cases h1:akd=1
      ·obtain rfl:=h1;go_wp2;go_meet;exact ⟨rfl,by simp⟩
      have q1:((akd:Int)==1)=false:=by simp;omega
      by_cases h5:akd=5
      ·obtain rfl:=h5;go_wp2;go_meet;exact ⟨rfl,by simp⟩
      have q5:((akd:Int)==5)=false:=by simp;omega
      go_wp2;go_meet;exact ⟨rfl,by simp [h0,h1,h5]⟩
     case rest=>
      obtain ⟨rfl,rfl⟩:=hcut;obtain ⟨fn,hfn⟩:∃fn,fn=decide (new.size=0\/akd=1\/akd=5):=⟨_,rfl⟩;have HFN:=hiD hfn;rw [<-hfn];clear hfn
      by_cases c0:0<acl
      case neg=>
       have HN:=hiD (show CM.may ⟨acl,asq,akd,ks,old,new,n⟩=false from CM.may_no.2 fun h=>c0 (h.cl));have i0:¬(0:Int)<(acl:Int):=by omega
       clear c0;go_wp2;go_ret;exact ⟨by rw [HN.out];rfl,BW.out⟩
      have i0:(0:Int)<(acl:Int):=by omega
      by_cases c1:ls<=k
      case neg=>
       have HN:=hiD (show CM.may ⟨acl,asq,akd,ks,old,new,n⟩=false from CM.may_no.2 fun h=>c1 (by have:=h.len.1;rw [HLM.out.1,HH.out.2];exact this));have i1:¬(ls:Int)<=(k:Int):=by omega
       clear c1;go_wp2;go_ret;exact ⟨by rw [HN.out];rfl,BW.out⟩
      have i1:(ls:Int)<=(k:Int):=by omega
      by_cases c2:k<=ms
      case neg=>
       have HN:=hiD (show CM.may ⟨acl,asq,akd,ks,old,new,n⟩=false from CM.may_no.2 fun h=>c2 (by have:=h.len.2;rw [HLM.out.2,HH.out.2];exact this));have i2:¬(k:Int)<=(ms:Int):=by omega
       clear c2;go_wp2;go_ret;exact ⟨by rw [HN.out];rfl,BW.out⟩
      have i2:(k:Int)<=(ms:Int):=by omega
      by_cases c3:old.size<=64
      case neg=>
       have HN:=hiD (show CM.may ⟨acl,asq,akd,ks,old,new,n⟩=false from CM.may_no.2 fun h=>c3 (h.old));have i3:¬(old.size:Int)<=64:=by omega
       clear c3;go_wp2;go_ret;exact ⟨by rw [HN.out];rfl,BW.out⟩
      have i3:(old.size:Int)<=64:=by omega
      by_cases c4:new.size<=64
      case neg=>
       have HN:=hiD (show CM.may ⟨acl,asq,akd,ks,old,new,n⟩=false from CM.may_no.2 fun h=>c4 (h.new));have i4:¬(new.size:Int)<=64:=by omega
       clear c4;go_wp2;go_ret;exact ⟨by rw [HN.out];rfl,BW.out⟩
      have i4:(new.size:Int)<=64:=by omega
      have HCS:=hiD (aI c0 (aI c1 (aI c2 (aI c3 c4))));clear c0 c1 c2 c3 c4
      cases fo with
      |false=>
       have HN:=hiD (show CM.may ⟨acl,asq,akd,ks,old,new,n⟩=false from CM.may_no.2 fun h=>absurd (decide_eq_true h.old0) (by rw [<-HFO.out];simp));go_wp2;go_ret;exact ⟨by rw [HN.out];rfl,BW.out⟩
      |true=>
       cases fn with
       |false=>
        have HN:=hiD (show CM.may ⟨acl,asq,akd,ks,old,new,n⟩=false from CM.may_no.2 fun h=>absurd (decide_eq_true h.new0) (by rw [<-HFN.out];simp));go_wp2;go_ret;exact ⟨by rw [HN.out];rfl,BW.out⟩
       |true=>
        by_cases hn0:n=0
        ·subst hn0;have HN:=hiD (show CM.may ⟨acl,asq,akd,ks,old,new,0⟩=true from CM.may_iff.2 ⟨hk8,HALL.out,HCS.out.1,⟨by rw [<-HLM.out.1,<-HH.out.2];exact HCS.out.2.1,by rw [<-HLM.out.2,<-HH.out.2];exact HCS.out.2.2.1⟩,HCS.out.2.2.2.1,HCS.out.2.2.2.2,of_decide_eq_true HFO.out.symm,of_decide_eq_true HFN.out.symm,.inl rfl⟩);go_wp2;go_ret;exact ⟨by rw [HN.out];rfl,BW.out⟩
        have qn:(n==0)=false:=by simpa using hn0
        by_cases h4:akd=4
        ·subst h4;have HN:=hiD (show CM.may ⟨acl,asq,4,ks,old,new,n⟩=true from CM.may_iff.2 ⟨hk8,HALL.out,HCS.out.1,⟨by rw [<-HLM.out.1,<-HH.out.2];exact HCS.out.2.1,by rw [<-HLM.out.2,<-HH.out.2];exact HCS.out.2.2.1⟩,HCS.out.2.2.2.1,HCS.out.2.2.2.2,of_decide_eq_true HFO.out.symm,of_decide_eq_true HFN.out.symm,.inr rfl⟩);clear hn0;go_wp2;go_ret;exact ⟨by rw [HN.out];rfl,BW.out⟩
        have q4:((akd:Int)==4)=false:=by simp;omega
        have HN:=hiD (show CM.may ⟨acl,asq,akd,ks,old,new,n⟩=false from CM.may_no.2 fun h=>h.n0.elim hn0 h4);clear hn0 h4;go_wp2;go_ret;exact ⟨by rw [HN.out];rfl,BW.out⟩
end Go.Proofs.YtfjmdkhemnmkpaaGreatDoor
