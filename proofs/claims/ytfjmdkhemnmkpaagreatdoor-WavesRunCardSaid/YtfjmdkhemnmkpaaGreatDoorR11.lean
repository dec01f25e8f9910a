/- Parts of the proof: SoF, SoG, SoH, SoI, SqN. -/
import Derived.Test.YtfjmdkhemnmkpaaGreatDoorR10
import Derived.Test.YtfjmdkhemnmkpaaGreatDoorR06
import Derived.Laws.Closers25b
import Derived.Laws.BitsAllLaws
import Derived.Sort.LotD3
import Derived.Test.YtfjmdkhemnmkpaaGreatDoorR09
import Derived.Test.YtfjmdkhemnmkpaaGreatDoorR04
import Derived.Maps.AppendAt
set_option maxRecDepth 100000
set_option maxHeartbeats 8000000
namespace Go.Proofs.YtfjmdkhemnmkpaaGreatDoor
open Go.RowKit Go.Sort
theorem bitLen_bounds:∀(k x:Nat),x<=k->x<2 ^ 64->x<2 ^ Lib.bitLen x/\(0<x->2 ^ Lib.bitLen x<=2*x)
 |0,x,h,_=>by
  obtain rfl:x=0:=by omega
  exact ⟨by decide+kernel,fun h=>absurd h (by omega)⟩
 |k+1,x,h,h64=>by
  by_cases h0:x=0
  ·subst h0;exact ⟨by decide+kernel,fun h=>absurd h (by omega)⟩
  ·have e:=Lib.bitLen_half x h0 h64;obtain ⟨i1,i2⟩:=bitLen_bounds k (x/2) (by omega) (by omega);rw [e,Nat.pow_add,Nat.pow_one];refine ⟨by omega,fun _=>?_⟩
   by_cases h1:x/2=0
   ·have hx:x=1:=by omega
    subst hx
    decide+kernel
   ·have:=i2 (by omega);omega
theorem npow_n (l:Nat) (w:World) (hl0:0<l) (hl:l<1152921504606846976):Calls Tryz.prog 162 #[.int .i64 (l:Int)] w fun e W=>∃m:Nat,e=.returned (.int .u64 (m:Int))/\l<m/\m<=2*l/\W=w:=by
 have HL:=hiD (lay_bits_Len (l:Int) w (by omega) (by omega));have hb:=bitLen_bounds l l (nLr _) (by omega);rw [Int.toNat_natCast] at HL;obtain ⟨k,hk⟩:∃k,k=Lib.bitLen l:=⟨_,rfl⟩;rw [<-hk] at HL hb;have hk64:k<=64:=by rw [hk];exact Lib.bitLen_le l 64 (by omega) (by omega)
 have HB:=hiD (aI hb hk64);clear hb hk;go_enter Tryz.func162,Tryz.ntmps162
 go_wp2_with (go_at_call 125;refine HL.out.mono ?_;rintro e1 W1 ⟨rfl,rfl⟩)
 go_ret;obtain ⟨⟨h1,h2⟩,_⟩:=HB.out;have h2':=h2 hl0;refine ⟨2 ^ k,?_,h1,h2',rfl⟩;have e:((2:Int) ^ k)=((2 ^ k:Nat):Int):=by norm_cast
 rw [e]
 congr 2
 generalize 2 ^ k=m at h1 h2'
 simp [IntKind.wrap,IntKind.bits,IntKind.signed];omega
theorem xor_nat (a b:Int):∃y:Nat,y<18446744073709551616/\bits .xor .u64 a b=(y:Int):=by
 have h:=bits_within .xor .u64 a b;simp only [IntKind.min,IntKind.max,IntKind.signed,IntKind.bits] at h;obtain ⟨h1,h2⟩:=h;simp at h1 h2;exact ⟨(bits .xor .u64 a b).toNat,by omega,by omega⟩
theorem cell_again {w W:World} {q:Nat} {t:TypeId} {u v:Value} (hq:w.heap[q]?=some (.cells #[u] t (0,0))) (hW:W=(w.setCell ⟨q,0,none⟩ v).drew):W.heap[q]?=some (.cells #[v] t (0,0)):=by
 subst hW;exact blk_set hq 0 v
theorem next_n (q x:Nat) (w:World) (_hx:x<18446744073709551616) (hq:w.heap[q]?=some (.cells #[.int .u64 (x:Int)] 227 (0,0))):Calls Tryz.prog 163 #[.pointer (some ⟨q,0,none⟩)] w fun e W=>∃y:Nat,y<18446744073709551616/\e=.returned (.int .u64 (y:Int))/\W.heap[q]?=some (.cells #[.int .u64 (y:Int)] 227 (0,0))/\∀(v:World) (b off n:Nat) (pre rest:List Value) (d:Array Int),SR v b off n pre rest d w->v.heap.size<=q->q≠b->SR v b off n pre rest d W:=by
 have c0:w.cell? ⟨q,0,none⟩=some (.int .u64 (x:Int)):=by simpa using blk_cell hq 0
 have f0:w.frozen? ⟨q,0,none⟩=false:=blk_frozen hq 0;have HQ:=hiD hq;clear hq;go_enter Tryz.func163,Tryz.ntmps163;go_wp2
 go_region
 obtain ⟨y1,hy1,e1⟩:=xor_nat (x:Int) (IntKind.u64.wrap ((x:Int)*8192));rw [e1];obtain ⟨W1,hW1⟩:∃W,W=(w.setCell ⟨q,0,none⟩ (.int .u64 (y1:Int))).drew:=⟨_,rfl⟩;rw [<-hW1];have k1:=cell_again HQ.out hW1;have H1:=hiD (aI hW1 k1);clear c0 f0 hW1;have c0:W1.cell? ⟨q,0,none⟩=some (.int .u64 (y1:Int)):=by simpa using blk_cell k1 0
 have f0:W1.frozen? ⟨q,0,none⟩=false:=blk_frozen k1 0;clear k1 e1;go_wp2
 go_region
 obtain ⟨y2,hy2,e2⟩:=xor_nat (y1:Int) ((y1:Int)/128);rw [e2];obtain ⟨W2,hW2⟩:∃W,W=(W1.setCell ⟨q,0,none⟩ (.int .u64 (y2:Int))).drew:=⟨_,rfl⟩;rw [<-hW2];have k2:=cell_again H1.out.2 hW2;have H2:=hiD (aI hW2 k2);clear c0 f0 hW2;have c0:W2.cell? ⟨q,0,none⟩=some (.int .u64 (y2:Int)):=by simpa using blk_cell k2 0
 have f0:W2.frozen? ⟨q,0,none⟩=false:=blk_frozen k2 0;clear k2 e2;go_wp2
 go_region
 obtain ⟨y3,hy3,e3⟩:=xor_nat (y2:Int) (IntKind.u64.wrap ((y2:Int)*131072));rw [e3];obtain ⟨W3,hW3⟩:∃W,W=(W2.setCell ⟨q,0,none⟩ (.int .u64 (y3:Int))).drew:=⟨_,rfl⟩;rw [<-hW3];have k3:=cell_again H2.out.2 hW3;have H3:=hiD (aI hW3 k3);clear c0 f0 hW3;have c0:W3.cell? ⟨q,0,none⟩=some (.int .u64 (y3:Int)):=by simpa using blk_cell k3 0
 clear k3 e3;go_wp2;go_ret;refine ⟨y3,hy3,rfl,H3.out.2,fun v b off n pre rest d hs hv hb=>?_⟩;rw [H3.out.1,H2.out.1,H1.out.1];exact (((((hs.other hv hb 0 _).drew).other hv hb 0 _).drew).other hv hb 0 _).drew
theorem keep_two {W:World} {b q i j:Nat} {u v:Value} {o:Obj} (hq:q≠b) (h:W.heap[q]?=some o):(((W.setCell ⟨b,i,none⟩ u).setCell ⟨b,j,none⟩ v).drew).heap[q]?=some o:=
 (Go.RowKit.Below.heap_setCell _ _ _ _ hq).trans ((Go.RowKit.Below.heap_setCell _ _ _ _ hq).trans h)
def PermSR (w:World) (b off n:Nat) (pre rest:List Value) (a e:Nat) (d:Array Int) (W:World):Prop:=∃d',PermIn a e d d'/\SR w b off n pre rest d' W
theorem brk_n {w W0:World} {b off n:Nat} {pre rest:List Value} {d:Array Int} (cap a e:Nat) (hs:SR w b off n pre rest d W0) (hae:a+13<=e) (he:e<=n) (hsz:n<1152921504606846976):
 Calls Tryz.prog 136 #[.slice (some ⟨b,off,none⟩) n cap,.int .i64 (a:Int),.int .i64 (e:Int)] W0 fun x W=>x=.returned (.tuple #[])/\PermSR w b off n pre rest a e d W:=by
 obtain ⟨l,hl⟩:∃l,l=e - a:=⟨_,rfl⟩;obtain ⟨f,hf⟩:∃f,f=l/4:=⟨_,rfl⟩;obtain ⟨c,hc⟩:∃c,c=a+f*2 - 1:=⟨_,rfl⟩;have hlz:(e:Int) - (a:Int)=(l:Int):=by omega
 have hfz:(l:Int)/4=(f:Int):=by omega
 have hcz:(a:Int)+(f:Int)*2 - 1=(c:Int):=by omega
 have hl8:13<=l:=by omega
 have hal:a+l=e:=by omega
 have hf2:2<=f:=by omega
 have hfl:f*4<=l:=by omega
 have hca:c+1=a+f*2:=by omega
 have HN:=hiD (npow_n l · (by omega) (by omega));have HS:=hiD hs;obtain ⟨W1,hW1⟩:∃W,W=W0.alloc (Obj.cells #[.int .u64 (l:Int)] 227):=⟨_,rfl⟩;have h1:SR w b off n pre rest d W1:=by rw [hW1];exact hs.alloc _
 have k1:W1.heap[W0.heap.size]?=some (.cells #[.int .u64 (l:Int)] 227 (0,0)):=by rw [hW1];exact wAh W0 _
 have hq1:w.heap.size<=W0.heap.size:=hs.grown.size;have hq2:W0.heap.size≠b:=by have:=hs.lt;omega
 obtain ⟨q,hq⟩:∃q,q=W0.heap.size:=⟨_,rfl⟩;rw [<-hq] at k1 hq1 hq2;have H1:=hiD (aI h1 (aI k1 (aI hq1 hq2)));have HL:=hiD (show l<18446744073709551616 by omega);clear hs hl hf hc h1 k1 hq1 hq2 hae;go_enter Tryz.func136,Tryz.ntmps136;go_upto_region 3 with (fail)
 rw [<-hq,<-hW1];clear hq hW1
 go_wp2_with (go_at_call 162;refine (HN.out _).mono ?_;rintro e1 W2 ⟨m,rfl,hm1,hm2,rfl⟩)
 obtain ⟨m1,hm⟩:∃m1,m=m1+1:=⟨m - 1,by omega⟩;have hmz:(m:Int) - 1=(m1:Int):=by omega
 have hm1l:m1<2*l:=by omega
 have HM2:=hiD (show m1<18446744073709551616 by omega);clear hm hm1 hm2
 go_loopw [9,10] (fun vi _ wr=>∃(u y:Nat) (dk:Array Int),vi=.int .i64 (u:Int)/\c<=u/\u<=c+3/\Hid (y<18446744073709551616)/\Hid (PermIn a e d dk/\SR w b off n pre rest dk wr/\wr.heap[q]?=some (.cells #[.int .u64 (y:Int)] 227 (0,0)))) (fun vi _ _=>c+3 - (intOf vi).toNat)
 case atStart=>exact ⟨c,l,d,rfl,nLr _,by omega,HL,hiD ⟨permIn_refl d a e,H1.out.1,H1.out.2.1⟩⟩
 case round=>
  obtain ⟨u,y,dk,rfl,hu1,hu2,hy,HI⟩:=hrel
  by_cases hu:u<c+3
  ·have huz:(u:Int)<=(a:Int)+(f:Int)*2+1:=by omega
   have HX:=hiD (next_n q y wr hy.out HI.out.2.2);have HU:=hiD (show u<c+3 from hu);clear hy
   go_upto_if 43 with (go_at_call 163;refine HX.out.mono ?_;rintro e2 W3 ⟨z,hz,rfl,hq3,hs3⟩;have HZ:=hiD hz;obtain ⟨o,ho⟩:∃o,o=z&&& m1:=⟨_,rfl⟩;have hand:bits .and .u64 (z:Int) (m1:Int)=(o:Int):=(by rw [ho];exact u64_and_nat z m1 hz HM2.out);have hol:o<=m1:=(by rw [ho];exact Nat.and_le_right);clear hz ho)
   go_cut [10] (fun s10 wx=>W3=wx/\∃p:Nat,s10=.int .i64 (p:Int)/\p<l)
   case first=>
    by_cases hol2:l<=o
    ·have holz:(l:Int)<=(o:Int):=by omega
     go_wp2;go_meet;exact ⟨rfl,o - l,by congr 1;omega,by omega⟩
    ·have holz:¬(l:Int)<=(o:Int):=by omega
     go_wp2;go_meet;exact ⟨rfl,o,rfl,by omega⟩
   case rest=>
    obtain ⟨rfl,p,rfl,hpl⟩:=hcut;obtain ⟨s,hs⟩:∃s,s=a+p:=⟨_,rfl⟩;have hsz2:(a:Int)+(p:Int)=(s:Int):=by omega
    have hse:s<e:=by omega
    have has:a<=s:=by omega
    have hau:a<=u:=by omega
    have hue:u<e:=by omega
    have HR3:=hiD (hs3 _ _ _ _ _ _ _ HI.out.2.1 H1.out.2.2.1 H1.out.2.2.2);have HQ3:=hiD hq3;have HPM:=hiD (permIn_trans d dk (swp dk u s) a e HI.out.1 (swp_permIn dk a e u s hau hue has hse (by rw [HI.out.2.1.size];exact he)));have HCC:=hiD (aI hu1 hu);clear hs hs3 hq3 hand hol hpl huz;obtain ⟨G,hG⟩:∃G:Nat->Int,∀t,G t=dk[t]!:=⟨fun t=>dk[t]!,fun _=>rfl⟩;have HG:=hiD hG;clear hG;have hcw:∀t,t<n->W3.cell? ⟨b,off+t,none⟩=some (.int .u32 (G t)):=fun t ht=>by rw [HG.out];exact HR3.out.cell ht
    have hfw:∀t,t<n->W3.frozen? ⟨b,off+t,none⟩=false:=fun t _=>HR3.out.frozen t
    have HW:=hiD (HR3.out.swap (j:=u) (k:=s) (by omega) (by omega) 1)
    rcases Nat.lt_trichotomy u s with hpq|hpq|hpq
    ·skip
     go_upto_region 10 with (fail)
     go_region
     all_goals go_wp2
     go_roundw
     case rel=>
      refine ⟨u+1,z,swp dk u s,by go_num,by have:=HCC.out.1;omega,by have:=HCC.out.2;omega,HZ,hiD ?_⟩;rw [HG.out,HG.out];exact ⟨HPM.out,HW.out,keep_two H1.out.2.2.2 HQ3.out⟩
     case measure=>simp [intOf];have:=HCC.out.2;omega
    ·subst hpq;go_upto_region 10 with (fail)
     go_region
     all_goals go_wp2
     go_roundw
     case rel=>
      refine ⟨u+1,z,swp dk u u,by go_num,by have:=HCC.out.1;omega,by have:=HCC.out.2;omega,HZ,hiD ?_⟩;rw [HG.out];exact ⟨HPM.out,HW.out,keep_two H1.out.2.2.2 HQ3.out⟩
     case measure=>simp [intOf];have:=HCC.out.2;omega
    ·skip
     go_upto_region 10 with (fail)
     go_region
     all_goals go_wp2
     go_roundw
     case rel=>
      refine ⟨u+1,z,swp dk u s,by go_num,by have:=HCC.out.1;omega,by have:=HCC.out.2;omega,HZ,hiD ?_⟩;rw [HG.out,HG.out];exact ⟨HPM.out,HW.out,keep_two H1.out.2.2.2 HQ3.out⟩
     case measure=>simp [intOf];have:=HCC.out.2;omega
  ·have huz:¬(u:Int)<=(a:Int)+(f:Int)*2+1:=by omega
   go_wp2;go_end0;exact ⟨rfl,_,HI.out.1,HI.out.2.1⟩
structure SwP (w:World) (b q s:Nat) (W:World):Prop where
 blk:W.heap[q]?=some (.cells #[.int .i64 (s:Int)] 3 (0,0))
 lo:w.heap.size<=q
 ne:q≠b
def Both (w:World) (b off n:Nat) (pre rest:List Value) (d:Array Int) (q s k:Nat) (W:World):Prop:=SR w b off n pre rest d W/\∃s',s'<=s+k/\SwP w b q s' W
theorem ord2_n {w W0:World} {b off n:Nat} {pre rest:List Value} {d:Array Int} (cap x y q s:Nat) (hs:SR w b off n pre rest d W0) (hq:SwP w b q s W0) (hx:x<n) (hy:y<n) (_hsz:n<1152921504606846976) (hss:s<=1000):
 Calls Tryz.prog 180 #[.slice (some ⟨b,off,none⟩) n cap,.int .i64 (x:Int),.int .i64 (y:Int),.pointer (some ⟨q,0,none⟩)] W0 fun e W=>∃u v:Nat,e=.returned (.tuple #[.int .i64 (u:Int),.int .i64 (v:Int)])/\(u=x/\v=y\/u=y/\v=x)/\Both w b off n pre rest d q s 1 W:=by
 have HS:=hiD hs;have HQ:=hiD hq;obtain ⟨G,hG⟩:∃G:Nat->Int,∀t,G t=d[t]!:=⟨fun t=>d[t]!,fun _=>rfl⟩;have HG:=hiD hG;have hcw:∀t,t<n->W0.cell? ⟨b,off+t,none⟩=some (.int .u32 (G t)):=fun t ht=>by rw [hG];exact hs.cell ht
 have hfw:∀t,t<n->W0.frozen? ⟨b,off+t,none⟩=false:=fun t _=>hs.frozen t
 have c0:W0.cell? ⟨q,0,none⟩=some (.int .i64 (s:Int)):=by simpa using blk_cell hq.blk 0
 have f0:W0.frozen? ⟨q,0,none⟩=false:=blk_frozen hq.blk 0;clear hs hq hG;go_enter Tryz.func180,Tryz.ntmps180;go_upto_region 1 with (fail)
 go_quiet (first|(go_at_call 140;refine Calls.quiet_of_same (less_n _ _ _)));go_wp2
 ·go_ret2
  refine ⟨y,x,rfl,.inr ⟨rfl,rfl⟩,(HS.out.drewN _).other HQ.out.lo HQ.out.ne 0 _,s+1,nLr _,⟨?_,HQ.out.lo,HQ.out.ne⟩⟩;have:=blk_set (w:=W0.drewN nq) HQ.out.blk 0 (.int .i64 ((s:Int)+1))
  simpa using this
 ·go_ret2
  exact ⟨x,y,rfl,.inl ⟨rfl,rfl⟩,HS.out.drewN _,s,by omega,HQ.out.blk,HQ.out.lo,HQ.out.ne⟩
theorem med_n {w W0:World} {b off n:Nat} {pre rest:List Value} {d:Array Int} (cap x y z q s:Nat) (hs:SR w b off n pre rest d W0) (hq:SwP w b q s W0) (hx:x<n) (hy:y<n) (hz:z<n) (hsz:n<1152921504606846976) (hss:s<=900):
 Calls Tryz.prog 165 #[.slice (some ⟨b,off,none⟩) n cap,.int .i64 (x:Int),.int .i64 (y:Int),.int .i64 (z:Int),.pointer (some ⟨q,0,none⟩)] W0 fun e W=>∃u:Nat,e=.returned (.int .i64 (u:Int))/\(u=x\/u=y\/u=z)/\Both w b off n pre rest d q s 3 W:=by
 have HC:=hiD (ord2_n cap x y q s hs hq hx hy hsz (by omega));clear hs hq;go_enter Tryz.func165,Tryz.ntmps165;go_upto_region 2 with (go_at_call 180;refine HC.out.mono ?_;rintro e1 W1 ⟨x1,y1,rfl,hxy1,hs1,s1,h1,hq1⟩)
 have hx1:x1<n:=by omega
 have hy1:y1<n:=by omega
 have HC2:=hiD (ord2_n cap y1 z q s1 hs1 hq1 hy1 hz hsz (by omega));go_upto_region 3 with (go_at_call 180;refine HC2.out.mono ?_;rintro e2 W2 ⟨y2,z2,rfl,hyz2,hs2,s2,h2,hq2⟩)
 have hy2:y2<n:=by omega
 have HC3:=hiD (ord2_n cap x1 y2 q s2 hs2 hq2 hx1 hy2 hsz (by omega))
 go_wp2_with (go_at_call 180;refine HC3.out.mono ?_;rintro e3 W3 ⟨x3,y3,rfl,hxy3,hs3,s3,h3,hq3⟩)
 go_ret;exact ⟨y3,rfl,by omega,hs3,s3,by omega,hq3⟩
theorem meda_n {w W0:World} {b off n:Nat} {pre rest:List Value} {d:Array Int} (cap x q s:Nat) (hs:SR w b off n pre rest d W0) (hq:SwP w b q s W0) (hx:1<=x) (hx2:x+1<n) (hsz:n<1152921504606846976) (hss:s<=900):
 Calls Tryz.prog 164 #[.slice (some ⟨b,off,none⟩) n cap,.int .i64 (x:Int),.pointer (some ⟨q,0,none⟩)] W0 fun e W=>∃u:Nat,e=.returned (.int .i64 (u:Int))/\(x<=u+1/\u<=x+1)/\Both w b off n pre rest d q s 3 W:=by
 obtain ⟨y,hy⟩:∃y,y=x - 1:=⟨_,rfl⟩;obtain ⟨z,hz⟩:∃z,z=x+1:=⟨_,rfl⟩;have hyz:(x:Int) - 1=(y:Int):=by omega
 have hzz:(x:Int)+1=(z:Int):=by omega
 have HC:=hiD (med_n cap y x z q s hs hq (by omega) (by omega) (by omega) hsz hss);have HE:=hiD (aI hy hz);clear hs hq hy hz;go_enter Tryz.func164,Tryz.ntmps164
 go_wp2_with (go_at_call 165;refine HC.out.mono ?_;rintro e1 W1 ⟨u,rfl,hu,hb⟩)
 go_ret;exact ⟨u,rfl,by have:=HE.out.1;have:=HE.out.2;omega,hb⟩
theorem piv_n {w W0:World} {b off n:Nat} {pre rest:List Value} {d:Array Int} (cap a e:Nat) (hs:SR w b off n pre rest d W0) (hae:a+13<=e) (he:e<=n) (hsz:n<1152921504606846976):
 Calls Tryz.prog 137 #[.slice (some ⟨b,off,none⟩) n cap,.int .i64 (a:Int),.int .i64 (e:Int)] W0 fun x W=>∃p h:Nat,x=.returned (.tuple #[.int .i64 (p:Int),.int .i64 (h:Int)])/\a<=p/\p<e/\h<=2/\SR w b off n pre rest d W:=by
 obtain ⟨l,hl⟩:∃l,l=e - a:=⟨_,rfl⟩;obtain ⟨f,hf⟩:∃f,f=l/4:=⟨_,rfl⟩;have hlz:(e:Int) - (a:Int)=(l:Int):=by omega
 have hfz:(l:Int)/4=(f:Int):=by omega
 have hl8:13<=l:=by omega
 have hal:a+l=e:=by omega
 have hfl:f*4<=l:=by omega
 have hf12:50<=l->12<=f:=by omega
 have HF12:=hiD hf12;obtain ⟨i,hi⟩:∃i,i=a+f:=⟨_,rfl⟩;obtain ⟨j,hj⟩:∃j,j=a+f*2:=⟨_,rfl⟩;obtain ⟨k,hk⟩:∃k,k=a+f*3:=⟨_,rfl⟩;have hiz:(a:Int)+(f:Int)=(i:Int):=by omega
 have hjz:(a:Int)+(f:Int)*2=(j:Int):=by omega
 have hkz:(a:Int)+(f:Int)*3=(k:Int):=by omega
 have HIJ:=hiD (aI hi (aI hj hk));obtain ⟨W1,hW1⟩:∃W,W=W0.alloc (Obj.cells #[.int .i64 0] 3):=⟨_,rfl⟩;have h1:SR w b off n pre rest d W1:=by rw [hW1];exact hs.alloc _
 have k1:W1.heap[W0.heap.size]?=some (.cells #[.int .i64 ((0:Nat):Int)] 3 (0,0)):=by rw [hW1];exact wAh W0 _
 have hq1:w.heap.size<=W0.heap.size:=hs.grown.size;have hq2:W0.heap.size≠b:=by have:=hs.lt;omega
 obtain ⟨q,hq⟩:∃q,q=W0.heap.size:=⟨_,rfl⟩;rw [<-hq] at k1 hq1 hq2;have H1:=hiD (aI h1 (SwP.mk k1 hq1 hq2));clear hs hl hf hf12 hi hj hk h1 k1 hq1 hq2 hae;go_enter Tryz.func137,Tryz.ntmps137;go_upto_region 6 with (fail)
 rw [<-hq,<-hW1];clear hq hW1;have hin:a<=i/\i<e/\a<=j/\j<e/\a<=k/\k<e:=by have:=HIJ.out;omega
 have HIN:=hiD hin;clear hin hlz hfz hkz hiz hjz
 go_upto_if 34 with (fail)
 go_cut [10,11,12] (fun s10 s11 s12 wx=>∃i2 j2 k2 s2:Nat,s10=.int .i64 (i2:Int)/\s11=.int .i64 (j2:Int)/\s12=.int .i64 (k2:Int)/\Hid (a<=i2/\i2<e/\a<=j2/\j2<e/\a<=k2/\k2<e)/\Hid (s2<=9/\SR w b off n pre rest d wx/\SwP w b q s2 wx))
 case first=>
  by_cases h50:50<=l
  ·have h50z:(50:Int)<=(l:Int):=by omega
   have hf:=HF12.out h50;obtain ⟨hi,hj,hk⟩:=HIJ.out;have HC1:=hiD (meda_n cap i q 0 H1.out.1 H1.out.2 (by omega) (by omega) hsz (by omega));have HII:=hiD (aI hi (aI hj (aI hk hf)));clear hi hj hk hf;go_upto_region 9 with (go_at_call 164;refine HC1.out.mono ?_;rintro e1 W2 ⟨i2,rfl,hi2,hs2,c2,hc2,hq2⟩)
   have HC2:=hiD (meda_n cap j q c2 hs2 hq2 (by have:=HII.out;omega) (by have:=HII.out;omega) hsz (by omega));go_upto_region 10 with (go_at_call 164;refine HC2.out.mono ?_;rintro e1 W3 ⟨j2,rfl,hj2,hs3,c3,hc3,hq3⟩)
   have HC3:=hiD (meda_n cap k q c3 hs3 hq3 (by have:=HII.out;omega) (by have:=HII.out;omega) hsz (by omega))
   go_wp2_with (go_at_call 164;refine HC3.out.mono ?_;rintro e1 W4 ⟨k2,rfl,hk2,hs4,c4,hc4,hq4⟩)
   go_meet;exact ⟨i2,j2,k2,c4,rfl,rfl,rfl,hiD (by have:=HII.out;omega),hiD ⟨by omega,hs4,hq4⟩⟩
  ·have h50z:¬(50:Int)<=(l:Int):=by omega
   go_wp2;go_meet;exact ⟨i,j,k,0,rfl,rfl,rfl,HIN,hiD ⟨by omega,H1.out.1,H1.out.2⟩⟩
 case rest=>
  obtain ⟨i2,j2,k2,s2,rfl,rfl,rfl,HIN2,HS2⟩:=hcut;have HC4:=hiD (med_n cap i2 j2 k2 q s2 HS2.out.2.1 HS2.out.2.2 (by have:=HIN2.out;omega) (by have:=HIN2.out;omega) (by have:=HIN2.out;omega) hsz (by have:=HS2.out.1;omega));go_upto_region 12 with (go_at_call 165;refine HC4.out.mono ?_;rintro e1 W5 ⟨p,rfl,hp,hs5,c5,hc5,hq5⟩)
  have hpr:a<=p/\p<e:=by have:=HIN2.out;omega
  have HPR:=hiD hpr;have HS5:=hiD hs5;have c0:W5.cell? ⟨q,0,none⟩=some (.int .i64 (c5:Int)):=by simpa using blk_cell hq5.blk 0
  clear hpr hp hs5 hq5 hc5
  by_cases h0:c5=0
  ·subst h0;go_wp2
   go_ret2
   exact ⟨p,1,rfl,HPR.out.1,HPR.out.2,by omega,HS5.out⟩
  ·have h0z:((c5:Int)==0)=false:=by simpa using h0
   have h0y:¬(c5:Int)=0:=by omega
   by_cases h12:c5=12
   ·subst h12;go_wp2
    go_ret2
    exact ⟨p,2,rfl,HPR.out.1,HPR.out.2,by omega,HS5.out⟩
   ·have h12z:((c5:Int)==12)=false:=by
     have:¬(c5:Int)=12:=by omega
     simpa using this
    have h12y:¬(c5:Int)=12:=by omega
    go_wp2
    go_ret2
    exact ⟨p,0,rfl,HPR.out.1,HPR.out.2,by omega,HS5.out⟩
def SortSR (w:World) (b off n:Nat) (pre rest:List Value) (a e:Nat) (d:Array Int) (W:World):Prop:=∃d',PermIn a e d d'/\SortedIn ltInt a e d'/\SR w b off n pre rest d' W
structure GoodQ (a e:Nat) (d:Array Int) (a2 e2:Nat) (dk:Array Int):Prop where
 size:dk.size=d.size
 le:a2<=e2
 hi:e2<=d.size
 below:Go.Sort.Below ltInt a2 e2 dk
 all:∀R,PermIn a2 e2 dk R->SortedIn ltInt a2 e2 R->PermIn a e d R/\SortedIn ltInt a e R
theorem GoodQ.start {a e:Nat} {d:Array Int} (h:a<=e) (he:e<=d.size) (hb:Go.Sort.Below ltInt a e d):GoodQ a e d a e d:=⟨rfl,h,he,hb,fun _ h1 h2=>⟨h1,h2⟩⟩
theorem GoodQ.perm {a e a2 e2:Nat} {d dk dj:Array Int} (h:GoodQ a e d a2 e2 dk) (hp:PermIn a2 e2 dk dj):GoodQ a e d a2 e2 dj:=
 ⟨hp.1.trans h.size,h.le,h.hi,Go.Sort.Below.perm h.below (by rw [h.size];exact h.hi) hp,fun R h1 h2=>h.all R (permIn_trans _ _ _ _ _ hp h1) h2⟩
theorem GoodQ.sorted {w W:World} {b off n a e a2 e2:Nat} {pre rest:List Value} {d dk dj:Array Int} (h:GoodQ a e d a2 e2 dk) (hp:PermIn a2 e2 dk dj) (hs:SortedIn ltInt a2 e2 dj) (hr:SR w b off n pre rest dj W):SortSR w b off n pre rest a e d W:=
 ⟨dj,(h.all dj hp hs).1,(h.all dj hp hs).2,hr⟩
theorem pdq_n {w:World} {b off n:Nat} {pre rest:List Value} (hsz:n<1152921504606846976):∀(N cap a e lim:Nat) (d:Array Int) (W0:World),e - a<N->SR w b off n pre rest d W0->a<=e->e<=n->lim<1152921504606846976->Go.Sort.Below ltInt a e d->
 Calls Tryz.prog 124 #[.slice (some ⟨b,off,none⟩) n cap,.int .i64 (a:Int),.int .i64 (e:Int),.int .i64 (lim:Int)] W0 fun x W=>x=.returned (.tuple #[])/\SortSR w b off n pre rest a e d W:=by
 intro N
 induction N with
 |zero=>intro _ _ _ _ _ _ h;exact absurd h (Nat.not_lt_zero _)
 |succ N ih=>
  intro cap a e lim d W0 hN hs hae he hlim hbel;have HIH:=hiD ih;have HG:=hiD (GoodQ.start hae (by rw [hs.size];exact he) hbel);have HS:=hiD hs;have HN:=hiD hN;have HE:=hiD (aI hae he);have HLM:=hiD hlim;clear ih hs hN hbel hae he hlim;go_enter Tryz.func124,Tryz.ntmps124;go_wp2
  go_loopw [1,2,3,8,9] (fun s1 s2 s3 s8 s9 wr=>∃(x y k:Nat) (wb wp:Bool) (dk:Array Int),s1=.int .i64 (x:Int)/\s2=.int .i64 (y:Int)/\s3=.int .i64 (k:Int)/\s8=.bool wb/\s9=.bool wp/\x<=y/\y<=n/\Hid (y - x<=e - a/\k<1152921504606846976)/\Hid (GoodQ a e d x y dk/\SR w b off n pre rest dk wr)) (fun s1 s2 _ _ _ _=>(intOf s2).toNat - (intOf s1).toNat)
  case atStart=>exact ⟨a,e,lim,true,true,d,rfl,rfl,rfl,rfl,rfl,HE.out.1,HE.out.2,hiD ⟨nLr _,HLM.out⟩,hiD ⟨HG.out,HS.out⟩⟩
  case round=>
   obtain ⟨x,y,k,wb,wp,dk,rfl,rfl,rfl,rfl,rfl,hxy,hyn,HXY,HI⟩:=hrel;have hyd:y<=dk.size:=by rw [HI.out.2.size];exact hyn
   have HYD:=hiD hyd;clear hyd
   by_cases h12:y - x<=12
   ·have h12z:(y:Int) - (x:Int)<=12:=by omega
    have HC:=hiD (ins_n cap x y HI.out.2 hxy hyn (by omega));have HP:=hiD (insertionSort_holds swo_ltInt dk x y hxy HYD.out)
    go_wp2_with (go_at_call 134;refine HC.out.mono ?_;rintro e1 W1 ⟨rfl,hs1⟩)
    go_returns
    exact ⟨rfl,HI.out.1.sorted HP.out.1 HP.out.2 hs1⟩
   ·have h12z:¬(y:Int) - (x:Int)<=12:=by omega
    have hxy13:x+13<=y:=by omega
    by_cases hk0:k=0
    ·subst hk0;have HC:=hiD (heap_n cap x y HI.out.2 (by omega) hyn hsz);have HP:=hiD (heapSort_holds (lt:=ltInt) swo_ltInt dk x y hxy HYD.out)
     go_wp2_with (go_at_call 135;refine HC.out.mono ?_;rintro e1 W1 ⟨rfl,hs1⟩)
     go_returns
     exact ⟨rfl,HI.out.1.sorted HP.out.1 HP.out.2 hs1⟩
    ·have hk0z:¬(k:Int)=0:=by omega
     have hk60:k<1152921504606846976:=HXY.out.2;have HX13:=hiD hxy13
     go_upto_if 35 with (fail)
     go_cut [3] (fun s3 wx=>∃(k2:Nat) (d2:Array Int),s3=.int .i64 (k2:Int)/\Hid (k2<1152921504606846976)/\Hid (GoodQ a e d x y d2/\SR w b off n pre rest d2 wx))
     case first=>
      cases wb with
      |false=>
       have HC:=hiD (brk_n cap x y HI.out.2 hxy13 hyn hsz)
       go_wp2_with (go_at_call 136;refine HC.out.mono ?_;rintro e1 W1 ⟨rfl,d2,hp2,hs2⟩)
       go_meet;exact ⟨k - 1,d2,by congr 1;omega,hiD (by have:=HXY.out.2;omega),hiD ⟨HI.out.1.perm hp2,hs2⟩⟩
      |true=>
       go_wp2;go_meet;exact ⟨k,dk,rfl,hiD HXY.out.2,HI⟩
     case rest=>
      obtain ⟨k2,d2,rfl,HK2,HI2⟩:=hcut;clear hk0z hk0 hk60;have HC:=hiD (piv_n cap x y HI2.out.2 hxy13 hyn hsz)
      go_upto_if 50 with (go_at_call 137;refine HC.out.mono ?_;rintro e1 W2 ⟨p,h,rfl,hp1,hp2,hh,hs3⟩)
      have HS3:=hiD hs3;clear hs3;go_cut [11,12] (fun s11 s12 wx=>∃(p2 h2:Nat) (d3:Array Int),s11=.int .i64 (p2:Int)/\s12=.int .i64 (h2:Int)/\x<=p2/\p2<y/\Hid (GoodQ a e d x y d3/\SR w b off n pre rest d3 wx))
      case first=>
       by_cases hh2:h=2
       ·subst hh2;have HC2:=hiD (rev_n cap x y HS3.out (by omega) hyn hsz);have HP:=hiD (reverseRange_holds d2 x y hxy (by rw [HS3.out.size];exact hyn))
        go_wp2_with (go_at_call 138;refine HC2.out.mono ?_;rintro e2 W3 ⟨rfl,hs4⟩)
        go_meet;exact ⟨y - 1 - (p - x),1,_,by congr 1;omega,rfl,by omega,by omega,hiD ⟨HI2.out.1.perm HP.out,hs4⟩⟩
       ·have hh2z:((h:Int)==2)=false:=by
         have:¬(h:Int)=2:=by omega
         simpa using this
        have hh2y:¬(h:Int)=2:=by omega
        go_wp2;go_meet;exact ⟨p,h,d2,rfl,rfl,hp1,hp2,hiD ⟨HI2.out.1,HS3.out⟩⟩
      case rest=>
       obtain ⟨p2,h2,d3,rfl,rfl,hp3,hp4,HI3⟩:=hcut;clear hp1 hp2 hh;go_upto_region 15 with (fail)
       go_cut [68] (fun s68 wx=>wc=wx/\∃t:Bool,s68=.bool t)
       case first=>
        cases wb<;>cases wp<;>(go_wp2;go_meet;exact ⟨rfl,_,rfl⟩)
       case rest=>
        obtain ⟨rfl,t,rfl⟩:=hcut
        go_upto_if 68 with (fail)
        go_cut [] (fun wx=>∃d4:Array Int,Hid (GoodQ a e d x y d4/\SR w b off n pre rest d4 wx))
        case first=>
         cases t with
         |false=>
          go_wp2;go_meet;exact ⟨d3,HI3⟩
         |true=>
          have HC3:=hiD (pins_n cap x y HI3.out.2 (by omega) hyn hsz);have HP:=hiD (partialInsertionSort_holds swo_ltInt d3 x y (by omega) (by rw [HI3.out.2.size];exact hyn) HI3.out.1.below);obtain ⟨d4,hd4⟩:∃q,q=partialInsertionSort ltInt d3 x y:=⟨_,rfl⟩;rw [<-hd4] at HC3 HP;obtain ⟨d4,ok⟩:=d4;dsimp only at HC3 HP;clear hd4
          cases ok with
          |true=>
           go_wp2_with (go_at_call 139;refine HC3.out.mono ?_;rintro e3 W4 ⟨rfl,hs5⟩)
           go_returns
           exact ⟨rfl,HI3.out.1.sorted HP.out.1 (HP.out.2 (by simp)) hs5⟩
          |false=>
           go_wp2_with (go_at_call 139;refine HC3.out.mono ?_;rintro e3 W4 ⟨rfl,hs5⟩)
           go_meet;exact ⟨d4,hiD ⟨HI3.out.1.perm HP.out.1,hs5⟩⟩
        case rest=>
         obtain ⟨d4,HI4⟩:=hcut;clear HI3 HI2 HI;obtain ⟨G,hG⟩:∃G:Nat->Int,∀t,G t=d4[t]!:=⟨fun t=>d4[t]!,fun _=>rfl⟩;have HGG:=hiD hG;clear hG;have hcw:∀t,t<n->wc.cell? ⟨b,off+t,none⟩=some (.int .u32 (G t)):=fun t ht=>by rw [HGG.out];exact HI4.out.2.cell ht
         have hfw:∀t,t<n->wc.frozen? ⟨b,off+t,none⟩=false:=fun t _=>HI4.out.2.frozen t
         obtain ⟨tb,htb⟩:∃t,t=(decide (0<x)&&!ltInt (G (x - 1)) (G p2)):=⟨_,rfl⟩;have HTB:=hiD htb;clear htb;go_upto_region 17 with (fail)
         go_cut [87] (fun s87 wx=>s87=.bool tb/\Hid (SR w b off n pre rest d4 wx))
         case first=>
          by_cases hx0:0<x
          ·have hx0z:(0:Int)<(x:Int):=by omega
           go_quiet (first|(go_at_call 140;refine Calls.quiet_of_same (less_n _ _ _)));go_wp2;go_meet;exact ⟨by rw [HTB.out,decide_eq_true hx0,Bool.true_and],hiD (HI4.out.2.drewN _)⟩
          ·have hx0z:¬(0:Int)<(x:Int):=by omega
           go_quiet (first|(go_at_call 140;refine Calls.quiet_of_same (less_n _ _ _)));go_wp2;go_meet;exact ⟨by rw [HTB.out,decide_eq_false hx0,Bool.false_and],hiD (HI4.out.2.drewN _)⟩
         case rest=>
          obtain ⟨rfl,HS6⟩:=hcut;clear hcw hfw
          cases tb with
          |true=>
           obtain ⟨hx0,hnl⟩:=and_parts HTB.out.symm
           have hnl2:ltInt d4[x - 1]! d4[p2]! =false:=by
            rw [HGG.out,HGG.out] at hnl
            simpa using hnl
           have HC5:=hiD (peq_n cap x y p2 HS6.out hp3 hp4 hyn hsz);have HRE:=hiD (fun (mid:Nat) (d5:Array Int) (hx:partitionEqual ltInt d4 x y p2=(mid,d5))=>round_eq swo_ltInt (partitionEqual_holds ltInt) hx0 hp3 hp4 (by rw [HS6.out.size];exact hyn) HI4.out.1.below hnl2 hx);obtain ⟨⟨mid,d5⟩,hd5⟩:∃q,q=partitionEqual ltInt d4 x y p2:=⟨_,rfl⟩;rw [<-hd5] at HC5;dsimp only at HC5;obtain ⟨r1,r2,r3,r4,r5⟩:=HRE.out mid d5 hd5.symm;have HRR:=hiD (aI r1 (aI r2 (aI r3 (aI r4 r5))));clear hd5 hnl hnl2 r1 r2 r3 r4 r5
           go_wp2_with (go_at_call 141;refine HC5.out.mono ?_;rintro e3 W5 ⟨rfl,hs7⟩)
           obtain ⟨r1,r2,r3,r4,r5⟩:=HRR.out
           go_roundw
           case rel=>
            refine ⟨mid,y,k2,wb,wp,d5,rfl,rfl,rfl,rfl,rfl,r2,hyn,hiD ⟨by have:=HXY.out.1;omega,HK2.out⟩,hiD ⟨⟨r3.trans HI4.out.1.size,r2,HI4.out.1.hi,r4,fun R h1 h2=>?_⟩,hs7⟩⟩;obtain ⟨u1,u2⟩:=r5 R h1 h2;exact HI4.out.1.all R u1 u2
           case measure=>simp [intOf];omega
          |false=>
           have HC5:=hiD (par_n cap x y p2 HS6.out hp3 hp4 hyn hsz);have HRE:=hiD (fun (mid:Nat) (ap:Bool) (d5:Array Int) (hx:partition ltInt d4 x y p2=(mid,ap,d5))=>round_part swo_ltInt (partition_holds ltInt) hp3 hp4 (by rw [HS6.out.size];exact hyn) HI4.out.1.below hx);obtain ⟨⟨mid,ap,d5⟩,hd5⟩:∃q,q=partition ltInt d4 x y p2:=⟨_,rfl⟩;rw [<-hd5] at HC5;dsimp only at HC5;obtain ⟨r1,r2,r3,r4,r5,r6,r7⟩:=HRE.out mid ap d5 hd5.symm;have HRR:=hiD (aI r3 (aI r4 (aI r5 (aI r6 r7))));clear hd5 r3 r4 r5 r6 r7
           go_upto_if 113 with (go_at_call 142;refine HC5.out.mono ?_;rintro e3 W5 ⟨rfl,hs7⟩)
           have HS7:=hiD hs7;clear hs7;have hxm:x+13<=y:=HX13.out
           by_cases hlr:mid - x<y - mid
           ·have hlrz:(mid:Int) - (x:Int)<(y:Int) - (mid:Int):=by omega
            have HCR:=hiD (HIH.out cap x mid k2 d5 W5 (by have:=HXY.out.1;have:=HN.out;omega) HS7.out r1 (by omega) HK2.out HRR.out.2.1)
            go_wp2_with (go_at_call 124;refine HCR.out.mono ?_;rintro e4 W6 ⟨rfl,d6,hp6,hs6,hs8⟩)
            go_roundw
            case rel=>
             obtain ⟨u1,u2⟩:=HRR.out.2.2.2.1 d6 hp6 hs6;refine ⟨mid+1,y,k2,_,ap,d6,by go_num,rfl,rfl,rfl,rfl,by omega,hyn,hiD ⟨by have:=HXY.out.1;omega,HK2.out⟩,hiD ⟨⟨hp6.1.trans (HRR.out.1.trans HI4.out.1.size),by omega,HI4.out.1.hi,u1,fun R h1 h2=>?_⟩,hs8⟩⟩;obtain ⟨v1,v2⟩:=u2 R h1 h2;exact HI4.out.1.all R v1 v2
            case measure=>simp [intOf];omega
           ·have hlrz:¬(mid:Int) - (x:Int)<(y:Int) - (mid:Int):=by omega
            obtain ⟨m1,hm1⟩:∃m1,m1=mid+1:=⟨_,rfl⟩;have hm1z:(mid:Int)+1=(m1:Int):=by omega
            have HCR:=hiD (HIH.out cap (mid+1) y k2 d5 W5 (by have:=HXY.out.1;have:=HN.out;omega) HS7.out (by omega) hyn HK2.out HRR.out.2.2.1);rw [<-hm1] at HCR;have HM1:=hiD hm1;clear hm1
            go_wp2_with (go_at_call 124;refine HCR.out.mono ?_;rintro e4 W6 ⟨rfl,d6,hp6,hs6,hs8⟩)
            go_roundw
            case rel=>
             rw [HM1.out] at hp6 hs6;obtain ⟨u1,u2⟩:=HRR.out.2.2.2.2 d6 hp6 hs6;refine ⟨x,mid,k2,_,ap,d6,rfl,rfl,rfl,rfl,rfl,r1,by omega,hiD ⟨by have:=HXY.out.1;omega,HK2.out⟩,hiD ⟨⟨hp6.1.trans (HRR.out.1.trans HI4.out.1.size),r1,by have:=HI4.out.1.hi;omega,u1,fun R h1 h2=>?_⟩,hs8⟩⟩;obtain ⟨v1,v2⟩:=u2 R h1 h2;exact HI4.out.1.all R v1 v2
            case measure=>simp [intOf];omega
end Go.Proofs.YtfjmdkhemnmkpaaGreatDoor
namespace Go.Proofs.YtfjmdkhemnmkpaaGreatDoor
open Go.Maps Go.RowKit
attribute [local go_sem] Oper.semAt_some
theorem infoU:(Tryz.prog.info? 54).map (fun i=>(i.zero,i.size,i.bytes))=some (some (.int .u32 0),1,4):=by kernel_rfl
theorem infoU_parts:∃i,Tryz.prog.info? 54=some i/\i.zero=some (.int .u32 0)/\i.size=1/\i.bytes=4:=by
 have h:=infoU
 cases hi:Tryz.prog.info? 54 with
 |none=>rw [hi] at h;cases h
 |some i=>rw [hi] at h;simp at h;exact ⟨i,rfl,h.1,h.2.1,h.2.2⟩
abbrev cV (c:Nat):Value:=.int .u32 (c:Int)
def keysVS (g:Nat):Value:=.func (.func 103) #[] #[.pointer (some ⟨g,0,none⟩)]
theorem keys_anyS (p:Option Nat) (w:World):Calls Tryz.prog 82 #[.map p] w fun e W'=>e=.returned (keysVS w.heap.size)/\W'=w.alloc (.cells #[.map p] 123):=by
 go_enter Tryz.func82,Tryz.ntmps82;go_wp2;go_ret;exact ⟨rfl,rfl⟩
def GatherJ (w:World) (gb:Nat) (ss:List Nat) (W:World):Prop:=Go.RowKit.Below w.heap.size w W/\w.heap.size<=gb/\∃v,W.heap[gb]?=some (.cells #[v] 147 (0,0))/\W.ownsRow w.heap.size 54 1 v ss.length (ss.map cV)
theorem GatherJ.walk {w:World} {gb B:Nat} (hB:w.heap.size<=B) (ss:List Nat) (W W':World) (row:Option Nat) (h:GatherJ w gb ss W) (hg:W.grownBy W' row) (hr:∀r,row=some r->B<=r/\∃o:Obj,W.heap[r]?=some o/\o.isWalk=true):GatherJ w gb ss W':=by
 obtain ⟨h1,h2,v,h3,h4⟩:=h;have hn:∀r,row=some r->B<=r/\∃o:Obj,W.heap[r]?=some o/\o.isCells=false:=fun r e=>⟨(hr r e).1,by obtain ⟨o,k1,k2⟩:=(hr r e).2;exact ⟨o,k1,Obj.not_cells_of_walk k2⟩⟩
 exact ⟨Abides.below (nLr _) hB W W' row h1 hg hn,h2,v,Abides.block W W' row h3 hg hn,Abides.own W W' row h4 hg hn⟩
theorem GatherJ.abides {w:World} {gb B:Nat} (hB:w.heap.size<=B) (ss:List Nat):AbidesL B (GatherJ w gb ss):=
 Abides.l ((Abides.below (nLr _) hB).and ((Abides.pure _).and (Abides.ex fun _=>Abides.block.and Abides.own)))
theorem apps_in (g b:Nat) (l:List SE) (hso:SortedE l) (hl:l.length<=1000000) (w:World) (hm:MapQS w b l) (hg:w.heap[g]?=some (.cells #[.map (some b)] 123 (0,0))):
 CallsIn Fence.wide 5 Tryz.prog 123 #[.slice none 0 0,keysVS g] w fun e W'=>∃(v:Value) (ss:List Nat),e=.returned v/\ss.Perm (l.map (·.cl))/\W'.ownsRow w.heap.size 54 1 v ss.length (ss.map cV)/\Go.RowKit.Below w.heap.size w W':=by
 have HM:=hiD hm;have HGB:=hiD hg;have HSL:=hiD (aI hso hl);clear hm hg hso hl;unfold keysVS;refine callsIn_of_wp_marks Tryz.func123 rfl trivial ?_ rfl;simp only [Tryz.ntmps123,List.size_toArray,List.length_cons,List.length_nil,Nat.reduceAdd,Nat.reduceSub,Array.replicate_succ,Array.replicate_zero,List.push_toArray,List.append_toArray,List.nil_append,List.cons_append];gi_wp2;obtain ⟨W0,hW0⟩:∃W0,W0=w.alloc (.cells #[.slice none 0 0] 147):=⟨_,rfl⟩;rw [<-hW0];have hb0:Go.RowKit.Below w.heap.size w W0:=by rw [hW0];exact (Go.RowKit.Below.refl _ w).alloc (nLr _) _
 have k0:W0.heap[w.heap.size]?=some (.cells #[.slice none 0 0] 147 (0,0)):=by rw [hW0];exact wAh w _
 obtain ⟨gb,hgb⟩:∃q,q=w.heap.size:=⟨_,rfl⟩;rw [<-hgb] at k0;rw [<-hgb];have HB0:=hiD (aI hb0 (aI k0 (aI hgb (show W0.heap.size=w.heap.size+1 by rw [hW0];exact Array.size_push _))));have hBW:w.heap.size<=W0.heap.size:=hb0.size;have hglt:g<w.heap.size:=(geS.1 HGB.out).1;have hJ0:GatherJ w gb [] W0:=⟨hb0,by rw [hgb];exact nLr _,_,k0,World.ownsRow_nil _ _ _ _⟩
 have hc0:W0.cell? ⟨g,0,none⟩=some (.map (some b)):=by
  have:=blk_cell ((hb0.block g hglt).trans HGB.out) 0
  simpa using this
 have hm0:MapQS W0 b l:=HM.out.below hb0;have HI0:=hiD (aI hJ0 (aI (nLr W0.heap.size) (aI hm0 hc0)));clear hb0 k0 hgb hJ0 hc0 hm0 hW0 hglt;have hSz:AbidesL W0.heap.size (fun W=>W0.heap.size<=W.heap.size):=fun _ _ _ h hg _=>nLt h hg.size
 refine wpIn_rangeFunc_tiedL rfl (by omega) (gf:=103) (fb:=#[]) (lb:=#[.pointer (some ⟨g,0,none⟩)]) rfl trivial (enters_of Tryz.func103 (by kernel_rfl) rfl) (encs:=fun x:KeyX=>#[.int .u32 (x.c:Int)]) (fun _=>rfl)
  ((GatherJ.abides hBW []).and (hSz.and (AbidesL.owns.and Abides.cell.l))) (AbidesL.ex fun ss=>(Abides.pure _).l.and (GatherJ.abides hBW ss)) (fun x=>((GatherJ.abides hBW x.ss).and (Abides.pure _).l).and AbidesL.ranges) (fun x=>(GatherJ.abides hBW (x.ss++[x.c])).and AbidesL.ranges) (fun _=>(Abides.pure _).l) (fun _=>(Abides.pure _).l)
  (keys_seq 4 (by omega) g b l HSL.out.1 W0.heap.size (GatherJ w gb) (fun ss W W' row h hg hr=>GatherJ.walk hBW ss W W' row h hg hr)) HI0.out
  (fun x=>{tmps:=#[.slice none 0 0,.func (.func 103) #[] #[.pointer (some ⟨g,0,none⟩)],.pointer (some ⟨gb,0,none⟩),undef,.slice none 0 0,.int .u32 (x.c:Int),.func (.func 103) #[] #[.pointer (some ⟨g,0,none⟩)],.int .u32 (x.c:Int),undef,undef,undef,undef,undef],defers:=[]}) ?assign ?body ?done ?stop
 case assign=>
  intro y x W K hK;gi_wp2;exact hK
 case body=>
  rintro y ⟨ss,c,r,left,cnt⟩ W ⟨⟨hJ,hlen⟩,hrg⟩ hlt;dsimp only at hJ hlen hrg ⊢;obtain ⟨hb,hg,v,hv,ho⟩:=hJ;obtain ⟨i0,hi,hz0,hz1,hz2⟩:=infoU_parts;have hc:W.cell? ⟨gb,0,none⟩=some v:=by simpa using blk_cell hv 0
  have hf:W.frozen? ⟨gb,0,none⟩=false:=blk_frozen hv 0;have hgl:gb<W.heap.size:=(geS.1 hv).1;have HL:=hiD (aI hlen HSL.out.2);have HRG:=hiD hrg;clear hrg hlen;obtain ⟨n1,hn1⟩:∃q,q=ss.length:=⟨_,rfl⟩;rw [<-hn1] at ho;have HN1:=hiD hn1;have hn1m:n1+1<=1000000:=by have:=HL.out;omega
  clear hn1
  gi_wp2_with (first
   |(
    gi_at_builtin
    refine wpListIn_append_own _ rfl _ _ 147 rfl w.heap.size 54 i0 (.int .u32 0) 1 4 Tryz.underlying147 hi hz0 hz1 hz2 rfl (by decide) v n1 (ss.map cV) rfl (ho.alloc _) ⟨W.heap.size,0,none⟩ 1 1 [cV c] rfl rfl (cell_one_new _ _ _) (by simp [Value.oneCell',cV]) (by simp only [maxLen];omega) (by omega) (by have:=hb.size;simp;omega) ?_;intro v' w3 hown' hg3 _;obtain ⟨A3,c3,rfl⟩:=own_form hown';have hv3:w3.heap[gb]?=some (.cells #[v] 147 (0,0)):=SameT.grown hg3 (own_typed (ho.alloc _)) _ _ _ (by decide) ((Go.RowKit.Below.heap_alloc _ _ gb hgl).trans hv);have hc3:w3.cell? ⟨gb,0,none⟩=some v:=by simpa using blk_cell hv3 0
    have hf3:w3.frozen? ⟨gb,0,none⟩=false:=blk_frozen hv3 0;have HW3:=hiD (aI hown' (aI hg3 hv3));clear hown' hg3 hv3)
   |gi_in)
  obtain ⟨hown',hg3,hv3⟩:=HW3.out;have kA:KeepsOthers W (W.alloc (.cells #[cV c] 54)):=KeepsOthers.alloc _ _
  have kB:KeepsOthers (W.alloc (.cells #[cV c] 54)) w3:=KeepsOthers.of_grownBy hg3 (fun j o e ho'=>by
   obtain ⟨cs,hcs⟩:=own_typed (ho.alloc _) j e;rw [hcs] at ho'
   cases ho'
   rfl)
  have kC:=kA.trans (kB.trans (KeepsOthers.setCell w3 ⟨gb,0,none⟩ (.slice A3 (n1+1) c3)));have hb3:Go.RowKit.Below w.heap.size w w3:=(hb.alloc hb.size _).grown hg3 (by have:=hb.size;simp;omega) (fun k e=>(ho.lt k e).1);refine ⟨kC.from _,⟨hb3.setCell (p:=⟨gb,0,none⟩) hg _,hg,_,blk_set hv3 0 _,?_⟩,HRG.out.of_walks kC.walks⟩;have ho4:=(SameT.set (i:=0) hv3 (.slice A3 (n1+1) c3)).own hown' (by decide);rw [List.length_append,List.length_singleton,<-HN1.out,List.map_append];exact ho4
 case done=>
  rintro D W hD ⟨ss,hp,hb,hg,v,hv,ho⟩ hK;have hc:=blk_cell hv 0;simp at hc;obtain ⟨A9,c9,rfl⟩:=own_form ho;obtain ⟨n9,hn9⟩:∃q,q=ss.length:=⟨_,rfl⟩;rw [<-hn9] at ho hc;have HD:=hiD (aI hp (aI hb (aI ho (aI hn9 hK))));have hDw:w.heap.size<=D:=nLt hBW hD;clear hp hb ho hn9 hK hv hg;gi_wp2
  have hr:∀r,some D=some r->w.heap.size<=r/\∃o,W.heap[r]?=some o/\o.isCells=false:=fun r e=>by
   cases e
   exact ⟨hDw,_,HD.out.2.2.2.2,rfl⟩
  have e1:=Abides.own (B:=w.heap.size) W _ (some D) HD.out.2.2.1 (grownBy_putObj' W D (.deferred none)) hr;have e2:=Abides.below (nLr w.heap.size) (nLr w.heap.size) W _ (some D) HD.out.2.1 (grownBy_putObj' W D (.deferred none)) hr;refine ⟨by simp,.inl ⟨_,_,rfl,run_takeDeferred HD.out.2.2.2.2,?_⟩⟩;refine ⟨.slice A9 n9 c9,(results_tmp (fn:=Tryz.f123) (t:=4) rfl _ _ _).trans rfl,.slice A9 n9 c9,ss,rfl,HD.out.1,?_,e2⟩;rw [<-HD.out.2.2.2.1];exact e1
 case stop=>
  intro D cc W hD hf;exact hf.elim
theorem apps_nil_in (g:Nat) (w:World) (hg:w.heap[g]?=some (.cells #[.map none] 123 (0,0))):
 CallsIn Fence.wide 5 Tryz.prog 123 #[.slice none 0 0,keysVS g] w fun e W'=>e=.returned (.slice none 0 0)/\Go.RowKit.Below w.heap.size w W':=by
 have HGB:=hiD hg;clear hg;unfold keysVS;refine callsIn_of_wp_marks Tryz.func123 rfl trivial ?_ rfl;simp only [Tryz.ntmps123,List.size_toArray,List.length_cons,List.length_nil,Nat.reduceAdd,Nat.reduceSub,Array.replicate_succ,Array.replicate_zero,List.push_toArray,List.append_toArray,List.nil_append,List.cons_append];gi_wp2;obtain ⟨W0,hW0⟩:∃W0,W0=w.alloc (.cells #[.slice none 0 0] 147):=⟨_,rfl⟩;rw [<-hW0];have hb0:Go.RowKit.Below w.heap.size w W0:=by rw [hW0];exact (Go.RowKit.Below.refl _ w).alloc (nLr _) _
 have k0:W0.heap[w.heap.size]?=some (.cells #[.slice none 0 0] 147 (0,0)):=by rw [hW0];exact wAh w _
 obtain ⟨gb,hgb⟩:∃q,q=w.heap.size:=⟨_,rfl⟩;rw [<-hgb] at k0;rw [<-hgb];have hBW:w.heap.size<=W0.heap.size:=hb0.size;have hglt:g<w.heap.size:=(geS.1 HGB.out).1;obtain ⟨J,hJd⟩:∃J:World->Prop,J=fun W=>Go.RowKit.Below w.heap.size w W/\W.heap[gb]?=some (.cells #[.slice none 0 0] 147 (0,0)):=⟨_,rfl⟩
 have hJa:Abides W0.heap.size J:=by rw [hJd];exact (Abides.below (nLr _) hBW).and Abides.block
 have hc0:W0.cell? ⟨g,0,none⟩=some (.map none):=by
  have:=blk_cell ((hb0.block g hglt).trans HGB.out) 0
  simpa using this
 have HI0:=hiD (aI (show J W0 by rw [hJd];exact ⟨hb0,k0⟩) hc0);have HJD:=hiD hJd;clear hb0 k0 hc0 hW0 hglt hJd hgb
 refine wpIn_rangeFunc_tiedL rfl (by omega) (gf:=103) (fb:=#[]) (lb:=#[.pointer (some ⟨g,0,none⟩)]) rfl trivial (enters_of Tryz.func103 (by kernel_rfl) rfl) (encs:=fun x:KeyX=>#[.int .u32 (x.c:Int)]) (fun _=>rfl)
  (hJa.l.and Abides.cell.l) hJa.l (fun _=>(Abides.pure _).l) (fun _=>(Abides.pure _).l) (fun _=>(Abides.pure _).l) (fun _=>(Abides.pure _).l)
  (keys_nil_seq 4 g W0.heap.size J (fun W W' row h hg hr=>hJa W W' row h hg (fun r e=>⟨(hr r e).1,by obtain ⟨o,k1,k2⟩:=(hr r e).2;exact ⟨o,k1,Obj.not_cells_of_walk k2⟩⟩))) HI0.out
  (fun x=>{tmps:=#[.slice none 0 0,.func (.func 103) #[] #[.pointer (some ⟨g,0,none⟩)],.pointer (some ⟨gb,0,none⟩),undef,.slice none 0 0,.int .u32 (x.c:Int),.func (.func 103) #[] #[.pointer (some ⟨g,0,none⟩)],.int .u32 (x.c:Int),undef,undef,undef,undef,undef],defers:=[]}) ?assign ?body ?done ?stop
 case assign=>
  intro y x W K hK;gi_wp2;exact hK
 case body=>
  intro y x W hf;exact hf.elim
 case done=>
  intro D W hD hJW hK;rw [HJD.out] at hJW;obtain ⟨hb,hv⟩:=hJW;have hc:=blk_cell hv 0;simp at hc;have HD:=hiD (aI hb hK);have hDw:w.heap.size<=D:=nLt hBW hD;clear hb hK hv hJa;gi_wp2
  have hr:∀r,some D=some r->w.heap.size<=r/\∃o,W.heap[r]?=some o/\o.isCells=false:=fun r e=>by
   cases e
   exact ⟨hDw,_,HD.out.2,rfl⟩
  have e2:=Abides.below (nLr w.heap.size) (nLr w.heap.size) W _ (some D) HD.out.1 (grownBy_putObj' W D (.deferred none)) hr;refine ⟨by simp,.inl ⟨_,_,rfl,run_takeDeferred HD.out.2,?_⟩⟩;exact ⟨.slice none 0 0,(results_tmp (fn:=Tryz.f123) (t:=4) rfl _ _ _).trans rfl,rfl,e2⟩
 case stop=>
  intro D cc W hD hf;exact hf.elim
end Go.Proofs.YtfjmdkhemnmkpaaGreatDoor
