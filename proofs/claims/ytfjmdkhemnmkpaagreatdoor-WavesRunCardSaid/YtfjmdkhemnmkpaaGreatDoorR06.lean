/- Parts of the proof: MCqA, ShelfL, MKqT. -/
import Derived.Test.YtfjmdkhemnmkpaaGreatDoorR03
import Derived.Test.YtfjmdkhemnmkpaaGreatDoorR04
import Derived.LoopTactic
import Derived.Shelf.Small.Bits
import Derived.Shelf.Strconv.Itoa0
import Derived.Shelf.Strconv.Itoa1
import Derived.Shelf.LaysM
import Derived.Shelf.Strconv.Itoa2
import Derived.Shelf.Strconv.Itoa3
import Derived.Shelf.Strconv.Itoa4
import Derived.Shelf.Strconv.ParseIntEmpty
import Derived.Shelf.Strconv.Clone
import Derived.Shelf.Strconv.SyntaxError
import Derived.Shelf.LaysC
import Derived.Shelf.Strconv.ToError
import Derived.Shelf.Strconv.Lower
import Derived.Shelf.Strconv.ParseUint10
import Derived.Shelf.Strconv.ParseUint10Empty
import Derived.Shelf.Strconv.ParseUint10Any
import Derived.Shelf.Strconv.ParseInt10
import Derived.Shelf.Strconv.RangeError
import Derived.Shelf.Strconv.ToErrorRange
import Derived.Shelf.Strconv.ParseUintEmpty
import Derived.Shelf.Strconv.ParseUint10b64
import Derived.Shelf.Strconv.ParseUint10b32
import Derived.Shelf.Strconv.ParseUint10b16
import Derived.Shelf.Strconv.ParseUint10b8
import Derived.Shelf.Strconv.ParseUint10At
import Derived.Shelf.Strconv.ParseInt10At64
import Derived.Shelf.Strconv.ParseInt10At32
import Derived.Shelf.Strconv.ParseInt10At16
import Derived.Shelf.Strconv.ParseInt10At8
import Derived.Shelf.Strconv.ParseInt10All
import Derived.Shelf.Strconv.ParseIntPublic10
import Derived.Shelf.Strconv.ErrVarParseInt
import Derived.Ground.SlgmProg
import Derived.Shelf.SortM.Plain
import Derived.Shelf.SortM.SortNone
import Derived.Test.YtfjmdkhemnmkpaaGreatDoorProg
import Derived.Lib.ItoaNum
import Derived.Lib.ParseIntBTie
import Derived.Lib.AppendIntMem
set_option maxRecDepth 100000
set_option maxHeartbeats 8000000
namespace Go.Proofs.YtfjmdkhemnmkpaaGreatDoor
open Go.RowKit
def leastT (k:Nat):Nat:=if k=0 then 0 else if k=6 then 2 else 1
def mostT (k:Nat):Nat:=if k=0 then 0 else if k=6 then 2 else if k=7 then 16 else if k=8 then 16 else 1
def TabQ (w:World):Prop:=0<w.heap.size/\∀i,i<9->w.cell? ⟨0,i*2,none⟩=some (.int .i64 (leastT i:Int))/\w.cell? ⟨0,i*2+1,none⟩=some (.int .i64 (mostT i:Int))
theorem TabQ.grew {w w':World} (h:TabQ w) (hb:Below w.heap.size w w'):TabQ w':=
 ⟨nLl h.1 hb.size,fun i hi=>⟨(hb.cell (p:=⟨0,i*2,none⟩) h.1).trans (h.2 i hi).1,(hb.cell (p:=⟨0,i*2+1,none⟩) h.1).trans (h.2 i hi).2⟩⟩
def badK (s:ByteArray):Bool:=decide (s.size=0\/32<s.size)
theorem wrong_any (s:ByteArray) (hs:s.size<=maxLen) (w:World):Calls Tryz.prog 107 #[.string s] w fun e W'=>e=.returned (.bool (badK s))/\W'=w:=by
 have hs64:(s.size:Int)<=9223372036854775807:=by simp only [maxLen] at hs;omega
 by_cases h0:s.size=0
 ·obtain rfl:=size0.1 h0;go_enter Tryz.func107,Tryz.ntmps107;go_wp2
  all_goals
   go_ret;exact ⟨rfl,rfl⟩
 ·have hne:s.toList.isEmpty=false:=by rw [toE];simpa using h0
  have hne2:¬s.toList=[]:=by rw [toNil];exact h0
  by_cases h1:32<s.size
  ·have h1i:(32:Int)<s.size:=by omega
   have hb:badK s=true:=by simp [badK,h1]
   have HB:=hiD hb;clear hb;go_enter Tryz.func107,Tryz.ntmps107;go_wp2
   all_goals
    go_ret;exact ⟨by rw [HB.out];first|rfl|simp_all,rfl⟩
  ·have h1i:¬(32:Int)<s.size:=by omega
   have hb:badK s=false:=by simp [badK,h1,h0]
   have HB:=hiD hb;clear hb;go_enter Tryz.func107,Tryz.ntmps107;go_wp2
   all_goals
    go_ret;exact ⟨by rw [HB.out];first|rfl|simp_all,rfl⟩
def badTo (ks:List ByteArray) (k:Nat):Prop:=∀j (h:j<ks.length),j<k->badK ks[j]=false
theorem badTo_all {ks:List ByteArray} (h:badTo ks ks.length):ks.any badK=false:=by
 rw [List.any_eq_false];intro x hx;obtain ⟨j,hj,rfl⟩:=List.getElem_of_mem hx;simp [h j hj hj]
structure IdxP (b:Bool) (z:Int):Prop where
 lo: -1<=z
 hi:z<9223372036854775807
 yes:b=true->0<=z
 no:b=false->z= -1
theorem index_s (A:Option Addr) (L c:Nat) (ks:List ByteArray) (hL:L=ks.length) (hm:L<=140737488351232) (hks:∀k∈ks,k.size<=maxLen) (w:World) (hA:HasS w A ks):
 Calls Tryz.prog 128 #[.slice A L c,.func (.func 107) #[] #[]] w fun e W'=>∃z:Int,e=.returned (.int .i64 z)/\IdxP (ks.any badK) z/\W'=w:=by
 have HL:=hiD hL;have HA:=hiD hA;have HK:=hiD hks;have hLi:(L:Int)<=140737488351232:=by omega
 clear hL hA hks hm;go_enter Tryz.func128,Tryz.ntmps128;go_wp2
 go_loopw [5,8] (fun v5 i wr=>wr=w/\∃k:Nat,k<=L/\i=.int .i64 (k:Int)/\Hid (badTo ks k)) (fun _ i _=>L - (intOf i).toNat)
 case atStart=>exact ⟨rfl,0,Nat.zero_le _,rfl,hiD (fun j _ h=>by omega)⟩
 case round=>
  obtain ⟨rfl,k,hk,rfl,hb⟩:=hrel
  by_cases hlt:k<L
  ·have hki:(k:Int)<L:=by omega
   have hk1:k<ks.length:=by have:=HL.out;omega
   obtain ⟨bk,o1,e1,l1,f1⟩:=HA.out (by rintro rfl;simp at hk1);subst e1;have g1:=f1 k hk1;obtain ⟨X,hX⟩:∃X,X=ks[k]:=⟨_,rfl⟩;rw [<-hX] at g1;have hXm:X.size<=maxLen:=by rw [hX];exact HK.out _ (List.getElem_mem hk1)
   have HX:=hiD (aI hX hXm);clear hX f1 hXm;obtain ⟨b,hb2⟩:∃b,b=badK X:=⟨_,rfl⟩;have HB:=hiD hb2;clear hb2
   go_wp2_with fail
   refine (wrong_any X HX.out.2 wr).mono ?_;rintro e W1 ⟨rfl,rfl⟩;rw [<-HB.out]
   cases b with
   |true=>
    have hy:ks.any badK=true:=by
     rw [List.any_eq_true];exact ⟨X,by rw [HX.out.1];exact List.getElem_mem hk1,HB.out.symm⟩
    have HY:=hiD hy;clear hy;go_wp2;go_ret;exact ⟨_,rfl,⟨by omega,by omega,fun _=>by omega,fun h=>by rw [HY.out] at h;cases h⟩,rfl⟩
   |false=>
    go_wp2;refine ⟨⟨trivial,k+1,by omega,by congr 1,hiD (fun j hj hjk=>?_)⟩,by simp only [intOf];omega⟩
    rcases Nat.lt_or_ge j k with h|h
    ·exact hb.out j hj h
    ·have:j=k:=by omega
     subst this;rw [<-HX.out.1,<-HB.out]
  ·obtain rfl:k=L:=by omega
   have hki:¬(k:Int)<k:=by omega
   have hn:ks.any badK=false:=badTo_all (by have:=hb.out;rwa [HL.out] at this);have HN:=hiD hn;clear hn hlt;go_wp2;go_ret;exact ⟨_,rfl,⟨by omega,by omega,fun h=>(by rw [HN.out] at h;cases h),fun _=>rfl⟩,rfl⟩
theorem contains_s (A:Option Addr) (L c:Nat) (ks:List ByteArray) (hL:L=ks.length) (hm:L<=140737488351232) (hks:∀k∈ks,k.size<=maxLen) (w:World) (hA:HasS w A ks):
 Calls Tryz.prog 108 #[.slice A L c,.func (.func 107) #[] #[]] w fun e W'=>e=.returned (.bool (ks.any badK))/\W'=w:=by
 obtain ⟨b,hb⟩:∃b,b=ks.any badK:=⟨_,rfl⟩;rw [<-hb];have h:=index_s A L c ks hL hm hks w hA;rw [<-hb] at h;have H:=hiD h;clear hb h hL hm hks hA;go_enter Tryz.func108,Tryz.ntmps108
 go_wp2_with fail
 refine H.out.mono ?_;rintro e W1 ⟨z,rfl,hz,rfl⟩
 cases b with
 |true=>
  have h0:=hz.yes rfl;clear hz;go_wp2;go_ret;exact ⟨rfl,rfl⟩
 |false=>
  have h0:=hz.no rfl;subst h0;clear hz;go_wp2;go_ret;exact ⟨rfl,rfl⟩
theorem boxed {w W0:World} {cs:Array Value} {t:TypeId} (h:W0=w.alloc (.cells cs t)):Below w.heap.size w W0/\W0.heap[w.heap.size]?=some (.cells cs t (0,0)):=by
 subst h;exact ⟨(Below.refl _ w).alloc (nLr _) _,wAh w _⟩
def keysB (m:CM):Bool:=decide ((1<=m.kd/\m.kd<=8)/\leastT m.kd<=m.ks.length/\m.ks.length<=mostT m.kd)&&!(m.ks.any badK)
theorem keysFit_any (a:CmdV) (w:World) (hT:TabQ w) (ha:a.ok w):Calls Tryz.prog 86 #[a.val] w fun e W'=>e=.returned (.bool (keysB a.m))/\Below w.heap.size w W':=by
 obtain ⟨acl,asq,akd,A,M,c,ks,old,new,n⟩:=a;obtain ⟨hcl,hsq,hkd,hn64,hlen,hmx,hhas,heach,hold,hnew⟩:=ha;simp only at hcl hsq hkd hn64 hlen hmx hhas heach hold hnew;simp only [CmdV.val,CmdV.cells,CmdV.m];have HH:=hiD (aI hhas (aI hlen heach));have HT:=hiD hT;have HMX:=hiD hmx;have hM:(M:Int)<=140737488351232:=by omega
 have hkd':(akd:Int)<256:=by omega
 clear hhas hlen heach hold hnew hT hmx;go_enter Tryz.func86,Tryz.ntmps86;go_upto_region 1 with (fail)
 obtain ⟨W0,hW0⟩:∃W0,W0=w.alloc (Obj.cells #[.int .u32 (acl:Int),.int .u32 (asq:Int),.int .u8 (akd:Int),.slice A M c,.string old,.string new,.int .i64 n] 57):=⟨_,rfl⟩;rw [<-hW0];obtain ⟨hB,k1⟩:=boxed hW0;obtain ⟨p,hp⟩:∃p,p=w.heap.size:=⟨_,rfl⟩;rw [<-hp] at k1 ⊢;have x2:=blk_cell k1 2;have x3:=blk_cell k1 3;simp at x2 x3;have K1:=hiD k1;have BW:=hiD hB;have HP:=hiD hp;clear hW0 hp hB k1
 by_cases h0:akd=0
 ·have hf:keysB ⟨acl,asq,akd,ks,old,new,n⟩=false:=by simp [keysB,h0]
  have HF:=hiD hf;have q:((akd:Int)==0)=true:=by simp;omega
  clear hf h0;go_wp2
  all_goals
   go_ret;exact ⟨by rw [HF.out];rfl,BW.out⟩
 have q0:((akd:Int)==0)=false:=by simp;omega
 by_cases h9:9<=akd
 ·have hf:keysB ⟨acl,asq,akd,ks,old,new,n⟩=false:=by simp [keysB];omega
  have HF:=hiD hf;have q:(9:Int)<=akd:=by omega
  clear hf h0 h9;go_wp2
  all_goals
   go_ret;exact ⟨by rw [HF.out];rfl,BW.out⟩
 have q9:(akd:Int)<9:=by omega
 have HK:Hid (1<=akd/\akd<=8):=hiD ⟨by omega,by omega⟩;have TT:=(HT.out.grew BW.out).2 akd (by omega);obtain ⟨ls,hls⟩:∃ls,ls=leastT akd:=⟨_,rfl⟩;obtain ⟨ms,hms⟩:∃ms,ms=mostT akd:=⟨_,rfl⟩;rw [<-hls,<-hms] at TT;obtain ⟨t0,t1⟩:=TT;have HLM:=hiD (aI hls hms);clear hls hms h0 h9;go_upto_region 5 with (fail)
 obtain ⟨W2,hW2⟩:∃W2,W2=W0.alloc (Obj.cells #[.int .i64 (ls:Int),.int .i64 (ms:Int)] 173):=⟨_,rfl⟩;rw [<-hW2];obtain ⟨hB2,k2⟩:=boxed hW2;obtain ⟨q,hq⟩:∃q,q=W0.heap.size:=⟨_,rfl⟩;rw [<-hq] at k2 ⊢;have y0:=blk_cell k2 0;have y1:=blk_cell k2 1;simp at y0 y1;have z1:=(hB2.block p (geS.1 K1.out).1).trans K1.out;have z3:=blk_cell z1 3;simp at z3;have BW2:=hiD (BW.out.trans (Below.mono hB2 BW.out.size));clear hW2 hB2 k2 hq t0 t1 x2 x3 z1 q0 q9 hkd';obtain ⟨hhas,hlen,heach⟩:=HH.out;have hc:=contains_s A M c ks hlen HMX.out heach W2 (hhas.below BW2.out);obtain ⟨b,hb⟩:∃b,b=ks.any badK:=⟨_,rfl⟩;rw [<-hb] at hc;have HC:=hiD hc
 have HF:Hid (keysB ⟨acl,asq,akd,ks,old,new,n⟩=(decide (ls<=M/\M<=ms)&&!b)):=hiD (by
  have e1:=HK.out;have e2:=HLM.out;simp only [keysB,<-e2.1,<-e2.2,<-hlen,<-hb];simp [e1])
 clear hb hc hhas hlen heach
 by_cases h1:ls<=M
 ·have h1i:(ls:Int)<=M:=by omega
  by_cases h2:M<=ms
  ·have h2i:(M:Int)<=ms:=by omega
   have HF2:Hid (keysB ⟨acl,asq,akd,ks,old,new,n⟩=!b):=hiD (by rw [HF.out];simp [h1,h2]);clear h1 h2
   go_wp2_with (go_at_call 108;refine HC.out.mono ?_;rintro e' w' ⟨rfl,rfl⟩)
   go_ret;exact ⟨by rw [HF2.out];rfl,BW2.out⟩
  ·have h2i:¬(M:Int)<=ms:=by omega
   have HF2:Hid (keysB ⟨acl,asq,akd,ks,old,new,n⟩=false):=hiD (by rw [HF.out];simp [h2]);clear h1 h2;go_wp2
   all_goals
    go_ret;exact ⟨by rw [HF2.out];rfl,BW2.out⟩
 ·have h1i:¬(ls:Int)<=M:=by omega
  have HF2:Hid (keysB ⟨acl,asq,akd,ks,old,new,n⟩=false):=hiD (by rw [HF.out];simp [h1]);clear h1;go_wp2
  all_goals
   go_ret;exact ⟨by rw [HF2.out];rfl,BW2.out⟩
def valB (s:ByteArray) (has:Bool):Bool:=decide (s.size=0\/(has=true/\s.size<=64))
theorem valueFits_any (s:ByteArray) (has:Bool) (hs:s.size<=maxLen) (w:World):Calls Tryz.prog 109 #[.string s,.bool has] w fun e W'=>e=.returned (.bool (valB s has))/\W'=w:=by
 have hs64:(s.size:Int)<=9223372036854775807:=by simp only [maxLen] at hs;omega
 by_cases h0:s.size=0
 ·have HF:Hid (valB s has=true):=hiD (by simp [valB,h0]);obtain rfl:=size0.1 h0
  cases has
  all_goals
   go_enter Tryz.func109,Tryz.ntmps109;go_wp2
   all_goals
    go_ret;exact ⟨by rw [HF.out];rfl,rfl⟩
 ·have hne:s.toList.isEmpty=false:=by rw [toE];simpa using h0
  have hne2:¬s.toList=[]:=by rw [toNil];exact h0
  by_cases h1:s.size<=64
  ·have h1i:(s.size:Int)<=64:=by omega
   have HF:Hid (valB s has=has):=hiD (by simp [valB,h1,h0])
   cases has
   all_goals
    go_enter Tryz.func109,Tryz.ntmps109;go_wp2
    all_goals
     go_ret;exact ⟨by rw [HF.out];first|rfl|simp_all,rfl⟩
  ·have h1i:¬(s.size:Int)<=64:=by omega
   have HF:Hid (valB s has=false):=hiD (by simp [valB,h1,h0])
   cases has
   all_goals
    go_enter Tryz.func109,Tryz.ntmps109;go_wp2
    all_goals
     go_ret;exact ⟨by rw [HF.out];first|rfl|simp_all,rfl⟩
def valsB (m:CM):Bool:=valB m.old (decide (m.kd=5))&&(valB m.new (decide (m.kd=1\/m.kd=5))&&decide (m.kd=4\/m.n=0))
theorem may_split (m:CM):m.May<->0<m.cl/\keysB m=true/\valsB m=true:=by
 have hb:m.ks.any badK=false<->∀k∈m.ks,1<=k.size/\k.size<=32:=by
  rw [List.any_eq_false];simp only [badK,decide_eq_true_eq]
  constructor
  ·intro h k hk;have:=h k hk;omega
  ·intro h k hk;have:=h k hk;omega
 simp only [keysB,valsB,valB,Bool.and_eq_true,decide_eq_true_eq,Bool.not_eq_true',hb]
 constructor
 ·intro h;obtain ⟨hkd,he,hcl,hl,ho,hn,ho0,hn0,h0⟩:=h;refine ⟨hcl,⟨⟨hkd,?_⟩,he⟩,?_,?_,?_⟩
  ·simp only [leastK,mostK,leastT,mostT] at hl ⊢
   (repeat' split at hl)<;>(repeat' split)<;>omega
  ·omega
  ·omega
  ·omega
 ·rintro ⟨hcl,⟨⟨hkd,hl⟩,he⟩,ho,hn,h0⟩;refine ⟨hkd,he,hcl,?_,by omega,by omega,by omega,by omega,by omega⟩;simp only [leastK,mostK,leastT,mostT] at hl ⊢
  (repeat' split at hl)<;>(repeat' split)<;>omega
theorem may_B (m:CM):m.may=(decide (0<m.cl)&&(keysB m&&valsB m)):=by
 rw [Bool.eq_iff_iff,CM.may_iff,may_split];simp
theorem valuesFit_any (a:CmdV) (w:World) (ha:a.ok w):Calls Tryz.prog 87 #[a.val] w fun e W'=>e=.returned (.bool (valsB a.m))/\Below w.heap.size w W':=by
 obtain ⟨acl,asq,akd,A,M,c,ks,old,new,n⟩:=a;obtain ⟨hcl,hsq,hkd,hn64,hlen,hmx,hhas,heach,hold,hnew⟩:=ha;simp only at hcl hsq hkd hn64 hlen hmx hhas heach hold hnew;simp only [CmdV.val,CmdV.cells,CmdV.m];have hkd':(akd:Int)<256:=by omega
 have HO:Hid (∀(h:Bool) (w:World),Calls Tryz.prog 109 #[.string old,.bool h] w fun e W'=>e=.returned (.bool (valB old h))/\W'=w):=hiD (fun h w=>valueFits_any old h hold w);have HN:Hid (∀(h:Bool) (w:World),Calls Tryz.prog 109 #[.string new,.bool h] w fun e W'=>e=.returned (.bool (valB new h))/\W'=w):=hiD (fun h w=>valueFits_any new h hnew w);have H64:=hiD hn64;clear hhas hlen heach hold hnew hmx hn64;obtain ⟨r,hr⟩:∃r,r=valsB ⟨acl,asq,akd,ks,old,new,n⟩:=⟨_,rfl⟩;rw [<-hr];simp only [valsB] at hr;obtain ⟨b5,h5⟩:∃b,b=decide (akd=5):=⟨_,rfl⟩;obtain ⟨b1,h1⟩:∃b,b=decide (akd=1):=⟨_,rfl⟩;obtain ⟨b4,h4⟩:∃b,b=decide (akd=4):=⟨_,rfl⟩;have e15:decide (akd=1\/akd=5)=(b1||b5):=by rw [h1,h5];simp
 have e40:decide (akd=4\/n=0)=(b4||decide (n=0)):=by rw [h4];simp
 rw [<-h5,e15,e40] at hr;obtain ⟨z,hz⟩:∃z,z=decide (n=0):=⟨_,rfl⟩;rw [<-hz] at hr;have q5:((akd:Int)==5)=b5:=by rw [h5];exact kdE akd 5
 have q1:((akd:Int)==1)=b1:=by rw [h1];exact kdE akd 1
 have q4:((akd:Int)==4)=b4:=by rw [h4];exact kdE akd 4
 have qn:(n==0)=z:=by rw [hz];rw [Bool.eq_iff_iff];simp
 obtain ⟨vo,hvo⟩:∃b,b=valB old b5:=⟨_,rfl⟩;obtain ⟨vn,hvn⟩:∃b,b=valB new (b1||b5):=⟨_,rfl⟩;rw [<-hvo,<-hvn] at hr;have GO:Hid (∀(w:World),Calls Tryz.prog 109 #[.string old,.bool b5] w fun e W'=>e=.returned (.bool vo)/\W'=w):=hiD (by rw [hvo];exact HO.out b5);have GN:Hid (∀(w:World),Calls Tryz.prog 109 #[.string new,.bool (b1||b5)] w fun e W'=>e=.returned (.bool vn)/\W'=w):=hiD (by rw [hvn];exact HN.out _);have HR:=hiD hr;clear hr e15 e40 h5 h1 h4 hz hvo hvn HO HN
 cases b1<;>cases b5<;>cases b4<;>cases vo
 all_goals
  simp only [Bool.or_true,Bool.or_false] at GN;go_enter Tryz.func87,Tryz.ntmps87;go_upto_region 1 with (fail)
  obtain ⟨W0,hW0⟩:∃W0,W0=w.alloc (Obj.cells #[.int .u32 (acl:Int),.int .u32 (asq:Int),.int .u8 (akd:Int),.slice A M c,.string old,.string new,.int .i64 n] 57):=⟨_,rfl⟩;rw [<-hW0];obtain ⟨hB,k1⟩:=boxed hW0;obtain ⟨p,hp⟩:∃p,p=w.heap.size:=⟨_,rfl⟩;rw [<-hp] at k1 ⊢;have x2:=blk_cell k1 2;have x4:=blk_cell k1 4;have x5:=blk_cell k1 5;have x6:=blk_cell k1 6;simp at x2 x4 x5 x6;have BW:=hiD hB;have HP:=hiD hp;clear hW0 hp hB k1
  go_wp2_with fail
  refine (GO.out _).mono ?_;rintro e' w' ⟨rfl,rfl⟩
  go_wp2_with fail
  try
   refine (GN.out _).mono ?_;rintro e' w' ⟨rfl,rfl⟩
   go_wp2_with fail
  all_goals
   go_ret;exact ⟨by rw [HR.out];first|rfl|(cases z<;>cases vn<;>first|rfl|contradiction|simp_all),BW.out⟩
theorem Check_any (a:CmdV) (w:World) (hT:TabQ w) (ha:a.ok w):Calls Tryz.prog 64 #[a.val] w fun e W'=>e=.returned (.int .i64 ((if a.m.may then 0 else 1:Nat):Int))/\Below w.heap.size w W':=by
 have HK:Hid (∀W,Below w.heap.size w W->Calls Tryz.prog 86 #[a.val] W fun e W'=>e=.returned (.bool (keysB a.m))/\Below W.heap.size W W'):=hiD (fun W h=>keysFit_any a W (hT.grew h) (ha.below h));have HV:Hid (∀W,Below w.heap.size w W->Calls Tryz.prog 87 #[a.val] W fun e W'=>e=.returned (.bool (valsB a.m))/\Below W.heap.size W W'):=hiD (fun W h=>valuesFit_any a W (ha.below h));obtain ⟨z,hz⟩:∃z,z=decide (0<a.m.cl):=⟨_,rfl⟩;obtain ⟨bk,hbk⟩:∃z,z=keysB a.m:=⟨_,rfl⟩;obtain ⟨bv,hbv⟩:∃z,z=valsB a.m:=⟨_,rfl⟩;rw [may_B,<-hz,<-hbk,<-hbv];rw [<-hbk] at HK;rw [<-hbv] at HV;have hcl:=ha.cl;obtain ⟨acl,asq,akd,A,M,c,ks,old,new,n⟩:=a;simp only [CmdV.val,CmdV.cells,CmdV.m] at hz hcl HK HV ⊢;have hz2:z=decide (0<acl):=hz;have hcl2:acl<4294967296:=hcl;have q:((acl:Int)==0)=!z:=by rw [hz2,Bool.eq_iff_iff];simp only [beq_iff_eq,Bool.not_eq_true',decide_eq_false_iff_not];constructor<;>intro h<;>omega
 clear hbk hbv ha hT hz hz2 hcl hcl2;go_enter Tryz.func64,Tryz.ntmps64;go_upto_region 1 with (fail)
 obtain ⟨W0,hW0⟩:∃W0,W0=w.alloc (Obj.cells #[.int .u32 (acl:Int),.int .u32 (asq:Int),.int .u8 (akd:Int),.slice A M c,.string old,.string new,.int .i64 n] 57):=⟨_,rfl⟩;rw [<-hW0];obtain ⟨hB,k1⟩:=boxed hW0;obtain ⟨p,hp⟩:∃p,p=w.heap.size:=⟨_,rfl⟩;have lp:p<W0.heap.size:=by rw [hp];exact (geS.1 k1).1
 rw [<-hp] at k1 ⊢;have FF:Hid (∀W i u,Below W0.heap.size W0 W->(#[.int .u32 (acl:Int),.int .u32 (asq:Int),.int .u8 (akd:Int),.slice A M c,.string old,.string new,.int .i64 n]:Array Value)[i]?=some u->W.cell? ⟨p,i,none⟩=some u):=hiD (fun W i u hb hu=>(hb.cell (p:=⟨p,i,none⟩) lp).trans (by rw [blk_cell k1 i];simpa using hu));have BW:=hiD hB;have HP:=hiD hp;clear hW0 hp hB k1 lp;have x0:=FF.out W0 0 _ (Below.refl _ _) rfl;have x1:=FF.out W0 1 _ (Below.refl _ _) rfl;have x2:=FF.out W0 2 _ (Below.refl _ _) rfl;have x3:=FF.out W0 3 _ (Below.refl _ _) rfl;have x4:=FF.out W0 4 _ (Below.refl _ _) rfl;have x5:=FF.out W0 5 _ (Below.refl _ _) rfl;have x6:=FF.out W0 6 _ (Below.refl _ _) rfl
 cases z
 ·go_wp2;go_ret;exact ⟨rfl,BW.out⟩
 ·go_wp2_with fail
  refine (HK.out W0 BW.out).mono ?_;rintro e W1 ⟨rfl,hb1⟩;have B1:=hiD (BW.out.trans (Below.mono hb1 BW.out.size));have y0:=FF.out W1 0 _ hb1 rfl;have y1:=FF.out W1 1 _ hb1 rfl;have y2:=FF.out W1 2 _ hb1 rfl;have y3:=FF.out W1 3 _ hb1 rfl;have y4:=FF.out W1 4 _ hb1 rfl;have y5:=FF.out W1 5 _ hb1 rfl;have y6:=FF.out W1 6 _ hb1 rfl;clear x0 x1 x2 x3 x4 x5 x6 hb1
  cases bk
  ·go_wp2;go_ret;exact ⟨rfl,B1.out⟩
  ·go_wp2_with fail
   refine (HV.out W1 B1.out).mono ?_;rintro e W2 ⟨rfl,hb2⟩;have B2:=hiD (B1.out.trans (Below.mono hb2 B1.out.size));clear y0 y1 y2 y3 y4 y5 y6 hb2
   cases bv
   all_goals
    go_wp2;go_ret;exact ⟨rfl,B2.out⟩
end Go.Proofs.YtfjmdkhemnmkpaaGreatDoor
namespace Go.Proofs.YtfjmdkhemnmkpaaGreatDoor
open Go.Shelf
def lay_lays125_ren:Go.Shelf.Ren:=⟨fun|125=>125|128=>143|129=>144|n=>n,fun|46=>145|3=>3|51=>54|53=>30|4=>4|5=>5|9=>9|n=>n,fun|n=>n⟩
theorem lay_lays125:Go.Proofs.Lays.n125 Tryz.prog lay_lays125_ren:={
 mixed:=by kernel_rfl
 f125:=Tryz.func125.trans (congrArg some (by kernel_rfl))
 f128:=Tryz.func143.trans (congrArg some (by kernel_rfl))
 f129:=Tryz.func144.trans (congrArg some (by kernel_rfl))
 t3:=Tryz.underlying3
 a3:=Tryz.isAgg3
 z3:=Tryz.sizeOf3
 v3:=Tryz.zeroValue3
 t4:=Tryz.underlying4
 a4:=Tryz.isAgg4
 z4:=Tryz.sizeOf4
 v4:=Tryz.zeroValue4
 t5:=Tryz.underlying5
 a5:=Tryz.isAgg5
 z5:=Tryz.sizeOf5
 v5:=Tryz.zeroValue5
 t9:=Tryz.underlying9
 a9:=Tryz.isAgg9
 z9:=Tryz.sizeOf9
 v9:=Tryz.zeroValue9
 t46:=Tryz.underlying145
 a46:=Tryz.isAgg145
 z46:=Tryz.sizeOf145
 v46:=Tryz.zeroValue145
 t51:=Tryz.underlying54
 a51:=Tryz.isAgg54
 z51:=Tryz.sizeOf54
 v51:=Tryz.zeroValue54
 t53:=Tryz.underlying30
 a53:=Tryz.isAgg30
 z53:=Tryz.sizeOf30
 v53:=Tryz.zeroValue30}
theorem lay_bits_Len (x:Int) (w:World) (h0:0<=x) (h1:x<=18446744073709551615):
 Calls Tryz.prog 125 #[.int .u64 x] w fun e w'=>e=.returned (.int .i64 (Lib.bitLen x.toNat))/\w'=w:=Any.bits_Len lay_lays125 x w h0 h1
def lay_laysM246_ren:Go.Shelf.Ren:=⟨fun|246=>130|283=>156|284=>157|285=>158|286=>159|129=>144|317=>176|318=>177|319=>178|320=>179|337=>186|338=>187|n=>n,fun|2=>2|3=>3|9=>9|4=>4|171=>223|0=>0|53=>30|37=>48|5=>5|173=>225|212=>243|51=>54|20=>20|213=>244|46=>145|232=>259|233=>260|n=>n,fun|17=>1|18=>4|19=>5|n=>n⟩
def lay_laysM243_ren:Go.Shelf.Ren:=⟨fun|243=>131|246=>130|283=>156|284=>157|285=>158|286=>159|129=>144|317=>176|318=>177|319=>178|320=>179|337=>186|338=>187|n=>n,fun|3=>3|9=>9|2=>2|4=>4|171=>223|0=>0|53=>30|37=>48|5=>5|173=>225|212=>243|51=>54|20=>20|213=>244|46=>145|232=>259|233=>260|n=>n,fun|17=>1|18=>4|19=>5|n=>n⟩
def lay_laysM171_ren:Go.Shelf.Ren:=⟨fun|171=>117|243=>131|246=>130|283=>156|284=>157|285=>158|286=>159|129=>144|317=>176|318=>177|319=>178|320=>179|337=>186|338=>187|n=>n,fun|3=>3|9=>9|2=>2|4=>4|171=>223|0=>0|53=>30|37=>48|5=>5|173=>225|212=>243|51=>54|20=>20|213=>244|46=>145|232=>259|233=>260|n=>n,fun|17=>1|18=>4|19=>5|n=>n⟩
theorem lay_laysM171:Go.Proofs.LaysM.n171 Tryz.prog lay_laysM171_ren:={
 mixed:=by kernel_rfl
 f129:=Tryz.func144.trans (congrArg some (by kernel_rfl))
 f171:=Tryz.func117.trans (congrArg some (by kernel_rfl))
 f243:=Tryz.func131.trans (congrArg some (by kernel_rfl))
 f246:=Tryz.func130.trans (congrArg some (by kernel_rfl))
 f283:=Tryz.func156.trans (congrArg some (by kernel_rfl))
 f284:=Tryz.func157.trans (congrArg some (by kernel_rfl))
 f285:=Tryz.func158.trans (congrArg some (by kernel_rfl))
 f286:=Tryz.func159.trans (congrArg some (by kernel_rfl))
 f317:=Tryz.func176.trans (congrArg some (by kernel_rfl))
 f318:=Tryz.func177.trans (congrArg some (by kernel_rfl))
 f319:=Tryz.func178.trans (congrArg some (by kernel_rfl))
 f320:=Tryz.func179.trans (congrArg some (by kernel_rfl))
 f337:=Tryz.func186.trans (congrArg some (by kernel_rfl))
 f338:=Tryz.func187.trans (congrArg some (by kernel_rfl))
 t0:=Tryz.underlying0
 a0:=Tryz.isAgg0
 z0:=Tryz.sizeOf0
 v0:=Tryz.zeroValue0
 t2:=Tryz.underlying2
 a2:=Tryz.isAgg2
 z2:=Tryz.sizeOf2
 v2:=Tryz.zeroValue2
 t3:=Tryz.underlying3
 a3:=Tryz.isAgg3
 z3:=Tryz.sizeOf3
 v3:=Tryz.zeroValue3
 t4:=Tryz.underlying4
 a4:=Tryz.isAgg4
 z4:=Tryz.sizeOf4
 v4:=Tryz.zeroValue4
 t5:=Tryz.underlying5
 a5:=Tryz.isAgg5
 z5:=Tryz.sizeOf5
 v5:=Tryz.zeroValue5
 t9:=Tryz.underlying9
 a9:=Tryz.isAgg9
 z9:=Tryz.sizeOf9
 v9:=Tryz.zeroValue9
 t20:=Tryz.underlying20
 a20:=Tryz.isAgg20
 z20:=Tryz.sizeOf20
 v20:=Tryz.zeroValue20
 t37:=Tryz.underlying48
 a37:=Tryz.isAgg48
 z37:=Tryz.sizeOf48
 v37:=Tryz.zeroValue48
 t46:=Tryz.underlying145
 a46:=Tryz.isAgg145
 z46:=Tryz.sizeOf145
 v46:=Tryz.zeroValue145
 t51:=Tryz.underlying54
 a51:=Tryz.isAgg54
 z51:=Tryz.sizeOf54
 v51:=Tryz.zeroValue54
 t53:=Tryz.underlying30
 a53:=Tryz.isAgg30
 z53:=Tryz.sizeOf30
 v53:=Tryz.zeroValue30
 t171:=Tryz.underlying223
 a171:=Tryz.isAgg223
 z171:=Tryz.sizeOf223
 v171:=Tryz.zeroValue223
 t173:=Tryz.underlying225
 a173:=Tryz.isAgg225
 z173:=Tryz.sizeOf225
 v173:=Tryz.zeroValue225
 t212:=Tryz.underlying243
 a212:=Tryz.isAgg243
 z212:=Tryz.sizeOf243
 v212:=Tryz.zeroValue243
 t213:=Tryz.underlying244
 a213:=Tryz.isAgg244
 z213:=Tryz.sizeOf244
 t232:=Tryz.underlying259
 a232:=Tryz.isAgg259
 z232:=Tryz.sizeOf259
 v232:=Tryz.zeroValue259
 t233:=Tryz.underlying260
 a233:=Tryz.isAgg260
 z233:=Tryz.sizeOf260
 v233:=Tryz.zeroValue260
 g17:=by kernel_rfl
 g18:=by kernel_rfl
 g19:=by kernel_rfl
 i0:=by kernel_rfl
 i2:=by kernel_rfl
 i3:=by kernel_rfl
 i4:=by kernel_rfl
 i5:=by kernel_rfl
 i9:=by kernel_rfl
 i20:=by kernel_rfl
 i37:=by kernel_rfl
 i46:=by kernel_rfl
 i51:=by kernel_rfl
 i53:=by kernel_rfl
 i171:=by kernel_rfl
 i173:=by kernel_rfl
 i212:=by kernel_rfl
 i232:=by kernel_rfl
 i233:=by kernel_rfl
 m17:=by kernel_rfl
 m18:=by kernel_rfl
 m19:=by kernel_rfl}
open Go.RowKit Go.Sort Go.Lib in
theorem lay_strconv_Itoa (n:Int) (h0: -9223372036854775808<=n) (h1:n<=9223372036854775807) (w:World) (htab:Lib.TabIs Tryz.prog w "internal/strconv.uint64pow10" .u64 Lib.pow10Tab):
 Calls Tryz.prog 117 #[.int .i64 n] w fun e w'=>e=.returned (.string ⟨(Lib.itoa n).toArray⟩)/\∃k os,w'=grow (w.drewN k) os:=Any.strconv_Itoa lay_laysM171 n h0 h1 w htab
def lay_laysM173_ren:Go.Shelf.Ren:=⟨fun|173=>115|246=>130|283=>156|284=>157|285=>158|286=>159|129=>144|317=>176|318=>177|319=>178|320=>179|337=>186|338=>187|n=>n,fun|2=>2|3=>3|9=>9|4=>4|171=>223|0=>0|53=>30|37=>48|5=>5|173=>225|212=>243|51=>54|20=>20|213=>244|46=>145|232=>259|233=>260|n=>n,fun|17=>1|18=>4|19=>5|n=>n⟩
theorem lay_laysM173:Go.Proofs.LaysM.n173 Tryz.prog lay_laysM173_ren:={
 mixed:=by kernel_rfl
 f129:=Tryz.func144.trans (congrArg some (by kernel_rfl))
 f173:=Tryz.func115.trans (congrArg some (by kernel_rfl))
 f246:=Tryz.func130.trans (congrArg some (by kernel_rfl))
 f283:=Tryz.func156.trans (congrArg some (by kernel_rfl))
 f284:=Tryz.func157.trans (congrArg some (by kernel_rfl))
 f285:=Tryz.func158.trans (congrArg some (by kernel_rfl))
 f286:=Tryz.func159.trans (congrArg some (by kernel_rfl))
 f317:=Tryz.func176.trans (congrArg some (by kernel_rfl))
 f318:=Tryz.func177.trans (congrArg some (by kernel_rfl))
 f319:=Tryz.func178.trans (congrArg some (by kernel_rfl))
 f320:=Tryz.func179.trans (congrArg some (by kernel_rfl))
 f337:=Tryz.func186.trans (congrArg some (by kernel_rfl))
 f338:=Tryz.func187.trans (congrArg some (by kernel_rfl))
 t0:=Tryz.underlying0
 a0:=Tryz.isAgg0
 z0:=Tryz.sizeOf0
 v0:=Tryz.zeroValue0
 t2:=Tryz.underlying2
 a2:=Tryz.isAgg2
 z2:=Tryz.sizeOf2
 v2:=Tryz.zeroValue2
 t3:=Tryz.underlying3
 a3:=Tryz.isAgg3
 z3:=Tryz.sizeOf3
 v3:=Tryz.zeroValue3
 t4:=Tryz.underlying4
 a4:=Tryz.isAgg4
 z4:=Tryz.sizeOf4
 v4:=Tryz.zeroValue4
 t5:=Tryz.underlying5
 a5:=Tryz.isAgg5
 z5:=Tryz.sizeOf5
 v5:=Tryz.zeroValue5
 t9:=Tryz.underlying9
 a9:=Tryz.isAgg9
 z9:=Tryz.sizeOf9
 v9:=Tryz.zeroValue9
 t20:=Tryz.underlying20
 a20:=Tryz.isAgg20
 z20:=Tryz.sizeOf20
 v20:=Tryz.zeroValue20
 t37:=Tryz.underlying48
 a37:=Tryz.isAgg48
 z37:=Tryz.sizeOf48
 v37:=Tryz.zeroValue48
 t46:=Tryz.underlying145
 a46:=Tryz.isAgg145
 z46:=Tryz.sizeOf145
 v46:=Tryz.zeroValue145
 t51:=Tryz.underlying54
 a51:=Tryz.isAgg54
 z51:=Tryz.sizeOf54
 v51:=Tryz.zeroValue54
 t53:=Tryz.underlying30
 a53:=Tryz.isAgg30
 z53:=Tryz.sizeOf30
 v53:=Tryz.zeroValue30
 t171:=Tryz.underlying223
 a171:=Tryz.isAgg223
 z171:=Tryz.sizeOf223
 v171:=Tryz.zeroValue223
 t173:=Tryz.underlying225
 a173:=Tryz.isAgg225
 z173:=Tryz.sizeOf225
 v173:=Tryz.zeroValue225
 t212:=Tryz.underlying243
 a212:=Tryz.isAgg243
 z212:=Tryz.sizeOf243
 v212:=Tryz.zeroValue243
 t213:=Tryz.underlying244
 a213:=Tryz.isAgg244
 z213:=Tryz.sizeOf244
 t232:=Tryz.underlying259
 a232:=Tryz.isAgg259
 z232:=Tryz.sizeOf259
 v232:=Tryz.zeroValue259
 t233:=Tryz.underlying260
 a233:=Tryz.isAgg260
 z233:=Tryz.sizeOf260
 v233:=Tryz.zeroValue260
 g17:=by kernel_rfl
 g18:=by kernel_rfl
 g19:=by kernel_rfl
 i0:=by kernel_rfl
 i2:=by kernel_rfl
 i3:=by kernel_rfl
 i4:=by kernel_rfl
 i5:=by kernel_rfl
 i9:=by kernel_rfl
 i20:=by kernel_rfl
 i37:=by kernel_rfl
 i46:=by kernel_rfl
 i51:=by kernel_rfl
 i53:=by kernel_rfl
 i171:=by kernel_rfl
 i173:=by kernel_rfl
 i212:=by kernel_rfl
 i232:=by kernel_rfl
 i233:=by kernel_rfl
 m17:=by kernel_rfl
 m18:=by kernel_rfl
 m19:=by kernel_rfl}
open Go.RowKit Go.Sort Go.Lib in
theorem lay_strconv_FormatInt_10 (n:Int) (h0: -9223372036854775808<=n) (h1:n<=9223372036854775807) (w:World) (htab:Lib.TabIs Tryz.prog w "internal/strconv.uint64pow10" .u64 Lib.pow10Tab):
 Calls Tryz.prog 115 #[.int .i64 n,.int .i64 10] w fun e w'=>e=.returned (.string ⟨(Lib.itoa n).toArray⟩)/\∃k os,w'=grow (w.drewN k) os:=Any.strconv_FormatInt_10 lay_laysM173 n h0 h1 w htab
def lay_laysC245_ren:Go.Shelf.Ren:=⟨fun|245=>155|279=>172|280=>173|281=>174|282=>175|316=>184|171=>117|205=>185|243=>131|246=>130|283=>156|284=>157|285=>158|286=>159|129=>144|317=>176|318=>177|319=>178|320=>179|337=>186|338=>187|n=>n,fun|9=>9|3=>3|75=>200|167=>235|4=>4|168=>238|210=>253|37=>48|0=>0|127=>255|145=>258|143=>256|2=>2|171=>223|53=>30|5=>5|173=>225|212=>243|51=>54|20=>20|213=>244|46=>145|232=>259|233=>260|80=>261|n=>n,fun|15=>2|16=>3|17=>1|18=>4|19=>5|n=>n⟩
def lay_laysC174_ren:Go.Shelf.Ren:=⟨fun|174=>129|247=>154|245=>155|287=>171|279=>172|280=>173|281=>174|282=>175|321=>182|322=>183|316=>184|171=>117|205=>185|243=>131|246=>130|283=>156|284=>157|285=>158|286=>159|129=>144|317=>176|318=>177|319=>178|320=>179|337=>186|338=>187|n=>n,fun|9=>9|3=>3|2=>2|75=>200|85=>201|4=>4|167=>235|5=>5|53=>30|175=>236|46=>145|168=>238|37=>48|0=>0|210=>253|21=>21|127=>255|145=>258|143=>256|171=>223|173=>225|212=>243|51=>54|20=>20|213=>244|232=>259|233=>260|80=>261|n=>n,fun|15=>2|16=>3|17=>1|18=>4|19=>5|n=>n⟩
theorem lay_laysC174:Go.Proofs.LaysC.n174 Tryz.prog lay_laysC174_ren:={
 mixed:=by kernel_rfl
 f129:=Tryz.func144.trans (congrArg some (by kernel_rfl))
 f171:=Tryz.func117.trans (congrArg some (by kernel_rfl))
 f174:=Tryz.func129.trans (congrArg some (by kernel_rfl))
 f205:=Tryz.func185.trans (congrArg some (by kernel_rfl))
 f243:=Tryz.func131.trans (congrArg some (by kernel_rfl))
 f245:=Tryz.func155.trans (congrArg some (by kernel_rfl))
 f246:=Tryz.func130.trans (congrArg some (by kernel_rfl))
 f247:=Tryz.func154.trans (congrArg some (by kernel_rfl))
 f279:=Tryz.func172.trans (congrArg some (by kernel_rfl))
 f280:=Tryz.func173.trans (congrArg some (by kernel_rfl))
 f281:=Tryz.func174.trans (congrArg some (by kernel_rfl))
 f282:=Tryz.func175.trans (congrArg some (by kernel_rfl))
 f283:=Tryz.func156.trans (congrArg some (by kernel_rfl))
 f284:=Tryz.func157.trans (congrArg some (by kernel_rfl))
 f285:=Tryz.func158.trans (congrArg some (by kernel_rfl))
 f286:=Tryz.func159.trans (congrArg some (by kernel_rfl))
 f287:=Tryz.func171.trans (congrArg some (by kernel_rfl))
 f316:=Tryz.func184.trans (congrArg some (by kernel_rfl))
 f317:=Tryz.func176.trans (congrArg some (by kernel_rfl))
 f318:=Tryz.func177.trans (congrArg some (by kernel_rfl))
 f319:=Tryz.func178.trans (congrArg some (by kernel_rfl))
 f320:=Tryz.func179.trans (congrArg some (by kernel_rfl))
 f321:=Tryz.func182.trans (congrArg some (by kernel_rfl))
 f322:=Tryz.func183.trans (congrArg some (by kernel_rfl))
 f337:=Tryz.func186.trans (congrArg some (by kernel_rfl))
 f338:=Tryz.func187.trans (congrArg some (by kernel_rfl))
 t0:=Tryz.underlying0
 a0:=Tryz.isAgg0
 z0:=Tryz.sizeOf0
 v0:=Tryz.zeroValue0
 t2:=Tryz.underlying2
 a2:=Tryz.isAgg2
 z2:=Tryz.sizeOf2
 v2:=Tryz.zeroValue2
 t3:=Tryz.underlying3
 a3:=Tryz.isAgg3
 z3:=Tryz.sizeOf3
 v3:=Tryz.zeroValue3
 t4:=Tryz.underlying4
 a4:=Tryz.isAgg4
 z4:=Tryz.sizeOf4
 v4:=Tryz.zeroValue4
 t5:=Tryz.underlying5
 a5:=Tryz.isAgg5
 z5:=Tryz.sizeOf5
 v5:=Tryz.zeroValue5
 t9:=Tryz.underlying9
 a9:=Tryz.isAgg9
 z9:=Tryz.sizeOf9
 v9:=Tryz.zeroValue9
 t20:=Tryz.underlying20
 a20:=Tryz.isAgg20
 z20:=Tryz.sizeOf20
 v20:=Tryz.zeroValue20
 t21:=Tryz.underlying21
 a21:=Tryz.isAgg21
 z21:=Tryz.sizeOf21
 v21:=Tryz.zeroValue21
 t37:=Tryz.underlying48
 a37:=Tryz.isAgg48
 z37:=Tryz.sizeOf48
 v37:=Tryz.zeroValue48
 t46:=Tryz.underlying145
 a46:=Tryz.isAgg145
 z46:=Tryz.sizeOf145
 v46:=Tryz.zeroValue145
 t51:=Tryz.underlying54
 a51:=Tryz.isAgg54
 z51:=Tryz.sizeOf54
 v51:=Tryz.zeroValue54
 t53:=Tryz.underlying30
 a53:=Tryz.isAgg30
 z53:=Tryz.sizeOf30
 v53:=Tryz.zeroValue30
 t75:=Tryz.underlying200
 a75:=Tryz.isAgg200
 z75:=Tryz.sizeOf200
 v75:=Tryz.zeroValue200
 t85:=Tryz.underlying201
 a85:=Tryz.isAgg201
 z85:=Tryz.sizeOf201
 v85:=Tryz.zeroValue201
 t127:=Tryz.underlying255
 a127:=Tryz.isAgg255
 z127:=Tryz.sizeOf255
 v127:=Tryz.zeroValue255
 t143:=Tryz.underlying256
 a143:=Tryz.isAgg256
 z143:=Tryz.sizeOf256
 v143:=Tryz.zeroValue256
 t145:=Tryz.underlying258
 a145:=Tryz.isAgg258
 z145:=Tryz.sizeOf258
 v145:=Tryz.zeroValue258
 t167:=Tryz.underlying235
 a167:=Tryz.isAgg235
 z167:=Tryz.sizeOf235
 v167:=Tryz.zeroValue235
 t168:=Tryz.underlying238
 a168:=Tryz.isAgg238
 z168:=Tryz.sizeOf238
 v168:=Tryz.zeroValue238
 t171:=Tryz.underlying223
 a171:=Tryz.isAgg223
 z171:=Tryz.sizeOf223
 v171:=Tryz.zeroValue223
 t173:=Tryz.underlying225
 a173:=Tryz.isAgg225
 z173:=Tryz.sizeOf225
 v173:=Tryz.zeroValue225
 t175:=Tryz.underlying236
 a175:=Tryz.isAgg236
 z175:=Tryz.sizeOf236
 v175:=Tryz.zeroValue236
 t210:=Tryz.underlying253
 a210:=Tryz.isAgg253
 z210:=Tryz.sizeOf253
 v210:=Tryz.zeroValue253
 t212:=Tryz.underlying243
 a212:=Tryz.isAgg243
 z212:=Tryz.sizeOf243
 v212:=Tryz.zeroValue243
 t213:=Tryz.underlying244
 a213:=Tryz.isAgg244
 z213:=Tryz.sizeOf244
 t232:=Tryz.underlying259
 a232:=Tryz.isAgg259
 z232:=Tryz.sizeOf259
 v232:=Tryz.zeroValue259
 t233:=Tryz.underlying260
 a233:=Tryz.isAgg260
 z233:=Tryz.sizeOf260
 v233:=Tryz.zeroValue260
 g15:=by kernel_rfl
 g16:=by kernel_rfl
 g17:=by kernel_rfl
 g18:=by kernel_rfl
 g19:=by kernel_rfl
 t80:=Tryz.underlying261
 a80:=Tryz.isAgg261
 z80:=Tryz.sizeOf261
 v80:=Tryz.zeroValue261
 i0:=by kernel_rfl
 i2:=by kernel_rfl
 i3:=by kernel_rfl
 i4:=by kernel_rfl
 i5:=by kernel_rfl
 i9:=by kernel_rfl
 i20:=by kernel_rfl
 i21:=by kernel_rfl
 i37:=by kernel_rfl
 i46:=by kernel_rfl
 i51:=by kernel_rfl
 i53:=by kernel_rfl
 i75:=by kernel_rfl
 i80:=by kernel_rfl
 i85:=by kernel_rfl
 i127:=by kernel_rfl
 i143:=by kernel_rfl
 i145:=by kernel_rfl
 i167:=by kernel_rfl
 i168:=by kernel_rfl
 i171:=by kernel_rfl
 i173:=by kernel_rfl
 i175:=by kernel_rfl
 i210:=by kernel_rfl
 i212:=by kernel_rfl
 i232:=by kernel_rfl
 i233:=by kernel_rfl
 m15:=by kernel_rfl
 m16:=by kernel_rfl
 m17:=by kernel_rfl
 m18:=by kernel_rfl
 m19:=by kernel_rfl
 c0:=by kernel_rfl
 c2:=by kernel_rfl
 c3:=by kernel_rfl
 c4:=by kernel_rfl
 c5:=by kernel_rfl
 c9:=by kernel_rfl
 c20:=by kernel_rfl
 c21:=by kernel_rfl
 c37:=by kernel_rfl
 c46:=by kernel_rfl
 c51:=by kernel_rfl
 c53:=by kernel_rfl
 c75:=by kernel_rfl
 c80:=by kernel_rfl
 c85:=by kernel_rfl
 c127:=by kernel_rfl
 c143:=by kernel_rfl
 c145:=by kernel_rfl
 c167:=by kernel_rfl
 c168:=by kernel_rfl
 c171:=by kernel_rfl
 c173:=by kernel_rfl
 c175:=by kernel_rfl
 c210:=by kernel_rfl
 c212:=by kernel_rfl
 c213:=by kernel_rfl
 c232:=by kernel_rfl
 c233:=by kernel_rfl}
open Go.RowKit in
theorem lay_strconv_ParseInt_10_at64_ok (s:ByteArray) (hmax:s.size<=9223372036854775806) (v:Int) (h:Lib.parseIntB 64 s.data.toList=.ok v) (w:World):
 Calls Tryz.prog 129 #[.string s,.int .i64 10,.int .i64 64] w fun e w'=>e=.returned (.tuple #[.int .i64 v,.nilIface])/\(w'=w\/∃t,w'=Lib.bytesWorld w 5 t):=Any.strconv_ParseInt_10_at64_ok lay_laysC174 s hmax v h w
open Go.RowKit in
theorem lay_strconv_ParseInt_10_at64_else_var (s:ByteArray) (hlim:s.size<=281474976710656) (h:Lib.parseIntB 64 s.data.toList≠.range/\∀v,Lib.parseIntB 64 s.data.toList≠.ok v) (tp:TypeId) (p:Value) (w:World) (hvar:w.var? Tryz.prog "strconv.ErrSyntax"=some #[.iface tp p]):
 Calls Tryz.prog 129 #[.string s,.int .i64 10,.int .i64 64] w fun e w'=>∃N,e=.returned (.tuple #[.int .i64 (0),.iface 238 (.pointer (some ⟨N,0,none⟩))])/\w.heap.size<=N/\w'.heap[N]?=some (.cells #[.string ⟨#[80,97,114,115,101,73,110,116]⟩,.string s,.iface tp p] 253 (0,0))/\Below w.heap.size w w':=by
 cases hh:Lib.parseIntB 64 s.data.toList with
 |ok v=>exact absurd hh (h.2 v)
 |range=>exact absurd hh h.1
 |_=>exact Any.strconv_ParseInt_10_at64_syntax_var lay_laysC174 s hlim hh tp p w hvar
open Go.RowKit in
theorem lay_strconv_ParseInt_10_at64_range_var (s:ByteArray) (hlim:s.size<=281474976710656) (h:Lib.parseIntB 64 s.data.toList=.range) (tp:TypeId) (p:Value) (w:World) (hvar:w.var? Tryz.prog "strconv.ErrRange"=some #[.iface tp p]):
 Calls Tryz.prog 129 #[.string s,.int .i64 10,.int .i64 64] w fun e w'=>∃N,e=.returned (.tuple #[.int .i64 (Lib.intSat 64 s.data.toList),.iface 238 (.pointer (some ⟨N,0,none⟩))])/\w.heap.size<=N/\w'.heap[N]?=some (.cells #[.string ⟨#[80,97,114,115,101,73,110,116]⟩,.string s,.iface tp p] 253 (0,0))/\Below w.heap.size w w':=Any.strconv_ParseInt_10_at64_range_var lay_laysC174 s hlim h tp p w hvar
end Go.Proofs.YtfjmdkhemnmkpaaGreatDoor
namespace Go.Proofs.YtfjmdkhemnmkpaaGreatDoor
open Go.RowKit
theorem dec_eq (u:Nat):Lib.decDigits u=decN u:=by
 induction u using Nat.strongRecOn with
 |ind u ih=>
  by_cases h:u<10
  ·rw [decN_lt h,Lib.decDigits,dif_pos h]
  ·rw [decN_ge h,Lib.decDigits,dif_neg h,ih (u/10) (by omega)]
theorem itoa_dec (n:Int):Lib.itoa n=decI n:=by
 unfold Lib.itoa decI
 by_cases h:n<0
 ·rw [if_pos h,if_pos h,dec_eq,show n.natAbs=(-n).toNat by omega]
 ·rw [if_neg h,if_neg h,dec_eq]
def fV (n:Nat) (c:UInt8):Nat:=10*n+(c.toNat - 48)
theorem valD_fold (d:List UInt8):valD d=d.foldl fV 0:=rfl
theorem fold_ge:∀(d:List UInt8) (a:Nat),a<=d.foldl fV a
 |[],a=>nLr _
 |c::r,a=>by
  have:=fold_ge r (fV a c);simp only [List.foldl_cons];unfold fV at this ⊢;omega
theorem valD_snoc (d:List UInt8) (c:UInt8):valD (d++[c])=10*valD d+(c.toNat - 48):=by
 rw [valD_fold,valD_fold,List.foldl_append]
 rfl
theorem u8_dig {n:Nat} (h:n<10):(UInt8.ofNat (48+n)).toNat=48+n:=by
 simp [UInt8.toNat_ofNat];omega
theorem dig_of {n:Nat} (h:n<10):dig (UInt8.ofNat (48+n))=true:=by
 unfold dig;rw [u8_dig h];simp;omega
theorem decN_all (n:Nat):(decN n).all dig=true:=by
 induction n using Nat.strongRecOn with
 |ind n ih=>
  by_cases h:n<10
  ·rw [decN_lt h,List.all_cons,List.all_nil,dig_of h]
   rfl
  ·rw [decN_ge h,List.all_append,ih (n/10) (by omega),List.all_cons,List.all_nil,dig_of (show n%10<10 by omega)]
   rfl
theorem decN_ne (n:Nat):decN n≠[]:=by
 by_cases h:n<10
 ·rw [decN_lt h];simp
 ·rw [decN_ge h];simp
theorem valD_decN (n:Nat):valD (decN n)=n:=by
 induction n using Nat.strongRecOn with
 |ind n ih=>
  by_cases h:n<10
  ·rw [decN_lt h,valD_fold];simp only [List.foldl_cons,List.foldl_nil,fV,u8_dig h];omega
  ·rw [decN_ge h,valD_snoc,ih (n/10) (by omega),u8_dig (show n%10<10 by omega)];omega
theorem decN_zero (n:Nat) (h:(decN n)[0]?=some 48):n=0:=by
 induction n using Nat.strongRecOn with
 |ind n ih=>
  by_cases h1:n<10
  ·rw [decN_lt h1] at h;have h3:UInt8.ofNat (48+n)=48:=osI h;have h4:=congrArg UInt8.toNat h3;rw [u8_dig h1] at h4;have h5:(48:UInt8).toNat=48:=rfl;omega
  ·rw [decN_ge h1,List.getElem?_append_left (List.length_pos_iff.2 (decN_ne _))] at h;have:=ih (n/10) (by omega) h;omega
theorem decN_first (n:Nat):(decN n)[0]?≠some 45:=fun h=>by
 have h2:=List.all_eq_true.1 (decN_all n) 45 (List.mem_of_getElem? h)
 revert h2
 decide
theorem numM_decI {v:Int} (h1: -9223372036854775808<=v) (h2:v<=9223372036854775807):numM (decI v)=some v:=by
 unfold decI
 by_cases hn:v<0
 ·rw [if_pos hn];have hl:(decN (-v).toNat).length<=19:=decN_le 18 _ (by omega);have hpos:=List.length_pos_iff.2 (decN_ne (-v).toNat);rw [numM,if_pos (by simp),List.drop_succ_cons,List.drop_zero,numD,if_neg,if_neg (by simp only [decN_all,not_true_eq_false,not_false_eq_true]),if_pos rfl,valD_decN,if_pos (by omega)]
  ·congr 1;omega
  ·rintro (h|h|h)
   ·omega
   ·omega
   ·have:=decN_zero _ h.1;omega
 ·rw [if_neg hn];have hl:(decN v.toNat).length<=19:=decN_le 18 _ (by omega);have hpos:=List.length_pos_iff.2 (decN_ne v.toNat);rw [numM,if_neg (decN_first _),numD,if_neg,if_neg (by simp only [decN_all,not_true_eq_false,not_false_eq_true]),if_neg (by decide),valD_decN,if_pos (by omega)]
  ·congr 1;omega
  ·rintro (h|h|h)
   ·omega
   ·omega
   ·have hz:=decN_zero _ h.1
    rcases h.2 with h3|h3
    ·rw [hz,decN_lt (by decide)] at h3;simp at h3
    ·cases h3
theorem decN_valD:∀(k:Nat) (d:List UInt8),d.length=k->d≠[]->d.all dig=true->(d[0]?=some 48->d.length=1)->decN (valD d)=d
 |0,d,hk,hne,_,_=>absurd (List.eq_nil_of_length_eq_zero hk) hne
 |k+1,d,hk,hne,ha,hz=>by
  obtain ⟨e,c,rfl⟩:∃e c,d=e++[c]:=⟨d.dropLast,d.getLast hne,(List.dropLast_concat_getLast hne).symm⟩;rw [List.all_append,Bool.and_eq_true] at ha
  have hc:48<=c.toNat/\c.toNat<=57:=by
   have:=ha.2
   simpa [dig] using this
  have hcc:UInt8.ofNat (48+(c.toNat - 48))=c:=by
   apply UInt8.toNat_inj.1
   rw [u8_dig (by omega)];omega
  by_cases he:e=[]
  ·subst he;rw [List.nil_append,valD_fold];simp only [List.foldl_cons,List.foldl_nil,fV];rw [decN_lt (by omega),show 48+(10*0+(c.toNat - 48))=48+(c.toNat - 48) by omega,hcc]
  ·have hlen:e.length=k:=by simpa using hk
   have hz2:e[0]?≠some 48:=fun h=>by
    have:=hz (by rw [List.getElem?_append_left (List.length_pos_iff.2 he)];exact h);rw [List.length_append,List.length_singleton] at this;exact he (List.eq_nil_of_length_eq_zero (by omega))
   have ih:=decN_valD k e hlen he ha.1 (fun h=>absurd h hz2)
   have hpos:valD e≠0:=fun h0=>by
    rw [h0,decN_lt (by decide)] at ih;exact hz2 (by rw [<-ih];rfl)
   rw [valD_snoc,decN_ge (by omega),show (10*valD e+(c.toNat - 48))/10=valD e by omega,show (10*valD e+(c.toNat - 48))%10=c.toNat - 48 by omega,ih,hcc]
theorem pm_ok:∀(d:List UInt8) (a:Nat),d.all dig=true->d.foldl fV a<=18446744073709551615->Lib.parseUintM 18446744073709551615 a d=.ok (d.foldl fV a)
 |[],a,_,_=>rfl
 |c::r,a,ha,hf=>by
  rw [List.all_cons,Bool.and_eq_true] at ha
  have hc:48<=c.toNat/\c.toNat<=57:=by
   have:=ha.1
   simpa [dig] using this
  simp only [List.foldl_cons] at hf ⊢;have h1:=fold_ge r (fV a c);have h2:fV a c=a*10+(c.toNat - 48):=by unfold fV;omega
  have ih:=pm_ok r (fV a c) ha.2 hf;rw [Lib.parseUintM,if_pos hc,if_neg (by omega),if_neg (by omega),<-h2,ih]
theorem pu_ok {d:List UInt8} (hne:d≠[]) (ha:d.all dig=true) (hf:valD d<=18446744073709551615):Lib.parseUintB 64 d=.ok (valD d):=by
 rw [Lib.parseUintB,if_neg hne,show 2 ^ 64 - 1=18446744073709551615 by decide];exact pm_ok d 0 ha hf
theorem numM_some {bs:List UInt8} {v:Int} (h:numM bs=some v):Lib.parseIntB 64 bs=.ok v/\Lib.itoa v=bs:=by
 unfold numM at h;have e63:(2:Nat) ^ (64 - 1)=9223372036854775808:=by decide
 split at h
 ·rename_i hb
  obtain ⟨r,rfl⟩:∃r,bs=45::r:=by
   cases bs with
   |nil=>cases hb
   |cons c r=>exact ⟨r,by rw [show c=45 from osI hb]⟩
  rw [List.drop_succ_cons,List.drop_zero,numD] at h
  split at h
  ·cases h
  rename_i hbad
  split at h
  ·cases h
  rename_i hall
  have hall:r.all dig=true:=by simpa using hall
  rw [if_pos rfl] at h
  split at h
  ·rename_i hv
   cases h
   have hne:r≠[]:=fun e=>hbad (.inl (by rw [e];rfl))
   have hz:r[0]?≠some 48:=fun e=>hbad (.inr (.inr ⟨e,.inr rfl⟩))
   have hd:=decN_valD r.length r rfl hne hall (fun e=>absurd e hz)
   have hpos:valD r≠0:=fun h0=>by
    rw [h0,decN_lt (by decide)] at hd;exact hz (by rw [<-hd];rfl)
   refine ⟨?_,?_⟩
   ·rw [Lib.parseIntB_minus,pu_ok hne hall (by omega),e63];simp only [Lib.signedC];rw [if_neg (by omega)]
   ·rw [itoa_dec,decI,if_pos (by omega),show (-(-(valD r:Int))).toNat=valD r by omega,hd]
  ·cases h
 ·rename_i hb
  rw [numD] at h
  split at h
  ·cases h
  rename_i hbad
  split at h
  ·cases h
  rename_i hall
  have hall:bs.all dig=true:=by simpa using hall
  rw [if_neg (by decide)] at h
  split at h
  ·rename_i hv
   cases h
   have hne:bs≠[]:=fun e=>hbad (.inl (by rw [e];rfl))
   have hd:=decN_valD bs.length bs rfl hne hall (fun e=>by
    have hp:=List.length_pos_iff.2 hne
    by_cases h1:1<bs.length
    ·exact absurd (Or.inr (Or.inr ⟨e,.inl h1⟩)) hbad
    ·omega)
   obtain ⟨c,r,rfl⟩:∃c r,bs=c::r:=by
    cases bs with
    |nil=>exact absurd rfl hne
    |cons c r=>exact ⟨c,r,rfl⟩
   have hc:48<=c.toNat/\c.toNat<=57:=by
    rw [List.all_cons,Bool.and_eq_true] at hall;have:=hall.1
    simpa [dig] using this
   refine ⟨?_,?_⟩
   ·rw [Lib.parseIntB_plain 64 c r (by omega) (by omega),pu_ok hne hall (by omega),e63];simp only [Lib.signlessC];rw [if_neg (by omega)]
   ·rw [itoa_dec,decI,if_neg (by omega),Int.toNat_natCast,hd]
  ·cases h
end Go.Proofs.YtfjmdkhemnmkpaaGreatDoor
namespace Go.Proofs.YtfjmdkhemnmkpaaGreatDoor
open Go.RowKit Go.Sort
structure TabK (w:World):Prop where
 keys:TabQ w
 pow:Lib.TabIs Tryz.prog w "internal/strconv.uint64pow10" .u64 Lib.pow10Tab
 syn:∃tp p,w.var? Tryz.prog "strconv.ErrSyntax"=some #[.iface tp p]
 ran:∃tp p,w.var? Tryz.prog "strconv.ErrRange"=some #[.iface tp p]
theorem var_grew {P:Program} {w w':World} {n:String} {cs:Array Value} (h:w.var? P n=some cs) (hb:Below w.heap.size w w'):w'.var? P n=some cs:=by
 unfold World.var? at h ⊢
 cases hg:P.globalNamed n with
 |none=>rw [hg] at h;cases h
 |some g=>
  rw [hg] at h;simp only [Option.bind_some] at h ⊢
  have hlt:g<w.heap.size:=by
   by_cases hl:g<w.heap.size
   ·exact hl
   ·rw [Array.getElem?_eq_none (by omega)] at h
    cases h
  rw [hb.block g hlt];exact h
theorem var_keep {P:Program} {w w':World} {n:String} {cs:Array Value} (h:w.var? P n=some cs) (hk:∀g,g<w.heap.size->(∃cs t u,w.heap[g]?=some (.cells cs t u))->w'.heap[g]?=w.heap[g]?):w'.var? P n=some cs:=by
 unfold World.var? at h ⊢
 cases hg:P.globalNamed n with
 |none=>rw [hg] at h;cases h
 |some g=>
  rw [hg] at h;simp only [Option.bind_some] at h ⊢
  cases hc:w.heap[g]? with
  |none=>rw [hc] at h;cases h
  |some o=>
   rw [hk g (geS.1 hc).1 (by
    rw [hc] at h
    cases o with
    |cells a b c=>exact ⟨a,b,c,hc⟩
    |_=>cases h)]
   exact h
theorem TabK.grew {w w':World} (h:TabK w) (hb:Below w.heap.size w w'):TabK w':=
 ⟨h.keys.grew hb,var_grew h.pow hb,let ⟨tp,p,e⟩:=h.syn;⟨tp,p,var_grew e hb⟩,let ⟨tp,p,e⟩:=h.ran;⟨tp,p,var_grew e hb⟩⟩
theorem format_any (n:Int) (h0: -9223372036854775808<=n) (h1:n<=9223372036854775807) (w:World) (hT:TabK w):Calls Tryz.prog 115 #[.int .i64 n,.int .i64 10] w fun e W'=>e=.returned (.string (str (decI n)))/\Below w.heap.size w W':=
 (lay_strconv_FormatInt_10 n h0 h1 w hT.pow).mono fun e W' ⟨he,k,os,hw⟩=>⟨by rw [he,itoa_dec];rfl,by rw [hw];exact Lib.below_grow _ _ (nLr _) _ _⟩
theorem itoa_any (n:Int) (h0: -9223372036854775808<=n) (h1:n<=9223372036854775807) (w:World) (hT:TabK w):Calls Tryz.prog 117 #[.int .i64 n] w fun e W'=>e=.returned (.string (str (decI n)))/\Below w.heap.size w W':=
 (lay_strconv_Itoa n h0 h1 w hT.pow).mono fun e W' ⟨he,k,os,hw⟩=>⟨by rw [he,itoa_dec];rfl,by rw [hw];exact Lib.below_grow _ _ (nLr _) _ _⟩
theorem str_of {bs:List UInt8} {s:ByteArray}:str bs=s<->bs=s.data.toList:=
 ⟨fun h=>by rw [<-h];simp [str],fun h=>by rw [h];exact ByteArray.ext (by simp [str])⟩
theorem parse_any (s:ByteArray) (hs:s.size<=100000) (w:World) (hT:TabK w):Calls Tryz.prog 113 #[.string s] w fun e W'=>e=.returned (.tuple #[.int .i64 ((numM s.data.toList).getD 0),.bool (numM s.data.toList).isSome])/\Below w.heap.size w W':=by
 cases hp:Lib.parseIntB 64 s.data.toList with
 |ok v=>
  have hv:=Lib.parseIntB_bounds hp;rw [show (2:Nat) ^ (64 - 1)=9223372036854775808 by decide] at hv;have HP:=hiD (lay_strconv_ParseInt_10_at64_ok s (by omega) v hp w);have HT:=hiD hT;have HF:=hiD (aI (show -9223372036854775808<=v by omega) (show v<=9223372036854775807 by omega));obtain ⟨S,hS⟩:∃S,S=str (decI v):=⟨_,rfl⟩;have HSS:=hiD hS;clear hv hT hS
  by_cases he:S=s
  ·have hnum:numM s.data.toList=some v:=by
    rw [HSS.out] at he;rw [<-str_of.1 he];exact numM_decI HF.out.1 HF.out.2
   rw [hnum];have HE:=hiD he;clear hp hnum he;go_enter Tryz.func113,Tryz.ntmps113
   go_wp2_with fail
   refine HP.out.mono ?_;rintro e W ⟨rfl,hw⟩
   have hb:Below w.heap.size w W:=by
    rcases hw with rfl|⟨t,rfl⟩
    ·exact Below.refl _ _
    ·exact Lib.bytesWorld_below _ _ _
   have HB:=hiD hb;clear hw hb
   go_wp2_with fail
   refine (format_any v HF.out.1 HF.out.2 W (HT.out.grew HB.out)).mono ?_;rintro e W2 ⟨rfl,hb2⟩;rw [<-HSS.out,HE.out];have HB2:=hiD (HB.out.trans (Below.mono hb2 HB.out.size));clear hb2;go_wp2
   go_ret2
   exact ⟨rfl,HB2.out⟩
  ·have hnum:numM s.data.toList=none:=by
    cases hn:numM s.data.toList with
    |none=>rfl
    |some u=>
     obtain ⟨h1,h2⟩:=numM_some hn;rw [hp] at h1
     cases h1
     rw [itoa_dec] at h2;exact absurd (HSS.out.trans (str_of.2 h2)) he
   rw [hnum];have hne:¬S.toList=s.toList:=fun h=>he (toList_inj9.1 h)
   have hneb:(S.toList==s.toList)=false:=by simpa using hne
   clear hp hnum;go_enter Tryz.func113,Tryz.ntmps113
   go_wp2_with fail
   refine HP.out.mono ?_;rintro e W ⟨rfl,hw⟩
   have hb:Below w.heap.size w W:=by
    rcases hw with rfl|⟨t,rfl⟩
    ·exact Below.refl _ _
    ·exact Lib.bytesWorld_below _ _ _
   have HB:=hiD hb;clear hw hb
   go_wp2_with fail
   refine (format_any v HF.out.1 HF.out.2 W (HT.out.grew HB.out)).mono ?_;rintro e W2 ⟨rfl,hb2⟩;rw [<-HSS.out];have HB2:=hiD (HB.out.trans (Below.mono hb2 HB.out.size));clear hb2;go_wp2
   go_ret2
   exact ⟨rfl,HB2.out⟩
 |range=>
  have hnum:numM s.data.toList=none:=by
   cases hn:numM s.data.toList with
   |none=>rfl
   |some u=>have h1:=(numM_some hn).1;rw [hp] at h1;cases h1
  obtain ⟨tp,p,hv⟩:=hT.ran;have HP:=hiD (lay_strconv_ParseInt_10_at64_range_var s (by omega) hp tp p w hv);rw [hnum];clear hp hnum hv hT;go_enter Tryz.func113,Tryz.ntmps113
  go_wp2_with fail
  refine HP.out.mono ?_;rintro e W ⟨N,rfl,_,_,hb⟩;have HB:=hiD hb;clear hb;go_wp2
  go_ret2
  exact ⟨rfl,HB.out⟩
 |_=>
  have hnum:numM s.data.toList=none:=by
   cases hn:numM s.data.toList with
   |none=>rfl
   |some u=>have h1:=(numM_some hn).1;rw [hp] at h1;cases h1
  obtain ⟨tp,p,hv⟩:=hT.syn;have HP:=hiD (lay_strconv_ParseInt_10_at64_else_var s (by omega) ⟨by rw [hp];exact (fun h=>by cases h),fun v=>by rw [hp];exact (fun h=>by cases h)⟩ tp p w hv);rw [hnum];clear hp hnum hv hT;go_enter Tryz.func113,Tryz.ntmps113
  go_wp2_with fail
  refine HP.out.mono ?_;rintro e W ⟨N,rfl,_,_,hb⟩;have HB:=hiD hb;clear hb;go_wp2
  go_ret2
  exact ⟨rfl,HB.out⟩
theorem wrap_i64 {x:Int} (h0: -9223372036854775808<=x) (h1:x<=9223372036854775807):IntKind.i64.wrap x=x:=by
 simp [IntKind.wrap,IntKind.bits,IntKind.signed];omega
theorem wrap_over {x:Int} (h0:9223372036854775807<x) (h1:x<18446744073709551616):IntKind.i64.wrap x=x - 18446744073709551616:=by
 simp [IntKind.wrap,IntKind.bits,IntKind.signed];omega
theorem wrap_under {x:Int} (h0:x< -9223372036854775808) (h1: -18446744073709551616<=x):IntKind.i64.wrap x=x+18446744073709551616:=by
 simp [IntKind.wrap,IntKind.bits,IntKind.signed];omega
def sumB (a b:Int):Option Int:=if -9223372036854775808<=a+b/\a+b<=9223372036854775807 then some (a+b) else none
theorem sum_any (a b:Int) (ha: -9223372036854775808<=a/\a<=9223372036854775807) (hb: -9223372036854775808<=b/\b<=9223372036854775807) (w:World):
 Calls Tryz.prog 114 #[.int .i64 a,.int .i64 b] w fun e W'=>e=.returned (.tuple #[.int .i64 ((sumB a b).getD 0),.bool (sumB a b).isSome])/\W'=w:=by
 obtain ⟨t,ht⟩:∃t,IntKind.i64.wrap (a+b)=t:=⟨_,rfl⟩
 by_cases hr: -9223372036854775808<=a+b/\a+b<=9223372036854775807
 ·rw [show sumB a b=some (a+b) from if_pos hr];have hw:IntKind.i64.wrap (a+b)=a+b:=wrap_i64 hr.1 hr.2
  by_cases h0:0<b
  ·have h1:decide (a<a+b)=true:=by simp;omega
   have h2:decide (0<b)=true:=by simpa using h0
   clear ht ha hb hr h0;go_enter Tryz.func114,Tryz.ntmps114;go_wp2
   go_ret2
   exact ⟨rfl,rfl⟩
  ·have h1:decide (a<a+b)=false:=by simp;omega
   have h2:decide (0<b)=false:=by simpa using h0
   clear ht ha hb hr h0;go_enter Tryz.func114,Tryz.ntmps114;go_wp2
   go_ret2
   exact ⟨rfl,rfl⟩
 ·rw [show sumB a b=none from if_neg hr]
  by_cases h0:0<b
  ·have h1:decide (a<t)=false:=by
    have:t=a+b - 18446744073709551616:=by rw [<-ht];exact wrap_over (by omega) (by omega)
    simp;omega
   have h2:decide (0<b)=true:=by simpa using h0
   clear ha hb hr h0;go_enter Tryz.func114,Tryz.ntmps114;go_wp2
   go_ret2
   exact ⟨rfl,rfl⟩
  ·have h1:decide (a<t)=true:=by
    have:t=a+b+18446744073709551616:=by rw [<-ht];exact wrap_under (by omega) (by omega)
    simp;omega
   have h2:decide (0<b)=false:=by simpa using h0
   clear ha hb hr h0;go_enter Tryz.func114,Tryz.ntmps114;go_wp2
   go_ret2
   exact ⟨rfl,rfl⟩
end Go.Proofs.YtfjmdkhemnmkpaaGreatDoor
