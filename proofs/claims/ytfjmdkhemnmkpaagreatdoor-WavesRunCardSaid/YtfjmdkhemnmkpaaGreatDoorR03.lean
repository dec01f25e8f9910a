/- Parts of the proof: MKvN, MCmP, Store, OwnS, MKvD. -/
import Derived.Test.YtfjmdkhemnmkpaaGreatDoorR02
import Derived.Deep.DeepCutAuto
import Derived.Maps.AppendAt
import Derived.IntWalk
import Derived.Deep.CutBlock
set_option maxRecDepth 100000
set_option maxHeartbeats 8000000
namespace Go.Proofs.YtfjmdkhemnmkpaaGreatDoor
open Go.RowKit
abbrev PV:=ByteArray × ByteArray
def HasP (w:World) (A:Option Addr) (l:List PV):Prop:=l≠[]->∃b o,A=some ⟨b,o,none⟩/\b<w.heap.size/\∀j (h:j<l.length),w.cell? ⟨b,o+j*2,none⟩=some (.string l[j].1)/\w.cell? ⟨b,o+j*2+1,none⟩=some (.string l[j].2)
theorem HasP.below {w W:World} {A:Option Addr} {l:List PV} (h:HasP w A l) (hb:Below w.heap.size w W):HasP W A l:=fun hl=>by
 obtain ⟨b,o,e,h1,h2⟩:=h hl;exact ⟨b,o,e,nLl h1 hb.size,fun j hj=>⟨(hb.cell (p:=⟨b,o+j*2,none⟩) h1).trans (h2 j hj).1,(hb.cell (p:=⟨b,o+j*2+1,none⟩) h1).trans (h2 j hj).2⟩⟩
def findP (l:List PV) (k:ByteArray):Nat:=l.findIdx fun p=>decide (p.1=k)
def findI (l:List PV) (k:ByteArray):Int:=if findP l k<l.length then (findP l k:Int) else -1
theorem toList_inj9 {a b:ByteArray}:a.toList=b.toList<->a=b:=
 ⟨fun h=>by rw [ByteArray.toList_eq,ByteArray.toList_eq] at h;exact ByteArray.ext (Array.ext' h),fun h=>by rw [h]⟩
theorem findI_at {l:List PV} {k:ByteArray} {j:Nat} (hj:j<l.length) (h1:l[j].1=k) (h2:∀i (hi:i<l.length),i<j->l[i].1≠k):findI l k=(j:Int):=by
 have:findP l k=j:=(List.findIdx_eq hj).2 ⟨by simpa using h1,fun i hi=>by simpa using h2 i (by omega) hi⟩;rw [findI,this,if_pos hj]
theorem findI_no {l:List PV} {k:ByteArray} (h:∀i (hi:i<l.length),l[i].1≠k):findI l k= -1:=by
 have:¬findP l k<l.length:=fun hlt=>by
  have:=List.findIdx_getElem (p:=fun p:PV=>decide (p.1=k)) (xs:=l) (w:=hlt);exact h (List.findIdx (fun p:PV=>decide (p.1=k)) l) hlt (of_decide_eq_true this)
 rw [findI,if_neg this]
def cellsP (l:List PV):List Value:=l.flatMap fun p=>[.string p.1,.string p.2]
theorem cellsP_len:∀(l:List PV),(cellsP l).length=l.length*2
 |[]=>rfl
 |p::l=>by rw [cellsP,List.flatMap_cons,List.length_append];have:=cellsP_len l;rw [cellsP] at this;rw [this,List.length_cons];simp;omega
theorem cellsP_append (l m:List PV):cellsP (l++m)=cellsP l++cellsP m:=by simp [cellsP]
theorem cellsP_one (l:List PV):∀u∈cellsP l,u.oneCell'=true:=by
 intro u hu;obtain ⟨p,_,hp⟩:=List.mem_flatMap.1 hu;simp at hp
 rcases hp with rfl|rfl<;>rfl
theorem cellsP_get:∀(l:List PV) (j:Nat) (h:j<l.length),(cellsP l)[j*2]?=some (.string l[j].1)/\(cellsP l)[j*2+1]?=some (.string l[j].2)
 |p::l,0,_=>⟨rfl,rfl⟩
 |p::l,j+1,h=>by
  have:=cellsP_get l j (by simpa using h);have e:cellsP (p::l)=.string p.1::.string p.2::cellsP l:=rfl;rw [e,show (j+1)*2=j*2+1+1 by omega]
  simpa using this
def withoutP (l:List PV) (k:ByteArray):List PV:=l.filter fun p=>decide (p.1≠k)
theorem withoutP_len (l:List PV) (k:ByteArray):(withoutP l k).length<=l.length:=List.length_filter_le _ _
theorem withoutP_succ {l:List PV} {k:ByteArray} {j:Nat} (hj:j<l.length):withoutP (l.take (j+1)) k=withoutP (l.take j) k++(if l[j].1≠k then [l[j]] else []):=by
 rw [List.take_succ_eq_append_getElem hj,withoutP,List.filter_append]
 congr 1
 by_cases h:l[j].1=k
 ·simp [h]
 ·simp [h]
def ltB (a b:ByteArray):Bool:=Op.bytesLess a.toList b.toList
def placeP (r:List PV) (k:ByteArray):Nat:=(r.takeWhile fun p=>ltB p.1 k).length
def withP (l:List PV) (k v:ByteArray):List PV:=(withoutP l k).take (placeP (withoutP l k) k)++(k,v)::(withoutP l k).drop (placeP (withoutP l k) k)
theorem placeP_le (r:List PV) (k:ByteArray):placeP r k<=r.length:=by
 unfold placeP;exact (List.takeWhile_prefix _).length_le
theorem placeP_is:∀{r:List PV} {k:ByteArray} {n:Nat},n<=r.length->(∀i (h:i<r.length),i<n->ltB r[i].1 k=true)->(∀h:n<r.length,ltB r[n].1 k=false)->placeP r k=n
 |[],k,n,hn,_,_=>by
  obtain rfl:n=0:=by simpa using hn
  rfl
 |p::r,k,0,_,_,h2=>by
  have:=h2 (by simp);simp only [List.getElem_cons_zero] at this;unfold placeP;rw [List.takeWhile_cons_of_neg (by simp [this])]
  rfl
 |p::r,k,n+1,hn,h1,h2=>by
  have h0:=h1 0 (by simp) (by omega);simp only [List.getElem_cons_zero] at h0
  have ih:=placeP_is (r:=r) (k:=k) (n:=n) (by simpa using hn) (fun i h hi=>by
   have:=h1 (i+1) (by simpa using h) (by omega)
   simpa using this) (fun h=>by
   have:=h2 (by simpa using h)
   simpa using this)
  unfold placeP at ih ⊢;rw [List.takeWhile_cons_of_pos (by simp [h0]),List.length_cons,ih]
theorem withP_len (l:List PV) (k v:ByteArray):(withP l k v).length<=l.length+1:=by
 have h1:=withoutP_len l k;have h2:=placeP_le (withoutP l k) k;unfold withP;rw [List.length_append,List.length_cons,List.length_take,List.length_drop];omega
theorem HasP.take {w:World} {A:Option Addr} {l:List PV} (h:HasP w A l) (n:Nat):HasP w A (l.take n):=fun hn=>by
 obtain ⟨b,o,e,h1,h2⟩:=h (fun e=>hn (by rw [e];simp));refine ⟨b,o,e,h1,fun j hj=>?_⟩;have hj':j<l.length:=by rw [List.length_take] at hj;omega
 rw [List.getElem_take];exact h2 j hj'
theorem HasP.drop {w:World} {A A':Option Addr} {l:List PV} {n:Nat} (h:HasP w A l) (hA:∀b o,A=some ⟨b,o,none⟩->n<l.length->A'=some ⟨b,o+n*2,none⟩):HasP w A' (l.drop n):=fun hn=>by
 have hm:n<l.length:=Nat.lt_of_not_le (fun hle=>hn (List.drop_eq_nil_of_le hle));obtain ⟨b,o,e,h1,h2⟩:=h (fun e=>by rw [e] at hm;simp at hm);refine ⟨b,o+n*2,hA b o e hm,h1,fun j hj=>?_⟩;have hj':n+j<l.length:=by rw [List.length_drop] at hj;omega
 rw [List.getElem_drop];have:=h2 (n+j) hj';rw [show o+n*2+j*2=o+(n+j)*2 by omega];exact this
def lookP (l:List PV) (k:ByteArray):Option ByteArray:=(l.find? fun p=>decide (p.1=k)).map (·.2)
theorem find_cases:∀(l:List PV) (k:ByteArray),(findI l k= -1/\lookP l k=none)\/∃j,∃h:j<l.length,findI l k=(j:Int)/\lookP l k=some l[j].2:=by
 intro l k
 have key:(findP l k=l.length/\lookP l k=none)\/∃h:findP l k<l.length,lookP l k=some l[findP l k].2:=by
  induction l with
  |nil=>exact .inl ⟨rfl,rfl⟩
  |cons p l ih=>
   by_cases hp:p.1=k
   ·refine .inr ?_;have e:findP (p::l) k=0:=by simp [findP,List.findIdx_cons,hp]
    have e2:lookP (p::l) k=some p.2:=by simp [lookP,hp]
    exact ⟨by rw [e];simp,by rw [e2];simp [e]⟩
   ·have e:findP (p::l) k=findP l k+1:=by simp [findP,List.findIdx_cons,hp]
    have e2:lookP (p::l) k=lookP l k:=by simp [lookP,hp]
    rcases ih with ⟨h1,h2⟩|⟨h1,h2⟩
    ·exact .inl ⟨by rw [e,h1];rfl,by rw [e2,h2]⟩
    ·refine .inr ⟨by rw [e,List.length_cons];omega,?_⟩;rw [e2,h2];simp [e]
 rcases key with ⟨h1,h2⟩|⟨h1,h2⟩
 ·exact .inl ⟨by rw [findI,h1,if_neg (by omega)],h2⟩
 ·exact .inr ⟨_,h1,by rw [findI,if_pos h1],h2⟩
def putP (o:List PV) (k:ByteArray):Option ByteArray->List PV
 |none=>o
 |some v=>withP o k v
def swapP (l:List PV) (a b:ByteArray):List PV:=putP (putP (withoutP (withoutP l a) b) a (lookP l b)) b (lookP l a)
def decN (n:Nat):List UInt8:=if n<10 then [UInt8.ofNat (48+n)] else decN (n/10)++[UInt8.ofNat (48+n%10)]
theorem decN_lt {n:Nat} (h:n<10):decN n=[UInt8.ofNat (48+n)]:=by rw [decN,if_pos h]
theorem decN_ge {n:Nat} (h:¬n<10):decN n=decN (n/10)++[UInt8.ofNat (48+n%10)]:=by rw [decN,if_neg h]
theorem decN_le:∀(k n:Nat),n<10 ^ (k+1)->(decN n).length<=k+1
 |0,n,h=>by rw [decN_lt (by simpa using h)];simp
 |k+1,n,h=>by
  by_cases h10:n<10
  ·rw [decN_lt h10];simp
  ·have:=decN_le k (n/10) (by rw [Nat.pow_succ] at h;omega);rw [decN_ge h10,List.length_append,List.length_singleton];omega
theorem decN_len (n:Nat) (h:n<18446744073709551616):(decN n).length<=20:=decN_le 19 n (by omega)
theorem wrap_u64 {x:Int} (h0:0<=x) (h1:x<18446744073709551616):IntKind.u64.wrap x=x:=by
 simp [IntKind.wrap,IntKind.bits,IntKind.signed];omega
theorem wrap_u8 {x:Int} (h0:0<=x) (h1:x<256):IntKind.u8.wrap x=x:=by
 simp [IntKind.wrap,IntKind.bits,IntKind.signed];omega
def psiDG (n:Nat):Nat->Value->World->Prop
 |0,v,_=>v=.int .u64 (n:Int)
 |1,v,_=>v=.int .u64 ((n/10:Nat):Int)
 |2,v,_=>v=.string (str (decN (n/10)))
 |3,v,_=>v=.int .u64 (n:Int)
 |4,v,_=>v=.int .u64 ((n%10:Nat):Int)
 |5,v,_=>v=.int .u64 ((48+n%10:Nat):Int)
 |6,v,_=>v=.int .u8 ((48+n%10:Nat):Int)
 |7,v,w=>IsB w v ([UInt8.ofNat (48+n%10)])
 |8,v,_=>v=.string (str ([UInt8.ofNat (48+n%10)]))
 |9,v,_=>v=.string (str (decN (n/10)++[UInt8.ofNat (48+n%10)]))
 |10,v,_=>v=.string (str (decN (n/10)++[UInt8.ofNat (48+n%10)]))
 |_,_,_=>True
theorem psiDG_grew (n:Nat):∀i v w w',psiDG n i v w->Grew w w'->psiDG n i v w':=by
 intro i v w w' h hg
 rcases i with _|_|_|_|_|_|_|_|_|_|_|i
 ·exact h
 ·exact h
 ·exact h
 ·exact h
 ·exact h
 ·exact h
 ·exact h
 ·exact IsB.grew h hg
 ·exact h
 ·exact h
 ·exact h
 ·trivial
def decI (n:Int):List UInt8:=if n<0 then 45::decN (-n).toNat else decN n.toNat
theorem decI_len {n:Int} (h1: -9223372036854775808<=n) (h2:n<=9223372036854775807):(decI n).length<=21:=by
 unfold decI
 split
 ·have:=decN_len (-n).toNat (by omega);simp;omega
 ·have:=decN_len n.toNat (by omega);omega
def dig (c:UInt8):Bool:=decide (48<=c.toNat/\c.toNat<=57)
def valD (d:List UInt8):Nat:=d.foldl (fun n c=>10*n+(c.toNat - 48)) 0
def badD (neg:Bool) (d:List UInt8):Prop:=d.length=0\/19<d.length\/(d[0]?=some 48/\(1<d.length\/neg=true))
open Classical in
noncomputable def numD (neg:Bool) (d:List UInt8):Option Int:=if badD neg d then none else if ¬d.all dig then none else if neg then (if valD d<=9223372036854775808 then some (-(valD d:Int)) else none) else if valD d<9223372036854775808 then some (valD d:Int) else none
noncomputable def numM (bs:List UInt8):Option Int:=if bs[0]?=some 45 then numD true (bs.drop 1) else numD false bs
def BD (bad neg:Bool) (d:List UInt8):Prop:=bad=true<->badD neg d
def NumP (bs:List UInt8) (w:World) (e:Ending) (W':World):Prop:=W'=w/\∃(x:Int) (ok:Bool),e=.returned (.tuple #[.int .i64 x,.bool ok])/\numM bs=if ok then some x else none
theorem valD_succ {d:List UInt8} {k:Nat} (h:k<d.length):valD (d.take (k+1))=10*valD (d.take k)+(d[k].toNat - 48):=by
 unfold valD;rw [List.take_succ_eq_append_getElem h,List.foldl_append]
 rfl
theorem all_succ {d:List UInt8} {k:Nat} (h:k<d.length) (h1:(d.take k).all dig=true) (h2:dig d[k]=true):(d.take (k+1)).all dig=true:=by
 rw [List.take_succ_eq_append_getElem h,List.all_append,h1];simp [h2]
theorem str_drop1 (b:UInt8) (d:List UInt8):(str (b::d)).extract 1 (str (b::d)).size=str d:=by
 apply ByteArray.ext
 simp [str,ByteArray.size]
noncomputable def seedP (l:List PV) (k:ByteArray):Option Int:=match lookP l k with|none=>some 0|some v=>numM v.data.toList
noncomputable def sumP (l:List PV) (k:ByteArray) (n:Int):Option Int:=
 match seedP l k with
 |none=>none
 |some m=>if -9223372036854775808<=m+n/\m+n<=9223372036854775807 then some (m+n) else none
noncomputable def addP (l:List PV) (k:ByteArray) (n:Int):List PV × Nat × ByteArray:=
 match sumP l k n with
 |none=>(l,2,⟨#[]⟩)
 |some s=>(withP l k (str (decI s)),0,str (decI s))
theorem numD_range {neg:Bool} {d:List UInt8} {m:Int} (h:numD neg d=some m): -9223372036854775808<=m/\m<=9223372036854775807:=by
 unfold numD at h
 split at h
 ·cases h
 ·split at h
  ·cases h
  ·split at h
   ·split at h
    ·cases h;omega
    ·cases h
   ·split at h
    ·cases h;omega
    ·cases h
theorem numM_range {bs:List UInt8} {m:Int} (h:numM bs=some m): -9223372036854775808<=m/\m<=9223372036854775807:=by
 unfold numM at h
 split at h
 ·exact numD_range h
 ·exact numD_range h
theorem sumP_none {l:List PV} {k:ByteArray} {n:Int} (h:seedP l k=none):sumP l k n=none:=by rw [sumP,h]
theorem sumP_some {l:List PV} {k:ByteArray} {n m:Int} (h:seedP l k=some m):sumP l k n=if -9223372036854775808<=m+n/\m+n<=9223372036854775807 then some (m+n) else none:=by rw [sumP,h]
def PR (w:World) (A:Option Addr) (l:List PV) (r:List PV × Nat × ByteArray) (e:Ending) (W':World):Prop:=∃A' L' c',e=.returned (.tuple #[.slice A' L' c',.agg #[.int .u8 (r.2.1:Int),.string r.2.2]])/\L'=r.1.length/\HasP W' A' r.1/\(A'=A/\r.1=l\/∀b o m,A'=some ⟨b,o,m⟩->w.heap.size<=b)/\Below w.heap.size w W'
theorem seedP_range {l:List PV} {k:ByteArray} {m:Int} (h:seedP l k=some m): -9223372036854775808<=m/\m<=9223372036854775807:=by
 unfold seedP at h
 split at h
 ·cases h;omega
 ·exact numM_range h
theorem reply_set {B q:Nat} {w W:World} {c0 c1:Value} {t:TypeId} (a b:Value) (h:W.heap[q]?=some (.cells #[c0,c1] t (0,0))) (hb:Below B w W) (hB:B<=q) (hW:B<=W.heap.size):
 ((W.setCell ⟨q,0,none⟩ a).setCell ⟨q,1,none⟩ b).cell? ⟨q,0,none⟩=some a/\((W.setCell ⟨q,0,none⟩ a).setCell ⟨q,1,none⟩ b).cell? ⟨q,1,none⟩=some b/\Below B w ((W.setCell ⟨q,0,none⟩ a).setCell ⟨q,1,none⟩ b)/\Below q W ((W.setCell ⟨q,0,none⟩ a).setCell ⟨q,1,none⟩ b):=by
 have h1:=blk_set h 0 a;have h2:=blk_set h1 1 b;have hq:q<W.heap.size:=(geS.1 h).1;have hs:(W.setCell ⟨q,0,none⟩ a).heap.size=W.heap.size:=by simp [World.setCell]
 refine ⟨by rw [blk_cell h2 0];rfl,by rw [blk_cell h2 1];rfl,?_,?_⟩
 ·exact (hb.grown (grownBy_set W q 0 a) hW (fun k e=>by cases e;exact hB)).grown (grownBy_set _ q 1 b) (by omega) (fun k e=>by cases e;exact hB)
 ·exact ((Below.refl q W).grown (grownBy_set W q 0 a) (by omega) (fun k e=>by cases e;exact nLr _)).grown (grownBy_set _ q 1 b) (by omega) (fun k e=>by cases e;exact nLr _)
def pairB (p:PV):List UInt8:=txt p.1++txt p.2
def pairsTo (l:List PV) (k:Nat):List UInt8:=(l.take k).flatMap pairB
theorem pairsTo_succ {l:List PV} {k:Nat} (h:k<l.length):pairsTo l (k+1)=pairsTo l k++txt l[k].1++txt l[k].2:=by
 unfold pairsTo;rw [List.take_succ_eq_append_getElem h,List.flatMap_append,List.append_assoc];simp [pairB]
def bytesP (l:List PV):List UInt8:=vb l.length++l.flatMap pairB
end Go.Proofs.YtfjmdkhemnmkpaaGreatDoor
namespace Go.Proofs.YtfjmdkhemnmkpaaGreatDoor
structure CM where
 cl:Nat
 sq:Nat
 kd:Nat
 ks:List ByteArray
 old:ByteArray
 new:ByteArray
 n:Int
def leastK (kd:Nat):Nat:=if kd=6 then 2 else 1
def mostK (kd:Nat):Nat:=if kd=6 then 2 else if kd=7\/kd=8 then 16 else 1
structure CM.May (m:CM):Prop where
 kd:1<=m.kd/\m.kd<=8
 each:∀k∈m.ks,1<=k.size/\k.size<=32
 cl:0<m.cl
 len:leastK m.kd<=m.ks.length/\m.ks.length<=mostK m.kd
 old:m.old.size<=64
 new:m.new.size<=64
 old0:m.old.size=0\/m.kd=5
 new0:m.new.size=0\/m.kd=1\/m.kd=5
 n0:m.n=0\/m.kd=4
open Classical in
noncomputable def CM.may (m:CM):Bool:=decide m.May
theorem CM.may_iff {m:CM}:m.may=true<->m.May:=by simp [CM.may]
theorem CM.may_no {m:CM}:m.may=false<->¬m.May:=by simp [CM.may]
theorem mostK_le (kd:Nat):mostK kd<=16:=by unfold mostK;split<;>(try split)<;>omega
end Go.Proofs.YtfjmdkhemnmkpaaGreatDoor
namespace Go.Proofs.YtfjmdkhemnmkpaaGreatDoor
open Go.RowKit
def HasC (w:World) (A:Option Addr) (l:List CmdV):Prop:=l≠[]->∃b o,A=some ⟨b,o,none⟩/\b<w.heap.size/\∀j (h:j<l.length),(∀i u,l[j].cells[i]?=some u->w.cell? ⟨b,o+j*7+i,none⟩=some u)/\l[j].ok w
theorem CmdV.ok.below {w W:World} {a:CmdV} (h:a.ok w) (hb:Below w.heap.size w W):a.ok W:=
 ⟨h.cl,h.sq,h.kd,h.n,h.len,h.max,h.has.below hb,h.each,h.old,h.new⟩
theorem HasC.below {w W:World} {A:Option Addr} {l:List CmdV} (h:HasC w A l) (hb:Below w.heap.size w W):HasC W A l:=fun hl=>by
 obtain ⟨b,o,e,h1,h2⟩:=h hl;exact ⟨b,o,e,nLl h1 hb.size,fun j hj=>⟨fun i u hu=>(hb.cell (p:=⟨b,o+j*7+i,none⟩) h1).trans ((h2 j hj).1 i u hu),(h2 j hj).2.below hb⟩⟩
def CmdV.m (a:CmdV):CM:=⟨a.cl,a.sq,a.kd,a.ks,a.old,a.new,a.n⟩
theorem size0 {s:ByteArray}:s.size=0<->s=⟨#[]⟩:=by
 constructor
 ·intro h;obtain ⟨d⟩:=s;have:d.size=0:=h;rw [Array.eq_empty_of_size_eq_zero this]
 ·rintro rfl;rfl
theorem toE (s:ByteArray):s.toList.isEmpty=decide (s.size=0):=by
 rw [ByteArray.toList_eq];obtain ⟨d⟩:=s;show d.toList.isEmpty=decide (d.size=0);rw [<-Array.length_toList]
 cases d.toList<;>simp
theorem toNil (s:ByteArray):s.toList=[]<->s.size=0:=by
 have:=toE s;rw [Bool.eq_iff_iff,List.isEmpty_iff,decide_eq_true_iff] at this;exact this
theorem kdE (a k:Nat):((a:Int)==(k:Int))=decide (a=k):=by
 rw [Bool.eq_iff_iff];simp;omega
section
variable {F:Fence} {n:Nat} {P:Program} {Q:Exit->Act->World->Prop} {ops:List Oper}
theorem wpIn_region_store {id:Nat} {a:Act} {w:World} {last:Oper} (N:Nat) (hN:a.tmps.size=N) (hm:P.follows .mixedOrders=true) (hb:backwards (ops++[last])=true) (hs:slotsOk N ops=true)
 (hall:((List.range ops.length).all (hasEdge last))=true)
 (Rl:World->World->Prop) (hr:∀w,Rl w w) (ht:∀{x y z},Rl x y->Rl y z->Rl x z)
 (ψ:Nat->Value->World->Prop) (hψ:∀i v w w',ψ i v w->Rl w w'->ψ i v w')
 (hstep:∀i o d,ops.toArray[i]?=some o->o.dst=some d->∀a' w',Frm ops a a'->Rl w.drew w'->
  (∀j o' d',hasEdge o j=true->ops.toArray[j]?=some o'->o'.dst=some d'->ψ j (a'.tmps.getD d' undef) w')->
  wpOpIn F n P (ops++[last]).toArray Q i (fun a'' w''=>∃v,a''=a'.put (some d) v/\ψ i v w''/\Rl w' w'') a' w')
 (hlast:∀a' w',Frm ops a a'->Rl w.drew w'->(∀j o' d',ops.toArray[j]?=some o'->o'.dst=some d'->ψ j (a'.tmps.getD d' undef) w')->
  wpOpIn F n P (ops++[last]).toArray Q ops.length (fun a'' w''=>Q .normal a'' w'') a' w'):
 (Code.region id (ops++[last]).toArray true).wpIn F n P Q a w:=by
 have hold:∀(i:Nat) (o:Oper),i<ops.length->(ops++[last]).toArray[i]?=some o->ops.toArray[i]?=some o:=by
  intro i o hi ho;simp only [List.getElem?_toArray] at ho ⊢
  rwa [List.getElem?_append_left hi] at ho
 have hnew:∀(i:Nat) (o:Oper),ops.toArray[i]?=some o->i<ops.length:=by
  intro i o ho;have:=(geS.1 ho).1
  simpa using this
 have hlst:(ops++[last]).toArray[ops.length]?=some last:=by simp
 have hdst:∀(i:Nat) (o:Oper),ops.toArray[i]?=some o->∃d,o.dst=some d/\d<N:=by
  intro i o ho;have h1:=(Bool.and_eq_true _ _ ▸ hs).1;rw [List.all_eq_true] at h1;have hmem:o∈ops:=by simpa using List.mem_of_getElem? (by simpa using ho)
  have:=h1 o hmem
  cases hd:o.dst with
  |none=>rw [hd] at this;cases this
  |some d=>rw [hd] at this;exact ⟨d,rfl,by simpa using this⟩
 have hinj:∀(i j:Nat) (o o':Oper) (d:Nat),ops.toArray[i]?=some o->ops.toArray[j]?=some o'->o.dst=some d->o'.dst=some d->i=j:=by
  intro i j o o' d hi hj hd hd';have h1:=(Bool.and_eq_true _ _ ▸ hs).2;have hnd:(ops.map (·.dst)).Nodup:=by simpa using h1
  have hi':(ops.map (·.dst))[i]?=some (some d):=by simp at hi;simp [hi,hd]
  have hj':(ops.map (·.dst))[j]?=some (some d):=by simp at hj;simp [hj,hd']
  have hlt:i<(ops.map (·.dst)).length:=by
   rcases Nat.lt_or_ge i (ops.map (·.dst)).length with h|h
   ·exact h
   ·rw [List.getElem?_eq_none h] at hi';cases hi'
  exact (List.getElem?_inj hlt hnd).1 (hi'.trans hj'.symm)
 have hedge:∀j,j<ops.length->∃e∈last.after,e.on=j/\Region.binds .any e=true:=by
  intro j hj;rw [List.all_eq_true] at hall;have:=hall j (List.mem_range.2 hj);unfold hasEdge at this;rw [List.any_eq_true] at this;obtain ⟨e,hem,he⟩:=this;exact ⟨e,by simpa using hem,by simpa using he⟩
 refine wpIn_region_by hm hb (fun L a' w'=>(L ops.length=false/\Frm ops a a'/\Rl w.drew w'/\∀j o' d',L j=true->ops.toArray[j]?=some o'->o'.dst=some d'->ψ j (a'.tmps.getD d' undef) w')\/(L ops.length=true/\Q .normal a' w'))
  (.inl ⟨rfl,⟨rfl,rfl,fun _ _=>rfl⟩,hr _,fun _ _ _ h=>absurd h (by simp)⟩) ?_ ?_
 ·rintro L a' w' i o (⟨hLn,hF,hR,hL⟩|⟨hLn,_⟩) hi hli hpre hcl
  ·rcases Nat.lt_or_ge i ops.length with hin|hin
   ·have hi':=hold i o hin hi;obtain ⟨d,hd,hdN⟩:=hdst i o hi';refine wpOpIn_mono ?_ (hstep i o d hi' hd a' w' hF hR (fun j o' d' he hj hd'=>hL j o' d' ?_ hj hd'))
    ·rintro a'' w'' ⟨v,rfl,hv,hR'⟩
     refine .inl ⟨by
      have:¬(ops.length=i):=by omega
      simp [hLn,this],⟨size_put.trans hF.size,defers_put.trans hF.defers,fun s hs'=>?_⟩,ht hR hR',fun j o' d' hj ho' hd'=>?_⟩
     ·have hmem:o∈ops:=by simpa using List.mem_of_getElem? (by simpa using hi')
      rw [getD_put_ne (fun e=>hs' o hmem (by rw [hd,e]))];exact hF.old s hs'
     ·by_cases hji:j=i
      ·subst hji;rw [hi'] at ho';cases ho';rw [hd] at hd';cases hd';rw [getD_put_same (by rw [hF.size,hN];exact hdN)];exact hv
      ·have hne:d'≠d:=fun e=>hji (by subst e;exact hinj j i o' o d' ho' hi' hd' hd)
       rw [getD_put_ne hne];have hlj:L j=true:=by simpa [hji] using hj
       exact hψ j _ _ _ (hL j o' d' hlj ho' hd') hR'
    ·unfold hasEdge at he;rw [List.any_eq_true] at he;obtain ⟨e,hem,he'⟩:=he;have h1:e.on=j/\Region.binds .any e=true:=by simpa using he'
     rw [<-h1.1];exact hpre e (by simpa using hem) h1.2
   ·have hieq:i=ops.length:=by
     have:=(geS.1 hi).1;simp at this;omega
    subst hieq;rw [hlst] at hi;cases hi;refine wpOpIn_mono ?_ (hlast a' w' hF hR (fun j o' d' hj hd'=>hL j o' d' ?_ hj hd'))
    ·intro a'' w'' h;exact .inr ⟨by simp,h⟩
    ·obtain ⟨e,hem,he,hbd⟩:=hedge j (hnew j o' hj);rw [<-he];exact hpre e hem hbd
  ·rcases Nat.lt_or_ge i ops.length with hin|hin
   ·obtain ⟨e,hem,he,hbd⟩:=hedge i hin;have:=hcl ops.length last e hlst hLn hem hbd;rw [he,hli] at this;cases this
   ·have hieq:i=ops.length:=by
     have:=(geS.1 hi).1;simp at this;omega
    rw [hieq,hLn] at hli;cases hli
 ·rintro L a' w' (⟨hLn,_⟩|⟨_,h⟩) hl
  ·have:=hl ops.length (by simp);rw [hLn] at this;cases this
  ·exact h
end
theorem infoS:(Tryz.prog.info? 9).map (fun i=>(i.zero,i.size,i.bytes))=some (some (.string ⟨#[]⟩),1,16):=by kernel_rfl
theorem infoS_parts:∃i,Tryz.prog.info? 9=some i/\i.zero=some (.string ⟨#[]⟩)/\i.size=1/\i.bytes=16:=by
 have h:=infoS
 cases hi:Tryz.prog.info? 9 with
 |none=>rw [hi] at h;cases h
 |some i=>rw [hi] at h;simp at h;exact ⟨i,rfl,h.1,h.2.1,h.2.2⟩
def cellsS (l:List ByteArray):List Value:=l.map .string
theorem cellsS_one (l:List ByteArray):∀u∈cellsS l,u.oneCell'=true:=by
 intro u hu;obtain ⟨p,_,rfl⟩:=List.mem_map.1 hu
 rfl
def OwnS (base:Nat) (w:World) (v:Value) (l:List ByteArray):Prop:=w.ownsRow base 9 1 v l.length (cellsS l)
theorem OwnS.form {base:Nat} {w:World} {v:Value} {l:List ByteArray} (h:OwnS base w v l):∃A c,v=.slice A l.length c/\l.length<=c:=by
 rcases h.2 with ⟨rfl,h0⟩|⟨g,cap,cur,rfl,_,_,hn,_⟩
 ·exact ⟨none,0,by rw [h0],by omega⟩
 ·exact ⟨_,_,rfl,hn⟩
theorem OwnS.below {base:Nat} {w w':World} {v:Value} {l:List ByteArray} (h:OwnS base w v l) (hb:Below w.heap.size w w'):OwnS base w' v l:=by
 refine World.ownsRow.kept h (grownBy_of_below (r:=none) hb) ?_
 cases v.ownBlock with
 |none=>exact .inl rfl
 |some x=>exact .inr (by simp)
theorem OwnS.has {base:Nat} {w:World} {A:Option Addr} {n c:Nat} {l:List ByteArray} (h:OwnS base w (.slice A n c) l):HasS w A l:=fun hl=>by
 have hl':0<l.length:=List.length_pos_iff.2 hl
 rcases h.2 with ⟨e,h0⟩|⟨g,cap,cur,e,_,hg,hn,_⟩
 ·omega
 ·cases e
  refine ⟨g,0,rfl,(geS.1 hg).1,fun j hj=>?_⟩;have c0:=World.ownsRow.cells h (g:=g) rfl j (.string l[j]) (by simp [cellsS,hj]);rw [addr_add] at c0;exact c0
theorem OwnS.mono {b b':Nat} {w:World} {v:Value} {l:List ByteArray} (h:OwnS b w v l) (hb:b'<=b):OwnS b' w v l:=by
 refine ⟨h.1,?_⟩
 rcases h.2 with h2|⟨g,cap,cur,e,h1,h2⟩
 ·exact .inl h2
 ·exact .inr ⟨g,cap,cur,e,nLt hb h1,h2⟩
theorem OwnS.nil (base:Nat) (w:World):OwnS base w (.slice none 0 0) []:=World.ownsRow_nil _ _ _ _
theorem wpList_append_S {ops:Array Oper} {rest:List Oper} {o:Oper} {a:Act} {w:World} {Q:Exit->Act->World->Prop} (hgd:o.guard=none) (s x:Operand)
 (ho:o.op=.call {callee:=.builtin .append,args:=#[s,x],argTypes:=#[55,55]}) (base:Nat) (v:Value) (l:List ByteArray) (hs:a.eval s=v) (hown:OwnS base w v l)
 (b:Nat) (c:Nat) (t:ByteArray) (hx:a.eval x=.slice (some ⟨b,0,none⟩) 1 c) (hA:w.cell? ⟨b,0,none⟩=some (.string t)) (hlen:l.length+1<=1000000) (hbase:base<=w.heap.size)
 (h:∀v' w',OwnS base w' v' (l++[t])->w.grownBy w' v.ownBlock->wpList Tryz.prog ops Q rest (a.put o.dst v') w'):wpList Tryz.prog ops Q (o::rest) a w:=by
 obtain ⟨i,hi,hz,hsz,hby⟩:=infoS_parts;refine wpList_append_own_at w hgd s x 55 ho base 9 i _ 1 16 Tryz.underlying55 hi hz hsz hby rfl (by omega) v l.length (cellsS l) hs hown ⟨b,0,none⟩ 1 c (cellsS [t]) hx rfl (fun j u hj=>?_) (cellsS_one [t]) (by simp only [maxLen];omega) (by omega) hbase ?_
 ·have hjl:j<1:=(List.getElem?_eq_some_iff.1 hj).1;obtain rfl:j=0:=by omega
  rw [addr_add];have:u=.string t:=by simpa [cellsS] using hj.symm
  rw [this];exact hA
 ·intro v' w' h1 h2 _ _;refine h v' w' ?_ h2;unfold OwnS;rw [show cellsS (l++[t])=cellsS l++cellsS [t] by simp [cellsS],List.length_append];exact h1
def keyP (ks:List ByteArray) (i:Nat):ByteArray:=ks[i]?.getD ⟨#[]⟩
def joinP (l:List PV) (ks:List ByteArray):List UInt8:=ks.flatMap fun k=>((lookP l k).elim [] fun v=>v.data.toList)++[44]
def restP (l:List PV) (ks:List ByteArray):List PV:=ks.foldl withoutP l
theorem joinP_succ {l:List PV} {ks:List ByteArray} {j:Nat} (h:j<ks.length):joinP l (ks.take (j+1))=joinP l (ks.take j)++((lookP l ks[j]).elim [] fun v=>v.data.toList)++[44]:=by
 unfold joinP;rw [List.take_succ_eq_append_getElem h,List.flatMap_append,List.append_assoc];simp
theorem restP_succ {l:List PV} {ks:List ByteArray} {j:Nat} (h:j<ks.length):restP l (ks.take (j+1))=withoutP (restP l (ks.take j)) ks[j]:=by
 unfold restP;rw [List.take_succ_eq_append_getElem h,List.foldl_append]
 rfl
theorem restP_len (l:List PV) (ks:List ByteArray):(restP l ks).length<=l.length:=by
 unfold restP
 induction ks generalizing l with
 |nil=>exact nLr _
 |cons k ks ih=>
  have:=ih (withoutP l k);have h2:=withoutP_len l k;simp only [List.foldl_cons];omega
noncomputable def doP (l:List PV) (m:CM):List PV × Nat × ByteArray:=
 if m.may=false then (l,2,⟨#[]⟩)
 else if m.kd=1 then (withP l (keyP m.ks 0) m.new,0,⟨#[]⟩)
 else if m.kd=2 then match lookP l (keyP m.ks 0) with|none=>(l,1,⟨#[]⟩)|some v=>(l,0,v)
 else if m.kd=3 then match lookP l (keyP m.ks 0) with|none=>(l,1,⟨#[]⟩)|some v=>(withoutP l (keyP m.ks 0),0,v)
 else if m.kd=4 then addP l (keyP m.ks 0) m.n
 else if m.kd=5 then match lookP l (keyP m.ks 0) with
  |none=>(l,1,⟨#[]⟩)
  |some v=>if v≠m.old then (l,2,⟨#[]⟩) else (withP l (keyP m.ks 0) m.new,0,⟨#[]⟩)
 else if m.kd=6 then (swapP l (keyP m.ks 0) (keyP m.ks 1),0,⟨#[]⟩)
 else if m.kd=7 then (l,0,str (joinP l m.ks))
 else (restP l m.ks,0,str (decI ((l.length:Int) - (restP l m.ks).length)))
theorem hasP_set {w W:World} {A A8:Option Addr} {l r:List PV} {B q:Nat} (a b:Value) (hA:HasP w A l) (h8:HasP W A8 r) (hat:A8=A/\r=l\/∀b o m,A8=some ⟨b,o,m⟩->B<=b) (hq1:w.heap.size<=q) (hq2:q<B):HasP ((W.setCell ⟨q,0,none⟩ a).setCell ⟨q,1,none⟩ b) A8 r:=fun hne=>by
 obtain ⟨x,o,e1,e2,e3⟩:=h8 hne
 have hx:x≠q:=by
  rcases hat with h|h
  ·obtain ⟨b2,o2,f1,f2,_⟩:=hA (by rw [<-h.2];exact hne);rw [<-h.1,e1] at f1
   cases f1
   omega
  ·have:=h x o none e1;omega
 have keep:∀i,((W.setCell ⟨q,0,none⟩ a).setCell ⟨q,1,none⟩ b).cell? ⟨x,i,none⟩=W.cell? ⟨x,i,none⟩:=fun i=>
  World.cell?_of_block ((Below.heap_setCell _ _ _ _ hx).trans (Below.heap_setCell _ _ _ _ hx))
 exact ⟨x,o,e1,by simpa [World.setCell] using e2,fun j hj=>⟨(keep _).trans (e3 j hj).1,(keep _).trans (e3 j hj).2⟩⟩
section
variable {l:List PV} {m:CM} {k0 u:ByteArray}
theorem doP_put (hm:m.may=true) (h:m.kd=1) (hk:keyP m.ks 0=k0):doP l m=(withP l k0 m.new,0,⟨#[]⟩):=by
 unfold doP;rw [if_neg (by rw [hm];decide),if_pos h,hk]
theorem doP_get0 (hm:m.may=true) (h:m.kd=2) (hk:keyP m.ks 0=k0) (hl:lookP l k0=none):doP l m=(l,1,⟨#[]⟩):=by
 unfold doP;rw [if_neg (by rw [hm];decide),if_neg (by omega),if_pos h,hk,hl]
theorem doP_get1 (hm:m.may=true) (h:m.kd=2) (hk:keyP m.ks 0=k0) (hl:lookP l k0=some u):doP l m=(l,0,u):=by
 unfold doP;rw [if_neg (by rw [hm];decide),if_neg (by omega),if_pos h,hk,hl]
theorem doP_del0 (hm:m.may=true) (h:m.kd=3) (hk:keyP m.ks 0=k0) (hl:lookP l k0=none):doP l m=(l,1,⟨#[]⟩):=by
 unfold doP;rw [if_neg (by rw [hm];decide),if_neg (by omega),if_neg (by omega),if_pos h,hk,hl]
theorem doP_del1 (hm:m.may=true) (h:m.kd=3) (hk:keyP m.ks 0=k0) (hl:lookP l k0=some u):doP l m=(withoutP l k0,0,u):=by
 unfold doP;rw [if_neg (by rw [hm];decide),if_neg (by omega),if_neg (by omega),if_pos h,hk,hl]
theorem doP_add (hm:m.may=true) (h:m.kd=4) (hk:keyP m.ks 0=k0):doP l m=addP l k0 m.n:=by
 unfold doP;rw [if_neg (by rw [hm];decide),if_neg (by omega),if_neg (by omega),if_neg (by omega),if_pos h,hk]
theorem doP_cas0 (hm:m.may=true) (h:m.kd=5) (hk:keyP m.ks 0=k0) (hl:lookP l k0=none):doP l m=(l,1,⟨#[]⟩):=by
 unfold doP;rw [if_neg (by rw [hm];decide),if_neg (by omega),if_neg (by omega),if_neg (by omega),if_neg (by omega),if_pos h,hk,hl]
theorem doP_cas1 (hm:m.may=true) (h:m.kd=5) (hk:keyP m.ks 0=k0) (hl:lookP l k0=some u) (ho:u≠m.old):doP l m=(l,2,⟨#[]⟩):=by
 unfold doP;rw [if_neg (by rw [hm];decide),if_neg (by omega),if_neg (by omega),if_neg (by omega),if_neg (by omega),if_pos h,hk,hl];simp [ho]
theorem doP_cas2 (hm:m.may=true) (h:m.kd=5) (hk:keyP m.ks 0=k0) (hl:lookP l k0=some u) (ho:u=m.old):doP l m=(withP l k0 m.new,0,⟨#[]⟩):=by
 unfold doP;rw [if_neg (by rw [hm];decide),if_neg (by omega),if_neg (by omega),if_neg (by omega),if_neg (by omega),if_pos h,hk,hl];simp [ho]
theorem doP_swap (hm:m.may=true) (h:m.kd=6) {k1:ByteArray} (hk:keyP m.ks 0=k0) (hk1:keyP m.ks 1=k1):doP l m=(swapP l k0 k1,0,⟨#[]⟩):=by
 unfold doP;rw [if_neg (by rw [hm];decide),if_neg (by omega),if_neg (by omega),if_neg (by omega),if_neg (by omega),if_neg (by omega),if_pos h,hk,hk1]
theorem doP_join (hm:m.may=true) (h:m.kd=7):doP l m=(l,0,str (joinP l m.ks)):=by
 unfold doP;rw [if_neg (by rw [hm];decide),if_neg (by omega),if_neg (by omega),if_neg (by omega),if_neg (by omega),if_neg (by omega),if_neg (by omega),if_pos h]
theorem doP_clear (hm:m.may=true) (h:m.kd=8):doP l m=(restP l m.ks,0,str (decI ((l.length:Int) - (restP l m.ks).length))):=by
 unfold doP;rw [if_neg (by rw [hm];decide),if_neg (by omega),if_neg (by omega),if_neg (by omega),if_neg (by omega),if_neg (by omega),if_neg (by omega),if_neg (by omega)]
end
def touchP (ks:List ByteArray):List PV:=ks.foldl (fun l k=>withP l k ⟨#[]⟩) []
def touchK (ks:List ByteArray):List ByteArray:=(touchP ks).map (·.1)
theorem touchP_succ {ks:List ByteArray} {j:Nat} (h:j<ks.length):touchP (ks.take (j+1))=withP (touchP (ks.take j)) ks[j] ⟨#[]⟩:=by
 unfold touchP;rw [List.take_succ_eq_append_getElem h,List.foldl_append]
 rfl
theorem bl_irr:∀x:List UInt8,Op.bytesLess x x=false
 |[]=>by simp [Op.bytesLess]
 |a::x=>by rw [Op.bytesLess,bl_irr x];simp
theorem bl_trans:∀{x y z:List UInt8},Op.bytesLess x y=true->Op.bytesLess y z=true->Op.bytesLess x z=true
 |[],[],_,h,_=>by simp [Op.bytesLess] at h
 |_::_,[],_,h,_=>by simp [Op.bytesLess] at h
 |_,_::_,[],_,h=>by simp [Op.bytesLess] at h
 |[],_::_,_::_,_,_=>by simp [Op.bytesLess]
 |a::x,b::y,c::z,h,k=>by
  simp only [Op.bytesLess,Bool.or_eq_true,Bool.and_eq_true,decide_eq_true_eq,beq_iff_eq] at h k ⊢
  rcases h with h|⟨rfl,h⟩
  ·rcases k with k|⟨rfl,k⟩
   ·exact .inl (UInt8.lt_trans h k)
   ·exact .inl h
  ·rcases k with k|⟨rfl,k⟩
   ·exact .inl k
   ·exact .inr ⟨rfl,bl_trans h k⟩
theorem bl_tot:∀{x y:List UInt8},x≠y->Op.bytesLess x y=false->Op.bytesLess y x=true
 |[],[],h,_=>absurd rfl h
 |[],_::_,_,h=>by simp [Op.bytesLess] at h
 |_::_,[],_,_=>by simp [Op.bytesLess]
 |a::x,b::y,h,k=>by
  simp only [Op.bytesLess,Bool.or_eq_false_iff,Bool.and_eq_false_iff,decide_eq_false_iff_not,beq_eq_false_iff_ne] at k;simp only [Op.bytesLess,Bool.or_eq_true,Bool.and_eq_true,decide_eq_true_eq,beq_iff_eq]
  by_cases hab:a=b
  ·subst hab;refine .inr ⟨rfl,bl_tot (fun e=>h (by rw [e])) ?_⟩
   rcases k.2 with k|k
   ·exact absurd rfl k
   ·exact k
  ·refine .inl ?_;have h1:¬a.toNat<b.toNat:=fun e=>k.1 (UInt8.lt_iff_toNat_lt.2 e)
   have h2:a.toNat≠b.toNat:=fun e=>hab (UInt8.toNat_inj.1 e)
   exact UInt8.lt_iff_toNat_lt.2 (by omega)
theorem ltB_irr (a:ByteArray):ltB a a=false:=bl_irr _
theorem ltB_trans {a b c:ByteArray} (h:ltB a b=true) (k:ltB b c=true):ltB a c=true:=bl_trans h k
theorem ltB_tot {a b:ByteArray} (h:a≠b) (k:ltB a b=false):ltB b a=true:=bl_tot (fun e=>h (toList_inj9.1 e)) k
theorem ltB_ne {a b:ByteArray} (h:ltB a b=true):a≠b:=fun e=>by rw [e,ltB_irr] at h;cases h
def SortedP (l:List PV):Prop:=l.Pairwise fun a b=>ltB a.1 b.1=true
theorem SortedP.nil:SortedP []:=List.Pairwise.nil
theorem SortedP.without {l:List PV} (h:SortedP l) (k:ByteArray):SortedP (withoutP l k):=List.Pairwise.sublist List.filter_sublist h
theorem lookP_nil (k:ByteArray):lookP [] k=none:=rfl
theorem lookP_cons (p:PV) (l:List PV) (k:ByteArray):lookP (p::l) k=if p.1=k then some p.2 else lookP l k:=by
 unfold lookP
 by_cases h:p.1=k<;>simp [h]
theorem lookP_append (l m:List PV) (k:ByteArray):lookP (l++m) k=(lookP l k).or (lookP m k):=by
 induction l with
 |nil=>rfl
 |cons p l ih=>
  rw [List.cons_append,lookP_cons,lookP_cons,ih]
  split<;>rfl
theorem lookP_no {l:List PV} {k:ByteArray} (h:∀p∈l,p.1≠k):lookP l k=none:=by
 induction l with
 |nil=>rfl
 |cons p l ih=>rw [lookP_cons,if_neg (h p (List.mem_cons_self ..)),ih fun q hq=>h q (List.mem_cons_of_mem _ hq)]
theorem lookP_mem {l:List PV} {k v:ByteArray} (h:lookP l k=some v):(k,v)∈l:=by
 induction l with
 |nil=>cases h
 |cons p l ih=>
  rw [lookP_cons] at h
  split at h
  ·rename_i hp
   cases h
   rw [<-hp];exact List.mem_cons_self ..
  ·exact List.mem_cons_of_mem _ (ih h)
theorem lookP_without (l:List PV) (k j:ByteArray):lookP (withoutP l k) j=if j=k then none else lookP l j:=by
 induction l with
 |nil=>simp [withoutP,lookP_nil]
 |cons p l ih=>
  have e:withoutP (p::l) k=if p.1=k then withoutP l k else p::withoutP l k:=by
   unfold withoutP
   by_cases h:p.1=k<;>simp [h]
  rw [e,lookP_cons]
  by_cases hk:p.1=k
  ·rw [if_pos hk,ih]
   by_cases hj:j=k
   ·rw [if_pos hj,if_pos hj]
   ·rw [if_neg hj,if_neg hj,if_neg (by rw [hk];exact fun e=>hj e.symm)]
  ·rw [if_neg hk,lookP_cons,ih]
   by_cases hj:p.1=j
   ·rw [if_pos hj,if_pos hj,if_neg (fun e=>hk (hj.trans e))]
   ·rw [if_neg hj,if_neg hj]
theorem withoutP_ne {l:List PV} {k:ByteArray}:∀p∈withoutP l k,p.1≠k:=by
 intro p hp;have:=(List.mem_filter.1 hp).2
 simpa using this
theorem lookP_with (l:List PV) (k v j:ByteArray):lookP (withP l k v) j=if j=k then some v else lookP l j:=by
 have hr:∀p∈withoutP l k,p.1≠k:=withoutP_ne;have hlk:=lookP_without l k j;unfold withP
 generalize placeP (withoutP l k) k=n
 generalize withoutP l k=r at hr hlk
 rw [lookP_append,lookP_cons]
 by_cases hj:j=k
 ·subst hj;rw [if_pos rfl,if_pos rfl,lookP_no (fun p hp=>hr p (List.mem_of_mem_take hp))]
  rfl
 ·rw [if_neg (fun e=>hj e.symm),if_neg hj,<-lookP_append,List.take_append_drop,hlk,if_neg hj]
theorem SortedP.with_ {l:List PV} (h:SortedP l) (k v:ByteArray):SortedP (withP l k v):=by
 have hr:=h.without k;have hne:∀p∈withoutP l k,p.1≠k:=withoutP_ne;unfold withP placeP
 generalize withoutP l k=r at hr hne
 have e1:r.take (r.takeWhile fun p=>ltB p.1 k).length=r.takeWhile fun p=>ltB p.1 k:=by
  conv=>lhs;rw [<-List.takeWhile_append_dropWhile (p:=fun p:PV=>ltB p.1 k) (l:=r)]
  rw [List.take_append_of_le_length (by simp)];simp
 have e2:r.drop (r.takeWhile fun p=>ltB p.1 k).length=r.dropWhile fun p=>ltB p.1 k:=by
  conv=>lhs;rw [<-List.takeWhile_append_dropWhile (p:=fun p:PV=>ltB p.1 k) (l:=r)]
  rw [List.drop_append_of_le_length (by simp)];simp
 rw [e1,e2]
 have hlow:∀p∈r.takeWhile (fun p=>ltB p.1 k),ltB p.1 k=true:=fun p hp=>by
  have:=List.all_eq_true.1 (List.all_takeWhile (p:=fun p:PV=>ltB p.1 k) (l:=r)) p hp;exact this
 have hs:SortedP (r.takeWhile (fun p=>ltB p.1 k)++r.dropWhile (fun p=>ltB p.1 k)):=by rw [List.takeWhile_append_dropWhile];exact hr
 unfold SortedP at hs;obtain ⟨h1,h2,h3⟩:=List.pairwise_append.1 hs
 have hhigh:∀p∈r.dropWhile (fun p=>ltB p.1 k),ltB k p.1=true:=by
  cases hd:r.dropWhile (fun p=>ltB p.1 k) with
  |nil=>intro p hp;cases hp
  |cons q t=>
   have hq0:ltB q.1 k=false:=by
    have:=List.head?_dropWhile_not (fun p:PV=>ltB p.1 k) r;rw [hd] at this
    simpa using this
   have hqm:q∈r:=(List.dropWhile_sublist (fun p:PV=>ltB p.1 k)).subset (by rw [hd];exact List.mem_cons_self ..);have hq:=ltB_tot (hne q hqm) hq0;rw [hd] at h2;intro p hp
   rcases List.mem_cons.1 hp with rfl|hp
   ·exact hq
   ·exact ltB_trans hq ((List.pairwise_cons.1 h2).1 p hp)
 refine List.pairwise_append.2 ⟨h1,List.pairwise_cons.2 ⟨hhigh,h2⟩,fun a ha b hb=>?_⟩
 rcases List.mem_cons.1 hb with rfl|hb
 ·exact hlow a ha
 ·exact h3 a ha b hb
theorem SortedP.ext:∀{l m:List PV},SortedP l->SortedP m->(∀k,lookP l k=lookP m k)->l=m
 |[],[],_,_,_=>rfl
 |[],q::m,_,_,h=>by have:=h q.1;rw [lookP_cons,if_pos rfl,lookP_nil] at this;cases this
 |p::l,[],_,_,h=>by have:=h p.1;rw [lookP_cons,if_pos rfl,lookP_nil] at this;cases this
 |p::l,q::m,hl,hm,h=>by
  obtain ⟨hl1,hl2⟩:=List.pairwise_cons.1 hl;obtain ⟨hm1,hm2⟩:=List.pairwise_cons.1 hm
  have hpq:p.1=q.1:=by
   refine Classical.byContradiction fun hne=>?_
   have h1:=h p.1;rw [lookP_cons,if_pos rfl,lookP_cons,if_neg (fun e=>hne e.symm)] at h1;have h2:=h q.1;rw [lookP_cons,if_neg hne,lookP_cons,if_pos rfl] at h2;have h3:=hm1 _ (lookP_mem h1.symm);have h4:=hl1 _ (lookP_mem h2);exact ltB_ne (ltB_trans h3 h4) rfl
  have hv:p.2=q.2:=by
   have h1:=h p.1;rw [lookP_cons,if_pos rfl,lookP_cons,if_pos hpq.symm] at h1
   injection h1
  have hp:p=q:=by cases p;cases q;simp only at hpq hv;rw [hpq,hv]
  subst hp
  congr 1
  refine SortedP.ext hl2 hm2 fun k=>?_
  by_cases hk:p.1=k
  ·subst hk;rw [lookP_no fun x hx=>Ne.symm (ltB_ne (hl1 x hx)),lookP_no fun x hx=>Ne.symm (ltB_ne (hm1 x hx))]
  ·have:=h k;rw [lookP_cons,if_neg hk,lookP_cons,if_neg hk] at this;exact this
theorem without_len {l:List PV} (h:SortedP l) (k:ByteArray):(withoutP l k).length+(if (lookP l k).isSome then 1 else 0)=l.length:=by
 induction l with
 |nil=>rfl
 |cons p l ih=>
  obtain ⟨h1,h2⟩:=List.pairwise_cons.1 h
  have e:withoutP (p::l) k=if p.1=k then withoutP l k else p::withoutP l k:=by
   unfold withoutP
   by_cases h:p.1=k<;>simp [h]
  rw [e,lookP_cons]
  by_cases hk:p.1=k
  ·subst hk;have hno:=lookP_no fun x hx=>Ne.symm (ltB_ne (h1 x hx))
   have:=ih h2;rw [hno] at this;simp only [if_true,Option.isSome_some,List.length_cons]
   simpa using this
  ·have:=ih h2;rw [if_neg hk,if_neg hk,List.length_cons,List.length_cons];omega
theorem SortedP.rest {l:List PV} (h:SortedP l) (ks:List ByteArray):SortedP (restP l ks):=by
 unfold restP
 induction ks generalizing l with
 |nil=>exact h
 |cons k ks ih=>exact ih (h.without k)
theorem lookP_rest_out {l:List PV} {ks:List ByteArray} {j:ByteArray} (h:j∉ks):lookP (restP l ks) j=lookP l j:=by
 unfold restP
 induction ks generalizing l with
 |nil=>rfl
 |cons k ks ih=>
  rw [List.foldl_cons,ih (fun e=>h (List.mem_cons_of_mem _ e)),lookP_without,if_neg (fun e=>h (by rw [e];exact List.mem_cons_self ..))]
theorem lookP_rest_none {l:List PV} {ks:List ByteArray} {j:ByteArray} (h:lookP l j=none):lookP (restP l ks) j=none:=by
 unfold restP
 induction ks generalizing l with
 |nil=>exact h
 |cons k ks ih=>
  rw [List.foldl_cons];refine ih ?_;rw [lookP_without,h]
  split<;>rfl
theorem lookP_rest_in {l:List PV} {ks:List ByteArray} {j:ByteArray} (h:j∈ks):lookP (restP l ks) j=none:=by
 induction ks generalizing l with
 |nil=>cases h
 |cons k ks ih=>
  rcases List.mem_cons.1 h with rfl|h
  ·exact lookP_rest_none (l:=withoutP l j) (by rw [lookP_without,if_pos rfl])
  ·exact ih (l:=withoutP l k) h
theorem rest_count {l m:List PV} (hl:SortedP l) (hm:SortedP m) (ks:List ByteArray) (h:∀k∈ks,lookP l k=lookP m k):l.length+(restP m ks).length=m.length+(restP l ks).length:=by
 unfold restP
 induction ks generalizing l m with
 |nil=>simp only [List.foldl_nil];omega
 |cons k ks ih=>
  have h1:=without_len hl k;have h2:=without_len hm k;rw [h k (List.mem_cons_self ..)] at h1;have h3:=ih (hl.without k) (hm.without k) fun j hj=>by rw [lookP_without,lookP_without,h j (List.mem_cons_of_mem _ hj)]
  simp only [List.foldl_cons];omega
theorem may_kinds {m:CM} (hm:m.may=true):m.kd=1\/m.kd=2\/m.kd=3\/m.kd=4\/m.kd=5\/m.kd=6\/m.kd=7\/m.kd=8:=by
 have:=(CM.may_iff.1 hm).kd;omega
theorem may_key {m:CM} (hm:m.may=true):keyP m.ks 0∈m.ks:=by
 have h:=(CM.may_iff.1 hm).len.1;have hk:0<m.ks.length:=by unfold leastK at h;split at h<;>omega
 rw [keyP,List.getElem?_eq_getElem hk];exact List.getElem_mem hk
theorem may_key1 {m:CM} (hm:m.may=true) (h6:m.kd=6):keyP m.ks 1∈m.ks:=by
 have h:=(CM.may_iff.1 hm).len.1;have hk:1<m.ks.length:=by rw [h6] at h;exact h
 rw [keyP,List.getElem?_eq_getElem hk];exact List.getElem_mem hk
theorem lookP_put {o:List PV} {k j:ByteArray} {v:Option ByteArray}:lookP (putP o k v) j=if j=k then v.or (lookP o j) else lookP o j:=by
 cases v with
 |none=>simp [putP]
 |some v=>
  show lookP (withP o k v) j=_;rw [lookP_with]
  split<;>rfl
theorem SortedP.put {o:List PV} (h:SortedP o) (k:ByteArray) (v:Option ByteArray):SortedP (putP o k v):=by
 cases v with
 |none=>exact h
 |some v=>exact h.with_ k v
theorem lookP_swap (l:List PV) (a b j:ByteArray):lookP (swapP l a b) j=if j=b then lookP l a else if j=a then lookP l b else lookP l j:=by
 unfold swapP;rw [lookP_put,lookP_put,lookP_without,lookP_without]
 by_cases hb:j=b
 ·subst hb
  by_cases ha:j=a
  ·subst ha;cases lookP l j<;>simp
  ·cases lookP l a<;>simp [ha]
 ·by_cases ha:j=a
  ·subst ha;cases lookP l b<;>simp [hb]
  ·simp [ha,hb]
theorem doP_sorted {l:List PV} (h:SortedP l) (m:CM):SortedP (doP l m).1:=by
 cases hm:m.may with
 |false=>unfold doP;rw [if_pos hm];exact h
 |true=>
  rcases may_kinds hm with k|k|k|k|k|k|k|k
  ·rw [doP_put hm k rfl];exact h.with_ _ _
  ·cases hl:lookP l (keyP m.ks 0) with
   |none=>rw [doP_get0 hm k rfl hl];exact h
   |some u=>rw [doP_get1 hm k rfl hl];exact h
  ·cases hl:lookP l (keyP m.ks 0) with
   |none=>rw [doP_del0 hm k rfl hl];exact h
   |some u=>rw [doP_del1 hm k rfl hl];exact h.without _
  ·rw [doP_add hm k rfl];unfold addP
   split
   ·exact h
   ·exact h.with_ _ _
  ·cases hl:lookP l (keyP m.ks 0) with
   |none=>rw [doP_cas0 hm k rfl hl];exact h
   |some u=>
    by_cases ho:u=m.old
    ·rw [doP_cas2 hm k rfl hl ho];exact h.with_ _ _
    ·rw [doP_cas1 hm k rfl hl ho];exact h
  ·rw [doP_swap hm k rfl rfl];unfold swapP;exact (((h.without _).without _).put _ _).put _ _
  ·rw [doP_join hm k];exact h
  ·rw [doP_clear hm k];exact h.rest _
theorem doP_out (l:List PV) {m:CM} {j:ByteArray} (hj:j∉m.ks):lookP (doP l m).1 j=lookP l j:=by
 cases hm:m.may with
 |false=>unfold doP;rw [if_pos hm]
 |true=>
  have hk0:j≠keyP m.ks 0:=fun e=>hj (by rw [e];exact may_key hm)
  rcases may_kinds hm with k|k|k|k|k|k|k|k
  ·rw [doP_put hm k rfl];show lookP (withP l _ _) j=_;rw [lookP_with,if_neg hk0]
  ·cases hl:lookP l (keyP m.ks 0) with
   |none=>rw [doP_get0 hm k rfl hl]
   |some u=>rw [doP_get1 hm k rfl hl]
  ·cases hl:lookP l (keyP m.ks 0) with
   |none=>rw [doP_del0 hm k rfl hl]
   |some u=>rw [doP_del1 hm k rfl hl];show lookP (withoutP l _) j=_;rw [lookP_without,if_neg hk0]
  ·rw [doP_add hm k rfl];unfold addP
   split
   ·rfl
   ·show lookP (withP l _ _) j=_;rw [lookP_with,if_neg hk0]
  ·cases hl:lookP l (keyP m.ks 0) with
   |none=>rw [doP_cas0 hm k rfl hl]
   |some u=>
    by_cases ho:u=m.old
    ·rw [doP_cas2 hm k rfl hl ho];show lookP (withP l _ _) j=_;rw [lookP_with,if_neg hk0]
    ·rw [doP_cas1 hm k rfl hl ho]
  ·rw [doP_swap hm k rfl rfl];show lookP (swapP l _ _) j=_;rw [lookP_swap,if_neg (fun e=>hj (by rw [e];exact may_key1 hm k)),if_neg hk0]
  ·rw [doP_join hm k]
  ·rw [doP_clear hm k];exact lookP_rest_out hj
theorem joinP_same {l n:List PV} {ks:List ByteArray} (h:∀k∈ks,lookP l k=lookP n k):joinP l ks=joinP n ks:=by
 unfold joinP
 induction ks with
 |nil=>rfl
 |cons k ks ih=>rw [List.flatMap_cons,List.flatMap_cons,ih fun j hj=>h j (List.mem_cons_of_mem _ hj),h k (List.mem_cons_self ..)]
theorem doP_same {l n:List PV} (hl:SortedP l) (hn:SortedP n) {m:CM} (h:∀k∈m.ks,lookP l k=lookP n k):(doP l m).2=(doP n m).2/\∀j∈m.ks,lookP (doP l m).1 j=lookP (doP n m).1 j:=by
 cases hm:m.may with
 |false=>unfold doP;rw [if_pos hm,if_pos hm];exact ⟨rfl,h⟩
 |true=>
  have h0:=h _ (may_key hm)
  rcases may_kinds hm with k|k|k|k|k|k|k|k
  ·rw [doP_put hm k rfl,doP_put hm k rfl];refine ⟨rfl,fun j hj=>?_⟩;show lookP (withP l _ _) j=lookP (withP n _ _) j;rw [lookP_with,lookP_with,h j hj]
  ·cases hx:lookP l (keyP m.ks 0) with
   |none=>rw [doP_get0 hm k rfl hx,doP_get0 hm k rfl (h0.symm.trans hx)];exact ⟨rfl,h⟩
   |some u=>rw [doP_get1 hm k rfl hx,doP_get1 hm k rfl (h0.symm.trans hx)];exact ⟨rfl,h⟩
  ·cases hx:lookP l (keyP m.ks 0) with
   |none=>rw [doP_del0 hm k rfl hx,doP_del0 hm k rfl (h0.symm.trans hx)];exact ⟨rfl,h⟩
   |some u=>
    rw [doP_del1 hm k rfl hx,doP_del1 hm k rfl (h0.symm.trans hx)];refine ⟨rfl,fun j hj=>?_⟩;show lookP (withoutP l _) j=lookP (withoutP n _) j;rw [lookP_without,lookP_without,h j hj]
  ·rw [doP_add hm k rfl,doP_add hm k rfl];have hs:sumP l (keyP m.ks 0) m.n=sumP n (keyP m.ks 0) m.n:=by unfold sumP seedP;rw [h0]
   unfold addP;rw [hs]
   cases sumP n (keyP m.ks 0) m.n with
   |none=>exact ⟨rfl,h⟩
   |some s=>
    refine ⟨rfl,fun j hj=>?_⟩;show lookP (withP l _ _) j=lookP (withP n _ _) j;rw [lookP_with,lookP_with,h j hj]
  ·cases hx:lookP l (keyP m.ks 0) with
   |none=>rw [doP_cas0 hm k rfl hx,doP_cas0 hm k rfl (h0.symm.trans hx)];exact ⟨rfl,h⟩
   |some u=>
    by_cases ho:u=m.old
    ·rw [doP_cas2 hm k rfl hx ho,doP_cas2 hm k rfl (h0.symm.trans hx) ho];refine ⟨rfl,fun j hj=>?_⟩;show lookP (withP l _ _) j=lookP (withP n _ _) j;rw [lookP_with,lookP_with,h j hj]
    ·rw [doP_cas1 hm k rfl hx ho,doP_cas1 hm k rfl (h0.symm.trans hx) ho];exact ⟨rfl,h⟩
  ·rw [doP_swap hm k rfl rfl,doP_swap hm k rfl rfl];refine ⟨rfl,fun j hj=>?_⟩;show lookP (swapP l _ _) j=lookP (swapP n _ _) j;rw [lookP_swap,lookP_swap,h0,h _ (may_key1 hm k),h j hj]
  ·rw [doP_join hm k,doP_join hm k,joinP_same h];exact ⟨rfl,h⟩
  ·rw [doP_clear hm k,doP_clear hm k];have hc:=rest_count hl hn m.ks h;refine ⟨?_,fun j hj=>?_⟩
   ·show ((0,str (decI _)):Nat × ByteArray)=(0,str (decI _));rw [show ((l.length:Int) - (restP l m.ks).length)=(n.length:Int) - (restP n m.ks).length by omega]
   ·show lookP (restP l m.ks) j=lookP (restP n m.ks) j;rw [lookP_rest_in hj,lookP_rest_in hj]
theorem doP_apart {l:List PV} (hl:SortedP l) {a b:CM} (hd:∀k∈a.ks,k∉b.ks):
 (doP (doP l a).1 b).1=(doP (doP l b).1 a).1/\(doP l a).2=(doP (doP l b).1 a).2/\(doP (doP l a).1 b).2=(doP l b).2:=by
 have hd':∀k∈b.ks,k∉a.ks:=fun k hk hk'=>hd k hk' hk
 have sa:=doP_sorted hl a;have sb:=doP_sorted hl b;obtain ⟨r1,e1⟩:=doP_same sb hl (m:=a) fun k hk=>doP_out l (hd k hk)
 obtain ⟨r2,e2⟩:=doP_same sa hl (m:=b) fun k hk=>doP_out l (hd' k hk)
 refine ⟨SortedP.ext (doP_sorted sa b) (doP_sorted sb a) fun k=>?_,r1.symm,r2⟩
 by_cases hka:k∈a.ks
 ·rw [doP_out _ (hd k hka),e1 k hka]
 ·rw [doP_out _ hka]
  by_cases hkb:k∈b.ks
  ·exact e2 k hkb
  ·rw [doP_out _ hkb,doP_out _ hka,doP_out _ hkb]
theorem touchP_look (ks:List ByteArray) (k:ByteArray):(lookP (touchP ks) k).isSome=true<->k∈ks:=by
 have key:∀(ks:List ByteArray) (l:List PV),(lookP (ks.foldl (fun l k=>withP l k ⟨#[]⟩) l) k).isSome=true<->k∈ks\/(lookP l k).isSome=true:=by
  intro ks
  induction ks with
  |nil=>intro l;simp
  |cons x ks ih=>
   intro l;rw [List.foldl_cons,ih,lookP_with]
   by_cases h:k=x
   ·simp [h]
   ·simp [h]
 have:=key ks [];unfold touchP;rw [this];simp [lookP_nil]
theorem touchP_sorted (ks:List ByteArray):SortedP (touchP ks):=by
 have key:∀(ks:List ByteArray) (l:List PV),SortedP l->SortedP (ks.foldl (fun l k=>withP l k ⟨#[]⟩) l):=by
  intro ks
  induction ks with
  |nil=>intro l h;exact h
  |cons x ks ih=>intro l h;exact ih _ (h.with_ _ _)
 exact key ks [] SortedP.nil
theorem lookP_of_mem {l:List PV} {k v:ByteArray} (h:(k,v)∈l):(lookP l k).isSome=true:=by
 induction l with
 |nil=>cases h
 |cons p l ih=>
  rw [lookP_cons]
  rcases List.mem_cons.1 h with e|h
  ·rw [<-e,if_pos rfl];rfl
  ·split
   ·rfl
   ·exact ih h
theorem touchK_mem (ks:List ByteArray) (k:ByteArray):k∈touchK ks<->k∈ks:=by
 unfold touchK;rw [List.mem_map,<-touchP_look ks k]
 constructor
 ·rintro ⟨⟨a,v⟩,h,rfl⟩;exact lookP_of_mem h
 ·intro h;obtain ⟨v,hv⟩:=Option.isSome_iff_exists.1 h;exact ⟨(k,v),lookP_mem hv,rfl⟩
end Go.Proofs.YtfjmdkhemnmkpaaGreatDoor
