/- Parts of the proof: SqO, SqI, SqR, SqX, AqK0, AxM. -/
import Derived.Test.YtfjmdkhemnmkpaaGreatDoorR11
import Derived.Test.YtfjmdkhemnmkpaaGreatDoorR06
import Derived.Test.YtfjmdkhemnmkpaaGreatDoorR08
import Derived.RangeFuncBox
import Derived.Shelf.Abstract
import Derived.Shelf.RegionOpen
import Derived.WalkMore
import Derived.Test.YtfjmdkhemnmkpaaGreatDoorR05
import Derived.Test.YtfjmdkhemnmkpaaGreatDoorR04
import Derived.Test.YtfjmdkhemnmkpaaGreatDoorR09
set_option maxRecDepth 100000
set_option maxHeartbeats 8000000
namespace Go.Proofs.YtfjmdkhemnmkpaaGreatDoor
open Go.Maps Go.RowKit Go.Sort
theorem ins_nil (w:World):Calls Tryz.prog 134 #[.slice none 0 0,.int .i64 0,.int .i64 0] w fun e W'=>e=.returned (.tuple #[])/\W'=w:=by
 go_enter Tryz.func134,Tryz.ntmps134;go_wp2;refine wp_loop_rounds 1 ?_;rw [rounds_succ];go_wp2;go_end0;exact ⟨rfl,rfl⟩
theorem pdq_nil (w:World) (lim:Nat):Calls Tryz.prog 124 #[.slice none 0 0,.int .i64 0,.int .i64 0,.int .i64 (lim:Int)] w fun e W'=>e=.returned (.tuple #[])/\W'=w:=by
 go_enter Tryz.func124,Tryz.ntmps124;go_wp2;refine wp_loop_rounds 1 ?_;rw [rounds_succ]
 go_wp2_with (go_at_call 134;refine (ins_nil w).mono ?_;rintro e1 W1 ⟨rfl,rfl⟩)
 go_returns
 exact ⟨rfl,rfl⟩
theorem ownU_mono {w:World} {b b' n:Nat} {e:TypeId} {v:Value} {xs:List Value} (h:w.ownsRow b e 1 v n xs) (hb:b'<=b):w.ownsRow b' e 1 v n xs:=
 ⟨h.1,h.2.imp id fun ⟨g,cap,cur,e,h1,r⟩=>⟨g,cap,cur,e,nLt hb h1,r⟩⟩
def SortedN (ss:List Nat):Prop:=ss.Pairwise (·<=·)
theorem sorted_of {n:Nat} {ss:List Nat} {d:Array Int} (hn:d.size=n) (hp:PermIn 0 n (ss.map Int.ofNat).toArray d) (hs:SortedIn ltInt 0 n d) (hl:ss.length=n):∃ss':List Nat,ss'.Perm ss/\SortedN ss'/\d.toList.map nV=ss'.map cV:=by
 have h1:d.toList.Perm (ss.map Int.ofNat):=by
  have:=hp.2.2;rw [<-hn] at this;rw [Array.extract_size] at this;rw [hn,<-hl,show ss.length=((ss.map Int.ofNat).toArray).size by simp,Array.extract_size] at this
  simpa using this
 have h2:∀x∈d.toList,0<=x:=fun x hx=>by
  obtain ⟨a,_,rfl⟩:=List.mem_map.1 ((h1.mem_iff).1 hx);exact Int.natCast_nonneg a
 refine ⟨d.toList.map Int.toNat,?_,?_,?_⟩
 ·have:=h1.map Int.toNat;rw [List.map_map,show Int.toNat ∘ Int.ofNat=id from rfl,List.map_id] at this;exact this
 ·unfold SortedN;rw [List.pairwise_map,List.pairwise_iff_getElem];intro i j hi hj hij;have hi':i<d.size:=by simpa using hi
  have hj':j<d.size:=by simpa using hj
  have:=hs i j (Nat.zero_le _) hij (by omega);rw [getElem!_pos d i hi',getElem!_pos d j hj'] at this;simp only [ltInt,decide_eq_false_iff_not] at this;simp only [Array.getElem_toList];omega
 ·rw [List.map_map]
  apply List.map_congr_left
  intro x hx;have:=h2 x hx;simp only [Function.comp,nV,cV]
  congr 1
  omega
theorem sort_any {w:World} {base:Nat} {v:Value} {ss:List Nat} (h:w.ownsRow base 54 1 v ss.length (ss.map cV)) (hl:ss.length<=1000000):
 Calls Tryz.prog 102 #[v] w fun e W'=>e=.returned (.tuple #[])/\∃ss':List Nat,ss'.Perm ss/\SortedN ss'/\W'.ownsRow base 54 1 v ss.length (ss'.map cV)/\w.grownBy W' v.ownBlock:=by
 obtain ⟨n,hn⟩:∃n,n=ss.length:=⟨_,rfl⟩;rw [<-hn] at h hl ⊢;have hbl:Lib.bitLen n<=64:=Lib.bitLen_le n 64 (nLr _) (by omega);obtain ⟨lim,hlim⟩:∃x,x=Lib.bitLen n:=⟨_,rfl⟩
 have hbits:∀W:World,Calls Tryz.prog 125 #[.int .u64 (n:Int)] W fun e w'=>e=.returned (.int .i64 (lim:Int))/\w'=W:=fun W=>by
  have:=lay_bits_Len (n:Int) W (by omega) (by omega);rw [Int.toNat_natCast,<-hlim] at this;exact this
 rw [<-hlim] at hbl
 rcases h.2 with ⟨rfl,h0⟩|⟨g,cap,cur,rfl,hbg,hg,hnc,hcm,hcs,htk⟩
 ·subst h0;have hss:ss=[]:=List.length_eq_zero_iff.1 hn.symm;subst hss;clear hn h;have HB:=hiD hbits;clear hbits hlim hbl;go_enter Tryz.func102,Tryz.ntmps102
  go_wp2_with (first
   |(go_at_call 125;refine (HB.out _).mono ?_;rintro e1 W1 ⟨rfl,rfl⟩)
   |(go_at_call 124;refine (pdq_nil _ lim).mono ?_;rintro e1 W1 ⟨rfl,rfl⟩))
  go_end0;exact ⟨rfl,[],List.Perm.refl _,List.Pairwise.nil,World.ownsRow_nil _ _ _ _,⟨rfl,rfl,rfl,nLr _,fun _ _ _=>rfl⟩⟩
 ·have hcur:cur=rowZ [] (ss.map Int.ofNat).toArray (cur.toList.drop n):=by
   unfold rowZ;have e1:(ss.map Int.ofNat).toArray.toList.map nV=ss.map cV:=by simp [cV,nV]
   rw [e1,<-htk,Nat.mul_one,List.nil_append,List.take_append_drop]
  have hsr:SR w g 0 n [] (cur.toList.drop n) (ss.map Int.ofNat).toArray w:=⟨by simp [hn],rfl,by rw [<-hcur];exact hg,⟨rfl,rfl,rfl,nLr _,fun _ _ _=>rfl⟩⟩;have HP:=hiD (pdq_n (by omega) (n+1) cap 0 n lim _ w (by omega) hsr (Nat.zero_le _) (nLr _) (by omega) (.inl rfl));have HB:=hiD hbits;have HH:=hiD (aI hn (aI hbg (aI hnc (aI hcm (aI hcs hl)))));have hn60:n<=1000000:=hl;clear hbits hlim hbl h hg hn hbg hnc hcm hcs htk hcur hsr hl;go_enter Tryz.func102,Tryz.ntmps102
  go_wp2_with (first
   |(go_at_call 125;refine (HB.out _).mono ?_;rintro e1 W1 ⟨rfl,rfl⟩)
   |(go_at_call 124;refine HP.out.mono ?_;rintro e1 W1 ⟨rfl,hs⟩))
  go_end0;obtain ⟨hn,hbg,hnc,hcm,hcs,_⟩:=HH.out;obtain ⟨d',hp,hso,hr⟩:=hs;obtain ⟨ss',q1,q2,q3⟩:=sorted_of hr.size hp hso hn.symm;have hlen:(ss'.map cV).length=n:=by rw [List.length_map,q1.length_eq,hn]
  refine ⟨rfl,ss',q1,q2,⟨by rw [hlen,Nat.mul_one],.inr ⟨g,cap,_,rfl,hbg,hr.row,hnc,hcm,?_,?_⟩⟩,hr.grown⟩
  ·unfold rowZ;rw [q3];simp only [List.size_toArray,List.length_append,List.length_nil,hlen,List.length_drop,Array.length_toList,hcs];omega
  ·unfold rowZ;rw [q3,Nat.mul_one,List.nil_append,List.toList_toArray,<-hlen,List.take_left']
   rfl
theorem collect_any {w:World} {p:Option Nat} {l:List SE} (h:MapOS w p l) (hs:SortedE l) (hl:l.length<=1000000):
 Calls Tryz.prog 101 #[keysVS w.heap.size] (w.alloc (.cells #[.map p] 123)) fun e W'=>∃(v:Value) (ss:List Nat),e=.returned v/\ss.Perm (l.map (·.cl))/\W'.ownsRow (w.heap.size+1) 54 1 v ss.length (ss.map cV)/\Go.RowKit.Below (w.heap.size+1) (w.alloc (.cells #[.map p] 123)) W':=by
 have hsz:(w.alloc (.cells #[.map p] 123)).heap.size=w.heap.size+1:=Array.size_push _;have hnew:=wAh w (.cells #[.map p] 123);have hbel:Go.RowKit.Below w.heap.size w (w.alloc (.cells #[.map p] 123)):=(Go.RowKit.Below.refl _ w).alloc (nLr _) _;have hmo:=MapOS.below h hbel;obtain ⟨W0,hW0⟩:∃W0,W0=w.alloc (.cells #[.map p] 123):=⟨_,rfl⟩;rw [<-hW0] at hsz hnew hmo ⊢;obtain ⟨g,hg⟩:∃g,g=w.heap.size:=⟨_,rfl⟩;rw [<-hg] at hnew hsz ⊢;clear hW0 hbel h
 have hA:Calls Tryz.prog 123 #[.slice none 0 0,keysVS g] W0 fun e W'=>∃(v:Value) (ss:List Nat),e=.returned v/\ss.Perm (l.map (·.cl))/\W'.ownsRow (g+1) 54 1 v ss.length (ss.map cV)/\Go.RowKit.Below (g+1) W0 W':=by
  cases p with
  |none=>
   obtain rfl:l=[]:=hmo;refine ((callsIn_wide (n:=5)).1 (apps_nil_in g W0 hnew)).mono ?_;rintro e W' ⟨rfl,hb⟩;exact ⟨_,[],rfl,List.Perm.refl _,World.ownsRow_nil _ _ _ _,by rw [<-hsz];exact hb⟩
  |some b=>
   refine ((callsIn_wide (n:=5)).1 (apps_in g b l hs hl W0 hmo hnew)).mono ?_;rintro e W' ⟨v,ss,rfl,hp,ho,hb⟩;exact ⟨v,ss,rfl,hp,by rw [<-hsz];exact ho,by rw [<-hsz];exact hb⟩
 have HA:=hiD hA;clear hA hmo hnew hsz hs hl hg;unfold keysVS at HA ⊢;go_enter Tryz.func101,Tryz.ntmps101
 go_wp2_with (go_at_call 123;refine HA.out.mono ?_;rintro e1 W1 ⟨v,ss,rfl,hr⟩)
 go_returns
 exact ⟨v,ss,rfl,hr⟩
theorem clients_eq {l:List SE} (hs:SortedE l) {ss:List Nat} (hp:ss.Perm (l.map (·.cl))) (h:SortedN ss):ss=l.map (·.cl):=by
 refine List.Perm.eq_of_pairwise (le:=(·<=·)) (fun a b _ _ h1 h2=>Nat.le_antisymm h1 h2) h ?_ hp;rw [List.pairwise_map];exact hs.imp fun h=>Nat.le_of_lt h
theorem sorted_anyS {w:World} {p:Option Nat} {l:List SE} (h:MapOS w p l) (hs:SortedE l) (hl:l.length<=1000000):
 Calls Tryz.prog 81 #[keysVS w.heap.size] (w.alloc (.cells #[.map p] 123)) fun e W'=>∃v,e=.returned v/\W'.ownsRow w.heap.size 54 1 v l.length ((l.map (·.cl)).map cV)/\Go.RowKit.Below w.heap.size w W':=by
 have HC:=hiD (collect_any h hs hl);have hsz:(w.alloc (.cells #[.map p] 123)).heap.size=w.heap.size+1:=Array.size_push _;have hbel:Go.RowKit.Below w.heap.size w (w.alloc (.cells #[.map p] 123)):=(Go.RowKit.Below.refl _ w).alloc (nLr _) _;obtain ⟨W0,hW0⟩:∃W0,W0=w.alloc (.cells #[.map p] 123):=⟨_,rfl⟩;rw [<-hW0] at hsz hbel HC ⊢;have HH:=hiD (aI hsz (aI hbel (aI hs hl)));clear hW0 hsz hbel h hs hl;obtain ⟨g,hg⟩:∃g,g=w.heap.size:=⟨_,rfl⟩;rw [<-hg] at HC HH ⊢;clear hg;unfold keysVS at HC ⊢;go_enter Tryz.func81,Tryz.ntmps81
 go_wp2_with (first
  |(
   go_at_call 101;refine HC.out.mono ?_;rintro e1 W1 ⟨v,ss,rfl,hp,ho,hb⟩
   have hlen:ss.length=l.length:=by rw [hp.length_eq,List.length_map]
   have HO:=hiD (aI hp (aI ho (aI hb hlen)));have HS:=hiD (sort_any ho (by rw [hlen];exact HH.out.2.2.2));clear hp ho hb hlen)
  |(go_at_call 102;refine HS.out.mono ?_;rintro e2 W2 ⟨rfl,hr⟩))
 go_returns
 obtain ⟨ss',q1,q2,q3,q4⟩:=hr;obtain ⟨hp,ho,hb,hlen⟩:=HO.out;obtain ⟨hsz,hbel,hs,hl⟩:=HH.out;have e1:=clients_eq hs (q1.trans hp) q2;rw [e1,hlen] at q3;refine ⟨v,rfl,ownU_mono q3 (Nat.le_succ g),?_⟩;exact (hbel.trans (Go.RowKit.Below.mono hb (Nat.le_succ g))).grown q4 (by have:=hbel.size;have:=hb.size;omega) fun k e=>Nat.le_of_succ_le (ho.lt k e).1
end Go.Proofs.YtfjmdkhemnmkpaaGreatDoor
namespace Go.Proofs.YtfjmdkhemnmkpaaGreatDoor
open Go.Maps Go.RowKit Go.Shelf Go.Sort
attribute [local go_sem] Oper.semAt_some
def eAt (l:List SE) (i:Nat):SE:=l[i]?.getD ⟨0,0,0,⟨#[]⟩⟩
theorem eAt_at {l:List SE} {i:Nat} (h:i<l.length):eAt l i=l[i]:=by simp [eAt,h]
def pairE (l:List SE) (x:Nat × Value):Array Value:=#[cV (eAt l x.1).cl,sessV (eAt l x.1)]
def KeysWS (l:List SE) (v:Value) (W:World):Prop:=W.ownsRow 0 54 1 v l.length ((l.map (·.cl)).map cV)
theorem lookS_at {l:List SE} (hs:SortedE l) {j:Nat} (hj:j<l.length):lookS l l[j].cl=some l[j]:=by
 unfold lookS;rw [List.find?_eq_some_iff_getElem];refine ⟨by simp,j,hj,rfl,fun i hi=>?_⟩;have:=List.pairwise_iff_getElem.1 hs i j (by omega) hj hi;simp;omega
theorem valS_at {l:List SE} (hs:SortedE l) {j:Nat} (hj:j<l.length):valS l l[j].cl=l[j]:=by rw [valS,lookS_at hs hj,Option.getD_some]
theorem order_seqS (n:Nat) (hn:1<=n) (w0:World) (a:Value) (p:Option Nat) (l:List SE) (h:MapOS w0 p l) (hall:∀W,Go.RowKit.Below w0.heap.size w0 W->Calls Tryz.prog 62 #[a] W fun e W'=>e=.returned (.map p)/\W'=W) (hs:SortedE l) (hl:l.length<=1000000) (hcl:∀e∈l,e.cl<4294967296) (B:Nat) (J:Nat->World->Prop)
 (hJb:∀i W,J i W->Go.RowKit.Below w0.heap.size w0 W) (hJ0:∀W W',J 0 W->Go.RowKit.Below W.heap.size W W'->J 0 W'):
 TiedSeq Fence.wide n Tryz.prog 54 #[a] #[] (pairE l) B
  (J 0) (J l.length) (fun x W=>J x.1 W/\KeysWS l x.2 W/\x.1<l.length) (fun x W=>J (x.1+1) W/\KeysWS l x.2 W) (fun _ _=>False) (fun _ _=>False):=by
 intro y G Gx hG hGx hY W h0 hGW;refine callsIn_of_wp Tryz.func54 rfl trivial ?_ rfl;simp only [Tryz.ntmps54,List.size_toArray,List.length_cons,List.length_nil,Nat.reduceAdd,Nat.reduceSub,Array.replicate_succ,Array.replicate_zero,List.push_toArray,List.append_toArray,List.nil_append,List.cons_append];have HY:=hiD hY;have H0:=hiD h0;have HG:=hiD hG;have HGW:=hiD hGW;have HST:=hiD h;have HJB:=hiD hJb;have HJ0:=hiD hJ0;have HSL:=hiD (aI hs (aI hl hcl));have HA:=hiD (hall W (hJb 0 W h0));have HK:=hiD (keys_anyS p W);have HSO:=hiD (sorted_anyS (h.below (hJb 0 W h0)) hs hl);clear hY h0 hG hGx hGW h hall hJb hJ0 hs hl hcl
 gi_wp2_with fail
 refine ⟨trivial,?_⟩;refine (callsIn_wide.2 HA.out).mono ?_;rintro e W1 ⟨rfl,rfl⟩
 gi_wp2_with fail
 refine ⟨trivial,?_⟩;refine (callsIn_wide.2 HK.out).mono ?_;rintro e W2 ⟨rfl,rfl⟩
 gi_wp2_with fail
 refine ⟨trivial,?_⟩;refine (callsIn_wide.2 HSO.out).mono ?_;rintro e W3 ⟨v,rfl,ho,hb3⟩;obtain ⟨A3,c3,rfl⟩:=own_form ho;obtain ⟨N,hN⟩:∃N,N=l.length:=⟨_,rfl⟩;rw [<-hN] at ho ⊢;have HO:=hiD (show KeysWS l (.slice A3 N c3) W3 by unfold KeysWS;rw [<-hN];exact ownU_mono ho (Nat.zero_le _));have HJ3:=hiD (HJ0.out _ _ H0.out hb3);have HG3:=hiD (HG.out _ _ HGW.out (KeepsFrom.of_grownBy (grownBy_of_below (r:=none) hb3) (fun j e=>by cases e)));have HNL:=hiD hN;have hNi:(N:Int)<=1000000:=by have:=HSL.out.2.1;omega
 clear ho hb3 hN HA HK HSO H0 HGW;gi_wp2
 gi_loopw [13] (fun i wr=>∃j:Nat,i=.int .i64 (j:Int)/\j<=N/\Hid (J j wr)/\Hid (KeysWS l (.slice A3 N c3) wr)/\Hid (G wr)) (fun i _=>N - (intOf i).toNat)
 case atStart=>exact ⟨0,rfl,Nat.zero_le _,HJ3.out,HO.out,HG3.out⟩
 case round=>
  obtain ⟨j,rfl,hj,hJ,hK,hg⟩:=hrel
  by_cases hlt:j<N
  ·have hji:(j:Int)<(N:Int):=by omega
   have hjl:j<l.length:=by have:=HNL.out;omega
   have hOj:=hK.out
   obtain ⟨kb,ke⟩:∃kb,A3=some ⟨kb,0,none⟩:=by
    rcases hOj.2 with ⟨_,e0⟩|⟨g,cap,cur,e,_⟩
    ·omega
    ·cases e;exact ⟨g,rfl⟩
   subst ke
   have g1:wr.cell? ⟨kb,j,none⟩=some (.int .u32 (l[j].cl:Int)):=by
    have:=World.ownsRow.cells hOj (g:=kb) rfl j (cV l[j].cl) (by simp [hjl])
    rwa [addr_add,Nat.zero_add] at this
   have hget:=(HST.out.below (HJB.out j wr hJ.out)).get (c:=l[j].cl) (HSL.out.2.2 _ (List.getElem_mem hjl));rw [valS_at HSL.out.1 hjl] at hget;obtain ⟨fn,tmps,assign,body,hy,hRR⟩:=HY.out (j,.slice (some ⟨kb,0,none⟩) N c3) wr ⟨hJ.out,hK.out,hjl⟩ hg.out
   have hpv:pairE l (j,.slice (some ⟨kb,0,none⟩) N c3)=#[.int .u32 (l[j].cl:Int),sessV l[j]]:=by
    simp only [pairE,eAt_at hjl,cV]
   rw [hpv] at hy;obtain ⟨c,hc⟩:∃c,c=l[j].cl:=⟨_,rfl⟩;obtain ⟨u,hu⟩:∃u,u=sessV l[j]:=⟨_,rfl⟩;rw [<-hc] at hy hget g1;rw [<-hu] at hy hget;clear hOj hc hu hpv;gi_wp2;refine hRR.mono ?_;rintro e W4 (⟨rfl,hIo,hG4⟩|⟨rfl,cc,hf,_⟩)
   ·have HIo:=hiD hIo;have HG4:=hiD hG4;clear hIo hG4 hy;gi_wp2;refine ⟨⟨j+1,by congr 1,by omega,HIo.out.1,HIo.out.2,HG4.out⟩,by simp only [intOf];omega⟩
   ·exact hf.elim
  ·have hji:¬(j:Int)<(N:Int):=by omega
   obtain rfl:j=N:=by omega
   gi_wp2;go_end0;exact ⟨⟨_,rfl⟩,by rw [<-HNL.out];exact hJ.out,hg.out⟩
end Go.Proofs.YtfjmdkhemnmkpaaGreatDoor
namespace Go.Proofs.YtfjmdkhemnmkpaaGreatDoor
open Go.RowKit
theorem run_ldU (w:World) (p:Addr) (v:Value) (h:w.cell? p=some v):(Instr.loadAt 54 (.pointer (some p))).run Tryz.prog w=.ok v w:=by
 simp [go_sem,h]
theorem run_ldCS (w:World) (p:Addr) (v:Value) (h:w.cell? p=some v):(Instr.loadAt 5 (.pointer (some p))).run Tryz.prog w=.ok v w:=by
 simp [go_sem,h]
theorem run_ldTS (w:World) (p:Addr) (v:Value) (h:w.cell? p=some v):(Instr.loadAt 9 (.pointer (some p))).run Tryz.prog w=.ok v w:=by
 simp [go_sem,h]
theorem run_fdS0 (w:World) (q o:Nat):(Instr.fieldAt 111 (.pointer (some ⟨q,o,none⟩)) 0).run Tryz.prog w=.ok (.pointer (some ⟨q,o,none⟩)) w:=by
 first
  |kernel_rfl
  |(simp [go_sem,Instr.fieldAt];done)
theorem run_fdS1 (w:World) (q o:Nat):(Instr.fieldAt 111 (.pointer (some ⟨q,o,none⟩)) 1).run Tryz.prog w=.ok (.pointer (some ⟨q,o+1,none⟩)) w:=by
 first
  |kernel_rfl
  |(simp [go_sem,Instr.fieldAt];done)
theorem run_fdR0 (w:World) (q o:Nat):(Instr.fieldAt 45 (.pointer (some ⟨q,o,none⟩)) 0).run Tryz.prog w=.ok (.pointer (some ⟨q,o,none⟩)) w:=by
 first
  |kernel_rfl
  |(simp [go_sem,Instr.fieldAt];done)
theorem run_fdR1 (w:World) (q o:Nat):(Instr.fieldAt 45 (.pointer (some ⟨q,o,none⟩)) 1).run Tryz.prog w=.ok (.pointer (some ⟨q,o+1,none⟩)) w:=by
 first
  |kernel_rfl
  |(simp [go_sem,Instr.fieldAt];done)
theorem run_cv32 (w:World) (m:Nat) (h:m<4294967296):(convert 54 30 (.int .u32 (m:Int))).run Tryz.prog w=.ok (.int .u64 (m:Int)) w:=by
 simp [go_sem,IntKind.wrap_u64];omega
theorem run_cv8 (w:World) (m:Nat) (h:m<256):(convert 5 30 (.int .u8 (m:Int))).run Tryz.prog w=.ok (.int .u64 (m:Int)) w:=by
 simp [go_sem,IntKind.wrap_u64];omega
theorem vb_short (m:Nat) (h:m<18446744073709551616):(vb m).length<=2000000:=by
 have:=vb_len10 (n:=m) h;omega
noncomputable def opsPa:List Oper:=opsOf Tryz.f32 5
theorem put_regionPa (l n:Nat) (hn:1<=n) (B g:Nat) (v:Value) (m:Nat) (xs:List UInt8) (hx:xs.length<=100000000) (hy:m<4294967296) (a:Act) (w:World) (Q:Exit->Act->World->Prop) (hN:a.tmps.size=44)
 (h0:a.tmps.getD 6 undef=.int .u32 (m:Int)) (h1:a.tmps.getD 5 undef=.pointer (some ⟨g,0,none⟩)) (hg:w.heap[g]?=some (.cells #[v] 48 (0,0))) (hown:w.ownsRow B 5 1 v xs.length (xs.map enc)) (hB:B<=w.heap.size)
 (hQ:∀(u v':Value) (W1 W2:World),Grew w W1->W2.ownsRow B 5 1 v' (xs.length+(vb m).length) ((xs++vb m).map enc)->W1.grownBy W2 v.ownBlock->W2.heap[g]?=some (.cells #[v] 48 (0,0))->Q .normal (puts [(16,v),(17,.int .u32 (m:Int)),(18,.int .u64 (m:Int)),(19,u),(20,v')] a) (W2.setCell ⟨g,0,none⟩ v')):
 (Code.region 5 opsPa.toArray true).wpIn (Fence.wide.inRound l) n Tryz.prog Q a w:=by
 have hyl:(vb m).length<=2000000:=vb_short m (by omega);have hgw:g<w.heap.size:=(geS.1 hg).1;have hc:w.cell? ⟨g,0,none⟩=some v:=by simpa using blk_cell hg 0
 refine region_app 44 3 19 20 16 opsPa [(5,.pointer (some ⟨g,0,none⟩)),(6,.int .u32 (m:Int))] [.eq (v),.eq (.int .u32 (m:Int)),.eq (.int .u64 (m:Int)),.pr fun u w=>IsB w u (vb m)] B g v xs (vb m) _ _ _ _ _ _ (by kernel_rfl) (by kernel_rfl) rfl rfl hN ⟨h1,h0,trivial⟩ h1 (by kernel_rfl) hg hown hB (by omega) rfl rfl (by kernel_rfl) (fun _=>rfl) (fun _=>rfl) (fun _=>rfl) (fun _=>rfl) ?_ ?_ ?_
 ·intro _ w' hR _;exact ⟨fun _=>ob_load (run_ldBy w' _ v ((Below.cell hR (p:=⟨g,0,none⟩) hgw).trans hc)),fun _=>rfl,fun _=>ob_cv (run_cv32 w' m hy),trivial,trivial,trivial,trivial⟩
 ·intro o ho;have hio:=(nthO_eq _ _).symm.trans ho
  cases ho
  refine ⟨19,rfl,fun a' w' hF hR hp=>?_⟩;have hx:a'.tmps.getD 18 undef=.int .u64 (m:Int):=hp 2 _ 18 (fun _=>undef) rfl rfl rfl (by decide);refine step_call hio rfl (xs:=#[.const (.slice none 0 0),.tmp 18]) (ts:=#[48,30]) rfl trivial (fun _=>by omega) (enters_of Tryz.func31 (by kernel_rfl) rfl) ?_;rw [show Array.map a'.eval #[.const (.slice none 0 0),.tmp 18]=#[.slice none 0 0,.int .u64 (m:Int)] from by simp only [List.map_toArray,List.map_cons,List.map_nil,Act.eval,hx]];refine (CallsIn.inRound l (callsIn_wide.2 (Uint_any none [] 0 0 m rfl (by omega) (by simp) w' (HasA.nil _ _ _)))).mono ?_;rintro e w'' ⟨gg,L,c,rfl,ho,hb⟩;exact ⟨_,rfl,_,rfl,IsB.own ho,hb⟩
 ·exact fun u W1 W2 q1 q2 q3 q4=>hQ _ _ W1 W2 q1 q2 q3 q4
noncomputable def opsPb:List Oper:=opsOf Tryz.f32 6
theorem put_regionPb (l n:Nat) (hn:1<=n) (B g:Nat) (v:Value) (q m:Nat) (xs:List UInt8) (hx:xs.length<=100000000) (hy:m<4294967296) (a:Act) (w:World) (Q:Exit->Act->World->Prop) (hN:a.tmps.size=44)
 (h0:a.tmps.getD 7 undef=.pointer (some ⟨q,0,none⟩)) (hcl:w.cell? ⟨q,0,none⟩=some (.int .u32 (m:Int))) (h1:a.tmps.getD 5 undef=.pointer (some ⟨g,0,none⟩)) (hg:w.heap[g]?=some (.cells #[v] 48 (0,0))) (hown:w.ownsRow B 5 1 v xs.length (xs.map enc)) (hB:B<=w.heap.size)
 (hQ:∀(u v':Value) (W1 W2:World),Grew w W1->W2.ownsRow B 5 1 v' (xs.length+(vb m).length) ((xs++vb m).map enc)->W1.grownBy W2 v.ownBlock->W2.heap[g]?=some (.cells #[v] 48 (0,0))->Q .normal (puts [(21,v),(22,.pointer (some ⟨q,0,none⟩)),(23,.int .u32 (m:Int)),(24,.int .u64 (m:Int)),(25,u),(26,v')] a) (W2.setCell ⟨g,0,none⟩ v')):
 (Code.region 6 opsPb.toArray true).wpIn (Fence.wide.inRound l) n Tryz.prog Q a w:=by
 have hyl:(vb m).length<=2000000:=vb_short m (by omega);have hgw:g<w.heap.size:=(geS.1 hg).1;have hc:w.cell? ⟨g,0,none⟩=some v:=by simpa using blk_cell hg 0
 have hqw:q<w.heap.size:=World.block_lt_of_cell? w ⟨q,0,none⟩ hcl;refine region_app 44 4 25 26 21 opsPb [(5,.pointer (some ⟨g,0,none⟩)),(7,.pointer (some ⟨q,0,none⟩))] [.eq (v),.eq (.pointer (some ⟨q,0,none⟩)),.eq (.int .u32 (m:Int)),.eq (.int .u64 (m:Int)),.pr fun u w=>IsB w u (vb m)] B g v xs (vb m) _ _ _ _ _ _ (by kernel_rfl) (by kernel_rfl) rfl rfl hN ⟨h1,h0,trivial⟩ h1 (by kernel_rfl) hg hown hB (by omega) rfl rfl (by kernel_rfl) (fun _=>rfl) (fun _=>rfl) (fun _=>rfl) (fun _=>rfl) ?_ ?_ ?_
 ·intro _ w' hR _;exact ⟨fun _=>ob_load (run_ldBy w' _ v ((Below.cell hR (p:=⟨g,0,none⟩) hgw).trans hc)),fun _=>ob_fld (run_fdS0 w' q 0),fun _=>ob_load (run_ldU w' ⟨q,0,none⟩ _ ((Below.cell hR (p:=⟨q,0,none⟩) hqw).trans hcl)),fun _=>ob_cv (run_cv32 w' m hy),trivial,trivial,trivial,trivial⟩
 ·intro o ho;have hio:=(nthO_eq _ _).symm.trans ho
  cases ho
  refine ⟨25,rfl,fun a' w' hF hR hp=>?_⟩;have hx:a'.tmps.getD 24 undef=.int .u64 (m:Int):=hp 3 _ 24 (fun _=>undef) rfl rfl rfl (by decide);refine step_call hio rfl (xs:=#[.const (.slice none 0 0),.tmp 24]) (ts:=#[48,30]) rfl trivial (fun _=>by omega) (enters_of Tryz.func31 (by kernel_rfl) rfl) ?_;rw [show Array.map a'.eval #[.const (.slice none 0 0),.tmp 24]=#[.slice none 0 0,.int .u64 (m:Int)] from by simp only [List.map_toArray,List.map_cons,List.map_nil,Act.eval,hx]];refine (CallsIn.inRound l (callsIn_wide.2 (Uint_any none [] 0 0 m rfl (by omega) (by simp) w' (HasA.nil _ _ _)))).mono ?_;rintro e w'' ⟨gg,L,c,rfl,ho,hb⟩;exact ⟨_,rfl,_,rfl,IsB.own ho,hb⟩
 ·exact fun u W1 W2 q1 q2 q3 q4=>hQ _ _ W1 W2 q1 q2 q3 q4
noncomputable def opsPc:List Oper:=opsOf Tryz.f32 7
theorem put_regionPc (l n:Nat) (hn:1<=n) (B g:Nat) (v:Value) (q m:Nat) (xs:List UInt8) (hx:xs.length<=100000000) (hy:m<256) (a:Act) (w:World) (Q:Exit->Act->World->Prop) (hN:a.tmps.size=44)
 (h0:a.tmps.getD 7 undef=.pointer (some ⟨q,0,none⟩)) (hcl:w.cell? ⟨q,1,none⟩=some (.int .u8 (m:Int))) (h1:a.tmps.getD 5 undef=.pointer (some ⟨g,0,none⟩)) (hg:w.heap[g]?=some (.cells #[v] 48 (0,0))) (hown:w.ownsRow B 5 1 v xs.length (xs.map enc)) (hB:B<=w.heap.size)
 (hQ:∀(u v':Value) (W1 W2:World),Grew w W1->W2.ownsRow B 5 1 v' (xs.length+(vb m).length) ((xs++vb m).map enc)->W1.grownBy W2 v.ownBlock->W2.heap[g]?=some (.cells #[v] 48 (0,0))->Q .normal (puts [(27,v),(28,.pointer (some ⟨q,1,none⟩)),(29,.pointer (some ⟨q,1,none⟩)),(30,.int .u8 (m:Int)),(31,.int .u64 (m:Int)),(32,u),(33,v')] a) (W2.setCell ⟨g,0,none⟩ v')):
 (Code.region 7 opsPc.toArray true).wpIn (Fence.wide.inRound l) n Tryz.prog Q a w:=by
 have hyl:(vb m).length<=2000000:=vb_short m (by omega);have hgw:g<w.heap.size:=(geS.1 hg).1;have hc:w.cell? ⟨g,0,none⟩=some v:=by simpa using blk_cell hg 0
 have hqw:q<w.heap.size:=World.block_lt_of_cell? w ⟨q,1,none⟩ hcl;refine region_app 44 5 32 33 27 opsPc [(5,.pointer (some ⟨g,0,none⟩)),(7,.pointer (some ⟨q,0,none⟩))] [.eq (v),.eq (.pointer (some ⟨q,1,none⟩)),.eq (.pointer (some ⟨q,1,none⟩)),.eq (.int .u8 (m:Int)),.eq (.int .u64 (m:Int)),.pr fun u w=>IsB w u (vb m)] B g v xs (vb m) _ _ _ _ _ _ (by kernel_rfl) (by kernel_rfl) rfl rfl hN ⟨h1,h0,trivial⟩ h1 (by kernel_rfl) hg hown hB (by omega) rfl rfl (by kernel_rfl) (fun _=>rfl) (fun _=>rfl) (fun _=>rfl) (fun _=>rfl) ?_ ?_ ?_
 ·intro _ w' hR _;exact ⟨fun _=>ob_load (run_ldBy w' _ v ((Below.cell hR (p:=⟨g,0,none⟩) hgw).trans hc)),fun _=>ob_fld (run_fdS1 w' q 0),fun _=>ob_fld (run_fdR0 w' q 1),fun _=>ob_load (run_ldCS w' ⟨q,1,none⟩ _ ((Below.cell hR (p:=⟨q,1,none⟩) hqw).trans hcl)),fun _=>ob_cv (run_cv8 w' m hy),trivial,trivial,trivial,trivial⟩
 ·intro o ho;have hio:=(nthO_eq _ _).symm.trans ho
  cases ho
  refine ⟨32,rfl,fun a' w' hF hR hp=>?_⟩;have hx:a'.tmps.getD 31 undef=.int .u64 (m:Int):=hp 4 _ 31 (fun _=>undef) rfl rfl rfl (by decide);refine step_call hio rfl (xs:=#[.const (.slice none 0 0),.tmp 31]) (ts:=#[48,30]) rfl trivial (fun _=>by omega) (enters_of Tryz.func31 (by kernel_rfl) rfl) ?_;rw [show Array.map a'.eval #[.const (.slice none 0 0),.tmp 31]=#[.slice none 0 0,.int .u64 (m:Int)] from by simp only [List.map_toArray,List.map_cons,List.map_nil,Act.eval,hx]];refine (CallsIn.inRound l (callsIn_wide.2 (Uint_any none [] 0 0 m rfl (by omega) (by simp) w' (HasA.nil _ _ _)))).mono ?_;rintro e w'' ⟨gg,L,c,rfl,ho,hb⟩;exact ⟨_,rfl,_,rfl,IsB.own ho,hb⟩
 ·exact fun u W1 W2 q1 q2 q3 q4=>hQ _ _ W1 W2 q1 q2 q3 q4
noncomputable def opsPd:List Oper:=opsOf Tryz.f32 8
theorem put_regionPd (l n:Nat) (hn:1<=n) (B g:Nat) (v:Value) (q:Nat) (x:ByteArray) (xs:List UInt8) (hx:xs.length<=100000000) (hy:x.size<=1000000) (a:Act) (w:World) (Q:Exit->Act->World->Prop) (hN:a.tmps.size=44)
 (h0:a.tmps.getD 7 undef=.pointer (some ⟨q,0,none⟩)) (hcl:w.cell? ⟨q,2,none⟩=some (.string x)) (h1:a.tmps.getD 5 undef=.pointer (some ⟨g,0,none⟩)) (hg:w.heap[g]?=some (.cells #[v] 48 (0,0))) (hown:w.ownsRow B 5 1 v xs.length (xs.map enc)) (hB:B<=w.heap.size)
 (hQ:∀(u v':Value) (W1 W2:World),Grew w W1->W2.ownsRow B 5 1 v' (xs.length+(txt x).length) ((xs++txt x).map enc)->W1.grownBy W2 v.ownBlock->W2.heap[g]?=some (.cells #[v] 48 (0,0))->Q .normal (puts [(34,v),(35,.pointer (some ⟨q,1,none⟩)),(36,.pointer (some ⟨q,2,none⟩)),(37,.string x),(38,u),(39,v')] a) (W2.setCell ⟨g,0,none⟩ v')):
 (Code.region 8 opsPd.toArray true).wpIn (Fence.wide.inRound l) n Tryz.prog Q a w:=by
 have hyl:(txt x).length<=2000000:=by have:=txt_len hy;omega
 have hgw:g<w.heap.size:=(geS.1 hg).1;have hc:w.cell? ⟨g,0,none⟩=some v:=by simpa using blk_cell hg 0
 have hqw:q<w.heap.size:=World.block_lt_of_cell? w ⟨q,2,none⟩ hcl;refine region_app 44 4 38 39 34 opsPd [(5,.pointer (some ⟨g,0,none⟩)),(7,.pointer (some ⟨q,0,none⟩))] [.eq (v),.eq (.pointer (some ⟨q,1,none⟩)),.eq (.pointer (some ⟨q,2,none⟩)),.eq (.string x),.pr fun u w=>IsB w u (txt x)] B g v xs (txt x) _ _ _ _ _ _ (by kernel_rfl) (by kernel_rfl) rfl rfl hN ⟨h1,h0,trivial⟩ h1 (by kernel_rfl) hg hown hB (by omega) rfl rfl (by kernel_rfl) (fun _=>rfl) (fun _=>rfl) (fun _=>rfl) (fun _=>rfl) ?_ ?_ ?_
 ·intro _ w' hR _;exact ⟨fun _=>ob_load (run_ldBy w' _ v ((Below.cell hR (p:=⟨g,0,none⟩) hgw).trans hc)),fun _=>ob_fld (run_fdS1 w' q 0),fun _=>ob_fld (run_fdR1 w' q 1),fun _=>ob_load (run_ldTS w' ⟨q,2,none⟩ _ ((Below.cell hR (p:=⟨q,2,none⟩) hqw).trans hcl)),trivial,trivial,trivial,trivial⟩
 ·intro o ho;have hio:=(nthO_eq _ _).symm.trans ho
  cases ho
  refine ⟨38,rfl,fun a' w' hF hR hp=>?_⟩;have hx:a'.tmps.getD 37 undef=.string x:=hp 3 _ 37 (fun _=>undef) rfl rfl rfl (by decide);refine step_call hio rfl (xs:=#[.const (.slice none 0 0),.tmp 37]) (ts:=#[48,9]) rfl trivial (fun _=>by omega) (enters_of Tryz.func55 (by kernel_rfl) rfl) ?_;rw [show Array.map a'.eval #[.const (.slice none 0 0),.tmp 37]=#[.slice none 0 0,.string x] from by simp only [List.map_toArray,List.map_cons,List.map_nil,Act.eval,hx]];refine (CallsIn.inRound l (callsIn_wide.2 (Text_any none [] 0 0 rfl x hy (by simp) w' (HasA.nil _ _ _)))).mono ?_;rintro e w'' ⟨gg,L,c,rfl,ho,hb⟩;exact ⟨_,rfl,_,rfl,IsB.own ho,hb⟩
 ·exact fun u W1 W2 q1 q2 q3 q4=>hQ _ _ W1 W2 q1 q2 q3 q4
end Go.Proofs.YtfjmdkhemnmkpaaGreatDoor
namespace Go.Proofs.YtfjmdkhemnmkpaaGreatDoor
open Go.Maps Go.RowKit Go.Shelf
attribute [local go_sem] Oper.semAt_some
def onesTo (l:List SE) (i:Nat):List UInt8:=(l.take i).flatMap oneS
theorem onesTo_succ {l:List SE} {i:Nat} (h:i<l.length):onesTo l (i+1)=onesTo l i++oneS l[i]:=by
 unfold onesTo;rw [List.take_succ_eq_append_getElem h,List.flatMap_append];simp
def PutJS (w:World) (g:Nat) (l:List SE) (i:Nat) (W:World):Prop:=Below w.heap.size w W/\(w.heap.size<=g/\∃v,W.heap[g]?=some (.cells #[v] 48 (0,0))/\W.ownsRow w.heap.size 5 1 v (vb l.length++onesTo l i).length ((vb l.length++onesTo l i).map enc))
theorem PutJS.abides {w:World} {B g:Nat} {l:List SE} {i:Nat} (hB:w.heap.size<=B):Abides B (PutJS w g l i):=(Abides.below (nLr _) hB).and ((Abides.pure _).and (Abides.ex fun _=>Abides.block.and Abides.own))
theorem PutJS.below {w W W':World} {g:Nat} {l:List SE} {i:Nat} (h:PutJS w g l i W) (hb:Below W.heap.size W W'):PutJS w g l i W':=by
 obtain ⟨h1,hg,v,h2,h3⟩:=h;exact ⟨h1.trans (Below.mono hb h1.size),hg,v,(hb.block g (geS.1 h2).1).trans h2,own_below h3 hb⟩
theorem onesTo_all (l:List SE):vb l.length++onesTo l l.length=bytesSS l:=by
 unfold onesTo bytesSS;rw [List.take_length]
theorem onesTo_le (l:List SE) (i:Nat):(onesTo l i).length<=(l.flatMap oneS).length:=by
 unfold onesTo
 conv=>rhs;rw [<-List.take_append_drop i l,List.flatMap_append,List.length_append]
 omega
theorem put_stepS {w W W1 W2:World} {g:Nat} {xs t:List UInt8} {v v1:Value} (hb:Below w.heap.size w W) (hg:w.heap.size<=g)
 (ho:W.ownsRow w.heap.size 5 1 v xs.length (xs.map enc)) (g1:Grew W W1) (o1:W2.ownsRow w.heap.size 5 1 v1 (xs.length+t.length) ((xs++t).map enc)) (r1:W1.grownBy W2 v.ownBlock) (c1:W2.heap[g]?=some (.cells #[v] 48 (0,0))):
 Below w.heap.size w (W2.setCell ⟨g,0,none⟩ v1)/\(W2.setCell ⟨g,0,none⟩ v1).heap[g]?=some (.cells #[v1] 48 (0,0))/\(W2.setCell ⟨g,0,none⟩ v1).ownsRow w.heap.size 5 1 v1 (xs++t).length ((xs++t).map enc)/\
  KeepsOthers W (W2.setCell ⟨g,0,none⟩ v1)/\(∀{u:Value} {m:List SE},KeysWS m u W->KeysWS m u (W2.setCell ⟨g,0,none⟩ v1))/\∀(q:Nat) (cs:Array Value),W.heap[q]?=some (.cells cs 111 (0,0))->(W2.setCell ⟨g,0,none⟩ v1).heap[q]?=some (.cells cs 111 (0,0)):=by
 have hty:∀r,v.ownBlock=some r->∃cs,W1.heap[r]?=some (.cells cs 5 (0,0)):=own_typed (own_below ho g1);have hs:=((SameT.grew (T:=[]) g1).trans (SameT.grown r1 hty)).trans (SameT.set (i:=0) c1 v1);refine ⟨((hb.trans (Below.mono g1 hb.size)).grown r1 (nLt hb.size (Below.size g1)) (fun k e=>(ho.lt k e).1)).setCell (p:=⟨g,0,none⟩) hg _,by simpa using blk_set c1 0 v1,?_,?_,fun {u m} hk=>hs.own hk (by decide),fun q cs h=>hs _ _ _ (by decide) h⟩
 ·have:=(SameT.set (i:=0) c1 v1).own o1 (by decide)
  rwa [List.length_append]
 ·exact ((KeepsOthers.of_grownBy (grownBy_of_below (r:=none) g1) (fun j o e=>by cases e)).trans (KeepsOthers.of_grownBy r1 (fun j o e ho'=>by
   obtain ⟨cs,hc⟩:=hty j e;rw [hc] at ho'
   cases ho'
   rfl))).trans (KeepsOthers.setCell _ _ _)
theorem put_inS (a:Value) (p:Option Nat) (l:List SE) (hs:SortedE l) {b:Nat} (hl:LimB b l) (hbb:b<=100000) (hbl:(bytesSS l).length<=9000000) (w:World) (hm:MapOS w p l) (hall:∀W,Below w.heap.size w W->Calls Tryz.prog 62 #[a] W fun e W'=>e=.returned (.map p)/\W'=W)
 (hlen:Calls Tryz.prog 53 #[a] w fun e W'=>e=.returned (.int .i64 (l.length:Int))/\W'=w) (A:Option Addr) (L c:Nat) (bs:List UInt8) (hL:L=bs.length) (hL1:L<=6000000) (hA:HasA w w.heap.size A bs):
 CallsIn Fence.wide 5 Tryz.prog 32 #[a,.slice A L c] w fun e W'=>∃v n,e=.returned v/\W'.ownsRow w.heap.size 5 1 v n ((bs++bytesSS l).map enc)/\Below w.heap.size w W':=by
 have HSL:=hiD (aI hs (aI hl hbl));have HBB:=hiD hbb;have HM:=hiD hm;have HALL:=hiD hall;have HLEN:=hiD hlen;have HA:=hiD (aI hL (aI hL1 hA));obtain ⟨N,hN⟩:∃N,N=l.length:=⟨_,rfl⟩;rw [<-hN] at HLEN;have hN5:N<=5000:=by rw [hN];exact hl.len
 have hNi:(N:Int)<18446744073709551616:=by omega
 have HN:=hiD (aI hN hN5);clear hs hl hbl hbb hm hall hlen hL hL1 hA hN hN5;refine callsIn_of_wp_marks Tryz.func32 rfl trivial ?_ rfl;simp only [Tryz.ntmps32,List.size_toArray,List.length_cons,List.length_nil,Nat.reduceAdd,Nat.reduceSub,Array.replicate_succ,Array.replicate_zero,List.push_toArray,List.append_toArray,List.nil_append,List.cons_append]
 gi_wp2_with fail
 refine ⟨trivial,?_⟩;refine (callsIn_wide.2 HLEN.out).mono ?_;rintro e W1 ⟨rfl,rfl⟩
 gi_wp2_with fail
 refine ⟨trivial,?_⟩;refine (callsIn_wide.2 (Uint_any none [] 0 0 N rfl (by have:=HN.out.2;omega) (by simp) W1 (HasA.nil _ _ _))).mono ?_;rintro e W2 ⟨g2,L2,c2,rfl,hown,hb⟩;have H2:=hiD (aI hown hb);clear hown hb;gi_wp2;obtain ⟨W3,hW3⟩:∃W3,W3=W2.alloc (Obj.cells #[.slice (some ⟨g2,0,none⟩) L2 c2] 48):=⟨_,rfl⟩;rw [<-hW3];have hB3:Below W2.heap.size W2 W3:=by rw [hW3];exact (Below.refl _ W2).alloc (nLr _) _
 have k3:W3.heap[W2.heap.size]?=some (.cells #[.slice (some ⟨g2,0,none⟩) L2 c2] 48 (0,0)):=by rw [hW3];exact wAh W2 _
 have hG2:=H2.out.2.size;obtain ⟨G,hG⟩:∃G,G=W2.heap.size:=⟨_,rfl⟩;rw [<-hG] at k3 hG2 ⊢;have o3:=own_below H2.out.1 hB3;rw [List.nil_append,HN.out.1] at o3;have hL2:=own_len o3
 have hJ0:PutJS W1 G l 0 W3:=⟨H2.out.2.trans (Below.mono hB3 H2.out.2.size),hG2,_,k3,by
  have e:vb l.length++onesTo l 0=vb l.length:=by unfold onesTo;simp
  rw [e,<-hL2];exact o3⟩
 have HJ0:=hiD hJ0;have hW13:W1.heap.size<=W3.heap.size:=hJ0.1.size;have hcl:∀e∈l,e.cl<4294967296:=fun e he=>(HSL.out.2.1.each e he).1
 have hll:l.length<=1000000:=by have:=HSL.out.2.1.len;omega
 clear hW3 hB3 k3 hG o3 hL2 hJ0
 refine wpIn_rangeFunc_tied2 rfl (by omega) (gf:=54) (fb:=#[a]) (lb:=#[]) rfl trivial (enters_of Tryz.func54 (by kernel_rfl) rfl) (encs:=pairE l) (fun _=>rfl)
  (PutJS.abides hW13) (PutJS.abides hW13) (fun x=>(PutJS.abides hW13).and (Abides.own.and (Abides.pure _))) (fun x=>(PutJS.abides hW13).and Abides.own) (fun _=>Abides.pure _) (fun _=>Abides.pure _)
  (order_seqS 4 (by omega) W1 a p l HM.out HALL.out HSL.out.1 hll hcl W3.heap.size (PutJS W1 G l) (fun i W h=>h.1) (fun W W' h hb=>h.below hb)) HJ0.out
  (fun x a' W'=>∃q:Nat,(a'={tmps:=#[a,.slice A L c,undef,undef,.slice none 0 0,.pointer (some ⟨G,0,none⟩),cV (eAt l x.1).cl,.pointer (some ⟨q,0,none⟩),a,.int .i64 (N:Int),.int .u64 (N:Int),.slice (some ⟨g2,0,none⟩) L2 c2,a,.func (.func 54) #[a] #[],cV (eAt l x.1).cl,sessV (eAt l x.1),undef,undef,undef,undef,undef,undef,undef,undef,undef,undef,undef,undef,undef,undef,undef,undef,undef,undef,undef,undef,undef,undef,undef,undef,undef,undef,undef,undef],defers:=[]}/\x.1<l.length)/\W'.heap[q]?=some (.cells #[.int .u32 ((eAt l x.1).sq:Int),.int .u8 ((eAt l x.1).cd:Int),.string (eAt l x.1).tx] 111 (0,0))/\PutJS W1 G l x.1 W'/\KeysWS l x.2 W')
  (fun x a'=>Abides.ex fun q=>(Abides.pure _).and (Abides.block.and ((PutJS.abides hW13).and Abides.own))) ?assign ?body ?done ?stop
 case assign=>
  intro y x W K ⟨hJ,hKs,hi⟩ hW hK;simp only [pairE,sessV];have hb0:Below W.heap.size W (W.alloc (.cells #[.int .u32 ((eAt l x.1).sq:Int),.int .u8 ((eAt l x.1).cd:Int),.string (eAt l x.1).tx] 111)):=(Below.refl _ W).alloc (nLr _) _;have hJ':=hJ.below hb0;have hK':KeysWS l x.2 (W.alloc (.cells #[.int .u32 ((eAt l x.1).sq:Int),.int .u8 ((eAt l x.1).cd:Int),.string (eAt l x.1).tx] 111)):=World.ownsRow.alloc hKs _;have hkf:=(KeepsOthers.alloc W (.cells #[.int .u32 ((eAt l x.1).sq:Int),.int .u8 ((eAt l x.1).cd:Int),.string (eAt l x.1).tx] 111)).from W3.heap.size;have hnew:=wAh W (.cells #[.int .u32 ((eAt l x.1).sq:Int),.int .u8 ((eAt l x.1).cd:Int),.string (eAt l x.1).tx] 111);have HK9:=hiD (aI hJ' (aI hK' (aI hkf (aI hnew hi))));clear hJ' hK' hkf hnew hb0 hJ hKs;gi_wp2;exact hK _ _ HK9.out.2.2.1 ⟨W.heap.size,⟨rfl,HK9.out.2.2.2.2⟩,HK9.out.2.2.2.1,HK9.out.1,HK9.out.2.1⟩
 case body=>
  rintro y ⟨i,u⟩ a' W ⟨q,⟨rfl,hi⟩,hq,hJ,hK⟩ hlt;dsimp only at hJ hK hi hq ⊢;rw [eAt_at hi] at hq ⊢;obtain ⟨hb,hg,v,hv,ho⟩:=hJ;have hz:=HSL.out.2.1.each l[i] (List.getElem_mem hi);have hbb:=HBB.out
  have hpl:(vb l.length++onesTo l i).length<=9000000:=by
   have h1:=onesTo_le l i;have h2:=HSL.out.2.2;unfold bytesSS at h2;rw [List.length_append] at h2 ⊢;omega
  have hps:=onesTo_succ hi;obtain ⟨⟨cl,sq,cd,tx⟩,he⟩:∃e,e=l[i]:=⟨_,rfl⟩;rw [<-he] at hz hps hq;rw [<-he];simp only at hz hq ⊢;obtain ⟨xs,hxs⟩:∃xs,xs=vb l.length++onesTo l i:=⟨_,rfl⟩;rw [<-hxs] at ho hpl;have HPS:=hiD (show vb l.length++onesTo l (i+1)=xs++vb cl++vb sq++vb cd++txt tx by rw [hps,hxs];simp only [oneS,List.append_assoc]);clear hps he hxs;have hWb:=hb.size;have l1:=vb_len10 (n:=cl) (by omega);have l2:=vb_len10 (n:=sq) (by omega);have l3:=vb_len10 (n:=cd) (by omega);have l4:=txt_len (s:=tx) (by omega);gi_wp2;refine put_regionPa y (5 - 1 - 1) (by decide) W1.heap.size G v cl xs (by omega) hz.1 _ W _ rfl rfl rfl hv ho hWb ?_;intro u1 v1 V1 V2 g1 o1 r1 c1;obtain ⟨s1,s2,s3,s4,s5,s6⟩:=put_stepS hb hg ho g1 o1 r1 c1;have q4:=s6 q _ hq;obtain ⟨W4,hW4⟩:∃W4,W4=V2.setCell ⟨G,0,none⟩ v1:=⟨_,rfl⟩;rw [<-hW4] at s1 s2 s3 s4 s5 q4 ⊢;have K4:=hiD (aI s4 (s5 hK));clear g1 o1 r1 c1 s4 s5 s6 hW4 hv ho hK hq;simp only [puts,List.foldl_cons,List.foldl_nil,Act.put,List.setIfInBounds_toArray,List.set_cons_succ,List.set_cons_zero];gi_wp2;refine put_regionPb y (5 - 1 - 1) (by decide) W1.heap.size G v1 q sq (xs++vb cl) (by rw [List.length_append];omega) hz.2.1 _ W4 _ rfl rfl (by simpa using blk_cell q4 0) rfl s2 s3 s1.size ?_;intro u2 v2 V3 V4 g3 o3 r3 c3;obtain ⟨t1,t2,t3,t4,t5,t6⟩:=put_stepS s1 hg s3 g3 o3 r3 c3;have q5:=t6 q _ q4;obtain ⟨W5,hW5⟩:∃W5,W5=V4.setCell ⟨G,0,none⟩ v2:=⟨_,rfl⟩;rw [<-hW5] at t1 t2 t3 t4 t5 q5 ⊢;have K5:=hiD (aI (K4.out.1.trans t4) (t5 K4.out.2));clear g3 o3 r3 c3 t4 t5 t6 hW5 q4 s1 s2 s3;simp only [puts,List.foldl_cons,List.foldl_nil,Act.put,List.setIfInBounds_toArray,List.set_cons_succ,List.set_cons_zero];gi_wp2;refine put_regionPc y (5 - 1 - 1) (by decide) W1.heap.size G v2 q cd (xs++vb cl++vb sq) (by rw [List.length_append,List.length_append];omega) hz.2.2.1 _ W5 _ rfl rfl (by simpa using blk_cell q5 1) rfl t2 t3 t1.size ?_;intro u3 v3 V5 V6 g5 o5 r5 c5;obtain ⟨x1,x2,x3,x4,x5,x6⟩:=put_stepS t1 hg t3 g5 o5 r5 c5;have q6:=x6 q _ q5;obtain ⟨W6,hW6⟩:∃W6,W6=V6.setCell ⟨G,0,none⟩ v3:=⟨_,rfl⟩;rw [<-hW6] at x1 x2 x3 x4 x5 q6 ⊢;have K6:=hiD (aI (K5.out.1.trans x4) (x5 K5.out.2));clear g5 o5 r5 c5 x4 x5 x6 hW6 q5 t1 t2 t3;simp only [puts,List.foldl_cons,List.foldl_nil,Act.put,List.setIfInBounds_toArray,List.set_cons_succ,List.set_cons_zero];gi_wp2;refine put_regionPd y (5 - 1 - 1) (by decide) W1.heap.size G v3 q tx (xs++vb cl++vb sq++vb cd) (by rw [List.length_append,List.length_append,List.length_append];omega) (by omega) _ W6 _ rfl rfl (by simpa using blk_cell q6 2) rfl x2 x3 x1.size ?_;intro u4 v4 V7 V8 g7 o7 r7 c7;obtain ⟨y1,y2,y3,y4,y5,y6⟩:=put_stepS x1 hg x3 g7 o7 r7 c7;simp only [puts,List.foldl_cons,List.foldl_nil,Act.put,List.setIfInBounds_toArray,List.set_cons_succ,List.set_cons_zero];refine ⟨(K6.out.1.trans y4).from _,⟨y1,hg,v4,y2,?_⟩,y5 K6.out.2⟩;rw [HPS.out];exact y3
 case done=>
  intro D W hD hId hK;obtain ⟨hb,hg,v,hv,ho⟩:=hId;rw [onesTo_all] at ho;obtain ⟨A9,c9,rfl⟩:=own_form ho;have hc:=blk_cell hv 0;simp at hc;obtain ⟨M,hM⟩:∃M,M=(bytesSS l).length:=⟨_,rfl⟩;rw [<-hM] at ho hc;have hd:W.heap[D]?=some (.deferred (some [])):=hK;have HD:=hiD (aI hb (aI ho (aI hM hK)));clear hb hg hv ho hM hK hd
  gi_wp2_with fail
  refine ⟨trivial,?_⟩;obtain ⟨W5,hW5⟩:∃W5,W5=W.alloc (Obj.cells #[.slice A L c,.slice A9 M c9] 48):=⟨_,rfl⟩;rw [<-hW5];have hB5:Below W.heap.size W W5:=by rw [hW5];exact (Below.refl _ W).alloc (nLr _) _
  have k5:W5.heap[W.heap.size]?=some (.cells #[.slice A L c,.slice A9 M c9] 48 (0,0)):=by rw [hW5];exact wAh W _
  have hw5:Below W1.heap.size W1 W5:=HD.out.1.trans (Below.mono hB5 HD.out.1.size);have d5:W5.heap[D]?=some (.deferred (some [])):=(hB5.block D (geS.1 HD.out.2.2.2).1).trans HD.out.2.2.2
  have hfl:(List.flatten [bs,bytesSS l]).length<=20000000/\1<=(List.flatten [bs,bytesSS l]).length:=by
   have h1:=HSL.out.2.2;have h2:=HA.out.1;have h3:=HA.out.2.1;have h4:0<(vb l.length).length:=List.length_pos_iff.2 (vb_ne _);have h5:0<(bytesSS l).length:=by unfold bytesSS;rw [List.length_append];omega
   simp only [List.flatten_cons,List.flatten_nil,List.length_append,List.length_nil];omega
  refine (callsIn_wide.2 (Concat_anyB W.heap.size 2 2 [bs,bytesSS l] rfl (by omega) (by omega) hfl.2 hfl.1 W5 (geS.1 k5).1 ?_)).mono ?_
  ·intro i hi;have hi2:i=0\/i=1:=by simp at hi;omega
   rcases hi2 with rfl|rfl
   ·exact ⟨A,L,c,by rw [blk_cell k5];rfl,HA.out.1,HA.out.2.2.below' hw5⟩
   ·exact ⟨A9,M,c9,by rw [blk_cell k5];rfl,HD.out.2.2.1,HasA.of_own (own_below HD.out.2.1 hB5)⟩
  rintro e W6 ⟨g6,L6,c6,rfl,hown,hb6⟩;have h6:Below W1.heap.size W1 W6:=hw5.trans (Below.mono hb6 hw5.size);have d6:W6.heap[D]?=some (.deferred (some [])):=(hb6.block D (geS.1 d5).1).trans d5;have HF:=hiD (aI (own_base hown (base':=W1.heap.size) hw5.size) (aI h6 d6));have hDw:W1.heap.size<=D:=nLt hW13 hD;clear hown hb6 h6 d6 hW5 hB5 k5 hw5 d5 hfl;gi_wp2
  have hr:∀r,some D=some r->W1.heap.size<=r/\∃o,W6.heap[r]?=some o/\o.isCells=false:=fun r e=>by
   cases e
   exact ⟨hDw,_,HF.out.2.2,rfl⟩
  have hown6:W6.ownsRow W1.heap.size 5 1 (.slice (some ⟨g6,0,none⟩) L6 c6) L6 ((bs++bytesSS l).map enc):=by
   have h:=HF.out.1
   simpa using h
  have e1:=Abides.own (B:=W1.heap.size) W6 _ (some D) hown6 (grownBy_putObj' W6 D (.deferred none)) hr;have e2:=Abides.below (nLr W1.heap.size) (nLr W1.heap.size) W6 _ (some D) HF.out.2.1 (grownBy_putObj' W6 D (.deferred none)) hr;refine ⟨by simp,.inl ⟨_,_,rfl,run_takeDeferred HF.out.2.2,?_⟩⟩;refine ⟨.slice (some ⟨g6,0,none⟩) L6 c6,(results_tmp (fn:=Tryz.f32) (t:=4) rfl _ _ _).trans rfl,.slice (some ⟨g6,0,none⟩) L6 c6,L6,rfl,e1,e2⟩
 case stop=>
  intro D cc W hD hf;exact hf.elim
theorem put_anySB {w:World} {R:Nat} {p:Option Nat} {l:List SE} (A:Option Addr) (L c:Nat) (bs:List UInt8) (h:StQS w R p l) (hs:SortedE l) {b:Nat} (hl:LimB b l) (hbb:b<=100000) (hbl:(bytesSS l).length<=9000000) (hL:L=bs.length) (hL1:L<=6000000) (hA:HasA w w.heap.size A bs):
 Calls Tryz.prog 32 #[.pointer (some ⟨R,0,none⟩),.slice A L c] w fun e W'=>∃v n,e=.returned v/\W'.ownsRow w.heap.size 5 1 v n ((bs++bytesSS l).map enc)/\Below w.heap.size w W':=
 callsIn_wide.1 (put_inS _ p l hs hl hbb hbl w h.map (fun _W hb=>all_anyS (h.below hb)) (len_anyS h) A L c bs hL hL1 hA)
end Go.Proofs.YtfjmdkhemnmkpaaGreatDoor
namespace Go.Proofs.YtfjmdkhemnmkpaaGreatDoor
open Go.Maps Go.RowKit
/- kv's contracts, by what a state lies in. -/
theorem plK_keep {F G:Nat->Prop} {w w':World} {R:Nat} {l:List PV} (h:PlQ F w R l) (ho:Only G w w') (hd:∀k,F k->¬G k):PlQ F w' R l:=by
 obtain ⟨p,h,hs,hF⟩:=h;exact ⟨p,h.keep (ho.block R h.lt (hd R ((hF R).2 (.inl rfl)))) (fun b e=>ho.block b (h.blt b e) (hd b ((hF b).2 (.inr e)))),hs,hF⟩
theorem plK_lt {F:Nat->Prop} {w:World} {R:Nat} {l:List PV} (h:PlQ F w R l):∀k,F k->k<w.heap.size:=by
 obtain ⟨p,h,_,hF⟩:=h;intro k hk
 rcases (hF k).1 hk with e|e
 ·rw [e];exact h.lt
 ·exact h.blt k e
theorem plK_new (w:World):Calls Tryz.prog 40 #[] w fun e W'=>∃F R,e=.returned (.pointer (some ⟨R,0,none⟩))/\PlQ F W' R []/\(∀k,F k->w.heap.size<=k)/\Below w.heap.size w W':=
 (new_any w).mono fun e W' ⟨he,hw⟩=>by
  subst hw;refine ⟨_,w.heap.size,he,PlQ.mk (p:=none) ⟨wAh w _,rfl⟩ SortedP.nil,fun k hk=>?_,(Below.refl _ w).alloc (nLr _) _⟩
  rcases hk with e|e
  ·omega
  ·cases e
theorem plK_do {F:Nat->Prop} {w:World} {R:Nat} {l:List PV} (v:CmdV) (h:PlQ F w R l) (hT:TabK w) (hl:LimP l) (hv:v.ok w):Calls Tryz.prog 43 #[.pointer (some ⟨R,0,none⟩),v.val] w fun e W'=>e=.returned (ReplyV (doP l v.m).2)/\∃F',PlQ F' W' R (doP l v.m).1/\Only F w W'/\∀k,F' k->F k\/w.heap.size<=k:=by
 obtain ⟨p,h,hs,hF⟩:=h;refine (do_any R p l v w h hT hs hl hv).mono fun e W' ⟨he,hc⟩=>?_
 obtain ⟨p',s',hp'⟩:=hc.ex;refine ⟨he,_,PlQ.mk s' (doP_sorted hs v.m),only_of hF hc.only,fun k hk=>?_⟩
 rcases hk with e|e
 ·exact .inl ((hF k).2 (.inl e))
 ·rcases hp' k e with e'|e'
  ·exact .inl ((hF k).2 (.inr e'))
  ·exact .inr e'
theorem plK_putB {F:Nat->Prop} {w:World} {R:Nat} {l:List PV} (A:Option Addr) (L c:Nat) (bs:List UInt8) (h:PlQ F w R l) (hl:LimP l) (hbl:(bytesP l).length<=5000000) (hL:L=bs.length) (hL1:L<=6000000) (hA:HasA w w.heap.size A bs):
 Calls Tryz.prog 33 #[.pointer (some ⟨R,0,none⟩),.slice A L c] w fun e W'=>∃v n,e=.returned v/\W'.ownsRow w.heap.size 5 1 v n ((bs++bytesP l).map enc)/\Below w.heap.size w W':=by
 obtain ⟨p,h,hs,_⟩:=h;exact put_anyB A L c bs h hs hl hbl hL hL1 hA
/- session's contracts. -/
theorem plS_keep {F G:Nat->Prop} {w w':World} {R:Nat} {l:List SE} (h:PlQS F w R l) (ho:Only G w w') (hd:∀k,F k->¬G k):PlQS F w' R l:=by
 obtain ⟨p,h,hs,hF⟩:=h;exact ⟨p,h.keep (ho.block R h.lt (hd R ((hF R).2 (.inl rfl)))) (fun b e=>ho.block b (h.blt b e) (hd b ((hF b).2 (.inr e)))),hs,hF⟩
theorem plS_lt {F:Nat->Prop} {w:World} {R:Nat} {l:List SE} (h:PlQS F w R l):∀k,F k->k<w.heap.size:=by
 obtain ⟨p,h,_,hF⟩:=h;intro k hk
 rcases (hF k).1 hk with e|e
 ·rw [e];exact h.lt
 ·exact h.blt k e
theorem plS_new (w:World):Calls Tryz.prog 41 #[] w fun e W'=>∃F R,e=.returned (.pointer (some ⟨R,0,none⟩))/\PlQS F W' R []/\(∀k,F k->w.heap.size<=k)/\Below w.heap.size w W':=
 (new_anyS w).mono fun e W' ⟨he,hw⟩=>by
  subst hw;refine ⟨_,w.heap.size,he,PlQS.mk (p:=none) ⟨wAh w _,rfl⟩ SortedE.nil,fun k hk=>?_,(Below.refl _ w).alloc (nLr _) _⟩
  rcases hk with e|e
  ·omega
  ·cases e
theorem plS_look {F:Nat->Prop} {w:World} {R:Nat} {l:List SE} (c s:Nat) (h:PlQS F w R l) (hc:c<4294967296) (hs:s<4294967296):Calls Tryz.prog 42 #[.pointer (some ⟨R,0,none⟩),.int .u32 (c:Int),.int .u32 (s:Int)] w fun e W'=>e=.returned (.tuple #[replyV (tellS l c s).1,.int .u8 ((tellS l c s).2:Int)])/\Below w.heap.size w W':=by
 obtain ⟨_,h,_,_⟩:=h;exact look_any h c s hc hs
theorem plS_keeps {F:Nat->Prop} {w:World} {R:Nat} {l:List SE} (c s cd:Nat) (tx:ByteArray) (h:PlQS F w R l) (hl:l.length<=1000000) (hc:c<4294967296) (hsq:s<4294967296) (ht:tx.size<=maxLen):Calls Tryz.prog 44 #[.pointer (some ⟨R,0,none⟩),.int .u32 (c:Int),.int .u32 (s:Int),replyV (cd,tx)] w fun e W'=>e=.returned (.tuple #[])/\∃F',PlQS F' W' R (keepS l c s cd tx)/\Only F w W'/\∀k,F' k->F k\/w.heap.size<=k:=by
 obtain ⟨p,h,hs,hF⟩:=h;refine (keep_any h hs hl c s cd tx hc hsq ht).mono fun e W' ⟨he,hch⟩=>?_
 obtain ⟨p',s',hp'⟩:=hch.ex;refine ⟨he,_,PlQS.mk s' (keepS_sorted hs c s cd tx),only_ofS hF hch.only,fun k hk=>?_⟩
 rcases hk with e|e
 ·exact .inl ((hF k).2 (.inl e))
 ·rcases hp' k e with e'|e'
  ·exact .inl ((hF k).2 (.inr e'))
  ·exact .inr e'
theorem plS_putB {F:Nat->Prop} {w:World} {R:Nat} {l:List SE} {b:Nat} (A:Option Addr) (L c:Nat) (bs:List UInt8) (h:PlQS F w R l) (hl:LimB b l) (hb:b<=100000) (hbl:(bytesSS l).length<=9000000) (hL:L=bs.length) (hL1:L<=6000000) (hA:HasA w w.heap.size A bs):
 Calls Tryz.prog 32 #[.pointer (some ⟨R,0,none⟩),.slice A L c] w fun e W'=>∃v n,e=.returned v/\W'.ownsRow w.heap.size 5 1 v n ((bs++bytesSS l).map enc)/\Below w.heap.size w W':=by
 obtain ⟨p,h,hs,_⟩:=h;exact put_anySB A L c bs h hs hl hb hbl hL hL1 hA
structure BothA (F:Nat->Prop) (w:World) (Rk:Nat) (ps:List PV) (Rs:Nat) (ss:List SE):Prop where
 ex:∃Fk Fs,PlQ Fk w Rk ps/\PlQS Fs w Rs ss/\(∀k,Fk k->¬Fs k)/\∀k,F k<->(Fk k\/Fs k)
section
variable {F G Fk Fs:Nat->Prop} {w w':World} {Rk Rs:Nat} {ps:List PV} {ss:List SE}
theorem BothA.mk2 (h1:PlQ Fk w Rk ps) (h2:PlQS Fs w Rs ss) (hd:∀k,Fk k->¬Fs k):BothA (fun k=>Fk k\/Fs k) w Rk ps Rs ss:=⟨Fk,Fs,h1,h2,hd,fun _=>Iff.rfl⟩
theorem BothA.of (h1:PlQ Fk w Rk ps) (hb:Below w.heap.size w w') (h2:PlQS Fs w' Rs ss) (hn:∀k,Fs k->w.heap.size<=k):BothA (fun k=>Fk k\/Fs k) w' Rk ps Rs ss:=
 BothA.mk2 (plK_keep h1 (Only.of_grew (F:=fun _=>False) hb) (fun _ _=>id)) h2 (fun k hk hf=>by have:=plK_lt h1 k hk;have:=hn k hf;omega)
theorem BothA.keep (h:BothA F w Rk ps Rs ss) (ho:Only G w w') (hd:∀k,F k->¬G k):BothA F w' Rk ps Rs ss:=by
 obtain ⟨Fk,Fs,h1,h2,h3,h4⟩:=h.ex;exact ⟨Fk,Fs,plK_keep h1 ho (fun k hk=>hd k ((h4 k).2 (.inl hk))),plS_keep h2 ho (fun k hk=>hd k ((h4 k).2 (.inr hk))),h3,h4⟩
theorem BothA.below (h:BothA F w Rk ps Rs ss) (hb:Below w.heap.size w w'):BothA F w' Rk ps Rs ss:=h.keep (Only.of_grew (F:=fun _=>False) hb) (fun _ _=>id)
theorem BothA.lt (h:BothA F w Rk ps Rs ss):∀k,F k->k<w.heap.size:=by
 obtain ⟨Fk,Fs,h1,h2,_,h4⟩:=h.ex;intro k hk
 rcases (h4 k).1 hk with e|e
 ·exact plK_lt h1 k e
 ·exact plS_lt h2 k e
theorem BothA.do_ (h:BothA F w Rk ps Rs ss) (hT:TabK w) (hl:LimP ps) (v:CmdV) (hv:v.ok w):Calls Tryz.prog 43 #[.pointer (some ⟨Rk,0,none⟩),v.val] w fun e W'=>e=.returned (ReplyV (doP ps v.m).2)/\∃F',BothA F' W' Rk (doP ps v.m).1 Rs ss/\Only F w W'/\∀k,F' k->F k\/w.heap.size<=k:=by
 obtain ⟨Fk,Fs,h1,h2,h3,h4⟩:=h.ex;refine (plK_do v h1 hT hl hv).mono fun e W' ⟨he,F',k1,k2,k3⟩=>⟨he,_,BothA.mk2 k1 (plS_keep h2 k2 (fun k hk hf=>h3 k hf hk)) (fun k hk hf=>?_),k2.mono (fun k _ hk=>(h4 k).2 (.inl hk)),fun k hk=>?_⟩
 ·rcases k3 k hk with e'|e'
  ·exact h3 k e' hf
  ·have:=plS_lt h2 k hf;omega
 ·rcases hk with e'|e'
  ·rcases k3 k e' with e2|e2
   ·exact .inl ((h4 k).2 (.inl e2))
   ·exact .inr e2
  ·exact .inl ((h4 k).2 (.inr e'))
theorem BothA.keeps (h:BothA F w Rk ps Rs ss) (c s cd:Nat) (tx:ByteArray) (hl:ss.length<=1000000) (hc:c<4294967296) (hsq:s<4294967296) (ht:tx.size<=maxLen):Calls Tryz.prog 44 #[.pointer (some ⟨Rs,0,none⟩),.int .u32 (c:Int),.int .u32 (s:Int),replyV (cd,tx)] w fun e W'=>e=.returned (.tuple #[])/\∃F',BothA F' W' Rk ps Rs (keepS ss c s cd tx)/\Only F w W'/\∀k,F' k->F k\/w.heap.size<=k:=by
 obtain ⟨Fk,Fs,h1,h2,h3,h4⟩:=h.ex;refine (plS_keeps c s cd tx h2 hl hc hsq ht).mono fun e W' ⟨he,F',k1,k2,k3⟩=>⟨he,_,BothA.mk2 (plK_keep h1 k2 (fun k hk hf=>h3 k hk hf)) k1 (fun k hk hf=>?_),k2.mono (fun k _ hk=>(h4 k).2 (.inr hk)),fun k hk=>?_⟩
 ·rcases k3 k hf with e'|e'
  ·exact h3 k hk e'
  ·have:=plK_lt h1 k hk;omega
 ·rcases hk with e'|e'
  ·exact .inl ((h4 k).2 (.inl e'))
  ·rcases k3 k e' with e2|e2
   ·exact .inl ((h4 k).2 (.inr e2))
   ·exact .inr e2
theorem BothA.look (h:BothA F w Rk ps Rs ss) (c s:Nat) (hc:c<4294967296) (hs:s<4294967296):Calls Tryz.prog 42 #[.pointer (some ⟨Rs,0,none⟩),.int .u32 (c:Int),.int .u32 (s:Int)] w fun e W'=>e=.returned (.tuple #[replyV (tellS ss c s).1,.int .u8 ((tellS ss c s).2:Int)])/\Below w.heap.size w W':=by
 obtain ⟨_,_,_,h2,_,_⟩:=h.ex;exact plS_look c s h2 hc hs
theorem BothA.putKB (h:BothA F w Rk ps Rs ss) (A:Option Addr) (L c:Nat) (bs:List UInt8) (hl:LimP ps) (hbl:(bytesP ps).length<=5000000) (hL:L=bs.length) (hL1:L<=6000000) (hA:HasA w w.heap.size A bs):
 Calls Tryz.prog 33 #[.pointer (some ⟨Rk,0,none⟩),.slice A L c] w fun e W'=>∃v n,e=.returned v/\W'.ownsRow w.heap.size 5 1 v n ((bs++bytesP ps).map enc)/\Below w.heap.size w W':=by
 obtain ⟨_,_,h1,_,_,_⟩:=h.ex;exact plK_putB A L c bs h1 hl hbl hL hL1 hA
theorem BothA.putSB {b:Nat} (h:BothA F w Rk ps Rs ss) (A:Option Addr) (L c:Nat) (bs:List UInt8) (hl:LimB b ss) (hb:b<=100000) (hbl:(bytesSS ss).length<=9000000) (hL:L=bs.length) (hL1:L<=6000000) (hA:HasA w w.heap.size A bs):
 Calls Tryz.prog 32 #[.pointer (some ⟨Rs,0,none⟩),.slice A L c] w fun e W'=>∃v n,e=.returned v/\W'.ownsRow w.heap.size 5 1 v n ((bs++bytesSS ss).map enc)/\Below w.heap.size w W':=by
 obtain ⟨_,_,_,h2,_,_⟩:=h.ex;exact plS_putB A L c bs h2 hl hb hbl hL hL1 hA
end
end Go.Proofs.YtfjmdkhemnmkpaaGreatDoor
namespace Go.Proofs.YtfjmdkhemnmkpaaGreatDoor
open Go.RowKit
structure AM where
 ps:List PV
 ss:List SE
 n:Nat
noncomputable def doA (a:AM) (m:CM):AM × (Nat × ByteArray) × Bool:=
 if m.cl=0 then (a,(2,⟨#[]⟩),false)
 else if (tellS a.ss m.cl m.sq).2=0 then (⟨(doP a.ps m).1,keepS a.ss m.cl m.sq (doP a.ps m).2.1 (doP a.ps m).2.2,a.n+1⟩,(doP a.ps m).2,true)
 else (a,(tellS a.ss m.cl m.sq).1,false)
def bytesA (a:AM):List UInt8:=vb a.n++bytesP a.ps++bytesSS a.ss
structure LimA (a:AM):Prop where
 p:LimP a.ps
 s:LimB 100000 a.ss
 n:a.n<=1000000
/- The known commands. -/
abbrev xK1:ByteArray:=⟨#[49]⟩
abbrev xK2:ByteArray:=⟨#[50]⟩
def xm (sq kd:Nat) (n:Int):CM:=⟨1,sq,kd,[kA],kE,kE,n⟩
theorem xdec1:decI 1=[49]:=by
 unfold decI;rw [if_neg (by decide),show Int.toNat 1=1 from rfl,decN_lt (by decide)]
 rfl
theorem xdec2:decI 2=[50]:=by
 unfold decI;rw [if_neg (by decide),show Int.toNat 2=2 from rfl,decN_lt (by decide)]
 rfl
theorem xnum1:numM xK1.data.toList=some 1:=by
 have:xK1.data.toList=[49]:=rfl;rw [this,numM,if_neg (by decide),numD,if_neg (by unfold badD;decide),if_neg (by decide),if_neg (by decide),if_pos (by decide)]
 rfl
end Go.Proofs.YtfjmdkhemnmkpaaGreatDoor
