/- Parts of the proof: KvLimM, KsM, KsGm, WvM, AxLim, KtB0, KqU0, KtC0, AqF. -/
import Derived.Test.YtfjmdkhemnmkpaaGreatDoorR04
import Derived.Test.YtfjmdkhemnmkpaaGreatDoorR03
import Derived.Test.YtfjmdkhemnmkpaaGreatDoorR12
import Derived.Test.YtfjmdkhemnmkpaaGreatDoorR08
import Derived.Deep.QuietTactic
import Derived.BigQuiet
import Derived.Handy
import Derived.LoopTactic
import Derived.Carry
import Derived.Test.YtfjmdkhemnmkpaaGreatDoorR13
set_option maxRecDepth 100000
set_option maxHeartbeats 8000000
namespace Go.Proofs.YtfjmdkhemnmkpaaGreatDoor
open Go.RowKit
structure LimN (N:Nat) (l:List PV):Prop where
 len:l.length<=N
 each:∀p∈l,p.1.size<=1000/\p.2.size<=1000
theorem LimN.lim {N:Nat} {l:List PV} (h:LimN N l) (hN:N<=5000):LimP l:=⟨nLt h.len hN,h.each⟩
theorem LimN.nil:LimN 0 []:=⟨by simp,fun p hp=>by cases hp⟩
theorem LimN.more {N M:Nat} {l:List PV} (h:LimN N l) (hN:N<=M):LimN M l:=⟨nLt h.len hN,h.each⟩
theorem LimN.without {N:Nat} {l:List PV} (h:LimN N l) (k:ByteArray):LimN N (withoutP l k):=⟨nLt (withoutP_len l k) h.len,fun p hp=>h.each p (List.mem_filter.1 hp).1⟩
theorem LimN.with_ {N:Nat} {l:List PV} (h:LimN N l) {k v:ByteArray} (hk:k.size<=1000) (hv:v.size<=1000):LimN (N+1) (withP l k v):=by
 refine ⟨by have:=withP_len l k v;have:=h.len;omega,fun p hp=>?_⟩;unfold withP at hp
 rcases List.mem_append.1 hp with hp|hp
 ·exact h.each p (List.mem_filter.1 (List.mem_of_mem_take hp)).1
 ·rcases List.mem_cons.1 hp with rfl|hp
  ·exact ⟨hk,hv⟩
  ·exact h.each p (List.mem_filter.1 (List.mem_of_mem_drop hp)).1
theorem LimN.look {N:Nat} {l:List PV} (h:LimN N l) {k v:ByteArray} (hv:lookP l k=some v):v.size<=1000:=(h.each _ (lookP_mem hv)).2
theorem LimN.put {N:Nat} {l:List PV} (h:LimN N l) {k:ByteArray} {v:Option ByteArray} (hk:k.size<=1000) (hv:∀u,v=some u->u.size<=1000):LimN (N+1) (putP l k v):=by
 cases v with
 |none=>exact h.more (Nat.le_succ _)
 |some u=>exact h.with_ hk (hv u rfl)
theorem LimN.rest {N:Nat} {l:List PV} (h:LimN N l) (ks:List ByteArray):LimN N (restP l ks):=by
 unfold restP
 induction ks generalizing l with
 |nil=>exact h
 |cons k ks ih=>exact ih (h.without k)
theorem LimN.doP {N:Nat} {l:List PV} (h:LimN N l) (m:CM):LimN (N+2) (doP l m).1:=by
 cases hm:m.may with
 |false=>unfold Go.Proofs.YtfjmdkhemnmkpaaGreatDoor.doP;rw [if_pos hm];exact h.more (by omega)
 |true=>
  have hM:=CM.may_iff.1 hm;have hk0:(keyP m.ks 0).size<=1000:=by have:=(hM.each _ (may_key hm)).2;omega
  have hnew:m.new.size<=1000:=by have:=hM.new;omega
  rcases may_kinds hm with k|k|k|k|k|k|k|k
  ·rw [doP_put hm k rfl];exact (h.with_ hk0 hnew).more (by omega)
  ·cases hl:lookP l (keyP m.ks 0) with
   |none=>rw [doP_get0 hm k rfl hl];exact h.more (by omega)
   |some u=>rw [doP_get1 hm k rfl hl];exact h.more (by omega)
  ·cases hl:lookP l (keyP m.ks 0) with
   |none=>rw [doP_del0 hm k rfl hl];exact h.more (by omega)
   |some u=>rw [doP_del1 hm k rfl hl];exact (h.without _).more (by omega)
  ·rw [doP_add hm k rfl];unfold addP
   cases hs:sumP l (keyP m.ks 0) m.n with
   |none=>exact h.more (by omega)
   |some s=>
    refine (h.with_ hk0 ?_).more (by omega)
    have hr: -9223372036854775808<=s/\s<=9223372036854775807:=by
     unfold sumP at hs
     split at hs
     ·cases hs
     ·split at hs
      ·rename_i h'
       cases hs;exact h'
      ·cases hs
    rw [str_size];have:=decI_len hr.1 hr.2;omega
  ·cases hl:lookP l (keyP m.ks 0) with
   |none=>rw [doP_cas0 hm k rfl hl];exact h.more (by omega)
   |some u=>
    by_cases ho:u=m.old
    ·rw [doP_cas2 hm k rfl hl ho];exact (h.with_ hk0 hnew).more (by omega)
    ·rw [doP_cas1 hm k rfl hl ho];exact h.more (by omega)
  ·rw [doP_swap hm k rfl rfl];have hk1:(keyP m.ks 1).size<=1000:=by have:=(hM.each _ (may_key1 hm k)).2;omega
   unfold swapP;exact (((h.without _).without _).put hk0 (fun u hu=>h.look hu)).put hk1 (fun u hu=>h.look hu)
  ·rw [doP_join hm k];exact h.more (by omega)
  ·rw [doP_clear hm k];exact (h.rest _).more (by omega)
end Go.Proofs.YtfjmdkhemnmkpaaGreatDoor
namespace Go.Proofs.YtfjmdkhemnmkpaaGreatDoor
def loneM (m:CM):Bool:=decide (4<(touchK m.ks).length)
def wayM (a b:CM):Bool:=loneM a||loneM b||decide (a.cl=b.cl)||a.ks.any fun k=>b.ks.any fun j=>decide (k=j)
def nextW (acc:List (CM × Nat)) (m:CM):Nat:=acc.foldl (fun w p=>if wayM p.1 m=true then max w (p.2+1) else w) 0
def wavesM (l:List CM):List (CM × Nat):=l.foldl (fun acc m=>acc++[(m,nextW acc m)]) []
theorem foldW_ge (m:CM):∀(acc:List (CM × Nat)) (w:Nat),w<=acc.foldl (fun w p=>if wayM p.1 m=true then max w (p.2+1) else w) w
 |[],w=>nLr _
 |p::acc,w=>by
  simp only [List.foldl_cons];refine nLt ?_ (foldW_ge m acc _)
  split<;>omega
theorem fold_mem (m:CM):∀(acc:List (CM × Nat)) (w:Nat) (p:CM × Nat),p∈acc->wayM p.1 m=true->p.2+1<=acc.foldl (fun w p=>if wayM p.1 m=true then max w (p.2+1) else w) w
 |[],_,_,h,_=>by cases h
 |q::acc,w,p,h,hw=>by
  simp only [List.foldl_cons]
  rcases List.mem_cons.1 h with rfl|h
  ·refine nLt ?_ (foldW_ge m acc _);rw [if_pos hw];omega
  ·exact fold_mem m acc _ p h hw
theorem fold_is (m:CM):∀(acc:List (CM × Nat)) (w:Nat),acc.foldl (fun w p=>if wayM p.1 m=true then max w (p.2+1) else w) w=w\/∃p∈acc,wayM p.1 m=true/\acc.foldl (fun w p=>if wayM p.1 m=true then max w (p.2+1) else w) w=p.2+1
 |[],w=>.inl rfl
 |q::acc,w=>by
  simp only [List.foldl_cons]
  rcases fold_is m acc (if wayM q.1 m=true then max w (q.2+1) else w) with h|⟨p,hp,h1,h2⟩
  ·rw [h]
   by_cases hq:wayM q.1 m=true
   ·rw [if_pos hq]
    by_cases hm:q.2+1<=w
    ·exact .inl (by omega)
    ·exact .inr ⟨q,List.mem_cons_self ..,hq,by omega⟩
   ·rw [if_neg hq];exact .inl rfl
  ·exact .inr ⟨p,List.mem_cons_of_mem _ hp,h1,h2⟩
theorem wavesM_succ {l:List CM} {j:Nat} (h:j<l.length):wavesM (l.take (j+1))=wavesM (l.take j)++[(l[j],nextW (wavesM (l.take j)) l[j])]:=by
 unfold wavesM;rw [List.take_succ_eq_append_getElem h,List.foldl_append]
 rfl
theorem wavesM_map:∀(n:Nat) (l:List CM),n<=l.length->(wavesM (l.take n)).map (·.1)=l.take n
 |0,l,_=>by simp [wavesM]
 |n+1,l,h=>by
  rw [wavesM_succ (by omega),List.map_append,wavesM_map n l (by omega),List.take_succ_eq_append_getElem (by omega)]
  rfl
theorem wavesM_len (l:List CM):(wavesM l).length=l.length:=by
 have:=congrArg List.length (wavesM_map l.length l (nLr _))
 simpa using this
def waveI (l:List CM) (i:Nat):Nat:=((wavesM l)[i]?.map (·.2)).getD 0
theorem wavesM_prefix (l:List CM):∀(n:Nat),n<=l.length->wavesM l=wavesM (l.take n)++(wavesM l).drop n:=by
 intro n hn
 have key:∀d,n+d<=l.length->∃r,wavesM (l.take (n+d))=wavesM (l.take n)++r:=by
  intro d
  induction d with
  |zero=>intro _;exact ⟨[],by simp⟩
  |succ d ih=>
   intro hd;obtain ⟨r,hr⟩:=ih (by omega);refine ⟨r++[(l[n+d]'(by omega),nextW (wavesM (l.take (n+d))) (l[n+d]'(by omega)))],?_⟩;rw [show n+(d+1)=n+d+1 from rfl,wavesM_succ (by omega),hr,List.append_assoc]
 obtain ⟨r,hr⟩:=key (l.length - n) (by omega);rw [show n+(l.length - n)=l.length by omega,List.take_length] at hr;have hlen:(wavesM (l.take n)).length=n:=by rw [wavesM_len];simp;omega
 rw [hr,List.drop_left' hlen]
theorem wavesM_at {l:List CM} {i:Nat} (h:i<l.length):(wavesM l)[i]?=some (l[i],nextW (wavesM (l.take i)) l[i]):=by
 rw [wavesM_prefix l (i+1) (by omega),List.getElem?_append_left (by rw [wavesM_len];simp;omega),wavesM_succ h];have hlen:(wavesM (l.take i)).length=i:=by rw [wavesM_len];simp;omega
 rw [List.getElem?_append_right (by omega),hlen];simp
theorem waveI_at {l:List CM} {i:Nat} (h:i<l.length):waveI l i=nextW (wavesM (l.take i)) l[i]:=by
 rw [waveI,wavesM_at h]
 rfl
theorem take_mem {l:List CM} {i k:Nat} (hk:k<i) (hi:i<l.length):(l[k],waveI l k)∈wavesM (l.take i):=by
 have hlen:(wavesM (l.take i)).length=i:=by rw [wavesM_len];simp;omega
 have h1:=wavesM_at (l:=l) (i:=k) (by omega);rw [wavesM_prefix l i (by omega),List.getElem?_append_left (by omega)] at h1;rw [waveI_at (by omega)];exact List.mem_of_getElem? h1
theorem wave_lt {l:List CM} {i k:Nat} (hk:k<i) (hi:i<l.length) (h:wayM (l[k]) l[i]=true):waveI l k<waveI l i:=by
 rw [waveI_at hi];exact fold_mem _ _ 0 _ (take_mem hk hi) h
theorem wave_prev {l:List CM} {i:Nat} (hi:i<l.length) (h:0<waveI l i):∃k,k<i/\waveI l k+1=waveI l i:=by
 rw [waveI_at hi] at h ⊢
 rcases fold_is l[i] (wavesM (l.take i)) 0 with e|⟨p,hp,_,e⟩
 ·unfold nextW at h;omega
 ·obtain ⟨k,hk,rfl⟩:=List.mem_iff_getElem.1 hp;have hlen:(wavesM (l.take i)).length=i:=by rw [wavesM_len];simp;omega
  refine ⟨k,by omega,?_⟩;have h1:=wavesM_at (l:=l) (i:=k) (by omega);rw [wavesM_prefix l i (by omega),List.getElem?_append_left (by omega),List.getElem?_eq_getElem hk] at h1;have h2:((wavesM (l.take i))[k]).2=nextW (wavesM (l.take k)) (l[k]'(by omega)):=congrArg Prod.snd (osI h1);rw [waveI_at (l:=l) (i:=k) (by omega),<-h2];exact e.symm
theorem wave_below {l:List CM}:∀(n i:Nat),i<l.length->waveI l i=n->∀v,v<=n->∃k,k<=i/\waveI l k=v
 |0,i,hi,h,v,hv=>⟨i,nLr _,by omega⟩
 |n+1,i,hi,h,v,hv=>by
  by_cases he:v=n+1
  ·exact ⟨i,nLr _,by omega⟩
  ·obtain ⟨k,hk,e⟩:=wave_prev hi (by omega);obtain ⟨k',h1,h2⟩:=wave_below (l:=l) n k (by omega) (by omega) v (by omega);exact ⟨k',by omega,h2⟩
theorem waveI_le {l:List CM}:∀(i:Nat),i<l.length->waveI l i<=i:=by
 intro i
 induction i using Nat.strongRecOn with
 |_ i ih=>
  intro hi
  rcases Nat.eq_zero_or_pos (waveI l i) with h|h
  ·omega
  ·obtain ⟨k,hk,e⟩:=wave_prev hi h;have:=ih k hk (by omega);omega
def topW (l:List CM):Nat->Int
 |0=> -1
 |n+1=>max (topW l n) (waveI l n:Int)
theorem topW_ge (l:List CM):∀(n i:Nat),i<n->(waveI l i:Int)<=topW l n
 |0,i,h=>by omega
 |n+1,i,h=>by
  simp only [topW]
  by_cases e:i=n
  ·subst e;omega
  ·have:=topW_ge l n i (by omega);omega
theorem topW_lo (l:List CM):∀n, -1<=topW l n
 |0=>by simp [topW]
 |n+1=>by have:=topW_lo l n;simp only [topW];omega
theorem topW_is (l:List CM):∀(n:Nat),n<=l.length->∀v:Nat,(v:Int)<=topW l n->∃k,k<n/\waveI l k=v
 |0,_,v,h=>by simp only [topW] at h;omega
 |n+1,hn,v,h=>by
  simp only [topW] at h
  by_cases hv:(v:Int)<=topW l n
  ·obtain ⟨k,h1,h2⟩:=topW_is l n (by omega) v hv;exact ⟨k,by omega,h2⟩
  ·obtain ⟨k,h1,h2⟩:=wave_below (l:=l) (waveI l n) n (by omega) rfl v (by omega);exact ⟨k,by omega,h2⟩
def numW (l:List CM):Nat:=(topW l l.length+1).toNat
def groupsM (l:List CM):List (List Nat):=(List.range (numW l)).map fun w=>(List.range l.length).filter fun i=>decide (waveI l i=w)
theorem filter_or_perm (p q:Nat->Bool) (hpq:∀x,¬(p x=true/\q x=true)):∀l:List Nat,(l.filter p++l.filter q).Perm (l.filter fun x=>p x||q x)
 |[]=>List.Perm.refl _
 |x::l=>by
  have ih:=filter_or_perm p q hpq l
  cases hp:p x with
  |true=>
   have hq:q x=false:=by cases hq:q x with|false=>rfl|true=>exact absurd ⟨hp,hq⟩ (hpq x)
   simp only [List.filter_cons,hp,hq,if_true,Bool.or_false,List.cons_append];exact ih.cons x
  |false=>
   cases hq:q x with
   |true=>
    simp only [List.filter_cons,hp,hq,if_true,Bool.false_or];exact List.perm_middle.trans (ih.cons x)
   |false=>simpa [List.filter_cons,hp,hq] using ih
theorem groups_below (l:List CM):∀n,(((List.range n).map fun w=>(List.range l.length).filter fun i=>decide (waveI l i=w)).flatten).Perm ((List.range l.length).filter fun i=>decide (waveI l i<n))
 |0=>by simp
 |n+1=>by
  rw [List.range_succ,List.map_append,List.flatten_append];have ih:=groups_below l n;have h2:=filter_or_perm (fun i=>decide (waveI l i<n)) (fun i=>decide (waveI l i=n)) (fun x h=>by simp at h;omega) (List.range l.length)
  have e:(fun i=>decide (waveI l i<n)||decide (waveI l i=n))=fun i=>decide (waveI l i<n+1):=by
   funext i
   by_cases h:waveI l i<n
   ·have h':waveI l i<n+1:=by omega
    simp [h,h']
   ·by_cases h':waveI l i=n
    ·simp [h']
    ·have h3:¬waveI l i<n+1:=by omega
     simp [h,h',h3]
  rw [e] at h2;refine List.Perm.trans ?_ h2;refine ih.append ?_;simp
theorem wave_num {l:List CM} {i:Nat} (h:i<l.length):waveI l i<numW l:=by
 have:=topW_ge l l.length i h;unfold numW;omega
theorem groups_perm (l:List CM):(groupsM l).flatten.Perm (List.range l.length):=by
 have h:=groups_below l (numW l)
 rwa [List.filter_eq_self.2 (fun i hi=>by simpa using wave_num (List.mem_range.1 hi))] at h
theorem groups_wave (l:List CM) (k:Nat) (g:List Nat) (h:(groupsM l)[k]?=some g):∀i∈g,waveI l i=0+k:=by
 unfold groupsM at h;rw [List.getElem?_map] at h
 cases hk:(List.range (numW l))[k]? with
 |none=>rw [hk] at h;cases h
 |some w=>
  rw [hk] at h
  have hw:w=k:=by
   have h1:=(List.getElem?_eq_some_iff.1 hk);obtain ⟨h1,h2⟩:=h1;rw [List.getElem_range] at h2;exact h2.symm
  cases h
  intro i hi;have:=(List.mem_filter.1 hi).2;simp at this;omega
theorem groups_len (l:List CM):(groupsM l).length=numW l:=by rw [groupsM,List.length_map,List.length_range]
theorem groups_get (l:List CM) {w:Nat} (h:w<(groupsM l).length):(groupsM l)[w]=(List.range l.length).filter fun i=>decide (waveI l i=w):=by
 simp [groupsM]
def apartM (a b:CM):Prop:=a.cl≠b.cl/\∀k∈a.ks,k∉b.ks
theorem apartM.symm {a b:CM} (h:apartM a b):apartM b a:=⟨Ne.symm h.1,fun k hk hk'=>h.2 k hk' hk⟩
theorem apart_of_way {a b:CM} (h:wayM a b=false):apartM a b:=by
 unfold wayM at h;simp only [Bool.or_eq_false_iff,decide_eq_false_iff_not,List.any_eq_false] at h;exact ⟨h.1.2,fun k hk hk'=>h.2 k hk (List.any_eq_true.2 ⟨k,hk',by simp⟩)⟩
structure SortedA (a:AM):Prop where
 p:SortedP a.ps
 s:SortedE a.ss
theorem SortedA.empty:SortedA ⟨[],[],0⟩:=⟨SortedP.nil,SortedE.nil⟩
def freshA (a:AM) (m:CM):Prop:=m.cl≠0/\(tellS a.ss m.cl m.sq).2=0
theorem doA_yes {a:AM} {m:CM} (h:freshA a m):doA a m=(⟨(doP a.ps m).1,keepS a.ss m.cl m.sq (doP a.ps m).2.1 (doP a.ps m).2.2,a.n+1⟩,(doP a.ps m).2,true):=by
 unfold doA;rw [if_neg h.1,if_pos h.2]
noncomputable def toldA (ss:List SE) (m:CM):(Nat × ByteArray) × Bool:=if m.cl=0 then ((2,⟨#[]⟩),false) else ((tellS ss m.cl m.sq).1,false)
theorem doA_no {a:AM} {m:CM} (h:¬freshA a m):doA a m=(a,toldA a.ss m):=by
 unfold doA toldA
 by_cases h0:m.cl=0
 ·rw [if_pos h0,if_pos h0]
 ·rw [if_neg h0,if_neg h0,if_neg (fun h1=>h ⟨h0,h1⟩)]
theorem SortedA.do {a:AM} (h:SortedA a) (m:CM):SortedA (doA a m).1:=by
 by_cases hf:freshA a m
 ·rw [doA_yes hf];exact ⟨doP_sorted h.p m,keepS_sorted h.s _ _ _ _⟩
 ·rw [doA_no hf];exact h
theorem tell_other {a:AM} {x y:CM} (h:y.cl≠x.cl):tellS (doA a x).1.ss y.cl y.sq=tellS a.ss y.cl y.sq:=by
 by_cases hf:freshA a x
 ·rw [doA_yes hf];exact tellS_keep h
 ·rw [doA_no hf]
theorem fresh_other {a:AM} {x y:CM} (h:y.cl≠x.cl):freshA (doA a x).1 y<->freshA a y:=by
 unfold freshA;rw [tell_other h]
theorem told_other {a:AM} {x y:CM} (h:y.cl≠x.cl):toldA (doA a x).1.ss y=toldA a.ss y:=by
 unfold toldA;rw [tell_other h]
theorem doA_apart {a:AM} (ha:SortedA a) {x y:CM} (h:apartM x y):(doA (doA a x).1 y).1=(doA (doA a y).1 x).1/\(doA (doA a y).1 x).2=(doA a x).2/\(doA (doA a x).1 y).2=(doA a y).2:=by
 have hxy:y.cl≠x.cl:=Ne.symm h.1;have hyx:x.cl≠y.cl:=h.1;obtain ⟨e1,e2,e3⟩:=doP_apart ha.p h.2
 by_cases hx:freshA a x
 ·by_cases hy:freshA a y
  ·have hy':=(fresh_other (x:=x) hxy).2 hy;have hx':=(fresh_other (x:=y) hyx).2 hx;rw [doA_yes hy',doA_yes hx',doA_yes hx,doA_yes hy];simp only;refine ⟨?_,?_,?_⟩
   ·rw [e1,e3,<-e2,keepS_comm ha.s hyx]
   ·rw [e2]
   ·rw [e3]
  ·have hy':¬freshA (doA a x).1 y:=fun hc=>hy ((fresh_other hxy).1 hc)
   rw [doA_no hy',doA_no hy,told_other hxy];exact ⟨rfl,rfl,rfl⟩
 ·have hx':¬freshA (doA a y).1 x:=fun hc=>hx ((fresh_other hyx).1 hc)
  rw [doA_no hx',doA_no hx,told_other hyx];exact ⟨rfl,rfl,rfl⟩
noncomputable def runO (f:Nat->CM):List Nat->AM->AM × (Nat->Option ((Nat × ByteArray) × Bool))
 |[],a=>(a,fun _=>none)
 |i::l,a=>((runO f l (doA a (f i)).1).1,fun j=>if j=i then some (doA a (f i)).2 else (runO f l (doA a (f i)).1).2 j)
def EqvO (f:Nat->CM) (l m:List Nat):Prop:=∀a,SortedA a->runO f l a=runO f m a
theorem EqvO.refl (f:Nat->CM) (l:List Nat):EqvO f l l:=fun _ _=>rfl
theorem EqvO.trans {f:Nat->CM} {l m n:List Nat} (h:EqvO f l m) (k:EqvO f m n):EqvO f l n:=fun a ha=>(h a ha).trans (k a ha)
theorem EqvO.cons {f:Nat->CM} {l m:List Nat} (h:EqvO f l m) (i:Nat):EqvO f (i::l) (i::m):=fun a ha=>by
 show ((runO f l _).1,_)=((runO f m _).1,_);rw [h _ (ha.do (f i))]
theorem EqvO.swap {f:Nat->CM} {i j:Nat} (hij:i≠j) (h:apartM (f i) (f j)) (l:List Nat):EqvO f (i::j::l) (j::i::l):=fun a ha=>by
 obtain ⟨e1,e2,e3⟩:=doA_apart ha h;show ((runO f l (doA (doA a (f i)).1 (f j)).1).1,_)=((runO f l (doA (doA a (f j)).1 (f i)).1).1,_);rw [e1];refine Prod.ext rfl (funext fun k=>?_);show (if k=i then some (doA a (f i)).2 else if k=j then some (doA (doA a (f i)).1 (f j)).2 else (runO f l (doA (doA a (f i)).1 (f j)).1).2 k)=(if k=j then some (doA a (f j)).2 else if k=i then some (doA (doA a (f j)).1 (f i)).2 else (runO f l (doA (doA a (f j)).1 (f i)).1).2 k);rw [e1,e2,e3]
 by_cases hi:k=i
 ·rw [if_pos hi,if_neg (by omega),if_pos hi]
 ·by_cases hj:k=j
  ·rw [if_neg hi,if_pos hj,if_pos hj]
  ·rw [if_neg hi,if_neg hj,if_neg hj,if_neg hi]
theorem EqvO.first {f:Nat->CM} {x:Nat}:∀(l r:List Nat),(∀y∈l,y≠x/\apartM (f y) (f x))->EqvO f (l++x::r) (x::(l++r))
 |[],r,_=>EqvO.refl _ _
 |y::l,r,h=>by
  have hy:=h y (List.mem_cons_self ..);exact ((EqvO.first l r fun z hz=>h z (List.mem_cons_of_mem _ hz)).cons y).trans (EqvO.swap hy.1 hy.2 _)
theorem order_same {f:Nat->CM} {wv:Nat->Nat}:∀(m l:List Nat),m.Pairwise (·<·)->l.Perm m->l.Pairwise (fun i j=>wv i<=wv j)->(∀i∈m,∀j∈m,i<j->¬apartM (f i) (f j)->wv i<wv j)->EqvO f l m
 |[],l,_,hp,_,_=>by rw [hp.eq_nil];exact EqvO.refl _ _
 |x::m,l,hm,hp,hl,hw=>by
  obtain ⟨hm1,hm2⟩:=List.pairwise_cons.1 hm;have hx:x∈l:=hp.mem_iff.2 (List.mem_cons_self ..);obtain ⟨s,t,rfl⟩:=List.append_of_mem hx;have hp2:(s++t).Perm m:=(List.perm_middle.symm.trans hp).cons_inv;obtain ⟨hs,ht,hst⟩:=List.pairwise_append.1 hl;obtain ⟨ht1,ht2⟩:=List.pairwise_cons.1 ht;have hne:∀y∈s++t,x<y:=fun y hy=>hm1 y (hp2.mem_iff.1 hy)
  refine (EqvO.first s t fun y hy=>?_).trans (EqvO.cons (order_same m (s++t) hm2 hp2 (List.pairwise_append.2 ⟨hs,ht2,fun i hi j hj=>hst i hi j (List.mem_cons_of_mem _ hj)⟩) fun i hi j hj=>hw i (List.mem_cons_of_mem _ hi) j (List.mem_cons_of_mem _ hj)) x);have hxy:=hne y (List.mem_append.2 (.inl hy));refine ⟨by omega,Classical.byContradiction fun hc=>?_⟩;have h1:=hw x (List.mem_cons_self ..) y (List.mem_cons_of_mem _ (hp2.mem_iff.1 (List.mem_append.2 (.inl hy)))) hxy (fun k=>hc k.symm);have h2:=hst y hy x (List.mem_cons_self ..);omega
noncomputable def oneO (l:List CM) (a:AM):AM:=l.foldl (fun a m=>(doA a m).1) a
theorem SortedA.one {a:AM} (h:SortedA a):∀l:List CM,SortedA (oneO l a):=fun l=>by
 induction l generalizing a with
 |nil=>exact h
 |cons m l ih=>exact ih (h.do m)
def orderG (pk:Nat->Nat->Int):Nat->Nat->List Nat->List Nat
 |0,_,_=>[]
 |_+1,_,[]=>[]
 |n+1,k,x::l=>((x::l)[(pk k (x::l).length%((x::l).length:Int)).toNat]?.getD 0)::orderG pk n (k+1) ((x::l).eraseIdx (pk k (x::l).length%((x::l).length:Int)).toNat)
theorem pick_lt (p:Int) {n:Nat} (h:0<n):(p%(n:Int)).toNat<n:=by
 have h1:=Int.emod_nonneg p (show (n:Int)≠0 by omega);have h2:=Int.emod_lt_of_pos p (show 0<(n:Int) by omega);omega
theorem erase_perm:∀(l:List Nat) (i:Nat) (h:i<l.length),(l[i]::l.eraseIdx i).Perm l
 |x::l,0,_=>List.Perm.refl _
 |x::l,i+1,h=>by
  have h':i<l.length:=by simpa using h
  show (l[i]::x::l.eraseIdx i).Perm (x::l);exact (List.Perm.swap x l[i] _).trans ((erase_perm l i h').cons x)
theorem orderG_perm (pk:Nat->Nat->Int):∀(n k:Nat) (l:List Nat),l.length<=n->(orderG pk n k l).Perm l
 |0,k,l,h=>by rw [List.length_eq_zero_iff.1 (Nat.le_zero.1 h)];exact List.Perm.refl _
 |n+1,k,[],_=>List.Perm.refl _
 |n+1,k,x::l,h=>by
  have hi:=pick_lt (pk k (x::l).length) (n:=(x::l).length) (by simp)
  have hl:((x::l).eraseIdx (pk k (x::l).length%((x::l).length:Int)).toNat).length<=n:=by
   rw [List.length_eraseIdx_of_lt hi];simp only [List.length_cons] at h ⊢;omega
  show (_::orderG pk n (k+1) _).Perm _;rw [List.getElem?_eq_getElem hi,Option.getD_some];exact ((orderG_perm pk n (k+1) _ hl).cons _).trans (erase_perm _ _ hi)
def orderW (pk:Nat->Nat->Nat->Int):Nat->List (List Nat)->List Nat
 |_,[]=>[]
 |w,g::gs=>orderG (pk w) g.length 0 g++orderW pk (w+1) gs
theorem orderW_perm (pk:Nat->Nat->Nat->Int):∀(w:Nat) (gs:List (List Nat)),(orderW pk w gs).Perm gs.flatten
 |_,[]=>List.Perm.refl _
 |w,g::gs=>by
  show (orderG (pk w) g.length 0 g++orderW pk (w+1) gs).Perm _;rw [List.flatten_cons];exact (orderG_perm _ _ _ _ (nLr _)).append (orderW_perm pk (w+1) gs)
theorem orderW_waves (pk:Nat->Nat->Nat->Int) (wv:Nat->Nat):∀(w:Nat) (gs:List (List Nat)),(∀(k:Nat) (g:List Nat),gs[k]?=some g->∀i∈g,wv i=w+k)->(orderW pk w gs).Pairwise (fun i j=>wv i<=wv j)
 |_,[],_=>List.Pairwise.nil
 |w,g::gs,h=>by
  have h0:∀i∈orderG (pk w) g.length 0 g,wv i=w:=fun i hi=>by
   have:=h 0 g rfl i ((orderG_perm _ _ _ _ (nLr _)).mem_iff.1 hi);omega
  have hs:∀(k:Nat) (g':List Nat),gs[k]?=some g'->∀i∈g',wv i=w+1+k:=fun k g' hg i hi=>by
   have:=h (k+1) g' (by simpa using hg) i hi;omega
  have h1:∀i∈orderW pk (w+1) gs,w+1<=wv i:=fun i hi=>by
   obtain ⟨g',hg',hi'⟩:=List.mem_flatten.1 ((orderW_perm pk (w+1) gs).mem_iff.1 hi);obtain ⟨k,hk⟩:=List.mem_iff_getElem?.1 hg';have:=hs k g' hk i hi';omega
  show (orderG (pk w) g.length 0 g++orderW pk (w+1) gs).Pairwise _;refine List.pairwise_append.2 ⟨?_,orderW_waves pk wv (w+1) gs hs,fun i hi j hj=>by have:=h0 i hi;have:=h1 j hj;omega⟩;refine List.Pairwise.imp_of_mem (fun {i j} hi hj _=>by have:=h0 i hi;have:=h0 j hj;omega) (List.pairwise_of_forall (R:=fun _ _=>True) (fun _ _=>trivial))
def atM (l:List CM) (i:Nat):CM:=l[i]?.getD ⟨0,0,0,[],⟨#[]⟩,⟨#[]⟩,0⟩
theorem atM_get {l:List CM} {i:Nat} (h:i<l.length):atM l i=l[i]:=by rw [atM,List.getElem?_eq_getElem h,Option.getD_some]
def orderM (pk:Nat->Nat->Nat->Int) (l:List CM):List Nat:=orderW pk 0 (groupsM l)
theorem orderM_perm (pk:Nat->Nat->Nat->Int) (l:List CM):(orderM pk l).Perm (List.range l.length):=(orderW_perm pk 0 _).trans (groups_perm l)
theorem orderM_waves (pk:Nat->Nat->Nat->Int) (l:List CM):(orderM pk l).Pairwise (fun i j=>waveI l i<=waveI l j):=orderW_waves pk _ 0 _ (groups_wave l)
theorem orderM_same (pk:Nat->Nat->Nat->Int) (l:List CM):EqvO (atM l) (orderM pk l) (List.range l.length):=by
 refine order_same (wv:=waveI l) _ _ List.pairwise_lt_range (orderM_perm pk l) (orderM_waves pk l) fun i hi j hj hij hna=>?_
 have hj':=List.mem_range.1 hj;have hi':=List.mem_range.1 hi;refine wave_lt hij hj' ?_
 cases hw:wayM l[i] l[j] with
 |true=>rfl
 |false=>
  refine absurd (apart_of_way hw) ?_;rw [<-atM_get hi',<-atM_get hj'];exact hna
end Go.Proofs.YtfjmdkhemnmkpaaGreatDoor
namespace Go.Proofs.YtfjmdkhemnmkpaaGreatDoor
open Go.RowKit
theorem joinM_len {N:Nat} {l:List PV} (hl:LimN N l) (ks:List ByteArray):(joinP l ks).length<=ks.length*1001:=by
 unfold joinP
 induction ks with
 |nil=>simp
 |cons k ks ih=>
  have h1:((lookP l k).elim ([]:List UInt8) fun v=>v.data.toList).length<=1000:=by
   cases hk:lookP l k with
   |none=>simp
   |some v=>have:=hl.look hk;simpa using this
  simp only [List.flatMap_cons,List.length_append,List.length_cons,List.length_nil];omega
theorem repM_len {N:Nat} {l:List PV} (hl:LimN N l) (hN:N<=1000000) (m:CM):(doP l m).2.2.size<=20000/\(doP l m).2.1<=2:=by
 have h0:(⟨#[]⟩:ByteArray).size<=20000:=by decide
 have hlk:∀{k v},lookP l k=some v->v.size<=20000:=fun h=>by have:=hl.look h;omega
 cases hm:m.may with
 |false=>unfold doP;rw [if_pos hm];exact ⟨h0,by show 2<=2;decide⟩
 |true=>
  have hM:=CM.may_iff.1 hm
  rcases may_kinds hm with k|k|k|k|k|k|k|k
  ·rw [doP_put hm k rfl];exact ⟨h0,by show 0<=2;decide⟩
  ·cases hv:lookP l (keyP m.ks 0) with
   |none=>rw [doP_get0 hm k rfl hv];exact ⟨h0,by show 1<=2;decide⟩
   |some u=>rw [doP_get1 hm k rfl hv];exact ⟨hlk hv,by show 0<=2;decide⟩
  ·cases hv:lookP l (keyP m.ks 0) with
   |none=>rw [doP_del0 hm k rfl hv];exact ⟨h0,by show 1<=2;decide⟩
   |some u=>rw [doP_del1 hm k rfl hv];exact ⟨hlk hv,by show 0<=2;decide⟩
  ·rw [doP_add hm k rfl];unfold addP
   cases hs:sumP l (keyP m.ks 0) m.n with
   |none=>exact ⟨h0,by show 2<=2;decide⟩
   |some s=>
    have hr: -9223372036854775808<=s/\s<=9223372036854775807:=by
     unfold sumP at hs
     split at hs
     ·cases hs
     ·split at hs
      ·rename_i h'
       cases hs;exact h'
      ·cases hs
    refine ⟨?_,by show 0<=2;decide⟩;show (str (decI s)).size<=20000;rw [str_size];have:=decI_len hr.1 hr.2;omega
  ·cases hv:lookP l (keyP m.ks 0) with
   |none=>rw [doP_cas0 hm k rfl hv];exact ⟨h0,by show 1<=2;decide⟩
   |some u=>
    by_cases ho:u=m.old
    ·rw [doP_cas2 hm k rfl hv ho];exact ⟨h0,by show 0<=2;decide⟩
    ·rw [doP_cas1 hm k rfl hv ho];exact ⟨h0,by show 2<=2;decide⟩
  ·rw [doP_swap hm k rfl rfl];exact ⟨h0,by show 0<=2;decide⟩
  ·rw [doP_join hm k];refine ⟨?_,by show 0<=2;decide⟩;show (str (joinP l m.ks)).size<=20000;rw [str_size];have h1:=joinM_len hl m.ks;have h2:m.ks.length<=16:=by have h3:=hM.len.2;rw [k] at h3;exact nLt h3 (by decide)
   omega
  ·rw [doP_clear hm k];refine ⟨?_,by show 0<=2;decide⟩;have h1:=restP_len l m.ks;have h2:=hl.len;show (str (decI ((l.length:Int) - (restP l m.ks).length))).size<=20000;rw [str_size];have:=decI_len (n:=(l.length:Int) - (restP l m.ks).length) (by omega) (by omega);omega
structure LimAn (N:Nat) (a:AM):Prop where
 p:LimN (2*N) a.ps
 len:a.ss.length<=N
 each:∀e∈a.ss,e.cl<4294967296/\e.sq<4294967296/\e.cd<256/\e.tx.size<=20000
 n:a.n<=N
theorem LimAn.nil:LimAn 0 ⟨[],[],0⟩:=⟨LimN.nil,by simp,(fun e he=>by cases he),nLr _⟩
theorem LimAn.more {N M:Nat} {a:AM} (h:LimAn N a) (hN:N<=M):LimAn M a:=⟨h.p.more (by omega),nLt h.len hN,h.each,nLt h.n hN⟩
theorem LimAn.lim {N:Nat} {a:AM} (h:LimAn N a) (hN:N<=2000):LimA a:=⟨h.p.lim (by omega),⟨nLt h.len (by omega),fun e he=>by have:=h.each e he;omega⟩,nLt h.n (by omega)⟩
theorem LimAn.do {N:Nat} {a:AM} (h:LimAn N a) (hN:N<=2000) {m:CM} (hc:m.cl<4294967296) (hs:m.sq<4294967296):LimAn (N+1) (doA a m).1:=by
 by_cases hf:freshA a m
 ·rw [doA_yes hf];obtain ⟨r1,r2⟩:=repM_len h.p (by omega) m;refine ⟨(h.p.doP m).more (by omega),nLt (keepS_len _ _ _ _ _) (by have:=h.len;show _<=N+1;omega),fun e he=>?_,by have:=h.n;show a.n+1<=N+1;omega⟩;have he':e∈keepS a.ss m.cl m.sq (doP a.ps m).2.1 (doP a.ps m).2.2:=he;unfold keepS at he'
  split at he'
  ·rcases List.mem_append.1 he' with he'|he'
   ·exact h.each e (List.mem_filter.1 he').1
   ·rcases List.mem_cons.1 he' with rfl|he'
    ·exact ⟨hc,hs,by show (doP a.ps m).2.1<256;omega,r1⟩
    ·exact h.each e (List.mem_filter.1 he').1
  ·exact h.each e he'
 ·rw [doA_no hf];exact h.more (by omega)
theorem oneO_lim {N:Nat} {a:AM} (h:LimAn N a):∀(l:List CM),N+l.length<=2000->(∀m∈l,m.cl<4294967296/\m.sq<4294967296)->LimAn (N+l.length) (oneO l a):=fun l=>by
 induction l generalizing N a with
 |nil=>intro _ _;exact h
 |cons m l ih=>
  intro hN hl;have h1:=h.do (by simp only [List.length_cons] at hN;omega) (hl m (List.mem_cons_self ..)).1 (hl m (List.mem_cons_self ..)).2;have:=ih h1 (by simp only [List.length_cons] at hN;omega) (fun x hx=>hl x (List.mem_cons_of_mem _ hx));refine LimAn.more this ?_;simp only [List.length_cons];omega
def loneV (g:Nat):Value:=.func (.func 132) #[] #[.pointer (some ⟨g,0,none⟩)]
theorem more_any (w:World):Calls Tryz.prog 118 #[.int .i64 4] w fun e W'=>e=.returned (loneV w.heap.size)/\W'=w.alloc (.cells #[.int .i64 4] 3):=by
 have hmf:∀(fn:Fn) (first cap:Array Value) (w:World),(Instr.makeFunc fn first cap).run Tryz.prog w=.ok (.func fn first cap) w:=fun _ _ _ _=>rfl
 go_enter Tryz.func118,Tryz.ntmps118;go_wp2;go_ret;exact ⟨rfl,rfl⟩
theorem more1_any (g:Nat) (A:Option Addr) (L c:Nat) (hm:L<=1000000) (w:World) (hg:w.cell? ⟨g,0,none⟩=some (.int .i64 4)):
 Calls Tryz.prog 132 #[.slice A L c,.pointer (some ⟨g,0,none⟩)] w fun e W'=>e=.returned (.bool (decide (4<L)))/\W'=w:=by
 have hLi:(L:Int)<=1000000:=by omega
 by_cases h:4<L
 ·have hi:(4:Int)<L:=by omega
  rw [show decide (4<L)=true from decide_eq_true h];go_enter Tryz.func132,Tryz.ntmps132;go_wp2;go_ret;exact ⟨rfl,rfl⟩
 ·have hi:¬(4:Int)<L:=by omega
  rw [show decide (4<L)=false from decide_eq_false h];go_enter Tryz.func132,Tryz.ntmps132;go_wp2;go_ret;exact ⟨rfl,rfl⟩
end Go.Proofs.YtfjmdkhemnmkpaaGreatDoor
namespace Go.Proofs.YtfjmdkhemnmkpaaGreatDoor
open Go.Maps Go.RowKit Go.Shelf Go.Sort
def setD (l:List PV):DataW Unit:=.map (l.map fun p=>(litB p.1,.agg []))
theorem setD_del (l:List PV) (k:ByteArray):(setD l).del (litB k)=setD (withoutP l k):=by
 simp only [setD,DataW.del,withoutP]
 congr 1
 rw [List.filter_map]
 congr 1
 refine List.filter_congr fun p _=>?_
 simp [same_litB]
theorem insert_setD (k v:ByteArray):∀r:List PV,(∀p∈r,p.1≠k)->DataW.insert (litB k,(.agg []:DataW Unit)) (r.map fun p=>(litB p.1,.agg []))=(r.take (placeP r k)++(k,v)::r.drop (placeP r k)).map fun p=>(litB p.1,.agg [])
 |[],_=>rfl
 |p::r,h=>by
  have hp:=h p (List.mem_cons_self ..);have ih:=insert_setD k v r (fun q hq=>h q (List.mem_cons_of_mem _ hq));rw [List.map_cons,DataW.insert,before_litB]
  by_cases hl:ltB p.1 k=true
  ·have hk:ltB k p.1=false:=by
    cases hh:ltB k p.1
    ·rfl
    ·have:=ltB_trans hl hh;rw [ltB_irr] at this
     cases this
   have hpl:placeP (p::r) k=placeP r k+1:=by simp [placeP,hl]
   rw [hpl,if_neg (by rw [hk];decide),ih]
   rfl
  ·have hl':ltB p.1 k=false:=by simpa using hl
   have hk:=ltB_tot hp hl';have hpl:placeP (p::r) k=0:=by simp [placeP,hl']
   rw [hpl,if_pos hk]
   rfl
theorem setD_put (l:List PV) (k v:ByteArray):(setD l).put (litB k) (.agg [])=setD (withP l k v):=by
 have hd:=setD_del l k;simp only [setD,DataW.del,DataW.map.injEq] at hd;simp only [setD,DataW.put];rw [hd,insert_setD k v _ withoutP_ne]
 rfl
theorem setD_size (l:List PV):Maps.size (setD l)=l.length:=by simp [setD,size_eq]
theorem setD_keys (l:List PV):strKeys (setD l)=strKeys (mapD l):=by
 rw [mapD_keys];simp [setD,strKeys,strOf,litB]
def SetQ (w:World) (b n:Nat) (l:List PV):Prop:=w.ownsMap Tryz.prog 9 unitElem b n (setD l)
theorem SetQ.put {w:World} {b n:Nat} {l:List PV} (h:SetQ w b n l) (hn:n<maxLen) {k:ByteArray} (hk:k.size<=maxLen):∃w',(Instr.mapUpdate 203 (.map (some b)) (.string k) (.agg #[])).run Tryz.prog w=.ok () w'/\SetQ w' b (n+1) (withP l k ⟨#[]⟩)/\w.grownBy w' (some b):=by
 obtain ⟨w',hrun,h1,h2⟩:=World.ownsMap.update h keyedS Tryz.underlying203 hn (keyL hk) unitElem_mk;rw [setD_put _ _ ⟨#[]⟩] at h1;exact ⟨w',hrun,h1,h2⟩
def keysU (g:Nat):Value:=.func (.func 160) #[] #[.pointer (some ⟨g,0,none⟩)]
theorem keysU_any (b:Nat) (w:World):Calls Tryz.prog 133 #[.map (some b)] w fun e W'=>e=.returned (keysU w.heap.size)/\W'=w.alloc (.cells #[.map (some b)] 203):=
 (callsIn_wide (n:=5)).1 (lay_maps_Keys_133 (some b) w)
theorem sortedU_any {w:World} {b n:Nat} {l:List PV} (h:SetQ w b n l) (hs:SortedP l) (hl:l.length<=1000000):
 Calls Tryz.prog 84 #[keysU w.heap.size] (w.alloc (.cells #[.map (some b)] 203)) fun e W'=>∃v,e=.returned v/\OwnS w.heap.size W' v (l.map (·.1))/\Below w.heap.size w W':=by
 have hk:=lay_slices_Sorted_keys_84_133 b n (setD l) _ w h (by rw [setD_size];simp only [maxLen];omega) (by rw [setD_size];omega);refine ((callsIn_wide (n:=5)).1 hk).mono ?_;rintro e W' ⟨v,ss,rfl,hp,hrow,_,hb⟩;rw [setD_keys] at hp
 have hlen:ss.length=(l.map (·.1)).length:=by
  rw [hp.length_eq,mapD_keys,List.length_map,List.length_map]
 have hcells:=sorted_keys hs hp;have h0:Below w.heap.size w (w.alloc (.cells #[.map (some b)] 203)):=(Below.refl _ w).alloc (nLr _) _;refine ⟨v,rfl,?_,h0.trans (Below.mono hb h0.size)⟩;rw [hlen] at hrow
 have hrow2:OwnS (w.alloc (.cells #[.map (some b)] 203)).heap.size W' v (l.map (·.1)):=by
  unfold OwnS
  have e1:cellsS (l.map (·.1))=(ss.mergeSort fun x y=>decide (x<=y)).map encStr:=by
   rw [show (fun x y=>decide (x<=y))=Go.leB from rfl,hcells,cellsS,List.map_map]
   rfl
  rw [e1];exact hrow
 exact hrow2.mono h0.size
theorem touches_any (a:CmdV) (w:World) (ha:a.ok w) (hn:a.ks.length<=10000):Calls Tryz.prog 119 #[a.val] w fun e W'=>∃x,e=.returned x/\TxtS W' x (touchK a.ks)/\Below w.heap.size w W':=by
 obtain ⟨acl,asq,akd,KA,L,c,ks,old,new,n⟩:=a;simp only at hn;have HAS:=hiD ha.has;have HLN:Hid (L=ks.length):=hiD ha.len;have HEA:Hid (∀k∈ks,k.size<=maxLen):=hiD ha.each;have hLi:(L:Int)<=10000:=by have:=HLN.out;omega
 have HNN:=hiD hn;simp only [CmdV.val,CmdV.cells];clear ha hn;go_enter Tryz.func119,Tryz.ntmps119;go_upto_region 1 with (fail)
 obtain ⟨W0,hW0⟩:∃W0,W0=w.alloc (Obj.cells #[.int .u32 (acl:Int),.int .u32 (asq:Int),.int .u8 (akd:Int),.slice KA L c,.string old,.string new,.int .i64 n] 57):=⟨_,rfl⟩;rw [<-hW0];have hB0:Below w.heap.size w W0:=by rw [hW0];exact (Below.refl _ w).alloc (nLr _) _
 have k0:W0.heap[w.heap.size]?=some (.cells #[.int .u32 (acl:Int),.int .u32 (asq:Int),.int .u8 (akd:Int),.slice KA L c,.string old,.string new,.int .i64 n] 57 (0,0)):=by rw [hW0];exact wAh w _
 obtain ⟨p,hp⟩:∃p,p=w.heap.size:=⟨_,rfl⟩;rw [<-hp] at k0 ⊢;have hmk:=run_makeMap (P:=Tryz.prog) 203 W0;have h1:SetQ (W0.alloc (.map #[] 0)) W0.heap.size 0 []:=World.ownsMap_made W0 _ _ _;have hB1:Below W0.heap.size W0 (W0.alloc (.map #[] 0)):=(Below.refl _ W0).alloc (nLr _) _;have k1:=(hB1.block p (geS.1 k0).1).trans k0;have hwB:w.heap.size<=W0.heap.size:=hB0.size;have hp0:p<W0.heap.size:=(geS.1 k0).1;obtain ⟨b,hb⟩:∃b,b=W0.heap.size:=⟨_,rfl⟩;rw [<-hb] at h1 hmk hwB hp0;obtain ⟨W1,hW1⟩:∃W1,W1=W0.alloc (.map #[] 0):=⟨_,rfl⟩;rw [<-hW1] at h1 hB1 k1 hmk;have HB1:=hiD (aI (hB0.trans (Below.mono hB1 hB0.size)) (aI hwB hp0));have H1:=hiD h1;have z3:W1.cell? ⟨p,3,none⟩=some (.slice KA L c):=by simpa using blk_cell k1 3
 clear hW0 hB0 k0 hp hB1 k1 hb h1 hW1 hwB hp0;go_wp2
 go_loopw [10] (fun i wr=>∃j:Nat,j<=L/\i=.int .i64 (j:Int)/\Hid (SetQ wr b j (touchP (ks.take j)))/\Hid (Only (fun x=>x=b) W1 wr)) (fun i _=>L - (intOf i).toNat)
 case atStart=>exact ⟨0,Nat.zero_le _,rfl,H1,hiD (Only.refl _ _)⟩
 case round=>
  obtain ⟨j,hj,rfl,HS,HO⟩:=hrel
  by_cases hlt:j<L
  ·have hji:(j:Int)<L:=by omega
   have hj1:j<ks.length:=by have:=HLN.out;omega
   obtain ⟨kb,ko,e1,l1,f1⟩:=HAS.out (by rintro rfl;simp at hj1);subst e1;have g1:=f1 j hj1;obtain ⟨t,ht⟩:∃t,t=ks[j]:=⟨_,rfl⟩;rw [<-ht] at g1;have g2:wr.cell? ⟨kb,ko+j,none⟩=some (.string t):=(World.cell?_of_block (HO.out.block kb (nLl l1 HB1.out.1.size) (fun e=>by have:=HB1.out.2.1;omega))).trans ((HB1.out.1.cell (p:=⟨kb,ko+j,none⟩) l1).trans g1);have hts:t.size<=maxLen:=HEA.out t (by rw [ht];exact List.getElem_mem hj1);have hJ:touchP (ks.take (j+1))=withP (touchP (ks.take j)) t ⟨#[]⟩:=by rw [touchP_succ hj1,<-ht]
   obtain ⟨W3,hrun,hm3,hg3⟩:=HS.out.put (by have:=HNN.out;have:=HLN.out;simp only [maxLen];omega) hts;have HR3:Hid (SetQ W3 b (j+1) (touchP (ks.take (j+1)))/\Only (fun x=>x=b) W1 W3):=hiD ⟨by rw [hJ];exact hm3,HO.out.grown hg3 (fun k e=>.inl (osI e).symm)⟩;clear f1 g1 l1 ht hJ hm3 hg3;go_wp2;exact ⟨⟨j+1,by omega,by congr 1,hiD HR3.out.1,hiD HR3.out.2⟩,by simp only [intOf];omega⟩
  ·have hji:¬(j:Int)<L:=by omega
   obtain rfl:j=L:=by omega
   have hs:=HS.out;rw [List.take_of_length_le (by have:=HLN.out;omega)] at hs;have HK:=hiD (keysU_any b wr)
   have hlen:(touchP ks).length<=ks.length:=by
    have h1:=hs.size_le;rw [setD_size,HLN.out] at h1;exact h1
   have HSO:=hiD (sortedU_any hs (touchP_sorted ks) (by have:=HNN.out;omega));have HBW:Hid (Below w.heap.size w wr):=hiD (HB1.out.1.trans (HO.out.below HB1.out.1.size (fun x e=>by rw [e];exact HB1.out.2.1)));clear hs hlen
   go_wp2_with fail
   refine HK.out.mono ?_;rintro e W4 ⟨rfl,rfl⟩
   go_wp2_with fail
   refine HSO.out.mono ?_;rintro e W5 ⟨v,rfl,ho,hb5⟩;obtain ⟨A5,c5,rfl,hc5⟩:=ho.form;have HH:=hiD (aI ho (aI hb5 hc5));clear ho hb5 hc5;go_wp2;go_ret;exact ⟨_,rfl,⟨A5,(touchP ks).length,c5,rfl,by simp [touchK],by have:=HH.out.2.2;simpa using this,HH.out.1.has⟩,HBW.out.trans (Below.mono HH.out.2.1 HBW.out.size)⟩
end Go.Proofs.YtfjmdkhemnmkpaaGreatDoor
namespace Go.Proofs.YtfjmdkhemnmkpaaGreatDoor
open Go.RowKit
theorem touchK_le (ks:List ByteArray):(touchK ks).length<=ks.length:=by
 have key:∀j,j<=ks.length->(touchP (ks.take j)).length<=j:=by
  intro j
  induction j with
  |zero=>intro _;simp [touchP]
  |succ j ih=>
   intro hj;rw [touchP_succ (by omega)];have h1:=ih (by omega);have h2:(withP (touchP (ks.take j)) ks[j] ⟨#[]⟩).length<=(touchP (ks.take j)).length+1:=withP_len _ _ _;omega
 have:=key ks.length (nLr _);rw [List.take_length] at this
 simpa [touchK] using this
theorem boxedW {w W0:World} {cs:Array Value} {t:TypeId} (h:W0=w.alloc (.cells cs t)):Below w.heap.size w W0/\W0.heap[w.heap.size]?=some (.cells cs t (0,0)):=by
 subst h;exact ⟨(Below.refl _ w).alloc (nLr _) _,wAh w _⟩
structure BoxC (p:Nat) (v:CmdV) (W:World):Prop where
 blk:W.heap[p]?=some (.cells v.cells 57 (0,0))
theorem BoxC.below {p:Nat} {v:CmdV} {W W':World} (h:BoxC p v W) (hb:Below W.heap.size W W'):BoxC p v W':=⟨(hb.block p (geS.1 h.blk).1).trans h.blk⟩
theorem BoxC.lt {p:Nat} {v:CmdV} {W:World} (h:BoxC p v W):p<W.heap.size:=(geS.1 h.blk).1
theorem BoxC.at {p:Nat} {cl sq kd:Nat} {A:Option Addr} {L c:Nat} {ks:List ByteArray} {old new:ByteArray} {n:Int} {W:World} (h:BoxC p ⟨cl,sq,kd,A,L,c,ks,old,new,n⟩ W):
 W.cell? ⟨p,0,none⟩=some (.int .u32 (cl:Int))/\W.cell? ⟨p,1,none⟩=some (.int .u32 (sq:Int))/\W.cell? ⟨p,2,none⟩=some (.int .u8 (kd:Int))/\W.cell? ⟨p,3,none⟩=some (.slice A L c)/\W.cell? ⟨p,4,none⟩=some (.string old)/\W.cell? ⟨p,5,none⟩=some (.string new)/\W.cell? ⟨p,6,none⟩=some (.int .i64 n):=by
 have k:=h.blk;exact ⟨blk_cell k 0,blk_cell k 1,blk_cell k 2,blk_cell k 3,blk_cell k 4,blk_cell k 5,blk_cell k 6⟩
end Go.Proofs.YtfjmdkhemnmkpaaGreatDoor
namespace Go.Proofs.YtfjmdkhemnmkpaaGreatDoor
open Go.Maps Go.RowKit
structure FoQ (w0:World) (q R:Nat) (a:AM) (W:World):Prop where
 box:W.heap[q]?=some (.cells #[.pointer (some ⟨R,0,none⟩)] 26 (0,0))
 ex:∃F,AppQ F W R a/\∀k,F k->w0.heap.size<=k/\k≠q
 lo:w0.heap.size<=q
 below:Below w0.heap.size w0 W
section
variable {w0 W W':World} {q R:Nat} {a:AM}
theorem FoQ.lt (h:FoQ w0 q R a W):q<W.heap.size:=(geS.1 h.box).1
theorem FoQ.grew (h:FoQ w0 q R a W) (hb:Below W.heap.size W W'):FoQ w0 q R a W':=by
 obtain ⟨F,h1,h2⟩:=h.ex;exact ⟨(hb.block q h.lt).trans h.box,⟨F,h1.keep (Only.of_grew (F:=fun _=>False) hb) (fun _ _=>id),h2⟩,h.lo,h.below.trans (Below.mono hb h.below.size)⟩
theorem FoQ.at (h:FoQ w0 q R a W):W.cell? ⟨q,0,none⟩=some (.pointer (some ⟨R,0,none⟩)):=blk_cell h.box 0
theorem FoQ.only {F F':Nat->Prop} {a':AM} (h:FoQ w0 q R a W) (hF:∀k,F k->w0.heap.size<=k/\k≠q) (h1:AppQ F' W' R a') (ho:Only F W W') (hs:∀k,F' k->F k\/W.heap.size<=k):FoQ w0 q R a' W':=
 ⟨(ho.block q h.lt (fun hf=>(hF q hf).2 rfl)).trans h.box,⟨F',h1,fun k hk=>by
  rcases hs k hk with e|e
  ·exact hF k e
  ·have:=h.lt;have:=h.below.size;exact ⟨by omega,by omega⟩⟩,h.lo,h.below.trans (ho.below h.below.size (fun k hk=>(hF k hk).1))⟩
end
def foldV (q:Nat):Value:=.func (.func 21) #[] #[.pointer (some ⟨q,0,none⟩)]
theorem fold1_any {w0 W:World} {q R:Nat} {a:AM} (v:CmdV) (h:FoQ w0 q R a W) (hT:TabK w0) (hl:LimA a) (hv:v.ok W) (hg:v.ks.length<=100):
 Calls Tryz.prog 21 #[v.val,.pointer (some ⟨q,0,none⟩)] W fun e W'=>e=.returned (.tuple #[])/\FoQ w0 q R (doA a v.m).1 W':=by
 obtain ⟨W0,hW0⟩:∃W0,W0=W.alloc (Obj.cells v.cells 57):=⟨_,rfl⟩;obtain ⟨hB0,k0⟩:=boxedW hW0;have h0:=h.grew hB0;have y0:=h0.at;obtain ⟨F,hA,hF⟩:=h0.ex;have HD:=hiD (ado_any v hA (TabK.grew hT h0.below) hl (hv.below hB0) hg);have H0:=hiD (aI h0 hF);obtain ⟨p,hp⟩:∃p,p=W.heap.size:=⟨_,rfl⟩;rw [<-hp] at k0;have HC:=hiD (show BoxC p v W0 from ⟨k0⟩);have HP:=hiD hp;obtain ⟨d,hd⟩:∃d,d=(doA a v.m).1:=⟨_,rfl⟩;rw [<-hd] at HD ⊢;obtain ⟨rr,hrr⟩:∃d,d=ReplyV (doA a v.m).2.1:=⟨_,rfl⟩;obtain ⟨bb,hbb⟩:∃d,d=(doA a v.m).2.2:=⟨_,rfl⟩;rw [<-hrr,<-hbb] at HD;clear h hT hl hv hg hB0 h0 k0 hA hF hp hd hrr hbb;obtain ⟨cl,sq,kd,KA,L,c,ks,old,new,n⟩:=v;simp only [CmdV.val,CmdV.cells] at HD hW0 ⊢;have HW0:=hiD hW0;clear hW0;go_enter Tryz.func21,Tryz.ntmps21;go_upto_region 1 with (fail)
 rw [<-HW0.out,<-HP.out];obtain ⟨x0,x1,x2,x3,x4,x5,x6⟩:=HC.out.at
 go_wp2_with fail
 refine HD.out.mono ?_;rintro e W2 ⟨rfl,F',h1,h2,h3⟩;have H2:=hiD (H0.out.1.only H0.out.2 h1 h2 h3);clear h1 h2 h3 x0 x1 x2 x3 x4 x5 x6 y0;go_wp2;go_end0;exact ⟨rfl,H2.out⟩
theorem oneO_snoc (l:List CM) (m:CM) (a:AM):oneO (l++[m]) a=(doA (oneO l a) m).1:=by
 unfold oneO;rw [List.foldl_append]
 rfl
theorem each_any {w0 W:World} {q R:Nat} (A:Option Addr) (L c:Nat) (l:List CmdV) (h:FoQ w0 q R ⟨[],[],0⟩ W) (hT:TabK w0) (hL:L=l.length) (hm:L<=100) (hA:HasC w0 A l) (hng:∀v∈l,¬v.great):
 Calls Tryz.prog 20 #[.slice A L c,foldV q] W fun e W'=>e=.returned (.tuple #[])/\FoQ w0 q R (oneO (l.map (·.m)) ⟨[],[],0⟩) W':=by
 have H0:=hiD h;have HL:=hiD (aI hL hm);have HA:=hiD (aI hT (aI hA hng));have hLi:(L:Int)<=100:=by omega
 clear h hT hL hm hA hng;unfold foldV;go_enter Tryz.func20,Tryz.ntmps20;go_wp2
 go_loopw [8] (fun i wr=>∃k:Nat,k<=L/\i=.int .i64 (k:Int)/\Hid (FoQ w0 q R (oneO ((l.take k).map (·.m)) ⟨[],[],0⟩) wr)) (fun i _=>L - (intOf i).toNat)
 case atStart=>exact ⟨0,Nat.zero_le _,rfl,hiD (by simpa [oneO] using H0.out)⟩
 case round=>
  obtain ⟨k,hk,rfl,HO⟩:=hrel
  by_cases hlt:k<L
  ·have hki:(k:Int)<L:=by omega
   have hk1:k<l.length:=by have:=HL.out.1;omega
   obtain ⟨bk,o1,e1,l1,f1⟩:=HA.out.2.1 (by rintro rfl;simp at hk1);subst e1;have g1:=f1 k hk1
   have hlim:LimA (oneO ((l.take k).map (·.m)) ⟨[],[],0⟩):=by
    refine (oneO_lim LimAn.nil _ (by rw [List.length_map,List.length_take];omega) fun m hm=>?_).lim (by rw [List.length_map,List.length_take];omega);obtain ⟨v,hv,rfl⟩:=List.mem_map.1 hm;obtain ⟨j,hj,rfl⟩:=List.mem_iff_getElem.1 (List.mem_of_mem_take hv);exact ⟨(f1 j hj).2.cl,(f1 j hj).2.sq⟩
   obtain ⟨y,hy⟩:∃y,y=l[k]:=⟨_,rfl⟩;rw [<-hy] at g1
   have hgy:y.ks.length<=100:=by
    have hn:=HA.out.2.2 y (by rw [hy];exact List.getElem_mem hk1);have:¬100<y.ks.length:=fun hh=>hn (.inr (.inr (.inl hh)))
    omega
   have hsn:oneO ((l.take (k+1)).map (·.m)) ⟨[],[],0⟩=(doA (oneO ((l.take k).map (·.m)) ⟨[],[],0⟩) y.m).1:=by
    rw [List.take_succ_eq_append_getElem hk1,List.map_append,<-hy];exact oneO_snoc _ _ _
   have HB:Hid (∀V,Below wr.heap.size wr V->Calls Tryz.prog 21 #[y.val,.pointer (some ⟨q,0,none⟩)] V fun e W'=>e=.returned (.tuple #[])/\FoQ w0 q R (oneO ((l.take (k+1)).map (·.m)) ⟨[],[],0⟩) W'):=hiD (fun V hb=>by
    rw [hsn];exact fold1_any y (HO.out.grew hb) HA.out.1 hlim ((g1.2.below HO.out.below).below hb) hgy)
   have cA:∀i u,y.cells[i]?=some u->wr.cell? ⟨bk,o1+k*7+i,none⟩=some u:=fun i u hu=>(HO.out.below.cell (p:=⟨bk,o1+k*7+i,none⟩) l1).trans (g1.1 i u hu)
   clear g1 f1 hlim hgy hsn hy;obtain ⟨acl,asq,akd,KA,KL,kc,ks,old,new,n⟩:=y;simp only [CmdV.val,CmdV.cells] at HB cA;have a0:=cA 0 _ rfl;have a1:=cA 1 _ rfl;have a2:=cA 2 _ rfl;have a3:=cA 3 _ rfl;have a4:=cA 4 _ rfl;have a5:=cA 5 _ rfl;have a6:=cA 6 _ rfl;simp only [Nat.add_zero] at a0;clear cA;go_upto_region 3 with (fail)
   obtain ⟨W2,hW2⟩:∃W2,W2=wr.alloc (Obj.cells #[.int .u32 (acl:Int),.int .u32 (asq:Int),.int .u8 (akd:Int),.slice KA KL kc,.string old,.string new,.int .i64 n] 57):=⟨_,rfl⟩;rw [<-hW2];obtain ⟨hB2,k1⟩:=boxedW hW2;obtain ⟨p,hp⟩:∃p,p=wr.heap.size:=⟨_,rfl⟩;rw [<-hp] at k1 ⊢;obtain ⟨x0,x1,x2,x3,x4,x5,x6⟩:=(show BoxC p ⟨acl,asq,akd,KA,KL,kc,ks,old,new,n⟩ W2 from ⟨k1⟩).at;have HC:=hiD (HB.out W2 hB2);clear hW2 hp hB2 k1 a0 a1 a2 a3 a4 a5 a6 HB
   go_wp2_with fail
   refine HC.out.mono ?_;rintro e W3 ⟨rfl,h3⟩;have H3:=hiD h3;clear h3 x0 x1 x2 x3 x4 x5 x6;go_wp2;exact ⟨⟨k+1,by omega,by congr 1,H3⟩,by simp only [intOf];omega⟩
  ·have hki:¬(k:Int)<L:=by omega
   obtain rfl:k=L:=by omega
   have h3:=HO.out;rw [List.take_of_length_le (by have:=HL.out.1;omega)] at h3;have H3:=hiD h3;clear h3;go_wp2;go_end0;exact ⟨rfl,H3.out⟩
theorem afold_any (A:Option Addr) (L c:Nat) (l:List CmdV) (w:World) (hT:TabK w) (hL:L=l.length) (hm:L<=100) (hA:HasC w A l) (hng:∀v∈l,¬v.great):
 Calls Tryz.prog 7 #[.slice A L c] w fun e W'=>∃F R,e=.returned (.pointer (some ⟨R,0,none⟩))/\AppQ F W' R (oneO (l.map (·.m)) ⟨[],[],0⟩)/\(∀k,F k->w.heap.size<=k)/\Below w.heap.size w W':=by
 have HN:=hiD (anew_any w);have HE:Hid (∀(q R:Nat) (W:World),FoQ w q R ⟨[],[],0⟩ W->Calls Tryz.prog 20 #[.slice A L c,foldV q] W fun e W'=>e=.returned (.tuple #[])/\FoQ w q R (oneO (l.map (·.m)) ⟨[],[],0⟩) W'):=hiD (fun q R W h=>each_any A L c l h hT hL hm hA hng);have hmf:∀(fn:Fn) (first cap:Array Value) (w:World),(Instr.makeFunc fn first cap).run Tryz.prog w=.ok (.func fn first cap) w:=fun _ _ _ _=>rfl
 obtain ⟨z,hz⟩:∃z,z=oneO (l.map (·.m)) ⟨[],[],0⟩:=⟨_,rfl⟩;rw [<-hz] at HE ⊢;clear hT hL hm hA hng hz;unfold foldV at HE;go_enter Tryz.func7,Tryz.ntmps7
 go_wp2_with fail
 refine HN.out.mono ?_;rintro e W1 ⟨F,R,rfl,h1,h2,hb1⟩;obtain ⟨W2,hW2⟩:∃W2,W2=W1.alloc (Obj.cells #[.pointer (some ⟨R,0,none⟩)] 26):=⟨_,rfl⟩;obtain ⟨hB2,k2⟩:=boxedW hW2;obtain ⟨q,hq⟩:∃q,q=W1.heap.size:=⟨_,rfl⟩;rw [<-hq] at k2;have HF:=hiD (show FoQ w q R ⟨[],[],0⟩ W2 from ⟨k2,⟨F,h1.keep (Only.of_grew (F:=fun _=>False) hB2) (fun _ _=>id),fun k hk=>⟨h2 k hk,fun e=>by have:=h1.lt k hk;omega⟩⟩,by rw [hq];exact hb1.size,hb1.trans (Below.mono hB2 hb1.size)⟩);have HW2:=hiD hW2;have HQ:=hiD hq;clear h1 h2 hb1 hB2 k2 hW2 hq HN;go_upto_region 2 with (fail)
 rw [<-HW2.out,<-HQ.out];have HE1:=hiD (HE.out q R W2 HF.out)
 go_wp2_with fail
 refine HE1.out.mono ?_;rintro e W3 ⟨rfl,h3⟩;have y0:=h3.at;have H3:=hiD h3;clear h3;go_wp2;go_ret;obtain ⟨F',k1,k2⟩:=H3.out.ex;exact ⟨F',R,rfl,k1,fun k hk=>(k2 k hk).1,H3.out.below⟩
end Go.Proofs.YtfjmdkhemnmkpaaGreatDoor
