/- Parts of the proof: LitB, CmGreatM, MKvM, MKqA, KqPl, SameT, RgA, KvLay. -/
import Derived.Test.YtfjmdkhemnmkpaaGreatDoorR03
import Derived.Maps.OwnSet
import Derived.Sort.KeysCollected
import Derived.StringKeys
import Derived.Deep.DeepCutAuto
import Derived.Test.YtfjmdkhemnmkpaaGreatDoorR02
import Derived.Shelf.SlMaps.Clone
import Derived.Deep.QuietTactic
import Derived.BigQuiet
import Derived.Handy
import Derived.Shelf.SlIter.Nil
import Derived.Shelf.SortM.Plain
import Derived.Shelf.SortM.SortNone
import Derived.Ground.GgzProg
import Derived.Ground.SlgmProg
import Derived.Test.YtfjmdkhemnmkpaaGreatDoorProg
set_option maxRecDepth 100000
set_option maxHeartbeats 8000000
namespace Go.Proofs.YtfjmdkhemnmkpaaGreatDoor
open Go.Maps Go.RowKit
def litB (b:ByteArray):Lit:=.string b.data.toList
def mapD (l:List PV):DataW Unit:=.map (l.map fun p=>(litB p.1,.lit (litB p.2)))
theorem litB_inj {a b:ByteArray}:litB a=litB b<->a=b:=
 ⟨fun h=>by
  have:a.data.toList=b.data.toList:=by simpa [litB] using h
  exact ByteArray.ext (Array.ext' this),fun h=>by rw [h]⟩
theorem same_litB (a b:ByteArray):(litB a).sameKey (litB b)=decide (a=b):=by
 by_cases h:a=b
 ·subst h;simp [litB,Lit.sameKey]
 ·rw [decide_eq_false h];exact sameKey_ne (fun e=>h (litB_inj.1 e))
theorem before_less:∀x y:List UInt8,bytesBefore x y=Op.bytesLess x y
 |[],[]=>by simp [bytesBefore,Op.bytesLess]
 |[],_::_=>by simp [bytesBefore,Op.bytesLess]
 |_::_,[]=>by simp [bytesBefore,Op.bytesLess]
 |a::x,b::y=>by rw [bytesBefore,Op.bytesLess,before_less x y]
theorem before_litB (a b:ByteArray):(litB a).before (litB b)=ltB a b:=by
 rw [ltB,ByteArray.toList_eq,ByteArray.toList_eq];exact before_less _ _
theorem mapD_del (l:List PV) (k:ByteArray):(mapD l).del (litB k)=mapD (withoutP l k):=by
 simp only [mapD,DataW.del,withoutP]
 congr 1
 rw [List.filter_map]
 congr 1
 refine List.filter_congr fun p _=>?_
 simp [same_litB]
theorem insert_litB (k v:ByteArray):∀r:List PV,(∀p∈r,p.1≠k)->DataW.insert (litB k,(.lit (litB v):DataW Unit)) (r.map fun p=>(litB p.1,.lit (litB p.2)))=(r.take (placeP r k)++(k,v)::r.drop (placeP r k)).map fun p=>(litB p.1,.lit (litB p.2))
 |[],_=>rfl
 |p::r,h=>by
  have hp:=h p (List.mem_cons_self ..);have ih:=insert_litB k v r (fun q hq=>h q (List.mem_cons_of_mem _ hq));rw [List.map_cons,DataW.insert,before_litB]
  by_cases hl:ltB p.1 k=true
  ·have hk:ltB k p.1=false:=by
    cases hh:ltB k p.1
    ·rfl
    ·have:=ltB_trans hl hh;rw [ltB_irr] at this
     cases this
   have hpl:placeP (p::r) k=placeP r k+1:=by simp [placeP,hl]
   rw [hpl,if_neg (by rw [hk];decide),ih]
   rfl
  ·have hl':ltB p.1 k=false:=by simpa using hl
   have hk:=ltB_tot hp hl';have hpl:placeP (p::r) k=0:=by simp [placeP,hl']
   rw [hpl,if_pos hk]
   rfl
theorem mapD_put (l:List PV) (k v:ByteArray):(mapD l).put (litB k) (.lit (litB v))=mapD (withP l k v):=by
 have hd:=mapD_del l k;simp only [mapD,DataW.del,DataW.map.injEq] at hd;simp only [mapD,DataW.put];rw [hd,insert_litB k v _ withoutP_ne]
 rfl
theorem find_litB (l:List PV) (k:ByteArray):(l.map fun p=>(litB p.1,(.lit (litB p.2):DataW Unit))).find? (fun p=>p.1.sameKey (litB k))=(l.find? fun p=>decide (p.1=k)).map fun p=>(litB p.1,.lit (litB p.2)):=by
 rw [List.find?_map]
 congr 2
 funext p
 simp [same_litB]
theorem mapD_at (l:List PV) (k:ByteArray) (z:DataW Unit):(mapD l).atKey (litB k) z=(lookP l k).elim z fun v=>.lit (litB v):=by
 simp only [mapD,DataW.atKey];rw [find_litB,lookP]
 cases l.find? fun p=>decide (p.1=k)<;>rfl
theorem mapD_has (l:List PV) (k:ByteArray):has (mapD l) (litB k)=(lookP l k).isSome:=by
 simp only [mapD,has_eq];rw [lookP,Option.isSome_map,List.any_map,Bool.eq_iff_iff,List.any_eq_true,List.find?_isSome];simp [same_litB]
theorem mapD_size (l:List PV):size (mapD l)=l.length:=by simp [mapD,size_eq]
theorem mapD_keys (l:List PV):strKeys (mapD l)=l.map fun p=>p.1.data.toList:=by
 simp [mapD,strKeys,strOf,litB]
theorem less_lt:∀x y:List UInt8,Op.bytesLess x y=true<->x<y
 |[],[]=>by simp [Op.bytesLess]
 |[],_::_=>by simp [Op.bytesLess]
 |_::_,[]=>by simp [Op.bytesLess]
 |a::x,b::y=>by
  rw [Op.bytesLess,List.cons_lt_cons_iff,<-less_lt x y];simp
theorem sorted_keys {l:List PV} (h:SortedP l) {ss:List (List UInt8)} (hp:ss.Perm (strKeys (mapD l))):(ss.mergeSort Go.leB).map encStr=l.map fun p=>.string p.1:=by
 rw [mergeSort_of_perm hp,mapD_keys]
 have hs:(l.map fun p=>p.1.data.toList).Pairwise fun x y=>Go.leB x y=true:=by
  refine List.pairwise_map.2 (h.imp fun {a b} hab=>?_);rw [ltB,ByteArray.toList_eq,ByteArray.toList_eq] at hab;have:=(less_lt _ _).1 hab;exact decide_eq_true (List.le_of_lt this)
 rw [List.mergeSort_of_pairwise hs,List.map_map];refine List.map_congr_left fun p _=>?_
 simp [encStr]
theorem keyedS:Maps.Keyed Tryz.prog 9:=Maps.string_keyed Tryz.underlying9
theorem keyL {s:ByteArray} (hs:s.size<=maxLen):keyOf Tryz.prog 9 (.string s)=some (litB s):=WideMaps.keyOf_string_mk Tryz.underlying9 hs
end Go.Proofs.YtfjmdkhemnmkpaaGreatDoor
namespace Go.Proofs.YtfjmdkhemnmkpaaGreatDoor
open Go.RowKit
def CmdV.great (a:CmdV):Prop:=500<a.old.size\/500<a.new.size\/100<a.ks.length\/∃j,∃h:j<a.ks.length,500<(a.ks[j]).size
def GreatC (l:List CmdV):Prop:=100<l.length\/∃j,∃h:j<l.length,(l[j]).great
def CmdV.greatB (a:CmdV):Bool:=decide (500<a.old.size)||decide (500<a.new.size)||decide (100<a.ks.length)||a.ks.any fun k=>decide (500<k.size)
def GreatB (l:List CmdV):Bool:=decide (100<l.length)||l.any CmdV.greatB
theorem CmdV.greatB_iff {a:CmdV}:a.greatB=true<->a.great:=by
 simp only [CmdV.greatB,CmdV.great,Bool.or_eq_true,decide_eq_true_eq,List.any_eq_true,or_assoc,List.mem_iff_getElem]
 constructor
 ·rintro (h|h|h|⟨k,⟨j,hj,rfl⟩,h⟩)
  ·exact .inl h
  ·exact .inr (.inl h)
  ·exact .inr (.inr (.inl h))
  ·exact .inr (.inr (.inr ⟨j,hj,h⟩))
 ·rintro (h|h|h|⟨j,hj,h⟩)
  ·exact .inl h
  ·exact .inr (.inl h)
  ·exact .inr (.inr (.inl h))
  ·exact .inr (.inr (.inr ⟨_,⟨j,hj,rfl⟩,h⟩))
theorem GreatB_iff {l:List CmdV}:GreatB l=true<->GreatC l:=by
 simp only [GreatB,GreatC,Bool.or_eq_true,decide_eq_true_eq,List.any_eq_true,List.mem_iff_getElem]
 constructor
 ·rintro (h|⟨a,⟨j,hj,rfl⟩,h⟩)
  ·exact .inl h
  ·exact .inr ⟨j,hj,CmdV.greatB_iff.1 h⟩
 ·rintro (h|⟨j,hj,h⟩)
  ·exact .inl h
  ·exact .inr ⟨_,⟨j,hj,rfl⟩,CmdV.greatB_iff.2 h⟩
structure LimP (l:List PV):Prop where
 len:l.length<=5000
 each:∀p∈l,p.1.size<=1000/\p.2.size<=1000
def ReplyV (r:Nat × ByteArray):Value:=.agg #[.int .u8 (r.1:Int),.string r.2]
structure TxtS (w:World) (v:Value) (l:List ByteArray):Prop where
 ex:∃A L c,v=.slice A L c/\L=l.length/\L<=c/\HasS w A l
abbrev kA:ByteArray:=⟨#[97]⟩
abbrev kB:ByteArray:=⟨#[98]⟩
abbrev k7:ByteArray:=⟨#[55]⟩
abbrev kE:ByteArray:=⟨#[]⟩
def wv (S kd L:Nat) (ks:List ByteArray) (new:ByteArray) (n:Int):CmdV:=⟨1,0,kd,some ⟨S,0,none⟩,L,L,ks,kE,new,n⟩
end Go.Proofs.YtfjmdkhemnmkpaaGreatDoor
namespace Go.Proofs.YtfjmdkhemnmkpaaGreatDoor
open Go.Maps Go.RowKit Go.WideMaps
abbrev heldV (s:ByteArray):Value:=.agg #[.string s]
def heldR (v:Value):Option (DataW Unit × List MemPlace):=match v with
 |.agg cs=>match cs.toList with
  |[.string s]=>if s.size<=maxLen then some (.lit (litB s),[]) else none
  |_=>none
 |_=>none
theorem heldR_mk {s:ByteArray} (hs:s.size<=maxLen):heldR (heldV s)=some (.lit (litB s),[]):=by simp [heldR,hs]
theorem heldR_inv {v:Value} {z:DataW Unit × List MemPlace} (h:heldR v=some z):∃s,v=heldV s/\z=(.lit (litB s),[]):=by
 unfold heldR at h
 split at h
 ·rename_i cs
  split at h
  ·rename_i s hc
   split at h
   ·cases h
    exact ⟨s,by rw [heldV];congr 1;exact Array.ext' (by simpa using hc),rfl⟩
   ·cases h
  ·cases h
 ·cases h
theorem zeroHd (w:World):(zeroValue 120).run Tryz.prog w=.ok (heldV ⟨#[]⟩) w:=by kernel_rfl
def MapQ (w:World) (b:Nat) (l:List PV):Prop:=w.ownsMap Tryz.prog 9 heldR b l.length (mapD l)
def MapO (w:World) (p:Option Nat) (l:List PV):Prop:=match p with
 |none=>l=[]
 |some b=>MapQ w b l
section
variable {w w':World} {b n:Nat} {l:List PV} {p:Option Nat}
theorem MapQ.of (h:w.ownsMap Tryz.prog 9 heldR b n (mapD l)):MapQ w b l:=by
 obtain ⟨es,clock,hb,F,hs,hD⟩:=h;refine ⟨es,clock,hb,F,?_,hD⟩;have:=congrArg Maps.size hD;rw [mapD_size] at this;simp [Maps.size,length_sorted] at this;omega
theorem MapQ.new (w:World):MapQ (w.alloc (.map #[] 0)) w.heap.size []:=World.ownsMap_made w _ _ _
theorem MapQ.lt (h:MapQ w b l):b<w.heap.size:=World.ownsMap.lt h
theorem MapQ.keep (h:MapQ w b l) (hk:w'.heap[b]?=w.heap[b]?):MapQ w' b l:=by
 obtain ⟨es,clock,hb,F,hs,hD⟩:=h;exact ⟨es,clock,hk.trans hb,F,hs,hD⟩
theorem MapQ.blk (h:MapQ w b l):∃es clock,w.heap[b]?=some (.map es clock):=by
 obtain ⟨es,clock,hb,_⟩:=h;exact ⟨es,clock,hb⟩
theorem MapQ.below (h:MapQ w b l) (hb:Below w.heap.size w w'):MapQ w' b l:=h.keep (hb.block b h.lt)
theorem look_val {v:Value} {k:ByteArray} {ps:List MemPlace} (h:heldR v=some ((mapD l).atKey (litB k) (.lit (litB ⟨#[]⟩)),ps)):v=heldV ((lookP l k).getD ⟨#[]⟩):=by
 obtain ⟨s,rfl,hz⟩:=heldR_inv h;rw [mapD_at] at hz;have h1:=congrArg Prod.fst hz
 cases hl:lookP l k with
 |none=>rw [hl] at h1;rw [litB_inj.1 (DataW.lit.inj h1).symm];rfl
 |some x=>rw [hl] at h1;rw [litB_inj.1 (DataW.lit.inj h1).symm];rfl
theorem MapQ.look (h:MapQ w b l) {k:ByteArray} (hk:k.size<=maxLen):(Instr.lookup 118 (.map (some b)) (.string k) true).run Tryz.prog w=.ok (.tuple #[heldV ((lookP l k).getD ⟨#[]⟩),.bool (lookP l k).isSome]) w:=by
 obtain ⟨v,ps,hrun,hv⟩:=World.ownsMap.look_ok h keyedS Tryz.underlying118 (zeroHd w) (heldR_mk (s:=⟨#[]⟩) (by decide)) (keyL hk);rw [look_val hv,mapD_has] at hrun;exact hrun
theorem MapQ.get (h:MapQ w b l) {k:ByteArray} (hk:k.size<=maxLen):(Instr.lookup 118 (.map (some b)) (.string k) false).run Tryz.prog w=.ok (heldV ((lookP l k).getD ⟨#[]⟩)) w:=by
 obtain ⟨v,ps,hrun,hv⟩:=World.ownsMap.lookup h keyedS Tryz.underlying118 (zeroHd w) (heldR_mk (s:=⟨#[]⟩) (by decide)) (keyL hk);rw [look_val hv] at hrun;exact hrun
theorem MapQ.put (h:MapQ w b l) (hn:l.length<maxLen) {k s:ByteArray} (hk:k.size<=maxLen) (hs:s.size<=maxLen):∃w',(Instr.mapUpdate 118 (.map (some b)) (.string k) (heldV s)).run Tryz.prog w=.ok () w'/\MapQ w' b (withP l k s)/\w.grownBy w' (some b):=by
 obtain ⟨w',hrun,h1,h2⟩:=World.ownsMap.update h keyedS Tryz.underlying118 hn (keyL hk) (heldR_mk hs);rw [mapD_put] at h1;exact ⟨w',hrun,MapQ.of h1,h2⟩
theorem MapQ.del (h:MapQ w b l) {k:ByteArray} (hk:k.size<=maxLen) (ty:TypeId):∃w',(Builtin.delete_ #[118,9] ty #[.map (some b),.string k]).run Tryz.prog w=.ok (.tuple #[]) w'/\MapQ w' b (withoutP l k)/\w.grownBy w' (some b):=by
 obtain ⟨w',hrun,h1,h2⟩:=World.ownsMap.drop h keyedS Tryz.underlying118 (keyL hk) ty;rw [mapD_del] at h1;exact ⟨w',hrun,MapQ.of h1,h2.grown⟩
theorem MapO.keep (h:MapO w p l) (hk:∀b,p=some b->w'.heap[b]?=w.heap[b]?):MapO w' p l:=by
 cases p with
 |none=>exact h
 |some b=>exact MapQ.keep h (hk b rfl)
theorem MapO.below (h:MapO w p l) (hb:Below w.heap.size w w'):MapO w' p l:=by
 cases p with
 |none=>exact h
 |some b=>exact MapQ.below h hb
theorem MapO.look (h:MapO w p l) {k:ByteArray} (hk:k.size<=maxLen):(Instr.lookup 118 (.map p) (.string k) true).run Tryz.prog w=.ok (.tuple #[heldV ((lookP l k).getD ⟨#[]⟩),.bool (lookP l k).isSome]) w:=by
 cases p with
 |none=>
  obtain rfl:l=[]:=h;exact Maps.look_nil true keyedS Tryz.underlying118 (zeroHd w) (keyL hk)
 |some b=>exact MapQ.look h hk
theorem MapO.get (h:MapO w p l) {k:ByteArray} (hk:k.size<=maxLen):(Instr.lookup 118 (.map p) (.string k) false).run Tryz.prog w=.ok (heldV ((lookP l k).getD ⟨#[]⟩)) w:=by
 cases p with
 |none=>
  obtain rfl:l=[]:=h;exact Maps.look_nil false keyedS Tryz.underlying118 (zeroHd w) (keyL hk)
 |some b=>exact MapQ.get h hk
theorem MapO.del (h:MapO w p l) {k:ByteArray} (hk:k.size<=maxLen) (ty:TypeId):∃w',(Builtin.delete_ #[118,9] ty #[.map p,.string k]).run Tryz.prog w=.ok (.tuple #[]) w'/\MapO w' p (withoutP l k)/\w.grownBy w' p:=by
 cases p with
 |none=>
  obtain rfl:l=[]:=h;exact ⟨w,Maps.drop_nil keyedS Tryz.underlying118 (keyL hk) ty,rfl,World.grownBy.refl _ _⟩
 |some b=>exact MapQ.del h hk ty
theorem MapO.len (h:MapO w p l) (ty:TypeId):(Builtin.len_ #[118] ty #[.map p]).run Tryz.prog w=.ok (.int .i64 (l.length:Int)) w:=by
 cases p with
 |none=>
  obtain rfl:l=[]:=h;exact Maps.len_nil Tryz.underlying118 ty
 |some b=>
  have:=World.ownsMap.len (show w.ownsMap _ _ _ b _ _ from h) Tryz.underlying118 ty;rw [mapD_size] at this;exact this
theorem MapO.blk {q:Nat} (h:MapO w p l) (hp:p=some q):∃es clock,w.heap[q]?=some (.map es clock):=by
 subst hp;exact MapQ.blk h
end
structure StQ (w:World) (R:Nat) (p:Option Nat) (l:List PV):Prop where
 cell:w.heap[R]?=some (.cells #[.map p] 126 (0,0))
 map:MapO w p l
section
variable {w w' W:World} {R:Nat} {p:Option Nat} {l l':List PV}
theorem StQ.lt (h:StQ w R p l):R<w.heap.size:=(geS.1 h.cell).1
theorem StQ.ne (h:StQ w R p l):∀b,p=some b->R≠b:=fun b hp e=>by
 obtain ⟨es,clock,hb⟩:=h.map.blk hp;have:=h.cell;rw [e,hb] at this
 cases this
theorem StQ.blt (h:StQ w R p l):∀b,p=some b->b<w.heap.size:=fun b hp=>by
 obtain ⟨es,clock,hb⟩:=h.map.blk hp;exact (geS.1 hb).1
theorem StQ.below (h:StQ w R p l) (hb:Below w.heap.size w w'):StQ w' R p l:=⟨(hb.block R h.lt).trans h.cell,h.map.below hb⟩
theorem StQ.keep (h:StQ w R p l) (hR:w'.heap[R]?=w.heap[R]?) (hk:∀b,p=some b->w'.heap[b]?=w.heap[b]?):StQ w' R p l:=⟨hR.trans h.cell,h.map.keep hk⟩
theorem StQ.mp (h:StQ w R p l):w.cell? ⟨R,0,none⟩=some (.map p):=by simpa using blk_cell h.cell 0
theorem StQ.fz (h:StQ w R p l):w.frozen? ⟨R,0,none⟩=false:=blk_frozen h.cell 0
theorem StQ.set {ty:TypeId} {rp:Array Value} {q:Nat} (h:StQ w R p l) (hk:w.heap[q]?=some (.cells rp ty (0,0))) (hq:q≠R) (i:Nat) (u:Value):StQ (w.setCell ⟨q,i,none⟩ u) R p l:=by
 refine h.keep (Below.heap_setCell _ _ _ _ (fun e=>hq (by simpa using e.symm))) (fun b hb=>Below.heap_setCell _ _ _ _ (fun e=>?_));obtain ⟨es,clock,hm⟩:=h.map.blk hb;have e':b=q:=by simpa using e
 rw [e',hk] at hm
 cases hm
structure Chg (w W:World) (R:Nat) (p:Option Nat) (l:List PV):Prop where
 ex:∃p',StQ W R p' l/\∀b,p'=some b->p=some b\/w.heap.size<=b
 only:Only (fun x=>x=R\/p=some x) w W
theorem Chg.same (h:StQ w R p l) (hb:Below w.heap.size w W):Chg w W R p l:=⟨⟨p,h.below hb,fun _b hp=>.inl hp⟩,Only.of_grew hb⟩
theorem Chg.trans {w0:World} {p':Option Nat} {l2:List PV} (hp:∀b,p'=some b->p=some b\/w0.heap.size<=b) (ho:Only (fun x=>x=R\/p=some x) w0 w) (h:Chg w W R p' l2):Chg w0 W R p l2:=by
 obtain ⟨q,s,hq⟩:=h.ex;refine ⟨⟨q,s,fun b hb=>?_⟩,?_⟩
 ·rcases hq b hb with h1|h1
  ·exact hp b h1
  ·exact .inr (nLt ho.size h1)
 ·refine ⟨h.only.os.trans ho.os,h.only.tape.trans ho.tape,h.only.output.trans ho.output,nLt ho.size h.only.size,fun x hx hn=>(h.only.block x (nLl hx ho.size) (fun e=>?_)).trans (ho.block x hx hn)⟩
  rcases e with e|e
  ·exact hn (.inl e)
  ·rcases hp x e with h1|h1
   ·exact hn (.inr h1)
   ·omega
end
theorem all_any {w:World} {R:Nat} {p:Option Nat} {l:List PV} (h:StQ w R p l):Calls Tryz.prog 60 #[.pointer (some ⟨R,0,none⟩)] w fun e W'=>e=.returned (.map p)/\W'=w:=by
 have hm:=h.mp;go_enter Tryz.func60,Tryz.ntmps60;go_wp2;go_ret;exact ⟨rfl,rfl⟩
theorem new_any (w:World):Calls Tryz.prog 40 #[] w fun e W'=>e=.returned (.pointer (some ⟨w.heap.size,0,none⟩))/\W'=w.alloc (.cells #[.map none] 126):=by
 go_enter Tryz.func40,Tryz.ntmps40;go_wp2;go_ret;exact ⟨rfl,rfl⟩
theorem len_any {w:World} {R:Nat} {p:Option Nat} {l:List PV} (h:StQ w R p l):Calls Tryz.prog 57 #[.pointer (some ⟨R,0,none⟩)] w fun e W'=>e=.returned (.int .i64 (l.length:Int))/\W'=w:=by
 have HA:=hiD (all_any h);have hl:=fun ty=>h.map.len ty
 obtain ⟨L,hL⟩:∃L,L=l.length:=⟨_,rfl⟩;rw [<-hL] at hl ⊢;clear h hL;go_enter Tryz.func57,Tryz.ntmps57
 go_wp2_with fail
 refine HA.out.mono ?_;rintro e W ⟨rfl,rfl⟩;go_wp2;go_ret;exact ⟨rfl,rfl⟩
theorem get_map {w:World} {p:Option Nat} {l:List PV} (hm:MapO w p l) (a:Value) (k:ByteArray) (hk:k.size<=maxLen) (hA:Calls Tryz.prog 60 #[a] w fun e W'=>e=.returned (.map p)/\W'=w):
 Calls Tryz.prog 112 #[a,.string k] w fun e W'=>e=.returned (.tuple #[.string ((lookP l k).getD ⟨#[]⟩),.bool (lookP l k).isSome])/\Below w.heap.size w W':=by
 have HA:=hiD hA;have hrun:=hm.look hk;obtain ⟨v,hv⟩:∃v,v=(lookP l k).getD ⟨#[]⟩:=⟨_,rfl⟩;obtain ⟨b,hb⟩:∃b,b=(lookP l k).isSome:=⟨_,rfl⟩;rw [<-hv,<-hb] at hrun ⊢;clear hm hA hv hb;go_enter Tryz.func112,Tryz.ntmps112
 go_wp2_with fail
 refine HA.out.mono ?_;rintro e W ⟨rfl,rfl⟩;go_wp2
 go_ret2
 exact ⟨rfl,(Below.refl _ _).alloc (nLr _) _⟩
theorem get_any {w:World} {R:Nat} {p:Option Nat} {l:List PV} (h:StQ w R p l) (k:ByteArray) (hk:k.size<=maxLen):
 Calls Tryz.prog 112 #[.pointer (some ⟨R,0,none⟩),.string k] w fun e W'=>e=.returned (.tuple #[.string ((lookP l k).getD ⟨#[]⟩),.bool (lookP l k).isSome])/\Below w.heap.size w W':=get_map h.map _ k hk (all_any h)
theorem set_any {w:World} {R:Nat} {p:Option Nat} {l:List PV} (h:StQ w R p l) (hl:l.length<=1000000) (k s:ByteArray) (hk:k.size<=maxLen) (hs:s.size<=maxLen):
 Calls Tryz.prog 110 #[.pointer (some ⟨R,0,none⟩),.string k,.string s] w fun e W'=>e=.returned (.tuple #[])/\Chg w W' R p (withP l k s):=by
 have hc:=h.mp;have hz:=h.fz;have hq:=fun w=>run_eql_map_nil_sl (P:=Tryz.prog) w 118 _ _ p Tryz.underlying118
 cases p with
 |none=>
  obtain rfl:l=[]:=h.map;obtain ⟨W1,hW1⟩:∃W1,W1=(w.alloc (.map #[] 0)).setCell ⟨R,0,none⟩ (.map (some w.heap.size)):=⟨_,rfl⟩;have hR:=h.lt;have hB:Below w.heap.size w (w.alloc (.map #[] 0)):=(Below.refl _ w).alloc (nLr _) _
  have hm1:MapQ W1 w.heap.size []:=by
   rw [hW1];exact (MapQ.new w).keep (Below.heap_setCell _ _ _ _ (fun e=>absurd (show w.heap.size=R by simpa using e) (by omega)))
  have hc1:W1.heap[R]?=some (.cells #[.map (some w.heap.size)] 126 (0,0)):=by
   rw [hW1];exact blk_set ((hB.block R hR).trans h.cell) 0 _
  have ho1:Only (fun x=>x=R\/(none:Option Nat)=some x) w W1:=by
   rw [hW1];exact (Only.of_grew hB).setCell (p:=⟨R,0,none⟩) (.inl (.inl rfl)) _
  obtain ⟨W2,hrun,hm2,hg2⟩:=hm1.put (by decide) hk hs;have hc1':W1.cell? ⟨R,0,none⟩=some (.map (some w.heap.size)):=by simpa using blk_cell hc1 0
  have hz1:(w.alloc (.map #[] 0)).frozen? ⟨R,0,none⟩=false:=blk_frozen ((hB.block R hR).trans h.cell) 0;have hc0:(w.alloc (.map #[] 0)).cell? ⟨R,0,none⟩=some (.map none):=by simpa using blk_cell ((hB.block R hR).trans h.cell) 0
  have HH:=hiD (aI hm2 (aI hg2 (aI hc1 (aI ho1 hR))))
  have hfin:Chg w W2 R none (withP [] k s):=by
   obtain ⟨a1,a2,a3,a4,a5⟩:=HH.out;refine ⟨⟨some w.heap.size,⟨(a2.block R (by have:=(geS.1 a3).1;exact this) (fun e=>by have:=osI e;omega)).trans a3,a1⟩,fun b e=>.inr (by cases e;exact nLr _)⟩,a4.grown a2 (fun j e=>.inr (by cases e;exact nLr _))⟩
  have HF:=hiD hfin;clear hm1 hm2 hg2 hc1 ho1 hB hR h hfin HH;obtain ⟨N,hN⟩:∃N,N=w.heap.size:=⟨_,rfl⟩;rw [<-hN] at hrun hc1' hW1;go_enter Tryz.func110,Tryz.ntmps110;have hmk:=run_makeMap (P:=Tryz.prog) 118 w;rw [<-hN] at hmk;go_upto_region 2 with (fail)
  first|rw [<-hW1]|rw [<-hN,<-hW1]
  clear hW1 hc hz hz1 hc0 hmk hN;go_wp2;go_end0;exact ⟨rfl,HF.out⟩
 |some b=>
  obtain ⟨W2,hrun,hm2,hg2⟩:=MapQ.put (show MapQ w b l from h.map) (by simp only [maxLen];omega) hk hs;have HF:Hid (Chg w W2 R (some b) (withP l k s)):=hiD ⟨⟨some b,⟨(hg2.block R h.lt (fun e=>h.ne b rfl (osI e))).trans h.cell,hm2⟩,fun _ e=>.inl e⟩,Only.of_grown hg2 (fun j e=>.inr e)⟩;clear hm2 hg2 h;go_enter Tryz.func110,Tryz.ntmps110;go_wp2;go_end0;exact ⟨rfl,HF.out⟩
def reply0:Array Value:=#[.int .u8 0,.string ⟨#[]⟩]
structure Prep (w W:World) (R:Nat) (m:Option Nat) (p q:Nat) (l:List PV) (cs:Array Value):Prop where
 st:StQ W R m l
 cmd:W.heap[p]?=some (.cells cs 57 (0,0))
 rep:W.heap[q]?=some (.cells reply0 45 (0,0))
 below:Below w.heap.size w W
 ps:p=w.heap.size/\q=p+1
 size:W.heap.size=p+2
theorem prep {w W0 W1:World} {R:Nat} {m:Option Nat} {l:List PV} {cs:Array Value} (h:StQ w R m l) (h0:W0=w.alloc (.cells cs 57)) (h1:W1=W0.alloc (.cells reply0 45)):Prep w W1 R m w.heap.size (w.heap.size+1) l cs:=by
 have hB0:Below w.heap.size w W0:=by rw [h0];exact (Below.refl _ w).alloc (nLr _) _
 have hs0:W0.heap.size=w.heap.size+1:=by rw [h0];exact Array.size_push _
 have hB1:Below W0.heap.size W0 W1:=by rw [h1];exact (Below.refl _ W0).alloc (nLr _) _
 have hs1:W1.heap.size=W0.heap.size+1:=by rw [h1];exact Array.size_push _
 have k0:W0.heap[w.heap.size]?=some (.cells cs 57 (0,0)):=by rw [h0];exact wAh w _
 have k1:W1.heap[W0.heap.size]?=some (.cells reply0 45 (0,0)):=by rw [h1];exact wAh W0 _
 have hb:Below w.heap.size w W1:=hB0.trans (Below.mono hB1 hB0.size);exact ⟨h.below hb,(hB1.block _ (by omega)).trans k0,by rw [<-hs0];exact k1,hb,⟨rfl,rfl⟩,by omega⟩
section
variable {w W W' W'':World} {R p q:Nat} {m:Option Nat} {l l':List PV} {cs:Array Value}
theorem Prep.cell (h:Prep w W R m p q l cs) (i:Nat):W.cell? ⟨p,i,none⟩=cs[i]?:=by simpa using blk_cell h.cmd i
theorem Prep.key (h:Prep w W R m p q l cs) {kb o:Nat} {t:ByteArray} (hlt:kb<w.heap.size) (hc:w.cell? ⟨kb,o,none⟩=some (.string t)):W.cell? ⟨kb,o,none⟩=some (.string t):=(h.below.cell (p:=⟨kb,o,none⟩) hlt).trans hc
theorem Prep.grew (h:Prep w W R m p q l cs) (hb:Below W.heap.size W W'):StQ W' R m l/\W'.heap[p]?=some (.cells cs 57 (0,0))/\W'.heap[q]?=some (.cells reply0 45 (0,0))/\Below w.heap.size w W':=by
 have hs:=h.size;have hp:=h.ps;exact ⟨h.st.below hb,(hb.block p (by omega)).trans h.cmd,(hb.block q (by omega)).trans h.rep,h.below.trans (Below.mono hb h.below.size)⟩
theorem Prep.chg (h:Prep w W R m p q l cs) (hm:∀b,m=some b->b<w.heap.size) (hR:R<w.heap.size) (hc:Chg W W' R m l'):Chg w W' R m l'/\W'.heap[p]?=some (.cells cs 57 (0,0))/\W'.heap[q]?=some (.cells reply0 45 (0,0)):=by
 have hs:=h.size;have hp:=h.ps;refine ⟨Chg.trans (fun b e=>.inl e) (Only.of_grew h.below) hc,(hc.only.block p (by omega) (fun e=>?_)).trans h.cmd,(hc.only.block q (by omega) (fun e=>?_)).trans h.rep⟩
 ·rcases e with e|e
  ·omega
  ·have:=hm p e;omega
 ·rcases e with e|e
  ·omega
  ·have:=hm q e;omega
end
theorem Chg.reply {w W:World} {R:Nat} {m:Option Nat} {l:List PV} {q:Nat} {rp:Array Value} (h:Chg w W R m l) (hk:W.heap[q]?=some (.cells rp 45 (0,0))) (hq:w.heap.size<=q) (hR:R<w.heap.size) (i:Nat) (u:Value):Chg w (W.setCell ⟨q,i,none⟩ u) R m l:=by
 obtain ⟨p',s,hp⟩:=h.ex;exact ⟨⟨p',s.set hk (by omega) i u,hp⟩,h.only.setCell (p:=⟨q,i,none⟩) (.inr hq) u⟩
theorem done_any (t:ByteArray) (w:World):Calls Tryz.prog 111 #[.string t] w fun e W'=>e=.returned (ReplyV (0,t))/\Below w.heap.size w W':=by
 go_enter Tryz.func111,Tryz.ntmps111;go_upto_region 1 with (fail)
 obtain ⟨W0,hW0⟩:∃W0,W0=w.alloc (Obj.cells #[.int .u8 0,.string ⟨#[]⟩] 45):=⟨_,rfl⟩;rw [<-hW0];have hB0:Below w.heap.size w W0:=by rw [hW0];exact (Below.refl _ w).alloc (nLr _) _
 have k0:W0.heap[w.heap.size]?=some (.cells reply0 45 (0,0)):=by rw [hW0];exact wAh w _
 obtain ⟨q,hq⟩:∃q,q=w.heap.size:=⟨_,rfl⟩;rw [<-hq] at k0 ⊢;have y0:W0.cell? ⟨q,0,none⟩=some (.int .u8 0):=by simpa [reply0] using blk_cell k0 0
 have y1:W0.cell? ⟨q,1,none⟩=some (.string ⟨#[]⟩):=by simpa [reply0] using blk_cell k0 1
 have u0:=blk_frozen k0 0;have u1:=blk_frozen k0 1;have HB:=hiD (aI hB0 (aI k0 hq));clear hW0 hB0 k0 hq;go_wp2;obtain ⟨W3,hW3⟩:∃W3,W3=(W0.setCell ⟨q,0,none⟩ (.int .u8 0)).setCell ⟨q,1,none⟩ (.string t):=⟨_,rfl⟩;rw [<-hW3];have k3:W3.heap[q]?=some (.cells #[.int .u8 0,.string t] 45 (0,0)):=by rw [hW3];exact blk_set (blk_set HB.out.2.1 0 _) 1 _
 have hqq:=HB.out.2.2;have hb3:Below q w W3:=by rw [hW3];exact ((hqq ▸ HB.out.1).setCell (p:=⟨q,0,none⟩) (nLr _) _).setCell (p:=⟨q,1,none⟩) (nLr _) _
 have d0:W3.cell? ⟨q,0,none⟩=some (.int .u8 0):=by simpa using blk_cell k3 0
 have d1:W3.cell? ⟨q,1,none⟩=some (.string t):=by simpa using blk_cell k3 1
 exact bodyPost_ret (v:=ReplyV (0,t)) (by simp [results,Tryz.results111,go_sem,d0,d1,ReplyV]) rfl ⟨rfl,hqq ▸ hb3⟩
def putW (l:List PV) (k v:ByteArray) (is:Bool):List PV:=if is then withP l k v else withoutP l k
theorem move_any {w:World} {R:Nat} {p:Option Nat} {l:List PV} (h:StQ w R p l) (hl:l.length<=1000000) (k v:ByteArray) (is:Bool) (hk:k.size<=maxLen) (hv:v.size<=maxLen):
 Calls Tryz.prog 116 #[.pointer (some ⟨R,0,none⟩),.string k,.string v,.bool is] w fun e W'=>e=.returned (.tuple #[])/\Chg w W' R p (putW l k v is):=by
 have HS:=hiD (set_any h hl k v hk hv);have hc:=h.mp
 cases is with
 |true=>
  clear h hc;go_enter Tryz.func116,Tryz.ntmps116
  go_wp2_with fail
  refine HS.out.mono ?_;rintro e W ⟨rfl,hch⟩;have HC:=hiD hch;clear hch;go_wp2
  go_returns
  exact ⟨rfl,HC.out⟩
 |false=>
  obtain ⟨W2,hrun,hm2,hg2⟩:=h.map.del hk 0;have HF:Hid (Chg w W2 R p (withoutP l k)):=hiD ⟨⟨p,⟨(hg2.block R h.lt (fun e=>h.ne R e.symm rfl)).trans h.cell,hm2⟩,fun _ e=>.inl e⟩,Only.of_grown hg2 (fun j e=>.inr e)⟩;clear hm2 hg2 h;go_enter Tryz.func116,Tryz.ntmps116;go_wp2;go_end0;exact ⟨rfl,HF.out⟩
end Go.Proofs.YtfjmdkhemnmkpaaGreatDoor
namespace Go.Proofs.YtfjmdkhemnmkpaaGreatDoor
open Go.Maps Go.RowKit
def PlQ (F:Nat->Prop) (w:World) (R:Nat) (l:List PV):Prop:=∃p,StQ w R p l/\SortedP l/\∀k,F k<->(k=R\/p=some k)
theorem PlQ.mk {w:World} {R:Nat} {p:Option Nat} {l:List PV} (h:StQ w R p l) (hs:SortedP l):PlQ (fun k=>k=R\/p=some k) w R l:=⟨p,h,hs,fun _=>Iff.rfl⟩
theorem only_of {w W:World} {F:Nat->Prop} {R:Nat} {p:Option Nat} (hF:∀k,F k<->(k=R\/p=some k)) (h:Only (fun x=>x=R\/p=some x) w W):Only F w W:=h.mono fun x _ hx=>(hF x).2 hx
end Go.Proofs.YtfjmdkhemnmkpaaGreatDoor
namespace Go.Proofs.YtfjmdkhemnmkpaaGreatDoor
open Go.RowKit
def SameT (T:List TypeId) (W W':World):Prop:=∀(k:Nat) (cs:Array Value) (t:TypeId),t∉T->W.heap[k]?=some (.cells cs t (0,0))->W'.heap[k]?=some (.cells cs t (0,0))
theorem SameT.trans {T U:List TypeId} {a b c:World} (h:SameT T a b) (k:SameT U b c):SameT (T++U) a c:=fun i cs t ht hi=>by
 rw [List.mem_append,not_or] at ht;exact k i cs t ht.2 (h i cs t ht.1 hi)
theorem SameT.grew {T:List TypeId} {a b:World} (h:Below a.heap.size a b):SameT T a b:=fun i _ _ _ hi=>(h.block i (geS.1 hi).1).trans hi
theorem SameT.set {W:World} {r i:Nat} {cs:Array Value} {t0:TypeId} (h:W.heap[r]?=some (.cells cs t0 (0,0))) (u:Value):SameT [t0] W (W.setCell ⟨r,i,none⟩ u):=fun k cs' t ht hk=>
 (Below.heap_setCell _ _ _ _ (fun e=>by subst e;rw [h] at hk;cases hk;simp at ht)).trans hk
theorem SameT.grown {W W':World} {row:Option Nat} {t0:TypeId} (h:W.grownBy W' row) (hr:∀r,row=some r->∃cs,W.heap[r]?=some (.cells cs t0 (0,0))):SameT [t0] W W':=fun k cs' t ht hk=>
 (h.block k (geS.1 hk).1 (fun e=>by
  obtain ⟨cs,hc⟩:=hr k e.symm;rw [hc] at hk;cases hk;simp at ht)).trans hk
theorem SameT.own {T:List TypeId} {W W':World} {base n:Nat} {e:TypeId} {v:Value} {vs:List Value} (h:SameT T W W') (ho:W.ownsRow base e 1 v n vs) (he:e∉T):W'.ownsRow base e 1 v n vs:=by
 refine ⟨ho.1,?_⟩
 rcases ho.2 with h2|⟨g,cap,cur,rfl,b,r,s⟩
 ·exact .inl h2
 ·exact .inr ⟨g,cap,cur,rfl,b,h _ _ _ he r,s⟩
theorem own_typed {W:World} {base n:Nat} {e:TypeId} {v:Value} {vs:List Value} (ho:W.ownsRow base e 1 v n vs):∀r,v.ownBlock=some r->∃cs,W.heap[r]?=some (.cells cs e (0,0)):=by
 intro r hr
 rcases ho.2 with ⟨rfl,_⟩|⟨g,cap,cur,rfl,_,h,_⟩
 ·cases hr
 ·cases hr;exact ⟨_,h⟩
theorem run_ldBy (w:World) (p:Addr) (v:Value) (h:w.cell? p=some v):(Instr.loadAt 48 (.pointer (some p))).run Tryz.prog w=.ok v w:=by
 simp [go_sem,h]
theorem run_stBy (w:World) (b:Nat) (A':Option Addr) (n c:Nat) (u:Value) (h:w.cell? ⟨b,0,none⟩=some u) (hf:w.frozen? ⟨b,0,none⟩=false):(Instr.storeAt 48 (.pointer (some ⟨b,0,none⟩)) (.slice A' n c)).run Tryz.prog w=.ok () (w.setCell ⟨b,0,none⟩ (.slice A' n c)):=by
 simp [go_sem,h,hf]
theorem vv_eq {u u':Nat->Value}:∀{vs:List VP} {b j:Nat},eqAt vs j=true->nth (vv u' b vs) j=nth (vv u b vs) j
 |.eq _::_,_,0,_=>rfl
 |.eq _::l,b,j+1,h=>vv_eq (vs:=l) (b:=b+1) h
 |.pr _::l,b,j+1,h=>vv_eq (vs:=l) (b:=b+1) h
 |[],_,_,h=>by cases h
 |.pr _::_,_,0,h=>by cases h
theorem eqAt_app {l:List VP}:∀{vs:List VP} {j:Nat},eqAt vs j=true->eqAt (vs++l) j=true
 |.eq _::_,0,_=>rfl
 |.eq _::v,j+1,h=>eqAt_app (vs:=v) (j:=j) h
 |.pr _::v,j+1,h=>eqAt_app (vs:=v) (j:=j) h
 |[],_,h=>by cases h
 |.pr _::_,0,h=>by cases h
theorem vv_end {u:Nat->Value} {p:Value->World->Prop} {l:List VP}:∀{vs:List VP} {b:Nat},nth (vv u b (vs++.pr p::l)) vs.length=u (b+vs.length)
 |[],_=>rfl
 |.eq _::v,b=>by
  have:=vv_end (u:=u) (p:=p) (l:=l) (vs:=v) (b:=b+1);rw [show b+1+v.length=b+(v.length+1) by omega] at this;exact this
 |.pr _::v,b=>by
  have:=vv_end (u:=u) (p:=p) (l:=l) (vs:=v) (b:=b+1);rw [show b+1+v.length=b+(v.length+1) by omega] at this;exact this
theorem vv_last {u:Nat->Value} {p:Value->World->Prop} {l:List VP} {vs:List VP} {k:Nat} (h:vs.length=k+1):nth (vv u 0 (vs++.pr p::l)) (k+1)=u (k+1):=by
 have:=vv_end (u:=u) (p:=p) (l:=l) (vs:=vs) (b:=0);rw [h,Nat.zero_add] at this;exact this
theorem reach_pre {ops:List Oper} {L:Nat->Bool} {o:Oper} {i j n:Nat} (hcl:Closed ops L) (hpre:∀e∈o.after,Region.binds .any e=true->L e.on=true) (ho:nthO ops i=some o) (h:reachB ops (n+1) i j=true):L j=true:=by
 unfold reachB at h
 have hi:ops[i]?=some o:=by
  rw [nthO_eq] at ho
  simpa using ho
 rw [hi] at h;simp only [List.any_eq_true,Bool.and_eq_true,Bool.or_eq_true,beq_iff_eq] at h;obtain ⟨e,he,hb,h⟩:=h;have h1:=hpre e (by simpa using he) hb
 rcases h with h|h
 ·rw [<-h];exact h1
 ·exact reach_ofF hcl n _ j h h1
def AppB (B g:Nat) (v:Value) (xs ys:List UInt8) (w:World) (y:Value) (W2:World):Prop:=∃W1 A c,Grew w W1/\y=.slice A (xs.length+ys.length) c/\W2.ownsRow B 5 1 y (xs.length+ys.length) ((xs++ys).map enc)/\W1.grownBy W2 v.ownBlock/\W2.heap[g]?=some (.cells #[v] 48 (0,0))
def beforeAll (ops:List Oper) (K:Nat):Bool:=((List.range K).all fun j=>reachB ops 30 K j)&&match nthO ops (K+1) with
 |some o=>(List.range (K+1)).all (hasEdge o)
 |none=>false
theorem region_app {l n id:Nat} {a:Act} {w:World} {Q:Exit->Act->World->Prop} (N k dI dA d0:Nat) (ops:List Oper) (fr:List (Nat × Value)) (vs:List VP) (B g:Nat) (v:Value) (xs ys:List UInt8) (ty tS:TypeId) (pK pS:String) (aK aS:Array Edge)
 (hk:(regOk N ops fr [k,k+1,k+2]&&beforeAll ops (k+1))=true) (he:eqsOk vs [k] (k+1)=true) (hlen:vs.length=k+1) (hln:ops.length=k+3) (hN:a.tmps.size=N) (hfr:FrOk a fr) (h5:a.tmps.getD 5 undef=.pointer (some ⟨g,0,none⟩)) (h5f:(ops.all fun o=>!(o.dst==some 5))=true)
 (hg:w.heap[g]?=some (.cells #[v] 48 (0,0))) (hown:w.ownsRow B 5 1 v xs.length (xs.map enc)) (hB:B<=w.heap.size) (hxy:xs.length+ys.length<=1000000000)
 (hK:nthO ops (k+1)=some ⟨some dA,.call {callee:=.builtin .append,args:=#[.tmp d0,.tmp dI],argTypes:=#[48,48]},ty,pK,aK,none⟩)
 (hS:nthO ops (k+2)=some ⟨none,.store 48 (.tmp 5) (.tmp dA),tS,pS,aS,none⟩)
 (hc0:(coverX ops fr aK.toList (.tmp d0)&&(coverX ops fr aK.toList (.tmp dI)&&coverX ops fr aS.toList (.tmp dA)))=true)
 (hr0:∀u:Nat->Value,rho ops fr (vv u 0 (vs++[.pr fun _ _=>True,.eq undef])) aK (.tmp d0)=v) (hrI:∀u:Nat->Value,rho ops fr (vv u 0 (vs++[.pr fun _ _=>True,.eq undef])) aK (.tmp dI)=u k) (hrA:∀u:Nat->Value,rho ops fr (vv u 0 (vs++[.pr fun _ _=>True,.eq undef])) aS (.tmp dA)=u (k+1))
 (hat:∀u:Nat->Value,nth (vv u 0 (vs++[.pr fun _ _=>True,.eq undef])) k=u k)
 (hobs:∀u w',Grew w w'->∀L,Obs Tryz.prog ops fr (vv u 0 (vs++[.pr fun _ _=>True,.eq undef])) L w' [k,k+1,k+2] 0 ops)
 (hcall:∀o,nthO ops k=some o->∃d,o.dst=some d/\∀a' w',Frm ops a a'->Grew w w'->(∀j o' d' u,hasEdge o j=true->nthO ops j=some o'->o'.dst=some d'->j<k->a'.tmps.getD d' undef=nth (vv u 0 (vs++[.pr fun _ _=>True,.eq undef])) j)->wpOpIn (Fence.wide.inRound l) n Tryz.prog ops.toArray Q k (fun a'' w''=>∃x,a''=a'.put (some d) x/\IsB w'' x ys/\Grew w' w'') a' w')
 (hQ:∀u W1 W2,Grew w W1->W2.ownsRow B 5 1 (u (k+1)) (xs.length+ys.length) ((xs++ys).map enc)->W1.grownBy W2 v.ownBlock->W2.heap[g]?=some (.cells #[v] 48 (0,0))->Q .normal (puts (outs ops (vv u 0 (vs++[.pr fun _ _=>True,.eq undef]))) a) (W2.setCell ⟨g,0,none⟩ (u (k+1)))):
 (Code.region id ops.toArray true).wpIn (Fence.wide.inRound l) n Tryz.prog Q a w:=by
 obtain ⟨i0,hi,hz0,hz1,hz2⟩:=info_parts info5;have hk1:=Bool.and_eq_true _ _ ▸ hk;have hk2:=Bool.and_eq_true _ _ ▸ hk1.2;have hc1:=Bool.and_eq_true _ _ ▸ hc0;have hc2:=Bool.and_eq_true _ _ ▸ hc1.2;have hF:∀f,(Fence.wide.inRound l).fn f:=fun _=>trivial
 have hbf:∀{L},Closed ops L->L (k+1)=true->∀j,j<k+1->L j=true:=fun {L} hcl hz j hj=>by
  have:=List.all_eq_true.1 hk2.1 j (List.mem_range.2 hj);exact reach_ofF (ops:=ops) hcl 30 (k+1) j this hz
 have hbs:∀{L},Closed ops L->L (k+2)=true->∀j,j<k+2->L j=true:=fun {L} hcl hz j hj=>by
  have h1:=hk2.2;rw [hS] at h1;have:=List.all_eq_true.1 h1 j (List.mem_range.2 hj);exact edge_ofF (fun e h1 h2=>hcl (k+2) _ e (by rw [<-nthO_eq];exact hS) hz h1 h2) j this
 have hds:∀j,j<k->eqAt vs j=true:=fun j hj=>by
  have:=List.all_eq_true.1 he j (List.mem_range.2 (by omega));have hne:([k]:List Nat).contains j=false:=by simp;omega
  rw [hne,Bool.false_or] at this;exact this
 have hvl:∀u:Nat->Value,(vv u 0 (vs++[.pr fun _ _=>True,.eq undef])).length=k+3:=fun u=>by
  rw [vv_len,List.length_append,hlen]
  rfl
 have hagr:∀(u u':Nat->Value) (i:Nat),(∀j,j≠i->u' j=u j)->∀{L:Nat->Bool},L i=false->∀j,L j=true->nth (vv u' 0 (vs++[.pr fun _ _=>True,.eq undef])) j=nth (vv u 0 (vs++[.pr fun _ _=>True,.eq undef])) j:=fun u u' i h L hl j hj=>vv_nth h (by rw [Nat.zero_add];rintro rfl;rw [hl] at hj;cases hj)
 have heq:∀(u u':Nat->Value) j,j<k->nth (vv u' 0 (vs++[.pr fun _ _=>True,.eq undef])) j=nth (vv u 0 (vs++[.pr fun _ _=>True,.eq undef])) j:=fun u u' j hj=>vv_eq (eqAt_app (hds j hj))
 refine region_f hF (U:=Nat->Value) N ops fr [k,k+1,k+2] (fun u=>vv u 0 (vs++[.pr fun _ _=>True,.eq undef])) (fun L u w'=>(L (k+1)=false->Grew w w'/\(L k=true->IsB w' (u k) ys))/\(L (k+1)=true->L (k+2)=false->AppB B g v xs ys w (u (k+1)) w')/\(L (k+2)=true->∃W2,AppB B g v xs ys w (u (k+1)) W2/\w'=W2.setCell ⟨g,0,none⟩ (u (k+1)))) (fun _=>undef) follows hk1.1 hN hfr (fun u=>by rw [hvl,hln];exact nLr _) ⟨fun _=>⟨Grew.undraw (Grew.refl _),fun h=>(by cases h)⟩,fun h=>(by cases h),fun h=>(by cases h)⟩ ?_ ?_ ⟨?_,?_,?_,trivial⟩ ?_
 ·rintro L u w' i hi h;dsimp only;rw [beq_noF (key_ne hi (k:=k) (by simp)),beq_noF (key_ne hi (k:=k+1) (by simp)),beq_noF (key_ne hi (k:=k+2) (by simp))];exact h
 ·rintro L u w' ⟨h1,_⟩ hcl
  cases hz:L (k+1) with
  |false=>exact hobs u w' (h1 hz).1 L
  |true=>
   refine Obs.all fun i hi hc=>?_
   rw [Nat.zero_add] at hc ⊢;refine hbf hcl hz i ?_;simp at hc;omega
 ·rintro o ho L u a' w' hLi hpre hcl hR ⟨h1,_,h3⟩ fin;obtain ⟨d,hd,hc⟩:=hcall o ho
  have n1:L (k+1)=false:=by
   cases e:L (k+1) with
   |false=>rfl
   |true=>rw [hbf hcl e k (by omega)] at hLi;cases hLi
  have n2:L (k+2)=false:=by
   cases e:L (k+2) with
   |false=>rfl
   |true=>rw [hbs hcl e k (by omega)] at hLi;cases hLi
  refine wpOpIn_mono ?_ (hc a' w' hR.frm (h1 n1).1 fun j o' d' u' he hj hd' hjk=>?_)
  ·rintro a'' w'' ⟨x,rfl,hx,hw⟩;rw [<-hd];have ha:∀j,j≠k->(fun j=>if j=k then x else u j) j=u j:=fun j hj=>if_neg hj
   refine fin (fun j=>if j=k then x else u j) x w'' (fun _=>by rw [hat];exact if_pos rfl) (hagr u _ k ha hLi) ⟨fun _=>⟨(h1 n1).1.trans hw,fun _=>by dsimp only;rw [if_pos rfl];exact hx⟩,fun h=>?_,fun h=>?_⟩
   ·have h':(L (k+1)||k+1==k)=true:=h;rw [n1] at h';simp at h'
   ·have h':(L (k+2)||k+2==k)=true:=h;rw [n2] at h';simp at h'
  ·rw [hR.val j o' d' hj hd' (edge_ofF hpre j he)];exact heq u' u j hjk
 ·rintro o ho L u a' w' hLi hpre hcl hR ⟨h1,_,h3⟩ fin;have hio:=(nthO_eq _ _).symm.trans ho;rw [hK] at ho
  cases ho
  obtain ⟨hgr,hib⟩:=h1 hLi
  have hlk:L k=true:=by
   have:=List.all_eq_true.1 hk2.1 k (List.mem_range.2 (by omega));exact reach_pre (ops:=ops) hcl hpre hK this
  have n2:L (k+2)=false:=by
   cases e:L (k+2) with
   |false=>rfl
   |true=>rw [hbs hcl e (k+1) (by omega)] at hLi;cases hLi
  obtain ⟨A5,L5,c5,e2,hl5,hA5⟩:=hib hlk;have hown':=own_below hown hgr;obtain ⟨v',W2,hrun,hown2,hg2⟩:=run_append_has (P:=Tryz.prog) (w:=w') B 48 ty 5 i0 Tryz.underlying48 hi hz0 hz1 hz2 v xs.length xs hown' _ A5 L5 c5 ys hl5 hA5 (by omega) (nLt hB (Below.size hgr));subst hl5;obtain ⟨A3,c3,rfl⟩:=own_form hown2;have hb5:w'.heap[g]?=some (.cells #[v] 48 (0,0)):=SameT.grew (T:=[]) hgr _ _ _ (by simp) hg;have hb52:W2.heap[g]?=some (.cells #[v] 48 (0,0)):=SameT.grown hg2 (own_typed hown') _ _ _ (by decide) hb5;have x0:a'.eval (.tmp d0)=v:=(rho_eq hR hfr hpre hc1.1).trans (hr0 u);have x1:a'.eval (.tmp dI)=.slice A5 ys.length c5:=((rho_eq hR hfr hpre hc2.1).trans (hrI u)).trans e2
  refine step_run hio rfl (by intro c h;cases h) (by simp [Oper.about,resolve,Target.leads,Sem.run_pure]) (v:=.slice A3 (xs.length+ys.length) c3) (w':=W2) (by
   unfold execOp;simp only [resolve,invoke,builtin,Sem.run_bind,Sem.run_pure,Result.andThen_ok,List.map_toArray,List.map_cons,List.map_nil,x0,x1,hrun]) ?_
  have ha:∀j,j≠k+1->(fun j=>if j=k+1 then Value.slice A3 (xs.length+ys.length) c3 else u j) j=u j:=fun j hj=>if_neg hj
  refine fin (fun j=>if j=k+1 then .slice A3 (xs.length+ys.length) c3 else u j) _ _ (fun _=>by rw [vv_last hlen];exact if_pos rfl) (hagr u _ (k+1) ha hLi) ⟨fun h=>by simp at h,fun _ _=>?_,fun h=>?_⟩
  ·dsimp only;rw [if_pos rfl];exact ⟨w',A3,c3,hgr,rfl,hown2,hg2,hb52⟩
  ·have h':(L (k+2)||k+2==k+1)=true:=h;rw [n2] at h';simp at h'
 ·rintro o ho L u a' w' hLi hpre hcl hR ⟨_,h2,_⟩ fin;have hio:=(nthO_eq _ _).symm.trans ho;rw [hS] at ho
  cases ho
  have hl1:L (k+1)=true:=by
   have h1:=hk2.2;rw [hS] at h1;exact edge_ofF hpre (k+1) (List.all_eq_true.1 h1 (k+1) (List.mem_range.2 (by omega)))
  obtain ⟨W1,A3,c3,q1,q2,q3,q4,q5⟩:=h2 hl1 hLi;have x5:a'.eval (.tmp 5)=.pointer (some ⟨g,0,none⟩):=hR.frm.at 5 h5f h5;have xA:a'.eval (.tmp dA)=.slice A3 (xs.length+ys.length) c3:=((rho_eq hR hfr hpre hc2.2).trans (hrA u)).trans q2;have hst:=run_stBy w' g A3 (xs.length+ys.length) c3 v (by simpa using blk_cell q5 0) (blk_frozen q5 0)
  refine step_skip hio rfl (by intro c h;cases h) (by simp [Oper.about]) (w':=w'.setCell ⟨g,0,none⟩ (.slice A3 (xs.length+ys.length) c3)) (by
   unfold execOp;simp only [x5,xA,Sem.run_bind,hst,Result.andThen_ok]
   rfl) ?_
  refine fin u undef _ (fun h=>by cases h) (fun _ _=>rfl) ⟨fun h=>?_,fun _ h=>by simp at h,fun _=>⟨w',⟨W1,A3,c3,q1,q2,q3,q4,q5⟩,by rw [q2]⟩⟩;have h':(L (k+1)||k+1==k+2)=false:=h;rw [hl1] at h'
  cases h'
 ·rintro L u w' hl ⟨_,_,h3⟩;obtain ⟨W2,⟨W1,A3,c3,q1,q2,q3,q4,q5⟩,rfl⟩:=h3 (hl (k+2) (by omega));exact hQ u W1 W2 q1 q3 q4 q5
end Go.Proofs.YtfjmdkhemnmkpaaGreatDoor
namespace Go.Proofs.YtfjmdkhemnmkpaaGreatDoor
open Go.Maps Go.RowKit Go.Shelf Go.Sort
def lay_keys85_ren:Go.Shelf.Ren:=⟨fun|7=>85|10=>106|n=>n,fun|23=>118|26=>9|3=>120|28=>157|0=>0|27=>156|33=>171|4=>4|n=>n,fun|n=>n⟩
theorem lay_keys85:Go.Proofs.SlLaysZ.n7 Tryz.prog lay_keys85_ren:={
 mixed:=by kernel_rfl
 f7:=⟨Tryz.f85.name,by decide,Tryz.func85.trans (congrArg some (by kernel_rfl))⟩
 f10:=⟨Tryz.f106.name,by decide,Tryz.func106.trans (congrArg some (by kernel_rfl))⟩
 t0:=Tryz.underlying0
 a0:=Tryz.isAgg0
 z0:=Tryz.sizeOf0
 v0:=Tryz.zeroValue0
 t4:=Tryz.underlying4
 a4:=Tryz.isAgg4
 z4:=Tryz.sizeOf4
 v4:=Tryz.zeroValue4
 t23:=Tryz.underlying118
 a23:=Tryz.isAgg118
 z23:=Tryz.sizeOf118
 v23:=Tryz.zeroValue118
 t26:=Tryz.underlying9
 a26:=Tryz.isAgg9
 z26:=Tryz.sizeOf9
 v26:=Tryz.zeroValue9
 t27:=Tryz.underlying156
 a27:=Tryz.isAgg156
 z27:=Tryz.sizeOf156
 v27:=Tryz.zeroValue156
 t28:=Tryz.underlying157
 a28:=Tryz.isAgg157
 z28:=Tryz.sizeOf157
 v28:=Tryz.zeroValue157
 t33:=Tryz.underlying171
 a33:=Tryz.isAgg171
 z33:=Tryz.sizeOf171
 v33:=Tryz.zeroValue171}
def lay_sorted84_ren:Go.Shelf.Ren:=⟨fun|6=>84|8=>104|9=>105|11=>126|13=>125|12=>127|23=>143|24=>144|14=>145|15=>146|16=>147|17=>148|18=>149|19=>150|20=>151|21=>152|22=>153|25=>167|26=>162|27=>163|28=>168|29=>169|30=>170|31=>181|n=>n,fun|26=>9|28=>157|24=>55|0=>0|3=>3|37=>145|48=>54|50=>30|4=>4|40=>209|39=>208|45=>206|5=>5|9=>9|51=>227|55=>231|57=>246|58=>247|33=>171|n=>n,fun|n=>n⟩
theorem lay_sorted84:Go.Proofs.SlLaysZ.n6 Tryz.prog lay_sorted84_ren:={
 mixed:=by kernel_rfl
 f6:=⟨Tryz.f84.name,by decide,Tryz.func84.trans (congrArg some (by kernel_rfl))⟩
 f8:=⟨Tryz.f104.name,by decide,Tryz.func104.trans (congrArg some (by kernel_rfl))⟩
 f11:=⟨Tryz.f126.name,by decide,Tryz.func126.trans (congrArg some (by kernel_rfl))⟩
 t0:=Tryz.underlying0
 a0:=Tryz.isAgg0
 z0:=Tryz.sizeOf0
 v0:=Tryz.zeroValue0
 t24:=Tryz.underlying55
 a24:=Tryz.isAgg55
 z24:=Tryz.sizeOf55
 v24:=Tryz.zeroValue55
 t26:=Tryz.underlying9
 a26:=Tryz.isAgg9
 z26:=Tryz.sizeOf9
 v26:=Tryz.zeroValue9
 t28:=Tryz.underlying157
 a28:=Tryz.isAgg157
 z28:=Tryz.sizeOf157
 v28:=Tryz.zeroValue157
 i26:=by kernel_rfl}
def lay_sort105_ren:Go.Shelf.Ren:=⟨fun|6=>105|8=>125|9=>127|19=>143|20=>144|21=>145|22=>146|23=>147|24=>148|25=>149|26=>150|27=>151|28=>152|29=>153|36=>167|31=>162|32=>163|37=>168|38=>169|39=>170|41=>181|n=>n,fun|27=>55|29=>9|3=>3|32=>145|26=>55|0=>0|44=>54|46=>30|4=>4|36=>209|35=>208|41=>206|5=>5|9=>9|53=>227|57=>231|63=>246|64=>247|n=>n,fun|n=>n⟩
theorem lay_sort105:Go.Proofs.SlLaysM.n6 Tryz.prog lay_sort105_ren:={
 mixed:=by kernel_rfl
 f6:=⟨Tryz.f105.name,by decide,Tryz.func105.trans (congrArg some (by kernel_rfl))⟩
 f8:=Tryz.func125.trans (congrArg some (by kernel_rfl))
 f9:=⟨Tryz.f127.name,by decide,Tryz.func127.trans (congrArg some (by kernel_rfl))⟩
 f19:=Tryz.func143.trans (congrArg some (by kernel_rfl))
 f20:=Tryz.func144.trans (congrArg some (by kernel_rfl))
 f21:=⟨Tryz.f145.name,by decide,Tryz.func145.trans (congrArg some (by kernel_rfl))⟩
 f22:=⟨Tryz.f146.name,by decide,Tryz.func146.trans (congrArg some (by kernel_rfl))⟩
 f23:=⟨Tryz.f147.name,by decide,Tryz.func147.trans (congrArg some (by kernel_rfl))⟩
 f24:=⟨Tryz.f148.name,by decide,Tryz.func148.trans (congrArg some (by kernel_rfl))⟩
 f25:=⟨Tryz.f149.name,by decide,Tryz.func149.trans (congrArg some (by kernel_rfl))⟩
 f26:=⟨Tryz.f150.name,by decide,Tryz.func150.trans (congrArg some (by kernel_rfl))⟩
 f27:=⟨Tryz.f151.name,by decide,Tryz.func151.trans (congrArg some (by kernel_rfl))⟩
 f28:=⟨Tryz.f152.name,by decide,Tryz.func152.trans (congrArg some (by kernel_rfl))⟩
 f29:=⟨Tryz.f153.name,by decide,Tryz.func153.trans (congrArg some (by kernel_rfl))⟩
 f31:=Tryz.func162.trans (congrArg some (by kernel_rfl))
 f32:=Tryz.func163.trans (congrArg some (by kernel_rfl))
 f36:=⟨Tryz.f167.name,by decide,Tryz.func167.trans (congrArg some (by kernel_rfl))⟩
 f37:=⟨Tryz.f168.name,by decide,Tryz.func168.trans (congrArg some (by kernel_rfl))⟩
 f38:=⟨Tryz.f169.name,by decide,Tryz.func169.trans (congrArg some (by kernel_rfl))⟩
 f39:=⟨Tryz.f170.name,by decide,Tryz.func170.trans (congrArg some (by kernel_rfl))⟩
 f41:=⟨Tryz.f181.name,by decide,Tryz.func181.trans (congrArg some (by kernel_rfl))⟩
 t0:=Tryz.underlying0
 a0:=Tryz.isAgg0
 z0:=Tryz.sizeOf0
 v0:=Tryz.zeroValue0
 t3:=Tryz.underlying3
 a3:=Tryz.isAgg3
 z3:=Tryz.sizeOf3
 v3:=Tryz.zeroValue3
 t4:=Tryz.underlying4
 a4:=Tryz.isAgg4
 z4:=Tryz.sizeOf4
 v4:=Tryz.zeroValue4
 t5:=Tryz.underlying5
 a5:=Tryz.isAgg5
 z5:=Tryz.sizeOf5
 v5:=Tryz.zeroValue5
 t9:=Tryz.underlying9
 a9:=Tryz.isAgg9
 z9:=Tryz.sizeOf9
 v9:=Tryz.zeroValue9
 t26:=Tryz.underlying55
 a26:=Tryz.isAgg55
 z26:=Tryz.sizeOf55
 v26:=Tryz.zeroValue55
 t27:=Tryz.underlying55
 a27:=Tryz.isAgg55
 z27:=Tryz.sizeOf55
 v27:=Tryz.zeroValue55
 t29:=Tryz.underlying9
 a29:=Tryz.isAgg9
 z29:=Tryz.sizeOf9
 v29:=Tryz.zeroValue9
 t32:=Tryz.underlying145
 a32:=Tryz.isAgg145
 z32:=Tryz.sizeOf145
 v32:=Tryz.zeroValue145
 t35:=Tryz.underlying208
 a35:=Tryz.isAgg208
 z35:=Tryz.sizeOf208
 v35:=Tryz.zeroValue208
 t36:=Tryz.underlying209
 a36:=Tryz.isAgg209
 z36:=Tryz.sizeOf209
 v36:=Tryz.zeroValue209
 t41:=Tryz.underlying206
 a41:=Tryz.isAgg206
 z41:=Tryz.sizeOf206
 v41:=Tryz.zeroValue206
 t44:=Tryz.underlying54
 a44:=Tryz.isAgg54
 z44:=Tryz.sizeOf54
 v44:=Tryz.zeroValue54
 t46:=Tryz.underlying30
 a46:=Tryz.isAgg30
 z46:=Tryz.sizeOf30
 v46:=Tryz.zeroValue30
 t53:=Tryz.underlying227
 a53:=Tryz.isAgg227
 z53:=Tryz.sizeOf227
 v53:=Tryz.zeroValue227
 t57:=Tryz.underlying231
 a57:=Tryz.isAgg231
 z57:=Tryz.sizeOf231
 v57:=Tryz.zeroValue231
 t63:=Tryz.underlying246
 a63:=Tryz.isAgg246
 z63:=Tryz.sizeOf246
 v63:=Tryz.zeroValue246
 t64:=Tryz.underlying247
 a64:=Tryz.isAgg247
 z64:=Tryz.sizeOf247
 v64:=Tryz.zeroValue247}
def lay_keys133_ren:Go.Shelf.Ren:=⟨fun|7=>133|10=>160|n=>n,fun|23=>203|26=>9|3=>204|28=>157|0=>0|27=>156|33=>171|4=>4|n=>n,fun|n=>n⟩
theorem lay_keys133:Go.Proofs.SlLaysZ.n7 Tryz.prog lay_keys133_ren:={
 mixed:=by kernel_rfl
 f7:=⟨Tryz.f133.name,by decide,Tryz.func133.trans (congrArg some (by kernel_rfl))⟩
 f10:=⟨Tryz.f160.name,by decide,Tryz.func160.trans (congrArg some (by kernel_rfl))⟩
 t0:=Tryz.underlying0
 a0:=Tryz.isAgg0
 z0:=Tryz.sizeOf0
 v0:=Tryz.zeroValue0
 t4:=Tryz.underlying4
 a4:=Tryz.isAgg4
 z4:=Tryz.sizeOf4
 v4:=Tryz.zeroValue4
 t23:=Tryz.underlying203
 a23:=Tryz.isAgg203
 z23:=Tryz.sizeOf203
 v23:=Tryz.zeroValue203
 t26:=Tryz.underlying9
 a26:=Tryz.isAgg9
 z26:=Tryz.sizeOf9
 v26:=Tryz.zeroValue9
 t27:=Tryz.underlying156
 a27:=Tryz.isAgg156
 z27:=Tryz.sizeOf156
 v27:=Tryz.zeroValue156
 t28:=Tryz.underlying157
 a28:=Tryz.isAgg157
 z28:=Tryz.sizeOf157
 v28:=Tryz.zeroValue157
 t33:=Tryz.underlying171
 a33:=Tryz.isAgg171
 z33:=Tryz.sizeOf171
 v33:=Tryz.zeroValue171}
theorem lay_sorts84 (m:Nat):AnyZ.SortsIn Tryz.prog lay_sorted84_ren Fence.wide m:=
 ⟨fun blk off cap ss W hH hblk hsz=>callsIn_wide.2 (AnyM.slices_Sort_string lay_sort105 blk off cap ss W hH hblk hsz),
  fun p cap W=>callsIn_wide.2 (AnyM.slices_Sort_string_none lay_sort105 p cap W)⟩
theorem lay_maps_Keys_85 (mb:Option Nat) (W:World):CallsIn Fence.wide 5 Tryz.prog 85 #[.map mb] W fun e w'=>e=.returned (.func (.func 106) #[] #[.pointer (some ⟨W.heap.size,0,none⟩)])/\w'=W.alloc (.cells #[.map mb] 118):=
 AnyZ.keys_in lay_keys85 Fence.wide 5 trivial rfl mb W
theorem lay_slices_Sorted_keys_84_85 {H:Type} (b nn:Nat) (D0:DataW H) (R:Value->Option (DataW H × List MemPlace)) (w:World) (hown:w.ownsMap Tryz.prog 9 R b nn D0) (hmax:Maps.size D0<=maxLen) (hbytes:Maps.size D0*16<=140737488355328):
 CallsIn Fence.wide 5 Tryz.prog 84 #[.func (.func 106) #[] #[.pointer (some ⟨w.heap.size,0,none⟩)]] (w.alloc (.cells #[.map (some b)] 118)) fun e w'=>∃(v:Value) (ss:List (List UInt8)),e=.returned v/\ss.Perm (strKeys D0)/\
  w'.ownsRow (w.alloc (.cells #[.map (some b)] 118)).heap.size 9 1 v ss.length ((ss.mergeSort (fun x y=>decide (x<=y))).map encStr)/\(v=.slice none 0 0<->ss=[])/\Below (w.alloc (.cells #[.map (some b)] 118)).heap.size (w.alloc (.cells #[.map (some b)] 118)) w':=by
 have hbl:=hown.lt
 have hseq:SeqGives Fence.wide 2 Tryz.prog 106 #[.pointer (some ⟨w.heap.size,0,none⟩)] encStr (fun ss=>ss.Perm (strKeys D0)) (Maps.size D0) (w.alloc (.cells #[.map (some b)] 118)):=
  AnyZ.keys_gives (ρ:=lay_keys85_ren) {lay_keys85 with} Fence.wide _ trivial rfl (by omega) w.heap.size b nn D0 _ (by simp) (by simp) (by
   obtain ⟨es,clock,hb,Ft,hs,hD⟩:=hown;exact ⟨es,clock,(Below.heap_alloc _ _ b hbl).trans hb,Ft,hs,hD⟩)
 exact AnyZ.sorted_in lay_sorted84 Fence.wide 5 trivial trivial trivial trivial rfl (by omega) (lay_sorts84 _) (enters_of Tryz.func105 (by kernel_rfl) rfl) 106 #[.pointer (some ⟨w.heap.size,0,none⟩)] trivial (enters_of Tryz.func106 (by kernel_rfl) rfl) _ _ hmax hbytes _ hseq
theorem lay_slices_Sorted_keys_nil_84_85 (w:World):
 CallsIn Fence.wide 5 Tryz.prog 84 #[.func (.func 106) #[] #[.pointer (some ⟨w.heap.size,0,none⟩)]] (w.alloc (.cells #[.map none] 118)) fun e w'=>∃(v:Value) (ss:List (List UInt8)),e=.returned v/\ss=[]/\
  w'.ownsRow (w.alloc (.cells #[.map none] 118)).heap.size 9 1 v ss.length ((ss.mergeSort (fun x y=>decide (x<=y))).map encStr)/\(v=.slice none 0 0<->ss=[])/\Below (w.alloc (.cells #[.map none] 118)).heap.size (w.alloc (.cells #[.map none] 118)) w':=by
 have hseq:SeqGives Fence.wide 2 Tryz.prog 106 #[.pointer (some ⟨w.heap.size,0,none⟩)] encStr (fun ss:List (List UInt8)=>ss=[]) 0 (w.alloc (.cells #[.map none] 118)):=
  AnyZ.keys_gives_nil (ρ:=lay_keys85_ren) {lay_keys85 with} Fence.wide _ trivial rfl w.heap.size _ (by simp) (by simp)
 exact AnyZ.sorted_in lay_sorted84 Fence.wide 5 trivial trivial trivial trivial rfl (by omega) (lay_sorts84 _) (enters_of Tryz.func105 (by kernel_rfl) rfl) 106 #[.pointer (some ⟨w.heap.size,0,none⟩)] trivial (enters_of Tryz.func106 (by kernel_rfl) rfl) _ 0 (Nat.zero_le _) (by omega) _ hseq
theorem lay_maps_Keys_133 (mb:Option Nat) (W:World):CallsIn Fence.wide 5 Tryz.prog 133 #[.map mb] W fun e w'=>e=.returned (.func (.func 160) #[] #[.pointer (some ⟨W.heap.size,0,none⟩)])/\w'=W.alloc (.cells #[.map mb] 203):=
 AnyZ.keys_in lay_keys133 Fence.wide 5 trivial rfl mb W
theorem lay_slices_Sorted_keys_84_133 {H:Type} (b nn:Nat) (D0:DataW H) (R:Value->Option (DataW H × List MemPlace)) (w:World) (hown:w.ownsMap Tryz.prog 9 R b nn D0) (hmax:Maps.size D0<=maxLen) (hbytes:Maps.size D0*16<=140737488355328):
 CallsIn Fence.wide 5 Tryz.prog 84 #[.func (.func 160) #[] #[.pointer (some ⟨w.heap.size,0,none⟩)]] (w.alloc (.cells #[.map (some b)] 203)) fun e w'=>∃(v:Value) (ss:List (List UInt8)),e=.returned v/\ss.Perm (strKeys D0)/\
  w'.ownsRow (w.alloc (.cells #[.map (some b)] 203)).heap.size 9 1 v ss.length ((ss.mergeSort (fun x y=>decide (x<=y))).map encStr)/\(v=.slice none 0 0<->ss=[])/\Below (w.alloc (.cells #[.map (some b)] 203)).heap.size (w.alloc (.cells #[.map (some b)] 203)) w':=by
 have hbl:=hown.lt
 have hseq:SeqGives Fence.wide 2 Tryz.prog 160 #[.pointer (some ⟨w.heap.size,0,none⟩)] encStr (fun ss=>ss.Perm (strKeys D0)) (Maps.size D0) (w.alloc (.cells #[.map (some b)] 203)):=
  AnyZ.keys_gives (ρ:=lay_keys133_ren) {lay_keys133 with} Fence.wide _ trivial rfl (by omega) w.heap.size b nn D0 _ (by simp) (by simp) (by
   obtain ⟨es,clock,hb,Ft,hs,hD⟩:=hown;exact ⟨es,clock,(Below.heap_alloc _ _ b hbl).trans hb,Ft,hs,hD⟩)
 exact AnyZ.sorted_in lay_sorted84 Fence.wide 5 trivial trivial trivial trivial rfl (by omega) (lay_sorts84 _) (enters_of Tryz.func105 (by kernel_rfl) rfl) 160 #[.pointer (some ⟨w.heap.size,0,none⟩)] trivial (enters_of Tryz.func160 (by kernel_rfl) rfl) _ _ hmax hbytes _ hseq
end Go.Proofs.YtfjmdkhemnmkpaaGreatDoor
