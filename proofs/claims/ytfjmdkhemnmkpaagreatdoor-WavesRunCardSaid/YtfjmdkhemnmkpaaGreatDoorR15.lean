/- Parts of the proof: SqS, KqSm, AqS, AqC, OwnI, WvK, WvAlR, CmGreat. -/
import Derived.Test.YtfjmdkhemnmkpaaGreatDoorR09
import Derived.Shelf.SlMaps.Equal
import Derived.Laws.StructEq
import Derived.Maps.RangeWalk
import Derived.Laws.IdiomRangeMap
import Derived.Deep.LoopGhost
import Derived.Sort.MapsRangeIn
import Derived.Test.YtfjmdkhemnmkpaaGreatDoorR04
import Derived.Test.YtfjmdkhemnmkpaaGreatDoorR08
import Derived.Test.YtfjmdkhemnmkpaaGreatDoorR13
import Derived.Test.YtfjmdkhemnmkpaaGreatDoorR01
import Derived.Maps.AppendAt
import Derived.Test.YtfjmdkhemnmkpaaGreatDoorR14
import Derived.Test.YtfjmdkhemnmkpaaGreatDoorR02
import Derived.Test.YtfjmdkhemnmkpaaGreatDoorR03
import Derived.Deep.DeepCutAuto
set_option maxRecDepth 100000
set_option maxHeartbeats 8000000
namespace Go.Proofs.YtfjmdkhemnmkpaaGreatDoor
open Go.Maps Go.RowKit Go.WideMaps
theorem eq_sess (op:BinOp) (w:World) (x y:Operand) (us vs:Array Value):(eqGuard op 111 x y (.agg us) (.agg vs)).run Tryz.prog w=.ok () w:=by
 have h:Tryz.prog.eqGuardType Tryz.prog.depth 111=false:=by kernel_rfl
 cases op<;>simp [eqGuard,h]
theorem ne_sess (w:World) (sq cd:Nat) (tx:ByteArray):(binOp .neq 111 (.agg #[.int .u32 (sq:Int),.int .u8 (cd:Int),.string tx]) (.agg #[.int .u32 (sq:Int),.int .u8 (cd:Int),.string tx])).run Tryz.prog w=.ok (.bool false) w:=by
 simp [go_sem]
theorem at_sess {l:List SE} {n:Nat} {d:SE} (h:∀zd,(mapS l).atKey (kyS n) zd=sessD d):∃u,lookS l n=some u/\sessV u=sessV d:=by
 cases hl:lookS l n with
 |none=>
  have:=h (.map []);rw [mapS_at,hl] at this
  cases this
 |some u=>
  have:=h (.map []);rw [mapS_at,hl] at this;exact ⟨u,rfl,sessD_eq this⟩
theorem equal_bothS {w:World} {b1:Nat} {p2:Option Nat} {l:List SE} (h1:MapQS w b1 l) (h2:MapOS w p2 l):
 Calls Tryz.prog 61 #[.map (some b1),.map p2] w fun e W'=>e=.returned (.bool true)/\w.grownBy W' none:=by
 have l1':=fun ty=>MapOS.len (p:=some b1) h1 ty
 have l2':=fun ty=>MapOS.len h2 ty
 have hb2:∀b,p2=some b->b<w.heap.size:=fun b e=>(geS.1 (h2.blk e).choose_spec.choose_spec).1
 obtain ⟨N1,hN1⟩:∃N,N=l.length:=⟨_,rfl⟩;rw [<-hN1] at l1' l2';have H2:=hiD h2;have H1:=hiD (show w.ownsMap Tryz.prog 54 sessR b1 N1 (mapS l) from by rw [hN1];exact h1);have HB2:=hiD hb2;clear h1 h2 hb2 hN1;go_enter Tryz.func61,Tryz.ntmps61
 go_wp2_with (first
  |(at_range;refine wpList_range_own _ rfl _ 123 rfl 54 111 keyedU32 Tryz.underlying123 sessR b1 N1 _ rfl H1.out ?_;intro w0 hrg0 hg0 hs0)
  |go_in)
 go_frame
 go_loopw [5] (fun _ wr=>∃(left:Lit->Bool) (cnt:Nat),wr.ranges Tryz.prog 54 sessR b1 w.heap.size N1 (mapS l) left cnt/\MapOS wr p2 l/\w.grownBy wr none)
  (fun _ wr=>wr.rangeLeft b1 w.heap.size)
 case atStart=>exact ⟨_,_,hrg0,MapOS.keep H2.out (fun b e=>hg0.block b (HB2.out b e) (by simp)),hg0⟩
 case round=>
  obtain ⟨left,cnt,hrg,h2r,hgw⟩:=hrel
  go_wp2_with (first
   |(at_next;refine wpList_next_ranges _ rfl _ rfl 54 keyedU32 sessR (Value.int .u32) sessV (fun key _ hk=>let ⟨x,e,_⟩:=Maps.keyOf_int_inv Tryz.underlying54 hk;⟨x,e⟩) (fun v y hv=>let ⟨s,e,_⟩:=sessR_inv hv;⟨s,e⟩) b1 w.heap.size N1 _ _ _ rfl hrg ?_ ?_)
   |go_in)
  ·intro _ hl0;go_wp2;go_ret;exact ⟨rfl,hgw⟩
  ·intro x c kl y yp w1 cnt1 hkey hlx hv hat hrg1 hlt hg1 hs1 hen;obtain ⟨x',ex,rfl,hwx⟩:=Maps.keyOf_int_inv Tryz.underlying54 hkey;obtain rfl:x=x':=by simpa using ex
   obtain ⟨n,rfl,hn⟩:∃n:Nat,x=(n:Int)/\n<4294967296:=by
    simp [Lit.wf,IntKind.min,IntKind.max,IntKind.signed,IntKind.bits] at hwx;exact ⟨x.toNat,by omega,by omega⟩
   obtain ⟨d,hcd,hyd⟩:=sessR_inv hv
   cases hyd
   obtain ⟨u,hlu,hud⟩:=at_sess (n:=n) hat;have hcu:sessV u=sessV c:=hud.trans hcd.symm;have hgw1:w.grownBy w1 none:=hgw.andThen hg1 (fun j hj=>by cases hj;exact Or.inl (nLr _));have h2w1:MapOS w1 p2 l:=h2r.keep (fun b eb=>hg1.block b (nLl (HB2.out b eb) hgw.size) (fun e=>by have:=osI e;have:=HB2.out b eb;omega));obtain ⟨cc,sq,cd,tx⟩:=c;simp only [sessV] at hen hcu ⊢;have hrgA:=hrg1.alloc (Obj.cells #[.int .u32 (sq:Int),.int .u8 (cd:Int),.string tx] 111);have hgA:w.grownBy (w1.alloc (Obj.cells #[.int .u32 (sq:Int),.int .u8 (cd:Int),.string tx] 111)) none:=hgw1.andThen (World.grownBy_alloc w1 _ none) (fun j hj=>by cases hj);have h2A:MapOS (w1.alloc (Obj.cells #[.int .u32 (sq:Int),.int .u8 (cd:Int),.string tx] 111)) p2 l:=h2w1.below ((Below.refl _ w1).alloc (nLr _) _);have k1:(w1.alloc (Obj.cells #[.int .u32 (sq:Int),.int .u8 (cd:Int),.string tx] 111)).heap[w1.heap.size]?=some (.cells #[.int .u32 (sq:Int),.int .u8 (cd:Int),.string tx] 111 (0,0)):=wAh w1 _;have hM:=hiD (aI hrg hlt);clear hat hrg1 hg1 hgw1 h2w1 h2r hv hkey hgw hs1 hrg hlt hwx ex;obtain ⟨W2,hW2⟩:∃W2,W2=w1.alloc (Obj.cells #[.int .u32 (sq:Int),.int .u8 (cd:Int),.string tx] 111):=⟨_,rfl⟩;rw [<-hW2] at hrgA hgA h2A k1;obtain ⟨P1,hP1⟩:∃P1,P1=w1.heap.size:=⟨_,rfl⟩;rw [<-hP1] at k1;have hrun:=h2A.look hn;have hval:sessV (valS l n)=.agg #[.int .u32 (sq:Int),.int .u8 (cd:Int),.string tx]:=by unfold valS;rw [hlu];exact hcu
   rw [hval,hlu,Option.isSome_some] at hrun;have c0:W2.cell? ⟨P1,0,none⟩=some (.int .u32 (sq:Int)):=blk_cell k1 0;have c1:W2.cell? ⟨P1,1,none⟩=some (.int .u8 (cd:Int)):=blk_cell k1 1;have c2:W2.cell? ⟨P1,2,none⟩=some (.string tx):=blk_cell k1 2;have hBA:Below W2.heap.size W2 (W2.alloc (Obj.cells #[.int .u32 (sq:Int),.int .u8 (cd:Int),.string tx] 111)):=(Below.refl _ W2).alloc (nLr _) _;have hPl:=(geS.1 k1).1;have d0:=(hBA.cell (p:=⟨P1,0,none⟩) hPl).trans c0;have d1:=(hBA.cell (p:=⟨P1,1,none⟩) hPl).trans c1;have d2:=(hBA.cell (p:=⟨P1,2,none⟩) hPl).trans c2;have HG2:Hid (w.grownBy (W2.alloc (Obj.cells #[.int .u32 (sq:Int),.int .u8 (cd:Int),.string tx] 111)) none/\(W2.alloc (Obj.cells #[.int .u32 (sq:Int),.int .u8 (cd:Int),.string tx] 111)).ranges Tryz.prog 54 sessR b1 w.heap.size N1 (mapS l) (fun z=>left z&&!z.sameKey (kyS n)) cnt1/\MapOS (W2.alloc (Obj.cells #[.int .u32 (sq:Int),.int .u8 (cd:Int),.string tx] 111)) p2 l):=hiD ⟨hgA.andThen (World.grownBy_alloc W2 _ none) (fun j hj=>by cases hj),hrgA.alloc _,h2A.below hBA⟩;have hg2:=fun (W:World) a b us vs=>eq_sess .neq W a b us vs
   have hne2:=fun (W:World)=>ne_sess W sq cd tx
   clear hrgA hgA h2A k1 hlu hud hcu hval hBA hPl hcd;go_upto_region 6 with (fail)
   rw [<-hW2,<-hP1];clear hW2 hP1 hen;go_wp2;refine ⟨⟨_,cnt1,HG2.out.2.1,HG2.out.2.2,HG2.out.1⟩,?_⟩;rw [HG2.out.2.1.left_eq,hM.out.1.left_eq];exact hM.out.2
theorem equal_nilS {w:World} {p2:Option Nat} (h2:MapOS w p2 []):
 Calls Tryz.prog 61 #[.map none,.map p2] w fun e W'=>e=.returned (.bool true)/\w.grownBy W' none:=by
 have l1':=fun ty=>(show MapOS w none [] from rfl).len ty
 have l2':=fun ty=>h2.len ty
 have hrg:=run_range_nilMap (P:=Tryz.prog) w 123 _ _ Tryz.underlying123;have hnx:∀ty,(Instr.next (.pointer (some ⟨w.heap.size,0,none⟩)) false ty).run Tryz.prog (w.alloc (.mapIter none 0 #[] 0))=_:=fun ty=>run_next_nilMap _ ty 0 0 #[]
 clear h2;go_enter Tryz.func61,Tryz.ntmps61;go_wp2;refine wp_loop_rounds 1 ?_;rw [rounds_succ];go_wp2;go_ret;exact ⟨rfl,World.grownBy_alloc w _ none⟩
theorem same_tables {w:World} {R S:Nat} {p1 p2:Option Nat} {l:List SE} (h1:StQS w R p1 l) (h2:StQS w S p2 l):
 Calls Tryz.prog 38 #[.pointer (some ⟨R,0,none⟩),.pointer (some ⟨S,0,none⟩)] w fun e W'=>e=.returned (.bool true)/\Below w.heap.size w W':=by
 have HA:=hiD (all_anyS h1);have HB:=hiD (all_anyS h2);have gb:∀{W':World},w.grownBy W' none->Below w.heap.size w W':=fun hg=>(Below.refl _ w).grown hg (nLr _) (fun j hj=>by cases hj)
 have HE:Hid (Calls Tryz.prog 61 #[.map p1,.map p2] w fun e W'=>e=.returned (.bool true)/\Below w.heap.size w W'):=hiD (by
  have m1:=h1.map;have m2:=h2.map
  cases p1 with
  |none=>
   obtain rfl:l=[]:=m1;exact (equal_nilS m2).mono fun _ _ ⟨he,hg⟩=>⟨he,gb hg⟩
  |some b=>exact (equal_bothS (show MapQS w b l from m1) m2).mono fun _ _ ⟨he,hg⟩=>⟨he,gb hg⟩)
 clear h1 h2 gb;go_enter Tryz.func38,Tryz.ntmps38
 go_wp2_with fail
 refine HA.out.mono ?_;rintro e W ⟨rfl,rfl⟩
 go_wp2_with fail
 refine HB.out.mono ?_;rintro e W1 ⟨rfl,rfl⟩
 go_wp2_with fail
 refine HE.out.mono ?_;rintro e W2 ⟨rfl,hb2⟩;have HB2:=hiD hb2;clear hb2;go_wp2;go_ret;exact ⟨rfl,HB2.out⟩
def eqT:DataW Unit->DataW Unit->Bool
 |.lit (.string s),.lit (.string t)=>decide (s=t)
 |_,_=>false
theorem eqT_lit (a b:ByteArray):eqT (.lit (litB a)) (.lit (litB b))=decide (a=b):=by
 show decide (a.data.toList=b.data.toList)=_
 by_cases h:a=b
 ·subst h;simp
 ·rw [decide_eq_false h,decide_eq_false];intro e;exact h (ByteArray.ext (Array.ext' e))
theorem sub_len:∀{m l:List PV},SortedP l->SortedP m->(∀p∈l,p∈m)->l.length<=m.length
 |[],l,_,_,h=>by
  cases l with
  |nil=>exact nLr _
  |cons a r=>exact absurd (h a (List.mem_cons_self ..)) (by simp)
 |b::m,[],_,_,_=>Nat.zero_le _
 |b::m,a::r,hl,hm,h=>by
  have hl':=List.pairwise_cons.1 hl;have hm':=List.pairwise_cons.1 hm
  by_cases hab:a=b
  ·subst hab
   have:=sub_len (m:=m) (l:=r) hl'.2 hm'.2 fun p hp=>by
    rcases List.mem_cons.1 (h p (List.mem_cons_of_mem _ hp)) with e|e
    ·exact absurd (hl'.1 p hp) (by rw [e,ltB_irr];decide)
    ·exact e
   simpa using this
  ·have ham:a∈m:=(List.mem_cons.1 (h a (List.mem_cons_self ..))).resolve_left hab;have hba:=hm'.1 a ham
   have:=sub_len (m:=m) (l:=a::r) hl hm'.2 fun p hp=>by
    rcases List.mem_cons.1 (h p hp) with e|e
    ·rcases List.mem_cons.1 hp with e2|e2
     ·exact absurd (e2.symm.trans e) hab
     ·exact absurd (ltB_trans hba (hl'.1 p e2)) (by rw [e,ltB_irr];decide)
    ·exact e
   simp only [List.length_cons] at this ⊢;omega
theorem sub_eq:∀{m l:List PV},SortedP l->SortedP m->(∀p∈l,p∈m)->l.length=m.length->l=m
 |[],l,_,_,_,hn=>List.eq_nil_of_length_eq_zero hn
 |b::m,[],_,_,_,hn=>by simp at hn
 |b::m,a::r,hl,hm,h,hn=>by
  have hl':=List.pairwise_cons.1 hl;have hm':=List.pairwise_cons.1 hm
  have hab:a=b:=Decidable.byContradiction fun hab=>by
   have ham:a∈m:=(List.mem_cons.1 (h a (List.mem_cons_self ..))).resolve_left hab;have hba:=hm'.1 a ham
   have:=sub_len (m:=m) (l:=a::r) hl hm'.2 fun p hp=>by
    rcases List.mem_cons.1 (h p hp) with e|e
    ·rcases List.mem_cons.1 hp with e2|e2
     ·exact absurd (e2.symm.trans e) hab
     ·exact absurd (ltB_trans hba (hl'.1 p e2)) (by rw [e,ltB_irr];decide)
    ·exact e
   simp only [List.length_cons] at this hn;omega
  subst hab
  rw [sub_eq (m:=m) (l:=r) hl'.2 hm'.2 (fun p hp=>by
   rcases List.mem_cons.1 (h p (List.mem_cons_of_mem _ hp)) with e|e
   ·exact absurd (hl'.1 p hp) (by rw [e,ltB_irr];decide)
   ·exact e) (by simpa using hn)]
theorem goodT (l:List PV) (k v:ByteArray):Lib.goodD eqT (mapD l) (litB k,.lit (litB v))=decide (lookP l k=some v):=by
 unfold Lib.goodD;simp only [mapD_has,mapD_at]
 cases h:lookP l k with
 |none=>simp
 |some u=>
  simp only [Option.isSome_some,Bool.true_and,Option.elim_some];rw [eqT_lit]
  by_cases e:v=u
  ·subst e;simp
  ·simp [e,Ne.symm e]
theorem equal_pairs {l m:List PV} (hl:SortedP l) (hm:SortedP m):Lib.equalFuncD eqT (mapD l) (mapD m)=decide (l=m):=by
 unfold Lib.equalFuncD;rw [mapD_size,mapD_size]
 have hall:(Lib.entriesD (mapD l)).all (Lib.goodD eqT (mapD m))=true<->∀p∈l,lookP m p.1=some p.2:=by
  show (l.map fun p=>(litB p.1,(.lit (litB p.2):DataW Unit))).all (Lib.goodD eqT (mapD m))=true<->_;rw [List.all_map,List.all_eq_true];refine forall₂_congr fun p _=>?_
  show Lib.goodD eqT (mapD m) (litB p.1,.lit (litB p.2))=true<->_;rw [goodT,decide_eq_true_iff]
 by_cases e:l=m
 ·subst e;rw [decide_eq_true rfl,decide_eq_true rfl,Bool.true_and,hall];intro p hp
  cases hc:lookP l p.1 with
  |none=>
   have:=lookP_of_mem (k:=p.1) (v:=p.2) hp;rw [hc] at this
   cases this
  |some u=>
   have h1:=lookP_mem hc
   by_cases hu:u=p.2
   ·rw [hu]
   ·exfalso
    obtain ⟨i,hi,e1⟩:=List.mem_iff_getElem.1 h1;obtain ⟨j,hj,e2⟩:=List.mem_iff_getElem.1 hp
    rcases Nat.lt_trichotomy i j with h|h|h
    ·have:=List.pairwise_iff_getElem.1 hl i j hi hj h;rw [e1,e2,ltB_irr] at this
     cases this
    ·subst h;rw [e1] at e2;exact hu (congrArg Prod.snd e2)
    ·have:=List.pairwise_iff_getElem.1 hl j i hj hi h;rw [e1,e2,ltB_irr] at this
     cases this
 ·rw [decide_eq_false e]
  by_cases hn:l.length=m.length
  ·rw [decide_eq_true hn,Bool.true_and]
   cases hb:(Lib.entriesD (mapD l)).all (Lib.goodD eqT (mapD m)) with
   |false=>rfl
   |true=>exact absurd (sub_eq hl hm (fun p hp=>lookP_mem (hall.1 hb p hp)) hn) e
  ·rw [decide_eq_false hn,Bool.false_and]
theorem eq_held (op:BinOp) (w:World) (x y:Operand) (a b:ByteArray):(eqGuard op 120 x y (heldV a) (heldV b)).run Tryz.prog w=.ok () w:=by
 have h:Tryz.prog.eqGuardType Tryz.prog.depth 120=false:=by kernel_rfl
 cases op<;>simp [eqGuard,h]
theorem ne_held_same (w:World) (a:ByteArray):(binOp .neq 120 (heldV a) (heldV a)).run Tryz.prog w=.ok (.bool false) w:=by
 simp [go_sem]
theorem ne_held_other (w:World) {a b:ByteArray} (h:a≠b):(binOp .neq 120 (heldV a) (heldV b)).run Tryz.prog w=.ok (.bool true) w:=by
 have hne:¬a.toList=b.toList:=fun e=>h (toList_inj9.1 e)
 simp [go_sem,hne]
end Go.Proofs.YtfjmdkhemnmkpaaGreatDoor
namespace Go.Proofs.YtfjmdkhemnmkpaaGreatDoor
open Go.Maps Go.RowKit Go.Shelf Go.WideMaps
theorem keyOf_str {x:ByteArray} {kl:Lit} (h:keyOf Tryz.prog 9 (.string x)=some kl):x.size<=maxLen/\kl=litB x:=by
 by_cases hx:x.size<=maxLen
 ·rw [keyL hx] at h;exact ⟨hx,(osI h).symm⟩
 ·simp [keyOf,Tryz.underlying9,mapKey,hx] at h
theorem equal_both {w:World} {b1:Nat} {p2:Option Nat} {l1 l2:List PV} (h1:MapQ w b1 l1) (h2:MapO w p2 l2) (s1:SortedP l1) (s2:SortedP l2):
 Calls Tryz.prog 59 #[.map (some b1),.map p2] w fun e W'=>e=.returned (.bool (decide (l1=l2)))/\w.grownBy W' none:=by
 rw [<-equal_pairs s1 s2];have l1':=fun ty=>MapO.len (p:=some b1) h1 ty
 have l2':=fun ty=>MapO.len h2 ty
 have hm1:w.ownsMap Tryz.prog 9 heldR b1 l1.length (mapD l1):=h1;obtain ⟨es1,he,hap,hkeys⟩:=hm1.entries keyedS;have hsz1:Maps.size (.map es1:DataW Unit)=l1.length:=by rw [<-he,mapD_size]
 rw [he] at hm1 ⊢;have hb2:∀b,p2=some b->b<w.heap.size:=fun b e=>(geS.1 (h2.blk e).choose_spec.choose_spec).1
 generalize hres:Lib.equalFuncD eqT (.map es1) (mapD l2)=res
 have RES:Aside (Lib.equalFuncD eqT (.map es1) (mapD l2)=res):=hres;have HAPK:=hiD (aI hap hkeys);obtain ⟨N1,hN1⟩:∃N,N=l1.length:=⟨_,rfl⟩;obtain ⟨N2,hN2⟩:∃N,N=l2.length:=⟨_,rfl⟩;rw [<-hN1] at l1' hm1 hsz1;rw [<-hN2] at l2';have HN2:=hiD hN2;have H2:=hiD h2;have H1:=hiD hm1;clear hres h1 h2 he hN1 hN2 hap hkeys s1 s2
 by_cases hsz:N1=N2
 ·have HSZ:Hid (Maps.size (.map es1:DataW Unit)=Maps.size (mapD l2)):=hiD (by rw [hsz1,mapD_size,hsz];exact HN2.out);subst hsz;clear hsz1;have HB2:=hiD hb2;clear hb2;go_enter Tryz.func59,Tryz.ntmps59
  go_wp2_with (first
   |(at_range;refine wpList_range_own _ rfl _ 118 rfl 9 120 keyedS Tryz.underlying118 heldR b1 N1 _ rfl H1.out ?_;intro w0 hrg0 hg0 hs0)
   |go_in)
  go_frame
  go_loopw [5] (fun _ wr=>∃(left:Lit->Bool) (cnt:Nat),wr.ranges Tryz.prog 9 heldR b1 w.heap.size N1 (.map es1) left cnt/\MapO wr p2 l2/\w.grownBy wr none/\Aside (GoodAt eqT es1 (mapD l2) left))
   (fun _ wr=>wr.rangeLeft b1 w.heap.size)
  case atStart=>exact ⟨_,_,hrg0,MapO.keep H2.out (fun b e=>hg0.block b (HB2.out b e) (by simp)),hg0,good_start HAPK.out.2 _⟩
  case round=>
   obtain ⟨left,cnt,hrg,h2r,hgw,G⟩:=hrel
   go_wp2_with (first
    |(at_next;refine wpList_next_ranges _ rfl _ rfl 9 keyedS heldR Value.string heldV (fun key _ hk=>keyOf_string_inv Tryz.underlying9 hk) (fun v y hv=>let ⟨s,e,_⟩:=heldR_inv hv;⟨s,e⟩) b1 w.heap.size N1 _ _ _ rfl hrg ?_ ?_)
    |go_in)
   ·intro _ hl0;go_wp2;go_ret;exact ⟨by rw [<-RES.out,all_good G.out hl0 HSZ.out];rfl,hgw⟩
   ·intro x c kl yd yp w1 cnt1 hkey hlx hv hat hrg1 hlt hg1 hs1 hen;have hx:x.size<=maxLen/\kl=litB x:=keyOf_str hkey;obtain ⟨hxs,rfl⟩:=hx;obtain ⟨c',hc',hy⟩:=heldR_inv hv;obtain rfl:c=c':=by simpa using hc'
    obtain ⟨rfl,rfl⟩:=Prod.mk.inj hy;have hgw1:w.grownBy w1 none:=hgw.andThen hg1 (fun j hj=>by cases hj;exact Or.inl (nLr _));have h2w1:MapO w1 p2 l2:=h2r.keep (fun b eb=>hg1.block b (nLl (HB2.out b eb) hgw.size) (fun e=>by have:=osI e;have:=HB2.out b eb;omega));have HAT:=hiD hat;have hrgA:=hrg1.alloc (Obj.cells #[.string c] 120);have hgA:w.grownBy (w1.alloc (Obj.cells #[.string c] 120)) none:=hgw1.andThen (World.grownBy_alloc w1 _ none) (fun j hj=>by cases hj);have h2A:MapO (w1.alloc (Obj.cells #[.string c] 120)) p2 l2:=h2w1.below ((Below.refl _ w1).alloc (nLr _) _);have k1:(w1.alloc (Obj.cells #[.string c] 120)).heap[w1.heap.size]?=some (.cells #[.string c] 120 (0,0)):=wAh w1 _;have hM:=hiD (aI hrg hlt);clear hat hrg1 hg1 hgw1 h2w1 h2r hv hkey hgw hs1 hrg hlt;go_upto_region 6 with (fail)
    obtain ⟨W2,hW2⟩:∃W2,W2=w1.alloc (Obj.cells #[.string c] 120):=⟨_,rfl⟩;rw [<-hW2] at hrgA hgA h2A k1 ⊢;obtain ⟨P1,hP1⟩:∃P1,P1=w1.heap.size:=⟨_,rfl⟩;rw [<-hP1] at k1 ⊢;have hrun:=h2A.look hxs;have c1:W2.cell? ⟨P1,0,none⟩=some (.string c):=by simpa using blk_cell k1 0
    have HH:=hiD (aI hrgA (aI hgA (aI h2A k1)));clear hW2 hP1 hen;clear hrgA hgA h2A k1;obtain ⟨o,ho⟩:∃o,o=lookP l2 x:=⟨_,rfl⟩;rw [<-ho] at hrun;have HO:=hiD ho;clear ho
    cases o with
    |none=>
     have hbad:Lib.goodD eqT (mapD l2) (litB x,.lit (litB c))=false:=by rw [goodT,<-HO.out];rfl
     go_wp2;go_ret;exact ⟨by rw [<-RES.out,bad_false HAPK.out.1 HAPK.out.2 HAT.out hbad];rfl,HH.out.2.1.andThen (World.grownBy_alloc W2 _ none) (fun j hj=>by cases hj)⟩
    |some u=>
     have hrun':(Instr.lookup 118 (.map p2) (.string x) true).run Tryz.prog W2=.ok (.tuple #[.agg #[.string u],.bool true]) W2:=hrun;clear hrun;have c1':(W2.alloc (Obj.cells #[.string u] 120)).cell? ⟨P1,0,none⟩=some (.string c):=(((Below.refl _ W2).alloc (nLr _) (Obj.cells #[.string u] 120)).cell (p:=⟨P1,0,none⟩) (geS.1 HH.out.2.2.2).1).trans c1;have hg2:=fun (W:World) a b=>eq_held .neq W a b c u
     have HG2:Hid (w.grownBy (W2.alloc (Obj.cells #[.string u] 120)) none/\(W2.alloc (Obj.cells #[.string u] 120)).ranges Tryz.prog 9 heldR b1 w.heap.size N1 (.map es1) (fun z=>left z&&!z.sameKey (litB x)) cnt1/\MapO (W2.alloc (Obj.cells #[.string u] 120)) p2 l2):=hiD ⟨HH.out.2.1.andThen (World.grownBy_alloc W2 _ none) (fun j hj=>by cases hj),HH.out.1.alloc _,HH.out.2.2.1.below ((Below.refl _ W2).alloc (nLr _) _)⟩
     by_cases hcu:c=u
     ·subst hcu;have hne2:=fun (W:World)=>ne_held_same W c
      have hgood:Lib.goodD eqT (mapD l2) (litB x,.lit (litB c))=true:=by rw [goodT,<-HO.out];simp
      go_wp2;refine ⟨⟨_,cnt1,HG2.out.2.1,HG2.out.2.2,HG2.out.1,good_step HAPK.out.1 HAPK.out.2 HAT.out G.out hgood⟩,?_⟩;rw [HG2.out.2.1.left_eq,hM.out.1.left_eq];exact hM.out.2
     ·have hne2:=fun (W:World)=>ne_held_other W hcu
      have hbad:Lib.goodD eqT (mapD l2) (litB x,.lit (litB c))=false:=by rw [goodT,<-HO.out];simpa using fun e=>hcu e.symm
      go_wp2;go_ret;exact ⟨by rw [<-RES.out,bad_false HAPK.out.1 HAPK.out.2 HAT.out hbad];rfl,HG2.out.1⟩
 ·have hne:¬((N1:Int)=(N2:Int)):=fun e=>hsz (by exact_mod_cast e)
  have hneb:((N1:Int)==(N2:Int))=false:=by simpa using hne
  go_enter Tryz.func59,Tryz.ntmps59;go_wp2;go_ret;exact ⟨by rw [<-RES.out,sizes_false (by rw [hsz1,mapD_size,<-HN2.out];exact hsz),show ((N1:Int)!=(N2:Int))=true by simp [hne]];rfl,World.grownBy.refl _ _⟩
theorem equal_nil {w:World} {p2:Option Nat} {l2:List PV} (h2:MapO w p2 l2):
 Calls Tryz.prog 59 #[.map none,.map p2] w fun e W'=>e=.returned (.bool (decide (([]:List PV)=l2)))/\w.grownBy W' none:=by
 have l1':=fun ty=>(show MapO w none [] from rfl).len ty
 have l2':=fun ty=>h2.len ty
 have hrg:=run_range_nilMap (P:=Tryz.prog) w 118 _ _ Tryz.underlying118;have hnx:∀ty,(Instr.next (.pointer (some ⟨w.heap.size,0,none⟩)) false ty).run Tryz.prog (w.alloc (.mapIter none 0 #[] 0))=_:=fun ty=>run_next_nilMap _ ty 0 0 #[]
 cases l2 with
 |nil=>
  clear h2;go_enter Tryz.func59,Tryz.ntmps59;go_wp2;refine wp_loop_rounds 1 ?_;rw [rounds_succ];go_wp2;go_ret;exact ⟨rfl,World.grownBy_alloc w _ none⟩
 |cons a r=>
  obtain ⟨N,hN⟩:∃N,N=(a::r).length:=⟨_,rfl⟩;rw [<-hN] at l2';have hne:¬((0:Int)=(N:Int)):=by rw [hN];simp;omega
  clear h2 hN;go_enter Tryz.func59,Tryz.ntmps59;go_wp2;go_ret;exact ⟨rfl,World.grownBy.refl _ _⟩
theorem equal_any {w:World} {p1 p2:Option Nat} {l1 l2:List PV} (h1:MapO w p1 l1) (h2:MapO w p2 l2) (s1:SortedP l1) (s2:SortedP l2):
 Calls Tryz.prog 59 #[.map p1,.map p2] w fun e W'=>e=.returned (.bool (decide (l1=l2)))/\Below w.heap.size w W':=by
 have gb:∀{W':World},w.grownBy W' none->Below w.heap.size w W':=fun hg=>(Below.refl _ w).grown hg (nLr _) (fun j hj=>by cases hj)
 cases p1 with
 |none=>
  obtain rfl:l1=[]:=h1;exact (equal_nil h2).mono fun _ _ ⟨he,hg⟩=>⟨he,gb hg⟩
 |some b=>exact (equal_both (show MapQ w b l1 from h1) h2 s1 s2).mono fun _ _ ⟨he,hg⟩=>⟨he,gb hg⟩
theorem same_maps {w:World} {p1 p2:Option Nat} {l1 l2:List PV} (a b:Value) (h1:MapO w p1 l1) (h2:MapO w p2 l2) (s1:SortedP l1) (s2:SortedP l2)
 (ha:Calls Tryz.prog 60 #[a] w fun e W'=>e=.returned (.map p1)/\W'=w) (hb:Calls Tryz.prog 60 #[b] w fun e W'=>e=.returned (.map p2)/\W'=w):
 Calls Tryz.prog 37 #[a,b] w fun e W'=>e=.returned (.bool (decide (l1=l2)))/\Below w.heap.size w W':=by
 have HA:=hiD ha;have HB:=hiD hb;have HE:=hiD (equal_any h1 h2 s1 s2);obtain ⟨r,hr⟩:∃r,r=decide (l1=l2):=⟨_,rfl⟩;rw [<-hr] at HE ⊢;clear h1 h2 ha hb s1 s2 hr;go_enter Tryz.func37,Tryz.ntmps37
 go_wp2_with fail
 refine HA.out.mono ?_;rintro e W ⟨rfl,rfl⟩
 go_wp2_with fail
 refine HB.out.mono ?_;rintro e W1 ⟨rfl,rfl⟩
 go_wp2_with fail
 refine HE.out.mono ?_;rintro e W2 ⟨rfl,hb2⟩;have HB2:=hiD hb2;clear hb2;go_wp2;go_ret;exact ⟨rfl,HB2.out⟩
end Go.Proofs.YtfjmdkhemnmkpaaGreatDoor
namespace Go.Proofs.YtfjmdkhemnmkpaaGreatDoor
open Go.Maps Go.RowKit
theorem asame_any {F G:Nat->Prop} {w:World} {R S:Nat} {a:AM} (h1:AppQ F w R a) (h2:AppQ G w S a):
 Calls Tryz.prog 16 #[.pointer (some ⟨R,0,none⟩),.pointer (some ⟨S,0,none⟩)] w fun e W'=>e=.returned (.bool true)/\Below w.heap.size w W':=by
 obtain ⟨Rk,Rs,Fb,k1,b1,_,_⟩:=h1.ex;obtain ⟨Sk,Ss,Gb,k2,b2,_,_⟩:=h2.ex;have HA:=hiD (aall_any k1);have HB:Hid (∀W,Below w.heap.size w W->Calls Tryz.prog 30 #[.pointer (some ⟨S,0,none⟩)] W fun e W'=>e=.returned (.agg #[.pointer (some ⟨Sk,0,none⟩),.pointer (some ⟨Ss,0,none⟩),.int .u64 (a.n:Int)])/\Below W.heap.size W W'):=hiD (fun W hb=>aall_any ((hb.block S (geS.1 k2).1).trans k2));obtain ⟨Fk,Fs,hk1,hs1,_,_⟩:=b1.ex;obtain ⟨Gk,Gs,hk2,hs2,_,_⟩:=b2.ex
 have HK:Hid (∀W,Below w.heap.size w W->Calls Tryz.prog 37 #[.pointer (some ⟨Rk,0,none⟩),.pointer (some ⟨Sk,0,none⟩)] W fun e W'=>e=.returned (.bool true)/\Below W.heap.size W W'):=hiD (fun W hb=>by
  obtain ⟨q1,s1,o1,_⟩:=hk1;obtain ⟨q2,s2,o2,_⟩:=hk2;have t1:=s1.below hb;have t2:=s2.below hb;have:=same_maps _ _ t1.map t2.map o1 o2 (all_any t1) (all_any t2)
  rwa [decide_eq_true rfl] at this)
 have HS:Hid (∀W,Below w.heap.size w W->Calls Tryz.prog 38 #[.pointer (some ⟨Rs,0,none⟩),.pointer (some ⟨Ss,0,none⟩)] W fun e W'=>e=.returned (.bool true)/\Below W.heap.size W W'):=hiD (fun W hb=>by
  obtain ⟨q1,s1,_,_⟩:=hs1;obtain ⟨q2,s2,_,_⟩:=hs2;exact same_tables (s1.below hb) (s2.below hb))
 obtain ⟨n,hn⟩:∃n,n=a.n:=⟨_,rfl⟩;rw [<-hn] at HA HB;clear h1 h2 k1 k2 b1 b2 hk1 hk2 hs1 hs2 hn;go_enter Tryz.func16,Tryz.ntmps16
 go_wp2_with fail
 refine HA.out.mono ?_;rintro e W1 ⟨rfl,hb1⟩;have HB1:=hiD (HB.out W1 hb1);have B1:=hiD hb1;clear hb1
 go_wp2_with fail
 refine HB1.out.mono ?_;rintro e W2 ⟨rfl,hb2⟩;have B2:=hiD (B1.out.trans (Below.mono hb2 B1.out.size));clear hb2;obtain ⟨W3,hW3⟩:∃W3,W3=W2.alloc (Obj.cells #[.pointer (some ⟨Rk,0,none⟩),.pointer (some ⟨Rs,0,none⟩),.int .u64 (n:Int)] 77):=⟨_,rfl⟩;obtain ⟨W4,hW4⟩:∃W4,W4=W3.alloc (Obj.cells #[.pointer (some ⟨Sk,0,none⟩),.pointer (some ⟨Ss,0,none⟩),.int .u64 (n:Int)] 77):=⟨_,rfl⟩;obtain ⟨P1,hP1⟩:∃P1,P1=W2.heap.size:=⟨_,rfl⟩;obtain ⟨P2,hP2⟩:∃P2,P2=P1+1:=⟨_,rfl⟩;have h3s:W3.heap.size=P2:=by rw [hW3,hP2,hP1];exact World.size_alloc _ _
 have a3:W3.heap[P1]?=some (.cells #[.pointer (some ⟨Rk,0,none⟩),.pointer (some ⟨Rs,0,none⟩),.int .u64 (n:Int)] 77 (0,0)):=by rw [hW3,hP1];exact wAh W2 _
 have a4:W4.heap[P2]?=some (.cells #[.pointer (some ⟨Sk,0,none⟩),.pointer (some ⟨Ss,0,none⟩),.int .u64 (n:Int)] 77 (0,0)):=by rw [hW4,<-h3s];exact wAh W3 _
 have g4:Below W3.heap.size W3 W4:=by rw [hW4];exact (Below.refl _ W3).alloc (nLr _) _
 have b4:Below w.heap.size w W4:=by
  have h3:Below w.heap.size w W3:=by rw [hW3];exact B2.out.alloc B2.out.size _
  exact h3.trans (Below.mono g4 h3.size)
 have a3':W4.heap[P1]?=some (.cells #[.pointer (some ⟨Rk,0,none⟩),.pointer (some ⟨Rs,0,none⟩),.int .u64 (n:Int)] 77 (0,0)):=(g4.block P1 (geS.1 a3).1).trans a3;have x0:W4.cell? ⟨P1,0,none⟩=some (.pointer (some ⟨Rk,0,none⟩)):=blk_cell a3' 0;have x1:W4.cell? ⟨P1,1,none⟩=some (.pointer (some ⟨Rs,0,none⟩)):=blk_cell a3' 1;have x2:W4.cell? ⟨P1,2,none⟩=some (.int .u64 (n:Int)):=blk_cell a3' 2;have y0:W4.cell? ⟨P2,0,none⟩=some (.pointer (some ⟨Sk,0,none⟩)):=blk_cell a4 0;have y1:W4.cell? ⟨P2,1,none⟩=some (.pointer (some ⟨Ss,0,none⟩)):=blk_cell a4 1;have y2:W4.cell? ⟨P2,2,none⟩=some (.int .u64 (n:Int)):=blk_cell a4 2;have HKW:=hiD (HK.out W4 b4);have B4:=hiD b4;have A3:=hiD a3';have A4:=hiD a4;clear a3 a4 a3' b4 g4 h3s;go_upto_region 2 with (fail)
 rw [<-hW3,<-hW4,<-hP1,<-hP2];clear hW3 hW4 hP1 hP2
 go_wp2_with fail
 refine HKW.out.mono ?_;rintro e W5 ⟨rfl,hb5⟩;have c1:W5.cell? ⟨P1,1,none⟩=some (.pointer (some ⟨Rs,0,none⟩)):=(hb5.cell (p:=⟨P1,1,none⟩) (geS.1 A3.out).1).trans x1;have c2:W5.cell? ⟨P2,1,none⟩=some (.pointer (some ⟨Ss,0,none⟩)):=(hb5.cell (p:=⟨P2,1,none⟩) (geS.1 A4.out).1).trans y1;have B5:=hiD (B4.out.trans (Below.mono hb5 B4.out.size));have HSW:=hiD (HS.out W5 B5.out);clear hb5 x0 x1 x2 y0 y1 y2
 go_wp2_with fail
 refine HSW.out.mono ?_;rintro e W6 ⟨rfl,hb6⟩;have B6:=hiD (B5.out.trans (Below.mono hb6 B5.out.size));clear hb6 c1 c2;go_wp2;go_ret;exact ⟨rfl,B6.out⟩
theorem abytes_anyB {F:Nat->Prop} {w:World} {R:Nat} {a:AM} (h:AppQ F w R a) (hlk:(bytesP a.ps).length<=5000000) (hlt:(bytesSS a.ss).length<=9000000) (hlp:LimP a.ps) (hls:LimB 100000 a.ss):Calls Tryz.prog 14 #[.pointer (some ⟨R,0,none⟩)] w fun e W'=>∃v n,e=.returned v/\W'.ownsRow w.heap.size 5 1 v n ((bytesA a).map enc)/\Below w.heap.size w W':=by
 obtain ⟨Rk,Rs,Fb,h1,h2,h3,h4⟩:=h.ex;obtain ⟨ps,ss,n⟩:=a;simp only at h1 h2 hlp hls hlk hlt;have hn:=h.n;simp only at hn;have hl3:(vb n).length<=3000/\(bytesP ps).length<=5000000/\(bytesSS ss).length<=9000000:=⟨by have:=vb_len10 hn;omega,hlk,hlt⟩;have HA:=hiD (aall_any h1);have HB:=hiD (aI h1 (aI h2 (aI hlp (aI hls (aI hl3 hn)))));clear h1 h2 h3 h4 h hlp hls hl3 hlk hlt hn;go_enter Tryz.func14,Tryz.ntmps14;go_upto_region 2 with (refine HA.out.mono ?_;rintro e W1 ⟨rfl,b1⟩)
 obtain ⟨W2,hW2⟩:∃W2,W2=W1.alloc (Obj.cells #[.pointer (some ⟨Rk,0,none⟩),.pointer (some ⟨Rs,0,none⟩),.int .u64 (n:Int)] 77):=⟨_,rfl⟩;rw [<-hW2];obtain ⟨hb0,k0,s0⟩:=box_new hW2;obtain ⟨g,hg⟩:∃g,g=W1.heap.size:=⟨_,rfl⟩;rw [<-hg] at k0 ⊢;have b2:=b1.trans (Below.mono hb0 b1.size);have c2:W2.cell? ⟨g,2,none⟩=some (.int .u64 (n:Int)):=by simpa using blk_cell k0 2
 have HU:=hiD (Uint_any none [] 0 0 n rfl HB.out.2.2.2.2.2 (by simp) W2 (HasA.nil _ _ _));have H2:=hiD (aI b2 k0);clear b1 hb0 k0 s0 b2 hW2 hg HA
 go_wp2_with fail
 refine HU.out.mono ?_;rintro e W3 ⟨g1,L1,x1,rfl,o1,b3⟩;rw [List.nil_append] at o1;have k3:=(b3.block g (geS.1 H2.out.2).1).trans H2.out.2;have b03:=H2.out.1.trans (Below.mono b3 H2.out.1.size);have d0:W3.cell? ⟨g,0,none⟩=some (.pointer (some ⟨Rk,0,none⟩)):=by simpa using blk_cell k3 0
 have d1:W3.cell? ⟨g,1,none⟩=some (.pointer (some ⟨Rs,0,none⟩)):=by simpa using blk_cell k3 1
 have hL1:=own_len o1;have hgl:g<W3.heap.size:=(geS.1 k3).1;have hv:HasA W3 W3.heap.size (some ⟨g1,0,none⟩) (vb n):=HasA.of_own o1;have HK:=hiD (fun w' (h:Grew W3 w')=>((HB.out.2.1.below (b03.trans (Below.mono h b03.size))).putKB (some ⟨g1,0,none⟩) L1 x1 (vb n) HB.out.2.2.1 (by have:=HB.out.2.2.2.2.1;omega) hL1 (by have:=HB.out.2.2.2.2.1;omega) (hv.below' h)));have HS:=hiD (fun w' (h:Grew W3 w') A' L' c' (hL:L'=(vb n++bytesP ps).length) hA=>((HB.out.2.1.below (b03.trans (Below.mono h b03.size))).putSB A' L' c' (vb n++bytesP ps) HB.out.2.2.2.1 (nLr _) (by have:=HB.out.2.2.2.2.1;omega) hL (by rw [hL,List.length_append];have:=HB.out.2.2.2.2.1;omega) hA));have H3:=hiD (aI b03 hgl);clear o1 b3 b03 k3 hL1 hv hgl HU c2;go_upto_region 3 with (fail)
 refine abytes_last w.heap.size g Rk Rs (some ⟨g1,0,none⟩) L1 x1 (vb n++bytesP ps) (vb n++bytesP ps++bytesSS ss) _ W3 _ rfl rfl rfl H3.out.1.size H3.out.2 d0 d1 HK.out HS.out ?_;intro v15 v16 v2 W4 _ hv16 hv2 hg;have H4:=hiD (aI hv2 (H3.out.1.trans (Below.mono hg H3.out.1.size)));clear hv16 hg;obtain ⟨m,hm⟩:=hv2;obtain ⟨A2,x2,rfl⟩:=own_form hm;have HM:=hiD hm;clear hm;simp only [puts,List.foldl_cons,List.foldl_nil,Act.put,List.setIfInBounds_toArray,List.set_cons_succ,List.set_cons_zero];go_wp2;go_ret;exact ⟨_,m,rfl,HM.out,H4.out.2⟩
end Go.Proofs.YtfjmdkhemnmkpaaGreatDoor
namespace Go.Proofs.YtfjmdkhemnmkpaaGreatDoor
open Go.RowKit
def HasI (w:World) (A:Option Addr) (ws:List Nat):Prop:=ws≠[]->∃b o,A=some ⟨b,o,none⟩/\b<w.heap.size/\∀j (h:j<ws.length),w.cell? ⟨b,o+j,none⟩=some (.int .i64 (ws[j]:Int))
theorem HasI.below {w W:World} {A:Option Addr} {ws:List Nat} (h:HasI w A ws) (hb:Below w.heap.size w W):HasI W A ws:=fun hl=>by
 obtain ⟨b,o,e,h1,h2⟩:=h hl;exact ⟨b,o,e,nLl h1 hb.size,fun j hj=>(hb.cell (p:=⟨b,o+j,none⟩) h1).trans (h2 j hj)⟩
theorem infoI:(Tryz.prog.info? 3).map (fun i=>(i.zero,i.size,i.bytes))=some (some (.int .i64 0),1,8):=by kernel_rfl
theorem infoI_parts:∃i,Tryz.prog.info? 3=some i/\i.zero=some (.int .i64 0)/\i.size=1/\i.bytes=8:=by
 have h:=infoI
 cases hi:Tryz.prog.info? 3 with
 |none=>rw [hi] at h;cases h
 |some i=>rw [hi] at h;simp at h;exact ⟨i,rfl,h.1,h.2.1,h.2.2⟩
def cellsI (l:List Nat):List Value:=l.map fun (n:Nat)=>Value.int .i64 (n:Int)
theorem cellsI_one (l:List Nat):∀u∈cellsI l,u.oneCell'=true:=by
 intro u hu;obtain ⟨p,_,rfl⟩:=List.mem_map.1 hu
 rfl
def OwnI (base:Nat) (w:World) (v:Value) (l:List Nat):Prop:=w.ownsRow base 3 1 v l.length (cellsI l)
theorem OwnI.form {base:Nat} {w:World} {v:Value} {l:List Nat} (h:OwnI base w v l):∃A c,v=.slice A l.length c/\l.length<=c:=by
 rcases h.2 with ⟨rfl,h0⟩|⟨g,cap,cur,rfl,_,_,hn,_⟩
 ·exact ⟨none,0,by rw [h0],by omega⟩
 ·exact ⟨_,_,rfl,hn⟩
theorem OwnI.below {base:Nat} {w w':World} {v:Value} {l:List Nat} (h:OwnI base w v l) (hb:Below w.heap.size w w'):OwnI base w' v l:=by
 refine World.ownsRow.kept h (grownBy_of_below (r:=none) hb) ?_
 cases v.ownBlock with
 |none=>exact .inl rfl
 |some x=>exact .inr (by simp)
theorem OwnI.has {base:Nat} {w:World} {A:Option Addr} {n c:Nat} {l:List Nat} (h:OwnI base w (.slice A n c) l):HasI w A l:=fun hl=>by
 have hl':0<l.length:=List.length_pos_iff.2 hl
 rcases h.2 with ⟨e,h0⟩|⟨g,cap,cur,e,_,hg,hn,_⟩
 ·omega
 ·cases e
  refine ⟨g,0,rfl,(geS.1 hg).1,fun j hj=>?_⟩;have c0:=World.ownsRow.cells h (g:=g) rfl j (.int .i64 (l[j]:Int)) (by simp [cellsI,hj]);rw [addr_add] at c0;exact c0
theorem OwnI.mono {b b':Nat} {w:World} {v:Value} {l:List Nat} (h:OwnI b w v l) (hb:b'<=b):OwnI b' w v l:=by
 refine ⟨h.1,?_⟩
 rcases h.2 with h2|⟨g,cap,cur,e,h1,h2⟩
 ·exact .inl h2
 ·exact .inr ⟨g,cap,cur,e,nLt hb h1,h2⟩
theorem OwnI.ge {base:Nat} {w:World} {v:Value} {l:List Nat} (h:OwnI base w v l) (k:Nat) (hk:v.ownBlock=some k):base<=k:=by
 rcases h.2 with ⟨rfl,_⟩|⟨g,cap,cur,rfl,hg,_⟩
 ·cases hk
 ·have:g=k:=by simpa [Value.ownBlock] using hk
  omega
theorem OwnI.nil (base:Nat) (w:World):OwnI base w (.slice none 0 0) []:=World.ownsRow_nil _ _ _ _
theorem wpList_append_I {ops:Array Oper} {rest:List Oper} {o:Oper} {a:Act} {w:World} {Q:Exit->Act->World->Prop} (hgd:o.guard=none) (s x:Operand)
 (ho:o.op=.call {callee:=.builtin .append,args:=#[s,x],argTypes:=#[23,23]}) (base:Nat) (v:Value) (l:List Nat) (hs:a.eval s=v) (hown:OwnI base w v l)
 (b:Nat) (c:Nat) (t:Nat) (hx:a.eval x=.slice (some ⟨b,0,none⟩) 1 c) (hA:w.cell? ⟨b,0,none⟩=some (.int .i64 (t:Int))) (hlen:l.length+1<=1000000) (hbase:base<=w.heap.size)
 (h:∀v' w',OwnI base w' v' (l++[t])->w.grownBy w' v.ownBlock->wpList Tryz.prog ops Q rest (a.put o.dst v') w'):wpList Tryz.prog ops Q (o::rest) a w:=by
 obtain ⟨i,hi,hz,hsz,hby⟩:=infoI_parts;refine wpList_append_own_at w hgd s x 23 ho base 3 i _ 1 8 Tryz.underlying23 hi hz hsz hby rfl (by omega) v l.length (cellsI l) hs hown ⟨b,0,none⟩ 1 c (cellsI [t]) hx rfl (fun j u hj=>?_) (cellsI_one [t]) (by simp only [maxLen];omega) (by omega) hbase ?_
 ·have hjl:j<1:=(List.getElem?_eq_some_iff.1 hj).1;obtain rfl:j=0:=by omega
  rw [addr_add];have:u=.int .i64 (t:Int):=by simpa [cellsI] using hj.symm
  rw [this];exact hA
 ·intro v' w' h1 h2 _ _;refine h v' w' ?_ h2;unfold OwnI;rw [show cellsI (l++[t])=cellsI l++cellsI [t] by simp [cellsI],List.length_append];exact h1
structure DV where
 cd:Nat
 tx:ByteArray
 fr:Bool
 wv:Nat
 tn:Nat
def DV.cells (d:DV):Array Value:=#[.int .u8 (d.cd:Int),.string d.tx,.bool d.fr,.int .i64 (d.wv:Int),.int .i64 (d.tn:Int)]
def HasD (w:World) (A:Option Addr) (ds:List DV):Prop:=ds≠[]->∃b o,A=some ⟨b,o,none⟩/\b<w.heap.size/\∀j (h:j<ds.length) i u,ds[j].cells[i]?=some u->w.cell? ⟨b,o+j*5+i,none⟩=some u
theorem HasD.below {w W:World} {A:Option Addr} {ds:List DV} (h:HasD w A ds) (hb:Below w.heap.size w W):HasD W A ds:=fun hl=>by
 obtain ⟨b,o,e,h1,h2⟩:=h hl;exact ⟨b,o,e,nLl h1 hb.size,fun j hj i u hu=>(hb.cell (p:=⟨b,o+j*5+i,none⟩) h1).trans (h2 j hj i u hu)⟩
def NotF (B:Nat) (F:Nat->Prop) (A:Option Addr):Prop:=∀b o m,A=some ⟨b,o,m⟩->B<=b/\¬F b
def Agree (B:Nat) (w W:World):Prop:=B<=W.heap.size/\∀k,k<B->W.heap[k]?=w.heap[k]?
theorem Agree.cell {B:Nat} {w W:World} (h:Agree B w W) {p:Addr} (hp:p.block<B):W.cell? p=w.cell? p:=World.cell?_of_block (h.2 p.block hp)
theorem HasS.agree {w W:World} {A:Option Addr} {l:List ByteArray} (h:HasS w A l) (ha:Agree w.heap.size w W):HasS W A l:=fun hl=>by
 obtain ⟨b,o,e,h1,h2⟩:=h hl;exact ⟨b,o,e,nLl h1 ha.1,fun j hj=>(ha.cell (p:=⟨b,o+j,none⟩) h1).trans (h2 j hj)⟩
theorem CmdV.ok.agree {w W:World} {a:CmdV} (h:a.ok w) (ha:Agree w.heap.size w W):a.ok W:=⟨h.cl,h.sq,h.kd,h.n,h.len,h.max,h.has.agree ha,h.each,h.old,h.new⟩
theorem HasC.agree {w W:World} {A:Option Addr} {l:List CmdV} (h:HasC w A l) (ha:Agree w.heap.size w W):HasC W A l:=fun hl=>by
 obtain ⟨b,o,e,h1,h2⟩:=h hl;exact ⟨b,o,e,nLl h1 ha.1,fun j hj=>⟨fun i u hu=>(ha.cell (p:=⟨b,o+j*7+i,none⟩) h1).trans ((h2 j hj).1 i u hu),(h2 j hj).2.agree ha⟩⟩
def HasCF (F:Nat->Prop) (w:World) (A:Option Addr) (l:List CmdV):Prop:=∀W,w.heap.size<=W.heap.size->(∀k,k<w.heap.size->¬F k->W.heap[k]?=w.heap[k]?)->HasC W A l
theorem HasC.out {F:Nat->Prop} {w V:World} {A:Option Addr} {l:List CmdV} (h:HasC w A l) (hb:Below w.heap.size w V) (hF:∀k,F k->w.heap.size<=k):HasCF F V A l:=fun W h1 h2=>h.agree ⟨nLt hb.size h1,fun k hk=>(h2 k (nLl hk hb.size) (fun hf=>by have:=hF k hf;omega)).trans (hb.block k hk)⟩
theorem HasCF.has {F:Nat->Prop} {w:World} {A:Option Addr} {l:List CmdV} (h:HasCF F w A l):HasC w A l:=h w (nLr _) fun _ _ _=>rfl
def toldO (g:Nat->Option ((Nat × ByteArray) × Bool)) (i:Nat):(Nat × ByteArray) × Bool:=(g i).getD ((0,⟨#[]⟩),false)
noncomputable def runD (pk:Nat->Nat->Nat->Int) (ms:List CM) (a:AM):List DV:=(List.range ms.length).map fun i=>
 ⟨(toldO (runO (atM ms) (orderM pk ms) a).2 i).1.1,(toldO (runO (atM ms) (orderM pk ms) a).2 i).1.2,(toldO (runO (atM ms) (orderM pk ms) a).2 i).2,waveI ms i,(orderM pk ms).idxOf i⟩
noncomputable def endR (pk:Nat->Nat->Nat->Int) (ms:List CM) (a:AM):AM:=(runO (atM ms) (orderM pk ms) a).1
noncomputable def oneD (ms:List CM) (a:AM):List DV:=(List.range ms.length).map fun i=>
 ⟨(toldO (runO (atM ms) (List.range ms.length) a).2 i).1.1,(toldO (runO (atM ms) (List.range ms.length) a).2 i).1.2,(toldO (runO (atM ms) (List.range ms.length) a).2 i).2,0,i⟩
noncomputable def endO (ms:List CM) (a:AM):AM:=(runO (atM ms) (List.range ms.length) a).1
structure PickF (F:Nat->Prop) (w0:World) (f:Value) (pk:Nat->Nat->Nat->Int):Prop where
 ex:∃fid first cap,f=.func (.func fid) first cap/\(∀args w,(callFunc fid args).run Tryz.prog w=.ok (.enter fid args) w)/\∀(wv k n:Nat) (W:World),wv<=1000000->k<=1000000->n<=1000000->Only F w0 W->
  Calls Tryz.prog fid (first++#[.int .i64 (wv:Int),.int .i64 (k:Int),.int .i64 (n:Int)]++cap) W fun e W'=>e=.returned (.int .i64 (pk wv k n))/\Below W.heap.size W W'
 lim:∀wv k n, -9223372036854775808<=pk wv k n/\pk wv k n<=9223372036854775807
structure WvK (T:World->Prop) where
 grew:∀{w w':World},T w->Below w.heap.size w w'->T w'
 Pl:(Nat->Prop)->World->Nat->AM->Prop
 keep:∀{F G:Nat->Prop} {w w':World} {R:Nat} {a:AM},Pl F w R a->Only G w w'->(∀k,F k->¬G k)->Pl F w' R a
 lt:∀{F:Nat->Prop} {w:World} {R:Nat} {a:AM},Pl F w R a->∀k,F k->k<w.heap.size
 sorted:∀{F:Nat->Prop} {w:World} {R:Nat} {a:AM},Pl F w R a->SortedA a
 new:∀(w:World),T w->Calls Tryz.prog 18 #[] w fun e W'=>∃F R,e=.returned (.pointer (some ⟨R,0,none⟩))/\Pl F W' R ⟨[],[],0⟩/\(∀k,F k->w.heap.size<=k)/\Below w.heap.size w W'
 fold:∀(A:Option Addr) (L c:Nat) (l:List CmdV) (w:World),T w->L=l.length->L<=100->HasC w A l->(∀v∈l,¬v.great)->Calls Tryz.prog 7 #[.slice A L c] w fun e W'=>∃F R,e=.returned (.pointer (some ⟨R,0,none⟩))/\Pl F W' R (oneO (l.map (·.m)) ⟨[],[],0⟩)/\(∀k,F k->w.heap.size<=k)/\Below w.heap.size w W'
 same:∀{F G:Nat->Prop} {w:World} {R S:Nat} {a:AM},T w->Pl F w R a->Pl G w S a->Calls Tryz.prog 16 #[.pointer (some ⟨R,0,none⟩),.pointer (some ⟨S,0,none⟩)] w fun e W'=>e=.returned (.bool true)/\Below w.heap.size w W'
 run:∀{F:Nat->Prop} {w:World} {R:Nat} {a:AM} (A:Option Addr) (L c:Nat) (l:List CmdV) (f:Value) (pk:Nat->Nat->Nat->Int),Pl F w R a->T w->LimAn 1000 a->L=l.length->L<=100->HasCF F w A l->(∀v∈l,¬v.great)->PickF F w f pk->
  Calls Tryz.prog 12 #[.pointer (some ⟨R,0,none⟩),.slice A L c,f] w fun e W'=>∃A' c',e=.returned (.slice A' L c')/\L<=c'/\HasD W' A' (runD pk (l.map (·.m)) a)/\∃F',Pl F' W' R (endR pk (l.map (·.m)) a)/\Only F w W'/\(∀k,F' k->F k\/w.heap.size<=k)/\NotF w.heap.size F' A'
theorem endR_same (pk:Nat->Nat->Nat->Int) (ms:List CM) {a:AM} (ha:SortedA a):endR pk ms a=endO ms a:=by
 unfold endR endO;rw [orderM_same pk ms a ha]
theorem runD_len (pk:Nat->Nat->Nat->Int) (ms:List CM) (a:AM):(runD pk ms a).length=ms.length:=by simp [runD]
section
variable {pk:Nat->Nat->Nat->Int} {ms:List CM}
theorem ord_len:(orderM pk ms).length=ms.length:=by rw [(orderM_perm pk ms).length_eq,List.length_range]
theorem ord_mem {i:Nat} (hi:i<ms.length):i∈orderM pk ms:=(orderM_perm pk ms).mem_iff.2 (List.mem_range.2 hi)
end
theorem run_ixD (w:World) (b o L c q:Nat) (h:q<L):(Instr.indexAt 40 (.slice (some ⟨b,o,none⟩) L c) (.int .i64 (q:Int))).run Tryz.prog w=.ok (.pointer (some ⟨b,o+q*5,none⟩)) w:=by
 have h1:(0:Int)<=q:=by omega
 have h2:(q:Int)<L:=by omega
 simp [go_sem,h1,h2]
theorem run_ixN (w:World) (b o L c q:Nat) (h:q<L):(Instr.indexAt 23 (.slice (some ⟨b,o,none⟩) L c) (.int .i64 (q:Int))).run Tryz.prog w=.ok (.pointer (some ⟨b,o+q,none⟩)) w:=by
 have h1:(0:Int)<=q:=by omega
 have h2:(q:Int)<L:=by omega
 simp [go_sem,h1,h2]
theorem run_fdD0 (w:World) (b o:Nat):(Instr.fieldAt 47 (.pointer (some ⟨b,o,none⟩)) 0).run Tryz.prog w=.ok (.pointer (some ⟨b,o+0,none⟩)) w:=by
 simp [go_sem]
theorem run_fdD3 (w:World) (b o:Nat):(Instr.fieldAt 47 (.pointer (some ⟨b,o,none⟩)) 3).run Tryz.prog w=.ok (.pointer (some ⟨b,o+4,none⟩)) w:=by
 simp [go_sem]
theorem run_ldRepD (w:World) (b o:Nat) (d:DV) (h:∀i u,d.cells[i]?=some u->w.cell? ⟨b,o+i,none⟩=some u):(Instr.loadAt 45 (.pointer (some ⟨b,o+0,none⟩))).run Tryz.prog w=.ok (.agg #[.int .u8 (d.cd:Int),.string d.tx]) w:=by
 have h0:w.cell? ⟨b,o+0,none⟩=some (.int .u8 (d.cd:Int)):=h 0 _ rfl;have h1:w.cell? ⟨b,o+1,none⟩=some (.string d.tx):=h 1 _ rfl;simp only [Nat.add_zero] at h0 ⊢;simp [go_sem,h0,h1]
theorem run_ldTnD (w:World) (b o:Nat) (d:DV) (h:∀i u,d.cells[i]?=some u->w.cell? ⟨b,o+i,none⟩=some u):(Instr.loadAt 3 (.pointer (some ⟨b,o+4,none⟩))).run Tryz.prog w=.ok (.int .i64 (d.tn:Int)) w:=by
 have h4:w.cell? ⟨b,o+4,none⟩=some (.int .i64 (d.tn:Int)):=h 4 _ rfl;simp [go_sem,h4]
theorem run_ldN (w:World) (p:Addr) (v:Int) (h:w.cell? p=some (.int .i64 v)):(Instr.loadAt 3 (.pointer (some p))).run Tryz.prog w=.ok (.int .i64 v) w:=by
 simp [go_sem,h]
theorem guard_repD (op:BinOp) (w:World) (x y:Operand) (r s:Int) (t u:ByteArray):(eqGuard op 45 x y (.agg #[.int .u8 r,.string t]) (.agg #[.int .u8 s,.string u])).run Tryz.prog w=.ok () w:=by
 have h:Tryz.prog.eqGuardType Tryz.prog.depth 45=false:=by kernel_rfl
 cases op<;>simp [eqGuard,h]
theorem run_neRepD (w:World) (r:Int) (t:ByteArray):(binOp .neq 45 (.agg #[.int .u8 r,.string t]) (.agg #[.int .u8 r,.string t])).run Tryz.prog w=.ok (.bool false) w:=by
 simp [go_sem]
theorem run_neND (w:World) (x:Int):(binOp .neq 3 (.int .i64 x) (.int .i64 x)).run Tryz.prog w=.ok (.bool false) w:=by
 simp [go_sem]
theorem GreatC_any (A:Option Addr) (L c:Nat) (l:List CmdV) (hl:L=l.length) (hL:L<=140737488351232) (w:World) (hA:HasC w A l):
 Calls Tryz.prog 5 #[.slice A L c] w fun e W'=>e=.returned (.bool (GreatB l))/\Below w.heap.size w W':=by
 have HL:=hiD hl;have HA:=hiD hA;have hLi:(L:Int)<=140737488351232:=by omega
 clear hl hA hL
 by_cases h100:100<L
 ·have h1:(100:Int)<L:=by omega
  go_enter Tryz.func5,Tryz.ntmps5;go_wp2;go_ret;exact ⟨by rw [GreatB_iff.2 (.inl (by rw [<-HL.out];exact h100))];rfl,Below.refl _ _⟩
 have h1:¬(100:Int)<L:=by omega
 go_enter Tryz.func5,Tryz.ntmps5;go_wp2
 go_loopw [3] (fun i wr=>∃k:Nat,k<=L/\i=.int .i64 (k:Int)/\Hid (Below w.heap.size w wr/\∀j (h1:j<l.length),j<k->¬(l[j]).great)) (fun i _=>L - (intOf i).toNat)
 case atStart=>exact ⟨0,Nat.zero_le _,rfl,hiD ⟨Below.refl _ _,fun j _ h=>by omega⟩⟩
 case round=>
  obtain ⟨k,hk,rfl,hb⟩:=hrel
  by_cases hlt:k<L
  ·have hki:(k:Int)<L:=by omega
   have hk1:k<l.length:=by have:=HL.out;omega
   obtain ⟨bk,o1,e1,l1,f1⟩:=HA.out (by rintro rfl;simp at hk1);subst e1;have g1:=f1 k hk1;obtain ⟨a,ha⟩:∃a,a=l[k]:=⟨_,rfl⟩;rw [<-ha] at g1;obtain ⟨acl,asq,akd,KA,KL,kc,ks,old,new,n⟩:=a;have cA:∀i u,(#[.int .u32 (acl:Int),.int .u32 (asq:Int),.int .u8 (akd:Int),.slice KA KL kc,.string old,.string new,.int .i64 n]:Array Value)[i]?=some u->wr.cell? ⟨bk,o1+k*7+i,none⟩=some u:=fun i u hu=>(hb.out.1.cell (p:=⟨bk,o1+k*7+i,none⟩) l1).trans (g1.1 i u hu)
   have a0:=cA 0 _ rfl;have a1:=cA 1 _ rfl;have a2:=cA 2 _ rfl;have a3:=cA 3 _ rfl;have a4:=cA 4 _ rfl;have a5:=cA 5 _ rfl;have a6:=cA 6 _ rfl;simp only [Nat.add_zero] at a0;have OK:=hiD (g1.2.below hb.out.1);have hKL:(KL:Int)<=140737488351232:=by have:=g1.2.max;simp only at this;omega
   have ho64:(old.size:Int)<=9223372036854775807:=by have:=g1.2.old;simp only [maxLen] at this;omega
   have hn64:(new.size:Int)<=9223372036854775807:=by have:=g1.2.new;simp only [maxLen] at this;omega
   have HE:=hiD ha;clear cA g1 f1 ha;go_upto_region 7 with (fail)
   obtain ⟨W2,hW2⟩:∃W2,W2=wr.alloc (Obj.cells #[.int .u32 (acl:Int),.int .u32 (asq:Int),.int .u8 (akd:Int),.slice KA KL kc,.string old,.string new,.int .i64 n] 57):=⟨_,rfl⟩;rw [<-hW2];obtain ⟨p,hp⟩:∃p,p=wr.heap.size:=⟨_,rfl⟩;have hB:Below wr.heap.size wr W2:=by rw [hW2];exact (Below.refl _ wr).alloc (nLr _) _
   have k1:W2.heap[p]?=some (.cells #[.int .u32 (acl:Int),.int .u32 (asq:Int),.int .u8 (akd:Int),.slice KA KL kc,.string old,.string new,.int .i64 n] 57 (0,0)):=by
    rw [hW2,hp];exact wAh wr _
   rw [<-hp];have x3:=blk_cell k1 3;have x4:=blk_cell k1 4;have x5:=blk_cell k1 5;simp at x3 x4 x5;have K1:=hiD k1;have HB:=hiD (hb.out.1.trans (Below.mono hB hb.out.1.size));have OK2:=hiD (OK.out.below hB);clear hW2 hp hB k1 OK a0 a1 a2 a3 a4 a5 a6
   by_cases q1:500<old.size
   ·have q1i:(500:Int)<old.size:=by omega
    have hg:GreatC l:=.inr ⟨k,hk1,by rw [<-HE.out];exact .inl q1⟩;have HG:=hiD hg;clear hg;go_wp2;go_ret;exact ⟨by rw [GreatB_iff.2 HG.out];rfl,HB.out⟩
   have q1i:¬(500:Int)<old.size:=by omega
   by_cases q2:500<new.size
   ·have q2i:(500:Int)<new.size:=by omega
    have hg:GreatC l:=.inr ⟨k,hk1,by rw [<-HE.out];exact .inr (.inl q2)⟩;have HG:=hiD hg;clear hg;go_wp2;go_ret;exact ⟨by rw [GreatB_iff.2 HG.out];rfl,HB.out⟩
   have q2i:¬(500:Int)<new.size:=by omega
   by_cases q3:100<KL
   ·have q3i:(100:Int)<KL:=by omega
    have hg:GreatC l:=.inr ⟨k,hk1,by rw [<-HE.out];exact .inr (.inr (.inl (by have:=OK2.out.len;simp only at*;omega)))⟩;have HG:=hiD hg;clear hg;go_wp2;go_ret;exact ⟨by rw [GreatB_iff.2 HG.out];rfl,HB.out⟩
   have q3i:¬(100:Int)<KL:=by omega
   have HQ:=hiD (aI q1 (aI q2 q3));clear q1 q2 q3;go_wp2
   go_loopw [5] (fun i wx=>∃j:Nat,j<=KL/\i=.int .i64 (j:Int)/\Hid (Below W2.heap.size W2 wx/\∀u (h1:u<ks.length),u<j->¬500<(ks[u]).size)) (fun i _=>KL - (intOf i).toNat)
   case atStart=>exact ⟨0,Nat.zero_le _,rfl,hiD ⟨Below.refl _ _,fun j _ h=>by omega⟩⟩
   case round=>
    obtain ⟨j,hj,rfl,hx⟩:=hrel;have x3':=(hx.out.1.cell (p:=⟨p,3,none⟩) (geS.1 K1.out).1).trans x3
    by_cases hjl:j<KL
    ·have hji:(j:Int)<KL:=by omega
     have hj1:j<ks.length:=by have:=OK2.out.len;simp only at this;omega
     obtain ⟨b2,o2,e2,l2,f2⟩:=OK2.out.has (by intro e;simp only at e;rw [e] at hj1;simp at hj1);simp only at e2;subst e2;have g2:=(hx.out.1.cell (p:=⟨b2,o2+j,none⟩) l2).trans (f2 j hj1);obtain ⟨X,hX⟩:∃X,X=ks[j]:=⟨_,rfl⟩;simp only at g2;rw [<-hX] at g2;have hX64:(X.size:Int)<=9223372036854775807:=by have:=OK2.out.each X (by rw [hX];exact List.getElem_mem hj1);simp only [maxLen] at this;omega
     have HX:=hiD hX;clear hX f2
     by_cases q4:500<X.size
     ·have q4i:(500:Int)<X.size:=by omega
      have hg:GreatC l:=.inr ⟨k,hk1,by rw [<-HE.out];exact .inr (.inr (.inr ⟨j,hj1,by simp only;rw [<-HX.out];exact q4⟩))⟩;have HG:=hiD hg;clear hg;go_wp2;go_ret;exact ⟨by rw [GreatB_iff.2 HG.out];rfl,HB.out.trans (Below.mono hx.out.1 HB.out.size)⟩
     ·have q4i:¬(500:Int)<X.size:=by omega
      have Q4:=hiD q4;clear q4;go_wp2
      exact ⟨⟨j+1,by omega,by congr 1,hiD ⟨hx.out.1,fun u h1 hu=>by
       rcases Nat.lt_or_ge u j with h|h
       ·exact hx.out.2 u h1 h
       ·have:u=j:=by omega
        subst this;rw [<-HX.out];exact Q4.out⟩⟩,by simp only [intOf];omega⟩
    ·have hji:¬(j:Int)<KL:=by omega
     have hng:¬(l[k]).great:=by
      rw [<-HE.out];rintro (h|h|h|⟨u,hu,h⟩)
      ·exact HQ.out.1 h
      ·exact HQ.out.2.1 h
      ·exact HQ.out.2.2 (by have:=OK2.out.len;simp only at this h;omega)
      ·exact hx.out.2 u hu (by have:=OK2.out.len;simp only at this hu;omega) h
     have NG:=hiD hng;clear hng;go_wp2
     exact ⟨⟨k+1,by omega,by congr 1,hiD ⟨HB.out.trans (Below.mono hx.out.1 HB.out.size),fun u h1 hu=>by
      rcases Nat.lt_or_ge u k with h|h
      ·exact hb.out.2 u h1 h
      ·have:u=k:=by omega
       subst this;exact NG.out⟩⟩,by simp only [intOf];omega⟩
  ·obtain rfl:k=L:=by omega
   have hki:¬(k:Int)<k:=by omega
   clear hlt
   have hng:GreatB l=false:=by
    rw [<-Bool.not_eq_true,GreatB_iff];rintro (h|⟨j,hj,h⟩)
    ·have:=HL.out;omega
    ·exact hb.out.2 j hj (by have:=HL.out;omega) h
   have NG:=hiD hng;clear hng;go_wp2;go_ret;exact ⟨by rw [NG.out];rfl,hb.out.1⟩
end Go.Proofs.YtfjmdkhemnmkpaaGreatDoor
