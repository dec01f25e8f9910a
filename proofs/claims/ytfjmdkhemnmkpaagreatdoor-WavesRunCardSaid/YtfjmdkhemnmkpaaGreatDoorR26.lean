/- Parts of the proof: WvRuS, RxByR, RxBy, WvN. -/
import Derived.Test.YtfjmdkhemnmkpaaGreatDoorR25
import Derived.Test.YtfjmdkhemnmkpaaGreatDoorR15
import Derived.Test.YtfjmdkhemnmkpaaGreatDoorR02
import Derived.Test.YtfjmdkhemnmkpaaGreatDoorR23
import Derived.Test.YtfjmdkhemnmkpaaGreatDoorR19
import Derived.Test.YtfjmdkhemnmkpaaGreatDoorR18
import Derived.Test.YtfjmdkhemnmkpaaGreatDoorR16
set_option maxRecDepth 100000
set_option maxHeartbeats 8000000
namespace Go.Proofs.YtfjmdkhemnmkpaaGreatDoor
open Go.RowKit
theorem run_ixRep (w:World) (b o L c q:Nat) (h:q<L):(Instr.indexAt 35 (.slice (some ⟨b,o,none⟩) L c) (.int .i64 (q:Int))).run Tryz.prog w=.ok (.pointer (some ⟨b,o+q*2,none⟩)) w:=by
 have h1:(0:Int)<=q:=by omega
 have h2:(q:Int)<L:=by omega
 simp [go_sem,h1,h2]
theorem run_ixBo (w:World) (b o L c q:Nat) (h:q<L):(Instr.indexAt 36 (.slice (some ⟨b,o,none⟩) L c) (.int .i64 (q:Int))).run Tryz.prog w=.ok (.pointer (some ⟨b,o+q,none⟩)) w:=by
 have h1:(0:Int)<=q:=by omega
 have h2:(q:Int)<L:=by omega
 simp [go_sem,h1,h2]
theorem run_ldReY (w:World) (b o cd:Nat) (tx:ByteArray) (h0:w.cell? ⟨b,o,none⟩=some (.int .u8 (cd:Int))) (h1:w.cell? ⟨b,o+1,none⟩=some (.string tx)):(Instr.loadAt 45 (.pointer (some ⟨b,o,none⟩))).run Tryz.prog w=.ok (.agg #[.int .u8 (cd:Int),.string tx]) w:=by
 simp [go_sem,h0,h1]
theorem run_ldBoY (w:World) (z:Addr) (v:Bool) (h:w.cell? z=some (.bool v)):(Instr.loadAt 4 (.pointer (some z))).run Tryz.prog w=.ok (.bool v) w:=by
 simp [go_sem,h]
theorem run_ldDoY (w:World) (b o:Nat) (d:DV) (h:∀i u,d.cells[i]?=some u->w.cell? ⟨b,o+i,none⟩=some u):(Instr.loadAt 47 (.pointer (some ⟨b,o,none⟩))).run Tryz.prog w=.ok (.agg #[.int .u8 (d.cd:Int),.string d.tx,.bool d.fr,.int .i64 (d.wv:Int),.int .i64 (d.tn:Int)]) w:=by
 have h0:w.cell? ⟨b,o+0,none⟩=some (.int .u8 (d.cd:Int)):=h 0 _ rfl;have h1:w.cell? ⟨b,o+1,none⟩=some (.string d.tx):=h 1 _ rfl;have h2:w.cell? ⟨b,o+2,none⟩=some (.bool d.fr):=h 2 _ rfl;have h3:w.cell? ⟨b,o+3,none⟩=some (.int .i64 (d.wv:Int)):=h 3 _ rfl;have h4:w.cell? ⟨b,o+4,none⟩=some (.int .i64 (d.tn:Int)):=h 4 _ rfl;simp only [Nat.add_zero] at h0;simp [go_sem,h0,h1,h2,h3,h4]
theorem guard_doY (op:BinOp) (w:World) (x y:Operand) (us vs:Array Value):(eqGuard op 47 x y (.agg us) (.agg vs)).run Tryz.prog w=.ok () w:=by
 have h:Tryz.prog.eqGuardType Tryz.prog.depth 47=false:=by kernel_rfl
 cases op<;>simp [eqGuard,h]
theorem run_neDoY (w:World) (cd:Nat) (tx:ByteArray) (fr:Bool) (wv t:Nat):(binOp .neq 47 (.agg #[.int .u8 (cd:Int),.string tx,.bool fr,.int .i64 (wv:Int),.int .i64 (t:Int)]) (.agg #[.int .u8 (cd:Int),.string tx,.bool fr,.int .i64 (wv:Int),.int .i64 (t:Int)])).run Tryz.prog w=.ok (.bool false) w:=by
 cases fr<;>simp [go_sem]
theorem run_bdDoY (w:World) (cd:Nat) (tx:ByteArray) (fr:Bool) (wv t:Nat):(Instr.build 47 #[(0,.agg #[.int .u8 (cd:Int),.string tx]),(1,.bool fr),(2,.int .i64 (wv:Int)),(3,.int .i64 (t:Int))]).run Tryz.prog w=.ok (.agg #[.int .u8 (cd:Int),.string tx,.bool fr,.int .i64 (wv:Int),.int .i64 (t:Int)]) w:=by
 simp [go_sem,Instr.build]
theorem run_eqSY (w:World) (t:TypeId) (x:ByteArray):(binOp .eql t (.string x) (.string x)).run Tryz.prog w=.ok (.bool true) w:=by
 simp [go_sem]
theorem run_eqIY (w:World) (t:TypeId) (x:Int):(binOp .eql t (.int .i64 x) (.int .i64 x)).run Tryz.prog w=.ok (.bool true) w:=by
 simp [go_sem]
noncomputable def opsS13A:List Oper:=opsOf Tryz.f3 13
theorem wrhold (x xo xc rb fb g go gc tb M q cd wv t:Nat) (tx:ByteArray) (fr:Bool) (hq:q<M) (a:Act) (w:World) (Q:Exit->Act->World->Prop) (hN:a.tmps.size=167) (h10:a.tmps.getD 10 undef=.slice (some ⟨g,go,none⟩) M gc) (h12:a.tmps.getD 12 undef=.slice (some ⟨rb,0,none⟩) M M) (h13:a.tmps.getD 13 undef=.slice (some ⟨fb,0,none⟩) M M) (h14:a.tmps.getD 14 undef=.slice (some ⟨tb,0,none⟩) M M) (h15:a.tmps.getD 15 undef=.slice (some ⟨x,xo,none⟩) M xc) (h16:a.tmps.getD 16 undef=.int .i64 (q:Int)) (hxl:x<w.heap.size) (hxc:∀i u,(⟨cd,tx,fr,wv,t⟩:DV).cells[i]?=some u->w.cell? ⟨x,xo+q*5+i,none⟩=some u) (hrl:rb<w.heap.size) (hr0:w.cell? ⟨rb,0+q*2,none⟩=some (.int .u8 (cd:Int))) (hr1:w.cell? ⟨rb,0+q*2+1,none⟩=some (.string tx)) (hfl:fb<w.heap.size) (hf0:w.cell? ⟨fb,0+q,none⟩=some (.bool fr)) (hgl:g<w.heap.size) (hg0:w.cell? ⟨g,go+q,none⟩=some (.int .i64 (wv:Int))) (htl:tb<w.heap.size) (ht0:w.cell? ⟨tb,0+q,none⟩=some (.int .i64 (t:Int))) (hQ:∀(w':World),Grew w w'->Q .normal (puts [(70,.slice (some ⟨x,xo,none⟩) M xc),(71,.int .i64 (q:Int)),(72,.pointer (some ⟨x,xo+q*5,none⟩)),(73,.agg #[.int .u8 (cd:Int),.string tx,.bool fr,.int .i64 (wv:Int),.int .i64 (t:Int)]),(74,.slice (some ⟨rb,0,none⟩) M M),(75,.int .i64 (q:Int)),(76,.pointer (some ⟨rb,0+q*2,none⟩)),(77,.agg #[.int .u8 (cd:Int),.string tx]),(78,.slice (some ⟨fb,0,none⟩) M M),(79,.int .i64 (q:Int)),(80,.pointer (some ⟨fb,0+q,none⟩)),(81,.bool fr),(82,.slice (some ⟨g,go,none⟩) M gc),(83,.int .i64 (q:Int)),(84,.pointer (some ⟨g,go+q,none⟩)),(85,.int .i64 (wv:Int)),(86,.slice (some ⟨tb,0,none⟩) M M),(87,.int .i64 (q:Int)),(88,.pointer (some ⟨tb,0+q,none⟩)),(89,.int .i64 (t:Int)),(90,.agg #[.int .u8 (cd:Int),.string tx,.bool fr,.int .i64 (wv:Int),.int .i64 (t:Int)]),(91,.bool false)] a) w')
 :(Code.region 13 opsS13A.toArray true).wp Tryz.prog Q a w:=by
 refine region_v 167 opsS13A [(10,.slice (some ⟨g,go,none⟩) M gc),(12,.slice (some ⟨rb,0,none⟩) M M),(13,.slice (some ⟨fb,0,none⟩) M M),(14,.slice (some ⟨tb,0,none⟩) M M),(15,.slice (some ⟨x,xo,none⟩) M xc),(16,.int .i64 (q:Int))] [20] [.eq (.slice (some ⟨x,xo,none⟩) M xc),.eq (.int .i64 (q:Int)),.eq (.pointer (some ⟨x,xo+q*5,none⟩)),.eq (.agg #[.int .u8 (cd:Int),.string tx,.bool fr,.int .i64 (wv:Int),.int .i64 (t:Int)]),.eq (.slice (some ⟨rb,0,none⟩) M M),.eq (.int .i64 (q:Int)),.eq (.pointer (some ⟨rb,0+q*2,none⟩)),.eq (.agg #[.int .u8 (cd:Int),.string tx]),.eq (.slice (some ⟨fb,0,none⟩) M M),.eq (.int .i64 (q:Int)),.eq (.pointer (some ⟨fb,0+q,none⟩)),.eq (.bool fr),.eq (.slice (some ⟨g,go,none⟩) M gc),.eq (.int .i64 (q:Int)),.eq (.pointer (some ⟨g,go+q,none⟩)),.eq (.int .i64 (wv:Int)),.eq (.slice (some ⟨tb,0,none⟩) M M),.eq (.int .i64 (q:Int)),.eq (.pointer (some ⟨tb,0+q,none⟩)),.eq (.int .i64 (t:Int)),.eq (.agg #[.int .u8 (cd:Int),.string tx,.bool fr,.int .i64 (wv:Int),.int .i64 (t:Int)]),.eq (.bool false)] Grew Grew.refl Grew.trans follows (by kernel_rfl) (by kernel_rfl) hN ⟨h10,h12,h13,h14,h15,h16,trivial⟩ rfl trivial ?_ ?_ ?_
 ·intro _ w' hR _;exact ⟨fun _=>rfl,fun _=>rfl,fun _=>ob_idx (run_ixD _ _ _ _ _ _ hq),fun _=>ob_load (run_ldDoY _ _ _ (⟨cd,tx,fr,wv,t⟩:DV) (fun i u hu=>(Below.cell hR.undraw (p:=⟨x,xo+q*5+i,none⟩) hxl).trans (hxc i u hu))),fun _=>rfl,fun _=>rfl,fun _=>ob_idx (run_ixRep _ _ _ _ _ _ hq),fun _=>ob_load (run_ldReY _ _ _ _ _ ((Below.cell hR.undraw (p:=⟨rb,0+q*2,none⟩) hrl).trans hr0) ((Below.cell hR.undraw (p:=⟨rb,0+q*2+1,none⟩) hrl).trans hr1)),fun _=>rfl,fun _=>rfl,fun _=>ob_idx (run_ixBo _ _ _ _ _ _ hq),fun _=>ob_load (run_ldBoY _ _ _ ((Below.cell hR.undraw (p:=⟨fb,0+q,none⟩) hfl).trans hf0)),fun _=>rfl,fun _=>rfl,fun _=>ob_idx (run_ixN _ _ _ _ _ _ hq),fun _=>ob_load (run_ldN _ _ _ ((Below.cell hR.undraw (p:=⟨g,go+q,none⟩) hgl).trans hg0)),fun _=>rfl,fun _=>rfl,fun _=>ob_idx (run_ixN _ _ _ _ _ _ hq),fun _=>ob_load (run_ldN _ _ _ ((Below.cell hR.undraw (p:=⟨tb,0+q,none⟩) htl).trans ht0)),trivial,fun _=>ob_bin (guard_doY _ _ _ _ _ _) (run_neDoY _ _ _ _ _ _),trivial⟩
 ·refine ⟨?_,trivial⟩
  ·rintro o _ ho hd a' w' hF hR hp;have hio:=(nthO_eq _ _).symm.trans ho
   cases ho
   cases hd
   have q7:a'.tmps.getD 77 undef=.agg #[.int .u8 (cd:Int),.string tx]:=hp 7 _ 77 rfl rfl rfl;have q11:a'.tmps.getD 81 undef=.bool fr:=hp 11 _ 81 rfl rfl rfl;have q15:a'.tmps.getD 85 undef=.int .i64 (wv:Int):=hp 15 _ 85 rfl rfl rfl;have q19:a'.tmps.getD 89 undef=.int .i64 (t:Int):=hp 19 _ 89 rfl rfl rfl
   exact step_run (v:=.agg #[.int .u8 (cd:Int),.string tx,.bool fr,.int .i64 (wv:Int),.int .i64 (t:Int)]) (w':=w') hio rfl (by intro c h;cases h) (by simp [Oper.about]) (by
    unfold execOp;simp only [List.map_toArray,List.map_cons,List.map_nil,Act.eval,q7,q11,q15,q19,Sem.run_bind,run_bdDoY,Result.andThen_ok]
    rfl) ⟨_,rfl,rfl,Grew.refl _⟩
 ·intro _ w' hR _;exact hQ w' hR.undraw
noncomputable def opsS20A:List Oper:=opsOf Tryz.f3 20
theorem wrfirst (y yo yc rb tb M q cd wv t:Nat) (tx:ByteArray) (fr:Bool) (hq:q<M) (a:Act) (w:World) (Q:Exit->Act->World->Prop) (hN:a.tmps.size=167) (h12:a.tmps.getD 12 undef=.slice (some ⟨rb,0,none⟩) M M) (h17:a.tmps.getD 17 undef=.slice (some ⟨y,yo,none⟩) M yc) (h21:a.tmps.getD 21 undef=.slice (some ⟨tb,0,none⟩) M M) (h22:a.tmps.getD 22 undef=.int .i64 (q:Int)) (hyl:y<w.heap.size) (hyc:∀i u,(⟨cd,tx,fr,wv,t⟩:DV).cells[i]?=some u->w.cell? ⟨y,yo+q*5+i,none⟩=some u) (hrl:rb<w.heap.size) (hr0:w.cell? ⟨rb,0+q*2,none⟩=some (.int .u8 (cd:Int))) (hr1:w.cell? ⟨rb,0+q*2+1,none⟩=some (.string tx)) (htl:tb<w.heap.size) (ht0:w.cell? ⟨tb,0+q,none⟩=some (.int .i64 (t:Int))) (hQ:∀(w':World),Grew w w'->Q .normal (puts [(111,.slice (some ⟨y,yo,none⟩) M yc),(112,.int .i64 (q:Int)),(113,.pointer (some ⟨y,yo+q*5,none⟩)),(114,.pointer (some ⟨y,yo+q*5+4,none⟩)),(115,.int .i64 (t:Int)),(116,.slice (some ⟨tb,0,none⟩) M M),(117,.int .i64 (q:Int)),(118,.pointer (some ⟨tb,0+q,none⟩)),(119,.int .i64 (t:Int)),(120,.bool false),(121,.bool false),(122,.slice (some ⟨y,yo,none⟩) M yc),(123,.int .i64 (q:Int)),(124,.pointer (some ⟨y,yo+q*5,none⟩)),(125,.pointer (some ⟨y,yo+q*5+0,none⟩)),(126,.agg #[.int .u8 (cd:Int),.string tx]),(127,.slice (some ⟨rb,0,none⟩) M M),(128,.int .i64 (q:Int)),(129,.pointer (some ⟨rb,0+q*2,none⟩)),(130,.agg #[.int .u8 (cd:Int),.string tx]),(131,.bool false),(132,.bool false)] a) w')
 :(Code.region 20 opsS20A.toArray true).wp Tryz.prog Q a w:=by
 refine region_v 167 opsS20A [(12,.slice (some ⟨rb,0,none⟩) M M),(17,.slice (some ⟨y,yo,none⟩) M yc),(21,.slice (some ⟨tb,0,none⟩) M M),(22,.int .i64 (q:Int))] [] [.eq (.slice (some ⟨y,yo,none⟩) M yc),.eq (.int .i64 (q:Int)),.eq (.pointer (some ⟨y,yo+q*5,none⟩)),.eq (.pointer (some ⟨y,yo+q*5+4,none⟩)),.eq (.int .i64 (t:Int)),.eq (.slice (some ⟨tb,0,none⟩) M M),.eq (.int .i64 (q:Int)),.eq (.pointer (some ⟨tb,0+q,none⟩)),.eq (.int .i64 (t:Int)),.eq (.bool false),.eq (.bool false),.eq (.slice (some ⟨y,yo,none⟩) M yc),.eq (.int .i64 (q:Int)),.eq (.pointer (some ⟨y,yo+q*5,none⟩)),.eq (.pointer (some ⟨y,yo+q*5+0,none⟩)),.eq (.agg #[.int .u8 (cd:Int),.string tx]),.eq (.slice (some ⟨rb,0,none⟩) M M),.eq (.int .i64 (q:Int)),.eq (.pointer (some ⟨rb,0+q*2,none⟩)),.eq (.agg #[.int .u8 (cd:Int),.string tx]),.eq (.bool false),.eq (.bool false)] Grew Grew.refl Grew.trans follows (by kernel_rfl) (by kernel_rfl) hN ⟨h12,h17,h21,h22,trivial⟩ rfl trivial ?_ ?_ ?_
 ·intro _ w' hR _;exact ⟨fun _=>rfl,fun _=>rfl,fun _=>ob_idx (run_ixD _ _ _ _ _ _ hq),fun _=>ob_fld (run_fdD3 _ _ _),fun _=>ob_load (run_ldTnD _ _ _ (⟨cd,tx,fr,wv,t⟩:DV) (fun i u hu=>(Below.cell hR.undraw (p:=⟨y,yo+q*5+i,none⟩) hyl).trans (hyc i u hu))),fun _=>rfl,fun _=>rfl,fun _=>ob_idx (run_ixN _ _ _ _ _ _ hq),fun _=>ob_load (run_ldN _ _ _ ((Below.cell hR.undraw (p:=⟨tb,0+q,none⟩) htl).trans ht0)),fun _=>ob_bin (guard_int _ _ _ _ _ _ _ _ _) (run_neND _ _),fun _=>rfl,fun _=>rfl,fun _=>rfl,fun _=>ob_idx (run_ixD _ _ _ _ _ _ hq),fun _=>ob_fld (run_fdD0 _ _ _),fun _=>ob_load (run_ldRepD _ _ _ (⟨cd,tx,fr,wv,t⟩:DV) (fun i u hu=>(Below.cell hR.undraw (p:=⟨y,yo+q*5+i,none⟩) hyl).trans (hyc i u hu))),fun _=>rfl,fun _=>rfl,fun _=>ob_idx (run_ixRep _ _ _ _ _ _ hq),fun _=>ob_load (run_ldReY _ _ _ _ _ ((Below.cell hR.undraw (p:=⟨rb,0+q*2,none⟩) hrl).trans hr0) ((Below.cell hR.undraw (p:=⟨rb,0+q*2+1,none⟩) hrl).trans hr1)),fun _=>ob_bin (guard_repD _ _ _ _ _ _ _ _) (run_neRepD _ _ _),fun _=>ob_pick rfl rfl,trivial⟩
 ·exact trivial
 ·intro _ w' hR _;exact hQ w' hR.undraw
noncomputable def opsS22A:List Oper:=opsOf Tryz.f3 22
theorem wrlast (R S q11:Nat) (B1:Option Addr) (m1 d1:Nat) (B2:Option Addr) (m2 d2 nn:Nat) (A:Option Addr) (M c:Nat) (Ay:Option Addr) (yc:Nat) (X:List UInt8) (a:Act) (w:World) (Q:Exit->Act->World->Prop) (hN:a.tmps.size=167) (h1:a.tmps.getD 1 undef=.slice A M c) (h7:a.tmps.getD 7 undef=.pointer (some ⟨R,0,none⟩)) (h8:a.tmps.getD 8 undef=.pointer (some ⟨S,0,none⟩)) (h11:a.tmps.getD 11 undef=.pointer (some ⟨q11,0,none⟩)) (h17:a.tmps.getD 17 undef=.slice Ay M yc) (hx11:AppC w q11 B1 m1 d1 B2 m2 d2 nn) (hBy:∀w',Grew w w'->Calls Tryz.prog 14 #[.pointer (some ⟨R,0,none⟩)] w' fun e W'=>∃v n,e=.returned v/\W'.ownsRow w'.heap.size 5 1 v n (X.map enc)/\Below w'.heap.size w' W') (hRb:∀w',Grew w w'->Calls Tryz.prog 15 #[.agg #[.slice B1 m1 d1,.slice B2 m2 d2,.int .u64 (nn:Int)]] w' (Gives w' X)) (hSm:∀w',Grew w w'->Calls Tryz.prog 16 #[.pointer (some ⟨R,0,none⟩),.pointer (some ⟨S,0,none⟩)] w' fun e W'=>e=.returned (.bool true)/\Below w'.heap.size w' W') (hRn:∀w',Grew w w'->Calls Tryz.prog 12 #[.pointer none,.slice A M c,.nilFunc] w' fun e W'=>∃A1 c1,e=.returned (.slice A1 0 c1)/\Below w'.heap.size w' W') (hOn:∀w',Grew w w'->Calls Tryz.prog 17 #[.pointer none,.slice A M c] w' fun e W'=>∃A1 c1,e=.returned (.slice A1 0 c1)/\Below w'.heap.size w' W') (hWk:∀w',Grew w w'->Calls Tryz.prog 6 #[] w' fun e W'=>e=.returned (.bool true)/\Below w'.heap.size w' W') (hQ:∀(v134:Value),∀(v137:Value),∀(v154:Value),∀(v160:Value),∀(w':World),IsB w' v134 (X)->IsB w' v137 (X)->(fun v _w=>∃A1 c1,v=.slice A1 0 c1) v154 w'->(fun v _w=>∃A1 c1,v=.slice A1 0 c1) v160 w'->Grew w w'->Q .normal (puts [(133,.pointer (some ⟨R,0,none⟩)),(134,v134),(135,.string (str (X))),(136,.agg #[.slice B1 m1 d1,.slice B2 m2 d2,.int .u64 (nn:Int)]),(137,v137),(138,.string (str (X))),(139,.bool true),(140,.bool true),(141,.pointer (some ⟨R,0,none⟩)),(142,.pointer (some ⟨S,0,none⟩)),(143,.bool true),(144,.bool true),(145,.bool true),(146,.slice Ay M yc),(147,.int .i64 (M:Int)),(148,.slice A M c),(149,.int .i64 (M:Int)),(150,.bool true),(151,.bool true),(152,.bool true),(153,.slice A M c),(154,v154),(155,.int .i64 ((0:Nat):Int)),(156,.bool true),(157,.bool true),(158,.bool true),(159,.slice A M c),(160,v160),(161,.int .i64 ((0:Nat):Int)),(162,.bool true),(163,.bool true),(164,.bool true),(165,.bool true),(166,.bool true),(6,.bool true)] a) w')
 :(Code.region 22 opsS22A.toArray true).wp Tryz.prog Q a w:=by
 refine region_v 167 opsS22A [(1,.slice A M c),(7,.pointer (some ⟨R,0,none⟩)),(8,.pointer (some ⟨S,0,none⟩)),(11,.pointer (some ⟨q11,0,none⟩)),(17,.slice Ay M yc)] [1,2,4,5,10,21,22,27,28,32] [.eq (.pointer (some ⟨R,0,none⟩)),.pr fun v w=>IsB w v (X),.eq (.string (str (X))),.eq (.agg #[.slice B1 m1 d1,.slice B2 m2 d2,.int .u64 (nn:Int)]),.pr fun v w=>IsB w v (X),.eq (.string (str (X))),.eq (.bool true),.eq (.bool true),.eq (.pointer (some ⟨R,0,none⟩)),.eq (.pointer (some ⟨S,0,none⟩)),.eq (.bool true),.eq (.bool true),.eq (.bool true),.eq (.slice Ay M yc),.eq (.int .i64 (M:Int)),.eq (.slice A M c),.eq (.int .i64 (M:Int)),.eq (.bool true),.eq (.bool true),.eq (.bool true),.eq (.slice A M c),.pr fun v w=>∃A1 c1,v=.slice A1 0 c1,.eq (.int .i64 ((0:Nat):Int)),.eq (.bool true),.eq (.bool true),.eq (.bool true),.eq (.slice A M c),.pr fun v w=>∃A1 c1,v=.slice A1 0 c1,.eq (.int .i64 ((0:Nat):Int)),.eq (.bool true),.eq (.bool true),.eq (.bool true),.eq (.bool true),.eq (.bool true),.eq (.bool true)] Grew Grew.refl Grew.trans follows (by kernel_rfl) (by kernel_rfl) hN ⟨h1,h7,h8,h11,h17,trivial⟩ rfl ?_ ?_ ?_ ?_
 ·exact ⟨(fun _ _ _ h hg=>IsB.grew h hg),(fun _ _ _ h hg=>IsB.grew h hg),(fun _ _ _ h _=>h),(fun _ _ _ h _=>h),trivial⟩
 ·intro _ w' hR _;exact ⟨fun _=>rfl,trivial,trivial,fun _=>ob_load (run_lxA _ _ _ _ _ _ _ _ _ ((Below.block hR.undraw q11 hx11.lt).trans hx11)),trivial,trivial,fun _=>ob_bin (guard_str _ _ _ _ _ _ _) (run_eqSY _ _ _),fun _=>rfl,fun _=>rfl,fun _=>rfl,trivial,fun _=>ob_pick rfl rfl,fun _=>rfl,fun _=>rfl,fun _=>ob_len Tryz.underlying40 rfl,fun _=>rfl,fun _=>ob_len Tryz.underlying22 rfl,fun _=>ob_bin (guard_int _ _ _ _ _ _ _ _ _) (run_eqIY _ _ _),fun _=>ob_pick rfl rfl,fun _=>rfl,fun _=>rfl,trivial,trivial,fun _=>ob_bin (guard_int _ _ _ _ _ _ _ _ _) (run_eqIY _ _ _),fun _=>ob_pick rfl rfl,fun _=>rfl,fun _=>rfl,trivial,trivial,fun _=>ob_bin (guard_int _ _ _ _ _ _ _ _ _) (run_eqIY _ _ _),fun _=>ob_pick rfl rfl,fun _=>rfl,trivial,fun _=>ob_pick rfl rfl,fun _=>rfl,trivial⟩
 ·refine ⟨?_,?_,?_,?_,?_,?_,?_,?_,?_,?_,trivial⟩
  ·rintro o _ ho hd a' w' hF hR hp;have hio:=(nthO_eq _ _).symm.trans ho
   cases ho
   cases hd
   have q0:a'.tmps.getD 133 undef=.pointer (some ⟨R,0,none⟩):=hp 0 _ 133 rfl rfl rfl;refine step_callD hio rfl rfl (enters_of Tryz.func14 (by kernel_rfl) rfl) (show Array.map a'.eval #[.tmp 133]=_ from by simp only [List.map_toArray,List.map_cons,List.map_nil,Act.eval,q0]) ((hBy w' hR.undraw).mono ?_);rintro e w'' ⟨x,m,rfl,ho',hb⟩;exact ⟨_,rfl,_,rfl,IsB.own ho',hb⟩
  ·rintro o _ ho hd a' w' hF hR hp;have hio:=(nthO_eq _ _).symm.trans ho
   cases ho
   cases hd
   have q1:IsB w' (a'.tmps.getD 134 undef) (X):=hp 1 _ 134 rfl rfl rfl;exact step_conv hio rfl rfl (show IsB w' (a'.tmps.getD 134 undef) _ from q1) ⟨_,rfl,rfl,Grew.refl _⟩
  ·rintro o _ ho hd a' w' hF hR hp;have hio:=(nthO_eq _ _).symm.trans ho
   cases ho
   cases hd
   have q3:a'.tmps.getD 136 undef=.agg #[.slice B1 m1 d1,.slice B2 m2 d2,.int .u64 (nn:Int)]:=hp 3 _ 136 rfl rfl rfl;refine step_callD hio rfl rfl (enters_of Tryz.func15 (by kernel_rfl) rfl) (show Array.map a'.eval #[.tmp 136]=_ from by simp only [List.map_toArray,List.map_cons,List.map_nil,Act.eval,q3]) ((hRb w' hR.undraw).mono ?_);rintro e w'' ⟨g1,m,c1,rfl,ho',hb⟩;exact ⟨_,rfl,_,rfl,IsB.own ho',hb⟩
  ·rintro o _ ho hd a' w' hF hR hp;have hio:=(nthO_eq _ _).symm.trans ho
   cases ho
   cases hd
   have q4:IsB w' (a'.tmps.getD 137 undef) (X):=hp 4 _ 137 rfl rfl rfl;exact step_conv hio rfl rfl (show IsB w' (a'.tmps.getD 137 undef) _ from q4) ⟨_,rfl,rfl,Grew.refl _⟩
  ·rintro o _ ho hd a' w' hF hR hp;have hio:=(nthO_eq _ _).symm.trans ho
   cases ho
   cases hd
   have q7:a'.tmps.getD 140 undef=.bool true:=hp 7 _ 140 rfl rfl rfl;have q8:a'.tmps.getD 141 undef=.pointer (some ⟨R,0,none⟩):=hp 8 _ 141 rfl rfl rfl;have q9:a'.tmps.getD 142 undef=.pointer (some ⟨S,0,none⟩):=hp 9 _ 142 rfl rfl rfl;refine step_callD hio (wanted_on rfl (show opsS22A.toArray[7]?=some _ from rfl) rfl q7) rfl (enters_of Tryz.func16 (by kernel_rfl) rfl) (show Array.map a'.eval #[.tmp 141,.tmp 142]=_ from by simp only [List.map_toArray,List.map_cons,List.map_nil,Act.eval,q8,q9]) ((hSm w' hR.undraw).mono ?_);rintro e w'' ⟨rfl,hb⟩;exact ⟨_,rfl,_,rfl,rfl,hb⟩
  ·rintro o _ ho hd a' w' hF hR hp;have hio:=(nthO_eq _ _).symm.trans ho
   cases ho
   cases hd
   have q19:a'.tmps.getD 152 undef=.bool true:=hp 19 _ 152 rfl rfl rfl;have q20:a'.tmps.getD 153 undef=.slice A M c:=hp 20 _ 153 rfl rfl rfl;refine step_callD hio (wanted_on rfl (show opsS22A.toArray[19]?=some _ from rfl) rfl q19) rfl (enters_of Tryz.func12 (by kernel_rfl) rfl) (show Array.map a'.eval #[.const (.pointer none),.tmp 153,.const .nilFunc]=_ from by simp only [List.map_toArray,List.map_cons,List.map_nil,Act.eval,q20]) ((hRn w' hR.undraw).mono ?_);rintro e w'' ⟨A1,c1,rfl,hb⟩;exact ⟨_,rfl,_,rfl,⟨A1,c1,rfl⟩,hb⟩
  ·rintro o _ ho hd a' w' hF hR hp;have hio:=(nthO_eq _ _).symm.trans ho
   cases ho
   cases hd
   have q19:a'.tmps.getD 152 undef=.bool true:=hp 19 _ 152 rfl rfl rfl;have q21:(fun v w=>∃A1 c1,v=.slice A1 0 c1) (a'.tmps.getD 154 undef) w':=hp 21 _ 154 rfl rfl rfl;obtain ⟨A1,c1,e1⟩:=q21;exact step_len Tryz.underlying40 hio (wanted_on rfl (show opsS22A.toArray[19]?=some _ from rfl) rfl q19) rfl e1 ⟨_,rfl,rfl,Grew.refl _⟩
  ·rintro o _ ho hd a' w' hF hR hp;have hio:=(nthO_eq _ _).symm.trans ho
   cases ho
   cases hd
   have q25:a'.tmps.getD 158 undef=.bool true:=hp 25 _ 158 rfl rfl rfl;have q26:a'.tmps.getD 159 undef=.slice A M c:=hp 26 _ 159 rfl rfl rfl;refine step_callD hio (wanted_on rfl (show opsS22A.toArray[25]?=some _ from rfl) rfl q25) rfl (enters_of Tryz.func17 (by kernel_rfl) rfl) (show Array.map a'.eval #[.const (.pointer none),.tmp 159]=_ from by simp only [List.map_toArray,List.map_cons,List.map_nil,Act.eval,q26]) ((hOn w' hR.undraw).mono ?_);rintro e w'' ⟨A1,c1,rfl,hb⟩;exact ⟨_,rfl,_,rfl,⟨A1,c1,rfl⟩,hb⟩
  ·rintro o _ ho hd a' w' hF hR hp;have hio:=(nthO_eq _ _).symm.trans ho
   cases ho
   cases hd
   have q25:a'.tmps.getD 158 undef=.bool true:=hp 25 _ 158 rfl rfl rfl;have q27:(fun v w=>∃A1 c1,v=.slice A1 0 c1) (a'.tmps.getD 160 undef) w':=hp 27 _ 160 rfl rfl rfl;obtain ⟨A1,c1,e1⟩:=q27;exact step_len Tryz.underlying40 hio (wanted_on rfl (show opsS22A.toArray[25]?=some _ from rfl) rfl q25) rfl e1 ⟨_,rfl,rfl,Grew.refl _⟩
  ·rintro o _ ho hd a' w' hF hR hp;have hio:=(nthO_eq _ _).symm.trans ho
   cases ho
   cases hd
   have q31:a'.tmps.getD 164 undef=.bool true:=hp 31 _ 164 rfl rfl rfl;refine step_callD hio (wanted_on rfl (show opsS22A.toArray[31]?=some _ from rfl) rfl q31) rfl (enters_of Tryz.func6 (by kernel_rfl) rfl) (show Array.map a'.eval #[]=_ from by simp only [List.map_toArray,List.map_nil]) ((hWk w' hR.undraw).mono ?_);rintro e w'' ⟨rfl,hb⟩;exact ⟨_,rfl,_,rfl,rfl,hb⟩
 ·intro u w' hR h;exact hQ (u 1) (u 4) (u 21) (u 27) w' (h 1 (nBl rfl)) (h 4 (nBl rfl)) (h 21 (nBl rfl)) (h 27 (nBl rfl)) hR.undraw
noncomputable def opsBy:List Oper:=opsOf Tryz.f15 1
def wsBy (_pb:Nat) (_A0:Option Addr) (_n0 _c0:Nat) (_E:Option Addr) (_nl _lc _n:Nat) (X Y:List UInt8) (W0:World) (L:Nat->Bool) (u:Value) (w:World):Prop:=Below W0.heap.size W0 w/\(L 2=true->L 6=false->∃m,w.ownsRow W0.heap.size 5 1 (tupAt u 0) m (X.map enc))/\(L 5=true->L 6=false->∃g m c,tupAt u 1=.slice (some ⟨g,0,none⟩) m c/\m=Y.length/\HasA w w.heap.size (some ⟨g,0,none⟩) Y)/\(L 6=true->∃m,w.ownsRow W0.heap.size 5 1 (tupAt u 2) m ((X++Y).map enc))/\(L 7=true->∃m,w.ownsRow W0.heap.size 5 1 (tupAt u 3) m ((X++Y).map enc))
theorem wsBy_same (pb:Nat) (A0:Option Addr) (n0 c0:Nat) (E:Option Addr) (nl lc n:Nat) (X Y:List UInt8) {W0:World} {L:Nat->Bool} {i:Nat} {u:Value} {w:World} (k2:((2:Nat)==i)=false) (k5:((5:Nat)==i)=false) (k6:((6:Nat)==i)=false) (k7:((7:Nat)==i)=false) (h:wsBy pb A0 n0 c0 E nl lc n X Y W0 L u w):wsBy pb A0 n0 c0 E nl lc n X Y W0 (fun j=>L j||j==i) u w:=by
 unfold wsBy at h ⊢;simp only [beq_noF k2,beq_noF k5,beq_noF k6,beq_noF k7];exact h
theorem rxby (pb:Nat) (A0:Option Addr) (n0 c0:Nat) (E:Option Addr) (nl lc n:Nat) (X Y:List UInt8) (a:Act) (w:World) (Q:Exit->Act->World->Prop) (hN:a.tmps.size=58) (h1:a.tmps.getD 1 undef=.pointer (some ⟨pb,0,none⟩)) (hp:AppC w pb A0 n0 c0 E nl lc n) (hY:Y≠[]) (hXY:X.length+Y.length<=1000000000) (hU:∀w',Below w.heap.size w.drew w'->Calls Tryz.prog 34 #[.int .u64 (n:Int)] w' (Gives w' X)) (hK:∀w',Below w.heap.size w.drew w'->Calls Tryz.prog 35 #[.slice A0 n0 c0] w' (Gives w' Y)) (hW0:wsBy pb A0 n0 c0 E nl lc n X Y w.drew (fun _=>false) undef w.drew) (hQ:∀(u:Value) w',wsBy pb A0 n0 c0 E nl lc n X Y w.drew (fun _=>true) u w'->Q .normal (puts [(6,.pointer (some ⟨pb,2,none⟩)),(7,.int .u64 (n:Int)),(8,tupAt u 0),(9,.pointer (some ⟨pb,0,none⟩)),(10,.slice A0 n0 c0),(11,tupAt u 1),(12,tupAt u 2),(3,tupAt u 3)] a) w')
 :(Code.region 1 opsBy.toArray true).wp Tryz.prog Q a w:=by
 refine region_c (U:=Value) 58 opsBy [(1,.pointer (some ⟨pb,0,none⟩))] [2,5,6,7] (fun u=>[.pointer (some ⟨pb,2,none⟩),.int .u64 (n:Int),tupAt u 0,.pointer (some ⟨pb,0,none⟩),.slice A0 n0 c0,tupAt u 1,tupAt u 2,tupAt u 3]) (wsBy pb A0 n0 c0 E nl lc n X Y w.drew) undef follows (by kernel_rfl) hN ⟨h1,trivial⟩ (fun _=>nBl rfl) hW0 (fun _ _ _ _ hi h=>wsBy_same _ _ _ _ _ _ _ _ _ _ (key_ne hi rfl) (key_ne hi rfl) (key_ne hi rfl) (key_ne hi rfl) h) ?_ ?_ ?_
 ·intro L u w' hW _;exact ⟨fun _=>ob_fld (run_fxA _ _ _ (.inr (.inr rfl))),fun _=>ob_load (run_lxS _ _ (.inr (.inl rfl)) _ _ (by rw [blk_cell ((hW.1.block pb hp.lt).trans hp) 2];rfl)),trivial,fun _=>ob_fld (run_fxA _ _ _ (.inl rfl)),fun _=>ob_load (run_lxS _ _ (.inr (.inr (.inr rfl))) _ _ (by rw [blk_cell ((hW.1.block pb hp.lt).trans hp) 0];rfl)),trivial,trivial,trivial,trivial⟩
 ·refine ⟨?_,?_,?_,?_,trivial⟩
  ·rintro o ho L u a' w' hLi hpre hcl hR hW fin;have hio:=(nthO_eq _ _).symm.trans ho
   cases ho
   have q1:a'.tmps.getD 7 undef=.int .u64 (n:Int):=hR.val 1 _ 7 rfl rfl (edge_ofF hpre 1 rfl);obtain ⟨w1,w2,w3,w4,w5⟩:=hW;have n5:L 5=false:=not_yetF hcl 30 (show reachB opsBy 30 5 2=true by kernel_rfl) hLi;have n6:L 6=false:=not_yetF hcl 30 (show reachB opsBy 30 6 2=true by kernel_rfl) hLi;have n7:L 7=false:=not_yetF hcl 30 (show reachB opsBy 30 7 2=true by kernel_rfl) hLi;refine step_callD hio rfl rfl (enters_of Tryz.func34 (by kernel_rfl) rfl) (show Array.map a'.eval #[.tmp 7]=_ from by simp only [List.map_toArray,List.map_cons,List.map_nil,Act.eval,q1]) ((hU w' w1).mono ?_);rintro e w'' ⟨g,m,c,rfl,ho,hb⟩
   have hW2:wsBy pb A0 n0 c0 E nl lc n X Y w.drew (fun j=>L j||j==2) (.tuple #[.slice (some ⟨g,0,none⟩) m c,tupAt u 1,tupAt u 2,tupAt u 3]) w'':=by
    refine ⟨w1.trans (Below.mono hb w1.size),fun _ _=>⟨m,own_base ho w1.size⟩,fun h=>?_,fun h=>?_,fun h=>?_⟩
    ·have h':L 5=true:=by simpa using h
     rw [n5] at h'
     cases h'
    ·have h':L 6=true:=by simpa using h
     rw [n6] at h'
     cases h'
    ·have h':L 7=true:=by simpa using h
     rw [n7] at h'
     cases h'
   exact ⟨_,rfl,(fin ((.tuple #[.slice (some ⟨g,0,none⟩) m c,tupAt u 1,tupAt u 2,tupAt u 3])) _ _ (fun _=>rfl) (fun j hj=>by
    rcases j with _|_|_|_|_|_|_|_|j<;>first|rfl|exact Bool.noConfusion (hj.symm.trans hLi)|exact Bool.noConfusion (hj.symm.trans (not_yetF hcl 30 (by kernel_rfl) hLi))) (hW2))⟩
  ·rintro o ho L u a' w' hLi hpre hcl hR hW fin;have hio:=(nthO_eq _ _).symm.trans ho
   cases ho
   have q4:a'.tmps.getD 10 undef=.slice A0 n0 c0:=hR.val 4 _ 10 rfl rfl (edge_ofF hpre 4 rfl);obtain ⟨w1,w2,w3,w4,w5⟩:=hW;have n6:L 6=false:=not_yetF hcl 30 (show reachB opsBy 30 6 5=true by kernel_rfl) hLi;have n7:L 7=false:=not_yetF hcl 30 (show reachB opsBy 30 7 5=true by kernel_rfl) hLi;obtain ⟨m0,ho0⟩:=w2 (edge_ofF hpre 2 rfl) n6;refine step_callD hio rfl rfl (enters_of Tryz.func35 (by kernel_rfl) rfl) (show Array.map a'.eval #[.tmp 10]=_ from by simp only [List.map_toArray,List.map_cons,List.map_nil,Act.eval,q4]) ((hK w' w1).mono ?_);rintro e w'' ⟨g,m,c,rfl,ho,hb⟩
   have hW2:wsBy pb A0 n0 c0 E nl lc n X Y w.drew (fun j=>L j||j==5) (.tuple #[tupAt u 0,.slice (some ⟨g,0,none⟩) m c,tupAt u 2,tupAt u 3]) w'':=by
    refine ⟨w1.trans (Below.mono hb w1.size),fun _ _=>⟨m0,own_below ho0 hb⟩,fun _ _=>⟨g,m,c,rfl,own_len ho,HasA.of_own ho⟩,fun h=>?_,fun h=>?_⟩
    ·have h':L 6=true:=by simpa using h
     rw [n6] at h'
     cases h'
    ·have h':L 7=true:=by simpa using h
     rw [n7] at h'
     cases h'
   exact ⟨_,rfl,(fin ((.tuple #[tupAt u 0,.slice (some ⟨g,0,none⟩) m c,tupAt u 2,tupAt u 3])) _ _ (fun _=>rfl) (fun j hj=>by
    rcases j with _|_|_|_|_|_|_|_|j<;>first|rfl|exact Bool.noConfusion (hj.symm.trans hLi)|exact Bool.noConfusion (hj.symm.trans (not_yetF hcl 30 (by kernel_rfl) hLi))) (hW2))⟩
  ·rintro o ho L u a' w' hLi hpre hcl hR hW fin;have hio:=(nthO_eq _ _).symm.trans ho
   cases ho
   have q2:a'.tmps.getD 8 undef=tupAt u 0:=hR.val 2 _ 8 rfl rfl (edge_ofF hpre 2 rfl);have q5:a'.tmps.getD 11 undef=tupAt u 1:=hR.val 5 _ 11 rfl rfl (edge_ofF hpre 5 rfl);obtain ⟨w1,w2,w3,w4,w5⟩:=hW;have n7:L 7=false:=not_yetF hcl 30 (show reachB opsBy 30 7 6=true by kernel_rfl) hLi;obtain ⟨i0,hi,hz0,hz1,hz2⟩:=info_parts info5;obtain ⟨m0,ho0⟩:=w2 (edge_ofF hpre 2 rfl) hLi;obtain ⟨g,m,c,e5,hm,hA⟩:=w3 (edge_ofF hpre 5 rfl) hLi;obtain ⟨b,o,eb,_,hc⟩:=hA hY
   cases eb
   have hm0:=own_len ho0
   obtain ⟨v',w'',hrun,ho',hg',_,_⟩:=run_append_own_at (P:=Tryz.prog) w' w.drew.heap.size 48 48 5 i0 _ 1 1 Tryz.underlying48 hi hz0 hz1 hz2 rfl (by omega) (tupAt u 0) m0 (X.map enc) ho0 ⟨g,0,none⟩ m c (Y.map enc) (by simp [hm]) (fun j v hj=>by
    rw [List.getElem?_map] at hj;obtain ⟨x,hx,rfl⟩:=Option.map_eq_some_iff.1 hj;obtain ⟨hl,rfl⟩:=List.getElem?_eq_some_iff.1 hx;have:=hc j hl;rw [addr_add];exact this) (encs_one Y) (by rw [hm0,hm];simp only [maxLen];omega) (by rw [hm0,hm];omega) w1.size
   rw [<-List.map_append] at ho';have q5':=q5.trans e5
   refine step_run hio rfl (by intro c h;cases h) (by simp [Oper.about,resolve,Target.leads,Sem.run_pure]) (v:=v') (w':=w'') (by
    unfold execOp;simp only [resolve,invoke,builtin,Sem.run_bind,Sem.run_pure,Result.andThen_ok,List.map_toArray,List.map_cons,List.map_nil,Act.eval,q2,q5',hrun]) ?_
   have hW2:wsBy pb A0 n0 c0 E nl lc n X Y w.drew (fun j=>L j||j==6) (.tuple #[tupAt u 0,tupAt u 1,v',tupAt u 3]) w'':=by
    refine ⟨w1.grown hg' w1.size (fun k e=>(ho0.lt k e).1),fun _ h=>?_,fun _ h=>?_,fun _=>⟨_,ho'⟩,fun h=>?_⟩
    ·simp at h
    ·simp at h
    ·have h':L 7=true:=by simpa using h
     rw [n7] at h'
     cases h'
   exact (fin ((.tuple #[tupAt u 0,tupAt u 1,v',tupAt u 3])) _ _ (fun _=>rfl) (fun j hj=>by
    rcases j with _|_|_|_|_|_|_|_|j<;>first|rfl|exact Bool.noConfusion (hj.symm.trans hLi)|exact Bool.noConfusion (hj.symm.trans (not_yetF hcl 30 (by kernel_rfl) hLi))) (hW2))
  ·rintro o ho L u a' w' hLi hpre hcl hR hW fin;have hio:=(nthO_eq _ _).symm.trans ho
   cases ho
   have q6:a'.tmps.getD 12 undef=tupAt u 2:=hR.val 6 _ 12 rfl rfl (edge_ofF hpre 6 rfl);obtain ⟨w1,w2,w3,w4,w5⟩:=hW;have h6:=edge_ofF hpre 6 rfl
   have hW2:wsBy pb A0 n0 c0 E nl lc n X Y w.drew (fun j=>L j||j==7) (.tuple #[tupAt u 0,tupAt u 1,tupAt u 2,tupAt u 2]) w':=by
    refine ⟨w1,fun _ h=>?_,fun _ h=>?_,fun _=>w4 h6,fun _=>w4 h6⟩
    ·have h':L 6=false:=by simpa using h
     rw [h6] at h'
     cases h'
    ·have h':L 6=false:=by simpa using h
     rw [h6] at h'
     cases h'
   exact step_assign hio rfl rfl q6 (fin ((.tuple #[tupAt u 0,tupAt u 1,tupAt u 2,tupAt u 2])) _ _ (fun _=>rfl) (fun j hj=>by
    rcases j with _|_|_|_|_|_|_|_|j<;>first|rfl|exact Bool.noConfusion (hj.symm.trans hLi)|exact Bool.noConfusion (hj.symm.trans (not_yetF hcl 30 (by kernel_rfl) hLi))) (hW2))
 ·intro L u w' hl hW;refine hQ u w' ?_;unfold wsBy at hW ⊢;simp only [hl 2 (nBl rfl),hl 5 (nBl rfl),hl 6 (nBl rfl),hl 7 (nBl rfl)] at hW ⊢;exact hW
theorem flat_lenX {α:Type} (f:α->List UInt8) (B:Nat):∀(l:List α),(∀x∈l,(f x).length<=B)->(l.flatMap f).length<=l.length*B
 |[],_=>by simp
 |x::l,h=>by
  have h1:=flat_lenX f B l fun y hy=>h y (List.mem_cons_of_mem _ hy)
  have h2:=h x (List.mem_cons_self ..);rw [List.flatMap_cons,List.length_append,List.length_cons,Nat.add_mul];omega
theorem own_apartL {w:World} {base n:Nat} {v:Value} {xs:List Value} (h:w.ownsRow base 5 1 v n xs) {y:Nat} {cs:Array Value} (hy:w.heap[y]?=some (.cells cs 84 (0,0))):v.ownBlock≠some y:=by
 rcases h.2 with ⟨rfl,_⟩|⟨g,cap,cur,rfl,_,hg,_⟩
 ·simp [Value.ownBlock]
 ·intro e;have:g=y:=by simpa [Value.ownBlock] using e
  subst this;rw [hg] at hy;simp at hy
theorem refBytesX_any (A0 E:Option Addr) (c0 lc:Nat) (a:AM) (w:World) (hl:LimAn 1000 a) (hP:HasP w A0 a.ps) (hE:HasE w E a.ss):
 Calls Tryz.prog 15 #[.agg #[.slice A0 a.ps.length c0,.slice E a.ss.length lc,.int .u64 (a.n:Int)]] w (Gives w (bytesA a)):=by
 obtain ⟨i0,hi,hz0,hz1,hz2⟩:=info_parts info5;obtain ⟨W0,hW0⟩:∃x,x=w.alloc (Obj.cells #[.slice A0 a.ps.length c0,.slice E a.ss.length lc,.int .u64 (a.n:Int)] 32):=⟨_,rfl⟩;have hp0:AppC W0 w.heap.size A0 a.ps.length c0 E a.ss.length lc a.n:=by rw [hW0];exact wAh w _
 have hb0:Below w.heap.size w W0:=by rw [hW0];exact (Below.refl _ _).alloc (nLr _) _
 obtain ⟨p,hp⟩:∃p,p=w.heap.size:=⟨_,rfl⟩;rw [<-hp] at hp0;have hE0:=hE.below hb0;obtain ⟨L,hL⟩:∃L,L=a.ss.length:=⟨_,rfl⟩;obtain ⟨np,hnp⟩:∃L,L=a.ps.length:=⟨_,rfl⟩;obtain ⟨n,hn⟩:∃L,L=a.n:=⟨_,rfl⟩;rw [<-hL,<-hnp,<-hn] at hW0 hp0 ⊢;have hLi:(L:Int)<=1000:=by have:=hl.len;omega
 have hwL:IntKind.u64.wrap (L:Int)=(L:Int):=by rw [IntKind.wrap_u64];omega
 have hn64:n<18446744073709551616:=by have:=hl.n;omega
 have HU:=hiD (fun W=>ref_Uint n hn64 W);have HU2:=hiD (fun W=>ref_Uint L (by omega) W);have HK:=hiD (fun W (h:HasP W A0 a.ps)=>Bytes_any A0 np c0 a.ps W hnp (by have:=hl.p.len;omega) h hl.p.each);have hX:(vb n).length<=10:=vb_len10 hn64
 have hY:(bytesP a.ps).length<=4100000:=by
  have h1:=flat_lenX pairB 2020 a.ps fun q hq=>by
   have h2:=hl.p.each q hq;have h3:=txt_le (s:=q.1) (by omega);have h4:=txt_le (s:=q.2) (by omega);rw [pairB,List.length_append];omega
  have h5:=vb_len10 (n:=a.ps.length) (by have:=hl.p.len;omega);have h6:=hl.p.len;rw [bytesP,List.length_append];have h7:a.ps.length*2020<=2000*2020:=Nat.mul_le_mul_right _ (by omega);omega
 have hYne:bytesP a.ps≠[]:=by rw [bytesP];simp [vb_ne]
 obtain ⟨Y,hYe⟩:∃Y,Y=bytesP a.ps:=⟨_,rfl⟩;rw [<-hYe] at hY hYne HK;have HY:=hiD (aI hYe (aI hY (aI hYne hX)));have HN:=hiD (aI hL (aI hnp hn));have HLM:=hiD hl;have H0:=hiD (aI hp0 (aI hb0 (aI hE0 (hP.below hb0))));have HPW:=hiD hp;clear hYe hY hYne hX hL hnp hn hl hp0 hb0 hE0 hE hP;go_enter Tryz.func15,Tryz.ntmps15;go_upto_region 1 with (fail)
 rw [<-hW0,<-hp];clear hW0 hp;refine rxby p A0 np c0 E L lc n (vb n) Y _ W0 _ rfl rfl H0.out.1 HY.out.2.2.1 (by have:=HY.out.2;omega) (fun W _=>HU.out W) (fun W h=>HK.out W (H0.out.2.2.2.below (Grew.undraw h))) ⟨Below.refl _ _,fun h=>(by cases h),fun h=>(by cases h),fun h=>(by cases h),fun h=>(by cases h)⟩ ?_;intro u V0 hws;obtain ⟨b0',_,_,_,h7⟩:=hws;have b0:Below W0.heap.size W0 V0:=Grew.undraw b0';obtain ⟨M0,ho⟩:=h7 rfl;obtain ⟨A1,c1,e1⟩:=own_form ho;simp only [puts,List.foldl_cons,List.foldl_nil,Act.put,List.setIfInBounds_toArray,List.set_cons_succ,List.set_cons_zero];rw [e1] at ho ⊢;have hM0:=own_len ho;have O0:=hiD ho;have B0:Hid (Below W0.heap.size W0 V0):=hiD b0;have hM1:M0<=4100010:=by rw [hM0,List.length_append];have:=HY.out.2;omega
 have y1:V0.cell? ⟨p,1,none⟩=some (.slice E L lc):=by rw [blk_cell ((b0.block p H0.out.1.lt).trans H0.out.1) 1];rfl
 clear b0 b0' h7 ho hM0
 go_wp2_with fail
 refine (HU2.out V0).mono ?_;rintro e V1 ⟨g1,L1,d1,rfl,hown,hb⟩;have hl1:L1<=10:=by have:=own_len hown;have:=vb_len10 (n:=L) (by omega);omega
 have OC1:Hid (V1.ownsRow V0.heap.size 5 1 (.slice (some ⟨g1,0,none⟩) L1 d1) L1 ((vb L).map enc)):=hiD hown;have OO1:=hiD (own_below O0.out hb);have BB1:=hiD (B0.out.trans (Below.mono hb B0.out.size));have hl0:0<M0:=by have h1:=own_len O0.out;rw [List.length_append] at h1;have:=List.length_pos_iff.2 (vb_ne n);omega
 clear hown hb y1;go_upto_region 3 with (first|(at_builtin;refine wpList_append_has rfl (.tmp 13) (.tmp 18) 48 rfl W0.heap.size 5 i0 Tryz.underlying48 hi hz0 hz1 hz2 (.slice A1 M0 c1) M0 (vb n++Y) rfl OO1.out _ _ L1 d1 (vb L) rfl (own_len OC1.out) (HasA.of_own OC1.out) (by omega) BB1.out.size ?_;intro u2 U2 hown hg;have hb2:Below W0.heap.size W0 U2:=BB1.out.grown hg BB1.out.size (fun k e=>(OO1.out.lt k e).1);obtain ⟨A2,c2,rfl⟩:=own_form hown;have O2:=hiD hown;have B2:=hiD hb2;clear hown hg hb2)|fail)
 obtain ⟨acc,hacc⟩:∃acc,acc=vb n++Y++vb L:=⟨_,rfl⟩;rw [<-hacc] at O2;have HACC:=hiD hacc;clear hacc
 go_wp2_with fail
 go_loopw [3,4] (fun s3 i wr=>∃k M:Nat,∃A3 c3,k<=L/\i=.int .i64 (k:Int)/\s3=.slice A3 M c3/\M<=4100020+k*21000/\0<M/\Hid (wr.ownsRow W0.heap.size 5 1 (.slice A3 M c3) M ((acc++(a.ss.take k).flatMap oneS).map enc))/\Hid (Below W0.heap.size W0 wr)) (fun _ i _=>L - (intOf i).toNat)
 case atStart=>exact ⟨0,M0+L1,A2,c2,Nat.zero_le _,rfl,rfl,by omega,by omega,hiD (by simpa using O2.out),B2⟩
 case round=>
  obtain ⟨k,M,A3,c3,hk,rfl,rfl,hM,hMp,HO,HB⟩:=hrel;have y1:wr.cell? ⟨p,1,none⟩=some (.slice E L lc):=by rw [blk_cell ((HB.out.block p H0.out.1.lt).trans H0.out.1) 1];rfl
  by_cases hlt:k<L
  ·have hki:(k:Int)<L:=by omega
   have hk1:k<a.ss.length:=by have:=HN.out.1;omega
   obtain ⟨x,hx⟩:∃x,x=a.ss[k]:=⟨_,rfl⟩;obtain ⟨eb,eo,hEe,_,t0,t1,t2,t3⟩:=(H0.out.2.2.1.below HB.out).at_ hk1;subst hEe;rw [<-hx] at t0 t1 t2 t3;have hxl:=HLM.out.each x (by rw [hx];exact List.getElem_mem hk1);have hx1:IntKind.u64.wrap (x.cl:Int)=(x.cl:Int):=by rw [IntKind.wrap_u64];omega
   have hx2:IntKind.u64.wrap (x.sq:Int)=(x.sq:Int):=by rw [IntKind.wrap_u64];omega
   have hx3:IntKind.u64.wrap (x.cd:Int)=(x.cd:Int):=by rw [IntKind.wrap_u64];omega
   have HXL:=hiD hxl;have HX:=hiD hx;rw [Nat.add_zero] at t0;clear hx hlt hxl;go_upto_region 7 with (fail)
   obtain ⟨G0,hG0⟩:∃V,V=wr.alloc (Obj.cells #[.int .u32 (x.cl:Int),.int .u32 (x.sq:Int),.int .u8 (x.cd:Int),.string x.tx] 84):=⟨_,rfl⟩;rw [<-hG0];have hky:G0.heap[wr.heap.size]?=some (.cells #[.int .u32 (x.cl:Int),.int .u32 (x.sq:Int),.int .u8 (x.cd:Int),.string x.tx] 84 (0,0)):=by rw [hG0];exact wAh wr _
   have hbv:Below wr.heap.size wr G0:=by rw [hG0];exact (Below.refl _ _).alloc (nLr _) _
   obtain ⟨y,hy⟩:∃y,y=wr.heap.size:=⟨_,rfl⟩;rw [<-hy] at hky ⊢;have z0:G0.cell? ⟨y,0,none⟩=some (.int .u32 (x.cl:Int)):=by simpa using blk_cell hky 0
   have KY0:=hiD hky;have P0:Hid (G0.ownsRow W0.heap.size 5 1 (.slice A3 M c3) M ((acc++(a.ss.take k).flatMap oneS).map enc)):=hiD (own_below HO.out hbv);have S0:=hiD (HB.out.trans (Below.mono hbv HB.out.size));have HC1:=hiD (fun W=>ref_Uint x.cl (by have:=HXL.out;omega) W);have HC2:=hiD (fun W=>ref_Uint x.sq (by have:=HXL.out;omega) W);have HC3:=hiD (fun W=>ref_Uint x.cd (by have:=HXL.out;omega) W);have HC4:=hiD (fun W=>ref_Text x.tx (by have:=HXL.out;omega) W);clear hG0 hky hbv hy t0 t1 t2 t3 y1
   go_wp2_with fail
   refine (HC1.out G0).mono ?_;rintro e R1 ⟨g1,l1,d1,rfl,hown,hb⟩;have hl1:l1<=10:=by have:=own_len hown;have:=vb_len10 (n:=x.cl) (by have:=HXL.out;omega);omega
   have C1:Hid (R1.ownsRow G0.heap.size 5 1 (.slice (some ⟨g1,0,none⟩) l1 d1) l1 ((vb x.cl).map enc)):=hiD hown;have OO1:=hiD (own_below P0.out hb);have SS1:=hiD (S0.out.trans (Below.mono hb S0.out.size));have KK1:=hiD ((hb.block y (geS.1 KY0.out).1).trans KY0.out);clear hown hb z0
   go_wp2_with (first|(at_builtin;refine wpList_append_has rfl (.tmp 32) (.tmp 36) 48 rfl W0.heap.size 5 i0 Tryz.underlying48 hi hz0 hz1 hz2 (.slice A3 (M) c3) (M) (acc++(a.ss.take k).flatMap oneS) rfl OO1.out _ _ l1 d1 (vb x.cl) rfl (own_len C1.out) (HasA.of_own C1.out) (by omega) SS1.out.size ?_;intro u3 U3 hown hg;have hb:Below W0.heap.size W0 U3:=SS1.out.grown hg SS1.out.size (fun k e=>(OO1.out.lt k e).1);have hky:=(hg.block y (geS.1 KK1.out).1 (fun e=>own_apartL OO1.out KK1.out e.symm)).trans KK1.out;have z1:U3.cell? ⟨y,1,none⟩=some (.int .u32 (x.sq:Int)):=(by simpa using blk_cell hky 1);obtain ⟨A3',c3',rfl⟩:=own_form hown;have P1:=hiD hown;have S1:=hiD hb;have KY1:=hiD hky;clear hown hg hb hky)|fail)
   refine (HC2.out U3).mono ?_;rintro e R2 ⟨g2,l2,d2,rfl,hown,hb⟩;have hl2:l2<=10:=by have:=own_len hown;have:=vb_len10 (n:=x.sq) (by have:=HXL.out;omega);omega
   have C2:Hid (R2.ownsRow U3.heap.size 5 1 (.slice (some ⟨g2,0,none⟩) l2 d2) l2 ((vb x.sq).map enc)):=hiD hown;have OO2:=hiD (own_below P1.out hb);have SS2:=hiD (S1.out.trans (Below.mono hb S1.out.size));have KK2:=hiD ((hb.block y (geS.1 KY1.out).1).trans KY1.out);clear hown hb z1
   go_wp2_with (first|(at_builtin;refine wpList_append_has rfl (.tmp 38) (.tmp 42) 48 rfl W0.heap.size 5 i0 Tryz.underlying48 hi hz0 hz1 hz2 (.slice A3' (M+l1) c3') (M+l1) (acc++(a.ss.take k).flatMap oneS++vb x.cl) rfl OO2.out _ _ l2 d2 (vb x.sq) rfl (own_len C2.out) (HasA.of_own C2.out) (by omega) SS2.out.size ?_;intro u4 U4 hown hg;have hb:Below W0.heap.size W0 U4:=SS2.out.grown hg SS2.out.size (fun k e=>(OO2.out.lt k e).1);have hky:=(hg.block y (geS.1 KK2.out).1 (fun e=>own_apartL OO2.out KK2.out e.symm)).trans KK2.out;have z2:U4.cell? ⟨y,2,none⟩=some (.int .u8 (x.cd:Int)):=(by simpa using blk_cell hky 2);obtain ⟨A4',c4',rfl⟩:=own_form hown;have P2:=hiD hown;have S2:=hiD hb;have KY2:=hiD hky;clear hown hg hb hky)|fail)
   refine (HC3.out U4).mono ?_;rintro e R3 ⟨g3,l3,d3,rfl,hown,hb⟩;have hl3:l3<=10:=by have:=own_len hown;have:=vb_len10 (n:=x.cd) (by have:=HXL.out;omega);omega
   have C3:Hid (R3.ownsRow U4.heap.size 5 1 (.slice (some ⟨g3,0,none⟩) l3 d3) l3 ((vb x.cd).map enc)):=hiD hown;have OO3:=hiD (own_below P2.out hb);have SS3:=hiD (S2.out.trans (Below.mono hb S2.out.size));have KK3:=hiD ((hb.block y (geS.1 KY2.out).1).trans KY2.out);clear hown hb z2
   go_wp2_with (first|(at_builtin;refine wpList_append_has rfl (.tmp 44) (.tmp 49) 48 rfl W0.heap.size 5 i0 Tryz.underlying48 hi hz0 hz1 hz2 (.slice A4' (M+l1+l2) c4') (M+l1+l2) (acc++(a.ss.take k).flatMap oneS++vb x.cl++vb x.sq) rfl OO3.out _ _ l3 d3 (vb x.cd) rfl (own_len C3.out) (HasA.of_own C3.out) (by omega) SS3.out.size ?_;intro u5 U5 hown hg;have hb:Below W0.heap.size W0 U5:=SS3.out.grown hg SS3.out.size (fun k e=>(OO3.out.lt k e).1);have hky:=(hg.block y (geS.1 KK3.out).1 (fun e=>own_apartL OO3.out KK3.out e.symm)).trans KK3.out;have z3:U5.cell? ⟨y,3,none⟩=some (.string x.tx):=(by simpa using blk_cell hky 3);obtain ⟨A5',c5',rfl⟩:=own_form hown;have P3:=hiD hown;have S3:=hiD hb;have KY3:=hiD hky;clear hown hg hb hky)|fail)
   refine (HC4.out U5).mono ?_;rintro e R4 ⟨g4,l4,d4,rfl,hown,hb⟩;have hl4:l4<=20010:=by have:=own_len hown;have h1:=txt_le (s:=x.tx) (by have:=HXL.out;omega);have h2:=HXL.out;simp only [txt] at h1;omega
   have C4:Hid (R4.ownsRow U5.heap.size 5 1 (.slice (some ⟨g4,0,none⟩) l4 d4) l4 ((txt x.tx).map enc)):=hiD hown;have OO4:=hiD (own_below P3.out hb);have SS4:=hiD (S3.out.trans (Below.mono hb S3.out.size));have KK4:=hiD ((hb.block y (geS.1 KY3.out).1).trans KY3.out);clear hown hb z3
   go_wp2_with (first|(at_builtin;refine wpList_append_has rfl (.tmp 51) (.tmp 55) 48 rfl W0.heap.size 5 i0 Tryz.underlying48 hi hz0 hz1 hz2 (.slice A5' (M+l1+l2+l3) c5') (M+l1+l2+l3) (acc++(a.ss.take k).flatMap oneS++vb x.cl++vb x.sq++vb x.cd) rfl OO4.out _ _ l4 d4 (txt x.tx) rfl (own_len C4.out) (HasA.of_own C4.out) (by omega) SS4.out.size ?_;intro u6 U6 hown hg;have hb:Below W0.heap.size W0 U6:=SS4.out.grown hg SS4.out.size (fun k e=>(OO4.out.lt k e).1);have hky:=(hg.block y (geS.1 KK4.out).1 (fun e=>own_apartL OO4.out KK4.out e.symm)).trans KK4.out;obtain ⟨A6',c6',rfl⟩:=own_form hown;have P4:=hiD hown;have S4:=hiD hb;have KY4:=hiD hky;clear hown hg hb hky)|fail)
   refine ⟨⟨k+1,M+l1+l2+l3+l4,A6',c6',by omega,by congr 1,rfl,by omega,by omega,hiD ?_,S4⟩,by simp only [intOf];omega⟩;have hk1:k<a.ss.length:=by have:=HN.out.1;omega
   have h:=P4.out;rw [List.take_succ_eq_append_getElem hk1,List.flatMap_append,<-HX.out,show [x].flatMap oneS=vb x.cl++vb x.sq++vb x.cd++txt x.tx by simp [oneS]];simp only [List.append_assoc] at h ⊢;exact h
  ·have hki:¬(k:Int)<L:=by omega
   obtain rfl:k=L:=by omega
   go_wp2;go_ret;have h:=HO.out;rw [show (a.ss.take k).flatMap oneS=a.ss.flatMap oneS by rw [HN.out.1,List.take_length],HACC.out,HY.out.1] at h
   have hfin:vb n++bytesP a.ps++vb k++a.ss.flatMap oneS=bytesA a:=by
    rw [bytesA,bytesSS,<-HN.out.1,<-HN.out.2.2];simp only [List.append_assoc]
   rw [hfin] at h;have hbw:Below w.heap.size w wr:=H0.out.2.1.trans (Below.mono HB.out H0.out.2.1.size)
   rcases h.2 with ⟨e,h2⟩|⟨g,cap,cur,e,_⟩
   ·omega
   ·cases e
    exact ⟨g,M,_,rfl,own_base h H0.out.2.1.size,hbw⟩
def KindA (w:World) (k:Nat):Prop:=(∃es ck,w.heap[k]?=some (.map es ck))\/∃cs t z,w.heap[k]?=some (.cells cs t z)/\∀(o:Nat) (v:Value),cs[o]?=some v->(∃q,v=.pointer q)\/(∃q,v=.map q)\/∃n,v=.int .u64 n
theorem KindA.cell {w:World} {k o:Nat} {v:Value} (h:KindA w k) (hc:w.cell? ⟨k,o,none⟩=some v):(∃q,v=.pointer q)\/(∃q,v=.map q)\/∃n,v=.int .u64 n:=by
 rcases h with ⟨es,ck,h⟩|⟨cs,t,z,h,hv⟩
 ·unfold World.cell? at hc;rw [h] at hc;simp at hc
 ·unfold World.cell? at hc;rw [h] at hc;exact hv o v (by simpa using hc)
structure WvN {T:World->Prop} (K:WvK T):Prop where
 kinds:∀{F:Nat->Prop} {w:World} {R:Nat} {a:AM},K.Pl F w R a->∀k,F k->KindA w k
 bytes:∀{F:Nat->Prop} {w:World} {R:Nat} {a:AM},T w->K.Pl F w R a->LimAn 300 a->Calls Tryz.prog 14 #[.pointer (some ⟨R,0,none⟩)] w fun e W'=>∃v n,e=.returned v/\W'.ownsRow w.heap.size 5 1 v n ((bytesA a).map enc)/\Below w.heap.size w W'
 none_:∀{F:Nat->Prop} {w:World} {R:Nat} {a:AM} (A:Option Addr) (L c:Nat) (l:List CmdV),K.Pl F w R a->T w->LimAn 1000 a->L=l.length->L<=100->HasCF F w A l->(∀v∈l,¬v.great)->
  Calls Tryz.prog 12 #[.pointer (some ⟨R,0,none⟩),.slice A L c,.nilFunc] w fun e W'=>∃A' c',e=.returned (.slice A' L c')/\L<=c'/\HasD W' A' (runD (picksM []) (l.map (·.m)) a)/\∃F',K.Pl F' W' R (endR (picksM []) (l.map (·.m)) a)/\Only F w W'/\(∀k,F' k->F k\/w.heap.size<=k)/\NotF w.heap.size F' A'
 runNil:∀(A:Option Addr) (L c:Nat) (w:World),T w->L<=140737488351232->Calls Tryz.prog 12 #[.pointer none,.slice A L c,.nilFunc] w fun e W'=>∃A' c',e=.returned (.slice A' 0 c')/\Below w.heap.size w W'
 oneNil:∀(A:Option Addr) (L c:Nat) (w:World),T w->L<=140737488351232->Calls Tryz.prog 17 #[.pointer none,.slice A L c] w fun e W'=>∃A' c',e=.returned (.slice A' 0 c')/\Below w.heap.size w W'
section
variable {w W:World} {F:Nat->Prop}
theorem AppV.only {v:Value} {a:AM} (h:AppV w v a) (ho:Only F w W) (hk:∀k,F k->KindA w k):AppV W v a:=by
 refine h.blocks fun b hb hc=>ho.block b hb fun hf=>?_
 obtain ⟨o,hc⟩:=hc
 rcases hc with ⟨t,u,h1,_⟩|⟨z,h1⟩
 ·rcases (hk b hf).cell h1 with ⟨q,e⟩|⟨q,e⟩|⟨q,e⟩<;>cases e
 ·rcases (hk b hf).cell h1 with ⟨q,e⟩|⟨q,e⟩|⟨q,e⟩<;>cases e
theorem AppC.only {r n0 c0 n1 c1 n:Nat} {A0 A1:Option Addr} (h:AppC w r A0 n0 c0 A1 n1 c1 n) (ho:Only F w W) (hk:∀k,F k->KindA w k):AppC W r A0 n0 c0 A1 n1 c1 n:=by
 refine (ho.block r h.lt fun hf=>?_).trans h;have h1:w.cell? ⟨r,0,none⟩=some (.slice A0 n0 c0):=by rw [blk_cell h 0];rfl
 rcases (hk r hf).cell h1 with ⟨q,e⟩|⟨q,e⟩|⟨q,e⟩<;>cases e
theorem HasI.only {A:Option Addr} {ws:List Nat} (h:HasI w A ws) (ho:Only F w W) (hk:∀k,F k->KindA w k):HasI W A ws:=fun hl=>by
 obtain ⟨b,o,e,h1,h2⟩:=h hl;have hl0:0<ws.length:=List.length_pos_iff.2 hl
 have hb:=ho.block b h1 fun hf=>by
  rcases (hk b hf).cell (h2 0 hl0) with ⟨q,e⟩|⟨q,e⟩|⟨q,e⟩<;>cases e
 exact ⟨b,o,e,nLl h1 ho.size,fun j hj=>(World.cell?_of_block hb).trans (h2 j hj)⟩
end
structure RowsQ (w:World) (rb fb tb:Nat) (T:Nat->(Nat × ByteArray) × Bool) (tt:Nat->Nat) (M:Nat):Prop where
 r0:∀q,q<M->w.cell? ⟨rb,0+q*2,none⟩=some (.int .u8 ((T q).1.1:Int))/\w.cell? ⟨rb,0+q*2+1,none⟩=some (.string (T q).1.2)
 f0:∀q,q<M->w.cell? ⟨fb,0+q,none⟩=some (.bool (T q).2)
 t0:∀q,q<M->w.cell? ⟨tb,0+q,none⟩=some (.int .i64 (tt q:Int))
theorem cell_lt {w:World} {z:Addr} {v:Value} (h:w.cell? z=some v):z.block<w.heap.size:=by
 rcases Nat.lt_or_ge z.block w.heap.size with h1|h1
 ·exact h1
 ·unfold World.cell? at h;rw [Array.getElem?_eq_none h1] at h;simp at h
section
variable {w W:World} {rb fb tb M:Nat} {T:Nat->(Nat × ByteArray) × Bool} {tt:Nat->Nat} {F:Nat->Prop}
theorem RowsQ.of (h1:w.heap[rb]?=some (.cells (rowR T M) 45 (0,0))) (h2:w.heap[fb]?=some (.cells (rowB T M) 4 (0,0))) (h3:w.heap[tb]?=some (.cells (rowT tt M) 3 (0,0))):RowsQ w rb fb tb T tt M where
 r0:=fun q hq=>by
  refine ⟨?_,?_⟩
  ·rw [blk_cell h1,rowR_get,if_pos (by omega),if_pos (by omega),show (0+q*2)/2=q by omega]
  ·rw [blk_cell h1,rowR_get,if_pos (by omega),if_neg (by omega),show (0+q*2+1)/2=q by omega]
 f0:=fun q hq=>by rw [blk_cell h2,rowB_get,Nat.zero_add,if_pos hq]
 t0:=fun q hq=>by rw [blk_cell h3,rowT_get,Nat.zero_add,if_pos hq]
theorem RowsQ.below (h:RowsQ w rb fb tb T tt M) (hb:Below w.heap.size w W):RowsQ W rb fb tb T tt M where
 r0:=fun q hq=>⟨(hb.cell (p:=⟨rb,0+q*2,none⟩) (cell_lt (h.r0 q hq).1)).trans (h.r0 q hq).1,(hb.cell (p:=⟨rb,0+q*2+1,none⟩) (cell_lt (h.r0 q hq).2)).trans (h.r0 q hq).2⟩
 f0:=fun q hq=>(hb.cell (p:=⟨fb,0+q,none⟩) (cell_lt (h.f0 q hq))).trans (h.f0 q hq)
 t0:=fun q hq=>(hb.cell (p:=⟨tb,0+q,none⟩) (cell_lt (h.t0 q hq))).trans (h.t0 q hq)
theorem RowsQ.only (h:RowsQ w rb fb tb T tt M) (ho:Only F w W) (hk:∀k,F k->KindA w k):RowsQ W rb fb tb T tt M:=by
 have key:∀(b o:Nat) (v:Value),w.cell? ⟨b,o,none⟩=some v->(¬((∃q,v=.pointer q)\/(∃q,v=.map q)\/∃n,v=.int .u64 n))->W.cell? ⟨b,o,none⟩=some v:=fun b o v hc hn=>
  (World.cell?_of_block (ho.block b (cell_lt hc) (fun hf=>hn ((hk b hf).cell hc)))).trans hc
 refine ⟨fun q hq=>⟨key _ _ _ (h.r0 q hq).1 ?_,key _ _ _ (h.r0 q hq).2 ?_⟩,fun q hq=>key _ _ _ (h.f0 q hq) ?_,fun q hq=>key _ _ _ (h.t0 q hq) ?_⟩<;>
  (rintro (⟨q,e⟩|⟨q,e⟩|⟨q,e⟩)<;>cases e)
end
theorem endR_lim {pk:Nat->Nat->Nat->Int} {ms:List CM} {N:Nat} {a:AM} (h:LimAn N a) (hm:∀m∈ms,m.cl<4294967296/\m.sq<4294967296) (hN:N+ms.length<=2000):LimAn (N+ms.length) (endR pk ms a):=by
 have hf:∀k,(atM ms k).cl<4294967296/\(atM ms k).sq<4294967296\/ms.length<=k:=fun k=>by
  rcases Nat.lt_or_ge k ms.length with h1|h1
  ·exact .inl (by rw [atM_get h1];exact hm _ (List.getElem_mem h1))
  ·exact .inr h1
 have key:∀(ord:List Nat),(∀i∈ord,i<ms.length)->∀{N:Nat} {a:AM},LimAn N a->N+ord.length<=2000->LimAn (N+ord.length) (runO (atM ms) ord a).1:=by
  intro ord
  induction ord with
  |nil=>intro _ N a h _;exact h
  |cons k l ih=>
   intro ho N a h hN;simp only [List.length_cons] at hN ⊢;have hk:=(hf k).resolve_right (by have:=ho k (List.mem_cons_self ..);omega);have h1:=h.do (by omega) hk.1 hk.2;have:=ih (fun i hi=>ho i (List.mem_cons_of_mem _ hi)) h1 (by omega);exact this.more (by omega)
 have:=key (orderM pk ms) (fun i hi=>List.mem_range.1 ((orderM_perm pk ms).mem_iff.1 hi)) h (by rw [ord_len];exact hN);rw [ord_len] at this;exact this
theorem runD_at (pk:Nat->Nat->Nat->Int) (ms:List CM) {a:AM} (ha:SortedA a) {i:Nat} (hi:i<ms.length):∃h1:i<(runD pk ms a).length,
 (runD pk ms a)[i]=⟨(toldO (runO (atM ms) (List.range ms.length) a).2 i).1.1,(toldO (runO (atM ms) (List.range ms.length) a).2 i).1.2,(toldO (runO (atM ms) (List.range ms.length) a).2 i).2,waveI ms i,(orderM pk ms).idxOf i⟩:=by
 refine ⟨by simpa [runD] using hi,?_⟩;simp only [runD,List.getElem_map,List.getElem_range];rw [orderM_same pk ms a ha]
theorem turnTo_all {o:List Nat} {n j:Nat} (hn:n=o.length) (hj:j∈o):turnTo o n j=o.idxOf j:=by
 unfold turnTo;rw [hn,List.take_length,if_pos hj]
end Go.Proofs.YtfjmdkhemnmkpaaGreatDoor
