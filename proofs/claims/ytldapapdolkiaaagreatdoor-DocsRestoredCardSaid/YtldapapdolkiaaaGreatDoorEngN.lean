/-
  A CLOSED RUN, HELD AGAINST THE MODEL (13): single steps of the model's machine at any frame.
-/
import Derived.Test.YtldapapdolkiaaaGreatDoorEngM
import Derived.RangeFuncRecord
namespace Go.Eng
noncomputable section
set_option linter.unusedVariables false
set_option linter.unusedSimpArgs false
section
variable {P:Program} {fr:Frame} {cs:List Frame} {w w1:World} {k:List Item}
theorem jYh (hm:fr.mode=.run)(ht:fr.todo=.code .skip :: k):step P (lone fr cs w)=.next (lone { fr with todo:=k } cs w) :=
 step_lone_go (by simp[stepG,stepG.exec,hm,ht])
theorem jVO {l:Nat}(hm:fr.mode=.run)(ht:fr.todo=.code (.label l) :: k):step P (lone fr cs w)=.next (lone { fr with todo:=k } cs w) :=
 step_lone_go (by simp[stepG,stepG.exec,hm,ht])
theorem jQy {i:Nat}(hm:fr.mode=.run)(ht:fr.todo=.inBlock i :: k):step P (lone fr cs w)=.next (lone { fr with todo:=k } cs w) :=
 step_lone_go (by simp[stepG,stepG.exec,hm,ht])
theorem jRg {c:Code}(hm:fr.mode=.run)(ht:fr.todo=.inScope c :: k):step P (lone fr cs w)=.next (lone { fr with todo:=k } cs w) :=
 step_lone_go (by simp[stepG,stepG.exec,hm,ht])
theorem jZG {a b:Code}(hm:fr.mode=.run)(ht:fr.todo=.code (.seq a b) :: k):step P (lone fr cs w)=.next (lone { fr with todo:=.code a :: .code b :: k } cs w) :=
 step_lone_go (by simp[stepG,stepG.exec,hm,ht])
theorem jXb {c:Operand}{x y:Code}{b:Bool}(hm:fr.mode=.run)(ht:fr.todo=.code (.cond c x y) :: k)(hc:evA fr.tmps c=.bool b) :
 step P (lone fr cs w)=.next (lone { fr with todo:=.code (if b then x else y) :: k } cs w) :=
 step_lone_go (by rw[←jFg]at hc;simp[stepG,stepG.exec,hm,ht,hc])
theorem jVz {i:Nat}{c:Code}(hm:fr.mode=.run)(ht:fr.todo=.code (.block i c) :: k):step P (lone fr cs w)=.next (lone { fr with todo:=.code c :: .inBlock i :: k } cs w) :=
 step_lone_go (by simp[stepG,stepG.exec,hm,ht])
theorem jYp {c:Code}(hm:fr.mode=.run)(ht:fr.todo=.code (.loop c) :: k):step P (lone fr cs w)=.next (lone { fr with todo:=.code c :: .inLoop c :: k } cs w) :=
 step_lone_go (by simp[stepG,stepG.exec,hm,ht])
theorem jSI {c:Code}(hm:fr.mode=.run)(ht:fr.todo=.inLoop c :: k):step P (lone fr cs w)=.next (lone { fr with todo:=.code c :: .inLoop c :: k } cs w) :=
 step_lone_go (by simp[stepG,stepG.exec,hm,ht])
theorem jVS {c:Code}(hm:fr.mode=.run)(ht:fr.todo=.code (.scope c) :: k):step P (lone fr cs w)=.next (lone { fr with todo:=.code c :: .inScope c :: k } cs w) :=
 step_lone_go (by simp[stepG,stepG.exec,hm,ht])
theorem jXI {i:Nat}{k':List Item}(hm:fr.mode=.run)(ht:fr.todo=.code (.exit i) :: k)(h:exitTo i k=some k'):step P (lone fr cs w)=.next (lone { fr with todo:=k' } cs w) :=
 step_lone_go (by simp[stepG,stepG.exec,hm,ht,h])
theorem jX6 {l:Nat}{k':List Item}(hm:fr.mode=.run)(ht:fr.todo=.code (.goto l) :: k)(h:gotoIn l k=some k'):step P (lone fr cs w)=.next (lone { fr with todo:=k' } cs w) :=
 step_lone_go (by simp[stepG,stepG.exec,hm,ht,h])
theorem jL5 {id:Nat}{ops:Array Oper}(hm:fr.mode=.run)(ht:fr.todo=.code (.region id ops false) :: k) :
 step P (lone fr cs w)=.next (lone { fr with todo:=.inRegion ops (List.range ops.size) :: k } cs w) :=
 step_lone_go (by simp[stepG,stepG.exec,hm,ht])
theorem jXp {id:Nat}{ops:Array Oper}(hm:fr.mode=.run)(ht:fr.todo=.code (.region id ops true) :: k) :
 step P (lone fr cs w)=.next (lone { fr with todo:=.inRegion ops (Region.schedule (P.follows .mixedOrders) ops (w.tape w.drawn (.order fr.fn id))) :: k } cs { w with drawn:=w.drawn+1 }) :=
 step_lone_go (by simp[stepG,stepG.exec,hm,ht,choose,Sem.run,Question.forced,Question.cut])
theorem jHq {ops:Array Oper}(hm:fr.mode=.run)(ht:fr.todo=.inRegion ops [] :: k):step P (lone fr cs w)=.next (lone { fr with todo:=k } cs w) :=
 step_lone_go (by simp[stepG,stepG.exec,hm,ht])
theorem jTw (hm:fr.mode=.run)(ht:fr.todo=.code .ret :: k)(hr:fr.roundOf=none):step P (lone fr cs w)=.next (lone { fr with mode:=.returning } cs w) :=
 step_lone_go (by simp[stepG,stepG.exec,hm,ht,hr])
theorem jS3 (hm:fr.mode=.run)(ht:fr.todo=[])(hr:fr.roundOf=none):step P (lone fr cs w)=.next (lone { fr with mode:=.returning } cs w) :=
 step_lone_go (by simp[stepG,stepG.exec,hm,ht,hr])
theorem jT6 {ops:Array Oper}{i:Nat}{rest:List Nat}{o:Oper}(hm:fr.mode=.run)(ht:fr.todo=.inRegion ops (i :: rest) :: k)(ho:ops[i]? = some o)
 (hw:Region.wanted o (yielded ops fr.tmps)=false):step P (lone fr cs w)=.next (lone (fr.finish undef) cs w) :=
 step_lone_go (by simp[stepG,stepG.exec,hm,ht,ho,hw])
theorem stepG_op' {ops:Array Oper}{i:Nat}{rest:List Nat}{o:Oper}(hm:fr.mode=.run)(ht:fr.todo=.inRegion ops (i :: rest) :: k)(ho:ops[i]? = some o)
 (hw:Region.wanted o (yielded ops fr.tmps)=true) (hd:jCe o.op=false) :
 stepG P true { frame:=fr,callers:=cs,status:=.running,dying:=none } w=stepG.apply P true fr cs none (execOp fr.eval o) w:=by
 obtain⟨fn,tmps,todo,defers,mode,kind,roundOf⟩:=fr
 simp only at hm ht hw
 subst hm ht
 cases roundOf with
 | none=>simp[stepG,stepG.exec,stepG.oper,Frame.oper?,ho,hw]
 | some l =>
   obtain⟨dst,op,type,pos,after,guard⟩:=o
   cases op <;> first
    | (simp[jCe]at hd;done)
    | simp[stepG,stepG.exec,stepG.oper,Frame.oper?,ho,hw]
theorem jZI {ops:Array Oper}{i:Nat}{rest:List Nat}{o:Oper}(hm:fr.mode=.run)(ht:fr.todo=.inRegion ops (i :: rest) :: k)(ho:ops[i]? = some o)
 (hw:Region.wanted o (yielded ops fr.tmps)=true) (hd:jCe o.op=false) {v:Value} (hr:Does P (execOp (evA fr.tmps) o) w v w1) :
 step P (lone fr cs w)=.next (lone (fr.finish v) cs w1):=by
 refine step_lone_go ?_
 rw[stepG_op' hm ht ho hw hd,jFg]
 rcases hr with hr | ⟨hr,rfl⟩
 ·simp[stepG.apply,hr]
 ·simp[stepG.apply,hr]
inductive Enters (P:Program):Next→Frame→Prop
 | enter (f:FuncId) (args:Array Value):Enters P (.enter f args) (Frame.enter P f args .normal)
 | round (l:Nat) (f:FuncId) (tmps:Array Value) (as bd:Code):Enters P (.round l f tmps as bd) (Frame.round l f tmps as bd .normal)
theorem jLI {ops:Array Oper}{i:Nat}{rest:List Nat}{o:Oper}(hm:fr.mode=.run)(ht:fr.todo=.inRegion ops (i :: rest) :: k)(ho:ops[i]? = some o)
 (hw:Region.wanted o (yielded ops fr.tmps)=true) (hd:jCe o.op=false) {nx:Next} {f0:Frame} (hr:(execOp (evA fr.tmps) o).run P w=.ok nx w1) (he:Enters P nx f0) :
 step P (lone fr cs w)=.next (lone f0 (fr :: cs) w1):=by
 refine step_lone_go ?_
 rw[stepG_op' hm ht ho hw hd,jFg]
 cases he <;> simp[stepG.apply,hr,ht]
theorem jLm {l:Nat}(hm:fr.mode=.run)(ht:fr.todo=.beginRound :: k)(hl:fr.roundOf=some l)(hr:(Instr.beginRound l).run P w=.ok () w1) :
 step P (lone fr cs w)=.next (lone { fr with todo:=k } cs w1):=by
 refine step_lone_go ?_
 simp[stepG,stepG.exec,stepG.apply,hm,ht,hl,hr,Frame.finish]
theorem jIH {l:Nat}{jump:Option Code}(hm:fr.mode=.run)(ht:fr.todo=.endRangeFunc l :: k)(hr:(Instr.endLoop l).run P w=.ok jump w1) :
 step P (lone fr cs w)=.next (lone { fr with todo:=(jump.map Item.code).toList++k } cs w1):=by
 refine step_lone_go ?_
 simp[stepG,stepG.exec,hm,ht,hr]
theorem jHo {g:Operand}{ps:Array Tmp}{as bd:Code}{l:Nat}{mark:List Deferred}{w2:World}{nx:Next}{f0:Frame}(hm:fr.mode=.run)(ht:fr.todo=.code (.rangeFunc g ps as bd) :: k)
 (h1:(Instr.enterLoop fr.fn fr.tmps ps as bd fr.roundOf).run P w=.ok (l,mark) w1)
 (h2:(do let d ←Deferred.ofValue (evA fr.tmps g) #[.func (.yield l) #[] #[]];invoke d.target d.args:Sem Next).run P w1=.ok nx w2) (he:Enters P nx f0) :
 step P (lone fr cs w)=.next (lone f0 ({ fr with todo:=.inRangeFunc l :: k,defers:=mark++fr.defers } :: cs) w2):=by
 refine step_lone_go ?_
 have h3:(do let d ←resolve (evA fr.tmps) ⟨.value g,#[.const (.func (.yield l) #[] #[])],#[]⟩ 0;invoke d.target d.args:Sem Next).run P w1=.ok nx w2:=by
  rw[←h2];simp[resolve,evA]
 have h4:∀a todo defers mode kind r,({ fn:=a,tmps:=fr.tmps,todo:=todo,defers:=defers,mode:=mode,kind:=kind,roundOf:=r }:Frame).eval=evA fr.tmps:=fun _ _ _ _ _ _=>jFg _
 simp only[Sem.run_bind]at h3
 cases he <;> simp[stepG,stepG.exec,stepG.apply,hm,ht,h1,h4,h3]
theorem jKV {l:Nat}{jump:Option Code}{c:Frame}{b:Value}(hm:fr.mode=.run)(hk:fr.kind=.normal)(hl:fr.roundOf=some l)
 (hj:(fr.todo=[]∧jump=none)∨(∃k,fr.todo=.code .ret :: k∧jump=some .ret)∨(∃i k,fr.todo=.code (.exit i) :: k∧exitTo i k=none∧jump=some (.exit i)) ∨
   (∃i k,fr.todo=.code (.goto i) :: k∧gotoIn i k=none∧jump=some (.goto i)))
 (hr:(Instr.endRound l jump).run P w=.ok b w1):step P (lone fr (c :: cs) w)=.next (lone (c.finish b) cs w1):=by
 refine step_lone_go ?_
 rcases hj with ⟨ht,rfl⟩ | ⟨k,ht,rfl⟩ | ⟨i,k,ht,hx,rfl⟩ | ⟨i,k,ht,hx,rfl⟩
 ·simp[stepG,stepG.exec,hm,ht,hl,hr,doReturn,hk]
 ·simp[stepG,stepG.exec,hm,ht,hl,hr,doReturn,hk]
 ·simp[stepG,stepG.exec,hm,ht,hx,hl,hr,doReturn,hk]
 ·simp[stepG,stepG.exec,hm,ht,hx,hl,hr,doReturn,hk]
theorem jVB {b:Nat}{ds calls:List Deferred}(hm:fr.mode=.returning)(hd:fr.defers={ target:=.collected b,args:=#[] } :: ds)(hr:(Instr.takeDeferred b).run P w=.ok calls w1) :
 step P (lone fr cs w)=.next (lone { fr with defers:=calls++ds } cs w1):=by
 refine step_lone_go ?_
 simp[stepG,unwind,hm,hd,hr]
/-! Frames of deferred calls -/
def Under (fr:Frame)(cs:List Frame):Prop:=fr.kind=.deferred→∃c r,cs=c :: r∧c.mode=.returning
theorem Under.same {fr fr1:Frame}{cs:List Frame}(h:Under fr cs)(k:fr1.kind=fr.kind):Under fr1 cs:=fun e=>h (by rw[←k];exact e)
theorem Under.normal {fr:Frame}{cs:List Frame}(h:fr.kind=.normal):Under fr cs:=fun e=>by rw[h]at e;cases e
def back (k:CallKind)(c:Frame)(v:Value):Frame:=match k with
 | .deferred=>c
 | _=>c.finish v
theorem jTR {fr:Frame}(hk:fr.kind=.normal∨fr.kind=.deferred)(hu:Under fr cs):tryRecover fr cs=none:=by
 unfold tryRecover
 rcases hk with hk | hk
 ·rw[hk]
 ·obtain⟨c,r,rfl,hm⟩:=hu hk
  rw[hk]
  simp only[hm]
theorem jQr {ops:Array Oper}{i:Nat}{rest:List Nat}{o:Oper}(jNy:P.follows .rangeFuncRecover=true)(hm:fr.mode=.run)(ht:fr.todo=.inRegion ops (i :: rest) :: k)(ho:ops[i]? = some o)
 (hw:Region.wanted o (yielded ops fr.tmps)=true) (hd:jCe o.op=false) (hk:fr.kind=.normal∨fr.kind=.deferred) (hu:Under fr cs) (hr:(execOp (evA fr.tmps) o).run P w=.ok .recover w) :
 step P (lone fr cs w)=.next (lone (fr.finish .nilIface) cs w):=by
 refine step_lone_go ?_
 rw[stepG_op' hm ht ho hw hd,jFg]
 have hn:=jTR hk hu
 cases hro:fr.roundOf with
 | none=>simp[stepG.apply,hr,hro,hn]
 | some l=>simp[stepG.apply,hr,hro,jNy,hn]
theorem jVa {ops:Array Oper}{i:Nat}{rest:List Nat}{o:Oper}{d:Deferred}(hm:fr.mode=.run)(ht:fr.todo=.inRegion ops (i :: rest) :: k)(ho:ops[i]? = some o)
 (hw:Region.wanted o (yielded ops fr.tmps)=true) (hro:fr.roundOf=none) (hr:(execOp (evA fr.tmps) o).run P w=.ok (.defer d) w) :
 step P (lone fr cs w)=.next (lone ({ fr with defers:=d :: fr.defers }.finish undef) cs w):=by
 refine step_lone_go ?_
 have h1:stepG P true { frame:=fr,callers:=cs,status:=.running,dying:=none } w=stepG.apply P true fr cs none (execOp fr.eval o) w:=by
  obtain⟨fn,tmps,todo,defers,mode,kind,roundOf⟩:=fr
  simp only at hm ht hw hro
  subst hm ht hro
  simp[stepG,stepG.exec,stepG.oper,Frame.oper?,ho,hw]
 rw[h1,jFg]
 simp[stepG.apply,hr]
theorem jID {d:Deferred}{ds:List Deferred}{f:FuncId}{args:Array Value}(hm:fr.mode=.returning)(hd:fr.defers=d :: ds)(hc:∀b,d.target≠.collected b)
 (hr:(invoke d.target d.args).run P w=.ok (.enter f args) w1) :
 step P (lone fr cs w)=.next (lone (Frame.enter P f args .deferred) ({ fr with defers:=ds } :: cs) w1):=by
 refine step_lone_go ?_
 obtain⟨target,args0⟩:=d
 simp only at hc hr
 have h0:∀b,target=.collected b→False:=hc
 cases target with
 | collected b=>exact absurd rfl (hc b)
 | fn f0 c0=>simp[stepG,unwind,callDeferred,hm,hd,hr]
 | nil=>simp[stepG,unwind,callDeferred,hm,hd,hr]
 | builtin b ts t cs=>simp[stepG,unwind,callDeferred,hm,hd,hr]
 | coroexit c=>simp[stepG,unwind,callDeferred,hm,hd,hr]
theorem jHY {c:Frame}{v:Value}{fn:Func}(hm:fr.mode=.returning)(hd:fr.defers=[])(hk:fr.kind=.deferred)(hf:P.funcs[fr.fn]? = some fn)(hr:(results fn fr.tmps).run P w=.ok v w)
 (hc:c.mode=.returning):step P (lone fr (c :: cs) w)=.next (lone c cs w):=by
 refine step_lone_go ?_
 simp[stepG,unwind,doReturn,hm,hd,hk,hf,hr,hc]
end
end
end Go.Eng
