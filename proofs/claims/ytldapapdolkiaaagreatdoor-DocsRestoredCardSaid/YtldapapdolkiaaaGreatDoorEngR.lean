/-
  A CLOSED RUN, HELD AGAINST THE MODEL (16): the theorem. Where the abstract run of a function gives a value, the model's call returns it, and all memory that was there is as it was.
-/
import Derived.Test.YtldapapdolkiaaaGreatDoorEngQ
import Derived.Below
namespace Go.Eng
noncomputable section
set_option linter.unusedVariables false
set_option linter.unusedSimpArgs false
section
variable {P:Program} {base:Nat} {w0:World} {ng:Nat}
def RunOK (P:Program)(base:Nat)(w0:World)(ng n:Nat):Prop :=
 ∀ (β:Map) (E:EM) (w:World) (f:EF) (fr:Frame) (v:Value) (E1:EM),Good P base w0 β E w→Glob ng β→FR β f fr→runF P ng n f E=some (v,E1) →
  ∃β1 v' w1,Ext β β1∧VR β1 v v'∧Good P base w0 β1 E1 w1∧Ret P fr w v' w1 ∧
   (f.roundOf=none→fr.kind=.normal→∃frE,frE.fn=f.fn∧frE.leaving P w1 (.returned v')∧∀cs,Steps P (lone fr cs w) (lone frE cs w1))
def jFh (P:Program):Bool:=P.funcs.toList.all fun fn=>!(fn.name == "runtime.NumGoroutine")
theorem jMm (hn:jFh P=true){g:FuncId}{fn:Func}{b:Code}(hf:P.funcs[g]? = some fn)(hb:fn.body=some b)(args:Array Value)(w:World):(callFunc g args).run P w=.ok (.enter g args) w:=by
 have jFe:(fn.name == "runtime.NumGoroutine")=false:=by
  have hm:fn ∈ P.funcs.toList:=by
   have:=Array.mem_of_getElem? hf
   simpa using this
  have:=List.all_eq_true.1 hn fn hm
  simpa using this
 unfold callFunc
 simp only[Sem.run_bind,run_program,Result.andThen_ok,hf]
 rw[jFe,hb]
 simp
theorem jJ0 {β:Map}:∀ {ps:List Tmp} {args args' ts ts':List Value},VRs β args args'→VRs β ts ts'→VRs β (jDQ ps args ts) (jDQ ps args' ts')
 | [],_,_,_,_,_,ht=>by simpa [jDQ] using ht
 | p :: r,_,_,ts,ts',.nil,ht=>by simpa [jDQ] using ht
 | p :: r,_,_,ts,ts',.cons hv ha,ht=>by
   have:=jJ0 (ps:=r) ha (ht.set p hv)
   simpa [jDQ] using this
theorem jTy (ps:Array Tmp)(args tmps:Array Value):((ps.zip args).foldl (fun tmps (t,a)=>tmps.setIfInBounds t a) tmps).toList=jDQ ps.toList args.toList tmps.toList:=by
 rw[←Array.foldl_toList,Array.toList_zip]
 unfold jDQ
 generalize ps.toList.zip args.toList=l
 induction l generalizing tmps with
 | nil=>rfl
 | cons a r ih =>
   simp only[List.foldl_cons]
   rw[ih]
   simp
theorem VRs.replicate {β:Map}(n:Nat):VRs β (List.replicate n undef) (List.replicate n undef):=by
 induction n with
 | zero=>exact .nil
 | succ n ih=>exact .cons (jGi β) ih
end
end
end Go.Eng
