/-
  A CLOSED RUN, HELD AGAINST THE MODEL (17): a call without arguments, in any world: the package-level variables are not looked at.
-/
import Derived.Test.YtldapapdolkiaaaGreatDoorEngR
import Derived.Below
namespace Go.Eng
open Go.RowKit
noncomputable section
set_option linter.unusedVariables false
def okB (r:Option (Value × EM))(b:Bool):Bool :=
 match r with
 | some (.bool x,_)=>x == b
 | _=>false
def bareE (ng:Nat):EM:=⟨ng,.leaf⟩
theorem Good.below {P:Program}{w w':World}{β:Map}{E:EM}(g:Good P w.heap.size w β E w'):Below w.heap.size w w':=⟨g.os,g.tape,g.out,g.ge,g.old⟩
end
end Go.Eng
