/-
  A CLOSED RUN, HELD AGAINST THE MODEL (8): every operation that is no call of a Go function.
-/
import Derived.Test.YtldapapdolkiaaaGreatDoorEngH
import Derived.Lib.Bytealg
namespace Go.Eng
noncomputable section
set_option linter.unusedVariables false
set_option linter.unusedSimpArgs false
def jWM:{ K:Array Value→Sem Value // ∀a len cap,Conv.bytesToString (.slice (some a) len cap)=(loadCells a len >>= K) }:=⟨_,fun _ _ _=>rfl⟩
def jHT:Value→Value→Option Bool
 | .pointer (some _),.pointer none | .pointer none,.pointer (some _)=>some false
 | .slice (some _) _ _,.slice none _ _ | .slice none _ _,.slice (some _) _ _=>some false
 | .func _ _ _,.nilFunc | .nilFunc,.func _ _ _=>some false
 | .iface _ _,.nilIface=>some false
 | .map (some _),.map none | .map none,.map (some _)=>some false
 | _,_=>none
def jD7:TypeDesc→Value→Bool
 | .pointer _,.pointer _ | .slice _,.slice _ _ _ | .func _ _ _,.func _ _ _ | .func _ _ _,.nilFunc | .map _ _,.map _=>true
 | .interface _,.iface _ _ | .interface _,.nilIface=>true
 | _,_=>false
def jB4:Op→Bool
 | .select ..=>false
 | _=>true
def jAs (ts:Slots)(E:EM)(c a b:Operand):Option (Value × EM) :=
 match evT ts c with
 | .bool t=>some (if t then evT ts a else evT ts b,E)
 | _=>none
def jAf (P:Program)(E:EM)(t:TypeId):Option (Value × EM) :=
 match jGW P t with
 | some z=>some (.pointer (some ⟨E.n,0,none⟩),E.push (.cells z.cells.toList t true true))
 | none=>none
def jAo (P:Program)(ts:Slots)(E:EM)(t:TypeId)(x:Operand):Option (Value × EM) :=
 match evT ts x with
 | .pointer (some a)=>(jOd P E t a).map fun v=>(v,E)
 | _=>none
def jAg (P:Program)(ts:Slots)(E:EM)(t:TypeId)(x y:Operand):Option (Value × EM) :=
 match evT ts x with
 | .pointer (some a)=>(jRG P E t a (evT ts y)).map fun E1=>(undef,E1)
 | _=>none
def jA2 (ts:Slots)(E:EM)(x:Operand):Option (Value × EM) :=
 match evT ts x with
 | .pointer (some a)=>some (.pointer (some a),E)
 | .func (.func f) a c=>some (.func (.func f) a c,E)
 | .func (.yield f) a c=>some (.func (.yield f) a c,E)
 | .iface t v=>some (.iface t v,E)
 | _=>none
def jMW (P:Program)(ts:Slots)(E:EM)(t:TypeId)(x:Operand):Option (Value × EM) :=
 match P.underlying t with
 | some (.interface _)=>none
 | some _=>some (.iface t (evT ts x),E)
 | none=>none
def jA1 (P:Program)(ts:Slots)(E:EM)(op:BinOp)(t:TypeId)(x y:Operand):Option (Value × EM) :=
 match op,P.underlying t with
 | .eql,some d=>if jD7 d (evT ts x) && jD7 d (evT ts y) then (jHT (evT ts x) (evT ts y)).map fun b=>(.bool b,E) else none
 | .neq,some d=>if jD7 d (evT ts x) && jD7 d (evT ts y) then (jHT (evT ts x) (evT ts y)).map fun b=>(.bool !b,E) else none
 | _,_=>none
def jAr (P:Program)(ts:Slots)(E:EM)(src dst:TypeId)(x:Operand):Option (Value × EM) :=
 match P.underlying src,P.underlying dst,evT ts x with
 | some (.slice e),some .string,.slice (some a) len _=>match P.underlying e,jCI E a len with
   | some (.int .u8),some cs=>if a.spot.isNone && cs.all jAn then (match jBz P (jWM.1 cs.toArray) with | some v=>if jBl v then some (v,E) else none | none=>none) else none
   | _,_=>none
 | _,_,_=>none
def jAD (ts:Slots)(E:EM)(args:Array Operand):Option (Value × EM) :=
 match args.toList with
 | [x]=>match evT ts x with
   | .slice (some _) n _=>some (goInt n,E)
   | _=>none
 | _=>none
def opS (P:Program)(ts:Slots)(E:EM):Op→Option (Value × EM)
 | .move x | .assign x=>some (evT ts x,E)
 | .pick c a b=>jAs ts E c a b
 | .alloc t=>jAf P E t
 | .box t x=>some (.pointer (some ⟨E.n,0,none⟩),E.push (.cells (evT ts x).cells.toList t true true))
 | .build t ps=>(jTU P t (jIr ts ps)).map fun v=>(v,E)
 | .buildSlice t n ps=>jEz P E t n (jIr ts ps)
 | .load t x=>jAo P ts E t x
 | .store t x y=>jAg P ts E t x y
 | .nilCheck x=>jA2 ts E x
 | .binOp op t x y _=>jA1 P ts E op t x y
 | .convert src dst x=>jAr P ts E src dst x
 | .makeInterface t x=>jMW P ts E t x
 | .makeFunc (.func f) first captured=>some (.func (.func f) (first.map (evT ts)) (captured.map (evT ts)),E)
 | .slice t x lo hi none=>(jSn P E t (evT ts x) (lo.map (evT ts)) (hi.map (evT ts))).map fun v=>(v,E)
 | .fieldAddr s x f=>(jG5 P s (evT ts x) f).map fun v=>(v,E)
 | .field t x f=>(jSV P t (evT ts x) f).map fun v=>(v,E)
 | .indexAddr t x i=>(jGK P t (evT ts x) (evT ts i)).map fun v=>(v,E)
 | .range t x=>jT7 P E t (evT ts x)
 | .next x true=>jW9 E (evT ts x)
 | .extract x i=>(jK0 (evT ts x) i).map fun v=>(v,E)
 | .call ⟨.builtin .len,args,_⟩=>jAD ts E args
 | .call ⟨.builtin .append,args,tys⟩=>jNZ P E tys.toList (args.toList.map (evT ts))
 | _=>none
def jMU (P:Program):Op→Bool
 | .call ⟨.builtin .len,_,tys⟩=>match tys.toList with
   | t :: _=>match P.underlying t with
     | some (.slice _)=>true
     | _=>false
   | _=>false
 | .call ⟨.builtin .append,args,tys⟩=>args.size == 2 && tys.size == 2
 | _=>true
def jO8 (P:Program)(ng:Nat)(ts:Slots)(o:Oper)(E:EM):Option (Value × EM) :=
 if o.op.operands.toList.all (okX ng) then
  match (if o.op.operands.toList.all (fun x=>jBl (evT ts x)) && jB4 o.op then jDN P ts o else none) with
  | some v=>some (v,E)
  | none=>if jMU P o.op then opS P ts E o.op else none
 else none
/-! The common operations, by short ways. -/
def fInt (op:BinOp)(k:IntKind)(a b:Int):Option Value :=
 match op with
 | .add=>some (.int k (k.wrap (a+b)))
 | .sub=>some (.int k (k.wrap (a-b)))
 | .eql=>some (.bool (a == b))
 | .neq=>some (.bool (a != b))
 | .lss=>some (.bool (a<b))
 | .leq=>some (.bool (a≤b))
 | .gtr=>some (.bool (a > b))
 | .geq=>some (.bool (a ≥ b))
 | _=>none
def fStr (op:BinOp)(a b:ByteArray):Option Value :=
 match op with
 | .eql=>some (.bool (jZd a.data.toList b.data.toList))
 | .neq=>some (.bool !(jZd a.data.toList b.data.toList))
 | .add=>if llen a.data.toList+llen b.data.toList≤9223372036854775807 then some (.string (bapp a b)) else none
 | _=>none
def fBin (op:BinOp)(x y:Value):Option Value :=
 match x with
 | .int k a=>match y with
   | .int k' b=>if k=k' then fInt op k a b else none
   | _=>none
 | .string a=>match y with
   | .string b=>fStr op a b
   | _=>none
 | _=>none
def jWZ (P:Program)(t:TypeId)(x i:Value):Option Value :=
 match i with
 | .int _ n=>match x with
   | .string s=>match P.underlying t with
     | some .string=>if 0≤n then (match bget s n.toNat with | some b=>some (.int .u8 b.toNat) | none=>none) else none
     | _=>none
   | _=>none
 | _=>none
def fNot (x:Value):Option Value :=
 match x with
 | .bool b=>some (.bool !b)
 | _=>none
def okO (ng:Nat):Option Operand→Bool
 | some x=>okX ng x
 | none=>true
def fLen (P:Program)(ng:Nat)(ts:Slots)(args:Array Operand)(tys:Array TypeId):Option Value :=
 match args.toList with
 | [x]=>if okX ng x then (match evT ts x with
   | .string s=>match tys.toList with
     | t :: _=>match P.underlying t with
       | some .string=>some (goInt (llen s.data.toList))
       | _=>none
     | _=>none
   | _=>none) else none
 | _=>none
def fCut (P:Program)(t:TypeId)(x:Value)(lo hi:Option Value):Option Value :=
 match x with
 | .string s=>match P.underlying t with
   | some .string=>match hiE hi (llen s.data.toList) (llen s.data.toList) with
     | some h=>match loE lo h with
       | some l=>some (.string (bcut s l h))
       | none=>none
     | none=>none
   | _=>none
 | _=>none
def idxQ (l:List UInt8)(c:Nat):Nat→Int:=List.rec (motive:=fun _=>Nat→Int) (fun _=>Int.negSucc 0) (fun b _ ih i=>Bool.rec (motive:=fun _=>Int) (ih (Nat.succ i)) (Int.ofNat i) (Nat.beq b.toNat c)) l
def jY9 (l:List UInt8)(c:Nat):Nat:=List.rec (motive:=fun _=>Nat) 0 (fun b _ ih=>Bool.rec (motive:=fun _=>Nat) ih (Nat.succ ih) (Nat.beq b.toNat c)) l
def extK (P:Program)(g:FuncId):Nat :=
 match P.funcs[g]? with
 | some fn=>match fn.body with
   | some _=>0
   | none=>if fn.origin = "" then (if fn.name = "internal/bytealg.IndexByteString" then 1 else if fn.name = "internal/bytealg.CountString" then 2 else 0) else 0
 | none=>0
def jXq (k:Nat)(x y:Value):Option Value :=
 match x with
 | .string s=>match y with
   | .int .u8 c=>match k with
     | 1=>some (.int .i64 (idxQ s.data.toList c.toNat.toUInt8.toNat 0))
     | 2=>some (.int .i64 (Int.ofNat (jY9 s.data.toList c.toNat.toUInt8.toNat)))
     | _=>none
   | _=>none
 | _=>none
def fExt (P:Program)(ng:Nat)(ts:Slots)(g:FuncId)(args:Array Operand):Option Value :=
 match extK P g with
 | 0=>none
 | k+1=>match args.toList with
   | [x,y]=>if okX ng x && okX ng y then jXq (k+1) (evT ts x) (evT ts y) else none
   | _=>none
def jC6 (P:Program)(ng:Nat)(ts:Slots):Op→Option Value
 | .binOp op _ x y _=>if okX ng x && okX ng y then fBin op (evT ts x) (evT ts y) else none
 | .index t x i=>if okX ng x && okX ng i then jWZ P t (evT ts x) (evT ts i) else none
 | .unOp .not _ x=>if okX ng x then fNot (evT ts x) else none
 | .call ⟨.builtin .len,args,tys⟩=>fLen P ng ts args tys
 | .call ⟨.value (.func g),args,_⟩=>fExt P ng ts g args
 | .slice t x lo hi none=>if okX ng x && okO ng lo && okO ng hi then fCut P t (evT ts x) (lo.map (evT ts)) (hi.map (evT ts)) else none
 | _=>none
def okP (ng:Nat):List (Nat × Operand)→Bool
 | []=>true
 | p :: r=>okX ng p.2 && okP ng r
def okL (ng:Nat):List Operand→Bool
 | []=>true
 | x :: r=>okX ng x && okL ng r
def jDb (P:Program)(ng:Nat):Op→Bool
 | .move x | .assign x | .load _ x | .box _ x | .nilCheck x | .extract x _ | .fieldAddr _ x _ | .next x true=>okX ng x
 | .makeInterface _ x=>okX ng x
 | .alloc _=>true
 | .pick c a b=>okX ng c && okX ng a && okX ng b
 | .store _ x y | .indexAddr _ x y=>okX ng x && okX ng y
 | .slice _ x lo hi none=>okX ng x && okO ng lo && okO ng hi
 | .build _ ps | .buildSlice _ _ ps=>okP ng ps.toList
 | .call ⟨.builtin .append,args,tys⟩=>okL ng args.toList && jMU P (.call ⟨.builtin .append,args,tys⟩)
 | .call ⟨.builtin .len,args,tys⟩=>okL ng args.toList && jMU P (.call ⟨.builtin .len,args,tys⟩)
 | _=>false
def jGp (P:Program)(ng:Nat)(ts:Slots)(E:EM)(op:Op):Option (Value × EM):=if jDb P ng op then opS P ts E op else none
def opA (P:Program)(ng:Nat)(ts:Slots)(o:Oper)(E:EM):Option (Value × EM) :=
 match jC6 P ng ts o.op with
 | some v=>some (v,E)
 | none=>match jGp P ng ts E o.op with
   | some r=>some r
   | none=>jO8 P ng ts o E
theorem jOj {ng:Nat}:∀ {l:List (Nat × Operand)},okP ng l=true→∀p ∈ l,okX ng p.2=true
 | [],_,_,h=>by cases h
 | a :: r,h,p,hp=>by
   simp only[okP,Bool.and_eq_true]at h
   rcases List.mem_cons.1 hp with e | e
   ·rw[e];exact h.1
   ·exact jOj h.2 p e
theorem jGz {ng:Nat}:∀ {l:List Operand},okL ng l=true→∀p ∈ l,okX ng p=true
 | [],_,_,h=>by cases h
 | a :: r,h,p,hp=>by
   simp only[okL,Bool.and_eq_true]at h
   rcases List.mem_cons.1 hp with e | e
   ·rw[e];exact h.1
   ·exact jGz h.2 p e
theorem jSB {P:Program}{ng:Nat}{op:Op}(h:jDb P ng op=true):(∀x ∈ op.operands,okX ng x=true)∧jMU P op=true:=by
 cases op with
 | move x=>exact⟨fun y hy=>by simp[Op.operands]at hy;rw[hy];exact h,rfl⟩
 | assign x=>exact⟨fun y hy=>by simp[Op.operands]at hy;rw[hy];exact h,rfl⟩
 | load t x=>exact⟨fun y hy=>by simp[Op.operands]at hy;rw[hy];exact h,rfl⟩
 | box t x=>exact⟨fun y hy=>by simp[Op.operands]at hy;rw[hy];exact h,rfl⟩
 | nilCheck x=>exact⟨fun y hy=>by simp[Op.operands]at hy;rw[hy];exact h,rfl⟩
 | makeInterface t x=>exact⟨fun y hy=>by simp[Op.operands]at hy;rw[hy];exact h,rfl⟩
 | extract x i=>exact⟨fun y hy=>by simp[Op.operands]at hy;rw[hy];exact h,rfl⟩
 | fieldAddr s x f=>exact⟨fun y hy=>by simp[Op.operands]at hy;rw[hy];exact h,rfl⟩
 | next x s =>
   cases s with
   | false=>simp[jDb]at h
   | true=>exact⟨fun y hy=>by simp[Op.operands]at hy;rw[hy];exact h,rfl⟩
 | alloc t=>exact⟨fun y hy=>by simp[Op.operands]at hy,rfl⟩
 | pick c a b =>
   simp only[jDb,Bool.and_eq_true]at h
   refine⟨fun y hy=>?_,rfl⟩
   simp[Op.operands]at hy
   rcases hy with e | e | e
   ·rw[e];exact h.1.1
   ·rw[e];exact h.1.2
   ·rw[e];exact h.2
 | store t x z =>
   simp only[jDb,Bool.and_eq_true]at h
   refine⟨fun y hy=>?_,rfl⟩
   simp[Op.operands]at hy
   rcases hy with e | e
   ·rw[e];exact h.1
   ·rw[e];exact h.2
 | indexAddr t x z =>
   simp only[jDb,Bool.and_eq_true]at h
   refine⟨fun y hy=>?_,rfl⟩
   simp[Op.operands]at hy
   rcases hy with e | e
   ·rw[e];exact h.1
   ·rw[e];exact h.2
 | slice t x lo hi mx =>
   cases mx with
   | some m=>simp[jDb]at h
   | none =>
     simp only[jDb,Bool.and_eq_true]at h
     refine⟨fun y hy=>?_,rfl⟩
     simp[Op.operands]at hy
     rcases hy with e | e | e
     ·rw[e];exact h.1.1
     ·have:=h.1.2;rw[e]at this;exact this
     ·have:=h.2;rw[e]at this;exact this
 | build t ps =>
   refine⟨fun y hy=>?_,rfl⟩
   simp only[Op.operands,List.mem_toArray,List.mem_map]at hy
   obtain⟨p,hp,rfl⟩:=hy
   exact jOj h p hp
 | buildSlice t n ps =>
   refine⟨fun y hy=>?_,rfl⟩
   simp only[Op.operands,List.mem_toArray,List.mem_map]at hy
   obtain⟨p,hp,rfl⟩:=hy
   exact jOj h p hp
 | call c =>
   obtain⟨callee,args,tys⟩:=c
   cases callee with
   | value f=>simp[jDb]at h
   | invoke r m=>simp[jDb]at h
   | builtin b =>
     cases b <;> try (simp[jDb]at h;done)
     all_goals
      simp only[jDb,Bool.and_eq_true]at h
      refine⟨fun y hy=>jGz h.1 y ?_,h.2⟩
      simpa [Op.operands,Call.operands] using hy
 | _=>simp[jDb]at h
section
variable {P:Program} {base:Nat} {w0:World} {β β1:Map} {E E1:EM} {w w1:World}
theorem OK.of {s:Sem Value}{e:Sem Next}{v v':Value}(he:e=(do pure (.value (←s))))(hx:Ext β β1)(hv:VR β1 v v')(g:Good P base w0 β1 E1 w1)(hs:s.run P w=.ok v' w1):OK P base w0 β E1 v e w:=by
 subst he
 exact⟨β1,v',w1,hx,hv,g,.inl (by simp[hs])⟩
theorem OK.same {s:Sem Value}{e:Sem Next}{v:Value}(he:e=(do pure (.value (←s))))(g:Good P base w0 β E w)(h:∃v',VR β v v'∧s.run P w=.ok v' w):OK P base w0 β E v e w:=by
 obtain⟨v',hv,hs⟩:=h
 exact OK.of he (Ext.refl β) hv g hs
theorem jVt {d:TypeDesc}{t:TypeId}(hu:P.underlying t=some d){x y:Value}{b:Bool}(h1:jD7 d x=true)(h2:jD7 d y=true)(h:jHT x y=some b)(n:Nat) :
 (Op.equalIn (n+1) t x y).run P w=.ok b w:=by
 rw[Op.equalIn,Sem.run_bind,run_underlying hu,Result.andThen_ok]
 unfold jHT at h
 split at h <;> cases h <;> cases d <;> first | (simp[jD7]at h1;done) | rfl
theorem jLU {d:TypeDesc}{t:TypeId}(hu:P.underlying t=some d){x y:Value}{b:Bool}(h1:jD7 d x=true)(h2:jD7 d y=true)(h:jHT x y=some b) :
 (Op.equal t x y).run P w=.ok b w:=jVt hu h1 h2 h 9999
theorem jMv {x y:Value}{b:Bool}(h:jHT x y=some b)(op:BinOp)(t:TypeId)(xo yo:Operand):eqGuard op t xo yo x y=pure ():=by
 unfold jHT at h
 split at h <;> cases h
 ·exact eqGuard_at_pointer ..
 ·exact eqGuard_at_pointer ..
 ·exact eqGuard_at_slice ..
 ·exact eqGuard_at_slice ..
 ·exact eqGuard_at_func ..
 ·exact eqGuard_at_nilFunc ..
 ·exact eqGuard_at_iface ..
 ·exact eqGuard_at_map ..
 ·exact eqGuard_at_map ..
theorem jMk {x y:Value}{b:Bool}(h:jHT x y=some b)(t:TypeId) :
 binOp .eql t x y=(do pure (.bool (←Op.equal t x y)))∧binOp .neq t x y=(do pure (.bool (!(←Op.equal t x y)))):=by
 unfold jHT at h
 split at h <;> cases h <;> exact⟨rfl,rfl⟩
theorem jKy {x y x' y':Value}(hx:VR β x x')(hy:VR β y y'){b:Bool}(h:jHT x y=some b):jHT x' y'=some b∧∀d,jD7 d x'=jD7 d x∧jD7 d y'=jD7 d y:=by
 unfold jHT at h
 split at h <;> cases h
 ·obtain⟨a',rfl,_⟩:=hx.ptrInv;have:=hy.scalarEq rfl;subst this;exact⟨rfl,fun d=>by cases d <;> exact⟨rfl,rfl⟩⟩
 ·obtain⟨a',rfl,_⟩:=hy.ptrInv;have:=hx.scalarEq rfl;subst this;exact⟨rfl,fun d=>by cases d <;> exact⟨rfl,rfl⟩⟩
 ·obtain⟨a',c',rfl⟩:=hx.sliceAny;have:=hy.scalarEq rfl;subst this;exact⟨rfl,fun d=>by cases d <;> exact⟨rfl,rfl⟩⟩
 ·obtain⟨a',c',rfl⟩:=hy.sliceAny;have:=hx.scalarEq rfl;subst this;exact⟨rfl,fun d=>by cases d <;> exact⟨rfl,rfl⟩⟩
 ·obtain⟨f',a',c',rfl,_,_,_⟩:=hx.funcInv;have:=hy.scalarEq rfl;subst this;exact⟨rfl,fun d=>by cases d <;> exact⟨rfl,rfl⟩⟩
 ·obtain⟨f',a',c',rfl,_,_,_⟩:=hy.funcInv;have:=hx.scalarEq rfl;subst this;exact⟨rfl,fun d=>by cases d <;> exact⟨rfl,rfl⟩⟩
 ·have:=hy.scalarEq rfl;subst this
  cases hx with
  | scalar h=>simp[jAn]at h
  | iface h=>exact⟨rfl,fun d=>by cases d <;> exact⟨rfl,rfl⟩⟩
 ·have:=hy.scalarEq rfl;subst this
  cases hx with
  | scalar h=>simp[jAn]at h
  | map h=>exact⟨rfl,fun d=>by cases d <;> exact⟨rfl,rfl⟩⟩
 ·have:=hx.scalarEq rfl;subst this
  cases hy with
  | scalar h=>simp[jAn]at h
  | map h=>exact⟨rfl,fun d=>by cases d <;> exact⟨rfl,rfl⟩⟩
end
end
end Go.Eng
