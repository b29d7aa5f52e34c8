/-
  A CLOSED RUN, HELD AGAINST THE MODEL (10c): more operations: maps, made slices, pointers of any type, the buffer of a strings.Builder.
-/
import Derived.Test.YtldapapdolkiaaaGreatDoorEngK
import Derived.Lib.MakeNoZero
import Derived.Lib.UnsafeStr
import Derived.MapKept
import Derived.Laws.MakeOwn
namespace Go.Eng
noncomputable section
set_option linter.unusedVariables false
set_option linter.unusedSimpArgs false
def jI4:TypeDesc→Value→Bool
 | .int k,.int k' _=>k == k'
 | .string,.string _=>true
 | .bool,.bool _=>true
 | _,_=>false
def keysOK (d:TypeDesc)(es:List MapEntry):Bool:=es.all fun e=>jI4 d e.key
def jDR (P:Program)(E:EM)(t:TypeId)(x k:Value)(ok:Bool):Option (Value × EM) :=
 match P.underlying t with
 | some (.map kt et)=>match P.underlying kt,jGW P et with
   | some d,some z=>if jI4 d k then
      match x with
      | .map none=>some (if ok then .tuple #[z,.bool false] else z,E)
      | .map (some r)=>match E.get r with
        | .obj (.map es _)=>match Instr.findNow d k es.toList 0 with
          | some (some (_,v))=>some (if ok then .tuple #[v,.bool true] else v,E)
          | some none=>some (if ok then .tuple #[z,.bool false] else z,E)
          | none=>none
        | _=>none
      | _=>none
     else none
   | _,_=>none
 | _=>none
def jOs (P:Program)(E:EM)(t:TypeId)(x k v:Value):Option (Value × EM) :=
 match P.underlying t with
 | some (.map kt et)=>match P.underlying kt with
   | some d=>if jI4 d k then
      match x with
      | .map (some r)=>match E.get r with
        | .obj (.map es clock)=>match Instr.findNow d k es.toList 0 with
          | some (some (i,_))=>some (undef,E.set r (.obj (.map (es.modify i fun e=>{ e with key:=k,val:=v }) clock)))
          | some none=>some (undef,E.set r (.obj (.map (es.push ⟨k,v,clock⟩) (clock+1))))
          | none=>none
        | _=>none
      | _=>none
     else none
   | _=>none
 | _=>none
def jPU:TypeDesc→Bool
 | .array _ _ | .struct _=>true
 | _=>false
def jZH (P:Program)(kt:TypeId)(k k':Value):Option Bool:=if jBl k' then jBz P (Op.equal kt k k') else none
def jQ3 (P:Program)(kt:TypeId)(k:Value):List MapEntry→Nat→Option (Option (Nat × Value))
 | [],_=>some none
 | e :: es,i=>match jZH P kt k e.key with
   | some true=>some (some (i,e.val))
   | some false=>jQ3 P kt k es (i+1)
   | none=>none
def jVN (P:Program)(kt:TypeId)(d:TypeDesc)(k:Value)(es:List MapEntry):Option (Option (Nat × Value)) :=
 if jPU d then jQ3 P kt k es 0 else Instr.findNow d k es 0
def jYZ (P:Program)(kt:TypeId)(d:TypeDesc)(k:Value):Bool :=
 if jPU d then jBl k && ((jBz P (Instr.checkKey true 10000 kt k)).isSome && (jBz P (Instr.checkKey false 10000 kt k)).isSome) else jI4 d k
def jCQ (P:Program)(E:EM)(t:TypeId)(x k:Value)(ok:Bool):Option (Value × EM) :=
 match P.underlying t with
 | some (.map kt et)=>match P.underlying kt,jGW P et with
   | some d,some z=>if jYZ P kt d k then
      match x with
      | .map (some r)=>match E.get r with
        | .obj (.map es _)=>match jVN P kt d k es.toList with
          | some (some (_,v))=>some (if ok then .tuple #[v,.bool true] else v,E)
          | some none=>some (if ok then .tuple #[z,.bool false] else z,E)
          | none=>none
        | _=>none
      | _=>none
     else none
   | _,_=>none
 | _=>none
def jTa (P:Program)(E:EM)(t:TypeId)(x k:Value):Option (Value × EM) :=
 match P.underlying t with
 | some (.map kt et)=>match P.underlying kt,jGW P et with
   | some d,some z=>if jYZ P kt d k then
      match x with
      | .map (some r)=>match E.get r with
        | .obj (.map es clock)=>match jVN P kt d k es.toList with
          | some (some (i,v))=>match es.toList[i]? with
            | some e=>if Instr.sameBits 10000 e.key k then some (.tuple #[v,goInt e.born],E.set r (.obj (.map (es.modify i fun e=>{ e with key:=k }) clock))) else none
            | none=>none
          | some none=>some (.tuple #[z,goInt clock],E.set r (.obj (.map (es.push ⟨k,z,clock⟩) (clock+1))))
          | none=>none
        | _=>none
      | _=>none
     else none
   | _,_=>none
 | _=>none
def jFJ (E:EM)(x s v:Value):Option (Value × EM) :=
 match x,s with
 | .map (some r),.int _ b=>match E.get r with
   | .obj (.map es clock)=>match es.findIdx? (fun e=>(e.born:Int) == b) with
     | some i=>some (undef,E.set r (.obj (.map (es.modify i fun e=>{ e with val:=v }) clock)))
     | none=>none
   | _=>none
 | _,_=>none
def jH7 (E:EM)(r:Option Operand):Option (Value × EM) :=
 match r with
 | none=>some (.map (some E.n),E.push (.obj (.map #[] 0)))
 | some _=>none
def jGH (P:Program)(E:EM)(t:TypeId)(l c:Value):Option (Value × EM) :=
 match P.underlying t with
 | some (.slice e)=>match P.info? e,jGW P e,l,c with
   | some i,some z,.int _ ln,.int _ cp =>
     if 0≤ln∧ln≤cp∧(i.bytes:Int)*cp≤281474976710656∧cp≤1099511627776∧z.cells.toList.all jAn=true then
      some (.slice (some ⟨E.n,0,none⟩) ln.toNat cp.toNat,E.push (.cells (madeCells z.cells (cp.toNat*i.size)).toList e true true))
     else none
   | _,_,_,_=>none
 | _=>none
def jWe (P:Program)(E:EM)(src dst:TypeId)(x:Value):Option (Value × EM) :=
 match x with
 | .pointer (some a)=>match E.get a.block with
   | .cells c t own fx=>match P.underlying src,P.underlying dst with
     | some (.pointer u),some .unsafePointer=>match P.info? u with
       | some i=>if i.size≠0∧a.off<c.length then some (x,E) else none
       | none=>none
     | some .unsafePointer,some (.pointer u)=>match P.info? u with
       | some i=>if own=true∧fx=true∧i.size≠0∧t=u∧a.off=0∧c.length=i.size then some (x,E) else none
       | none=>none
     | _,_=>none
   | _=>none
 | _=>none
def jPB (P:Program)(E:EM)(op:BinOp)(t:TypeId)(x y:Value):Option (Value × EM) :=
 match x,y with
 | .pointer (some a),.pointer (some b)=>match P.underlying t with
   | some (.pointer u)=>match P.info? u with
     | some i=>if i.size≠0∧a.block=b.block then
        (match op with
        | .eql=>some (.bool (a.off == b.off),E)
        | .neq=>some (.bool !(a.off == b.off),E)
        | _=>none) else none
     | none=>none
   | _=>none
 | _,_=>none
def jPW (P:Program)(E:EM)(t:TypeId)(x ix:Value):Option (Value × EM) :=
 match ix,x with
 | .int _ i,.agg cs=>match P.underlying t with
   | some (.array len e)=>match P.info? e with
     | some inf=>if 0≤i∧i<(len:Int) then (match jVK P e cs (i.toNat*inf.size) with
       | some v=>some (v,E)
       | none=>none) else none
     | none=>none
   | _=>none
 | _,_=>none
def jKS (P:Program)(E:EM)(tys:List TypeId)(args:List Value):Option (Value × EM) :=
 match tys,args with
 | [t,_],[.slice b dLen _,x]=>match P.underlying t with
   | some (.slice e)=>match P.info? e with
     | some i=>match jH1 E i.size x with
       | some (n,new)=>if n≤dLen∧spotted b=false then
          (match b with
          | none=>if n=0 then some (goInt 0,E) else none
          | some a=>match jCh E a 0 new with
            | some E1=>some (goInt n,E1)
            | none=>none) else none
       | none=>none
     | none=>none
   | _=>none
 | _,_=>none
def jDg (P:Program)(E:EM)(tys:List TypeId)(args:List Value):Option (Value × EM) :=
 match tys,args with
 | [t,u],[.slice none 0 0,.int _ m]=>match P.underlying t,P.underlying u with
   | some (.slice e),some (.int _)=>match P.info? e,jGW P e with
     | some i,some z=>if 0<m∧m.toNat*i.bytes≤140737488355328∧i.bytes≠0∧z.cells.size=i.size∧z.cells.toList.all jAn=true∧i.size≠0 then
        some (.slice (some ⟨E.n,0,none⟩) m.toNat m.toNat,E.push (.cells (Builtin.zeroCells z.cells m.toNat).toList e true false)) else none
     | _,_=>none
   | _,_=>none
 | _,_=>none
def jYb (P:Program)(E:EM)(tys:List TypeId)(args:List Value):Option (Value × EM) :=
 match tys,args with
 | [t],[.slice (some a) _ c]=>match P.underlying t with
   | some (.slice _)=>match E.get a.block with
     | .cells _ _ _ true=>if a.spot=none then some (goInt c,E) else none
     | _=>none
   | _=>none
 | _,_=>none
def jEa (E:EM)(args:List Value):Option (Value × EM) :=
 match args with
 | [.slice (some a) _ c]=>if c≠0∧a.spot=none then some (.pointer (some a),E) else none
 | _=>none
def jSA (P:Program)(E:EM)(src dst:TypeId)(x:Value):Option (Value × EM) :=
 match x with
 | .string s=>match P.underlying src,P.underlying dst with
   | some .string,some (.slice e)=>match P.underlying e with
     | some (.int .u8)=>if jF2 P e=1 then some (.slice (some ⟨E.n,0,none⟩) s.size s.size,E.push (.cells (s.data.toList.map fun b=>.int .u8 b.toNat) e false false)) else none
     | _=>none
   | _,_=>none
 | _=>none
def jKa:List Value→Option (List UInt8)
 | []=>some []
 | .int .u8 n :: r=>if 0≤n∧n<256 then (match jKa r with
   | some l=>some (n.toNat.toUInt8 :: l)
   | none=>none) else none
 | _=>none
def jEh (P:Program)(E:EM)(tys:List TypeId)(args:List Value):Option (Value × EM) :=
 match tys,args with
 | [pt,_],[.pointer (some a),.int .i64 n] =>
   if n=0 then some (.string .empty,E) else
   match P.underlying pt with
   | some (.pointer e)=>match E.get a.block with
     | .cells c t true fx=>match jCI E a n.toNat with
       | some cs=>match jKa cs with
         | some l=>if 0<n∧n≤9223372036854775807∧t=e∧P.cellsOf e=1∧jF2 P e=1 then some (.string ⟨l.toArray⟩,E.set a.block (.cells c t false fx)) else none
         | none=>none
       | none=>none
     | _=>none
   | _=>none
 | _,_=>none
def jOL (P:Program)(E:EM)(g:FuncId)(args:List Value):Option (Value × EM) :=
 match P.funcs[g]? with
 | some fn=>if fn.body.isSome then none else
   if fn.origin ≠ "" then none else
   if fn.name = "internal/abi.NoEscape" then
    (match args with
    | [x]=>some (x,E)
    | _=>none)
   else if fn.name = "internal/bytealg.MakeNoZero" then
    (match args with
    | [.int .i64 n]=>match fn.resultTypes.toList with
      | [t]=>match P.underlying t with
        | some (.slice e)=>if 0≤n∧n≤281474976710656∧jF2 P e=1 then some (.slice (some ⟨E.n,0,none⟩) n.toNat n.toNat,E.push (.cells (List.replicate n.toNat (.chan (some 0))) e true false)) else none
        | _=>none
      | _=>none
    | _=>none)
   else none
 | none=>none
def opU (P:Program)(ng:Nat)(ts:Slots)(o:Oper)(E:EM):Option (Value × EM) :=
 if okL ng o.op.operands.toList then
  match o.op with
  | .makeMap _ r=>jH7 E r
  | .insert t m k v | .mapUpdate t m k v=>jOs P E t (evT ts m) (evT ts k) (evT ts v)
  | .lookup t x i ok=>(match jDR P E t (evT ts x) (evT ts i) ok with
    | some r=>some r
    | none=>jCQ P E t (evT ts x) (evT ts i) ok)
  | .mapEntry t m k=>jTa P E t (evT ts m) (evT ts k)
  | .entryStore _ m s x=>jFJ E (evT ts m) (evT ts s) (evT ts x)
  | .makeSlice t l c=>jGH P E t (evT ts l) (evT ts c)
  | .convert src dst x=>jWe P E src dst (evT ts x)
  | .index t x i=>jPW P E t (evT ts x) (evT ts i)
  | .binOp op t x y _=>jPB P E op t (evT ts x) (evT ts y)
  | .call ⟨.builtin .copy,args,tys⟩=>jKS P E tys.toList (args.toList.map (evT ts))
  | .call ⟨.builtin .append,args,tys⟩=>jDg P E tys.toList (args.toList.map (evT ts))
  | .call ⟨.builtin .cap,args,tys⟩=>jYb P E tys.toList (args.toList.map (evT ts))
  | .call ⟨.builtin .unsafeSliceData,args,tys⟩=>jEa E (args.toList.map (evT ts))
  | .call ⟨.builtin .unsafeString,args,tys⟩=>jEh P E tys.toList (args.toList.map (evT ts))
  | .call ⟨.value (.func g),args,_⟩=>jOL P E g (args.toList.map (evT ts))
  | _=>none
 else none
def opE (P:Program)(ng:Nat)(ts:Slots)(o:Oper)(E:EM):Option (Value × EM) :=
 match opA P ng ts o E with
 | some r=>some r
 | none=>opU P ng ts o E
theorem jKs {P:Program}{ng:Nat}{ts:Slots}{o:Oper}{E:EM}{r:Value × EM}(h:opA P ng ts o E=some r):opE P ng ts o E=some r:=by
 unfold opE;rw[h]
theorem jLn {P:Program}{E E1:EM}{t:TypeId}{x k v:Value}{ok:Bool}(h:jDR P E t x k ok=some (v,E1)):E1=E:=by
 unfold jDR at h
 split at h
 case h_2=>cases h
 split at h
 case h_2=>cases h
 split at h
 case isFalse=>cases h
 split at h
 ·cases h;rfl
 ·split at h
  case h_2=>cases h
  split at h <;> cases h <;> rfl
 ·cases h
theorem jJQ {P:Program}{E E1:EM}{t:TypeId}{x k v:Value}{ok:Bool}(h:jCQ P E t x k ok=some (v,E1)):E1=E:=by
 unfold jCQ at h
 split at h
 case h_2=>cases h
 split at h
 case h_2=>cases h
 split at h
 case isFalse=>cases h
 split at h
 ·split at h
  case h_2=>cases h
  split at h <;> cases h <;> rfl
 ·cases h
theorem jHx {P:Program}{E:EM}{t:TypeId}{x k:Value}{ok:Bool}(b:EB)(hx:∀r,x=.map (some r)→r≠E.n):jDR P (E.push b) t x k ok=(jDR P E t x k ok).map fun r=>(r.1,E.push b):=by
 unfold jDR
 split
 ·split
  ·split
   ·split
    ·rfl
    ·rename_i r
     rw[EM.get_push_old b (hx r rfl)]
     split
     ·split <;> rfl
     ·rfl
    ·rfl
   ·rfl
  ·rfl
 ·rfl
theorem jLB {P:Program}{E:EM}{t:TypeId}{x k:Value}{ok:Bool}(b:EB)(hx:∀r,x=.map (some r)→r≠E.n):jCQ P (E.push b) t x k ok=(jCQ P E t x k ok).map fun r=>(r.1,E.push b):=by
 unfold jCQ
 split
 ·split
  ·split
   ·split
    ·rename_i r
     rw[EM.get_push_old b (hx r rfl)]
     split
     ·split <;> rfl
     ·rfl
    ·rfl
   ·rfl
  ·rfl
 ·rfl
theorem jR7 (E:EM):E.get E.n=.dead:=by rw[EM.get_eq,if_neg (Nat.lt_irrefl _)]
theorem jKU {P:Program}{E:EM}{t:TypeId}{x k:Value}{ok:Bool}{r:Value × EM}(h:jDR P E t x k ok=some r):∀m,x=.map (some m)→m≠E.n:=by
 intro m hm e
 subst hm e
 unfold jDR at h
 simp only[jR7]at h
 split at h
 ·split at h
  ·split at h <;> cases h
  ·cases h
 ·cases h
theorem jFv {P:Program}{E:EM}{t:TypeId}{x k:Value}{ok:Bool}{r:Value × EM}(h:jCQ P E t x k ok=some r):∀m,x=.map (some m)→m≠E.n:=by
 intro m hm e
 subst hm e
 unfold jCQ at h
 simp only[jR7]at h
 split at h
 ·split at h
  ·split at h <;> cases h
  ·cases h
 ·cases h
theorem jR8 {P:Program}{ng:Nat}{ts:Slots}{E E1:EM}{o:Oper}{v:Value}(hk:jBw o.op=true)(h:opU P ng ts o E=some (v,E1)):E1=E:=by
 obtain⟨dst,op,type,pos,after,guard⟩:=o
 unfold opU at h
 split at h
 ·cases op with
  | convert src dst x =>
    simp only[jWe]at h
    split at h
    ·split at h
     ·split at h
      ·split at h
       ·split at h
        ·cases h;rfl
        ·cases h
       ·cases h
      ·split at h
       ·split at h
        ·cases h;rfl
        ·cases h
       ·cases h
      ·cases h
     ·cases h
    ·cases h
  | lookup t x i ok =>
    simp only at h
    split at h
    ·rename_i r hr
     cases h
     exact jLn hr
    ·exact jJQ h
  | index t x i =>
    simp only[jPW]at h
    split at h
    ·split at h
     ·split at h
      ·split at h
       ·split at h
        ·cases h;rfl
        ·cases h
       ·cases h
      ·cases h
     ·cases h
    ·cases h
  | binOp op t x y yt =>
    simp only[jPB]at h
    split at h
    ·split at h
     ·split at h
      ·split at h
       ·split at h
        ·cases h;rfl
        ·cases h;rfl
        ·cases h
       ·cases h
      ·cases h
     ·cases h
    ·cases h
  | call c =>
    obtain⟨callee,args,tys⟩:=c
    cases callee with
    | builtin b=>cases b <;> simp[jBw]at hk <;> simp at h
    | value f=>simp[jBw]at hk
    | invoke r m=>simp at h
  | _=>first | (simp[jBw]at hk;done) | (simp at h;done)
 ·cases h
theorem jU6 {P:Program}{ng:Nat}{ts:Slots}{E:EM}{o:Oper}{t:TypeId}{x:Operand}(h:o.op=.load t x):opU P ng ts o E=none:=by
 unfold opU
 rw[h]
 simp
theorem jMY {P:Program}{ng:Nat}{ts:Slots}{E E1:EM}{o:Oper}{v:Value}(hk:jBw o.op=true)(h:opE P ng ts o E=some (v,E1)):E1=E:=by
 unfold opE at h
 split at h
 ·rename_i r hr
  cases h
  exact jT4 hk hr
 ·exact jR8 hk h
theorem jS4 {P:Program}{ng:Nat}{ts us:Slots}{E:EM}{o:Oper}(h:∀x ∈ o.op.operands,evT ts x=evT us x):opU P ng ts o E=opU P ng us o E:=by
 obtain⟨dst,op,type,pos,after,guard⟩:=o
 unfold opU
 simp only at h ⊢
 have hm:∀args:Array Operand,(∀x ∈ args,evT ts x=evT us x)→args.toList.map (evT ts)=args.toList.map (evT us):=fun args ha=>List.map_congr_left fun x hx=>ha x (by simpa using hx)
 split
 ·cases op with
  | insert t m k v=>simp only;rw[h m (by simp[Op.operands]),h k (by simp[Op.operands]),h v (by simp[Op.operands])]
  | mapUpdate t m k v=>simp only;rw[h m (by simp[Op.operands]),h k (by simp[Op.operands]),h v (by simp[Op.operands])]
  | lookup t x i ok=>simp only;rw[h x (by simp[Op.operands]),h i (by simp[Op.operands])]
  | mapEntry t m k=>simp only;rw[h m (by simp[Op.operands]),h k (by simp[Op.operands])]
  | entryStore t m s x=>simp only;rw[h m (by simp[Op.operands]),h s (by simp[Op.operands]),h x (by simp[Op.operands])]
  | makeSlice t l c=>simp only;rw[h l (by simp[Op.operands]),h c (by simp[Op.operands])]
  | convert src dst x=>simp only;rw[h x (by simp[Op.operands])]
  | index t x i=>simp only;rw[h x (by simp[Op.operands]),h i (by simp[Op.operands])]
  | binOp op t x y yt=>simp only;rw[h x (by simp[Op.operands]),h y (by simp[Op.operands])]
  | call c =>
    obtain⟨callee,args,tys⟩:=c
    cases callee with
    | builtin b =>
      have ha:=hm args fun x hx=>h x (by simp[Op.operands,Call.operands];exact hx)
      cases b <;> simp only[ha]
    | value f =>
      have ha:=hm args fun x hx=>h x (by simp[Op.operands,Call.operands];exact .inr hx)
      cases f <;> simp only[ha]
    | invoke r m=>rfl
  | _=>rfl
 ·rfl
theorem jTM {P:Program}{ng:Nat}{ts us:Slots}{E:EM}{o:Oper}(h:∀x ∈ o.op.operands,evT ts x=evT us x):opE P ng ts o E=opE P ng us o E:=by
 unfold opE;rw[jS7 h,jS4 h]
end
end Go.Eng
