/- What a call keeps, told by the kind of block; an append that leaves full rows alone. Laws; no run of the program here. The joiner's contracts, with what they keep told by the kind of block. The stack's contracts, with what they keep told by the kind of block; follow, whatever it answers. The steps of a list: each unit and each tag with its place, as data; the program's iterator over them. The program's iterator over the steps of a list. -/
import Derived.Maps.AppendAt
import Derived.Test.YtldapapdolkiaaaGreatDoorRwA
import Derived.Test.YtldapapdolkiaaaGreatDoorGlD
import Derived.RangeFuncNested
import Derived.RangeFuncBound
import Derived.RangeFuncCalls
import Derived.RangeFuncLeaves
import Derived.RangeFuncBox
import Derived.Shelf.Abstract
import Derived.Shelf.RegionOpen
import Derived.WalkKit
import Derived.OwnWalkIn
import Derived.TacticsInMore
import Derived.LoopNIn
import Derived.LoopIn
import Derived.Lib.BufferOwn
import Derived.Test.YtldapapdolkiaaaGreatDoorSk
namespace Go.Proofs.YtldapapdolkiaaaGreatDoor
set_option maxHeartbeats 64000000
open Go Go.RowKit Go.Lib
set_option maxRecDepth 100000
structure Keeps (C:Obj→Prop)(w w':World):Prop where
 size:w.heap.size≤w'.heap.size
 same:∀ (k:Nat) (o:Obj),w.heap[k]? = some o→C o→w'.heap[k]? = some o
theorem Keeps.refl (C:Obj→Prop)(w:World):Keeps C w w:=⟨Nat.le_refl _,fun _ _ h _=>h⟩
theorem Keeps.trans {C:Obj→Prop}{x y z:World}(h:Keeps C x y)(k:Keeps C y z):Keeps C x z:=⟨Nat.le_trans h.size k.size,fun i o h1 h2=>k.same i o (h.same i o h1 h2) h2⟩
theorem Keeps.mono {C D:Obj→Prop}{w w':World}(h:Keeps C w w')(hd:∀q,D q→C q):Keeps D w w':=⟨h.size,fun _ _ h1 h2=>h.same _ _ h1 (hd _ h2)⟩
theorem Keeps.below {C:Obj→Prop}{w w':World}(hb:Below w.heap.size w w'):Keeps C w w':=⟨hb.size,fun k _ hk _=>(hb.block k (lt_of_block hk)).trans hk⟩
theorem Keeps.alloc {C:Obj→Prop}{a w:World}(h:Keeps C a w)(o:Obj):Keeps C a (w.alloc o):=h.trans (Keeps.below (jAb o))
theorem Keeps.setCell {C:Obj→Prop}{a w:World}{b:Nat}{cs:Array Value}{t:TypeId}{fr:Nat × Nat}(h:Keeps C a w)(hb:w.heap[b]? = some (.cells cs t fr))(hC:¬C (.cells cs t fr))(j:Nat)(u:Value):Keeps C a (w.setCell ⟨b,j,none⟩ u) :=
 h.trans ⟨by simp[World.setCell],fun k o hk hc=>(Below.heap_setCell _ _ _ _ (by rintro rfl;rw[hk]at hb;cases hb;exact hC hc)).trans hk⟩
theorem Keeps.grown {C:Obj→Prop}{w w':World}{B sz n:Nat}{e:TypeId}{v:Value}{xs:List Value}(jAN:w.ownsRow B e sz v n xs)(hg:w.grownBy w' v.ownBlock)(hC:∀cs,¬C (.cells cs e (0,0))):Keeps C w w':=by
 refine⟨hg.size,fun k o hk hc=>(hg.block k (lt_of_block hk) ?_).trans hk⟩
 intro e'
 rcases jAN.2 with ⟨rfl,_⟩ | ⟨g,cap,cur,rfl,_,hgg,_⟩
 ·simp[Value.ownBlock]at e'
 ·simp only[Value.ownBlock,Option.some.injEq]at e'
  subst e'
  rw[hk]at hgg
  cases hgg
  exact hC _ hc
theorem Keeps.row {C:Obj→Prop}{w w':World}{B sz n:Nat}{e:TypeId}{v:Value}{xs:List Value}(h:w.ownsRow B e sz v n xs)(hk:Keeps C w w')(hC:∀cs,C (.cells cs e (0,0))):w'.ownsRow B e sz v n xs:=by
 refine⟨h.1,?_⟩
 rcases h.2 with hn | ⟨g,cap,cur,hv,hbg,hg,rest⟩
 ·exact .inl hn
 ·exact .inr ⟨g,cap,cur,hv,hbg,hk.same g _ hg (hC _),rest⟩
def Full (e:TypeId)(k size:Nat)(w w':World):Prop:=∀ (g:Nat) (o:Obj),w.heap[g]? = some o→(∀cs t fr,o=.cells cs t fr→t=e→cs.size<k*size)→w'.heap[g]? = some o
section
variable {P:Program} (w:World)
theorem jIA (t ty:TypeId)(base:Nat)(e:TypeId)(i:TypeInfo)(z:Value)(size bytes:Nat)(ht:P.underlying t=some (.slice e))(hi:P.info? e=some i)(hz:i.zero=some z)
 (jHg:i.size=size) (hby:i.bytes=bytes) (hzs:z.cells.size=size) (hsz:0<size)
 (v:Value) (n:Nat) (xs:List Value) (jAN:w.ownsRow base e size v n xs)
 (ad:Addr) (m c:Nat) (news:List Value) (hl:news.length=m*size) (jNp:∀j u,news[j]? = some u→w.cell? (ad.add j)=some u) (h1:∀u ∈ news,u.oneCell'=true)
 (hm:0<m) (h63:n+m≤maxLen) (jHP:(n+m)*bytes≤140737488355328) (jDu:base≤w.heap.size) (H:Nat) (hH:w.heap.size=H) :
 ∃g cap w',(Builtin.append_ #[t,t] ty #[v,.slice (some ad) m c]).run P w=.ok (.slice (some ⟨g,0,none⟩) (n+m) cap) w' ∧
  w'.ownsRow base e size (.slice (some ⟨g,0,none⟩) (n+m) cap) (n+m) (xs++news)∧w.grownBy w' v.ownBlock∧(v.ownBlock=some g∨g=H)∧g<w'.heap.size∧Full e (n+m) size w w':=by
 obtain⟨g,cap,w',hr,h2,h3,h4,h5⟩:=run_append_lies (P:=P) (w:=w) t ty base e i z size bytes ht hi hz jHg hby hzs hsz v n xs jAN ad m c news hl jNp h1 hm h63 jHP jDu H hH
 refine⟨g,cap,w',hr,h2,h3,h4,h5,fun k o hk hc=>?_⟩
 by_cases hv:v.ownBlock=some k
 ·rcases jAN.2 with ⟨rfl,_⟩ | ⟨g0,cap0,cur,rfl,hbg,hg,hnc,hcm,hcs,jYE⟩
  ·simp[Value.ownBlock]at hv
  ·simp only[Value.ownBlock,Option.some.injEq]at hv
   subst hv
   rw[hg]at hk
   cases hk
   have hlt:=hc cur e (0,0) rfl rfl
   have jUg:cap0<n+m:=by rw[hcs]at hlt;exact Nat.lt_of_mul_lt_mul_right hlt
   have hr2:=run_append_grow (P:=P) w t ty e i z ht hi hz ⟨g0,0,none⟩ n cap0 xs (by rw[jHg];exact jAN.1) (jAN.cells (g:=g0) rfl) ad m c news (by rw[jHg];exact hl) jNp jUg (by simp only[maxLen]at h63;omega) (growslice_fits (by omega) (by rw[hby];exact jHP))
   rw[hr2]at hr
   injection hr with _ hr
   rw[←hr]
   exact (Below.heap_alloc w.drew _ g0 (lt_of_block (w:=w) hg)).trans hg
 ·exact (h3.block k (lt_of_block hk) (fun e=>hv e.symm)).trans hk
theorem jJS {o:Oper}{a:Act}{K:Act→World→Prop}{Q:Exit→Act→World→Prop}(s x:Operand)(t:TypeId)
 (ho:o.op=.call { callee:=.builtin .append,args:=#[s,x],argTypes:=#[t,t] })
 (base:Nat) (e:TypeId) (i:TypeInfo) (z:Value) (size bytes:Nat) (ht:P.underlying t=some (.slice e)) (hi:P.info? e=some i) (hz:i.zero=some z)
 (jHg:i.size=size) (hby:i.bytes=bytes) (hzs:z.cells.size=size) (hsz:0<size)
 (v:Value) (n:Nat) (xs:List Value) (hs:a.eval s=v) (jAN:w.ownsRow base e size v n xs)
 (ad:Addr) (m c:Nat) (news:List Value) (hx:a.eval x=.slice (some ad) m c) (hl:news.length=m*size) (jNp:∀j u,news[j]? = some u→w.cell? (ad.add j)=some u) (h1:∀u ∈ news,u.oneCell'=true)
 (hm:0<m) (h63:n+m≤maxLen) (jHP:(n+m)*bytes≤140737488355328) (jDu:base≤w.heap.size) (H:Nat) (hH:w.heap.size=H)
 (h:∀g cap w',w'.ownsRow base e size (.slice (some ⟨g,0,none⟩) (n+m) cap) (n+m) (xs++news)→w.grownBy w' v.ownBlock→(v.ownBlock=some g∨g=H)→g<w'.heap.size→Full e (n+m) size w w'→K (a.put o.dst (.slice (some ⟨g,0,none⟩) (n+m) cap)) w'):o.wp P a w K Q:=by
 obtain⟨g,cap,w',hr,h2,h3,h4,h5,h6⟩:=jIA (P:=P) (w:=w) t o.type base e i z size bytes ht hi hz jHg hby hzs hsz v n xs jAN ad m c news hl jNp h1 hm h63 jHP jDu H hH
 unfold Oper.wp execOp
 simp only[ho,resolve,invoke,builtin,Sem.run_bind,Sem.run_pure,Result.andThen_ok,List.map_toArray,List.map_cons,List.map_nil,hs,hx,hr]
 exact h g cap w' h2 h3 h4 h5 h6
theorem jEF {ops:Array Oper}{o:Oper}{a:Act}{K:Act→World→Prop}{Q:Exit→Act→World→Prop}{E:Prop}(hgd:o.guard=none)(s x:Operand)(t:TypeId)
 (ho:o.op=.call { callee:=.builtin .append,args:=#[s,x],argTypes:=#[t,t] })
 (base:Nat) (e:TypeId) (i:TypeInfo) (z:Value) (size bytes:Nat) (ht:P.underlying t=some (.slice e)) (hi:P.info? e=some i) (hz:i.zero=some z)
 (jHg:i.size=size) (hby:i.bytes=bytes) (hzs:z.cells.size=size) (hsz:0<size)
 (v:Value) (n:Nat) (xs:List Value) (hs:a.eval s=v) (jAN:w.ownsRow base e size v n xs)
 (ad:Addr) (m c:Nat) (news:List Value) (hx:a.eval x=.slice (some ad) m c) (hl:news.length=m*size) (jNp:∀j u,news[j]? = some u→w.cell? (ad.add j)=some u) (h1:∀u ∈ news,u.oneCell'=true)
 (hm:0<m) (h63:n+m≤maxLen) (jHP:(n+m)*bytes≤140737488355328) (jDu:base≤w.heap.size) (H:Nat) (hH:w.heap.size=H)
 (h:∀g cap w',w'.ownsRow base e size (.slice (some ⟨g,0,none⟩) (n+m) cap) (n+m) (xs++news)→w.grownBy w' v.ownBlock→(v.ownBlock=some g∨g=H)→g<w'.heap.size→Full e (n+m) size w w'→K (a.put o.dst (.slice (some ⟨g,0,none⟩) (n+m) cap)) w') :
 if Region.wanted o (yielded ops a.tmps)=true then Oper.wp P o a w K Q else E:=by
 have hw:Region.wanted o (yielded ops a.tmps)=true:=by simp[Region.wanted,hgd]
 rw[if_pos hw]
 exact jJS w s x t ho base e i z size bytes ht hi hz jHg hby hzs hsz v n xs hs jAN ad m c news hx hl jNp h1 hm h63 jHP jDu H hH h
end
def jBS:Obj→Prop
 | .cells cs t _=>t≠92∧t≠5∧(t=76→cs.size≤3)
 | _=>True
def jHX:Obj→Prop
 | .cells _ t _=>t≠138∧t≠9
 | _=>True
theorem jIm {w w':World}{n:Nat}(h:Full 76 (n+1) 3 w w')(hn:0<n)(hs:w.heap.size≤w'.heap.size):Keeps jBS w w' :=
 ⟨hs,fun k o hk hc=>h k o hk fun cs t fr e e'=>by subst e;have:=hc.2.2 e';omega⟩
theorem jKi {w w':World}{v:Value}(hg:w.grownBy w' v.ownBlock)(hv:v=.slice none 0 0):Keeps jBS w w':=by
 subst hv
 exact⟨hg.size,fun k o hk _=>(hg.block k (lt_of_block hk) (by simp[Value.ownBlock])).trans hk⟩
end Go.Proofs.YtldapapdolkiaaaGreatDoor
namespace Go.Proofs.YtldapapdolkiaaaGreatDoor
set_option maxHeartbeats 64000000
open Go Go.RowKit Go.Lib
set_option maxRecDepth 100000
def jBN (B b:Nat)(o:List Pc)(t:List UInt8)(w:World):Prop:=0≤b∧∃vo vt,w.heap[b]? = some (.cells #[vo,vt] 92 (0,0))∧jA7 B vo o w∧jGw B vt t w∧(o=[]→vo=.slice none 0 0)
theorem jBN.at {B b:Nat}{o:List Pc}{t:List UInt8}{w:World}(h:jBN B b o t w):jBa B b o t w:=by
 obtain⟨h0,vo,vt,h1,h2,h3,_⟩:=h
 exact⟨h0,vo,vt,h1,h2,h3⟩
theorem jBN.step {B b:Nat}{o:List Pc}{t:List UInt8}{w w':World}(hb:Below w.heap.size w w')(h:jBN B b o t w):jBN B b o t w':=by
 obtain⟨h0,vo,vt,h1,h2,h3,h4⟩:=h
 exact⟨h0,vo,vt,by rw[hb.block b (lt_of_block h1)];exact h1,h2.step hb,h3.step hb,h4⟩
theorem jBN.lt {B b:Nat}{o:List Pc}{t:List UInt8}{w:World}(h:jBN B b o t w):b<w.heap.size:=h.at.lt
theorem jBN.put {B b:Nat}{o:List Pc}{t:List UInt8}{w w':World}{vo vt:Value}(hB:0≤b)(hw:w'.heap[b]? = some (.cells #[vo,vt] 92 (0,0)))(hg:w.grownBy w' (some b))(hb:∃cs,w.heap[b]? = some (.cells cs 92 (0,0)))
 (ho:jA7 B vo o w) (ht:jGw B vt t w) (hn:o=[]→vo=.slice none 0 0):jBN B b o t w':=by
 obtain⟨cs,hb⟩:=hb
 exact⟨hB,vo,vt,hw,ho.kept hg (.inr (jAI ho hb (by decide))),ht.kept hg (.inr (jAI ht hb (by decide))),hn⟩
theorem jBN.putO {B b:Nat}{o:List Pc}{t:List UInt8}{w:World}{vo vo' vt:Value}(hB:0≤b)(hb:w.heap[b]? = some (.cells #[vo,vt] 92 (0,0)))(ho:jA7 B vo' o w)(ht:jGw B vt t w)(hn:o=[]→vo'=.slice none 0 0):jBN B b o t (w.setCell ⟨b,0,none⟩ vo') :=
 jBN.put hB (by simp[World.setCell,Array.getElem?_modify,hb]) (jBr _ _ _ _) ⟨_,hb⟩ ho ht hn
theorem jBN.putT {B b:Nat}{o:List Pc}{t:List UInt8}{w:World}{vo vt vt':Value}(hB:0≤b)(hb:w.heap[b]? = some (.cells #[vo,vt] 92 (0,0)))(ho:jA7 B vo o w)(ht:jGw B vt' t w)(hn:o=[]→vo=.slice none 0 0):jBN B b o t (w.setCell ⟨b,1,none⟩ vt') :=
 jBN.put hB (by simp[World.setCell,Array.getElem?_modify,hb]) (jBr _ _ _ _) ⟨_,hb⟩ ho ht hn
theorem jDj (cs:Array Value)(fr:Nat × Nat):¬jBS (.cells cs 92 fr):=fun h=>h.1 rfl
theorem jJR (cs:Array Value):¬jBS (.cells cs 5 (0,0)):=fun h=>h.2.1 rfl
theorem jSP (o:List Pc)(x:Pc){P:Prop}:o++[x]=[]→P:=fun h=>by simp at h
theorem jL0 (B b:Nat)(o:List Pc)(t:List UInt8)(s:ByteArray)(w:World)(h:jBN B b o t w)(jBi:t.length+s.size≤100000000)(hBw:B≤w.heap.size) :
 Calls Tryz.prog 101 #[.pointer (some ⟨b,0,none⟩),.string s] w fun e w'=>e=.returned (.tuple #[])∧jBN B b o (t++s.data.toList) w'∧jAw B b w w'∧Keeps jBS w w':=by
 obtain⟨i0,hi,hz0,hz1,hz2⟩:=info_parts jMi
 obtain⟨hB,vo,vt,hbk,ho,ht,jW1⟩:=h
 have c1:w.cell? ⟨b,1,none⟩=some vt:=by rw[Lib.cell_of_heap hbk];rfl
 have jAN:=ht
 unfold jGw at jAN
 have HO:=hid ho
 have HT:=hid ht
 have HBK:=hid hbk
 clear ho ht
 go_enter Tryz.func101,Tryz.ntmps101
 go_wp2_with (at_builtin;refine Lib.wpList_append_own_string _ rfl _ _ 90 9 rfl B 5 i0 Tryz.underlying90 Tryz.underlying9 hi hz0 hz1 hz2 _ _ _ rfl jAN s rfl ?c3 ?c4 ?c5 ?_)
 case c3=>unfold maxLen;omega
 case c4=>omega
 case c5=>omega
 intro v' w2 hown' jC1 _
 have hb2:w2.heap[b]? = some (.cells #[vo,vt] 92 (0,0)):=by
  rw[jC1.block b (lt_of_block HBK.out) (fun e=>jAI HT.out HBK.out (by decide) e.symm)]
  exact HBK.out
 have d1:w2.cell? ⟨b,1,none⟩=some vt:=by rw[Lib.cell_of_heap hb2];rfl
 have f1:w2.frozen? ⟨b,1,none⟩=false:=Lib.frozen_of_heap hb2 1
 have ho2:jA7 B vo o w2:=HO.out.kept jC1 (jBX HO.out HT.out (by decide))
 have hT2:=jGw.more (m:=s.data.toList) hown'
 have HW:=hid (jBN.putT hB hb2 ho2 hT2 jW1)
 obtain⟨ao,cap,rfl⟩:=hT2.form
 have HB:=hid (((jAw.refl B b w).grown jC1 hBw (fun k hk=>(jAN.lt k hk).1)).setCell 1 (.slice ao (t++s.data.toList).length cap))
 have HK:=hid ((Keeps.grown (C:=jBS) jAN jC1 jJR).setCell hb2 (jDj _ _) 1 (.slice ao (t++s.data.toList).length cap))
 rw[show (t++s.data.toList).length=t.length+s.size by simp]at HW HB HK
 clear jAN hown' jC1 ho2 hT2
 go_wp2
 go_end0
 exact⟨rfl,HW.out,HB.out,HK.out⟩
theorem jHB (B b:Nat)(o:List Pc)(t:List UInt8)(w:World)(h:jBN B b o t w)(jBi:t.length≤100000000)(jHf:o.length≤1000000)(hBw:B≤w.heap.size) :
 Calls Tryz.prog 102 #[.pointer (some ⟨b,0,none⟩)] w fun e w'=>e=.returned (.tuple #[])∧jBN B b (o++flush t) [] w'∧jAw B b w w'∧Others b w w'∧Keeps jBS w w':=by
 obtain⟨i0,hi,hz0,hz1,hz2⟩:=info_parts jEs
 have h0:=hid h
 obtain⟨hB,vo,vt,hbk,ho,ht,jW1⟩:=h
 have c0:w.cell? ⟨b,0,none⟩=some vo:=by rw[Lib.cell_of_heap hbk];rfl
 have c1:w.cell? ⟨b,1,none⟩=some vt:=by rw[Lib.cell_of_heap hbk];rfl
 have hlt:=lt_of_block hbk
 by_cases hne:t=[]
 ·subst hne
  obtain⟨ao,cap,rfl⟩:=ht.form
  clear ho ht hbk
  go_enter Tryz.func102,Tryz.ntmps102
  go_wp2
  go_end0
  exact⟨rfl,by have:=h0.out;simpa [flush] using this,jAw.refl _ _ _,Others.refl _ _,Keeps.refl _ _⟩
 ·have hl:=List.length_pos_iff.2 hne
  rcases ht.2 with ⟨_,hn0⟩ | ⟨g,cap,cur,rfl,_,_,hncap,hcapm,_,_⟩
  ·omega
  have hcv:=jEv ht
  have hcv1:=jEv (w:=w.drew) ht
  have hI:(0:Int)<(t.length:Int):=by omega
  have hF:flush t=[⟨1,bytes t,false⟩]:=by unfold flush;rw[if_neg hne]
  have HF:=hid hF
  clear hF
  have HO:=hid ho
  have HT:=hid ht
  have HBK:=hid hbk
  have jAN:=ho
  unfold jA7 at jAN
  clear ho ht hbk hne
  unfold maxLen at hcapm
  have q0:=hid (show 0<3 by decide)
  have q1:=hid (show o.length+1≤maxLen by unfold maxLen;omega)
  have q2:=hid (show (o.length+1)*32≤140737488355328 by omega)
  have q3:=hid (show B≤(w.alloc (.cells #[.int .u8 1,.string (bytes t),.bool false] 76)).heap.size by simp;omega)
  have q4:=hid (World.news_of_block (w:=w.alloc (.cells #[.int .u8 1,.string (bytes t),.bool false] 76)) (B:=w.heap.size) (cs:=#[.int .u8 1,.string (bytes t),.bool false]) (t:=76) (fr:=(0,0)) (by show (w.heap.push _)[_]? = _;simp))
  have q5:=hid (jAN.alloc (.cells #[.int .u8 1,.string (bytes t),.bool false] 76))
  have q6:=hid (show ∀u ∈ ([.int .u8 1,.string (bytes t),.bool false]:List Value),u.oneCell'=true by intro u hu;simp at hu;rcases hu with rfl | rfl | rfl <;> rfl)
  have q7:=hid (show 0<1 by decide)
  clear jAN
  go_enter Tryz.func102,Tryz.ntmps102
  go_wp2
  have mid:Hid (∀g2 cap2 w2,World.ownsRow w2 B 76 3 (.slice (some ⟨g2,0,none⟩) (o.length+1) cap2) (o.length+1) (cells3 o++[.int .u8 1,.string (bytes t),.bool false])→World.grownBy (w.alloc (.cells #[.int .u8 1,.string (bytes t),.bool false] 76)).drew w2 vo.ownBlock→Full 76 (o.length+1) 3 (w.alloc (.cells #[.int .u8 1,.string (bytes t),.bool false] 76)).drew w2 →
   w2.cell? ⟨b,0,none⟩=some vo∧w2.cell? ⟨b,1,none⟩=some (.slice (some ⟨g,0,none⟩) t.length cap)∧w2.frozen? ⟨b,0,none⟩=false∧w2.frozen? ⟨b,1,none⟩=false ∧
   Hid (jBN B b (o++[⟨1,bytes t,false⟩]) [] ((w2.setCell ⟨b,0,none⟩ (.slice (some ⟨g2,0,none⟩) (o.length+1) cap2)).setCell ⟨b,1,none⟩ (.slice (some ⟨g,0,none⟩) 0 cap)))∧Hid (jAw B b w ((w2.setCell ⟨b,0,none⟩ (.slice (some ⟨g2,0,none⟩) (o.length+1) cap2)).setCell ⟨b,1,none⟩ (.slice (some ⟨g,0,none⟩) 0 cap)))∧Hid (Others b w ((w2.setCell ⟨b,0,none⟩ (.slice (some ⟨g2,0,none⟩) (o.length+1) cap2)).setCell ⟨b,1,none⟩ (.slice (some ⟨g,0,none⟩) 0 cap)))∧Hid (Keeps jBS w ((w2.setCell ⟨b,0,none⟩ (.slice (some ⟨g2,0,none⟩) (o.length+1) cap2)).setCell ⟨b,1,none⟩ (.slice (some ⟨g,0,none⟩) 0 cap)))):=by
   intro g2 cap2 w2 jBU jAJ jKJ
   have hb2:w2.heap[b]? = some (.cells #[vo,.slice (some ⟨g,0,none⟩) t.length cap] 92 (0,0)):=by
    rw[jAJ.block b (by show b<(w.alloc _).heap.size;simp;omega) (fun e=>jAI HO.out HBK.out (by decide) e.symm)]
    show (w.alloc _).heap[b]? = _
    rw[Below.heap_alloc _ _ _ hlt]
    exact HBK.out
   have d0:w2.cell? ⟨b,0,none⟩=some vo:=by rw[Lib.cell_of_heap hb2];rfl
   have d1:w2.cell? ⟨b,1,none⟩=some (.slice (some ⟨g,0,none⟩) t.length cap):=by rw[Lib.cell_of_heap hb2];rfl
   have f0:w2.frozen? ⟨b,0,none⟩=false:=Lib.frozen_of_heap hb2 0
   have f1:w2.frozen? ⟨b,1,none⟩=false:=Lib.frozen_of_heap hb2 1
   have ht2:jGw B (.slice (some ⟨g,0,none⟩) t.length cap) t w2:=World.ownsRow.kept (w:=w.alloc (.cells #[.int .u8 1,.string (bytes t),.bool false] 76)) (HT.out.alloc _) ⟨jAJ.os,jAJ.tape,jAJ.output,jAJ.size,jAJ.block⟩ (jBX HT.out HO.out (by decide))
   have HJ:=hid (jBN.putO (o:=o++[⟨1,bytes t,false⟩]) hB hb2 (jA7.more (x:=⟨1,bytes t,false⟩) jBU) ht2 (jSP _ _))
   have jRs:=hid ((((jAw.refl B b w).alloc hBw (.cells #[.int .u8 1,.string (bytes t),.bool false] 76)).grown (w:=w.alloc (.cells #[.int .u8 1,.string (bytes t),.bool false] 76)) (w':=w2) (row:=vo.ownBlock) ⟨jAJ.os,jAJ.tape,jAJ.output,jAJ.size,jAJ.block⟩ q3.out (fun k hk=>(q5.out.lt k hk).1)))
   have HKJ:=hid (show Keeps jBS w ((w2.setCell ⟨b,0,none⟩ (.slice (some ⟨g2,0,none⟩) (o.length+1) cap2)).setCell ⟨b,1,none⟩ (.slice (some ⟨g,0,none⟩) 0 cap)) from by
    have k1:Keeps jBS (w.alloc (.cells #[.int .u8 1,.string (bytes t),.bool false] 76)).drew w2:=by
     by_cases ho0:o=[]
     ·exact jKi (v:=vo) jAJ (jW1 ho0)
     ·exact jIm jKJ (List.length_pos_iff.2 ho0) jAJ.size
    have k2:Keeps jBS w (w.alloc (.cells #[.int .u8 1,.string (bytes t),.bool false] 76)).drew:=⟨(Keeps.below (C:=jBS) (jAb (w:=w) (.cells #[.int .u8 1,.string (bytes t),.bool false] 76))).size,(Keeps.below (C:=jBS) (jAb (w:=w) (.cells #[.int .u8 1,.string (bytes t),.bool false] 76))).same⟩
    exact ((k2.trans k1).setCell hb2 (jDj _ _) 0 _).setCell (jDe hb2 0 _) (jDj _ _) 1 _)
   refine⟨d0,d1,f0,f1,?_,(jRs.out.setCell 0 _).setCell 1 _,?_,HKJ.out⟩
   rotate_left
   ·refine⟨?_,fun vo' hvo' k hk hkb hkv=>?_⟩
    ·have:=jAJ.size
     have h0:(w.alloc (.cells #[.int .u8 1,.string (bytes t),.bool false] 76)).drew.heap.size=w.heap.size+1:=by show (w.alloc _).heap.size=_;simp
     rw[h0]at this
     simp[World.setCell];omega
    ·have hv:vo'=vo:=by rw[c0]at hvo';exact (Option.some.inj hvo').symm
     subst hv
     rw[Below.heap_setCell _ _ _ _ (by exact hkb),Below.heap_setCell _ _ _ _ (by exact hkb),jAJ.block k (by show k<(w.alloc _).heap.size;simp;omega) (fun e=>hkv e.symm)]
     show (w.alloc _).heap[k]? = _
     rw[Below.heap_alloc _ _ _ hk]
   obtain⟨_,vo',vt',k1,k2,k3,_⟩:=HJ.out
   have e1:(w2.setCell ⟨b,0,none⟩ (.slice (some ⟨g2,0,none⟩) (o.length+1) cap2)).heap[b]? = some (.cells #[.slice (some ⟨g2,0,none⟩) (o.length+1) cap2,.slice (some ⟨g,0,none⟩) t.length cap] 92 (0,0)):=by simp[World.setCell,Array.getElem?_modify,hb2]
   rw[e1]at k1
   injection k1 with k1
   injection k1 with k1 _ _
   have k4:vo'=.slice (some ⟨g2,0,none⟩) (o.length+1) cap2∧vt'=.slice (some ⟨g,0,none⟩) t.length cap:=by simpa using k1.symm
   obtain⟨rfl,rfl⟩:=k4
   exact jBN.putT hB e1 k2 (jRK k3) (jSP _ _)
  go_region_law (refine jEF _ rfl (.tmp 12) (.tmp 19) 39 rfl B 76 i0 (.agg #[.int .u8 0,.string ⟨#[]⟩,.bool false]) 3 32 Tryz.underlying39 hi hz0 hz1 hz2 rfl q0.out vo o.length (cells3 o) (by simp[Act.eval]) q5.out ⟨w.heap.size,0,none⟩ 1 1 [.int .u8 1,.string (bytes t),.bool false] (by simp[Act.eval]) rfl q4.out q6.out q7.out q1.out q2.out q3.out _ rfl ?_;intro g2 cap2 w2 jBU jAJ qAE jKI jKJ;obtain⟨d0,d1,f0,f1,HJ,jRs,HOT,HKJ⟩:=mid.out g2 cap2 w2 jBU jAJ jKJ;clear jBU jAJ qAE jKI jKJ)
  all_goals
   go_wp2
   go_end0
   exact⟨rfl,by rw[HF.out];exact HJ.out,jRs.out,HOT.out,HKJ.out⟩
theorem jQ7 (B b:Nat)(o:List Pc)(x:Pc)(w:World)(h:jBN B b o [] w)(hBw:B≤w.heap.size) :
 Hid (B≤(w.alloc (.cells #[.int .u8 x.k,.string x.s,.bool x.c] 76)).heap.size) ∧
 Hid (∀j u,(#[.int .u8 x.k,.string x.s,.bool x.c]:Array Value).toList[j]? = some u→(w.alloc (.cells #[.int .u8 x.k,.string x.s,.bool x.c] 76)).cell? ((⟨w.heap.size,0,none⟩:Addr).add j)=some u) ∧
 ∃vo,Hid ((w.alloc (.cells #[.int .u8 x.k,.string x.s,.bool x.c] 76)).ownsRow B 76 3 vo o.length (cells3 o))∧w.cell? ⟨b,0,none⟩=some vo ∧
  Hid (∀g2 cap2 w2,World.ownsRow w2 B 76 3 (.slice (some ⟨g2,0,none⟩) (o.length+1) cap2) (o.length+1) (cells3 o++[.int .u8 x.k,.string x.s,.bool x.c])→World.grownBy (w.alloc (.cells #[.int .u8 x.k,.string x.s,.bool x.c] 76)).drew w2 vo.ownBlock→Full 76 (o.length+1) 3 (w.alloc (.cells #[.int .u8 x.k,.string x.s,.bool x.c] 76)).drew w2 →
   w2.cell? ⟨b,0,none⟩=some vo∧w2.frozen? ⟨b,0,none⟩=false∧Hid (jBN B b (o++[x]) [] (w2.setCell ⟨b,0,none⟩ (.slice (some ⟨g2,0,none⟩) (o.length+1) cap2)))∧Hid (jAw B b w (w2.setCell ⟨b,0,none⟩ (.slice (some ⟨g2,0,none⟩) (o.length+1) cap2)))∧Hid (Keeps jBS w (w2.setCell ⟨b,0,none⟩ (.slice (some ⟨g2,0,none⟩) (o.length+1) cap2)))):=by
 obtain⟨hB,vo,vt,hbk,ho,ht,jW1⟩:=h
 have hlt:=lt_of_block hbk
 have q3:B≤(w.alloc (.cells #[.int .u8 x.k,.string x.s,.bool x.c] 76)).heap.size:=by simp;omega
 have q5:=World.ownsRow.alloc ho (.cells #[.int .u8 x.k,.string x.s,.bool x.c] 76)
 refine⟨q3,World.news_of_block (w:=w.alloc (.cells #[.int .u8 x.k,.string x.s,.bool x.c] 76)) (B:=w.heap.size) (cs:=#[.int .u8 x.k,.string x.s,.bool x.c]) (t:=76) (fr:=(0,0)) (by show (w.heap.push _)[_]? = _;simp),vo,q5,by rw[Lib.cell_of_heap hbk];rfl,?_⟩
 intro g2 cap2 w2 jBU jAJ jKJ
 have hb2:w2.heap[b]? = some (.cells #[vo,vt] 92 (0,0)):=by
  rw[jAJ.block b (by show b<(w.alloc _).heap.size;simp;omega) (fun e=>jAI ho hbk (by decide) e.symm)]
  show (w.alloc _).heap[b]? = _
  rw[Below.heap_alloc _ _ _ hlt]
  exact hbk
 have ht2:jGw B vt [] w2:=World.ownsRow.kept (w:=w.alloc (.cells #[.int .u8 x.k,.string x.s,.bool x.c] 76)) (World.ownsRow.alloc ht _) ⟨jAJ.os,jAJ.tape,jAJ.output,jAJ.size,jAJ.block⟩ (jBX ht ho (by decide))
 refine⟨by rw[Lib.cell_of_heap hb2];rfl,Lib.frozen_of_heap hb2 0,jBN.putO (o:=o++[x]) hB hb2 (jA7.more jBU) ht2 (jSP _ _),
  (((jAw.refl B b w).alloc hBw (.cells #[.int .u8 x.k,.string x.s,.bool x.c] 76)).grown (w:=w.alloc (.cells #[.int .u8 x.k,.string x.s,.bool x.c] 76)) (w':=w2) (row:=vo.ownBlock) ⟨jAJ.os,jAJ.tape,jAJ.output,jAJ.size,jAJ.block⟩ q3 (fun k hk=>(q5.lt k hk).1)).setCell 0 _,?_⟩
 have k1:Keeps jBS (w.alloc (.cells #[.int .u8 x.k,.string x.s,.bool x.c] 76)).drew w2:=by
  by_cases ho0:o=[]
  ·exact jKi (v:=vo) jAJ (jW1 ho0)
  ·exact jIm jKJ (List.length_pos_iff.2 ho0) jAJ.size
 have k2:Keeps jBS w (w.alloc (.cells #[.int .u8 x.k,.string x.s,.bool x.c] 76)).drew:=⟨(Keeps.below (C:=jBS) (jAb (w:=w) (.cells #[.int .u8 x.k,.string x.s,.bool x.c] 76))).size,(Keeps.below (C:=jBS) (jAb (w:=w) (.cells #[.int .u8 x.k,.string x.s,.bool x.c] 76))).same⟩
 exact (k2.trans k1).setCell hb2 (jDj _ _) 0 _
theorem jVG (B b:Nat)(o:List Pc)(t:List UInt8)(x:Pc)(w:World)(h:jBN B b o t w)(hk:x.k≠1)(jBi:t.length≤100000000)(jHf:o.length≤1000000)(hBw:B≤w.heap.size) :
 Calls Tryz.prog 53 #[.pointer (some ⟨b,0,none⟩),pcV x] w fun e w'=>e=.returned (.tuple #[])∧jBN B b (o++flush t++[x]) [] w'∧jAw B b w w'∧Keeps jBS w w':=by
 obtain⟨i0,hi,hz0,hz1,hz2⟩:=info_parts jEs
 have ag:=Tryz.isAgg76
 have zg:=Tryz.sizeOf76
 have hbx:=jAb (w:=w) (pcC x)
 have qAt:=h.lt
 have hj:=h.step hbx
 have hB1:B≤(w.alloc (pcC x)).heap.size:=Nat.le_trans hBw hbx.size
 have cE:=jHB B b o t _ hj jBi jHf hB1
 have hX:=Boxed.new w x
 have hfl:(o++flush t).length≤1000001:=by unfold flush;split <;> simp <;> omega
 obtain⟨hB,vo,vt,hbk,ho,ht,_⟩:=h
 have hvo:=ho.lt
 have hkb:(x.k == 1)=false:=beq_eq_false_iff_ne.2 hk
 have keep:Hid (∀w2,Others b (w.alloc (pcC x)) w2→Boxed w.heap.size x w2):=by
  intro w2 h2
  have e:w2.heap[w.heap.size]? = (w.alloc (pcC x)).heap[w.heap.size]?:=h2.2 vo (by rw[Lib.cell_of_heap (show (w.alloc (pcC x)).heap[b]? = some (.cells #[vo,vt] 92 (0,0)) by rw[Below.heap_alloc _ _ _ qAt];exact hbk)];rfl) _ (by simp) (by omega) (fun e=>by have:=(hvo _ e).2;omega)
  obtain⟨x0,x1,x2,x3⟩:=hX
  exact⟨(World.cell?_of_block (a:=⟨w.heap.size,0,none⟩) e).trans x0,(World.cell?_of_block (a:=⟨w.heap.size,1,none⟩) e).trans x1,(World.cell?_of_block (a:=⟨w.heap.size,2,none⟩) e).trans x2,Nat.lt_of_lt_of_le (by simp) h2.1⟩
 have hBX:=hid ((jAw.refl B b w).alloc hBw (pcC x))
 have hKX:=hid ((Keeps.refl jBS w).alloc (pcC x))
 clear ho ht hvo hX hbx
 obtain⟨k,s,c⟩:=x
 unfold pcV
 unfold pcC at cE keep hBX hKX
 simp only at hkb
 have q0:=hid (show 0<3 by decide)
 have q1:=hid (show (o++flush t).length+1≤maxLen by unfold maxLen;omega)
 have q2:=hid (show ((o++flush t).length+1)*32≤140737488355328 by omega)
 have q6:=hid (show ∀u ∈ ([.int .u8 k,.string s,.bool c]:List Value),u.oneCell'=true by intro u hu;simp at hu;rcases hu with rfl | rfl | rfl <;> rfl)
 have q7:=hid (show 0<1 by decide)
 have mid:=hid (fun w2 hj2 hs2=>jQ7 B b (o++flush t) ⟨k,s,c⟩ w2 hj2 (Nat.le_trans hB1 hs2))
 clear hj hbk
 go_enter Tryz.func53,Tryz.ntmps53
 go_wp2_with (go_at_call 102;(with_reducible refine cE.mono ?_);rintro e w2 ⟨rfl,hj2,hb2,ho2,hk2⟩;obtain⟨x0,x1,x2,x3⟩:=keep.out w2 ho2;have jUv:=hj2.lt;have hm2:=mid.out w2 hj2 hb2.size;obtain⟨q3,q4,vo2,q5,c02,M⟩:=hm2;have HB2:=hid (hBX.out.trans hb2);have HK2:=hid (hKX.out.trans hk2);clear hj2 hb2 ho2 hk2)
 go_region_law (refine jEF _ rfl (.tmp 17) (.tmp 19) 39 rfl B 76 i0 (.agg #[.int .u8 0,.string ⟨#[]⟩,.bool false]) 3 32 Tryz.underlying39 hi hz0 hz1 hz2 rfl q0.out vo2 (o++flush t).length (cells3 (o++flush t)) (by simp[Act.eval]) q5.out ⟨w2.heap.size,0,none⟩ 1 1 [.int .u8 k,.string s,.bool c] (by simp[Act.eval]) rfl q4.out q6.out q7.out q1.out q2.out q3.out _ rfl ?_;intro g3 cap3 w3 jAP jAl qAF jYC jW2;obtain⟨e0,f0,HJ,jRs,HKEL⟩:=M.out g3 cap3 w3 jAP jAl jW2;clear jAP jAl qAF jYC jW2)
 all_goals
  go_wp2
  go_end0
  rw[List.length_append]at HJ jRs HKEL
  exact⟨rfl,HJ.out,HB2.out.trans jRs.out,HK2.out.trans HKEL.out⟩
theorem jLR (B b:Nat)(o:List Pc)(t:List UInt8)(w:World)(h:jBN B b o t w)(jBi:t.length≤100000000)(jHf:o.length≤1000000)(hBw:B≤w.heap.size) :
 Calls Tryz.prog 54 #[.pointer (some ⟨b,0,none⟩)] w fun e w'=>∃v,e=.returned v∧jA7 B v (o++flush t) w'∧jBN B b (o++flush t) [] w'∧jAw B b w w'∧Keeps jBS w w':=by
 have cE:=jHB B b o t _ h jBi jHf hBw
 have open2:Hid (∀w2,jBN B b (o++flush t) [] w2→∃vo,w2.cell? ⟨b,0,none⟩=some vo∧jA7 B vo (o++flush t) w2):=by
  rintro w2 ⟨_,vo,vt,hbk,ho,_,_⟩
  exact⟨vo,by rw[Lib.cell_of_heap hbk];rfl,ho⟩
 clear h
 go_enter Tryz.func54,Tryz.ntmps54
 go_wp2_with (go_at_call 102;(with_reducible refine cE.mono ?_);rintro e w2 ⟨rfl,hj2,hb2,ho2,hk2⟩;have HJ2:=hid hj2;have HK:=hid hk2;obtain⟨vo,c0,hp⟩:=open2.out w2 hj2;have HP:=hid hp;obtain⟨ao,cap,rfl⟩:=HP.out.form;have HB:=hid hb2;clear hj2 hb2 ho2 hp hk2)
 go_ret
 exact⟨.slice ao (o.length+(flush t).length) cap,rfl,by have h:=HP.out;rw[List.length_append]at h;exact h,HJ2.out,HB.out,HK.out⟩
theorem jKX (B b:Nat)(o:List Pc)(t:List UInt8)(x:Pc)(w:World)(h:jBN B b o t w)(hk:x.k=1)(jBi:t.length+x.s.size≤100000000)(hBw:B≤w.heap.size) :
 Calls Tryz.prog 53 #[.pointer (some ⟨b,0,none⟩),pcV x] w fun e w'=>e=.returned (.tuple #[])∧jBN B b o (t++x.s.data.toList) w'∧jAw B b w w'∧Keeps jBS w w':=by
 have ag:=Tryz.isAgg76
 have zg:=Tryz.sizeOf76
 have hbx:=jAb (w:=w) (pcC x)
 have cT:=jL0 B b o t x.s _ (h.step hbx) jBi (Nat.le_trans hBw hbx.size)
 have HBX:=hid ((jAw.refl B b w).alloc hBw (pcC x))
 have HKX:=hid ((Keeps.refl jBS w).alloc (pcC x))
 clear h hbx
 obtain⟨k,s,c⟩:=x
 dsimp only at hk jBi cT
 subst hk
 unfold pcV
 unfold pcC at cT HBX HKX
 go_enter Tryz.func53,Tryz.ntmps53
 go_wp2_with (go_at_call 101;(with_reducible refine cT.mono ?_);rintro e w2 ⟨rfl,hj2,hk2,hc2⟩;have HJ:=hid hj2;have HK:=hid (HBX.out.trans hk2);have HC:=hid (HKX.out.trans hc2);clear hj2 hk2 hc2)
 refine bodyPost_ret (results_none rfl _ _ _) rfl ?_
 exact⟨rfl,HJ.out,HK.out,HC.out⟩
theorem jGS (B b:Nat)(st:Js)(x:Pc)(w:World)(h:jBN B b st.o st.t w)(jBi:st.t.length+x.s.size≤100000000)(jHf:st.o.length≤1000000)(hBw:B≤w.heap.size) :
 Calls Tryz.prog 53 #[.pointer (some ⟨b,0,none⟩),pcV x] w fun e w'=>e=.returned (.tuple #[])∧jBN B b (js3 x st).o (js3 x st).t w'∧jAw B b w w'∧Keeps jBS w w':=by
 unfold js3
 by_cases hk:x.k=1
 ·rw[if_pos hk]
  exact jKX B b st.o st.t x w h hk jBi hBw
 ·rw[if_neg hk]
  exact jVG B b st.o st.t x w h hk (by omega) jHf hBw
end Go.Proofs.YtldapapdolkiaaaGreatDoor
namespace Go.Proofs.YtldapapdolkiaaaGreatDoor
set_option maxHeartbeats 64000000
open Go Go.RowKit Go.Lib
set_option maxRecDepth 100000
theorem jFV (cs:Array Value)(fr:Nat × Nat):¬jHX (.cells cs 138 fr):=fun h=>h.1 rfl
theorem jLw (cs:Array Value):¬jHX (.cells cs 9 (0,0)):=fun h=>h.2 rfl
theorem jRR (B b:Nat)(op:List ByteArray)(s:ByteArray)(w:World)(h:jAR B b op w)(jBi:op.length≤1000000)(hBw:B≤w.heap.size) :
 Calls Tryz.prog 145 #[.pointer (some ⟨b,0,none⟩),.string s] w fun e w'=>e=.returned (.tuple #[])∧jAR B b (op++[s]) w'∧Below B w w'∧Keeps jHX w w':=by
 obtain⟨i0,hi,hz0,hz1,hz2⟩:=info_parts jFi
 obtain⟨hB,v,hbk,jAN,hne⟩:=h
 have c0:w.cell? ⟨b,0,none⟩=some v:=by rw[Lib.cell_of_heap hbk];rfl
 have hlt:=lt_of_block hbk
 go_enter Tryz.func145,Tryz.ntmps145
 go_wp2_with (at_builtin;refine wpList_append_own _ rfl _ _ 138 rfl B 9 i0 (.string ⟨#[]⟩) 1 16 Tryz.underlying138 hi hz0 hz1 hz2 rfl (by decide) _ _ _ rfl (jAN.alloc _) ⟨w.heap.size,0,none⟩ 1 1 [.string s] rfl rfl ?c1 ?c2 ?c3 ?c4 ?c5 ?_)
 case c1 =>
  intro j u hj
  match j,hj with
  | 0,hj=>simp at hj;subst hj;simp[Addr.add]
 case c2=>intro u hu;simp at hu;subst hu;rfl
 case c3=>unfold maxLen;omega
 case c4=>omega
 case c5=>simp;omega
 intro v' w2 hown' jC1 _
 have hb2:w2.heap[b]? = some (.cells #[v] 138 (0,0)):=by
  rw[jC1.block b (by simp;omega) (fun e=>hne e.symm),Below.heap_alloc _ _ _ hlt]
  exact hbk
 have d0:w2.cell? ⟨b,0,none⟩=some v:=by rw[Lib.cell_of_heap hb2];rfl
 have f1:w2.frozen? ⟨b,0,none⟩=false:=Lib.frozen_of_heap hb2 0
 have hne':=jFw hown' hb2
 have HW:=hid (jAR.put (op:=op++[s]) hB hb2 (by simpa using hown') hne')
 have HB:=hid ((((Below.refl B w).alloc hBw (.cells #[.string s] 9)).grown jC1 (by simp;omega) (fun k hk=>(jAN.lt k hk).1)).setCell (p:=⟨b,0,none⟩) hB v')
 have HK:=hid ((((Keeps.refl jHX w).alloc (.cells #[.string s] 9)).trans (Keeps.grown (jAN.alloc (.cells #[.string s] 9)) jC1 jLw)).setCell hb2 (jFV _ _) 0 v')
 obtain⟨ao,n',cap,rfl⟩:∃ao n' cap,v'=.slice ao n' cap:=by
  rcases hown'.2 with ⟨hv,_⟩ | ⟨g,cap,cur,hv,_⟩
  ·exact⟨_,_,_,hv⟩
  ·exact⟨_,_,_,hv⟩
 clear hown' jC1
 go_wp2
 go_end0
 exact⟨rfl,HW.out,HB.out,HK.out⟩
theorem jVZ (B b:Nat)(op:List ByteArray)(w:World)(h:jAR B b op w) :
 Calls Tryz.prog 146 #[.pointer (some ⟨b,0,none⟩)] w fun e w'=>e=.returned (.tuple #[.string (op.getLast?.getD ⟨#[]⟩),.bool (decide (0<op.length))])∧jAR B b op.dropLast w'∧Below B w w'∧w.heap.size≤w'.heap.size∧(∀k,k≠b→w'.heap[k]? = w.heap[k]?)∧Keeps jHX w w':=by
 have cT:=jTN B b op w h
 have h0:=h
 obtain⟨hB,v,hbk,jAN,hne⟩:=h
 rcases List.eq_nil_or_concat op with rfl | ⟨l,x,rfl⟩
 ·have H0:=hid h0
  clear jAN
  simp only[List.getLast?_nil,Option.getD_none,List.length_nil,Nat.lt_irrefl,decide_false]at cT
  go_enter Tryz.func146,Tryz.ntmps146
  go_wp2_with (go_at_call 174;(with_reducible refine cT.mono ?_);rintro e w2 ⟨rfl,n,rfl⟩)
  go_ret2
  exact⟨by simp,H0.out,⟨rfl,rfl,rfl,Nat.le_refl _,fun _ _=>rfl⟩,Nat.le_refl _,fun _ _=>rfl,⟨Nat.le_refl _,fun _ _ h _=>h⟩⟩
 ·rcases jAN.2 with ⟨_,hn0⟩ | ⟨g,cap,cur,rfl,_,_,hncap,hcapm,_,_⟩
  ·simp at hn0
  simp only[List.concat_eq_append,List.length_append,List.length_cons,List.length_nil,Nat.zero_add]at *
  have hp:=jGX jAN
  have HP:=hid (fun n=>jAR.put (w:=w.drewN n) (v:=.slice (some ⟨g,0,none⟩) (l.length+1) cap) hB hbk (jEV n hp) hne)
  have HB:=hid (fun n=>Below.setCell (B:=B) (a:=w) (w:=w.drewN n) ⟨rfl,rfl,rfl,Nat.le_refl _,fun _ _=>rfl⟩ (p:=⟨b,0,none⟩) hB (.slice (some ⟨g,0,none⟩) l.length cap))
  have HK:=hid (fun n=>Keeps.setCell (C:=jHX) (a:=w) (w:=w.drewN n) ⟨Nat.le_refl _,fun _ _ h _=>h⟩ hbk (jFV _ _) 0 (.slice (some ⟨g,0,none⟩) l.length cap))
  clear jAN hp
  simp only[List.getLast?_append,List.getLast?_singleton,Option.some_or,Option.getD_some,Nat.zero_lt_succ,decide_true]at cT
  have c0:w.cell? ⟨b,0,none⟩=some (.slice (some ⟨g,0,none⟩) (l.length+1) cap):=by rw[Lib.cell_of_heap hbk];rfl
  have f0:w.frozen? ⟨b,0,none⟩=false:=Lib.frozen_of_heap hbk 0
  unfold maxLen at hcapm
  have hwr:IntKind.i64.wrap (l.length:Int)=(l.length:Int):=by rw[IntKind.wrap_i64];omega
  have jZU:(l.length:Int)<((l.length+1:Nat):Int):=by omega
  have hix0:(0:Int)≤(l.length:Int):=by omega
  have jZV:(l.length:Int)≤(cap:Int):=by omega
  go_enter Tryz.func146,Tryz.ntmps146
  go_wp2_with (go_at_call 174;(with_reducible refine cT.mono ?_);rintro e w2 ⟨rfl,n,rfl⟩)
  go_region
  go_wp2
  go_ret2
  exact⟨by simp,by simpa using HP.out _,HB.out _,by simp[World.setCell],fun k hk=>Below.heap_setCell _ _ _ _ hk,HK.out _⟩
theorem jOn (B b:Nat)(op:List ByteArray)(x:Pc)(w:World)(h:jAR B b op w)(jBi:op.length≤1000000)(hBw:B≤w.heap.size) :
 Calls Tryz.prog 83 #[.pointer (some ⟨b,0,none⟩),pcV x] w fun e w'=>(∃z:Int,e=.returned (.int .u8 z))∧jAR B b (jAM op x) w'∧Below B w w'∧Keeps jHX w w':=by
 have ag:=Tryz.isAgg76
 have zg:=Tryz.sizeOf76
 have HF:=hid (show jAM op x=if x.k=2 then op++[x.s] else if x.k=3 then op.dropLast else op from rfl)
 obtain⟨k,s,c⟩:=x
 have hbx:=jAb (w:=w) (pcC ⟨k,s,c⟩)
 have h1:=h.step hbx
 have hB1:B≤(w.alloc (pcC ⟨k,s,c⟩)).heap.size:=Nat.le_trans hBw hbx.size
 have hbb:=hbx.mono hBw
 have hX:=Boxed.new w ⟨k,s,c⟩
 unfold pcV
 have cU:=jRR B b op s _ h1 jBi hB1
 have cO:=jVZ B b op _ h1
 have HK:=hid ((Keeps.refl jHX w).alloc (pcC ⟨k,s,c⟩))
 have H1:=hid h1
 unfold pcC at cU cO hX hbb hbx HK H1
 simp only at cU cO hX hbx hbb HF HK H1 ⊢
 have HB:=hid hbb
 have hbl:b<w.heap.size:=by obtain⟨_,v,hb,_⟩:=h;exact lt_of_block hb
 clear h1
 by_cases h2:k=2
 ·subst h2
  clear cO
  have HF2:=hid (show op++[s]=jAM op ⟨2,s,c⟩ by rw[HF.out];simp)
  by_cases h16:op.length+1 > 16
  ·have hI:(16:Int)<(op.length:Int)+1:=by omega
   go_enter Tryz.func83,Tryz.ntmps83
   go_wp2_with (go_at_call 145;(with_reducible refine cU.mono ?_);rintro e w2 ⟨rfl,hs2,hb2,hk2⟩;obtain⟨ao,cap,c0⟩:=hs2.cell;simp only[List.length_append,List.length_cons,List.length_nil,Nat.zero_add]at c0;have HS2:=hid hs2;have HB2:=hid hb2;have HK2:=hid hk2;clear hk2)
   go_ret
   exact⟨⟨_,rfl⟩,by rw[←HF2.out];exact HS2.out,HB.out.trans HB2.out,HK.out.trans HK2.out⟩
  ·have hI:¬(16:Int)<(op.length:Int)+1:=by omega
   go_enter Tryz.func83,Tryz.ntmps83
   go_wp2_with (go_at_call 145;(with_reducible refine cU.mono ?_);rintro e w2 ⟨rfl,hs2,hb2,hk2⟩;obtain⟨ao,cap,c0⟩:=hs2.cell;simp only[List.length_append,List.length_cons,List.length_nil,Nat.zero_add]at c0;have HS2:=hid hs2;have HB2:=hid hb2;have HK2:=hid hk2;clear hk2)
   go_ret
   exact⟨⟨_,rfl⟩,by rw[←HF2.out];exact HS2.out,HB.out.trans HB2.out,HK.out.trans HK2.out⟩
 ·by_cases h3:k=3
  ·subst h3
   clear cU
   have HF3:=hid (show op.dropLast=jAM op ⟨3,s,c⟩ by rw[HF.out];simp)
   obtain⟨x0,x1,x2,x3⟩:=hX
   have hne:w.heap.size≠b:=by omega
   rcases List.eq_nil_or_concat op with rfl | ⟨l,y,rfl⟩
   ·simp only[List.getLast?_nil,Option.getD_none,List.length_nil,Nat.lt_irrefl,decide_false]at cO
    go_enter Tryz.func83,Tryz.ntmps83
    go_wp2_with (go_at_call 146;(with_reducible refine cO.mono ?_);rintro e w2 ⟨rfl,hs2,hb2,hz2,hk2,hc2⟩;have HS2:=hid hs2;have HC2:=hid hc2;clear hc2)
    go_ret
    exact⟨⟨_,rfl⟩,by rw[←HF3.out];exact HS2.out,HB.out.trans hb2,HK.out.trans HC2.out⟩
   ·simp only[List.concat_eq_append,List.length_append,List.length_cons,List.length_nil,Nat.zero_add,List.getLast?_append,List.getLast?_singleton,Option.some_or,Option.getD_some,Nat.zero_lt_succ,decide_true,List.dropLast_concat]at *
    by_cases hq:y.toList=s.toList
    ·go_enter Tryz.func83,Tryz.ntmps83
     go_wp2_with (go_at_call 146;(with_reducible refine cO.mono ?_);rintro e w2 ⟨rfl,hs2,hb2,hz2,hk2,hc2⟩;have HS2:=hid hs2;have y1:=(World.cell?_of_block (a:=⟨w.heap.size,1,none⟩) (hk2 w.heap.size hne)).trans x1;have HB2:=hid hb2;have HC2:=hid hc2;clear hk2 hc2)
     go_ret
     exact⟨⟨_,rfl⟩,by rw[←HF3.out];exact HS2.out,HB.out.trans HB2.out,HK.out.trans HC2.out⟩
    ·have hqb:(y.toList == s.toList)=false:=by simp[hq]
     go_enter Tryz.func83,Tryz.ntmps83
     go_wp2_with (go_at_call 146;(with_reducible refine cO.mono ?_);rintro e w2 ⟨rfl,hs2,hb2,hz2,hk2,hc2⟩;have HS2:=hid hs2;have y1:=(World.cell?_of_block (a:=⟨w.heap.size,1,none⟩) (hk2 w.heap.size hne)).trans x1;have HB2:=hid hb2;have HC2:=hid hc2;clear hk2 hc2)
     go_ret
     exact⟨⟨_,rfl⟩,by rw[←HF3.out];exact HS2.out,HB.out.trans HB2.out,HK.out.trans HC2.out⟩
  ·clear cU cO
   have HF3:=hid (show op=jAM op ⟨k,s,c⟩ by rw[HF.out];simp[h2,h3])
   obtain⟨x0,x1,x2,x3⟩:=hX
   go_enter Tryz.func83,Tryz.ntmps83
   go_wp2
   go_ret
   exact⟨⟨_,rfl⟩,by rw[←HF3.out];exact H1.out,HB.out,HK.out⟩
end Go.Proofs.YtldapapdolkiaaaGreatDoor
namespace Go.Proofs.YtldapapdolkiaaaGreatDoor
set_option maxHeartbeats 64000000
open Go Go.RowKit Go.Lib
set_option maxRecDepth 100000
def placed:Nat→List Pc→List (Nat × Pc)
 | _,[]=>[]
 | p,x :: S=>(p,x) :: placed (jBM p x) S
theorem jCK:∀ (p:Nat) (S:List Pc),(placed p S).length=S.length
 | _,[]=>rfl
 | p,x :: S=>by simp[placed,jCK (jBM p x) S]
theorem jGj {s:ByteArray}(hp:0<s.size)(ht:jQN s.data.toList=true) :
 Utf8.encode ((Utf8.decode s 0).1:Int)=s.extract 0 (Utf8.decode s 0).2∧jQN (s.data.toList.drop (Utf8.decode s 0).2)=true∧ctl (Utf8.decode s 0).1=false∧(Utf8.decode s 0).2≤s.size:=by
 have hne:s.data.toList≠[]:=by
  intro h
  have h2:=jBb s
  rw[h,List.length_nil]at h2
  omega
 have hd:decodeL s.data.toList=Utf8.decode s 0:=by have:=decodeL_drop s 0;rwa [List.drop_zero]at this
 rw[jKj _ hne]at ht
 simp only[Bool.and_eq_true,Bool.not_eq_true',decide_eq_false_iff_not]at ht
 obtain⟨⟨h1,h2⟩,h3⟩:=ht
 have hle:=jGJ _ hne
 have hr:=roundtrip _ hne h1
 rw[hd]at h2 h3 hle hr
 rw[jBb]at hle
 refine⟨?_,h3,h2,by omega⟩
 apply ByteArray.ext
 apply Array.ext'
 rw[hr,ByteArray.data_extract,Array.toList_extract,List.extract_eq_take_drop,List.drop_zero,Nat.sub_zero]
theorem jGk {s:ByteArray}(h:¬0<s.size):jAi s=[]:=by
 unfold jAi
 have:s.data.toList.length=0:=by rw[jBb];omega
 rw[this];rfl
theorem jKg {s:ByteArray}(hp:0<s.size):jAi s=(Utf8.decode s 0).1 :: jAi (s.extract (Utf8.decode s 0).2 s.size):=by
 have hd:decodeL s.data.toList=Utf8.decode s 0:=by have:=decodeL_drop s 0;rwa [List.drop_zero]at this
 have hne:s.data.toList≠[]:=by
  intro h
  have h2:=jBb s
  rw[h,List.length_nil]at h2
  omega
 have hw:=width_pos s 0
 unfold jAi
 obtain⟨n,hn⟩:∃n,s.data.toList.length=n+1:=⟨s.data.toList.length-1,by rw[jBb];omega⟩
 rw[hn]
 simp only[jBy,if_neg hne,hd]
 have e:(s.extract (Utf8.decode s 0).2 s.size).data.toList=s.data.toList.drop (Utf8.decode s 0).2:=by
  rw[ByteArray.data_extract,Array.toList_extract,List.extract_eq_take_drop]
  apply List.take_of_length_le
  rw[List.length_drop,jBb]
  exact Nat.le_refl _
 rw[e]
 congr 1
 exact jFE _ _ _ (by rw[List.length_drop];omega) (Nat.le_refl _)
theorem jIG {s:ByteArray}(hp:0<s.size)(ht:jBK s=true):jBK (s.extract (Utf8.decode s 0).2 s.size)=true:=by
 rw[jGA]at ht ⊢
 have e:(s.extract (Utf8.decode s 0).2 s.size).data.toList=s.data.toList.drop (Utf8.decode s 0).2:=by
  rw[ByteArray.data_extract,Array.toList_extract,List.extract_eq_take_drop]
  apply List.take_of_length_le
  rw[List.length_drop,jBb]
  exact Nat.le_refl _
 rw[e]
 exact (jGj hp ht).2.1
def jFt:Obj→Prop
 | .cells cs t _=>(t=76∧cs.size≤3)∨t=199
 | _=>False
theorem jXk {o:Obj}(h:jFt o):jBS o:=by
 unfold jFt at h
 split at h
 ·rcases h with ⟨rfl,h⟩ | rfl
  ·exact⟨by decide,by decide,fun _=>h⟩
  ·exact⟨by decide,by decide,fun e=>absurd e (by decide)⟩
 ·exact h.elim
theorem jYn {o:Obj}(h:jFt o):jHX o:=by
 unfold jFt at h
 split at h
 ·rcases h with ⟨rfl,_⟩ | rfl
  ·exact⟨by decide,by decide⟩
  ·exact⟨by decide,by decide⟩
 ·exact h.elim
theorem jCv (x:Pc):jFt (pcC x):=.inl ⟨rfl,Nat.le_refl 3⟩
def KpS (B:Nat)(W W':World):Prop:=Below B W W'∧KeepsWalks W W'∧Keeps jFt W W'
theorem KpS.t {B:Nat}{X Y Z:World}(h:KpS B X Y)(k:KpS B Y Z):KpS B X Z:=⟨h.1.trans k.1,h.2.1.trans k.2.1,h.2.2.trans k.2.2⟩
theorem Keeps.putObj {C:Obj→Prop}{W:World}{l:Nat}{o o':Obj}(h:W.heap[l]? = some o)(hC:¬C o):Keeps C W (W.putObj l o') :=
 ⟨by simp,fun k q hk hq=>(World.putObj_heap_other (by rintro rfl;rw[hk]at h;cases h;exact hC hq)).trans hk⟩
theorem jTp {o:Obj}(hc:o.isCells=false):¬jFt o:=by
 unfold jFt
 split
 ·cases hc
 ·exact id
theorem KpS.b {B:Nat}{w:World}(hB:B≤w.heap.size)(W:World)(l:Nat)(o o':Obj)(hl:w.heap.size≤l)(h:W.heap[l]? = some o)(hc:o.isCells=false)(hw:o.isWalk=false):KpS B W (W.putObj l o') :=
 ⟨belowK_b hB W l o o' hl h hc hw,KeepsWalks.putObj _ h hw,Keeps.putObj h (jTp hc)⟩
theorem KpS.of_below {B:Nat}{W W':World}(hB:B≤W.heap.size)(hb:Below W.heap.size W W'):KpS B W W' :=
 ⟨hb.mono hB,⟨hb.size,fun _ _ hk _=>(hb.block _ (lt_of_block hk)).trans hk⟩,Keeps.below hb⟩
theorem jFk {α:Type}{J:List α→World→Prop}{base:Nat}(hJ:AbidesFrom base J){pre:List α}{X Y:World}(h:J pre X)(hb:Below X.heap.size X Y):J pre Y :=
 hJ pre X Y none h (grownBy_below (show X.grownBy X none from ⟨rfl,rfl,rfl,Nat.le_refl _,fun _ _ _=>rfl⟩) hb) (fun r e=>by cases e)
theorem jPR {α:Type}{xs pre ys:List α}{y:α}(h:xs=pre++y :: ys):pre.length<xs.length:=by rw[h];simp
theorem jNe {α:Type}{xs pre ys:List α}{y:α}(h:xs=pre++y :: ys):pre++[y] <+: xs:=⟨ys,by rw[h];simp⟩
def clip (x:Pc):Pc:=if x.s.size≤16 then x else nil
theorem jEi {x:Pc}(h:x.s.size≤16):clip x=x:=if_pos h
theorem jJ4 (x:Pc):(clip x).s.size≤16:=by
 unfold clip
 split
 ·assumption
 ·decide
def jYY (y:Nat × Pc):Array Value:=#[.int .i64 (y.1:Int),pcV (clip y.2)]
theorem jTl {p:Nat}{k:Int}{s:ByteArray}{c:Bool}(h:s.size≤16):jYY (p,⟨k,s,c⟩)=#[.int .i64 (p:Int),.agg #[.int .u8 k,.string s,.bool c]]:=by
 unfold jYY
 dsimp only
 rw[jEi h]
 rfl
def strN:Value→Nat
 | .string s=>s.size
 | _=>0
theorem jIw (p:Option Addr)(n c:Nat)(w:World):Calls Tryz.prog 81 #[.slice p n c] w fun e w'=>e=.returned (.func (.func 143) #[] #[.pointer (some ⟨w.heap.size,0,none⟩)])∧w'=w.alloc (.cells #[.slice p n c] 39):=by
 go_enter Tryz.func81,Tryz.ntmps81
 go_wp2
 go_ret
 exact⟨rfl,rfl⟩
end Go.Proofs.YtldapapdolkiaaaGreatDoor
namespace Go.Proofs.YtldapapdolkiaaaGreatDoor
set_option maxHeartbeats 64000000
open Go Go.RowKit Go.Lib
set_option maxRecDepth 100000
attribute [local go_sem] Oper.semAt_some
theorem jCt {B g3 g4:Nat}{w w':World}(h:Lib.Utf8Tabs g3 g4 w)(h3:g3<B)(h4:g4<B)(hb:Below B w w'):Lib.Utf8Tabs g3 g4 w' :=
 ⟨fun c hc=>(hb.cell (p:=⟨g3,c,none⟩) h3).trans (h.1 c hc),fun i hi=>⟨(hb.cell (p:=⟨g4,2*i,none⟩) h4).trans (h.2 i hi).1,(hb.cell (p:=⟨g4,2*i+1,none⟩) h4).trans (h.2 i hi).2⟩⟩
theorem jI5 {l:List Pc}{i:Nat}(h:i<l.length):jAh (l.drop i)=unP (l.getD i nil)++jAh (l.drop (i+1)):=by
 unfold jAh
 rw[List.drop_eq_getElem_cons h,List.flatMap_cons]
 rw[List.getD_eq_getElem?_getD,List.getElem?_eq_getElem h]
 rfl
theorem jCF {W:World}{Bn:Nat}{x:Pc}(h:W.heap[Bn]? = some (pcC x)):W.cell? ⟨Bn,0,none⟩=some (.int .u8 x.k)∧W.cell? ⟨Bn,1,none⟩=some (.string x.s)∧W.cell? ⟨Bn,2,none⟩=some (.bool x.c) :=
 ⟨(Lib.cell_of_heap h 0).trans rfl,(Lib.cell_of_heap h 1).trans rfl,(Lib.cell_of_heap h 2).trans rfl⟩
theorem jJs {t:ByteArray}{place:Nat}{R:List Pc}(hp:0<t.size)(ht:jBK t=true) :
 placed place ((jAi t).map jFp++R)=(place,⟨1,t.extract 0 (Utf8.decode t 0).2,false⟩) :: placed (place+1) ((jAi (t.extract (Utf8.decode t 0).2 t.size)).map jFp++R):=by
 rw[jKg hp,List.map_cons,List.cons_append]
 have e:jFp (Utf8.decode t 0).1=⟨1,t.extract 0 (Utf8.decode t 0).2,false⟩:=by
  unfold jFp
  rw[(jGj hp (by rw[←jGA];exact ht)).1]
 rw[e]
 rfl
theorem jWp (n:Nat)(hn:1≤n)(lb B Bn:Nat)(l:List Pc)(p:Option Addr)(cap:Nat)(J Jx:List (Nat × Pc)→World→Prop)
 (jDx:∀i,i<l.length→(l.getD i nil).k=1→jBK (l.getD i nil).s=true) (hsz:∀i,i<l.length→(l.getD i nil).s.size≤1000000) (hnm:∀i,i<l.length→(l.getD i nil).k≠1→(l.getD i nil).s.size≤16) (hN:(jAh l).length≤1000000)
 (hY:∀pre y W1,J pre W1→pre.length<(placed 0 (jAh l)).length→YieldAt Fence.wide (n-1) Tryz.prog lb (jYY y) W1 fun e W' =>
   (e=.returned (.bool true)∧J (pre++[y]) W'∧KpS B W1 W')∨(e=.returned (.bool false)∧Jx (pre++[y]) W'))
 (W:World) (hJ:AbidesFrom W.heap.size J) (hBx:W.heap[Bn]? = some (.cells #[.slice p l.length cap] 39 (0,0))) (hBW:B≤W.heap.size) (hGB:5≤B) (hT:Lib.Utf8Tabs 2 3 W)
 (hl:l.length≤cap) (hc:cap≤maxLen) (jA4:0<l.length→∃A,p=some A∧A.block<B∧∀i j,i<l.length→j<3→W.cell? (A.add (i*3+j))=some (pcF l i j)) (h0:J [] W) :
 CallsIn Fence.wide n Tryz.prog 143 #[.func (.yield lb) #[] #[],.pointer (some ⟨Bn,0,none⟩)] W fun e W'=>(∃v,e=.returned v) ∧
  ((∃ys,ys=placed 0 (jAh l)∧J ys W')∨(∃pre,pre <+: placed 0 (jAh l)∧Jx pre W')):=by
 unfold maxLen at hc
 have ag:=Tryz.isAgg76
 have zg:=Tryz.sizeOf76
 have c0:W.cell? ⟨Bn,0,none⟩=some (.slice p l.length cap):=(Lib.cell_of_heap hBx 0).trans rfl
 have HJ:=hid hJ
 have HY:=hid hY
 have HV:=hid jDx
 have HT:=hid hT
 have HR:=hid jA4
 have HZ:=hid hsz
 have HNM:=hid hnm
 have HS0:=hid (show placed 0 (jAh l)=[]++placed 0 (jAh (l.drop 0)) by rw[List.drop_zero];rfl)
 have H0:=hid h0
 have HN:=hid (show (placed 0 (jAh l)).length≤1000000 by rw[jCK];exact hN)
 clear hJ hY jDx hT jA4 hBx h0 hsz hN hnm
 generalize hS:placed 0 (jAh l)=S at *
 clear hS
 refine callsIn_of_wp Tryz.func143 rfl trivial ?_ rfl
 simp only[Tryz.ntmps143,List.size_toArray,List.length_cons,List.length_nil,Nat.reduceAdd,Nat.reduceSub,Array.replicate_succ,Array.replicate_zero,List.push_toArray,List.append_toArray,List.nil_append,List.cons_append]
 gi_wp2
 gi_loopw [3,11] (fun v3 v11 wr=>∃ (i place:Nat) (pre:List (Nat × Pc)),v3=.int .i64 place∧v11=.int .i64 i∧i≤l.length∧place≤pre.length∧Hid (S=pre++placed place (jAh (l.drop i)))∧Hid (J pre wr)∧Hid (Below B W wr)) (fun _ v11 _=>l.length-(RowKit.intOf v11).toNat)
 case atStart=>exact⟨0,0,[],rfl,rfl,Nat.zero_le _,Nat.le_refl _,HS0.out,H0.out,Below.refl _ _⟩
 case round =>
  obtain⟨i,place,pre,rfl,rfl,hi,hpl,HS,HJP,HST⟩:=hrel
  obtain⟨wo,hwo⟩:∃wo,wo=wr:=⟨_,rfl⟩
  subst hwo
  have jW3:=hid (show pre.length≤1000000 by have h1:=HN.out;rw[HS.out,List.length_append]at h1;omega)
  by_cases hlt:i<l.length
  ·obtain⟨A,rfl,hA,jAj⟩:=HR.out (by omega)
   obtain⟨x0,x1,x2⟩:=jAU hA jAj hlt HST.out
   have hszo:=HST.out.size
   have HSD:=hid (HS.out.trans (congrArg (fun q=>pre++placed place q) (jI5 hlt)))
   have hv:=HV.out i hlt
   have hzz:=HZ.out i hlt
   have hnn:=HNM.out i hlt
   clear jAj HS
   generalize l.getD i nil=x at x0 x1 x2 HSD hv hzz hnn
   have HR1:=hid (rfl:jAh (l.drop (i+1))=jAh (l.drop (i+1)))
   generalize hRR:jAh (l.drop (i+1))=R at HSD
   have HRR:=hid hRR
   clear hRR HR1
   have HX1:=hid (show (wo.alloc (pcC x)).heap[wo.heap.size]? = some (pcC x) from heap_alloc_new wo (pcC x))
   have HB1:=hid (show Below B W (wo.alloc (pcC x)) from HST.out.trans ((jAb (w:=wo) (pcC x)).mono (by omega)))
   have HJ1:=hid (jFk HJ.out HJP.out (jAb (w:=wo) (pcC x)))
   have hs1:(wo.alloc (pcC x)).heap.size=wo.heap.size+1:=by simp
   obtain⟨k,s,c⟩:=x
   dsimp only at x0 x1 x2 hv hzz hnn
   unfold pcC at hs1
   by_cases hk:k=1
   ·subst hk
    have ht:=hid (hv rfl)
    obtain⟨y0,y1,y2⟩:=jCF HX1.out
    dsimp only at y0 y1 y2
    unfold pcC at HX1 HB1 HJ1 y0 y1 y2
    have jON:=hid (show S=pre++placed place ((jAi s).map jFp++R) by rw[HSD.out];unfold unP;rw[if_pos rfl])
    clear hv HSD
    gi_wp2
    generalize wo.alloc (.cells #[.int .u8 1,.string s,.bool c] 76)=W1 at *
    gi_loopw [3,6] (fun v3 v6 wr=>∃ (place:Nat) (pre:List (Nat × Pc)) (t:ByteArray),v3=.int .i64 place∧v6=.string t∧place≤pre.length∧t.size≤1000000∧Hid (wr.heap[wo.heap.size]? = some (pcC ⟨1,s,c⟩))∧Hid (jBK t=true)∧Hid (S=pre++placed place ((jAi t).map jFp++R))∧Hid (J pre wr)∧Hid (Below B W wr)) (fun _ v6 _=>strN v6)
    case atStart=>exact⟨place,pre,s,rfl,rfl,hpl,hzz,HX1.out,ht.out,jON.out,HJ1.out,HB1.out⟩
    case round =>
     clear HX1 HB1 HJ1 y0 y1 y2 jON ht hpl jW3
     obtain⟨place,pre,t,rfl,rfl,hpl,htz,HX,ht,HS,HJP,HST⟩:=hrel
     have jW3:pre.length≤1000000:=by have h1:=HN.out;rw[HS.out,List.length_append]at h1;omega
     obtain⟨y0,y1,y2⟩:=jCF HX.out
     dsimp only at y0 y1 y2
     have jZ8:=HST.out.size
     by_cases hp:0<t.size
     ·have hne:t.toList.isEmpty=false:=by
       rw[Lib.toList_data]
       cases h:t.data.toList with
       | nil=>exact absurd (by rw[Lib.size_eq,h];rfl) (Nat.pos_iff_ne_zero.1 hp)
       | cons _ _=>rfl
      have cD:=utf8_DecodeRuneInString t wr (jCt HT.out (by omega) (by omega) HST.out)
      have hdg:Lib.decodeGo t=Utf8.decode t 0:=by unfold Lib.decodeGo;rw[if_neg (by omega)]
      rw[hdg]at cD
      obtain⟨he1,_,_,hdl⟩:=jGj hp (by rw[←jGA];exact ht.out)
      have hd4:(t.extract 0 (Utf8.decode t 0).2).size≤16:=by rw[←he1];exact Nat.le_trans (jD9 _) (by decide)
      have HY1:=hid (fun W1 h1 h2=>jTl (p:=place) (k:=1) (c:=false) hd4▸HY.out pre (place,⟨1,t.extract 0 (Utf8.decode t 0).2,false⟩) W1 h1 h2)
      have HS1:=hid (HS.out.trans (congrArg (pre++·) (jJs (place:=place) (R:=R) hp ht.out)))
      have HT1:=hid (jIG hp ht.out)
      have hwd:=width_pos t 0
      have hq:IntKind.i64.wrap ((place:Int)+1)=((place+1:Nat):Int):=by rw[IntKind.wrap_i64];omega
      clear HS hdg he1 hd4
      generalize (Utf8.decode t 0).1=r at *
      generalize (Utf8.decode t 0).2=d at *
      have hdI:(d:Int)≤(t.size:Int):=by omega
      have hd0:(0:Int)≤(d:Int):=by omega
      gi_wp2_with (refine⟨trivial,?_⟩;gi_at_call 141;(with_reducible refine (callsIn_wide.2 cD).mono ?_);rintro e w2 ⟨rfl,hb2⟩;have HJ2:=hid (jFk HJ.out HJP.out hb2);have HX2:=hid ((hb2.block _ (lt_of_block HX.out)).trans HX.out);have qAN:=hid (HST.out.trans (hb2.mono (by omega)));obtain⟨fn,tmps,assign,body,hy,hR⟩:=HY1.out w2 HJ2.out (jPR HS1.out);clear hb2)
      refine hR.mono ?_
      rintro e W3 (⟨rfl,hJ3,hk3⟩ | ⟨rfl,jJY⟩)
      ·have HJ3:=hid hJ3
       have HX3:=hid (hk3.2.2.same _ _ HX2.out (jCv _))
       have jWw:=hid (qAN.out.trans hk3.1)
       clear hJ3 hk3
       gi_wp2
       go_roundw
       case rel=>exact⟨place+1,pre++[(place,(⟨1,t.extract 0 d,false⟩:Pc))],t.extract d t.size,by go_num,rfl,by simp;omega,by rw[ByteArray.size_extract];omega,HX3.out,HT1.out,by rw[List.append_assoc];exact HS1.out,HJ3.out,jWw.out⟩
       case measure=>simp[strN];omega
      ·gi_wp2
       refine bodyPost_ret (results_none rfl _ _ _) rfl ?_
       exact⟨⟨_,rfl⟩,.inr ⟨_,jNe HS1.out,jJY⟩⟩
     ·have hne:t.toList.isEmpty=true:=by
       rw[Lib.toList_data]
       have:t.data.toList=[]:=List.eq_nil_of_length_eq_zero (by rw[←Lib.size_eq];omega)
       rw[this];rfl
      have HS1:=hid (show S=pre++placed place (jAh (l.drop (i+1))) by rw[HS.out,jGk hp,HRR.out];rfl)
      clear HS
      gi_wp2
      refine⟨fun _ h=>(by cases h),?_⟩
      gi_wp2
      go_roundw
      case rel=>exact⟨i+1,place,pre,rfl,by go_num,by omega,hpl,HS1.out,HJP.out,HST.out⟩
      case measure=>simp[RowKit.intOf];omega
   ·have jON:=hid (show S=pre++(place,(⟨k,s,c⟩:Pc)) :: placed (jBM place ⟨k,s,c⟩) R by rw[HSD.out];unfold unP;rw[if_neg hk];rfl)
    obtain⟨y0,y1,y2⟩:=jCF HX1.out
    dsimp only at y0 y1 y2
    unfold pcC at HX1 HB1 HJ1 y0 y1 y2
    have hkb:(k == 1)=false:=beq_eq_false_iff_ne.2 hk
    have hkn:(k != 1)=true:=by simp[hk]
    have hq:IntKind.i64.wrap ((place:Int)+1)=((place+1:Nat):Int):=by have:=jW3.out;rw[IntKind.wrap_i64];omega
    clear hv HSD
    gi_wp2
    generalize wo.alloc (.cells #[.int .u8 k,.string s,.bool c] 76)=W1 at *
    gi_loopw [3] (fun v3 wr=>v3=.int .i64 place∧wr=W1) (fun _ _=>0)
    case atStart=>exact⟨rfl,rfl⟩
    case round =>
     obtain⟨rfl,rfl⟩:=hrel
     obtain⟨fn,tmps,assign,body,hy,hR⟩:=(jTl (p:=place) (k:=k) (c:=c) (hnn hk)▸HY.out pre (place,⟨k,s,c⟩) wr HJ1.out (jPR jON.out))
     have HX1p:=hid (show wr.heap[wo.heap.size]? = some (pcC ⟨k,s,c⟩) from HX1.out)
     gi_wp2
     refine hR.mono ?_
     rintro e W3 (⟨rfl,hJ3,hk3⟩ | ⟨rfl,jJY⟩)
     ·have HJ3:=hid hJ3
      have HX3:=hk3.2.2.same _ _ HX1p.out (jCv _)
      have jWw:=hid (HB1.out.trans hk3.1)
      obtain⟨z0,z1,z2⟩:=jCF HX3
      dsimp only at z0 z1 z2
      clear hJ3 hk3 HX3
      by_cases h5:k=5
      ·have h5b:(k == 5)=true:=by simp[h5]
       have HS3:=hid (show S=(pre++[(place,(⟨k,s,c⟩:Pc))])++placed (place+1) (jAh (l.drop (i+1))) by rw[jON.out,HRR.out,List.append_assoc];unfold jBM;rw[if_pos (.inr h5)];rfl)
       gi_wp2
       go_roundw
       case rel=>exact⟨i+1,place+1,pre++[(place,(⟨k,s,c⟩:Pc))],by go_num,by go_num,by omega,by simp;omega,HS3.out,HJ3.out,jWw.out⟩
       case measure=>simp[RowKit.intOf];omega
      ·have h5b:(k == 5)=false:=by simp[h5]
       have HS3:=hid (show S=(pre++[(place,(⟨k,s,c⟩:Pc))])++placed place (jAh (l.drop (i+1))) by rw[jON.out,HRR.out,List.append_assoc];unfold jBM;rw[if_neg (by rintro (h | h);exact hk h;exact h5 h)];rfl)
       gi_wp2
       go_roundw
       case rel=>exact⟨i+1,place,pre++[(place,(⟨k,s,c⟩:Pc))],rfl,by go_num,by omega,by simp;omega,HS3.out,HJ3.out,jWw.out⟩
       case measure=>simp[RowKit.intOf];omega
     ·gi_wp2
      refine bodyPost_ret (results_none rfl _ _ _) rfl ?_
      exact⟨⟨_,rfl⟩,.inr ⟨_,jNe jON.out,jJY⟩⟩
  ·have HE:=hid (show pre=S by rw[HS.out,List.drop_of_length_le (by omega)];simp[jAh,placed])
   gi_wp2
   go_end0
   exact⟨⟨_,rfl⟩,.inl ⟨pre,HE.out,HJP.out⟩⟩
theorem jJm (n:Nat)(hn:1≤n)(B Bn:Nat)(l:List Pc)(p:Option Addr)(cap:Nat)(w:World)
 (jDx:∀i,i<l.length→(l.getD i nil).k=1→jBK (l.getD i nil).s=true) (hsz:∀i,i<l.length→(l.getD i nil).s.size≤1000000) (hnm:∀i,i<l.length→(l.getD i nil).k≠1→(l.getD i nil).s.size≤16) (hN:(jAh l).length≤1000000)
 (hBx:w.heap[Bn]? = some (.cells #[.slice p l.length cap] 39 (0,0))) (hBW:B≤w.heap.size) (hGB:5≤B) (hT:Lib.Utf8Tabs 2 3 w) (hv:jAO B w (.slice p l.length cap) l.length 3 (pcF l)) :
 SeqStopsK Fence.wide n Tryz.prog 143 #[.pointer (some ⟨Bn,0,none⟩)] jYY (KpS B) (fun ys=>ys=placed 0 (jAh l)) (fun pre=>pre <+: placed 0 (jAh l)) (placed 0 (jAh l)).length w:=by
 intro lb J Jx W hW hJ hJx hY h0
 obtain⟨q,cap',e,h1,h2,h3⟩:=hv.below (hW.mono hBW)
 injection e with e1 e2 e3
 subst e1 e3
 exact jWp n hn lb B Bn l p cap J Jx jDx hsz hnm hN hY W hJ ((hW.block _ (lt_of_block hBx)).trans hBx) (Nat.le_trans hBW hW.size) hGB (Utf8Tabs_below hT hW) h1 h2 h3 h0
end Go.Proofs.YtldapapdolkiaaaGreatDoor
