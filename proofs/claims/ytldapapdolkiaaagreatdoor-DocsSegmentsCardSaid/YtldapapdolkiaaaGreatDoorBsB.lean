/- The specification's units of a list, with what they are. The specification's items of a pattern. Whether items fit the units behind a place, by the specification. The first error of break rules, by the specification. -/
import Derived.Test.YtldapapdolkiaaaGreatDoorBsA
namespace Go.Proofs.YtldapapdolkiaaaGreatDoor
set_option maxHeartbeats 64000000
open Go Go.RowKit Go.Lib
set_option maxRecDepth 100000
theorem jWS {B sz n:Nat}{t:TypeId}{v:Value}{xs:List Value}{w:World}{f:Nat→Nat→Value}(h:w.ownsRow B t sz v n xs)(hx:∀i j,i<n→j<sz→xs[i*sz+j]? = some (f i j)):jAO w.heap.size w v n sz f:=by
 have hc:=h
 rcases h.2 with ⟨rfl,h0⟩ | ⟨g,cap,cur,rfl,hg,hh,hn,hm,_⟩
 ·exact⟨none,0,by rw[h0],by omega,by unfold maxLen;omega,fun h=>by omega⟩
 ·exact⟨some ⟨g,0,none⟩,cap,rfl,hn,hm,fun _=>⟨_,rfl,lt_of_block hh,fun i j hi hj=>World.ownsRow.cells hc (g:=g) rfl _ _ (hx i j hi hj)⟩⟩
theorem jLb {α:Type}(g:α→List Value)(sz:Nat)(hg:∀a,(g a).length=sz)(d:α):∀ (us:List α) (i j:Nat),i<us.length→j<sz→(us.flatMap g)[i*sz+j]? = (g (us.getD i d))[j]?
 | [],i,j,hi,hj=>by cases hi
 | u :: us,0,j,_,hj=>by
   rw[List.flatMap_cons,Nat.zero_mul,Nat.zero_add,List.getElem?_append_left (by rw[hg];exact hj)]
   rfl
 | u :: us,i+1,j,hi,hj=>by
   have h:=jLb g sz hg d us i j (by rw[List.length_cons]at hi;omega) hj
   have e:(i+1)*sz+j=sz+(i*sz+j):=by rw[Nat.succ_mul];omega
   rw[List.flatMap_cons,List.getElem?_append_right (by rw[hg];omega),hg,e,show sz+(i*sz+j)-sz=i*sz+j by omega,h]
   rfl
def jGO (L:List Un):List Value:=L.flatMap fun u=>[.int .i32 (u.r:Int),.bool u.h]
theorem jOv (L:List Un)(r:Nat)(h:Bool):jGO (L++[⟨r,h⟩])=jGO L++[.int .i32 (r:Int),.bool h]:=by unfold jGO;rw[List.flatMap_append];rfl
def jDB (B:Nat)(v:Value)(L:List Un)(w:World):Prop:=w.ownsRow B 190 2 v L.length (jGO L)
theorem jDB.step {B:Nat}{v:Value}{L:List Un}{w w':World}(hb:Below w.heap.size w w')(h:jDB B v L w):jDB B v L w':=jAZ hb h
theorem jDB.form {B:Nat}{v:Value}{L:List Un}{w:World}(h:jDB B v L w):∃ao cap,v=.slice ao L.length cap:=by
 rcases h.2 with ⟨hv,h0⟩ | ⟨g,cap,cur,hv,_⟩
 ·exact⟨none,0,by rw[hv,h0]⟩
 ·exact⟨_,_,hv⟩
theorem jDB.more {B:Nat}{v:Value}{L:List Un}{r:Nat}{h:Bool}{w:World}(hr:w.ownsRow B 190 2 v (L.length+1) (jGO L++[.int .i32 (r:Int),.bool h])):jDB B v (L++[⟨r,h⟩]) w:=by
 unfold jDB
 rw[jOv,List.length_append,List.length_singleton]
 exact hr
theorem jDB.at {B:Nat}{v:Value}{L:List Un}{w:World}(h:jDB B v L w):jRy w v L:=by
 refine jWS h fun i j hi hj=>?_
 unfold jGO
 rw[jLb _ 2 (fun _=>rfl) jFs L i j hi hj]
 match j,hj with
 | 0,_=>rfl
 | 1,_=>rfl
def jGE (l:List Pc)(k:Nat):List Un:=(l.take k).flatMap jWK
theorem jQJ {l:List Pc}{k:Nat}(h:k<l.length):jGE l (k+1)=jGE l k++jWK (l.getD k nil):=by
 unfold jGE
 rw[jAS l k h,List.flatMap_append]
 simp
theorem jSj (l:List Pc):jGE l l.length=jCa l:=by unfold jGE jCa;rw[List.take_length]
theorem jVo (l:List Pc)(k:Nat):(jGE l k).length≤bulk l:=by
 have h:=jLr (l.take k)
 unfold jCa at h
 unfold jGE
 rw[h]
 exact Nat.le_trans (jHA _) (jCR l k)
def unR (r:Nat):Un:=⟨r,false⟩
theorem jQW (l:List Pc)(v:Value)(w:World)(hv:jBe w v l)(hb:bulk l≤10000) :
 Calls Tryz.prog 89 #[v] w fun e w'=>(∃u,e=.returned u∧jRy w' u (jCa l))∧Below w.heap.size w w':=by
 obtain⟨p,cap,rfl,hl,hc,jA4⟩:=hv
 unfold maxLen at hc
 obtain⟨i0,hi,hz0,hz1,hz2⟩:=info_parts jNc
 have ag:=Tryz.isAgg76
 have zg:=Tryz.sizeOf76
 have ag2:=Tryz.isAgg190
 have zg2:=Tryz.sizeOf190
 have HR:=hid jA4
 clear jA4
 go_enter Tryz.func89,Tryz.ntmps89
 go_wp2
 go_loopw [3,4] (fun o i wr=>∃k:Nat,k≤l.length∧i=.int .i64 k∧Hid (jDB w.heap.size o (jGE l k) wr)∧Hid (Below w.heap.size w wr)) (fun _ i _=>l.length-(RowKit.intOf i).toNat)
 case atStart=>exact⟨0,Nat.zero_le _,rfl,show jDB _ _ _ _ from World.ownsRow_nil _ _ _ _,Below.refl _ _⟩
 case round =>
  obtain⟨k,hk,rfl,HK,HB⟩:=hrel
  by_cases hlt:k<l.length
  ·obtain⟨A,rfl,hA,jAj⟩:=HR.out (by omega)
   obtain⟨x0,x1,x2⟩:=jAU hA jAj hlt HB.out
   have HS:=hid (jQJ hlt)
   have hsz:=jBJ hlt
   have hol:=jVo l k
   have hki:(k:Int)<(l.length:Int):=by omega
   have hk0:(0:Int)≤(k:Int):=by omega
   have HX:=hid (fun (w2:World) (h2:Below w.heap.size w w2)=>jAU hA jAj hlt h2)
   clear jAj
   generalize l.getD k nil=x at x0 x1 x2 HS hsz HX
   generalize jGE l k=o1 at HK HS hol
   obtain⟨ao,ca,rfl⟩:=HK.out.form
   have jEg:=HB.out.size
   obtain⟨xk,xs,xc⟩:=x
   dsimp only at x0 x1 x2 hsz
   by_cases h5:xk=5
   ·subst h5
    have HS1:=hid (show jGE l (k+1)=o1++[⟨0,true⟩] by rw[HS.out];rfl)
    have jBU:=HK.out
    unfold jDB at jBU
    have HK2:=hid jBU
    have q1:=hid (show o1.length+1≤maxLen by unfold maxLen;omega)
    have q2:=hid (show (o1.length+1)*8≤140737488355328 by omega)
    clear jBU HK HS
    go_wp2_with (first
     | (at_builtin;refine wpList_append_own _ rfl _ _ 154 rfl w.heap.size 190 i0 _ 2 8 Tryz.underlying154 hi hz0 hz1 hz2 rfl (by decide) _ _ _ rfl (HK2.out.alloc (.cells #[.int .i32 0,.bool true] 190)) ⟨wr.heap.size,0,none⟩ 1 1 [.int .i32 0,.bool true] rfl rfl (jBV wr _ _ _) (one2 _ _) q1.out q2.out (by simp;omega) ?_;intro v3 w3 jAP jAl jBs
        have HB3:=hid ((HB.out.alloc jEg (.cells #[.int .i32 0,.bool true] 190)).grown jAl (by simp;omega) (fun k hk=>(HK2.out.lt k hk).1))
        have HK3:=hid (jDB.more (r:=0) jAP)
        obtain⟨y0,y1,y2⟩:=HX.out w3 HB3.out
        dsimp only at y0 y1 y2
        clear jAP jAl jBs))
    go_roundw
    case rel=>exact⟨k+1,hlt,by go_num,(by show jDB _ _ _ _;rw[HS1.out];exact HK3.out),HB3.out⟩
    case measure=>simp[RowKit.intOf];omega
   ·have h5b:(xk == 5)=false:=by simpa using h5
    by_cases h1:xk=1
    ·subst h1
     obtain⟨cap2,W1,cur,hcv,hb2,jUv,jUd,jZ1⟩:=jH6 xs wr (by omega)
     have hrl:(jAi xs).length≤xs.size:=jBc _ _
     have HS1:=hid (show jGE l (k+1)=o1++(jAi xs).map unR by rw[HS.out];rfl)
     have HCU:=hid jUd
     have HW:=hid (jAa HB.out hb2)
     have HK1:=hid (HK.out.step hb2)
     have HBL:=hid jUv
     have hrs:(jAi xs).length≤10000:=by omega
     clear jUd jUv hrl HS
     generalize jAi xs=rs at *
     obtain⟨wo,hwo⟩:∃wo,wo=wr:=⟨_,rfl⟩
     subst hwo
     go_wp2
     go_loopw [3,6] (fun o i wr2=>∃j:Nat,j≤rs.length∧i=.int .i64 j∧Hid (jDB w.heap.size o (o1++(rs.take j).map unR) wr2)∧Hid (wr2.heap[wo.heap.size]? = some (.cells cur 21 (0,0)))∧Hid (Below w.heap.size w wr2)) (fun _ i _=>rs.length-(RowKit.intOf i).toNat)
     case atStart=>exact⟨0,Nat.zero_le _,rfl,by show jDB _ _ _ _;simpa using HK1.out,HBL.out,HW.out⟩
     case round =>
      clear HB HW HK HK1 jEg
      obtain⟨j,hj,rfl,HO,HR2,HB⟩:=hrel
      by_cases hjl:j<rs.length
      ·have hr:rs[j]? = some rs[j]:=List.getElem?_eq_getElem hjl
       have ck:=(Lib.cell_of_heap HR2.out j).trans (HCU.out j _ hr)
       have HT:=hid (show o1++(rs.take (j+1)).map unR=(o1++(rs.take j).map unR)++[⟨rs[j],false⟩] by rw[List.take_add_one,hr,List.map_append,List.append_assoc];rfl)
       have jBi:(o1++(rs.take j).map unR).length≤20000:=by rw[List.length_append,List.length_map,List.length_take];omega
       have hji:(j:Int)<(rs.length:Int):=by omega
       have hj0:(0:Int)≤(j:Int):=by omega
       generalize rs[j]=r at hr ck HT
       generalize o1++(rs.take j).map unR=pre at HO HT jBi
       clear hr
       obtain⟨aoj,caj,hfo⟩:=HO.out.form
       subst hfo
       have jBU:=HO.out
       unfold jDB at jBU
       have HK2:=hid jBU
       have jEg:=HB.out.size
       have q1:=hid (show pre.length+1≤maxLen by unfold maxLen;omega)
       have q2:=hid (show (pre.length+1)*8≤140737488355328 by omega)
       clear jBU HO
       go_wp2_with (first
        | (at_builtin;refine wpList_append_own _ rfl _ _ 154 rfl w.heap.size 190 i0 _ 2 8 Tryz.underlying154 hi hz0 hz1 hz2 rfl (by decide) _ _ _ rfl (HK2.out.alloc (.cells #[.int .i32 (r:Int),.bool false] 190)) ⟨wr.heap.size,0,none⟩ 1 1 [.int .i32 (r:Int),.bool false] rfl rfl (jBV wr _ _ _) (one2 _ _) q1.out q2.out (by simp;omega) ?_;intro v3 w3 jAP jAl jBs
           have HR6:=hid (show w3.heap[wo.heap.size]? = some (.cells cur 21 (0,0)) by
            have d4:=(Below.heap_alloc wr (.cells #[.int .i32 (r:Int),.bool false] 190) _ (lt_of_block HR2.out)).trans HR2.out
            rw[jAl.block wo.heap.size (lt_of_block d4) (fun e=>jBu (HK2.out.alloc (.cells #[.int .i32 (r:Int),.bool false] 190)) d4 (by decide) e.symm)]
            exact d4)
           have HB3:=hid ((HB.out.alloc jEg (.cells #[.int .i32 (r:Int),.bool false] 190)).grown jAl (by simp;omega) (fun k hk=>(HK2.out.lt k hk).1))
           have HK3:=hid (jDB.more jAP)
           clear jAP jAl jBs))
       go_roundw
       case rel=>exact⟨j+1,hjl,by go_num,(by show jDB _ _ _ _;rw[HT.out];exact HK3.out),HR6.out,HB3.out⟩
       case measure=>simp[RowKit.intOf];omega
      ·have hji:¬(j:Int)<(rs.length:Int):=by omega
       have HE:=hid (show o1++(rs.take j).map unR=jGE l (k+1) by rw[HS1.out,List.take_of_length_le (by omega)])
       go_wp2
       go_roundw
       case rel=>exact⟨k+1,hlt,by go_num,(by show jDB _ _ _ _;rw[←HE.out];exact HO.out),HB.out⟩
       case measure=>simp[RowKit.intOf];omega
    ·have h1b:(xk == 1)=false:=by simpa using h1
     have HS1:=hid (show jGE l (k+1)=o1 by rw[HS.out];unfold jWK;rw[if_neg h5,if_neg h1];simp)
     go_wp2
     go_roundw
     case rel=>exact⟨k+1,hlt,by go_num,(by show jDB _ _ _ _;rw[HS1.out];exact HK.out),HB.out⟩
     case measure=>simp[RowKit.intOf];omega
  ·have hki:¬(k:Int)<(l.length:Int):=by omega
   obtain rfl:k=l.length:=by omega
   rw[jSj]at HK
   go_wp2
   go_ret
   exact⟨⟨_,rfl,HK.out.at⟩,HB.out⟩
end Go.Proofs.YtldapapdolkiaaaGreatDoor
namespace Go.Proofs.YtldapapdolkiaaaGreatDoor
set_option maxHeartbeats 64000000
open Go Go.RowKit Go.Lib
set_option maxRecDepth 100000
theorem jX2 {rs:List Nat}{X:List Ft}{k:Nat}(hk:rs.length≤k)(h:jC2 rs=(jC2 (rs.drop k)).map (X++·)):jC2 rs=some X:=by
 rw[h,List.drop_of_length_le hk]
 simp[jC2]
theorem jDZ {rs:List Nat}{k r:Nat}(hr:rs[k]? = some r):rs.drop k=r :: rs.drop (k+1):=by
 obtain⟨hk,e⟩:=List.getElem?_eq_some_iff.1 hr
 rw[List.drop_eq_getElem_cons hk,e]
theorem jYq {rs:List Nat}{X:List Ft}{k r:Nat}(hr:rs[k]? = some r)(hn:r≠37)(h:jC2 rs=(jC2 (rs.drop k)).map (X++·)):jC2 rs=(jC2 (rs.drop (k+1))).map ((X++[⟨false,r⟩])++·):=by
 have e:∀l:List Nat,jC2 (r :: l)=(jC2 l).map (⟨false,r⟩ :: ·):=by
  intro l
  cases l with
  | nil=>simp[jC2,hn]
  | cons s l=>simp[jC2,hn]
 rw[h,jDZ hr,e,Option.map_map]
 congr 1
 funext Y
 simp
theorem jZo {rs:List Nat}{X:List Ft}{k s:Nat}(hr:rs[k]? = some 37)(hs:rs[k+1]? = some s)(hb:jNv s=true)(h:jC2 rs=(jC2 (rs.drop k)).map (X++·)):jC2 rs=(jC2 (rs.drop (k+2))).map ((X++[⟨true,s⟩])++·):=by
 rw[h,jDZ hr,jDZ hs]
 rw[jC2,if_pos rfl,if_pos hb,Option.map_map]
 congr 1
 funext Y
 simp
theorem jYu {rs:List Nat}{X:List Ft}{k s:Nat}(hr:rs[k]? = some 37)(hs:rs[k+1]? = some s)(hb:jNv s=false)(h:jC2 rs=(jC2 (rs.drop k)).map (X++·)):jC2 rs=none:=by
 rw[h,jDZ hr,jDZ hs]
 rw[jC2,if_pos rfl,if_neg (by simp[hb])]
 rfl
theorem jVU {rs:List Nat}{X:List Ft}{k:Nat}(hr:rs[k]? = some 37)(hl:rs.length≤k+1)(h:jC2 rs=(jC2 (rs.drop k)).map (X++·)):jC2 rs=none:=by
 rw[h,jDZ hr,List.drop_of_length_le hl]
 simp[jC2]
theorem jVu:(Tryz.prog.info? 208).map (fun i=>(i.zero,i.size,i.bytes))=some (some (.agg #[.bool false,.int .i32 0]),2,8):=by kernel_rfl
theorem jN8 {t:TypeId}{z:Value}{s b:Nat}(h:(Tryz.prog.info? t).map (fun i=>(i.zero,i.size,i.bytes))=some (some z,s,b)):∃i,Tryz.prog.info? t=some i∧i.zero=some z∧i.size=s∧i.bytes=b:=by
 cases hq:Tryz.prog.info? t with
 | none=>rw[hq]at h;cases h
 | some i=>rw[hq]at h;simp only[Option.map_some,Option.some.injEq,Prod.mk.injEq]at h;exact⟨i,rfl,h.1,h.2.1,h.2.2⟩
def jHb (X:List Ft):List Value:=X.flatMap fun x=>[.bool x.c,.int .i32 (x.r:Int)]
theorem jNK (X:List Ft)(c:Bool)(r:Nat):jHb (X++[⟨c,r⟩])=jHb X++[.bool c,.int .i32 (r:Int)]:=by unfold jHb;rw[List.flatMap_append];rfl
def jDW (B:Nat)(v:Value)(X:List Ft)(w:World):Prop:=w.ownsRow B 208 2 v X.length (jHb X)
theorem jDW.form {B:Nat}{v:Value}{X:List Ft}{w:World}(h:jDW B v X w):∃ao cap,v=.slice ao X.length cap:=by
 rcases h.2 with ⟨hv,h0⟩ | ⟨g,cap,cur,hv,_⟩
 ·exact⟨none,0,by rw[hv,h0]⟩
 ·exact⟨_,_,hv⟩
theorem jDW.more {B:Nat}{v:Value}{X:List Ft}{c:Bool}{r:Nat}{w:World}(hr:w.ownsRow B 208 2 v (X.length+1) (jHb X++[.bool c,.int .i32 (r:Int)])):jDW B v (X++[⟨c,r⟩]) w:=by
 unfold jDW
 rw[jNK,List.length_append,List.length_singleton]
 exact hr
theorem jDW.at {B:Nat}{v:Value}{X:List Ft}{w:World}(h:jDW B v X w):jRi w v X:=by
 refine jWS h fun i j hi hj=>?_
 unfold jHb
 rw[jLb _ 2 (fun _=>rfl) jFm X i j hi hj]
 match j,hj with
 | 0,_=>rfl
 | 1,_=>rfl
theorem jWI (w:World):jRi w (.slice none 0 0) []:=⟨none,0,rfl,by simp,by simp,fun h=>absurd h (by simp)⟩
theorem one2f (a:Bool)(c:Int):∀u ∈ ([.bool a,.int .i32 c]:List Value),u.oneCell'=true:=by intro u hu;simp at hu;rcases hu with rfl | rfl <;> rfl
theorem cell_new2' {w:World}{n:Nat}(hs:w.heap.size=n)(a b:Value)(t:TypeId):∀j u,[a,b][j]? = some u→(w.alloc (.cells #[a,b] t)).cell? ((⟨n,0,none⟩:Addr).add j)=some u:=by
 subst hs
 exact jBV _ _ _ _
def jRS (s:ByteArray)(w:World)(e:Ending)(w':World):Prop:=(∃u,e=.returned (.tuple #[u,.bool (jGm s).isSome])∧jRi w' u (items s))∧Below w.heap.size w w'
theorem jIT (s:ByteArray)(w:World)(hs:s.size≤100000):Calls Tryz.prog 87 #[.string s] w fun e w'=>jRS s w e w':=by
 obtain⟨i0,hi0,hz0,hz1,hz2⟩:=jN8 jVu
 have af:=Tryz.isAgg208
 have zf:=Tryz.sizeOf208
 obtain⟨capR,W1,cur,hcv,hb1,hbl1,jUd,jUu⟩:=jH6 s w hs
 have hrl:(jAi s).length≤s.size:=jBc _ _
 have HCU:=hid jUd
 have HB1:=hid hb1
 have HBL:=hid hbl1
 have hrs:(jAi s).length≤100000:=by omega
 have HP:=hid (show jGm s=jC2 (jAi s) from rfl)
 have HI:=hid (show items s=(jC2 (jAi s)).getD [] from rfl)
 clear jUd hbl1 hrl hb1
 generalize hrn:jAi s=rs at *
 clear hrn
 go_enter Tryz.func87,Tryz.ntmps87
 go_wp2
 go_loopw [5,6] (fun o i wr=>∃ (k:Nat) (X:List Ft),k≤rs.length∧i=.int .i64 k∧X.length≤k∧Hid (jC2 rs=(jC2 (rs.drop k)).map (X++·))∧Hid (jDW w.heap.size o X wr)∧Hid (wr.heap[w.heap.size]? = some (.cells cur 21 (0,0)))∧Hid (Below w.heap.size w wr)) (fun _ i _=>rs.length-(RowKit.intOf i).toNat)
 case atStart=>exact⟨0,[],Nat.zero_le _,rfl,Nat.le_refl _,show jC2 rs=_ by simp,show jDW _ _ _ _ from World.ownsRow_nil _ _ _ _,HBL.out,HB1.out⟩
 case round =>
  obtain⟨k,X,hk,rfl,hXk,HF,HO,HR,HB⟩:=hrel
  have jEg:=HB.out.size
  have hbk:=lt_of_block HR.out
  by_cases hlt:k<rs.length
  ·have hr:rs[k]? = some rs[k]:=List.getElem?_eq_getElem hlt
   have ck:=(Lib.cell_of_heap HR.out k).trans (HCU.out k _ hr)
   have HRR:=hid hr
   have hki:(k:Int)<(rs.length:Int):=by omega
   have hk0:(0:Int)≤(k:Int):=by omega
   generalize rs[k]=r at hr ck HRR
   clear hr
   obtain⟨ao,ca,hfo⟩:=HO.out.form
   subst hfo
   have jBU:=HO.out
   unfold jDW at jBU
   have HK2:=hid jBU
   have q1:=hid (show X.length+1≤maxLen by unfold maxLen;omega)
   have q2:=hid (show (X.length+1)*8≤140737488355328 by omega)
   clear jBU HO
   by_cases h37:r=37
   ·subst h37
    by_cases hl2:k+1<rs.length
    ·have hr2:rs[k+1]? = some rs[k+1]:=List.getElem?_eq_getElem hl2
     have ck2:=(Lib.cell_of_heap HR.out (k+1)).trans (HCU.out (k+1) _ hr2)
     have HR2:=hid hr2
     have hk2:((k+1:Nat):Int)<(rs.length:Int):=by omega
     have hk20:(0:Int)≤((k+1:Nat):Int):=by omega
     have hkn:¬((k+1:Nat):Int)=(rs.length:Int):=by omega
     have hq:IntKind.i64.wrap ((k:Int)+1)=((k+1:Nat):Int):=by rw[IntKind.wrap_i64];omega
     have hq2:IntKind.i64.wrap (((k+1:Nat):Int)+1)=((k+2:Nat):Int):=by rw[IntKind.wrap_i64];omega
     generalize hk1:k+1=k1 at *
     generalize rs[k1]=s1 at hr2 ck2 HR2
     clear hr2
     by_cases hs1:jNv s1=true
     ·have HF2:=hid (jZo HRR.out (hk1▸HR2.out) hs1 HF.out)
      unfold jNv at hs1
      simp only[Bool.or_eq_true,decide_eq_true_eq]at hs1
      have hs2:s1=97∨s1=117∨s1=108∨s1=100∨s1=115∨s1=112∨s1=104∨s1=46∨s1=37∨s1=98:=by omega
      clear hs1
      rcases hs2 with rfl | rfl | rfl | rfl | rfl | rfl | rfl | rfl | rfl | rfl
      ·go_wp2_with (first
        | (at_builtin;refine wpList_append_own _ rfl _ _ 151 rfl w.heap.size 208 i0 _ 2 8 Tryz.underlying151 hi0 hz0 hz1 hz2 rfl (by decide) _ _ _ rfl ((HK2.out.alloc _).alloc _) ⟨wr.heap.size+1,0,none⟩ 1 1 [.bool true,.int .i32 97] rfl rfl (cell_new2' (by simp) _ _ _) (one2f _ _) q1.out q2.out (by simp;omega) ?_;intro v3 w3 jAP jAl jBs
           have HR6:=hid (show w3.heap[w.heap.size]? = some (.cells cur 21 (0,0)) by
            have d3:=(Below.heap_alloc wr (.cells #[.bool true,.int .i32 97] 208) _ (lt_of_block HR.out)).trans HR.out
            have d4:=(Below.heap_alloc (wr.alloc (.cells #[.bool true,.int .i32 97] 208)) (.cells #[.bool true,.int .i32 97] 208) _ (lt_of_block d3)).trans d3
            rw[jAl.block w.heap.size (lt_of_block d4) (fun e=>jBu ((HK2.out.alloc _).alloc _) d4 (by decide) e.symm)]
            exact d4)
           have HB3:=hid (((HB.out.alloc jEg _).alloc (by simp;omega) _).grown jAl (by simp;omega) (fun k hk=>(HK2.out.lt k hk).1))
           have HK3:=hid (jDW.more (r:=97) jAP)
           clear jAP jAl jBs))
       go_roundw
       case rel=>exact⟨k+2,X++[(⟨true,97⟩:Ft)],by omega,by go_num,by simp;omega,HF2.out,HK3.out,HR6.out,HB3.out⟩
       case measure=>simp[RowKit.intOf];omega
      ·go_wp2_with (first
        | (at_builtin;refine wpList_append_own _ rfl _ _ 151 rfl w.heap.size 208 i0 _ 2 8 Tryz.underlying151 hi0 hz0 hz1 hz2 rfl (by decide) _ _ _ rfl ((HK2.out.alloc _).alloc _) ⟨wr.heap.size+1,0,none⟩ 1 1 [.bool true,.int .i32 117] rfl rfl (cell_new2' (by simp) _ _ _) (one2f _ _) q1.out q2.out (by simp;omega) ?_;intro v3 w3 jAP jAl jBs
           have HR6:=hid (show w3.heap[w.heap.size]? = some (.cells cur 21 (0,0)) by
            have d3:=(Below.heap_alloc wr (.cells #[.bool true,.int .i32 117] 208) _ (lt_of_block HR.out)).trans HR.out
            have d4:=(Below.heap_alloc (wr.alloc (.cells #[.bool true,.int .i32 117] 208)) (.cells #[.bool true,.int .i32 117] 208) _ (lt_of_block d3)).trans d3
            rw[jAl.block w.heap.size (lt_of_block d4) (fun e=>jBu ((HK2.out.alloc _).alloc _) d4 (by decide) e.symm)]
            exact d4)
           have HB3:=hid (((HB.out.alloc jEg _).alloc (by simp;omega) _).grown jAl (by simp;omega) (fun k hk=>(HK2.out.lt k hk).1))
           have HK3:=hid (jDW.more (r:=117) jAP)
           clear jAP jAl jBs))
       go_roundw
       case rel=>exact⟨k+2,X++[(⟨true,117⟩:Ft)],by omega,by go_num,by simp;omega,HF2.out,HK3.out,HR6.out,HB3.out⟩
       case measure=>simp[RowKit.intOf];omega
      ·go_wp2_with (first
        | (at_builtin;refine wpList_append_own _ rfl _ _ 151 rfl w.heap.size 208 i0 _ 2 8 Tryz.underlying151 hi0 hz0 hz1 hz2 rfl (by decide) _ _ _ rfl ((HK2.out.alloc _).alloc _) ⟨wr.heap.size+1,0,none⟩ 1 1 [.bool true,.int .i32 108] rfl rfl (cell_new2' (by simp) _ _ _) (one2f _ _) q1.out q2.out (by simp;omega) ?_;intro v3 w3 jAP jAl jBs
           have HR6:=hid (show w3.heap[w.heap.size]? = some (.cells cur 21 (0,0)) by
            have d3:=(Below.heap_alloc wr (.cells #[.bool true,.int .i32 108] 208) _ (lt_of_block HR.out)).trans HR.out
            have d4:=(Below.heap_alloc (wr.alloc (.cells #[.bool true,.int .i32 108] 208)) (.cells #[.bool true,.int .i32 108] 208) _ (lt_of_block d3)).trans d3
            rw[jAl.block w.heap.size (lt_of_block d4) (fun e=>jBu ((HK2.out.alloc _).alloc _) d4 (by decide) e.symm)]
            exact d4)
           have HB3:=hid (((HB.out.alloc jEg _).alloc (by simp;omega) _).grown jAl (by simp;omega) (fun k hk=>(HK2.out.lt k hk).1))
           have HK3:=hid (jDW.more (r:=108) jAP)
           clear jAP jAl jBs))
       go_roundw
       case rel=>exact⟨k+2,X++[(⟨true,108⟩:Ft)],by omega,by go_num,by simp;omega,HF2.out,HK3.out,HR6.out,HB3.out⟩
       case measure=>simp[RowKit.intOf];omega
      ·go_wp2_with (first
        | (at_builtin;refine wpList_append_own _ rfl _ _ 151 rfl w.heap.size 208 i0 _ 2 8 Tryz.underlying151 hi0 hz0 hz1 hz2 rfl (by decide) _ _ _ rfl ((HK2.out.alloc _).alloc _) ⟨wr.heap.size+1,0,none⟩ 1 1 [.bool true,.int .i32 100] rfl rfl (cell_new2' (by simp) _ _ _) (one2f _ _) q1.out q2.out (by simp;omega) ?_;intro v3 w3 jAP jAl jBs
           have HR6:=hid (show w3.heap[w.heap.size]? = some (.cells cur 21 (0,0)) by
            have d3:=(Below.heap_alloc wr (.cells #[.bool true,.int .i32 100] 208) _ (lt_of_block HR.out)).trans HR.out
            have d4:=(Below.heap_alloc (wr.alloc (.cells #[.bool true,.int .i32 100] 208)) (.cells #[.bool true,.int .i32 100] 208) _ (lt_of_block d3)).trans d3
            rw[jAl.block w.heap.size (lt_of_block d4) (fun e=>jBu ((HK2.out.alloc _).alloc _) d4 (by decide) e.symm)]
            exact d4)
           have HB3:=hid (((HB.out.alloc jEg _).alloc (by simp;omega) _).grown jAl (by simp;omega) (fun k hk=>(HK2.out.lt k hk).1))
           have HK3:=hid (jDW.more (r:=100) jAP)
           clear jAP jAl jBs))
       go_roundw
       case rel=>exact⟨k+2,X++[(⟨true,100⟩:Ft)],by omega,by go_num,by simp;omega,HF2.out,HK3.out,HR6.out,HB3.out⟩
       case measure=>simp[RowKit.intOf];omega
      ·go_wp2_with (first
        | (at_builtin;refine wpList_append_own _ rfl _ _ 151 rfl w.heap.size 208 i0 _ 2 8 Tryz.underlying151 hi0 hz0 hz1 hz2 rfl (by decide) _ _ _ rfl ((HK2.out.alloc _).alloc _) ⟨wr.heap.size+1,0,none⟩ 1 1 [.bool true,.int .i32 115] rfl rfl (cell_new2' (by simp) _ _ _) (one2f _ _) q1.out q2.out (by simp;omega) ?_;intro v3 w3 jAP jAl jBs
           have HR6:=hid (show w3.heap[w.heap.size]? = some (.cells cur 21 (0,0)) by
            have d3:=(Below.heap_alloc wr (.cells #[.bool true,.int .i32 115] 208) _ (lt_of_block HR.out)).trans HR.out
            have d4:=(Below.heap_alloc (wr.alloc (.cells #[.bool true,.int .i32 115] 208)) (.cells #[.bool true,.int .i32 115] 208) _ (lt_of_block d3)).trans d3
            rw[jAl.block w.heap.size (lt_of_block d4) (fun e=>jBu ((HK2.out.alloc _).alloc _) d4 (by decide) e.symm)]
            exact d4)
           have HB3:=hid (((HB.out.alloc jEg _).alloc (by simp;omega) _).grown jAl (by simp;omega) (fun k hk=>(HK2.out.lt k hk).1))
           have HK3:=hid (jDW.more (r:=115) jAP)
           clear jAP jAl jBs))
       go_roundw
       case rel=>exact⟨k+2,X++[(⟨true,115⟩:Ft)],by omega,by go_num,by simp;omega,HF2.out,HK3.out,HR6.out,HB3.out⟩
       case measure=>simp[RowKit.intOf];omega
      ·go_wp2_with (first
        | (at_builtin;refine wpList_append_own _ rfl _ _ 151 rfl w.heap.size 208 i0 _ 2 8 Tryz.underlying151 hi0 hz0 hz1 hz2 rfl (by decide) _ _ _ rfl ((HK2.out.alloc _).alloc _) ⟨wr.heap.size+1,0,none⟩ 1 1 [.bool true,.int .i32 112] rfl rfl (cell_new2' (by simp) _ _ _) (one2f _ _) q1.out q2.out (by simp;omega) ?_;intro v3 w3 jAP jAl jBs
           have HR6:=hid (show w3.heap[w.heap.size]? = some (.cells cur 21 (0,0)) by
            have d3:=(Below.heap_alloc wr (.cells #[.bool true,.int .i32 112] 208) _ (lt_of_block HR.out)).trans HR.out
            have d4:=(Below.heap_alloc (wr.alloc (.cells #[.bool true,.int .i32 112] 208)) (.cells #[.bool true,.int .i32 112] 208) _ (lt_of_block d3)).trans d3
            rw[jAl.block w.heap.size (lt_of_block d4) (fun e=>jBu ((HK2.out.alloc _).alloc _) d4 (by decide) e.symm)]
            exact d4)
           have HB3:=hid (((HB.out.alloc jEg _).alloc (by simp;omega) _).grown jAl (by simp;omega) (fun k hk=>(HK2.out.lt k hk).1))
           have HK3:=hid (jDW.more (r:=112) jAP)
           clear jAP jAl jBs))
       go_roundw
       case rel=>exact⟨k+2,X++[(⟨true,112⟩:Ft)],by omega,by go_num,by simp;omega,HF2.out,HK3.out,HR6.out,HB3.out⟩
       case measure=>simp[RowKit.intOf];omega
      ·go_wp2_with (first
        | (at_builtin;refine wpList_append_own _ rfl _ _ 151 rfl w.heap.size 208 i0 _ 2 8 Tryz.underlying151 hi0 hz0 hz1 hz2 rfl (by decide) _ _ _ rfl ((HK2.out.alloc _).alloc _) ⟨wr.heap.size+1,0,none⟩ 1 1 [.bool true,.int .i32 104] rfl rfl (cell_new2' (by simp) _ _ _) (one2f _ _) q1.out q2.out (by simp;omega) ?_;intro v3 w3 jAP jAl jBs
           have HR6:=hid (show w3.heap[w.heap.size]? = some (.cells cur 21 (0,0)) by
            have d3:=(Below.heap_alloc wr (.cells #[.bool true,.int .i32 104] 208) _ (lt_of_block HR.out)).trans HR.out
            have d4:=(Below.heap_alloc (wr.alloc (.cells #[.bool true,.int .i32 104] 208)) (.cells #[.bool true,.int .i32 104] 208) _ (lt_of_block d3)).trans d3
            rw[jAl.block w.heap.size (lt_of_block d4) (fun e=>jBu ((HK2.out.alloc _).alloc _) d4 (by decide) e.symm)]
            exact d4)
           have HB3:=hid (((HB.out.alloc jEg _).alloc (by simp;omega) _).grown jAl (by simp;omega) (fun k hk=>(HK2.out.lt k hk).1))
           have HK3:=hid (jDW.more (r:=104) jAP)
           clear jAP jAl jBs))
       go_roundw
       case rel=>exact⟨k+2,X++[(⟨true,104⟩:Ft)],by omega,by go_num,by simp;omega,HF2.out,HK3.out,HR6.out,HB3.out⟩
       case measure=>simp[RowKit.intOf];omega
      ·go_wp2_with (first
        | (at_builtin;refine wpList_append_own _ rfl _ _ 151 rfl w.heap.size 208 i0 _ 2 8 Tryz.underlying151 hi0 hz0 hz1 hz2 rfl (by decide) _ _ _ rfl ((HK2.out.alloc _).alloc _) ⟨wr.heap.size+1,0,none⟩ 1 1 [.bool true,.int .i32 46] rfl rfl (cell_new2' (by simp) _ _ _) (one2f _ _) q1.out q2.out (by simp;omega) ?_;intro v3 w3 jAP jAl jBs
           have HR6:=hid (show w3.heap[w.heap.size]? = some (.cells cur 21 (0,0)) by
            have d3:=(Below.heap_alloc wr (.cells #[.bool true,.int .i32 46] 208) _ (lt_of_block HR.out)).trans HR.out
            have d4:=(Below.heap_alloc (wr.alloc (.cells #[.bool true,.int .i32 46] 208)) (.cells #[.bool true,.int .i32 46] 208) _ (lt_of_block d3)).trans d3
            rw[jAl.block w.heap.size (lt_of_block d4) (fun e=>jBu ((HK2.out.alloc _).alloc _) d4 (by decide) e.symm)]
            exact d4)
           have HB3:=hid (((HB.out.alloc jEg _).alloc (by simp;omega) _).grown jAl (by simp;omega) (fun k hk=>(HK2.out.lt k hk).1))
           have HK3:=hid (jDW.more (r:=46) jAP)
           clear jAP jAl jBs))
       go_roundw
       case rel=>exact⟨k+2,X++[(⟨true,46⟩:Ft)],by omega,by go_num,by simp;omega,HF2.out,HK3.out,HR6.out,HB3.out⟩
       case measure=>simp[RowKit.intOf];omega
      ·go_wp2_with (first
        | (at_builtin;refine wpList_append_own _ rfl _ _ 151 rfl w.heap.size 208 i0 _ 2 8 Tryz.underlying151 hi0 hz0 hz1 hz2 rfl (by decide) _ _ _ rfl ((HK2.out.alloc _).alloc _) ⟨wr.heap.size+1,0,none⟩ 1 1 [.bool true,.int .i32 37] rfl rfl (cell_new2' (by simp) _ _ _) (one2f _ _) q1.out q2.out (by simp;omega) ?_;intro v3 w3 jAP jAl jBs
           have HR6:=hid (show w3.heap[w.heap.size]? = some (.cells cur 21 (0,0)) by
            have d3:=(Below.heap_alloc wr (.cells #[.bool true,.int .i32 37] 208) _ (lt_of_block HR.out)).trans HR.out
            have d4:=(Below.heap_alloc (wr.alloc (.cells #[.bool true,.int .i32 37] 208)) (.cells #[.bool true,.int .i32 37] 208) _ (lt_of_block d3)).trans d3
            rw[jAl.block w.heap.size (lt_of_block d4) (fun e=>jBu ((HK2.out.alloc _).alloc _) d4 (by decide) e.symm)]
            exact d4)
           have HB3:=hid (((HB.out.alloc jEg _).alloc (by simp;omega) _).grown jAl (by simp;omega) (fun k hk=>(HK2.out.lt k hk).1))
           have HK3:=hid (jDW.more (r:=37) jAP)
           clear jAP jAl jBs))
       go_roundw
       case rel=>exact⟨k+2,X++[(⟨true,37⟩:Ft)],by omega,by go_num,by simp;omega,HF2.out,HK3.out,HR6.out,HB3.out⟩
       case measure=>simp[RowKit.intOf];omega
      ·go_wp2_with (first
        | (at_builtin;refine wpList_append_own _ rfl _ _ 151 rfl w.heap.size 208 i0 _ 2 8 Tryz.underlying151 hi0 hz0 hz1 hz2 rfl (by decide) _ _ _ rfl ((HK2.out.alloc _).alloc _) ⟨wr.heap.size+1,0,none⟩ 1 1 [.bool true,.int .i32 98] rfl rfl (cell_new2' (by simp) _ _ _) (one2f _ _) q1.out q2.out (by simp;omega) ?_;intro v3 w3 jAP jAl jBs
           have HR6:=hid (show w3.heap[w.heap.size]? = some (.cells cur 21 (0,0)) by
            have d3:=(Below.heap_alloc wr (.cells #[.bool true,.int .i32 98] 208) _ (lt_of_block HR.out)).trans HR.out
            have d4:=(Below.heap_alloc (wr.alloc (.cells #[.bool true,.int .i32 98] 208)) (.cells #[.bool true,.int .i32 98] 208) _ (lt_of_block d3)).trans d3
            rw[jAl.block w.heap.size (lt_of_block d4) (fun e=>jBu ((HK2.out.alloc _).alloc _) d4 (by decide) e.symm)]
            exact d4)
           have HB3:=hid (((HB.out.alloc jEg _).alloc (by simp;omega) _).grown jAl (by simp;omega) (fun k hk=>(HK2.out.lt k hk).1))
           have HK3:=hid (jDW.more (r:=98) jAP)
           clear jAP jAl jBs))
       go_roundw
       case rel=>exact⟨k+2,X++[(⟨true,98⟩:Ft)],by omega,by go_num,by simp;omega,HF2.out,HK3.out,HR6.out,HB3.out⟩
       case measure=>simp[RowKit.intOf];omega
     ·have hs1':jNv s1=false:=by simpa using hs1
      have HN:=hid (jYu HRR.out (hk1▸HR2.out) hs1' HF.out)
      unfold jNv at hs1'
      simp only[Bool.or_eq_false_iff,decide_eq_false_iff_not]at hs1'
      have n1:¬(s1:Int)=97:=by omega
      have n2:¬(s1:Int)=117:=by omega
      have n3:¬(s1:Int)=108:=by omega
      have n4:¬(s1:Int)=100:=by omega
      have n5:¬(s1:Int)=115:=by omega
      have n6:¬(s1:Int)=112:=by omega
      have n7:¬(s1:Int)=104:=by omega
      have n8:¬(s1:Int)=46:=by omega
      have n9:¬(s1:Int)=37:=by omega
      have n10:¬(s1:Int)=98:=by omega
      clear hs1 hs1'
      go_wp2
      go_ret2
      exact⟨⟨_,by rw[HP.out,HN.out];rfl,by rw[HI.out,HN.out];exact jWI _⟩,HB.out.alloc jEg _⟩
    ·have hq:IntKind.i64.wrap ((k:Int)+1)=(rs.length:Int):=by rw[IntKind.wrap_i64];omega
     have HN:=hid (jVU HRR.out (by omega) HF.out)
     go_wp2
     go_ret2
     exact⟨⟨_,by rw[HP.out,HN.out];rfl,by rw[HI.out,HN.out];exact jWI _⟩,HB.out.alloc jEg _⟩
   ·have h37I:¬(r:Int)=37:=by omega
    have HF2:=hid (jYq HRR.out h37 HF.out)
    have hX2:(X++[(⟨false,r⟩:Ft)]).length≤k+1:=by rw[List.length_append,List.length_singleton];omega
    have HX2:=hid hX2
    clear hX2
    go_wp2_with (first
     | (at_builtin;refine wpList_append_own _ rfl _ _ 151 rfl w.heap.size 208 i0 _ 2 8 Tryz.underlying151 hi0 hz0 hz1 hz2 rfl (by decide) _ _ _ rfl ((HK2.out.alloc _).alloc _) ⟨wr.heap.size+1,0,none⟩ 1 1 [.bool false,.int .i32 (r:Int)] rfl rfl (cell_new2' (by simp) _ _ _) (one2f _ _) q1.out q2.out (by simp;omega) ?_;intro v3 w3 jAP jAl jBs
        have HR6:=hid (show w3.heap[w.heap.size]? = some (.cells cur 21 (0,0)) by
         have d3:=(Below.heap_alloc wr (.cells #[.bool false,.int .i32 (r:Int)] 208) _ (lt_of_block HR.out)).trans HR.out
         have d4:=(Below.heap_alloc (wr.alloc (.cells #[.bool false,.int .i32 (r:Int)] 208)) (.cells #[.bool false,.int .i32 (r:Int)] 208) _ (lt_of_block d3)).trans d3
         rw[jAl.block w.heap.size (lt_of_block d4) (fun e=>jBu ((HK2.out.alloc _).alloc _) d4 (by decide) e.symm)]
         exact d4)
        have HB3:=hid (((HB.out.alloc jEg _).alloc (by simp;omega) _).grown jAl (by simp;omega) (fun k hk=>(HK2.out.lt k hk).1))
        have HK3:=hid (jDW.more jAP)
        clear jAP jAl jBs))
    go_roundw
    case rel=>exact⟨k+1,X++[(⟨false,r⟩:Ft)],by omega,by go_num,HX2.out,HF2.out,HK3.out,HR6.out,HB3.out⟩
    case measure=>simp[RowKit.intOf];omega
  ·have hki:¬(k:Int)<(rs.length:Int):=by omega
   have HE:=hid (jX2 (by omega) HF.out)
   have HA:=hid HO.out.at
   obtain⟨ao,ca,hfo⟩:=HO.out.form
   subst hfo
   go_wp2
   go_ret2
   exact⟨⟨_,by rw[HP.out,HE.out];rfl,by rw[HI.out,HE.out];exact HA.out⟩,HB.out⟩
end Go.Proofs.YtldapapdolkiaaaGreatDoor
namespace Go.Proofs.YtldapapdolkiaaaGreatDoor
set_option maxHeartbeats 64000000
open Go Go.RowKit Go.Lib
set_option maxRecDepth 100000
theorem jIY (w:World)(n:Nat):Below w.heap.size w (w.drewN n):=⟨rfl,rfl,rfl,Nat.le_refl _,fun _ _=>rfl⟩
theorem jPp {X:List Ft}{k:Nat}(h:k<X.length):X.drop k=X.getD k jFm :: X.drop (k+1):=by
 rw[List.drop_eq_getElem_cons h,List.getD_eq_getElem?_getD,List.getElem?_eq_getElem h]
 rfl
theorem jUN {L:List Un}{X:List Ft}{p k:Nat}(hk:k<X.length)(hx:jGR (X.getD k jFm)=true):jEf L p (X.drop k)=(jDX L p && jEf L p (X.drop (k+1))):=by
 rw[jPp hk,jEf,if_pos hx]
theorem jXm {L:List Un}{X:List Ft}{p k:Nat}(hk:k<X.length)(hx:jGR (X.getD k jFm)=false):jEf L p (X.drop k)=(decide (p<L.length) && jCC (X.getD k jFm) (L.getD p jFs) && jEf L (p+1) (X.drop (k+1))):=by
 rw[jPp hk,jEf,if_neg (fun h=>by rw[hx]at h;cases h)]
theorem jIn (L:List Un)(X:List Ft)(v vx:Value)(p:Nat)(w:World)(hU:jRy w v L)(hX:jRi w vx X)(hp:p≤L.length)(hm:L.length≤1000000)(_hl:X.length≤100000) :
 Calls Tryz.prog 151 #[v,.int .i64 (p:Int),vx] w fun e w'=>e=.returned (.bool (jEf L p X))∧Below w.heap.size w w':=by
 have HU:=hid hU
 have HX:=hid hX
 obtain⟨q,cap,rfl,hlc,hc⟩:=hU.form
 obtain⟨qx,capx,rfl,hlx,hcx⟩:=hX.form
 unfold maxLen at hc hcx
 have au:=Tryz.isAgg190
 have zu:=Tryz.sizeOf190
 have af:=Tryz.isAgg208
 have zf:=Tryz.sizeOf208
 clear hU hX
 go_enter Tryz.func151,Tryz.ntmps151
 go_wp2
 go_loopw [1,7] (fun a i wr=>∃k p':Nat,i=.int .i64 k∧a=.int .i64 p'∧k≤X.length∧p'≤L.length∧Hid (jEf L p X=jEf L p' (X.drop k))∧Hid (Below w.heap.size w wr)) (fun _ i _=>X.length-(RowKit.intOf i).toNat)
 case atStart=>exact⟨0,p,rfl,rfl,Nat.zero_le _,hp,rfl,Below.refl _ _⟩
 case round =>
  obtain⟨k,p',rfl,rfl,hk,hp',HF,HB⟩:=hrel
  by_cases hlt:k<X.length
  ·have hki:(k:Int)<(X.length:Int):=by omega
   have hk0:(0:Int)≤(k:Int):=by omega
   have hp0:(0:Int)≤(p':Int):=by omega
   obtain⟨A,rfl,x0,x1⟩:=(HX.out.step HB.out).get hlt
   have hUr:=HU.out.step HB.out
   by_cases hI:jGR (X.getD k jFm)=true
   ·have HE:=hid (jUN (L:=L) (p:=p') hlt hI)
    have cE:=jTV L _ p' wr hUr hp' hm
    have hI2:(X.getD k jFm).c=true∧(X.getD k jFm).r=98:=by
     unfold jGR at hI
     simpa using hI
    obtain⟨hc1,hr1⟩:=hI2
    rw[hc1]at x0
    rw[hr1]at x1
    clear hI hUr hc1 hr1
    cases hz:jDX L p'
    ·rw[hz]at cE HE
     have HE2:=hid (show jEf L p X=false by rw[HF.out,HE.out];rfl)
     go_wp2_with (go_at_call 175;(with_reducible refine cE.mono ?_);rintro e w2 ⟨rfl,hb2⟩;have HB2:=hid (jAa HB.out hb2);clear hb2)
     go_ret
     exact⟨by rw[HE2.out];rfl,HB2.out⟩
    ·rw[hz]at cE HE
     have HE2:=hid (show jEf L p X=jEf L p' (X.drop (k+1)) by rw[HF.out,HE.out];rfl)
     go_wp2_with (go_at_call 175;(with_reducible refine cE.mono ?_);rintro e w2 ⟨rfl,hb2⟩;have HB2:=hid (jAa HB.out hb2);clear hb2)
     go_roundw
     case rel=>exact⟨k+1,p',by go_num,rfl,by omega,hp',HE2.out,HB2.out⟩
     case measure=>simp[RowKit.intOf];omega
   ·have hI':jGR (X.getD k jFm)=false:=by simpa using hI
    have HE:=hid (jXm (L:=L) (p:=p') hlt hI')
    have hI2:(X.getD k jFm).c=false∨((X.getD k jFm).c=true∧¬((X.getD k jFm).r:Int)=98):=by
     unfold jGR at hI'
     rw[Bool.and_eq_false_iff]at hI'
     cases hc:(X.getD k jFm).c
     ·exact .inl rfl
     ·rw[hc]at hI'
      refine .inr ⟨rfl,?_⟩
      rcases hI' with h | h
      ·cases h
      ·have:=of_decide_eq_false h;omega
    clear hI hI'
    by_cases hpl:p'<L.length
    ·have hpi:(p':Int)<(L.length:Int):=by omega
     have hpg:¬(L.length:Int)≤(p':Int):=by omega
     have hpd:decide ((L.length:Int)≤(p':Int))=false:=by simpa using hpg
     obtain⟨A2,rfl,hA2,y0,y1⟩:=hUr.get hpl
     have cO:=fun w'=>jVf (X.getD k jFm) (L.getD p' jFs) w'
     have HD:=hid (show decide (p'<L.length)=true by simpa using hpl)
     unfold suV at cO
     clear hUr
     generalize X.getD k jFm=x at *
     generalize L.getD p' jFs=u at *
     obtain⟨c,r⟩:=x
     dsimp only at x0 x1 cO hI2
     cases hz:jCC ⟨c,r⟩ u
     ·rw[hz]at cO HE
      have HE2:=hid (show jEf L p X=false by rw[HF.out,HE.out,HD.out];rfl)
      clear hz
      rcases hI2 with rfl | ⟨rfl,hr⟩
      all_goals
       go_wp2
       go_still_tail 13,(by kernel_rfl)
       go_wp2_with (go_at_call 176;(with_reducible refine (cO _).mono ?_);rintro e w2 ⟨rfl,hb2⟩;have HB2:=hid (jAa HB.out (jBd hb2));clear hb2)
       go_ret
       exact⟨by rw[HE2.out];rfl,HB2.out⟩
     ·rw[hz]at cO HE
      have HE2:=hid (show jEf L p X=jEf L (p'+1) (X.drop (k+1)) by rw[HF.out,HE.out,HD.out];simp)
      clear hz
      rcases hI2 with rfl | ⟨rfl,hr⟩
      all_goals
       go_wp2
       go_still_tail 13,(by kernel_rfl)
       go_wp2_with (go_at_call 176;(with_reducible refine (cO _).mono ?_);rintro e w2 ⟨rfl,hb2⟩;have HB2:=hid (jAa HB.out (jBd hb2));clear hb2)
       go_roundw
       case rel=>exact⟨k+1,p'+1,by go_num,by go_num,by omega,by omega,HE2.out,HB2.out⟩
       case measure=>simp[RowKit.intOf];omega
    ·have hpg:(L.length:Int)≤(p':Int):=by omega
     have hpd:decide ((L.length:Int)≤(p':Int))=true:=by simpa using hpg
     have HE2:=hid (show jEf L p X=false by rw[HF.out,HE.out,show decide (p'<L.length)=false by simpa using hpl];rfl)
     clear hUr
     generalize X.getD k jFm=x at *
     obtain⟨c,r⟩:=x
     dsimp only at x0 x1 hI2
     rcases hI2 with rfl | ⟨rfl,hr⟩
     all_goals
      go_wp2
      go_quiet (fail)
      go_wp2
      go_ret
      exact⟨by rw[HE2.out];rfl,jAa HB.out (jIY _ _)⟩
  ·have hki:¬(k:Int)<(X.length:Int):=by omega
   have HE:=hid (show jEf L p X=true by rw[HF.out,List.drop_of_length_le (by omega)];rfl)
   go_wp2
   go_ret
   exact⟨by rw[HE.out];rfl,HB.out⟩
end Go.Proofs.YtldapapdolkiaaaGreatDoor
namespace Go.Proofs.YtldapapdolkiaaaGreatDoor
set_option maxHeartbeats 64000000
open Go Go.RowKit Go.Lib
set_option maxRecDepth 100000
theorem jP8 {s:ByteArray}(h:jGm s=none):jDz s=4:=by
 unfold jDz
 split
 ·rfl
 ·rw[h]
theorem jKt {s:ByteArray}(h:jBK s=false):jDz s=4:=by unfold jDz;rw[if_pos h]
theorem jPl {s:ByteArray}{X:List Ft}(ht:jBK s=true)(h:jGm s=some X)(hl:32<X.length):jDz s=3:=by
 unfold jDz
 rw[if_neg (by simp[ht]),h]
 dsimp only
 rw[if_pos hl]
theorem jU8 {s:ByteArray}{X:List Ft}(ht:jBK s=true)(h:jGm s=some X)(hl:¬32<X.length):jDz s=0:=by
 unfold jDz
 rw[if_neg (by simp[ht]),h]
 dsimp only
 rw[if_neg hl]
theorem jQT {s:ByteArray}{X:List Ft}(h:jGm s=some X):items s=X:=by unfold items;rw[h];rfl
theorem jOu:∀ (rs:List Nat) (X:List Ft),jC2 rs=some X→X.length≤rs.length
 | [],X,h=>by simp[jC2]at h;subst h;simp
 | [r],X,h=>by
   unfold jC2 at h
   split at h
   ·cases h
   ·injection h with h;subst h;simp
 | r :: s :: l,X,h=>by
   unfold jC2 at h
   split at h
   ·split at h
    ·cases hq:jC2 l with
     | none=>rw[hq]at h;cases h
     | some Y =>
       rw[hq]at h
       injection h with h;subst h
       have:=jOu l Y hq
       simp;omega
    ·cases h
   ·cases hq:jC2 (s :: l) with
    | none=>rw[hq]at h;cases h
    | some Y =>
      rw[hq]at h
      injection h with h;subst h
      have:=jOu (s :: l) Y hq
      simp at this ⊢;omega
theorem jIC (s:ByteArray):(items s).length≤s.size:=by
 have hr:(jAi s).length≤s.size:=jBc _ _
 unfold items
 cases h:jGm s with
 | none=>simp
 | some X=>exact Nat.le_trans (jOu _ _ h) hr
def two (b a:ByteArray)(j:Nat):ByteArray:=if j=0 then b else a
theorem jVm {w:World}{g t:Nat}{b a:ByteArray}(h:w.heap[g]? = some (.cells #[.string b,.string a] t (0,0))){j:Nat}(hj:j<2):w.cell? ⟨g,j,none⟩=some (.string (two b a j)):=by
 obtain rfl | rfl:j=0∨j=1:=by omega
 ·exact (Lib.cell_of_heap h 0).trans rfl
 ·exact (Lib.cell_of_heap h 1).trans rfl
theorem jSm {b a:ByteArray}{k:Bool}{j:Nat}(hj:j<2)(h:∀i,i<j→jDz (two b a i)=0)(he:jDz (two b a j)≠0):rlE ⟨b,a,k⟩=jDz (two b a j):=by
 obtain rfl | rfl:j=0∨j=1:=by omega
 ·have he':jDz b≠0:=he
  unfold rlE;dsimp only;rw[if_pos he'];rfl
 ·have h0:jDz b=0:=h 0 (by omega)
  unfold rlE;dsimp only;rw[if_neg (by simp[h0])];rfl
theorem jWg {b a:ByteArray}{k:Bool}(h:∀i,i<2→jDz (two b a i)=0):rlE ⟨b,a,k⟩=0:=by
 have h0:jDz b=0:=h 0 (by omega)
 have h1:jDz a=0:=h 1 (by omega)
 unfold rlE;dsimp only;rw[if_neg (by simp[h0])];exact h1
theorem jED (R:List Rl)(v:Value)(w:World)(hv:jB5 w v R)(hz:SzR R):Calls Tryz.prog 41 #[v] w fun e w'=>e=.returned (.int .u8 (jDw R))∧Below w.heap.size w w':=by
 have ar:=Tryz.isAgg72
 have zr:=Tryz.sizeOf72
 have HV:=hid hv
 obtain⟨p,cap,rfl,hl,hc,jA4⟩:=hv
 clear jA4
 unfold maxLen at hc
 by_cases hE:64<R.length
 ·have hEI:(64:Int)<(R.length:Int):=by omega
  have HE:=hid (show jDw R=3 by unfold jDw;rw[if_pos hE])
  go_enter Tryz.func41,Tryz.ntmps41
  go_wp2
  go_ret
  exact⟨by rw[HE.out];rfl,Below.refl _ _⟩
 ·have hEI:¬(64:Int)<(R.length:Int):=by omega
  have jZ9:R.length≤64:=by omega
  have HZ:=hid (hz jZ9)
  clear hz
  go_enter Tryz.func41,Tryz.ntmps41
  go_wp2
  go_loopw [3] (fun i wr=>∃k:Nat,i=.int .i64 k∧k≤R.length∧Hid (jE7 R k=0)∧Hid (Below w.heap.size w wr)) (fun i _=>R.length-(RowKit.intOf i).toNat)
  case atStart=>exact⟨0,rfl,Nat.zero_le _,rfl,Below.refl _ _⟩
  case round =>
   obtain⟨k,rfl,hk,HS,HB⟩:=hrel
   by_cases hlt:k<R.length
   ·have hki:(k:Int)<(R.length:Int):=by omega
    have hk0:(0:Int)≤(k:Int):=by omega
    obtain⟨A,rfl,x0,x1,x2⟩:=(HV.out.step HB.out).get hlt
    have hsz:=HZ.out (R.getD k jHI) (by rw[List.getD_eq_getElem?_getD,List.getElem?_eq_getElem hlt];exact List.getElem_mem hlt)
    have HRN:=hid (jH3 HS.out)
    have HRE:=hid (jTu jZ9 hlt HS.out)
    generalize R.getD k jHI=x at *
    obtain⟨xb,xa,xk⟩:=x
    dsimp only at x0 x1 x2 hsz
    have HSZ:=hid (show ∀j,(two xb xa j).size≤100000 from fun j=>by unfold two;split;exact hsz.1;exact hsz.2)
    obtain⟨wo,hwo⟩:∃wo,wo=wr:=⟨_,rfl⟩
    subst hwo
    clear HS
    go_wp2
    have hA:A.block<wo.heap.size:=by have:=World.block_lt_of_cell? wo _ x0;rwa [add_block]at this
    have hAk:(A.add (k*3)).block<wo.heap.size:=by rw[add_block];exact hA
    have y0:=((jAb (w:=wo) (.cells #[.string ⟨#[]⟩,.string ⟨#[]⟩] 150)).cell (p:=A.add (k*3)) hAk).trans x0
    have y1:=((jAb (w:=wo) (.cells #[.string ⟨#[]⟩,.string ⟨#[]⟩] 150)).cell (p:={ block:=(A.add (k*3)).block,off:=(A.add (k*3)).off+1 }) hAk).trans x1
    go_region
    have HBA:=hid (jAa HB.out (jAb (w:=wo) (.cells #[.string xb,.string xa] 150)).drew)
    have HAN:=hid (show (wo.alloc (.cells #[.string xb,.string xa] 150)).drew.heap[wo.heap.size]? = some (.cells #[.string xb,.string xa] 150 (0,0)) from heap_alloc_new wo _)
    go_wp2
    go_loopw [5] (fun i wr=>∃j:Nat,i=.int .i64 j∧j≤2∧Hid (∀i,i<j→jDz (two xb xa i)=0)∧Hid (wr.heap[wo.heap.size]? = some (.cells #[.string xb,.string xa] 150 (0,0)))∧Hid (Below w.heap.size w wr)) (fun i _=>2-(RowKit.intOf i).toNat)
    case atStart=>exact⟨0,rfl,Nat.zero_le _,(fun i hi=>absurd hi (Nat.not_lt_zero i)),HAN.out,HBA.out⟩
    case round =>
     clear HB HBA HAN
     obtain⟨j,rfl,hj,HP,HA,HB⟩:=hrel
     by_cases hj2:j<2
     ·have hji:(j:Int)<2:=by omega
      have hj0:(0:Int)≤(j:Int):=by omega
      have y0:=jVm HA.out hj2
      have hss:=HSZ.out j
      have HEJ:=hid (fun h=>(HRE.out (by rw[jSm (k:=xk) hj2 HP.out h];exact h)).trans (jSm (k:=xk) hj2 HP.out h))
      have HNX:=hid (fun (h:jDz (two xb xa j)=0) (i:Nat) (hi:i<j+1)=>(show jDz (two xb xa i)=0 from if e:i=j then by rw[e];exact h else HP.out i (by omega)))
      have cF:=jIT (two xb xa j) wr hss
      unfold jRS at cF
      have cT:=fun w'=>jIt (two xb xa j) w' hss
      generalize two xb xa j=s at *
      cases hp:jGm s with
      | none =>
        have HE:=hid (show jDw R=4 by rw[HEJ.out (by rw[jP8 hp];decide),jP8 hp])
        rw[hp]at cF
        dsimp only[Option.isSome]at cF
        clear hp
        go_wp2_with (go_at_call 87;(with_reducible refine cF.mono ?_);rintro e w3 ⟨⟨u,rfl,hu⟩,hb3⟩;obtain⟨pu,cu,rfl,hlu,hcu⟩:=hu.form;have y3:=(hb3.cell (p:=⟨wo.heap.size,j,none⟩) (lt_of_block HA.out)).trans y0;have HA3:=hid ((hb3.block _ (lt_of_block HA.out)).trans HA.out);have HB3:=hid (jAa HB.out hb3);clear hb3 hu)
        go_ret
        exact⟨by rw[HE.out];rfl,HB3.out⟩
      | some X =>
        rw[hp]at cF
        dsimp only[Option.isSome]at cF
        by_cases ht:jBK s=true
        ·rw[jQT hp]at cF
         rw[ht]at cT
         by_cases jYI:32<X.length
         ·have hlI:(32:Int)<(X.length:Int):=by omega
          have HE:=hid (show jDw R=3 by rw[HEJ.out (by rw[jPl ht hp jYI];decide),jPl ht hp jYI])
          clear hp ht
          go_wp2_with (first
           | (go_at_call 87;(with_reducible refine cF.mono ?_);rintro e w3 ⟨⟨u,rfl,hu⟩,hb3⟩;obtain⟨pu,cu,rfl,hlu,hcu⟩:=hu.form;have y3:=(hb3.cell (p:=⟨wo.heap.size,j,none⟩) (lt_of_block HA.out)).trans y0;have HA3:=hid ((hb3.block _ (lt_of_block HA.out)).trans HA.out);have HB3:=hid (jAa HB.out hb3);clear hb3 hu)
           | (go_at_call 88;(with_reducible refine (cT _).mono ?_);rintro e w4 ⟨rfl,hb4⟩;have HA4:=hid ((hb4.block _ (lt_of_block HA3.out)).trans HA3.out);have HB4:=hid (jAa HB3.out hb4);clear hb4))
          go_ret
          exact⟨by rw[HE.out];rfl,HB4.out⟩
         ·have hlI:¬(32:Int)<(X.length:Int):=by omega
          have HN2:=hid (HNX.out (jU8 ht hp jYI))
          clear hp ht
          go_wp2_with (first
           | (go_at_call 87;(with_reducible refine cF.mono ?_);rintro e w3 ⟨⟨u,rfl,hu⟩,hb3⟩;obtain⟨pu,cu,rfl,hlu,hcu⟩:=hu.form;have y3:=(hb3.cell (p:=⟨wo.heap.size,j,none⟩) (lt_of_block HA.out)).trans y0;have HA3:=hid ((hb3.block _ (lt_of_block HA.out)).trans HA.out);have HB3:=hid (jAa HB.out hb3);clear hb3 hu)
           | (go_at_call 88;(with_reducible refine (cT _).mono ?_);rintro e w4 ⟨rfl,hb4⟩;have HA4:=hid ((hb4.block _ (lt_of_block HA3.out)).trans HA3.out);have HB4:=hid (jAa HB3.out hb4);clear hb4))
          go_roundw
          case rel=>exact⟨j+1,by go_num,by omega,HN2.out,HA4.out,HB4.out⟩
          case measure=>simp[RowKit.intOf];omega
        ·have ht':jBK s=false:=by simpa using ht
         have HE:=hid (show jDw R=4 by rw[HEJ.out (by rw[jKt ht'];decide),jKt ht'])
         rw[ht']at cT
         clear hp ht ht'
         go_wp2_with (first
          | (go_at_call 87;(with_reducible refine cF.mono ?_);rintro e w3 ⟨⟨u,rfl,hu⟩,hb3⟩;obtain⟨pu,cu,rfl,hlu,hcu⟩:=hu.form;have y3:=(hb3.cell (p:=⟨wo.heap.size,j,none⟩) (lt_of_block HA.out)).trans y0;have HA3:=hid ((hb3.block _ (lt_of_block HA.out)).trans HA.out);have HB3:=hid (jAa HB.out hb3);clear hb3 hu)
          | (go_at_call 88;(with_reducible refine (cT _).mono ?_);rintro e w4 ⟨rfl,hb4⟩;have HA4:=hid ((hb4.block _ (lt_of_block HA3.out)).trans HA3.out);have HB4:=hid (jAa HB3.out hb4);clear hb4))
         go_ret
         exact⟨by rw[HE.out];rfl,HB4.out⟩
     ·have hji:¬(j:Int)<2:=by omega
      have HS2:=hid (HRN.out.trans (jWg (k:=xk) fun i hi=>HP.out i (by omega)))
      go_wp2
      go_roundw
      case rel=>exact⟨k+1,by go_num,by omega,HS2.out,HB.out⟩
      case measure=>simp[RowKit.intOf];omega
   ·have hki:¬(k:Int)<(R.length:Int):=by omega
    obtain rfl:k=R.length:=by omega
    have HE:=hid (show jDw R=0 by unfold jDw;rw[if_neg hE];exact HS.out)
    go_wp2
    go_ret
    exact⟨by rw[HE.out];rfl,HB.out⟩
end Go.Proofs.YtldapapdolkiaaaGreatDoor
