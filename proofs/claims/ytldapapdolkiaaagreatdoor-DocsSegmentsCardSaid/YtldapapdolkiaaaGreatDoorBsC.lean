/- Whether there is a break at a place, by the specification. Breaks and Fits, by the specification. Fits, by the specification. The guard on rules; two lists of numbers compared. Break rules as arguments, opened; the table of classes in full. -/
import Derived.Test.YtldapapdolkiaaaGreatDoorBsB
import Derived.Test.YtldapapdolkiaaaGreatDoorBrE
import Derived.Test.YtldapapdolkiaaaGreatDoorDqB
namespace Go.Proofs.YtldapapdolkiaaaGreatDoor
set_option maxHeartbeats 64000000
open Go Go.RowKit Go.Lib
set_option maxRecDepth 100000
theorem jVp {R:List Rl}{L:List Un}{p k:Nat}(h:k<R.length):jCp (R.drop k) L p=if jKF (R.getD k jHI) L p=true then (R.getD k jHI).k else jCp (R.drop (k+1)) L p:=by
 rw[List.drop_eq_getElem_cons h,List.getD_eq_getElem?_getD,List.getElem?_eq_getElem h]
 rfl
theorem jYk (s:ByteArray):ftW (items s)≤s.size:=Nat.le_trans (jPA _) (jIC s)
theorem jQ0 (R:List Rl)(L:List Un)(v vu:Value)(p:Nat)(w:World)(hv:jB5 w v R)(hz:∀x ∈ R,x.b.size≤100000∧x.a.size≤100000)(hU:jRy w vu L)(hp:p≤L.length)(hm:L.length≤1000000) :
 Calls Tryz.prog 90 #[v,vu,.int .i64 (p:Int)] w fun e w'=>e=.returned (.bool (jCp R L p))∧Below w.heap.size w w':=by
 have ar:=Tryz.isAgg72
 have zr:=Tryz.sizeOf72
 have HV:=hid hv
 have HU:=hid hU
 have HZ:=hid hz
 obtain⟨q,cap,rfl,hl,hc,jA4⟩:=hv
 obtain⟨qu,capu,rfl,hlu,hcu⟩:=hU.form
 unfold maxLen at hc hcu
 clear jA4 hU hz
 have hp0:(0:Int)≤(p:Int):=by omega
 go_enter Tryz.func90,Tryz.ntmps90
 go_wp2
 go_loopw [7] (fun i wr=>∃k:Nat,i=.int .i64 k∧k≤R.length∧Hid (jCp R L p=jCp (R.drop k) L p)∧Hid (Below w.heap.size w wr)) (fun i _=>R.length-(RowKit.intOf i).toNat)
 case atStart=>exact⟨0,rfl,Nat.zero_le _,rfl,Below.refl _ _⟩
 case round =>
  obtain⟨k,rfl,hk,HS,HB⟩:=hrel
  by_cases hlt:k<R.length
  ·have hki:(k:Int)<(R.length:Int):=by omega
   have hk0:(0:Int)≤(k:Int):=by omega
   obtain⟨A,rfl,x0,x1,x2⟩:=(HV.out.step HB.out).get hlt
   have hA:A.block<wr.heap.size:=by have:=World.block_lt_of_cell? wr _ x0;rwa [add_block]at this
   have hAk:(A.add (k*3)).block<wr.heap.size:=by rw[add_block];exact hA
   have hsz:=HZ.out (R.getD k jHI) (by rw[List.getD_eq_getElem?_getD,List.getElem?_eq_getElem hlt];exact List.getElem_mem hlt)
   have HST:=hid (HS.out.trans (jVp hlt))
   clear HS
   generalize R.getD k jHI=x at *
   obtain⟨xb,xa,xk⟩:=x
   dsimp only at x0 x1 x2 hsz
   have cF1:=jIT xb wr hsz.1
   have cF2:=fun w'=>jIT xa w' hsz.2
   have hw1:ftW (items xb)≤100000:=Nat.le_trans (jYk xb) hsz.1
   have hi1:(items xb).length≤100000:=Nat.le_trans (jIC xb) hsz.1
   have hi2:(items xa).length≤100000:=Nat.le_trans (jIC xa) hsz.2
   unfold jRS at cF1 cF2
   have HRF:=hid (show jKF ⟨xb,xa,xk⟩ L p=(decide (ftW (items xb)≤p) && jEf L (p-ftW (items xb)) (items xb) && jEf L p (items xa)) from rfl)
   generalize items xb=X at *
   generalize items xa=Y at *
   generalize (jGm xb).isSome=o1 at *
   generalize (jGm xa).isSome=o2 at *
   have cW:=fun v w' (h:jRi w' v X)=>jT5 X v w' h hi1
   have cB1:=fun v vx w' hu hx=>jIn L X v vx (p-ftW X) w' hu hx (by omega) hm hi1
   have cB2:=fun v vx w' hu hx=>jIn L Y v vx p w' hu hx hp hm hi2
   by_cases hpw:ftW X≤p
   ·have hpI:((ftW X:Nat):Int)≤(p:Int):=by omega
    have hq:IntKind.i64.wrap ((p:Int)-((ftW X:Nat):Int))=((p-ftW X:Nat):Int):=by rw[IntKind.wrap_i64];omega
    rw[show decide (ftW X≤p)=true by simpa using hpw]at HRF
    generalize p-ftW X=d at *
    generalize ftW X=n at *
    generalize jEf L d X=b1 at *
    generalize jEf L p Y=b2 at *
    cases b1
    ·have HN:=hid (HST.out.trans (if_neg (by rw[HRF.out];simp)))
     go_wp2_with (first
      | (go_at_call 87;(with_reducible refine cF1.mono ?_);rintro e w3 ⟨⟨u3,rfl,hu3⟩,hb3⟩;obtain⟨pu3,cu3,rfl,_,_⟩:=hu3.form;have HX3:=hid hu3;have HB3:=hid (jAa HB.out hb3);have z1:=(hb3.cell (p:={ block:=(A.add (k*3)).block,off:=(A.add (k*3)).off+1 }) hAk).trans x1;have z2:=(hb3.cell (p:={ block:=(A.add (k*3)).block,off:=(A.add (k*3)).off+2 }) hAk).trans x2;have jUn:(A.add (k*3)).block<w3.heap.size:=Nat.lt_of_lt_of_le hAk hb3.size;clear hb3 hu3)
      | (go_at_call 87;(with_reducible refine (cF2 _).mono ?_);rintro e w4 ⟨⟨u4,rfl,hu4⟩,hb4⟩;obtain⟨pu4,cu4,rfl,_,_⟩:=hu4.form;have HY4:=hid hu4;have HX4:=hid (HX3.out.step hb4);have HB4:=hid (jAa HB3.out hb4);have HU4:=hid (HU.out.step HB4.out);have z3:=(hb4.cell (p:={ block:=(A.add (k*3)).block,off:=(A.add (k*3)).off+2 }) jUn).trans z2;have jUo:(A.add (k*3)).block<w4.heap.size:=Nat.lt_of_lt_of_le jUn hb4.size;clear hb4 hu4)
      | (go_at_call 150;(with_reducible refine (cW _ _ HX4.out).mono ?_);rintro e w5 ⟨rfl,rfl⟩)
      | (go_at_call 151;(with_reducible refine (cB1 _ _ _ HU4.out HX4.out).mono ?_);rintro e w6 ⟨rfl,hb6⟩;have HY6:=hid (HY4.out.step hb6);have HU6:=hid (HU4.out.step hb6);have HB6:=hid (jAa HB4.out hb6);have z4:=(hb6.cell (p:={ block:=(A.add (k*3)).block,off:=(A.add (k*3)).off+2 }) jUo).trans z3;have jYP:(A.add (k*3)).block<w6.heap.size:=Nat.lt_of_lt_of_le jUo hb6.size;clear hb6)
      | (go_at_call 151;(with_reducible refine (cB2 _ _ _ HU6.out HY6.out).mono ?_);rintro e w7 ⟨rfl,hb7⟩;have HB7:=hid (jAa HB6.out hb7);have z5:=(hb7.cell (p:={ block:=(A.add (k*3)).block,off:=(A.add (k*3)).off+2 }) jYP).trans z4;clear hb7))
     go_roundw
     case rel=>exact⟨k+1,by go_num,by omega,HN.out,HB6.out⟩
     case measure=>simp[RowKit.intOf];omega
    ·cases b2
     ·have HN:=hid (HST.out.trans (if_neg (by rw[HRF.out];decide)))
      go_wp2_with (first
       | (go_at_call 87;(with_reducible refine cF1.mono ?_);rintro e w3 ⟨⟨u3,rfl,hu3⟩,hb3⟩;obtain⟨pu3,cu3,rfl,_,_⟩:=hu3.form;have HX3:=hid hu3;have HB3:=hid (jAa HB.out hb3);have z1:=(hb3.cell (p:={ block:=(A.add (k*3)).block,off:=(A.add (k*3)).off+1 }) hAk).trans x1;have z2:=(hb3.cell (p:={ block:=(A.add (k*3)).block,off:=(A.add (k*3)).off+2 }) hAk).trans x2;have jUn:(A.add (k*3)).block<w3.heap.size:=Nat.lt_of_lt_of_le hAk hb3.size;clear hb3 hu3)
       | (go_at_call 87;(with_reducible refine (cF2 _).mono ?_);rintro e w4 ⟨⟨u4,rfl,hu4⟩,hb4⟩;obtain⟨pu4,cu4,rfl,_,_⟩:=hu4.form;have HY4:=hid hu4;have HX4:=hid (HX3.out.step hb4);have HB4:=hid (jAa HB3.out hb4);have HU4:=hid (HU.out.step HB4.out);have z3:=(hb4.cell (p:={ block:=(A.add (k*3)).block,off:=(A.add (k*3)).off+2 }) jUn).trans z2;have jUo:(A.add (k*3)).block<w4.heap.size:=Nat.lt_of_lt_of_le jUn hb4.size;clear hb4 hu4)
       | (go_at_call 150;(with_reducible refine (cW _ _ HX4.out).mono ?_);rintro e w5 ⟨rfl,rfl⟩)
       | (go_at_call 151;(with_reducible refine (cB1 _ _ _ HU4.out HX4.out).mono ?_);rintro e w6 ⟨rfl,hb6⟩;have HY6:=hid (HY4.out.step hb6);have HU6:=hid (HU4.out.step hb6);have HB6:=hid (jAa HB4.out hb6);have z4:=(hb6.cell (p:={ block:=(A.add (k*3)).block,off:=(A.add (k*3)).off+2 }) jUo).trans z3;have jYP:(A.add (k*3)).block<w6.heap.size:=Nat.lt_of_lt_of_le jUo hb6.size;clear hb6)
       | (go_at_call 151;(with_reducible refine (cB2 _ _ _ HU6.out HY6.out).mono ?_);rintro e w7 ⟨rfl,hb7⟩;have HB7:=hid (jAa HB6.out hb7);have z5:=(hb7.cell (p:={ block:=(A.add (k*3)).block,off:=(A.add (k*3)).off+2 }) jYP).trans z4;clear hb7))
      go_roundw
      case rel=>exact⟨k+1,by go_num,by omega,HN.out,HB7.out⟩
      case measure=>simp[RowKit.intOf];omega
     ·have HN:=hid (HST.out.trans (if_pos (by rw[HRF.out];decide)))
      go_wp2_with (first
       | (go_at_call 87;(with_reducible refine cF1.mono ?_);rintro e w3 ⟨⟨u3,rfl,hu3⟩,hb3⟩;obtain⟨pu3,cu3,rfl,_,_⟩:=hu3.form;have HX3:=hid hu3;have HB3:=hid (jAa HB.out hb3);have z1:=(hb3.cell (p:={ block:=(A.add (k*3)).block,off:=(A.add (k*3)).off+1 }) hAk).trans x1;have z2:=(hb3.cell (p:={ block:=(A.add (k*3)).block,off:=(A.add (k*3)).off+2 }) hAk).trans x2;have jUn:(A.add (k*3)).block<w3.heap.size:=Nat.lt_of_lt_of_le hAk hb3.size;clear hb3 hu3)
       | (go_at_call 87;(with_reducible refine (cF2 _).mono ?_);rintro e w4 ⟨⟨u4,rfl,hu4⟩,hb4⟩;obtain⟨pu4,cu4,rfl,_,_⟩:=hu4.form;have HY4:=hid hu4;have HX4:=hid (HX3.out.step hb4);have HB4:=hid (jAa HB3.out hb4);have HU4:=hid (HU.out.step HB4.out);have z3:=(hb4.cell (p:={ block:=(A.add (k*3)).block,off:=(A.add (k*3)).off+2 }) jUn).trans z2;have jUo:(A.add (k*3)).block<w4.heap.size:=Nat.lt_of_lt_of_le jUn hb4.size;clear hb4 hu4)
       | (go_at_call 150;(with_reducible refine (cW _ _ HX4.out).mono ?_);rintro e w5 ⟨rfl,rfl⟩)
       | (go_at_call 151;(with_reducible refine (cB1 _ _ _ HU4.out HX4.out).mono ?_);rintro e w6 ⟨rfl,hb6⟩;have HY6:=hid (HY4.out.step hb6);have HU6:=hid (HU4.out.step hb6);have HB6:=hid (jAa HB4.out hb6);have z4:=(hb6.cell (p:={ block:=(A.add (k*3)).block,off:=(A.add (k*3)).off+2 }) jUo).trans z3;have jYP:(A.add (k*3)).block<w6.heap.size:=Nat.lt_of_lt_of_le jUo hb6.size;clear hb6)
       | (go_at_call 151;(with_reducible refine (cB2 _ _ _ HU6.out HY6.out).mono ?_);rintro e w7 ⟨rfl,hb7⟩;have HB7:=hid (jAa HB6.out hb7);have z5:=(hb7.cell (p:={ block:=(A.add (k*3)).block,off:=(A.add (k*3)).off+2 }) jYP).trans z4;clear hb7))
      go_ret
      exact⟨by rw[HN.out];rfl,HB7.out⟩
   ·have hpI:¬((ftW X:Nat):Int)≤(p:Int):=by omega
    rw[show decide (ftW X≤p)=false by simpa using hpw]at HRF
    have HN:=hid (HST.out.trans (if_neg (by rw[HRF.out];simp)))
    clear cB1 cB2
    generalize ftW X=n at *
    go_wp2_with (first
     | (go_at_call 87;(with_reducible refine cF1.mono ?_);rintro e w3 ⟨⟨u3,rfl,hu3⟩,hb3⟩;obtain⟨pu3,cu3,rfl,_,_⟩:=hu3.form;have HX3:=hid hu3;have HB3:=hid (jAa HB.out hb3);have z1:=(hb3.cell (p:={ block:=(A.add (k*3)).block,off:=(A.add (k*3)).off+1 }) hAk).trans x1;have z2:=(hb3.cell (p:={ block:=(A.add (k*3)).block,off:=(A.add (k*3)).off+2 }) hAk).trans x2;have jUn:(A.add (k*3)).block<w3.heap.size:=Nat.lt_of_lt_of_le hAk hb3.size;clear hb3 hu3)
     | (go_at_call 87;(with_reducible refine (cF2 _).mono ?_);rintro e w4 ⟨⟨u4,rfl,hu4⟩,hb4⟩;obtain⟨pu4,cu4,rfl,_,_⟩:=hu4.form;have HY4:=hid hu4;have HX4:=hid (HX3.out.step hb4);have HB4:=hid (jAa HB3.out hb4);have HU4:=hid (HU.out.step HB4.out);have z3:=(hb4.cell (p:={ block:=(A.add (k*3)).block,off:=(A.add (k*3)).off+2 }) jUn).trans z2;have jUo:(A.add (k*3)).block<w4.heap.size:=Nat.lt_of_lt_of_le jUn hb4.size;clear hb4 hu4)
     | (go_at_call 150;(with_reducible refine (cW _ _ HX4.out).mono ?_);rintro e w5 ⟨rfl,rfl⟩)
     | (go_at_call 151;(with_reducible refine (cB1 _ _ _ HU4.out HX4.out).mono ?_);rintro e w6 ⟨rfl,hb6⟩;have HY6:=hid (HY4.out.step hb6);have HU6:=hid (HU4.out.step hb6);have HB6:=hid (jAa HB4.out hb6);have z4:=(hb6.cell (p:={ block:=(A.add (k*3)).block,off:=(A.add (k*3)).off+2 }) jUo).trans z3;have jYP:(A.add (k*3)).block<w6.heap.size:=Nat.lt_of_lt_of_le jUo hb6.size;clear hb6)
     | (go_at_call 151;(with_reducible refine (cB2 _ _ _ HU6.out HY6.out).mono ?_);rintro e w7 ⟨rfl,hb7⟩;have HB7:=hid (jAa HB6.out hb7);have z5:=(hb7.cell (p:={ block:=(A.add (k*3)).block,off:=(A.add (k*3)).off+2 }) jYP).trans z4;clear hb7))
    go_roundw
    case rel=>exact⟨k+1,by go_num,by omega,HN.out,HB4.out⟩
    case measure=>simp[RowKit.intOf];omega
  ·have hki:¬(k:Int)<(R.length:Int):=by omega
   have HE:=hid (show jCp R L p=false by rw[HS.out,List.drop_of_length_le (by omega)];rfl)
   go_wp2
   go_ret
   exact⟨by rw[HE.out];rfl,HB.out⟩
end Go.Proofs.YtldapapdolkiaaaGreatDoor
namespace Go.Proofs.YtldapapdolkiaaaGreatDoor
set_option maxHeartbeats 64000000
open Go Go.RowKit Go.Lib
set_option maxRecDepth 100000
def brF (R:List Rl)(L:List Un)(p:Nat):Bool:=decide (0<p) && jCp R L p
theorem jTS (R:List Rl)(L:List Un)(k:Nat):(List.range (k+1)).filter (brF R L)=(List.range k).filter (brF R L)++(if brF R L k=true then [k] else []):=by
 rw[List.range_succ,List.filter_append]
 congr 1
 rw[List.filter_cons]
 rfl
theorem jV3 {R:List Rl}{L:List Un}{k:Nat}(h1:L.length≤k)(h2:k≤L.length∨k=1):(List.range k).filter (brF R L)=jGN R L:=by
 unfold jGN
 by_cases h:k=L.length
 ·rw[h];rfl
 ·have h0:L.length=0:=by omega
  have h3:k=1:=by omega
  rw[h0,h3]
  rfl
theorem jVR (R:List Rl)(L:List Un)(k:Nat):((List.range k).filter (brF R L)).length≤k:=by
 have:=List.length_filter_le (brF R L) (List.range k)
 simpa using this
theorem cell_new1' {w:World}{n:Nat}(hs:w.heap.size=n)(a:Value)(t:TypeId):∀j u,[a][j]? = some u→(w.alloc (.cells #[a] t)).cell? ((⟨n,0,none⟩:Addr).add j)=some u:=by
 subst hs
 intro j u hj
 match j,hj with
 | 0,hj=>simp only[List.getElem?_cons_zero,Option.some.injEq]at hj;subst hj;exact (Lib.cell_of_heap (heap_alloc_new w (.cells #[a] t)) 0).trans rfl
theorem jOi (R:List Rl)(l:List Pc)(vR v:Value)(w:World)(hr:jB5 w vR R)(hz:SzR R)(hv:jBe w v l)(hb:bulk l≤10000) :
 Calls Tryz.prog 42 #[vR,v] w fun e w'=>(∃r,e=.returned (.tuple #[r,.int .u8 (brE R l)])∧jC0 w' r ((brR R l).map fun p:Nat=>(p:Int)))∧Below w.heap.size w w':=by
 have cR:=jED R vR w hr hz
 have cP:=fun wr (h:Below w.heap.size w wr)=>jDJ l v wr (hv.step h) (by omega)
 have cU:=fun wr (h:Below w.heap.size w wr)=>jQW l v wr (hv.step h) hb
 have HRl:=hid hr
 have HZ:=hid hz
 have hnU:(jCa l).length≤10000:=by have h:=jHA l;rw[jLr];unfold jAW;omega
 obtain⟨pR,capR,rfl,hlR,hcR,jOP⟩:=hr
 obtain⟨p,cap,rfl,hl,hc,jA4⟩:=hv
 clear jA4 jOP hz
 by_cases h1:jDw R=0
 ·by_cases h2:jAu l=0
  ·have hE:brE R l=0:=by unfold brE;rw[if_neg (by simp[h1])];exact h2
   have hRR:brR R l=jGN R (jCa l):=by unfold brR;rw[if_pos hE]
   rw[hE,hRR]
   rw[h1]at cR
   simp only[h2]at cP
   have HZ2:=hid (HZ.out (by unfold jDw at h1;split at h1;cases h1;omega))
   obtain⟨i0,hi0,hz0,hz1,hz2⟩:=jJf
   clear h1 h2 hE hRR
   generalize jCa l=L at *
   go_enter Tryz.func42,Tryz.ntmps42
   go_wp2_with (first
    | (go_at_call 41;(with_reducible refine cR.mono ?_);rintro e w3 ⟨rfl,hb3⟩;have HB3:=hid hb3;clear hb3)
    | (go_at_call 25;(with_reducible refine (cP _ HB3.out).mono ?_);rintro e w4 ⟨rfl,hb4⟩;have HB4:=hid (jAa HB3.out hb4);clear hb4)
    | (go_at_call 89;(with_reducible refine (cU _ HB4.out).mono ?_);rintro e w5 ⟨⟨u,rfl,hu⟩,hb5⟩;obtain⟨pu,cu,rfl,hlu,hcu⟩:=hu.form;have HU5:=hid hu;have HB5:=hid (jAa HB4.out hb5);clear hb5 hu))
   unfold maxLen at hcu
   go_loopw [8,9] (fun o i wr=>∃k:Nat,i=.int .i64 k∧1≤k∧(k≤L.length∨k=1)∧Hid (wr.ownsRow w5.heap.size 3 1 o ((List.range k).filter (brF R L)).length (jDO ((List.range k).filter (brF R L))))∧Hid (Below w5.heap.size w5 wr)) (fun _ i _=>L.length-(RowKit.intOf i).toNat)
   case atStart=>exact⟨1,rfl,Nat.le_refl _,.inr rfl,World.ownsRow_nil _ _ _ _,Below.refl _ _⟩
   case round =>
    obtain⟨k,rfl,hk1,hk,HO,HB6⟩:=hrel
    have HB:=hid (jAa HB5.out HB6.out)
    by_cases hlt:k<L.length
    ·have hki:(k:Int)<(L.length:Int):=by omega
     have hk0:(0:Int)≤(k:Int):=by omega
     have jEg:=HB6.out.size
     have cB:=jQ0 R L _ _ k wr (HRl.out.step HB.out) HZ2.out (HU5.out.step HB6.out) (by omega) (by omega)
     have HT:=hid (jTS R L k)
     have hol:=jVR R L k
     have HF:=hid (show brF R L k=jCp R L k by unfold brF;rw[show decide (0<k)=true from decide_eq_true hk1];rfl)
     generalize (List.range k).filter (brF R L)=us at HO HT hol
     obtain⟨ao,ca,hfo⟩:=jEb HO.out
     subst hfo
     cases hq:jCp R L k
     ·rw[hq]at cB HF
      have HT2:=hid (show (List.range (k+1)).filter (brF R L)=us by rw[HT.out,HF.out];simp)
      clear hq
      go_wp2_with (go_at_call 90;(with_reducible refine cB.mono ?_);rintro e w7 ⟨rfl,hb7⟩;have HB8:=hid (jAa HB6.out hb7);have HO7:=hid (jAZ hb7 HO.out);clear hb7)
      go_roundw
      case rel=>exact⟨k+1,by go_num,by omega,.inl hlt,(by rw[HT2.out];exact HO7.out),HB8.out⟩
      case measure=>simp[RowKit.intOf];omega
     ·rw[hq]at cB HF
      have HT2:=hid (show (List.range (k+1)).filter (brF R L)=us++[k] by rw[HT.out,HF.out];simp)
      have q1:=hid (show us.length+1≤maxLen by unfold maxLen;omega)
      have q2:=hid (show (us.length+1)*8≤140737488355328 by omega)
      clear hq
      go_wp2_with (first
       | (go_at_call 90;(with_reducible refine cB.mono ?_);rintro e w7 ⟨rfl,hb7⟩;have HB8:=hid (jAa HB6.out hb7);have HO7:=hid (jAZ hb7 HO.out);have hs7:=HB8.out.size;clear hb7)
       | (at_builtin;refine wpList_append_own _ rfl _ _ 78 rfl w5.heap.size 3 i0 _ 1 8 Tryz.underlying78 hi0 hz0 hz1 hz2 rfl (by decide) _ _ _ rfl (HO7.out.alloc _) ⟨w7.heap.size,0,none⟩ 1 1 [.int .i64 (k:Int)] rfl rfl (cell_new1' rfl _ _) (fun u hu=>by simp at hu;rw[hu];rfl) q1.out q2.out (by simp;omega) ?_;intro v9 w9 jCy jBL jFS
          have HO9:=hid (show w9.ownsRow w5.heap.size 3 1 v9 (us++[k]).length (jDO (us++[k])) by rw[List.length_append,List.length_singleton,jKb];exact jCy)
          have HB9:=hid ((HB8.out.alloc hs7 _).grown jBL (by simp;omega) (fun k hk=>(HO7.out.lt k hk).1))
          clear jBL jFS jCy))
      go_roundw
      case rel=>exact⟨k+1,by go_num,by omega,.inl hlt,(by rw[HT2.out];exact HO9.out),HB9.out⟩
      case measure=>simp[RowKit.intOf];omega
    ·have hki:¬(k:Int)<(L.length:Int):=by omega
     have HE:=hid (jV3 (R:=R) (by omega) hk)
     go_wp2
     go_ret2
     exact⟨⟨_,rfl,by rw[←HE.out];exact jFf HO.out⟩,HB.out⟩
  ·have HE:=hid (show brE R l=jAu l by unfold brE;rw[if_neg (by simp[h1])])
   have HR:=hid (show brR R l=[] by unfold brR;rw[HE.out,if_neg h2])
   rw[h1]at cR
   clear cU
   generalize jAu l=Z at *
   have h2':(Z != 0)=true:=by simpa using h2
   go_enter Tryz.func42,Tryz.ntmps42
   go_wp2_with (first
    | (go_at_call 41;(with_reducible refine cR.mono ?_);rintro e w3 ⟨rfl,hb3⟩;have HB3:=hid hb3;clear hb3)
    | (go_at_call 25;(with_reducible refine (cP _ HB3.out).mono ?_);rintro e w4 ⟨rfl,hb4⟩;have HB4:=hid (jAa HB3.out hb4);clear hb4))
   go_ret2
   exact⟨⟨_,by rw[HE.out];rfl,by rw[HR.out];exact jFf (B:=0) (us:=[]) (World.ownsRow_nil _ _ _ _)⟩,HB4.out⟩
 ·have HE:=hid (show brE R l=jDw R by unfold brE;rw[if_pos h1])
  have HR:=hid (show brR R l=[] by unfold brR;rw[HE.out,if_neg h1])
  clear cU cP
  generalize jDw R=Z at *
  have h1':(Z != 0)=true:=by simpa using h1
  go_enter Tryz.func42,Tryz.ntmps42
  go_wp2_with (go_at_call 41;(with_reducible refine cR.mono ?_);rintro e w3 ⟨rfl,hb3⟩;have HB3:=hid hb3;clear hb3)
  go_ret2
  exact⟨⟨_,by rw[HE.out];rfl,by rw[HR.out];exact jFf (B:=0) (us:=[]) (World.ownsRow_nil _ _ _ _)⟩,HB3.out⟩
end Go.Proofs.YtldapapdolkiaaaGreatDoor
namespace Go.Proofs.YtldapapdolkiaaaGreatDoor
set_option maxHeartbeats 64000000
open Go Go.RowKit Go.Lib
set_option maxRecDepth 100000
end Go.Proofs.YtldapapdolkiaaaGreatDoor
namespace Go.Proofs.YtldapapdolkiaaaGreatDoor
set_option maxHeartbeats 64000000
open Go Go.RowKit Go.Lib
set_option maxRecDepth 100000
def rlB (x:Rl):Nat:=x.b.size+x.a.size
def jKZ (R:List Rl)(k:Nat):Nat:=R.length+((R.take k).map rlB).sum
theorem jMg {R:List Rl}{k:Nat}(h:k<R.length):jKZ R (k+1)=jKZ R k+rlB (R.getD k jHI):=by
 unfold jKZ
 rw[List.take_add_one,List.getElem?_eq_getElem h,List.map_append,List.sum_append,List.getD_eq_getElem?_getD,List.getElem?_eq_getElem h]
 simp
 omega
theorem jSD {R:List Rl}(hz:∀x ∈ R,x.b.size≤140737488355328∧x.a.size≤140737488355328):∀k,k≤R.length→jKZ R k≤R.length+k*281474976710656
 | 0,_=>by simp[jKZ]
 | k+1,hk=>by
   have h1:=jSD hz k (by omega)
   have h2:=hz (R.getD k jHI) (by rw[List.getD_eq_getElem?_getD,List.getElem?_eq_getElem (by omega)];exact List.getElem_mem _)
   rw[jMg (by omega)]
   unfold rlB
   omega
theorem jX7 {l:List Nat}{n:Nat}(h:n ∈ l):n≤l.sum:=by
 induction l with
 | nil=>cases h
 | cons a l ih =>
   rw[List.sum_cons]
   rcases List.mem_cons.1 h with rfl | h
   ·omega
   ·have:=ih h;omega
theorem jXi {R:List Rl}(h:jKZ R (min 100 R.length)≤600):SzR R:=by
 intro hl x hx
 rw[Nat.min_eq_right (by omega)]at h
 unfold jKZ at h
 rw[List.take_length]at h
 have:=jX7 (List.mem_map.2 ⟨x,hx,rfl⟩:rlB x ∈ R.map rlB)
 unfold rlB at this h
 omega
def jT9 (R:List Rl)(e:Ending):Prop:=e=.returned (.bool (decide (600<jKZ R (min 100 R.length))))
theorem jQ8 (R:List Rl)(v:Value)(w:World)(hv:jB5 w v R)(hz:∀x ∈ R,x.b.size≤140737488355328∧x.a.size≤140737488355328)(hl:R.length≤140737488355328) :
 Calls Tryz.prog 8 #[v] w fun e w'=>jT9 R e∧Below w.heap.size w w':=by
 have ar:=Tryz.isAgg72
 have zr:=Tryz.sizeOf72
 have HV:=hid hv
 have HZ:=hid (fun k hk=>@jSD R hz k hk)
 obtain⟨p,cap,rfl,hlc,hc,jA4⟩:=hv
 clear jA4 hz
 unfold maxLen at hc
 go_enter Tryz.func8,Tryz.ntmps8
 go_wp2
 go_loopw [3,4] (fun n i wr=>∃k:Nat,i=.int .i64 k∧n=.int .i64 (jKZ R k:Nat)∧k≤R.length∧k≤100∧Hid (Below w.heap.size w wr)) (fun _ i _=>R.length-(RowKit.intOf i).toNat)
 case atStart=>exact⟨0,rfl,by simp[jKZ],Nat.zero_le _,Nat.zero_le _,Below.refl _ _⟩
 case round =>
  obtain⟨k,rfl,rfl,hk,hk2,HB⟩:=hrel
  by_cases hlt:k<R.length
  ·have hki:(k:Int)<(R.length:Int):=by omega
   have hk0:(0:Int)≤(k:Int):=by omega
   by_cases qAT:k<100
   ·have h100I:(k:Int)<100:=by omega
    obtain⟨A,rfl,x0,x1,x2⟩:=(HV.out.step HB.out).get hlt
    have hsz:=HZ.out (k+1) (by omega)
    have hS:=jMg hlt
    unfold rlB at hS
    clear x2
    obtain⟨m2,hm2⟩:∃m2,m2=jKZ R (k+1):=⟨_,rfl⟩
    rw[←hm2]at hsz hS
    have HM2:=hid hm2
    clear hm2
    generalize jKZ R k=m at *
    generalize R.getD k jHI=x at *
    obtain⟨xb,xa,xk⟩:=x
    dsimp only at x0 x1 hS
    have h1:IntKind.i64.wrap ((m:Int)+(xb.size:Int))=((m+xb.size:Nat):Int):=by rw[IntKind.wrap_i64];omega
    have h2:IntKind.i64.wrap (((m+xb.size:Nat):Int)+(xa.size:Int))=(m2:Int):=by rw[IntKind.wrap_i64];omega
    go_wp2
    go_quiet (fail)
    go_wp2
    go_roundw
    case rel=>exact⟨k+1,by go_num,by rw[←HM2.out];go_num,by omega,by omega,jAa HB.out (jIY _ _)⟩
    case measure=>simp[RowKit.intOf];omega
   ·obtain rfl:k=100:=by omega
    have HE:=hid (show jKZ R (min 100 R.length)=jKZ R 100 by rw[Nat.min_eq_left (by omega)])
    go_wp2
    go_ret
    exact⟨jAc (by rw[HE.out];simp;omega),HB.out⟩
  ·have hki:¬(k:Int)<(R.length:Int):=by omega
   obtain rfl:k=R.length:=by omega
   have HE:=hid (show jKZ R (min 100 R.length)=jKZ R R.length by rw[Nat.min_eq_right (by omega)])
   go_wp2
   go_ret
   exact⟨jAc (by rw[HE.out];simp;omega),HB.out⟩
end Go.Proofs.YtldapapdolkiaaaGreatDoor
namespace Go.Proofs.YtldapapdolkiaaaGreatDoor
set_option maxHeartbeats 64000000
open Go Go.Eng Go.ChangeShapes Go.WideShapes Go.ChangeAt Go.ChangeMaps Go.RowKit Go.Lib
set_option maxRecDepth 100000
theorem clZ_R:∀c,c<128→clZ.getD c 0=jH4 c:=by decide +kernel
theorem jXS {w:World}(h:VarReads Tryz.prog w "truchman/docs.classes" (Rows.laid_truchman_docs_classes:DataW Unit)):jGn jH4 w:=by
 obtain⟨cs,t,fr,e,r⟩:=jQa h
 intro c hc
 have hl:c<clZ.length:=hc
 rw[←clZ_R c hc,Lib.cell_of_heap e c,←Array.getElem?_toList,r,←jJb,List.getElem?_map,List.getD_eq_getElem?_getD,List.getElem?_eq_getElem hl]
 rfl
section
variable {H:Type} {enc:TypeId × Value→H} {W:World} {base:Nat} {sp:Nat→Bool} {held:Bool}
theorem jYm {fuel:Nat}{cs:List Value}{d:DataW H}{p:List MemPlace}(h:DataW.trod enc Tryz.prog W base sp held fuel 72 cs=some (d,p)) :
 ∃x:Rl,cs=[.string x.b,.string x.a,.bool x.k]∧d=.agg [.lit (.string x.b.data.toList),.lit (.string x.a.data.toList),.lit (.bool x.k)]:=by
 obtain⟨xs,n,_,hx,hl,hxl,hf⟩:=DataW.trod_struct Tryz.underlying72 h
 have h3:cs.length=3:=hl.trans (by kernel_rfl)
 have hx3:xs.length=3:=hxl
 match xs,hx3 with
 | [y0,y1,y2],_ =>
   have f0:DataW.trod enc Tryz.prog W base sp held n 9 ((cs.drop 0).take (Tryz.prog.cellsOf 9))=some y0:=hf 0 _ rfl
   have f1:DataW.trod enc Tryz.prog W base sp held n 9 ((cs.drop 1).take (Tryz.prog.cellsOf 9))=some y1:=hf 1 _ rfl
   have f2:DataW.trod enc Tryz.prog W base sp held n 4 ((cs.drop 2).take (Tryz.prog.cellsOf 4))=some y2:=hf 2 _ rfl
   rw[show Tryz.prog.cellsOf 9=1 by kernel_rfl]at f0 f1
   rw[show Tryz.prog.cellsOf 4=1 by kernel_rfl]at f2
   obtain⟨z,c0,g0,_⟩:=DataW.trod_string Tryz.underlying9 f0
   obtain⟨z1,c1,g1,_⟩:=DataW.trod_string Tryz.underlying9 f1
   obtain⟨z2,c2,g2⟩:=DataW.trod_bool Tryz.underlying4 f2
   have hd:d=.agg [y0.1,y1.1,y2.1]:=by
    have:=congrArg Prod.fst hx
    simpa using this
   have k0:=jFB c0
   have k1:=jFB c1
   have k2:=jFB c2
   refine⟨⟨z,z1,z2⟩,?_,by rw[hd,g0,g1,g2]⟩
   match cs,h3 with
   | [q0,q1,q2],_ =>
     simp at k0 k1 k2
     subst k0 k1 k2
     rfl
theorem jQ6 {fuel:Nat}{cs:List Value}{d:DataW H}{p:List MemPlace}(h:DataW.trod enc Tryz.prog W 0 sp held fuel 25 cs=some (d,p))
 (hw:∀n ∈ d.weights Tryz.prog 25,n≤reachBytes) :
 ∃ (l:List Rl) (v:Value),cs=[v]∧jB5 W v l∧(∀x ∈ l,x.b.size≤140737488355328∧x.a.size≤140737488355328)∧l.length≤140737488355328:=by
 have hr:reachBytes≤140737488355328:=by decide
 rcases Go.Deep.open_slice Tryz.underlying25 h with ⟨rfl,_⟩ | ⟨a,len,cap,m,n,D,Pl,rfl,_,hl,hm,hmm,hx,hel⟩
 ·exact⟨[],_,rfl,⟨none,0,rfl,by simp,by simp,fun h=>absurd h (by simp)⟩,by simp,by simp⟩
 ·have hlm:len≤m:=by rw[hmm];split <;> omega
  have c3:Tryz.prog.cellsOf 72=3:=by kernel_rfl
  rw[c3]at hel
  have wl:∀ (x:Rl) (d:DataW H),d=.agg [.lit (.string x.b.data.toList),.lit (.string x.a.data.toList),.lit (.bool x.k)]→x.b.data.toList.length ∈ d.weights Tryz.prog 72∧x.a.data.toList.length ∈ d.weights Tryz.prog 72:=by
   rintro x d rfl
   simp[DataW.weights,Tryz.underlying72,DataW.weightsEach]
  have each:∀i:Fin len,∃x:Rl,(∃cs',W.cells? 0 (a.add (i.1*3)) 3=some cs'∧cs'=[.string x.b,.string x.a,.bool x.k])∧D i.1=.agg [.lit (.string x.b.data.toList),.lit (.string x.a.data.toList),.lit (.bool x.k)]:=fun i=>by
   obtain⟨cs',h1,h2⟩:=hel i.1 (by have:=i.2;omega)
   obtain⟨x,hx1,hx2⟩:=jYm h2
   exact⟨x,⟨cs',h1,hx1⟩,hx2⟩
  have hd:d=.slice ((List.range len).map D) ((List.range (m-len)).map fun j=>D (len+j)):=congrArg Prod.fst hx
  have hwl:∀n ∈ (((List.range len).map D).length+((List.range (m-len)).map fun j=>D (len+j)).length)*Tryz.prog.bytesOf 72 :: (DataW.weightsAll Tryz.prog 72 ((List.range len).map D)++DataW.weightsAll Tryz.prog 72 ((List.range (m-len)).map fun j=>D (len+j))),n≤reachBytes:=by
   intro n hn
   apply hw
   rw[hd]
   simp only[DataW.weights,Tryz.underlying25]
   exact hn
  refine⟨List.ofFn fun i=>Classical.choose (each i),_,rfl,⟨some a,cap,by simp,by simpa using hl,hm,fun h0=>⟨a,rfl,?_,?_⟩⟩,?_,?_⟩
  ·have h0':0<len:=by simpa using h0
   obtain⟨⟨cs',h1,hcs⟩,_⟩:=Classical.choose_spec (each ⟨0,h0'⟩)
   obtain⟨_,jBi,hcl⟩:=World.cells?_some h1
   have:=hcl 0 (by omega)
   rw[List.getElem?_eq_getElem (by omega)]at this
   have hb:=World.block_lt_of_cell? W _ this
   rwa [add_block,add_block]at hb
  ·intro i j hi hj
   have hi':i<len:=by simpa using hi
   obtain⟨⟨cs',h1,hcs⟩,_⟩:=Classical.choose_spec (each ⟨i,hi'⟩)
   obtain⟨_,jBi,hcl⟩:=World.cells?_some h1
   have e1:=hcl j hj
   rw[Go.Deep.add_add]at e1
   rw[e1,hcs]
   have hg:(List.ofFn fun i=>Classical.choose (each i)).getD i jHI=Classical.choose (each ⟨i,hi'⟩):=by
    rw[List.getD_eq_getElem?_getD,List.getElem?_eq_getElem hi]
    simp
   unfold rF
   rw[hg]
   match j,hj with
   | 0,_=>simp
   | 1,_=>simp
   | 2,_=>simp
  ·intro x hx
   obtain⟨i,hi,rfl⟩:=List.getElem_of_mem hx
   have hi':i<len:=by simpa using hi
   obtain⟨_,hD⟩:=Classical.choose_spec (each ⟨i,hi'⟩)
   have jFu:D i ∈ (List.range len).map D:=List.mem_map.2 ⟨i,List.mem_range.2 hi',rfl⟩
   have key:=hwl _ (List.mem_cons_of_mem _ (List.mem_append_left _ (jDp jFu (wl _ _ hD).1)))
   have key2:=hwl _ (List.mem_cons_of_mem _ (List.mem_append_left _ (jDp jFu (wl _ _ hD).2)))
   have e:(List.ofFn fun i=>Classical.choose (each i))[i]=Classical.choose (each ⟨i,hi'⟩):=by simp
   rw[e]
   rw[jBb]at key key2
   exact⟨by omega,by omega⟩
  ·have key:=hwl _ (List.mem_cons_self ..)
   have hby:1≤Tryz.prog.bytesOf 72:=by decide +kernel
   simp only[List.length_map,List.length_range,List.length_ofFn]at key ⊢
   have:len*1≤(len+(m-len))*Tryz.prog.bytesOf 72:=Nat.mul_le_mul (by omega) hby
   omega
end
theorem jN2 {W:World}{base:Nat}{v u:Value}(hv:Value.okWide Tryz.prog W .any base 25 v)(h:v.cells.toList=[u]):v=u:=by
 obtain⟨a0,len0,cap0,rfl⟩:=okWide_slice Tryz.underlying25 hv
 simpa [Value.cells] using h
end Go.Proofs.YtldapapdolkiaaaGreatDoor
