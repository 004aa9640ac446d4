import Derived.Test.YtekanffohkeoeaaGreatDoorEmW
import Derived.Test.YtekanffohkeoeaaGreatDoorZpW
namespace Go.Proofs.YtekanffohkeoeaaGreatDoor
open Go.RowKit
open Go.Value renaming slice → aZ, oneCell' → aY, ownBlock → bw
open Go.Proofs.Tryz renaming prog → ah, func97 → fU, ntmps97 → fQ, underlying59 → cK, results97 → cU
open Nat renaming le_trans → aP, le_refl → aj, lt_of_lt_of_le → aJ
open Go.Lib renaming cell_of_heap → af, frozen_of_heap → aC, alloc_old → bj
open Go.RowKit.Below renaming heap_setCell → aM, refl → aw
open Go renaming ownsRow_setCell_other → bJ, wp_region_noPanic → ft, wp_region_held_drew → fm, wpAnyH_ready → fh, step_append_lies → bK, maxLen → ff, wpAnyH_done → bX, bodyPost_end → aW, results → aV, heap_alloc_new → aE
open Go.World renaming size_setCell → bO, news_of_block → bf, size_alloc → aB, ownsRow_nil → bS
open Go.Act renaming put → aS
open List renaming setIfInBounds_toArray → ak, set_cons_zero → aD, set_cons_succ → aF, mem_cons → aI, nodup_append → aR, nodup_cons → bV, mem_append → aN, length_cons → aG, reverse_cons → dk, append_nil → bm, eq_nil_of_length_eq_zero → cu, mem_cons_of_mem → aK, mem_singleton → aL, mem_append_right → cA, not_mem_nil → bG, length_singleton → bY, length_append → ao, append_assoc → aO, map_cons → bL, sum_cons → fo, nil_append → bQ, cons_append → bM
open Go.AllReadyH renaming cons → bu, nil → cz
open Go.NoPanic renaming normal → bP
open Option renaming mem_toList → bT
open Option.some renaming inj → an
open Prod.mk renaming inj → cv
open Bool renaming and_eq_true → aH
set_option maxRecDepth 100000
set_option maxHeartbeats 6400000
variable {w:World}{ss:List Value}{cur:Array Value}{fa:Int}{fc:Int}{dp:Int}{nuM:Int}{mn:Bool}{tv:Value}{hv:Value}{B:Nat}{R:Nat}{g:Nat}{at_:Nat}{m:Nat}
theorem MX{p sc:Nat}{sa:Option Addr}(hr:w.heap[R]? =some (mb tv at_ hv (.slice sa m sc) mn fa fc dp))(hg:w.heap[g]? =some (.cells cur 57))(hnum:cur[p+10]? =some (.int .i64 nuM))(hown:w.ownsRow B 103 3 (.slice sa m sc) m ss)(hm:m<=1000000000)(hat:at_<=1000000000)(hB:B<=w.heap.size)(hne:(aZ sa m sc).ownBlock≠some R)(Iv:g≠R)(hsg:(aZ sa m sc).ownBlock≠some g)(hci:Calls ah 108 #[.pointer (some ⟨R,0,none⟩)] w fun e w'=>e=.returned (.pointer (some ⟨g,p,none⟩))/\Below w.heap.size w w'){ea:Option Addr}{ec:Nat}{fs:Int}(hkd:cur[p]? =some (.int .i64 2))(hie:cur[p+12]? =some (.bool true))(hev:cur[p+7]? =some (.slice ea 0 ec))(hfs:cur[p+13]? =some (.int .i64 fs))(hs1:∀W,Below w.heap.size w W->Calls ah 141 #[.pointer (some ⟨R,0,none⟩),.int .i64 1,.string ⟨#[69,76,83,73,70]⟩] (W.setCell ⟨g,p+13,none⟩ (.int .i64 (m:Int))) fun e w'=>e=.returned (.bool true)/\Below (W.setCell ⟨g,p+13,none⟩ (.int .i64 (m:Int))).heap.size (W.setCell ⟨g,p+13,none⟩ (.int .i64 (m:Int))) w'):Calls ah 97 #[.pointer (some ⟨R,0,none⟩)] w fun e w'=>e=.returned (.tuple #[])/\∃W W3,Below w.heap.size w W/\Below (W.setCell ⟨g,p+13,none⟩ (.int .i64 (m:Int))).heap.size (W.setCell ⟨g,p+13,none⟩ (.int .i64 (m:Int))) W3/\sO B R tv hv (.slice sa m sc) at_ m mn fa fc dp nuM ss true W3 w':=by
 obtain⟨i0,hi,hz0,hz1,hz2⟩:=info_parts EK;have lR:=lt_of_heap hr;have lg:=lt_of_heap hg;have rW:=qet hne;have EL:=qet hsg;have U9:=qet Iv;have pQ:=qet hnum;have a0:(0:Int)<=(at_:Int):=by omega
 have a1:(at_:Int)<=1000000000:=by omega
 have m0:(0:Int)<=(m:Int):=by omega
 have m1:(m:Int)<=1000000000:=by omega
 have HW:qes (∀w1,Below w.heap.size w w1->w1.heap[R]? =some (mb tv at_ hv (.slice sa m sc) mn fa fc dp)/\w1.heap[g]? =some (.cells cur 57)/\w1.ownsRow B 103 3 (.slice sa m sc) m ss/\B<=w1.heap.size):=fun w1 hb=>⟨(hb.block R lR).trans hr,(hb.block g lg).trans hg,iy hown (fun k _ hl=>hb.block k hl),aP hB hb.size⟩
 clear hr hg hown hne hB hsg Iv;go_enter fU,fQ;go_wp2_with fail;refine hci.mono ?_;rintro e w1 ⟨rfl,hb1⟩;obtain⟨pR,hgW,vN,hBw⟩:=HW.o w1 hb1;have HRW:=qet pR;have xz:=qet hgW;have HOWN:=qet vN;have HB1:=qet hb1;have k0:w1.cell? ⟨g,p,none⟩=some (.int .i64 2):=by rw[af hgW];exact hkd
 have k12:w1.cell? ⟨g,p+12,none⟩=some (.bool true):=by rw[af hgW];exact hie
 have k7:w1.cell? ⟨g,p+7,none⟩=some (.slice ea 0 ec):=by rw[af hgW];exact hev
 have k13:w1.cell? ⟨g,p+13,none⟩=some (.int .i64 fs):=by rw[af hgW];exact hfs
 have TW:w1.frozen? ⟨g,p+13,none⟩=false:=aC hgW _;have Wc:w1.cell? ⟨R,3,none⟩=some (.slice sa m sc):=by rw[af pR];rfl
 have t4:=hs1 w1 hb1;have HX:qes ((w1.setCell ⟨g,p+13,none⟩ (.int .i64 (m:Int))).heap[R]? =some (mb tv at_ hv (.slice sa m sc) mn fa fc dp)/\(w1.setCell ⟨g,p+13,none⟩ (.int .i64 (m:Int))).heap[g]? =some (.cells (cur.setIfInBounds (p+13) (.int .i64 (m:Int))) 57)/\(w1.setCell ⟨g,p+13,none⟩ (.int .i64 (m:Int))).ownsRow B 103 3 (.slice sa m sc) m ss/\B<=(w1.setCell ⟨g,p+13,none⟩ (.int .i64 (m:Int))).heap.size):=⟨(aM w1 ⟨g,p+13,none⟩ _ R (fun e=>U9.o e.symm)).trans pR,pP hgW _,bJ vN (a:=⟨g,p+13,none⟩) EL.o _,by rw[bO];exact hBw⟩
 clear hci HW pR hgW vN hb1 HRW xz HOWN hBw hs1;go_wp2_with fail;refine t4.mono ?_;rintro e w4 ⟨rfl,hb4⟩;have HB4:=qet hb4;clear t4 hb4 k0 k12 k7 k13 TW Wc;obtain⟨Au,Av,EM,hBw'⟩:=HX.o;have pR:w4.heap[R]? =some (mb tv at_ hv (.slice sa m sc) mn fa fc dp):=(HB4.o.block R (lt_of_heap Au)).trans Au;have hgW:w4.heap[g]? =some (.cells (cur.setIfInBounds (p+13) (.int .i64 (m:Int))) 57):=(HB4.o.block g (lt_of_heap Av)).trans Av;have vN:w4.ownsRow B 103 3 (.slice sa m sc) m ss:=iy EM (fun k _ hl=>HB4.o.block k hl);have hBw:B<=w4.heap.size:=aP hBw' HB4.o.size;have EN:=pQ.o
 have pQ:qes ((cur.setIfInBounds (p+13) (.int .i64 (m:Int)))[p+10]? =some (.int .i64 nuM)):=by
  show _=_;rw[Array.getElem?_setIfInBounds_ne (by omega)];exact EN
 have HRW:=qet pR;have xz:=qet hgW;have HOWN:=qet vN;have kn:w4.cell? ⟨g,p+10,none⟩=some (.int .i64 nuM):=by rw[af hgW];exact pQ.o
 have c3:w4.cell? ⟨R,3,none⟩=some (.slice sa m sc):=by rw[af pR];rfl
 have c1:w4.cell? ⟨R,1,none⟩=some (.int .i64 (at_:Int)):=by rw[af pR];rfl
 have Va:∀o,(w4.alloc o).cell? ⟨R,3,none⟩=some (.slice sa m sc):=fun o=>(World.cell?_alloc_lt _ _ _ (lt_of_heap pR)).trans c3
 clear pR hgW vN Au Av EM hBw' HX EN;go_wp2;have KA:∀o,(w4.alloc o).cell? ⟨R,1,none⟩=some (.int .i64 (at_:Int))/\(w4.alloc o).cell? ⟨g,p+10,none⟩=some (.int .i64 nuM):=fun o=>⟨(World.cell?_alloc_lt _ _ _ (lt_of_heap HRW.o)).trans c1,(World.cell?_alloc_lt _ _ _ (lt_of_heap xz.o)).trans kn⟩
 have xR:=qet KA;clear KA;refine ft ?_;refine fm (S:=fun W=>W.cell? ⟨R,1,none⟩=some (.int .i64 (at_:Int))/\W.cell? ⟨g,p+10,none⟩=some (.int .i64 nuM)) (by kernel_rfl) (show w4.cell? _=_/\w4.cell? _=_ from⟨c1,kn⟩) (fun hHeld=>?_);refine je 0 (.pointer (some ⟨R,0,none⟩)) hHeld ?_;refine je 1 (.pointer (some ⟨R,0,none⟩)) hHeld ?_;refine je 2 (.pointer (some ⟨R,0,none⟩)) hHeld ?_;refine je 3 (.pointer (some ⟨R,3,none⟩)) hHeld ?_;refine je 5 (.pointer (some ⟨R,0,none⟩)) hHeld ?_;refine je 6 (.pointer (some ⟨R,0,none⟩)) hHeld ?_;refine je 7 (.pointer (some ⟨R,1,none⟩)) hHeld ?_;refine je 8 (.int .i64 (at_:Int)) hHeld ?_;refine je 9 (.pointer (some ⟨g,p,none⟩)) hHeld ?_;refine je 10 (.pointer (some ⟨g,p,none⟩)) hHeld ?_;refine je 11 (.pointer (some ⟨g,p+10,none⟩)) hHeld ?_;refine je 12 (.int .i64 nuM) hHeld ?_;refine je 13 (.bool true) hHeld ?_;refine je 14 (.agg #[.int .i64 (at_:Int),.int .i64 nuM,.bool true]) hHeld ?_
 try simp only[aS,ak,aD,aF]
 refine fh (rs:=[4,15]) (by kernel_rfl) (by simp) ?_;refine bu (o:={dst:=some 53,op:=_,type:=_,pos:=_,after:=_,guard:=none}) rfl (fun K hK=>?_) (bu (o:={dst:=some 64,op:=_,type:=_,pos:=_,after:=_,guard:=none}) rfl (fun K hK=>?_) cz)
 ·go_simp
  refine hK.out _ _ ?_ (fun hHeld=>?_)
  ·first|exact hHeld|exact xR.o _
  clear hK K
  try simp only[aS,ak,aD,aF]
  refine mI 15 (fun K hK=>?_)
  go_simp
  refine hK.out _ _ ?_ (fun hHeld=>?_)
  ·first|exact hHeld|exact xR.o _
  clear hK K
  try simp only[aS,ak,aD,aF]
  refine mI 16 (fun K hK=>?_)
  (refine bK _ (by rfl) _ _ _ (by rfl) B 103 i0 _ 3 24 cK hi hz0 hz1 hz2 rfl (by omega) (.slice sa m sc) m _ (by rfl) (by exact(HOWN.o.alloc _)) ⟨w4.heap.size,0,none⟩ 1 1 [.int .i64 (at_:Int),.int .i64 nuM,.bool true] (by rfl) (by rfl) (bf (cs:=#[.int .i64 (at_:Int),.int .i64 nuM,.bool true]) (t:=103) (fr:=(0,0)) (by exact alloc_at w4 _)) (by simp[aY]) (by omega) (by unfold ff;omega) (by omega) (by simp;omega) _ rfl ?_;intro gg cap' w9 hown1 hgrow hat hlt;have f1:=iE HRW.o hgrow rW.o;have f2:=iE xz.o hgrow EL.o;have q3:w9.cell? ⟨R,3,none⟩=some (.slice sa m sc):=(by rw[af f1];rfl);have FI:w9.frozen? ⟨R,3,none⟩=false:=aC f1 3;have q1:w9.cell? ⟨R,1,none⟩=some (.int .i64 (at_:Int)):=(by rw[af f1];rfl);have qn:w9.cell? ⟨g,p+10,none⟩=some (.int .i64 nuM):=(by rw[af f2];exact pQ.o);have HG:=qet hgrow;have HA:=qet hat;have mh:=qet hown1;clear hgrow f1 f2 hown1 hat hlt)
  refine hK.out _ _ ?_ (fun hHeld=>?_)
  ·exact⟨q1,qn⟩
  clear hK K
  try simp only[aS,ak,aD,aF]
  refine je 17 (.pointer (some ⟨R,0,none⟩)) hHeld ?_;refine je 18 (.pointer (some ⟨R,3,none⟩)) hHeld ?_
  try simp only[aS,ak,aD,aF]
  refine mI 19 (fun K hK=>?_)
  go_simp
  refine hK.out _ _ ?_ (fun hHeld=>?_)
  ·exact⟨(World.cell?_setCell_other _ _ _ _ (by simp)).trans q1,(World.cell?_setCell_other _ _ _ _ (by simp)).trans qn⟩
  clear hK K
  try simp only[aS]
  refine bX (by kernel_rfl) ?_ _;refine bP ?_;go_wp2;refine aW (v:=.tuple #[]) ?_ rfl ⟨rfl,?_⟩
  ·simp[aV,cU,go_sem]
  ·exact⟨w1,w4,HB1.o,HB4.o,mq HRW.o rW.o HG.o HA.o mh.o⟩
 ·go_simp
  refine hK.out _ _ ?_ (fun hHeld=>?_)
  ·first|exact hHeld|exact xR.o _
  clear hK K
  try simp only[aS,ak,aD,aF]
  refine mI 4 (fun K hK=>?_)
  go_simp
  refine hK.out _ _ ?_ (fun hHeld=>?_)
  ·first|exact hHeld|exact xR.o _
  clear hK K
  try simp only[aS,ak,aD,aF]
  refine mI 16 (fun K hK=>?_)
  (refine bK _ (by rfl) _ _ _ (by rfl) B 103 i0 _ 3 24 cK hi hz0 hz1 hz2 rfl (by omega) (.slice sa m sc) m _ (by rfl) (by exact(HOWN.o.alloc _)) ⟨w4.heap.size,0,none⟩ 1 1 [.int .i64 (at_:Int),.int .i64 nuM,.bool true] (by rfl) (by rfl) (bf (cs:=#[.int .i64 (at_:Int),.int .i64 nuM,.bool true]) (t:=103) (fr:=(0,0)) (by exact alloc_at w4 _)) (by simp[aY]) (by omega) (by unfold ff;omega) (by omega) (by simp;omega) _ rfl ?_;intro gg cap' w9 hown1 hgrow hat hlt;have f1:=iE HRW.o hgrow rW.o;have f2:=iE xz.o hgrow EL.o;have q3:w9.cell? ⟨R,3,none⟩=some (.slice sa m sc):=(by rw[af f1];rfl);have FI:w9.frozen? ⟨R,3,none⟩=false:=aC f1 3;have q1:w9.cell? ⟨R,1,none⟩=some (.int .i64 (at_:Int)):=(by rw[af f1];rfl);have qn:w9.cell? ⟨g,p+10,none⟩=some (.int .i64 nuM):=(by rw[af f2];exact pQ.o);have HG:=qet hgrow;have HA:=qet hat;have mh:=qet hown1;clear hgrow f1 f2 hown1 hat hlt)
  refine hK.out _ _ ?_ (fun hHeld=>?_)
  ·exact⟨q1,qn⟩
  clear hK K
  try simp only[aS,ak,aD,aF]
  refine je 17 (.pointer (some ⟨R,0,none⟩)) hHeld ?_;refine je 18 (.pointer (some ⟨R,3,none⟩)) hHeld ?_
  try simp only[aS,ak,aD,aF]
  refine mI 19 (fun K hK=>?_)
  go_simp
  refine hK.out _ _ ?_ (fun hHeld=>?_)
  ·exact⟨(World.cell?_setCell_other _ _ _ _ (by simp)).trans q1,(World.cell?_setCell_other _ _ _ _ (by simp)).trans qn⟩
  clear hK K
  try simp only[aS]
  refine bX (by kernel_rfl) ?_ _;refine bP ?_;go_wp2;refine aW (v:=.tuple #[]) ?_ rfl ⟨rfl,?_⟩
  ·simp[aV,cU,go_sem]
  ·exact⟨w1,w4,HB1.o,HB4.o,mq HRW.o rW.o HG.o HA.o mh.o⟩
theorem MY{p sc:Nat}{sa:Option Addr}(hr:w.heap[R]? =some (mb tv at_ hv (.slice sa m sc) mn fa fc dp))(hg:w.heap[g]? =some (.cells cur 57))(hnum:cur[p+10]? =some (.int .i64 nuM))(hown:w.ownsRow B 103 3 (.slice sa m sc) m ss)(hm:m<=1000000000)(hat:at_<=1000000000)(hB:B<=w.heap.size)(hne:(aZ sa m sc).ownBlock≠some R)(Iv:g≠R)(hsg:(aZ sa m sc).ownBlock≠some g)(hci:Calls ah 108 #[.pointer (some ⟨R,0,none⟩)] w fun e w'=>e=.returned (.pointer (some ⟨g,p,none⟩))/\Below w.heap.size w w'){ea:Option Addr}{ec:Nat}{fs:Int}(hkd:cur[p]? =some (.int .i64 2))(hie:cur[p+12]? =some (.bool true))(hev:cur[p+7]? =some (.slice ea 0 ec))(hfs:cur[p+13]? =some (.int .i64 fs))(hs1:∀W,Below w.heap.size w W->Calls ah 141 #[.pointer (some ⟨R,0,none⟩),.int .i64 1,.string ⟨#[69,76,83,73,70]⟩] (W.setCell ⟨g,p+13,none⟩ (.int .i64 (m:Int))) fun e w'=>e=.returned (.bool false)/\Below (W.setCell ⟨g,p+13,none⟩ (.int .i64 (m:Int))).heap.size (W.setCell ⟨g,p+13,none⟩ (.int .i64 (m:Int))) w'){e2:Bool}(hs2:∀W W2,Below w.heap.size w W->Below (W.setCell ⟨g,p+13,none⟩ (.int .i64 (m:Int))).heap.size (W.setCell ⟨g,p+13,none⟩ (.int .i64 (m:Int))) W2->Calls ah 141 #[.pointer (some ⟨R,0,none⟩),.int .i64 1,.string ⟨#[73,70]⟩] W2 fun e w'=>e=.returned (.bool e2)/\Below W2.heap.size W2 w'):Calls ah 97 #[.pointer (some ⟨R,0,none⟩)] w fun e w'=>e=.returned (.tuple #[])/\∃W W3,Below w.heap.size w W/\Below (W.setCell ⟨g,p+13,none⟩ (.int .i64 (m:Int))).heap.size (W.setCell ⟨g,p+13,none⟩ (.int .i64 (m:Int))) W3/\sO B R tv hv (.slice sa m sc) at_ m mn fa fc dp nuM ss e2 W3 w':=by
 obtain⟨i0,hi,hz0,hz1,hz2⟩:=info_parts EK;have lR:=lt_of_heap hr;have lg:=lt_of_heap hg;have rW:=qet hne;have EL:=qet hsg;have U9:=qet Iv;have pQ:=qet hnum;have a0:(0:Int)<=(at_:Int):=by omega
 have a1:(at_:Int)<=1000000000:=by omega
 have m0:(0:Int)<=(m:Int):=by omega
 have m1:(m:Int)<=1000000000:=by omega
 have HW:qes (∀w1,Below w.heap.size w w1->w1.heap[R]? =some (mb tv at_ hv (.slice sa m sc) mn fa fc dp)/\w1.heap[g]? =some (.cells cur 57)/\w1.ownsRow B 103 3 (.slice sa m sc) m ss/\B<=w1.heap.size):=fun w1 hb=>⟨(hb.block R lR).trans hr,(hb.block g lg).trans hg,iy hown (fun k _ hl=>hb.block k hl),aP hB hb.size⟩
 clear hr hg hown hne hB hsg Iv;go_enter fU,fQ;go_wp2_with fail;refine hci.mono ?_;rintro e w1 ⟨rfl,hb1⟩;obtain⟨pR,hgW,vN,hBw⟩:=HW.o w1 hb1;have HRW:=qet pR;have xz:=qet hgW;have HOWN:=qet vN;have HB1:=qet hb1;have k0:w1.cell? ⟨g,p,none⟩=some (.int .i64 2):=by rw[af hgW];exact hkd
 have k12:w1.cell? ⟨g,p+12,none⟩=some (.bool true):=by rw[af hgW];exact hie
 have k7:w1.cell? ⟨g,p+7,none⟩=some (.slice ea 0 ec):=by rw[af hgW];exact hev
 have k13:w1.cell? ⟨g,p+13,none⟩=some (.int .i64 fs):=by rw[af hgW];exact hfs
 have TW:w1.frozen? ⟨g,p+13,none⟩=false:=aC hgW _;have Wc:w1.cell? ⟨R,3,none⟩=some (.slice sa m sc):=by rw[af pR];rfl
 have t4:=hs1 w1 hb1;have HX:qes ((w1.setCell ⟨g,p+13,none⟩ (.int .i64 (m:Int))).heap[R]? =some (mb tv at_ hv (.slice sa m sc) mn fa fc dp)/\(w1.setCell ⟨g,p+13,none⟩ (.int .i64 (m:Int))).heap[g]? =some (.cells (cur.setIfInBounds (p+13) (.int .i64 (m:Int))) 57)/\(w1.setCell ⟨g,p+13,none⟩ (.int .i64 (m:Int))).ownsRow B 103 3 (.slice sa m sc) m ss/\B<=(w1.setCell ⟨g,p+13,none⟩ (.int .i64 (m:Int))).heap.size):=⟨(aM w1 ⟨g,p+13,none⟩ _ R (fun e=>U9.o e.symm)).trans pR,pP hgW _,bJ vN (a:=⟨g,p+13,none⟩) EL.o _,by rw[bO];exact hBw⟩
 clear hci HW pR hgW vN hb1 HRW xz HOWN hBw hs1;go_wp2_with fail;refine t4.mono ?_;rintro e w4 ⟨rfl,hb4⟩;have HB4:=qet hb4;clear t4 hb4 k0 k12 k7 k13 TW Wc;have t5:=hs2 w1 w4 HB1.o HB4.o;clear hs2;go_wp2_with fail;refine t5.mono ?_;rintro e w5 ⟨rfl,hb5⟩;have FK:=qet (HB4.o.trans (hb5.mono HB4.o.size));clear t5 hb5;obtain⟨Au,Av,EM,hBw'⟩:=HX.o;have pR:w5.heap[R]? =some (mb tv at_ hv (.slice sa m sc) mn fa fc dp):=(FK.o.block R (lt_of_heap Au)).trans Au;have hgW:w5.heap[g]? =some (.cells (cur.setIfInBounds (p+13) (.int .i64 (m:Int))) 57):=(FK.o.block g (lt_of_heap Av)).trans Av;have vN:w5.ownsRow B 103 3 (.slice sa m sc) m ss:=iy EM (fun k _ hl=>FK.o.block k hl);have hBw:B<=w5.heap.size:=aP hBw' FK.o.size;have EN:=pQ.o
 have pQ:qes ((cur.setIfInBounds (p+13) (.int .i64 (m:Int)))[p+10]? =some (.int .i64 nuM)):=by
  show _=_;rw[Array.getElem?_setIfInBounds_ne (by omega)];exact EN
 have HRW:=qet pR;have xz:=qet hgW;have HOWN:=qet vN;have kn:w5.cell? ⟨g,p+10,none⟩=some (.int .i64 nuM):=by rw[af hgW];exact pQ.o
 have c3:w5.cell? ⟨R,3,none⟩=some (.slice sa m sc):=by rw[af pR];rfl
 have c1:w5.cell? ⟨R,1,none⟩=some (.int .i64 (at_:Int)):=by rw[af pR];rfl
 have Va:∀o,(w5.alloc o).cell? ⟨R,3,none⟩=some (.slice sa m sc):=fun o=>(World.cell?_alloc_lt _ _ _ (lt_of_heap pR)).trans c3
 clear pR hgW vN Au Av EM hBw' HX EN;go_wp2;have KA:∀o,(w5.alloc o).cell? ⟨R,1,none⟩=some (.int .i64 (at_:Int))/\(w5.alloc o).cell? ⟨g,p+10,none⟩=some (.int .i64 nuM):=fun o=>⟨(World.cell?_alloc_lt _ _ _ (lt_of_heap HRW.o)).trans c1,(World.cell?_alloc_lt _ _ _ (lt_of_heap xz.o)).trans kn⟩
 have xR:=qet KA;clear KA;refine ft ?_;refine fm (S:=fun W=>W.cell? ⟨R,1,none⟩=some (.int .i64 (at_:Int))/\W.cell? ⟨g,p+10,none⟩=some (.int .i64 nuM)) (by kernel_rfl) (show w5.cell? _=_/\w5.cell? _=_ from⟨c1,kn⟩) (fun hHeld=>?_);refine je 0 (.pointer (some ⟨R,0,none⟩)) hHeld ?_;refine je 1 (.pointer (some ⟨R,0,none⟩)) hHeld ?_;refine je 2 (.pointer (some ⟨R,0,none⟩)) hHeld ?_;refine je 3 (.pointer (some ⟨R,3,none⟩)) hHeld ?_;refine je 5 (.pointer (some ⟨R,0,none⟩)) hHeld ?_;refine je 6 (.pointer (some ⟨R,0,none⟩)) hHeld ?_;refine je 7 (.pointer (some ⟨R,1,none⟩)) hHeld ?_;refine je 8 (.int .i64 (at_:Int)) hHeld ?_;refine je 9 (.pointer (some ⟨g,p,none⟩)) hHeld ?_;refine je 10 (.pointer (some ⟨g,p,none⟩)) hHeld ?_;refine je 11 (.pointer (some ⟨g,p+10,none⟩)) hHeld ?_;refine je 12 (.int .i64 nuM) hHeld ?_;refine je 13 (.bool e2) hHeld ?_;refine je 14 (.agg #[.int .i64 (at_:Int),.int .i64 nuM,.bool e2]) hHeld ?_
 try simp only[aS,ak,aD,aF]
 refine fh (rs:=[4,15]) (by kernel_rfl) (by simp) ?_;refine bu (o:={dst:=some 53,op:=_,type:=_,pos:=_,after:=_,guard:=none}) rfl (fun K hK=>?_) (bu (o:={dst:=some 64,op:=_,type:=_,pos:=_,after:=_,guard:=none}) rfl (fun K hK=>?_) cz)
 ·go_simp
  refine hK.out _ _ ?_ (fun hHeld=>?_)
  ·first|exact hHeld|exact xR.o _
  clear hK K
  try simp only[aS,ak,aD,aF]
  refine mI 15 (fun K hK=>?_)
  go_simp
  refine hK.out _ _ ?_ (fun hHeld=>?_)
  ·first|exact hHeld|exact xR.o _
  clear hK K
  try simp only[aS,ak,aD,aF]
  refine mI 16 (fun K hK=>?_)
  (refine bK _ (by rfl) _ _ _ (by rfl) B 103 i0 _ 3 24 cK hi hz0 hz1 hz2 rfl (by omega) (.slice sa m sc) m _ (by rfl) (by exact(HOWN.o.alloc _)) ⟨w5.heap.size,0,none⟩ 1 1 [.int .i64 (at_:Int),.int .i64 nuM,.bool e2] (by rfl) (by rfl) (bf (cs:=#[.int .i64 (at_:Int),.int .i64 nuM,.bool e2]) (t:=103) (fr:=(0,0)) (by exact alloc_at w5 _)) (by simp[aY]) (by omega) (by unfold ff;omega) (by omega) (by simp;omega) _ rfl ?_;intro gg cap' w9 hown1 hgrow hat hlt;have f1:=iE HRW.o hgrow rW.o;have f2:=iE xz.o hgrow EL.o;have q3:w9.cell? ⟨R,3,none⟩=some (.slice sa m sc):=(by rw[af f1];rfl);have FI:w9.frozen? ⟨R,3,none⟩=false:=aC f1 3;have q1:w9.cell? ⟨R,1,none⟩=some (.int .i64 (at_:Int)):=(by rw[af f1];rfl);have qn:w9.cell? ⟨g,p+10,none⟩=some (.int .i64 nuM):=(by rw[af f2];exact pQ.o);have HG:=qet hgrow;have HA:=qet hat;have mh:=qet hown1;clear hgrow f1 f2 hown1 hat hlt)
  refine hK.out _ _ ?_ (fun hHeld=>?_)
  ·exact⟨q1,qn⟩
  clear hK K
  try simp only[aS,ak,aD,aF]
  refine je 17 (.pointer (some ⟨R,0,none⟩)) hHeld ?_;refine je 18 (.pointer (some ⟨R,3,none⟩)) hHeld ?_
  try simp only[aS,ak,aD,aF]
  refine mI 19 (fun K hK=>?_)
  go_simp
  refine hK.out _ _ ?_ (fun hHeld=>?_)
  ·exact⟨(World.cell?_setCell_other _ _ _ _ (by simp)).trans q1,(World.cell?_setCell_other _ _ _ _ (by simp)).trans qn⟩
  clear hK K
  try simp only[aS]
  refine bX (by kernel_rfl) ?_ _;refine bP ?_;go_wp2;refine aW (v:=.tuple #[]) ?_ rfl ⟨rfl,?_⟩
  ·simp[aV,cU,go_sem]
  ·exact⟨w1,w5,HB1.o,FK.o,mq HRW.o rW.o HG.o HA.o mh.o⟩
 ·go_simp
  refine hK.out _ _ ?_ (fun hHeld=>?_)
  ·first|exact hHeld|exact xR.o _
  clear hK K
  try simp only[aS,ak,aD,aF]
  refine mI 4 (fun K hK=>?_)
  go_simp
  refine hK.out _ _ ?_ (fun hHeld=>?_)
  ·first|exact hHeld|exact xR.o _
  clear hK K
  try simp only[aS,ak,aD,aF]
  refine mI 16 (fun K hK=>?_)
  (refine bK _ (by rfl) _ _ _ (by rfl) B 103 i0 _ 3 24 cK hi hz0 hz1 hz2 rfl (by omega) (.slice sa m sc) m _ (by rfl) (by exact(HOWN.o.alloc _)) ⟨w5.heap.size,0,none⟩ 1 1 [.int .i64 (at_:Int),.int .i64 nuM,.bool e2] (by rfl) (by rfl) (bf (cs:=#[.int .i64 (at_:Int),.int .i64 nuM,.bool e2]) (t:=103) (fr:=(0,0)) (by exact alloc_at w5 _)) (by simp[aY]) (by omega) (by unfold ff;omega) (by omega) (by simp;omega) _ rfl ?_;intro gg cap' w9 hown1 hgrow hat hlt;have f1:=iE HRW.o hgrow rW.o;have f2:=iE xz.o hgrow EL.o;have q3:w9.cell? ⟨R,3,none⟩=some (.slice sa m sc):=(by rw[af f1];rfl);have FI:w9.frozen? ⟨R,3,none⟩=false:=aC f1 3;have q1:w9.cell? ⟨R,1,none⟩=some (.int .i64 (at_:Int)):=(by rw[af f1];rfl);have qn:w9.cell? ⟨g,p+10,none⟩=some (.int .i64 nuM):=(by rw[af f2];exact pQ.o);have HG:=qet hgrow;have HA:=qet hat;have mh:=qet hown1;clear hgrow f1 f2 hown1 hat hlt)
  refine hK.out _ _ ?_ (fun hHeld=>?_)
  ·exact⟨q1,qn⟩
  clear hK K
  try simp only[aS,ak,aD,aF]
  refine je 17 (.pointer (some ⟨R,0,none⟩)) hHeld ?_;refine je 18 (.pointer (some ⟨R,3,none⟩)) hHeld ?_
  try simp only[aS,ak,aD,aF]
  refine mI 19 (fun K hK=>?_)
  go_simp
  refine hK.out _ _ ?_ (fun hHeld=>?_)
  ·exact⟨(World.cell?_setCell_other _ _ _ _ (by simp)).trans q1,(World.cell?_setCell_other _ _ _ _ (by simp)).trans qn⟩
  clear hK K
  try simp only[aS]
  refine bX (by kernel_rfl) ?_ _;refine bP ?_;go_wp2;refine aW (v:=.tuple #[]) ?_ rfl ⟨rfl,?_⟩
  ·simp[aV,cU,go_sem]
  ·exact⟨w1,w5,HB1.o,FK.o,mq HRW.o rW.o HG.o HA.o mh.o⟩
variable {W:World}{w':World}{os:List Nat}{O:List Nat}{sv:Value}{r:Rs}{X:List Nat}{c:Cx}
theorem oh.begun(h:oh c X r at_ hv sv fa fc os O w){Y:List Nat}(hkW:gR Y w W)(hY:∀y,y∈Y->y∈O){r':Rs}(U7:∃cs,W.ownsRow c.B 57 14 hv r'.hs.length cs/\hsR c.B W (ji O) r'.hs.reverse cs os){e:Bool}(hb:sO c.B c.R c.tv hv sv at_ r.gY.length r.many fa fc c.dp nuM ss e W w')(hss:ss++[.int .i64 (at_:Int),.int .i64 nuM,.bool e]=uY c.toks.length r'.gY)(e1:r'.rest=r.rest)(e2:r'.gY.length=r.gY.length+1)(e3:r'.many=r.many)(e4:r'.fault=r.fault)(hgood:Good c.toks.length r'):∃O',RM c X r' O' w'/\Gone O w O' w':=by
 obtain⟨gg,cap,b1,b2,b3,b4,b5⟩:=hb;have hnd:=h.nodup;have hown:=h.own;rw[hown]at hnd;have hsz:=hkW.size;have xO:sv.ownBlock=some gg\/gg∉O:=b3.imp id fun hl hm=>by have:=(h.high gg hm).2;omega
 have hself:O=(X++c.R::hv.ownBlock.toList)++(sv.ownBlock.toList++os):=by rw[hown];simp
 obtain⟨n1,n2⟩:=qM hself h.nodup xO
 have hk2:gR O W w':=b5.more fun k hk _=>by
  rw[hself]
  rcases aI.1 hk with rfl|hk
  ·simp
  ·simp only[bT]at hk;simp[hk]
 have sM:gR O w w':=(hkW.more fun k hk _=>hY k hk).trans hk2
 have hfr:∀b,b∈X++c.R::(hv.ownBlock.toList++((some gg).toList++os))->b∈O\/(w.heap.size<=b/\b<w'.heap.size):=fun b hb=>by
  rcases n2 b (by simpa using hb)with hb|rfl
  ·exact .inl hb
  ·rcases xO with h1|h1
   ·left;rw[hself,h1];simp
   ·have:=b3.resolve_left (fun e=>h1 (by rw[hself,e];simp));exact .inr ⟨by omega,(b2.lt b rfl).2⟩
 have hon:On (ji O) (ji (X++c.R::(hv.ownBlock.toList++((some gg).toList++os)))) W w':=fun b hb hlb=>by
  refine⟨fun hm=>?_,hk2.block b hlb hb⟩
  rcases n2 b (by simpa using hm)with h1|rfl
  ·exact hb h1
  ·rcases b3 with h1|h1
   ·exact hb (by rw[hself,h1];simp)
   ·omega
 have lL:∀k,k∈hv.ownBlock.toList++os->k<W.heap.size->w'.heap[k]? =W.heap[k]? :=fun k hk hlk=>b5.block k hlk (fun hm=>by
  rw[aR]at hnd;have hn2:=hnd.2.1;rw[bV,aR]at hn2;obtain⟨p1,p2,p3,p4⟩:=hn2;rw[aR]at p3
  rcases aI.1 hm with rfl|hm
  ·exact p1 (by simp only[aN]at hk ⊢;rcases hk with h|h;exact .inl h;exact .inr (.inr h))
  ·rcases aN.1 hk with hk|hk
   ·exact p4 k hk k (by simp only[aN];exact .inl hm) rfl
   ·exact p3.2.2 k hm k hk rfl)
 obtain⟨cs,c1,c2⟩:=U7;obtain⟨y1,y2⟩:=h.make (r':=r') (at':=at_) (hv':=hv) (sv':=.slice (some ⟨gg,0,none⟩) (r.gY.length+1) cap) (Ev:=fa) (Ew:=fc) (os':=os) (O':=X++c.R::(hv.ownBlock.toList++((some gg).toList++os))) sM (by rw[e3];exact b1) h.rb.here (by rw[e1];exact h.rest) (by rw[e4];exact h.fl) ⟨cs,iy c1 (fun k hk=>lL k (by simp[hk])),hsR.on hon _ _ _ c2 (fun k hk=>lL k (by simp[hk]))⟩ (by rw[e2,<-hss];exact b2) rfl (by simpa using n1) hfr hgood;exact⟨_,⟨_,_,_,_,_,_,y1⟩,y2⟩
theorem MZ(n:Nat):∀(l:List Sr)(i:Nat)(s:Sr),l[i]? =some s->(uY n l)[i*3]? =some (.int .i64 ((n-s.left:Nat):Int))/\(uY n l)[i*3+1]? =some (.int .i64 s.within)/\(uY n l)[i*3+2]? =some (.bool s.iU)
 |[],_,_,h=>by cases h
 |t::l,0,s,h=>by
  obtain rfl:=an h;exact⟨rfl,rfl,rfl⟩
 |t::l,i+1,s,h=>by
  obtain⟨a,b,d⟩:=MZ n l i s h;refine⟨?_,?_,?_⟩
  ·rw[show(i+1)*3=i*3+1+1+1 by omega];exact a
  ·rw[show(i+1)*3+1=i*3+1+1+1+1 by omega];exact b
  ·rw[show(i+1)*3+2=i*3+2+1+1+1 by omega];exact d
theorem Iw(n:Nat):∀(l:List Sr)(i:Nat),i<l.length->uY n (Dz l i)=(uY n l).set (i*3+2) (.bool false)
 |[],_,h=>by simp at h
 |t::l,0,_=>by simp[Dz,uY]
 |t::l,i+1,h=>by
  have ih:=Iw n l i (by simpa using h)
  have hc:Dz (t::l) (i+1)=t::Dz l i:=by
   unfold Dz;simp only[List.getElem?_cons_succ]
   cases l[i]? with
   |none=>rfl
   |some s=>rfl
  rw[hc,uY,ih,uY,show(i+1)*3+2=(i*3+2)+1+1+1 by omega];rfl
def TX(c:Cx)(X:List Nat)(r:Rs)(O:List Nat)(w:World)(e:Ending)(w':World):Prop:=e=.returned (.tuple #[])/\∃O',RM c X (gZ r).1 O' w'/\Gone O w O' w'
theorem Bl(hrm:RM c X r O w)(hp:r.gY.length+r.rest.length<=c.toks.length):Calls ah 97 #[.pointer (some ⟨c.R,0,none⟩)] w (TX c X r O w):=by
 have hgs:=hrm.good.start hp;obtain⟨at_,hv,sv,fa,fc,os,hx⟩:=hrm;have hl:=hx.env.tks.hl;have hgd:=hx.good;obtain⟨hd,l,hh⟩:=hgd.some;have hsl:=hgd.hsl;rw[hh,aG]at hsl;obtain⟨g,cap,cur,c1,c2,o1,o2,hvv,e2,e3,e4,e5,e6,e7,e8,e9,e10,e11⟩:=hx.open hh;have e7':=e7;obtain⟨nv,iv,xv,yv,bv,ev,av,gv,oa,ac,f1,f2,f3,f4,f5,f6,f7,f8,f9,f10,f11⟩:=e7;subst f1;obtain⟨sa,sc,hsv⟩:=lK hx.st;have hBw:c.B<=w.heap.size:=by have:=hx.high c.R hx.iL;omega
 have hown:=hx.own;rw[hvv]at hown;obtain⟨q1,q2,q3,q4,q5⟩:=mG (X:=X) (R:=c.R) (g:=g) (sv:=sv) (os:=os) (by rw[hown];rfl) hx.nodup;have hst:=hx.st
 have hci:Calls ah 108 #[.pointer (some ⟨c.R,0,none⟩)] w fun e w'=>e=.returned (.pointer (some ⟨g,l.length*14,none⟩))/\Below w.heap.size w w':=by
  have hb:=hx.rb;rw[hvv]at hb;exact lr hb (by omega)
 have hrow:=hx.rb.row;have qc6:=hgd.st;have TY:c.toks.length-r.rest.length=at_:=by rw[hx.rest,iM];have:=hx.rb.here;omega
 have hrow':=hrow;have hst':=hst;have q3':=q3;have Vb:=q4;rw[hsv]at hrow' hst' q3' Vb
 have TZ:∀W,Below w.heap.size w W->∃cs,W.ownsRow c.B 57 14 hv r.hs.length cs/\hsR c.B W (ji O) r.hs.reverse cs os:=fun W hW=>by
  obtain⟨cs,a1,a2⟩:=hx.hs;exact⟨cs,iy a1 (fun k _ hl=>hW.block k hl),hsR.on (fun b hb hl=>⟨hb,hW.block b hl⟩) _ _ _ a2 (fun k _ hl=>hW.block k hl)⟩
 by_cases hc:hd.s.kind=2/\hd.gX=true
 ·by_cases hel:hd.s.els=[]
  ·have hsm:=nO hh hc hel;rw[hsm]at hgs
   have Za:∃ea ec,ev=.slice ea 0 ec:=by
    obtain⟨cs,a1,_⟩:=f7;rw[hel]at a1;obtain⟨a,cp,h⟩:=lK a1;exact⟨a,cp,h⟩
   obtain⟨ea,ec,rfl⟩:=Za;have XY:∀W,Below w.heap.size w W->RB c.B c.R c.tv c.toks at_ hv sv r.many fa fc c.dp (W.setCell ⟨g,l.length*14+13,none⟩ (.int .i64 (r.gY.length:Int))):=fun W hW=>(hx.rb.below hW).keep ((gR.refl [g] W).setCell (p:=⟨g,l.length*14+13,none⟩) (.inl (by simp)) _) (by simp;exact(hx.high g (by rw[hown];simp[bw])).1) (by simp;exact fun e=>q1 e.symm)
   have his:∀W u,Below w.heap.size w W->Calls ah 141 #[.pointer (some ⟨c.R,0,none⟩),.int .i64 1,.string u] (W.setCell ⟨g,l.length*14+13,none⟩ (.int .i64 (r.gY.length:Int))) fun e w'=>e=.returned (.bool (jI 1 u.data.toList r))/\Below (W.setCell ⟨g,l.length*14+13,none⟩ (.int .i64 (r.gY.length:Int))).heap.size (W.setCell ⟨g,l.length*14+13,none⟩ (.int .i64 (r.gY.length:Int))) w':=fun W u hW=>by
    have:=rk (XY W hW) (by omega) 1 u;rw[<-hx.rH]at this;exact this
   have Zb:∀W W2 u,Below w.heap.size w W->Below (W.setCell ⟨g,l.length*14+13,none⟩ (.int .i64 (r.gY.length:Int))).heap.size (W.setCell ⟨g,l.length*14+13,none⟩ (.int .i64 (r.gY.length:Int))) W2->Calls ah 141 #[.pointer (some ⟨c.R,0,none⟩),.int .i64 1,.string u] W2 fun e w'=>e=.returned (.bool (jI 1 u.data.toList r))/\Below W2.heap.size W2 w':=fun W W2 u hW hW2=>by
    have:=rk ((XY W hW).below hW2) (by omega) 1 u;rw[<-hx.rH]at this;exact this
   have fin:∀ {W W3 w':World}{e:Bool},Below w.heap.size w W->Below (W.setCell ⟨g,l.length*14+13,none⟩ (.int .i64 (r.gY.length:Int))).heap.size (W.setCell ⟨g,l.length*14+13,none⟩ (.int .i64 (r.gY.length:Int))) W3->sO c.B c.R c.tv hv sv at_ r.gY.length r.many fa fc c.dp hd.num (uY c.toks.length r.gY) e W3 w'->(jI 1 jM r||jI 1 sr r)=e->∃O',RM c X (gZ r).1 O' w'/\Gone O w O' w':=fun {W W3 w' e} hW hW3 hB he=>by
    have hk:gR [g] w W3:=((gR.of_below hW).setCell (p:=⟨g,l.length*14+13,none⟩) (.inl (by simp)) _).trans (gR.of_below hW3);have e2':W.heap[g]? =some (.cells cur 57):=(hW.block g (lt_of_heap e2)).trans e2;have hset:=pP (j:=l.length*14+13) e2' (.int .i64 (r.gY.length:Int));have Wd:=(hW3.block g (lt_of_heap hset)).trans hset;have hrow2:=oL (w':=W3) (by rw[hvv]at e9;exact e9) e2 Wd;rw[set_tail e3]at hrow2;have hkk:∀k,k∈os->k<w.heap.size->W3.heap[k]? =w.heap[k]? :=fun k hk' hlk=>hk.block k hlk (by simp;exact fun e=>(q2 k hk').2.1 e)
    have hon:On (ji O) (ji O) w W3:=fun b hb hlb=>⟨hb,hk.block b hlb (by simp;rintro rfl;exact hb (by rw[hown];simp[bw]))⟩
    subst he;rw[hsm];refine hx.begun (r':={r with hs:={hd with first:=r.gY.length}::l,gY:=r.gY++[⟨r.rest.length,hd.num,jI 1 jM r||jI 1 sr r⟩]}) hk (by simp;rw[hown];simp[bw]) ?_ hB ?_ rfl (by simp) rfl rfl hgs.1
    ·refine⟨_,by rw[aG,hvv];exact hrow2,?_⟩;rw[dk,e5];refine rE _ _ _ _ _ _ (hsR.on hon _ _ _ e6 (fun k hk'=>hkk k (by rw[e5];simp[hk']))) ?_;simp only[hsR];refine⟨_,[],o2,[],(bm _).symm,rfl,(bm _).symm,?_,rfl,rfl⟩;have XZ:∀k,k∈o2->k<w.heap.size->W3.heap[k]? =w.heap[k]? :=fun k hk'=>hkk k (by rw[e5];simp[hk'])
     subst f11;exact⟨nv,iv,xv,yv,bv,_,av,gv,oa,ac,rfl,f2,f3.on hon,f4.on hon,f5.on hon,f6.on hon (fun k e=>XZ k (by simp[e])),f7.on hon (fun k e=>XZ k (by simp[e])),iy f8 (fun k e=>XZ k (by simp[e])),xL.on hon _ _ _ f9 (fun k e=>XZ k (by simp[e])),f10.on hon,rfl⟩
    ·rw[uc,uY,uY,TY]
   cases h1:jI 1 jM r with
   |true=>
    refine(MX hrow' e2 (e8 10 _ rfl) hst' (by omega) (by have:=hx.rb.here;omega) hBw Vb q1 q3' hci (e8 0 _ (by simp[hc.1])) (e8 12 _ (by simp[hc.2])) (e8 7 _ rfl) (e8 13 _ rfl) (fun W hW=>by
     have:=his W ⟨#[69,76,83,73,70]⟩ hW;rw[show jI 1 (⟨#[69,76,83,73,70]⟩:ByteArray).data.toList r=true from h1]at this
     exact this)).mono ?_
    rintro e w' ⟨rfl,W,W3,a1,a2,a3⟩;rw[<-hsv]at a3;exact⟨rfl,fin a1 a2 a3 (by rw[h1];rfl)⟩
   |false=>
    refine(MY hrow' e2 (e8 10 _ rfl) hst' (by omega) (by have:=hx.rb.here;omega) hBw Vb q1 q3' hci (e8 0 _ (by simp[hc.1])) (e8 12 _ (by simp[hc.2])) (e8 7 _ rfl) (e8 13 _ rfl) (fun W hW=>by
     have:=his W ⟨#[69,76,83,73,70]⟩ hW;rw[show jI 1 (⟨#[69,76,83,73,70]⟩:ByteArray).data.toList r=false from h1]at this
     exact this) (e2:=jI 1 sr r) (fun W W2 hW hW2=>Zb W W2 ⟨#[73,70]⟩ hW hW2)).mono ?_
    rintro e w' ⟨rfl,W,W3,a1,a2,a3⟩;rw[<-hsv]at a3;exact⟨rfl,fin a1 a2 a3 (by rw[h1];rfl)⟩
  ·have hsm:=rA hh hc hel;rw[hsm]at hgs
   have Za:∃ea ec,ev=.slice ea (hd.s.els.length-1+1) ec:=by
    obtain⟨cs,a1,_⟩:=f7;obtain⟨a,cp,h⟩:=lK a1;have:hd.s.els.length≠0:=fun e=>hel (cu e)
    exact⟨a,cp,by rw[h,show hd.s.els.length-1+1=hd.s.els.length by omega]⟩
   obtain⟨ea,ec,rfl⟩:=Za;have hw:=hgd.JN hh;have qc7:hd.s.els.length<=1000000000:=by unfold vi at hw;omega
   have hch:=hgd.ch;rw[hh]at hch;obtain⟨k2,m2,hlm⟩:=th hch (by rw[hc.1];decide);have hs0:=hgd.sn (by rw[hh,hlm];simp)
   have hfs:hd.first<r.gY.length:=by
    rcases hgd.fs hd (by rw[hh];simp)with h|h
    ·omega
    ·exact h
   obtain⟨t,ht⟩:∃t,r.gY[hd.first]? =some t:=⟨_,List.getElem?_eq_getElem hfs⟩
   have hsa:∃sb,sa=some ⟨sb,0,none⟩:=by
    rcases hst'.2 with⟨_,h0⟩|⟨g',_,_,h,_⟩
    ·omega
    ·cases h;exact⟨g',rfl⟩
   obtain⟨sb,rfl⟩:=hsa;have P7:sv.ownBlock=some sb:=by rw[hsv];rfl
   refine(P6 hrow' e2 (e8 10 _ rfl) hst' (by omega) (by have:=hx.rb.here;omega) hBw Vb q1 q3' hci (e8 0 _ (by simp[hc.1])) (e8 12 _ (by simp[hc.2])) (e8 7 _ rfl) (by omega) (e8 13 _ rfl) hfs rfl (MZ _ _ _ _ ht).2.2).mono ?_;rintro e w' ⟨rfl,W,a1,a2⟩;rw[<-hsv]at a2;refine⟨rfl,?_⟩;have hk:gR [sb] w (W.setCell ⟨sb,hd.first*3+2,none⟩ (.bool false)):=(gR.of_below a1).setCell (p:=⟨sb,hd.first*3+2,none⟩) (.inl (by simp)) _;rw[hsm];refine hx.begun (r':={r with gY:=Dz r.gY hd.first++[⟨r.rest.length,hd.num,false⟩]}) hk (by simp;rw[hown,P7];simp) ?_ a2 ?_ rfl (by simp[tj]) rfl rfl hgs.1
   ·obtain⟨cs,b1,b2⟩:=hx.hs
    refine⟨cs,iy b1 (fun k hk' hlk=>hk.block k hlk (by
     simp;rintro rfl;rw[hvv]at hk'
     exact q3 (by rw[P7];exact hk'.symm)) |>.trans rfl),hsR.on (fun b hb hlb=>⟨hb,hk.block b hlb (by simp;rintro rfl;exact hb (by rw[hown,P7];simp))⟩) _ _ _ b2 (fun k hk' hlk=>hk.block k hlk (by simp;rintro rfl;exact(q2 k hk').2.2 P7))⟩
   ·rw[uc,Iw _ _ _ hfs,uY,uY,TY]
 ·have hsm:=pZ hh hc;rw[hsm]at hgs
  have fin:∀ {W w':World},Below w.heap.size w W->sO c.B c.R c.tv hv sv at_ r.gY.length r.many fa fc c.dp hd.num (uY c.toks.length r.gY) false W w'->∃O',RM c X (gZ r).1 O' w'/\Gone O w O' w':=fun {W w'} hW hB=>by
   rw[hsm];exact hx.begun (Y:=[]) (r':={r with gY:=r.gY++[⟨r.rest.length,hd.num,false⟩]}) (gR.of_below hW) (by simp) (TZ W hW) hB (by rw[uc,uY,uY,TY]) rfl (by simp) rfl rfl hgs.1
  by_cases hk:hd.s.kind=2
  ·have hie:hd.gX=false:=by
    cases h:hd.gX with
    |false=>rfl
    |true=>exact absurd ⟨hk,h⟩ hc
   refine(MV hrow' e2 (e8 10 _ rfl) hst' (by omega) (by have:=hx.rb.here;omega) hBw Vb q1 q3' hci (e8 0 _ (by simp[hk])) (e8 12 _ (by simp[hie]))).mono ?_;rintro e w' ⟨rfl,W,a1,a2⟩;rw[<-hsv]at a2;exact⟨rfl,fin a1 a2⟩
  ·refine(MU hrow' e2 (e8 10 _ rfl) hst' (by omega) (by have:=hx.rb.here;omega) hBw Vb q1 q3' hci (e8 0 _ rfl) hk).mono ?_;rintro e w' ⟨rfl,W,a1,a2⟩;rw[<-hsv]at a2;exact⟨rfl,fin a1 a2⟩
theorem RM.push(h:RM c [] r O w)(o:Obj):RM c [w.heap.size] r (w.heap.size::O) (w.alloc o):=by
 have hb:Below w.heap.size w (w.alloc o):=(aw _ _).alloc (aj _) o;obtain⟨at_,hv,sv,fa,fc,os,hx⟩:=h;have h1:=hx.go (Y:=[]) (gR.of_below hb) (by simp) (hx.rb.below hb) hx.rest rfl rfl hx.fl (aj _);obtain⟨cs,a1,a2⟩:=hx.hs;refine⟨at_,hv,sv,fa,fc,os,h1.env,h1.rb,h1.rest,h1.fl,⟨cs,iy a1 (fun k _ hl=>hb.block k hl),hsR.on (fun b hb' hl=>⟨fun hm=>?_,hb.block b hl⟩) _ _ _ a2 (fun k _ hl=>hb.block k hl)⟩,h1.st,by rw[hx.own];rfl,?_,?_,h1.good⟩
 ·rcases aI.1 hm with rfl|hm
  ·omega
  ·exact hb' hm
 ·exact bV.2 ⟨fun hm=>by have:=(hx.high _ hm).2;omega,hx.nodup⟩
 ·intro b hb'
  rcases aI.1 hb' with rfl|hb'
  ·have:=hx.high c.R hx.iL;rw[aB];omega
  ·exact h1.high b hb'
variable {T:Nat}
theorem RM.drop(h:RM c [T] r O w):∃O1,O=T::O1/\RM c [] r O1 w:=by
 obtain⟨at_,hv,sv,fa,fc,os,hx⟩:=h;refine⟨_,hx.own,at_,hv,sv,fa,fc,os,hx.env,hx.rb,hx.rest,hx.fl,?_,hx.st,rfl,?_,fun b hb=>hx.high b (by rw[hx.own];simpa using .inr (by simpa using hb)),hx.good⟩
 ·obtain⟨cs,a1,a2⟩:=hx.hs;exact⟨cs,a1,hsR.on (fun b hb _=>⟨fun hm=>hb (by rw[hx.own];exact aK _ hm),rfl⟩) _ _ _ a2 (fun _ _ _=>rfl)⟩
 ·have:=hx.nodup;rw[hx.own]at this;exact(bV.1 this).2
theorem Gone.drop{O1:List Nat}{w1:World}(h:Gone (T::O) w1 (T::O1) w')(hT:w.heap.size<=T)(hb:Below w.heap.size w w1):Gone O w O1 w':=by
 refine⟨⟨h.keep.os.trans hb.os,h.keep.tape.trans hb.tape,h.keep.output.trans hb.output,aP hb.size h.keep.size,fun k hk ho=>?_⟩,fun b hb'=>?_⟩
 ·refine(h.keep.block k (aJ hk hb.size) (fun hm=>?_)).trans (hb.block k hk)
  rcases aI.1 hm with rfl|hm
  ·omega
  ·exact ho hm
 ·rcases h.own b (aK _ hb')with h1|h1
  ·rcases aI.1 h1 with rfl|h1
   ·exact .inr hT
   ·exact .inl h1
  ·exact .inr (aP hb.size h1)
variable {P:Nat->Prop}
theorem TB.new{kd b:Int}(h:w.heap[T]? =some (.cells #[.int .i64 kd,.string ⟨#[]⟩,.slice none 0 0,.slice none 0 0,.slice none 0 0,.int .i64 b,.slice none 0 0,.slice none 0 0,.slice none 0 0,.slice none 0 0] 48)):TB T {st0 with kind:=kd,gT:=b} P w:=by
 have hp:mg w P [] (.slice none 0 0):=⟨[],rfl,none,0,0,0,rfl,by simp,rfl,fun h=>by simp at h,fun j u hu=>by cases hu⟩
 exact⟨⟨#[]⟩,_,_,_,_,h,rfl,hp,hp,hp,⟨[],⟨none,0,0,0,rfl,by simp[st0],rfl,fun h=>absurd h (by simp[st0]),fun j u hu=>by cases hu⟩,rfl⟩,rfl,rfl,rfl⟩
theorem RM.jF(h:RM c X r O w)(hne:r.rest≠[]):∃at_:Nat,at_<c.toks.length/\w.cell? ⟨c.R,1,none⟩=some (.int .i64 (at_:Int))/\w.frozen? ⟨c.R,1,none⟩=false/\RM c X (jF r) O (w.setCell ⟨c.R,1,none⟩ (.int .i64 ((at_+1:Nat):Int)))/\Gone O w O (w.setCell ⟨c.R,1,none⟩ (.int .i64 ((at_+1:Nat):Int))):=by
 obtain⟨at_,hv,sv,fa,fc,os,hx⟩:=h
 have hlt:at_<c.toks.length:=by
  apply Decidable.byContradiction;intro hn;exact hne (by rw[hx.rest,nF (by omega)])
 have hr:=hx.rb.row;unfold mb at hr;have hrb:=hx.rb.put (n:=at_+1) hlt rfl;have hrest:(_root_.Go.Proofs.YtekanffohkeoeaaGreatDoor.jF r).rest=lst c.toks (at_+1):=by show r.rest.tail=_;rw[hx.rest,mo]
 refine⟨at_,hlt,by rw[af hr];rfl,aC hr 1,⟨_,_,_,_,_,_,hx.go hrb.2 (by simp) hrb.1 hrest rfl rfl hx.fl (kV _)⟩,Gone.my hrb.2 (by simp[hx.iL])⟩
variable {l:List Hd}{hd:Hd}
theorem oh.T0(h:oh c X r at_ hv sv fa fc os O w)(hh:r.hs=hd::l)(JO:hv.ownBlock=some g)(e:Bool)(hw:w'=w.setCell ⟨g,l.length*14+11,none⟩ (.bool e))(hgood:Good c.toks.length (tt e r).1):RM c X (tt e r).1 O w'/\Gone O w O w':=by
 obtain⟨g',cap,cur,c1,c2,o1,o2,rfl,e2,e3,e4,e5,e6,e7,e8,e9,e10,e11⟩:=h.open hh;obtain rfl:g'=g:=an JO;obtain⟨nv,iv,xv,yv,bv,ev,av,gv,oa,ac,f1,f2,f3,f4,f5,f6,f7,f8,f9,f10,f11⟩:=e7;subst f1 f11 e5;have hown:=h.own;obtain⟨q1,q2,q3,q4,q5⟩:=mG (X:=X) (R:=c.R) (g:=g') (sv:=sv) (os:=o1++(bv.ownBlock.toList++(ev.ownBlock.toList++(av.ownBlock.toList++oa)))) (by rw[hown];rfl) h.nodup;have hk:gR [g'] w w':=by subst hw;exact(gR.refl _ w).setCell (p:=⟨g',l.length*14+11,none⟩) (.inl (by simp)) _
 have xO:g'∈O:=by rw[hown];simp[bw]
 have sM:gR O w w':=hk.more fun k hk' _=>by rw[aL.1 hk'];exact xO
 have hon:On (ji O) (ji O) w w':=fun b hb hlb=>⟨hb,sM.block b hlb hb⟩
 have lL:∀k,k∈o1++(bv.ownBlock.toList++(ev.ownBlock.toList++(av.ownBlock.toList++oa)))->k<w.heap.size->w'.heap[k]? =w.heap[k]? :=fun k hk' hl=>hk.block k hl (by simp;exact(q2 k hk').2.1)
 have hset:w'.heap[g']? =some (.cells (cur.setIfInBounds (l.length*14+11) (.bool e)) 57):=by subst hw;exact pP e2 _
 have hrow2:=oL e9 e2 hset;rw[set_tail e3]at hrow2;have hr:(tt e r).1={r with hs:={hd with iU:=e}::l}:=by simp[tt,iS,top,hh]
 rw[hr]at hgood ⊢;obtain⟨y1,y2⟩:=h.shut (r':={r with hs:={hd with iU:=e}::l}) (hd':={hd with iU:=e}) (sv':=sv) (O':=O) (MO:=bv.ownBlock.toList++(ev.ownBlock.toList++(av.ownBlock.toList++oa))) e6 sM ((hk.block c.R (h.high c.R h.iL).2 (by simp;exact fun e=>q1 e.symm)).trans h.rb.row) h.rb.here h.rest h.fl rfl hrow2 (by simp) ⟨nv,iv,xv,yv,bv,ev,av,gv,oa,ac,rfl,f2,f3.on hon,f4.on hon,f5.on hon,f6.on hon (fun k e=>lL k (by simp[e])),f7.on hon (fun k e=>lL k (by simp[e])),iy f8 (fun k e=>lL k (by simp[e])),xL.on hon _ _ _ f9 (fun k e=>lL k (by simp[e])),f10.on hon,rfl⟩ (fun k hk'=>lL k (by simp[hk'])) (iy h.st (fun k hk' hl=>hk.block k hl (by simp;rintro rfl;exact q3 hk'))) hown h.nodup (fun b hb=>.inl hb) hgood;exact⟨⟨_,_,_,_,_,_,y1⟩,y2⟩
def Bm:M Unit:=bnd ir fun x=>thn (gU jK) (iG {st0 with kind:=2,x:=x})
theorem ug(e:Bool)(r:Rs):mM e r=thn Bm (tt e) (jF r):=by
 unfold mM Bm;rw[show thn I2 (bnd ir fun x=>thn (gU jK) (thn (iG {st0 with kind:=2,x:=x}) (tt e))) r=(bnd ir fun x=>thn (gU jK) (thn (iG {st0 with kind:=2,x:=x}) (tt e))) (jF r)from rfl];unfold thn bnd
 cases ir (jF r)with
 |mk r1 x1=>
  cases x1 with
  |error e=>rfl
  |ok x=>
   simp only
   cases gU jK r1 with
   |mk r2 x2=>
    cases x2 with
    |error e=>rfl
    |ok _=>rfl
def R8(c:Cx)(r:Rs)(O:List Nat)(w:World)(T:Nat)(v:Value)(w':World):Prop:=∃O',v=tA c (Bm (jF r)).2/\RM c [T] (Bm (jF r)).1 O' w'/\Gone (T::O) w O' w'
theorem EO(hrm:RM c [] r O w)(hne:r.rest≠[])(hok:∀h∈r.hs,wW h)(h0:0<r.gY.length)(e:Bool)(hek:e=true->(top r).s.kind=2):Calls ah 98 #[.pointer (some ⟨c.R,0,none⟩),.bool e] w fun en w'=>∃v,en=.returned v/\pN c [] (mM e) r O w v w':=by
 obtain⟨at_,a1,a2,a3,a4,a5⟩:=hrm.jF hne;have hgd:=hrm.good;have hl:=hrm.env.tks.hl;have lR:=(hrm.high c.R hrm.iL).2;have i0:(0:Int)<=(at_:Int):=by omega
 have i1:(at_:Int)<=900000000:=by omega
 have b2:∀o,(w.alloc o).cell? ⟨c.R,1,none⟩=some (.int .i64 (at_:Int)):=fun o=>(World.cell?_alloc_lt _ _ _ lR).trans a2
 have b3:∀o,(w.alloc o).frozen? ⟨c.R,1,none⟩=false:=fun o=>(World.frozen?_of_block (bj w o c.R lR)).trans a3
 rw[show((at_+1:Nat):Int)=(at_:Int)+1 by omega]at a4 a5;obtain⟨wv,hwv⟩:∃wv,wv=w.setCell ⟨c.R,1,none⟩ (.int .i64 ((at_:Int)+1)):=⟨_,rfl⟩
 have hsz:wv.heap.size=w.heap.size:=by rw[hwv,bO]
 rw[<-hwv]at a4 a5;have p1:=a4.push (.cells #[.int .i64 2,.string ⟨#[]⟩,.slice none 0 0,.slice none 0 0,.slice none 0 0,.int .i64 0,.slice none 0 0,.slice none 0 0,.slice none 0 0,.slice none 0 0] 48);rw[hsz]at p1
 have We:(wv.alloc (.cells #[.int .i64 2,.string ⟨#[]⟩,.slice none 0 0,.slice none 0 0,.slice none 0 0,.int .i64 0,.slice none 0 0,.slice none 0 0,.slice none 0 0,.slice none 0 0] 48)).heap[w.heap.size]? =some (.cells #[.int .i64 2,.string ⟨#[]⟩,.slice none 0 0,.slice none 0 0,.slice none 0 0,.int .i64 0,.slice none 0 0,.slice none 0 0,.slice none 0 0,.slice none 0 0] 48):=by
  have:=aE wv (.cells #[.int .i64 2,.string ⟨#[]⟩,.slice none 0 0,.slice none 0 0,.slice none 0 0,.int .i64 0,.slice none 0 0,.slice none 0 0,.slice none 0 0,.slice none 0 0] 48)
  rwa [hsz]at this
 have T1:RT c (kT w.heap.size) (jF r) (some {st0 with kind:=2,gT:=0}) (w.heap.size::O) (wv.alloc (.cells #[.int .i64 2,.string ⟨#[]⟩,.slice none 0 0,.slice none 0 0,.slice none 0 0,.int .i64 0,.slice none 0 0,.slice none 0 0,.slice none 0 0,.slice none 0 0] 48)):=⟨p1,fun s hs=>by
  obtain rfl:=an hs
  exact TB.new We⟩
 have Zc:qes (∀O1 w',Gone (w.heap.size::O) (wv.alloc (.cells #[.int .i64 2,.string ⟨#[]⟩,.slice none 0 0,.slice none 0 0,.slice none 0 0,.int .i64 0,.slice none 0 0,.slice none 0 0,.slice none 0 0,.slice none 0 0] 48)) (w.heap.size::O1) w'->Gone O w O1 w'):=fun O1 w' h=>by
  have h1:Gone O wv O1 w':=h.drop (w:=wv) (by omega) ((aw _ _).alloc (aj _) _);exact a5.trans h1
 have hpre:kW [(jG,gW ir rG),(anyS,ij (gU jK)),(mx c.toks.length,jf iG)] (jF r,some {st0 with kind:=2,gT:=0}):=by
  have TK:(jF r).rest.length+1=r.rest.length:=by
   show r.rest.tail.length+1=_
   cases hr:r.rest with
   |nil=>exact absurd hr hne
   |cons t q=>simp
  have hwt:=hgd.wt;have:ue [(jG,gW ir rG),(anyS,ij (gU jK)),(mx c.toks.length,jf iG)] (jF r) 0:=rF jJ iR (j:=0) (.inl rfl) (od (iB _ _) (gV _ _) (j:=0) (.inl rfl) (Bh hok h0 (by show zk r.hs+(jF r).rest.length<=_;omega) (fun _ _ _ _ _ _ _=>trivial)));exact this (jF r) _ rfl rfl (by omega)
 have CQ:qes (∀(x1 x2 x3:World)(n1 n2 n3:Nat)(nt ca1 wY ca2 wZ ca3:Array Value),nQ c (kT w.heap.size) (w.heap.size::O) jG (gW ir rG) n1 (nt++ca1) x1->Below (wv.alloc (.cells #[.int .i64 2,.string ⟨#[]⟩,.slice none 0 0,.slice none 0 0,.slice none 0 0,.int .i64 0,.slice none 0 0,.slice none 0 0,.slice none 0 0,.slice none 0 0] 48)).heap.size (wv.alloc (.cells #[.int .i64 2,.string ⟨#[]⟩,.slice none 0 0,.slice none 0 0,.slice none 0 0,.int .i64 0,.slice none 0 0,.slice none 0 0,.slice none 0 0,.slice none 0 0] 48)) x1->nQ c (kT w.heap.size) (w.heap.size::O) anyS (ij (gU jK)) n2 (wY++ca2) x2->Below x1.heap.size x1 x2->nQ c (kT w.heap.size) (w.heap.size::O) (mx c.toks.length) (jf iG) n3 (wZ++ca3) x3->Below x2.heap.size x2 x3->Calls ah 99 #[.slice (some ⟨x3.heap.size,0,none⟩) 3 3] (x3.alloc (.cells #[.func (.func n1) nt ca1,.func (.func n2) wY ca2,.func (.func n3) wZ ca3] 141)) fun en w'=>∃v,en=.returned v/\R8 c r O (wv.alloc (.cells #[.int .i64 2,.string ⟨#[]⟩,.slice none 0 0,.slice none 0 0,.slice none 0 0,.int .i64 0,.slice none 0 0,.slice none 0 0,.slice none 0 0,.slice none 0 0] 48)) w.heap.size v w'):=fun x1 x2 x3 n1 n2 n3 nt ca1 wY ca2 wZ ca3 hp1 hb1 hp2 hb2 hp3 hb3=>by
  have hbb:=((hb1.trans (hb2.mono hb1.size)).trans (hb3.mono (hb1.trans (hb2.mono hb1.size)).size))
  refine(wu (ps:=[(n1,nt,ca1),(n2,wY,ca2),(n3,wZ,ca3)]) (ms:=[(jG,gW ir rG),(anyS,ij (gU jK)),(mx c.toks.length,jf iG)]) ⟨((hp1.below hb2).below hb3),(hp2.below hb3),hp3,trivial⟩ (by simp) T1 hbb hpre rfl).mono ?_;rintro en w' ⟨O',rfl,z1,z2⟩;have hrel:=MC (jF r);rw[show([(jG,gW ir rG),(anyS,ij (gU jK)),(mx c.toks.length,jf iG)]:List ((Sx->Prop)×Pm)).map (·.2)=[gW ir rG,ij (gU jK),jf iG]from rfl,show oc [gW ir rG,ij (gU jK),jf iG] (jF r,some {st0 with kind:=2,gT:=0})=_ from hrel]at z1 ⊢;exact⟨_,rfl,O',rfl,z1.1,z2⟩
 have CE:qes (∀v w',R8 c r O (wv.alloc (.cells #[.int .i64 2,.string ⟨#[]⟩,.slice none 0 0,.slice none 0 0,.slice none 0 0,.int .i64 0,.slice none 0 0,.slice none 0 0,.slice none 0 0,.slice none 0 0] 48)) w.heap.size v w'->(v≠.nilIface->∃b,v=ln b)/\(v≠.nilIface->pN c [] (mM e) r O w v w')/\(v=.nilIface->∃g n bo,(∀W,Below w'.heap.size w' W->Calls ah 108 #[.pointer (some ⟨c.R,0,none⟩)] W fun en W'=>en=.returned (.pointer (some ⟨g,n*14,none⟩))/\Below W.heap.size W W')/\∀W,Below w'.heap.size w' W->W.cell? ⟨g,n*14+11,none⟩=some (.bool bo)/\W.frozen? ⟨g,n*14+11,none⟩=false/\pN c [] (mM e) r O w .nilIface (W.setCell ⟨g,n*14+11,none⟩ (.bool e)))):=fun v w' hQ=>by
  obtain⟨O',hv,z1,z2⟩:=hQ
  cases hm:Bm (jF r)with
  |mk r2 x2=>
   rw[hm]at hv z1
   cases x2 with
   |error er=>
    have hov:∃b,v=ln b:=by rw[hv];cases er <;> exact⟨_,rfl⟩
    refine⟨fun _=>hov,fun _=>?_,fun h=>?_⟩
    ·obtain⟨O1,rfl,y1⟩:=z1.drop;have hce:mM e r=(r2,.error er):=by rw[ug];simp[thn,bnd,hm]
     exact⟨O1,by rw[hce];exact hv,by rw[hce];exact y1,Zc.o _ _ z2⟩
    ·obtain⟨b,hb⟩:=hov;rw[hb]at h;cases h
   |ok u=>
    refine⟨fun h=>absurd hv h,fun h=>absurd hv h,fun _=>?_⟩
    obtain⟨hd,hr2⟩:∃hd,r2.hs=hd::r.hs:=by
     unfold Bm at hm;obtain⟨q1,x,m1,hm⟩:=jg hm;obtain⟨q2,m2,hm⟩:=im hm;have m3:=rJ hm;obtain⟨y1,_,_⟩:=ig jJ iR m1;obtain⟨y2,_,_⟩:=ig (iB _ _) (gV _ _) m2;exact⟨_,by rw[m3,y2,y1];rfl⟩
    obtain⟨kd,l,hkl⟩:=hgd.some;rw[hkl]at hr2;have M0:Good c.toks.length r2:=z1.good;have hels:=M0.els hr2 e (fun h=>by have:=hek h;rw[kz hkl]at this;exact this);have hhigh:=z1.high;obtain⟨O1,rfl,y1⟩:=z1.drop;obtain⟨at2,hv2,sv2,fa2,Yx,os2,hx2⟩:=y1;obtain⟨g,cap,cur,c1,c2,o1,o2,hvv,e2,e3,e4,e5,e6,e7,e8,e9,e10,e11⟩:=hx2.open hr2;have hsl:=M0.hsl;rw[hr2]at hsl;simp only[aG]at hsl hvv;obtain⟨nv,iv,xv,yv,bv,ev,av,gv,oa,ac,f1,_⟩:=e7;have Zd:=e8 11 (.bool hd.iU) (by rw[f1];rfl);refine⟨g,(kd::l).length,hd.iU,fun W hW=>?_,fun W hW=>?_⟩
    ·have hb:=hx2.rb.below hW;rw[hvv]at hb;exact lr hb (by simp only[aG];omega)
    ·have e2':=(hW.block g (lt_of_heap e2)).trans e2;have XY:=hx2.go (Y:=[]) (gR.of_below hW) (by simp) (hx2.rb.below hW) hx2.rest rfl rfl hx2.fl (aj _);obtain⟨s1,s2⟩:=XY.T0 hr2 (g:=g) (by rw[hvv];rfl) e rfl hels;refine⟨by rw[af e2'];exact Zd,aC e2' _,O1,?_,?_,?_⟩
     ·rw[ug];simp[thn,bnd,hm];rfl
     ·rw[ug];simp only[thn,bnd,hm];exact s1
     ·exact(Zc.o _ _ z2).trans ((Gone.of_below hW).trans s2)
 have tC:∀b,b∈w.heap.size::O->b<(wv.alloc (.cells #[.int .i64 2,.string ⟨#[]⟩,.slice none 0 0,.slice none 0 0,.slice none 0 0,.int .i64 0,.slice none 0 0,.slice none 0 0,.slice none 0 0,.slice none 0 0] 48)).heap.size:=fun b hb=>(T1.1.high b hb).2
 clear T1 hpre p1 We a1 a2 a3 a4 a5 hrm hne hok h0 hek hgd Zc;obtain⟨w0,hw0⟩:∃w0,w0=wv.alloc (.cells #[.int .i64 2,.string ⟨#[]⟩,.slice none 0 0,.slice none 0 0,.slice none 0 0,.int .i64 0,.slice none 0 0,.slice none 0 0,.slice none 0 0,.slice none 0 0] 48):=⟨_,rfl⟩
 rw[<-hw0]at CQ CE tC;have HW0:=qet hw0;have HWV:=qet hwv;obtain⟨T,hT⟩:∃T,T=w.heap.size:=⟨_,rfl⟩
 rw[<-hT]at CQ CE tC;have HT:=qet hT;clear hw0 hwv hT hsz;go_enter Tryz.func98,Tryz.ntmps98;go_wp2_with fail;rw[<-HWV.o,<-HW0.o,<-HT.o];have t1:=ky (c:=c) (k:=kT T) tC (T:=T) (j:=3) (by simp[kT]) (by simp) rG (uf T) (w:=w0);unfold qL at t1;go_wp2_with fail;refine t1.mono ?_;rintro e x1 ⟨n1,nt,ca1,rfl,hp1,hb1⟩;have pC:∀b,b∈T::O->b<x1.heap.size:=fun b hb=>aJ (tC b hb) hb1.size
 clear t1;have t2:=lJ (c:=c) (kT T) pC (w:=x1) ⟨#[84,72,69,78]⟩ jK rfl;unfold qL at t2;go_wp2_with fail;refine t2.mono ?_;rintro e x2 ⟨n2,wY,ca2,rfl,hp2,hb2⟩;have hO2:∀b,b∈T::O->b<x2.heap.size:=fun b hb=>aJ (pC b hb) hb2.size
 clear t2;have t3:=vq (c:=c) hO2 (T:=T) (w:=x2);unfold qL at t3;go_wp2_with fail;refine t3.mono ?_;rintro e x3 ⟨n3,wZ,ca3,rfl,hp3,hb3⟩;have hO3:∀b,b∈T::O->b<x3.heap.size:=fun b hb=>aJ (hO2 b hb) hb3.size
 clear t3;have t4:=CQ.o _ _ _ _ _ _ _ _ _ _ _ _ hp1 hb1 hp2 hb2 hp3 hb3;clear CQ hp1 hb1 hp2 hb2 hp3 hb3 tC pC hO2 hO3;go_wp2_with fail;refine t4.mono ?_;rintro en x5 ⟨v,rfl,hQ⟩;obtain⟨k1,k2,k3⟩:=CE.o v x5 hQ;clear t4 CE hQ
 by_cases hv:v=.nilIface
 ·subst hv;obtain⟨g,n,bo,j1,j2⟩:=k3 rfl;have t5:=j1 x5 (aw _ _);have J2:=qet j2;clear k1 k2 k3 j1 j2;go_wp2_with fail;refine t5.mono ?_;rintro en x6 ⟨rfl,hb6⟩;obtain⟨l1,l2,l3⟩:=J2.o x6 hb6;have HQ:=qet l3;clear t5 J2 l3 hb6;go_wp2;go_ret;exact⟨_,rfl,HQ.o⟩
 ·obtain⟨b,rfl⟩:=k1 hv;have HQ:=qet (k2 hv);clear k1 k2 k3 hv;go_wp2;go_ret;exact⟨_,rfl,HQ.o⟩
theorem oh.Wf(h:oh c X r at_ hv sv fa fc os O w)(hh:r.hs=hd::l)(JO:hv.ownBlock=some g)(j:Nat)(u:Value)(hd':Hd)(ht:∀(w:World) P cl o,Cb c.B w P hd cl o->Cb c.B w P hd' (cl.set j u) o)(hw:w'=w.setCell ⟨g,l.length*14+j,none⟩ u)(hgood:Good c.toks.length {r with hs:=hd'::l}):oh c X {r with hs:=hd'::l} at_ hv sv fa fc os O w'/\Gone O w O w':=by
 obtain⟨g',cap,cur,c1,c2,o1,o2,rfl,e2,e3,e4,e5,e6,e7,e8,e9,e10,e11⟩:=h.open hh;obtain rfl:g'=g:=an JO;subst e5;have hown:=h.own;obtain⟨q1,q2,q3,q4,q5⟩:=mG (X:=X) (R:=c.R) (g:=g') (sv:=sv) (os:=o1++o2) (by rw[hown];rfl) h.nodup;have hk:gR [g'] w w':=by subst hw;exact(gR.refl _ w).setCell (p:=⟨g',l.length*14+j,none⟩) (.inl (by simp)) _
 have xO:g'∈O:=by rw[hown];simp[bw]
 have sM:gR O w w':=hk.more fun k hk' _=>by rw[aL.1 hk'];exact xO
 have hon:On (ji O) (ji O) w w':=fun b hb hlb=>⟨hb,sM.block b hlb hb⟩
 have lL:∀k,k∈o1++o2->k<w.heap.size->w'.heap[k]? =w.heap[k]? :=fun k hk' hl=>hk.block k hl (by simp;exact(q2 k hk').2.1)
 have hset:w'.heap[g']? =some (.cells (cur.setIfInBounds (l.length*14+j) u) 57):=by subst hw;exact pP e2 _
 have hrow2:=oL e9 e2 hset;rw[set_tail e3]at hrow2;exact h.shut (r':={r with hs:=hd'::l}) (hd':=hd') (sv':=sv) (O':=O) (MO:=o2) e6 sM ((hk.block c.R (h.high c.R h.iL).2 (by simp;exact fun e=>q1 e.symm)).trans h.rb.row) h.rb.here h.rest h.fl rfl hrow2 (by simp[e4]) (ht _ _ _ _ (e7.on hon (fun k hk'=>lL k (by simp[hk'])))) (fun k hk'=>lL k (by simp[hk'])) (iy h.st (fun k hk' hl=>hk.block k hl (by simp;rintro rfl;exact q3 hk'))) hown h.nodup (fun b hb=>.inl hb) hgood
theorem Cb.gX{h:Hd}{cl:List Value}{o:List Nat}(hh:Cb B w P h cl o)(b:Bool):Cb B w P {h with gX:=b} (cl.set 12 (.bool b)) o:=by
 obtain⟨nv,iv,xv,yv,bv,ev,av,gv,oa,ac,f1,f⟩:=hh;exact⟨nv,iv,xv,yv,bv,ev,av,gv,oa,ac,by rw[f1];rfl,f⟩
structure kE(c:Cx)(X:List Nat)(r:Rs)(O:List Nat)(w:World)(hd:Hd)(l:List Hd)(g:Nat):Prop where
 rm:RM c X r O w
 hh:r.hs=hd::l
 T4:zw c.R w=l.length+1/\∃cap,w.cell? ⟨c.R,2,none⟩=some (.slice (some ⟨g,0,none⟩) (l.length+1) cap)
theorem RM.top(h:RM c X r O w):∃hd l g,kE c X r O w hd l g:=by
 obtain⟨hd,l,hh⟩:=h.good.some;have hlen:=h.len;have h':=h;obtain⟨at_,hv,sv,fa,fc,os,hx⟩:=h;obtain⟨g,cap,cur,c1,c2,o1,o2,hvv,_⟩:=hx.open hh;have hr:=hx.rb.row;unfold mb at hr;refine⟨hd,l,g,h',hh,by rw[hlen,hh];rfl,cap,?_⟩;rw[af hr,<-hvv];rfl
theorem kE.Wg(h:kE c X r O w hd l g):∃at_ cap sv fa fc os,oh c X r at_ (.slice (some ⟨g,0,none⟩) (l.length+1) cap) sv fa fc os O w:=by
 obtain⟨at_,hv,sv,fa,fc,os,hx⟩:=h.rm;obtain⟨_,cap,hc⟩:=h.T4;have hr:=hx.rb.row;unfold mb at hr;have:w.cell? ⟨c.R,2,none⟩=some hv:=by rw[af hr];rfl
 rw[this]at hc;obtain rfl:=an hc;exact⟨at_,cap,sv,fa,fc,os,hx⟩
theorem kE.below(h:kE c X r O w hd l g)(hb:Below w.heap.size w w'):kE c X r O w' hd l g:=by
 have hR:=(h.rm.high c.R h.rm.iL).2;have e:w'.cell? ⟨c.R,2,none⟩=w.cell? ⟨c.R,2,none⟩:=World.cell?_of_block (hb.block c.R hR);exact⟨h.rm.below hb,h.hh,by unfold zw;rw[e];exact h.T4⟩
theorem kE.inn(h:kE c X r O w hd l g):Calls ah 108 #[.pointer (some ⟨c.R,0,none⟩)] w fun e w'=>e=.returned (.pointer (some ⟨g,l.length*14,none⟩))/\Below w.heap.size w w':=by
 obtain⟨at_,cap,sv,fa,fc,os,hx⟩:=h.Wg;have hsl:=hx.good.hsl;have hl:=hx.env.tks.hl;rw[h.hh,aG]at hsl;exact lr hx.rb (by omega)
theorem kE.cells(h:kE c X r O w hd l g):w.cell? ⟨g,l.length*14,none⟩=some (.int .i64 hd.s.kind)/\w.cell? ⟨g,l.length*14+12,none⟩=some (.bool hd.gX)/\(∀j,w.frozen? ⟨g,j,none⟩=false)/\g<w.heap.size/\∃aa ac,w.cell? ⟨g,l.length*14+8,none⟩=some (.slice aa hd.s.arms.length ac):=by
 obtain⟨at_,cap,sv,fa,fc,os,hx⟩:=h.Wg;obtain⟨g',cap',cur,c1,c2,o1,o2,hvv,e2,e3,e4,e5,e6,e7,e8,_⟩:=hx.open h.hh
 cases hvv
 obtain⟨nv,iv,xv,yv,bv,ev,av,gv,oa,ac,f1,f2,f3,f4,f5,f6,f7,f8,_⟩:=e7;obtain⟨va,vc,hva⟩:=lK f8;subst f1;refine⟨by rw[af e2];exact e8 0 _ rfl,by rw[af e2];exact e8 12 _ rfl,fun j=>aC e2 j,lt_of_heap e2,va,vc,?_⟩;rw[af e2,<-hva];exact e8 8 _ rfl
theorem RM.is(h:RM c X r O w)(kind:Int)(u:ByteArray)(l:Bs)(hu:u.data.toList=l):Calls ah 141 #[.pointer (some ⟨c.R,0,none⟩),.int .i64 kind,.string u] w fun e w'=>e=.returned (.bool (jI kind l r))/\Below w.heap.size w w':=by
 subst hu;obtain⟨at_,hv,sv,fa,fc,os,hx⟩:=h;have hl:=hx.env.tks.hl;have:=rk hx.rb (by omega) kind u;rw[<-hx.rH]at this;exact this
theorem kE.R9(h:kE c X r O w hd l g)(hw:w'=w.setCell ⟨g,l.length*14+12,none⟩ (.bool true)):kE c X {r with hs:={hd with gX:=true}::l} O w' {hd with gX:=true} l g/\Gone O w O w':=by
 obtain⟨at_,cap,sv,fa,fc,os,hx⟩:=h.Wg;have hgood:Good c.toks.length {r with hs:={hd with gX:=true}::l}:=hx.good.set h.hh rfl rfl rfl rfl rfl rfl (aj _) (aj _);obtain⟨y1,y2⟩:=hx.Wf h.hh (g:=g) rfl 12 (.bool true) {hd with gX:=true} (fun w P cl o h=>h.gX true) hw hgood;have hrm:RM c X {r with hs:={hd with gX:=true}::l} O w':=⟨_,_,_,_,_,_,y1⟩
 have hr:=y1.rb.row;unfold mb at hr;exact⟨⟨hrm,rfl,by rw[hrm.len];rfl,cap,by rw[af hr];rfl⟩,y2⟩
def Ix(c:Cx)(X:List Nat)(r:Rs)(O:List Nat)(w:World)(e:Ending)(w':World):Prop:=∃b O',jT r=((jT r).1,.ok b)/\e=.returned (.bool b)/\RM c X (jT r).1 O' w'/\Gone O w O' w'
theorem sP(h:kE c X r O w hd l g):Calls ah 155 #[.pointer (some ⟨c.R,0,none⟩),.pointer (some ⟨g,l.length*14,none⟩)] w (Ix c X r O w):=by
 obtain⟨c0,c12,cf,lg,_⟩:=h.cells;have htop:=kz h.hh;have t1:=h.rm.is 1 ⟨#[69,76,83,69]⟩ lH rfl
 cases hie:hd.gX with
 |true=>
  rw[hie]at c12;have hm:jT r=(r,.ok false):=by unfold jT;rw[if_pos (.inl (by rw[htop];exact hie))]
  have HQ:qes (Ix c X r O w (.returned (.bool false)) w):=⟨false,O,by rw[hm],rfl,by rw[hm];exact h.rm,Gone.refl _ _⟩
  clear h t1 hm htop c0 cf lg hie;generalize l.length*14=p at *;go_enter Tryz.func155,Tryz.ntmps155;go_wp2;go_ret;exact HQ.o
 |false=>
  rw[hie]at c12
  cases hT:jI 1 lH r with
  |false=>
   have hm:jT r=(r,.ok false):=by unfold jT;rw[if_pos (.inr hT)]
   have HQ:qes (∀w',Below w.heap.size w w'->Ix c X r O w (.returned (.bool false)) w'):=fun w' hb=>⟨false,O,by rw[hm],rfl,by rw[hm];exact h.rm.below hb,Gone.of_below hb⟩
   rw[hT]at t1;clear h hm htop c0 cf lg hie hT;generalize l.length*14=p at *;go_enter Tryz.func155,Tryz.ntmps155;go_wp2_with fail;refine t1.mono ?_;rintro e w1 ⟨rfl,hb1⟩;have HB:=qet hb1;clear t1 hb1;go_wp2;go_ret;exact HQ.o _ HB.o
  |true=>
   have hm:jT r=(jF (iS {top r with gX:=true} r),.ok true):=by
    unfold jT
    rw[if_neg (by
     rintro(h1|h1)
     ·rw[htop,hie]at h1;cases h1
     ·rw[hT]at h1;cases h1)]
   have hr1:iS {top r with gX:=true} r={r with hs:={hd with gX:=true}::l}:=by simp[iS,htop,h.hh]
   have hne:r.rest≠[]:=fun e=>by
    unfold jI at hT;rw[e]at hT;simp[jW]at hT
   have HQ:qes (∀w',Below w.heap.size w w'->∃at_:Nat,at_<=900000000/\w'.cell? ⟨g,l.length*14+12,none⟩=some (.bool false)/\w'.frozen? ⟨g,l.length*14+12,none⟩=false/\(w'.setCell ⟨g,l.length*14+12,none⟩ (.bool true)).cell? ⟨c.R,1,none⟩=some (.int .i64 (at_:Int))/\(w'.setCell ⟨g,l.length*14+12,none⟩ (.bool true)).frozen? ⟨c.R,1,none⟩=false/\Ix c X r O w (.returned (.bool true)) ((w'.setCell ⟨g,l.length*14+12,none⟩ (.bool true)).setCell ⟨c.R,1,none⟩ (.int .i64 ((at_:Int)+1)))):=fun w' hb=>by
    have hT':=h.below hb;obtain⟨_,d12,df,_⟩:=hT'.cells;rw[hie]at d12;obtain⟨s1,s2⟩:=hT'.R9 rfl;obtain⟨at_,a1,a2,a3,a4,a5⟩:=s1.rm.jF hne;have hl:=s1.rm.env.tks.hl;rw[show((at_+1:Nat):Int)=(at_:Int)+1 by omega]at a4 a5;refine⟨at_,by omega,d12,df _,a2,a3,true,O,by rw[hm],rfl,?_,(Gone.of_below hb).trans (s2.trans a5)⟩;rw[hm,hr1];exact a4
   rw[hT]at t1;clear h hm hr1 hne htop c0 cf lg hie hT;generalize l.length*14=p at *;go_enter Tryz.func155,Tryz.ntmps155;go_wp2_with fail;refine t1.mono ?_;rintro e w1 ⟨rfl,hb1⟩;obtain⟨at_,j1,j2,j3,j4,j5,j6⟩:=HQ.o w1 hb1;have i0:(0:Int)<=(at_:Int):=by omega
   have i1:(at_:Int)<=900000000:=by omega
   have HE:=qet j6;clear t1 hb1 HQ j6 c12;go_wp2;go_ret;exact HE.o
theorem M1{O0:List Nat}:nQ c (k0 X) O0 Cl (sK iQ) 111 (#[.pointer (some ⟨c.R,0,none⟩)]++#[]) W:=by
 refine⟨fun W=>by simp[go_sem],fun W' r o O _ hrt _ hpre=>?_⟩;have:=close_any hrt.1 hpre;refine this.mono ?_;rintro e w' ⟨v,rfl,O',rfl,k1,k2⟩;exact⟨O',rfl,⟨k1,fun _ h=>by cases h⟩,k2⟩
theorem sQ{m:M Unit}{s s':Sx}(h:ij m s=(s',.ok ())):m s.1=(s'.1,.ok ())/\s'.2=s.2:=by
 unfold ij at h
 cases hm:m s.1 with
 |mk r' x=>
  rw[hm]at h
  cases x with
  |error e=>cases h
  |ok u=>
   simp only at h;obtain rfl:=(cv h).1;exact⟨rfl,rfl⟩
theorem zy(hrm:RM c X r O w)(h2:2<=r.hs.length)(s:Bs)(x1:World)(n1:Nat)(nt ca1:Array Value)(hp1:nQ c (k0 X) O anyS (ij (gU s)) n1 (nt++ca1) x1)(hb1:Below w.heap.size w x1):Calls ah 99 #[.slice (some ⟨x1.heap.size,0,none⟩) 2 2] (x1.alloc (.cells #[.func (.func n1) nt ca1,.func (.func 111) #[.pointer (some ⟨c.R,0,none⟩)] #[]] 141)) fun e w'=>∃v,e=.returned v/\pN c X (thn (gU s) iQ) r O w v w':=by
 have hrt:RT c (k0 X) r none O w:=⟨hrm,fun _ h=>by cases h⟩
 have hpre:kW [(anyS,ij (gU s)),(Cl,sK iQ)] (r,none):=by
  refine⟨trivial,fun s' hs'=>⟨?_,fun _ _=>trivial⟩⟩;obtain⟨h3,_⟩:=sQ hs';obtain⟨h4,_,_⟩:=ig (iB _ _) (gV _ _) h3;show 2<=s'.1.hs.length;rw[h4];exact h2
 refine(wu (ps:=[(n1,nt,ca1),(111,#[.pointer (some ⟨c.R,0,none⟩)],#[])]) (ms:=[(anyS,ij (gU s)),(Cl,sK iQ)]) ⟨hp1,M1,trivial⟩ (by simp) hrt hb1 hpre rfl).mono ?_;rintro e w' ⟨O',rfl,z1,z2⟩;have hrel:=JD s r;rw[show([(anyS,ij (gU s)),(Cl,sK iQ)]:List ((Sx->Prop)×Pm)).map (·.2)=[ij (gU s),sK iQ]from rfl,hrel]at z1 ⊢;exact⟨_,rfl,O',rfl,z1.1,z2⟩
theorem Bn{N:Nat}(g:Good N r)(hp:r.gY.length+r.rest.length<=N):gZ r=((gZ r).1,.ok ()):=by
 have:=(g.start hp).2.2.2.1;rw[<-this]
theorem zA{k:Int}{s:Bs}(h:jI k s r=true)(hk:k≠0):r.rest≠[]:=fun e=>by
 unfold jI at h;rw[e]at h;simp only[jW,aH]at h;exact hk (of_decide_eq_true h.1).symm
theorem Ct(h:kE c [] r O w hd l g)(hk:hd.s.kind=2)(hp:r.gY.length+r.rest.length<=c.toks.length):Calls ah 109 #[.pointer (some ⟨c.R,0,none⟩),.pointer (some ⟨g,l.length*14,none⟩)] w fun e w'=>∃v,e=.returned v/\pN c [] jd r O w v w':=by
 obtain⟨c0,c12,cf,lg,_⟩:=h.cells;have htop:=kz h.hh;have hgd:=h.rm.good;have hch:=hgd.ch;rw[h.hh]at hch;obtain⟨k2,m2,hlm⟩:=th hch (by rw[hk];decide);have h2:2<=r.hs.length:=by rw[h.hh,hlm];simp
 have t1:=h.rm.is 1 ⟨#[69,76,83,73,70]⟩ jM rfl
 have CB:qes (∀W,Below w.heap.size w W->Calls ah 155 #[.pointer (some ⟨c.R,0,none⟩),.pointer (some ⟨g,l.length*14,none⟩)] W fun e w'=>∃b,e=.returned (.bool b)/\(∀_:¬ ((top r).gX=false/\jI 1 jM r=true),(b=true->pN c [] jd r O w .nilIface w')/\(b=false->∃O',RM c [] r O' w'/\Gone O w O' w'/\(∀x1 n1 (nt ca1:Array Value),nQ c (k0 []) O' anyS (ij (gU jN)) n1 (nt++ca1) x1->Below w'.heap.size w' x1->Calls ah 99 #[.slice (some ⟨x1.heap.size,0,none⟩) 2 2] (x1.alloc (.cells #[.func (.func n1) nt ca1,.func (.func 111) #[.pointer (some ⟨c.R,0,none⟩)] #[]] 141)) fun e w''=>∃v,e=.returned v/\pN c [] jd r O w v w'')))):=fun W hW=>by
  refine(sP (h.below hW)).mono ?_;rintro e w' ⟨b,O',m1,rfl,m2,m3⟩;refine⟨b,rfl,fun hno=>?_⟩;have hb:jd r=(bnd jT fun b=>if b then ret ()else thn (gU jN) iQ) r:=by unfold jd;rw[if_neg hno]
  refine⟨?_,?_⟩
  ·rintro rfl
   have he:jd r=((jT r).1,.ok ()):=by
    rw[hb];unfold bnd;rw[m1];rfl
   exact⟨O',by rw[he];rfl,by rw[he];exact m2,(Gone.of_below hW).trans m3⟩
  ·rintro rfl
   have hr:(jT r).1=r:=by
    rcases rK m1 with⟨_,h1⟩|⟨h1,_⟩
    ·exact h1
    ·cases h1
   rw[hr]at m1 m2;have hg:=(Gone.of_below (O:=O) hW).trans m3;refine⟨O',m2,hg,fun x1 n1 nt ca1 hp1 hb1=>(zy m2 h2 jN x1 n1 nt ca1 hp1 hb1).mono ?_⟩;rintro e w'' ⟨v,rfl,O2,rfl,z1,z2⟩
   have he:jd r=thn (gU jN) iQ r:=by
    rw[hb];unfold bnd;rw[m1];rfl
   exact⟨_,rfl,O2,by rw[he],by rw[he];exact z1,hg.trans z2⟩
 have CW:qes (∀O' W,RM c [] r O' W->Calls ah 100 #[.pointer (some ⟨c.R,0,none⟩),.string ⟨#[69,78,68,95,73,70]⟩] W fun e w'=>∃n FJ caps,e=.returned (.func (.func n) FJ caps)/\nQ c (k0 []) O' anyS (ij (gU jN)) n (FJ++caps) w'/\Below W.heap.size W w'):=fun O' W hW=>lJ (c:=c) (k0 []) (fun b hb=>(hW.high b hb).2) ⟨#[69,78,68,95,73,70]⟩ jN rfl
 by_cases hA:(top r).gX=false/\jI 1 jM r=true
 ·have hie:hd.gX=false:=by rw[<-htop];exact hA.1
  have hT:=hA.2;rw[hie]at c12;rw[hT]at t1;have hr1:iS {top r with gX:=true} r={r with hs:={hd with gX:=true}::l}:=by simp[iS,htop,h.hh]
  have hbm:jd r=thn gZ (mM true) {r with hs:={hd with gX:=true}::l}:=by unfold jd;rw[if_pos hA,hr1]
  have CS:qes (∀W,Below w.heap.size w W->W.cell? ⟨g,l.length*14+12,none⟩=some (.bool false)/\W.frozen? ⟨g,l.length*14+12,none⟩=false/\Calls ah 97 #[.pointer (some ⟨c.R,0,none⟩)] (W.setCell ⟨g,l.length*14+12,none⟩ (.bool true)) fun e w'=>e=.returned (.tuple #[])/\Calls ah 98 #[.pointer (some ⟨c.R,0,none⟩),.bool true] w' fun e w''=>∃v,e=.returned v/\pN c [] jd r O w v w''):=fun W hW=>by
   have hT':=h.below hW;obtain⟨_,d12,df,_⟩:=hT'.cells;rw[hie]at d12;obtain⟨s1,s2⟩:=hT'.R9 rfl;have hg1:=s1.rm.good;refine⟨d12,df _,(Bl s1.rm hp).mono ?_⟩;rintro e w' ⟨rfl,O',z1,z2⟩;refine⟨rfl,?_⟩;obtain⟨u1,u2,u3,u4,u5,u6,u7,u8,_⟩:=hg1.start hp
   have hall:∀x∈(gZ {r with hs:={hd with gX:=true}::l}).1.hs,wW x:=u6 (fun x hx=>by
    rcases aI.1 hx with rfl|hx
    ·intro i _;cases i
    ·exact hgd.tl x (by rw[h.hh];exact hx))
   refine(EO z1 (by rw[u2];exact zA hT (by decide)) hall (by rw[u3];omega) true (fun _=>by rw[u8];exact hk)).mono ?_;rintro e w'' ⟨v,rfl,O2,rfl,y1,y2⟩
   have he:jd r=mM true (gZ {r with hs:={hd with gX:=true}::l}).1:=by
    rw[hbm];exact iD (Bn hg1 hp)
   exact⟨_,rfl,O2,by rw[he],by rw[he];exact y1,(Gone.of_below hW).trans (s2.trans (z2.trans y2))⟩
  clear h hgd hch hlm h2 CB CW hA hT hr1 hbm hie htop c0 cf lg hp hk;generalize l.length*14=p at *;go_enter Tryz.func109,Tryz.ntmps109;go_wp2_with fail;refine t1.mono ?_;rintro e w1 ⟨rfl,hb1⟩;obtain⟨j1,j2,j3⟩:=CS.o w1 hb1;clear t1 hb1 CS c12;go_wp2_with fail;refine j3.mono ?_;rintro e w2 ⟨rfl,t4⟩;clear j1 j2 j3;go_wp2_with fail;refine t4.mono ?_;rintro e w3 ⟨v,rfl,hq⟩;have HQ:=qet hq;clear t4 hq;go_wp2;go_ret;exact⟨_,rfl,HQ.o⟩
 ·have HA:=qet hA
  cases hie:hd.gX with
  |true=>
   rw[hie]at c12;have t2:=CB.o w (aw _ _);clear h hgd hch hlm h2 t1 hA htop c0 cf lg hp hk hie CB;generalize l.length*14=p at *;go_enter Tryz.func109,Tryz.ntmps109;go_wp2_with fail;refine t2.mono ?_;rintro e w2 ⟨b,rfl,hb⟩;obtain⟨k1,k3⟩:=hb HA.o;clear t2 hb c12
   cases b with
   |true=>
    have HQ:=qet (k1 rfl);clear k1 k3 CW;go_wp2;go_ret;exact⟨_,rfl,HQ.o⟩
   |false=>
    obtain⟨O',y1,y2,y3⟩:=k3 rfl;have t3:=CW.o O' w2 y1;have HY:=qet y3;clear k1 k3 CW y1 y2 y3;go_wp2_with fail;refine t3.mono ?_;rintro e w3 ⟨n1,nt,ca1,rfl,hp1,hb3⟩;have t4:=HY.o _ _ _ _ hp1 hb3;clear t3 HY hp1 hb3;go_wp2_with fail;refine t4.mono ?_;rintro e w4 ⟨v,rfl,hq⟩;have HQ:=qet hq;clear t4 hq;go_wp2;go_ret;exact⟨_,rfl,HQ.o⟩
  |false=>
   rw[hie]at c12
   have hT:jI 1 jM r=false:=by
    cases hT:jI 1 jM r with
    |false=>rfl
    |true=>exact absurd ⟨by rw[htop];exact hie,hT⟩ hA
   rw[hT]at t1;clear h hgd hch hlm h2 hA htop c0 cf lg hp hk hie hT;generalize l.length*14=p at *;go_enter Tryz.func109,Tryz.ntmps109;go_wp2_with fail;refine t1.mono ?_;rintro e w1 ⟨rfl,hb1⟩;have t2:=CB.o w1 hb1;clear t1 hb1 CB c12;go_wp2_with fail;refine t2.mono ?_;rintro e w2 ⟨b,rfl,hb⟩;obtain⟨k1,k3⟩:=hb HA.o;clear t2 hb
   cases b with
   |true=>
    have HQ:=qet (k1 rfl);clear k1 k3 CW;go_wp2;go_ret;exact⟨_,rfl,HQ.o⟩
   |false=>
    obtain⟨O',y1,y2,y3⟩:=k3 rfl;have t3:=CW.o O' w2 y1;have HY:=qet y3;clear k1 k3 CW y1 y2 y3;go_wp2_with fail;refine t3.mono ?_;rintro e w3 ⟨n1,nt,ca1,rfl,hp1,hb3⟩;have t4:=HY.o _ _ _ _ hp1 hb3;clear t3 HY hp1 hb3;go_wp2_with fail;refine t4.mono ?_;rintro e w4 ⟨v,rfl,hq⟩;have HQ:=qet hq;clear t4 hq;go_wp2;go_ret;exact⟨_,rfl,HQ.o⟩
def Cu(l:List Int):List Value:=l.map fun n=>.int .i64 n
theorem RM.Sa{X':List Nat}(h:RM c X r O w)(hk:gR X w w')(hX:∀b,b∈X'->b∈X\/(w.heap.size<=b/\b<w'.heap.size))(hnd:X'.Nodup):∃O',RM c X' r O' w'/\Gone O w O' w':=by
 obtain⟨at_,hv,sv,fa,fc,os,hx⟩:=h;have hR:=hx.high c.R hx.iL;have hself:=hx.own;have hn:=hx.nodup;rw[hself,aR]at hn;obtain⟨n1,n2,n3⟩:=hn;have sM:gR O w w':=hk.more fun k hk' _=>hx.kc hk'
 have hrest:∀k,k∈c.R::(hv.ownBlock.toList++(sv.ownBlock.toList++os))->k<w.heap.size->w'.heap[k]? =w.heap[k]? :=fun k hk' hl=>hk.block k hl (fun hm=>n3 k hm k hk' rfl)
 have hmem:∀b,b∈X'++c.R::(hv.ownBlock.toList++(sv.ownBlock.toList++os))->b∈O\/(w.heap.size<=b/\b<w'.heap.size):=fun b hb=>by
  rcases aN.1 hb with hb|hb
  ·rcases hX b hb with h1|h1
   ·exact .inl (hx.kc h1)
   ·exact .inr h1
  ·left;rw[hself];exact cA _ hb
 have hon:On (ji O) (ji (X'++c.R::(hv.ownBlock.toList++(sv.ownBlock.toList++os)))) w w':=fun b hb hlb=>⟨fun hm=>(hmem b hm).elim hb (fun h=>by omega),sM.block b hlb hb⟩
 obtain⟨cs,a1,a2⟩:=hx.hs;refine⟨_,⟨at_,hv,sv,fa,fc,os,hx.env.keep sM (fun b hb=>(hx.high b hb).1),⟨hx.rb.hB,hx.rb.here,(hrest c.R (by simp) hR.2).trans hx.rb.row,hx.rb.tk.keep sM (fun b hb=>(hx.high b hb).1)⟩,hx.rest,hx.fl,⟨cs,iy a1 (fun k hk'=>hrest k (by simp[hk'])),hsR.on hon _ _ _ a2 (fun k hk'=>hrest k (by simp[hk']))⟩,iy hx.st (fun k hk'=>hrest k (by simp[hk'])),rfl,?_,fun b hb=>?_,hx.good⟩,sM,fun b hb=>(hmem b hb).imp id (fun h=>h.1)⟩
 ·rw[aR];refine⟨hnd,n2,fun a ha b hb=>?_⟩
  rcases hX a ha with h1|h1
  ·exact n3 a h1 b hb
  ·rintro rfl;have:a∈O:=by rw[hself];exact cA _ hb
   have:=(hx.high a this).2;omega
 ·rcases hmem b hb with h1|h1
  ·exact⟨(hx.high b h1).1,aJ (hx.high b h1).2 sM.size⟩
  ·exact⟨by omega,h1.2⟩
theorem RB.hv2{toks:List Tv}(h:RB B R tv toks at_ hv sv mn fa fc dp w):w.cell? ⟨R,2,none⟩=some hv:=by
 have hr:=h.row;unfold mb at hr;rw[af hr];rfl
theorem RM.lim(h:RM c X r O w)(n most:Nat):Calls ah 182 #[.pointer (some ⟨c.R,0,none⟩),.int .i64 (n:Int),.int .i64 (most:Int)] w fun e w'=>e=.returned (.tuple #[])/\RM c X (jZ n most r).1 O w'/\gR [c.R] w w'/\w'.cell? ⟨c.R,2,none⟩=w.cell? ⟨c.R,2,none⟩:=by
 obtain⟨at_,hv,sv,fa,fc,os,hx⟩:=h;refine(Jp hx.rb n most).mono ?_;rintro e w' ⟨rfl,k1,k2⟩;exact⟨rfl,⟨_,_,_,_,_,_,hx.go k2 (by simp) k1 hx.rest rfl rfl hx.fl (aj _)⟩,k2,k1.hv2.trans hx.rb.hv2.symm⟩
theorem RM.JQ(h:RM c X r O w)(hT:T∈X):T≠c.R:=by
 obtain⟨at_,hv,sv,fa,fc,os,hx⟩:=h;exact hx.ne hT
theorem RM.num(h:RM c X r O w){b1 b2 b3:Nat}{st:Bool}{n0:Int}(hc:zd c.R T 0 st m b1 b2 b3 w)(hT:w.heap[T]? =some (.cells #[.int .i64 n0] 2))(qy:T∈X)(hTm:T<m)(VU:c.R<m):Calls ah 180 #[.pointer (some ⟨b1,0,none⟩),.pointer (some ⟨b2,0,none⟩),.pointer (some ⟨b3,0,none⟩)] w fun e w'=>∃v,e=.returned v/\RM c X (j8 st r).1 O w'/\gR [c.R,T] w w'/\((v=.nilIface/\∃n,(j8 st r).2=.ok n/\w'.heap[T]? =some (.cells #[.int .i64 n] 2))\/(v=ln c.t0/\(j8 st r).2=.error .tok))/\w'.cell? ⟨c.R,2,none⟩=w.cell? ⟨c.R,2,none⟩:=by
 obtain⟨at_,hv,sv,fa,fc,os,hx⟩:=h;have hl:=hx.env.tks.hl;have hB:=hx.env.hB;have hnl:=Is hx.rest st;have hlen:∀i,at_<=i->(lst c.toks i).length<=r.rest.length:=fun i hi=>by rw[hx.rest,iM,iM];omega
 refine(wV hx.rb (by omega) hx.env.tks.hn hc hx.env.e0 hT (by simp) (hx.ne qy) (hx.high T (hx.kc qy)).1 hTm VU (by omega)).mono ?_;rintro e w' (⟨a1,rfl,q⟩|⟨a1,rfl,q1,q2⟩)
 ·rw[if_pos a1]at hnl;refine⟨_,rfl,?_,q.keep,.inl ⟨rfl,_,by rw[hnl],q.cell⟩,q.rb.hv2.trans hx.rb.hv2.symm⟩;rw[hnl];exact⟨_,_,_,_,_,_,hx.go q.keep (by simp[qy]) q.rb rfl rfl rfl hx.fl (hlen _ (by split <;> omega))⟩
 ·rw[if_neg (by rw[a1];decide)]at hnl;refine⟨_,rfl,?_,q2.more (by simp),.inr ⟨rfl,by rw[hnl]⟩,q1.hv2.trans hx.rb.hv2.symm⟩;rw[hnl];exact⟨_,_,_,_,_,_,hx.go q2 (by simp) q1 rfl rfl rfl hx.fl (hlen _ (by split <;> omega))⟩
structure JR(c:Cx)(X:List Nat)(r:Rs)(O:List Nat)(w:World)(HV:Value)(A:Nat)(ls:List Int)(rr:Rs)(lv:Value)(wr:World):Prop where
 rm:∃O',RM c (lv.ownBlock.toList++A::X) rr O' wr/\Gone O w O' wr
 hs:rr.hs=r.hs
 gY:rr.gY=r.gY
 hA:w.heap.size<=A
 blk:wr.heap[A]? =some (.cells #[lv,.slice none 0 0] 51)
 row:wr.ownsRow (A+1) 2 1 lv ls.length (Cu ls)
 lab:∃f,rr.rest.length<f/\pO (r.rest.length+1) [] r=pO f ls rr
 cnt:ls.length+rr.rest.length<=r.rest.length
 hv2:wr.cell? ⟨c.R,2,none⟩=some HV
structure Wh(c:Cx)(X:List Nat)(r:Rs)(O:List Nat)(w:World)(HV:Value)(A:Nat)(ls:List Int)(rr:Rs)(n:Int)(lv:Value)(wr:World):Prop where
 rm:∃O',RM c (lv.ownBlock.toList++A::X) (j8 false rr).1 O' wr/\Gone O w O' wr
 hs:(j8 false rr).1.hs=r.hs
 gY:(j8 false rr).1.gY=r.gY
 num:(j8 false rr).2=.ok n
 hA:w.heap.size<=A
 blk:wr.heap[A]? =some (.cells #[lv,.slice none 0 0] 51)
 row:wr.ownsRow (A+1) 2 1 lv ls.length (Cu ls)
 lab:∃f,rr.rest.length<f/\pO (r.rest.length+1) [] r=pO f ls rr
 cnt:ls.length+rr.rest.length<=r.rest.length
 hv2:wr.cell? ⟨c.R,2,none⟩=some HV
variable {wr:World}{lv:Value}{rr:Rs}{ls:List Int}{A:Nat}{HV:Value}
theorem P8(h:JR c X r O w HV A ls rr lv wr)(w1:World)(b1 b2 b3:Nat)(hc:zd c.R wr.heap.size 0 false (wr.alloc (.cells #[.int .i64 0] 2)).heap.size b1 b2 b3 w1)(hb:Below (wr.alloc (.cells #[.int .i64 0] 2)).heap.size (wr.alloc (.cells #[.int .i64 0] 2)) w1):
  Calls ah 180 #[.pointer (some ⟨b1,0,none⟩),.pointer (some ⟨b2,0,none⟩),.pointer (some ⟨b3,0,none⟩)] w1 fun e w'=>∃v,e=.returned v/\((v=.nilIface/\∃n,w'.heap[wr.heap.size]? =some (.cells #[.int .i64 n] 2)/\Wh c X r O w HV A ls rr n lv w')\/(v=ln c.t0/\pN c X qY r O w v w')):=by
 obtain⟨O1,h1,h2⟩:=h.rm;have lA:=lt_of_heap h.blk;have Ze:=fun k hk=>(h.row.lt k hk).2
 have hbx:Below wr.heap.size wr w1:=((aw wr.heap.size wr).alloc (aj _) (.cells #[.int .i64 0] 2)).trans (hb.mono (by rw[aB];omega));have We:w1.heap[wr.heap.size]? =some (.cells #[.int .i64 0] 2):=(hb.block _ (by rw[aB];omega)).trans (aE wr _)
 have hnd:(lv.ownBlock.toList++A::X).Nodup:=by
  obtain⟨_,_,_,_,_,_,hx⟩:=h1;have:=hx.nodup;rw[hx.own]at this;exact(aR.1 this).1
 have hXlt:∀b,b∈lv.ownBlock.toList++A::X->b<wr.heap.size:=fun b hb=>(h1.high b (h1.kc hb)).2
 obtain⟨O2,p1,p2⟩:=h1.Sa (X':=wr.heap.size::(lv.ownBlock.toList++A::X)) (gR.of_below hbx) (fun b hb'=>by
  rcases aI.1 hb' with rfl|hb'
  ·exact .inr ⟨aj _,lt_of_heap We⟩
  ·exact .inl hb') (bV.2 ⟨fun hm=>by have:=hXlt _ hm;omega,hnd⟩)
 have Zf:c.R<wr.heap.size:=(h1.high c.R h1.iL).2;refine(p1.num hc We (by simp) (by rw[aB];omega) (by rw[aB];omega)).mono ?_;rintro e w' ⟨v,rfl,y1,y2,hv,y3⟩
 have y2O:Gone O2 w1 O2 w':=Gone.my y2 (fun y hy=>by
  simp only[aI,bG,or_false]at hy
  rcases hy with rfl|rfl
  ·exact p1.iL
  ·exact p1.kc (by simp))
 have M3:∀k,k∈lv.ownBlock.toList++A::X->k∉[c.R,wr.heap.size]:=fun k hk=>by
  simp only[aI,bG,or_false,not_or];exact⟨h1.JQ hk,fun e=>by have:=hXlt k hk;omega⟩
 obtain⟨f,hf,hlab⟩:=h.lab;obtain⟨f',rfl⟩:∃f',f=f'+1:=⟨f-1,by omega⟩
 have hq:=Io false rr
 rcases hv with⟨rfl,n,hn,hcl⟩|⟨rfl,hn⟩
 ·refine⟨_,rfl,.inl ⟨rfl,n,hcl,?_⟩⟩;obtain⟨O3,z1,z2⟩:=y1.Sa (X':=lv.ownBlock.toList++A::X) (gR.refl _ _) (fun b hb'=>.inl (aK _ hb')) hnd;refine⟨⟨O3,z1,h2.trans (p2.trans (y2O.trans z2))⟩,hq.1.trans h.hs,hq.2.trans h.gY,hn,h.hA,?_,iy h.row (fun k hk hl=>?_),⟨_,hf,hlab⟩,h.cnt,y3.trans ((World.cell?_of_block (hbx.block c.R Zf)).trans h.hv2)⟩
  ·exact(y2.block A (aJ lA hbx.size) (M3 A (by simp))).trans ((hbx.block A lA).trans h.blk)
  ·exact(y2.block k (aJ hl hbx.size) (M3 k (by simp[hk]))).trans (hbx.block k hl)
 ·refine⟨_,rfl,.inr ⟨rfl,?_⟩⟩
  have hl2:pO (r.rest.length+1) [] r=((j8 false rr).1,.error .tok):=by
   rw[hlab];show bnd (j8 false) _ rr=_;unfold bnd
   cases hm:j8 false rr with
   |mk r1 x1=>
    rw[hm]at hn;simp only at hn;subst hn;rfl
  have he:qY r=((j8 false rr).1,.error .tok):=by
   unfold qY;unfold bnd;rw[hl2]
  have hXn:X.Nodup:=(bV.1 (aR.1 hnd).2.1).2;obtain⟨O3,z1,z2⟩:=y1.Sa (X':=X) (gR.refl _ _) (fun b hb'=>.inl (by simp[hb'])) hXn;exact⟨O3,by rw[he];rfl,by rw[he];exact z1,h2.trans (p2.trans (y2O.trans z2))⟩
structure EP(c:Cx)(X:List Nat)(r:Rs)(O:List Nat)(w:World)(HV:Value)(A:Nat)(ls:List Int)(rr:Rs)(n:Int)(r2:Rs)(lv:Value)(wr:World):Prop where
 rm:∃O',RM c (lv.ownBlock.toList++A::X) r2 O' wr/\Gone O w O' wr
 hs:r2.hs=r.hs
 gY:r2.gY=r.gY
 num:(j8 false rr).2=.ok n
 hA:w.heap.size<=A
 blk:wr.heap[A]? =some (.cells #[lv,.slice none 0 0] 51)
 row:wr.ownsRow (A+1) 2 1 lv (ls.length+1) (Cu (ls++[n]))
 lab:∃f,rr.rest.length<f/\pO (r.rest.length+1) [] r=pO f ls rr
 cnt:ls.length+rr.rest.length<=r.rest.length
 hv2:wr.cell? ⟨c.R,2,none⟩=some HV
variable {n:Int}
theorem P9{w3:World}(h:Wh c X r O w HV A ls rr n lv w3){Z:Obj}{w4:World}{gg cap:Nat}(hg:(w3.alloc Z).grownBy w4 lv.ownBlock)(ho:w4.ownsRow (A+1) 2 1 (.slice (some ⟨gg,0,none⟩) (ls.length+1) cap) (ls.length+1) (Cu ls++[.int .i64 n]))(hat:lv.ownBlock=some gg\/gg=(w3.alloc Z).heap.size)(hlt:gg<w4.heap.size):EP c X r O w HV A ls rr n (j8 false rr).1 (.slice (some ⟨gg,0,none⟩) (ls.length+1) cap) (w4.setCell ⟨A,0,none⟩ (.slice (some ⟨gg,0,none⟩) (ls.length+1) cap)):=by
 obtain⟨O1,h1,h2⟩:=h.rm;have lA:=lt_of_heap h.blk;rw[aB]at hat;have hrl:=fun k hk=>h.row.lt k hk
 have hgA:A+1<=gg:=by
  rcases hat with e|e
  ·exact(hrl gg e).1
  ·omega
 have hnd:(lv.ownBlock.toList++A::X).Nodup:=by
  obtain⟨_,_,_,_,_,_,hx⟩:=h1;have:=hx.nodup;rw[hx.own]at this;exact(aR.1 this).1
 have hXlt:∀b,b∈lv.ownBlock.toList++A::X->b<w3.heap.size:=fun b hb=>(h1.high b (h1.kc hb)).2
 have hk:gR (lv.ownBlock.toList++A::X) w3 (w4.setCell ⟨A,0,none⟩ (.slice (some ⟨gg,0,none⟩) (ls.length+1) cap)):=(((gR.refl _ w3).alloc Z).grown hg (fun k hk=>.inl (by simp[hk]))).setCell (p:=⟨A,0,none⟩) (.inl (by simp)) _
 obtain⟨O2,p1,p2⟩:=h1.Sa (X':=(aZ (some ⟨gg,0,none⟩) (ls.length+1) cap).ownBlock.toList++A::X) hk (fun b hb=>by
  rcases aN.1 hb with hb|hb
  ·obtain rfl:b=gg:=by simpa[bw]using hb
   rcases hat with e|e
   ·exact .inl (by simp[e])
   ·exact .inr ⟨by omega,by rw[bO];exact hlt⟩
  ·exact .inl (cA _ hb)) (by
  rw[aR]at hnd;refine aR.2 ⟨by simp[bw],hnd.2.1,fun a ha b hb=>?_⟩;obtain rfl:a=gg:=by simpa[bw]using ha
  rcases hat with e|e
  ·exact hnd.2.2 a (by simp[e]) b hb
  ·rintro rfl;have:=hXlt a (cA _ hb)
   omega)
 have Wi:w4.heap[A]? =some (.cells #[lv,.slice none 0 0] 51):=by
  rw[hg.block A (by rw[aB];omega) (fun e=>by have:=(hrl A e.symm).1;omega),bj w3 Z A lA];exact h.blk
 refine⟨⟨O2,p1,h2.trans p2⟩,h.hs,h.gY,h.num,h.hA,pP Wi _,?_,h.lab,h.cnt,?_⟩
 ·rw[show Cu (ls++[n])=Cu ls++[.int .i64 n] by simp[Cu]];exact bJ ho (a:=⟨A,0,none⟩) (by show some gg≠some A;intro e;have:=an e;omega) _
 ·have hRn:c.R∉lv.ownBlock.toList++A::X:=fun hm=>h1.JQ hm rfl
  exact(World.cell?_of_block (hk.block c.R (h1.high c.R h1.iL).2 hRn)).trans h.hv2
variable {r2:Rs}
theorem EP.keepR(h:EP c X r O w HV A ls rr n r2 lv wr):Calls ah 182 #[.pointer (some ⟨c.R,0,none⟩),.int .i64 ((ls.length+1:Nat):Int),.int .i64 16] wr fun e w'=>e=.returned (.tuple #[])/\EP c X r O w HV A ls rr n (jZ (ls.length+1) 16 r2).1 lv w':=by
 obtain⟨O1,h1,h2⟩:=h.rm;refine(h1.lim (ls.length+1) 16).mono ?_;rintro e w' ⟨rfl,k1,k2,k3⟩;have hR:∀k,k∈lv.ownBlock.toList++A::X->k∉[c.R]:=fun k hk=>by simp;exact h1.JQ hk
 refine⟨rfl,⟨O1,k1,h2.trans (Gone.my k2 (by simp[h1.iL]))⟩,h.hs,h.gY,h.num,h.hA,(k2.block A (lt_of_heap h.blk) (hR A (by simp))).trans h.blk,iy h.row (fun k hk hl=>k2.block k hl (hR k (by simp[hk]))),h.lab,h.cnt,k3.trans h.hv2⟩
theorem EP.below(h:EP c X r O w HV A ls rr n r2 lv wr)(hb:Below wr.heap.size wr w'):EP c X r O w HV A ls rr n r2 lv w':=by
 obtain⟨O',h1,h2⟩:=h.rm;exact⟨⟨O',h1.below hb,h2.trans (Gone.of_below hb)⟩,h.hs,h.gY,h.num,h.hA,(hb.block A (lt_of_heap h.blk)).trans h.blk,iy h.row (fun k _ hl=>hb.block k hl),h.lab,h.cnt,(World.cell?_of_block (hb.block c.R (h1.high c.R h1.iL).2)).trans h.hv2⟩
structure T5(c:Cx)(X:List Nat)(r:Rs)(O:List Nat)(w:World)(HV:Value)(A:Nat)(ls:List Int)(r2:Rs)(lv:Value)(wr:World):Prop where
 rm:∃O',RM c (lv.ownBlock.toList++A::X) r2 O' wr/\Gone O w O' wr
 hs:r2.hs=r.hs
 gY:r2.gY=r.gY
 hA:w.heap.size<=A
 blk:wr.heap[A]? =some (.cells #[lv,.slice none 0 0] 51)
 row:wr.ownsRow (A+1) 2 1 lv ls.length (Cu ls)
 lab:pO (r.rest.length+1) [] r=(r2,.ok ls)
 cnt:ls.length<=r.rest.length
 less:r2.rest.length<r.rest.length
 hv2:wr.cell? ⟨c.R,2,none⟩=some HV
theorem M4{f:Nat}(hn:(j8 false rr).2=.ok n):pO (f+1) ls rr=if jI 3 ja (jZ (ls.length+1) 16 (j8 false rr).1).1=true then pO f (ls++[n]) (jF (jZ (ls.length+1) 16 (j8 false rr).1).1)else((jZ (ls.length+1) 16 (j8 false rr).1).1,.ok (ls++[n])):=by
 show bnd (j8 false) _ rr=_;unfold bnd
 cases hm:j8 false rr with
 |mk r1 x1=>
  rw[hm]at hn;simp only at hn;subst hn;rfl
theorem JS(h:EP c X r O w HV A ls rr n (jZ (ls.length+1) 16 (j8 false rr).1).1 lv wr):(jI 3 ja (jZ (ls.length+1) 16 (j8 false rr).1).1=false->T5 c X r O w HV A (ls++[n]) (jZ (ls.length+1) 16 (j8 false rr).1).1 lv wr)/\(jI 3 ja (jZ (ls.length+1) 16 (j8 false rr).1).1=true->∃at_:Nat,at_<=900000000/\wr.cell? ⟨c.R,1,none⟩=some (.int .i64 (at_:Int))/\wr.frozen? ⟨c.R,1,none⟩=false/\JR c X r O w HV A (ls++[n]) (jF (jZ (ls.length+1) 16 (j8 false rr).1).1) lv (wr.setCell ⟨c.R,1,none⟩ (.int .i64 ((at_:Int)+1)))/\(jF (jZ (ls.length+1) 16 (j8 false rr).1).1).rest.length<rr.rest.length):=by
 obtain⟨O1,h1,h2⟩:=h.rm;obtain⟨f,hf,hlab⟩:=h.lab;obtain⟨f',rfl⟩:∃f',f=f'+1:=⟨f-1,by omega⟩
 have hds:(j8 false rr).1.rest.length<rr.rest.length:=Mp false rr n h.num;have hcnt:=h.cnt;have hst:=M4 (f:=f') (ls:=ls) h.num;have hrow:=h.row;rw[<-bY (a:=n),<-ao]at hrow;refine⟨fun hT=>⟨⟨O1,h1,h2⟩,h.hs,h.gY,h.hA,h.blk,hrow,by rw[hlab,hst,if_neg (by rw[hT];decide)],by rw[ao,bY];omega,by show(j8 false rr).1.rest.length<_;omega,h.hv2⟩,fun hT=>?_⟩;have hne:=zA hT (by decide);obtain⟨at_,a1,a2,a3,a4,a5⟩:=h1.jF hne;have hl:=h1.env.tks.hl;rw[show((at_+1:Nat):Int)=(at_:Int)+1 by omega]at a4 a5;have hkR:gR [c.R] wr (wr.setCell ⟨c.R,1,none⟩ (.int .i64 ((at_:Int)+1))):=(gR.refl _ wr).setCell (p:=⟨c.R,1,none⟩) (.inl (by simp)) _;have hR:∀k,k∈lv.ownBlock.toList++A::X->k∉[c.R]:=fun k hk=>by simp;exact h1.JQ hk
 have hrl:(jF (jZ (ls.length+1) 16 (j8 false rr).1).1).rest.length<(j8 false rr).1.rest.length:=ve hT (by decide);refine⟨at_,by omega,a2,a3,⟨⟨O1,a4,h2.trans a5⟩,h.hs,h.gY,h.hA,(hkR.block A (lt_of_heap h.blk) (hR A (by simp))).trans h.blk,iy hrow (fun k hk hl=>hkR.block k hl (hR k (by simp[hk]))),⟨f',by omega,by rw[hlab,hst,if_pos hT]⟩,by rw[ao,bY];omega,(World.cell?_setCell_other _ _ _ _ (by simp)).trans h.hv2⟩,by omega⟩
theorem oh.less{Y:List Nat}(h:oh c (Y++X) r at_ hv sv fa fc os O w):oh c X r at_ hv sv fa fc os (X++c.R::(hv.ownBlock.toList++(sv.ownBlock.toList++os))) w/\(∀b,b∈X++c.R::(hv.ownBlock.toList++(sv.ownBlock.toList++os))->b∈O)/\(∀b,b∈Y->b∉X++c.R::(hv.ownBlock.toList++(sv.ownBlock.toList++os))):=by
 have hself:O=Y++(X++c.R::(hv.ownBlock.toList++(sv.ownBlock.toList++os))):=by rw[h.own,aO]
 have hsub:∀b,b∈X++c.R::(hv.ownBlock.toList++(sv.ownBlock.toList++os))->b∈O:=fun b hb=>by rw[hself];exact cA _ hb
 have hn:=h.nodup;rw[hself,aR]at hn;obtain⟨cs,a1,a2⟩:=h.hs;refine⟨⟨h.env,h.rb,h.rest,h.fl,⟨cs,a1,hsR.on (fun b hb _=>⟨fun hm=>hb (hsub b hm),rfl⟩) _ _ _ a2 (fun _ _ _=>rfl)⟩,h.st,rfl,hn.2.1,fun b hb=>h.high b (hsub b hb),h.good⟩,hsub,fun b hb hm=>hn.2.2 b hb b hm rfl⟩
theorem JT{l az:List (List Int×List St)}{a:List Int×List St}{c:List Value}{o:List Nat}(hl:l=az++[a])(h:xL B w P l c o):∃c1 lv bv,c=c1++[lv,bv]/\c1.length=az.length*2/\qH w P az c1/\AR w P a.1 lv/\Mk B w P a.2 bv/\o=bv.ownBlock.toList:=by
 subst hl;exact vt _ _ _ _ h
def Gw(B g q:Nat)(cur:Array Value)(av:Value)(na:Nat)(ac vs:List Value)(w w':World):Prop:=∃gg cap,w'.heap[g]? =some (.cells (cur.setIfInBounds q (.slice (some ⟨gg,0,none⟩) (na+1) cap)) 57)/\w'.ownsRow B 51 2 (.slice (some ⟨gg,0,none⟩) (na+1) cap) (na+1) (ac++vs)/\(av.ownBlock=some gg\/w.heap.size<=gg)/\gg≠g/\gR (g::av.ownBlock.toList) w w'
def vu(r2:Rs)(hd:Hd)(l:List Hd)(ls:List Int):Rs:={r2 with hs:={hd with s:={hd.s with arms:=hd.s.arms++[(ls,[])]}}::l}
theorem M5(h:T5 c X r O w HV A ls r2 lv wr)(hgr:Good c.toks.length r)(hh:r.hs=hd::l){hc:Nat}(X0:HV=.slice (some ⟨g,0,none⟩) (l.length+1) hc):
  ∃cur aa sj ac,wr.heap[g]? =some (.cells cur 57)/\cur[l.length*14+8]? =some (.slice aa hd.s.arms.length sj)/\wr.ownsRow c.B 51 2 (.slice aa hd.s.arms.length sj) hd.s.arms.length ac/\(aZ aa hd.s.arms.length sj).ownBlock≠some g/\c.B<=wr.heap.size/\hd.s.arms.length<=900000001/\A≠g/\(aZ aa hd.s.arms.length sj).ownBlock≠some A/\(∃la lc,lv=.slice la ls.length lc)/\
   ∀w',Gw c.B g (l.length*14+8) cur (.slice aa hd.s.arms.length sj) hd.s.arms.length ac [lv,.slice none 0 0] wr w'->∃O',RM c X (vu r2 hd l ls) O' w'/\Gone O w O' w':=by
 obtain⟨O1,⟨at_,hv,sv,fa,fc,os,hx⟩,hg0⟩:=h.rm
 have hvv:hv=.slice (some ⟨g,0,none⟩) (l.length+1) hc:=by
  have:=hx.rb.hv2;rw[h.hv2]at this;rw[<-X0];exact(an this).symm
 subst hvv;have hh2:r2.hs=hd::l:=h.hs.trans hh;have hl:=hx.env.tks.hl;have hw:=hgr.JN hh;have hwt:=hgr.wt;have hless:=h.less;have hrl:r.rest.length<=c.toks.length+1:=by omega
 rw[show lv.ownBlock.toList++A::X=(lv.ownBlock.toList++[A])++X by simp]at hx;obtain⟨hx1,hsub,hdis⟩:=hx.less;obtain⟨g',cap',cur,c1,c2,o1,o2,e1,e2,e3,e4,e5,e6,e7,e8,e9,e10,e11⟩:=hx1.open hh2
 cases e1
 obtain⟨nv,iv,xv,yv,bv,ev,av,gv,oa,ac,f1,f2,f3,f4,f5,f6,f7,f8,f9,f10,f11⟩:=e7;obtain⟨aa,sj,hav⟩:=lK f8;subst f1 f11 e5 hav;obtain⟨q1,q2,q3,q4,q5⟩:=mG (X:=X) (R:=c.R) (g:=g) (sv:=sv) (os:=o1++(bv.ownBlock.toList++(ev.ownBlock.toList++((aZ aa hd.s.arms.length sj).ownBlock.toList++oa)))) (O:=X++c.R::(g::(sv.ownBlock.toList++(o1++(bv.ownBlock.toList++(ev.ownBlock.toList++((aZ aa hd.s.arms.length sj).ownBlock.toList++oa))))))) rfl hx1.nodup;have hBw:c.B<=wr.heap.size:=by have:=hx.high c.R hx.iL;omega
 have hAn:=hdis A (by simp);have XH:zj hd.s.arms<=vi hd:=by unfold vi;omega
 have hwl:=xQ hd.s.arms;have hAg:A≠g:=fun e=>hAn (by rw[e];simp[bw])
 have hAa:(aZ aa hd.s.arms.length sj).ownBlock≠some A:=fun e=>hAn (by simp[e])
 have hcl:=h.cnt;obtain⟨la,lc,hlv⟩:=lK h.row;refine⟨cur,aa,sj,ac,e2,e8 8 _ rfl,f8,fun e=>(q2 g (by simp[e])).2.1 rfl,hBw,by omega,hAg,hAa,⟨la,lc,hlv⟩,fun w' hadd=>?_⟩;obtain⟨gg,cap,z1,z2,z3,z4,z5⟩:=hadd
 have hO2:∀b,b∈X++c.R::(g::(sv.ownBlock.toList++(o1++(bv.ownBlock.toList++(ev.ownBlock.toList++[gg])))))->b∈X++c.R::(g::(sv.ownBlock.toList++(o1++(bv.ownBlock.toList++(ev.ownBlock.toList++((aZ aa hd.s.arms.length sj).ownBlock.toList++oa))))))\/b=gg:=fun b hb=>by
  simp only[aN,aI,bG,or_false]at hb ⊢
  rcases hb with h|h|h|h|h|h|h|h
  ·exact .inl (.inl h)
  ·exact .inl (.inr (.inl h))
  ·exact .inl (.inr (.inr (.inl h)))
  ·exact .inl (.inr (.inr (.inr (.inl h))))
  ·exact .inl (.inr (.inr (.inr (.inr (.inl h)))))
  ·exact .inl (.inr (.inr (.inr (.inr (.inr (.inl h))))))
  ·exact .inl (.inr (.inr (.inr (.inr (.inr (.inr (.inl h)))))))
  ·exact .inr h
 have xO:(aZ aa hd.s.arms.length sj).ownBlock=some gg\/gg∉X++c.R::(g::(sv.ownBlock.toList++(o1++(bv.ownBlock.toList++(ev.ownBlock.toList++((aZ aa hd.s.arms.length sj).ownBlock.toList++oa)))))):=z3.imp id fun hl hm=>by have:=(hx1.high gg hm).2;omega
 obtain⟨n1,n2⟩:=qM (O:=X++c.R::(g::(sv.ownBlock.toList++(o1++(bv.ownBlock.toList++(ev.ownBlock.toList++((aZ aa hd.s.arms.length sj).ownBlock.toList++oa))))))) (l1:=X++c.R::(g::(sv.ownBlock.toList++(o1++(bv.ownBlock.toList++ev.ownBlock.toList))))) (a:=(aZ aa hd.s.arms.length sj).ownBlock) (l2:=oa) (g:=gg) (by simp) hx1.nodup xO
 have n3:(X++c.R::(g::(sv.ownBlock.toList++(o1++(bv.ownBlock.toList++(ev.ownBlock.toList++[gg])))))).Nodup:=by
  refine n1.sublist ?_;have:X++c.R::(g::(sv.ownBlock.toList++(o1++(bv.ownBlock.toList++(ev.ownBlock.toList++[gg])))))=(X++c.R::(g::(sv.ownBlock.toList++(o1++(bv.ownBlock.toList++ev.ownBlock.toList)))))++[gg]:=by simp
  rw[this];exact List.Sublist.append (List.Sublist.refl _) (by simp)
 have sM:gR (X++c.R::(g::(sv.ownBlock.toList++(o1++(bv.ownBlock.toList++(ev.ownBlock.toList++((aZ aa hd.s.arms.length sj).ownBlock.toList++oa))))))) wr w':=z5.more fun k hk _=>by
  rcases aI.1 hk with rfl|hk
  ·simp
  ·simp only[bT]at hk;simp[hk]
 have hfr:∀b,b∈X++c.R::(g::(sv.ownBlock.toList++(o1++(bv.ownBlock.toList++(ev.ownBlock.toList++[gg])))))->b∈X++c.R::(g::(sv.ownBlock.toList++(o1++(bv.ownBlock.toList++(ev.ownBlock.toList++((aZ aa hd.s.arms.length sj).ownBlock.toList++oa))))))\/(wr.heap.size<=b/\b<w'.heap.size):=fun b hb=>by
  rcases hO2 b hb with h1|rfl
  ·exact .inl h1
  ·rcases z3 with h1|h1
   ·left;simp[h1]
   ·exact .inr ⟨h1,(z2.lt b rfl).2⟩
 have hon:On (ji (X++c.R::(g::(sv.ownBlock.toList++(o1++(bv.ownBlock.toList++(ev.ownBlock.toList++((aZ aa hd.s.arms.length sj).ownBlock.toList++oa)))))))) (ji (X++c.R::(g::(sv.ownBlock.toList++(o1++(bv.ownBlock.toList++(ev.ownBlock.toList++[gg]))))))) wr w':=fun b hb hlb=>⟨fun hm=>(hfr b hm).elim hb (fun h=>by omega),sM.block b hlb hb⟩
 have qi:∀k,k∈X++c.R::(sv.ownBlock.toList++(o1++(bv.ownBlock.toList++(ev.ownBlock.toList++oa))))->k<wr.heap.size->w'.heap[k]? =wr.heap[k]? :=fun k hk hlk=>z5.block k hlk (fun hm=>by
  have hnn:=hx1.nodup
  have hp:(X++c.R::((aZ (some ⟨g,0,none⟩) (l.length+1) hc).ownBlock.toList++(sv.ownBlock.toList++(o1++(bv.ownBlock.toList++(ev.ownBlock.toList++((aZ aa hd.s.arms.length sj).ownBlock.toList++oa))))))).Perm ((X++c.R::(sv.ownBlock.toList++(o1++(bv.ownBlock.toList++(ev.ownBlock.toList++oa)))))++(g::(aZ aa hd.s.arms.length sj).ownBlock.toList)):=by
   rw[List.perm_iff_count];intro x;simp only[List.count_append,List.count_cons,bw,Option.toList_some,List.count_nil];omega
  have hn2:=hp.nodup_iff.1 hnn;rw[aR]at hn2
  exact hn2.2.2 k hk k hm rfl)
 have hrow2:=oL e9 e2 z1;rw[set_tail e3]at hrow2
 have hgood:Good c.toks.length (vu r2 hd l ls):=by
  have hg2:=hx1.good;have Zg:=hgr.wt;rw[hh,ks]at Zg;obtain⟨a1,a2,a3,a4,a5,a6,a7,a8,a9,a10⟩:=hg2;rw[hh2]at a1 a2 a3 a4 a5 a7 a9;refine⟨by simp[vu],ns a2 rfl rfl,a3,?_,?_,a6,?_,a8,fun h=>a9 (by simpa[vu]using h),a10⟩
  ·intro x hx'
   rcases aI.1 hx' with rfl|hx'
   ·exact a4 hd (by simp)
   ·exact a4 x (by simp[hx'])
  ·intro x hx'
   rcases aI.1 hx' with rfl|hx'
   ·exact a5 hd (by simp)
   ·exact a5 x (by simp[hx'])
  ·show zk (_::l)+r2.rest.length<=_;rw[ks];have:vi {hd with s:={hd.s with arms:=hd.s.arms++[(ls,[])]}}=vi hd+1:=by simp[vi,zj];omega
   rw[this];omega
 have hold:qH w' (ji (X++c.R::(g::(sv.ownBlock.toList++(o1++(bv.ownBlock.toList++(ev.ownBlock.toList++[gg]))))))) hd.s.arms ac:=by
  by_cases hne:hd.s.arms=[]
  ·rw[hne]at f9 ⊢;simp only[xL]at f9;simp only[qH];exact f9.1
  ·obtain⟨az,a,has⟩:∃az a,hd.s.arms=az++[a]:=⟨_,_,(List.dropLast_concat_getLast hne).symm⟩
   obtain⟨V8,lv1,lb,g1,g2,g3,g4,g5,g6⟩:=JT has f9;rw[has];subst g1 g6
   have hlb:a.2.length<=1000000000:=by
    have:=XH;rw[has,vj]at this;simp only[zj,bL,List.map_nil,fo,List.sum_nil]at this;omega
   obtain⟨qs,p1,p2⟩:=g5
   have h4:lk w' (ji (X++c.R::(g::(sv.ownBlock.toList++(o1++(bv.ownBlock.toList++(ev.ownBlock.toList++[gg]))))))) a.2 lb:=⟨qs,l6 (iy p1 (fun k hk=>qi k (by simp[hk]))) hlb _ (fun k hk hm=>by
    have hnn:=hx1.nodup
    rcases hO2 k hm with h5|h5
    ·simp only[aN,aI,bG,or_false]at hm;have vr:((X++c.R::(g::(sv.ownBlock.toList++(o1++(bv.ownBlock.toList++(ev.ownBlock.toList++(aZ aa hd.s.arms.length sj).ownBlock.toList))))))++lb.ownBlock.toList).Nodup:=by simpa[bw]using hnn
     rw[aR]at vr
     rcases hm with h|h|h|h|h|h|h|h
     ·exact vr.2.2 k (by simp[h]) k (by simp[hk]) rfl
     ·exact vr.2.2 k (by simp[h]) k (by simp[hk]) rfl
     ·exact vr.2.2 k (by simp[h]) k (by simp[hk]) rfl
     ·exact vr.2.2 k (by simp[h]) k (by simp[hk]) rfl
     ·exact vr.2.2 k (by simp[h]) k (by simp[hk]) rfl
     ·exact vr.2.2 k (by simp[h]) k (by simp[hk]) rfl
     ·exact vr.2.2 k (by simp[h]) k (by simp[hk]) rfl
     ·subst h
      rcases xO with h6|h6
      ·exact vr.2.2 k (by simp[h6]) k (by simp[hk]) rfl
      ·exact h6 h5
    ·subst h5
     rcases xO with h6|h6
     ·have vr:((X++c.R::(g::(sv.ownBlock.toList++(o1++(bv.ownBlock.toList++(ev.ownBlock.toList++(aZ aa hd.s.arms.length sj).ownBlock.toList))))))++lb.ownBlock.toList).Nodup:=by simpa[bw]using hnn
      rw[aR]at vr;exact vr.2.2 k (by simp[h6]) k (by simp[hk]) rfl
     ·exact h6 (by simp[hk])),oH.on hon _ _ p2⟩
   have harr:∀(l:List (List Int×List St))(c1:List Value)(a:List Int×List St)(lv lb:Value)(P':Nat->Prop),qH w' P' l c1->AR w' P' a.1 lv->lk w' P' a.2 lb->qH w' P' (l++[a]) (c1++[lv,lb]):=by
    intro l
    induction l with
    |nil=>
     intro c1 a lv lb P' q1 q2 q3;simp only[qH]at q1;subst q1;obtain⟨ls,b⟩:=a;obtain⟨cs,q3,q4⟩:=q3;simp only[bQ,qH,Ht];exact⟨_,[],by simp,rfl,⟨lv,lb,rfl,q2,cs,q3,q4⟩,rfl⟩
    |cons x l ih=>
     intro c1 a lv lb P' q1 q2 q3;simp only[qH,bM]at q1 ⊢;obtain⟨y,r,e1,e2,e3,e4⟩:=q1;exact⟨y,r++[lv,lb],by rw[e1,aO],e2,e3,ih r a lv lb P' e4 q2 q3⟩
   exact harr az V8 a lv1 lb _ (qH.on hon _ _ g3) (g4.on hon) h4
 have hnl:AR w' (ji (X++c.R::(g::(sv.ownBlock.toList++(o1++(bv.ownBlock.toList++(ev.ownBlock.toList++[gg]))))))) ls lv:=by
  have hkl:∀k,lv.ownBlock=some k->k∉X++c.R::(g::(sv.ownBlock.toList++(o1++(bv.ownBlock.toList++(ev.ownBlock.toList++((aZ aa hd.s.arms.length sj).ownBlock.toList++oa)))))):=fun k hk=>hdis k (by simp[hk])
  refine l6 (iy h.row (fun k hk hl=>sM.block k hl (hkl k hk))) (by omega) _ (fun k hk hm=>?_)
  rcases hO2 k hm with h5|h5
  ·exact hkl k hk h5
  ·subst h5
   rcases z3 with h6|h6
   ·exact hkl k hk (by simp[h6])
   ·have:=(h.row.lt k hk).2;omega
 obtain⟨y1,y2⟩:=hx1.shut (r':=vu r2 hd l ls) (hd':={hd with s:={hd.s with arms:=hd.s.arms++[(ls,[])]}}) (sv':=sv) (O':=X++c.R::(g::(sv.ownBlock.toList++(o1++(bv.ownBlock.toList++(ev.ownBlock.toList++[gg])))))) (MO:=bv.ownBlock.toList++(ev.ownBlock.toList++[gg])) e6 sM ((qi c.R (by simp) (hx1.high c.R hx1.iL).2).trans hx1.rb.row) hx1.rb.here hx1.rest hx1.fl rfl hrow2 (by simp) ⟨nv,iv,xv,yv,bv,ev,.slice (some ⟨gg,0,none⟩) (hd.s.arms.length+1) cap,gv,[],_,rfl,f2,f3.on hon,f4.on hon,f5.on hon,f6.on hon (fun k e=>qi k (by simp[e])),f7.on hon (fun k e=>qi k (by simp[e])),by rw[ao];exact z2,zv hd.s.arms (ls,[]) ac lv (.slice none 0 0) hold hnl ⟨[],bS _ _ _ _,by simp only[oH]⟩,f10.on hon,rfl⟩ (fun k hk=>qi k (by simp[hk])) (iy hx1.st (fun k hk=>qi k (by simp[hk]))) rfl n3 hfr hgood;refine⟨_,⟨_,_,_,_,_,_,y1⟩,hg0.trans ⟨y2.keep.more (fun k hk _=>hsub k hk),fun b hb=>(y2.own b hb).imp (hsub b) id⟩⟩
theorem in2:(ah.info? 2).map (fun i=>(i.zero,i.size,i.bytes))=some (some (.int .i64 0),1,8):=by kernel_rfl
theorem Zh:(ah.info? 51).map (fun i=>(i.zero,i.size,i.bytes))=some (some (.agg #[.slice none 0 0,.slice none 0 0]),2,48):=by kernel_rfl
def kX(c:Cx)(w:World):Nat:=match w.cell? ⟨c.R,1,none⟩with
 |some (.int _ n)=>c.toks.length-n.toNat
 |_=>0
theorem RM.kX(h:RM c X r O w):kX c w=r.rest.length:=by
 obtain⟨at_,hv,sv,fa,fc,os,hx⟩:=h;have hr:=hx.rb.row;unfold mb at hr;have:w.cell? ⟨c.R,1,none⟩=some (.int .i64 (at_:Int)):=by rw[af hr];rfl
 unfold Go.Proofs.YtekanffohkeoeaaGreatDoor.kX;rw[this,hx.rest,iM];simp
theorem JR.kX(h:JR c X r O w HV A ls rr lv wr):kX c wr=rr.rest.length:=by
 obtain⟨O',h1,_⟩:=h.rm;exact h1.kX
theorem Qa(h:pO (r.rest.length+1) [] r=(r2,.ok ls))(hh:r2.hs=hd::l):qY r=thn (jZ (hd.s.arms.length+1) 32) (iO jB) (vu r2 hd l ls):=by
 have htop:=kz hh;unfold qY bnd;rw[h];simp only[htop];have:iS {hd with s:={hd.s with arms:=hd.s.arms++[(ls,[])]}} r2=vu r2 hd l ls:=by simp[iS,vu,hh]
 rw[<-this]
theorem JU{q:Nat}{av:Value}{na:Nat}{ac vs:List Value}{w1:World}{A:Obj}{gg cap:Nat}(hr:W.heap[g]? =some (.cells cur 57))(hne:av.ownBlock≠some g)(hg:(W.alloc A).drew.grownBy w1 av.ownBlock)(hat:av.ownBlock=some gg\/gg=(W.alloc A).drew.heap.size)(ho:w1.ownsRow B 51 2 (.slice (some ⟨gg,0,none⟩) (na+1) cap) (na+1) (ac++vs)):Gw B g q cur av na ac vs W (w1.setCell ⟨g,q,none⟩ (.slice (some ⟨gg,0,none⟩) (na+1) cap)):=by
 have lg:=lt_of_heap hr;have hz:(W.alloc A).drew.heap.size=W.heap.size+1:=by show(W.alloc A).heap.size=_;rw[aB]
 rw[hz]at hat
 have hgg:gg≠g:=by
  rintro rfl
  rcases hat with h|h
  ·exact hne h
  ·omega
 have hrow:=iE hr hg hne;exact⟨gg,cap,pP hrow _,bJ ho (a:=⟨g,q,none⟩) (by show some gg≠some g;exact fun e=>hgg (an e)) _,hat.imp id (fun h=>by omega),hgg,((((gR.refl (g::av.ownBlock.toList) W).alloc A).drew).grown hg (fun k hk=>.inl (by rw[hk];simp))).setCell (p:=⟨g,q,none⟩) (.inl (by simp)) _⟩
theorem Qb(h:kE c X r O w hd l g):Calls ah 156 #[.pointer (some ⟨c.R,0,none⟩),.pointer (some ⟨g,l.length*14,none⟩)] w fun e w'=>∃v,e=.returned v/\pN c X qY r O w v w':=by
 obtain⟨i0,hi,hz0,hz1,hz2⟩:=info_parts in2;obtain⟨i5,hi5,hy0,hy1,hy2⟩:=info_parts Zh;have hgr:=h.rm.good;have hl:=h.rm.env.tks.hl;have hrl:r.rest.length<=c.toks.length+1:=by have:=hgr.wt;omega
 obtain⟨_,hcap,hcell⟩:=h.T4
 have hA0:JR c X r O w (.slice (some ⟨g,0,none⟩) (l.length+1) hcap) w.heap.size [] r (.slice none 0 0) (w.alloc (.cells #[.slice none 0 0,.slice none 0 0] 51)):=by
  have hb:Below w.heap.size w (w.alloc (.cells #[.slice none 0 0,.slice none 0 0] 51)):=(aw _ _).alloc (aj _) _
  have hX:X.Nodup:=by
   obtain⟨_,_,_,_,_,_,hx⟩:=h.rm;have:=hx.nodup;rw[hx.own]at this;exact(aR.1 this).1
  obtain⟨O1,p1,p2⟩:=h.rm.Sa (X':=w.heap.size::X) (gR.of_below hb) (fun b hb'=>by
   rcases aI.1 hb' with rfl|hb'
   ·exact .inr ⟨aj _,by rw[aB];omega⟩
   ·exact .inl hb') (bV.2 ⟨fun hm=>by have:=(h.rm.high _ (h.rm.kc hm)).2;omega,hX⟩)
  exact⟨⟨O1,p1,p2⟩,rfl,rfl,aj _,aE w _,bS _ _ _ _,⟨_,by omega,rfl⟩,by simp,(World.cell?_of_block (hb.block c.R (h.rm.high c.R h.rm.iL).2)).trans hcell⟩
 have X1:=qet hA0
 have CO:qes (∀ls r2 lv wr,T5 c X r O w (.slice (some ⟨g,0,none⟩) (l.length+1) hcap) w.heap.size ls r2 lv wr->∃cur aa sj ac,wr.heap[g]? =some (.cells cur 57)/\cur[l.length*14+8]? =some (.slice aa hd.s.arms.length sj)/\wr.ownsRow c.B 51 2 (.slice aa hd.s.arms.length sj) hd.s.arms.length ac/\(aZ aa hd.s.arms.length sj).ownBlock≠some g/\c.B<=wr.heap.size/\hd.s.arms.length<=900000001/\w.heap.size≠g/\(aZ aa hd.s.arms.length sj).ownBlock≠some w.heap.size/\(∃la lc,lv=.slice la ls.length lc)/\wr.heap[w.heap.size]? =some (.cells #[lv,.slice none 0 0] 51)/\
   ∀w',Gw c.B g (l.length*14+8) cur (.slice aa hd.s.arms.length sj) hd.s.arms.length ac [lv,.slice none 0 0] wr w'->Calls ah 182 #[.pointer (some ⟨c.R,0,none⟩),.int .i64 ((hd.s.arms.length:Int)+1),.int .i64 32] w' fun e w2=>e=.returned (.tuple #[])/\Calls ah 104 #[.pointer (some ⟨c.R,0,none⟩),.string ⟨#[58]⟩] w2 fun e w3=>∃p1 p2 p3,e=.returned (mz p1 p2 p3)/\Calls ah 177 #[.pointer (some ⟨p1,0,none⟩),.pointer (some ⟨p2,0,none⟩),.pointer (some ⟨p3,0,none⟩)] w3 fun e w4=>∃v,e=.returned v/\pN c X qY r O w v w4):=fun ls r2 lv wr hE=>by
  obtain⟨cur,aa,sj,ac,a1,a2,a3,a4,a5,a6,a7,a8,a9,a10⟩:=M5 hE hgr h.hh rfl;refine⟨cur,aa,sj,ac,a1,a2,a3,a4,a5,a6,a7,a8,a9,hE.blk,fun w' hw'=>?_⟩;obtain⟨O1,p1,p2⟩:=a10 w' hw';have hl:=p1.lim (hd.s.arms.length+1) 32;rw[show((hd.s.arms.length+1:Nat):Int)=(hd.s.arms.length:Int)+1 by omega]at hl;refine hl.mono ?_;rintro e w2 ⟨rfl,q1,q2,_⟩;refine⟨rfl,(oQ c.R ⟨#[58]⟩ w2).mono ?_⟩;rintro e w3 ⟨b1,b2,b3,rfl,hc,hb⟩;refine⟨b1,b2,b3,rfl,(EI (k:=k0 X) (o:=none) ⟨q1,fun _ h=>by cases h⟩ (by decide) (l:=jB) rfl hc hb).mono ?_⟩;have hgq:Gone O w O1 w2:=p2.trans (Gone.my q2 (by simp[p1.iL]));have hae:=Qa hE.lab (hE.hs.trans h.hh);rintro e w4 ⟨v,O2,rfl,z1,⟨z2,rfl,z3⟩|⟨z2,rfl,z3⟩⟩
  ·have he:qY r=(jF (jZ (hd.s.arms.length+1) 32 (vu r2 hd l ls)).1,.ok ()):=by
    rw[hae];rw[iD (show jZ (hd.s.arms.length+1) 32 (vu r2 hd l ls)=((jZ (hd.s.arms.length+1) 32 (vu r2 hd l ls)).1,.ok ())from rfl)];simp[lB,z2]
   exact⟨_,rfl,O2,by rw[he];rfl,by rw[he];exact z3.1,hgq.trans z1⟩
  ·have he:qY r=((jZ (hd.s.arms.length+1) 32 (vu r2 hd l ls)).1,.error .tok):=by
    rw[hae];rw[iD (show jZ (hd.s.arms.length+1) 32 (vu r2 hd l ls)=((jZ (hd.s.arms.length+1) 32 (vu r2 hd l ls)).1,.ok ())from rfl)];simp[lB,z2]
   exact⟨_,rfl,O2,by rw[he];rfl,by rw[he];exact z3.1,hgq.trans z1⟩
 obtain⟨A,hA⟩:∃A,A=w.heap.size:=⟨_,rfl⟩
 rw[<-hA]at X1 CO;have HAA:=qet hA;obtain⟨HV,X0⟩:∃HV,HV=aZ (some ⟨g,0,none⟩) (l.length+1) hcap:=⟨_,rfl⟩
 rw[<-X0]at X1 CO;generalize l.length*14=p at *;clear h hgr hcell hA0 X0;go_enter Tryz.func156,Tryz.ntmps156;go_wp2_with fail;rw[<-HAA.o];clear hA
 go_loopw [6,7] (fun _ _ wr=>∃ls rr lv,JR c X r O w HV A ls rr lv wr) (fun _ _ wr=>kX c wr)
 case atStart=>exact⟨_,_,_,X1.o⟩
 case round=>
  obtain⟨ls,rr,lv,hI⟩:=hrel;have t1:=wU c.R wr.heap.size 0 false (wr.alloc (.cells #[.int .i64 0] 2));unfold xJ at t1;have HI:=qet hI;have HM:=qet hI.kX;have qde:ls.length<=900000001:=by have:=hI.cnt;omega
  clear hI X1;go_wp2_with fail;refine t1.mono ?_;rintro e w1 ⟨n1,n2,n3,rfl,hc1,hb1⟩;have t2:=P8 HI.o w1 n1 n2 n3 hc1 hb1;clear t1 hc1 hb1;go_wp2_with fail;refine t2.mono ?_;rintro e w3 ⟨v,rfl,⟨rfl,n,hbx,hN⟩|⟨rfl,hQ⟩⟩
  ·have HN:=qet hN;obtain⟨la,lc,hlv⟩:=lK hN.row;subst hlv;have lA:=lt_of_heap hN.blk;have dA:w3.cell? ⟨A,0,none⟩=some (.slice la ls.length lc):=by rw[af hN.blk];rfl
   have dT:w3.cell? ⟨wr.heap.size,0,none⟩=some (.int .i64 n):=by rw[af hbx];rfl
   have sB:=qet hN.row;have Zi:=qet hN.blk;have j0:(0:Int)<=(ls.length:Int):=by omega
   have j1:(ls.length:Int)<=900000001:=by omega
   have hAw:A+1<=w3.heap.size:=lA;clear t2 hbx hN;go_wp2_with(at_builtin;go_must (refine wpList_append_lies _ (by rfl) _ _ 49 (by rfl) (A+1) 2 i0 _ 1 8 Tryz.underlying49 hi hz0 hz1 hz2 rfl (by decide) (.slice la ls.length lc) ls.length (Cu ls) (by rfl) (sB.o.alloc _) ⟨w3.heap.size,0,none⟩ 1 1 [.int .i64 n] (by rfl) (by rfl) (bf (cs:=#[.int .i64 n]) (t:=2) (fr:=(0,0)) (by exact aE w3 _)) (by simp[aY]) (by omega) (by unfold ff;omega) (by omega) (by simp;omega) _ rfl ?_;intro gg cap' w4 hown1 hgrow hat hlt;have hb4:w4.heap[A]? =some (.cells #[.slice la ls.length lc,.slice none 0 0] 51):=((hgrow.block A (by rw[aB];omega) (fun e=>(by have:=(sB.o.lt A e.symm).1;omega))).trans ((bj w3 _ A lA).trans Zi.o));have q0:w4.cell? ⟨A,0,none⟩=some (.slice la ls.length lc):=(by rw[af hb4];rfl);have q0f:w4.frozen? ⟨A,0,none⟩=false:=aC hb4 0;have HP:=qet (P9 HN.o hgrow hown1 hat hlt);clear hgrow hown1 hat hlt hb4));have t4:=HP.o.keepR;rw[show((ls.length+1:Nat):Int)=(ls.length:Int)+1 by omega]at t4;clear q0 q0f dA dT;refine t4.mono ?_;rintro e w5 ⟨rfl,Zj⟩;have HP5:=qet Zj;obtain⟨O5,AW,_⟩:=Zj.rm;have t5:=AW.is 3 ⟨#[44]⟩ ja rfl;clear t4 Zj AW HP;go_wp2_with fail;refine t5.mono ?_;rintro e w6 ⟨rfl,hb6⟩;obtain⟨hE,T6⟩:=JS (HP5.o.below hb6);clear t5 hb6
   cases hT:jI 3 ja (jZ (ls.length+1) 16 (j8 false rr).1).1 with
   |true=>
    obtain⟨at_,b1,b2,b3,b4,b5⟩:=T6 hT;have HB4:=qet b4;have FK:=qet b5;have k0:(0:Int)<=(at_:Int):=by omega
    have k1:(at_:Int)<=900000000:=by omega
    clear hE T6 hT b4 b5;go_wp2
    go_roundw
    case rel=>exact⟨_,_,_,HB4.o⟩
    case measure=>
     have e1:=HB4.o.kX;have e2:=HM.o;have e3:=FK.o;omega
   |false=>
    obtain⟨cur,aa,sj,ac,a1,a2,a3,a4,a5,a6,a7,a8,_,a10,a11⟩:=CO.o _ _ _ _ (hE hT);have CF:=qet a11;have lg:=lt_of_heap a1;have lA6:=lt_of_heap a10;have Vc:=qet a1;have qD:=qet a4;have HOW:=qet a3;have d8:w6.cell? ⟨g,p+8,none⟩=some (.slice aa hd.s.arms.length sj):=by rw[af a1];exact a2
    have d8a:∀o,(w6.alloc o).cell? ⟨g,p+8,none⟩=some (.slice aa hd.s.arms.length sj):=fun o=>(World.cell?_alloc_lt _ _ _ lg).trans d8
    have x0:w6.cell? ⟨A,0,none⟩=some (.slice (some ⟨gg,0,none⟩) (ls.length+1) cap'):=by rw[af a10];rfl
    have x1:w6.cell? ⟨A,1,none⟩=some (.slice none 0 0):=by rw[af a10];rfl
    have y0:(0:Int)<=(hd.s.arms.length:Int):=by omega
    have y1:(hd.s.arms.length:Int)<=900000001:=by omega
    have Qc:=qet a2;clear hE T6 hT a1 a2 a3 a4 a7 a8 a10 a11;generalize hd.s.arms.length=na at *;go_wp2
    go_region_law ((refine bK _ (by rfl) _ _ _ (by rfl) c.B 51 i5 _ 2 48 Tryz.underlying45 hi5 hy0 hy1 hy2 rfl (by omega) (.slice aa na sj) na _ (by rfl) (by exact(HOW.o.alloc _)) ⟨w6.heap.size,0,none⟩ 1 1 [.slice (some ⟨gg,0,none⟩) (ls.length+1) cap',.slice none 0 0] (by rfl) (by rfl) (bf (cs:=#[.slice (some ⟨gg,0,none⟩) (ls.length+1) cap',.slice none 0 0]) (t:=51) (fr:=(0,0)) (by exact alloc_at w6 _)) (by simp[aY]) (by omega) (by unfold ff;omega) (by omega) (by simp;omega) _ rfl ?_;intro Wj cap2 w7 hown2 hgrow2 M6 hlt2;have f1:=iE Vc.o hgrow2 qD.o;have q3:w7.cell? ⟨g,p+8,none⟩=some (.slice aa na sj):=(by rw[af f1];exact Qc.o);have FI:w7.frozen? ⟨g,p+8,none⟩=false:=aC f1 _;have HAD:=qet (JU (q:=p+8) Vc.o qD.o hgrow2 M6 hown2);clear hgrow2 f1 hown2 M6 hlt2))
    all_goals
     have t8:=CF.o _ HAD.o;have z8:(w7.setCell ⟨g,p+8,none⟩ (.slice (some ⟨Wj,0,none⟩) (na+1) cap2)).cell? ⟨g,p+8,none⟩=some (.slice (some ⟨Wj,0,none⟩) (na+1) cap2):=World.cell?_setCell_same _ _ _ (by rw[q3]);generalize(w7.setCell ⟨g,p+8,none⟩ (.slice (some ⟨Wj,0,none⟩) (na+1) cap2))=w8 at *;clear HAD d8 d8a x0 x1 q3 FI;go_wp2_with fail;refine t8.mono ?_;rintro e w9 ⟨rfl,t9⟩;clear t8 z8;go_wp2_with fail;refine t9.mono ?_;rintro e w10 ⟨p1,p2,p3,rfl,t10⟩;clear t9;go_wp2_with fail;refine t10.mono ?_;rintro e KI ⟨v,rfl,hq⟩;have HQ:=qet hq;clear t10 hq;go_wp2;go_ret;exact⟨_,rfl,HQ.o⟩
  ·have HQ:=qet hQ;clear t2 hQ;go_wp2;go_ret;exact⟨_,rfl,HQ.o⟩
end Go.Proofs.YtekanffohkeoeaaGreatDoor
