import Derived.Test.YtekanffohkeoeaaGreatDoorEmW
import Derived.Test.YtekanffohkeoeaaGreatDoorYiW
import Derived.Test.YtekanffohkeoeaaGreatDoorBkP
import Derived.Deep.AppendLies
import Derived.Deep.RegionHeldLaw
import Derived.Test.YtekanffohkeoeaaGreatDoorRwW
namespace Go.Proofs.YtekanffohkeoeaaGreatDoor
open Go.RowKit
open Nat renaming le_trans → aP, lt_of_lt_of_le → aJ, le_refl → aj, add_sub_cancel_left → fC
open Go.RowKit.Below renaming refl → aw, heap_setCell → aM
open Go.Proofs.Tryz renaming prog → ah, underlying24 → cY, results151 → cE
open Go.Lib renaming alloc_old → bj, cell_of_heap → af, frozen_of_heap → aC
open Go renaming heap_alloc_new → aE, wp_region_noPanic → ft, wp_region_held_drew → fm, wpAnyH_ready → fh, step_append_lies → bK, maxLen → ff, wpAnyH_done → bX, ownsRow_setCell_other → bJ, bodyPost_end → aW, results → aV
open Go.IntKind renaming i64 → fX
open Option.some renaming inj → an
open Go.Act renaming put → aS
open List renaming setIfInBounds_toArray → ak, set_cons_zero → aD, set_cons_succ → aF, nodup_append → aR, mem_append → aN, nodup_cons → bV, mem_cons → aI, length_cons → aG, not_mem_nil → bG, append_nil → bm, length_append → ao, length_take → bU, reverse_cons → dk
open Go.AllReadyH renaming cons → bu, nil → cz
open Go.World renaming news_of_block → bf, size_alloc → aB, ownsRow_nil → bS
open Go.Value renaming oneCell' → aY, slice → aZ, ownBlock → bw
open Go.NoPanic renaming normal → bP
open Option renaming mem_toList → bT
open Go.Region renaming wanted → cM
open Go.Result renaming andThen_ok → cS
set_option maxRecDepth 100000
set_option maxHeartbeats 6400000
variable {row:Option Nat}{a:World}{w:World}{w':World}{O:List Nat}
theorem gR.grown(h:gR O a w)(hg:w.grownBy w' row)(hr:∀k,row=some k->k∈O\/a.heap.size<=k):gR O a w':=
 ⟨hg.os.trans h.os,hg.tape.trans h.tape,hg.output.trans h.output,aP h.size hg.size,fun k hk ho=>(hg.block k (aJ hk h.size) (fun e=>(hr k e.symm).elim ho (fun hl=>by omega))).trans (h.block k hk ho)⟩
theorem gR.alloc(h:gR O a w)(o:Obj):gR O a (w.alloc o):=h.trans (gR.of_below ((aw w.heap.size w).alloc (aj _) o))
theorem Y1:(ah.info? 57).map (fun i=>(i.zero,i.size,i.bytes))=some (some (.agg #[.int .i64 0,.string ⟨#[]⟩,.slice none 0 0,.slice none 0 0,.slice none 0 0,.int .i64 0,.slice none 0 0,.slice none 0 0,.slice none 0 0,.slice none 0 0,.int .i64 0,.bool false,.bool false,.int .i64 0]),14,224):=by kernel_rfl
variable {R:Nat}{w1:World}
theorem iE{A o:Obj}(h:w.heap[R]? =some o)(hg:(w.alloc A).drew.grownBy w1 row)(hne:row≠some R):w1.heap[R]? =some o:=by
 have hlt:=lt_of_heap h
 have hx:(w.alloc A).drew.heap[R]? =some o:=by
  show(w.alloc A).heap[R]? =some o;rw[bj w A R hlt];exact h
 rw[hg.block R (lt_of_heap hx) (fun e=>hne e.symm)];exact hx
theorem alloc_at(w:World)(A:Obj):(w.alloc A).drew.heap[w.heap.size]? =some A:=aE w A
variable {fa:Int}{fc:Int}{at_:Nat}{hv:Value}{sv:Value}{u:Value}
theorem Gv{tv:Value}{mn:Bool}{dp:Int}(h:w.heap[R]? =some (mb tv at_ hv sv mn fa fc dp)):(w.setCell ⟨R,2,none⟩ u).heap[R]? =some (mb tv at_ u sv mn fa fc dp):=by
 unfold mb at h ⊢;rw[F4 h];rfl
theorem gR.drew(h:gR O a w):gR O a w.drew:=h.trans (gR.of_below (⟨rfl,rfl,rfl,aj _,fun _ _=>rfl⟩:Below w.heap.size w w.drew))
theorem Co(n:Nat)(h:n<=1000000000):fX.wrap ((n:Int)-1)=(n:Int)-1:=by
 cases n with
 |zero=>rfl
 |succ n=>rw[show((n+1:Nat):Int)-1=(n:Int) by omega,IntKind.wrap_i64];omega
structure HJ(O:List Nat)(w:World)(p:Addr)(u:Value)(W:World):Prop where
 keep:gR O w W
 cell:W.cell? p=some u
variable {W:World}{p:Addr}
theorem HJ.alloc(h:HJ O w p u W)(o:Obj):HJ O w p u (W.alloc o):=⟨h.keep.alloc o,(World.cell?_alloc_lt _ _ _ (World.block_lt_of_cell? W p h.cell)).trans h.cell⟩
theorem HJ.drew(h:HJ O w p u W):HJ O w p u W.drew:=⟨h.keep.trans (gR.of_below (⟨rfl,rfl,rfl,aj _,fun _ _=>rfl⟩:Below W.heap.size W W.drew)),h.cell⟩
theorem HJ.grown{W':World}(hg:W.grownBy W' row)(h:HJ O w p u W)(hr:∀k,row=some k->k∈O\/w.heap.size<=k)(hp:row≠some p.block):HJ O w p u W':=⟨h.keep.grown hg hr,hg.cell h.cell (fun e=>hp e.symm)⟩
theorem HJ.put(h:HJ O w p u W){q:Addr}(hq:q.block∈O)(hne:q≠p)(v:Value):HJ O w p u (W.setCell q v):=⟨h.keep.setCell (.inl hq) v,(World.cell?_setCell_other W q p v hne).trans h.cell⟩
variable {il:Nat}{ic:Nat}{xl:Nat}{xc:Nat}{yl:Nat}{yc:Nat}{gl:Nat}{gc:Nat}{ia:Option Addr}{xa:Option Addr}{ya:Option Addr}{ga:Option Addr}{nv:ByteArray}{gT:Int}{cs:List Value}{B:Nat}{n:Nat}
theorem JI{T b1 b2 sn sc:Nat}{tv:Value}{sa:Option Addr}{mn:Bool}{dp:Int}{kd:Int}(hr:w.heap[R]? =some (mb tv at_ hv (.slice sa sn sc) mn fa fc dp))(h1:w.heap[b1]? =some (.cells #[.pointer (some ⟨R,0,none⟩)] 55))(h2:w.heap[b2]? =some (.cells #[.pointer (some ⟨T,0,none⟩)] 146))
  (hT:w.heap[T]? =some (.cells #[.int .i64 kd,.string nv,.slice ia il ic,.slice xa xl xc,.slice ya yl yc,.int .i64 gT,.slice none 0 0,.slice none 0 0,.slice none 0 0,.slice ga gl gc] 48)) (hown:w.ownsRow B 57 14 hv n cs) (hn:n<=1000000000) (hsn:sn<=1000000000) (hB:B<=w.heap.size) (hvR:hv.ownBlock≠some R) (hv1:hv.ownBlock≠some b1):
  Calls ah 145 #[.pointer (some ⟨b1,0,none⟩),.pointer (some ⟨b2,0,none⟩)] w fun e w'=>e=.returned .nilIface/\∃g cap,w'.heap[R]? =some (mb tv at_ (.slice (some ⟨g,0,none⟩) (n+1) cap) (.slice sa sn sc) mn fa fc dp)/\w'.ownsRow B 57 14 (.slice (some ⟨g,0,none⟩) (n+1) cap) (n+1) (cs++[.int .i64 kd,.string nv,.slice ia il ic,.slice xa xl xc,.slice ya yl yc,.int .i64 gT,.slice none 0 0,.slice none 0 0,.slice none 0 0,.slice ga gl gc,.int .i64 ((sn:Int)-1),.bool false,.bool false,.int .i64 0])/\(hv.ownBlock=some g\/w.heap.size<=g)/\g≠R/\gR (R::hv.ownBlock.toList) w w':=by
 obtain⟨i0,hi,hz0,hz1,hz2⟩:=info_parts Y1;have hRR:=qet hr;have H1:=qet h1;have HOWN:=qet hown;have rW:=qet hvR;have HN1:=qet hv1;unfold mb at hr;have lR:=lt_of_heap hr;have l1:=lt_of_heap h1;have l2:=lt_of_heap h2;have lT:=lt_of_heap hT;have a1:w.cell? ⟨b1,0,none⟩=some (.pointer (some ⟨R,0,none⟩)):=by rw[af h1];rfl
 have a2:w.cell? ⟨b2,0,none⟩=some (.pointer (some ⟨T,0,none⟩)):=by rw[af h2];rfl
 have r2:w.cell? ⟨R,2,none⟩=some hv:=by rw[af hr];rfl
 have r3:w.cell? ⟨R,3,none⟩=some (.slice sa sn sc):=by rw[af hr];rfl
 have e1:∀o,(w.alloc o).cell? ⟨b1,0,none⟩=some (.pointer (some ⟨R,0,none⟩)):=fun o=>(World.cell?_alloc_lt _ _ _ l1).trans a1
 have e2:∀o,(w.alloc o).cell? ⟨R,2,none⟩=some hv:=fun o=>(World.cell?_alloc_lt _ _ _ lR).trans r2
 have t0:w.cell? ⟨T,0,none⟩=some (.int .i64 kd):=by rw[af hT];rfl
 have t1:w.cell? ⟨T,1,none⟩=some (.string nv):=by rw[af hT];rfl
 have t2:w.cell? ⟨T,2,none⟩=some (.slice ia il ic):=by rw[af hT];rfl
 have t3:w.cell? ⟨T,3,none⟩=some (.slice xa xl xc):=by rw[af hT];rfl
 have t4:w.cell? ⟨T,4,none⟩=some (.slice ya yl yc):=by rw[af hT];rfl
 have t5:w.cell? ⟨T,5,none⟩=some (.int .i64 gT):=by rw[af hT];rfl
 have t6:w.cell? ⟨T,6,none⟩=some (.slice none 0 0):=by rw[af hT];rfl
 have t7:w.cell? ⟨T,7,none⟩=some (.slice none 0 0):=by rw[af hT];rfl
 have t8:w.cell? ⟨T,8,none⟩=some (.slice none 0 0):=by rw[af hT];rfl
 have t9:w.cell? ⟨T,9,none⟩=some (.slice ga gl gc):=by rw[af hT];rfl
 have j1:(sn:Int)<=1000000000:=by omega
 have j0:(0:Int)<=(sn:Int):=by omega
 have jw:fX.wrap ((sn:Int)-1)=(sn:Int)-1:=Co sn hsn;have QF:b1≠R:=fun e=>by subst e;rw[hr]at h1;cases h1
 have Sf:b2≠R:=fun e=>by subst e;rw[hr]at h2;cases h2
 have MI:T≠R:=fun e=>by subst e;rw[hr]at hT;cases hT
 have no:∀ {b:Nat}{cs:Array Value}{t:TypeId},w.heap[b]? =some (.cells cs t)->t≠57->hv.ownBlock≠some b:=fun {b}{cs}{t} hb ht e=>by
  rcases hown.2 with⟨rfl,_⟩|⟨g,cap,cur,rfl,_,hg,_⟩
  ·cases e
  ·obtain rfl:g=b:=an e;rw[hg]at hb;have:=an hb;injection this with _ h3 _
   exact ht h3.symm
 have Sg:=no h2 (by decide);have noT:=no hT (by decide)
 have HK:qes (∀W,HJ (R::hv.ownBlock.toList) w ⟨R,3,none⟩ (.slice sa sn sc) W->(W.cell? ⟨b1,0,none⟩=some (.pointer (some ⟨R,0,none⟩))/\W.cell? ⟨b2,0,none⟩=some (.pointer (some ⟨T,0,none⟩))/\W.cell? ⟨R,3,none⟩=some (.slice sa sn sc)/\W.cell? ⟨T,0,none⟩=some (.int .i64 kd)/\W.cell? ⟨T,1,none⟩=some (.string nv)/\W.cell? ⟨T,2,none⟩=some (.slice ia il ic)/\W.cell? ⟨T,3,none⟩=some (.slice xa xl xc)/\W.cell? ⟨T,4,none⟩=some (.slice ya yl yc)/\W.cell? ⟨T,5,none⟩=some (.int .i64 gT)/\W.cell? ⟨T,6,none⟩=some (.slice none 0 0)/\W.cell? ⟨T,7,none⟩=some (.slice none 0 0)/\W.cell? ⟨T,8,none⟩=some (.slice none 0 0)/\W.cell? ⟨T,9,none⟩=some (.slice ga gl gc))/\HJ (R::hv.ownBlock.toList) w ⟨R,3,none⟩ (.slice sa sn sc) W):=fun W hW=>by
  have f:∀b o,b<w.heap.size->b≠R->hv.ownBlock≠some b->W.cell? ⟨b,o,none⟩=w.cell? ⟨b,o,none⟩:=fun b o hl hR ho=>World.cell?_of_block (hW.keep.block b hl (by simp[hR];exact ho))
  exact⟨⟨(f b1 0 l1 QF hv1).trans a1,(f b2 0 l2 Sf Sg).trans a2,hW.cell,(f T 0 lT MI noT).trans t0,(f T 1 lT MI noT).trans t1,(f T 2 lT MI noT).trans t2,(f T 3 lT MI noT).trans t3,(f T 4 lT MI noT).trans t4,(f T 5 lT MI noT).trans t5,(f T 6 lT MI noT).trans t6,(f T 7 lT MI noT).trans t7,(f T 8 lT MI noT).trans t8,(f T 9 lT MI noT).trans t9⟩,hW⟩
 have S0:=HK.o w ⟨gR.refl _ w,r3⟩;have hrow:∀k,hv.ownBlock=some k->k∈R::hv.ownBlock.toList\/w.heap.size<=k:=fun k hk=>.inl (by simp[hk])
 have hrm:(⟨R,2,none⟩:Addr).block∈R::hv.ownBlock.toList:=by simp
 have hrn:(⟨R,2,none⟩:Addr)≠⟨R,3,none⟩:=by simp
 have sB:=qet hrow;have Ez:=qet hrm;have RY:=qet hrn;clear hr h1 h2 hT hown hvR hv1 no QF Sf MI Sg noT hrow hrm hrn t0 t1 t2 t3 t4 t5 t6 t7 t8 t9 a1 a2 r3 e1;go_enter Tryz.func145,Tryz.ntmps145;go_wp2;have S1:=HK.o w.drew ⟨S0.2.drew.keep,S0.2.drew.cell⟩;refine ft ?_;refine fm (S:=(fun W=>(W.cell? ⟨b1,0,none⟩=some (.pointer (some ⟨R,0,none⟩))/\W.cell? ⟨b2,0,none⟩=some (.pointer (some ⟨T,0,none⟩))/\W.cell? ⟨R,3,none⟩=some (.slice sa sn sc)/\W.cell? ⟨T,0,none⟩=some (.int .i64 kd)/\W.cell? ⟨T,1,none⟩=some (.string nv)/\W.cell? ⟨T,2,none⟩=some (.slice ia il ic)/\W.cell? ⟨T,3,none⟩=some (.slice xa xl xc)/\W.cell? ⟨T,4,none⟩=some (.slice ya yl yc)/\W.cell? ⟨T,5,none⟩=some (.int .i64 gT)/\W.cell? ⟨T,6,none⟩=some (.slice none 0 0)/\W.cell? ⟨T,7,none⟩=some (.slice none 0 0)/\W.cell? ⟨T,8,none⟩=some (.slice none 0 0)/\W.cell? ⟨T,9,none⟩=some (.slice ga gl gc))/\HJ (R::hv.ownBlock.toList) w ⟨R,3,none⟩ (.slice sa sn sc) W)) (by kernel_rfl) S1 (fun hHeld=>?_);refine je 0 (.pointer (some ⟨R,0,none⟩)) hHeld ?_;refine je 1 (.pointer (some ⟨R,0,none⟩)) hHeld ?_;refine je 2 (.pointer (some ⟨R,0,none⟩)) hHeld ?_;refine je 3 (.pointer (some ⟨R,2,none⟩)) hHeld ?_;refine je 5 (.pointer (some ⟨T,0,none⟩)) hHeld ?_;refine je 6 (.pointer (some ⟨T,0,none⟩)) hHeld ?_;refine je 7 (.agg #[.int .i64 kd,.string nv,.slice ia il ic,.slice xa xl xc,.slice ya yl yc,.int .i64 gT,.slice none 0 0,.slice none 0 0,.slice none 0 0,.slice ga gl gc]) hHeld ?_;refine je 8 (.pointer (some ⟨R,0,none⟩)) hHeld ?_;refine je 9 (.pointer (some ⟨R,0,none⟩)) hHeld ?_;refine je 10 (.pointer (some ⟨R,3,none⟩)) hHeld ?_;refine je 11 (.slice sa sn sc) hHeld ?_;refine je 12 (.int .i64 (sn:Int)) hHeld ?_;refine je 13 (.int .i64 ((sn:Int)-1)) hHeld ?_;refine je 14 (.agg #[.int .i64 kd,.string nv,.slice ia il ic,.slice xa xl xc,.slice ya yl yc,.int .i64 gT,.slice none 0 0,.slice none 0 0,.slice none 0 0,.slice ga gl gc,.int .i64 ((sn:Int)-1),.bool false,.bool false,.int .i64 0]) hHeld ?_
 try dsimp only[aS,ak,aD,aF]
 refine fh (rs:=[4,15]) (by kernel_rfl) (by simp) ?_;refine bu rfl (fun K hK=>?_) (bu rfl (fun K hK=>?_) cz)
 ·go_simp
  refine hK.out _ _ ?_ (fun hHeld=>?_)
  ·(first|(with_reducible assumption)|(with_reducible refine HK.o _ ?_;(focus(repeat with_reducible (first|assumption|(apply gS;assumption)|refine HJ.alloc ?_ _|refine HJ.drew ?_|refine HJ.put ?_ Ez.o RY.o _|refine HJ.grown HG.o ?_ sB.o rW.o));done)))
  clear hK K
  try dsimp only[aS,ak,aD,aF]
  refine mI 15 (fun K hK=>?_)
  go_simp
  refine hK.out _ _ ?_ (fun hHeld=>?_)
  ·(first|(with_reducible assumption)|(with_reducible refine HK.o _ ?_;(focus(repeat with_reducible (first|assumption|(apply gS;assumption)|refine HJ.alloc ?_ _|refine HJ.drew ?_|refine HJ.put ?_ Ez.o RY.o _|refine HJ.grown HG.o ?_ sB.o rW.o));done)))
  clear hK K
  try dsimp only[aS,ak,aD,aF]
  refine mI 16 (fun K hK=>?_)
  (refine bK _ (by rfl) _ _ _ (by rfl) B 57 i0 _ 14 224 Tryz.underlying58 hi hz0 hz1 hz2 rfl (by omega) hv n _ (by rfl) (by exact(HOWN.o.alloc _)) ⟨w.heap.size,0,none⟩ 1 1 [.int .i64 kd,.string nv,.slice ia il ic,.slice xa xl xc,.slice ya yl yc,.int .i64 gT,.slice none 0 0,.slice none 0 0,.slice none 0 0,.slice ga gl gc,.int .i64 ((sn:Int)-1),.bool false,.bool false,.int .i64 0] (by rfl) (by rfl) (bf (cs:=#[.int .i64 kd,.string nv,.slice ia il ic,.slice xa xl xc,.slice ya yl yc,.int .i64 gT,.slice none 0 0,.slice none 0 0,.slice none 0 0,.slice ga gl gc,.int .i64 ((sn:Int)-1),.bool false,.bool false,.int .i64 0]) (t:=57) (fr:=(0,0)) (by exact alloc_at w _)) (by simp[aY]) (by omega) (by unfold ff;omega) (by omega) (by simp;omega) _ rfl ?_;intro gg cap' w1 hown1 hgrow hat hlt;have f1:=iE hRR.o hgrow rW.o;have q3:w1.cell? ⟨R,2,none⟩=some hv:=(by rw[af f1];rfl);have FI:w1.frozen? ⟨R,2,none⟩=false:=aC f1 2;have HF:=qet f1;have HG:=qet hgrow;have HA:=qet hat;have mh:=qet hown1;clear hgrow f1 hown1 hat hlt)
  refine hK.out _ _ ?_ (fun hHeld=>?_)
  ·(first|(with_reducible assumption)|(with_reducible refine HK.o _ ?_;(focus(repeat with_reducible (first|assumption|(apply gS;assumption)|refine HJ.alloc ?_ _|refine HJ.drew ?_|refine HJ.put ?_ Ez.o RY.o _|refine HJ.grown HG.o ?_ sB.o rW.o));done)))
  clear hK K
  try dsimp only[aS,ak,aD,aF]
  refine je 17 (.pointer (some ⟨R,0,none⟩)) hHeld ?_;refine je 18 (.pointer (some ⟨R,2,none⟩)) hHeld ?_
  try dsimp only[aS,ak,aD,aF]
  refine mI 19 (fun K hK=>?_)
  go_simp
  refine hK.out _ _ ?_ (fun hHeld=>?_)
  ·(first|(with_reducible assumption)|(with_reducible refine HK.o _ ?_;(focus(repeat with_reducible (first|assumption|(apply gS;assumption)|refine HJ.alloc ?_ _|refine HJ.drew ?_|refine HJ.put ?_ Ez.o RY.o _|refine HJ.grown HG.o ?_ sB.o rW.o));done)))
  clear hK K
  try dsimp only[aS,ak,aD,aF]
  refine bX (by kernel_rfl) ?_ _;refine bP ?_;go_wp2;go_ret;have K0:gR (R::hv.ownBlock.toList) w (w.alloc (.cells #[.int .i64 kd,.string nv,.slice ia il ic,.slice xa xl xc,.slice ya yl yc,.int .i64 gT,.slice none 0 0,.slice none 0 0,.slice none 0 0,.slice ga gl gc,.int .i64 ((sn:Int)-1),.bool false,.bool false,.int .i64 0] 57)).drew:=((gR.refl _ w).alloc _).drew;have K1:gR (R::hv.ownBlock.toList) w w1:=K0.grown (row:=hv.ownBlock) HG.o (fun k hk=>.inl (by rw[hk];simp))
  have hgR:gg≠R:=fun e=>by
   rcases HA.o with h|h
   ·exact rW.o (by rw[h,e])
   ·have h:gg=(w.alloc _).heap.size:=h;rw[aB]at h;omega
  refine⟨rfl,gg,cap',Gv HF.o,bJ mh.o (a:=⟨R,2,none⟩) (by show some gg≠some R;intro e;exact hgR (an e)) _,?_,hgR,K1.setCell (p:=⟨R,2,none⟩) (.inl (by simp)) _⟩
  rcases HA.o with h|h
  ·exact .inl h
  ·right
   have h:gg=(w.alloc _).heap.size:=h;rw[aB]at h;omega
 ·go_simp
  refine hK.out _ _ ?_ (fun hHeld=>?_)
  ·(first|(with_reducible assumption)|(with_reducible refine HK.o _ ?_;(focus(repeat with_reducible (first|assumption|(apply gS;assumption)|refine HJ.alloc ?_ _|refine HJ.drew ?_|refine HJ.put ?_ Ez.o RY.o _|refine HJ.grown HG.o ?_ sB.o rW.o));done)))
  clear hK K
  try dsimp only[aS,ak,aD,aF]
  refine mI 4 (fun K hK=>?_)
  go_simp
  refine hK.out _ _ ?_ (fun hHeld=>?_)
  ·(first|(with_reducible assumption)|(with_reducible refine HK.o _ ?_;(focus(repeat with_reducible (first|assumption|(apply gS;assumption)|refine HJ.alloc ?_ _|refine HJ.drew ?_|refine HJ.put ?_ Ez.o RY.o _|refine HJ.grown HG.o ?_ sB.o rW.o));done)))
  clear hK K
  try dsimp only[aS,ak,aD,aF]
  refine mI 16 (fun K hK=>?_)
  (refine bK _ (by rfl) _ _ _ (by rfl) B 57 i0 _ 14 224 Tryz.underlying58 hi hz0 hz1 hz2 rfl (by omega) hv n _ (by rfl) (by exact(HOWN.o.alloc _)) ⟨w.heap.size,0,none⟩ 1 1 [.int .i64 kd,.string nv,.slice ia il ic,.slice xa xl xc,.slice ya yl yc,.int .i64 gT,.slice none 0 0,.slice none 0 0,.slice none 0 0,.slice ga gl gc,.int .i64 ((sn:Int)-1),.bool false,.bool false,.int .i64 0] (by rfl) (by rfl) (bf (cs:=#[.int .i64 kd,.string nv,.slice ia il ic,.slice xa xl xc,.slice ya yl yc,.int .i64 gT,.slice none 0 0,.slice none 0 0,.slice none 0 0,.slice ga gl gc,.int .i64 ((sn:Int)-1),.bool false,.bool false,.int .i64 0]) (t:=57) (fr:=(0,0)) (by exact alloc_at w _)) (by simp[aY]) (by omega) (by unfold ff;omega) (by omega) (by simp;omega) _ rfl ?_;intro gg cap' w1 hown1 hgrow hat hlt;have f1:=iE hRR.o hgrow rW.o;have q3:w1.cell? ⟨R,2,none⟩=some hv:=(by rw[af f1];rfl);have FI:w1.frozen? ⟨R,2,none⟩=false:=aC f1 2;have HF:=qet f1;have HG:=qet hgrow;have HA:=qet hat;have mh:=qet hown1;clear hgrow f1 hown1 hat hlt)
  refine hK.out _ _ ?_ (fun hHeld=>?_)
  ·(first|(with_reducible assumption)|(with_reducible refine HK.o _ ?_;(focus(repeat with_reducible (first|assumption|(apply gS;assumption)|refine HJ.alloc ?_ _|refine HJ.drew ?_|refine HJ.put ?_ Ez.o RY.o _|refine HJ.grown HG.o ?_ sB.o rW.o));done)))
  clear hK K
  try dsimp only[aS,ak,aD,aF]
  refine je 17 (.pointer (some ⟨R,0,none⟩)) hHeld ?_;refine je 18 (.pointer (some ⟨R,2,none⟩)) hHeld ?_
  try dsimp only[aS,ak,aD,aF]
  refine mI 19 (fun K hK=>?_)
  go_simp
  refine hK.out _ _ ?_ (fun hHeld=>?_)
  ·(first|(with_reducible assumption)|(with_reducible refine HK.o _ ?_;(focus(repeat with_reducible (first|assumption|(apply gS;assumption)|refine HJ.alloc ?_ _|refine HJ.drew ?_|refine HJ.put ?_ Ez.o RY.o _|refine HJ.grown HG.o ?_ sB.o rW.o));done)))
  clear hK K
  try dsimp only[aS,ak,aD,aF]
  refine bX (by kernel_rfl) ?_ _;refine bP ?_;go_wp2;go_ret;have K0:gR (R::hv.ownBlock.toList) w (w.alloc (.cells #[.int .i64 kd,.string nv,.slice ia il ic,.slice xa xl xc,.slice ya yl yc,.int .i64 gT,.slice none 0 0,.slice none 0 0,.slice none 0 0,.slice ga gl gc,.int .i64 ((sn:Int)-1),.bool false,.bool false,.int .i64 0] 57)).drew:=((gR.refl _ w).alloc _).drew;have K1:gR (R::hv.ownBlock.toList) w w1:=K0.grown (row:=hv.ownBlock) HG.o (fun k hk=>.inl (by rw[hk];simp))
  have hgR:gg≠R:=fun e=>by
   rcases HA.o with h|h
   ·exact rW.o (by rw[h,e])
   ·have h:gg=(w.alloc _).heap.size:=h;rw[aB]at h;omega
  refine⟨rfl,gg,cap',Gv HF.o,bJ mh.o (a:=⟨R,2,none⟩) (by show some gg≠some R;intro e;exact hgR (an e)) _,?_,hgR,K1.setCell (p:=⟨R,2,none⟩) (.inl (by simp)) _⟩
  rcases HA.o with h|h
  ·exact .inl h
  ·right
   have h:gg=(w.alloc _).heap.size:=h;rw[aB]at h;omega
variable {os:List Nat}{r:Rs}{X:List Nat}{c:Cx}
theorem oh.make(h:oh c X r at_ hv sv fa fc os O w){r':Rs}{at':Nat}{hv' sv':Value}{Ev Ew:Int}{os' O':List Nat}(hk:gR O w w')(hrow:w'.heap[c.R]? =some (mb c.tv at' hv' sv' r'.many Ev Ew c.dp))(hat:at'<=c.toks.length)(hrest:r'.rest=lst c.toks at')(hfl:r'.fault.2≠0->Ev=((c.toks.length-r'.fault.1:Nat):Int)/\Ew=r'.fault.2)
  (U7:∃cs,w'.ownsRow c.B 57 14 hv' r'.hs.length cs/\hsR c.B w' (ji O') r'.hs.reverse cs os') (hst:w'.ownsRow c.B 103 3 sv' r'.gY.length (uY c.toks.length r'.gY)) (hown:O'=X++c.R::(hv'.ownBlock.toList++(sv'.ownBlock.toList++os'))) (hnd:O'.Nodup) (hfr:∀b,b∈O'->b∈O\/(w.heap.size<=b/\b<w'.heap.size)) (hgood:Good c.toks.length r'):oh c X r' at' hv' sv' Ev Ew os' O' w'/\Gone O w O' w':=by
 have hR:=h.high c.R h.iL;refine⟨⟨h.env.keep hk (fun b hb=>(h.high b hb).1),⟨h.rb.hB,hat,hrow,h.rb.tk.keep hk (fun b hb=>(h.high b hb).1)⟩,hrest,hfl,U7,hst,hown,hnd,fun b hb=>?_,hgood⟩,hk,fun b hb=>(hfr b hb).imp id (fun h=>h.1)⟩
 rcases hfr b hb with h1|⟨h1,h2⟩
 ·exact⟨(h.high b h1).1,aJ (h.high b h1).2 hk.size⟩
 ·exact⟨by have:=hR.1;have:=hR.2;omega,h2⟩
variable {g:Nat}{l1:List Nat}{l2:List Nat}
theorem JJ(h:(l1++l2).Nodup)(hg:g∉l1++l2):(l1++g::l2).Nodup:=by
 rw[aR]at h ⊢;obtain⟨h1,h2,h3⟩:=h;simp only[aN,not_or]at hg;refine⟨h1,bV.2 ⟨hg.2,h2⟩,fun a ha b hb=>?_⟩
 rcases aI.1 hb with rfl|hb
 ·rintro rfl;exact hg.1 ha
 ·exact h3 a ha b hb
theorem JK{a:Option Nat}(h:(l1++(a.toList++l2)).Nodup):(l1++l2).Nodup:=by
 cases a with
 |none=>exact h
 |some g=>exact h.sublist (List.Sublist.append (List.Sublist.refl _) (List.sublist_cons_self ..))
theorem zp{a:Option Nat}(h:(l1++(a.toList++l2)).Nodup)(hg:a=some g\/g∉l1++l2):(l1++((some g).toList++l2)).Nodup:=by
 rcases hg with rfl|hg
 ·exact h
 ·exact JJ (JK h) hg
variable {e:Nat}{size:Nat}
theorem lK{v:Value}(h:w.ownsRow B e size v n cs):∃a cap,v=.slice a n cap:=by
 rcases h.2 with⟨rfl,rfl⟩|⟨g,cap,cur,rfl,_⟩
 ·exact⟨_,_,rfl⟩
 ·exact⟨_,_,rfl⟩
theorem Good.hsl{N:Nat}(g:Good N r):r.hs.length<=N+1:=by
 have h1:=g.wt
 have:∀l:List Hd,l.length<=zk l:=by
  intro l
  induction l with
  |nil=>simp
  |cons h l ih=>rw[ks,aG];have:=xM h;omega
 have:=this r.hs;omega
theorem vq{O0:List Nat}(hO:∀b,b∈O0->b<w.heap.size){T:Nat}:Calls ah 102 #[.pointer (some ⟨c.R,0,none⟩),.pointer (some ⟨T,0,none⟩)] w (qL c (kT T) O0 (mx c.toks.length) (jf iG) w):=by
 refine(JG c.R T 0 w).mono ?_;rintro e w' ⟨b1,b2,rfl,hc,h2⟩;refine⟨_,_,_,rfl,⟨fun W=>by simp[go_sem],fun W' r o O hkeep hrt hown hpre=>?_⟩,h2⟩;obtain⟨⟨at_,hv,sv,fa,fc,os,hx⟩,hT⟩:=hrt;obtain⟨⟨s,rfl⟩,hok,h0,hwt⟩:=hpre;have qy:T∈(kT T).X:=by simp[kT]
 have hl:=hx.env.tks.hl;have Gt:=hx.kc qy;obtain⟨nv,iv,xv,yv,gv,t1,t2,t3,t4,t5,t6,t7,t8,t9⟩:=hT s rfl;obtain⟨ia,il,ic,rfl⟩:=t3.shape;obtain⟨xa,xl,xc,rfl⟩:=t4.shape;obtain⟨ya,yl,yc,rfl⟩:=t5.shape;obtain⟨ga,gl,gc,rfl⟩:=t6.shape;obtain⟨cs,hs1,hs2⟩:=hx.hs;obtain⟨sa,sc,hsv⟩:=lK hx.st;have hgd:=hx.good;have hc':=hc.keep hkeep hO
 have hb1:b1∉O:=fun hm=>by
  have:=hc.l1
  rcases hown b1 hm with hb|hb
  ·have:=hO b1 hb;omega
  ·have:=lt_of_heap hc.h1;omega
 have hvR:=(hx.JF (k:=c.R) (by simp)).1;have hv1:hv.ownBlock≠some b1:=fun e=>hb1 (by rw[hx.own,e];simp)
 have hrow:=hx.rb.row;rw[hsv]at hrow;have Ut:=hgd.hsl;have hst:=hgd.st;have hBw:c.B<=W'.heap.size:=by have:=hx.high c.R hx.iL;omega
 refine(JI hrow hc'.h1 hc'.h2 t1 hs1 (by omega) (by omega) hBw hvR hv1).mono ?_;rintro e W2 ⟨rfl,g,cap,r1,r2,r3,r4,r5⟩;have hm:jf iG (r,some s)=(((iG s r).1,none),.ok ()):=rfl;have hself:O=(kT T).X++c.R::(hv.ownBlock.toList++(sv.ownBlock.toList++os)):=hx.own
 have Y2:∀b,b∈c.R::hv.ownBlock.toList->b∈O:=fun b hb=>by
  rw[hself];simp only[aI,aN]at hb ⊢
  rcases hb with h|h
  ·exact .inr (.inl h)
  ·exact .inr (.inr (.inl h))
 have sM:gR O W' W2:=r5.more (fun k hk _=>Y2 k hk);have hnd:=hx.nodup;rw[hself]at hnd
 have hgn:hv.ownBlock=some g\/g∉((kT T).X++[c.R])++(sv.ownBlock.toList++os):=by
  rcases r3 with h|h
  ·exact .inl h
  ·right
   intro hm
   have:g∈O:=by
    rw[hself];simp only[aN,aI,bG,or_false]at hm ⊢
    rcases hm with(h|h)|(h|h)
    ·exact .inl h
    ·exact .inr (.inl h)
    ·exact .inr (.inr (.inr (.inl h)))
    ·exact .inr (.inr (.inr (.inr h)))
   have:=(hx.high g this).2;omega
 have vr:((kT T).X++c.R::((some g).toList++(sv.ownBlock.toList++os))).Nodup:=by
  have h1:(((kT T).X++[c.R])++(hv.ownBlock.toList++(sv.ownBlock.toList++os))).Nodup:=by simpa using hnd
  have:=zp h1 hgn
  simpa using this
 have hfr:∀b,b∈(kT T).X++c.R::((some g).toList++(sv.ownBlock.toList++os))->b∈O\/(W'.heap.size<=b/\b<W2.heap.size):=fun b hb=>by
  by_cases hbg:b=g
  ·subst hbg
   rcases r3 with h|h
   ·left;rw[hself,h];simp
   ·exact .inr ⟨h,(r2.lt b rfl).2⟩
  ·left
   rw[hself];simp only[aN,aI,bT]at hb ⊢
   rcases hb with h|h|h|h
   ·exact .inl h
   ·exact .inr (.inl h)
   ·exact absurd (an h).symm hbg
   ·exact .inr (.inr (.inr h))
 have hon:On (ji O) (ji ((kT T).X++c.R::((some g).toList++(sv.ownBlock.toList++os)))) W' W2:=fun b hb hlb=>⟨fun hm=>(hfr b hm).elim hb (fun h=>by omega),sM.block b hlb hb⟩
 have hos:∀k,k∈os->k<W'.heap.size->W2.heap[k]? =W'.heap[k]? :=fun k hk hlk=>r5.block k hlk (fun hm=>by
  rw[aR]at hnd;have hn2:=hnd.2.1
  rcases aI.1 hm with rfl|hm
  ·exact(bV.1 hn2).1 (by simp[hk])
  ·have hn3:=(bV.1 hn2).2;rw[aR]at hn3
   exact hn3.2.2 k hm k (by simp[hk]) rfl)
 have MJ:∀k,sv.ownBlock=some k->k<W'.heap.size->W2.heap[k]? =W'.heap[k]? :=fun k hk hlk=>r5.block k hlk (fun hm=>by
  rw[aR]at hnd;have hn2:=hnd.2.1
  rcases aI.1 hm with rfl|hm
  ·exact(bV.1 hn2).1 (by simp[hk])
  ·have hn3:=(bV.1 hn2).2;rw[aR]at hn3
   exact hn3.2.2 k hm k (by simp[hk]) rfl)
 have hnew:Cb c.B W2 (ji ((kT T).X++c.R::((some g).toList++(sv.ownBlock.toList++os)))) ⟨s,(r.gY.length:Int)-1,false,false,0⟩ [.int .i64 s.kind,.string nv,.slice ia il ic,.slice xa xl xc,.slice ya yl yc,.int .i64 s.gT,.slice none 0 0,.slice none 0 0,.slice none 0 0,.slice ga gl gc,.int .i64 ((r.gY.length:Int)-1),.bool false,.bool false,.int .i64 0] []:=by
  refine⟨nv,_,_,_,.slice none 0 0,.slice none 0 0,.slice none 0 0,_,[],[],rfl,t2,t3.on hon,t4.on hon,t5.on hon,?_,?_,?_,?_,t6.on hon,rfl⟩
  ·rw[t7];exact⟨[],bS _ _ _ _,by simp only[oH]⟩
  ·rw[t8];exact⟨[],bS _ _ _ _,by simp only[oH]⟩
  ·rw[t9];exact bS _ _ _ _
  ·rw[t9];simp only[xL];exact⟨trivial,trivial⟩
 have hrow2:=r1;rw[<-hsv]at hrow2;have hlen2:(iG s r).1.hs.length=r.hs.length+1:=by simp[iG]
 have hrev:(iG s r).1.hs.reverse=r.hs.reverse++[⟨s,(r.gY.length:Int)-1,false,false,0⟩]:=by simp[iG]
 have hh2:=rE r.hs.reverse [⟨s,(r.gY.length:Int)-1,false,false,0⟩] _ _ _ _ (hsR.on hon _ _ _ hs2 hos) (show hsR c.B W2 (ji ((kT T).X++c.R::((some g).toList++(sv.ownBlock.toList++os)))) [⟨s,(r.gY.length:Int)-1,false,false,0⟩] [.int .i64 s.kind,.string nv,.slice ia il ic,.slice xa xl xc,.slice ya yl yc,.int .i64 s.gT,.slice none 0 0,.slice none 0 0,.slice none 0 0,.slice ga gl gc,.int .i64 ((r.gY.length:Int)-1),.bool false,.bool false,.int .i64 0] [] by
  simp only[hsR]
  exact⟨_,[],[],[],by simp,rfl,rfl,hnew,rfl,rfl⟩)
 rw[bm]at hh2;obtain⟨k1,k2⟩:=hx.make (r':=(iG s r).1) (at':=at_) (hv':=.slice (some ⟨g,0,none⟩) (r.hs.length+1) cap) (sv':=sv) (Ev:=fa) (Ew:=fc) (os':=os) sM hrow2 hx.rb.here hx.rest hx.fl ⟨_,by rw[hlen2];exact r2,by rw[hrev];exact hh2⟩ (iy hx.st MJ) rfl vr hfr (hgd.hold s t7 t8 t9 hok h0 hwt);exact⟨_,by rw[hm];rfl,by rw[hm];exact⟨⟨_,_,_,_,_,_,k1⟩,fun _ hs=>by cases hs⟩,k2⟩
theorem TM:(ah.info? 48).map (fun i=>(i.zero,i.size,i.bytes))=some (some (.agg #[.int .i64 0,.string ⟨#[]⟩,.slice none 0 0,.slice none 0 0,.slice none 0 0,.int .i64 0,.slice none 0 0,.slice none 0 0,.slice none 0 0,.slice none 0 0]),10,200):=by kernel_rfl
def EB(cur:Array Value):Nat->List Value->Array Value
 |_,[]=>cur
 |o,v::r=>EB (cur.setIfInBounds o v) (o+1) r
theorem tJ(g:Nat)(t:TypeId):∀(vs:List Value)(o:Nat)(w:World)(cur:Array Value),w.heap[g]? =some (.cells cur t)->(w.setCells g o vs).heap[g]? =some (.cells (EB cur o vs) t)
 |[],_,_,_,h=>h
 |v::r,o,w,cur,h=>tJ g t r (o+1) (w.setCell ⟨g,o,none⟩ v) (cur.setIfInBounds o v) (pP h v)
theorem Bi:∀(vs:List Value)(o:Nat)(cur:Array Value),(EB cur o vs).size=cur.size
 |[],_,_=>rfl
 |v::r,o,cur=>by rw[EB,Bi r];simp
theorem EC:∀(vs:List Value)(o:Nat)(cur:Array Value)(j:Nat),o+vs.length<=cur.size->(EB cur o vs)[j]? =if o<=j/\j<o+vs.length then vs[j-o]? else cur[j]?
 |[],o,cur,j,_=>by rw[EB,if_neg (by simp)]
 |v::r,o,cur,j,h=>by
  rw[aG]at h;rw[EB,EC r (o+1) _ j (by simp;omega)]
  by_cases h1:o+1<=j/\j<o+1+r.length
  ·rw[if_pos h1,if_pos (by rw[aG];omega),show j-o=(j-(o+1))+1 by omega];rfl
  ·rw[if_neg h1]
   by_cases h2:j=o
   ·subst h2;rw[if_pos (by rw[aG];omega),Nat.sub_self,Array.getElem?_setIfInBounds_self_of_lt (by omega)];rfl
   ·rw[if_neg (by rw[aG];omega),Array.getElem?_setIfInBounds_ne (fun e=>h2 e.symm)]
variable {xs:List Value}{zs:List Value}{vs:List Value}{cap:Nat}
theorem It(h:w.ownsRow B e size (.slice (some ⟨g,0,none⟩) (n+1) cap) (n+1) (xs++zs))(hx:xs.length=n*size)(hv:vs.length=size):(w.setCells g (n*size) vs).ownsRow B e size (.slice (some ⟨g,0,none⟩) (n+1) cap) (n+1) (xs++vs):=by
 obtain⟨h1,h2⟩:=h
 rcases h2 with⟨h2,_⟩|⟨g',cap',cur,h2,h3,h4,h5,h6,h7,h8⟩
 ·cases h2
 ·cases h2
  have hs1:(n+1)*size=n*size+size:=by rw[Nat.add_mul,Nat.one_mul]
  have hcap:(n+1)*size<=cap*size:=Nat.mul_le_mul_right size h5;refine⟨by rw[ao,hx,hv,hs1],.inr ⟨g,cap,EB cur (n*size) vs,rfl,h3,tJ g e vs _ w cur h4,h5,h6,by rw[Bi,h7],?_⟩⟩;apply List.ext_getElem?;intro j
  by_cases hj:j<(n+1)*size
  ·rw[List.getElem?_take_of_lt hj,Array.getElem?_toList,EC vs _ cur j (by omega)]
   by_cases hj2:j<n*size
   ·rw[if_neg (by omega),List.getElem?_append_left (by omega)];have h9:=congrArg (fun l=>l[j]?) h8;rw[List.getElem?_take_of_lt hj,List.getElem?_append_left (by omega),Array.getElem?_toList]at h9;exact h9
   ·rw[if_pos (by omega),List.getElem?_append_right (by omega),hx]
  ·rw[List.getElem?_eq_none (by rw[bU];omega),List.getElem?_eq_none (by rw[ao,hx,hv];omega)]
theorem MK(h:w.ownsRow B e size (.slice (some ⟨g,0,none⟩) (n+1) cap) (n+1) (xs++zs))(hx:xs.length=n*size):(∀j u,zs[j]? =some u->w.cell? ⟨g,n*size+j,none⟩=some u)/\(∀j,w.frozen? ⟨g,j,none⟩=false):=by
 obtain⟨h1,h2⟩:=h
 rcases h2 with⟨h2,_⟩|⟨g',cap',cur,h2,h3,h4,h5,h6,h7,h8⟩
 ·cases h2
 ·cases h2
  refine⟨fun j u hu=>?_,fun j=>aC h4 j⟩;rw[af h4,<-Array.getElem?_toList];have hj:=(List.getElem?_eq_some_iff.1 hu).1;have hl:n*size+j<(n+1)*size:=by rw[<-h1,ao];omega
  have h9:=congrArg (fun l=>l[n*size+j]?) h8;rw[List.getElem?_take_of_lt hl,List.getElem?_append_right (by omega),hx,fC]at h9;rw[h9,hu]
variable {gb:Nat}{bx:Obj}{Z:Obj}
theorem wy{o:Obj}(hq:w.heap[gb]? =some o)(hne:row≠some gb)(hrow:∀k,row=some k->k<w.heap.size)(hg:((w.alloc bx).alloc Z).drew.grownBy w1 row):w1.heap[gb]? =some o/\w1.heap[w.heap.size]? =some bx:=by
 refine⟨BT hq hg hne,?_⟩
 have hx:((w.alloc bx).alloc Z).drew.heap[w.heap.size]? =some bx:=by
  show((w.alloc bx).alloc Z).heap[w.heap.size]? =some bx;rw[bj (w.alloc bx) Z w.heap.size (by rw[aB];omega)];exact aE w bx
 rw[hg.block _ (lt_of_heap hx) (fun e=>by have:=hrow _ e.symm;omega)];exact hx
theorem iJ(g:Nat)(vs:List Value)(o:Nat)(k:Nat)(hk:k≠g):(w.setCells g o vs).heap[k]? =w.heap[k]? :=by
 induction vs generalizing o w with
 |nil=>rfl
 |cons v r ih=>
  rw[World.setCells,ih];exact aM w ⟨g,o,none⟩ v k (fun e=>hk e)
theorem gR.setCells{O:List Nat}{a:World}(g:Nat)(hg:g∈O\/a.heap.size<=g):∀(vs:List Value)(o:Nat){w:World},gR O a w->gR O a (w.setCells g o vs)
 |[],_,_,h=>h
 |v::r,o,_,h=>gR.setCells g hg r (o+1) (h.setCell (p:=⟨g,o,none⟩) hg v)
def Added(B gb q:Nat)(ty:TypeId)(cur:Array Value)(ev:Value)(m:Nat)(xs vs:List Value)(w w':World):Prop:=∃gg cap,w'.heap[gb]? =some (.cells (cur.setIfInBounds q (.slice (some ⟨gg,0,none⟩) (m+1) cap)) ty)/\w'.ownsRow B 48 10 (.slice (some ⟨gg,0,none⟩) (m+1) cap) (m+1) (xs++vs)/\(ev.ownBlock=some gg\/w.heap.size<=gg)/\gg≠gb/\gR (gb::ev.ownBlock.toList) w w'
variable {gg:Nat}{ev:Value}{cur:Array Value}{ty:TypeId}
theorem lX(hq:w.heap[gb]? =some (.cells cur ty))(hne:ev.ownBlock≠some gb)(hg:((w.alloc bx).alloc Z).drew.grownBy w1 ev.ownBlock)(hat:ev.ownBlock=some gg\/gg=((w.alloc bx).alloc Z).drew.heap.size):(ev.ownBlock=some gg\/w.heap.size<=gg)/\gg≠gb/\gR (gb::ev.ownBlock.toList) w w1:=by
 have lq:=lt_of_heap hq;have hz:((w.alloc bx).alloc Z).drew.heap.size=w.heap.size+1+1:=by show((w.alloc bx).alloc Z).heap.size=_;rw[aB,aB]
 rw[hz]at hat;refine⟨hat.imp id (fun h=>by omega),?_,(((gR.refl _ w).alloc bx).alloc Z).drew.grown hg (fun k hk=>.inl (by rw[hk];simp))⟩;rintro rfl
 rcases hat with h|h
 ·exact hne h
 ·omega
variable {m:Nat}
theorem tm{q:Nat}(hq:w.heap[gb]? =some (.cells cur ty))(hne:ev.ownBlock≠some gb)(hg:((w.alloc bx).alloc Z).drew.grownBy w1 ev.ownBlock)(hat:ev.ownBlock=some gg\/gg=((w.alloc bx).alloc Z).drew.heap.size)(h1:w1.heap[gb]? =some (.cells cur ty))(ho:w1.ownsRow B 48 10 (.slice (some ⟨gg,0,none⟩) (m+1) cap) (m+1) (xs++zs))(hx:xs.length=m*10)(hv:vs.length=10):Added B gb q ty cur ev m xs vs w ((w1.setCells gg (m*10) vs).setCell ⟨gb,q,none⟩ (.slice (some ⟨gg,0,none⟩) (m+1) cap)):=by
 obtain⟨k1,k2,k3⟩:=lX hq hne hg hat;have hmem:gg∈gb::ev.ownBlock.toList\/w.heap.size<=gg:=k1.imp (fun h=>by rw[h];simp) id;refine⟨gg,cap,?_,bJ (It ho hx hv) (a:=⟨gb,q,none⟩) (by show some gg≠some gb;exact fun e=>k2 (an e)) _,k1,k2,(gR.setCells gg hmem vs _ k3).setCell (p:=⟨gb,q,none⟩) (.inl (by simp)) _⟩;exact pP ((iJ gg vs _ gb (fun e=>k2 e.symm)).trans h1) _
theorem tp{q:Nat}(hq:w.heap[gb]? =some (.cells cur ty))(hne:ev.ownBlock≠some gb)(hg:((w.alloc bx).alloc Z).drew.grownBy w1 ev.ownBlock)(hat:ev.ownBlock=some gg\/gg=((w.alloc bx).alloc Z).drew.heap.size)(h1:w1.heap[gb]? =some (.cells cur ty))(ho:w1.ownsRow B 48 10 (.slice (some ⟨gg,0,none⟩) (m+1) cap) (m+1) (xs++zs))(hx:xs.length=m*10)(hv:vs.length=10):Added B gb q ty cur ev m xs vs w ((w1.setCell ⟨gb,q,none⟩ (.slice (some ⟨gg,0,none⟩) (m+1) cap)).setCells gg (m*10) vs):=by
 obtain⟨k1,k2,k3⟩:=lX hq hne hg hat;have hmem:gg∈gb::ev.ownBlock.toList\/w.heap.size<=gg:=k1.imp (fun h=>by rw[h];simp) id;refine⟨gg,cap,?_,It (bJ ho (a:=⟨gb,q,none⟩) (by show some gg≠some gb;exact fun e=>k2 (an e)) _) hx hv,k1,k2,gR.setCells gg hmem vs _ (k3.setCell (p:=⟨gb,q,none⟩) (.inl (by simp)) _)⟩;exact(iJ gg vs _ gb (fun e=>k2 e.symm)).trans (pP h1 _)
theorem om:(ah.info? 48).map (·.size)=some 10:=by kernel_rfl
theorem jH{ops:Array Oper}{o:Oper}{a:Act}{K:Act->World->Prop}{Q:Exit->Act->World->Prop}{E:Prop}(hgd:o.guard=none)(ty:TypeId)(x y:Operand)(ho:o.op=.store ty x y)(g off:Nat)(vs:Array Value)(n:Nat)(hn:vs.size=n)
  (ht:W.there g off n) (hz:(ah.info? ty).map (·.size)=some n) (hx:a.eval x=.pointer (some ⟨g,off,none⟩)) (hy:a.eval y=.agg vs) (h1:vs.all (·.oneCell')=true) (h:K (a.put o.dst undef) (W.setCells g off vs.toList)):
  if cM o (yielded ops a.tmps)=true then Oper.wp ah o a W K Q else E:=by
 subst hn;rw[if_pos (by simp[cM,hgd])];unfold Oper.wp execOp;simp only[ho,hx,hy,Instr.storeAt,Instr.sureAddr,Sem.run_bind,Sem.run_pure,cS,run_storeVar_mid (P:=ah) W g off ty vs ht hz h1];exact h
theorem kq(h:w.ownsRow B e size (.slice (some ⟨g,0,none⟩) (n+1) cap) (n+1) (xs++zs))(hx:xs.length=n*size)(hz:zs.length=size):w.there g (n*size) size:=fun j hj=>by
 obtain⟨h1,h2⟩:=MK h hx;exact⟨by rw[h1 j zs[j] (List.getElem?_eq_getElem (by omega))];rfl,h2 _⟩
variable {bl:Nat}{bc:Nat}{el:Nat}{ec:Nat}{al:Nat}{ac:Nat}{ba:Option Addr}{ea:Option Addr}{aa:Option Addr}{lZ:Int}{qh:Nat}{qg:Option Addr}
theorem JL{p:Nat}(hq:w.heap[g]? =some (.cells cur 57))(hie:cur[p+12]? =some (.bool true))(hev:cur[p+7]? =some (.slice qg m qh))(hown:w.ownsRow B 48 10 (.slice qg m qh) m xs)(hm:m<=1000000000)(hB:B<=w.heap.size)(hne:(aZ qg m qh).ownBlock≠some g):
  Calls ah 151 #[.pointer (some ⟨g,p,none⟩),.agg #[.int .i64 lZ,.string nv,.slice ia il ic,.slice xa xl xc,.slice ya yl yc,.int .i64 gT,.slice ba bl bc,.slice ea el ec,.slice aa al ac,.slice ga gl gc]] w fun e w'=>e=.returned (.tuple #[])/\Added B g (p+7) 57 cur (.slice qg m qh) m xs [.int .i64 lZ,.string nv,.slice ia il ic,.slice xa xl xc,.slice ya yl yc,.int .i64 gT,.slice ba bl bc,.slice ea el ec,.slice aa al ac,.slice ga gl gc] w w':=by
 obtain⟨i0,hi,hz0,hz1,hz2⟩:=info_parts TM;have HQ:=qet hq;have HOWN:=qet hown;have qD:=qet hne;have RZ:=qet hev;have A0:qes (∀k,(aZ qg m qh).ownBlock=some k->k<w.heap.size):=fun k hk=>(hown.lt k hk).2
 have wX:qes (xs.length=m*10):=hown.1;have lq:=lt_of_heap hq;have ED:w.cell? ⟨g,p+7,none⟩=some (.slice qg m qh):=by rw[af hq];exact hev
 have d12:∀o,(w.alloc o).cell? ⟨g,p+12,none⟩=some (.bool true):=fun o=>(World.cell?_alloc_lt _ _ _ lq).trans (by rw[af hq];exact hie)
 have e1:∀o,(w.alloc o).cell? ⟨g,p+7,none⟩=some (.slice qg m qh):=fun o=>(World.cell?_alloc_lt _ _ _ lq).trans ED
 have e2:∀o o',((w.alloc o).alloc o').cell? ⟨g,p+7,none⟩=some (.slice qg m qh):=fun o o'=>(World.cell?_alloc_lt _ _ _ (by rw[aB];show g<_;omega)).trans (e1 o)
 have j0:(0:Int)<=(m:Int):=by omega
 have j1:(m:Int)<(m:Int)+1:=by omega
 have j2:(m:Int)<=1000000000:=by omega
 have HK:qes (∀W:World,W.heap[w.heap.size]? =some (.cells #[.int .i64 lZ,.string nv,.slice ia il ic,.slice xa xl xc,.slice ya yl yc,.int .i64 gT,.slice ba bl bc,.slice ea el ec,.slice aa al ac,.slice ga gl gc] 48)->(W.cell? ⟨w.heap.size,0,none⟩=some (.int .i64 lZ)/\W.cell? ⟨w.heap.size,1,none⟩=some (.string nv)/\W.cell? ⟨w.heap.size,2,none⟩=some (.slice ia il ic)/\W.cell? ⟨w.heap.size,3,none⟩=some (.slice xa xl xc)/\W.cell? ⟨w.heap.size,4,none⟩=some (.slice ya yl yc)/\W.cell? ⟨w.heap.size,5,none⟩=some (.int .i64 gT)/\W.cell? ⟨w.heap.size,6,none⟩=some (.slice ba bl bc)/\W.cell? ⟨w.heap.size,7,none⟩=some (.slice ea el ec)/\W.cell? ⟨w.heap.size,8,none⟩=some (.slice aa al ac)/\W.cell? ⟨w.heap.size,9,none⟩=some (.slice ga gl gc))/\W.heap[w.heap.size]? =some (.cells #[.int .i64 lZ,.string nv,.slice ia il ic,.slice xa xl xc,.slice ya yl yc,.int .i64 gT,.slice ba bl bc,.slice ea el ec,.slice aa al ac,.slice ga gl gc] 48)):=fun W h=>⟨⟨(by rw[af h];rfl),(by rw[af h];rfl),(by rw[af h];rfl),(by rw[af h];rfl),(by rw[af h];rfl),(by rw[af h];rfl),(by rw[af h];rfl),(by rw[af h];rfl),(by rw[af h];rfl),(by rw[af h];rfl)⟩,h⟩
 clear hq hown hne hev ED hie;go_enter Tryz.func151,Tryz.ntmps151;go_wp2;have S1:=HK.o (w.alloc (.cells #[.int .i64 lZ,.string nv,.slice ia il ic,.slice xa xl xc,.slice ya yl yc,.int .i64 gT,.slice ba bl bc,.slice ea el ec,.slice aa al ac,.slice ga gl gc] 48)).drew (aE w _);refine ft ?_;refine fm (S:=fun W=>(W.cell? ⟨w.heap.size,0,none⟩=some (.int .i64 lZ)/\W.cell? ⟨w.heap.size,1,none⟩=some (.string nv)/\W.cell? ⟨w.heap.size,2,none⟩=some (.slice ia il ic)/\W.cell? ⟨w.heap.size,3,none⟩=some (.slice xa xl xc)/\W.cell? ⟨w.heap.size,4,none⟩=some (.slice ya yl yc)/\W.cell? ⟨w.heap.size,5,none⟩=some (.int .i64 gT)/\W.cell? ⟨w.heap.size,6,none⟩=some (.slice ba bl bc)/\W.cell? ⟨w.heap.size,7,none⟩=some (.slice ea el ec)/\W.cell? ⟨w.heap.size,8,none⟩=some (.slice aa al ac)/\W.cell? ⟨w.heap.size,9,none⟩=some (.slice ga gl gc))/\W.heap[w.heap.size]? =some (.cells #[.int .i64 lZ,.string nv,.slice ia il ic,.slice xa xl xc,.slice ya yl yc,.int .i64 gT,.slice ba bl bc,.slice ea el ec,.slice aa al ac,.slice ga gl gc] 48)) (by kernel_rfl) S1 (fun hHeld=>?_);refine je 0 (.pointer (some ⟨g,p,none⟩)) hHeld ?_;refine je 1 (.pointer (some ⟨g,p,none⟩)) hHeld ?_;refine je 2 (.pointer (some ⟨g,p,none⟩)) hHeld ?_;refine je 3 (.pointer (some ⟨g,p+7,none⟩)) hHeld ?_;refine je 5 (.agg #[.int .i64 lZ,.string nv,.slice ia il ic,.slice xa xl xc,.slice ya yl yc,.int .i64 gT,.slice ba bl bc,.slice ea el ec,.slice aa al ac,.slice ga gl gc]) hHeld ?_
 try simp only[aS,ak,aD,aF]
 refine fh (rs:=[4,7]) (by kernel_rfl) (by simp) ?_;refine bu (o:={dst:=some 27,op:=_,type:=_,pos:=_,after:=_,guard:=none}) rfl (fun K hK=>?_) (bu (o:={dst:=some 30,op:=_,type:=_,pos:=_,after:=_,guard:=none}) rfl (fun K hK=>?_) cz)
 ·go_simp
  refine hK.out _ _ ?_ (fun hHeld=>?_)
  ·first|exact hHeld|exact HK.o _ ((bj _ _ _ (by rw[aB];omega)).trans (aE w _))
  clear hK K
  try simp only[aS,ak,aD,aF]
  refine je 6 (.int .i64 (m:Int)) hHeld ?_
  try simp only[aS,ak,aD,aF]
  refine mI 7 (fun K hK=>?_)
  go_simp
  refine hK.out _ _ ?_ (fun hHeld=>?_)
  ·first|exact hHeld|exact HK.o _ ((bj _ _ _ (by rw[aB];omega)).trans (aE w _))
  clear hK K
  try simp only[aS,ak,aD,aF]
  refine mI 8 (fun K hK=>?_)
  (refine bK _ (by rfl) _ _ _ (by rfl) B 48 i0 _ 10 200 cY hi hz0 hz1 hz2 rfl (by omega) (.slice qg m qh) m _ (by rfl) (by exact((HOWN.o.alloc _).alloc _)) ⟨w.heap.size+1,0,none⟩ 1 1 [.int .i64 0,.string ⟨#[]⟩,.slice none 0 0,.slice none 0 0,.slice none 0 0,.int .i64 0,.slice none 0 0,.slice none 0 0,.slice none 0 0,.slice none 0 0] (by rfl) (by rfl) (bf (cs:=#[.int .i64 0,.string ⟨#[]⟩,.slice none 0 0,.slice none 0 0,.slice none 0 0,.int .i64 0,.slice none 0 0,.slice none 0 0,.slice none 0 0,.slice none 0 0]) (t:=48) (fr:=(0,0)) (by exact np w _ _)) (by simp[aY]) (by omega) (by unfold ff;omega) (by omega) (by simp;omega) _ rfl ?_;intro gg cap' w1 hown1 hgrow hat hlt;have G:=wy HQ.o qD.o A0.o hgrow;obtain⟨fq,fb⟩:=G;have AB:=lX HQ.o qD.o hgrow hat;have nq:gg≠g:=AB.2.1;have cq:w1.cell? ⟨g,p+7,none⟩=some (.slice qg m qh):=((by rw[af fq];exact RZ.o));have ML:w1.frozen? ⟨g,p+7,none⟩=false:=aC fq _;have zq:=qet fb;have EF:=qet fq;have HG:=qet hgrow;have HA:=qet hat;have mh:=qet hown1;have zt:=qet nq;have Bj:qes (gg≠w.heap.size):=(fun e=>hat.elim (fun h=>absurd (A0.o _ h) (by omega)) (fun h=>(by have h2:gg=((w.alloc _).alloc _).heap.size:=h;rw[aB,aB]at h2;omega)));clear hgrow hown1 hat hlt fq fb nq AB)
  refine hK.out _ _ ?_ (fun hHeld=>?_)
  ·exact HK.o w1 zq.o
  clear hK K
  try simp only[aS,ak,aD,aF]
  refine je 9 (.pointer (some ⟨gg,m*10,none⟩)) hHeld ?_;refine je 11 (.pointer (some ⟨g,p,none⟩)) hHeld ?_;refine je 12 (.pointer (some ⟨g,p,none⟩)) hHeld ?_;refine je 13 (.pointer (some ⟨g,p+7,none⟩)) hHeld ?_
  try simp only[aS,ak,aD,aF]
  refine fh (rs:=[10,14]) (by kernel_rfl) (by simp) ?_;refine bu (o:={dst:=none,op:=_,type:=_,pos:=_,after:=_,guard:=none}) rfl (fun K hK=>?_) (bu (o:={dst:=none,op:=_,type:=_,pos:=_,after:=_,guard:=none}) rfl (fun K hK=>?_) cz)
  ·refine jH (by rfl) 48 _ _ (by rfl) gg (m*10) #[.int .i64 lZ,.string nv,.slice ia il ic,.slice xa xl xc,.slice ya yl yc,.int .i64 gT,.slice ba bl bc,.slice ea el ec,.slice aa al ac,.slice ga gl gc] 10 (by rfl) (kq mh.o wX.o rfl) om (by rfl) (by rfl) (by simp[aY]) ?_;have V5:(w1.setCells gg (m*10) [.int .i64 lZ,.string nv,.slice ia il ic,.slice xa xl xc,.slice ya yl yc,.int .i64 gT,.slice ba bl bc,.slice ea el ec,.slice aa al ac,.slice ga gl gc]).cell? ⟨g,p+7,none⟩=some (.slice qg m qh):=(World.cell?_of_block (iJ gg _ _ g (fun e=>zt.o e.symm))).trans cq;have MM:(w1.setCells gg (m*10) [.int .i64 lZ,.string nv,.slice ia il ic,.slice xa xl xc,.slice ya yl yc,.int .i64 gT,.slice ba bl bc,.slice ea el ec,.slice aa al ac,.slice ga gl gc]).frozen? ⟨g,p+7,none⟩=false:=(World.frozen?_of_block (iJ gg _ _ g (fun e=>zt.o e.symm))).trans ML;refine hK.out _ _ ?_ (fun hHeld=>?_)
   ·exact HK.o _ ((iJ gg _ _ w.heap.size (fun e=>Bj.o e.symm)).trans zq.o)
   clear hK K
   try simp only[aS]
   have EA:=tm (q:=p+7) (vs:=[.int .i64 lZ,.string nv,.slice ia il ic,.slice xa xl xc,.slice ya yl yc,.int .i64 gT,.slice ba bl bc,.slice ea el ec,.slice aa al ac,.slice ga gl gc]) HQ.o qD.o HG.o HA.o EF.o mh.o wX.o rfl;generalize(w1.setCells gg (m*10) [.int .i64 lZ,.string nv,.slice ia il ic,.slice xa xl xc,.slice ya yl yc,.int .i64 gT,.slice ba bl bc,.slice ea el ec,.slice aa al ac,.slice ga gl gc])=w2 at *;refine mI 14 (fun K hK=>?_)
   go_simp
   refine hK.out _ _ ?_ (fun hHeld=>?_)
   ·exact HK.o _ ((aM w2 ⟨g,p+7,none⟩ _ w.heap.size (by show w.heap.size≠g;omega)).trans hHeld.2)
   clear hK K
   try simp only[aS]
   refine bX (by kernel_rfl) ?_ _;refine bP ?_;have zu:=qet EA;clear EA;go_wp2;refine aW (v:=.tuple #[]) ?_ rfl ⟨rfl,?_⟩
   ·simp[aV,cE,go_sem]
   ·exact zu.o
  ·go_simp
   refine hK.out _ _ ?_ (fun hHeld=>?_)
   ·exact HK.o _ ((aM w1 ⟨g,p+7,none⟩ _ w.heap.size (by show w.heap.size≠g;omega)).trans zq.o)
   clear hK K
   try simp only[aS]
   refine mI 10 (fun K hK=>?_);refine jH (by rfl) 48 _ _ (by rfl) gg (m*10) #[.int .i64 lZ,.string nv,.slice ia il ic,.slice xa xl xc,.slice ya yl yc,.int .i64 gT,.slice ba bl bc,.slice ea el ec,.slice aa al ac,.slice ga gl gc] 10 (by rfl) (kq (bJ mh.o (a:=⟨g,p+7,none⟩) (by show some gg≠some g;exact fun e=>zt.o (an e)) _) wX.o rfl) om (by rfl) (by rfl) (by simp[aY]) ?_;refine hK.out _ _ ?_ (fun hHeld=>?_)
   ·exact HK.o _ ((iJ gg _ _ w.heap.size (fun e=>Bj.o e.symm)).trans hHeld.2)
   clear hK K
   try simp only[aS]
   have EA:=tp (q:=p+7) (vs:=[.int .i64 lZ,.string nv,.slice ia il ic,.slice xa xl xc,.slice ya yl yc,.int .i64 gT,.slice ba bl bc,.slice ea el ec,.slice aa al ac,.slice ga gl gc]) HQ.o qD.o HG.o HA.o EF.o mh.o wX.o rfl;refine bX (by kernel_rfl) ?_ _;refine bP ?_;have zu:=qet EA;clear EA;go_wp2;refine aW (v:=.tuple #[]) ?_ rfl ⟨rfl,?_⟩
   ·simp[aV,cE,go_sem]
   ·exact zu.o
 ·go_simp
  refine hK.out _ _ ?_ (fun hHeld=>?_)
  ·first|exact hHeld|exact HK.o _ ((bj _ _ _ (by rw[aB];omega)).trans (aE w _))
  clear hK K
  try simp only[aS,ak,aD,aF]
  refine mI 4 (fun K hK=>?_)
  go_simp
  refine hK.out _ _ ?_ (fun hHeld=>?_)
  ·first|exact hHeld|exact HK.o _ ((bj _ _ _ (by rw[aB];omega)).trans (aE w _))
  clear hK K
  try simp only[aS,ak,aD,aF]
  refine je 6 (.int .i64 (m:Int)) hHeld ?_
  try simp only[aS,ak,aD,aF]
  refine mI 8 (fun K hK=>?_)
  (refine bK _ (by rfl) _ _ _ (by rfl) B 48 i0 _ 10 200 cY hi hz0 hz1 hz2 rfl (by omega) (.slice qg m qh) m _ (by rfl) (by exact((HOWN.o.alloc _).alloc _)) ⟨w.heap.size+1,0,none⟩ 1 1 [.int .i64 0,.string ⟨#[]⟩,.slice none 0 0,.slice none 0 0,.slice none 0 0,.int .i64 0,.slice none 0 0,.slice none 0 0,.slice none 0 0,.slice none 0 0] (by rfl) (by rfl) (bf (cs:=#[.int .i64 0,.string ⟨#[]⟩,.slice none 0 0,.slice none 0 0,.slice none 0 0,.int .i64 0,.slice none 0 0,.slice none 0 0,.slice none 0 0,.slice none 0 0]) (t:=48) (fr:=(0,0)) (by exact np w _ _)) (by simp[aY]) (by omega) (by unfold ff;omega) (by omega) (by simp;omega) _ rfl ?_;intro gg cap' w1 hown1 hgrow hat hlt;have G:=wy HQ.o qD.o A0.o hgrow;obtain⟨fq,fb⟩:=G;have AB:=lX HQ.o qD.o hgrow hat;have nq:gg≠g:=AB.2.1;have cq:w1.cell? ⟨g,p+7,none⟩=some (.slice qg m qh):=((by rw[af fq];exact RZ.o));have ML:w1.frozen? ⟨g,p+7,none⟩=false:=aC fq _;have zq:=qet fb;have EF:=qet fq;have HG:=qet hgrow;have HA:=qet hat;have mh:=qet hown1;have zt:=qet nq;have Bj:qes (gg≠w.heap.size):=(fun e=>hat.elim (fun h=>absurd (A0.o _ h) (by omega)) (fun h=>(by have h2:gg=((w.alloc _).alloc _).heap.size:=h;rw[aB,aB]at h2;omega)));clear hgrow hown1 hat hlt fq fb nq AB)
  refine hK.out _ _ ?_ (fun hHeld=>?_)
  ·exact HK.o w1 zq.o
  clear hK K
  try simp only[aS,ak,aD,aF]
  refine je 9 (.pointer (some ⟨gg,m*10,none⟩)) hHeld ?_;refine je 11 (.pointer (some ⟨g,p,none⟩)) hHeld ?_;refine je 12 (.pointer (some ⟨g,p,none⟩)) hHeld ?_;refine je 13 (.pointer (some ⟨g,p+7,none⟩)) hHeld ?_
  try simp only[aS,ak,aD,aF]
  refine fh (rs:=[10,14]) (by kernel_rfl) (by simp) ?_;refine bu (o:={dst:=none,op:=_,type:=_,pos:=_,after:=_,guard:=none}) rfl (fun K hK=>?_) (bu (o:={dst:=none,op:=_,type:=_,pos:=_,after:=_,guard:=none}) rfl (fun K hK=>?_) cz)
  ·refine jH (by rfl) 48 _ _ (by rfl) gg (m*10) #[.int .i64 lZ,.string nv,.slice ia il ic,.slice xa xl xc,.slice ya yl yc,.int .i64 gT,.slice ba bl bc,.slice ea el ec,.slice aa al ac,.slice ga gl gc] 10 (by rfl) (kq mh.o wX.o rfl) om (by rfl) (by rfl) (by simp[aY]) ?_;have V5:(w1.setCells gg (m*10) [.int .i64 lZ,.string nv,.slice ia il ic,.slice xa xl xc,.slice ya yl yc,.int .i64 gT,.slice ba bl bc,.slice ea el ec,.slice aa al ac,.slice ga gl gc]).cell? ⟨g,p+7,none⟩=some (.slice qg m qh):=(World.cell?_of_block (iJ gg _ _ g (fun e=>zt.o e.symm))).trans cq;have MM:(w1.setCells gg (m*10) [.int .i64 lZ,.string nv,.slice ia il ic,.slice xa xl xc,.slice ya yl yc,.int .i64 gT,.slice ba bl bc,.slice ea el ec,.slice aa al ac,.slice ga gl gc]).frozen? ⟨g,p+7,none⟩=false:=(World.frozen?_of_block (iJ gg _ _ g (fun e=>zt.o e.symm))).trans ML;refine hK.out _ _ ?_ (fun hHeld=>?_)
   ·exact HK.o _ ((iJ gg _ _ w.heap.size (fun e=>Bj.o e.symm)).trans zq.o)
   clear hK K
   try simp only[aS]
   have EA:=tm (q:=p+7) (vs:=[.int .i64 lZ,.string nv,.slice ia il ic,.slice xa xl xc,.slice ya yl yc,.int .i64 gT,.slice ba bl bc,.slice ea el ec,.slice aa al ac,.slice ga gl gc]) HQ.o qD.o HG.o HA.o EF.o mh.o wX.o rfl;generalize(w1.setCells gg (m*10) [.int .i64 lZ,.string nv,.slice ia il ic,.slice xa xl xc,.slice ya yl yc,.int .i64 gT,.slice ba bl bc,.slice ea el ec,.slice aa al ac,.slice ga gl gc])=w2 at *;refine mI 14 (fun K hK=>?_)
   go_simp
   refine hK.out _ _ ?_ (fun hHeld=>?_)
   ·exact HK.o _ ((aM w2 ⟨g,p+7,none⟩ _ w.heap.size (by show w.heap.size≠g;omega)).trans hHeld.2)
   clear hK K
   try simp only[aS]
   refine bX (by kernel_rfl) ?_ _;refine bP ?_;have zu:=qet EA;clear EA;go_wp2;refine aW (v:=.tuple #[]) ?_ rfl ⟨rfl,?_⟩
   ·simp[aV,cE,go_sem]
   ·exact zu.o
  ·go_simp
   refine hK.out _ _ ?_ (fun hHeld=>?_)
   ·exact HK.o _ ((aM w1 ⟨g,p+7,none⟩ _ w.heap.size (by show w.heap.size≠g;omega)).trans zq.o)
   clear hK K
   try simp only[aS]
   refine mI 10 (fun K hK=>?_);refine jH (by rfl) 48 _ _ (by rfl) gg (m*10) #[.int .i64 lZ,.string nv,.slice ia il ic,.slice xa xl xc,.slice ya yl yc,.int .i64 gT,.slice ba bl bc,.slice ea el ec,.slice aa al ac,.slice ga gl gc] 10 (by rfl) (kq (bJ mh.o (a:=⟨g,p+7,none⟩) (by show some gg≠some g;exact fun e=>zt.o (an e)) _) wX.o rfl) om (by rfl) (by rfl) (by simp[aY]) ?_;refine hK.out _ _ ?_ (fun hHeld=>?_)
   ·exact HK.o _ ((iJ gg _ _ w.heap.size (fun e=>Bj.o e.symm)).trans hHeld.2)
   clear hK K
   try simp only[aS]
   have EA:=tp (q:=p+7) (vs:=[.int .i64 lZ,.string nv,.slice ia il ic,.slice xa xl xc,.slice ya yl yc,.int .i64 gT,.slice ba bl bc,.slice ea el ec,.slice aa al ac,.slice ga gl gc]) HQ.o qD.o HG.o HA.o EF.o mh.o wX.o rfl;refine bX (by kernel_rfl) ?_ _;refine bP ?_;have zu:=qet EA;clear EA;go_wp2;refine aW (v:=.tuple #[]) ?_ rfl ⟨rfl,?_⟩
   ·simp[aV,cE,go_sem]
   ·exact zu.o
theorem JM{p:Nat}{kd:Int}(hq:w.heap[g]? =some (.cells cur 57))(hie:cur[p+12]? =some (.bool false))(hkd:cur[p]? =some (.int .i64 kd))(hk6:kd≠6)(hev:cur[p+6]? =some (.slice qg m qh))(hown:w.ownsRow B 48 10 (.slice qg m qh) m xs)(hm:m<=1000000000)(hB:B<=w.heap.size)(hne:(aZ qg m qh).ownBlock≠some g):
  Calls ah 151 #[.pointer (some ⟨g,p,none⟩),.agg #[.int .i64 lZ,.string nv,.slice ia il ic,.slice xa xl xc,.slice ya yl yc,.int .i64 gT,.slice ba bl bc,.slice ea el ec,.slice aa al ac,.slice ga gl gc]] w fun e w'=>e=.returned (.tuple #[])/\Added B g (p+6) 57 cur (.slice qg m qh) m xs [.int .i64 lZ,.string nv,.slice ia il ic,.slice xa xl xc,.slice ya yl yc,.int .i64 gT,.slice ba bl bc,.slice ea el ec,.slice aa al ac,.slice ga gl gc] w w':=by
 obtain⟨i0,hi,hz0,hz1,hz2⟩:=info_parts TM;have HQ:=qet hq;have HOWN:=qet hown;have qD:=qet hne;have RZ:=qet hev;have A0:qes (∀k,(aZ qg m qh).ownBlock=some k->k<w.heap.size):=fun k hk=>(hown.lt k hk).2
 have wX:qes (xs.length=m*10):=hown.1;have lq:=lt_of_heap hq;have ED:w.cell? ⟨g,p+6,none⟩=some (.slice qg m qh):=by rw[af hq];exact hev
 have d12:∀o,(w.alloc o).cell? ⟨g,p+12,none⟩=some (.bool false):=fun o=>(World.cell?_alloc_lt _ _ _ lq).trans (by rw[af hq];exact hie)
 have d0:∀o,(w.alloc o).cell? ⟨g,p,none⟩=some (.int .i64 kd):=fun o=>(World.cell?_alloc_lt _ _ _ lq).trans (by rw[af hq];exact hkd)
 have k6:(kd==6)=false:=by rw[beq_eq_false_iff_ne];exact hk6
 have e1:∀o,(w.alloc o).cell? ⟨g,p+6,none⟩=some (.slice qg m qh):=fun o=>(World.cell?_alloc_lt _ _ _ lq).trans ED
 have e2:∀o o',((w.alloc o).alloc o').cell? ⟨g,p+6,none⟩=some (.slice qg m qh):=fun o o'=>(World.cell?_alloc_lt _ _ _ (by rw[aB];show g<_;omega)).trans (e1 o)
 have j0:(0:Int)<=(m:Int):=by omega
 have j1:(m:Int)<(m:Int)+1:=by omega
 have j2:(m:Int)<=1000000000:=by omega
 have HK:qes (∀W:World,W.heap[w.heap.size]? =some (.cells #[.int .i64 lZ,.string nv,.slice ia il ic,.slice xa xl xc,.slice ya yl yc,.int .i64 gT,.slice ba bl bc,.slice ea el ec,.slice aa al ac,.slice ga gl gc] 48)->(W.cell? ⟨w.heap.size,0,none⟩=some (.int .i64 lZ)/\W.cell? ⟨w.heap.size,1,none⟩=some (.string nv)/\W.cell? ⟨w.heap.size,2,none⟩=some (.slice ia il ic)/\W.cell? ⟨w.heap.size,3,none⟩=some (.slice xa xl xc)/\W.cell? ⟨w.heap.size,4,none⟩=some (.slice ya yl yc)/\W.cell? ⟨w.heap.size,5,none⟩=some (.int .i64 gT)/\W.cell? ⟨w.heap.size,6,none⟩=some (.slice ba bl bc)/\W.cell? ⟨w.heap.size,7,none⟩=some (.slice ea el ec)/\W.cell? ⟨w.heap.size,8,none⟩=some (.slice aa al ac)/\W.cell? ⟨w.heap.size,9,none⟩=some (.slice ga gl gc))/\W.heap[w.heap.size]? =some (.cells #[.int .i64 lZ,.string nv,.slice ia il ic,.slice xa xl xc,.slice ya yl yc,.int .i64 gT,.slice ba bl bc,.slice ea el ec,.slice aa al ac,.slice ga gl gc] 48)):=fun W h=>⟨⟨(by rw[af h];rfl),(by rw[af h];rfl),(by rw[af h];rfl),(by rw[af h];rfl),(by rw[af h];rfl),(by rw[af h];rfl),(by rw[af h];rfl),(by rw[af h];rfl),(by rw[af h];rfl),(by rw[af h];rfl)⟩,h⟩
 clear hq hown hne hev ED hie hkd hk6;go_enter Tryz.func151,Tryz.ntmps151;go_wp2;have S1:=HK.o (w.alloc (.cells #[.int .i64 lZ,.string nv,.slice ia il ic,.slice xa xl xc,.slice ya yl yc,.int .i64 gT,.slice ba bl bc,.slice ea el ec,.slice aa al ac,.slice ga gl gc] 48)).drew (aE w _);refine ft ?_;refine fm (S:=fun W=>(W.cell? ⟨w.heap.size,0,none⟩=some (.int .i64 lZ)/\W.cell? ⟨w.heap.size,1,none⟩=some (.string nv)/\W.cell? ⟨w.heap.size,2,none⟩=some (.slice ia il ic)/\W.cell? ⟨w.heap.size,3,none⟩=some (.slice xa xl xc)/\W.cell? ⟨w.heap.size,4,none⟩=some (.slice ya yl yc)/\W.cell? ⟨w.heap.size,5,none⟩=some (.int .i64 gT)/\W.cell? ⟨w.heap.size,6,none⟩=some (.slice ba bl bc)/\W.cell? ⟨w.heap.size,7,none⟩=some (.slice ea el ec)/\W.cell? ⟨w.heap.size,8,none⟩=some (.slice aa al ac)/\W.cell? ⟨w.heap.size,9,none⟩=some (.slice ga gl gc))/\W.heap[w.heap.size]? =some (.cells #[.int .i64 lZ,.string nv,.slice ia il ic,.slice xa xl xc,.slice ya yl yc,.int .i64 gT,.slice ba bl bc,.slice ea el ec,.slice aa al ac,.slice ga gl gc] 48)) (by kernel_rfl) S1 (fun hHeld=>?_);refine je 0 (.pointer (some ⟨g,p,none⟩)) hHeld ?_;refine je 1 (.pointer (some ⟨g,p,none⟩)) hHeld ?_;refine je 2 (.pointer (some ⟨g,p,none⟩)) hHeld ?_;refine je 3 (.pointer (some ⟨g,p+6,none⟩)) hHeld ?_;refine je 5 (.agg #[.int .i64 lZ,.string nv,.slice ia il ic,.slice xa xl xc,.slice ya yl yc,.int .i64 gT,.slice ba bl bc,.slice ea el ec,.slice aa al ac,.slice ga gl gc]) hHeld ?_
 try simp only[aS,ak,aD,aF]
 refine fh (rs:=[4,7]) (by kernel_rfl) (by simp) ?_;refine bu (o:={dst:=some 9,op:=_,type:=_,pos:=_,after:=_,guard:=none}) rfl (fun K hK=>?_) (bu (o:={dst:=some 12,op:=_,type:=_,pos:=_,after:=_,guard:=none}) rfl (fun K hK=>?_) cz)
 ·go_simp
  refine hK.out _ _ ?_ (fun hHeld=>?_)
  ·first|exact hHeld|exact HK.o _ ((bj _ _ _ (by rw[aB];omega)).trans (aE w _))
  clear hK K
  try simp only[aS,ak,aD,aF]
  refine je 6 (.int .i64 (m:Int)) hHeld ?_
  try simp only[aS,ak,aD,aF]
  refine mI 7 (fun K hK=>?_)
  go_simp
  refine hK.out _ _ ?_ (fun hHeld=>?_)
  ·first|exact hHeld|exact HK.o _ ((bj _ _ _ (by rw[aB];omega)).trans (aE w _))
  clear hK K
  try simp only[aS,ak,aD,aF]
  refine mI 8 (fun K hK=>?_)
  (refine bK _ (by rfl) _ _ _ (by rfl) B 48 i0 _ 10 200 cY hi hz0 hz1 hz2 rfl (by omega) (.slice qg m qh) m _ (by rfl) (by exact((HOWN.o.alloc _).alloc _)) ⟨w.heap.size+1,0,none⟩ 1 1 [.int .i64 0,.string ⟨#[]⟩,.slice none 0 0,.slice none 0 0,.slice none 0 0,.int .i64 0,.slice none 0 0,.slice none 0 0,.slice none 0 0,.slice none 0 0] (by rfl) (by rfl) (bf (cs:=#[.int .i64 0,.string ⟨#[]⟩,.slice none 0 0,.slice none 0 0,.slice none 0 0,.int .i64 0,.slice none 0 0,.slice none 0 0,.slice none 0 0,.slice none 0 0]) (t:=48) (fr:=(0,0)) (by exact np w _ _)) (by simp[aY]) (by omega) (by unfold ff;omega) (by omega) (by simp;omega) _ rfl ?_;intro gg cap' w1 hown1 hgrow hat hlt;have G:=wy HQ.o qD.o A0.o hgrow;obtain⟨fq,fb⟩:=G;have AB:=lX HQ.o qD.o hgrow hat;have nq:gg≠g:=AB.2.1;have cq:w1.cell? ⟨g,p+6,none⟩=some (.slice qg m qh):=((by rw[af fq];exact RZ.o));have ML:w1.frozen? ⟨g,p+6,none⟩=false:=aC fq _;have zq:=qet fb;have EF:=qet fq;have HG:=qet hgrow;have HA:=qet hat;have mh:=qet hown1;have zt:=qet nq;have Bj:qes (gg≠w.heap.size):=(fun e=>hat.elim (fun h=>absurd (A0.o _ h) (by omega)) (fun h=>(by have h2:gg=((w.alloc _).alloc _).heap.size:=h;rw[aB,aB]at h2;omega)));clear hgrow hown1 hat hlt fq fb nq AB)
  refine hK.out _ _ ?_ (fun hHeld=>?_)
  ·exact HK.o w1 zq.o
  clear hK K
  try simp only[aS,ak,aD,aF]
  refine je 9 (.pointer (some ⟨gg,m*10,none⟩)) hHeld ?_;refine je 11 (.pointer (some ⟨g,p,none⟩)) hHeld ?_;refine je 12 (.pointer (some ⟨g,p,none⟩)) hHeld ?_;refine je 13 (.pointer (some ⟨g,p+6,none⟩)) hHeld ?_
  try simp only[aS,ak,aD,aF]
  refine fh (rs:=[10,14]) (by kernel_rfl) (by simp) ?_;refine bu (o:={dst:=none,op:=_,type:=_,pos:=_,after:=_,guard:=none}) rfl (fun K hK=>?_) (bu (o:={dst:=none,op:=_,type:=_,pos:=_,after:=_,guard:=none}) rfl (fun K hK=>?_) cz)
  ·refine jH (by rfl) 48 _ _ (by rfl) gg (m*10) #[.int .i64 lZ,.string nv,.slice ia il ic,.slice xa xl xc,.slice ya yl yc,.int .i64 gT,.slice ba bl bc,.slice ea el ec,.slice aa al ac,.slice ga gl gc] 10 (by rfl) (kq mh.o wX.o rfl) om (by rfl) (by rfl) (by simp[aY]) ?_;have V5:(w1.setCells gg (m*10) [.int .i64 lZ,.string nv,.slice ia il ic,.slice xa xl xc,.slice ya yl yc,.int .i64 gT,.slice ba bl bc,.slice ea el ec,.slice aa al ac,.slice ga gl gc]).cell? ⟨g,p+6,none⟩=some (.slice qg m qh):=(World.cell?_of_block (iJ gg _ _ g (fun e=>zt.o e.symm))).trans cq;have MM:(w1.setCells gg (m*10) [.int .i64 lZ,.string nv,.slice ia il ic,.slice xa xl xc,.slice ya yl yc,.int .i64 gT,.slice ba bl bc,.slice ea el ec,.slice aa al ac,.slice ga gl gc]).frozen? ⟨g,p+6,none⟩=false:=(World.frozen?_of_block (iJ gg _ _ g (fun e=>zt.o e.symm))).trans ML;refine hK.out _ _ ?_ (fun hHeld=>?_)
   ·exact HK.o _ ((iJ gg _ _ w.heap.size (fun e=>Bj.o e.symm)).trans zq.o)
   clear hK K
   try simp only[aS]
   have EA:=tm (q:=p+6) (vs:=[.int .i64 lZ,.string nv,.slice ia il ic,.slice xa xl xc,.slice ya yl yc,.int .i64 gT,.slice ba bl bc,.slice ea el ec,.slice aa al ac,.slice ga gl gc]) HQ.o qD.o HG.o HA.o EF.o mh.o wX.o rfl;generalize(w1.setCells gg (m*10) [.int .i64 lZ,.string nv,.slice ia il ic,.slice xa xl xc,.slice ya yl yc,.int .i64 gT,.slice ba bl bc,.slice ea el ec,.slice aa al ac,.slice ga gl gc])=w2 at *;refine mI 14 (fun K hK=>?_)
   go_simp
   refine hK.out _ _ ?_ (fun hHeld=>?_)
   ·exact HK.o _ ((aM w2 ⟨g,p+6,none⟩ _ w.heap.size (by show w.heap.size≠g;omega)).trans hHeld.2)
   clear hK K
   try simp only[aS]
   refine bX (by kernel_rfl) ?_ _;refine bP ?_;have zu:=qet EA;clear EA;go_wp2;refine aW (v:=.tuple #[]) ?_ rfl ⟨rfl,?_⟩
   ·simp[aV,cE,go_sem]
   ·exact zu.o
  ·go_simp
   refine hK.out _ _ ?_ (fun hHeld=>?_)
   ·exact HK.o _ ((aM w1 ⟨g,p+6,none⟩ _ w.heap.size (by show w.heap.size≠g;omega)).trans zq.o)
   clear hK K
   try simp only[aS]
   refine mI 10 (fun K hK=>?_);refine jH (by rfl) 48 _ _ (by rfl) gg (m*10) #[.int .i64 lZ,.string nv,.slice ia il ic,.slice xa xl xc,.slice ya yl yc,.int .i64 gT,.slice ba bl bc,.slice ea el ec,.slice aa al ac,.slice ga gl gc] 10 (by rfl) (kq (bJ mh.o (a:=⟨g,p+6,none⟩) (by show some gg≠some g;exact fun e=>zt.o (an e)) _) wX.o rfl) om (by rfl) (by rfl) (by simp[aY]) ?_;refine hK.out _ _ ?_ (fun hHeld=>?_)
   ·exact HK.o _ ((iJ gg _ _ w.heap.size (fun e=>Bj.o e.symm)).trans hHeld.2)
   clear hK K
   try simp only[aS]
   have EA:=tp (q:=p+6) (vs:=[.int .i64 lZ,.string nv,.slice ia il ic,.slice xa xl xc,.slice ya yl yc,.int .i64 gT,.slice ba bl bc,.slice ea el ec,.slice aa al ac,.slice ga gl gc]) HQ.o qD.o HG.o HA.o EF.o mh.o wX.o rfl;refine bX (by kernel_rfl) ?_ _;refine bP ?_;have zu:=qet EA;clear EA;go_wp2;refine aW (v:=.tuple #[]) ?_ rfl ⟨rfl,?_⟩
   ·simp[aV,cE,go_sem]
   ·exact zu.o
 ·go_simp
  refine hK.out _ _ ?_ (fun hHeld=>?_)
  ·first|exact hHeld|exact HK.o _ ((bj _ _ _ (by rw[aB];omega)).trans (aE w _))
  clear hK K
  try simp only[aS,ak,aD,aF]
  refine mI 4 (fun K hK=>?_)
  go_simp
  refine hK.out _ _ ?_ (fun hHeld=>?_)
  ·first|exact hHeld|exact HK.o _ ((bj _ _ _ (by rw[aB];omega)).trans (aE w _))
  clear hK K
  try simp only[aS,ak,aD,aF]
  refine je 6 (.int .i64 (m:Int)) hHeld ?_
  try simp only[aS,ak,aD,aF]
  refine mI 8 (fun K hK=>?_)
  (refine bK _ (by rfl) _ _ _ (by rfl) B 48 i0 _ 10 200 cY hi hz0 hz1 hz2 rfl (by omega) (.slice qg m qh) m _ (by rfl) (by exact((HOWN.o.alloc _).alloc _)) ⟨w.heap.size+1,0,none⟩ 1 1 [.int .i64 0,.string ⟨#[]⟩,.slice none 0 0,.slice none 0 0,.slice none 0 0,.int .i64 0,.slice none 0 0,.slice none 0 0,.slice none 0 0,.slice none 0 0] (by rfl) (by rfl) (bf (cs:=#[.int .i64 0,.string ⟨#[]⟩,.slice none 0 0,.slice none 0 0,.slice none 0 0,.int .i64 0,.slice none 0 0,.slice none 0 0,.slice none 0 0,.slice none 0 0]) (t:=48) (fr:=(0,0)) (by exact np w _ _)) (by simp[aY]) (by omega) (by unfold ff;omega) (by omega) (by simp;omega) _ rfl ?_;intro gg cap' w1 hown1 hgrow hat hlt;have G:=wy HQ.o qD.o A0.o hgrow;obtain⟨fq,fb⟩:=G;have AB:=lX HQ.o qD.o hgrow hat;have nq:gg≠g:=AB.2.1;have cq:w1.cell? ⟨g,p+6,none⟩=some (.slice qg m qh):=((by rw[af fq];exact RZ.o));have ML:w1.frozen? ⟨g,p+6,none⟩=false:=aC fq _;have zq:=qet fb;have EF:=qet fq;have HG:=qet hgrow;have HA:=qet hat;have mh:=qet hown1;have zt:=qet nq;have Bj:qes (gg≠w.heap.size):=(fun e=>hat.elim (fun h=>absurd (A0.o _ h) (by omega)) (fun h=>(by have h2:gg=((w.alloc _).alloc _).heap.size:=h;rw[aB,aB]at h2;omega)));clear hgrow hown1 hat hlt fq fb nq AB)
  refine hK.out _ _ ?_ (fun hHeld=>?_)
  ·exact HK.o w1 zq.o
  clear hK K
  try simp only[aS,ak,aD,aF]
  refine je 9 (.pointer (some ⟨gg,m*10,none⟩)) hHeld ?_;refine je 11 (.pointer (some ⟨g,p,none⟩)) hHeld ?_;refine je 12 (.pointer (some ⟨g,p,none⟩)) hHeld ?_;refine je 13 (.pointer (some ⟨g,p+6,none⟩)) hHeld ?_
  try simp only[aS,ak,aD,aF]
  refine fh (rs:=[10,14]) (by kernel_rfl) (by simp) ?_;refine bu (o:={dst:=none,op:=_,type:=_,pos:=_,after:=_,guard:=none}) rfl (fun K hK=>?_) (bu (o:={dst:=none,op:=_,type:=_,pos:=_,after:=_,guard:=none}) rfl (fun K hK=>?_) cz)
  ·refine jH (by rfl) 48 _ _ (by rfl) gg (m*10) #[.int .i64 lZ,.string nv,.slice ia il ic,.slice xa xl xc,.slice ya yl yc,.int .i64 gT,.slice ba bl bc,.slice ea el ec,.slice aa al ac,.slice ga gl gc] 10 (by rfl) (kq mh.o wX.o rfl) om (by rfl) (by rfl) (by simp[aY]) ?_;have V5:(w1.setCells gg (m*10) [.int .i64 lZ,.string nv,.slice ia il ic,.slice xa xl xc,.slice ya yl yc,.int .i64 gT,.slice ba bl bc,.slice ea el ec,.slice aa al ac,.slice ga gl gc]).cell? ⟨g,p+6,none⟩=some (.slice qg m qh):=(World.cell?_of_block (iJ gg _ _ g (fun e=>zt.o e.symm))).trans cq;have MM:(w1.setCells gg (m*10) [.int .i64 lZ,.string nv,.slice ia il ic,.slice xa xl xc,.slice ya yl yc,.int .i64 gT,.slice ba bl bc,.slice ea el ec,.slice aa al ac,.slice ga gl gc]).frozen? ⟨g,p+6,none⟩=false:=(World.frozen?_of_block (iJ gg _ _ g (fun e=>zt.o e.symm))).trans ML;refine hK.out _ _ ?_ (fun hHeld=>?_)
   ·exact HK.o _ ((iJ gg _ _ w.heap.size (fun e=>Bj.o e.symm)).trans zq.o)
   clear hK K
   try simp only[aS]
   have EA:=tm (q:=p+6) (vs:=[.int .i64 lZ,.string nv,.slice ia il ic,.slice xa xl xc,.slice ya yl yc,.int .i64 gT,.slice ba bl bc,.slice ea el ec,.slice aa al ac,.slice ga gl gc]) HQ.o qD.o HG.o HA.o EF.o mh.o wX.o rfl;generalize(w1.setCells gg (m*10) [.int .i64 lZ,.string nv,.slice ia il ic,.slice xa xl xc,.slice ya yl yc,.int .i64 gT,.slice ba bl bc,.slice ea el ec,.slice aa al ac,.slice ga gl gc])=w2 at *;refine mI 14 (fun K hK=>?_)
   go_simp
   refine hK.out _ _ ?_ (fun hHeld=>?_)
   ·exact HK.o _ ((aM w2 ⟨g,p+6,none⟩ _ w.heap.size (by show w.heap.size≠g;omega)).trans hHeld.2)
   clear hK K
   try simp only[aS]
   refine bX (by kernel_rfl) ?_ _;refine bP ?_;have zu:=qet EA;clear EA;go_wp2;refine aW (v:=.tuple #[]) ?_ rfl ⟨rfl,?_⟩
   ·simp[aV,cE,go_sem]
   ·exact zu.o
  ·go_simp
   refine hK.out _ _ ?_ (fun hHeld=>?_)
   ·exact HK.o _ ((aM w1 ⟨g,p+6,none⟩ _ w.heap.size (by show w.heap.size≠g;omega)).trans zq.o)
   clear hK K
   try simp only[aS]
   refine mI 10 (fun K hK=>?_);refine jH (by rfl) 48 _ _ (by rfl) gg (m*10) #[.int .i64 lZ,.string nv,.slice ia il ic,.slice xa xl xc,.slice ya yl yc,.int .i64 gT,.slice ba bl bc,.slice ea el ec,.slice aa al ac,.slice ga gl gc] 10 (by rfl) (kq (bJ mh.o (a:=⟨g,p+6,none⟩) (by show some gg≠some g;exact fun e=>zt.o (an e)) _) wX.o rfl) om (by rfl) (by rfl) (by simp[aY]) ?_;refine hK.out _ _ ?_ (fun hHeld=>?_)
   ·exact HK.o _ ((iJ gg _ _ w.heap.size (fun e=>Bj.o e.symm)).trans hHeld.2)
   clear hK K
   try simp only[aS]
   have EA:=tp (q:=p+6) (vs:=[.int .i64 lZ,.string nv,.slice ia il ic,.slice xa xl xc,.slice ya yl yc,.int .i64 gT,.slice ba bl bc,.slice ea el ec,.slice aa al ac,.slice ga gl gc]) HQ.o qD.o HG.o HA.o EF.o mh.o wX.o rfl;refine bX (by kernel_rfl) ?_ _;refine bP ?_;have zu:=qet EA;clear EA;go_wp2;refine aW (v:=.tuple #[]) ?_ rfl ⟨rfl,?_⟩
   ·simp[aV,cE,go_sem]
   ·exact zu.o
theorem Uu{X:World}(h:((X.drewN n).alloc Z).grownBy w' row):(X.alloc Z).drew.grownBy w' row:=⟨h.os,h.tape,h.output,h.size,h.block⟩
theorem MN{p gz na U8:Nat}{P4:Array Value}(hq:w.heap[gz]? =some (.cells cur 51))(hg:w.heap[g]? =some (.cells P4 57))(hie:P4[p+12]? =some (.bool false))(hkd:P4[p]? =some (.int .i64 6))(har:P4[p+8]? =some (.slice (some ⟨gz,0,none⟩) (na+1) U8))(hna:na<=1000000000)(hev:cur[na*2+1]? =some (.slice qg m qh))(hown:w.ownsRow B 48 10 (.slice qg m qh) m xs)(hm:m<=1000000000)(hB:B<=w.heap.size)(hne:(aZ qg m qh).ownBlock≠some gz):
  Calls ah 151 #[.pointer (some ⟨g,p,none⟩),.agg #[.int .i64 lZ,.string nv,.slice ia il ic,.slice xa xl xc,.slice ya yl yc,.int .i64 gT,.slice ba bl bc,.slice ea el ec,.slice aa al ac,.slice ga gl gc]] w fun e w'=>e=.returned (.tuple #[])/\Added B gz (na*2+1) 51 cur (.slice qg m qh) m xs [.int .i64 lZ,.string nv,.slice ia il ic,.slice xa xl xc,.slice ya yl yc,.int .i64 gT,.slice ba bl bc,.slice ea el ec,.slice aa al ac,.slice ga gl gc] w w':=by
 obtain⟨i0,hi,hz0,hz1,hz2⟩:=info_parts TM;have HQ:=qet hq;have HOWN:=qet hown;have qD:=qet hne;have RZ:=qet hev;have A0:qes (∀k,(aZ qg m qh).ownBlock=some k->k<w.heap.size):=fun k hk=>(hown.lt k hk).2
 have wX:qes (xs.length=m*10):=hown.1;have lq:=lt_of_heap hq;have ED:w.cell? ⟨gz,na*2+1,none⟩=some (.slice qg m qh):=by rw[af hq];exact hev
 have lg:=lt_of_heap hg;have d12:∀o,(w.alloc o).cell? ⟨g,p+12,none⟩=some (.bool false):=fun o=>(World.cell?_alloc_lt _ _ _ lg).trans (by rw[af hg];exact hie)
 have d0:∀o,(w.alloc o).cell? ⟨g,p,none⟩=some (.int .i64 6):=fun o=>(World.cell?_alloc_lt _ _ _ lg).trans (by rw[af hg];exact hkd)
 have d8:∀o,(w.alloc o).cell? ⟨g,p+8,none⟩=some (.slice (some ⟨gz,0,none⟩) (na+1) U8):=fun o=>(World.cell?_alloc_lt _ _ _ lg).trans (by rw[af hg];exact har)
 have k0:(0:Int)<=(na:Int):=by omega
 have k1:(na:Int)<(na:Int)+1:=by omega
 have k2:(na:Int)<=1000000000:=by omega
 have e1:∀o,(w.alloc o).cell? ⟨gz,na*2+1,none⟩=some (.slice qg m qh):=fun o=>(World.cell?_alloc_lt _ _ _ lq).trans ED
 have e2:∀o o',((w.alloc o).alloc o').cell? ⟨gz,na*2+1,none⟩=some (.slice qg m qh):=fun o o'=>(World.cell?_alloc_lt _ _ _ (by rw[aB];show gz<_;omega)).trans (e1 o)
 have j0:(0:Int)<=(m:Int):=by omega
 have j1:(m:Int)<(m:Int)+1:=by omega
 have j2:(m:Int)<=1000000000:=by omega
 have HK:qes (∀W:World,W.heap[w.heap.size]? =some (.cells #[.int .i64 lZ,.string nv,.slice ia il ic,.slice xa xl xc,.slice ya yl yc,.int .i64 gT,.slice ba bl bc,.slice ea el ec,.slice aa al ac,.slice ga gl gc] 48)->(W.cell? ⟨w.heap.size,0,none⟩=some (.int .i64 lZ)/\W.cell? ⟨w.heap.size,1,none⟩=some (.string nv)/\W.cell? ⟨w.heap.size,2,none⟩=some (.slice ia il ic)/\W.cell? ⟨w.heap.size,3,none⟩=some (.slice xa xl xc)/\W.cell? ⟨w.heap.size,4,none⟩=some (.slice ya yl yc)/\W.cell? ⟨w.heap.size,5,none⟩=some (.int .i64 gT)/\W.cell? ⟨w.heap.size,6,none⟩=some (.slice ba bl bc)/\W.cell? ⟨w.heap.size,7,none⟩=some (.slice ea el ec)/\W.cell? ⟨w.heap.size,8,none⟩=some (.slice aa al ac)/\W.cell? ⟨w.heap.size,9,none⟩=some (.slice ga gl gc))/\W.heap[w.heap.size]? =some (.cells #[.int .i64 lZ,.string nv,.slice ia il ic,.slice xa xl xc,.slice ya yl yc,.int .i64 gT,.slice ba bl bc,.slice ea el ec,.slice aa al ac,.slice ga gl gc] 48)):=fun W h=>⟨⟨(by rw[af h];rfl),(by rw[af h];rfl),(by rw[af h];rfl),(by rw[af h];rfl),(by rw[af h];rfl),(by rw[af h];rfl),(by rw[af h];rfl),(by rw[af h];rfl),(by rw[af h];rfl),(by rw[af h];rfl)⟩,h⟩
 clear hq hown hne hev ED hg hie hkd har hna;go_enter Tryz.func151,Tryz.ntmps151;go_wp2
 go_quiet (fail)
 go_wp2;refine ft ?_;refine fm (S:=fun W=>(W.cell? ⟨w.heap.size,0,none⟩=some (.int .i64 lZ)/\W.cell? ⟨w.heap.size,1,none⟩=some (.string nv)/\W.cell? ⟨w.heap.size,2,none⟩=some (.slice ia il ic)/\W.cell? ⟨w.heap.size,3,none⟩=some (.slice xa xl xc)/\W.cell? ⟨w.heap.size,4,none⟩=some (.slice ya yl yc)/\W.cell? ⟨w.heap.size,5,none⟩=some (.int .i64 gT)/\W.cell? ⟨w.heap.size,6,none⟩=some (.slice ba bl bc)/\W.cell? ⟨w.heap.size,7,none⟩=some (.slice ea el ec)/\W.cell? ⟨w.heap.size,8,none⟩=some (.slice aa al ac)/\W.cell? ⟨w.heap.size,9,none⟩=some (.slice ga gl gc))/\W.heap[w.heap.size]? =some (.cells #[.int .i64 lZ,.string nv,.slice ia il ic,.slice xa xl xc,.slice ya yl yc,.int .i64 gT,.slice ba bl bc,.slice ea el ec,.slice aa al ac,.slice ga gl gc] 48)) (by kernel_rfl) (HK.o _ (aE w _)) (fun hHeld=>?_);refine je 0 (.pointer (some ⟨gz,na*2,none⟩)) hHeld ?_;refine je 1 (.pointer (some ⟨gz,na*2,none⟩)) hHeld ?_;refine je 2 (.pointer (some ⟨gz,na*2+1,none⟩)) hHeld ?_;refine je 4 (.agg #[.int .i64 lZ,.string nv,.slice ia il ic,.slice xa xl xc,.slice ya yl yc,.int .i64 gT,.slice ba bl bc,.slice ea el ec,.slice aa al ac,.slice ga gl gc]) hHeld ?_
 try simp only[aS,ak,aD,aF]
 refine fh (rs:=[3,6]) (by kernel_rfl) (by simp) ?_;refine bu (o:={dst:=some 59,op:=_,type:=_,pos:=_,after:=_,guard:=none}) rfl (fun K hK=>?_) (bu (o:={dst:=some 62,op:=_,type:=_,pos:=_,after:=_,guard:=none}) rfl (fun K hK=>?_) cz)
 ·go_simp
  refine hK.out _ _ ?_ (fun hHeld=>?_)
  ·first|exact hHeld|exact HK.o _ ((bj _ _ _ (by show w.heap.size<(w.alloc _).heap.size;rw[aB];omega)).trans (aE w _))
  clear hK K
  try simp only[aS,ak,aD,aF]
  refine je 5 (.int .i64 (m:Int)) hHeld ?_
  try simp only[aS,ak,aD,aF]
  refine mI 6 (fun K hK=>?_)
  go_simp
  refine hK.out _ _ ?_ (fun hHeld=>?_)
  ·first|exact hHeld|exact HK.o _ ((bj _ _ _ (by show w.heap.size<(w.alloc _).heap.size;rw[aB];omega)).trans (aE w _))
  clear hK K
  try simp only[aS,ak,aD,aF]
  refine mI 7 (fun K hK=>?_)
  (refine bK _ (by rfl) _ _ _ (by rfl) B 48 i0 _ 10 200 cY hi hz0 hz1 hz2 rfl (by omega) (.slice qg m qh) m _ (by rfl) (by exact((HOWN.o.alloc _).alloc _)) ⟨w.heap.size+1,0,none⟩ 1 1 [.int .i64 0,.string ⟨#[]⟩,.slice none 0 0,.slice none 0 0,.slice none 0 0,.int .i64 0,.slice none 0 0,.slice none 0 0,.slice none 0 0,.slice none 0 0] (by rfl) (by rfl) (bf (cs:=#[.int .i64 0,.string ⟨#[]⟩,.slice none 0 0,.slice none 0 0,.slice none 0 0,.int .i64 0,.slice none 0 0,.slice none 0 0,.slice none 0 0,.slice none 0 0]) (t:=48) (fr:=(0,0)) (by exact np w _ _)) (by simp[aY]) (by omega) (by unfold ff;omega) (by omega) (by simp;omega) _ rfl ?_;intro gg cap' w1 hown1 hgrow hat hlt;have hgrow:=Uu hgrow;have G:=wy HQ.o qD.o A0.o hgrow;obtain⟨fq,fb⟩:=G;have AB:=lX HQ.o qD.o hgrow hat;have nq:gg≠gz:=AB.2.1;have cq:w1.cell? ⟨gz,na*2+1,none⟩=some (.slice qg m qh):=((by rw[af fq];exact RZ.o));have ML:w1.frozen? ⟨gz,na*2+1,none⟩=false:=aC fq _;have zq:=qet fb;have EF:=qet fq;have HG:=qet hgrow;have HA:=qet hat;have mh:=qet hown1;have zt:=qet nq;have Bj:qes (gg≠w.heap.size):=(fun e=>hat.elim (fun h=>absurd (A0.o _ h) (by omega)) (fun h=>(by have h2:gg=((w.alloc _).alloc _).heap.size:=h;rw[aB,aB]at h2;omega)));clear hgrow hown1 hat hlt fq fb nq AB)
  refine hK.out _ _ ?_ (fun hHeld=>?_)
  ·exact HK.o w1 zq.o
  clear hK K
  try simp only[aS,ak,aD,aF]
  refine je 8 (.pointer (some ⟨gg,m*10,none⟩)) hHeld ?_;refine je 10 (.pointer (some ⟨gz,na*2,none⟩)) hHeld ?_;refine je 11 (.pointer (some ⟨gz,na*2+1,none⟩)) hHeld ?_
  try simp only[aS,ak,aD,aF]
  refine fh (rs:=[9,12]) (by kernel_rfl) (by simp) ?_;refine bu (o:={dst:=none,op:=_,type:=_,pos:=_,after:=_,guard:=none}) rfl (fun K hK=>?_) (bu (o:={dst:=none,op:=_,type:=_,pos:=_,after:=_,guard:=none}) rfl (fun K hK=>?_) cz)
  ·refine jH (by rfl) 48 _ _ (by rfl) gg (m*10) #[.int .i64 lZ,.string nv,.slice ia il ic,.slice xa xl xc,.slice ya yl yc,.int .i64 gT,.slice ba bl bc,.slice ea el ec,.slice aa al ac,.slice ga gl gc] 10 (by rfl) (kq mh.o wX.o rfl) om (by rfl) (by rfl) (by simp[aY]) ?_;have V5:(w1.setCells gg (m*10) [.int .i64 lZ,.string nv,.slice ia il ic,.slice xa xl xc,.slice ya yl yc,.int .i64 gT,.slice ba bl bc,.slice ea el ec,.slice aa al ac,.slice ga gl gc]).cell? ⟨gz,na*2+1,none⟩=some (.slice qg m qh):=(World.cell?_of_block (iJ gg _ _ gz (fun e=>zt.o e.symm))).trans cq;have MM:(w1.setCells gg (m*10) [.int .i64 lZ,.string nv,.slice ia il ic,.slice xa xl xc,.slice ya yl yc,.int .i64 gT,.slice ba bl bc,.slice ea el ec,.slice aa al ac,.slice ga gl gc]).frozen? ⟨gz,na*2+1,none⟩=false:=(World.frozen?_of_block (iJ gg _ _ gz (fun e=>zt.o e.symm))).trans ML;refine hK.out _ _ ?_ (fun hHeld=>?_)
   ·exact HK.o _ ((iJ gg _ _ w.heap.size (fun e=>Bj.o e.symm)).trans zq.o)
   clear hK K
   try simp only[aS]
   have EA:=tm (q:=na*2+1) (vs:=[.int .i64 lZ,.string nv,.slice ia il ic,.slice xa xl xc,.slice ya yl yc,.int .i64 gT,.slice ba bl bc,.slice ea el ec,.slice aa al ac,.slice ga gl gc]) HQ.o qD.o HG.o HA.o EF.o mh.o wX.o rfl;generalize(w1.setCells gg (m*10) [.int .i64 lZ,.string nv,.slice ia il ic,.slice xa xl xc,.slice ya yl yc,.int .i64 gT,.slice ba bl bc,.slice ea el ec,.slice aa al ac,.slice ga gl gc])=w2 at *;refine mI 12 (fun K hK=>?_)
   go_simp
   refine hK.out _ _ ?_ (fun hHeld=>?_)
   ·exact HK.o _ ((aM w2 ⟨gz,na*2+1,none⟩ _ w.heap.size (by show w.heap.size≠gz;omega)).trans hHeld.2)
   clear hK K
   try simp only[aS]
   refine bX (by kernel_rfl) ?_ _;refine bP ?_;have zu:=qet EA;clear EA;go_wp2;refine aW (v:=.tuple #[]) ?_ rfl ⟨rfl,?_⟩
   ·simp[aV,cE,go_sem]
   ·exact zu.o
  ·go_simp
   refine hK.out _ _ ?_ (fun hHeld=>?_)
   ·exact HK.o _ ((aM w1 ⟨gz,na*2+1,none⟩ _ w.heap.size (by show w.heap.size≠gz;omega)).trans zq.o)
   clear hK K
   try simp only[aS]
   refine mI 9 (fun K hK=>?_);refine jH (by rfl) 48 _ _ (by rfl) gg (m*10) #[.int .i64 lZ,.string nv,.slice ia il ic,.slice xa xl xc,.slice ya yl yc,.int .i64 gT,.slice ba bl bc,.slice ea el ec,.slice aa al ac,.slice ga gl gc] 10 (by rfl) (kq (bJ mh.o (a:=⟨gz,na*2+1,none⟩) (by show some gg≠some gz;exact fun e=>zt.o (an e)) _) wX.o rfl) om (by rfl) (by rfl) (by simp[aY]) ?_;refine hK.out _ _ ?_ (fun hHeld=>?_)
   ·exact HK.o _ ((iJ gg _ _ w.heap.size (fun e=>Bj.o e.symm)).trans hHeld.2)
   clear hK K
   try simp only[aS]
   have EA:=tp (q:=na*2+1) (vs:=[.int .i64 lZ,.string nv,.slice ia il ic,.slice xa xl xc,.slice ya yl yc,.int .i64 gT,.slice ba bl bc,.slice ea el ec,.slice aa al ac,.slice ga gl gc]) HQ.o qD.o HG.o HA.o EF.o mh.o wX.o rfl;refine bX (by kernel_rfl) ?_ _;refine bP ?_;have zu:=qet EA;clear EA;go_wp2;refine aW (v:=.tuple #[]) ?_ rfl ⟨rfl,?_⟩
   ·simp[aV,cE,go_sem]
   ·exact zu.o
 ·go_simp
  refine hK.out _ _ ?_ (fun hHeld=>?_)
  ·first|exact hHeld|exact HK.o _ ((bj _ _ _ (by show w.heap.size<(w.alloc _).heap.size;rw[aB];omega)).trans (aE w _))
  clear hK K
  try simp only[aS,ak,aD,aF]
  refine mI 3 (fun K hK=>?_)
  go_simp
  refine hK.out _ _ ?_ (fun hHeld=>?_)
  ·first|exact hHeld|exact HK.o _ ((bj _ _ _ (by show w.heap.size<(w.alloc _).heap.size;rw[aB];omega)).trans (aE w _))
  clear hK K
  try simp only[aS,ak,aD,aF]
  refine je 5 (.int .i64 (m:Int)) hHeld ?_
  try simp only[aS,ak,aD,aF]
  refine mI 7 (fun K hK=>?_)
  (refine bK _ (by rfl) _ _ _ (by rfl) B 48 i0 _ 10 200 cY hi hz0 hz1 hz2 rfl (by omega) (.slice qg m qh) m _ (by rfl) (by exact((HOWN.o.alloc _).alloc _)) ⟨w.heap.size+1,0,none⟩ 1 1 [.int .i64 0,.string ⟨#[]⟩,.slice none 0 0,.slice none 0 0,.slice none 0 0,.int .i64 0,.slice none 0 0,.slice none 0 0,.slice none 0 0,.slice none 0 0] (by rfl) (by rfl) (bf (cs:=#[.int .i64 0,.string ⟨#[]⟩,.slice none 0 0,.slice none 0 0,.slice none 0 0,.int .i64 0,.slice none 0 0,.slice none 0 0,.slice none 0 0,.slice none 0 0]) (t:=48) (fr:=(0,0)) (by exact np w _ _)) (by simp[aY]) (by omega) (by unfold ff;omega) (by omega) (by simp;omega) _ rfl ?_;intro gg cap' w1 hown1 hgrow hat hlt;have hgrow:=Uu hgrow;have G:=wy HQ.o qD.o A0.o hgrow;obtain⟨fq,fb⟩:=G;have AB:=lX HQ.o qD.o hgrow hat;have nq:gg≠gz:=AB.2.1;have cq:w1.cell? ⟨gz,na*2+1,none⟩=some (.slice qg m qh):=((by rw[af fq];exact RZ.o));have ML:w1.frozen? ⟨gz,na*2+1,none⟩=false:=aC fq _;have zq:=qet fb;have EF:=qet fq;have HG:=qet hgrow;have HA:=qet hat;have mh:=qet hown1;have zt:=qet nq;have Bj:qes (gg≠w.heap.size):=(fun e=>hat.elim (fun h=>absurd (A0.o _ h) (by omega)) (fun h=>(by have h2:gg=((w.alloc _).alloc _).heap.size:=h;rw[aB,aB]at h2;omega)));clear hgrow hown1 hat hlt fq fb nq AB)
  refine hK.out _ _ ?_ (fun hHeld=>?_)
  ·exact HK.o w1 zq.o
  clear hK K
  try simp only[aS,ak,aD,aF]
  refine je 8 (.pointer (some ⟨gg,m*10,none⟩)) hHeld ?_;refine je 10 (.pointer (some ⟨gz,na*2,none⟩)) hHeld ?_;refine je 11 (.pointer (some ⟨gz,na*2+1,none⟩)) hHeld ?_
  try simp only[aS,ak,aD,aF]
  refine fh (rs:=[9,12]) (by kernel_rfl) (by simp) ?_;refine bu (o:={dst:=none,op:=_,type:=_,pos:=_,after:=_,guard:=none}) rfl (fun K hK=>?_) (bu (o:={dst:=none,op:=_,type:=_,pos:=_,after:=_,guard:=none}) rfl (fun K hK=>?_) cz)
  ·refine jH (by rfl) 48 _ _ (by rfl) gg (m*10) #[.int .i64 lZ,.string nv,.slice ia il ic,.slice xa xl xc,.slice ya yl yc,.int .i64 gT,.slice ba bl bc,.slice ea el ec,.slice aa al ac,.slice ga gl gc] 10 (by rfl) (kq mh.o wX.o rfl) om (by rfl) (by rfl) (by simp[aY]) ?_;have V5:(w1.setCells gg (m*10) [.int .i64 lZ,.string nv,.slice ia il ic,.slice xa xl xc,.slice ya yl yc,.int .i64 gT,.slice ba bl bc,.slice ea el ec,.slice aa al ac,.slice ga gl gc]).cell? ⟨gz,na*2+1,none⟩=some (.slice qg m qh):=(World.cell?_of_block (iJ gg _ _ gz (fun e=>zt.o e.symm))).trans cq;have MM:(w1.setCells gg (m*10) [.int .i64 lZ,.string nv,.slice ia il ic,.slice xa xl xc,.slice ya yl yc,.int .i64 gT,.slice ba bl bc,.slice ea el ec,.slice aa al ac,.slice ga gl gc]).frozen? ⟨gz,na*2+1,none⟩=false:=(World.frozen?_of_block (iJ gg _ _ gz (fun e=>zt.o e.symm))).trans ML;refine hK.out _ _ ?_ (fun hHeld=>?_)
   ·exact HK.o _ ((iJ gg _ _ w.heap.size (fun e=>Bj.o e.symm)).trans zq.o)
   clear hK K
   try simp only[aS]
   have EA:=tm (q:=na*2+1) (vs:=[.int .i64 lZ,.string nv,.slice ia il ic,.slice xa xl xc,.slice ya yl yc,.int .i64 gT,.slice ba bl bc,.slice ea el ec,.slice aa al ac,.slice ga gl gc]) HQ.o qD.o HG.o HA.o EF.o mh.o wX.o rfl;generalize(w1.setCells gg (m*10) [.int .i64 lZ,.string nv,.slice ia il ic,.slice xa xl xc,.slice ya yl yc,.int .i64 gT,.slice ba bl bc,.slice ea el ec,.slice aa al ac,.slice ga gl gc])=w2 at *;refine mI 12 (fun K hK=>?_)
   go_simp
   refine hK.out _ _ ?_ (fun hHeld=>?_)
   ·exact HK.o _ ((aM w2 ⟨gz,na*2+1,none⟩ _ w.heap.size (by show w.heap.size≠gz;omega)).trans hHeld.2)
   clear hK K
   try simp only[aS]
   refine bX (by kernel_rfl) ?_ _;refine bP ?_;have zu:=qet EA;clear EA;go_wp2;refine aW (v:=.tuple #[]) ?_ rfl ⟨rfl,?_⟩
   ·simp[aV,cE,go_sem]
   ·exact zu.o
  ·go_simp
   refine hK.out _ _ ?_ (fun hHeld=>?_)
   ·exact HK.o _ ((aM w1 ⟨gz,na*2+1,none⟩ _ w.heap.size (by show w.heap.size≠gz;omega)).trans zq.o)
   clear hK K
   try simp only[aS]
   refine mI 9 (fun K hK=>?_);refine jH (by rfl) 48 _ _ (by rfl) gg (m*10) #[.int .i64 lZ,.string nv,.slice ia il ic,.slice xa xl xc,.slice ya yl yc,.int .i64 gT,.slice ba bl bc,.slice ea el ec,.slice aa al ac,.slice ga gl gc] 10 (by rfl) (kq (bJ mh.o (a:=⟨gz,na*2+1,none⟩) (by show some gg≠some gz;exact fun e=>zt.o (an e)) _) wX.o rfl) om (by rfl) (by rfl) (by simp[aY]) ?_;refine hK.out _ _ ?_ (fun hHeld=>?_)
   ·exact HK.o _ ((iJ gg _ _ w.heap.size (fun e=>Bj.o e.symm)).trans hHeld.2)
   clear hK K
   try simp only[aS]
   have EA:=tp (q:=na*2+1) (vs:=[.int .i64 lZ,.string nv,.slice ia il ic,.slice xa xl xc,.slice ya yl yc,.int .i64 gT,.slice ba bl bc,.slice ea el ec,.slice aa al ac,.slice ga gl gc]) HQ.o qD.o HG.o HA.o EF.o mh.o wX.o rfl;refine bX (by kernel_rfl) ?_ _;refine bP ?_;have zu:=qet EA;clear EA;go_wp2;refine aW (v:=.tuple #[]) ?_ rfl ⟨rfl,?_⟩
   ·simp[aV,cE,go_sem]
   ·exact zu.o
variable {l:List Hd}{hd:Hd}
theorem oh.open(h:oh c X r at_ hv sv fa fc os O w)(hh:r.hs=hd::l):
  ∃g cap cur c1 c2 o1 o2,hv=.slice (some ⟨g,0,none⟩) (l.length+1) cap/\w.heap[g]? =some (.cells cur 57)/\c1.length=l.length*14/\c2.length=14/\os=o1++o2/\hsR c.B w (ji O) l.reverse c1 o1/\Cb c.B w (ji O) hd c2 o2/\(∀j u,c2[j]? =some u->cur[l.length*14+j]? =some u)/\w.ownsRow c.B 57 14 hv (l.length+1) (c1++c2)/\cur.size=cap*14/\l.length+1<=cap:=by
 obtain⟨cs,h1,h2⟩:=h.hs;rw[hh,dk]at h2;rw[hh,aG]at h1;obtain⟨c1,c2,o1,o2,e1,e2,e3,e4,e5,e6⟩:=Ei _ _ _ _ h2;subst e1;rw[List.length_reverse]at e2;have h1':=h1
 rcases h1.2 with⟨_,h0⟩|⟨g,cap,cur,rfl,r1,r2,r3,r4,r5,r6⟩
 ·omega
 ·refine⟨g,cap,cur,c1,c2,o1,o2,rfl,r2,e2,e3,e4,e5,e6,fun j u hu=>?_,h1',r5,r3⟩;have hj:=(List.getElem?_eq_some_iff.1 hu).1;have hlt:l.length*14+j<(l.length+1)*14:=by omega
  have h9:=congrArg (fun q=>q[l.length*14+j]?) r6;rw[List.getElem?_take_of_lt hlt,List.getElem?_append_right (by omega),e2,fC,hu,Array.getElem?_toList]at h9;exact h9
theorem oh.shut(h:oh c X r at_ hv sv fa fc os O w){c1:List Value}{o1:List Nat}(hs1:hsR c.B w (ji O) l.reverse c1 o1){r':Rs}{at':Nat}{sv':Value}{Ev Ew:Int}{O':List Nat}{hd':Hd}{c2':List Value}{MO:List Nat}(hk:gR O w w')(hrow:w'.heap[c.R]? =some (mb c.tv at' hv sv' r'.many Ev Ew c.dp))(hat:at'<=c.toks.length)(hrest:r'.rest=lst c.toks at')(hfl:r'.fault.2≠0->Ev=((c.toks.length-r'.fault.1:Nat):Int)/\Ew=r'.fault.2)
  (U7:r'.hs=hd'::l) (hown':w'.ownsRow c.B 57 14 hv (l.length+1) (c1++c2')) (hc2:c2'.length=14) (Y3:Cb c.B w' (ji O') hd' c2' MO) (ho1:∀k,k∈o1->k<w.heap.size->w'.heap[k]? =w.heap[k]?) (hst:w'.ownsRow c.B 103 3 sv' r'.gY.length (uY c.toks.length r'.gY)) (hown:O'=X++c.R::(hv.ownBlock.toList++(sv'.ownBlock.toList++(o1++MO)))) (hnd:O'.Nodup) (hfr:∀b,b∈O'->b∈O\/(w.heap.size<=b/\b<w'.heap.size)) (hgood:Good c.toks.length r'):oh c X r' at' hv sv' Ev Ew (o1++MO) O' w'/\Gone O w O' w':=by
 have hon:On (ji O) (ji O') w w':=fun b hb hlb=>⟨fun hm=>(hfr b hm).elim hb (fun h=>by omega),hk.block b hlb hb⟩
 refine h.make hk hrow hat hrest hfl ⟨c1++c2',by rw[U7,aG];exact hown',?_⟩ hst hown hnd hfr hgood;rw[U7,dk];refine rE _ _ _ _ _ _ (hsR.on hon _ _ _ hs1 ho1) ?_;simp only[hsR];exact⟨c2',[],MO,[],by simp,hc2,by simp,Y3,rfl,rfl⟩
theorem oL{j:Nat}(h:w.ownsRow B e size (.slice (some ⟨g,0,none⟩) n cap) n cs)(hg:w.heap[g]? =some (.cells cur e))(hg':w'.heap[g]? =some (.cells (cur.setIfInBounds j u) e)):w'.ownsRow B e size (.slice (some ⟨g,0,none⟩) n cap) n (cs.set j u):=by
 obtain⟨h1,h2⟩:=h
 rcases h2 with⟨h2,_⟩|⟨g',cap',cur',h2,r1,r2,r3,r4,r5,r6⟩
 ·cases h2
 ·cases h2
  rw[hg]at r2
  obtain rfl:cur=cur':=by
   have:=an r2;injection this
  refine⟨by rw[List.length_set];exact h1,.inr ⟨g,cap,cur.setIfInBounds j u,rfl,r1,hg',r3,r4,by rw[Array.size_setIfInBounds];exact r5,?_⟩⟩;rw[<-r6,Array.toList_setIfInBounds,List.take_set]
theorem set_tail{c1 c2:List Value}{j:Nat}(h:c1.length=n):(c1++c2).set (n+j) u=c1++c2.set j u:=by
 rw[List.set_append_right _ _ (by omega),h,fC]
theorem mG(hown:O=X++R::(g::(sv.ownBlock.toList++os)))(hnd:O.Nodup):g≠R/\(∀k,k∈os->k≠R/\k≠g/\sv.ownBlock≠some k)/\sv.ownBlock≠some g/\sv.ownBlock≠some R/\os.Nodup:=by
 subst hown;rw[aR]at hnd;have h1:=hnd.2.1;rw[bV,bV,aR]at h1;obtain⟨a1,a2,a3,a4,a5⟩:=h1;simp only[aI,aN,not_or,bT]at a1 a2;refine⟨fun e=>a1.1 e.symm,fun k hk=>⟨fun e=>a1.2.2 (e ▸ hk),fun e=>a2.2 (e ▸ hk),fun e=>a5 k (by simp[e]) k hk rfl⟩,fun e=>a2.1 (by simp[e]),fun e=>a1.2.1 (by simp[e]),a4⟩
theorem qM{a:Option Nat}(hO:O=l1++(a.toList++l2))(hnd:O.Nodup)(hg:a=some g\/g∉O):(l1++((some g).toList++l2)).Nodup/\∀b,b∈l1++((some g).toList++l2)->b∈O\/b=g:=by
 subst hO;refine⟨zp hnd (hg.imp id fun h hm=>h (by simp only[aN]at hm ⊢;rcases hm with h|h;exact .inl h;exact .inr (.inr h))),fun b hb=>?_⟩;simp only[aN,bT]at hb ⊢
 rcases hb with h|h|h
 ·exact .inl (.inl h)
 ·exact .inr (an h).symm
 ·exact .inl (.inr (.inr h))
theorem TN{a b d:Prop}(h:a/\b)(k:d):a/\b/\d:=⟨h.1,h.2,k⟩
def HAdd(c:Cx)(X:List Nat)(r:Rs)(at_:Nat)(hv sv:Value)(fa fc:Int)(O:List Nat)(w:World)(e:Ending)(w':World):Prop:=e=.returned (.tuple #[])/\∃os' O',oh c X r at_ hv sv fa fc os' O' w'/\Gone O w O' w'/\∀b,b∈X->w'.heap[b]? =w.heap[b]?
theorem Good.JN{N:Nat}(g:Good N r)(hh:r.hs=hd::l):vi hd+l.length<=N+1:=by
 have h1:=g.wt;rw[hh,ks]at h1
 have:∀l:List Hd,l.length<=zk l:=by
  intro l
  induction l with
  |nil=>simp
  |cons h l ih=>rw[ks,aG];have:=xM h;omega
 have:=this l;omega
theorem TO(h:oh c X r at_ hv sv fa fc os O w)(hh:r.hs=hd::l)(hie:hd.gX=true){s:St}{cl:List Value}(hst:xp w (ji O) s cl)(JO:hv.ownBlock=some g)(hgood:Good c.toks.length {r with hs:=jc hd s::l}):Calls ah 151 #[.pointer (some ⟨g,l.length*14,none⟩),.agg cl.toArray] w (HAdd c X {r with hs:=jc hd s::l} at_ hv sv fa fc O w):=by
 have hl:=h.env.tks.hl;have hw:=h.good.JN hh;obtain⟨g',cap,cur,c1,c2,o1,o2,rfl,e2,e3,e4,e5,e6,e7,e8,e9,e10,e11⟩:=h.open hh;obtain rfl:g'=g:=an JO;obtain⟨nv,iv,xv,yv,bv,ev,av,gv,oa,ac,f1,f2,f3,f4,f5,f6,f7,f8,f9,f10,f11⟩:=e7;obtain⟨qs,p1,p2⟩:=f7;obtain⟨va,vc,hva⟩:=lK p1;subst f1 f11 e5;obtain⟨Uv,Uw,Ve,Wv,Ww,sev,Wx,Wy,s1,s2,s3,s4,s5,s6,s7,s8,s9⟩:=(nD _ _ _ _).1 hst;obtain⟨ia,il,ic,rfl⟩:=s3.shape;obtain⟨xa,xl,xc,rfl⟩:=s4.shape;obtain⟨ya,yl,yc,rfl⟩:=s5.shape;obtain⟨ba,bl,bc,rfl⟩:=s6.shape;obtain⟨ea,el,ec,rfl⟩:=s7.shape;obtain⟨aa,al,XV,rfl⟩:=s8.shape;obtain⟨ga,gl,gc,rfl⟩:=s9.shape;subst s1;have hown:=h.own;obtain⟨q1,q2,q3,q4,q5⟩:=mG (X:=X) (R:=c.R) (g:=g') (sv:=sv) (os:=o1++(bv.ownBlock.toList++(ev.ownBlock.toList++(av.ownBlock.toList++oa)))) (by rw[hown];rfl) h.nodup;have hBw:c.B<=w.heap.size:=by have:=h.high c.R h.iL;omega
 have V6:ev.ownBlock≠some g':=fun e=>(q2 g' (by simp[e])).2.1 rfl
 have hm:hd.s.els.length<=1000000000:=by unfold vi at hw;omega
 rw[hva]at V6 p1;refine(JL e2 (e8 12 _ (by simp[hie])) (e8 7 _ (by rw[hva];rfl)) p1 hm hBw V6).mono ?_;rintro e w' ⟨rfl,gg,cap',z1,z2,z3,z4,z5⟩;refine⟨rfl,?_⟩;rw[<-hva]at z3 z5;have hself:O=(X++c.R::(g'::(sv.ownBlock.toList++(o1++bv.ownBlock.toList))))++(ev.ownBlock.toList++(av.ownBlock.toList++oa)):=by rw[hown];simp[bw]
 have xO:ev.ownBlock=some gg\/gg∉O:=z3.imp id fun hl hm=>by have:=(h.high gg hm).2;omega
 obtain⟨n1,n2⟩:=qM hself h.nodup xO
 have sM:gR O w w':=z5.more fun k hk _=>by
  rw[hown]
  rcases aI.1 hk with rfl|hk
  ·simp[bw]
  ·simp only[bT]at hk;simp[hk]
 have hfr:∀b,b∈X++c.R::(g'::(sv.ownBlock.toList++(o1++(bv.ownBlock.toList++((some gg).toList++(av.ownBlock.toList++oa))))))->b∈O\/(w.heap.size<=b/\b<w'.heap.size):=fun b hb=>by
  rcases n2 b (by simpa using hb)with hb|rfl
  ·exact .inl hb
  ·rcases xO with h1|h1
   ·left;rw[hself,h1];simp
   ·exact .inr ⟨z3.resolve_left (fun e=>h1 (by rw[hself,e];simp)),(z2.lt b rfl).2⟩
 have hon:On (ji O) (ji (X++c.R::(g'::(sv.ownBlock.toList++(o1++(bv.ownBlock.toList++((some gg).toList++(av.ownBlock.toList++oa)))))))) w w':=fun b hb hlb=>⟨fun hm=>(hfr b hm).elim hb (fun h=>by omega),sM.block b hlb hb⟩
 have lL:∀k,k∈o1++(bv.ownBlock.toList++(av.ownBlock.toList++oa))->k<w.heap.size->w'.heap[k]? =w.heap[k]? :=fun k hk hlk=>z5.block k hlk (fun hm=>by
  rcases aI.1 hm with rfl|hm
  ·exact(q2 k (by simp only[aN]at hk ⊢;rcases hk with h|h|h|h <;> simp[h])).2.1 rfl
  ·simp only[bT]at hm;have hnn:=h.nodup;rw[hself,aR]at hnn
   rcases aN.1 hk with hk|hk
   ·exact hnn.2.2 k (by simp[hk]) k (by simp[hm]) rfl
   ·rcases aN.1 hk with hk|hk
    ·exact hnn.2.2 k (by simp only[aN,aI]at hk ⊢;simp[hk]) k (by simp[hm]) rfl
    ·have h2:=hnn.2.1;rw[aR]at h2
     exact h2.2.2 k (by simp[hm]) k hk rfl)
 have MJ:∀k,sv.ownBlock=some k->k<w.heap.size->w'.heap[k]? =w.heap[k]? :=fun k hk hlk=>z5.block k hlk (fun hm=>by
  rcases aI.1 hm with rfl|hm
  ·exact q3 hk
  ·simp only[bT]at hm
   exact(q2 k (by simp[hm])).2.2 hk)
 have hR:w'.heap[c.R]? =w.heap[c.R]? :=z5.block c.R (h.high c.R h.iL).2 (fun hm=>by
  rcases aI.1 hm with e|hm
  ·exact q1 e.symm
  ·simp only[bT]at hm
   exact(q2 c.R (by simp[hm])).1 rfl)
 have hrow2:=oL e9 e2 z1;rw[set_tail e3]at hrow2
 have V7:∀b,b∈X->w'.heap[b]? =w.heap[b]? :=fun b hb=>z5.block b (h.high b (h.kc hb)).2 (fun hm=>by
  have hnn:=h.nodup;rw[hown,aR]at hnn;refine hnn.2.2 b hb b ?_ rfl
  rcases aI.1 hm with rfl|hm
  ·simp[bw]
  ·simp only[bT]at hm
   simp[hm])
 have hadd:jc hd s={hd with s:={hd.s with els:=hd.s.els++[s]}}:=by unfold jc;rw[if_pos hie]
 rw[hadd]at hgood ⊢;refine⟨_,_,TN (h.shut e6 sM (hR.trans h.rb.row) h.rb.here h.rest h.fl rfl hrow2 (by simp) (MO:=(bv.ownBlock.toList++((some gg).toList++(av.ownBlock.toList++oa)))) ?_ (fun k hk=>lL k (by simp[hk])) (iy h.st MJ) rfl (by simpa[bw]using n1) hfr hgood) V7⟩;exact⟨nv,iv,xv,yv,bv,_,av,gv,oa,ac,rfl,f2,f3.on hon,f4.on hon,f5.on hon,f6.on hon (fun k e=>lL k (by simp[e])),⟨_,by rw[ao];exact z2,rh _ _ _ _ _ _ (oH.on hon _ _ p2) (by simp only[oH];exact⟨_,[],by simp,rfl,xp.on hon _ _ hst,rfl⟩)⟩,iy f8 (fun k e=>lL k (by simp[e])),xL.on hon _ _ _ f9 (fun k e=>lL k (by simp[e])),f10.on hon,rfl⟩
theorem TP(h:oh c X r at_ hv sv fa fc os O w)(hh:r.hs=hd::l)(hie:hd.gX=false)(hk6:hd.s.kind≠6){s:St}{cl:List Value}(hst:xp w (ji O) s cl)(JO:hv.ownBlock=some g)(hgood:Good c.toks.length {r with hs:=jc hd s::l}):Calls ah 151 #[.pointer (some ⟨g,l.length*14,none⟩),.agg cl.toArray] w (HAdd c X {r with hs:=jc hd s::l} at_ hv sv fa fc O w):=by
 have hl:=h.env.tks.hl;have hw:=h.good.JN hh;obtain⟨g',cap,cur,c1,c2,o1,o2,rfl,e2,e3,e4,e5,e6,e7,e8,e9,e10,e11⟩:=h.open hh;obtain rfl:g'=g:=an JO;obtain⟨nv,iv,xv,yv,bv,ev,av,gv,oa,ac,f1,f2,f3,f4,f5,f6,f7,f8,f9,f10,f11⟩:=e7;obtain⟨qs,p1,p2⟩:=f6;obtain⟨va,vc,hva⟩:=lK p1;subst f1 f11 e5;obtain⟨Uv,Uw,Ve,Wv,Ww,sev,Wx,Wy,s1,s2,s3,s4,s5,s6,s7,s8,s9⟩:=(nD _ _ _ _).1 hst;obtain⟨ia,il,ic,rfl⟩:=s3.shape;obtain⟨xa,xl,xc,rfl⟩:=s4.shape;obtain⟨ya,yl,yc,rfl⟩:=s5.shape;obtain⟨ba,bl,bc,rfl⟩:=s6.shape;obtain⟨ea,el,ec,rfl⟩:=s7.shape;obtain⟨aa,al,XV,rfl⟩:=s8.shape;obtain⟨ga,gl,gc,rfl⟩:=s9.shape;subst s1;have hown:=h.own;obtain⟨q1,q2,q3,q4,q5⟩:=mG (X:=X) (R:=c.R) (g:=g') (sv:=sv) (os:=o1++(bv.ownBlock.toList++(ev.ownBlock.toList++(av.ownBlock.toList++oa)))) (by rw[hown];rfl) h.nodup;have hBw:c.B<=w.heap.size:=by have:=h.high c.R h.iL;omega
 have V6:bv.ownBlock≠some g':=fun e=>(q2 g' (by simp[e])).2.1 rfl
 have hm:hd.s.body.length<=1000000000:=by unfold vi at hw;omega
 rw[hva]at V6 p1;refine(JM e2 (e8 12 _ (by simp[hie])) (e8 0 _ (by simp)) hk6 (e8 6 _ (by rw[hva];rfl)) p1 hm hBw V6).mono ?_;rintro e w' ⟨rfl,gg,cap',z1,z2,z3,z4,z5⟩;refine⟨rfl,?_⟩;rw[<-hva]at z3 z5;have hself:O=(X++c.R::(g'::(sv.ownBlock.toList++(o1++[]))))++(bv.ownBlock.toList++(ev.ownBlock.toList++(av.ownBlock.toList++oa))):=by rw[hown];simp[bw]
 have xO:bv.ownBlock=some gg\/gg∉O:=z3.imp id fun hl hm=>by have:=(h.high gg hm).2;omega
 obtain⟨n1,n2⟩:=qM hself h.nodup xO
 have sM:gR O w w':=z5.more fun k hk _=>by
  rw[hown]
  rcases aI.1 hk with rfl|hk
  ·simp[bw]
  ·simp only[bT]at hk;simp[hk]
 have hfr:∀b,b∈X++c.R::(g'::(sv.ownBlock.toList++(o1++((some gg).toList++(ev.ownBlock.toList++(av.ownBlock.toList++oa))))))->b∈O\/(w.heap.size<=b/\b<w'.heap.size):=fun b hb=>by
  rcases n2 b (by simpa using hb)with hb|rfl
  ·exact .inl hb
  ·rcases xO with h1|h1
   ·left;rw[hself,h1];simp
   ·exact .inr ⟨z3.resolve_left (fun e=>h1 (by rw[hself,e];simp)),(z2.lt b rfl).2⟩
 have hon:On (ji O) (ji (X++c.R::(g'::(sv.ownBlock.toList++(o1++((some gg).toList++(ev.ownBlock.toList++(av.ownBlock.toList++oa)))))))) w w':=fun b hb hlb=>⟨fun hm=>(hfr b hm).elim hb (fun h=>by omega),sM.block b hlb hb⟩
 have lL:∀k,k∈o1++([]++(ev.ownBlock.toList++(av.ownBlock.toList++oa)))->k<w.heap.size->w'.heap[k]? =w.heap[k]? :=fun k hk hlk=>z5.block k hlk (fun hm=>by
  rcases aI.1 hm with rfl|hm
  ·exact(q2 k (by simp only[aN]at hk ⊢;rcases hk with h|h|h|h|h <;> simp_all)).2.1 rfl
  ·simp only[bT]at hm;have hnn:=h.nodup;rw[hself,aR]at hnn
   rcases aN.1 hk with hk|hk
   ·exact hnn.2.2 k (by simp[hk]) k (by simp[hm]) rfl
   ·rcases aN.1 hk with hk|hk
    ·exact hnn.2.2 k (by simp only[aN,aI]at hk ⊢;simp at hk) k (by simp[hm]) rfl
    ·have h2:=hnn.2.1;rw[aR]at h2
     exact h2.2.2 k (by simp[hm]) k hk rfl)
 have MJ:∀k,sv.ownBlock=some k->k<w.heap.size->w'.heap[k]? =w.heap[k]? :=fun k hk hlk=>z5.block k hlk (fun hm=>by
  rcases aI.1 hm with rfl|hm
  ·exact q3 hk
  ·simp only[bT]at hm
   exact(q2 k (by simp[hm])).2.2 hk)
 have hR:w'.heap[c.R]? =w.heap[c.R]? :=z5.block c.R (h.high c.R h.iL).2 (fun hm=>by
  rcases aI.1 hm with e|hm
  ·exact q1 e.symm
  ·simp only[bT]at hm
   exact(q2 c.R (by simp[hm])).1 rfl)
 have hrow2:=oL e9 e2 z1;rw[set_tail e3]at hrow2
 have V7:∀b,b∈X->w'.heap[b]? =w.heap[b]? :=fun b hb=>z5.block b (h.high b (h.kc hb)).2 (fun hm=>by
  have hnn:=h.nodup;rw[hown,aR]at hnn;refine hnn.2.2 b hb b ?_ rfl
  rcases aI.1 hm with rfl|hm
  ·simp[bw]
  ·simp only[bT]at hm
   simp[hm])
 have hadd:jc hd s={hd with s:={hd.s with body:=hd.s.body++[s]}}:=by unfold jc;rw[if_neg (by rw[hie];decide),if_neg hk6]
 rw[hadd]at hgood ⊢;refine⟨_,_,TN (h.shut e6 sM (hR.trans h.rb.row) h.rb.here h.rest h.fl rfl hrow2 (by simp) (MO:=((some gg).toList++(ev.ownBlock.toList++(av.ownBlock.toList++oa)))) ?_ (fun k hk=>lL k (by simp[hk])) (iy h.st MJ) rfl (by simpa[bw]using n1) hfr hgood) V7⟩;exact⟨nv,iv,xv,yv,_,ev,av,gv,oa,ac,rfl,f2,f3.on hon,f4.on hon,f5.on hon,⟨_,by rw[ao];exact z2,rh _ _ _ _ _ _ (oH.on hon _ _ p2) (by simp only[oH];exact⟨_,[],by simp,rfl,xp.on hon _ _ hst,rfl⟩)⟩,f7.on hon (fun k e=>lL k (by simp[e])),iy f8 (fun k e=>lL k (by simp[e])),xL.on hon _ _ _ f9 (fun k e=>lL k (by simp[e])),f10.on hon,rfl⟩
end Go.Proofs.YtekanffohkeoeaaGreatDoor
