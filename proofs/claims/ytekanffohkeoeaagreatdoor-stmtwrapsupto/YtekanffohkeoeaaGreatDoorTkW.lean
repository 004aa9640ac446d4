import Derived.Test.YtekanffohkeoeaaGreatDoorRwW
import Derived.Test.YtekanffohkeoeaaGreatDoorLex
import Derived.Test.YtekanffohkeoeaaGreatDoorEmW
namespace Go.Proofs.YtekanffohkeoeaaGreatDoor
open Go.RowKit Go.Lib
open List renaming mem_append → aN, mem_singleton → aL, mem_cons_self → aT, mem_cons_of_mem → aK, mem_of_mem_take → bW, mem_of_mem_drop → cL, eq_nil_of_length_eq_zero → cu, mem_cons → aI, nil_append → bQ, length → fp, length_append → ao, drop_eq_getElem_cons → eW, length_map → aQ, mem_map_of_mem → fL, length_drop → bz, map_append → bB, length_take → bU, append_assoc → aO, append_nil → bm, map_cons → bL, length_singleton → bY, length_cons → aG, length_nil → eY
open Go renaming maxLen → ff, heap_alloc_new → aE, step_append_lies → bK, wpList_append_own_wide → dC, bodyPost_end → aW, results → aV, bodyPost_ret → aU
open Go.World renaming size_alloc → aB, ownsRow_nil → bS, size_setCell → bO, news_of_block → bf, setCell → cW
open Go.Lib renaming cell_of_heap → af, frozen_of_heap → aC, alloc_old → bj
open Go.Proofs.Tryz renaming prog → ah, underlying22 → cJ, func182 → eM, ntmps182 → eH, results182 → ew, results144 → ey
open And renaming intro → fw
open Nat renaming le_refl → aj, le_trans → aP, lt_of_lt_of_le → aJ, lt_or_ge → bZ
open Go.RowKit.Below renaming refl → aw, heap_setCell → aM
open Go.Value renaming oneCell' → aY, slice → aZ, ownBlock → bw
open Option.some renaming inj → an
open Except renaming ok → fR
open Bool renaming false_eq_true → eX, and_eq_true → aH, eq_iff_iff → bh
open Go.RowKit renaming ownsRow_setCell_below → bC
open Go.Region renaming wanted → cM
set_option maxRecDepth 100000
set_option maxHeartbeats 3200000
def H6(w:World)(x:List Pv)(e:Ending)(w':World):Prop:=
 (∃v L ex,e=.returned (.tuple #[v,.int .i64 0])/\ku w' v L/\well ex/\flat ex=x.map kO/\dep ex<=24/\L.map kU=iC ex false/\(∀t∈L,t.at_=0)/\Below w.heap.size w w')
variable {l:List Tv}
theorem tX{op:Bool}(h:∀t∈l,t.at_=0):∀t∈jC op l,t.at_=0:=by
 unfold jC;intro t ht
 split at ht
 ·rcases aN.1 ht with ht|ht
  ·rw[aL.1 ht];rfl
  ·rcases aN.1 ht with ht|ht
   ·exact h t ht
   ·rw[aL.1 ht];rfl
 ·exact h t ht
theorem LV(n t:Int):(mU n t).at_=0:=by
 unfold mU
 split
 ·rfl
 ·split <;> rfl
theorem Jj(x:Pv)(vs:List Pc)(h:∀c∈vs,∀t∈c.1,t.at_=0):∀t∈mV x vs,t.at_=0:=by
 unfold mV;intro t ht
 split at ht
 ·rw[aL.1 ht];exact LV _ _
 ·split at ht
  ·rw[aL.1 ht];rfl
  ·split at ht
   ·simp at ht
    rcases ht with rfl|rfl|rfl <;> rfl
   ·split at ht
    ·next v=>
     have hv:=h v aT
     split at ht
     ·simp at ht
      rcases ht with rfl|rfl|ht|rfl
      ·rfl
      ·rfl
      ·exact hv t ht
      ·rfl
     ·split at ht
      ·simp at ht
       rcases ht with rfl|rfl|ht|rfl
       ·rfl
       ·rfl
       ·exact hv t ht
       ·rfl
      ·rcases aN.1 ht with ht|ht
       ·rw[aL.1 ht];rfl
       ·exact tX hv t ht
    ·next v v'=>
     rcases aN.1 ht with ht|ht
     ·exact tX (h v aT) t ht
     ·rcases aN.1 ht with ht|ht
      ·rw[aL.1 ht];rfl
      ·exact tX (h v' (aK _ aT)) t ht
    ·cases ht
theorem D3:∀(x:List Pv)(vs r:List Pc),tW x vs=some r->(∀c∈vs,∀t∈c.1,t.at_=0)->∀c∈r,∀t∈c.1,t.at_=0
 |[],vs,r,h,hv=>by
  injection h with h
  rw[<-h];exact hv
 |x::l,vs,r,h,hv=>by
  have h:(stepS x vs).bind (tW l)=some r:=h;unfold stepS at h
  split at h
  ·refine D3 l _ r h fun c hc=>?_
   rcases aN.1 hc with hc|hc
   ·exact hv c (bW hc)
   ·rw[aL.1 hc];exact Jj x _ fun c hc=>hv c (cL hc)
  ·cases h
variable {B:Nat}{w:World}
theorem yL{pv:Value}{ps:List Pq}(h:nf w B pv ps):(pv=.slice none 0 0/\ps=[])\/∃g cap,pv=.slice (some ⟨g,0,none⟩) ps.length cap/\ps.length<=cap/\cap<=ff/\B<=g/\g<w.heap.size:=by
 rcases h.1.2 with⟨hv,h0⟩|⟨g',cap',cur,hv,hb,hg,hn,hm,hc,ht⟩
 ·exact .inl ⟨hv,cu h0⟩
 ·exact .inr ⟨g',cap',hv,hn,hm,hb,(Array.getElem?_eq_some_iff.1 hg).1⟩
variable {W:World}{w5:World}
theorem tY{z0 z1:Value}(hb:Below (W.alloc (.cells #[z0,z1] 200)).heap.size (W.alloc (.cells #[z0,z1] 200)) w5):w5.cell? ⟨W.heap.size,0,none⟩=some z0/\w5.cell? ⟨W.heap.size,1,none⟩=some z1/\∀j,w5.frozen? ⟨W.heap.size,j,none⟩=false:=by
 have hrow:=(hb.block W.heap.size (by rw[aB];omega)).trans (aE W (.cells #[z0,z1] 200));exact⟨af hrow 0,af hrow 1,fun j=>aC hrow j⟩
theorem sC{z0 z1:Value}(hb:Below (W.alloc (.cells #[z0,z1] 200)).drew.heap.size (W.alloc (.cells #[z0,z1] 200)).drew w5):w5.cell? ⟨W.heap.size,0,none⟩=some z0/\w5.cell? ⟨W.heap.size,1,none⟩=some z1/\∀j,w5.frozen? ⟨W.heap.size,j,none⟩=false:=by
 have hrow:w5.heap[W.heap.size]? =_:=(hb.block W.heap.size (by show _<(W.alloc _).heap.size;rw[aB];omega)).trans (aE W (.cells #[z0,z1] 200));exact⟨af hrow 0,af hrow 1,fun j=>aC hrow j⟩
variable {g:Nat}
theorem Held.set2(h:Held w W)(hp:w.heap.size<=g)(u v:Value):Held w ((W.setCell ⟨g,0,none⟩ u).setCell ⟨g,1,none⟩ v):=(h.setCell (p:=⟨g,0,none⟩) hp u).setCell (p:=⟨g,1,none⟩) hp v
theorem Ga(h:Below W.drew.heap.size W.drew w5):Below W.heap.size W w5:=⟨h.os,h.tape,h.output,h.size,h.block⟩
theorem VJ:(ah.info? 200).map (fun i=>(i.zero,i.size,i.bytes))=some (some (.agg #[.slice none 0 0,.bool false]),2,32):=by kernel_rfl
theorem D4(W:World)(u v:Value):∀j x,([u,v]:List Value)[j]? =some x->(W.alloc (.cells #[u,v] 200)).cell? ((⟨W.heap.size,0,none⟩:Addr).add j)=some x:=fun j x hj=>by
 have hh:=af (aE W (.cells #[u,v] 200));rw[addr_add]
 match j,hj with
 |0,hj=>cases hj;exact hh 0
 |1,hj=>cases hj;exact hh 1
def sumP:List Pc->Nat
 |[]=>0
 |q::l=>q.1.length+sumP l
theorem LW{l:List Pc}{q:Pc}(h:q∈l):q.1.length<=sumP l:=by
 induction l with
 |nil=>cases h
 |cons a l ih=>
  rcases aI.1 h with rfl|h
  ·show _<=_+_;omega
  ·have:=ih h;show _<=_+_;omega
theorem wT(a b:List Pc):sumP (a++b)=sumP a+sumP b:=by
 induction a with
 |nil=>rw[bQ];show _=0+_;omega
 |cons q a ih=>show _+sumP (a++b)=_+sumP a+_;rw[ih];omega
theorem tZ(op:Bool)(l:List Tv):(jC op l).length<=l.length+2:=by
 unfold jC
 split
 ·simp
 ·omega
theorem AZ(x:Pv)(vs:List Pc):(mV x vs).length<=sumP vs+5:=by
 unfold mV
 split
 ·simp
 ·split
  ·simp
  ·split
   ·simp
   ·match vs with
    |[]=>exact Nat.zero_le _
    |[v]=>
     have h1:=tZ v.2 v.1;show fp (if x.k=3 then _ else _)<=v.1.length+0+5
     split
     ·simp
     ·split
      ·simp
      ·rw[ao];simp;omega
    |[v,v']=>
     have h1:=tZ v.2 v.1;have h2:=tZ v'.2 v'.1;show(jC v.2 v.1++([DX x.n]++jC v'.2 v'.1)).length<=v.1.length+(v'.1.length+0)+5;rw[ao,ao];simp;omega
    |_::_::_::_=>exact Nat.zero_le _
theorem LX(y:Pv)(vs:List Pc)(f:Nat)(b:Bool):sumP (vs.take f++[(mV y (vs.drop f),b)])<=sumP vs+5:=by
 have h1:=AZ y (vs.drop f);have h2:sumP vs=sumP (vs.take f)+sumP (vs.drop f):=by rw[<-wT,List.take_append_drop]
 rw[wT];show _+((mV y (vs.drop f)).length+0)<=_;omega
theorem D5{x:List Pv}{k:Nat}{y:Pv}{vs:List Pc}{r:List Pc}(hy:x[k]? =some y)(h:tW (x.drop k) vs=some r):takes (kO y)<=vs.length/\tW (x.drop (k+1)) (vs.take (vs.length-takes (kO y))++[(mV y (vs.drop (vs.length-takes (kO y))),decide (y.k=5))])=some r:=by
 obtain⟨hi,he⟩:=List.getElem?_eq_some_iff.1 hy;rw[eW hi,he]at h
 by_cases ht:takes (kO y)<=vs.length
 ·refine⟨ht,?_⟩;rw[<-h];exact(sW (by unfold stepS;rw[if_pos ht])).symm
 ·have:stepS y vs=none:=by unfold stepS;rw[if_neg ht]
  have h2:tW (y::x.drop (k+1)) vs=none:=by show(stepS y vs).bind _=none;rw[this];rfl
  rw[h2]at h;cases h
theorem Jk(v:Value)(x:List Pv)(w:World)(hL:tQ w v x)(hlen:x.length<=4398046510976)(hg:kZ w)(hx:kL (x.map kO)=0):Calls ah 132 #[v] w (H6 w x):=by
 have c0:=check_any v x w hL hlen hg;rw[hx]at c0;obtain⟨ex,c,hw1,hw2,hw3,hw4,hw5⟩:=Jh hx;have HW:=qet (fw hw1 (fw hw2 (fw hw3 hw4)));have HR:=qet hw5;have HZ:=qet (D3 x [] [c] hw5 (fun c hc=>by cases hc) c aT);obtain⟨hx5,hmay⟩:=DW hx;rw[aQ]at hx5;have HM:=qet hmay;have HG:=qet hg;obtain⟨a,b,off,cap,rfl,hA,hI⟩:=hL;have HA:=qet hA;have HI:=qet hI;obtain⟨N,hN⟩:∃N,N=x.length:=⟨_,rfl⟩
 have HN:=qet hN;rw[<-hN]at hx5 c0 ⊢;have n5:(N:Int)<=500:=by omega
 clear hA hI hmay hN hlen hg hw1 hw2 hw3 hw4 hw5 hx;go_enter Tryz.func132,Tryz.ntmps132;go_wp2_with fail;refine c0.mono ?_;rintro e w0 ⟨rfl,hb0⟩;have B0:=qet hb0;clear c0 hb0;go_wp2_with fail
 go_loopw [5,17] (fun nv i wr=>∃(k:Nat)(DS:Value)(ps:List Pq),k<=N/\i=.int .i64 (k:Int)/\DS=nv/\qes (nf wr w.heap.size DS ps/\tW (x.drop k) (ps.map (·.2))=some [c]/\sumP (ps.map (·.2))<=5*k/\ps.length<=k/\Below w.heap.size w wr)) (fun _ i _=>N-(intOf i).toNat)
 case atStart=>exact⟨0,.slice none 0 0,[],by omega,rfl,rfl,⟨bS _ _ _ _,fun q hq=>by cases hq⟩,HR.o,aj _,aj _,B0.o⟩
 case round=>
  clear B0;obtain⟨k,nv,ps,hk,rfl,rfl,hh⟩:=hrel
  by_cases hlt:k<N
  ·have j1:(k:Int)<(N:Int):=by omega
   have j0:(0:Int)<=(k:Int):=by omega
   obtain⟨y,hy⟩:∃y,x[k]? =some y:=⟨_,List.getElem?_eq_getElem (by rw[<-HN.o];exact hlt)⟩
   have HB:=qet hh.o.2.2.2.2;obtain⟨hbw,rfl⟩:=HA.o (by rw[<-HN.o];omega);obtain⟨q0,q1,q2,q3,q4⟩:=HI.o k y hy;have d0:=(HB.o.cell (p:=⟨b,off+k*5,none⟩) hbw).trans q0;have d1:=(HB.o.cell (p:=⟨b,off+k*5+1,none⟩) hbw).trans q1;have d2:=(HB.o.cell (p:=⟨b,off+k*5+2,none⟩) hbw).trans q2;have d3:=(HB.o.cell (p:=⟨b,off+k*5+3,none⟩) hbw).trans q3;have d4:=(HB.o.cell (p:=⟨b,off+k*5+4,none⟩) hbw).trans q4;have HY:=qet hy;have co:=fun W=>yA y W
   clear q0 q1 q2 q3 q4 hy
   rcases yL hh.o.1 with⟨rfl,rfl⟩|⟨g,cp,rfl,hcp,hcm,hBg,hgl⟩
   ·obtain⟨hst,hrun⟩:=D5 HY.o hh.o.2.1;have ht0:takes (kO y)=0:=Nat.le_zero.1 hst;rw[ht0]at hrun co;have LY:=qet hrun;have HT:=qet ht0;clear hst hrun ht0;go_wp2_with fail;refine(co _).mono ?_;rintro e w2 ⟨rfl,hb2⟩;have B2:=qet hb2;have hblk:=fun j=>af ((hb2.block wr.heap.size (by rw[aB];omega)).trans (aE wr _)) j
    have HK:qes (∀W,Held w2 W->(W.cell? ⟨wr.heap.size,0,none⟩=some (.int .i64 y.k)/\W.cell? ⟨wr.heap.size,1,none⟩=some (.int .i64 y.n)/\W.cell? ⟨wr.heap.size,2,none⟩=some (.int .i64 y.t)/\W.cell? ⟨wr.heap.size,3,none⟩=some (.string y.s)/\W.cell? ⟨wr.heap.size,4,none⟩=some (.string y.f))/\Held w2 W):=fun W h=>by
     have hl2:wr.heap.size<w2.heap.size:=by have:=hb2.size;rw[aB]at this;omega
     refine⟨⟨?_,?_,?_,?_,?_⟩,h⟩
     ·exact(h.cell (p:=⟨wr.heap.size,0,none⟩) hl2).trans (hblk 0)
     ·exact(h.cell (p:=⟨wr.heap.size,1,none⟩) hl2).trans (hblk 1)
     ·exact(h.cell (p:=⟨wr.heap.size,2,none⟩) hl2).trans (hblk 2)
     ·exact(h.cell (p:=⟨wr.heap.size,3,none⟩) hl2).trans (hblk 3)
     ·exact(h.cell (p:=⟨wr.heap.size,4,none⟩) hl2).trans (hblk 4)
    have Ta:=qet ((hh.o.1.below ((aw _ _).alloc (aj _) _)).below hb2);obtain⟨L,uI⟩:∃L,L=mV y []:=⟨_,rfl⟩
    have tu:=qet uI;have HS:=qet hh.o.2.2.1
    have RI:qes (∀W,Held w2 W->Calls ah 169 #[.agg #[.int .i64 y.k,.int .i64 y.n,.int .i64 y.t,.string y.s,.string y.f],.slice none 0 0] W (jt W L)):=fun W h=>by
     rw[tu.o];exact DY y (HM.o _ (fL (List.mem_of_getElem? HY.o))) [] HT.o.symm _ W (fun h0=>absurd h0 (Nat.lt_irrefl 0)) (fun v hv=>by cases hv) (((HG.o.on HB.o).on ((aw _ _).alloc (aj _) _)).on hb2 |>.on h)
    have h0:Held w2 w2:=aw _ _;clear co hb2 hblk hh uI
    go_upto_region 9 with fail
    go_cut [9,17]from 17 to 41 (fun p i wx=>i=.int .i64 (k:Int)/\∃g9,p=.pointer (some ⟨g9,0,none⟩)/\qes (Made w2 g9 L (y.k==5) wx))
    case first=>
     go_region_held3 (fun W=>(W.cell? ⟨wr.heap.size,0,none⟩=some (.int .i64 y.k)/\W.cell? ⟨wr.heap.size,1,none⟩=some (.int .i64 y.n)/\W.cell? ⟨wr.heap.size,2,none⟩=some (.int .i64 y.t)/\W.cell? ⟨wr.heap.size,3,none⟩=some (.string y.s)/\W.cell? ⟨wr.heap.size,4,none⟩=some (.string y.f))/\Held w2 W) (first|assumption|(refine HK.o _ ?_;(first|(focus(repeat with_reducible (first|assumption|(apply gS;assumption)|refine Held.alloc ?_ _|refine Held.drew ?_|(apply Held.call';focus assumption)));done)|((with_reducible refine Held.set2 ?_ ?_ _ _);(focus(focus(repeat with_reducible (first|assumption|(apply gS;assumption)|refine Held.alloc ?_ _|refine Held.drew ?_|(apply Held.call';focus assumption)));done));(exact aj _))))) (first|(go_at_call 169;(with_reducible refine(RI.o _ ?_).mono ?_);(focus(focus(repeat with_reducible (first|assumption|(apply gS;assumption)|refine Held.alloc ?_ _|refine Held.drew ?_|(apply Held.call';focus assumption)));done));rintro e w5 ⟨v5,rfl,BW,hb5⟩;obtain⟨a5,cap5,rfl,_⟩:=ll BW;first|(have mm:=tY hb5;obtain⟨m0,m1,m2⟩:=mm)|(have mm:=sC hb5;obtain⟨m0,m1,m2⟩:=mm)|skip))
     all_goals
      go_wp2_with fail
      go_meet
      refine⟨rfl,_,rfl,?_⟩
      first
      |exact Made.last rfl (by(focus(repeat with_reducible (first|assumption|(apply gS;assumption)|refine Held.alloc ?_ _|refine Held.drew ?_|(apply Held.call';focus assumption)));done)) hb5 BW
      |exact Made.first rfl (by(focus(repeat with_reducible (first|assumption|(apply gS;assumption)|refine Held.alloc ?_ _|refine Held.drew ?_|(apply Held.call';focus assumption)));done)) (Ga hb5) BW
      |exact Made.first rfl (by(focus(repeat with_reducible (first|assumption|(apply gS;assumption)|refine Held.alloc ?_ _|refine Held.drew ?_|(apply Held.call';focus assumption)));done)) hb5 BW
    case rest=>
    obtain⟨rfl,g9,rfl,hM⟩:=hcut;clear RI HK h0;obtain⟨v9,base,m0,m1,m2,m3,m4,m5⟩:=hM.o;have OX:qes (tw wc none v9 L):=tw.oF m2 (fun k hk=>by cases hk);obtain⟨a9,sg,rfl,_⟩:=ll m2;have U3:=qet (Ta.o.below m5);have OC:qes (wc.ownsRow w.heap.size 200 2 (.slice none 0 0) 0 []):=bS _ _ _ _;have B9:=qet m5;obtain⟨i0,hi,hz0,hz1,hz2⟩:=info_parts VJ;have hwz:w.heap.size<=wc.heap.size:=by have h1:=HB.o.size;have h2:=B2.o.size;rw[aB]at h2;have h3:=m5.size;omega
    obtain⟨bo,PD⟩:∃bo,bo=(y.k==5):=⟨_,rfl⟩
    have VK:=qet PD;rw[<-PD]at m1;generalize L.length=nL at *;clear m2 m3 m4 m5 hM PD d0 d1 d2 d3 d4;go_wp2
    go_region_law ((refine bK _ (by rfl) _ _ _ (by rfl) w.heap.size 200 i0 _ 2 32 Tryz.underlying196 hi hz0 hz1 hz2 rfl (by omega) (.slice none 0 0) 0 _ (by rfl) (by exact OC.o.alloc _) ⟨wc.heap.size,0,none⟩ 1 1 [.slice a9 nL sg,.bool bo] (by rfl) (by rfl) (D4 wc _ _) (by simp[aY]) (by omega) (by unfold ff;omega) (by omega) (by simp;omega) (wc.heap.size+1) (by simp) ?_;intro gg cap' w7 D6 yM LZ Tb;have O7:=qet D6;have G7:=qet yM;have A7:=qet LZ;clear D6 yM LZ Tb))
    all_goals
     have g7:(wc.alloc (.cells #[.slice a9 nL sg,.bool bo] 200)).grownBy w7 none:=⟨G7.o.os,G7.o.tape,G7.o.output,G7.o.size,G7.o.block⟩
     have R7:qes (nf w7 w.heap.size (.slice (some ⟨gg,0,none⟩) (0+1) cap') ([(.slice a9 nL sg,(L,bo))])):=by
      refine nf.push (f:=0) (U3.o.below ((aw _ _).alloc (aj _) _)) (aj _) (OX.o.below ((aw _ _).alloc (aj _) _)) g7 ?_ O7.o
      rcases A7.o with h|h
      ·cases h
      ·exact .inr (by rw[aB];exact h)
     have B7:qes (Below w.heap.size w w7):=by
      have hb:=((((HB.o.alloc HB.o.size _).trans (B2.o.mono (by rw[aB];have:=HB.o.size;omega))).trans (B9.o.mono (by have h1:=HB.o.size;have h2:=B2.o.size;rw[aB]at h2;omega))).alloc hwz (.cells #[.slice a9 nL sg,.bool bo] 200))
      exact hb.grown g7 (by rw[aB];omega) (fun r hr=>by cases hr)
     have RL:qes (tW (x.drop (k+1)) ([(aZ a9 nL sg,(L,bo))].map (·.2))=some [c]/\sumP ([(aZ a9 nL sg,(L,bo))].map (·.2))<=5*(k+1)/\([(aZ a9 nL sg,(L,bo))]:List Pq).length<=k+1):=by
      have e0:[(aZ a9 nL sg,(L,bo))].map (·.2)=[(mV y [],decide (y.k=5))]:=by
       rw[tu.o,VK.o];rfl
      refine⟨by rw[e0];exact LY.o,?_,by show 1<=_;omega⟩;rw[e0];have h:=AZ y [];show(mV y []).length+0<=_;have h':sumP []=0:=rfl;omega
     clear g7 OC OX O7 G7 A7 U3 Ta HS B9 hi hz0 hz1 hz2 LY tu VK;go_wp2
     go_roundw
     case rel=>exact⟨k+1,_,_,by omega,by go_num,rfl,R7.o,RL.o.1,RL.o.2.1,RL.o.2.2,B7.o⟩
     case measure=>simp[intOf];omega
   ·obtain⟨hst,hrun⟩:=D5 HY.o hh.o.2.1;rw[aQ]at hst hrun;obtain⟨n,hn⟩:∃n,n=ps.length:=⟨_,rfl⟩
    obtain⟨t,ht⟩:∃t,t=takes (kO y):=⟨_,rfl⟩
    rw[<-hn,<-ht]at hst hrun;rw[<-hn]at hcp ⊢;rw[<-ht]at co;obtain⟨f,hf⟩:∃f,f=n-t:=⟨_,rfl⟩
    rw[<-hf]at hrun;have LY:=qet hrun;have U4:=qet hn;have HT:=qet ht;have HF:=qet hf;have GN:qes (n<=k):=by show n<=k;rw[hn];exact hh.o.2.2.2.1
    have hnk:n<=500:=by have:=GN.o;omega
    have e1:wrap64 ((n:Int)-(t:Int))=(f:Int):=by unfold wrap64;omega
    have e2:(f:Int)<=(n:Int):=by omega
    have e3:(0:Int)<=(f:Int):=by omega
    have e4:(n:Int)<=(cp:Int):=by omega
    have e5:(cp:Int)<=9223372036854775807:=by unfold ff at hcm;omega
    have e6:(n:Int)<=500:=by omega
    have HX:=qet (fw hcp (fw hBg hgl));have HST:=qet hst;clear hn ht hf hrun hcm hcp hBg hgl hst;go_wp2_with fail;refine(co _).mono ?_;rintro e w2 ⟨rfl,hb2⟩;have B2:=qet hb2;have hblk:=fun j=>af ((hb2.block wr.heap.size (by rw[aB];omega)).trans (aE wr _)) j
    have HK:qes (∀W,Held w2 W->(W.cell? ⟨wr.heap.size,0,none⟩=some (.int .i64 y.k)/\W.cell? ⟨wr.heap.size,1,none⟩=some (.int .i64 y.n)/\W.cell? ⟨wr.heap.size,2,none⟩=some (.int .i64 y.t)/\W.cell? ⟨wr.heap.size,3,none⟩=some (.string y.s)/\W.cell? ⟨wr.heap.size,4,none⟩=some (.string y.f))/\Held w2 W):=fun W h=>by
     have hl2:wr.heap.size<w2.heap.size:=by have:=hb2.size;rw[aB]at this;omega
     refine⟨⟨?_,?_,?_,?_,?_⟩,h⟩
     ·exact(h.cell (p:=⟨wr.heap.size,0,none⟩) hl2).trans (hblk 0)
     ·exact(h.cell (p:=⟨wr.heap.size,1,none⟩) hl2).trans (hblk 1)
     ·exact(h.cell (p:=⟨wr.heap.size,2,none⟩) hl2).trans (hblk 2)
     ·exact(h.cell (p:=⟨wr.heap.size,3,none⟩) hl2).trans (hblk 3)
     ·exact(h.cell (p:=⟨wr.heap.size,4,none⟩) hl2).trans (hblk 4)
    have Ta:=qet ((hh.o.1.below ((aw _ _).alloc (aj _) _)).below hb2);rw[<-U4.o]at Ta;obtain⟨L,uI⟩:∃L,L=mV y ((ps.map (·.2)).drop f):=⟨_,rfl⟩
    have tu:=qet uI;have HS:=qet hh.o.2.2.1
    have RI:qes (∀W,Held w2 W->Calls ah 169 #[.agg #[.int .i64 y.k,.int .i64 y.n,.int .i64 y.t,.string y.s,.string y.f],.slice (if cp=f then some ⟨g,0,none⟩else some ⟨g,f*2,none⟩) (n-f) (cp-f)] W (jt W L)):=fun W h=>by
     have hW:=Ta.o.below h;have hN:=U4.o;have hF:=HF.o;have hT:=HT.o;have hX1:=HX.o.1;have hst:=HST.o;rw[tu.o];refine DY y (HM.o _ (fL (List.mem_of_getElem? HY.o))) _ ?_ _ W (fun h0=>?_) (fun v hv=>?_) (((HG.o.on HB.o).on ((aw _ _).alloc (aj _) _)).on hb2 |>.on h)
     ·rw[bz,aQ,<-hN,<-hT];omega
     ·rw[bz,aQ,<-hN]at h0;rw[if_neg (by omega)];have hV:=nf.VI (g:=g) (cap:=cp) (by rw[<-hN];exact hW) f (by omega);rw[<-hN,List.map_drop]at hV;exact hV
     ·have h1:=LW (cL hv);have h2:=HS.o;omega
    have h0:Held w2 w2:=aw _ _;clear co hb2 hblk hh uI
    go_upto_region 9 with fail
    go_cut [8,9,17]from 17 to 41 (fun s8 p i wx=>s8=.int .i64 (f:Int)/\i=.int .i64 (k:Int)/\∃g9,p=.pointer (some ⟨g9,0,none⟩)/\qes (Made w2 g9 L (y.k==5) wx))
    case first=>
     by_cases hcf:cp=f
     ·subst hcf;have Tc:=RI.o;simp only[if_true,Nat.sub_self]at Tc;have YE:=qet Tc;clear Tc RI
      go_region_held3 (fun W=>(W.cell? ⟨wr.heap.size,0,none⟩=some (.int .i64 y.k)/\W.cell? ⟨wr.heap.size,1,none⟩=some (.int .i64 y.n)/\W.cell? ⟨wr.heap.size,2,none⟩=some (.int .i64 y.t)/\W.cell? ⟨wr.heap.size,3,none⟩=some (.string y.s)/\W.cell? ⟨wr.heap.size,4,none⟩=some (.string y.f))/\Held w2 W) (first|assumption|(refine HK.o _ ?_;(first|(focus(repeat with_reducible (first|assumption|(apply gS;assumption)|refine Held.alloc ?_ _|refine Held.drew ?_|(apply Held.call';focus assumption)));done)|((with_reducible refine Held.set2 ?_ ?_ _ _);(focus(focus(repeat with_reducible (first|assumption|(apply gS;assumption)|refine Held.alloc ?_ _|refine Held.drew ?_|(apply Held.call';focus assumption)));done));(exact aj _))))) (first|(go_at_call 169;(with_reducible refine(YE.o _ ?_).mono ?_);(focus(focus(repeat with_reducible (first|assumption|(apply gS;assumption)|refine Held.alloc ?_ _|refine Held.drew ?_|(apply Held.call';focus assumption)));done));rintro e w5 ⟨v5,rfl,BW,hb5⟩;obtain⟨a5,cap5,rfl,_⟩:=ll BW;first|(have mm:=tY hb5;obtain⟨m0,m1,m2⟩:=mm)|(have mm:=sC hb5;obtain⟨m0,m1,m2⟩:=mm)|skip))
      all_goals
       go_wp2_with fail
       go_meet
       refine⟨rfl,rfl,_,rfl,?_⟩
       first
       |exact Made.last rfl (by(focus(repeat with_reducible (first|assumption|(apply gS;assumption)|refine Held.alloc ?_ _|refine Held.drew ?_|(apply Held.call';focus assumption)));done)) hb5 BW
       |exact Made.first rfl (by(focus(repeat with_reducible (first|assumption|(apply gS;assumption)|refine Held.alloc ?_ _|refine Held.drew ?_|(apply Held.call';focus assumption)));done)) (Ga hb5) BW
       |exact Made.first rfl (by(focus(repeat with_reducible (first|assumption|(apply gS;assumption)|refine Held.alloc ?_ _|refine Held.drew ?_|(apply Held.call';focus assumption)));done)) hb5 BW
     ·have Tc:=RI.o;simp only[if_neg hcf]at Tc;have YE:=qet Tc;clear Tc RI
      go_region_held3 (fun W=>(W.cell? ⟨wr.heap.size,0,none⟩=some (.int .i64 y.k)/\W.cell? ⟨wr.heap.size,1,none⟩=some (.int .i64 y.n)/\W.cell? ⟨wr.heap.size,2,none⟩=some (.int .i64 y.t)/\W.cell? ⟨wr.heap.size,3,none⟩=some (.string y.s)/\W.cell? ⟨wr.heap.size,4,none⟩=some (.string y.f))/\Held w2 W) (first|assumption|(refine HK.o _ ?_;(first|(focus(repeat with_reducible (first|assumption|(apply gS;assumption)|refine Held.alloc ?_ _|refine Held.drew ?_|(apply Held.call';focus assumption)));done)|((with_reducible refine Held.set2 ?_ ?_ _ _);(focus(focus(repeat with_reducible (first|assumption|(apply gS;assumption)|refine Held.alloc ?_ _|refine Held.drew ?_|(apply Held.call';focus assumption)));done));(exact aj _))))) (first|(go_at_call 169;(with_reducible refine(YE.o _ ?_).mono ?_);(focus(focus(repeat with_reducible (first|assumption|(apply gS;assumption)|refine Held.alloc ?_ _|refine Held.drew ?_|(apply Held.call';focus assumption)));done));rintro e w5 ⟨v5,rfl,BW,hb5⟩;obtain⟨a5,cap5,rfl,_⟩:=ll BW;first|(have mm:=tY hb5;obtain⟨m0,m1,m2⟩:=mm)|(have mm:=sC hb5;obtain⟨m0,m1,m2⟩:=mm)|skip))
      all_goals
       go_wp2_with fail
       go_meet
       refine⟨rfl,rfl,_,rfl,?_⟩
       first
       |exact Made.last rfl (by(focus(repeat with_reducible (first|assumption|(apply gS;assumption)|refine Held.alloc ?_ _|refine Held.drew ?_|(apply Held.call';focus assumption)));done)) hb5 BW
       |exact Made.first rfl (by(focus(repeat with_reducible (first|assumption|(apply gS;assumption)|refine Held.alloc ?_ _|refine Held.drew ?_|(apply Held.call';focus assumption)));done)) (Ga hb5) BW
       |exact Made.first rfl (by(focus(repeat with_reducible (first|assumption|(apply gS;assumption)|refine Held.alloc ?_ _|refine Held.drew ?_|(apply Held.call';focus assumption)));done)) hb5 BW
    case rest=>
    obtain⟨rfl,rfl,g9,rfl,hM⟩:=hcut;clear RI HK h0;obtain⟨v9,base,m0,m1,m2,m3,m4,m5⟩:=hM.o;have OX:qes (tw wc (some g) v9 L):=tw.oF m2 (fun k hk=>by cases hk;have:=HX.o.2.2;have:=B2.o.size;rw[aB]at this;omega);obtain⟨a9,sg,rfl,_⟩:=ll m2;have U3:=qet (Ta.o.below m5);have RJ:=nf.cut (g:=g) (cap:=cp) (by rw[<-U4.o];exact U3.o) f (by have:=HF.o;have:=U4.o;omega);have OC:=qet RJ;have B9:=qet m5;obtain⟨i0,hi,hz0,hz1,hz2⟩:=info_parts VJ;have hwz:w.heap.size<=wc.heap.size:=by have h1:=HB.o.size;have h2:=B2.o.size;rw[aB]at h2;have h3:=m5.size;omega
    have hfc:f<=cp:=by have:=HF.o;have:=HX.o.1;omega
    have hf5:f<=500:=by have:=HF.o;omega
    obtain⟨bo,PD⟩:∃bo,bo=(y.k==5):=⟨_,rfl⟩
    have VK:=qet PD;rw[<-PD]at m1;generalize L.length=nL at *;clear RJ m2 m3 m4 m5 hM PD d0 d1 d2 d3 d4;go_wp2
    go_region_law ((refine bK _ (by rfl) _ _ _ (by rfl) w.heap.size 200 i0 _ 2 32 Tryz.underlying196 hi hz0 hz1 hz2 rfl (by omega) (.slice (some ⟨g,0,none⟩) f cp) f _ (by rfl) (by exact OC.o.alloc _) ⟨wc.heap.size,0,none⟩ 1 1 [.slice a9 nL sg,.bool bo] (by rfl) (by rfl) (D4 wc _ _) (by simp[aY]) (by omega) (by unfold ff;omega) (by omega) (by simp;omega) (wc.heap.size+1) (by simp) ?_;intro gg cap' w7 D6 yM LZ Tb;have O7:=qet D6;have G7:=qet yM;have A7:=qet LZ;clear D6 yM LZ Tb))
    all_goals
     have g7:(wc.alloc (.cells #[.slice a9 nL sg,.bool bo] 200)).grownBy w7 (some g):=⟨G7.o.os,G7.o.tape,G7.o.output,G7.o.size,G7.o.block⟩
     have R7:qes (nf w7 w.heap.size (.slice (some ⟨gg,0,none⟩) (f+1) cap') (ps.take f++[(.slice a9 nL sg,(L,bo))])):=by
      refine nf.push (U3.o.below ((aw _ _).alloc (aj _) _)) (by have:=HF.o;have:=U4.o;omega) (OX.o.below ((aw _ _).alloc (aj _) _)) g7 ?_ O7.o
      rcases A7.o with h|h
      ·exact .inl h
      ·exact .inr (by rw[aB];exact h)
     have B7:qes (Below w.heap.size w w7):=by
      have hb:=((((HB.o.alloc HB.o.size _).trans (B2.o.mono (by rw[aB];have:=HB.o.size;omega))).trans (B9.o.mono (by have h1:=HB.o.size;have h2:=B2.o.size;rw[aB]at h2;omega))).alloc hwz (.cells #[.slice a9 nL sg,.bool bo] 200))
      exact hb.grown g7 (by rw[aB];omega) (fun r hr=>by cases hr;exact HX.o.2.1)
     have RL:qes (tW (x.drop (k+1)) ((ps.take f++[(aZ a9 nL sg,(L,bo))]).map (·.2))=some [c]/\sumP ((ps.take f++[(aZ a9 nL sg,(L,bo))]).map (·.2))<=5*(k+1)/\(ps.take f++[(aZ a9 nL sg,(L,bo))]).length<=k+1):=by
      have e0:(ps.take f++[(aZ a9 nL sg,(L,bo))]).map (·.2)=(ps.map (·.2)).take f++[(mV y ((ps.map (·.2)).drop f),decide (y.k=5))]:=by
       rw[bB,List.map_take,tu.o,VK.o];rfl
      have hs:=HS.o;refine⟨by rw[e0];exact LY.o,?_,?_⟩
      ·rw[e0];have:=LX y (ps.map (·.2)) f (decide (y.k=5));omega
      ·rw[ao,bU];have:=GN.o;have:=HF.o;have:=U4.o;show _+1<=_;omega
     clear g7 OC OX O7 G7 A7 U3 Ta HS B9 hi hz0 hz1 hz2 LY tu VK;go_wp2
     go_roundw
     case rel=>exact⟨k+1,_,_,by omega,by go_num,rfl,R7.o,RL.o.1,RL.o.2.1,RL.o.2.2,B7.o⟩
     case measure=>simp[intOf];omega
  ·obtain rfl:k=N:=by omega
   have hr:=hh.o.2.1;rw[List.drop_of_length_le (by rw[<-HN.o];exact aj _)]at hr
   obtain⟨q,rfl,hq⟩:∃q,ps=[q]/\q.2=c:=by
    have hr':ps.map (·.2)=[c]:=an hr
    match ps,hr' with
    |[q],h=>exact⟨q,rfl,by simpa using h⟩
   have HP:=qet hh.o.1;have HB:=qet hh.o.2.2.2.2
   rcases yL HP.o with⟨_,h⟩|⟨g,cp,rfl,hcp,_,_,hgl⟩
   ·cases h
   ·obtain⟨vb,vo,vc,hv1,_,_,hv4⟩:=HP.o.VI 0 (Nat.zero_le _);have hc0:wr.cell? ⟨g,0,none⟩=some q.1:=HP.o.1.cellAt 0 (by show 0<1*2;omega);have hX:=HP.o.2 q (by simp);have HL:=qet hX.lst;have HF:qes (H6 w x (.returned (.tuple #[q.1,.int .i64 0])) wr):=⟨q.1,q.2.1,ex,rfl,HL.o,HW.o.1,HW.o.2.1,HW.o.2.2.1,by rw[hq];exact HW.o.2.2.2.1,by rw[hq];exact HZ.o,HB.o⟩
    obtain⟨a9,b9,qcD,sg,GO,_,_⟩:=hX;rw[GO]at hc0 HF;have i1:(1:Int)<=(cp:Int):=by simp at hcp;omega
    generalize q.2.1.length=nq at *;clear hr hq HP HB HL hh hv1 hv4 GO;go_wp2;go_ret2;exact HF.o
theorem mr:∀(e:Ex),well e->∀(st:List Ex)(x:List Pt),build (flat e++x) st=build x (e::st)
 | .leaf p,hw,st,x=>by
  show build (p::x) st=_;rw[build.eq_def];simp only[];rw[if_pos hw.1]
 | .one p e,hw,st,x=>by
  show build (flat e++[p]++x) st=_;rw[aO,mr e hw.2.2];show build (p::x) (e::st)=_;rw[build.eq_def];simp only[];rw[if_neg (by rw[hw.1];decide),if_pos hw.1]
 | .two p a b,hw,st,x=>by
  show build (flat a++(flat b++[p])++x) st=_;rw[aO,mr a hw.2.2.1,aO,mr b hw.2.2.2];show build (p::x) (b::a::st)=_;rw[build.eq_def];simp only[];rw[if_neg (by rw[hw.1];decide),if_neg (by rw[hw.1];decide)]
theorem yN{e:Ex}(hw:well e):jm (flat e)=iC e false:=by
 unfold jm;have:=mr e hw [] [];rw[bm]at this;rw[this];rfl
theorem Jl{x:List Pt}(h:lP x=true){s:List Tk}(hs:stops s):parse (jm x++s)=.ok (x,s):=by
 obtain⟨e,hw,hf,hd,Vw,Gb⟩:=tP (of_decide_eq_true h);subst hf;rw[yN hw];have hr:=(shown hw).2 0 s hs (by omega);have hq:=KZ hr (fuel (iC e false++s)) (by simp only[fuel,rank];omega);unfold parse;rw[hq];simp only[];rw[if_neg (by omega)]
theorem yO{t:Tk}(q:List Tk)(h:(∀n,n<7->r9 n t=none)/\iX [91] t=false/\iX [46] t=false):stops (t::q):=fun u r e=>by
 injection e with e1 e2
 subst e1;refine⟨fun n=>?_,h.2.1,h.2.2⟩
 by_cases hn:n<7
 ·exact h.1 n hn
 ·have:nh n=[]:=by
   unfold nh
   split <;> first|omega|rfl
  unfold r9;rw[this]
  first|rfl|(split <;> rfl)
theorem lV(s:Bs)(q:List Tk)(h:s∈[jK,qX,vS,vL,Dr,iI]):stops (gO s::q):=by
 apply yO
 revert h
 revert s
 decide
theorem pj(s:Bs)(q:List Tk)(h:s∈[ik,yn,ja,grp]):stops (gP s::q):=by
 apply yO
 revert h
 revert s
 decide
variable {r:Rs}{r':Rs}
theorem jy{α β:Type}{m:M α}{f:α->M β}{a:α}(h:m r=(r',.ok a)):bnd m f r=f a r':=by
 unfold bnd;rw[h]
theorem iD{β:Type}{m:M Unit}{f:M β}(h:m r=(r',.ok ())):thn m f r=f r':=jy h
variable {q:List Tk}{s:Bs}{k:Int}
theorem ju{n ty:Int}(h:r.rest=⟨k,s,n,ty⟩::q):lB k s r=({r with rest:=q},.ok ()):=by
 unfold lB;rw[if_pos (by unfold jI;rw[h];simp[jW])];unfold jF;rw[h];rfl
theorem mu{x:List Pt}{s:List Tk}(h:r.rest=jm x++s)(hx:lP x=true)(hs:stops s):ir r=({r with rest:=s},.ok x):=by
 unfold ir;rw[h,Jl hx hs]
theorem mA{t:Tk}(h:r.rest=t::q)(hn:(decide (t.kind=k)&&(t.s==s))=false):jI k s r=false:=by
 unfold jI;rw[h];exact hn
theorem nH{n ty:Int}(h:r.rest=⟨k,s,n,ty⟩::q):jI k s r=true:=by
 unfold jI;rw[h];simp[jW]
theorem Gc(h:r.rest=gO s::q):anyM r=({r with rest:=q},.ok s):=by
 unfold anyM;rw[h];show(if(1:Int)=1 then _ else _)=_;rw[if_pos rfl];unfold jF;rw[h];rfl
theorem BX(h:r.rest=gO s::q)(hs:nameB s=true):kN r=({r with rest:=q},.ok s):=by
 unfold kN;rw[if_pos (by rw[h];exact hs)];exact Gc h
theorem Gd{n:Int}{step:Bool}(h:r.rest=vM n++q)(hn:jk n=true)(hz:step=true->n≠0):j8 step r=({r with rest:=q},.ok n):=by
 unfold vM at h
 by_cases h0:n<0
 ·rw[if_pos h0]at h;have h':r.rest=⟨3,jV,0,0⟩::(mY (-n) 0::q):=h;unfold j8;simp only[nH h',if_true];have ha:jF r={r with rest:=mY (-n) 0::q}:=by unfold jF;rw[h'];rfl
  rw[ha];show(if _ then _ else _)=_
  rw[if_neg (by
   show ¬ ((2:Int)≠2\/(0:Int)≠0\/(step=true/\ -n=0));intro hc
   rcases hc with hc|hc|hc
   ·exact hc rfl
   ·exact hc rfl
   ·have:=hz hc.1;omega)]
  show(if jk (- -n)=true then(_,fR (- -n))else _)=_;rw[Int.neg_neg,if_pos hn];rfl
 ·rw[if_neg h0]at h;have h':r.rest=⟨2,[],n,0⟩::q:=h;unfold j8;have hm:jI 3 jV r=false:=mA h' rfl;have ha:jF r={r with rest:=q}:=by unfold jF;rw[h'];rfl
  have hh:jW r.rest=⟨2,[],n,0⟩:=by rw[h'];rfl
  simp only[hm,eX,if_false,hh,ha,hn,if_true]
  rw[if_neg (by
   intro hc
   rcases hc with hc|hc|hc
   ·exact hc rfl
   ·exact hc rfl
   ·exact hz hc.1 hc.2)]
inductive Goes:Rs->Rs->Prop
 |refl (r:Rs):Goes r r
 |step {r r' r'':Rs} (h:turn r=some (r',.ok ())) (g:Goes r' r''):Goes r r''
theorem Goes.trans{a b c:Rs}(h:Goes a b)(g:Goes b c):Goes a c:=by
 induction h with
 |refl=>exact g
 |step h _ ih=>exact .step h (ih g)
theorem l5(hb:qk r=true)(h:jr r=(r',.ok ())):turn r=some (r',.ok ()):=by
 unfold turn;rw[if_pos hb,h]
theorem kR(hb:qk r=false)(hl:1<r.hs.length)(h:iq r=(r',.ok ())):turn r=some (r',.ok ()):=by
 unfold turn;rw[if_neg (by rw[hb];decide),if_pos hl,h]
theorem lp(h:r.rest=gO s::q):qk r=(decide (s∈[sr,jj,iT,j7,jE,kQ,js])||nameB s):=by
 unfold qk;rw[h];rfl
theorem Ge{t:Tk}(h:r.rest=t::q)(ht:t.kind≠1):qk r=false:=by
 unfold qk;rw[h];show(decide (t.kind=1)&&_)=false;rw[decide_eq_false ht];rfl
def yP(t:Tk):Tv:=⟨t.kind,⟨t.s.toArray⟩,t.n,t.ty,0⟩
structure iH(B R:Nat)(w w':World):Prop where
 os:w'.os=w.os
 tape:w'.tape=w.tape
 output:w'.output=w.output
 size:w.heap.size<=w'.heap.size
 block:∀k,k<B->k≠R->w'.heap[k]? =w.heap[k]?
 others:∀k o,w.heap[k]? =some o->k≠R->(∀c fz,o≠.cells c 54 fz)->w'.heap[k]? =some o
theorem iH.refl(B R:Nat)(w:World):iH B R w w:=⟨rfl,rfl,rfl,aj _,fun _ _ _=>rfl,fun _ _ h _ _=>h⟩
variable {a:World}{R:Nat}
theorem iH.trans{b c:World}(h:iH B R a b)(k:iH B R b c):iH B R a c:=
 ⟨k.os.trans h.os,k.tape.trans h.tape,k.output.trans h.output,aP h.size k.size,fun i hi hr=>(k.block i hi hr).trans (h.block i hi hr),fun i o ho hr hn=>k.others i o (h.others i o ho hr hn) hr hn⟩
variable {w':World}
theorem iH.of_below(h:Below w.heap.size w w')(hB:B<=w.heap.size):iH B R w w':=
 ⟨h.os,h.tape,h.output,h.size,fun k hk _=>h.block k (aJ hk hB),fun k _ ho _ _=>(h.block k (Array.getElem?_eq_some_iff.1 ho).1).trans ho⟩
theorem iH.setCell(h:iH B R a w){p:Addr}(hp:p.block=R)(u:Value):iH B R a (w.setCell p u):=
 ⟨h.os,h.tape,h.output,by rw[bO];exact h.size,fun k hk hr=>(aM w p u k (by omega)).trans (h.block k hk hr),fun k o ho hr hn=>(aM w p u k (by omega)).trans (h.others k o ho hr hn)⟩
theorem iH.grown{row:Option Nat}(h:iH B R a w)(hB:B<=a.heap.size)(hg:w.grownBy w' row)(hr:∀k,row=some k->B<=k)(hrow:∀k,row=some k->∃c fz,w.heap[k]? =some (.cells c 54 fz)):iH B R a w':=by
 have hz:=h.size;refine⟨hg.os.trans h.os,hg.tape.trans h.tape,hg.output.trans h.output,aP h.size hg.size,fun k hk hR=>?_,fun k o ho hR hn=>?_⟩
 ·exact(hg.block k (by omega) (fun e=>by have:=hr k e.symm;omega)).trans (h.block k hk hR)
 ·have h1:=h.others k o ho hR hn;refine(hg.block k (lt_of_heap h1) (fun e=>?_)).trans h1;obtain⟨c,fz,h2⟩:=hrow k e.symm;exact hn c fz (an (h1.symm.trans h2))
structure WS(B R:Nat)(L:List Tk)(w:World):Prop where
 hB:R<B
 le:B<=w.heap.size
 row:∃tv,w.heap[R]? =some (.cells #[tv] 78)/\w.ownsRow B 54 5 tv L.length (kJ (L.map yP))
variable {xs:List Value}{v:Value}{base:Nat}{n:Nat}
theorem oR(h:w.ownsRow base 54 5 v n xs):∀k,v.ownBlock=some k->∃c fz,w.heap[k]? =some (.cells c 54 fz):=fun k hk=>by
 rcases h.2 with⟨rfl,_⟩|⟨g,cap,cur,rfl,_,hg,_⟩
 ·cases hk
 ·simp[bw]at hk;subst hk;exact⟨_,_,hg⟩
variable {L:List Tk}
theorem WS.below(h:WS B R L w)(hb:Below w.heap.size w w'):WS B R L w':=by
 obtain⟨tv,h1,h2⟩:=h.row;refine⟨h.hB,aP h.le hb.size,tv,(hb.block R (lt_of_heap h1)).trans h1,?_⟩;refine⟨h2.1,h2.2.imp id fun⟨g,cap,cur,r1,r2,r3,r⟩=>⟨g,cap,cur,r1,r2,?_,r⟩⟩;rw[hb.block g (lt_of_heap r3)];exact r3
variable {e:Nat}{size:Nat}
theorem BY(h:w.ownsRow base e size v (n+1) xs):∃g cap,v=.slice (some ⟨g,0,none⟩) (n+1) cap:=by
 rcases h.2 with⟨_,h0⟩|⟨g,cap,cur,rfl,_⟩
 ·omega
 ·exact⟨_,_,rfl⟩
theorem BZ(h:w.ownsRow base e size v n xs):∃a m c,v=.slice a m c:=by
 rcases h.2 with⟨rfl,_⟩|⟨g,cap,cur,rfl,_⟩ <;> exact⟨_,_,_,rfl⟩
theorem tQ.shape{l:List Pv}(h:tQ w v l):∃a n c,v=.slice a n c:=by
 obtain⟨a,b,off,cap,hv,_⟩:=h;exact⟨_,_,_,hv⟩
theorem ku.shape(h:ku w v l):∃a n c,v=.slice a n c:=by
 obtain⟨a,b,off,cap,hv,_⟩:=h;exact⟨_,_,_,hv⟩
theorem YF(h:w.heap[R]? =some (.cells #[v] 78))(u:Value):(w.setCell ⟨R,0,none⟩ u).heap[R]? =some (.cells #[u] 78):=one_setCell h
theorem H7:(ah.info? 54).map (fun i=>(i.zero,i.size,i.bytes))=some (some (.agg #[.int .i64 0,.string ⟨#[]⟩,.int .i64 0,.int .i64 0,.int .i64 0]),5,48):=by kernel_rfl
variable {tv:Value}{w1:World}
theorem WS.put{M:List Tk}{w2:World}{v':Value}(h:WS B R L w)(hk:iH B R w w1)(ho:w1.ownsRow B 54 5 v' (L++M).length (kJ ((L++M).map yP)))(hw:w2=w1.setCell ⟨R,0,none⟩ v')(hr1:w1.heap[R]? =some (.cells #[tv] 78)):WS B R (L++M) w2/\iH B R w w2:=by
 subst hw;refine⟨⟨h.hB,by rw[bO];exact aP h.le hk.size,v',YF hr1 _,bC ho (a:=⟨R,0,none⟩) h.hB _⟩,hk.setCell (p:=⟨R,0,none⟩) rfl _⟩
theorem jP(h:WS B R L w)(s:ByteArray)(hl:L.length<=1000000000):Calls ah 47 #[.pointer (some ⟨R,0,none⟩),.string s] w fun e w'=>e=.returned (.tuple #[])/\WS B R (L++[gP s.data.toList]) w'/\iH B R w w':=by
 obtain⟨i0,hi,hz0,hz1,hz2⟩:=info_parts H7;have HH:=qet h;obtain⟨tv,sA,hown⟩:=h.row;have KG:=qet sA;have HOWN:=qet hown;have hBw:=h.le;have Px:=h.hB;have hR:=lt_of_heap sA;have d0:w.cell? ⟨R,0,none⟩=some tv:=by rw[af sA];rfl
 have d1:∀o,(w.alloc o).cell? ⟨R,0,none⟩=some tv:=fun o=>(World.cell?_alloc_lt _ _ _ hR).trans d0
 clear h sA hown;go_enter Tryz.func47,Tryz.ntmps47;go_wp2_with(at_builtin;go_must (refine dC _ (by rfl) _ _ 22 (by rfl) B 54 i0 _ 5 48 cJ hi hz0 hz1 hz2 rfl (by decide) tv L.length (kJ (L.map yP)) (by rfl) (HOWN.o.alloc _) ⟨w.heap.size,0,none⟩ 1 1 [.int .i64 3,.string s,.int .i64 0,.int .i64 0,.int .i64 0] (by rfl) (by rfl) (bf (cs:=#[.int .i64 3,.string s,.int .i64 0,.int .i64 0,.int .i64 0]) (t:=54) (fr:=(0,0)) (by exact aE w _)) (by simp[aY]) (by unfold ff;omega) (by omega) (by simp;omega) ?_;intro v1 w1 hown1 hgrow1 _;obtain⟨g1,c1,hv1⟩:=BY hown1;subst hv1;have k1:=((iH.of_below (R:=R) ((aw w.heap.size w).alloc (aj _) (.cells #[.int .i64 3,.string s,.int .i64 0,.int .i64 0,.int .i64 0] 54)) hBw).grown hBw hgrow1 (fun k hk=>(HOWN.o.lt k hk).1) (oR (HOWN.o.alloc _)));have r1:w1.heap[R]? =some (.cells #[tv] 78):=(hgrow1.block R (by simp;omega) (fun e=>(by have:=(HOWN.o.lt R e.symm).1;omega))).trans ((bj w _ R hR).trans KG.o);have q0:w1.cell? ⟨R,0,none⟩=some tv:=(by rw[af r1];rfl);have q1:w1.frozen? ⟨R,0,none⟩=false:=aC r1 0;have HK:=qet k1;have HR1:=qet r1;have mh:=qet hown1;clear k1 r1 hown1 hgrow1));refine aW (v:=.tuple #[]) ?_ rfl ⟨rfl,?_⟩
 ·simp[aV,Tryz.results47,go_sem]
 ·exact WS.put (M:=[gP s.data.toList]) HH.o HK.o (by
   have:=mh.o;rw[ao,bB,mD]
   exact this) rfl HR1.o
theorem yQ{P:Program}{ops:Array Oper}{o:Oper}{a:Act}{K:Act->World->Prop}{Q:Exit->Act->World->Prop}{E:Prop}(hgd:o.guard=none)(f:FuncId)(x:Operand)(t:TypeId)(u:Value)
  (ho:o.op=.call {callee:=.value (.func f),args:=#[x],argTypes:=#[t]}) (hx:a.eval x=u) (hf:∀W,(callFunc f #[u]).run P W=.ok (.enter f #[u]) W) (h:Calls P f #[u] w fun e w'=>∃v,e=.returned v/\K (a.put o.dst v) w'):
  if cM o (yielded ops a.tmps)=true then Oper.wp P o a w K Q else E:=by
 have hw:cM o (yielded ops a.tmps)=true:=by simp[cM,hgd]
 rw[if_pos hw];unfold Oper.wp;have he:a.eval (.func f)=.func (.func f) #[] #[]:=rfl
 have hrun:(execOp a.eval o).run P w=.ok (.enter f #[u]) w:=by
  unfold execOp;simp only[ho,resolve,invoke,he,hx,Sem.run_bind,List.map_toArray,bL,List.map_nil,Deferred.ofValue]
  simpa using hf w
 rw[hrun];refine h.mono ?_;rintro e w' ⟨v,rfl,hv⟩;exact hv
theorem sX(h:w.ownsRow base e size v n xs)(hb:Below w.heap.size w w'):w'.ownsRow base e size v n xs:=by
 refine⟨h.1,h.2.imp id fun⟨g,cap,cur,r1,r2,r3,r⟩=>⟨g,cap,cur,r1,r2,?_,r⟩⟩;rw[hb.block g (lt_of_heap r3)];exact r3
theorem iz(h:WS B R L w)(s:ByteArray)(hs:s.size<=140737488355000)(hl:L.length<=1000000000):Calls ah 71 #[.pointer (some ⟨R,0,none⟩),.string s] w fun e w'=>e=.returned (.tuple #[])/\WS B R (L++[gO s.data.toList]) w'/\iH B R w w':=by
 obtain⟨i0,hi,hz0,hz1,hz2⟩:=info_parts H7;have HH:=qet h;obtain⟨tv,sA,hown⟩:=h.row;have KG:=qet sA;have HOWN:=qet hown;have hBw:=h.le;have Px:=h.hB;have hR:=lt_of_heap sA;have d0:w.cell? ⟨R,0,none⟩=some tv:=by rw[af sA];rfl
 have CC:=qet (o7 s hs);have SC:qes (∀W,(callFunc 131 #[.string s]).run ah W=.ok (.enter 131 #[.string s]) W):=by show ∀_,_;intro W;simp[go_sem]
 clear h sA hown hs;go_enter Tryz.func71,Tryz.ntmps71;go_wp2
 go_region_law (first
  |(refine yQ rfl 131 _ _ (.string s) rfl rfl SC.o ?_;refine(CC.o _).mono ?_;rintro e wc ⟨rfl,hbc⟩;refine⟨_,rfl,?_⟩;have hbc':Below w.heap.size w wc:=((aw w.heap.size w).drew).trans hbc;have rc:wc.heap[R]? =some (.cells #[tv] 78):=(hbc'.block R hR).trans KG.o;have qc:wc.cell? ⟨R,0,none⟩=some tv:=(by rw[af rc];rfl);have qd:∀o,(wc.alloc o).cell? ⟨R,0,none⟩=some tv:=(fun o=>(World.cell?_alloc_lt _ _ _ (lt_of_heap rc)).trans qc);have H8:=qet hbc';have YG:=qet rc;have zc:w.heap.size<=wc.heap.size:=hbc'.size;clear hbc hbc' rc)
  |(refine qI _ (by rfl) _ _ _ (by rfl) B 54 i0 _ 5 48 cJ hi hz0 hz1 hz2 rfl (by omega) tv L.length (kJ (L.map yP)) (by rfl) (by exact(sX HOWN.o H8.o).alloc _) ⟨wc.heap.size,0,none⟩ 1 1 [.int .i64 1,.string s,.int .i64 0,.int .i64 0,.int .i64 0] (by rfl) (by rfl) (bf (cs:=#[.int .i64 1,.string s,.int .i64 0,.int .i64 0,.int .i64 0]) (t:=54) (fr:=(0,0)) (by exact aE wc _)) (by simp[aY]) (by omega) (by unfold ff;omega) (by omega) (by simp;omega) ?_;intro g1 c1 w1 hown1 hgrow1;have k1:=((iH.of_below (R:=R) (H8.o.alloc zc (.cells #[.int .i64 1,.string s,.int .i64 0,.int .i64 0,.int .i64 0] 54)) hBw).grown hBw hgrow1 (fun k hk=>(HOWN.o.lt k hk).1) (oR ((sX HOWN.o H8.o).alloc _)));have r1:w1.heap[R]? =some (.cells #[tv] 78):=(hgrow1.block R (by simp;omega) (fun e=>(by have:=(HOWN.o.lt R e.symm).1;omega))).trans ((bj wc _ R (by omega)).trans YG.o);have q0:w1.cell? ⟨R,0,none⟩=some tv:=(by rw[af r1];rfl);have q1:w1.frozen? ⟨R,0,none⟩=false:=aC r1 0;have HK:=qet k1;have HR1:=qet r1;have mh:=qet hown1;clear k1 r1 hown1 hgrow1))
 all_goals
  go_wp2;refine aW (v:=.tuple #[]) ?_ rfl ⟨rfl,?_⟩
  ·simp[aV,Tryz.results71,go_sem]
  ·exact WS.put (M:=[gO s.data.toList]) HH.o HK.o (by
    have:=mh.o;rw[ao,bB,mD]
    exact this) rfl HR1.o
theorem Jm(h:WS B R L w)(n:Int)(hn:0<=n)(hl:L.length<=1000000000):Calls ah 133 #[.pointer (some ⟨R,0,none⟩),.int .i64 n] w fun e w'=>e=.returned (.tuple #[])/\WS B R (L++[mY n 0]) w'/\iH B R w w':=by
 obtain⟨i0,hi,hz0,hz1,hz2⟩:=info_parts H7;have HH:=qet h;obtain⟨tv,sA,hown⟩:=h.row;have KG:=qet sA;have HOWN:=qet hown;have hBw:=h.le;have Px:=h.hB;have hR:=lt_of_heap sA;have d0:w.cell? ⟨R,0,none⟩=some tv:=by rw[af sA];rfl
 have d1:∀o,(w.alloc o).cell? ⟨R,0,none⟩=some tv:=fun o=>(World.cell?_alloc_lt _ _ _ hR).trans d0
 have i1:¬n<0:=by omega
 clear h sA hown;go_enter Tryz.func133,Tryz.ntmps133;go_wp2_with(at_builtin;go_must (refine dC _ (by rfl) _ _ 22 (by rfl) B 54 i0 _ 5 48 cJ hi hz0 hz1 hz2 rfl (by decide) tv L.length (kJ (L.map yP)) (by rfl) (HOWN.o.alloc _) ⟨w.heap.size,0,none⟩ 1 1 [.int .i64 2,.string ⟨#[]⟩,.int .i64 n,.int .i64 0,.int .i64 0] (by rfl) (by rfl) (bf (cs:=#[.int .i64 2,.string ⟨#[]⟩,.int .i64 n,.int .i64 0,.int .i64 0]) (t:=54) (fr:=(0,0)) (by exact aE w _)) (by simp[aY]) (by unfold ff;omega) (by omega) (by simp;omega) ?_;intro v1 w1 hown1 hgrow1 _;obtain⟨g1,c1,hv1⟩:=BY hown1;subst hv1;have k1:=((iH.of_below (R:=R) ((aw w.heap.size w).alloc (aj _) (.cells #[.int .i64 2,.string ⟨#[]⟩,.int .i64 n,.int .i64 0,.int .i64 0] 54)) hBw).grown hBw hgrow1 (fun k hk=>(HOWN.o.lt k hk).1) (oR (HOWN.o.alloc _)));have r1:w1.heap[R]? =some (.cells #[tv] 78):=(hgrow1.block R (by simp;omega) (fun e=>(by have:=(HOWN.o.lt R e.symm).1;omega))).trans ((bj w _ R hR).trans KG.o);have q0:w1.cell? ⟨R,0,none⟩=some tv:=(by rw[af r1];rfl);have q1:w1.frozen? ⟨R,0,none⟩=false:=aC r1 0;have HK:=qet k1;have HR1:=qet r1;have mh:=qet hown1;clear k1 r1 hown1 hgrow1));refine aW (v:=.tuple #[]) ?_ rfl ⟨rfl,?_⟩
 ·simp[aV,Tryz.results133,go_sem]
 ·exact WS.put (M:=[mY n 0]) HH.o HK.o (by
   have:=mh.o;rw[ao,bB,mD]
   exact this) rfl HR1.o
theorem Jn(h:WS B R L w)(n:Int)(hn:n<0)(hn2: -2147483648<=n)(hl:L.length<=900000000):Calls ah 133 #[.pointer (some ⟨R,0,none⟩),.int .i64 n] w fun e w'=>e=.returned (.tuple #[])/\WS B R (L++[gP jV]++[mY (-n) 0]) w'/\iH B R w w':=by
 obtain⟨i0,hi,hz0,hz1,hz2⟩:=info_parts H7;have cs:=jP h ⟨#[45]⟩ (by omega);clear h;go_enter Tryz.func133,Tryz.ntmps133;go_wp2_with fail;refine cs.mono ?_;rintro e w0 ⟨rfl,h0,hk0⟩;have h:WS B R (L++[gP jV]) w0:=h0;have HH:=qet h;have wS:=qet hk0;obtain⟨tv,sA,hown⟩:=h.row;have KG:=qet sA;have HOWN:=qet hown;have hBw:=h.le;have Px:=h.hB;have hR:=lt_of_heap sA;have d0:w0.cell? ⟨R,0,none⟩=some tv:=by rw[af sA];rfl
 have d1:∀o,(w0.alloc o).cell? ⟨R,0,none⟩=some tv:=fun o=>(World.cell?_alloc_lt _ _ _ hR).trans d0
 have hl2:(L++[gP jV]).length<=1000000000:=by rw[ao,bY];omega
 clear h sA hown h0 hk0 cs;obtain⟨M,hM⟩:∃M,M=L++[gP jV]:=⟨_,rfl⟩
 rw[<-hM]at HH HOWN hl2;have mQ:=qet hM;clear hM hl;go_wp2_with(at_builtin;go_must (refine dC _ (by rfl) _ _ 22 (by rfl) B 54 i0 _ 5 48 cJ hi hz0 hz1 hz2 rfl (by decide) tv (M).length (kJ ((M).map yP)) (by rfl) (HOWN.o.alloc _) ⟨w0.heap.size,0,none⟩ 1 1 [.int .i64 2,.string ⟨#[]⟩,.int .i64 (-n),.int .i64 0,.int .i64 0] (by rfl) (by rfl) (bf (cs:=#[.int .i64 2,.string ⟨#[]⟩,.int .i64 (-n),.int .i64 0,.int .i64 0]) (t:=54) (fr:=(0,0)) (by exact aE w0 _)) (by simp[aY]) (by unfold ff;omega) (by omega) (by simp;omega) ?_;intro v1 w1 hown1 hgrow1 _;obtain⟨g1,c1,hv1⟩:=BY hown1;subst hv1;have k1:=((iH.of_below (R:=R) ((aw w0.heap.size w0).alloc (aj _) (.cells #[.int .i64 2,.string ⟨#[]⟩,.int .i64 (-n),.int .i64 0,.int .i64 0] 54)) hBw).grown hBw hgrow1 (fun k hk=>(HOWN.o.lt k hk).1) (oR (HOWN.o.alloc _)));have r1:w1.heap[R]? =some (.cells #[tv] 78):=(hgrow1.block R (by simp;omega) (fun e=>(by have:=(HOWN.o.lt R e.symm).1;omega))).trans ((bj w0 _ R hR).trans KG.o);have q0:w1.cell? ⟨R,0,none⟩=some tv:=(by rw[af r1];rfl);have q1:w1.frozen? ⟨R,0,none⟩=false:=aC r1 0;have HK:=qet k1;have HR1:=qet r1;have mh:=qet hown1;clear k1 r1 hown1 hgrow1));refine aW (v:=.tuple #[]) ?_ rfl ⟨rfl,?_⟩
 ·simp[aV,Tryz.results133,go_sem]
 ·obtain⟨r1,r2⟩:=WS.put (M:=[mY (-n) 0]) HH.o HK.o (by
   have:=mh.o;rw[ao,bB,mD]
   exact this) rfl HR1.o
  rw[<-mQ.o];exact⟨r1,wS.o.trans r2⟩
theorem yR(h:WS B R L w)(n:Int)(hn:jk n=true)(hl:L.length<=900000000):Calls ah 133 #[.pointer (some ⟨R,0,none⟩),.int .i64 n] w fun e w'=>e=.returned (.tuple #[])/\WS B R (L++vM n) w'/\iH B R w w':=by
 unfold jk at hn;rw[aH,decide_eq_true_eq,decide_eq_true_eq]at hn;unfold vM
 by_cases h0:n<0
 ·rw[if_pos h0];have:=Jn h n h0 hn.1 hl;rw[aO]at this;exact this
 ·rw[if_neg h0];exact Jm h n (by omega) (by omega)
theorem VL{t:List Tk}(h:l.map kU=t)(h0:∀x∈l,x.at_=0):l=t.map yP:=by
 subst h;rw[List.map_map];refine(List.map_id l).symm.trans (List.map_congr_left fun x hx=>?_);obtain⟨k,s,n,ty,a⟩:=x;have:a=0:=h0 _ hx;subst this;show _=yP (kU _);unfold yP kU;simp
theorem ke(h:WS B R L w)(x:List Pt)(v:Value)(hv:mg w Tt x v)(hx:lP x=true)(hg:kZ w)(hl:L.length+(jm x).length<=1000000000):Calls ah 72 #[.pointer (some ⟨R,0,none⟩),v] w fun e w'=>e=.returned (.tuple #[])/\WS B R (L++jm x) w'/\iH B R w w':=by
 obtain⟨xs,hxs,hxl,hL⟩:=hv.lst;have ct:=Jk v xs w hL (by omega) hg (by rw[hxs];exact of_decide_eq_true hx);have HH:=qet h;obtain⟨tv,sA,hown⟩:=h.row;have KG:=qet sA;have HOWN:=qet hown;have hBw:=h.le;have Px:=h.hB;have hR:=lt_of_heap sA;obtain⟨a0,n0,c0,rfl⟩:=((hv.lst).choose_spec.2.2:tQ w v _).shape;clear h sA hown hv hL hg hxl;go_enter Tryz.func72,Tryz.ntmps72;go_wp2_with fail;refine ct.mono ?_;rintro e w1 ⟨u,T,ex,rfl,YH,RK,RN,_,hmap,hzero,hb1⟩;have hT:T=(jm x).map yP:=VL (by rw[hmap,<-hxs,<-RN,yN RK]) hzero;have HLU:=qet YH;have HB1:=qet hb1;have r1:w1.heap[R]? =some (.cells #[tv] 78):=(hb1.block R hR).trans KG.o;have d0:w1.cell? ⟨R,0,none⟩=some tv:=by rw[af r1];rfl
 have zc:w.heap.size<=w1.heap.size:=hb1.size;have hTl:T.length=(jm x).length:=by rw[hT,aQ]
 have hTL:L.length+T.length<=1000000000000:=by omega
 have DG:=qet hT;have HRR:=qet r1;obtain⟨a1,n1,c1,rfl⟩:=(YH:ku w1 u T).shape;clear ct YH RK RN hmap hzero hb1 r1 hTl hT hx hxs;go_wp2_with(at_builtin;go_must (refine pf (by rfl) _ _ (by rfl) B L.length tv (kJ (L.map yP)) (by rfl) (sX HOWN.o HB1.o) _ T (by rfl) HLU.o hTL (by omega) ?_;intro v2 w2 hown2 hgrow2;obtain⟨p2,m2,c2,hv2⟩:=BZ hown2;subst hv2;have k2:=((iH.of_below (R:=R) HB1.o hBw).grown hBw hgrow2 (fun k hk=>(HOWN.o.lt k hk).1) (oR (sX HOWN.o HB1.o)));have r2:w2.heap[R]? =some (.cells #[tv] 78):=(hgrow2.block R (lt_of_heap HRR.o) (fun e=>(by have:=(HOWN.o.lt R e.symm).1;omega))).trans HRR.o;have q0:w2.cell? ⟨R,0,none⟩=some tv:=(by rw[af r2];rfl);have q1:w2.frozen? ⟨R,0,none⟩=false:=aC r2 0;have HK:=qet k2;have HR1:=qet r2;have mh:=qet hown2;clear k2 r2 hown2 hgrow2));refine aW (v:=.tuple #[]) ?_ rfl ⟨rfl,?_⟩
 ·simp[aV,Tryz.results72,go_sem]
 ·exact WS.put (M:=jm x) HH.o HK.o (by
   have:=mh.o;rw[ao,bB,mD];rw[DG.o,aQ]at this
   exact this) rfl HR1.o
theorem alloc2(w:World)(A C:Obj):((w.alloc A).alloc C).heap[w.heap.size]? =some A/\((w.alloc A).alloc C).heap[w.heap.size+1]? =some C:=by
 refine⟨?_,?_⟩
 ·rw[bj _ _ _ (by simp)];exact aE w A
 ·have:=aE (w.alloc A) C
  rwa [aB]at this
abbrev ua(f b1 b2:Nat):Value:=.func (.func f) #[] #[.pointer (some ⟨b1,0,none⟩),.pointer (some ⟨b2,0,none⟩)]
structure nW(R T j t m b1 b2:Nat)(w:World):Prop where
 l1:m<=b1
 l2:m<=b2
 h1:w.heap[b1]? =some (.cells #[.pointer (some ⟨R,0,none⟩)] 55)
 h2:w.heap[b2]? =some (.cells #[.pointer (some ⟨T,j,none⟩)] t)
variable {O:List Nat}{T:Nat}{j:Nat}{t:Nat}{m:Nat}{b1:Nat}{b2:Nat}
theorem nW.keep(h:nW R T j t m b1 b2 w)(hk:gR O w w')(hO:∀k,k∈O->k<m):nW R T j t m b1 b2 w':=
 ⟨h.l1,h.l2,(hk.block _ (lt_of_heap h.h1) (fun e=>by have:=hO _ e;have:=h.l1;omega)).trans h.h1,(hk.block _ (lt_of_heap h.h2) (fun e=>by have:=hO _ e;have:=h.l2;omega)).trans h.h2⟩
def jR(f R T j t:Nat)(w:World)(e:Ending)(w':World):Prop:=∃b1 b2,e=.returned (ua f b1 b2)/\nW R T j t w.heap.size b1 b2 w'/\Below w.heap.size w w'
theorem uO(R T j:Nat)(w:World):Calls ah 147 #[.pointer (some ⟨R,0,none⟩),.pointer (some ⟨T,j,none⟩)] w (jR 179 R T j 148 w):=by
 obtain⟨a1,a2⟩:=alloc2 w (.cells #[.pointer (some ⟨R,0,none⟩)] 55) (.cells #[.pointer (some ⟨T,j,none⟩)] 148);have HA:qes (nW R T j 148 w.heap.size w.heap.size (w.heap.size+1) ((w.alloc (.cells #[.pointer (some ⟨R,0,none⟩)] 55)).alloc (.cells #[.pointer (some ⟨T,j,none⟩)] 148))):=⟨by omega,by omega,a1,a2⟩
 have HB:=qet (((aw w.heap.size w).alloc (aj _) (.cells #[.pointer (some ⟨R,0,none⟩)] 55)).alloc (by simp) (.cells #[.pointer (some ⟨T,j,none⟩)] 148));clear a1 a2;unfold jR;go_enter Tryz.func147,Tryz.ntmps147;go_wp2;go_ret;exact⟨_,_,rfl,HA.o,HB.o⟩
theorem Jo(R T j:Nat)(w:World):Calls ah 103 #[.pointer (some ⟨R,0,none⟩),.pointer (some ⟨T,j,none⟩)] w (jR 146 R T j 148 w):=by
 obtain⟨a1,a2⟩:=alloc2 w (.cells #[.pointer (some ⟨R,0,none⟩)] 55) (.cells #[.pointer (some ⟨T,j,none⟩)] 148);have HA:qes (nW R T j 148 w.heap.size w.heap.size (w.heap.size+1) ((w.alloc (.cells #[.pointer (some ⟨R,0,none⟩)] 55)).alloc (.cells #[.pointer (some ⟨T,j,none⟩)] 148))):=⟨by omega,by omega,a1,a2⟩
 have HB:=qet (((aw w.heap.size w).alloc (aj _) (.cells #[.pointer (some ⟨R,0,none⟩)] 55)).alloc (by simp) (.cells #[.pointer (some ⟨T,j,none⟩)] 148));clear a1 a2;unfold jR;go_enter Tryz.func103,Tryz.ntmps103;go_wp2;go_ret;exact⟨_,_,rfl,HA.o,HB.o⟩
theorem nX(R T j:Nat)(w:World):Calls ah 101 #[.pointer (some ⟨R,0,none⟩),.pointer (some ⟨T,j,none⟩)] w (jR 143 R T j 144 w):=by
 obtain⟨a1,a2⟩:=alloc2 w (.cells #[.pointer (some ⟨R,0,none⟩)] 55) (.cells #[.pointer (some ⟨T,j,none⟩)] 144);have HA:qes (nW R T j 144 w.heap.size w.heap.size (w.heap.size+1) ((w.alloc (.cells #[.pointer (some ⟨R,0,none⟩)] 55)).alloc (.cells #[.pointer (some ⟨T,j,none⟩)] 144))):=⟨by omega,by omega,a1,a2⟩
 have HB:=qet (((aw w.heap.size w).alloc (aj _) (.cells #[.pointer (some ⟨R,0,none⟩)] 55)).alloc (by simp) (.cells #[.pointer (some ⟨T,j,none⟩)] 144));clear a1 a2;unfold jR;go_enter Tryz.func101,Tryz.ntmps101;go_wp2;go_ret;exact⟨_,_,rfl,HA.o,HB.o⟩
variable {cs:Array Value}{b:Nat}
theorem pP(h:w.heap[b]? =some (.cells cs t))(u:Value):(w.setCell ⟨b,j,none⟩ u).heap[b]? =some (.cells (cs.setIfInBounds j u) t):=by
 simp[cW,Array.getElem?_modify,h]
structure Put(B R T j t:Nat)(cs:Array Value)(u:Value)(tv:Value)(toks:List Tv)(n:Nat)(hv sv:Value)(mn:Bool)(fa fc dp:Int)(w w':World):Prop where
 rb:RB B R tv toks n hv sv mn fa fc dp w'
 cell:w'.heap[T]? =some (.cells (cs.setIfInBounds j u) t)
 keep:gR [R,T] w w'
variable {fa:Int}{fc:Int}{dp:Int}{mn:Bool}{hv:Value}{sv:Value}{at_:Nat}{toks:List Tv}
theorem Put.of{u:Value}(h:RB B R tv toks at_ hv sv mn fa fc dp w1)(hk:gR [R,T] w w1)(hT:w1.heap[T]? =some (.cells cs t))(hR:T≠R)(hB:B<=T)(hn:n<=toks.length):Put B R T j t cs u tv toks n hv sv mn fa fc dp w ((w1.setCell ⟨T,j,none⟩ u).setCell ⟨R,1,none⟩ (.int .i64 (n:Int))):=by
 have k1:gR [T] w1 (w1.setCell ⟨T,j,none⟩ u):=(gR.refl [T] w1).setCell (p:=⟨T,j,none⟩) (.inl (by simp)) _;have r1:=h.keep k1 (by simp[hB]) (by simp;exact fun e=>hR e.symm);obtain⟨r2,k2⟩:=r1.put hn rfl;refine⟨r2,?_,hk.trans ((k1.more (by simp)).trans (k2.more (by simp)))⟩;rw[k2.block T (by rw[bO];exact lt_of_heap hT) (by simp[hR])];exact pP hT u
theorem uP(h:RB B R tv toks at_ hv sv mn fa fc dp w)(hl:toks.length<=3000000000000)(hs:∀i,(gQ toks i).s.size<=140737488355000){t0:Addr}(hc:nW R T j 148 m b1 b2 w)(he:w.cell? ⟨0,0,none⟩=some (ln t0))(hT:w.heap[T]? =some (.cells cs t))(hj:j<cs.size)(hTR:T≠R)(hTB:B<=T)(hTm:T<m):
  Calls ah 179 #[.pointer (some ⟨b1,0,none⟩),.pointer (some ⟨b2,0,none⟩)] w fun e w'=>((gQ toks at_).k=1/\e=.returned .nilIface/\Put B R T j t cs (.string (gQ toks at_).s) tv toks (at_+1) hv sv mn fa fc dp w w')\/(¬ (gQ toks at_).k=1/\e=.returned (ln t0)/\RB B R tv toks at_ hv sv mn fa fc dp w'/\gR [R] w w'):=by
 have t1:=nk h (by omega);have HH:=qet h;have HS:=qet (hs at_);have d1:w.cell? ⟨b1,0,none⟩=some (.pointer (some ⟨R,0,none⟩)):=by rw[af hc.h1];rfl
 have d2:w.cell? ⟨b2,0,none⟩=some (.pointer (some ⟨T,j,none⟩)):=by rw[af hc.h2];rfl
 have l1:=lt_of_heap hc.h1;have l2:=lt_of_heap hc.h2;have lm:=hc.l1;have l0:0<w.heap.size:=World.block_lt_of_cell? w ⟨0,0,none⟩ he;have lT:=lt_of_heap hT;have HT:=qet hT;have hr:=h.row;unfold mb at hr;have Hw:=lt_of_heap hr;have HR:=qet hr;have sy:=h.here;have U5:qes ((gQ toks at_).k=1->at_<toks.length):=fun e=>at_in (by rw[e];decide)
 clear hc h hr hT hs;generalize gQ toks at_=x at *;obtain⟨xk,xs,xn,xt,xa⟩:=x;simp only[]at HS U5 ⊢;unfold oG at t1;simp only[]at t1;have CC:=qet (o7 xs HS.o);have SC:qes (∀W,(callFunc 131 #[.string xs]).run ah W=.ok (.enter 131 #[.string xs]) W):=by show ∀_,_;intro W;simp[go_sem]
 go_enter Tryz.func179,Tryz.ntmps179;go_wp2_with fail;refine t1.mono ?_;rintro e w1 ⟨rfl,hb1⟩;have z1:=hb1.size;have hb2:=hb1.alloc hb1.size (.cells #[.int .i64 xk,.string xs,.int .i64 xn,.int .i64 xt,.int .i64 xa] 54);have HB1:=qet hb1;have HB2:=qet hb2;have q0:w1.cell? ⟨0,0,none⟩=some (ln t0):=(World.cell?_of_block (hb1.block 0 l0)).trans he;have q2:∀o,(w1.alloc o).cell? ⟨b2,0,none⟩=some (.pointer (some ⟨T,j,none⟩)):=fun o=>(World.cell?_alloc_lt _ _ _ (by show b2<_;omega)).trans ((World.cell?_of_block (hb1.block b2 l2)).trans d2)
 have q3:∀o,(w1.alloc o).cell? ⟨0,0,none⟩=some (ln t0):=fun o=>(World.cell?_alloc_lt _ _ _ (by show 0<_;omega)).trans q0
 clear t1 hb1 hb2
 by_cases hk:xk=1
 ·subst hk;have hlt:=U5.o rfl;have D1:=qet d1;have D2:=qet d2;have nT:b1≠T:=by omega
  have nR:R≠T:=fun e=>hTR e.symm
  clear he d1 d2 q0 q3;go_wp2
  go_region_law (first
   |(refine yQ rfl 131 _ _ (.string xs) rfl rfl SC.o ?_;refine(CC.o _).mono ?_;rintro e wc ⟨rfl,hbc⟩;refine⟨_,rfl,?_⟩;have hbc':Below w.heap.size w wc:=(HB2.o.drew).trans (hbc.mono (by simp;omega));have rc:wc.heap[T]? =some (.cells cs t):=(hbc'.block T lT).trans HT.o;have qc:wc.cell? ⟨T,j,none⟩=some cs[j]:=(by rw[af rc];exact Array.getElem?_eq_getElem hj);have qf:wc.frozen? ⟨T,j,none⟩=false:=aC rc j;have q4:wc.cell? ⟨b2,0,none⟩=some (.pointer (some ⟨T,j,none⟩)):=(World.cell?_of_block (hbc'.block b2 l2)).trans D2.o;have rR:wc.heap[R]? =_:=(hbc'.block R Hw).trans HR.o;have s1:∀u,(wc.setCell ⟨T,j,none⟩ u).cell? ⟨b1,0,none⟩=some (.pointer (some ⟨R,0,none⟩)):=(fun u=>(World.cell?_of_block (aM wc ⟨T,j,none⟩ u b1 nT)).trans ((World.cell?_of_block (hbc'.block b1 l1)).trans D1.o));have s2:∀u,(wc.setCell ⟨T,j,none⟩ u).heap[R]? =_:=(fun u=>(aM wc ⟨T,j,none⟩ u R nR).trans rR);have s3:∀u,(wc.setCell ⟨T,j,none⟩ u).cell? ⟨R,1,none⟩=some (.int .i64 (at_:Int)):=(fun u=>(by rw[af (s2 u)];rfl));have s4:∀u,(wc.setCell ⟨T,j,none⟩ u).frozen? ⟨R,1,none⟩=false:=(fun u=>aC (s2 u) 1);clear rR s2;have H8:=qet hbc';have YG:=qet rc;clear hbc hbc' rc))
  all_goals
   go_wp2;go_ret;exact⟨rfl,Put.of (HH.o.below H8.o) (gR.of_below H8.o) YG.o hTR hTB hlt⟩
 ·have HK:=qet hk;have i1:(xk==1)=false:=by rw[beq_eq_false_iff_ne];exact hk
  clear hk;go_wp2;go_ret;exact .inr ⟨HK.o,rfl,HH.o.below HB2.o,gR.of_below HB2.o⟩
theorem Jp(h:RB B R tv toks at_ hv sv mn fa fc dp w)(n most:Nat):Calls ah 182 #[.pointer (some ⟨R,0,none⟩),.int .i64 (n:Int),.int .i64 (most:Int)] w fun e w'=>e=.returned (.tuple #[])/\RB B R tv toks at_ hv sv (mn||decide (most<n)) fa fc dp w'/\gR [R] w w':=by
 have HH:=qet h;have hr:=h.row;unfold mb at hr;have d4:w.cell? ⟨R,4,none⟩=some (.bool mn):=by rw[af hr];rfl
 have f4:w.frozen? ⟨R,4,none⟩=false:=aC hr 4;clear h hr
 by_cases hlt:most<n
 ·have i1:(most:Int)<(n:Int):=by omega
  have HE:=qet (decide_eq_true hlt);clear hlt
  cases mn with
  |true=>
   go_enter eM,eH;go_wp2;refine aW (v:=.tuple #[]) ?_ rfl ⟨rfl,?_⟩
   ·simp[aV,ew,go_sem]
   ·exact HH.o.many true rfl
  |false=>
   go_enter eM,eH;go_wp2;refine aW (v:=.tuple #[]) ?_ rfl ⟨rfl,?_⟩
   ·simp[aV,ew,go_sem]
   ·rw[HE.o];exact HH.o.many true rfl
 ·have i1:¬ (most:Int)<(n:Int):=by omega
  have HE:=qet (decide_eq_false hlt);clear hlt
  cases mn with
  |true=>
   go_enter eM,eH;go_wp2;refine aW (v:=.tuple #[]) ?_ rfl ⟨rfl,?_⟩
   ·simp[aV,ew,go_sem]
   ·exact HH.o.many true rfl
  |false=>
   go_enter eM,eH;go_wp2;refine aW (v:=.tuple #[]) ?_ rfl ⟨rfl,?_⟩
   ·simp[aV,ew,go_sem]
   ·rw[HE.o];exact HH.o.many false rfl
theorem uQ(k n t p:Int)(s:ByteArray)(W:World):(Instr.field 54 (.agg #[.int .i64 k,.string s,.int .i64 n,.int .i64 t,.int .i64 p]) 1).run ah W=.ok (.string s) W:=by kernel_rfl
theorem VM(k n t p:Int)(s:ByteArray)(W:World):(Instr.field 54 (.agg #[.int .i64 k,.string s,.int .i64 n,.int .i64 t,.int .i64 p]) 0).run ah W=.ok (.int .i64 k) W:=by kernel_rfl
theorem gR.cell(h:gR O w w'){p:Addr}(hp:p.block<w.heap.size)(ho:p.block∉O):w'.cell? p=w.cell? p:=World.cell?_of_block (h.block p.block hp ho)
theorem TabAt.mF{t:List Value}(h:TabAt w b t)(hk:gR O w w')(hb:b∉O):TabAt w' b t:=fun k v e=>by
 have h1:=h k v e;exact(hk.cell (World.block_lt_of_cell? w _ h1) hb).trans h1
theorem Jq(h:RB B R tv toks at_ hv sv mn fa fc dp w)(hl:toks.length<=3000000000000)(hs:∀i,(gQ toks i).s.size<=140737488355000){t0:Addr}(hc:nW R T j 148 m b1 b2 w)(he:w.cell? ⟨0,0,none⟩=some (ln t0))(hkw:TabAt w 5 su)(hT:w.heap[T]? =some (.cells cs t))(hj:j<cs.size)(hTR:T≠R)(hTB:B<=T):
  Calls ah 146 #[.pointer (some ⟨b1,0,none⟩),.pointer (some ⟨b2,0,none⟩)] w fun e w'=>((nameB (kU (gQ toks at_)).s=true/\(gQ toks at_).k=1)/\e=.returned .nilIface/\Put B R T j t cs (.string (gQ toks at_).s) tv toks (at_+1) hv sv mn fa fc dp w w')\/(¬ (nameB (kU (gQ toks at_)).s=true/\(gQ toks at_).k=1)/\e=.returned (ln t0)/\RB B R tv toks at_ hv sv mn fa fc dp w'/\gR [R] w w'):=by
 have t1:=nk h (by omega);have HH:=qet h;have d1:w.cell? ⟨b1,0,none⟩=some (.pointer (some ⟨R,0,none⟩)):=by rw[af hc.h1];rfl
 have d2:w.cell? ⟨b2,0,none⟩=some (.pointer (some ⟨T,j,none⟩)):=by rw[af hc.h2];rfl
 have l1:=lt_of_heap hc.h1;have l2:=lt_of_heap hc.h2;have l0:0<w.heap.size:=World.block_lt_of_cell? w ⟨0,0,none⟩ he;have lT:=lt_of_heap hT;have HT:=qet hT;have HE:=qet he
 have CN:qes (∀W,Below w.heap.size w W->Calls ah 86 #[.string (gQ toks at_).s] W fun e w'=>e=.returned (.bool (nameB (kU (gQ toks at_)).s))/\w'=W):=fun W hW=>by
  have:=oP (kU (gQ toks at_)).s W (hkw.mF (gR.of_below (O:=[]) hW) (by simp))
  simpa[kU]using this
 have CA:qes (∀W W' b1' b2',Below w.heap.size w W->nW R T j 148 W.heap.size b1' b2' W'->Below W.heap.size W W'->Calls ah 179 #[.pointer (some ⟨b1',0,none⟩),.pointer (some ⟨b2',0,none⟩)] W' fun e w'=>((gQ toks at_).k=1/\e=.returned .nilIface/\Put B R T j t cs (.string (gQ toks at_).s) tv toks (at_+1) hv sv mn fa fc dp W' w')\/(¬ (gQ toks at_).k=1/\e=.returned (ln t0)/\RB B R tv toks at_ hv sv mn fa fc dp w'/\gR [R] W' w')):=fun W W' b1' b2' hW hc' hW'=>by
  have hb:Below w.heap.size w W':=hW.trans (hW'.mono hW.size);exact uP (HH.o.below hb) hl hs hc' ((World.cell?_of_block (hb.block 0 l0)).trans HE.o) ((hb.block T lT).trans HT.o) hj hTR hTB (aJ lT hW.size)
 clear hc h hT hs he hkw;unfold oG at t1;have fd:=uQ (gQ toks at_).k (gQ toks at_).n (gQ toks at_).t (gQ toks at_).at_ (gQ toks at_).s;go_enter Tryz.func146,Tryz.ntmps146;go_wp2_with fail;refine t1.mono ?_;rintro e w1 ⟨rfl,hb1⟩;have HB1:=qet hb1;have t2:=CN.o w1 hb1;have q0:w1.cell? ⟨0,0,none⟩=some (ln t0):=(World.cell?_of_block (hb1.block 0 l0)).trans HE.o;have q1:w1.cell? ⟨b1,0,none⟩=some (.pointer (some ⟨R,0,none⟩)):=(World.cell?_of_block (hb1.block b1 l1)).trans d1;have q2:w1.cell? ⟨b2,0,none⟩=some (.pointer (some ⟨T,j,none⟩)):=(World.cell?_of_block (hb1.block b2 l2)).trans d2;clear t1 hb1 d1 d2;go_wp2_with fail;refine t2.mono ?_;rintro e w2 ⟨rfl,rfl⟩;clear t2
 cases hn:nameB (kU (gQ toks at_)).s with
 |false=>
  have HN:=qet hn;clear hn;go_wp2;go_ret;exact .inr ⟨fun q=>(by have:=q.1;rw[HN.o]at this;cases this),rfl,HH.o.below HB1.o,gR.of_below HB1.o⟩
 |true=>
  have HN:=qet hn;clear hn;have t3:=uO R T j w2;unfold jR at t3;go_wp2_with fail;refine t3.mono ?_;rintro e w3 ⟨b1',b2',rfl,hc3,hb3⟩;have t4:=CA.o w2 w3 b1' b2' HB1.o hc3 hb3;have HB3:=qet (HB1.o.trans (hb3.mono HB1.o.size));clear t3 hc3 hb3 q0 q1 q2;go_wp2_with fail;refine t4.mono ?_;rintro e w4 (⟨hk,rfl,hp⟩|⟨hk,rfl,hp,hkp⟩)
  ·have HP:=qet hp;have HK:=qet hk;clear t4 hp hk;go_wp2;go_ret;exact .inl ⟨⟨HN.o,HK.o⟩,rfl,HP.o.rb,HP.o.cell,(gR.of_below HB3.o).trans HP.o.keep⟩
  ·have HP:=qet hp;have HK:=qet hk;have HKP:=qet hkp;clear t4 hp hk hkp;go_wp2;go_ret;exact .inr ⟨fun q=>HK.o q.2,rfl,HP.o,(gR.of_below HB3.o).trans HKP.o⟩
theorem Td(x:Tv)(k:Int)(s:Bs):(decide (k=(kU x).kind)&&(s==(kU x).s))=decide (x.k=k/\x.s=⟨s.toArray⟩):=by
 show(decide (k=x.k)&&(s==x.s.data.toList))=_;rw[bh];simp only[aH,decide_eq_true_eq,beq_iff_eq]
 constructor
 ·rintro⟨a,b⟩;exact⟨a.symm,text_eq.2 b.symm⟩
 ·rintro⟨a,b⟩;exact⟨a.symm,(text_eq.1 b).symm⟩
theorem L0(n:Nat)(hn:n<7)(p:Int->Bs->Bool):(iK.find? fun r=>decide (r.1=(n:Int))&&p r.2.1 r.2.2.1).map (·.2.2.2)=((nh n).find? fun y=>p y.1 y.2.1).map (·.2.2):=by
 have hc:n=0\/n=1\/n=2\/n=3\/n=4\/n=5\/n=6:=by omega
 rcases hc with rfl|rfl|rfl|rfl|rfl|rfl|rfl
 ·simp[iK,nh,List.find?_cons]
  cases p 1 [79,82] <;> rfl
 ·simp[iK,nh,List.find?_cons]
  cases p 1 [88,79,82] <;> rfl
 ·simp[iK,nh,List.find?_cons]
  cases p 1 [65,78,68] <;> cases p 3 [38] <;> rfl
 ·simp[iK,nh,List.find?_cons]
  cases p 3 [61] <;> cases p 3 [60,62] <;> rfl
 ·simp[iK,nh,List.find?_cons]
  cases p 3 [60] <;> cases p 3 [60,61] <;> cases p 3 [62] <;> cases p 3 [62,61] <;> rfl
 ·simp[iK,nh,List.find?_cons]
  cases p 3 [43] <;> cases p 3 [45] <;> rfl
 ·simp[iK,nh,List.find?_cons]
  cases p 3 [42] <;> cases p 3 [47] <;> cases p 1 [77,79,68] <;> rfl
theorem yS(row:Int)(x:Tv):o6 row x=(iK.find? fun r=>decide (r.1=row)&&decide (x.k=r.2.1/\x.s=⟨r.2.2.1.toArray⟩)).map (·.2.2.2):=by
 unfold o6
 congr 2
 funext r
 rw[bh];simp
theorem D7(n:Nat)(hn:n<7)(x:Tv):r9 n (kU x)=o6 (n:Int) x:=by
 have e:(fun y:Int×Bs×Int=>decide (y.1=(kU x).kind)&&(y.2.1==(kU x).s))=fun y=>decide (x.k=y.1/\x.s=⟨y.2.1.toArray⟩):=by
  funext y
  exact Td x y.1 y.2.1
 rw[yS];unfold r9;rw[e];exact(L0 n hn (fun k s=>decide (x.k=k/\x.s=⟨s.toArray⟩))).symm
theorem PE(p:Int->Bs->Bool):(iK.find? fun r=>decide (r.1=(7:Int))&&p r.2.1 r.2.2.1).map (·.2.2.2)=if p 1 [78,79,84]then some 16 else if p 3 [45]then some 15 else none:=by
 simp[iK,List.find?_cons]
 cases p 1 [78,79,84] <;> cases p 3 [45] <;> rfl
theorem D8(x:Tv):unOp (kU x)=o6 7 x:=by
 rw[yS,PE (fun k s=>decide (x.k=k/\x.s=⟨s.toArray⟩))];unfold unOp;have e1:(kU x).kind=x.k:=rfl;have e2:(kU x).s=x.s.data.toList:=rfl;rw[e1,e2]
 by_cases h1:x.k=1/\x.s=⟨[78,79,84].toArray⟩
 ·rw[if_neg (by rw[h1.1];simp),if_pos ⟨h1.1,text_eq.1 h1.2⟩,if_pos (by simpa using h1)]
 ·by_cases h3:x.k=3/\x.s=⟨[45].toArray⟩
  ·rw[if_pos ⟨h3.1,text_eq.1 h3.2⟩,if_neg (by simpa using h1),if_pos (by simpa using h3)]
  ·rw[if_neg (fun q=>h3 ⟨q.1,text_eq.2 q.2⟩),if_neg (fun q=>h1 ⟨q.1,text_eq.2 q.2⟩),if_neg (by simpa using h1),if_neg (by simpa using h3)]
theorem D9(row:Int):o6 row Ai=none:=by
 rw[yS];have:∀r∈iK,¬ (Ai.k=r.2.1):=by decide
 rw[Option.map_eq_none_iff,List.find?_eq_none];intro r hr;have:=this r hr;simp[this]
variable {f:Nat}{op:Nat}{i:Nat}
theorem PF(hlt:i<toks.length)(hk:(gQ toks i).k=2):rd (f+1) .pri op (lst toks i)=some (.ok ([uz (gQ toks i).n (gQ toks i).t],lst toks (i+1))):=by
 rw[jL hlt];unfold rd;simp only[];rw[if_pos (show(kU (gQ toks i)).kind=2 from hk)];rfl
theorem Jr(h1:(gQ toks i).k≠1)(h2:(gQ toks i).k≠2):rd (f+1) .pri op (lst toks i)=within [40] [41] op (lst toks i) (rd f (.row 0) (op+1)):=by
 rcases bZ i toks.length with hlt|hge
 ·rw[jL hlt];unfold rd;simp only[];have e:(kU (gQ toks i)).kind=(gQ toks i).k:=rfl;rw[e,if_neg h2,if_neg (fun q=>h1 q.1),if_neg (fun q=>h1 q.1),if_neg (fun q=>h1 q.1),if_neg (fun q=>h1 q.1)]
 ·rw[nF hge];rfl
variable {res:qC}{ps:List Pv}
theorem uR{e:Ending}(h:PostR B R tv toks op ps fa fc res w e w'):∃bb,e=.returned (.bool bb):=by
 obtain⟨_,h⟩:=h
 cases res with
 |error z=>obtain⟨_,_⟩:=z;exact⟨_,h.1⟩
 |ok z=>obtain⟨_,_⟩:=z;exact⟨_,h.1⟩
theorem PostR.from{e:Ending}(hk:Keep B R w w1)(h:PostR B R tv toks op ps fa fc res w1 e w'):PostR B R tv toks op ps fa fc res w e w':=⟨hk.trans h.1,h.2⟩
def L3(B R P1 P2:Nat)(tv:Value)(toks:List Tv)(f:Nat):Prop:=∀(at_ op:Nat)(ps:List Pv)(fa fc:Int)(w:World)(res:qC),op<=200->ps.length<=at_->RS B R tv toks at_ op ps fa fc w->Env B R P1 P2 w->rd f .pri op (lst toks at_)=some res->
 Calls ah 225 #[.pointer (some ⟨R,0,none⟩),nM P1 P2] w (PostR B R tv toks op ps fa fc res w)
def L4(B R P1 P2:Nat)(tv:Value)(toks:List Tv)(f:Nat):Prop:=∀(at_ op:Nat)(ps:List Pv)(fa fc:Int)(w:World)(res:qC),op<=200->ps.length<=at_->RS B R tv toks at_ op ps fa fc w->Env B R P1 P2 w->rd f .uA op (lst toks at_)=some res->
 Calls ah 212 #[.pointer (some ⟨R,0,none⟩),nM P1 P2] w (PostR B R tv toks op ps fa fc res w)
variable {P1:Nat}{P2:Nat}
theorem Te(IH:yH B R P1 P2 tv toks f)(RH:uL B R tv toks)(hl:toks.length<=3000000000000):L3 B R P1 P2 tv toks (f+1):=by
 intro at_ op ps fa fc w res ho hp h he hr;have c1:=next_any h (by omega);have hle:=h.le;have sy:=h.here;have HH:=qet h;have HE:=qet he;obtain⟨FV,xI⟩:∃FV,FV=nM P1 P2:=⟨_,rfl⟩
 have PB:=qet xI;rw[<-xI];clear h he xI
 have hat:∀kk:Int,kk≠0->(gQ toks at_).k=kk->at_<toks.length:=fun kk hk0 hk=>by
  rcases bZ at_ toks.length with h|h
  ·exact h
  ·rw[nN h]at hk;exact absurd hk.symm hk0
 by_cases h2:(gQ toks at_).k=2
 ·have hlt:=hat 2 (by decide) h2
  have HR2:qes (res=.ok ([uz (gQ toks at_).n (gQ toks at_).t],lst toks (at_+1))):=by
   show _=_;rw[PF hlt h2]at hr;exact(an hr).symm
  have c2:=fun(W:World)(h:RS B R tv toks (at_+1) op ps fa fc W)=>add_any h (by omega) ⟨1,(gQ toks at_).n,(gQ toks at_).t,⟨#[]⟩,⟨#[]⟩⟩
  have i3:(at_:Int)<=3000000000000:=by omega
  have i4:(0:Int)<=(at_:Int):=by omega
  have A0:=qet hlt;clear hr hat hlt;obtain⟨X,hX⟩:∃X,X=gQ toks at_:=⟨_,rfl⟩
  rw[<-hX]at c1 c2 h2 HR2;clear hX;obtain⟨xk,xs,xn,xt,xa⟩:=X;simp only[]at h2;subst h2;unfold oG at c1;simp only[]at c1 c2 HR2;go_enter Tryz.func225,Tryz.ntmps225;go_wp2_with fail;refine c1.mono ?_;rintro e w1 ⟨rfl,hb1⟩;have b1:=hb1.alloc hb1.size (.cells #[.int .i64 2,.string xs,.int .i64 xn,.int .i64 xt,.int .i64 xa] 54);have r1:=HH.o.below b1;obtain⟨f1,_,f3⟩:=r1.cells;obtain⟨r2,k2⟩:=r1.step A0.o;have c3:=c2 _ r2;have K1:=qet ((Keep.of_below (R:=R) b1 hle).trans k2);clear c1 c2 hb1 b1 r1 r2 k2;go_wp2_with fail;refine c3.mono ?_;rintro e w2 ⟨rfl,hr2,hk2⟩;have R2:=qet hr2;have K2:=qet (K1.o.trans hk2);clear c3 hr2 hk2;go_wp2;go_ret;refine⟨K2.o,?_⟩;rw[HR2.o];refine⟨rfl,[⟨1,xn,xt,⟨#[]⟩,⟨#[]⟩⟩],rfl,?_⟩;rw[iM,show toks.length-(toks.length-(at_+1))=at_+1 from by have:=A0.o;omega];exact R2.o
 by_cases h1:(gQ toks at_).k=1
 ·have hlt:=hat 1 (by decide) h1;rw[LO hlt h1]at hr
  have c2:∀W,RS B R tv toks at_ op ps fa fc W->Env B R P1 P2 W->Calls ah 234 #[.pointer (some ⟨R,0,none⟩),.string (gQ toks at_).s,nM P1 P2] W (PostR B R tv toks op ps fa fc res W):=fun W h he=>by
   by_cases ht:(gQ toks at_).s.data.toList=qS
   ·have:=DU (P1:=P1) (P2:=P2) (f:=f) hl 1 qS (.inl ⟨rfl,rfl⟩) at_ op ps fa fc W res hp hlt h (by rw[<-ht];exact hr);rw[<-text_eq.2 ht]at this;exact this
   ·by_cases hf:(gQ toks at_).s.data.toList=qT
    ·have:=DU (P1:=P1) (P2:=P2) (f:=f) hl 0 qT (.inr ⟨rfl,rfl⟩) at_ op ps fa fc W res hp hlt h (by rw[<-hf];exact hr);rw[<-text_eq.2 hf]at this;exact this
    ·exact F9 IH RH hl _ ht hf at_ op ps fa fc W res ho hp hlt h he hr
  rw[<-PB.o]at c2;clear hr hat hlt h2;obtain⟨X,hX⟩:∃X,X=gQ toks at_:=⟨_,rfl⟩
  rw[<-hX]at c1 c2 h1;clear hX;obtain⟨xk,xs,xn,xt,xa⟩:=X;simp only[]at h1;subst h1;unfold oG at c1;simp only[]at c1 c2;go_enter Tryz.func225,Tryz.ntmps225;go_wp2_with fail;refine c1.mono ?_;rintro e w1 ⟨rfl,hb1⟩;have b1:=hb1.alloc hb1.size (.cells #[.int .i64 1,.string xs,.int .i64 xn,.int .i64 xt,.int .i64 xa] 54);have c3:=c2 _ (HH.o.below b1) (HE.o.below b1 hle);have K1:=qet (Keep.of_below (R:=R) b1 hle);clear c1 c2 hb1 b1;go_wp2_with fail;refine c3.mono ?_;rintro e w2 hpost;obtain⟨bb,rfl⟩:=uR hpost;have HP:=qet (PostR.from K1.o hpost);clear c3 hpost;go_wp2;go_ret;exact HP.o
 ·rw[Jr h1 h2]at hr;have c2:=fun W h1 h2=>tR IH hl [40] [41] at_ op ps fa fc W res ho hp h1 h2 hr
  rw[<-PB.o]at c2;clear hr hat;obtain⟨X,hX⟩:∃X,X=gQ toks at_:=⟨_,rfl⟩
  rw[<-hX]at c1 h1 h2;clear hX;obtain⟨xk,xs,xn,xt,xa⟩:=X;simp only[]at h1 h2;have q1:(xk==1)=false:=by rw[beq_eq_false_iff_ne];exact h1
  have q2:(xk==2)=false:=by rw[beq_eq_false_iff_ne];exact h2
  unfold oG at c1;simp only[]at c1;clear h1 h2;go_enter Tryz.func225,Tryz.ntmps225;go_wp2_with fail;refine c1.mono ?_;rintro e w1 ⟨rfl,hb1⟩;have b1:=hb1.alloc hb1.size (.cells #[.int .i64 xk,.string xs,.int .i64 xn,.int .i64 xt,.int .i64 xa] 54);have c3:=c2 _ (HH.o.below b1) (HE.o.below b1 hle);have K1:=qet (Keep.of_below (R:=R) b1 hle);clear c1 c2 hb1 b1;go_wp2_with fail;refine c3.mono ?_;rintro e w2 hpost;obtain⟨bb,rfl⟩:=uR hpost;have HP:=qet (PostR.from K1.o hpost);clear c3 hpost;go_wp2;go_ret;exact HP.o
def L5(B R P1 P2:Nat)(tv:Value)(toks:List Tv)(f:Nat):Prop:=∀(at_ op:Nat)(ps:List Pv)(fa fc:Int)(w:World)(res:qC),op<=200->ps.length<=at_->RS B R tv toks at_ op ps fa fc w->Env B R P1 P2 w->rd f .uA op (lst toks at_)=some res->
 Calls ah 211 #[.int .i64 7,.pointer (some ⟨P1,0,none⟩),.pointer (some ⟨P2,0,none⟩)] w (PostR B R tv toks op ps fa fc res w)
theorem L6(IH:L4 B R P1 P2 tv toks f):L5 B R P1 P2 tv toks f:=by
 intro at_ op ps fa fc w res ho hp h he hr;have c:=IH at_ op ps fa fc w res ho hp h he hr;have e1:=he.c1;have e2:=he.c2;obtain⟨FV,xI⟩:∃FV,FV=nM P1 P2:=⟨_,rfl⟩
 rw[<-xI]at c e2;clear h he hr xI;go_enter Tryz.func211,Tryz.ntmps211;go_wp2_with fail;refine c.mono ?_;rintro e w2 hpost;obtain⟨bb,rfl⟩:=uR hpost;have HP:=qet hpost;clear c hpost;go_wp2;go_ret;exact HP.o
theorem L7(h:o6 7 (gQ toks i)=none):rd (f+1) .uA op (lst toks i)=rd f .pri op (lst toks i):=by
 rcases bZ i toks.length with hlt|hge
 ·rw[jL hlt]
  conv=>lhs;unfold rd
  simp only[];rw[D8,h]
 ·rw[nF hge];rfl
theorem L8(h:o6 7 (gQ toks i)=some k)(hlt:i<toks.length):rd (f+1) .uA op (lst toks i)=if 200<=op then some (.error ((lst toks (i+1)).length+1,2))else vP (KY k) (rd f .uA (op+1) (lst toks (i+1))):=by
 rw[jL hlt]
 conv=>lhs;unfold rd
 simp only[];rw[D8,h]
theorem Tf(IP:L3 B R P1 P2 tv toks f)(IT:L5 B R P1 P2 tv toks f)(hl:toks.length<=3000000000000):L4 B R P1 P2 tv toks (f+1):=by
 intro at_ op ps fa fc w res ho hp h he hr;have c1:=tF h (by omega) 7 he.tG.ops;have hle:=h.le;have HH:=qet h;have HE:=qet he;obtain⟨FV,xI⟩:∃FV,FV=nM P1 P2:=⟨_,rfl⟩
 have PB:=qet xI;clear h he
 cases hq:o6 7 (gQ toks at_)with
 |none=>
  rw[hq]at c1;rw[L7 hq]at hr;have c2:=fun W h1 h2=>IP at_ op ps fa fc W res ho hp h1 h2 hr
  rw[<-xI]at c2 ⊢;unfold DP at c1;simp only[]at c1;clear hr hq xI;go_enter Tryz.func212,Tryz.ntmps212;go_wp2_with fail;refine c1.mono ?_;rintro e w1 ⟨rfl,hb1⟩;have c3:=c2 _ (HH.o.below hb1) (HE.o.below hb1 hle);have K1:=qet (Keep.of_below (R:=R) hb1 hle);clear c1 c2 hb1;go_wp2_with fail;refine c3.mono ?_;rintro e w2 hpost;obtain⟨bb,rfl⟩:=uR hpost;have HP:=qet (PostR.from K1.o hpost);clear c3 hpost;go_wp2;go_ret;exact HP.o
 |some k=>
  rw[hq]at c1
  have hlt:at_<toks.length:=by
   rcases bZ at_ toks.length with h|h
   ·exact h
   ·rw[nN h,D9]at hq
    cases hq
  rw[L8 hq hlt]at hr;unfold DP at c1;simp only[]at c1
  by_cases h2:op=200
  ·rw[if_pos (by omega),iM]at hr
   have HR2:qes (res=.error (toks.length-at_,2)):=by
    show _=_;rw[<-an hr]
    congr 2
    omega
   rw[<-xI];clear hr hq xI;go_enter Tryz.func212,Tryz.ntmps212;go_wp2_with fail;refine c1.mono ?_;rintro e w1 ⟨rfl,hb1⟩;have c2:=AU (HH.o.below hb1) h2;have K1:=qet (Keep.of_below (R:=R) hb1 hle);clear c1 hb1 h2;go_wp2_with fail;refine c2.mono ?_;rintro e w2 ⟨rfl,hr2,hk2⟩;have R2:=qet hr2;have K2:=qet (K1.o.trans hk2);clear c2 hr2 hk2;go_wp2;go_ret;refine⟨K2.o,?_⟩;rw[HR2.o];refine⟨rfl,at_,op,ps,?_⟩;rw[show((toks.length-(toks.length-at_):Nat):Int)=(at_:Int)from by omega];exact R2.o
  ·rw[if_neg (by omega)]at hr
   cases hz:rd f .uA (op+1) (lst toks (at_+1))with
   |none=>rw[hz]at hr;cases hr
   |some z=>
    rw[hz]at hr;have HRR:=qet hr;have HZ:=qet hz;unfold nM;clear hr hq hz xI PB;go_enter Tryz.func212,Tryz.ntmps212;go_wp2_with fail;refine c1.mono ?_;rintro e w1 ⟨rfl,hb1⟩;have c2:=AV (HH.o.below hb1) (by omega) (by omega) hlt;have E1:=qet (HE.o.below hb1 hle);have K1:=qet (Keep.of_below (R:=R) hb1 hle);clear c1 hb1;go_wp2_with fail;refine c2.mono ?_;rintro e w2 ⟨rfl,hr2,hk2⟩;have c3:=IT (at_+1) (op+1) ps fa fc w2 z (by omega) (by omega) hr2 (E1.o.keep hk2) HZ.o;have K2:=qet (K1.o.trans hk2);clear c2 hr2 hk2 E1 K1;go_wp2_with fail;refine c3.mono ?_;rintro e w3 ⟨hk3,hp3⟩;have K3:=qet (K2.o.trans hk3);clear c3 hk3 K2
    cases z with
    |error z=>
     obtain⟨kk,c⟩:=z;simp only[]at hp3;obtain⟨rfl,at2,op2,ps2,hr3⟩:=hp3;have R3:=qet hr3;have HR2:qes (res=.error (kk,c)):=(an HRR.o).symm;clear hr3;go_wp2;go_ret;refine⟨K3.o,?_⟩;rw[HR2.o];exact⟨rfl,at2,op2,ps2,R3.o⟩
    |ok z=>
     obtain⟨x,r⟩:=z;simp only[]at hp3;obtain⟨rfl,xs,hxs,hr3⟩:=hp3;have hpp:=(jA HZ.o).parts;rw[iM]at hpp;have hxl:xs.length=x.length:=by rw[<-hxs,aQ]
     obtain⟨_,d2,d3⟩:=hr3.cells;obtain⟨r4,k4⟩:=hr3.shut;have c4:=add_any r4 (by rw[ao];omega) ⟨5,k,0,⟨#[]⟩,⟨#[]⟩⟩;have HR2:qes (res=.ok (x++[KY k],r)):=(an HRR.o).symm;have F5:=qet hxs;have K4:=qet (K3.o.trans k4);simp only[]at c4;have Yz:w3.cell? ⟨R,2,none⟩=some (.int .i64 ((op:Int)+1)):=d2;have i5:(op:Int)<=200:=by omega
     have i6:(0:Int)<=(op:Int):=by omega
     clear hr3 hxs hxl hpp r4 k4 d2;go_wp2_with fail;refine c4.mono ?_;rintro e w5 ⟨rfl,AW,hk5⟩;have R5:=qet AW;have K5:=qet (K4.o.trans hk5);clear c4 AW hk5;go_wp2;go_ret;refine⟨K5.o,?_⟩;rw[HR2.o];refine⟨rfl,xs++[⟨5,k,0,⟨#[]⟩,⟨#[]⟩⟩],by rw[bB,F5.o];rfl,?_⟩;rw[<-aO];exact R5.o
def glue(x:List Pt):qC->qC
 | .ok (y,r)=>.ok (x++y,r)
 | .error e=>.error e
theorem Js{l:List Tk}(hn:n<7)(h:rd (f+1) (.row n) op l=some res):(∃e,rd f (.row (n+1)) op l=some (.error e)/\res=.error e)\/∃x r z,rd f (.row (n+1)) op l=some (.ok (x,r))/\rd f (.loop n) op r=some z/\res=glue x z:=by
 unfold rd at h;rw[if_neg (by omega)]at h
 cases h1:rd f (.row (n+1)) op l with
 |none=>rw[h1]at h;cases h
 |some z=>
  rw[h1]at h
  cases z with
  |error e=>exact .inl ⟨e,rfl,(an h).symm⟩
  |ok z=>
   obtain⟨x,r⟩:=z;simp only[]at h
   cases h2:rd f (.loop n) op r with
   |none=>rw[h2]at h;cases h
   |some z=>
    rw[h2]at h
    cases z with
    |error e=>exact .inr ⟨x,r,.error e,rfl,h2,(an h).symm⟩
    |ok z=>
     obtain⟨y,r'⟩:=z;exact .inr ⟨x,r,.ok (y,r'),rfl,h2,(an h).symm⟩
theorem Jt{z:qC}(hn:n<7)(h:rd g (.loop n) op (lst toks i)=some z)(ho:o6 (n:Int) (gQ toks i)=none):z=.ok ([],lst toks i):=by
 cases g with
 |zero=>cases h
 |succ g=>
  rcases bZ i toks.length with hlt|hge
  ·rw[jL hlt]at h ⊢;unfold rd at h;simp only[]at h;rw[D7 n hn,ho]at h;exact(an h).symm
  ·rw[nF hge]at h ⊢;exact(an h).symm
theorem Ju{z:qC}(hn:n<7)(hlt:i<toks.length)(h:rd g (.loop n) op (lst toks i)=some z)(ho:o6 (n:Int) (gQ toks i)=some k):∃g',g=g'+1/\((∃e,rd g' (.row (n+1)) op (lst toks (i+1))=some (.error e)/\z=.error e)\/∃x r z',rd g' (.row (n+1)) op (lst toks (i+1))=some (.ok (x,r))/\rd g' (.loop n) op r=some z'/\z=glue (x++[KY k]) z'):=by
 cases g with
 |zero=>cases h
 |succ g=>
  refine⟨g,rfl,?_⟩;rw[jL hlt]at h;unfold rd at h;simp only[]at h;rw[D7 n hn,ho]at h;simp only[]at h
  cases h1:rd g (.row (n+1)) op (lst toks (i+1))with
  |none=>rw[h1]at h;cases h
  |some y=>
   rw[h1]at h
   cases y with
   |error e=>exact .inl ⟨e,rfl,(an h).symm⟩
   |ok y=>
    obtain⟨x,r⟩:=y;simp only[]at h
    cases h2:rd g (.loop n) op r with
    |none=>rw[h2]at h;cases h
    |some z'=>
     rw[h2]at h
     cases z' with
     |error e=>exact .inr ⟨x,r,.error e,rfl,h2,(an h).symm⟩
     |ok z'=>
      obtain⟨y,r'⟩:=z';refine .inr ⟨x,r,.ok (y,r'),rfl,h2,?_⟩;rw[<-an h];show _=fR (x++[KY k]++y,r');rw[aO];rfl
theorem Jv(x y:List Pt)(z:qC):glue x (glue y z)=glue (x++y) z:=by
 cases z with
 |error e=>rfl
 |ok z=>obtain⟨a,r⟩:=z;show fR (x++(y++a),r)=fR (x++y++a,r);rw[aO]
def left(R n:Nat)(w:World):Nat:=match w.cell? ⟨R,1,none⟩with
 |some (.int _ a)=>n-a.toNat
 |_=>0
theorem left_of(h:RS B R tv toks at_ op ps fa fc w)(n:Nat):left R n w=n-at_:=by
 unfold left;rw[h.cells.1];simp
theorem Tg(IH:∀g,g<=f->yH B R P1 P2 tv toks g)(IT:L5 B R P1 P2 tv toks f)(hl:toks.length<=3000000000000):yH B R P1 P2 tv toks (f+1):=by
 intro n at_ op ps fa fc w res hn ho hp h he hr
 by_cases h7:n=7
 ·subst h7
  have hr':rd f .uA op (lst toks at_)=some res:=by
   unfold rd at hr;rw[if_pos (by omega)]at hr;exact hr
  exact IT at_ op ps fa fc w res ho hp h he hr'
 have YI:n<7:=by omega
 have hle:=h.le;have e1:=he.c1;have e2:=he.c2;have hB:=h.hB;have q7:((n:Int)==7)=false:=by rw[beq_eq_false_iff_ne];omega
 have n6:(n:Int)<=6:=by omega
 have n0:(0:Int)<=(n:Int):=by omega
 have sy:=h.here;have HE:=qet he;have GP:=IH f (aj _)
 have hc:∀(g at2:Nat)(ps2:List Pv)(W:World)(z:qC),g<=f->ps2.length<=at2->RS B R tv toks at2 op ps2 fa fc W->Env B R P1 P2 W->rd g (.row (n+1)) op (lst toks at2)=some z->Calls ah 211 #[.int .i64 ((n:Int)+1),.pointer (some ⟨P1,0,none⟩),.pointer (some ⟨P2,0,none⟩)] W (PostR B R tv toks op ps2 fa fc z W):=fun g at2 ps2 W z hg hp2 h2 he2 hr2=>by
  have:=IH g hg (n+1) at2 op ps2 fa fc W z (by omega) ho hp2 h2 he2 hr2;rw[show((n+1:Nat):Int)=(n:Int)+1 from by omega]at this;exact this
 have HC:=qet hc;unfold nM at e2
 rcases Js YI hr with⟨er,hr1,rfl⟩|⟨x,r,z,hr1,hr2,hres⟩
 ·have c1:=hc f at_ ps w (.error er) (aj _) hp h he hr1;obtain⟨kk,c⟩:=er;clear h he hr hr1 hc GP IH;go_enter Tryz.func211,Tryz.ntmps211;go_wp2_with fail;refine c1.mono ?_;rintro e w1 ⟨hk1,rfl,hp1⟩;have K1:=qet hk1;have P1':=qet hp1;clear c1 hk1 hp1;go_wp2;go_ret;exact⟨K1.o,rfl,P1'.o⟩
 ·have c1:=hc f at_ ps w (.ok (x,r)) (aj _) hp h he hr1;obtain⟨hrest,hrl⟩:=uK hr1 sy;have hpp:=(jA hr1).parts;rw[iM]at hpp;have HR1:=qet hr1;have B4:=qet hres;have HR2:=qet hr2;clear h he hr hr1 hc GP IH hr2 hres;go_enter Tryz.func211,Tryz.ntmps211;go_wp2_with fail;refine c1.mono ?_;rintro e w1 ⟨hk1,rfl,xs,hxs,hr1⟩;have hxl:xs.length=x.length:=by rw[<-hxs,aQ]
  have HS:qes (∃(g at2:Nat)(ys:List Pv)(z':qC),g<=f/\at2<=toks.length/\(ps++ys).length<=at2/\RS B R tv toks at2 op (ps++ys) fa fc w1/\Keep B R w w1/\rd g (.loop n) op (lst toks at2)=some z'/\res=glue (ys.map kO) z'):=
   ⟨f,toks.length-r.length,xs,z,aj _,by omega,by rw[ao];omega,hr1,hk1,by rw[<-hrest];exact HR2.o,by rw[hxs];exact B4.o⟩
  clear c1 hk1 hxs hr1 hxl hpp hrest hrl B4 HR2 HR1;go_wp2_with fail
  go_loopw [5] (fun _ wr=>qes (∃(g at2:Nat)(ys:List Pv)(z':qC),g<=f/\at2<=toks.length/\(ps++ys).length<=at2/\RS B R tv toks at2 op (ps++ys) fa fc wr/\Keep B R w wr/\rd g (.loop n) op (lst toks at2)=some z'/\res=glue (ys.map kO) z')) (fun _ wr=>left R toks.length wr)
  case atStart=>exact HS.o
  case round=>
   clear HS;obtain⟨g,at2,ys,z',hg,hat,hpy,hrs,hkw,hrd,hres⟩:=hrel.o;clear hrel;have E2:=HE.o.keep hkw;have s1:=E2.c1;have s2:=E2.c2;unfold nM at s2;have c2:=tF hrs (by omega) (n:Int) E2.tG.ops;have hle2:=hrs.le;have RR:=qet hrs;have KW:=qet hkw;have EE:=qet E2;have YJ:=qet hrd;have B4:=qet hres;clear hrs hkw E2 hrd hres e1 e2
   cases hq:o6 (n:Int) (gQ toks at2)with
   |none=>
    rw[hq]at c2;have HZ:=qet (Jt YI YJ.o hq);unfold DP at c2;simp only[]at c2;clear hq;go_wp2_with fail;refine c2.mono ?_;rintro e w2 ⟨rfl,hb2⟩;have R2:=qet (RR.o.below hb2);have K2:=qet (KW.o.trans (Keep.of_below (R:=R) hb2 hle2));clear c2 hb2;go_wp2;go_ret;refine⟨K2.o,?_⟩;rw[B4.o,HZ.o];show _/\_;refine⟨rfl,ys,by rw[bm],?_⟩;rw[iM,show toks.length-(toks.length-at2)=at2 from by omega];exact R2.o
   |some k=>
    rw[hq]at c2
    have hlt:at2<toks.length:=by
     rcases bZ at2 toks.length with h|h
     ·exact h
     ·rw[nN h,D9]at hq
      cases hq
    obtain⟨g',rfl,hcase⟩:=Ju YI hlt YJ.o hq;unfold DP at c2;simp only[]at c2;have L9:=qet hcase;have i3:(at2:Int)<=3000000000000:=by omega
    have i4:(0:Int)<=(at2:Int):=by omega
    have VN:=qet (left_of RR.o toks.length);clear hq hcase YJ;go_wp2_with fail;refine c2.mono ?_;rintro e w2 ⟨rfl,hb2⟩;have r2:=RR.o.below hb2;have k2:=Keep.of_below (R:=R) hb2 hle2;obtain⟨d1,_,d3⟩:=r2.cells;obtain⟨r3,k3⟩:=r2.step hlt;have E3:=(EE.o.keep k2).keep k3;have VO:=EE.o.keep k2;have t1:=VO.c1;have t2:=VO.c2;unfold nM at t2;have qcH:=VO.n1;have qcI:=VO.n2;have K3:=qet (KW.o.trans (k2.trans k3));have R3:=qet r3;have YK:=qet E3;clear c2 hb2 r2 k2 r3 k3 E3 VO s1 s2
    rcases L9.o with⟨er,hr1,hz⟩|⟨x2,r2,z2,hr1,hr2,hz⟩
    ·obtain⟨kk,c⟩:=er;have c3:=HC.o g' (at2+1) (ps++ys) _ (.error (kk,c)) (by omega) (by omega) R3.o YK.o hr1;have HZ:=qet hz;clear hr1 hz L9;go_wp2_with fail;refine c3.mono ?_;rintro e w3 ⟨hk3,rfl,hp3⟩;have K4:=qet (K3.o.trans hk3);have P3:=qet hp3;clear c3 hk3 hp3;go_wp2;go_ret;refine⟨K4.o,?_⟩;rw[B4.o,HZ.o];exact⟨rfl,P3.o⟩
    ·have c3:=HC.o g' (at2+1) (ps++ys) _ (.ok (x2,r2)) (by omega) (by omega) R3.o YK.o hr1;obtain⟨hrest,hrl⟩:=uK hr1 (by omega);have hpp:=(jA hr1).parts;rw[iM]at hpp;have HZ:=qet hz;have HR2:=qet hr2;clear hr1 hz L9 hr2;go_wp2_with fail;refine c3.mono ?_;rintro e w3 ⟨hk3,rfl,xs2,Th,hr3⟩;have hxl:xs2.length=x2.length:=by rw[<-Th,aQ]
     have E4:=YK.o.keep hk3;have u1:=E4.c1;have c4:=add_any hr3 (by rw[ao];omega) ⟨5,k,0,⟨#[]⟩,⟨#[]⟩⟩;simp only[]at c4;have K4:=qet (K3.o.trans hk3);have F5:=qet Th;clear c3 hk3 Th hr3 E4 t1 t2;go_wp2_with fail;refine c4.mono ?_;rintro e w4 ⟨rfl,hr4,hk4⟩;have HL4:=qet (left_of hr4 toks.length)
     have YL:qes (∃(g at2:Nat)(ys:List Pv)(z':qC),g<=f/\at2<=toks.length/\(ps++ys).length<=at2/\RS B R tv toks at2 op (ps++ys) fa fc w4/\Keep B R w w4/\rd g (.loop n) op (lst toks at2)=some z'/\res=glue (ys.map kO) z'):=by
      refine⟨g',toks.length-r2.length,ys++(xs2++[⟨5,k,0,⟨#[]⟩,⟨#[]⟩⟩]),z2,by omega,by omega,?_,?_,K4.o.trans hk4,by rw[<-hrest];exact HR2.o,?_⟩
      ·rw[ao]at hpy ⊢;rw[ao,ao];simp only[aG,eY];omega
      ·rw[<-aO,<-aO];exact hr4
      ·rw[B4.o,HZ.o,Jv,bB,bB,F5.o];rfl
     have HM:qes (left R toks.length w4<toks.length-at2):=by
      show _<_;rw[HL4.o];omega
     clear c4 hr4 hk4 hxl hpp hrest hrl;go_wp2
     go_roundw
     case rel=>exact YL.o
     case measure=>
      have h1:=HM.o;have h2:=VN.o;omega
theorem A2{B R P1 P2:Nat}{tv:Value}{toks:List Tv}(RH:uL B R tv toks)(hl:toks.length<=3000000000000):∀f,(∀g,g<=f->yH B R P1 P2 tv toks g)/\L4 B R P1 P2 tv toks f/\L3 B R P1 P2 tv toks f
 |0=>by
  refine⟨fun g hg=>?_,?_,?_⟩
  ·obtain rfl:g=0:=by omega
   intro n at_ op ps fa fc w res _ _ _ _ _ hr
   cases hr
  ·intro at_ op ps fa fc w res _ _ _ _ hr
   cases hr
  ·intro at_ op ps fa fc w res _ _ _ _ hr
   cases hr
 |f+1=>by
  obtain⟨h1,h2,h3⟩:=A2 RH hl f;refine⟨fun g hg=>?_,Tf h3 (L6 h2) hl,Te (h1 f (aj _)) RH hl⟩
  rcases bZ g (f+1)with h|h
  ·exact h1 g (by omega)
  ·obtain rfl:g=f+1:=by omega
   exact Tg h1 (L6 h2) hl
theorem Ma(hl:toks.length<=3000000000000)(hs:∀i,(gQ toks i).s.size<=140737488355000):uL B R tv toks:=by
 intro at_ op ps fa fc w name hp h;have c1:=next_any h (by omega);have hle:=h.le;have sy:=h.here;have HH:=qet h;have hsz:=hs at_;have i3:(at_:Int)<=3000000000000:=by omega
 have i4:(0:Int)<=(at_:Int):=by omega
 clear h hs
 by_cases h1:(gQ toks at_).k=1
 ·have hlt:at_<toks.length:=by
   rcases bZ at_ toks.length with h|h
   ·exact h
   ·rw[nN h]at h1;exact absurd h1 (by decide)
  have A0:=qet hlt;have H3:=qet h1;have c2:=fun(W:World)(h:RS B R tv toks (at_+1) op ps fa fc W)=>add_any h (by omega) ⟨4,0,0,name,(gQ toks at_).s⟩
  have HC:qes (∀(e:Ending)(w':World),(e=.returned (.bool true)/\Keep B R w w'/\RS B R tv toks (at_+1) op (ps++[⟨4,0,0,name,(gQ toks at_).s⟩]) fa fc w')->Keep B R w w'/\((at_<toks.length/\(gQ toks at_).k=1/\e=.returned (.bool true)/\RS B R tv toks (at_+1) op (ps++[⟨4,0,0,name,(gQ toks at_).s⟩]) fa fc w')\/(¬ (at_<toks.length/\(gQ toks at_).k=1)/\e=.returned (.bool false)/\RS B R tv toks at_ op ps (at_:Int) 60 w'))):=fun e w' h=>⟨h.2.1,.inl ⟨A0.o,H3.o,h.1,h.2.2⟩⟩
  suffices B6:Calls ah 239 #[.pointer (some ⟨R,0,none⟩),.string name] w fun e w'=>e=.returned (.bool true)/\Keep B R w w'/\RS B R tv toks (at_+1) op (ps++[⟨4,0,0,name,(gQ toks at_).s⟩]) fa fc w' from B6.mono HC.o
  clear HC hlt;obtain⟨X,hX⟩:∃X,X=gQ toks at_:=⟨_,rfl⟩
  rw[<-hX]at c1 c2 h1 hsz ⊢;clear hX H3;obtain⟨xk,xs,xn,xt,xa⟩:=X;simp only[]at h1 hsz;subst h1;unfold oG at c1;simp only[]at c1 c2 ⊢;have c4:=fun W=>o7 xs hsz W
  clear hsz;go_enter Tryz.func239,Tryz.ntmps239;go_wp2_with fail;refine c1.mono ?_;rintro e w1 ⟨rfl,hb1⟩;have b1:=hb1.alloc hb1.size (.cells #[.int .i64 1,.string xs,.int .i64 xn,.int .i64 xt,.int .i64 xa] 54);have r1:=HH.o.below b1;obtain⟨f1,_,f3⟩:=r1.cells;obtain⟨r2,k2⟩:=r1.step A0.o;have c3:=c4 ((w1.alloc (.cells #[.int .i64 1,.string xs,.int .i64 xn,.int .i64 xt,.int .i64 xa] 54)).setCell ⟨R,1,none⟩ (.int .i64 ((at_:Int)+1)));have hRw:R<w1.heap.size:=by have h1:=HH.o.hB;have h2:=hb1.size;omega
  have q1:((w1.alloc (.cells #[.int .i64 1,.string xs,.int .i64 xn,.int .i64 xt,.int .i64 xa] 54)).setCell ⟨R,1,none⟩ (.int .i64 ((at_:Int)+1))).cell? ⟨w1.heap.size,1,none⟩=some (.string xs):=by
   rw[World.cell?_setCell_other _ _ _ _ (fun x=>by injection x with x1 _ _;omega),af (aE w1 _)];rfl
  have K1:=qet ((Keep.of_below (R:=R) b1 hle).trans k2);have RR2:=qet r2;have hle2:=r2.le;clear c1 c4 hb1 b1 r1 r2 k2;clear hRw;go_wp2_with fail;refine c3.mono ?_;rintro e w2 ⟨rfl,hb2⟩;have K2:=qet (K1.o.trans (Keep.of_below (R:=R) hb2 hle2));have c5:=c2 _ (RR2.o.below hb2);clear c3 c2 hb2;go_wp2_with fail;refine c5.mono ?_;rintro e w3 ⟨rfl,hr3,hk3⟩;have R3:=qet hr3;have K3:=qet (K2.o.trans hk3);clear c5 hr3 hk3;go_wp2;go_ret;exact⟨rfl,K3.o,R3.o⟩
 ·have H3:=qet h1;have HC:qes (∀(e:Ending)(w':World),(e=.returned (.bool false)/\Keep B R w w'/\RS B R tv toks at_ op ps (at_:Int) 60 w')->Keep B R w w'/\((at_<toks.length/\(gQ toks at_).k=1/\e=.returned (.bool true)/\RS B R tv toks (at_+1) op (ps++[⟨4,0,0,name,(gQ toks at_).s⟩]) fa fc w')\/(¬ (at_<toks.length/\(gQ toks at_).k=1)/\e=.returned (.bool false)/\RS B R tv toks at_ op ps (at_:Int) 60 w'))):=fun e w' h=>⟨h.2.1,.inr ⟨fun q=>H3.o q.2,h.1,h.2.2⟩⟩
  suffices B6:Calls ah 239 #[.pointer (some ⟨R,0,none⟩),.string name] w fun e w'=>e=.returned (.bool false)/\Keep B R w w'/\RS B R tv toks at_ op ps (at_:Int) 60 w' from B6.mono HC.o
  clear HC H3;obtain⟨X,hX⟩:∃X,X=gQ toks at_:=⟨_,rfl⟩
  rw[<-hX]at c1 h1 hsz;clear hX;obtain⟨xk,xs,xn,xt,xa⟩:=X;simp only[]at h1 hsz;have q1:(xk==1)=false:=by rw[beq_eq_false_iff_ne];exact h1
  unfold oG at c1;simp only[]at c1;clear h1 hsz;go_enter Tryz.func239,Tryz.ntmps239;go_wp2_with fail;refine c1.mono ?_;rintro e w1 ⟨rfl,hb1⟩;have b1:=hb1.alloc hb1.size (.cells #[.int .i64 xk,.string xs,.int .i64 xn,.int .i64 xt,.int .i64 xa] 54);have c3:=rp (HH.o.below b1);have K1:=qet (Keep.of_below (R:=R) b1 hle);clear c1 hb1 b1;go_wp2_with fail;refine c3.mono ?_;rintro e w2 ⟨rfl,hr2,hk2⟩;have R2:=qet hr2;have K2:=qet (K1.o.trans hk2);clear c3 hr2 hk2;go_wp2;go_ret;exact⟨rfl,K2.o,R2.o⟩
theorem uS(w:World)(A C:Obj):((w.alloc A).alloc C).heap[w.heap.size+1]? =some C:=by
 have:=aE (w.alloc A) C;rw[aB]at this;exact this
theorem Al(R:Nat)(w:World):Calls ah 178 #[.pointer (some ⟨R,0,none⟩)] w fun e w'=>e=.returned (nM w.heap.size (w.heap.size+1))/\Below w.heap.size w w'/\w'.heap.size=w.heap.size+2/\w'.cell? ⟨w.heap.size,0,none⟩=some (.pointer (some ⟨R,0,none⟩))/\w'.cell? ⟨w.heap.size+1,0,none⟩=some (nM w.heap.size (w.heap.size+1)):=by
 have hst:(store ⟨w.heap.size+1,0,none⟩ (nM w.heap.size (w.heap.size+1))).run ah ((w.alloc (.cells #[.pointer (some ⟨R,0,none⟩)] 204)).alloc (.cells #[.nilFunc] 207))=.ok () (((w.alloc (.cells #[.pointer (some ⟨R,0,none⟩)] 204)).alloc (.cells #[.nilFunc] 207)).setCell ⟨w.heap.size+1,0,none⟩ (nM w.heap.size (w.heap.size+1))):=by
  rw[run_store _ _ _ _ _ rfl,af (uS w _ _),aC (uS w _ _) 0];rfl
 unfold nM at hst;go_enter Tryz.func178,Tryz.ntmps178;go_wp2;go_ret;refine⟨rfl,((aw _ _).alloc (aj _) _).alloc (by simp) _,by simp,?_,?_⟩
 ·rw[World.cell?_alloc_lt _ _ _ (by simp),af (aE w _)];rfl
 ·rw[af (uS w _ _)];rfl
theorem own_base{b':Nat}(h:w.ownsRow b e size v n xs)(hb:b'<=b):w.ownsRow b' e size v n xs:=
 ⟨h.1,h.2.imp id fun⟨g,cap,cur,r1,r2,r⟩=>⟨g,cap,cur,r1,aP hb r2,r⟩⟩
def wa(toks:List Tv)(at_:Nat)(w:World)(e:Ending)(w':World):Prop:=
 Below w.heap.size w w'/\match parse (lst toks at_)with
 | .ok (x,r)=>∃pv xs,xs.map kO=x/\e=.returned (.tuple #[pv,.int .i64 ((toks.length-r.length:Nat):Int),.agg #[.int .i64 0,.int .i64 0]])/\w'.ownsRow w.heap.size 42 5 pv xs.length (oE xs)
 | .error (k,c)=>e=.returned (.tuple #[.slice none 0 0,.int .i64 0,.agg #[.int .i64 ((toks.length-k:Nat):Int),.int .i64 c]])
def ended(l:List Tk)(res:qC):Except (Nat×Int) (List Pt×List Tk):=match res with
 | .error e=>.error e
 | .ok (x,r)=>if 500<x.length\/24<depth x then .error (l.length,2)else .ok (x,r)
theorem Mb{l:List Tk}(h:rd (fuel l) (.row 0) 0 l=some res):parse l=ended l res:=by
 unfold parse ended;rw[h]
 cases res with
 |error e=>rfl
 |ok p=>obtain⟨x,r⟩:=p;rfl
theorem Keep.down(h:Below a.heap.size a w)(hk:Keep B R w w')(hB:a.heap.size<=B)(hR:a.heap.size<=R):Below a.heap.size a w':=
 h.trans ⟨hk.os,hk.tape,hk.output,hk.size,fun k hk1=>hk.block k (by omega) (by omega)⟩
theorem parse_any(tv:Value)(toks:List Tv)(at_:Nat)(w:World)(hat:at_<=toks.length)(hl:toks.length<=3000000000000)(hs:∀i,(gQ toks i).s.size<=140737488355000)(hL:ku w tv toks)(hg:kZ w):Calls ah 144 #[tv,.int .i64 (at_:Int)] w (wa toks at_ w):=by
 obtain⟨res,hres⟩:∃res,rd (fuel (lst toks at_)) (.row 0) 0 (lst toks at_)=some res:=by
  cases hq:rd (fuel (lst toks at_)) (.row 0) 0 (lst toks at_)with
  |none=>exact absurd hq (nC _ _ _ _ (by unfold fuel;simp only[rank];omega))
  |some res=>exact⟨res,rfl⟩
 have qcM:=hg.lt;have HG:=qet hg;obtain⟨ta,tb,VP,Am,sA,hA,hT⟩:=hL;have Mc:=qet (Mb hres);have Ea:=qet ((A2 (P1:=w.heap.size+2) (P2:=w.heap.size+3) (Ma (B:=w.heap.size+4) (R:=w.heap.size+1) (tv:=tv) hl hs) hl (fuel (lst toks at_))).1 _ (aj _));have B4:=qet hres;have HA:=qet hA;have HT:=qet hT;have KG:=qet sA;have i1:(at_:Int)<=(toks.length:Int):=by omega
 have i0:¬ (at_:Int)<0:=by omega
 have i2:¬ (toks.length:Int)<(at_:Int):=by omega
 obtain⟨N,hN⟩:∃N,N=toks.length:=⟨_,rfl⟩
 rw[<-hN]at sA i1 i2;have HN:=qet hN;have c1:=Al (w.heap.size+1) ((w.alloc (.cells #[.int .i64 0,.int .i64 0] 27)).alloc (.cells #[tv,.int .i64 (at_:Int),.int .i64 0,.slice none 0 0,.int .i64 0,.int .i64 0] 206));have hzz:((w.alloc (.cells #[.int .i64 0,.int .i64 0] 27)).alloc (.cells #[tv,.int .i64 (at_:Int),.int .i64 0,.slice none 0 0,.int .i64 0,.int .i64 0] 206)).heap.size=w.heap.size+2:=by simp
 rw[hzz]at c1;have B0:qes (Below w.heap.size w ((w.alloc (.cells #[.int .i64 0,.int .i64 0] 27)).alloc (.cells #[tv,.int .i64 (at_:Int),.int .i64 0,.slice none 0 0,.int .i64 0,.int .i64 0] 206))):=((aw _ _).alloc (aj _) _).alloc (by simp) _
 have Hn:qes (((w.alloc (.cells #[.int .i64 0,.int .i64 0] 27)).alloc (.cells #[tv,.int .i64 (at_:Int),.int .i64 0,.slice none 0 0,.int .i64 0,.int .i64 0] 206)).heap[w.heap.size]? =some (.cells #[.int .i64 0,.int .i64 0] 27)):=by
  show _=_;rw[((aw (w.alloc (.cells #[.int .i64 0,.int .i64 0] 27)).heap.size (w.alloc (.cells #[.int .i64 0,.int .i64 0] 27))).alloc (aj _) _).block w.heap.size (by simp)];exact aE w _
 have HR0:qes (((w.alloc (.cells #[.int .i64 0,.int .i64 0] 27)).alloc (.cells #[tv,.int .i64 (at_:Int),.int .i64 0,.slice none 0 0,.int .i64 0,.int .i64 0] 206)).heap[w.heap.size+1]? =some (.cells #[tv,.int .i64 (at_:Int),.int .i64 0,.slice none 0 0,.int .i64 0,.int .i64 0] 206)):=uS w _ _
 have HW0:qes (∀w1:World,Below (w.heap.size+2) ((w.alloc (.cells #[.int .i64 0,.int .i64 0] 27)).alloc (.cells #[tv,.int .i64 (at_:Int),.int .i64 0,.slice none 0 0,.int .i64 0,.int .i64 0] 206)) w1->w1.heap.size=w.heap.size+2+2->w1.cell? ⟨w.heap.size+2,0,none⟩=some (.pointer (some ⟨w.heap.size+1,0,none⟩))->w1.cell? ⟨w.heap.size+2+1,0,none⟩=some (nM (w.heap.size+2) (w.heap.size+2+1))->Below w.heap.size w w1/\w1.heap[w.heap.size]? =some (.cells #[.int .i64 0,.int .i64 0] 27)/\RS (w.heap.size+4) (w.heap.size+1) tv toks at_ 0 [] 0 0 w1/\Env (w.heap.size+4) (w.heap.size+1) (w.heap.size+2) (w.heap.size+3) w1):=by
  intro w1 hb1 hz1 hc1 hc2;have B1:Below w.heap.size w w1:=B0.o.trans (hb1.mono (by omega));refine⟨B1,by rw[hb1.block _ (by omega)];exact Hn.o,⟨by omega,by omega,hat,⟨.slice none 0 0,by rw[hb1.block _ (by omega)];exact HR0.o,bS _ _ _ _⟩,⟨ta,tb,VP,Am,by rw[KG.o],fun h0=>⟨by have:=(HA.o h0).1;omega,by have:=(HA.o h0).1;omega,(HA.o h0).2⟩,fun i x hx=>?_⟩⟩,⟨HG.o.below B1 HG.o.lt,hc1,hc2,by omega,by omega,by omega,by omega,by omega,by omega⟩⟩;have hlt:=(HA.o (by have:=(List.getElem?_eq_some_iff.1 hx).1;omega)).1;obtain⟨h1,h2,h3,h4,h5⟩:=HT.o i x hx;exact⟨(B1.cell (p:=⟨tb,_,none⟩) hlt).trans h1,(B1.cell (p:=⟨tb,_,none⟩) hlt).trans h2,(B1.cell (p:=⟨tb,_,none⟩) hlt).trans h3,(B1.cell (p:=⟨tb,_,none⟩) hlt).trans h4,(B1.cell (p:=⟨tb,_,none⟩) hlt).trans h5⟩
 clear hzz B0 Hn HR0 HG KG HA HT;subst sA;have HLEN:=qet hl;clear hg hres hA hT hN hs hl;go_enter Tryz.func144,Tryz.ntmps144;go_wp2_with fail;refine c1.mono ?_;rintro e w1 ⟨rfl,hb1,hz1,hc1,hc2⟩;obtain⟨b1,f1,YM,J9⟩:=HW0.o w1 hb1 hz1 hc1 hc2;have c2:=Ea.o 0 at_ 0 [] 0 0 w1 res (by omega) (by omega) (Nat.zero_le _) YM J9 B4.o;have B1:=qet b1;have F1:=qet f1;have hR1:=YM.le;clear c1 hb1 hz1 hc1 hc2 HW0 Ea b1 f1 YM J9;unfold nM;go_wp2_with fail;refine c2.mono ?_;rintro e w2 ⟨hk2,hp2⟩;have B2:=qet (Keep.down B1.o hk2 (by omega) (by omega))
 have F2:qes (w2.heap[w.heap.size]? =some (.cells #[.int .i64 0,.int .i64 0] 27)):=by
  show _=_;rw[hk2.block _ (by omega) (by omega)];exact F1.o
 clear c2 hk2 B1 F1
 cases res with
 |error z=>
  obtain⟨k,c⟩:=z;simp only[]at hp2;unfold ended at Mc;simp only[]at Mc;obtain⟨rfl,at2,op2,ps2,hr2⟩:=hp2;obtain⟨pv,hrow,_⟩:=hr2.row;have d4:w2.cell? ⟨w.heap.size+1,4,none⟩=some (.int .i64 ((toks.length-k:Nat):Int)):=by rw[af hrow];rfl
  have d5:w2.cell? ⟨w.heap.size+1,5,none⟩=some (.int .i64 c):=by rw[af hrow];rfl
  have k0:w2.cell? ⟨w.heap.size,0,none⟩=some (.int .i64 0):=by rw[af F2.o];rfl
  have k1:w2.cell? ⟨w.heap.size,1,none⟩=some (.int .i64 0):=by rw[af F2.o];rfl
  have z0:∀j,w2.frozen? ⟨w.heap.size,j,none⟩=false:=fun j=>aC F2.o j
  clear hrow hr2;go_wp2
  go_region_with (fail)
  all_goals
   go_wp2;refine aU (v:=.tuple #[.slice none 0 0,.int .i64 0,.agg #[.int .i64 ((toks.length-k:Nat):Int),.int .i64 c]]) ?_ rfl ⟨?_,?_⟩
   ·simp[aV,ey,go_sem,k0,k1]
   ·exact((B2.o.setCell (p:=⟨w.heap.size,0,none⟩) (aj _) _).setCell (p:=⟨w.heap.size,1,none⟩) (aj _) _).drew
   ·rw[Mc.o]
 |ok z=>
  obtain⟨x,r⟩:=z;simp only[]at hp2;unfold ended at Mc;simp only[]at Mc;obtain⟨rfl,xs,hxs,hr2⟩:=hp2;obtain⟨pv,hrow,hown⟩:=hr2.row;rw[bQ]at hown;have hxl:xs.length=x.length:=by rw[<-hxs,aQ]
  have hpp:=(jA B4.o).parts;rw[iM]at hpp;obtain⟨pa,VQ,hpv,hpc⟩:=ll hown;have c3:=wP pv xs w2 (tQ.oF hown) (by have:=HLEN.o;omega);have SK:=qet (uH x);rw[hxs]at c3;have d1:w2.cell? ⟨w.heap.size+1,1,none⟩=some (.int .i64 ((toks.length-r.length:Nat):Int)):=by rw[af hrow];rfl
  have d3:w2.cell? ⟨w.heap.size+1,3,none⟩=some pv:=by rw[af hrow];rfl
  have sB:=qet hrow;have HOWN:=qet hown;have F5:=qet hxs;have n1:xs.length<=3000000000000:=by have:=HLEN.o;omega
  obtain⟨M,hM⟩:∃M,M=xs.length:=⟨_,rfl⟩
  rw[<-hM]at hpv n1 hxl hpc;have HM:=qet hM;subst hpv;obtain⟨dd,hdd⟩:∃dd,dd=depth x:=⟨_,rfl⟩
  rw[<-hdd]at c3 SK Mc;have d9:dd<=3000000000000:=by have:=SK.o;omega
  have m1:(M:Int)<=3000000000000:=by omega
  have m2:(dd:Int)<=3000000000000:=by omega
  rw[<-hxl]at Mc;clear hrow hown hr2 hxs hpp hM hdd hxl SK;go_wp2_with fail;refine c3.mono ?_;rintro e w3 ⟨rfl,hb3⟩;have hR2:w.heap.size+1<w2.heap.size:=lt_of_heap sB.o;have B3:=qet (B2.o.trans (hb3.mono B2.o.size))
  have F3:qes (w3.heap[w.heap.size]? =some (.cells #[.int .i64 0,.int .i64 0] 27)):=by
   show _=_;rw[hb3.block _ (by omega)];exact F2.o
  have e1:w3.cell? ⟨w.heap.size+1,1,none⟩=some (.int .i64 ((toks.length-r.length:Nat):Int)):=(hb3.cell (p:=⟨w.heap.size+1,1,none⟩) hR2).trans d1;have e3:w3.cell? ⟨w.heap.size+1,3,none⟩=some (.slice pa M VQ):=(hb3.cell (p:=⟨w.heap.size+1,3,none⟩) hR2).trans d3;have k0:w3.cell? ⟨w.heap.size,0,none⟩=some (.int .i64 0):=by rw[af F3.o];rfl
  have k1:w3.cell? ⟨w.heap.size,1,none⟩=some (.int .i64 0):=by rw[af F3.o];rfl
  have z0:∀j,w3.frozen? ⟨w.heap.size,j,none⟩=false:=fun j=>aC F3.o j
  have O3:=qet (yC HOWN.o hb3);clear c3 hb3 d1 d3 F2 sB HOWN B2
  by_cases hbad:500<M\/24<dd
  ·have HP2:qes (parse (lst toks at_)=.error ((lst toks at_).length,2)):=by
    show _=_;rw[Mc.o,if_pos hbad]
   have HAT:qes (((toks.length-(lst toks at_).length:Nat):Int)=(at_:Int)):=by
    show _=_;rw[iM];omega
   clear Mc
   rcases bZ 500 M with h5|h5
   ·have i5:(500:Int)<(M:Int):=by omega
    clear hbad;go_wp2;refine aU (v:=.tuple #[.slice none 0 0,.int .i64 0,.agg #[.int .i64 (at_:Int),.int .i64 2]]) ?_ rfl ⟨?_,?_⟩
    ·simp[aV,ey,go_sem,k0,k1]
    ·exact(B3.o.setCell (p:=⟨w.heap.size,0,none⟩) (aj _) _).setCell (p:=⟨w.heap.size,1,none⟩) (aj _) _
    ·rw[HP2.o];simp only[];rw[HAT.o]
   ·have i5:¬ (500:Int)<(M:Int):=by omega
    have i6:(24:Int)<(dd:Int):=by omega
    clear hbad;go_wp2;refine aU (v:=.tuple #[.slice none 0 0,.int .i64 0,.agg #[.int .i64 (at_:Int),.int .i64 2]]) ?_ rfl ⟨?_,?_⟩
    ·simp[aV,ey,go_sem,k0,k1]
    ·exact(B3.o.setCell (p:=⟨w.heap.size,0,none⟩) (aj _) _).setCell (p:=⟨w.heap.size,1,none⟩) (aj _) _
    ·rw[HP2.o];simp only[];rw[HAT.o]
  ·have HP2:qes (parse (lst toks at_)=.ok (x,r)):=by
    show _=_;rw[Mc.o,if_neg hbad]
   have i5:¬ (500:Int)<(M:Int):=by omega
   have i6:¬ (24:Int)<(dd:Int):=by omega
   clear Mc hbad;go_wp2
   go_region_with (fail)
   all_goals
    go_wp2;refine aU (v:=.tuple #[.slice pa M VQ,.int .i64 ((toks.length-r.length:Nat):Int),.agg #[.int .i64 0,.int .i64 0]]) ?_ rfl ⟨?_,?_⟩
    ·simp[aV,ey,go_sem,k0,k1]
    ·exact((B3.o.setCell (p:=⟨w.heap.size,0,none⟩) (aj _) _).setCell (p:=⟨w.heap.size,1,none⟩) (aj _) _).drew
    ·rw[HP2.o];refine⟨_,xs,F5.o,rfl,?_⟩;have o4:=O3.o;rw[<-HM.o]at o4 ⊢;exact own_base (bC (bC o4 (a:=⟨w.heap.size,0,none⟩) (by show w.heap.size<w.heap.size+4;omega) _) (a:=⟨w.heap.size,1,none⟩) (by show w.heap.size<w.heap.size+4;omega) _) (by omega)
end Go.Proofs.YtekanffohkeoeaaGreatDoor
