import Derived.Test.YtekanffohkeoeaaGreatDoorEmW
import Derived.Test.YtekanffohkeoeaaGreatDoorLex
import Derived.Lib.UnsafeStr
import Derived.Lib.BufferWrite
import Derived.OwnWalk
import Derived.Lib.SliceRun
import Derived.Lib.AppendZerosOnto
import Derived.Lib.OwnBridge
import Derived.Deep.CutRange
namespace Go.Proofs.YtekanffohkeoeaaGreatDoor
open Go.RowKit Go.Lib Go.Sort
open List renaming length_map → aQ, length_drop → bz, drop_eq_getElem_cons → eW, map_cons → bL, length → fp, length_append → ao, drop_left → fT, length_cons → aG, length_nil → eY, eq_nil_of_length_eq_zero → cu, append_nil → bm, take_add_one → cr, take_of_length_le → aX, map_append → bB, append_assoc → aO, all_eq_true → eZ, cons_append → bM, take_succ_cons → bF, length_take → bU, mem_append → aN, mem_of_mem_take → bW, mem_singleton → aL
open Bool renaming eq_iff_iff → bh, and_eq_true → aH
open Go.Proofs.Tryz renaming prog → ah, underlying216 → dW, underlying22 → cJ, underlying3 → cI, func169 → fJ, ntmps169 → fG
open Go.Lib renaming cell_of_heap → af, frozen_of_heap → aC, alloc_old → bj
open Go.RowKit renaming ownsRow_setCell_below → bC
open Nat renaming lt_or_ge → bZ, le_refl → aj, zero_add → fg, zero_mul → fy, lt_succ_self → fx, le_trans → aP, not_lt_zero → fF, lt_of_lt_of_le → aJ
open Option.some renaming inj → an
open Go.RowKit.Below renaming refl → aw, heap_setCell → aM
open Go renaming heap_alloc_new → aE, bodyPost_ret → aU, results → aV, grownCap → et, maxLen → ff
open Go.World renaming size_alloc → aB, ownsRow_nil → bS, ownsRow → eG, setCell → cW
open Go.Builtin renaming append_ → dR, zeroCells → dm
open Go.Value renaming agg → fv, slice → aZ
open Go.Region renaming wanted → cM
open Go.Result renaming andThen_ok → cS
open And renaming intro → fw
open Go.ByteArray renaming toList_eq → cB
open Go.Instr renaming index → bR
open Option renaming map_eq_some_iff → cj
set_option maxRecDepth 100000
set_option maxHeartbeats 3200000
def nM(P1 P2:Nat):Value:=.func (.func 211) #[] #[.pointer (some ⟨P1,0,none⟩),.pointer (some ⟨P2,0,none⟩)]
structure Env(B R P1 P2:Nat)(w:World):Prop where
 tG:kZ w
 c1:w.cell? ⟨P1,0,none⟩=some (.pointer (some ⟨R,0,none⟩))
 c2:w.cell? ⟨P2,0,none⟩=some (nM P1 P2)
 l1:P1<B
 l2:P2<B
 n1:P1≠R
 n2:P2≠R
 r8:13<R
 rB:R<B
variable {w:World}{w':World}{B:Nat}{R:Nat}
theorem TabAt.keep{b:Nat}{t:List Value}(h:TabAt w b t)(hk:Keep B R w w')(hb:b<B)(hr:b≠R):TabAt w' b t:=fun k v e=>(World.cell?_of_block (w:=w) (w':=w') (hk.block b hb hr)).trans (h k v e)
variable {P1:Nat}{P2:Nat}
theorem Env.keep(h:Env B R P1 P2 w)(hk:Keep B R w w'):Env B R P1 P2 w':=by
 have r8:=h.r8;have rB:=h.rB;refine⟨⟨h.tG.conv.keep hk (by omega) (by omega),h.tG.ops.keep hk (by omega) (by omega),h.tG.kw.keep hk (by omega) (by omega),h.tG.base.keep hk (by omega) (by omega),h.tG.sign.keep hk (by omega) (by omega),h.tG.span.keep hk (by omega) (by omega),h.tG.ty.keep hk (by omega) (by omega),h.tG.most.imp fun _ e=>(World.cell?_of_block (w:=w) (w':=w') (hk.block 9 (by omega) (by omega))).trans e,h.tG.unit.keep hk (by omega) (by omega)⟩,?_,?_,h.l1,h.l2,h.n1,h.n2,h.r8,h.rB⟩
 ·exact(World.cell?_of_block (w:=w) (w':=w') (hk.block P1 h.l1 h.n1)).trans h.c1
 ·exact(World.cell?_of_block (w:=w) (w':=w') (hk.block P2 h.l2 h.n2)).trans h.c2
theorem Env.below(h:Env B R P1 P2 w)(hb:Below w.heap.size w w')(hB:B<=w.heap.size):Env B R P1 P2 w':=h.keep (Keep.of_below hb hB)
def lst(toks:List Tv)(i:Nat):List Tk:=(toks.drop i).map kU
theorem iM(toks:List Tv)(i:Nat):(lst toks i).length=toks.length-i:=by rw[lst,aQ,bz]
variable {i:Nat}{toks:List Tv}
theorem jL(h:i<toks.length):lst toks i=kU (gQ toks i)::lst toks (i+1):=by
 unfold lst gQ;rw[eW h,bL,List.getD_eq_getElem?_getD,List.getElem?_eq_getElem h];rfl
theorem nF(h:toks.length<=i):lst toks i=[]:=by
 unfold lst;rw[List.drop_of_length_le h];rfl
theorem nN(h:toks.length<=i):gQ toks i=Ai:=by
 unfold gQ;rw[List.getD_eq_getElem?_getD,List.getElem?_eq_none h];rfl
theorem xH(s:Bs)(x:Tv):iX s (kU x)=decide (x.k=3/\x.s=⟨s.toArray⟩):=by
 show(decide (x.k=3)&&(x.s.data.toList==s))=_;rw[bh];simp only[aH,decide_eq_true_eq,beq_iff_eq]
 constructor
 ·rintro⟨a,b⟩;exact⟨a,by rw[<-b,nj]⟩
 ·rintro⟨a,b⟩;exact⟨a,by rw[b]⟩
theorem LC(toks:List Tv)(i j:Nat):(lst toks i).drop j=lst toks (i+j):=by
 unfold lst;rw[<-List.map_drop,List.drop_drop]
variable {x:List Pt}{d:Nat}{f:Nat}
theorem uK{m:Md}{r:List Tk}(h:rd f m d (lst toks i)=some (.ok (x,r)))(hi:i<=toks.length):r=lst toks (toks.length-r.length)/\r.length<=toks.length-i:=by
 obtain⟨p,hp,_⟩:=(jA h).swap;have hl:=congrArg fp hp;rw[iM,ao]at hl;have e:r=(lst toks i).drop p.length:=by rw[hp,fT]
 refine⟨?_,by omega⟩;have e2:toks.length-r.length=i+p.length:=by omega
 rw[e2,<-LC];exact e
def PostR(B R:Nat)(tv:Value)(toks:List Tv)(op:Nat)(ps:List Pv)(fa fc:Int)(res:qC)(w:World)(e:Ending)(w':World):Prop:=
 Keep B R w w'/\match res with
 | .ok (x,r)=>e=.returned (.bool true)/\∃xs:List Pv,xs.map kO=x/\RS B R tv toks (toks.length-r.length) op (ps++xs) fa fc w'
 | .error (k,c)=>e=.returned (.bool false)/\∃at2 op2 ps2,RS B R tv toks at2 op2 ps2 ((toks.length-k:Nat):Int) c w'
def yH(B R P1 P2:Nat)(tv:Value)(toks:List Tv)(f:Nat):Prop:=∀(n at_ op:Nat)(ps:List Pv)(fa fc:Int)(w:World)(res:qC),n<=7->op<=200->ps.length<=at_->RS B R tv toks at_ op ps fa fc w->Env B R P1 P2 w->rd f (.row n) op (lst toks at_)=some res->
 Calls ah 211 #[.int .i64 (n:Int),.pointer (some ⟨P1,0,none⟩),.pointer (some ⟨P2,0,none⟩)] w (PostR B R tv toks op ps fa fc res w)
theorem Reads.parts{m:Md}{l r:List Tk}(h:Reads m d l x r):x.length+r.length<=l.length:=by
 induction h with
 |top _ _ ih=>exact ih
 |row _ _ _ ih1 ih2=>rw[ao];omega
 |stop _=>simp
 |more _ _ _ ih1 ih2=>rw[ao,aG,aG];omega
 |bare _ _ ih=>exact ih
 |sign _ _ _ ih=>rw[ao,aG];simp;omega
 |num _=>simp;omega
 |Sw _ _=>simp;omega
 |Sy _ _=>simp;omega
 |conv _ _ _ _ _ _ ih=>rw[ao];simp at ih ⊢;omega
 |idx _ _ _ _ _ _ ih=>rw[ao];simp at ih ⊢;omega
 |Sz _ _ _ _=>simp;omega
 |var _ _ _=>simp;omega
 |par _ _ _ _ ih=>simp at ih ⊢;omega
theorem DQ{a b:Bs}{t:Tk}{q:List Tk}{go:List Tk->Option qC}{res:qC}(h:within a b d (t::q) go=some res)(ha:iX a t=true)(hd:¬200<=d):∃z,go q=some z:=by
 unfold within at h;simp only[]at h;rw[if_pos ha,if_neg hd]at h
 cases hg:go q with
 |none=>rw[hg]at h;cases h
 |some z=>exact⟨z,rfl⟩
variable {fa:Int}{fc:Int}{at_:Nat}{op:Nat}{tv:Value}
theorem RS.cells{ps:List Pv}(h:RS B R tv toks at_ op ps fa fc w):w.cell? ⟨R,1,none⟩=some (.int .i64 (at_:Int))/\w.cell? ⟨R,2,none⟩=some (.int .i64 (op:Int))/\∀j,w.frozen? ⟨R,j,none⟩=false:=by
 obtain⟨pv,hrow,_⟩:=h.row;exact⟨by rw[af hrow];rfl,by rw[af hrow];rfl,fun j=>aC hrow j⟩
theorem RS.step{ps:List Pv}(h:RS B R tv toks at_ op ps fa fc w)(hlt:at_<toks.length):RS B R tv toks (at_+1) op ps fa fc (w.setCell ⟨R,1,none⟩ (.int .i64 ((at_:Int)+1)))/\Keep B R w (w.setCell ⟨R,1,none⟩ (.int .i64 ((at_:Int)+1))):=by
 have hk:=(Keep.refl B R w).setCell (p:=⟨R,1,none⟩) rfl (.int .i64 ((at_:Int)+1));obtain⟨pv,hrow,hown⟩:=h.row;exact⟨h.turn hk hlt ⟨pv,Lx hrow _,bC hown (a:=⟨R,1,none⟩) h.hB _⟩,hk⟩
theorem RS.shut{ps:List Pv}(h:RS B R tv toks at_ (op+1) ps fa fc w):RS B R tv toks at_ op ps fa fc (w.setCell ⟨R,2,none⟩ (.int .i64 (op:Int)))/\Keep B R w (w.setCell ⟨R,2,none⟩ (.int .i64 (op:Int))):=by
 have hk:=(Keep.refl B R w).setCell (p:=⟨R,2,none⟩) rfl (.int .i64 (op:Int));obtain⟨pv,hrow,hown⟩:=h.row;exact⟨h.turn hk h.here ⟨pv,Ly hrow _,bC hown (a:=⟨R,2,none⟩) h.hB _⟩,hk⟩
theorem tR(IH:yH B R P1 P2 tv toks f)(hl:toks.length<=3000000000000)(a b:Bs)(at_ op:Nat)(ps:List Pv)(fa fc:Int)(w:World)(res:qC)(ho:op<=200)(hp:ps.length<=at_)(h:RS B R tv toks at_ op ps fa fc w)(he:Env B R P1 P2 w)
  (hr:within a b op (lst toks at_) (rd f (.row 0) (op+1))=some res):Calls ah 235 #[.pointer (some ⟨R,0,none⟩),.string ⟨a.toArray⟩,.string ⟨b.toArray⟩,nM P1 P2] w (PostR B R tv toks op ps fa fc res w):=by
 have c1:=yF h (by omega) 3 ⟨a.toArray⟩;have HH:=qet h;have HE:=qet he;have hle:=h.le;have sy:=h.here;have HS:=qet (xH a (gQ toks at_));obtain⟨sa,hsa⟩:∃sa:ByteArray,sa=⟨a.toArray⟩:=⟨_,rfl⟩
 obtain⟨sb,hsb⟩:∃sb:ByteArray,sb=⟨b.toArray⟩:=⟨_,rfl⟩
 rw[<-hsa]at c1 HS;rw[<-hsa,<-hsb];have HSB:=qet hsb;clear h he hsa hsb;unfold nM
 cases hq:decide ((gQ toks at_).k=3/\(gQ toks at_).s=sa)with
 |false=>
  rw[hq]at c1 HS
  have HR:qes (res=.error (toks.length-at_,60)):=by
   show _=_
   rcases bZ at_ toks.length with hlt|hge
   ·rw[jL hlt]at hr;unfold within at hr;simp only[]at hr;rw[HS.o,if_neg (by decide),iM]at hr;rw[<-an hr]
    congr 2
    omega
   ·rw[nF hge]at hr;rw[<-an hr]
    congr 2
    omega
  clear hr hq;go_enter Tryz.func235,Tryz.ntmps235;go_wp2_with fail;refine c1.mono ?_;rintro e w1 ⟨rfl,hb1⟩;have c2:=rp (HH.o.below hb1);have K1:=qet (Keep.of_below (R:=R) hb1 hle);clear c1 hb1;go_wp2_with fail;refine c2.mono ?_;rintro e w2 ⟨rfl,hr2,hk2⟩;have R2:=qet hr2;have K2:=qet (K1.o.trans hk2);clear c2 hr2 hk2;go_wp2;go_ret;refine⟨K2.o,?_⟩;rw[HR.o];refine⟨rfl,at_,op,ps,?_⟩;rw[show((toks.length-(toks.length-at_):Nat):Int)=(at_:Int)from by omega];exact R2.o
 |true=>
  rw[hq]at c1 HS
  have hlt:at_<toks.length:=by
   rcases bZ at_ toks.length with hlt|hge
   ·exact hlt
   ·have:=(of_decide_eq_true hq).1;rw[nN hge]at this;exact absurd this (by decide)
  rw[jL hlt]at hr
  by_cases h2:op=200
  ·have HR:qes (res=.error (toks.length-at_,2)):=by
    show _=_;unfold within at hr;simp only[]at hr;rw[HS.o,if_pos rfl,if_pos (by omega),iM]at hr;rw[<-an hr]
    congr 2
    omega
   clear hr hq;go_enter Tryz.func235,Tryz.ntmps235;go_wp2_with fail;refine c1.mono ?_;rintro e w1 ⟨rfl,hb1⟩;have c2:=AU (HH.o.below hb1) h2;have K1:=qet (Keep.of_below (R:=R) hb1 hle);clear c1 hb1 h2;go_wp2_with fail;refine c2.mono ?_;rintro e w2 ⟨rfl,hr2,hk2⟩;have R2:=qet hr2;have K2:=qet (K1.o.trans hk2);clear c2 hr2 hk2;go_wp2;go_ret;refine⟨K2.o,?_⟩;rw[HR.o];refine⟨rfl,at_,op,ps,?_⟩;rw[show((toks.length-(toks.length-at_):Nat):Int)=(at_:Int)from by omega];exact R2.o
  ·obtain⟨z,hz⟩:=DQ hr HS.o (by omega);have hr':within a b op (kU (gQ toks at_)::lst toks (at_+1)) (rd f (.row 0) (op+1))=some res:=hr;unfold within at hr';simp only[]at hr';rw[HS.o,if_pos rfl,if_neg (by omega),hz]at hr';have HR:=qet hr';have HZ:=qet hz;clear hr hr' hz hq;go_enter Tryz.func235,Tryz.ntmps235;go_wp2_with fail;refine c1.mono ?_;rintro e w1 ⟨rfl,hb1⟩;have c2:=AV (HH.o.below hb1) (by omega) (by omega) hlt;have E1:=qet (HE.o.below hb1 hle);have K1:=qet (Keep.of_below (R:=R) hb1 hle);clear c1 hb1;go_wp2_with fail;refine c2.mono ?_;rintro e w2 ⟨rfl,hr2,hk2⟩;have c3:=IH 0 (at_+1) (op+1) ps fa fc w2 z (by omega) (by omega) (by omega) hr2 (E1.o.keep hk2) HZ.o;have E2:=qet (E1.o.keep hk2);have K2:=qet (K1.o.trans hk2);clear c2 hr2 hk2 E1 K1;have c3':Calls ah 211 #[.int .i64 0,.pointer (some ⟨P1,0,none⟩),.pointer (some ⟨P2,0,none⟩)] w2 (PostR B R tv toks (op+1) ps fa fc z w2):=c3;clear c3;go_wp2_with fail;refine c3'.mono ?_;rintro e w3 ⟨hk3,hp3⟩;have K3:=qet (K2.o.trans hk3);have E3:=qet (E2.o.keep hk3);clear c3' hk3 E2 K2
   cases z with
   |error z=>
    obtain⟨k,c⟩:=z;simp only[]at hp3;obtain⟨rfl,at2,op2,ps2,hr3⟩:=hp3;have R3:=qet hr3;have HR2:qes (res=.error (k,c)):=(an HR.o).symm;clear hr3;go_wp2;go_ret;refine⟨K3.o,?_⟩;rw[HR2.o];exact⟨rfl,at2,op2,ps2,R3.o⟩
   |ok z=>
    obtain⟨x,r⟩:=z;simp only[]at hp3;obtain⟨rfl,xs,hxs,hr3⟩:=hp3;obtain⟨hrest,hrl⟩:=uK HZ.o hlt;have hle3:=hr3.le;have hh3:=hr3.here;have F5:=qet hxs;have c4:=yF hr3 (by omega) 3 sb;have R3:=qet hr3;have HS2:=qet (xH b (gQ toks (toks.length-r.length)));rw[<-HSB.o]at HS2;clear hr3 hxs
    cases hq:decide ((gQ toks (toks.length-r.length)).k=3/\(gQ toks (toks.length-r.length)).s=sb)with
    |false=>
     rw[hq]at c4 HS2
     have HR2:qes (res=.error (r.length,60)):=by
      show _=_;have h1:=HR.o;simp only[]at h1
      rcases bZ (toks.length-r.length) toks.length with hlt2|hge
      ·rw[hrest,jL hlt2]at h1;simp only[]at h1;rw[HS2.o,if_neg (by decide),iM]at h1;rw[<-an h1]
       congr 2
       omega
      ·rw[hrest,nF hge]at h1;rw[<-an h1]
       congr 2
       omega
     clear hq;go_wp2_with fail;refine c4.mono ?_;rintro e w4 ⟨rfl,hb4⟩;have c5:=rp (R3.o.below hb4);have K4:=qet (K3.o.trans (Keep.of_below (R:=R) hb4 hle3));clear c4 hb4;go_wp2_with fail;refine c5.mono ?_;rintro e w5 ⟨rfl,AW,hk5⟩;have R5:=qet AW;have K5:=qet (K4.o.trans hk5);clear c5 AW hk5;go_wp2;go_ret;refine⟨K5.o,?_⟩;rw[HR2.o];exact⟨rfl,_,_,_,R5.o⟩
    |true=>
     rw[hq]at c4 HS2
     have hlt2:toks.length-r.length<toks.length:=by
      rcases bZ (toks.length-r.length) toks.length with h|h
      ·exact h
      ·have:=(of_decide_eq_true hq).1;rw[nN h]at this;exact absurd this (by decide)
     have HR2:qes (res=.ok (x,lst toks (toks.length-r.length+1))):=by
      show _=_;have h1:=HR.o;simp only[]at h1;rw[hrest,jL hlt2]at h1;simp only[]at h1;rw[HS2.o,if_pos rfl]at h1;exact(an h1).symm
     clear hq;obtain⟨A,DA⟩:∃A,A=toks.length-r.length:=⟨_,rfl⟩
     rw[<-DA]at R3 HR2 hlt2;clear hrest hrl hh3 HR HZ DA HS2;go_wp2_with fail;refine c4.mono ?_;rintro e w4 ⟨rfl,hb4⟩;have r4:=R3.o.below hb4;have K4:=qet (K3.o.trans (Keep.of_below (R:=R) hb4 hle3));obtain⟨d1,d2,d3⟩:=r4.cells;obtain⟨r5,k5⟩:=r4.shut;obtain⟨r6,k6⟩:=r5.step hlt2;have R6:=qet r6;have K6:=qet (K4.o.trans (k5.trans k6));have hAl:A<=3000000000000:=by omega
     have i3:(A:Int)<=3000000000000:=by omega
     have i4:(0:Int)<=(A:Int):=by omega
     have i5:(op:Int)<=200:=by omega
     have i6:(0:Int)<=(op:Int):=by omega
     have Yz:w4.cell? ⟨R,2,none⟩=some (.int .i64 ((op:Int)+1)):=d2;clear c4 hb4 r4 r5 k5 r6 k6 d2;go_wp2;go_ret;refine⟨K6.o,?_⟩;rw[HR2.o];refine⟨rfl,xs,F5.o,?_⟩;rw[iM,show toks.length-(toks.length-(A+1))=A+1 from by omega];exact R6.o
def YA(b:UInt8):Value:=.int .u8 (b.toNat:Int)
def xq(f:List UInt8):Array Value:=(f.map YA).toArray
theorem Jd(f:List UInt8):(xq f).size=f.length:=by simp[xq]
theorem LD(f:List UInt8)(k:Nat)(x:UInt8)(h:f[k]? =some x):(xq f)[k]? =some (.int .u8 (x.toNat:Int)):=by
 unfold xq;rw[List.getElem?_toArray,List.getElem?_map,h];rfl
theorem addr_add(g j:Nat):(⟨g,0,none⟩:Addr).add j=⟨g,j,none⟩:=by unfold Addr.add;split <;> simp_all
theorem in5:(ah.info? 5).map (fun i=>(i.zero,i.size,i.bytes))=some (some (.int .u8 0),1,1):=by kernel_rfl
theorem z5:(ah.info? 5).map (·.size)=some 1:=by kernel_rfl
theorem c5w:ah.cellsOf 5=1:=by kernel_rfl
theorem vX(w:World)(g:Nat)(old cs:Array Value)(t:TypeId)(hg:w.heap[g]? =some (.cells old t (0,0))):(w.setRow g cs).heap[g]? =some (.cells cs t (0,0)):=setRow_heap w g old cs t _ hg
theorem Aj(w:World)(B g:Nat)(cs:Array Value)(h:B<=g):Below B w (w.setRow g cs):=
 ⟨rfl,rfl,rfl,by simp,fun k hk=>by
  simp only[World.setRow,Array.getElem?_modify]
  rw[if_neg (by omega)]⟩
theorem clone_any(s:ByteArray)(hn:s.size<=140737488355000)(w:World):
  Calls ah 167 #[.string s] w fun e w'=>e=.returned (.string s)/\Below w.heap.size w w':=by
 by_cases h0:s.size=0
 ·obtain rfl:s=⟨#[]⟩:=ByteArray.ext (Array.eq_empty_of_size_eq_zero h0);go_enter Tryz.func167,Tryz.ntmps167;go_wp2;go_ret;exact⟨rfl,aw _ _⟩
 ·obtain⟨i0,hi,hz0,hz1,hz2⟩:=info_parts in5;have hne:s.data.toList≠[]:=fun e=>h0 (by rw[<-mO,e];rfl)
  have hmk:∀u:World,(Instr.makeSlice 216 (.int .i64 (s.size:Int)) (.int .i64 (s.size:Int))).run ah u=
    .ok (.slice (some ⟨u.heap.size,0,none⟩) s.size s.size) (u.alloc (.cells (madeCells #[.int .u8 0] s.size) 5)):=fun u=>by
   have h:=run_make (P:=ah) u 216 5 i0 (.int .u8 0) dW hi hz0 .i64 .i64 (s.size:Int) (s.size:Int) (by omega) (by omega) (by rw[hz2];omega) (by omega)
   simpa[hz1,Value.cells]using h
  have hMs:(madeCells #[.int .u8 0] s.size).size=s.size:=by simp[madeCells]
  generalize madeCells #[.int .u8 0] s.size=M at *;have hcp:=Lib.run_copy_row_string (P:=ah) (w.alloc (.cells M 5)) 216 9 3 5 w.heap.size 0 s.size s.size s M 5 dW z5 (aE w _) (aj _) (by omega)
  have hY:(M.toList.take 0++Lib.byteCells s.data.toList++M.toList.drop (0+s.size)).toArray=xq s.data.toList:=by
   rw[List.drop_of_length_le (by rw[Array.length_toList];omega)];unfold xq Lib.byteCells;simp;exact fun _ _=>rfl
  rw[hY]at hcp;have hgY:=vX (w.alloc (.cells M 5)) w.heap.size M (xq s.data.toList) 5 (aE w _);have hB:Below w.heap.size w ((w.alloc (.cells M 5)).setRow w.heap.size (xq s.data.toList)):=((aw _ _).alloc (aj _) _).trans (Aj _ _ _ _ (by omega))
  have hUS:=Lib.run_unsafeString_row (P:=ah) ((w.alloc (.cells M 5)).setRow w.heap.size (xq s.data.toList)) 223 3 9 5 Tryz.underlying223 c5w w.heap.size (xq s.data.toList).size (by unfold World.shape?;rw[hgY]) s.data.toList hne (by rw[Jd];exact aj _) (by rw[mO];omega)
   (fun j x hx=>by rw[addr_add,cell_of_row _ _ _ _ _ _ hgY];exact LD _ _ _ hx)
  rw[mO]at hUS;have hF:qes (Below w.heap.size w (((w.alloc (.cells M 5)).setRow w.heap.size (xq s.data.toList)).freeze ⟨w.heap.size,0,none⟩ s.size)):=Lib.below_freeze hB (p:=⟨w.heap.size,0,none⟩) (aj _) _;clear hY hMs hB hi hne hgY;have i1:((s.size:Int)==0)=false:=by rw[beq_eq_false_iff_ne];omega
  have i2:(0:Int)<(s.size:Int):=by omega
  generalize(w.alloc (.cells M 5)).setRow w.heap.size (xq s.data.toList)=W2 at *;go_enter Tryz.func167,Tryz.ntmps167;go_wp2;go_ret;exact⟨rfl,hF⟩
theorem o7(s:ByteArray)(hn:s.size<=140737488355000)(w:World):
  Calls ah 131 #[.string s] w fun e w'=>e=.returned (.string s)/\Below w.heap.size w w':=by
 go_enter Tryz.func131,Tryz.ntmps131;go_wp2_with fail;refine(clone_any s hn _).mono ?_;rintro e w1 ⟨rfl,hb1⟩;have b1:qes (Below w.heap.size w w1):=hb1;clear hb1;go_wp2;go_ret;exact⟨rfl,b1⟩
def sf:Array Value:=#[.int .i64 0,.string ⟨#[]⟩,.int .i64 0,.int .i64 0,.int .i64 0]
theorem tU{b:Nat}(h:w.heap[b]? =some (.cells sf 54 (0,0))):
  (w.cell? ⟨b,0,none⟩=some (.int .i64 0)/\w.cell? ⟨b,1,none⟩=some (.string ⟨#[]⟩)/\w.cell? ⟨b,2,none⟩=some (.int .i64 0)/\w.cell? ⟨b,3,none⟩=some (.int .i64 0)/\w.cell? ⟨b,4,none⟩=some (.int .i64 0))/\(∀j,w.frozen? ⟨b,j,none⟩=false):=
 ⟨⟨af h 0,af h 1,af h 2,af h 3,af h 4⟩,fun j=>aC h j⟩
theorem lU(s:ByteArray)(hn:s.size<=140737488355000)(w:World):
  Calls ah 198 #[.string s] w fun e w'=>e=.returned (oG ⟨1,s,0,0,0⟩)/\Below w.heap.size w w':=by
 have B0:=(aw w.heap.size w).alloc (aj _) (.cells sf 54);have z0:=aB w (.cells sf 54);unfold sf at B0 z0;go_enter Tryz.func198,Tryz.ntmps198;go_wp2_with fail;refine(o7 s hn _).mono ?_;rintro e w1 ⟨rfl,hb1⟩;have B1:=qet (B0.trans (hb1.mono B0.size));obtain⟨⟨c0,c1,c2,c3,c4⟩,c5⟩:=tU (w:=w1) (b:=w.heap.size) ((hb1.block _ (by rw[z0];omega)).trans (aE w _));clear hb1 B0 z0;go_wp2;refine aU (v:=oG ⟨1,s,0,0,0⟩) ?_ rfl ⟨rfl,?_⟩
 ·simp[aV,Tryz.results198,go_sem,oG,c0,c1,c2,c3,c4]
 ·exact sx B1.o (aj _) _ _ _ _ _
theorem pY(s:ByteArray)(w:World):
  Calls ah 200 #[.string s] w fun e w'=>e=.returned (oG ⟨3,s,0,0,0⟩)/\Below w.heap.size w w':=by
 go_enter Tryz.func200,Tryz.ntmps200;go_wp2;refine aU (v:=oG ⟨3,s,0,0,0⟩) ?_ rfl ⟨rfl,?_⟩
 ·simp[aV,Tryz.results200,go_sem,oG]
 ·exact(aw w.heap.size w).alloc (aj _) _
def mU(n t:Int):Tv:=if t≠1 then⟨2,⟨#[]⟩,n,t,0⟩else if n=1 then⟨1,⟨#[84,82,85,69]⟩,0,0,0⟩else⟨1,⟨#[70,65,76,83,69]⟩,0,0,0⟩
theorem F6(pk pn pt:Int)(pS pF:ByteArray)(w:World):
  Calls ah 197 #[.agg #[.int .i64 pk,.int .i64 pn,.int .i64 pt,.string pS,.string pF]] w fun e w'=>e=.returned (oG (mU pn pt))/\Below w.heap.size w w':=by
 have B0:=((aw w.heap.size w).alloc (aj _) (.cells #[.int .i64 pk,.int .i64 pn,.int .i64 pt,.string pS,.string pF] 42)).alloc (by simp) (.cells sf 54);have z0:=aB (w.alloc (.cells #[.int .i64 pk,.int .i64 pn,.int .i64 pt,.string pS,.string pF] 42)) (.cells sf 54);rw[aB]at z0;have Z0:=qet z0;clear z0;have hrow:=aE (w.alloc (.cells #[.int .i64 pk,.int .i64 pn,.int .i64 pt,.string pS,.string pF] 42)) (.cells sf 54);rw[aB]at hrow
 by_cases ht:pt=1
 ·by_cases hn:pn=1
  ·have HE:qes (mU pn pt=⟨1,⟨#[84,82,85,69]⟩,0,0,0⟩):=by show _=_;unfold mU;rw[if_neg (by omega),if_pos hn]
   subst ht;subst hn;unfold sf at B0 hrow;go_enter Tryz.func197,Tryz.ntmps197;go_wp2_with fail;refine(lU ⟨#[84,82,85,69]⟩ (by decide) _).mono ?_;rintro e w1 ⟨rfl,hb1⟩;have B1:=qet (B0.trans (hb1.mono B0.size));obtain⟨⟨c0,c1,c2,c3,c4⟩,c5⟩:=tU (w:=w1) (b:=w.heap.size+1) ((hb1.block _ (by simp)).trans hrow);clear hb1 B0 Z0 hrow;unfold oG;go_wp2;refine aU (v:=oG ⟨1,⟨#[84,82,85,69]⟩,0,0,0⟩) ?_ rfl ⟨by rw[HE.o],?_⟩
   ·simp[aV,Tryz.results197,go_sem,oG,c0,c1,c2,c3,c4]
   ·exact sx B1.o (by omega) _ _ _ _ _
  ·have HE:qes (mU pn pt=⟨1,⟨#[70,65,76,83,69]⟩,0,0,0⟩):=by show _=_;unfold mU;rw[if_neg (by omega),if_neg hn]
   have hb:(pn==1)=false:=by rw[beq_eq_false_iff_ne];exact hn
   subst ht;unfold sf at B0 hrow;go_enter Tryz.func197,Tryz.ntmps197;go_wp2_with fail;refine(lU ⟨#[70,65,76,83,69]⟩ (by decide) _).mono ?_;rintro e w1 ⟨rfl,hb1⟩;have B1:=qet (B0.trans (hb1.mono B0.size));obtain⟨⟨c0,c1,c2,c3,c4⟩,c5⟩:=tU (w:=w1) (b:=w.heap.size+1) ((hb1.block _ (by simp)).trans hrow);clear hb1 B0 Z0 hrow;unfold oG;go_wp2;refine aU (v:=oG ⟨1,⟨#[70,65,76,83,69]⟩,0,0,0⟩) ?_ rfl ⟨by rw[HE.o],?_⟩
   ·simp[aV,Tryz.results197,go_sem,oG,c0,c1,c2,c3,c4]
   ·exact sx B1.o (by omega) _ _ _ _ _
 ·have HE:qes (mU pn pt=⟨2,⟨#[]⟩,pn,pt,0⟩):=by show _=_;unfold mU;rw[if_pos ht]
  have hb:(pt==1)=false:=by rw[beq_eq_false_iff_ne];exact ht
  clear B0 Z0 hrow;go_enter Tryz.func197,Tryz.ntmps197;go_wp2;refine aU (v:=oG ⟨2,⟨#[]⟩,pn,pt,0⟩) ?_ rfl ⟨by rw[HE.o],?_⟩
  ·simp[aV,Tryz.results197,go_sem,oG]
  ·exact((aw w.heap.size w).alloc (aj _) _).alloc (by simp) _
theorem Vx:(ah.info? 54).map (fun i=>(i.zero,i.size,i.bytes))=some (some (.agg sf),5,48):=by kernel_rfl
def yI(w:World)(e:Ending)(w':World):Prop:=∃v,e=.returned v/\w'.ownsRow w.heap.size 54 5 v 0 []/\Below w.heap.size w w'
theorem LF(n:Nat)(hn:n<=1000000000000)(w:World):
  Calls ah 224 #[.slice none 0 0,.int .i64 (n:Int)] w (yI w):=by
 by_cases h0:n=0
 ·subst h0;have HF:qes (yI w (.returned (.slice none 0 0)) w):=⟨_,rfl,bS _ _ _ _,aw _ _⟩
  go_enter Tryz.func224,Tryz.ntmps224;go_wp2;go_ret;exact HF.o
 ·obtain⟨i0,hi,hz0,hz1,hz2⟩:=info_parts Vx
  have hrz:∀ty,(dR #[22,3] ty #[.slice none 0 0,.int .i64 (n:Int)]).run ah w=
    .ok (.slice (some ⟨w.heap.size,0,none⟩) n (et w n 0 54)) (w.drew.alloc (.cells (([]:List Value).toArray++dm (fv sf).cells n++dm (fv sf).cells (et w n 0 54-n)) 54)):=fun ty=>by
   have h:=Lib.run_append_grow_zeros w 22 3 ty 54 i0 (.agg sf) .i64 .i64 cJ cI hi hz0 none 0 0 [] (run_firstCells_none w.drew i0.size 0 0 0) n (by omega) (by omega) (by omega) (by omega) (by rw[hz2];omega)
    (growslice_fits (by omega) (by rw[hz2];omega))
   rw[fg]at h;exact h
  have hG:n<=et w n 0 54:=grownCap_ge w _ _ _;have YB:=grownCap_le_maxLen w n 0 54 (by unfold ff;omega)
  have hsz:(([]:List Value).toArray++dm (fv sf).cells n++dm (fv sf).cells (et w n 0 54-n)).size=et w n 0 54*5:=by
   have h5:(fv sf).cells.size=5:=rfl;simp only[Array.size_append,List.size_toArray,size_zeroCells,h5,eY];omega
  generalize et w n 0 54=G at *;generalize(([]:List Value).toArray++dm (fv sf).cells n++dm (fv sf).cells (G-n))=C at *
  have HF:qes (yI w (.returned (.slice (some ⟨w.heap.size,0,none⟩) 0 G)) (w.drew.alloc (.cells C 54))):=by
   refine⟨_,rfl,⟨rfl,.inr ⟨w.heap.size,G,C,rfl,aj _,aE w.drew _,Nat.zero_le _,YB,hsz,?_⟩⟩,?_⟩
   ·rw[fy,List.take_zero]
   ·exact((⟨rfl,rfl,rfl,aj _,fun _ _=>rfl⟩:Below w.heap.size w w.drew)).alloc (aj _) _
  unfold ff at YB;have i1:(0:Int)<(n:Int):=by omega
  have i2:¬ ((n:Int)<0):=by omega
  have i3:(n:Int)<=1000000000000:=by omega
  have i4:(G:Int)<=9223372036854775807:=by omega
  clear hsz hi h0 hn YB;go_enter Tryz.func224,Tryz.ntmps224;go_wp2_with(at_builtin;refine Lib.wpList_append_run _ rfl _ _ _ _ rfl _ _ rfl rfl _ _ (hrz _) ?_)
  all_goals
   go_ret;exact HF.o
theorem xr(ty:Nat)(v:Value)(hv:∃a n cap,v=.slice a n cap/\n<=cap)(c:Nat)(W:World):(dR #[22,22] ty #[v,.slice none 0 c]).run ah W=.ok v W:=by
 obtain⟨a,n,cap,rfl,hn⟩:=hv
 cases a <;> simp[dR,go_sem,hn]
variable {v:Value}{base:Nat}{n:Nat}
theorem F7{xs:List Value}(h:w.ownsRow base 54 5 v n xs):∃a n cap,v=.slice a n cap/\n<=cap:=by
 rcases h.2 with⟨hv,_⟩|⟨g',cap',cur,hv,hb,hg,hn,hm,hc,ht⟩
 ·exact⟨_,_,_,hv,aj _⟩
 ·exact⟨_,_,_,hv,hn⟩
theorem xu(w:World)(base ty n:Nat)(v:Value)(xs:List Value)(hown:w.ownsRow base 54 5 v n xs)(u:Value)(l:List Tv)(hL:ku w u l)(hbytes:n+l.length<=1000000000000)(hbase:base<=w.heap.size):
  ∃v' w',(dR #[22,22] ty #[v,u]).run ah w=.ok v' w'/\w'.ownsRow base 54 5 v' (n+l.length) (xs++kJ l)/\w.grownBy w' v.ownBlock:=by
 obtain⟨i0,hi,hz0,hz1,hz2⟩:=info_parts Vx;obtain⟨a,b,off,c,rfl,hA,hI⟩:=hL
 have main:∀ad:Addr,a=some ad->(∀j x,(kJ l)[j]? =some x->w.cell? (ad.add j)=some x)->∃v' w',(dR #[22,22] ty #[v,.slice a l.length c]).run ah w=.ok v' w'/\w'.ownsRow base 54 5 v' (n+l.length) (xs++kJ l)/\w.grownBy w' v.ownBlock:=fun ad had hc=>by
  subst had;obtain⟨v',w',hr,h2,h3,h4,_⟩:=run_append_own_at (P:=ah) w base 22 ty 54 i0 _ 5 48 cJ hi hz0 hz1 hz2 rfl (by omega) _ n xs hown ad l.length c (kJ l) (mE l) hc (Lm l) (by unfold ff;omega) (by omega) hbase;exact⟨v',w',hr,h2,h3⟩
 by_cases hn:0<l.length
 ·obtain⟨_,rfl⟩:=hA hn;exact main _ rfl (Lo hI)
 ·have hl:l=[]:=cu (by omega);subst hl
  cases a with
  |some ad=>exact main ad rfl (fun j x hx=>by cases hx)
  |none=>
   refine⟨v,w,xr ty v (F7 hown) c w,?_,⟨rfl,rfl,rfl,aj _,fun _ _ _=>rfl⟩⟩;show w.ownsRow base 54 5 v n (xs++[]);rw[bm];exact hown
theorem pf{ops:Array Oper}{rest:List Oper}{o:Oper}{a:Act}{Q:Exit->Act->World->Prop}(hgd:cM o (yielded ops a.tmps)=true)(s x:Operand)
  (ho:o.op=.call {callee:=.builtin .append,args:=#[s,x],argTypes:=#[22,22]})
  (base n:Nat) (v:Value) (xs:List Value) (hs:a.eval s=v) (hown:w.ownsRow base 54 5 v n xs) (u:Value) (l:List Tv) (hx:a.eval x=u) (hL:ku w u l) (hbytes:n+l.length<=1000000000000) (hbase:base<=w.heap.size)
  (h:∀v' w',w'.ownsRow base 54 5 v' (n+l.length) (xs++kJ l)->w.grownBy w' v.ownBlock->wpList ah ops Q rest (a.put o.dst v') w'):wpList ah ops Q (o::rest) a w:=by
 refine wpList_step fun K hK=>?_
 rw[if_pos hgd];obtain⟨v',w',hr,h2,h3⟩:=xu w base o.type n v xs hown u l hL hbytes hbase;unfold Oper.wp execOp;simp only[ho,resolve,invoke,builtin,Sem.run_bind,Sem.run_pure,cS,List.map_toArray,bL,List.map_nil,hs,hx,hr];exact hK _ _ (h v' w' h2 h3)
def DR(w:World)(v:Value)(ls:List (List Tv)):Prop:=
 ∃(b off cap:Nat),v=.slice (some ⟨b,off,none⟩) ls.length cap/\b<w.heap.size/\∀i l,ls[i]? =some l->∃u,w.cell? ⟨b,off+i,none⟩=some u/\ku w u l
theorem AX(ls:List (List Tv))(k:Nat)(l:List Tv)(h:ls[k]? =some l):(ls.take (k+1)).flatten=(ls.take k).flatten++l:=by
 rw[cr,h];simp
theorem Hx(ls:List (List Tv))(k:Nat):(ls.take k).flatten.length<=ls.flatten.length:=by
 have h:ls.flatten=(ls.take k).flatten++(ls.drop k).flatten:=by rw[<-List.flatten_append,List.take_append_drop]
 rw[h,ao];omega
def rq(w:World)(ls:List (List Tv))(e:Ending)(w':World):Prop:=∃v,e=.returned v/\w'.ownsRow w.heap.size 54 5 v ls.flatten.length (kJ ls.flatten)/\Below w.heap.size w w'
theorem ph(ls:List (List Tv))(V:Value)(w:World)(hL:DR w V ls)(hk:ls.length<=1000)(ht:ls.flatten.length<=1000000000):Calls ah 199 #[V] w (rq w ls):=by
 have HL:=qet hL;obtain⟨b,off,cap,rfl,hlt,hI⟩:=hL;have HI:=qet hI;obtain⟨N,hN⟩:∃N,N=ls.length:=⟨_,rfl⟩
 have HN:=qet hN;rw[<-hN]at hk ⊢;rw[<-hN]at HL;have n5:(N:Int)<=1000:=by omega
 have HT:=qet ht;have c1:=fun n hn W=>LF n hn W
 have i0:(0:Int)<=(N:Int):=by omega
 clear hI hN ht;go_enter Tryz.func199,Tryz.ntmps199;go_wp2_with fail
 go_loopw [3,11] (fun sv i wr=>∃(k:Nat),k<=N/\i=.int .i64 (k:Int)/\sv=.int .i64 ((ls.take k).flatten.length:Int)/\w=wr) (fun _ i _=>N-(intOf i).toNat)
 case atStart=>exact⟨0,by omega,rfl,rfl,rfl⟩
 case round=>
  obtain⟨k,hk2,rfl,rfl,rfl⟩:=hrel
  by_cases hkN:k<N
  ·have j1:(k:Int)<(N:Int):=by omega
   have j0:(0:Int)<=(k:Int):=by omega
   obtain⟨l,hl⟩:∃l,ls[k]? =some l:=⟨_,List.getElem?_eq_getElem (by rw[<-HN.o];exact hkN)⟩
   obtain⟨u,q1,a2,b2,off2,cap2,rfl,_,_⟩:=HI.o k l hl;have e1:(ls.take (k+1)).flatten.length=(ls.take k).flatten.length+l.length:=by rw[AX ls k l hl,ao]
   have e2:=Hx ls (k+1);have e3:=HT.o;rw[e1]at e2;have HE:=qet e1;obtain⟨m,hm⟩:∃m,m=(ls.take k).flatten.length:=⟨_,rfl⟩
   obtain⟨n,hn⟩:∃n,n=l.length:=⟨_,rfl⟩
   rw[<-hm,<-hn]at HE;rw[<-hn]at e2 q1;rw[<-hm]at e2 ⊢;have j2:(m:Int)+(n:Int)<=1000000000:=by omega
   have j3:(0:Int)<=(m:Int):=by omega
   have j4:(0:Int)<=(n:Int):=by omega
   have j5:¬ ((m:Int)+(n:Int)<0):=by omega
   clear e1 e2 e3 hm hn hl c1;go_wp2
   go_roundw
   case rel=>exact⟨k+1,by omega,by go_num,by rw[HE.o];go_num,trivial⟩
   case measure=>simp[intOf];omega
  ·obtain rfl:k=N:=by omega
   have htk:ls.take k=ls:=aX (by rw[<-HN.o];exact aj _);rw[htk];have c2:=c1 ls.flatten.length (by have:=HT.o;omega) w;obtain⟨T,hT⟩:∃T,T=ls.flatten.length:=⟨_,rfl⟩
   rw[<-hT]at c2 ⊢;have DG:=qet hT;clear c1 hT htk hkN hk2;go_wp2_with fail;refine c2.mono ?_;rintro e w1 ⟨v1,rfl,ho1,hb1⟩;have O1:=qet ho1;have B1:=qet hb1;clear c2 ho1 hb1;go_wp2_with fail
   go_loopw [6,27] (fun nv i wr=>∃(m:Nat)(DS:Value),m<=k/\i=.int .i64 (m:Int)/\DS=nv/\qes (wr.ownsRow w.heap.size 54 5 DS (ls.take m).flatten.length (kJ (ls.take m).flatten)/\Below w.heap.size w wr)) (fun _ i _=>k-(intOf i).toNat)
   case atStart=>exact⟨0,v1,by omega,rfl,rfl,O1.o,B1.o⟩
   case round=>
    obtain⟨m,nv,hm,rfl,rfl,hh⟩:=hrel;have O:=qet hh.o.1;have HB:=qet hh.o.2;clear hh O1 B1
    by_cases hmk:m<k
    ·have j1:(m:Int)<(k:Int):=by omega
     have j0:(0:Int)<=(m:Int):=by omega
     obtain⟨l,hl⟩:∃l,ls[m]? =some l:=⟨_,List.getElem?_eq_getElem (by rw[<-HN.o];exact hmk)⟩
     obtain⟨u,q0,hu⟩:=HI.o m l hl;have q1:=(HB.o.cell (p:=⟨b,off+m,none⟩) hlt).trans q0;have HU:=qet (hu.below HB.o (aj _));have Fm:=qet (AX ls m l hl);have e2:=Hx ls (m+1);rw[Fm.o,ao]at e2;have HE2:qes ((ls.take m).flatten.length+l.length<=1000000000000):=by have:=HT.o;show _<=_;omega
     clear q0 hu hl e2;go_wp2_with(at_builtin;go_must (refine pf (by rfl) _ _ (by rfl) w.heap.size _ nv _ (by rfl) O.o u l (by rfl) HU.o HE2.o HB.o.size ?_;intro XK w3 hown3 hgrow3));have B3:=qet (HB.o.grown hgrow3 HB.o.size (fun r hr=>(O.o.lt r hr).1))
     have O3:qes (w3.ownsRow w.heap.size 54 5 XK (ls.take (m+1)).flatten.length (kJ (ls.take (m+1)).flatten)):=by
      show eG _ _ _ _ _ _ _;rw[Fm.o,ao,mD];exact hown3
     clear hown3 hgrow3 O HB HU HE2;go_wp2
     go_roundw
     case rel=>exact⟨m+1,XK,by omega,by go_num,rfl,O3.o,B3.o⟩
     case measure=>simp[intOf];omega
    ·obtain rfl:m=k:=by omega
     have htk:ls.take m=ls:=aX (by rw[<-HN.o];exact aj _);have HF:qes (rq w ls (.returned nv) wr):=⟨nv,rfl,by have h:=O.o;rw[htk]at h;exact h,HB.o⟩
     clear htk;go_wp2;go_ret;exact HF.o
def Vy:Tv:=⟨3,⟨#[40]⟩,0,0,0⟩
def Vz:Tv:=⟨3,⟨#[41]⟩,0,0,0⟩
def nG(w:World)(L:List Tv)(e:Ending)(w':World):Prop:=∃v,e=.returned v/\ku w' v L/\Below w.heap.size w w'
def jC(op:Bool)(l:List Tv):List Tv:=if op then [Vy]++(l++[Vz])else l
variable {l:List Tv}
theorem ku.call(h:ku w v l)(hb:Below w.heap.size w w'):ku w' v l:=h.below hb (aj _)
theorem ku.alloc(h:ku w v l)(o:Obj):ku (w.alloc o) v l:=h.below ((aw w.heap.size w).alloc (aj _) o) (aj _)
variable {g:Nat}{W:World}
theorem kv(l:List Tv)(hg:W.heap.size=g)(cs:Array Value)(hc:cs.toList=kJ l)(n:Nat)(hn:l.length=n):ku (W.alloc (.cells cs 54)) (.slice (some ⟨g,0,none⟩) n n) l:=by
 subst hn;subst hg;have hs:cs.size=l.length*5:=by rw[<-Array.length_toList,hc,mE]
 refine⟨_,W.heap.size,0,l.length,rfl,fun _=>⟨by rw[aB];omega,rfl⟩,fun i x hx=>?_⟩;obtain⟨hi,he⟩:=List.getElem?_eq_some_iff.1 hx
 have key:∀j,j<5->(W.alloc (.cells cs 54)).cell? ⟨W.heap.size,i*5+j,none⟩=(RA x)[j]? :=fun j hj=>by
  rw[af (aE W _),<-Array.getElem?_toList,hc,yB l i j hi hj,he]
 rw[fg];exact⟨key 0 (by omega),key 1 (by omega),key 2 (by omega),key 3 (by omega),key 4 (by omega)⟩
theorem Hy(hg:W.heap.size=g){v1 v2 v3:Value}{l1 l2 l3:List Tv}(h1:ku W v1 l1)(h2:ku W v2 l2)(h3:ku W v3 l3):DR (W.alloc (.cells #[v1,v2,v3] 22)) (.slice (some ⟨g,0,none⟩) 3 3) [l1,l2,l3]:=by
 subst hg;refine⟨W.heap.size,0,3,rfl,by rw[aB];omega,fun i l hl=>?_⟩;have hh:=af (aE W (.cells #[v1,v2,v3] 22));rw[fg]
 match i with
 |0=>cases hl;exact⟨v1,hh 0,h1.alloc _⟩
 |1=>cases hl;exact⟨v2,hh 1,h2.alloc _⟩
 |2=>cases hl;exact⟨v3,hh 2,h3.alloc _⟩
 |i+3=>cases hl
theorem VA(hg:W.heap.size=g){v1 v2:Value}{l1 l2:List Tv}(h1:ku W v1 l1)(h2:ku W v2 l2):DR (W.alloc (.cells #[v1,v2] 22)) (.slice (some ⟨g,0,none⟩) 2 2) [l1,l2]:=by
 subst hg;refine⟨W.heap.size,0,2,rfl,by rw[aB];omega,fun i l hl=>?_⟩;have hh:=af (aE W (.cells #[v1,v2] 22));rw[fg]
 match i with
 |0=>cases hl;exact⟨v1,hh 0,h1.alloc _⟩
 |1=>cases hl;exact⟨v2,hh 1,h2.alloc _⟩
 |i+2=>cases hl
def Held(w W:World):Prop:=Below w.heap.size w W
variable {W':World}
theorem Held.call(h:Held w W)(hb:Below W.heap.size W W'):Held w W':=Below.trans h (hb.mono h.size)
theorem Held.alloc(h:Held w W)(o:Obj):Held w (W.alloc o):=Below.alloc h h.size o
theorem Held.drew(h:Held w W):Held w W.drew:=Below.trans h (⟨rfl,rfl,rfl,aj _,fun _ _=>rfl⟩:Below w.heap.size W W.drew)
theorem Held.post{ls:List (List Tv)}{e:Ending}(h:Held w W)(hp:rq W ls e W'):nG w ls.flatten e W':=by
 obtain⟨v,rfl,h1,h2⟩:=hp;exact⟨v,rfl,ku.oF h1,h.call h2⟩
theorem Held.call'(hb:Below W.heap.size W W')(h:Held w W):Held w W':=h.call hb
theorem ku.call'(hb:Below w.heap.size w w')(h:ku w v l):ku w' v l:=h.call hb
theorem gS{a b:Prop}(h:a/\b):b:=h.2
theorem LG(l:List Tv)(u:Value)(w:World)(hu:ku w u l):Calls ah 203 #[.agg #[u,.bool false]] w (nG w l):=by
 have hb:=(aw w.heap.size w).alloc (aj _) (.cells #[u,.bool false] 200);have HF:qes (nG w l (.returned u) (w.alloc (.cells #[u,.bool false] 200))):=⟨u,rfl,hu.below hb (aj _),hb⟩
 obtain⟨a,b,off,cap,rfl,_,_⟩:=hu;clear hb;generalize l.length=n at *;go_enter Tryz.func203,Tryz.ntmps203;go_wp2;go_ret;exact HF.o
theorem Je(l:List Tv)(u:Value)(w:World)(hu:ku w u l)(hl:l.length<=100000000):Calls ah 203 #[.agg #[u,.bool true]] w (nG w ([Vy]++(l++[Vz]))):=by
 have hk:∀W,Held (w.alloc (.cells #[u,.bool true] 200)) W->W.cell? ⟨w.heap.size,0,none⟩=some u:=fun W h=>(h.cell (p:=⟨w.heap.size,0,none⟩) (by rw[aB];exact fx _)).trans (af (aE w _) 0)
 have hw:∀W,Held (w.alloc (.cells #[u,.bool true] 200)) W->Held w W:=fun W h=>Held.call ((aw w.heap.size w).alloc (aj _) _) h
 have hL:∀W,Held (w.alloc (.cells #[u,.bool true] 200)) W->ku W u l:=fun W h=>hu.call (hw W h)
 have h0:Held (w.alloc (.cells #[u,.bool true] 200)) (w.alloc (.cells #[u,.bool true] 200)):=aw _ _;obtain⟨a,b,off,cap,rfl,_,_⟩:=hu;obtain⟨L,uI⟩:∃L,L=[Vy]++(l++[Vz]):=⟨_,rfl⟩
 have HG:qes (∀W V,DR W V [[Vy],l,[Vz]]->Held (w.alloc (.cells #[.slice a l.length cap,.bool true] 200)) W->Calls ah 199 #[V] W (fun e W'=>(∃v,e=.returned v/\qes (nG w L (.returned v) W'))/\Below W.heap.size W W')):=fun W V h1 h2=>by
  refine(ph _ V W h1 (by simp) (by simp;omega)).mono ?_;intro e W' hp;have hq:=(hw W h2).post hp;obtain⟨v,rfl,_,hb⟩:=hp;refine⟨⟨v,rfl,?_⟩,hb⟩;show nG w L _ W';rw[uI]
  simpa using hq
 have CS:=qet pY;have HK:=qet hk;have HL:=qet hL;rw[<-uI];generalize l.length=n at *;clear hl hk hL hw uI;go_enter Tryz.func203,Tryz.ntmps203;go_wp2;generalize w.alloc (.cells #[.slice a n cap,.bool true] 200)=X at *
 go_region_held3 (fun W=>W.cell? ⟨w.heap.size,0,none⟩=some (.slice a n cap)/\Held X W) (first|assumption|(focus(repeat with_reducible (first|assumption|(apply gS;assumption)|refine Held.alloc ?_ _|refine Held.drew ?_|(apply Held.call';focus assumption)));done)|(with_reducible refine HK.o _ ?_;(focus(repeat with_reducible (first|assumption|(apply gS;assumption)|refine Held.alloc ?_ _|refine Held.drew ?_|(apply Held.call';focus assumption)));done))|(refine fw ?_ ?_ <;> first|(focus(repeat with_reducible (first|assumption|(apply gS;assumption)|refine Held.alloc ?_ _|refine Held.drew ?_|(apply Held.call';focus assumption)));done)|(with_reducible refine HK.o _ ?_;(focus(repeat with_reducible (first|assumption|(apply gS;assumption)|refine Held.alloc ?_ _|refine Held.drew ?_|(apply Held.call';focus assumption)));done)))) (first|(go_at_call 200;refine(CS.o _ _).mono ?_;rintro e w2 ⟨rfl,hb2⟩;unfold oG)|(go_at_call 199;refine(HG.o _ _ ?_ ?_).mono ?_;(focus(refine Hy ?_ ?_ ?_ ?_;(focus(first|rfl|(simp;done)));(focus(focus((repeat(first|(with_reducible assumption)|(refine kv _ ?_ _ ?_ _ ?_ <;> first|rfl|(simp;done))|(with_reducible refine ku.alloc ?_ _)|(with_reducible refine ku.drew ?_)|((with_reducible apply ku.call');(focus(with_reducible assumption)))));done)));(focus(refine HL.o _ ?_;(focus(repeat with_reducible (first|assumption|(apply gS;assumption)|refine Held.alloc ?_ _|refine Held.drew ?_|(apply Held.call';focus assumption)));done)));(focus(focus((repeat(first|(with_reducible assumption)|(refine kv _ ?_ _ ?_ _ ?_ <;> first|rfl|(simp;done))|(with_reducible refine ku.alloc ?_ _)|(with_reducible refine ku.drew ?_)|((with_reducible apply ku.call');(focus(with_reducible assumption)))));done)))));(focus(focus(repeat with_reducible (first|assumption|(apply gS;assumption)|refine Held.alloc ?_ _|refine Held.drew ?_|(apply Held.call';focus assumption)));done));rintro e w9 ⟨⟨v9,rfl,SR⟩,Ak⟩))
 all_goals
  have HB:qes (nG w L (.returned v9) w9):=by assumption
  clear h0 HG HK HL;go_wp2;go_ret;exact HB.o
theorem vY(l:List Tv)(u:Value)(op:Bool)(w:World)(hu:ku w u l)(hl:l.length<=100000000):Calls ah 203 #[.agg #[u,.bool op]] w (nG w (jC op l)):=by
 cases op with
 |false=>exact LG l u w hu
 |true=>exact Je l u w hu hl
def DT(s:ByteArray):Tv:=⟨1,s,0,0,0⟩
def Ac(s:ByteArray):Tv:=⟨3,s,0,0,0⟩
abbrev tV(pk pn pt:Int)(pS pF:ByteArray):Array Value:=#[.int .i64 pk,.int .i64 pn,.int .i64 pt,.string pS,.string pF]
def jt(w:World)(L:List Tv)(e:Ending)(w':World):Prop:=∃v,e=.returned v/\w'.ownsRow w.heap.size 54 5 v L.length (kJ L)/\Below w.heap.size w w'
theorem Held.Hz{ls:List (List Tv)}{e:Ending}(h:Held w W)(hp:rq W ls e W'):jt w ls.flatten e W':=by
 obtain⟨v,rfl,h1,h2⟩:=hp;refine⟨v,rfl,⟨h1.1,?_⟩,h.call h2⟩
 rcases h1.2 with q|⟨g,cap,cur,q1,q2,q3⟩
 ·exact .inl q
 ·exact .inr ⟨g,cap,cur,q1,aP h.size q2,q3⟩
theorem Held.row(h:Held w W)(hg:W.heap.size=g)(cs:Array Value)(hc:cs.toList=kJ l)(hn:l.length=n)(hm:n<=1000):jt w l (.returned (.slice (some ⟨g,0,none⟩) n n)) (W.alloc (.cells cs 54)):=by
 subst hn;subst hg;have hs:cs.size=l.length*5:=by rw[<-Array.length_toList,hc,mE]
 refine⟨_,rfl,⟨mE l,.inr ⟨W.heap.size,l.length,cs,rfl,h.size,aE W _,aj _,by unfold ff;omega,hs,?_⟩⟩,h.alloc _⟩;rw[hc,<-mE,List.take_length]
theorem LH(pn pt:Int)(pS pF:ByteArray)(V:Value)(w:World):
  Calls ah 169 #[.agg (tV 1 pn pt pS pF),V] w (jt w [mU pn pt]):=by
 have h0:Held w (w.alloc (.cells (tV 1 pn pt pS pF) 42)):=Held.alloc (aw _ _) _;have c:=fun W=>F6 1 pn pt pS pF W
 generalize mU pn pt=x at *;go_enter fJ,fG;go_wp2_with fail;refine(c _).mono ?_;rintro e w1 ⟨rfl,hb1⟩;have HF:qes (jt w [x] (.returned (.slice (some ⟨w1.heap.size,0,none⟩) 1 1)) (w1.alloc (.cells #[.int .i64 x.k,.string x.s,.int .i64 x.n,.int .i64 x.t,.int .i64 x.at_] 54))):=Held.row (h0.call hb1) rfl _ rfl rfl (by decide);clear hb1 c h0;unfold oG;go_wp2;go_ret;exact HF.o
theorem LI(pn pt:Int)(pS pF:ByteArray)(hS:pS.size<=140737488355000)(V:Value)(w:World):
  Calls ah 169 #[.agg (tV 2 pn pt pS pF),V] w (jt w [DT pS]):=by
 have h0:Held w (w.alloc (.cells (tV 2 pn pt pS pF) 42)):=Held.alloc (aw _ _) _;have c:=fun W=>lU pS hS W
 go_enter fJ,fG;go_wp2_with fail;refine(c _).mono ?_;rintro e w1 ⟨rfl,hb1⟩;have HF:qes (jt w [DT pS] (.returned (.slice (some ⟨w1.heap.size,0,none⟩) 1 1)) (w1.alloc (.cells #[.int .i64 1,.string pS,.int .i64 0,.int .i64 0,.int .i64 0] 54))):=Held.row (h0.call hb1) rfl _ rfl rfl (by decide);clear hb1 c h0;unfold oG;go_wp2;go_ret;exact HF.o
theorem LJ(pn pt:Int)(pS pF:ByteArray)(hS:pS.size<=140737488355000)(hF:pF.size<=140737488355000)(V:Value)(w:World):
  Calls ah 169 #[.agg (tV 4 pn pt pS pF),V] w (jt w [DT pS,Ac ⟨#[46]⟩,DT pF]):=by
 have hw:∀W,Held (w.alloc (.cells (tV 4 pn pt pS pF) 42)) W->Held w W:=fun W h=>Held.call ((aw w.heap.size w).alloc (aj _) _) h
 have HW:=qet hw;have hh:=aE w (.cells (tV 4 pn pt pS pF) 42);have HK:qes (∀W,Held (w.alloc (.cells (tV 4 pn pt pS pF) 42)) W->W.cell? ⟨w.heap.size,3,none⟩=some (.string pS)):=fun W h=>(h.cell (p:=⟨w.heap.size,3,none⟩) (by rw[aB];exact fx _)).trans (af hh 3)
 have yJ:qes (∀W,Held (w.alloc (.cells (tV 4 pn pt pS pF) 42)) W->W.cell? ⟨w.heap.size,4,none⟩=some (.string pF)):=fun W h=>(h.cell (p:=⟨w.heap.size,4,none⟩) (by rw[aB];exact fx _)).trans (af hh 4)
 have h0:Held (w.alloc (.cells (tV 4 pn pt pS pF) 42)) (w.alloc (.cells (tV 4 pn pt pS pF) 42)):=aw _ _;have CS:=qet pY;have CW:=qet fun W=>lU pS hS W
 have CV:=qet fun W=>lU pF hF W
 clear hS hF hw hh;go_enter fJ,fG;go_wp2;unfold tV at *;generalize w.alloc (.cells #[.int .i64 4,.int .i64 pn,.int .i64 pt,.string pS,.string pF] 42)=X at *
 go_region_held3 (fun W=>(W.cell? ⟨w.heap.size,3,none⟩=some (.string pS)/\W.cell? ⟨w.heap.size,4,none⟩=some (.string pF))/\Held X W) (first|assumption|(focus(repeat with_reducible (first|assumption|(apply gS;assumption)|refine Held.alloc ?_ _|refine Held.drew ?_|(apply Held.call';focus assumption)));done)|(with_reducible refine HK.o _ ?_;(focus(repeat with_reducible (first|assumption|(apply gS;assumption)|refine Held.alloc ?_ _|refine Held.drew ?_|(apply Held.call';focus assumption)));done))|(with_reducible refine yJ.o _ ?_;(focus(repeat with_reducible (first|assumption|(apply gS;assumption)|refine Held.alloc ?_ _|refine Held.drew ?_|(apply Held.call';focus assumption)));done))|(refine⟨⟨HK.o _ ?_,yJ.o _ ?_⟩,?_⟩ <;> (focus(repeat with_reducible (first|assumption|(apply gS;assumption)|refine Held.alloc ?_ _|refine Held.drew ?_|(apply Held.call';focus assumption)));done))) (first|(go_at_call 200;refine(CS.o _ _).mono ?_;rintro e w2 ⟨rfl,hb2⟩;unfold oG)|(go_at_call 198;refine(CW.o _).mono ?_;rintro e w2 ⟨rfl,hb2⟩;unfold oG)|(go_at_call 198;refine(CV.o _).mono ?_;rintro e w2 ⟨rfl,hb2⟩;unfold oG))
 all_goals
  clear CS CW CV HK yJ;go_wp2;go_ret;refine Held.row (HW.o _ ?_) ?_ _ ?_ ?_ ?_
  ·(focus(repeat with_reducible (first|assumption|(apply gS;assumption)|refine Held.alloc ?_ _|refine Held.drew ?_|(apply Held.call';focus assumption)));done)
  ·rfl
  ·rfl
  ·rfl
  ·decide
structure Pz(w:World)(V u:Value)(l:List Tv)(op:Bool)(vb vo vc:Nat):Prop where
 val:V=.slice (some ⟨vb,vo,none⟩) 1 vc
 cap:1<=vc
 lt:vb<w.heap.size
 c0:w.cell? ⟨vb,vo,none⟩=some u
 c1:w.cell? ⟨vb,vo+1,none⟩=some (.bool op)
 lst:ku w u l
theorem LK(pn pt:Int)(pS pF:ByteArray)(hS:pS.size<=140737488355000)(V u:Value)(l:List Tv)(op:Bool)(vb vo vc:Nat)(w:World)(hV:Pz w V u l op vb vo vc)(hl:l.length<=100000000):
  Calls ah 169 #[.agg (tV 3 pn pt pS pF),V] w (jt w ([DT pS,Ac ⟨#[91]⟩]++(l++[Ac ⟨#[93]⟩]))):=by
 have hw:∀W,Held (w.alloc (.cells (tV 3 pn pt pS pF) 42)) W->Held w W:=fun W h=>Held.call ((aw w.heap.size w).alloc (aj _) _) h
 have HW:=qet hw;have hh:=aE w (.cells (tV 3 pn pt pS pF) 42);have HK:qes (∀W,Held (w.alloc (.cells (tV 3 pn pt pS pF) 42)) W->W.cell? ⟨w.heap.size,3,none⟩=some (.string pS)):=fun W h=>(h.cell (p:=⟨w.heap.size,3,none⟩) (by rw[aB];exact fx _)).trans (af hh 3)
 have yJ:qes (∀W,Held (w.alloc (.cells (tV 3 pn pt pS pF) 42)) W->W.cell? ⟨vb,vo,none⟩=some u):=fun W h=>((hw W h).cell (p:=⟨vb,vo,none⟩) hV.lt).trans hV.c0
 have HL:qes (∀W,Held (w.alloc (.cells (tV 3 pn pt pS pF) 42)) W->ku W u l):=fun W h=>hV.lst.call (hw W h)
 have h0:Held (w.alloc (.cells (tV 3 pn pt pS pF) 42)) (w.alloc (.cells (tV 3 pn pt pS pF) 42)):=aw _ _;have CS:=qet pY;have CW:=qet fun W=>lU pS hS W
 obtain⟨L,uI⟩:∃L,L=[DT pS,Ac ⟨#[91]⟩]++(l++[Ac ⟨#[93]⟩]):=⟨_,rfl⟩
 have HG:qes (∀W V,DR W V [[DT pS,Ac ⟨#[91]⟩],l,[Ac ⟨#[93]⟩]]->Held (w.alloc (.cells (tV 3 pn pt pS pF) 42)) W->Calls ah 199 #[V] W (fun e W'=>(∃v,e=.returned v/\qes (jt w L (.returned v) W'))/\Below W.heap.size W W')):=fun W V h1 h2=>by
  refine(ph _ V W h1 (by simp) (by simp;omega)).mono ?_;intro e W' hp;have hq:=(hw W h2).Hz hp;obtain⟨v,rfl,_,hb⟩:=hp;refine⟨⟨v,rfl,?_⟩,hb⟩;show jt w L _ W';rw[uI]
  simpa using hq
 rw[<-uI];obtain⟨rfl,hc1,hvl,_,_,⟨a,b,off,cap,rfl,_,_⟩⟩:=hV;generalize l.length=n at *;clear hS hw hh uI hl hvl;go_enter fJ,fG;go_wp2;unfold tV at *;generalize w.alloc (.cells #[.int .i64 3,.int .i64 pn,.int .i64 pt,.string pS,.string pF] 42)=X at *
 go_region_held3 (fun W=>(W.cell? ⟨w.heap.size,3,none⟩=some (.string pS)/\W.cell? ⟨vb,vo,none⟩=some (.slice a n cap))/\Held X W) (first|assumption|(focus(repeat with_reducible (first|assumption|(apply gS;assumption)|refine Held.alloc ?_ _|refine Held.drew ?_|(apply Held.call';focus assumption)));done)|(with_reducible refine HK.o _ ?_;(focus(repeat with_reducible (first|assumption|(apply gS;assumption)|refine Held.alloc ?_ _|refine Held.drew ?_|(apply Held.call';focus assumption)));done))|(with_reducible refine yJ.o _ ?_;(focus(repeat with_reducible (first|assumption|(apply gS;assumption)|refine Held.alloc ?_ _|refine Held.drew ?_|(apply Held.call';focus assumption)));done))|(refine⟨⟨HK.o _ ?_,yJ.o _ ?_⟩,?_⟩ <;> (focus(repeat with_reducible (first|assumption|(apply gS;assumption)|refine Held.alloc ?_ _|refine Held.drew ?_|(apply Held.call';focus assumption)));done))) (first|(go_at_call 200;refine(CS.o _ _).mono ?_;rintro e w2 ⟨rfl,hb2⟩;unfold oG)|(go_at_call 198;refine(CW.o _).mono ?_;rintro e w2 ⟨rfl,hb2⟩;unfold oG)|(go_at_call 199;refine(HG.o _ _ ?_ ?_).mono ?_;(focus(refine Hy ?_ ?_ ?_ ?_;(focus(first|rfl|(simp;done)));(focus(focus((repeat(first|(with_reducible assumption)|(refine kv _ ?_ _ ?_ _ ?_ <;> first|rfl|(simp;done))|(with_reducible refine ku.alloc ?_ _)|(with_reducible refine ku.drew ?_)|((with_reducible apply ku.call');(focus(with_reducible assumption)))));done)));(focus(refine HL.o _ ?_;(focus(repeat with_reducible (first|assumption|(apply gS;assumption)|refine Held.alloc ?_ _|refine Held.drew ?_|(apply Held.call';focus assumption)));done)));(focus(focus((repeat(first|(with_reducible assumption)|(refine kv _ ?_ _ ?_ _ ?_ <;> first|rfl|(simp;done))|(with_reducible refine ku.alloc ?_ _)|(with_reducible refine ku.drew ?_)|((with_reducible apply ku.call');(focus(with_reducible assumption)))));done)))));(focus(focus(repeat with_reducible (first|assumption|(apply gS;assumption)|refine Held.alloc ?_ _|refine Held.drew ?_|(apply Held.call';focus assumption)));done));rintro e w9 ⟨⟨v9,rfl,SR⟩,Ak⟩))
 all_goals
  have HB:qes (jt w L (.returned v9) w9):=by assumption
  clear h0 HG HK HL yJ CS CW;go_wp2;go_ret;exact HB.o
theorem PA(pn pt:Int)(pS pF:ByteArray)(cw:ByteArray)(ct:Int)(hcv:yz pt=.tuple #[.agg #[.string cw,.int .i64 ct],.bool true])(hS:cw.size<=140737488355000)(V u:Value)(l:List Tv)(op:Bool)(vb vo vc:Nat)(w:World)(hg:TabAt w 12 ov)(hz:12<w.heap.size)(hV:Pz w V u l op vb vo vc)(hl:l.length<=100000000):
  Calls ah 169 #[.agg (tV 6 pn pt pS pF),V] w (jt w ([DT cw,Ac ⟨#[40]⟩]++(l++[Ac ⟨#[41]⟩]))):=by
 have c1:=DH pt (w.alloc (.cells (tV 6 pn pt pS pF) 42)) (hg.alloc hz _) (by rw[aB];omega);rw[hcv]at c1;have hH:=qet ((aw w.heap.size w).alloc (aj _) (.cells (tV 6 pn pt pS pF) 42));have SU:=qet hV.lst;have RG:=qet hV.c0;have U2:=qet hV.lt;have HLn:=qet hl;obtain⟨L,uI⟩:∃L,L=[DT cw,Ac ⟨#[40]⟩]++(l++[Ac ⟨#[41]⟩]):=⟨_,rfl⟩
 have tu:=qet uI;have CS:=qet pY;have CW:=qet fun W=>lU cw hS W
 rw[<-uI];obtain⟨rfl,hc1,hvl,_,_,⟨a,b,off,cap,rfl,_,_⟩⟩:=hV;obtain⟨n,hn⟩:∃n,n=l.length:=⟨_,rfl⟩
 rw[<-hn]at SU RG;clear hS uI hl hvl hn hg hcv;go_enter fJ,fG;go_wp2_with fail;refine c1.mono ?_;rintro e w1 ⟨rfl,hb1⟩;have hw:∀W,Held (w1.alloc (.cells #[.string cw,.int .i64 ct] 227)) W->Held w W:=fun W h=>Held.call (Held.alloc (Held.call hH.o hb1) _) h
 have HW:=qet hw;have hh:=aE w1 (.cells #[.string cw,.int .i64 ct] 227);have HK:qes (∀W,Held (w1.alloc (.cells #[.string cw,.int .i64 ct] 227)) W->W.cell? ⟨w1.heap.size,0,none⟩=some (.string cw)):=fun W h=>(h.cell (p:=⟨w1.heap.size,0,none⟩) (by rw[aB];exact fx _)).trans (af hh 0)
 have yJ:qes (∀W,Held (w1.alloc (.cells #[.string cw,.int .i64 ct] 227)) W->W.cell? ⟨vb,vo,none⟩=some (.slice a n cap)):=fun W h=>((hw W h).cell (p:=⟨vb,vo,none⟩) U2.o).trans RG.o
 have HL:qes (∀W,Held (w1.alloc (.cells #[.string cw,.int .i64 ct] 227)) W->ku W (.slice a n cap) l):=fun W h=>SU.o.call (hw W h)
 have h0:Held (w1.alloc (.cells #[.string cw,.int .i64 ct] 227)) (w1.alloc (.cells #[.string cw,.int .i64 ct] 227)):=aw _ _
 have HG:qes (∀W V,DR W V [[DT cw,Ac ⟨#[40]⟩],l,[Ac ⟨#[41]⟩]]->Held (w1.alloc (.cells #[.string cw,.int .i64 ct] 227)) W->Calls ah 199 #[V] W (fun e W'=>(∃v,e=.returned v/\qes (jt w L (.returned v) W'))/\Below W.heap.size W W')):=fun W V h1 h2=>by
  refine(ph _ V W h1 (by simp) (by have:=HLn.o;simp;omega)).mono ?_;intro e W' hp;have hq:=(hw W h2).Hz hp;obtain⟨v,rfl,_,hb⟩:=hp;refine⟨⟨v,rfl,?_⟩,hb⟩;show jt w L _ W';rw[tu.o]
  simpa using hq
 clear c1 hb1 hw hh SU RG U2 HLn tu hH;go_wp2;generalize w1.alloc (.cells #[.string cw,.int .i64 ct] 227)=X at *
 go_region_held3 (fun W=>(W.cell? ⟨w1.heap.size,0,none⟩=some (.string cw)/\W.cell? ⟨vb,vo,none⟩=some (.slice a n cap))/\Held X W) (first|assumption|(focus(repeat with_reducible (first|assumption|(apply gS;assumption)|refine Held.alloc ?_ _|refine Held.drew ?_|(apply Held.call';focus assumption)));done)|(with_reducible refine HK.o _ ?_;(focus(repeat with_reducible (first|assumption|(apply gS;assumption)|refine Held.alloc ?_ _|refine Held.drew ?_|(apply Held.call';focus assumption)));done))|(with_reducible refine yJ.o _ ?_;(focus(repeat with_reducible (first|assumption|(apply gS;assumption)|refine Held.alloc ?_ _|refine Held.drew ?_|(apply Held.call';focus assumption)));done))|(refine⟨⟨HK.o _ ?_,yJ.o _ ?_⟩,?_⟩ <;> (focus(repeat with_reducible (first|assumption|(apply gS;assumption)|refine Held.alloc ?_ _|refine Held.drew ?_|(apply Held.call';focus assumption)));done))) (first|(go_at_call 200;refine(CS.o _ _).mono ?_;rintro e w2 ⟨rfl,hb2⟩;unfold oG)|(go_at_call 198;refine(CW.o _).mono ?_;rintro e w2 ⟨rfl,hb2⟩;unfold oG)|(go_at_call 199;refine(HG.o _ _ ?_ ?_).mono ?_;(focus(refine Hy ?_ ?_ ?_ ?_;(focus(first|rfl|(simp;done)));(focus(focus((repeat(first|(with_reducible assumption)|(refine kv _ ?_ _ ?_ _ ?_ <;> first|rfl|(simp;done))|(with_reducible refine ku.alloc ?_ _)|(with_reducible refine ku.drew ?_)|((with_reducible apply ku.call');(focus(with_reducible assumption)))));done)));(focus(refine HL.o _ ?_;(focus(repeat with_reducible (first|assumption|(apply gS;assumption)|refine Held.alloc ?_ _|refine Held.drew ?_|(apply Held.call';focus assumption)));done)));(focus(focus((repeat(first|(with_reducible assumption)|(refine kv _ ?_ _ ?_ _ ?_ <;> first|rfl|(simp;done))|(with_reducible refine ku.alloc ?_ _)|(with_reducible refine ku.drew ?_)|((with_reducible apply ku.call');(focus(with_reducible assumption)))));done)))));(focus(focus(repeat with_reducible (first|assumption|(apply gS;assumption)|refine Held.alloc ?_ _|refine Held.drew ?_|(apply Held.call';focus assumption)));done));rintro e w9 ⟨⟨v9,rfl,SR⟩,Ak⟩))
 all_goals
  have HB:qes (jt w L (.returned v9) w9):=by assumption
  clear h0 HG HK HL yJ CS CW;go_wp2;go_ret;exact HB.o
theorem BU{op:Bool}(h:l.length<=10000000):(jC op l).length<=10000002:=by
 unfold jC
 split
 ·simp;omega
 ·omega
theorem LL(pn pt:Int)(pS pF:ByteArray)(r0 r1 r3:Int)(r2:ByteArray)(hcv:wO pn=.tuple #[.agg #[.int .i64 r0,.int .i64 r1,.string r2,.int .i64 r3],.bool true])(V u:Value)(l:List Tv)(op:Bool)(vb vo vc:Nat)(w:World)(hg:TabAt w 13 nc)(hz:13<w.heap.size)(hV:Pz w V u l op vb vo vc)(hl:l.length<=10000000):
  Calls ah 169 #[.agg (tV 5 pn pt pS pF),V] w (jt w ([⟨r1,r2,0,0,0⟩]++jC op l)):=by
 have c1:=yy pn (w.alloc (.cells (tV 5 pn pt pS pF) 42)) (hg.alloc hz _) (by rw[aB];omega);rw[hcv]at c1;have hH:=qet ((aw w.heap.size w).alloc (aj _) (.cells (tV 5 pn pt pS pF) 42));have SU:=qet hV.lst;have RG:=qet (fw hV.c0 hV.c1);have U2:=qet hV.lt;have HLn:=qet hl;obtain⟨L,uI⟩:∃L,L=[⟨r1,r2,0,0,0⟩]++jC op l:=⟨_,rfl⟩
 have tu:=qet uI;rw[<-uI];obtain⟨rfl,hc1,hvl,_,_,⟨a,b,off,cap,rfl,_,_⟩⟩:=hV;obtain⟨n,hn⟩:∃n,n=l.length:=⟨_,rfl⟩
 rw[<-hn]at SU RG;clear uI hl hvl hn hg hcv;go_enter fJ,fG;go_wp2_with fail;refine c1.mono ?_;rintro e w1 ⟨rfl,hb1⟩;obtain⟨o1,ho1⟩:∃o1,o1=Obj.cells #[.int .i64 r0,.int .i64 r1,.string r2,.int .i64 r3] 231:=⟨_,rfl⟩
 obtain⟨o2,ho2⟩:∃o2,o2=Obj.cells #[.int .i64 r1,.string r2,.int .i64 0,.int .i64 0,.int .i64 0] 54:=⟨_,rfl⟩
 have hX:Held w ((w1.alloc o1).alloc o2):=Held.alloc (Held.alloc (Held.call hH.o hb1) _) _;have HX:=qet hX;have d0:=(hX.cell (p:=⟨vb,vo,none⟩) U2.o).trans RG.o.1;have d1:=(hX.cell (p:=⟨vb,vo+1,none⟩) U2.o).trans RG.o.2;have c2:=vY l (.slice a n cap) op ((w1.alloc o1).alloc o2) (SU.o.call hX) (by have:=HLn.o;omega);have hO:ku ((w1.alloc o1).alloc o2) (.slice (some ⟨w1.heap.size+1,0,none⟩) 1 1) [⟨r1,r2,0,0,0⟩]:=by rw[ho2];(focus((repeat(first|(with_reducible assumption)|(refine kv _ ?_ _ ?_ _ ?_ <;> first|rfl|(simp;done))|(with_reducible refine ku.alloc ?_ _)|(with_reducible refine ku.drew ?_)|((with_reducible apply ku.call');(focus(with_reducible assumption)))));done))
 have HO:=qet hO;rw[ho1,ho2]at d0 d1 c2;clear c1 hb1 SU RG U2 hH hX hO;go_wp2_with fail;refine c2.mono ?_;rintro e w3 ⟨v3,rfl,hl3,hb3⟩
 have c3:qes (∀V,DR (w3.alloc (.cells #[.slice (some ⟨w1.heap.size+1,0,none⟩) 1 1,v3] 22)) V [[⟨r1,r2,0,0,0⟩],jC op l]->Calls ah 199 #[V] (w3.alloc (.cells #[.slice (some ⟨w1.heap.size+1,0,none⟩) 1 1,v3] 22)) (jt w L)):=fun V h1=>by
  refine(ph _ V _ h1 (by simp) (by have:=BU (op:=op) HLn.o;simp;omega)).mono ?_;intro e W' hp;have hX2:=HX.o;rw[ho1,ho2]at hX2;have hq:=((hX2.call hb3).alloc _).Hz hp;rw[tu.o]
  simpa using hq
 have hO2:=HO.o;rw[ho1,ho2]at hO2;have c4:=c3.o _ (VA rfl (hO2.call hb3) hl3);obtain⟨a3,b3,LM,cap3,rfl,_,_⟩:=hl3;generalize(jC op l).length=n3 at *;clear c2 c3 hO2 hb3 HX HO tu HLn d0 d1 ho1 ho2;go_wp2_with fail;refine c4.mono ?_;rintro e w4 ⟨v4,rfl,hf⟩;have HF:qes (jt w L (.returned v4) w4):=⟨v4,rfl,hf⟩
 clear c4 hf;go_wp2;go_ret;exact HF.o
structure VB(w:World)(V u u':Value)(l l':List Tv)(op op':Bool)(vb vo vc:Nat):Prop where
 val:V=.slice (some ⟨vb,vo,none⟩) 2 vc
 cap:2<=vc
 lt:vb<w.heap.size
 c0:w.cell? ⟨vb,vo,none⟩=some u
 c1:w.cell? ⟨vb,vo+1,none⟩=some (.bool op)
 c2:w.cell? ⟨vb,vo+2,none⟩=some u'
 c3:w.cell? ⟨vb,vo+3,none⟩=some (.bool op')
 lst:ku w u l
 lst':ku w u' l'
theorem LN(pn pt:Int)(pS pF:ByteArray)(r0 r1 r3:Int)(r2:ByteArray)(hcv:wO pn=.tuple #[.agg #[.int .i64 r0,.int .i64 r1,.string r2,.int .i64 r3],.bool true])(V u u':Value)(l l':List Tv)(op op':Bool)(vb vo vc:Nat)(w:World)(hg:TabAt w 13 nc)(hz:13<w.heap.size)(hV:VB w V u u' l l' op op' vb vo vc)(hl:l.length<=10000000)(hl':l'.length<=10000000):
  Calls ah 169 #[.agg (tV 5 pn pt pS pF),V] w (jt w (jC op l++([⟨r1,r2,0,0,0⟩]++jC op' l'))):=by
 have c1:=yy pn (w.alloc (.cells (tV 5 pn pt pS pF) 42)) (hg.alloc hz _) (by rw[aB];omega);rw[hcv]at c1;have hH:=qet ((aw w.heap.size w).alloc (aj _) (.cells (tV 5 pn pt pS pF) 42));have HV:=qet hV;have HLn:=qet hl;have SW:=qet hl';obtain⟨L,uI⟩:∃L,L=jC op l++([⟨r1,r2,0,0,0⟩]++jC op' l'):=⟨_,rfl⟩
 have tu:=qet uI;rw[<-uI];obtain⟨rfl,hc1,hvl,_,_,_,_,⟨a,b,off,cap,rfl,_,_⟩,⟨a',b',off',cap',rfl,_,_⟩⟩:=hV;obtain⟨n,hn⟩:∃n,n=l.length:=⟨_,rfl⟩
 obtain⟨n',hn'⟩:∃n',n'=l'.length:=⟨_,rfl⟩
 rw[<-hn,<-hn']at HV;clear uI hl hl' hvl hn hn' hg hcv;go_enter fJ,fG;go_wp2_with fail;refine c1.mono ?_;rintro e w1 ⟨rfl,hb1⟩;obtain⟨o1,ho1⟩:∃o1,o1=Obj.cells #[.int .i64 r0,.int .i64 r1,.string r2,.int .i64 r3] 231:=⟨_,rfl⟩
 obtain⟨o2,ho2⟩:∃o2,o2=Obj.cells #[.int .i64 r1,.string r2,.int .i64 0,.int .i64 0,.int .i64 0] 54:=⟨_,rfl⟩
 have hX:Held w ((w1.alloc o1).alloc o2):=Held.alloc (Held.alloc (Held.call hH.o hb1) _) _;have hw:∀W,Held ((w1.alloc o1).alloc o2) W->Held w W:=fun W h=>Held.call hX h
 have wS:qes (∀W,Held ((w1.alloc o1).alloc o2) W->W.cell? ⟨vb,vo,none⟩=some (.slice a n cap)):=fun W h=>((hw W h).cell (p:=⟨vb,vo,none⟩) HV.o.lt).trans HV.o.c0
 have H3:qes (∀W,Held ((w1.alloc o1).alloc o2) W->W.cell? ⟨vb,vo+1,none⟩=some (.bool op)):=fun W h=>((hw W h).cell (p:=⟨vb,vo+1,none⟩) HV.o.lt).trans HV.o.c1
 have yJ:qes (∀W,Held ((w1.alloc o1).alloc o2) W->W.cell? ⟨vb,vo+2,none⟩=some (.slice a' n' cap')):=fun W h=>((hw W h).cell (p:=⟨vb,vo+2,none⟩) HV.o.lt).trans HV.o.c2
 have XL:qes (∀W,Held ((w1.alloc o1).alloc o2) W->W.cell? ⟨vb,vo+3,none⟩=some (.bool op')):=fun W h=>((hw W h).cell (p:=⟨vb,vo+3,none⟩) HV.o.lt).trans HV.o.c3
 have CA:qes (∀W,Held ((w1.alloc o1).alloc o2) W->Calls ah 203 #[.agg #[.slice a n cap,.bool op]] W (nG W (jC op l))):=fun W h=>vY l _ op W (HV.o.lst.call (hw W h)) (by have:=HLn.o;omega)
 have CB:qes (∀W,Held ((w1.alloc o1).alloc o2) W->Calls ah 203 #[.agg #[.slice a' n' cap',.bool op']] W (nG W (jC op' l'))):=fun W h=>vY l' _ op' W (HV.o.lst'.call (hw W h)) (by have:=SW.o;omega)
 have hO:ku ((w1.alloc o1).alloc o2) (.slice (some ⟨w1.heap.size+1,0,none⟩) 1 1) [⟨r1,r2,0,0,0⟩]:=by rw[ho2];(focus((repeat(first|(with_reducible assumption)|(refine kv _ ?_ _ ?_ _ ?_ <;> first|rfl|(simp;done))|(with_reducible refine ku.alloc ?_ _)|(with_reducible refine ku.drew ?_)|((with_reducible apply ku.call');(focus(with_reducible assumption)))));done))
 have HO:qes (∀W,Held ((w1.alloc o1).alloc o2) W->ku W (.slice (some ⟨w1.heap.size+1,0,none⟩) 1 1) [⟨r1,r2,0,0,0⟩]):=fun W h=>hO.call h
 have HG:qes (∀W V,DR W V [jC op l,[⟨r1,r2,0,0,0⟩],jC op' l']->Held ((w1.alloc o1).alloc o2) W->Calls ah 199 #[V] W (fun e W'=>(∃v,e=.returned v/\qes (jt w L (.returned v) W'))/\Below W.heap.size W W')):=fun W V h1 h2=>by
  refine(ph _ V W h1 (by simp) (by have:=BU (op:=op) HLn.o;have:=BU (op:=op') SW.o;simp;omega)).mono ?_;intro e W' hp;have hq:=(hw W h2).Hz hp;obtain⟨v,rfl,_,hb⟩:=hp;refine⟨⟨v,rfl,?_⟩,hb⟩;show jt w L _ W';rw[tu.o]
  simpa using hq
 have h0:Held ((w1.alloc o1).alloc o2) ((w1.alloc o1).alloc o2):=aw _ _;rw[ho1,ho2]at wS H3 yJ XL CA CB HO HG h0;clear c1 hb1 HV hH hX hO hw HLn SW tu ho1 ho2;go_wp2;generalize(w1.alloc (.cells #[.int .i64 r0,.int .i64 r1,.string r2,.int .i64 r3] 231)).alloc (.cells #[.int .i64 r1,.string r2,.int .i64 0,.int .i64 0,.int .i64 0] 54)=X at *
 go_region_held3 (fun W=>((W.cell? ⟨vb,vo,none⟩=some (.slice a n cap)/\W.cell? ⟨vb,vo+1,none⟩=some (.bool op))/\(W.cell? ⟨vb,vo+2,none⟩=some (.slice a' n' cap')/\W.cell? ⟨vb,vo+3,none⟩=some (.bool op')))/\Held X W) (first|assumption|(focus(repeat with_reducible (first|assumption|(apply gS;assumption)|refine Held.alloc ?_ _|refine Held.drew ?_|(apply Held.call';focus assumption)));done)|(with_reducible refine wS.o _ ?_;(focus(repeat with_reducible (first|assumption|(apply gS;assumption)|refine Held.alloc ?_ _|refine Held.drew ?_|(apply Held.call';focus assumption)));done))|(with_reducible refine H3.o _ ?_;(focus(repeat with_reducible (first|assumption|(apply gS;assumption)|refine Held.alloc ?_ _|refine Held.drew ?_|(apply Held.call';focus assumption)));done))|(with_reducible refine yJ.o _ ?_;(focus(repeat with_reducible (first|assumption|(apply gS;assumption)|refine Held.alloc ?_ _|refine Held.drew ?_|(apply Held.call';focus assumption)));done))|(with_reducible refine XL.o _ ?_;(focus(repeat with_reducible (first|assumption|(apply gS;assumption)|refine Held.alloc ?_ _|refine Held.drew ?_|(apply Held.call';focus assumption)));done))|(refine⟨⟨⟨wS.o _ ?_,H3.o _ ?_⟩,yJ.o _ ?_,XL.o _ ?_⟩,?_⟩ <;> (focus(repeat with_reducible (first|assumption|(apply gS;assumption)|refine Held.alloc ?_ _|refine Held.drew ?_|(apply Held.call';focus assumption)));done))) (first|(go_at_call 203;(with_reducible refine(CA.o _ ?_).mono ?_);(focus(focus(repeat with_reducible (first|assumption|(apply gS;assumption)|refine Held.alloc ?_ _|refine Held.drew ?_|(apply Held.call';focus assumption)));done));rintro e w2 ⟨v2,rfl,hl2,hb2⟩;have HL2:=hl2;obtain⟨a2,b2,off2,cap2,rfl,_,_⟩:=hl2)|(go_at_call 203;(with_reducible refine(CB.o _ ?_).mono ?_);(focus(focus(repeat with_reducible (first|assumption|(apply gS;assumption)|refine Held.alloc ?_ _|refine Held.drew ?_|(apply Held.call';focus assumption)));done));rintro e w3 ⟨v3,rfl,hl3,hb3⟩;have HL3:=hl3;obtain⟨a3,b3,LM,cap3,rfl,_,_⟩:=hl3)|(go_at_call 199;refine(HG.o _ _ ?_ ?_).mono ?_;(focus(refine Hy ?_ ?_ ?_ ?_;(focus(first|rfl|(simp;done)));(focus(focus((repeat(first|(with_reducible assumption)|(refine kv _ ?_ _ ?_ _ ?_ <;> first|rfl|(simp;done))|(with_reducible refine ku.alloc ?_ _)|(with_reducible refine ku.drew ?_)|((with_reducible apply ku.call');(focus(with_reducible assumption)))));done)));(focus(refine HO.o _ ?_;(focus(repeat with_reducible (first|assumption|(apply gS;assumption)|refine Held.alloc ?_ _|refine Held.drew ?_|(apply Held.call';focus assumption)));done)));(focus(focus((repeat(first|(with_reducible assumption)|(refine kv _ ?_ _ ?_ _ ?_ <;> first|rfl|(simp;done))|(with_reducible refine ku.alloc ?_ _)|(with_reducible refine ku.drew ?_)|((with_reducible apply ku.call');(focus(with_reducible assumption)))));done)))));(focus(focus(repeat with_reducible (first|assumption|(apply gS;assumption)|refine Held.alloc ?_ _|refine Held.drew ?_|(apply Held.call';focus assumption)));done));rintro e w9 ⟨⟨v9,rfl,SR⟩,Ak⟩))
 all_goals
  have HB:qes (jt w L (.returned v9) w9):=by assumption
  clear h0 HG wS H3 yJ XL CA CB HO;go_wp2;go_ret;exact HB.o
def uL(B R:Nat)(tv:Value)(toks:List Tv):Prop:=∀(at_ op:Nat)(ps:List Pv)(fa fc:Int)(w:World)(name:ByteArray),ps.length<=at_->RS B R tv toks at_ op ps fa fc w->
 Calls ah 239 #[.pointer (some ⟨R,0,none⟩),.string name] w fun e w'=>Keep B R w w'/\((at_<toks.length/\(gQ toks at_).k=1/\e=.returned (.bool true)/\RS B R tv toks (at_+1) op (ps++[⟨4,0,0,name,(gQ toks at_).s⟩]) fa fc w')\/(¬ (at_<toks.length/\(gQ toks at_).k=1)/\e=.returned (.bool false)/\RS B R tv toks at_ op ps (at_:Int) 60 w'))
theorem uM{a b:Bs}{r:List Tk}(h:within a b d (lst toks i) (rd f (.row 0) (d+1))=some (.ok (x,r))):x.length+r.length+1<=toks.length-i:=by
 obtain⟨t,q,v,h1,_,_,h2,_⟩:=sT h;have h3:=(jA h2).parts;have h4:=congrArg fp h1;rw[iM,aG]at h4;rw[aG]at h3;omega
variable {s:Bs}
theorem F8{br:Option qC}(h:iX [91] (kU (gQ toks i))=true)(hlt:i<toks.length):named s (lst toks i) br=vP (I0 s) br:=by
 rw[jL hlt];unfold named;simp only[];rw[if_pos h]
theorem BV(IH:yH B R P1 P2 tv toks f)(RH:uL B R tv toks)(hl:toks.length<=3000000000000)(sn:ByteArray)(at_ op:Nat)(ps:List Pv)(fa fc:Int)(w:World)(res:qC)(ho:op<=200)(hp:ps.length<=at_)(hlt:at_<toks.length)(h:RS B R tv toks at_ op ps fa fc w)(he:Env B R P1 P2 w)
  (hr:named sn.data.toList (lst toks (at_+1)) (within [91] [93] op (lst toks (at_+1)) (rd f (.row 0) (op+1)))=some res):Calls ah 238 #[.pointer (some ⟨R,0,none⟩),.string sn,nM P1 P2] w (PostR B R tv toks op ps fa fc res w):=by
 obtain⟨d1,_,d3⟩:=h.cells;obtain⟨r1,k1⟩:=h.step hlt;have E1:=qet (he.keep k1);have c1:=yF r1 (by omega) 3 ⟨#[91]⟩;have HS:=qet (xH [91] (gQ toks (at_+1)));have HR1:=qet r1;have H3:=qet k1;have hle1:=r1.le;have sy:=r1.here;have i3:(at_:Int)<=3000000000000:=by omega
 have i4:(0:Int)<=(at_:Int):=by omega
 obtain⟨FV,xI⟩:∃FV,FV=nM P1 P2:=⟨_,rfl⟩
 have PB:=qet xI;rw[<-xI];clear h he r1 k1 xI
 cases hq:decide ((gQ toks (at_+1)).k=3/\(gQ toks (at_+1)).s=⟨#[91]⟩)with
 |true=>
  rw[hq]at c1;have hs:iX [91] (kU (gQ toks (at_+1)))=true:=by rw[HS.o];exact hq
  have hlt2:at_+1<toks.length:=by
   rcases bZ (at_+1) toks.length with h|h
   ·exact h
   ·have:=(of_decide_eq_true hq).1;rw[nN h]at this;exact absurd this (by decide)
  rw[F8 hs hlt2]at hr
  cases hz:within [91] [93] op (lst toks (at_+1)) (rd f (.row 0) (op+1))with
  |none=>rw[hz]at hr;cases hr
  |some z=>
   rw[hz]at hr;have c2:=fun W h1 h2=>tR IH hl [91] [93] (at_+1) op ps fa fc W z ho (by omega) h1 h2 hz
   rw[<-PB.o]at c2;have HZ:=qet hz;have HRR:=qet hr;clear hr hz hq hs;go_enter Tryz.func238,Tryz.ntmps238;go_wp2_with fail;refine c1.mono ?_;rintro e w2 ⟨rfl,hb2⟩;have K2:=qet (H3.o.trans (Keep.of_below (R:=R) hb2 hle1));have c3:=c2 _ (HR1.o.below hb2) (E1.o.below hb2 hle1);clear c1 c2 hb2;go_wp2_with fail;refine c3.mono ?_;rintro e w3 ⟨hk3,hp3⟩;have K3:=qet (K2.o.trans hk3);clear c3 hk3
   cases z with
   |error z=>
    obtain⟨k,c⟩:=z;simp only[]at hp3;obtain⟨rfl,at2,op2,ps2,hr3⟩:=hp3;have R3:=qet hr3;have HR2:qes (res=.error (k,c)):=(an HRR.o).symm;clear hr3;go_wp2;go_ret;refine⟨K3.o,?_⟩;rw[HR2.o];exact⟨rfl,at2,op2,ps2,R3.o⟩
   |ok z=>
    obtain⟨x,r⟩:=z;simp only[]at hp3;obtain⟨rfl,xs,hxs,hr3⟩:=hp3;have hpp:=uM HZ.o;have hxl:xs.length=x.length:=by rw[<-hxs,aQ]
    have c4:=add_any hr3 (by rw[ao];omega) ⟨3,0,0,sn,⟨#[]⟩⟩;have HR2:qes (res=.ok (x++[I0 sn.data.toList],r)):=(an HRR.o).symm;have F5:=qet hxs;simp only[]at c4;clear hr3 hxs hxl hpp;go_wp2_with fail;refine c4.mono ?_;rintro e w4 ⟨rfl,hr4,hk4⟩;have R4:=qet hr4;have K4:=qet (K3.o.trans hk4);clear c4 hr4 hk4;go_wp2;go_ret;refine⟨K4.o,?_⟩;rw[HR2.o];refine⟨rfl,xs++[⟨3,0,0,sn,⟨#[]⟩⟩],by rw[bB,F5.o];rfl,?_⟩;rw[<-aO];exact R4.o
 |false=>
  rw[hq]at c1;have FT:qes (iX [91] (kU (gQ toks (at_+1)))=false):=by show _=_;rw[HS.o];exact hq
  have HS2:=qet (xH [46] (gQ toks (at_+1)));have c2:=fun W h=>@yF B R tv toks (at_+1) op ps fa fc W h (by omega) 3 ⟨#[46]⟩
  clear hq HS
  cases hq:decide ((gQ toks (at_+1)).k=3/\(gQ toks (at_+1)).s=⟨#[46]⟩)with
  |true=>
   rw[hq]at c2;have YC:qes (iX [46] (kU (gQ toks (at_+1)))=true):=by show _=_;rw[HS2.o];exact hq
   have hlt2:at_+1<toks.length:=by
    rcases bZ (at_+1) toks.length with h|h
    ·exact h
    ·have:=(of_decide_eq_true hq).1;rw[nN h]at this;exact absurd this (by decide)
   have HRR:qes ((match lst toks (at_+2)with
    |[]=>some (.error (0,60))
    |v::r'=>if v.kind=1 then some (.ok ([Ah sn.data.toList v.s],r'))else some (.error (r'.length+1,60)))=some res):=by
    show _=_;rw[jL hlt2]at hr;unfold named at hr;simp only[]at hr;rw[FT.o,YC.o,if_neg (by decide),if_pos rfl]at hr;exact hr
   clear hr hq HS2;go_enter Tryz.func238,Tryz.ntmps238;go_wp2_with fail;refine c1.mono ?_;rintro e w2 ⟨rfl,hb2⟩;have K2:=qet (H3.o.trans (Keep.of_below (R:=R) hb2 hle1));have r2:=HR1.o.below hb2;have hle2:=r2.le;have c3:=c2 _ r2;have R2:=qet r2;clear c1 c2 hb2 r2;go_wp2_with fail;refine c3.mono ?_;rintro e w3 ⟨rfl,hb3⟩;have K3:=qet (K2.o.trans (Keep.of_below (R:=R) hb3 hle2));have r3:=R2.o.below hb3;obtain⟨f1,_,f3⟩:=r3.cells;obtain⟨r4,k4⟩:=r3.step hlt2;have c5:=RH (at_+1+1) op ps fa fc _ sn (by omega) r4;have K4:=qet (K3.o.trans k4);have f1':w3.cell? ⟨R,1,none⟩=some (.int .i64 ((at_:Int)+1)):=f1;have hc5:((at_+1:Nat):Int)+1=(at_:Int)+1+1:=by omega
   rw[hc5]at c5 K4;clear c3 hb3 r3 r4 k4 f1;go_wp2_with fail;refine c5.mono ?_;rintro e w5 ⟨hk5,hcase⟩;have K5:=qet (K4.o.trans hk5);clear c5 hk5
   rcases hcase with⟨hlt3,hkk,rfl,AW⟩|⟨hn,rfl,AW⟩
   ·have HR2:qes (res=.ok ([Ah sn.data.toList (gQ toks (at_+1+1)).s.data.toList],lst toks (at_+1+1+1))):=by
     show _=_;have h1:=HRR.o;rw[show at_+2=at_+1+1 from rfl,jL hlt3]at h1;simp only[]at h1;rw[if_pos (show(kU (gQ toks (at_+1+1))).kind=1 from hkk)]at h1;exact(an h1).symm
    have R5:=qet AW;clear AW hkk;go_wp2;go_ret;refine⟨K5.o,?_⟩;rw[HR2.o];refine⟨rfl,[⟨4,0,0,sn,(gQ toks (at_+1+1)).s⟩],rfl,?_⟩;rw[iM,show toks.length-(toks.length-(at_+1+1+1))=at_+1+1+1 from by omega];exact R5.o
   ·have HR2:qes (res=.error (toks.length-(at_+1+1),60)):=by
     show _=_;have h1:=HRR.o
     rcases bZ (at_+1+1) toks.length with hlt3|hge
     ·rw[show at_+2=at_+1+1 from rfl,jL hlt3]at h1;simp only[]at h1;rw[if_neg (show ¬ (kU (gQ toks (at_+1+1))).kind=1 from fun q=>hn ⟨hlt3,q⟩),iM]at h1;rw[<-an h1]
      congr 2
      omega
     ·rw[show at_+2=at_+1+1 from rfl,nF hge]at h1;rw[<-an h1]
      congr 2
      omega
    have R5:=qet AW;clear AW hn;go_wp2;go_ret;refine⟨K5.o,?_⟩;rw[HR2.o];refine⟨rfl,at_+1+1,op,ps,?_⟩;rw[show((toks.length-(toks.length-(at_+1+1)):Nat):Int)=((at_+1+1:Nat):Int)from by omega];exact R5.o
  |false=>
   rw[hq]at c2;have YC:qes (iX [46] (kU (gQ toks (at_+1)))=false):=by show _=_;rw[HS2.o];exact hq
   have HR2:qes (res=.ok ([FP sn.data.toList],lst toks (at_+1))):=by
    show _=_
    rcases bZ (at_+1) toks.length with hlt2|hge
    ·rw[jL hlt2]at hr;unfold named at hr;simp only[]at hr;rw[FT.o,YC.o,if_neg (by decide),if_neg (by decide)]at hr;rw[jL hlt2];exact(an hr).symm
    ·rw[nF hge]at hr;rw[nF hge];exact(an hr).symm
   clear hr hq HS2;go_enter Tryz.func238,Tryz.ntmps238;go_wp2_with fail;refine c1.mono ?_;rintro e w2 ⟨rfl,hb2⟩;have K2:=qet (H3.o.trans (Keep.of_below (R:=R) hb2 hle1));have r2:=HR1.o.below hb2;have hle2:=r2.le;have c3:=c2 _ r2;have R2:=qet r2;clear c1 c2 hb2 r2;go_wp2_with fail;refine c3.mono ?_;rintro e w3 ⟨rfl,hb3⟩;have K3:=qet (K2.o.trans (Keep.of_below (R:=R) hb3 hle2));have c5:=add_any (R2.o.below hb3) (by omega) ⟨2,0,0,sn,⟨#[]⟩⟩;simp only[]at c5;clear c3 hb3;go_wp2_with fail;refine c5.mono ?_;rintro e w5 ⟨rfl,AW,hk5⟩;have R5:=qet AW;have K5:=qet (K3.o.trans hk5);clear c5 AW hk5;go_wp2;go_ret;refine⟨K5.o,?_⟩;rw[HR2.o];refine⟨rfl,[⟨2,0,0,sn,⟨#[]⟩⟩],rfl,?_⟩;rw[iM,show toks.length-(toks.length-(at_+1))=at_+1 from by omega];exact R5.o
def AY(f op:Nat)(s:Bs)(q:List Tk):Option qC:=
 if s=qS then some (.ok ([uz 1 1],q))
 else if s=qT then some (.ok ([uz 0 1],q))
 else if xE s≠0 then vP (toP (xE s)) (within [40] [41] op q (rd f (.row 0) (op+1)))
 else if nameB s=true then named s q (within [91] [93] op q (rd f (.row 0) (op+1)))
 else some (.error (q.length+1,60))
theorem LO(hlt:i<toks.length)(hk:(gQ toks i).k=1):rd (f+1) .pri op (lst toks i)=AY f op (gQ toks i).s.data.toList (lst toks (i+1)):=by
 rw[jL hlt];unfold rd AY;simp only[];have h1:(kU (gQ toks i)).kind=1:=hk;have h2:(kU (gQ toks i)).s=(gQ toks i).s.data.toList:=rfl;rw[if_neg (by rw[h1];decide)];rw[h2,h1];simp only[true_and]
 have hw:∀go,within [40] [41] op (kU (gQ toks i)::lst toks (i+1)) go=some (.error ((lst toks (i+1)).length+1,60)):=fun go=>by
  unfold within;simp only[];rw[if_neg (by unfold iX;rw[h1];simp)]
 rw[hw]
theorem VC{s:Bs}{k:Nat}(hk:k<3)(h:s=(ki[k]'hk).1):s≠qS/\s≠qT/\xE s=(ki[k]'hk).2/\xE s≠0:=by
 have:k=0\/k=1\/k=2:=by omega
 rcases this with rfl|rfl|rfl
 ·subst h;exact(by decide:([84,79,95,73,78,84]:Bs)≠qS/\([84,79,95,73,78,84]:Bs)≠qT/\xE [84,79,95,73,78,84]=2/\xE [84,79,95,73,78,84]≠0)
 ·subst h;exact(by decide:([84,79,95,68,73,78,84]:Bs)≠qS/\([84,79,95,68,73,78,84]:Bs)≠qT/\xE [84,79,95,68,73,78,84]=3/\xE [84,79,95,68,73,78,84]≠0)
 ·subst h;exact(by decide:([84,79,95,84,73,77,69]:Bs)≠qS/\([84,79,95,84,73,77,69]:Bs)≠qT/\xE [84,79,95,84,73,77,69]=4/\xE [84,79,95,84,73,77,69]≠0)
theorem SX(h:∀k (hk:k<3),s≠(ki[k]'hk).1):xE s=0:=by
 unfold xE;have h0:s≠[84,79,95,73,78,84]:=h 0 (by decide);have h1:s≠[84,79,95,68,73,78,84]:=h 1 (by decide);have h2:s≠[84,79,95,84,73,77,69]:=h 2 (by decide);rw[if_neg h0,if_neg h1,if_neg h2]
theorem text_eq{S:ByteArray}:S=⟨s.toArray⟩↔S.data.toList=s:=by
 constructor
 ·intro h;rw[h]
 ·intro h;rw[<-h,nj]
theorem DU(hl:toks.length<=3000000000000)(n:Int)(s:Bs)(hs:(s=qS/\n=1)\/(s=qT/\n=0))(at_ op:Nat)(ps:List Pv)(fa fc:Int)(w:World)(res:qC)(hp:ps.length<=at_)(hlt:at_<toks.length)(h:RS B R tv toks at_ op ps fa fc w)
  (hr:AY f op s (lst toks (at_+1))=some res):Calls ah 234 #[.pointer (some ⟨R,0,none⟩),.string ⟨s.toArray⟩,nM P1 P2] w (PostR B R tv toks op ps fa fc res w):=by
 have HR2:qes (res=.ok ([uz n 1],lst toks (at_+1))):=by
  show _=_;unfold AY at hr
  rcases hs with⟨rfl,rfl⟩|⟨rfl,rfl⟩
  ·rw[if_pos rfl]at hr;exact(an hr).symm
  ·rw[if_neg (by decide),if_pos rfl]at hr;exact(an hr).symm
 obtain⟨d1,_,d3⟩:=h.cells;obtain⟨r1,k1⟩:=h.step hlt;have c1:=add_any r1 (by omega) ⟨1,n,1,⟨#[]⟩,⟨#[]⟩⟩;simp only[]at c1;have K1:=qet k1;have i3:(at_:Int)<=3000000000000:=by omega
 have i4:(0:Int)<=(at_:Int):=by omega
 obtain⟨FV,xI⟩:∃FV,FV=nM P1 P2:=⟨_,rfl⟩
 rw[<-xI];have hsz:toks.length-(toks.length-(at_+1))=at_+1:=by omega
 have Yo:=qet hsz;clear h r1 k1 hr xI hsz
 rcases hs with⟨rfl,rfl⟩|⟨rfl,rfl⟩
 ·unfold qS;go_enter Tryz.func234,Tryz.ntmps234;go_wp2_with fail;refine c1.mono ?_;rintro e w2 ⟨rfl,hr2,hk2⟩;have R2:=qet hr2;have K2:=qet (K1.o.trans hk2);clear c1 hr2 hk2;go_wp2;go_ret;refine⟨K2.o,?_⟩;rw[HR2.o];refine⟨rfl,[⟨1,1,1,⟨#[]⟩,⟨#[]⟩⟩],rfl,?_⟩;rw[iM,Yo.o];exact R2.o
 ·unfold qT;go_enter Tryz.func234,Tryz.ntmps234;go_wp2_with fail;refine c1.mono ?_;rintro e w2 ⟨rfl,hr2,hk2⟩;have R2:=qet hr2;have K2:=qet (K1.o.trans hk2);clear c1 hr2 hk2;go_wp2;go_ret;refine⟨K2.o,?_⟩;rw[HR2.o];refine⟨rfl,[⟨1,0,1,⟨#[]⟩,⟨#[]⟩⟩],rfl,?_⟩;rw[iM,Yo.o];exact R2.o
theorem DV(h:nameB s=true):s.length<=24:=by
 unfold nameB at h;rw[aH]at h;have h2:=h.2;unfold kC at h2
 cases s with
 |nil=>simp
 |cons c r=>
  simp only[aH,decide_eq_true_eq]at h2;exact h2.1
theorem H4(S:ByteArray)(s:Bs)(h:¬S=⟨s.toArray⟩):(S.toList==s)=false:=by
 rw[cB,beq_eq_false_iff_ne];intro e;exact h (text_eq.2 e)
theorem F9(IH:yH B R P1 P2 tv toks f)(RH:uL B R tv toks)(hl:toks.length<=3000000000000)(S:ByteArray)(h1:S.data.toList≠qS)(h2:S.data.toList≠qT)(at_ op:Nat)(ps:List Pv)(fa fc:Int)(w:World)(res:qC)(ho:op<=200)(hp:ps.length<=at_)(hlt:at_<toks.length)(h:RS B R tv toks at_ op ps fa fc w)(he:Env B R P1 P2 w)
  (hr:AY f op S.data.toList (lst toks (at_+1))=some res):Calls ah 234 #[.pointer (some ⟨R,0,none⟩),.string S,nM P1 P2] w (PostR B R tv toks op ps fa fc res w):=by
 have q1:(S.toList==[84,82,85,69])=false:=H4 S qS (fun e=>h1 (text_eq.1 e));have q2:(S.toList==[70,65,76,83,69])=false:=H4 S qT (fun e=>h2 (text_eq.1 e));unfold AY at hr;rw[if_neg h1,if_neg h2]at hr;have HRR:=qet hr;have HH:=qet h;have HE:=qet he;have hle:=h.le;have ix:qes (∀(k:Nat)(h:k<3)(W:World),(bR 251 (.agg ov.toArray) (.int .i64 (k:Int))).run ah W=.ok (.agg #[.string ⟨(ki[k]'h).1.toArray⟩,.int .i64 (ki[k]'h).2]) W):=Li;obtain⟨KT,hT⟩:∃KT,fv ov.toArray=KT:=⟨_,rfl⟩
 rw[hT]at ix;have hg:=he.tG.conv;obtain⟨FV,xI⟩:∃FV,FV=nM P1 P2:=⟨_,rfl⟩
 have PB:=qet xI;rw[<-xI];have i3:(at_:Int)<=3000000000000:=by omega
 have i4:(0:Int)<=(at_:Int):=by omega
 clear h he hr xI h1 h2;go_enter Tryz.func234,Tryz.ntmps234;go_wp2_with((with_reducible refine oD (ty:=251) ?_);go_must (refine mP (b:=12) (t:=ov) (T:=KT) rfl hg hT Tryz.underlying251 rfl Hr ?_));clear hg hT
 go_loopw [35] (fun i wr=>∃k:Nat,k<=3/\i=.int .i64 (k:Int)/\qes (Below w.heap.size w wr/\∀j (hj:j<3),j<k->S.data.toList≠(ki[j]'hj).1)) (fun i _=>3-(intOf i).toNat)
 case atStart=>exact⟨0,by omega,rfl,aw _ _,fun j hj h=>absurd h (fF _)⟩
 case round=>
  obtain⟨k,hk,rfl,hh⟩:=hrel;have HB:=qet hh.o.1;have HN:=qet hh.o.2;have zr:=HB.o.size;clear hh
  by_cases hlt3:k<3
  ·have x0:=ix.o k hlt3;have i1:(k:Int)<3:=by omega
   have Jf:=qet (@VC S.data.toList k hlt3)
   have LP:qes (S.data.toList≠(ki[k]'hlt3).1->∀j (hj:j<3),j<k+1->S.data.toList≠(ki[j]'hj).1):=fun hne j hj hjk=>by
    rcases bZ j k with h|h
    ·exact HN.o j hj h
    ·have:j=k:=by omega
     subst this;exact hne
   generalize(ki[k]'hlt3)=r at *;obtain⟨r0,r1⟩:=r;simp only[]at x0 Jf LP;obtain⟨u,hu⟩:∃u:ByteArray,u=⟨r0.toArray⟩:=⟨_,rfl⟩
   rw[<-hu]at x0;have HU:=qet hu;have bt:=kj u S;have b1:=HB.o.alloc zr (.cells #[.string u,.int .i64 r1] 227);have B1:=qet b1;clear ix hu HN
   by_cases hus:u=S
   ·have hb:(u.toList==S.toList)=true:=by rw[bt];exact decide_eq_true hus
    have hS:S.data.toList=r0:=by rw[<-hus,HU.o]
    obtain⟨_,_,ht,ht0⟩:=Jf.o hS;have hr:=HRR.o;rw[if_pos ht0,ht]at hr;have r2:=HH.o.below b1;obtain⟨d1,_,d3⟩:=r2.cells;obtain⟨r3,k3⟩:=r2.step hlt;have E3:=(HE.o.below b1 hle).keep k3
    cases hz:within [40] [41] op (lst toks (at_+1)) (rd f (.row 0) (op+1))with
    |none=>rw[hz]at hr;cases hr
    |some z=>
     rw[hz]at hr;have c2:=tR IH hl [40] [41] (at_+1) op ps fa fc _ z ho (by omega) r3 E3 hz;rw[<-PB.o]at c2;have HZ:=qet hz;have HR2:=qet hr;have K3:=qet ((Keep.of_below (R:=R) b1 hle).trans k3);have VD:wr.heap.size≠R:=by have:=HH.o.hB;omega
     have hcv:((wr.alloc (.cells #[.string u,.int .i64 r1] 227)).setCell ⟨R,1,none⟩ (.int .i64 ((at_:Int)+1))).heap[wr.heap.size]? =some (.cells #[.string u,.int .i64 r1] 227):=by
      rw[aM _ _ _ _ (by show wr.heap.size≠R;exact VD)];exact aE wr _
     have hRl:R<wr.heap.size:=by have:=HH.o.hB;omega
     have d1':wr.cell? ⟨R,1,none⟩=some (.int .i64 (at_:Int)):=by
      have:=d1;rw[World.cell?_alloc_lt _ _ _ hRl]at this;exact this
     have YD:wr.frozen? ⟨R,1,none⟩=false:=by
      have:=d3 1;rw[World.frozen?_of_block (bj wr _ R hRl)]at this;exact this
     rw[World.setCell_alloc_past _ R 1 _ hRl]at c2 hcv K3;have HCV:=qet hcv;clear hr hz r2 r3 k3 E3 hcv b1 Jf LP HRR hS ht ht0 bt hus d1 d3;go_wp2_with fail;refine c2.mono ?_;rintro e w3 ⟨hk3,hp3⟩;have K4:=qet (K3.o.trans hk3);have e3:=hk3.others wr.heap.size _ HCV.o VD (fun c fz h=>by cases h);have g1:w3.cell? ⟨wr.heap.size,1,none⟩=some (.int .i64 r1):=by rw[af e3];rfl
     clear c2 hk3 e3 d1' YD
     cases z with
     |error z=>
      obtain⟨kk,c⟩:=z;simp only[]at hp3;obtain⟨rfl,at2,op2,ps2,hr3⟩:=hp3;have R3:=qet hr3;have HR3:qes (res=.error (kk,c)):=(an HR2.o).symm;clear hr3;go_wp2;go_ret;refine⟨K4.o,?_⟩;rw[HR3.o];exact⟨rfl,at2,op2,ps2,R3.o⟩
     |ok z=>
      obtain⟨x,rr⟩:=z;simp only[]at hp3;obtain⟨rfl,xs,hxs,hr3⟩:=hp3;have hpp:=uM HZ.o;have hxl:xs.length=x.length:=by rw[<-hxs,aQ]
      have c4:=add_any hr3 (by rw[ao];omega) ⟨6,0,r1,⟨#[]⟩,⟨#[]⟩⟩;have HR3:qes (res=.ok (x++[toP r1],rr)):=(an HR2.o).symm;have F5:=qet hxs;simp only[]at c4;clear hr3 hxs hxl hpp;go_wp2_with fail;refine c4.mono ?_;rintro e w4 ⟨rfl,hr4,hk4⟩;have R4:=qet hr4;have K5:=qet (K4.o.trans hk4);clear c4 hr4 hk4;go_wp2;go_ret;refine⟨K5.o,?_⟩;rw[HR3.o];refine⟨rfl,xs++[⟨6,0,r1,⟨#[]⟩,⟨#[]⟩⟩],by rw[bB,F5.o];rfl,?_⟩;rw[<-aO];exact R4.o
   ·have hb:(u.toList==S.toList)=false:=by rw[bt];exact decide_eq_false hus
    have XM:=qet (LP.o (fun e=>hus (by rw[HU.o];exact(text_eq.2 e).symm)));clear Jf LP bt hus b1;go_wp2
    go_roundw
    case rel=>exact⟨k+1,by omega,by go_num,B1.o,XM.o⟩
    case measure=>simp[intOf];omega
  ·obtain rfl:k=3:=by omega
   have ht0:xE S.data.toList=0:=SX (fun k hk3=>HN.o k hk3 hk3);have hr:=HRR.o;rw[if_neg (fun q=>q ht0)]at hr;have c1:=oP S.data.toList wr (HE.o.tG.below HB.o (by have:=HE.o.tG.lt;omega)).kw;rw[nj]at c1;have r1:=HH.o.below HB.o;have E1:=HE.o.below HB.o hle;have hle1:=r1.le;have K1:=qet (Keep.of_below (R:=R) HB.o hle)
   cases hnm:nameB S.data.toList with
   |false=>
    rw[hnm]at c1;rw[hnm,if_neg (by decide),iM]at hr
    have HR2:qes (res=.error (toks.length-at_,60)):=by
     show _=_;rw[<-an hr]
     congr 2
     omega
    have c2:=rp r1;clear hr r1 E1 HRR ix HN ht0;go_wp2_with fail;refine c1.mono ?_;rintro e w2 ⟨rfl,hw2⟩;subst hw2;go_wp2_with fail;refine c2.mono ?_;rintro e w3 ⟨rfl,hr3,hk3⟩;have R3:=qet hr3;have K3:=qet (K1.o.trans hk3);clear c1 c2 hr3 hk3;go_wp2;go_ret;refine⟨K3.o,?_⟩;rw[HR2.o];refine⟨rfl,at_,op,ps,?_⟩;rw[show((toks.length-(toks.length-at_):Nat):Int)=(at_:Int)from by omega];exact R3.o
   |true=>
    rw[hnm]at c1;rw[hnm,if_pos rfl]at hr
    have hsz:S.size<=140737488355000:=by
     rw[<-mO];have Vw:=DV hnm;omega
    have c2:=o7 S hsz wr;have c3:=fun W h1 h2=>BV IH RH hl S at_ op ps fa fc W res ho hp hlt h1 h2 hr
    rw[<-PB.o]at c3;have R1:=qet r1;have Py:=qet E1;clear hr r1 E1 HRR ix HN ht0 hsz hnm;go_wp2_with fail;refine c1.mono ?_;rintro e w2 ⟨rfl,hw2⟩;subst hw2;go_wp2_with fail;refine c2.mono ?_;rintro e w3 ⟨rfl,hb3⟩;have K3:=qet (K1.o.trans (Keep.of_below (R:=R) hb3 hle1));have c4:=c3 _ (R1.o.below hb3) (Py.o.below hb3 hle1);clear c1 c2 c3 hb3;go_wp2_with fail;refine c4.mono ?_;rintro e w4 ⟨hk4,KF⟩;have K4:=qet (K3.o.trans hk4);have HP4:=qet KF
    have hret:∃bb,e=.returned (.bool bb):=by
     revert KF
     cases res with
     |error z=>obtain⟨_,_⟩:=z;rintro⟨h,_⟩;exact⟨_,h⟩
     |ok z=>obtain⟨_,_⟩:=z;rintro⟨h,_⟩;exact⟨_,h⟩
    obtain⟨bb,rfl⟩:=hret;clear c4 hk4 KF;go_wp2;go_ret;exact⟨K4.o,HP4.o⟩
theorem VE{p:Pt}(h:jX p=true):p.s.length<=24:=by
 have key:p.s=[]\/nameB p.s=true:=by
  unfold jX at h
  split at h
  ·simp at h;exact .inl h.1
  ·split at h
   ·simp at h;exact .inr h.2.2.2
   ·split at h
    ·simp at h;exact .inr h.2.2.1
    ·split at h
     ·simp at h;exact .inl h.1
     ·split at h
      ·simp at h;exact .inl h.1
      ·cases h
 rcases key with h|h
 ·rw[h];simp
 ·exact DV h
theorem DW(h:kL x=0):x.length<=500/\∀p∈x,jX p=true:=by
 unfold kL at h
 split at h
 ·cases h
 ·next h5=>
  split at h
  ·cases h
  ·next ha=>
   refine⟨by omega,fun p hp=>?_⟩;have ha':x.all jX=true:=by simpa using ha
   exact eZ.1 ha' p hp
def DX(n:Int):Tv:=⟨(jn n).kind,⟨(jn n).s.toArray⟩,0,0,0⟩
def mV(x:Pv)(vs:List (List Tv×Bool)):List Tv:=
 if x.k=1 then [mU x.n x.t]else if x.k=2 then [DT x.s]else if x.k=4 then [DT x.s,Ac ⟨#[46]⟩,DT x.f]
 else match vs with
 |[v]=>if x.k=3 then [DT x.s,Ac ⟨#[91]⟩]++(v.1++[Ac ⟨#[93]⟩])else if x.k=6 then [DT ⟨(toW x.t).toArray⟩,Ac ⟨#[40]⟩]++(v.1++[Ac ⟨#[41]⟩])else [DX x.n]++jC v.2 v.1
 |[v,v']=>jC v.2 v.1++([DX x.n]++jC v'.2 v'.1)
 |_=>[]
def VF(w:World)(V:Value)(vs:List (List Tv×Bool)):Prop:=
 ∃vb vo vc,V=.slice (some ⟨vb,vo,none⟩) vs.length vc/\vs.length<=vc/\vb<w.heap.size/\∀i v,vs[i]? =some v->∃u,w.cell? ⟨vb,vo+i*2,none⟩=some u/\w.cell? ⟨vb,vo+i*2+1,none⟩=some (.bool v.2)/\ku w u v.1
theorem VG{p:Pt}(h:jX p=true):p.f.length<=24:=by
 have key:p.f=[]\/kC p.f=true:=by
  unfold jX at h
  split at h
  ·simp at h;exact .inl h.2.1
  ·split at h
   ·simp at h;exact .inl h.1
   ·split at h
    ·simp at h;exact .inr h.2.2.2
    ·split at h
     ·simp at h;exact .inl h.2.1
     ·split at h
      ·simp at h;exact .inl h.2.1
      ·cases h
 rcases key with h|h
 ·rw[h];decide
 ·unfold kC at h
  split at h
  ·cases h
  ·next e=>simp at h;rw[e];simp;omega
theorem LQ{n:Int}(h:1<=n/\n<=16):∃r0 r3,wO n=.tuple #[.agg #[.int .i64 r0,.int .i64 (jn n).kind,.string ⟨(jn n).s.toArray⟩,.int .i64 r3],.bool true]:=by
 have:n=1\/n=2\/n=3\/n=4\/n=5\/n=6\/n=7\/n=8\/n=9\/n=10\/n=11\/n=12\/n=13\/n=14\/n=15\/n=16:=by omega
 rcases this with rfl|rfl|rfl|rfl|rfl|rfl|rfl|rfl|rfl|rfl|rfl|rfl|rfl|rfl|rfl|rfl <;> exact⟨_,_,rfl⟩
theorem SY{t:Int}(h:t=2\/t=3\/t=4):∃r,yz t=.tuple #[.agg #[.string ⟨(toW t).toArray⟩,.int .i64 r],.bool true]:=by
 rcases h with rfl|rfl|rfl <;> exact⟨_,rfl⟩
theorem PC(t:Int):(toW t).length<=7:=by
 unfold toW
 split
 ·decide
 ·split <;> decide
theorem Jg(p:Pt):takes p=0\/takes p=1\/takes p=2:=by
 unfold takes
 by_cases h:p.kind=3\/p.kind=6
 ·rw[if_pos h];exact .inr (.inl rfl)
 ·rw[if_neg h]
  by_cases h':p.kind=5/\(p.n=15\/p.n=16)
  ·rw[if_pos h'];exact .inr (.inl rfl)
  ·rw[if_neg h']
   by_cases h5:p.kind=5
   ·rw[if_pos h5];exact .inr (.inr rfl)
   ·rw[if_neg h5];exact .inl rfl
theorem DY(x:Pv)(hm:jX (kO x)=true)(vs:List (List Tv×Bool))(hv:vs.length=takes (kO x))(V:Value)(w:World)(hV:0<vs.length->VF w V vs)(hl:∀v∈vs,v.1.length<=10000000)(hg:kZ w):
  Calls ah 169 #[.agg #[.int .i64 x.k,.int .i64 x.n,.int .i64 x.t,.string x.s,.string x.f],V] w (jt w (mV x vs)):=by
 have hs:x.s.size<=140737488355000:=by have h:=VE hm;rw[show(kO x).s=x.s.data.toList from rfl,mO]at h;omega
 have hf:x.f.size<=140737488355000:=by have h:=VG hm;rw[show(kO x).f=x.f.data.toList from rfl,mO]at h;omega
 have h1:=hg.lt;obtain⟨k,n,t,s,f⟩:=x;simp only[]at hs hf ⊢;have ht:=Jg (kO ⟨k,n,t,s,f⟩)
 rcases ht with ht|ht|ht
 ·have hk:k=1\/k=2\/k=4:=by
   rcases uB ht hm with⟨a,b,e,_⟩|⟨a,e,_⟩|⟨a,b,e,_⟩
   ·exact .inl (congrArg Pt.kind e)
   ·exact .inr (.inl (congrArg Pt.kind e))
   ·exact .inr (.inr (congrArg Pt.kind e))
  rcases hk with rfl|rfl|rfl
  ·exact LH n t s f V w
  ·exact LI n t s f hs V w
  ·exact LJ n t s f hs hf V w
 ·obtain⟨v,rfl⟩:∃v,vs=[v]:=by
   match vs,hv.trans ht with
   |[v],_=>exact⟨v,rfl⟩
  obtain⟨vb,vo,vc,hv1,hv2,hv3,hv4⟩:=hV (by simp);obtain⟨u,q0,q1,q2⟩:=hv4 0 v rfl;have hO:Pz w V u v.1 v.2 vb vo vc:=⟨hv1,by simpa using hv2,hv3,by simpa using q0,by simpa using q1,q2⟩
  have hl1:=hl v (by simp)
  rcases BM ht with h|h|⟨h,h'⟩
  ·obtain rfl:k=3:=h;exact LK n t s f hs V u v.1 v.2 vb vo vc w hO (by omega)
  ·obtain rfl:k=6:=h;obtain⟨r,hr⟩:=SY (Vo rfl hm).2;exact PA n t s f ⟨(toW t).toArray⟩ r hr (by have:=PC t;show(toW t).toArray.size<=_;simp;omega) V u v.1 v.2 vb vo vc w hg.conv (by omega) hO (by omega)
  ·obtain rfl:k=5:=h;obtain⟨r0,r3,hr⟩:=LQ (OY rfl hm).2;exact LL n t s f r0 _ r3 _ hr V u v.1 v.2 vb vo vc w hg.ops (by omega) hO hl1
 ·obtain⟨v,v',rfl⟩:∃v v',vs=[v,v']:=by
   match vs,hv.trans ht with
   |[v,v'],_=>exact⟨v,v',rfl⟩
  obtain⟨vb,vo,vc,hv1,hv2,hv3,hv4⟩:=hV (by simp);obtain⟨u,q0,q1,q2⟩:=hv4 0 v rfl;obtain⟨u',p0,p1,p2⟩:=hv4 1 v' rfl;have hO:VB w V u u' v.1 v'.1 v.2 v'.2 vb vo vc:=⟨hv1,by simpa using hv2,hv3,by simpa using q0,by simpa using q1,by simpa using p0,by simpa using p1,q2,p2⟩
  obtain⟨h,_⟩:=BN ht;obtain rfl:k=5:=h;obtain⟨r0,r3,hr⟩:=LQ (OY rfl hm).2;exact LN n t s f r0 _ r3 _ hr V u u' v.1 v'.1 v.2 v'.2 vb vo vc w hg.ops (by omega) hO (hl v (by simp)) (hl v' (by simp))
abbrev Pc:=List Tv×Bool
def stepS(x:Pv)(vs:List Pc):Option (List Pc):=
 if takes (kO x)<=vs.length then some (vs.take (vs.length-takes (kO x))++[(mV x (vs.drop (vs.length-takes (kO x))),decide (x.k=5))])else none
def tW:List Pv->List Pc->Option (List Pc)
 |[],vs=>some vs
 |x::r,vs=>(stepS x vs).bind (tW r)
def VH:Ex->Bool
 | .leaf p=>decide (p.kind=5)
 | .one p _=>decide (p.kind=5)
 | .two p _ _=>decide (p.kind=5)
def SZ(e:Ex)(c:Pc):Prop:=c.1.map kU=iC e false/\c.2=VH e
theorem sW{x:Pv}{r:List Pv}{vs vs':List Pc}(h:stepS x vs=some vs'):tW (x::r) vs=tW r vs':=by
 show(stepS x vs).bind (tW r)=_;rw[h];rfl
theorem yK{x:Pv}(S vs:List Pc)(h:vs.length=takes (kO x)):stepS x (S++vs)=some (S++[(mV x vs,decide (x.k=5))]):=by
 unfold stepS;rw[if_pos (by rw[ao];omega)];have e:(S++vs).length-takes (kO x)=S.length:=by rw[ao];omega
 rw[e,List.take_left,fT]
theorem LR(n:Int):kU (DX n)=jn n:=by
 have key:∀(c:Prop) [Decidable c] (a b:Tk),(a.n=0/\a.ty=0)->(b.n=0/\b.ty=0)->((if c then a else b).n=0/\(if c then a else b).ty=0):=fun c _ a b ha hb=>by
  by_cases h:c
  ·rw[if_pos h];exact ha
  ·rw[if_neg h];exact hb
 have:(jn n).n=0/\(jn n).ty=0:=by
  unfold jn
  repeat(refine key _ _ _ ⟨rfl,rfl⟩ ?_)
  exact⟨rfl,rfl⟩
 show(⟨(jn n).kind,(jn n).s.toArray.toList,0,0⟩:Tk)=jn n;rw[List.toList_toArray]
 cases h:jn n
 rw[h]at this;simp at this;simp[this.1,this.2]
theorem vZ{e:Ex}{c:Pc}(hw:well e)(h:SZ e c):(jC c.2 c.1).map kU=iC e true:=by
 obtain⟨h1,h2⟩:=h;unfold jC;rw[h2]
 have hb:∀l:List Tv,([Vy]++(l++[Vz])).map kU=gP [40]::(l.map kU++[gP [41]]):=fun l=>by
  rw[bB,bB];rfl
 cases e with
 |leaf p=>
  have hk:decide (p.kind=5)=false:=by
   apply decide_eq_false;intro h5
   rcases uB hw.1 hw.2 with⟨a,b,e,_⟩|⟨a,e,_⟩|⟨a,b,e,_⟩ <;> rw[e]at h5 <;> cases h5
  show(if decide (p.kind=5)=true then _ else _:List Tv).map kU=_;rw[hk,if_neg (by decide),h1];rfl
 |one p e=>
  show(if decide (p.kind=5)=true then _ else _:List Tv).map kU=_
  by_cases h5:p.kind=5
  ·rw[decide_eq_true h5,if_pos rfl,hb,h1];unfold iC;rw[if_neg (by omega),if_neg (by omega),if_neg (by omega),if_neg (by omega)];rfl
  ·rw[decide_eq_false h5,if_neg (by decide),h1];have:=BM hw.1;unfold iC
   rcases this with h|h|⟨h,_⟩
   ·rw[if_pos h,if_pos h]
   ·rw[if_neg (by omega),if_pos h,if_neg (by omega),if_pos h]
   ·exact absurd h h5
 |two p a b=>
  show(if decide (p.kind=5)=true then _ else _:List Tv).map kU=_;rw[decide_eq_true (BN hw.1).1,if_pos rfl,hb,h1];unfold iC;rfl
theorem LS{x:Pv}(ht:takes (kO x)=0)(hm:jX (kO x)=true)(vs:List Pc):(mV x vs).map kU=iC (.leaf (kO x)) false:=by
 obtain⟨k,n,t,s,f⟩:=x
 have hk:k=1\/k=2\/k=4:=by
  rcases uB ht hm with⟨a,b,e,_⟩|⟨a,e,_⟩|⟨a,b,e,_⟩
  ·exact .inl (congrArg Pt.kind e)
  ·exact .inr (.inl (congrArg Pt.kind e))
  ·exact .inr (.inr (congrArg Pt.kind e))
 rcases hk with rfl|rfl|rfl
 ·show [mU n t].map kU=(if t=1 then [gO (if n=1 then qS else qT)]else [mY n t]);unfold mU
  by_cases h1:t=1
  ·rw[if_neg (by omega),if_pos h1]
   by_cases h2:n=1
   ·rw[if_pos h2,if_pos h2];rfl
   ·rw[if_neg h2,if_neg h2];rfl
  ·rw[if_pos h1,if_neg h1];rfl
 ·rfl
 ·rfl
theorem uN:∀(e:Ex),well e->∀xs:List Pv,xs.map kO=flat e->∃c,SZ e c/\∀S r,tW (xs++r) S=tW r (S++[c])
 | .leaf p,hw,xs,hx=>by
  obtain⟨x,rfl,hp⟩:∃x,xs=[x]/\kO x=p:=by
   match xs,hx with
   |[x],h=>exact⟨x,rfl,by simpa[flat]using h⟩
  subst hp;refine⟨(mV x [],decide (x.k=5)),⟨LS hw.1 hw.2 [],rfl⟩,fun S r=>?_⟩;have:=yK (x:=x) S [] hw.1.symm;rw[bm]at this;exact sW this
 | .one p e,hw,xs,hx=>by
  obtain⟨xs',ys,rfl,h1,h2⟩:=List.map_eq_append_iff.1 hx
  obtain⟨x,rfl,hp⟩:∃x,ys=[x]/\kO x=p:=by
   match ys,h2 with
   |[x],h=>exact⟨x,rfl,by simpa using h⟩
  subst hp;obtain⟨c,hc,hr⟩:=uN e hw.2.2 xs' h1;refine⟨(mV x [c],decide (x.k=5)),⟨?_,rfl⟩,fun S r=>?_⟩
  ·have ht:=BM hw.1;obtain⟨k,n,t,s,f⟩:=x
   rcases ht with h|h|⟨h,h'⟩
   ·obtain rfl:k=3:=h;show([DT s,Ac ⟨#[91]⟩]++(c.1++[Ac ⟨#[93]⟩])).map kU=gO s.data.toList::gP [91]::(iC e false++[gP [93]]);rw[bB,bB,hc.1];rfl
   ·obtain rfl:k=6:=h;show([DT ⟨(toW t).toArray⟩,Ac ⟨#[40]⟩]++(c.1++[Ac ⟨#[41]⟩])).map kU=gO (toW t)::gP [40]::(iC e false++[gP [41]]);rw[bB,bB,hc.1];rfl
   ·obtain rfl:k=5:=h;show([DX n]++jC c.2 c.1).map kU=jn n::iC e true;rw[bB,vZ hw.2.2 hc];show [kU (DX n)]++_=_;rw[LR];rfl
  ·rw[aO,hr];exact sW (yK S [c] hw.1.symm)
 | .two p a b,hw,xs,hx=>by
  obtain⟨xs',ys,rfl,h1,h2⟩:=List.map_eq_append_iff.1 hx;obtain⟨ys',zs,rfl,h3,h4⟩:=List.map_eq_append_iff.1 h2
  obtain⟨x,rfl,hp⟩:∃x,zs=[x]/\kO x=p:=by
   match zs,h4 with
   |[x],h=>exact⟨x,rfl,by simpa using h⟩
  subst hp;obtain⟨c,hc,hr⟩:=uN a hw.2.2.1 xs' h1;obtain⟨c',hc',hr'⟩:=uN b hw.2.2.2 ys' h3;refine⟨(mV x [c,c'],decide (x.k=5)),⟨?_,rfl⟩,fun S r=>?_⟩
  ·obtain⟨h,_⟩:=BN hw.1;obtain⟨k,n,t,s,f⟩:=x;obtain rfl:k=5:=h;show(jC c.2 c.1++([DX n]++jC c'.2 c'.1)).map kU=iC a true++jn n::iC b true;rw[bB,bB,vZ hw.2.2.1 hc,vZ hw.2.2.2 hc'];show _++([kU (DX n)]++_)=_;rw[LR];rfl
  ·rw[aO,aO,hr,hr',aO];exact sW (yK S [c,c'] hw.1.symm)
theorem Jh{xs:List Pv}(h:kL (xs.map kO)=0):∃e c,well e/\flat e=xs.map kO/\dep e<=24/\SZ e c/\tW xs []=some [c]:=by
 obtain⟨e,hw,hf,_,hd,_⟩:=tP h;obtain⟨c,hc,hr⟩:=uN e hw xs hf.symm;refine⟨e,c,hw,hf,hd,hc,?_⟩;have:=hr [] [];rw[bm]at this;exact this
abbrev Pq:=Value×Pc
def XN(q:Pq):List Value:=[q.1,.bool q.2.2]
def qp:List Pq->List Value
 |[]=>[]
 |q::l=>XN q++qp l
theorem DZ(a b:List Pq):qp (a++b)=qp a++qp b:=by
 induction a with
 |nil=>rfl
 |cons x a ih=>rw[bM,qp,qp,ih,aO]
theorem D0(l:List Pq):(qp l).length=l.length*2:=by
 induction l with
 |nil=>rfl
 |cons x l ih=>rw[qp,ao,ih,aG];show 2+_=_;omega
theorem LU(l:List Pq):∀(i j:Nat)(h:i<l.length),j<2->(qp l)[i*2+j]? =(XN l[i])[j]? :=by
 induction l with
 |nil=>intro i j h;exact absurd h (fF _)
 |cons x l ih=>
  intro i j h hj
  match i with
  |0=>rw[qp,List.getElem?_append_left (by show 0*2+j<2;omega),fy,fg];rfl
  |i+1=>
   rw[qp,List.getElem?_append_right (by show 2<=_;omega)];show(qp l)[(i+1)*2+j-2]? =(XN (l[i]'(by simpa using h)))[j]?;rw[show(i+1)*2+j-2=i*2+j from by omega];exact ih i j (by simpa using h) hj
theorem Ji(l:List Pq):∀f,(qp l).take (f*2)=qp (l.take f):=by
 induction l with
 |nil=>intro f;simp[qp]
 |cons x l ih=>
  intro f
  match f with
  |0=>simp[qp]
  |f+1=>
   rw[bF,qp,qp,<-ih f,show(f+1)*2=f*2+1+1 from by omega];rfl
def tw(w:World)(r:Option Nat)(v:Value)(l:List Tv):Prop:=
 ∃(a:Option Addr)(b off cap:Nat),v=.slice a l.length cap/\(0<l.length->b<w.heap.size/\a=some ⟨b,off,none⟩/\some b≠r)/\Ln w b off l
variable {r:Option Nat}
theorem tw.lst(h:tw w r v l):ku w v l:=by
 obtain⟨a,b,off,cap,h1,h2,h3⟩:=h;exact⟨a,b,off,cap,h1,fun q=>⟨(h2 q).1,(h2 q).2.1⟩,h3⟩
theorem tw.grown{r':Option Nat}(h:tw w r v l)(hg:w.grownBy w' r)(hr:r'=r\/∃k,w.heap.size<=k/\r'=some k):tw w' r' v l:=by
 obtain⟨a,b,off,cap,h1,h2,h3⟩:=h;refine⟨a,b,off,cap,h1,fun q=>⟨aJ (h2 q).1 hg.size,(h2 q).2.1,?_⟩,fun i x hx=>?_⟩
 ·rcases hr with rfl|⟨k,hk,rfl⟩
  ·exact(h2 q).2.2
  ·intro e;injection e with e
   have:=(h2 q).1;omega
 ·have q:=h2 (by have:=(List.getElem?_eq_some_iff.1 hx).1;omega);have hc:∀j,w'.cell? ⟨b,j,none⟩=w.cell? ⟨b,j,none⟩:=fun j=>World.cell?_of_block (w:=w) (w':=w') (hg.block b q.1 q.2.2)
  obtain⟨c0,c1,c2,c3,c4⟩:=h3 i x hx;exact⟨(hc _).trans c0,(hc _).trans c1,(hc _).trans c2,(hc _).trans c3,(hc _).trans c4⟩
theorem tw.below(h:tw w r v l)(hb:Below w.heap.size w w'):tw w' r v l:=by
 obtain⟨a,b,off,cap,h1,h2,h3⟩:=h;refine⟨a,b,off,cap,h1,fun q=>⟨aJ (h2 q).1 hb.size,(h2 q).2⟩,fun i x hx=>?_⟩;have q:=h2 (by have:=(List.getElem?_eq_some_iff.1 hx).1;omega);obtain⟨c0,c1,c2,c3,c4⟩:=h3 i x hx;exact⟨(hb.cell (p:=⟨b,_,none⟩) q.1).trans c0,(hb.cell (p:=⟨b,_,none⟩) q.1).trans c1,(hb.cell (p:=⟨b,_,none⟩) q.1).trans c2,(hb.cell (p:=⟨b,_,none⟩) q.1).trans c3,(hb.cell (p:=⟨b,_,none⟩) q.1).trans c4⟩
theorem tw.oF(h:w.ownsRow base 54 5 v l.length (kJ l))(hr:∀k,r=some k->k<base):tw w r v l:=by
 have hL:=ku.oF h
 rcases h.2 with⟨hv,h0⟩|⟨g,cap,cur,hv,hb,hg,hn,hm,hc,ht⟩
 ·obtain⟨a,b,off,cap,h1,h2,h3⟩:=hL;exact⟨a,b,off,cap,h1,fun q=>by omega,h3⟩
 ·obtain⟨a,b,off,cap',h1,h2,h3⟩:=hL;refine⟨a,b,off,cap',h1,fun q=>⟨(h2 q).1,(h2 q).2,fun e=>?_⟩,h3⟩;rw[hv]at h1;have ha:=(h2 q).2;injection h1 with e1 _ _
  rw[ha]at e1;injection e1 with e1
  injection e1 with e1 _ _
  have:=hr b e.symm;omega
def nf(w:World)(B:Nat)(pv:Value)(ps:List Pq):Prop:=w.ownsRow B 200 2 pv ps.length (qp ps)/\∀q∈ps,tw w pv.ownBlock q.1 q.2.1
variable {ps:List Pq}
theorem nf.below{pv:Value}(h:nf w B pv ps)(hb:Below w.heap.size w w'):nf w' B pv ps:=⟨yC h.1 hb,fun q hq=>(h.2 q hq).below hb⟩
theorem nf.VI{cap:Nat}(h:nf w B (.slice (some ⟨g,0,none⟩) ps.length cap) ps)(f:Nat)(hf:f<=ps.length):VF w (.slice (some ⟨g,f*2,none⟩) (ps.length-f) (cap-f)) ((ps.drop f).map (·.2)):=by
 obtain⟨a',cap',hv,hle⟩:=ll h.1;injection hv with e1 _ e3
 subst e3
 have hgl:g<w.heap.size:=by
  rcases h.1.2 with⟨hv,_⟩|⟨g',cap',cur,hv,_,hg,_⟩
  ·cases hv
  ·injection hv with e1 _ _
   injection e1 with e1
   injection e1 with e1 _ _
   subst e1;exact(Array.getElem?_eq_some_iff.1 hg).1
 refine⟨g,f*2,cap-f,by rw[aQ,bz],by rw[aQ,bz];omega,hgl,fun i v hv=>?_⟩;rw[List.getElem?_map,List.getElem?_drop]at hv;obtain⟨q,hq,rfl⟩:=cj.1 hv;obtain⟨hi,he⟩:=List.getElem?_eq_some_iff.1 hq
 have key:∀j,j<2->w.cell? ⟨g,(f+i)*2+j,none⟩=(XN q)[j]? :=fun j hj=>by
  rw[h.1.cellAt ((f+i)*2+j) (by omega),LU ps (f+i) j hi hj,he]
 refine⟨q.1,?_,?_,(h.2 q (List.mem_of_getElem? hq)).lst⟩
 ·rw[show f*2+i*2=(f+i)*2+0 from by omega];exact key 0 (by omega)
 ·rw[show f*2+i*2+1=(f+i)*2+1 from by omega];exact key 1 (by omega)
theorem nf.cut{cap:Nat}(h:nf w B (.slice (some ⟨g,0,none⟩) ps.length cap) ps)(f:Nat)(hf:f<=ps.length):w.ownsRow B 200 2 (.slice (some ⟨g,0,none⟩) f cap) f (qp (ps.take f)):=by
 refine⟨by rw[D0,bU];congr 1;omega,?_⟩
 rcases h.1.2 with⟨hv,_⟩|⟨g',cap',cur,hv,hb,hg,hn,hm,hc,ht⟩
 ·cases hv
 ·injection hv with e1 _ e3
  subst e3;injection e1 with e1
  injection e1 with e1 _ _
  subst e1;refine .inr ⟨g,cap,cur,rfl,hb,hg,by omega,hm,hc,?_⟩;rw[<-Ji,<-ht,List.take_take,Nat.min_eq_left (by omega)]
theorem nf.push{cap' g':Nat}{pv:Value}{u:Value}{op:Bool}(h:nf w B pv ps)(hf:f<=ps.length)(hu:tw w pv.ownBlock u l)(hg:w.grownBy w' pv.ownBlock)(hr:pv.ownBlock=some g'\/g'=w.heap.size)
  (ho:w'.ownsRow B 200 2 (.slice (some ⟨g',0,none⟩) (f+1) cap') (f+1) (qp (ps.take f)++[u,.bool op])):nf w' B (.slice (some ⟨g',0,none⟩) (f+1) cap') (ps.take f++[(u,(l,op))]):=by
 have hlen:(ps.take f++[(u,(l,op))]).length=f+1:=by rw[ao,bU];simp;omega
 have hr':(aZ (some ⟨g',0,none⟩) (f+1) cap').ownBlock=pv.ownBlock\/∃k,w.heap.size<=k/\(aZ (some ⟨g',0,none⟩) (f+1) cap').ownBlock=some k:=by
  rcases hr with e|e
  ·exact .inl e.symm
  ·exact .inr ⟨g',by omega,rfl⟩
 refine⟨?_,fun q hq=>?_⟩
 ·rw[hlen,DZ];exact ho
 ·rcases aN.1 hq with hq|hq
  ·exact(h.2 q (bW hq)).grown hg hr'
  ·rw[aL]at hq;subst hq;exact hu.grown hg hr'
theorem Held.setCell(h:Held w W){p:Addr}(hp:w.heap.size<=p.block)(v:Value):Held w (W.setCell p v):=Below.setCell h hp v
theorem H5{e size:Nat}{xs:List Value}(h:w.ownsRow base e size v n xs){p:Addr}(hp:p.block<base)(u:Value):(w.setCell p u).ownsRow base e size v n xs:=by
 refine⟨h.1,?_⟩
 rcases h.2 with h|⟨g,cap,cur,r1,r2,r3,r4⟩
 ·exact .inl h
 ·exact .inr ⟨g,cap,cur,r1,r2,by rw[aM w p u g (by omega)];exact r3,r4⟩
def Made(w2:World)(g:Nat)(L:List Tv)(op:Bool)(wx:World):Prop:=
 ∃v base,wx.cell? ⟨g,0,none⟩=some v/\wx.cell? ⟨g,1,none⟩=some (.bool op)/\wx.ownsRow base 54 5 v L.length (kJ L)/\w2.heap.size<=base/\w2.heap.size<=g/\Held w2 wx
theorem Made.first{w2 w5:World}{L:List Tv}{op:Bool}{z0 z1:Value}(hg:W.heap.size=g)(hW:Held w2 W)(hb:Below (W.alloc (.cells #[z0,z1] 200)).heap.size (W.alloc (.cells #[z0,z1] 200)) w5)(ho:w5.ownsRow (W.alloc (.cells #[z0,z1] 200)).heap.size 54 5 v L.length (kJ L)):Made w2 g L op ((w5.setCell ⟨g,0,none⟩ v).setCell ⟨g,1,none⟩ (.bool op)):=by
 subst hg;have hz:W.heap.size<(W.alloc (.cells #[z0,z1] 200)).heap.size:=by rw[aB];omega
 have hrow:=(hb.block _ hz).trans (aE W (.cells #[z0,z1] 200));have h2:=hW.size
 have hset:((w5.setCell ⟨W.heap.size,0,none⟩ v).setCell ⟨W.heap.size,1,none⟩ (.bool op)).heap[W.heap.size]? =some (.cells #[v,.bool op] 200 (0,0)):=by
  simp[cW,Array.getElem?_modify,hrow]
 refine⟨v,_,af hset 0,af hset 1,H5 (H5 ho hz _) hz _,by omega,h2,?_⟩;exact((((hW.alloc _).call hb).setCell h2 _).setCell h2 _)
theorem Made.last{w2 w5:World}{L:List Tv}{op:Bool}(hg:w5.heap.size=g)(hW:Held w2 W)(hb:Below W.heap.size W w5)(ho:w5.ownsRow W.heap.size 54 5 v L.length (kJ L)):Made w2 g L op (w5.alloc (.cells #[v,.bool op] 200)):=by
 subst hg;have hset:=aE w5 (.cells #[v,.bool op] 200);refine⟨v,W.heap.size,af hset 0,af hset 1,yC ho ((aw _ _).alloc (aj _) _),hW.size,aP hW.size hb.size,(hW.call hb).alloc _⟩
end Go.Proofs.YtekanffohkeoeaaGreatDoor
