import Derived.Test.YtekanffohkeoeaaGreatDoorRwW
import Derived.Test.YtekanffohkeoeaaGreatDoorEmW
import Derived.Test.YtekanffohkeoeaaGreatDoorTkW
namespace Go.Proofs.YtekanffohkeoeaaGreatDoor
open Go.RowKit
open List renaming length_append → ao, length_cons → aG, mem_cons → aI, mem_append → aN, mem_singleton → aL, not_mem_nil → bG, take_add_one → cr, take_of_length_le → aX, all_cons → cN, append_nil → bm, mem_cons_self → aT, length → fp, length_map → aQ, length_nil → eY, mem_cons_of_mem → aK, map_append → bB, nil_append → bQ, map_cons → bL, foldl_cons → eR, cons_append → bM, append_assoc → aO
open Bool renaming and_eq_true → aH, false_and → fj, true_and → fu, and_false → fH, false_eq_true → eX, or_false → eo
open Go.Proofs.Tryz renaming prog → ah, func91 → eS, ntmps91 → eN
open Go.RowKit.Below renaming refl → aw, heap_setCell → aM
open Nat renaming le_refl → aj, lt_succ_self → fx, le_succ → dr, lt_of_lt_of_le → aJ
open Go renaming heap_alloc_new → aE
open Go.Lib renaming cell_of_heap → af, frozen_of_heap → aC
open Option.some renaming inj → an
open List.cons renaming injEq → cZ
open Go.Region renaming wanted → cM
open Go.RowKit renaming ownsRow_setCell_below → bC
set_option maxRecDepth 100000
set_option maxHeartbeats 6400000
theorem H9(i:Bool)(l:List Tk):(brk i l).length<=l.length+2:=by
 unfold brk
 split
 ·simp
 ·omega
theorem sD:∀(e:Ex)(i:Bool),(iC e i).length<=3*(flat e).length
 | .leaf p,i=>by
  unfold iC flat
  split
  ·split <;> simp
  ·split <;> simp
 | .one p e,i=>by
  have h1:=sD e false;have h2:=sD e true;unfold iC flat;rw[ao]
  split
  ·simp;omega
  ·split
   ·simp;omega
   ·have:=H9 i (jn p.n::iC e true);rw[aG]at this;simp;omega
 | .two p a b,i=>by
  have h1:=sD a true;have h2:=sD b true;have:=H9 i (iC a true++jn p.n::iC b true);rw[ao,aG]at this;unfold iC flat;rw[ao,ao];simp;omega
theorem Eb(n:Int):(jn n).s.length<=24:=by
 have key:∀(c:Prop) [Decidable c] (a b:Tk),a.s.length<=24->b.s.length<=24->(if c then a else b).s.length<=24:=fun c _ a b h1 h2=>by split <;> assumption
 unfold jn
 repeat refine key _ _ _ (by decide) ?_
 decide
theorem Jw(t:Int):(toW t).length<=24:=by
 unfold toW
 repeat' split
 all_goals decide
theorem ru{s:Bs}(h:kC s=true):s.length<=24:=by
 unfold kC at h
 cases s with
 |nil=>simp
 |cons c r=>
  simp only[aH,decide_eq_true_eq]at h;exact h.1
theorem po{s:Bs}(h:nameB s=true):s.length<=24:=by
 unfold nameB at h;rw[aH]at h;exact ru h.2
theorem A3{p:Pt}(h:jX p=true):p.s.length<=24/\p.f.length<=24:=by
 unfold jX at h
 split at h
 ·simp only[aH,decide_eq_true_eq]at h;rw[h.1,h.2.1];decide
 ·split at h
  ·simp only[aH,decide_eq_true_eq]at h;rw[h.1];exact⟨po h.2.2.2,by decide⟩
  ·split at h
   ·simp only[aH,decide_eq_true_eq]at h;exact⟨po h.2.2.1,ru h.2.2.2⟩
   ·split at h
    ·simp only[aH,decide_eq_true_eq]at h;rw[h.1,h.2.1];decide
    ·split at h
     ·simp only[aH,decide_eq_true_eq]at h;rw[h.1,h.2.1];decide
     ·cases h
variable {l:List Tk}
theorem A4{i:Bool}(h:∀t∈l,t.s.length<=24):∀t∈brk i l,t.s.length<=24:=by
 unfold brk
 split
 ·intro t ht
  rcases aI.1 ht with rfl|ht
  ·decide
  ·rcases aN.1 ht with ht|ht
   ·exact h t ht
   ·rw[aL.1 ht];decide
 ·exact h
theorem pq:∀(e:Ex)(i:Bool),well e->∀t∈iC e i,t.s.length<=24
 | .leaf p,i,hw=>by
  have hm:=A3 hw.2;intro t ht;unfold iC at ht
  split at ht
  ·split at ht
   ·rw[aL.1 ht];show(if p.n=1 then qS else qT).length<=24
    split <;> decide
   ·rw[aL.1 ht];show([]:Bs).length<=24;decide
  ·split at ht
   ·rw[aL.1 ht];exact hm.1
   ·simp only[aI,bG,or_false]at ht
    rcases ht with rfl|rfl|rfl
    ·exact hm.1
    ·decide
    ·exact hm.2
 | .one p e,i,hw=>by
  have hm:=A3 hw.2.1;have h1:=pq e false hw.2.2;have h2:=pq e true hw.2.2;intro t ht;unfold iC at ht
  split at ht
  ·simp only[aI,aN,bG,or_false]at ht
   rcases ht with rfl|rfl|ht|rfl
   ·exact hm.1
   ·decide
   ·exact h1 t ht
   ·decide
  ·split at ht
   ·simp only[aI,aN,bG,or_false]at ht
    rcases ht with rfl|rfl|ht|rfl
    ·exact Jw _
    ·decide
    ·exact h1 t ht
    ·decide
   ·refine A4 (fun t ht=>?_) t ht
    rcases aI.1 ht with rfl|ht
    ·exact Eb _
    ·exact h2 t ht
 | .two p a b,i,hw=>by
  have h1:=pq a true hw.2.2.1;have h2:=pq b true hw.2.2.2;intro t ht;unfold iC at ht;refine A4 (fun t ht=>?_) t ht
  rcases aN.1 ht with ht|ht
  ·exact h1 t ht
  ·rcases aI.1 ht with rfl|ht
   ·exact Eb _
   ·exact h2 t ht
def Me(z:Option qC):Prop:=∀k c,z=some (.error (k,c))->c=60\/c=2
theorem ub(k:Nat):Me (some (.error (k,60))):=fun _ _ h=>by injection h with h;injection h with h;injection h with h1 h2;exact .inl h2.symm
theorem RO(k:Nat):Me (some (.error (k,2))):=fun _ _ h=>by injection h with h;injection h with h;injection h with h1 h2;exact .inr h2.symm
theorem Ec:Me none:=fun _ _ h=>by cases h
theorem nY(z:List Pt×List Tk):Me (some (.ok z)):=fun _ _ h=>by injection h with h;cases h
theorem wb{p:Pt}{z:Option qC}(h:Me z):Me (vP p z):=by
 unfold vP
 split
 ·exact nY _
 ·exact h
variable {d:Nat}
theorem sE{a b:Bs}{go:List Tk->Option qC}(h:∀q,Me (go q)):Me (within a b d l go):=by
 unfold within
 split
 ·exact ub _
 ·split
  ·split
   ·exact RO _
   ·split
    ·exact Ec
    ·rename_i q _ _ e he
     exact he ▸ h _
    ·split
     ·exact ub _
     ·split
      ·exact nY _
      ·exact ub _
  ·exact ub _
variable {q:List Tk}
theorem Gf{s:Bs}{br:Option qC}(h:Me br):Me (named s q br):=by
 unfold named
 split
 ·exact nY _
 ·split
  ·exact wb h
  ·split
   ·split
    ·exact ub _
    ·split
     ·exact nY _
     ·exact ub _
   ·exact nY _
theorem mw:∀(f:Nat)(m:Md)(d:Nat)(l:List Tk),Me (rd f m d l)
 |0,_,_,_=>Ec
 |f+1,.row n,d,l=>by
  unfold rd
  split
  ·exact mw f _ _ _
  ·split
   ·split
    ·exact nY _
    ·exact mw f _ _ _
   ·exact mw f _ _ _
 |f+1,.loop n,d,l=>by
  unfold rd
  split
  ·exact nY _
  ·split
   ·exact nY _
   ·split
    ·split
     ·exact nY _
     ·exact mw f _ _ _
    ·exact mw f _ _ _
 |f+1,.uA,d,l=>by
  unfold rd
  split
  ·exact mw f _ _ _
  ·split
   ·exact mw f _ _ _
   ·split
    ·exact RO _
    ·exact wb (mw f _ _ _)
 |f+1,.pri,d,l=>by
  unfold rd
  split
  ·exact ub _
  ·split
   ·exact nY _
   ·split
    ·exact nY _
    ·split
     ·exact nY _
     ·split
      ·exact wb (sE fun q=>mw f _ _ _)
      ·split
       ·exact Gf (sE fun q=>mw f _ _ _)
       ·exact sE fun q=>mw f _ _ _
variable {k:Nat}
theorem yT{c:Int}(h:parse l=.error (k,c)):c≠0:=by
 unfold parse at h
 split at h
 ·injection h with h;injection h with h1 h2;rw[<-h2];decide
 ·rename_i e he
  injection h with h
  subst h
  rcases mw _ _ _ _ _ _ he with h|h <;> rw[h] <;> decide
 ·split at h
  ·injection h with h;injection h with h1 h2;rw[<-h2];decide
  ·cases h
variable {x:List Pt}
theorem we{r:List Tk}(h:parse l=.ok (x,r)):x.length<=500:=by
 unfold parse at h
 split at h
 ·cases h
 ·cases h
 ·split at h
  ·cases h
  ·injection h with h
   injection h with h1 h2
   subst h1;omega
theorem sF{α:Type}{p:α->Bool}{l:List α}{a:α}(h:(l.take k).all p=true)(hk:l[k]? =some a):(l.take (k+1)).all p=p a:=by
 rw[cr,hk];simp[h]
theorem nI{α:Type}{p:α->Bool}{l:List α}{a:α}(hk:l[k]? =some a)(h:p a=false):l.all p=false:=by
 rw[List.all_eq_false];exact⟨a,List.mem_of_getElem? hk,by rw[h];decide⟩
variable {n:Nat}{v:Value}{size:Nat}{P:Nat->Prop}{w:World}
theorem Sl.shape{cs:List Value}(h:Sl w P size v n cs):∃(a:Option Addr)(b off cap:Nat),v=.slice a n cap/\n<=1000000000/\(0<n->a=some ⟨b,off,none⟩)/\(∀k j u,cs[k*size+j]? =some u->w.cell? ⟨b,off+k*size+j,none⟩=some u):=by
 obtain⟨a,b,off,cap,h1,h2,h3,h4,h5⟩:=h;exact⟨a,b,off,cap,h1,h2,fun h0=>(h4 h0).2,fun k j u hu=>by rw[Nat.add_assoc];exact h5 _ u hu⟩
theorem An{l:List (List Int×List St)}(h:DL w Tt l v):Calls ah 89 #[v] w fun e w'=>e=.returned (.bool (lQ l))/\Below w.heap.size w w':=by
 obtain⟨cs,hs,hr⟩:=h;obtain⟨a,b,off,cap,rfl,hn,ha,hc⟩:=hs.shape;have HC:=qet hc;have HR:=qet hr;have HS:=qet hs;clear hc hr hs;obtain⟨N,hN⟩:∃N,N=l.length:=⟨_,rfl⟩
 have HN:=qet hN;rw[<-hN]at hn ha ⊢;clear hN
 by_cases h32:32<N
 ·have HE:qes (lQ l=false):=by show _=_;unfold lQ;rw[decide_eq_false (by rw[<-HN.o];omega),fj]
  have i1:(32:Int)<(N:Int):=by omega
  clear ha hn h32 HC HR HS HN;go_enter Tryz.func89,Tryz.ntmps89;go_wp2;go_ret;exact⟨by rw[HE.o];rfl,aw _ _⟩
 have HE:qes (lQ l=l.all ot):=by show _=_;unfold lQ;rw[decide_eq_true (by rw[<-HN.o];omega),fu]
 have i1:¬ (32:Int)<(N:Int):=by omega
 have n0:(0:Int)<=(N:Int):=by omega
 go_enter Tryz.func89,Tryz.ntmps89;go_wp2_with fail
 go_loopw [12] (fun i wr=>∃(k:Nat),k<=N/\i=.int .i64 (k:Int)/\qes ((l.take k).all ot=true/\Below w.heap.size w wr)) (fun i _=>N-(intOf i).toNat)
 case atStart=>exact⟨0,by omega,rfl,rfl,aw _ _⟩
 case round=>
  obtain⟨k,hk,rfl,hh⟩:=hrel;have HM:=qet hh.o.1;have HB:=qet hh.o.2;clear hh
  by_cases hlt:k<N
  ·have j1:(k:Int)<(N:Int):=by omega
   have j0:(0:Int)<=(k:Int):=by omega
   obtain⟨x,hx⟩:∃x,l[k]? =some x:=⟨_,List.getElem?_eq_getElem (by rw[<-HN.o];exact hlt)⟩
   obtain⟨lv,bv,q0,q1,q2,q3⟩:=oI w Tt l cs k x HR.o hx
   have c0:wr.cell? ⟨b,off+k*2,none⟩=some lv:=by
    have:=HC.o k 0 lv q0;exact(HB.o.cell (p:=⟨b,off+k*2,none⟩) (World.block_lt_of_cell? w _ this)).trans this
   have c1:wr.cell? ⟨b,off+k*2+1,none⟩=some bv:=by
    have:=HC.o k 1 bv q1;exact(HB.o.cell (p:=⟨b,off+k*2+1,none⟩) (World.block_lt_of_cell? w _ this)).trans this
   have ha':=ha (by omega);subst ha';obtain⟨ls,bd⟩:=x;obtain⟨a2,b2,off2,cap2,hlv,hn2,ha2,hc2⟩:=Sl.shape q2;obtain⟨VR,hs3,YN⟩:=q3;obtain⟨a3,b3,LM,cap3,hbv,h3a,h3b,h3c⟩:=hs3.shape;clear h3a h3b h3c hs3 YN VR;simp only[]at hlv hn2 ha2 hbv;have HC2:=qet hc2;have HX:=qet hx;clear hc2 q0 q1 q2 hx;obtain⟨M,hM⟩:∃M,M=ls.length:=⟨_,rfl⟩
   have mQ:=qet hM;rw[<-hM]at hlv hn2 ha2;clear hM;subst hlv hbv;have B1:=HB.o.alloc HB.o.size (.cells #[.slice a2 M cap2,.slice a3 bd.length cap3] 51);have HB1:=qet B1;clear B1;have Ti:qes (ot (ls,bd)=(!(decide (M=0)||decide (16<M))&&ls.all jk)):=by show _=_;unfold ot;rw[mQ.o]
   generalize bd.length=bn at *
   by_cases hz:M=0
   ·subst hz
    have HF:qes (lQ l=false):=by
     show _=_;rw[HE.o];exact nI HX.o (by rw[Ti.o];rfl)
    clear ha2 HC2;go_wp2;go_ret;exact⟨by rw[HF.o];rfl,HB1.o⟩
   ·by_cases h16:16<M
    ·have HF:qes (lQ l=false):=by
      show _=_;rw[HE.o];exact nI HX.o (by rw[Ti.o,decide_eq_true h16,Bool.or_true];rfl)
     have k1:((M:Int)==0)=false:=by rw[beq_eq_false_iff_ne];omega
     have k2:(16:Int)<(M:Int):=by omega
     clear ha2 HC2;go_wp2;go_ret;exact⟨by rw[HF.o];rfl,HB1.o⟩
    ·have k1:((M:Int)==0)=false:=by rw[beq_eq_false_iff_ne];omega
     have k2:¬ (16:Int)<(M:Int):=by omega
     have k3:(0:Int)<=(M:Int):=by omega
     have VS:qes (ot (ls,bd)=ls.all jk):=by show _=_;rw[Ti.o,decide_eq_false hz,decide_eq_false h16];rfl
     have YO:=ha2 (by omega);subst YO;go_wp2_with fail
     go_loopw [6,29] (fun u i wx=>∃(m:Nat),m<=M/\i=.int .i64 (m:Int)/\qes ((ls.take m).all jk=true/\wx=wr.alloc (.cells #[.slice (some ⟨b2,off2,none⟩) M cap2,.slice a3 bn cap3] 51))) (fun _ i _=>M-(intOf i).toNat)
     case atStart=>exact⟨0,by omega,rfl,rfl,rfl⟩
     case round=>
      obtain⟨m,hm,rfl,hh⟩:=hrel;have HP:=qet hh.o.1;have hwx:=hh.o.2;clear hh;subst hwx
      by_cases hmt:m<M
      ·have l1:(m:Int)<(M:Int):=by omega
       have l0:(0:Int)<=(m:Int):=by omega
       obtain⟨y,hy⟩:∃y,ls[m]? =some y:=⟨_,List.getElem?_eq_getElem (by rw[<-mQ.o];exact hmt)⟩
       have hcell:w.cell? ⟨b2,off2+m,none⟩=some (.int .i64 y):=by
        have:=HC2.o m 0 (.int .i64 y) (by rw[Nat.mul_one,Nat.add_zero];show(ls.map _)[m]? =_;rw[List.getElem?_map,hy];rfl)
        rwa [Nat.mul_one,Nat.add_zero]at this
       have e0:(wr.alloc (.cells #[.slice (some ⟨b2,off2,none⟩) M cap2,.slice a3 bn cap3] 51)).cell? ⟨b2,off2+m,none⟩=some (.int .i64 y):=(HB1.o.cell (p:=⟨b2,off2+m,none⟩) (World.block_lt_of_cell? w _ hcell)).trans hcell;have HY:=qet hy;have cn:=uJ y (wr.alloc (.cells #[.slice (some ⟨b2,off2,none⟩) M cap2,.slice a3 bn cap3] 51));clear hy hcell;go_wp2_with fail;refine cn.mono ?_;rintro e w2 ⟨rfl,rfl⟩;clear cn
       cases hq:jk y with
       |false=>
        have HF:qes (lQ l=false):=by
         show _=_;rw[HE.o];exact nI HX.o (by rw[VS.o];exact nI HY.o hq)
        go_wp2;go_ret;exact⟨by rw[HF.o];rfl,HB1.o⟩
       |true=>
        have HQ:=qet (sF HP.o HY.o);rw[hq]at HQ;go_wp2
        go_roundw
        case rel=>exact⟨m+1,by omega,by go_num,HQ.o,trivial⟩
        case measure=>simp[intOf];omega
      ·obtain rfl:m=M:=by omega
       have HQ:qes ((l.take (k+1)).all ot=true):=by
        show _=_;rw[sF HM.o HX.o,VS.o];have:=HP.o
        rwa [aX (by rw[mQ.o];exact aj _)]at this
       have l1:¬ (m:Int)<(m:Int):=by omega
       go_wp2
       go_roundw
       case rel=>exact⟨k+1,by omega,by go_num,HQ.o,HB1.o⟩
       case measure=>simp[intOf];omega
  ·obtain rfl:k=N:=by omega
   have HF:qes (lQ l=true):=by
    show _=_;rw[HE.o];have:=HM.o
    rwa [aX (by rw[HN.o];exact aj _)]at this
   have j1:¬ (k:Int)<(k:Int):=by omega
   go_wp2;go_ret;exact⟨by rw[HF.o];rfl,HB.o⟩
theorem Ao{l:List (Bs×List Pt)}(h:BR w Tt l v)(hg:kZ w):Calls ah 90 #[v] w fun e w'=>e=.returned (.bool (l9 l))/\Below w.heap.size w w':=by
 obtain⟨cs,hs,hr⟩:=h;obtain⟨a,b,off,cap,rfl,hn,ha,hc⟩:=hs.shape;have HC:=qet hc;have HR:=qet hr;have HG:=qet hg;clear hc hr hs hg;obtain⟨N,hN⟩:∃N,N=l.length:=⟨_,rfl⟩
 have HN:=qet hN;rw[<-hN]at hn ha ⊢;clear hN
 by_cases h8:8<N
 ·have HE:qes (l9 l=false):=by show _=_;unfold l9;rw[decide_eq_false (by rw[<-HN.o];omega),fj]
  have i1:(8:Int)<(N:Int):=by omega
  clear ha hn h8 HC HR HN HG;go_enter Tryz.func90,Tryz.ntmps90;go_wp2;go_ret;exact⟨by rw[HE.o];rfl,aw _ _⟩
 have HE:qes (l9 l=l.all rU):=by show _=_;unfold l9;rw[decide_eq_true (by rw[<-HN.o];omega),fu]
 have i1:¬ (8:Int)<(N:Int):=by omega
 have n0:(0:Int)<=(N:Int):=by omega
 go_enter Tryz.func90,Tryz.ntmps90;go_wp2_with fail
 go_loopw [10] (fun i wr=>∃(k:Nat),k<=N/\i=.int .i64 (k:Int)/\qes ((l.take k).all rU=true/\Below w.heap.size w wr)) (fun i _=>N-(intOf i).toNat)
 case atStart=>exact⟨0,by omega,rfl,rfl,aw _ _⟩
 case round=>
  obtain⟨k,hk,rfl,hh⟩:=hrel;have HM:=qet hh.o.1;have HB:=qet hh.o.2;clear hh
  by_cases hlt:k<N
  ·have j1:(k:Int)<(N:Int):=by omega
   have j0:(0:Int)<=(k:Int):=by omega
   obtain⟨x,hx⟩:∃x,l[k]? =some x:=⟨_,List.getElem?_eq_getElem (by rw[<-HN.o];exact hlt)⟩
   obtain⟨nv,xv,q0,q1,q2,q3⟩:=xG w Tt l cs k x HR.o hx
   have c0:wr.cell? ⟨b,off+k*2,none⟩=some (.string nv):=by
    have:=HC.o k 0 _ q0;exact(HB.o.cell (p:=⟨b,off+k*2,none⟩) (World.block_lt_of_cell? w _ this)).trans this
   have c1:wr.cell? ⟨b,off+k*2+1,none⟩=some xv:=by
    have:=HC.o k 1 _ q1;exact(HB.o.cell (p:=⟨b,off+k*2+1,none⟩) (World.block_lt_of_cell? w _ this)).trans this
   have ha':=ha (by omega);subst ha';have HX:=qet hx;have A6:=qet q3;obtain⟨xs3,_,a3,b3,LM,cap3,hxv,_⟩:=q3;have B1:=HB.o.alloc HB.o.size (.cells #[.string nv,xv] 75);have HB1:=qet B1;have cw:=Ls nv (wr.alloc (.cells #[.string nv,xv] 75)) (HG.o.below B1 HG.o.lt);rw[q2]at cw;have Ti:qes (rU x=(kC x.1&&lP x.2)):=rfl;clear q0 q1 q2 hx B1;subst hxv;generalize xs3.length=bn at *;go_wp2_with fail;refine cw.mono ?_;rintro e w2 ⟨rfl,hb2⟩;have HB2:=qet (HB1.o.trans (hb2.mono HB1.o.size))
   have blk:w2.heap[wr.heap.size]? =some (.cells #[.string nv,.slice a3 bn cap3] 75):=by
    rw[hb2.block _ (by simp)];exact aE wr _
   have d1:w2.cell? ⟨wr.heap.size,1,none⟩=some (.slice a3 bn cap3):=by rw[af blk];rfl
   have cx:=sz (A6.o.on (On.below HB2.o)) (HG.o.below HB2.o HG.o.lt);clear cw hb2 blk c0 c1
   cases hw:kC x.1 with
   |false=>
    have HF:qes (l9 l=false):=by
     show _=_;rw[HE.o];exact nI HX.o (by rw[Ti.o,hw];rfl)
    clear cx;go_wp2;go_ret;exact⟨by rw[HF.o];rfl,HB2.o⟩
   |true=>
    have HW:=qet hw;clear hw;go_wp2_with fail;refine cx.mono ?_;rintro e w3 ⟨rfl,hb3⟩;have HB3:=qet (HB2.o.trans (hb3.mono HB2.o.size));clear cx hb3
    cases hq:lP x.2 with
    |false=>
     have HF:qes (l9 l=false):=by
      show _=_;rw[HE.o];exact nI HX.o (by rw[Ti.o,hq,fH])
     go_wp2;go_ret;exact⟨by rw[HF.o];rfl,HB3.o⟩
    |true=>
     have HQ:qes ((l.take (k+1)).all rU=true):=by
      show _=_;rw[sF HM.o HX.o,Ti.o,HW.o,hq];rfl
     go_wp2
     go_roundw
     case rel=>exact⟨k+1,by omega,by go_num,HQ.o,HB3.o⟩
     case measure=>simp[intOf];omega
  ·obtain rfl:k=N:=by omega
   have HF:qes (l9 l=true):=by
    show _=_;rw[HE.o];have:=HM.o
    rwa [aX (by rw[HN.o];exact aj _)]at this
   have j1:¬ (k:Int)<(k:Int):=by omega
   go_wp2;go_ret;exact⟨by rw[HF.o];rfl,HB.o⟩
variable {s:St}{b:Nat}
theorem lk.VT{l:List St}{off:Nat}{cs:List Value}(hc:∀k j u,cs[k*10+j]? =some u->w.cell? ⟨b,off+k*10+j,none⟩=some u)(hr:oH w P l cs)(hs:l[0]? =some s):w.cell? ⟨b,off,none⟩=some (.int .i64 s.kind):=by
 obtain⟨d,h1,h2,h3⟩:=sV w P l cs 0 s hr hs;obtain⟨nv,iv,xv,yv,bv,ev,av,gv,rfl,_⟩:=(nD w P s d).1 h2;have:=hc 0 0 (.int .i64 s.kind) (h3 0 (by omega))
 simpa using this
theorem uT(k:Int)(nv:ByteArray)(iv xv yv:Value)(b_:Int)(bv ev av gv:Value)(el:List St)(w:World)(h:lk w Tt el ev):Calls ah 91 #[.agg #[.int .i64 k,.string nv,iv,xv,yv,.int .i64 b_,bv,ev,av,gv]] w fun e w'=>e=.returned (.bool (jb k el))/\Below w.heap.size w w':=by
 obtain⟨cs,hs,hr⟩:=h;obtain⟨a,b,off,cap,rfl,hn,ha,hc⟩:=hs.shape;have HB:=qet ((aw w.heap.size w).alloc (aj _) (.cells #[.int .i64 k,.string nv,iv,xv,yv,.int .i64 b_,bv,.slice a el.length cap,av,gv] 48))
 by_cases hk:k=2
 ·subst hk
  by_cases h1:el.length=1
  ·obtain⟨s,rfl⟩:∃s,el=[s]:=List.length_eq_one_iff.1 h1;have hq:=lk.VT hc hr (s:=s) rfl;have q0:=(HB.o.cell (p:=⟨b,off,none⟩) (World.block_lt_of_cell? w _ hq)).trans hq;have ha':=ha (by simp);subst ha';have HE:qes (jb 2 [s]=decide (s.kind=2)):=rfl;have HB':qes (Below w.heap.size w (w.alloc (.cells #[.int .i64 2,.string nv,iv,xv,yv,.int .i64 b_,bv,.slice (some ⟨b,off,none⟩) 1 cap,av,gv] 48))):=HB.o;have q1:(w.alloc (.cells #[.int .i64 2,.string nv,iv,xv,yv,.int .i64 b_,bv,.slice (some ⟨b,off,none⟩) 1 cap,av,gv] 48)).cell? ⟨b,off,none⟩=some (.int .i64 s.kind):=q0;show Calls ah 91 #[.agg #[.int .i64 2,.string nv,iv,xv,yv,.int .i64 b_,bv,.slice (some ⟨b,off,none⟩) 1 cap,av,gv]] w _;clear hc hr hs ha hq h1 HB q0;obtain⟨sk,hsk⟩:∃sk,sk=s.kind:=⟨_,rfl⟩
   rw[<-hsk]at q1 HE
   by_cases h2:sk=2
   ·have HF:qes (decide (sk=2)=true):=decide_eq_true h2;subst h2;clear hsk;go_enter eS,eN;go_wp2;go_ret;exact⟨by rw[HE.o];rfl,HB'.o⟩
   ·have HF:qes (decide (sk=2)=false):=decide_eq_false h2;have i1:(sk==2)=false:=by rw[beq_eq_false_iff_ne];exact h2
    clear hsk h2;go_enter eS,eN;go_wp2;go_ret;exact⟨by rw[HE.o,HF.o];rfl,HB'.o⟩
  ·have HE:qes (jb 2 el=false):=by
    show _=_;unfold jb
    match el,h1 with
    |[],_=>rfl
    |[_],h1=>exact absurd rfl h1
    |_::_::_,_=>rfl
   have i1:((el.length:Int)==1)=false:=by rw[beq_eq_false_iff_ne];omega
   clear hc hr hs ha h1;generalize el.length=N at *;go_enter eS,eN;go_wp2;go_ret;exact⟨by rw[HE.o];rfl,HB.o⟩
 ·have HE:qes (jb k el=false):=by show _=_;unfold jb;rw[decide_eq_false hk,fj]
  have i1:(k==2)=false:=by rw[beq_eq_false_iff_ne];exact hk
  clear hc hr hs ha hk;generalize el.length=N at *;go_enter eS,eN;go_wp2;go_ret;exact⟨by rw[HE.o];rfl,HB.o⟩
theorem mg.shape(h:mg w P x v):∃a n c,v=.slice a n c:=by
 obtain⟨xs,_,a,b,off,cap,hv,_⟩:=h;exact⟨_,_,_,hv⟩
theorem AR.shape{x:List Int}(h:AR w P x v):∃a n c,v=.slice a n c:=by
 obtain⟨a,b,off,cap,hv,_⟩:=h;exact⟨_,_,_,hv⟩
theorem lk.shape{x:List St}(h:lk w P x v):∃a n c,v=.slice a n c:=by
 obtain⟨cs,⟨a,b,off,cap,hv,_⟩,_⟩:=h;exact⟨_,_,_,hv⟩
theorem DL.shape{x:List (List Int×List St)}(h:DL w P x v):∃a n c,v=.slice a n c:=by
 obtain⟨cs,⟨a,b,off,cap,hv,_⟩,_⟩:=h;exact⟨_,_,_,hv⟩
theorem BR.shape{x:List (Bs×List Pt)}(h:BR w P x v):∃a n c,v=.slice a n c:=by
 obtain⟨cs,⟨a,b,off,cap,hv,_⟩,_⟩:=h;exact⟨_,_,_,hv⟩
theorem yU(d:Nat):∀l:List St,jO d l=l.all (me d)
 |[]=>rfl
 |s::l=>by rw[jO,cN,yU d l]
theorem yV(d:Nat):∀l:List (List Int×List St),vU d l=l.all (fun a=>jO d a.2)
 |[]=>rfl
 |(ls,b)::l=>by rw[vU,FQ,cN,yV d l]
theorem PG(d:Nat)(s:St):me d s=(decide (d<=20)&&(l4 s&&(vU (d+1) s.arms&&(jO (d+1) s.body&&jO (if jb s.kind s.els then d else d+1) s.els)))):=by
 obtain⟨k,nm,i,x,y,b_,bd,el,ar,ag⟩:=s;rw[me]
theorem j9(s:St):jY s=1+iw s.body+iw s.els+kM s.arms:=by
 obtain⟨k,nm,i,x,y,b_,bd,el,ar,ag⟩:=s;rw[jY]
theorem sY{s:St}:∀ {l:List St}{k:Nat},l[k]? =some s->jY s<=iw l
 |[],_,h=>by cases h
 |t::l,0,h=>by
  obtain rfl:t=s:=an h;rw[iw];omega
 |t::l,k+1,h=>by
  have:=sY (l:=l) (k:=k) h;rw[iw];omega
theorem uU{a:List Int×List St}:∀ {l:List (List Int×List St)}{k:Nat},l[k]? =some a->iw a.2<=kM l
 |[],_,h=>by cases h
 |(ls,b)::l,0,h=>by
  obtain rfl:(ls,b)=a:=an h;rw[kM,sd];simp
 |t::l,k+1,h=>by
  have:=uU (l:=l) (k:=k) h;rw[kM];omega
structure Ed(w:World)(b o:Nat)(s:St)(nv:ByteArray)(iv xv yv bv ev av gv:Value):Prop where
 c0:w.cell? ⟨b,o,none⟩=some (.int .i64 s.kind)
 c1:w.cell? ⟨b,o+1,none⟩=some (.string nv)
 c2:w.cell? ⟨b,o+2,none⟩=some iv
 c3:w.cell? ⟨b,o+3,none⟩=some xv
 c4:w.cell? ⟨b,o+4,none⟩=some yv
 c5:w.cell? ⟨b,o+5,none⟩=some (.int .i64 s.gT)
 c6:w.cell? ⟨b,o+6,none⟩=some bv
 c7:w.cell? ⟨b,o+7,none⟩=some ev
 c8:w.cell? ⟨b,o+8,none⟩=some av
 c9:w.cell? ⟨b,o+9,none⟩=some gv
 nm:nv.data.toList=s.name
 idx:mg w Tt s.idx iv
 x:mg w Tt s.x xv
 y:mg w Tt s.y yv
 body:lk w Tt s.body bv
 els:lk w Tt s.els ev
 arms:DL w Tt s.arms av
 args:BR w Tt s.args gv
variable {nv:ByteArray}{w':World}
theorem Ed.below{o:Nat}{iv xv yv bv ev av gv:Value}(h:Ed w b o s nv iv xv yv bv ev av gv)(hb:Below w.heap.size w w'):Ed w' b o s nv iv xv yv bv ev av gv:=by
 have hlt:b<w.heap.size:=World.block_lt_of_cell? w ⟨b,o,none⟩ h.c0;have key:∀(j:Nat)(u:Value),w.cell? ⟨b,j,none⟩=some u->w'.cell? ⟨b,j,none⟩=some u:=fun j u hu=>(hb.cell (p:=⟨b,j,none⟩) hlt).trans hu
 exact⟨key _ _ h.c0,key _ _ h.c1,key _ _ h.c2,key _ _ h.c3,key _ _ h.c4,key _ _ h.c5,key _ _ h.c6,key _ _ h.c7,key _ _ h.c8,key _ _ h.c9,h.nm,h.idx.on (On.below hb),h.x.on (On.below hb),h.y.on (On.below hb),h.body.on (On.below hb),h.els.on (On.below hb),h.arms.on (On.below hb),h.args.on (On.below hb)⟩
theorem uV{l:List St}{cs:List Value}{off:Nat}(hc:∀k j u,cs[k*10+j]? =some u->w.cell? ⟨b,off+k*10+j,none⟩=some u)(hr:oH w Tt l cs)(hs:l[k]? =some s):∃nv iv xv yv bv ev av gv,Ed w b (off+k*10) s nv iv xv yv bv ev av gv:=by
 obtain⟨d,_,h2,h3⟩:=sV w Tt l cs k s hr hs;obtain⟨nv,iv,xv,yv,bv,ev,av,gv,rfl,e1,e2,e3,e4,e5,e6,e7,e8⟩:=(nD w Tt s d).1 h2;have key:∀(j:Nat)(u:Value),j<10->([.int .i64 s.kind,.string nv,iv,xv,yv,.int .i64 s.gT,bv,ev,av,gv]:List Value)[j]? =some u->w.cell? ⟨b,off+k*10+j,none⟩=some u:=fun j u hj hu=>hc k j u ((h3 j hj).trans hu)
 exact⟨nv,iv,xv,yv,bv,ev,av,gv,key 0 _ (by omega) rfl,key 1 _ (by omega) rfl,key 2 _ (by omega) rfl,key 3 _ (by omega) rfl,key 4 _ (by omega) rfl,key 5 _ (by omega) rfl,key 6 _ (by omega) rfl,key 7 _ (by omega) rfl,key 8 _ (by omega) rfl,key 9 _ (by omega) rfl,e1,e2,e3,e4,e5,e6,e7,e8⟩
def wm(s:Sr):Int×Bool:=(s.within,s.iU)
mutual
def Dt(n:Nat):St->List (Int×Bool)
 |⟨k,_,_,_,_,_,bd,el,ar,_⟩=>wL (n+1) n false bd++(wA (n+1+iw bd) n ar++wL (n+1+iw bd+kM ar) n (jb k el) el)
def wL(n:Nat)(num:Int)(e:Bool):List St->List (Int×Bool)
 |[]=>[]
 |s::l=>(num,e)::(Dt n s++wL (n+jY s) num e l)
def wA(n:Nat)(num:Int):List (List Int×List St)->List (Int×Bool)
 |[]=>[]
 |a::l=>wQ n num a++wA (n+sd a) num l
def wQ(n:Nat)(num:Int):List Int×List St->List (Int×Bool)
 |(_,b)=>wL n num false b
end
mutual
theorem uW:∀(s:St)(n:Nat),(Dt n s).length+1=jY s
 |⟨k,_,_,_,_,_,bd,el,ar,_⟩,n=>by
  have h1:=rz bd (n+1) n false;have h2:=Gg ar (n+1+iw bd) n;have h3:=rz el (n+1+iw bd+kM ar) n (jb k el);simp only[Dt,jY,ao];omega
theorem rz:∀(l:List St)(n:Nat)(num:Int)(e:Bool),(wL n num e l).length=iw l
 |[],n,num,e=>rfl
 |s::l,n,num,e=>by
  have h1:=uW s n;have h2:=rz l (n+jY s) num e;simp only[wL,iw,ao,aG];omega
theorem Gg:∀(l:List (List Int×List St))(n:Nat)(num:Int),(wA n num l).length=kM l
 |[],n,num=>rfl
 |a::l,n,num=>by
  have h1:=Mf a n num;have h2:=Gg l (n+sd a) num;simp only[wA,kM,ao];omega
theorem Mf:∀(a:List Int×List St)(n:Nat)(num:Int),(wQ n num a).length=sd a
 |(_,b),n,num=>by
  have h1:=rz b n num false;simp only[wQ,sd];exact h1
end
variable {hs:List Hd}{h:Hd}{r:Rs}
theorem pZ(e:r.hs=h::hs)(hn:¬ (h.s.kind=2/\h.gX=true)):gZ r=({r with gY:=r.gY++[⟨r.rest.length,h.num,false⟩]},.ok ()):=by
 have ht:top r=h:=by unfold top;rw[e];rfl
 unfold gZ;simp only[ht];rw[if_neg hn]
theorem nO(e:r.hs=h::hs)(hn:h.s.kind=2/\h.gX=true)(he:h.s.els=[]):gZ r=({r with hs:={h with first:=r.gY.length}::hs,gY:=r.gY++[⟨r.rest.length,h.num,jI 1 jM r||jI 1 sr r⟩]},.ok ()):=by
 have ht:top r=h:=by unfold top;rw[e];rfl
 unfold gZ;simp only[ht];rw[if_pos hn,if_pos (by rw[he];rfl)];unfold iS;simp only[e];rfl
theorem rA(e:r.hs=h::hs)(hn:h.s.kind=2/\h.gX=true)(he:h.s.els≠[]):gZ r=({r with gY:=Dz r.gY h.first++[⟨r.rest.length,h.num,false⟩]},.ok ()):=by
 have ht:top r=h:=by unfold top;rw[e];rfl
 unfold gZ;simp only[ht];rw[if_pos hn,if_neg (by rw[List.isEmpty_iff];exact he)]
theorem PH:∀(A:List (Int×Bool)){l:List Sr}{num:Int}{b:Bool}{B:List (Int×Bool)},l.map wm=A++(num,b)::B->(Dz l A.length).map wm=A++(num,false)::B:=by
 intro A l num b B h;have hl:l[A.length]?.map wm=some (num,b):=by rw[<-List.getElem?_map,h,List.getElem?_append_right (aj _)];simp
 unfold Dz
 cases hx:l[A.length]? with
 |none=>rw[hx]at hl;cases hl
 |some s=>
  rw[hx]at hl;simp only[];rw[List.map_set,h]
  have hw:wm {s with iU:=false}=(num,false):=by
   have:wm s=(num,b):=an hl;unfold wm at this ⊢;injection this with h1 h2
   rw[h1]
  rw[hw,List.set_append_right _ _ (aj _),Nat.sub_self];rfl
theorem Mg(r:Rs)(h:Hd)(hs:List Hd)(e:r.hs=h::hs):∃h' lE,gZ r=({r with hs:=h'::hs,gY:=lE},.ok ())/\lE.length=r.gY.length+1/\h'.s=h.s/\h'.gX=h.gX/\h'.num=h.num/\h'.iU=h.iU:=by
 by_cases hn:h.s.kind=2/\h.gX=true
 ·by_cases he:h.s.els=[]
  ·exact⟨_,_,nO e hn he,by simp,rfl,rfl,rfl,rfl⟩
  ·refine⟨h,Dz r.gY h.first++[⟨r.rest.length,h.num,false⟩],?_,?_,rfl,rfl,rfl,rfl⟩
   ·rw[rA e hn he]
    cases r
    simp only at e;subst e;rfl
   ·unfold Dz
    cases r.gY[h.first]? <;> simp
 ·refine⟨h,r.gY++[⟨r.rest.length,h.num,false⟩],?_,by simp,rfl,rfl,rfl,rfl⟩;rw[pZ e hn]
  cases r
  simp only at e;subst e;rfl
def oJ(s:St):Prop:=∀(d:Nat)(r:Rs)(q:List Tk)(h0 h:Hd)(hs:List Hd),me d s=true->r.rest=kH s++gP ik::q->r.hs=h0::hs->(gZ r).1.hs=h::hs->
 ∃r',Goes r r'/\r'.rest=q/\r'.hs=jc h s::hs/\r'.many=r.many/\r'.gY.map wm=(gZ r).1.gY.map wm++Dt r.gY.length s
def lj(s:St):List Tk:=if jb s.kind s.els then Ry s.els else if s.els.isEmpty then []else gO lH::iV s.els
def RunT(s:St):Prop:=∀(d n:Nat)(r:Rs)(q:List Tk)(e:Bool)(hs:List Hd),me d s=true->s.kind=2->r.rest=iV s.body++(lj s++gO jN::q)->r.hs=⟨{st0 with kind:=2,x:=s.x},(n:Int),e,false,0⟩::hs->r.gY.length=n+1->hs≠[]->
 ∃r' ie f,Goes r r'/\r'.rest=gO jN::q/\(top r').s.kind=2/\1<r'.hs.length/\lM r'.hs=lM (⟨s,(n:Int),e,ie,f⟩::hs)/\r'.many=r.many/\r'.gY.map wm=r.gY.map wm++Dt n s
theorem mj(h:Hd)(s:St):(jc h s).gX=h.gX/\(jc h s).s.kind=h.s.kind/\(jc h s).num=h.num/\(jc h s).first=h.first/\(jc h s).iU=h.iU:=by
 unfold jc
 split
 ·exact⟨rfl,rfl,rfl,rfl,rfl⟩
 ·split <;> exact⟨rfl,rfl,rfl,rfl,rfl⟩
theorem pw{l:List St}(h:jO d (s::l)=true):me d s=true/\jO d l=true:=by
 rw[jO,aH]at h;exact h
theorem mW:∀(l:List St),(∀s∈l,oJ s)->∀(d:Nat)(r:Rs)(q:List Tk)(h:Hd)(hs:List Hd),jO d l=true->r.rest=iV l++q->r.hs=h::hs->¬ (h.s.kind=2/\h.gX=true)->
  ∃r',Goes r r'/\r'.rest=q/\r'.hs=l.foldl jc h::hs/\r'.many=r.many/\r'.gY.map wm=r.gY.map wm++wL r.gY.length h.num false l
 |[],_,d,r,q,h,hs,_,hr,hh,_=>⟨r,.refl r,hr,hh,rfl,by rw[wL,bm]⟩
 |s::l,hP,d,r,q,h,hs,hm,hr,hh,hn=>by
  obtain⟨hm1,hm2⟩:=pw hm;have hst:=pZ hh hn;obtain⟨r1,g1,e1,e2,e3,e4⟩:=hP s aT d r (iV l++q) h h hs hm1 (by rw[hr,iV];simp) hh (by rw[hst];exact hh);rw[hst]at e4;have hc:=mj h s
  have hlen:r1.gY.length=r.gY.length+jY s:=by
   have:=congrArg fp e4;have h2:=uW s r.gY.length;simp only[aQ,ao,aG,eY]at this;omega
  obtain⟨r2,g2,f1,f2,f3,f4⟩:=mW l (fun x hx=>hP x (aK _ hx)) d r1 q (jc h s) hs hm2 e1 e2 (by rw[hc.1,hc.2.1];exact hn);refine⟨r2,g1.trans g2,f1,f2,f3.trans e3,?_⟩;rw[f4,e4,hlen,hc.2.2.1,wL];simp[wm]
theorem Ee:∀(l:List St),(∀s∈l,oJ s)->l≠[]->∀(d:Nat)(r:Rs)(q:List Tk)(h:Hd)(hs:List Hd)(A B:List (Int×Bool))(num:Int)(b:Bool),jO d l=true->r.rest=iV l++q->r.hs=h::hs->h.s.kind=2/\h.gX=true->h.s.els≠[]->r.gY.map wm=A++(num,b)::B->h.first=A.length->
  ∃r',Goes r r'/\r'.rest=q/\r'.hs=l.foldl jc h::hs/\r'.many=r.many/\r'.gY.map wm=A++(num,false)::B++wL r.gY.length h.num false l
 |s::l,hP,_,d,r,q,h,hs,A,B,num,b,hm,hr,hh,hn,he,hst,hf=>by
  obtain⟨hm1,hm2⟩:=pw hm;have hs1:=rA hh hn he;obtain⟨r1,g1,e1,e2,e3,e4⟩:=hP s aT d r (iV l++q) h h hs hm1 (by rw[hr,iV];simp) hh (by rw[hs1];exact hh);rw[hs1,hf]at e4;simp only[bB]at e4;rw[PH A hst]at e4;have hc:=mj h s;have hlen0:=congrArg fp hst
  have hlen:r1.gY.length=r.gY.length+jY s:=by
   have:=congrArg fp e4;have h2:=uW s r.gY.length;simp only[aQ,ao,aG,eY]at this hlen0;omega
  have hels:(jc h s).s.els≠[]:=by
   unfold jc;rw[if_pos hn.2];simp
  by_cases hl:l=[]
  ·subst hl;refine⟨r1,g1,by rw[e1,iV,bQ],e2,e3,?_⟩;rw[e4,wL,wL];simp[wm]
  ·obtain⟨r2,g2,f1,f2,f3,f4⟩:=Ee l (fun x hx=>hP x (aK _ hx)) hl d r1 q (jc h s) hs A (B++((h.num,false)::Dt r.gY.length s)) num false hm2 e1 e2 (by rw[hc.1,hc.2.1];exact hn) hels (by rw[e4];simp[wm]) (by rw[hc.2.2.2.1];exact hf);refine⟨r2,g1.trans g2,f1,f2,f3.trans e3,?_⟩;rw[f4,hlen,hc.2.2.1];simp[wL]
theorem Tj(hm:me d s=true)(hk:s.kind≠2)(q:List Tk):∃t q',kH s++q=t::q'/\(decide (t.kind=1)&&(t.s==sr))=false/\(decide (t.kind=1)&&(t.s==jM))=false:=by
 obtain⟨k,nm,i,x,y,b_,bd,el,ar,ag⟩:=s
 have hown:l4 ⟨k,nm,i,x,y,b_,bd,el,ar,ag⟩=true:=by
  rw[me,aH,aH]at hm;exact hm.2.1
 have hname:nameB nm=true->(nm==sr)=false/\(nm==jM)=false:=fun hb=>by
  constructor
  ·rw[beq_eq_false_iff_ne];rintro rfl;revert hb;decide
  ·rw[beq_eq_false_iff_ne];rintro rfl;revert hb;decide
 have word:∀(s:Bs)(l:List Tk),(s==sr)=false/\(s==jM)=false->∃t q',gO s::l++q=t::q'/\(decide (t.kind=1)&&(t.s==sr))=false/\(decide (t.kind=1)&&(t.s==jM))=false:=fun s l hs=>⟨gO s,l++q,rfl,by show(decide ((1:Int)=1)&&(s==sr))=false;rw[hs.1];rfl,by show(decide ((1:Int)=1)&&(s==jM))=false;rw[hs.2];rfl⟩
 rw[kH];have hk2:k≠2:=hk
 by_cases h1:k=1
 ·rw[if_pos h1];subst h1;exact word nm _ (hname (by unfold l4 qF at hown;simp[kg]at hown;exact hown.1))
 ·rw[if_neg h1,if_neg hk2]
  by_cases h3:k=3
  ·rw[if_pos h3];exact word _ _ (by decide)
  ·rw[if_neg h3]
   by_cases h4:k=4
   ·rw[if_pos h4];exact word _ _ (by decide)
   ·rw[if_neg h4]
    by_cases h5:k=5
    ·rw[if_pos h5];exact word _ _ (by decide)
    ·rw[if_neg h5]
     by_cases h6:k=6
     ·rw[if_pos h6];exact word _ _ (by decide)
     ·rw[if_neg h6]
      by_cases h7:k=7
      ·rw[if_pos h7];subst h7;exact word nm _ (hname (by unfold l4 qF at hown;simp[kg]at hown;exact hown.1))
      ·rw[if_neg h7]
       by_cases h8:k=8
       ·rw[if_pos h8];exact word _ [] (by decide)
       ·rw[if_neg h8]
        by_cases h9:k=9
        ·rw[if_pos h9];exact word _ [] (by decide)
        ·exfalso;unfold l4 qF at hown;simp only at hown;rw[if_neg h1,if_neg hk2,if_neg h3,if_neg h4,if_neg h5,if_neg h6,if_neg h7,if_neg h8,if_neg h9]at hown
         cases hown
theorem Mh:∀(l:List St),(∀s∈l,oJ s)->l≠[]->∀(d:Nat)(r:Rs)(q:List Tk)(h:Hd)(hs:List Hd),jO d l=true->jb 2 l=false->r.rest=iV l++q->r.hs=h::hs->h.s.kind=2/\h.gX=true->h.s.els=[]->
  ∃r',Goes r r'/\r'.rest=q/\r'.hs=l.foldl jc {h with first:=r.gY.length}::hs/\r'.many=r.many/\r'.gY.map wm=r.gY.map wm++wL r.gY.length h.num false l
 |s::l,hP,_,d,r,q,h,hs,hm,hch,hr,hh,hn,he=>by
  obtain⟨hm1,hm2⟩:=pw hm;have hs1:=nO hh hn he;obtain⟨r1,g1,e1,e2,e3,e4⟩:=hP s aT d r (iV l++q) h {h with first:=r.gY.length} hs hm1 (by rw[hr,iV];simp) hh (by rw[hs1]);rw[hs1]at e4;simp only[bB,bL,List.map_nil]at e4;have hc:=mj {h with first:=r.gY.length} s
  have hlen:r1.gY.length=r.gY.length+jY s:=by
   have:=congrArg fp e4;have h2:=uW s r.gY.length;simp only[aQ,ao,aG,eY]at this;omega
  have hels:(jc {h with first:=r.gY.length} s).s.els≠[]:=by
   unfold jc;rw[if_pos hn.2];simp
  by_cases hl:l=[]
  ·subst hl
   have hk:s.kind≠2:=fun hk=>by
    unfold jb at hch;simp[hk]at hch
   obtain⟨t,q',ht,t1,t2⟩:=Tj hm1 hk (gP ik::iV []++q);have hr':r.rest=t::q':=by rw[<-ht,hr];simp[iV]
   have b1:=mA hr' t1;have b2:=mA hr' t2;refine⟨r1,g1,by rw[e1,iV,bQ],e2,e3,?_⟩;rw[e4,wL,wL,b1,b2];simp[wm]
  ·obtain⟨r2,g2,f1,f2,f3,f4⟩:=Ee l (fun x hx=>hP x (aK _ hx)) hl d r1 q _ hs (r.gY.map wm) (Dt r.gY.length s) h.num (jI 1 jM r||jI 1 sr r) hm2 e1 e2 (by rw[hc.1,hc.2.1];exact hn) hels (by rw[e4];simp[wm]) (by rw[hc.2.2.2.1];simp);refine⟨r2,g1.trans g2,f1,f2,f3.trans e3,?_⟩;rw[f4,hlen,hc.2.2.1];simp[wL]
theorem rC{s:Bs}(h:r.rest=gO s::q)(hs:s∈[jK,jM,lH,jN,kp,mK,iI,km,jo]):qk r=false:=by
 rw[lp h]
 revert hs
 revert s
 intro s _ hs;simp only[aI,bG,or_false]at hs
 rcases hs with rfl|rfl|rfl|rfl|rfl|rfl|rfl|rfl|rfl <;> decide
theorem jD(h:me d s=true):d<=20/\l4 s=true/\vU (d+1) s.arms=true/\jO (d+1) s.body=true/\jO (if jb s.kind s.els then d else d+1) s.els=true:=by
 obtain⟨k,nm,i,x,y,b_,bd,el,ar,ag⟩:=s;rw[me]at h;simp only[aH,decide_eq_true_eq]at h;exact h
theorem Tl(h:l4 s=true)(hk:s.kind=1):s={st0 with kind:=1,name:=s.name,idx:=s.idx,x:=s.x}/\nameB s.name=true/\(s.idx=[]\/lP s.idx=true)/\lP s.x=true:=by
 obtain⟨k,nm,i,x,y,b_,bd,el,ar,ag⟩:=s;simp only at hk;subst hk;simp[l4,qF,kg]at h;obtain⟨h1,h2,h3,rfl,rfl,rfl,rfl,rfl,rfl⟩:=h;exact⟨rfl,h1,h2,h3⟩
theorem Jx(h:l4 s=true)(hk:s.kind=2):s={st0 with kind:=2,x:=s.x,body:=s.body,els:=s.els}/\lP s.x=true:=by
 obtain⟨k,nm,i,x,y,b_,bd,el,ar,ag⟩:=s;simp only at hk;subst hk;simp[l4,qF,kg]at h;obtain⟨rfl,rfl,h3,rfl,rfl,rfl,rfl⟩:=h;exact⟨rfl,h3⟩
theorem A8(h:l4 s=true)(hk:s.kind=3\/s.kind=4):s={st0 with kind:=s.kind,x:=s.x,body:=s.body}/\lP s.x=true:=by
 obtain⟨k,nm,i,x,y,b_,bd,el,ar,ag⟩:=s;simp only at hk
 rcases hk with rfl|rfl
 ·simp[l4,qF,kg]at h;obtain⟨rfl,rfl,h3,rfl,rfl,rfl,rfl,rfl⟩:=h;exact⟨rfl,h3⟩
 ·simp[l4,qF,kg]at h;obtain⟨rfl,rfl,h3,rfl,rfl,rfl,rfl,rfl⟩:=h;exact⟨rfl,h3⟩
theorem Tm(h:l4 s=true)(hk:s.kind=5):s={st0 with kind:=5,name:=s.name,x:=s.x,y:=s.y,gT:=s.gT,body:=s.body}/\nameB s.name=true/\lP s.x=true/\lP s.y=true/\s.gT≠0/\jk s.gT=true:=by
 obtain⟨k,nm,i,x,y,b_,bd,el,ar,ag⟩:=s;simp only at hk;subst hk;simp[l4,qF,kg]at h;obtain⟨h1,rfl,h3,h4,⟨h5,h6⟩,rfl,rfl,rfl⟩:=h;exact⟨rfl,h1,h3,h4,h5,h6⟩
theorem Tn(h:l4 s=true)(hk:s.kind=6):s={st0 with kind:=6,x:=s.x,els:=s.els,arms:=s.arms}/\lP s.x=true/\lQ s.arms=true:=by
 obtain⟨k,nm,i,x,y,b_,bd,el,ar,ag⟩:=s;simp only at hk;subst hk;simp[l4,qF,kg]at h;obtain⟨rfl,rfl,h3,rfl,rfl,rfl,h4,rfl⟩:=h;exact⟨rfl,h3,h4⟩
theorem To(h:l4 s=true)(hk:s.kind=7):s={st0 with kind:=7,name:=s.name,args:=s.args}/\nameB s.name=true/\l9 s.args=true:=by
 obtain⟨k,nm,i,x,y,b_,bd,el,ar,ag⟩:=s;simp only at hk;subst hk;simp[l4,qF,kg]at h;obtain⟨h1,rfl,rfl,rfl,rfl,rfl,rfl,rfl,h2⟩:=h;exact⟨rfl,h1,h2⟩
theorem Eg(h:l4 s=true)(hk:s.kind=8\/s.kind=9):s={st0 with kind:=s.kind}:=by
 obtain⟨k,nm,i,x,y,b_,bd,el,ar,ag⟩:=s;simp only at hk
 rcases hk with rfl|rfl
 ·simp[l4,qF,kg]at h;obtain⟨rfl,rfl,rfl,rfl,rfl,rfl,rfl,rfl,rfl⟩:=h;rfl
 ·simp[l4,qF,kg]at h;obtain⟨rfl,rfl,rfl,rfl,rfl,rfl,rfl,rfl,rfl⟩:=h;rfl
theorem yW(h:l4 s=true):s.kind=1\/s.kind=2\/s.kind=3\/s.kind=4\/s.kind=5\/s.kind=6\/s.kind=7\/s.kind=8\/s.kind=9:=by
 unfold l4 qF at h
 by_cases h1:s.kind=1
 ·exact .inl h1
 by_cases h2:s.kind=2
 ·exact .inr (.inl h2)
 by_cases h3:s.kind=3
 ·omega
 by_cases h4:s.kind=4
 ·omega
 by_cases h5:s.kind=5
 ·omega
 by_cases h6:s.kind=6
 ·omega
 by_cases h7:s.kind=7
 ·omega
 by_cases h8:s.kind=8
 ·omega
 by_cases h9:s.kind=9
 ·omega
 rw[if_neg h1,if_neg h2,if_neg h3,if_neg h4,if_neg h5,if_neg h6,if_neg h7,if_neg h8,if_neg h9]at h
 cases h
theorem pz:∀(l:List St)(h:Hd),h.gX=false->h.s.kind≠6->l.foldl jc h={h with s:={h.s with body:=h.s.body++l}}
 |[],h,_,_=>by
  show h={h with s:={h.s with body:=h.s.body++[]}};rw[bm];obtain⟨⟨_,_,_,_,_,_,_,_,_,_⟩,_,_,_,_⟩:=h;rfl
 |s::l,h,h1,h2=>by
  rw[eR]
  have e:jc h s={h with s:={h.s with body:=h.s.body++[s]}}:=by
   unfold jc;rw[if_neg (by rw[h1];decide),if_neg h2]
  rw[e,pz l {h with s:={h.s with body:=h.s.body++[s]}} h1 h2];simp
theorem yX:∀(l:List St)(h:Hd),h.gX=true->l.foldl jc h={h with s:={h.s with els:=h.s.els++l}}
 |[],h,_=>by
  show h={h with s:={h.s with els:=h.s.els++[]}};rw[bm];obtain⟨⟨_,_,_,_,_,_,_,_,_,_⟩,_,_,_,_⟩:=h;rfl
 |s::l,h,h1=>by
  rw[eR]
  have e:jc h s={h with s:={h.s with els:=h.s.els++[s]}}:=by
   unfold jc;rw[if_pos h1]
  rw[e,yX l {h with s:={h.s with els:=h.s.els++[s]}} h1];simp
theorem Ia:∀(l:List St)(h:Hd)(gN:List (List Int×List St))(ls:List Int)(b:List St),h.gX=false->h.s.kind=6->h.s.arms=gN++[(ls,b)]->l.foldl jc h={h with s:={h.s with arms:=gN++[(ls,b++l)]}}
 |[],h,gN,ls,b,_,_,h3=>by
  show h={h with s:={h.s with arms:=gN++[(ls,b++[])]}};rw[bm,<-h3];obtain⟨⟨_,_,_,_,_,_,_,_,_,_⟩,_,_,_,_⟩:=h;rfl
 |s::l,h,gN,ls,b,h1,h2,h3=>by
  rw[eR]
  have e:jc h s={h with s:={h.s with arms:=gN++[(ls,b++[s])]}}:=by
   unfold jc;rw[if_neg (by rw[h1];decide),if_pos h2,h3];simp
  rw[e,Ia l {h with s:={h.s with arms:=gN++[(ls,b++[s])]}} gN ls (b++[s]) h1 h2 rfl];simp
theorem qa{h0:Hd}(hh:r.hs=h0::hs)(hst:(gZ r).1.hs=h::hs):∃lE,gZ r=({r with hs:=h::hs,gY:=lE},.ok ())/\lE.length=r.gY.length+1/\(gZ r).1.gY=lE:=by
 obtain⟨h',lE,e1,e2,_⟩:=Mg r h0 hs hh;rw[e1]at hst
 have:h'=h:=by
  simp only[cZ]at hst;exact hst.1
 subst this;exact⟨lE,e1,e2,by rw[e1]⟩
theorem yY(hr:r.rest=gP ik::q)(hh:r.hs=h::hs):kI s r=({r with rest:=q,hs:=jc h s::hs},.ok ()):=by
 unfold kI;rw[iD (ju (k:=3) (s:=ik) (n:=0) (ty:=0) hr)];unfold K7 iS top;simp only[hh];rfl
theorem Tp{nm:Bs}(h:nameB nm=true):nm≠sr/\nm≠jj/\nm≠iT/\nm≠j7/\nm≠jE/\nm≠kQ/\nm≠js:=by
 refine⟨?_,?_,?_,?_,?_,?_,?_⟩ <;> (rintro rfl;revert h;decide)
theorem yZ{nm:Bs}(h:nameB nm=true):jq nm=bnd kN iP:=by
 obtain⟨k1,k2,k3,k4,k5,k6,k7⟩:=Tp h;unfold jq;rw[if_neg k1,if_neg k2,if_neg k3,if_neg k4,if_neg k5,if_neg k6,if_neg k7]
theorem B8(n:Nat)(s:St)(hb:s.body=[])(he:s.els=[])(ha:s.arms=[]):Dt n s=[]:=by
 obtain⟨k,nm,i,x,y,b_,bd,el,ar,ag⟩:=s;simp only at hb he ha;subst hb he ha;simp[Dt,wL,wA]
theorem YP(s:St)(hk:s.kind=1):oJ s:=by
 intro d r q h0 h hs hm hr hh hst;obtain⟨_,hown,_⟩:=jD hm;obtain⟨hs',hnm,hix,hx⟩:=Tl hown hk;obtain⟨lE,e1,e2,e3⟩:=qa hh hst;obtain⟨k1,k2,k3,k4,k5,k6,k7⟩:=Tp hnm
 have hr':r.rest=gO s.name::((if s.idx.isEmpty then []else gP vT::(jm s.idx++[gP yn]))++gP iZ::(jm s.x++gP ik::q)):=by
  rw[hr]
  conv=>lhs;rw[hs']
  simp[kH]
 have hin:Dt r.gY.length s=[]:=B8 _ _ (by rw[hs'];rfl) (by rw[hs'];rfl) (by rw[hs'];rfl);refine⟨{r with rest:=q,hs:=jc h s::hs,gY:=lE},.step (l5 (by rw[lp hr',hnm];simp) ?_) (.refl _),rfl,rfl,rfl,by rw[e3,hin,bm]⟩;unfold jr;rw[iD e1,hr',show(jW (gO s.name::_)).s=s.name from rfl,yZ hnm];rw[jy (BX (s:=s.name) rfl hnm)];unfold iP
 by_cases hi:s.idx=[]
 ·rw[if_neg (by rw[mA (t:=gP iZ) (q:=jm s.x++gP ik::q) (by simp[hi]) (by decide)];decide)]
  have hidx:xo {r with rest:=gP iZ::(jm s.x++gP ik::q),hs:=h::hs,gY:=lE}=({r with rest:=gP iZ::(jm s.x++gP ik::q),hs:=h::hs,gY:=lE},.ok []):=by
   unfold xo;rw[if_neg (by rw[mA (t:=gP iZ) rfl (by decide)];decide)]
  simp only[hi,List.isEmpty_nil,if_true,bQ];rw[jy hidx,iD (ju (k:=3) (s:=iZ) (n:=0) (ty:=0) rfl),jy (mu (s:=gP ik::q) rfl hx (pj _ _ (by decide))),yY rfl rfl];rw[hi]at hs';rw[<-hs']
 ·have hix':lP s.idx=true:=hix.resolve_left hi
  have hie:s.idx.isEmpty=false:=by cases hq:s.idx with
   |nil=>exact absurd hq hi
   |cons a b=>rfl
  rw[if_neg (by rw[mA (t:=gP vT) (q:=jm s.idx++[gP yn]++gP iZ::(jm s.x++gP ik::q)) (by simp[hie]) (by decide)];decide)]
  have hidx:xo {r with rest:=gP vT::(jm s.idx++gP yn::gP iZ::(jm s.x++gP ik::q)),hs:=h::hs,gY:=lE}=({r with rest:=gP iZ::(jm s.x++gP ik::q),hs:=h::hs,gY:=lE},.ok s.idx):=by
   unfold xo;rw[if_pos (nH (k:=3) (s:=vT) (n:=0) (ty:=0) rfl),iD (ju (k:=3) (s:=vT) (n:=0) (ty:=0) rfl),jy (mu (s:=gP yn::gP iZ::(jm s.x++gP ik::q)) rfl hix' (pj _ _ (by decide))),jy (ju (k:=3) (s:=yn) (n:=0) (ty:=0) rfl)];rfl
  simp only[hie,eX,if_false,bM,aO,bQ];rw[jy hidx,iD (ju (k:=3) (s:=iZ) (n:=0) (ty:=0) rfl),jy (mu (s:=gP ik::q) rfl hx (pj _ _ (by decide))),yY rfl rfl];rw[<-hs']
theorem args_at:∀(l:List (Bs×List Pt))(f:Nat)(acc:List (Bs×List Pt))(r:Rs)(q:List Tk),l≠[]->l.all rU=true->r.rest=ou l++gP grp::q->l.length<=f->acc.length+l.length<=8->lI f acc r=({r with rest:=gP grp::q},.ok (acc++l))
 |[a],f+1,acc,r,q,_,ho,hr,hf,h8=>by
  simp only[cN,List.all_nil,Bool.and_true,rU,aH]at ho;rw[lI,jy (Gc (s:=a.1) (q:=gP iZ::(jm a.2++gP grp::q)) (by rw[hr];simp[ou])),iD (ju (k:=3) (s:=iZ) (n:=0) (ty:=0) rfl),jy (mu (s:=gP grp::q) rfl ho.2 (pj _ _ (by decide)))];simp only[aG,eY]at h8
  have hl:jZ (acc.length+1) 8 {r with rest:=gP grp::q}=({r with rest:=gP grp::q},.ok ()):=by
   unfold jZ;simp only[decide_eq_false (show ¬8<acc.length+1 by omega),eo]
  rw[iD hl,if_neg (by rw[mA (t:=gP grp) rfl (by decide)];decide)]
 |a::b::l,f+1,acc,r,q,_,ho,hr,hf,h8=>by
  have ho':=ho;rw[cN,aH,rU,aH]at ho;rw[lI,jy (Gc (s:=a.1) (q:=gP iZ::(jm a.2++gP ja::(ou (b::l)++gP grp::q))) (by rw[hr];simp[ou])),iD (ju (k:=3) (s:=iZ) (n:=0) (ty:=0) rfl),jy (mu (s:=gP ja::(ou (b::l)++gP grp::q)) rfl ho.1.2 (pj _ _ (by decide)))];simp only[aG]at h8 hf
  have hl:jZ (acc.length+1) 8 {r with rest:=gP ja::(ou (b::l)++gP grp::q)}=({r with rest:=gP ja::(ou (b::l)++gP grp::q)},.ok ()):=by
   unfold jZ;simp only[decide_eq_false (show ¬8<acc.length+1 by omega),eo]
  rw[iD hl,if_pos (nH (k:=3) (s:=ja) (n:=0) (ty:=0) rfl)];rw[args_at (b::l) f (acc++[(a.1,a.2)]) _ q (by simp) ho.2 (by unfold jF;rfl) (by simp only[aG];omega) (by simp only[ao,aG,eY];omega)];unfold jF;simp
theorem YQ(s:St)(hk:s.kind=7):oJ s:=by
 intro d r q h0 h hs hm hr hh hst;obtain⟨_,hown,_⟩:=jD hm;obtain⟨hs',hnm,hag⟩:=To hown hk;obtain⟨lE,e1,e2,e3⟩:=qa hh hst;obtain⟨k1,k2,k3,k4,k5,k6,k7⟩:=Tp hnm
 have hr':r.rest=gO s.name::gP tr::(ou s.args++gP grp::gP ik::q):=by
  rw[hr]
  conv=>lhs;rw[hs']
  simp[kH]
 have hin:Dt r.gY.length s=[]:=B8 _ _ (by rw[hs'];rfl) (by rw[hs'];rfl) (by rw[hs'];rfl);refine⟨{r with rest:=q,hs:=jc h s::hs,gY:=lE},.step (l5 (by rw[lp hr',hnm];simp) ?_) (.refl _),rfl,rfl,rfl,by rw[e3,hin,bm]⟩;unfold jr;rw[iD e1,hr',show(jW (gO s.name::_)).s=s.name from rfl,yZ hnm];rw[jy (BX (s:=s.name) rfl hnm)];unfold iP;rw[if_pos (nH (k:=3) (s:=tr) (n:=0) (ty:=0) rfl),iD (ju (k:=3) (s:=tr) (n:=0) (ty:=0) rfl)]
 have hargs:kD {r with rest:=ou s.args++gP grp::gP ik::q,hs:=h::hs,gY:=lE}=({r with rest:=gP grp::gP ik::q,hs:=h::hs,gY:=lE},.ok s.args):=by
  unfold kD;unfold l9 at hag;rw[aH,decide_eq_true_eq]at hag
  by_cases ha:s.args=[]
  ·rw[if_pos (nH (k:=3) (s:=grp) (n:=0) (ty:=0) (q:=gP ik::q) (by simp[ha,ou];rfl))];simp[ha,ou]
  ·have hw:∃nm l,ou s.args++gP grp::gP ik::q=gO nm::l:=by
    cases hq:s.args with
    |nil=>exact absurd hq ha
    |cons a l=>cases l with
     |nil=>exact⟨_,_,rfl⟩
     |cons b l=>exact⟨_,_,rfl⟩
   obtain⟨nm,l,hw⟩:=hw;rw[if_neg (by rw[mA (t:=gO nm) (q:=l) hw rfl];decide)]
   rw[args_at s.args _ [] _ (gP ik::q) ha hag.2 rfl (by
    simp only[ao]
    have:∀l:List (Bs×List Pt),l.length<=(ou l).length:=fun l=>by
     induction l with
     |nil=>exact aj _
     |cons a l ih=>cases l with
      |nil=>simp[ou]
      |cons b l=>simp only[ou,aG,ao]at ih ⊢;omega
    have:=this s.args
    omega) (by simp;omega)]
   rfl
 rw[jy hargs,iD (ju (k:=3) (s:=grp) (n:=0) (ty:=0) rfl),yY rfl rfl];rw[<-hs']
theorem RP(s:St)(hk:s.kind=8\/s.kind=9):oJ s:=by
 intro d r q h0 h hs hm hr hh hst;obtain⟨_,hown,_⟩:=jD hm;have hs':=Eg hown hk;obtain⟨lE,e1,e2,e3⟩:=qa hh hst;have hin:Dt r.gY.length s=[]:=B8 _ _ (by rw[hs'];rfl) (by rw[hs'];rfl) (by rw[hs'];rfl)
 rcases hk with hk|hk
 ·have hr':r.rest=gO kQ::gP ik::q:=by
   rw[hr]
   conv=>lhs;rw[hs',hk]
   simp[kH]
  refine⟨{r with rest:=q,hs:=jc h s::hs,gY:=lE},.step (l5 (by rw[lp hr'];decide) ?_) (.refl _),rfl,rfl,rfl,by rw[e3,hin,bm]⟩;unfold jr;rw[iD e1,hr',show(jW (gO kQ::_)).s=kQ from rfl,show jq kQ=thn (gU kQ) (kI {st0 with kind:=8})from rfl];rw[iD (ju (k:=1) (s:=kQ) (n:=0) (ty:=0) rfl),yY rfl rfl];rw[hk]at hs';rw[<-hs']
 ·have hr':r.rest=gO js::gP ik::q:=by
   rw[hr]
   conv=>lhs;rw[hs',hk]
   simp[kH]
  refine⟨{r with rest:=q,hs:=jc h s::hs,gY:=lE},.step (l5 (by rw[lp hr'];decide) ?_) (.refl _),rfl,rfl,rfl,by rw[e3,hin,bm]⟩;unfold jr;rw[iD e1,hr',show(jW (gO js::_)).s=js from rfl,show jq js=thn (gU js) (kI {st0 with kind:=9})from rfl];rw[iD (ju (k:=1) (s:=js) (n:=0) (ty:=0) rfl),yY rfl rfl];rw[hk]at hs';rw[<-hs']
abbrev Pw(B R:Nat):Nat->Prop:=fun b=>b<B/\b≠R
variable {B:Nat}{R:Nat}
theorem On.iW(h:iH B R w w'):On (Pw B R) (Pw B R) w w':=fun b hb _=>⟨hb,h.block b hb.1 hb.2⟩
theorem TabAt.iW{t:List Value}(h:TabAt w b t)(hk:iH B R w w')(h1:b<B)(h2:b≠R):TabAt w' b t:=fun k v e=>(World.cell?_of_block (hk.block b h1 h2)).trans (h k v e)
theorem kZ.iW(h:kZ w)(hk:iH B R w w')(hR:13<R)(hB:R<B):kZ w':=
 ⟨h.conv.iW hk (by omega) (by omega),h.ops.iW hk (by omega) (by omega),h.kw.iW hk (by omega) (by omega),h.base.iW hk (by omega) (by omega),h.sign.iW hk (by omega) (by omega),h.span.iW hk (by omega) (by omega),h.ty.iW hk (by omega) (by omega),h.most.imp fun _ e=>(World.cell?_of_block (hk.block 9 (by omega) (by omega))).trans e,h.unit.iW hk (by omega) (by omega)⟩
structure SV(B R:Nat)(w:World)(s:St)(nv:ByteArray)(iv xv yv bv ev av gv:Value):Prop where
 nm:nv.data.toList=s.name
 idx:mg w (Pw B R) s.idx iv
 x:mg w (Pw B R) s.x xv
 y:mg w (Pw B R) s.y yv
 body:lk w (Pw B R) s.body bv
 els:lk w (Pw B R) s.els ev
 arms:DL w (Pw B R) s.arms av
 args:BR w (Pw B R) s.args gv
theorem SV.keep{iv xv yv bv ev av gv:Value}(h:SV B R w s nv iv xv yv bv ev av gv)(hk:iH B R w w'):SV B R w' s nv iv xv yv bv ev av gv:=
 ⟨h.nm,h.idx.on (On.iW hk),h.x.on (On.iW hk),h.y.on (On.iW hk),h.body.on (On.iW hk),h.els.on (On.iW hk),h.arms.on (On.iW hk),h.args.on (On.iW hk)⟩
theorem mg.any(h:mg w (Pw B R) x v):mg w Tt x v:=h.on (On.any w)
theorem sZ{s:Bs}(h:nv.data.toList=s)(hs:kC s=true):nv.size<=140737488355000:=by
 have hl:s.length<=24:=by
  unfold kC at hs
  match s,hs with
  |c::r,hs=>
   rw[aH,decide_eq_true_eq]at hs;exact hs.1
 have:nv.size=s.length:=by rw[<-h,Array.length_toList];rfl
 omega
theorem wg{s:Bs}(h:nameB s=true):kC s=true:=by
 unfold nameB at h;rw[aH]at h;exact h.2
def Wrote(B R:Nat)(L T:List Tk)(w:World):Ending->World->Prop:=fun e w'=>e=.returned (.tuple #[])/\WS B R (L++T) w'/\iH B R w w'
def Eh(m:Nat):Prop:=∀(B R d:Nat)(L:List Tk)(l:List St)(v:Value)(w:World),iw l<=m->jO d l=true->13<R->WS B R L w->lk w (Pw B R) l v->kZ w->L.length+(iV l).length<=900000000->Calls ah 30 #[.pointer (some ⟨R,0,none⟩),v] w (Wrote B R L (iV l) w)
theorem rD{P:Program}{ops:Array Oper}{o:Oper}{a:Act}{K:Act->World->Prop}{Q:Exit->Act->World->Prop}{E:Prop}(hgd:o.guard=none)(f:FuncId)(x y:Operand)(t s:TypeId)(u v:Value)
  (ho:o.op=.call {callee:=.value (.func f),args:=#[x,y],argTypes:=#[t,s]}) (hx:a.eval x=u) (hy:a.eval y=v) (hf:∀W,(callFunc f #[u,v]).run P W=.ok (.enter f #[u,v]) W) (h:Calls P f #[u,v] w fun e w'=>∃r,e=.returned r/\K (a.put o.dst r) w'):
  if cM o (yielded ops a.tmps)=true then Oper.wp P o a w K Q else E:=by
 have hw:cM o (yielded ops a.tmps)=true:=by simp[cM,hgd]
 rw[if_pos hw];unfold Oper.wp;have he:a.eval (.func f)=.func (.func f) #[] #[]:=rfl
 have hrun:(execOp a.eval o).run P w=.ok (.enter f #[u,v]) w:=by
  unfold execOp;simp only[ho,resolve,invoke,he,hx,hy,Sem.run_bind,List.map_toArray,bL,List.map_nil,Deferred.ofValue]
  simpa using hf w
 rw[hrun];refine h.mono ?_;rintro e w' ⟨v,rfl,hv⟩;exact hv
variable {fa:Int}{fc:Int}{dp:Int}{mn:Bool}{hv:Value}{sv:Value}{at_:Nat}{toks:List Tv}{tv:Value}
theorem RB.fault(h:RB B R tv toks at_ hv sv mn fa fc dp w)(a c:Int)(hw:w'=(w.setCell ⟨R,5,none⟩ (.int .i64 a)).setCell ⟨R,6,none⟩ (.int .i64 c)):RB B R tv toks at_ hv sv mn a c dp w'/\gR [R] w w':=by
 subst hw;have hk:gR [R] w ((w.setCell ⟨R,5,none⟩ (.int .i64 a)).setCell ⟨R,6,none⟩ (.int .i64 c)):=((gR.refl [R] w).setCell (p:=⟨R,5,none⟩) (.inl (by simp)) _).setCell (p:=⟨R,6,none⟩) (.inl (by simp)) _;have hr:=h.row;unfold mb at hr;refine⟨⟨h.hB,h.here,?_,h.tk.keep hk (by simp[h.hB])⟩,hk⟩;rw[F4 (F4 hr _)];unfold mb;simp
def sG(B R T j t:Nat)(cs:Array Value)(tv:Value)(toks:List Tv)(at_:Nat)(hv sv:Value)(mn:Bool)(fa fc dp:Int)(t1:Addr)(w:World)(e:Ending)(w':World):Prop:=
 match parse (lst toks at_)with
 | .ok (x,q)=>∃pv xs,e=.returned .nilIface/\xs.map kO=x/\w'.ownsRow w.heap.size 42 5 pv xs.length (oE xs)/\Put B R T j t cs pv tv toks (toks.length-q.length) hv sv mn fa fc dp w w'
 | .error (k,c)=>e=.returned (ln t1)/\RB B R tv toks at_ hv sv mn ((toks.length-k:Nat):Int) c dp w'/\gR [R] w w'
theorem Ib{wc:World}(h:Below w.heap.size w wc)(o:Obj):Below w.heap.size w (wc.alloc o)/\(wc.alloc o).heap[wc.heap.size]? =some o:=⟨h.alloc h.size o,aE wc o⟩
theorem Ic{wc:World}{t:TypeId}{x y:Value}(h:Below w.heap.size w wc)(pb:wc.heap[w.heap.size]? =some (.cells #[x,y] t))(u v:Value):Below w.heap.size w ((wc.setCell ⟨w.heap.size,0,none⟩ u).setCell ⟨w.heap.size,1,none⟩ v)/\((wc.setCell ⟨w.heap.size,0,none⟩ u).setCell ⟨w.heap.size,1,none⟩ v).heap[w.heap.size]? =some (.cells #[u,v] t):=by
 refine⟨(h.setCell (p:=⟨w.heap.size,0,none⟩) (aj _) u).setCell (p:=⟨w.heap.size,1,none⟩) (aj _) v,?_⟩;rw[pP (pP pb _)];simp
variable {cs:Array Value}{t1:Addr}{T:Nat}{j:Nat}{t:Nat}{m:Nat}{b1:Nat}{b2:Nat}
theorem nZ(h:RB B R tv toks at_ hv sv mn fa fc dp w)(hl:toks.length<=3000000000000)(hs:∀i,(gQ toks i).s.size<=140737488355000)(hc:nW R T j 144 m b1 b2 w)(he:w.cell? ⟨1,0,none⟩=some (ln t1))(hg:kZ w)(hT:w.heap[T]? =some (.cells cs t))(hj:j<cs.size)(hTR:T≠R)(hTB:B<=T)(hTm:T<m)(hB1:1<B):
  Calls ah 143 #[.pointer (some ⟨b1,0,none⟩),.pointer (some ⟨b2,0,none⟩)] w (sG B R T j t cs tv toks at_ hv sv mn fa fc dp t1 w):=by
 have CP:qes (∀W,Below w.heap.size w W->Calls ah 144 #[tv,.int .i64 (at_:Int)] W (wa toks at_ W)):=fun W hW=>parse_any tv toks at_ W h.here hl hs (h.tk.lst.below hW (aj _)) (hg.below hW hg.lt)
 have HH:=qet h;have d1:w.cell? ⟨b1,0,none⟩=some (.pointer (some ⟨R,0,none⟩)):=by rw[af hc.h1];rfl
 have d2:w.cell? ⟨b2,0,none⟩=some (.pointer (some ⟨T,j,none⟩)):=by rw[af hc.h2];rfl
 have l1:=lt_of_heap hc.h1;have l2:=lt_of_heap hc.h2;have lm:=hc.l1;have lm2:=hc.l2;have l0:1<w.heap.size:=World.block_lt_of_cell? w ⟨1,0,none⟩ he;have lT:=lt_of_heap hT;have HT:=qet hT;have HE:=qet he;have hr:=h.row;unfold mb at hr;have Hw:=lt_of_heap hr;have HR:=qet hr;have hR1:1≠R:=by have:=h.hB;omega
 obtain⟨ta,tb,VP,Am,sA,_⟩:=h.tk;subst sA;have a0:w.cell? ⟨R,0,none⟩=some (.slice ta toks.length Am):=by rw[af hr];rfl
 have a1:w.cell? ⟨R,1,none⟩=some (.int .i64 (at_:Int)):=by rw[af hr];rfl
 have e0:∀o,(w.alloc o).cell? ⟨R,0,none⟩=some (.slice ta toks.length Am):=fun o=>(World.cell?_alloc_lt _ _ _ Hw).trans a0
 have e1:∀o,(w.alloc o).cell? ⟨R,1,none⟩=some (.int .i64 (at_:Int)):=fun o=>(World.cell?_alloc_lt _ _ _ Hw).trans a1
 have e2:∀o,(w.alloc o).cell? ⟨b1,0,none⟩=some (.pointer (some ⟨R,0,none⟩)):=fun o=>(World.cell?_alloc_lt _ _ _ l1).trans d1
 have SC:qes (∀W,(callFunc 144 #[.slice ta toks.length Am,.int .i64 (at_:Int)]).run ah W=.ok (.enter 144 #[.slice ta toks.length Am,.int .i64 (at_:Int)]) W):=by show ∀_,_;intro W;simp[go_sem]
 clear hc h hr hT hs he hg;unfold wa at CP;unfold sG
 cases hp:parse (lst toks at_)with
 |error z=>
  obtain⟨k,c⟩:=z;rw[hp]at CP;simp only at CP ⊢;have hc0:=yT hp;have i1:(c==0)=false:=by rw[beq_eq_false_iff_ne];exact hc0
  clear hp hc0;go_enter Tryz.func143,Tryz.ntmps143;go_wp2
  go_region_law (first
   |(refine rD rfl 144 _ _ _ _ (.slice ta toks.length Am) (.int .i64 (at_:Int)) rfl rfl rfl SC.o ?_;refine(CP.o _ (((aw w.heap.size w).drew).alloc (aj _) (.cells #[.int .i64 0,.int .i64 0] 27))).mono ?_;rintro e wc ⟨hbc,rfl⟩;refine⟨_,rfl,?_⟩;have pb:wc.heap[w.heap.size]? =some (.cells #[.int .i64 0,.int .i64 0] 27):=(hbc.block w.heap.size (by simp)).trans (aE w _);have p0:wc.cell? ⟨w.heap.size,0,none⟩=some (.int .i64 0):=(by rw[af pb];rfl);have p1:wc.cell? ⟨w.heap.size,1,none⟩=some (.int .i64 0):=(by rw[af pb];rfl);have g0:wc.frozen? ⟨w.heap.size,0,none⟩=false:=aC pb 0;have g1:wc.frozen? ⟨w.heap.size,1,none⟩=false:=aC pb 1;have H8:=qet ((((aw w.heap.size w).drew).alloc (aj _) (.cells #[.int .i64 0,.int .i64 0] 27)).trans (hbc.mono (by simp)));have za:=qet pb;clear hbc pb)
   |(refine rD rfl 144 _ _ _ _ (.slice ta toks.length Am) (.int .i64 (at_:Int)) rfl rfl rfl SC.o ?_;refine(CP.o _ ((aw w.heap.size w).drew)).mono ?_;rintro e wc ⟨hbc,rfl⟩;refine⟨_,rfl,?_⟩;have H8:=qet (((aw w.heap.size w).drew).trans hbc);clear hbc))
  all_goals
   clear e0 e1 e2 a0 a1 SC CP
   first
    |(focus
     obtain⟨hB2,hX2⟩:=Ic H8.o za.o (.int .i64 ((toks.length-k:Nat):Int)) (.int .i64 c);clear p0 p1 g0 g1 za;generalize((wc.setCell ⟨w.heap.size,0,none⟩ (.int .i64 ((toks.length-k:Nat):Int))).setCell ⟨w.heap.size,1,none⟩ (.int .i64 c))=w2 at *;have x0:w2.cell? ⟨w.heap.size,0,none⟩=some (.int .i64 ((toks.length-k:Nat):Int)):=by rw[af hX2];rfl
     have x1:w2.cell? ⟨w.heap.size,1,none⟩=some (.int .i64 c):=by rw[af hX2];rfl
     have HB2:=qet hB2;have y1:w2.cell? ⟨b1,0,none⟩=some (.pointer (some ⟨R,0,none⟩)):=(World.cell?_of_block (hB2.block b1 l1)).trans d1;have y2:w2.cell? ⟨b2,0,none⟩=some (.pointer (some ⟨T,j,none⟩)):=(World.cell?_of_block (hB2.block b2 l2)).trans d2;have hR2:w2.heap[R]? =_:=(hB2.block R Hw).trans HR.o;have HR2:=qet hR2;have y0:w2.cell? ⟨1,0,none⟩=some (ln t1):=(World.cell?_of_block (hB2.block 1 l0)).trans HE.o;have z5:w2.cell? ⟨R,5,none⟩=some (.int .i64 fa):=by rw[af hR2];rfl
     have z6:w2.cell? ⟨R,6,none⟩=some (.int .i64 fc):=by rw[af hR2];rfl
     have f5:w2.frozen? ⟨R,5,none⟩=false:=aC hR2 5;have f6:w2.frozen? ⟨R,6,none⟩=false:=aC hR2 6;have s0:∀u v,((w2.setCell ⟨R,5,none⟩ u).setCell ⟨R,6,none⟩ v).cell? ⟨1,0,none⟩=some (ln t1):=fun u v=>(World.cell?_of_block ((aM _ ⟨R,6,none⟩ v 1 hR1).trans (aM w2 ⟨R,5,none⟩ u 1 hR1))).trans y0
     clear hB2 hX2 hR2 d1 d2;go_wp2;go_ret;obtain⟨q1,q2⟩:=(HH.o.below HB2.o).fault ((toks.length-k:Nat):Int) c rfl;exact⟨rfl,q1,(gR.of_below HB2.o).trans q2⟩
     done)
    |(focus
     obtain⟨hB2,hX2⟩:=Ib H8.o (.cells #[.int .i64 ((toks.length-k:Nat):Int),.int .i64 c] 27);generalize wc.alloc (.cells #[.int .i64 ((toks.length-k:Nat):Int),.int .i64 c] 27)=w2 at *;have x0:w2.cell? ⟨wc.heap.size,0,none⟩=some (.int .i64 ((toks.length-k:Nat):Int)):=by rw[af hX2];rfl
     have x1:w2.cell? ⟨wc.heap.size,1,none⟩=some (.int .i64 c):=by rw[af hX2];rfl
     have HB2:=qet hB2;have y1:w2.cell? ⟨b1,0,none⟩=some (.pointer (some ⟨R,0,none⟩)):=(World.cell?_of_block (hB2.block b1 l1)).trans d1;have y2:w2.cell? ⟨b2,0,none⟩=some (.pointer (some ⟨T,j,none⟩)):=(World.cell?_of_block (hB2.block b2 l2)).trans d2;have hR2:w2.heap[R]? =_:=(hB2.block R Hw).trans HR.o;have HR2:=qet hR2;have y0:w2.cell? ⟨1,0,none⟩=some (ln t1):=(World.cell?_of_block (hB2.block 1 l0)).trans HE.o;have z5:w2.cell? ⟨R,5,none⟩=some (.int .i64 fa):=by rw[af hR2];rfl
     have z6:w2.cell? ⟨R,6,none⟩=some (.int .i64 fc):=by rw[af hR2];rfl
     have f5:w2.frozen? ⟨R,5,none⟩=false:=aC hR2 5;have f6:w2.frozen? ⟨R,6,none⟩=false:=aC hR2 6;have s0:∀u v,((w2.setCell ⟨R,5,none⟩ u).setCell ⟨R,6,none⟩ v).cell? ⟨1,0,none⟩=some (ln t1):=fun u v=>(World.cell?_of_block ((aM _ ⟨R,6,none⟩ v 1 hR1).trans (aM w2 ⟨R,5,none⟩ u 1 hR1))).trans y0
     clear hB2 hX2 hR2 d1 d2;go_wp2;go_ret;obtain⟨q1,q2⟩:=(HH.o.below HB2.o).fault ((toks.length-k:Nat):Int) c rfl;exact⟨rfl,q1,(gR.of_below HB2.o).trans q2⟩
     done)
 |ok z=>
  obtain⟨x,q⟩:=z;rw[hp]at CP;simp only at CP ⊢;clear hp;have nT:b1≠T:=by omega
  have nR:R≠T:=fun e=>hTR e.symm
  go_enter Tryz.func143,Tryz.ntmps143;go_wp2
  go_region_law (first
   |(refine rD rfl 144 _ _ _ _ (.slice ta toks.length Am) (.int .i64 (at_:Int)) rfl rfl rfl SC.o ?_;refine(CP.o _ (((aw w.heap.size w).drew).alloc (aj _) (.cells #[.int .i64 0,.int .i64 0] 27))).mono ?_;rintro e wc ⟨hbc,pv,xs,hxs,rfl,hown⟩;obtain⟨pa,pn,pc,hpv⟩:=BZ hown;subst hpv;refine⟨_,rfl,?_⟩;have F5:=qet hxs;have pb:wc.heap[w.heap.size]? =some (.cells #[.int .i64 0,.int .i64 0] 27):=(hbc.block w.heap.size (by simp)).trans (aE w _);have p0:wc.cell? ⟨w.heap.size,0,none⟩=some (.int .i64 0):=(by rw[af pb];rfl);have p1:wc.cell? ⟨w.heap.size,1,none⟩=some (.int .i64 0):=(by rw[af pb];rfl);have g0:wc.frozen? ⟨w.heap.size,0,none⟩=false:=aC pb 0;have g1:wc.frozen? ⟨w.heap.size,1,none⟩=false:=aC pb 1;have H8:=qet ((((aw w.heap.size w).drew).alloc (aj _) (.cells #[.int .i64 0,.int .i64 0] 27)).trans (hbc.mono (by simp)));have za:=qet pb;have HOW:qes (wc.ownsRow (w.heap.size+1) 42 5 (.slice pa pn pc) xs.length (oE xs)):=own_base hown (by simp);clear hbc pb hown hxs)
   |(refine rD rfl 144 _ _ _ _ (.slice ta toks.length Am) (.int .i64 (at_:Int)) rfl rfl rfl SC.o ?_;refine(CP.o _ ((aw w.heap.size w).drew)).mono ?_;rintro e wc ⟨hbc,pv,xs,hxs,rfl,hown⟩;obtain⟨pa,pn,pc,hpv⟩:=BZ hown;subst hpv;refine⟨_,rfl,?_⟩;have F5:=qet hxs;have H8:=qet (((aw w.heap.size w).drew).trans hbc);have HOW:qes (wc.ownsRow w.heap.size 42 5 (.slice pa pn pc) xs.length (oE xs)):=own_base hown (aj _);clear hbc hown hxs))
  all_goals
   clear e0 e1 e2 a0 a1 SC CP
   first
    |(focus
     have YR:=qet (own_base (bC (bC HOW.o (a:=⟨w.heap.size,0,none⟩) (fx _) (.int .i64 0)) (a:=⟨w.heap.size,1,none⟩) (fx _) (.int .i64 0)) (dr w.heap.size));obtain⟨hB2,hX2⟩:=Ic H8.o za.o (.int .i64 0) (.int .i64 0);clear p0 p1 g0 g1 za HOW;generalize((wc.setCell ⟨w.heap.size,0,none⟩ (.int .i64 0)).setCell ⟨w.heap.size,1,none⟩ (.int .i64 0))=w2 at *;have x0:w2.cell? ⟨w.heap.size,0,none⟩=some (.int .i64 0):=by rw[af hX2];rfl
     have x1:w2.cell? ⟨w.heap.size,1,none⟩=some (.int .i64 0):=by rw[af hX2];rfl
     have HB2:=qet hB2;have y1:w2.cell? ⟨b1,0,none⟩=some (.pointer (some ⟨R,0,none⟩)):=(World.cell?_of_block (hB2.block b1 l1)).trans d1;have y2:w2.cell? ⟨b2,0,none⟩=some (.pointer (some ⟨T,j,none⟩)):=(World.cell?_of_block (hB2.block b2 l2)).trans d2;have hR2:w2.heap[R]? =_:=(hB2.block R Hw).trans HR.o;have hT2:w2.heap[T]? =some (.cells cs t):=(hB2.block T lT).trans HT.o;have HT2:=qet hT2;have z0:w2.cell? ⟨T,j,none⟩=some cs[j]:=by rw[af hT2];exact Array.getElem?_eq_getElem hj
     have f0:w2.frozen? ⟨T,j,none⟩=false:=aC hT2 j;have s1:∀u,(w2.setCell ⟨T,j,none⟩ u).cell? ⟨b1,0,none⟩=some (.pointer (some ⟨R,0,none⟩)):=fun u=>(World.cell?_of_block (aM w2 ⟨T,j,none⟩ u b1 nT)).trans y1
     have s2:∀u,(w2.setCell ⟨T,j,none⟩ u).heap[R]? =_:=fun u=>(aM w2 ⟨T,j,none⟩ u R nR).trans hR2
     have s3:∀u,(w2.setCell ⟨T,j,none⟩ u).cell? ⟨R,1,none⟩=some (.int .i64 (at_:Int)):=fun u=>by rw[af (s2 u)];rfl
     have s4:∀u,(w2.setCell ⟨T,j,none⟩ u).frozen? ⟨R,1,none⟩=false:=fun u=>aC (s2 u) 1
     clear hB2 hX2 hR2 hT2 s2 d1 d2;go_wp2;go_ret;refine⟨.slice pa pn pc,xs,rfl,F5.o,?_,Put.of (HH.o.below HB2.o) (gR.of_below HB2.o) HT2.o hTR hTB (Nat.sub_le _ _)⟩;exact bC (bC YR.o (a:=⟨T,j,none⟩) lT _) (a:=⟨R,1,none⟩) Hw _
     done)
    |(focus
     have YR:=qet (HOW.o.alloc (.cells #[.int .i64 0,.int .i64 0] 27));obtain⟨hB2,hX2⟩:=Ib H8.o (.cells #[.int .i64 0,.int .i64 0] 27);clear HOW;generalize wc.alloc (.cells #[.int .i64 0,.int .i64 0] 27)=w2 at *;have x0:w2.cell? ⟨wc.heap.size,0,none⟩=some (.int .i64 0):=by rw[af hX2];rfl
     have x1:w2.cell? ⟨wc.heap.size,1,none⟩=some (.int .i64 0):=by rw[af hX2];rfl
     have HB2:=qet hB2;have y1:w2.cell? ⟨b1,0,none⟩=some (.pointer (some ⟨R,0,none⟩)):=(World.cell?_of_block (hB2.block b1 l1)).trans d1;have y2:w2.cell? ⟨b2,0,none⟩=some (.pointer (some ⟨T,j,none⟩)):=(World.cell?_of_block (hB2.block b2 l2)).trans d2;have hR2:w2.heap[R]? =_:=(hB2.block R Hw).trans HR.o;have hT2:w2.heap[T]? =some (.cells cs t):=(hB2.block T lT).trans HT.o;have HT2:=qet hT2;have z0:w2.cell? ⟨T,j,none⟩=some cs[j]:=by rw[af hT2];exact Array.getElem?_eq_getElem hj
     have f0:w2.frozen? ⟨T,j,none⟩=false:=aC hT2 j;have s1:∀u,(w2.setCell ⟨T,j,none⟩ u).cell? ⟨b1,0,none⟩=some (.pointer (some ⟨R,0,none⟩)):=fun u=>(World.cell?_of_block (aM w2 ⟨T,j,none⟩ u b1 nT)).trans y1
     have s2:∀u,(w2.setCell ⟨T,j,none⟩ u).heap[R]? =_:=fun u=>(aM w2 ⟨T,j,none⟩ u R nR).trans hR2
     have s3:∀u,(w2.setCell ⟨T,j,none⟩ u).cell? ⟨R,1,none⟩=some (.int .i64 (at_:Int)):=fun u=>by rw[af (s2 u)];rfl
     have s4:∀u,(w2.setCell ⟨T,j,none⟩ u).frozen? ⟨R,1,none⟩=false:=fun u=>aC (s2 u) 1
     clear hB2 hX2 hR2 hT2 s2 d1 d2;go_wp2;go_ret;refine⟨.slice pa pn pc,xs,rfl,F5.o,?_,Put.of (HH.o.below HB2.o) (gR.of_below HB2.o) HT2.o hTR hTB (Nat.sub_le _ _)⟩;exact bC (bC YR.o (a:=⟨T,j,none⟩) lT _) (a:=⟨R,1,none⟩) Hw _
     done)
structure zd(R T j:Nat)(st:Bool)(m b1 b2 b3:Nat)(w:World):Prop where
 l1:m<=b1
 l2:m<=b2
 l3:m<=b3
 h1:w.heap[b1]? =some (.cells #[.pointer (some ⟨R,0,none⟩)] 55)
 h2:w.heap[b2]? =some (.cells #[.bool st] 4)
 h3:w.heap[b3]? =some (.cells #[.pointer (some ⟨T,j,none⟩)] 150)
variable {O:List Nat}{st:Bool}
theorem zd.keep{b3:Nat}(h:zd R T j st m b1 b2 b3 w)(hk:gR O w w')(hO:∀k,k∈O->k<m):zd R T j st m b1 b2 b3 w':=
 ⟨h.l1,h.l2,h.l3,(hk.block _ (lt_of_heap h.h1) (fun e=>by have:=hO _ e;have:=h.l1;omega)).trans h.h1,(hk.block _ (lt_of_heap h.h2) (fun e=>by have:=hO _ e;have:=h.l2;omega)).trans h.h2,(hk.block _ (lt_of_heap h.h3) (fun e=>by have:=hO _ e;have:=h.l3;omega)).trans h.h3⟩
abbrev RQ(b1 b2 b3:Nat):Value:=.func (.func 180) #[] #[.pointer (some ⟨b1,0,none⟩),.pointer (some ⟨b2,0,none⟩),.pointer (some ⟨b3,0,none⟩)]
def xJ(R T j:Nat)(st:Bool)(w:World)(e:Ending)(w':World):Prop:=∃b1 b2 b3,e=.returned (RQ b1 b2 b3)/\zd R T j st w.heap.size b1 b2 b3 w'/\Below w.heap.size w w'
theorem wU(R T j:Nat)(st:Bool)(w:World):Calls ah 149 #[.pointer (some ⟨R,0,none⟩),.pointer (some ⟨T,j,none⟩),.bool st] w (xJ R T j st w):=by
 obtain⟨a1,a2,a3⟩:=Lv w (.cells #[.pointer (some ⟨R,0,none⟩)] 55) (.cells #[.pointer (some ⟨T,j,none⟩)] 150) (.cells #[.bool st] 4);have HA:qes (zd R T j st w.heap.size w.heap.size (w.heap.size+1+1) (w.heap.size+1) (((w.alloc (.cells #[.pointer (some ⟨R,0,none⟩)] 55)).alloc (.cells #[.pointer (some ⟨T,j,none⟩)] 150)).alloc (.cells #[.bool st] 4))):=⟨by omega,by omega,by omega,a1,a3,a2⟩
 have HB:=qet ((((aw w.heap.size w).alloc (aj _) (.cells #[.pointer (some ⟨R,0,none⟩)] 55)).alloc (by simp) (.cells #[.pointer (some ⟨T,j,none⟩)] 150)).alloc (by simp;omega) (.cells #[.bool st] 4));clear a1 a2 a3;unfold xJ;go_enter Tryz.func149,Tryz.ntmps149;go_wp2;go_ret;exact⟨_,_,_,rfl,HA.o,HB.o⟩
def nP(st mi:Bool)(x:Tv):Bool:=decide (x.k=2/\x.t=0/\¬ (st=true/\x.n=0))&&jk (if mi then -x.n else x.n)
theorem ze{mi:Bool}{x:Tv}(h:¬ (x.k=2/\x.t=0/\¬ (st=true/\x.n=0))):nP st mi x=false:=by
 unfold nP;rw[decide_eq_false h,fj]
theorem wh{mi:Bool}{x:Tv}(h:x.k=2/\x.t=0/\¬ (st=true/\x.n=0)):nP st mi x=jk (if mi then -x.n else x.n):=by
 unfold nP;rw[decide_eq_true h,fu]
def iu(toks:List Tv)(at_:Nat):Bool:=decide ((gQ toks at_).k=3/\(gQ toks at_).s=⟨#[45]⟩)
def Ie(B R T j t:Nat)(cs:Array Value)(st:Bool)(tv:Value)(toks:List Tv)(hv sv:Value)(mn:Bool)(fa fc dp:Int)(t0:Addr)(w:World)(mi:Bool)(a1:Nat)(e:Ending)(w':World):Prop:=
 (nP st mi (gQ toks a1)=true/\e=.returned .nilIface/\Put B R T j t cs (.int .i64 (if mi then -(gQ toks a1).n else(gQ toks a1).n)) tv toks (a1+1) hv sv mn fa fc dp w w')\/(nP st mi (gQ toks a1)=false/\e=.returned (ln t0)/\RB B R tv toks a1 hv sv mn fa fc dp w'/\gR [R] w w')
variable {t0:Addr}
theorem wV(h:RB B R tv toks at_ hv sv mn fa fc dp w)(hl:toks.length<=3000000000000)(hn:∀i,-9223372036854775808<=(gQ toks i).n/\(gQ toks i).n<=9223372036854775807){b3:Nat}(hc:zd R T j st m b1 b2 b3 w)(he:w.cell? ⟨0,0,none⟩=some (ln t0))(hT:w.heap[T]? =some (.cells cs t))(hj:j<cs.size)(hTR:T≠R)(hTB:B<=T)(hTm:T<m)(VU:R<m)(hB0:0<B):
  Calls ah 180 #[.pointer (some ⟨b1,0,none⟩),.pointer (some ⟨b2,0,none⟩),.pointer (some ⟨b3,0,none⟩)] w (Ie B R T j t cs st tv toks hv sv mn fa fc dp t0 w (iu toks at_) (if iu toks at_ then at_+1 else at_)):=by
 have t1:=rk h (by omega) 3 ⟨#[45]⟩;have e1:decide ((gQ toks at_).k=3/\(gQ toks at_).s=⟨#[45]⟩)=iu toks at_:=rfl;rw[e1]at t1
 have U5:qes (iu toks at_=true->at_<toks.length):=fun e=>at_in (by
  unfold iu at e
  rw[(of_decide_eq_true e).1];decide)
 have HH:=qet h;have l1:=lt_of_heap hc.h1;have l2:=lt_of_heap hc.h2;have l3:=lt_of_heap hc.h3;have l0:0<w.heap.size:=World.block_lt_of_cell? w ⟨0,0,none⟩ he;have lT:=lt_of_heap hT;have hr:=h.row;unfold mb at hr;have Hw:=lt_of_heap hr;have nR0:0≠R:=by have:=h.hB;omega
 have nR1:b1≠R:=by have:=hc.l1;omega
 have XO:b1≠T:=by have:=hc.l1;omega
 have nR2:b2≠R:=by have:=hc.l2;omega
 have nR3:b3≠R:=by have:=hc.l3;omega
 have XP:R≠T:=fun e=>hTR e.symm
 have HR:=qet hr;have HC:=qet hc;have HT:=qet hT;have HE:=qet he;have HN:=qet hn;have d1:w.cell? ⟨b1,0,none⟩=some (.pointer (some ⟨R,0,none⟩)):=by rw[af hc.h1];rfl
 unfold Ie;clear h hc he hT hr hn e1
 cases VV:iu toks at_ with
 |false=>
  rw[VV]at t1;clear VV;simp only[eX,if_false];obtain⟨A1,hA1⟩:∃A,A=at_:=⟨_,rfl⟩
  have HA1:=qet hA1;rw[<-hA1];have T2:qes (∀W,RB B R tv toks A1 hv sv mn fa fc dp W->Calls ah 96 #[.pointer (some ⟨R,0,none⟩)] W fun e w'=>e=.returned (oG (gQ toks A1))/\Below W.heap.size W w'):=fun W h=>nk h (by omega)
  have LP:=qet (HN.o A1);have Tq:qes ((gQ toks A1).k=2->A1<toks.length):=fun e=>at_in (by rw[e];decide)
  clear hA1 HN;generalize gQ toks A1=x at T2 LP Tq ⊢;obtain⟨xk,xs,xn,xt,xa⟩:=x;simp only[]at LP Tq ⊢;unfold oG at T2;simp only[]at T2;go_enter Tryz.func180,Tryz.ntmps180;go_wp2_with fail;refine t1.mono ?_;rintro e w1 ⟨rfl,hb1⟩;have Lw:qes (RB B R tv toks A1 hv sv mn fa fc dp w1):=by show RB _ _ _ _ _ _ _ _ _ _ _ _;rw[HA1.o];exact HH.o.below hb1
  have KX:qes (gR [R] w w1):=gR.of_below hb1;have NC:=qet (HC.o.keep (gR.of_below (O:=[]) hb1) (by simp));have HT1:=qet ((hb1.block T lT).trans HT.o);have Py:=qet ((World.cell?_of_block (hb1.block 0 l0)).trans HE.o);clear t1 hb1 d1 HC HT;have l1':=aJ l1 KX.o.size;have y1:w1.cell? ⟨b1,0,none⟩=some (.pointer (some ⟨R,0,none⟩)):=by rw[af (NC.o.h1)];rfl
  have t2:=T2.o _ Lw.o;clear HH HE HR U5;go_wp2_with fail;refine t2.mono ?_;rintro e w2 ⟨rfl,hb2⟩;have hb3:=hb2.alloc hb2.size (.cells #[.int .i64 xk,.string xs,.int .i64 xn,.int .i64 xt,.int .i64 xa] 54);have A9:=qet (KX.o.trans (gR.of_below hb3));have xK:=qet (Lw.o.below hb3);have Gh:=qet (NC.o.keep (gR.of_below (O:=[]) hb3) (by simp));have T3:qes ((w2.alloc (.cells #[.int .i64 xk,.string xs,.int .i64 xn,.int .i64 xt,.int .i64 xa] 54)).heap[T]? =some (.cells cs t)):=(hb3.block T (lt_of_heap HT1.o)).trans HT1.o;have bx:=aE w2 (.cells #[.int .i64 xk,.string xs,.int .i64 xn,.int .i64 xt,.int .i64 xa] 54);have q0:(w2.alloc (.cells #[.int .i64 xk,.string xs,.int .i64 xn,.int .i64 xt,.int .i64 xa] 54)).cell? ⟨0,0,none⟩=some (ln t0):=(World.cell?_of_block (hb3.block 0 (by have:=KX.o.size;omega))).trans Py.o;have q2:(w2.alloc (.cells #[.int .i64 xk,.string xs,.int .i64 xn,.int .i64 xt,.int .i64 xa] 54)).cell? ⟨b2,0,none⟩=some (.bool st):=by rw[af Gh.o.h2];rfl
  clear t2 hb2 hb3 y1 NC Lw KX HT1 Py bx
  by_cases hok:xk=2/\xt=0/\¬ (st=true/\xn=0)
  ·have Ea:=qet (wh (mi:=false) (x:=⟨xk,xs,xn,xt,xa⟩) hok);obtain⟨hk2,ht0,hst⟩:=hok;subst hk2 ht0;have hlt:=Tq.o rfl;have t3:=uJ (xn) (w2.alloc (.cells #[.int .i64 2,.string xs,.int .i64 xn,.int .i64 0,.int .i64 xa] 54));have sp:st=false\/(st=true/\xn≠0):=by cases st <;> simp_all
   cases hz:jk (xn)with
   |false=>
    rw[hz]at t3;have HZ:qes (nP st false ⟨2,xs,xn,0,xa⟩=false):=by show _=_;rw[Ea.o];exact hz
    clear hz Ea hst
    rcases sp with rfl|⟨rfl,hn0⟩
    ·go_wp2_with fail;refine t3.mono ?_;rintro e w4 ⟨rfl,rfl⟩;clear t3;go_wp2;go_ret;exact .inr ⟨HZ.o,rfl,xK.o,A9.o⟩
    ·have i2:(xn==0)=false:=by rw[beq_eq_false_iff_ne];exact hn0
     go_wp2_with fail;refine t3.mono ?_;rintro e w4 ⟨rfl,rfl⟩;clear t3;go_wp2;go_ret;exact .inr ⟨HZ.o,rfl,xK.o,A9.o⟩
   |true=>
    rw[hz]at t3;have HZ:qes (nP st false ⟨2,xs,xn,0,xa⟩=true):=by show _=_;rw[Ea.o];exact hz
    clear hz Ea hst
    rcases sp with rfl|⟨rfl,hn0⟩
    ·go_wp2_with fail;refine t3.mono ?_;rintro e w4 ⟨rfl,rfl⟩;clear t3;have Ap:=T3.o;have Tr:=qet A9.o;have HR4:=qet xK.o;have hr4:=xK.o.row;unfold mb at hr4;have g1:=Gh.o.h1;have g3:=Gh.o.h3;generalize(w2.alloc (.cells #[.int .i64 2,.string xs,.int .i64 xn,.int .i64 0,.int .i64 xa] 54))=w4 at *;have HT4:=qet Ap;have v1:w4.cell? ⟨b3,0,none⟩=some (.pointer (some ⟨T,j,none⟩)):=by rw[af g3];rfl
     have v2:w4.cell? ⟨T,j,none⟩=some cs[j]:=by rw[af Ap];exact Array.getElem?_eq_getElem hj
     have v3:w4.frozen? ⟨T,j,none⟩=false:=aC Ap j;have s1:∀u,(w4.setCell ⟨T,j,none⟩ u).cell? ⟨b1,0,none⟩=some (.pointer (some ⟨R,0,none⟩)):=fun u=>(World.cell?_of_block (aM w4 ⟨T,j,none⟩ u b1 XO)).trans (by rw[af g1];rfl)
     have s2:∀u,(w4.setCell ⟨T,j,none⟩ u).heap[R]? =_:=fun u=>(aM w4 ⟨T,j,none⟩ u R XP).trans hr4
     have s3:∀u,(w4.setCell ⟨T,j,none⟩ u).cell? ⟨R,1,none⟩=some (.int .i64 (A1:Int)):=fun u=>by rw[af (s2 u)];rfl
     have s4:∀u,(w4.setCell ⟨T,j,none⟩ u).frozen? ⟨R,1,none⟩=false:=fun u=>aC (s2 u) 1
     clear Ap hr4 g1 g3 s2 q0 q2 T3 Gh xK A9;go_wp2;go_ret;exact .inl ⟨HZ.o,rfl,Put.of HR4.o (Tr.o.more (by simp)) HT4.o hTR hTB hlt⟩
    ·have i2:(xn==0)=false:=by rw[beq_eq_false_iff_ne];exact hn0
     go_wp2_with fail;refine t3.mono ?_;rintro e w4 ⟨rfl,rfl⟩;clear t3;have Ap:=T3.o;have Tr:=qet A9.o;have HR4:=qet xK.o;have hr4:=xK.o.row;unfold mb at hr4;have g1:=Gh.o.h1;have g3:=Gh.o.h3;generalize(w2.alloc (.cells #[.int .i64 2,.string xs,.int .i64 xn,.int .i64 0,.int .i64 xa] 54))=w4 at *;have HT4:=qet Ap;have v1:w4.cell? ⟨b3,0,none⟩=some (.pointer (some ⟨T,j,none⟩)):=by rw[af g3];rfl
     have v2:w4.cell? ⟨T,j,none⟩=some cs[j]:=by rw[af Ap];exact Array.getElem?_eq_getElem hj
     have v3:w4.frozen? ⟨T,j,none⟩=false:=aC Ap j;have s1:∀u,(w4.setCell ⟨T,j,none⟩ u).cell? ⟨b1,0,none⟩=some (.pointer (some ⟨R,0,none⟩)):=fun u=>(World.cell?_of_block (aM w4 ⟨T,j,none⟩ u b1 XO)).trans (by rw[af g1];rfl)
     have s2:∀u,(w4.setCell ⟨T,j,none⟩ u).heap[R]? =_:=fun u=>(aM w4 ⟨T,j,none⟩ u R XP).trans hr4
     have s3:∀u,(w4.setCell ⟨T,j,none⟩ u).cell? ⟨R,1,none⟩=some (.int .i64 (A1:Int)):=fun u=>by rw[af (s2 u)];rfl
     have s4:∀u,(w4.setCell ⟨T,j,none⟩ u).frozen? ⟨R,1,none⟩=false:=fun u=>aC (s2 u) 1
     clear Ap hr4 g1 g3 s2 q0 q2 T3 Gh xK A9;go_wp2;go_ret;exact .inl ⟨HZ.o,rfl,Put.of HR4.o (Tr.o.more (by simp)) HT4.o hTR hTB hlt⟩
  ·have Mi:=qet (ze (mi:=false) (x:=⟨xk,xs,xn,xt,xa⟩) hok)
   by_cases hk2:xk=2
   ·subst hk2
    by_cases ht0:xt=0
    ·subst ht0;obtain⟨rfl,rfl⟩:st=true/\xn=0:=by cases st <;> simp_all
     clear hok;go_wp2;go_ret;exact .inr ⟨Mi.o,rfl,xK.o,A9.o⟩
    ·have i2:(xt==0)=false:=by rw[beq_eq_false_iff_ne];exact ht0
     clear hok;go_wp2;go_ret;exact .inr ⟨Mi.o,rfl,xK.o,A9.o⟩
   ·have i2:(xk==2)=false:=by rw[beq_eq_false_iff_ne];exact hk2
    clear hok;go_wp2;go_ret;exact .inr ⟨Mi.o,rfl,xK.o,A9.o⟩
 |true=>
  rw[VV]at t1;have hlt0:=U5.o VV;clear VV;simp only[if_true];obtain⟨A1,hA1⟩:∃A,A=at_+1:=⟨_,rfl⟩
  have HA1:=qet hA1;rw[<-hA1];have T2:qes (∀W,RB B R tv toks A1 hv sv mn fa fc dp W->Calls ah 96 #[.pointer (some ⟨R,0,none⟩)] W fun e w'=>e=.returned (oG (gQ toks A1))/\Below W.heap.size W w'):=fun W h=>nk h (by omega)
  have LP:=qet (HN.o A1);have Tq:qes ((gQ toks A1).k=2->A1<toks.length):=fun e=>at_in (by rw[e];decide)
  clear hA1 HN;generalize gQ toks A1=x at T2 LP Tq ⊢;obtain⟨xk,xs,xn,xt,xa⟩:=x;simp only[]at LP Tq ⊢;unfold oG at T2;simp only[]at T2;go_enter Tryz.func180,Tryz.ntmps180;go_wp2_with fail;refine t1.mono ?_;rintro e w0 ⟨rfl,hb0⟩;have r0:w0.heap[R]? =_:=(hb0.block R Hw).trans HR.o;have y1:w0.cell? ⟨b1,0,none⟩=some (.pointer (some ⟨R,0,none⟩)):=(World.cell?_of_block (hb0.block b1 l1)).trans d1;have y2:w0.cell? ⟨R,1,none⟩=some (.int .i64 (at_:Int)):=by rw[af r0];rfl
  have y3:w0.frozen? ⟨R,1,none⟩=false:=aC r0 1;have s1:∀u,(w0.setCell ⟨R,1,none⟩ u).cell? ⟨b1,0,none⟩=some (.pointer (some ⟨R,0,none⟩)):=fun u=>(World.cell?_of_block (aM w0 ⟨R,1,none⟩ u b1 nR1)).trans y1
  obtain⟨K9,VW⟩:=(HH.o.below hb0).put (n:=at_+1) hlt0 rfl;have Lw:qes (RB B R tv toks A1 hv sv mn fa fc dp (w0.setCell ⟨R,1,none⟩ (.int .i64 ((at_:Int)+1)))):=by show RB _ _ _ _ _ _ _ _ _ _ _ _;rw[HA1.o];exact K9
  have KX:qes (gR [R] w (w0.setCell ⟨R,1,none⟩ (.int .i64 ((at_:Int)+1)))):=(gR.of_below hb0).trans VW;have NC:qes (zd R T j st m b1 b2 b3 (w0.setCell ⟨R,1,none⟩ (.int .i64 ((at_:Int)+1)))):=(HC.o.keep (gR.of_below (O:=[]) hb0) (by simp)).keep VW (by simp[VU]);have HT1:qes ((w0.setCell ⟨R,1,none⟩ (.int .i64 ((at_:Int)+1))).heap[T]? =some (.cells cs t)):=((VW.block T (aJ lT hb0.size) (by simp[hTR])).trans ((hb0.block T lT).trans HT.o))
  have Py:qes ((w0.setCell ⟨R,1,none⟩ (.int .i64 ((at_:Int)+1))).cell? ⟨0,0,none⟩=some (ln t0)):=((World.cell?_of_block (VW.block 0 (aJ l0 hb0.size) (by simp[nR0]))).trans ((World.cell?_of_block (hb0.block 0 l0)).trans HE.o))
  clear t1 r0 d1 HC HT K9 VW hb0;go_wp2_with fail;clear y1 y2 y3 s1;generalize(w0.setCell ⟨R,1,none⟩ (.int .i64 ((at_:Int)+1)))=w1 at *;have l1':=aJ l1 KX.o.size;have y1:w1.cell? ⟨b1,0,none⟩=some (.pointer (some ⟨R,0,none⟩)):=by rw[af (NC.o.h1)];rfl
  have t2:=T2.o _ Lw.o;clear HH HE HR U5;refine t2.mono ?_;rintro e w2 ⟨rfl,hb2⟩;have hb3:=hb2.alloc hb2.size (.cells #[.int .i64 xk,.string xs,.int .i64 xn,.int .i64 xt,.int .i64 xa] 54);have A9:=qet (KX.o.trans (gR.of_below hb3));have xK:=qet (Lw.o.below hb3);have Gh:=qet (NC.o.keep (gR.of_below (O:=[]) hb3) (by simp));have T3:qes ((w2.alloc (.cells #[.int .i64 xk,.string xs,.int .i64 xn,.int .i64 xt,.int .i64 xa] 54)).heap[T]? =some (.cells cs t)):=(hb3.block T (lt_of_heap HT1.o)).trans HT1.o;have bx:=aE w2 (.cells #[.int .i64 xk,.string xs,.int .i64 xn,.int .i64 xt,.int .i64 xa] 54);have q0:(w2.alloc (.cells #[.int .i64 xk,.string xs,.int .i64 xn,.int .i64 xt,.int .i64 xa] 54)).cell? ⟨0,0,none⟩=some (ln t0):=(World.cell?_of_block (hb3.block 0 (by have:=KX.o.size;omega))).trans Py.o;have q2:(w2.alloc (.cells #[.int .i64 xk,.string xs,.int .i64 xn,.int .i64 xt,.int .i64 xa] 54)).cell? ⟨b2,0,none⟩=some (.bool st):=by rw[af Gh.o.h2];rfl
  clear t2 hb2 hb3 y1 NC Lw KX HT1 Py bx
  by_cases hok:xk=2/\xt=0/\¬ (st=true/\xn=0)
  ·have Ea:=qet (wh (mi:=true) (x:=⟨xk,xs,xn,xt,xa⟩) hok);obtain⟨hk2,ht0,hst⟩:=hok;subst hk2 ht0;have hlt:=Tq.o rfl;have hnn:=LP.o
   by_cases hmin:xn= -9223372036854775808
   ·subst hmin;have c1:jk (-(-9223372036854775808:Int))=false:=by decide
    have t3:=uJ (wrap64 9223372036854775808) (w2.alloc (.cells #[.int .i64 2,.string xs,.int .i64 (-9223372036854775808),.int .i64 0,.int .i64 xa] 54));rw[show jk (wrap64 9223372036854775808)=false from by kernel_rfl]at t3
    cases st <;> (go_wp2_with fail;refine t3.mono ?_;rintro e w4 ⟨rfl,rfl⟩;clear t3;go_wp2;go_ret;exact .inr ⟨by rw[Ea.o];exact c1,rfl,xK.o,A9.o⟩)
   ·have i1: -9223372036854775808<= -xn/\ -xn<=9223372036854775807:=by omega
    have t3:=uJ (-xn) (w2.alloc (.cells #[.int .i64 2,.string xs,.int .i64 xn,.int .i64 0,.int .i64 xa] 54));have sp:st=false\/(st=true/\xn≠0):=by cases st <;> simp_all
    cases hz:jk (-xn)with
    |false=>
     rw[hz]at t3;have HZ:qes (nP st true ⟨2,xs,xn,0,xa⟩=false):=by show _=_;rw[Ea.o];exact hz
     clear hz Ea hst
     rcases sp with rfl|⟨rfl,hn0⟩
     ·go_wp2_with fail;refine t3.mono ?_;rintro e w4 ⟨rfl,rfl⟩;clear t3;go_wp2;go_ret;exact .inr ⟨HZ.o,rfl,xK.o,A9.o⟩
     ·have i2:(xn==0)=false:=by rw[beq_eq_false_iff_ne];exact hn0
      go_wp2_with fail;refine t3.mono ?_;rintro e w4 ⟨rfl,rfl⟩;clear t3;go_wp2;go_ret;exact .inr ⟨HZ.o,rfl,xK.o,A9.o⟩
    |true=>
     rw[hz]at t3;have HZ:qes (nP st true ⟨2,xs,xn,0,xa⟩=true):=by show _=_;rw[Ea.o];exact hz
     clear hz Ea hst
     rcases sp with rfl|⟨rfl,hn0⟩
     ·go_wp2_with fail;refine t3.mono ?_;rintro e w4 ⟨rfl,rfl⟩;clear t3;have Ap:=T3.o;have Tr:=qet A9.o;have HR4:=qet xK.o;have hr4:=xK.o.row;unfold mb at hr4;have g1:=Gh.o.h1;have g3:=Gh.o.h3;generalize(w2.alloc (.cells #[.int .i64 2,.string xs,.int .i64 xn,.int .i64 0,.int .i64 xa] 54))=w4 at *;have HT4:=qet Ap;have v1:w4.cell? ⟨b3,0,none⟩=some (.pointer (some ⟨T,j,none⟩)):=by rw[af g3];rfl
      have v2:w4.cell? ⟨T,j,none⟩=some cs[j]:=by rw[af Ap];exact Array.getElem?_eq_getElem hj
      have v3:w4.frozen? ⟨T,j,none⟩=false:=aC Ap j;have s1:∀u,(w4.setCell ⟨T,j,none⟩ u).cell? ⟨b1,0,none⟩=some (.pointer (some ⟨R,0,none⟩)):=fun u=>(World.cell?_of_block (aM w4 ⟨T,j,none⟩ u b1 XO)).trans (by rw[af g1];rfl)
      have s2:∀u,(w4.setCell ⟨T,j,none⟩ u).heap[R]? =_:=fun u=>(aM w4 ⟨T,j,none⟩ u R XP).trans hr4
      have s3:∀u,(w4.setCell ⟨T,j,none⟩ u).cell? ⟨R,1,none⟩=some (.int .i64 (A1:Int)):=fun u=>by rw[af (s2 u)];rfl
      have s4:∀u,(w4.setCell ⟨T,j,none⟩ u).frozen? ⟨R,1,none⟩=false:=fun u=>aC (s2 u) 1
      clear Ap hr4 g1 g3 s2 q0 q2 T3 Gh xK A9;go_wp2;go_ret;exact .inl ⟨HZ.o,rfl,Put.of HR4.o (Tr.o.more (by simp)) HT4.o hTR hTB hlt⟩
     ·have i2:(xn==0)=false:=by rw[beq_eq_false_iff_ne];exact hn0
      go_wp2_with fail;refine t3.mono ?_;rintro e w4 ⟨rfl,rfl⟩;clear t3;have Ap:=T3.o;have Tr:=qet A9.o;have HR4:=qet xK.o;have hr4:=xK.o.row;unfold mb at hr4;have g1:=Gh.o.h1;have g3:=Gh.o.h3;generalize(w2.alloc (.cells #[.int .i64 2,.string xs,.int .i64 xn,.int .i64 0,.int .i64 xa] 54))=w4 at *;have HT4:=qet Ap;have v1:w4.cell? ⟨b3,0,none⟩=some (.pointer (some ⟨T,j,none⟩)):=by rw[af g3];rfl
      have v2:w4.cell? ⟨T,j,none⟩=some cs[j]:=by rw[af Ap];exact Array.getElem?_eq_getElem hj
      have v3:w4.frozen? ⟨T,j,none⟩=false:=aC Ap j;have s1:∀u,(w4.setCell ⟨T,j,none⟩ u).cell? ⟨b1,0,none⟩=some (.pointer (some ⟨R,0,none⟩)):=fun u=>(World.cell?_of_block (aM w4 ⟨T,j,none⟩ u b1 XO)).trans (by rw[af g1];rfl)
      have s2:∀u,(w4.setCell ⟨T,j,none⟩ u).heap[R]? =_:=fun u=>(aM w4 ⟨T,j,none⟩ u R XP).trans hr4
      have s3:∀u,(w4.setCell ⟨T,j,none⟩ u).cell? ⟨R,1,none⟩=some (.int .i64 (A1:Int)):=fun u=>by rw[af (s2 u)];rfl
      have s4:∀u,(w4.setCell ⟨T,j,none⟩ u).frozen? ⟨R,1,none⟩=false:=fun u=>aC (s2 u) 1
      clear Ap hr4 g1 g3 s2 q0 q2 T3 Gh xK A9;go_wp2;go_ret;exact .inl ⟨HZ.o,rfl,Put.of HR4.o (Tr.o.more (by simp)) HT4.o hTR hTB hlt⟩
  ·have Mi:=qet (ze (mi:=true) (x:=⟨xk,xs,xn,xt,xa⟩) hok)
   by_cases hk2:xk=2
   ·subst hk2
    by_cases ht0:xt=0
    ·subst ht0;obtain⟨rfl,rfl⟩:st=true/\xn=0:=by cases st <;> simp_all
     clear hok;go_wp2;go_ret;exact .inr ⟨Mi.o,rfl,xK.o,A9.o⟩
    ·have i2:(xt==0)=false:=by rw[beq_eq_false_iff_ne];exact ht0
     clear hok;go_wp2;go_ret;exact .inr ⟨Mi.o,rfl,xK.o,A9.o⟩
   ·have i2:(xk==2)=false:=by rw[beq_eq_false_iff_ne];exact hk2
    clear hok;go_wp2;go_ret;exact .inr ⟨Mi.o,rfl,xK.o,A9.o⟩
def jh(O:List Nat)(w W:World):Prop:=gR O w W
variable {W:World}
theorem jh.alloc(h:jh O w W)(o:Obj):jh O w (W.alloc o):=gR.trans h (gR.of_below ((aw W.heap.size W).alloc (aj _) o))
theorem jh.drew(h:jh O w W):jh O w W.drew:=gR.trans h (gR.of_below (⟨rfl,rfl,rfl,aj _,fun _ _=>rfl⟩:Below W.heap.size W W.drew))
theorem jh.call'{W':World}(hb:Below W.heap.size W W')(h:jh O w W):jh O w W':=gR.trans h (gR.of_below hb)
theorem Mj(h:RB B R tv toks at_ hv sv mn fa fc dp w)(hl:toks.length<=3000000000000)(hn:∀i,-9223372036854775808<=(gQ toks i).n/\(gQ toks i).n<=9223372036854775807)(hb:(gQ toks at_).k=1/\(gQ toks at_).s=⟨#[66,89]⟩){m2 c1 c2 c3 m3 n1 n2 n3 g:Nat}(hc2:rl R 1 ⟨#[66,89]⟩ m2 c1 c2 c3 w)(hc3:zd R T j true m3 n1 n2 n3 w)(he:w.cell? ⟨0,0,none⟩=some (ln t0))(hT:w.heap[T]? =some (.cells cs t))(hj:j<cs.size)(hTR:T≠R)(hTB:B<=T)(YS:T<m3)(XQ:R<m3)(hB0:0<B)(hg:w.heap[g]? =some (.cells #[mz c1 c2 c3,RQ n1 n2 n3] 141))(hgR:g≠R)(XR:g≠T):
  Calls ah 99 #[.slice (some ⟨g,0,none⟩) 2 2] w (Pr (fun W=>nP true (iu toks (at_+1)) (gQ toks (if iu toks (at_+1)then at_+1+1 else at_+1))=true/\Put B R T j t cs (.int .i64 (if iu toks (at_+1)then -(gQ toks (if iu toks (at_+1)then at_+1+1 else at_+1)).n else(gQ toks (if iu toks (at_+1)then at_+1+1 else at_+1)).n)) tv toks ((if iu toks (at_+1)then at_+1+1 else at_+1)+1) hv sv mn fa fc dp w W) (fun b W=>b=t0/\nP true (iu toks (at_+1)) (gQ toks (if iu toks (at_+1)then at_+1+1 else at_+1))=false/\RB B R tv toks (if iu toks (at_+1)then at_+1+1 else at_+1) hv sv mn fa fc dp W/\gR [R] w W)):=by
 have Px:=h.hB
 refine pX [mz c1 c2 c3,RQ n1 n2 n3] g 2 w (fun i W=>match i with
  |0=>W=w
  |1=>RB B R tv toks (at_+1) hv sv mn fa fc dp W/\gR [R] w W
  |2=>nP true (iu toks (at_+1)) (gQ toks (if iu toks (at_+1)then at_+1+1 else at_+1))=true/\Put B R T j t cs (.int .i64 (if iu toks (at_+1)then -(gQ toks (if iu toks (at_+1)then at_+1+1 else at_+1)).n else(gQ toks (if iu toks (at_+1)then at_+1+1 else at_+1)).n)) tv toks ((if iu toks (at_+1)then at_+1+1 else at_+1)+1) hv sv mn fa fc dp w W
  |_=>False) _ (by simp) rfl ?_ ?_
 ·intro i W hJ
  match i,hJ with
  |0,hJ=>rw[hJ];exact hg
  |1,hJ=>exact(hJ.2.block g (lt_of_heap hg) (by simp[hgR])).trans hg
  |2,hJ=>exact(hJ.2.keep.block g (lt_of_heap hg) (by simp[hgR,XR])).trans hg
 ·intro i p hp
  match i,hp with
  |0,hp=>
   obtain rfl:mz c1 c2 c3=p:=an hp;refine⟨177,#[],_,rfl,fun W=>by simp[go_sem],fun W hW=>?_⟩;subst hW;refine(o0 h hl (by decide) hc2 he).mono ?_;rintro e W' (⟨_,_,rfl,q1,q2⟩|⟨q,_⟩)
   ·exact⟨_,rfl,.inl ⟨rfl,q1,q2⟩⟩
   ·exact absurd hb q
  |1,hp=>
   obtain rfl:RQ n1 n2 n3=p:=an hp;refine⟨180,#[],_,rfl,fun W=>by simp[go_sem],fun W hW=>?_⟩;obtain⟨q1,q2⟩:=hW;have l0:0<w.heap.size:=World.block_lt_of_cell? w ⟨0,0,none⟩ he;refine(wV q1 hl hn (hc3.keep q2 (by simp[XQ])) ((World.cell?_of_block (q2.block 0 l0 (by simp;omega))).trans he) ((q2.block T (lt_of_heap hT) (by simp[hTR])).trans hT) hj hTR hTB YS XQ hB0).mono ?_;rintro e W' (⟨a1,rfl,a2⟩|⟨a1,rfl,a2,a3⟩)
   ·exact⟨_,rfl,.inl ⟨rfl,a1,a2.rb,a2.cell,(q2.more (by simp)).trans a2.keep⟩⟩
   ·exact⟨_,rfl,.inr ⟨t0,rfl,rfl,a1,a2,q2.trans a3⟩⟩
def Gi(B R T j t:Nat)(cs:Array Value)(tv:Value)(toks:List Tv)(at_:Nat)(hv sv:Value)(mn:Bool)(fa fc dp:Int)(t0:Addr)(w:World)(v:Value)(w':World):Prop:=
 ((v=.nilIface/\nP true (iu toks (at_+1)) (gQ toks (if iu toks (at_+1)then at_+1+1 else at_+1))=true/\Put B R T j t cs (.int .i64 (if iu toks (at_+1)then -(gQ toks (if iu toks (at_+1)then at_+1+1 else at_+1)).n else(gQ toks (if iu toks (at_+1)then at_+1+1 else at_+1)).n)) tv toks ((if iu toks (at_+1)then at_+1+1 else at_+1)+1) hv sv mn fa fc dp w w')\/(v=ln t0/\nP true (iu toks (at_+1)) (gQ toks (if iu toks (at_+1)then at_+1+1 else at_+1))=false/\RB B R tv toks (if iu toks (at_+1)then at_+1+1 else at_+1) hv sv mn fa fc dp w'/\gR [R] w w'))
theorem PI(h:RB B R tv toks at_ hv sv mn fa fc dp w)(hl:toks.length<=3000000000000)(hn:∀i,-9223372036854775808<=(gQ toks i).n/\(gQ toks i).n<=9223372036854775807)(hc:nW R T j 150 m b1 b2 w)(he:w.cell? ⟨0,0,none⟩=some (ln t0))(hT:w.heap[T]? =some (.cells cs t))(hj:j<cs.size)(hTR:T≠R)(hTB:B<=T)(hTm:T<m)(VU:R<m)(hB0:0<B):
  Calls ah 148 #[.pointer (some ⟨b1,0,none⟩),.pointer (some ⟨b2,0,none⟩)] w fun e w'=>∃v,e=.returned v/\((¬ ((gQ toks at_).k=1/\(gQ toks at_).s=⟨#[66,89]⟩)/\v=.nilIface/\RB B R tv toks at_ hv sv mn fa fc dp w'/\gR [R] w w')\/(((gQ toks at_).k=1/\(gQ toks at_).s=⟨#[66,89]⟩)/\Gi B R T j t cs tv toks at_ hv sv mn fa fc dp t0 w v w')):=by
 have t1:=rk h (by omega) 1 ⟨#[66,89]⟩;have HH:=qet h;have d1:w.cell? ⟨b1,0,none⟩=some (.pointer (some ⟨R,0,none⟩)):=by rw[af hc.h1];rfl
 have d2:w.cell? ⟨b2,0,none⟩=some (.pointer (some ⟨T,j,none⟩)):=by rw[af hc.h2];rfl
 have l1:=lt_of_heap hc.h1;have l2:=lt_of_heap hc.h2
 by_cases hb:(gQ toks at_).k=1/\(gQ toks at_).s=⟨#[66,89]⟩
 ·rw[decide_eq_true hb]at t1;have PJ:=qet hb;have HK:qes (∀W,jh [R,T] w W->(W.cell? ⟨b1,0,none⟩=some (.pointer (some ⟨R,0,none⟩))/\W.cell? ⟨b2,0,none⟩=some (.pointer (some ⟨T,j,none⟩)))/\jh [R,T] w W):=fun W hW=>⟨⟨(World.cell?_of_block (hW.block b1 l1 (by have:=hc.l1;simp;omega))).trans d1,(World.cell?_of_block (hW.block b2 l2 (by have:=hc.l2;simp;omega))).trans d2⟩,hW⟩
  have CW:=qet (yG R ⟨#[66,89]⟩);have CN:=qet (wU R T j true)
  have CI:qes (∀(W0 W2 W3:World)(c1 c2 c3 n1 n2 n3:Nat),Below w.heap.size w W0->rl R 1 ⟨#[66,89]⟩ W0.heap.size c1 c2 c3 W2->Below W0.heap.size W0 W2->zd R T j true W2.heap.size n1 n2 n3 W3->Below W2.heap.size W2 W3->Calls ah 99 #[.slice (some ⟨W3.heap.size,0,none⟩) 2 2] (W3.alloc (.cells #[mz c1 c2 c3,RQ n1 n2 n3] 141)) fun e w'=>∃v,e=.returned v/\jh [R,T] w w'/\Gi B R T j t cs tv toks at_ hv sv mn fa fc dp t0 w v w'):=fun W0 W2 W3 c1 c2 c3 n1 n2 n3 k0 k1 k2 k3 k4=>by
   have lR:=lt_of_heap h.row;have lT:=lt_of_heap hT;have l0:0<w.heap.size:=World.block_lt_of_cell? w ⟨0,0,none⟩ he;have x2:Below w.heap.size w W2:=k0.trans (k2.mono k0.size);have x3:Below w.heap.size w W3:=x2.trans (k4.mono x2.size);have z2:=x2.size;have z3:=x3.size;have x4:=x3.alloc x3.size (.cells #[mz c1 c2 c3,RQ n1 n2 n3] 141);have y4:Below W2.heap.size W2 (W3.alloc (.cells #[mz c1 c2 c3,RQ n1 n2 n3] 141)):=k4.alloc k4.size _;have y3:Below W3.heap.size W3 (W3.alloc (.cells #[mz c1 c2 c3,RQ n1 n2 n3] 141)):=(aw _ _).alloc (aj _) _;refine(Mj (h.below x4) hl hn hb (k1.keep (gR.of_below (O:=[]) y4) (by simp)) (k3.keep (gR.of_below (O:=[]) y3) (by simp)) ((World.cell?_of_block (x4.block 0 l0)).trans he) ((x4.block T lT).trans hT) hj hTR hTB (by omega) (by omega) hB0 (aE W3 _) (by omega) (by omega)).mono ?_;rintro e w' ⟨v,rfl,⟨rfl,a1,a2⟩|⟨b,rfl,rfl,a1,a2,a3⟩⟩
   ·exact⟨_,rfl,(gR.of_below x4).trans a2.keep,.inl ⟨rfl,a1,a2.rb,a2.cell,(gR.of_below x4).trans a2.keep⟩⟩
   ·exact⟨_,rfl,(gR.of_below x4).trans (a3.more (by simp)),.inr ⟨rfl,a1,a2,(gR.of_below x4).trans a3⟩⟩
  unfold mT at CW;unfold xJ at CN;clear hc hb h he hT;go_enter Tryz.func148,Tryz.ntmps148;go_wp2_with fail;refine t1.mono ?_;rintro e w1 ⟨rfl,hb1⟩;have hbd:Below w.heap.size w w1.drew:=hb1.drew;have H1:jh [R,T] w w1:=gR.of_below hb1;have S1:=HK.o w1 H1;clear t1 hb1;go_wp2
  go_region_held3 (fun W=>(W.cell? ⟨b1,0,none⟩=some (.pointer (some ⟨R,0,none⟩))/\W.cell? ⟨b2,0,none⟩=some (.pointer (some ⟨T,j,none⟩)))/\jh [R,T] w W) (first|(with_reducible assumption)|(with_reducible refine HK.o _ ?_;(focus(repeat with_reducible (first|assumption|(apply gS;assumption)|refine jh.alloc ?_ _|refine jh.drew ?_|(apply jh.call';focus assumption)));done))) (first
   |(go_at_call 100;refine(CW.o _).mono ?_;rintro e w2 ⟨c1,c2,c3,rfl,hc2,hb2⟩)
   |(go_at_call 149;refine(CN.o _).mono ?_;rintro e w3 ⟨n1,n2,n3,rfl,hc3,hb3⟩)
   |(go_at_call 99;refine(CI.o _ _ _ _ _ _ _ _ _ hbd hc2 hb2 hc3 hb3).mono ?_;rintro e w4 ⟨v4,rfl,hh4,NS⟩))
  all_goals
   have HO:=qet NS;clear NS hh4 hc2 hb2 hc3 hb3 S1 H1 hbd CI CN CW HK d1 d2;go_wp2;go_ret;exact⟨_,rfl,.inr ⟨PJ.o,HO.o⟩⟩
 ·rw[decide_eq_false hb]at t1;have PJ:=qet hb;clear hc hb h he hT;go_enter Tryz.func148,Tryz.ntmps148;go_wp2_with fail;refine t1.mono ?_;rintro e w1 ⟨rfl,hb1⟩;have HB1:=qet hb1;clear t1 hb1;go_wp2;go_ret;exact⟨_,rfl,.inl ⟨PJ.o,rfl,HH.o.below HB1.o,gR.of_below HB1.o⟩⟩
structure uX(B R T j t:Nat)(cs:Array Value)(tv:Value)(toks:List Tv)(at_:Nat)(hv sv:Value)(mn:Bool)(fa fc dp:Int)(w:World)(x:List Pt)(q:List Tk)(n:Nat)(w':World):Prop where
 read:parse (lst toks at_)=.ok (x,q)
 rb:RB B R tv toks n hv sv mn fa fc dp w'
 keep:gR [R,T] w w'
 cell:∃pv xs,xs.map kO=x/\w'.ownsRow w.heap.size 42 5 pv xs.length (oE xs)/\w'.heap[T]? =some (.cells (cs.setIfInBounds j pv) t)
theorem Bb{e:Nat}{xs:List Value}(h:w.ownsRow b e size v n xs)(hk:gR O w w')(hO:∀k,k∈O->k<b):w'.ownsRow b e size v n xs:=by
 refine⟨h.1,h.2.imp id fun⟨g,cap,cur,r1,r2,r3,r⟩=>⟨g,cap,cur,r1,r2,?_,r⟩⟩;rw[hk.block g (lt_of_heap r3) (fun hm=>by have:=hO g hm;omega)];exact r3
theorem Jy(h:RB B R tv toks at_ hv sv mn fa fc dp w)(hl:toks.length<=3000000000000)(hs:∀i,(gQ toks i).s.size<=140737488355000)(hb:(gQ toks at_).k=3/\(gQ toks at_).s=⟨#[91]⟩){m2 c1 c2 c3 m3 n1 n2 m4 d1 d2 d3 g:Nat}(hc2:rl R 3 ⟨#[91]⟩ m2 c1 c2 c3 w)(hc3:nW R T j 144 m3 n1 n2 w)(hc4:rl R 3 ⟨#[93]⟩ m4 d1 d2 d3 w)(he:w.cell? ⟨0,0,none⟩=some (ln t0))(he1:w.cell? ⟨1,0,none⟩=some (ln t1))(qJ:kZ w)(hT:w.heap[T]? =some (.cells cs t))(hj:j<cs.size)(hTR:T≠R)(hTB:B<=T)(YS:T<m3)(XQ:R<m3)(Ap:T<m4)(hR4:R<m4)(hB:13<B)(hg:w.heap[g]? =some (.cells #[mz c1 c2 c3,ua 143 n1 n2,mz d1 d2 d3] 141))(hgR:g≠R)(XR:g≠T):
  Calls ah 99 #[.slice (some ⟨g,0,none⟩) 3 3] w (Pr (fun W=>∃x q n,(gQ toks n).k=3/\(gQ toks n).s=⟨#[93]⟩/\n=toks.length-q.length/\uX B R T j t cs tv toks (at_+1) hv sv mn fa fc dp w x q (n+1) W) (fun b W=>(∃k c,parse (lst toks (at_+1))=.error (k,c)/\b=t1/\RB B R tv toks (at_+1) hv sv mn ((toks.length-k:Nat):Int) c dp W/\gR [R] w W)\/(∃x q n,b=t0/\¬ ((gQ toks n).k=3/\(gQ toks n).s=⟨#[93]⟩)/\n=toks.length-q.length/\uX B R T j t cs tv toks (at_+1) hv sv mn fa fc dp w x q n W))):=by
 have Px:=h.hB;have lR:=lt_of_heap h.row;have lT:=lt_of_heap hT
 refine pX [mz c1 c2 c3,ua 143 n1 n2,mz d1 d2 d3] g 3 w (fun i W=>match i with
  |0=>W=w
  |1=>RB B R tv toks (at_+1) hv sv mn fa fc dp W/\gR [R] w W
  |2=>∃x q,uX B R T j t cs tv toks (at_+1) hv sv mn fa fc dp w x q (toks.length-q.length) W
  |3=>∃x q n,(gQ toks n).k=3/\(gQ toks n).s=⟨#[93]⟩/\n=toks.length-q.length/\uX B R T j t cs tv toks (at_+1) hv sv mn fa fc dp w x q (n+1) W
  |_=>False) _ (by simp) rfl ?_ ?_
 ·intro i W hJ
  match i,hJ with
  |0,hJ=>rw[hJ];exact hg
  |1,hJ=>exact(hJ.2.block g (lt_of_heap hg) (by simp[hgR])).trans hg
  |2,⟨_,_,hJ⟩=>exact(hJ.keep.block g (lt_of_heap hg) (by simp[hgR,XR])).trans hg
  |3,⟨_,_,_,_,_,_,hJ⟩=>exact(hJ.keep.block g (lt_of_heap hg) (by simp[hgR,XR])).trans hg
 ·intro i p hp
  match i,hp with
  |0,hp=>
   obtain rfl:mz c1 c2 c3=p:=an hp;refine⟨177,#[],_,rfl,fun W=>by simp[go_sem],fun W hW=>?_⟩;subst hW;refine(o0 h hl (by decide) hc2 he).mono ?_;rintro e W' (⟨_,_,rfl,q1,q2⟩|⟨q,_⟩)
   ·exact⟨_,rfl,.inl ⟨rfl,q1,q2⟩⟩
   ·exact absurd hb q
  |1,hp=>
   obtain rfl:ua 143 n1 n2=p:=an hp;refine⟨143,#[],_,rfl,fun W=>by simp[go_sem],fun W hW=>?_⟩;obtain⟨q1,q2⟩:=hW;have l1:1<w.heap.size:=World.block_lt_of_cell? w ⟨1,0,none⟩ he1;have hz:=q2.size;have hgl:kZ W:=⟨qJ.conv.mF q2 (by simp;omega),qJ.ops.mF q2 (by simp;omega),qJ.kw.mF q2 (by simp;omega),qJ.base.mF q2 (by simp;omega),qJ.sign.mF q2 (by simp;omega),qJ.span.mF q2 (by simp;omega),qJ.ty.mF q2 (by simp;omega),qJ.most.imp fun _ e=>(World.cell?_of_block (q2.block 9 (World.block_lt_of_cell? w _ e) (by simp;omega))).trans e,qJ.unit.mF q2 (by simp;omega)⟩
   refine(nZ q1 hl hs (hc3.keep q2 (by simp[XQ])) ((World.cell?_of_block (q2.block 1 l1 (by simp;omega))).trans he1) hgl ((q2.block T lT (by simp[hTR])).trans hT) hj hTR hTB YS (by omega)).mono ?_;intro e W' hE;unfold sG at hE
   cases hp:parse (lst toks (at_+1))with
   |error z=>
    obtain⟨k,c⟩:=z;rw[hp]at hE;obtain⟨rfl,a1,a2⟩:=hE;exact⟨_,rfl,.inr ⟨t1,rfl,.inl ⟨k,c,rfl,rfl,a1,q2.trans a2⟩⟩⟩
   |ok z=>
    obtain⟨x,q⟩:=z;rw[hp]at hE;obtain⟨pv,xs,rfl,a1,a2,a3⟩:=hE;exact⟨_,rfl,.inl ⟨rfl,x,q,hp,a3.rb,(q2.more (by simp)).trans a3.keep,pv,xs,a1,own_base a2 hz,a3.cell⟩⟩
  |2,hp=>
   obtain rfl:mz d1 d2 d3=p:=an hp;refine⟨177,#[],_,rfl,fun W=>by simp[go_sem],fun W hW=>?_⟩;obtain⟨x,q,hI⟩:=hW;have l0:0<w.heap.size:=World.block_lt_of_cell? w ⟨0,0,none⟩ he;have hk:=hI.keep;refine(o0 hI.rb hl (by decide) (hc4.keep hk (by simp[hR4,Ap])) ((World.cell?_of_block (hk.block 0 l0 (by simp;omega))).trans he)).mono ?_;obtain⟨pv,xs,a1,a2,a3⟩:=hI.cell;have NT:=lt_of_heap a3;rintro e W' (⟨u1,u2,rfl,u3,u4⟩|⟨u1,rfl,u3,u4⟩)
   ·exact⟨_,rfl,.inl ⟨rfl,x,q,_,u1,u2,rfl,hI.read,u3,hk.trans (u4.more (by simp)),pv,xs,a1,Bb a2 u4 (by simp[lR]),(u4.block T NT (by simp[hTR])).trans a3⟩⟩
   ·exact⟨_,rfl,.inr ⟨t0,rfl,.inr ⟨x,q,_,rfl,u1,rfl,hI.read,u3,hk.trans (u4.more (by simp)),pv,xs,a1,Bb a2 u4 (by simp[lR]),(u4.block T NT (by simp[hTR])).trans a3⟩⟩⟩
def Ca(B R T j t:Nat)(cs:Array Value)(tv:Value)(toks:List Tv)(at_:Nat)(hv sv:Value)(mn:Bool)(fa fc dp:Int)(t0 t1:Addr)(w:World)(v:Value)(w':World):Prop:=
 ((v=.nilIface/\∃x q n,(gQ toks n).k=3/\(gQ toks n).s=⟨#[93]⟩/\n=toks.length-q.length/\uX B R T j t cs tv toks (at_+1) hv sv mn fa fc dp w x q (n+1) w')\/(v=ln t1/\∃k c,parse (lst toks (at_+1))=.error (k,c)/\RB B R tv toks (at_+1) hv sv mn ((toks.length-k:Nat):Int) c dp w'/\gR [R] w w')\/(v=ln t0/\∃x q n,¬ ((gQ toks n).k=3/\(gQ toks n).s=⟨#[93]⟩)/\n=toks.length-q.length/\uX B R T j t cs tv toks (at_+1) hv sv mn fa fc dp w x q n w'))
theorem uX.from{w0:World}(h:uX B R T j t cs tv toks at_ hv sv mn fa fc dp w x q n w')(hb:Below w0.heap.size w0 w):uX B R T j t cs tv toks at_ hv sv mn fa fc dp w0 x q n w':=by
 obtain⟨pv,xs,a1,a2,a3⟩:=h.cell;exact⟨h.read,h.rb,(gR.of_below hb).trans h.keep,pv,xs,a1,own_base a2 hb.size,a3⟩
theorem Gj(h:RB B R tv toks at_ hv sv mn fa fc dp w)(hl:toks.length<=3000000000000)(hs:∀i,(gQ toks i).s.size<=140737488355000)(hc:nW R T j 144 m b1 b2 w)(he:w.cell? ⟨0,0,none⟩=some (ln t0))(he1:w.cell? ⟨1,0,none⟩=some (ln t1))(qJ:kZ w)(hT:w.heap[T]? =some (.cells cs t))(hj:j<cs.size)(hTR:T≠R)(hTB:B<=T)(hTm:T<m)(VU:R<m)(hB:13<B):
  Calls ah 183 #[.pointer (some ⟨b1,0,none⟩),.pointer (some ⟨b2,0,none⟩)] w fun e w'=>∃v,e=.returned v/\((¬ ((gQ toks at_).k=3/\(gQ toks at_).s=⟨#[91]⟩)/\v=.nilIface/\RB B R tv toks at_ hv sv mn fa fc dp w'/\gR [R] w w')\/(((gQ toks at_).k=3/\(gQ toks at_).s=⟨#[91]⟩)/\Ca B R T j t cs tv toks at_ hv sv mn fa fc dp t0 t1 w v w')):=by
 have s1:=rk h (by omega) 3 ⟨#[91]⟩;have HH:=qet h;have d1:w.cell? ⟨b1,0,none⟩=some (.pointer (some ⟨R,0,none⟩)):=by rw[af hc.h1];rfl
 have d2:w.cell? ⟨b2,0,none⟩=some (.pointer (some ⟨T,j,none⟩)):=by rw[af hc.h2];rfl
 have l1:=lt_of_heap hc.h1;have l2:=lt_of_heap hc.h2
 by_cases hb:(gQ toks at_).k=3/\(gQ toks at_).s=⟨#[91]⟩
 ·rw[decide_eq_true hb]at s1;have PJ:=qet hb;have HK:qes (∀W,jh [R,T] w W->(W.cell? ⟨b1,0,none⟩=some (.pointer (some ⟨R,0,none⟩))/\W.cell? ⟨b2,0,none⟩=some (.pointer (some ⟨T,j,none⟩)))/\jh [R,T] w W):=fun W hW=>⟨⟨(World.cell?_of_block (hW.block b1 l1 (by have:=hc.l1;simp;omega))).trans d1,(World.cell?_of_block (hW.block b2 l2 (by have:=hc.l2;simp;omega))).trans d2⟩,hW⟩
  have CA:=qet (oQ R ⟨#[91]⟩);have CE:=qet (nX R T j);have CB:=qet (oQ R ⟨#[93]⟩)
  have CI:qes (∀(W0 W2 W3 W4:World)(c1 c2 c3 n1 n2 d1 d2 d3:Nat),Below w.heap.size w W0->rl R 3 ⟨#[91]⟩ W0.heap.size c1 c2 c3 W2->Below W0.heap.size W0 W2->nW R T j 144 W2.heap.size n1 n2 W3->Below W2.heap.size W2 W3->rl R 3 ⟨#[93]⟩ W3.heap.size d1 d2 d3 W4->Below W3.heap.size W3 W4->Calls ah 99 #[.slice (some ⟨W4.heap.size,0,none⟩) 3 3] (W4.alloc (.cells #[mz c1 c2 c3,ua 143 n1 n2,mz d1 d2 d3] 141)) fun e w'=>∃v,e=.returned v/\jh [R,T] w w'/\Ca B R T j t cs tv toks at_ hv sv mn fa fc dp t0 t1 w v w'):=fun W0 W2 W3 W4 c1 c2 c3 n1 n2 d1 d2 d3 k0 k1 k2 k3 k4 k5 k6=>by
   have lR:=lt_of_heap h.row;have lT:=lt_of_heap hT;have l0:0<w.heap.size:=World.block_lt_of_cell? w ⟨0,0,none⟩ he;have l11:1<w.heap.size:=World.block_lt_of_cell? w ⟨1,0,none⟩ he1;have x2:Below w.heap.size w W2:=k0.trans (k2.mono k0.size);have x3:Below w.heap.size w W3:=x2.trans (k4.mono x2.size);have x4:Below w.heap.size w W4:=x3.trans (k6.mono x3.size);have z2:=x2.size;have z3:=x3.size;have z4:=x4.size;have x5:=x4.alloc x4.size (.cells #[mz c1 c2 c3,ua 143 n1 n2,mz d1 d2 d3] 141);have y2:Below W2.heap.size W2 (W4.alloc (.cells #[mz c1 c2 c3,ua 143 n1 n2,mz d1 d2 d3] 141)):=(k4.trans (k6.mono k4.size)).alloc (k4.trans (k6.mono k4.size)).size _;have y3:Below W3.heap.size W3 (W4.alloc (.cells #[mz c1 c2 c3,ua 143 n1 n2,mz d1 d2 d3] 141)):=k6.alloc k6.size _;have y4:Below W4.heap.size W4 (W4.alloc (.cells #[mz c1 c2 c3,ua 143 n1 n2,mz d1 d2 d3] 141)):=(aw _ _).alloc (aj _) _;refine(Jy (h.below x5) hl hs hb (k1.keep (gR.of_below (O:=[]) y2) (by simp)) (k3.keep (gR.of_below (O:=[]) y3) (by simp)) (k5.keep (gR.of_below (O:=[]) y4) (by simp)) ((World.cell?_of_block (x5.block 0 l0)).trans he) ((World.cell?_of_block (x5.block 1 l11)).trans he1) (qJ.below x5 qJ.lt) ((x5.block T lT).trans hT) hj hTR hTB (by omega) (by omega) (by omega) (by omega) hB (aE W4 _) (by omega) (by omega)).mono ?_;rintro e w' ⟨v,rfl,⟨rfl,x,q,n,a1,a2,a3,a4⟩|⟨b,rfl,⟨k,c,a1,rfl,a2,a3⟩|⟨x,q,n,rfl,a1,a2,a3⟩⟩⟩
   ·exact⟨_,rfl,(gR.of_below x5).trans a4.keep,.inl ⟨rfl,x,q,n,a1,a2,a3,a4.from x5⟩⟩
   ·exact⟨_,rfl,(gR.of_below x5).trans (a3.more (by simp)),.inr (.inl ⟨rfl,k,c,a1,a2,(gR.of_below x5).trans a3⟩)⟩
   ·exact⟨_,rfl,(gR.of_below x5).trans a3.keep,.inr (.inr ⟨rfl,x,q,n,a1,a2,a3.from x5⟩)⟩
  unfold mT at CA CB;unfold jR at CE;clear hc hb h he hT he1 qJ;go_enter Tryz.func183,Tryz.ntmps183;go_wp2_with fail;refine s1.mono ?_;rintro e w1 ⟨rfl,hb1⟩;have hbd:Below w.heap.size w w1.drew:=hb1.drew;have H1:jh [R,T] w w1:=gR.of_below hb1;have S1:=HK.o w1 H1;clear s1 hb1;go_wp2
  go_region_held3 (fun W=>(W.cell? ⟨b1,0,none⟩=some (.pointer (some ⟨R,0,none⟩))/\W.cell? ⟨b2,0,none⟩=some (.pointer (some ⟨T,j,none⟩)))/\jh [R,T] w W) (first|(with_reducible assumption)|(with_reducible refine HK.o _ ?_;(focus(repeat with_reducible (first|assumption|(apply gS;assumption)|refine jh.alloc ?_ _|refine jh.drew ?_|(apply jh.call';focus assumption)));done))) (first
   |(go_at_call 104;with_reducible refine(CA.o _).mono ?_;rintro e w2 ⟨c1,c2,c3,rfl,hc2,hb2⟩)
   |(go_at_call 104;with_reducible refine(CB.o _).mono ?_;rintro e w4 ⟨e1,e2,e3,rfl,hc4,hb4⟩)
   |(go_at_call 101;refine(CE.o _).mono ?_;rintro e w3 ⟨n1,n2,rfl,hc3,hb3⟩)
   |(go_at_call 99;refine(CI.o _ _ _ _ _ _ _ _ _ _ _ _ hbd hc2 hb2 hc3 hb3 hc4 hb4).mono ?_;rintro e w5 ⟨v5,rfl,hh5,BW⟩))
  all_goals
   have HO:=qet BW;clear BW hh5 hc2 hb2 hc3 hb3 hc4 hb4 S1 H1 hbd CI CA CB CE HK d1 d2;go_wp2;go_ret;exact⟨_,rfl,.inr ⟨PJ.o,HO.o⟩⟩
 ·rw[decide_eq_false hb]at s1;have PJ:=qet hb;clear hc hb h he hT he1 qJ;go_enter Tryz.func183,Tryz.ntmps183;go_wp2_with fail;refine s1.mono ?_;rintro e w1 ⟨rfl,hb1⟩;have HB1:=qet hb1;clear s1 hb1;go_wp2;go_ret;exact⟨_,rfl,.inl ⟨PJ.o,rfl,HH.o.below HB1.o,gR.of_below HB1.o⟩⟩
abbrev ji(O:List Nat):Nat->Prop:=fun b=>b∉O
def Mk(B:Nat)(w:World)(P:Nat->Prop)(l:List St)(v:Value):Prop:=∃cs,w.ownsRow B 48 10 v l.length cs/\oH w P l cs
def xL(B:Nat)(w:World)(P:Nat->Prop):List (List Int×List St)->List Value->List Nat->Prop
 |[],c,o=>c=[]/\o=[]
 |[a],c,o=>∃lv bv,c=[lv,bv]/\AR w P a.1 lv/\Mk B w P a.2 bv/\o=bv.ownBlock.toList
 |a::b::l,c,o=>∃x r,c=x++r/\x.length=2/\Ht w P a x/\xL B w P (b::l) r o
def Cb(B:Nat)(w:World)(P:Nat->Prop)(h:Hd)(c:List Value)(o:List Nat):Prop:=
 ∃nv iv xv yv bv ev av gv oa ac,c=[.int .i64 h.s.kind,.string nv,iv,xv,yv,.int .i64 h.s.gT,bv,ev,av,gv,.int .i64 h.num,.bool h.iU,.bool h.gX,.int .i64 (h.first:Int)]/\nv.data.toList=h.s.name/\mg w P h.s.idx iv/\mg w P h.s.x xv/\mg w P h.s.y yv/\Mk B w P h.s.body bv/\Mk B w P h.s.els ev/\w.ownsRow B 51 2 av h.s.arms.length ac/\xL B w P h.s.arms ac oa/\BR w P h.s.args gv/\o=bv.ownBlock.toList++(ev.ownBlock.toList++(av.ownBlock.toList++oa))
def hsR(B:Nat)(w:World)(P:Nat->Prop):List Hd->List Value->List Nat->Prop
 |[],c,o=>c=[]/\o=[]
 |h::l,c,o=>∃x r o1 o2,c=x++r/\x.length=14/\o=o1++o2/\Cb B w P h x o1/\hsR B w P l r o2
def uY(n:Nat):List Sr->List Value
 |[]=>[]
 |s::l=>.int .i64 ((n-s.left:Nat):Int)::.int .i64 s.within::.bool s.iU::uY n l
theorem uc(n:Nat)(a b:List Sr):uY n (a++b)=uY n a++uY n b:=by
 induction a with
 |nil=>rfl
 |cons x a ih=>simp[uY,ih]
theorem iy{e:Nat}{xs:List Value}(h:w.ownsRow B e size v n xs)(hk:∀k,v.ownBlock=some k->k<w.heap.size->w'.heap[k]? =w.heap[k]?):w'.ownsRow B e size v n xs:=by
 refine⟨h.1,h.2.imp id fun⟨g,cap,cur,r1,r2,r3,r⟩=>⟨g,cap,cur,r1,r2,?_,r⟩⟩;rw[hk g (by rw[r1];rfl) (lt_of_heap r3)];exact r3
theorem Mk.on{P':Nat->Prop}{l:List St}(h:Mk B w P l v)(ho:On P P' w w')(hk:∀k,v.ownBlock=some k->k<w.heap.size->w'.heap[k]? =w.heap[k]?):Mk B w' P' l v:=by
 obtain⟨cs,h1,h2⟩:=h;exact⟨cs,iy h1 hk,oH.on ho l cs h2⟩
theorem xL.on{B:Nat}{w w':World}{P P':Nat->Prop}(ho:On P P' w w'):∀(l:List (List Int×List St))(c:List Value)(o:List Nat),xL B w P l c o->(∀k,k∈o->k<w.heap.size->w'.heap[k]? =w.heap[k]?)->xL B w' P' l c o
 |[],c,o,h,_=>by simp only[xL]at h ⊢;exact h
 |[a],c,o,h,hk=>by
  simp only[xL]at h ⊢;obtain⟨lv,bv,h1,h2,h3,h4⟩:=h;exact⟨lv,bv,h1,h2.on ho,h3.on ho (fun k e=>hk k (by rw[h4,e];simp)),h4⟩
 |a::b::l,c,o,h,hk=>by
  simp only[xL]at h ⊢;obtain⟨x,r,h1,h2,h3,h4⟩:=h;exact⟨x,r,h1,h2,Ht.on ho a x h3,xL.on ho (b::l) r o h4 hk⟩
theorem Cb.on{P':Nat->Prop}{c:List Value}{o:List Nat}(hh:Cb B w P h c o)(ho:On P P' w w')(hk:∀k,k∈o->k<w.heap.size->w'.heap[k]? =w.heap[k]?):Cb B w' P' h c o:=by
 obtain⟨nv,iv,xv,yv,bv,ev,av,gv,oa,ac,h1,h2,h3,h4,h5,h6,h7,h8,h9,h10,h11⟩:=hh;subst h11;exact⟨nv,iv,xv,yv,bv,ev,av,gv,oa,ac,h1,h2,h3.on ho,h4.on ho,h5.on ho,h6.on ho (fun k e=>hk k (by simp[e])),h7.on ho (fun k e=>hk k (by simp[e])),iy h8 (fun k e=>hk k (by simp[e])),xL.on ho _ _ _ h9 (fun k e=>hk k (by simp[e])),h10.on ho,rfl⟩
theorem hsR.on{B:Nat}{w w':World}{P P':Nat->Prop}(ho:On P P' w w'):∀(l:List Hd)(c:List Value)(o:List Nat),hsR B w P l c o->(∀k,k∈o->k<w.heap.size->w'.heap[k]? =w.heap[k]?)->hsR B w' P' l c o
 |[],c,o,h,_=>by simp only[hsR]at h ⊢;exact h
 |h::l,c,o,hh,hk=>by
  simp only[hsR]at hh ⊢;obtain⟨x,r,o1,o2,h1,h2,h3,h4,h5⟩:=hh;subst h3;exact⟨x,r,o1,o2,h1,h2,rfl,h4.on ho (fun k e=>hk k (by simp[e])),hsR.on ho l r o2 h5 (fun k e=>hk k (by simp[e]))⟩
theorem rE{B:Nat}{w:World}{P:Nat->Prop}:∀(a b:List Hd)(c d:List Value)(o q:List Nat),hsR B w P a c o->hsR B w P b d q->hsR B w P (a++b) (c++d) (o++q)
 |[],b,c,d,o,q,h1,h2=>by
  simp only[hsR]at h1;obtain⟨rfl,rfl⟩:=h1;exact h2
 |h::a,b,c,d,o,q,h1,h2=>by
  simp only[hsR,bM]at h1 ⊢;obtain⟨x,r,o1,o2,e1,e2,e3,e4,e5⟩:=h1;subst e1 e3;exact⟨x,r++d,o1,o2++q,by simp,e2,by simp,e4,rE a b r d o2 q e5 h2⟩
theorem Ei{B:Nat}{w:World}{P:Nat->Prop}:∀(a:List Hd)(h:Hd)(c:List Value)(o:List Nat),hsR B w P (a++[h]) c o->∃c1 c2 o1 o2,c=c1++c2/\c1.length=a.length*14/\c2.length=14/\o=o1++o2/\hsR B w P a c1 o1/\Cb B w P h c2 o2
 |[],h,c,o,hh=>by
  simp only[hsR,bQ]at hh;obtain⟨x,r,o1,o2,e1,e2,e3,e4,e5,e6⟩:=hh;subst e5 e6 e1 e3;exact⟨[],x,[],o1,by simp,rfl,e2,by simp,⟨rfl,rfl⟩,e4⟩
 |g::a,h,c,o,hh=>by
  simp only[hsR,bM]at hh;obtain⟨x,r,o1,o2,e1,e2,e3,e4,e5⟩:=hh;obtain⟨c1,c2,p1,p2,f1,f2,f3,f4,f5,f6⟩:=Ei a h r o2 e5;subst e1 e3 f1 f4;refine⟨x++c1,c2,o1++p1,p2,by simp,?_,f3,by simp,?_,f6⟩
  ·rw[ao,e2,f2,aG];omega
  ·simp only[hsR];exact⟨x,c1,o1,p1,rfl,e2,rfl,e4,f5⟩
end Go.Proofs.YtekanffohkeoeaaGreatDoor
