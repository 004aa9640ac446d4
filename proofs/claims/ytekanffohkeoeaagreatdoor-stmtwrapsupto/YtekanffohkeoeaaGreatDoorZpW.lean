import Derived.Test.YtekanffohkeoeaaGreatDoorZfW
import Derived.Test.YtekanffohkeoeaaGreatDoorYiW
import Derived.BigRegion
import Derived.Test.YtekanffohkeoeaaGreatDoorEmW
namespace Go.Proofs.YtekanffohkeoeaaGreatDoor
open Go.RowKit
open List renaming nil_append → bQ, cons_append → bM, append_assoc → aO, length_append → ao, length_cons → aG, map_cons → bL, sum_cons → fo, length_singleton → bY, nodup_append → aR, mem_cons → aI, tail_cons → fI, mem_cons_of_mem → aK, mem_singleton → aL, nodup_cons → bV, setIfInBounds_toArray → ak, set_cons_zero → aD, set_cons_succ → aF
open Go.Proofs.Tryz renaming prog → ah, func97 → fU, ntmps97 → fQ, underlying59 → cK, results97 → cU
open Option.some renaming inj → an
open Go.Value renaming ownBlock → bw, slice → aZ, oneCell' → aY
open Nat renaming add_sub_cancel_left → fC, le_refl → aj, lt_of_lt_of_le → aJ, le_trans → aP
open Option renaming mem_toList → bT
open Prod.mk renaming inj → cv
open Go.Lib renaming cell_of_heap → af, frozen_of_heap → aC, alloc_old → bj
open _root_.Array renaming empty_append → fE
open Go.RowKit.Below renaming refl → aw, heap_setCell → aM
open Go renaming maxLen → ff, heap_alloc_new → aE, ownsRow_setCell_other → bJ, wp_region_noPanic → ft, wp_region_held_drew → fm, wpAnyH_ready → fh, step_append_lies → bK, wpAnyH_done → bX, bodyPost_end → aW, results → aV
open Go.World renaming size_setCell → bO, size_alloc → aB, news_of_block → bf
open Go.Act renaming put → aS
open Go.AllReadyH renaming cons → bu, nil → cz
open Go.NoPanic renaming normal → bP
set_option maxRecDepth 100000
set_option maxHeartbeats 6400000
theorem vt{B:Nat}{w:World}{P:Nat->Prop}:∀(az:List (List Int×List St))(a:List Int×List St)(c:List Value)(o:List Nat),xL B w P (az++[a]) c o->∃c1 lv bv,c=c1++[lv,bv]/\c1.length=az.length*2/\qH w P az c1/\AR w P a.1 lv/\Mk B w P a.2 bv/\o=bv.ownBlock.toList
 |[],a,c,o,h=>by
  simp only[xL,bQ]at h;obtain⟨lv,bv,h1,h2,h3,h4⟩:=h;exact⟨[],lv,bv,h1,rfl,by simp only[qH],h2,h3,h4⟩
 |b::az,a,c,o,h=>by
  obtain⟨q,qs,hq⟩:∃q qs,az++[a]=q::qs:=by cases az with|nil=>exact⟨_,_,rfl⟩|cons q qs=>exact⟨_,_,rfl⟩
  rw[bM,hq]at h;simp only[xL]at h;obtain⟨x,r,h1,h2,h3,h4⟩:=h;rw[<-hq]at h4;obtain⟨c1,lv,bv,e1,e2,e3,e4,e5,e6⟩:=vt az a r o h4;refine⟨x++c1,lv,bv,by rw[h1,e1,aO],by rw[ao,h2,e2,aG];omega,?_,e4,e5,e6⟩;simp only[qH];exact⟨x,c1,rfl,h2,h3,e3⟩
theorem zv{B:Nat}{w:World}{P:Nat->Prop}:∀(az:List (List Int×List St))(a:List Int×List St)(c1:List Value)(lv bv:Value),qH w P az c1->AR w P a.1 lv->Mk B w P a.2 bv->xL B w P (az++[a]) (c1++[lv,bv]) bv.ownBlock.toList
 |[],a,c1,lv,bv,h1,h2,h3=>by
  simp only[qH]at h1;subst h1;simp only[bQ,xL];exact⟨lv,bv,rfl,h2,h3,rfl⟩
 |b::az,a,c1,lv,bv,h1,h2,h3=>by
  simp only[qH]at h1;obtain⟨x,r,e1,e2,e3,e4⟩:=h1;have ih:=zv az a r lv bv e4 h2 h3;obtain⟨q,qs,hq⟩:∃q qs,az++[a]=q::qs:=by cases az with|nil=>exact⟨_,_,rfl⟩|cons q qs=>exact⟨_,_,rfl⟩
  rw[hq]at ih;rw[bM,hq];simp only[xL];exact⟨x,r++[lv,bv],by rw[e1,aO],e2,e3,ih⟩
theorem xQ:∀l:List (List Int×List St),l.length<=zj l
 |[]=>by simp
 |x::l=>by
  have:=xQ l;simp only[zj,bL,fo,aG]at this ⊢;omega
variable {g:Nat}{cl:List Value}{s:St}{l:List Hd}{hd:Hd}{w:World}{os:List Nat}{O:List Nat}{fa:Int}{fc:Int}{hv:Value}{sv:Value}{at_:Nat}{r:Rs}{X:List Nat}{c:Cx}
theorem TQ(h:oh c X r at_ hv sv fa fc os O w)(hh:r.hs=hd::l)(hie:hd.gX=false)(hk6:hd.s.kind=6)(har:hd.s.arms≠[])(hst:xp w (ji O) s cl)(JO:hv.ownBlock=some g)(hgood:Good c.toks.length {r with hs:=jc hd s::l}):Calls ah 151 #[.pointer (some ⟨g,l.length*14,none⟩),.agg cl.toArray] w (HAdd c X {r with hs:=jc hd s::l} at_ hv sv fa fc O w):=by
 have hl:=h.env.tks.hl;have hw:=h.good.JN hh;obtain⟨az,⟨ls,b⟩,has⟩:∃az a,hd.s.arms=az++[a]:=⟨_,_,(List.dropLast_concat_getLast har).symm⟩
 obtain⟨g',cap,cur,c1,c2,o1,o2,rfl,e2,e3,e4,e5,e6,e7,e8,e9,e10,e11⟩:=h.open hh;obtain rfl:g'=g:=an JO;obtain⟨nv,iv,xv,yv,bv,ev,av,gv,oa,ac,f1,f2,f3,f4,f5,f6,f7,f8,f9,f10,f11⟩:=e7;rw[has]at f8 f9;obtain⟨V8,lv,lb,g1,g2,g3,g4,g5,g6⟩:=vt _ _ _ _ f9;obtain⟨qs,p1,p2⟩:=g5;obtain⟨va,vc,hva⟩:=lK p1;subst f1 f11 e5 g1 g6;obtain⟨Uv,Uw,Ve,Wv,Ww,sev,Wx,Wy,s1,s2,s3,s4,s5,s6,s7,s8,s9⟩:=(nD _ _ _ _).1 hst;obtain⟨ia,il,ic,rfl⟩:=s3.shape;obtain⟨xa,xl,xc,rfl⟩:=s4.shape;obtain⟨ya,yl,yc,rfl⟩:=s5.shape;obtain⟨ba,bl,bc,rfl⟩:=s6.shape;obtain⟨ea,el,ec,rfl⟩:=s7.shape;obtain⟨aa,al,XV,rfl⟩:=s8.shape;obtain⟨ga,gl,gc,rfl⟩:=s9.shape;subst s1;have hown:=h.own;obtain⟨q1,q2,q3,q4,q5⟩:=mG (X:=X) (R:=c.R) (g:=g') (sv:=sv) (os:=o1++(bv.ownBlock.toList++(ev.ownBlock.toList++(av.ownBlock.toList++lb.ownBlock.toList)))) (by rw[hown];rfl) h.nodup;have hBw:c.B<=w.heap.size:=by have:=h.high c.R h.iL;omega
 rw[ao,bY]at f8;have f8':=f8
 rcases f8.2 with⟨_,h0⟩|⟨gz,U8,Y4,hav,k1,k2,k3,k4,k5,k6⟩
 ·omega
 subst hav
 have V9:lb.ownBlock≠some gz:=fun e=>by
  rw[aR]at q5;have h3:=q5.2.1;rw[aR]at h3;have h4:=h3.2.1;rw[aR]at h4;have h5:=h4.2.1;rw[aR]at h5;exact h5.2.2 gz (by simp[bw]) gz (by simp[e]) rfl
 have XH:zj hd.s.arms<=vi hd:=by unfold vi;omega
 have hwb:az.length+b.length<=zj hd.s.arms:=by
  rw[has,vj];have:=xQ az;simp only[zj,bL,List.map_nil,fo,List.sum_nil];simp only[zj]at this;omega
 have hac:Y4[az.length*2+1]? =some lb:=by
  have h9:=congrArg (fun q=>q[az.length*2+1]?) k6;rw[List.getElem?_take_of_lt (by omega),List.getElem?_append_right (by omega),g2,fC,Array.getElem?_toList]at h9;exact h9
 rw[hva]at V9 p1 hac;refine(MN (gz:=gz) (na:=az.length) (U8:=U8) k2 e2 (e8 12 _ (by simp[hie])) (e8 0 _ (by simp[hk6])) (e8 8 _ (by simp)) (by omega) hac p1 (show b.length<=1000000000 by omega) hBw V9).mono ?_;rintro e w' ⟨rfl,gg,cap',z1,z2,z3,z4,z5⟩;refine⟨rfl,?_⟩;rw[<-hva]at z3 z5;have hself:O=(X++c.R::(g'::(sv.ownBlock.toList++(o1++(bv.ownBlock.toList++(ev.ownBlock.toList++[gz]))))))++(lb.ownBlock.toList++[]):=by rw[hown];simp[bw]
 have xO:lb.ownBlock=some gg\/gg∉O:=z3.imp id fun hl hm=>by have:=(h.high gg hm).2;omega
 obtain⟨n1,n2⟩:=qM hself h.nodup xO
 have sM:gR O w w':=z5.more fun k hk _=>by
  rw[hself]
  rcases aI.1 hk with rfl|hk
  ·simp
  ·simp only[bT]at hk;simp[hk]
 have hfr:∀b,b∈X++c.R::(g'::(sv.ownBlock.toList++(o1++(bv.ownBlock.toList++(ev.ownBlock.toList++([gz]++[gg]))))))->b∈O\/(w.heap.size<=b/\b<w'.heap.size):=fun b hb=>by
  rcases n2 b (by simpa using hb)with hb|rfl
  ·exact .inl hb
  ·rcases xO with h1|h1
   ·left;rw[hself,h1];simp
   ·exact .inr ⟨z3.resolve_left (fun e=>h1 (by rw[hself,e];simp)),(z2.lt b rfl).2⟩
 have hon:On (ji O) (ji (X++c.R::(g'::(sv.ownBlock.toList++(o1++(bv.ownBlock.toList++(ev.ownBlock.toList++([gz]++[gg])))))))) w w':=fun b hb hlb=>⟨fun hm=>(hfr b hm).elim hb (fun h=>by omega),sM.block b hlb hb⟩
 have qi:∀k,k∈X++c.R::(g'::(sv.ownBlock.toList++(o1++(bv.ownBlock.toList++ev.ownBlock.toList))))->k<w.heap.size->w'.heap[k]? =w.heap[k]? :=fun k hk hlk=>z5.block k hlk (fun hm=>by
  have hnn:=h.nodup;rw[show O=(X++c.R::(g'::(sv.ownBlock.toList++(o1++(bv.ownBlock.toList++ev.ownBlock.toList)))))++(gz::lb.ownBlock.toList) by rw[hself];simp,aR]at hnn
  exact hnn.2.2 k hk k hm rfl)
 have hrow2:=oL f8' k2 z1;rw[set_tail g2]at hrow2;have V7:∀b,b∈X->w'.heap[b]? =w.heap[b]? :=fun b hb=>qi b (by simp[hb]) (h.high b (h.kc hb)).2
 have hadd:jc hd s={hd with s:={hd.s with arms:=az++[(ls,b++[s])]}}:=by
  unfold jc;rw[if_neg (by rw[hie];decide),if_pos hk6,has];simp
 rw[hadd]at hgood ⊢;refine⟨_,_,TN (h.shut e6 sM ((qi c.R (by simp) (h.high c.R h.iL).2).trans h.rb.row) h.rb.here h.rest h.fl rfl (iy e9 (fun k hk=>qi k (by simp[bw]at hk;simp[hk]))) (by simp) (MO:=bv.ownBlock.toList++(ev.ownBlock.toList++([gz]++[gg]))) ?_ (fun k hk=>qi k (by simp[hk])) (iy h.st (fun k hk=>qi k (by simp[hk]))) rfl (by simpa[bw]using n1) hfr hgood) V7⟩;refine⟨nv,iv,xv,yv,bv,ev,.slice (some ⟨gz,0,none⟩) (az.length+1) U8,gv,[gg],_,rfl,f2,f3.on hon,f4.on hon,f5.on hon,f6.on hon (fun k e=>qi k (by simp[e])),f7.on hon (fun k e=>qi k (by simp[e])),by rw[ao];exact hrow2,?_,f10.on hon,rfl⟩;exact zv az (ls,b++[s]) V8 lv (.slice (some ⟨gg,0,none⟩) (b.length+1) cap') (qH.on hon _ _ g3) (g4.on hon) ⟨_,by rw[ao];exact z2,rh _ _ _ _ _ _ (oH.on hon _ _ p2) (by simp only[oH];exact⟨_,[],by simp,rfl,xp.on hon _ _ hst,rfl⟩)⟩
theorem EG(h:oh c X r at_ hv sv fa fc os O w)(hh:r.hs=hd::l)(hok:wW hd)(hst:xp w (ji O) s cl)(JO:hv.ownBlock=some g)(hgood:Good c.toks.length {r with hs:=jc hd s::l}):Calls ah 151 #[.pointer (some ⟨g,l.length*14,none⟩),.agg cl.toArray] w (HAdd c X {r with hs:=jc hd s::l} at_ hv sv fa fc O w):=by
 cases hie:hd.gX with
 |true=>exact TO h hh hie hst JO hgood
 |false=>
  by_cases hk:hd.s.kind=6
  ·exact TQ h hh hie hk (hok hie hk) hst JO hgood
  ·exact TP h hh hie hk hst JO hgood
variable {N:Nat}
theorem Good.some(g:Good N r):∃h l,r.hs=h::l:=by
 cases e:r.hs with
 |nil=>exact absurd e g.hd
 |cons h l=>exact⟨h,l,rfl⟩
variable {h:Hd}
theorem kz(e:r.hs=h::l):top r=h:=by unfold top;rw[e];rfl
theorem jU{x:Hd}(e:r.hs=h::l):(iS x r).hs=x::l:=by simp[iS,e]
variable {r':Rs}{α:Type}
theorem im{m:M Unit}{f:M α}{a:α}(h:thn m f r=(r',.ok a)):∃r1,m r=(r1,.ok ())/\f r1=(r',.ok a):=by
 unfold thn bnd at h
 cases hm:m r with
 |mk r1 x=>
  rw[hm]at h
  cases x with
  |error e=>cases h
  |ok u=>exact⟨r1,rfl,h⟩
theorem jg{β:Type}{m:M α}{f:α->M β}{b:β}(h:bnd m f r=(r',.ok b)):∃r1 a,m r=(r1,.ok a)/\f a r1=(r',.ok b):=by
 unfold bnd at h
 cases hm:m r with
 |mk r1 x=>
  rw[hm]at h
  cases x with
  |error e=>cases h
  |ok u=>exact⟨r1,u,rfl,h⟩
def mH(r:Rs):Prop:=∀h∈r.hs,wW h
theorem ig{m:M α}(hq:Quiet m)(hd:Dn m){a:α}(h:m r=(r',.ok a)):r'.hs=r.hs/\r'.gY=r.gY/\r'.rest.length<=r.rest.length:=by
 have q:=hq r;have d:=hd r;rw[h]at q d;exact⟨q.1,q.2,d⟩
theorem kl{m:M α}(hq:Quiet m)(hd:Dn m){a:α}(h:m r=(r',.ok a))(g:Good N r):Good N r':=by
 obtain⟨h1,h2,h3⟩:=ig hq hd h;exact g.less h1 h2 h3
theorem EH(g:Good N r)(h2:2<=r.hs.length)(h:iQ r=(r',.ok ())):mH r'/\r'.gY=r.gY/\Good N r':=by
 obtain⟨r1,e1,e2⟩:=im h;obtain⟨q1,q2,q3⟩:=ig (iB _ _) (gV _ _) e1;obtain rfl:=(cv e2).1;have:=g.pop (r':={r1 with hs:=lM r1.hs}) h2 (by simp only[q1]) q2 q3;exact⟨this.2,q2,this.1⟩
theorem rJ(h:iG s r=(r',.ok ())):r'={r with hs:=⟨s,(r.gY.length:Int)-1,false,false,0⟩::r.hs}:=((cv h).1).symm
variable {e:Bool}
theorem MP(h:tt e r=(r',.ok ())):r'=iS {top r with iU:=e} r:=((cv h).1).symm
theorem Iu(ho:mH r)(h:mM e r=(r',.ok ())):mH r'/\r'.gY=r.gY:=by
 obtain⟨r1,e1,h⟩:=im h;obtain⟨r2,x,e2,h⟩:=jg h;obtain⟨r3,e3,h⟩:=im h;obtain⟨r4,e4,h⟩:=im h;obtain⟨a1,a2,_⟩:=ig RW Gp e1;obtain⟨b1,b2,_⟩:=ig jJ iR e2;obtain⟨c1,c2,_⟩:=ig (iB _ _) (gV _ _) e3;have e4:=rJ e4;have e5:=MP h;subst e4 e5;refine⟨?_,by show r3.gY=r.gY;rw[c2,b2,a2]⟩;intro k hk;simp only[iS,top,List.headD_cons,fI,aI]at hk
 rcases hk with rfl|hk
 ·intro _ i;exact absurd (show(2:Int)=6 from i) (by decide)
 ·rw[c1,b1,a1]at hk;exact ho k hk
theorem rK{b:Bool}(h:jT r=(r',.ok b)):(b=false/\r'=r)\/(b=true/\r'=jF (iS {top r with gX:=true} r)):=by
 unfold jT at h
 split at h
 ·exact .inl ⟨by cases h;rfl,by cases h;rfl⟩
 ·exact .inr ⟨by cases h;rfl,by cases h;rfl⟩
theorem wz{s:Bs}(g:Good N r)(h2:2<=r.hs.length)(h:(bnd jT fun b=>if b then ret ()else thn (gU s) iQ) r=(r',.ok ())):mH r'/\r'.gY=r.gY:=by
 obtain⟨r1,b,e1,hx⟩:=jg h;clear h
 rcases rK e1 with⟨rfl,rfl⟩|⟨rfl,rfl⟩
 ·have hx:thn (gU s) iQ _=_:=hx;obtain⟨r2,e2,hx⟩:=im hx;obtain⟨q1,q2,q3⟩:=ig (iB _ _) (gV _ _) e2;obtain⟨k1,k2,_⟩:=EH (g.less q1 q2 q3) (by rw[q1];exact h2) hx;exact⟨k1,k2.trans q2⟩
 ·have h:ret () _=_:=hx;obtain rfl:r'=_:=((cv h).1).symm;obtain⟨k,l,hk⟩:=g.some;refine⟨?_,rfl⟩;intro x hx
  have hx:x∈{top r with gX:=true}::l:=by
   have:(jF (iS {top r with gX:=true} r)).hs={top r with gX:=true}::l:=jU hk
   rwa [this]at hx
  rcases aI.1 hx with rfl|hx
  ·intro i _;cases i
  ·exact g.tl x (by rw[hk];exact hx)
theorem MQ(g:Good N r)(h:qY r=(r',.ok ())):mH r'/\r'.gY=r.gY:=by
 unfold qY at h;obtain⟨r1,ls,e1,h⟩:=jg h;obtain⟨q1,q2,q3⟩:=ig (Ck _ _) (vh _ _) e1;obtain⟨k,l,hk⟩:=(g.less q1 q2 q3).some;obtain⟨a1,a2,_⟩:=ig (vm (Ip _ _) (iB _ _)) (ka (wk _ _) (gV _ _)) h;rw[jU hk]at a1;refine⟨?_,by rw[a2,<-q2];rfl⟩;intro x hx;rw[a1]at hx
 rcases aI.1 hx with rfl|hx
 ·intro _ _;simp
 ·exact g.tl x (by rw[<-q1,hk];exact hx)
theorem Bk(g:Good N r)(h2:2<=r.hs.length)(hp:r.gY.length+r.rest.length<=N\/(top r).s.kind=6)(h:iq r=(r',.ok ())):mH r'/\r'.gY.length<=r.gY.length+(if(top r).s.kind=6 then 0 else 1):=by
 obtain⟨k,l,hk⟩:=g.some;have ht:=kz hk;unfold iq at h;rw[ht]at h hp ⊢
 by_cases k2:k.s.kind=2
 ·rw[if_pos k2]at h;rw[if_neg (by rw[k2];decide)];have hp:r.gY.length+r.rest.length<=N:=hp.resolve_right (by rw[k2];decide);unfold jd at h
  split at h
  ·obtain⟨r1,e1,h⟩:=im h;have g2:Good N (iS {top r with gX:=true} r):=g.set hk (jU hk) rfl (by rw[ht]) (by rw[ht]) (by rw[ht]) (by rw[ht]) (by rw[ht];exact aj _) (aj _);have s1:=g2.start hp;rw[e1]at s1;obtain⟨s1,s2,s3,_,_,s6,_⟩:=s1
   have o1:mH r1:=s6 (by
    rw[jU hk];intro x hx
    rcases aI.1 hx with rfl|hx
    ·intro i _;cases i
    ·exact g.tl x (by rw[hk];exact hx))
   obtain⟨c1,c2⟩:=Iu o1 h;exact⟨c1,by rw[c2,s3];exact aj _⟩
  ·obtain⟨c1,c2⟩:=wz g h2 h;exact⟨c1,by rw[c2];omega⟩
 ·rw[if_neg k2]at h
  by_cases k6:k.s.kind=6
  ·rw[if_pos k6]at h;rw[if_pos k6];unfold iN at h
   split at h
   ·obtain⟨c1,c2⟩:=MQ g h;exact⟨c1,by rw[c2];omega⟩
   ·obtain⟨c1,c2⟩:=wz g h2 h;exact⟨c1,by rw[c2];omega⟩
  ·rw[if_neg k6]at h;rw[if_neg k6]
   have fin:∀(s:Bs)(r1:Rs),Good N r1->2<=r1.hs.length->thn (gU s) iQ r1=(r',.ok ())->mH r'/\r'.gY=r1.gY:=by
    intro s r1 g1 l1 h;obtain⟨r2,e2,h⟩:=im h;obtain⟨q1,q2,q3⟩:=ig (iB _ _) (gV _ _) e2;obtain⟨k1,k2,_⟩:=EH (g1.less q1 q2 q3) (by rw[q1];exact l1) h;exact⟨k1,k2.trans q2⟩
   by_cases k3:k.s.kind=3
   ·rw[if_pos k3]at h;obtain⟨c1,c2⟩:=fin _ r g h2 h;exact⟨c1,by rw[c2];omega⟩
   ·rw[if_neg k3]at h
    by_cases k4:k.s.kind=4
    ·rw[if_pos k4]at h;obtain⟨r1,e1,h⟩:=im h;obtain⟨r2,e2,h⟩:=im h;obtain⟨q1,q2,q3⟩:=ig (iB _ _) (gV _ _) e1;obtain⟨r3,x,e3,h3⟩:=jg e2;obtain⟨p1,p2,p3⟩:=ig jJ iR e3;have hh:r3.hs=k::l:=by rw[p1,q1,hk]
     obtain rfl:r2=_:=((cv h3).1).symm;have g3:Good N r3:=(g.less q1 q2 q3).less p1 p2 p3;have g4:Good N (iS {top r3 with s:={(top r3).s with x:=x}} r3):=g3.set hh (jU hh) rfl (by rw[kz hh]) (by rw[kz hh]) (by rw[kz hh]) (by rw[kz hh]) (by rw[kz hh];exact aj _) (aj _);obtain⟨c1,c2⟩:=fin _ _ g4 (by rw[jU hh,aG];rw[hk,aG]at h2;exact h2) h;exact⟨c1,by rw[c2];show r3.gY.length<=_;rw[p2,q2];omega⟩
    ·rw[if_neg k4]at h;obtain⟨c1,c2⟩:=fin _ r g h2 h;exact⟨c1,by rw[c2];omega⟩
theorem Cp(g:Good N r)(ho:mH r)(h:kI s r=(r',.ok ())):mH r'/\r'.gY=r.gY:=by
 obtain⟨r1,e1,h⟩:=im h;obtain⟨q1,q2,_⟩:=ig (iB _ _) (gV _ _) e1;obtain⟨k,l,hk⟩:=g.some;obtain rfl:r'=_:=((cv h).1).symm;have hh:r1.hs=k::l:=q1.trans hk;refine⟨?_,q2⟩;intro x hx;rw[jU hh,kz hh]at hx
 rcases aI.1 hx with rfl|hx
 ·exact Il s (ho k (by rw[hk];simp))
 ·exact ho x (by rw[hk];simp[hx])
theorem At{nm:Bs}(g:Good N r)(ho:mH r)(h:iP nm r=(r',.ok ())):mH r'/\r'.gY=r.gY:=by
 unfold iP at h
 split at h
 ·obtain⟨r1,e1,h⟩:=im h;obtain⟨r2,a,e2,h⟩:=jg h;obtain⟨r3,e3,h⟩:=im h;obtain⟨a1,a2,a3⟩:=ig (iB _ _) (gV _ _) e1;obtain⟨b1,b2,b3⟩:=ig Cj vg e2;obtain⟨c1,c2,c3⟩:=ig (iB _ _) (gV _ _) e3;obtain⟨d1,d2⟩:=Cp (((g.less a1 a2 a3).less b1 b2 b3).less c1 c2 c3) (by intro x hx;rw[c1,b1,a1]at hx;exact ho x hx) h;exact⟨d1,by rw[d2,c2,b2,a2]⟩
 ·obtain⟨r1,i,e1,h⟩:=jg h;obtain⟨r2,e2,h⟩:=im h;obtain⟨r3,x,e3,h⟩:=jg h;obtain⟨a1,a2,a3⟩:=ig Mz Cf e1;obtain⟨b1,b2,b3⟩:=ig (iB _ _) (gV _ _) e2;obtain⟨c1,c2,c3⟩:=ig jJ iR e3;obtain⟨d1,d2⟩:=Cp (((g.less a1 a2 a3).less b1 b2 b3).less c1 c2 c3) (by intro x hx;rw[c1,b1,a1]at hx;exact ho x hx) h;exact⟨d1,by rw[d2,c2,b2,a2]⟩
theorem Cq(ho:mH r)(hk:s.kind≠6)(h:iG s r=(r',.ok ())):mH r'/\r'.gY=r.gY:=by
 have e:=rJ h;subst e;refine⟨?_,rfl⟩;intro x hx
 rcases aI.1 hx with rfl|hx
 ·intro _ i;exact absurd i hk
 ·exact ho x hx
theorem MR{w:Bs}(g:Good N r)(ho:mH r)(h0:0<r.gY.length)(hw:zk r.hs+r.rest.length<=N+1)(h:jq w r=(r',.ok ())):mH r'/\r'.gY=r.gY:=by
 unfold jq at h
 split at h
 ·exact Iu ho h
 split at h
 ·obtain⟨r1,e1,h⟩:=im h;obtain⟨r2,x,e2,h⟩:=jg h;obtain⟨r3,e3,h⟩:=im h;obtain⟨a1,a2,_⟩:=ig (iB _ _) (gV _ _) e1;obtain⟨b1,b2,_⟩:=ig jJ iR e2;obtain⟨c1,c2,_⟩:=ig (iB _ _) (gV _ _) e3;obtain⟨d1,d2⟩:=Cq (by intro x hx;rw[c1,b1,a1]at hx;exact ho x hx) (show(3:Int)≠6 by decide) h;exact⟨d1,by rw[d2,c2,b2,a2]⟩
 split at h
 ·obtain⟨r1,e1,h⟩:=im h;obtain⟨a1,a2,_⟩:=ig (iB _ _) (gV _ _) e1;obtain⟨d1,d2⟩:=Cq (by intro x hx;rw[a1]at hx;exact ho x hx) (by decide) h;exact⟨d1,by rw[d2,a2]⟩
 split at h
 ·obtain⟨r1,e1,h⟩:=im h;obtain⟨r2,nm,e2,h⟩:=jg h;obtain⟨r3,e3,h⟩:=im h;obtain⟨r4,x,e4,h⟩:=jg h;obtain⟨r5,e5,h⟩:=im h;obtain⟨r6,y,e6,h⟩:=jg h;obtain⟨r7,b,e7,h⟩:=jg h;obtain⟨r8,e8,h⟩:=im h;obtain⟨a1,a2,_⟩:=ig (iB _ _) (gV _ _) e1;obtain⟨b1,b2,_⟩:=ig ud qb e2;obtain⟨c1,c2,_⟩:=ig (iB _ _) (gV _ _) e3;obtain⟨d1,d2,_⟩:=ig jJ iR e4;obtain⟨f1,f2,_⟩:=ig (iB _ _) (gV _ _) e5;obtain⟨g1,g2,_⟩:=ig jJ iR e6;obtain⟨i1,i2,_⟩:=ig V2 Mq e7;obtain⟨j1,j2,_⟩:=ig (iB _ _) (gV _ _) e8;obtain⟨k1,k2⟩:=Cq (by intro x hx;rw[j1,i1,g1,f1,d1,c1,b1,a1]at hx;exact ho x hx) (show(5:Int)≠6 by decide) h;exact⟨k1,by rw[k2,j2,i2,g2,f2,d2,c2,b2,a2]⟩
 split at h
 ·obtain⟨r1,e1,h⟩:=im h;obtain⟨r2,x,e2,h⟩:=jg h;obtain⟨r3,e3,h⟩:=im h;obtain⟨r4,e4,h⟩:=im h;obtain⟨a1,a2,a3⟩:=ig (iB _ _) (gV _ _) e1;obtain⟨b1,b2,b3⟩:=ig jJ iR e2;obtain⟨c1,c2,c3⟩:=ig (iB _ _) (gV _ _) e3
  have hl:r1.rest.length<r.rest.length:=by
   have:=kK jE r () (by rw[e1]);rw[e1]at this;exact this
  have g3:=((g.less a1 a2 a3).less b1 b2 b3).less c1 c2 c3;have o3:mH r3:=by intro x hx;rw[c1,b1,a1]at hx;exact ho x hx
  have g4:=g3.hold {st0 with kind:=6,x:=x} rfl rfl rfl o3 (by rw[c2,b2,a2];exact h0) (by rw[c1,b1,a1];omega);rw[e4]at g4;have e5:=rJ e4
  obtain⟨k1,k2⟩:=Bk g4 (by
   rw[e5];obtain⟨k,l,hk⟩:=g3.some
   simp[hk]) (.inr (by rw[e5];rfl)) h
  rw[if_pos (by rw[e5];rfl)]at k2;refine⟨k1,?_⟩;have ht:top r4=⟨{st0 with kind:=6,x:=x},(r3.gY.length:Int)-1,false,false,0⟩:=by rw[e5];rfl
  have hb:iN r4=(r',.ok ()):=by
   unfold iq at h;rw[ht]at h;rw[if_neg (show ¬ (6:Int)=2 by decide),if_pos rfl]at h;exact h
  have hs:r'.gY=r4.gY:=by
   unfold iN at hb
   split at hb
   ·exact(MQ g4 hb).2
   ·exact(wz g4 (by
     rw[e5];obtain⟨k,l,hk⟩:=g3.some
     simp[hk]) hb).2
  rw[hs,e5];show r3.gY=r.gY;rw[c2,b2,a2]
 split at h
 ·obtain⟨r1,e1,h⟩:=im h;obtain⟨a1,a2,a3⟩:=ig (iB _ _) (gV _ _) e1;obtain⟨d1,d2⟩:=Cp (g.less a1 a2 a3) (by intro x hx;rw[a1]at hx;exact ho x hx) h;exact⟨d1,by rw[d2,a2]⟩
 split at h
 ·obtain⟨r1,e1,h⟩:=im h;obtain⟨a1,a2,a3⟩:=ig (iB _ _) (gV _ _) e1;obtain⟨d1,d2⟩:=Cp (g.less a1 a2 a3) (by intro x hx;rw[a1]at hx;exact ho x hx) h;exact⟨d1,by rw[d2,a2]⟩
 ·obtain⟨r1,nm,e1,h⟩:=jg h;obtain⟨a1,a2,a3⟩:=ig ud qb e1;obtain⟨d1,d2⟩:=At (g.less a1 a2 a3) (by intro x hx;rw[a1]at hx;exact ho x hx) h;exact⟨d1,by rw[d2,a2]⟩
structure sN(N:Nat)(r:Rs):Prop where
 good:Good N r
 ok:mH r
 st:r.gY.length+r.rest.length<=N
theorem P5(t:sN N r)(g':Good N r')(h:turn r=some (r',.ok ())):sN N r':=by
 have hl:=wq h;have hst:=t.st
 suffices hx:mH r'/\r'.gY.length+r'.rest.length<=N from⟨g',hx.1,hx.2⟩
 unfold turn at h
 split at h
 ·have h:=an h;unfold jr at h;obtain⟨r1,e1,h⟩:=im h;have s:=t.good.start hst;rw[e1]at s;obtain⟨s1,s2,s3,_,s5,s6,_⟩:=s;have hwt:=t.good.wt;obtain⟨k1,k2⟩:=MR s1 (s6 t.ok) (by have s3:r1.gY.length=_:=s3;omega) (by have s5:zk r1.hs=_:=s5;have s2:r1.rest=_:=s2;rw[s5,s2];exact hwt) h;refine⟨k1,?_⟩;have s3:r1.gY.length=_:=s3;rw[k2,s3];omega
 ·split at h
  ·next h2=>
   have h:=an h;obtain⟨k1,k2⟩:=Bk t.good h2 (.inl hst) h;refine⟨k1,?_⟩
   split at k2 <;> omega
  ·cases h
def TR(c:Cx)(k:Kx)(s:St)(r:Rs)(O:List Nat)(w:World)(v:Value)(w':World):Prop:=∃O',v=tA c (kI s r).2/\RM c k.X (kI s r).1 O' w'/\Gone O w O' w'
theorem wB{m:Int}{u:Bs}(k:M α):(jI m u r=true/\thn (lB m u) k r=k (jF r))\/(jI m u r=false/\thn (lB m u) k r=(r,.error .tok)):=by
 cases h:jI m u r with
 |true=>exact .inl ⟨rfl,by simp[thn,bnd,lB,h]⟩
 |false=>exact .inr ⟨rfl,by simp[thn,bnd,lB,h]⟩
theorem MS{T:Nat}(hrt:RT c (kT T) r (some s) O w)(hok:∀h∈r.hs,wW h){b1 b2:Nat}(h1:w.heap[b1]? =some (.cells #[.pointer (some ⟨c.R,0,none⟩)] 55))(h2:w.heap[b2]? =some (.cells #[.pointer (some ⟨T,0,none⟩)] 146))(n1:b1∉O)(n2:b2∉O):
  Calls ah 150 #[.pointer (some ⟨b1,0,none⟩),.pointer (some ⟨b2,0,none⟩)] w fun e w'=>∃v,e=.returned v/\TR c (kT T) s r O w v w':=by
 have hO:=fun b (hb:b∈O)=>(hrt.1.high b hb).2
 have t1:=oQ c.R ⟨#[59]⟩ w;have d1:w.cell? ⟨b1,0,none⟩=some (.pointer (some ⟨c.R,0,none⟩)):=by rw[af h1];rfl
 have CP:qes (∀w1 p1 p2 p3,rl c.R 3 ⟨#[59]⟩ w.heap.size p1 p2 p3 w1->Below w.heap.size w w1->Calls ah 177 #[.pointer (some ⟨p1,0,none⟩),.pointer (some ⟨p2,0,none⟩),.pointer (some ⟨p3,0,none⟩)] w1 fun e w'=>∃v,e=.returned v/\((jI 3 ik r=true/\v=.nilIface/\∃O',RT c (kT T) (jF r) (some s) O' w'/\Gone O w O' w')\/(jI 3 ik r=false/\v=ln c.t0/\TR c (kT T) s r O w v w'))):=fun w1 p1 p2 p3 hc hb=>by
  have hp:=(Cn (k:=kT T) (O0:=O) hO (kind:=3) (by decide) (l:=ik) rfl hc).2 w1 r (some s) O (gR.refl _ _) (hrt.below hb) (fun b hb'=>.inl hb') trivial;simp only[fE]at hp;refine hp.mono ?_;rintro e w' ⟨O',rfl,k1,k2⟩;have k2:=(Gone.of_below hb).trans k2
  cases ht:jI 3 ik r with
  |true=>
   have hm:ij (iO ik) (r,some s)=((jF r,some s),.ok ()):=by simp[ij,lB,ht]
   rw[hm]at k1 ⊢;exact⟨_,rfl,.inl ⟨rfl,rfl,O',k1,k2⟩⟩
  |false=>
   have hm:ij (iO ik) (r,some s)=((r,none),.error .tok):=by simp[ij,lB,ht]
   have he:kI s r=(r,.error .tok):=by simp[kI,thn,bnd,lB,ht]
   rw[hm]at k1 ⊢;exact⟨_,rfl,.inr ⟨rfl,rfl,O',by rw[he],by rw[he];exact k1.1,k2⟩⟩
 have CF:qes (∀w2 O',jI 3 ik r=true->RT c (kT T) (jF r) (some s) O' w2->Gone O w O' w2->∃(g:Nat)(l:List Hd)(nv:ByteArray)(ia xa ya ga:Option Addr)(il ic xl xc yl yc gl gc:Nat),w2.heap[b1]? =some (.cells #[.pointer (some ⟨c.R,0,none⟩)] 55)/\w2.heap[b2]? =some (.cells #[.pointer (some ⟨T,0,none⟩)] 146)/\w2.heap[T]? =some (.cells #[.int .i64 s.kind,.string nv,.slice ia il ic,.slice xa xl xc,.slice ya yl yc,.int .i64 s.gT,.slice none 0 0,.slice none 0 0,.slice none 0 0,.slice ga gl gc] 48)/\(∀W,Below w2.heap.size w2 W->Calls ah 108 #[.pointer (some ⟨c.R,0,none⟩)] W fun e w'=>e=.returned (.pointer (some ⟨g,l.length*14,none⟩))/\Below W.heap.size W w')/\∀W0 W,Below w2.heap.size w2 W0->Below W0.heap.size W0 W->Calls ah 151 #[.pointer (some ⟨g,l.length*14,none⟩),.agg #[.int .i64 s.kind,.string nv,.slice ia il ic,.slice xa xl xc,.slice ya yl yc,.int .i64 s.gT,.slice none 0 0,.slice none 0 0,.slice none 0 0,.slice ga gl gc]] W fun e w'=>e=.returned (.tuple #[])/\(w'.heap[b1]? =some (.cells #[.pointer (some ⟨c.R,0,none⟩)] 55)/\w'.heap[b2]? =some (.cells #[.pointer (some ⟨T,0,none⟩)] 146)/\w'.heap[T]? =some (.cells #[.int .i64 s.kind,.string nv,.slice ia il ic,.slice xa xl xc,.slice ya yl yc,.int .i64 s.gT,.slice none 0 0,.slice none 0 0,.slice none 0 0,.slice ga gl gc] 48))/\TR c (kT T) s r O w .nilIface w'):=fun w2 O' ht Y6 hg2=>by
  obtain⟨⟨at_,hv,sv,fa,fc,os,hx⟩,hT⟩:=Y6;obtain⟨nv,iv,xv,yv,gv,t1,t2,t3,t4,t5,t6,t7,t8,t9⟩:=hT s rfl;obtain⟨ia,il,ic,rfl⟩:=t3.shape;obtain⟨xa,xl,xc,rfl⟩:=t4.shape;obtain⟨ya,yl,yc,rfl⟩:=t5.shape;obtain⟨ga,gl,gc,rfl⟩:=t6.shape;obtain⟨hd,l,hh⟩:=hx.good.some;have Y7:r.hs=hd::l:=hh;obtain⟨g,cap,cur,c1,c2,o1,o2,hvv,e2,e3,e4,e5,e6,e7,e8,e9,e10,e11⟩:=hx.open hh;have hl:=hx.env.tks.hl;have Ut:=hx.good.hsl;rw[hh,aG]at Ut;have m1:b1∉O':=fun hm=>(hg2.own b1 hm).elim n1 (fun hl=>by have:=lt_of_heap h1;omega)
  have m2:b2∉O':=fun hm=>(hg2.own b2 hm).elim n2 (fun hl=>by have:=lt_of_heap h2;omega)
  have f1:=(hg2.keep.block b1 (lt_of_heap h1) n1).trans h1;have f2:=(hg2.keep.block b2 (lt_of_heap h2) n2).trans h2;refine⟨g,l,nv,ia,xa,ya,ga,il,ic,xl,xc,yl,yc,gl,gc,f1,f2,t1,fun W hW=>?_,fun W0 W hW0 hW=>?_⟩
  ·have hb:=hx.rb.below hW;rw[hvv]at hb;exact lr hb (by omega)
  ·have hW':=hW0.trans (hW.mono hW0.size);have hx':=hx.go (Y:=[]) (gR.of_below hW') (by simp) (hx.rb.below hW') hx.rest rfl rfl hx.fl (aj _);have hon:On (ji O') (ji O') w2 W:=fun b hb hl=>⟨hb,hW'.block b hl⟩
   have hsl:∀(l:List St),l=[]->lk W (ji O') l (.slice none 0 0):=fun l e=>by
    subst e;exact⟨[],⟨none,0,0,0,rfl,by simp,rfl,fun h=>by simp at h,fun j u hu=>by cases hu⟩,by simp only[oH]⟩
   have hst:xp W (ji O') s [.int .i64 s.kind,.string nv,.slice ia il ic,.slice xa xl xc,.slice ya yl yc,.int .i64 s.gT,.slice none 0 0,.slice none 0 0,.slice none 0 0,.slice ga gl gc]:=
    (nD _ _ _ _).2 ⟨nv,_,_,_,_,_,_,_,rfl,t2,t3.on hon,t4.on hon,t5.on hon,hsl _ t7,hsl _ t8,by rw[t9];exact⟨[],⟨none,0,0,0,rfl,by simp,rfl,fun h=>by simp at h,fun j u hu=>by cases hu⟩,by simp only[qH]⟩,t6.on hon⟩
   have hgd:Good c.toks.length {jF r with hs:=jc hd s::l}:=by
    have hlt:(jF r).rest.length<r.rest.length:=ve ht (by decide);exact(hrt.1.good).add (r':={jF r with hs:=jc hd s::l}) s Y7 rfl rfl hlt
   refine(EG hx' hh (hok hd (by rw[Y7];simp)) hst (g:=g) (by rw[hvv];rfl) hgd).mono ?_;rintro e w' ⟨rfl,os',O2,z1,z2,z3⟩
   have he:kI s r=({jF r with hs:=jc hd s::l},.ok ()):=by
    rcases wB (m:=3) (u:=ik) (r:=r) (K7 s)with⟨_,h⟩|⟨h,_⟩
    ·show thn _ _ _=_;rw[h];simp[K7,iS,top,jF,Y7]
    ·rw[ht]at h;cases h
   have qy:T∈(kT T).X:=by simp[kT]
   have lT:=(hx.high T (hx.kc qy)).2;refine⟨rfl,⟨?_,?_,?_⟩,O2,by rw[he];rfl,by rw[he];exact⟨_,_,_,_,_,_,z1⟩,hg2.trans ((Gone.of_below hW').trans z2)⟩
   ·exact(z2.keep.block b1 (aJ (lt_of_heap f1) hW'.size) m1).trans ((hW'.block b1 (lt_of_heap f1)).trans f1)
   ·exact(z2.keep.block b2 (aJ (lt_of_heap f2) hW'.size) m2).trans ((hW'.block b2 (lt_of_heap f2)).trans f2)
   ·exact(z3 T qy).trans ((hW'.block T lT).trans t1)
 unfold mT at t1;clear hrt hok h1 h2 n1 n2 hO;go_enter Tryz.func150,Tryz.ntmps150;go_wp2_with fail;refine t1.mono ?_;rintro e w1 ⟨p1,p2,p3,rfl,hc1,hb1⟩;have t2:=CP.o w1 p1 p2 p3 hc1 hb1;clear t1 hc1 hb1 d1 CP;go_wp2_with fail;refine t2.mono ?_;rintro e w2 ⟨v,rfl,⟨ht,rfl,O',k1,k2⟩|⟨ht,rfl,k1⟩⟩
 ·obtain⟨g,l,nv,ia,xa,ya,ga,il,ic,xl,xc,yl,yc,gl,gc,f1,f2,f3,f4,f5⟩:=CF.o w2 O' ht k1 k2;have HK:qes (∀W:World,(W.heap[b1]? =some (.cells #[.pointer (some ⟨c.R,0,none⟩)] 55)/\W.heap[b2]? =some (.cells #[.pointer (some ⟨T,0,none⟩)] 146)/\W.heap[T]? =some (.cells #[.int .i64 s.kind,.string nv,.slice ia il ic,.slice xa xl xc,.slice ya yl yc,.int .i64 s.gT,.slice none 0 0,.slice none 0 0,.slice none 0 0,.slice ga gl gc] 48))->(W.cell? ⟨b1,0,none⟩=some (.pointer (some ⟨c.R,0,none⟩))/\W.cell? ⟨b2,0,none⟩=some (.pointer (some ⟨T,0,none⟩))/\W.cell? ⟨T,0,none⟩=some (.int .i64 s.kind)/\W.cell? ⟨T,1,none⟩=some (.string nv)/\W.cell? ⟨T,2,none⟩=some (.slice ia il ic)/\W.cell? ⟨T,3,none⟩=some (.slice xa xl xc)/\W.cell? ⟨T,4,none⟩=some (.slice ya yl yc)/\W.cell? ⟨T,5,none⟩=some (.int .i64 s.gT)/\W.cell? ⟨T,6,none⟩=some (.slice none 0 0)/\W.cell? ⟨T,7,none⟩=some (.slice none 0 0)/\W.cell? ⟨T,8,none⟩=some (.slice none 0 0)/\W.cell? ⟨T,9,none⟩=some (.slice ga gl gc))/\(W.heap[b1]? =some (.cells #[.pointer (some ⟨c.R,0,none⟩)] 55)/\W.heap[b2]? =some (.cells #[.pointer (some ⟨T,0,none⟩)] 146)/\W.heap[T]? =some (.cells #[.int .i64 s.kind,.string nv,.slice ia il ic,.slice xa xl xc,.slice ya yl yc,.int .i64 s.gT,.slice none 0 0,.slice none 0 0,.slice none 0 0,.slice ga gl gc] 48))):=fun W h=>⟨⟨by rw[af h.1];rfl,by rw[af h.2.1];rfl,by rw[af h.2.2];rfl,by rw[af h.2.2];rfl,by rw[af h.2.2];rfl,by rw[af h.2.2];rfl,by rw[af h.2.2];rfl,by rw[af h.2.2];rfl,by rw[af h.2.2];rfl,by rw[af h.2.2];rfl,by rw[af h.2.2];rfl,by rw[af h.2.2];rfl⟩,h⟩
  have HKB:qes (∀W W':World,Below W.heap.size W W'->(W.heap[b1]? =some (.cells #[.pointer (some ⟨c.R,0,none⟩)] 55)/\W.heap[b2]? =some (.cells #[.pointer (some ⟨T,0,none⟩)] 146)/\W.heap[T]? =some (.cells #[.int .i64 s.kind,.string nv,.slice ia il ic,.slice xa xl xc,.slice ya yl yc,.int .i64 s.gT,.slice none 0 0,.slice none 0 0,.slice none 0 0,.slice ga gl gc] 48))->(W'.heap[b1]? =some (.cells #[.pointer (some ⟨c.R,0,none⟩)] 55)/\W'.heap[b2]? =some (.cells #[.pointer (some ⟨T,0,none⟩)] 146)/\W'.heap[T]? =some (.cells #[.int .i64 s.kind,.string nv,.slice ia il ic,.slice xa xl xc,.slice ya yl yc,.int .i64 s.gT,.slice none 0 0,.slice none 0 0,.slice none 0 0,.slice ga gl gc] 48))):=fun W W' hb h=>⟨(hb.block _ (lt_of_heap h.1)).trans h.1,(hb.block _ (lt_of_heap h.2.1)).trans h.2.1,(hb.block _ (lt_of_heap h.2.2)).trans h.2.2⟩
  have S1:=HK.o w2.drew ⟨f1,f2,f3⟩;have S0:=HK.o w2 ⟨f1,f2,f3⟩;have hbd:Below w2.heap.size w2 w2.drew:=(aw _ _).drew;have CI:=qet f4;have CA:=qet f5;clear t2 CF k1 k2 f1 f2 f3 f4 f5;go_wp2
  go_region_held3 (fun W=>(W.cell? ⟨b1,0,none⟩=some (.pointer (some ⟨c.R,0,none⟩))/\W.cell? ⟨b2,0,none⟩=some (.pointer (some ⟨T,0,none⟩))/\W.cell? ⟨T,0,none⟩=some (.int .i64 s.kind)/\W.cell? ⟨T,1,none⟩=some (.string nv)/\W.cell? ⟨T,2,none⟩=some (.slice ia il ic)/\W.cell? ⟨T,3,none⟩=some (.slice xa xl xc)/\W.cell? ⟨T,4,none⟩=some (.slice ya yl yc)/\W.cell? ⟨T,5,none⟩=some (.int .i64 s.gT)/\W.cell? ⟨T,6,none⟩=some (.slice none 0 0)/\W.cell? ⟨T,7,none⟩=some (.slice none 0 0)/\W.cell? ⟨T,8,none⟩=some (.slice none 0 0)/\W.cell? ⟨T,9,none⟩=some (.slice ga gl gc))/\(W.heap[b1]? =some (.cells #[.pointer (some ⟨c.R,0,none⟩)] 55)/\W.heap[b2]? =some (.cells #[.pointer (some ⟨T,0,none⟩)] 146)/\W.heap[T]? =some (.cells #[.int .i64 s.kind,.string nv,.slice ia il ic,.slice xa xl xc,.slice ya yl yc,.int .i64 s.gT,.slice none 0 0,.slice none 0 0,.slice none 0 0,.slice ga gl gc] 48))) (first|(with_reducible assumption)|(with_reducible exact HK.o _ hs4)|(with_reducible exact HK.o _ (HKB.o _ _ hb3 S1.2))) (first
   |(go_at_call 108;refine(CI.o _ hbd).mono ?_;rintro e w3 ⟨rfl,hb3⟩)
   |(go_at_call 151;refine(CA.o _ _ hbd hb3).mono ?_;rintro e w4 ⟨rfl,hs4,hq4⟩))
  all_goals
   have HQ:=qet hq4;clear hq4 hs4 hb3 S0 S1 hbd CI CA HK HKB;go_wp2;go_ret;exact⟨_,rfl,HQ.o⟩
 ·have HQ:=qet k1;clear t2 CF k1;go_wp2;go_ret;exact⟨_,rfl,HQ.o⟩
theorem Cr{O0:List Nat}(hO:∀b,b∈O0->b<w.heap.size){T:Nat}:Calls ah 106 #[.pointer (some ⟨c.R,0,none⟩),.pointer (some ⟨T,0,none⟩)] w (qL c (kT T) O0 pB (jf kI) w):=by
 refine(MF c.R T 0 w).mono ?_;rintro e w' ⟨b1,b2,rfl,hc,h2⟩;refine⟨_,_,_,rfl,⟨fun W=>by simp[go_sem],fun W' r o O hkeep hrt hown hpre=>?_⟩,h2⟩;obtain⟨⟨s,rfl⟩,hok⟩:=hpre;have hc':=hc.keep hkeep hO
 have nb:∀b,w.heap.size<=b->b<w'.heap.size->b∉O:=fun b h1 h2 hm=>by
  rcases hown b hm with hb|hb
  ·have:=hO b hb;omega
  ·omega
 have:=MS hrt hok hc'.h1 hc'.h2 (nb b1 hc.l1 (lt_of_heap hc.h1)) (nb b2 hc.l2 (lt_of_heap hc.h2));simp only[fE];refine this.mono ?_;rintro e W2 ⟨v,rfl,O',rfl,k1,k2⟩;exact⟨O',rfl,⟨k1,fun _ h=>by cases h⟩,k2⟩
variable {w1:World}
theorem EI{k:Kx}{o:Option St}(hrt:RT c k r o O w){kind:Int}(hk:kind≠0){u:ByteArray}{l:Bs}(hu:u.data.toList=l){p1 p2 p3:Nat}(hc:rl c.R kind u w.heap.size p1 p2 p3 w1)(hb:Below w.heap.size w w1):
  Calls ah 177 #[.pointer (some ⟨p1,0,none⟩),.pointer (some ⟨p2,0,none⟩),.pointer (some ⟨p3,0,none⟩)] w1 fun e w'=>∃v O',e=.returned v/\Gone O w O' w'/\((jI kind l r=true/\v=.nilIface/\RT c k (jF r) o O' w')\/(jI kind l r=false/\v=ln c.t0/\RT c k r none O' w')):=by
 have hp:=(Cn (k:=k) (O0:=O) (fun b hb=>(hrt.1.high b hb).2) hk hu hc).2 w1 r o O (gR.refl _ _) (hrt.below hb) (fun b hb'=>.inl hb') trivial;simp only[fE]at hp;refine hp.mono ?_;rintro e w' ⟨O',rfl,k1,k2⟩;have k2:=(Gone.of_below hb).trans k2
 cases ht:jI kind l r with
 |true=>
  have hm:ij (lB kind l) (r,o)=((jF r,o),.ok ()):=by simp[ij,lB,ht]
  rw[hm]at k1 ⊢;exact⟨_,O',rfl,k2,.inl ⟨rfl,rfl,k1⟩⟩
 |false=>
  have hm:ij (lB kind l) (r,o)=((r,none),.error .tok):=by simp[ij,lB,ht]
  rw[hm]at k1 ⊢;exact⟨_,O',rfl,k2,.inr ⟨rfl,rfl,k1⟩⟩
theorem Good.MT(g:Good N r){k:Hd}(hh:r.hs=h::k::l):Good N {r with hs:=k::l}/\Good N {r with hs:=jc k h.s::l}:=by
 obtain⟨a1,a2,a3,a4,a5,a6,a7,a8,a9,a10⟩:=g;rw[hh]at a1 a2 a3 a4 a5 a7 a9;obtain⟨c1,c2,c3,c4,c5⟩:=mj k h.s;have hw:=Ci k h.s;have hp:=xM h;simp only[ks]at a7;refine⟨⟨by simp,a2.2,fun x hx=>a3 x (by simp only[fI]at hx ⊢;exact aK _ hx),fun x hx=>a4 x (aK _ hx),fun x hx=>a5 x (aK _ hx),a6,by simp only[ks];omega,a8,fun _=>a9 (by simp),a10⟩,⟨by simp,ns a2.2 c5 c2,fun x hx=>a3 x (by simp only[fI]at hx ⊢;exact aK _ hx),?_,?_,a6,by simp only[ks];omega,a8,fun _=>a9 (by simp),a10⟩⟩
 ·intro x hx
  rcases aI.1 hx with rfl|hx
  ·rw[c4];exact a4 k (by simp)
  ·exact a4 x (by simp[hx])
 ·intro x hx
  rcases aI.1 hx with rfl|hx
  ·rw[c3];exact a5 k (by simp)
  ·exact a5 x (by simp[hx])
variable {B:Nat}{cap:Nat}{w':World}
theorem JP{n:Nat}{c1 c2:List Value}(h:w.ownsRow B 57 14 (.slice (some ⟨g,0,none⟩) (n+1+1) cap) (n+1+1) (c1++c2))(h1:c1.length=(n+1)*14)(hg:w'.heap[g]? =w.heap[g]?):w'.ownsRow B 57 14 (.slice (some ⟨g,0,none⟩) (n+1) cap) (n+1) c1:=by
 obtain⟨_,h2⟩:=h
 rcases h2 with⟨h2,_⟩|⟨g',cap',cur,h2,r1,r2,r3,r4,r5,r6⟩
 ·cases h2
 ·cases h2
  refine⟨h1,.inr ⟨g,cap,cur,rfl,r1,hg.trans r2,by omega,r4,r5,?_⟩⟩;have h9:=congrArg (List.take ((n+1)*14)) r6;rw[List.take_take,Nat.min_eq_left (by omega),<-h1,List.take_left]at h9;rw[<-h1];exact h9
theorem Cb.st{P P':Nat->Prop}{o:List Nat}(hh:Cb B w P h cl o)(hP:∀b,P b->P' b)(ho:∀b,b∈o->P' b)(hn:vi h<=1000000000):∃nv ia xa ya ba ea aa ga il ic xl xc yl yc bl bc el ec al ac gl gc,cl=[.int .i64 h.s.kind,.string nv,.slice ia il ic,.slice xa xl xc,.slice ya yl yc,.int .i64 h.s.gT,.slice ba bl bc,.slice ea el ec,.slice aa al ac,.slice ga gl gc,.int .i64 h.num,.bool h.iU,.bool h.gX,.int .i64 (h.first:Int)]/\xp w P' h.s [.int .i64 h.s.kind,.string nv,.slice ia il ic,.slice xa xl xc,.slice ya yl yc,.int .i64 h.s.gT,.slice ba bl bc,.slice ea el ec,.slice aa al ac,.slice ga gl gc]:=by
 obtain⟨nv,iv,xv,yv,bv,ev,av,gv,oa,ac,f1,f2,f3,f4,f5,f6,f7,f8,f9,f10,f11⟩:=hh;have hon:On P P' w w:=fun b hb _=>⟨hP b hb,rfl⟩
 have hw:h.s.body.length<=1000000000/\h.s.els.length<=1000000000/\zj h.s.arms<=1000000000:=by unfold vi at hn;omega
 have gs:∀ {l:List St}{v:Value},Mk B w P l v->l.length<=1000000000->(∀k,v.ownBlock=some k->P' k)->lk w P' l v:=fun {l}{v} hg hl hv=>by
  obtain⟨cs,g1,g2⟩:=hg;exact⟨cs,l6 g1 hl _ hv,oH.on hon _ _ g2⟩
 subst f11;have hb:=gs f6 hw.1 (fun k e=>ho k (by simp[e]));have he:=gs f7 hw.2.1 (fun k e=>ho k (by simp[e]))
 have ha:DL w P' h.s.arms av:=by
  have hal:=xQ h.s.arms;refine⟨ac,l6 f8 (by omega) _ (fun k e=>ho k (by simp[e])),?_⟩
  by_cases hne:h.s.arms=[]
  ·rw[hne]at f9 ⊢;simp only[xL]at f9;simp only[qH];exact f9.1
  ·obtain⟨az,a,has⟩:∃az a,h.s.arms=az++[a]:=⟨_,_,(List.dropLast_concat_getLast hne).symm⟩
   rw[has]at f9 ⊢;obtain⟨V8,lv,lb,g1,g2,g3,g4,g5,g6⟩:=vt _ _ _ _ f9;subst g1 g6
   have hlb:a.2.length<=1000000000:=by
    have:=hw.2.2;rw[has,vj]at this;simp only[zj,bL,List.map_nil,fo,List.sum_nil]at this;omega
   have h4:=gs g5 hlb (fun k e=>ho k (by simp[e]))
   have harr:∀(l:List (List Int×List St))(c1:List Value)(a:List Int×List St)(lv lb:Value),qH w P' l c1->AR w P' a.1 lv->lk w P' a.2 lb->qH w P' (l++[a]) (c1++[lv,lb]):=by
    intro l
    induction l with
    |nil=>
     intro c1 a lv lb q1 q2 q3;simp only[qH]at q1;subst q1;obtain⟨ls,b⟩:=a;obtain⟨cs,q3,q4⟩:=q3;simp only[bQ,qH,Ht];exact⟨_,[],by simp,rfl,⟨lv,lb,rfl,q2,cs,q3,q4⟩,rfl⟩
    |cons x l ih=>
     intro c1 a lv lb q1 q2 q3;simp only[qH,bM]at q1 ⊢;obtain⟨y,r,e1,e2,e3,e4⟩:=q1;exact⟨y,r++[lv,lb],by rw[e1,aO],e2,e3,ih r a lv lb e4 q2 q3⟩
   exact harr az V8 a lv lb (qH.on hon _ _ g3) (g4.on hon) h4
 obtain⟨ia,il,ic,rfl⟩:=f3.shape;obtain⟨xa,xl,xc,rfl⟩:=f4.shape;obtain⟨ya,yl,yc,rfl⟩:=f5.shape;obtain⟨ba,bl,bc,rfl⟩:=hb.shape;obtain⟨ea,el,ec,rfl⟩:=he.shape;obtain⟨aa,al,XV,rfl⟩:=ha.shape;obtain⟨ga,gl,gc,rfl⟩:=f10.shape;exact⟨nv,ia,xa,ya,ba,ea,aa,ga,il,ic,xl,xc,yl,yc,bl,bc,el,ec,al,XV,gl,gc,f1,(nD _ _ _ _).2 ⟨nv,_,_,_,_,_,_,_,rfl,f2,f3.on hon,f4.on hon,f5.on hon,hb,he,ha,f10.on hon⟩⟩
theorem oh.pop(h:oh c X r at_ hv sv fa fc os O w){kd:Hd}(hh:r.hs=hd::kd::l)(hvv:hv=.slice (some ⟨g,0,none⟩) (l.length+1+1) cap)(hb:Below w.heap.size w w1)(hw:w'=w1.setCell ⟨c.R,2,none⟩ (.slice (some ⟨g,0,none⟩) (l.length+1) cap)):
  ∃os' O',oh c X {r with hs:=kd::l} at_ (.slice (some ⟨g,0,none⟩) (l.length+1) cap) sv fa fc os' O' w'/\Gone O w O' w'/\(∀b,b∈O'->b∈O)/\∃nv ia xa ya ba ea aa ga il ic xl xc yl yc bl bc el ec al ac gl gc,(∀j u,[(.int .i64 hd.s.kind:Value),.string nv,.slice ia il ic,.slice xa xl xc,.slice ya yl yc,.int .i64 hd.s.gT,.slice ba bl bc,.slice ea el ec,.slice aa al ac,.slice ga gl gc,.int .i64 hd.num,.bool hd.iU,.bool hd.gX,.int .i64 (hd.first:Int)][j]? =some u->w.cell? ⟨g,(l.length+1)*14+j,none⟩=some u)/\xp w' (ji O') hd.s [.int .i64 hd.s.kind,.string nv,.slice ia il ic,.slice xa xl xc,.slice ya yl yc,.int .i64 hd.s.gT,.slice ba bl bc,.slice ea el ec,.slice aa al ac,.slice ga gl gc]:=by
 have hl:=h.env.tks.hl;have htw:=h.good.JN hh;obtain⟨g',cap',cur,c1,c2,o1,o2,e1,e2,e3,e4,e5,e6,e7,e8,e9,e10,e11⟩:=h.open hh;rw[hvv]at e1
 cases e1
 have hown:=h.own;rw[hvv,e5]at hown;have hX:X++c.R::(g::(sv.ownBlock.toList++o1))++o2=O:=by rw[hown];simp[bw]
 have hnd:=h.nodup;rw[<-hX,aR]at hnd;have hsub:∀b,b∈X++c.R::(g::(sv.ownBlock.toList++o1))->b∈O:=fun b hb=>by rw[<-hX];exact List.mem_append_left _ hb
 have hR:=h.high c.R h.iL
 have hk1:gR [c.R] w w':=by
  subst hw;exact(gR.of_below hb).setCell (p:=⟨c.R,2,none⟩) (.inl (by simp)) _
 have sM:gR O w w':=hk1.more fun k hk _=>by rw[aL.1 hk];exact h.iL
 have hnR:∀k,k∈g::(sv.ownBlock.toList++o1)->k≠c.R:=fun k hk e=>by
  have:=hnd.1;rw[aR]at this;exact(bV.1 this.2.1).1 (e ▸ hk)
 have hkk:∀k,k∈g::(sv.ownBlock.toList++o1)->k<w.heap.size->w'.heap[k]? =w.heap[k]? :=fun k hk hl=>hk1.block k hl (by simp[hnR k hk])
 have hrow:w'.heap[c.R]? =some (mb c.tv at_ (.slice (some ⟨g,0,none⟩) (l.length+1) cap) sv r.many fa fc c.dp):=by
  subst hw;have h1:=(hb.block c.R hR.2).trans h.rb.row;exact Gv h1
 have hfin:∀b,ji O b->ji (X++c.R::(g::(sv.ownBlock.toList++o1))) b:=fun b hb hm=>hb (hsub b hm)
 have hon:On (ji O) (ji (X++c.R::(g::(sv.ownBlock.toList++o1)))) w w':=fun b hb hlb=>⟨hfin b hb,sM.block b hlb hb⟩
 obtain⟨y1,y2⟩:=h.make (r':={r with hs:=kd::l}) (at':=at_) (hv':=.slice (some ⟨g,0,none⟩) (l.length+1) cap) (sv':=sv) (Ev:=fa) (Ew:=fc) (os':=o1) (O':=X++c.R::(g::(sv.ownBlock.toList++o1))) sM hrow h.rb.here h.rest h.fl ⟨c1,by
   rw[hvv]at e9;simp only[aG]at e9 e3
   exact JP e9 e3 (hkk g (by simp) (lt_of_heap e2)),hsR.on hon _ _ _ e6 (fun k hk=>hkk k (by simp[hk]))⟩ (iy h.st (fun k hk=>hkk k (by simp[hk]))) rfl hnd.1 (fun b hb=>.inl (hsub b hb)) (h.good.MT hh).1
 refine⟨_,_,y1,y2,hsub,?_⟩;obtain⟨nv,ia,xa,ya,ba,ea,aa,ga,il,ic,xl,xc,yl,yc,bl,bc,el,ec,al,ac,gl,gc,z1,z2⟩:=Cb.st e7 (P':=ji (X++c.R::(g::(sv.ownBlock.toList++o1)))) hfin (fun b hb hm=>hnd.2.2 b hm b hb rfl) (by omega);refine⟨nv,ia,xa,ya,ba,ea,aa,ga,il,ic,xl,xc,yl,yc,bl,bc,el,ec,al,ac,gl,gc,fun j u hu=>?_,xp.on (fun b hb hlb=>⟨hb,?_⟩) _ _ z2⟩
 ·rw[af e2];have:=e8 j u (by rw[z1];exact hu)
  simpa[aG]using this
 ·exact hk1.block b hlb (fun hm=>hb (by rw[aL.1 hm];simp))
def pN(c:Cx)(X:List Nat)(m:M Unit)(r:Rs)(O:List Nat)(w:World)(v:Value)(w':World):Prop:=∃O',v=tA c (m r).2/\RM c X (m r).1 O' w'/\Gone O w O' w'
def zw(R:Nat)(w:World):Nat:=match w.cell? ⟨R,2,none⟩with
 |some (.slice _ n _)=>n
 |_=>0
structure Cs(c:Cx)(X:List Nat)(r:Rs)(O:List Nat)(w:World)(wr:World)(rr:Rs):Prop where
 rm:∃O',RM c X rr O' wr/\Gone O w O' wr
 two:2<=rr.hs.length
 eq:rr={jF r with hs:=rr.hs}
 pop:lM rr.hs=lM r.hs
structure TS(c:Cx)(X:List Nat)(r:Rs)(O:List Nat)(w wr:World)(rr:Rs)(g n cap:Nat)(C14:List Value)(C10:Array Value)(el:Bool):Prop where
 cells:∀j u,C14[j]? =some u->wr.cell? ⟨g,(n+1)*14+j,none⟩=some u
 row:∃tv at_ sv mn fa fc dp,wr.heap[c.R]? =some (mb tv at_ (.slice (some ⟨g,0,none⟩) (n+1+1) cap) sv mn fa fc dp)
 blk:∃cur,wr.heap[g]? =some (.cells cur 57)
 Y8:n+1+1<=cap
 qcY:cap<=ff
 nn:n<=900000000
 len:zw c.R wr=n+1+1
 inn:∀W,Below wr.heap.size wr W->Calls ah 108 #[.pointer (some ⟨c.R,0,none⟩)] W fun e w'=>e=.returned (.pointer (some ⟨g,(n+1)*14,none⟩))/\Below W.heap.size W w'
 nxt:∀W,Below wr.heap.size wr W->(∀W2,Below (W.setCell ⟨c.R,2,none⟩ (.slice (some ⟨g,0,none⟩) (n+1) cap)).heap.size (W.setCell ⟨c.R,2,none⟩ (.slice (some ⟨g,0,none⟩) (n+1) cap)) W2->Calls ah 108 #[.pointer (some ⟨c.R,0,none⟩)] W2 fun e w'=>e=.returned (.pointer (some ⟨g,n*14,none⟩))/\Below W2.heap.size W2 w')/\
  ∀W2 W3 H,wr.heap.size<=H->H<W2.heap.size->Below (W.setCell ⟨c.R,2,none⟩ (.slice (some ⟨g,0,none⟩) (n+1) cap)).heap.size (W.setCell ⟨c.R,2,none⟩ (.slice (some ⟨g,0,none⟩) (n+1) cap)) W2->Below W2.heap.size W2 W3->Calls ah 151 #[.pointer (some ⟨g,n*14,none⟩),.agg C10] W3 fun e w'=>e=.returned (.tuple #[])/\w'.heap[H]? =W3.heap[H]? /\((el=false/\pN c X iQ r O w .nilIface w')\/(el=true/\zw c.R w'=n+1/\∃rr',Cs c X r O w w' rr'))
theorem RM.len(h:RM c X r O w):zw c.R w=r.hs.length:=by
 obtain⟨at_,hv,sv,fa,fc,os,hx⟩:=h;obtain⟨cs,h1,_⟩:=hx.hs;obtain⟨a,cap,hv'⟩:=lK h1;unfold zw;have hr:=hx.rb.row;unfold mb at hr;have:w.cell? ⟨c.R,2,none⟩=some hv:=by rw[af hr];rfl
 rw[this,hv']
theorem EJ(ht:jI 3 ik r=true){wr:World}{rr:Rs}(hI:Cs c X r O w wr rr):∃hd kd l g cap nv ia xa ya ba ea aa ga il ic xl xc yl yc bl bc el ec al ac gl gc,rr.hs=hd::kd::l/\TS c X r O w wr rr g l.length cap [(.int .i64 hd.s.kind:Value),.string nv,.slice ia il ic,.slice xa xl xc,.slice ya yl yc,.int .i64 hd.s.gT,.slice ba bl bc,.slice ea el ec,.slice aa al ac,.slice ga gl gc,.int .i64 hd.num,.bool hd.iU,.bool hd.gX,.int .i64 (hd.first:Int)] #[.int .i64 hd.s.kind,.string nv,.slice ia il ic,.slice xa xl xc,.slice ya yl yc,.int .i64 hd.s.gT,.slice ba bl bc,.slice ea el ec,.slice aa al ac,.slice ga gl gc] hd.iU:=by
 obtain⟨O1,hrm,hg⟩:=hI.rm;have hlen:=hrm.len;have hhigh:=hrm.high;obtain⟨at_,hv,sv,fa,fc,os,hx⟩:=hrm
 obtain⟨hd,kd,l,hh⟩:∃hd kd l,rr.hs=hd::kd::l:=by
  have h2:=hI.two
  cases e:rr.hs with
  |nil=>rw[e]at h2;simp at h2
  |cons a m=>
   cases m with
   |nil=>rw[e]at h2;simp at h2
   |cons b m=>exact⟨a,b,m,rfl⟩
 have hl:=hx.env.tks.hl;have hgd:=hx.good;have hsl:=hgd.hsl;rw[hh]at hsl hlen;simp only[aG]at hsl hlen;obtain⟨g,cap,cur,c1,c2,o1,o2,hvv,e2,e3,e4,e5,e6,e7,e8,e9,e10,e11⟩:=hx.open hh;simp only[aG]at hvv e11
 have hmax:cap<=ff:=by
  rw[hvv]at e9
  rcases e9.2 with⟨h,_⟩|⟨_,_,_,h,_,_,_,h4,_⟩
  ·cases h
  ·cases h;exact h4
 have hrow:=hx.rb.row;rw[hvv]at hrow;obtain⟨os0,O0,p1,p2,_,nv,ia,xa,ya,ba,ea,aa,ga,il,ic,xl,xc,yl,yc,bl,bc,el,ec,al,ac,gl,gc,p3,p4⟩:=hx.pop hh hvv (aw _ wr) rfl
 have hcl:c2=[(.int .i64 hd.s.kind:Value),.string nv,.slice ia il ic,.slice xa xl xc,.slice ya yl yc,.int .i64 hd.s.gT,.slice ba bl bc,.slice ea el ec,.slice aa al ac,.slice ga gl gc,.int .i64 hd.num,.bool hd.iU,.bool hd.gX,.int .i64 (hd.first:Int)]:=by
  apply List.ext_getElem?;intro j
  by_cases hj:j<14
  ·obtain⟨u,hu⟩:∃u,c2[j]? =some u:=⟨_,List.getElem?_eq_getElem (by omega)⟩
   obtain⟨v,hv'⟩:∃v,[(.int .i64 hd.s.kind:Value),.string nv,.slice ia il ic,.slice xa xl xc,.slice ya yl yc,.int .i64 hd.s.gT,.slice ba bl bc,.slice ea el ec,.slice aa al ac,.slice ga gl gc,.int .i64 hd.num,.bool hd.iU,.bool hd.gX,.int .i64 (hd.first:Int)][j]? =some v:=⟨_,List.getElem?_eq_getElem (by simpa using hj)⟩
   have a1:=e8 j u hu;have a2:=p3 j v hv';rw[af e2]at a2;simp only[aG]at a1;rw[hu,hv',<-a1,a2]
  ·rw[List.getElem?_eq_none (by omega),List.getElem?_eq_none (by simp;omega)]
 refine⟨hd,kd,l,g,cap,nv,ia,xa,ya,ba,ea,aa,ga,il,ic,xl,xc,yl,yc,bl,bc,el,ec,al,ac,gl,gc,hh,⟨p3,⟨_,_,_,_,_,_,_,hrow⟩,⟨_,e2⟩,by omega,hmax,by omega,hlen,fun W hW=>?_,fun W hW=>?_⟩⟩
 ·have hb:=hx.rb.below hW;rw[hvv]at hb;exact lr hb (by omega)
 ·obtain⟨os2,O2,q1,q2,q5,DS,Wz,WA,WB,ba',X7,ZF,ga',ZG,ZH,ZI,xc',yl',yc',bl',bc',el',ec',al',ac',gl',gc',q3,q4⟩:=hx.pop hh hvv hW rfl
  have hsame:[(.int .i64 hd.s.kind:Value),.string DS,.slice Wz ZG ZH,.slice WA ZI xc',.slice WB yl' yc',.int .i64 hd.s.gT,.slice ba' bl' bc',.slice X7 el' ec',.slice ZF al' ac',.slice ga' gl' gc']=[.int .i64 hd.s.kind,.string nv,.slice ia il ic,.slice xa xl xc,.slice ya yl yc,.int .i64 hd.s.gT,.slice ba bl bc,.slice ea el ec,.slice aa al ac,.slice ga gl gc]:=by
   apply List.ext_getElem?;intro j
   by_cases hj:j<10
   ·have h1:∀(L M:List Value),L.length=10->(L++M)[j]? =L[j]? :=fun L M hL=>List.getElem?_append_left (by omega)
    obtain⟨u,hu⟩:∃u,[(.int .i64 hd.s.kind:Value),.string DS,.slice Wz ZG ZH,.slice WA ZI xc',.slice WB yl' yc',.int .i64 hd.s.gT,.slice ba' bl' bc',.slice X7 el' ec',.slice ZF al' ac',.slice ga' gl' gc'][j]? =some u:=⟨_,List.getElem?_eq_getElem (by simpa using hj)⟩
    obtain⟨v,hv'⟩:∃v,[(.int .i64 hd.s.kind:Value),.string nv,.slice ia il ic,.slice xa xl xc,.slice ya yl yc,.int .i64 hd.s.gT,.slice ba bl bc,.slice ea el ec,.slice aa al ac,.slice ga gl gc][j]? =some v:=⟨_,List.getElem?_eq_getElem (by simpa using hj)⟩
    have a1:=q3 j u (by rw[<-hu];exact h1 [_,_,_,_,_,_,_,_,_,_] [_,_,_,_] rfl);have a2:=p3 j v (by rw[<-hv'];exact h1 [_,_,_,_,_,_,_,_,_,_] [_,_,_,_] rfl);rw[a1]at a2;rw[hu,hv',a2]
   ·rw[List.getElem?_eq_none (by simp;omega),List.getElem?_eq_none (by simp;omega)]
  rw[hsame]at q4;refine⟨fun W2 hW2=>lr (q1.rb.below hW2) (by omega),fun W2 W3 H hH1 hH2 hW2 hW3=>?_⟩;have hW':=hW2.trans (hW3.mono hW2.size);have hx':=q1.go (Y:=[]) (gR.of_below hW') (by simp) (q1.rb.below hW') q1.rest rfl rfl q1.fl (aj _);have hst:xp W3 (ji O2) hd.s _:=xp.on (fun b hb hl=>⟨hb,hW'.block b hl⟩) _ _ q4;have hpa:=(hgd.MT hh).2;have Y9:wW kd:=hgd.tl kd (by rw[hh];simp);refine(EG hx' rfl Y9 hst (g:=g) rfl hpa).mono ?_;rintro e w' ⟨rfl,os',O3,z1,z2,_⟩;have hHO:H∉O2:=fun hm=>by have:=(hhigh H (q5 H hm)).2;omega
  have R0:=hg.trans (q2.trans ((Gone.of_below hW').trans z2));have hHl:H<W3.heap.size:=aJ hH2 hW3.size;refine⟨rfl,z2.keep.block H hHl hHO,?_⟩;have TT:RM c X {rr with hs:=jc kd hd.s::l} O3 w':=⟨_,_,_,_,_,_,z1⟩
  cases hel:hd.iU with
  |false=>
   left
   refine⟨rfl,O3,?_,?_,R0⟩
   ·rcases wB (m:=3) (u:=ik) (r:=r) (fun r=>(({r with hs:=lM r.hs}:Rs),(.ok ():Except Er Unit)))with⟨_,h⟩|⟨h,_⟩
    ·show _=tA c (thn _ _ r).2;rw[h];rfl
    ·rw[ht]at h;cases h
   ·have he:(iQ r).1={rr with hs:=jc kd hd.s::l}:=by
     rcases wB (m:=3) (u:=ik) (r:=r) (fun r=>(({r with hs:=lM r.hs}:Rs),(.ok ():Except Er Unit)))with⟨_,h⟩|⟨h,_⟩
     ·show(thn _ _ r).1=_;rw[h];show({jF r with hs:=lM r.hs}:Rs)=_;rw[<-hI.pop,hh,qt hel,hI.eq]
     ·rw[ht]at h;cases h
    rw[he];exact TT
  |true=>
   right
   have hch:=hgd.ch;rw[hh]at hch;obtain⟨k2,m,hlm⟩:=th hch.2 (by rw[hch.1 hel];decide);refine⟨rfl,by rw[TT.len];simp,{rr with hs:=jc kd hd.s::l},⟨O3,TT,R0⟩,by rw[hlm];simp,?_,?_⟩
   ·rw[hI.eq]
   ·rw[<-hI.pop,hh,td hel]
theorem close_any(hrm:RM c X r O w)(h2:2<=r.hs.length):Calls ah 111 #[.pointer (some ⟨c.R,0,none⟩)] w fun e w'=>∃v,e=.returned v/\pN c X iQ r O w v w':=by
 have t1:=oQ c.R ⟨#[59]⟩ w;have hrt:RT c (k0 X) r none O w:=⟨hrm,fun _ h=>by cases h⟩
 have CP:qes (∀w1 p1 p2 p3,rl c.R 3 ⟨#[59]⟩ w.heap.size p1 p2 p3 w1->Below w.heap.size w w1->Calls ah 177 #[.pointer (some ⟨p1,0,none⟩),.pointer (some ⟨p2,0,none⟩),.pointer (some ⟨p3,0,none⟩)] w1 fun e w'=>∃v,e=.returned v/\((v=.nilIface/\jI 3 ik r=true/\Cs c X r O w w' (jF r))\/(v=ln c.t0/\pN c X iQ r O w v w'))):=fun w1 p1 p2 p3 hc hb=>by
  refine(EI hrt (by decide) (l:=ik) rfl hc hb).mono ?_;rintro e w' ⟨v,O',rfl,k1,⟨k2,rfl,k3⟩|⟨k2,rfl,k3⟩⟩
  ·exact⟨_,rfl,.inl ⟨rfl,k2,⟨O',k3.1,k1⟩,h2,rfl,rfl⟩⟩
  ·have he:iQ r=(r,.error .tok):=by simp[iQ,thn,bnd,lB,k2]
   exact⟨_,rfl,.inr ⟨rfl,O',by rw[he];rfl,by rw[he];exact k3.1,k1⟩⟩
 unfold mT at t1;clear hrm h2 hrt;go_enter Tryz.func111,Tryz.ntmps111;go_wp2_with fail;refine t1.mono ?_;rintro e w1 ⟨p1,p2,p3,rfl,hc1,hb1⟩;have t2:=CP.o w1 p1 p2 p3 hc1 hb1;clear t1 hc1 hb1 CP;go_wp2_with fail;refine t2.mono ?_;rintro e w2 ⟨v,rfl,⟨rfl,ht,k1⟩|⟨rfl,k1⟩⟩
 ·have HI:=qet k1;have HT:=qet ht;clear t2 k1 ht;go_wp2_with fail
  go_loopw [4] (fun _ wr=>∃rr,Cs c X r O w wr rr) (fun _ wr=>zw c.R wr)
  case atStart=>exact⟨_,HI.o⟩
  case round=>
   obtain⟨rr,hrr⟩:=hrel;obtain⟨hd,kd,l,g,cap,nv,ia,xa,ya,ba,ea,aa,ga,il,ic,xl,xc,yl,yc,bl,bc,el,ec,al,ac,gl,gc,hh,CR⟩:=EJ HT.o hrr;have t3:=CR.inn wr (aw _ _);have HC:=qet CR;have hln:=CR.len;have XW:=qet hln;clear hrr hh CR HI hln;go_wp2_with fail;refine t3.mono ?_;rintro e w3 ⟨rfl,hb3⟩;have HB3:=qet hb3;obtain⟨cur,hgr⟩:=HC.o.blk;have lg:=lt_of_heap hgr;obtain⟨qtv,qat,qsv,qmn,qfa,qfc,qdp,hrw⟩:=HC.o.row;have lR:=lt_of_heap hrw;have hrw3:=(hb3.block c.R lR).trans hrw;have lR3:=lt_of_heap hrw3;have XX:=HC.o.nn;have hcap:=HC.o.Y8;generalize l.length=n at *;obtain⟨P,hP⟩:∃P,P=(n+1)*14:=⟨_,rfl⟩
   have HPP:=qet hP;rw[<-hP];have d0:w3.cell? ⟨g,P,none⟩=some (.int .i64 hd.s.kind):=(World.cell?_of_block (hb3.block g lg)).trans (by rw[hP];exact HC.o.cells 0 _ rfl);have d1:w3.cell? ⟨g,P+1,none⟩=some (.string nv):=(World.cell?_of_block (hb3.block g lg)).trans (by rw[hP];exact HC.o.cells 1 _ rfl);have d2:w3.cell? ⟨g,P+2,none⟩=some (.slice ia il ic):=(World.cell?_of_block (hb3.block g lg)).trans (by rw[hP];exact HC.o.cells 2 _ rfl);have d3:w3.cell? ⟨g,P+3,none⟩=some (.slice xa xl xc):=(World.cell?_of_block (hb3.block g lg)).trans (by rw[hP];exact HC.o.cells 3 _ rfl);have d4:w3.cell? ⟨g,P+4,none⟩=some (.slice ya yl yc):=(World.cell?_of_block (hb3.block g lg)).trans (by rw[hP];exact HC.o.cells 4 _ rfl);have d5:w3.cell? ⟨g,P+5,none⟩=some (.int .i64 hd.s.gT):=(World.cell?_of_block (hb3.block g lg)).trans (by rw[hP];exact HC.o.cells 5 _ rfl);have d6:w3.cell? ⟨g,P+6,none⟩=some (.slice ba bl bc):=(World.cell?_of_block (hb3.block g lg)).trans (by rw[hP];exact HC.o.cells 6 _ rfl);have d7:w3.cell? ⟨g,P+7,none⟩=some (.slice ea el ec):=(World.cell?_of_block (hb3.block g lg)).trans (by rw[hP];exact HC.o.cells 7 _ rfl);have d8:w3.cell? ⟨g,P+8,none⟩=some (.slice aa al ac):=(World.cell?_of_block (hb3.block g lg)).trans (by rw[hP];exact HC.o.cells 8 _ rfl);have d9:w3.cell? ⟨g,P+9,none⟩=some (.slice ga gl gc):=(World.cell?_of_block (hb3.block g lg)).trans (by rw[hP];exact HC.o.cells 9 _ rfl);have d10:w3.cell? ⟨g,P+10,none⟩=some (.int .i64 hd.num):=(World.cell?_of_block (hb3.block g lg)).trans (by rw[hP];exact HC.o.cells 10 _ rfl);have d11:w3.cell? ⟨g,P+11,none⟩=some (.bool hd.iU):=(World.cell?_of_block (hb3.block g lg)).trans (by rw[hP];exact HC.o.cells 11 _ rfl);have d12:w3.cell? ⟨g,P+12,none⟩=some (.bool hd.gX):=(World.cell?_of_block (hb3.block g lg)).trans (by rw[hP];exact HC.o.cells 12 _ rfl);have d13:w3.cell? ⟨g,P+13,none⟩=some (.int .i64 (hd.first:Int)):=(World.cell?_of_block (hb3.block g lg)).trans (by rw[hP];exact HC.o.cells 13 _ rfl);have r2:∀o,(w3.alloc o).cell? ⟨c.R,2,none⟩=some (.slice (some ⟨g,0,none⟩) (n+1+1) cap):=fun o=>(World.cell?_alloc_lt _ _ _ lR3).trans (by rw[af hrw3];rfl)
   have r2f:∀o,(w3.alloc o).frozen? ⟨c.R,2,none⟩=false:=fun o=>aC ((bj w3 o c.R lR3).trans hrw3) 2
   have i0:(0:Int)<=(n:Int):=by omega
   have i1:(n:Int)<=900000000:=by omega
   have i2:(n:Int)+1<=(cap:Int):=by omega
   clear t3 hb3 hgr hrw hrw3 hP;go_wp2
   go_region
   clear d0 d1 d2 d3 d4 d5 d6 d7 d8 d9 d10 d11 d12 d13 r2 r2f
   have Wa:qes (((w3.setCell ⟨c.R,2,none⟩ (.slice (some ⟨g,0,none⟩) (n+1) cap)).alloc (.cells #[.int .i64 hd.s.kind,.string nv,.slice ia il ic,.slice xa xl xc,.slice ya yl yc,.int .i64 hd.s.gT,.slice ba bl bc,.slice ea el ec,.slice aa al ac,.slice ga gl gc,.int .i64 hd.num,.bool hd.iU,.bool hd.gX,.int .i64 (hd.first:Int)] 57)).drew.heap[w3.heap.size]? =some (.cells #[.int .i64 hd.s.kind,.string nv,.slice ia il ic,.slice xa xl xc,.slice ya yl yc,.int .i64 hd.s.gT,.slice ba bl bc,.slice ea el ec,.slice aa al ac,.slice ga gl gc,.int .i64 hd.num,.bool hd.iU,.bool hd.gX,.int .i64 (hd.first:Int)] 57)):=by
    have h1:=aE (w3.setCell ⟨c.R,2,none⟩ (.slice (some ⟨g,0,none⟩) (n+1) cap)) (.cells #[.int .i64 hd.s.kind,.string nv,.slice ia il ic,.slice xa xl xc,.slice ya yl yc,.int .i64 hd.s.gT,.slice ba bl bc,.slice ea el ec,.slice aa al ac,.slice ga gl gc,.int .i64 hd.num,.bool hd.iU,.bool hd.gX,.int .i64 (hd.first:Int)] 57);rw[bO]at h1;exact h1
   have HB4:qes (Below (w3.setCell ⟨c.R,2,none⟩ (.slice (some ⟨g,0,none⟩) (n+1) cap)).heap.size (w3.setCell ⟨c.R,2,none⟩ (.slice (some ⟨g,0,none⟩) (n+1) cap)) ((w3.setCell ⟨c.R,2,none⟩ (.slice (some ⟨g,0,none⟩) (n+1) cap)).alloc (.cells #[.int .i64 hd.s.kind,.string nv,.slice ia il ic,.slice xa xl xc,.slice ya yl yc,.int .i64 hd.s.gT,.slice ba bl bc,.slice ea el ec,.slice aa al ac,.slice ga gl gc,.int .i64 hd.num,.bool hd.iU,.bool hd.gX,.int .i64 (hd.first:Int)] 57)).drew):=((aw _ _).alloc (aj _) _).drew;obtain⟨w4,hw4⟩:∃w4,w4=((w3.setCell ⟨c.R,2,none⟩ (.slice (some ⟨g,0,none⟩) (n+1) cap)).alloc (.cells #[.int .i64 hd.s.kind,.string nv,.slice ia il ic,.slice xa xl xc,.slice ya yl yc,.int .i64 hd.s.gT,.slice ba bl bc,.slice ea el ec,.slice aa al ac,.slice ga gl gc,.int .i64 hd.num,.bool hd.iU,.bool hd.gX,.int .i64 (hd.first:Int)] 57)).drew:=⟨_,rfl⟩
   rw[<-hw4]at Wa HB4 ⊢;obtain⟨CI0,CA0⟩:=HC.o.nxt w3 HB3.o;have hbd:Below w4.heap.size w4 w4.drew:=(aw _ _).drew;have Wb:=qet hbd;have CI:qes (Calls ah 108 #[.pointer (some ⟨c.R,0,none⟩)] w4.drew fun e w'=>e=.returned (.pointer (some ⟨g,n*14,none⟩))/\Below w4.drew.heap.size w4.drew w'):=CI0 w4.drew HB4.o.drew;have CA:=qet (fun W3 hW3=>CA0 w4.drew W3 w3.heap.size HB3.o.size (lt_of_heap Wa.o) HB4.o.drew hW3);have HK:qes (∀W:World,W.heap[w3.heap.size]? =some (.cells #[.int .i64 hd.s.kind,.string nv,.slice ia il ic,.slice xa xl xc,.slice ya yl yc,.int .i64 hd.s.gT,.slice ba bl bc,.slice ea el ec,.slice aa al ac,.slice ga gl gc,.int .i64 hd.num,.bool hd.iU,.bool hd.gX,.int .i64 (hd.first:Int)] 57)->(W.cell? ⟨w3.heap.size,0,none⟩=some (.int .i64 hd.s.kind)/\W.cell? ⟨w3.heap.size,1,none⟩=some (.string nv)/\W.cell? ⟨w3.heap.size,2,none⟩=some (.slice ia il ic)/\W.cell? ⟨w3.heap.size,3,none⟩=some (.slice xa xl xc)/\W.cell? ⟨w3.heap.size,4,none⟩=some (.slice ya yl yc)/\W.cell? ⟨w3.heap.size,5,none⟩=some (.int .i64 hd.s.gT)/\W.cell? ⟨w3.heap.size,6,none⟩=some (.slice ba bl bc)/\W.cell? ⟨w3.heap.size,7,none⟩=some (.slice ea el ec)/\W.cell? ⟨w3.heap.size,8,none⟩=some (.slice aa al ac)/\W.cell? ⟨w3.heap.size,9,none⟩=some (.slice ga gl gc))/\W.heap[w3.heap.size]? =some (.cells #[.int .i64 hd.s.kind,.string nv,.slice ia il ic,.slice xa xl xc,.slice ya yl yc,.int .i64 hd.s.gT,.slice ba bl bc,.slice ea el ec,.slice aa al ac,.slice ga gl gc,.int .i64 hd.num,.bool hd.iU,.bool hd.gX,.int .i64 (hd.first:Int)] 57)):=fun W h=>⟨⟨by rw[af h];rfl,by rw[af h];rfl,by rw[af h];rfl,by rw[af h];rfl,by rw[af h];rfl,by rw[af h];rfl,by rw[af h];rfl,by rw[af h];rfl,by rw[af h];rfl,by rw[af h];rfl⟩,h⟩
   have S1:=HK.o w4.drew Wa.o;have S0:=HK.o w4 Wa.o;clear CI0 CA0 hw4 hbd;go_wp2
   go_region_held3 (fun W=>(W.cell? ⟨w3.heap.size,0,none⟩=some (.int .i64 hd.s.kind)/\W.cell? ⟨w3.heap.size,1,none⟩=some (.string nv)/\W.cell? ⟨w3.heap.size,2,none⟩=some (.slice ia il ic)/\W.cell? ⟨w3.heap.size,3,none⟩=some (.slice xa xl xc)/\W.cell? ⟨w3.heap.size,4,none⟩=some (.slice ya yl yc)/\W.cell? ⟨w3.heap.size,5,none⟩=some (.int .i64 hd.s.gT)/\W.cell? ⟨w3.heap.size,6,none⟩=some (.slice ba bl bc)/\W.cell? ⟨w3.heap.size,7,none⟩=some (.slice ea el ec)/\W.cell? ⟨w3.heap.size,8,none⟩=some (.slice aa al ac)/\W.cell? ⟨w3.heap.size,9,none⟩=some (.slice ga gl gc))/\W.heap[w3.heap.size]? =some (.cells #[.int .i64 hd.s.kind,.string nv,.slice ia il ic,.slice xa xl xc,.slice ya yl yc,.int .i64 hd.s.gT,.slice ba bl bc,.slice ea el ec,.slice aa al ac,.slice ga gl gc,.int .i64 hd.num,.bool hd.iU,.bool hd.gX,.int .i64 (hd.first:Int)] 57)) (first|(with_reducible assumption)|(with_reducible exact HK.o _ TU)|(with_reducible exact HK.o _ ((hb5.block _ (lt_of_heap S1.2)).trans S1.2))) (first
    |(go_at_call 108;refine(CI.o).mono ?_;rintro e w5 ⟨rfl,hb5⟩)
    |(go_at_call 151;refine(CA.o _ hb5).mono ?_;rintro e w6 ⟨rfl,hk6,hq6⟩;have TU:w6.heap[w3.heap.size]? =some (.cells #[.int .i64 hd.s.kind,.string nv,.slice ia il ic,.slice xa xl xc,.slice ya yl yc,.int .i64 hd.s.gT,.slice ba bl bc,.slice ea el ec,.slice aa al ac,.slice ga gl gc,.int .i64 hd.num,.bool hd.iU,.bool hd.gX,.int .i64 (hd.first:Int)] 57):=hk6.trans ((hb5.block _ (lt_of_heap S1.2)).trans S1.2)))
   all_goals
    have z11:w6.cell? ⟨w3.heap.size,11,none⟩=some (.bool hd.iU):=by rw[af TU];rfl
    clear S0 S1 CI CA HK hb5 hk6 TU Wb Wa HB4
    rcases hq6 with⟨hel,hq⟩|⟨hel,hlen,hq⟩
    ·have HQ:=qet hq;rw[hel]at z11;clear hq hel;go_wp2;go_ret;exact⟨_,rfl,HQ.o⟩
    ·have HQ:=qet hq;have HL:=qet hlen;rw[hel]at z11;clear hq hel hlen;go_wp2
     go_roundw
     case rel=>exact HQ.o
     case measure=>
      have h1:=HL.o;have h2:=XW.o;omega
 ·have HQ:=qet k1;clear t2 k1;go_wp2;go_ret;exact⟨_,rfl,HQ.o⟩
theorem EK:(ah.info? 103).map (fun i=>(i.zero,i.size,i.bytes))=some (some (.agg #[.int .i64 0,.int .i64 0,.bool false]),3,24):=by kernel_rfl
variable {dp:Int}{mn:Bool}{tv:Value}{R:Nat}
theorem TV{u:Value}(h:w.heap[R]? =some (mb tv at_ hv sv mn fa fc dp)):(w.setCell ⟨R,3,none⟩ u).heap[R]? =some (mb tv at_ hv u mn fa fc dp):=by
 unfold mb at h ⊢;rw[F4 h];rfl
def sO(B R:Nat)(tv hv sv:Value)(at_ m:Nat)(mn:Bool)(fa fc dp num:Int)(ss:List Value)(e:Bool)(W W':World):Prop:=∃gg cap,W'.heap[R]? =some (mb tv at_ hv (.slice (some ⟨gg,0,none⟩) (m+1) cap) mn fa fc dp)/\W'.ownsRow B 103 3 (.slice (some ⟨gg,0,none⟩) (m+1) cap) (m+1) (ss++[.int .i64 (at_:Int),.int .i64 num,.bool e])/\(sv.ownBlock=some gg\/W.heap.size<=gg)/\gg≠R/\gR (R::sv.ownBlock.toList) W W'
variable {ss:List Value}{num:Int}{m:Nat}
theorem mq{W:World}{A:Obj}{gg:Nat}(hr:W.heap[R]? =some (mb tv at_ hv sv mn fa fc dp))(hne:sv.ownBlock≠some R)(hg:(W.alloc A).drew.grownBy w1 sv.ownBlock)(hat:sv.ownBlock=some gg\/gg=(W.alloc A).drew.heap.size)(ho:w1.ownsRow B 103 3 (.slice (some ⟨gg,0,none⟩) (m+1) cap) (m+1) (ss++[.int .i64 (at_:Int),.int .i64 num,.bool e])):sO B R tv hv sv at_ m mn fa fc dp num ss e W (w1.setCell ⟨R,3,none⟩ (.slice (some ⟨gg,0,none⟩) (m+1) cap)):=by
 have lR:=lt_of_heap hr;have hz:(W.alloc A).drew.heap.size=W.heap.size+1:=by show(W.alloc A).heap.size=_;rw[aB]
 rw[hz]at hat
 have hgR:gg≠R:=by
  rintro rfl
  rcases hat with h|h
  ·exact hne h
  ·omega
 have hrow:=iE hr hg hne;refine⟨gg,cap,TV hrow,bJ ho (a:=⟨R,3,none⟩) (by show some gg≠some R;exact fun e=>hgR (an e)) _,hat.imp id (fun h=>by omega),hgR,?_⟩;exact((((gR.refl (R::sv.ownBlock.toList) W).alloc A).drew).grown hg (fun k hk=>.inl (by rw[hk];simp))).setCell (p:=⟨R,3,none⟩) (.inl (by simp)) _
variable {cur:Array Value}{sa:Option Addr}{p:Nat}{sc:Nat}
theorem MU(hr:w.heap[R]? =some (mb tv at_ hv (.slice sa m sc) mn fa fc dp))(hg:w.heap[g]? =some (.cells cur 57))(hnum:cur[p+10]? =some (.int .i64 num))(hown:w.ownsRow B 103 3 (.slice sa m sc) m ss)(hm:m<=1000000000)(hat:at_<=1000000000)(hB:B<=w.heap.size)(hne:(aZ sa m sc).ownBlock≠some R)(Iv:g≠R)(hsg:(aZ sa m sc).ownBlock≠some g)(hci:Calls ah 108 #[.pointer (some ⟨R,0,none⟩)] w fun e w'=>e=.returned (.pointer (some ⟨g,p,none⟩))/\Below w.heap.size w w'){kd:Int}(hkd:cur[p]? =some (.int .i64 kd))(hk:kd≠2):Calls ah 97 #[.pointer (some ⟨R,0,none⟩)] w fun e w'=>e=.returned (.tuple #[])/\∃W,Below w.heap.size w W/\sO B R tv hv (.slice sa m sc) at_ m mn fa fc dp num ss false W w':=by
 obtain⟨i0,hi,hz0,hz1,hz2⟩:=info_parts EK;have lR:=lt_of_heap hr;have lg:=lt_of_heap hg;have rW:=qet hne;have EL:=qet hsg;have U9:=qet Iv;have pQ:=qet hnum;have a0:(0:Int)<=(at_:Int):=by omega
 have a1:(at_:Int)<=1000000000:=by omega
 have m0:(0:Int)<=(m:Int):=by omega
 have m1:(m:Int)<=1000000000:=by omega
 have HW:qes (∀w1,Below w.heap.size w w1->w1.heap[R]? =some (mb tv at_ hv (.slice sa m sc) mn fa fc dp)/\w1.heap[g]? =some (.cells cur 57)/\w1.ownsRow B 103 3 (.slice sa m sc) m ss/\B<=w1.heap.size):=fun w1 hb=>⟨(hb.block R lR).trans hr,(hb.block g lg).trans hg,iy hown (fun k _ hl=>hb.block k hl),aP hB hb.size⟩
 clear hr hg hown hne hB hsg Iv;go_enter fU,fQ;go_wp2_with fail;refine hci.mono ?_;rintro e w1 ⟨rfl,hb1⟩;obtain⟨pR,hgW,vN,hBw⟩:=HW.o w1 hb1;have HRW:=qet pR;have xz:=qet hgW;have HOWN:=qet vN;have HB1:=qet hb1;have k0:w1.cell? ⟨g,p,none⟩=some (.int .i64 kd):=by rw[af hgW];exact hkd
 have kn:w1.cell? ⟨g,p+10,none⟩=some (.int .i64 num):=by rw[af hgW];exact hnum
 have k2:(kd==2)=false:=by rw[beq_eq_false_iff_ne];exact hk
 have c3:w1.cell? ⟨R,3,none⟩=some (.slice sa m sc):=by rw[af pR];rfl
 have c1:w1.cell? ⟨R,1,none⟩=some (.int .i64 (at_:Int)):=by rw[af pR];rfl
 have Va:∀o,(w1.alloc o).cell? ⟨R,3,none⟩=some (.slice sa m sc):=fun o=>(World.cell?_alloc_lt _ _ _ (lt_of_heap pR)).trans c3
 clear hci HW pR hgW vN hb1;go_wp2;have KA:∀o,(w1.alloc o).cell? ⟨R,1,none⟩=some (.int .i64 (at_:Int))/\(w1.alloc o).cell? ⟨g,p+10,none⟩=some (.int .i64 num):=fun o=>⟨(World.cell?_alloc_lt _ _ _ (lt_of_heap HRW.o)).trans c1,(World.cell?_alloc_lt _ _ _ (lt_of_heap xz.o)).trans kn⟩
 have xR:=qet KA;clear KA;refine ft ?_;refine fm (S:=fun W=>W.cell? ⟨R,1,none⟩=some (.int .i64 (at_:Int))/\W.cell? ⟨g,p+10,none⟩=some (.int .i64 num)) (by kernel_rfl) (show w1.cell? _=_/\w1.cell? _=_ from⟨c1,kn⟩) (fun hHeld=>?_);refine je 0 (.pointer (some ⟨R,0,none⟩)) hHeld ?_;refine je 1 (.pointer (some ⟨R,0,none⟩)) hHeld ?_;refine je 2 (.pointer (some ⟨R,0,none⟩)) hHeld ?_;refine je 3 (.pointer (some ⟨R,3,none⟩)) hHeld ?_;refine je 5 (.pointer (some ⟨R,0,none⟩)) hHeld ?_;refine je 6 (.pointer (some ⟨R,0,none⟩)) hHeld ?_;refine je 7 (.pointer (some ⟨R,1,none⟩)) hHeld ?_;refine je 8 (.int .i64 (at_:Int)) hHeld ?_;refine je 9 (.pointer (some ⟨g,p,none⟩)) hHeld ?_;refine je 10 (.pointer (some ⟨g,p,none⟩)) hHeld ?_;refine je 11 (.pointer (some ⟨g,p+10,none⟩)) hHeld ?_;refine je 12 (.int .i64 num) hHeld ?_;refine je 13 (.bool false) hHeld ?_;refine je 14 (.agg #[.int .i64 (at_:Int),.int .i64 num,.bool false]) hHeld ?_
 try simp only[aS,ak,aD,aF]
 refine fh (rs:=[4,15]) (by kernel_rfl) (by simp) ?_;refine bu (o:={dst:=some 53,op:=_,type:=_,pos:=_,after:=_,guard:=none}) rfl (fun K hK=>?_) (bu (o:={dst:=some 64,op:=_,type:=_,pos:=_,after:=_,guard:=none}) rfl (fun K hK=>?_) cz)
 ·go_simp
  refine hK.out _ _ ?_ (fun hHeld=>?_)
  ·first|exact hHeld|exact xR.o _
  clear hK K
  try simp only[aS,ak,aD,aF]
  refine mI 15 (fun K hK=>?_)
  go_simp
  refine hK.out _ _ ?_ (fun hHeld=>?_)
  ·first|exact hHeld|exact xR.o _
  clear hK K
  try simp only[aS,ak,aD,aF]
  refine mI 16 (fun K hK=>?_)
  (refine bK _ (by rfl) _ _ _ (by rfl) B 103 i0 _ 3 24 cK hi hz0 hz1 hz2 rfl (by omega) (.slice sa m sc) m _ (by rfl) (by exact(HOWN.o.alloc _)) ⟨w1.heap.size,0,none⟩ 1 1 [.int .i64 (at_:Int),.int .i64 num,.bool false] (by rfl) (by rfl) (bf (cs:=#[.int .i64 (at_:Int),.int .i64 num,.bool false]) (t:=103) (fr:=(0,0)) (by exact alloc_at w1 _)) (by simp[aY]) (by omega) (by unfold ff;omega) (by omega) (by simp;omega) _ rfl ?_;intro gg cap' w9 hown1 hgrow hat hlt;have f1:=iE HRW.o hgrow rW.o;have f2:=iE xz.o hgrow EL.o;have q3:w9.cell? ⟨R,3,none⟩=some (.slice sa m sc):=(by rw[af f1];rfl);have FI:w9.frozen? ⟨R,3,none⟩=false:=aC f1 3;have q1:w9.cell? ⟨R,1,none⟩=some (.int .i64 (at_:Int)):=(by rw[af f1];rfl);have qn:w9.cell? ⟨g,p+10,none⟩=some (.int .i64 num):=(by rw[af f2];exact pQ.o);have HG:=qet hgrow;have HA:=qet hat;have mh:=qet hown1;clear hgrow f1 f2 hown1 hat hlt)
  refine hK.out _ _ ?_ (fun hHeld=>?_)
  ·exact⟨q1,qn⟩
  clear hK K
  try simp only[aS,ak,aD,aF]
  refine je 17 (.pointer (some ⟨R,0,none⟩)) hHeld ?_;refine je 18 (.pointer (some ⟨R,3,none⟩)) hHeld ?_
  try simp only[aS,ak,aD,aF]
  refine mI 19 (fun K hK=>?_)
  go_simp
  refine hK.out _ _ ?_ (fun hHeld=>?_)
  ·exact⟨(World.cell?_setCell_other _ _ _ _ (by simp)).trans q1,(World.cell?_setCell_other _ _ _ _ (by simp)).trans qn⟩
  clear hK K
  try simp only[aS]
  refine bX (by kernel_rfl) ?_ _;refine bP ?_;go_wp2;refine aW (v:=.tuple #[]) ?_ rfl ⟨rfl,?_⟩
  ·simp[aV,cU,go_sem]
  ·exact⟨w1,HB1.o,mq HRW.o rW.o HG.o HA.o mh.o⟩
 ·go_simp
  refine hK.out _ _ ?_ (fun hHeld=>?_)
  ·first|exact hHeld|exact xR.o _
  clear hK K
  try simp only[aS,ak,aD,aF]
  refine mI 4 (fun K hK=>?_)
  go_simp
  refine hK.out _ _ ?_ (fun hHeld=>?_)
  ·first|exact hHeld|exact xR.o _
  clear hK K
  try simp only[aS,ak,aD,aF]
  refine mI 16 (fun K hK=>?_)
  (refine bK _ (by rfl) _ _ _ (by rfl) B 103 i0 _ 3 24 cK hi hz0 hz1 hz2 rfl (by omega) (.slice sa m sc) m _ (by rfl) (by exact(HOWN.o.alloc _)) ⟨w1.heap.size,0,none⟩ 1 1 [.int .i64 (at_:Int),.int .i64 num,.bool false] (by rfl) (by rfl) (bf (cs:=#[.int .i64 (at_:Int),.int .i64 num,.bool false]) (t:=103) (fr:=(0,0)) (by exact alloc_at w1 _)) (by simp[aY]) (by omega) (by unfold ff;omega) (by omega) (by simp;omega) _ rfl ?_;intro gg cap' w9 hown1 hgrow hat hlt;have f1:=iE HRW.o hgrow rW.o;have f2:=iE xz.o hgrow EL.o;have q3:w9.cell? ⟨R,3,none⟩=some (.slice sa m sc):=(by rw[af f1];rfl);have FI:w9.frozen? ⟨R,3,none⟩=false:=aC f1 3;have q1:w9.cell? ⟨R,1,none⟩=some (.int .i64 (at_:Int)):=(by rw[af f1];rfl);have qn:w9.cell? ⟨g,p+10,none⟩=some (.int .i64 num):=(by rw[af f2];exact pQ.o);have HG:=qet hgrow;have HA:=qet hat;have mh:=qet hown1;clear hgrow f1 f2 hown1 hat hlt)
  refine hK.out _ _ ?_ (fun hHeld=>?_)
  ·exact⟨q1,qn⟩
  clear hK K
  try simp only[aS,ak,aD,aF]
  refine je 17 (.pointer (some ⟨R,0,none⟩)) hHeld ?_;refine je 18 (.pointer (some ⟨R,3,none⟩)) hHeld ?_
  try simp only[aS,ak,aD,aF]
  refine mI 19 (fun K hK=>?_)
  go_simp
  refine hK.out _ _ ?_ (fun hHeld=>?_)
  ·exact⟨(World.cell?_setCell_other _ _ _ _ (by simp)).trans q1,(World.cell?_setCell_other _ _ _ _ (by simp)).trans qn⟩
  clear hK K
  try simp only[aS]
  refine bX (by kernel_rfl) ?_ _;refine bP ?_;go_wp2;refine aW (v:=.tuple #[]) ?_ rfl ⟨rfl,?_⟩
  ·simp[aV,cU,go_sem]
  ·exact⟨w1,HB1.o,mq HRW.o rW.o HG.o HA.o mh.o⟩
theorem MV(hr:w.heap[R]? =some (mb tv at_ hv (.slice sa m sc) mn fa fc dp))(hg:w.heap[g]? =some (.cells cur 57))(hnum:cur[p+10]? =some (.int .i64 num))(hown:w.ownsRow B 103 3 (.slice sa m sc) m ss)(hm:m<=1000000000)(hat:at_<=1000000000)(hB:B<=w.heap.size)(hne:(aZ sa m sc).ownBlock≠some R)(Iv:g≠R)(hsg:(aZ sa m sc).ownBlock≠some g)(hci:Calls ah 108 #[.pointer (some ⟨R,0,none⟩)] w fun e w'=>e=.returned (.pointer (some ⟨g,p,none⟩))/\Below w.heap.size w w')(hkd:cur[p]? =some (.int .i64 2))(hie:cur[p+12]? =some (.bool false)):Calls ah 97 #[.pointer (some ⟨R,0,none⟩)] w fun e w'=>e=.returned (.tuple #[])/\∃W,Below w.heap.size w W/\sO B R tv hv (.slice sa m sc) at_ m mn fa fc dp num ss false W w':=by
 obtain⟨i0,hi,hz0,hz1,hz2⟩:=info_parts EK;have lR:=lt_of_heap hr;have lg:=lt_of_heap hg;have rW:=qet hne;have EL:=qet hsg;have U9:=qet Iv;have pQ:=qet hnum;have a0:(0:Int)<=(at_:Int):=by omega
 have a1:(at_:Int)<=1000000000:=by omega
 have m0:(0:Int)<=(m:Int):=by omega
 have m1:(m:Int)<=1000000000:=by omega
 have HW:qes (∀w1,Below w.heap.size w w1->w1.heap[R]? =some (mb tv at_ hv (.slice sa m sc) mn fa fc dp)/\w1.heap[g]? =some (.cells cur 57)/\w1.ownsRow B 103 3 (.slice sa m sc) m ss/\B<=w1.heap.size):=fun w1 hb=>⟨(hb.block R lR).trans hr,(hb.block g lg).trans hg,iy hown (fun k _ hl=>hb.block k hl),aP hB hb.size⟩
 clear hr hg hown hne hB hsg Iv;go_enter fU,fQ;go_wp2_with fail;refine hci.mono ?_;rintro e w1 ⟨rfl,hb1⟩;obtain⟨pR,hgW,vN,hBw⟩:=HW.o w1 hb1;have HRW:=qet pR;have xz:=qet hgW;have HOWN:=qet vN;have HB1:=qet hb1;have k0:w1.cell? ⟨g,p,none⟩=some (.int .i64 2):=by rw[af hgW];exact hkd
 have k12:w1.cell? ⟨g,p+12,none⟩=some (.bool false):=by rw[af hgW];exact hie
 have kn:w1.cell? ⟨g,p+10,none⟩=some (.int .i64 num):=by rw[af hgW];exact hnum
 have c3:w1.cell? ⟨R,3,none⟩=some (.slice sa m sc):=by rw[af pR];rfl
 have c1:w1.cell? ⟨R,1,none⟩=some (.int .i64 (at_:Int)):=by rw[af pR];rfl
 have Va:∀o,(w1.alloc o).cell? ⟨R,3,none⟩=some (.slice sa m sc):=fun o=>(World.cell?_alloc_lt _ _ _ (lt_of_heap pR)).trans c3
 clear hci HW pR hgW vN hb1;go_wp2;have KA:∀o,(w1.alloc o).cell? ⟨R,1,none⟩=some (.int .i64 (at_:Int))/\(w1.alloc o).cell? ⟨g,p+10,none⟩=some (.int .i64 num):=fun o=>⟨(World.cell?_alloc_lt _ _ _ (lt_of_heap HRW.o)).trans c1,(World.cell?_alloc_lt _ _ _ (lt_of_heap xz.o)).trans kn⟩
 have xR:=qet KA;clear KA;refine ft ?_;refine fm (S:=fun W=>W.cell? ⟨R,1,none⟩=some (.int .i64 (at_:Int))/\W.cell? ⟨g,p+10,none⟩=some (.int .i64 num)) (by kernel_rfl) (show w1.cell? _=_/\w1.cell? _=_ from⟨c1,kn⟩) (fun hHeld=>?_);refine je 0 (.pointer (some ⟨R,0,none⟩)) hHeld ?_;refine je 1 (.pointer (some ⟨R,0,none⟩)) hHeld ?_;refine je 2 (.pointer (some ⟨R,0,none⟩)) hHeld ?_;refine je 3 (.pointer (some ⟨R,3,none⟩)) hHeld ?_;refine je 5 (.pointer (some ⟨R,0,none⟩)) hHeld ?_;refine je 6 (.pointer (some ⟨R,0,none⟩)) hHeld ?_;refine je 7 (.pointer (some ⟨R,1,none⟩)) hHeld ?_;refine je 8 (.int .i64 (at_:Int)) hHeld ?_;refine je 9 (.pointer (some ⟨g,p,none⟩)) hHeld ?_;refine je 10 (.pointer (some ⟨g,p,none⟩)) hHeld ?_;refine je 11 (.pointer (some ⟨g,p+10,none⟩)) hHeld ?_;refine je 12 (.int .i64 num) hHeld ?_;refine je 13 (.bool false) hHeld ?_;refine je 14 (.agg #[.int .i64 (at_:Int),.int .i64 num,.bool false]) hHeld ?_
 try simp only[aS,ak,aD,aF]
 refine fh (rs:=[4,15]) (by kernel_rfl) (by simp) ?_;refine bu (o:={dst:=some 53,op:=_,type:=_,pos:=_,after:=_,guard:=none}) rfl (fun K hK=>?_) (bu (o:={dst:=some 64,op:=_,type:=_,pos:=_,after:=_,guard:=none}) rfl (fun K hK=>?_) cz)
 ·go_simp
  refine hK.out _ _ ?_ (fun hHeld=>?_)
  ·first|exact hHeld|exact xR.o _
  clear hK K
  try simp only[aS,ak,aD,aF]
  refine mI 15 (fun K hK=>?_)
  go_simp
  refine hK.out _ _ ?_ (fun hHeld=>?_)
  ·first|exact hHeld|exact xR.o _
  clear hK K
  try simp only[aS,ak,aD,aF]
  refine mI 16 (fun K hK=>?_)
  (refine bK _ (by rfl) _ _ _ (by rfl) B 103 i0 _ 3 24 cK hi hz0 hz1 hz2 rfl (by omega) (.slice sa m sc) m _ (by rfl) (by exact(HOWN.o.alloc _)) ⟨w1.heap.size,0,none⟩ 1 1 [.int .i64 (at_:Int),.int .i64 num,.bool false] (by rfl) (by rfl) (bf (cs:=#[.int .i64 (at_:Int),.int .i64 num,.bool false]) (t:=103) (fr:=(0,0)) (by exact alloc_at w1 _)) (by simp[aY]) (by omega) (by unfold ff;omega) (by omega) (by simp;omega) _ rfl ?_;intro gg cap' w9 hown1 hgrow hat hlt;have f1:=iE HRW.o hgrow rW.o;have f2:=iE xz.o hgrow EL.o;have q3:w9.cell? ⟨R,3,none⟩=some (.slice sa m sc):=(by rw[af f1];rfl);have FI:w9.frozen? ⟨R,3,none⟩=false:=aC f1 3;have q1:w9.cell? ⟨R,1,none⟩=some (.int .i64 (at_:Int)):=(by rw[af f1];rfl);have qn:w9.cell? ⟨g,p+10,none⟩=some (.int .i64 num):=(by rw[af f2];exact pQ.o);have HG:=qet hgrow;have HA:=qet hat;have mh:=qet hown1;clear hgrow f1 f2 hown1 hat hlt)
  refine hK.out _ _ ?_ (fun hHeld=>?_)
  ·exact⟨q1,qn⟩
  clear hK K
  try simp only[aS,ak,aD,aF]
  refine je 17 (.pointer (some ⟨R,0,none⟩)) hHeld ?_;refine je 18 (.pointer (some ⟨R,3,none⟩)) hHeld ?_
  try simp only[aS,ak,aD,aF]
  refine mI 19 (fun K hK=>?_)
  go_simp
  refine hK.out _ _ ?_ (fun hHeld=>?_)
  ·exact⟨(World.cell?_setCell_other _ _ _ _ (by simp)).trans q1,(World.cell?_setCell_other _ _ _ _ (by simp)).trans qn⟩
  clear hK K
  try simp only[aS]
  refine bX (by kernel_rfl) ?_ _;refine bP ?_;go_wp2;refine aW (v:=.tuple #[]) ?_ rfl ⟨rfl,?_⟩
  ·simp[aV,cU,go_sem]
  ·exact⟨w1,HB1.o,mq HRW.o rW.o HG.o HA.o mh.o⟩
 ·go_simp
  refine hK.out _ _ ?_ (fun hHeld=>?_)
  ·first|exact hHeld|exact xR.o _
  clear hK K
  try simp only[aS,ak,aD,aF]
  refine mI 4 (fun K hK=>?_)
  go_simp
  refine hK.out _ _ ?_ (fun hHeld=>?_)
  ·first|exact hHeld|exact xR.o _
  clear hK K
  try simp only[aS,ak,aD,aF]
  refine mI 16 (fun K hK=>?_)
  (refine bK _ (by rfl) _ _ _ (by rfl) B 103 i0 _ 3 24 cK hi hz0 hz1 hz2 rfl (by omega) (.slice sa m sc) m _ (by rfl) (by exact(HOWN.o.alloc _)) ⟨w1.heap.size,0,none⟩ 1 1 [.int .i64 (at_:Int),.int .i64 num,.bool false] (by rfl) (by rfl) (bf (cs:=#[.int .i64 (at_:Int),.int .i64 num,.bool false]) (t:=103) (fr:=(0,0)) (by exact alloc_at w1 _)) (by simp[aY]) (by omega) (by unfold ff;omega) (by omega) (by simp;omega) _ rfl ?_;intro gg cap' w9 hown1 hgrow hat hlt;have f1:=iE HRW.o hgrow rW.o;have f2:=iE xz.o hgrow EL.o;have q3:w9.cell? ⟨R,3,none⟩=some (.slice sa m sc):=(by rw[af f1];rfl);have FI:w9.frozen? ⟨R,3,none⟩=false:=aC f1 3;have q1:w9.cell? ⟨R,1,none⟩=some (.int .i64 (at_:Int)):=(by rw[af f1];rfl);have qn:w9.cell? ⟨g,p+10,none⟩=some (.int .i64 num):=(by rw[af f2];exact pQ.o);have HG:=qet hgrow;have HA:=qet hat;have mh:=qet hown1;clear hgrow f1 f2 hown1 hat hlt)
  refine hK.out _ _ ?_ (fun hHeld=>?_)
  ·exact⟨q1,qn⟩
  clear hK K
  try simp only[aS,ak,aD,aF]
  refine je 17 (.pointer (some ⟨R,0,none⟩)) hHeld ?_;refine je 18 (.pointer (some ⟨R,3,none⟩)) hHeld ?_
  try simp only[aS,ak,aD,aF]
  refine mI 19 (fun K hK=>?_)
  go_simp
  refine hK.out _ _ ?_ (fun hHeld=>?_)
  ·exact⟨(World.cell?_setCell_other _ _ _ _ (by simp)).trans q1,(World.cell?_setCell_other _ _ _ _ (by simp)).trans qn⟩
  clear hK K
  try simp only[aS]
  refine bX (by kernel_rfl) ?_ _;refine bP ?_;go_wp2;refine aW (v:=.tuple #[]) ?_ rfl ⟨rfl,?_⟩
  ·simp[aV,cU,go_sem]
  ·exact⟨w1,HB1.o,mq HRW.o rW.o HG.o HA.o mh.o⟩
theorem zx{W0 W2 W3:World}(h2:W2=W0)(h3:W3=W2.drew)(h:sO B R tv hv sv at_ m mn fa fc dp num ss e W3 w'):sO B R tv hv sv at_ m mn fa fc dp num ss e W0 w':=by
 subst h2 h3;obtain⟨gg,cap,h1,h2,h3,h4,h5⟩:=h;exact⟨gg,cap,h1,h2,h3,h4,h5.os,h5.tape,h5.output,h5.size,h5.block⟩
theorem P6(hr:w.heap[R]? =some (mb tv at_ hv (.slice sa m sc) mn fa fc dp))(hg:w.heap[g]? =some (.cells cur 57))(hnum:cur[p+10]? =some (.int .i64 num))(hown:w.ownsRow B 103 3 (.slice sa m sc) m ss)(hm:m<=1000000000)(hat:at_<=1000000000)(hB:B<=w.heap.size)(hne:(aZ sa m sc).ownBlock≠some R)(Iv:g≠R)(hsg:(aZ sa m sc).ownBlock≠some g)(hci:Calls ah 108 #[.pointer (some ⟨R,0,none⟩)] w fun e w'=>e=.returned (.pointer (some ⟨g,p,none⟩))/\Below w.heap.size w w'){ea:Option Addr}{el ec fs:Nat}{bo:Value}(hkd:cur[p]? =some (.int .i64 2))(hie:cur[p+12]? =some (.bool true))(hev:cur[p+7]? =some (.slice ea (el+1) ec))(hel:el<=1000000000)(hfs:cur[p+13]? =some (.int .i64 (fs:Int)))(hfm:fs<m){sb:Nat}(hsa:sa=some ⟨sb,0,none⟩)(PD:ss[fs*3+2]? =some bo):Calls ah 97 #[.pointer (some ⟨R,0,none⟩)] w fun e w'=>e=.returned (.tuple #[])/\∃W,Below w.heap.size w W/\sO B R tv hv (.slice sa m sc) at_ m mn fa fc dp num (ss.set (fs*3+2) (.bool false)) false (W.setCell ⟨sb,fs*3+2,none⟩ (.bool false)) w':=by
 subst hsa;obtain⟨i0,hi,hz0,hz1,hz2⟩:=info_parts EK;have lR:=lt_of_heap hr;have lg:=lt_of_heap hg;have rW:=qet hne;have EL:=qet hsg;have U9:=qet Iv;have pQ:=qet hnum;have a0:(0:Int)<=(at_:Int):=by omega
 have a1:(at_:Int)<=1000000000:=by omega
 have m0:(0:Int)<=(m:Int):=by omega
 have m1:(m:Int)<=1000000000:=by omega
 have HW:qes (∀w1,Below w.heap.size w w1->w1.heap[R]? =some (mb tv at_ hv (.slice (some ⟨sb,0,none⟩) m sc) mn fa fc dp)/\w1.heap[g]? =some (.cells cur 57)/\w1.ownsRow B 103 3 (.slice (some ⟨sb,0,none⟩) m sc) m ss/\B<=w1.heap.size):=fun w1 hb=>⟨(hb.block R lR).trans hr,(hb.block g lg).trans hg,iy hown (fun k _ hl=>hb.block k hl),aP hB hb.size⟩
 clear hr hg hown hne hB hsg Iv;go_enter fU,fQ;go_wp2_with fail;refine hci.mono ?_;rintro e w1 ⟨rfl,hb1⟩;obtain⟨pR,hgW,vN,hBw⟩:=HW.o w1 hb1;have HRW:=qet pR;have xz:=qet hgW;have HOWN:=qet vN;have HB1:=qet hb1;have k0:w1.cell? ⟨g,p,none⟩=some (.int .i64 2):=by rw[af hgW];exact hkd
 have k12:w1.cell? ⟨g,p+12,none⟩=some (.bool true):=by rw[af hgW];exact hie
 have k7:w1.cell? ⟨g,p+7,none⟩=some (.slice ea (el+1) ec):=by rw[af hgW];exact hev
 have k13:w1.cell? ⟨g,p+13,none⟩=some (.int .i64 (fs:Int)):=by rw[af hgW];exact hfs
 have kn0:w1.cell? ⟨g,p+10,none⟩=some (.int .i64 num):=by rw[af hgW];exact hnum
 have Wc:w1.cell? ⟨R,3,none⟩=some (.slice (some ⟨sb,0,none⟩) m sc):=by rw[af pR];rfl
 have i1:((el:Int)+1==0)=false:=by rw[beq_eq_false_iff_ne];omega
 have i2:(fs:Int)<(m:Int):=by omega
 have i3:(0:Int)<=(fs:Int):=by omega
 obtain⟨MW,hs1,hs2,hs3⟩:∃MW,w1.heap[sb]? =some (.cells MW 103)/\MW[fs*3+2]? =some bo/\w1.ownsRow B 103 3 (.slice (some ⟨sb,0,none⟩) m sc) m ss:=by
  rcases vN.2 with⟨h,_⟩|⟨g',cap',MW,h,r1,r2,r3,r4,r5,r6⟩
  ·cases h
  ·cases h
   refine⟨MW,r2,?_,vN⟩;have h9:=congrArg (fun q=>q[fs*3+2]?) r6;rw[List.getElem?_take_of_lt (by omega),PD,Array.getElem?_toList]at h9;exact h9
 have x0:w1.cell? ⟨sb,fs*3+2,none⟩=some bo:=by rw[af hs1];exact hs2
 have x0f:w1.frozen? ⟨sb,fs*3+2,none⟩=false:=aC hs1 _;have nsR:sb≠R:=fun e=>rW.o (by rw[e];rfl)
 have nsg:sb≠g:=fun e=>EL.o (by rw[e];rfl)
 have HX:qes ((w1.setCell ⟨sb,fs*3+2,none⟩ (.bool false)).heap[R]? =some (mb tv at_ hv (.slice (some ⟨sb,0,none⟩) m sc) mn fa fc dp)/\(w1.setCell ⟨sb,fs*3+2,none⟩ (.bool false)).heap[g]? =some (.cells cur 57)/\(w1.setCell ⟨sb,fs*3+2,none⟩ (.bool false)).ownsRow B 103 3 (.slice (some ⟨sb,0,none⟩) m sc) m (ss.set (fs*3+2) (.bool false))/\B<=(w1.setCell ⟨sb,fs*3+2,none⟩ (.bool false)).heap.size):=⟨(aM w1 ⟨sb,fs*3+2,none⟩ _ R (fun e=>nsR e.symm)).trans pR,(aM w1 ⟨sb,fs*3+2,none⟩ _ g (fun e=>nsg e.symm)).trans hgW,oL hs3 hs1 (pP hs1 _),by rw[bO];exact hBw⟩
 clear hci HW pR hgW vN hb1 HRW xz HOWN hs1 hs2 hs3 hBw;go_wp2
 go_region
 obtain⟨w2,hw2⟩:∃w2,w2=w1.setCell ⟨sb,fs*3+2,none⟩ (.bool false):=⟨_,rfl⟩
 rw[show(w1.setCell ⟨sb,fs*3+2,none⟩ (.bool false)).drew=w2.drew by rw[hw2]];rw[<-hw2]at HX;have HW2:=qet hw2;clear x0 x0f k0 k12 k7 k13 kn0 Wc hw2;obtain⟨Au,Av,EM,hBw'⟩:=HX.o;have pR:w2.drew.heap[R]? =some (mb tv at_ hv (.slice (some ⟨sb,0,none⟩) m sc) mn fa fc dp):=Au;have hgW:w2.drew.heap[g]? =some (.cells cur 57):=Av;have vN:w2.drew.ownsRow B 103 3 (.slice (some ⟨sb,0,none⟩) m sc) m (ss.set (fs*3+2) (.bool false)):=EM;have hBw:B<=w2.drew.heap.size:=hBw';obtain⟨w3,hw3⟩:∃w3,w3=w2.drew:=⟨_,rfl⟩
 rw[<-hw3]at pR hgW vN hBw ⊢;have HW3:=qet hw3;have HRW:=qet pR;have xz:=qet hgW;have HOWN:=qet vN;have kn:w3.cell? ⟨g,p+10,none⟩=some (.int .i64 num):=by rw[af hgW];exact hnum
 have c3:w3.cell? ⟨R,3,none⟩=some (.slice (some ⟨sb,0,none⟩) m sc):=by rw[af pR];rfl
 have c1:w3.cell? ⟨R,1,none⟩=some (.int .i64 (at_:Int)):=by rw[af pR];rfl
 have Va:∀o,(w3.alloc o).cell? ⟨R,3,none⟩=some (.slice (some ⟨sb,0,none⟩) m sc):=fun o=>(World.cell?_alloc_lt _ _ _ (lt_of_heap pR)).trans c3
 clear pR hgW vN Au Av EM hBw' HX hw3;go_wp2;have KA:∀o,(w3.alloc o).cell? ⟨R,1,none⟩=some (.int .i64 (at_:Int))/\(w3.alloc o).cell? ⟨g,p+10,none⟩=some (.int .i64 num):=fun o=>⟨(World.cell?_alloc_lt _ _ _ (lt_of_heap HRW.o)).trans c1,(World.cell?_alloc_lt _ _ _ (lt_of_heap xz.o)).trans kn⟩
 have xR:=qet KA;clear KA;refine ft ?_;refine fm (S:=fun W=>W.cell? ⟨R,1,none⟩=some (.int .i64 (at_:Int))/\W.cell? ⟨g,p+10,none⟩=some (.int .i64 num)) (by kernel_rfl) (show w3.cell? _=_/\w3.cell? _=_ from⟨c1,kn⟩) (fun hHeld=>?_);refine je 0 (.pointer (some ⟨R,0,none⟩)) hHeld ?_;refine je 1 (.pointer (some ⟨R,0,none⟩)) hHeld ?_;refine je 2 (.pointer (some ⟨R,0,none⟩)) hHeld ?_;refine je 3 (.pointer (some ⟨R,3,none⟩)) hHeld ?_;refine je 5 (.pointer (some ⟨R,0,none⟩)) hHeld ?_;refine je 6 (.pointer (some ⟨R,0,none⟩)) hHeld ?_;refine je 7 (.pointer (some ⟨R,1,none⟩)) hHeld ?_;refine je 8 (.int .i64 (at_:Int)) hHeld ?_;refine je 9 (.pointer (some ⟨g,p,none⟩)) hHeld ?_;refine je 10 (.pointer (some ⟨g,p,none⟩)) hHeld ?_;refine je 11 (.pointer (some ⟨g,p+10,none⟩)) hHeld ?_;refine je 12 (.int .i64 num) hHeld ?_;refine je 13 (.bool false) hHeld ?_;refine je 14 (.agg #[.int .i64 (at_:Int),.int .i64 num,.bool false]) hHeld ?_
 try simp only[aS,ak,aD,aF]
 refine fh (rs:=[4,15]) (by kernel_rfl) (by simp) ?_;refine bu (o:={dst:=some 53,op:=_,type:=_,pos:=_,after:=_,guard:=none}) rfl (fun K hK=>?_) (bu (o:={dst:=some 64,op:=_,type:=_,pos:=_,after:=_,guard:=none}) rfl (fun K hK=>?_) cz)
 ·go_simp
  refine hK.out _ _ ?_ (fun hHeld=>?_)
  ·first|exact hHeld|exact xR.o _
  clear hK K
  try simp only[aS,ak,aD,aF]
  refine mI 15 (fun K hK=>?_)
  go_simp
  refine hK.out _ _ ?_ (fun hHeld=>?_)
  ·first|exact hHeld|exact xR.o _
  clear hK K
  try simp only[aS,ak,aD,aF]
  refine mI 16 (fun K hK=>?_)
  (refine bK _ (by rfl) _ _ _ (by rfl) B 103 i0 _ 3 24 cK hi hz0 hz1 hz2 rfl (by omega) (.slice (some ⟨sb,0,none⟩) m sc) m _ (by rfl) (by exact(HOWN.o.alloc _)) ⟨w3.heap.size,0,none⟩ 1 1 [.int .i64 (at_:Int),.int .i64 num,.bool false] (by rfl) (by rfl) (bf (cs:=#[.int .i64 (at_:Int),.int .i64 num,.bool false]) (t:=103) (fr:=(0,0)) (by exact alloc_at w3 _)) (by simp[aY]) (by omega) (by unfold ff;omega) (by omega) (by simp;omega) _ rfl ?_;intro gg cap' w9 hown1 hgrow hat hlt;have f1:=iE HRW.o hgrow rW.o;have f2:=iE xz.o hgrow EL.o;have q3:w9.cell? ⟨R,3,none⟩=some (.slice (some ⟨sb,0,none⟩) m sc):=(by rw[af f1];rfl);have FI:w9.frozen? ⟨R,3,none⟩=false:=aC f1 3;have q1:w9.cell? ⟨R,1,none⟩=some (.int .i64 (at_:Int)):=(by rw[af f1];rfl);have qn:w9.cell? ⟨g,p+10,none⟩=some (.int .i64 num):=(by rw[af f2];exact pQ.o);have HG:=qet hgrow;have HA:=qet hat;have mh:=qet hown1;clear hgrow f1 f2 hown1 hat hlt)
  refine hK.out _ _ ?_ (fun hHeld=>?_)
  ·exact⟨q1,qn⟩
  clear hK K
  try simp only[aS,ak,aD,aF]
  refine je 17 (.pointer (some ⟨R,0,none⟩)) hHeld ?_;refine je 18 (.pointer (some ⟨R,3,none⟩)) hHeld ?_
  try simp only[aS,ak,aD,aF]
  refine mI 19 (fun K hK=>?_)
  go_simp
  refine hK.out _ _ ?_ (fun hHeld=>?_)
  ·exact⟨(World.cell?_setCell_other _ _ _ _ (by simp)).trans q1,(World.cell?_setCell_other _ _ _ _ (by simp)).trans qn⟩
  clear hK K
  try simp only[aS]
  refine bX (by kernel_rfl) ?_ _;refine bP ?_;go_wp2;refine aW (v:=.tuple #[]) ?_ rfl ⟨rfl,?_⟩
  ·simp[aV,cU,go_sem]
  ·exact⟨w1,HB1.o,zx HW2.o HW3.o (mq HRW.o rW.o HG.o HA.o mh.o)⟩
 ·go_simp
  refine hK.out _ _ ?_ (fun hHeld=>?_)
  ·first|exact hHeld|exact xR.o _
  clear hK K
  try simp only[aS,ak,aD,aF]
  refine mI 4 (fun K hK=>?_)
  go_simp
  refine hK.out _ _ ?_ (fun hHeld=>?_)
  ·first|exact hHeld|exact xR.o _
  clear hK K
  try simp only[aS,ak,aD,aF]
  refine mI 16 (fun K hK=>?_)
  (refine bK _ (by rfl) _ _ _ (by rfl) B 103 i0 _ 3 24 cK hi hz0 hz1 hz2 rfl (by omega) (.slice (some ⟨sb,0,none⟩) m sc) m _ (by rfl) (by exact(HOWN.o.alloc _)) ⟨w3.heap.size,0,none⟩ 1 1 [.int .i64 (at_:Int),.int .i64 num,.bool false] (by rfl) (by rfl) (bf (cs:=#[.int .i64 (at_:Int),.int .i64 num,.bool false]) (t:=103) (fr:=(0,0)) (by exact alloc_at w3 _)) (by simp[aY]) (by omega) (by unfold ff;omega) (by omega) (by simp;omega) _ rfl ?_;intro gg cap' w9 hown1 hgrow hat hlt;have f1:=iE HRW.o hgrow rW.o;have f2:=iE xz.o hgrow EL.o;have q3:w9.cell? ⟨R,3,none⟩=some (.slice (some ⟨sb,0,none⟩) m sc):=(by rw[af f1];rfl);have FI:w9.frozen? ⟨R,3,none⟩=false:=aC f1 3;have q1:w9.cell? ⟨R,1,none⟩=some (.int .i64 (at_:Int)):=(by rw[af f1];rfl);have qn:w9.cell? ⟨g,p+10,none⟩=some (.int .i64 num):=(by rw[af f2];exact pQ.o);have HG:=qet hgrow;have HA:=qet hat;have mh:=qet hown1;clear hgrow f1 f2 hown1 hat hlt)
  refine hK.out _ _ ?_ (fun hHeld=>?_)
  ·exact⟨q1,qn⟩
  clear hK K
  try simp only[aS,ak,aD,aF]
  refine je 17 (.pointer (some ⟨R,0,none⟩)) hHeld ?_;refine je 18 (.pointer (some ⟨R,3,none⟩)) hHeld ?_
  try simp only[aS,ak,aD,aF]
  refine mI 19 (fun K hK=>?_)
  go_simp
  refine hK.out _ _ ?_ (fun hHeld=>?_)
  ·exact⟨(World.cell?_setCell_other _ _ _ _ (by simp)).trans q1,(World.cell?_setCell_other _ _ _ _ (by simp)).trans qn⟩
  clear hK K
  try simp only[aS]
  refine bX (by kernel_rfl) ?_ _;refine bP ?_;go_wp2;refine aW (v:=.tuple #[]) ?_ rfl ⟨rfl,?_⟩
  ·simp[aV,cU,go_sem]
  ·exact⟨w1,HB1.o,zx HW2.o HW3.o (mq HRW.o rW.o HG.o HA.o mh.o)⟩
end Go.Proofs.YtekanffohkeoeaaGreatDoor
