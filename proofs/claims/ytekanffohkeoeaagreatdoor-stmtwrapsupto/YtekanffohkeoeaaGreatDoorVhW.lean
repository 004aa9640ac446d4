import Derived.Test.YtekanffohkeoeaaGreatDoorZwW
namespace Go.Proofs.YtekanffohkeoeaaGreatDoor
open Go.RowKit
open Go.Proofs.Tryz renaming prog → ah, func110 → eO, ntmps110 → eI, func57 → eD, ntmps57 → eA, func56 → dK, ntmps56 → dD
open Go.RowKit.Below renaming refl → aw
open Go.Lib renaming cell_of_heap → af, frozen_of_heap → aC
open Nat renaming le_refl → aj, lt_of_lt_of_le → aJ
open Go.Value renaming ownBlock → bw, slice → aZ, oneCell' → aY
open List renaming length_map → aQ, mem_cons → aI, not_mem_nil → bG, nodup_append → aR, nodup_cons → bV, mem_singleton → aL, append_assoc → aO, mem_append_right → cA, mem_append → aN, mem_cons_of_mem → aK, length_append → ao, length_singleton → bY, length → fp
open Option.some renaming inj → an
open Go renaming heap_alloc_new → aE, ownsRow_setCell_other → bJ, step_append_lies → bK, maxLen → ff
open Go.World renaming size_alloc → aB, ownsRow_nil → bS, news_of_block → bf
open Prod.mk renaming inj → cv
open _root_.Array renaming empty_append → fE
open Option renaming map_some → cm
open Go.ByteArray renaming toList_eq → cB
set_option maxRecDepth 100000
set_option maxHeartbeats 6400000
variable {w:World}{O:List Nat}{r:Rs}{X:List Nat}{c:Cx}
theorem RM.next(h:RM c X r O w):∃xk xs xn xt xa,jW r.rest=⟨xk,xs.data.toList,xn,xt⟩/\∀W,Below w.heap.size w W->Calls ah 96 #[.pointer (some ⟨c.R,0,none⟩)] W fun e w'=>e=.returned (.agg #[.int .i64 xk,.string xs,.int .i64 xn,.int .i64 xt,.int .i64 xa])/\Below W.heap.size W w':=by
 obtain⟨at_,hv,sv,fa,fc,os,hx⟩:=h;have hl:=hx.env.tks.hl;refine⟨(gQ c.toks at_).k,(gQ c.toks at_).s,(gQ c.toks at_).n,(gQ c.toks at_).t,(gQ c.toks at_).at_,by rw[hx.rest,oK];rfl,fun W hW=>nk (hx.rb.below hW) (by omega)⟩
variable {g:Nat}{hd:Hd}
theorem Aw{l:List Hd}(h:kE c X r O w hd l g)(hk:hd.s.kind=6):Calls ah 110 #[.pointer (some ⟨c.R,0,none⟩),.pointer (some ⟨g,l.length*14,none⟩)] w fun e w'=>∃v,e=.returned v/\pN c X iN r O w v w':=by
 obtain⟨c0,c12,cf,lg,_⟩:=h.cells;have htop:=kz h.hh;have hgd:=h.rm.good;have hch:=hgd.ch;rw[h.hh]at hch;obtain⟨k2,m2,hlm⟩:=th hch (by rw[hk];decide);have h2:2<=r.hs.length:=by rw[h.hh,hlm];simp
 obtain⟨xk,xs,xn,xt,xa,hhd,CN⟩:=h.rm.next;have CI:qes (∀W,Below w.heap.size w W->Calls ah 141 #[.pointer (some ⟨c.R,0,none⟩),.int .i64 3,.string ⟨#[45]⟩] W fun e w'=>e=.returned (.bool (jI 3 jV r))/\Below W.heap.size W w'):=fun W hW=>(h.rm.below hW).is 3 ⟨#[45]⟩ jV rfl
 have CA:qes (∀W,Below w.heap.size w W->((top r).gX=false/\((jW r.rest).kind=2\/jI 3 jV r=true))->Calls ah 156 #[.pointer (some ⟨c.R,0,none⟩),.pointer (some ⟨g,l.length*14,none⟩)] W fun e w'=>∃v,e=.returned v/\pN c X iN r O w v w'):=fun W hW hyes=>by
  refine(Qb (h.below hW)).mono ?_;rintro e w' ⟨v,rfl,O',rfl,z1,z2⟩;have he:iN r=qY r:=by unfold iN;rw[if_pos hyes]
  exact⟨_,rfl,O',by rw[he],by rw[he];exact z1,(Gone.of_below hW).trans z2⟩
 have CB:qes (∀W,Below w.heap.size w W->Calls ah 155 #[.pointer (some ⟨c.R,0,none⟩),.pointer (some ⟨g,l.length*14,none⟩)] W fun e w'=>∃b,e=.returned (.bool b)/\(∀_:¬ ((top r).gX=false/\((jW r.rest).kind=2\/jI 3 jV r=true)),(b=true->pN c X iN r O w .nilIface w')/\(b=false->∃O',RM c X r O' w'/\Gone O w O' w'/\(∀x1 n1 (nt ca1:Array Value),nQ c (k0 X) O' anyS (ij (gU jo)) n1 (nt++ca1) x1->Below w'.heap.size w' x1->Calls ah 99 #[.slice (some ⟨x1.heap.size,0,none⟩) 2 2] (x1.alloc (.cells #[.func (.func n1) nt ca1,.func (.func 111) #[.pointer (some ⟨c.R,0,none⟩)] #[]] 141)) fun e w''=>∃v,e=.returned v/\pN c X iN r O w v w'')))):=fun W hW=>by
  refine(sP (h.below hW)).mono ?_;rintro e w' ⟨b,O',m1,rfl,m2,m3⟩;refine⟨b,rfl,fun hno=>?_⟩;have hb:iN r=(bnd jT fun b=>if b then ret ()else thn (gU jo) iQ) r:=by unfold iN;rw[if_neg hno]
  refine⟨?_,?_⟩
  ·rintro rfl
   have he:iN r=((jT r).1,.ok ()):=by
    rw[hb];unfold bnd;rw[m1];rfl
   exact⟨O',by rw[he];rfl,by rw[he];exact m2,(Gone.of_below hW).trans m3⟩
  ·rintro rfl
   have hr:(jT r).1=r:=by
    rcases rK m1 with⟨_,h1⟩|⟨h1,_⟩
    ·exact h1
    ·cases h1
   rw[hr]at m1 m2;have hg:=(Gone.of_below (O:=O) hW).trans m3;refine⟨O',m2,hg,fun x1 n1 nt ca1 hp1 hb1=>(zy m2 h2 jo x1 n1 nt ca1 hp1 hb1).mono ?_⟩;rintro e w'' ⟨v,rfl,O2,rfl,z1,z2⟩
   have he:iN r=thn (gU jo) iQ r:=by
    rw[hb];unfold bnd;rw[m1];rfl
   exact⟨_,rfl,O2,by rw[he],by rw[he];exact z1,hg.trans z2⟩
 have CW:qes (∀O' W,RM c X r O' W->Calls ah 100 #[.pointer (some ⟨c.R,0,none⟩),.string ⟨#[69,78,68,95,67,65,83,69]⟩] W fun e w'=>∃n FJ caps,e=.returned (.func (.func n) FJ caps)/\nQ c (k0 X) O' anyS (ij (gU jo)) n (FJ++caps) w'/\Below W.heap.size W w'):=fun O' W hW=>lJ (c:=c) (k0 X) (fun b hb=>(hW.high b hb).2) ⟨#[69,78,68,95,67,65,83,69]⟩ jo rfl
 have hkind:(jW r.rest).kind=xk:=by rw[hhd]
 cases hie:hd.gX with
 |true=>
  rw[hie]at c12;have HA:qes (¬ ((top r).gX=false/\((jW r.rest).kind=2\/jI 3 jV r=true))):=fun hx=>by rw[htop,hie]at hx;cases hx.1
  have t2:=CB.o w (aw _ _);clear h hgd hch hlm h2 htop c0 cf lg hk hie CB CA CI CN hhd hkind;generalize l.length*14=p at *;go_enter eO,eI;go_wp2_with fail;refine t2.mono ?_;rintro e w2 ⟨b,rfl,hb⟩;obtain⟨k1,k3⟩:=hb HA.o;clear t2 hb
  cases b with
  |true=>
   have HQ:=qet (k1 rfl);clear k1 k3 CW;go_wp2;go_ret;exact⟨_,rfl,HQ.o⟩
  |false=>
   obtain⟨O',y1,y2,y3⟩:=k3 rfl;have t3:=CW.o O' w2 y1;have HY:=qet y3;clear k1 k3 CW y1 y2 y3;go_wp2_with fail;refine t3.mono ?_;rintro e w3 ⟨n1,nt,ca1,rfl,hp1,hb3⟩;have t4:=HY.o _ _ _ _ hp1 hb3;clear t3 HY hp1 hb3;go_wp2_with fail;refine t4.mono ?_;rintro e w4 ⟨v,rfl,hq⟩;have HQ:=qet hq;clear t4 hq;go_wp2;go_ret;exact⟨_,rfl,HQ.o⟩
 |false=>
  rw[hie]at c12;have t1:=CN w (aw _ _);have fk:=VM xk xn xt xa xs
  by_cases hx2:xk=2
  ·have HY:qes ((top r).gX=false/\((jW r.rest).kind=2\/jI 3 jV r=true)):=⟨by rw[htop];exact hie,.inl (by rw[hkind];exact hx2)⟩
   have i1:(xk==2)=true:=by rw[beq_iff_eq];exact hx2
   clear h hgd hch hlm h2 htop c0 cf lg hk hie CB CW CI CN hhd hkind hx2;generalize l.length*14=p at *;go_enter eO,eI;go_wp2_with fail;refine t1.mono ?_;rintro e w1 ⟨rfl,hb1⟩;have t2:=CA.o w1 hb1 HY.o;clear t1 hb1 CA c12;go_wp2_with fail;refine t2.mono ?_;rintro e w2 ⟨v,rfl,hq⟩;have HQ:=qet hq;clear t2 hq;go_wp2;go_ret;exact⟨_,rfl,HQ.o⟩
  ·have i1:(xk==2)=false:=by rw[beq_eq_false_iff_ne];exact hx2
   cases hT:jI 3 jV r with
   |true=>
    have HY:qes ((top r).gX=false/\((jW r.rest).kind=2\/jI 3 jV r=true)):=⟨by rw[htop];exact hie,.inr hT⟩
    rw[hT]at CI;clear h hgd hch hlm h2 htop c0 cf lg hk hie CB CW CN hhd hkind hx2;generalize l.length*14=p at *;go_enter eO,eI;go_wp2_with fail;refine t1.mono ?_;rintro e w1 ⟨rfl,hb1⟩;have t3:=CI.o w1 hb1;have HB1:=qet hb1;clear t1 hb1 CI;go_wp2_with fail;refine t3.mono ?_;rintro e w3 ⟨rfl,hb3⟩;have t2:=CA.o w3 (HB1.o.trans (hb3.mono HB1.o.size)) HY.o;clear t3 hb3 CA c12 HB1;go_wp2_with fail;refine t2.mono ?_;rintro e w2 ⟨v,rfl,hq⟩;have HQ:=qet hq;clear t2 hq;go_wp2;go_ret;exact⟨_,rfl,HQ.o⟩
   |false=>
    have HA:qes (¬ ((top r).gX=false/\((jW r.rest).kind=2\/jI 3 jV r=true))):=fun hx=>by
     rcases hx.2 with h1|h1
     ·rw[hkind]at h1;exact hx2 h1
     ·rw[hT]at h1;cases h1
    rw[hT]at CI;clear h hgd hch hlm h2 htop c0 cf lg hk hie CA CN hhd hkind hx2;generalize l.length*14=p at *;go_enter eO,eI;go_wp2_with fail;refine t1.mono ?_;rintro e w1 ⟨rfl,hb1⟩;have t3:=CI.o w1 hb1;have HB1:=qet hb1;clear t1 hb1 CI;go_wp2_with fail;refine t3.mono ?_;rintro e w3 ⟨rfl,hb3⟩;have t2:=CB.o w3 (HB1.o.trans (hb3.mono HB1.o.size));clear t3 hb3 CB c12 HB1;go_wp2_with fail;refine t2.mono ?_;rintro e w2 ⟨b,rfl,hb⟩;obtain⟨k1,k3⟩:=hb HA.o;clear t2 hb
    cases b with
    |true=>
     have HQ:=qet (k1 rfl);clear k1 k3 CW;go_wp2;go_ret;exact⟨_,rfl,HQ.o⟩
    |false=>
     obtain⟨O',y1,y2,y3⟩:=k3 rfl;have t3:=CW.o O' w2 y1;have HY:=qet y3;clear k1 k3 CW y1 y2 y3;go_wp2_with fail;refine t3.mono ?_;rintro e w3 ⟨n1,nt,ca1,rfl,hp1,hb3⟩;have t4:=HY.o _ _ _ _ hp1 hb3;clear t3 HY hp1 hb3;go_wp2_with fail;refine t4.mono ?_;rintro e w4 ⟨v,rfl,hq⟩;have HQ:=qet hq;clear t4 hq;go_wp2;go_ret;exact⟨_,rfl,HQ.o⟩
variable {cap:Nat}
theorem kE.of{at_:Nat}{sv:Value}{fa fc:Int}{os:List Nat}{l:List Hd}(hx:oh c X r at_ (.slice (some ⟨g,0,none⟩) (l.length+1) cap) sv fa fc os O w)(hh:r.hs=hd::l):kE c X r O w hd l g:=by
 have hrm:RM c X r O w:=⟨_,_,_,_,_,_,hx⟩
 have hr:=hx.rb.row;unfold mb at hr;exact⟨hrm,hh,by rw[hrm.len,hh];rfl,cap,by rw[af hr];rfl⟩
variable {b1:Nat}{b2:Nat}
theorem kE.word{l:List Hd}(h:kE c X r O w hd l g){u:ByteArray}{s:Bs}(hu:u.data.toList=s){m b3:Nat}(hc:rl c.R 1 u m b1 b2 b3 w):Calls ah 177 #[.pointer (some ⟨b1,0,none⟩),.pointer (some ⟨b2,0,none⟩),.pointer (some ⟨b3,0,none⟩)] w fun e w'=>(e=.returned .nilIface/\gU s r=(jF r,.ok ())/\kE c X (jF r) O w' hd l g/\Gone O w O w')\/(e=.returned (ln c.t0)/\gU s r=(r,.error .tok)/\RM c X r O w'/\Gone O w O w'):=by
 subst hu;obtain⟨at_,cap,sv,fa,fc,os,hx⟩:=h.Wg;have hl:=hx.env.tks.hl;have ht:=hx.rH 1 u;refine(o0 hx.rb (by omega) (by decide) hc hx.env.e0).mono ?_;rintro e W2 (⟨a1,a2,rfl,q1,q2⟩|⟨a1,rfl,q1,q2⟩)
 ·rw[decide_eq_true ⟨a1,a2⟩]at ht;have hm:gU u.data.toList r=(jF r,.ok ()):=by simp[gU,lB,ht]
  have hr:(jF r).rest=lst c.toks (at_+1):=by show r.rest.tail=_;rw[hx.rest,mo]
  have g1:=hx.go q2 (by simp) (r':=jF r) q1 hr rfl rfl hx.fl (kV _);exact .inl ⟨rfl,hm,kE.of g1 h.hh,Gone.my q2 (by simp;exact hx.iL)⟩
 ·rw[decide_eq_false a1]at ht;have hm:gU u.data.toList r=(r,.error .tok):=by simp[gU,lB,ht]
  have g1:=hx.go q2 (by simp) (r':=r) q1 hx.rest rfl rfl hx.fl (aj _);exact .inr ⟨rfl,hm,⟨_,_,_,_,_,_,g1⟩,Gone.my q2 (by simp;exact hx.iL)⟩
variable {P:Nat->Prop}
theorem Cb.x{B:Nat}{h:Hd}{cl:List Value}{o:List Nat}(hh:Cb B w P h cl o)(x:List Pt)(xv:Value)(hx:mg w P x xv):Cb B w P {h with s:={h.s with x:=x}} (cl.set 3 xv) o:=by
 obtain⟨nv,iv,xv0,yv,bv,ev,av,gv,oa,ac,f1,f2,f3,f4,f⟩:=hh;exact⟨nv,iv,xv,yv,bv,ev,av,gv,oa,ac,by rw[f1];rfl,f2,f3,hx,f⟩
theorem kE.until{l:List Hd}(h:kE c X r O w hd l g){m:Nat}(hgm:g<m)(hc:nW c.R g (l.length*14+3) 144 m b1 b2 w):Calls ah 143 #[.pointer (some ⟨b1,0,none⟩),.pointer (some ⟨b2,0,none⟩)] w fun e w'=>e=.returned (tA c (mN r).2)/\RM c X (mN r).1 O w'/\Gone O w O w'/\(mN r).1.hs.length=r.hs.length:=by
 obtain⟨at_,cap,sv,fa,fc,os,hx⟩:=h.Wg;have hl:=hx.env.tks.hl;have hB:=hx.env.hB;have htop:=kz h.hh;obtain⟨g',cap',cur,c1,c2,o1,o2,hvv,e2,e3,e4,e5,e6,e7,e8,e9,e10,e11⟩:=hx.open h.hh
 cases hvv
 subst e5;have hown:=hx.own;obtain⟨q1,q2,q3,q4,q5⟩:=mG (X:=X) (R:=c.R) (g:=g) (sv:=sv) (os:=o1++o2) (by rw[hown];rfl) hx.nodup;have xO:g∈O:=by rw[hown];simp[bw]
 refine(nZ hx.rb (by omega) hx.env.tks.hs hc hx.env.e1 hx.env.tG e2 (by rw[e10];omega) q1 (hx.high g xO).1 hgm (by omega)).mono ?_;intro e W2 hp;unfold sG at hp
 cases hpr:parse (lst c.toks at_)with
 |error z=>
  obtain⟨n,cd⟩:=z;rw[hpr]at hp;obtain⟨rfl,z1,z2⟩:=hp;have hm:mN r=({r with fault:=(n,cd)},.error .exp):=by simp[mN,bnd,ir,hx.rest,hpr]
  have g1:=hx.go z2 (by simp) (r':={r with fault:=(n,cd)}) z1 hx.rest rfl rfl (fun _=>⟨rfl,rfl⟩) (aj _);rw[hm];exact⟨rfl,⟨_,_,_,_,_,_,g1⟩,Gone.my z2 (by simp;exact hx.iL),rfl⟩
 |ok z=>
  obtain⟨x,q⟩:=z;rw[hpr]at hp;obtain⟨pv,xs,rfl,hxs,z1,z2⟩:=hp
  have hm:mN r=({r with rest:=q,hs:={hd with s:={hd.s with x:=x}}::l},.ok ()):=by
   simp[mN,bnd,ir,hx.rest,hpr,iS,top,h.hh]
  have PX:q.length+1<=(lst c.toks at_).length:=nr hpr;have hq:q=lst c.toks (c.toks.length-q.length):=rI hpr hx.rb.here;have Gb:=we hpr;rw[<-hxs,aQ]at Gb
  have hnew:∀b,pv.ownBlock=some b->b∉O:=fun b hb hm=>by
   have:=(z1.lt b hb).1;have:=(hx.high b hm).2;omega
  have sM:gR O w W2:=z2.keep.more fun k hk _=>by
   simp only[aI,bG,or_false]at hk
   rcases hk with rfl|rfl
   ·exact hx.iL
   ·exact xO
  have hon:On (ji O) (ji O) w W2:=fun b hb hlb=>⟨hb,sM.block b hlb hb⟩
  have lL:∀k,k∈o1++o2->k<w.heap.size->W2.heap[k]? =w.heap[k]? :=fun k hk' hl=>z2.keep.block k hl (by simp;exact⟨(q2 k hk').1,(q2 k hk').2.1⟩)
  have hrow2:=oL e9 e2 z2.cell;rw[set_tail e3]at hrow2;have hle:q.length<=r.rest.length:=by rw[hx.rest];omega
  have hgood:Good c.toks.length {r with rest:=q,hs:={hd with s:={hd.s with x:=x}}::l}:=hx.good.set h.hh rfl rfl rfl rfl rfl rfl (by show vi hd+q.length<=_;omega) hle;obtain⟨y1,y2⟩:=hx.shut (r':={r with rest:=q,hs:={hd with s:={hd.s with x:=x}}::l}) (hd':={hd with s:={hd.s with x:=x}}) (sv':=sv) (O':=O) (MO:=o2) e6 sM z2.rb.row z2.rb.here hq hx.fl rfl hrow2 (by simp[e4]) ((e7.on hon (fun k hk'=>lL k (by simp[hk']))).x x pv ⟨xs,hxs,l6 z1 (by omega) _ hnew⟩) (fun k hk'=>lL k (by simp[hk'])) (iy hx.st (fun k hk' hl=>z2.keep.block k hl (by simp;exact⟨fun e=>(hx.JF (k:=c.R) (by simp)).2.1 (e ▸ hk'),by rintro rfl;exact q3 hk'⟩))) hown hx.nodup (fun b hb=>.inl hb) hgood;rw[hm];exact⟨rfl,⟨_,_,_,_,_,_,y1⟩,y2,by rw[h.hh];rfl⟩
variable {r1:Rs}
theorem Gx{m:M Unit}{n:M Unit}{e:Er}(h:m r=(r1,.error e)):thn m n r=(r1,.error e):=by simp[thn,bnd,h]
theorem wC(c:Cx)(e:Er):∃b,tA c (.error e)=ln b:=by cases e <;> exact⟨_,rfl⟩
abbrev uh:M Unit:=thn (gU mK) (thn mN (thn (gU iI) iQ))
theorem ER{l:List Hd}(h:kE c X r O w hd l g)(h2:2<=r.hs.length){m1 a1 a2 a3 m2 n3:Nat}{wZ ca3:Array Value}(hm1:∀b,b∈O->b<m1)(hm2:∀b,b∈O->b<m2)(hgm:g<m2)(k1:rl c.R 1 ⟨#[85,78,84,73,76]⟩ m1 a1 a2 a3 w)(k2:nW c.R g (l.length*14+3) 144 m2 b1 b2 w)(k3:nQ c (k0 X) O anyS (ij (gU iI)) n3 (wZ++ca3) w){s:Nat}(hs:w.heap[s]? =some (.cells #[mz a1 a2 a3,ua 143 b1 b2,.func (.func n3) wZ ca3,.func (.func 111) #[.pointer (some ⟨c.R,0,none⟩)] #[]] 141))(hsO:s∉O):Calls ah 99 #[.slice (some ⟨s,0,none⟩) 4 4] w fun e w'=>∃v,e=.returned v/\pN c X uh r O w v w':=by
 have key:=pX [mz a1 a2 a3,ua 143 b1 b2,.func (.func n3) wZ ca3,.func (.func 111) #[.pointer (some ⟨c.R,0,none⟩)] #[]] s 4 w (fun i W=>match i with
  |0=>kE c X r O W hd l g/\Gone O w O W
  |1=>∃r1,uh r=(thn mN (thn (gU iI) iQ)) r1/\r1.hs.length=r.hs.length/\kE c X r1 O W hd l g/\Gone O w O W
  |2=>∃r1 O1,uh r=(thn (gU iI) iQ) r1/\r1.hs.length=r.hs.length/\RM c X r1 O1 W/\Gone O w O1 W
  |3=>∃r1 O1,uh r=iQ r1/\r1.hs.length=r.hs.length/\RM c X r1 O1 W/\Gone O w O1 W
  |4=>∃r1 O1,uh r=(r1,.ok ())/\RM c X r1 O1 W/\Gone O w O1 W
  |_=>False) (fun b W=>∃r1 O1 e,uh r=(r1,.error e)/\tA c (.error e)=ln b/\RM c X r1 O1 W/\Gone O w O1 W) (by simp) ⟨h,Gone.refl _ _⟩ ?_ ?_
 ·refine key.mono ?_;rintro e w' ⟨v,rfl,⟨rfl,r1,O1,q1,q2,q3⟩|⟨b,rfl,r1,O1,e,q1,q2,q3,q4⟩⟩
  ·exact⟨_,rfl,O1,by rw[q1];rfl,by rw[q1];exact q2,q3⟩
  ·exact⟨_,rfl,O1,by rw[q1];exact q2.symm,by rw[q1];exact q3,q4⟩
 ·have hh:∀O1 W,Gone O w O1 W->W.heap[s]? =some (.cells #[mz a1 a2 a3,ua 143 b1 b2,.func (.func n3) wZ ca3,.func (.func 111) #[.pointer (some ⟨c.R,0,none⟩)] #[]] 141):=fun O1 W hG=>(hG.keep.block s (lt_of_heap hs) hsO).trans hs
  intro i W hJ
  match i,hJ with
  |0,⟨_,hJ⟩=>exact hh _ _ hJ
  |1,⟨_,_,_,_,hJ⟩=>exact hh _ _ hJ
  |2,⟨_,_,_,_,_,hJ⟩=>exact hh _ _ hJ
  |3,⟨_,_,_,_,_,hJ⟩=>exact hh _ _ hJ
  |4,⟨_,_,_,_,hJ⟩=>exact hh _ _ hJ
 ·intro i p hp
  match i,hp with
  |0,hp=>
   obtain rfl:mz a1 a2 a3=p:=an hp;refine⟨177,#[],_,rfl,fun W=>by simp[go_sem],fun W hW=>?_⟩;obtain⟨y1,y2⟩:=hW;refine(y1.word (s:=mK) rfl (k1.keep y2.keep hm1)).mono ?_;rintro e W' (⟨rfl,z1,z2,z3⟩|⟨rfl,z1,z2,z3⟩)
   ·exact⟨_,rfl,.inl ⟨rfl,jF r,iD z1,rfl,z2,y2.trans z3⟩⟩
   ·exact⟨_,rfl,.inr ⟨_,rfl,r,O,.tok,Gx z1,rfl,z2,y2.trans z3⟩⟩
  |1,hp=>
   obtain rfl:ua 143 b1 b2=p:=an hp;refine⟨143,#[],_,rfl,fun W=>by simp[go_sem],fun W hW=>?_⟩;obtain⟨r1,y0,y1,y2,y3⟩:=hW;refine(y2.until hgm (k2.keep y3.keep hm2)).mono ?_;rintro e W' ⟨rfl,z1,z2,z3⟩
   cases hu:mN r1 with
   |mk r2 x=>
    rw[hu]at z1 z3
    cases x with
    |ok u=>exact⟨_,rfl,.inl ⟨rfl,r2,O,by rw[y0];exact iD hu,z3.trans y1,z1,y3.trans z2⟩⟩
    |error er=>
     obtain⟨b,hb⟩:=wC c er;exact⟨_,rfl,.inr ⟨b,hb,r2,O,er,by rw[y0];exact Gx hu,hb,z1,y3.trans z2⟩⟩
  |2,hp=>
   obtain rfl:Value.func (.func n3) wZ ca3=p:=an hp;refine⟨n3,wZ,ca3,rfl,k3.1,fun W hW=>?_⟩;obtain⟨r1,O1,y0,y1,y2,y3⟩:=hW;refine(k3.2 W r1 none O1 y3.keep ⟨y2,fun _ h=>by cases h⟩ y3.own trivial).mono ?_;rintro e W' ⟨O2,rfl,z1,z2⟩
   cases hu:gU iI r1 with
   |mk r2 x=>
    cases x with
    |ok u=>
     have hl:ij (gU iI) (r1,none)=((r2,none),.ok ()):=by simp[ij,hu]
     rw[hl]at z1;obtain⟨h4,_,_⟩:=ig (iB _ _) (gV _ _) hu;rw[hl];exact⟨_,rfl,.inl ⟨rfl,r2,O2,by rw[y0];exact iD hu,by rw[h4];exact y1,z1.1,y3.trans z2⟩⟩
    |error er=>
     have hl:ij (gU iI) (r1,none)=((r2,none),.error er):=by simp[ij,hu]
     rw[hl]at z1;obtain⟨b,hb⟩:=wC c er;rw[hl];exact⟨_,rfl,.inr ⟨b,hb,r2,O2,er,by rw[y0];exact Gx hu,hb,z1.1,y3.trans z2⟩⟩
  |3,hp=>
   obtain rfl:Value.func (.func 111) #[.pointer (some ⟨c.R,0,none⟩)] #[]=p:=an hp;refine⟨111,_,_,rfl,fun W=>by simp[go_sem],fun W hW=>?_⟩;obtain⟨r1,O1,y0,y1,y2,y3⟩:=hW;refine(close_any y2 (by omega)).mono ?_;rintro e W' ⟨v,rfl,O2,rfl,z1,z2⟩
   cases hu:iQ r1 with
   |mk r2 x=>
    rw[hu]at z1
    cases x with
    |ok u=>exact⟨_,rfl,.inl ⟨rfl,r2,O2,by rw[y0];exact hu,z1,y3.trans z2⟩⟩
    |error er=>
     obtain⟨b,hb⟩:=wC c er;exact⟨_,rfl,.inr ⟨b,hb,r2,O2,er,by rw[y0];exact hu,hb,z1,y3.trans z2⟩⟩
theorem zB(hrm:RM c X r O w)(h2:2<=r.hs.length)(hX:(top r).s.kind=6\/X=[])(hp:r.gY.length+r.rest.length<=c.toks.length):Calls ah 57 #[.pointer (some ⟨c.R,0,none⟩)] w fun e w'=>∃v,e=.returned v/\pN c X iq r O w v w':=by
 obtain⟨hd,l,g,h⟩:=hrm.top;have htop:=kz h.hh;rw[htop]at hX;have t1:=h.inn;have CC:qes (∀W,Below w.heap.size w W->W.cell? ⟨g,l.length*14,none⟩=some (.int .i64 hd.s.kind)):=fun W hW=>(h.below hW).cells.1
 have CW:qes (∀W s k,Below w.heap.size w W->s.data.toList=k->Calls ah 100 #[.pointer (some ⟨c.R,0,none⟩),.string s] W fun e w'=>∃n FJ caps,e=.returned (.func (.func n) FJ caps)/\nQ c (k0 X) O anyS (ij (gU k)) n (FJ++caps) w'/\Below W.heap.size W w'):=fun W s k hW hs=>lJ (c:=c) (k0 X) (fun b hb=>aJ (hrm.high b hb).2 hW.size) s k hs
 have CE:qes (∀W k x1 n1 (nt ca1:Array Value),iq r=thn (gU k) iQ r->Below w.heap.size w W->nQ c (k0 X) O anyS (ij (gU k)) n1 (nt++ca1) x1->Below W.heap.size W x1->Calls ah 99 #[.slice (some ⟨x1.heap.size,0,none⟩) 2 2] (x1.alloc (.cells #[.func (.func n1) nt ca1,.func (.func 111) #[.pointer (some ⟨c.R,0,none⟩)] #[]] 141)) fun e w''=>∃v,e=.returned v/\pN c X iq r O w v w''):=fun W k x1 n1 nt ca1 hm hW hp1 hb1=>by
  refine(zy hrm h2 k x1 n1 nt ca1 hp1 (hW.trans (hb1.mono hW.size))).mono ?_;rintro e w'' ⟨v,rfl,O2,rfl,z1,z2⟩;exact⟨_,rfl,O2,by rw[hm],by rw[hm];exact z1,z2⟩
 by_cases hk2:hd.s.kind=2
 ·obtain rfl:X=[]:=hX.resolve_left (by omega);have hm:iq r=jd r:=by unfold iq;rw[htop,if_pos hk2]
  have i2:(hd.s.kind==2)=true:=by rw[beq_iff_eq];exact hk2
  have CF:qes (∀W,Below w.heap.size w W->Calls ah 109 #[.pointer (some ⟨c.R,0,none⟩),.pointer (some ⟨g,l.length*14,none⟩)] W fun e w'=>∃v,e=.returned v/\pN c [] iq r O w v w'):=fun W hW=>by
   refine(Ct (h.below hW) hk2 hp).mono ?_;rintro e w'' ⟨v,rfl,O2,rfl,z1,z2⟩;exact⟨_,rfl,O2,by rw[hm],by rw[hm];exact z1,(Gone.of_below hW).trans z2⟩
  clear CW CE;clear h hrm h2 htop hX hp hm hk2;generalize l.length*14=p at *;generalize hd.s.kind=kd at *;go_enter eD,eA;go_wp2_with fail;refine t1.mono ?_;rintro e w1 ⟨rfl,hb1⟩;have c0:=CC.o w1 hb1;have t4:=CF.o w1 hb1;clear t1 hb1 CC CF;go_wp2_with fail;refine t4.mono ?_;rintro e w4 ⟨v,rfl,hq⟩;have HQ:=qet hq;clear t4 hq;go_wp2;go_ret;exact⟨_,rfl,HQ.o⟩
 by_cases hk6:hd.s.kind=6
 ·have hm:iq r=iN r:=by unfold iq;rw[htop,if_neg hk2,if_pos hk6]
  have i2:(hd.s.kind==2)=false:=by rw[beq_eq_false_iff_ne];exact hk2
  have i6:(hd.s.kind==6)=true:=by rw[beq_iff_eq];exact hk6
  have CF:qes (∀W,Below w.heap.size w W->Calls ah 110 #[.pointer (some ⟨c.R,0,none⟩),.pointer (some ⟨g,l.length*14,none⟩)] W fun e w'=>∃v,e=.returned v/\pN c X iq r O w v w'):=fun W hW=>by
   refine(Aw (h.below hW) hk6).mono ?_;rintro e w'' ⟨v,rfl,O2,rfl,z1,z2⟩;exact⟨_,rfl,O2,by rw[hm],by rw[hm];exact z1,(Gone.of_below hW).trans z2⟩
  clear CW CE;clear h hrm h2 htop hX hp hm hk2 hk6;generalize l.length*14=p at *;generalize hd.s.kind=kd at *;go_enter eD,eA;go_wp2_with fail;refine t1.mono ?_;rintro e w1 ⟨rfl,hb1⟩;have c0:=CC.o w1 hb1;have t4:=CF.o w1 hb1;clear t1 hb1 CC CF;go_wp2_with fail;refine t4.mono ?_;rintro e w4 ⟨v,rfl,hq⟩;have HQ:=qet hq;clear t4 hq;go_wp2;go_ret;exact⟨_,rfl,HQ.o⟩
 by_cases hk3:hd.s.kind=3
 ·have hm:iq r=thn (gU kp) iQ r:=by unfold iq;rw[htop,if_neg hk2,if_neg hk6,if_pos hk3]
  have i2:(hd.s.kind==2)=false:=by rw[beq_eq_false_iff_ne];exact hk2
  have i6:(hd.s.kind==6)=false:=by rw[beq_eq_false_iff_ne];exact hk6
  have i3:(hd.s.kind==3)=true:=by rw[beq_iff_eq];exact hk3
  have HM:=qet hm;clear h hrm h2 htop hX hp hm hk2 hk6 hk3;generalize l.length*14=p at *;generalize hd.s.kind=kd at *;go_enter eD,eA;go_wp2_with fail;refine t1.mono ?_;rintro e w1 ⟨rfl,hb1⟩;have c0:=CC.o w1 hb1;have t3:=CW.o w1 ⟨#[69,78,68,95,87,72,73,76,69]⟩ kp hb1 rfl;have Wk:=qet (fun x1 n1 nt ca1=>CE.o w1 _ x1 n1 nt ca1 HM.o hb1);clear t1 hb1 CC CW CE HM;go_wp2_with fail;refine t3.mono ?_;rintro e w3 ⟨n1,nt,ca1,rfl,hp1,hb3⟩;have t4:=Wk.o _ _ _ _ hp1 hb3;clear t3 hp1 hb3 Wk;go_wp2_with fail;refine t4.mono ?_;rintro e w4 ⟨v,rfl,hq⟩;have HQ:=qet hq;clear t4 hq;go_wp2;go_ret;exact⟨_,rfl,HQ.o⟩
 by_cases hk4:hd.s.kind=4
 ·have hm:iq r=uh r:=by unfold iq;rw[htop,if_neg hk2,if_neg hk6,if_neg hk3,if_pos hk4]
  have i2:(hd.s.kind==2)=false:=by rw[beq_eq_false_iff_ne];exact hk2
  have i6:(hd.s.kind==6)=false:=by rw[beq_eq_false_iff_ne];exact hk6
  have i3:(hd.s.kind==3)=false:=by rw[beq_eq_false_iff_ne];exact hk3
  have i4:(hd.s.kind==4)=true:=by rw[beq_iff_eq];exact hk4
  have CT:=qet (fun W=>yG c.R ⟨#[85,78,84,73,76]⟩ W);have CP:=qet (fun W=>nX c.R g (l.length*14+3) W)
  have CN:qes (∀(W0 W2 W3 W4:World)(a1 a2 a3 b1 b2 n3:Nat)(wZ ca3:Array Value),Below w.heap.size w W0->rl c.R 1 ⟨#[85,78,84,73,76]⟩ W0.heap.size a1 a2 a3 W2->Below W0.heap.size W0 W2->nW c.R g (l.length*14+3) 144 W2.heap.size b1 b2 W3->Below W2.heap.size W2 W3->nQ c (k0 X) O anyS (ij (gU iI)) n3 (wZ++ca3) W4->Below W3.heap.size W3 W4->Calls ah 99 #[.slice (some ⟨W4.heap.size,0,none⟩) 4 4] (W4.alloc (.cells #[mz a1 a2 a3,ua 143 b1 b2,.func (.func n3) wZ ca3,.func (.func 111) #[.pointer (some ⟨c.R,0,none⟩)] #[]] 141)) fun e w''=>∃v,e=.returned v/\pN c X iq r O w v w''):=fun W0 W2 W3 W4 a1 a2 a3 b1 b2 n3 wZ ca3 y0 y1 y2 y3 y4 y5 y6=>by
   have x2:Below w.heap.size w W2:=y0.trans (y2.mono y0.size);have x3:Below w.heap.size w W3:=x2.trans (y4.mono x2.size);have x4:Below w.heap.size w W4:=x3.trans (y6.mono x3.size);have z0:=y0.size;have z2:=x2.size;have z4:=x4.size;obtain⟨ob,hob⟩:∃ob,ob=(Obj.cells #[mz a1 a2 a3,ua 143 b1 b2,.func (.func n3) wZ ca3,.func (.func 111) #[.pointer (some ⟨c.R,0,none⟩)] #[]] 141):=⟨_,rfl⟩
   rw[<-hob];have x5:=x4.alloc x4.size ob;have u2:Below W2.heap.size W2 (W4.alloc ob):=(y4.trans (y6.mono y4.size)).alloc (y4.trans (y6.mono y4.size)).size _;have u3:Below W3.heap.size W3 (W4.alloc ob):=y6.alloc y6.size _;have u4:Below W4.heap.size W4 (W4.alloc ob):=(aw _ _).alloc (aj _) _;have hO:∀b,b∈O->b<w.heap.size:=fun b hb=>(hrm.high b hb).2
   have hg:=h.cells.2.2.2.1;refine(ER (h.below x5) h2 (fun b hb=>by have:=hO b hb;omega) (fun b hb=>by have:=hO b hb;omega) (by omega) (y1.keep (gR.of_below (O:=[]) u2) (by simp)) (y3.keep (gR.of_below (O:=[]) u3) (by simp)) (y5.below u4) (by rw[aE W4 _,hob]) (fun hb=>by have:=hO _ hb;omega)).mono ?_;rintro e w'' ⟨v,rfl,O2,rfl,v1,v2⟩;exact⟨_,rfl,O2,by rw[hm],by rw[hm];exact v1,(Gone.of_below x5).trans v2⟩
  have CW3:qes (∀W,Below w.heap.size w W->Calls ah 100 #[.pointer (some ⟨c.R,0,none⟩),.string ⟨#[69,78,68,95,82,69,80,69,65,84]⟩] W fun e w'=>∃n FJ caps,e=.returned (.func (.func n) FJ caps)/\nQ c (k0 X) O anyS (ij (gU iI)) n (FJ++caps) w'/\Below W.heap.size W w'):=fun W hW=>CW.o W _ _ hW rfl
  unfold mT at CT;unfold jR at CP;clear CW CE;clear h hrm h2 htop hX hp hm hk2 hk6 hk3 hk4;generalize l.length*14=p at *;generalize hd.s.kind=kd at *;go_enter eD,eA;go_wp2_with fail;refine t1.mono ?_;rintro e w1 ⟨rfl,hb1⟩;have c0:=CC.o w1 hb1;have hbd:Below w.heap.size w w1.drew:=hb1.drew;clear t1 CC;go_wp2
  go_region_held3 (fun W=>True) (trivial) (first
   |(go_at_call 100;with_reducible refine(CT.o _).mono ?_;rintro e w2 ⟨c1,c2,c3,rfl,hc2,hb2⟩)
   |(go_at_call 101;refine(CP.o _).mono ?_;rintro e w3 ⟨n1,n2,rfl,hc3,hb3⟩)
   |(go_at_call 100;with_reducible refine(CW3.o _ (hbd.trans ((hb2.mono hbd.size).trans (hb3.mono (hbd.trans (hb2.mono hbd.size)).size)))).mono ?_;rintro e w4 ⟨n4,Qd,Qe,rfl,hc4,hb4⟩)
   |(go_at_call 99;refine(CN.o _ _ _ _ _ _ _ _ _ _ _ _ hbd hc2 hb2 hc3 hb3 hc4 hb4).mono ?_;rintro e w5 ⟨v5,rfl,hq⟩))
  all_goals
   have HQ:=qet hq;clear hq hc2 hb2 hc3 hb3 hc4 hb4 hbd hb1 CT CP CW3 CN;go_wp2;go_ret;exact⟨_,rfl,HQ.o⟩
 have hm:iq r=thn (gU km) iQ r:=by unfold iq;rw[htop,if_neg hk2,if_neg hk6,if_neg hk3,if_neg hk4]
 have i2:(hd.s.kind==2)=false:=by rw[beq_eq_false_iff_ne];exact hk2
 have i6:(hd.s.kind==6)=false:=by rw[beq_eq_false_iff_ne];exact hk6
 have i3:(hd.s.kind==3)=false:=by rw[beq_eq_false_iff_ne];exact hk3
 have i4:(hd.s.kind==4)=false:=by rw[beq_eq_false_iff_ne];exact hk4
 have HM:=qet hm;clear h hrm h2 htop hX hp hm hk2 hk6 hk3 hk4;generalize l.length*14=p at *;generalize hd.s.kind=kd at *;go_enter eD,eA;go_wp2_with fail;refine t1.mono ?_;rintro e w1 ⟨rfl,hb1⟩;have c0:=CC.o w1 hb1;have t3:=CW.o w1 ⟨#[69,78,68,95,70,79,82]⟩ km hb1 rfl;have Wk:=qet (fun x1 n1 nt ca1=>CE.o w1 _ x1 n1 nt ca1 HM.o hb1);clear t1 hb1 CC CW CE HM;go_wp2_with fail;refine t3.mono ?_;rintro e w3 ⟨n1,nt,ca1,rfl,hp1,hb3⟩;have t4:=Wk.o _ _ _ _ hp1 hb3;clear t3 hp1 hb3 Wk;go_wp2_with fail;refine t4.mono ?_;rintro e w4 ⟨v,rfl,hq⟩;have HQ:=qet hq;clear t4 hq;go_wp2;go_ret;exact⟨_,rfl,HQ.o⟩
def T9(T:Nat)(s:St)(lv:Value)(P:Nat->Prop)(w:World):Prop:=∃nv iv xv yv,w.heap[T]? =some (.cells #[.int .i64 s.kind,.string nv,iv,xv,yv,.int .i64 s.gT,.slice none 0 0,.slice none 0 0,.slice none 0 0,lv] 48)/\nv.data.toList=s.name/\mg w P s.idx iv/\mg w P s.x xv/\mg w P s.y yv/\s.body=[]/\s.els=[]/\s.arms=[]
variable {w':World}{lv:Value}{s:St}{T:Nat}
theorem T9.on{P':Nat->Prop}(h:T9 T s lv P w)(ho:On P P' w w')(hT:w'.heap[T]? =w.heap[T]?):T9 T s lv P' w':=by
 obtain⟨nv,iv,xv,yv,h1,h2,h3,h4,h5,h6⟩:=h;exact⟨nv,iv,xv,yv,hT.trans h1,h2,h3.on ho,h4.on ho,h5.on ho,h6⟩
theorem T9.tb(h:T9 T s lv P w)(l:List (Bs×List Pt))(hl:BR w P l lv):TB T (Ar l s) P w:=by
 obtain⟨nv,iv,xv,yv,h1,h2,h3,h4,h5,h6⟩:=h;exact⟨nv,iv,xv,yv,lv,h1,h2,h3,h4,h5,hl,h6⟩
theorem M7(w:World)(P:Nat->Prop):BR w P [] (.slice none 0 0):=⟨[],⟨none,0,0,0,rfl,by simp,rfl,fun h=>absurd h (by simp),fun j u hu=>by cases hu⟩,rfl⟩
def kG(T:Nat):Kx:=⟨[T],fun s P w=>TB T s P w/\(s.args=[]->T9 T s (.slice none 0 0) P w),fun s P P' w w' h ho hX=>by
 have hT:=hX T (by simp) (lt_of_heap h.1.choose_spec.choose_spec.choose_spec.choose_spec.choose_spec.1)
 exact⟨h.1.on ho hT,fun e=>(h.2 e).on ho hT⟩⟩
theorem kG.rt{o:Option St}(h:RT c (kG T) r o O w):RT c (kT T) r o O w:=⟨h.1,fun s hs=>(h.2 s hs).1⟩
variable {W:World}{O0:List Nat}
theorem kG.pc{pre:Sx->Prop}{m:St->M Unit}{n:Nat}{args:Array Value}(h:nQ c (kT T) O0 pre (jf m) n args W):nQ c (kG T) O0 pre (jf m) n args W:=by
 refine⟨h.1,fun W' r o O k1 k2 k3 k4=>(h.2 W' r o O k1 (kG.rt k2) k3 k4).mono ?_⟩;rintro e w' ⟨O',rfl,z1,z2⟩;refine⟨O',rfl,⟨z1.1,fun s hs=>?_⟩,z2⟩
 cases o <;> cases hs
theorem kG.mad{pre:Sx->Prop}{m:St->M Unit}{e:Ending}(h:qL c (kT T) O0 pre (jf m) w e w'):qL c (kG T) O0 pre (jf m) w e w':=by
 obtain⟨n,FJ,caps,h1,h2,h3⟩:=h;exact⟨n,FJ,caps,h1,kG.pc h2,h3⟩
theorem kG.zm(T:Nat):Cell (kG T) T 1 (fun _=>True) (fun v _ _ s s'=>∃u:ByteArray,v=.string u/\s'=toN u.data.toList s):=by
 rintro s P w ⟨⟨nv,iv,xv,yv,gv,h1,h2,h3,h4,h5,h6,h7⟩,hg⟩;refine⟨_,_,h1,by simp,?_⟩;rintro P' w' v s' _ ho _ hw ⟨x,rfl,rfl⟩;refine⟨⟨x,iv,xv,yv,gv,hw,rfl,h3.on ho,h4.on ho,h5.on ho,h6.on ho,h7⟩,fun e=>?_⟩;obtain⟨X2,iv2,xv2,yv2,a1,a2,a3,a4,a5,a6⟩:=hg e;rw[h1]at a1;obtain⟨_,rfl,rfl,rfl,rfl,_,rfl⟩:s.kind=s.kind/\nv=X2/\iv=iv2/\xv=xv2/\yv=yv2/\s.gT=s.gT/\gv=.slice none 0 0:=by simpa using a1
 exact⟨x,iv,xv,yv,hw,rfl,h3.on ho,h4.on ho,h5.on ho,h7⟩
def kA(c:Cx)(T A:Nat)(s0:St)(l:List (Bs×List Pt))(lv:Value):Kx:=⟨A::(lv.ownBlock.toList++[T]),fun s P w=>(∃nv xv,w.heap[A]? =some (.cells #[.string nv,xv] 75)/\nv.data.toList=s.name/\mg w P s.x xv)/\T9 T s0 lv P w/\∃ac,w.ownsRow c.B 75 2 lv l.length ac/\Hs w P l ac,by
 rintro s P P' w w' ⟨⟨nv,xv,h1,h2,h3⟩,h4,ac,h5,h6⟩ ho hX
 refine⟨⟨nv,xv,(hX A (by simp) (lt_of_heap h1)).trans h1,h2,h3.on ho⟩,h4.on ho (hX T (by simp) (lt_of_heap h4.choose_spec.choose_spec.choose_spec.choose_spec.1)),ac,iy h5 (fun k hk hl=>hX k (by simp[hk]) hl),h6.on ho⟩⟩
theorem kA.zm(c:Cx)(T A:Nat)(s0:St)(l:List (Bs×List Pt))(lv:Value)(hTA:T≠A)(hlA:lv.ownBlock≠some A):Cell (kA c T A s0 l lv) A 0 (fun _=>True) (fun v _ _ s s'=>∃u:ByteArray,v=.string u/\s'=toN u.data.toList s):=by
 rintro s P w ⟨⟨nv,xv,h1,h2,h3⟩,h4,ac,h5,h6⟩;refine⟨_,_,h1,by simp,?_⟩;rintro P' w' v s' _ ho hn hw ⟨x,rfl,rfl⟩;exact⟨⟨x,xv,hw,rfl,h3.on ho⟩,h4.on ho (hn T (by simp[kA]) hTA (lt_of_heap h4.choose_spec.choose_spec.choose_spec.choose_spec.1)),ac,iy h5 (fun k hk hl=>hn k (by simp[kA,hk]) (fun e=>hlA (e ▸ hk)) hl),h6.on ho⟩
theorem kA.uf(c:Cx)(T A:Nat)(s0:St)(l:List (Bs×List Pt))(lv:Value)(hTA:T≠A)(hlA:lv.ownBlock≠some A):Cell (kA c T A s0 l lv) A 1 (fun _=>True) (fun v P w s s'=>∃x,mg w P x v/\s'=rG x s):=by
 rintro s P w ⟨⟨nv,xv,h1,h2,h3⟩,h4,ac,h5,h6⟩;refine⟨_,_,h1,by simp,?_⟩;rintro P' w' v s' _ ho hn hw ⟨x,hx,rfl⟩;exact⟨⟨nv,v,hw,h2,hx⟩,h4.on ho (hn T (by simp[kA]) hTA (lt_of_heap h4.choose_spec.choose_spec.choose_spec.choose_spec.1)),ac,iy h5 (fun k hk hl=>hn k (by simp[kA,hk]) (fun e=>hlA (e ▸ hk)) hl),h6.on ho⟩
theorem Gone.on{O':List Nat}(h:Gone O w O' w'):On (ji O) (ji O') w w':=fun b hb hl=>⟨fun hm=>(h.own b hm).elim hb (fun h=>by omega),h.keep.block b hl hb⟩
theorem RM.T7(h:RM c X r O w):X.Nodup:=by
 obtain⟨_,_,_,_,_,_,hx⟩:=h;have:=hx.nodup;rw[hx.own]at this;exact(aR.1 this).1
def Ax:M (Bs×List Pt):=bnd anyM fun nm=>thn (iO iZ) (bnd ir fun x=>ret (nm,x))
theorem zC(f:Nat)(l:List (Bs×List Pt)):lI (f+1) l=bnd Ax fun a=>thn (jZ (l.length+1) 8) (fun r=>if jI 3 ja r then lI f (l++[a]) (jF r)else(r,.ok (l++[a]))):=by
 funext r
 show bnd anyM _ r=_;unfold Ax thn bnd
 cases h1:anyM r with
 |mk r1 x1=>
  cases x1 with
  |error e=>rfl
  |ok nm=>
   simp only
   cases h2:iO iZ r1 with
   |mk r2 x2=>
    cases x2 with
    |error e=>rfl
    |ok u=>
     simp only
     cases h3:ir r2 with
     |mk r3 x3=>
      cases x3 with
      |error e=>rfl
      |ok x=>rfl
theorem M8(r:Rs):(∃r' nm x,Ax r=(r',.ok (nm,x))/\oc [gW anyM toN,ij (iO iZ),gW ir rG] (r,some st0)=((r',some (rG x (toN nm st0))),.ok ()))\/∃r' e,Ax r=(r',.error e)/\oc [gW anyM toN,ij (iO iZ),gW ir rG] (r,some st0)=((r',none),.error e):=by
 unfold Ax thn bnd;simp only[oc,gW,ij]
 cases h1:anyM r with
 |mk r1 x1=>
  cases x1 with
  |error e=>exact .inr ⟨r1,e,rfl,rfl⟩
  |ok nm=>
   simp only
   cases h2:iO iZ r1 with
   |mk r2 x2=>
    cases x2 with
    |error e=>exact .inr ⟨r2,e,rfl,rfl⟩
    |ok u=>
     simp only
     cases h3:ir r2 with
     |mk r3 x3=>
      cases x3 with
      |error e=>exact .inr ⟨r3,e,rfl,rfl⟩
      |ok x=>exact .inl ⟨r3,nm,x,rfl,rfl⟩
theorem T8:Quiet Ax:=rV My fun _=>rV (iB _ _) fun _=>rV jJ fun _=>tI _
theorem Iy:Dn Ax:=kx Gm fun _=>kx (gV _ _) fun _=>kx iR fun _=>qv _
structure Ay(c:Cx)(T:Nat)(s0:St)(r:Rs)(O:List Nat)(w:World)(l:List (Bs×List Pt))(rr:Rs)(lv:Value)(wr:World):Prop where
 rm:∃O',RM c (lv.ownBlock.toList++[T]) rr O' wr/\Gone O w O' wr/\T9 T s0 lv (ji O') wr/\∃ac,wr.ownsRow c.B 75 2 lv l.length ac/\Hs wr (ji O') l ac
 hs:rr.hs=r.hs
 gY:rr.gY=r.gY
 arg:∃f,rr.rest.length<f/\lI (r.rest.length+1) [] r=lI f l rr
 cnt:l.length+rr.rest.length<=r.rest.length
abbrev pT:Obj:=.cells #[.string ⟨#[]⟩,.slice none 0 0] 75
variable {wr:World}{rr:Rs}{l:List (Bs×List Pt)}{s0:St}
theorem Qf(h:Ay c T s0 r O w l rr lv wr):∃O1,RT c (kA c T wr.heap.size s0 l lv) rr (some st0) O1 (wr.alloc pT)/\Gone O w O1 (wr.alloc pT)/\T≠wr.heap.size/\lv.ownBlock≠some wr.heap.size:=by
 obtain⟨O',h1,h2,h3,ac,h4,h5⟩:=h.rm;have hb:Below wr.heap.size wr (wr.alloc pT):=(aw _ _).alloc (aj _) _;have hX:=h1.T7;have hn:wr.heap.size∉lv.ownBlock.toList++[T]:=fun hm=>by have:=(h1.high _ (h1.kc hm)).2;omega
 obtain⟨O1,p1,p2⟩:=h1.Sa (X':=wr.heap.size::(lv.ownBlock.toList++[T])) (gR.of_below hb) (fun b hb'=>by
  rcases aI.1 hb' with rfl|hb'
  ·exact .inr ⟨aj _,by rw[aB];omega⟩
  ·exact .inl hb') (bV.2 ⟨hn,hX⟩)
 have hon:=p2.on;have hT:T<wr.heap.size:=(h1.high T (h1.kc (by simp))).2;refine⟨O1,⟨p1,fun s hs=>?_⟩,h2.trans p2,by omega,fun e=>hn (by simp[e])⟩;obtain rfl:=an hs;exact⟨⟨⟨#[]⟩,.slice none 0 0,aE wr _,rfl,[],rfl,none,0,0,0,rfl,by simp,rfl,fun h=>by simp at h,fun j u hu=>by cases hu⟩,h3.on hon (hb.block T hT),ac,iy h4 (fun k _ hl=>hb.block k hl),h5.on hon⟩
structure Ua(c:Cx)(T:Nat)(s0:St)(r:Rs)(O:List Nat)(w:World)(l:List (Bs×List Pt))(rr:Rs)(lv:Value)(A:Nat)(a:Bs×List Pt)(r1:Rs)(nv:ByteArray)(xv:Value)(wn:World):Prop where
 rm:∃O',RM c (A::(lv.ownBlock.toList++[T])) r1 O' wn/\Gone O w O' wn/\mg wn (ji O') a.2 xv/\T9 T s0 lv (ji O') wn/\∃ac,wn.ownsRow c.B 75 2 lv l.length ac/\Hs wn (ji O') l ac
 box:wn.heap[A]? =some (.cells #[.string nv,xv] 75)
 name:nv.data.toList=a.1
 head:Ax rr=(r1,.ok a)
 hs:r1.hs=r.hs
 gY:r1.gY=r.gY
 arg:∃f,rr.rest.length<f/\lI (r.rest.length+1) [] r=lI f l rr
 cnt:l.length+rr.rest.length<=r.rest.length
def Ub(c:Cx)(T:Nat)(r:Rs)(O:List Nat)(w:World)(v:Value)(w':World):Prop:=∃O' r' e,lI (r.rest.length+1) [] r=(r',.error e)/\v=tA c (.error e)/\RM c [T] r' O' w'/\Gone O w O' w'
variable {O1:List Nat}
theorem M9(h:Ay c T s0 r O w l rr lv wr)(h1:RT c (kA c T wr.heap.size s0 l lv) rr (some st0) O1 (wr.alloc pT))(h2:Gone O w O1 (wr.alloc pT))(hb:Below (wr.alloc pT).heap.size (wr.alloc pT) W){n1 n2 n3:Nat}{p1 p2 p3 c1 c2 c3:Array Value}(k1:nQ c (kA c T wr.heap.size s0 l lv) O1 jG (gW anyM toN) n1 (p1++c1) W)(k2:nQ c (kA c T wr.heap.size s0 l lv) O1 anyS (ij (iO iZ)) n2 (p2++c2) W)(k3:nQ c (kA c T wr.heap.size s0 l lv) O1 jG (gW ir rG) n3 (p3++c3) W):Calls ah 99 #[.slice (some ⟨W.heap.size,0,none⟩) 3 3] (W.alloc (.cells #[.func (.func n1) p1 c1,.func (.func n2) p2 c2,.func (.func n3) p3 c3] 141)) fun e w'=>∃v,e=.returned v/\((v=.nilIface/\∃a r1 nv xv,Ua c T s0 r O w l rr lv wr.heap.size a r1 nv xv w')\/(∃b,v=ln b/\Ub c T r O w v w')):=by
 have hpre:kW [(jG,gW anyM toN),(anyS,ij (iO iZ)),(jG,gW ir rG)] (rr,some st0):=by
  refine⟨⟨_,rfl⟩,fun s1 e1=>⟨trivial,fun s2 e2=>⟨?_,fun _ _=>trivial⟩⟩⟩;obtain⟨_,h4⟩:=sQ e2;show ∃s,s2.2=some s;rw[h4];unfold gW at e1
  cases hm:anyM rr with
  |mk r1 x=>
   rw[hm]at e1
   cases x with
   |error e=>cases e1
   |ok a=>
    simp only at e1;obtain rfl:=(cv e1).1;exact⟨_,rfl⟩
 refine(wu (ps:=[(n1,p1,c1),(n2,p2,c2),(n3,p3,c3)]) (ms:=[(jG,gW anyM toN),(anyS,ij (iO iZ)),(jG,gW ir rG)]) ⟨k1,k2,k3,trivial⟩ (by simp) h1 hb hpre rfl).mono ?_;rintro e w' ⟨O',rfl,z1,z2⟩;rw[show([(jG,gW anyM toN),(anyS,ij (iO iZ)),(jG,gW ir rG)]:List ((Sx->Prop)×Pm)).map (·.2)=[gW anyM toN,ij (iO iZ),gW ir rG]from rfl]at z1 ⊢;obtain⟨f,hf,harg⟩:=h.arg
 rcases M8 rr with⟨r',nm,x,y1,y2⟩|⟨r',e,y1,y2⟩
 ·rw[y2]at z1 ⊢;obtain⟨m1,m2⟩:=z1;obtain⟨⟨nv,xv,b1,b2,b3⟩,b4,ac,b5,b6⟩:=m2 _ rfl;obtain⟨q1,q2,_⟩:=ig T8 Iy y1;exact⟨_,rfl,.inl ⟨rfl,(nm,x),r',nv,xv,⟨O',m1,h2.trans z2,b3,b4,ac,b5,b6⟩,b1,b2,y1,q1.trans h.hs,q2.trans h.gY,⟨f,hf,harg⟩,h.cnt⟩⟩
 ·rw[y2]at z1 ⊢;obtain⟨b,hbb⟩:=wC c e;obtain⟨f',rfl⟩:∃f',f=f'+1:=⟨f-1,by omega⟩
  have he:lI (r.rest.length+1) [] r=(r',.error e):=by
   rw[harg,zC];unfold bnd;rw[y1]
  have hX:=z1.1.T7
  obtain⟨O2,m1,m2⟩:=z1.1.Sa (X':=[T]) (gR.refl _ _) (fun b hb=>.inl (by
   obtain rfl:=aL.1 hb
   simp[kA])) (by simp)
  exact⟨_,rfl,.inr ⟨b,hbb,O2,r',e,he,rfl,m1,h2.trans (z2.trans m2)⟩⟩
structure wD(c:Cx)(T:Nat)(s0:St)(r:Rs)(O:List Nat)(w:World)(l:List (Bs×List Pt))(rr:Rs)(a:Bs×List Pt)(r1 r2:Rs)(lv:Value)(wr:World):Prop where
 rm:∃O',RM c (lv.ownBlock.toList++[T]) r2 O' wr/\Gone O w O' wr/\T9 T s0 lv (ji O') wr/\∃ac,wr.ownsRow c.B 75 2 lv (l.length+1) ac/\Hs wr (ji O') (l++[a]) ac
 head:Ax rr=(r1,.ok a)
 hs:r2.hs=r.hs
 gY:r2.gY=r.gY
 arg:∃f,rr.rest.length<f/\lI (r.rest.length+1) [] r=lI f l rr
 cnt:l.length+rr.rest.length<=r.rest.length
theorem ES{w:World}{P:Nat->Prop}{nv:ByteArray}{xv:Value}{a:Bs×List Pt}(hn:nv.data.toList=a.1)(hx:mg w P a.2 xv):∀ {l:List (Bs×List Pt)}{cs:List Value},Hs w P l cs->Hs w P (l++[a]) (cs++[.string nv,xv])
 |[],_,h=>by
  cases h
  exact⟨nv,xv,[],rfl,hn,hx,rfl⟩
 |_::_,_,⟨DS,Vd,b,h1,h2,h3,h4⟩=>by
  subst h1;exact⟨DS,Vd,_,rfl,h2,h3,ES hn hx h4⟩
theorem RM.fin{Y:List Nat}(h:RM c (Y++[T]) r O w):∃O',RM c [T] r O' w/\Gone O w O' w/\(∀b,b∈Y->b∉O'):=by
 obtain⟨at_,hv,sv,fa,fc,os,hx⟩:=h;have hself:=hx.own;rw[aO]at hself;have hn:=hx.nodup;rw[hself,aR]at hn;have hsub:∀b,b∈[T]++c.R::(hv.ownBlock.toList++(sv.ownBlock.toList++os))->b∈O:=fun b hb=>by rw[hself];exact cA _ hb
 obtain⟨cs,a1,a2⟩:=hx.hs;exact⟨_,⟨at_,hv,sv,fa,fc,os,hx.env,hx.rb,hx.rest,hx.fl,⟨cs,a1,hsR.on (fun b hb _=>⟨fun hm=>hb (hsub b hm),rfl⟩) _ _ _ a2 (fun _ _ _=>rfl)⟩,hx.st,rfl,hn.2.1,fun b hb=>hx.high b (hsub b hb),hx.good⟩,⟨gR.refl _ _,fun b hb=>.inl (hsub b hb)⟩,fun b hb hm=>hn.2.2 b hb b hm rfl⟩
def Na(B T:Nat)(cur:Array Value)(lv:Value)(n:Nat)(ac vs:List Value)(w w':World):Prop:=∃gg cap,w'.heap[T]? =some (.cells (cur.setIfInBounds 9 (.slice (some ⟨gg,0,none⟩) (n+1) cap)) 48)/\w'.ownsRow B 75 2 (.slice (some ⟨gg,0,none⟩) (n+1) cap) (n+1) (ac++vs)/\(lv.ownBlock=some gg\/w.heap.size<=gg)/\gg≠T/\gR (T::lv.ownBlock.toList) w w'
theorem JV{B:Nat}{cur:Array Value}{n:Nat}{ac vs:List Value}{w1:World}{A:Obj}{gg:Nat}(hr:W.heap[T]? =some (.cells cur 48))(hne:lv.ownBlock≠some T)(hg:(W.alloc A).drew.grownBy w1 lv.ownBlock)(hat:lv.ownBlock=some gg\/gg=(W.alloc A).drew.heap.size)(ho:w1.ownsRow B 75 2 (.slice (some ⟨gg,0,none⟩) (n+1) cap) (n+1) (ac++vs)):Na B T cur lv n ac vs W (w1.setCell ⟨T,9,none⟩ (.slice (some ⟨gg,0,none⟩) (n+1) cap)):=by
 have lg:=lt_of_heap hr;have hz:(W.alloc A).drew.heap.size=W.heap.size+1:=by show(W.alloc A).heap.size=_;rw[aB]
 rw[hz]at hat
 have hgg:gg≠T:=by
  rintro rfl
  rcases hat with h|h
  ·exact hne h
  ·omega
 have hrow:=iE hr hg hne;exact⟨gg,cap,pP hrow _,bJ ho (a:=⟨T,9,none⟩) (by show some gg≠some T;exact fun e=>hgg (an e)) _,hat.imp id (fun h=>by omega),hgg,((((gR.refl (T::lv.ownBlock.toList) W).alloc A).drew).grown hg (fun k hk=>.inl (by rw[hk];simp))).setCell (p:=⟨T,9,none⟩) (.inl (by simp)) _⟩
variable {a:Bs×List Pt}
theorem Nb{A:Nat}{nv:ByteArray}{xv:Value}{wn:World}(h:Ua c T s0 r O w l rr lv A a r1 nv xv wn):∃cur ac la lc xa xl xc,lv=.slice la l.length lc/\xv=.slice xa xl xc/\wn.heap[T]? =some (.cells cur 48)/\cur[9]? =some lv/\wn.ownsRow c.B 75 2 lv l.length ac/\lv.ownBlock≠some T/\lv.ownBlock≠some A/\A≠T/\c.B<=wn.heap.size/\∀w',Na c.B T cur lv l.length ac [.string nv,xv] wn w'->∃la' Sb,wD c T s0 r O w l rr a r1 r1 (.slice la' (l.length+1) Sb) w'/\w'.cell? ⟨T,9,none⟩=some (.slice la' (l.length+1) Sb):=by
 obtain⟨O',h1,h2,h3,⟨tn,ti,tx,ty,b1,b2,b3,b4,b5,b6⟩,ac,h5,h6⟩:=h.rm;obtain⟨la,lc,hlv⟩:=lK h5;obtain⟨xa,xl,xc,hxv⟩:=h3.shape;have hX:=h1.T7;have hXl:=fun b hb=>(h1.high b (h1.kc hb)).2
 rw[bV,aR]at hX;obtain⟨hA,hX1,hX2,hX3⟩:=hX;have hlT:lv.ownBlock≠some T:=fun e=>hX3 T (by simp[e]) T (by simp) rfl
 have hlA:lv.ownBlock≠some A:=fun e=>hA (by simp[e])
 have hAT:A≠T:=fun e=>hA (by simp[e])
 refine⟨_,ac,la,lc,xa,xl,xc,hlv,hxv,b1,rfl,h5,hlT,hlA,hAT,by have:=h1.high c.R h1.iL;omega,?_⟩;rintro w' ⟨gg,cap,z1,z2,z3,z4,z5⟩
 have hk:gR (A::(lv.ownBlock.toList++[T])) wn w':=z5.more fun k hk _=>by
  rcases aI.1 hk with rfl|hk
  ·simp
  ·simp only[aI,aN];exact .inr (.inl hk)
 obtain⟨O2,p1,p2⟩:=h1.Sa (X':=(aZ (some ⟨gg,0,none⟩) (l.length+1) cap).ownBlock.toList++[T]) hk (fun b hb=>by
  rcases aN.1 hb with hb|hb
  ·obtain rfl:b=gg:=by simpa[bw]using hb
   rcases z3 with e|e
   ·exact .inl (by simp[e])
   ·exact .inr ⟨e,(z2.lt b rfl).2⟩
  ·exact .inl (aK _ (cA _ hb))) (by simp[bw,z4])
 have hon:=p2.on;refine⟨some ⟨gg,0,none⟩,cap,⟨⟨O2,p1,h2.trans p2,⟨tn,ti,tx,ty,z1,b2,b3.on hon,b4.on hon,b5.on hon,b6⟩,_,z2,ES h.name (h3.on hon) (h6.on hon)⟩,h.head,h.hs,h.gY,h.arg,h.cnt⟩,?_⟩;rw[af z1];rfl
variable {r2:Rs}
theorem wD.lim(h:wD c T s0 r O w l rr a r1 r2 lv wr):Calls ah 182 #[.pointer (some ⟨c.R,0,none⟩),.int .i64 ((l.length+1:Nat):Int),.int .i64 8] wr fun e w'=>e=.returned (.tuple #[])/\wD c T s0 r O w l rr a r1 (jZ (l.length+1) 8 r2).1 lv w':=by
 obtain⟨O1,h1,h2,h3,ac,h4,h5⟩:=h.rm;refine(h1.lim (l.length+1) 8).mono ?_;rintro e w' ⟨rfl,k1,k2,k3⟩;have hR:∀k,k∈lv.ownBlock.toList++[T]->k∉[c.R]:=fun k hk=>by simp;exact h1.JQ hk
 have hg:Gone O1 wr O1 w':=Gone.my k2 (by simp[h1.iL]);exact⟨rfl,⟨O1,k1,h2.trans hg,h3.on hg.on (k2.block T (h1.high T (h1.kc (by simp))).2 (hR T (by simp))),ac,iy h4 (fun k hk hl=>k2.block k hl (hR k (by simp[hk]))),h5.on hg.on⟩,h.head,h.hs,h.gY,h.arg,h.cnt⟩
theorem wD.below(h:wD c T s0 r O w l rr a r1 r2 lv wr)(hb:Below wr.heap.size wr w'):wD c T s0 r O w l rr a r1 r2 lv w':=by
 obtain⟨O1,h1,h2,h3,ac,h4,h5⟩:=h.rm;have hg:Gone O1 wr O1 w':=Gone.of_below hb;exact⟨⟨O1,h1.below hb,h2.trans hg,h3.on hg.on (hb.block T (h1.high T (h1.kc (by simp))).2),ac,iy h4 (fun k _ hl=>hb.block k hl),h5.on hg.on⟩,h.head,h.hs,h.gY,h.arg,h.cnt⟩
theorem Nc{f:Nat}(hn:Ax rr=(r1,.ok a)):lI (f+1) l rr=if jI 3 ja (jZ (l.length+1) 8 r1).1=true then lI f (l++[a]) (jF (jZ (l.length+1) 8 r1).1)else((jZ (l.length+1) 8 r1).1,.ok (l++[a])):=by
 rw[zC];unfold bnd;rw[hn];rfl
theorem JW(h:wD c T s0 r O w l rr a r1 (jZ (l.length+1) 8 r1).1 lv wr)(hrl:r.rest.length<=900000001):(jI 3 ja (jZ (l.length+1) 8 r1).1=false->∃O' r',lI (r.rest.length+1) [] r=(r',.ok (l++[a]))/\RT c (kG T) r' (some (Ar (l++[a]) s0)) O' wr/\Gone O w O' wr)/\(jI 3 ja (jZ (l.length+1) 8 r1).1=true->∃at_:Nat,at_<=900000000/\wr.cell? ⟨c.R,1,none⟩=some (.int .i64 (at_:Int))/\wr.frozen? ⟨c.R,1,none⟩=false/\Ay c T s0 r O w (l++[a]) (jF (jZ (l.length+1) 8 r1).1) lv (wr.setCell ⟨c.R,1,none⟩ (.int .i64 ((at_:Int)+1)))/\(jF (jZ (l.length+1) 8 r1).1).rest.length<rr.rest.length):=by
 obtain⟨O1,h1,h2,h3,ac,h4,h5⟩:=h.rm;obtain⟨f,hf,hlab⟩:=h.arg;obtain⟨f',rfl⟩:∃f',f=f'+1:=⟨f-1,by omega⟩
 have hds:r1.rest.length<=rr.rest.length:=by have:=Iy rr;rw[h.head]at this;exact this
 have hcnt:=h.cnt;have hst:=Nc (f:=f') (l:=l) h.head;refine⟨fun hT=>?_,fun hT=>?_⟩
 ·obtain⟨O2,p1,p2,p3⟩:=h1.fin;have hon:=p2.on;refine⟨O2,_,by rw[hlab,hst,if_neg (by rw[hT];decide)],⟨p1,fun s hs=>?_⟩,h2.trans p2⟩;obtain rfl:=an hs;refine⟨(h3.on hon rfl).tb _ ⟨ac,?_,h5.on hon⟩,fun e=>?_⟩
  ·rw[ao,bY];exact l6 h4 (by omega) _ (fun b hb=>p3 b (by simp[hb]))
  ·exact absurd (congrArg fp e) (by simp[Ar])
 ·have hne:=zA hT (by decide);obtain⟨at_,a1,a2,a3,a4,a5⟩:=h1.jF hne;have hl:=h1.env.tks.hl;rw[show((at_+1:Nat):Int)=(at_:Int)+1 by omega]at a4 a5;have hkR:gR [c.R] wr (wr.setCell ⟨c.R,1,none⟩ (.int .i64 ((at_:Int)+1))):=(gR.refl _ wr).setCell (p:=⟨c.R,1,none⟩) (.inl (by simp)) _;have hR:∀k,k∈lv.ownBlock.toList++[T]->k∉[c.R]:=fun k hk=>by simp;exact h1.JQ hk
  have hrl:(jF (jZ (l.length+1) 8 r1).1).rest.length<r1.rest.length:=ve hT (by decide);have hon:=a5.on;refine⟨at_,by omega,a2,a3,⟨⟨O1,a4,h2.trans a5,h3.on hon (hkR.block T (h1.high T (h1.kc (by simp))).2 (hR T (by simp))),ac,?_,h5.on hon⟩,h.hs,h.gY,⟨f',by omega,by rw[hlab,hst,if_pos hT]⟩,by rw[ao,bY];omega⟩,by omega⟩;rw[ao,bY];exact iy h4 (fun k hk hl=>hkR.block k hl (hR k (by simp[hk])))
theorem Zk:(ah.info? 75).map (fun i=>(i.zero,i.size,i.bytes))=some (some (.agg #[.string ⟨#[]⟩,.slice none 0 0]),2,40):=by kernel_rfl
theorem Ay.kX(h:Ay c T s0 r O w l rr lv wr):kX c wr=rr.rest.length:=by
 obtain⟨O',h1,_⟩:=h.rm;exact h1.kX
theorem wD.Wl(h:wD c T s0 r O w l rr a r1 r2 lv wr):wr.cell? ⟨T,9,none⟩=some lv:=by
 obtain⟨O1,_,_,⟨_,_,_,_,h3,_⟩,_⟩:=h.rm;rw[af h3];rfl
theorem wD.held(h:wD c T s0 r O w l rr a r1 r2 lv wr):gR O w wr:=by
 obtain⟨O1,_,h2,_⟩:=h.rm;exact h2.keep
theorem Ay.held(h:Ay c T s0 r O w l rr lv wr):gR O w wr:=by
 obtain⟨O1,_,h2,_⟩:=h.rm;exact h2.keep
theorem Nd(h:Ay c T s0 r O w l rr lv wr):∃O1,(∀W,Below (wr.alloc pT).heap.size (wr.alloc pT) W->Calls ah 147 #[.pointer (some ⟨c.R,0,none⟩),.pointer (some ⟨wr.heap.size,0,none⟩)] W fun e w'=>∃n p q,e=.returned (.func (.func n) p q)/\nQ c (kA c T wr.heap.size s0 l lv) O1 jG (gW anyM toN) n (p++q) w'/\Below W.heap.size W w')/\(∀W,Below (wr.alloc pT).heap.size (wr.alloc pT) W->Calls ah 104 #[.pointer (some ⟨c.R,0,none⟩),.string ⟨#[58,61]⟩] W fun e w'=>∃n p q,e=.returned (.func (.func n) p q)/\nQ c (kA c T wr.heap.size s0 l lv) O1 anyS (ij (iO iZ)) n (p++q) w'/\Below W.heap.size W w')/\(∀W,Below (wr.alloc pT).heap.size (wr.alloc pT) W->Calls ah 101 #[.pointer (some ⟨c.R,0,none⟩),.pointer (some ⟨wr.heap.size,1,none⟩)] W fun e w'=>∃n p q,e=.returned (.func (.func n) p q)/\nQ c (kA c T wr.heap.size s0 l lv) O1 jG (gW ir rG) n (p++q) w'/\Below W.heap.size W w')/\(∀(W0 W2 W3 W4:World)(n1 n2 n3:Nat)(p1 p2 p3 c1 c2 c3:Array Value),Below (wr.alloc pT).heap.size (wr.alloc pT) W0->nQ c (kA c T wr.heap.size s0 l lv) O1 jG (gW anyM toN) n1 (p1++c1) W2->Below W0.heap.size W0 W2->nQ c (kA c T wr.heap.size s0 l lv) O1 anyS (ij (iO iZ)) n2 (p2++c2) W3->Below W2.heap.size W2 W3->nQ c (kA c T wr.heap.size s0 l lv) O1 jG (gW ir rG) n3 (p3++c3) W4->Below W3.heap.size W3 W4->Calls ah 99 #[.slice (some ⟨W4.heap.size,0,none⟩) 3 3] (W4.alloc (.cells #[.func (.func n1) p1 c1,.func (.func n2) p2 c2,.func (.func n3) p3 c3] 141)) fun e w'=>∃v,e=.returned v/\jh O w w'/\((v=.nilIface/\∃a r1 nv xv,Ua c T s0 r O w l rr lv wr.heap.size a r1 nv xv w')\/(∃b,v=ln b/\Ub c T r O w v w'))):=by
 obtain⟨O1,h1,h2,h3,h4⟩:=Qf h;have hO:∀W,Below (wr.alloc pT).heap.size (wr.alloc pT) W->∀b,b∈O1->b<W.heap.size:=fun W hW b hb=>aJ (h1.1.high b hb).2 hW.size
 have hA:wr.heap.size∈O1:=h1.1.kc (by simp[kA]);refine⟨O1,fun W hW=>TI (hO W hW) (by simp[kA]) hA toN (kA.zm c T _ s0 l lv h3 h4),fun W hW=>vp _ (hO W hW) _ _ rfl,fun W hW=>ky (hO W hW) (by simp[kA]) hA rG (kA.uf c T _ s0 l lv h3 h4),?_⟩;intro W0 W2 W3 W4 n1 n2 n3 p1 p2 p3 c1 c2 c3 y0 y1 y2 y3 y4 y5 y6;have x2:=y0.trans (y2.mono y0.size);have x3:=x2.trans (y4.mono x2.size);have x4:=x3.trans (y6.mono x3.size);refine(M9 h h1 h2 x4 (y1.below (y4.trans (y6.mono y4.size))) (y3.below y6) y5).mono ?_;rintro e w' ⟨v,rfl,hq⟩;refine⟨v,rfl,?_,hq⟩
 rcases hq with⟨_,a,r1,nv,xv,hN⟩|⟨_,_,hQ⟩
 ·obtain⟨O2,_,g2,_⟩:=hN.rm;exact g2.keep
 ·obtain⟨O2,_,_,_,_,_,g2⟩:=hQ;exact g2.keep
theorem JX(hrt:RT c (kG T) r (some s) O w)(hs:s.args=[])(hc1:w.heap[b1]? =some (.cells #[.pointer (some ⟨c.R,0,none⟩)] 55))(hc2:w.heap[b2]? =some (.cells #[.pointer (some ⟨T,9,none⟩)] 179))(n1:b1∉O)(n2:b2∉O):Calls ah 181 #[.pointer (some ⟨b1,0,none⟩),.pointer (some ⟨b2,0,none⟩)] w fun e w'=>∃v,e=.returned v/\Does c (kG T) (gW kD Ar) r (some s) O w (.returned v) w':=by
 obtain⟨i0,hi,hz0,hz1,hz2⟩:=info_parts Zk;have hgr:=hrt.1.good;have hl:=hrt.1.env.tks.hl;have hrl:r.rest.length<=900000001:=by have:=hgr.wt;omega
 have d1:w.cell? ⟨b1,0,none⟩=some (.pointer (some ⟨c.R,0,none⟩)):=by rw[af hc1];rfl
 have d2:w.cell? ⟨b2,0,none⟩=some (.pointer (some ⟨T,9,none⟩)):=by rw[af hc2];rfl
 have HD:qes (∀W,jh O w W->(W.cell? ⟨b1,0,none⟩=some (.pointer (some ⟨c.R,0,none⟩))/\W.cell? ⟨b2,0,none⟩=some (.pointer (some ⟨T,9,none⟩)))/\jh O w W):=fun W hW=>⟨⟨(World.cell?_of_block (hW.block b1 (lt_of_heap hc1) n1)).trans d1,(World.cell?_of_block (hW.block b2 (lt_of_heap hc2) n2)).trans d2⟩,hW⟩
 have t1:=hrt.1.is 3 ⟨#[41]⟩ grp rfl
 cases hT:jI 3 grp r with
 |true=>
  rw[hT]at t1
  have hm:gW kD Ar (r,some s)=((r,some s),.ok ()):=by
   have:Ar [] s=s:=by cases s;cases hs;rfl
   simp[gW,kD,hT,this]
  have HQ:qes (∀w',Below w.heap.size w w'->Does c (kG T) (gW kD Ar) r (some s) O w (.returned .nilIface) w'):=fun w' hb=>⟨O,by rw[hm];rfl,by rw[hm];exact hrt.below hb,Gone.of_below hb⟩
  clear hrt hgr hm hT hc1 hc2 HD d2;go_enter Tryz.func181,Tryz.ntmps181;go_wp2_with fail;refine t1.mono ?_;rintro e w1 ⟨rfl,hb1⟩;have HQ1:=qet (HQ.o _ hb1);clear t1 hb1 HQ;go_wp2;go_ret;exact⟨_,rfl,HQ1.o⟩
 |false=>
  rw[hT]at t1;have hm:kD r=lI (r.rest.length+1) [] r:=by simp[kD,hT]
  have HE:qes (∀v w',Ub c T r O w v w'->Does c (kG T) (gW kD Ar) r (some s) O w (.returned v) w'):=by
   rintro v w' ⟨O',r',e,q1,rfl,q3,q4⟩;have hm2:gW kD Ar (r,some s)=((r',none),.error e):=by simp[gW,hm,q1]
   exact⟨O',by rw[hm2],by rw[hm2];exact⟨q3,fun _ h=>by cases h⟩,q4⟩
  have HF:qes (∀l w',(∃O' r',lI (r.rest.length+1) [] r=(r',.ok l)/\RT c (kG T) r' (some (Ar l s)) O' w'/\Gone O w O' w')->Does c (kG T) (gW kD Ar) r (some s) O w (.returned .nilIface) w'):=by
   rintro l w' ⟨O',r',q1,q3,q4⟩;have hm2:gW kD Ar (r,some s)=((r',some (Ar l s)),.ok ()):=by simp[gW,hm,q1]
   exact⟨O',by rw[hm2];rfl,by rw[hm2];exact q3,q4⟩
  have HI0:qes (∀w1,Below w.heap.size w w1->Ay c T s r O w [] r (.slice none 0 0) w1):=fun w1 hb=>by
   have h1:=hrt.below hb;exact⟨⟨O,h1.1,Gone.of_below hb,(h1.2 s rfl).2 hs,[],bS _ _ _ _,rfl⟩,rfl,rfl,⟨_,by omega,rfl⟩,by simp⟩
  have HC2:qes (∀W,jh O w W->W.heap[b2]? =some (.cells #[.pointer (some ⟨T,9,none⟩)] 179)):=fun W hW=>(hW.block b2 (lt_of_heap hc2) n2).trans hc2
  have HL2:qes (b2<w.heap.size):=lt_of_heap hc2;clear hrt hgr hm hT hc1 hc2 d2;go_enter Tryz.func181,Tryz.ntmps181;go_wp2_with fail;refine t1.mono ?_;rintro e w1 ⟨rfl,hb1⟩;have HI1:=qet (HI0.o _ hb1);clear t1 hb1 HI0 d1;go_wp2
  go_loopw [3,4] (fun _ _ wr=>∃l rr lv,Ay c T s r O w l rr lv wr) (fun _ _ wr=>kX c wr)
  case atStart=>exact⟨_,_,_,HI1.o⟩
  case round=>
   obtain⟨l,rr,lv,hI⟩:=hrel;have HI:=qet hI;have HM:=qet hI.kX;obtain⟨O1,m1,m2,m3,m4⟩:=Nd hI;have C1:=qet m1;have C2:=qet m2;have C3:=qet m3;have C4:=qet m4;have Iz:Below wr.heap.size wr (wr.alloc pT):=(aw _ _).alloc (aj _) _;have HA:jh O w (wr.alloc pT):=gR.trans hI.held (gR.of_below Iz);have S1:=HD.o _ HA;have hbd:Below (wr.alloc pT).heap.size (wr.alloc pT) (wr.alloc pT).drew:=(aw _ _).drew;clear hI m1 m2 m3 m4 HI1 Iz;go_wp2
   go_region_held3 (fun W=>(W.cell? ⟨b1,0,none⟩=some (.pointer (some ⟨c.R,0,none⟩))/\W.cell? ⟨b2,0,none⟩=some (.pointer (some ⟨T,9,none⟩)))/\jh O w W) (first|(with_reducible assumption)|(with_reducible refine HD.o _ ?_;(focus(repeat with_reducible (first|assumption|(apply gS;assumption)|refine jh.alloc ?_ _|refine jh.drew ?_|(apply jh.call';focus assumption)));done))) (first
    |(go_at_call 147;refine(C1.o _ hbd).mono ?_;rintro e w2 ⟨k1,p1,q1,rfl,hc2,hb2⟩)
    |(go_at_call 104;refine(C2.o _ (hbd.trans (hb2.mono hbd.size))).mono ?_;rintro e w3 ⟨k2,p2,q2,rfl,hc3,hb3⟩)
    |(go_at_call 101;refine(C3.o _ ((hbd.trans (hb2.mono hbd.size)).trans (hb3.mono (hbd.trans (hb2.mono hbd.size)).size))).mono ?_;rintro e w4 ⟨k3,p3,q3,rfl,hc4,hb4⟩)
    |(go_at_call 99;refine(C4.o _ _ _ _ _ _ _ _ _ _ _ _ _ hbd hc2 hb2 hc3 hb3 hc4 hb4).mono ?_;rintro e w5 ⟨v5,rfl,hh5,BW⟩))
   all_goals
    clear hc2 hb2 hc3 hb3 hc4 hb4 S1 HA hbd C1 C2 C3 C4
    rcases BW with⟨rfl,a,r1,nv,xv,hN⟩|⟨b,rfl,hQ⟩
    ·obtain⟨cur,ac,la,lc,xa,xl,xc,rfl,rfl,a1,a2,a3,a4,a5,a6,a7,a8⟩:=Nb hN;obtain⟨⟨e1,e2⟩,_⟩:=HD.o _ hh5;have Vc:=qet a1;have qD:=qet a4;have HOW:=qet a3;have Qc:=qet a2;have CF:=qet a8;have lT:=lt_of_heap a1;have hcn:=hN.cnt;have e9:w5.cell? ⟨T,9,none⟩=some (.slice la l.length lc):=by rw[af a1];exact a2
     have x0:w5.cell? ⟨wr.heap.size,0,none⟩=some (.string nv):=by rw[af hN.box];rfl
     have x1:w5.cell? ⟨wr.heap.size,1,none⟩=some (.slice xa xl xc):=by rw[af hN.box];rfl
     have lA:=lt_of_heap hN.box;have lb1:b1<w5.heap.size:=World.block_lt_of_cell? w5 ⟨b1,0,none⟩ e1;have lb2:b2<w5.heap.size:=World.block_lt_of_cell? w5 ⟨b2,0,none⟩ e2;have ET:∀o,(w5.alloc o).cell? ⟨b1,0,none⟩=some (.pointer (some ⟨c.R,0,none⟩)):=fun o=>(World.cell?_alloc_lt _ _ _ lb1).trans e1
     have e2a:∀o,(w5.alloc o).cell? ⟨b2,0,none⟩=some (.pointer (some ⟨T,9,none⟩)):=fun o=>(World.cell?_alloc_lt _ _ _ lb2).trans e2
     have e9a:∀o,(w5.alloc o).cell? ⟨T,9,none⟩=some (.slice la l.length lc):=fun o=>(World.cell?_alloc_lt _ _ _ lT).trans e9
     have y0:(0:Int)<=(l.length:Int):=by omega
     have y1:(l.length:Int)<=900000001:=by omega
     have HB2:=qet (HC2.o _ hh5)
     have Uc:qes ((aZ la l.length lc).ownBlock≠some b2):=fun e=>by
      obtain⟨O2,g1,g2,_⟩:=hN.rm
      rcases g2.own b2 (g1.kc (by simp[e]))with h1|h1
      ·exact n2 h1
      ·have:=HL2.o;omega
     clear a1 a2 a3 a4 a5 a6 a8 hN hh5 hcn;generalize hna:l.length=na at *;have Nf:=qet hna;clear hna;go_wp2
     go_region_law ((refine bK _ (by rfl) _ _ _ (by rfl) c.B 75 i0 _ 2 40 Tryz.underlying46 hi hz0 hz1 hz2 rfl (by omega) (.slice la na lc) na _ (by rfl) (by exact(HOW.o.alloc _)) ⟨w5.heap.size,0,none⟩ 1 1 [.string nv,.slice xa xl xc] (by rfl) (by rfl) (bf (cs:=#[.string nv,.slice xa xl xc]) (t:=75) (fr:=(0,0)) (by exact alloc_at w5 _)) (by simp[aY]) (by omega) (by unfold ff;omega) (by omega) (by simp;omega) _ rfl ?_;intro Wj cap2 w7 hown2 hgrow2 M6 hlt2;have f1:=iE Vc.o hgrow2 qD.o;have f2:=iE HB2.o hgrow2 Uc.o;have q2:w7.cell? ⟨b2,0,none⟩=some (.pointer (some ⟨T,9,none⟩)):=(by rw[af f2];rfl);have q3:w7.cell? ⟨T,9,none⟩=some (.slice la na lc):=(by rw[af f1];exact Qc.o);have FI:w7.frozen? ⟨T,9,none⟩=false:=aC f1 _;have HAD:=qet (JV Vc.o qD.o hgrow2 M6 hown2);clear hgrow2 f1 f2 hown2 M6 hlt2))
     all_goals
      obtain⟨la',Sb,hP,c9⟩:=CF.o _ HAD.o;generalize(w7.setCell ⟨T,9,none⟩ (.slice (some ⟨Wj,0,none⟩) (na+1) cap2))=w8 at *
      have HL:qes (∀W,Below w8.heap.size w8 W->Calls ah 182 #[.pointer (some ⟨c.R,0,none⟩),.int .i64 ((na:Int)+1),.int .i64 8] W fun e w'=>e=.returned (.tuple #[])/\((w'.cell? ⟨b1,0,none⟩=some (.pointer (some ⟨c.R,0,none⟩))/\w'.cell? ⟨b2,0,none⟩=some (.pointer (some ⟨T,9,none⟩)))/\w'.cell? ⟨T,9,none⟩=some (.slice la' (na+1) Sb))/\wD c T s r O w l rr a r1 (jZ (l.length+1) 8 r1).1 (.slice la' (na+1) Sb) w'):=fun W hW=>by
       have:=(hP.below hW).lim;rw[Nf.o,show((na+1:Nat):Int)=(na:Int)+1 by omega]at this;refine this.mono ?_;rintro e w' ⟨rfl,z1⟩;refine⟨rfl,⟨(HD.o _ z1.held).1,z1.Wl⟩,?_⟩;rw[Nf.o];exact z1
      have S8:(w8.cell? ⟨b1,0,none⟩=some (.pointer (some ⟨c.R,0,none⟩))/\w8.cell? ⟨b2,0,none⟩=some (.pointer (some ⟨T,9,none⟩)))/\w8.cell? ⟨T,9,none⟩=some (.slice la' (na+1) Sb):=⟨(HD.o _ hP.held).1,c9⟩
      have S9:(w8.drew.cell? ⟨b1,0,none⟩=some (.pointer (some ⟨c.R,0,none⟩))/\w8.drew.cell? ⟨b2,0,none⟩=some (.pointer (some ⟨T,9,none⟩)))/\w8.drew.cell? ⟨T,9,none⟩=some (.slice la' (na+1) Sb):=S8;have Wm:Below w8.heap.size w8 w8.drew:=(aw _ _).drew;clear HAD hP c9 CF Vc qD HOW Qc HB2 Uc q2 q3 FI e1 e2 e9 x0 x1 ET e2a e9a lT lA lb1 lb2;go_wp2
      go_region_held3 (fun W=>(W.cell? ⟨b1,0,none⟩=some (.pointer (some ⟨c.R,0,none⟩))/\W.cell? ⟨b2,0,none⟩=some (.pointer (some ⟨T,9,none⟩)))/\W.cell? ⟨T,9,none⟩=some (.slice la' (na+1) Sb)) (first|(with_reducible assumption)) (first
       |(go_at_call 182;refine(HL.o _ Wm).mono ?_;rintro e w9 ⟨rfl,hs9,Zl⟩))
      all_goals
       have HP9:=qet Zl;obtain⟨O5,AW,_⟩:=Zl.rm;have t5:=AW.is 3 ⟨#[44]⟩ ja rfl;have g1:=hs9.1.1;clear Zl AW S8 S9 Wm HL hs9;go_wp2_with fail;refine t5.mono ?_;rintro e w10 ⟨rfl,Ud⟩;have g2:=(HD.o _ (HP9.o.below Ud).held).1.1;obtain⟨hE,T6⟩:=JW (HP9.o.below Ud) hrl;clear t5 Ud g1
       cases hT:jI 3 ja (jZ (l.length+1) 8 r1).1 with
       |true=>
        obtain⟨at_,v3,v4,v5,v6,v7⟩:=T6 hT;have HB4:=qet v6;have FK:=qet v7;have k0:(0:Int)<=(at_:Int):=by omega
        have k1:(at_:Int)<=900000000:=by omega
        clear hE T6 hT v6 v7;go_wp2
        go_roundw
        case rel=>exact⟨_,_,_,HB4.o⟩
        case measure=>
         have e1:=HB4.o.kX;have e2:=HM.o;have e3:=FK.o;omega
       |false=>
        have HQ:=qet (HF.o _ _ (hE hT));clear hE T6 hT;go_wp2;go_ret;exact⟨_,rfl,HQ.o⟩
    ·have HQ:=qet (HE.o _ _ hQ);clear hQ hh5 HD HE HF HI;go_wp2;go_ret;exact⟨_,rfl,HQ.o⟩
def Cv:Sx->Prop:=fun s=>∃t,s.2=some t/\t.args=[]
theorem Qg(hO:∀b,b∈O0->b<w.heap.size):Calls ah 153 #[.pointer (some ⟨c.R,0,none⟩),.pointer (some ⟨T,9,none⟩)] w (qL c (kG T) O0 Cv (gW kD Ar) w):=by
 refine(JH c.R T 9 w).mono ?_;rintro e w' ⟨b1,b2,rfl,hc,h2⟩;refine⟨_,_,_,rfl,⟨fun W=>by simp[go_sem],fun W' r o O hkeep hrt hown hpre=>?_⟩,h2⟩;obtain⟨s,hs,ha⟩:=hpre;obtain rfl:o=some s:=hs;have hc':=hc.keep hkeep hO
 have nb:∀b,w.heap.size<=b->b<w'.heap.size->b∉O:=fun b h1 h2 hm=>by
  rcases hown b hm with hb|hb
  ·have:=hO b hb;omega
  ·omega
 have:=JX hrt ha hc'.h1 hc'.h2 (nb b1 hc.l1 (lt_of_heap hc.h1)) (nb b2 hc.l2 (lt_of_heap hc.h2));simp only[fE];refine this.mono ?_;rintro e w2 ⟨v,rfl,hd⟩;exact hd
def IA(N:Nat):Sx->Prop:=fun s=>2<=s.1.hs.length/\(top s.1).s.kind=6/\s.1.gY.length+s.1.rest.length<=N
theorem JY{k:Kx}:nQ c k O0 (IA c.toks.length) (sK iq) 57 (#[.pointer (some ⟨c.R,0,none⟩)]++#[]) W:=by
 refine⟨fun W=>by simp[go_sem],fun W' r o O _ hrt _ hpre=>?_⟩;refine(zB hrt.1 hpre.1 (.inl hpre.2.1) hpre.2.2).mono ?_;rintro e w' ⟨v,rfl,O',rfl,k1,k2⟩;exact⟨O',rfl,⟨k1,fun _ h=>by cases h⟩,k2⟩
theorem RT.kind(h:RT c (kG T) r (some s) O w)(hs:s.args=[])(kd:Int):w.frozen? ⟨T,0,none⟩=false/\w.cell? ⟨T,0,none⟩=some (.int .i64 s.kind)/\RT c (kG T) r (some {s with kind:=kd}) O (w.setCell ⟨T,0,none⟩ (.int .i64 kd))/\Gone O w O (w.setCell ⟨T,0,none⟩ (.int .i64 kd)):=by
 obtain⟨nv,iv,xv,yv,h1,h2,h3,h4,h5,h6⟩:=(h.2 s rfl).2 hs;obtain⟨at_,hv,sv,fa,fc,os,hx⟩:=h.1;have qy:T∈(kG T).X:=by simp[kG]
 have Gt:=hx.kc qy;have hk:gR [T] w (w.setCell ⟨T,0,none⟩ (.int .i64 kd)):=(gR.refl _ w).setCell (p:=⟨T,0,none⟩) (.inl (by simp)) _;have hk2:gR [c.R,T] w (w.setCell ⟨T,0,none⟩ (.int .i64 kd)):=hk.more fun k hk' _=>by rw[aL.1 hk'];simp
 have hw:=pP (j:=0) h1 (.int .i64 kd);have hrb:=hx.rb.keep hk (fun k hk'=>by rw[aL.1 hk'];exact(hx.high T Gt).1) (by simp;exact fun e=>hx.ne qy e.symm);obtain⟨o1,o2⟩:=zo hx qy hk2;have ht9:T9 T {s with kind:=kd} (.slice none 0 0) (ji O) (w.setCell ⟨T,0,none⟩ (.int .i64 kd)):=⟨nv,iv,xv,yv,hw,h2,h3.on o1,h4.on o1,h5.on o1,h6⟩
 have htb:TB T {s with kind:=kd} (ji O) (w.setCell ⟨T,0,none⟩ (.int .i64 kd)):=by
  have:=ht9.tb [] (M7 _ _);have e:Ar [] {s with kind:=kd}={s with kind:=kd}:=by cases s;cases hs;rfl
  rwa [e]at this
 obtain⟨g1,g2⟩:=RT.put hx qy hk2 (r':=r) hrb hx.rest rfl rfl rfl (aj _) (o':=some {s with kind:=kd}) (fun s' hs'=>by
  obtain rfl:=an hs'
  exact⟨htb,fun _=>ht9⟩)
 exact⟨aC h1 0,by rw[af h1];rfl,g1,g2⟩
def IB:Sx->Prop:=fun s=>(∃nm,s.2=some {st0 with name:=nm})/\∀h∈s.1.hs,wW h
abbrev Gy:List ((Sx->Prop)×Pm):=[(anyS,ij (iO tr)),(Cv,gW kD Ar),(anyS,ij (iO grp)),(pB,jf kI)]
abbrev setMs:List ((Sx->Prop)×Pm):=[(jG,gW sL tB),(anyS,ij (iO iZ)),(jG,gW ir rG),(pB,jf kI)]
variable {t:St}
theorem Ng(ht:t.args=[])(ho:∀h∈r.hs,wW h):kW Gy (r,some t):=by
 refine⟨trivial,fun s1 e1=>?_⟩;obtain⟨h1,h2⟩:=sQ e1;obtain⟨q1,q2,q3⟩:=ig (iB _ _) (gV _ _) h1;obtain⟨r1,o1⟩:=s1;obtain rfl:o1=some t:=h2;refine⟨⟨t,rfl,ht⟩,?_⟩;have P:ue [(jG,gW kD Ar),(anyS,ij (iO grp)),(pB,jf kI)] r 0:=rF Cj vg (j:=0) (.inl rfl) (od (iB _ _) (gV _ _) (j:=0) (.inl rfl) (vn ho));exact(P r1 t q1 q2 (by simpa using q3)).2
theorem Qh(ho:∀h∈r.hs,wW h):kW setMs (r,some t):=
 (rF TL PZ (j:=0) (.inl rfl) (od (iB _ _) (gV _ _) (j:=0) (.inl rfl) (rF jJ iR (j:=0) (.inl rfl) (vn ho))):ue setMs r 0) r t rfl rfl (by omega)
def Zm(c:Cx)(T:Nat)(nm:Bs)(r:Rs)(O:List Nat)(w:World)(v:Value)(w':World):Prop:=∃O',v=tA c (iP nm r).2/\RM c [T] (iP nm r).1 O' w'/\Gone O w O' w'
variable {nm:Bs}
theorem Qi{ws:World}(hrt:RT c (kG T) r (some {st0 with kind:=7,name:=nm}) O ws)(hG:Gone O w O ws)(ho:∀h∈r.hs,wW h)(hp:jI 3 tr r=true):
  (∀W,Below ws.heap.size ws W->Calls ah 104 #[.pointer (some ⟨c.R,0,none⟩),.string ⟨#[40]⟩] W fun e w'=>∃n p q,e=.returned (.func (.func n) p q)/\nQ c (kG T) O anyS (ij (iO tr)) n (p++q) w'/\Below W.heap.size W w')/\
  (∀W,Below ws.heap.size ws W->Calls ah 153 #[.pointer (some ⟨c.R,0,none⟩),.pointer (some ⟨T,9,none⟩)] W fun e w'=>∃n p q,e=.returned (.func (.func n) p q)/\nQ c (kG T) O Cv (gW kD Ar) n (p++q) w'/\Below W.heap.size W w')/\
  (∀W,Below ws.heap.size ws W->Calls ah 104 #[.pointer (some ⟨c.R,0,none⟩),.string ⟨#[41]⟩] W fun e w'=>∃n p q,e=.returned (.func (.func n) p q)/\nQ c (kG T) O anyS (ij (iO grp)) n (p++q) w'/\Below W.heap.size W w')/\
  (∀W,Below ws.heap.size ws W->Calls ah 106 #[.pointer (some ⟨c.R,0,none⟩),.pointer (some ⟨T,0,none⟩)] W fun e w'=>∃n p q,e=.returned (.func (.func n) p q)/\nQ c (kG T) O pB (jf kI) n (p++q) w'/\Below W.heap.size W w')/\
  (∀(W0 W1 W2 W3 W4:World)(n1 n2 n3 n4:Nat)(p1 p2 p3 p4 c1 c2 c3 c4:Array Value),Below ws.heap.size ws W0->nQ c (kG T) O anyS (ij (iO tr)) n1 (p1++c1) W1->Below W0.heap.size W0 W1->nQ c (kG T) O Cv (gW kD Ar) n2 (p2++c2) W2->Below W1.heap.size W1 W2->nQ c (kG T) O anyS (ij (iO grp)) n3 (p3++c3) W3->Below W2.heap.size W2 W3->nQ c (kG T) O pB (jf kI) n4 (p4++c4) W4->Below W3.heap.size W3 W4->Calls ah 99 #[.slice (some ⟨W4.heap.size,0,none⟩) 4 4] (W4.alloc (.cells #[.func (.func n1) p1 c1,.func (.func n2) p2 c2,.func (.func n3) p3 c3,.func (.func n4) p4 c4] 141)) fun e w'=>∃v,e=.returned v/\jh O w w'/\Zm c T nm r O w v w'):=by
 have hO:∀W,Below ws.heap.size ws W->∀b,b∈O->b<W.heap.size:=fun W hW b hb=>aJ (hrt.1.high b hb).2 hW.size
 refine⟨fun W hW=>vp _ (hO W hW) _ _ rfl,fun W hW=>Qg (hO W hW),fun W hW=>vp _ (hO W hW) _ _ rfl,fun W hW=>(Cr (hO W hW)).mono fun e w' h=>kG.mad h,?_⟩;intro W0 W1 W2 W3 W4 n1 n2 n3 n4 p1 p2 p3 p4 c1 c2 c3 c4 y0 y1 z1 y2 z2 y3 z3 y4 z4;have x1:=y0.trans (z1.mono y0.size);have x2:=x1.trans (z2.mono x1.size);have x3:=x2.trans (z3.mono x2.size);have x4:=x3.trans (z4.mono x3.size);refine(wu (ps:=[(n1,p1,c1),(n2,p2,c2),(n3,p3,c3),(n4,p4,c4)]) (ms:=Gy) ⟨((y1.below z2).below z3).below z4,(y2.below z3).below z4,y3.below z4,y4,trivial⟩ (by simp) hrt x4 (Ng rfl ho) rfl).mono ?_;rintro e w' ⟨O',rfl,u1,u2⟩;have hrel:=MD nm r;have hm:iP nm r=(thn (iO tr) (bnd kD fun a=>thn (iO grp) (kI {st0 with kind:=7,name:=nm,args:=a}))) r:=by unfold iP;rw[if_pos hp]
 rw[show Gy.map (·.2)=[ij (iO tr),gW kD Ar,ij (iO grp),jf kI]from rfl,hrel]at u1 ⊢;exact⟨_,rfl,(hG.trans u2).keep,O',by rw[hm],by rw[hm];exact u1.1,hG.trans u2⟩
theorem Ue{ws:World}(hrt:RT c (kG T) r (some {st0 with kind:=1,name:=nm}) O ws)(hG:Gone O w O ws)(ho:∀h∈r.hs,wW h)(hp:jI 3 tr r=false):
  (∀W,Below ws.heap.size ws W->Calls ah 154 #[.pointer (some ⟨c.R,0,none⟩),.pointer (some ⟨T,2,none⟩)] W fun e w'=>∃n p q,e=.returned (.func (.func n) p q)/\nQ c (kT T) O jG (gW sL tB) n (p++q) w'/\Below W.heap.size W w')/\
  (∀W,Below ws.heap.size ws W->Calls ah 104 #[.pointer (some ⟨c.R,0,none⟩),.string ⟨#[58,61]⟩] W fun e w'=>∃n p q,e=.returned (.func (.func n) p q)/\nQ c (kT T) O anyS (ij (iO iZ)) n (p++q) w'/\Below W.heap.size W w')/\
  (∀W,Below ws.heap.size ws W->Calls ah 101 #[.pointer (some ⟨c.R,0,none⟩),.pointer (some ⟨T,3,none⟩)] W fun e w'=>∃n p q,e=.returned (.func (.func n) p q)/\nQ c (kT T) O jG (gW ir rG) n (p++q) w'/\Below W.heap.size W w')/\
  (∀W,Below ws.heap.size ws W->Calls ah 106 #[.pointer (some ⟨c.R,0,none⟩),.pointer (some ⟨T,0,none⟩)] W fun e w'=>∃n p q,e=.returned (.func (.func n) p q)/\nQ c (kT T) O pB (jf kI) n (p++q) w'/\Below W.heap.size W w')/\
  (∀(W0 W1 W2 W3 W4:World)(n1 n2 n3 n4:Nat)(p1 p2 p3 p4 c1 c2 c3 c4:Array Value),Below ws.heap.size ws W0->nQ c (kT T) O jG (gW sL tB) n1 (p1++c1) W1->Below W0.heap.size W0 W1->nQ c (kT T) O anyS (ij (iO iZ)) n2 (p2++c2) W2->Below W1.heap.size W1 W2->nQ c (kT T) O jG (gW ir rG) n3 (p3++c3) W3->Below W2.heap.size W2 W3->nQ c (kT T) O pB (jf kI) n4 (p4++c4) W4->Below W3.heap.size W3 W4->Calls ah 99 #[.slice (some ⟨W4.heap.size,0,none⟩) 4 4] (W4.alloc (.cells #[.func (.func n1) p1 c1,.func (.func n2) p2 c2,.func (.func n3) p3 c3,.func (.func n4) p4 c4] 141)) fun e w'=>∃v,e=.returned v/\jh O w w'/\Zm c T nm r O w v w'):=by
 have hO:∀W,Below ws.heap.size ws W->∀b,b∈O->b<W.heap.size:=fun W hW b hb=>aJ (hrt.1.high b hb).2 hW.size
 have qy:T∈(kT T).X:=by simp[kT]
 have Gt:T∈O:=hrt.1.kc (by simp[kG]);refine⟨fun W hW=>MH (hO W hW) qy Gt hrt.1.iL (TG T),fun W hW=>vp _ (hO W hW) _ _ rfl,fun W hW=>ky (hO W hW) qy Gt rG (uf T),fun W hW=>Cr (hO W hW),?_⟩;intro W0 W1 W2 W3 W4 n1 n2 n3 n4 p1 p2 p3 p4 c1 c2 c3 c4 y0 y1 z1 y2 z2 y3 z3 y4 z4;have x1:=y0.trans (z1.mono y0.size);have x2:=x1.trans (z2.mono x1.size);have x3:=x2.trans (z3.mono x2.size);have x4:=x3.trans (z4.mono x3.size);refine(wu (ps:=[(n1,p1,c1),(n2,p2,c2),(n3,p3,c3),(n4,p4,c4)]) (ms:=setMs) ⟨((y1.below z2).below z3).below z4,(y2.below z3).below z4,y3.below z4,y4,trivial⟩ (by simp) (kG.rt hrt) x4 (Qh ho) rfl).mono ?_;rintro e w' ⟨O',rfl,u1,u2⟩;have hrel:=MG nm r;have hm:iP nm r=(bnd xo fun i=>thn (iO iZ) (bnd ir fun x=>kI {st0 with kind:=1,name:=nm,idx:=i,x:=x})) r:=by unfold iP;rw[if_neg (by rw[hp];decide)]
 rw[show setMs.map (·.2)=[gW sL tB,ij (iO iZ),gW ir rG,jf kI]from rfl,hrel]at u1 ⊢;exact⟨_,rfl,(hG.trans u2).keep,O',by rw[hm],by rw[hm];exact u1.1,hG.trans u2⟩
theorem xA(hrt:RT c (kG T) r (some {st0 with name:=nm}) O w)(ho:∀h∈r.hs,wW h)(hc1:w.heap[b1]? =some (.cells #[.pointer (some ⟨c.R,0,none⟩)] 55))(hc2:w.heap[b2]? =some (.cells #[.pointer (some ⟨T,0,none⟩)] 146))(n1:b1∉O)(n2:b2∉O):Calls ah 152 #[.pointer (some ⟨b1,0,none⟩),.pointer (some ⟨b2,0,none⟩)] w fun e w'=>∃v,e=.returned v/\Zm c T nm r O w v w':=by
 have d1:w.cell? ⟨b1,0,none⟩=some (.pointer (some ⟨c.R,0,none⟩)):=by rw[af hc1];rfl
 have d2:w.cell? ⟨b2,0,none⟩=some (.pointer (some ⟨T,0,none⟩)):=by rw[af hc2];rfl
 have HD:qes (∀W,jh O w W->(W.cell? ⟨b1,0,none⟩=some (.pointer (some ⟨c.R,0,none⟩))/\W.cell? ⟨b2,0,none⟩=some (.pointer (some ⟨T,0,none⟩)))/\jh O w W):=fun W hW=>⟨⟨(World.cell?_of_block (hW.block b1 (lt_of_heap hc1) n1)).trans d1,(World.cell?_of_block (hW.block b2 (lt_of_heap hc2) n2)).trans d2⟩,hW⟩
 have t1:=hrt.1.is 3 ⟨#[40]⟩ tr rfl
 cases hT:jI 3 tr r with
 |true=>
  rw[hT]at t1
  have HS:qes (∀w1,Below w.heap.size w w1->w1.frozen? ⟨T,0,none⟩=false/\w1.cell? ⟨T,0,none⟩=some (.int .i64 0)/\RT c (kG T) r (some {st0 with kind:=7,name:=nm}) O (w1.setCell ⟨T,0,none⟩ (.int .i64 7))/\Gone O w O (w1.setCell ⟨T,0,none⟩ (.int .i64 7))):=fun w1 hb=>by
   obtain⟨a1,a2,a3,a4⟩:=(hrt.below hb).kind rfl 7;exact⟨a1,a2,a3,(Gone.of_below hb).trans a4⟩
  have HO:=qet ho;have HP:=qet hT;clear hrt ho hT hc1 hc2;go_enter Tryz.func152,Tryz.ntmps152;go_wp2_with fail;refine t1.mono ?_;rintro e w1 ⟨rfl,hb1⟩;obtain⟨a1,a2,a3,a4⟩:=HS.o w1 hb1;obtain⟨⟨e1,e2⟩,_⟩:=HD.o w1 (gR.of_below hb1);obtain⟨ws,hws⟩:∃ws,ws=w1.setCell ⟨T,0,none⟩ (.int .i64 7):=⟨_,rfl⟩
  rw[<-hws]at a3 a4;have Wn:=qet hws;obtain⟨m1,m2,m3,m4,m5⟩:=Qi a3 a4 HO.o HP.o;have C1:=qet m1;have C2:=qet m2;have C3:=qet m3;have C4:=qet m4;have C5:=qet m5;have HA:jh O w ws:=a4.keep;have S1:=HD.o _ HA;have hbd:Below ws.heap.size ws ws.drew:=(aw _ _).drew;clear t1 hb1 HS a3 a4 m1 m2 m3 m4 m5 hws d1 d2;go_wp2;rw[<-Wn.o]
  go_region_held3 (fun W=>(W.cell? ⟨b1,0,none⟩=some (.pointer (some ⟨c.R,0,none⟩))/\W.cell? ⟨b2,0,none⟩=some (.pointer (some ⟨T,0,none⟩)))/\jh O w W) (first|(with_reducible assumption)|(with_reducible refine HD.o _ ?_;(focus(repeat with_reducible (first|assumption|(apply gS;assumption)|refine jh.alloc ?_ _|refine jh.drew ?_|(apply jh.call';focus assumption)));done))) (first
   |(go_at_call 104;with_reducible refine(C1.o _ hbd).mono ?_;rintro e w2 ⟨k1,p1,q1,rfl,hc2,hb2⟩)
   |(go_at_call 153;with_reducible refine(C2.o _ (hbd.trans (hb2.mono hbd.size))).mono ?_;rintro e w3 ⟨k2,p2,q2,rfl,hc3,hb3⟩)
   |(go_at_call 104;with_reducible refine(C3.o _ ((hbd.trans (hb2.mono hbd.size)).trans (hb3.mono (hbd.trans (hb2.mono hbd.size)).size))).mono ?_;rintro e w4 ⟨k3,p3,q3,rfl,hc4,hb4⟩)
   |(go_at_call 106;refine(C4.o _ (((hbd.trans (hb2.mono hbd.size)).trans (hb3.mono (hbd.trans (hb2.mono hbd.size)).size)).trans (hb4.mono ((hbd.trans (hb2.mono hbd.size)).trans (hb3.mono (hbd.trans (hb2.mono hbd.size)).size)).size))).mono ?_;rintro e w5 ⟨k4,p4,q4,rfl,hc5,hb5⟩)
   |(go_at_call 99;refine(C5.o _ _ _ _ _ _ _ _ _ _ _ _ _ _ _ _ _ hbd hc2 hb2 hc3 hb3 hc4 hb4 hc5 hb5).mono ?_;rintro e w6 ⟨v6,rfl,TU,hq⟩))
  all_goals
   have HQ:=qet hq;clear hq TU hc2 hb2 hc3 hb3 hc4 hb4 hc5 hb5 hbd S1 HA C1 C2 C3 C4 C5 HD Wn;go_wp2;go_ret;exact⟨_,rfl,HQ.o⟩
 |false=>
  rw[hT]at t1
  have HS:qes (∀w1,Below w.heap.size w w1->w1.frozen? ⟨T,0,none⟩=false/\w1.cell? ⟨T,0,none⟩=some (.int .i64 0)/\RT c (kG T) r (some {st0 with kind:=1,name:=nm}) O (w1.setCell ⟨T,0,none⟩ (.int .i64 1))/\Gone O w O (w1.setCell ⟨T,0,none⟩ (.int .i64 1))):=fun w1 hb=>by
   obtain⟨a1,a2,a3,a4⟩:=(hrt.below hb).kind rfl 1;exact⟨a1,a2,a3,(Gone.of_below hb).trans a4⟩
  have HO:=qet ho;have HP:=qet hT;clear hrt ho hT hc1 hc2;go_enter Tryz.func152,Tryz.ntmps152;go_wp2_with fail;refine t1.mono ?_;rintro e w1 ⟨rfl,hb1⟩;obtain⟨a1,a2,a3,a4⟩:=HS.o w1 hb1;obtain⟨⟨e1,e2⟩,_⟩:=HD.o w1 (gR.of_below hb1);obtain⟨ws,hws⟩:∃ws,ws=w1.setCell ⟨T,0,none⟩ (.int .i64 1):=⟨_,rfl⟩
  rw[<-hws]at a3 a4;have Wn:=qet hws;obtain⟨m1,m2,m3,m4,m5⟩:=Ue a3 a4 HO.o HP.o;have C1:=qet m1;have C2:=qet m2;have C3:=qet m3;have C4:=qet m4;have C5:=qet m5;have HA:jh O w ws:=a4.keep;have S1:=HD.o _ HA;have hbd:Below ws.heap.size ws ws.drew:=(aw _ _).drew;clear t1 hb1 HS a3 a4 m1 m2 m3 m4 m5 hws d1 d2;go_wp2;rw[<-Wn.o]
  go_region_held3 (fun W=>(W.cell? ⟨b1,0,none⟩=some (.pointer (some ⟨c.R,0,none⟩))/\W.cell? ⟨b2,0,none⟩=some (.pointer (some ⟨T,0,none⟩)))/\jh O w W) (first|(with_reducible assumption)|(with_reducible refine HD.o _ ?_;(focus(repeat with_reducible (first|assumption|(apply gS;assumption)|refine jh.alloc ?_ _|refine jh.drew ?_|(apply jh.call';focus assumption)));done))) (first
   |(go_at_call 154;with_reducible refine(C1.o _ hbd).mono ?_;rintro e w2 ⟨k1,p1,q1,rfl,hc2,hb2⟩)
   |(go_at_call 104;with_reducible refine(C2.o _ (hbd.trans (hb2.mono hbd.size))).mono ?_;rintro e w3 ⟨k2,p2,q2,rfl,hc3,hb3⟩)
   |(go_at_call 101;with_reducible refine(C3.o _ ((hbd.trans (hb2.mono hbd.size)).trans (hb3.mono (hbd.trans (hb2.mono hbd.size)).size))).mono ?_;rintro e w4 ⟨k3,p3,q3,rfl,hc4,hb4⟩)
   |(go_at_call 106;refine(C4.o _ (((hbd.trans (hb2.mono hbd.size)).trans (hb3.mono (hbd.trans (hb2.mono hbd.size)).size)).trans (hb4.mono ((hbd.trans (hb2.mono hbd.size)).trans (hb3.mono (hbd.trans (hb2.mono hbd.size)).size)).size))).mono ?_;rintro e w5 ⟨k4,p4,q4,rfl,hc5,hb5⟩)
   |(go_at_call 99;refine(C5.o _ _ _ _ _ _ _ _ _ _ _ _ _ _ _ _ _ hbd hc2 hb2 hc3 hb3 hc4 hb4 hc5 hb5).mono ?_;rintro e w6 ⟨v6,rfl,TU,hq⟩))
  all_goals
   have HQ:=qet hq;clear hq TU hc2 hb2 hc3 hb3 hc4 hb4 hc5 hb5 hbd S1 HA C1 C2 C3 C4 C5 HD Wn;go_wp2;go_ret;exact⟨_,rfl,HQ.o⟩
theorem Az(hO:∀b,b∈O0->b<w.heap.size):Calls ah 107 #[.pointer (some ⟨c.R,0,none⟩),.pointer (some ⟨T,0,none⟩)] w (qL c (kG T) O0 IB (jf Cm) w):=by
 refine(Ey c.R T 0 w).mono ?_;rintro e w' ⟨b1,b2,rfl,hc,h2⟩;refine⟨_,_,_,rfl,⟨fun W=>by simp[go_sem],fun W' r o O hkeep hrt hown hpre=>?_⟩,h2⟩;obtain⟨⟨nm,hs⟩,ha⟩:=hpre;obtain rfl:o=some {st0 with name:=nm}:=hs;have hc':=hc.keep hkeep hO
 have nb:∀b,w.heap.size<=b->b<w'.heap.size->b∉O:=fun b h1 h2 hm=>by
  rcases hown b hm with hb|hb
  ·have:=hO b hb;omega
  ·omega
 have:=xA hrt ha hc'.h1 hc'.h2 (nb b1 hc.l1 (lt_of_heap hc.h1)) (nb b2 hc.l2 (lt_of_heap hc.h2));simp only[fE];refine this.mono ?_;rintro e w2 ⟨v,rfl,O',rfl,k1,k2⟩;exact⟨O',rfl,⟨k1,fun _ h=>by cases h⟩,k2⟩
structure ow(c:Cx)(r:Rs)(O:List Nat)(w:World)(O1:List Nat)(w2:World):Prop where
 rm:RM c [] (gZ r).1 O1 w2
 gone:Gone O w O1 w2
 ok:∀h∈(gZ r).1.hs,wW h
 pos:0<(gZ r).1.gY.length
 wt:zk (gZ r).1.hs+(gZ r).1.rest.length<=c.toks.length+1
 ne:(gZ r).1.rest≠[]
 st:(gZ r).1.gY.length+(gZ r).1.rest.length<=c.toks.length+1
 eq:∀s,(jW r.rest).s=s->jr r=jq s (gZ r).1
theorem ow.of(hrm:RM c [] r O w)(hok:mH r)(hp:r.gY.length+r.rest.length<=c.toks.length)(hne:r.rest≠[]):Calls ah 97 #[.pointer (some ⟨c.R,0,none⟩)] w fun e w'=>e=.returned (.tuple #[])/\∃O1,ow c r O w O1 w':=by
 refine(Bl hrm hp).mono ?_;rintro e w' ⟨rfl,O1,h1,h2⟩;have hg:=hrm.good;obtain⟨s1,s2,s3,s4,s5,s6,s7,s8,s9⟩:=hg.start hp;have hwt:=hg.wt;refine⟨rfl,O1,h1,h2,s6 hok,by omega,by rw[s5,s2];exact hwt,by rw[s2];exact hne,by rw[s2,s3];omega,fun s hs=>?_⟩;unfold jr;rw[iD (Bn hg hp),hs]
variable {w2:World}
theorem ow.below{w3:World}(h:ow c r O w O1 w2)(hb:Below w2.heap.size w2 w3):ow c r O w O1 w3:=
 ⟨h.rm.below hb,h.gone.trans (Gone.of_below hb),h.ok,h.pos,h.wt,h.ne,h.st,h.eq⟩
theorem nw(I:ow c r O w O1 w2){k:Kx}(hX:k.X=[T])(hT:T=w2.heap.size){w0:World}(hb:Below w2.heap.size w2 w0)(hrt:RT c k (gZ r).1 (some t) (T::O1) w0){m:M Unit}{ms:List ((Sx->Prop)×Pm)}(hrel:Rel (ms.map (·.2)) t m)(hm:jr r=m (gZ r).1){ps:List (Nat×Array Value×Array Value)}(hpc:qx c k (T::O1) W ps ms)(hlen:ps.length<=100)(hbW:Below w0.heap.size w0 W)(hpre:kW ms ((gZ r).1,some t)){ob:Obj}(hob:ob=.cells (ps.map RX).toArray 141):Calls ah 99 #[.slice (some ⟨W.heap.size,0,none⟩) ps.length cap] (W.alloc ob) fun e w'=>∃v,e=.returned v/\pN c [] jr r O w v w':=by
 refine(wu hpc hlen hrt hbW hpre hob).mono ?_;rintro e w' ⟨O',rfl,z1,z2⟩;rw[hrel (gZ r).1]at z1 ⊢;have y1:=z1.1;rw[hX]at y1;obtain⟨O2,rfl,y2⟩:=y1.drop;have z3:=z2.drop (w:=w2) (by omega) hb;exact⟨_,rfl,O2,by rw[hm],by rw[hm];exact y2,I.gone.trans z3⟩
theorem EU{α:Type}{m:M α}{f:α->St->St}{s':Sx}(h:gW m f (r,some t)=(s',.ok ())):∃a r',m r=(r',.ok a)/\s'=(r',some (f a t)):=by
 unfold gW at h;simp only at h
 cases hm:m r with
 |mk r' x=>
  rw[hm]at h
  cases x with
  |error e=>cases h
  |ok u=>
   simp only[cm]at h;exact⟨u,r',rfl,((cv h).1).symm⟩
abbrev boxS(kd b:Int):Obj:=.cells #[.int .i64 kd,.string ⟨#[]⟩,.slice none 0 0,.slice none 0 0,.slice none 0 0,.int .i64 b,.slice none 0 0,.slice none 0 0,.slice none 0 0,.slice none 0 0] 48
theorem ow.box(I:ow c r O w O1 w2)(kd b:Int):RT c (kT w2.heap.size) (gZ r).1 (some {st0 with kind:=kd,gT:=b}) (w2.heap.size::O1) (w2.alloc (boxS kd b)):=
 ⟨I.rm.push _,fun s hs=>by
  obtain rfl:=an hs
  exact TB.new (aE w2 _)⟩
theorem T9.new{kd b:Int}(h:w.heap[T]? =some (boxS kd b)):T9 T {st0 with kind:=kd,gT:=b} (.slice none 0 0) P w:=by
 have hp:mg w P [] (.slice none 0 0):=⟨[],rfl,none,0,0,0,rfl,by simp,rfl,fun h=>by simp at h,fun j u hu=>by cases hu⟩
 exact⟨⟨#[]⟩,_,_,_,h,rfl,hp,hp,hp,rfl,rfl,rfl⟩
theorem ow.Zn(I:ow c r O w O1 w2):RT c (kG w2.heap.size) (gZ r).1 (some st0) (w2.heap.size::O1) (w2.alloc (boxS 0 0)):=
 ⟨I.rm.push _,fun s hs=>by
  obtain rfl:=an hs
  exact⟨TB.new (kd:=0) (b:=0) (aE w2 _),fun _=>T9.new (kd:=0) (b:=0) (aE w2 _)⟩⟩
abbrev Cw(N:Nat):List ((Sx->Prop)×Pm):=[(anyS,ij (gU jj)),(jG,gW ir rG),(anyS,ij (gU qX)),(mx N,jf iG)]
abbrev zD(N:Nat):List ((Sx->Prop)×Pm):=[(anyS,ij (gU iT)),(mx N,jf iG)]
abbrev Nh(N:Nat):List ((Sx->Prop)×Pm):=[(anyS,ij (gU j7)),(jG,gW kN toN),(anyS,ij (iO iZ)),(jG,gW ir rG),(anyS,ij (gU vS)),(jG,gW ir XT),(jG,gW JB xw),(anyS,ij (gU qX)),(mx N,jf iG)]
abbrev Ni(N:Nat):List ((Sx->Prop)×Pm):=[(anyS,ij (gU jE)),(jG,gW ir rG),(anyS,ij (gU Dr)),(mx N,jf iG),(IA N,sK iq)]
abbrev Gz:List ((Sx->Prop)×Pm):=[(anyS,ij (gU kQ)),(pB,jf kI)]
abbrev zE:List ((Sx->Prop)×Pm):=[(anyS,ij (gU js)),(pB,jf kI)]
abbrev IC:List ((Sx->Prop)×Pm):=[(jG,gW kN toN),(IB,jf Cm)]
section
variable {c:Cx} {r:Rs} {O:List Nat} {w:World} {O1:List Nat} {w2:World}
theorem ow.Nj(I:ow c r O w O1 w2):ue [(mx c.toks.length,jf iG)] (gZ r).1 1:=Bh I.ok I.pos I.wt (fun _ _ _ _ _ _ _=>trivial)
theorem ow.Nk(I:ow c r O w O1 w2)(t:St):kW (Cw c.toks.length) ((gZ r).1,some t):=
 (od (iB _ _) (gV _ _) (j:=1) (.inr ⟨rfl,kK _⟩) (rF jJ iR (j:=0) (.inl rfl) (od (iB _ _) (gV _ _) (j:=0) (.inl rfl) I.Nj)):ue (Cw c.toks.length) (gZ r).1 0) _ t rfl rfl (by omega)
theorem ow.JZ(I:ow c r O w O1 w2)(t:St):kW (zD c.toks.length) ((gZ r).1,some t):=
 (od (iB _ _) (gV _ _) (j:=1) (.inr ⟨rfl,kK _⟩) I.Nj:ue (zD c.toks.length) (gZ r).1 0) _ t rfl rfl (by omega)
theorem ow.Uf(I:ow c r O w O1 w2)(t:St):kW (Nh c.toks.length) ((gZ r).1,some t):=
 (od (iB _ _) (gV _ _) (j:=1) (.inr ⟨rfl,kK _⟩) (rF ud qb (j:=0) (.inl rfl) (od (iB _ _) (gV _ _) (j:=0) (.inl rfl) (rF jJ iR (j:=0) (.inl rfl) (od (iB _ _) (gV _ _) (j:=0) (.inl rfl) (rF jJ iR (j:=0) (.inl rfl) (rF V3 TD (j:=0) (.inl rfl) (od (iB _ _) (gV _ _) (j:=0) (.inl rfl) I.Nj))))))):ue (Nh c.toks.length) (gZ r).1 0) _ t rfl rfl (by omega)
theorem ow.Qj(I:ow c r O w O1 w2)(t:St):kW Gz ((gZ r).1,some t):=
 (od (iB _ _) (gV _ _) (j:=0) (.inl rfl) (vn I.ok):ue Gz (gZ r).1 0) _ t rfl rfl (by omega)
theorem ow.J0(I:ow c r O w O1 w2)(t:St):kW zE ((gZ r).1,some t):=
 (od (iB _ _) (gV _ _) (j:=0) (.inl rfl) (vn I.ok):ue zE (gZ r).1 0) _ t rfl rfl (by omega)
theorem ow.Nl(I:ow c r O w O1 w2):kW IC ((gZ r).1,some st0):=by
 refine⟨⟨_,rfl⟩,fun s1 e1=>?_⟩;obtain⟨nm,r1,h1,rfl⟩:=EU e1;obtain⟨q1,_,_⟩:=ig ud qb h1;exact⟨⟨⟨nm,rfl⟩,by rw[q1];exact I.ok⟩,fun _ _=>trivial⟩
theorem ow.Qk(I:ow c r O w O1 w2)(t:St)(ht:t.kind=6):kW (Ni c.toks.length) ((gZ r).1,some t):=by
 refine⟨trivial,fun s1 e1=>?_⟩;obtain⟨h1,h2⟩:=sQ e1;obtain⟨r1,o1⟩:=s1;obtain rfl:o1=some t:=h2;obtain⟨a1,a2,a3⟩:=ig (iB _ _) (gV _ _) h1
 have hl:r1.rest.length<(gZ r).1.rest.length:=by
  have:=kK jE (gZ r).1 () (by rw[show(gU jE (gZ r).1)=(r1,.ok ())from h1]);rw[show(gU jE (gZ r).1)=(r1,.ok ())from h1]at this;exact this
 refine⟨⟨t,rfl⟩,fun s2 e2=>?_⟩;obtain⟨x,r2,h2,rfl⟩:=EU e2;obtain⟨b1,b2,b3⟩:=ig jJ iR h2;refine⟨trivial,fun s3 e3=>?_⟩;obtain⟨h3,h4⟩:=sQ e3;obtain⟨r3,o3⟩:=s3;obtain rfl:o3=some (rG x t):=h4;obtain⟨c1,c2,c3⟩:=ig (iB _ _) (gV _ _) h3;have c1:r3.hs=r2.hs:=c1;have c2:r3.gY=r2.gY:=c2;have c3:r3.rest.length<=r2.rest.length:=c3;have a1:r1.hs=(gZ r).1.hs:=a1;have a2:r1.gY=(gZ r).1.gY:=a2;have hwt:=I.wt;have hst:=I.st;refine⟨⟨⟨_,rfl⟩,by show ∀h∈r3.hs,wW h;rw[c1,b1,a1];exact I.ok,by show 0<r3.gY.length;rw[c2,b2,a2];exact I.pos,by show zk r3.hs+r3.rest.length<=_;rw[c1,b1,a1];omega⟩,fun s4 e4=>?_⟩;have e5:s4=({r3 with hs:=⟨rG x t,(r3.gY.length:Int)-1,false,false,0⟩::r3.hs},none):=((cv e4).1).symm;subst e5;obtain⟨kd,l,hkl⟩:=I.rm.good.some;refine⟨⟨by show 2<=(_::r3.hs).length;rw[c1,b1,a1,hkl];simp,ht,by show r3.gY.length+r3.rest.length<=_;rw[c2,b2,a2];omega⟩,fun _ _=>trivial⟩
end
theorem kF{xs:ByteArray}{s:Bs}(hx:xs.data.toList=s){l:Bs}(h:s≠l):(xs.toList==l)=false:=by
 rw[cB,hx,beq_eq_false_iff_ne];exact h
theorem ui{xs:ByteArray}{s:Bs}(hx:xs.data.toList=s){l:Bs}(h:s=l):(xs.toList==l)=true:=by
 rw[cB,hx,beq_iff_eq];exact h
theorem Nn:jq sr=mM false:=by
 unfold jq;rw[if_pos rfl]
theorem EV:jq jj=thn (gU jj) (bnd ir fun x=>thn (gU qX) (iG {st0 with kind:=3,x:=x})):=by
 unfold jq;rw[if_neg (by decide),if_pos rfl]
theorem Cy:jq iT=thn (gU iT) (iG {st0 with kind:=4}):=by
 unfold jq;rw[if_neg (by decide),if_neg (by decide),if_pos rfl]
theorem J1:jq j7=thn (gU j7) (bnd kN fun nm=>thn (iO iZ) (bnd ir fun x=>thn (gU vS) (bnd ir fun y=>bnd K8 fun b=>thn (gU qX) (iG {st0 with kind:=5,name:=nm,x:=x,y:=y,gT:=b})))):=by
 unfold jq;rw[if_neg (by decide),if_neg (by decide),if_neg (by decide),if_pos rfl]
theorem GA:jq jE=thn (gU jE) (bnd ir fun x=>thn (gU Dr) (thn (iG {st0 with kind:=6,x:=x}) iq)):=by
 unfold jq;rw[if_neg (by decide),if_neg (by decide),if_neg (by decide),if_neg (by decide),if_pos rfl]
theorem GC:jq kQ=thn (gU kQ) (kI {st0 with kind:=8}):=by
 unfold jq;rw[if_neg (by decide),if_neg (by decide),if_neg (by decide),if_neg (by decide),if_neg (by decide),if_pos rfl]
theorem Cz:jq js=thn (gU js) (kI {st0 with kind:=9}):=by
 unfold jq;rw[if_neg (by decide),if_neg (by decide),if_neg (by decide),if_neg (by decide),if_neg (by decide),if_neg (by decide),if_pos rfl]
theorem xB(hrm:RM c [] r O w)(hok:mH r)(hp:r.gY.length+r.rest.length<=c.toks.length)(hne:r.rest≠[])(h0:(jW r.rest).s≠sr)(h1:(jW r.rest).s=jj):Calls ah 56 #[.pointer (some ⟨c.R,0,none⟩)] w fun e w'=>∃v,e=.returned v/\pN c [] jr r O w v w':=by
 have lR:=(hrm.high c.R hrm.iL).2;obtain⟨xk,xs,xn,xt,xa,hxs,t1⟩:=hrm.next;replace t1:=t1 w (aw _ _);replace hxs:xs.data.toList=(jW r.rest).s:=by rw[hxs]
 have CS:qes (∀W,Below w.heap.size w W->Calls ah 97 #[.pointer (some ⟨c.R,0,none⟩)] W fun e w'=>e=.returned (.tuple #[])/\∃O1,ow c r O w O1 w'):=fun W hW=>by
  refine(ow.of (hrm.below hW) hok hp hne).mono ?_;rintro e w' ⟨rfl,O1,I⟩;exact⟨rfl,O1,I.rm,(Gone.of_below hW).trans I.gone,I.ok,I.pos,I.wt,I.ne,I.st,I.eq⟩
 have Ml:(xs.toList==[73,70])=false:=kF hxs h0;have OO:(xs.toList==[87,72,73,76,69])=true:=ui hxs h1;have HM:qes (∀O1 w2,ow c r O w O1 w2->jr r=jq jj (gZ r).1):=fun O1 w2 I=>I.eq _ h1
 clear hrm hok hp hne hxs h0 h1;have fd:=uQ xk xn xt xa xs;go_enter dK,dD;go_wp2_with fail;refine t1.mono ?_;rintro e w1 ⟨rfl,hb1⟩;have t2:=CS.o w1 hb1;clear t1 hb1 CS;go_wp2_with fail;refine t2.mono ?_;rintro e w2 ⟨rfl,O1,I⟩;obtain⟨T,hT⟩:∃T,T=w2.heap.size:=⟨_,rfl⟩
 obtain⟨w0,hw0⟩:∃w0,w0=w2.alloc (boxS 3 0):=⟨_,rfl⟩
 have hrt:=I.box 3 0;rw[<-hT,<-hw0]at hrt;have tC:∀b,b∈T::O1->b<w0.heap.size:=fun b hb=>(hrt.1.high b hb).2
 have hb0:Below w2.heap.size w2 w0:=by rw[hw0];exact(aw _ _).alloc (aj _) _
 have ID:qes (c.R∈T::O1):=hrt.1.iL;have Bo:=qet hrt;have HI:=qet I;have HB0:=qet hb0;have HT:=qet hT;have HW0:=qet hw0;have mQ:=qet (HM.o _ _ I);clear hrt I hb0 hT hw0 HM t2;have t1:=lJ (c:=c) (kT T) tC (w:=w0) ⟨#[87,72,73,76,69]⟩ jj rfl;unfold qL at t1;go_wp2_with fail;rw[<-HW0.o,<-HT.o];refine t1.mono ?_;rintro e x1 ⟨n1,nt,ca1,rfl,hp1,hb1⟩;have pC:∀b,b∈T::O1->b<x1.heap.size:=fun b hb=>aJ (tC b hb) hb1.size
 clear t1;have t2:=ky (c:=c) (k:=kT T) pC (T:=T) (j:=3) (by simp[kT]) (by simp) rG (uf T) (w:=x1);unfold qL at t2;go_wp2_with fail;refine t2.mono ?_;rintro e x2 ⟨n2,wY,ca2,rfl,hp2,hb2⟩;have hO2:∀b,b∈T::O1->b<x2.heap.size:=fun b hb=>aJ (pC b hb) hb2.size
 clear t2;have t3:=lJ (c:=c) (kT T) hO2 (w:=x2) ⟨#[68,79]⟩ qX rfl;unfold qL at t3;go_wp2_with fail;refine t3.mono ?_;rintro e x3 ⟨n3,wZ,ca3,rfl,hp3,hb3⟩;have hO3:∀b,b∈T::O1->b<x3.heap.size:=fun b hb=>aJ (hO2 b hb) hb3.size
 clear t3;have t4:=vq (c:=c) hO3 (T:=T) (w:=x3);unfold qL at t4;go_wp2_with fail;refine t4.mono ?_;rintro e x4 ⟨n4,Qd,Qe,rfl,KF,hb4⟩;have hO4:∀b,b∈T::O1->b<x4.heap.size:=fun b hb=>aJ (hO3 b hb) hb4.size
 clear t4;have t20:Calls ah 99 #[.slice (some ⟨x4.heap.size,0,none⟩) 4 4] (x4.alloc (.cells #[.func (.func n1) nt ca1,.func (.func n2) wY ca2,.func (.func n3) wZ ca3,.func (.func n4) Qd Qe] 141)) fun e w'=>∃v,e=.returned v/\pN c [] jr r O w v w':=nw (ps:=[(n1,nt,ca1),(n2,wY,ca2),(n3,wZ,ca3),(n4,Qd,Qe)]) (ms:=Cw c.toks.length) HI.o (k:=kT T) (T:=T) rfl HT.o HB0.o Bo.o JA (mQ.o.trans (congrFun EV _)) ⟨(((hp1.below hb2).below hb3).below hb4),((hp2.below hb3).below hb4),(hp3.below hb4),KF,trivial⟩ (by simp) (((hb1.trans (hb2.mono hb1.size)).trans (hb3.mono (hb1.trans (hb2.mono hb1.size)).size)).trans (hb4.mono ((hb1.trans (hb2.mono hb1.size)).trans (hb3.mono (hb1.trans (hb2.mono hb1.size)).size)).size)) (HI.o.Nk _) rfl
 clear Bo HI HB0 HT HW0 mQ ID hp1 hb1 pC hp2 hb2 hO2 hp3 hb3 hO3 KF hb4 hO4 tC;go_wp2_with fail;refine t20.mono ?_;rintro en x20 ⟨v,rfl,hQ⟩;have HQ:=qet hQ;clear t20 hQ;go_wp2;go_ret;exact⟨_,rfl,HQ.o⟩
end Go.Proofs.YtekanffohkeoeaaGreatDoor
