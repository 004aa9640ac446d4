import Derived.Test.YtekanffohkeoeaaGreatDoorVhW
import Derived.Test.YtekanffohkeoeaaGreatDoorZpW
import Derived.Test.YtekanffohkeoeaaGreatDoorBkP
import Derived.Test.YtekanffohkeoeaaGreatDoorLex
import Derived.LaidEql
import Derived.Stop.Asserts
import Derived.RowKitTokens
namespace Go.Proofs.YtekanffohkeoeaaGreatDoor
open Go.RowKit Go.Extern.Stop Go.Stop Go.Extern
open Go.Proofs.Tryz renaming prog → ah, func56 → dK, ntmps56 → dD, underlying101 → dV, underlying63 → dt, underlying259 → dE
open Go.RowKit.Below renaming refl → aw
open Nat renaming le_refl → aj, lt_of_lt_of_le → aJ, le_trans → aP, lt_succ_self → fx
open List renaming cons_append → bM, map_cons → bL, sum_cons → fo, mem_singleton → aL, length_map → aQ, map_append → bB, append_assoc → aO, mem_append → aN, length_append → ao, append_nil → bm, mem_cons → aI, not_mem_nil → bG
open Option.some renaming inj → an
open Prod.mk renaming inj → cv
open Go.Lib renaming cell_of_heap → af, frozen_of_heap → aC, alloc_old → bj
open Go.World renaming size_setCell → bO, size_alloc → aB, ownsRow_nil → bS
open Go renaming heap_alloc_new → aE
open Option renaming map_eq_some_iff → cj
set_option maxRecDepth 100000
set_option maxHeartbeats 6400000
variable {w:World}{O:List Nat}{r:Rs}{c:Cx}
theorem CD(hrm:RM c [] r O w)(hok:mH r)(hp:r.gY.length+r.rest.length<=c.toks.length)(hne:r.rest≠[])(h0:(jW r.rest).s=sr):Calls ah 56 #[.pointer (some ⟨c.R,0,none⟩)] w fun e w'=>∃v,e=.returned v/\pN c [] jr r O w v w':=by
 have lR:=(hrm.high c.R hrm.iL).2;obtain⟨xk,xs,xn,xt,xa,hxs,t1⟩:=hrm.next;replace t1:=t1 w (aw _ _);replace hxs:xs.data.toList=(jW r.rest).s:=by rw[hxs]
 have CS:qes (∀W,Below w.heap.size w W->Calls ah 97 #[.pointer (some ⟨c.R,0,none⟩)] W fun e w'=>e=.returned (.tuple #[])/\∃O1,ow c r O w O1 w'):=fun W hW=>by
  refine(ow.of (hrm.below hW) hok hp hne).mono ?_;rintro e w' ⟨rfl,O1,I⟩;exact⟨rfl,O1,I.rm,(Gone.of_below hW).trans I.gone,I.ok,I.pos,I.wt,I.ne,I.st,I.eq⟩
 have Ml:(xs.toList==[73,70])=true:=ui hxs h0
 have CI:qes (∀O1 w2,ow c r O w O1 w2->Calls ah 98 #[.pointer (some ⟨c.R,0,none⟩),.bool false] (w2.alloc (boxS 0 0)) fun e w'=>∃v,e=.returned v/\pN c [] jr r O w v w'):=fun O1 w2 I=>by
  have hb:Below w2.heap.size w2 (w2.alloc (boxS 0 0)):=(aw _ _).alloc (aj _) _;have J:=I.below hb;refine(EO J.rm J.ne J.ok J.pos false (fun h=>by cases h)).mono ?_;rintro e w' ⟨v,rfl,O2,rfl,k1,k2⟩;have hm:jr r=mM false (gZ r).1:=(I.eq _ h0).trans (congrFun Nn _);exact⟨_,rfl,O2,by rw[hm],by rw[hm];exact k1,J.gone.trans k2⟩
 clear hrm hok hp hne hxs h0;have fd:=uQ xk xn xt xa xs;go_enter dK,dD;go_wp2_with fail;refine t1.mono ?_;rintro e w1 ⟨rfl,hb1⟩;have t2:=CS.o w1 hb1;clear t1 hb1 CS;go_wp2_with fail;refine t2.mono ?_;rintro e w2 ⟨rfl,O1,I⟩;have t20:=CI.o _ _ I;clear t2 I CI;go_wp2_with fail;refine t20.mono ?_;rintro en x20 ⟨v,rfl,hQ⟩;have HQ:=qet hQ;clear t20 hQ;go_wp2;go_ret;exact⟨_,rfl,HQ.o⟩
theorem wE(hrm:RM c [] r O w)(hok:mH r)(hp:r.gY.length+r.rest.length<=c.toks.length)(hne:r.rest≠[])(h0:(jW r.rest).s≠sr)(h1:(jW r.rest).s≠jj)(h2:(jW r.rest).s=iT):Calls ah 56 #[.pointer (some ⟨c.R,0,none⟩)] w fun e w'=>∃v,e=.returned v/\pN c [] jr r O w v w':=by
 have lR:=(hrm.high c.R hrm.iL).2;obtain⟨xk,xs,xn,xt,xa,hxs,t1⟩:=hrm.next;replace t1:=t1 w (aw _ _);replace hxs:xs.data.toList=(jW r.rest).s:=by rw[hxs]
 have CS:qes (∀W,Below w.heap.size w W->Calls ah 97 #[.pointer (some ⟨c.R,0,none⟩)] W fun e w'=>e=.returned (.tuple #[])/\∃O1,ow c r O w O1 w'):=fun W hW=>by
  refine(ow.of (hrm.below hW) hok hp hne).mono ?_;rintro e w' ⟨rfl,O1,I⟩;exact⟨rfl,O1,I.rm,(Gone.of_below hW).trans I.gone,I.ok,I.pos,I.wt,I.ne,I.st,I.eq⟩
 have Ml:(xs.toList==[73,70])=false:=kF hxs h0;have OO:(xs.toList==[87,72,73,76,69])=false:=kF hxs h1;have PK:(xs.toList==[82,69,80,69,65,84])=true:=ui hxs h2;have HM:qes (∀O1 w2,ow c r O w O1 w2->jr r=jq iT (gZ r).1):=fun O1 w2 I=>I.eq _ h2
 clear hrm hok hp hne hxs h0 h1 h2;have fd:=uQ xk xn xt xa xs;go_enter dK,dD;go_wp2_with fail;refine t1.mono ?_;rintro e w1 ⟨rfl,hb1⟩;have t2:=CS.o w1 hb1;clear t1 hb1 CS;go_wp2_with fail;refine t2.mono ?_;rintro e w2 ⟨rfl,O1,I⟩;obtain⟨T,hT⟩:∃T,T=w2.heap.size:=⟨_,rfl⟩
 obtain⟨w0,hw0⟩:∃w0,w0=w2.alloc (boxS 4 0):=⟨_,rfl⟩
 have hrt:=I.box 4 0;rw[<-hT,<-hw0]at hrt;have tC:∀b,b∈T::O1->b<w0.heap.size:=fun b hb=>(hrt.1.high b hb).2
 have hb0:Below w2.heap.size w2 w0:=by rw[hw0];exact(aw _ _).alloc (aj _) _
 have ID:qes (c.R∈T::O1):=hrt.1.iL;have Bo:=qet hrt;have HI:=qet I;have HB0:=qet hb0;have HT:=qet hT;have HW0:=qet hw0;have mQ:=qet (HM.o _ _ I);clear hrt I hb0 hT hw0 HM t2;have t1:=lJ (c:=c) (kT T) tC (w:=w0) ⟨#[82,69,80,69,65,84]⟩ iT rfl;unfold qL at t1;go_wp2_with fail;rw[<-HW0.o,<-HT.o];refine t1.mono ?_;rintro e x1 ⟨n1,nt,ca1,rfl,hp1,hb1⟩;have pC:∀b,b∈T::O1->b<x1.heap.size:=fun b hb=>aJ (tC b hb) hb1.size
 clear t1;have t2:=vq (c:=c) pC (T:=T) (w:=x1);unfold qL at t2;go_wp2_with fail;refine t2.mono ?_;rintro e x2 ⟨n2,wY,ca2,rfl,hp2,hb2⟩;have hO2:∀b,b∈T::O1->b<x2.heap.size:=fun b hb=>aJ (pC b hb) hb2.size
 clear t2;have t20:Calls ah 99 #[.slice (some ⟨x2.heap.size,0,none⟩) 2 2] (x2.alloc (.cells #[.func (.func n1) nt ca1,.func (.func n2) wY ca2] 141)) fun e w'=>∃v,e=.returned v/\pN c [] jr r O w v w':=nw (ps:=[(n1,nt,ca1),(n2,wY,ca2)]) (ms:=zD c.toks.length) HI.o (k:=kT T) (T:=T) rfl HT.o HB0.o Bo.o Gq (mQ.o.trans (congrFun Cy _)) ⟨(hp1.below hb2),hp2,trivial⟩ (by simp) (hb1.trans (hb2.mono hb1.size)) (HI.o.JZ _) rfl
 clear Bo HI HB0 HT HW0 mQ ID hp1 hb1 pC hp2 hb2 hO2 tC;go_wp2_with fail;refine t20.mono ?_;rintro en x20 ⟨v,rfl,hQ⟩;have HQ:=qet hQ;clear t20 hQ;go_wp2;go_ret;exact⟨_,rfl,HQ.o⟩
theorem AA(hrm:RM c [] r O w)(hok:mH r)(hp:r.gY.length+r.rest.length<=c.toks.length)(hne:r.rest≠[])(h0:(jW r.rest).s≠sr)(h1:(jW r.rest).s≠jj)(h2:(jW r.rest).s≠iT)(h3:(jW r.rest).s=j7):Calls ah 56 #[.pointer (some ⟨c.R,0,none⟩)] w fun e w'=>∃v,e=.returned v/\pN c [] jr r O w v w':=by
 have lR:=(hrm.high c.R hrm.iL).2;obtain⟨xk,xs,xn,xt,xa,hxs,t1⟩:=hrm.next;replace t1:=t1 w (aw _ _);replace hxs:xs.data.toList=(jW r.rest).s:=by rw[hxs]
 have CS:qes (∀W,Below w.heap.size w W->Calls ah 97 #[.pointer (some ⟨c.R,0,none⟩)] W fun e w'=>e=.returned (.tuple #[])/\∃O1,ow c r O w O1 w'):=fun W hW=>by
  refine(ow.of (hrm.below hW) hok hp hne).mono ?_;rintro e w' ⟨rfl,O1,I⟩;exact⟨rfl,O1,I.rm,(Gone.of_below hW).trans I.gone,I.ok,I.pos,I.wt,I.ne,I.st,I.eq⟩
 have Ml:(xs.toList==[73,70])=false:=kF hxs h0;have OO:(xs.toList==[87,72,73,76,69])=false:=kF hxs h1;have PK:(xs.toList==[82,69,80,69,65,84])=false:=kF hxs h2;have RU:(xs.toList==[70,79,82])=true:=ui hxs h3;have HM:qes (∀O1 w2,ow c r O w O1 w2->jr r=jq j7 (gZ r).1):=fun O1 w2 I=>I.eq _ h3
 clear hrm hok hp hne hxs h0 h1 h2 h3;have fd:=uQ xk xn xt xa xs;go_enter dK,dD;go_wp2_with fail;refine t1.mono ?_;rintro e w1 ⟨rfl,hb1⟩;have t2:=CS.o w1 hb1;clear t1 hb1 CS;go_wp2_with fail;refine t2.mono ?_;rintro e w2 ⟨rfl,O1,I⟩;obtain⟨T,hT⟩:∃T,T=w2.heap.size:=⟨_,rfl⟩
 obtain⟨w0,hw0⟩:∃w0,w0=w2.alloc (boxS 5 1):=⟨_,rfl⟩
 have hrt:=I.box 5 1;rw[<-hT,<-hw0]at hrt;have tC:∀b,b∈T::O1->b<w0.heap.size:=fun b hb=>(hrt.1.high b hb).2
 have hb0:Below w2.heap.size w2 w0:=by rw[hw0];exact(aw _ _).alloc (aj _) _
 have ID:qes (c.R∈T::O1):=hrt.1.iL;have Bo:=qet hrt;have HI:=qet I;have HB0:=qet hb0;have HT:=qet hT;have HW0:=qet hw0;have mQ:=qet (HM.o _ _ I);clear hrt I hb0 hT hw0 HM t2;have t1:=lJ (c:=c) (kT T) tC (w:=w0) ⟨#[70,79,82]⟩ j7 rfl;unfold qL at t1;go_wp2_with fail;rw[<-HW0.o,<-HT.o];refine t1.mono ?_;rintro e x1 ⟨n1,nt,ca1,rfl,hp1,hb1⟩;have pC:∀b,b∈T::O1->b<x1.heap.size:=fun b hb=>aJ (tC b hb) hb1.size
 clear t1;have t2:=Ir (c:=c) (k:=kT T) pC (T:=T) (j:=1) (by simp[kT]) toN (zm T) (w:=x1);unfold qL at t2;go_wp2_with fail;refine t2.mono ?_;rintro e x2 ⟨n2,wY,ca2,rfl,hp2,hb2⟩;have hO2:∀b,b∈T::O1->b<x2.heap.size:=fun b hb=>aJ (pC b hb) hb2.size
 clear t2;have t3:=vp (c:=c) (kT T) hO2 (w:=x2) ⟨#[58,61]⟩ iZ rfl;unfold qL at t3;go_wp2_with fail;refine t3.mono ?_;rintro e x3 ⟨n3,wZ,ca3,rfl,hp3,hb3⟩;have hO3:∀b,b∈T::O1->b<x3.heap.size:=fun b hb=>aJ (hO2 b hb) hb3.size
 clear t3;have t4:=ky (c:=c) (k:=kT T) hO3 (T:=T) (j:=3) (by simp[kT]) (by simp) rG (uf T) (w:=x3);unfold qL at t4;go_wp2_with fail;refine t4.mono ?_;rintro e x4 ⟨n4,Qd,Qe,rfl,KF,hb4⟩;have hO4:∀b,b∈T::O1->b<x4.heap.size:=fun b hb=>aJ (hO3 b hb) hb4.size
 clear t4;have t5:=lJ (c:=c) (kT T) hO4 (w:=x4) ⟨#[84,79]⟩ vS rfl;unfold qL at t5;go_wp2_with fail;refine t5.mono ?_;rintro e x5 ⟨n5,pr5,ca5,rfl,hp5,hb5⟩;have Zo:∀b,b∈T::O1->b<x5.heap.size:=fun b hb=>aJ (hO4 b hb) hb5.size
 clear t5;have t6:=ky (c:=c) (k:=kT T) Zo (T:=T) (j:=4) (by simp[kT]) (by simp) XT (TF T) (w:=x5);unfold qL at t6;go_wp2_with fail;refine t6.mono ?_;rintro e x6 ⟨n6,pr6,ca6,rfl,hp6,hb6⟩;have Zp:∀b,b∈T::O1->b<x6.heap.size:=fun b hb=>aJ (Zo b hb) hb6.size
 clear t6;have t7:=V4 (c:=c) (k:=kT T) Zp (T:=T) (j:=5) (by simp[kT]) (by simp) ID.o (TH T) (w:=x6);unfold qL at t7;go_wp2_with fail;refine t7.mono ?_;rintro e x7 ⟨n7,pr7,ca7,rfl,hp7,hb7⟩;have Zq:∀b,b∈T::O1->b<x7.heap.size:=fun b hb=>aJ (Zp b hb) hb7.size
 clear t7;have t8:=lJ (c:=c) (kT T) Zq (w:=x7) ⟨#[68,79]⟩ qX rfl;unfold qL at t8;go_wp2_with fail;refine t8.mono ?_;rintro e x8 ⟨n8,pr8,ca8,rfl,hp8,hb8⟩;have Zr:∀b,b∈T::O1->b<x8.heap.size:=fun b hb=>aJ (Zq b hb) hb8.size
 clear t8;have t9:=vq (c:=c) Zr (T:=T) (w:=x8);unfold qL at t9;go_wp2_with fail;refine t9.mono ?_;rintro e x9 ⟨n9,pr9,ca9,rfl,hp9,Ak⟩;have hO9:∀b,b∈T::O1->b<x9.heap.size:=fun b hb=>aJ (Zr b hb) Ak.size
 clear t9;have t20:Calls ah 99 #[.slice (some ⟨x9.heap.size,0,none⟩) 9 9] (x9.alloc (.cells #[.func (.func n1) nt ca1,.func (.func n2) wY ca2,.func (.func n3) wZ ca3,.func (.func n4) Qd Qe,.func (.func n5) pr5 ca5,.func (.func n6) pr6 ca6,.func (.func n7) pr7 ca7,.func (.func n8) pr8 ca8,.func (.func n9) pr9 ca9] 141)) fun e w'=>∃v,e=.returned v/\pN c [] jr r O w v w':=nw (ps:=[(n1,nt,ca1),(n2,wY,ca2),(n3,wZ,ca3),(n4,Qd,Qe),(n5,pr5,ca5),(n6,pr6,ca6),(n7,pr7,ca7),(n8,pr8,ca8),(n9,pr9,ca9)]) (ms:=Nh c.toks.length) HI.o (k:=kT T) (T:=T) rfl HT.o HB0.o Bo.o PV (mQ.o.trans (congrFun J1 _)) ⟨((((((((hp1.below hb2).below hb3).below hb4).below hb5).below hb6).below hb7).below hb8).below Ak),(((((((hp2.below hb3).below hb4).below hb5).below hb6).below hb7).below hb8).below Ak),((((((hp3.below hb4).below hb5).below hb6).below hb7).below hb8).below Ak),(((((KF.below hb5).below hb6).below hb7).below hb8).below Ak),((((hp5.below hb6).below hb7).below hb8).below Ak),(((hp6.below hb7).below hb8).below Ak),((hp7.below hb8).below Ak),(hp8.below Ak),hp9,trivial⟩ (by simp) ((((((((hb1.trans (hb2.mono hb1.size)).trans (hb3.mono (hb1.trans (hb2.mono hb1.size)).size)).trans (hb4.mono ((hb1.trans (hb2.mono hb1.size)).trans (hb3.mono (hb1.trans (hb2.mono hb1.size)).size)).size)).trans (hb5.mono (((hb1.trans (hb2.mono hb1.size)).trans (hb3.mono (hb1.trans (hb2.mono hb1.size)).size)).trans (hb4.mono ((hb1.trans (hb2.mono hb1.size)).trans (hb3.mono (hb1.trans (hb2.mono hb1.size)).size)).size)).size)).trans (hb6.mono ((((hb1.trans (hb2.mono hb1.size)).trans (hb3.mono (hb1.trans (hb2.mono hb1.size)).size)).trans (hb4.mono ((hb1.trans (hb2.mono hb1.size)).trans (hb3.mono (hb1.trans (hb2.mono hb1.size)).size)).size)).trans (hb5.mono (((hb1.trans (hb2.mono hb1.size)).trans (hb3.mono (hb1.trans (hb2.mono hb1.size)).size)).trans (hb4.mono ((hb1.trans (hb2.mono hb1.size)).trans (hb3.mono (hb1.trans (hb2.mono hb1.size)).size)).size)).size)).size)).trans (hb7.mono (((((hb1.trans (hb2.mono hb1.size)).trans (hb3.mono (hb1.trans (hb2.mono hb1.size)).size)).trans (hb4.mono ((hb1.trans (hb2.mono hb1.size)).trans (hb3.mono (hb1.trans (hb2.mono hb1.size)).size)).size)).trans (hb5.mono (((hb1.trans (hb2.mono hb1.size)).trans (hb3.mono (hb1.trans (hb2.mono hb1.size)).size)).trans (hb4.mono ((hb1.trans (hb2.mono hb1.size)).trans (hb3.mono (hb1.trans (hb2.mono hb1.size)).size)).size)).size)).trans (hb6.mono ((((hb1.trans (hb2.mono hb1.size)).trans (hb3.mono (hb1.trans (hb2.mono hb1.size)).size)).trans (hb4.mono ((hb1.trans (hb2.mono hb1.size)).trans (hb3.mono (hb1.trans (hb2.mono hb1.size)).size)).size)).trans (hb5.mono (((hb1.trans (hb2.mono hb1.size)).trans (hb3.mono (hb1.trans (hb2.mono hb1.size)).size)).trans (hb4.mono ((hb1.trans (hb2.mono hb1.size)).trans (hb3.mono (hb1.trans (hb2.mono hb1.size)).size)).size)).size)).size)).size)).trans (hb8.mono ((((((hb1.trans (hb2.mono hb1.size)).trans (hb3.mono (hb1.trans (hb2.mono hb1.size)).size)).trans (hb4.mono ((hb1.trans (hb2.mono hb1.size)).trans (hb3.mono (hb1.trans (hb2.mono hb1.size)).size)).size)).trans (hb5.mono (((hb1.trans (hb2.mono hb1.size)).trans (hb3.mono (hb1.trans (hb2.mono hb1.size)).size)).trans (hb4.mono ((hb1.trans (hb2.mono hb1.size)).trans (hb3.mono (hb1.trans (hb2.mono hb1.size)).size)).size)).size)).trans (hb6.mono ((((hb1.trans (hb2.mono hb1.size)).trans (hb3.mono (hb1.trans (hb2.mono hb1.size)).size)).trans (hb4.mono ((hb1.trans (hb2.mono hb1.size)).trans (hb3.mono (hb1.trans (hb2.mono hb1.size)).size)).size)).trans (hb5.mono (((hb1.trans (hb2.mono hb1.size)).trans (hb3.mono (hb1.trans (hb2.mono hb1.size)).size)).trans (hb4.mono ((hb1.trans (hb2.mono hb1.size)).trans (hb3.mono (hb1.trans (hb2.mono hb1.size)).size)).size)).size)).size)).trans (hb7.mono (((((hb1.trans (hb2.mono hb1.size)).trans (hb3.mono (hb1.trans (hb2.mono hb1.size)).size)).trans (hb4.mono ((hb1.trans (hb2.mono hb1.size)).trans (hb3.mono (hb1.trans (hb2.mono hb1.size)).size)).size)).trans (hb5.mono (((hb1.trans (hb2.mono hb1.size)).trans (hb3.mono (hb1.trans (hb2.mono hb1.size)).size)).trans (hb4.mono ((hb1.trans (hb2.mono hb1.size)).trans (hb3.mono (hb1.trans (hb2.mono hb1.size)).size)).size)).size)).trans (hb6.mono ((((hb1.trans (hb2.mono hb1.size)).trans (hb3.mono (hb1.trans (hb2.mono hb1.size)).size)).trans (hb4.mono ((hb1.trans (hb2.mono hb1.size)).trans (hb3.mono (hb1.trans (hb2.mono hb1.size)).size)).size)).trans (hb5.mono (((hb1.trans (hb2.mono hb1.size)).trans (hb3.mono (hb1.trans (hb2.mono hb1.size)).size)).trans (hb4.mono ((hb1.trans (hb2.mono hb1.size)).trans (hb3.mono (hb1.trans (hb2.mono hb1.size)).size)).size)).size)).size)).size)).size)).trans (Ak.mono (((((((hb1.trans (hb2.mono hb1.size)).trans (hb3.mono (hb1.trans (hb2.mono hb1.size)).size)).trans (hb4.mono ((hb1.trans (hb2.mono hb1.size)).trans (hb3.mono (hb1.trans (hb2.mono hb1.size)).size)).size)).trans (hb5.mono (((hb1.trans (hb2.mono hb1.size)).trans (hb3.mono (hb1.trans (hb2.mono hb1.size)).size)).trans (hb4.mono ((hb1.trans (hb2.mono hb1.size)).trans (hb3.mono (hb1.trans (hb2.mono hb1.size)).size)).size)).size)).trans (hb6.mono ((((hb1.trans (hb2.mono hb1.size)).trans (hb3.mono (hb1.trans (hb2.mono hb1.size)).size)).trans (hb4.mono ((hb1.trans (hb2.mono hb1.size)).trans (hb3.mono (hb1.trans (hb2.mono hb1.size)).size)).size)).trans (hb5.mono (((hb1.trans (hb2.mono hb1.size)).trans (hb3.mono (hb1.trans (hb2.mono hb1.size)).size)).trans (hb4.mono ((hb1.trans (hb2.mono hb1.size)).trans (hb3.mono (hb1.trans (hb2.mono hb1.size)).size)).size)).size)).size)).trans (hb7.mono (((((hb1.trans (hb2.mono hb1.size)).trans (hb3.mono (hb1.trans (hb2.mono hb1.size)).size)).trans (hb4.mono ((hb1.trans (hb2.mono hb1.size)).trans (hb3.mono (hb1.trans (hb2.mono hb1.size)).size)).size)).trans (hb5.mono (((hb1.trans (hb2.mono hb1.size)).trans (hb3.mono (hb1.trans (hb2.mono hb1.size)).size)).trans (hb4.mono ((hb1.trans (hb2.mono hb1.size)).trans (hb3.mono (hb1.trans (hb2.mono hb1.size)).size)).size)).size)).trans (hb6.mono ((((hb1.trans (hb2.mono hb1.size)).trans (hb3.mono (hb1.trans (hb2.mono hb1.size)).size)).trans (hb4.mono ((hb1.trans (hb2.mono hb1.size)).trans (hb3.mono (hb1.trans (hb2.mono hb1.size)).size)).size)).trans (hb5.mono (((hb1.trans (hb2.mono hb1.size)).trans (hb3.mono (hb1.trans (hb2.mono hb1.size)).size)).trans (hb4.mono ((hb1.trans (hb2.mono hb1.size)).trans (hb3.mono (hb1.trans (hb2.mono hb1.size)).size)).size)).size)).size)).size)).trans (hb8.mono ((((((hb1.trans (hb2.mono hb1.size)).trans (hb3.mono (hb1.trans (hb2.mono hb1.size)).size)).trans (hb4.mono ((hb1.trans (hb2.mono hb1.size)).trans (hb3.mono (hb1.trans (hb2.mono hb1.size)).size)).size)).trans (hb5.mono (((hb1.trans (hb2.mono hb1.size)).trans (hb3.mono (hb1.trans (hb2.mono hb1.size)).size)).trans (hb4.mono ((hb1.trans (hb2.mono hb1.size)).trans (hb3.mono (hb1.trans (hb2.mono hb1.size)).size)).size)).size)).trans (hb6.mono ((((hb1.trans (hb2.mono hb1.size)).trans (hb3.mono (hb1.trans (hb2.mono hb1.size)).size)).trans (hb4.mono ((hb1.trans (hb2.mono hb1.size)).trans (hb3.mono (hb1.trans (hb2.mono hb1.size)).size)).size)).trans (hb5.mono (((hb1.trans (hb2.mono hb1.size)).trans (hb3.mono (hb1.trans (hb2.mono hb1.size)).size)).trans (hb4.mono ((hb1.trans (hb2.mono hb1.size)).trans (hb3.mono (hb1.trans (hb2.mono hb1.size)).size)).size)).size)).size)).trans (hb7.mono (((((hb1.trans (hb2.mono hb1.size)).trans (hb3.mono (hb1.trans (hb2.mono hb1.size)).size)).trans (hb4.mono ((hb1.trans (hb2.mono hb1.size)).trans (hb3.mono (hb1.trans (hb2.mono hb1.size)).size)).size)).trans (hb5.mono (((hb1.trans (hb2.mono hb1.size)).trans (hb3.mono (hb1.trans (hb2.mono hb1.size)).size)).trans (hb4.mono ((hb1.trans (hb2.mono hb1.size)).trans (hb3.mono (hb1.trans (hb2.mono hb1.size)).size)).size)).size)).trans (hb6.mono ((((hb1.trans (hb2.mono hb1.size)).trans (hb3.mono (hb1.trans (hb2.mono hb1.size)).size)).trans (hb4.mono ((hb1.trans (hb2.mono hb1.size)).trans (hb3.mono (hb1.trans (hb2.mono hb1.size)).size)).size)).trans (hb5.mono (((hb1.trans (hb2.mono hb1.size)).trans (hb3.mono (hb1.trans (hb2.mono hb1.size)).size)).trans (hb4.mono ((hb1.trans (hb2.mono hb1.size)).trans (hb3.mono (hb1.trans (hb2.mono hb1.size)).size)).size)).size)).size)).size)).size)).size)) (HI.o.Uf _) rfl
 clear Bo HI HB0 HT HW0 mQ ID hp1 hb1 pC hp2 hb2 hO2 hp3 hb3 hO3 KF hb4 hO4 hp5 hb5 Zo hp6 hb6 Zp hp7 hb7 Zq hp8 hb8 Zr hp9 Ak hO9 tC;go_wp2_with fail;refine t20.mono ?_;rintro en x20 ⟨v,rfl,hQ⟩;have HQ:=qet hQ;clear t20 hQ;go_wp2;go_ret;exact⟨_,rfl,HQ.o⟩
theorem zF(hrm:RM c [] r O w)(hok:mH r)(hp:r.gY.length+r.rest.length<=c.toks.length)(hne:r.rest≠[])(h0:(jW r.rest).s≠sr)(h1:(jW r.rest).s≠jj)(h2:(jW r.rest).s≠iT)(h3:(jW r.rest).s≠j7)(h4:(jW r.rest).s=jE):Calls ah 56 #[.pointer (some ⟨c.R,0,none⟩)] w fun e w'=>∃v,e=.returned v/\pN c [] jr r O w v w':=by
 have lR:=(hrm.high c.R hrm.iL).2;obtain⟨xk,xs,xn,xt,xa,hxs,t1⟩:=hrm.next;replace t1:=t1 w (aw _ _);replace hxs:xs.data.toList=(jW r.rest).s:=by rw[hxs]
 have CS:qes (∀W,Below w.heap.size w W->Calls ah 97 #[.pointer (some ⟨c.R,0,none⟩)] W fun e w'=>e=.returned (.tuple #[])/\∃O1,ow c r O w O1 w'):=fun W hW=>by
  refine(ow.of (hrm.below hW) hok hp hne).mono ?_;rintro e w' ⟨rfl,O1,I⟩;exact⟨rfl,O1,I.rm,(Gone.of_below hW).trans I.gone,I.ok,I.pos,I.wt,I.ne,I.st,I.eq⟩
 have Ml:(xs.toList==[73,70])=false:=kF hxs h0;have OO:(xs.toList==[87,72,73,76,69])=false:=kF hxs h1;have PK:(xs.toList==[82,69,80,69,65,84])=false:=kF hxs h2;have RU:(xs.toList==[70,79,82])=false:=kF hxs h3;have Ts:(xs.toList==[67,65,83,69])=true:=ui hxs h4;have HM:qes (∀O1 w2,ow c r O w O1 w2->jr r=jq jE (gZ r).1):=fun O1 w2 I=>I.eq _ h4
 clear hrm hok hp hne hxs h0 h1 h2 h3 h4;have fd:=uQ xk xn xt xa xs;go_enter dK,dD;go_wp2_with fail;refine t1.mono ?_;rintro e w1 ⟨rfl,hb1⟩;have t2:=CS.o w1 hb1;clear t1 hb1 CS;go_wp2_with fail;refine t2.mono ?_;rintro e w2 ⟨rfl,O1,I⟩;obtain⟨T,hT⟩:∃T,T=w2.heap.size:=⟨_,rfl⟩
 obtain⟨w0,hw0⟩:∃w0,w0=w2.alloc (boxS 6 0):=⟨_,rfl⟩
 have hrt:=I.box 6 0;rw[<-hT,<-hw0]at hrt;have tC:∀b,b∈T::O1->b<w0.heap.size:=fun b hb=>(hrt.1.high b hb).2
 have hb0:Below w2.heap.size w2 w0:=by rw[hw0];exact(aw _ _).alloc (aj _) _
 have ID:qes (c.R∈T::O1):=hrt.1.iL;have Bo:=qet hrt;have HI:=qet I;have HB0:=qet hb0;have HT:=qet hT;have HW0:=qet hw0;have mQ:=qet (HM.o _ _ I);clear hrt I hb0 hT hw0 HM t2;have t1:=lJ (c:=c) (kT T) tC (w:=w0) ⟨#[67,65,83,69]⟩ jE rfl;unfold qL at t1;go_wp2_with fail;rw[<-HW0.o,<-HT.o];refine t1.mono ?_;rintro e x1 ⟨n1,nt,ca1,rfl,hp1,hb1⟩;have pC:∀b,b∈T::O1->b<x1.heap.size:=fun b hb=>aJ (tC b hb) hb1.size
 clear t1;have t2:=ky (c:=c) (k:=kT T) pC (T:=T) (j:=3) (by simp[kT]) (by simp) rG (uf T) (w:=x1);unfold qL at t2;go_wp2_with fail;refine t2.mono ?_;rintro e x2 ⟨n2,wY,ca2,rfl,hp2,hb2⟩;have hO2:∀b,b∈T::O1->b<x2.heap.size:=fun b hb=>aJ (pC b hb) hb2.size
 clear t2;have t3:=lJ (c:=c) (kT T) hO2 (w:=x2) ⟨#[79,70]⟩ Dr rfl;unfold qL at t3;go_wp2_with fail;refine t3.mono ?_;rintro e x3 ⟨n3,wZ,ca3,rfl,hp3,hb3⟩;have hO3:∀b,b∈T::O1->b<x3.heap.size:=fun b hb=>aJ (hO2 b hb) hb3.size
 clear t3;have t4:=vq (c:=c) hO3 (T:=T) (w:=x3);unfold qL at t4;go_wp2_with fail;refine t4.mono ?_;rintro e x4 ⟨n4,Qd,Qe,rfl,KF,hb4⟩;have hO4:∀b,b∈T::O1->b<x4.heap.size:=fun b hb=>aJ (hO3 b hb) hb4.size
 clear t4;have t20:Calls ah 99 #[.slice (some ⟨x4.heap.size,0,none⟩) 5 5] (x4.alloc (.cells #[.func (.func n1) nt ca1,.func (.func n2) wY ca2,.func (.func n3) wZ ca3,.func (.func n4) Qd Qe,.func (.func 57) #[.pointer (some ⟨c.R,0,none⟩)] #[]] 141)) fun e w'=>∃v,e=.returned v/\pN c [] jr r O w v w':=nw (ps:=[(n1,nt,ca1),(n2,wY,ca2),(n3,wZ,ca3),(n4,Qd,Qe),(57,#[.pointer (some ⟨c.R,0,none⟩)],#[])]) (ms:=Ni c.toks.length) HI.o (k:=kT T) (T:=T) rfl HT.o HB0.o Bo.o MB (mQ.o.trans (congrFun GA _)) ⟨(((hp1.below hb2).below hb3).below hb4),((hp2.below hb3).below hb4),(hp3.below hb4),KF,JY,trivial⟩ (by simp) (((hb1.trans (hb2.mono hb1.size)).trans (hb3.mono (hb1.trans (hb2.mono hb1.size)).size)).trans (hb4.mono ((hb1.trans (hb2.mono hb1.size)).trans (hb3.mono (hb1.trans (hb2.mono hb1.size)).size)).size)) (HI.o.Qk _ rfl) rfl
 clear Bo HI HB0 HT HW0 mQ ID hp1 hb1 pC hp2 hb2 hO2 hp3 hb3 hO3 KF hb4 hO4 tC;go_wp2_with fail;refine t20.mono ?_;rintro en x20 ⟨v,rfl,hQ⟩;have HQ:=qet hQ;clear t20 hQ;go_wp2;go_ret;exact⟨_,rfl,HQ.o⟩
theorem zG(hrm:RM c [] r O w)(hok:mH r)(hp:r.gY.length+r.rest.length<=c.toks.length)(hne:r.rest≠[])(h0:(jW r.rest).s≠sr)(h1:(jW r.rest).s≠jj)(h2:(jW r.rest).s≠iT)(h3:(jW r.rest).s≠j7)(h4:(jW r.rest).s≠jE)(h5:(jW r.rest).s=kQ):Calls ah 56 #[.pointer (some ⟨c.R,0,none⟩)] w fun e w'=>∃v,e=.returned v/\pN c [] jr r O w v w':=by
 have lR:=(hrm.high c.R hrm.iL).2;obtain⟨xk,xs,xn,xt,xa,hxs,t1⟩:=hrm.next;replace t1:=t1 w (aw _ _);replace hxs:xs.data.toList=(jW r.rest).s:=by rw[hxs]
 have CS:qes (∀W,Below w.heap.size w W->Calls ah 97 #[.pointer (some ⟨c.R,0,none⟩)] W fun e w'=>e=.returned (.tuple #[])/\∃O1,ow c r O w O1 w'):=fun W hW=>by
  refine(ow.of (hrm.below hW) hok hp hne).mono ?_;rintro e w' ⟨rfl,O1,I⟩;exact⟨rfl,O1,I.rm,(Gone.of_below hW).trans I.gone,I.ok,I.pos,I.wt,I.ne,I.st,I.eq⟩
 have Ml:(xs.toList==[73,70])=false:=kF hxs h0;have OO:(xs.toList==[87,72,73,76,69])=false:=kF hxs h1;have PK:(xs.toList==[82,69,80,69,65,84])=false:=kF hxs h2;have RU:(xs.toList==[70,79,82])=false:=kF hxs h3;have Ts:(xs.toList==[67,65,83,69])=false:=kF hxs h4;have U6:(xs.toList==[69,88,73,84])=true:=ui hxs h5;have HM:qes (∀O1 w2,ow c r O w O1 w2->jr r=jq kQ (gZ r).1):=fun O1 w2 I=>I.eq _ h5
 clear hrm hok hp hne hxs h0 h1 h2 h3 h4 h5;have fd:=uQ xk xn xt xa xs;go_enter dK,dD;go_wp2_with fail;refine t1.mono ?_;rintro e w1 ⟨rfl,hb1⟩;have t2:=CS.o w1 hb1;clear t1 hb1 CS;go_wp2_with fail;refine t2.mono ?_;rintro e w2 ⟨rfl,O1,I⟩;obtain⟨T,hT⟩:∃T,T=w2.heap.size:=⟨_,rfl⟩
 obtain⟨w0,hw0⟩:∃w0,w0=w2.alloc (boxS 8 0):=⟨_,rfl⟩
 have hrt:=I.box 8 0;rw[<-hT,<-hw0]at hrt;have tC:∀b,b∈T::O1->b<w0.heap.size:=fun b hb=>(hrt.1.high b hb).2
 have hb0:Below w2.heap.size w2 w0:=by rw[hw0];exact(aw _ _).alloc (aj _) _
 have ID:qes (c.R∈T::O1):=hrt.1.iL;have Bo:=qet hrt;have HI:=qet I;have HB0:=qet hb0;have HT:=qet hT;have HW0:=qet hw0;have mQ:=qet (HM.o _ _ I);clear hrt I hb0 hT hw0 HM t2;have t1:=lJ (c:=c) (kT T) tC (w:=w0) ⟨#[69,88,73,84]⟩ kQ rfl;unfold qL at t1;go_wp2_with fail;rw[<-HW0.o,<-HT.o];refine t1.mono ?_;rintro e x1 ⟨n1,nt,ca1,rfl,hp1,hb1⟩;have pC:∀b,b∈T::O1->b<x1.heap.size:=fun b hb=>aJ (tC b hb) hb1.size
 clear t1;have t2:=Cr (c:=c) pC (T:=T) (w:=x1);unfold qL at t2;go_wp2_with fail;refine t2.mono ?_;rintro e x2 ⟨n2,wY,ca2,rfl,hp2,hb2⟩;have hO2:∀b,b∈T::O1->b<x2.heap.size:=fun b hb=>aJ (pC b hb) hb2.size
 clear t2;have t20:Calls ah 99 #[.slice (some ⟨x2.heap.size,0,none⟩) 2 2] (x2.alloc (.cells #[.func (.func n1) nt ca1,.func (.func n2) wY ca2] 141)) fun e w'=>∃v,e=.returned v/\pN c [] jr r O w v w':=nw (ps:=[(n1,nt,ca1),(n2,wY,ca2)]) (ms:=Gz) HI.o (k:=kT T) (T:=T) rfl HT.o HB0.o Bo.o MA (mQ.o.trans (congrFun GC _)) ⟨(hp1.below hb2),hp2,trivial⟩ (by simp) (hb1.trans (hb2.mono hb1.size)) (HI.o.Qj _) rfl
 clear Bo HI HB0 HT HW0 mQ ID hp1 hb1 pC hp2 hb2 hO2 tC;go_wp2_with fail;refine t20.mono ?_;rintro en x20 ⟨v,rfl,hQ⟩;have HQ:=qet hQ;clear t20 hQ;go_wp2;go_ret;exact⟨_,rfl,HQ.o⟩
theorem wF(hrm:RM c [] r O w)(hok:mH r)(hp:r.gY.length+r.rest.length<=c.toks.length)(hne:r.rest≠[])(h0:(jW r.rest).s≠sr)(h1:(jW r.rest).s≠jj)(h2:(jW r.rest).s≠iT)(h3:(jW r.rest).s≠j7)(h4:(jW r.rest).s≠jE)(h5:(jW r.rest).s≠kQ)(h6:(jW r.rest).s=js):Calls ah 56 #[.pointer (some ⟨c.R,0,none⟩)] w fun e w'=>∃v,e=.returned v/\pN c [] jr r O w v w':=by
 have lR:=(hrm.high c.R hrm.iL).2;obtain⟨xk,xs,xn,xt,xa,hxs,t1⟩:=hrm.next;replace t1:=t1 w (aw _ _);replace hxs:xs.data.toList=(jW r.rest).s:=by rw[hxs]
 have CS:qes (∀W,Below w.heap.size w W->Calls ah 97 #[.pointer (some ⟨c.R,0,none⟩)] W fun e w'=>e=.returned (.tuple #[])/\∃O1,ow c r O w O1 w'):=fun W hW=>by
  refine(ow.of (hrm.below hW) hok hp hne).mono ?_;rintro e w' ⟨rfl,O1,I⟩;exact⟨rfl,O1,I.rm,(Gone.of_below hW).trans I.gone,I.ok,I.pos,I.wt,I.ne,I.st,I.eq⟩
 have Ml:(xs.toList==[73,70])=false:=kF hxs h0;have OO:(xs.toList==[87,72,73,76,69])=false:=kF hxs h1;have PK:(xs.toList==[82,69,80,69,65,84])=false:=kF hxs h2;have RU:(xs.toList==[70,79,82])=false:=kF hxs h3;have Ts:(xs.toList==[67,65,83,69])=false:=kF hxs h4;have U6:(xs.toList==[69,88,73,84])=false:=kF hxs h5;have VX:(xs.toList==[82,69,84,85,82,78])=true:=ui hxs h6;have HM:qes (∀O1 w2,ow c r O w O1 w2->jr r=jq js (gZ r).1):=fun O1 w2 I=>I.eq _ h6
 clear hrm hok hp hne hxs h0 h1 h2 h3 h4 h5 h6;have fd:=uQ xk xn xt xa xs;go_enter dK,dD;go_wp2_with fail;refine t1.mono ?_;rintro e w1 ⟨rfl,hb1⟩;have t2:=CS.o w1 hb1;clear t1 hb1 CS;go_wp2_with fail;refine t2.mono ?_;rintro e w2 ⟨rfl,O1,I⟩;obtain⟨T,hT⟩:∃T,T=w2.heap.size:=⟨_,rfl⟩
 obtain⟨w0,hw0⟩:∃w0,w0=w2.alloc (boxS 9 0):=⟨_,rfl⟩
 have hrt:=I.box 9 0;rw[<-hT,<-hw0]at hrt;have tC:∀b,b∈T::O1->b<w0.heap.size:=fun b hb=>(hrt.1.high b hb).2
 have hb0:Below w2.heap.size w2 w0:=by rw[hw0];exact(aw _ _).alloc (aj _) _
 have ID:qes (c.R∈T::O1):=hrt.1.iL;have Bo:=qet hrt;have HI:=qet I;have HB0:=qet hb0;have HT:=qet hT;have HW0:=qet hw0;have mQ:=qet (HM.o _ _ I);clear hrt I hb0 hT hw0 HM t2;have t1:=lJ (c:=c) (kT T) tC (w:=w0) ⟨#[82,69,84,85,82,78]⟩ js rfl;unfold qL at t1;go_wp2_with fail;rw[<-HW0.o,<-HT.o];refine t1.mono ?_;rintro e x1 ⟨n1,nt,ca1,rfl,hp1,hb1⟩;have pC:∀b,b∈T::O1->b<x1.heap.size:=fun b hb=>aJ (tC b hb) hb1.size
 clear t1;have t2:=Cr (c:=c) pC (T:=T) (w:=x1);unfold qL at t2;go_wp2_with fail;refine t2.mono ?_;rintro e x2 ⟨n2,wY,ca2,rfl,hp2,hb2⟩;have hO2:∀b,b∈T::O1->b<x2.heap.size:=fun b hb=>aJ (pC b hb) hb2.size
 clear t2;have t20:Calls ah 99 #[.slice (some ⟨x2.heap.size,0,none⟩) 2 2] (x2.alloc (.cells #[.func (.func n1) nt ca1,.func (.func n2) wY ca2] 141)) fun e w'=>∃v,e=.returned v/\pN c [] jr r O w v w':=nw (ps:=[(n1,nt,ca1),(n2,wY,ca2)]) (ms:=zE) HI.o (k:=kT T) (T:=T) rfl HT.o HB0.o Bo.o Gr (mQ.o.trans (congrFun Cz _)) ⟨(hp1.below hb2),hp2,trivial⟩ (by simp) (hb1.trans (hb2.mono hb1.size)) (HI.o.J0 _) rfl
 clear Bo HI HB0 HT HW0 mQ ID hp1 hb1 pC hp2 hb2 hO2 tC;go_wp2_with fail;refine t20.mono ?_;rintro en x20 ⟨v,rfl,hQ⟩;have HQ:=qet hQ;clear t20 hQ;go_wp2;go_ret;exact⟨_,rfl,HQ.o⟩
theorem xC(hrm:RM c [] r O w)(hok:mH r)(hp:r.gY.length+r.rest.length<=c.toks.length)(hne:r.rest≠[])(h0:(jW r.rest).s≠sr)(h1:(jW r.rest).s≠jj)(h2:(jW r.rest).s≠iT)(h3:(jW r.rest).s≠j7)(h4:(jW r.rest).s≠jE)(h5:(jW r.rest).s≠kQ)(h6:(jW r.rest).s≠js):Calls ah 56 #[.pointer (some ⟨c.R,0,none⟩)] w fun e w'=>∃v,e=.returned v/\pN c [] jr r O w v w':=by
 have lR:=(hrm.high c.R hrm.iL).2;obtain⟨xk,xs,xn,xt,xa,hxs,t1⟩:=hrm.next;replace t1:=t1 w (aw _ _);replace hxs:xs.data.toList=(jW r.rest).s:=by rw[hxs]
 have CS:qes (∀W,Below w.heap.size w W->Calls ah 97 #[.pointer (some ⟨c.R,0,none⟩)] W fun e w'=>e=.returned (.tuple #[])/\∃O1,ow c r O w O1 w'):=fun W hW=>by
  refine(ow.of (hrm.below hW) hok hp hne).mono ?_;rintro e w' ⟨rfl,O1,I⟩;exact⟨rfl,O1,I.rm,(Gone.of_below hW).trans I.gone,I.ok,I.pos,I.wt,I.ne,I.st,I.eq⟩
 have Ml:(xs.toList==[73,70])=false:=kF hxs h0;have OO:(xs.toList==[87,72,73,76,69])=false:=kF hxs h1;have PK:(xs.toList==[82,69,80,69,65,84])=false:=kF hxs h2;have RU:(xs.toList==[70,79,82])=false:=kF hxs h3;have Ts:(xs.toList==[67,65,83,69])=false:=kF hxs h4;have U6:(xs.toList==[69,88,73,84])=false:=kF hxs h5;have VX:(xs.toList==[82,69,84,85,82,78])=false:=kF hxs h6
 have HM:qes (∀O1 w2,ow c r O w O1 w2->jr r=bnd kN iP (gZ r).1):=fun O1 w2 I=>by
  rw[I.eq _ rfl];unfold jq;rw[if_neg h0,if_neg h1,if_neg h2,if_neg h3,if_neg h4,if_neg h5,if_neg h6]
 clear hrm hok hp hne hxs h0 h1 h2 h3 h4 h5 h6;have fd:=uQ xk xn xt xa xs;go_enter dK,dD;go_wp2_with fail;refine t1.mono ?_;rintro e w1 ⟨rfl,hb1⟩;have t2:=CS.o w1 hb1;clear t1 hb1 CS;go_wp2_with fail;refine t2.mono ?_;rintro e w2 ⟨rfl,O1,I⟩;obtain⟨T,hT⟩:∃T,T=w2.heap.size:=⟨_,rfl⟩
 obtain⟨w0,hw0⟩:∃w0,w0=w2.alloc (boxS 0 0):=⟨_,rfl⟩
 have hrt:=I.Zn;rw[<-hT,<-hw0]at hrt;have tC:∀b,b∈T::O1->b<w0.heap.size:=fun b hb=>(hrt.1.high b hb).2
 have hb0:Below w2.heap.size w2 w0:=by rw[hw0];exact(aw _ _).alloc (aj _) _
 have ID:qes (c.R∈T::O1):=hrt.1.iL;have Bo:=qet hrt;have HI:=qet I;have HB0:=qet hb0;have HT:=qet hT;have HW0:=qet hw0;have mQ:=qet (HM.o _ _ I);clear hrt I hb0 hT hw0 HM t2;have t1:=Ir (c:=c) (k:=kG T) tC (T:=T) (j:=1) (by simp[kG]) toN (kG.zm T) (w:=w0);unfold qL at t1;go_wp2_with fail;rw[<-HW0.o,<-HT.o];refine t1.mono ?_;rintro e x1 ⟨n1,nt,ca1,rfl,hp1,hb1⟩;have pC:∀b,b∈T::O1->b<x1.heap.size:=fun b hb=>aJ (tC b hb) hb1.size
 clear t1;have t2:=Az (c:=c) pC (T:=T) (w:=x1);unfold qL at t2;go_wp2_with fail;refine t2.mono ?_;rintro e x2 ⟨n2,wY,ca2,rfl,hp2,hb2⟩;have hO2:∀b,b∈T::O1->b<x2.heap.size:=fun b hb=>aJ (pC b hb) hb2.size
 clear t2;have t20:Calls ah 99 #[.slice (some ⟨x2.heap.size,0,none⟩) 2 2] (x2.alloc (.cells #[.func (.func n1) nt ca1,.func (.func n2) wY ca2] 141)) fun e w'=>∃v,e=.returned v/\pN c [] jr r O w v w':=nw (ps:=[(n1,nt,ca1),(n2,wY,ca2)]) (ms:=IC) HI.o (k:=kG T) (T:=T) rfl HT.o HB0.o Bo.o JC mQ.o ⟨(hp1.below hb2),hp2,trivial⟩ (by simp) (hb1.trans (hb2.mono hb1.size)) (HI.o.Nl) rfl
 clear Bo HI HB0 HT HW0 mQ ID hp1 hb1 pC hp2 hb2 hO2 tC;go_wp2_with fail;refine t20.mono ?_;rintro en x20 ⟨v,rfl,hQ⟩;have HQ:=qet hQ;clear t20 hQ;go_wp2;go_ret;exact⟨_,rfl,HQ.o⟩
theorem AD(hrm:RM c [] r O w)(ht:sN c.toks.length r)(hb:qk r=true):Calls ah 56 #[.pointer (some ⟨c.R,0,none⟩)] w fun e w'=>∃v,e=.returned v/\pN c [] jr r O w v w':=by
 have hne:r.rest≠[]:=fun e=>by
  unfold qk at hb;rw[e]at hb;simp[jW]at hb
 by_cases h0:(jW r.rest).s=sr
 ·exact CD hrm ht.ok ht.st hne h0
 by_cases h1:(jW r.rest).s=jj
 ·exact xB hrm ht.ok ht.st hne h0 h1
 by_cases h2:(jW r.rest).s=iT
 ·exact wE hrm ht.ok ht.st hne h0 h1 h2
 by_cases h3:(jW r.rest).s=j7
 ·exact AA hrm ht.ok ht.st hne h0 h1 h2 h3
 by_cases h4:(jW r.rest).s=jE
 ·exact zF hrm ht.ok ht.st hne h0 h1 h2 h3 h4
 by_cases h5:(jW r.rest).s=kQ
 ·exact zG hrm ht.ok ht.st hne h0 h1 h2 h3 h4 h5
 by_cases h6:(jW r.rest).s=js
 ·exact wF hrm ht.ok ht.st hne h0 h1 h2 h3 h4 h5 h6
 exact xC hrm ht.ok ht.st hne h0 h1 h2 h3 h4 h5 h6
def cH(h:Hd):Nat:=iw h.s.body+(iw h.s.els+kM h.s.arms)
def vv(l:List Hd):Nat:=(l.map fun h=>1+cH h).sum
theorem CJ(a b:List St):iw (a++b)=iw a+iw b:=by
 induction a with
 |nil=>simp[iw]
 |cons x a ih=>simp only[bM,iw,ih];omega
theorem CL(a b:List (List Int×List St)):kM (a++b)=kM a+kM b:=by
 induction a with
 |nil=>simp[kM]
 |cons x a ih=>simp only[bM,kM,ih];omega
theorem IE(s:St):jY s=1+(iw s.body+(iw s.els+kM s.arms)):=by cases s;simp only[jY];omega
theorem No(h:Hd)(s:St):cH (jc h s)<=cH h+jY s:=by
 unfold jc cH
 split
 ·simp only[CJ,iw];omega
 ·split
  ·simp only
   cases hl:h.s.arms.getLast? with
   |none=>
    have:h.s.arms=[]:=List.getLast?_eq_none_iff.1 hl;rw[this];simp[kM]
   |some a=>
    have hne:h.s.arms≠[]:=fun e=>by rw[e]at hl;cases hl
    have e:h.s.arms=h.s.arms.dropLast++[a]:=by
     have:=List.dropLast_concat_getLast hne;rw[List.getLast?_eq_some_getLast hne]at hl;rw[<-an hl];exact this.symm
    have e2:kM h.s.arms=kM h.s.arms.dropLast+iw a.2:=by
     rw[congrArg kM e,CL];obtain⟨ls,b⟩:=a;simp[kM,sd]
    rw[CL,e2];simp only[kM,sd,CJ,iw];omega
  ·simp only[CJ,iw];omega
theorem IF:∀(n:Nat)(l:List Hd),l.length<=n->vv (lM l)<=vv l
 |0,[],_=>by unfold lM;exact aj _
 |n+1,[],_=>by unfold lM;exact aj _
 |n+1,[h],_=>by unfold lM;exact aj _
 |n+1,h::g::l,hl=>by
  have h1:=No g h.s;rw[IE]at h1
  have h2:vv (jc g h.s::l)<=vv (h::g::l):=by
   unfold vv;simp only[bL,fo];unfold cH at h1 ⊢;omega
  rw[lM]
  split
  ·exact aP (IF n (jc g h.s::l) (by simp at hl ⊢;omega)) h2
  ·exact h2
def Inv(k:Nat)(r:Rs):Prop:=vv r.hs+k<=r.gY.length+1
variable {r':Rs}{k:Nat}{α:Type}
theorem Inv.quiet{m:M α}(hq:Quiet m)(hd:Dn m){a:α}(h:m r=(r',.ok a))(i:Inv k r):Inv k r':=by
 obtain⟨h1,h2,_⟩:=ig hq hd h;unfold Inv at *;rw[h1,h2];exact i
theorem Inv.EW(i:Inv k r){h:Hd}{l:List Hd}(hh:r.hs=h::l){h':Hd}(hh':r'.hs=h'::l)(hs:r'.gY.length=r.gY.length)(hc:cH h'=cH h):Inv k r':=by
 unfold Inv vv at *;rw[hh]at i;rw[hh',hs];simp only[bL,fo]at i ⊢;rw[hc];exact i
variable {N:Nat}
theorem Inv.start(g:Good N r)(hp:r.gY.length+r.rest.length<=N)(i:Inv k r):Inv (k+1) (gZ r).1:=by
 obtain⟨_,_,s3,_⟩:=g.start hp;obtain⟨h,l,hh⟩:=g.some
 have key:vv (gZ r).1.hs=vv r.hs:=by
  unfold gZ;simp only
  split
  ·split
   ·show vv (_::r.hs.tail)=_;rw[hh,kz hh];rfl
   ·rfl
  ·rfl
 unfold Inv at *;rw[key,s3];omega
theorem Inv.fin{s:St}(g:Good N r)(hs:jY s=1)(i:Inv (k+1) r)(h:kI s r=(r',.ok ())):Inv k r':=by
 obtain⟨r1,e1,h⟩:=im h;have g1:=kl (iB _ _) (gV _ _) e1 g;have i1:=i.quiet (iB _ _) (gV _ _) e1;obtain⟨k2,l,hk⟩:=g1.some;obtain rfl:r'=_:=((cv h).1).symm;have hc:=No k2 s;unfold Inv vv at *;rw[jU hk,kz hk];rw[hk]at i1;simp only[bL,fo]at i1 ⊢;show _<=r1.gY.length+1;omega
theorem Inv.hold{s:St}(hb:s.body=[])(he:s.els=[])(ha:s.arms=[])(i:Inv (k+1) r)(h:iG s r=(r',.ok ())):Inv k r':=by
 have e:=rJ h;subst e;unfold Inv vv at *;simp only[bL,fo];have:cH ⟨s,(r.gY.length:Int)-1,false,false,0⟩=0:=by unfold cH;simp only[hb,he,ha];rfl
 rw[this];omega
theorem Inv.close(i:Inv k r)(h:iQ r=(r',.ok ())):Inv k r':=by
 obtain⟨r1,e1,h⟩:=im h;have i1:=i.quiet (iB _ _) (gV _ _) e1;obtain rfl:r'=_:=((cv h).1).symm;have:=IF _ r1.hs (aj _);unfold Inv at *;show vv (lM r1.hs)+k<=r1.gY.length+1;omega
theorem Inv.Ql{s:Bs}(i:Inv k r)(h:thn (gU s) iQ r=(r',.ok ())):Inv k r':=by
 obtain⟨r1,e1,h⟩:=im h;exact(i.quiet (iB _ _) (gV _ _) e1).close h
theorem Inv.Np{s:Bs}(g:Good N r)(i:Inv k r)(h:(bnd jT fun b=>if b then ret ()else thn (gU s) iQ) r=(r',.ok ())):Inv k r':=by
 obtain⟨r1,b,e1,hx⟩:=jg h;clear h
 rcases rK e1 with⟨rfl,rfl⟩|⟨rfl,rfl⟩
 ·exact i.Ql hx
 ·have h:ret () _=_:=hx;obtain rfl:r'=_:=((cv h).1).symm;obtain⟨k2,l,hk⟩:=g.some;exact i.EW hk (show(jF (iS {top r with gX:=true} r)).hs={top r with gX:=true}::l from jU hk) rfl (by rw[kz hk];rfl)
theorem Inv.arm(g:Good N r)(i:Inv k r)(h:qY r=(r',.ok ())):Inv k r':=by
 unfold qY at h;obtain⟨r1,ls,e1,h⟩:=jg h;have g1:=kl (Ck _ _) (vh _ _) e1 g;have i1:=i.quiet (Ck _ _) (vh _ _) e1;obtain⟨k2,l,hk⟩:=g1.some;refine Inv.quiet (vm (Ip _ _) (iB _ _)) (ka (wk _ _) (gV _ _)) h ?_;refine i1.EW hk (jU hk) rfl ?_;rw[kz hk];unfold cH;simp only[CL,kM,sd,iw];omega
theorem Inv.cond{e:Bool}(i:Inv (k+1) r)(h:mM e r=(r',.ok ())):Inv k r':=by
 obtain⟨r1,e1,h⟩:=im h;obtain⟨r2,x,e2,h⟩:=jg h;obtain⟨r3,e3,h⟩:=im h;obtain⟨r4,e4,h⟩:=im h;have i3:=((i.quiet RW Gp e1).quiet jJ iR e2).quiet (iB _ _) (gV _ _) e3;have i4:=i3.hold rfl rfl rfl e4;have e5:=MP h;have e4:=rJ e4;subst e5;obtain⟨hd4,hh⟩:∃hd,r4.hs=hd::r3.hs:=⟨_,by rw[e4]⟩
 exact i4.EW hh (jU hh) rfl (by rw[kz hh];rfl)
theorem Inv.behind(g:Good N r)(hp:r.gY.length+r.rest.length<=N\/(top r).s.kind=6)(i:Inv 0 r)(h:iq r=(r',.ok ())):Inv 0 r':=by
 obtain⟨k,l,hk⟩:=g.some;have ht:=kz hk;unfold iq at h;rw[ht]at h hp
 by_cases k2:k.s.kind=2
 ·rw[if_pos k2]at h;have hp:r.gY.length+r.rest.length<=N:=hp.resolve_right (by rw[k2];decide);unfold jd at h
  split at h
  ·obtain⟨r1,e1,h⟩:=im h;have g2:Good N (iS {top r with gX:=true} r):=g.set hk (jU hk) rfl (by rw[ht]) (by rw[ht]) (by rw[ht]) (by rw[ht]) (by rw[ht];exact aj _) (aj _);have i2:Inv 0 (iS {top r with gX:=true} r):=i.EW hk (jU hk) rfl (by rw[ht];rfl);have i3:=i2.start g2 hp;rw[e1]at i3;exact Inv.cond i3 h
  ·exact Inv.Np g i h
 ·rw[if_neg k2]at h
  by_cases k6:k.s.kind=6
  ·rw[if_pos k6]at h;unfold iN at h
   split at h
   ·exact Inv.arm g i h
   ·exact Inv.Np g i h
  ·rw[if_neg k6]at h
   by_cases k3:k.s.kind=3
   ·rw[if_pos k3]at h;exact i.Ql h
   ·rw[if_neg k3]at h
    by_cases k4:k.s.kind=4
    ·rw[if_pos k4]at h;obtain⟨r1,e1,h⟩:=im h;obtain⟨r2,e2,h⟩:=im h;obtain⟨r3,x,e3,h3⟩:=jg e2;have i3:=(i.quiet (iB _ _) (gV _ _) e1).quiet jJ iR e3;obtain⟨q1,_,_⟩:=ig (iB _ _) (gV _ _) e1;obtain⟨p1,_,_⟩:=ig jJ iR e3;have hh:r3.hs=k::l:=by rw[p1,q1,hk]
     obtain rfl:r2=_:=((cv h3).1).symm;have i4:Inv 0 (iS {top r3 with s:={(top r3).s with x:=x}} r3):=i3.EW hh (jU hh) rfl (by rw[kz hh];rfl);exact i4.Ql h
    ·rw[if_neg k4]at h;exact i.Ql h
theorem tq(s:St)(hb:s.body=[])(he:s.els=[])(ha:s.arms=[]):jY s=1:=by rw[IE,hb,he,ha];rfl
theorem Inv.GD{nm:Bs}(g:Good N r)(i:Inv 1 r)(h:iP nm r=(r',.ok ())):Inv 0 r':=by
 unfold iP at h
 split at h
 ·obtain⟨r1,e1,h⟩:=im h;obtain⟨r2,a,e2,h⟩:=jg h;obtain⟨r3,e3,h⟩:=im h;exact Inv.fin (kl (iB _ _) (gV _ _) e3 (kl Cj vg e2 (kl (iB _ _) (gV _ _) e1 g))) (tq _ rfl rfl rfl) (((i.quiet (iB _ _) (gV _ _) e1).quiet Cj vg e2).quiet (iB _ _) (gV _ _) e3) h
 ·obtain⟨r1,x1,e1,h⟩:=jg h;obtain⟨r2,e2,h⟩:=im h;obtain⟨r3,x,e3,h⟩:=jg h;exact Inv.fin (kl jJ iR e3 (kl (iB _ _) (gV _ _) e2 (kl Mz Cf e1 g))) (tq _ rfl rfl rfl) (((i.quiet Mz Cf e1).quiet (iB _ _) (gV _ _) e2).quiet jJ iR e3) h
theorem Inv.jq{w:Bs}(g:Good N r)(ho:mH r)(h0:0<r.gY.length)(hw:zk r.hs+r.rest.length<=N+1)(i:Inv 1 r)(h:jq w r=(r',.ok ())):Inv 0 r':=by
 unfold _root_.Go.Proofs.YtekanffohkeoeaaGreatDoor.jq at h
 split at h
 ·exact Inv.cond i h
 split at h
 ·obtain⟨r1,e1,h⟩:=im h;obtain⟨r2,x,e2,h⟩:=jg h;obtain⟨r3,e3,h⟩:=im h;exact Inv.hold rfl rfl rfl (((i.quiet (iB _ _) (gV _ _) e1).quiet jJ iR e2).quiet (iB _ _) (gV _ _) e3) h
 split at h
 ·obtain⟨r1,e1,h⟩:=im h;exact Inv.hold rfl rfl rfl (i.quiet (iB _ _) (gV _ _) e1) h
 split at h
 ·obtain⟨r1,e1,h⟩:=im h;obtain⟨r2,nm,e2,h⟩:=jg h;obtain⟨r3,e3,h⟩:=im h;obtain⟨r4,x,e4,h⟩:=jg h;obtain⟨r5,e5,h⟩:=im h;obtain⟨r6,y,e6,h⟩:=jg h;obtain⟨r7,b,e7,h⟩:=jg h;obtain⟨r8,e8,h⟩:=im h;exact Inv.hold rfl rfl rfl ((((((((i.quiet (iB _ _) (gV _ _) e1).quiet ud qb e2).quiet (iB _ _) (gV _ _) e3).quiet jJ iR e4).quiet (iB _ _) (gV _ _) e5).quiet jJ iR e6).quiet V2 Mq e7).quiet (iB _ _) (gV _ _) e8) h
 split at h
 ·obtain⟨r1,e1,h⟩:=im h;obtain⟨r2,x,e2,h⟩:=jg h;obtain⟨r3,e3,h⟩:=im h;obtain⟨r4,e4,h⟩:=im h;have i4:Inv 0 r4:=Inv.hold rfl rfl rfl (((i.quiet (iB _ _) (gV _ _) e1).quiet jJ iR e2).quiet (iB _ _) (gV _ _) e3) e4;obtain⟨a1,a2,a3⟩:=ig (iB _ _) (gV _ _) e1;obtain⟨b1,b2,b3⟩:=ig jJ iR e2;obtain⟨c1,c2,c3⟩:=ig (iB _ _) (gV _ _) e3
  have hl:r1.rest.length<r.rest.length:=by
   have:=kK jE r () (by rw[e1]);rw[e1]at this;exact this
  have g3:=((g.less a1 a2 a3).less b1 b2 b3).less c1 c2 c3;have o3:mH r3:=by intro x hx;rw[c1,b1,a1]at hx;exact ho x hx
  have g4:=g3.hold {st0 with kind:=6,x:=x} rfl rfl rfl o3 (by rw[c2,b2,a2];exact h0) (by rw[c1,b1,a1];omega);rw[e4]at g4;exact Inv.behind g4 (.inr (by rw[rJ e4];rfl)) i4 h
 split at h
 ·obtain⟨r1,e1,h⟩:=im h;exact Inv.fin (kl (iB _ _) (gV _ _) e1 g) (tq _ rfl rfl rfl) (i.quiet (iB _ _) (gV _ _) e1) h
 split at h
 ·obtain⟨r1,e1,h⟩:=im h;exact Inv.fin (kl (iB _ _) (gV _ _) e1 g) (tq _ rfl rfl rfl) (i.quiet (iB _ _) (gV _ _) e1) h
 ·obtain⟨r1,nm,e1,h⟩:=jg h;exact Inv.GD (kl ud qb e1 g) (i.quiet ud qb e1) h
theorem Inv.turn(t:sN N r)(i:Inv 0 r)(h:turn r=some (r',.ok ())):Inv 0 r':=by
 unfold _root_.Go.Proofs.YtekanffohkeoeaaGreatDoor.turn at h
 split at h
 ·have h:=an h;unfold jr at h;obtain⟨r1,e1,h⟩:=im h;have s:=t.good.start t.st;have i1:=i.start t.good t.st;rw[e1]at s i1;obtain⟨s1,s2,s3,_,s5,s6,_⟩:=s;have hwt:=t.good.wt;exact Inv.jq s1 (s6 t.ok) (by have s3:r1.gY.length=_:=s3;omega) (by have s5:zk r1.hs=_:=s5;have s2:r1.rest=_:=s2;rw[s5,s2];exact hwt) i1 h
 ·split at h
  ·exact Inv.behind t.good (.inl t.st) i (an h)
  ·cases h
def Nq(r:Rs):Prop:=∀r2,oV (r.rest.length+1) r=(r2,.ok ())->Inv 0 r2/\turn r2=none
variable {X:List Nat}
theorem RM.begins(h:RM c X r O w):Calls ah 55 #[.pointer (some ⟨c.R,0,none⟩)] w fun e w'=>e=.returned (.bool (qk r))/\Below w.heap.size w w':=by
 obtain⟨at_,hv,sv,fa,fc,os,hx⟩:=h;have hl:=hx.env.tks.hl;have e:qk r=qq (gQ c.toks at_):=by unfold qk qq;rw[hx.rest,oK];rfl
 rw[e];exact Gk hx.rb (by omega) hx.env.tG.kw
theorem RM.Qm(h:RM c X r O w):∃a cap,w.cell? ⟨c.R,2,none⟩=some (.slice a r.hs.length cap):=by
 obtain⟨at_,hv,sv,fa,fc,os,hx⟩:=h;obtain⟨cs,h1,_⟩:=hx.hs;obtain⟨a,cap,hv'⟩:=lK h1;exact⟨a,cap,by rw[hx.rb.hv2,hv']⟩
structure zH(c:Cx)(r:Rs)(O:List Nat)(w:World)(r':Rs)(O':List Nat)(f:Nat)(wr:World):Prop where
 rm:RM c [] r' O' wr
 gone:Gone O w O' wr
 ok:sN c.toks.length r'
 inv:Inv 0 r'
 eq:oV (r.rest.length+1) r=oV f r'
 lt:r'.rest.length<f
def Nr(c:Cx)(r':Rs)(O':List Nat)(wr:World)(v:Value)(w':World):Prop:=∃x,turn r'=some x/\∃O2,v=tA c x.2/\RM c [] x.1 O2 w'/\Gone O' wr O2 w'
variable {w':World}{wr:World}{f:Nat}{O':List Nat}
theorem zH.turn(I:zH c r O w r' O' f wr){v:Value}(hQ:Nr c r' O' wr v w'):(v=.nilIface/\∃r2 O2 f2,zH c r O w r2 O2 f2 w'/\r2.rest.length<r'.rest.length)\/(∃b,v=ln b/\pN c [] (oV (r.rest.length+1)) r O w v w'/\Nq r):=by
 obtain⟨x,h1,O2,hv,h2,h3⟩:=hQ;obtain⟨f',rfl⟩:∃f',f=f'+1:=⟨f-1,by have:=I.lt;omega⟩
 obtain⟨r2,e⟩:=x
 cases e with
 |ok u=>
  left
  have hl:=wq h1;have hlt:=I.lt;refine⟨hv,r2,O2,f',⟨h2,I.gone.trans h3,P5 I.ok h2.good h1,I.inv.turn I.ok h1,?_,by omega⟩,hl⟩;rw[I.eq,oV,h1]
 |error er=>
  right
  obtain⟨b,hb⟩:=wC c er;have he:oV (r.rest.length+1) r=(r2,.error er):=by rw[I.eq,oV,h1]
  exact⟨b,hv.trans hb,⟨O2,by rw[he];exact hv,by rw[he];exact h2,I.gone.trans h3⟩,fun r3 h4=>by rw[he]at h4;cases h4⟩
theorem zH.done(I:zH c r O w r' O' f wr)(h:_root_.Go.Proofs.YtekanffohkeoeaaGreatDoor.turn r'=none)(hb:Below wr.heap.size wr w'):pN c [] (oV (r.rest.length+1)) r O w .nilIface w'/\Nq r:=by
 obtain⟨f',rfl⟩:∃f',f=f'+1:=⟨f-1,by have:=I.lt;omega⟩
 have he:oV (r.rest.length+1) r=(r',.ok ()):=by rw[I.eq,oV,h]
 exact⟨⟨O',by rw[he];rfl,by rw[he];exact I.rm.below hb,I.gone.trans (Gone.of_below hb)⟩,fun r3 h4=>by rw[he]at h4;cases h4;exact⟨I.inv,h⟩⟩
theorem zH.stmt(I:zH c r O w r' O' f wr)(hb:qk r'=true){w1:World}(hw:Below wr.heap.size wr w1):Calls ah 56 #[.pointer (some ⟨c.R,0,none⟩)] w1 fun e w'=>∃v,e=.returned v/\Nr c r' O' wr v w':=by
 refine(AD (I.rm.below hw) I.ok hb).mono ?_;rintro e w' ⟨v,rfl,O2,h1,h2,h3⟩;exact⟨v,rfl,jr r',by unfold _root_.Go.Proofs.YtekanffohkeoeaaGreatDoor.turn;rw[if_pos hb],O2,h1,h2,(Gone.of_below hw).trans h3⟩
theorem zH.behind(I:zH c r O w r' O' f wr)(hb:qk r'=false)(h2:1<r'.hs.length){w1:World}(hw:Below wr.heap.size wr w1):Calls ah 57 #[.pointer (some ⟨c.R,0,none⟩)] w1 fun e w'=>∃v,e=.returned v/\Nr c r' O' wr v w':=by
 refine(zB (I.rm.below hw) h2 (.inr rfl) I.ok.st).mono ?_;rintro e w' ⟨v,rfl,O2,k1,k2,k3⟩;exact⟨v,rfl,iq r',by unfold _root_.Go.Proofs.YtekanffohkeoeaaGreatDoor.turn;rw[if_neg (by rw[hb];decide),if_pos h2],O2,k1,k2,(Gone.of_below hw).trans k3⟩
theorem zI(hrm:RM c [] r O w)(ht:sN c.toks.length r)(hi:Inv 0 r):Calls ah 36 #[.pointer (some ⟨c.R,0,none⟩)] w fun e w'=>∃v,e=.returned v/\pN c [] (oV (r.rest.length+1)) r O w v w'/\Nq r:=by
 have HI0:qes (zH c r O w r O (r.rest.length+1) w):=⟨hrm,Gone.refl _ _,ht,hi,rfl,fx _⟩
 clear hrm ht hi;go_enter Tryz.func36,Tryz.ntmps36;go_wp2
 go_loopw [3] (fun _ wr=>∃r' O' f,zH c r O w r' O' f wr) (fun _ wr=>kX c wr)
 case atStart=>exact⟨_,_,_,HI0.o⟩
 case round=>
  obtain⟨r',O',f,I⟩:=hrel;have HI:=qet I;have HM:=qet I.rm.kX;have t1:=I.rm.begins;clear I HI0;go_wp2_with fail;refine t1.mono ?_;rintro e w1 ⟨rfl,hb1⟩;clear t1
  cases hbg:qk r' with
  |true=>
   have t2:=HI.o.stmt hbg hb1;clear hb1 hbg;go_wp2_with fail;refine t2.mono ?_;rintro e w2 ⟨v,rfl,hq⟩;have hq2:=HI.o.turn hq;clear t2 hq
   rcases hq2 with⟨rfl,r2,O2,f2,hI2,hl2⟩|⟨b,rfl,hq⟩
   ·have HI2:=qet hI2;have HL2:=qet hl2;clear hI2 hl2 HI;go_wp2
    go_roundw
    case rel=>exact⟨_,_,_,HI2.o⟩
    case measure=>
     have e1:=HI2.o.rm.kX;have e2:=HM.o;have e3:=HL2.o;omega
   ·have HQ:=qet hq;clear hq HI;go_wp2;go_ret;exact⟨_,rfl,HQ.o⟩
  |false=>
   obtain⟨a,cap,h2⟩:=(HI.o.rm.below hb1).Qm
   by_cases hn:1<r'.hs.length
   ·have t2:=HI.o.behind hbg hn hb1;have i1:(1:Int)<(r'.hs.length:Int):=by omega
    clear hb1 hbg hn;generalize r'.hs.length=n at *;go_wp2_with fail;refine t2.mono ?_;rintro e w2 ⟨v,rfl,hq⟩;have hq2:=HI.o.turn hq;clear t2 hq h2
    rcases hq2 with⟨rfl,r2,O2,f2,hI2,hl2⟩|⟨b,rfl,hq⟩
    ·have HI2:=qet hI2;have HL2:=qet hl2;clear hI2 hl2 HI;go_wp2
     go_roundw
     case rel=>exact⟨_,_,_,HI2.o⟩
     case measure=>
      have e1:=HI2.o.rm.kX;have e2:=HM.o;have e3:=HL2.o;omega
    ·have HQ:=qet hq;clear hq HI;go_wp2;go_ret;exact⟨_,rfl,HQ.o⟩
   ·have HQ:=qet (HI.o.done (by unfold turn;rw[if_neg (by rw[hbg];decide),if_neg hn]) hb1);have i1:¬ (1:Int)<(r'.hs.length:Int):=by omega
    clear hb1 hbg hn HI HM;generalize r'.hs.length=n at *;go_wp2;go_ret;exact⟨_,rfl,HQ.o⟩
variable {at_:Nat}
theorem oh.deep{hv sv:Value}{fa fc:Int}{os:List Nat}(h:oh c X r at_ hv sv fa fc os O w)(d:Int)(hw:w'=w.setCell ⟨c.R,7,none⟩ (.int .i64 d)):oh {c with dp:=d} X r at_ hv sv fa fc os O w'/\gR [c.R] w w':=by
 have hk:gR [c.R] w w':=by subst hw;exact(gR.refl _ w).setCell (p:=⟨c.R,7,none⟩) (.inl (by simp)) _
 have hr:=h.rb.row;unfold mb at hr;have hB:∀k,k∈[c.R]->c.B<=k:=fun k hm=>by rw[aL.1 hm];exact h.rb.hB
 have env:=h.env.keep hk hB;have hR:∀k,k∈[c.R]->k∈O:=fun k hm=>by rw[aL.1 hm];exact h.iL
 have hko:∀v:Value,v.ownBlock≠some c.R->∀k,v.ownBlock=some k->k<w.heap.size->w'.heap[k]? =w.heap[k]? :=fun v hv k e hl=>hk.block k hl (fun hm=>hv (by rw[<-aL.1 hm];exact e))
 have hn:=h.JF (k:=c.R) (by simp);refine⟨⟨⟨env.hB,env.e0,env.e1,env.tG,env.tks⟩,⟨h.rb.hB,h.rb.here,?_,h.rb.tk.keep hk hB⟩,h.rest,h.fl,?_,iy h.st (hko sv hn.2.1),h.own,h.nodup,fun b hb=>⟨(h.high b hb).1,aJ (h.high b hb).2 hk.size⟩,h.good⟩,hk⟩
 ·subst hw;rw[F4 hr];rfl
 ·obtain⟨cs,h1,h2⟩:=h.hs;exact⟨cs,iy h1 (hko hv hn.1),hsR.on (fun b hb hl=>⟨hb,hk.block b hl (fun hm=>hb (hR b hm))⟩) _ _ _ h2 (fun k hm hl=>hk.block k hl (fun hy=>hn.2.2 (by rw[<-aL.1 hy];exact hm)))⟩
theorem RM.deep(h:RM c X r O w)(d:Int):(∃d0,w.cell? ⟨c.R,7,none⟩=some (.int .i64 d0))/\w.frozen? ⟨c.R,7,none⟩=false/\RM {c with dp:=d} X r O (w.setCell ⟨c.R,7,none⟩ (.int .i64 d))/\Gone O w O (w.setCell ⟨c.R,7,none⟩ (.int .i64 d)):=by
 obtain⟨at_,hv,sv,fa,fc,os,hx⟩:=h;have hr:=hx.rb.row;unfold mb at hr;obtain⟨h1,h2⟩:=hx.deep d rfl;exact⟨⟨_,by rw[af hr];rfl⟩,aC hr 7,⟨_,_,_,_,_,_,h1⟩,Gone.my h2 (by simp[hx.iL])⟩
theorem RM.starts(h:RM c X r O w):∃(a:Option Addr)(g cap:Nat),w.cell? ⟨c.R,3,none⟩=some (.slice a r.gY.length cap)/\(0<r.gY.length->a=some ⟨g,0,none⟩)/\∀(k:Nat) s,r.gY[k]? =some s->w.cell? ⟨g,k*3,none⟩=some (.int .i64 ((c.toks.length-s.left:Nat):Int))/\w.cell? ⟨g,k*3+1,none⟩=some (.int .i64 s.within)/\w.cell? ⟨g,k*3+2,none⟩=some (.bool s.iU):=by
 obtain⟨at_,hv,sv,fa,fc,os,hx⟩:=h;have hr:=hx.rb.row;unfold mb at hr;have c3:w.cell? ⟨c.R,3,none⟩=some sv:=by rw[af hr];rfl
 have hst:=hx.st
 rcases hst.2 with⟨rfl,h0⟩|⟨g,cap,cur,rfl,r1,r2,r3,r4,r5,r6⟩
 ·refine⟨none,0,0,by rw[c3,h0],fun h=>by omega,fun k s hk=>?_⟩;rw[List.getElem?_eq_none (by omega)]at hk
  cases hk
 ·refine⟨_,g,cap,c3,fun _=>rfl,fun k s hk=>?_⟩;have hkl:=(List.getElem?_eq_some_iff.1 hk).1
  have key:∀(j:Nat)(v:Value),j<3->(uY c.toks.length r.gY)[k*3+j]? =some v->w.cell? ⟨g,k*3+j,none⟩=some v:=fun j v hj hv=>by
   rw[af r2];rw[<-r6,List.getElem?_take_of_lt (by omega)]at hv
   simpa using hv
  have hsr:∀(l:List Sr)(k:Nat) s,l[k]? =some s->(uY c.toks.length l)[k*3]? =some (.int .i64 ((c.toks.length-s.left:Nat):Int))/\(uY c.toks.length l)[k*3+1]? =some (.int .i64 s.within)/\(uY c.toks.length l)[k*3+2]? =some (.bool s.iU):=by
   intro l
   induction l with
   |nil=>intro k s h;cases h
   |cons x l ih=>
    intro k s h
    cases k with
    |zero=>obtain rfl:=an h;exact⟨rfl,rfl,rfl⟩
    |succ k=>
     obtain⟨a1,a2,a3⟩:=ih k s h;rw[show(k+1)*3=k*3+3 by omega];exact⟨a1,a2,a3⟩
  obtain⟨a1,a2,a3⟩:=hsr _ _ _ hk;exact⟨key 0 _ (by omega) a1,key 1 _ (by omega) a2,key 2 _ (by omega) a3⟩
def EX(ds:List Nat)(n:Nat):List Value:=ds.map (fun d=>.int .i64 (d:Int))++List.replicate (n-ds.length) (.int .i64 0)
theorem Qn(n:Nat):madeCells #[.int .i64 0] n=(EX [] n).toArray:=by
 unfold madeCells EX;apply Array.ext
 ·simp
 ·intro i h1 h2;simp[Nat.mod_one]
variable {n:Nat}{ds:List Nat}
theorem Ug{i:Nat}(hi:i<ds.length):(EX ds n)[i]? =some (.int .i64 ((ds.getD i 0:Nat):Int)):=by
 unfold EX;rw[List.getElem?_append_left (by simpa using hi),List.getElem?_map,List.getD_eq_getElem?_getD,List.getElem?_eq_getElem hi];rfl
theorem Ns(hi:ds.length<n):(EX ds n)[ds.length]? =some (.int .i64 0):=by
 unfold EX;rw[List.getElem?_append_right (by simp),aQ,Nat.sub_self,List.getElem?_replicate,if_pos (by omega)]
theorem GF(hi:ds.length<n)(d:Nat):(EX ds n).set ds.length (.int .i64 (d:Int))=EX (ds++[d]) n:=by
 unfold EX;rw[List.set_append_right _ _ (by simp),aQ,Nat.sub_self,bB,aO]
 congr 1
 obtain⟨m,hm⟩:∃m,n-ds.length=m+1:=⟨n-ds.length-1,by omega⟩
 have hm2:n-(ds++[d]).length=m:=by simp;omega
 rw[hm,hm2,List.replicate_succ];rfl
theorem Qo(hi:ds.length<n):EX (ds++[0]) n=EX ds n:=by
 rw[<-GF hi 0];apply List.ext_getElem?;intro i;rw[List.getElem?_set]
 split
 ·next e=>
  subst e;rw[Ns hi,if_pos]
  ·rfl
  ·unfold EX;simp;omega
 ·rfl
def lY(s:Sr)(ds:List Nat):Nat:=(if s.within= -1 then 0 else ds.getD s.within.toNat 0)+(if s.iU then 0 else 1)
theorem Bp(s:Sr)(l:List Sr)(ds:List Nat):mZ (s::l) ds=if 20<lY s ds then some s.left else mZ l (ds++[lY s ds]):=rfl
structure si(c:Cx)(r:Rs)(w:World)(ds:List Nat)(wr:World):Prop where
 below:Below w.heap.size w wr
 row:wr.heap[w.heap.size]? =some (.cells (EX ds r.gY.length).toArray 3)
 le:ds.length<=r.gY.length
 small:∀d∈ds,d<=20
 eq:mZ r.gY []=mZ (r.gY.drop ds.length) ds
theorem si.cell(I:si c r w ds wr)(i:Nat)(v:Value)(h:(EX ds r.gY.length)[i]? =some v):wr.cell? ⟨w.heap.size,i,none⟩=some v:=by
 rw[af I.row]
 simpa using h
variable {s:Sr}
theorem si.step(I:si c r w ds wr)(hs:r.gY[ds.length]? =some s)(hn:¬20<lY s ds)(hb:Below w.heap.size w w')(hrow:w'.heap[w.heap.size]? =some (.cells (EX (ds++[lY s ds]) r.gY.length).toArray 3)):si c r w (ds++[lY s ds]) w':=by
 have hl:=(List.getElem?_eq_some_iff.1 hs).1;refine⟨hb,hrow,by simp;omega,?_,?_⟩
 ·intro d hd
  rcases aN.1 hd with hd|hd
  ·exact I.small d hd
  ·rw[aL.1 hd];omega
 ·rw[I.eq,drop_cons hs,Bp,if_neg hn];simp
def Qp(c:Cx)(r:Rs)(O:List Nat)(w:World)(t2:Addr)(v:Value)(w':World):Prop:=(mZ r.gY []=none/\v=.nilIface/\Below w.heap.size w w')\/(∃k,mZ r.gY []=some k/\v=ln t2/\RM {c with dp:=((c.toks.length-k:Nat):Int)} [] r O w'/\Gone O w O w')
variable {t2:Addr}
theorem si.done(I:si c r w ds wr)(h:¬ds.length<r.gY.length)(hb:Below w.heap.size w w'):Qp c r O w t2 .nilIface w':=by
 refine .inl ⟨?_,rfl,hb⟩;rw[I.eq,List.drop_eq_nil_of_le (by omega)];rfl
theorem si.set(I:si c r w ds wr)(hs:r.gY[ds.length]? =some s)(hn:¬20<lY s ds)(o:Obj):si c r w (ds++[lY s ds]) ((wr.setCell ⟨w.heap.size,ds.length,none⟩ (.int .i64 (lY s ds:Int))).alloc o):=by
 have hl:=(List.getElem?_eq_some_iff.1 hs).1;have hb:Below w.heap.size w (wr.setCell ⟨w.heap.size,ds.length,none⟩ (.int .i64 (lY s ds:Int))):=I.below.setCell (aj _) _;have hlt:=lt_of_heap I.row;refine I.step hs hn (hb.alloc hb.size o) ?_;rw[bj _ o _ (by rw[bO];exact hlt),pP I.row];rw[<-GF hl];simp
theorem si.set2(I:si c r w ds wr)(hs:r.gY[ds.length]? =some s)(hn:¬20<lY s ds)(u:Value)(o:Obj):si c r w (ds++[lY s ds]) (((wr.setCell ⟨w.heap.size,ds.length,none⟩ u).setCell ⟨w.heap.size,ds.length,none⟩ (.int .i64 (lY s ds:Int))).alloc o):=by
 have hl:=(List.getElem?_eq_some_iff.1 hs).1;have hb:Below w.heap.size w ((wr.setCell ⟨w.heap.size,ds.length,none⟩ u).setCell ⟨w.heap.size,ds.length,none⟩ (.int .i64 (lY s ds:Int))):=(I.below.setCell (aj _) _).setCell (aj _) _;have hlt:=lt_of_heap I.row;refine I.step hs hn (hb.alloc hb.size o) ?_;rw[bj _ o _ (by rw[bO,bO];exact hlt),pP (pP I.row u)];rw[<-GF hl];simp
theorem si.none(I:si c r w ds wr)(hs:r.gY[ds.length]? =some s)(h0:lY s ds=0)(o:Obj):si c r w (ds++[lY s ds]) (wr.alloc o):=by
 have hl:=(List.getElem?_eq_some_iff.1 hs).1;have hlt:=lt_of_heap I.row;refine I.step hs (by rw[h0];decide) (I.below.alloc I.below.size o) ?_;rw[bj _ o _ hlt,h0,Qo hl];exact I.row
theorem J3(hrm:RM c [] r O w)(he:w.cell? ⟨2,0,none⟩=some (ln t2)):Calls ah 37 #[.pointer (some ⟨c.R,0,none⟩)] w fun e w'=>∃v,e=.returned v/\Qp c r O w t2 v w':=by
 obtain⟨i0,hi,hz0,hz1,hz2⟩:=info_parts By;obtain⟨a,g,cap,c3,ha,hcs⟩:=hrm.starts;have hgd:=hrm.good;have hl:=hrm.env.tks.hl;have hst:=hgd.st;have lR:=(hrm.high c.R hrm.iL).2;have l2:2<w.heap.size:=World.block_lt_of_cell? w ⟨2,0,none⟩ he;obtain⟨n,hn⟩:∃n,n=r.gY.length:=⟨_,rfl⟩
 have HN:=qet hn;have XX:n<=900000001:=by omega
 rw[<-hn]at c3 ha
 have hmk:∀u:World,(Instr.makeSlice 101 (.int .i64 (n:Int)) (.int .i64 (n:Int))).run ah u=.ok (.slice (some ⟨u.heap.size,0,none⟩) n n) (u.alloc (.cells (EX [] n).toArray 3)):=fun u=>by
  have h:=run_make (P:=ah) u 101 3 i0 _ dV hi hz0 .i64 .i64 (n:Int) (n:Int) (by omega) (by omega) (by rw[hz2];omega) (by omega);rw[hz1]at h;rw[<-Qn]
  simpa[Value.cells]using h
 have Va:∀o,(w.alloc o).cell? ⟨c.R,3,none⟩=some (.slice a n cap):=fun o=>(World.cell?_alloc_lt _ _ _ lR).trans c3
 have n0:(0:Int)<=(n:Int):=by omega
 have HI0:qes (si c r w [] (w.alloc (.cells (EX [] n).toArray 3))):=⟨(aw _ _).alloc (aj _) _,by rw[aE w _,hn],by simp,by simp,rfl⟩
 have Ez:=qet hrm;have J4:=qet hcs;have Zs:=qet hgd;have HE:=qet he;clear hrm hcs hgd he hn hst hl;go_enter Tryz.func37,Tryz.ntmps37;go_wp2
 go_loopw [17] (fun i wr=>∃(k:Nat),k<=n/\i=.int .i64 (k:Int)/\qes (∃ds,ds.length=k/\si c r w ds wr)) (fun i _=>n-(intOf i).toNat)
 case atStart=>exact⟨0,by omega,rfl,[],rfl,HI0.o⟩
 case round=>
  obtain⟨k,hk,rfl,hh⟩:=hrel;obtain⟨ds,hds,I⟩:=hh.o;have HI:=qet I;have X3:=qet hds;clear hh HI0 c3 Va hmk
  by_cases hlt:k<n
  ·have j1:(k:Int)<(n:Int):=by omega
   have j0:(0:Int)<=(k:Int):=by omega
   obtain⟨s,hs⟩:∃s,r.gY[k]? =some s:=⟨_,List.getElem?_eq_getElem (by rw[<-HN.o];exact hlt)⟩
   obtain⟨q0,q1,q2⟩:=J4.o k s hs;have hB:=I.below;have u0:=(hB.cell (World.block_lt_of_cell? w _ q0)).trans q0;have u1:=(hB.cell (World.block_lt_of_cell? w _ q1)).trans q1;have u2:=(hB.cell (World.block_lt_of_cell? w _ q2)).trans q2;have ha':=ha (by omega);subst ha';have hwi:=Zs.o.wi k s hs;have HS:=qet hs;obtain⟨D,hD⟩:∃D,D=w.heap.size:=⟨_,rfl⟩
   have HD:=qet hD;have hrow:=I.row;have hkd:ds.length<r.gY.length:=by rw[hds,<-HN.o];exact hlt
   have e0:wr.cell? ⟨D,k,none⟩=some (.int .i64 0):=by rw[hD];exact I.cell k _ (by rw[<-hds];exact Ns hkd)
   rw[<-hD]at hrow;have lD:=lt_of_heap hrow;have d0:∀o,(wr.alloc o).cell? ⟨D,k,none⟩=some (.int .i64 0):=fun o=>(World.cell?_alloc_lt _ _ _ lD).trans e0
   have fD:∀o,(wr.alloc o).frozen? ⟨D,k,none⟩=false:=fun o=>(World.frozen?_of_block (bj wr o D lD)).trans (aC hrow k)
   have sB:=qet hrow;have X4:=qet hkd;rw[<-hD];obtain⟨sl,sw,se⟩:=s;simp only at u0 u1 u2 hwi;generalize hat:((c.toks.length-sl:Nat):Int)=sat at *;have HAT:=qet hat;clear hat
   by_cases hw1:sw= -1
   ·subst hw1
    cases se with
    |true=>
     have HZ:qes (lY ⟨sl,-1,true⟩ ds=0):=by show _=_;simp[lY]
     have FL:=qet (fun o=>I.none (by rw[hds];exact hs) HZ.o o);clear I hds hrow hkd hD hs hB q0 q1 q2 hwi;go_wp2
     go_roundw
     case rel=>exact⟨k+1,by omega,by go_num,_,by rw[ao,X3.o];rfl,FL.o _⟩
     case measure=>simp only[intOf];omega
    |false=>
     have HZ:qes (lY ⟨sl,-1,false⟩ ds=1):=by show _=_;simp[lY]
     have FL:=I.set (s:=⟨sl,-1,false⟩) (by rw[hds];exact hs) (by rw[HZ.o];decide);rw[HZ.o,hds,<-hD]at FL;replace FL:=qet FL;clear I hds hrow hkd hD hs hB q0 q1 q2 hwi;go_wp2
     go_roundw
     case rel=>exact⟨k+1,by omega,by go_num,_,by rw[ao,X3.o];rfl,FL.o _⟩
     case measure=>simp only[intOf];omega
   ·obtain⟨wn,hwn⟩:∃wn:Nat,sw=(wn:Int):=⟨sw.toNat,by omega⟩
    subst hwn;have hwk:wn<k:=by omega
    have hwd:wn<ds.length:=by rw[hds];exact hwk
    have b1:((wn:Int)== -1)=false:=by rw[beq_eq_false_iff_ne];exact hw1
    have z0:(0:Int)<=(wn:Int):=by omega
    have z1:(wn:Int)<(n:Int):=by omega
    obtain⟨dw,hdw⟩:∃dw,dw=ds.getD wn 0:=⟨_,rfl⟩
    have qbL:dw<=20:=by
     rw[hdw,List.getD_eq_getElem?_getD,List.getElem?_eq_getElem hwd];exact I.small _ (List.getElem_mem _)
    have e1:wr.cell? ⟨D,wn,none⟩=some (.int .i64 (dw:Int)):=by rw[hD,hdw];exact I.cell wn _ (Ug hwd)
    have d1:∀o,(wr.alloc o).cell? ⟨D,wn,none⟩=some (.int .i64 (dw:Int)):=fun o=>(World.cell?_alloc_lt _ _ _ lD).trans e1
    have y0:(0:Int)<=(dw:Int):=by omega
    have y1:(dw:Int)<=20:=by omega
    cases se with
    |true=>
     have HZ:qes (lY ⟨sl,(wn:Int),true⟩ ds=dw):=by show _=_;unfold lY;simp only;rw[if_neg hw1,hdw];simp
     have FL:=I.set (s:=⟨sl,(wn:Int),true⟩) (by rw[hds];exact hs) (by rw[HZ.o];omega);rw[HZ.o,hds,<-hD]at FL;replace FL:=qet FL;clear I hds hrow hkd hD hs hB q0 q1 q2 hwi hdw hwd hw1;go_wp2
     go_roundw
     case rel=>exact⟨k+1,by omega,by go_num,_,by rw[ao,X3.o];rfl,FL.o _⟩
     case measure=>simp only[intOf];omega
    |false=>
     have HZ:qes (lY ⟨sl,(wn:Int),false⟩ ds=dw+1):=by show _=_;unfold lY;simp only;rw[if_neg hw1,hdw];simp
     have fS:∀v o,((wr.setCell ⟨D,k,none⟩ v).alloc o).frozen? ⟨D,k,none⟩=false:=fun v o=>by
      have h1:=pP (j:=k) hrow v;exact(World.frozen?_of_block (bj _ o D (lt_of_heap h1))).trans (aC h1 k)
     by_cases h20:dw=20
     ·have Qq:qes (∀v1 v2,Below w.heap.size w ((wr.setCell ⟨D,k,none⟩ v1).setCell ⟨D,k,none⟩ v2)):=fun v1 v2=>(I.below.setCell (by rw[hD];exact aj _) _).setCell (by rw[hD];exact aj _) _
      have HDE:qes (mZ r.gY []=some sl):=by
       show _=_;rw[I.eq,drop_cons (by rw[hds];exact hs),Bp,HZ.o,if_pos (by omega)]
      have HQ:qes (∀v1 v2 o,Qp c r O w t2 (ln t2) ((((wr.setCell ⟨D,k,none⟩ v1).setCell ⟨D,k,none⟩ v2).alloc o).setCell ⟨c.R,7,none⟩ (.int .i64 sat))):=fun v1 v2 o=>by
       have h1:=(Qq.o v1 v2).alloc (Qq.o v1 v2).size o;obtain⟨_,_,g1,g2⟩:=(Ez.o.below h1).deep sat;refine .inr ⟨sl,HDE.o,rfl,?_,(Gone.of_below h1).trans g2⟩;rw[HAT.o];exact g1
      obtain⟨dp0,qdr⟩:∃d0,∀v1 v2 o,(((wr.setCell ⟨D,k,none⟩ v1).setCell ⟨D,k,none⟩ v2).alloc o).cell? ⟨c.R,7,none⟩=some (.int .i64 d0):=by
       obtain⟨⟨d0,h0⟩,_⟩:=Ez.o.deep 0;exact⟨d0,fun v1 v2 o=>((((Qq.o v1 v2).alloc (Qq.o v1 v2).size o).cell (p:=⟨c.R,7,none⟩) lR).trans h0)⟩
      have hdf:∀v1 v2 o,(((wr.setCell ⟨D,k,none⟩ v1).setCell ⟨D,k,none⟩ v2).alloc o).frozen? ⟨c.R,7,none⟩=false:=fun v1 v2 o=>by
       obtain⟨_,h0,_⟩:=Ez.o.deep 0;exact(World.frozen?_of_block (((Qq.o v1 v2).alloc (Qq.o v1 v2).size o).block c.R lR)).trans h0
      have he2:∀v1 v2 u o,((((wr.setCell ⟨D,k,none⟩ v1).setCell ⟨D,k,none⟩ v2).alloc o).setCell ⟨c.R,7,none⟩ u).cell? ⟨2,0,none⟩=some (ln t2):=fun v1 v2 u o=>by
       have h1:Gone [c.R] w [c.R] ((((wr.setCell ⟨D,k,none⟩ v1).setCell ⟨D,k,none⟩ v2).alloc o).setCell ⟨c.R,7,none⟩ u):=(Gone.of_below ((Qq.o v1 v2).alloc (Qq.o v1 v2).size o)).trans (Gone.my ((gR.refl [c.R] _).setCell (p:=⟨c.R,7,none⟩) (.inl (by simp)) _) (fun _ h=>h));have Px:=Ez.o.env.hB;have hRh:=(Ez.o.high c.R Ez.o.iL).1;exact(World.cell?_of_block (h1.keep.block 2 l2 (by simp;omega))).trans HE.o
      have y2:(20:Int)<(dw:Int)+1:=by omega
      clear I hds hrow hkd hD hs hB q0 q1 q2 hwi hdw hwd hw1 Ez J4 Zs HE Qq HDE;go_wp2;go_ret;exact⟨_,rfl,HQ.o _ _ _⟩
     ·have FL:=I.set2 (s:=⟨sl,(wn:Int),false⟩) (by rw[hds];exact hs) (by rw[HZ.o];omega);rw[HZ.o,hds,<-hD,show((dw+1:Nat):Int)=(dw:Int)+1 by omega]at FL;replace FL:=qet FL;have y2:¬ (20:Int)<(dw:Int)+1:=by omega
      clear I hds hrow hkd hD hs hB q0 q1 q2 hwi hdw hwd hw1;go_wp2
      go_roundw
      case rel=>exact⟨k+1,by omega,by go_num,_,by rw[ao,X3.o];rfl,FL.o _ _⟩
      case measure=>simp only[intOf];omega
  ·have HQ:qes (Qp c r O w t2 .nilIface wr):=I.done (by rw[hds,<-HN.o];exact hlt) I.below;have j1:¬ (k:Int)<(n:Int):=by omega
   clear I hds HI Ez J4 Zs HE HN;go_wp2;go_ret;exact⟨_,rfl,HQ.o⟩
theorem RM.Nt(h:RM c X r O w):w.cell? ⟨c.R,4,none⟩=some (.bool r.many):=by
 obtain⟨at_,hv,sv,fa,fc,os,hx⟩:=h;have hr:=hx.rb.row;unfold mb at hr;rw[af hr];rfl
def Nu(c:Cx)(t3:Addr)(r:Rs):Except Er Unit->Value
 | .ok _=>if r.many=true\/400<r.gY.length then ln t3 else .nilIface
 | .error e=>tA c (.error e)
def Qr(c:Cx)(r:Rs)(O:List Nat)(w:World)(t2 t3:Addr)(v:Value)(w':World):Prop:=∃O' z,oV (r.rest.length+1) r=z/\Gone O w O' w'/\((∃k,mZ z.1.gY []=some k/\v=ln t2/\RM {c with dp:=((c.toks.length-k:Nat):Int)} [] z.1 O' w')\/(mZ z.1.gY []=none/\RM c [] z.1 O' w'/\v=Nu c t3 z.1 z.2))
variable {t3:Addr}
theorem Qs(hrm:RM c [] r O w)(ht:sN c.toks.length r)(hi:Inv 0 r)(he2:w.cell? ⟨2,0,none⟩=some (ln t2))(he3:w.cell? ⟨3,0,none⟩=some (ln t3)):Calls ah 24 #[.pointer (some ⟨c.R,0,none⟩)] w fun e w'=>∃v,e=.returned v/\Qr c r O w t2 t3 v w'/\Nq r:=by
 have s1:=zI hrm ht hi;have hB:=hrm.env.hB;have HB:qes (∀b,b∈O->3<b):=fun b hb=>by have:=(hrm.high b hb).1;omega
 have HE:qes (∀O' w',Gone O w O' w'->w'.cell? ⟨2,0,none⟩=some (ln t2)/\w'.cell? ⟨3,0,none⟩=some (ln t3)):=fun O' w' hG=>by
  have l2:2<w.heap.size:=World.block_lt_of_cell? w ⟨2,0,none⟩ he2;have l3:3<w.heap.size:=World.block_lt_of_cell? w ⟨3,0,none⟩ he3;exact⟨(World.cell?_of_block (hG.keep.block 2 l2 (fun h=>by have:=HB.o 2 h;omega))).trans he2,(World.cell?_of_block (hG.keep.block 3 l3 (fun h=>by have:=HB.o 3 h;omega))).trans he3⟩
 obtain⟨z,hz⟩:∃z,oV (r.rest.length+1) r=z:=⟨_,rfl⟩
 have HZ:=qet hz;unfold pN at s1;rw[hz]at s1;obtain⟨r2,x⟩:=z;clear hrm ht hi he2 he3 hz hB;go_enter Tryz.func24,Tryz.ntmps24;go_wp2_with fail;refine s1.mono ?_;rintro e w1 ⟨v,rfl,⟨O1,hv,h1,h2⟩,hrq⟩;have Wo:=qet hrq;clear hrq;have s2:=J3 h1 (HE.o _ _ h2).1;have H1:=qet h1;have H2:=qet h2;clear s1 h1 h2;subst hv;go_wp2_with fail;refine s2.mono ?_;rintro e w2 ⟨v2,rfl,hq⟩;clear s2
 rcases hq with⟨hd,rfl,hb2⟩|⟨k,hd,rfl,k1,k2⟩
 ·have g2:=H2.o.trans (Gone.of_below (O:=O1) hb2);have X5:=H1.o.below hb2;have e3:=(HE.o _ _ g2).2;have m4:=X5.Nt;obtain⟨a,g,cap,c3,_,_⟩:=X5.starts;have HQ:qes (∀v,v=Nu c t3 r2 x->Qr c r O w t2 t3 v w2):=fun v hv=>⟨O1,(r2,x),HZ.o,g2,.inr ⟨hd,X5,hv⟩⟩
  clear hd hb2 g2 X5 H1 H2 HE HB HZ
  cases x with
  |error er=>
   obtain⟨b,hb⟩:=wC c er;simp only[Nu]at HQ;rw[hb]at HQ ⊢;clear hb;go_wp2;go_ret;exact⟨_,rfl,HQ.o _ rfl,Wo.o⟩
  |ok u=>
   simp only[Nu]at HQ;simp only[tA]
   cases hmn:r2.many with
   |true=>
    rw[hmn]at m4 HQ;rw[if_pos (.inl rfl)]at HQ;go_wp2;go_ret;exact⟨_,rfl,HQ.o _ rfl,Wo.o⟩
   |false=>
    rw[hmn]at m4 HQ
    by_cases hn:400<r2.gY.length
    ·rw[if_pos (.inr hn)]at HQ;have i1:(400:Int)<(r2.gY.length:Int):=by omega
     clear hn;generalize r2.gY.length=n at *;go_wp2;go_ret;exact⟨_,rfl,HQ.o _ rfl,Wo.o⟩
    ·rw[if_neg (by rintro(h|h);cases h;exact hn h)]at HQ;have i1:¬ (400:Int)<(r2.gY.length:Int):=by omega
     clear hn;generalize r2.gY.length=n at *;go_wp2;go_ret;exact⟨_,rfl,HQ.o _ rfl,Wo.o⟩
 ·have HQ:qes (Qr c r O w t2 t3 (ln t2) w2):=⟨O1,(r2,x),HZ.o,H2.o.trans k2,.inl ⟨k,hd,rfl,k1⟩⟩
  clear hd k1 k2 H1 H2 HE HB HZ;obtain⟨v1,hv1⟩:∃v1,v1=tA c x:=⟨_,rfl⟩
  rw[<-hv1];clear hv1;go_wp2;go_ret;exact⟨_,rfl,HQ.o,Wo.o⟩
def Ef{α:Type}(m:M α):Prop:=∀r r',m r=(r',.error .exp)->r'.fault.2≠0
theorem kP{β:Type}{m:M α}{f:α->M β}(h:Ef m)(hf:∀a,Ef (f a)):Ef (bnd m f):=fun r r' he=>by
 unfold bnd at he
 cases hm:m r with
 |mk r1 x=>
  rw[hm]at he
  cases x with
  |error e=>
   have:=(cv he).1;subst this;have e2:=(cv he).2;injection e2 with e2
   subst e2;exact h r _ hm
  |ok a=>exact hf a r1 r' he
theorem jl{β:Type}{m:M Unit}{f:M β}(h:Ef m)(hf:Ef f):Ef (thn m f):=kP h fun _=>hf
theorem tK{m:M α}(h:∀r,∃a,(m r).2=.ok a):Ef m:=fun r r' he=>by
 obtain⟨a,ha⟩:=h r;rw[he]at ha
 cases ha
theorem xS{m:M α}(h:∀r,(m r).2≠.error .exp):Ef m:=fun r r' he=>absurd (by rw[he]) (h r)
theorem wG(a:α):Ef (ret a):=tK fun _=>⟨a,rfl⟩
theorem jQ(k:Int)(s:Bs):Ef (lB k s):=xS fun r=>by
 unfold lB
 split <;> (intro h;cases h)
theorem Nv:Ef anyM:=xS fun r=>by
 unfold anyM
 split <;> (intro h;cases h)
theorem IG:Ef kN:=fun r r' h=>by
 unfold kN at h
 split at h
 ·exact Nv r r' h
 ·cases h
theorem oM:Ef ir:=fun r r' h=>by
 unfold ir at h
 split at h
 ·cases h
 ·next z hz=>
  have:=(cv h).1;subst this;obtain⟨k,c⟩:=z;exact yT hz
theorem Nw(b:Bool):Ef (j8 b):=xS fun r=>by
 unfold j8;simp only
 repeat' split
 all_goals(intro h;cases h)
theorem GG(n m:Nat):Ef (jZ n m):=tK fun _=>⟨(),rfl⟩
theorem Nx{c:Rs->Bool}{m n:M α}(hm:Ef m)(hn:Ef n):Ef (fun r=>if c r then m r else n r):=fun r r' h=>by
 simp only at h
 split at h
 ·exact hm r r' h
 ·exact hn r r' h
theorem Uh:Ef xo:=Nx (c:=jI 3 vT) (jl (jQ _ _) (kP oM fun _=>kP (jQ _ _) fun _=>wG _)) (wG _)
theorem Wp:Ef K8:=Nx (c:=jI 1 vL) (jl (jQ _ _) (Nw true)) (wG _)
theorem EY:∀(f:Nat)(l:List (Bs×List Pt)),Ef (lI f l)
 |0,l=>wG l
 |f+1,l=>kP Nv fun nm=>jl (jQ _ _) (kP oM fun x=>jl (GG _ _) fun r r' h=>by
   split at h
   ·exact EY f _ _ _ h
   ·cases h)
theorem Qt:Ef kD:=fun r r' h=>by
 unfold kD at h
 split at h
 ·cases h
 ·exact EY _ _ _ _ h
theorem II:∀(f:Nat)(l:List Int),Ef (pO f l)
 |0,l=>wG l
 |f+1,l=>kP (Nw false) fun n=>jl (GG _ _) fun r r' h=>by
   split at h
   ·exact II f _ _ _ h
   ·cases h
theorem CU(s:St):Ef (kI s):=jl (jQ _ _) (tK fun _=>⟨(),rfl⟩)
theorem vx(s:St):Ef (iG s):=tK fun _=>⟨(),rfl⟩
theorem Ui(e:Bool):Ef (tt e):=tK fun _=>⟨(),rfl⟩
theorem vy:Ef iQ:=jl (jQ _ _) (tK fun _=>⟨(),rfl⟩)
theorem EZ:Ef gZ:=tK fun r=>by
 unfold gZ;simp only
 repeat' split
 all_goals exact⟨(),rfl⟩
theorem IJ(e:Bool):Ef (mM e):=jl (tK fun _=>⟨(),rfl⟩) (kP oM fun _=>jl (jQ _ _) (jl (vx _) (Ui e)))
theorem Ny(nm:Bs):Ef (iP nm):=Nx (c:=jI 3 tr) (jl (jQ _ _) (kP Qt fun _=>jl (jQ _ _) (CU _))) (kP Uh fun _=>jl (jQ _ _) (kP oM fun _=>CU _))
theorem Qu:Ef jT:=xS fun r=>by
 unfold jT
 split <;> (intro h;cases h)
theorem Bq(s:Bs):Ef (bnd jT fun b=>if b then ret ()else thn (gU s) iQ):=kP Qu fun b=>by
 cases b
 ·exact jl (jQ _ _) vy
 ·exact wG _
theorem Uj:Ef qY:=fun r r' h=>by
 unfold qY at h;refine kP (II _ _) (fun ls=>?_) r r' h;intro q q' hq;exact jl (GG _ _) (jQ _ _) _ _ hq
theorem Br:Ef iq:=fun r r' h=>by
 unfold iq at h
 split at h
 ·unfold jd at h
  split at h
  ·exact jl EZ (IJ true) _ _ h
  ·exact Bq _ _ _ h
 split at h
 ·unfold iN at h
  split at h
  ·exact Uj _ _ h
  ·exact Bq _ _ _ h
 split at h
 ·exact jl (jQ _ _) vy _ _ h
 split at h
 ·exact jl (jQ _ _) (jl (kP oM fun _=>tK fun _=>⟨(),rfl⟩) (jl (jQ _ _) vy)) _ _ h
 ·exact jl (jQ _ _) vy _ _ h
theorem Nz(w:Bs):Ef (jq w):=by
 unfold jq
 split
 ·exact IJ false
 split
 ·exact jl (jQ _ _) (kP oM fun _=>jl (jQ _ _) (vx _))
 split
 ·exact jl (jQ _ _) (vx _)
 split
 ·exact jl (jQ _ _) (kP IG fun _=>jl (jQ _ _) (kP oM fun _=>jl (jQ _ _) (kP oM fun _=>kP Wp fun _=>jl (jQ _ _) (vx _))))
 split
 ·exact jl (jQ _ _) (kP oM fun _=>jl (jQ _ _) (jl (vx _) Br))
 split
 ·exact jl (jQ _ _) (CU _)
 split
 ·exact jl (jQ _ _) (CU _)
 ·exact kP IG fun _=>Ny _
theorem GH:∀f,Ef (oV f)
 |0=>tK fun _=>⟨(),rfl⟩
 |f+1=>fun r r' h=>by
  rw[oV]at h;unfold turn at h
  split at h
  ·cases h
  ·exact GH f _ _ h
  ·next r2 e ht=>
   have:=(cv h).1;subst this;have e2:=(cv h).2;injection e2 with e2
   subst e2
   split at ht
   ·exact jl EZ (Nz _) _ _ (an ht)
   ·split at ht
    ·exact Br _ _ (an ht)
    ·cases ht
theorem isTypeOf(v:Value)(w:World):(Extern.ReflectliteType.typeOf #[.iface 259 v]).run ah w=.ok (.iface 105 (.agg #[.pointer (some ⟨14,259,none⟩)])) w:=by kernel_rfl
theorem isComparable(w:World):((Extern.ReflectliteType.method fun t=>do Extern.Rtype.noPackHeld "Comparable" t;(fun a=>Value.bool a.comparable)<$>typeInfo t) #[.agg #[.pointer (some ⟨14,259,none⟩)]]).run ah w=.ok (.bool true) w:=by kernel_rfl
theorem Fa(v:Value)(w:World):(Go.method 394 105 v "Comparable").run ah w=.ok (258,v) w:=by kernel_rfl
theorem isComp:(ah.info? 259).map (·.comparable)=some true:=by kernel_rfl
theorem isSize:(ah.info? 282).map (·.size)=some 1:=by kernel_rfl
theorem noIsE(v:Value)(xT:TypeId)(w:World):(Instr.typeAssert (.iface 259 v) xT 107 true).run ah w=.ok (.tuple #[.nilIface,.bool false]) w:=run_typeAssert_lacksB Tryz.underlying107 (by kernel_rfl) (by kernel_rfl) v xT w
theorem noUnwrapE(v:Value)(xT:TypeId)(w:World):(Instr.typeAssert (.iface 259 v) xT 110 true).run ah w=.ok (.tuple #[.nilIface,.bool false]) w:=run_typeAssert_lacksB Tryz.underlying110 (by kernel_rfl) (by kernel_rfl) v xT w
theorem noUnwrapsE(v:Value)(xT:TypeId)(w:World):(Instr.typeAssert (.iface 259 v) xT 111 true).run ah w=.ok (.tuple #[.nilIface,.bool false]) w:=run_typeAssert_lacksB Tryz.underlying111 (by kernel_rfl) (by kernel_rfl) v xT w
theorem is_nil(b:Addr)(w:World):Calls ah 25 #[.nilIface,.iface 259 (.pointer (some b))] w fun e w'=>e=.returned (.bool false)/\w'=w:=by
 have hn:=run_eql_iface_nil_left (P:=ah) w 259 (.pointer (some b)) dt;go_enter Tryz.func25,Tryz.ntmps25;go_wp2;go_ret;exact⟨rfl,rfl⟩
theorem is_same(a:Addr)(w:World):Calls ah 25 #[.iface 259 (.pointer (some a)),.iface 259 (.pointer (some a))] w fun e w'=>e=.returned (.bool true)/\w'=w:=by
 obtain⟨i,hi,hcmp⟩:=cj.1 isComp;obtain⟨j,hj,hjs⟩:=cj.1 isSize;have h8:=@run_callFunc_extern ah 38 _ Extern.ReflectliteType.typeOf Tryz.func38 (by kernel_rfl) (by kernel_rfl) (by kernel_rfl) (by kernel_rfl);have h32:=@run_callFunc_extern ah 258 _ (Extern.ReflectliteType.method fun t=>do Extern.Rtype.noPackHeld "Comparable" t;pure (.bool (<-typeInfo t).comparable)) Tryz.func258 (by kernel_rfl) (by kernel_rfl) (by kernel_rfl) (by kernel_rfl);have tT:=isTypeOf;have cT:=isComparable;have mR:=Fa;have heq:=run_eql_iface_ptr_same (P:=ah) w a dt dE hi hcmp hj;go_enter Tryz.func25,Tryz.ntmps25;go_wp2;refine wp_loop_rounds 1 ?_;rw[rounds_succ];go_wp2;go_ret;exact⟨rfl,rfl⟩
theorem is_other(a b:Addr)(ca cb:Array Value)(ta tb:TypeId)(w:World)(hne:a≠b)(ha:w.heap[a.block]? =some (.cells ca ta (0,0)))(hb:w.heap[b.block]? =some (.cells cb tb (0,0))):Calls ah 25 #[.iface 259 (.pointer (some a)),.iface 259 (.pointer (some b))] w fun e w'=>e=.returned (.bool false)/\w'=w:=by
 obtain⟨i,hi,hcmp⟩:=cj.1 isComp;obtain⟨j,hj,hjs⟩:=cj.1 isSize;have h8:=@run_callFunc_extern ah 38 _ Extern.ReflectliteType.typeOf Tryz.func38 (by kernel_rfl) (by kernel_rfl) (by kernel_rfl) (by kernel_rfl);have h32:=@run_callFunc_extern ah 258 _ (Extern.ReflectliteType.method fun t=>do Extern.Rtype.noPackHeld "Comparable" t;pure (.bool (<-typeInfo t).comparable)) Tryz.func258 (by kernel_rfl) (by kernel_rfl) (by kernel_rfl) (by kernel_rfl);have tT:=isTypeOf;have cT:=isComparable;have mR:=Fa;have nE:=noIsE;have uE:=noUnwrapE;have vE:=noUnwrapsE;have heq:=run_eql_iface_ptr_other (P:=ah) w dt dE hi hcmp hj (by rw[hjs];decide) hne ha hb;go_enter Tryz.func25,Tryz.ntmps25;go_wp2;refine wp_loop_rounds 1 ?_;rw[rounds_succ];go_wp2;go_ret;exact⟨rfl,rfl⟩
structure Sc(t0 t1 t2 t3:Addr)(w:World):Prop where
 e0:w.cell? ⟨0,0,none⟩=some (ln t0)
 e1:w.cell? ⟨1,0,none⟩=some (ln t1)
 e2:w.cell? ⟨2,0,none⟩=some (ln t2)
 e3:w.cell? ⟨3,0,none⟩=some (ln t3)
 b0:∃c y,w.heap[t0.block]? =some (.cells c y (0,0))
 b1:∃c y,w.heap[t1.block]? =some (.cells c y (0,0))
 b2:∃c y,w.heap[t2.block]? =some (.cells c y (0,0))
 b3:∃c y,w.heap[t3.block]? =some (.cells c y (0,0))
 n10:t1≠t0
 n20:t2≠t0
 n30:t3≠t0
 n21:t2≠t1
 n31:t3≠t1
 n32:t3≠t2
theorem Sc.below{t0 t1:Addr}(h:Sc t0 t1 t2 t3 w)(hb:Below w.heap.size w w'):Sc t0 t1 t2 t3 w':=by
 have key:∀t:Addr,(∃c y,w.heap[t.block]? =some (.cells c y (0,0)))->∃c y,w'.heap[t.block]? =some (.cells c y (0,0)):=fun t ⟨c,y,e⟩=>⟨c,y,(hb.block t.block (lt_of_heap e)).trans e⟩
 exact⟨(hb.cell (World.block_lt_of_cell? w _ h.e0)).trans h.e0,(hb.cell (World.block_lt_of_cell? w _ h.e1)).trans h.e1,(hb.cell (World.block_lt_of_cell? w _ h.e2)).trans h.e2,(hb.cell (World.block_lt_of_cell? w _ h.e3)).trans h.e3,key _ h.b0,key _ h.b1,key _ h.b2,key _ h.b3,h.n10,h.n20,h.n30,h.n21,h.n31,h.n32⟩
theorem qN{a b:Addr}(hne:a≠b)(ha:∃c y,w.heap[a.block]? =some (.cells c y (0,0)))(hb:∃c y,w.heap[b.block]? =some (.cells c y (0,0))):Calls ah 25 #[ln a,ln b] w fun e w'=>e=.returned (.bool false)/\w'=w:=by
 obtain⟨ca,ta,ha⟩:=ha;obtain⟨cb,tb,hb⟩:=hb;exact is_other a b ca cb ta tb w hne ha hb
abbrev Wq:Obj:=.cells #[.int .i64 0,.string ⟨#[]⟩,.slice none 0 0,.slice none 0 0,.slice none 0 0,.int .i64 0,.slice none 0 0,.slice none 0 0,.slice none 0 0,.slice none 0 0,.int .i64 (-1),.bool false,.bool false,.int .i64 0] 57
abbrev KJ:Obj:=.cells #[.int .i64 0,.int .i64 0] 27
abbrev w7(w:World)(tv:Value)(at_:Nat):World:=((w.alloc KJ).alloc Wq).alloc (mb tv at_ (.slice (some ⟨w.heap.size+1,0,none⟩) 1 1) (.slice none 0 0) false 0 0 0)
abbrev cx7(w:World)(t0 t1:Addr)(tv:Value)(toks:List Tv):Cx:=⟨w.heap.size+1,w.heap.size+2,t0,t1,tv,toks,0⟩
theorem Fb(w:World)(tv:Value)(at_:Nat):Below w.heap.size w (w7 w tv at_):=by
 have b1:Below w.heap.size w (w.alloc KJ):=(aw _ _).alloc (aj _) _;have b2:=b1.alloc b1.size Wq;exact b2.alloc b2.size _
theorem IK(w:World)(tv:Value)(at_:Nat):(w7 w tv at_).heap.size=w.heap.size+3:=by rw[aB,aB,aB]
theorem Zt(w:World)(tv:Value)(at_:Nat):(w7 w tv at_).heap[w.heap.size]? =some KJ:=by
 rw[bj _ _ _ (by rw[aB,aB];omega),bj _ _ _ (by rw[aB];omega),aE w KJ]
theorem Zu(w:World)(tv:Value)(at_:Nat):(w7 w tv at_).heap[w.heap.size+1]? =some Wq:=by
 rw[bj _ _ _ (by rw[aB,aB];omega)];have:=aE (w.alloc KJ) Wq
 rwa [aB]at this
theorem Zv(w:World)(tv:Value)(at_:Nat):(w7 w tv at_).heap[w.heap.size+2]? =some (mb tv at_ (.slice (some ⟨w.heap.size+1,0,none⟩) 1 1) (.slice none 0 0) false 0 0 0):=by
 have:=aE ((w.alloc KJ).alloc Wq) (mb tv at_ (.slice (some ⟨w.heap.size+1,0,none⟩) 1 1) (.slice none 0 0) false 0 0 0)
 rwa [aB,aB]at this
theorem Sd(N:Nat)(l:List Tk)(h:l.length<=N):Good N (AM l):=by
 refine⟨by simp[AM],⟨rfl,rfl⟩,by simp[AM],?_,?_,by simp[AM],?_,?_,by simp[AM],by simp[AM]⟩
 ·intro h hh;obtain rfl:h=_:=aL.1 hh;exact .inl rfl
 ·intro h hh;obtain rfl:h=_:=aL.1 hh;exact⟨by decide,by show(-1:Int)<((0:Nat):Int);decide⟩
 ·show 1+l.length<=N+1;omega
 ·show 0+l.length<=N+1;omega
theorem Wr(N:Nat)(l:List Tk)(h:l.length<=N):sN N (AM l)/\Inv 0 (AM l):=by
 refine⟨⟨Sd N l h,?_,?_⟩,by show 1+0+0<=0+1;omega⟩
 ·intro h hh;obtain rfl:h=_:=aL.1 hh;intro _ i;exact absurd (show(0:Int)=6 from i) (by decide)
 ·show 0+l.length<=N;omega
theorem Uk{tv:Value}{toks:List Tv}{t0 t1:Addr}(hl:ku w tv toks)(htk:JE toks)(hat:at_<=toks.length)(qJ:kZ w)(hS:Sc t0 t1 t2 t3 w):RM (cx7 w t0 t1 tv toks) [] (AM (lst toks at_)) [w.heap.size+2,w.heap.size+1] (w7 w tv at_):=by
 have hb:=Fb w tv at_;have hS':=hS.below hb;have hlt:=qJ.lt;have hsz:=IK w tv at_;have hp:mg (w7 w tv at_) (ji [w.heap.size+2,w.heap.size+1]) [] (.slice none 0 0):=⟨[],rfl,none,0,0,0,rfl,by simp,rfl,fun h=>by simp at h,fun j u hu=>by cases hu⟩
 have hg:Mk (w.heap.size+1) (w7 w tv at_) (ji [w.heap.size+2,w.heap.size+1]) [] (.slice none 0 0):=⟨[],bS _ _ _ _,rfl⟩
 refine⟨at_,.slice (some ⟨w.heap.size+1,0,none⟩) 1 1,.slice none 0 0,0,0,[],⟨⟨by show 13<w.heap.size+1;omega,hS'.e0,hS'.e1,qJ.below hb hlt,htk⟩,⟨by show w.heap.size+1<=w.heap.size+2;omega,hat,Zv w tv at_,?_⟩,rfl,fun h=>absurd rfl h,?_,bS _ _ _ _,rfl,by simp,?_,Sd _ _ (by rw[iM];exact Nat.sub_le _ _)⟩⟩
 ·obtain⟨a,b,off,cap,h1,h2,h3⟩:=hl;have hT0:SO (w.heap.size+1) tv toks w:=⟨a,b,off,cap,h1,fun h=>⟨by have:=(h2 h).1;omega,h2 h⟩,h3⟩
  exact hT0.keep (gR.of_below (O:=[]) hb) (by simp)
 ·refine⟨[.int .i64 0,.string ⟨#[]⟩,.slice none 0 0,.slice none 0 0,.slice none 0 0,.int .i64 0,.slice none 0 0,.slice none 0 0,.slice none 0 0,.slice none 0 0,.int .i64 (-1),.bool false,.bool false,.int .i64 0],⟨rfl,.inr ⟨w.heap.size+1,1,_,rfl,aj _,Zu w tv at_,aj _,by decide,rfl,rfl⟩⟩,?_⟩;refine⟨_,[],[],[],(bm _).symm,rfl,rfl,?_,rfl,rfl⟩;exact⟨⟨#[]⟩,_,_,_,_,_,_,_,[],[],rfl,rfl,hp,hp,hp,hg,hg,bS _ _ _ _,⟨rfl,rfl⟩,M7 _ _,rfl⟩
 ·intro b hb;show w.heap.size+1<=b/\b<_;rw[hsz];simp only[aI,bG,or_false]at hb;omega
theorem RM.Ws(h:RM c [] r O w){hd:Hd}(hh:r.hs=[hd]):∃g cap bv,w.cell? ⟨c.R,2,none⟩=some (.slice (some ⟨g,0,none⟩) 1 cap)/\w.cell? ⟨g,6,none⟩=some bv/\lk w Tt hd.s.body bv:=by
 have hg:=h.good;have hl:=h.env.tks.hl;obtain⟨at_,hv,sv,fa,fc,os,hx⟩:=h;obtain⟨g,cap,cur,c1,c2,o1,o2,hvv,e2,e3,e4,e5,e6,e7,e8,e9,e10,e11⟩:=hx.open hh;obtain⟨nv,iv,xv,yv,bv,ev,av,gv,oa,ac,f1,f2,f3,f4,f5,f6,_⟩:=e7;have hc:=e8 6 bv (by rw[f1];rfl);refine⟨g,cap,bv,by rw[hx.rb.hv2,hvv];rfl,by rw[af e2];simpa using hc,?_⟩;obtain⟨cs,k1,k2⟩:=f6;have hwt:=hg.wt;rw[hh]at hwt
 have hlen:hd.s.body.length<=1000000000:=by
  have:zk [hd]=vi hd:=by simp[zk]
  rw[this]at hwt;unfold vi at hwt;omega
 exact⟨cs,l6 k1 hlen _ (fun _ _=>trivial),oH.on (On.any w) _ _ k2⟩
theorem RM.CZ(h:RM c X r O w):w.cell? ⟨c.R,1,none⟩=some (.int .i64 ((c.toks.length-r.rest.length:Nat):Int))/\w.cell? ⟨c.R,7,none⟩=some (.int .i64 c.dp)/\(r.fault.2≠0->w.cell? ⟨c.R,5,none⟩=some (.int .i64 ((c.toks.length-r.fault.1:Nat):Int))/\w.cell? ⟨c.R,6,none⟩=some (.int .i64 r.fault.2)):=by
 obtain⟨at_,hv,sv,fa,fc,os,hx⟩:=h;have hr:=hx.rb.row;unfold mb at hr;have hre:=hx.rest;have hh:=hx.rb.here;have ha:c.toks.length-r.rest.length=at_:=by rw[hre,iM];omega
 refine⟨by rw[af hr,ha];rfl,by rw[af hr];rfl,fun hf=>?_⟩;obtain⟨h1,h2⟩:=hx.fl hf;subst h1 h2;exact⟨by rw[af hr];rfl,by rw[af hr];rfl⟩
def GI(n:Nat)(r:Rs):Except Er Unit->Except (Nat×Int) (List St×List Tk)
 | .error .tok=>.error (r.rest.length,70)
 | .error .exp=>.error r.fault
 | .ok _=>if r.many=true\/400<r.gY.length then .error (n,2)else .ok (((r.hs.headD O4).s).body,r.rest)
theorem xb{l:List Tk}{x:Except Er Unit}(h:oV (l.length+1) (AM l)=(r,x))(hd:mZ r.gY []=some k):lC l=.error (k,2):=by
 unfold lC;rw[h];simp only[hd]
theorem xd{l:List Tk}{x:Except Er Unit}(h:oV (l.length+1) (AM l)=(r,x))(hd:mZ r.gY []=none):lC l=GI l.length r x:=by
 unfold lC;rw[h];simp only[hd]
 cases x with
 |error e=>cases e <;> rfl
 |ok u=>rfl
def Ul(R:Nat)(t0 t1 t2 t3:Addr)(toks:List Tv)(at_:Nat)(v:Value)(w:World):Prop:=
 (v=ln t0/\∃k:Nat,lC (lst toks at_)=.error (k,70)/\w.cell? ⟨R,1,none⟩=some (.int .i64 ((toks.length-k:Nat):Int)))\/
 (v=ln t1/\∃(k:Nat)(cd:Int),lC (lst toks at_)=.error (k,cd)/\w.cell? ⟨R,5,none⟩=some (.int .i64 ((toks.length-k:Nat):Int))/\w.cell? ⟨R,6,none⟩=some (.int .i64 cd))\/
 (v=ln t2/\∃k:Nat,lC (lst toks at_)=.error (k,2)/\w.cell? ⟨R,7,none⟩=some (.int .i64 ((toks.length-k:Nat):Int)))\/
 (v=ln t3/\∃k:Nat,lC (lst toks at_)=.error (k,2)/\toks.length-k=at_)\/
 (v=.nilIface/\∃(l:List St)(q:List Tk)(g cap:Nat)(bv:Value),lC (lst toks at_)=.ok (l,q)/\iw l<=400/\w.cell? ⟨R,1,none⟩=some (.int .i64 ((toks.length-q.length:Nat):Int))/\w.cell? ⟨R,2,none⟩=some (.slice (some ⟨g,0,none⟩) 1 cap)/\w.cell? ⟨g,6,none⟩=some bv/\lk w Tt l bv)
theorem Zw{toks:List Tv}(hc:c.toks=toks)(hat:at_<=toks.length){v:Value}(h:Qr c (AM (lst toks at_)) O w t2 t3 v w')(hq:Nq (AM (lst toks at_))):Ul c.R c.t0 c.t1 t2 t3 toks at_ v w':=by
 obtain⟨O',⟨r2,x⟩,hz,hG,hc2⟩:=h;unfold Ul
 rcases hc2 with⟨k,hd,rfl,hr⟩|⟨hd,hr,hv⟩
 ·have hP:=xb hz hd;have h7:=hr.CZ.2.1;rw[<-hc];exact .inr (.inr (.inl ⟨rfl,k,by rw[hc];exact hP,h7⟩))
 ·have hP:=xd hz hd
  cases x with
  |error e=>
   cases e with
   |tok=>
    have h1:=hr.CZ.1;rw[hc]at h1;exact .inl ⟨hv,_,hP,h1⟩
   |exp=>
    have hf:=GH _ _ _ hz;have h1:=hr.CZ.2.2 hf;rw[hc]at h1;exact .inr (.inl ⟨hv,r2.fault.1,r2.fault.2,hP,h1⟩)
  |ok u=>
   simp only[GI]at hP;simp only[Nu]at hv
   by_cases hm:r2.many=true\/400<r2.gY.length
   ·rw[if_pos hm]at hP hv;exact .inr (.inr (.inr (.inl ⟨hv,(lst toks at_).length,hP,by rw[iM];omega⟩)))
   ·rw[if_neg hm]at hP hv;obtain⟨hi,ht⟩:=hq r2 hz;obtain⟨h,l,hh⟩:=hr.good.some
    have hl0:l=[]:=by
     unfold turn at ht
     split at ht
     ·cases ht
     ·split at ht
      ·cases ht
      ·next hn=>
       rw[hh]at hn
       cases l with
       |nil=>rfl
       |cons _ _=>simp at hn
    subst hl0;have htop:r2.hs.headD O4=h:=by rw[hh];rfl
    rw[htop]at hP;obtain⟨g,cap,bv,k1,k2,k3⟩:=hr.Ws hh;have h1:=hr.CZ.1;rw[hc]at h1
    have hcn:iw h.s.body<=400:=by
     unfold Inv vv at hi;rw[hh]at hi;simp only[bL,List.map_nil,fo,List.sum_nil]at hi;unfold cH at hi;have:¬400<r2.gY.length:=fun h=>hm (.inr h)
     omega
    exact .inr (.inr (.inr (.inr ⟨hv,_,_,g,cap,bv,hP,hcn,h1,k1,k2,k3⟩)))
end Go.Proofs.YtekanffohkeoeaaGreatDoor
