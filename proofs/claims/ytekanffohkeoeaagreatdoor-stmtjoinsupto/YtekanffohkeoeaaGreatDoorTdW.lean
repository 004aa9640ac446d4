import Derived.Test.YtekanffohkeoeaaGreatDoorWvW
import Derived.Test.YtekanffohkeoeaaGreatDoorFrame
namespace Go.Proofs.YtekanffohkeoeaaGreatDoor
open Go.RowKit
open List renaming cons_append → bM, length_map → aQ, nil_append → bQ, length_append → ao, map_append → bB
open Go.Proofs.Tryz renaming prog → ah
open Nat renaming le_refl → aj, zero_add → fg
open Bool renaming and_eq_true → aH
open Go.RowKit.Below renaming refl → aw
open Go.World renaming size_alloc → aB
open Go renaming heap_alloc_new → aE
open Go.Lib renaming cell_of_heap → af
set_option maxRecDepth 100000
set_option maxHeartbeats 12800000
theorem qau(a b:List St):iw (a++b)=iw a+iw b:=by
 induction a with
 |nil=>simp[iw]
 |cons x a ih=>rw[bM,iw,iw,ih];omega
theorem qaG(va vb:Value)(a b:List St)(w:World)(hv:Vs w)(ha:lk w Tt a va)(hca:iw a<=1048576)(hb:lk w Tt b vb)(hcb:iw b<=1048576):Calls ah 6 #[va,vb] w fun e w'=>e=.returned (.bool true)/\Below w.heap.size w w':=by
 have t1:=UL w hv;have CT:qes (∀l v W,Below w.heap.size w W->lk W Tt l v->iw l<=1048576->Calls ah 17 #[v] W fun e w'=>∃tv,e=.returned (.tuple #[tv,.int .i64 (if mL l then 0 else 70)])/\Below W.heap.size W w'/\(mL l=true->∃a cap,tv=.slice a (iV l).length cap/\ku w' tv ((iV l).map yP)/\JE ((iV l).map yP))/\(mL l=false->tv=.slice none 0 0)):=fun l v W hW h1 h2=>OK (hv.below hW) h1 h2
 have CS:qes (∀l tv W,Below w.heap.size w W->mL l=true->ku W tv ((iV l).map yP)->Calls ah 10 #[tv,.int .i64 0] W fun e w'=>∃bv,e=.returned (.tuple #[bv,.int .i64 ((iV l).length:Int),.agg #[.int .i64 0,.int .i64 0]])/\lk w' Tt l bv/\Below W.heap.size W w'):=fun l tv W hW h1 h2=>Hl h1 (hv.below hW) h2 (KD h1)
 have CC:qes (∀l v W,lk W Tt l v->iw l<=1048576->Calls ah 21 #[v] W fun e w'=>e=.returned (.int .i64 ((iw l:Nat):Int))/\Below W.heap.size W w'):=fun l v W h1 h2=>count_any l v W h1 (by omega)
 obtain⟨aa,na,pa,rfl⟩:=ha.shape;obtain⟨ab,nb,pb,rfl⟩:=hb.shape;have HA:=qet ha;have Oe:=qet hb;clear hv ha hb;go_enter Tryz.func6,Tryz.ntmps6;go_wp2_with fail;refine t1.mono ?_;clear t1;rintro e w1 ⟨rfl,hb1⟩;have t2:=CT.o a _ w1 hb1 (HA.o.on (On.below hb1)) hca;have HB1:=qet hb1;clear hb1;go_wp2_with fail;refine t2.mono ?_;clear t2;rintro e w2 ⟨ma,rfl,hb2,hya,hna⟩
 obtain⟨xa,ya,za,hma⟩:∃x y z,ma=.slice x y z:=by
  cases hoa:mL a with
  |true=>obtain⟨p,q,e,_⟩:=hya hoa;exact⟨_,_,_,e⟩
  |false=>exact⟨_,_,_,hna hoa⟩
 subst hma;obtain⟨ca,qai⟩:∃ca:Int,ca=(if mL a=true then 0 else 70):=⟨_,rfl⟩
 rw[<-qai];have qaD:=qet qai;have HYA:=qet hya;have Nf:=qet hna;clear qai hya hna;have HB2:=qet (HB1.o.trans (hb2.mono HB1.o.size));have t3:=CT.o b _ w2 HB2.o (Oe.o.on (On.below HB2.o)) hcb;clear hb2 HB1;go_wp2_with fail;refine t3.mono ?_;clear t3;rintro e w3 ⟨mb,rfl,hb3,hyb,hnb⟩;have HB3:=qet (HB2.o.trans (hb3.mono HB2.o.size));have qaN:=qet hb3;clear hb3
 cases hoa:mL a with
 |false=>
  have qai:=qaD.o;rw[hoa]at qai;obtain rfl:ca=70:=qai
  obtain⟨xb,yb,zb,hmb⟩:∃x y z,mb=.slice x y z:=by
   cases hob:mL b with
   |true=>obtain⟨p,q,e,_⟩:=hyb hob;exact⟨_,_,_,e⟩
   |false=>exact⟨_,_,_,hnb hob⟩
  obtain⟨cb,hcb2⟩:∃cb:Int,cb=(if mL b=true then 0 else 70):=⟨_,rfl⟩
  rw[<-hcb2];subst hmb;clear HYA Nf hyb hnb hoa CT CS CC hcb2 qaD;go_wp2;go_ret;exact⟨rfl,HB3.o⟩
 |true=>
  have qai:=qaD.o;rw[hoa]at qai;obtain rfl:ca=0:=qai;obtain⟨am,pm,hme,hLa,_⟩:=HYA.o hoa;obtain⟨rfl,rfl,rfl⟩:xa=am/\ya=(iV a).length/\za=pm:=by injection hme with h1 h2 h3;exact⟨h1,h2,h3⟩
  cases hob:mL b with
  |false=>
   obtain rfl:=hnb hob;clear HYA Nf hyb hnb CT CS CC hLa qaD;go_wp2;go_ret;exact⟨rfl,HB3.o⟩
  |true=>
   obtain⟨bm,qm,rfl,hLb,_⟩:=hyb hob;have t4:=CC.o a _ w3 (HA.o.on (On.below HB3.o)) hca;have HOA:=qet hoa;have HOB:=qet hob;have hfa:=(pK hoa).1;have hfb:=(pK hob).1;have HLA:qes (ku w3 (.slice xa (iV a).length za) ((iV a).map yP)):=hLa.below qaN.o (aj _);have HLB:=qet hLb;have qaO:iw a<=400:=by unfold mL at hoa;rw[aH,decide_eq_true_eq]at hoa;exact hoa.1
   have qaP:iw b<=400:=by unfold mL at hob;rw[aH,decide_eq_true_eq]at hob;exact hob.1
   clear HYA Nf hyb hnb hoa hob CT hLa hLb HB2 qaN hme qaD;obtain⟨la,hla⟩:∃la,la=(iV a).length:=⟨_,rfl⟩
   obtain⟨lb,hlb⟩:∃lb,lb=(iV b).length:=⟨_,rfl⟩
   obtain⟨ka,hka⟩:∃ka,ka=iw a:=⟨_,rfl⟩
   obtain⟨kb,hkb⟩:∃kb,kb=iw b:=⟨_,rfl⟩
   rw[<-hla]at hfa HLA ⊢;rw[<-hlb]at hfb HLB ⊢;rw[<-hka]at t4 qaO;rw[<-hkb]at qaP;have qaH:=qet hla;have qaI:=qet hlb;have xR:=qet hka;have HKB:=qet hkb;clear hla hlb hka hkb;go_wp2_with fail;refine t4.mono ?_;clear t4;rintro e w4 ⟨rfl,hb4⟩;have HB4:=qet (HB3.o.trans (hb4.mono HB3.o.size));have t5:=CC.o b _ w4 (Oe.o.on (On.below HB4.o)) hcb;rw[<-HKB.o]at t5;have qaQ:=qet (HLA.o.below hb4 (aj _));have qaR:=qet (HLB.o.below hb4 (aj _));clear hb4 HLA HLB HB3;go_wp2_with fail;refine t5.mono ?_;clear t5;rintro e w5 ⟨rfl,hb5⟩;have FK:=qet (HB4.o.trans (hb5.mono HB4.o.size));have qaS:=qet (qaQ.o.below hb5 (aj _));have qaJ:=qet (qaR.o.below hb5 (aj _));clear hb5 qaQ qaR HB4;have j0:(0:Int)<=(ka:Int):=by omega
   have j1:(0:Int)<=(kb:Int):=by omega
   have j2:(ka:Int)<=400:=by omega
   have j3:(kb:Int)<=400:=by omega
   by_cases h4:400<ka+kb
   ·have i1:(400:Int)<(ka:Int)+(kb:Int):=by omega
    clear CS CC;go_wp2;go_ret;exact⟨rfl,FK.o⟩
   ·have i1:¬ (400:Int)<(ka:Int)+(kb:Int):=by omega
    have HAB:qes (mL (a++b)=true):=qay HOA.o HOB.o (by rw[<-xR.o,<-HKB.o];omega);have B6:=qet (FK.o.alloc FK.o.size (.cells #[] 54));have O6:=qet (qak w5 54 5);have qaT:qes (ku (w5.alloc (.cells #[] 54)) (.slice xa la za) ((iV a).map yP)):=qaS.o.below ((aw _ _).alloc (aj _) _) (aj _);have qa8:qes (ku (w5.alloc (.cells #[] 54)) (.slice bm lb qm) ((iV b).map yP)):=qaJ.o.below ((aw _ _).alloc (aj _) _) (aj _);have B56:qes (Below w5.heap.size w5 (w5.alloc (.cells #[] 54))):=(aw _ _).alloc (aj _) _;have hlA:((iV a).map yP).length=la:=by rw[aQ,qaH.o]
    have hlB:((iV b).map yP).length=lb:=by rw[aQ,qaI.o]
    have z5:(w5.alloc (.cells #[] 54)).heap.size=w5.heap.size+1:=aB _ _;clear qaS
    go_wp2_with(at_builtin;go_must (first
     |(refine pf (by rfl) _ _ (by rfl) w5.heap.size 0 (.slice (some ⟨w5.heap.size,0,none⟩) 0 0) [] (by rfl) O6.o (.slice xa la za) ((iV a).map yP) (by rfl) qaT.o (by omega) (by omega) ?_;intro v6 w6 hown6 hgrow6;have O7:=qet hown6;have B7:=qet (B56.o.grown hgrow6 B56.o.size (fun r hr=>by have:=(O6.o.lt r hr).1;omega));have qaU:qes (ku w6 (.slice bm lb qm) ((iV b).map yP)):=(qaJ.o.below B7.o (aj _));have z6:=hgrow6.size;clear hown6 hgrow6)
     |(refine pf (by rfl) _ _ (by rfl) w5.heap.size (0+((iV a).map yP).length) v6 ([]++kJ ((iV a).map yP)) (by rfl) O7.o (.slice bm lb qm) ((iV b).map yP) (by rfl) qaU.o (by omega) (by omega) ?_;intro v7 w7 D6 yM;have O8:=qet D6;have B8:=qet (B7.o.grown yM B7.o.size (fun r hr=>by have:=(O7.o.lt r hr).1;omega));have z7:=yM.size;clear D6 yM)))
    have XE:=qet (FK.o.trans (B8.o.mono FK.o.size))
    have hL7:ku w7 v7 ((iV (a++b)).map yP):=by
     refine ku.oF (base:=w5.heap.size) ?_;have h:=O8.o;rw[fg,bQ,<-qaC,<-ao,<-bB,<-qav]at h;exact h
    have YI:((iV (a++b)).length:Int)=(la:Int)+(lb:Int):=by rw[qav,ao,qaH.o,qaI.o];omega
    have t7:=CS.o (a++b) v7 w7 XE.o HAB.o hL7;rw[YI]at t7;clear hL7 YI O6 O7 O8 qaT qa8 qaU B56 B7 B8 CS qaJ;refine t7.mono ?_;clear t7;rintro e w8 ⟨uv,rfl,hsu,hb8⟩;have HB8:=qet (XE.o.trans (hb8.mono XE.o.size));obtain⟨au,nu,pu,rfl⟩:=hsu.shape;have HSU:=qet hsu;clear hb8 hsu XE;obtain⟨Ya,hsa,hra⟩:=HA.o;obtain⟨csb,hsb,hrb⟩:=Oe.o;have hna:na=a.length:=by obtain⟨_,_,_,_,e,_⟩:=hsa;injection e
    have hnb:nb=b.length:=by obtain⟨_,_,_,_,e,_⟩:=hsb;injection e
    have qba:a.length<=1000000000:=by obtain⟨_,_,_,_,_,e,_⟩:=hsa;exact e
    have qbb:b.length<=1000000000:=by obtain⟨_,_,_,_,_,e,_⟩:=hsb;exact e
    have W9:Below w.heap.size w ((w8.alloc (.cells #[.int .i64 0,.int .i64 0] 27)).alloc (.cells #[] 48)):=by
     have h1:=HB8.o.alloc HB8.o.size (.cells #[.int .i64 0,.int .i64 0] 27);exact h1.alloc h1.size _
    have V9:Below (w8.alloc (.cells #[.int .i64 0,.int .i64 0] 27)).heap.size (w8.alloc (.cells #[.int .i64 0,.int .i64 0] 27)) ((w8.alloc (.cells #[.int .i64 0,.int .i64 0] 27)).alloc (.cells #[] 48)):=(aw _ _).alloc (aj _) _;have o9:=qak (w8.alloc (.cells #[.int .i64 0,.int .i64 0] 27)) 48 10;rw[aB]at o9;have O9:=qet o9;clear o9;have HSA:=qet (hsa.on (by omega) (On.below W9));have HSB:=qet hsb;have HRA:=qet hra;have HRB:=qet hrb;have HW9:=qet W9;have HV9:=qet V9;have z8:(w8.alloc (.cells #[.int .i64 0,.int .i64 0] 27)).heap.size=w8.heap.size+1:=aB _ _;have HF8:qes ((w8.alloc (.cells #[.int .i64 0,.int .i64 0] 27)).heap[w8.heap.size]? =some (.cells #[.int .i64 0,.int .i64 0] 27)):=aE w8 _;have y0:(0:Int)<=(la:Int):=by omega
    have y1:(0:Int)<=(lb:Int):=by omega
    have y2:(la:Int)<=8000000:=by omega
    have y3:(lb:Int)<=8000000:=by omega
    have HA9:qes (lk w Tt a (.slice aa a.length pa)):=by show lk _ _ _ _;rw[<-hna];exact HA.o
    have SR:qes (lk w Tt b (.slice ab b.length pb)):=by show lk _ _ _ _;rw[<-hnb];exact Oe.o
    clear hsa hsb hra hrb W9 V9 z5 z6 z7 hlA hlB;rw[hna,hnb]at *;clear hna hnb
    go_wp2_with(at_builtin;go_must (first
     |(refine mv (by rfl) _ _ (by rfl) (w8.heap.size+1) 0 (.slice (some ⟨w8.heap.size+1,0,none⟩) 0 0) [] (by rfl) O9.o (.slice aa a.length pa) a.length Ya (by rfl) HSA.o (qah HRA.o) (by omega) (by simp) ?_;intro v10 w10 qaE qag;have O10:=qet qaE;have B10:=qet (HV9.o.grown qag HV9.o.size (fun r hr=>by have:=(O9.o.lt r hr).1;omega));have C10:=qet (HW9.o.grown qag HW9.o.size (fun r hr=>by have:=(O9.o.lt r hr).1;have:=HB8.o.size;omega));have qaV:=qet (HSB.o.on (by omega) (On.below C10.o));have z10:=qag.size;clear qaE qag)
     |(refine mv (by rfl) _ _ (by rfl) (w8.heap.size+1) (0+a.length) v10 ([]++Ya) (by rfl) O10.o (.slice ab b.length pb) b.length csb (by rfl) qaV.o (qah HRB.o) (by omega) (by simp at z10 ⊢;omega) ?_;intro v11 KI qaF qaj;have O11:=qet qaF;have B11:=qet (B10.o.grown qaj B10.o.size (fun r hr=>by have:=(O10.o.lt r hr).1;omega));have C11:=qet (C10.o.grown qaj C10.o.size (fun r hr=>by have:=(O10.o.lt r hr).1;have:=HB8.o.size;omega));have h8:=(B11.o.block w8.heap.size (by rw[aB];omega)).trans HF8.o;have k80:KI.cell? ⟨w8.heap.size,0,none⟩=some (.int .i64 0):=(by rw[af h8];rfl);have k81:KI.cell? ⟨w8.heap.size,1,none⟩=some (.int .i64 0):=(by rw[af h8];rfl);clear qaF qaj h8)))
    have qaW:(a++b).length<=1000000000:=by obtain⟨_,hs,_⟩:=HSU.o;obtain⟨_,_,_,_,_,e,_⟩:=hs;exact e
    have hboth:lk KI Tt (a++b) v11:=⟨Ya++csb,by
      have h:=l6 O11.o (by rw[ao]at qaW;omega) Tt (fun _ _=>trivial)
      simpa[fg,ao]using h,rh _ _ _ _ _ _ (HRA.o.on (On.below C11.o)) (HRB.o.on (On.below C11.o))⟩
    have D11:Below w8.heap.size w8 KI:=((aw w8.heap.size w8).alloc (aj _) _).trans (B11.o.mono (by rw[aB];omega));have t9:=qB (HSU.o.on (On.below D11)) hboth;have VK:=qet hboth;have qaX:=qet C11.o;clear hboth D11;refine t9.mono ?_;clear t9;rintro e w12 ⟨rfl,qaK⟩;have t10:=CC.o (a++b) v11 w12 (VK.o.on (On.below qaK)) (by have:=xR.o;have:=HKB.o;rw[qau];omega);have qaY:=qet (qaX.o.trans (qaK.mono qaX.o.size));clear qaK VK;go_wp2_with fail;refine t10.mono ?_;clear t10;rintro e Ra ⟨rfl,qaZ⟩;have qaL:=qet (qaY.o.trans (qaZ.mono qaY.o.size));have t11:=CC.o a _ Ra (HA9.o.on (On.below qaL.o)) hca;clear qaZ;go_wp2_with fail;refine t11.mono ?_;clear t11;rintro e Yh ⟨rfl,qa0⟩;have qaM:=qet (qaL.o.trans (qa0.mono qaL.o.size));have t12:=CC.o b _ Yh (SR.o.on (On.below qaM.o)) hcb;clear qa0;go_wp2_with fail;refine t12.mono ?_;clear t12;rintro e w15 ⟨rfl,qa1⟩;have qbe:=qet (qaM.o.trans (qa1.mono qaM.o.size));have ec:((iw (a++b):Nat):Int)=(iw a:Int)+(iw b:Int):=by rw[qau];omega
    have c0:(0:Int)<=(iw a:Int):=by omega
    have c1:(0:Int)<=(iw b:Int):=by omega
    have c2:(iw a:Int)<=1048576:=by omega
    have c3:(iw b:Int)<=1048576:=by omega
    rw[ec];clear qa1 CC xR HKB qaH qaI HAB HOA HOB hca hcb ec;go_wp2;go_ret;exact⟨rfl,qbe.o⟩

theorem qax(v:Value)(l:List St)(u:Value)(k:List St){w:World}(hs:lk w Tt l v)(hc:iw l<=1048576)(ht:lk w Tt k u)(hd:iw k<=1048576)(w':World)(hv:Vs w')(e:w'=w:=by rfl):Calls ah 6 #[v,u] w' fun e w2=>e=.returned (.bool true)/\Below w'.heap.size w' w2:=by
 subst e;exact qaG v u l k w' hv hs hc ht hd
end Go.Proofs.YtekanffohkeoeaaGreatDoor
