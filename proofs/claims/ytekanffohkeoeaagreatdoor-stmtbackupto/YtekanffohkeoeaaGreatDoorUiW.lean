import Derived.Test.YtekanffohkeoeaaGreatDoorLxW
import Derived.Test.YtekanffohkeoeaaGreatDoorWvW
import Derived.Test.YtekanffohkeoeaaGreatDoorFrame
namespace Go.Proofs.YtekanffohkeoeaaGreatDoor
open Go.RowKit
open Go.Proofs.Tryz renaming prog → ah
open List renaming length_map → aQ, mem_map → fB
open Nat renaming le_refl → aj
open Go.RowKit.Below renaming refl → aw
set_option maxRecDepth 100000
set_option maxHeartbeats 12800000
theorem Sv(a c:Int)(hc:c≠0)(W:World):(binOp .neq 27 (.agg #[.int .i64 a,.int .i64 c]) (.agg #[.int .i64 0,.int .i64 0])).run ah W=.ok (.bool true) W:=by
 by_cases h:a=0
 ·subst h;simp[go_sem,hc]
 ·simp[go_sem,h]
theorem BK{l:List Tk}{k:Nat}{c:Int}(h:lC l=.error (k,c)):c≠0:=by
 cases hr:oV (l.length+1) (AM l)with
 |mk r x=>
  cases hd:mZ r.gY []with
  |some q=>rw[xb hr hd]at h;injection h with h;injection h with _ h;rw[<-h];decide
  |none=>
   rw[xd hr hd]at h
   cases x with
   |error e=>
    cases e with
    |tok=>injection h with h;injection h with _ h;rw[<-h];decide
    |exp=>
     injection h with h
     have:=GH _ _ _ hr;rw[h]at this;exact this
   |ok u=>
    simp only[GI]at h
    split at h
    ·injection h with h;injection h with _ h;rw[<-h];decide
    ·cases h
variable {l:List St}
theorem KD(h:mL l=true):JE ((iV l).map yP):=by
 have hf:=pK h;refine G2 (by rw[aQ];have:=hf.1;omega) (fun x hx=>?_);obtain⟨t,ht,rfl⟩:=fB.1 hx;obtain⟨h1,h2,h3⟩:=hf.2 t ht;have e:(⟨t.s.toArray⟩:ByteArray).size=t.s.length:=by simp[ByteArray.size]
 exact⟨by show(⟨t.s.toArray⟩:ByteArray).size<=_;omega,by show _<=t.n;omega,by show t.n<=_;omega⟩
theorem KE(l:List Tk):lst (l.map yP) 0=l:=by
 unfold lst;rw[List.drop_zero,List.map_map]
 conv=>rhs;rw[<-List.map_id l]
 refine List.map_congr_left fun x _=>?_
 obtain⟨a,b,c,d⟩:=x;simp[yP,kU]
theorem OK{v:Value}{W:World}(hv:Vs W)(hs:lk W Tt l v)(hc:iw l<=1048576):Calls ah 17 #[v] W fun e w'=>∃tv,e=.returned (.tuple #[tv,.int .i64 (if mL l then 0 else 70)])/\Below W.heap.size W w'/\(mL l=true->∃a cap,tv=.slice a (iV l).length cap/\ku w' tv ((iV l).map yP)/\JE ((iV l).map yP))/\(mL l=false->tv=.slice none 0 0):=by
 refine(FE l v W hs (by omega) hv.tG hv.nm (fun h=>by have:=(pK h).1;omega)).mono ?_;rintro e w' ⟨tv,rfl,h1,h2,h3⟩;refine⟨tv,rfl,h1,fun hok=>?_,h3⟩;have ho:=h2 hok;obtain⟨a,cap,hvv,_⟩:=ll ho;exact⟨a,cap,hvv,ku.oF (by rw[aQ];exact ho),KD hok⟩
theorem Hl(hok:mL l=true){tv:Value}{W:World}(hv:Vs W)(hL:ku W tv ((iV l).map yP))(htk:JE ((iV l).map yP)):Calls ah 10 #[tv,.int .i64 0] W fun e w'=>∃bv,e=.returned (.tuple #[bv,.int .i64 ((iV l).length:Int),.agg #[.int .i64 0,.int .i64 0]])/\lk w' Tt l bv/\Below W.heap.size W w':=by
 obtain⟨t0,t1,t2,t3,hs⟩:=hv.X6;refine(uq hL htk (Nat.zero_le _) hv.tG hs).mono ?_;rintro e w' ⟨v,rfl,h1,h2⟩;rw[KE,Ch hok]at h2;obtain⟨bv,rfl,_,h3⟩:=h2;exact⟨bv,by rw[aQ];rfl,h3,h1⟩
theorem XC(v:Value)(l:List St)(tv:Value)(toks:List Tv)(w:World)(hv:Vs w)(hs:lk w Tt l v)(hc:iw l<=1048576)(hL:ku w tv toks)(htk:JE toks):Calls ah 5 #[v,tv] w fun e w'=>e=.returned (.bool true)/\Below w.heap.size w w':=by
 have t1:=UL w hv;have CT:qes (∀l v W,Below w.heap.size w W->lk W Tt l v->iw l<=1048576->Calls ah 17 #[v] W fun e w'=>∃tv,e=.returned (.tuple #[tv,.int .i64 (if mL l then 0 else 70)])/\Below W.heap.size W w'/\(mL l=true->∃a cap,tv=.slice a (iV l).length cap/\ku w' tv ((iV l).map yP)/\JE ((iV l).map yP))/\(mL l=false->tv=.slice none 0 0)):=fun l v W hW h1 h2=>OK (hv.below hW) h1 h2
 have CS:qes (∀l tv W,Below w.heap.size w W->mL l=true->ku W tv ((iV l).map yP)->JE ((iV l).map yP)->Calls ah 10 #[tv,.int .i64 0] W fun e w'=>∃bv,e=.returned (.tuple #[bv,.int .i64 ((iV l).length:Int),.agg #[.int .i64 0,.int .i64 0]])/\lk w' Tt l bv/\Below W.heap.size W w'):=fun l tv W hW h1 h2 h3=>Hl h1 (hv.below hW) h2 h3
 have CP:qes (∀W,Below w.heap.size w W->Calls ah 10 #[tv,.int .i64 0] W fun e w'=>∃rv,e=.returned rv/\sS toks 0 W rv w'):=fun W hW=>by
  obtain⟨t0,t1,t2,t3,hs⟩:=(hv.below hW).X6;exact uq (hL.below hW (aj _)) htk (Nat.zero_le _) (hv.below hW).tG hs
 obtain⟨a0,n0,p0,rfl⟩:=hs.shape;obtain⟨a1,b1,o1,p1,rfl,_,_⟩:=hL;have HS:=qet hs;clear hv hs htk;unfold sS at CP;go_enter Tryz.func5,Tryz.ntmps5;go_wp2_with fail;refine t1.mono ?_;clear t1;rintro e w1 ⟨rfl,hb1⟩;have t2:=CT.o l _ w1 hb1 (HS.o.on (On.below hb1)) hc;have HB1:=qet hb1;clear hb1;go_wp2_with fail;refine t2.mono ?_;clear t2;rintro e w2 ⟨mv,rfl,hb2,hy,hn⟩;have HB2:=qet (HB1.o.trans (hb2.mono HB1.o.size));clear hb2 HB1
 cases hok:mL l with
 |false=>
  obtain rfl:=hn hok;clear hy hn hok;have t4:=CP.o _ HB2.o;go_wp2_with fail;refine t4.mono ?_;clear t4;rintro e w4 ⟨rv,rfl,hb4,hq⟩;have HB4:=qet (HB2.o.trans (hb4.mono HB2.o.size));have HR:=qet hq;clear hq hb4
  cases hp:lC (lst toks 0)with
  |error z=>
   obtain⟨k,cd⟩:=z;have hq:=HR.o;rw[hp]at hq;simp only at hq;have hne:=Sv ((toks.length-k:Nat):Int) cd (BK hp);subst hq;clear HR hp CP CT CS;generalize((toks.length-k:Nat):Int)=kk at *;go_wp2;go_ret;exact⟨rfl,HB4.o.alloc HB4.o.size _⟩
  |ok z=>
   obtain⟨l2,q⟩:=z;have hq:=HR.o;rw[hp]at hq;simp only at hq;obtain⟨bv,rfl,hcn,hsl⟩:=hq;obtain⟨ab,nb,pb,rfl⟩:=hsl.shape;have B5:=HB4.o.alloc HB4.o.size (.cells #[.int .i64 0,.int .i64 0] 27);have Iz:Below w4.heap.size w4 (w4.alloc (.cells #[.int .i64 0,.int .i64 0] 27)):=(aw _ _).alloc (aj _) _;have t5:=CT.o l2 (.slice ab nb pb) _ B5 (hsl.on (On.below Iz)) (by omega);have HSL:=qet hsl;have FK:=qet B5;have XD:=qet Iz;clear HR hp CP hsl Iz B5;generalize((toks.length-q.length:Nat):Int)=kk at *;go_wp2_with fail;refine t5.mono ?_;clear t5;rintro e w6 ⟨mv,rfl,hb6,hy,hn⟩;have Rx:=qet (FK.o.trans (hb6.mono FK.o.size));have OL:=qet (XD.o.trans (hb6.mono XD.o.size))
   cases hok:mL l2 with
   |false=>
    obtain rfl:=hn hok;clear hy hn hok CS CT hb6;go_wp2;go_ret;exact⟨rfl,Rx.o⟩
   |true=>
    obtain⟨am,pm,rfl,hL,htk⟩:=hy hok;have t7:=CS.o l2 _ w6 Rx.o hok hL htk;have hnm:(iV l2).length<=8000000:=(pK hok).1;clear hy hn hok CT hb6 hL htk;generalize(iV l2).length=nm at *;go_wp2_with fail;refine t7.mono ?_;clear t7;rintro e w7 ⟨uv,rfl,hsu,hb7⟩;obtain⟨au,nu,pu,rfl⟩:=hsu.shape;have UZ:=qet hb7;have XE:=qet (Rx.o.trans (hb7.mono Rx.o.size));have hbB:Below w7.heap.size w7 (w7.alloc (.cells #[.int .i64 0,.int .i64 0] 27)):=(aw _ _).alloc (aj _) _;have Hm:Below w4.heap.size w4 w7:=OL.o.trans (hb7.mono OL.o.size);have t8:=qB (HSL.o.on (On.below (Hm.trans (hbB.mono Hm.size)))) (hsu.on (On.below hbB));have Oe:=qet (XE.o.trans (hbB.mono XE.o.size));clear hsu hb7 hbB Hm UZ HSL;go_wp2_with fail;refine t8.mono ?_;clear t8;rintro e w9 ⟨rfl,Ak⟩;have SR:=qet (Oe.o.trans (Ak.mono Oe.o.size));clear Ak;go_wp2;go_ret;exact⟨rfl,SR.o⟩
 |true=>
  obtain⟨am,pm,rfl,hLm,htm⟩:=hy hok;have t3:=CS.o l _ w2 HB2.o hok hLm htm;have hnm:(iV l).length<=8000000:=(pK hok).1;clear hy hn hok hLm htm;generalize(iV l).length=nm at *;go_wp2_with fail;refine t3.mono ?_;clear t3;rintro e w3 ⟨uv,rfl,hsu,hb3⟩;obtain⟨au,nu,pu,rfl⟩:=hsu.shape;have U0:=HB2.o.trans (hb3.mono HB2.o.size);have Iz:Below w3.heap.size w3 (w3.alloc (.cells #[.int .i64 0,.int .i64 0] 27)):=(aw _ _).alloc (aj _) _;have OM:=U0.trans (Iz.mono U0.size);have t3:=qB (HS.o.on (On.below OM)) (hsu.on (On.below Iz));have HB3:=qet OM;clear hsu hb3 U0 Iz OM HB2;go_wp2_with fail;refine t3.mono ?_;clear t3;rintro e w33 ⟨rfl,XF⟩;have U1:=qet (HB3.o.trans (XF.mono HB3.o.size));clear XF HB3;have t4:=CP.o _ U1.o;go_wp2_with fail;refine t4.mono ?_;clear t4;rintro e w4 ⟨rv,rfl,hb4,hq⟩;have HB4:=qet (U1.o.trans (hb4.mono U1.o.size));have HR:=qet hq;clear hq hb4
  cases hp:lC (lst toks 0)with
  |error z=>
   obtain⟨k,cd⟩:=z;have hq:=HR.o;rw[hp]at hq;simp only at hq;have hne:=Sv ((toks.length-k:Nat):Int) cd (BK hp);subst hq;clear HR hp CP CT CS;generalize((toks.length-k:Nat):Int)=kk at *;go_wp2;go_ret;exact⟨rfl,HB4.o.alloc HB4.o.size _⟩
  |ok z=>
   obtain⟨l2,q⟩:=z;have hq:=HR.o;rw[hp]at hq;simp only at hq;obtain⟨bv,rfl,hcn,hsl⟩:=hq;obtain⟨ab,nb,pb,rfl⟩:=hsl.shape;have B5:=HB4.o.alloc HB4.o.size (.cells #[.int .i64 0,.int .i64 0] 27);have Iz:Below w4.heap.size w4 (w4.alloc (.cells #[.int .i64 0,.int .i64 0] 27)):=(aw _ _).alloc (aj _) _;have t5:=CT.o l2 (.slice ab nb pb) _ B5 (hsl.on (On.below Iz)) (by omega);have HSL:=qet hsl;have FK:=qet B5;have XD:=qet Iz;clear HR hp CP hsl Iz B5;generalize((toks.length-q.length:Nat):Int)=kk at *;go_wp2_with fail;refine t5.mono ?_;clear t5;rintro e w6 ⟨mv,rfl,hb6,hy,hn⟩;have Rx:=qet (FK.o.trans (hb6.mono FK.o.size));have OL:=qet (XD.o.trans (hb6.mono XD.o.size))
   cases hok:mL l2 with
   |false=>
    obtain rfl:=hn hok;clear hy hn hok CS CT hb6;go_wp2;go_ret;exact⟨rfl,Rx.o⟩
   |true=>
    obtain⟨am,pm,rfl,hL,htk⟩:=hy hok;have t7:=CS.o l2 _ w6 Rx.o hok hL htk;have hnm:(iV l2).length<=8000000:=(pK hok).1;clear hy hn hok CT hb6 hL htk;generalize(iV l2).length=nm at *;go_wp2_with fail;refine t7.mono ?_;clear t7;rintro e w7 ⟨uv,rfl,hsu,hb7⟩;obtain⟨au,nu,pu,rfl⟩:=hsu.shape;have UZ:=qet hb7;have XE:=qet (Rx.o.trans (hb7.mono Rx.o.size));have hbB:Below w7.heap.size w7 (w7.alloc (.cells #[.int .i64 0,.int .i64 0] 27)):=(aw _ _).alloc (aj _) _;have Hm:Below w4.heap.size w4 w7:=OL.o.trans (hb7.mono OL.o.size);have t8:=qB (HSL.o.on (On.below (Hm.trans (hbB.mono Hm.size)))) (hsu.on (On.below hbB));have Oe:=qet (XE.o.trans (hbB.mono XE.o.size));clear hsu hb7 hbB Hm UZ HSL;go_wp2_with fail;refine t8.mono ?_;clear t8;rintro e w9 ⟨rfl,Ak⟩;have SR:=qet (Oe.o.trans (Ak.mono Oe.o.size));clear Ak;go_wp2;go_ret;exact⟨rfl,SR.o⟩
theorem qaB{l:List Tv}(hn:l.length<=1048576)(h:ZB l):JE l:=G2 (by omega) (fun x hx=>by
 obtain⟨h1,h2⟩:=h.2 x hx
 exact⟨by omega,h2⟩)
theorem XG(v:Value)(l:List St)(tv:Value)(toks:List Tv){w:World}(hs:lk w Tt l v)(hc:iw l<=1048576)(hL:ku w tv toks)(htk:JE toks)(w':World)(hv:Vs w')(e:w'=w:=by rfl):Calls ah 5 #[v,tv] w' fun e w2=>e=.returned (.bool true)/\Below w'.heap.size w' w2:=by
 subst e;exact XC v l tv toks w' hv hs hc hL htk
end Go.Proofs.YtekanffohkeoeaaGreatDoor
