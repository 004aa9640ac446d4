import Derived.Test.YtekanffohkeoeaaGreatDoorBkP
import Derived.Test.YtekanffohkeoeaaGreatDoorTkW
namespace Go.Proofs.YtekanffohkeoeaaGreatDoor
open Go.RowKit
open Go.Proofs.Tryz renaming prog → ah
open Go.Lib renaming cell_of_heap → af
open Go.RowKit.Below renaming refl → aw
open Bool renaming true_and → fu, false_and → fj, and_eq_true → aH, or_false → eo, false_eq_true → eX, eq_iff_iff → bh
open List renaming mem_cons → aI, not_mem_nil → bG, append_nil → bm, nil_append → bQ, cons_append → bM, length → fp, length_append → ao, length_map → aQ, tail_cons → fI, mem_singleton → aL, map_append → bB, map_cons → bL, append_assoc → aO, all_cons → cN, length_cons → aG, length_nil → eY, mem_cons_self → aT, mem_cons_of_mem → aK, eq_nil_of_length_eq_zero → cu, mem_append → aN, nodup_append → aR, nodup_cons → bV, drop_eq_getElem_cons → eW
open Except renaming ok → fR
open Nat renaming le_refl → aj, le_trans → aP, lt_of_lt_of_le → aJ, zero_add → fg
open Int renaming toNat_natCast → cP
open Classical renaming byContradiction → di
open Option.some renaming inj → an
open Prod renaming fst → fP
open Option renaming map_some → cm
open Prod.mk renaming inj → cv
open Go renaming heap_alloc_new → aE
set_option maxRecDepth 100000
set_option maxHeartbeats 3200000
variable {n:Nat}{cap:Nat}{w:World}{fa:Int}{fc:Int}{sv:Value}{at_:Nat}{toks:List Tv}{B:Nat}
theorem lr{R:Nat}{tv:Value}{mn:Bool}{dp:Int}{g:Nat}(h:RB B R tv toks at_ (.slice (some ⟨g,0,none⟩) (n+1) cap) sv mn fa fc dp w)(hn:n+1<=3000000000000):Calls ah 108 #[.pointer (some ⟨R,0,none⟩)] w fun e w'=>e=.returned (.pointer (some ⟨g,n*14,none⟩))/\Below w.heap.size w w':=by
 have hr:=h.row;unfold mb at hr;have a2:w.cell? ⟨R,2,none⟩=some (.slice (some ⟨g,0,none⟩) (n+1) cap):=by rw[af hr];rfl
 clear h hr;have i0:(0:Int)<=(n:Int):=by omega
 have i1:(n:Int)<((n+1:Nat):Int):=by omega
 go_enter Tryz.func108,Tryz.ntmps108;go_wp2
 go_quiet (fail)
 go_wp2;go_ret;exact⟨rfl,kr (aw _ _) _⟩
def qq(x:Tv):Bool:=decide (x.k=1)&&(decide ((kU x).s∈[sr,jj,iT,j7,jE,kQ,js])||nameB (kU x).s)
variable {hv:Value}
theorem Gk{R:Nat}{tv:Value}{mn:Bool}{dp:Int}(h:RB B R tv toks at_ hv sv mn fa fc dp w)(hl:toks.length<=3000000000000)(hkw:TabAt w 5 su):Calls ah 55 #[.pointer (some ⟨R,0,none⟩)] w fun e w'=>e=.returned (.bool (qq (gQ toks at_)))/\Below w.heap.size w w':=by
 have t1:=nk h (by omega)
 have CN:qes (∀W,Below w.heap.size w W->Calls ah 86 #[.string (gQ toks at_).s] W fun e w'=>e=.returned (.bool (nameB (kU (gQ toks at_)).s))/\w'=W):=fun W hW=>by
  have:=oP (kU (gQ toks at_)).s W (hkw.mF (gR.of_below (O:=[]) hW) (by simp))
  simpa[kU]using this
 clear h hl hkw;generalize gQ toks at_=x at *;obtain⟨xk,xs,xn,xt,xa⟩:=x;unfold oG at t1;simp only[kU]at t1 CN;go_enter Tryz.func55,Tryz.ntmps55;go_wp2_with fail;refine t1.mono ?_;rintro e w1 ⟨rfl,hb1⟩;have HB:=qet (hb1.alloc hb1.size (.cells #[.int .i64 xk,.string xs,.int .i64 xn,.int .i64 xt,.int .i64 xa] 54));clear t1 hb1
 by_cases hk:xk=1
 ·subst hk;have Ml:=kj xs ⟨#[73,70]⟩;rw[show(⟨#[73,70]⟩:ByteArray).toList=[73,70]from by first|rfl|decide|kernel_rfl]at Ml
  by_cases h0:xs=⟨#[73,70]⟩
  ·have HE:qes (qq ⟨1,xs,xn,xt,xa⟩=true):=by show _=_;rw[h0];simp[qq,kU]
   rw[decide_eq_true h0]at Ml;clear h0;go_wp2;go_ret;exact⟨hZ HE.o.symm,HB.o⟩
  rw[decide_eq_false h0]at Ml;have OO:=kj xs ⟨#[87,72,73,76,69]⟩;rw[show(⟨#[87,72,73,76,69]⟩:ByteArray).toList=[87,72,73,76,69]from by first|rfl|decide|kernel_rfl]at OO
  by_cases h1:xs=⟨#[87,72,73,76,69]⟩
  ·have HE:qes (qq ⟨1,xs,xn,xt,xa⟩=true):=by show _=_;rw[h1];simp[qq,kU]
   rw[decide_eq_true h1]at OO;clear h1;go_wp2;go_ret;exact⟨hZ HE.o.symm,HB.o⟩
  rw[decide_eq_false h1]at OO;have PK:=kj xs ⟨#[82,69,80,69,65,84]⟩;rw[show(⟨#[82,69,80,69,65,84]⟩:ByteArray).toList=[82,69,80,69,65,84]from by first|rfl|decide|kernel_rfl]at PK
  by_cases h2:xs=⟨#[82,69,80,69,65,84]⟩
  ·have HE:qes (qq ⟨1,xs,xn,xt,xa⟩=true):=by show _=_;rw[h2];simp[qq,kU]
   rw[decide_eq_true h2]at PK;clear h2;go_wp2;go_ret;exact⟨hZ HE.o.symm,HB.o⟩
  rw[decide_eq_false h2]at PK;have RU:=kj xs ⟨#[70,79,82]⟩;rw[show(⟨#[70,79,82]⟩:ByteArray).toList=[70,79,82]from by first|rfl|decide|kernel_rfl]at RU
  by_cases h3:xs=⟨#[70,79,82]⟩
  ·have HE:qes (qq ⟨1,xs,xn,xt,xa⟩=true):=by show _=_;rw[h3];simp[qq,kU]
   rw[decide_eq_true h3]at RU;clear h3;go_wp2;go_ret;exact⟨hZ HE.o.symm,HB.o⟩
  rw[decide_eq_false h3]at RU;have Ts:=kj xs ⟨#[67,65,83,69]⟩;rw[show(⟨#[67,65,83,69]⟩:ByteArray).toList=[67,65,83,69]from by first|rfl|decide|kernel_rfl]at Ts
  by_cases h4:xs=⟨#[67,65,83,69]⟩
  ·have HE:qes (qq ⟨1,xs,xn,xt,xa⟩=true):=by show _=_;rw[h4];simp[qq,kU]
   rw[decide_eq_true h4]at Ts;clear h4;go_wp2;go_ret;exact⟨hZ HE.o.symm,HB.o⟩
  rw[decide_eq_false h4]at Ts;have U6:=kj xs ⟨#[69,88,73,84]⟩;rw[show(⟨#[69,88,73,84]⟩:ByteArray).toList=[69,88,73,84]from by first|rfl|decide|kernel_rfl]at U6
  by_cases h5:xs=⟨#[69,88,73,84]⟩
  ·have HE:qes (qq ⟨1,xs,xn,xt,xa⟩=true):=by show _=_;rw[h5];simp[qq,kU]
   rw[decide_eq_true h5]at U6;clear h5;go_wp2;go_ret;exact⟨hZ HE.o.symm,HB.o⟩
  rw[decide_eq_false h5]at U6;have VX:=kj xs ⟨#[82,69,84,85,82,78]⟩;rw[show(⟨#[82,69,84,85,82,78]⟩:ByteArray).toList=[82,69,84,85,82,78]from by first|rfl|decide|kernel_rfl]at VX
  by_cases h6:xs=⟨#[82,69,84,85,82,78]⟩
  ·have HE:qes (qq ⟨1,xs,xn,xt,xa⟩=true):=by show _=_;rw[h6];simp[qq,kU]
   rw[decide_eq_true h6]at VX;clear h6;go_wp2;go_ret;exact⟨hZ HE.o.symm,HB.o⟩
  rw[decide_eq_false h6]at VX
  have HE:qes (qq ⟨1,xs,xn,xt,xa⟩=nameB xs.data.toList):=by
   show _=_;have key:∀l:List UInt8,xs≠⟨l.toArray⟩->xs.data.toList≠l:=fun l hn e=>hn (by rw[<-e])
   unfold qq kU;simp only[decide_true,fu];rw[decide_eq_false,Bool.false_or];simp only[aI,bG,or_false,not_or];exact⟨key _ h0,key _ h1,key _ h2,key _ h3,key _ h4,key _ h5,key _ h6⟩
  clear h0 h1 h2 h3 h4 h5 h6;have t2:=CN.o _ HB.o;go_wp2_with fail;refine t2.mono ?_;rintro e w2 ⟨rfl,rfl⟩;clear t2;go_wp2;go_ret;exact⟨hZ HE.o.symm,HB.o⟩
 ·have HE:qes (qq ⟨xk,xs,xn,xt,xa⟩=false):=by show _=_;unfold qq;rw[decide_eq_false (by exact hk),fj]
  have hb:(xk==1)=false:=by rw[beq_eq_false_iff_ne];exact hk
  clear hk;go_wp2;go_ret;exact⟨hZ HE.o.symm,HB.o⟩
variable {r:Rs}{q:List Tk}
theorem sH(hr:r.rest=gP ik::q):iQ r=({r with rest:=q,hs:=lM r.hs},.ok ()):=by
 unfold iQ;rw[iD (ju (k:=3) (s:=ik) (n:=0) (ty:=0) hr)]
variable {l:List Hd}{h:Hd}
theorem qt{g:Hd}(e:h.iU=false):lM (h::g::l)=jc g h.s::l:=by
 rw[lM,if_neg (by rw[e];decide)]
theorem td{g:Hd}(e:h.iU=true):lM (h::g::l)=lM (jc g h.s::l):=by
 rw[lM,if_pos e]
theorem sI(n:Nat)(s:St):Dt n s=wL (n+1) n false s.body++(wA (n+1+iw s.body) n s.arms++wL (n+1+iw s.body+kM s.arms) n (jb s.kind s.els) s.els):=by
 obtain⟨k,nm,i,x,y,b_,bd,el,ar,ag⟩:=s;rfl
theorem Ej(s:St):I1 s=jm s.x++gO jK::(iV s.body++lj s):=by
 obtain⟨k,nm,i,x,y,b_,bd,el,ar,ag⟩:=s;rfl
theorem zf{l:List Sr}(h:l.length=n+1):(l.length:Int)-1=(n:Int):=by omega
theorem YT(s:St)(hk:s.kind=3)(hb:∀t∈s.body,oJ t):oJ s:=by
 intro d r q h0 h hs hm hr hh hst;obtain⟨_,hown,_,hmb,_⟩:=jD hm;obtain⟨hs',hx⟩:=A8 hown (.inl hk);rw[hk]at hs';obtain⟨lE,e1,e2,e3⟩:=qa hh hst
 have hr':r.rest=gO jj::(jm s.x++gO qX::(iV s.body++gO kp::gP ik::q)):=by
  rw[hr]
  conv=>lhs;rw[hs']
  simp[kH]
 have hel:s.els=[]:=by rw[hs'];rfl
 have har:s.arms=[]:=by rw[hs'];rfl
 obtain⟨r2,g2,f1,f2,f3,f4⟩:=mW s.body hb (d+1) {r with rest:=iV s.body++gO kp::gP ik::q,hs:=⟨{st0 with kind:=3,x:=s.x},(r.gY.length:Int),false,false,0⟩::h::hs,gY:=lE} (gO kp::gP ik::q) _ (h::hs) hmb rfl rfl (by simp);rw[pz _ _ rfl (by simp)]at f2;refine⟨{r2 with rest:=q,hs:=jc h s::hs},.step (l5 (by rw[lp hr'];decide) (r':={r with rest:=iV s.body++gO kp::gP ik::q,hs:=⟨{st0 with kind:=3,x:=s.x},(r.gY.length:Int),false,false,0⟩::h::hs,gY:=lE}) ?_) (g2.trans (.step (kR (rC f1 (by decide)) (by rw[f2];simp) ?_) (.refl _))),rfl,rfl,f3,?_⟩
 ·unfold jr;rw[iD e1,hr',show(jW (gO jj::_)).s=jj from rfl,show jq jj=thn (gU jj) (bnd ir fun x=>thn (gU qX) (iG {st0 with kind:=3,x:=x}))from rfl];rw[iD (ju (k:=1) (s:=jj) (n:=0) (ty:=0) rfl),jy (mu (s:=gO qX::_) rfl hx (lV _ _ (by decide))),iD (ju (k:=1) (s:=qX) (n:=0) (ty:=0) rfl)];unfold iG;simp only[zf e2]
 ·have ht:(top r2).s.kind=3:=by unfold top;rw[f2];rfl
  unfold iq;rw[if_neg (by rw[ht];decide),if_neg (by rw[ht];decide),if_pos ht,iD (ju (k:=1) (s:=kp) (n:=0) (ty:=0) f1),sH rfl];simp only[f2];rw[qt rfl]
  conv=>rhs;rw[hs']
  rfl
 ·simp only[f4];rw[e3,sI,hel,har,wL,wA,bm,bm,e2]
theorem YU(s:St)(hk:s.kind=4)(hb:∀t∈s.body,oJ t):oJ s:=by
 intro d r q h0 h hs hm hr hh hst;obtain⟨_,hown,_,hmb,_⟩:=jD hm;obtain⟨hs',hx⟩:=A8 hown (.inr hk);rw[hk]at hs';obtain⟨lE,e1,e2,e3⟩:=qa hh hst
 have hr':r.rest=gO iT::(iV s.body++gO mK::(jm s.x++gO iI::gP ik::q)):=by
  rw[hr]
  conv=>lhs;rw[hs']
  simp[kH]
 have hel:s.els=[]:=by rw[hs'];rfl
 have har:s.arms=[]:=by rw[hs'];rfl
 obtain⟨r2,g2,f1,f2,f3,f4⟩:=mW s.body hb (d+1) {r with rest:=iV s.body++gO mK::(jm s.x++gO iI::gP ik::q),hs:=⟨{st0 with kind:=4},(r.gY.length:Int),false,false,0⟩::h::hs,gY:=lE} (gO mK::(jm s.x++gO iI::gP ik::q)) _ (h::hs) hmb rfl rfl (by simp);rw[pz _ _ rfl (by simp)]at f2;refine⟨{r2 with rest:=q,hs:=jc h s::hs},.step (l5 (by rw[lp hr'];decide) (r':={r with rest:=iV s.body++gO mK::(jm s.x++gO iI::gP ik::q),hs:=⟨{st0 with kind:=4},(r.gY.length:Int),false,false,0⟩::h::hs,gY:=lE}) ?_) (g2.trans (.step (kR (rC f1 (by decide)) (by rw[f2];simp) ?_) (.refl _))),rfl,rfl,f3,?_⟩
 ·unfold jr;rw[iD e1,hr',show(jW (gO iT::_)).s=iT from rfl,show jq iT=thn (gU iT) (iG {st0 with kind:=4})from rfl];rw[iD (ju (k:=1) (s:=iT) (n:=0) (ty:=0) rfl)];unfold iG;simp only[zf e2]
 ·have ht:(top r2).s.kind=4:=by unfold top;rw[f2];rfl
  unfold iq;rw[if_neg (by rw[ht];decide),if_neg (by rw[ht];decide),if_neg (by rw[ht];decide),if_pos ht,iD (ju (k:=1) (s:=mK) (n:=0) (ty:=0) f1)]
  have hu:mN {r2 with rest:=jm s.x++gO iI::gP ik::q}=({r2 with rest:=gO iI::gP ik::q,hs:=⟨{st0 with kind:=4,x:=s.x,body:=[]++s.body},(r.gY.length:Int),false,false,0⟩::h::hs},.ok ()):=by
   unfold mN;rw[jy (mu (s:=gO iI::gP ik::q) rfl hx (lV _ _ (by decide)))];unfold iS top;simp only[f2];rfl
  rw[iD hu,iD (ju (k:=1) (s:=iI) (n:=0) (ty:=0) rfl),sH rfl];rw[qt rfl]
  conv=>rhs;rw[hs']
  rfl
 ·simp only[f4];rw[e3,sI,hel,har,wL,wA,bm,bm,e2]
theorem YV(s:St)(hk:s.kind=5)(hb:∀t∈s.body,oJ t):oJ s:=by
 intro d r q h0 h hs hm hr hh hst;obtain⟨_,hown,_,hmb,_⟩:=jD hm;obtain⟨hs',hnm,hx,hy,hb0,hbn⟩:=Tm hown hk;obtain⟨lE,e1,e2,e3⟩:=qa hh hst
 have hr':r.rest=gO j7::gO s.name::gP iZ::(jm s.x++gO vS::(jm s.y++((if s.gT=1 then []else gO vL::vM s.gT)++gO qX::(iV s.body++gO km::gP ik::q)))):=by
  rw[hr]
  conv=>lhs;rw[hs']
  simp[kH]
 have hel:s.els=[]:=by rw[hs'];rfl
 have har:s.arms=[]:=by rw[hs'];rfl
 obtain⟨r2,g2,f1,f2,f3,f4⟩:=mW s.body hb (d+1) {r with rest:=iV s.body++gO km::gP ik::q,hs:=⟨{st0 with kind:=5,name:=s.name,x:=s.x,y:=s.y,gT:=s.gT},(r.gY.length:Int),false,false,0⟩::h::hs,gY:=lE} (gO km::gP ik::q) _ (h::hs) hmb rfl rfl (by simp);rw[pz _ _ rfl (by simp)]at f2;refine⟨{r2 with rest:=q,hs:=jc h s::hs},.step (l5 (by rw[lp hr'];decide) (r':={r with rest:=iV s.body++gO km::gP ik::q,hs:=⟨{st0 with kind:=5,name:=s.name,x:=s.x,y:=s.y,gT:=s.gT},(r.gY.length:Int),false,false,0⟩::h::hs,gY:=lE}) ?_) (g2.trans (.step (kR (rC f1 (by decide)) (by rw[f2];simp) ?_) (.refl _))),rfl,rfl,f3,?_⟩
 ·unfold jr;rw[iD e1,hr',show(jW (gO j7::_)).s=j7 from rfl,show jq j7=thn (gU j7) (bnd kN fun nm=>thn (iO iZ) (bnd ir fun x=>thn (gU vS) (bnd ir fun y=>bnd K8 fun b=>thn (gU qX) (iG {st0 with kind:=5,name:=nm,x:=x,y:=y,gT:=b}))))from rfl];rw[iD (ju (k:=1) (s:=j7) (n:=0) (ty:=0) rfl),jy (BX (s:=s.name) rfl hnm),iD (ju (k:=3) (s:=iZ) (n:=0) (ty:=0) rfl),jy (mu (s:=gO vS::_) rfl hx (lV _ _ (by decide))),iD (ju (k:=1) (s:=vS) (n:=0) (ty:=0) rfl)]
  rw[jy (mu (s:=(if s.gT=1 then []else gO vL::vM s.gT)++gO qX::(iV s.body++gO km::gP ik::q)) rfl hy (by
   by_cases hb1:s.gT=1
   ·rw[if_pos hb1];exact lV _ _ (by decide)
   ·rw[if_neg hb1];exact lV _ _ (by decide)))]
  have hby:K8 {r with rest:=(if s.gT=1 then []else gO vL::vM s.gT)++gO qX::(iV s.body++gO km::gP ik::q),hs:=h::hs,gY:=lE}=({r with rest:=gO qX::(iV s.body++gO km::gP ik::q),hs:=h::hs,gY:=lE},.ok s.gT):=by
   unfold K8
   by_cases hb1:s.gT=1
   ·simp only[if_pos hb1,bQ];rw[if_neg (by rw[mA (t:=gO qX) rfl (by decide)];decide),hb1]
   ·simp only[if_neg hb1,bM];rw[if_pos (nH (k:=1) (s:=vL) (n:=0) (ty:=0) rfl),iD (ju (k:=1) (s:=vL) (n:=0) (ty:=0) rfl),Gd rfl hbn (fun _=>hb0)]
  rw[jy hby,iD (ju (k:=1) (s:=qX) (n:=0) (ty:=0) rfl)];unfold iG;simp only[zf e2]
 ·have ht:(top r2).s.kind=5:=by unfold top;rw[f2];rfl
  unfold iq;rw[if_neg (by rw[ht];decide),if_neg (by rw[ht];decide),if_neg (by rw[ht];decide),if_neg (by rw[ht];decide),iD (ju (k:=1) (s:=km) (n:=0) (ty:=0) f1),sH rfl];simp only[f2];rw[qt rfl]
  conv=>rhs;rw[hs']
  rfl
 ·simp only[f4];rw[e3,sI,hel,har,wL,wA,bm,bm,e2]
theorem Ig{s:Bs}(hr:r.rest=gO s::q)(hs:(s==lH)=false):jT r=(r,.ok false):=by
 unfold jT;rw[if_pos (.inr (mA hr (by show(decide ((1:Int)=1)&&(s==lH))=false;rw[hs];rfl)))]
theorem Ek{hs:List Hd}(hr:r.rest=gO lH::q)(hh:r.hs=h::hs)(hi:h.gX=false):jT r=({r with rest:=q,hs:={h with gX:=true}::hs},.ok true):=by
 unfold jT;have ht:top r=h:=by unfold top;rw[hh];rfl
 rw[if_neg (by
  intro hc
  rcases hc with hc|hc
  ·rw[ht,hi]at hc;cases hc
  ·rw[nH (k:=1) (s:=lH) (n:=0) (ty:=0) hr]at hc;cases hc),ht]
 unfold jF iS;simp only[hr,hh];rfl
theorem PL(s:St)(hb:∀t∈s.body,oJ t)(he:∀t∈s.els,oJ t/\RunT t):RunT s:=by
 intro d n r q e hs hm hk hr hh hn hne;obtain⟨_,hown,_,hmb,hme⟩:=jD hm;obtain⟨hs',hx⟩:=Jx hown hk
 obtain⟨g,hs2,rfl⟩:∃g hs2,hs=g::hs2:=by
  cases hs with
  |nil=>exact absurd rfl hne
  |cons a b=>exact⟨a,b,rfl⟩
 have har:s.arms=[]:=by rw[hs'];rfl
 obtain⟨r1,g1,f1,f2,f3,f4⟩:=mW s.body hb (d+1) r (lj s++gO jN::q) _ (g::hs2) hmb hr hh (by simp);rw[pz _ _ rfl (by simp)]at f2;rw[hn]at f4
 have hlen1:r1.gY.length=n+1+iw s.body:=by
  have:=congrArg fp f4;rw[ao,aQ,aQ,rz,hn]at this;exact this
 have hin:Dt n s=wL (n+1) n false s.body++wL (n+1+iw s.body) n (jb s.kind s.els) s.els:=by
  rw[sI,har,wA,bQ];rfl
 have ht1:top r1=⟨{st0 with kind:=2,x:=s.x,body:=[]++s.body},(n:Int),e,false,0⟩:=by unfold top;rw[f2];rfl
 by_cases hc:jb s.kind s.els=true
 ·
  obtain⟨t,ht,htk⟩:∃t,s.els=[t]/\t.kind=2:=by
   unfold jb at hc;rw[aH]at hc
   match hq:s.els,hc.2 with
   |[t],h2=>exact⟨t,rfl,of_decide_eq_true h2⟩
  have hts:lj s=gO jM::I1 t:=by
   unfold lj;rw[if_pos hc,ht];rfl
  rw[hts,Ej]at f1;rw[if_pos hc,ht]at hme;obtain⟨hmt,_⟩:=pw hme;obtain⟨_,VY,_,_,_⟩:=jD hmt;obtain⟨_,hxt⟩:=Jx VY htk;have f1':r1.rest=gO jM::(jm t.x++gO jK::(iV t.body++(lj t++gO jN::q))):=by rw[f1];simp
  have hturn:iq r1=({r1 with rest:=iV t.body++(lj t++gO jN::q),hs:=⟨{st0 with kind:=2,x:=t.x},(r1.gY.length:Int),true,false,0⟩::⟨{st0 with kind:=2,x:=s.x,body:=[]++s.body},(n:Int),e,true,r1.gY.length⟩::g::hs2,gY:=r1.gY++[⟨r1.rest.length,(n:Int),true⟩]},.ok ()):=by
   unfold iq;rw[if_pos (by rw[ht1]),jd,if_pos ⟨by rw[ht1],nH (k:=1) (s:=jM) (n:=0) (ty:=0) f1'⟩]
   have hset:iS {top r1 with gX:=true} r1={r1 with hs:=⟨{st0 with kind:=2,x:=s.x,body:=[]++s.body},(n:Int),e,true,0⟩::g::hs2}:=by
    unfold iS;rw[ht1,f2];rfl
   rw[hset];have hsf:=nO (r:={r1 with hs:=⟨{st0 with kind:=2,x:=s.x,body:=[]++s.body},(n:Int),e,true,0⟩::g::hs2}) rfl ⟨rfl,rfl⟩ rfl;rw[iD hsf];have hT:jI 1 jM {r1 with hs:=⟨{st0 with kind:=2,x:=s.x,body:=[]++s.body},(n:Int),e,true,0⟩::g::hs2}=true:=nH (k:=1) (s:=jM) (n:=0) (ty:=0) f1';rw[hT,Bool.true_or];unfold mM I2 jF;have had:∀(m:M Unit)(R:Rs),thn (fun r=>({r with rest:=r.rest.tail},fR ())) m R=m {R with rest:=R.rest.tail}:=fun m R=>rfl
   rw[had];simp only[f1',fI];rw[jy (mu (s:=gO jK::_) rfl hxt (lV _ _ (by decide))),iD (ju (k:=1) (s:=jK) (n:=0) (ty:=0) rfl)];unfold iG;rw[iD rfl];unfold tt iS top;simp
  have hP:=(he t (by rw[ht];exact aL.2 rfl)).2;obtain⟨r3,ie,f,g3,k1,k2,k3,k4,k5,k6⟩:=hP d r1.gY.length {r1 with rest:=iV t.body++(lj t++gO jN::q),hs:=⟨{st0 with kind:=2,x:=t.x},(r1.gY.length:Int),true,false,0⟩::⟨{st0 with kind:=2,x:=s.x,body:=[]++s.body},(n:Int),e,true,r1.gY.length⟩::g::hs2,gY:=r1.gY++[⟨r1.rest.length,(n:Int),true⟩]} q true _ hmt htk rfl rfl (by simp) (by simp);refine⟨r3,true,r1.gY.length,g1.trans (.step (kR (rC f1' (by decide)) (by rw[f2];simp) hturn) g3),k1,k2,k3,?_,k5.trans f3,?_⟩
  ·rw[k4,td rfl]
   have:jc ⟨{st0 with kind:=2,x:=s.x,body:=[]++s.body},(n:Int),e,true,r1.gY.length⟩ t=⟨s,(n:Int),e,true,r1.gY.length⟩:=by
    unfold jc;rw[if_pos rfl]
    conv=>rhs;rw[hs']
    rw[ht];rfl
   rw[this]
  ·rw[k6];simp only[bB,bL,List.map_nil];rw[f4,hin,hc,ht,hlen1];simp[wL,wm]
 ·have hcf:jb s.kind s.els=false:=by simpa using hc
  by_cases hel:s.els=[]
  ·have hts:lj s=[]:=by
    unfold lj;rw[if_neg hc,hel];rfl
   rw[hts,bQ]at f1;refine⟨r1,false,0,g1,f1,by rw[ht1],by rw[f2];simp,?_,f3,?_⟩
   ·rw[f2]
    have:(⟨{st0 with kind:=2,x:=s.x,body:=[]++s.body},(n:Int),e,false,0⟩:Hd)=⟨s,(n:Int),e,false,0⟩:=by
     conv=>rhs;rw[hs']
     rw[hel];rfl
    exact congrArg (fun z=>lM (z::g::hs2)) this
   ·rw[f4,hin,hel,wL,bm]
  ·have hie:s.els.isEmpty=false:=by
    cases hq:s.els with
    |nil=>exact absurd hq hel
    |cons a b=>rfl
   have hts:lj s=gO lH::iV s.els:=by
    unfold lj;rw[if_neg hc,hie];rfl
   rw[hts]at f1;have f1':r1.rest=gO lH::(iV s.els++gO jN::q):=by rw[f1];simp
   have hturn:iq r1=({r1 with rest:=iV s.els++gO jN::q,hs:=⟨{st0 with kind:=2,x:=s.x,body:=[]++s.body},(n:Int),e,true,0⟩::g::hs2},.ok ()):=by
    unfold iq
    rw[if_pos (by rw[ht1]),jd,if_neg (by
     intro hq;rw[mA f1' (by decide)]at hq
     cases hq.2),jy (Ek f1' f2 rfl),if_pos rfl]
    rfl
   rw[if_neg hc]at hme;obtain⟨r3,g3,k1,k2,k3,k4⟩:=Mh s.els (fun t ht=>(he t ht).1) hel (d+1) {r1 with rest:=iV s.els++gO jN::q,hs:=⟨{st0 with kind:=2,x:=s.x,body:=[]++s.body},(n:Int),e,true,0⟩::g::hs2} (gO jN::q) _ (g::hs2) hme (by rw[<-hk];exact hcf) rfl rfl ⟨rfl,rfl⟩ rfl;rw[yX _ _ rfl]at k2
   have hfin:(⟨{st0 with kind:=2,x:=s.x,body:=[]++s.body,els:=[]++s.els},(n:Int),e,true,r1.gY.length⟩:Hd)=⟨s,(n:Int),e,true,r1.gY.length⟩:=by
    conv=>rhs;rw[hs']
    rfl
   refine⟨r3,true,r1.gY.length,g1.trans (.step (kR (rC f1' (by decide)) (by rw[f2];simp) hturn) g3),k1,by unfold top;rw[k2];rfl,by rw[k2];simp,?_,k3.trans f3,?_⟩
   ·rw[k2];exact congrArg (fun z=>lM (z::g::hs2)) hfin
   ·rw[k4];simp only[];rw[f4,hin,hcf,hlen1,aO]
theorem YW(s:St)(hk:s.kind=2)(hT:RunT s):oJ s:=by
 intro d r q h0 h hs hm hr hh hst;obtain⟨_,hown,_,hmb,_⟩:=jD hm;obtain⟨hs',hx⟩:=Jx hown hk;obtain⟨lE,e1,e2,e3⟩:=qa hh hst
 have hr':r.rest=gO sr::(jm s.x++gO jK::(iV s.body++(lj s++gO jN::gP ik::q))):=by
  rw[hr];obtain⟨k,nm,i,x,y,b_,bd,el,ar,ag⟩:=s;simp only at hk;subst hk;simp[kH,lj]
 obtain⟨r3,ie,f,g3,k1,k2,k3,k4,k5,k6⟩:=hT d r.gY.length {r with rest:=iV s.body++(lj s++gO jN::gP ik::q),hs:=⟨{st0 with kind:=2,x:=s.x},(r.gY.length:Int),false,false,0⟩::h::hs,gY:=lE} (gP ik::q) false (h::hs) hm hk rfl rfl e2 (by simp);refine⟨{r3 with rest:=q,hs:=jc h s::hs},.step (l5 (by rw[lp hr'];decide) (r':={r with rest:=iV s.body++(lj s++gO jN::gP ik::q),hs:=⟨{st0 with kind:=2,x:=s.x},(r.gY.length:Int),false,false,0⟩::h::hs,gY:=lE}) ?_) (g3.trans (.step (kR (rC k1 (by decide)) k3 ?_) (.refl _))),rfl,rfl,k5,?_⟩
 ·unfold jr;rw[iD e1,hr',show(jW (gO sr::_)).s=sr from rfl,show jq sr=mM false from rfl];unfold mM I2 jF;have had:∀(m:M Unit)(R:Rs),thn (fun r=>({r with rest:=r.rest.tail},fR ())) m R=m {R with rest:=R.rest.tail}:=fun m R=>rfl
  rw[had];simp only[fI];rw[jy (mu (s:=gO jK::_) rfl hx (lV _ _ (by decide))),iD (ju (k:=1) (s:=jK) (n:=0) (ty:=0) rfl)];unfold iG;rw[iD rfl];unfold tt iS top;simp only[zf e2];rfl
 ·unfold iq
  rw[if_pos k2,jd,if_neg (by
   intro hq;rw[mA k1 (by decide)]at hq
   cases hq.2),jy (Ig k1 (by decide)),if_neg (by decide),iD (ju (k:=1) (s:=jN) (n:=0) (ty:=0) k1),sH rfl]
  simp only[];rw[k4,qt rfl]
 ·simp only[];rw[k6,e3]
theorem Mm:∀(l:List Int)(f:Nat)(acc:List Int)(r:Rs)(q:List Tk),l≠[]->l.all jk=true->r.rest=kS l++gP jB::q->l.length<=f->acc.length+l.length<=16->pO f acc r=({r with rest:=gP jB::q},.ok (acc++l))
 |[a],f+1,acc,r,q,_,ho,hr,hf,h8=>by
  simp only[cN,List.all_nil,Bool.and_true]at ho;rw[pO,jy (Gd (n:=a) (q:=gP jB::q) (by rw[hr];rfl) ho (by intro h;cases h))];simp only[aG,eY]at h8
  have hl:jZ (acc.length+1) 16 {r with rest:=gP jB::q}=({r with rest:=gP jB::q},.ok ()):=by
   unfold jZ;simp only[decide_eq_false (show ¬16<acc.length+1 by omega),eo]
  rw[iD hl,if_neg (by rw[mA (t:=gP jB) rfl (by decide)];decide)]
 |a::b::l,f+1,acc,r,q,_,ho,hr,hf,h8=>by
  rw[cN,aH]at ho;rw[pO,jy (Gd (n:=a) (q:=gP ja::(kS (b::l)++gP jB::q)) (by rw[hr];simp[kS]) ho.1 (by intro h;cases h))];simp only[aG]at h8 hf
  have hl:jZ (acc.length+1) 16 {r with rest:=gP ja::(kS (b::l)++gP jB::q)}=({r with rest:=gP ja::(kS (b::l)++gP jB::q)},.ok ()):=by
   unfold jZ;simp only[decide_eq_false (show ¬16<acc.length+1 by omega),eo]
  rw[iD hl,if_pos (nH (k:=3) (s:=ja) (n:=0) (ty:=0) rfl)];rw[Mm (b::l) f (acc++[a]) _ q (by simp) ho.2 (by unfold jF;rfl) (by simp only[aG];omega) (by simp only[ao,aG,eY];omega)];unfold jF;simp
theorem El:∀(l:List Int)(q:List Tk),l≠[]->∃t q',kS l++q=t::q'/\t.kind≠1/\(t.kind=2\/(decide (t.kind=3)&&(t.s==jV))=true):=by
 intro l q hl
 have key:∀(n:Int)(q:List Tk),∃t q',vM n++q=t::q'/\t.kind≠1/\(t.kind=2\/(decide (t.kind=3)&&(t.s==jV))=true):=fun n q=>by
  unfold vM
  by_cases h:n<0
  ·rw[if_pos h];exact⟨_,_,rfl,by decide,.inr (by decide)⟩
  ·rw[if_neg h];exact⟨_,_,rfl,by show(2:Int)≠1;decide,.inl rfl⟩
 match l,hl with
 |[a],_=>exact key a q
 |a::b::l,_=>rw[kS,aO];exact key a _
theorem Ih:∀l:List Int,l.length<=(kS l).length
 |[]=>aj _
 |[a]=>by unfold kS vM;split <;> simp
 |a::b::l=>by
  have:=Ih (b::l);simp only[kS,ao,aG]at this ⊢;omega
def lW(el:List St):List Tk:=(if el.isEmpty then []else gO lH::iV el)++[gO jo]
theorem Em:∀(ar:List (List Int×List St))(el:List St)(dn:List (List Int×List St)),(∀a∈ar,∀t∈a.2,oJ t)->(∀t∈el,oJ t)->∀(d n:Nat)(x:List Pt)(r:Rs)(q:List Tk)(g:Hd)(hs:List Hd),vU d ar=true->jO d el=true->ar.all ot=true->dn.length+ar.length<=32->
  r.rest=pM ar++(lW el++gP ik::q)->r.hs=⟨{st0 with kind:=6,x:=x,arms:=dn},(n:Int),false,false,0⟩::g::hs->
  ∃r1 r',iq r=(r1,.ok ())/\Goes r1 r'/\r'.rest=q/\r'.hs=jc g {st0 with kind:=6,x:=x,arms:=dn++ar,els:=el}::hs/\r'.many=r.many/\r'.gY.map wm=r.gY.map wm++(wA r.gY.length n ar++wL (r.gY.length+kM ar) n false el)
 |[],el,dn,hA,hE,d,n,x,r,q,g,hs,XS,hmE,hok,h32,hr,hh=>by
  have ht:top r=⟨{st0 with kind:=6,x:=x,arms:=dn},(n:Int),false,false,0⟩:=by unfold top;rw[hh];rfl
  have hend:∀(r2:Rs)(ie:Bool)(f:Nat)(l:List St),r2.rest=gO jo::gP ik::q->r2.hs=⟨{st0 with kind:=6,x:=x,arms:=dn,els:=l},(n:Int),false,ie,f⟩::g::hs->iq r2=({r2 with rest:=q,hs:=jc g {st0 with kind:=6,x:=x,arms:=dn,els:=l}::hs},.ok ()):=fun r2 ie f l h1 h2=>by
   have ht2:(top r2).s.kind=6:=by unfold top;rw[h2];rfl
   unfold iq
   rw[if_neg (by rw[ht2];decide),if_pos ht2,iN,if_neg (by
    intro hc;rw[h1]at hc
    rcases hc.2 with hc|hc
    ·exact absurd (show(1:Int)=2 from hc) (by decide)
    ·rw[mA h1 (by decide)]at hc;cases hc),jy (Ig h1 (by decide)),if_neg (by decide),iD (ju (k:=1) (s:=jo) (n:=0) (ty:=0) h1),sH rfl]
   simp only[h2];rw[qt rfl]
  by_cases hel:el=[]
  ·subst hel;have hr':r.rest=gO jo::gP ik::q:=by rw[hr];simp[pM,lW]
   refine⟨_,{r with rest:=q,hs:=jc g {st0 with kind:=6,x:=x,arms:=dn}::hs},hend r false 0 [] hr' hh,.refl _,rfl,by simp[st0],rfl,by simp[wA,wL]⟩
  ·have hie:el.isEmpty=false:=by
    cases hq:el with
    |nil=>exact absurd hq hel
    |cons a b=>rfl
   have hr':r.rest=gO lH::(iV el++gO jo::gP ik::q):=by rw[hr];simp[pM,lW,hie]
   obtain⟨r2,g2,f1,f2,f3,f4⟩:=mW el hE d {r with rest:=iV el++gO jo::gP ik::q,hs:=⟨{st0 with kind:=6,x:=x,arms:=dn},(n:Int),false,true,0⟩::g::hs} (gO jo::gP ik::q) _ (g::hs) hmE rfl rfl (by simp);rw[yX _ _ rfl]at f2;refine⟨{r with rest:=iV el++gO jo::gP ik::q,hs:=⟨{st0 with kind:=6,x:=x,arms:=dn},(n:Int),false,true,0⟩::g::hs},{r2 with rest:=q,hs:=jc g {st0 with kind:=6,x:=x,arms:=dn,els:=[]++el}::hs},?_,g2.trans (.step (kR (rC f1 (by decide)) (by rw[f2];simp) (hend r2 true 0 ([]++el) f1 f2)) (.refl _)),rfl,by simp,f3,?_⟩
   ·unfold iq
    rw[if_neg (by rw[ht];exact(by decide:¬ (6:Int)=2)),if_pos (by rw[ht]),iN,if_neg (by
     intro hc;rw[hr']at hc
     rcases hc.2 with hc|hc
     ·exact absurd (show(1:Int)=2 from hc) (by decide)
     ·rw[mA hr' (by decide)]at hc;cases hc),jy (Ek hr' hh rfl),if_pos rfl]
    rfl
   ·simp only[f4,wA,bQ,kM,Nat.add_zero]
 |(ls,b)::ar,el,dn,hA,hE,d,n,x,r,q,g,hs,XS,hmE,hok,h32,hr,hh=>by
  rw[vU,FQ,aH]at XS;rw[cN,aH]at hok;have hok1:=hok.1;unfold ot at hok1;simp only[aH,Bool.not_eq_true',Bool.or_eq_false_iff,decide_eq_false_iff_not]at hok1;have hls:ls≠[]:=fun h=>hok1.1.1 (by rw[h];rfl)
  simp only[aG]at h32;have hr':r.rest=kS ls++gP jB::(iV b++(pM ar++(lW el++gP ik::q))):=by rw[hr];simp[pM,ON]
  have ht:top r=⟨{st0 with kind:=6,x:=x,arms:=dn},(n:Int),false,false,0⟩:=by unfold top;rw[hh];rfl
  obtain⟨t,q',e1,e2,e3⟩:=El ls (gP jB::(iV b++(pM ar++(lW el++gP ik::q)))) hls;have hrt:r.rest=t::q':=by rw[hr',e1]
  have hb1:iq r=({r with rest:=iV b++(pM ar++(lW el++gP ik::q)),hs:=⟨{st0 with kind:=6,x:=x,arms:=dn++[(ls,[])]},(n:Int),false,false,0⟩::g::hs},.ok ()):=by
   unfold iq
   rw[if_neg (by rw[ht];exact(by decide:¬ (6:Int)=2)),if_pos (by rw[ht]),iN,if_pos ⟨by rw[ht],by
    rcases e3 with e3|e3
    ·exact .inl (by rw[hrt];exact e3)
    ·refine .inr ?_;unfold jI;rw[hrt]
     exact e3⟩,qY]
   rw[jy (Mm ls _ [] r (iV b++(pM ar++(lW el++gP ik::q))) hls hok1.2 hr' (by rw[hr',ao];have:=Ih ls;omega) (by simp;omega))]
   have hset:iS {top {r with rest:=gP jB::(iV b++(pM ar++(lW el++gP ik::q)))}with s:={(top {r with rest:=gP jB::(iV b++(pM ar++(lW el++gP ik::q)))}).s with arms:=(top {r with rest:=gP jB::(iV b++(pM ar++(lW el++gP ik::q)))}).s.arms++[([]++ls,[])]}} {r with rest:=gP jB::(iV b++(pM ar++(lW el++gP ik::q)))}={r with rest:=gP jB::(iV b++(pM ar++(lW el++gP ik::q))),hs:=⟨{st0 with kind:=6,x:=x,arms:=dn++[(ls,[])]},(n:Int),false,false,0⟩::g::hs}:=by
    unfold iS top;simp only[hh];rfl
   rw[hset];have hta:(top {r with rest:=gP jB::(iV b++(pM ar++(lW el++gP ik::q)))}).s.arms=dn:=by unfold top;simp only[hh];rfl
   rw[hta]
   have hl:jZ (dn.length+1) 32 {r with rest:=gP jB::(iV b++(pM ar++(lW el++gP ik::q))),hs:=⟨{st0 with kind:=6,x:=x,arms:=dn++[(ls,[])]},(n:Int),false,false,0⟩::g::hs}=({r with rest:=gP jB::(iV b++(pM ar++(lW el++gP ik::q))),hs:=⟨{st0 with kind:=6,x:=x,arms:=dn++[(ls,[])]},(n:Int),false,false,0⟩::g::hs},.ok ()):=by
    unfold jZ;simp only[decide_eq_false (show ¬32<dn.length+1 by omega),eo]
   rw[iD hl];exact ju (k:=3) (s:=jB) (n:=0) (ty:=0) rfl
  obtain⟨r2,g2,f1,f2,f3,f4⟩:=mW b (hA (ls,b) aT) d {r with rest:=iV b++(pM ar++(lW el++gP ik::q)),hs:=⟨{st0 with kind:=6,x:=x,arms:=dn++[(ls,[])]},(n:Int),false,false,0⟩::g::hs} (pM ar++(lW el++gP ik::q)) _ (g::hs) XS.1 rfl rfl (by simp);rw[Ia b _ dn ls [] rfl rfl rfl]at f2
  have hlen:r2.gY.length=r.gY.length+iw b:=by
   have:=congrArg fp f4;rw[ao,aQ,aQ,rz]at this;exact this
  obtain⟨r3,r4,g3,g4,k1,k2,k3,k4⟩:=Em ar el (dn++[(ls,b)]) (fun a ha=>hA a (aK _ ha)) hE d n x r2 q g hs XS.2 hmE hok.2 (by simp;omega) f1 f2
  have YX:qk r2=false:=by
   match ar,f1 with
   |[],f1=>
    by_cases hel:el.isEmpty=true
    ·exact rC (s:=jo) (q:=gP ik::q) (by rw[f1];simp[pM,lW,hel]) (by decide)
    ·exact rC (s:=lH) (q:=iV el++gO jo::gP ik::q) (by rw[f1];simp[pM,lW,hel]) (by decide)
   |(ls2,b2)::ar2,f1=>
    have hok2:=hok.2;rw[cN,aH]at hok2;have h2:=hok2.1;unfold ot at h2;simp only[aH,Bool.not_eq_true',Bool.or_eq_false_iff,decide_eq_false_iff_not]at h2;obtain⟨t2,q2,m1,m2,_⟩:=El ls2 (gP jB::(iV b2++(pM ar2++(lW el++gP ik::q)))) (fun h=>h2.1.1 (by rw[h];rfl));exact Ge (t:=t2) (q:=q2) (by rw[f1,<-m1];simp[pM,ON]) m2
  refine⟨_,r4,hb1,g2.trans (.step (kR YX (by rw[f2];simp) g3) g4),k1,?_,k3.trans f3,?_⟩
  ·rw[k2];simp
  ·rw[k4,f4,hlen];simp only[wA,wQ,kM,sd,aO,Nat.add_assoc]
theorem YY(s:St)(hk:s.kind=6)(ha:∀a∈s.arms,∀t∈a.2,oJ t)(he:∀t∈s.els,oJ t):oJ s:=by
 intro d r q h0 h hs hm hr hh hst;obtain⟨_,hown,hma,hmb,hme⟩:=jD hm;obtain⟨hs',hx,hao⟩:=Tn hown hk;obtain⟨lE,e1,e2,e3⟩:=qa hh hst;have hbd:s.body=[]:=by rw[hs'];rfl
 have hcf:jb s.kind s.els=false:=by unfold jb;rw[hk];rfl
 rw[hcf,if_neg (by decide)]at hme;unfold lQ at hao;rw[aH,decide_eq_true_eq]at hao
 have hr':r.rest=gO jE::(jm s.x++gO Dr::(pM s.arms++(lW s.els++gP ik::q))):=by
  rw[hr]
  conv=>lhs;rw[hs']
  simp[kH,lW]
 obtain⟨r1,r2,g1,g2,f1,f2,f3,f4⟩:=Em s.arms s.els [] ha he (d+1) r.gY.length s.x {r with rest:=pM s.arms++(lW s.els++gP ik::q),hs:=⟨{st0 with kind:=6,x:=s.x,arms:=[]},(r.gY.length:Int),false,false,0⟩::h::hs,gY:=lE} q h hs hma hme hao.2 (by simp;omega) rfl rfl;refine⟨r2,.step (l5 (by rw[lp hr'];decide) ?_) g2,f1,?_,f3,?_⟩
 ·unfold jr;rw[iD e1,hr',show(jW (gO jE::_)).s=jE from rfl,show jq jE=thn (gU jE) (bnd ir fun x=>thn (gU Dr) (thn (iG {st0 with kind:=6,x:=x}) iq))from rfl];rw[iD (ju (k:=1) (s:=jE) (n:=0) (ty:=0) rfl),jy (mu (s:=gO Dr::_) rfl hx (lV _ _ (by decide))),iD (ju (k:=1) (s:=Dr) (n:=0) (ty:=0) rfl)];unfold iG;rw[iD rfl];simp only[zf e2];exact g1
 ·rw[f2]
  conv=>rhs;rw[hs']
  rfl
 ·rw[f4,e3,sI,hbd,hcf,wL,bQ];simp only[iw,Nat.add_zero,e2]
mutual
theorem Cc:∀s:St,oJ s/\RunT s
 |⟨k,nm,i,x,y,b_,bd,el,ar,ag⟩=>by
  have hb:=uZ bd;have he:=uZ el;have ha:=En ar;have hT:RunT ⟨k,nm,i,x,y,b_,bd,el,ar,ag⟩:=PL _ (fun t ht=>(hb t ht).1) he;refine⟨?_,hT⟩;intro d r q h0 h hs hm;have hown:=(jD hm).2.1;have hk:=yW hown
  revert hm
  rcases hk with hk|hk|hk|hk|hk|hk|hk|hk|hk
  ·exact YP _ hk d r q h0 h hs
  ·exact YW _ hk hT d r q h0 h hs
  ·exact YT _ hk (fun t ht=>(hb t ht).1) d r q h0 h hs
  ·exact YU _ hk (fun t ht=>(hb t ht).1) d r q h0 h hs
  ·exact YV _ hk (fun t ht=>(hb t ht).1) d r q h0 h hs
  ·exact YY _ hk ha (fun t ht=>(he t ht).1) d r q h0 h hs
  ·exact YQ _ hk d r q h0 h hs
  ·exact RP _ (.inl hk) d r q h0 h hs
  ·exact RP _ (.inr hk) d r q h0 h hs
theorem uZ:∀l:List St,∀t∈l,oJ t/\RunT t
 |[],t,ht=>by cases ht
 |s::l,t,ht=>by
  rcases aI.1 ht with h|h
  ·rw[h];exact Cc s
  ·exact uZ l t h
theorem En:∀l:List (List Int×List St),∀a∈l,∀t∈a.2,oJ t
 |[],a,ha,_,_=>by cases ha
 |b::l,a,ha,t,ht=>by
  rcases aI.1 ha with h|h
  ·rw[h]at ht;exact Mn b t ht
  ·exact En l a h t ht
theorem Mn:∀(a:List Int×List St),∀t∈a.2,oJ t
 |(_,b),t,ht=>(uZ b t ht).1
end
theorem zg{a b:List Nat}(h:n<a.length):(a++b).getD n 0=a.getD n 0:=by
 rw[List.getD_eq_getElem?_getD,List.getD_eq_getElem?_getD,List.getElem?_append_left h]
theorem Mo{a:List Nat}{d:Nat}:(a++[d]).getD a.length 0=d:=by
 rw[List.getD_eq_getElem?_getD,List.getElem?_append_right (aj _),Nat.sub_self];rfl
def Jz(ds:List Nat)(p:Int×Bool):Nat:=(if p.1= -1 then 0 else ds.getD p.1.toNat 0)+(if p.2 then 0 else 1)
def tH:List (Int×Bool)->List Nat->Prop
 |[],_=>True
 |p::l,ds=>Jz ds p<=20/\tH l (ds++[Jz ds p])
def VZ:List (Int×Bool)->List Nat->List Nat
 |[],ds=>ds
 |p::l,ds=>VZ l (ds++[Jz ds p])
theorem qK:∀(a b:List (Int×Bool))(ds:List Nat),tH a ds->tH b (VZ a ds)->tH (a++b) ds
 |[],_,_,_,h=>h
 |_::a,b,_,h1,h2=>⟨h1.1,qK a b _ h1.2 h2⟩
theorem vd:∀(l:List (Int×Bool))(ds:List Nat),∃ext,VZ l ds=ds++ext/\ext.length=l.length
 |[],ds=>⟨[],by simp[VZ],rfl⟩
 |p::l,ds=>by
  obtain⟨ext,h1,h2⟩:=vd l (ds++[Jz ds p]);exact⟨Jz ds p::ext,by rw[VZ,h1];simp,by simp[h2]⟩
theorem wj:∀(l:List Sr)(ds:List Nat),tH (l.map wm) ds->mZ l ds=none
 |[],_,_=>rfl
 |s::l,ds,h=>by
  rw[mZ];have h1:(if s.within= -1 then 0 else ds.getD s.within.toNat 0)+(if s.iU=true then 0 else 1)<=20:=h.1;rw[if_neg (by omega)];exact wj l _ h.2
def Fit(num:Int)(n:Nat):Prop:=num= -1\/(0<=num/\num.toNat<n)
theorem Ii{ds ext:List Nat}{num:Int}{e:Bool}(hn:ds.length=n)(hf:Fit num n):Jz (ds++ext) (num,e)=Jz ds (num,e):=by
 unfold Jz;simp only[]
 rcases hf with h|⟨h0,h1⟩
 ·rw[if_pos h,if_pos h]
 ·have hne:num≠ -1:=by omega
  rw[if_neg hne,if_neg hne];rw[zg (by omega)]
theorem Gl{ds:List Nat}{d:Nat}{e:Bool}(hd:ds.getD n 0=d):Jz ds ((n:Int),e)=d+(if e then 0 else 1):=by
 unfold Jz;simp only[];rw[if_neg (by omega),cP,hd]
mutual
theorem V0:∀(s:St)(d n:Nat)(ds:List Nat),me d s=true->n<ds.length->ds.getD n 0=d->∀m,m+1=ds.length->tH (Dt m ⟨s.kind,s.name,s.idx,s.x,s.y,s.gT,s.body,s.els,s.arms,s.args⟩) ds\/m≠n
 |⟨k,nm,i,x,y,b_,bd,el,ar,ag⟩,d,n,ds,hm,hlt,hd,m,hl=>by
  by_cases hmn:m=n
  ·subst hmn;refine .inl ?_;obtain⟨_,_,hma,hmb,hme⟩:=jD hm;simp only[Dt];have e1:=Bc bd (d+1) (m+1) (m:Int) false ds hmb hl.symm (by rw[Gl hd];rfl) (.inr ⟨by omega,by omega⟩);obtain⟨x1,f1,g1⟩:=vd (wL (m+1) m false bd) ds;have l1:(ds++x1).length=m+1+iw bd:=by rw[ao,g1,rz];omega
   have d1:(ds++x1).getD m 0=d:=by rw[zg (by omega)];exact hd
   have e2:=RV ar (d+1) (m+1+iw bd) (m:Int) (ds++x1) hma l1 (by rw[Gl d1];rfl) (.inr ⟨by omega,by omega⟩);obtain⟨x2,f2,g2⟩:=vd (wA (m+1+iw bd) m ar) (ds++x1);have l2:(ds++x1++x2).length=m+1+iw bd+kM ar:=by rw[ao,g2,Gg];omega
   have d2:(ds++x1++x2).getD m 0=d:=by rw[zg (by omega)];exact d1
   have e3:=Bc el (if jb k el then d else d+1) (m+1+iw bd+kM ar) (m:Int) (jb k el) (ds++x1++x2) hme l2 (by rw[Gl d2];cases jb k el <;> rfl) (.inr ⟨by omega,by omega⟩);refine qK _ _ _ e1 ?_;rw[f1];refine qK _ _ _ e2 ?_;rw[f2];exact e3
  ·exact .inr hmn
theorem Bc:∀(l:List St)(d n:Nat)(num:Int)(e:Bool)(ds:List Nat),jO d l=true->ds.length=n->Jz ds (num,e)=d->Fit num n->tH (wL n num e l) ds
 |[],_,_,_,_,_,_,_,_,_=>trivial
 |s::l,d,n,num,e,ds,hm,hn,hv,hf=>by
  obtain⟨hm1,hm2⟩:=pw hm;have h20:=(jD hm1).1;rw[wL];refine⟨by rw[hv];exact h20,?_⟩;rw[hv];have hdn:(ds++[d]).getD n 0=d:=by rw[<-hn];exact Mo
  have e1:tH (Dt n s) (ds++[d]):=by
   have:=(V0 s d n (ds++[d]) hm1 (by simp;omega) hdn n (by simp[hn])).resolve_right (fun h=>h rfl)
   cases s
   exact this
  refine qK _ _ _ e1 ?_;obtain⟨x1,f1,g1⟩:=vd (Dt n s) (ds++[d]);rw[f1];have h2:=uW s n;refine Bc l d (n+jY s) num e _ hm2 (by simp only[ao,aG,eY];omega) ?_ ?_
  ·rw[aO,Ii hn hf,hv]
  ·rcases hf with h|⟨h0,h1⟩
   ·exact .inl h
   ·exact .inr ⟨h0,by omega⟩
theorem RV:∀(l:List (List Int×List St))(d n:Nat)(num:Int)(ds:List Nat),vU d l=true->ds.length=n->Jz ds (num,false)=d->Fit num n->tH (wA n num l) ds
 |[],_,_,_,_,_,_,_,_=>trivial
 |a::l,d,n,num,ds,hm,hn,hv,hf=>by
  rw[vU,aH]at hm;rw[wA];have e1:=V1 a d n num ds hm.1 hn hv hf;refine qK _ _ _ e1 ?_;obtain⟨x1,f1,g1⟩:=vd (wQ n num a) ds;rw[f1];have h2:=Mf a n num;refine RV l d (n+sd a) num _ hm.2 (by simp only[ao];omega) ?_ ?_
  ·rw[Ii hn hf,hv]
  ·rcases hf with h|⟨h0,h1⟩
   ·exact .inl h
   ·exact .inr ⟨h0,by omega⟩
theorem V1:∀(a:List Int×List St)(d n:Nat)(num:Int)(ds:List Nat),FQ d a=true->ds.length=n->Jz ds (num,false)=d->Fit num n->tH (wQ n num a) ds
 |(_,b),d,n,num,ds,hm,hn,hv,hf=>by
  rw[FQ]at hm;rw[wQ];exact Bc b d n num false ds hm hn hv hf
end
def Dn{α:Type}(m:M α):Prop:=∀r,(m r).1.rest.length<=r.rest.length
def Ds{α:Type}(m:M α):Prop:=∀r a,(m r).2=.ok a->(m r).1.rest.length<r.rest.length
variable {α:Type}{β:Type}
theorem kx{m:M α}{f:α->M β}(h:Dn m)(hf:∀a,Dn (f a)):Dn (bnd m f):=fun r=>by
 have h1:=h r;unfold bnd
 cases hm:m r with
 |mk r' x=>
  rw[hm]at h1
  cases x with
  |error e=>exact h1
  |ok a=>exact aP (hf a r') h1
theorem zh{m:M α}{f:α->M β}(h:Ds m)(hf:∀a,Dn (f a)):Ds (bnd m f):=fun r b hb=>by
 have h1:=h r;unfold bnd at hb ⊢
 cases hm:m r with
 |mk r' x=>
  rw[hm]at h1 hb
  cases x with
  |error e=>cases hb
  |ok a=>exact Nat.lt_of_le_of_lt (hf a r') (h1 a rfl)
theorem Ij{m:M α}{f:α->M β}(h:Dn m)(hf:∀a,Ds (f a)):Ds (bnd m f):=fun r b hb=>by
 have h1:=h r;unfold bnd at hb ⊢
 cases hm:m r with
 |mk r' x=>
  rw[hm]at h1 hb
  cases x with
  |error e=>cases hb
  |ok a=>exact aJ (hf a r' b hb) h1
variable {m:M Unit}
theorem ka{f:M β}(h:Dn m)(hf:Dn f):Dn (thn m f):=kx h fun _=>hf
theorem qu{f:M β}(h:Ds m)(hf:Dn f):Ds (thn m f):=zh h fun _=>hf
theorem tf{f:M β}(h:Dn m)(hf:Ds f):Ds (thn m f):=Ij h fun _=>hf
theorem nr{l:List Tk}{x:List Pt}(h:parse l=.ok (x,q)):q.length+1<=l.length:=by
 unfold parse at h
 cases hr:rd (fuel l) (.row 0) 0 l with
 |none=>rw[hr]at h;cases h
 |some res=>
  rw[hr]at h
  cases res with
  |error e=>cases h
  |ok p=>
   obtain⟨y,r⟩:=p;simp only[]at h
   split at h
   ·cases h
   ·injection h with h
    injection h with h1 h2
    subst h1 h2;exact(jA hr).len
theorem kV(l:List Tk):l.tail.length<=l.length:=by rw[List.length_tail];omega
theorem Cd{l:List Tk}{k:Int}(h:(jW l).kind=k)(hk:k≠0):l.tail.length<l.length:=by
 cases l with
 |nil=>exact absurd h.symm hk
 |cons a b=>simp
theorem ve{k:Int}{s:Bs}(h:jI k s r=true)(hk:k≠0):(jF r).rest.length<r.rest.length:=by
 unfold jI at h;rw[aH,decide_eq_true_eq]at h;exact Cd h.1 hk
theorem gV(k:Int)(s:Bs):Dn (lB k s):=fun r=>by
 unfold lB
 split
 ·exact kV _
 ·exact aj _
theorem Tu{k:Int}(s:Bs)(hk:k≠0):Ds (lB k s):=fun r a h=>by
 unfold lB at h ⊢
 split
 ·next h2=>exact ve h2 hk
 ·next h2=>rw[if_neg h2]at h;cases h
theorem Tw:Ds anyM:=fun r a h=>by
 unfold anyM at h ⊢
 split
 ·next h2=>exact Cd h2 (by decide)
 ·next h2=>rw[if_neg h2]at h;cases h
theorem Gm:Dn anyM:=fun r=>by
 unfold anyM
 split
 ·exact kV _
 ·exact aj _
theorem PM:Ds kN:=fun r a h=>by
 unfold kN at h ⊢
 split
 ·next h2=>rw[if_pos h2]at h;exact Tw r a h
 ·next h2=>rw[if_neg h2]at h;cases h
theorem qb:Dn kN:=fun r=>by
 unfold kN
 split
 ·exact Gm r
 ·exact aj _
theorem PN:Ds ir:=fun r a h=>by
 unfold ir at h ⊢
 cases hp:parse r.rest with
 |error z=>rw[hp]at h;cases h
 |ok p=>obtain⟨x,q⟩:=p;exact nr hp
theorem iR:Dn ir:=fun r=>by
 unfold ir
 cases hp:parse r.rest with
 |error z=>exact aj _
 |ok p=>obtain⟨x,q⟩:=p;exact Nat.le_of_lt (nr hp)
theorem Bd(b:Bool)(r:Rs):∃r1,r1.rest.length<=r.rest.length/\(((j8 b r)=(r1,.error .tok))\/((jW r1.rest).kind=2/\∃n,j8 b r=(jF r1,.ok n))):=by
 refine⟨if jI 3 jV r=true then jF r else r,?_,?_⟩
 ·split
  ·exact kV _
  ·exact aj _
 ·unfold j8;simp only[];generalize(if jI 3 jV r=true then jF r else r)=r1
  by_cases h2:(jW r1.rest).kind≠2\/(jW r1.rest).ty≠0\/b=true/\(jW r1.rest).n=0
  ·exact .inl (by rw[if_pos h2])
  ·rw[if_neg h2]
   have hk:(jW r1.rest).kind=2:=by
    apply di;intro hn;exact h2 (.inl hn)
   by_cases h3:jk (if jI 3 jV r=true then -(jW r1.rest).n else(jW r1.rest).n)=true
   ·exact .inr ⟨hk,_,by rw[if_pos h3]⟩
   ·exact .inl (by rw[if_neg h3])
theorem Gn(b:Bool):Dn (j8 b):=fun r=>by
 obtain⟨r1,h1,h|⟨_,n,h⟩⟩:=Bd b r
 ·rw[h];exact h1
 ·rw[h];exact aP (kV _) h1
theorem Mp(b:Bool):Ds (j8 b):=fun r a h0=>by
 obtain⟨r1,h1,h|⟨hk,n,h⟩⟩:=Bd b r
 ·rw[h]at h0;cases h0
 ·rw[h];exact aJ (Cd hk (by decide)) h1
theorem qe{m:M α}(h:∀r,(m r).1.rest=r.rest):Dn m:=fun r=>by rw[h r];exact aj _
theorem wk(n m:Nat):Dn (jZ n m):=qe fun _=>rfl
theorem Tx(s:St):Dn (K7 s):=qe fun _=>rfl
theorem vf(s:St):Dn (iG s):=qe fun _=>rfl
theorem Ty(e:Bool):Dn (tt e):=qe fun _=>rfl
theorem qv(a:α):Dn (ret a):=qe fun _=>rfl
theorem Gp:Dn I2:=fun _=>kV _
theorem Ce(s:St):Dn (kI s):=ka (gV _ _) (Tx s)
theorem sJ:Dn iQ:=ka (gV _ _) (qe fun _=>rfl)
theorem Eo:Dn gZ:=qe fun r=>by
 unfold gZ;simp only[]
 split
 ·split <;> rfl
 ·rfl
theorem Ik(e:Bool):Ds (mM e):=tf Gp (zh PN fun _=>ka (gV _ _) (ka (vf _) (Ty e)))
theorem Ep{c:Rs->Bool}{m n:M α}(hm:Dn m)(hn:Dn n):Dn (fun r=>if c r then m r else n r):=fun r=>by
 show(if c r then m r else n r).1.rest.length<=_
 split
 ·exact hm r
 ·exact hn r
theorem Cf:Dn xo:=Ep (c:=jI 3 vT) (ka (gV _ _) (kx iR fun _=>kx (gV _ _) fun _=>qv _)) (qv _)
theorem Es:∀(f:Nat)(l:List (Bs×List Pt)),Dn (lI f l)
 |0,l=>qv l
 |f+1,l=>kx Gm fun nm=>ka (gV _ _) (kx iR fun x=>ka (wk _ _) (fun r=>by
  show(if jI 3 ja r=true then lI f (l++[(nm,x)]) (jF r)else(r,.ok (l++[(nm,x)]))).1.rest.length<=_
  split
  ·exact aP (Es f _ _) (kV _)
  ·exact aj _))
theorem vg:Dn kD:=fun r=>by
 unfold kD
 split
 ·exact aj _
 ·exact Es _ _ r
theorem Aq(nm:Bs):Dn (iP nm):=Ep (c:=jI 3 tr) (ka (gV _ _) (kx vg fun _=>ka (gV _ _) (Ce _))) (kx Cf fun _=>ka (gV _ _) (kx iR fun _=>Ce _))
theorem Mq:Dn K8:=Ep (c:=jI 1 vL) (ka (gV _ _) (Gn true)) (qv _)
theorem vh:∀(f:Nat)(l:List Int),Dn (pO f l)
 |0,l=>qv l
 |f+1,l=>kx (Gn false) fun n=>ka (wk _ _) (fun r=>by
  show(if jI 3 ja r=true then pO f (l++[n]) (jF r)else(r,.ok (l++[n]))).1.rest.length<=_
  split
  ·exact aP (vh f _ _) (kV _)
  ·exact aj _)
theorem PO(f:Nat)(l:List Int):Ds (pO (f+1) l):=zh (Mp false) fun n=>ka (wk _ _) (fun r=>by
  show(if jI 3 ja r=true then pO f (l++[n]) (jF r)else(r,.ok (l++[n]))).1.rest.length<=_
  split
  ·exact aP (vh f _ _) (kV _)
  ·exact aj _)
theorem PQ(ls:List Int):Dn (fun r1=>(thn (jZ ((top r1).s.arms.length+1) 32) (iO jB)) (iS {top r1 with s:={(top r1).s with arms:=(top r1).s.arms++[(ls,[])]}} r1)):=fun r1=>
 ka (wk ((top r1).s.arms.length+1) 32) (gV 3 jB) (iS {top r1 with s:={(top r1).s with arms:=(top r1).s.arms++[(ls,[])]}} r1)
theorem Tz:Ds qY:=fun r a h=>zh (PO r.rest.length []) PQ r a h
theorem PR:Dn jT:=fun r=>by
 unfold jT
 split
 ·exact aj _
 ·exact kV _
theorem PS{r:Rs}(h:(jT r).2=.ok true):(jT r).1.rest.length<r.rest.length:=by
 unfold jT at h ⊢
 split
 ·next h2=>rw[if_pos h2]at h;cases h
 ·next h2=>
  have hi:jI 1 lH r=true:=by
   apply di;intro hn;exact h2 (.inr (by simpa using hn))
  exact ve hi (by decide)
theorem Be(hm:Ds m):Ds (bnd jT fun b=>if b then ret ()else m):=fun r a h=>by
 have h1:=PR r;have h2:=@PS r;unfold bnd at h ⊢
 cases he:jT r with
 |mk r' x=>
  rw[he]at h h1 h2
  cases x with
  |error e=>cases h
  |ok b=>
   cases b with
   |true=>exact h2 rfl
   |false=>exact aJ (hm r' a h) h1
theorem kK(s:Bs):Ds (gU s):=Tu s (by decide)
theorem Mr:Dn mN:=kx iR fun _=>qe fun _=>rfl
theorem Et:Ds jd:=fun r a h=>by
 unfold jd at h ⊢
 split
 ·next h2=>rw[if_pos h2]at h;exact tf Eo (Ik true) _ a h
 ·next h2=>rw[if_neg h2]at h;exact Be (qu (kK _) sJ) r a h
theorem Cg:Ds iN:=fun r a h=>by
 unfold iN at h ⊢
 split
 ·next h2=>rw[if_pos h2]at h;exact Tz r a h
 ·next h2=>rw[if_neg h2]at h;exact Be (qu (kK _) sJ) r a h
theorem Bf:Ds iq:=fun r a h=>by
 unfold iq at h ⊢
 split
 ·next h2=>rw[if_pos h2]at h;exact Et r a h
 ·next h2=>
  rw[if_neg h2]at h
  split
  ·next h3=>rw[if_pos h3]at h;exact Cg r a h
  ·next h3=>
   rw[if_neg h3]at h
   split
   ·next h4=>rw[if_pos h4]at h;exact qu (kK _) sJ r a h
   ·next h4=>
    rw[if_neg h4]at h
    split
    ·next h5=>rw[if_pos h5]at h;exact qu (kK _) (ka Mr (ka (gV _ _) sJ)) r a h
    ·next h5=>rw[if_neg h5]at h;exact qu (kK _) sJ r a h
theorem zi(s:St):Ds (thn (iG s) iq):=tf (vf s) Bf
theorem Ms(w:Bs):Ds (jq w):=by
 unfold jq
 split
 ·exact Ik false
 split
 ·exact qu (kK _) (kx iR fun _=>ka (gV _ _) (vf _))
 split
 ·exact qu (kK _) (vf _)
 split
 ·exact qu (kK _) (kx qb fun _=>ka (gV _ _) (kx iR fun _=>ka (gV _ _) (kx iR fun _=>kx Mq fun _=>ka (gV _ _) (vf _))))
 split
 ·exact tf (gV _ _) (Ij iR fun _=>tf (gV _ _) (zi _))
 split
 ·exact qu (kK _) (Ce _)
 split
 ·exact qu (kK _) (Ce _)
 ·exact zh PM fun nm=>Aq nm
variable {r':Rs}
theorem wq(h:turn r=some (r',.ok ())):r'.rest.length<r.rest.length:=by
 unfold turn at h
 split at h
 ·have:=tf Eo (Ms (jW r.rest).s) r () (by
   have:=congrArg Prod.snd (an h)
   exact this)
  rw[show(thn gZ (jq (jW r.rest).s) r).1=r' from congrArg fP (an h)]at this;exact this
 ·split at h
  ·have:=Bf r () (congrArg Prod.snd (an h));rw[show(iq r).1=r' from congrArg fP (an h)]at this;exact this
  ·cases h
theorem Eu(h:Goes r r')(ht:turn r'=none):∀f,r.rest.length<f->oV f r=(r',.ok ()):=by
 induction h with
 |refl r=>
  intro f hf
  cases f with
  |zero=>omega
  |succ f=>rw[oV,ht]
 |step h _ ih=>
  intro f hf
  cases f with
  |zero=>omega
  |succ f=>
   rw[oV,h];exact ih ht f (by have:=wq h;omega)
theorem Ch{l:List St}(h:mL l=true):lC (iV l)=.ok (l,[]):=by
 unfold mL at h;rw[aH,decide_eq_true_eq]at h;obtain⟨r,g,e1,e2,e3,e4⟩:=mW l (fun s hs=>(Cc s).1) 1 (AM (iV l)) [] _ [] h.2 (by simp[AM]) rfl (by simp[st0]);rw[pz _ _ rfl (by simp[st0])]at e2
 have ht:turn r=none:=by
  unfold turn;have:qk r=false:=by unfold qk;rw[e1];rfl
  rw[this,if_neg (by decide),if_neg (by rw[e2];simp)]
 have hrun:=Eu g ht ((iV l).length+1) (by show(iV l).length<_;omega);unfold lC;rw[hrun];simp only[]
 have hd:mZ r.gY []=none:=by
  apply wj;rw[e4];exact Bc l 1 0 (-1) false [] h.2 rfl rfl (.inl rfl)
 rw[hd];simp only[]
 have hlen:r.gY.length=iw l:=by
  have:=congrArg fp e4;rw[ao,aQ,rz]at this
  simpa[AM]using this
 rw[if_neg (by
  intro hc
  rcases hc with hc|hc
  ·rw[e3]at hc;cases hc
  ·omega),e1,e2]
 rfl
def wW(h:Hd):Prop:=h.gX=false->h.s.kind=6->h.s.arms≠[]
def zj(l:List (List Int×List St)):Nat:=(l.map fun a=>1+a.2.length).sum
def vi(h:Hd):Nat:=1+(h.s.body.length+(h.s.els.length+zj h.s.arms))
def zk(l:List Hd):Nat:=(l.map vi).sum
def qw:List Hd->Prop
 |[]=>True
 |[h]=>h.iU=false/\h.s.kind=0
 |h::g::l=>(h.iU=true->g.s.kind=2)/\qw (g::l)
structure Good(N:Nat)(r:Rs):Prop where
 hd:r.hs≠[]
 ch:qw r.hs
 tl:∀h∈r.hs.tail,wW h
 fs:∀h∈r.hs,h.first=0\/h.first<r.gY.length
 nm:∀h∈r.hs,-1<=h.num/\h.num<(r.gY.length:Int)
 wi:∀(i:Nat) s,r.gY[i]? =some s-> -1<=s.within/\s.within<(i:Int)
 wt:zk r.hs+r.rest.length<=N+1
 st:r.gY.length+r.rest.length<=N+1
 sn:1<r.hs.length->0<r.gY.length
 le:∀s∈r.gY,s.left<=N
variable {N:Nat}
theorem Good.less(h:Good N r)(h1:r'.hs=r.hs)(h2:r'.gY=r.gY)(h3:r'.rest.length<=r.rest.length):Good N r':=by
 obtain⟨a1,a2,a3,a4,a5,a6,a7,a8,a9,a10⟩:=h;refine⟨by rw[h1];exact a1,by rw[h1];exact a2,by rw[h1];exact a3,by rw[h1,h2];exact a4,by rw[h1,h2];exact a5,by rw[h2];exact a6,by rw[h1];omega,by rw[h2];omega,by rw[h1,h2];exact a9,by rw[h2];exact a10⟩
theorem ns{h':Hd}(hc:qw (h::l))(h1:h'.iU=h.iU)(h2:h'.s.kind=h.s.kind):qw (h'::l):=by
 cases l with
 |nil=>exact⟨by rw[h1];exact hc.1,by rw[h2];exact hc.2⟩
 |cons g l=>exact⟨by rw[h1];exact hc.1,hc.2⟩
theorem ks(h:Hd)(l:List Hd):zk (h::l)=vi h+zk l:=by simp[zk]
theorem Good.set(g:Good N r){h':Hd}(hr:r.hs=h::l)(hr':r'.hs=h'::l)(hs:r'.gY=r.gY)(e1:h'.iU=h.iU)(e2:h'.s.kind=h.s.kind)(e3:h'.num=h.num)(e4:h'.first=h.first)(hw:vi h'+r'.rest.length<=vi h+r.rest.length)(hl:r'.rest.length<=r.rest.length):Good N r':=by
 obtain⟨a1,a2,a3,a4,a5,a6,a7,a8,a9,a10⟩:=g;rw[hr]at a1 a2 a3 a4 a5 a7 a9;refine⟨by rw[hr'];simp,by rw[hr'];exact ns a2 e1 e2,by rw[hr'];exact a3,?_,?_,by rw[hs];exact a6,?_,by rw[hs];omega,?_,by rw[hs];exact a10⟩
 ·rw[hr',hs];intro x hx
  rcases aI.1 hx with rfl|hx
  ·rw[e4];exact a4 h (aT ..)
  ·exact a4 x (aK _ hx)
 ·rw[hr',hs];intro x hx
  rcases aI.1 hx with rfl|hx
  ·rw[e3];exact a5 h (aT ..)
  ·exact a5 x (aK _ hx)
 ·rw[hr',ks];rw[ks]at a7;omega
 ·rw[hr',hs]
  simpa using a9
theorem vj(a b:List (List Int×List St)):zj (a++b)=zj a+zj b:=by simp[zj]
theorem Mt{l:List (List Int×List St)}{a:List Int×List St}(h:l.getLast?=some a):zj l=zj l.dropLast+(1+a.2.length):=by
 have hne:l≠[]:=by intro e;rw[e]at h;cases h
 have h2:l.getLast hne=a:=by
  rw[List.getLast?_eq_some_getLast hne]at h;exact an h
 have h3:=List.dropLast_concat_getLast hne;have h4:=congrArg zj h3;rw[vj,h2]at h4;rw[<-h4];simp[zj]
theorem Ci(h:Hd)(s:St):vi (jc h s)<=vi h+1:=by
 unfold jc
 split
 ·simp[vi];omega
 split
 ·unfold vi;simp only;rw[vj]
  cases hg:h.s.arms.getLast? with
  |none=>simp[zj];have:=List.getLast?_eq_none_iff.1 hg;rw[this];simp
  |some a=>
   have:=Mt hg;simp[zj]at this ⊢;omega
 ·simp[vi];omega
theorem Il(s:St)(ho:wW h):wW (jc h s):=by
 obtain⟨c1,c2,_,_,_⟩:=mj h s;intro i1 i2;rw[c1]at i1;rw[c2]at i2;unfold jc;rw[if_neg (by rw[i1];simp),if_pos i2];simp only;have hne:=ho i1 i2;rw[List.getLast?_eq_some_getLast hne];simp
theorem Good.add(g:Good N r)(s:St)(hr:r.hs=h::l)(hr':r'.hs=jc h s::l)(hs:r'.gY=r.gY)(hl:r'.rest.length<r.rest.length):Good N r':=by
 obtain⟨_,c2,c3,c4,c5⟩:=mj h s;have hw:=Ci h s;exact g.set hr hr' hs c5 c2 c3 c4 (by omega) (by omega)
theorem xM(h:Hd):1<=vi h:=by unfold vi;omega
theorem Im:∀(n:Nat)(l:List Hd),l.length<=n->l≠[]->lM l≠[]
 |0,l,hn,h=>absurd (cu (by omega)) h
 |n+1,[],_,h=>absurd rfl h
 |n+1,[h],_,_=>by simp[lM]
 |n+1,h::g::l,hn,_=>by
  cases he:h.iU with
  |false=>rw[qt he];simp
  |true=>rw[td he];exact Im n _ (by simp at hn ⊢;omega) (by simp)
theorem xN(P:Hd->Prop)(hadd:∀g s,P g->P (jc g s)):∀(n:Nat)(l:List Hd),l.length<=n->qw l->2<=l.length->(∀h∈l.tail,P h)->∀h∈lM l,P h
 |0,l,hn,_,h2,_=>by omega
 |n+1,[],_,_,h2,_=>by simp at h2
 |n+1,[h],_,_,h2,_=>by simp at h2
 |n+1,h::g::l,hn,hc,_,hp=>by
  have hg:P g:=hp g (by simp);have hl:∀x∈l,P x:=fun x hx=>hp x (by simp[hx])
  cases he:h.iU with
  |false=>
   rw[qt he];intro x hx
   rcases aI.1 hx with rfl|hx
   ·exact hadd g h.s hg
   ·exact hl x hx
  |true=>
   rw[td he];have hk:=hc.1 he;have hc2:=hc.2;obtain⟨_,c2,_,_,c5⟩:=mj g h.s
   cases l with
   |nil=>exact absurd (hc2.2.symm.trans hk) (by decide)
   |cons k l=>exact xN P hadd n _ (by simp at hn ⊢;omega) (ns hc2 c5 c2) (by simp) (by simpa using hl)
theorem Bg:∀(n:Nat)(l:List Hd),l.length<=n->qw l->qw (lM l)
 |0,l,hn,h=>by rw[cu (show l.length=0 by omega)];simp[lM,qw]
 |n+1,[],_,_=>by simp[lM,qw]
 |n+1,[h],_,hc=>by simpa[lM]using hc
 |n+1,h::g::l,hn,hc=>by
  obtain⟨_,c2,_,_,c5⟩:=mj g h.s;have hc2:=ns (h':=jc g h.s) hc.2 c5 c2
  cases he:h.iU with
  |false=>rw[qt he];exact hc2
  |true=>rw[td he];exact Bg n _ (by simp at hn ⊢;omega) hc2
theorem Mu:∀(n:Nat)(l:List Hd),l.length<=n->zk (lM l)<=zk l
 |0,l,hn=>by rw[cu (show l.length=0 by omega)];simp[lM]
 |n+1,[],_=>by simp[lM]
 |n+1,[h],_=>by simp[lM]
 |n+1,h::g::l,hn=>by
  have h1:=Ci g h.s;have h2:=xM h
  cases he:h.iU with
  |false=>rw[qt he];simp only[ks];omega
  |true=>
   rw[td he];refine aP (Mu n _ (by simp at hn ⊢;omega)) ?_;simp only[ks];omega
theorem Good.pop(g:Good N r)(h2:2<=r.hs.length)(hr':r'.hs=lM r.hs)(hs:r'.gY=r.gY)(hl:r'.rest.length<=r.rest.length):Good N r'/\∀h∈r'.hs,wW h:=by
 obtain⟨a1,a2,a3,a4,a5,a6,a7,a8,a9,a10⟩:=g;have hok:=xN wW (fun g s hg=>Il s hg) _ r.hs (aj _) a2 h2 a3;have hw:=Mu _ r.hs (aj _);refine⟨⟨by rw[hr'];exact Im _ _ (aj _) a1,by rw[hr'];exact Bg _ _ (aj _) a2,fun h hh=>hok h (by rw[hr']at hh;exact List.mem_of_mem_tail hh),?_,?_,by rw[hs];exact a6,by rw[hr'];omega,by rw[hs];omega,fun _=>by rw[hs];exact a9 (by omega),by rw[hs];exact a10⟩,by rw[hr'];exact hok⟩
 ·rw[hr',hs];exact xN (fun h=>h.first=0\/h.first<r.gY.length) (fun g s hg=>by rw[(mj g s).2.2.2.1];exact hg) _ r.hs (aj _) a2 h2 (fun h hh=>a4 h (List.mem_of_mem_tail hh))
 ·rw[hr',hs];exact xN (fun h=> -1<=h.num/\h.num<(r.gY.length:Int)) (fun g s hg=>by rw[(mj g s).2.2.1];exact hg) _ r.hs (aj _) a2 h2 (fun h hh=>a5 h (List.mem_of_mem_tail hh))
theorem th(hc:qw (h::l))(hk:h.s.kind≠0):∃g m,l=g::m:=by
 cases l with
 |nil=>exact absurd hc.2 hk
 |cons g m=>exact⟨g,m,rfl⟩
theorem tj(l:List Sr)(i:Nat):(Dz l i).length=l.length:=by
 unfold Dz
 split <;> simp
variable {i:Nat}{j:Nat}
theorem Mv{l:List Sr}{s:Sr}(h:(Dz l i)[j]? =some s):∃t,l[j]? =some t/\t.within=s.within/\t.left=s.left:=by
 unfold Dz at h
 split at h
 ·next t ht=>
  rw[List.getElem?_set]at h
  split at h
  ·next e=>
   subst e
   split at h
   ·obtain rfl:=an h;exact⟨t,ht,rfl,rfl⟩
   ·cases h
  ·exact⟨s,h,rfl,rfl⟩
 ·exact⟨s,h,rfl,rfl⟩
theorem PT{l:List Sr}{s:Sr}(h:s∈Dz l i):∃t∈l,t.left=s.left:=by
 obtain⟨j,hj⟩:=List.mem_iff_getElem?.1 h;obtain⟨t,h1,_,h3⟩:=Mv hj;exact⟨t,List.mem_of_getElem? h1,h3⟩
theorem Good.start(g:Good N r)(hp:r.gY.length+r.rest.length<=N):Good N (gZ r).1/\(gZ r).1.rest=r.rest/\(gZ r).1.gY.length=r.gY.length+1/\(gZ r).2=.ok ()/\zk (gZ r).1.hs=zk r.hs/\((∀h∈r.hs,wW h)->∀h∈(gZ r).1.hs,wW h)/\(gZ r).1.hs.length=r.hs.length/\(top (gZ r).1).s=(top r).s/\(gZ r).1.many=r.many/\(gZ r).1.fault=r.fault:=by
 obtain⟨a1,a2,a3,a4,a5,a6,a7,a8,a9,a10⟩:=g;obtain⟨h,l,hh⟩:∃h l,r.hs=h::l:=by cases e:r.hs with|nil=>exact absurd e a1|cons h l=>exact⟨h,l,rfl⟩
 rw[hh]at a1 a2 a3 a4 a5 a7 a9;have ht:top r=h:=by unfold top;rw[hh];rfl
 have hn:=a5 h (aT ..)
 have new:∀(L:List Sr)(e:Bool),L.length=r.gY.length->(∀(i:Nat) s,L[i]? =some s-> -1<=s.within/\s.within<(i:Int))->∀(i:Nat) s,(L++[⟨r.rest.length,h.num,e⟩])[i]? =some s-> -1<=s.within/\s.within<(i:Int):=by
  intro L e hL hw i s hs
  by_cases hi:i<L.length
  ·rw[List.getElem?_append_left hi]at hs;exact hw i s hs
  ·rw[List.getElem?_append_right (by omega)]at hs
   have:i-L.length=0:=by
    apply di;intro hne;rw[List.getElem?_eq_none (by simp;omega)]at hs
    cases hs
   rw[this]at hs;obtain rfl:=an hs;exact⟨hn.1,by simp only;omega⟩
 have lem:∀(L:List Sr)(e:Bool),(∀s∈L,s.left<=N)->∀s∈L++[(⟨r.rest.length,h.num,e⟩:Sr)],s.left<=N:=by
  intro L e hL s hs
  rcases aN.1 hs with hs|hs
  ·exact hL s hs
  ·rw[aL.1 hs];simp only;omega
 by_cases hc:h.s.kind=2/\h.gX=true
 ·by_cases he:h.s.els=[]
  ·rw[nO hh hc he];refine⟨⟨by simp,ns a2 rfl rfl,a3,?_,?_,new _ _ rfl a6,?_,by simp;omega,by simp,lem _ _ a10⟩,rfl,by simp,rfl,?_,?_,by simp[hh],by simp[top,hh],rfl,rfl⟩
   ·intro x hx
    rcases aI.1 hx with rfl|hx
    ·right;simp
    ·rcases a4 x (aK _ hx)with e|e
     ·exact .inl e
     ·right;simp;omega
   ·intro x hx
    rcases aI.1 hx with rfl|hx
    ·simp;omega
    ·have:=a5 x (aK _ hx);simp;omega
   ·simp only[ks]at a7 ⊢;exact a7
   ·rw[hh];rfl
   ·rw[hh];intro hx x hm
    rcases aI.1 hm with rfl|hm
    ·exact hx h (aT ..)
    ·exact hx x (aK _ hm)
  ·rw[rA hh hc he];refine⟨⟨by simp[hh],by simpa[hh]using a2,by simpa[hh]using a3,?_,?_,new _ _ (tj _ _) (fun i s hs=>?_),by simp only[hh];exact a7,by simp[tj];omega,by simp,lem _ _ (fun s hs=>?_)⟩,rfl,by simp[tj],rfl,rfl,fun hx=>hx,rfl,rfl,rfl,rfl⟩
   ·simp only[hh];intro x hx
    rcases a4 x hx with e|e
    ·exact .inl e
    ·right;simp[tj];omega
   ·simp only[hh];intro x hx;have:=a5 x hx;simp[tj];omega
   ·obtain⟨t,t1,t2,_⟩:=Mv hs;rw[<-t2];exact a6 i t t1
   ·obtain⟨t,t1,t2⟩:=PT hs;rw[<-t2];exact a10 t t1
 ·rw[pZ hh hc];refine⟨⟨by simp[hh],by simpa[hh]using a2,by simpa[hh]using a3,?_,?_,new _ _ rfl a6,by simp only[hh];exact a7,by simp;omega,by simp,lem _ _ a10⟩,rfl,by simp,rfl,rfl,fun hx=>hx,rfl,rfl,rfl,rfl⟩
  ·simp only[hh];intro x hx
   rcases a4 x hx with e|e
   ·exact .inl e
   ·right;simp;omega
  ·simp only[hh];intro x hx;have:=a5 x hx;simp;omega
theorem Good.hold(g:Good N r)(s:St)(hb:s.body=[])(he:s.els=[])(ha:s.arms=[])(ho:∀h∈r.hs,wW h)(h0:0<r.gY.length)(hw:zk r.hs+r.rest.length<=N):Good N (iG s r).1:=by
 obtain⟨a1,a2,a3,a4,a5,a6,a7,a8,a9,a10⟩:=g;obtain⟨h,l,hh⟩:∃h l,r.hs=h::l:=by cases e:r.hs with|nil=>exact absurd e a1|cons h l=>exact⟨h,l,rfl⟩
 refine⟨by simp[iG],?_,ho,?_,?_,a6,?_,a8,fun _=>h0,a10⟩
 ·simp only[iG,hh];rw[hh]at a2;exact⟨fun e=>by simp at e,a2⟩
 ·intro x hx
  rcases aI.1 hx with rfl|hx
  ·exact .inl rfl
  ·exact a4 x hx
 ·intro x hx
  rcases aI.1 hx with rfl|hx
  ·simp only[iG];omega
  ·exact a5 x hx
 ·simp only[iG,ks];have:vi ⟨s,(r.gY.length:Int)-1,false,false,0⟩=1:=by simp[vi,hb,he,ha,zj]
  rw[this];omega
theorem Good.els(g:Good N r){k:Hd}(hh:r.hs=h::k::l)(e:Bool)(hk:e=true->k.s.kind=2):Good N (tt e r).1:=by
 obtain⟨a1,a2,a3,a4,a5,a6,a7,a8,a9,a10⟩:=g;have ht:top r=h:=by unfold top;rw[hh];rfl
 have hs:(tt e r).1.hs={h with iU:=e}::k::l:=by simp[tt,iS,ht,hh]
 rw[hh]at a2 a3 a4 a5 a7 a9;refine⟨by rw[hs];simp,by rw[hs];exact⟨hk,a2.2⟩,by rw[hs];exact a3,?_,?_,a6,?_,a8,fun _=>a9 (by simp),a10⟩
 ·rw[hs];intro x hx
  rcases aI.1 hx with rfl|hx
  ·exact a4 h (aT ..)
  ·exact a4 x (aK _ hx)
 ·rw[hs];intro x hx
  rcases aI.1 hx with rfl|hx
  ·exact a5 h (aT ..)
  ·exact a5 x (aK _ hx)
 ·rw[hs];exact a7
abbrev Sx:=Rs×Option St
abbrev Pm:=Sx->Sx×Except Er Unit
def oc:List Pm->Pm
 |[],s=>(s,.ok ())
 |m::l,s=>match m s with
  |(s',.ok _)=>oc l s'
  |(s',.error e)=>(s',.error e)
def kW:List ((Sx->Prop)×Pm)->Sx->Prop
 |[],_=>True
 |(p,m)::l,s=>p s/\∀s',m s=(s',.ok ())->kW l s'
def ij(m:M Unit):Pm:=fun s=>match m s.1 with
 |(r',.ok _)=>((r',s.2),.ok ())
 |(r',.error e)=>((r',none),.error e)
def sK(m:M Unit):Pm:=fun s=>(((m s.1).1,none),(m s.1).2)
def gW{α:Type}(m:M α)(f:α->St->St):Pm:=fun s=>match m s.1 with
 |(r',.ok a)=>((r',s.2.map (f a)),.ok ())
 |(r',.error e)=>((r',none),.error e)
def jf(m:St->M Unit):Pm:=fun s=>match s.2 with
 |some t=>(((m t s.1).1,none),(m t s.1).2)
 |none=>((s.1,none),.ok ())
def Rel(l:List Pm)(s:St)(m:M Unit):Prop:=∀r,oc l (r,some s)=(((m r).1,none),(m r).2)
def Mw(l:List Pm)(m:M Unit):Prop:=∀r,oc l (r,none)=(((m r).1,none),(m r).2)
variable {s:St}
theorem pA{l:List Pm}{n:M Unit}(h:Rel l s n):Rel (ij m::l) s (thn m n):=fun r=>by
 unfold oc ij thn bnd;simp only
 cases hm:m r with
 |mk r' x=>
  cases x with
  |ok u=>simp only;exact h r'
  |error e=>rfl
theorem vk{l:List Pm}{m:M α}{f:α->St->St}{n:α->M Unit}(h:∀a,Rel l (f a s) (n a)):Rel (gW m f::l) s (bnd m n):=fun r=>by
 unfold oc gW bnd;simp only
 cases hm:m r with
 |mk r' x=>
  cases x with
  |ok a=>simp only[cm];exact h a r'
  |error e=>rfl
theorem vl{m:St->M Unit}:Rel [jf m] s (m s):=fun r=>by
 unfold oc jf oc;simp only
 cases hm:m s r with
 |mk r' x=>
  cases x with
  |ok u=>rfl
  |error e=>rfl
theorem Mx:Mw [sK m] m:=fun r=>by
 unfold oc sK oc;simp only
 cases hm:m r with
 |mk r' x=>
  cases x with
  |ok u=>rfl
  |error e=>rfl
theorem TA{l:List Pm}{m:St->M Unit}{n:M Unit}(h:Mw l n):Rel (jf m::l) s (thn (m s) n):=fun r=>by
 unfold oc jf thn bnd;simp only
 cases hm:m s r with
 |mk r' x=>
  cases x with
  |ok u=>simp only;exact h r'
  |error e=>rfl
theorem TC{l:List Pm}{n:M Unit}(h:Mw l n):Mw (ij m::l) (thn m n):=fun r=>by
 unfold oc ij thn bnd;simp only
 cases hm:m r with
 |mk r' x=>
  cases x with
  |ok u=>simp only;exact h r'
  |error e=>rfl
def Quiet{α:Type}(m:M α):Prop:=∀r,(m r).1.hs=r.hs/\(m r).1.gY=r.gY
theorem rV{m:M α}{f:α->M β}(h:Quiet m)(hf:∀a,Quiet (f a)):Quiet (bnd m f):=fun r=>by
 have h1:=h r;unfold bnd
 cases hm:m r with
 |mk r' x=>
  rw[hm]at h1
  cases x with
  |error e=>exact h1
  |ok a=>exact⟨(hf a r').1.trans h1.1,(hf a r').2.trans h1.2⟩
theorem vm{f:M β}(h:Quiet m)(hf:Quiet f):Quiet (thn m f):=rV h fun _=>hf
theorem tI(a:α):Quiet (ret a):=fun _=>⟨rfl,rfl⟩
theorem RW:Quiet I2:=fun _=>⟨rfl,rfl⟩
theorem iB(k:Int)(s:Bs):Quiet (lB k s):=fun r=>by
 unfold lB
 split <;> exact⟨rfl,rfl⟩
theorem My:Quiet anyM:=fun r=>by
 unfold anyM
 split <;> exact⟨rfl,rfl⟩
theorem ud:Quiet kN:=fun r=>by
 unfold kN
 split
 ·exact My r
 ·exact⟨rfl,rfl⟩
theorem jJ:Quiet ir:=fun r=>by
 unfold ir
 split <;> exact⟨rfl,rfl⟩
theorem Io(b:Bool):Quiet (j8 b):=fun r=>by
 unfold j8;simp only
 by_cases hm:jI 3 jV r=true
 ·simp only[hm,if_true]
  repeat' split
  all_goals exact⟨rfl,rfl⟩
 ·simp only[hm]
  repeat' split
  all_goals first|exact⟨rfl,rfl⟩|simp_all
theorem Ip(n m:Nat):Quiet (jZ n m):=fun _=>⟨rfl,rfl⟩
theorem PU{c:Rs->Bool}{m n:M α}(hm:Quiet m)(hn:Quiet n):Quiet (fun r=>if c r then m r else n r):=fun r=>by
 simp only
 split
 ·exact hm r
 ·exact hn r
theorem Mz:Quiet xo:=PU (c:=jI 3 vT) (vm (iB _ _) (rV jJ fun _=>rV (iB _ _) fun _=>tI _)) (tI _)
theorem V2:Quiet K8:=PU (c:=jI 1 vL) (vm (iB _ _) (Io true)) (tI _)
theorem Iq:∀(f:Nat)(l:List (Bs×List Pt)),Quiet (lI f l)
 |0,l=>tI l
 |f+1,l=>rV My fun nm=>vm (iB _ _) (rV jJ fun x=>vm (Ip _ _) fun r=>by
   split
   ·exact Iq f _ (jF r)
   ·exact⟨rfl,rfl⟩)
theorem Cj:Quiet kD:=fun r=>by
 unfold kD
 split
 ·exact⟨rfl,rfl⟩
 ·exact Iq _ _ r
theorem Ck:∀(f:Nat)(l:List Int),Quiet (pO f l)
 |0,l=>tI l
 |f+1,l=>rV (Io false) fun n=>vm (Ip _ _) fun r=>by
   split
   ·exact Ck f _ (jF r)
   ·exact⟨rfl,rfl⟩
def ue(l:List ((Sx->Prop)×Pm))(r0:Rs)(k:Nat):Prop:=∀r t,r.hs=r0.hs->r.gY=r0.gY->r.rest.length+k<=r0.rest.length->kW l (r,some t)
abbrev anyS:Sx->Prop:=fun _=>True
abbrev jG:Sx->Prop:=fun s=>∃t,s.2=some t
variable {r0:Rs}
theorem od{l:List ((Sx->Prop)×Pm)}{k:Nat}(hq:Quiet m)(hd:Dn m)(hs:j=0\/j=1/\Ds m)(h:ue l r0 (k+j)):ue ((anyS,ij m)::l) r0 k:=fun r t h1 h2 h3=>by
 refine⟨trivial,fun s' e=>?_⟩;unfold ij at e;simp only at e;have q:=hq r;have d:=hd r
 cases hm:m r with
 |mk r' x=>
  rw[hm]at e q d
  cases x with
  |error e'=>cases e
  |ok u=>
   simp only at e;obtain rfl:=(cv e).1;refine h r' t (q.1.trans h1) (q.2.trans h2) ?_
   rcases hs with rfl|⟨rfl,hs⟩
   ·simp only at d;omega
   ·have:=hs r u (by rw[hm]);rw[hm]at this;simp only at this;omega
theorem rF{l:List ((Sx->Prop)×Pm)}{k:Nat}{m:M α}{f:α->St->St}(hq:Quiet m)(hd:Dn m)(hs:j=0\/j=1/\Ds m)(h:ue l r0 (k+j)):ue ((jG,gW m f)::l) r0 k:=fun r t h1 h2 h3=>by
 refine⟨⟨t,rfl⟩,fun s' e=>?_⟩;unfold gW at e;simp only at e;have q:=hq r;have d:=hd r
 cases hm:m r with
 |mk r' x=>
  rw[hm]at e q d
  cases x with
  |error e'=>cases e
  |ok u=>
   simp only[cm]at e;obtain rfl:=(cv e).1;refine h r' (f u t) (q.1.trans h1) (q.2.trans h2) ?_
   rcases hs with rfl|⟨rfl,hs⟩
   ·simp only at d;omega
   ·have:=hs r u (by rw[hm]);rw[hm]at this;simp only at this;omega
def mx(N:Nat):Sx->Prop:=fun s=>(∃t,s.2=some t)/\(∀h∈s.1.hs,wW h)/\0<s.1.gY.length/\zk s.1.hs+s.1.rest.length<=N
def pB:Sx->Prop:=fun s=>(∃t,s.2=some t)/\∀h∈s.1.hs,wW h
def Cl:Sx->Prop:=fun s=>2<=s.1.hs.length
theorem Bh{k:Nat}{l:List ((Sx->Prop)×Pm)}(ho:∀h∈r0.hs,wW h)(h0:0<r0.gY.length)(hw:zk r0.hs+r0.rest.length<=N+k)(hl:∀r t,r.hs=r0.hs->r.gY=r0.gY->r.rest.length+k<=r0.rest.length->∀s',jf iG (r,some t)=(s',.ok ())->kW l s'):ue ((mx N,jf iG)::l) r0 k:=fun r t h1 h2 h3=>
 ⟨⟨⟨t,rfl⟩,by rw[h1];exact ho,by rw[h2];exact h0,by simp only[h1];omega⟩,hl r t h1 h2 h3⟩
theorem vn{k:Nat}(ho:∀h∈r0.hs,wW h):ue [(pB,jf kI)] r0 k:=fun r t h1 _ _=>
 ⟨⟨⟨t,rfl⟩,by rw[h1];exact ho⟩,fun _ _=>trivial⟩
def rG(x:List Pt)(s:St):St:={s with x:=x}
def XT(x:List Pt)(s:St):St:={s with y:=x}
def XU(x:List Pt)(s:St):St:={s with idx:=x}
def toN(x:Bs)(s:St):St:={s with name:=x}
def toB(x:Int)(s:St):St:={s with gT:=x}
def Ar(x:List (Bs×List Pt))(s:St):St:={s with args:=x}
theorem JA:Rel [ij (gU jj),gW ir rG,ij (gU qX),jf iG] {st0 with kind:=3} (thn (gU jj) (bnd ir fun x=>thn (gU qX) (iG {st0 with kind:=3,x:=x}))):=pA (vk fun _=>pA vl)
theorem Gq:Rel [ij (gU iT),jf iG] {st0 with kind:=4} (thn (gU iT) (iG {st0 with kind:=4})):=pA vl
theorem MA:Rel [ij (gU kQ),jf kI] {st0 with kind:=8} (thn (gU kQ) (kI {st0 with kind:=8})):=pA vl
theorem Gr:Rel [ij (gU js),jf kI] {st0 with kind:=9} (thn (gU js) (kI {st0 with kind:=9})):=pA vl
def JB:M (Option Int):=fun r=>if jI 1 vL r then(bnd (thn (gU vL) (j8 true)) fun n=>ret (some n)) r else(r,.ok none)
def xw(x:Option Int)(s:St):St:=match x with
 |some n=>{s with gT:=n}
 |none=>s
theorem V3:Quiet JB:=PU (c:=jI 1 vL) (rV (vm (iB _ _) (Io true)) fun _=>tI _) (tI _)
theorem TD:Dn JB:=Ep (c:=jI 1 vL) (kx (ka (gV _ _) (Gn true)) fun _=>qv _) (qv _)
theorem TE{l:List Pm}{n:Int->M Unit}(hs:s.gT=1)(h:∀b,Rel l {s with gT:=b} (n b)):Rel (gW JB xw::l) s (bnd K8 n):=fun r=>by
 have hs':s={s with gT:=1}:=by cases s;simp only at hs;subst hs;rfl
 unfold oc gW bnd JB K8;simp only
 by_cases hb:jI 1 vL r=true
 ·rw[if_pos hb,if_pos hb];unfold bnd
  cases hm:(thn (gU vL) (j8 true)) r with
  |mk r' x=>
   cases x with
   |ok a=>simp only[ret,cm,xw];exact h a r'
   |error e=>rfl
 ·rw[if_neg hb,if_neg hb];simp only[cm,xw];rw[hs'];exact h 1 r
theorem PV:Rel [ij (gU j7),gW kN toN,ij (iO iZ),gW ir rG,ij (gU vS),gW ir XT,gW JB xw,ij (gU qX),jf iG] {st0 with kind:=5,gT:=1} (thn (gU j7) (bnd kN fun nm=>thn (iO iZ) (bnd ir fun x=>thn (gU vS) (bnd ir fun y=>bnd K8 fun b=>thn (gU qX) (iG {st0 with kind:=5,name:=nm,x:=x,y:=y,gT:=b}))))):=
 pA (vk fun _=>pA (vk fun _=>pA (vk fun _=>TE rfl fun _=>pA vl)))
theorem MB:Rel [ij (gU jE),gW ir rG,ij (gU Dr),jf iG,sK iq] {st0 with kind:=6} (thn (gU jE) (bnd ir fun x=>thn (gU Dr) (thn (iG {st0 with kind:=6,x:=x}) iq))):=pA (vk fun _=>pA (TA Mx))
theorem MC:Rel [gW ir rG,ij (gU jK),jf iG] {st0 with kind:=2} (bnd ir fun x=>thn (gU jK) (iG {st0 with kind:=2,x:=x})):=vk fun _=>pA vl
def Cm(t:St):M Unit:=iP t.name
theorem JC:Rel [gW kN toN,jf Cm] st0 (bnd kN iP):=vk fun _=>vl
theorem MD(nm:Bs):Rel [ij (iO tr),gW kD Ar,ij (iO grp),jf kI] {st0 with kind:=7,name:=nm} (thn (iO tr) (bnd kD fun a=>thn (iO grp) (kI {st0 with kind:=7,name:=nm,args:=a}))):=pA (vk fun _=>pA vl)
theorem JD(s:Bs):Mw [ij (gU s),sK iQ] (thn (gU s) iQ):=TC Mx
structure Cx where
 B:Nat
 R:Nat
 t0:Addr
 t1:Addr
 tv:Value
 toks:List Tv
 dp:Int
structure JE(toks:List Tv):Prop where
 hl:toks.length<=900000000
 hs:∀i,(gQ toks i).s.size<=140737488355000
 hn:∀i,-9223372036854775808<=(gQ toks i).n/\(gQ toks i).n<=9223372036854775807
structure ME(c:Cx)(w:World):Prop where
 hB:13<c.B
 e0:w.cell? ⟨0,0,none⟩=some (ln c.t0)
 e1:w.cell? ⟨1,0,none⟩=some (ln c.t1)
 tG:kZ w
 tks:JE c.toks
variable {w':World}{O:List Nat}
theorem kZ.mF(h:kZ w)(hk:gR O w w')(hO:∀k,k∈O->13<k):kZ w':=by
 have n:∀b,b<=13->b∉O:=fun b hb hm=>by have:=hO b hm;omega
 exact⟨h.conv.mF hk (n _ (by omega)),h.ops.mF hk (n _ (by omega)),h.kw.mF hk (n _ (by omega)),h.base.mF hk (n _ (by omega)),h.sign.mF hk (n _ (by omega)),h.span.mF hk (n _ (by omega)),h.ty.mF hk (n _ (by omega)),h.most.imp fun _ e=>(hk.cell (World.block_lt_of_cell? w _ e) (n _ (by show 9<=13;omega))).trans e,h.unit.mF hk (n _ (by omega))⟩
variable {c:Cx}
theorem ME.keep(h:ME c w)(hk:gR O w w')(hO:∀k,k∈O->c.B<=k):ME c w':=by
 have hB:=h.hB;have n:∀b,b<=13->b∉O:=fun b hb hm=>by have:=hO b hm;omega
 exact⟨hB,(hk.cell (World.block_lt_of_cell? w _ h.e0) (n _ (by show 0<=13;omega))).trans h.e0,(hk.cell (World.block_lt_of_cell? w _ h.e1) (n _ (by show 1<=13;omega))).trans h.e1,h.tG.mF hk (fun k hm=>by have:=hO k hm;omega),h.tks⟩
structure oh(c:Cx)(X:List Nat)(r:Rs)(at_:Nat)(hv sv:Value)(fa fc:Int)(os O:List Nat)(w:World):Prop where
 env:ME c w
 rb:RB c.B c.R c.tv c.toks at_ hv sv r.many fa fc c.dp w
 rest:r.rest=lst c.toks at_
 fl:r.fault.2≠0->fa=((c.toks.length-r.fault.1:Nat):Int)/\fc=r.fault.2
 hs:∃cs,w.ownsRow c.B 57 14 hv r.hs.length cs/\hsR c.B w (ji O) r.hs.reverse cs os
 st:w.ownsRow c.B 103 3 sv r.gY.length (uY c.toks.length r.gY)
 own:O=X++c.R::(hv.ownBlock.toList++(sv.ownBlock.toList++os))
 nodup:O.Nodup
 high:∀b,b∈O->c.B<=b/\b<w.heap.size
 good:Good c.toks.length r
def RM(c:Cx)(X:List Nat)(r:Rs)(O:List Nat)(w:World):Prop:=∃at_ hv sv fa fc os,oh c X r at_ hv sv fa fc os O w
variable {os:List Nat}{X:List Nat}
theorem oh.iL(h:oh c X r at_ hv sv fa fc os O w):c.R∈O:=by rw[h.own];simp
variable {T:Nat}
theorem oh.kc(h:oh c X r at_ hv sv fa fc os O w)(hT:T∈X):T∈O:=by rw[h.own];simp[hT]
theorem RM.iL(h:RM c X r O w):c.R∈O:=by
 obtain⟨_,_,_,_,_,_,h⟩:=h;exact h.iL
theorem RM.kc(h:RM c X r O w)(hT:T∈X):T∈O:=by
 obtain⟨_,_,_,_,_,_,h⟩:=h;exact h.kc hT
theorem RM.high(h:RM c X r O w):∀b,b∈O->c.B<=b/\b<w.heap.size:=by
 obtain⟨_,_,_,_,_,_,h⟩:=h;exact oh.high h
theorem RM.good(h:RM c X r O w):Good c.toks.length r:=by
 obtain⟨_,_,_,_,_,_,h⟩:=h;exact oh.good h
theorem RM.env(h:RM c X r O w):ME c w:=by
 obtain⟨_,_,_,_,_,_,h⟩:=h;exact oh.env h
theorem oh.JF(h:oh c X r at_ hv sv fa fc os O w){k:Nat}(hk:k∈c.R::X):hv.ownBlock≠some k/\sv.ownBlock≠some k/\k∉os:=by
 have hn:=h.nodup;rw[h.own,aR]at hn;obtain⟨_,h2,h3⟩:=hn
 have hd:∀b,b∈hv.ownBlock.toList++(sv.ownBlock.toList++os)->k≠b:=by
  intro b hb e;subst e
  rcases aI.1 hk with rfl|hk
  ·exact(bV.1 h2).1 hb
  ·exact h3 k hk k (by simp only[aI];exact .inr hb) rfl
 refine⟨fun e=>hd k ?_ rfl,fun e=>hd k ?_ rfl,fun e=>hd k ?_ rfl⟩
 ·simp[e]
 ·simp[e]
 ·simp[e]
variable {at':Nat}
theorem oh.go(h:oh c X r at_ hv sv fa fc os O w){Y:List Nat}(hk:gR Y w w')(hY:∀y,y∈Y->y∈c.R::X){Ev Ew:Int}(hb:RB c.B c.R c.tv c.toks at' hv sv r'.many Ev Ew c.dp w')(e1:r'.rest=lst c.toks at')(e2:r'.hs=r.hs)(e3:r'.gY=r.gY)(e4:r'.fault.2≠0->Ev=((c.toks.length-r'.fault.1:Nat):Int)/\Ew=r'.fault.2)(e5:r'.rest.length<=r.rest.length):oh c X r' at' hv sv Ev Ew os O w':=by
 have OP:∀y,y∈Y->y∈O:=fun y hy=>by
  rcases aI.1 (hY y hy)with rfl|hx
  ·exact h.iL
  ·exact h.kc hx
 have hko:∀v:Value,(∀y,y∈c.R::X->v.ownBlock≠some y)->∀k,v.ownBlock=some k->k<w.heap.size->w'.heap[k]? =w.heap[k]? :=fun v hv k e hl=>hk.block k hl (fun hm=>hv k (hY k hm) e)
 refine⟨h.env.keep hk (fun k hm=>(h.high k (OP k hm)).1),hb,e1,e4,?_,?_,h.own,h.nodup,fun b hb=>⟨(h.high b hb).1,aJ (h.high b hb).2 hk.size⟩,h.good.less e2 e3 e5⟩
 ·obtain⟨cs,h1,h2⟩:=h.hs;rw[e2];refine⟨cs,iy h1 (hko hv fun y hy=>(h.JF hy).1),hsR.on (fun b hb hl=>⟨hb,hk.block b hl (fun hm=>hb (OP b hm))⟩) _ _ _ h2 (fun k hm hl=>hk.block k hl (fun hy=>(h.JF (hY k hy)).2.2 hm))⟩
 ·rw[e3];exact iy h.st (hko sv fun y hy=>(h.JF hy).2.1)
def TB(T:Nat)(s:St)(P:Nat->Prop)(w:World):Prop:=∃nv iv xv yv gv,w.heap[T]? =some (.cells #[.int .i64 s.kind,.string nv,iv,xv,yv,.int .i64 s.gT,.slice none 0 0,.slice none 0 0,.slice none 0 0,gv] 48)/\nv.data.toList=s.name/\mg w P s.idx iv/\mg w P s.x xv/\mg w P s.y yv/\BR w P s.args gv/\s.body=[]/\s.els=[]/\s.arms=[]
theorem TB.on{P P':Nat->Prop}(h:TB T s P w)(ho:On P P' w w')(hT:w'.heap[T]? =w.heap[T]?):TB T s P' w':=by
 obtain⟨nv,iv,xv,yv,gv,h1,h2,h3,h4,h5,h6,h7⟩:=h;exact⟨nv,iv,xv,yv,gv,hT.trans h1,h2,h3.on ho,h4.on ho,h5.on ho,h6.on ho,h7⟩
structure Kx where
 X:List Nat
 K:St->(Nat->Prop)->World->Prop
 on:∀s P P' w w',K s P w->On P P' w w'->(∀b,b∈X->b<w.heap.size->w'.heap[b]? =w.heap[b]?)->K s P' w'
def kT(T:Nat):Kx:=⟨[T],TB T,fun _ _ _ _ _ h ho hX=>h.on ho (hX T (by simp) (lt_of_heap h.choose_spec.choose_spec.choose_spec.choose_spec.choose_spec.1))⟩
def k0(X:List Nat):Kx:=⟨X,fun _ _ _=>True,fun _ _ _ _ _ _ _ _=>trivial⟩
def RT(c:Cx)(k:Kx)(r:Rs)(o:Option St)(O:List Nat)(w:World):Prop:=RM c k.X r O w/\∀s,o=some s->k.K s (ji O) w
structure Gone(O:List Nat)(w:World)(O':List Nat)(w':World):Prop where
 keep:gR O w w'
 own:∀b,b∈O'->b∈O\/w.heap.size<=b
theorem Gone.refl(O:List Nat)(w:World):Gone O w O w:=⟨gR.refl O w,fun _ h=>.inl h⟩
theorem Gone.trans{O' QE:List Nat}{a b d:World}(h:Gone O a O' b)(k:Gone O' b QE d):Gone O a QE d:=
 ⟨⟨k.keep.os.trans h.keep.os,k.keep.tape.trans h.keep.tape,k.keep.output.trans h.keep.output,aP h.keep.size k.keep.size,fun i hi ho=>(k.keep.block i (aJ hi h.keep.size) (fun hm=>(h.own i hm).elim ho (fun hl=>by omega))).trans (h.keep.block i hi ho)⟩,fun b hb=>(k.own b hb).elim (h.own b) (fun hl=>.inr (aP h.keep.size hl))⟩
theorem Gone.of_below(h:Below w.heap.size w w'):Gone O w O w':=⟨gR.of_below h,fun _ hb=>.inl hb⟩
theorem Gone.my{Y:List Nat}(h:gR Y w w')(hY:∀y,y∈Y->y∈O):Gone O w O w':=⟨h.more fun k hk _=>hY k hk,fun _ hb=>.inl hb⟩
theorem RM.below(h:RM c X r O w)(hb:Below w.heap.size w w'):RM c X r O w':=by
 obtain⟨at_,hv,sv,fa,fc,os,h⟩:=h;exact⟨at_,hv,sv,fa,fc,os,h.go (Y:=[]) (gR.of_below hb) (by simp) (h.rb.below hb) h.rest rfl rfl h.fl (aj _)⟩
variable {o:Option St}{k:Kx}
theorem RT.below(h:RT c k r o O w)(hb:Below w.heap.size w w'):RT c k r o O w':=
 ⟨h.1.below hb,fun s hs=>k.on s _ _ w w' (h.2 s hs) (fun b hb' hl=>⟨hb',hb.block b hl⟩) (fun b _ hl=>hb.block b hl)⟩
theorem RT.weak(h:RT c k r o O w):RT c k r none O w:=⟨h.1,fun s hs=>by cases hs⟩
def tA(c:Cx):Except Er Unit->Value
 | .ok _=>.nilIface
 | .error .tok=>ln c.t0
 | .error .exp=>ln c.t1
def Does(c:Cx)(k:Kx)(m:Pm)(r:Rs)(o:Option St)(O:List Nat)(w:World)(e:Ending)(w':World):Prop:=∃O',e=.returned (tA c (m (r,o)).2)/\RT c k (m (r,o)).1.1 (m (r,o)).1.2 O' w'/\Gone O w O' w'
def nQ(c:Cx)(k:Kx)(O0:List Nat)(pre:Rs×Option St->Prop)(m:Pm)(n:Nat)(args:Array Value)(W:World):Prop:=
 (∀W',(callFunc n args).run ah W'=.ok (.enter n args) W')/\∀W' r o O,gR O0 W W'->RT c k r o O W'->(∀b,b∈O->b∈O0\/W.heap.size<=b)->pre (r,o)->Calls ah n args W' (Does c k m r o O W')
variable {W:World}{O0:List Nat}
theorem nQ.keep{pre:Rs×Option St->Prop}{m:Pm}{args:Array Value}{W1:World}(h:nQ c k O0 pre m n args W)(hk:gR O0 W W1):nQ c k O0 pre m n args W1:=
 ⟨h.1,fun W' r o O k1 k2 k3 k4=>h.2 W' r o O (hk.trans k1) k2 (fun b hb=>(k3 b hb).imp id (fun hl=>aP hk.size hl)) k4⟩
theorem nQ.below{pre:Rs×Option St->Prop}{m:Pm}{args:Array Value}{W1:World}(h:nQ c k O0 pre m n args W)(hb:Below W.heap.size W W1):nQ c k O0 pre m n args W1:=h.keep (gR.of_below hb)
def qL(c:Cx)(k:Kx)(O0:List Nat)(pre:Rs×Option St->Prop)(m:Pm)(w:World)(e:Ending)(w':World):Prop:=∃n FJ caps,e=.returned (.func (.func n) FJ caps)/\nQ c k O0 pre m n (FJ++caps) w'/\Below w.heap.size w w'
abbrev RX(p:Nat×Array Value×Array Value):Value:=.func (.func p.1) p.2.1 p.2.2
def qx(c:Cx)(k:Kx)(O0:List Nat)(W:World):List (Nat×Array Value×Array Value)->List ((Rs×Option St->Prop)×Pm)->Prop
 |[],[]=>True
 |p::ps,m::ms=>nQ c k O0 m.1 m.2 p.1 (p.2.1++p.2.2) W/\qx c k O0 W ps ms
 |_,_=>False
theorem qx.len:∀ {ps:List (Nat×Array Value×Array Value)}{ms:List ((Rs×Option St->Prop)×Pm)},qx c k O0 W ps ms->ps.length=ms.length
 |[],[],_=>rfl
 |_::_,_::_,h=>by simp[h.2.len]
theorem qx.get:∀ {ps:List (Nat×Array Value×Array Value)}{ms:List ((Rs×Option St->Prop)×Pm)},qx c k O0 W ps ms->∀(i:Nat) p,ps[i]? =some p->∃m,ms[i]? =some m/\nQ c k O0 m.1 m.2 p.1 (p.2.1++p.2.2) W
 |[],[],_,_,_,h=>by cases h
 |p::_,m::_,h,0,q,e=>by
  obtain rfl:=an e;exact⟨m,rfl,h.1⟩
 |_::_,_::_,h,i+1,q,e=>h.2.get i q e
theorem drop_cons{l:List α}{x:α}(h:l[i]? =some x):l.drop i=x::l.drop (i+1):=by
 obtain⟨hi,he⟩:=List.getElem?_eq_some_iff.1 h;rw[eW hi,he]
theorem Gs{ps:List (Nat×Array Value×Array Value)}{ms:List ((Rs×Option St->Prop)×Pm)}(hpc:qx c k O w ps ms)(hlen:ps.length<=100)(hrt:RT c k r o O w){g:Nat}(hg:w.heap[g]? =some (.cells (ps.map RX).toArray 141))(xO:g∉O)(hpre:kW ms (r,o)):Calls ah 99 #[.slice (some ⟨g,0,none⟩) ps.length cap] w (Does c k (oc (ms.map (·.2))) r o O w):=by
 have key:=pX (ps.map RX) g cap w (fun i W=>∃r' o' O',RT c k r' o' O' W/\Gone O w O' W/\kW (ms.drop i) (r',o')/\oc (ms.map (·.2)) (r,o)=oc ((ms.drop i).map (·.2)) (r',o')) (fun b W=>∃e O',RT c k (oc (ms.map (·.2)) (r,o)).1.1 (oc (ms.map (·.2)) (r,o)).1.2 O' W/\Gone O w O' W/\(oc (ms.map (·.2)) (r,o)).2=.error e/\tA c (.error e)=ln b) (by simpa using hlen) ⟨r,o,O,hrt,Gone.refl O w,hpre,rfl⟩ ?_ ?_
 ·rw[aQ]at key;refine key.mono ?_;rintro e w' ⟨v,rfl,⟨rfl,r',o',O',h1,h2,h3,h4⟩|⟨b,rfl,e,O',h1,h2,h3,h4⟩⟩
  ·rw[hpc.len,List.drop_length]at h4;refine⟨O',?_,?_,h2⟩
   ·rw[h4];rfl
   ·rw[h4];exact h1
  ·exact⟨O',by rw[h3,h4],h1,h2⟩
 ·rintro i W ⟨r',o',O',_,h2,_⟩;exact(h2.keep.block g (lt_of_heap hg) xO).trans hg
 ·intro i p hp;obtain⟨q,hq,rfl⟩:∃q,ps[i]? =some q/\RX q=p:=by simpa using hp
  obtain⟨m,hm,hP⟩:=hpc.get i q hq;refine⟨q.1,q.2.1,q.2.2,rfl,hP.1,?_⟩;rintro W ⟨r',o',O',h1,h2,h3,h4⟩;rw[drop_cons hm]at h3 h4;obtain⟨pr,mf⟩:=m;have hP2:=hP.2 W r' o' O' h2.keep h1 h2.own h3.1;simp only at hP2;refine hP2.mono ?_;rintro e W' ⟨O2,rfl,k1,k2⟩;rw[bL,oc]at h4
  cases hmr:mf (r',o')with
  |mk s2 res=>
   simp only[hmr]at k1 h4
   cases res with
   |ok u=>
    refine⟨_,rfl,.inl ⟨rfl,s2.1,s2.2,O2,k1,h2.trans k2,h3.2 s2 hmr,h4⟩⟩
   |error er=>
    simp only at h4;have hov:∃b,tA c (.error er)=ln b:=by cases er <;> exact⟨_,rfl⟩
    obtain⟨b,hb⟩:=hov;refine⟨_,rfl,.inr ⟨b,hb,er,O2,?_,h2.trans k2,?_,hb⟩⟩
    ·rw[h4];exact k1
    ·rw[h4]
theorem wu{ps:List (Nat×Array Value×Array Value)}{ms:List ((Rs×Option St->Prop)×Pm)}(hpc:qx c k O W ps ms)(hlen:ps.length<=100)(hrt:RT c k r o O w)(hb:Below w.heap.size w W)(hpre:kW ms (r,o)){O1:Obj}(pC:O1=.cells (ps.map RX).toArray 141):Calls ah 99 #[.slice (some ⟨W.heap.size,0,none⟩) ps.length cap] (W.alloc O1) (Does c k (oc (ms.map (·.2))) r o O w):=by
 subst pC;have b2:Below W.heap.size W (W.alloc (.cells (ps.map RX).toArray 141)):=(aw _ _).alloc (aj _) _;have b3:=hb.alloc hb.size (.cells (ps.map RX).toArray 141)
 have all2:∀ {ps':List (Nat×Array Value×Array Value)}{ms':List ((Rs×Option St->Prop)×Pm)},qx c k O W ps' ms'->qx c k O (W.alloc (.cells (ps.map RX).toArray 141)) ps' ms':=by
  intro ps'
  induction ps' with
  |nil=>intro ms' h;cases ms' with|nil=>trivial|cons _ _=>exact h
  |cons p ps' ih=>intro ms' h;cases ms' with|nil=>exact h|cons _ _=>exact⟨h.1.below b2,ih h.2⟩
 refine(Gs (all2 hpc) hlen (hrt.below b3) (aE W _) (fun hm=>?_) hpre).mono ?_
 ·have:=(hrt.1.high _ hm).2;have:=hb.size;omega
 ·rintro e w' ⟨O',k1,k2,k3⟩;exact⟨O',k1,k2,(Gone.of_below b3).trans k3⟩
theorem oK(toks:List Tv)(i:Nat):jW (lst toks i)=kU (gQ toks i):=by
 by_cases h:i<toks.length
 ·rw[jL h];rfl
 ·rw[nF (by omega)];unfold gQ;rw[List.getD_eq_getElem?_getD,List.getElem?_eq_none (by omega)];rfl
theorem mo(toks:List Tv)(i:Nat):(lst toks i).tail=lst toks (i+1):=by
 unfold lst;rw[<-List.map_tail,List.tail_drop]
theorem oh.rH(h:oh c X r at_ hv sv fa fc os O w)(k:Int)(u:ByteArray):jI k u.data.toList r=decide ((gQ c.toks at_).k=k/\(gQ c.toks at_).s=u):=by
 unfold jI;rw[h.rest,oK]
 have e:((kU (gQ c.toks at_)).s==u.data.toList)=decide ((gQ c.toks at_).s=u):=by
  by_cases hs:(gQ c.toks at_).s=u
  ·rw[decide_eq_true hs,beq_iff_eq,<-hs];rfl
  ·rw[decide_eq_false hs,beq_eq_false_iff_ne];intro e;apply hs;have e2:(gQ c.toks at_).s.data.toList=u.data.toList:=e;have:=congrArg List.toArray e2;simp only[Array.toArray_toList]at this
   cases hx:(gQ c.toks at_).s
   cases u
   rw[hx]at this;simp only at this;rw[this]
 rw[e];show(decide ((gQ c.toks at_).k=k)&&_)=_;rw[Bool.decide_and]
theorem RT.go(h:oh c k.X r at_ hv sv fa fc os O w)(ho:∀s,o=some s->k.K s (ji O) w)(hk:gR [c.R] w w'){Ev Ew:Int}(hb:RB c.B c.R c.tv c.toks at' hv sv r'.many Ev Ew c.dp w')(e1:r'.rest=lst c.toks at')(e2:r'.hs=r.hs)(e3:r'.gY=r.gY)(e4:r'.fault.2≠0->Ev=((c.toks.length-r'.fault.1:Nat):Int)/\Ew=r'.fault.2)(e5:r'.rest.length<=r.rest.length):RT c k r' o O w'/\Gone O w O w':=by
 refine⟨⟨⟨_,_,_,_,_,_,h.go hk (by simp) hb e1 e2 e3 e4 e5⟩,fun s hs=>k.on s _ _ w w' (ho s hs) (fun b hb' hl=>⟨hb',hk.block b hl (fun hm=>hb' (by rw[aL.1 hm];exact h.iL))⟩) (fun b hb' hl=>hk.block b hl (fun hm=>?_))⟩,Gone.my hk (fun y hy=>by rw[aL.1 hy];exact h.iL)⟩;have hn:=h.nodup;rw[h.own,aR]at hn;exact hn.2.2 b hb' c.R (by simp) (aL.1 hm)
theorem Cn(hO:∀b,b∈O0->b<w.heap.size){kind:Int}(hk:kind≠0){u:ByteArray}{l:Bs}(hu:u.data.toList=l){b1 b2 b3:Nat}(hc:rl c.R kind u w.heap.size b1 b2 b3 w'):nQ c k O0 anyS (ij (lB kind l)) 177 (#[]++#[.pointer (some ⟨b1,0,none⟩),.pointer (some ⟨b2,0,none⟩),.pointer (some ⟨b3,0,none⟩)]) w':=by
 subst hu;refine⟨fun W=>by simp[go_sem],fun W' r o O hkeep hrt hown _=>?_⟩;obtain⟨⟨at_,hv,sv,fa,fc,os,hx⟩,hT⟩:=hrt;have hl:=hx.env.tks.hl;have ht:=hx.rH kind u;refine(o0 hx.rb (by omega) hk (hc.keep hkeep hO) hx.env.e0).mono ?_;rintro e W2 (⟨a1,a2,rfl,q1,q2⟩|⟨a1,rfl,q1,q2⟩)
 ·rw[decide_eq_true ⟨a1,a2⟩]at ht;have hm:ij (lB kind u.data.toList) (r,o)=((jF r,o),.ok ()):=by simp[ij,lB,ht]
  have hr:(jF r).rest=lst c.toks (at_+1):=by show r.rest.tail=_;rw[hx.rest,mo]
  obtain⟨g1,g2⟩:=RT.go hx hT q2 (r':=jF r) q1 hr rfl rfl hx.fl (kV _);exact⟨O,by rw[hm];rfl,by rw[hm];exact g1,g2⟩
 ·rw[decide_eq_false a1]at ht;have hm:ij (lB kind u.data.toList) (r,o)=((r,none),.error .tok):=by simp[ij,lB,ht]
  obtain⟨g1,g2⟩:=RT.go hx hT q2 (r':=r) q1 hx.rest rfl rfl hx.fl (aj _);exact⟨O,by rw[hm];rfl,by rw[hm];exact g1.weak,g2⟩
theorem lJ(k:Kx)(hO:∀b,b∈O0->b<w.heap.size)(u:ByteArray)(l:Bs)(hu:u.data.toList=l):Calls ah 100 #[.pointer (some ⟨c.R,0,none⟩),.string u] w (qL c k O0 anyS (ij (gU l)) w):=by
 refine(yG c.R u w).mono ?_;rintro e w' ⟨b1,b2,b3,rfl,h1,h2⟩;exact⟨_,_,_,rfl,Cn hO (by decide) hu h1,h2⟩
theorem vp(k:Kx)(hO:∀b,b∈O0->b<w.heap.size)(u:ByteArray)(l:Bs)(hu:u.data.toList=l):Calls ah 104 #[.pointer (some ⟨c.R,0,none⟩),.string u] w (qL c k O0 anyS (ij (iO l)) w):=by
 refine(oQ c.R u w).mono ?_;rintro e w' ⟨b1,b2,b3,rfl,h1,h2⟩;exact⟨_,_,_,rfl,Cn hO (by decide) hu h1,h2⟩
theorem RT.put(h:oh c k.X r at_ hv sv fa fc os O w)(hT:T∈k.X)(hk:gR [c.R,T] w w')(hb:RB c.B c.R c.tv c.toks at' hv sv r'.many fa fc c.dp w')(e1:r'.rest=lst c.toks at')(e2:r'.hs=r.hs)(e3:r'.gY=r.gY)(e4:r'.fault=r.fault)(e5:r'.rest.length<=r.rest.length){o':Option St}(ho:∀s,o'=some s->k.K s (ji O) w'):RT c k r' o' O w'/\Gone O w O w':=by
 refine⟨⟨⟨_,_,_,_,_,_,h.go hk (by simp[hT]) hb e1 e2 e3 (by rw[e4];exact h.fl) e5⟩,ho⟩,Gone.my hk (fun y hy=>?_)⟩;simp only[aI,bG,or_false]at hy
 rcases hy with rfl|rfl
 ·exact h.iL
 ·exact h.kc hT
theorem l6{e size:Nat}{v:Value}{cs:List Value}(h:w.ownsRow B e size v n cs)(hn:n<=1000000000)(P:Nat->Prop)(hP:∀b,v.ownBlock=some b->P b):Sl w P size v n cs:=by
 rcases h.2 with⟨rfl,rfl⟩|⟨g,cap,cur,rfl,r1,r2,r3,r4,r5,r6⟩
 ·have h1:=h.1;have:cs=[]:=cu (by omega);subst this;exact⟨none,0,0,0,rfl,hn,h1,fun h=>by omega,fun j u hu=>by cases hu⟩
 ·refine⟨some ⟨g,0,none⟩,g,0,cap,rfl,hn,h.1,fun _=>⟨hP g rfl,rfl⟩,fun j u hu=>?_⟩;rw[fg,af r2];have hj:j<n*size:=by rw[<-h.1];exact(List.getElem?_eq_some_iff.1 hu).1
  rw[<-r6,List.getElem?_take_of_lt hj]at hu
  simpa using hu
theorem oh.ne(h:oh c X r at_ hv sv fa fc os O w)(hT:T∈X):T≠c.R:=by
 have hn:=h.nodup;rw[h.own,aR]at hn;exact hn.2.2 T hT c.R (by simp)
def Cell(k:Kx)(T j:Nat)(sh:Value->Prop)(f:Value->(Nat->Prop)->World->St->St->Prop):Prop:=
 ∀s P w,k.K s P w->∃cs t,w.heap[T]? =some (.cells cs t)/\j<cs.size/\∀P' w' v s',sh v->On P P' w w'->(∀b,b∈k.X->b≠T->b<w.heap.size->w'.heap[b]? =w.heap[b]?)->w'.heap[T]? =some (.cells (cs.setIfInBounds j v) t)->f v P' w' s s'->k.K s' P' w'
theorem rI{x:List Pt}(h:parse (lst toks i)=.ok (x,q))(hi:i<=toks.length):q=lst toks (toks.length-q.length):=by
 unfold parse at h
 cases hr:rd (fuel (lst toks i)) (.row 0) 0 (lst toks i)with
 |none=>rw[hr]at h;cases h
 |some res=>
  rw[hr]at h
  cases res with
  |error e=>cases h
  |ok p=>
   obtain⟨y,r⟩:=p;simp only[]at h
   split at h
   ·cases h
   ·injection h with h
    injection h with h1 h2
    subst h1 h2;exact(uK hr hi).1
theorem PW(hO:∀b,b∈O0->b<w.heap.size)(qy:T∈k.X)(Gt:T∈O0)(xP:List Pt->St->St)(hcell:Cell k T j (fun _=>True) (fun v P w s s'=>∃x,mg w P x v/\s'=xP x s)){b1 b2:Nat}(hc:nW c.R T j 144 w.heap.size b1 b2 w'):nQ c k O0 jG (gW ir xP) 143 (#[]++#[.pointer (some ⟨b1,0,none⟩),.pointer (some ⟨b2,0,none⟩)]) w':=by
 refine⟨fun W=>by simp[go_sem],fun W' r o O hkeep hrt hown hpre=>?_⟩;obtain⟨⟨at_,hv,sv,fa,fc,os,hx⟩,hT⟩:=hrt;obtain⟨s,rfl⟩:∃s,o=some s:=hpre;have hl:=hx.env.tks.hl;have hB:=hx.env.hB;obtain⟨cs,t,c1,c2,c3⟩:=hcell s _ W' (hT s rfl);have As:=hx.kc qy;refine(nZ hx.rb (by omega) hx.env.tks.hs (hc.keep hkeep hO) hx.env.e1 hx.env.tG c1 c2 (hx.ne qy) (hx.high T As).1 (hO T Gt) (by omega)).mono ?_;intro e W2 hp;unfold sG at hp
 cases hpr:parse (lst c.toks at_)with
 |error z=>
  obtain⟨n,cd⟩:=z;rw[hpr]at hp;obtain⟨rfl,q1,q2⟩:=hp;have hm:gW ir xP (r,some s)=(({r with fault:=(n,cd)},none),.error .exp):=by simp[gW,ir,hx.rest,hpr]
  obtain⟨g1,g2⟩:=RT.go hx hT q2 (r':={r with fault:=(n,cd)}) q1 hx.rest rfl rfl (fun _=>⟨rfl,rfl⟩) (aj _);exact⟨O,by rw[hm];rfl,by rw[hm];exact g1.weak,g2⟩
 |ok z=>
  obtain⟨x,q⟩:=z;rw[hpr]at hp;obtain⟨pv,xs,rfl,hxs,q1,q2⟩:=hp;have hm:gW ir xP (r,some s)=(({r with rest:=q},some (xP x s)),.ok ()):=by simp[gW,ir,hx.rest,hpr]
  have PX:q.length+1<=(lst c.toks at_).length:=nr hpr;have hq:q=lst c.toks (c.toks.length-q.length):=rI hpr hx.rb.here;have Gb:=we hpr;rw[<-hxs,aQ]at Gb
  have hnew:∀b,pv.ownBlock=some b->b∉O:=fun b hb hm=>by
   have:=(q1.lt b hb).1;have:=(hx.high b hm).2;omega
  have hon:On (ji O) (ji O) W' W2:=fun b hb hlb=>⟨hb,q2.keep.block b hlb (fun hm=>by
   simp only[aI,bG,or_false]at hm
   rcases hm with rfl|rfl
   ·exact hb hx.iL
   ·exact hb As)⟩
  have hn:∀b,b∈k.X->b≠T->b<W'.heap.size->W2.heap[b]? =W'.heap[b]? :=fun b hb YZ hlb=>q2.keep.block b hlb (fun hm=>by
   simp only[aI,bG,or_false]at hm
   rcases hm with rfl|rfl
   ·exact hx.ne hb rfl
   ·exact YZ rfl)
  obtain⟨g1,g2⟩:=RT.put hx qy q2.keep (r':={r with rest:=q}) q2.rb hq rfl rfl rfl (by rw[hx.rest];show q.length<=_;omega) (o':=some (xP x s)) (fun s' hs'=>by
   obtain rfl:=an hs'
   exact c3 _ _ pv _ trivial hon hn q2.cell ⟨x,⟨xs,hxs,l6 q1 (by omega) _ hnew⟩,rfl⟩)
  exact⟨O,by rw[hm];rfl,by rw[hm];exact g1,g2⟩
theorem ky(hO:∀b,b∈O0->b<w.heap.size)(qy:T∈k.X)(Gt:T∈O0)(xP:List Pt->St->St)(hcell:Cell k T j (fun _=>True) (fun v P w s s'=>∃x,mg w P x v/\s'=xP x s)):Calls ah 101 #[.pointer (some ⟨c.R,0,none⟩),.pointer (some ⟨T,j,none⟩)] w (qL c k O0 jG (gW ir xP) w):=by
 refine(nX c.R T j w).mono ?_;rintro e w' ⟨b1,b2,rfl,h1,h2⟩;exact⟨_,_,_,rfl,PW hO qy Gt xP hcell h1,h2⟩
theorem JG(R T j:Nat)(w:World):Calls ah 102 #[.pointer (some ⟨R,0,none⟩),.pointer (some ⟨T,j,none⟩)] w (jR 145 R T j 146 w):=by
 obtain⟨a1,a2⟩:=alloc2 w (.cells #[.pointer (some ⟨R,0,none⟩)] 55) (.cells #[.pointer (some ⟨T,j,none⟩)] 146);have HA:qes (nW R T j 146 w.heap.size w.heap.size (w.heap.size+1) ((w.alloc (.cells #[.pointer (some ⟨R,0,none⟩)] 55)).alloc (.cells #[.pointer (some ⟨T,j,none⟩)] 146))):=⟨by omega,by omega,a1,a2⟩
 have HB:=qet (((aw w.heap.size w).alloc (aj _) (.cells #[.pointer (some ⟨R,0,none⟩)] 55)).alloc (by simp) (.cells #[.pointer (some ⟨T,j,none⟩)] 146));clear a1 a2;unfold jR;go_enter Tryz.func102,Tryz.ntmps102;go_wp2;go_ret;exact⟨_,_,rfl,HA.o,HB.o⟩
theorem MF(R T j:Nat)(w:World):Calls ah 106 #[.pointer (some ⟨R,0,none⟩),.pointer (some ⟨T,j,none⟩)] w (jR 150 R T j 146 w):=by
 obtain⟨a1,a2⟩:=alloc2 w (.cells #[.pointer (some ⟨R,0,none⟩)] 55) (.cells #[.pointer (some ⟨T,j,none⟩)] 146);have HA:qes (nW R T j 146 w.heap.size w.heap.size (w.heap.size+1) ((w.alloc (.cells #[.pointer (some ⟨R,0,none⟩)] 55)).alloc (.cells #[.pointer (some ⟨T,j,none⟩)] 146))):=⟨by omega,by omega,a1,a2⟩
 have HB:=qet (((aw w.heap.size w).alloc (aj _) (.cells #[.pointer (some ⟨R,0,none⟩)] 55)).alloc (by simp) (.cells #[.pointer (some ⟨T,j,none⟩)] 146));clear a1 a2;unfold jR;go_enter Tryz.func106,Tryz.ntmps106;go_wp2;go_ret;exact⟨_,_,rfl,HA.o,HB.o⟩
theorem PY(R T j:Nat)(w:World):Calls ah 105 #[.pointer (some ⟨R,0,none⟩),.pointer (some ⟨T,j,none⟩)] w (jR 148 R T j 150 w):=by
 obtain⟨a1,a2⟩:=alloc2 w (.cells #[.pointer (some ⟨R,0,none⟩)] 55) (.cells #[.pointer (some ⟨T,j,none⟩)] 150);have HA:qes (nW R T j 150 w.heap.size w.heap.size (w.heap.size+1) ((w.alloc (.cells #[.pointer (some ⟨R,0,none⟩)] 55)).alloc (.cells #[.pointer (some ⟨T,j,none⟩)] 150))):=⟨by omega,by omega,a1,a2⟩
 have HB:=qet (((aw w.heap.size w).alloc (aj _) (.cells #[.pointer (some ⟨R,0,none⟩)] 55)).alloc (by simp) (.cells #[.pointer (some ⟨T,j,none⟩)] 150));clear a1 a2;unfold jR;go_enter Tryz.func105,Tryz.ntmps105;go_wp2;go_ret;exact⟨_,_,rfl,HA.o,HB.o⟩
theorem Ey(R T j:Nat)(w:World):Calls ah 107 #[.pointer (some ⟨R,0,none⟩),.pointer (some ⟨T,j,none⟩)] w (jR 152 R T j 146 w):=by
 obtain⟨a1,a2⟩:=alloc2 w (.cells #[.pointer (some ⟨R,0,none⟩)] 55) (.cells #[.pointer (some ⟨T,j,none⟩)] 146);have HA:qes (nW R T j 146 w.heap.size w.heap.size (w.heap.size+1) ((w.alloc (.cells #[.pointer (some ⟨R,0,none⟩)] 55)).alloc (.cells #[.pointer (some ⟨T,j,none⟩)] 146))):=⟨by omega,by omega,a1,a2⟩
 have HB:=qet (((aw w.heap.size w).alloc (aj _) (.cells #[.pointer (some ⟨R,0,none⟩)] 55)).alloc (by simp) (.cells #[.pointer (some ⟨T,j,none⟩)] 146));clear a1 a2;unfold jR;go_enter Tryz.func107,Tryz.ntmps107;go_wp2;go_ret;exact⟨_,_,rfl,HA.o,HB.o⟩
theorem JH(R T j:Nat)(w:World):Calls ah 153 #[.pointer (some ⟨R,0,none⟩),.pointer (some ⟨T,j,none⟩)] w (jR 181 R T j 179 w):=by
 obtain⟨a1,a2⟩:=alloc2 w (.cells #[.pointer (some ⟨R,0,none⟩)] 55) (.cells #[.pointer (some ⟨T,j,none⟩)] 179);have HA:qes (nW R T j 179 w.heap.size w.heap.size (w.heap.size+1) ((w.alloc (.cells #[.pointer (some ⟨R,0,none⟩)] 55)).alloc (.cells #[.pointer (some ⟨T,j,none⟩)] 179))):=⟨by omega,by omega,a1,a2⟩
 have HB:=qet (((aw w.heap.size w).alloc (aj _) (.cells #[.pointer (some ⟨R,0,none⟩)] 55)).alloc (by simp) (.cells #[.pointer (some ⟨T,j,none⟩)] 179));clear a1 a2;unfold jR;go_enter Tryz.func153,Tryz.ntmps153;go_wp2;go_ret;exact⟨_,_,rfl,HA.o,HB.o⟩
theorem Gu(R T j:Nat)(w:World):Calls ah 154 #[.pointer (some ⟨R,0,none⟩),.pointer (some ⟨T,j,none⟩)] w (jR 183 R T j 144 w):=by
 obtain⟨a1,a2⟩:=alloc2 w (.cells #[.pointer (some ⟨R,0,none⟩)] 55) (.cells #[.pointer (some ⟨T,j,none⟩)] 144);have HA:qes (nW R T j 144 w.heap.size w.heap.size (w.heap.size+1) ((w.alloc (.cells #[.pointer (some ⟨R,0,none⟩)] 55)).alloc (.cells #[.pointer (some ⟨T,j,none⟩)] 144))):=⟨by omega,by omega,a1,a2⟩
 have HB:=qet (((aw w.heap.size w).alloc (aj _) (.cells #[.pointer (some ⟨R,0,none⟩)] 55)).alloc (by simp) (.cells #[.pointer (some ⟨T,j,none⟩)] 144));clear a1 a2;unfold jR;go_enter Tryz.func154,Tryz.ntmps154;go_wp2;go_ret;exact⟨_,_,rfl,HA.o,HB.o⟩
theorem uf(T:Nat):Cell (kT T) T 3 (fun _=>True) (fun v P w s s'=>∃x,mg w P x v/\s'=rG x s):=by
 rintro s P w ⟨nv,iv,xv,yv,gv,h1,h2,h3,h4,h5,h6,h7⟩;refine⟨_,_,h1,by simp,?_⟩;rintro P' w' v s' _ ho _ hw ⟨x,hx,rfl⟩;exact⟨nv,iv,v,yv,gv,hw,h2,h3.on ho,hx,h5.on ho,h6.on ho,h7⟩
theorem TF(T:Nat):Cell (kT T) T 4 (fun _=>True) (fun v P w s s'=>∃x,mg w P x v/\s'=XT x s):=by
 rintro s P w ⟨nv,iv,xv,yv,gv,h1,h2,h3,h4,h5,h6,h7⟩;refine⟨_,_,h1,by simp,?_⟩;rintro P' w' v s' _ ho _ hw ⟨x,hx,rfl⟩;exact⟨nv,iv,xv,v,gv,hw,h2,h3.on ho,h4.on ho,hx,h6.on ho,h7⟩
theorem TG(T:Nat):Cell (kT T) T 2 (fun _=>True) (fun v P w s s'=>∃x,mg w P x v/\s'=XU x s):=by
 rintro s P w ⟨nv,iv,xv,yv,gv,h1,h2,h3,h4,h5,h6,h7⟩;refine⟨_,_,h1,by simp,?_⟩;rintro P' w' v s' _ ho _ hw ⟨x,hx,rfl⟩;exact⟨nv,v,xv,yv,gv,hw,h2,hx,h4.on ho,h5.on ho,h6.on ho,h7⟩
theorem zm(T:Nat):Cell (kT T) T 1 (fun _=>True) (fun v _ _ s s'=>∃u:ByteArray,v=.string u/\s'=toN u.data.toList s):=by
 rintro s P w ⟨nv,iv,xv,yv,gv,h1,h2,h3,h4,h5,h6,h7⟩;refine⟨_,_,h1,by simp,?_⟩;rintro P' w' v s' _ ho _ hw ⟨x,rfl,rfl⟩;exact⟨x,iv,xv,yv,gv,hw,rfl,h3.on ho,h4.on ho,h5.on ho,h6.on ho,h7⟩
theorem TH(T:Nat):Cell (kT T) T 5 (fun _=>True) (fun v _ _ s s'=>∃n,v=.int .i64 n/\s'=toB n s):=by
 rintro s P w ⟨nv,iv,xv,yv,gv,h1,h2,h3,h4,h5,h6,h7⟩;refine⟨_,_,h1,by simp,?_⟩;rintro P' w' v s' _ ho _ hw ⟨x,rfl,rfl⟩;exact⟨nv,iv,xv,yv,gv,hw,h2,h3.on ho,h4.on ho,h5.on ho,h6.on ho,h7⟩
theorem zo(hx:oh c k.X r at_ hv sv fa fc os O w)(hT:T∈k.X)(hk:gR [c.R,T] w w'):On (ji O) (ji O) w w'/\∀b,b∈k.X->b≠T->b<w.heap.size->w'.heap[b]? =w.heap[b]? :=by
 refine⟨fun b hb hlb=>⟨hb,hk.block b hlb (fun hm=>?_)⟩,fun b hb YZ hlb=>hk.block b hlb (fun hm=>?_)⟩
 ·simp only[aI,bG,or_false]at hm
  rcases hm with rfl|rfl
  ·exact hb hx.iL
  ·exact hb (hx.kc hT)
 ·simp only[aI,bG,or_false]at hm
  rcases hm with rfl|rfl
  ·exact hx.ne hb rfl
  ·exact YZ rfl
theorem Ir(hO:∀b,b∈O0->b<w.heap.size)(qy:T∈k.X)(xP:Bs->St->St)(hcell:Cell k T j (fun _=>True) (fun v _ _ s s'=>∃u:ByteArray,v=.string u/\s'=xP u.data.toList s)):Calls ah 103 #[.pointer (some ⟨c.R,0,none⟩),.pointer (some ⟨T,j,none⟩)] w (qL c k O0 jG (gW kN xP) w):=by
 refine(Jo c.R T j w).mono ?_;rintro e w' ⟨b1,b2,rfl,hc,h2⟩;refine⟨_,_,_,rfl,⟨fun W=>by simp[go_sem],fun W' r o O hkeep hrt hown hpre=>?_⟩,h2⟩;obtain⟨⟨at_,hv,sv,fa,fc,os,hx⟩,hT⟩:=hrt;obtain⟨s,rfl⟩:∃s,o=some s:=hpre;have hl:=hx.env.tks.hl;obtain⟨cs,t,c1,c2,c3⟩:=hcell s _ W' (hT s rfl);have As:=hx.kc qy;have hh:jW r.rest=kU (gQ c.toks at_):=by rw[hx.rest,oK]
 refine(Jq hx.rb (by omega) hx.env.tks.hs (hc.keep hkeep hO) hx.env.e0 hx.env.tG.kw c1 c2 (hx.ne qy) (hx.high T As).1).mono ?_;rintro e W2 (⟨⟨a1,a2⟩,rfl,q⟩|⟨a1,rfl,q1,q2⟩)
 ·have hm:gW kN xP (r,some s)=((jF r,some (xP (kU (gQ c.toks at_)).s s)),.ok ()):=by
   have hk1:(kU (gQ c.toks at_)).kind=1:=a2;simp only[gW,kN,anyM,hh,a1,hk1,if_true,cm]
  have hr:(jF r).rest=lst c.toks (at_+1):=by show r.rest.tail=_;rw[hx.rest,mo]
  obtain⟨o1,o2⟩:=zo hx qy q.keep
  obtain⟨g1,g2⟩:=RT.put hx qy q.keep (r':=jF r) q.rb hr rfl rfl rfl (kV _) (o':=some (xP (kU (gQ c.toks at_)).s s)) (fun s' hs'=>by
   obtain rfl:=an hs'
   exact c3 _ _ _ _ trivial o1 o2 q.cell ⟨_,rfl,rfl⟩)
  exact⟨O,by rw[hm];rfl,by rw[hm];exact g1,g2⟩
 ·have hm:gW kN xP (r,some s)=((r,none),.error .tok):=by
   simp only[gW,kN,anyM,hh]
   by_cases hn:nameB (kU (gQ c.toks at_)).s=true
   ·have hk1:¬ (kU (gQ c.toks at_)).kind=1:=fun e=>a1 ⟨hn,e⟩
    simp only[hn,hk1,if_true,if_false]
   ·simp only[hn,eX,if_false]
  obtain⟨g1,g2⟩:=RT.go hx hT q2 (r':=r) q1 hx.rest rfl rfl hx.fl (aj _);exact⟨O,by rw[hm];rfl,by rw[hm];exact g1.weak,g2⟩
theorem TI(hO:∀b,b∈O0->b<w.heap.size)(qy:T∈k.X)(Gt:T∈O0)(xP:Bs->St->St)(hcell:Cell k T j (fun _=>True) (fun v _ _ s s'=>∃u:ByteArray,v=.string u/\s'=xP u.data.toList s)):Calls ah 147 #[.pointer (some ⟨c.R,0,none⟩),.pointer (some ⟨T,j,none⟩)] w (qL c k O0 jG (gW anyM xP) w):=by
 refine(uO c.R T j w).mono ?_;rintro e w' ⟨b1,b2,rfl,hc,h2⟩;refine⟨_,_,_,rfl,⟨fun W=>by simp[go_sem],fun W' r o O hkeep hrt hown hpre=>?_⟩,h2⟩;obtain⟨⟨at_,hv,sv,fa,fc,os,hx⟩,hT⟩:=hrt;obtain⟨s,rfl⟩:∃s,o=some s:=hpre;have hl:=hx.env.tks.hl;obtain⟨cs,t,c1,c2,c3⟩:=hcell s _ W' (hT s rfl);have As:=hx.kc qy;have hh:jW r.rest=kU (gQ c.toks at_):=by rw[hx.rest,oK]
 refine(uP hx.rb (by omega) hx.env.tks.hs (hc.keep hkeep hO) hx.env.e0 c1 c2 (hx.ne qy) (hx.high T As).1 (hO T Gt)).mono ?_;rintro e W2 (⟨a2,rfl,q⟩|⟨a1,rfl,q1,q2⟩)
 ·have hm:gW anyM xP (r,some s)=((jF r,some (xP (kU (gQ c.toks at_)).s s)),.ok ()):=by
   have hk1:(kU (gQ c.toks at_)).kind=1:=a2;simp only[gW,anyM,hh,hk1,if_true,cm]
  have hr:(jF r).rest=lst c.toks (at_+1):=by show r.rest.tail=_;rw[hx.rest,mo]
  obtain⟨o1,o2⟩:=zo hx qy q.keep
  obtain⟨g1,g2⟩:=RT.put hx qy q.keep (r':=jF r) q.rb hr rfl rfl rfl (kV _) (o':=some (xP (kU (gQ c.toks at_)).s s)) (fun s' hs'=>by
   obtain rfl:=an hs'
   exact c3 _ _ _ _ trivial o1 o2 q.cell ⟨_,rfl,rfl⟩)
  exact⟨O,by rw[hm];rfl,by rw[hm];exact g1,g2⟩
 ·have hm:gW anyM xP (r,some s)=((r,none),.error .tok):=by
   have hk1:¬ (kU (gQ c.toks at_)).kind=1:=a1;simp only[gW,anyM,hh,hk1,if_false]
  obtain⟨g1,g2⟩:=RT.go hx hT q2 (r':=r) q1 hx.rest rfl rfl hx.fl (aj _);exact⟨O,by rw[hm];rfl,by rw[hm];exact g1.weak,g2⟩
theorem Is(hr:r.rest=lst toks at_)(st:Bool):j8 st r=(if nP st (iu toks at_) (gQ toks (if iu toks at_ then at_+1 else at_))=true then({r with rest:=lst toks ((if iu toks at_ then at_+1 else at_)+1)},.ok (if iu toks at_ then -(gQ toks (if iu toks at_ then at_+1 else at_)).n else(gQ toks (if iu toks at_ then at_+1 else at_)).n))else({r with rest:=lst toks (if iu toks at_ then at_+1 else at_)},.error .tok)):=by
 have hi:jI 3 jV r=iu toks at_:=by
  unfold jI iu;rw[hr,oK];show(decide ((gQ toks at_).k=3)&&((gQ toks at_).s.data.toList==[45]))=_;rw[bh];simp only[aH,decide_eq_true_eq,beq_iff_eq]
  constructor
  ·rintro⟨a,b⟩;exact⟨a,by rw[<-nj (gQ toks at_).s,b]⟩
  ·rintro⟨a,b⟩;exact⟨a,by rw[b]⟩
 have TK:jF r={r with rest:=lst toks (at_+1)}:=by
  unfold jF;rw[hr,mo]
 have hself:r={r with rest:=lst toks at_}:=by rw[<-hr]
 have hcore:∀(q:Rs)(i:Nat)(mi:Bool),q.rest=lst toks i->(let t:=jW q.rest
   if t.kind≠2\/t.ty≠0\/(st=true/\t.n=0)then(q,(.error .tok:Except Er Int))
   else
    let n:=if mi then -t.n else t.n
    if jk n then(jF q,.ok n)else(q,.error .tok))=(if nP st mi (gQ toks i)=true then({q with rest:=lst toks (i+1)},.ok (if mi then -(gQ toks i).n else(gQ toks i).n))else(q,.error .tok)):=by
  intro q i mi hq;have ha:jF q={q with rest:=lst toks (i+1)}:=by unfold jF;rw[hq,mo]
  simp only;rw[hq,oK];show(if(gQ toks i).k≠2\/(gQ toks i).t≠0\/(st=true/\(gQ toks i).n=0)then _ else _)=_
  by_cases hc:(gQ toks i).k=2/\(gQ toks i).t=0/\¬ (st=true/\(gQ toks i).n=0)
  ·rw[wh hc,if_neg (by
    rintro(h|h|h)
    ·exact h hc.1
    ·exact h hc.2.1
    ·exact hc.2.2 h),ha]
   rfl
  ·rw[ze hc,if_pos (by
    by_cases h1:(gQ toks i).k=2
    ·by_cases h2:(gQ toks i).t=0
     ·right;right
      apply di;intro h3;exact hc ⟨h1,h2,h3⟩
     ·exact .inr (.inl h2)
    ·exact .inl h1)]
   rfl
 unfold j8;simp only[hi]
 cases hm:iu toks at_ with
 |true=>
  simp only[if_true];have:=hcore (jF r) (at_+1) true (by rw[TK]);simp only[if_true]at this;rw[this,TK]
 |false=>
  simp only[eX,if_false];have:=hcore r at_ false hr;simp only[eX,if_false]at this;rw[this,<-hself]
def sL:M (Option (List Pt)):=fun r=>if jI 3 vT r then(thn (iO vT) (bnd ir fun x=>bnd (iO yn) fun _=>ret (some x))) r else(r,.ok none)
def tB(x:Option (List Pt))(s:St):St:=match x with
 |some n=>{s with idx:=n}
 |none=>s
theorem TL:Quiet sL:=PU (c:=jI 3 vT) (vm (iB _ _) (rV jJ fun _=>rV (iB _ _) fun _=>tI _)) (tI _)
theorem PZ:Dn sL:=Ep (c:=jI 3 vT) (ka (gV _ _) (kx iR fun _=>kx (gV _ _) fun _=>qv _)) (qv _)
theorem P0{l:List Pm}{n:List Pt->M Unit}(hs:s.idx=[])(h:∀b,Rel l {s with idx:=b} (n b)):Rel (gW sL tB::l) s (bnd xo n):=fun r=>by
 have hs':s={s with idx:=[]}:=by cases s;simp only at hs;subst hs;rfl
 unfold oc gW bnd sL xo;simp only
 by_cases hb:jI 3 vT r=true
 ·rw[if_pos hb,if_pos hb];unfold thn bnd
  cases hm:iO vT r with
  |mk r' x=>
   cases x with
   |error e=>rfl
   |ok a=>
    simp only
    cases hm2:ir r' with
    |mk r2 x2=>
     cases x2 with
     |error e=>rfl
     |ok b=>
      simp only
      cases KH:iO yn r2 with
      |mk r3 x3=>
       cases x3 with
       |error e=>rfl
       |ok _=>simp only[ret,cm,tB];exact h b r3
 ·rw[if_neg hb,if_neg hb];simp only[cm,tB];rw[hs'];exact h [] r
theorem MG(nm:Bs):Rel [gW sL tB,ij (iO iZ),gW ir rG,jf kI] {st0 with kind:=1,name:=nm} (bnd xo fun i=>thn (iO iZ) (bnd ir fun x=>kI {st0 with kind:=1,name:=nm,idx:=i,x:=x})):=P0 rfl fun _=>pA (vk fun _=>vl)
theorem V4(hO:∀b,b∈O0->b<w.heap.size)(qy:T∈k.X)(Gt:T∈O0)(Y0:c.R∈O0)(hcell:Cell k T j (fun _=>True) (fun v _ _ s s'=>∃n,v=.int .i64 n/\s'=toB n s)):Calls ah 105 #[.pointer (some ⟨c.R,0,none⟩),.pointer (some ⟨T,j,none⟩)] w (qL c k O0 jG (gW JB xw) w):=by
 refine(PY c.R T j w).mono ?_;rintro e w' ⟨b1,b2,rfl,hc,h2⟩;refine⟨_,_,_,rfl,⟨fun W=>by simp[go_sem],fun W' r o O hkeep hrt hown hpre=>?_⟩,h2⟩;obtain⟨⟨at_,hv,sv,fa,fc,os,hx⟩,hT⟩:=hrt;obtain⟨s,rfl⟩:∃s,o=some s:=hpre;have hl:=hx.env.tks.hl;have hB:=hx.env.hB;obtain⟨cs,t,c1,c2,c3⟩:=hcell s _ W' (hT s rfl);have As:=hx.kc qy;have ht:=hx.rH 1 ⟨#[66,89]⟩;refine(PI hx.rb (by omega) hx.env.tks.hn (hc.keep hkeep hO) hx.env.e0 c1 c2 (hx.ne qy) (hx.high T As).1 (hO T Gt) (hO c.R Y0) (by omega)).mono ?_;rintro e W2 ⟨v,rfl,⟨a1,rfl,q1,q2⟩|⟨a1,hp⟩⟩
 ·rw[decide_eq_false a1]at ht
  have hm:gW JB xw (r,some s)=((r,some s),.ok ()):=by
   have ht:jI 1 vL r=false:=ht;simp[gW,JB,ht,xw]
  obtain⟨g1,g2⟩:=RT.go hx hT q2 (r':=r) q1 hx.rest rfl rfl hx.fl (aj _);exact⟨O,by rw[hm];rfl,by rw[hm];exact g1,g2⟩
 ·rw[decide_eq_true a1]at ht;have ht:jI 1 vL r=true:=ht;have hr:(jF r).rest=lst c.toks (at_+1):=by show r.rest.tail=_;rw[hx.rest,mo]
  have hnum:=Is hr true
  have hm0:gW JB xw (r,some s)=gW (fun q=>(bnd (j8 true) fun n=>ret (some n)) q) xw (jF r,some s):=by
   simp only[gW,JB,ht,if_true,bnd,thn,lB]
  have hlen:∀i,at_+1<=i->(lst c.toks i).length<=r.rest.length:=fun i hi=>by rw[hx.rest,iM,iM];omega
  unfold Gi at hp
  rcases hp with⟨rfl,hok,q⟩|⟨rfl,hno,q1,q2⟩
  ·rw[if_pos hok]at hnum
   have hm:gW JB xw (r,some s)=(({jF r with rest:=lst c.toks ((if iu c.toks (at_+1)then at_+1+1 else at_+1)+1)},some (toB (if iu c.toks (at_+1)then -(gQ c.toks (if iu c.toks (at_+1)then at_+1+1 else at_+1)).n else(gQ c.toks (if iu c.toks (at_+1)then at_+1+1 else at_+1)).n) s)),.ok ()):=by
    rw[hm0];simp only[gW,bnd,hnum,ret,cm];rfl
   obtain⟨o1,o2⟩:=zo hx qy q.keep
   obtain⟨g1,g2⟩:=RT.put hx qy q.keep (r':={jF r with rest:=lst c.toks ((if iu c.toks (at_+1)then at_+1+1 else at_+1)+1)}) q.rb rfl rfl rfl rfl (hlen _ (by split <;> omega)) (o':=some (toB (if iu c.toks (at_+1)then -(gQ c.toks (if iu c.toks (at_+1)then at_+1+1 else at_+1)).n else(gQ c.toks (if iu c.toks (at_+1)then at_+1+1 else at_+1)).n) s)) (fun s' hs'=>by
    obtain rfl:=an hs'
    exact c3 _ _ _ _ trivial o1 o2 q.cell ⟨_,rfl,rfl⟩)
   exact⟨O,by rw[hm];rfl,by rw[hm];exact g1,g2⟩
  ·rw[if_neg (by rw[hno];decide)]at hnum
   have hm:gW JB xw (r,some s)=(({jF r with rest:=lst c.toks (if iu c.toks (at_+1)then at_+1+1 else at_+1)},none),.error .tok):=by
    rw[hm0];simp only[gW,bnd,hnum]
   obtain⟨g1,g2⟩:=RT.go hx hT q2 (r':={jF r with rest:=lst c.toks (if iu c.toks (at_+1)then at_+1+1 else at_+1)}) q1 rfl rfl rfl hx.fl (hlen _ (by split <;> omega));exact⟨O,by rw[hm];rfl,by rw[hm];exact g1.weak,g2⟩
theorem MH(hO:∀b,b∈O0->b<w.heap.size)(qy:T∈k.X)(Gt:T∈O0)(Y0:c.R∈O0)(hcell:Cell k T j (fun _=>True) (fun v P w s s'=>∃x,mg w P x v/\s'=XU x s)):Calls ah 154 #[.pointer (some ⟨c.R,0,none⟩),.pointer (some ⟨T,j,none⟩)] w (qL c k O0 jG (gW sL tB) w):=by
 refine(Gu c.R T j w).mono ?_;rintro e w' ⟨b1,b2,rfl,hc,h2⟩;refine⟨_,_,_,rfl,⟨fun W=>by simp[go_sem],fun W' r o O hkeep hrt hown hpre=>?_⟩,h2⟩;obtain⟨⟨at_,hv,sv,fa,fc,os,hx⟩,hT⟩:=hrt;obtain⟨s,rfl⟩:∃s,o=some s:=hpre;have hl:=hx.env.tks.hl;have hB:=hx.env.hB;obtain⟨cs,t,c1,c2,c3⟩:=hcell s _ W' (hT s rfl);have As:=hx.kc qy;have ht:=hx.rH 3 ⟨#[91]⟩;refine(Gj hx.rb (by omega) hx.env.tks.hs (hc.keep hkeep hO) hx.env.e0 hx.env.e1 hx.env.tG c1 c2 (hx.ne qy) (hx.high T As).1 (hO T Gt) (hO c.R Y0) hB).mono ?_;rintro e W2 ⟨v,rfl,⟨a1,rfl,q1,q2⟩|⟨a1,hp⟩⟩
 ·rw[decide_eq_false a1]at ht
  have hm:gW sL tB (r,some s)=((r,some s),.ok ()):=by
   have ht:jI 3 vT r=false:=ht;simp[gW,sL,ht,tB]
  obtain⟨g1,g2⟩:=RT.go hx hT q2 (r':=r) q1 hx.rest rfl rfl hx.fl (aj _);exact⟨O,by rw[hm];rfl,by rw[hm];exact g1,g2⟩
 ·rw[decide_eq_true a1]at ht;have ht:jI 3 vT r=true:=ht;have hlt:at_<c.toks.length:=at_in (by rw[a1.1];decide);have hr:(jF r).rest=lst c.toks (at_+1):=by show r.rest.tail=_;rw[hx.rest,mo]
  have hm0:gW sL tB (r,some s)=gW (fun q=>(bnd ir fun x=>bnd (iO yn) fun _=>ret (some x)) q) tB (jF r,some s):=by
   simp only[gW,sL,ht,if_true,bnd,thn,lB]
  have hlen:∀i,at_<=i->(lst c.toks i).length<=r.rest.length:=fun i hi=>by rw[hx.rest,iM,iM];omega
  have new:∀ {W3:World}{pv:Value}{xs:List Pv},W3.ownsRow W'.heap.size 42 5 pv xs.length (oE xs)->∀b,pv.ownBlock=some b->b∉O:=fun {W3}{pv}{xs} hq b hb hm=>by
   have:=(hq.lt b hb).1;have:=(hx.high b hm).2;omega
  unfold Ca at hp
  rcases hp with⟨rfl,x,q,n,b1',b2',hn,hI⟩|⟨rfl,n,cd,hpr,q1,q2⟩|⟨rfl,x,q,n,hno,hn,hI⟩
  ·have hpr:=hI.read;have hq:=rI hpr (by omega);have PX:=nr hpr;rw[iM]at PX;obtain⟨pv,xs,hxs,hown',hcl⟩:=hI.cell;have Gb:=we hpr;rw[<-hxs,aQ]at Gb
   have hsg:jI 3 yn {jF r with rest:=q}=true:=by
    unfold jI;show(decide ((jW q).kind=3)&&((jW q).s==yn))=true;rw[hq,oK,<-hn];show(decide ((gQ c.toks n).k=3)&&((gQ c.toks n).s.data.toList==yn))=true;rw[b1',b2'];rfl
   have hm:gW sL tB (r,some s)=(({jF r with rest:=q.tail},some (XU x s)),.ok ()):=by
    rw[hm0];simp only[gW,bnd,ir,hr,hpr,lB,hsg,if_true,ret,cm];rfl
   obtain⟨o1,o2⟩:=zo hx qy hI.keep
   obtain⟨g1,g2⟩:=RT.put hx qy hI.keep (r':={jF r with rest:=q.tail}) hI.rb (by show q.tail=_;rw[hq,mo,<-hn]) rfl rfl rfl (by show q.tail.length<=_;rw[hx.rest,iM,List.length_tail];omega) (o':=some (XU x s)) (fun s' hs'=>by
    obtain rfl:=an hs'
    exact c3 _ _ _ _ trivial o1 o2 hcl ⟨x,⟨xs,hxs,l6 hown' (by omega) _ (new hown')⟩,rfl⟩)
   exact⟨O,by rw[hm];rfl,by rw[hm];exact g1,g2⟩
  ·have hm:gW sL tB (r,some s)=(({jF r with fault:=(n,cd)},none),.error .exp):=by
    rw[hm0];simp only[gW,bnd,ir,hr,hpr]
   obtain⟨g1,g2⟩:=RT.go hx hT q2 (r':={jF r with fault:=(n,cd)}) q1 hr rfl rfl (fun _=>⟨rfl,rfl⟩) (kV _);exact⟨O,by rw[hm];rfl,by rw[hm];exact g1.weak,g2⟩
  ·have hpr:=hI.read;have hq:=rI hpr (by omega);have PX:=nr hpr;rw[iM]at PX
   have hsg:jI 3 yn {jF r with rest:=q}=false:=by
    unfold jI;show(decide ((jW q).kind=3)&&((jW q).s==yn))=false;rw[hq,oK,<-hn];show(decide ((gQ c.toks n).k=3)&&((gQ c.toks n).s.data.toList==yn))=false;rw[Bool.eq_false_iff];intro hb;simp only[aH,decide_eq_true_eq,beq_iff_eq]at hb;exact hno ⟨hb.1,by rw[<-nj (gQ c.toks n).s,hb.2]⟩
   have hm:gW sL tB (r,some s)=(({jF r with rest:=q},none),.error .tok):=by
    rw[hm0];simp only[gW,bnd,ir,hr,hpr,lB,hsg,eX,if_false]
   obtain⟨g1,g2⟩:=RT.put hx qy hI.keep (r':={jF r with rest:=q}) hI.rb (by show q=_;rw[hn];exact hq) rfl rfl rfl (by show q.length<=_;rw[hx.rest,iM];omega) (o':=none) (fun s' hs'=>by cases hs');exact⟨O,by rw[hm];rfl,by rw[hm];exact g1,g2⟩
end Go.Proofs.YtekanffohkeoeaaGreatDoor
