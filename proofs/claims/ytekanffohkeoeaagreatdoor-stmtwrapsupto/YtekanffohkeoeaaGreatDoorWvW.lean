import Derived.Test.YtekanffohkeoeaaGreatDoorLxW
import Derived.Test.YtekanffohkeoeaaGreatDoorBkP
import Derived.Test.YtekanffohkeoeaaGreatDoorYiW
import Derived.Test.YtekanffohkeoeaaGreatDoorTkW
import Derived.Test.YtekanffohkeoeaaGreatDoorEmW
import Derived.Deep.RegionHeld3
import Derived.Deep.QuietTactic
import Derived.Test.YtekanffohkeoeaaGreatDoorRwW
namespace Go.Proofs.YtekanffohkeoeaaGreatDoor
open Go.RowKit
open List renaming cons_append → bM, take_add_one → cr, length_take → bU, take_succ_cons → bF, length_append → ao, length_cons → aG, all_eq_true → eZ, take_of_length_le → aX, append_assoc → aO, nil_append → bQ, map_cons → bL, length_nil → eY, length_map → aQ, mem_map → fB, mem_append → aN, mem_cons → aI, not_mem_nil → bG, eq_nil_of_length_eq_zero → cu, append_nil → bm
open Bool renaming false_eq_true → eX, and_eq_true → aH
open Go.Proofs.Tryz renaming prog → ah, func46 → dB, ntmps46 → dx, results46 → cX, underlying24 → cY
open Go.RowKit.Below renaming refl → aw, heap_setCell → aM
open Nat renaming le_refl → aj, zero_mul → fy, le_trans → aP
open Go renaming heap_alloc_new → aE, bodyPost_end → aW, results → aV, ownsRow_setCell_other → bJ, bodyPost_ret → aU, redrawn → bI, cell_regrown → bs, Regrown → ep, below_regrown → dz, wp_region_quiet_below → dI, maxLen → ff
open Go.Lib renaming cell_of_heap → af, frozen_of_heap → aC, alloc_old → bj
open Option.some renaming inj → an
open Go.World renaming setCell → cW, size_setCell → bO, ownsRow_nil → bS, size_alloc → aB
open And renaming intro → fw
open List.cons renaming injEq → cZ
open Go.Sort renaming grow → bk
open Go.Calls renaming regrown_of → cC
open Go.Builtin renaming append_ → dR
open Go.Region renaming wanted → cM
open Go.Result renaming andThen_ok → cS
set_option maxRecDepth 100000
set_option maxHeartbeats 12800000
def vK(a:Bs×List Pt):List Tk:=gO a.1::gP iZ::jm a.2
theorem Fz:∀(l:List (Bs×List Pt))(a:Bs×List Pt),ou (l++[a])=if l.isEmpty then vK a else ou l++gP ja::vK a
 |[],a=>rfl
 |[b],a=>by simp[ou,vK]
 |b::c::l,a=>by
  have:=Fz (c::l) a;simp only[bM,List.isEmpty_cons,eX,if_false]at this ⊢;rw[ou,this,ou];simp
variable {k:Nat}
theorem Oq{l:List (Bs×List Pt)}{a:Bs×List Pt}(h:l[k]? =some a):ou (l.take (k+1))=if k=0 then vK a else ou (l.take k)++gP ja::vK a:=by
 rw[cr,h];show ou (l.take k++[a])=_;rw[Fz];have hk:k<l.length:=(List.getElem?_eq_some_iff.1 h).1
 by_cases h0:k=0
 ·subst h0;rfl
 ·rw[if_neg h0,if_neg (by rw[List.isEmpty_iff];intro e;exact absurd (show min k l.length=0 by rw[<-bU,e];rfl) (by omega))]
theorem xj(l:List (Bs×List Pt))(k:Nat):(ou (l.take k)).length<=(ou l).length:=by
 have:∀(l:List (Bs×List Pt))(k:Nat),(ou (l.take k)).length<=(ou l).length:=fun l=>by
  induction l with
  |nil=>intro k;simp
  |cons a l ih=>intro k;cases k with
   |zero=>simp[ou]
   |succ k=>
    cases l with
    |nil=>simp
    |cons b l=>
     have h:=ih k
     cases k with
     |zero=>simp only[bF,List.take_zero,ou,ao,aG];omega
     |succ k=>
      simp only[bF,ou,ao,aG]at h ⊢;omega
 exact this l k
variable {b:Nat}{w:World}
theorem Sl.blk{P:Nat->Prop}{size:Nat}{n:Nat}{cs:List Value}{a:Option Addr}{off cap:Nat}(h:Sl w P size (.slice a n cap) n cs)(ha:0<n->a=some ⟨b,off,none⟩):0<n->P b:=fun hp=>by
 obtain⟨a',bb,off',cap',e1,_,_,e4,_⟩:=h;have e2:=ha hp;have e3:=(e4 hp).2;injection e1 with ET
 rw[e2]at ET;rw[e3]at ET;injection ET with UC
 injection UC with UD
 rw[UD];exact(e4 hp).1
variable {L:List Tk}{B:Nat}{R:Nat}
theorem Ks(s:St)(nv:ByteArray)(iv xv yv bv ev av gv:Value)(h:WS B R L w)(hv:SV B R w s nv iv xv yv bv ev av gv)(hg:kZ w)(h13:13<R)(hk:s.kind=7)(ho:l4 s=true)(hl:L.length+(kH s).length<=900000000):Calls ah 75 #[.pointer (some ⟨R,0,none⟩),.agg #[.int .i64 s.kind,.string nv,iv,xv,yv,.int .i64 s.gT,bv,ev,av,gv]] w (Wrote B R L (kH s) w):=by
 obtain⟨hs',hnm,hag⟩:=To ho hk;have HN:=qet (sZ hv.nm (wg hnm))
 have pL:qes (kH s=gO s.name::gP tr::(ou s.args++[gP grp])):=by
  show _=_
  conv=>lhs;rw[hs']
  simp[kH]
 have HL:qes (L.length+(3+(ou s.args).length)<=900000000):=by show _<=_;rw[pL.o]at hl;simp at hl;omega
 have Ea:qes (∀(k:Nat)(a:Bs×List Pt),s.args[k]? =some a->kC a.1=true/\lP a.2=true):=fun k a hk=>by
  unfold l9 at hag;rw[aH]at hag;have:=eZ.1 hag.2 a (List.mem_of_getElem? hk);unfold rU at this;rw[aH]at this;exact this
 obtain⟨cs,hsl,WX⟩:=hv.args;obtain⟨a1,b1,o1,c1,hgv,hn1,ha1,hc1⟩:=hsl.shape;rw[hgv]at hsl;have za:=qet (hsl.blk ha1);have UR:=qet hc1;have WY:=qet WX;subst hgv;obtain⟨M,hM⟩:∃M,M=s.args.length:=⟨_,rfl⟩
 rw[<-hM]at hn1 ha1 hv za ⊢;have mQ:=qet hM;have m0:(0:Int)<=(M:Int):=by omega
 clear hsl hc1 WX hM hs' hnm hag ho hk hl;have HR:=qet h13;have HB:=qet h.hB;have b0:=(aw w.heap.size w).alloc (aj _) (.cells #[.int .i64 s.kind,.string nv,iv,xv,yv,.int .i64 s.gT,bv,ev,av,.slice a1 M c1] 48);have xX:=qet (iH.of_below (R:=R) b0 h.le);have Ad:=qet (h.below b0);have Ae:=qet (aE w (.cells #[.int .i64 s.kind,.string nv,iv,xv,yv,.int .i64 s.gT,bv,ev,av,.slice a1 M c1] 48));have lu:qes (w.heap.size≠R):=fun e=>by have:=h.hB;have:=h.le;omega
 have HV:=qet hv;have HG:=qet hg;unfold Wrote;clear hv hg h13 h b0;go_enter Tryz.func75,Tryz.ntmps75;have t1:=iz Ad.o nv HN.o (by have:=HL.o;omega);go_wp2_with fail;refine t1.mono ?_;rintro e w1 ⟨rfl,h1,k1⟩;have xY:qes (WS B R (L++[gO s.name]) w1):=(by show WS _ _ _ _;rw[HV.o.nm]at h1;exact h1)
 have tM:=qet (xX.o.trans k1);have qR:qes (w1.heap[w.heap.size]? =some (.cells #[.int .i64 s.kind,.string nv,iv,xv,yv,.int .i64 s.gT,bv,ev,av,.slice a1 M c1] 48)):=k1.others w.heap.size _ Ae.o lu.o (fun c fz e=>by injection e with _ e2;cases e2);clear t1 h1 k1;have t2:=jP xY.o ⟨#[40]⟩ (by have:=HL.o;simp;omega);go_wp2_with fail;refine t2.mono ?_;rintro e w2 ⟨rfl,h2,k2⟩;have BG:qes (WS B R (L++[gO s.name]++[gP tr]) w2):=h2;have xg:=qet (tM.o.trans k2);have xZ:qes (w2.heap[w.heap.size]? =some (.cells #[.int .i64 s.kind,.string nv,iv,xv,yv,.int .i64 s.gT,bv,ev,av,.slice a1 M c1] 48)):=k2.others w.heap.size _ qR.o lu.o (fun c fz e=>by injection e with _ e2;cases e2);clear t2 h2 k2;have qd2:w2.cell? ⟨w.heap.size,9,none⟩=some (.slice a1 M c1):=by rw[af xZ.o];rfl
 go_wp2_with fail
 go_loopw [4,15] (fun _ i wr=>∃(k:Nat),k<=M/\i=.int .i64 (k:Int)/\qes (WS B R (L++[gO s.name]++[gP tr]++ou (s.args.take k)) wr/\iH B R w wr/\wr.heap[w.heap.size]? =some (.cells #[.int .i64 s.kind,.string nv,iv,xv,yv,.int .i64 s.gT,bv,ev,av,.slice a1 M c1] 48))) (fun _ i _=>M-(intOf i).toNat)
 case atStart=>exact⟨0,by omega,rfl,by simpa[ou]using BG.o,xg.o,xZ.o⟩
 case round=>
  obtain⟨k,hk,rfl,hh⟩:=hrel;have S:=qet hh.o.1;have Q:=qet hh.o.2.1;have K:=qet hh.o.2.2;clear hh
  by_cases hlt:k<M
  ·have j1:(k:Int)<(M:Int):=by omega
   have j0:(0:Int)<=(k:Int):=by omega
   obtain⟨x,hx⟩:∃x,s.args[k]? =some x:=⟨_,List.getElem?_eq_getElem (by rw[<-mQ.o];exact hlt)⟩
   obtain⟨hxw,hxe⟩:=Ea.o k x hx;obtain⟨Af,xv1,q0,q1,q2,q3⟩:=xG w (Pw B R) s.args cs k x WY.o hx;have hp:=za.o (by omega);have d0:wr.cell? ⟨b1,o1+k*2,none⟩=some (.string Af):=(World.cell?_of_block (Q.o.block b1 hp.1 hp.2)).trans (UR.o k 0 _ q0);have A6:=qet q3;obtain⟨a3,n3,c3,hx3⟩:=q3.shape;subst hx3;have d1:wr.cell? ⟨b1,o1+k*2+1,none⟩=some (.slice a3 n3 c3):=(World.cell?_of_block (Q.o.block b1 hp.1 hp.2)).trans (UR.o k 1 _ q1);have ha':=ha1 (by omega);subst ha';have HT:=qet (Oq hx);have RD:=qet (sZ q2 hxw);have HXE:=qet hxe;have Ye:=qet q2;have IW:=qet (xj s.args (k+1));have AH:=qet (xj s.args k);have B5:=(aw wr.heap.size wr).alloc (aj _) (.cells #[.string Af,.slice a3 n3 c3] 75);have Q5:=qet (Q.o.trans (iH.of_below (R:=R) B5 S.o.le));have S5:=qet (S.o.below B5);have K5:=qet ((B5.block _ (lt_of_heap K.o)).trans K.o);have A5:=qet (aE wr (.cells #[.string Af,.slice a3 n3 c3] 75));have US:qes (wr.heap.size≠R):=fun e=>by have:=S.o.hB;have:=S.o.le;omega
   clear hx hxw hxe q0 q1 q2 q3 hp B5
   by_cases hk0:k=0
   ·have i1:¬ (0:Int)<(k:Int):=by omega
    have wS:=qet hk0;have HZ:qes ((ou (s.args.take k)).length=0):=by show _=_;rw[hk0];rfl
    clear hk0;have qd4:(wr.alloc (.cells #[.string Af,.slice a3 n3 c3] 75)).cell? ⟨wr.heap.size,0,none⟩=some (.string Af):=by rw[af A5.o];rfl
    have t11:=iz S5.o Af RD.o (by have h0:=HZ.o;have h1:=HL.o;have h2:=IW.o;have h3:=AH.o;rw[HT.o,if_pos wS.o]at h2;unfold vK at h2;simp at h2 ⊢;omega);go_wp2_with fail;refine t11.mono ?_;rintro e KI ⟨rfl,h11,k11⟩;have jS:qes (WS B R (L++[gO s.name]++[gP tr]++ou (s.args.take k)++[gO x.1]) KI):=(by show WS _ _ _ _;rw[Ye.o]at h11;exact h11)
    have kf:=qet (Q5.o.trans k11);have l8:qes (KI.heap[w.heap.size]? =some (.cells #[.int .i64 s.kind,.string nv,iv,xv,yv,.int .i64 s.gT,bv,ev,av,.slice (some ⟨b1,o1,none⟩) M c1] 48)):=k11.others w.heap.size _ K5.o lu.o (fun c fz e=>by injection e with _ e2;cases e2);have Yf:qes (KI.heap[wr.heap.size]? =some (.cells #[.string Af,.slice a3 n3 c3] 75)):=k11.others wr.heap.size _ A5.o US.o (fun c fz e=>by injection e with _ e2;cases e2);clear t11 h11 k11;have t12:=jP jS.o ⟨#[58,61]⟩ (by have h0:=HZ.o;have h1:=HL.o;have h2:=IW.o;have h3:=AH.o;rw[HT.o,if_pos wS.o]at h2;unfold vK at h2;simp at h2 ⊢;omega);go_wp2_with fail;refine t12.mono ?_;rintro e w12 ⟨rfl,h12,k12⟩;have mC:qes (WS B R (L++[gO s.name]++[gP tr]++ou (s.args.take k)++[gO x.1]++[gP iZ]) w12):=h12;have WZ:=qet (kf.o.trans k12);have pG:qes (w12.heap[w.heap.size]? =some (.cells #[.int .i64 s.kind,.string nv,iv,xv,yv,.int .i64 s.gT,bv,ev,av,.slice (some ⟨b1,o1,none⟩) M c1] 48)):=k12.others w.heap.size _ l8.o lu.o (fun c fz e=>by injection e with _ e2;cases e2);have Yg:qes (w12.heap[wr.heap.size]? =some (.cells #[.string Af,.slice a3 n3 c3] 75)):=k12.others wr.heap.size _ Yf.o US.o (fun c fz e=>by injection e with _ e2;cases e2);clear t12 h12 k12;have qd5:w12.cell? ⟨wr.heap.size,1,none⟩=some (.slice a3 n3 c3):=by rw[af Yg.o];rfl
    have t13:=ke mC.o x.2 _ (A6.o.on (On.iW WZ.o)).any HXE.o (HG.o.iW WZ.o HR.o HB.o) (by have h0:=HZ.o;have h1:=HL.o;have h2:=IW.o;have h3:=AH.o;rw[HT.o,if_pos wS.o]at h2;unfold vK at h2;simp at h2 ⊢;omega);go_wp2_with fail;refine t13.mono ?_;rintro e Ra ⟨rfl,h13,k13⟩;have tL:qes (WS B R (L++[gO s.name]++[gP tr]++ou (s.args.take k)++[gO x.1]++[gP iZ]++jm x.2) Ra):=h13;have W5:=qet (WZ.o.trans k13);have vC:qes (Ra.heap[w.heap.size]? =some (.cells #[.int .i64 s.kind,.string nv,iv,xv,yv,.int .i64 s.gT,bv,ev,av,.slice (some ⟨b1,o1,none⟩) M c1] 48)):=k13.others w.heap.size _ pG.o lu.o (fun c fz e=>by injection e with _ e2;cases e2);have vD:qes (Ra.heap[wr.heap.size]? =some (.cells #[.string Af,.slice a3 n3 c3] 75)):=k13.others wr.heap.size _ Yg.o US.o (fun c fz e=>by injection e with _ e2;cases e2);clear t13 h13 k13
    have SS:qes (WS B R (L++[gO s.name]++[gP tr]++ou (s.args.take (k+1))) Ra):=by
     show WS _ _ _ _;rw[HT.o,if_pos wS.o];have h9:=tL.o;rw[wS.o]at h9
     simpa[vK,ou]using h9
    go_wp2
    go_roundw
    case rel=>exact⟨k+1,by omega,by go_num,SS.o,W5.o,vC.o⟩
    case measure=>simp[intOf];omega
   ·have i1:(0:Int)<(k:Int):=by omega
    have wS:qes (¬k=0):=hk0;clear hk0;have t11:=jP S5.o ⟨#[44]⟩ (by have h1:=HL.o;have h2:=IW.o;have h3:=AH.o;rw[HT.o,if_neg wS.o]at h2;unfold vK at h2;simp at h2 ⊢;omega);go_wp2_with fail;refine t11.mono ?_;rintro e KI ⟨rfl,h11,k11⟩;have jS:qes (WS B R (L++[gO s.name]++[gP tr]++ou (s.args.take k)++[gP ja]) KI):=h11;have kf:=qet (Q5.o.trans k11);have l8:qes (KI.heap[w.heap.size]? =some (.cells #[.int .i64 s.kind,.string nv,iv,xv,yv,.int .i64 s.gT,bv,ev,av,.slice (some ⟨b1,o1,none⟩) M c1] 48)):=k11.others w.heap.size _ K5.o lu.o (fun c fz e=>by injection e with _ e2;cases e2);have Yf:qes (KI.heap[wr.heap.size]? =some (.cells #[.string Af,.slice a3 n3 c3] 75)):=k11.others wr.heap.size _ A5.o US.o (fun c fz e=>by injection e with _ e2;cases e2);clear t11 h11 k11;have qd6:KI.cell? ⟨wr.heap.size,0,none⟩=some (.string Af):=by rw[af Yf.o];rfl
    have t12:=iz jS.o Af RD.o (by have h1:=HL.o;have h2:=IW.o;have h3:=AH.o;rw[HT.o,if_neg wS.o]at h2;unfold vK at h2;simp at h2 ⊢;omega);go_wp2_with fail;refine t12.mono ?_;rintro e w12 ⟨rfl,h12,k12⟩;have mC:qes (WS B R (L++[gO s.name]++[gP tr]++ou (s.args.take k)++[gP ja]++[gO x.1]) w12):=(by show WS _ _ _ _;rw[Ye.o]at h12;exact h12)
    have WZ:=qet (kf.o.trans k12);have pG:qes (w12.heap[w.heap.size]? =some (.cells #[.int .i64 s.kind,.string nv,iv,xv,yv,.int .i64 s.gT,bv,ev,av,.slice (some ⟨b1,o1,none⟩) M c1] 48)):=k12.others w.heap.size _ l8.o lu.o (fun c fz e=>by injection e with _ e2;cases e2);have Yg:qes (w12.heap[wr.heap.size]? =some (.cells #[.string Af,.slice a3 n3 c3] 75)):=k12.others wr.heap.size _ Yf.o US.o (fun c fz e=>by injection e with _ e2;cases e2);clear t12 h12 k12;have t13:=jP mC.o ⟨#[58,61]⟩ (by have h1:=HL.o;have h2:=IW.o;have h3:=AH.o;rw[HT.o,if_neg wS.o]at h2;unfold vK at h2;simp at h2 ⊢;omega);go_wp2_with fail;refine t13.mono ?_;rintro e Ra ⟨rfl,h13,k13⟩;have tL:qes (WS B R (L++[gO s.name]++[gP tr]++ou (s.args.take k)++[gP ja]++[gO x.1]++[gP iZ]) Ra):=h13;have W5:=qet (WZ.o.trans k13);have vC:qes (Ra.heap[w.heap.size]? =some (.cells #[.int .i64 s.kind,.string nv,iv,xv,yv,.int .i64 s.gT,bv,ev,av,.slice (some ⟨b1,o1,none⟩) M c1] 48)):=k13.others w.heap.size _ pG.o lu.o (fun c fz e=>by injection e with _ e2;cases e2);have vD:qes (Ra.heap[wr.heap.size]? =some (.cells #[.string Af,.slice a3 n3 c3] 75)):=k13.others wr.heap.size _ Yg.o US.o (fun c fz e=>by injection e with _ e2;cases e2);clear t13 h13 k13;have qd7:Ra.cell? ⟨wr.heap.size,1,none⟩=some (.slice a3 n3 c3):=by rw[af vD.o];rfl
    have t14:=ke tL.o x.2 _ (A6.o.on (On.iW W5.o)).any HXE.o (HG.o.iW W5.o HR.o HB.o) (by have h1:=HL.o;have h2:=IW.o;have h3:=AH.o;rw[HT.o,if_neg wS.o]at h2;unfold vK at h2;simp at h2 ⊢;omega);go_wp2_with fail;refine t14.mono ?_;rintro e Yh ⟨rfl,h14,k14⟩;have S14:qes (WS B R (L++[gO s.name]++[gP tr]++ou (s.args.take k)++[gP ja]++[gO x.1]++[gP iZ]++jm x.2) Yh):=h14;have Q14:=qet (W5.o.trans k14);have K14:qes (Yh.heap[w.heap.size]? =some (.cells #[.int .i64 s.kind,.string nv,iv,xv,yv,.int .i64 s.gT,bv,ev,av,.slice (some ⟨b1,o1,none⟩) M c1] 48)):=k14.others w.heap.size _ vC.o lu.o (fun c fz e=>by injection e with _ e2;cases e2);have A14:qes (Yh.heap[wr.heap.size]? =some (.cells #[.string Af,.slice a3 n3 c3] 75)):=k14.others wr.heap.size _ vD.o US.o (fun c fz e=>by injection e with _ e2;cases e2);clear t14 h14 k14
    have SS:qes (WS B R (L++[gO s.name]++[gP tr]++ou (s.args.take (k+1))) Yh):=by
     show WS _ _ _ _;rw[HT.o,if_neg wS.o];have h9:=S14.o
     simpa[vK]using h9
    go_wp2
    go_roundw
    case rel=>exact⟨k+1,by omega,by go_num,SS.o,Q14.o,K14.o⟩
    case measure=>simp[intOf];omega
  ·obtain rfl:k=M:=by omega
   have j1:¬ (k:Int)<(k:Int):=by omega
   have SF:qes (WS B R (L++[gO s.name]++[gP tr]++ou s.args) wr):=by
    show WS _ _ _ _;have:=S.o
    rwa [aX (by rw[mQ.o];exact aj _)]at this
   have t1:=jP SF.o ⟨#[41]⟩ (by have:=HL.o;simp;omega);go_wp2_with fail;refine t1.mono ?_;rintro e w1 ⟨rfl,h1,k1⟩;have S1:qes (WS B R (L++[gO s.name]++[gP tr]++ou s.args++[gP grp]) w1):=h1;have Q1:=qet (Q.o.trans k1);clear t1 h1 k1;go_wp2;refine aW (v:=.tuple #[]) ?_ rfl ⟨rfl,?_,Q1.o⟩
   ·simp[aV,Tryz.results75,go_sem]
   ·have:=S1.o;rw[pL.o]
    simpa using this
theorem Ot{l:List (List Int×List St)}{a:List Int×List St}(h:l[k]? =some a):pM (l.take (k+1))=pM (l.take k)++ON a:=by
 induction l generalizing k with
 |nil=>cases h
 |cons x l ih=>
  cases k with
  |zero=>
   obtain rfl:x=a:=an h;simp[pM]
  |succ k=>rw[bF,bF,pM,pM,ih h,aO]
theorem FA(l:List (List Int×List St))(k:Nat):(pM (l.take k)).length<=(pM l).length:=by
 induction l generalizing k with
 |nil=>simp
 |cons x l ih=>
  cases k with
  |zero=>simp[pM]
  |succ k=>rw[bF,pM,pM,ao,ao];have:=ih k;omega
variable {m:Nat}{d:Nat}
theorem Hi(s:St)(nv:ByteArray)(iv xv yv bv ev av gv:Value)(h:WS B R L w)(hv:SV B R w s nv iv xv yv bv ev av gv)(hg:kZ w)(h13:13<R)(hm:Eh m)(hc:jY s<=m+1)(hmay:me d s=true)(hk:s.kind=6)(hl:L.length+(kH s).length<=900000000):Calls ah 74 #[.pointer (some ⟨R,0,none⟩),.agg #[.int .i64 s.kind,.string nv,iv,xv,yv,.int .i64 s.gT,bv,ev,av,gv]] w (Wrote B R L (kH s) w):=by
 obtain⟨_,ho,hma,_,hme⟩:=jD hmay;obtain⟨hs',hx,har⟩:=Tn ho hk;have hcs:=j9 s
 have pL:qes (kH s=gO jE::(jm s.x++gO Dr::(pM s.arms++(wM s.els++[gO jo])))):=by
  show _=_
  conv=>lhs;rw[hs']
  simp[kH,wM]
 have HL:qes (L.length+(3+(jm s.x).length+(pM s.arms).length+(wM s.els).length)<=900000000):=by show _<=_;rw[pL.o]at hl;simp at hl;omega
 have HX:=qet hx;have HM:=qet hm;have Yi:qes (iw s.els<=m):=by show _<=_;omega
 have Ea:qes (∀(k:Nat)(a:List Int×List St),s.arms[k]? =some a->ot a=true/\jO (d+1) a.2=true/\iw a.2<=m):=fun k a hk=>by
  unfold lQ at har;rw[aH]at har;rw[yV]at hma;have h1:=uU hk;exact⟨eZ.1 har.2 a (List.mem_of_getElem? hk),eZ.1 hma a (List.mem_of_getElem? hk),by omega⟩
 have W6:=qet hme;obtain⟨cs,hsl,W7⟩:=hv.arms;obtain⟨a1,b1,o1,c1,hgv,hn1,ha1,hc1⟩:=hsl.shape;rw[hgv]at hsl;have za:=qet (hsl.blk ha1);have UR:=qet hc1;have HAR:=qet W7;subst hgv;obtain⟨M,hM⟩:∃M,M=s.arms.length:=⟨_,rfl⟩
 rw[<-hM]at hn1 ha1 hv za ⊢;have mQ:=qet hM;have m0:(0:Int)<=(M:Int):=by omega
 clear hsl hc1 W7 hM hs' hx har ho hk hl hcs hma hme hmay hm hc;have HR:=qet h13;have HB:=qet h.hB;have b0:=(aw w.heap.size w).alloc (aj _) (.cells #[.int .i64 s.kind,.string nv,iv,xv,yv,.int .i64 s.gT,bv,ev,.slice a1 M c1,gv] 48);have xX:=qet (iH.of_below (R:=R) b0 h.le);have Ad:=qet (h.below b0);have Ae:=qet (aE w (.cells #[.int .i64 s.kind,.string nv,iv,xv,yv,.int .i64 s.gT,bv,ev,.slice a1 M c1,gv] 48));have lu:qes (w.heap.size≠R):=fun e=>by have:=h.hB;have:=h.le;omega
 have HV:=qet hv;have HG:=qet hg;unfold Wrote;clear hv hg h13 h b0;go_enter Tryz.func74,Tryz.ntmps74;have t1:=iz Ad.o ⟨#[67,65,83,69]⟩ (by decide) (by have:=HL.o;omega);go_wp2_with fail;refine t1.mono ?_;rintro e w1 ⟨rfl,h1,k1⟩;have xY:qes (WS B R (L++[gO jE]) w1):=h1;have tM:=qet (xX.o.trans k1);have qR:qes (w1.heap[w.heap.size]? =some (.cells #[.int .i64 s.kind,.string nv,iv,xv,yv,.int .i64 s.gT,bv,ev,.slice a1 M c1,gv] 48)):=k1.others w.heap.size _ Ae.o lu.o (fun c fz e=>by injection e with _ e2;cases e2);clear t1 h1 k1;have QX:w1.cell? ⟨w.heap.size,3,none⟩=some (xv):=by rw[af qR.o];rfl
 have t2:=ke xY.o s.x _ (HV.o.keep tM.o).x.any HX.o (HG.o.iW tM.o HR.o HB.o) (by have:=HL.o;simp;omega);go_wp2_with fail;refine t2.mono ?_;rintro e w2 ⟨rfl,h2,k2⟩;have BG:qes (WS B R (L++[gO jE]++jm s.x) w2):=h2;have xg:=qet (tM.o.trans k2);have xZ:qes (w2.heap[w.heap.size]? =some (.cells #[.int .i64 s.kind,.string nv,iv,xv,yv,.int .i64 s.gT,bv,ev,.slice a1 M c1,gv] 48)):=k2.others w.heap.size _ qR.o lu.o (fun c fz e=>by injection e with _ e2;cases e2);clear t2 h2 k2;have t3:=iz BG.o ⟨#[79,70]⟩ (by decide) (by have:=HL.o;simp;omega);go_wp2_with fail;refine t3.mono ?_;rintro e w3 ⟨rfl,h3,k3⟩;have Hg:qes (WS B R (L++[gO jE]++jm s.x++[gO Dr]) w3):=h3;have zZ:=qet (xg.o.trans k3);have Dv:qes (w3.heap[w.heap.size]? =some (.cells #[.int .i64 s.kind,.string nv,iv,xv,yv,.int .i64 s.gT,bv,ev,.slice a1 M c1,gv] 48)):=k3.others w.heap.size _ xZ.o lu.o (fun c fz e=>by injection e with _ e2;cases e2);clear t3 h3 k3;have qec:w3.cell? ⟨w.heap.size,8,none⟩=some (.slice a1 M c1):=by rw[af Dv.o];rfl
 go_wp2_with fail
 go_loopw [17] (fun i wr=>∃(k:Nat),k<=M/\i=.int .i64 (k:Int)/\qes (WS B R (L++[gO jE]++jm s.x++[gO Dr]++pM (s.arms.take k)) wr/\iH B R w wr/\wr.heap[w.heap.size]? =some (.cells #[.int .i64 s.kind,.string nv,iv,xv,yv,.int .i64 s.gT,bv,ev,.slice a1 M c1,gv] 48))) (fun i _=>M-(intOf i).toNat)
 case atStart=>exact⟨0,by omega,rfl,by simpa[pM]using Hg.o,zZ.o,Dv.o⟩
 case round=>
  obtain⟨k,hk,rfl,hh⟩:=hrel;have S:=qet hh.o.1;have Q:=qet hh.o.2.1;have K:=qet hh.o.2.2;clear hh
  by_cases hlt:k<M
  ·have j1:(k:Int)<(M:Int):=by omega
   have j0:(0:Int)<=(k:Int):=by omega
   obtain⟨x,hx⟩:∃x,s.arms[k]? =some x:=⟨_,List.getElem?_eq_getElem (by rw[<-mQ.o];exact hlt)⟩
   obtain⟨hok,hmy,hct⟩:=Ea.o k x hx;obtain⟨lv1,Vg,q0,q1,q2,q3⟩:=oI w (Pw B R) s.arms cs k x HAR.o hx;have hp:=za.o (by omega);have Ye:=qet q2;have A6:=qet q3;obtain⟨a2,n2,c2,hx2⟩:=q2.shape;obtain⟨a3,n3,c3,hx3⟩:=q3.shape;subst hx2 hx3;have d0:wr.cell? ⟨b1,o1+k*2,none⟩=some (.slice a2 n2 c2):=(World.cell?_of_block (Q.o.block b1 hp.1 hp.2)).trans (UR.o k 0 _ q0);have d1:wr.cell? ⟨b1,o1+k*2+1,none⟩=some (.slice a3 n3 c3):=(World.cell?_of_block (Q.o.block b1 hp.1 hp.2)).trans (UR.o k 1 _ q1);have ha':=ha1 (by omega);subst ha';have HT:=qet (Ot hx);have IW:=qet (FA s.arms (k+1));have B5:=(aw wr.heap.size wr).alloc (aj _) (.cells #[.slice a2 n2 c2,.slice a3 n3 c3] 51);have Q5:=qet (Q.o.trans (iH.of_below (R:=R) B5 S.o.le));have S5:=qet (S.o.below B5);have K5:=qet ((B5.block _ (lt_of_heap K.o)).trans K.o);obtain⟨ls,bd⟩:=x;have t1:=Oo ls bd _ _ S5.o (Ye.o.on (On.iW Q5.o)) (A6.o.on (On.iW Q5.o)) (HG.o.iW Q5.o HR.o HB.o) HR.o HM.o hct hmy hok (by have h1:=HL.o;have h2:=IW.o;rw[HT.o]at h2;simp at h2 ⊢;omega);unfold Wrote at t1;clear hx hok hmy hct q0 q1 q2 q3 hp B5;go_wp2_with fail;refine t1.mono ?_;rintro e w6 ⟨rfl,h6,k6⟩
   have S6:qes (WS B R (L++[gO jE]++jm s.x++[gO Dr]++pM (s.arms.take (k+1))) w6):=by
    show WS _ _ _ _;rw[HT.o]
    simpa using h6
   have Q6:=qet (Q5.o.trans k6);have K6:qes (w6.heap[w.heap.size]? =some (.cells #[.int .i64 s.kind,.string nv,iv,xv,yv,.int .i64 s.gT,bv,ev,.slice (some ⟨b1,o1,none⟩) M c1,gv] 48)):=k6.others w.heap.size _ K5.o lu.o (fun c fz e=>by injection e with _ e2;cases e2);clear t1 h6 k6 d0 d1;go_wp2
   go_roundw
   case rel=>exact⟨k+1,by omega,by go_num,S6.o,Q6.o,K6.o⟩
   case measure=>simp[intOf];omega
  ·obtain rfl:k=M:=by omega
   have j1:¬ (k:Int)<(k:Int):=by omega
   have SF:qes (WS B R (L++[gO jE]++jm s.x++[gO Dr]++pM s.arms) wr):=by
    show WS _ _ _ _;have:=S.o
    rwa [aX (by rw[mQ.o];exact aj _)]at this
   have f7:wr.cell? ⟨w.heap.size,7,none⟩=some ev:=by rw[af K.o];rfl
   have t1:=Aa s.els ev SF.o (HV.o.keep Q.o).els (HG.o.iW Q.o HR.o HB.o) HR.o HM.o Yi.o W6.o (by have:=HL.o;simp;omega);unfold Wrote at t1;go_wp2_with fail;refine t1.mono ?_;rintro e w1 ⟨rfl,h1,k1⟩;have Q1:=qet (Q.o.trans k1);have t2:=iz h1 ⟨#[69,78,68,95,67,65,83,69]⟩ (by decide) (by have:=HL.o;simp;omega);clear t1 h1 k1;go_wp2_with fail;refine t2.mono ?_;rintro e w2 ⟨rfl,h2,k2⟩;have S2:qes (WS B R (L++[gO jE]++jm s.x++[gO Dr]++pM s.arms++wM s.els++[gO jo]) w2):=h2;have Q2:=qet (Q1.o.trans k2);clear t2 h2 k2;go_wp2;refine aW (v:=.tuple #[]) ?_ rfl ⟨rfl,?_,Q2.o⟩
   ·simp[aV,Tryz.results74,go_sem]
   ·have:=S2.o;rw[pL.o]
    simpa using this
theorem qA{j:Nat}{cs:Array Value}(h:w.heap[b]? =some (.cells cs 48))(u:Value):(w.setCell ⟨b,j,none⟩ u).heap[b]? =some (.cells (cs.setIfInBounds j u) 48):=by
 simp[cW,Array.getElem?_modify,h]
variable {W:World}
theorem iH.box(h:iH B R w W)(hB:B<=w.heap.size)(j:Nat)(u:Value):iH B R w (W.setCell ⟨w.heap.size,j,none⟩ u):=
 ⟨h.os,h.tape,h.output,by rw[bO];exact h.size,fun k hk hr=>(aM W ⟨w.heap.size,j,none⟩ u k (by show k≠w.heap.size;omega)).trans (h.block k hk hr),fun k o ho hr hn=>(aM W ⟨w.heap.size,j,none⟩ u k (by have:=lt_of_heap ho;show k≠w.heap.size;omega)).trans (h.others k o ho hr hn)⟩
theorem WS.box{cs:Array Value}(h:WS B R L W)(hb:W.heap[b]? =some (.cells cs 48))(hR:b≠R)(j:Nat)(u:Value):WS B R L (W.setCell ⟨b,j,none⟩ u):=by
 obtain⟨tv,h1,h2⟩:=h.row;refine⟨h.hB,by rw[bO];exact h.le,tv,(aM W ⟨b,j,none⟩ u R (fun e=>hR e.symm)).trans h1,bJ h2 (fun e=>?_) _⟩;obtain⟨c,fz,h3⟩:=oR h2 b e;rw[hb]at h3;injection h3 with h3
 injection h3 with _ h4
 cases h4
def FB(W:World)(b:Nat)(u0 u1 u2 u3 u4 u5 u6 u7 u8 u9:Value):World:=(((((((((W.setCell ⟨b,0,none⟩ u0).setCell ⟨b,1,none⟩ u1).setCell ⟨b,2,none⟩ u2).setCell ⟨b,3,none⟩ u3).setCell ⟨b,4,none⟩ u4).setCell ⟨b,5,none⟩ u5).setCell ⟨b,6,none⟩ u6).setCell ⟨b,7,none⟩ u7).setCell ⟨b,8,none⟩ u8).setCell ⟨b,9,none⟩ u9
theorem Kt{c0 c1 c2 c3 c4 c5 c6 c7 c8 c9:Value}(u0 u1 u2 u3 u4 u5 u6 u7 u8 u9:Value)(hS:WS B R L W)(hk:iH B R w W)(hB:B<=w.heap.size)(hR:w.heap.size≠R)(hb:W.heap[w.heap.size]? =some (.cells #[c0,c1,c2,c3,c4,c5,c6,c7,c8,c9] 48)):
  WS B R L (FB W w.heap.size u0 u1 u2 u3 u4 u5 u6 u7 u8 u9)/\iH B R w (FB W w.heap.size u0 u1 u2 u3 u4 u5 u6 u7 u8 u9)/\(FB W w.heap.size u0 u1 u2 u3 u4 u5 u6 u7 u8 u9).heap[w.heap.size]? =some (.cells #[u0,u1,u2,u3,u4,u5,u6,u7,u8,u9] 48):=by
 unfold FB;have b0:=qA (j:=0) hb u0;have b1:=qA (j:=1) b0 u1;have b2:=qA (j:=2) b1 u2;have b3:=qA (j:=3) b2 u3;have b4:=qA (j:=4) b3 u4;have b5:=qA (j:=5) b4 u5;have b6:=qA (j:=6) b5 u6;have b7:=qA (j:=7) b6 u7;have b8:=qA (j:=8) b7 u8;have b9:=qA (j:=9) b8 u9;refine⟨(((((((((hS.box hb hR 0 u0).box b0 hR 1 u1).box b1 hR 2 u2).box b2 hR 3 u3).box b3 hR 4 u4).box b4 hR 5 u5).box b5 hR 6 u6).box b6 hR 7 u7).box b7 hR 8 u8).box b8 hR 9 u9,(((((((((hk.box hB 0 u0).box hB 1 u1).box hB 2 u2).box hB 3 u3).box hB 4 u4).box hB 5 u5).box hB 6 u6).box hB 7 u7).box hB 8 u8).box hB 9 u9,?_⟩;rw[b9];simp
theorem WS.len(h:WS B R L w):∃a c,w.cell? ⟨R,0,none⟩=some (.slice a L.length c):=by
 obtain⟨tv,h1,h2⟩:=h.row
 rcases h2.2 with⟨rfl,h0⟩|⟨g,cap,cur,rfl,_⟩
 ·exact⟨none,0,by rw[af h1,h0];rfl⟩
 ·exact⟨_,_,by rw[af h1];rfl⟩
def Ou(T R:Nat)(W:World):Nat:=match W.cell? ⟨R,0,none⟩with
 |some (.slice _ n _)=>T-n
 |_=>0
theorem WS.left(h:WS B R L w)(T:Nat):Ou T R w=T-L.length:=by
 obtain⟨a,c,e⟩:=h.len;unfold Ou;rw[e]
theorem sh2{s:St}(hk:s.kind=2):kH s=gO sr::(jm s.x++gO jK::(iV s.body++(lj s++[gO jN]))):=by
 obtain⟨k,nm,i,x,y,b_,bd,el,ar,ag⟩:=s;simp only at hk;subst hk;simp[kH,lj]
variable {v:Value}{e:St}
theorem UT(h:lk w (Pw B R) [e] v):∃b off c nv iv xv yv bv ev av gv,v=.slice (some ⟨b,off,none⟩) 1 c/\Pw B R b/\Ed w b off e nv iv xv yv bv ev av gv/\SV B R w e nv iv xv yv bv ev av gv:=by
 obtain⟨cs,hs,hr⟩:=h;have hs':=hs;obtain⟨a,b,off,cap,rfl,_,ha,hc⟩:=hs.shape;have ha':=ha (by simp);subst ha';have hP:=hs'.blk ha (by simp);obtain⟨nv,iv,xv,yv,bv,ev,av,gv,hst⟩:=uV hc (oH.on (On.any w) _ _ hr) (k:=0) (s:=e) rfl;obtain⟨d,_,h2,h3⟩:=sV w (Pw B R) [e] cs 0 e hr rfl;obtain⟨DS,Yb,Vd,Yc,UB,ev',WL,Yd,rfl,e1,e2,e3,e4,e5,e6,e7,e8⟩:=(nD w (Pw B R) e d).1 h2;rw[fy,Nat.add_zero]at hst
 have key:∀(j:Nat)(u:Value),j<10->([.int .i64 e.kind,.string DS,Yb,Vd,Yc,.int .i64 e.gT,UB,ev',WL,Yd]:List Value)[j]? =some u->w.cell? ⟨b,off+j,none⟩=some u:=fun j u hj hu=>by
  have:=hc 0 j u ((h3 j hj).trans hu)
  rwa [fy,Nat.add_zero]at this
 have k1:=key 1 _ (by omega) rfl;have k2:=key 2 _ (by omega) rfl;have k3:=key 3 _ (by omega) rfl;have k4:=key 4 _ (by omega) rfl;have k6:=key 6 _ (by omega) rfl;have k7:=key 7 _ (by omega) rfl;have k8:=key 8 _ (by omega) rfl;have k9:=key 9 _ (by omega) rfl;rw[hst.c1]at k1;rw[hst.c2]at k2;rw[hst.c3]at k3;rw[hst.c4]at k4;rw[hst.c6]at k6;rw[hst.c7]at k7;rw[hst.c8]at k8;rw[hst.c9]at k9;obtain rfl:nv=DS:=by injection k1 with k1;injection k1
 obtain rfl:=an k2;obtain rfl:=an k3;obtain rfl:=an k4;obtain rfl:=an k6;obtain rfl:=an k7;obtain rfl:=an k8;obtain rfl:=an k9;exact⟨b,off,cap,nv,iv,xv,yv,bv,ev,av,gv,rfl,hP,hst,e1,e2,e3,e4,e5,e6,e7,e8⟩
variable {l:List St}
theorem Ku{k:Int}(h:jb k l=true):∃e,l=[e]/\e.kind=2:=by
 unfold jb at h;rw[aH]at h
 match l,h.2 with
 |[e],h2=>exact⟨e,rfl,of_decide_eq_true h2⟩
variable {t:St}
theorem Hj(h:jb t.kind t.els=true)(he:t.els=[e]):lj t=gO jM::(jm e.x++gO jK::(iV e.body++lj e)):=by
 rw[<-Ej e,lj,if_pos h,he];simp[Ry]
theorem Hk(h:¬jb t.kind t.els=true):lj t=wM t.els:=by
 unfold lj wM;rw[if_neg h]
theorem Rb(h:me d t=true)(hc:jb t.kind t.els=true)(he:t.els=[e]):me d e=true:=by
 obtain⟨_,_,_,_,h5⟩:=jD h;rw[if_pos hc,he]at h5;simp only[jO,Bool.and_true]at h5;exact h5
theorem Rc(he:t.els=[e]):jY e<=jY t:=by
 have h1:=j9 t;rw[he]at h1;simp only[iw]at h1;omega
theorem FC(s:St)(nv:ByteArray)(iv xv yv bv ev av gv:Value)(h:WS B R L w)(hv:SV B R w s nv iv xv yv bv ev av gv)(hg:kZ w)(h13:13<R)(hm:Eh m)(hc:jY s<=m+1)(hmay:me d s=true)(hk:s.kind=2)(hl:L.length+(kH s).length<=900000000):Calls ah 70 #[.pointer (some ⟨R,0,none⟩),.agg #[.int .i64 s.kind,.string nv,iv,xv,yv,.int .i64 s.gT,bv,ev,av,gv]] w (Wrote B R L (kH s) w):=by
 have W8:=qet hmay;have J4:=qet hc;have X4:=qet hk;obtain⟨-,ho,-,hmb,-⟩:=jD hmay;obtain⟨-,hx⟩:=Jx ho hk;have hcs:=j9 s
 have pL:qes (kH s=[gO sr]++(jm s.x++gO jK::iV s.body)++(lj s++[gO jN])):=by
  show _=_;rw[sh2 hk];simp
 have HL:qes (L.length+(kH s).length<=900000000):=hl;have HL2:qes (L.length+(3+(jm s.x).length+(iV s.body).length)<=900000000):=by show _<=_;rw[pL.o]at hl;simp at hl;omega
 have HX:=qet hx;have HM:=qet hm;have KM:=qet hmb;have KN:qes (iw s.body<=m):=by show _<=_;omega
 have HBS:=qet h.le;clear hx ho hk hl hcs hmb hmay hm hc;have HR:=qet h13;have HB:=qet h.hB;have b0:=(aw w.heap.size w).alloc (aj _) (.cells #[.int .i64 s.kind,.string nv,iv,xv,yv,.int .i64 s.gT,bv,ev,av,gv] 48);have xX:=qet (iH.of_below (R:=R) b0 h.le);have Ad:=qet (h.below b0);have Ae:=qet (aE w (.cells #[.int .i64 s.kind,.string nv,iv,xv,yv,.int .i64 s.gT,bv,ev,av,gv] 48));have lu:qes (w.heap.size≠R):=fun e=>by have:=h.hB;have:=h.le;omega
 have HV:=qet hv;have HG:=qet hg;unfold Wrote;clear hv hg h13 h b0;go_enter Tryz.func70,Tryz.ntmps70;have t1:=iz Ad.o ⟨#[73,70]⟩ (by decide) (by have:=HL2.o;omega);go_wp2_with fail;refine t1.mono ?_;rintro e w1 ⟨rfl,h1,k1⟩;have xY:qes (WS B R (L++[gO sr]) w1):=h1;have tM:=qet (xX.o.trans k1);have qR:qes (w1.heap[w.heap.size]? =some (.cells #[.int .i64 s.kind,.string nv,iv,xv,yv,.int .i64 s.gT,bv,ev,av,gv] 48)):=k1.others w.heap.size _ Ae.o lu.o (fun c fz e=>by injection e with _ e2;cases e2);clear t1 h1 k1;have qal:w1.cell? ⟨w.heap.size,0,none⟩=some (.int .i64 s.kind):=by rw[af qR.o];rfl
 have UQ:w1.cell? ⟨w.heap.size,1,none⟩=some (.string nv):=by rw[af qR.o];rfl
 have UP:w1.cell? ⟨w.heap.size,2,none⟩=some (iv):=by rw[af qR.o];rfl
 have QX:w1.cell? ⟨w.heap.size,3,none⟩=some (xv):=by rw[af qR.o];rfl
 have qam:w1.cell? ⟨w.heap.size,4,none⟩=some (yv):=by rw[af qR.o];rfl
 have qan:w1.cell? ⟨w.heap.size,5,none⟩=some (.int .i64 s.gT):=by rw[af qR.o];rfl
 have W9:w1.cell? ⟨w.heap.size,6,none⟩=some (bv):=by rw[af qR.o];rfl
 have qao:w1.cell? ⟨w.heap.size,7,none⟩=some (ev):=by rw[af qR.o];rfl
 have qap:w1.cell? ⟨w.heap.size,8,none⟩=some (av):=by rw[af qR.o];rfl
 have qaq:w1.cell? ⟨w.heap.size,9,none⟩=some (gv):=by rw[af qR.o];rfl
 have t2:=xh s nv iv xv yv bv ev av gv xY.o (HV.o.keep tM.o) (HG.o.iW tM.o HR.o HB.o) HR.o HM.o KN.o KM.o HX.o (by have:=HL2.o;simp;omega);unfold Wrote at t2;go_wp2_with fail;refine t2.mono ?_;rintro e w2 ⟨rfl,h2,k2⟩;have BG:qes (WS B R (L++([gO sr]++(jm s.x++gO jK::iV s.body))) w2):=by show WS _ _ _ _;rw[<-aO];exact h2
 have xg:=qet (tM.o.trans k2);have xZ:qes (w2.heap[w.heap.size]? =some (.cells #[.int .i64 s.kind,.string nv,iv,xv,yv,.int .i64 s.gT,bv,ev,av,gv] 48)):=k2.others w.heap.size _ qR.o lu.o (fun c fz e=>by injection e with _ e2;cases e2);clear t2 h2 k2 qal UQ UP QX qam qan W9 qao qap qaq;go_wp2_with fail
 go_loopw [10] (fun _ wr=>∃(t:St)(nv:ByteArray)(iv xv yv bv ev av gv:Value)(D:List Tk),qes (WS B R (L++D) wr/\iH B R w wr/\wr.heap[w.heap.size]? =some (.cells #[.int .i64 t.kind,.string nv,iv,xv,yv,.int .i64 t.gT,bv,ev,av,gv] 48)/\SV B R w t nv iv xv yv bv ev av gv/\D++(lj t++[gO jN])=kH s/\me d t=true/\t.kind=2/\jY t<=m+1)) (fun _ wr=>Ou (L.length+(kH s).length) R wr)
 case atStart=>exact⟨s,nv,iv,xv,yv,bv,ev,av,gv,_,BG.o,xg.o,xZ.o,HV.o,pL.o.symm,W8.o,X4.o,J4.o⟩
 case round=>
  clear HV W8 X4 J4 pL HX KM KN HL2 Ad xY BG xX tM xg Ae qR xZ;obtain⟨t,nv,iv,xv,yv,bv,ev,av,gv,D,hh⟩:=hrel;have S:=qet hh.o.1;have Q:=qet hh.o.2.1;have K:=qet hh.o.2.2.1;have V:=qet hh.o.2.2.2.1;have HD:=qet hh.o.2.2.2.2.1;have HMY:=qet hh.o.2.2.2.2.2.1;have X4:=qet hh.o.2.2.2.2.2.2.1;have HCT:=qet hh.o.2.2.2.2.2.2.2;clear hh;have c0:wr.cell? ⟨w.heap.size,0,none⟩=some (.int .i64 t.kind):=by rw[af K.o];rfl
  have c1:wr.cell? ⟨w.heap.size,1,none⟩=some (.string nv):=by rw[af K.o];rfl
  have c2:wr.cell? ⟨w.heap.size,2,none⟩=some (iv):=by rw[af K.o];rfl
  have c3:wr.cell? ⟨w.heap.size,3,none⟩=some (xv):=by rw[af K.o];rfl
  have c4:wr.cell? ⟨w.heap.size,4,none⟩=some (yv):=by rw[af K.o];rfl
  have c5:wr.cell? ⟨w.heap.size,5,none⟩=some (.int .i64 t.gT):=by rw[af K.o];rfl
  have c6:wr.cell? ⟨w.heap.size,6,none⟩=some (bv):=by rw[af K.o];rfl
  have c7:wr.cell? ⟨w.heap.size,7,none⟩=some (ev):=by rw[af K.o];rfl
  have c8:wr.cell? ⟨w.heap.size,8,none⟩=some (av):=by rw[af K.o];rfl
  have c9:wr.cell? ⟨w.heap.size,9,none⟩=some (gv):=by rw[af K.o];rfl
  have t1:=uT t.kind nv iv xv yv t.gT bv ev av gv t.els wr ((V.o.keep Q.o).els.on (On.any wr));go_wp2_with fail;refine t1.mono ?_;rintro e w1 ⟨rfl,b1⟩;have Q1:=qet (Q.o.trans (iH.of_below (R:=R) b1 S.o.le));have S1:=qet (S.o.below b1);have K1:=qet ((b1.block _ (lt_of_heap K.o)).trans K.o);have HLW:=qet (S.o.left (L.length+(kH s).length));clear t1 b1 c0 c1 c2 c3 c4 c5 c6 c7 c8 c9 S Q K
  by_cases hch:jb t.kind t.els=true
  ·obtain⟨e,he,hek⟩:=Ku hch;have HE:=qet he;have HEK:=qet hek;have HTL:=qet (Hj hch he);have W6:=qet (Rb HMY.o hch he);have Yi:qes (jY e<=m+1):=aP (Rc he) HCT.o;have KK:=V.o.els;rw[he]at KK;obtain⟨b,off,cp,Af,iv1,xv1,yv1,Vg,ev1,av1,gv1,rfl,hP,hst,hsv⟩:=UT KK;have Yj:=qet hsv;have KN:qes (iw e.body<=m):=by show _<=_;have h1:=Yi.o;have h2:=j9 e;omega
   have KM:=qet (jD W6.o).2.2.2.1;have HX:=qet (Jx (jD W6.o).2.1 hek).2
   have HLEN:qes (L.length+(D.length+(3+(jm e.x).length+(iV e.body).length))<=L.length+(kH s).length):=by
    show _<=_;rw[<-HD.o,HTL.o];simp;omega
   obtain⟨ai,ni,ci,hi⟩:=hsv.idx.shape;obtain⟨ax,nx,cx,hx⟩:=hsv.x.shape;obtain⟨ay,ny,cy,hy⟩:=hsv.y.shape;obtain⟨ab,nb,cb,hb⟩:=hsv.body.shape;obtain⟨ae,ne,ce,he2⟩:=hsv.els.shape;obtain⟨aa,na,ca,ha⟩:=hsv.arms.shape;obtain⟨ag,ng,cg,hg⟩:=hsv.args.shape;subst hi hx hy hb he2 ha hg;have q:∀o,w1.cell? ⟨b,o,none⟩=w.cell? ⟨b,o,none⟩:=fun o=>World.cell?_of_block (Q1.o.block b hP.1 hP.2)
   have d0:w1.cell? ⟨b,off,none⟩=_:=(q _).trans hst.c0;have d1:w1.cell? ⟨b,off+1,none⟩=_:=(q _).trans hst.c1;have d2:w1.cell? ⟨b,off+2,none⟩=_:=(q _).trans hst.c2;have d3:w1.cell? ⟨b,off+3,none⟩=_:=(q _).trans hst.c3;have d4:w1.cell? ⟨b,off+4,none⟩=_:=(q _).trans hst.c4;have d5:w1.cell? ⟨b,off+5,none⟩=_:=(q _).trans hst.c5;have d6:w1.cell? ⟨b,off+6,none⟩=_:=(q _).trans hst.c6;have d7:w1.cell? ⟨b,off+7,none⟩=_:=(q _).trans hst.c7;have d8:w1.cell? ⟨b,off+8,none⟩=_:=(q _).trans hst.c8;have d9:w1.cell? ⟨b,off+9,none⟩=_:=(q _).trans hst.c9;have e0:w1.cell? ⟨w.heap.size,0,none⟩=some (.int .i64 t.kind):=by rw[af K1.o];rfl
   have e1:w1.cell? ⟨w.heap.size,1,none⟩=some (.string nv):=by rw[af K1.o];rfl
   have e2:w1.cell? ⟨w.heap.size,2,none⟩=some (iv):=by rw[af K1.o];rfl
   have e3:w1.cell? ⟨w.heap.size,3,none⟩=some (xv):=by rw[af K1.o];rfl
   have e4:w1.cell? ⟨w.heap.size,4,none⟩=some (yv):=by rw[af K1.o];rfl
   have e5:w1.cell? ⟨w.heap.size,5,none⟩=some (.int .i64 t.gT):=by rw[af K1.o];rfl
   have e6:w1.cell? ⟨w.heap.size,6,none⟩=some (bv):=by rw[af K1.o];rfl
   have e7:w1.cell? ⟨w.heap.size,7,none⟩=some (.slice (some ⟨b,off,none⟩) 1 cp):=by rw[af K1.o];rfl
   have e8:w1.cell? ⟨w.heap.size,8,none⟩=some (av):=by rw[af K1.o];rfl
   have e9:w1.cell? ⟨w.heap.size,9,none⟩=some (gv):=by rw[af K1.o];rfl
   have f0:w1.frozen? ⟨w.heap.size,0,none⟩=false:=aC K1.o 0;have f1:w1.frozen? ⟨w.heap.size,1,none⟩=false:=aC K1.o 1;have f2:w1.frozen? ⟨w.heap.size,2,none⟩=false:=aC K1.o 2;have f3:w1.frozen? ⟨w.heap.size,3,none⟩=false:=aC K1.o 3;have f4:w1.frozen? ⟨w.heap.size,4,none⟩=false:=aC K1.o 4;have f5:w1.frozen? ⟨w.heap.size,5,none⟩=false:=aC K1.o 5;have f6:w1.frozen? ⟨w.heap.size,6,none⟩=false:=aC K1.o 6;have f7:w1.frozen? ⟨w.heap.size,7,none⟩=false:=aC K1.o 7;have f8:w1.frozen? ⟨w.heap.size,8,none⟩=false:=aC K1.o 8;have f9:w1.frozen? ⟨w.heap.size,9,none⟩=false:=aC K1.o 9;clear he hek KK hst hsv q hP;go_wp2_with fail;obtain⟨hS2,hQ2,hK2⟩:=Kt (.int .i64 e.kind) (.string Af) (.slice ai ni ci) (.slice ax nx cx) (.slice ay ny cy) (.int .i64 e.gT) (.slice ab nb cb) (.slice ae ne ce) (.slice aa na ca) (.slice ag ng cg) S1.o Q1.o HBS.o lu.o K1.o;have t2:=iz hS2 ⟨#[69,76,83,73,70]⟩ (by decide) (by have h1:=HL.o;have h2:=HLEN.o;simp;omega);have Q2:=qet hQ2;have K2:=qet hK2;unfold FB at t2 Q2 K2;refine t2.mono ?_;rintro x w3 ⟨rfl,h3,k3⟩;have S3:qes (WS B R (L++D++[gO jM]) w3):=h3;have Q3:=qet (Q2.o.trans k3);have K3:qes (w3.heap[w.heap.size]? =some (.cells #[.int .i64 e.kind,.string Af,.slice ai ni ci,.slice ax nx cx,.slice ay ny cy,.int .i64 e.gT,.slice ab nb cb,.slice ae ne ce,.slice aa na ca,.slice ag ng cg] 48)):=k3.others w.heap.size _ K2.o lu.o (fun c fz x=>by injection x with _ x2;cases x2);clear t2 h3 k3 Q2 K2 hS2 hQ2 hK2 d0 e0 f0 d1 e1 f1 d2 e2 f2 d3 e3 f3 d4 e4 f4 d5 e5 f5 d6 e6 f6 d7 e7 f7 d8 e8 f8 d9 e9 f9;have c0:w3.cell? ⟨w.heap.size,0,none⟩=some (.int .i64 e.kind):=by rw[af K3.o];rfl
   have c1:w3.cell? ⟨w.heap.size,1,none⟩=some (.string Af):=by rw[af K3.o];rfl
   have c2:w3.cell? ⟨w.heap.size,2,none⟩=some (.slice ai ni ci):=by rw[af K3.o];rfl
   have c3:w3.cell? ⟨w.heap.size,3,none⟩=some (.slice ax nx cx):=by rw[af K3.o];rfl
   have c4:w3.cell? ⟨w.heap.size,4,none⟩=some (.slice ay ny cy):=by rw[af K3.o];rfl
   have c5:w3.cell? ⟨w.heap.size,5,none⟩=some (.int .i64 e.gT):=by rw[af K3.o];rfl
   have c6:w3.cell? ⟨w.heap.size,6,none⟩=some (.slice ab nb cb):=by rw[af K3.o];rfl
   have c7:w3.cell? ⟨w.heap.size,7,none⟩=some (.slice ae ne ce):=by rw[af K3.o];rfl
   have c8:w3.cell? ⟨w.heap.size,8,none⟩=some (.slice aa na ca):=by rw[af K3.o];rfl
   have c9:w3.cell? ⟨w.heap.size,9,none⟩=some (.slice ag ng cg):=by rw[af K3.o];rfl
   have t3:=xh e Af _ _ _ _ _ _ _ S3.o (Yj.o.keep Q3.o) (HG.o.iW Q3.o HR.o HB.o) HR.o HM.o KN.o KM.o HX.o (by have h1:=HL.o;have h2:=HLEN.o;simp;omega);unfold Wrote at t3;go_wp2_with fail;refine t3.mono ?_;rintro x w4 ⟨rfl,h4,k4⟩
   have S4:qes (WS B R (L++(D++gO jM::(jm e.x++gO jK::iV e.body))) w4):=by
    show WS _ _ _ _
    simpa using h4
   have Q4:=qet (Q3.o.trans k4);have K4:qes (w4.heap[w.heap.size]? =some (.cells #[.int .i64 e.kind,.string Af,.slice ai ni ci,.slice ax nx cx,.slice ay ny cy,.int .i64 e.gT,.slice ab nb cb,.slice ae ne ce,.slice aa na ca,.slice ag ng cg] 48)):=k4.others w.heap.size _ K3.o lu.o (fun c fz x=>by injection x with _ x2;cases x2);clear t3 h4 k4 c0 c1 c2 c3 c4 c5 c6 c7 c8 c9;go_wp2
   go_roundw
   case rel=>exact⟨e,Af,_,_,_,_,_,_,_,_,S4.o,Q4.o,K4.o,Yj.o,by have:=HD.o;rw[HTL.o]at this;rw[<-this];simp,W6.o,HEK.o,Yi.o⟩
   case measure=>
    rw[HLW.o,S4.o.left];have h1:=HLEN.o;simp;omega
  ·have e7:w1.cell? ⟨w.heap.size,7,none⟩=some ev:=by rw[af K1.o];rfl
   have HT:=qet (Hk hch)
   have HLEN:qes (L.length+(D.length+(1+(wM t.els).length))=L.length+(kH s).length):=by
    show _=_;rw[<-HD.o,HT.o];simp;omega
   have t1:=Aa t.els ev S1.o (V.o.keep Q1.o).els (HG.o.iW Q1.o HR.o HB.o) HR.o HM.o (by have h1:=HCT.o;have h2:=j9 t;omega) (jD HMY.o).2.2.2.2 (by have h1:=HL.o;have h2:=HLEN.o;simp;omega);unfold Wrote at t1;have hcf:jb t.kind t.els=false:=by simpa using hch
   clear hch;go_wp2_with fail;refine t1.mono ?_;rintro e w2 ⟨rfl,h2,k2⟩;have Q2:=qet (Q1.o.trans k2);have t2:=iz h2 ⟨#[69,78,68,95,73,70]⟩ (by decide) (by have h1:=HL.o;have h2:=HLEN.o;simp;omega);clear t1 h2 k2;go_wp2_with fail;refine t2.mono ?_;rintro e w3 ⟨rfl,h3,k3⟩;have S3:qes (WS B R (L++D++wM t.els++[gO jN]) w3):=h3;have Q3:=qet (Q2.o.trans k3);clear t2 h3 k3;go_wp2;refine aW (v:=.tuple #[]) ?_ rfl ⟨rfl,?_,Q3.o⟩
   ·simp[aV,Tryz.results70,go_sem]
   ·have:=S3.o;rw[<-HD.o,HT.o]
    simpa using this
theorem Ov(s:St)(nv:ByteArray)(iv xv yv bv ev av gv:Value)(h:WS B R L w)(hv:SV B R w s nv iv xv yv bv ev av gv)(hg:kZ w)(h13:13<R)(hm:Eh m)(hc:jY s<=m+1)(hmay:me d s=true)(hk:s.kind=1)(hl:L.length+(kH s).length<=900000000):Calls ah 46 #[.pointer (some ⟨R,0,none⟩),.agg #[.int .i64 s.kind,.string nv,iv,xv,yv,.int .i64 s.gT,bv,ev,av,gv]] w (Wrote B R L (kH s) w):=by
 have u0:=fw hm hc;clear u0;have b0:=(aw w.heap.size w).alloc (aj _) (.cells #[.int .i64 s.kind,.string nv,iv,xv,yv,.int .i64 s.gT,bv,ev,av,gv] 48);have q0:=iH.of_below (R:=R) b0 h.le;have h0:=h.below b0;have v0:=hv.keep q0;have g0:=hg.iW q0 h13 h.hB;have Q0:=qet q0;have t1:=Om s nv iv xv yv bv ev av gv h0 v0 g0 h13 hk (jD hmay).2.1 hl;unfold Wrote at t1 ⊢;clear hv h0 v0 g0 q0 b0 hm hc hmay hl h hg h13;rw[hk]at t1 Q0 ⊢;clear hk;go_enter dB,dx;go_wp2_with fail;refine t1.mono ?_;rintro e w1 ⟨rfl,h1,k1⟩;have S1:=qet h1;have Q1:=qet (Q0.o.trans k1);clear t1 h1 k1;go_wp2;refine aW (v:=.tuple #[]) ?_ rfl ⟨rfl,S1.o,Q1.o⟩;simp[aV,cX,go_sem]
theorem Ow(s:St)(nv:ByteArray)(iv xv yv bv ev av gv:Value)(h:WS B R L w)(hv:SV B R w s nv iv xv yv bv ev av gv)(hg:kZ w)(h13:13<R)(hm:Eh m)(hc:jY s<=m+1)(hmay:me d s=true)(hk:s.kind=2)(hl:L.length+(kH s).length<=900000000):Calls ah 46 #[.pointer (some ⟨R,0,none⟩),.agg #[.int .i64 s.kind,.string nv,iv,xv,yv,.int .i64 s.gT,bv,ev,av,gv]] w (Wrote B R L (kH s) w):=by
 have u0:=fw hm hc;clear u0;have b0:=(aw w.heap.size w).alloc (aj _) (.cells #[.int .i64 s.kind,.string nv,iv,xv,yv,.int .i64 s.gT,bv,ev,av,gv] 48);have q0:=iH.of_below (R:=R) b0 h.le;have h0:=h.below b0;have v0:=hv.keep q0;have g0:=hg.iW q0 h13 h.hB;have Q0:=qet q0;have t1:=FC s nv iv xv yv bv ev av gv h0 v0 g0 h13 hm hc hmay hk hl;unfold Wrote at t1 ⊢;clear hv h0 v0 g0 q0 b0 hm hc hmay hl h hg h13;rw[hk]at t1 Q0 ⊢;clear hk;go_enter dB,dx;go_wp2_with fail;refine t1.mono ?_;rintro e w1 ⟨rfl,h1,k1⟩;have S1:=qet h1;have Q1:=qet (Q0.o.trans k1);clear t1 h1 k1;go_wp2;refine aW (v:=.tuple #[]) ?_ rfl ⟨rfl,S1.o,Q1.o⟩;simp[aV,cX,go_sem]
theorem Ox(s:St)(nv:ByteArray)(iv xv yv bv ev av gv:Value)(h:WS B R L w)(hv:SV B R w s nv iv xv yv bv ev av gv)(hg:kZ w)(h13:13<R)(hm:Eh m)(hc:jY s<=m+1)(hmay:me d s=true)(hk:s.kind=5)(hl:L.length+(kH s).length<=900000000):Calls ah 46 #[.pointer (some ⟨R,0,none⟩),.agg #[.int .i64 s.kind,.string nv,iv,xv,yv,.int .i64 s.gT,bv,ev,av,gv]] w (Wrote B R L (kH s) w):=by
 have u0:=fw hm hc;clear u0;have b0:=(aw w.heap.size w).alloc (aj _) (.cells #[.int .i64 s.kind,.string nv,iv,xv,yv,.int .i64 s.gT,bv,ev,av,gv] 48);have q0:=iH.of_below (R:=R) b0 h.le;have h0:=h.below b0;have v0:=hv.keep q0;have g0:=hg.iW q0 h13 h.hB;have Q0:=qet q0;have t1:=Kq s nv iv xv yv bv ev av gv h0 v0 g0 h13 hm (d:=d+1) (by have:=j9 s;omega) (jD hmay).2.2.2.1 hk (jD hmay).2.1 hl;unfold Wrote at t1 ⊢;clear hv h0 v0 g0 q0 b0 hm hc hmay hl h hg h13;rw[hk]at t1 Q0 ⊢;clear hk;go_enter dB,dx;go_wp2_with fail;refine t1.mono ?_;rintro e w1 ⟨rfl,h1,k1⟩;have S1:=qet h1;have Q1:=qet (Q0.o.trans k1);clear t1 h1 k1;go_wp2;refine aW (v:=.tuple #[]) ?_ rfl ⟨rfl,S1.o,Q1.o⟩;simp[aV,cX,go_sem]
theorem Oy(s:St)(nv:ByteArray)(iv xv yv bv ev av gv:Value)(h:WS B R L w)(hv:SV B R w s nv iv xv yv bv ev av gv)(hg:kZ w)(h13:13<R)(hm:Eh m)(hc:jY s<=m+1)(hmay:me d s=true)(hk:s.kind=6)(hl:L.length+(kH s).length<=900000000):Calls ah 46 #[.pointer (some ⟨R,0,none⟩),.agg #[.int .i64 s.kind,.string nv,iv,xv,yv,.int .i64 s.gT,bv,ev,av,gv]] w (Wrote B R L (kH s) w):=by
 have u0:=fw hm hc;clear u0;have b0:=(aw w.heap.size w).alloc (aj _) (.cells #[.int .i64 s.kind,.string nv,iv,xv,yv,.int .i64 s.gT,bv,ev,av,gv] 48);have q0:=iH.of_below (R:=R) b0 h.le;have h0:=h.below b0;have v0:=hv.keep q0;have g0:=hg.iW q0 h13 h.hB;have Q0:=qet q0;have t1:=Hi s nv iv xv yv bv ev av gv h0 v0 g0 h13 hm hc hmay hk hl;unfold Wrote at t1 ⊢;clear hv h0 v0 g0 q0 b0 hm hc hmay hl h hg h13;rw[hk]at t1 Q0 ⊢;clear hk;go_enter dB,dx;go_wp2_with fail;refine t1.mono ?_;rintro e w1 ⟨rfl,h1,k1⟩;have S1:=qet h1;have Q1:=qet (Q0.o.trans k1);clear t1 h1 k1;go_wp2;refine aW (v:=.tuple #[]) ?_ rfl ⟨rfl,S1.o,Q1.o⟩;simp[aV,cX,go_sem]
theorem Oz(s:St)(nv:ByteArray)(iv xv yv bv ev av gv:Value)(h:WS B R L w)(hv:SV B R w s nv iv xv yv bv ev av gv)(hg:kZ w)(h13:13<R)(hm:Eh m)(hc:jY s<=m+1)(hmay:me d s=true)(hk:s.kind=7)(hl:L.length+(kH s).length<=900000000):Calls ah 46 #[.pointer (some ⟨R,0,none⟩),.agg #[.int .i64 s.kind,.string nv,iv,xv,yv,.int .i64 s.gT,bv,ev,av,gv]] w (Wrote B R L (kH s) w):=by
 have u0:=fw hm hc;clear u0;have b0:=(aw w.heap.size w).alloc (aj _) (.cells #[.int .i64 s.kind,.string nv,iv,xv,yv,.int .i64 s.gT,bv,ev,av,gv] 48);have q0:=iH.of_below (R:=R) b0 h.le;have h0:=h.below b0;have v0:=hv.keep q0;have g0:=hg.iW q0 h13 h.hB;have Q0:=qet q0;have t1:=Ks s nv iv xv yv bv ev av gv h0 v0 g0 h13 hk (jD hmay).2.1 hl;unfold Wrote at t1 ⊢;clear hv h0 v0 g0 q0 b0 hm hc hmay hl h hg h13;rw[hk]at t1 Q0 ⊢;clear hk;go_enter dB,dx;go_wp2_with fail;refine t1.mono ?_;rintro e w1 ⟨rfl,h1,k1⟩;have S1:=qet h1;have Q1:=qet (Q0.o.trans k1);clear t1 h1 k1;go_wp2;refine aW (v:=.tuple #[]) ?_ rfl ⟨rfl,S1.o,Q1.o⟩;simp[aV,cX,go_sem]
theorem OA(s:St)(nv:ByteArray)(iv xv yv bv ev av gv:Value)(h:WS B R L w)(hv:SV B R w s nv iv xv yv bv ev av gv)(hg:kZ w)(h13:13<R)(hm:Eh m)(hc:jY s<=m+1)(hmay:me d s=true)(hk:s.kind=3)(hl:L.length+(kH s).length<=900000000):Calls ah 46 #[.pointer (some ⟨R,0,none⟩),.agg #[.int .i64 s.kind,.string nv,iv,xv,yv,.int .i64 s.gT,bv,ev,av,gv]] w (Wrote B R L (kH s) w):=by
 obtain⟨-,ho,-,hmb,-⟩:=jD hmay;obtain⟨hs',hx⟩:=A8 ho (.inl hk);have HX:=qet hx;clear hx;have hcs:=j9 s
 have pL:qes (kH s=gO jj::(jm s.x++gO qX::(iV s.body++[gO kp]))):=by
  show _=_
  conv=>lhs;rw[hs',hk]
  simp[kH]
 have HL:qes (L.length+(3+(jm s.x).length+(iV s.body).length)<=900000000):=by show _<=_;rw[pL.o]at hl;simp at hl;omega
 have HM:=qet hm;have KM:=qet hmb;have KN:qes (iw s.body<=m):=by show _<=_;omega
 rw[hk];clear hs' ho hl hcs hmb hmay hm hc hk;have HR:=qet h13;have HB:=qet h.hB;have b0:=(aw w.heap.size w).alloc (aj _) (.cells #[.int .i64 3,.string nv,iv,xv,yv,.int .i64 s.gT,bv,ev,av,gv] 48);have xX:=qet (iH.of_below (R:=R) b0 h.le);have Ad:=qet (h.below b0);have Ae:=qet (aE w (.cells #[.int .i64 3,.string nv,iv,xv,yv,.int .i64 s.gT,bv,ev,av,gv] 48));have lu:qes (w.heap.size≠R):=fun e=>by have:=h.hB;have:=h.le;omega
 have HV:=qet hv;have HG:=qet hg;unfold Wrote;clear hv hg h13 h b0;go_enter dB,dx;have t1:=iz Ad.o ⟨#[87,72,73,76,69]⟩ (by decide) (by have:=HL.o;omega);go_wp2_with fail;refine t1.mono ?_;rintro e w1 ⟨rfl,h1,k1⟩;have xY:qes (WS B R (L++[gO jj]) w1):=h1;have tM:=qet (xX.o.trans k1);have qR:qes (w1.heap[w.heap.size]? =some (.cells #[.int .i64 3,.string nv,iv,xv,yv,.int .i64 s.gT,bv,ev,av,gv] 48)):=k1.others w.heap.size _ Ae.o lu.o (fun c fz e=>by injection e with _ e2;cases e2);clear t1 h1 k1;have QX:w1.cell? ⟨w.heap.size,3,none⟩=some (xv):=by rw[af qR.o];rfl
 have t2:=ke xY.o s.x _ (HV.o.keep tM.o).x.any HX.o (HG.o.iW tM.o HR.o HB.o) (by have:=HL.o;simp;omega);go_wp2_with fail;refine t2.mono ?_;rintro e w2 ⟨rfl,h2,k2⟩;have BG:qes (WS B R (L++[gO jj]++jm s.x) w2):=h2;have xg:=qet (tM.o.trans k2);have xZ:qes (w2.heap[w.heap.size]? =some (.cells #[.int .i64 3,.string nv,iv,xv,yv,.int .i64 s.gT,bv,ev,av,gv] 48)):=k2.others w.heap.size _ qR.o lu.o (fun c fz e=>by injection e with _ e2;cases e2);clear t2 h2 k2;have t3:=iz BG.o ⟨#[68,79]⟩ (by decide) (by have:=HL.o;simp;omega);go_wp2_with fail;refine t3.mono ?_;rintro e w3 ⟨rfl,h3,k3⟩;have Hg:qes (WS B R (L++[gO jj]++jm s.x++[gO qX]) w3):=h3;have zZ:=qet (xg.o.trans k3);have Dv:qes (w3.heap[w.heap.size]? =some (.cells #[.int .i64 3,.string nv,iv,xv,yv,.int .i64 s.gT,bv,ev,av,gv] 48)):=k3.others w.heap.size _ xZ.o lu.o (fun c fz e=>by injection e with _ e2;cases e2);clear t3 h3 k3;have qeh:w3.cell? ⟨w.heap.size,6,none⟩=some (bv):=by rw[af Dv.o];rfl
 have t4:=HM.o B R (d+1) _ s.body _ _ (KN.o) KM.o HR.o Hg.o (HV.o.keep zZ.o).body (HG.o.iW zZ.o HR.o HB.o) (by have:=HL.o;simp;omega);go_wp2_with fail;refine t4.mono ?_;rintro e w4 ⟨rfl,h4,k4⟩;have QY:qes (WS B R (L++[gO jj]++jm s.x++[gO qX]++iV s.body) w4):=h4;have QZ:=qet (zZ.o.trans k4);have Q8:qes (w4.heap[w.heap.size]? =some (.cells #[.int .i64 3,.string nv,iv,xv,yv,.int .i64 s.gT,bv,ev,av,gv] 48)):=k4.others w.heap.size _ Dv.o lu.o (fun c fz e=>by injection e with _ e2;cases e2);clear t4 h4 k4;have t5:=iz QY.o ⟨#[69,78,68,95,87,72,73,76,69]⟩ (by decide) (by have:=HL.o;simp;omega);go_wp2_with fail;refine t5.mono ?_;rintro e w5 ⟨rfl,h5,k5⟩;have Q9:qes (WS B R (L++[gO jj]++jm s.x++[gO qX]++iV s.body++[gO kp]) w5):=h5;have Hh:=qet (QZ.o.trans k5);have OS:qes (w5.heap[w.heap.size]? =some (.cells #[.int .i64 3,.string nv,iv,xv,yv,.int .i64 s.gT,bv,ev,av,gv] 48)):=k5.others w.heap.size _ Q8.o lu.o (fun c fz e=>by injection e with _ e2;cases e2);clear t5 h5 k5;go_wp2;refine aW (v:=.tuple #[]) ?_ rfl ⟨rfl,?_,Hh.o⟩
 ·simp[aV,cX,go_sem]
 ·have:=Q9.o;rw[pL.o]
  simpa using this
theorem OB(s:St)(nv:ByteArray)(iv xv yv bv ev av gv:Value)(h:WS B R L w)(hv:SV B R w s nv iv xv yv bv ev av gv)(hg:kZ w)(h13:13<R)(hm:Eh m)(hc:jY s<=m+1)(hmay:me d s=true)(hk:s.kind=4)(hl:L.length+(kH s).length<=900000000):Calls ah 46 #[.pointer (some ⟨R,0,none⟩),.agg #[.int .i64 s.kind,.string nv,iv,xv,yv,.int .i64 s.gT,bv,ev,av,gv]] w (Wrote B R L (kH s) w):=by
 obtain⟨-,ho,-,hmb,-⟩:=jD hmay;obtain⟨hs',hx⟩:=A8 ho (.inr hk);have HX:=qet hx;clear hx;have hcs:=j9 s
 have pL:qes (kH s=gO iT::(iV s.body++gO mK::(jm s.x++[gO iI]))):=by
  show _=_
  conv=>lhs;rw[hs',hk]
  simp[kH]
 have HL:qes (L.length+(3+(jm s.x).length+(iV s.body).length)<=900000000):=by show _<=_;rw[pL.o]at hl;simp at hl;omega
 have HM:=qet hm;have KM:=qet hmb;have KN:qes (iw s.body<=m):=by show _<=_;omega
 rw[hk];clear hs' ho hl hcs hmb hmay hm hc hk;have HR:=qet h13;have HB:=qet h.hB;have b0:=(aw w.heap.size w).alloc (aj _) (.cells #[.int .i64 4,.string nv,iv,xv,yv,.int .i64 s.gT,bv,ev,av,gv] 48);have xX:=qet (iH.of_below (R:=R) b0 h.le);have Ad:=qet (h.below b0);have Ae:=qet (aE w (.cells #[.int .i64 4,.string nv,iv,xv,yv,.int .i64 s.gT,bv,ev,av,gv] 48));have lu:qes (w.heap.size≠R):=fun e=>by have:=h.hB;have:=h.le;omega
 have HV:=qet hv;have HG:=qet hg;unfold Wrote;clear hv hg h13 h b0;go_enter dB,dx;have t1:=iz Ad.o ⟨#[82,69,80,69,65,84]⟩ (by decide) (by have:=HL.o;omega);go_wp2_with fail;refine t1.mono ?_;rintro e w1 ⟨rfl,h1,k1⟩;have xY:qes (WS B R (L++[gO iT]) w1):=h1;have tM:=qet (xX.o.trans k1);have qR:qes (w1.heap[w.heap.size]? =some (.cells #[.int .i64 4,.string nv,iv,xv,yv,.int .i64 s.gT,bv,ev,av,gv] 48)):=k1.others w.heap.size _ Ae.o lu.o (fun c fz e=>by injection e with _ e2;cases e2);clear t1 h1 k1;have W9:w1.cell? ⟨w.heap.size,6,none⟩=some (bv):=by rw[af qR.o];rfl
 have t2:=HM.o B R (d+1) _ s.body _ _ (KN.o) KM.o HR.o xY.o (HV.o.keep tM.o).body (HG.o.iW tM.o HR.o HB.o) (by have:=HL.o;simp;omega);go_wp2_with fail;refine t2.mono ?_;rintro e w2 ⟨rfl,h2,k2⟩;have BG:qes (WS B R (L++[gO iT]++iV s.body) w2):=h2;have xg:=qet (tM.o.trans k2);have xZ:qes (w2.heap[w.heap.size]? =some (.cells #[.int .i64 4,.string nv,iv,xv,yv,.int .i64 s.gT,bv,ev,av,gv] 48)):=k2.others w.heap.size _ qR.o lu.o (fun c fz e=>by injection e with _ e2;cases e2);clear t2 h2 k2;have t3:=iz BG.o ⟨#[85,78,84,73,76]⟩ (by decide) (by have:=HL.o;simp;omega);go_wp2_with fail;refine t3.mono ?_;rintro e w3 ⟨rfl,h3,k3⟩;have Hg:qes (WS B R (L++[gO iT]++iV s.body++[gO mK]) w3):=h3;have zZ:=qet (xg.o.trans k3);have Dv:qes (w3.heap[w.heap.size]? =some (.cells #[.int .i64 4,.string nv,iv,xv,yv,.int .i64 s.gT,bv,ev,av,gv] 48)):=k3.others w.heap.size _ xZ.o lu.o (fun c fz e=>by injection e with _ e2;cases e2);clear t3 h3 k3;have WT:w3.cell? ⟨w.heap.size,3,none⟩=some (xv):=by rw[af Dv.o];rfl
 have t4:=ke Hg.o s.x _ (HV.o.keep zZ.o).x.any HX.o (HG.o.iW zZ.o HR.o HB.o) (by have:=HL.o;simp;omega);go_wp2_with fail;refine t4.mono ?_;rintro e w4 ⟨rfl,h4,k4⟩;have QY:qes (WS B R (L++[gO iT]++iV s.body++[gO mK]++jm s.x) w4):=h4;have QZ:=qet (zZ.o.trans k4);have Q8:qes (w4.heap[w.heap.size]? =some (.cells #[.int .i64 4,.string nv,iv,xv,yv,.int .i64 s.gT,bv,ev,av,gv] 48)):=k4.others w.heap.size _ Dv.o lu.o (fun c fz e=>by injection e with _ e2;cases e2);clear t4 h4 k4;have t5:=iz QY.o ⟨#[69,78,68,95,82,69,80,69,65,84]⟩ (by decide) (by have:=HL.o;simp;omega);go_wp2_with fail;refine t5.mono ?_;rintro e w5 ⟨rfl,h5,k5⟩;have Q9:qes (WS B R (L++[gO iT]++iV s.body++[gO mK]++jm s.x++[gO iI]) w5):=h5;have Hh:=qet (QZ.o.trans k5);have OS:qes (w5.heap[w.heap.size]? =some (.cells #[.int .i64 4,.string nv,iv,xv,yv,.int .i64 s.gT,bv,ev,av,gv] 48)):=k5.others w.heap.size _ Q8.o lu.o (fun c fz e=>by injection e with _ e2;cases e2);clear t5 h5 k5;go_wp2;refine aW (v:=.tuple #[]) ?_ rfl ⟨rfl,?_,Hh.o⟩
 ·simp[aV,cX,go_sem]
 ·have:=Q9.o;rw[pL.o]
  simpa using this
theorem OD(s:St)(nv:ByteArray)(iv xv yv bv ev av gv:Value)(h:WS B R L w)(hv:SV B R w s nv iv xv yv bv ev av gv)(hg:kZ w)(h13:13<R)(hm:Eh m)(hc:jY s<=m+1)(hmay:me d s=true)(hk:s.kind=8)(hl:L.length+(kH s).length<=900000000):Calls ah 46 #[.pointer (some ⟨R,0,none⟩),.agg #[.int .i64 s.kind,.string nv,iv,xv,yv,.int .i64 s.gT,bv,ev,av,gv]] w (Wrote B R L (kH s) w):=by
 obtain⟨-,ho,-,hmb,-⟩:=jD hmay;have hs':=Eg ho (.inl hk);have hcs:=j9 s
 have pL:qes (kH s=[gO kQ]):=by
  show _=_
  conv=>lhs;rw[hs',hk]
  simp[kH]
 have HL:qes (L.length+(1)<=900000000):=by show _<=_;rw[pL.o]at hl;simp at hl;omega
 have HM:=qet hm;have KM:=qet hmb;have KN:qes (iw s.body<=m):=by show _<=_;omega
 rw[hk];clear hs' ho hl hcs hmb hmay hm hc hk;clear HM KM KN;have HR:=qet h13;have HB:=qet h.hB;have b0:=(aw w.heap.size w).alloc (aj _) (.cells #[.int .i64 8,.string nv,iv,xv,yv,.int .i64 s.gT,bv,ev,av,gv] 48);have xX:=qet (iH.of_below (R:=R) b0 h.le);have Ad:=qet (h.below b0);have Ae:=qet (aE w (.cells #[.int .i64 8,.string nv,iv,xv,yv,.int .i64 s.gT,bv,ev,av,gv] 48));have lu:qes (w.heap.size≠R):=fun e=>by have:=h.hB;have:=h.le;omega
 have HV:=qet hv;have HG:=qet hg;unfold Wrote;clear hv hg h13 h b0;go_enter dB,dx;have t1:=iz Ad.o ⟨#[69,88,73,84]⟩ (by decide) (by have:=HL.o;omega);go_wp2_with fail;refine t1.mono ?_;rintro e w1 ⟨rfl,h1,k1⟩;have xY:qes (WS B R (L++[gO kQ]) w1):=h1;have tM:=qet (xX.o.trans k1);have qR:qes (w1.heap[w.heap.size]? =some (.cells #[.int .i64 8,.string nv,iv,xv,yv,.int .i64 s.gT,bv,ev,av,gv] 48)):=k1.others w.heap.size _ Ae.o lu.o (fun c fz e=>by injection e with _ e2;cases e2);clear t1 h1 k1;go_wp2;refine aW (v:=.tuple #[]) ?_ rfl ⟨rfl,?_,tM.o⟩
 ·simp[aV,cX,go_sem]
 ·have:=xY.o;rw[pL.o]
  simpa using this
theorem OE(s:St)(nv:ByteArray)(iv xv yv bv ev av gv:Value)(h:WS B R L w)(hv:SV B R w s nv iv xv yv bv ev av gv)(hg:kZ w)(h13:13<R)(hm:Eh m)(hc:jY s<=m+1)(hmay:me d s=true)(hk:s.kind=9)(hl:L.length+(kH s).length<=900000000):Calls ah 46 #[.pointer (some ⟨R,0,none⟩),.agg #[.int .i64 s.kind,.string nv,iv,xv,yv,.int .i64 s.gT,bv,ev,av,gv]] w (Wrote B R L (kH s) w):=by
 obtain⟨-,ho,-,hmb,-⟩:=jD hmay;have hs':=Eg ho (.inr hk);have hcs:=j9 s
 have pL:qes (kH s=[gO js]):=by
  show _=_
  conv=>lhs;rw[hs',hk]
  simp[kH]
 have HL:qes (L.length+(1)<=900000000):=by show _<=_;rw[pL.o]at hl;simp at hl;omega
 have HM:=qet hm;have KM:=qet hmb;have KN:qes (iw s.body<=m):=by show _<=_;omega
 rw[hk];clear hs' ho hl hcs hmb hmay hm hc hk;clear HM KM KN;have HR:=qet h13;have HB:=qet h.hB;have b0:=(aw w.heap.size w).alloc (aj _) (.cells #[.int .i64 9,.string nv,iv,xv,yv,.int .i64 s.gT,bv,ev,av,gv] 48);have xX:=qet (iH.of_below (R:=R) b0 h.le);have Ad:=qet (h.below b0);have Ae:=qet (aE w (.cells #[.int .i64 9,.string nv,iv,xv,yv,.int .i64 s.gT,bv,ev,av,gv] 48));have lu:qes (w.heap.size≠R):=fun e=>by have:=h.hB;have:=h.le;omega
 have HV:=qet hv;have HG:=qet hg;unfold Wrote;clear hv hg h13 h b0;go_enter dB,dx;have t1:=iz Ad.o ⟨#[82,69,84,85,82,78]⟩ (by decide) (by have:=HL.o;omega);go_wp2_with fail;refine t1.mono ?_;rintro e w1 ⟨rfl,h1,k1⟩;have xY:qes (WS B R (L++[gO js]) w1):=h1;have tM:=qet (xX.o.trans k1);have qR:qes (w1.heap[w.heap.size]? =some (.cells #[.int .i64 9,.string nv,iv,xv,yv,.int .i64 s.gT,bv,ev,av,gv] 48)):=k1.others w.heap.size _ Ae.o lu.o (fun c fz e=>by injection e with _ e2;cases e2);clear t1 h1 k1;go_wp2;refine aW (v:=.tuple #[]) ?_ rfl ⟨rfl,?_,tM.o⟩
 ·simp[aV,cX,go_sem]
 ·have:=xY.o;rw[pL.o]
  simpa using this
theorem Ab(s:St)(nv:ByteArray)(iv xv yv bv ev av gv:Value)(h:WS B R L w)(hv:SV B R w s nv iv xv yv bv ev av gv)(hg:kZ w)(h13:13<R)(hm:Eh m)(hc:jY s<=m+1)(hmay:me d s=true)(hl:L.length+(kH s).length<=900000000):Calls ah 46 #[.pointer (some ⟨R,0,none⟩),.agg #[.int .i64 s.kind,.string nv,iv,xv,yv,.int .i64 s.gT,bv,ev,av,gv]] w (Wrote B R L (kH s) w):=by
 rcases yW (jD hmay).2.1 with hk|hk|hk|hk|hk|hk|hk|hk|hk
 ·exact Ov s nv iv xv yv bv ev av gv h hv hg h13 hm hc hmay hk hl
 ·exact Ow s nv iv xv yv bv ev av gv h hv hg h13 hm hc hmay hk hl
 ·exact OA s nv iv xv yv bv ev av gv h hv hg h13 hm hc hmay hk hl
 ·exact OB s nv iv xv yv bv ev av gv h hv hg h13 hm hc hmay hk hl
 ·exact Ox s nv iv xv yv bv ev av gv h hv hg h13 hm hc hmay hk hl
 ·exact Oy s nv iv xv yv bv ev av gv h hv hg h13 hm hc hmay hk hl
 ·exact Oz s nv iv xv yv bv ev av gv h hv hg h13 hm hc hmay hk hl
 ·exact OD s nv iv xv yv bv ev av gv h hv hg h13 hm hc hmay hk hl
 ·exact OE s nv iv xv yv bv ev av gv h hv hg h13 hm hc hmay hk hl
theorem Xa{a:Option Addr}{n c:Nat}(h:lk w (Pw B R) l (.slice a n c))(hk:l[k]? =some e):∃b off nv iv xv yv bv ev av gv,a=some ⟨b,off,none⟩/\Pw B R b/\Ed w b (off+k*10) e nv iv xv yv bv ev av gv/\SV B R w e nv iv xv yv bv ev av gv:=by
 obtain⟨cs,hs,hr⟩:=h;have hs':=hs
 have hlen:0<l.length:=by
  have:=(List.getElem?_eq_some_iff.1 hk).1;omega
 obtain⟨a',b,off,cap,hv,_,ha,hc⟩:=hs.shape;injection hv with e1 e2 e3
 subst e1 e2 e3;have hP:=hs'.blk ha hlen;have ha':=ha hlen;subst ha';obtain⟨nv,iv,xv,yv,bv,ev,av,gv,hst⟩:=uV hc (oH.on (On.any w) _ _ hr) (k:=k) (s:=e) hk;obtain⟨d,_,h2,h3⟩:=sV w (Pw B R) l cs k e hr hk;obtain⟨DS,Yb,Vd,Yc,UB,ev',WL,Yd,rfl,e1,e2,e3,e4,e5,e6,e7,e8⟩:=(nD w (Pw B R) e d).1 h2;have key:∀(j:Nat)(u:Value),j<10->([.int .i64 e.kind,.string DS,Yb,Vd,Yc,.int .i64 e.gT,UB,ev',WL,Yd]:List Value)[j]? =some u->w.cell? ⟨b,off+k*10+j,none⟩=some u:=fun j u hj hu=>hc k j u ((h3 j hj).trans hu)
 have k1:=key 1 _ (by omega) rfl;have k2:=key 2 _ (by omega) rfl;have k3:=key 3 _ (by omega) rfl;have k4:=key 4 _ (by omega) rfl;have k6:=key 6 _ (by omega) rfl;have k7:=key 7 _ (by omega) rfl;have k8:=key 8 _ (by omega) rfl;have k9:=key 9 _ (by omega) rfl;rw[hst.c1]at k1;rw[hst.c2]at k2;rw[hst.c3]at k3;rw[hst.c4]at k4;rw[hst.c6]at k6;rw[hst.c7]at k7;rw[hst.c8]at k8;rw[hst.c9]at k9;obtain rfl:nv=DS:=by injection k1 with k1;injection k1
 obtain rfl:=an k2;obtain rfl:=an k3;obtain rfl:=an k4;obtain rfl:=an k6;obtain rfl:=an k7;obtain rfl:=an k8;obtain rfl:=an k9;exact⟨b,off,nv,iv,xv,yv,bv,ev,av,gv,rfl,hP,hst,e1,e2,e3,e4,e5,e6,e7,e8⟩
theorem OF{a:St}(h:l[k]? =some a):iV (l.take (k+1))=iV (l.take k)++(kH a++[gP ik]):=by
 induction l generalizing k with
 |nil=>cases h
 |cons x l ih=>
  cases k with
  |zero=>
   obtain rfl:x=a:=an h;simp[iV]
  |succ k=>rw[bF,bF,iV,iV,ih h];simp
theorem FD(l:List St)(k:Nat):(iV (l.take k)).length<=(iV l).length:=by
 induction l generalizing k with
 |nil=>simp
 |cons x l ih=>
  cases k with
  |zero=>simp[iV]
  |succ k=>rw[bF,iV,iV];have:=ih k;simp;omega
theorem Re(l:List St):l.length<=(iV l).length:=by
 induction l with
 |nil=>simp
 |cons x l ih=>rw[iV];simp;omega
theorem BI(l:List St)(v:Value)(h:WS B R L w)(hv:lk w (Pw B R) l v)(hg:kZ w)(h13:13<R)(hst:∀(k:Nat)(s:St),l[k]? =some s->∀(L:List Tk)(w:World)(nv:ByteArray)(iv xv yv bv ev av gv:Value),WS B R L w->SV B R w s nv iv xv yv bv ev av gv->kZ w->L.length+(kH s).length<=900000000->Calls ah 46 #[.pointer (some ⟨R,0,none⟩),.agg #[.int .i64 s.kind,.string nv,iv,xv,yv,.int .i64 s.gT,bv,ev,av,gv]] w (Wrote B R L (kH s) w))(hl:L.length+(iV l).length<=900000000):Calls ah 30 #[.pointer (some ⟨R,0,none⟩),v] w (Wrote B R L (iV l) w):=by
 obtain⟨a,n,c,hvv⟩:=hv.shape;have hn:n=l.length:=by obtain⟨cs,⟨a2,b2,o2,c2,e2,_⟩,_⟩:=hv;rw[hvv]at e2;injection e2
 subst hvv;have HN:=qet hn;have HV:=qet hv;have HG:=qet hg;have HR:=qet h13;have HB:=qet h.hB;have HST:=qet hst;have HL:=qet hl;have HS:=qet h;have m0:(0:Int)<=(n:Int):=by omega
 have m1:n<=900000000:=by have:=Re l;omega
 unfold Wrote;clear h hv hg h13 hst hl hn;go_enter Tryz.func30,Tryz.ntmps30;go_wp2_with fail
 go_loopw [8] (fun i wr=>∃(k:Nat),k<=n/\i=.int .i64 (k:Int)/\qes (WS B R (L++iV (l.take k)) wr/\iH B R w wr)) (fun i _=>n-(intOf i).toNat)
 case atStart=>exact⟨0,by omega,rfl,by simpa[iV]using HS.o,iH.refl _ _ _⟩
 case round=>
  obtain⟨k,hk,rfl,hh⟩:=hrel;have S:=qet hh.o.1;have Q:=qet hh.o.2;clear hh
  by_cases hlt:k<n
  ·have j1:(k:Int)<(n:Int):=by omega
   have j0:(0:Int)<=(k:Int):=by omega
   obtain⟨s,hx⟩:∃s,l[k]? =some s:=⟨_,List.getElem?_eq_getElem (by rw[<-HN.o];exact hlt)⟩
   obtain⟨b,off,nv,iv,xv,yv,bv,ev,av,gv,rfl,hP,hst,hsv⟩:=Xa HV.o hx;have Yj:=qet hsv;obtain⟨ai,ni,ci,hi⟩:=hsv.idx.shape;obtain⟨ax,nx,cx,hx2⟩:=hsv.x.shape;obtain⟨ay,ny,cy,hy⟩:=hsv.y.shape;obtain⟨ab,nb,cb,hb⟩:=hsv.body.shape;obtain⟨ae,ne,ce,he2⟩:=hsv.els.shape;obtain⟨aa,na,ca,ha⟩:=hsv.arms.shape;obtain⟨ag,ng,cg,hg⟩:=hsv.args.shape;subst hi hx2 hy hb he2 ha hg;have q:∀o,wr.cell? ⟨b,o,none⟩=w.cell? ⟨b,o,none⟩:=fun o=>World.cell?_of_block (Q.o.block b hP.1 hP.2)
   have d0:wr.cell? ⟨b,off+k*10,none⟩=_:=(q _).trans hst.c0;have d1:wr.cell? ⟨b,off+k*10+1,none⟩=_:=(q _).trans hst.c1;have d2:wr.cell? ⟨b,off+k*10+2,none⟩=_:=(q _).trans hst.c2;have d3:wr.cell? ⟨b,off+k*10+3,none⟩=_:=(q _).trans hst.c3;have d4:wr.cell? ⟨b,off+k*10+4,none⟩=_:=(q _).trans hst.c4;have d5:wr.cell? ⟨b,off+k*10+5,none⟩=_:=(q _).trans hst.c5;have d6:wr.cell? ⟨b,off+k*10+6,none⟩=_:=(q _).trans hst.c6;have d7:wr.cell? ⟨b,off+k*10+7,none⟩=_:=(q _).trans hst.c7;have d8:wr.cell? ⟨b,off+k*10+8,none⟩=_:=(q _).trans hst.c8;have d9:wr.cell? ⟨b,off+k*10+9,none⟩=_:=(q _).trans hst.c9;have HT:=qet (OF hx);have IW:=qet (FD l (k+1));have B5:=(aw wr.heap.size wr).alloc (aj _) (.cells #[.int .i64 s.kind,.string nv,.slice ai ni ci,.slice ax nx cx,.slice ay ny cy,.int .i64 s.gT,.slice ab nb cb,.slice ae ne ce,.slice aa na ca,.slice ag ng cg] 48);have Q5:=qet (Q.o.trans (iH.of_below (R:=R) B5 S.o.le));have S5:=qet (S.o.below B5);have t1:=HST.o k s hx _ _ nv _ _ _ _ _ _ _ S5.o (Yj.o.keep Q5.o) (HG.o.iW Q5.o HR.o HB.o) (by have h1:=HL.o;have h2:=IW.o;rw[HT.o]at h2;simp at h2 ⊢;omega);unfold Wrote at t1;clear hx hP hst hsv q B5;go_wp2_with fail;refine t1.mono ?_;rintro e w6 ⟨rfl,h6,k6⟩;have Q6:=qet (Q5.o.trans k6);have t2:=jP h6 ⟨#[59]⟩ (by have h1:=HL.o;have h2:=IW.o;rw[HT.o]at h2;simp at h2 ⊢;omega);clear t1 h6 k6 d0 d1 d2 d3 d4 d5 d6 d7 d8 d9;go_wp2_with fail;refine t2.mono ?_;rintro e w7 ⟨rfl,h7,k7⟩
   have S7:qes (WS B R (L++iV (l.take (k+1))) w7):=by
    show WS _ _ _ _;rw[HT.o]
    simpa using h7
   have Q7:=qet (Q6.o.trans k7);clear t2 h7 k7;go_wp2
   go_roundw
   case rel=>exact⟨k+1,by omega,by go_num,S7.o,Q7.o⟩
   case measure=>simp[intOf];omega
  ·obtain rfl:k=n:=by omega
   have j1:¬ (k:Int)<(k:Int):=by omega
   have SF:qes (WS B R (L++iV l) wr):=by
    show WS _ _ _ _;have:=S.o
    rwa [aX (by rw[HN.o];exact aj _)]at this
   go_wp2;refine aW (v:=.tuple #[]) ?_ rfl ⟨rfl,SF.o,Q.o⟩;simp[aV,Tryz.results30,go_sem]
theorem OG(s:St):1<=jY s:=by rw[j9];omega
theorem rY:∀m,Eh m
 |0=>fun B R d L l v w hc hmay h13 h hv hg hl=>BI l v h hv hg h13 (fun k s hk=>by
   have h1:=sY hk;have h2:=OG s
   omega) hl
 |m+1=>fun B R d L l v w hc hmay h13 h hv hg hl=>BI l v h hv hg h13 (fun k s hk L w nv iv xv yv bv ev av gv h hv hg hl=>Ab s nv iv xv yv bv ev av gv h hv hg h13 (m:=m) (d:=d) (rY m) (by have h1:=sY hk;omega) (by rw[yU]at hmay;exact eZ.1 hmay s (List.mem_of_getElem? hk)) hl) hl
theorem OH(h:mL l=true):iw l<=400/\jO 1 l=true:=by
 unfold mL at h;rw[aH,decide_eq_true_eq]at h;exact h
theorem FE(l:List St)(v:Value)(w:World)(h:lk w Tt l v)(hT:iw l<=1000000000)(hg:kZ w)(Fu:TabAt w 4 nd)(hl:mL l=true->(iV l).length<=900000000):Calls ah 17 #[v] w fun e w'=>∃tv,e=.returned (.tuple #[tv,.int .i64 (if mL l then 0 else 70)])/\Below w.heap.size w w'/\(mL l=true->w'.ownsRow w.heap.size 54 5 tv (iV l).length (kJ ((iV l).map yP)))/\(mL l=false->tv=.slice none 0 0):=by
 have c1:=zX l v w h hT hg Fu;have HG:=qet hg;have HV:=qet h;have HL:=qet hl;obtain⟨a,n,c,hvv⟩:=h.shape;subst hvv;clear hg Fu h hT hl
 cases hs:mL l with
 |false=>
  have HS:=qet hs;rw[hs]at c1;clear hs;go_enter Tryz.func17,Tryz.ntmps17;go_wp2_with fail;refine c1.mono ?_;rintro e w1 ⟨rfl,b1⟩;have B1:=qet b1;clear c1 b1;go_wp2;refine aU (v:=.tuple #[.slice none 0 0,.int .i64 70]) ?_ rfl ⟨rfl,B1.o⟩;simp[aV,Tryz.results17,go_sem]
 |true=>
  have HS:=qet hs;rw[hs]at c1;clear hs;go_enter Tryz.func17,Tryz.ntmps17;go_wp2_with fail;refine c1.mono ?_;rintro e w1 ⟨rfl,b1⟩;have B1:=qet b1;have hW2:WS (w1.heap.size+1) w1.heap.size [] (w1.alloc (.cells #[.slice none 0 0] 78)):=⟨by omega,by simp,.slice none 0 0,aE w1 _,bS _ _ _ _⟩
  have hB2:Below w.heap.size w (w1.alloc (.cells #[.slice none 0 0] 78)):=b1.alloc b1.size _;have hlt:=HG.o.lt;have hon:On Tt (Pw (w1.heap.size+1) w1.heap.size) w (w1.alloc (.cells #[.slice none 0 0] 78)):=fun b _ hb=>⟨⟨by have:=b1.size;omega,by have:=b1.size;omega⟩,hB2.block b hb⟩
  have t1:=rY 400 (w1.heap.size+1) w1.heap.size 1 [] l _ _ (OH HS.o).1 (OH HS.o).2 (by have:=b1.size;omega) hW2 (HV.o.on hon) (HG.o.below hB2 HG.o.lt) (by have:=HL.o HS.o;simpa using this);have B2:=qet hB2;unfold Wrote at t1;clear c1 b1 hW2 hB2 hlt hon;go_wp2_with fail;refine t1.mono ?_;rintro e w3 ⟨rfl,h3,k3⟩;obtain⟨tv,r1,r2⟩:=h3.row;rw[bQ]at r2;obtain⟨ta,tn,tc,sA⟩:=BZ r2;subst sA;have e0:w3.cell? ⟨w1.heap.size,0,none⟩=some (.slice ta tn tc):=by rw[af r1];rfl
  have R2:=qet r2;have Q3:=qet k3;clear t1 h3 k3 r1 r2;go_wp2;refine aU (v:=.tuple #[.slice ta tn tc,.int .i64 0]) ?_ rfl ⟨_,rfl,?_,?_⟩
  ·simp[aV,Tryz.results17,go_sem]
  ·have hz:=B1.o.size;have h2:=B2.o;have h3:=Q3.o;exact⟨h3.os.trans h2.os,h3.tape.trans h2.tape,h3.output.trans h2.output,aP h2.size h3.size,fun k hk=>(h3.block k (by omega) (by omega)).trans (h2.block k hk)⟩
  ·exact own_base R2.o (by have:=B1.o.size;omega)
theorem Xb(k n t k' n' t':Int)(s f s' f':ByteArray):∃b,(∀W,(binOp .neq 42 (.agg #[.int .i64 k,.int .i64 n,.int .i64 t,.string s,.string f]) (.agg #[.int .i64 k',.int .i64 n',.int .i64 t',.string s',.string f'])).run ah W=.ok (.bool b) W)/\b= !decide (k=k'/\n=n'/\t=t'/\s=s'/\f=f'):=by
 refine⟨!decide (k=k'/\n=n'/\t=t'/\s=s'/\f=f'),fun W=>?_,rfl⟩
 by_cases h1:k=k'
 ·by_cases h2:n=n'
  ·by_cases h3:t=t'
   ·by_cases h4:s=s'
    ·by_cases h5:f=f'
     ·subst h1 h2 h3 h4 h5;simp[go_sem]
     ·subst h1 h2 h3 h4;have hb:(f.toList==f'.toList)=false:=by rw[kj];exact decide_eq_false h5
      simp[go_sem,h5,hb]
    ·subst h1 h2 h3;have hb:(s.toList==s'.toList)=false:=by rw[kj];exact decide_eq_false h4
     simp[go_sem,h4,hb]
   ·subst h1 h2;simp[go_sem,h3]
  ·subst h1;simp[go_sem,h2]
 ·simp[go_sem,h1]
theorem Rf{α:Type}{x y:List α}{a:α}(h:x.take k=y.take k)(hx:x[k]? =some a)(hy:y[k]? =some a):x.take (k+1)=y.take (k+1):=by
 rw[cr,cr,h,hx,hy]
theorem AI(va vb:Value)(x y:List Pv)(w:World)(ha:tQ w va x)(hb:tQ w vb y)(hla:x.length<=3000000000000)(hlb:y.length<=3000000000000):
  Calls ah 43 #[va,vb] w fun e w'=>(∃bb,e=.returned (.bool bb)/\(bb=true↔x=y))/\Below w.heap.size w w':=by
 obtain⟨a,b,off,cap,rfl,hA,hI⟩:=ha;obtain⟨a2,b2,off2,cap2,rfl,hA2,hI2⟩:=hb
 by_cases hne:x.length=y.length
 ·have HA:=qet hA;have HI:=qet hI;have HA2:=qet hA2;have HI2:=qet hI2;obtain⟨N,hN⟩:∃N,N=x.length:=⟨_,rfl⟩
  have HN:=qet hN;have Uc:qes (N=y.length):=hN.trans hne;rw[<-Uc.o,<-hN];have l0:(N:Int)<=3000000000000:=by omega
  clear hN hA hI hA2 hI2 hla hlb hne;go_enter Tryz.func43,Tryz.ntmps43;go_wp2_with fail
  go_loopw [5] (fun i wr=>∃k:Nat,k<=N/\i=.int .i64 (k:Int)/\qes (x.take k=y.take k/\Below w.heap.size w wr)) (fun i _=>N-(intOf i).toNat)
  case atStart=>exact⟨0,by omega,rfl,rfl,aw _ _⟩
  case round=>
   obtain⟨k,hk,rfl,hh⟩:=hrel;have HT:=qet hh.o.1;have HB:=qet hh.o.2;clear hh
   by_cases hlt:k<N
   ·have j1:(k:Int)<(N:Int):=by omega
    have j0:(0:Int)<=(k:Int):=by omega
    obtain⟨p,hp⟩:∃p,x[k]? =some p:=⟨_,List.getElem?_eq_getElem (by rw[<-HN.o];exact hlt)⟩
    obtain⟨q,hq⟩:∃q,y[k]? =some q:=⟨_,List.getElem?_eq_getElem (by rw[<-Uc.o];exact hlt)⟩
    obtain⟨hbw,rfl⟩:=HA.o (by rw[<-HN.o];omega);obtain⟨hbw2,rfl⟩:=HA2.o (by rw[<-Uc.o];omega);obtain⟨q0,q1,q2,q3,q4⟩:=HI.o k p hp;obtain⟨r0,r1,r2,r3,r4⟩:=HI2.o k q hq;have c0:=(HB.o.cell (p:=⟨b,off+k*5,none⟩) hbw).trans q0;have c1:=(HB.o.cell (p:=⟨b,off+k*5+1,none⟩) hbw).trans q1;have c2:=(HB.o.cell (p:=⟨b,off+k*5+2,none⟩) hbw).trans q2;have c3:=(HB.o.cell (p:=⟨b,off+k*5+3,none⟩) hbw).trans q3;have c4:=(HB.o.cell (p:=⟨b,off+k*5+4,none⟩) hbw).trans q4;have d0:=(HB.o.cell (p:=⟨b2,off2+k*5,none⟩) hbw2).trans r0;have d1:=(HB.o.cell (p:=⟨b2,off2+k*5+1,none⟩) hbw2).trans r1;have d2:=(HB.o.cell (p:=⟨b2,off2+k*5+2,none⟩) hbw2).trans r2;have d3:=(HB.o.cell (p:=⟨b2,off2+k*5+3,none⟩) hbw2).trans r3;have d4:=(HB.o.cell (p:=⟨b2,off2+k*5+4,none⟩) hbw2).trans r4;have HP:=qet hp;have HQ:=qet hq;obtain⟨bb,hrun,hbb⟩:=Xb p.k p.n p.t q.k q.n q.t p.s p.f q.s q.f;have Oe:=qet hbb;clear q0 q1 q2 q3 q4 r0 r1 r2 r3 r4 hp hq hbb
    cases bb with
    |true=>
     have Mi:qes (¬x=y):=fun h=>by
      have h1:=HP.o;rw[h,HQ.o]at h1;have h2:=an h1;have h3:=Oe.o;rw[h2]at h3;simp at h3
     go_wp2
     go_quiet (fail)
     go_wp2;go_ret;exact⟨⟨false,rfl,⟨fun h=>absurd h (by decide),fun h=>absurd h Mi.o⟩⟩,kr HB.o _⟩
    |false=>
     have HT2:qes (x.take (k+1)=y.take (k+1)):=by
      have h3:=Oe.o
      have h4:p=q:=by
       obtain⟨p0,p1,p2,p3,p4⟩:=p;obtain⟨s0,s1,s2,s3,s4⟩:=q;simp only[]at h3;have h5:=of_decide_eq_true (by simpa using h3:decide _=true);obtain⟨e1,e2,e3,e4,e5⟩:=h5;subst e1 e2 e3 e4 e5;rfl
      exact Rf HT.o HP.o (by rw[h4];exact HQ.o)
     go_wp2
     go_quiet (fail)
     go_wp2
     go_roundw
     case rel=>exact⟨k+1,by omega,by go_num,HT2.o,kr HB.o _⟩
     case measure=>simp[intOf];omega
   ·have HE:qes (x=y):=by
     have h1:=HT.o;rw[aX (by rw[<-HN.o];omega),aX (by rw[<-Uc.o];omega)]at h1;exact h1
    go_wp2;go_ret;exact⟨⟨true,rfl,fun _=>HE.o,fun _=>rfl⟩,HB.o⟩
 ·have i1:((x.length:Int)==(y.length:Int))=false:=by rw[beq_eq_false_iff_ne];omega
  have Mi:qes (¬x=y):=fun h=>hne (by rw[h])
  have l1:(x.length:Int)<=3000000000000:=by omega
  have l2:(y.length:Int)<=3000000000000:=by omega
  clear hA hI hA2 hI2 hne hla hlb;generalize x.length=X at *;generalize y.length=Y at *;go_enter Tryz.func43,Tryz.ntmps43;go_wp2;go_ret;exact⟨⟨false,rfl,⟨fun h=>absurd h (by decide),fun h=>absurd h Mi.o⟩⟩,aw _ _⟩
theorem Dl{l:List Int}(h:AR w Tt l v):∃(a:Option Addr)(b off cap:Nat),v=.slice a l.length cap/\l.length<=1000000000/\(0<l.length->a=some ⟨b,off,none⟩)/\∀(k:Nat) x,l[k]? =some x->w.cell? ⟨b,off+k,none⟩=some (.int .i64 x):=by
 obtain⟨a,b,off,cap,h1,h2,h3,h4,h5⟩:=h;refine⟨a,b,off,cap,h1,h2,fun h=>(h4 h).2,fun k x hk=>h5 k _ ?_⟩;rw[List.getElem?_map,hk];rfl
variable {va:Value}{vb:Value}
theorem Dm{l:List Int}(ha:AR w Tt l va)(hb:AR w Tt l vb):Calls ah 44 #[va,vb] w fun e w'=>e=.returned (.bool true)/\Below w.heap.size w w':=by
 obtain⟨a,b,off,cap,rfl,hn,hA,hI⟩:=Dl ha;obtain⟨a2,b2,off2,cap2,rfl,_,hA2,hI2⟩:=Dl hb;have HI:=qet hI;have HI2:=qet hI2;obtain⟨N,hN⟩:∃N,N=l.length:=⟨_,rfl⟩
 have HN:=qet hN;rw[<-hN]at hn hA hA2 ⊢;clear ha hb hI hI2 hN;go_enter Tryz.func44,Tryz.ntmps44;go_wp2_with fail
 go_loopw [5] (fun i wr=>∃k:Nat,k<=N/\i=.int .i64 (k:Int)/\qes (Below w.heap.size w wr)) (fun i _=>N-(intOf i).toNat)
 case atStart=>exact⟨0,by omega,rfl,aw _ _⟩
 case round=>
  obtain⟨k,hk,rfl,HB⟩:=hrel
  by_cases hlt:k<N
  ·have j1:(k:Int)<(N:Int):=by omega
   have j0:(0:Int)<=(k:Int):=by omega
   obtain⟨x,hx⟩:∃x,l[k]? =some x:=⟨_,List.getElem?_eq_getElem (by rw[<-HN.o];exact hlt)⟩
   have q0:=HI.o k x hx;have r0:=HI2.o k x hx;have hA':=hA (by omega);have qar:=hA2 (by omega);subst hA' qar;have c0:=(HB.o.cell (p:=⟨b,off+k,none⟩) (World.block_lt_of_cell? w _ q0)).trans q0;have d0:=(HB.o.cell (p:=⟨b2,off2+k,none⟩) (World.block_lt_of_cell? w _ r0)).trans r0;clear q0 r0 hx;go_wp2
   go_quiet (fail)
   go_wp2
   go_roundw
   case rel=>exact⟨k+1,by omega,by go_num,kr HB.o _⟩
   case measure=>simp[intOf];omega
  ·have j1:¬ (k:Int)<(N:Int):=by omega
   go_wp2;go_ret;exact⟨rfl,HB.o⟩
theorem Rg{a b:Pv}(h:kO a=kO b):a=b:=by
 obtain⟨a0,a1,a2,a3,a4⟩:=a;obtain⟨b0,b1,b2,b3,b4⟩:=b;unfold kO at h;simp only[Pt.mk.injEq]at h;obtain⟨h1,h2,h3,h4,h5⟩:=h;simp only[Pv.mk.injEq];refine⟨?_,?_,?_,?_,?_⟩ <;> first|assumption|exact oW (by assumption)
theorem Rh{x y:List Pv}(h:x.map kO=y.map kO):x=y:=by
 induction x generalizing y with
 |nil=>cases y with|nil=>rfl|cons _ _=>cases h
 |cons a x ih=>
  cases y with
  |nil=>cases h
  |cons b y=>
   simp only[bL,cZ]at h;rw[Rg h.1,ih h.2]
theorem nJ{x:List Pt}(ha:mg w Tt x va)(hb:mg w Tt x vb):Calls ah 43 #[va,vb] w fun e w'=>e=.returned (.bool true)/\Below w.heap.size w w':=by
 obtain⟨xs,h1,p2,p1⟩:=ha.lst;obtain⟨ys,k1,_,p3⟩:=hb.lst;have hxy:xs=ys:=Rh (h1.trans k1.symm);subst hxy;refine(AI va vb xs xs w p1 p3 (by omega) (by omega)).mono ?_;rintro e w' ⟨⟨bb,rfl,hbb⟩,hbl⟩;rw[hbb.2 rfl];exact⟨rfl,hbl⟩
def OI(m:Nat):Prop:=∀l va vb W,iw l<=m->lk W Tt l va->lk W Tt l vb->Calls ah 13 #[va,vb] W fun e w'=>e=.returned (.bool true)/\Below W.heap.size W w'
theorem FF{l:List (List Int×List St)}(h:DL w Tt l v):∃(a:Option Addr)(b off cap:Nat),v=.slice a l.length cap/\l.length<=1000000000/\(0<l.length->a=some ⟨b,off,none⟩)/\∀(k:Nat) x,l[k]? =some x->∃lv bv,w.cell? ⟨b,off+k*2,none⟩=some lv/\w.cell? ⟨b,off+k*2+1,none⟩=some bv/\AR w Tt x.1 lv/\lk w Tt x.2 bv:=by
 obtain⟨cs,hs,hr⟩:=h;obtain⟨a,b,off,cap,hv,hn,ha,hc⟩:=hs.shape;refine⟨a,b,off,cap,hv,hn,ha,fun k x hx=>?_⟩;obtain⟨lv,bv,e1,e2,e3,e4⟩:=oI w Tt l cs k x hr hx;exact⟨lv,bv,hc k 0 lv e1,hc k 1 bv e2,e3,e4⟩
theorem FG{l:List (Bs×List Pt)}(h:BR w Tt l v):∃(a:Option Addr)(b off cap:Nat),v=.slice a l.length cap/\l.length<=1000000000/\(0<l.length->a=some ⟨b,off,none⟩)/\∀(k:Nat) x,l[k]? =some x->∃nv xv,w.cell? ⟨b,off+k*2,none⟩=some (.string nv)/\w.cell? ⟨b,off+k*2+1,none⟩=some xv/\nv.data.toList=x.1/\mg w Tt x.2 xv:=by
 obtain⟨cs,hs,hr⟩:=h;obtain⟨a,b,off,cap,hv,hn,ha,hc⟩:=hs.shape;refine⟨a,b,off,cap,hv,hn,ha,fun k x hx=>?_⟩;obtain⟨lv,bv,e1,e2,e3,e4⟩:=xG w Tt l cs k x hr hx;exact⟨lv,bv,hc k 0 _ e1,hc k 1 bv e2,e3,e4⟩
def Ri(b:Nat)(W:World)(iv xv yv bv ev av gv:Value):Prop:=W.cell? ⟨b,2,none⟩=some iv/\W.cell? ⟨b,3,none⟩=some xv/\W.cell? ⟨b,4,none⟩=some yv/\W.cell? ⟨b,6,none⟩=some bv/\W.cell? ⟨b,7,none⟩=some ev/\W.cell? ⟨b,8,none⟩=some av/\W.cell? ⟨b,9,none⟩=some gv
variable {iv:Value}{xv:Value}{yv:Value}{bv:Value}{ev:Value}{av:Value}{gv:Value}{nv:ByteArray}{kd:Int}
theorem Xc{gT:Int}(h:W.heap[b]? =some (.cells #[.int .i64 kd,.string nv,iv,xv,yv,.int .i64 gT,bv,ev,av,gv] 48)):Ri b W iv xv yv bv ev av gv:=by
 unfold Ri;simp only[af h];exact⟨rfl,rfl,rfl,rfl,rfl,rfl,rfl⟩
def rT(w:World)(b o:Nat)(kd bb:Int)(nv:ByteArray)(iv xv yv bv ev av gv:Value):Prop:=w.cell? ⟨b,o,none⟩=some (.int .i64 kd)/\w.cell? ⟨b,o+1,none⟩=some (.string nv)/\w.cell? ⟨b,o+2,none⟩=some iv/\w.cell? ⟨b,o+3,none⟩=some xv/\w.cell? ⟨b,o+4,none⟩=some yv/\w.cell? ⟨b,o+5,none⟩=some (.int .i64 bb)/\w.cell? ⟨b,o+6,none⟩=some bv/\w.cell? ⟨b,o+7,none⟩=some ev/\w.cell? ⟨b,o+8,none⟩=some av/\w.cell? ⟨b,o+9,none⟩=some gv
theorem rT.below{w':World}{o:Nat}{bb:Int}(h:rT w b o kd bb nv iv xv yv bv ev av gv)(hb:Below w.heap.size w w'):rT w' b o kd bb nv iv xv yv bv ev av gv:=by
 obtain⟨h0,h1,h2,h3,h4,h5,h6,h7,h8,h9⟩:=h;have hlt:b<w.heap.size:=World.block_lt_of_cell? w ⟨b,o,none⟩ h0;have key:∀(j:Nat)(u:Value),w.cell? ⟨b,j,none⟩=some u->w'.cell? ⟨b,j,none⟩=some u:=fun j u hu=>(hb.cell (p:=⟨b,j,none⟩) hlt).trans hu
 exact⟨key _ _ h0,key _ _ h1,key _ _ h2,key _ _ h3,key _ _ h4,key _ _ h5,key _ _ h6,key _ _ h7,key _ _ h8,key _ _ h9⟩
theorem rT.grown{o:Nat}{bb:Int}(h:rT w b o kd bb nv iv xv yv bv ev av gv):(∀d os,(bk (bI w d) os).cell? ⟨b,o,none⟩=some (.int .i64 kd))/\(∀d os,(bk (bI w d) os).cell? ⟨b,o+1,none⟩=some (.string nv))/\(∀d os,(bk (bI w d) os).cell? ⟨b,o+2,none⟩=some iv)/\(∀d os,(bk (bI w d) os).cell? ⟨b,o+3,none⟩=some xv)/\(∀d os,(bk (bI w d) os).cell? ⟨b,o+4,none⟩=some yv)/\(∀d os,(bk (bI w d) os).cell? ⟨b,o+5,none⟩=some (.int .i64 bb))/\(∀d os,(bk (bI w d) os).cell? ⟨b,o+6,none⟩=some bv)/\(∀d os,(bk (bI w d) os).cell? ⟨b,o+7,none⟩=some ev)/\(∀d os,(bk (bI w d) os).cell? ⟨b,o+8,none⟩=some av)/\∀d os,(bk (bI w d) os).cell? ⟨b,o+9,none⟩=some gv:=by
 obtain⟨h0,h1,h2,h3,h4,h5,h6,h7,h8,h9⟩:=h;exact⟨bs h0,bs h1,bs h2,bs h3,bs h4,bs h5,bs h6,bs h7,bs h8,bs h9⟩
def Shs(iv xv yv bv ev av gv:Value):Prop:=(∃a n p,iv=.slice a n p)/\(∃a n p,xv=.slice a n p)/\(∃a n p,yv=.slice a n p)/\(∃a n p,bv=.slice a n p)/\(∃a n p,ev=.slice a n p)/\(∃a n p,av=.slice a n p)/\∃a n p,gv=.slice a n p
theorem OJ(ha:lk w Tt [] va)(hb:lk w Tt [] vb):Calls ah 13 #[va,vb] w fun e w'=>e=.returned (.bool true)/\Below w.heap.size w w':=by
 obtain⟨cs,hs,_⟩:=ha;obtain⟨csq,Xd,_⟩:=hb;obtain⟨a,b,off,cap,rfl,hn,hA,hc⟩:=hs.shape;obtain⟨aq,bq,UU,qas,rfl,_,Yk,hcq⟩:=Xd.shape;clear hs Xd hc hcq hn hA Yk;simp only[eY];go_enter Tryz.func13,Tryz.ntmps13;go_wp2_with fail
 go_loopw [5] (fun i wr=>i=.int .i64 0/\qes (wr=w)) (fun _ _=>0)
 case atStart=>exact⟨rfl,rfl⟩
 case round=>
  obtain⟨rfl,HW⟩:=hrel;go_wp2;go_ret;exact⟨rfl,by rw[HW.o];exact aw _ _⟩
theorem Dp(hm:OI m)(s:St)(hsm:jY s<=m+1)(nv KO:ByteArray)(iv xv yv bv ev av gv Rj FM Rk BJ OU Sq Ss:Value)(w:World)(hnm:nv.data.toList=s.name)(Xe:KO.data.toList=s.name)(hi:mg w Tt s.idx iv)(hx:mg w Tt s.x xv)(hy:mg w Tt s.y yv)(hb:lk w Tt s.body bv)(he:lk w Tt s.els ev)(ha:DL w Tt s.arms av)(hg:BR w Tt s.args gv)(yh:mg w Tt s.idx Rj)(yr:mg w Tt s.x FM)(hyq:mg w Tt s.y Rk)(hbq:lk w Tt s.body BJ)(heq:lk w Tt s.els OU)(haq:DL w Tt s.arms Sq)(hgq:BR w Tt s.args Ss):Calls ah 28 #[.agg #[.int .i64 s.kind,.string nv,iv,xv,yv,.int .i64 s.gT,bv,ev,av,gv],.agg #[.int .i64 s.kind,.string KO,Rj,FM,Rk,.int .i64 s.gT,BJ,OU,Sq,Ss]] w fun e w'=>e=.returned (.bool true)/\Below w.heap.size w w':=by
 obtain rfl:nv=KO:=oW (hnm.trans Xe.symm);have hcs:=j9 s;have CI:qes (∀W,Below w.heap.size w W->Calls ah 43 #[iv,Rj] W fun e w'=>e=.returned (.bool true)/\Below W.heap.size W w'):=fun W hW=>nJ (hi.on (On.below hW)) (yh.on (On.below hW))
 have CX:qes (∀W,Below w.heap.size w W->Calls ah 43 #[xv,FM] W fun e w'=>e=.returned (.bool true)/\Below W.heap.size W w'):=fun W hW=>nJ (hx.on (On.below hW)) (yr.on (On.below hW))
 have CY:qes (∀W,Below w.heap.size w W->Calls ah 43 #[yv,Rk] W fun e w'=>e=.returned (.bool true)/\Below W.heap.size W w'):=fun W hW=>nJ (hy.on (On.below hW)) (hyq.on (On.below hW))
 have CB:qes (∀W,Below w.heap.size w W->Calls ah 13 #[bv,BJ] W fun e w'=>e=.returned (.bool true)/\Below W.heap.size W w'):=fun W hW=>hm s.body bv BJ W (by omega) (hb.on (On.below hW)) (hbq.on (On.below hW))
 have CE:qes (∀W,Below w.heap.size w W->Calls ah 13 #[ev,OU] W fun e w'=>e=.returned (.bool true)/\Below W.heap.size W w'):=fun W hW=>hm s.els ev OU W (by omega) (he.on (On.below hW)) (heq.on (On.below hW))
 obtain⟨a8,b8,o8,p8,rfl,n8l,e8,Yl⟩:=FF ha;obtain⟨Xf,UW,UX,Vj,rfl,_,e8q,Rl⟩:=FF haq;obtain⟨a9,b9,o9,p9,rfl,n9l,e9,WY⟩:=FG hg;obtain⟨Xg,Vk,Vl,Vm,rfl,_,e9q,UY⟩:=FG hgq
 have CM:qes (∀k,k<s.arms.length->∃lv bv Su BJ,w.cell? ⟨b8,o8+k*2,none⟩=some lv/\w.cell? ⟨b8,o8+k*2+1,none⟩=some bv/\w.cell? ⟨UW,UX+k*2,none⟩=some Su/\w.cell? ⟨UW,UX+k*2+1,none⟩=some BJ/\(∀W,Below w.heap.size w W->Calls ah 44 #[lv,Su] W fun e w'=>e=.returned (.bool true)/\Below W.heap.size W w')/\∀W,Below w.heap.size w W->Calls ah 13 #[bv,BJ] W fun e w'=>e=.returned (.bool true)/\Below W.heap.size W w'):=fun k hk=>by
  obtain⟨x,hx⟩:∃x,s.arms[k]? =some x:=⟨_,List.getElem?_eq_getElem hk⟩
  obtain⟨lv,bv,q1,q2,q3,q4⟩:=Yl k x hx;obtain⟨Su,BJ,r1,r2,r3,r4⟩:=Rl k x hx;have:=uU hx;exact⟨lv,bv,Su,BJ,q1,q2,r1,r2,fun W hW=>Dm (q3.on (On.below hW)) (r3.on (On.below hW)),fun W hW=>hm x.2 bv BJ W (by omega) (q4.on (On.below hW)) (r4.on (On.below hW))⟩
 have CG:qes (∀k,k<s.args.length->∃nv xv FM,w.cell? ⟨b9,o9+k*2,none⟩=some (.string nv)/\w.cell? ⟨b9,o9+k*2+1,none⟩=some xv/\w.cell? ⟨Vk,Vl+k*2,none⟩=some (.string nv)/\w.cell? ⟨Vk,Vl+k*2+1,none⟩=some FM/\∀W,Below w.heap.size w W->Calls ah 43 #[xv,FM] W fun e w'=>e=.returned (.bool true)/\Below W.heap.size W w'):=fun k hk=>by
  obtain⟨x,hx⟩:∃x,s.args[k]? =some x:=⟨_,List.getElem?_eq_getElem hk⟩
  obtain⟨nv,xv,q1,q2,q3,q4⟩:=WY k x hx;obtain⟨KO,FM,r1,r2,r3,r4⟩:=UY k x hx;obtain rfl:nv=KO:=oW (q3.trans r3.symm);exact⟨nv,xv,FM,q1,q2,r1,r2,fun W hW=>nJ (q4.on (On.below hW)) (r4.on (On.below hW))⟩
 have Xh:qes (∀k,k<s.arms.length->∀v,w.cell? ⟨b8,o8+k*2,none⟩=some v->∃a n p,v=.slice a n p):=fun k hk v hv=>by
  obtain⟨x,hx⟩:∃x,s.arms[k]? =some x:=⟨_,List.getElem?_eq_getElem hk⟩
  obtain⟨lv,bv,q1,q2,q3,q4⟩:=Yl k x hx;rw[q1]at hv;obtain rfl:=an hv;obtain⟨a,b,off,cap,h,_⟩:=Dl q3;exact⟨_,_,_,h⟩
 have vI:qes (∀k,k<s.arms.length->∀v,w.cell? ⟨UW,UX+k*2,none⟩=some v->∃a n p,v=.slice a n p):=fun k hk v hv=>by
  obtain⟨x,hx⟩:∃x,s.arms[k]? =some x:=⟨_,List.getElem?_eq_getElem hk⟩
  obtain⟨lv,bv,q1,q2,q3,q4⟩:=Rl k x hx;rw[q1]at hv;obtain rfl:=an hv;obtain⟨a,b,off,cap,h,_⟩:=Dl q3;exact⟨_,_,_,h⟩
 have Xi:qes (∀k,k<s.arms.length->∀v,w.cell? ⟨b8,o8+k*2+1,none⟩=some v->∃a n p,v=.slice a n p):=fun k hk v hv=>by
  obtain⟨x,hx⟩:∃x,s.arms[k]? =some x:=⟨_,List.getElem?_eq_getElem hk⟩
  obtain⟨lv,bv,q1,q2,q3,q4⟩:=Yl k x hx;rw[q2]at hv;obtain rfl:=an hv;exact q4.shape
 have Xj:qes (∀k,k<s.arms.length->∀v,w.cell? ⟨UW,UX+k*2+1,none⟩=some v->∃a n p,v=.slice a n p):=fun k hk v hv=>by
  obtain⟨x,hx⟩:∃x,s.arms[k]? =some x:=⟨_,List.getElem?_eq_getElem hk⟩
  obtain⟨lv,bv,q1,q2,q3,q4⟩:=Rl k x hx;rw[q2]at hv;obtain rfl:=an hv;exact q4.shape
 have Xk:qes (∀k,k<s.args.length->∀v,w.cell? ⟨b9,o9+k*2+1,none⟩=some v->∃a n p,v=.slice a n p):=fun k hk v hv=>by
  obtain⟨x,hx⟩:∃x,s.args[k]? =some x:=⟨_,List.getElem?_eq_getElem hk⟩
  obtain⟨lv,bv,q1,q2,q3,q4⟩:=WY k x hx;rw[q2]at hv;obtain rfl:=an hv;exact q4.shape
 have Xl:qes (∀k,k<s.args.length->∀v,w.cell? ⟨Vk,Vl+k*2+1,none⟩=some v->∃a n p,v=.slice a n p):=fun k hk v hv=>by
  obtain⟨x,hx⟩:∃x,s.args[k]? =some x:=⟨_,List.getElem?_eq_getElem hk⟩
  obtain⟨lv,bv,q1,q2,q3,q4⟩:=UY k x hx;rw[q2]at hv;obtain rfl:=an hv;exact q4.shape
 obtain⟨a2,n2,p2,rfl⟩:=hi.shape;obtain⟨a3,n3,p3,rfl⟩:=hx.shape;obtain⟨a4,n4,p4,rfl⟩:=hy.shape;obtain⟨a6,n6,p6,rfl⟩:=hb.shape;obtain⟨a7,n7,p7,rfl⟩:=he.shape;obtain⟨Xm,Xn,Xo,rfl⟩:=yh.shape;obtain⟨Xp,Xq,Xr,rfl⟩:=yr.shape;obtain⟨Xs,Xt,Xu,rfl⟩:=hyq.shape;obtain⟨Xv,Xw,Xx,rfl⟩:=hbq.shape;obtain⟨Xy,Xz,XA,rfl⟩:=heq.shape;have bt:(nv.toList==nv.toList)=true:=beq_self_eq_true _;obtain⟨n8,hn8⟩:∃n8,n8=s.arms.length:=⟨_,rfl⟩
 obtain⟨n9,XX⟩:∃n9,n9=s.args.length:=⟨_,rfl⟩
 rw[<-hn8]at CM n8l e8 e8q Xh vI Xi Xj ⊢;rw[<-XX]at CG n9l e9 e9q Xk Xl ⊢;clear hnm Xe hi hx hy hb he ha hg yh yr hyq hbq heq haq hgq hcs hsm hm Yl Rl WY UY hn8 XX
 have B0:Below w.heap.size w ((w.alloc (.cells #[.int .i64 s.kind,.string nv,.slice a2 n2 p2,.slice a3 n3 p3,.slice a4 n4 p4,.int .i64 s.gT,.slice a6 n6 p6,.slice a7 n7 p7,.slice a8 n8 p8,.slice a9 n9 p9] 48)).alloc (.cells #[.int .i64 s.kind,.string nv,.slice Xm Xn Xo,.slice Xp Xq Xr,.slice Xs Xt Xu,.int .i64 s.gT,.slice Xv Xw Xx,.slice Xy Xz XA,.slice Xf n8 Vj,.slice Xg n9 Vm] 48)):=by
  have h1:=(aw w.heap.size w).alloc (aj _) (.cells #[.int .i64 s.kind,.string nv,.slice a2 n2 p2,.slice a3 n3 p3,.slice a4 n4 p4,.int .i64 s.gT,.slice a6 n6 p6,.slice a7 n7 p7,.slice a8 n8 p8,.slice a9 n9 p9] 48);exact h1.alloc h1.size _
 obtain⟨w1,hw1⟩:∃w1,w1=(w.alloc (.cells #[.int .i64 s.kind,.string nv,.slice a2 n2 p2,.slice a3 n3 p3,.slice a4 n4 p4,.int .i64 s.gT,.slice a6 n6 p6,.slice a7 n7 p7,.slice a8 n8 p8,.slice a9 n9 p9] 48)).alloc (.cells #[.int .i64 s.kind,.string nv,.slice Xm Xn Xo,.slice Xp Xq Xr,.slice Xs Xt Xu,.int .i64 s.gT,.slice Xv Xw Xx,.slice Xy Xz XA,.slice Xf n8 Vj,.slice Xg n9 Vm] 48):=⟨_,rfl⟩
 have kA:w1.heap[w.heap.size]? =some (.cells #[.int .i64 s.kind,.string nv,.slice a2 n2 p2,.slice a3 n3 p3,.slice a4 n4 p4,.int .i64 s.gT,.slice a6 n6 p6,.slice a7 n7 p7,.slice a8 n8 p8,.slice a9 n9 p9] 48):=by
  rw[hw1,bj _ _ _ (by rw[aB];omega)];exact aE w _
 have kB:w1.heap[w.heap.size+1]? =some (.cells #[.int .i64 s.kind,.string nv,.slice Xm Xn Xo,.slice Xp Xq Xr,.slice Xs Xt Xu,.int .i64 s.gT,.slice Xv Xw Xx,.slice Xy Xz XA,.slice Xf n8 Vj,.slice Xg n9 Vm] 48):=by
  have:=aE (w.alloc (.cells #[.int .i64 s.kind,.string nv,.slice a2 n2 p2,.slice a3 n3 p3,.slice a4 n4 p4,.int .i64 s.gT,.slice a6 n6 p6,.slice a7 n7 p7,.slice a8 n8 p8,.slice a9 n9 p9] 48)) (.cells #[.int .i64 s.kind,.string nv,.slice Xm Xn Xo,.slice Xp Xq Xr,.slice Xs Xt Xu,.int .i64 s.gT,.slice Xv Xw Xx,.slice Xy Xz XA,.slice Xf n8 Vj,.slice Xg n9 Vm] 48);rw[aB]at this;rw[hw1];exact this
 rw[<-hw1]at B0;have HK:qes (∀W,Below w1.heap.size w1 W->Below w.heap.size w W/\Ri w.heap.size W (.slice a2 n2 p2) (.slice a3 n3 p3) (.slice a4 n4 p4) (.slice a6 n6 p6) (.slice a7 n7 p7) (.slice a8 n8 p8) (.slice a9 n9 p9)/\Ri (w.heap.size+1) W (.slice Xm Xn Xo) (.slice Xp Xq Xr) (.slice Xs Xt Xu) (.slice Xv Xw Xx) (.slice Xy Xz XA) (.slice Xf n8 Vj) (.slice Xg n9 Vm)):=fun W hW=>⟨B0.trans (hW.mono B0.size),Xc ((hW.block _ (lt_of_heap kA)).trans kA),Xc ((hW.block _ (lt_of_heap kB)).trans kB)⟩
 have HW1:=qet hw1;clear hw1 kA kB;have t1:=CI.o w1 B0;clear CI B0;go_enter Tryz.func28,Tryz.ntmps28;go_wp2_with fail;rw[<-HW1.o];clear HW1;refine t1.mono ?_;rintro e w2 ⟨rfl,hb2⟩;obtain⟨g2,⟨Rm,Rn,Ro,Rp,Rq,Kv,Kw⟩,Rr,Rt,Ru,Rv,Rw,Ky,Kz⟩:=HK.o _ hb2;have t2:=CX.o _ g2;clear t1 CX;go_wp2_with fail;refine t2.mono ?_;rintro e w3 ⟨rfl,hb3⟩;have Ym:Below w1.heap.size w1 w3:=hb2.trans (hb3.mono hb2.size);clear g2 Rm Rn Ro Rp Rq Kv Kw Rr Rt Ru Rv Rw Ky Kz hb2 hb3;obtain⟨g3,⟨Rm,Rn,Ro,Rp,Rq,Kv,Kw⟩,Rr,Rt,Ru,Rv,Rw,Ky,Kz⟩:=HK.o _ Ym;have t3:=CY.o _ g3;clear t2 CY;go_wp2_with fail;refine t3.mono ?_;rintro e w4 ⟨rfl,hb4⟩;have ch3:Below w1.heap.size w1 w4:=Ym.trans (hb4.mono Ym.size);clear g3 Rm Rn Ro Rp Rq Kv Kw Rr Rt Ru Rv Rw Ky Kz Ym hb4;obtain⟨g4,⟨Rm,Rn,Ro,Rp,Rq,Kv,Kw⟩,Rr,Rt,Ru,Rv,Rw,Ky,Kz⟩:=HK.o _ ch3;have t4:=CB.o _ g4;clear t3 CB;go_wp2_with fail;refine t4.mono ?_;rintro e w5 ⟨rfl,hb5⟩;have ch4:Below w1.heap.size w1 w5:=ch3.trans (hb5.mono ch3.size);clear g4 Rm Rn Ro Rp Rq Kv Kw Rr Rt Ru Rv Rw Ky Kz ch3 hb5;obtain⟨g5,⟨Rm,Rn,Ro,Rp,Rq,Kv,Kw⟩,Rr,Rt,Ru,Rv,Rw,Ky,Kz⟩:=HK.o _ ch4;have t5:=CE.o _ g5;clear t4 CE;go_wp2_with fail;refine t5.mono ?_;rintro e w6 ⟨rfl,hb6⟩;have ch5:Below w1.heap.size w1 w6:=ch4.trans (hb6.mono ch4.size);clear g5 Rm Rn Ro Rp Rq Kv Kw Rr Rt Ru Rv Rw Ky Kz ch4 hb6;obtain⟨g6,⟨Rm,Rn,Ro,Rp,Rq,Kv,Kw⟩,Rr,Rt,Ru,Rv,Rw,Ky,Kz⟩:=HK.o _ ch5;have HC5:=qet ch5;clear t5 g6 ch5;go_wp2_with fail
 go_loopw [5] (fun i wr=>∃k:Nat,k<=n8/\i=.int .i64 (k:Int)/\qes (Below w1.heap.size w1 wr)) (fun i _=>n8-(intOf i).toNat)
 case atStart=>exact⟨0,by omega,rfl,HC5.o⟩
 case round=>
  obtain⟨k,hk,rfl,HB⟩:=hrel;clear Rm Rn Ro Rp Rq Kv Kw Rr Rt Ru Rv Rw Ky Kz;obtain⟨g7,⟨_,_,_,_,_,Kv,Kw⟩,_,_,_,_,_,Ky,Kz⟩:=HK.o _ HB.o
  by_cases hlt:k<n8
  ·have j1:(k:Int)<(n8:Int):=by omega
   have j0:(0:Int)<=(k:Int):=by omega
   have e8':=e8 (by omega);have qaw:=e8q (by omega);subst e8' qaw;obtain⟨lv,bv,Su,BJ,q1,q2,r1,r2,s1,s2⟩:=CM.o k hlt;have x1:∀d os,(bk (bI wr d) os).cell? ⟨b8,o8+k*2,none⟩=some lv:=bs ((g7.cell (World.block_lt_of_cell? w _ q1)).trans q1);have x2:∀d os,(bk (bI wr d) os).cell? ⟨b8,o8+k*2+1,none⟩=some bv:=bs ((g7.cell (World.block_lt_of_cell? w _ q2)).trans q2);have y1:∀d os,(bk (bI wr d) os).cell? ⟨UW,UX+k*2,none⟩=some Su:=bs ((g7.cell (World.block_lt_of_cell? w _ r1)).trans r1);have y2:∀d os,(bk (bI wr d) os).cell? ⟨UW,UX+k*2+1,none⟩=some BJ:=bs ((g7.cell (World.block_lt_of_cell? w _ r2)).trans r2);have z1:∀d os,(bk (bI wr d) os).cell? ⟨w.heap.size,8,none⟩=some (.slice (some ⟨b8,o8,none⟩) n8 p8):=bs Kv;have z2:∀d os,(bk (bI wr d) os).cell? ⟨w.heap.size+1,8,none⟩=some (.slice (some ⟨UW,UX,none⟩) n8 Vj):=bs Ky;have c44:∀d os,Calls ah 44 #[lv,Su] (bk (bI wr d) os) fun e w2=>e=.returned (.bool true)/\∃q:ep,w2=bk (bI wr q.d) q.os:=fun d os=>cC (s1 _ (g7.trans ((dz wr d os).mono g7.size)))
   have c13:∀d os,Calls ah 13 #[bv,BJ] (bk (bI wr d) os) fun e w2=>e=.returned (.bool true)/\∃q:ep,w2=bk (bI wr q.d) q.os:=fun d os=>cC (s2 _ (g7.trans ((dz wr d os).mono g7.size)))
   have XB:qes (∀d os,Below w1.heap.size w1 (bk (bI wr d) os)):=fun d os=>HB.o.trans ((dz wr d os).mono HB.o.size)
   clear s1 s2 g7;obtain⟨al,nl,pl,rfl⟩:=Xh.o k hlt lv q1;obtain⟨AN,AO,pl2,rfl⟩:=vI.o k hlt Su r1;obtain⟨bl,ml,ql,rfl⟩:=Xi.o k hlt bv q2;obtain⟨bl2,ml2,ql2,rfl⟩:=Xj.o k hlt BJ r2;clear q1 q2 r1 r2;go_wp2_with fail;refine dI (by kernel_rfl) (by kernel_rfl) ?_
   repeat(go_big_quiet_step (first|(go_at_call 44;with_reducible exact c44 _ _)|(go_at_call 13;with_reducible exact c13 _ _)))
   refine wpQuiet_nil ?_;intro _ hw';obtain⟨⟨dq,osq⟩,hw''⟩:=hw';subst hw'';go_wp2
   go_roundw
   case rel=>exact⟨k+1,by omega,by go_num,XB.o dq osq⟩
   case measure=>simp[intOf];omega
  ·have j1:¬ (k:Int)<(n8:Int):=by omega
   go_wp2_with fail
   go_loopw [6] (fun i wx=>∃k:Nat,k<=n9/\i=.int .i64 (k:Int)/\qes (Below w1.heap.size w1 wx)) (fun i _=>n9-(intOf i).toNat)
   case atStart=>exact⟨0,by omega,rfl,HB.o⟩
   case round=>
    obtain⟨q,hq,rfl,KL⟩:=hrel;clear Kv Kw Ky Kz g7 hk hlt j1;obtain⟨g7,⟨_,_,_,_,_,Kv,Kw⟩,_,_,_,_,_,Ky,Kz⟩:=HK.o _ KL.o
    by_cases hlt:q<n9
    ·have j1:(q:Int)<(n9:Int):=by omega
     have j0:(0:Int)<=(q:Int):=by omega
     have e9':=e9 (by omega);have qaz:=e9q (by omega);subst e9' qaz;obtain⟨nn,xv,FM,q1,q2,r1,r2,s1⟩:=CG.o q hlt;obtain⟨al,nl,pl,rfl⟩:=Xk.o q hlt xv q2;obtain⟨AN,AO,pl2,rfl⟩:=Xl.o q hlt FM r2;have x1:∀d os,(bk (bI wr d) os).cell? ⟨b9,o9+q*2,none⟩=some (.string nn):=bs ((g7.cell (World.block_lt_of_cell? w _ q1)).trans q1);have x2:∀d os,(bk (bI wr d) os).cell? ⟨b9,o9+q*2+1,none⟩=some (.slice al nl pl):=bs ((g7.cell (World.block_lt_of_cell? w _ q2)).trans q2);have y1:∀d os,(bk (bI wr d) os).cell? ⟨Vk,Vl+q*2,none⟩=some (.string nn):=bs ((g7.cell (World.block_lt_of_cell? w _ r1)).trans r1);have y2:∀d os,(bk (bI wr d) os).cell? ⟨Vk,Vl+q*2+1,none⟩=some (.slice AN AO pl2):=bs ((g7.cell (World.block_lt_of_cell? w _ r2)).trans r2);have z1:∀d os,(bk (bI wr d) os).cell? ⟨w.heap.size,9,none⟩=some (.slice (some ⟨b9,o9,none⟩) n9 p9):=bs Kw;have z2:∀d os,(bk (bI wr d) os).cell? ⟨w.heap.size+1,9,none⟩=some (.slice (some ⟨Vk,Vl,none⟩) n9 Vm):=bs Kz;have btn:(nn.toList==nn.toList)=true:=beq_self_eq_true _;have c43:∀d os,Calls ah 43 #[.slice al nl pl,.slice AN AO pl2] (bk (bI wr d) os) fun e w2=>e=.returned (.bool true)/\∃q:ep,w2=bk (bI wr q.d) q.os:=fun d os=>cC (s1 _ (g7.trans ((dz wr d os).mono g7.size)))
     have XB:qes (∀d os,Below w1.heap.size w1 (bk (bI wr d) os)):=fun d os=>KL.o.trans ((dz wr d os).mono KL.o.size)
     clear q1 q2 r1 r2 s1 g7;go_wp2_with fail;refine dI (by kernel_rfl) (by kernel_rfl) ?_
     repeat(go_big_quiet_step (first|(go_at_call 43;with_reducible exact c43 _ _)))
     refine wpQuiet_nil ?_;intro _ hw';obtain⟨⟨dq,osq⟩,hw''⟩:=hw';subst hw'';go_wp2
     go_roundw
     case rel=>exact⟨q+1,by omega,by go_num,XB.o dq osq⟩
     case measure=>simp[intOf];omega
    ·have j1:¬ (q:Int)<(n9:Int):=by omega
     have HG7:=qet g7;clear g7;go_wp2;go_ret;exact⟨rfl,HG7.o⟩
theorem KB(hm:OI m):OI (m+1):=by
 intro l va vb w hcnt ha hb;obtain⟨cs,hs,hr⟩:=ha;obtain⟨csq,Xd,hrq⟩:=hb;obtain⟨a,b,off,cap,rfl,hn,hA,hc⟩:=hs.shape;obtain⟨aq,bq,UU,qas,rfl,_,Yk,hcq⟩:=Xd.shape
 have HC:qes (∀k,k<l.length->∃kd bb nv iv xv yv bv ev av gv KO Rj FM Rk BJ OU Sq Ss,rT w b (off+k*10) kd bb nv iv xv yv bv ev av gv/\rT w bq (UU+k*10) kd bb KO Rj FM Rk BJ OU Sq Ss/\∀W,Below w.heap.size w W->Calls ah 28 #[.agg #[.int .i64 kd,.string nv,iv,xv,yv,.int .i64 bb,bv,ev,av,gv],.agg #[.int .i64 kd,.string KO,Rj,FM,Rk,.int .i64 bb,BJ,OU,Sq,Ss]] W fun e w'=>e=.returned (.bool true)/\Below W.heap.size W w'):=fun k hk=>by
  obtain⟨s,hx⟩:∃s,l[k]? =some s:=⟨_,List.getElem?_eq_getElem hk⟩
  obtain⟨nv,iv,xv,yv,bv,ev,av,gv,h1⟩:=uV hc hr hx;obtain⟨KO,Rj,FM,Rk,BJ,OU,Sq,Ss,h2⟩:=uV hcq hrq hx;refine⟨s.kind,s.gT,nv,iv,xv,yv,bv,ev,av,gv,KO,Rj,FM,Rk,BJ,OU,Sq,Ss,⟨h1.c0,h1.c1,h1.c2,h1.c3,h1.c4,h1.c5,h1.c6,h1.c7,h1.c8,h1.c9⟩,⟨h2.c0,h2.c1,h2.c2,h2.c3,h2.c4,h2.c5,h2.c6,h2.c7,h2.c8,h2.c9⟩,fun W hW=>?_⟩;have g1:=h1.below hW;have g2:=h2.below hW;exact Dp hm s (aP (sY hx) hcnt) nv KO _ _ _ _ _ _ _ _ _ _ _ _ _ _ W g1.nm g2.nm g1.idx g1.x g1.y g1.body g1.els g1.arms g1.args g2.idx g2.x g2.y g2.body g2.els g2.arms g2.args
 have pL:qes (∀k,k<l.length->∀kd bb nv iv xv yv bv ev av gv,(rT w b (off+k*10) kd bb nv iv xv yv bv ev av gv\/rT w bq (UU+k*10) kd bb nv iv xv yv bv ev av gv)->Shs iv xv yv bv ev av gv):=fun k hk kd bb nv iv xv yv bv ev av gv h=>by
  obtain⟨s,hx⟩:∃s,l[k]? =some s:=⟨_,List.getElem?_eq_getElem hk⟩
  rcases h with h|h
  ·obtain⟨_,_,_,_,_,_,_,_,h1⟩:=uV hc hr hx;obtain⟨_,_,c2,c3,c4,_,c6,c7,c8,c9⟩:=h;have e2:=h1.c2;rw[c2]at e2;obtain rfl:=an e2;have e3:=h1.c3;rw[c3]at e3;obtain rfl:=an e3;have e4:=h1.c4;rw[c4]at e4;obtain rfl:=an e4;have e6:=h1.c6;rw[c6]at e6;obtain rfl:=an e6;have e7:=h1.c7;rw[c7]at e7;obtain rfl:=an e7;have e8:=h1.c8;rw[c8]at e8;obtain rfl:=an e8;have e9:=h1.c9;rw[c9]at e9;obtain rfl:=an e9;exact⟨h1.idx.shape,h1.x.shape,h1.y.shape,h1.body.shape,h1.els.shape,h1.arms.shape,h1.args.shape⟩
  ·obtain⟨_,_,_,_,_,_,_,_,h1⟩:=uV hcq hrq hx;obtain⟨_,_,c2,c3,c4,_,c6,c7,c8,c9⟩:=h;have e2:=h1.c2;rw[c2]at e2;obtain rfl:=an e2;have e3:=h1.c3;rw[c3]at e3;obtain rfl:=an e3;have e4:=h1.c4;rw[c4]at e4;obtain rfl:=an e4;have e6:=h1.c6;rw[c6]at e6;obtain rfl:=an e6;have e7:=h1.c7;rw[c7]at e7;obtain rfl:=an e7;have e8:=h1.c8;rw[c8]at e8;obtain rfl:=an e8;have e9:=h1.c9;rw[c9]at e9;obtain rfl:=an e9;exact⟨h1.idx.shape,h1.x.shape,h1.y.shape,h1.body.shape,h1.els.shape,h1.arms.shape,h1.args.shape⟩
 obtain⟨N,hN⟩:∃N,N=l.length:=⟨_,rfl⟩
 rw[<-hN]at hn hA Yk HC pL ⊢;clear hs Xd hr hrq hc hcq hcnt hN hm;go_enter Tryz.func13,Tryz.ntmps13;go_wp2_with fail
 go_loopw [5] (fun i wr=>∃k:Nat,k<=N/\i=.int .i64 (k:Int)/\qes (Below w.heap.size w wr)) (fun i _=>N-(intOf i).toNat)
 case atStart=>exact⟨0,by omega,rfl,aw _ _⟩
 case round=>
  obtain⟨k,hk,rfl,HB⟩:=hrel
  by_cases hlt:k<N
  ·have j1:(k:Int)<(N:Int):=by omega
   have j0:(0:Int)<=(k:Int):=by omega
   have hA':=hA (by omega);have qaA:=Yk (by omega);subst hA' qaA;obtain⟨kd,bb,nv,iv,xv,yv,bv,ev,av,gv,KO,Rj,FM,Rk,BJ,OU,Sq,Ss,h1,h2,h3⟩:=HC.o k hlt;obtain⟨⟨_,_,_,rfl⟩,⟨_,_,_,rfl⟩,⟨_,_,_,rfl⟩,⟨_,_,_,rfl⟩,⟨_,_,_,rfl⟩,⟨_,_,_,rfl⟩,⟨_,_,_,rfl⟩⟩:=pL.o k hlt _ _ _ _ _ _ _ _ _ _ (.inl h1);obtain⟨⟨_,_,_,rfl⟩,⟨_,_,_,rfl⟩,⟨_,_,_,rfl⟩,⟨_,_,_,rfl⟩,⟨_,_,_,rfl⟩,⟨_,_,_,rfl⟩,⟨_,_,_,rfl⟩⟩:=pL.o k hlt _ _ _ _ _ _ _ _ _ _ (.inr h2);have hB:=HB.o;obtain⟨x0,x1,x2,x3,x4,x5,x6,x7,x8,x9⟩:=(h1.below hB).grown;obtain⟨y0,y1,y2,y3,y4,y5,y6,y7,y8,y9⟩:=(h2.below hB).grown;have c28:=fun d os=>cC (h3 _ (hB.trans ((dz wr d os).mono hB.size)))
   have XB:qes (∀d os,Below w.heap.size w (bk (bI wr d) os)):=fun d os=>hB.trans ((dz wr d os).mono hB.size)
   clear h1 h2 h3 hB;go_wp2_with fail;refine dI (by kernel_rfl) (by kernel_rfl) ?_
   repeat(go_big_quiet_step (first|(go_at_call 28;with_reducible exact c28 _ _)))
   refine wpQuiet_nil ?_;intro _ hw';obtain⟨⟨dq,osq⟩,hw''⟩:=hw';subst hw'';go_wp2
   go_roundw
   case rel=>exact⟨k+1,by omega,by go_num,XB.o dq osq⟩
   case measure=>simp[intOf];omega
  ·have j1:¬ (k:Int)<(N:Int):=by omega
   go_wp2;go_ret;exact⟨rfl,HB.o⟩
theorem KC:OI 0:=fun l va vb w hc ha hb=>by
 cases l with
 |nil=>exact OJ ha hb
 |cons s l=>simp only[iw]at hc;have:=j9 s;omega
theorem FH:∀m,OI m
 |0=>KC
 |m+1=>KB (FH m)
theorem qB(ha:lk w Tt l va)(hb:lk w Tt l vb):Calls ah 13 #[va,vb] w fun e w'=>e=.returned (.bool true)/\Below w.heap.size w w':=FH (iw l) l va vb w (aj _) ha hb
theorem KD(h:mL l=true):JE ((iV l).map yP):=by
 have hf:=pK h;refine G2 (by rw[aQ];have:=hf.1;omega) (fun x hx=>?_);obtain⟨t,ht,rfl⟩:=fB.1 hx;obtain⟨h1,h2,h3⟩:=hf.2 t ht;have e:(⟨t.s.toArray⟩:ByteArray).size=t.s.length:=by simp[ByteArray.size]
 exact⟨by show(⟨t.s.toArray⟩:ByteArray).size<=_;omega,by show _<=t.n;omega,by show t.n<=_;omega⟩
theorem KE(l:List Tk):lst (l.map yP) 0=l:=by
 unfold lst;rw[List.drop_zero,List.map_map]
 conv=>rhs;rw[<-List.map_id l]
 refine List.map_congr_left fun x _=>?_
 obtain⟨a,b,c,d⟩:=x;simp[yP,kU]
theorem OK(hv:Vs W)(hs:lk W Tt l v)(hc:iw l<=1048576):Calls ah 17 #[v] W fun e w'=>∃tv,e=.returned (.tuple #[tv,.int .i64 (if mL l then 0 else 70)])/\Below W.heap.size W w'/\(mL l=true->∃a cap,tv=.slice a (iV l).length cap/\ku w' tv ((iV l).map yP)/\JE ((iV l).map yP))/\(mL l=false->tv=.slice none 0 0):=by
 refine(FE l v W hs (by omega) hv.tG hv.nm (fun h=>by have:=(pK h).1;omega)).mono ?_;rintro e w' ⟨tv,rfl,h1,h2,h3⟩;refine⟨tv,rfl,h1,fun hok=>?_,h3⟩;have ho:=h2 hok;obtain⟨a,cap,hvv,_⟩:=ll ho;exact⟨a,cap,hvv,ku.oF (by rw[aQ];exact ho),KD hok⟩
theorem Hl(hok:mL l=true){tv:Value}(hv:Vs W)(hL:ku W tv ((iV l).map yP))(htk:JE ((iV l).map yP)):Calls ah 10 #[tv,.int .i64 0] W fun e w'=>∃bv,e=.returned (.tuple #[bv,.int .i64 ((iV l).length:Int),.agg #[.int .i64 0,.int .i64 0]])/\lk w' Tt l bv/\Below W.heap.size W w':=by
 obtain⟨t0,t1,t2,t3,hs⟩:=hv.X6;refine(uq hL htk (Nat.zero_le _) hv.tG hs).mono ?_;rintro e w' ⟨v,rfl,h1,h2⟩;rw[KE,Ch hok]at h2;obtain⟨bv,rfl,_,h3⟩:=h2;exact⟨bv,by rw[aQ];rfl,h3,h1⟩
end Go.Proofs.YtekanffohkeoeaaGreatDoor
