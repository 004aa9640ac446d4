import Derived.Test.YtekanffohkeoeaaGreatDoorWvW
import Derived.Test.YtekanffohkeoeaaGreatDoorFrame
namespace Go.Proofs.YtekanffohkeoeaaGreatDoor
open Go.RowKit
open Go.Proofs.Tryz renaming prog → ah
def wX:List Pt:=[FP [87]]
def wrap1:Nat->List St->St
 |1,t=>{st0 with kind:=4,x:=wX,body:=t}
 |2,t=>{st0 with kind:=5,name:=[73],x:=wX,y:=wX,gT:= -2,body:=t}
 |3,t=>{st0 with kind:=6,x:=wX,arms:=[([-1,5],t)]}
 |_,t=>{st0 with kind:=3,x:=wX,body:=t}
def wrapN(q:Nat):Nat->List St->List St
 |0,t=>t
 |k+1,t=>[wrap1 q (wrapN q k t)]
theorem cnt_wrap(q k:Nat)(t:List St):iw (wrapN q k t)=iw t+k:=by
 induction k with
 |zero=>rfl
 |succ k ih=>
  have h:∀u,jY (wrap1 q u)=1+iw u:=fun u=>by
   unfold wrap1
   split <;> simp[jY,st0,iw,kM,sd]
  simp only[wrapN,iw,h,ih];omega
theorem sl_nil(w:World)(size:Nat):Sl w Tt size (.slice none 0 0) 0 []:=⟨none,0,0,0,rfl,by omega,by simp,fun h=>absurd h (by omega),fun _ _ h=>by cases h⟩
theorem pt_nil(w:World):mg w Tt [] (.slice none 0 0):=⟨[],rfl,sl_nil w 5⟩
theorem ch_nil(w:World):lk w Tt [] (.slice none 0 0):=⟨[],sl_nil w 10,by simp only[oH]⟩
theorem am_nil(w:World):DL w Tt [] (.slice none 0 0):=⟨[],sl_nil w 2,by simp only[qH]⟩
theorem agNil(w:World):BR w Tt [] (.slice none 0 0):=⟨[],sl_nil w 2,rfl⟩
theorem sl_new{w:World}{b size n t:Nat}{cs:Array Value}(h:w.heap[b]? =some (.cells cs t (0,0)))(hn:n<=1000000000)(hl:cs.size=n*size):Sl w Tt size (.slice (some ⟨b,0,none⟩) n n) n cs.toList:=
 ⟨_,b,0,n,rfl,hn,by simpa using hl,fun _=>⟨trivial,rfl⟩,fun j u hu=>by
  rw[Nat.zero_add];unfold World.cell?;rw[h]
  simpa using hu⟩
theorem x_new{w:World}{b:Nat}(h:w.heap[b]? =some (.cells #[.int .i64 2,.int .i64 0,.int .i64 0,.string ⟨#[87]⟩,.string ⟨#[]⟩] 42 (0,0))):mg w Tt wX (.slice (some ⟨b,0,none⟩) 1 1):=
 ⟨[⟨2,0,0,⟨#[87]⟩,⟨#[]⟩⟩],rfl,sl_new h (by omega) rfl⟩
theorem one_new{w:World}{b:Nat}{s:St}{x0 x1 x2 x3 x4 x5 x6 x7 x8 x9:Value}(h:w.heap[b]? =some (.cells #[x0,x1,x2,x3,x4,x5,x6,x7,x8,x9] 48 (0,0)))(hs:xp w Tt s [x0,x1,x2,x3,x4,x5,x6,x7,x8,x9]):lk w Tt [s] (.slice (some ⟨b,0,none⟩) 1 1):=
 ⟨_,sl_new h (by omega) rfl,by simp only[oH];exact⟨_,[],rfl,rfl,hs,rfl⟩⟩
theorem two_new(w:World)(o p:Obj):((w.alloc o).alloc p).heap[w.heap.size+1]? =some p:=by
 have h:=heap_alloc_new (w.alloc o) p
 rwa [World.size_alloc]at h
theorem below2(w:World)(o p:Obj):Below w.heap.size w ((w.alloc o).alloc p):=by
 have h:=(Below.refl w.heap.size w).alloc (Nat.le_refl _) o;exact h.alloc h.size _
theorem four_new(w:World)(o p q s:Obj):((((w.alloc o).alloc p).alloc q).alloc s).heap[w.heap.size+1+1+1]? =some s/\((((w.alloc o).alloc p).alloc q).alloc s).heap[w.heap.size+1+1]? =some q/\((((w.alloc o).alloc p).alloc q).alloc s).heap[w.heap.size+1]? =some p/\Below w.heap.size w ((((w.alloc o).alloc p).alloc q).alloc s):=by
 have e1:(w.alloc o).heap.size=w.heap.size+1:=World.size_alloc _ _;have e2:((w.alloc o).alloc p).heap.size=w.heap.size+1+1:=by rw[World.size_alloc,e1]
 have e3:(((w.alloc o).alloc p).alloc q).heap.size=w.heap.size+1+1+1:=by rw[World.size_alloc,e2]
 have h3:=heap_alloc_new (((w.alloc o).alloc p).alloc q) s;have h2:=heap_alloc_new ((w.alloc o).alloc p) q;have h1:=two_new w o p;rw[e3]at h3;rw[e2]at h2;have hb:=below2 w o p;have hb2:=hb.alloc hb.size q;refine⟨h3,?_,?_,hb2.alloc hb2.size s⟩
 ·rw[Below.heap_alloc _ _ _ (by rw[e3];omega)];exact h2
 ·rw[Below.heap_alloc _ _ _ (by rw[e3];omega),Below.heap_alloc _ _ _ (by rw[e2];omega)];exact h1
theorem wrap_in{w W:World}{b:Nat}{s:St}{x t:Value}{k y_:Int}{nv:ByteArray}{yv:Value}(hb:Below w.heap.size w W)(h:W.heap[b]? =some (.cells #[.int .i64 k,.string nv,.slice none 0 0,x,yv,.int .i64 y_,t,.slice none 0 0,.slice none 0 0,.slice none 0 0] 48 (0,0)))
  (hx:mg w Tt s.x x) (hy:mg W Tt s.y yv) (ht:lk w Tt s.body t) (e:s=⟨k,nv.data.toList,[],s.x,s.y,y_,s.body,[],[],[]⟩):lk W Tt [s] (.slice (some ⟨b,0,none⟩) 1 1):=by
 refine one_new h ((nD _ _ _ _).2 ?_);rw[e];exact⟨_,_,_,_,_,_,_,_,rfl,rfl,pt_nil _,hx.on (On.below hb),hy,ht.on (On.below hb),ch_nil _,am_nil _,agNil _⟩
theorem case_in{w W:World}{b c d:Nat}{l:List St}{x t:Value}(hb:Below w.heap.size w W)(h:W.heap[b]? =some (.cells #[.int .i64 6,.string ⟨#[]⟩,.slice none 0 0,x,.slice none 0 0,.int .i64 0,.slice none 0 0,.slice none 0 0,.slice (some ⟨c,0,none⟩) 1 1,.slice none 0 0] 48 (0,0)))
  (hc:W.heap[c]? =some (.cells #[.slice (some ⟨d,0,none⟩) 2 2,t] 51 (0,0))) (hd:W.heap[d]? =some (.cells #[.int .i64 (-1),.int .i64 5] 2 (0,0))) (hx:mg w Tt wX x) (ht:lk w Tt l t):lk W Tt [wrap1 3 l] (.slice (some ⟨b,0,none⟩) 1 1):=by
 refine one_new h ((nD _ _ _ _).2 ?_);refine⟨_,_,_,_,_,_,_,_,rfl,rfl,pt_nil _,hx.on (On.below hb),pt_nil _,ch_nil _,ch_nil _,⟨_,sl_new hc (by omega) rfl,?_⟩,agNil _⟩;obtain⟨cs,h1,h2⟩:=ht.on (On.below hb);show qH W Tt [([-1,5],l)] _;simp only[qH,Ht];exact⟨[.slice (some ⟨d,0,none⟩) 2 2,t],[],rfl,rfl,⟨_,_,rfl,sl_new hd (by omega) rfl,cs,h1,h2⟩,rfl⟩
theorem mod_u(m:Int)(n:Int)(hm:0<m)(hb:m<=100):∃q:Nat,(q:Int)<m/\(IntKind.u64.wrap n).tmod m=(q:Int):=by
 rw[IntKind.wrap_u64];have h0:0<=n % 18446744073709551616:=by omega
 rw[Int.tmod_eq_emod_of_nonneg h0];have h1:=Int.emod_nonneg (n % 18446744073709551616) (show m≠0 by omega);have h2:=Int.emod_lt_of_pos (n % 18446744073709551616) hm;exact⟨(n % 18446744073709551616 % m).toNat,by omega,by omega⟩
set_option maxRecDepth 100000 in
set_option maxHeartbeats 12800000 in
theorem wraps7(va:Value)(kn mn:Int)(a:List St)(w:World)(hv:Vs w)(ha:lk w Tt a va)(hca:iw a<=1048576):Calls Tryz.prog 7 #[va,.int .i64 kn,.int .i64 mn] w fun e w'=>e=.returned (.bool true)/\Below w.heap.size w w':=by
 obtain⟨q,hq4,hq⟩:=mod_u 4 kn (by omega) (by omega);obtain⟨m,hm22,hm⟩:=mod_u 22 mn (by omega) (by omega);have qw:IntKind.i64.wrap (q:Int)=(q:Int):=by simp[IntKind.wrap,IntKind.bits,IntKind.signed];omega
 have mw:IntKind.i64.wrap (m:Int)=(m:Int):=by simp[IntKind.wrap,IntKind.bits,IntKind.signed];omega
 have q0:(0:Int)<=(q:Int):=by omega
 have m0:(0:Int)<=(m:Int):=by omega
 have t1:=UL w hv;have CT:qes (∀l v W,Below w.heap.size w W->lk W Tt l v->iw l<=1048576->Calls Tryz.prog 17 #[v] W fun e w'=>∃tv,e=.returned (.tuple #[tv,.int .i64 (if mL l then 0 else 70)])/\Below W.heap.size W w'/\(mL l=true->∃a cap,tv=.slice a (iV l).length cap/\ku w' tv ((iV l).map yP)/\JE ((iV l).map yP))/\(mL l=false->tv=.slice none 0 0)):=fun l v W hW h1 h2=>OK (hv.below hW) h1 h2
 have CS:qes (∀l tv W,Below w.heap.size w W->mL l=true->ku W tv ((iV l).map yP)->Calls Tryz.prog 10 #[tv,.int .i64 0] W fun e w'=>∃bv,e=.returned (.tuple #[bv,.int .i64 ((iV l).length:Int),.agg #[.int .i64 0,.int .i64 0]])/\lk w' Tt l bv/\Below W.heap.size W w'):=fun l tv W hW h1 h2=>Hl h1 (hv.below hW) h2 (KD h1)
 have CK:qes (∀l v W,Below w.heap.size w W->lk W Tt l v->iw l<=1048576->Calls Tryz.prog 19 #[v] W fun e w'=>e=.returned (.int .i64 (if mL l then 0 else 70))/\Below W.heap.size W w'):=fun l v W hW h1 h2=>zX l v W h1 (by omega) (hv.below hW).tG (hv.below hW).nm
 obtain⟨aa,na,pa,rfl⟩:=ha.shape;have HA:=qet ha;clear hv ha;go_enter Tryz.func7,Tryz.ntmps7;go_wp2_with fail;refine t1.mono ?_;clear t1;rintro e w1 ⟨rfl,hb1⟩;have t2:=CK.o a _ w1 hb1 (HA.o.on (On.below hb1)) hca;have HB1:=qet hb1;clear hb1;go_wp2_with fail;refine t2.mono ?_;clear t2;rintro e w2 ⟨rfl,hb2⟩;have HB2:=qet (HB1.o.trans (hb2.mono HB1.o.size));clear hb2 HB1
 cases hok:mL a with
 |false=>
  clear hok CT CS CK;go_wp2;go_ret;exact⟨rfl,HB2.o⟩
 |true=>
  have h400:iw a<=400:=by unfold mL at hok;rw[Bool.and_eq_true,decide_eq_true_eq]at hok;exact hok.1
  have H400:=qet h400;have HX:qes (mg (w2.alloc (.cells #[.int .i64 2,.int .i64 0,.int .i64 0,.string ⟨#[87]⟩,.string ⟨#[]⟩] 42)) Tt wX (.slice (some ⟨w2.heap.size,0,none⟩) 1 1)):=x_new (heap_alloc_new w2 _);have B2:qes (Below w.heap.size w (w2.alloc (.cells #[.int .i64 2,.int .i64 0,.int .i64 0,.string ⟨#[87]⟩,.string ⟨#[]⟩] 42))):=HB2.o.alloc HB2.o.size _;have A2:=qet (HA.o.on (On.below B2.o));have z2:(w2.alloc (.cells #[.int .i64 2,.int .i64 0,.int .i64 0,.string ⟨#[87]⟩,.string ⟨#[]⟩] 42)).heap.size=w2.heap.size+1:=World.size_alloc _ _;clear hok h400;go_wp2
  go_loopw [8,27] (fun v i wr=>∃(k:Nat)(b:Value),k<=m/\i=.int .i64 (k:Int)/\b=v/\qes (lk wr Tt (wrapN q k a) b/\Below (w2.heap.size+1) (w2.alloc (.cells #[.int .i64 2,.int .i64 0,.int .i64 0,.string ⟨#[87]⟩,.string ⟨#[]⟩] 42)) wr)) (fun _ i _=>m-(intOf i).toNat)
  case atStart=>exact⟨0,_,by omega,rfl,rfl,A2.o,by rw[<-z2];exact Below.refl _ _⟩
  case round=>
   obtain⟨k,b,hk,rfl,rfl,hh⟩:=hrel;have SS:=qet hh.o.1;have BB:=qet hh.o.2;have ZR:qes (w2.heap.size+1<=wr.heap.size):=by show _<=_;rw[<-z2];exact BB.o.size
   have k0:(0:Int)<=(k:Int):=by omega
   obtain⟨ab,nb,pb,rfl⟩:=SS.o.shape;clear hh
   by_cases hlt:k<m
   ·have j1:(k:Int)<(m:Int):=by omega
    have XR:qes (mg wr Tt wX (.slice (some ⟨w2.heap.size,0,none⟩) 1 1)):=HX.o.on (On.below (by rw[z2];exact BB.o));have hqq:q=0\/q=1\/q=2\/q=3:=by omega
    clear qw q0 hq4 HX A2 B2 CT CS CK HA HB2
    rcases hqq with rfl|rfl|rfl|rfl
    ·go_wp2
     go_roundw
     case rel=>exact⟨k+1,_,by omega,by go_num,rfl,wrap_in (below2 _ _ _) (two_new _ _ _) XR.o (pt_nil _) SS.o rfl,BB.o.trans ((below2 _ _ _).mono ZR.o)⟩
     case measure=>simp[intOf];omega
    ·go_wp2
     go_roundw
     case rel=>exact⟨k+1,_,by omega,by go_num,rfl,wrap_in (below2 _ _ _) (two_new _ _ _) XR.o (pt_nil _) SS.o rfl,BB.o.trans ((below2 _ _ _).mono ZR.o)⟩
     case measure=>simp[intOf];omega
    ·go_wp2
     go_roundw
     case rel=>exact⟨k+1,_,by omega,by go_num,rfl,wrap_in (below2 _ _ _) (two_new _ _ _) XR.o (XR.o.on (On.below (below2 _ _ _))) SS.o rfl,BB.o.trans ((below2 _ _ _).mono ZR.o)⟩
     case measure=>simp[intOf];omega
    ·go_wp2
     go_roundw
     case rel=>
      obtain⟨y1,y2,y3,y4⟩:=four_new wr _ _ _ _;exact⟨k+1,_,by omega,by go_num,rfl,case_in y4 y1 y2 y3 XR.o SS.o,BB.o.trans (y4.mono ZR.o)⟩
     case measure=>simp[intOf];omega
   ·obtain rfl:k=m:=by omega
    have j2:¬ (k:Int)<(k:Int):=by omega
    have B3:=qet (B2.o.trans (BB.o.mono (by have:=HB2.o.size;omega)));have hcn:iw (wrapN q k a)<=1048576:=by rw[cnt_wrap];have:=H400.o;omega
    have ZM:=qet hcn;obtain⟨b,hbl⟩:∃b,b=wrapN q k a:=⟨_,rfl⟩
    rw[<-hbl]at SS ZM hcn;have t3:=CT.o b _ wr B3.o SS.o hcn;clear hbl hcn HX A2 BB ZR qw mw q0 m0 hq hm hq4 hm22 hk B2 z2;go_wp2_with fail;refine t3.mono ?_;clear t3;rintro e w3 ⟨tv,rfl,hb3,hy,hn⟩;have B4:=qet (B3.o.trans (hb3.mono B3.o.size));have S4:=qet (SS.o.on (On.below hb3));clear hb3 SS
    cases hok:mL b with
    |false=>
     obtain rfl:=hn hok;have t4:=CK.o b _ w3 B4.o S4.o ZM.o;rw[hok]at t4;clear hy hn hok CT CS CK ZM S4;go_wp2_with fail;refine t4.mono ?_;clear t4;rintro e w4 ⟨rfl,hb4⟩;have B5:=qet (B4.o.trans (hb4.mono B4.o.size));clear hb4;go_wp2;go_ret;exact⟨rfl,B5.o⟩
    |true=>
     obtain⟨am,pm,rfl,hL,_⟩:=hy hok;have t4:=CS.o b _ w3 B4.o hok hL;have hnm:(iV b).length<=8000000:=(pK hok).1;clear hy hn hok CT CS CK hL ZM;generalize(iV b).length=nm at *;go_wp2_with fail;refine t4.mono ?_;clear t4;rintro e w4 ⟨uv,rfl,hsu,hb4⟩;obtain⟨au,nu,pu,rfl⟩:=hsu.shape;have Iz:Below w4.heap.size w4 (w4.alloc (.cells #[.int .i64 0,.int .i64 0] 27)):=(Below.refl _ _).alloc (Nat.le_refl _) _;have hbB:=hb4.trans (Iz.mono hb4.size);have t5:=qB (S4.o.on (On.below hbB)) (hsu.on (On.below Iz));have B5:=qet (B4.o.trans (hbB.mono B4.o.size));clear hsu hb4 Iz hbB S4;go_wp2_with fail;refine t5.mono ?_;clear t5;rintro e w5 ⟨rfl,hb5⟩;have B6:=qet (B5.o.trans (hb5.mono B5.o.size));clear hb5;go_wp2;go_ret;exact⟨rfl,B6.o⟩
theorem wraps_row(v:Value)(l:List St)(kn mn:Int){w:World}{p q:Prop}(hs:lk w Tt l v)(hc:iw l<=1048576)(_:p)(_:q)(w':World)(hv:Vs w')(e:w'=w:=by rfl):Calls Tryz.prog 7 #[v,.int .i64 kn,.int .i64 mn] w' fun e w2=>e=.returned (.bool true)/\Below w'.heap.size w' w2:=by
 subst e;exact wraps7 v kn mn l w' hv hs hc
end Go.Proofs.YtekanffohkeoeaaGreatDoor
