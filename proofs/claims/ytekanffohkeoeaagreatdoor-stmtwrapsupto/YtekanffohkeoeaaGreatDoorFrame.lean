import Derived.Test.YtekanffohkeoeaaGreatDoorCards
import Derived.Test.YtekanffohkeoeaaGreatDoorTie
import Derived.Test.YtekanffohkeoeaaGreatDoorEmW
import Derived.Test.YtekanffohkeoeaaGreatDoorVvW
import Derived.Stop.LaidTwo
import Derived.WalkKit
import Derived.ProofKit
import Derived.OpenShut
import Derived.Deep.DeepHandedRow
import Derived.Lib.LaidTab
import Derived.Lib.LaidU8
import Derived.Lib.SmallJoins
import Derived.Shelf.LaysM
import Derived.Test.YtekanffohkeoeaaGreatDoorRows
import Derived.Deep.Slices
import Derived.LaidLaws
import Derived.SizedLaws
import Derived.Test.YtekanffohkeoeaaGreatDoorBkP
import Derived.Test.YtekanffohkeoeaaGreatDoorRwW
import Derived.Test.YtekanffohkeoeaaGreatDoorLex
namespace Go.Proofs.YtekanffohkeoeaaGreatDoor
open Go.ChangeShapes Go.WideShapes Go.ChangeAt Go.RowKit
open Go.Proofs.Tryz renaming prog → ah, underlying9 → ck, underlying2 → de, underlying3 → cI, underlying4 → cR, underlying63 → dt, underlying259 → dE, underlying24 → cY
open Go.DataW renaming trod → bH, trod_string → dJ, trod_int → cF, trod_array → ei, trod_struct → du, trod_bool → cV
open Go.DataW.agg renaming injEq → db
open List.cons renaming injEq → cZ
open Go.DataW.lit renaming injEq → dS
open Go.Lit.int renaming injEq → eJ
open Go.Lib renaming VarReads → eP
open Option.some renaming inj → an
open Prod.mk renaming injEq → bD
open Option renaming map_eq_some_iff → cj
open Go.Lib.laidMet renaming reads → cQ
open List renaming mem_cons_self → aT, mem_cons_of_mem → aK, mem_map → fB, mem_cons → aI, not_mem_nil → bG, map_cons → bL, length_cons → aG, length_append → ao, range → ej, mem_map_of_mem → fL, mem_range → dL, sum_cons → fo, length_map → aQ, eq_nil_of_length_eq_zero → cu, drop_eq_getElem_cons → eW, length_drop → bz
open Prod renaming fst → fP
open Nat renaming zero_add → fg, lt_or_ge → bZ
open Go.Instr renaming index → bR, slice → fN
open Bool renaming eq_iff_iff → bh
open Go renaming bodyPost_ret → aU, results → aV
set_option maxRecDepth 100000
set_option maxHeartbeats 3200000
theorem own:ownKnob ah.godebug=none:=by kernel_rfl
theorem cells9:ah.cellsOf 9=1:=by kernel_rfl
theorem cells2:ah.cellsOf 2=1:=by kernel_rfl
theorem cells3:ah.cellsOf 3=1:=by kernel_rfl
theorem text_of{s:ByteArray}{l:List UInt8}(h:s.data.toList=l):s=⟨l.toArray⟩:=xF s l h
variable {f0:Field}{f1:Field}{b:Int}{t:TypeId}{cs:List Value}{fuel:Nat}{held:Bool}{sp:Nat->Bool}{base:Nat}{W:World}{H:Type}
theorem vz{enc:TypeId×Value->H}{x:DataW H×List MemPlace}{t1:TypeId}{a:List UInt8}
  (hu:ah.underlying t=some (.struct #[f0,f1])) (hf0:f0.type=9) (ho0:f0.offset=0) (hf1:f1.type=t1) (ho1:f1.offset=1) (ht:ah.underlying t1=some (.int .i64)) (hc:ah.cellsOf t1=1)
  (h:bH enc ah W base sp held fuel t cs=some x) (hx:x.1=.agg [.lit (.string a),.lit (.int .i64 b)]):cs[0]? =some (.string ⟨a.toArray⟩)/\cs[1]? =some (.int .i64 b):=by
 obtain⟨y0,y1,n,rfl,_,h0,h1⟩:=trod_struct2 hu h;simp only[db,cZ,and_true]at hx;rw[hf0,ho0]at h0;rw[hf1,ho1]at h1;obtain⟨z0,c0,e0,_⟩:=dJ ck h0;obtain⟨z1,c1,e1,_⟩:=cF ht h1;rw[e0,e1]at hx;simp only[dS,eJ,Lit.string.injEq,true_and]at hx;obtain⟨q,rfl⟩:=hx;rw[text_of q]at c0;rw[cells9]at c0;rw[hc]at c1
 constructor
 ·have:=congrArg (·[0]?) c0
  simpa[List.getElem?_take,List.getElem?_drop]using this
 ·have:=congrArg (·[0]?) c1
  simpa[List.getElem?_take,List.getElem?_drop]using this
theorem NA{enc:TypeId×Value->H}{x:DataW H×List MemPlace}{a:Int}
  (hu:ah.underlying t=some (.struct #[f0,f1])) (hf0:f0.type=2) (ho0:f0.offset=0) (hf1:f1.type=2) (ho1:f1.offset=1)
  (h:bH enc ah W base sp held fuel t cs=some x) (hx:x.1=.agg [.lit (.int .i64 a),.lit (.int .i64 b)]):cs[0]? =some (.int .i64 a)/\cs[1]? =some (.int .i64 b):=by
 obtain⟨y0,y1,n,rfl,_,h0,h1⟩:=trod_struct2 hu h;simp only[db,cZ,and_true]at hx;rw[hf0,ho0]at h0;rw[hf1,ho1]at h1;obtain⟨z0,c0,e0,_⟩:=cF de h0;obtain⟨z1,c1,e1,_⟩:=cF de h1;rw[e0,e1]at hx;simp only[dS,eJ,true_and]at hx;obtain⟨rfl,rfl⟩:=hx;rw[cells2]at c0 c1
 constructor
 ·have:=congrArg (·[0]?) c0
  simpa[List.getElem?_take,List.getElem?_drop]using this
 ·have:=congrArg (·[0]?) c1
  simpa[List.getElem?_take,List.getElem?_drop]using this
variable {n:Nat}{ty:TypeId}{ety:TypeId}{g:Nat}{name:String}
theorem qO(rows:List (DataW Unit×Value×Value))(hg:ah.globalNamed name=some g)(hty:(ah.globals[g]?).map (·.type)=some ty)
  (hu:ah.underlying ty=some (.array n ety)) (hc:ah.cellsOf ety=2) (hn:rows.length=n)
  (hrow:∀r∈rows,∀fuel cs x,bH (fun _=>()) ah W 0 (fun _=>true) false fuel ety cs=some x->x.1=r.1->cs[0]? =some r.2.1/\cs[1]? =some r.2.2)
  (h:eP ah W name (.agg (rows.map (·.1)))):TabAt W g (rows.flatMap fun r=>[r.2.1,r.2.2]):=by
 obtain⟨g',t',cs,fuel,p,h1,h2,h3,h4⟩:=h;obtain rfl:=an (hg.symm.trans h1);obtain rfl:=an (hty.symm.trans h2);obtain⟨xs,m,_,hx,hl,hxn,hi⟩:=ei hu h4;rw[hc]at hi;simp only[bD]at hx
 have hmap:xs.map (·.1)=rows.map (·.1):=by
  have:=hx.1;rw[db]at this;exact this.symm
 have each:∀i (r:DataW Unit×Value×Value),rows[i]? =some r->cs.toList[i*2]? =some r.2.1/\cs.toList[i*2+1]? =some r.2.2:=fun i r hr=>by
  have hin:i<n:=by rw[<-hn];exact(List.getElem?_eq_some_iff.1 hr).1
  have e:(xs.map (·.1))[i]? =some r.1:=by rw[hmap,List.getElem?_map,hr];rfl
  obtain⟨x,hxi,hxe⟩:∃x,xs[i]? =some x/\x.1=r.1:=by
   rw[List.getElem?_map,cj]at e;exact e
  have hh:=hi i hin;rw[hxi]at hh;obtain⟨c0,c1⟩:=hrow r (List.mem_of_getElem? hr) _ _ x hh hxe
  constructor
  ·simpa[List.getElem?_take,List.getElem?_drop]using c0
  ·simpa[List.getElem?_take,List.getElem?_drop]using c1
 intro k v hk;have hcell:=World.var?_cell hg h3 k;rw[show W.cell? ⟨g,k,none⟩=cs[k]? from by simpa using hcell]
 have key:∀(rs:List (DataW Unit×Value×Value))(k:Nat)(v:Value),(rs.flatMap fun r=>[r.2.1,r.2.2])[k]? =some v->∃i r,rs[i]? =some r/\((k=i*2/\v=r.2.1)\/(k=i*2+1/\v=r.2.2)):=by
  intro rs
  induction rs with
  |nil=>intro k v h;simp at h
  |cons r rs ih=>
   intro k v h
   match k,h with
   |0,h=>exact⟨0,r,rfl,.inl ⟨rfl,by simpa using h.symm⟩⟩
   |1,h=>exact⟨0,r,rfl,.inr ⟨rfl,by simpa using h.symm⟩⟩
   |k+2,h=>
    obtain⟨i,r',h1,h2⟩:=ih k v (by simpa using h);refine⟨i+1,r',by simpa using h1,?_⟩
    rcases h2 with⟨h2,h3⟩|⟨h2,h3⟩
    ·exact .inl ⟨by omega,h3⟩
    ·exact .inr ⟨by omega,h3⟩
 obtain⟨i,r,hr,⟨rfl,rfl⟩|⟨rfl,rfl⟩⟩:=key rows k v hk
 ·have:=(each i r hr).1
  simpa using this
 ·have:=(each i r hr).2
  simpa using this
theorem Bt(rows:List (List UInt8))(hg:ah.globalNamed name=some g)(hty:(ah.globals[g]?).map (·.type)=some ty)
  (hu:ah.underlying ty=some (.array n 9)) (hn:rows.length=n)
  (h:eP ah W name (.agg (rows.map fun r=>.lit (.string r)))):TabAt W g (rows.map fun r=>.string ⟨r.toArray⟩):=by
 obtain⟨g',t',cs,fuel,p,h1,h2,h3,h4⟩:=h;obtain rfl:=an (hg.symm.trans h1);obtain rfl:=an (hty.symm.trans h2);obtain⟨xs,m,_,hx,hl,hxn,hi⟩:=ei hu h4;rw[cells9]at hi;simp only[bD]at hx
 have hmap:xs.map (·.1)=rows.map fun r=>.lit (.string r):=by
  have:=hx.1;rw[db]at this;exact this.symm
 intro k v hk;have hcell:=World.var?_cell hg h3 k;rw[show W.cell? ⟨g,k,none⟩=cs[k]? from by simpa using hcell];rw[List.getElem?_map,cj]at hk;obtain⟨r,hr,rfl⟩:=hk;have hin:k<n:=by rw[<-hn];exact(List.getElem?_eq_some_iff.1 hr).1
 have e:(xs.map (·.1))[k]? =some (.lit (.string r)):=by rw[hmap,List.getElem?_map,hr];rfl
 obtain⟨x,hxi,hxe⟩:∃x,xs[k]? =some x/\x.1=.lit (.string r):=by
  rw[List.getElem?_map,cj]at e;exact e
 have hh:=hi k hin;rw[hxi]at hh;obtain⟨z0,c0,e0,_⟩:=dJ ck hh;rw[e0]at hxe;simp only[dS,Lit.string.injEq]at hxe;rw[text_of hxe]at c0;have:=congrArg (·[0]?) c0
 simpa[List.getElem?_take,List.getElem?_drop]using this
theorem GJ{enc:TypeId×Value->H}{x:DataW H×List MemPlace}{a d:Int}{c:List UInt8}{f2 f3:Field}
  (hu:ah.underlying t=some (.struct #[f0,f1,f2,f3])) (hf0:f0.type=3) (ho0:f0.offset=0) (hf1:f1.type=3) (ho1:f1.offset=1) (hf2:f2.type=9) (ho2:f2.offset=2) (hf3:f3.type=2) (ho3:f3.offset=3)
  (h:bH enc ah W base sp held fuel t cs=some x) (hx:x.1=.agg [.lit (.int .i64 a),.lit (.int .i64 b),.lit (.string c),.lit (.int .i64 d)]):cs[0]? =some (.int .i64 a)/\cs[1]? =some (.int .i64 b)/\cs[2]? =some (.string ⟨c.toArray⟩)/\cs[3]? =some (.int .i64 d):=by
 obtain⟨y0,y1,y2,y3,n,rfl,_,h0,h1,h2,h3⟩:=Go.Joins.trod_struct4 hu h;simp only[db,cZ,and_true]at hx;rw[hf0,ho0]at h0;rw[hf1,ho1]at h1;rw[hf2,ho2]at h2;rw[hf3,ho3]at h3;obtain⟨z0,c0,e0,_⟩:=cF cI h0;obtain⟨z1,c1,e1,_⟩:=cF cI h1;obtain⟨z2,c2,e2,_⟩:=dJ ck h2;obtain⟨z3,c3,e3,_⟩:=cF de h3;rw[e0,e1,e2,e3]at hx;simp only[dS,eJ,Lit.string.injEq,true_and]at hx;obtain⟨rfl,rfl,q,rfl⟩:=hx;rw[text_of q]at c2;rw[cells3]at c0 c1;rw[cells9]at c2;rw[cells2]at c3;refine⟨?_,?_,?_,?_⟩
 ·have:=congrArg (·[0]?) c0
  simpa[List.getElem?_take,List.getElem?_drop]using this
 ·have:=congrArg (·[0]?) c1
  simpa[List.getElem?_take,List.getElem?_drop]using this
 ·have:=congrArg (·[0]?) c2
  simpa[List.getElem?_take,List.getElem?_drop]using this
 ·have:=congrArg (·[0]?) c3
  simpa[List.getElem?_take,List.getElem?_drop]using this
theorem J5(rows:List (DataW Unit×Value×Value×Value×Value))(hg:ah.globalNamed name=some g)(hty:(ah.globals[g]?).map (·.type)=some ty)
  (hu:ah.underlying ty=some (.array n ety)) (hc:ah.cellsOf ety=4) (hn:rows.length=n)
  (hrow:∀r∈rows,∀fuel cs x,bH (fun _=>()) ah W 0 (fun _=>true) false fuel ety cs=some x->x.1=r.1->cs[0]? =some r.2.1/\cs[1]? =some r.2.2.1/\cs[2]? =some r.2.2.2.1/\cs[3]? =some r.2.2.2.2)
  (h:eP ah W name (.agg (rows.map (·.1)))):TabAt W g (rows.flatMap fun r=>[r.2.1,r.2.2.1,r.2.2.2.1,r.2.2.2.2]):=by
 obtain⟨g',t',cs,fuel,p,h1,h2,h3,h4⟩:=h;obtain rfl:=an (hg.symm.trans h1);obtain rfl:=an (hty.symm.trans h2);obtain⟨xs,m,_,hx,hl,hxn,hi⟩:=ei hu h4;rw[hc]at hi;simp only[bD]at hx
 have hmap:xs.map (·.1)=rows.map (·.1):=by
  have:=hx.1;rw[db]at this;exact this.symm
 have each:∀i (r:DataW Unit×Value×Value×Value×Value),rows[i]? =some r->cs.toList[i*4]? =some r.2.1/\cs.toList[i*4+1]? =some r.2.2.1/\cs.toList[i*4+2]? =some r.2.2.2.1/\cs.toList[i*4+3]? =some r.2.2.2.2:=fun i r hr=>by
  have hin:i<n:=by rw[<-hn];exact(List.getElem?_eq_some_iff.1 hr).1
  have e:(xs.map (·.1))[i]? =some r.1:=by rw[hmap,List.getElem?_map,hr];rfl
  obtain⟨x,hxi,hxe⟩:∃x,xs[i]? =some x/\x.1=r.1:=by
   rw[List.getElem?_map,cj]at e;exact e
  have hh:=hi i hin;rw[hxi]at hh;obtain⟨c0,c1,c2,c3⟩:=hrow r (List.mem_of_getElem? hr) _ _ x hh hxe;refine⟨?_,?_,?_,?_⟩
  ·simpa[List.getElem?_take,List.getElem?_drop]using c0
  ·simpa[List.getElem?_take,List.getElem?_drop]using c1
  ·simpa[List.getElem?_take,List.getElem?_drop]using c2
  ·simpa[List.getElem?_take,List.getElem?_drop]using c3
 intro k v hk;have hcell:=World.var?_cell hg h3 k;rw[show W.cell? ⟨g,k,none⟩=cs[k]? from by simpa using hcell]
 have key:∀(rs:List (DataW Unit×Value×Value×Value×Value))(k:Nat)(v:Value),(rs.flatMap fun r=>[r.2.1,r.2.2.1,r.2.2.2.1,r.2.2.2.2])[k]? =some v->∃i r,rs[i]? =some r/\((k=i*4/\v=r.2.1)\/(k=i*4+1/\v=r.2.2.1)\/(k=i*4+2/\v=r.2.2.2.1)\/(k=i*4+3/\v=r.2.2.2.2)):=by
  intro rs
  induction rs with
  |nil=>intro k v h;simp at h
  |cons r rs ih=>
   intro k v h
   match k,h with
   |0,h=>exact⟨0,r,rfl,.inl ⟨rfl,by simpa using h.symm⟩⟩
   |1,h=>exact⟨0,r,rfl,.inr (.inl ⟨rfl,by simpa using h.symm⟩)⟩
   |2,h=>exact⟨0,r,rfl,.inr (.inr (.inl ⟨rfl,by simpa using h.symm⟩))⟩
   |3,h=>exact⟨0,r,rfl,.inr (.inr (.inr ⟨rfl,by simpa using h.symm⟩))⟩
   |k+4,h=>
    obtain⟨i,r',h1,h2⟩:=ih k v (by simpa using h);refine⟨i+1,r',by simpa using h1,?_⟩
    rcases h2 with⟨h2,h3⟩|⟨h2,h3⟩|⟨h2,h3⟩|⟨h2,h3⟩
    ·exact .inl ⟨by omega,h3⟩
    ·exact .inr (.inl ⟨by omega,h3⟩)
    ·exact .inr (.inr (.inl ⟨by omega,h3⟩))
    ·exact .inr (.inr (.inr ⟨by omega,h3⟩))
 obtain⟨i,r,hr,⟨rfl,rfl⟩|⟨rfl,rfl⟩|⟨rfl,rfl⟩|⟨rfl,rfl⟩⟩:=key rows k v hk
 ·have:=(each i r hr).1
  simpa using this
 ·have:=(each i r hr).2.1
  simpa using this
 ·have:=(each i r hr).2.2.1
  simpa using this
 ·have:=(each i r hr).2.2.2
  simpa using this
theorem J6(W:World)(h:W.ShapedOpen ah):∃m,W.cell? ⟨9,0,none⟩=some (.int .i64 m):=
 Go.Proofs.cell_of_shapedOpen_int (zero:=#[.int .i64 0]) (t:=3) h (of_decide_eq_true (by kernel_rfl)) (by kernel_rfl) rfl (by kernel_rfl) (by kernel_rfl) cI
def pD(s:List UInt8)(n:Int):DataW Unit×Value×Value:=(.agg [.lit (.string s),.lit (.int .i64 n)],.string ⟨s.toArray⟩,.int .i64 n)
def Fc(a b:Int):DataW Unit×Value×Value:=(.agg [.lit (.int .i64 a),.lit (.int .i64 b)],.int .i64 a,.int .i64 b)
def NB(r:Int×Int×Bs×Int):DataW Unit×Value×Value×Value×Value:=(.agg [.lit (.int .i64 r.1),.lit (.int .i64 r.2.1),.lit (.string r.2.2.1),.lit (.int .i64 r.2.2.2)],.int .i64 r.1,.int .i64 r.2.1,.string ⟨r.2.2.1.toArray⟩,.int .i64 r.2.2.2)
abbrev zJ:List (String×DataW Unit):=[("capstan/num.spans",Rows.laid_capstan_num_spans),("capstan/expr.keywords",Rows.laid_capstan_expr_keywords),("capstan/expr.operations",Rows.laid_capstan_expr_operations),("capstan/expr.conversions",Rows.laid_capstan_expr_conversions),("capstan/lex.signs",Rows.laid_capstan_lex_signs),("capstan/lex.bases",Rows.laid_capstan_lex_bases),("capstan/lex.typeNames",Rows.laid_capstan_lex_typeNames),("capstan/lex.units",Rows.laid_capstan_lex_units),("capstan/stmt.errToken",Rows.laid_capstan_stmt_errToken),("capstan/stmt.errExpression",Rows.laid_capstan_stmt_errExpression),("capstan/stmt.errDepth",Rows.laid_capstan_stmt_errDepth),("capstan/stmt.errMany",Rows.laid_capstan_stmt_errMany),("capstan/stmt.namings",Rows.laid_capstan_stmt_namings)]
theorem Qv:(iK.map NB).flatMap (fun r=>[r.2.1,r.2.2.1,r.2.2.2.1,r.2.2.2.2])=nc:=by
 unfold nc;rw[List.flatMap_map];rfl
theorem Qw:(ki.map fun r=>pD r.1 r.2).flatMap (fun r=>[r.2.1,r.2.2])=ov:=by
 unfold ov;rw[List.flatMap_map];rfl
theorem Fe(h':laidMetH ah zJ W)(hs:W.ShapedOpen ah):kZ W:=by
 have hh:laidMet ah zJ W:=h';have r1:=cQ hh (aT);have r2:=cQ hh (aK _ aT);have r3:=cQ hh (aK _ (aK _ aT));have r4:=cQ hh (aK _ (aK _ (aK _ aT)));have r5:=cQ hh (aK _ (aK _ (aK _ (aK _ aT))));have r6:=cQ hh (aK _ (aK _ (aK _ (aK _ (aK _ aT)))));have r7:=cQ hh (aK _ (aK _ (aK _ (aK _ (aK _ (aK _ aT))))));have r8:=cQ hh (aK _ (aK _ (aK _ (aK _ (aK _ (aK _ (aK _ aT)))))));refine⟨?_,?_,?_,?_,?_,?_,?_,J6 W hs,?_⟩
 ·rw[<-Qw]
  exact qO (g:=12) (ty:=251) (ety:=227) (n:=3) (ki.map fun r=>pD r.1 r.2) (by kernel_rfl) (by kernel_rfl) Tryz.underlying251 (by kernel_rfl) rfl
   (fun r hr fuel cs x hx hxe=>by
    obtain⟨q,_,rfl⟩:=fB.1 hr
    exact vz Tryz.underlying227 rfl rfl rfl rfl cI cells3 hx hxe) r4
 ·rw[<-Qv]
  exact J5 (g:=13) (ty:=252) (ety:=231) (n:=17) (iK.map NB) (by kernel_rfl) (by kernel_rfl) Tryz.underlying252 (by kernel_rfl) rfl
   (fun r hr fuel cs x hx hxe=>by
    obtain⟨q,_,rfl⟩:=fB.1 hr
    exact GJ Tryz.underlying231 rfl rfl rfl rfl rfl rfl rfl rfl hx hxe) r3
 ·exact Bt (g:=5) (ty:=171) (n:=51) Dq (by kernel_rfl) (by kernel_rfl) Tryz.underlying171 rfl r2
 ·exact qO (g:=6) (ty:=191) (ety:=190) (n:=3) [pD [50,35] 2,pD [56,35] 8,pD [49,54,35] 16] (by kernel_rfl) (by kernel_rfl) Tryz.underlying191 (by kernel_rfl) rfl
   (fun r hr fuel cs x hx hxe=>by
    simp only[aI,bG,or_false]at hr
    rcases hr with rfl|rfl|rfl <;> exact vz Tryz.underlying190 rfl rfl rfl rfl de cells2 hx hxe) r6
 ·exact Bt (g:=7) (ty:=195) (n:=22) [[58,61],[60,61],[62,61],[60,62],[42,42],[46,46],[40],[41],[91],[93],[44],[59],[58],[46],[43],[45],[42],[47],[61],[60],[62],[38]] (by kernel_rfl) (by kernel_rfl) Tryz.underlying195 rfl r5
 ·exact qO (g:=11) (ty:=248) (ety:=247) (n:=5) [Fc 0 0,Fc 0 1,Fc (-32768) 32767,Fc (-2147483648) 2147483647,Fc (-2147483648) 2147483647] (by kernel_rfl) (by kernel_rfl) Tryz.underlying248 (by kernel_rfl) rfl
   (fun r hr fuel cs x hx hxe=>by
    simp only[aI,bG,or_false]at hr
    rcases hr with rfl|rfl|rfl|rfl|rfl <;> exact NA Tryz.underlying247 rfl rfl rfl rfl hx hxe) r1
 ·exact qO (g:=8) (ty:=219) (ety:=218) (n:=5) [pD [66,79,79,76] 1,pD [73,78,84] 2,pD [68,73,78,84] 3,pD [84] 4,pD [84,73,77,69] 4] (by kernel_rfl) (by kernel_rfl) Tryz.underlying219 (by kernel_rfl) rfl
   (fun r hr fuel cs x hx hxe=>by
    simp only[aI,bG,or_false]at hr
    rcases hr with rfl|rfl|rfl|rfl|rfl <;> exact vz Tryz.underlying218 rfl rfl rfl rfl cI cells3 hx hxe) r7
 ·exact qO (g:=10) (ty:=245) (ety:=244) (n:=5) [pD [68] 86400000,pD [72] 3600000,pD [77] 60000,pD [83] 1000,pD [77,83] 1] (by kernel_rfl) (by kernel_rfl) Tryz.underlying245 (by kernel_rfl) rfl
   (fun r hr fuel cs x hx hxe=>by
    simp only[aI,bG,or_false]at hr
    rcases hr with rfl|rfl|rfl|rfl|rfl <;> exact vz Tryz.underlying244 rfl rfl rfl rfl de cells2 hx hxe) r8
variable {c:Nat}
theorem ND(rows:List (DataW Unit×List Value))(hg:ah.globalNamed name=some g)(hty:(ah.globals[g]?).map (·.type)=some ty)
  (hu:ah.underlying ty=some (.array n ety)) (hc:ah.cellsOf ety=c) (hn:rows.length=n) (hlen:∀r∈rows,r.2.length=c)
  (hrow:∀r∈rows,∀fuel cs x,bH (fun _=>()) ah W 0 (fun _=>true) false fuel ety cs=some x->x.1=r.1->cs=r.2)
  (h:eP ah W name (.agg (rows.map (·.1)))):TabAt W g (rows.flatMap (·.2)):=by
 obtain⟨g',t',cs,fuel,p,h1,h2,h3,h4⟩:=h;obtain rfl:=an (hg.symm.trans h1);obtain rfl:=an (hty.symm.trans h2);obtain⟨xs,m,_,hx,hl,hxn,hi⟩:=ei hu h4;rw[hc]at hi;simp only[bD]at hx
 have hmap:xs.map (·.1)=rows.map (·.1):=by
  have:=hx.1;rw[db]at this;exact this.symm
 have each:∀i (r:DataW Unit×List Value),rows[i]? =some r->(cs.toList.drop (i*c)).take c=r.2:=fun i r hr=>by
  have hin:i<n:=by rw[<-hn];exact(List.getElem?_eq_some_iff.1 hr).1
  have e:(xs.map (·.1))[i]? =some r.1:=by rw[hmap,List.getElem?_map,hr];rfl
  obtain⟨x,hxi,hxe⟩:∃x,xs[i]? =some x/\x.1=r.1:=by
   rw[List.getElem?_map,cj]at e;exact e
  have hh:=hi i hin;rw[hxi]at hh;exact hrow r (List.mem_of_getElem? hr) _ _ x hh hxe
 intro k v hk;have hcell:=World.var?_cell hg h3 k;rw[show W.cell? ⟨g,k,none⟩=cs[k]? from by simpa using hcell]
 have key:∀(rs:List (DataW Unit×List Value)),(∀r∈rs,r.2.length=c)->∀(k:Nat)(v:Value),(rs.flatMap (·.2))[k]? =some v->∃i r j,rs[i]? =some r/\k=i*c+j/\j<c/\r.2[j]? =some v:=by
  intro rs
  induction rs with
  |nil=>intro _ k v h;simp at h
  |cons r rs ih=>
   intro hl k v h;have hr:=hl r (by simp)
   by_cases hkc:k<c
   ·rw[List.flatMap_cons,List.getElem?_append_left (by omega)]at h;exact⟨0,r,k,rfl,by omega,hkc,h⟩
   ·rw[List.flatMap_cons,List.getElem?_append_right (by omega),hr]at h;obtain⟨i,r',j,h1,h2,h3,h4⟩:=ih (fun x hx=>hl x (by simp[hx])) (k-c) v h;exact⟨i+1,r',j,by simpa using h1,by rw[Nat.add_mul];omega,h3,h4⟩
 obtain⟨i,r,j,hr,rfl,hj,hv⟩:=key rows hlen k v hk;have he:=each i r hr;have:((cs.toList.drop (i*c)).take c)[j]? =some v:=by rw[he];exact hv
 rw[List.getElem?_take_of_lt hj,List.getElem?_drop]at this
 simpa using this
def GK(r:Int×Nm):DataW Unit×List Value:=(.agg [.lit (.int .i64 r.1),.lit (.bool r.2.name),.lit (.bool r.2.idx),.lit (.bool r.2.x),.lit (.bool r.2.y),.lit (.bool r.2.gT),.lit (.bool r.2.body),.lit (.bool r.2.els),.lit (.bool r.2.arms),.lit (.bool r.2.args)],Yw r.1 r.2)
variable {α:Type}
theorem NF{l:List α}(h:l.length=10):∃a b c d e f g i j k,l=[a,b,c,d,e,f,g,i,j,k]:=by
 match l,h with
 |[a,b,c,d,e,f,g,i,j,k],_=>exact⟨a,b,c,d,e,f,g,i,j,k,rfl⟩
theorem oN:ah.cellsOf 4=1:=by kernel_rfl
theorem GL(h':laidMetH ah zJ W):TabAt W 4 nd:=by
 have hh:laidMet ah zJ W:=h';have r13:=cQ (hh.tail.tail.tail.tail.tail.tail.tail.tail.tail.tail.tail.tail) (aT)
 have e:(mS.map GK).flatMap (·.2)=nd:=by
  unfold nd;rw[List.flatMap_map];rfl
 rw[<-e];refine ND (g:=4) (ty:=170) (ety:=129) (n:=9) (c:=10) (mS.map GK) (by kernel_rfl) (by kernel_rfl) Tryz.underlying170 (by kernel_rfl) rfl ?_ ?_ r13
 ·intro r hr;obtain⟨q,_,rfl⟩:=fB.1 hr;rfl
 ·intro r hr fuel cs x hx hxe;obtain⟨q,_,rfl⟩:=fB.1 hr;obtain⟨xs,k,hk,hxy,hcl,hxl,hf⟩:=du Tryz.underlying129 hx;obtain⟨v0,v1,v2,v3,v4,v5,v6,v7,v8,v9,rfl⟩:=NF (hcl.trans (show ah.cellsOf 129=10 by kernel_rfl));obtain⟨y0,y1,y2,y3,y4,y5,y6,y7,y8,y9,rfl⟩:=NF hxl;rw[hxy]at hxe;unfold GK at hxe;simp only[bL,List.map_nil,db,cZ,and_true]at hxe;obtain⟨E0,E1,E2,E3,E4,E5,E6,E7,E8,E9⟩:=hxe;have g0:bH (fun _=>()) ah W 0 (fun _=>true) false k 3 [v0]=some y0:=by simpa[cells3]using hf 0 _ rfl
  have g1:bH (fun _=>()) ah W 0 (fun _=>true) false k 4 [v1]=some y1:=by simpa[oN]using hf 1 _ rfl
  have g2:bH (fun _=>()) ah W 0 (fun _=>true) false k 4 [v2]=some y2:=by simpa[oN]using hf 2 _ rfl
  have g3:bH (fun _=>()) ah W 0 (fun _=>true) false k 4 [v3]=some y3:=by simpa[oN]using hf 3 _ rfl
  have g4:bH (fun _=>()) ah W 0 (fun _=>true) false k 4 [v4]=some y4:=by simpa[oN]using hf 4 _ rfl
  have g5:bH (fun _=>()) ah W 0 (fun _=>true) false k 4 [v5]=some y5:=by simpa[oN]using hf 5 _ rfl
  have g6:bH (fun _=>()) ah W 0 (fun _=>true) false k 4 [v6]=some y6:=by simpa[oN]using hf 6 _ rfl
  have g7:bH (fun _=>()) ah W 0 (fun _=>true) false k 4 [v7]=some y7:=by simpa[oN]using hf 7 _ rfl
  have g8:bH (fun _=>()) ah W 0 (fun _=>true) false k 4 [v8]=some y8:=by simpa[oN]using hf 8 _ rfl
  have g9:bH (fun _=>()) ah W 0 (fun _=>true) false k 4 [v9]=some y9:=by simpa[oN]using hf 9 _ rfl
  obtain⟨z0,c0,e0,_⟩:=cF cI g0;obtain⟨z1,c1,e1⟩:=cV cR g1;obtain⟨z2,c2,e2⟩:=cV cR g2;obtain⟨z3,c3,e3⟩:=cV cR g3;obtain⟨z4,c4,e4⟩:=cV cR g4;obtain⟨z5,c5,e5⟩:=cV cR g5;obtain⟨z6,c6,e6⟩:=cV cR g6;obtain⟨z7,c7,e7⟩:=cV cR g7;obtain⟨z8,c8,e8⟩:=cV cR g8;obtain⟨z9,c9,e9⟩:=cV cR g9;rw[e0]at E0;rw[e1]at E1;rw[e2]at E2;rw[e3]at E3;rw[e4]at E4;rw[e5]at E5;rw[e6]at E6;rw[e7]at E7;rw[e8]at E8;rw[e9]at E9;simp only[dS,eJ,Lit.bool.injEq,true_and]at E0 E1 E2 E3 E4 E5 E6 E7 E8 E9;subst E0;injection c0 with c0
  subst c0;injection c1 with c1
  rw[E1]at c1;subst c1;injection c2 with c2
  rw[E2]at c2;subst c2;injection c3 with c3
  rw[E3]at c3;subst c3;injection c4 with c4
  rw[E4]at c4;subst c4;injection c5 with c5
  rw[E5]at c5;subst c5;injection c6 with c6
  rw[E6]at c6;subst c6;injection c7 with c7
  rw[E7]at c7;subst c7;injection c8 with c8
  rw[E8]at c8;subst c8;injection c9 with c9
  rw[E9]at c9;subst c9;rfl
theorem GM(u:TypeId)(h:ah.typeName? 3 u=some "*errors.errorString"):u=259:=
 typeName_ptr_named (nm:= "errors.errorString") (by rw[show "*"++ "errors.errorString"= "*errors.errorString" by decide];kernel_rfl) (by kernel_rfl) (by decide) u (by rw[show "*"++ "errors.errorString"= "*errors.errorString" by decide];exact h)
theorem zK:ah.cellsOf 282=1:=by kernel_rfl
theorem Ff(h':laidMetH ah zJ W):∃t0 t1 t2 t3,Sc t0 t1 t2 t3 W:=by
 have hh:laidMet ah zJ W:=h';have h8:=hh.tail.tail.tail.tail.tail.tail.tail.tail;obtain⟨a0,a1,s0,s1,c0,c1,u0,u1,hv0,hv1,hc0,hs0,_,hc1,hs1,_,qds,hb0,hb1⟩:=laid_sentinels2 h8 (g0:=0) (g1:=1) (by kernel_rfl) (by kernel_rfl) (by kernel_rfl) (by kernel_rfl) dt GM dE Tryz.underlying282 rfl rfl ck zK cells9;obtain⟨a1',a2,s1',s2,c1',c2,u1',u2,qdt,hv2,hc1',hs1',_,hc2,hs2,_,qdu,hb1',hb2⟩:=laid_sentinels2 h8.tail (g0:=1) (g1:=2) (by kernel_rfl) (by kernel_rfl) (by kernel_rfl) (by kernel_rfl) dt GM dE Tryz.underlying282 rfl rfl ck zK cells9;obtain⟨a2',a3,s2',s3,c2',c3,u2',u3,qdv,hv3,hc2',hs2',_,hc3,hs3,_,qdw,hb2',hb3⟩:=laid_sentinels2 h8.tail.tail (g0:=2) (g1:=3) (by kernel_rfl) (by kernel_rfl) (by kernel_rfl) (by kernel_rfl) dt GM dE Tryz.underlying282 rfl rfl ck zK cells9
 have apart:∀ {a b:Addr}{s t:ByteArray}{x y:List UInt8},W.cell? a=some (.string s)->s.data.toList=x->W.cell? b=some (.string t)->t.data.toList=y->x≠y->a≠b:=fun h1 h2 h3 h4 hne e=>by
  subst e;rw[h1]at h3;have:=an h3;injection this with this
  subst this;exact hne (h2.symm.trans h4)
 have e0:W.cell? ⟨0,0,none⟩=some (ln a0):=by simpa using World.var?_cell (show ah.globalNamed "capstan/stmt.errToken"=some 0 by kernel_rfl) hv0 0
 have e1:W.cell? ⟨1,0,none⟩=some (ln a1):=by simpa using World.var?_cell (show ah.globalNamed "capstan/stmt.errExpression"=some 1 by kernel_rfl) hv1 0
 have e2:W.cell? ⟨2,0,none⟩=some (ln a2):=by simpa using World.var?_cell (show ah.globalNamed "capstan/stmt.errDepth"=some 2 by kernel_rfl) hv2 0
 have e3:W.cell? ⟨3,0,none⟩=some (ln a3):=by simpa using World.var?_cell (show ah.globalNamed "capstan/stmt.errMany"=some 3 by kernel_rfl) hv3 0
 exact⟨a0,a1,a2,a3,e0,e1,e2,e3,⟨_,_,hb0⟩,⟨_,_,hb1⟩,⟨_,_,hb2⟩,⟨_,_,hb3⟩,apart hc1 hs1 hc0 hs0 (by decide),apart hc2 hs2 hc0 hs0 (by decide),apart hc3 hs3 hc0 hs0 (by decide),apart hc2 hs2 hc1 hs1 (by decide),apart hc3 hs3 hc1 hs1 (by decide),apart hc3 hs3 hc2 hs2 (by decide)⟩
structure Vs(W:World):Prop where
 tG:kZ W
 nm:TabAt W 4 nd
 X6:∃t0 t1 t2 t3,Sc t0 t1 t2 t3 W
theorem Um(h':laidMetH ah zJ W)(hs:W.ShapedOpen ah):Vs W:=⟨Fe h' hs,GL h',Ff h'⟩
theorem Vs.below{W':World}(h:Vs W)(hb:Below W.heap.size W W'):Vs W':=by
 obtain⟨t0,t1,t2,t3,hs⟩:=h.X6;have:=h.tG.lt;exact⟨h.tG.below hb h.tG.lt,h.nm.below hb (by omega),t0,t1,t2,t3,hs.below hb⟩
def Zx:ByteArray:=⟨#[97,32,116,111,107,101,110,32,116,104,97,116,32,109,97,121,32,110,111,116,32,115,116,97,110,100,32,116,104,101,114,101]⟩
def Zy:ByteArray:=⟨#[119,104,97,116,32,105,115,32,114,101,102,117,115,101,100,32,97,115,32,97,110,32,101,120,112,114,101,115,115,105,111,110]⟩
def Zz:ByteArray:=⟨#[97,32,115,116,97,116,101,109,101,110,116,32,116,104,97,116,32,105,115,32,116,111,111,32,100,101,101,112]⟩
def ZA:ByteArray:=⟨#[109,111,114,101,32,116,104,97,110,32,116,104,101,114,101,32,109,97,121,32,98,101]⟩
def layGlo(w:World):World:=
 let lay (k:Nat) (t:List Value) (w:World):World:={w with heap:=w.heap.modify k fun
   | .cells _ ty frozen=>.cells t.toArray ty frozen
   |o=>o}
 let n:=w.heap.size
 lay 3 [.iface 259 (.pointer (some ⟨n+3,0,none⟩))] (lay 2 [.iface 259 (.pointer (some ⟨n+2,0,none⟩))] (lay 1 [.iface 259 (.pointer (some ⟨n+1,0,none⟩))] (lay 0 [.iface 259 (.pointer (some ⟨n,0,none⟩))] (lay 13 nc (lay 12 ov (lay 5 su (lay 6 rf (lay 7 oC (lay 11 uG (lay 8 La (lay 10 sU (lay 4 nd ((((w.alloc (.cells #[.string Zx] 282)).alloc (.cells #[.string Zy] 282)).alloc (.cells #[.string Zz] 282)).alloc (.cells #[.string ZA] 282))))))))))))))
theorem Fg(d:DataW H):1<=Rows.uptoBulk d:=by
 match d with
 | .lit (.string b)=>simp[Rows.uptoBulk]
 | .lit (.int k n)=>simp[Rows.uptoBulk]
 | .lit (.bool b)=>simp[Rows.uptoBulk]
 | .lit (.float k n)=>simp[Rows.uptoBulk]
 | .lit .nil=>simp[Rows.uptoBulk]
 | .nil=>simp[Rows.uptoBulk]
 | .ptr d=>simp[Rows.uptoBulk]
 | .slice e s=>simp[Rows.uptoBulk]
 | .agg p=>simp[Rows.uptoBulk]
 | .iface t d=>simp[Rows.uptoBulk]
 | .map e=>simp[Rows.uptoBulk]
 | .held h=>simp[Rows.uptoBulk]
theorem IL(el:List (DataW H)):el.length<=Rows.uptoBulkAll el:=by
 induction el with
 |nil=>simp[Rows.uptoBulkAll]
 |cons d l ih=>have:=Fg d;simp only[aG,Rows.uptoBulkAll];omega
def Rd{H:Type}(enc:TypeId×Value->H)(W:World)(t:TypeId)(cs:List Value)(d:DataW H):Prop:=∃fuel pl,bH enc ah W 0 (fun _=>true) true fuel t cs=some (d,pl)
def Du{α:Type}(R:α->List Value->Prop)(c:Nat):List α->List Value->Prop
 |[],cs=>cs=[]
 |a::l,cs=>∃x r,cs=x++r/\x.length=c/\R a x/\Du R c l r
theorem Du.len{R:α->List Value->Prop}:∀ {l:List α}{cs:List Value},Du R c l cs->cs.length=l.length*c
 |[],cs,h=>by simp only[Du]at h;subst h;simp
 |a::l,cs,h=>by
  simp only[Du]at h;obtain⟨x,r,rfl,h1,_,h2⟩:=h;rw[ao,h1,h2.len,aG,Nat.add_mul];omega
def C0{α:Type}(B:α->Nat)(l:List α):Nat:=(l.map B).sum
theorem vA{enc:TypeId×Value->H}{e:TypeId}{v:Value}{d:DataW H}(hc:ah.cellsOf e=c)(hc0:0<c)(ht:ah.underlying t=some (.slice e))(h:Rd enc W t [v] d)(hb:Rows.uptoBulk d<=1048576)(R:α->List Value->Prop)(B:α->Nat)(each:∀cs' y,Rd enc W e cs' y->cs'.length=c->Rows.uptoBulk y<Rows.uptoBulk d->∃a:α,R a cs'/\B a<=Rows.uptoBulk y):∃(l:List α)(cs:List Value),Sl W Tt c v l.length cs/\Du R c l cs/\C0 B l+1<=Rows.uptoBulk d:=by
 obtain⟨fuel,pl,h⟩:=h
 rcases Deep.open_slice ht h with⟨hcs,hx⟩|⟨a,len,cap,m,n,D,Pl,hcs,_,hl,hm,hmm,hx,hel⟩
 ·obtain rfl:v=.slice none 0 0:=by simpa using hcs
  obtain rfl:d=.nil:=congrArg fP hx;exact⟨[],[],⟨none,0,0,0,rfl,by simp,by simp,fun h=>absurd h (by simp),fun j u hu=>by cases hu⟩,rfl,by simp[C0,Rows.uptoBulk]⟩
 ·obtain rfl:v=.slice (some a) len cap:=by simpa using hcs
  have hd:d=.slice ((ej len).map D) ((ej (m-len)).map fun j=>D (len+j)):=congrArg fP hx;simp only[if_true]at hmm;subst hmm;rw[hc]at hel;have hbd:Rows.uptoBulkAll ((ej len).map D)+1<=Rows.uptoBulk d:=by rw[hd];simp only[Rows.uptoBulk];omega
  have build:∀k i,i+k=len->∃(l:List α)(cs:List Value),l.length=k/\Du R c l cs/\(∀j u,cs[j]? =some u->W.cell? (a.add (i*c+j))=some u)/\C0 B l<=Rows.uptoBulkAll ((ej k).map fun q=>D (i+q)):=by
   intro k
   induction k with
   |zero=>exact fun i _=>⟨[],[],rfl,rfl,fun j u hu=>(by cases hu),by simp[C0]⟩
   |succ k ih=>
    intro i hi;obtain⟨cs',h1,h2⟩:=hel i (by omega);obtain⟨_,hlen,hcell⟩:=World.cells?_some h1
    have hlt:Rows.uptoBulk (D i)<Rows.uptoBulk d:=by
     have hmem:D i∈(ej len).map D:=fL (dL.2 (by omega))
     have:∀(l:List (DataW H)) y,y∈l->Rows.uptoBulk y<=Rows.uptoBulkAll l:=by
      intro l
      induction l with
      |nil=>intro y hy;cases hy
      |cons z l ih2=>
       intro y hy;simp only[Rows.uptoBulkAll]
       rcases aI.1 hy with rfl|hy
       ·omega
       ·have:=ih2 y hy;omega
     have:=this _ _ hmem;omega
    obtain⟨y,hy,hyB⟩:=each cs' (D i) ⟨n,_,h2⟩ hlen hlt;obtain⟨l,cs,k1,k2,k3,k4⟩:=ih (i+1) (by omega);refine⟨y::l,cs'++cs,by simp[k1],⟨cs',cs,rfl,hlen,hy,k2⟩,fun j u hu=>?_,?_⟩
    ·by_cases hj:j<c
     ·rw[List.getElem?_append_left (by omega)]at hu;have hg:=hcell j (by omega);rw[Deep.add_add]at hg;rw[hg];exact hu
     ·rw[List.getElem?_append_right (by omega),hlen]at hu;have:=k3 (j-c) u hu;rw[show(i+1)*c+(j-c)=i*c+j by rw[Nat.add_mul];omega]at this;exact this
    ·rw[List.range_succ_eq_map,bL,List.map_map];simp only[Rows.uptoBulkAll,C0,bL,fo]at k4 ⊢;have e:((fun q=>D (i+q)) ∘ Nat.succ)=fun q=>D (i+1+q):=by funext q;show D (i+(q+1))=D (i+1+q);rw[show i+(q+1)=i+1+q by omega]
     rw[e];simp only[Nat.add_zero];omega
  obtain⟨l,cs,k1,k2,k3,k4⟩:=build len 0 (by omega);have hlen:=IL ((ej len).map D);rw[aQ,List.length_range]at hlen;refine⟨l,cs,?_,k2,?_⟩
  ·rw[k1]
   by_cases hl0:len=0
   ·subst hl0;obtain rfl:=cu k1;simp only[Du]at k2;subst k2;exact⟨some a,0,0,_,rfl,by simp,by simp,fun h=>absurd h (by simp),fun j u hu=>by cases hu⟩
   ·obtain⟨b,off,spot⟩:=a;have hcl:=k2.len;rw[k1]at hcl;have hpos:0<cs.length:=by rw[hcl];exact Nat.mul_pos (by omega) hc0
    have h0:=k3 0 _ (List.getElem?_eq_getElem hpos);have hspot:spot=none:=by simpa[Addr.add]using World.cell?_spot h0
    subst hspot;refine⟨some ⟨b,off,none⟩,b,off,_,rfl,by omega,hcl,fun _=>⟨trivial,rfl⟩,fun j u hu=>?_⟩;have:=k3 j u hu;rw[Addr.add_mid]at this
    simpa using this
  ·have e:(fun q=>D (0+q))=D:=by funext q;rw[fg]
   rw[e]at k4;omega
section
variable {H:Type} {enc:TypeId×Value->H} {W:World}
theorem Rd.Un{v:Value}{d:DataW H}(h:Rd enc W 3 [v] d):∃n,v=.int .i64 n:=by
 obtain⟨fuel,pl,h⟩:=h;obtain⟨z,e,_⟩:=cF cI h;injection e with e
 exact⟨z,e⟩
theorem Rd.Uo{v:Value}{d:DataW H}(h:Rd enc W 2 [v] d):∃n,v=.int .i64 n:=by
 obtain⟨fuel,pl,h⟩:=h;obtain⟨z,e,_⟩:=cF de h;injection e with e
 exact⟨z,e⟩
theorem Rd.str{v:Value}{d:DataW H}(h:Rd enc W 9 [v] d):∃s:ByteArray,v=.string s/\d=.lit (.string s.data.toList):=by
 obtain⟨fuel,pl,h⟩:=h;obtain⟨z,e,E,_⟩:=dJ ck h;injection e with e
 exact⟨z,e,congrArg fP E⟩
theorem C6:ah.cellsOf 2=1:=by kernel_rfl
theorem C7:ah.cellsOf 3=1:=by kernel_rfl
theorem xU:ah.cellsOf 9=1:=by kernel_rfl
theorem zL:ah.cellsOf 24=1:=by kernel_rfl
theorem vB:ah.cellsOf 43=1:=by kernel_rfl
theorem NG:ah.cellsOf 45=1:=by kernel_rfl
theorem NH:ah.cellsOf 46=1:=by kernel_rfl
theorem NI:ah.cellsOf 49=1:=by kernel_rfl
theorem cells42':ah.cellsOf 42=5:=by kernel_rfl
theorem NJ:ah.cellsOf 48=10:=by kernel_rfl
theorem NK:ah.cellsOf 51=2:=by kernel_rfl
theorem NL:ah.cellsOf 75=2:=by kernel_rfl
theorem C8{α:Type}{l:List α}(h:l.length=2):∃a b,l=[a,b]:=by
 match l,h with
 |[a,b],_=>exact⟨a,b,rfl⟩
theorem IM{α:Type}{l:List α}(h:l.length=5):∃a b c d e,l=[a,b,c,d,e]:=by
 match l,h with
 |[a,b,c,d,e],_=>exact⟨a,b,c,d,e,rfl⟩
theorem NM{α:Type}{l:List α}(h:l.length=10):∃a b c d e f g i j k,l=[a,b,c,d,e,f,g,i,j,k]:=by
 match l,h with
 |[a,b,c,d,e,f,g,i,j,k],_=>exact⟨a,b,c,d,e,f,g,i,j,k,rfl⟩
theorem Rd.part{cs:List Value}{d:DataW H}(h:Rd enc W 42 cs d)(hl:cs.length=5):∃y:Pv,cs=Rz y:=by
 obtain⟨fuel,pl,h⟩:=h;obtain⟨xs,k,hk,hxy,_,hxl,hf⟩:=du Tryz.underlying42 h;obtain⟨v0,v1,v2,v3,v4,rfl⟩:=IM hl;obtain⟨y0,y1,y2,y3,y4,rfl⟩:=IM hxl;have g0:bH enc ah W 0 (fun _=>true) true k 3 [v0]=some y0:=by simpa[C7]using hf 0 _ rfl
 have g1:bH enc ah W 0 (fun _=>true) true k 2 [v1]=some y1:=by simpa[C6]using hf 1 _ rfl
 have g2:bH enc ah W 0 (fun _=>true) true k 3 [v2]=some y2:=by simpa[C7]using hf 2 _ rfl
 have g3:bH enc ah W 0 (fun _=>true) true k 9 [v3]=some y3:=by simpa[xU]using hf 3 _ rfl
 have g4:bH enc ah W 0 (fun _=>true) true k 9 [v4]=some y4:=by simpa[xU]using hf 4 _ rfl
 obtain⟨z0,rfl⟩:=Rd.Un (enc:=enc) (W:=W) ⟨k,y0.2,g0⟩;obtain⟨z1,rfl⟩:=Rd.Uo (enc:=enc) (W:=W) ⟨k,y1.2,g1⟩;obtain⟨z2,rfl⟩:=Rd.Un (enc:=enc) (W:=W) ⟨k,y2.2,g2⟩;obtain⟨s3,rfl,_⟩:=Rd.str (enc:=enc) (W:=W) ⟨k,y3.2,g3⟩;obtain⟨s4,rfl,_⟩:=Rd.str (enc:=enc) (W:=W) ⟨k,y4.2,g4⟩;exact⟨⟨z0,z1,z2,s3,s4⟩,rfl⟩
theorem Bu:∀ {l:List Pv}{cs:List Value},Du (fun y c=>c=Rz y) 5 l cs->cs=oE l
 |[],cs,h=>h
 |a::l,cs,h=>by
  simp only[Du]at h;obtain⟨x,r,rfl,_,rfl,h2⟩:=h;rw[oE,Bu h2]
theorem xV{v:Value}{d:DataW H}(h:Rd enc W 43 [v] d)(hb:Rows.uptoBulk d<=1048576):∃x,mg W Tt x v:=by
 obtain⟨l,cs,h1,h2,_⟩:=vA cells42' (by decide) Tryz.underlying43 h hb (fun(y:Pv) c=>c=Rz y) (fun _=>0) (fun cs' y hy hl _=>by
  obtain⟨p,hp⟩:=hy.part hl
  exact⟨p,hp,Nat.zero_le _⟩)
 rw[Bu h2]at h1;exact⟨_,l,rfl,h1⟩
theorem Fh:∀ {l:List Int}{cs:List Value},Du (fun y c=>c=[.int .i64 y]) 1 l cs->cs=l.map fun n=>.int .i64 n
 |[],cs,h=>h
 |a::l,cs,h=>by
  simp only[Du]at h;obtain⟨x,r,rfl,_,rfl,h2⟩:=h;rw[Fh h2];rfl
theorem Qx{v:Value}{d:DataW H}(h:Rd enc W 49 [v] d)(hb:Rows.uptoBulk d<=1048576):∃l,AR W Tt l v:=by
 obtain⟨l,cs,h1,h2,_⟩:=vA C6 (by decide) Tryz.underlying49 h hb (fun(y:Int) c=>c=[.int .i64 y]) (fun _=>0) (fun cs' y hy hl _=>by
  match cs',hl with
  |[x],_=>
   obtain⟨n,rfl⟩:=hy.Uo
   exact⟨n,rfl,Nat.zero_le _⟩)
 rw[Fh h2]at h1;exact⟨l,h1⟩
theorem Fi:∀ {l:List (Bs×List Pt)}{cs:List Value},Du (fun(a:Bs×List Pt) c=>∃nv xv,c=[.string nv,xv]/\nv.data.toList=a.1/\mg W Tt a.2 xv) 2 l cs->Hs W Tt l cs
 |[],cs,h=>h
 |a::l,cs,h=>by
  simp only[Du]at h;obtain⟨x,r,rfl,_,⟨nv,xv,rfl,e1,e2⟩,h2⟩:=h;exact⟨nv,xv,r,rfl,e1,e2,Fi h2⟩
theorem Qy{v:Value}{d:DataW H}(h:Rd enc W 46 [v] d)(hb:Rows.uptoBulk d<=1048576):∃l,BR W Tt l v:=by
 obtain⟨l,cs,h1,h2,_⟩:=vA NL (by decide) Tryz.underlying46 h hb (fun(a:Bs×List Pt) c=>∃nv xv,c=[.string nv,xv]/\nv.data.toList=a.1/\mg W Tt a.2 xv) (fun _=>0) (fun cs' y hy hl hlt=>by
  obtain⟨fuel,pl,h⟩:=hy;obtain⟨xs,k,hk,hxy,_,hxl,hf⟩:=du Tryz.underlying75 h;obtain⟨v0,v1,rfl⟩:=C8 hl;obtain⟨y0,y1,rfl⟩:=C8 hxl;have g0:bH enc ah W 0 (fun _=>true) true k 9 [v0]=some y0:=by simpa[xU]using hf 0 _ rfl
  have g1:bH enc ah W 0 (fun _=>true) true k 43 [v1]=some y1:=by simpa[vB]using hf 1 _ rfl
  have hd:y=.agg [y0.1,y1.1]:=by simpa using congrArg fP hxy
  rw[hd]at hlt;simp only[Rows.uptoBulk,Rows.uptoBulkAll]at hlt;obtain⟨s0,rfl,_⟩:=Rd.str (enc:=enc) (W:=W) ⟨k,y0.2,g0⟩;obtain⟨x1,hx1⟩:=xV (enc:=enc) (W:=W) ⟨k,y1.2,g1⟩ (by omega)
  exact⟨(s0.data.toList,x1),⟨s0,v1,rfl,rfl,hx1⟩,Nat.zero_le _⟩)
 exact⟨l,cs,h1,Fi h2⟩
theorem Fj:∀ {l:List (List Int×List St)}{cs:List Value},Du (Ht W Tt) 2 l cs->qH W Tt l cs
 |[],cs,h=>by simp only[qH];exact h
 |a::l,cs,h=>by
  simp only[Du]at h;obtain⟨x,r,h0,h1,h2,h3⟩:=h;simp only[qH];exact⟨x,r,h0,h1,h2,Fj h3⟩
theorem Bv:∀ {l:List St}{cs:List Value},Du (xp W Tt) 10 l cs->oH W Tt l cs
 |[],cs,h=>by simp only[oH];exact h
 |a::l,cs,h=>by
  simp only[Du]at h;obtain⟨x,r,h0,h1,h2,h3⟩:=h;simp only[oH];exact⟨x,r,h0,h1,h2,Bv h3⟩
theorem Qz(l:List St):C0 jY l=iw l:=by
 induction l with
 |nil=>rfl
 |cons s l ih=>simp only[C0,bL,fo,iw]at ih ⊢;omega
theorem NN(l:List (List Int×List St)):C0 sd l=kM l:=by
 induction l with
 |nil=>rfl
 |cons s l ih=>simp only[C0,bL,fo,kM]at ih ⊢;omega
theorem uj:∀(N:Nat){v:Value}{d:DataW H},Rd enc W 24 [v] d->Rows.uptoBulk d<=N->N<=1048576->∃l,lk W Tt l v/\iw l+1<=Rows.uptoBulk d
 |0,v,d,_,hN,_=>by have:=Fg d;omega
 |N+1,v,d,h,hN,hM=>by
  obtain⟨l,cs,h1,h2,h3⟩:=vA NJ (by decide) cY h (by omega) (xp W Tt) jY (fun cs' y hy hl hlt=>by
   obtain⟨fuel,pl,h⟩:=hy;obtain⟨xs,k,hk,hxy,_,hxl,hf⟩:=du Tryz.underlying48 h;obtain⟨v0,v1,v2,v3,v4,v5,v6,v7,v8,v9,rfl⟩:=NM hl;obtain⟨y0,y1,y2,y3,y4,y5,y6,y7,y8,y9,rfl⟩:=NM hxl;have g0:bH enc ah W 0 (fun _=>true) true k 3 [v0]=some y0:=by simpa[C7]using hf 0 _ rfl
   have g1:bH enc ah W 0 (fun _=>true) true k 9 [v1]=some y1:=by simpa[xU]using hf 1 _ rfl
   have g2:bH enc ah W 0 (fun _=>true) true k 43 [v2]=some y2:=by simpa[vB]using hf 2 _ rfl
   have g3:bH enc ah W 0 (fun _=>true) true k 43 [v3]=some y3:=by simpa[vB]using hf 3 _ rfl
   have g4:bH enc ah W 0 (fun _=>true) true k 43 [v4]=some y4:=by simpa[vB]using hf 4 _ rfl
   have g5:bH enc ah W 0 (fun _=>true) true k 2 [v5]=some y5:=by simpa[C6]using hf 5 _ rfl
   have g6:bH enc ah W 0 (fun _=>true) true k 24 [v6]=some y6:=by simpa[zL]using hf 6 _ rfl
   have g7:bH enc ah W 0 (fun _=>true) true k 24 [v7]=some y7:=by simpa[zL]using hf 7 _ rfl
   have g8:bH enc ah W 0 (fun _=>true) true k 45 [v8]=some y8:=by simpa[NG]using hf 8 _ rfl
   have g9:bH enc ah W 0 (fun _=>true) true k 46 [v9]=some y9:=by simpa[NH]using hf 9 _ rfl
   have hd:y=.agg [y0.1,y1.1,y2.1,y3.1,y4.1,y5.1,y6.1,y7.1,y8.1,y9.1]:=by simpa using congrArg fP hxy
   have hbk:Rows.uptoBulk y=Rows.uptoBulk y0.1+(Rows.uptoBulk y1.1+(Rows.uptoBulk y2.1+(Rows.uptoBulk y3.1+(Rows.uptoBulk y4.1+(Rows.uptoBulk y5.1+(Rows.uptoBulk y6.1+(Rows.uptoBulk y7.1+(Rows.uptoBulk y8.1+(Rows.uptoBulk y9.1+0)))))))))+1:=by rw[hd];simp only[Rows.uptoBulk,Rows.uptoBulkAll]
   obtain⟨z0,rfl⟩:=Rd.Un (enc:=enc) (W:=W) ⟨k,y0.2,g0⟩;obtain⟨s1,rfl,_⟩:=Rd.str (enc:=enc) (W:=W) ⟨k,y1.2,g1⟩;obtain⟨i2,hi2⟩:=xV (enc:=enc) (W:=W) ⟨k,y2.2,g2⟩ (by omega);obtain⟨i3,hi3⟩:=xV (enc:=enc) (W:=W) ⟨k,y3.2,g3⟩ (by omega);obtain⟨i4,hi4⟩:=xV (enc:=enc) (W:=W) ⟨k,y4.2,g4⟩ (by omega);obtain⟨z5,rfl⟩:=Rd.Uo (enc:=enc) (W:=W) ⟨k,y5.2,g5⟩;obtain⟨bd,hbd,cb⟩:=uj N (v:=v6) (d:=y6.1) ⟨k,y6.2,g6⟩ (by omega) (by omega);obtain⟨el,hel,ce⟩:=uj N (v:=v7) (d:=y7.1) ⟨k,y7.2,g7⟩ (by omega) (by omega);obtain⟨ag,hag⟩:=Qy (enc:=enc) (W:=W) ⟨k,y9.2,g9⟩ (by omega)
   obtain⟨ar,ca,q1,q2,q3⟩:=vA (enc:=enc) (W:=W) (v:=v8) (d:=y8.1) NK (by decide) Tryz.underlying45 ⟨k,y8.2,g8⟩ (by omega) (Ht W Tt) sd (fun cs2 u hu hl2 hlt2=>by
    obtain⟨fuel2,pl2,h2⟩:=hu;obtain⟨xs2,k2,hk2,ZC,_,ZD,hf2⟩:=du Tryz.underlying51 h2;obtain⟨w0,w1,rfl⟩:=C8 hl2;obtain⟨u0,u1,rfl⟩:=C8 ZD;have e0:bH enc ah W 0 (fun _=>true) true k2 49 [w0]=some u0:=by simpa[NI]using hf2 0 _ rfl
    have e1:bH enc ah W 0 (fun _=>true) true k2 24 [w1]=some u1:=by simpa[zL]using hf2 1 _ rfl
    have hd2:u=.agg [u0.1,u1.1]:=by simpa using congrArg fP ZC
    have hb2:Rows.uptoBulk u=Rows.uptoBulk u0.1+(Rows.uptoBulk u1.1+0)+1:=by rw[hd2];simp only[Rows.uptoBulk,Rows.uptoBulkAll]
    obtain⟨nl,hnl⟩:=Qx (enc:=enc) (W:=W) ⟨k2,u0.2,e0⟩ (by omega);obtain⟨b2,hb2',cb2⟩:=uj N (v:=w1) (d:=u1.1) ⟨k2,u1.2,e1⟩ (by omega) (by omega);obtain⟨c2,hc2⟩:=hb2';refine⟨(nl,b2),?_,?_⟩
    ·simp only[Ht];exact⟨w0,w1,rfl,hnl,c2,hc2⟩
    ·simp only[sd]
     omega)
   rw[NN]at q3;refine⟨⟨z0,s1.data.toList,i2,i3,i4,z5,bd,el,ar,ag⟩,?_,?_⟩
   ·simp only[xp];exact⟨s1,v2,v3,v4,v6,v7,v8,v9,rfl,rfl,hi2,hi3,hi4,hbd,hel,⟨ca,q1,Fj q2⟩,hag⟩
   ·simp only[jY]
    omega)
  rw[Qz]at h3;exact⟨l,⟨cs,h1,Bv h2⟩,h3⟩
end
theorem laidOut:laidOutB ah=true:=by kernel_rfl
theorem drop_at{l:List UInt8}{k:Nat}(h:k<l.length):l.drop k=l[k]::l.drop (k+1):=eW h
def zM(base:Nat)(l:Bs):Value:=.tuple #[.int .i64 (((pd base false 0 l).1:Nat):Int),.int .i64 ((l.length-(pd base false 0 l).2.length:Nat):Int)]
theorem zN(l:Bs)(hl:l.length<=140737488355328)(base:Nat)(h2:2<=base)(h16:base<=16)(w:World):Calls ah 195 #[.string ⟨l.toArray⟩,.int .i64 (base:Int)] w fun e w'=>e=.returned (zM base l)/\w'=w:=by
 have d:=fun c W=>DF c base h2 h16 W
 have hidx:qes (∀k (h:k<l.length) W,(bR 9 (.string ⟨l.toArray⟩) (.int .i64 (k:Int))).run ah W=.ok (.int .u8 (l[k].toNat:Int)) W):=fun k h W=>re ⟨l.toArray⟩ k l[k] (List.getElem?_eq_getElem h) W
 have hsz:=qet (list_size l);generalize(⟨l.toArray⟩:ByteArray)=s at *;have HB:qes ((2:Int)<=(base:Int)/\(base:Int)<=16):=⟨by omega,by omega⟩
 go_enter Tryz.func195,Tryz.ntmps195;go_wp2_with fail
 go_loop [6,7] (fun n i=>∃k m:Nat,k<=l.length/\i=.int .i64 (k:Int)/\n=.int .i64 (m:Int)/\m<=4294967296/\pd base (decide (k≠0)) m (l.drop k)=pd base false 0 l) (fun _ i=>l.length-(intOf i).toNat)
 case atStart=>exact⟨0,0,by omega,rfl,rfl,by omega,rfl⟩
 case round=>
  obtain⟨k,m,hk,rfl,rfl,hm,hp⟩:=hrel
  by_cases hlt:k<l.length
  ·have x0:=hidx.o k hlt;have hd:=d l[k];have i1:(k:Int)<(s.size:Int):=by have:=hsz.o;omega
   have hp':=qet hp;rw[drop_at hlt]at hp'
   by_cases hw:worth l[k]<base
   ·rw[DD hw]at hd;have hv0:(0:Int)<=((worth l[k]:Nat):Int):=by omega
    have hv1:((worth l[k]:Nat):Int)<16:=by omega
    have hq:=hp'.o;rw[pd,if_pos hw]at hq;have HM:qes (((min (m*base+worth l[k]) 4294967296:Nat):Int)=min ((m:Int)*(base:Int)+((worth l[k]:Nat):Int)) 4294967296):=by show _=_;omega
    generalize worth l[k]=v at *;generalize l[k]=c at *;have hq:=qet hq;have b1:=HB.o;have b2:(m:Int)*(base:Int)<=4294967296*16:=Int.mul_le_mul (by omega) b1.2 (by omega) (by omega);have b3:0<=(m:Int)*(base:Int):=Int.mul_nonneg (by omega) (by omega);go_wp2_with fail;refine(hd _).mono ?_;rintro e w1 ⟨rfl,rfl⟩;go_wp2;refine⟨⟨k+1,min (m*base+v) 4294967296,by omega,by go_num,?_,by omega,?_⟩,?_⟩
    ·congr 1
     rw[HM.o]
    ·rw[decide_eq_true (by omega)];exact hq.o
    ·simp only[intOf];omega
   ·rw[DE hw]at hd;have stop:(decide (k≠0)=true/\l[k]=95/\headW base (l.drop (k+1))=true)\/¬ (decide (k≠0)=true/\l[k]=95/\headW base (l.drop (k+1))=true):=Classical.em _
    rcases stop with hg|hg
    ·obtain⟨g1,g2,g3⟩:=hg
     have hk1:k+1<l.length:=by
      rcases bZ (k+1) l.length with h|h
      ·exact h
      ·rw[List.drop_eq_nil_of_le h]at g3;cases g3
     have hw1:worth l[k+1]<base:=by
      rw[drop_at hk1]at g3
      simpa[headW]using g3
     have hd1:=d l[k+1];rw[DD hw1]at hd1;have x1:=hidx.o (k+1) hk1;rw[show((k+1:Nat):Int)=(k:Int)+1 from by omega]at x1;have hq:=hp'.o;rw[pd,if_neg hw,if_pos ⟨g1,g2,g3⟩]at hq;have hq:=qet hq
     have hk0:((k:Int)==0)=false:=by
      have:=of_decide_eq_true g1;rw[beq_eq_false_iff_ne];omega
     have h95:(l[k].toNat:Int)=95:=by rw[g2];rfl
     have j1:((k:Int)+1==(s.size:Int))=false:=by rw[beq_eq_false_iff_ne];have:=hsz.o;omega
     have hv0:¬ ((worth l[k+1]:Nat):Int)<0:=by omega
     generalize((worth l[k+1]:Nat):Int)=v at *;generalize(l[k+1].toNat:Int)=c1 at *;rw[h95]at x0 hd;clear g1 g2 g3 hw hw1 hp' hp h95;go_wp2_with fail;refine(hd _).mono ?_;rintro e w1 ⟨rfl,rfl⟩;go_wp2_with fail;refine(hd1 _).mono ?_;rintro e w1 ⟨rfl,rfl⟩;go_wp2;refine⟨⟨k+1,m,by omega,by go_num,rfl,hm,by rw[decide_eq_true (by omega)];exact hq.o⟩,?_⟩;simp only[intOf];omega
    ·have hq:=hp'.o;rw[pd,if_neg hw,if_neg hg]at hq
     have HQ:=qet (show zM base l=.tuple #[.int .i64 (m:Int),.int .i64 (k:Int)] by
      unfold zM;rw[<-hq];have:l.length-(l[k]::l.drop (k+1)).length=k:=by rw[aG,bz];omega
      rw[this])
     clear hq hp' hp
     by_cases g1:k=0
     ·have hk0:((k:Int)==0)=true:=by rw[g1];rfl
      generalize(l[k].toNat:Int)=c at *;clear hg g1;go_wp2_with fail;refine(hd _).mono ?_;rintro e w1 ⟨rfl,rfl⟩;go_wp2;go_ret2;exact⟨by rw[HQ.o];rfl,rfl⟩
     ·have hk0:((k:Int)==0)=false:=by rw[beq_eq_false_iff_ne];omega
      by_cases g2:l[k]=95
      ·have h95:(l[k].toNat:Int)=95:=by rw[g2];rfl
       rw[h95]at x0 hd
       by_cases hk1:k+1<l.length
       ·have hw1:¬worth l[k+1]<base:=fun h=>hg ⟨decide_eq_true g1,g2,by rw[drop_at hk1];exact decide_eq_true h⟩
        have hd1:=d l[k+1];rw[DE hw1]at hd1;have x1:=hidx.o (k+1) hk1;rw[show((k+1:Nat):Int)=(k:Int)+1 from by omega]at x1;have j1:((k:Int)+1==(s.size:Int))=false:=by rw[beq_eq_false_iff_ne];have:=hsz.o;omega
        generalize(l[k+1].toNat:Int)=c1 at *;clear hg hw1 g2 h95;go_wp2_with fail;refine(hd _).mono ?_;rintro e w1 ⟨rfl,rfl⟩;go_wp2_with fail;refine(hd1 _).mono ?_;rintro e w1 ⟨rfl,rfl⟩;go_wp2;go_ret2;exact⟨by rw[HQ.o];rfl,rfl⟩
       ·have j1:((k:Int)+1==(s.size:Int))=true:=by rw[beq_iff_eq];have:=hsz.o;omega
        clear hg g2 h95;go_wp2_with fail;refine(hd _).mono ?_;rintro e w1 ⟨rfl,rfl⟩;go_wp2;go_ret2;exact⟨by rw[HQ.o];rfl,rfl⟩
      ·have h95:¬ (l[k].toNat:Int)=95:=fun h=>g2 (AP.2 h)
       generalize(l[k].toNat:Int)=c at *;clear hg g2;go_wp2_with fail;refine(hd _).mono ?_;rintro e w1 ⟨rfl,rfl⟩;go_wp2;go_ret2;exact⟨by rw[HQ.o];rfl,rfl⟩
  ·obtain rfl:k=l.length:=by omega
   have i1:¬ (l.length:Int)<(s.size:Int):=by have:=hsz.o;omega
   have HQ:=qet (show zM base l=.tuple #[.int .i64 (m:Int),.int .i64 (l.length:Int)] by
    unfold zM;rw[<-hp,List.drop_length,pd]
    rfl)
   clear hp;go_wp2;go_ret2;exact⟨by rw[HQ.o];rfl,rfl⟩
def qz(base:Nat)(l:Bs):Value:=.tuple #[.int .i64 (((pd base false 0 l).1:Nat):Int),.int .i64 ((l.length-(pd base false 0 l).2.length:Nat):Int),.bool (FR base l)]
theorem uk(l:Bs)(hl:l.length<=140737488355328)(base:Nat)(h2:2<=base)(h16:base<=16)(w:World):Calls ah 165 #[.string ⟨l.toArray⟩,.int .i64 (base:Int)] w fun e w'=>e=.returned (qz base l)/\w'=w:=by
 have c1:=fun W=>zN l hl base h2 h16 W
 obtain⟨k,hk,hd⟩:=yp base l false 0;have hz:l.length-(pd base false 0 l).2.length=k:=by rw[hd,bz];omega
 have c2:=fun W=>yu (l.drop k) W
 have x1:∀W,(fN 9 (.string ⟨l.toArray⟩) (some (.int .i64 (k:Int))) none none).run ah W=.ok (.string ⟨(l.drop k).toArray⟩) W:=fun W=>oX ⟨l.toArray⟩ k (by rw[list_size];exact hk) W
 have HQ:=qet (show qz base l=.tuple #[.int .i64 (((pd base false 0 l).1:Nat):Int),.int .i64 (k:Int),.bool (decide (0<(k:Int))&& !(kh (l.drop k)))] by
  unfold qz FR;rw[hz,hd]
  rw[show decide ((List.drop k l).length<l.length)=decide (0<(k:Int)) by
   rw[bh,decide_eq_true_eq,decide_eq_true_eq,bz]
   omega])
 unfold zM at c1;rw[hz]at c1;generalize(⟨(l.drop k).toArray⟩:ByteArray)=u at *;generalize(⟨l.toArray⟩:ByteArray)=s at *;generalize kh (l.drop k)=g at *;generalize(((pd base false 0 l).1:Nat):Int)=m at *;clear hz hd hk;have hk0:0<=(k:Int):=by omega
 generalize(k:Int)=K at *;go_enter Tryz.func165,Tryz.ntmps165;go_wp2_with fail;refine(c1 _).mono ?_;rintro e w1 ⟨rfl,rfl⟩
 by_cases h0:0<K
 ·go_wp2_with fail;refine(c2 _).mono ?_;rintro e w1 ⟨rfl,rfl⟩;go_wp2;refine aU (v:=qz base l) ?_ rfl ⟨rfl,rfl⟩;rw[HQ.o];simp[aV,Tryz.results165,go_sem,h0]
 ·go_wp2;refine aU (v:=qz base l) ?_ rfl ⟨rfl,rfl⟩;rw[HQ.o];rw[decide_eq_false (by omega)];simp[aV,Tryz.results165,go_sem]
end Go.Proofs.YtekanffohkeoeaaGreatDoor
