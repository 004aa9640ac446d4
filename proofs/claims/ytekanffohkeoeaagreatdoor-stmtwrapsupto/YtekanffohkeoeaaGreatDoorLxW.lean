import Derived.Lib.QuietBelow
import Derived.BigQuiet
import Derived.Test.YtekanffohkeoeaaGreatDoorBkP
import Derived.Test.YtekanffohkeoeaaGreatDoorSignP
import Derived.Test.YtekanffohkeoeaaGreatDoorYiW
namespace Go.Proofs.YtekanffohkeoeaaGreatDoor
open Go.RowKit
open List renaming length_map → aQ, mem_range → dL, drop_eq_getElem_cons → eW, contains_iff_mem → dh, all_eq_true → eZ, mem_map → fB, append → eE, length_cons → aG, take_of_length_le → aX, map_append → bB, mem_cons_self → aT, mem_cons_of_mem → aK, map_cons → bL, sum_cons → fo, mem_singleton → aL, mem_append → aN, take_add_one → cr, take_succ_cons → bF, length_take → bU, length_append → ao, length_singleton → bY, eq_nil_or_concat → dG, concat_eq_append → dH, mem_append_right → cA, length_pos_iff → fK, append_assoc → aO, mem_cons → aI, not_mem_nil → bG, all_cons → cN, append_nil → bm, cons_append → bM
open Go.Region renaming ready → eL
open Option.some renaming inj → an
open Bool renaming and_eq_true → aH, true_and → fu, or_eq_true → fM, false_and → fj, false_eq_true → eX, and_false → fH
open Option renaming map_some → cm
open Go.Proofs.Tryz renaming prog → ah
open Go.RowKit.Below renaming refl → aw
open Nat renaming le_refl → aj, le_trans → aP
open Go renaming heap_alloc_new → aE, redrawn → bI, below_regrown → dz, cell_regrown → bs, Regrown → ep, wp_region_quiet_below → dI, bodyPost_end → aW, results → aV
open Go.ByteArray renaming toList_eq → cB
open Go.Lib renaming alloc_old → bj, cell_of_heap → af
open Go.Sort renaming grow → bk
open Go.Calls renaming regrown_of → cC
open And renaming intro → fw
open Go.World renaming size_alloc → aB
set_option maxRecDepth 100000
set_option maxHeartbeats 12800000
abbrev Sm:=Option Nat×List Nat×List Nat
def N8(ops:Array Oper)(o:Oper):Sm:=(o.dst,o.looksAt ops,(o.after.toList.filter (Region.binds .any)).map (·.on))
def N9(i:Nat)(x y:Sm):Bool:=y.2.2.contains i||((match x.1 with
  |some d=> !y.2.1.contains d&&y.1 !=some d
  |none=>true)&&(match y.1 with
  |some d=> !x.2.1.contains d
  |none=>true))
def Oa:Nat->List Sm->Bool
 |_,[]=>true
 |k,x::l=>x.2.2.all (fun j=>Nat.blt j k)&&(l.all (N9 k x)&&Oa (k+1) l)
theorem Ob{ops:Array Oper}{S:List Sm}(hS:ops.toList.map (N8 ops)=S):∀(fuel k:Nat)(listed:Array Bool),fuel+k=ops.size->listed.size=ops.size->(∀j,j<ops.size->listed[j]? =some (decide (j<k)))->Oa k (S.drop k)=true->Region.lexFrom .any ops fuel k listed=true:=by
 have hSl:S.length=ops.size:=by rw[<-hS,aQ,Array.length_toList]
 have hSg:∀j o,ops[j]? =some o->S[j]? =some (N8 ops o):=fun j o h=>by
  rw[<-hS,List.getElem?_map,Array.getElem?_toList,h];rfl
 intro fuel
 induction fuel with
 |zero=>
  intro k listed hk hl hL _;rw[Region.lexFrom,List.isEmpty_iff];unfold eL;rw[List.filter_eq_nil_iff];intro i hi;have hi':=dL.1 hi;rw[Array.getD_eq_getD_getElem?,hL i hi',decide_eq_true (by omega)];simp
 |succ fuel ih=>
  intro k listed hk hl hL hx;have hks:k<ops.size:=by omega
  obtain⟨o,ho⟩:∃o,ops[k]? =some o:=⟨_,Array.getElem?_eq_getElem hks⟩
  have hdr:S.drop k=N8 ops o::S.drop (k+1):=by
   rw[eW (by omega)];have:=hSg k o ho;rw[List.getElem?_eq_getElem (by omega)]at this;rw[an this]
  rw[hdr,Oa,aH,aH]at hx;obtain⟨h1,h2,h3⟩:=hx;rw[Region.lexFrom,aH,aH];refine⟨⟨?_,?_⟩,?_⟩
  ·rw[dh];unfold eL;rw[List.mem_filter];refine⟨dL.2 hks,?_⟩;rw[Array.getD_eq_getD_getElem?,hL k hks,decide_eq_false (by omega),ho];simp only[Option.getD_some,Bool.not_false,fu,cm];rw[Array.all_eq_true'];intro e he
   by_cases hb:Region.binds .any e=true
   ·have:e.on<k:=by
     have h1':=eZ.1 h1 e.on (fB.2 ⟨e,List.mem_filter.2 ⟨Array.mem_toList_iff.2 he,hb⟩,rfl⟩);rw[Nat.blt_eq]at h1';exact h1'
    rw[Array.getD_eq_getD_getElem?,hL e.on (by omega),decide_eq_true this];simp
   ·simp[hb]
  ·unfold Region.free;simp only[ho];rw[eZ];intro j hj;have hj':=dL.1 hj;rw[Array.getD_eq_getD_getElem?,hL j hj']
   by_cases hjk:j<k
   ·rw[decide_eq_true hjk];simp
   ·by_cases hje:j=k
    ·rw[hje];simp
    ·obtain⟨oj,hoj⟩:∃oj,ops[j]? =some oj:=⟨_,Array.getElem?_eq_getElem hj'⟩
     have hmem:N8 ops oj∈S.drop (k+1):=by
      have:=hSg j oj hoj;apply List.mem_of_getElem? (i:=j-(k+1));rw[List.getElem?_drop,<-this]
      congr 1
      omega
     have hp:=eZ.1 h2 _ hmem;simp only[hoj];unfold N9 at hp;rw[fM]at hp;rw[fM];refine .inr ?_;rw[fM]
     rcases hp with hp|hp
     ·refine .inl ?_;rw[dh]at hp;obtain⟨e,he,hee⟩:=fB.1 hp;obtain⟨he1,he2⟩:=List.mem_filter.1 he;rw[Array.any_eq_true'];exact⟨e,Array.mem_toList_iff.1 he1,by rw[he2,hee];simp⟩
     ·exact .inr hp
  ·refine ih (k+1) _ (by omega) (by rw[Array.size_setIfInBounds];exact hl) (fun j hj=>?_) h3;rw[Array.getElem?_setIfInBounds]
   by_cases hjk:k=j
   ·subst hjk;rw[if_pos rfl,if_pos (by omega),decide_eq_true (by omega)]
   ·rw[if_neg hjk,hL j hj]
    congr 1
    by_cases hlt:j<k
    ·rw[decide_eq_true hlt,decide_eq_true (by omega)]
    ·rw[decide_eq_false hlt,decide_eq_false (by omega)]
theorem QS{ops:Array Oper}{S:List Sm}(hS:ops.toList.map (N8 ops)=S)(h:Oa 0 S=true)(hn:Region.noSelect ops=true):Region.lexB .any ops=true:=by
 unfold Region.lexB;rw[hn,fu];refine Ob hS ops.size 0 _ (by omega) (by simp) (fun j hj=>?_) (by simpa using h);rw[Array.getElem?_replicate,if_pos hj,decide_eq_false (by omega)]
variable {w:World}
theorem Hc{P:Program}{id:Nat}{l1 l2 l:List Oper}{b:Bool}{Q:Exit->Act->World->Prop}{a:Act}(hl:eE l1 l2=l)(k:(Code.region id l.toArray b).wp P Q a w):(Code.region id (eE l1 l2).toArray b).wp P Q a w:=hl ▸ k
variable {α:Type}
theorem QT(l:List α):eE [] l=l:=rfl
theorem Oc{a:α}{l1 l2 l:List α}(h:eE l1 l2=l):eE (a::l1) l2=a::l:=congrArg (List.cons a) h
def So:List Sm:=[(some 11,[4],[]),(some 12,[11],[0]),(some 13,[3,12],[1]),(some 14,[13,12],[2,1]),(some 15,[1,12],[1]),(some 16,[15,12],[4,1]),(some 17,[16,12],[5,1]),(some 18,[1,12],[1]),(some 19,[18,12],[7,1]),(some 20,[19,12],[8,1,1]),(some 21,[14,17,20,12],[3,6,9,9,1]),(some 22,[12,21],[1,10]),(some 23,[22],[11,10]),(some 24,[3,23],[12]),(some 25,[24,23],[13,12]),(some 26,[1,23],[12]),(some 27,[26,23],[15,12]),(some 28,[27,23],[16,12]),(some 29,[28,23],[17,12]),(some 30,[1,23],[12]),(some 31,[30,23],[19,12]),(some 32,[31,23],[20,12]),(some 33,[32,23],[21,12]),(some 34,[33,23],[22,12,12]),(some 35,[1,34],[23]),(some 36,[35,34],[24,23]),(some 37,[36,34],[25,23,23]),(some 38,[34,37,23],[23,26,12]),(some 39,[25,29,38,23],[14,18,27,26,12]),(some 40,[23,39],[12,28]),(some 41,[40],[29,28]),(some 42,[3,41],[30]),(some 43,[42,41],[31,30]),(some 44,[1,41],[30]),(some 45,[44,41],[33,30]),(some 46,[45,41],[34,30]),(some 47,[46,41],[35,30]),(some 48,[1,41],[30]),(some 49,[48,41],[37,30]),(some 50,[49,41],[38,30,30]),(some 51,[43,47,50,41],[32,36,39,39,30]),(some 52,[41,51],[30,40]),(some 53,[52],[41,40]),(some 54,[3,53],[42]),(some 55,[54,53],[43,42]),(some 56,[1,53],[42]),(some 57,[56,53],[45,42]),(some 58,[57,53],[46,42]),(some 59,[58,53],[47,42]),(some 60,[1,53],[42]),(some 61,[60,53],[49,42]),(some 62,[61,53],[50,42,42]),(some 63,[55,59,62,53],[44,48,51,51,42]),(some 64,[53,63],[42,52]),(some 65,[64],[53,52]),(some 66,[3,65],[54]),(some 67,[66,65],[55,54]),(some 68,[1,65],[54]),(some 69,[68,65],[57,54]),(some 70,[69,65],[58,54]),(some 71,[1,65],[54]),(some 72,[71,65],[60,54]),(some 73,[72,65],[61,54]),(some 74,[73,65],[62,54,54]),(some 75,[1,74],[63]),(some 76,[75,74],[64,63]),(some 77,[76,74],[65,63,63]),(some 78,[74,77,65],[63,66,54]),(some 79,[67,70,78,65],[56,59,67,66,54]),(some 80,[65,79],[54,68]),(some 81,[80],[69,68]),(some 82,[3,81],[70]),(some 83,[82,81],[71,70]),(some 84,[1,81],[70]),(some 85,[84,81],[73,70]),(some 86,[85,81],[74,70]),(some 87,[86,81],[75,70]),(some 88,[83,87,81],[72,76,70,70]),(some 89,[81,88],[70,77]),(some 90,[89],[78,77]),(some 91,[3,90],[79]),(some 92,[91,90],[80,79]),(some 93,[1,90],[79]),(some 94,[93,90],[82,79]),(some 95,[94,90],[83,79]),(some 96,[95,90],[84,79]),(some 97,[92,96,90],[81,85,79,79]),(some 98,[90,97],[79,86]),(some 99,[98],[87,86]),(some 100,[3,99],[88]),(some 101,[100,99],[89,88]),(some 102,[1,99],[88]),(some 103,[102,99],[91,88]),(some 104,[103,99],[92,88]),(some 105,[104,99],[93,88]),(some 106,[1,99],[88]),(some 107,[106,99],[95,88]),(some 108,[107,99],[96,88,88]),(some 109,[101,105,108,99],[90,94,97,97,88]),(some 110,[99,109],[88,98]),(some 111,[110],[99,98]),(some 112,[3,111],[100]),(some 113,[112,111],[101,100]),(some 114,[1,111],[100]),(some 115,[114,111],[103,100]),(some 116,[115,111],[104,100]),(some 117,[116,111],[105,100]),(some 118,[1,111],[100]),(some 119,[118,111],[107,100]),(some 120,[119,111],[108,100,100]),(some 121,[113,117,120,111],[102,106,109,109,100]),(some 122,[111,121],[100,110]),(some 2,[122],[111,110,0,1,2,3,4,5,6,7,8,9,10,11,12,13,14,15,16,17,18,19,20,21,22,23,24,25,26,27,28,29,30,31,32,33,34,35,36,37,38,39,40,41,42,43,44,45,46,47,48,49,50,51,52,53,54,55,56,57,58,59,60,61,62,63,64,65,66,67,68,69,70,71,72,73,74,75,76,77,78,79,80,81,82,83,84,85,86,87,88,89,90,91,92,93,94,95,96,97,98,99,100,101,102,103,104,105,106,107,108,109,110,111])]
theorem WI:Oa 0 So=true:=by decide+kernel
theorem Od{R a b:Bool}(h:R=(a&&b)):(a=false/\R=false)\/(a=true/\R=b):=by cases a <;> simp_all
theorem rS(l:List α):((l.length:Int)==0)=l.isEmpty:=by
 cases l with
 |nil=>rfl
 |cons a l=>rw[beq_eq_false_iff_ne.2 (by rw[aG];omega)];rfl
theorem Dd(s:St)(nv:ByteArray)(iv xv yv bv ev av gv:Value)(w:World)(hnm:nv.data.toList=s.name)(hi:mg w Tt s.idx iv)(hx:mg w Tt s.x xv)(hy:mg w Tt s.y yv)(hb:lk w Tt s.body bv)(he:lk w Tt s.els ev)(ha:DL w Tt s.arms av)(hgg:BR w Tt s.args gv)(hg:kZ w)(Fu:TabAt w 4 nd):
  Calls ah 51 #[.agg #[.int .i64 s.kind,.string nv,iv,xv,yv,.int .i64 s.gT,bv,ev,av,gv]] w fun e w'=>e=.returned (.bool (l4 s))/\Below w.heap.size w w':=by
 have B0:=(aw w.heap.size w).alloc (aj _) (.cells #[.int .i64 s.kind,.string nv,iv,xv,yv,.int .i64 s.gT,bv,ev,av,gv] 48);have Sp:=aE w (.cells #[.int .i64 s.kind,.string nv,iv,xv,yv,.int .i64 s.gT,bv,ev,av,gv] 48);have cn:=BS s.kind _ (Fu.below B0 (by have:=hg.lt;omega)) (by have:=hg.lt;have:=B0.size;omega)
 have CW:qes (∀W,Below w.heap.size w W->Calls ah 86 #[.string nv] W fun e w'=>e=.returned (.bool (nameB s.name))/\w'=W):=fun W hW=>by
  have:=oP s.name W (hg.below hW hg.lt).kw;rw[<-hnm]at this ⊢;exact this
 have CI:qes (∀W,Below w.heap.size w W->Calls ah 87 #[iv] W fun e w'=>e=.returned (.bool (lP s.idx))/\Below W.heap.size W w'):=fun W hW=>sz (hi.on (On.below hW)) (hg.below hW hg.lt)
 have CX:qes (∀W,Below w.heap.size w W->Calls ah 87 #[xv] W fun e w'=>e=.returned (.bool (lP s.x))/\Below W.heap.size W w'):=fun W hW=>sz (hx.on (On.below hW)) (hg.below hW hg.lt)
 have CY:qes (∀W,Below w.heap.size w W->Calls ah 87 #[yv] W fun e w'=>e=.returned (.bool (lP s.y))/\Below W.heap.size W w'):=fun W hW=>sz (hy.on (On.below hW)) (hg.below hW hg.lt)
 have CA:qes (∀W,Below w.heap.size w W->Calls ah 89 #[av] W fun e w'=>e=.returned (.bool (lQ s.arms))/\Below W.heap.size W w'):=fun W hW=>An (ha.on (On.below hW))
 have CG:qes (∀W,Below w.heap.size w W->Calls ah 90 #[gv] W fun e w'=>e=.returned (.bool (l9 s.args))/\Below W.heap.size W w'):=fun W hW=>Ao (hgg.on (On.below hW)) (hg.below hW hg.lt)
 have z1:nv.toList.isEmpty=s.name.isEmpty:=by rw[cB,hnm]
 have li:=rS s.idx;have lx:=rS s.x;have ly:=rS s.y;have lb:=rS s.body;have le:=rS s.els;have la:=rS s.arms;have lg:=rS s.args
 obtain⟨k',n,is,hnr,hF⟩:∃(k':Int)(n:Nm)(is:Bool),DN s.kind=.tuple #[Pn k' n,.bool is]/\l4 s=(is&&(kg n.name s.name.isEmpty (nameB s.name)&&(kg n.idx s.idx.isEmpty (s.idx.isEmpty||lP s.idx)&&(kg n.x s.x.isEmpty (lP s.x)&&(kg n.y s.y.isEmpty (lP s.y)&&(kg n.gT (decide (s.gT=0)) (!decide (s.gT=0)&&jk s.gT)&&(kg n.body s.body.isEmpty true&&(kg n.els s.els.isEmpty true&&(kg n.arms s.arms.isEmpty (lQ s.arms)&&kg n.args s.args.isEmpty (l9 s.args)))))))))):=by
  unfold DN l4
  cases qF s.kind with
  |none=>exact⟨0,XJ,false,rfl,rfl⟩
  |some n=>exact⟨s.kind,n,true,rfl,rfl⟩
 rw[hnr]at cn;have HF:=qet hF;clear hnr hF;have zb:(s.gT==0)=decide (s.gT=0):=rfl;have zn:(s.gT !=0)= !decide (s.gT=0):=rfl;obtain⟨xi,hxi,sli⟩:=hi;obtain⟨xx,hxx,slx⟩:=hx;obtain⟨xy,hxy,sly⟩:=hy;obtain⟨ci,slb,-⟩:=hb;obtain⟨ce,sle,-⟩:=he;obtain⟨ca,sla,-⟩:=ha;obtain⟨cg,slg,-⟩:=hgg;obtain⟨ai,bi,oi,pi,rfl,-⟩:=sli.shape;obtain⟨ax,bx,ox,px,rfl,-⟩:=slx.shape;obtain⟨ay,by0,oy,py,rfl,-⟩:=sly.shape;obtain⟨ab,bb,ob,pb,rfl,-⟩:=slb.shape;obtain⟨ae,be,oe,pe,rfl,-⟩:=sle.shape;obtain⟨aa,ba,oa,pa,rfl,-⟩:=sla.shape;obtain⟨ag,bg,og,pg,rfl,-⟩:=slg.shape;rw[<-hxi,aQ]at li;rw[<-hxx,aQ]at lx;rw[<-hxy,aQ]at ly;rw[hxi]at li;rw[hxx]at lx;rw[hxy]at ly;clear sli slx sly slb sle sla slg hg Fu hnm hxi hxx hxy;generalize xi.length=ni at *;generalize xx.length=nx at *;generalize xy.length=ny at *;generalize s.body.length=nb at *;generalize s.els.length=ne at *;generalize s.arms.length=na at *;generalize s.args.length=ng at *;generalize s.idx.isEmpty=ti at *;generalize s.x.isEmpty=tx at *;generalize s.y.isEmpty=ty at *;generalize s.body.isEmpty=tb at *;generalize s.els.isEmpty=te at *;generalize s.arms.isEmpty=ta at *;generalize s.args.isEmpty=tg at *;generalize s.name.isEmpty=tn at *;generalize nameB s.name=rn at *;generalize lP s.idx=ri at *;generalize lP s.x=rx at *;generalize lP s.y=ry at *;generalize lQ s.arms=ra at *;generalize l9 s.args=rg at *;have CB:=uJ s.gT;generalize jk s.gT=rb at *;generalize hsb:decide (s.gT=0)=tz at *;clear hsb;generalize l4 s=R at *;generalize s.gT=sb at *;generalize s.kind=sk at *;have HB0:=qet B0;have wS:=qet Sp;clear B0 Sp;obtain⟨n1,n2,n3,n4,n5,n6,n7,n8,n9⟩:=n;unfold Pn at cn;simp only[]at cn HF;go_enter Tryz.func51,Tryz.ntmps51;go_wp2_with fail;refine cn.mono ?_;rintro e w1 ⟨rfl,hb1⟩;have hz2:=hb1.size;have hz3:w.heap.size<w1.heap.size:=by simp at hz2;omega
 have B1:=HB0.o.trans (hb1.mono HB0.o.size);have k0:w1.heap[w.heap.size]? =some (.cells #[.int .i64 sk,.string nv,.slice ai ni pi,.slice ax nx px,.slice ay ny py,.int .i64 sb,.slice ab nb pb,.slice ae ne pe,.slice aa na pa,.slice ag ng pg] 48):=by rw[hb1.block _ (by simp)];exact wS.o
 have B2:=B1.alloc B1.size (.cells #[.int .i64 k',.bool n1,.bool n2,.bool n3,.bool n4,.bool n5,.bool n6,.bool n7,.bool n8,.bool n9] 129);have k1:=aE w1 (.cells #[.int .i64 k',.bool n1,.bool n2,.bool n3,.bool n4,.bool n5,.bool n6,.bool n7,.bool n8,.bool n9] 129);have k2:(w1.alloc (.cells #[.int .i64 k',.bool n1,.bool n2,.bool n3,.bool n4,.bool n5,.bool n6,.bool n7,.bool n8,.bool n9] 129)).heap[w.heap.size]? =_:=(bj w1 _ w.heap.size hz3).trans k0;have HB2:=qet B2;obtain⟨W,hW⟩:∃W,W=(w1.alloc (.cells #[.int .i64 k',.bool n1,.bool n2,.bool n3,.bool n4,.bool n5,.bool n6,.bool n7,.bool n8,.bool n9] 129)):=⟨_,rfl⟩
 rw[<-hW]at k1 k2 HB2;have GB:qes (∀d os,Below w.heap.size w (bk (bI W d) os)):=fun d os=>HB2.o.trans ((dz W d os).mono HB2.o.size)
 have i1:∀d os,(bk (bI W d) os).cell? ⟨w.heap.size,1,none⟩=some (.string nv):=bs ((af k2 1).trans rfl);have i2:∀d os,(bk (bI W d) os).cell? ⟨w.heap.size,2,none⟩=some (.slice ai ni pi):=bs ((af k2 2).trans rfl);have i3:∀d os,(bk (bI W d) os).cell? ⟨w.heap.size,3,none⟩=some (.slice ax nx px):=bs ((af k2 3).trans rfl);have i4:∀d os,(bk (bI W d) os).cell? ⟨w.heap.size,4,none⟩=some (.slice ay ny py):=bs ((af k2 4).trans rfl);have i5:∀d os,(bk (bI W d) os).cell? ⟨w.heap.size,5,none⟩=some (.int .i64 sb):=bs ((af k2 5).trans rfl);have i6:∀d os,(bk (bI W d) os).cell? ⟨w.heap.size,6,none⟩=some (.slice ab nb pb):=bs ((af k2 6).trans rfl);have i7:∀d os,(bk (bI W d) os).cell? ⟨w.heap.size,7,none⟩=some (.slice ae ne pe):=bs ((af k2 7).trans rfl);have i8:∀d os,(bk (bI W d) os).cell? ⟨w.heap.size,8,none⟩=some (.slice aa na pa):=bs ((af k2 8).trans rfl);have i9:∀d os,(bk (bI W d) os).cell? ⟨w.heap.size,9,none⟩=some (.slice ag ng pg):=bs ((af k2 9).trans rfl);have m1:∀d os,(bk (bI W d) os).cell? ⟨w1.heap.size,1,none⟩=some (.bool n1):=bs ((af k1 1).trans rfl);have m2:∀d os,(bk (bI W d) os).cell? ⟨w1.heap.size,2,none⟩=some (.bool n2):=bs ((af k1 2).trans rfl);have m3:∀d os,(bk (bI W d) os).cell? ⟨w1.heap.size,3,none⟩=some (.bool n3):=bs ((af k1 3).trans rfl);have m4:∀d os,(bk (bI W d) os).cell? ⟨w1.heap.size,4,none⟩=some (.bool n4):=bs ((af k1 4).trans rfl);have m5:∀d os,(bk (bI W d) os).cell? ⟨w1.heap.size,5,none⟩=some (.bool n5):=bs ((af k1 5).trans rfl);have m6:∀d os,(bk (bI W d) os).cell? ⟨w1.heap.size,6,none⟩=some (.bool n6):=bs ((af k1 6).trans rfl);have m7:∀d os,(bk (bI W d) os).cell? ⟨w1.heap.size,7,none⟩=some (.bool n7):=bs ((af k1 7).trans rfl);have m8:∀d os,(bk (bI W d) os).cell? ⟨w1.heap.size,8,none⟩=some (.bool n8):=bs ((af k1 8).trans rfl);have m9:∀d os,(bk (bI W d) os).cell? ⟨w1.heap.size,9,none⟩=some (.bool n9):=bs ((af k1 9).trans rfl);have cw:∀d os,Calls ah 86 #[.string nv] (bk (bI W d) os) fun e w2=>e=.returned (.bool rn)/\∃q:ep,w2=bk (bI W q.d) q.os:=fun d os=>cC ((CW.o _ (GB.o d os)).mono fun _ _ h=>⟨h.1,by rw[h.2];exact aw _ _⟩)
 have ci:∀d os,Calls ah 87 #[.slice ai ni pi] (bk (bI W d) os) fun e w2=>e=.returned (.bool ri)/\∃q:ep,w2=bk (bI W q.d) q.os:=fun d os=>cC (CI.o _ (GB.o d os))
 have cx:∀d os,Calls ah 87 #[.slice ax nx px] (bk (bI W d) os) fun e w2=>e=.returned (.bool rx)/\∃q:ep,w2=bk (bI W q.d) q.os:=fun d os=>cC (CX.o _ (GB.o d os))
 have cy:∀d os,Calls ah 87 #[.slice ay ny py] (bk (bI W d) os) fun e w2=>e=.returned (.bool ry)/\∃q:ep,w2=bk (bI W q.d) q.os:=fun d os=>cC (CY.o _ (GB.o d os))
 have ca:∀d os,Calls ah 89 #[.slice aa na pa] (bk (bI W d) os) fun e w2=>e=.returned (.bool ra)/\∃q:ep,w2=bk (bI W q.d) q.os:=fun d os=>cC (CA.o _ (GB.o d os))
 have cg:∀d os,Calls ah 90 #[.slice ag ng pg] (bk (bI W d) os) fun e w2=>e=.returned (.bool rg)/\∃q:ep,w2=bk (bI W q.d) q.os:=fun d os=>cC (CG.o _ (GB.o d os))
 have cb:∀d os,Calls ah 88 #[.int .i64 sb] (bk (bI W d) os) fun e w2=>e=.returned (.bool rb)/\∃q:ep,w2=bk (bI W q.d) q.os:=fun d os=>cC ((CB _).mono fun _ _ h=>⟨h.1,by rw[h.2];exact aw _ _⟩)
 have cf:∀x y z d os,Calls ah 85 #[.bool x,.bool y,.bool z] (bk (bI W d) os) fun e w2=>e=.returned (.bool (kg x y z))/\∃q:ep,w2=bk (bI W q.d) q.os:=fun x y z d os=>cC ((SL x y z _).mono fun _ _ h=>⟨h.1,by rw[h.2];exact aw _ _⟩)
 clear cn hb1 hz2 hz3 B1 B2 k0 k1 k2 HB0 wS CW CI CX CY CA CG CB;go_wp2_with fail;rw[<-hW];clear hW;apply Hc
 ·repeat(first|(with_reducible apply Oc)|(with_reducible exact QT _))
 refine dI (by kernel_rfl) (QS (S:=So) (by kernel_rfl) WI (by kernel_rfl)) ?_
 cases tz <;> cases ti
 all_goals
  simp only[Bool.not_true,Bool.not_false,fu,fj,Bool.true_or,Bool.false_or]at HF
  iterate 9
   repeat(go_big_quiet_step (first|(go_at_call 85;with_reducible exact cf _ _ _ _ _)|(go_at_call 86;with_reducible exact cw _ _)|(go_at_call 87;first|(with_reducible exact ci _ _)|(with_reducible exact cx _ _)|(with_reducible exact cy _ _))|(go_at_call 88;with_reducible exact cb _ _)|(go_at_call 89;with_reducible exact ca _ _)|(go_at_call 90;with_reducible exact cg _ _)))
   rcases Od HF.o with⟨f,H⟩|⟨f,H⟩
   ·rw[f];have SP:=qet H;clear HF f H
    repeat(go_big_quiet_step (first|(go_at_call 85;with_reducible exact cf _ _ _ _ _)|(go_at_call 86;with_reducible exact cw _ _)|(go_at_call 87;first|(with_reducible exact ci _ _)|(with_reducible exact cx _ _)|(with_reducible exact cy _ _))|(go_at_call 88;with_reducible exact cb _ _)|(go_at_call 89;with_reducible exact ca _ _)|(go_at_call 90;with_reducible exact cg _ _)))
    refine wpQuiet_nil ?_;rintro _ ⟨⟨dq,osq⟩,rfl⟩;go_wp2;go_ret;exact⟨by rw[SP.o];rfl,GB.o dq osq⟩
   rw[f];clear HF;have HF:=qet H;clear f H
  have SP:=HF
  repeat(go_big_quiet_step (first|(go_at_call 85;with_reducible exact cf _ _ _ _ _)|(go_at_call 86;with_reducible exact cw _ _)|(go_at_call 87;first|(with_reducible exact ci _ _)|(with_reducible exact cx _ _)|(with_reducible exact cy _ _))|(go_at_call 88;with_reducible exact cb _ _)|(go_at_call 89;with_reducible exact ca _ _)|(go_at_call 90;with_reducible exact cg _ _)))
  refine wpQuiet_nil ?_;rintro _ ⟨⟨dq,osq⟩,rfl⟩;go_wp2;go_ret;exact⟨by rw[SP.o];rfl,GB.o dq osq⟩
def Fv(m:Nat):Prop:=∀(l:List St)(d:Nat)(v:Value)(w:World),iw l<=m->d<=21->lk w Tt l v->kZ w->TabAt w 4 nd->Calls ah 33 #[v,.int .i64 (d:Int)] w fun e w'=>e=.returned (.bool (jO d l))/\Below w.heap.size w w'
def inB(d:Nat)(s:St):Bool:=vU (d+1) s.arms&&(jO (d+1) s.body&&jO (if jb s.kind s.els then d else d+1) s.els)
variable {m:Nat}
theorem Fw(hm:Fv m)(s:St)(d:Nat)(nv:ByteArray)(iv xv yv bv ev av gv:Value)(w:World)(hcnt:jY s<=m+1)(hd:d<=20)(hb:lk w Tt s.body bv)(he:lk w Tt s.els ev)(ha:DL w Tt s.arms av)(hg:kZ w)(Fu:TabAt w 4 nd):
  Calls ah 52 #[.agg #[.int .i64 s.kind,.string nv,iv,xv,yv,.int .i64 s.gT,bv,ev,av,gv],.int .i64 (d:Int)] w fun e w'=>e=.returned (.bool (inB d s))/\Below w.heap.size w w':=by
 have hcs:=j9 s;have CB:qes (∀W,Below w.heap.size w W->Calls ah 33 #[bv,.int .i64 ((d:Int)+1)] W fun e w'=>e=.returned (.bool (jO (d+1) s.body))/\Below W.heap.size W w'):=fun W hW=>hm s.body (d+1) bv W (by omega) (by omega) (hb.on (On.below hW)) (hg.below hW hg.lt) (Fu.below hW (by have:=hg.lt;omega))
 have CE:qes (∀W,Below w.heap.size w W->Calls ah 33 #[ev,.int .i64 ((d:Int)+1)] W fun e w'=>e=.returned (.bool (jO (d+1) s.els))/\Below W.heap.size W w'):=fun W hW=>hm s.els (d+1) ev W (by omega) (by omega) (he.on (On.below hW)) (hg.below hW hg.lt) (Fu.below hW (by have:=hg.lt;omega))
 have CF:qes (∀W,Below w.heap.size w W->Calls ah 33 #[ev,.int .i64 (d:Int)] W fun e w'=>e=.returned (.bool (jO d s.els))/\Below W.heap.size W w'):=fun W hW=>hm s.els d ev W (by omega) (by omega) (he.on (On.below hW)) (hg.below hW hg.lt) (Fu.below hW (by have:=hg.lt;omega))
 have CH:qes (∀W,Below w.heap.size w W->Calls ah 91 #[.agg #[.int .i64 s.kind,.string nv,iv,xv,yv,.int .i64 s.gT,bv,ev,av,gv]] W fun e w'=>e=.returned (.bool (jb s.kind s.els))/\Below W.heap.size W w'):=fun W hW=>uT s.kind nv iv xv yv s.gT bv ev av gv s.els W (he.on (On.below hW))
 have CA:qes (∀(k:Nat)(a:List Int×List St)(u:Value)(W:World),s.arms[k]? =some a->lk w Tt a.2 u->Below w.heap.size w W->Calls ah 33 #[u,.int .i64 ((d:Int)+1)] W fun e w'=>e=.returned (.bool (jO (d+1) a.2))/\Below W.heap.size W w'):=fun k a u W hk hu hW=>hm a.2 (d+1) u W (by have:=uU hk;omega) (by omega) (hu.on (On.below hW)) (hg.below hW hg.lt) (Fu.below hW (by have:=hg.lt;omega))
 obtain⟨cs,hs,hr⟩:=ha;obtain⟨aa,ba,oa,pa,rfl,hn,QP,hc⟩:=hs.shape;have HC:=qet hc;have HR:=qet hr;have HE:qes (inB d s=(s.arms.all (fun a=>jO (d+1) a.2)&&(jO (d+1) s.body&&jO (if jb s.kind s.els then d else d+1) s.els))):=by show _=_;unfold inB;rw[yV]
 clear hc hr hs hg Fu hcs hcnt hb he hm;generalize inB d s=R at *;obtain⟨N,hN⟩:∃N,N=s.arms.length:=⟨_,rfl⟩
 have HN:=qet hN;rw[<-hN]at hn QP CH ⊢;clear hN;have d0:(0:Int)<=(d:Int):=by omega
 have d1:(d:Int)<=20:=by omega
 obtain⟨D,hD⟩:∃D:Int,D=(d:Int):=⟨_,rfl⟩
 rw[<-hD]at d0 d1 CB CE CF CA ⊢;clear hD;have HB0:=qet ((aw w.heap.size w).alloc (aj _) (.cells #[.int .i64 s.kind,.string nv,iv,xv,yv,.int .i64 s.gT,bv,ev,.slice aa N pa,gv] 48));have wS:=qet (aE w (.cells #[.int .i64 s.kind,.string nv,iv,xv,yv,.int .i64 s.gT,bv,ev,.slice aa N pa,gv] 48));go_enter Tryz.func52,Tryz.ntmps52;go_wp2_with fail
 go_loopw [10] (fun i wr=>∃(k:Nat),k<=N/\i=.int .i64 (k:Int)/\qes ((s.arms.take k).all (fun a=>jO (d+1) a.2)=true/\Below (w.alloc (.cells #[.int .i64 s.kind,.string nv,iv,xv,yv,.int .i64 s.gT,bv,ev,.slice aa N pa,gv] 48)).heap.size (w.alloc (.cells #[.int .i64 s.kind,.string nv,iv,xv,yv,.int .i64 s.gT,bv,ev,.slice aa N pa,gv] 48)) wr)) (fun i _=>N-(intOf i).toNat)
 case atStart=>exact⟨0,by omega,rfl,rfl,aw _ _⟩
 case round=>
  obtain⟨k,hk,rfl,hh⟩:=hrel;have HM:=qet hh.o.1;have hbb:=hh.o.2;have HB:=qet (HB0.o.trans (hbb.mono HB0.o.size));have Oe:=qet hbb;clear hh
  have kb:wr.heap[w.heap.size]? =some (.cells #[.int .i64 s.kind,.string nv,iv,xv,yv,.int .i64 s.gT,bv,ev,.slice aa N pa,gv] 48):=by
   rw[hbb.block _ (by simp)];exact wS.o
  have HKB:=qet kb;clear hbb
  by_cases hlt:k<N
  ·clear kb;have j1:(k:Int)<(N:Int):=by omega
   have j0:(0:Int)<=(k:Int):=by omega
   obtain⟨x,hx⟩:∃x,s.arms[k]? =some x:=⟨_,List.getElem?_eq_getElem (by rw[<-HN.o];exact hlt)⟩
   obtain⟨lv,Vg,q0,q1,q2,q3⟩:=oI w Tt s.arms cs k x HR.o hx;obtain⟨a2,n2,p2,rfl⟩:=q2.shape;have A6:=qet q3;obtain⟨a3,n3,p3,rfl⟩:=q3.shape
   have c0:wr.cell? ⟨ba,oa+k*2,none⟩=some (.slice a2 n2 p2):=by
    have:=HC.o k 0 _ q0;exact(HB.o.cell (p:=⟨ba,oa+k*2,none⟩) (World.block_lt_of_cell? w _ this)).trans this
   have c1:wr.cell? ⟨ba,oa+k*2+1,none⟩=some (.slice a3 n3 p3):=by
    have:=HC.o k 1 _ q1;exact(HB.o.cell (p:=⟨ba,oa+k*2+1,none⟩) (World.block_lt_of_cell? w _ this)).trans this
   have ha':=QP (by omega);subst ha';have HX:=qet hx;have B1:=HB.o.alloc HB.o.size (.cells #[.slice a2 n2 p2,.slice a3 n3 p3] 51);have HB1:=qet B1;have ca:=CA.o k x _ _ hx A6.o B1;have WJ:=qet (Oe.o.alloc Oe.o.size (.cells #[.slice a2 n2 p2,.slice a3 n3 p3] 51));clear q0 q1 q2 q3 hx B1;go_wp2_with fail;refine ca.mono ?_;rintro e w2 ⟨rfl,hb2⟩;have HB2:=qet (HB1.o.trans (hb2.mono HB1.o.size));have ZU:=qet (WJ.o.trans (hb2.mono WJ.o.size));clear ca hb2 c0 c1
   cases hq:jO (d+1) x.2 with
   |false=>
    have HF:qes (R=false):=by
     show _=_;rw[HE.o,nI HX.o hq,fj]
    go_wp2;go_ret;exact⟨by rw[HF.o];rfl,HB2.o⟩
   |true=>
    have HQ:qes ((s.arms.take (k+1)).all (fun a=>jO (d+1) a.2)=true):=(sF HM.o HX.o).trans hq;go_wp2
    go_roundw
    case rel=>exact⟨k+1,by omega,by go_num,HQ.o,ZU.o⟩
    case measure=>simp[intOf];omega
  ·obtain rfl:k=N:=by omega
   have HQ:qes (s.arms.all (fun a=>jO (d+1) a.2)=true):=by
    show _=_;have:=HM.o
    rwa [aX (by rw[HN.o];exact aj _)]at this
   have j1:¬ (k:Int)<(k:Int):=by omega
   have HE2:qes (R=(jO (d+1) s.body&&jO (if jb s.kind s.els then d else d+1) s.els)):=by show _=_;rw[HE.o,HQ.o,fu]
   have d0':wr.cell? ⟨w.heap.size,0,none⟩=some (.int .i64 s.kind):=by rw[af kb];rfl
   have d1':wr.cell? ⟨w.heap.size,1,none⟩=some (.string nv):=by rw[af kb];rfl
   have Yz:wr.cell? ⟨w.heap.size,2,none⟩=some iv:=by rw[af kb];rfl
   have YD:wr.cell? ⟨w.heap.size,3,none⟩=some xv:=by rw[af kb];rfl
   have d4':wr.cell? ⟨w.heap.size,4,none⟩=some yv:=by rw[af kb];rfl
   have d5':wr.cell? ⟨w.heap.size,5,none⟩=some (.int .i64 s.gT):=by rw[af kb];rfl
   have d6':wr.cell? ⟨w.heap.size,6,none⟩=some bv:=by rw[af kb];rfl
   have d7':wr.cell? ⟨w.heap.size,7,none⟩=some ev:=by rw[af kb];rfl
   have d8':wr.cell? ⟨w.heap.size,8,none⟩=some (.slice aa k pa):=by rw[af kb];rfl
   have d9':wr.cell? ⟨w.heap.size,9,none⟩=some gv:=by rw[af kb];rfl
   have ch:=CH.o wr HB.o;clear kb HM HE HQ;go_wp2_with fail;refine ch.mono ?_;rintro e w2 ⟨rfl,hb2⟩;have HB2:=qet (HB.o.trans (hb2.mono HB.o.size))
   have kb2:w2.heap[w.heap.size]? =some (.cells #[.int .i64 s.kind,.string nv,iv,xv,yv,.int .i64 s.gT,bv,ev,.slice aa k pa,gv] 48):=by
    rw[hb2.block _ (lt_of_heap HKB.o)];exact HKB.o
   clear ch hb2 d0' d1' Yz YD d4' d5' d6' d7' d8' d9';have yJ:=qet kb2;clear kb2
   cases hch:jb s.kind s.els with
   |true=>
    rw[hch]at HE2;simp only[if_true]at HE2;have e6:w2.cell? ⟨w.heap.size,6,none⟩=some bv:=by rw[af yJ.o];rfl
    have cb:=CB.o w2 HB2.o;go_wp2_with fail;refine cb.mono ?_;rintro e w3 ⟨rfl,hb3⟩;have HB3:=qet (HB2.o.trans (hb3.mono HB2.o.size))
    have WK:w3.heap[w.heap.size]? =some (.cells #[.int .i64 s.kind,.string nv,iv,xv,yv,.int .i64 s.gT,bv,ev,.slice aa k pa,gv] 48):=by
     rw[hb3.block _ (lt_of_heap yJ.o)];exact yJ.o
    have e7:w3.cell? ⟨w.heap.size,7,none⟩=some ev:=by rw[af WK];rfl
    have ce:=CF.o w3 HB3.o;clear cb hb3 WK e6
    cases hq:jO (d+1) s.body with
    |false=>
     have HF:qes (R=false):=by show _=_;rw[HE2.o,hq,fj]
     clear hq ce;go_wp2;go_ret;exact⟨by rw[HF.o];rfl,HB3.o⟩
    |true=>
     have HF:qes (R=jO d s.els):=by show _=_;rw[HE2.o,hq,fu]
     clear hq;go_wp2_with fail;refine ce.mono ?_;rintro e w4 ⟨rfl,hb4⟩;have HB4:=qet (HB3.o.trans (hb4.mono HB3.o.size));clear ce hb4;go_wp2;go_ret;exact⟨by rw[HF.o];rfl,HB4.o⟩
   |false=>
    rw[hch]at HE2;simp only[eX,if_false]at HE2;have e6:w2.cell? ⟨w.heap.size,6,none⟩=some bv:=by rw[af yJ.o];rfl
    have cb:=CB.o w2 HB2.o;go_wp2_with fail;refine cb.mono ?_;rintro e w3 ⟨rfl,hb3⟩;have HB3:=qet (HB2.o.trans (hb3.mono HB2.o.size))
    have WK:w3.heap[w.heap.size]? =some (.cells #[.int .i64 s.kind,.string nv,iv,xv,yv,.int .i64 s.gT,bv,ev,.slice aa k pa,gv] 48):=by
     rw[hb3.block _ (lt_of_heap yJ.o)];exact yJ.o
    have e7:w3.cell? ⟨w.heap.size,7,none⟩=some ev:=by rw[af WK];rfl
    have ce:=CE.o w3 HB3.o;clear cb hb3 WK e6
    cases hq:jO (d+1) s.body with
    |false=>
     have HF:qes (R=false):=by show _=_;rw[HE2.o,hq,fj]
     clear hq ce;go_wp2;go_ret;exact⟨by rw[HF.o];rfl,HB3.o⟩
    |true=>
     have HF:qes (R=jO (d+1) s.els):=by show _=_;rw[HE2.o,hq,fu]
     clear hq;go_wp2_with fail;refine ce.mono ?_;rintro e w4 ⟨rfl,hb4⟩;have HB4:=qet (HB3.o.trans (hb4.mono HB3.o.size));clear ce hb4;go_wp2;go_ret;exact⟨by rw[HF.o];rfl,HB4.o⟩
theorem Of(hm:Fv m):Fv (m+1):=by
 intro l d v w hcnt hd h hg Fu;obtain⟨cs,hs,hr⟩:=h;obtain⟨a,b,off,cap,rfl,hn,ha,hc⟩:=hs.shape;have HC:=qet hc;have HR:=qet hr;have HG:=qet (fw hg Fu);have ZM:qes (∀k s,l[k]? =some s->jY s<=m+1):=fun k s hk=>aP (sY hk) hcnt
 have HE:qes (jO d l=l.all (me d)):=yU d l;have mQ:=qet hm;clear hc hr hs hg Fu hcnt hm;generalize jO d l=R at *;obtain⟨N,hN⟩:∃N,N=l.length:=⟨_,rfl⟩
 have HN:=qet hN;rw[<-hN]at hn ha ⊢;clear hN;have d0:(0:Int)<=(d:Int):=by omega
 have d1:(d:Int)<=21:=by omega
 go_enter Tryz.func33,Tryz.ntmps33;go_wp2_with fail
 go_loopw [9] (fun i wr=>∃(k:Nat),k<=N/\i=.int .i64 (k:Int)/\qes ((l.take k).all (me d)=true/\Below w.heap.size w wr)) (fun i _=>N-(intOf i).toNat)
 case atStart=>exact⟨0,by omega,rfl,rfl,aw _ _⟩
 case round=>
  obtain⟨k,hk,rfl,hh⟩:=hrel;have HM:=qet hh.o.1;have HB:=qet hh.o.2;clear hh
  by_cases hlt:k<N
  ·have j1:(k:Int)<(N:Int):=by omega
   have j0:(0:Int)<=(k:Int):=by omega
   obtain⟨s,hx⟩:∃s,l[k]? =some s:=⟨_,List.getElem?_eq_getElem (by rw[<-HN.o];exact hlt)⟩
   obtain⟨nv,iv,xv,yv,bv,ev,av,gv,nU⟩:=uV HC.o HR.o hx;have ha':=ha (by omega);subst ha';have hst:=nU.below HB.o;obtain⟨a2,n2,p2,rfl⟩:=hst.idx.shape;obtain⟨a3,n3,p3,rfl⟩:=hst.x.shape;obtain⟨a4,n4,p4,rfl⟩:=hst.y.shape;obtain⟨a6,n6,p6,rfl⟩:=hst.body.shape;obtain⟨a7,n7,p7,rfl⟩:=hst.els.shape;obtain⟨a8,n8,p8,rfl⟩:=hst.arms.shape;obtain⟨a9,n9,p9,rfl⟩:=hst.args.shape;have B1:=HB.o.alloc HB.o.size (.cells #[.int .i64 s.kind,.string nv,.slice a2 n2 p2,.slice a3 n3 p3,.slice a4 n4 p4,.int .i64 s.gT,.slice a6 n6 p6,.slice a7 n7 p7,.slice a8 n8 p8,.slice a9 n9 p9] 48);have hK:=aE wr (.cells #[.int .i64 s.kind,.string nv,.slice a2 n2 p2,.slice a3 n3 p3,.slice a4 n4 p4,.int .i64 s.gT,.slice a6 n6 p6,.slice a7 n7 p7,.slice a8 n8 p8,.slice a9 n9 p9] 48);have hst1:=nU.below B1;have co:=Dd s nv _ _ _ _ _ _ _ _ hst1.nm hst1.idx hst1.x hst1.y hst1.body hst1.els hst1.arms hst1.args (HG.o.1.below B1 HG.o.1.lt) (HG.o.2.below B1 (by have:=HG.o.1.lt;omega))
   have CI:qes (d<=20->∀W,Below w.heap.size w W->Calls ah 52 #[.agg #[.int .i64 s.kind,.string nv,.slice a2 n2 p2,.slice a3 n3 p3,.slice a4 n4 p4,.int .i64 s.gT,.slice a6 n6 p6,.slice a7 n7 p7,.slice a8 n8 p8,.slice a9 n9 p9],.int .i64 (d:Int)] W fun e w'=>e=.returned (.bool (inB d s))/\Below W.heap.size W w'):=fun h20 W hW=>
    Fw mQ.o s d nv _ _ _ _ _ _ _ W (ZM.o k s hx) h20 (nU.below hW).body (nU.below hW).els (nU.below hW).arms (HG.o.1.below hW HG.o.1.lt) (HG.o.2.below hW (by have:=HG.o.1.lt;omega))
   have HX:=qet hx;have HB1:=qet B1;have HK:=qet hK;have HS:qes (me d s=(decide (d<=20)&&(l4 s&&inB d s))):=PG d s;obtain⟨c0,c1,c2,c3,c4,c5,c6,c7,c8,c9,_,_,_,_,_,_,_,_⟩:=hst;have q0:(wr.alloc (.cells #[.int .i64 s.kind,.string nv,.slice a2 n2 p2,.slice a3 n3 p3,.slice a4 n4 p4,.int .i64 s.gT,.slice a6 n6 p6,.slice a7 n7 p7,.slice a8 n8 p8,.slice a9 n9 p9] 48)).heap.size=wr.heap.size+1:=by simp
   clear nU hst1 hx B1 hK q0
   by_cases h20:d<=20
   ·have i1:¬ (20:Int)<(d:Int):=by omega
    have ci:=CI.o h20;have CI2:=qet ci;clear CI ci;go_wp2_with fail;refine co.mono ?_;rintro e w2 ⟨rfl,hb2⟩;have HB2:=qet (HB1.o.trans (hb2.mono HB1.o.size))
    have kb2:w2.heap[wr.heap.size]? =some (.cells #[.int .i64 s.kind,.string nv,.slice a2 n2 p2,.slice a3 n3 p3,.slice a4 n4 p4,.int .i64 s.gT,.slice a6 n6 p6,.slice a7 n7 p7,.slice a8 n8 p8,.slice a9 n9 p9] 48):=by
     rw[hb2.block _ (by simp)];exact HK.o
    clear co hb2 c0 c1 c2 c3 c4 c5 c6 c7 c8 c9
    cases ho:l4 s with
    |false=>
     have HF:qes (R=false):=by
      show _=_;rw[HE.o];exact nI HX.o (by rw[HS.o,ho,fj,fH])
     clear ho kb2;go_wp2;go_ret;exact⟨by rw[HF.o];rfl,HB2.o⟩
    |true=>
     have HO:=qet ho;have g0:w2.cell? ⟨wr.heap.size,0,none⟩=some (.int .i64 s.kind):=by rw[af kb2];rfl
     have g1:w2.cell? ⟨wr.heap.size,1,none⟩=some (.string nv):=by rw[af kb2];rfl
     have g2:w2.cell? ⟨wr.heap.size,2,none⟩=some (.slice a2 n2 p2):=by rw[af kb2];rfl
     have g3:w2.cell? ⟨wr.heap.size,3,none⟩=some (.slice a3 n3 p3):=by rw[af kb2];rfl
     have g4:w2.cell? ⟨wr.heap.size,4,none⟩=some (.slice a4 n4 p4):=by rw[af kb2];rfl
     have g5:w2.cell? ⟨wr.heap.size,5,none⟩=some (.int .i64 s.gT):=by rw[af kb2];rfl
     have g6:w2.cell? ⟨wr.heap.size,6,none⟩=some (.slice a6 n6 p6):=by rw[af kb2];rfl
     have g7:w2.cell? ⟨wr.heap.size,7,none⟩=some (.slice a7 n7 p7):=by rw[af kb2];rfl
     have g8:w2.cell? ⟨wr.heap.size,8,none⟩=some (.slice a8 n8 p8):=by rw[af kb2];rfl
     have g9:w2.cell? ⟨wr.heap.size,9,none⟩=some (.slice a9 n9 p9):=by rw[af kb2];rfl
     have cw:=CI2.o w2 HB2.o;clear ho kb2;go_wp2_with fail;refine cw.mono ?_;rintro e w3 ⟨rfl,hb3⟩;have HB3:=qet (HB2.o.trans (hb3.mono HB2.o.size));clear cw hb3
     cases hq:inB d s with
     |false=>
      have HF:qes (R=false):=by
       show _=_;rw[HE.o];exact nI HX.o (by rw[HS.o,hq,fH,fH])
      go_wp2;go_ret;exact⟨by rw[HF.o];rfl,HB3.o⟩
     |true=>
      have HQ:qes ((l.take (k+1)).all (me d)=true):=by
       show _=_;rw[sF HM.o HX.o,HS.o,HO.o,hq,decide_eq_true h20];rfl
      go_wp2
      go_roundw
      case rel=>exact⟨k+1,by omega,by go_num,HQ.o,HB3.o⟩
      case measure=>simp[intOf];omega
   ·have i1:(20:Int)<(d:Int):=by omega
    have HF:qes (R=false):=by
     show _=_;rw[HE.o];exact nI HX.o (by rw[HS.o,decide_eq_false h20,fj])
    clear CI co;go_wp2;go_ret;exact⟨by rw[HF.o];rfl,HB1.o⟩
  ·obtain rfl:k=N:=by omega
   have HF:qes (R=true):=by
    show _=_;rw[HE.o];have:=HM.o
    rwa [aX (by rw[HN.o];exact aj _)]at this
   have j1:¬ (k:Int)<(k:Int):=by omega
   go_wp2;go_ret;exact⟨by rw[HF.o];rfl,HB.o⟩
theorem all_none:Fv 0:=by
 intro l d v w hcnt _ h _ _
 obtain rfl:l=[]:=by
  match l,hcnt with
  |[],_=>rfl
  |s::l,h=>rw[iw,j9]at h;omega
 obtain⟨cs,hs,_⟩:=h;obtain⟨a,b,off,cap,hv,_⟩:=hs.shape;have hv':v=.slice a 0 cap:=hv;subst hv';go_enter Tryz.func33,Tryz.ntmps33;go_wp2_with fail
 go_loopw [9] (fun i wr=>i=.int .i64 0/\qes (wr=w)) (fun _ _=>0)
 case atStart=>exact⟨rfl,rfl⟩
 case round=>
  obtain⟨rfl,hh⟩:=hrel;have hw:=hh.o;subst hw;go_wp2;go_ret;exact⟨rfl,aw _ _⟩
theorem De(m:Nat):Fv m:=by
 induction m with
 |zero=>exact all_none
 |succ m ih=>exact Of ih
def qQ(ls:List (List St)):Nat:=(ls.map iw).sum
def mX(l:List St):List (List St):=l.flatMap pH
theorem pJ(a b:List (List St)):qQ (a++b)=qQ a+qQ b:=by unfold qQ;rw[bB,List.sum_append]
theorem Df(l:List St):qQ (zS l)=iw l:=by
 cases l with
 |nil=>rfl
 |cons a l=>show qQ [a::l]=_;simp[qQ]
theorem BE:∀l:List (List Int×List St),qQ (jz l)=kM l
 |[]=>rfl
 |(ls,b)::l=>by
  show qQ (zS b++jz l)=_;rw[pJ,Df,BE l,kM,sd]
theorem Kp(s:St):qQ (pH s)+1=jY s:=by
 unfold pH;rw[pJ,pJ,Df,Df,BE,j9];omega
theorem ux:∀l:List St,qQ (mX l)+l.length=iw l
 |[]=>rfl
 |s::l=>by
  have h1:=Kp s;have h2:=ux l;show qQ (pH s++mX l)+_=_;rw[pJ,iw,aG];omega
variable {l:List St}
theorem QU(h:l≠[]):1<=iw l:=by
 cases l with
 |nil=>exact absurd rfl h
 |cons a l=>rw[iw,j9];omega
theorem Dg:∀ {ls:List (List St)},(∀l∈ls,l≠[])->ls.length<=qQ ls
 |[],_=>Nat.zero_le _
 |l::ls,h=>by
  have h1:=QU (h l aT);have h2:=Dg (ls:=ls) (fun x hx=>h x (aK _ hx));unfold qQ at *;rw[bL,fo,aG];omega
theorem He(l:List St):∀x∈zS l,x≠[]:=by
 cases l with
 |nil=>intro x hx;cases hx
 |cons a l=>intro x hx;rw[aL.1 hx];exact fun h=>by cases h
theorem Fx:∀(l:List (List Int×List St)),∀x∈jz l,x≠[]
 |[],x,hx=>by cases hx
 |a::l,x,hx=>by
  rcases aN.1 hx with h|h
  ·exact He _ x h
  ·exact Fx l x h
theorem Og(s:St):∀x∈pH s,x≠[]:=fun x hx=>by
 rcases aN.1 hx with h|h
 ·exact He _ x h
 ·rcases aN.1 h with h|h
  ·exact He _ x h
  ·exact Fx _ x h
theorem BF(l:List St):∀x∈mX l,x≠[]:=fun x hx=>by
 obtain⟨s,_,h⟩:=List.mem_flatMap.1 hx;exact Og s x h
variable {s:St}{k:Nat}
theorem Fy(l:List St)(h:l[k]? =some s):mX (l.take (k+1))=mX (l.take k)++pH s:=by
 rw[cr,h];simp[mX]
theorem Oh(l:List St)(k:Nat):qQ (mX (l.take k))<=iw l:=by
 have h1:=ux (l.take k)
 have h2:iw (l.take k)<=iw l:=by
  clear h1
  induction l generalizing k with
  |nil=>simp
  |cons s l ih=>cases k with
   |zero=>simp[iw]
   |succ k=>rw[bF,iw,iw];have:=ih k;omega
 omega
theorem UK{P:Nat->Prop}{cs:List Value}(hr:oH w P l cs)(hs:l[k]? =some s){nv:ByteArray}{iv xv yv bv ev av gv:Value}{b off:Nat}(hc:∀k j u,cs[k*10+j]? =some u->w.cell? ⟨b,off+k*10+j,none⟩=some u)(h:Ed w b (off+k*10) s nv iv xv yv bv ev av gv):lk w P s.body bv/\lk w P s.els ev/\DL w P s.arms av:=by
 obtain⟨d,_,h2,h3⟩:=sV w P l cs k s hr hs;obtain⟨DS,Yb,Vd,Yc,UB,ev',WL,Yd,rfl,e1,e2,e3,e4,e5,e6,e7,e8⟩:=(nD w P s d).1 h2;have k6:=hc k 6 UB ((h3 6 (by omega)).trans rfl);have k7:=hc k 7 ev' ((h3 7 (by omega)).trans rfl);have k8:=hc k 8 WL ((h3 8 (by omega)).trans rfl);rw[h.c6]at k6;rw[h.c7]at k7;rw[h.c8]at k8;obtain rfl:=an k6;obtain rfl:=an k7;obtain rfl:=an k8;exact⟨e5,e6,e7⟩
theorem QV{P:Nat->Prop}{cs:List Value}(h:oH w P l cs):oH w Tt l cs:=oH.on (On.any w) l cs h
variable {B:Nat}{n:Nat}
theorem QW{e g cap:Nat}{xs:List Value}(h:w.ownsRow B e 1 (.slice (some ⟨g,0,none⟩) (n+1) cap) (n+1) xs):w.ownsRow B e 1 (.slice (some ⟨g,0,none⟩) n cap) n (xs.take n):=by
 rcases h.2 with⟨h0,_⟩|⟨g',cap',cur,hv,r2,r3,r4,r5,r6,r7⟩
 ·cases h0
 ·injection hv with h1 _ h3
  injection h1 with h1
  injection h1 with h1
  subst h1 h3;refine⟨by rw[bU,h.1];omega,.inr ⟨g,cap,cur,rfl,r2,r3,by omega,r5,r6,?_⟩⟩;rw[<-r7,List.take_take]
  congr 1
  omega
variable {v:Value}
theorem Wt.last{ls:List (List St)}(h:Wt B w v (ls++[l])):∃g cap u,v=.slice (some ⟨g,0,none⟩) (ls.length+1) cap/\w.cell? ⟨g,ls.length,none⟩=some u/\lk w (fun b=>b<B) l u/\Wt B w (.slice (some ⟨g,0,none⟩) ls.length cap) ls/\ls.length+1<=cap:=by
 obtain⟨cs,h1,h2⟩:=h;rw[ao,bY]at h1;have hcl:=h1.1
 rcases id h1.2 with⟨_,h0⟩|⟨g,cap,cur,rfl,r2,r3,r4,r5,r6,r7⟩
 ·omega
 ·obtain⟨u,hu⟩:∃u,cs[ls.length]? =some u:=⟨_,List.getElem?_eq_getElem (by omega)⟩
  refine⟨g,cap,u,rfl,?_,h2 ls.length l u (by rw[List.getElem?_append_right (aj _),Nat.sub_self];rfl) hu,⟨cs.take ls.length,QW h1,fun i l' u' e1 e2=>?_⟩,r4⟩
  ·rw[h1.cellAt ls.length (by omega)];exact hu
  ·have hi:i<ls.length:=(List.getElem?_eq_some_iff.1 e1).1;rw[List.getElem?_take,if_pos hi]at e2;exact h2 i l' u' (by rw[List.getElem?_append_left hi];exact e1) e2
theorem Wt.Oi{ls:List (List St)}(h:Wt B w v ls):∃a cap,v=.slice a ls.length cap:=by
 obtain⟨cs,h1,_⟩:=h
 rcases h1.2 with⟨rfl,h0⟩|⟨g,cap,cur,rfl,_⟩
 ·rw[h0];exact⟨_,_,rfl⟩
 ·exact⟨_,_,rfl⟩
theorem Wt.first{u:Value}(hB:B<=w.heap.size)(hu:lk w (fun b=>b<B) l u):Wt B (w.alloc (.cells #[u] 24)) (.slice (some ⟨w.heap.size,0,none⟩) 1 1) [l]:=by
 refine⟨[u],⟨rfl,.inr ⟨w.heap.size,1,#[u],rfl,hB,aE w _,aj _,by decide,rfl,rfl⟩⟩,fun i l' u' e1 e2=>?_⟩
 cases i with
 |zero=>
  obtain rfl:l=l':=an e1;obtain rfl:u=u':=an e2;exact hu.on (On.lt ((aw B w).alloc hB _))
 |succ i=>cases e1
theorem Dh(most:Int)(IU:0<=most)(l0:List St)(v:Value)(w:World)(h:lk w Tt l0 v)(hT:iw l0<=1000000000)(hne:l0≠[]):Calls ah 32 #[.int .i64 most,v] w fun e w'=>∃r:Nat,e=.returned (.int .i64 (r:Int))/\(((iw l0:Nat):Int)<=most->r=iw l0)/\(most<((iw l0:Nat):Int)->most<(r:Int))/\Below w.heap.size w w':=by
 have hp:lk w (fun b=>b<w.heap.size) l0 v:=h.on (fun b _ hb=>⟨hb,rfl⟩);have HF:=qet (Wt.first (aj _) hp);have HB0:=qet ((aw w.heap.size w).alloc (aj _) (.cells #[v] 24));obtain⟨a0,n0,c0,rfl⟩:=h.shape;have HP:=qet hp;have qD:=qet hne;obtain⟨T,ZV⟩:∃T,T=iw l0:=⟨_,rfl⟩
 rw[<-ZV]at hT ⊢;have HT:=qet ZV;clear h hp hne ZV;go_enter Tryz.func32,Tryz.ntmps32;go_wp2_with fail
 go_loopw [5,6] (fun nn vw wr=>∃(m:Nat)(y:Value)(ls:List (List St)),nn=.int .i64 (m:Int)/\y=vw/\qes (Wt w.heap.size wr y ls/\(∀l∈ls,l≠[])/\m+qQ ls=T/\(m:Int)<=most/\Below w.heap.size w wr)) (fun nn _ _=>T-(intOf nn).toNat)
 case atStart=>
  refine⟨0,_,[l0],rfl,rfl,HF.o,fun l hl=>by rw[aL.1 hl];exact qD.o,?_,by omega,HB0.o⟩;rw[HT.o];simp[qQ]
 case round=>
  obtain⟨m,y,ls,rfl,hy,hh⟩:=hrel;subst hy;have HW:=qet hh.o.1;have HL:=qet hh.o.2.1;have HS:=qet hh.o.2.2.1;have hm:=hh.o.2.2.2.1;have HB:=qet hh.o.2.2.2.2;clear hh;have m0:(0:Int)<=(m:Int):=by omega
  rcases dG ls with hls|⟨ls',l,hls⟩
  ·have KK:=qet hls;clear hls;obtain⟨a1,c1,hy1⟩:=HW.o.Oi;have hy2:y=.slice a1 0 c1:=by rw[hy1,KK.o];rfl
   subst hy2;have HR:qes (m=T):=by show _=_;have:=HS.o;rw[KK.o]at this;simpa[qQ]using this
   clear hy1;go_wp2;go_ret;exact⟨m,rfl,fun _=>HR.o,fun h=>by have:=HR.o;omega,HB.o⟩
  ·rw[dH]at hls;have KK:=qet hls;clear hls;obtain⟨g,cap,u,hy1,hcell,hu,hW',hcap⟩:=(KK.o ▸ HW.o:Wt w.heap.size wr y (ls'++[l])).last;subst hy1;have HU:=qet hu;obtain⟨cs,hsl,hch⟩:=hu;obtain⟨a2,b2,o2,c2,rfl,hn2,ha2,hc2⟩:=hsl.shape
   have za:qes (0<l.length->b2<w.heap.size):=fun h=>by
    obtain⟨a,b,off,cap,e1,_,_,e4,_⟩:=hsl;have e2:=ha2 h;have e3:=(e4 h).2;injection e1 with ET
    rw[e2]at ET;rw[e3]at ET;injection ET with UC
    injection UC with UD
    rw[UD];exact(e4 h).1
   have HC2:=qet hc2;have HCH:=qet hch;have HW2:=qet hW';have WM:l≠[]:=HL.o l (by rw[KK.o];exact cA _ (aL.2 rfl))
   have HT2:qes (m+qQ ls'+iw l=T):=by
    show _=_;have:=HS.o;rw[KK.o,pJ]at this;simp[qQ]at this ⊢;omega
   have hlen1:0<l.length:=fK.2 WM;have Jf:=qet (ux l);have tu:=qet (Dg (ls:=ls') (fun x hx=>HL.o x (by rw[KK.o];exact List.mem_append_left _ hx)));have XW:qes (∀x∈ls',x≠[]):=fun x hx=>HL.o x (by rw[KK.o];exact List.mem_append_left _ hx)
   have hle1:l.length<=T:=by have:=Jf.o;have:=HT2.o;omega
   have hle2:m<=T:=by have:=HT2.o;omega
   have hle3:m+l.length<=T:=by have:=Jf.o;have:=HT2.o;omega
   have ZW:ls'.length<=T:=by have:=tu.o;have:=HT2.o;omega
   obtain⟨K,hK⟩:∃K,K=ls'.length:=⟨_,rfl⟩
   obtain⟨M,hM⟩:∃M,M=l.length:=⟨_,rfl⟩
   rw[<-hK]at hcell hcap ZW;rw[<-hM]at hn2 ha2 hlen1 hle1 hle3 hcell za;have HK:=qet hK;have mQ:=qet hM;have hW3:=HW2.o;rw[<-hK]at hW3;have HW3:=qet hW3;have i1:(0:Int)<(K:Int)+1:=by omega
   have i2:(K:Int)+1<=1000000001:=by omega
   have i3:(K:Int)<(K:Int)+1:=by omega
   have i4:(0:Int)<=(K:Int):=by omega
   have i5:(K:Int)<=(cap:Int):=by omega
   have i6:(M:Int)<=1000000000:=by omega
   have i7:(m:Int)<=1000000000:=by omega
   have i8:(0:Int)<=(M:Int):=by omega
   clear hc2 hch hsl hW' WM hK hM hW3 HW HW2 HS HL hcap;rw[<-HK.o]
   by_cases hgt:most<(m:Int)+(M:Int)
   ·go_wp2;go_ret;exact⟨m+M,by simp,fun h=>by omega,fun _=>by omega,HB.o⟩
   ·have i9:¬most<(m:Int)+(M:Int):=hgt;obtain⟨wo,hwo⟩:∃wo,wo=wr:=⟨_,rfl⟩
    subst hwo;go_wp2_with fail
    go_loopw [6,36] (fun vw i wr=>∃(k:Nat)(y:Value),k<=M/\y=vw/\i=.int .i64 (k:Int)/\qes (Wt w.heap.size wr y (ls'++mX (l.take k))/\Below w.heap.size w wr)) (fun _ i _=>M-(intOf i).toNat)
    case atStart=>exact⟨0,_,by omega,rfl,rfl,by simpa[mX]using HW3.o,HB.o⟩
    case round=>
     obtain⟨k,y,hk,hy,rfl,hh⟩:=hrel;subst hy;have HWx:=qet hh.o.1;have KL:=qet hh.o.2;clear hh
     by_cases hlt:k<M
     ·have j1:(k:Int)<(M:Int):=by omega
      have j0:(0:Int)<=(k:Int):=by omega
      obtain⟨s,hx⟩:∃s,l[k]? =some s:=⟨_,List.getElem?_eq_getElem (by rw[<-mQ.o];exact hlt)⟩
      have hbB:=za.o (by omega);obtain⟨nv,iv,xv,yv,bv,ev,av,gv,nU⟩:=uV HC2.o (QV HCH.o) hx;obtain⟨hpb,hpe,hpa⟩:=UK HCH.o hx HC2.o nU;have ha':=ha2 (by omega);subst ha';have key:∀(j:Nat)(u:Value),wo.cell? ⟨b2,j,none⟩=some u->wr.cell? ⟨b2,j,none⟩=some u:=fun j u hu=>(KL.o.cell (p:=⟨b2,j,none⟩) hbB).trans ((HB.o.cell (p:=⟨b2,j,none⟩) hbB).symm.trans hu)
      obtain⟨a3,n3,p3,rfl⟩:=nU.idx.shape;obtain⟨a4,n4,p4,rfl⟩:=nU.x.shape;obtain⟨a5,n5,p5,rfl⟩:=nU.y.shape;obtain⟨a6,n6,p6,rfl⟩:=nU.body.shape;obtain⟨a7,n7,p7,rfl⟩:=nU.els.shape;obtain⟨a8,n8,p8,rfl⟩:=nU.arms.shape;obtain⟨a9,n9,p9,rfl⟩:=nU.args.shape;have q0:=key _ _ nU.c0;have q1:=key _ _ nU.c1;have q2:=key _ _ nU.c2;have q3:=key _ _ nU.c3;have q4:=key _ _ nU.c4;have q5:=key _ _ nU.c5;have q6:=key _ _ nU.c6;have q7:=key _ _ nU.c7;have q8:=key _ _ nU.c8;have q9:=key _ _ nU.c9;have hB2:On (fun b=>b<w.heap.size) (fun b=>b<w.heap.size) wo (wr.alloc (.cells #[.int .i64 s.kind,.string nv,.slice a3 n3 p3,.slice a4 n4 p4,.slice a5 n5 p5,.int .i64 s.gT,.slice a6 n6 p6,.slice a7 n7 p7,.slice a8 n8 p8,.slice a9 n9 p9] 48)):=fun b hb _=>⟨hb,(((KL.o.alloc KL.o.size _).block b hb).trans (HB.o.block b hb).symm)⟩
      have Ba:=(aw wr.heap.size wr).alloc (aj _) (.cells #[.int .i64 s.kind,.string nv,.slice a3 n3 p3,.slice a4 n4 p4,.slice a5 n5 p5,.int .i64 s.gT,.slice a6 n6 p6,.slice a7 n7 p7,.slice a8 n8 p8,.slice a9 n9 p9] 48);have hcm:=sY hx
      have ca:=wI w.heap.size s nv (.slice a3 n3 p3) (.slice a4 n4 p4) (.slice a5 n5 p5) (.slice a6 n6 p6) (.slice a7 n7 p7) (.slice a8 n8 p8) (.slice a9 n9 p9) y (ls'++mX (l.take k)) _ (aP KL.o.size Ba.size) (HWx.o.below Ba KL.o.size) (by
       have h1:=Dg (ls:=ls'++mX (l.take k)) (fun x hx=>by
        rcases aN.1 hx with h|h
        ·exact XW.o x h
        ·exact BF _ x h)
       rw[pJ]at h1;have h2:=Oh l k;have h3:=HT2.o
       omega) (hpb.on hB2) (hpe.on hB2) (hpa.on hB2)
      have HX:=qet hx;have HBa:=qet (KL.o.alloc KL.o.size (.cells #[.int .i64 s.kind,.string nv,.slice a3 n3 p3,.slice a4 n4 p4,.slice a5 n5 p5,.int .i64 s.gT,.slice a6 n6 p6,.slice a7 n7 p7,.slice a8 n8 p8,.slice a9 n9 p9] 48));clear nU hpb hpe hpa key hB2 Ba hx hcm;go_wp2_with fail;refine ca.mono ?_;rintro e w3 ⟨v3,rfl,hW3,hb3⟩
      have ZX:qes (Wt w.heap.size w3 v3 (ls'++mX (l.take (k+1)))):=by
       show Wt _ _ _ _;rw[Fy l HX.o,<-aO];exact hW3
      have HB3:=qet (HBa.o.trans hb3);clear ca hW3 hb3 q0 q1 q2 q3 q4 q5 q6 q7 q8 q9;go_wp2
      go_roundw
      case rel=>exact⟨k+1,_,by omega,rfl,by go_num,ZX.o,HB3.o⟩
      case measure=>simp[intOf];omega
     ·obtain rfl:k=M:=by omega
      have HWF:qes (Wt w.heap.size wr y (ls'++mX l)):=by
       show Wt _ _ _ _;have:=HWx.o
       rwa [aX (by rw[mQ.o];exact aj _)]at this
      have j1:¬ (k:Int)<(k:Int):=by omega
      go_wp2
      go_roundw
      case rel=>
       refine⟨m+k,_,ls'++mX l,by simp,rfl,HWF.o,fun x hx=>?_,?_,by omega,KL.o⟩
       ·rcases aN.1 hx with h|h
        ·exact XW.o x h
        ·exact BF _ x h
       ·rw[pJ];have h1:=Jf.o;have h2:=HT2.o;have h3:=mQ.o;omega
      case measure=>simp[intOf];omega
theorem Di(most:Int)(IU:0<=most)(v:Value)(w:World)(h:lk w Tt [] v):Calls ah 32 #[.int .i64 most,v] w fun e w'=>∃r:Nat,e=.returned (.int .i64 (r:Int))/\(((iw []:Nat):Int)<=most->r=iw [])/\(most<((iw []:Nat):Int)->most<(r:Int))/\Below w.heap.size w w':=by
 obtain⟨cs,hs,_⟩:=h;obtain⟨a,b,off,cap,hv,_⟩:=hs.shape;have hv':v=.slice a 0 cap:=hv;subst hv';have HB0:=qet ((aw w.heap.size w).alloc (aj _) (.cells #[.slice a 0 cap] 24));have i0:¬most<0:=by omega
 go_enter Tryz.func32,Tryz.ntmps32;go_wp2_with fail
 go_loopw [5,6] (fun nn vw wr=>∃(q:Nat)(y:Value),nn=.int .i64 0/\y=vw/\qes (y=.slice (some ⟨w.heap.size,0,none⟩) q 1/\q<=1/\wr=w.alloc (.cells #[.slice a 0 cap] 24))) (fun _ vw _=>match vw with| .slice _ n _=>n|_=>0)
 case atStart=>exact⟨1,_,rfl,rfl,rfl,aj _,rfl⟩
 case round=>
  obtain⟨q,y,rfl,hy,hh⟩:=hrel;subst hy;obtain⟨hy1,hq,hw⟩:=hh.o;clear hh;subst hy1 hw;have hcell:(w.alloc (.cells #[.slice a 0 cap] 24)).cell? ⟨w.heap.size,0,none⟩=some (.slice a 0 cap):=by rw[af (aE w _)];rfl
  by_cases hq0:q=0
  ·subst hq0;clear hq;go_wp2;go_ret;exact⟨0,rfl,fun _=>rfl,fun h=>by simp[iw]at h;omega,HB0.o⟩
  ·obtain rfl:q=1:=by omega
   clear hq hq0;obtain⟨wo,hwo⟩:∃wo,wo=w.alloc (.cells #[.slice a 0 cap] 24):=⟨_,rfl⟩
   go_wp2_with fail
   go_loopw [6,36] (fun vw i wr=>∃(y:Value),y=vw/\i=.int .i64 0/\qes (y=.slice (some ⟨w.heap.size,0,none⟩) 0 1/\wr=w.alloc (.cells #[.slice a 0 cap] 24))) (fun _ _ _=>0)
   case atStart=>exact⟨_,rfl,rfl,rfl,rfl⟩
   case round=>
    obtain⟨y,hy,rfl,hh⟩:=hrel;subst hy;obtain⟨hy1,hw⟩:=hh.o;clear hh;subst hy1 hw;go_wp2
    go_roundw
    case rel=>exact⟨0,_,rfl,rfl,rfl,Nat.zero_le _,trivial⟩
    case measure=>simp
theorem xf(most:Int)(IU:0<=most)(l0:List St)(v:Value)(w:World)(h:lk w Tt l0 v)(hT:iw l0<=1000000000):Calls ah 32 #[.int .i64 most,v] w fun e w'=>∃r:Nat,e=.returned (.int .i64 (r:Int))/\(((iw l0:Nat):Int)<=most->r=iw l0)/\(most<((iw l0:Nat):Int)->most<(r:Int))/\Below w.heap.size w w':=by
 by_cases hne:l0=[]
 ·subst hne;exact Di most IU v w h
 ·exact Dh most IU l0 v w h hT hne
theorem count_any(l0:List St)(v:Value)(w:World)(h:lk w Tt l0 v)(hT:iw l0<=1000000000):Calls ah 21 #[v] w fun e w'=>e=.returned (.int .i64 ((iw l0:Nat):Int))/\Below w.heap.size w w':=by
 have c:=xf 9223372036854775807 (by omega) l0 v w h hT;have HT:=qet hT;clear h hT;go_enter Tryz.func21,Tryz.ntmps21;go_wp2_with fail;refine c.mono ?_;rintro e w1 ⟨r,rfl,h1,_,hb⟩;have HR:=qet (h1 (by have:=HT.o;omega));have HB:=qet hb;clear c h1 hb;go_wp2;go_ret;exact⟨by rw[<-HR.o];rfl,HB.o⟩
theorem zX(l0:List St)(v:Value)(w:World)(h:lk w Tt l0 v)(hT:iw l0<=1000000000)(hg:kZ w)(Fu:TabAt w 4 nd):Calls ah 19 #[v] w fun e w'=>e=.returned (.int .i64 (if mL l0 then 0 else 70))/\Below w.heap.size w w':=by
 have c:=xf 400 (by omega) l0 v w h hT;have CA:qes (∀W,Below w.heap.size w W->Calls ah 33 #[v,.int .i64 1] W fun e w'=>e=.returned (.bool (jO 1 l0))/\Below W.heap.size W w'):=fun W hW=>De (iw l0) l0 1 v W (aj _) (by omega) (h.on (On.below hW)) (hg.below hW hg.lt) (Fu.below hW (by have:=hg.lt;omega))
 have HS:qes (mL l0=(decide (iw l0<=400)&&jO 1 l0)):=rfl;obtain⟨a,n,cp,rfl⟩:=h.shape;obtain⟨R,hR⟩:∃R:Int,R=if mL l0 then 0 else 70:=⟨_,rfl⟩
 rw[<-hR];have HRR:=qet hR;clear hR;clear hT hg Fu h;go_enter Tryz.func19,Tryz.ntmps19;go_wp2_with fail;refine c.mono ?_;rintro e w1 ⟨r,rfl,h1,h2,hb⟩;have HB:=qet hb;clear c hb
 by_cases h4:iw l0<=400
 ·have hr:=h1 (by omega);have i1:¬ (400:Int)<(r:Int):=by omega
  have HD:=qet (decide_eq_true h4);have ca:=CA.o w1 HB.o;clear h1 h2 hr h4;go_wp2_with fail;refine ca.mono ?_;rintro e w2 ⟨rfl,hb2⟩;have HB2:=qet (HB.o.trans (hb2.mono HB.o.size));clear ca hb2
  cases hm:jO 1 l0 with
  |true=>
   have HF:qes (R=0):=by show _=_;rw[HRR.o,HS.o,HD.o,hm];rfl
   go_wp2;go_ret;exact⟨by rw[HF.o];rfl,HB2.o⟩
  |false=>
   have HF:qes (R=70):=by show _=_;rw[HRR.o,HS.o,hm,fH];rfl
   go_wp2;go_ret;exact⟨by rw[HF.o];rfl,HB2.o⟩
 ·have hr:=h2 (by omega);have HF:qes (R=70):=by show _=_;rw[HRR.o,HS.o,decide_eq_false h4,fj];rfl
  clear h1 h2 h4;go_wp2;go_ret;exact⟨by rw[HF.o];rfl,HB.o⟩
theorem Dj(h:lk w Tt [s] v):∃b off cap nv iv xv yv bv ev av gv,v=.slice (some ⟨b,off,none⟩) 1 cap/\Ed w b off s nv iv xv yv bv ev av gv:=by
 obtain⟨cs,hs,hr⟩:=h;obtain⟨a,b,off,cap,rfl,_,ha,hc⟩:=hs.shape;obtain⟨nv,iv,xv,yv,bv,ev,av,gv,hst⟩:=uV hc hr (k:=0) (s:=s) rfl;rw[show off+0*10=off by omega]at hst;exact⟨b,off,cap,nv,iv,xv,yv,bv,ev,av,gv,by rw[ha (by simp)];rfl,hst⟩
theorem UL(w:World)(hv:Vs w):Calls ah 15 #[] w fun e w'=>e=.returned (.bool true)/\Below w.heap.size w w':=by
 have t1:=N3 w hv;have HV:=qet hv;clear hv;go_enter Tryz.func15,Tryz.ntmps15;go_wp2_with fail;refine t1.mono ?_;rintro e w1 ⟨v,rfl,hsl,hb1⟩;have HSL:=qet hsl;have HB1:=qet hb1;obtain⟨b,off,cap,nv,iv,xv,yv,bv,ev,av,gv,rfl,h1⟩:=Dj hsl;obtain⟨b2,off2,cap2,X2,iv2,xv2,yv2,bv2,ev2,av2,gv2,rfl,h2⟩:=Dj (show lk w1 Tt [exB] bv from h1.body);obtain⟨b3,LM,cap3,XK,iv3,xv3,yv3,bv3,ev3,av3,gv3,rfl,h3⟩:=Dj (show lk w1 Tt [ZN] ev from h1.els);obtain⟨b4,UM,cap4,nv4,iv4,xv4,yv4,bv4,ev4,av4,gv4,rfl,h4⟩:=Dj (show lk w1 Tt [exE] bv3 from h3.body);obtain rfl:X2=⟨#[88]⟩:=oW (show X2.data.toList=_ from h2.nm);have k0:w1.cell? ⟨b,off,none⟩=some (.int .i64 2):=h1.c0;have k6:=h1.c6;have k7:=h1.c7;have m1:=h2.c1;have n0:w1.cell? ⟨b3,LM,none⟩=some (.int .i64 2):=h3.c0;have n1:=h3.c1;have n2:=h3.c2;have n3:=h3.c3;have n4:=h3.c4;have n5:=h3.c5;have n6:=h3.c6;have n7:=h3.c7;have n8:=h3.c8;have n9:=h3.c9;obtain⟨a31,a32,a33,rfl⟩:=h3.idx.shape;obtain⟨a41,a42,a43,rfl⟩:=h3.x.shape;obtain⟨a51,a52,a53,rfl⟩:=h3.y.shape;obtain⟨a61,a62,a63,rfl⟩:=h3.els.shape;obtain⟨a71,a72,a73,rfl⟩:=h3.arms.shape;obtain⟨a81,a82,a83,rfl⟩:=h3.args.shape;have q0:w1.cell? ⟨b4,UM,none⟩=some (.int .i64 8):=h4.c0;have lb4:b4<w1.heap.size:=World.block_lt_of_cell? w1 _ q0;have q0a:∀o,(w1.alloc o).cell? ⟨b4,UM,none⟩=some (.int .i64 8):=fun o=>(World.cell?_alloc_lt _ _ _ lb4).trans q0
 have CC:qes (∀o,Calls ah 21 #[.slice (some ⟨b,off,none⟩) 1 cap] (w1.alloc o) fun e w'=>e=.returned (.int .i64 4)/\Below (w1.alloc o).heap.size (w1.alloc o) w'):=fun o=>by
  have hb:Below w1.heap.size w1 (w1.alloc o):=(aw _ _).alloc (aj _) _;exact count_any [exS] _ (w1.alloc o) (HSL.o.on (On.below hb)) (by decide)
 have CK:qes (∀W,Below w1.heap.size w1 W->Calls ah 19 #[.slice (some ⟨b,off,none⟩) 1 cap] W fun e w'=>e=.returned (.int .i64 0)/\Below W.heap.size W w'):=fun W hW=>by
  have hvs:=(HV.o.below HB1.o).below hW;have:=zX [exS] _ W (HSL.o.on (On.below hW)) (by decide) hvs.tG hvs.nm;rw[Sn]at this;exact this
 clear t1 hsl hb1 h1 h2 h3 h4 HSL HV;go_wp2_with fail;have t2:=CC.o (.cells #[.int .i64 2,.string XK,.slice a31 a32 a33,.slice a41 a42 a43,.slice a51 a52 a53,.int .i64 ZN.gT,.slice (some ⟨b4,UM,none⟩) 1 cap4,.slice a61 a62 a63,.slice a71 a72 a73,.slice a81 a82 a83] 48);refine t2.mono ?_;rintro e w2 ⟨rfl,hb2⟩;have hb3:Below w1.heap.size w1 w2:=((aw _ _).alloc (aj _) _).trans (hb2.mono (by rw[aB];omega));have t3:=CK.o w2 hb3;have HB3:=qet hb3;clear t2 hb2 hb3 CC CK;go_wp2_with fail;refine t3.mono ?_;rintro e w3 ⟨rfl,hb4⟩;have HB4:=qet hb4;clear t3 hb4;go_wp2;go_ret;have h5:=HB3.o.trans (HB4.o.mono HB3.o.size);exact⟨rfl,HB1.o.trans (h5.mono HB1.o.size)⟩
def Sh(t:Tk):Prop:=t.s.length<=24/\ -2147483648<=t.n/\t.n<=2147483648
def Fine(n:Nat)(l:List Tk):Prop:=l.length<=n/\∀t∈l,Sh t
theorem Fine.nil:Fine 0 []:=⟨aj _,fun _ h=>by cases h⟩
theorem Fine.cons{t:Tk}{l:List Tk}(ht:Sh t)(h:Fine n l):Fine (n+1) (t::l):=⟨by have:=h.1;simp;omega,fun u hu=>by
 rcases aI.1 hu with rfl|hu
 ·exact ht
 ·exact h.2 u hu⟩
theorem Fine.app{x y:List Tk}(h:Fine m x)(k:Fine n y):Fine (m+n) (x++y):=⟨by have:=h.1;have:=k.1;simp;omega,fun u hu=>by
 rcases aN.1 hu with hu|hu
 ·exact h.2 u hu
 ·exact k.2 u hu⟩
theorem Fine.mono{l:List Tk}(h:Fine m l)(hn:m<=n):Fine n l:=⟨by have:=h.1;omega,h.2⟩
theorem Fine.one{t:Tk}(ht:Sh t):Fine 1 [t]:=Fine.cons ht Fine.nil
theorem kt: -2147483648<=(0:Int)/\(0:Int)<=2147483648:=by decide
theorem lN{s:Bs}(h:s.length<=24):Sh (gO s):=⟨h,kt⟩
theorem wK{s:Bs}(h:s.length<=24):Sh (gP s):=⟨h,kt⟩
theorem WN{n ty:Int}(h1: -2147483648<=n)(h2:n<=2147483648):Sh (mY n ty):=⟨by show([]:Bs).length<=24;decide,h1,h2⟩
theorem WO(n:Int):(jn n).n=0:=by
 have key:∀t:Tk,t.n=0->∀u:Tk,u.n=0->∀c:Prop,[Decidable c]->(if c then t else u).n=0:=fun t ht u hu c _=>by split;exact ht;exact hu
 unfold jn
 repeat(refine key _ rfl _ ?_ _)
 rfl
theorem Dk:∀(e:Ex)(i:Bool),well e->∀t∈iC e i,-2147483648<=t.n/\t.n<=2147483648
 | .leaf p,i,hw=>by
  intro t ht;have hm:=hw.2;unfold iC at ht
  split at ht
  ·next hk=>
   split at ht
   ·rw[aL.1 ht];exact kt
   ·next h1=>
    rw[aL.1 ht];show -2147483648<=p.n/\p.n<=2147483648;unfold jX at hm;rw[if_pos hk]at hm;simp only[aH]at hm;have KH:=hm.2.2
    split at KH
    ·simp only[aH,decide_eq_true_eq]at KH;exact KH
    ·unfold xm at KH;rw[if_neg h1]at KH
     split at KH
     ·simp only[aH,decide_eq_true_eq]at KH;omega
     ·split at KH
      ·simp only[aH,decide_eq_true_eq]at KH;omega
      ·cases KH
  ·split at ht
   ·rw[aL.1 ht];exact kt
   ·simp only[aI,bG,or_false]at ht
    rcases ht with rfl|rfl|rfl <;> exact kt
 | .one p e,i,hw=>by
  have ih:=Dk e
  have key:∀(l:List Tk),(∀t∈l,-2147483648<=t.n/\t.n<=2147483648)->∀t∈brk i l,-2147483648<=t.n/\t.n<=2147483648:=fun l hl t ht=>by
   unfold brk at ht
   split at ht
   ·rcases aI.1 ht with rfl|ht
    ·exact kt
    ·rcases aN.1 ht with ht|ht
     ·exact hl t ht
     ·rw[aL.1 ht];exact kt
   ·exact hl t ht
  intro t ht;unfold iC at ht
  split at ht
  ·rcases aI.1 ht with rfl|ht
   ·exact kt
   ·rcases aI.1 ht with rfl|ht
    ·exact kt
    ·rcases aN.1 ht with ht|ht
     ·exact ih false hw.2.2 t ht
     ·rw[aL.1 ht];exact kt
  ·split at ht
   ·rcases aI.1 ht with rfl|ht
    ·exact kt
    ·rcases aI.1 ht with rfl|ht
     ·exact kt
     ·rcases aN.1 ht with ht|ht
      ·exact ih false hw.2.2 t ht
      ·rw[aL.1 ht];exact kt
   ·refine key _ (fun u hu=>?_) t ht
    rcases aI.1 hu with rfl|hu
    ·rw[WO];exact kt
    ·exact ih true hw.2.2 u hu
 | .two p a b,i,hw=>by
  have iha:=Dk a;have ihb:=Dk b;intro t ht;unfold iC brk at ht
  have key:∀u∈iC a true++jn p.n::iC b true,-2147483648<=u.n/\u.n<=2147483648:=fun u hu=>by
   rcases aN.1 hu with hu|hu
   ·exact iha true hw.2.2.1 u hu
   ·rcases aI.1 hu with rfl|hu
    ·rw[WO];exact kt
    ·exact ihb true hw.2.2.2 u hu
  split at ht
  ·rcases aI.1 ht with rfl|ht
   ·exact kt
   ·rcases aN.1 ht with ht|ht
    ·exact key t ht
    ·rw[aL.1 ht];exact kt
  ·exact key t ht
theorem ma{x:List Pt}(h:lP x=true):Fine 1500 (jm x):=by
 unfold lP at h;obtain⟨e,hw,rfl,_,_,Gb⟩:=tP (of_decide_eq_true h);rw[yN hw];have:=sD e false;exact⟨by omega,fun t ht=>⟨pq e false hw t ht,Dk e false hw t ht⟩⟩
theorem Hf{n:Int}(h:jk n=true):Fine 2 (vM n):=by
 unfold jk at h;simp only[aH,decide_eq_true_eq]at h;unfold vM
 split
 ·exact Fine.cons (wK (by decide)) (Fine.one (WN (by omega) (by omega)))
 ·exact(Fine.one (WN (by omega) (by omega))).mono (by omega)
theorem IV:∀ {l:List Int},l.all jk=true->Fine (3*l.length) (kS l)
 |[],_=>Fine.nil
 |[n],h=>by
  simp only[cN,List.all_nil,Bool.and_true]at h;exact(Hf h).mono (by simp)
 |n::m::l,h=>by
  rw[cN,aH]at h;have:=(Hf h.1).app (Fine.cons (wK (s:=ja) (by decide)) (IV h.2));exact this.mono (by simp only[aG];omega)
theorem Oj:∀ {l:List (Bs×List Pt)},l.all rU=true->Fine (1503*l.length) (ou l)
 |[],_=>Fine.nil
 |[a],h=>by
  simp only[cN,List.all_nil,Bool.and_true]at h;unfold rU at h;rw[aH]at h;exact(Fine.cons (lN (ru h.1)) (Fine.cons (wK (by decide)) (ma h.2))).mono (by simp)
 |a::b::l,h=>by
  rw[cN,aH]at h;have h1:=h.1;unfold rU at h1;rw[aH]at h1;exact(Fine.cons (lN (ru h1.1)) (Fine.cons (wK (by decide)) ((ma h1.2).app (Fine.cons (wK (by decide)) (Oj h.2))))).mono (by simp only[aG];omega)
mutual
theorem Ok:∀(s:St)(d:Nat),me d s=true->Fine (20000*jY s-10) (kH s)/\Fine (20000*jY s-10) (I1 s)
 |⟨k,nm,i,x,y,b_,bd,el,ar,ag⟩,d,hm=>by
  obtain⟨_,hown,hma,hmb,hme⟩:=jD hm;have fb:=zY bd (d+1) hmb;have fe:=zY el _ hme;have fc:=UN el _ hme;have fa:=Ol ar (d+1) hma;have hc:jY ⟨k,nm,i,x,y,b_,bd,el,ar,ag⟩=1+iw bd+iw el+kM ar:=by simp only[jY]
  have OR:∀c:Bool,Fine (20000*iw el+1) (if c=true then Ry el else if el.isEmpty=true then []else gO lH::iV el):=fun c=>by
   split
   ·exact fc.mono (by omega)
   ·split
    ·exact Fine.nil.mono (by omega)
    ·exact Fine.cons (lN (by decide)) fe
  have ZY:Fine (20000*iw el+1) (if el.isEmpty=true then []else gO lH::iV el):=by
   split
   ·exact Fine.nil.mono (by omega)
   ·exact Fine.cons (lN (by decide)) fe
  rw[hc]
  rcases yW hown with hk|hk|hk|hk|hk|hk|hk|hk|hk
  ·obtain⟨he,hn,hi,hx⟩:=Tl hown hk;simp only at hk hn hi hx;subst hk
   constructor
   ·rw[kH,if_pos rfl]
    have fi:Fine 1502 (if i.isEmpty=true then []else gP vT::(jm i++[gP yn])):=by
     split
     ·exact Fine.nil.mono (by omega)
     ·next hne=>
      rcases hi with rfl|hi
      ·exact absurd rfl hne
      ·exact(Fine.cons (wK (by decide)) ((ma hi).app (Fine.one (wK (by decide))))).mono (by omega)
    exact(Fine.cons (lN (po hn)) (fi.app (Fine.cons (wK (by decide)) (ma hx)))).mono (by omega)
   ·rw[I1];exact((ma hx).app (Fine.cons (lN (by decide)) (fb.app (OR _)))).mono (by omega)
  ·obtain⟨he,hx⟩:=Jx hown hk;simp only at hk hx;subst hk
   constructor
   ·rw[kH,if_neg (by decide),if_pos rfl];exact(Fine.cons (lN (by decide)) ((ma hx).app (Fine.cons (lN (by decide)) (fb.app ((OR _).app (Fine.one (lN (by decide)))))))).mono (by omega)
   ·rw[I1];exact((ma hx).app (Fine.cons (lN (by decide)) (fb.app (OR _)))).mono (by omega)
  ·obtain⟨he,hx⟩:=A8 hown (.inl hk);simp only at hk hx;subst hk
   constructor
   ·rw[kH,if_neg (by decide),if_neg (by decide),if_pos rfl];exact(Fine.cons (lN (by decide)) ((ma hx).app (Fine.cons (lN (by decide)) (fb.app (Fine.one (lN (by decide))))))).mono (by omega)
   ·rw[I1];exact((ma hx).app (Fine.cons (lN (by decide)) (fb.app (OR _)))).mono (by omega)
  ·obtain⟨he,hx⟩:=A8 hown (.inr hk);simp only at hk hx;subst hk
   constructor
   ·rw[kH,if_neg (by decide),if_neg (by decide),if_neg (by decide),if_pos rfl];exact(Fine.cons (lN (by decide)) (fb.app (Fine.cons (lN (by decide)) ((ma hx).app (Fine.one (lN (by decide))))))).mono (by omega)
   ·rw[I1];exact((ma hx).app (Fine.cons (lN (by decide)) (fb.app (OR _)))).mono (by omega)
  ·obtain⟨he,hn,hx,hy,h0,hb⟩:=Tm hown hk;simp only at hk hn hx hy h0 hb;subst hk
   constructor
   ·rw[kH,if_neg (by decide),if_neg (by decide),if_neg (by decide),if_neg (by decide),if_pos rfl]
    have fby:Fine 3 (if b_=1 then []else gO vL::vM b_):=by
     split
     ·exact Fine.nil.mono (by omega)
     ·exact Fine.cons (lN (by decide)) (Hf hb)
    exact(Fine.cons (lN (by decide)) (Fine.cons (lN (po hn)) (Fine.cons (wK (by decide)) ((ma hx).app (Fine.cons (lN (by decide)) ((ma hy).app (fby.app (Fine.cons (lN (by decide)) (fb.app (Fine.one (lN (by decide)))))))))))).mono (by omega)
   ·rw[I1];exact((ma hx).app (Fine.cons (lN (by decide)) (fb.app (OR _)))).mono (by omega)
  ·obtain⟨he,hx,har⟩:=Tn hown hk;simp only at hk hx har;subst hk;unfold lQ at har;rw[aH,decide_eq_true_eq]at har
   constructor
   ·rw[kH,if_neg (by decide),if_neg (by decide),if_neg (by decide),if_neg (by decide),if_neg (by decide),if_pos rfl];exact(Fine.cons (lN (by decide)) ((ma hx).app (Fine.cons (lN (by decide)) ((fa har.2).app (ZY.app (Fine.one (lN (by decide)))))))).mono (by have:=har.1;omega)
   ·rw[I1];exact((ma hx).app (Fine.cons (lN (by decide)) (fb.app (OR _)))).mono (by omega)
  ·obtain⟨he,hn,hg⟩:=To hown hk;simp only at hk hn hg;have hx0:x=[]:=congrArg St.x he;subst hk;unfold l9 at hg;rw[aH,decide_eq_true_eq]at hg
   constructor
   ·rw[kH,if_neg (by decide),if_neg (by decide),if_neg (by decide),if_neg (by decide),if_neg (by decide),if_neg (by decide),if_pos rfl];exact(Fine.cons (lN (po hn)) (Fine.cons (wK (by decide)) ((Oj hg.2).app (Fine.one (wK (by decide)))))).mono (by have:=hg.1;omega)
   ·rw[I1,hx0];exact((show Fine 1500 (jm [])from Fine.nil.mono (by omega)).app (Fine.cons (lN (by decide)) (fb.app (OR _)))).mono (by omega)
  ·have he:=Eg hown (.inl hk);simp only at hk;have hx0:x=[]:=congrArg St.x he;subst hk
   constructor
   ·rw[kH,if_neg (by decide),if_neg (by decide),if_neg (by decide),if_neg (by decide),if_neg (by decide),if_neg (by decide),if_neg (by decide),if_pos rfl];exact(Fine.one (lN (by decide))).mono (by omega)
   ·rw[I1,hx0];exact((show Fine 1500 (jm [])from Fine.nil.mono (by omega)).app (Fine.cons (lN (by decide)) (fb.app (OR _)))).mono (by omega)
  ·have he:=Eg hown (.inr hk);simp only at hk;have hx0:x=[]:=congrArg St.x he;subst hk
   constructor
   ·rw[kH,if_neg (by decide),if_neg (by decide),if_neg (by decide),if_neg (by decide),if_neg (by decide),if_neg (by decide),if_neg (by decide),if_neg (by decide),if_pos rfl];exact(Fine.one (lN (by decide))).mono (by omega)
   ·rw[I1,hx0];exact((show Fine 1500 (jm [])from Fine.nil.mono (by omega)).app (Fine.cons (lN (by decide)) (fb.app (OR _)))).mono (by omega)
theorem UN:∀(l:List St)(d:Nat),jO d l=true->Fine (20000*iw l) (Ry l)
 |[],d,_=>by rw[Ry];exact Fine.nil.mono (by omega)
 |e::l,d,hm=>by
  have hm1:=(pw hm).1;have h:=(Ok e d hm1).2;have hp:1<=jY e:=by cases e;simp only[jY];omega
  rw[Ry];exact(Fine.cons (lN (by decide)) h).mono (by simp only[iw];omega)
theorem zY:∀(l:List St)(d:Nat),jO d l=true->Fine (20000*iw l) (iV l)
 |[],d,_=>by rw[iV];exact Fine.nil.mono (by omega)
 |s::l,d,hm=>by
  obtain⟨hm1,hm2⟩:=pw hm;have h1:=(Ok s d hm1).1;have h2:=zY l d hm2;have hp:1<=jY s:=by cases s;simp only[jY];omega
  rw[iV];exact(h1.app (Fine.cons (wK (by decide)) h2)).mono (by simp only[iw];omega)
theorem Ol:∀(l:List (List Int×List St))(d:Nat),vU d l=true->l.all ot=true->Fine (20000*kM l+49*l.length) (pM l)
 |[],d,_,_=>by rw[pM];exact Fine.nil.mono (by omega)
 |a::l,d,hm,ha=>by
  rw[vU,aH]at hm;rw[cN,aH]at ha;have h1:=UO a d hm.1 ha.1;have h2:=Ol l d hm.2 ha.2;rw[pM];exact(h1.app h2).mono (by simp only[kM,aG];omega)
theorem UO:∀(a:List Int×List St)(d:Nat),FQ d a=true->ot a=true->Fine (20000*sd a+49) (ON a)
 |(ls,b),d,hm,ha=>by
  rw[FQ]at hm;have h2:=zY b d hm;unfold ot at ha;simp only[aH,Bool.not_eq_true',Bool.or_eq_false_iff,decide_eq_false_iff_not]at ha;have h1:=IV ha.2;rw[ON];exact(h1.app (Fine.cons (wK (by decide)) h2)).mono (by have:=ha.1.2;simp only[sd];omega)
end
theorem pK(h:mL l=true):Fine 8000000 (iV l):=by
 unfold mL at h;rw[aH,decide_eq_true_eq]at h;exact(zY l 1 h.2).mono (by have:=h.1;omega)
variable {L:List Tk}{R:Nat}
theorem Om(s:St)(nv:ByteArray)(iv xv yv bv ev av gv:Value)(h:WS B R L w)(hv:SV B R w s nv iv xv yv bv ev av gv)(hg:kZ w)(h13:13<R)(hk:s.kind=1)(ho:l4 s=true)(hl:L.length+(kH s).length<=900000000):Calls ah 69 #[.pointer (some ⟨R,0,none⟩),.agg #[.int .i64 s.kind,.string nv,iv,xv,yv,.int .i64 s.gT,bv,ev,av,gv]] w (Wrote B R L (kH s) w):=by
 obtain⟨hs',hnm,hix,hx⟩:=Tl ho hk;have HN:=qet (sZ hv.nm (wg hnm))
 have pL:qes (kH s=gO s.name::((if s.idx.isEmpty then []else gP vT::(jm s.idx++[gP yn]))++gP iZ::jm s.x)):=by
  show _=_
  conv=>lhs;rw[hs']
  simp[kH]
 have HX:=qet hx;have HR:=qet h13;have HB:=qet h.hB;have b0:=(aw w.heap.size w).alloc (aj _) (.cells #[.int .i64 s.kind,.string nv,iv,xv,yv,.int .i64 s.gT,bv,ev,av,gv] 48);have xX:=qet (iH.of_below (R:=R) b0 h.le);have Ad:=qet (h.below b0);have Ae:=qet (aE w (.cells #[.int .i64 s.kind,.string nv,iv,xv,yv,.int .i64 s.gT,bv,ev,av,gv] 48));have lu:qes (w.heap.size≠R):=fun e=>by have:=h.hB;have:=h.le;omega
 have HV:=qet hv;have HG:=qet hg;unfold Wrote;clear hv hg h13 h b0;obtain⟨ai,ni,pi,hiv⟩:=HV.o.idx.shape;have hni:ni=s.idx.length:=by obtain⟨xs,e1,a,b,off,cap,e2,_⟩:=HV.o.idx;rw[hiv]at e2;injection e2 with _ e3;rw[e3,<-e1,aQ]
 subst hiv
 by_cases hi0:s.idx=[]
 ·have hn0:ni=0:=by rw[hni,hi0];rfl
  have vI:qes (kH s=gO s.name::gP iZ::jm s.x):=by show _=_;rw[pL.o,hi0];rfl
  have HL:qes (L.length+(2+(jm s.x).length)<=900000000):=by show _<=_;rw[vI.o]at hl;simp at hl;omega
  subst hn0;clear pL;have pL:=vI;clear hl hni hs' hnm hix hx ho hk hi0;go_enter Tryz.func69,Tryz.ntmps69;have t1:=iz Ad.o nv HN.o (by have:=HL.o;omega);go_wp2_with fail;refine t1.mono ?_;rintro e w1 ⟨rfl,h1,k1⟩;have xY:qes (WS B R (L++[gO s.name]) w1):=(by show WS _ _ _ _;rw[HV.o.nm]at h1;exact h1)
  have tM:=qet (xX.o.trans k1);have qR:qes (w1.heap[w.heap.size]? =some (.cells #[.int .i64 s.kind,.string nv,.slice ai 0 pi,xv,yv,.int .i64 s.gT,bv,ev,av,gv] 48)):=k1.others w.heap.size _ Ae.o lu.o (fun c fz e=>by injection e with _ e2;cases e2);clear t1 h1 k1;have UP:w1.cell? ⟨w.heap.size,2,none⟩=some (.slice ai 0 pi):=by rw[af qR.o];rfl
  have QX:w1.cell? ⟨w.heap.size,3,none⟩=some (xv):=by rw[af qR.o];rfl
  have t2:=jP xY.o ⟨#[58,61]⟩ (by have:=HL.o;simp;omega);go_wp2_with fail;refine t2.mono ?_;rintro e w2 ⟨rfl,h2,k2⟩;have BG:qes (WS B R (L++[gO s.name]++[gP iZ]) w2):=h2;have xg:=qet (tM.o.trans k2);have xZ:qes (w2.heap[w.heap.size]? =some (.cells #[.int .i64 s.kind,.string nv,.slice ai 0 pi,xv,yv,.int .i64 s.gT,bv,ev,av,gv] 48)):=k2.others w.heap.size _ qR.o lu.o (fun c fz e=>by injection e with _ e2;cases e2);clear t2 h2 k2;have qdS:w2.cell? ⟨w.heap.size,3,none⟩=some (xv):=by rw[af xZ.o];rfl
  have t3:=ke BG.o s.x _ (HV.o.keep xg.o).x.any HX.o (HG.o.iW xg.o HR.o HB.o) (by have:=HL.o;simp;omega);go_wp2_with fail;refine t3.mono ?_;rintro e w3 ⟨rfl,h3,k3⟩;have Hg:qes (WS B R (L++[gO s.name]++[gP iZ]++jm s.x) w3):=h3;have zZ:=qet (xg.o.trans k3);have Dv:qes (w3.heap[w.heap.size]? =some (.cells #[.int .i64 s.kind,.string nv,.slice ai 0 pi,xv,yv,.int .i64 s.gT,bv,ev,av,gv] 48)):=k3.others w.heap.size _ xZ.o lu.o (fun c fz e=>by injection e with _ e2;cases e2);clear t3 h3 k3;go_wp2;refine aW (v:=.tuple #[]) ?_ rfl ⟨rfl,?_,zZ.o⟩
  ·simp[aV,Tryz.results69,go_sem]
  ·have:=Hg.o;rw[pL.o]
   simpa using this
 ·have hie:s.idx.isEmpty=false:=by cases hq:s.idx with
   |nil=>exact absurd hq hi0
   |cons a b=>rfl
  have hn0:0<ni:=by rw[hni];exact fK.2 hi0
  have i1:(0:Int)<(ni:Int):=by omega
  have HI:=qet (hix.resolve_left hi0);have vI:qes (kH s=gO s.name::gP vT::(jm s.idx++gP yn::gP iZ::jm s.x)):=by show _=_;rw[pL.o,hie];simp
  have HL:qes (L.length+(4+(jm s.x).length+(jm s.idx).length)<=900000000):=by show _<=_;rw[vI.o]at hl;simp at hl;omega
  clear pL;have pL:=vI;clear hl hni hs' hnm hix hx ho hk hi0 hn0 hie;go_enter Tryz.func69,Tryz.ntmps69;have t1:=iz Ad.o nv HN.o (by have:=HL.o;omega);go_wp2_with fail;refine t1.mono ?_;rintro e w1 ⟨rfl,h1,k1⟩;have xY:qes (WS B R (L++[gO s.name]) w1):=(by show WS _ _ _ _;rw[HV.o.nm]at h1;exact h1)
  have tM:=qet (xX.o.trans k1);have qR:qes (w1.heap[w.heap.size]? =some (.cells #[.int .i64 s.kind,.string nv,.slice ai ni pi,xv,yv,.int .i64 s.gT,bv,ev,av,gv] 48)):=k1.others w.heap.size _ Ae.o lu.o (fun c fz e=>by injection e with _ e2;cases e2);clear t1 h1 k1;have UP:w1.cell? ⟨w.heap.size,2,none⟩=some (.slice ai ni pi):=by rw[af qR.o];rfl
  have t2:=jP xY.o ⟨#[91]⟩ (by have:=HL.o;simp;omega);go_wp2_with fail;refine t2.mono ?_;rintro e w2 ⟨rfl,h2,k2⟩;have BG:qes (WS B R (L++[gO s.name]++[gP vT]) w2):=h2;have xg:=qet (tM.o.trans k2);have xZ:qes (w2.heap[w.heap.size]? =some (.cells #[.int .i64 s.kind,.string nv,.slice ai ni pi,xv,yv,.int .i64 s.gT,bv,ev,av,gv] 48)):=k2.others w.heap.size _ qR.o lu.o (fun c fz e=>by injection e with _ e2;cases e2);clear t2 h2 k2;have qdT:w2.cell? ⟨w.heap.size,2,none⟩=some (.slice ai ni pi):=by rw[af xZ.o];rfl
  have t3:=ke BG.o s.idx _ (HV.o.keep xg.o).idx.any HI.o (HG.o.iW xg.o HR.o HB.o) (by have:=HL.o;simp;omega);go_wp2_with fail;refine t3.mono ?_;rintro e w3 ⟨rfl,h3,k3⟩;have Hg:qes (WS B R (L++[gO s.name]++[gP vT]++jm s.idx) w3):=h3;have zZ:=qet (xg.o.trans k3);have Dv:qes (w3.heap[w.heap.size]? =some (.cells #[.int .i64 s.kind,.string nv,.slice ai ni pi,xv,yv,.int .i64 s.gT,bv,ev,av,gv] 48)):=k3.others w.heap.size _ xZ.o lu.o (fun c fz e=>by injection e with _ e2;cases e2);clear t3 h3 k3;have t4:=jP Hg.o ⟨#[93]⟩ (by have:=HL.o;simp;omega);go_wp2_with fail;refine t4.mono ?_;rintro e w4 ⟨rfl,h4,k4⟩;have QY:qes (WS B R (L++[gO s.name]++[gP vT]++jm s.idx++[gP yn]) w4):=h4;have QZ:=qet (zZ.o.trans k4);have Q8:qes (w4.heap[w.heap.size]? =some (.cells #[.int .i64 s.kind,.string nv,.slice ai ni pi,xv,yv,.int .i64 s.gT,bv,ev,av,gv] 48)):=k4.others w.heap.size _ Dv.o lu.o (fun c fz e=>by injection e with _ e2;cases e2);clear t4 h4 k4;have t5:=jP QY.o ⟨#[58,61]⟩ (by have:=HL.o;simp;omega);go_wp2_with fail;refine t5.mono ?_;rintro e w5 ⟨rfl,h5,k5⟩;have Q9:qes (WS B R (L++[gO s.name]++[gP vT]++jm s.idx++[gP yn]++[gP iZ]) w5):=h5;have Hh:=qet (QZ.o.trans k5);have OS:qes (w5.heap[w.heap.size]? =some (.cells #[.int .i64 s.kind,.string nv,.slice ai ni pi,xv,yv,.int .i64 s.gT,bv,ev,av,gv] 48)):=k5.others w.heap.size _ Q8.o lu.o (fun c fz e=>by injection e with _ e2;cases e2);clear t5 h5 k5;have qdU:w5.cell? ⟨w.heap.size,3,none⟩=some (xv):=by rw[af OS.o];rfl
  have t6:=ke Q9.o s.x _ (HV.o.keep Hh.o).x.any HX.o (HG.o.iW Hh.o HR.o HB.o) (by have:=HL.o;simp;omega);go_wp2_with fail;refine t6.mono ?_;rintro e w6 ⟨rfl,h6,k6⟩;have WQ:qes (WS B R (L++[gO s.name]++[gP vT]++jm s.idx++[gP yn]++[gP iZ]++jm s.x) w6):=h6;have WR:=qet (Hh.o.trans k6);have Vh:qes (w6.heap[w.heap.size]? =some (.cells #[.int .i64 s.kind,.string nv,.slice ai ni pi,xv,yv,.int .i64 s.gT,bv,ev,av,gv] 48)):=k6.others w.heap.size _ OS.o lu.o (fun c fz e=>by injection e with _ e2;cases e2);clear t6 h6 k6;go_wp2;refine aW (v:=.tuple #[]) ?_ rfl ⟨rfl,?_,WR.o⟩
  ·simp[aV,Tryz.results69,go_sem]
  ·have:=WQ.o;rw[pL.o]
   simpa using this
variable {d:Nat}
theorem xh(s:St)(nv:ByteArray)(iv xv yv bv ev av gv:Value)(h:WS B R L w)(hv:SV B R w s nv iv xv yv bv ev av gv)(hg:kZ w)(h13:13<R)(hm:Eh m)(hc:iw s.body<=m)(hb:jO d s.body=true)(hx:lP s.x=true)(hl:L.length+(jm s.x++gO jK::iV s.body).length<=900000000):Calls ah 129 #[.pointer (some ⟨R,0,none⟩),.agg #[.int .i64 s.kind,.string nv,iv,xv,yv,.int .i64 s.gT,bv,ev,av,gv]] w (Wrote B R L (jm s.x++gO jK::iV s.body) w):=by
 have HX:=qet hx;have HM:=qet hm;have HC:=qet hc;have Vi:=qet hb;have HL:qes (L.length+(1+(jm s.x).length+(iV s.body).length)<=900000000):=by show _<=_;simp at hl;omega
 have pL:qes (jm s.x++gO jK::iV s.body=jm s.x++gO jK::iV s.body):=rfl;clear hl hx hm hc hb;have HR:=qet h13;have HB:=qet h.hB;have b0:=(aw w.heap.size w).alloc (aj _) (.cells #[.int .i64 s.kind,.string nv,iv,xv,yv,.int .i64 s.gT,bv,ev,av,gv] 48);have xX:=qet (iH.of_below (R:=R) b0 h.le);have Ad:=qet (h.below b0);have Ae:=qet (aE w (.cells #[.int .i64 s.kind,.string nv,iv,xv,yv,.int .i64 s.gT,bv,ev,av,gv] 48));have lu:qes (w.heap.size≠R):=fun e=>by have:=h.hB;have:=h.le;omega
 have HV:=qet hv;have HG:=qet hg;unfold Wrote;clear hv hg h13 h b0;go_enter Tryz.func129,Tryz.ntmps129;have t1:=ke Ad.o s.x _ (HV.o.keep xX.o).x.any HX.o (HG.o.iW xX.o HR.o HB.o) (by have:=HL.o;omega);go_wp2_with fail;refine t1.mono ?_;rintro e w1 ⟨rfl,h1,k1⟩;have xY:qes (WS B R (L++jm s.x) w1):=h1;have tM:=qet (xX.o.trans k1);have qR:qes (w1.heap[w.heap.size]? =some (.cells #[.int .i64 s.kind,.string nv,iv,xv,yv,.int .i64 s.gT,bv,ev,av,gv] 48)):=k1.others w.heap.size _ Ae.o lu.o (fun c fz e=>by injection e with _ e2;cases e2);clear t1 h1 k1;have t2:=iz xY.o ⟨#[84,72,69,78]⟩ (by decide) (by have:=HL.o;simp;omega);go_wp2_with fail;refine t2.mono ?_;rintro e w2 ⟨rfl,h2,k2⟩;have BG:qes (WS B R (L++jm s.x++[gO jK]) w2):=h2;have xg:=qet (tM.o.trans k2);have xZ:qes (w2.heap[w.heap.size]? =some (.cells #[.int .i64 s.kind,.string nv,iv,xv,yv,.int .i64 s.gT,bv,ev,av,gv] 48)):=k2.others w.heap.size _ qR.o lu.o (fun c fz e=>by injection e with _ e2;cases e2);clear t2 h2 k2;have qdV:w2.cell? ⟨w.heap.size,6,none⟩=some (bv):=by rw[af xZ.o];rfl
 have t3:=HM.o B R d _ s.body _ _ (HC.o) Vi.o HR.o BG.o (HV.o.keep xg.o).body (HG.o.iW xg.o HR.o HB.o) (by have:=HL.o;simp;omega);go_wp2_with fail;refine t3.mono ?_;rintro e w3 ⟨rfl,h3,k3⟩;have Hg:qes (WS B R (L++jm s.x++[gO jK]++iV s.body) w3):=h3;have zZ:=qet (xg.o.trans k3);have Dv:qes (w3.heap[w.heap.size]? =some (.cells #[.int .i64 s.kind,.string nv,iv,xv,yv,.int .i64 s.gT,bv,ev,av,gv] 48)):=k3.others w.heap.size _ xZ.o lu.o (fun c fz e=>by injection e with _ e2;cases e2);clear t3 h3 k3;go_wp2;refine aW (v:=.tuple #[]) ?_ rfl ⟨rfl,?_,zZ.o⟩
 ·simp[aV,Tryz.results129,go_sem]
 ·have:=Hg.o
  simpa using this
def wM(l:List St):List Tk:=if l.isEmpty then []else gO lH::iV l
theorem Aa(l:List St)(v:Value)(h:WS B R L w)(hv:lk w (Pw B R) l v)(hg:kZ w)(h13:13<R)(hm:Eh m)(hc:iw l<=m)(hb:jO d l=true)(hl:L.length+(wM l).length<=900000000):Calls ah 130 #[.pointer (some ⟨R,0,none⟩),v] w (Wrote B R L (wM l) w):=by
 obtain⟨a,n,c,hvv⟩:=hv.shape;have hn:n=l.length:=by obtain⟨cs,⟨a2,b2,o2,c2,e2,_⟩,_⟩:=hv;rw[hvv]at e2;injection e2
 subst hvv
 by_cases h0:l=[]
 ·have hn0:n=0:=by rw[hn,h0];rfl
  have HS:=qet h;have HE:qes (wM l=[]):=by show _=_;rw[h0];rfl
  clear hn h0;subst hn0;clear hv hg hm hc hb hl h;unfold Wrote;go_enter Tryz.func130,Tryz.ntmps130;go_wp2;refine aW (v:=.tuple #[]) ?_ rfl ⟨rfl,?_,iH.refl _ _ _⟩
  ·simp[aV,Tryz.results130,go_sem]
  ·rw[HE.o,bm];exact HS.o
 ·have hn0:0<n:=by rw[hn];exact fK.2 h0
  have i1:(0:Int)<(n:Int):=by omega
  have HE:qes (wM l=gO lH::iV l):=by
   show _=_;unfold wM
   cases l with
   |nil=>exact absurd rfl h0
   |cons a b=>rfl
  have hl2:L.length+(1+(iV l).length)<=900000000:=by rw[HE.o]at hl;simp at hl;omega
  have HB:=qet h.hB;have t1:=iz h ⟨#[69,76,83,69]⟩ (by decide) (by omega);have HM:qes (∀(W:World),WS B R (L++[gO lH]) W->iH B R w W->Calls ah 30 #[.pointer (some ⟨R,0,none⟩),.slice a n c] W (Wrote B R (L++[gO lH]) (iV l) W)):=fun W hW hk=>hm B R d _ l _ W hc hb h13 hW (hv.on (On.iW hk)) (hg.iW hk h13 HB.o) (by simp;omega)
  clear hv hg hm hc hb hl h hl2 hn h0 hn0;unfold Wrote at HM ⊢;go_enter Tryz.func130,Tryz.ntmps130;go_wp2_with fail;refine t1.mono ?_;rintro e w1 ⟨rfl,h1,k1⟩;have t2:=HM.o w1 h1 k1;have Q1:=qet k1;clear t1 h1 k1 HM;go_wp2_with fail;refine t2.mono ?_;rintro e w2 ⟨rfl,h2,k2⟩;have S2:=qet h2;have Q2:=qet (Q1.o.trans k2);clear t2 h2 k2;go_wp2;refine aW (v:=.tuple #[]) ?_ rfl ⟨rfl,?_,Q2.o⟩
  ·simp[aV,Tryz.results130,go_sem]
  ·have:=S2.o;rw[HE.o]
   simpa using this
theorem Kq(s:St)(nv:ByteArray)(iv xv yv bv ev av gv:Value)(h:WS B R L w)(hv:SV B R w s nv iv xv yv bv ev av gv)(hg:kZ w)(h13:13<R)(hm:Eh m)(hc:iw s.body<=m)(hb:jO d s.body=true)(hk:s.kind=5)(ho:l4 s=true)(hl:L.length+(kH s).length<=900000000):Calls ah 73 #[.pointer (some ⟨R,0,none⟩),.agg #[.int .i64 s.kind,.string nv,iv,xv,yv,.int .i64 s.gT,bv,ev,av,gv]] w (Wrote B R L (kH s) w):=by
 obtain⟨hs',hnm,hx,hy,hb0,hbn⟩:=Tm ho hk;have HN:=qet (sZ hv.nm (wg hnm));have HX:=qet hx;have HY:=qet hy;have PJ:=qet hbn;have HM:=qet hm;have HC:=qet hc;have Vi:=qet hb
 have pL:qes (kH s=gO j7::gO s.name::gP iZ::(jm s.x++gO vS::(jm s.y++((if s.gT=1 then []else gO vL::vM s.gT)++gO qX::(iV s.body++[gO km]))))):=by
  show _=_
  conv=>lhs;rw[hs']
  simp[kH]
 clear hm hc hb;have HR:=qet h13;have HB:=qet h.hB;have b0:=(aw w.heap.size w).alloc (aj _) (.cells #[.int .i64 s.kind,.string nv,iv,xv,yv,.int .i64 s.gT,bv,ev,av,gv] 48);have xX:=qet (iH.of_below (R:=R) b0 h.le);have Ad:=qet (h.below b0);have Ae:=qet (aE w (.cells #[.int .i64 s.kind,.string nv,iv,xv,yv,.int .i64 s.gT,bv,ev,av,gv] 48));have lu:qes (w.heap.size≠R):=fun e=>by have:=h.hB;have:=h.le;omega
 have HV:=qet hv;have HG:=qet hg;unfold Wrote;clear hv hg h13 h b0
 by_cases hb1:s.gT=1
 ·have i1:(s.gT==1)=true:=by rw[hb1];rfl
  have i2:(s.gT !=1)=false:=by rw[hb1];rfl
  have vI:qes (kH s=gO j7::gO s.name::gP iZ::(jm s.x++gO vS::(jm s.y++gO qX::(iV s.body++[gO km])))):=by show _=_;rw[pL.o,if_pos hb1];simp
  have HL:qes (L.length+(6+(jm s.x).length+(jm s.y).length+(iV s.body).length)<=900000000):=by show _<=_;rw[vI.o]at hl;simp at hl;omega
  clear pL;have pL:=vI;clear hl hs' hnm hx hy hb0 hbn ho hk hb1;go_enter Tryz.func73,Tryz.ntmps73;have t1:=iz Ad.o ⟨#[70,79,82]⟩ (by decide) (by have:=HL.o;omega);go_wp2_with fail;refine t1.mono ?_;rintro e w1 ⟨rfl,h1,k1⟩;have xY:qes (WS B R (L++[gO j7]) w1):=h1;have tM:=qet (xX.o.trans k1);have qR:qes (w1.heap[w.heap.size]? =some (.cells #[.int .i64 s.kind,.string nv,iv,xv,yv,.int .i64 s.gT,bv,ev,av,gv] 48)):=k1.others w.heap.size _ Ae.o lu.o (fun c fz e=>by injection e with _ e2;cases e2);clear t1 h1 k1;have UQ:w1.cell? ⟨w.heap.size,1,none⟩=some (.string nv):=by rw[af qR.o];rfl
  have t2:=iz xY.o nv HN.o (by have:=HL.o;simp;omega);go_wp2_with fail;refine t2.mono ?_;rintro e w2 ⟨rfl,h2,k2⟩;have BG:qes (WS B R (L++[gO j7]++[gO s.name]) w2):=(by show WS _ _ _ _;rw[HV.o.nm]at h2;exact h2)
  have xg:=qet (tM.o.trans k2);have xZ:qes (w2.heap[w.heap.size]? =some (.cells #[.int .i64 s.kind,.string nv,iv,xv,yv,.int .i64 s.gT,bv,ev,av,gv] 48)):=k2.others w.heap.size _ qR.o lu.o (fun c fz e=>by injection e with _ e2;cases e2);clear t2 h2 k2;have t3:=jP BG.o ⟨#[58,61]⟩ (by have:=HL.o;simp;omega);go_wp2_with fail;refine t3.mono ?_;rintro e w3 ⟨rfl,h3,k3⟩;have Hg:qes (WS B R (L++[gO j7]++[gO s.name]++[gP iZ]) w3):=h3;have zZ:=qet (xg.o.trans k3);have Dv:qes (w3.heap[w.heap.size]? =some (.cells #[.int .i64 s.kind,.string nv,iv,xv,yv,.int .i64 s.gT,bv,ev,av,gv] 48)):=k3.others w.heap.size _ xZ.o lu.o (fun c fz e=>by injection e with _ e2;cases e2);clear t3 h3 k3;have WT:w3.cell? ⟨w.heap.size,3,none⟩=some (xv):=by rw[af Dv.o];rfl
  have t4:=ke Hg.o s.x _ (HV.o.keep zZ.o).x.any HX.o (HG.o.iW zZ.o HR.o HB.o) (by have:=HL.o;simp;omega);go_wp2_with fail;refine t4.mono ?_;rintro e w4 ⟨rfl,h4,k4⟩;have QY:qes (WS B R (L++[gO j7]++[gO s.name]++[gP iZ]++jm s.x) w4):=h4;have QZ:=qet (zZ.o.trans k4);have Q8:qes (w4.heap[w.heap.size]? =some (.cells #[.int .i64 s.kind,.string nv,iv,xv,yv,.int .i64 s.gT,bv,ev,av,gv] 48)):=k4.others w.heap.size _ Dv.o lu.o (fun c fz e=>by injection e with _ e2;cases e2);clear t4 h4 k4;have t5:=iz QY.o ⟨#[84,79]⟩ (by decide) (by have:=HL.o;simp;omega);go_wp2_with fail;refine t5.mono ?_;rintro e w5 ⟨rfl,h5,k5⟩;have Q9:qes (WS B R (L++[gO j7]++[gO s.name]++[gP iZ]++jm s.x++[gO vS]) w5):=h5;have Hh:=qet (QZ.o.trans k5);have OS:qes (w5.heap[w.heap.size]? =some (.cells #[.int .i64 s.kind,.string nv,iv,xv,yv,.int .i64 s.gT,bv,ev,av,gv] 48)):=k5.others w.heap.size _ Q8.o lu.o (fun c fz e=>by injection e with _ e2;cases e2);clear t5 h5 k5;have ZZ:w5.cell? ⟨w.heap.size,4,none⟩=some (yv):=by rw[af OS.o];rfl
  have t6:=ke Q9.o s.y _ (HV.o.keep Hh.o).y.any HY.o (HG.o.iW Hh.o HR.o HB.o) (by have:=HL.o;simp;omega);go_wp2_with fail;refine t6.mono ?_;rintro e w6 ⟨rfl,h6,k6⟩;have WQ:qes (WS B R (L++[gO j7]++[gO s.name]++[gP iZ]++jm s.x++[gO vS]++jm s.y) w6):=h6;have WR:=qet (Hh.o.trans k6);have Vh:qes (w6.heap[w.heap.size]? =some (.cells #[.int .i64 s.kind,.string nv,iv,xv,yv,.int .i64 s.gT,bv,ev,av,gv] 48)):=k6.others w.heap.size _ OS.o lu.o (fun c fz e=>by injection e with _ e2;cases e2);clear t6 h6 k6;have Z1:w6.cell? ⟨w.heap.size,5,none⟩=some (.int .i64 s.gT):=by rw[af Vh.o];rfl
  have t7:=iz WQ.o ⟨#[68,79]⟩ (by decide) (by have:=HL.o;simp;omega);go_wp2_with fail;refine t7.mono ?_;rintro e w7 ⟨rfl,h7,k7⟩;have Z2:qes (WS B R (L++[gO j7]++[gO s.name]++[gP iZ]++jm s.x++[gO vS]++jm s.y++[gO qX]) w7):=h7;have WU:=qet (WR.o.trans k7);have WV:qes (w7.heap[w.heap.size]? =some (.cells #[.int .i64 s.kind,.string nv,iv,xv,yv,.int .i64 s.gT,bv,ev,av,gv] 48)):=k7.others w.heap.size _ Vh.o lu.o (fun c fz e=>by injection e with _ e2;cases e2);clear t7 h7 k7;have qdW:w7.cell? ⟨w.heap.size,6,none⟩=some (bv):=by rw[af WV.o];rfl
  have t8:=HM.o B R d _ s.body _ _ (HC.o) Vi.o HR.o Z2.o (HV.o.keep WU.o).body (HG.o.iW WU.o HR.o HB.o) (by have:=HL.o;simp;omega);go_wp2_with fail;refine t8.mono ?_;rintro e w8 ⟨rfl,h8,k8⟩;have Z3:qes (WS B R (L++[gO j7]++[gO s.name]++[gP iZ]++jm s.x++[gO vS]++jm s.y++[gO qX]++iV s.body) w8):=h8;have Z4:=qet (WU.o.trans k8);have Z5:qes (w8.heap[w.heap.size]? =some (.cells #[.int .i64 s.kind,.string nv,iv,xv,yv,.int .i64 s.gT,bv,ev,av,gv] 48)):=k8.others w.heap.size _ WV.o lu.o (fun c fz e=>by injection e with _ e2;cases e2);clear t8 h8 k8;have t9:=iz Z3.o ⟨#[69,78,68,95,70,79,82]⟩ (by decide) (by have:=HL.o;simp;omega);go_wp2_with fail;refine t9.mono ?_;rintro e w9 ⟨rfl,h9,k9⟩;have Z6:qes (WS B R (L++[gO j7]++[gO s.name]++[gP iZ]++jm s.x++[gO vS]++jm s.y++[gO qX]++iV s.body++[gO km]) w9):=h9;have WW:=qet (Z4.o.trans k9);have Z7:qes (w9.heap[w.heap.size]? =some (.cells #[.int .i64 s.kind,.string nv,iv,xv,yv,.int .i64 s.gT,bv,ev,av,gv] 48)):=k9.others w.heap.size _ Z5.o lu.o (fun c fz e=>by injection e with _ e2;cases e2);clear t9 h9 k9;go_wp2;refine aW (v:=.tuple #[]) ?_ rfl ⟨rfl,?_,WW.o⟩
  ·simp[aV,Tryz.results73,go_sem]
  ·have:=Z6.o;rw[pL.o]
   simpa using this
 ·have i1:(s.gT==1)=false:=by rw[beq_eq_false_iff_ne];exact hb1
  have i2:(s.gT !=1)=true:=by rw[bne,i1];rfl
  have vI:qes (kH s=gO j7::gO s.name::gP iZ::(jm s.x++gO vS::(jm s.y++gO vL::(vM s.gT++gO qX::(iV s.body++[gO km]))))):=by show _=_;rw[pL.o,if_neg hb1];simp
  have HL:qes (L.length+(7+(jm s.x).length+(jm s.y).length+(vM s.gT).length+(iV s.body).length)<=900000000):=by show _<=_;rw[vI.o]at hl;simp at hl;omega
  clear pL;have pL:=vI;clear hl hs' hnm hx hy hb0 hbn ho hk hb1;go_enter Tryz.func73,Tryz.ntmps73;have t1:=iz Ad.o ⟨#[70,79,82]⟩ (by decide) (by have:=HL.o;omega);go_wp2_with fail;refine t1.mono ?_;rintro e w1 ⟨rfl,h1,k1⟩;have xY:qes (WS B R (L++[gO j7]) w1):=h1;have tM:=qet (xX.o.trans k1);have qR:qes (w1.heap[w.heap.size]? =some (.cells #[.int .i64 s.kind,.string nv,iv,xv,yv,.int .i64 s.gT,bv,ev,av,gv] 48)):=k1.others w.heap.size _ Ae.o lu.o (fun c fz e=>by injection e with _ e2;cases e2);clear t1 h1 k1;have UQ:w1.cell? ⟨w.heap.size,1,none⟩=some (.string nv):=by rw[af qR.o];rfl
  have t2:=iz xY.o nv HN.o (by have:=HL.o;simp;omega);go_wp2_with fail;refine t2.mono ?_;rintro e w2 ⟨rfl,h2,k2⟩;have BG:qes (WS B R (L++[gO j7]++[gO s.name]) w2):=(by show WS _ _ _ _;rw[HV.o.nm]at h2;exact h2)
  have xg:=qet (tM.o.trans k2);have xZ:qes (w2.heap[w.heap.size]? =some (.cells #[.int .i64 s.kind,.string nv,iv,xv,yv,.int .i64 s.gT,bv,ev,av,gv] 48)):=k2.others w.heap.size _ qR.o lu.o (fun c fz e=>by injection e with _ e2;cases e2);clear t2 h2 k2;have t3:=jP BG.o ⟨#[58,61]⟩ (by have:=HL.o;simp;omega);go_wp2_with fail;refine t3.mono ?_;rintro e w3 ⟨rfl,h3,k3⟩;have Hg:qes (WS B R (L++[gO j7]++[gO s.name]++[gP iZ]) w3):=h3;have zZ:=qet (xg.o.trans k3);have Dv:qes (w3.heap[w.heap.size]? =some (.cells #[.int .i64 s.kind,.string nv,iv,xv,yv,.int .i64 s.gT,bv,ev,av,gv] 48)):=k3.others w.heap.size _ xZ.o lu.o (fun c fz e=>by injection e with _ e2;cases e2);clear t3 h3 k3;have WT:w3.cell? ⟨w.heap.size,3,none⟩=some (xv):=by rw[af Dv.o];rfl
  have t4:=ke Hg.o s.x _ (HV.o.keep zZ.o).x.any HX.o (HG.o.iW zZ.o HR.o HB.o) (by have:=HL.o;simp;omega);go_wp2_with fail;refine t4.mono ?_;rintro e w4 ⟨rfl,h4,k4⟩;have QY:qes (WS B R (L++[gO j7]++[gO s.name]++[gP iZ]++jm s.x) w4):=h4;have QZ:=qet (zZ.o.trans k4);have Q8:qes (w4.heap[w.heap.size]? =some (.cells #[.int .i64 s.kind,.string nv,iv,xv,yv,.int .i64 s.gT,bv,ev,av,gv] 48)):=k4.others w.heap.size _ Dv.o lu.o (fun c fz e=>by injection e with _ e2;cases e2);clear t4 h4 k4;have t5:=iz QY.o ⟨#[84,79]⟩ (by decide) (by have:=HL.o;simp;omega);go_wp2_with fail;refine t5.mono ?_;rintro e w5 ⟨rfl,h5,k5⟩;have Q9:qes (WS B R (L++[gO j7]++[gO s.name]++[gP iZ]++jm s.x++[gO vS]) w5):=h5;have Hh:=qet (QZ.o.trans k5);have OS:qes (w5.heap[w.heap.size]? =some (.cells #[.int .i64 s.kind,.string nv,iv,xv,yv,.int .i64 s.gT,bv,ev,av,gv] 48)):=k5.others w.heap.size _ Q8.o lu.o (fun c fz e=>by injection e with _ e2;cases e2);clear t5 h5 k5;have ZZ:w5.cell? ⟨w.heap.size,4,none⟩=some (yv):=by rw[af OS.o];rfl
  have t6:=ke Q9.o s.y _ (HV.o.keep Hh.o).y.any HY.o (HG.o.iW Hh.o HR.o HB.o) (by have:=HL.o;simp;omega);go_wp2_with fail;refine t6.mono ?_;rintro e w6 ⟨rfl,h6,k6⟩;have WQ:qes (WS B R (L++[gO j7]++[gO s.name]++[gP iZ]++jm s.x++[gO vS]++jm s.y) w6):=h6;have WR:=qet (Hh.o.trans k6);have Vh:qes (w6.heap[w.heap.size]? =some (.cells #[.int .i64 s.kind,.string nv,iv,xv,yv,.int .i64 s.gT,bv,ev,av,gv] 48)):=k6.others w.heap.size _ OS.o lu.o (fun c fz e=>by injection e with _ e2;cases e2);clear t6 h6 k6;have Z1:w6.cell? ⟨w.heap.size,5,none⟩=some (.int .i64 s.gT):=by rw[af Vh.o];rfl
  have t7:=iz WQ.o ⟨#[66,89]⟩ (by decide) (by have:=HL.o;simp;omega);go_wp2_with fail;refine t7.mono ?_;rintro e w7 ⟨rfl,h7,k7⟩;have Z2:qes (WS B R (L++[gO j7]++[gO s.name]++[gP iZ]++jm s.x++[gO vS]++jm s.y++[gO vL]) w7):=h7;have WU:=qet (WR.o.trans k7);have WV:qes (w7.heap[w.heap.size]? =some (.cells #[.int .i64 s.kind,.string nv,iv,xv,yv,.int .i64 s.gT,bv,ev,av,gv] 48)):=k7.others w.heap.size _ Vh.o lu.o (fun c fz e=>by injection e with _ e2;cases e2);clear t7 h7 k7;have qdX:w7.cell? ⟨w.heap.size,5,none⟩=some (.int .i64 s.gT):=by rw[af WV.o];rfl
  have t8:=yR Z2.o s.gT PJ.o (by have:=HL.o;simp;omega);go_wp2_with fail;refine t8.mono ?_;rintro e w8 ⟨rfl,h8,k8⟩;have Z3:qes (WS B R (L++[gO j7]++[gO s.name]++[gP iZ]++jm s.x++[gO vS]++jm s.y++[gO vL]++vM s.gT) w8):=h8;have Z4:=qet (WU.o.trans k8);have Z5:qes (w8.heap[w.heap.size]? =some (.cells #[.int .i64 s.kind,.string nv,iv,xv,yv,.int .i64 s.gT,bv,ev,av,gv] 48)):=k8.others w.heap.size _ WV.o lu.o (fun c fz e=>by injection e with _ e2;cases e2);clear t8 h8 k8;have t9:=iz Z3.o ⟨#[68,79]⟩ (by decide) (by have:=HL.o;simp;omega);go_wp2_with fail;refine t9.mono ?_;rintro e w9 ⟨rfl,h9,k9⟩;have Z6:qes (WS B R (L++[gO j7]++[gO s.name]++[gP iZ]++jm s.x++[gO vS]++jm s.y++[gO vL]++vM s.gT++[gO qX]) w9):=h9;have WW:=qet (Z4.o.trans k9);have Z7:qes (w9.heap[w.heap.size]? =some (.cells #[.int .i64 s.kind,.string nv,iv,xv,yv,.int .i64 s.gT,bv,ev,av,gv] 48)):=k9.others w.heap.size _ Z5.o lu.o (fun c fz e=>by injection e with _ e2;cases e2);clear t9 h9 k9;have qdY:w9.cell? ⟨w.heap.size,6,none⟩=some (bv):=by rw[af Z7.o];rfl
  have t10:=HM.o B R d _ s.body _ _ (HC.o) Vi.o HR.o Z6.o (HV.o.keep WW.o).body (HG.o.iW WW.o HR.o HB.o) (by have:=HL.o;simp;omega);go_wp2_with fail;refine t10.mono ?_;rintro e w10 ⟨rfl,h10,k10⟩;have Z8:qes (WS B R (L++[gO j7]++[gO s.name]++[gP iZ]++jm s.x++[gO vS]++jm s.y++[gO vL]++vM s.gT++[gO qX]++iV s.body) w10):=h10;have Z9:=qet (WW.o.trans k10);have qaa:qes (w10.heap[w.heap.size]? =some (.cells #[.int .i64 s.kind,.string nv,iv,xv,yv,.int .i64 s.gT,bv,ev,av,gv] 48)):=k10.others w.heap.size _ Z7.o lu.o (fun c fz e=>by injection e with _ e2;cases e2);clear t10 h10 k10;have t11:=iz Z8.o ⟨#[69,78,68,95,70,79,82]⟩ (by decide) (by have:=HL.o;simp;omega);go_wp2_with fail;refine t11.mono ?_;rintro e KI ⟨rfl,h11,k11⟩;have qab:qes (WS B R (L++[gO j7]++[gO s.name]++[gP iZ]++jm s.x++[gO vS]++jm s.y++[gO vL]++vM s.gT++[gO qX]++iV s.body++[gO km]) KI):=h11;have qac:=qet (Z9.o.trans k11);have qdZ:qes (KI.heap[w.heap.size]? =some (.cells #[.int .i64 s.kind,.string nv,iv,xv,yv,.int .i64 s.gT,bv,ev,av,gv] 48)):=k11.others w.heap.size _ qaa.o lu.o (fun c fz e=>by injection e with _ e2;cases e2);clear t11 h11 k11;go_wp2;refine aW (v:=.tuple #[]) ?_ rfl ⟨rfl,?_,qac.o⟩
  ·simp[aV,Tryz.results73,go_sem]
  ·have:=qab.o;rw[pL.o]
   simpa using this
theorem BH:∀(l:List Int)(n:Int),kS (l++[n])=if l.isEmpty then vM n else kS l++gP ja::vM n
 |[],n=>rfl
 |[a],n=>by simp[kS]
 |a::b::l,n=>by
  have:=BH (b::l) n;simp only[bM,List.isEmpty_cons,eX,if_false]at this ⊢;rw[kS,this,kS];simp
theorem Kr{l:List Int}{n:Int}(h:l[k]? =some n):kS (l.take (k+1))=if k=0 then vM n else kS (l.take k)++gP ja::vM n:=by
 rw[cr,h];show kS (l.take k++[n])=_;rw[BH];have hk:k<l.length:=(List.getElem?_eq_some_iff.1 h).1
 by_cases h0:k=0
 ·subst h0;rfl
 ·rw[if_neg h0,if_neg (by rw[List.isEmpty_iff];intro e;exact absurd (show min k l.length=0 by rw[<-bU,e];rfl) (by omega))]
theorem vJ(l:List Int)(k:Nat):(kS (l.take k)).length<=(kS l).length:=by
 have:∀(l:List Int)(k:Nat),(kS (l.take k)).length<=(kS l).length:=fun l=>by
  induction l with
  |nil=>intro k;simp
  |cons a l ih=>intro k;cases k with
   |zero=>simp[kS]
   |succ k=>
    cases l with
    |nil=>simp
    |cons b l=>
     have h:=ih k
     cases k with
     |zero=>simp only[bF,List.take_zero,kS,ao];omega
     |succ k=>
      simp only[bF,kS,ao,aG]at h ⊢;omega
 exact this l k
theorem Oo(ls:List Int)(b:List St)(lv bv:Value)(h:WS B R L w)(hlv:AR w (Pw B R) ls lv)(hbv:lk w (Pw B R) b bv)(hg:kZ w)(h13:13<R)(hm:Eh m)(hc:iw b<=m)(hb:jO d b=true)(hok:ot (ls,b)=true)(hl:L.length+(ON (ls,b)).length<=900000000):Calls ah 134 #[.pointer (some ⟨R,0,none⟩),.agg #[lv,bv]] w (Wrote B R L (ON (ls,b)) w):=by
 have pL:qes (ON (ls,b)=kS ls++gP jB::iV b):=by show _=_;rw[ON]
 have HL:qes (L.length+(1+(kS ls).length+(iV b).length)<=900000000):=by show _<=_;rw[pL.o]at hl;simp at hl;omega
 have pQ:qes (∀(k:Nat)(n:Int),ls[k]? =some n->jk n=true):=fun k n hk=>by
  unfold ot at hok;rw[aH]at hok;exact eZ.1 hok.2 n (List.mem_of_getElem? hk)
 have HLV:=qet hlv;have HBV:=qet hbv;obtain⟨a1,b1,o1,c1,hv1,hn1,ha1,hc1⟩:=Sl.shape hlv;obtain⟨a2,n2,c2,hv2⟩:=hbv.shape;subst hv1 hv2
 have za:qes (0<ls.length->Pw B R b1):=fun hp=>by
  obtain⟨a,bb,off,cap,e1,_,_,e4,_⟩:=HLV.o;have e2:=ha1 hp;have e3:=(e4 hp).2;injection e1 with ET
  rw[e2]at ET;rw[e3]at ET;injection ET with UC
  injection UC with UD
  rw[UD];exact(e4 hp).1
 have UR:=qet hc1;have HR:=qet h13;have HB:=qet h.hB;have HM:=qet hm;have HC:=qet hc;have Vi:=qet hb;have HG:=qet hg;have b0:=(aw w.heap.size w).alloc (aj _) (.cells #[.slice a1 ls.length c1,.slice a2 n2 c2] 51);have Q0:=qet (iH.of_below (R:=R) b0 h.le);have S0:=qet (h.below b0);have K0:=qet (aE w (.cells #[.slice a1 ls.length c1,.slice a2 n2 c2] 51));have lu:qes (w.heap.size≠R):=fun e=>by have:=h.hB;have:=h.le;omega
 obtain⟨M,hM⟩:∃M,M=ls.length:=⟨_,rfl⟩
 rw[<-hM]at hn1 ha1 K0 S0 Q0 za ⊢;have mQ:=qet hM;have m0:(0:Int)<=(M:Int):=by omega
 clear h hlv hbv hg h13 hm hc hb hok hl hc1 hM b0;unfold Wrote;go_enter Tryz.func134,Tryz.ntmps134;go_wp2_with fail
 go_loopw [4,5,9] (fun _ _ i wr=>∃(k:Nat),k<=M/\i=.int .i64 (k:Int)/\qes (WS B R (L++kS (ls.take k)) wr/\iH B R w wr/\wr.heap[w.heap.size]? =some (.cells #[.slice a1 M c1,.slice a2 n2 c2] 51))) (fun _ _ i _=>M-(intOf i).toNat)
 case atStart=>exact⟨0,by omega,rfl,by simpa[kS]using S0.o,Q0.o,K0.o⟩
 case round=>
  obtain⟨k,hk,rfl,hh⟩:=hrel;have S:=qet hh.o.1;have Q:=qet hh.o.2.1;have K:=qet hh.o.2.2;clear hh
  by_cases hlt:k<M
  ·have j1:(k:Int)<(M:Int):=by omega
   have j0:(0:Int)<=(k:Int):=by omega
   obtain⟨n,hn⟩:∃n,ls[k]? =some n:=⟨_,List.getElem?_eq_getElem (by rw[<-mQ.o];exact hlt)⟩
   have hp:=za.o (by omega)
   have hcell:w.cell? ⟨b1,o1+k,none⟩=some (.int .i64 n):=by
    have:=UR.o k 0 (.int .i64 n) (by rw[Nat.mul_one,Nat.add_zero];show(ls.map _)[k]? =_;rw[List.getElem?_map,hn];rfl)
    rwa [Nat.mul_one,Nat.add_zero]at this
   have q0:wr.cell? ⟨b1,o1+k,none⟩=some (.int .i64 n):=(World.cell?_of_block (Q.o.block b1 hp.1 hp.2)).trans hcell;have ha':=ha1 (by omega);subst ha';have HT:=qet (Kr hn);have XM:=qet (pQ.o k n hn);have IW:=qet (vJ ls (k+1));have AH:=qet (vJ ls k);clear hn hcell hp
   by_cases hk0:k=0
   ·have i1:¬ (0:Int)<(k:Int):=by omega
    have t1:=yR S.o n XM.o (by have:=HL.o;have:=AH.o;rw[ao];omega);have wS:=qet hk0;clear hk0;go_wp2_with fail;refine t1.mono ?_;rintro e w1 ⟨rfl,h1,k1⟩
    have S1:qes (WS B R (L++kS (ls.take (k+1))) w1):=by
     show WS _ _ _ _;rw[HT.o,if_pos wS.o];rw[wS.o]at h1
     simpa[kS]using h1
    have Q1:=qet (Q.o.trans k1);have K1:qes (w1.heap[w.heap.size]? =some (.cells #[.slice (some ⟨b1,o1,none⟩) M c1,.slice a2 n2 c2] 51)):=k1.others w.heap.size _ K.o lu.o (fun c fz e=>by injection e with _ e2;cases e2);clear t1 h1 k1 q0;go_wp2
    go_roundw
    case rel=>exact⟨k+1,by omega,by go_num,S1.o,Q1.o,K1.o⟩
    case measure=>simp[intOf];omega
   ·have i1:(0:Int)<(k:Int):=by omega
    have t1:=jP S.o ⟨#[44]⟩ (by have:=HL.o;have:=AH.o;rw[ao];omega);go_wp2_with fail;refine t1.mono ?_;rintro e w1 ⟨rfl,h1,k1⟩;have t2:=yR h1 n XM.o (by have:=HL.o;have h2:=IW.o;rw[HT.o,if_neg hk0]at h2;simp at h2 ⊢;omega);have Q1:=qet (Q.o.trans k1);have K1:qes (w1.heap[w.heap.size]? =some (.cells #[.slice (some ⟨b1,o1,none⟩) M c1,.slice a2 n2 c2] 51)):=k1.others w.heap.size _ K.o lu.o (fun c fz e=>by injection e with _ e2;cases e2);clear t1 h1 k1 q0;go_wp2_with fail;refine t2.mono ?_;rintro e w2 ⟨rfl,h2,k2⟩
    have S2:qes (WS B R (L++kS (ls.take (k+1))) w2):=by
     show WS _ _ _ _;rw[HT.o,if_neg hk0];have h3:WS B R (L++kS (ls.take k)++[gP ja]++vM n) w2:=h2
     simpa using h3
    have Q2:=qet (Q1.o.trans k2);have K2:qes (w2.heap[w.heap.size]? =some (.cells #[.slice (some ⟨b1,o1,none⟩) M c1,.slice a2 n2 c2] 51)):=k2.others w.heap.size _ K1.o lu.o (fun c fz e=>by injection e with _ e2;cases e2);clear t2 h2 k2;go_wp2
    go_roundw
    case rel=>exact⟨k+1,by omega,by go_num,S2.o,Q2.o,K2.o⟩
    case measure=>simp[intOf];omega
  ·obtain rfl:k=M:=by omega
   have j1:¬ (k:Int)<(k:Int):=by omega
   have SF:qes (WS B R (L++kS ls) wr):=by
    show WS _ _ _ _;have:=S.o
    rwa [aX (by rw[mQ.o];exact aj _)]at this
   have t1:=jP SF.o ⟨#[58]⟩ (by have:=HL.o;simp;omega);go_wp2_with fail;refine t1.mono ?_;rintro e w1 ⟨rfl,h1,k1⟩;have Q1:=qet (Q.o.trans k1);have K1:qes (w1.heap[w.heap.size]? =some (.cells #[.slice a1 k c1,.slice a2 n2 c2] 51)):=k1.others w.heap.size _ K.o lu.o (fun c fz e=>by injection e with _ e2;cases e2);have h1':WS B R (L++kS ls++[gP jB]) w1:=h1;have t2:=HM.o B R d _ b _ w1 HC.o Vi.o HR.o h1' (HBV.o.on (On.iW Q1.o)) (HG.o.iW Q1.o HR.o HB.o) (by have:=HL.o;simp;omega);unfold Wrote at t2;have q1:w1.cell? ⟨w.heap.size,1,none⟩=some (.slice a2 n2 c2):=by rw[af K1.o];rfl
   clear t1 h1 k1 h1';go_wp2_with fail;refine t2.mono ?_;rintro e w2 ⟨rfl,h2,k2⟩;have S2:=qet h2;have Q2:=qet (Q1.o.trans k2);clear t2 h2 k2;go_wp2;refine aW (v:=.tuple #[]) ?_ rfl ⟨rfl,?_,Q2.o⟩
   ·simp[aV,Tryz.results134,go_sem]
   ·have:=S2.o;rw[pL.o]
    simpa using this
end Go.Proofs.YtekanffohkeoeaaGreatDoor
