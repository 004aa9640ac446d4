import Derived.Test.YtekanffohkeoeaaGreatDoorLex
import Derived.OwnWalk
import Derived.Deep.RegionWith
import Derived.Deep.RegionHeld3
import Derived.Deep.RegionHeldLaw
import Derived.Deep.RegionLaw
import Derived.Deep.AppendLies
import Derived.Deep.DeepAppendWide
namespace Go.Proofs.YtekanffohkeoeaaGreatDoor
open Go.RowKit
open Go.Proofs.Tryz renaming prog → ah, func173 → dN, ntmps173 → dF, underlying101 → dV
open Bool renaming and_eq_false_iff → fA, eq_iff_iff → bh, and_false → fH, false_and → fj
open Go.RowKit.Below renaming refl → aw, heap_setCell → aM
open Nat renaming le_refl → aj, not_lt_zero → fF, zero_mul → fy, zero_add → fg, le_trans → aP, lt_of_lt_of_le → aJ, le_succ_of_le → dZ, lt_or_ge → bZ
open Go renaming heap_alloc_new → aE, maxLen → ff, bodyPost_ret → aU, results → aV, wpAnyH_ready → fh
open Go.World renaming size_alloc → aB, size_setCell → bO, ownsRow_nil → bS, ownsRow → eG, setCell → cW, news_of_block → bf
open Go.Lib renaming cell_of_heap → af, frozen_of_heap → aC, alloc_old → bj
open List renaming cons_append → bM, append_assoc → aO, eq_nil_of_length_eq_zero → cu, length_append → ao, length_cons → aG, mem_append → aN, mem_cons → aI, not_mem_nil → bG, reverse_append → dO, reverse_cons → dk, nil_append → bQ, eq_nil_or_concat → dG, concat_eq_append → dH, length_nil → eY, drop_eq_getElem_cons → eW, length_map → aQ, length_take → bU, take_add_one → cr, mem_cons_of_mem → aK, mem_cons_self → aT, mem_of_mem_take → bW, mem_singleton → aL, mem_of_mem_drop → cL, length_drop → bz, take_of_length_le → aX, all_eq_true → eZ, map_cons → bL
open Option.some renaming inj → an
open Go.Value renaming slice → aZ, agg → fv, ownBlock → bw, oneCell' → aY
open Go.Instr renaming index → bR
open And renaming intro → fw
open Go.Region renaming ready → eL, wanted → cM
open Go.AllReadyH renaming cons → bu, nil → cz
open Go.RowKit renaming ownsRow_setCell_below → bC
open Go.Result renaming andThen_ok → cS
set_option maxRecDepth 100000
set_option maxHeartbeats 3200000
theorem Lj(k n t k' n' t':Int)(s f s' f':ByteArray):∃b,(∀W,(binOp .eql 42 (.agg #[.int .i64 k,.int .i64 n,.int .i64 t,.string s,.string f]) (.agg #[.int .i64 k',.int .i64 n',.int .i64 t',.string s',.string f'])).run ah W=.ok (.bool b) W)/\b=decide (k=k'/\n=n'/\t=t'/\s=s'/\f=f'):=by
 refine⟨decide (k=k'/\n=n'/\t=t'/\s=s'/\f=f'),fun W=>?_,rfl⟩
 by_cases h1:k=k'
 ·by_cases h2:n=n'
  ·by_cases h3:t=t'
   ·by_cases h4:s=s'
    ·by_cases h5:f=f'
     ·subst h1 h2 h3 h4 h5;simp[go_sem]
     ·subst h1 h2 h3 h4;have hb:(f.toList==f'.toList)=false:=by rw[kj];exact decide_eq_false h5
      simp[go_sem,h5,hb]
    ·subst h1 h2 h3;have hb:(s.toList==s'.toList)=false:=by rw[kj];exact decide_eq_false h4
     simp[go_sem,h4,hb]
   ·subst h1 h2;simp[go_sem,h3]
  ·subst h1;simp[go_sem,h2]
 ·simp[go_sem,h1]
theorem Pd(n:Int):(qm n).isSome=(decide (1<=n)&&decide (n<=16)):=by
 by_cases h:1<=n/\n<=16
 ·have hn:n=1\/n=2\/n=3\/n=4\/n=5\/n=6\/n=7\/n=8\/n=9\/n=10\/n=11\/n=12\/n=13\/n=14\/n=15\/n=16:=by omega
  rcases hn with rfl|rfl|rfl|rfl|rfl|rfl|rfl|rfl|rfl|rfl|rfl|rfl|rfl|rfl|rfl|rfl <;> rfl
 ·have e:(decide (1<=n)&&decide (n<=16))=false:=by rw[fA];simp;omega
  rw[e]
  have:qm n=none:=by
   unfold qm;rw[List.find?_eq_none];intro r hr;have hall:∀r∈iK,1<=r.2.2.2/\r.2.2.2<=16:=by decide
   have:=hall r hr;simp;omega
  rw[this];rfl
theorem Pe(n:Int):(qo n).isSome=(decide (2<=n)&&decide (n<=4)):=by
 by_cases h:2<=n/\n<=4
 ·have hn:n=2\/n=3\/n=4:=by omega
  rcases hn with rfl|rfl|rfl <;> rfl
 ·have e:(decide (2<=n)&&decide (n<=4))=false:=by rw[fA];simp;omega
  rw[e]
  have:qo n=none:=by
   unfold qo;rw[List.find?_eq_none];intro r hr;have hall:∀r∈ki,2<=r.2/\r.2<=4:=by decide
   have:=hall r hr;simp;omega
  rw[this];rfl
theorem oY{s:Bs}:((⟨s.toArray⟩:ByteArray)=⟨#[]⟩)↔s=[]:=by
 constructor
 ·intro h
  simpa using congrArg (fun x:ByteArray=>x.data.toList) h
 ·rintro rfl;rfl
theorem Pf(n t:Int)(s f:Bs)(w:World)(hg:kZ w):Calls ah 173 #[.agg #[.int .i64 1,.int .i64 n,.int .i64 t,.string ⟨s.toArray⟩,.string ⟨f.toArray⟩]] w fun e w'=>e=.returned (.bool (jX ⟨1,s,f,n,t⟩))/\Below w.heap.size w w':=by
 have HM:qes (jX ⟨1,s,f,n,t⟩=(FW t n&&decide (s=[]/\f=[]))):=by
  show(decide (s=[])&&(decide (f=[])&&FW t n))=_;rw[bh];simp;constructor <;> (rintro⟨a,b,c⟩;exact⟨by assumption,by assumption,by assumption⟩)
 have B0:=qet ((aw w.heap.size w).alloc (aj _) (.cells #[.int .i64 1,.int .i64 n,.int .i64 t,.string ⟨s.toArray⟩,.string ⟨f.toArray⟩] 42));have c:=BP t n _ (hg.below B0.o hg.lt).span;obtain⟨b,hrun,hb⟩:=Lj 1 n t 1 n t ⟨s.toArray⟩ ⟨f.toArray⟩ ⟨#[]⟩ ⟨#[]⟩
 have HB:qes (b=decide (s=[]/\f=[])):=by
  show _=_;rw[hb,decide_eq_decide,oY,oY];simp
 generalize(⟨s.toArray⟩:ByteArray)=S at *;generalize(⟨f.toArray⟩:ByteArray)=F at *;clear hb hg;go_enter dN,dF;go_wp2_with fail;refine c.mono ?_;rintro e w1 ⟨rfl,hw1⟩;subst hw1
 cases hn:FW t n with
 |true=>
  go_wp2;go_ret;exact⟨hZ (by rw[HM.o,hn,<-HB.o];rfl),B0.o⟩
 |false=>
  go_wp2;go_ret;exact⟨hZ (by rw[HM.o,hn];rfl),B0.o⟩
theorem Lk(k n t:Int)(hk:k=2\/k=3)(s f:Bs)(w:World)(hg:kZ w):Calls ah 173 #[.agg #[.int .i64 k,.int .i64 n,.int .i64 t,.string ⟨s.toArray⟩,.string ⟨f.toArray⟩]] w fun e w'=>e=.returned (.bool (jX ⟨k,s,f,n,t⟩))/\Below w.heap.size w w':=by
 have HM:qes (jX ⟨k,s,f,n,t⟩=(nameB s&&decide (n=0/\t=0/\f=[]))):=by
  show _=_;unfold jX;simp only[];rw[if_neg (by omega),if_pos hk];rw[bh];simp;constructor <;> (rintro⟨a,b,c,d⟩;exact⟨by assumption,by assumption,by assumption,by assumption⟩)
 have B0:=qet ((aw w.heap.size w).alloc (aj _) (.cells #[.int .i64 k,.int .i64 n,.int .i64 t,.string ⟨s.toArray⟩,.string ⟨f.toArray⟩] 42));have c:=oP s _ (hg.below B0.o hg.lt).kw;obtain⟨b,hrun,hb⟩:=Lj k n t k 0 0 ⟨s.toArray⟩ ⟨f.toArray⟩ ⟨s.toArray⟩ ⟨#[]⟩
 have HB:qes (b=decide (n=0/\t=0/\f=[])):=by
  show _=_;rw[hb,decide_eq_decide,oY];simp
 generalize(⟨s.toArray⟩:ByteArray)=S at *;generalize(⟨f.toArray⟩:ByteArray)=F at *;clear hb hg
 rcases hk with rfl|rfl
 ·go_enter dN,dF;go_wp2_with fail;refine c.mono ?_;rintro e w1 ⟨rfl,hw1⟩;subst hw1
  cases hn:nameB s with
  |true=>
   go_wp2;go_ret;exact⟨hZ (by rw[HM.o,hn,<-HB.o];rfl),B0.o⟩
  |false=>
   go_wp2;go_ret;exact⟨hZ (by rw[HM.o,hn];rfl),B0.o⟩
 ·go_enter dN,dF;go_wp2_with fail;refine c.mono ?_;rintro e w1 ⟨rfl,hw1⟩;subst hw1
  cases hn:nameB s with
  |true=>
   go_wp2;go_ret;exact⟨hZ (by rw[HM.o,hn,<-HB.o];rfl),B0.o⟩
  |false=>
   go_wp2;go_ret;exact⟨hZ (by rw[HM.o,hn];rfl),B0.o⟩
theorem I6(n t:Int)(s f:Bs)(w:World)(hg:kZ w):Calls ah 173 #[.agg #[.int .i64 4,.int .i64 n,.int .i64 t,.string ⟨s.toArray⟩,.string ⟨f.toArray⟩]] w fun e w'=>e=.returned (.bool (jX ⟨4,s,f,n,t⟩))/\Below w.heap.size w w':=by
 have HM:qes (jX ⟨4,s,f,n,t⟩=(nameB s&&(kC f&&decide (n=0/\t=0)))):=by
  show(decide (n=0)&&(decide (t=0)&&(nameB s&&kC f)))=_;rw[bh];simp;constructor <;> (rintro⟨a,b,c,d⟩;exact⟨by assumption,by assumption,by assumption,by assumption⟩)
 have B0:=qet ((aw w.heap.size w).alloc (aj _) (.cells #[.int .i64 4,.int .i64 n,.int .i64 t,.string ⟨s.toArray⟩,.string ⟨f.toArray⟩] 42));have c:=oP s _ (hg.below B0.o hg.lt).kw;have c2:=fun W=>AQ f W
 obtain⟨b,hrun,hb⟩:=Lj 4 n t 4 0 0 ⟨s.toArray⟩ ⟨f.toArray⟩ ⟨s.toArray⟩ ⟨f.toArray⟩
 have HB:qes (b=decide (n=0/\t=0)):=by
  show _=_;rw[hb,decide_eq_decide];simp
 generalize(⟨s.toArray⟩:ByteArray)=S at *;generalize(⟨f.toArray⟩:ByteArray)=F at *;clear hb hg;go_enter dN,dF;go_wp2_with fail;refine c.mono ?_;rintro e w1 ⟨rfl,hw1⟩;subst hw1
 cases hn:nameB s with
 |true=>
  go_wp2_with fail;refine(c2 _).mono ?_;rintro e w1 ⟨rfl,hw1⟩;subst hw1
  cases hf:kC f with
  |true=>
   go_wp2;go_ret;exact⟨hZ (by rw[HM.o,hn,hf,<-HB.o];rfl),B0.o⟩
  |false=>
   go_wp2;go_ret;exact⟨hZ (by rw[HM.o,hn,hf];rfl),B0.o⟩
 |false=>
  go_wp2;go_ret;exact⟨hZ (by rw[HM.o,hn];rfl),B0.o⟩
theorem FX(n:Int):∃r0 r1 r3 u,wO n=.tuple #[.agg #[.int .i64 r0,.int .i64 r1,.string u,.int .i64 r3],.bool (qm n).isSome]:=by
 unfold wO
 cases qm n with
 |none=>exact⟨_,_,_,_,rfl⟩
 |some r=>exact⟨_,_,_,_,rfl⟩
theorem FY(n:Int):∃u r1,yz n=.tuple #[.agg #[.string u,.int .i64 r1],.bool (qo n).isSome]:=by
 unfold yz
 cases qo n with
 |none=>exact⟨_,_,rfl⟩
 |some r=>exact⟨_,_,rfl⟩
theorem SE(n t:Int)(s f:Bs)(w:World)(hg:kZ w):Calls ah 173 #[.agg #[.int .i64 5,.int .i64 n,.int .i64 t,.string ⟨s.toArray⟩,.string ⟨f.toArray⟩]] w fun e w'=>e=.returned (.bool (jX ⟨5,s,f,n,t⟩))/\Below w.heap.size w w':=by
 have HM:qes (jX ⟨5,s,f,n,t⟩=((qm n).isSome&&decide (t=0/\s=[]/\f=[]))):=by
  show(decide (s=[])&&(decide (f=[])&&(decide (t=0)&&(decide (1<=n)&&decide (n<=16)))))=_;rw[Pd,bh];simp;constructor <;> (rintro⟨a,b,c,d⟩;refine⟨?_,?_,?_,?_⟩ <;> first|assumption|omega)
 have b0:=(aw w.heap.size w).alloc (aj _) (.cells #[.int .i64 5,.int .i64 n,.int .i64 t,.string ⟨s.toArray⟩,.string ⟨f.toArray⟩] 42);have B0:=qet b0;have g0:=hg.below b0 hg.lt;have c:=yy n _ g0.ops (by have:=g0.lt;omega);obtain⟨r0,r1,r3,u,hr⟩:=FX n;rw[hr]at c;obtain⟨b,hrun,hb⟩:=Lj 5 n t 5 n 0 ⟨s.toArray⟩ ⟨f.toArray⟩ ⟨#[]⟩ ⟨#[]⟩
 have HB:qes (b=decide (t=0/\s=[]/\f=[])):=by
  show _=_;rw[hb,decide_eq_decide,oY,oY];simp
 have m0:(w.alloc (.cells #[.int .i64 5,.int .i64 n,.int .i64 t,.string ⟨s.toArray⟩,.string ⟨f.toArray⟩] 42)).heap[w.heap.size]? =some (.cells #[.int .i64 5,.int .i64 n,.int .i64 t,.string ⟨s.toArray⟩,.string ⟨f.toArray⟩] 42):=aE w _;generalize(⟨s.toArray⟩:ByteArray)=S at *;generalize(⟨f.toArray⟩:ByteArray)=F at *;clear hb hg g0 b0 hr;go_enter dN,dF;go_wp2_with fail;refine c.mono ?_;rintro e w1 ⟨rfl,hb1⟩;have B1:=qet (B0.o.trans (hb1.mono B0.o.size));have z1:w.heap.size<(w.alloc (.cells #[.int .i64 5,.int .i64 n,.int .i64 t,.string S,.string F] 42)).heap.size:=by rw[aB];omega
 have m1:w1.heap[w.heap.size]? =some (.cells #[.int .i64 5,.int .i64 n,.int .i64 t,.string S,.string F] 42):=by rw[hb1.block w.heap.size z1];exact m0
 have z2:w.heap.size<w1.heap.size:=(Array.getElem?_eq_some_iff.1 m1).1;have d0:∀o,(w1.alloc o).cell? ⟨w.heap.size,0,none⟩=some (.int .i64 5):=fun o=>(World.cell?_alloc_lt _ _ _ z2).trans (by rw[af m1];rfl)
 have d1:∀o,(w1.alloc o).cell? ⟨w.heap.size,1,none⟩=some (.int .i64 n):=fun o=>(World.cell?_alloc_lt _ _ _ z2).trans (by rw[af m1];rfl)
 have d2:∀o,(w1.alloc o).cell? ⟨w.heap.size,2,none⟩=some (.int .i64 t):=fun o=>(World.cell?_alloc_lt _ _ _ z2).trans (by rw[af m1];rfl)
 have d3:∀o,(w1.alloc o).cell? ⟨w.heap.size,3,none⟩=some (.string S):=fun o=>(World.cell?_alloc_lt _ _ _ z2).trans (by rw[af m1];rfl)
 have d4:∀o,(w1.alloc o).cell? ⟨w.heap.size,4,none⟩=some (.string F):=fun o=>(World.cell?_alloc_lt _ _ _ z2).trans (by rw[af m1];rfl)
 clear c hb1 m0 m1 z1
 cases hn:(qm n).isSome with
 |true=>
  go_wp2;go_ret;exact⟨hZ (by rw[HM.o,hn,<-HB.o];rfl),B1.o.alloc B1.o.size _⟩
 |false=>
  go_wp2;go_ret;exact⟨hZ (by rw[HM.o,hn];rfl),B1.o.alloc B1.o.size _⟩
theorem SG(n t:Int)(s f:Bs)(w:World)(hg:kZ w):Calls ah 173 #[.agg #[.int .i64 6,.int .i64 n,.int .i64 t,.string ⟨s.toArray⟩,.string ⟨f.toArray⟩]] w fun e w'=>e=.returned (.bool (jX ⟨6,s,f,n,t⟩))/\Below w.heap.size w w':=by
 have HM:qes (jX ⟨6,s,f,n,t⟩=((qo t).isSome&&decide (n=0/\s=[]/\f=[]))):=by
  show(decide (s=[])&&(decide (f=[])&&(decide (n=0)&&(decide (2<=t)&&decide (t<=4)))))=_;rw[Pe,bh];simp;constructor <;> (rintro⟨a,b,c,d⟩;refine⟨?_,?_,?_,?_⟩ <;> first|assumption|omega)
 have b0:=(aw w.heap.size w).alloc (aj _) (.cells #[.int .i64 6,.int .i64 n,.int .i64 t,.string ⟨s.toArray⟩,.string ⟨f.toArray⟩] 42);have B0:=qet b0;have g0:=hg.below b0 hg.lt;have c:=DH t _ g0.conv (by have:=g0.lt;omega);obtain⟨u,r1,hr⟩:=FY t;rw[hr]at c;obtain⟨b,hrun,hb⟩:=Lj 6 n t 6 0 t ⟨s.toArray⟩ ⟨f.toArray⟩ ⟨#[]⟩ ⟨#[]⟩
 have HB:qes (b=decide (n=0/\s=[]/\f=[])):=by
  show _=_;rw[hb,decide_eq_decide,oY,oY];simp
 have m0:(w.alloc (.cells #[.int .i64 6,.int .i64 n,.int .i64 t,.string ⟨s.toArray⟩,.string ⟨f.toArray⟩] 42)).heap[w.heap.size]? =some (.cells #[.int .i64 6,.int .i64 n,.int .i64 t,.string ⟨s.toArray⟩,.string ⟨f.toArray⟩] 42):=aE w _;generalize(⟨s.toArray⟩:ByteArray)=S at *;generalize(⟨f.toArray⟩:ByteArray)=F at *;clear hb hg g0 b0 hr;go_enter dN,dF;go_wp2_with fail;refine c.mono ?_;rintro e w1 ⟨rfl,hb1⟩;have B1:=qet (B0.o.trans (hb1.mono B0.o.size));have z1:w.heap.size<(w.alloc (.cells #[.int .i64 6,.int .i64 n,.int .i64 t,.string S,.string F] 42)).heap.size:=by rw[aB];omega
 have m1:w1.heap[w.heap.size]? =some (.cells #[.int .i64 6,.int .i64 n,.int .i64 t,.string S,.string F] 42):=by rw[hb1.block w.heap.size z1];exact m0
 have z2:w.heap.size<w1.heap.size:=(Array.getElem?_eq_some_iff.1 m1).1;have d0:∀o,(w1.alloc o).cell? ⟨w.heap.size,0,none⟩=some (.int .i64 6):=fun o=>(World.cell?_alloc_lt _ _ _ z2).trans (by rw[af m1];rfl)
 have d1:∀o,(w1.alloc o).cell? ⟨w.heap.size,1,none⟩=some (.int .i64 n):=fun o=>(World.cell?_alloc_lt _ _ _ z2).trans (by rw[af m1];rfl)
 have d2:∀o,(w1.alloc o).cell? ⟨w.heap.size,2,none⟩=some (.int .i64 t):=fun o=>(World.cell?_alloc_lt _ _ _ z2).trans (by rw[af m1];rfl)
 have d3:∀o,(w1.alloc o).cell? ⟨w.heap.size,3,none⟩=some (.string S):=fun o=>(World.cell?_alloc_lt _ _ _ z2).trans (by rw[af m1];rfl)
 have d4:∀o,(w1.alloc o).cell? ⟨w.heap.size,4,none⟩=some (.string F):=fun o=>(World.cell?_alloc_lt _ _ _ z2).trans (by rw[af m1];rfl)
 clear c hb1 m0 m1 z1
 cases hn:(qo t).isSome with
 |true=>
  go_wp2;go_ret;exact⟨hZ (by rw[HM.o,hn,<-HB.o];rfl),B1.o.alloc B1.o.size _⟩
 |false=>
  go_wp2;go_ret;exact⟨hZ (by rw[HM.o,hn];rfl),B1.o.alloc B1.o.size _⟩
theorem Ll(k n t:Int)(hk:k<1\/6<k)(S F:ByteArray)(w:World):Calls ah 173 #[.agg #[.int .i64 k,.int .i64 n,.int .i64 t,.string S,.string F]] w fun e w'=>e=.returned (.bool false)/\Below w.heap.size w w':=by
 have B0:=qet ((aw w.heap.size w).alloc (aj _) (.cells #[.int .i64 k,.int .i64 n,.int .i64 t,.string S,.string F] 42));have q1:(k==1)=false:=by rw[beq_eq_false_iff_ne];omega
 have q2:(k==2)=false:=by rw[beq_eq_false_iff_ne];omega
 have q3:(k==3)=false:=by rw[beq_eq_false_iff_ne];omega
 have q4:(k==4)=false:=by rw[beq_eq_false_iff_ne];omega
 have q5:(k==5)=false:=by rw[beq_eq_false_iff_ne];omega
 have q6:(k==6)=false:=by rw[beq_eq_false_iff_ne];omega
 clear hk;go_enter dN,dF;go_wp2;go_ret;exact⟨rfl,B0.o⟩
theorem I7(k n t:Int)(s f:Bs)(w:World)(hg:kZ w):Calls ah 173 #[.agg #[.int .i64 k,.int .i64 n,.int .i64 t,.string ⟨s.toArray⟩,.string ⟨f.toArray⟩]] w fun e w'=>e=.returned (.bool (jX ⟨k,s,f,n,t⟩))/\Below w.heap.size w w':=by
 by_cases h1:k=1
 ·subst h1;exact Pf n t s f w hg
 by_cases h2:k=2\/k=3
 ·exact Lk k n t h2 s f w hg
 by_cases h4:k=4
 ·subst h4;exact I6 n t s f w hg
 by_cases h5:k=5
 ·subst h5;exact SE n t s f w hg
 by_cases h6:k=6
 ·subst h6;exact SG n t s f w hg
 have e:jX ⟨k,s,f,n,t⟩=false:=by
  unfold jX;simp only[];rw[if_neg h1,if_neg h2,if_neg h4,if_neg h5,if_neg h6]
 rw[e];exact Ll k n t (by omega) _ _ w
structure Pv where
 k:Int
 n:Int
 t:Int
 s:ByteArray
 f:ByteArray
def Rz(x:Pv):List Value:=[.int .i64 x.k,.int .i64 x.n,.int .i64 x.t,.string x.s,.string x.f]
def oE:List Pv->List Value
 |[]=>[]
 |x::l=>Rz x++oE l
theorem DI(a b:List Pv):oE (a++b)=oE a++oE b:=by
 induction a with
 |nil=>rfl
 |cons x a ih=>rw[bM,oE,oE,ih,aO]
theorem DJ(l:List Pv):∀(i j:Nat)(h:i<l.length),j<5->(oE l)[i*5+j]? =(Rz l[i])[j]? :=by
 induction l with
 |nil=>intro i j h;exact absurd h (fF _)
 |cons x l ih=>
  intro i j h hj
  match i with
  |0=>rw[oE,List.getElem?_append_left (by show 0*5+j<5;omega),fy,fg];rfl
  |i+1=>
   rw[oE,List.getElem?_append_right (by show 5<=_;omega)];show(oE l)[(i+1)*5+j-5]? =(Rz (l[i]'(by simpa using h)))[j]?;rw[show(i+1)*5+j-5=i*5+j from by omega];exact ih i j (by simpa using h) hj
def Yr(w:World)(b off:Nat)(l:List Pv):Prop:=
 ∀i x,l[i]? =some x->w.cell? ⟨b,off+i*5,none⟩=some (.int .i64 x.k)/\w.cell? ⟨b,off+i*5+1,none⟩=some (.int .i64 x.n)/\w.cell? ⟨b,off+i*5+2,none⟩=some (.int .i64 x.t)/\w.cell? ⟨b,off+i*5+3,none⟩=some (.string x.s)/\w.cell? ⟨b,off+i*5+4,none⟩=some (.string x.f)
def tQ(w:World)(v:Value)(l:List Pv):Prop:=
 ∃(a:Option Addr)(b off cap:Nat),v=.slice a l.length cap/\(0<l.length->b<w.heap.size/\a=some ⟨b,off,none⟩)/\Yr w b off l
variable {B:Nat}{v:Value}{w:World}{w':World}
theorem tQ.below{l:List Pv}(h:tQ w v l)(hb:Below B w w')(hB:w.heap.size<=B):tQ w' v l:=by
 obtain⟨a,b,off,cap,rfl,hb0,hI⟩:=h;refine⟨a,b,off,cap,rfl,fun h=>⟨by have:=hb.size;have:=(hb0 h).1;omega,(hb0 h).2⟩,fun i x hx=>?_⟩;have hlt:b<B:=by have:=(hb0 (by have:=(List.getElem?_eq_some_iff.1 hx).1;omega)).1;omega
 obtain⟨h1,h2,h3,h4,h5⟩:=hI i x hx;exact⟨(hb.cell (p:=⟨b,_,none⟩) hlt).trans h1,(hb.cell (p:=⟨b,_,none⟩) hlt).trans h2,(hb.cell (p:=⟨b,_,none⟩) hlt).trans h3,(hb.cell (p:=⟨b,_,none⟩) hlt).trans h4,(hb.cell (p:=⟨b,_,none⟩) hlt).trans h5⟩
variable {base:Nat}
theorem tQ.oF{l:List Pv}(h:w.ownsRow base 42 5 v l.length (oE l)):tQ w v l:=by
 rcases h.2 with⟨rfl,h0⟩|⟨g,cap,cur,rfl,hb,hg,hn,hm,hc,ht⟩
 ·have hl:l=[]:=cu h0;subst hl;exact⟨none,0,0,0,rfl,fun h=>absurd h (Nat.lt_irrefl 0),fun i x hx=>by cases hx⟩
 ·refine⟨some ⟨g,0,none⟩,g,0,cap,rfl,fun _=>⟨(Array.getElem?_eq_some_iff.1 hg).1,rfl⟩,fun i x hx=>?_⟩;obtain⟨hi,he⟩:=List.getElem?_eq_some_iff.1 hx
  have key:∀j,j<5->w.cell? ⟨g,i*5+j,none⟩=(Rz x)[j]? :=fun j hj=>by
   rw[h.cellAt (i*5+j) (by omega),DJ l i j hi hj,he]
  rw[fg];exact⟨key 0 (by omega),key 1 (by omega),key 2 (by omega),key 3 (by omega),key 4 (by omega)⟩
def kO(x:Pv):Pt:=⟨x.k,x.s.data.toList,x.f.data.toList,x.n,x.t⟩
theorem nj(s:ByteArray):(⟨s.data.toList.toArray⟩:ByteArray)=s:=by cases s;simp
theorem Pg(x:Pv)(w:World)(hg:kZ w):Calls ah 173 #[.agg #[.int .i64 x.k,.int .i64 x.n,.int .i64 x.t,.string x.s,.string x.f]] w fun e w'=>e=.returned (.bool (jX (kO x)))/\Below w.heap.size w w':=by
 have h:=I7 x.k x.n x.t x.s.data.toList x.f.data.toList w hg;rw[nj,nj]at h;exact h
theorem yA(x:Pv)(w:World):Calls ah 168 #[.agg #[.int .i64 x.k,.int .i64 x.n,.int .i64 x.t,.string x.s,.string x.f]] w fun e w'=>e=.returned (.int .i64 ((takes (kO x):Nat):Int))/\Below w.heap.size w w':=BQ x.k x.n x.t x.s x.f w
structure Tv where
 k:Int
 s:ByteArray
 n:Int
 t:Int
 at_:Int
def RA(x:Tv):List Value:=[.int .i64 x.k,.string x.s,.int .i64 x.n,.int .i64 x.t,.int .i64 x.at_]
def kJ:List Tv->List Value
 |[]=>[]
 |x::l=>RA x++kJ l
theorem mD(a b:List Tv):kJ (a++b)=kJ a++kJ b:=by
 induction a with
 |nil=>rfl
 |cons x a ih=>rw[bM,kJ,kJ,ih,aO]
theorem mE(l:List Tv):(kJ l).length=l.length*5:=by
 induction l with
 |nil=>rfl
 |cons x l ih=>rw[kJ,ao,ih,aG];show 5+_=_;omega
theorem yB(l:List Tv):∀(i j:Nat)(h:i<l.length),j<5->(kJ l)[i*5+j]? =(RA l[i])[j]? :=by
 induction l with
 |nil=>intro i j h;exact absurd h (fF _)
 |cons x l ih=>
  intro i j h hj
  match i with
  |0=>rw[kJ,List.getElem?_append_left (by show 0*5+j<5;omega),fy,fg];rfl
  |i+1=>
   rw[kJ,List.getElem?_append_right (by show 5<=_;omega)];show(kJ l)[(i+1)*5+j-5]? =(RA (l[i]'(by simpa using h)))[j]?;rw[show(i+1)*5+j-5=i*5+j from by omega];exact ih i j (by simpa using h) hj
theorem Lm(l:List Tv):∀u∈kJ l,u.oneCell'=true:=by
 induction l with
 |nil=>intro u hu;cases hu
 |cons x l ih=>
  intro u hu
  rcases aN.1 hu with h|h
  ·simp only[RA,aI,bG,or_false]at h
   rcases h with rfl|rfl|rfl|rfl|rfl <;> rfl
  ·exact ih u h
def DK(L:Nat)(x:Tk×Nat):Tv:=⟨x.1.kind,⟨x.1.s.toArray⟩,x.1.n,x.1.ty,((L-x.2:Nat):Int)⟩
def Ln(w:World)(b off:Nat)(l:List Tv):Prop:=
 ∀i x,l[i]? =some x->w.cell? ⟨b,off+i*5,none⟩=some (.int .i64 x.k)/\w.cell? ⟨b,off+i*5+1,none⟩=some (.string x.s)/\w.cell? ⟨b,off+i*5+2,none⟩=some (.int .i64 x.n)/\w.cell? ⟨b,off+i*5+3,none⟩=some (.int .i64 x.t)/\w.cell? ⟨b,off+i*5+4,none⟩=some (.int .i64 x.at_)
def ku(w:World)(v:Value)(l:List Tv):Prop:=
 ∃(a:Option Addr)(b off cap:Nat),v=.slice a l.length cap/\(0<l.length->b<w.heap.size/\a=some ⟨b,off,none⟩)/\Ln w b off l
variable {l:List Tv}
theorem ku.below(h:ku w v l)(hb:Below B w w')(hB:w.heap.size<=B):ku w' v l:=by
 obtain⟨a,b,off,cap,rfl,hb0,hI⟩:=h;refine⟨a,b,off,cap,rfl,fun h=>⟨by have:=hb.size;have:=(hb0 h).1;omega,(hb0 h).2⟩,fun i x hx=>?_⟩;have hlt:b<B:=by have:=(hb0 (by have:=(List.getElem?_eq_some_iff.1 hx).1;omega)).1;omega
 obtain⟨h1,h2,h3,h4,h5⟩:=hI i x hx;exact⟨(hb.cell (p:=⟨b,_,none⟩) hlt).trans h1,(hb.cell (p:=⟨b,_,none⟩) hlt).trans h2,(hb.cell (p:=⟨b,_,none⟩) hlt).trans h3,(hb.cell (p:=⟨b,_,none⟩) hlt).trans h4,(hb.cell (p:=⟨b,_,none⟩) hlt).trans h5⟩
theorem ku.oF(h:w.ownsRow base 54 5 v l.length (kJ l)):ku w v l:=by
 rcases h.2 with⟨rfl,h0⟩|⟨g,cap,cur,rfl,hb,hg,hn,hm,hc,ht⟩
 ·have hl:l=[]:=cu h0;subst hl;exact⟨none,0,0,0,rfl,fun h=>absurd h (Nat.lt_irrefl 0),fun i x hx=>by cases hx⟩
 ·refine⟨some ⟨g,0,none⟩,g,0,cap,rfl,fun _=>⟨(Array.getElem?_eq_some_iff.1 hg).1,rfl⟩,fun i x hx=>?_⟩;obtain⟨hi,he⟩:=List.getElem?_eq_some_iff.1 hx
  have key:∀j,j<5->w.cell? ⟨g,i*5+j,none⟩=(RA x)[j]? :=fun j hj=>by
   rw[h.cellAt (i*5+j) (by omega),yB l i j hi hj,he]
  rw[fg];exact⟨key 0 (by omega),key 1 (by omega),key 2 (by omega),key 3 (by omega),key 4 (by omega)⟩
variable {b:Nat}
theorem Lo{off:Nat}(h:Ln w b off l):∀j u,(kJ l)[j]? =some u->w.cell? ((⟨b,off,none⟩:Addr).add j)=some u:=fun j u hu=>by
 have hj:j<l.length*5:=by rw[<-mE];exact(List.getElem?_eq_some_iff.1 hu).1
 have hi:j / 5<l.length:=by omega
 have e:(kJ l)[j / 5*5+j % 5]? =(RA l[j / 5])[j % 5]? :=yB l (j / 5) (j % 5) hi (by omega);rw[show j / 5*5+j % 5=j from by omega,hu]at e;obtain⟨h0,h1,h2,h3,h4⟩:=h (j / 5) _ (List.getElem?_eq_getElem hi);rw[Addr.add_mid];have hr:j % 5=0\/j % 5=1\/j % 5=2\/j % 5=3\/j % 5=4:=by omega
 rcases hr with r|r|r|r|r
 ·rw[r]at e;rw[show off+j=off+j / 5*5 from by omega,h0];exact e.symm
 ·rw[r]at e;rw[show off+j=off+j / 5*5+1 from by omega,h1];exact e.symm
 ·rw[r]at e;rw[show off+j=off+j / 5*5+2 from by omega,h2];exact e.symm
 ·rw[r]at e;rw[show off+j=off+j / 5*5+3 from by omega,h3];exact e.symm
 ·rw[r]at e;rw[show off+j=off+j / 5*5+4 from by omega,h4];exact e.symm
def kU(x:Tv):Tk:=⟨x.k,x.s.data.toList,x.n,x.t⟩
def Ai:Tv:=⟨0,⟨#[]⟩,0,0,0⟩
def gQ(l:List Tv)(i:Nat):Tv:=l.getD i Ai
def oG(x:Tv):Value:=.agg #[.int .i64 x.k,.string x.s,.int .i64 x.n,.int .i64 x.t,.int .i64 x.at_]
structure Keep(B R:Nat)(w w':World):Prop where
 os:w'.os=w.os
 tape:w'.tape=w.tape
 output:w'.output=w.output
 size:w.heap.size<=w'.heap.size
 block:∀k,k<B->k≠R->w'.heap[k]? =w.heap[k]?
 others:∀k o,w.heap[k]? =some o->k≠R->(∀c fz,o≠.cells c 42 fz)->w'.heap[k]? =some o
theorem Keep.refl(B R:Nat)(w:World):Keep B R w w:=⟨rfl,rfl,rfl,aj _,fun _ _ _=>rfl,fun _ _ h _ _=>h⟩
variable {a:World}{R:Nat}
theorem Keep.trans{b c:World}(h:Keep B R a b)(k:Keep B R b c):Keep B R a c:=
 ⟨k.os.trans h.os,k.tape.trans h.tape,k.output.trans h.output,aP h.size k.size,fun i hi hr=>(k.block i hi hr).trans (h.block i hi hr),fun i o ho hr hn=>k.others i o (h.others i o ho hr hn) hr hn⟩
theorem Keep.of_below(h:Below w.heap.size w w')(hB:B<=w.heap.size):Keep B R w w':=
 ⟨h.os,h.tape,h.output,h.size,fun k hk _=>h.block k (aJ hk hB),fun k _ ho _ _=>(h.block k (Array.getElem?_eq_some_iff.1 ho).1).trans ho⟩
theorem Keep.setCell(h:Keep B R a w){p:Addr}(hp:p.block=R)(u:Value):Keep B R a (w.setCell p u):=
 ⟨h.os,h.tape,h.output,by rw[bO];exact h.size,fun k hk hr=>(aM w p u k (by omega)).trans (h.block k hk hr),fun k o ho hr hn=>(aM w p u k (by omega)).trans (h.others k o ho hr hn)⟩
structure RS(B R:Nat)(tv:Value)(toks:List Tv)(at_ op:Nat)(ps:List Pv)(fa fc:Int)(w:World):Prop where
 hB:R<B
 le:B<=w.heap.size
 here:at_<=toks.length
 row:∃pv,w.heap[R]? =some (.cells #[tv,.int .i64 (at_:Int),.int .i64 (op:Int),pv,.int .i64 fa,.int .i64 fc] 206)/\w.ownsRow B 42 5 pv ps.length (oE ps)
 toks:∃(a:Option Addr)(b off cap:Nat),tv=.slice a toks.length cap/\(0<toks.length->b<B/\b≠R/\a=some ⟨b,off,none⟩)/\Ln w b off toks
def Sl(w:World)(P:Nat->Prop)(size:Nat)(v:Value)(n:Nat)(cs:List Value):Prop:=
 ∃(a:Option Addr)(b off cap:Nat),v=.slice a n cap/\n<=1000000000/\cs.length=n*size/\(0<n->P b/\a=some ⟨b,off,none⟩)/\∀j u,cs[j]? =some u->w.cell? ⟨b,off+j,none⟩=some u
def On(P P':Nat->Prop)(w w':World):Prop:=∀b,P b->b<w.heap.size->P' b/\w'.heap[b]? =w.heap[b]?
variable {n:Nat}{size:Nat}{P:Nat->Prop}{P':Nat->Prop}
theorem Sl.on{cs:List Value}(h:Sl w P size v n cs)(hz:0<size)(ho:On P P' w w'):Sl w' P' size v n cs:=by
 obtain⟨a,b,off,cap,hv,hn,hl,hb,hc⟩:=h
 by_cases h0:0<n
 ·obtain⟨hP,ha⟩:=hb h0;have hpos:0<cs.length:=by rw[hl];exact Nat.mul_pos h0 hz
  have hlt:b<w.heap.size:=World.block_lt_of_cell? w ⟨b,off+0,none⟩ (hc 0 _ (List.getElem?_eq_getElem hpos));obtain⟨hP',he⟩:=ho b hP hlt;exact⟨a,b,off,cap,hv,hn,hl,fun _=>⟨hP',ha⟩,fun j u hu=>(World.cell?_of_block he).trans (hc j u hu)⟩
 ·have hl0:cs=[]:=cu (by rw[hl,show n=0 by omega,fy]);subst hl0;exact⟨a,b,off,cap,hv,hn,hl,fun h=>absurd h h0,fun j u hu=>by cases hu⟩
def mg(w:World)(P:Nat->Prop)(x:List Pt)(v:Value):Prop:=∃xs:List Pv,xs.map kO=x/\Sl w P 5 v xs.length (oE xs)
def AR(w:World)(P:Nat->Prop)(l:List Int)(v:Value):Prop:=Sl w P 1 v l.length (l.map fun n=>.int .i64 n)
def Hs(w:World)(P:Nat->Prop):List (Bs×List Pt)->List Value->Prop
 |[],c=>c=[]
 |a::l,c=>∃nv xv b,c=.string nv::xv::b/\nv.data.toList=a.1/\mg w P a.2 xv/\Hs w P l b
def BR(w:World)(P:Nat->Prop)(l:List (Bs×List Pt))(v:Value):Prop:=∃cs,Sl w P 2 v l.length cs/\Hs w P l cs
mutual
def xp(w:World)(P:Nat->Prop):St->List Value->Prop
 |⟨k,nm,i,x,y,b_,bd,el,ar,ag⟩,c=>∃nv iv xv yv bv ev av gv,c=[.int .i64 k,.string nv,iv,xv,yv,.int .i64 b_,bv,ev,av,gv]/\nv.data.toList=nm/\mg w P i iv/\mg w P x xv/\mg w P y yv/\(∃cs,Sl w P 10 bv bd.length cs/\oH w P bd cs)/\(∃cs,Sl w P 10 ev el.length cs/\oH w P el cs)/\(∃cs,Sl w P 2 av ar.length cs/\qH w P ar cs)/\BR w P ag gv
def oH(w:World)(P:Nat->Prop):List St->List Value->Prop
 |[],c=>c=[]
 |s::l,c=>∃a b,c=a++b/\a.length=10/\xp w P s a/\oH w P l b
def qH(w:World)(P:Nat->Prop):List (List Int×List St)->List Value->Prop
 |[],c=>c=[]
 |a::l,c=>∃x b,c=x++b/\x.length=2/\Ht w P a x/\qH w P l b
def Ht(w:World)(P:Nat->Prop):List Int×List St->List Value->Prop
 |(ls,b),x=>∃lv bv,x=[lv,bv]/\AR w P ls lv/\∃cs,Sl w P 10 bv b.length cs/\oH w P b cs
end
def lk(w:World)(P:Nat->Prop)(l:List St)(v:Value):Prop:=∃cs,Sl w P 10 v l.length cs/\oH w P l cs
def DL(w:World)(P:Nat->Prop)(l:List (List Int×List St))(v:Value):Prop:=∃cs,Sl w P 2 v l.length cs/\qH w P l cs
variable {x:List Pt}
theorem mg.on(h:mg w P x v)(ho:On P P' w w'):mg w' P' x v:=by
 obtain⟨xs,h1,h2⟩:=h;exact⟨xs,h1,h2.on (by omega) ho⟩
theorem AR.on{l:List Int}(h:AR w P l v)(ho:On P P' w w'):AR w' P' l v:=Sl.on h (by omega) ho
theorem Hs.on{w w':World}{P P':Nat->Prop}(ho:On P P' w w'):∀ {l:List (Bs×List Pt)}{c:List Value},Hs w P l c->Hs w' P' l c
 |[],_,h=>h
 |_::_,_,⟨nv,xv,b,h1,h2,h3,h4⟩=>⟨nv,xv,b,h1,h2,h3.on ho,Hs.on ho h4⟩
theorem BR.on{l:List (Bs×List Pt)}(h:BR w P l v)(ho:On P P' w w'):BR w' P' l v:=by
 obtain⟨cs,h1,h2⟩:=h;exact⟨cs,h1.on (by omega) ho,h2.on ho⟩
mutual
theorem xp.on{w w':World}{P P':Nat->Prop}(ho:On P P' w w'):∀(s:St)(c:List Value),xp w P s c->xp w' P' s c
 |⟨k,nm,i,x,y,b_,bd,el,ar,ag⟩,c,h=>by
  simp only[xp]at h ⊢;obtain⟨nv,iv,xv,yv,bv,ev,av,gv,h1,h2,h3,h4,h5,⟨c6,a6,b6⟩,⟨c7,a7,b7⟩,⟨c8,a8,b8⟩,h9⟩:=h;exact⟨nv,iv,xv,yv,bv,ev,av,gv,h1,h2,h3.on ho,h4.on ho,h5.on ho,⟨c6,a6.on (by omega) ho,oH.on ho bd c6 b6⟩,⟨c7,a7.on (by omega) ho,oH.on ho el c7 b7⟩,⟨c8,a8.on (by omega) ho,qH.on ho ar c8 b8⟩,h9.on ho⟩
theorem oH.on{w w':World}{P P':Nat->Prop}(ho:On P P' w w'):∀(l:List St)(c:List Value),oH w P l c->oH w' P' l c
 |[],c,h=>by simp only[oH]at h ⊢;exact h
 |s::l,c,h=>by
  simp only[oH]at h ⊢;obtain⟨a,b,h1,h2,h3,h4⟩:=h;exact⟨a,b,h1,h2,xp.on ho s a h3,oH.on ho l b h4⟩
theorem qH.on{w w':World}{P P':Nat->Prop}(ho:On P P' w w'):∀(l:List (List Int×List St))(c:List Value),qH w P l c->qH w' P' l c
 |[],c,h=>by simp only[qH]at h ⊢;exact h
 |s::l,c,h=>by
  simp only[qH]at h ⊢;obtain⟨a,b,h1,h2,h3,h4⟩:=h;exact⟨a,b,h1,h2,Ht.on ho s a h3,qH.on ho l b h4⟩
theorem Ht.on{w w':World}{P P':Nat->Prop}(ho:On P P' w w'):∀(a:List Int×List St)(c:List Value),Ht w P a c->Ht w' P' a c
 |(ls,b),c,h=>by
  simp only[Ht]at h ⊢;obtain⟨lv,bv,h1,h2,cs,h3,h4⟩:=h;exact⟨lv,bv,h1,h2.on ho,cs,h3.on (by omega) ho,oH.on ho b cs h4⟩
end
theorem lk.on{l:List St}(h:lk w P l v)(ho:On P P' w w'):lk w' P' l v:=by
 obtain⟨cs,h1,h2⟩:=h;exact⟨cs,h1.on (by omega) ho,oH.on ho l cs h2⟩
theorem DL.on{l:List (List Int×List St)}(h:DL w P l v)(ho:On P P' w w'):DL w' P' l v:=by
 obtain⟨cs,h1,h2⟩:=h;exact⟨cs,h1.on (by omega) ho,qH.on ho l cs h2⟩
abbrev Tt:Nat->Prop:=fun _=>True
theorem On.below(h:Below w.heap.size w w'):On Tt Tt w w':=fun b _ hb=>⟨trivial,h.block b hb⟩
theorem On.any(w:World):On P Tt w w:=fun _ _ _=>⟨trivial,rfl⟩
theorem nD(w:World)(P:Nat->Prop)(s:St)(c:List Value):xp w P s c↔∃nv iv xv yv bv ev av gv,c=[.int .i64 s.kind,.string nv,iv,xv,yv,.int .i64 s.gT,bv,ev,av,gv]/\nv.data.toList=s.name/\mg w P s.idx iv/\mg w P s.x xv/\mg w P s.y yv/\lk w P s.body bv/\lk w P s.els ev/\DL w P s.arms av/\BR w P s.args gv:=by
 obtain⟨k,nm,i,x,y,b_,bd,el,ar,ag⟩:=s;simp only[xp];exact Iff.rfl
theorem rh(w:World)(P:Nat->Prop):∀(a b:List St)(c d:List Value),oH w P a c->oH w P b d->oH w P (a++b) (c++d)
 |[],b,c,d,h1,h2=>by
  simp only[oH]at h1;subst h1;exact h2
 |s::a,b,c,d,h1,h2=>by
  simp only[oH,bM]at h1 ⊢;obtain⟨x,y,e1,e2,e3,e4⟩:=h1;exact⟨x,y++d,by rw[e1,aO],e2,e3,rh w P a b y d e4 h2⟩
theorem sV(w:World)(P:Nat->Prop):∀(l:List St)(c:List Value)(i:Nat)(s:St),oH w P l c->l[i]? =some s->∃d,d.length=10/\xp w P s d/\∀j,j<10->c[i*10+j]? =d[j]?
 |[],_,_,_,_,h=>by cases h
 |t::l,c,0,s,h,hi=>by
  simp only[oH]at h;obtain⟨a,b,h1,h2,h3,h4⟩:=h;obtain rfl:t=s:=an hi;exact⟨a,h2,h3,fun j hj=>by rw[h1,fy,fg,List.getElem?_append_left (by omega)]⟩
 |t::l,c,i+1,s,h,hi=>by
  simp only[oH]at h;obtain⟨a,b,h1,h2,h3,h4⟩:=h;obtain⟨d,e1,e2,e3⟩:=sV w P l b i s h4 hi;refine⟨d,e1,e2,fun j hj=>?_⟩;rw[h1,List.getElem?_append_right (by omega),<-e3 j hj]
  congr 1
  omega
theorem oI(w:World)(P:Nat->Prop):∀(l:List (List Int×List St))(c:List Value)(i:Nat)(s:List Int×List St),qH w P l c->l[i]? =some s->∃lv bv,c[i*2]? =some lv/\c[i*2+1]? =some bv/\AR w P s.1 lv/\lk w P s.2 bv
 |[],_,_,_,_,h=>by cases h
 |t::l,c,0,s,h,hi=>by
  simp only[qH]at h;obtain⟨a,b,h1,h2,h3,h4⟩:=h;obtain rfl:t=s:=an hi;obtain⟨ls,bd⟩:=t;simp only[Ht]at h3;obtain⟨lv,bv,e1,e2,e3⟩:=h3;subst e1 h1;exact⟨lv,bv,rfl,rfl,e2,e3⟩
 |t::l,c,i+1,s,h,hi=>by
  simp only[qH]at h;obtain⟨a,b,h1,h2,h3,h4⟩:=h;obtain⟨lv,bv,e1,e2,e3,e4⟩:=oI w P l b i s h4 hi;refine⟨lv,bv,?_,?_,e3,e4⟩
  ·rw[h1,List.getElem?_append_right (by omega),<-e1];congr 1;omega
  ·rw[h1,List.getElem?_append_right (by omega),<-e2];congr 1;omega
theorem xG(w:World)(P:Nat->Prop):∀(l:List (Bs×List Pt))(c:List Value)(i:Nat)(s:Bs×List Pt),Hs w P l c->l[i]? =some s->∃nv xv,c[i*2]? =some (.string nv)/\c[i*2+1]? =some xv/\nv.data.toList=s.1/\mg w P s.2 xv
 |[],_,_,_,_,h=>by cases h
 |t::l,c,0,s,h,hi=>by
  obtain⟨nv,xv,b,h1,h2,h3,h4⟩:=h;obtain rfl:t=s:=an hi;subst h1;exact⟨nv,xv,rfl,rfl,h2,h3⟩
 |t::l,c,i+1,s,h,hi=>by
  obtain⟨nv,xv,b,h1,h2,h3,h4⟩:=h;obtain⟨lv,bv,e1,e2,e3,e4⟩:=xG w P l b i s h4 hi;subst h1;refine⟨lv,bv,?_,?_,e3,e4⟩
  ·rw[show(i+1)*2=i*2+1+1 from by omega];exact e1
  ·rw[show(i+1)*2+1=i*2+1+1+1 from by omega];exact e2
theorem mg.lst(h:mg w P x v):∃xs:List Pv,xs.map kO=x/\xs.length<=1000000000/\tQ w v xs:=by
 obtain⟨xs,h1,a,b,off,cap,hv,hn,hl,hb,hc⟩:=h;refine⟨xs,h1,hn,a,b,off,cap,hv,fun h0=>?_,fun i p hp=>?_⟩
 ·have hpos:0<(oE xs).length:=by rw[hl];omega
  exact⟨World.block_lt_of_cell? w ⟨b,off+0,none⟩ (hc 0 _ (List.getElem?_eq_getElem hpos)),(hb h0).2⟩
 ·obtain⟨hi,he⟩:=List.getElem?_eq_some_iff.1 hp
  have key:∀j u,j<5->(Rz p)[j]? =some u->w.cell? ⟨b,off+i*5+j,none⟩=some u:=fun j u hj hu=>by
   rw[Nat.add_assoc];exact hc (i*5+j) u (by rw[DJ xs i j hi hj,he];exact hu)
  exact⟨key 0 _ (by omega) rfl,key 1 _ (by omega) rfl,key 2 _ (by omega) rfl,key 3 _ (by omega) rfl,key 4 _ (by omega) rfl⟩
def deep(l:List Nat):Nat:=l.foldl (fun m d=>max m (d+1)) 1
def stepD(p:Pt)(ds:List Nat):Option (List Nat):=
 if ds.length<takes p then none else some (ds.take (ds.length-takes p)++[deep (ds.drop (ds.length-takes p))])
theorem DM(p:Pt):takes p=0\/takes p=1\/takes p=2:=by have:=ym p;omega
theorem lS(p:Pt)(x:List Pt)(ds:List Nat):depths (p::x) ds.reverse=match stepD p ds with
  |none=>none
  |some ds'=>depths x ds'.reverse:=by
 conv=>lhs;unfold depths
 unfold stepD
 rcases DM p with h|h|h
 ·rw[h,if_pos rfl,if_neg (by omega)];simp only[Nat.sub_zero,List.take_length,List.drop_length,dO,dk,List.reverse_nil,bQ,List.singleton_append];rfl
 ·rw[h,if_neg (by decide),if_pos rfl]
  rcases dG ds with rfl|⟨l,a,rfl⟩
  ·rfl
  ·rw[dH,dO,if_neg (by simp)];simp only[ao,aG,eY,fg,Nat.add_sub_cancel,List.take_left',List.drop_left',dO,dk,List.reverse_nil,bQ,bM];show depths x ((a+1)::l.reverse)=depths x (deep [a]::l.reverse);have:deep [a]=a+1:=by show max 1 (a+1)=a+1;omega
   rw[this]
 ·rw[h,if_neg (by decide),if_neg (by decide)]
  rcases dG ds with rfl|⟨l,a,rfl⟩
  ·rfl
  ·rcases dG l with rfl|⟨l,b,rfl⟩
   ·rfl
   ·rw[dH,dH,if_neg (by simp)];have e1:(l++[b]++[a]).length-2=l.length:=by simp
    rw[e1,aO,List.take_left' rfl,List.drop_left' rfl];simp only[dO,dk,List.reverse_nil,bQ,bM];show depths x ((max a b+1)::l.reverse)=depths x (deep [b,a]::l.reverse);have:deep [b,a]=max a b+1:=by show max (max 1 (b+1)) (a+1)=_;omega
    rw[this]
theorem oZ:∀(a b:List Pt)(st:List Nat),depths (a++b) st=match depths a st with
  |none=>none
  |some st'=>depths b st'
 |[],b,st=>rfl
 |p::a,b,st=>by
  obtain⟨ds,rfl⟩:∃ds:List Nat,st=ds.reverse:=⟨st.reverse,(List.reverse_reverse st).symm⟩
  rw[bM,lS,lS]
  cases stepD p ds with
  |none=>rfl
  |some ds'=>exact oZ a b _
theorem Ph(l:List Nat):∀m,(∀d∈l,d+1<=l.foldl (fun m d=>max m (d+1)) m)/\m<=l.foldl (fun m d=>max m (d+1)) m:=by
 induction l with
 |nil=>intro m;exact⟨fun d hd=>(by cases hd),aj _⟩
 |cons a l ih=>
  intro m;obtain⟨h1,h2⟩:=ih (max m (a+1));refine⟨fun d hd=>?_,?_⟩
  ·rcases aI.1 hd with rfl|hd
   ·exact aP (Nat.le_max_right _ _) h2
   ·exact h1 d hd
  ·exact aP (Nat.le_max_left _ _) h2
theorem I8(hl:¬500<x.length)(h:x.all jX=false\/depth x=0\/24<depth x):kL x=60:=by
 unfold kL;rw[if_neg hl]
 by_cases ha:x.all jX=false
 ·rw[if_pos ha]
 ·rw[if_neg ha]
  rcases h with h|h
  ·exact absurd h ha
  ·rw[if_pos h]
variable {i:Nat}
theorem I9(hl:¬500<x.length){p:Pt}(hi:x[i]? =some p)(hp:jX p=false):kL x=60:=
 I8 hl (.inl (by rw[List.all_eq_false];exact⟨p,List.mem_of_getElem? hi,by rw[hp];decide⟩))
theorem Lp{p:Pt}(hi:x[i]? =some p):x=x.take i++p::x.drop (i+1):=by
 obtain⟨h,e⟩:=List.getElem?_eq_some_iff.1 hi;rw[<-e,<-eW h,List.take_append_drop]
theorem By:(ah.info? 3).map (fun i=>(i.zero,i.size,i.bytes))=some (some (.int .i64 0),1,8):=by kernel_rfl
def rj(ds:List Nat):List Value:=ds.map fun(d:Nat)=>.int .i64 (d:Int)
variable {xs:List Value}
theorem yC{e:Nat}(h:w.ownsRow base e size v n xs)(hb:Below w.heap.size w w'):w'.ownsRow base e size v n xs:=by
 refine⟨h.1,?_⟩
 rcases h.2 with h|⟨g,cap,cur,r1,r2,r3,r4⟩
 ·exact .inl h
 ·exact .inr ⟨g,cap,cur,r1,r2,by rw[hb.block g (Array.getElem?_eq_some_iff.1 r3).1];exact r3,r4⟩
theorem ll{e:Nat}(h:w.ownsRow base e size v n xs):∃a cap,v=.slice a n cap/\n<=cap:=by
 rcases h.2 with⟨h1,h2⟩|⟨g,cap,cur,h1,_,_,h4,_⟩
 ·exact⟨none,0,by rw[h1,h2],by omega⟩
 ·exact⟨_,_,h1,h4⟩
variable {ds:List Nat}
theorem yD{a:Option Addr}{cap:Nat}(h:w.ownsRow base 3 1 (.slice a n cap) n (rj ds))(k:Nat)(hk:k<=n):w.ownsRow base 3 1 (.slice a k cap) k (rj (ds.take k)):=by
 have hl:ds.length=n:=by have:=h.1;rw[rj,aQ]at this;omega
 refine⟨by rw[rj,aQ,bU];omega,?_⟩
 rcases h.2 with⟨h1,h2⟩|⟨g,cap',cur,h1,r2,r3,r4,r5,r6,r7⟩
 ·injection h1 with e1 e2 e3
  subst e1 e3;have:k=0:=by omega
  exact .inl ⟨by rw[this],this⟩
 ·injection h1 with e1 e2 e3
  subst e1 e3;refine .inr ⟨g,cap,cur,rfl,r2,r3,by omega,r5,r6,?_⟩;have:=congrArg (List.take k) r7;rw[List.take_take]at this;rw[rj,List.map_take,Nat.mul_one];rw[show min k (n*1)=k from by omega]at this;exact this
theorem one_cell(w:World)(c:Int):∀j u,([Value.int .i64 c])[j]? =some u->(w.alloc (.cells #[.int .i64 c] 3)).cell? ((⟨w.heap.size,0,none⟩:Addr).add j)=some u:=fun j u hj=>by
 match j,hj with
 |0,hj=>simp at hj;subst hj;simp[Addr.add]
theorem Ja(l:List Nat)(j d:Nat)(h:l[j]? =some d):deep (l.take (j+1))=max (deep (l.take j)) (d+1):=by
 unfold deep;rw[cr,h,List.foldl_append];rfl
theorem Hu(l:List Nat)(K:Nat)(h:∀d∈l,d<=K):deep l<=K+1:=by
 have key:∀(l:List Nat)(m:Nat),m<=K+1->(∀d∈l,d<=K)->l.foldl (fun m d=>max m (d+1)) m<=K+1:=by
  intro l
  induction l with
  |nil=>intro m hm _;exact hm
  |cons a l ih=>
   intro m hm hl;refine ih _ ?_ (fun d hd=>hl d (aK _ hd));have:=hl a aT;show max m (a+1)<=K+1;omega
 exact key l 1 (by omega) h
theorem yE(l:List Nat):1<=deep l:=(Ph l 1).2
theorem FZ{p:Pt}(hi:x[i]? =some p)(hd:depths (x.take i) []=some ds.reverse)(hp:stepD p ds=none):depth x=0:=by
 unfold depth;rw[Lp hi,oZ,hd];simp only[];rw[lS,hp]
theorem Jb(hd:depths x []=some ds.reverse)(h1:ds.length≠1):depth x=0:=by
 unfold depth;rw[hd]
 match hr:ds.reverse with
 |[]=>rfl
 |[a]=>exact absurd (by rw[<-List.length_reverse,hr];rfl) h1
 |a::b::r=>rfl
theorem F0{a:Nat}(hd:depths x []=some [a]):depth x=a:=by
 unfold depth;rw[hd]
theorem Pj{p:Pt}{ds':List Nat}{k:Nat}(h:stepD p ds=some ds')(hk:∀d∈ds,d<=k):∀d∈ds',d<=k+1:=by
 unfold stepD at h
 split at h
 ·cases h
 ·injection h with h
  intro d hd;rw[<-h]at hd
  rcases aN.1 hd with hd|hd
  ·exact dZ (hk d (bW hd))
  ·rw[aL.1 hd];exact Hu _ k (fun d hd=>hk d (cL hd))
theorem AS:∀(x:List Pt)(ds st:List Nat)(k:Nat),depths x ds.reverse=some st->(∀d∈ds,d<=k)->∀d∈st,d<=k+x.length
 |[],ds,st,k,h,hb=>by
  have h':some ds.reverse=some st:=h;injection h' with h
  intro d hd;rw[<-h]at hd;exact Nat.le_add_right_of_le (hb d (List.mem_reverse.1 hd))
 |p::x,ds,st,k,h,hb=>by
  rw[lS]at h
  cases hs:stepD p ds with
  |none=>rw[hs]at h;cases h
  |some ds'=>
   rw[hs]at h;have:=AS x ds' st (k+1) h (Pj hs hb);intro d hd;have:=this d hd;rw[aG];omega
theorem uH(x:List Pt):depth x<=x.length:=by
 unfold depth
 split
 ·rename_i d hd
  have:=AS x [] [d] 0 hd (fun d hd=>by cases hd) d aT;omega
 ·exact Nat.zero_le _
theorem wP(v:Value)(x:List Pv)(w:World)(hL:tQ w v x)(hlen:x.length<=3000000000000):Calls ah 174 #[v] w fun e w'=>e=.returned (.tuple #[.int .i64 ((depth (x.map kO):Nat):Int),.bool (decide (depth (x.map kO)≠0))])/\Below w.heap.size w w':=by
 obtain⟨a,b,off,cap,rfl,hA,hI⟩:=hL;have HA:=qet hA;have HI:=qet hI;obtain⟨N,hN⟩:∃N,N=x.length:=⟨_,rfl⟩
 have HN:=qet hN;rw[<-hN]at hlen ⊢;have n5:(N:Int)<=3000000000000:=by omega
 have n0:(0:Int)<=(N:Int):=by omega
 obtain⟨i0,hi,hz0,hz1,hz2⟩:=info_parts By;clear hN hA hI;go_enter Tryz.func174,Tryz.ntmps174;go_wp2_with fail
 go_loopw [4,13] (fun dv i wr=>∃(k:Nat)(ds:List Nat)(C9:Value),k<=N/\i=.int .i64 (k:Int)/\C9=dv/\qes (wr.ownsRow w.heap.size 3 1 C9 ds.length (rj ds)/\ds.length<=k/\depths ((x.map kO).take k) []=some ds.reverse/\(∀d∈ds,1<=d/\d<=k)/\Below w.heap.size w wr)) (fun _ i _=>N-(intOf i).toNat)
 case atStart=>exact⟨0,[],.slice none 0 0,by omega,rfl,rfl,bS _ _ _ _,aj _,rfl,fun d hd=>(by cases hd),aw _ _⟩
 case round=>
  obtain⟨k,ds,dv,hk,rfl,rfl,hh⟩:=hrel;have O:=qet hh.o.1;have HD:=qet hh.o.2.2.1;have HS:=qet hh.o.2.2.2.1;have HB:=qet hh.o.2.2.2.2;have hdl:=hh.o.2.1;obtain⟨da,Jc,hdv,hdc⟩:=ll O.o;subst hdv;clear hh
  by_cases hlt:k<N
  ·have j1:(k:Int)<(N:Int):=by omega
   have j0:(0:Int)<=(k:Int):=by omega
   obtain⟨y,hy⟩:∃y,x[k]? =some y:=⟨_,List.getElem?_eq_getElem (by rw[<-HN.o];exact hlt)⟩
   have HY:qes ((x.map kO)[k]? =some (kO y)):=by show _=_;rw[List.getElem?_map,hy];rfl
   obtain⟨hbw,rfl⟩:=HA.o (by rw[<-HN.o];omega);obtain⟨q0,q1,q2,q3,q4⟩:=HI.o k y hy;have c0:=(HB.o.cell (p:=⟨b,off+k*5,none⟩) hbw).trans q0;have c1:=(HB.o.cell (p:=⟨b,off+k*5+1,none⟩) hbw).trans q1;have c2:=(HB.o.cell (p:=⟨b,off+k*5+2,none⟩) hbw).trans q2;have c3:=(HB.o.cell (p:=⟨b,off+k*5+3,none⟩) hbw).trans q3;have c4:=(HB.o.cell (p:=⟨b,off+k*5+4,none⟩) hbw).trans q4;clear q0 q1 q2 q3 q4 hy;have zr:=HB.o.size;have m1:=fun W=>yA y W
   have B1:=HB.o.alloc zr (.cells #[.int .i64 y.k,.int .i64 y.n,.int .i64 y.t,.string y.s,.string y.f] 42);have hbel:=(aw wr.heap.size wr).alloc (aj _) (.cells #[.int .i64 y.k,.int .i64 y.n,.int .i64 y.t,.string y.s,.string y.f] 42);have O1:=yC O.o hbel;have htk:=ym (kO y);go_wp2_with fail;refine(m1 _).mono ?_;rintro e w1 ⟨rfl,hb1⟩;have bb1:=B1.trans (hb1.mono B1.size);have O3:=qet (yC O1 hb1);have Hv:=qet bb1;obtain⟨tk,SH⟩:∃tk,tk=takes (kO y):=⟨_,rfl⟩
   have Vp:=qet SH;rw[<-SH]at htk ⊢;have dl:(ds.length:Int)<=3000000000000:=by omega
   have tl:(tk:Int)<=2:=by omega
   clear c0 c1 c2 c3 c4 m1 O1 hb1 B1 hbel bb1 SH O;obtain⟨w2,hw2⟩:∃w2,w2=w1:=⟨_,rfl⟩
   subst hw2
   by_cases hf:ds.length<tk
   ·have HE:qes (depth (x.map kO)=0):=FZ HY.o HD.o (by unfold stepD;rw[if_pos (by rw[<-Vp.o];exact hf)]);have i3:(ds.length:Int)-(tk:Int)<0:=by omega
    clear hf;generalize ds.length=L at *;go_wp2;go_ret2;exact⟨by rw[HE.o];rfl,Hv.o⟩
   ·have i3:¬ (ds.length:Int)-(tk:Int)<0:=by omega
    obtain⟨F,hF⟩:∃F,F=ds.length-tk:=⟨_,rfl⟩
    have hF2:(ds.length:Int)-(tk:Int)=(F:Int):=by omega
    have Ys:qes (stepD (kO y) ds=some (ds.take F++[deep (ds.drop F)])):=by
     show _=_;unfold stepD;rw[if_neg (by rw[<-Vp.o];exact hf),<-Vp.o,<-hF]
    have SI:F<=ds.length:=by omega
    rw[hF2]at i3;have i4:(0:Int)<=(F:Int):=by omega
    obtain⟨L,uI⟩:∃L,L=ds.length:=⟨_,rfl⟩
    have tu:=qet uI;rw[<-uI]at hdl hdc dl hF2 SI hF O3 ⊢;have HF:=qet hF;clear hf hF uI;have SJ:qes (∀l:List Nat,(∀d∈l,d∈ds)->deep l<=k+1):=fun l hl=>Hu l k (fun d hd=>(HS.o d (hl d hd)).2)
    obtain⟨D,hD⟩:∃D,L-F=D:=⟨_,rfl⟩
    have SK:qes ((ds.drop F).length=D):=by show _=_;rw[bz,<-tu.o,hD]
    have lf:(F:Int)<=(L:Int):=by omega
    have lc:(L:Int)<=(Jc:Int):=by omega
    rcases O3.o.2 with⟨hnil,hL0⟩|⟨g,Vq,cur,hsv,hgb,hgh,hgc,_,hgs,hgt⟩
    ·injection hnil with e1 e2 e3
     subst e1 e3;have hF0:F=0:=by omega
     have hD0:D=0:=by omega
     subst hL0;subst hF0;go_wp2_with fail
     go_loopw [8,28] (fun dp i wx=>∃(j m:Nat),j<=D/\i=.int .i64 (j:Int)/\dp=.int .i64 (m:Int)/\qes (m=deep ((ds.drop 0).take j)/\wx=w2)) (fun _ i _=>D-(intOf i).toNat)
     case atStart=>exact⟨0,1,by omega,rfl,rfl,rfl,rfl⟩
     case round=>
      obtain⟨j,m,hj,rfl,rfl,hh⟩:=hrel;obtain⟨hm,hwx⟩:=hh.o;subst hwx;have Lq:m<=k+1:=by rw[hm];exact SJ.o _ (fun d hd=>cL (bW hd))
      have Pk:=qet hm;clear hh hm
      by_cases hlt2:j<D
      ·exact absurd hlt2 (by omega)
      ·have j2:¬ (j:Int)<(D:Int):=by omega
       have RC:qes (m=deep (ds.drop 0)):=by
        show _=_;rw[Pk.o,aX (by rw[SK.o];omega)]
       clear Pk;have OT:=qet (yD O3.o 0 SI);have zz:=Hv.o.size
       have RD:qes (∀d∈ds.take 0++[m],1<=d/\d<=k+1):=fun d hd=>by
        rcases aN.1 hd with h|h
        ·exact⟨(HS.o d (bW h)).1,dZ (HS.o d (bW h)).2⟩
        ·rw[aL.1 h];exact⟨by rw[RC.o];exact yE _,Lq⟩
       have Vr:qes (depths ((x.map kO).take (k+1)) []=some (ds.take 0++[m]).reverse):=by
        show _=_;rw[cr,HY.o,oZ,HD.o];show depths [kO y] ds.reverse=_;rw[lS,Ys.o,<-RC.o];rfl
       have Da:0<=3000000000000:=by omega
       have RE:qes ((ds.take 0++[m]).length=0+1):=by
        show _=_;rw[ao,bU,<-tu.o,Nat.min_eq_left SI];rfl
       have Vt:qes (0+1<=k+1):=by show _<=_;omega
       clear HD;go_wp2_with(at_builtin;go_must (refine wpList_append_own _ (by rfl) _ _ 101 (by rfl) w.heap.size 3 i0 (.int .i64 0) 1 8 dV hi hz0 hz1 hz2 rfl (by decide) (.slice none 0 0) 0 _ (by rfl) (OT.o.alloc _) ⟨wr.heap.size,0,none⟩ 1 1 [.int .i64 (m:Int)] (by rfl) (by rfl) (one_cell wr (m:Int)) (by intro u hu;simp at hu;subst hu;rfl) (by unfold ff;omega) (by omega) (by rw[aB];omega) ?_;intro RF w3 hown3 hgrow3 _));have B3:=qet ((Hv.o.alloc zz _).grown hgrow3 (by rw[aB];omega) (fun r hr=>(OT.o.lt r hr).1))
       have O5:qes (w3.ownsRow w.heap.size 3 1 RF (ds.take 0++[m]).length (rj (ds.take 0++[m]))):=by
        show eG _ _ _ _ _ _ _;rw[RE.o];rw[show rj (ds.take 0++[m])=rj (ds.take 0)++[.int .i64 (m:Int)]from by simp[rj]];exact hown3
       clear hown3 hgrow3;go_wp2
       go_roundw
       case rel=>exact⟨k+1,ds.take 0++[m],RF,by omega,by go_num,rfl,O5.o,by rw[RE.o];exact Vt.o,Vr.o,RD.o,B3.o⟩
       case measure=>simp[intOf];omega
    ·injection hsv with e1 e2 e3
     subst e1 e3
     have hcell:∀j,j<D->∃d,(ds.drop F)[j]? =some d/\w2.cell? ⟨g,F+j,none⟩=some (.int .i64 (d:Int)):=fun j hj=>by
      have hj2:F+j<ds.length:=by rw[<-tu.o];omega
      refine⟨ds[F+j],by rw[List.getElem?_drop,List.getElem?_eq_getElem hj2],?_⟩;rw[O3.o.cellAt (F+j) (by omega),rj,List.getElem?_map,List.getElem?_eq_getElem hj2];rfl
     have Vu:=qet hcell;have hgw:g<w2.heap.size:=(Array.getElem?_eq_some_iff.1 hgh).1;clear hcell hgt hgs hgh hgb
     by_cases hFc:F=Jc
     ·have hD0:D=0:=by omega
      have hLF:L=F:=by omega
      subst hLF;subst hFc;go_wp2_with fail
      go_loopw [8,28] (fun dp i wx=>∃(j m:Nat),j<=D/\i=.int .i64 (j:Int)/\dp=.int .i64 (m:Int)/\qes (m=deep ((ds.drop L).take j)/\wx=w2)) (fun _ i _=>D-(intOf i).toNat)
      case atStart=>exact⟨0,1,by omega,rfl,rfl,rfl,rfl⟩
      case round=>
       obtain⟨j,m,hj,rfl,rfl,hh⟩:=hrel;obtain⟨hm,hwx⟩:=hh.o;subst hwx;have Lq:m<=k+1:=by rw[hm];exact SJ.o _ (fun d hd=>cL (bW hd))
       have Pk:=qet hm;clear hh hm
       by_cases hlt2:j<D
       ·exact absurd hlt2 (by omega)
       ·have j2:¬ (j:Int)<(D:Int):=by omega
        have RC:qes (m=deep (ds.drop L)):=by
         show _=_;rw[Pk.o,aX (by rw[SK.o];omega)]
        clear Pk;have OT:=qet (yD O3.o L SI);have zz:=Hv.o.size
        have RD:qes (∀d∈ds.take L++[m],1<=d/\d<=k+1):=fun d hd=>by
         rcases aN.1 hd with h|h
         ·exact⟨(HS.o d (bW h)).1,dZ (HS.o d (bW h)).2⟩
         ·rw[aL.1 h];exact⟨by rw[RC.o];exact yE _,Lq⟩
        have Vr:qes (depths ((x.map kO).take (k+1)) []=some (ds.take L++[m]).reverse):=by
         show _=_;rw[cr,HY.o,oZ,HD.o];show depths [kO y] ds.reverse=_;rw[lS,Ys.o,<-RC.o];rfl
        have Da:L<=3000000000000:=by omega
        have RE:qes ((ds.take L++[m]).length=L+1):=by
         show _=_;rw[ao,bU,<-tu.o,Nat.min_eq_left SI];rfl
        have Vt:qes (L+1<=k+1):=by show _<=_;omega
        clear HD;go_wp2_with(at_builtin;go_must (refine wpList_append_own _ (by rfl) _ _ 101 (by rfl) w.heap.size 3 i0 (.int .i64 0) 1 8 dV hi hz0 hz1 hz2 rfl (by decide) (.slice (some ⟨g,0,none⟩) L L) L _ (by rfl) (OT.o.alloc _) ⟨wr.heap.size,0,none⟩ 1 1 [.int .i64 (m:Int)] (by rfl) (by rfl) (one_cell wr (m:Int)) (by intro u hu;simp at hu;subst hu;rfl) (by unfold ff;omega) (by omega) (by rw[aB];omega) ?_;intro RF w3 hown3 hgrow3 _));have B3:=qet ((Hv.o.alloc zz _).grown hgrow3 (by rw[aB];omega) (fun r hr=>(OT.o.lt r hr).1))
        have O5:qes (w3.ownsRow w.heap.size 3 1 RF (ds.take L++[m]).length (rj (ds.take L++[m]))):=by
         show eG _ _ _ _ _ _ _;rw[RE.o];rw[show rj (ds.take L++[m])=rj (ds.take L)++[.int .i64 (m:Int)]from by simp[rj]];exact hown3
        clear hown3 hgrow3;go_wp2
        go_roundw
        case rel=>exact⟨k+1,ds.take L++[m],RF,by omega,by go_num,rfl,O5.o,by rw[RE.o];exact Vt.o,Vr.o,RD.o,B3.o⟩
        case measure=>simp[intOf];omega
     ·have qcu:(F:Int)<(Jc:Int):=by omega
      have qcv:¬Jc-F=0:=by omega
      go_wp2_with fail
      go_loopw [8,28] (fun dp i wx=>∃(j m:Nat),j<=D/\i=.int .i64 (j:Int)/\dp=.int .i64 (m:Int)/\qes (m=deep ((ds.drop F).take j)/\wx=w2)) (fun _ i _=>D-(intOf i).toNat)
      case atStart=>exact⟨0,1,by omega,rfl,rfl,rfl,rfl⟩
      case round=>
       obtain⟨j,m,hj,rfl,rfl,hh⟩:=hrel;obtain⟨hm,hwx⟩:=hh.o;subst hwx;have Lq:m<=k+1:=by rw[hm];exact SJ.o _ (fun d hd=>cL (bW hd))
       have Pk:=qet hm;clear hh hm
       by_cases hlt2:j<D
       ·obtain⟨d,hd1,hd2⟩:=Vu.o j hlt2;have j2:(j:Int)<(D:Int):=by omega
        have HDn:qes (max m (d+1)=deep ((ds.drop F).take (j+1))):=by
         show _=_;rw[Ja _ j d hd1,<-Pk.o]
        have hd24:d<=k:=(HS.o d (cL (List.mem_of_getElem? hd1))).2;have hmx:(max (m:Int) ((d:Int)+1))=((max m (d+1):Nat):Int):=by omega
        have d5:(d:Int)<=3000000000000:=by omega
        have d6:(0:Int)<=(d:Int):=by omega
        have m5:(m:Int)<=3000000000001:=by omega
        have lF:(F:Int)+(j:Int)<=6000000000000:=by omega
        clear hd1;go_wp2
        go_roundw
        case rel=>exact⟨j+1,max m (d+1),by omega,by go_num,by rw[show(if(m:Int)<(d:Int)+1 then(d:Int)+1 else(m:Int))=((max m (d+1):Nat):Int)from by split <;> omega],HDn.o,trivial⟩
        case measure=>simp[intOf];omega
       ·have j2:¬ (j:Int)<(D:Int):=by omega
        have RC:qes (m=deep (ds.drop F)):=by
         show _=_;rw[Pk.o,aX (by rw[SK.o];omega)]
        clear Pk;have OT:=qet (yD O3.o F SI);have zz:=Hv.o.size
        have RD:qes (∀d∈ds.take F++[m],1<=d/\d<=k+1):=fun d hd=>by
         rcases aN.1 hd with h|h
         ·exact⟨(HS.o d (bW h)).1,dZ (HS.o d (bW h)).2⟩
         ·rw[aL.1 h];exact⟨by rw[RC.o];exact yE _,Lq⟩
        have Vr:qes (depths ((x.map kO).take (k+1)) []=some (ds.take F++[m]).reverse):=by
         show _=_;rw[cr,HY.o,oZ,HD.o];show depths [kO y] ds.reverse=_;rw[lS,Ys.o,<-RC.o];rfl
        have Da:F<=3000000000000:=by omega
        have RE:qes ((ds.take F++[m]).length=F+1):=by
         show _=_;rw[ao,bU,<-tu.o,Nat.min_eq_left SI];rfl
        have Vt:qes (F+1<=k+1):=by show _<=_;omega
        clear HD;go_wp2_with(at_builtin;go_must (refine wpList_append_own _ (by rfl) _ _ 101 (by rfl) w.heap.size 3 i0 (.int .i64 0) 1 8 dV hi hz0 hz1 hz2 rfl (by decide) (.slice (some ⟨g,0,none⟩) F Jc) F _ (by rfl) (OT.o.alloc _) ⟨wr.heap.size,0,none⟩ 1 1 [.int .i64 (m:Int)] (by rfl) (by rfl) (one_cell wr (m:Int)) (by intro u hu;simp at hu;subst hu;rfl) (by unfold ff;omega) (by omega) (by rw[aB];omega) ?_;intro RF w3 hown3 hgrow3 _));have B3:=qet ((Hv.o.alloc zz _).grown hgrow3 (by rw[aB];omega) (fun r hr=>(OT.o.lt r hr).1))
        have O5:qes (w3.ownsRow w.heap.size 3 1 RF (ds.take F++[m]).length (rj (ds.take F++[m]))):=by
         show eG _ _ _ _ _ _ _;rw[RE.o];rw[show rj (ds.take F++[m])=rj (ds.take F)++[.int .i64 (m:Int)]from by simp[rj]];exact hown3
        clear hown3 hgrow3;go_wp2
        go_roundw
        case rel=>exact⟨k+1,ds.take F++[m],RF,by omega,by go_num,rfl,O5.o,by rw[RE.o];exact Vt.o,Vr.o,RD.o,B3.o⟩
        case measure=>simp[intOf];omega
  ·obtain rfl:k=N:=by omega
   have htk:(x.map kO).take k=x.map kO:=aX (by rw[aQ,<-HN.o];exact aj _);have hd:=HD.o;rw[htk]at hd;have dl:(ds.length:Int)<=3000000000000:=by omega
   by_cases h1:ds.length=1
   ·match ds,h1 with
    |[d0],_=>
     have hdd:depth (x.map kO)=d0:=F0 hd;have hpos:=(HS.o d0 aT).1
     have hE:((depth (x.map kO):Nat):Int)=(d0:Int)/\decide (depth (x.map kO)≠0)=true:=by
      rw[hdd];exact⟨rfl,decide_eq_true (by omega)⟩
     have HE:=qet hE
     obtain⟨g,Vq,cur,hsv,hgb,hgh,hgc,_,hgs,hgt⟩:∃g c' cur,(aZ da [d0].length Jc)=.slice (some ⟨g,0,none⟩) 1 c'/\_:=by
      rcases O.o.2 with⟨_,h0⟩|h
      ·exact absurd h0 Nat.one_ne_zero
      ·exact h
     injection hsv with e1 e2 e3
     subst e1 e3
     have c9:wr.cell? ⟨g,0,none⟩=some (.int .i64 (d0:Int)):=by
      rw[O.o.cellAt 0 Nat.one_pos];rfl
     clear htk hd HD HS O hE hdd hgb hgh hgs hgt;go_wp2;go_ret2;exact⟨by rw[HE.o.1,HE.o.2];rfl,HB.o⟩
   ·have HE:qes (depth (x.map kO)=0):=Jb hd h1;have i1:((ds.length:Int)==1)=false:=by rw[beq_eq_false_iff_ne];omega
    clear htk hd HD HS O h1;generalize ds.length=L at *;go_wp2;go_ret2;exact⟨by rw[HE.o];rfl,HB.o⟩
theorem check_any(v:Value)(x:List Pv)(w:World)(hL:tQ w v x)(hlen:x.length<=4398046510976)(hg:kZ w):Calls ah 137 #[v] w fun e w'=>e=.returned (.int .i64 (kL (x.map kO)))/\Below w.heap.size w w':=by
 have Yt:=qet hL;obtain⟨a,b,off,cap,rfl,hA,hI⟩:=hL
 by_cases h5:500<x.length
 ·have HE:qes (kL (x.map kO)=2):=by show _=_;unfold kL;rw[if_pos (by rw[aQ];exact h5)]
  have i1:(500:Int)<(x.length:Int):=by omega
  have i2:(x.length:Int)<=4398046510976:=by omega
  clear hA hI hg h5 hlen Yt;generalize x.length=N at *;go_enter Tryz.func137,Tryz.ntmps137;go_wp2;go_ret;exact⟨by rw[HE.o];rfl,aw _ _⟩
 have HA:=qet hA;have HI:=qet hI;have HG:=qet hg;have Yu:qes (¬500<(x.map kO).length):=by show ¬_;rw[aQ];exact h5
 have Yv:qes (∀W,Below w.heap.size w W->Calls ah 174 #[.slice a x.length cap] W fun e w'=>e=.returned (.tuple #[.int .i64 ((depth (x.map kO):Nat):Int),.bool (decide (depth (x.map kO)≠0))])/\Below W.heap.size W w'):=fun W hW=>wP _ x W (Yt.o.below hW (aj _)) (by omega)
 obtain⟨N,hN⟩:∃N,N=x.length:=⟨_,rfl⟩
 have HN:=qet hN;rw[<-hN]at h5 Yv ⊢;have n5:¬ (500:Int)<(N:Int):=by omega
 have n0:(0:Int)<=(N:Int):=by omega
 clear hN hA hI hg hlen Yt;go_enter Tryz.func137,Tryz.ntmps137;go_wp2_with fail
 go_loopw [12] (fun i wr=>∃(k:Nat),k<=N/\i=.int .i64 (k:Int)/\qes ((∀(j:Nat) p,j<k->(x.map kO)[j]? =some p->jX p=true)/\Below w.heap.size w wr)) (fun i _=>N-(intOf i).toNat)
 case atStart=>exact⟨0,by omega,rfl,fun j p hj=>absurd hj (fF _),aw _ _⟩
 case round=>
  obtain⟨k,hk,rfl,hh⟩:=hrel;have HM:=qet hh.o.1;have HB:=qet hh.o.2;clear hh
  by_cases hlt:k<N
  ·have j1:(k:Int)<(N:Int):=by omega
   have j0:(0:Int)<=(k:Int):=by omega
   obtain⟨y,hy⟩:∃y,x[k]? =some y:=⟨_,List.getElem?_eq_getElem (by rw[<-HN.o];exact hlt)⟩
   have HY:qes ((x.map kO)[k]? =some (kO y)):=by show _=_;rw[List.getElem?_map,hy];rfl
   obtain⟨hbw,rfl⟩:=HA.o (by rw[<-HN.o];omega);obtain⟨q0,q1,q2,q3,q4⟩:=HI.o k y hy;have c0:=(HB.o.cell (p:=⟨b,off+k*5,none⟩) hbw).trans q0;have c1:=(HB.o.cell (p:=⟨b,off+k*5+1,none⟩) hbw).trans q1;have c2:=(HB.o.cell (p:=⟨b,off+k*5+2,none⟩) hbw).trans q2;have c3:=(HB.o.cell (p:=⟨b,off+k*5+3,none⟩) hbw).trans q3;have c4:=(HB.o.cell (p:=⟨b,off+k*5+4,none⟩) hbw).trans q4;clear q0 q1 q2 q3 q4 hy;have zr:=HB.o.size;have B1:=HB.o.alloc zr (.cells #[.int .i64 y.k,.int .i64 y.n,.int .i64 y.t,.string y.s,.string y.f] 42);have m2:=Pg y _ (HG.o.below B1 HG.o.lt);go_wp2_with fail;refine m2.mono ?_;rintro e w2 ⟨rfl,hb2⟩;have Hv:=qet (B1.trans (hb2.mono B1.size));clear m2 hb2 B1 c0 c1 c2 c3 c4
   cases hm:jX (kO y)with
   |false=>
    have HE:=qet (I9 Yu.o HY.o hm);go_wp2;go_ret;exact⟨by rw[HE.o];rfl,Hv.o⟩
   |true=>
    have mQ:=qet hm
    have HNM:qes (∀(j:Nat) p,j<k+1->(x.map kO)[j]? =some p->jX p=true):=fun j p hj hp=>by
     rcases bZ j k with h|h
     ·exact HM.o j p h hp
     ·have:j=k:=by omega
      subst this;rw[<-an (HY.o.symm.trans hp)];exact mQ.o
    clear hm mQ HM;go_wp2
    go_roundw
    case rel=>exact⟨k+1,by omega,by go_num,HNM.o,Hv.o⟩
    case measure=>simp[intOf];omega
  ·obtain rfl:k=N:=by omega
   have mQ:qes ((x.map kO).all jX=true):=by
    show _=_;rw[eZ];intro p hp;obtain⟨i,hi⟩:=List.mem_iff_getElem?.1 hp;exact HM.o i p (by have:=(List.getElem?_eq_some_iff.1 hi).1;rw[aQ,<-HN.o]at this;exact this) hi
   have c9:=Yv.o wr HB.o
   have HZ:qes (kL (x.map kO)=if depth (x.map kO)=0\/24<depth (x.map kO)then 60 else 0):=by
    show _=_;unfold kL;rw[if_neg Yu.o,if_neg (by rw[mQ.o];decide)]
   have Vv:qes (depth (x.map kO)<=500):=by show _<=_;exact aP (uH _) (by have:=Yu.o;omega)
   obtain⟨dd,hdd⟩:∃dd,dd=depth (x.map kO):=⟨_,rfl⟩
   rw[<-hdd]at c9 HZ Vv;clear hdd HM mQ Yv;have d5:(dd:Int)<=500:=by have:=Vv.o;omega
   have d0:(0:Int)<=(dd:Int):=by omega
   go_wp2_with fail;refine c9.mono ?_;rintro e w2 ⟨rfl,hb2⟩;have Hv:=qet (HB.o.trans (hb2.mono HB.o.size));clear c9 hb2
   by_cases h0:dd=0
   ·have HE:qes (kL (x.map kO)=60):=by show _=_;rw[HZ.o,if_pos (.inl h0)]
    have i1:decide (dd≠0)=false:=decide_eq_false (by omega);rw[i1];clear HZ i1;go_wp2;go_ret;exact⟨by rw[HE.o];rfl,Hv.o⟩
   ·have i1:decide (dd≠0)=true:=decide_eq_true h0;rw[i1]
    by_cases Vw:24<dd
    ·have HE:qes (kL (x.map kO)=60):=by show _=_;rw[HZ.o,if_pos (.inr Vw)]
     have i2:(24:Int)<(dd:Int):=by omega
     clear HZ i1 Vw h0;go_wp2;go_ret;exact⟨by rw[HE.o];rfl,Hv.o⟩
    ·have HE:qes (kL (x.map kO)=0):=by show _=_;rw[HZ.o,if_neg (by omega)]
     have i2:¬ (24:Int)<(dd:Int):=by omega
     clear HZ i1 Vw h0;go_wp2;go_ret;exact⟨by rw[HE.o];rfl,Hv.o⟩
theorem lt_of_heap{o:Obj}(h:w.heap[b]? =some o):b<w.heap.size:=(Array.getElem?_eq_some_iff.1 h).1
theorem sx(h:Below B a w)(hb:B<=b)(u1 u2 u3 u4 u5:Value):Below B a (((((w.setCell ⟨b,0,none⟩ u1).setCell ⟨b,1,none⟩ u2).setCell ⟨b,2,none⟩ u3).setCell ⟨b,3,none⟩ u4).setCell ⟨b,4,none⟩ u5):=
 ((((h.setCell (p:=⟨b,0,none⟩) hb u1).setCell (p:=⟨b,1,none⟩) hb u2).setCell (p:=⟨b,2,none⟩) hb u3).setCell (p:=⟨b,3,none⟩) hb u4).setCell (p:=⟨b,4,none⟩) hb u5
variable {fa:Int}{fc:Int}{ps:List Pv}{at_:Nat}{op:Nat}{toks:List Tv}{tv:Value}
theorem next_any(h:RS B R tv toks at_ op ps fa fc w)(hl:toks.length<=4398046510976):Calls ah 233 #[.pointer (some ⟨R,0,none⟩)] w fun e w'=>e=.returned (oG (gQ toks at_))/\Below w.heap.size w w':=by
 obtain⟨pv,hrow,_⟩:=h.row;obtain⟨a,b,off,cap,rfl,hA,hT⟩:=h.toks;have hR:=lt_of_heap hrow;have a0:∀o,(w.alloc o).cell? ⟨R,0,none⟩=some (.slice a toks.length cap):=fun o=>(World.cell?_alloc_lt _ _ _ hR).trans (by rw[af hrow];rfl)
 have a1:∀o,(w.alloc o).cell? ⟨R,1,none⟩=some (.int .i64 (at_:Int)):=fun o=>(World.cell?_alloc_lt _ _ _ hR).trans (by rw[af hrow];rfl)
 have sy:=h.here;have B0:=qet ((aw w.heap.size w).alloc (aj _) (.cells #[.int .i64 0,.string ⟨#[]⟩,.int .i64 0,.int .i64 0,.int .i64 0] 54))
 by_cases he:at_=toks.length
 ·have HE:qes (gQ toks at_=Ai):=by
   show _=_;unfold gQ;rw[List.getD_eq_getElem?_getD,List.getElem?_eq_none (by omega)];rfl
  have i1:((at_:Int)==(toks.length:Int))=true:=by rw[beq_iff_eq];omega
  clear hrow hA hT h;generalize(toks.length)=N at *;subst he;go_enter Tryz.func233,Tryz.ntmps233;go_wp2
  go_quiet (fail)
  go_wp2;refine aU (v:=oG Ai) ?_ rfl ⟨by rw[HE.o],?_⟩
  ·simp[aV,Tryz.results233,go_sem,oG,Ai]
  ·exact sx (kr B0.o _) (aj _) _ _ _ _ _
 ·have hlt:at_<toks.length:=by omega
  obtain⟨hbB,_,rfl⟩:=hA (by omega);obtain⟨x,hx⟩:∃x,toks[at_]? =some x:=⟨_,List.getElem?_eq_getElem hlt⟩
  obtain⟨q0,q1,q2,q3,q4⟩:=hT at_ x hx;have hbw:b<w.heap.size:=aJ hbB h.le;have c0:∀o,(w.alloc o).cell? ⟨b,off+at_*5,none⟩=some (.int .i64 x.k):=fun o=>(World.cell?_alloc_lt _ _ _ hbw).trans q0
  have c1:∀o,(w.alloc o).cell? ⟨b,off+at_*5+1,none⟩=some (.string x.s):=fun o=>(World.cell?_alloc_lt _ _ _ hbw).trans q1
  have c2:∀o,(w.alloc o).cell? ⟨b,off+at_*5+2,none⟩=some (.int .i64 x.n):=fun o=>(World.cell?_alloc_lt _ _ _ hbw).trans q2
  have c3:∀o,(w.alloc o).cell? ⟨b,off+at_*5+3,none⟩=some (.int .i64 x.t):=fun o=>(World.cell?_alloc_lt _ _ _ hbw).trans q3
  have c4:∀o,(w.alloc o).cell? ⟨b,off+at_*5+4,none⟩=some (.int .i64 x.at_):=fun o=>(World.cell?_alloc_lt _ _ _ hbw).trans q4
  have HE:qes (gQ toks at_=x):=by
   show _=_;unfold gQ;rw[List.getD_eq_getElem?_getD,hx];rfl
  have i1:((at_:Int)==(toks.length:Int))=false:=by rw[beq_eq_false_iff_ne];omega
  have i2:(at_:Int)<(toks.length:Int):=by omega
  have i3:(0:Int)<=(at_:Int):=by omega
  have i4:(toks.length:Int)<=4398046510976:=by omega
  clear hrow hA hT h q0 q1 q2 q3 q4 hx hlt he hl sy;generalize(toks.length)=N at *;go_enter Tryz.func233,Tryz.ntmps233;go_wp2
  go_quiet (fail)
  go_wp2
  go_region_with (fail)
  all_goals
   go_wp2;refine aU (v:=oG x) ?_ rfl ⟨by rw[HE.o],?_⟩
   ·simp[aV,Tryz.results233,go_sem,oG]
   ·exact sx (kr B0.o _) (aj _) _ _ _ _ _
theorem yF{B R:Nat}{tv:Value}{toks:List Tv}{at_ op:Nat}{ps:List Pv}{fa fc:Int}{w:World}(h:RS B R tv toks at_ op ps fa fc w)(hl:toks.length<=4398046510976)(kind:Int)(u:ByteArray):Calls ah 227 #[.pointer (some ⟨R,0,none⟩),.int .i64 kind,.string u] w fun e w'=>e=.returned (.bool (decide ((gQ toks at_).k=kind/\(gQ toks at_).s=u)))/\Below w.heap.size w w':=by
 have c:=next_any h hl;clear h hl;generalize gQ toks at_=x at *;obtain⟨xk,xs,xn,xt,xa⟩:=x;unfold oG at c;simp only[]at c ⊢;have bt:=kj xs u;go_enter Tryz.func227,Tryz.ntmps227;go_wp2_with fail;refine c.mono ?_;rintro e w1 ⟨rfl,hb1⟩;have B1:=qet (hb1.alloc hb1.size (.cells #[.int .i64 xk,.string xs,.int .i64 xn,.int .i64 xt,.int .i64 xa] 54));clear c hb1
 by_cases hk:xk=kind
 ·subst hk
  by_cases hs:xs=u
  ·have hb:(xs.toList==u.toList)=true:=by rw[bt];exact decide_eq_true hs
   have HE:=qet (decide_eq_true hs);clear bt hs;go_wp2;go_ret;exact⟨hZ HE.o.symm,B1.o⟩
  ·have hb:(xs.toList==u.toList)=false:=by rw[bt];exact decide_eq_false hs
   have HE:=qet (decide_eq_false hs);clear bt hs;go_wp2;go_ret;exact⟨hZ HE.o.symm,B1.o⟩
 ·have HE:qes (decide (xk=kind/\xs=u)=false):=decide_eq_false (fun q=>hk q.1);have hb:(xk==kind)=false:=by rw[beq_eq_false_iff_ne];exact hk
  clear bt hk;go_wp2;go_ret;exact⟨hZ HE.o.symm,B1.o⟩
theorem SL(n z r:Bool)(w:World):Calls ah 85 #[.bool n,.bool z,.bool r] w fun e w'=>e=.returned (.bool (kg n z r))/\w'=w:=by
 cases n with
 |true=>
  go_enter Tryz.func85,Tryz.ntmps85;go_wp2;go_ret;exact⟨rfl,rfl⟩
 |false=>
  go_enter Tryz.func85,Tryz.ntmps85;go_wp2;go_ret;exact⟨rfl,rfl⟩
theorem uJ(n:Int)(w:World):Calls ah 88 #[.int .i64 n] w fun e w'=>e=.returned (.bool (jk n))/\w'=w:=by
 by_cases h1: -2147483648<=n
 ·by_cases h2:n<=2147483647
  ·have HE:qes (jk n=true):=by show _=_;unfold jk;rw[decide_eq_true h1,decide_eq_true h2];rfl
   go_enter Tryz.func88,Tryz.ntmps88;go_wp2;go_ret;exact⟨by rw[HE.o];rfl,rfl⟩
  ·have HE:qes (jk n=false):=by show _=_;unfold jk;rw[decide_eq_false h2,fH]
   go_enter Tryz.func88,Tryz.ntmps88;go_wp2;go_ret;exact⟨by rw[HE.o];rfl,rfl⟩
 ·have HE:qes (jk n=false):=by show _=_;unfold jk;rw[decide_eq_false h1,fj]
  go_enter Tryz.func88,Tryz.ntmps88;go_wp2;go_ret;exact⟨by rw[HE.o];rfl,rfl⟩
theorem sz(h:mg w P x v)(hg:kZ w):Calls ah 87 #[v] w fun e w'=>e=.returned (.bool (lP x))/\Below w.heap.size w w':=by
 obtain⟨xs,h1,h2,h3⟩:=h.lst;have c:=check_any v xs w h3 (by omega) hg;rw[h1]at c;clear h h1 h2 h3 hg;obtain⟨c0,hc0⟩:∃c0,c0=kL x:=⟨_,rfl⟩
 have HE:qes (lP x=decide (c0=0)):=by show _=_;unfold lP;rw[hc0]
 rw[<-hc0]at c;clear hc0;go_enter Tryz.func87,Tryz.ntmps87;go_wp2_with fail;refine c.mono ?_;rintro e w1 ⟨rfl,hb⟩;have HB:=qet hb;clear c hb
 by_cases h0:c0=0
 ·subst h0;go_wp2;go_ret;exact⟨by rw[HE.o];rfl,HB.o⟩
 ·have i1:(c0==0)=false:=by rw[beq_eq_false_iff_ne];exact h0
  have HF:qes (decide (c0=0)=false):=decide_eq_false h0;clear h0;go_wp2;go_ret;exact⟨by rw[HE.o,HF.o];rfl,HB.o⟩
theorem Lr(s:Bs):lP [Ah [65] s]=kC s:=by
 have hm:jX (Ah [65] s)=kC s:=by
  unfold jX Ah;simp[show nameB [65]=true from by decide]
 unfold lP kL;rw[if_neg (by simp)]
 cases hw:kC s with
 |false=>rw[if_pos (by simp[hm,hw])];rfl
 |true=>
  rw[if_neg (by simp[hm,hw]),if_neg (by
   have:depth [Ah [65] s]=1:=rfl;rw[this]
   omega)]
  rfl
theorem SM(w:World)(s:ByteArray)(hs:w.heap[w.heap.size-1]? =some (.cells #[.int .i64 4,.int .i64 0,.int .i64 0,.string ⟨#[65]⟩,.string s] 42)):mg w Tt [Ah [65] s.data.toList] (.slice (some ⟨w.heap.size-1,0,none⟩) 1 1):=
 ⟨[⟨4,0,0,⟨#[65]⟩,s⟩],rfl,some ⟨w.heap.size-1,0,none⟩,w.heap.size-1,0,1,rfl,by simp,rfl,fun _=>⟨trivial,rfl⟩,fun j u hu=>by
  rw[fg,af hs];have e:(#[Value.int .i64 4,.int .i64 0,.int .i64 0,.string ⟨#[65]⟩,.string s]:Array Value)[j]? =(oE [⟨4,0,0,⟨#[65]⟩,s⟩])[j]? :=by rw[<-Array.getElem?_toList];rfl
  rw[e]
  exact hu⟩
theorem Ls(s:ByteArray)(w:World)(hg:kZ w):Calls ah 138 #[.string s] w fun e w'=>e=.returned (.bool (kC s.data.toList))/\Below w.heap.size w w':=by
 have B0:=(aw w.heap.size w).alloc (aj _) (.cells #[.int .i64 4,.int .i64 0,.int .i64 0,.string ⟨#[65]⟩,.string s] 42);have hz:(w.alloc (.cells #[.int .i64 4,.int .i64 0,.int .i64 0,.string ⟨#[65]⟩,.string s] 42)).heap.size-1=w.heap.size:=by simp
 have hp:=SM (w.alloc (.cells #[.int .i64 4,.int .i64 0,.int .i64 0,.string ⟨#[65]⟩,.string s] 42)) s (by rw[hz];exact aE w _);rw[hz]at hp;have c:=sz hp (hg.below B0 hg.lt);rw[Lr]at c;have HB:=qet B0;clear hp hz B0 hg;go_enter Tryz.func138,Tryz.ntmps138;go_wp2_with fail;refine c.mono ?_;rintro e w1 ⟨rfl,hb⟩;have HB1:=qet (HB.o.trans (hb.mono HB.o.size));clear c hb HB;go_wp2;go_ret;exact⟨rfl,HB1.o⟩
def Yw(k:Int)(n:Nm):List Value:=[.int .i64 k,.bool n.name,.bool n.idx,.bool n.x,.bool n.y,.bool n.gT,.bool n.body,.bool n.els,.bool n.arms,.bool n.args]
def mS:List (Int×Nm):=[(1,⟨true,true,true,false,false,false,false,false,false⟩),(2,⟨false,false,true,false,false,true,true,false,false⟩),(3,⟨false,false,true,false,false,true,false,false,false⟩),(4,⟨false,false,true,false,false,true,false,false,false⟩),(5,⟨true,false,true,true,true,true,false,false,false⟩),(6,⟨false,false,true,false,false,false,true,true,false⟩),(7,⟨true,false,false,false,false,false,false,false,true⟩),(8,⟨false,false,false,false,false,false,false,false,false⟩),(9,⟨false,false,false,false,false,false,false,false,false⟩)]
def nd:List Value:=mS.flatMap fun r=>Yw r.1 r.2
def XJ:Nm:=⟨false,false,false,false,false,false,false,false,false⟩
def Pn(k:Int)(n:Nm):Value:=.agg #[.int .i64 k,.bool n.name,.bool n.idx,.bool n.x,.bool n.y,.bool n.gT,.bool n.body,.bool n.els,.bool n.arms,.bool n.args]
def DN(k:Int):Value:=match qF k with
 |some n=>.tuple #[Pn k n,.bool true]
 |none=>.tuple #[Pn 0 XJ,.bool false]
theorem Lt:(ah.info? 170).map (·.size)=some 90:=by kernel_rfl
theorem Po:(ah.info? 170).map (·.size)=some nd.length:=Lt
theorem Lu(k:Nat)(h:k<9):nd.toArray.extract (k*10) (k*10+10)=(Yw (mS[k]'h).1 (mS[k]'h).2).toArray:=by
 have hk:k=0\/k=1\/k=2\/k=3\/k=4\/k=5\/k=6\/k=7\/k=8:=by omega
 rcases hk with rfl|rfl|rfl|rfl|rfl|rfl|rfl|rfl|rfl <;> rfl
theorem SN(k:Nat)(h:k<9)(W:World):(bR 170 (.agg nd.toArray) (.int .i64 (k:Int))).run ah W=.ok (Pn (mS[k]'h).1 (mS[k]'h).2) W:=
 qG Tryz.underlying170 (fun _=>Tryz.isAgg129 _) (fun _=>Tryz.sizeOf129 _) _ k h _ (Lu k h) W
theorem Pp(k:Int):qF k=(mS.find? fun r=>decide (r.1=k)).map (·.2):=by
 unfold qF mS
 by_cases h1:k=1
 ·subst h1;rfl
 by_cases h2:k=2
 ·subst h2;rfl
 by_cases h3:k=3
 ·subst h3;rfl
 by_cases h4:k=4
 ·subst h4;rfl
 by_cases h5:k=5
 ·subst h5;rfl
 by_cases h6:k=6
 ·subst h6;rfl
 by_cases h7:k=7
 ·subst h7;rfl
 by_cases h8:k=8
 ·subst h8;rfl
 by_cases h9:k=9
 ·subst h9;rfl
 rw[if_neg h1,if_neg h2,if_neg h3,if_neg h4,if_neg h5,if_neg h6,if_neg h7,if_neg h8,if_neg h9];simp only[List.find?_cons,decide_eq_false (show ¬ (1:Int)=k by omega),decide_eq_false (show ¬ (2:Int)=k by omega),decide_eq_false (show ¬ (3:Int)=k by omega),decide_eq_false (show ¬ (4:Int)=k by omega),decide_eq_false (show ¬ (5:Int)=k by omega),decide_eq_false (show ¬ (6:Int)=k by omega),decide_eq_false (show ¬ (7:Int)=k by omega),decide_eq_false (show ¬ (8:Int)=k by omega),decide_eq_false (show ¬ (9:Int)=k by omega),List.find?_nil,Option.map_none]
theorem DO(h:Below B a w)(hb:B<=b)(u0 u1 u2 u3 u4 u5 u6 u7 u8 u9:Value):Below B a ((((((((((w.setCell ⟨b,0,none⟩ u0).setCell ⟨b,1,none⟩ u1).setCell ⟨b,2,none⟩ u2).setCell ⟨b,3,none⟩ u3).setCell ⟨b,4,none⟩ u4).setCell ⟨b,5,none⟩ u5).setCell ⟨b,6,none⟩ u6).setCell ⟨b,7,none⟩ u7).setCell ⟨b,8,none⟩ u8).setCell ⟨b,9,none⟩ u9):=
 (((((sx h hb u0 u1 u2 u3 u4).setCell (p:=⟨b,5,none⟩) hb u5).setCell (p:=⟨b,6,none⟩) hb u6).setCell (p:=⟨b,7,none⟩) hb u7).setCell (p:=⟨b,8,none⟩) hb u8).setCell (p:=⟨b,9,none⟩) hb u9
theorem BS(n:Int)(w:World)(hg:TabAt w 4 nd)(h1:4<w.heap.size):Calls ah 84 #[.int .i64 n] w fun e w'=>e=.returned (DN n)/\Below w.heap.size w w':=by
 have ix:qes (∀(k:Nat)(h:k<9)(W:World),(bR 170 (.agg nd.toArray) (.int .i64 (k:Int))).run ah W=.ok (Pn (mS[k]'h).1 (mS[k]'h).2) W):=SN;obtain⟨KT,hT⟩:∃KT,fv nd.toArray=KT:=⟨_,rfl⟩
 rw[hT]at ix;have ht:∀o,TabAt (w.alloc o) 4 nd:=hg.alloc h1;have B0:=qet ((aw w.heap.size w).alloc (aj _) (.cells #[.int .i64 0,.bool false,.bool false,.bool false,.bool false,.bool false,.bool false,.bool false,.bool false,.bool false] 129));clear hg h1;go_enter Tryz.func84,Tryz.ntmps84;go_wp2_with((with_reducible refine oD (ty:=170) ?_);go_must (refine mP (b:=4) (t:=nd) (T:=KT) rfl (ht _) hT Tryz.underlying170 rfl Po ?_));clear ht hT
 go_loopw [7] (fun i wr=>∃k:Nat,k<=9/\i=.int .i64 (k:Int)/\qes (wr.heap[w.heap.size]? =some (.cells #[.int .i64 0,.bool false,.bool false,.bool false,.bool false,.bool false,.bool false,.bool false,.bool false,.bool false] 129)/\Below w.heap.size w wr/\((mS.drop k).find? (fun r=>decide (r.1=n))).map (·.2)=qF n)) (fun i _=>9-(intOf i).toNat)
 case atStart=>exact⟨0,by omega,rfl,aE w _,B0.o,(Pp n).symm⟩
 case round=>
  clear B0;obtain⟨k,hk,rfl,hh⟩:=hrel;have hblk:=hh.o.1;have HB:=qet hh.o.2.1;have hf:=hh.o.2.2;have z0:w.heap.size<wr.heap.size:=(Array.getElem?_eq_some_iff.1 hblk).1;clear hh;have e0:∀j,wr.frozen? ⟨w.heap.size,j,none⟩=false:=fun j=>aC hblk j
  have d0:wr.cell? ⟨w.heap.size,0,none⟩=some (.int .i64 0):=by rw[af hblk];rfl
  have d1:wr.cell? ⟨w.heap.size,1,none⟩=some (.bool false):=by rw[af hblk];rfl
  have d2:wr.cell? ⟨w.heap.size,2,none⟩=some (.bool false):=by rw[af hblk];rfl
  have d3:wr.cell? ⟨w.heap.size,3,none⟩=some (.bool false):=by rw[af hblk];rfl
  have d4:wr.cell? ⟨w.heap.size,4,none⟩=some (.bool false):=by rw[af hblk];rfl
  have d5:wr.cell? ⟨w.heap.size,5,none⟩=some (.bool false):=by rw[af hblk];rfl
  have d6:wr.cell? ⟨w.heap.size,6,none⟩=some (.bool false):=by rw[af hblk];rfl
  have d7:wr.cell? ⟨w.heap.size,7,none⟩=some (.bool false):=by rw[af hblk];rfl
  have d8:wr.cell? ⟨w.heap.size,8,none⟩=some (.bool false):=by rw[af hblk];rfl
  have d9:wr.cell? ⟨w.heap.size,9,none⟩=some (.bool false):=by rw[af hblk];rfl
  by_cases hlt:k<9
  ·have x0:=ix.o k hlt;have i1:(k:Int)<9:=by omega
   rw[eW (show k<mS.length from hlt),List.find?_cons]at hf;generalize(mS[k]'hlt)=r at *;obtain⟨r0,r1⟩:=r;obtain⟨q1,q2,q3,q4,q5,q6,q7,q8,q9⟩:=r1;unfold Pn at x0;simp only[]at x0 hf;have zr:=HB.o.size;have B1:=HB.o.alloc zr (.cells #[.int .i64 r0,.bool q1,.bool q2,.bool q3,.bool q4,.bool q5,.bool q6,.bool q7,.bool q8,.bool q9] 129)
   have hblk1:(wr.alloc (.cells #[.int .i64 r0,.bool q1,.bool q2,.bool q3,.bool q4,.bool q5,.bool q6,.bool q7,.bool q8,.bool q9] 129)).heap[w.heap.size]? =some (.cells #[.int .i64 0,.bool false,.bool false,.bool false,.bool false,.bool false,.bool false,.bool false,.bool false,.bool false] 129):=by
    rw[bj wr _ w.heap.size z0];exact hblk
   clear ix
   by_cases he:r0=n
   ·rw[decide_eq_true he]at hf;have HF:=qet hf;subst he;have BB:=qet B1;clear hf hblk hblk1 B1;go_wp2;refine aU (v:=.tuple #[.agg #[.int .i64 r0,.bool q1,.bool q2,.bool q3,.bool q4,.bool q5,.bool q6,.bool q7,.bool q8,.bool q9],.bool true]) ?_ rfl ⟨?_,?_⟩
    ·simp[aV,Tryz.results84,go_sem, *]
    ·rw[DN,<-HF.o];rfl
    ·exact(DO HB.o (aj _) _ _ _ _ _ _ _ _ _ _).alloc (by simp;omega) _
   ·rw[decide_eq_false he]at hf;have HF:=qet hf;have hen:(r0==n)=false:=by rw[beq_eq_false_iff_ne];exact he
    have BB:=qet (fw hblk1 B1);clear hf hblk hblk1 B1 he;go_wp2
    go_roundw
    case rel=>exact⟨k+1,by omega,by go_num,BB.o.1,BB.o.2,HF.o⟩
    case measure=>simp[intOf];omega
  ·obtain rfl:k=9:=by omega
   have HF:qes (qF n=none):=hf.symm;clear hf hblk ix;go_wp2;refine aU (v:=.tuple #[Pn 0 XJ,.bool false]) ?_ rfl ⟨?_,?_⟩
   ·simp[aV,Tryz.results84,go_sem,Pn,XJ, *]
   ·rw[DN,HF.o]
   ·exact DO HB.o (aj _) _ _ _ _ _ _ _ _ _ _
variable {Q:Exit->Act->World->Prop}{ops:Array Oper}
theorem je{P:Program}{md:Region.Mode}{S:World->Prop}(i:Nat){d:Option Tmp}{o:Op}{t:TypeId}{p:String}{f:Array Edge}{fuel:Nat}{listed:Array Bool}{a:Act}(v:Value)(hS:S w)
  (h:wpAnyH P md ops Q S fuel (listed.setIfInBounds i true) (a.put d v) w) (hi:ops[i]? =some ⟨d,o,t,p,f,none⟩:=by rfl) (hs:Region.noSelect ops=true:=by kernel_rfl) (hf:Region.free md ops listed i=true:=by kernel_rfl)
  (hr:(eL md ops listed).contains i=true:=by kernel_rfl) (hQ:∀c a w,Q (.panic c) (a.put d v) w->Q (.panic c) a w:=by exact fun _ _ _ h=>h) (hy:YieldsIf P ops S ⟨d,o,t,p,f,none⟩ v a:=by exact Or.inl ⟨by rfl,fun W hW=>by((try dsimp only at hW);go_simp)⟩):
  wpAnyH P md ops Q S (fuel+1) listed a w:=wpAnyH_take hi hs hf hr hQ hy hS h
theorem mI{P:Program}{md:Region.Mode}{S:World->Prop}(i:Nat){d:Option Tmp}{o:Op}{t:TypeId}{p:String}{f:Array Edge}{fuel:Nat}{listed:Array Bool}{a:Act}
  (h:∀K':Act->World->Prop,Shut (∀a w,S w->(S w->wpAnyH P md ops Q S fuel (listed.setIfInBounds i true) a w)->K' a w)->if cM (⟨d,o,t,p,f,none⟩:Oper) (yielded ops a.tmps)=true then Oper.wp P ⟨d,o,t,p,f,none⟩ a w K' Q else K' (a.put d undef) w)
  (hi:ops[i]? =some ⟨d,o,t,p,f,none⟩:=by rfl) (hr:eL md ops listed=[i]:=by kernel_rfl):wpAnyH P md ops Q S (fuel+1) listed a w:=
 fh hr (by simp) (bu hi h cz)
structure gR(O:List Nat)(w w':World):Prop where
 os:w'.os=w.os
 tape:w'.tape=w.tape
 output:w'.output=w.output
 size:w.heap.size<=w'.heap.size
 block:∀k,k<w.heap.size->k∉O->w'.heap[k]? =w.heap[k]?
theorem gR.refl(O:List Nat)(w:World):gR O w w:=⟨rfl,rfl,rfl,aj _,fun _ _ _=>rfl⟩
variable {O:List Nat}
theorem gR.trans{b c:World}(h:gR O a b)(k:gR O b c):gR O a c:=
 ⟨k.os.trans h.os,k.tape.trans h.tape,k.output.trans h.output,aP h.size k.size,fun i hi ho=>(k.block i (aJ hi h.size) ho).trans (h.block i hi ho)⟩
theorem gR.of_below(h:Below w.heap.size w w'):gR O w w':=⟨h.os,h.tape,h.output,h.size,fun k hk _=>h.block k hk⟩
theorem gR.more{O':List Nat}(h:gR O w w')(ho:∀k,k∈O->k<w.heap.size->k∈O'):gR O' w w':=
 ⟨h.os,h.tape,h.output,h.size,fun k hk hn=>h.block k hk (fun hm=>hn (ho k hm hk))⟩
theorem gR.setCell(h:gR O a w){p:Addr}(hp:p.block∈O\/a.heap.size<=p.block)(u:Value):gR O a (w.setCell p u):=
 ⟨h.os,h.tape,h.output,by rw[bO];exact h.size,fun k hk ho=>(aM w p u k (by rintro rfl;rcases hp with hp|hp;exact ho hp;omega)).trans (h.block k hk ho)⟩
def mb(tv:Value)(at_:Nat)(hv sv:Value)(mn:Bool)(fa fc dp:Int):Obj:=.cells #[tv,.int .i64 (at_:Int),hv,sv,.bool mn,.int .i64 fa,.int .i64 fc,.int .i64 dp] 61
def SO(B:Nat)(tv:Value)(toks:List Tv)(w:World):Prop:=∃(a:Option Addr)(b off cap:Nat),tv=.slice a toks.length cap/\(0<toks.length->b<B/\b<w.heap.size/\a=some ⟨b,off,none⟩)/\Ln w b off toks
theorem SO.lst(h:SO B tv toks w):ku w tv toks:=by
 obtain⟨a,b,off,cap,h1,h2,h3⟩:=h;exact⟨a,b,off,cap,h1,fun h=>⟨(h2 h).2.1,(h2 h).2.2⟩,h3⟩
theorem SO.keep(h:SO B tv toks w)(hk:gR O w w')(hO:∀k,k∈O->B<=k):SO B tv toks w':=by
 obtain⟨a,b,off,cap,h1,h2,h3⟩:=h;refine⟨a,b,off,cap,h1,fun h=>⟨(h2 h).1,aJ (h2 h).2.1 hk.size,(h2 h).2.2⟩,fun i x hx=>?_⟩;have hpos:0<toks.length:=by have:=(List.getElem?_eq_some_iff.1 hx).1;omega
 obtain⟨q1,q2,_⟩:=h2 hpos;have e:∀o,w'.cell? ⟨b,o,none⟩=w.cell? ⟨b,o,none⟩:=fun o=>World.cell?_of_block (hk.block b q2 (fun hm=>by have:=hO b hm;omega))
 obtain⟨c1,c2,c3,c4,c5⟩:=h3 i x hx;exact⟨(e _).trans c1,(e _).trans c2,(e _).trans c3,(e _).trans c4,(e _).trans c5⟩
structure RB(B R:Nat)(tv:Value)(toks:List Tv)(at_:Nat)(hv sv:Value)(mn:Bool)(fa fc dp:Int)(w:World):Prop where
 hB:B<=R
 here:at_<=toks.length
 row:w.heap[R]? =some (mb tv at_ hv sv mn fa fc dp)
 tk:SO B tv toks w
variable {dp:Int}{mn:Bool}{hv:Value}{sv:Value}
theorem RB.keep(h:RB B R tv toks at_ hv sv mn fa fc dp w)(hk:gR O w w')(hO:∀k,k∈O->B<=k)(hR:R∉O):RB B R tv toks at_ hv sv mn fa fc dp w':=
 ⟨h.hB,h.here,(hk.block R (lt_of_heap h.row) hR).trans h.row,h.tk.keep hk hO⟩
theorem RB.below(h:RB B R tv toks at_ hv sv mn fa fc dp w)(hb:Below w.heap.size w w'):RB B R tv toks at_ hv sv mn fa fc dp w':=
 h.keep (gR.of_below (O:=[]) hb) (by simp) (by simp)
theorem F4{j:Nat}{cs:Array Value}(h:w.heap[b]? =some (.cells cs 61))(u:Value):(w.setCell ⟨b,j,none⟩ u).heap[b]? =some (.cells (cs.setIfInBounds j u) 61):=by
 simp[cW,Array.getElem?_modify,h]
theorem RB.put(h:RB B R tv toks at_ hv sv mn fa fc dp w)(hn:n<=toks.length)(hw:w'=w.setCell ⟨R,1,none⟩ (.int .i64 (n:Int))):RB B R tv toks n hv sv mn fa fc dp w'/\gR [R] w w':=by
 subst hw;have hk:gR [R] w (w.setCell ⟨R,1,none⟩ (.int .i64 (n:Int))):=(gR.refl [R] w).setCell (p:=⟨R,1,none⟩) (.inl (by simp)) _;have hr:=h.row;unfold mb at hr;refine⟨⟨h.hB,hn,?_,h.tk.keep hk (by simp[h.hB])⟩,hk⟩;rw[F4 hr];unfold mb;simp
theorem RB.many(h:RB B R tv toks at_ hv sv mn fa fc dp w)(m:Bool)(hw:w'=w.setCell ⟨R,4,none⟩ (.bool m)):RB B R tv toks at_ hv sv m fa fc dp w'/\gR [R] w w':=by
 subst hw;have hk:gR [R] w (w.setCell ⟨R,4,none⟩ (.bool m)):=(gR.refl [R] w).setCell (p:=⟨R,4,none⟩) (.inl (by simp)) _;have hr:=h.row;unfold mb at hr;refine⟨⟨h.hB,h.here,?_,h.tk.keep hk (by simp[h.hB])⟩,hk⟩;rw[F4 hr];unfold mb;simp
theorem nk(h:RB B R tv toks at_ hv sv mn fa fc dp w)(hl:toks.length<=4398046510976):Calls ah 96 #[.pointer (some ⟨R,0,none⟩)] w fun e w'=>e=.returned (oG (gQ toks at_))/\Below w.heap.size w w':=by
 have hrow:=h.row;unfold mb at hrow;obtain⟨a,b,off,cap,rfl,hA,hT⟩:=h.tk.lst;have hR:=lt_of_heap hrow;have a0:∀o,(w.alloc o).cell? ⟨R,0,none⟩=some (.slice a toks.length cap):=fun o=>(World.cell?_alloc_lt _ _ _ hR).trans (by rw[af hrow];rfl)
 have a1:∀o,(w.alloc o).cell? ⟨R,1,none⟩=some (.int .i64 (at_:Int)):=fun o=>(World.cell?_alloc_lt _ _ _ hR).trans (by rw[af hrow];rfl)
 have sy:=h.here;have B0:=qet ((aw w.heap.size w).alloc (aj _) (.cells #[.int .i64 0,.string ⟨#[]⟩,.int .i64 0,.int .i64 0,.int .i64 0] 54))
 by_cases he:at_=toks.length
 ·have HE:qes (gQ toks at_=Ai):=by
   show _=_;unfold gQ;rw[List.getD_eq_getElem?_getD,List.getElem?_eq_none (by omega)];rfl
  have i1:((at_:Int)==(toks.length:Int))=true:=by rw[beq_iff_eq];omega
  clear hrow hA hT h;generalize(toks.length)=N at *;subst he;go_enter Tryz.func96,Tryz.ntmps96;go_wp2
  go_quiet (fail)
  go_wp2;refine aU (v:=oG Ai) ?_ rfl ⟨by rw[HE.o],?_⟩
  ·simp[aV,Tryz.results96,go_sem,oG,Ai]
  ·exact sx (kr B0.o _) (aj _) _ _ _ _ _
 ·have hlt:at_<toks.length:=by omega
  obtain⟨hbw,rfl⟩:=hA (by omega);obtain⟨x,hx⟩:∃x,toks[at_]? =some x:=⟨_,List.getElem?_eq_getElem hlt⟩
  obtain⟨q0,q1,q2,q3,q4⟩:=hT at_ x hx;have c0:∀o,(w.alloc o).cell? ⟨b,off+at_*5,none⟩=some (.int .i64 x.k):=fun o=>(World.cell?_alloc_lt _ _ _ hbw).trans q0
  have c1:∀o,(w.alloc o).cell? ⟨b,off+at_*5+1,none⟩=some (.string x.s):=fun o=>(World.cell?_alloc_lt _ _ _ hbw).trans q1
  have c2:∀o,(w.alloc o).cell? ⟨b,off+at_*5+2,none⟩=some (.int .i64 x.n):=fun o=>(World.cell?_alloc_lt _ _ _ hbw).trans q2
  have c3:∀o,(w.alloc o).cell? ⟨b,off+at_*5+3,none⟩=some (.int .i64 x.t):=fun o=>(World.cell?_alloc_lt _ _ _ hbw).trans q3
  have c4:∀o,(w.alloc o).cell? ⟨b,off+at_*5+4,none⟩=some (.int .i64 x.at_):=fun o=>(World.cell?_alloc_lt _ _ _ hbw).trans q4
  have HE:qes (gQ toks at_=x):=by
   show _=_;unfold gQ;rw[List.getD_eq_getElem?_getD,hx];rfl
  have i1:((at_:Int)==(toks.length:Int))=false:=by rw[beq_eq_false_iff_ne];omega
  have i2:(at_:Int)<(toks.length:Int):=by omega
  have i3:(0:Int)<=(at_:Int):=by omega
  have i4:(toks.length:Int)<=4398046510976:=by omega
  clear hrow hA hT h q0 q1 q2 q3 q4 hx hlt he hl sy;generalize(toks.length)=N at *;go_enter Tryz.func96,Tryz.ntmps96;go_wp2
  go_quiet (fail)
  go_wp2
  go_region_with (fail)
  all_goals
   go_wp2;refine aU (v:=oG x) ?_ rfl ⟨by rw[HE.o],?_⟩
   ·simp[aV,Tryz.results96,go_sem,oG]
   ·exact sx (kr B0.o _) (aj _) _ _ _ _ _
theorem rk(h:RB B R tv toks at_ hv sv mn fa fc dp w)(hl:toks.length<=4398046510976)(kind:Int)(u:ByteArray):Calls ah 141 #[.pointer (some ⟨R,0,none⟩),.int .i64 kind,.string u] w fun e w'=>e=.returned (.bool (decide ((gQ toks at_).k=kind/\(gQ toks at_).s=u)))/\Below w.heap.size w w':=by
 have c:=nk h hl;clear h hl;generalize gQ toks at_=x at *;obtain⟨xk,xs,xn,xt,xa⟩:=x;unfold oG at c;simp only[]at c ⊢;have bt:=kj xs u;go_enter Tryz.func141,Tryz.ntmps141;go_wp2_with fail;refine c.mono ?_;rintro e w1 ⟨rfl,hb1⟩;have B1:=qet (hb1.alloc hb1.size (.cells #[.int .i64 xk,.string xs,.int .i64 xn,.int .i64 xt,.int .i64 xa] 54));clear c hb1
 by_cases hk:xk=kind
 ·subst hk
  by_cases hs:xs=u
  ·have hb:(xs.toList==u.toList)=true:=by rw[bt];exact decide_eq_true hs
   have HE:=qet (decide_eq_true hs);clear bt hs;go_wp2;go_ret;exact⟨hZ HE.o.symm,B1.o⟩
  ·have hb:(xs.toList==u.toList)=false:=by rw[bt];exact decide_eq_false hs
   have HE:=qet (decide_eq_false hs);clear bt hs;go_wp2;go_ret;exact⟨hZ HE.o.symm,B1.o⟩
 ·have HE:qes (decide (xk=kind/\xs=u)=false):=decide_eq_false (fun q=>hk q.1);have hb:(xk==kind)=false:=by rw[beq_eq_false_iff_ne];exact hk
  clear bt hk;go_wp2;go_ret;exact⟨hZ HE.o.symm,B1.o⟩
abbrev ln(b:Addr):Value:=.iface 259 (.pointer (some b))
def Pr(J:World->Prop)(F:Addr->World->Prop)(e:Ending)(w:World):Prop:=∃v,e=.returned v/\((v=.nilIface/\J w)\/∃b,v=ln b/\F b w)
def Ps(p:Value)(J J':World->Prop)(F:Addr->World->Prop):Prop:=
 ∃n pre caps,p=.func (.func n) pre caps/\(∀W,(callFunc n (pre++caps)).run ah W=.ok (.enter n (pre++caps)) W)/\∀W,J W->Calls ah n (pre++caps) W (Pr J' F)
theorem pX(ps:List Value)(b cap:Nat)(w:World)(J:Nat->World->Prop)(F:Addr->World->Prop)(hlen:ps.length<=100)(h0:J 0 w)(hJ:∀i W,J i W->W.heap[b]? =some (.cells ps.toArray 141))(hst:∀i p,ps[i]? =some p->Ps p (J i) (J (i+1)) F):Calls ah 99 #[.slice (some ⟨b,0,none⟩) ps.length cap] w (Pr (J ps.length) F):=by
 obtain⟨n,hn⟩:∃n,n=ps.length:=⟨_,rfl⟩
 rw[<-hn]at hlen ⊢;have HN:=qet hn;have H0:=qet h0;have HJ:=qet hJ;have HST:=qet hst;have m0:(0:Int)<=(n:Int):=by omega
 clear hn h0 hJ hst;go_enter Tryz.func99,Tryz.ntmps99;go_wp2_with fail
 go_loopw [8] (fun i wr=>∃(k:Nat),k<=n/\i=.int .i64 (k:Int)/\qes (J k wr)) (fun i _=>n-(intOf i).toNat)
 case atStart=>exact⟨0,by omega,rfl,H0.o⟩
 case round=>
  obtain⟨k,hk,rfl,hh⟩:=hrel
  by_cases hlt:k<n
  ·have j1:(k:Int)<(n:Int):=by omega
   have j0:(0:Int)<=(k:Int):=by omega
   obtain⟨p,hp⟩:∃p,ps[k]? =some p:=⟨_,List.getElem?_eq_getElem (by rw[<-HN.o];exact hlt)⟩
   obtain⟨f,pre,caps,rfl,hcf,hcall⟩:=HST.o k p hp;have hc:=hcall wr hh.o
   have d0:wr.cell? ⟨b,k,none⟩=some (.func (.func f) pre caps):=by
    rw[af (HJ.o k wr hh.o)]
    simpa using hp
   clear hp hcall;go_wp2_with fail;refine hc.mono ?_;rintro e w1 ⟨v,rfl,⟨rfl,hj⟩|⟨eb,rfl,hf⟩⟩
   ·have HJ1:=qet hj;clear hc hj d0 hcf;go_wp2
    go_roundw
    case rel=>exact⟨k+1,by omega,by go_num,HJ1.o⟩
    case measure=>simp[intOf];omega
   ·have HF:=qet hf;clear hc hf d0 hcf;go_wp2;go_ret;exact⟨_,rfl,.inr ⟨eb,rfl,HF.o⟩⟩
  ·obtain rfl:k=n:=by omega
   have j1:¬ (k:Int)<(k:Int):=by omega
   go_wp2;go_ret;exact⟨_,rfl,.inl ⟨rfl,hh.o⟩⟩
theorem Lv(w:World)(A C D:Obj):(((w.alloc A).alloc C).alloc D).heap[w.heap.size]? =some A/\(((w.alloc A).alloc C).alloc D).heap[w.heap.size+1]? =some C/\(((w.alloc A).alloc C).alloc D).heap[w.heap.size+1+1]? =some D:=by
 refine⟨?_,?_,?_⟩
 ·rw[bj _ _ _ (by simp;omega),bj _ _ _ (by simp)];exact aE w A
 ·rw[bj _ _ _ (by simp)];have:=aE (w.alloc A) C
  rwa [aB]at this
 ·have:=aE ((w.alloc A).alloc C) D
  rwa [aB,aB]at this
abbrev mz(b1 b2 b3:Nat):Value:=.func (.func 177) #[] #[.pointer (some ⟨b1,0,none⟩),.pointer (some ⟨b2,0,none⟩),.pointer (some ⟨b3,0,none⟩)]
structure rl(R:Nat)(kind:Int)(u:ByteArray)(m b1 b2 b3:Nat)(w:World):Prop where
 l1:m<=b1
 l2:m<=b2
 l3:m<=b3
 h1:w.heap[b1]? =some (.cells #[.pointer (some ⟨R,0,none⟩)] 55)
 h2:w.heap[b2]? =some (.cells #[.int .i64 kind] 3)
 h3:w.heap[b3]? =some (.cells #[.string u] 9)
theorem rl.keep{kind:Int}{u:ByteArray}{m b1 b2 b3:Nat}(h:rl R kind u m b1 b2 b3 w)(hk:gR O w w')(hO:∀k,k∈O->k<m):rl R kind u m b1 b2 b3 w':=
 ⟨h.l1,h.l2,h.l3,(hk.block _ (lt_of_heap h.h1) (fun e=>by have:=hO _ e;have:=h.l1;omega)).trans h.h1,(hk.block _ (lt_of_heap h.h2) (fun e=>by have:=hO _ e;have:=h.l2;omega)).trans h.h2,(hk.block _ (lt_of_heap h.h3) (fun e=>by have:=hO _ e;have:=h.l3;omega)).trans h.h3⟩
def mT(R:Nat)(kind:Int)(u:ByteArray)(w:World)(e:Ending)(w':World):Prop:=∃b1 b2 b3,e=.returned (mz b1 b2 b3)/\rl R kind u w.heap.size b1 b2 b3 w'/\Below w.heap.size w w'
theorem AT(R:Nat)(kind:Int)(u:ByteArray)(w:World):Calls ah 142 #[.pointer (some ⟨R,0,none⟩),.int .i64 kind,.string u] w (mT R kind u w):=by
 obtain⟨a1,a2,a3⟩:=Lv w (.cells #[.pointer (some ⟨R,0,none⟩)] 55) (.cells #[.int .i64 kind] 3) (.cells #[.string u] 9);have HA:qes (rl R kind u w.heap.size w.heap.size (w.heap.size+1) (w.heap.size+1+1) (((w.alloc (.cells #[.pointer (some ⟨R,0,none⟩)] 55)).alloc (.cells #[.int .i64 kind] 3)).alloc (.cells #[.string u] 9))):=⟨by omega,by omega,by omega,a1,a2,a3⟩
 have HB:=qet ((((aw w.heap.size w).alloc (aj _) (.cells #[.pointer (some ⟨R,0,none⟩)] 55)).alloc (by simp) (.cells #[.int .i64 kind] 3)).alloc (by simp;omega) (.cells #[.string u] 9));clear a1 a2 a3;unfold mT;go_enter Tryz.func142,Tryz.ntmps142;go_wp2;go_ret;exact⟨_,_,_,rfl,HA.o,HB.o⟩
theorem yG(R:Nat)(u:ByteArray)(w:World):Calls ah 100 #[.pointer (some ⟨R,0,none⟩),.string u] w (mT R 1 u w):=by
 have t1:=AT R 1 u w;unfold mT at t1 ⊢;go_enter Tryz.func100,Tryz.ntmps100;go_wp2_with fail;refine t1.mono ?_;rintro e w1 ⟨b1,b2,b3,rfl,h1,h2⟩;have H1:=qet h1;have H2:=qet h2;clear t1 h1 h2;go_wp2;go_ret;exact⟨_,_,_,rfl,H1.o,H2.o⟩
theorem oQ(R:Nat)(u:ByteArray)(w:World):Calls ah 104 #[.pointer (some ⟨R,0,none⟩),.string u] w (mT R 3 u w):=by
 have t1:=AT R 3 u w;unfold mT at t1 ⊢;go_enter Tryz.func104,Tryz.ntmps104;go_wp2_with fail;refine t1.mono ?_;rintro e w1 ⟨b1,b2,b3,rfl,h1,h2⟩;have H1:=qet h1;have H2:=qet h2;clear t1 h1 h2;go_wp2;go_ret;exact⟨_,_,_,rfl,H1.o,H2.o⟩
theorem at_in(h:(gQ toks i).k≠0):i<toks.length:=by
 apply Decidable.byContradiction;intro hn;apply h;unfold gQ;rw[List.getD_eq_getElem?_getD,List.getElem?_eq_none (by omega)];rfl
theorem o0(h:RB B R tv toks at_ hv sv mn fa fc dp w)(hl:toks.length<=3000000000000){kind:Int}(hk:kind≠0){u:ByteArray}{m b1 b2 b3:Nat}{t0:Addr}(hc:rl R kind u m b1 b2 b3 w)(he:w.cell? ⟨0,0,none⟩=some (ln t0)):
  Calls ah 177 #[.pointer (some ⟨b1,0,none⟩),.pointer (some ⟨b2,0,none⟩),.pointer (some ⟨b3,0,none⟩)] w fun e w'=>((gQ toks at_).k=kind/\(gQ toks at_).s=u/\e=.returned .nilIface/\RB B R tv toks (at_+1) hv sv mn fa fc dp w'/\gR [R] w w')\/(¬ ((gQ toks at_).k=kind/\(gQ toks at_).s=u)/\e=.returned (ln t0)/\RB B R tv toks at_ hv sv mn fa fc dp w'/\gR [R] w w'):=by
 have t1:=rk h (by omega) kind u;have HH:=qet h;have d1:w.cell? ⟨b1,0,none⟩=some (.pointer (some ⟨R,0,none⟩)):=by rw[af hc.h1];rfl
 have d2:w.cell? ⟨b2,0,none⟩=some (.int .i64 kind):=by rw[af hc.h2];rfl
 have d3:w.cell? ⟨b3,0,none⟩=some (.string u):=by rw[af hc.h3];rfl
 have l1:=lt_of_heap hc.h1;have l0:0<w.heap.size:=World.block_lt_of_cell? w ⟨0,0,none⟩ he;have hr:=h.row;unfold mb at hr;have Hw:=lt_of_heap hr;have HR:=qet hr;have sy:=h.here;clear hc h hr
 by_cases hm:(gQ toks at_).k=kind/\(gQ toks at_).s=u
 ·rw[decide_eq_true hm]at t1;have hlt:at_<toks.length:=at_in (by rw[hm.1];exact hk);have HM:=qet hm;clear hm;go_enter Tryz.func177,Tryz.ntmps177;go_wp2_with fail;refine t1.mono ?_;rintro e w1 ⟨rfl,hb1⟩;have Lw:=qet (HH.o.below hb1);have HB1:=qet hb1;have q1:w1.cell? ⟨b1,0,none⟩=some (.pointer (some ⟨R,0,none⟩)):=(World.cell?_of_block (hb1.block b1 l1)).trans d1;have r1:w1.heap[R]? =_:=(hb1.block R Hw).trans HR.o;have q2:w1.cell? ⟨R,1,none⟩=some (.int .i64 (at_:Int)):=by rw[af r1];rfl
  have q3:w1.frozen? ⟨R,1,none⟩=false:=aC r1 1;clear t1 hb1 r1 d1 d2 d3 he HR;go_wp2;go_ret;obtain⟨z1,z2⟩:=Lw.o.put (n:=at_+1) (by omega) rfl;exact .inl ⟨HM.o.1,HM.o.2,rfl,z1,(gR.of_below HB1.o).trans z2⟩
 ·rw[decide_eq_false hm]at t1;have HM:=qet hm;clear hm;go_enter Tryz.func177,Tryz.ntmps177;go_wp2_with fail;refine t1.mono ?_;rintro e w1 ⟨rfl,hb1⟩;have Lw:=qet (HH.o.below hb1);have HB1:=qet hb1;have q1:w1.cell? ⟨0,0,none⟩=some (ln t0):=(World.cell?_of_block (hb1.block 0 l0)).trans he;clear t1 hb1 d1 d2 d3 he HR;go_wp2;go_ret;exact .inr ⟨HM.o,rfl,Lw.o,gR.of_below HB1.o⟩
def o6(row:Int)(x:Tv):Option Int:=(iK.find? fun r=>decide (r.1=row/\x.k=r.2.1/\x.s=⟨r.2.2.1.toArray⟩)).map (·.2.2.2)
theorem RS.below(h:RS B R tv toks at_ op ps fa fc w)(hb:Below w.heap.size w w'):RS B R tv toks at_ op ps fa fc w':=by
 obtain⟨pv,hrow,hown⟩:=h.row;obtain⟨a,b,off,cap,sA,hA,hT⟩:=h.toks;refine⟨h.hB,aP h.le hb.size,h.here,⟨pv,by rw[hb.block R (lt_of_heap hrow)];exact hrow,⟨hown.1,?_⟩⟩,⟨a,b,off,cap,sA,hA,fun i x hx=>?_⟩⟩
 ·rcases hown.2 with h|⟨g,cap,cur,r1,r2,r3,r4⟩
  ·exact .inl h
  ·exact .inr ⟨g,cap,cur,r1,r2,by rw[hb.block g (lt_of_heap r3)];exact r3,r4⟩
 ·have hbB:=(hA (by have:=(List.getElem?_eq_some_iff.1 hx).1;omega)).1;have hbw:b<w.heap.size:=aJ hbB h.le;obtain⟨q0,q1,q2,q3,q4⟩:=hT i x hx;exact⟨(hb.cell (p:=⟨b,_,none⟩) hbw).trans q0,(hb.cell (p:=⟨b,_,none⟩) hbw).trans q1,(hb.cell (p:=⟨b,_,none⟩) hbw).trans q2,(hb.cell (p:=⟨b,_,none⟩) hbw).trans q3,(hb.cell (p:=⟨b,_,none⟩) hbw).trans q4⟩
def DP(o:Option Int):Value:=match o with
 |some n=>.tuple #[.int .i64 n,.bool true]
 |none=>.tuple #[.int .i64 0,.bool false]
theorem tF(h:RS B R tv toks at_ op ps fa fc w)(hl:toks.length<=4398046510976)(row:Int)(hg:TabAt w 13 nc):Calls ah 213 #[.pointer (some ⟨R,0,none⟩),.int .i64 row] w fun e w'=>e=.returned (DP (o6 row (gQ toks at_)))/\Below w.heap.size w w':=by
 have ix:qes (∀(k:Nat)(h:k<17)(W:World),(bR 252 (.agg nc.toArray) (.int .i64 (k:Int))).run ah W=.ok (.agg #[.int .i64 (iK[k]'h).1,.int .i64 (iK[k]'h).2.1,.string ⟨(iK[k]'h).2.2.1.toArray⟩,.int .i64 (iK[k]'h).2.2.2]) W):=Lf;obtain⟨KT,hT⟩:∃KT,fv nc.toArray=KT:=⟨_,rfl⟩
 rw[hT]at ix;have HH:=qet h;have HLn:=qet hl;obtain⟨F,hF⟩:∃F:(Int×Int×Bs×Int)->Bool,F=fun r=>decide (r.1=row/\(gQ toks at_).k=r.2.1/\(gQ toks at_).s=⟨r.2.2.1.toArray⟩):=⟨_,rfl⟩
 have HF:=qet hF;have HO:qes (o6 row (gQ toks at_)=(iK.find? F).map (·.2.2.2)):=by show _=_;rw[hF];rfl
 clear h hl hF;go_enter Tryz.func213,Tryz.ntmps213;go_wp2_with((with_reducible refine oD (ty:=252) ?_);go_must (refine mP (b:=13) (t:=nc) (T:=KT) rfl hg hT Tryz.underlying252 rfl Hq ?_));clear hg hT
 go_loopw [9] (fun i wr=>∃k:Nat,k<=17/\i=.int .i64 (k:Int)/\qes (Below w.heap.size w wr/\(iK.drop k).find? F=iK.find? F)) (fun i _=>17-(intOf i).toNat)
 case atStart=>exact⟨0,by omega,rfl,aw _ _,rfl⟩
 case round=>
  obtain⟨k,hk,rfl,hh⟩:=hrel;have HB:=qet hh.o.1;have hf:=hh.o.2;clear hh
  by_cases hlt:k<17
  ·have x0:=ix.o k hlt;have i1:(k:Int)<17:=by omega
   rw[eW (show k<iK.length from hlt),List.find?_cons]at hf;generalize(iK[k]'hlt)=r at *;obtain⟨r0,r1,r2,r3⟩:=r;simp only[]at x0 hf;obtain⟨u,hu⟩:∃u:ByteArray,u=⟨r2.toArray⟩:=⟨_,rfl⟩
   rw[<-hu]at x0;have zr:=HB.o.size;have b1:=HB.o.alloc zr (.cells #[.int .i64 r0,.int .i64 r1,.string u,.int .i64 r3] 231);have c:=yF (HH.o.below b1) HLn.o r1 u;have B1:=qet b1;have HU:=qet hu;have SP:=qet hf;clear ix b1 hu hf
   by_cases hr0:r0=row
   ·subst hr0;go_wp2_with fail;refine c.mono ?_;rintro e w1 ⟨rfl,hb1⟩;have B2:=qet (B1.o.trans (hb1.mono B1.o.size));have z1:wr.heap.size<(wr.alloc (.cells #[.int .i64 r0,.int .i64 r1,.string u,.int .i64 r3] 231)).heap.size:=by rw[aB];omega
    have d3:w1.cell? ⟨wr.heap.size,3,none⟩=some (.int .i64 r3):=(hb1.cell (p:=⟨wr.heap.size,3,none⟩) z1).trans (by simp);clear hb1 c z1
    cases hq:decide ((gQ toks at_).k=r1/\(gQ toks at_).s=u)with
    |true=>
     have HR:qes (o6 r0 (gQ toks at_)=some r3):=by
      show _=_;have hq2:=of_decide_eq_true hq;have e1:F (r0,r1,r2,r3)=true:=by rw[HF.o];exact decide_eq_true ⟨rfl,hq2.1,by rw[hq2.2,HU.o]⟩
      rw[HO.o,<-SP.o,e1];rfl
     clear hq;go_wp2;go_ret2;exact⟨by rw[HR.o];rfl,B2.o⟩
    |false=>
     have HR:qes ((iK.drop (k+1)).find? F=iK.find? F):=by
      show _=_;have hq2:=of_decide_eq_false hq;have e1:F (r0,r1,r2,r3)=false:=by rw[HF.o];exact decide_eq_false (fun q=>hq2 ⟨q.2.1,by rw[q.2.2,HU.o]⟩)
      rw[<-SP.o,e1]
     clear hq;go_wp2
     go_roundw
     case rel=>exact⟨k+1,by omega,by go_num,B2.o,HR.o⟩
     case measure=>simp[intOf];omega
   ·have HR:qes ((iK.drop (k+1)).find? F=iK.find? F):=by
     show _=_;have e1:F (r0,r1,r2,r3)=false:=by rw[HF.o];exact decide_eq_false (fun q=>hr0 q.1)
     rw[<-SP.o,e1]
    have hb:(r0==row)=false:=by rw[beq_eq_false_iff_ne];exact hr0
    clear c hr0;go_wp2
    go_roundw
    case rel=>exact⟨k+1,by omega,by go_num,B1.o,HR.o⟩
    case measure=>simp[intOf];omega
  ·obtain rfl:k=17:=by omega
   have HR:qes (o6 row (gQ toks at_)=none):=by
    show _=_;rw[HO.o,<-hf];rfl
   clear hf ix;go_wp2;go_ret2;exact⟨by rw[HR.o];rfl,HB.o⟩
variable {o:Value}{t:Value}{p:Value}
theorem Lx{a fa fc:Value}(h:w.heap[R]? =some (.cells #[t,a,o,p,fa,fc] 206))(v:Value):(w.setCell ⟨R,1,none⟩ v).heap[R]? =some (.cells #[t,v,o,p,fa,fc] 206):=by
 simp[cW,Array.getElem?_modify,h]
theorem Ly{a fa fc:Value}(h:w.heap[R]? =some (.cells #[t,a,o,p,fa,fc] 206))(v:Value):(w.setCell ⟨R,2,none⟩ v).heap[R]? =some (.cells #[t,a,v,p,fa,fc] 206):=by
 simp[cW,Array.getElem?_modify,h]
theorem SQ{a fa fc:Value}(h:w.heap[R]? =some (.cells #[t,a,o,p,fa,fc] 206))(v:Value):(w.setCell ⟨R,3,none⟩ v).heap[R]? =some (.cells #[t,a,o,v,fa,fc] 206):=by
 simp[cW,Array.getElem?_modify,h]
theorem Lz{a fa fc:Value}(h:w.heap[R]? =some (.cells #[t,a,o,p,fa,fc] 206))(v:Value):(w.setCell ⟨R,4,none⟩ v).heap[R]? =some (.cells #[t,a,o,p,v,fc] 206):=by
 simp[cW,Array.getElem?_modify,h]
theorem LA{a fa fc:Value}(h:w.heap[R]? =some (.cells #[t,a,o,p,fa,fc] 206))(v:Value):(w.setCell ⟨R,5,none⟩ v).heap[R]? =some (.cells #[t,a,o,p,fa,v] 206):=by
 simp[cW,Array.getElem?_modify,h]
theorem np(w:World)(A B:Obj):((w.alloc A).alloc B).drew.heap[w.heap.size+1]? =some B:=by
 show((w.alloc A).alloc B).heap[w.heap.size+1]? =some B;have:=aE (w.alloc A) B
 simpa using this
theorem BT{w1:World}{A C o:Obj}{row:Option Nat}(h:w.heap[R]? =some o)(hg:((w.alloc A).alloc C).drew.grownBy w1 row)(hne:row≠some R):w1.heap[R]? =some o:=by
 have hlt:=lt_of_heap h
 have hx:((w.alloc A).alloc C).drew.heap[R]? =some o:=by
  show((w.alloc A).alloc C).heap[R]? =some o;rw[bj (w.alloc A) C R (by rw[aB];omega),bj w A R hlt];exact h
 rw[hg.block R (lt_of_heap hx) (fun e=>hne e.symm)];exact hx
theorem Pu(h:w.ownsRow base 42 5 v n xs):∀k,v.ownBlock=some k->∃c fz,w.heap[k]? =some (.cells c 42 fz):=fun k hk=>by
 rcases h.2 with⟨rfl,_⟩|⟨g,cap,cur,rfl,_,hg,_⟩
 ·cases hk
 ·simp[bw]at hk;subst hk;exact⟨_,_,hg⟩
theorem LB{w1:World}{A C:Obj}{row:Option Nat}(hB:B<=w.heap.size)(hg:((w.alloc A).alloc C).drew.grownBy w1 row)(hr:∀k,row=some k->B<=k)(hrow:∀k,row=some k->∃c fz,w.heap[k]? =some (.cells c 42 fz)):Keep B R w w1:=by
 have b0:=(aw w.heap.size w).alloc (aj _) A;have b1:Below B w ((w.alloc A).alloc C).drew:=((b0.alloc b0.size C).drew).mono hB;have b2:=b1.grown hg (by show B<=((w.alloc A).alloc C).heap.size;rw[aB,aB];omega) hr;refine⟨b2.os,b2.tape,b2.output,b2.size,fun k hk _=>b2.block k hk,fun k o ho _ hn=>?_⟩
 have hne:row≠some k:=fun e=>by
  obtain⟨c,fz,h⟩:=hrow k e;exact hn c fz (an (ho.symm.trans h))
 exact BT ho hg hne
theorem RS.turn{at2 op2:Nat}{ps2:List Pv}{fa2 Yx:Int}(h:RS B R tv toks at_ op ps fa fc w)(hk:Keep B R w w')(hh:at2<=toks.length)
  (hrow:∃pv,w'.heap[R]? =some (.cells #[tv,.int .i64 (at2:Int),.int .i64 (op2:Int),pv,.int .i64 fa2,.int .i64 Yx] 206)/\w'.ownsRow B 42 5 pv ps2.length (oE ps2)):RS B R tv toks at2 op2 ps2 fa2 Yx w':=by
 obtain⟨a,b,off,cap,sA,hA,hT⟩:=h.toks;refine⟨h.hB,aP h.le hk.size,hh,hrow,⟨a,b,off,cap,sA,hA,fun i x hx=>?_⟩⟩;obtain⟨hbB,hbR,_⟩:=hA (by have:=(List.getElem?_eq_some_iff.1 hx).1;omega);have hc:∀j,w'.cell? ⟨b,j,none⟩=w.cell? ⟨b,j,none⟩:=fun j=>World.cell?_of_block (hk.block b hbB hbR)
 obtain⟨q0,q1,q2,q3,q4⟩:=hT i x hx;exact⟨(hc _).trans q0,(hc _).trans q1,(hc _).trans q2,(hc _).trans q3,(hc _).trans q4⟩
theorem rp(h:RS B R tv toks at_ op ps fa fc w):Calls ah 237 #[.pointer (some ⟨R,0,none⟩)] w fun e w'=>e=.returned (.bool false)/\RS B R tv toks at_ op ps (at_:Int) 60 w'/\Keep B R w w':=by
 have HH:=qet h;obtain⟨pv,hrow,hown⟩:=h.row;have d1:w.cell? ⟨R,1,none⟩=some (.int .i64 (at_:Int)):=by rw[af hrow];rfl
 have d4:w.cell? ⟨R,4,none⟩=some (.int .i64 fa):=by rw[af hrow];rfl
 have d5:w.cell? ⟨R,5,none⟩=some (.int .i64 fc):=by rw[af hrow];rfl
 have e4:∀j,w.frozen? ⟨R,j,none⟩=false:=fun j=>aC hrow j
 have HK:qes (Keep B R w ((w.setCell ⟨R,4,none⟩ (.int .i64 (at_:Int))).setCell ⟨R,5,none⟩ (.int .i64 60))):=((Keep.refl B R w).setCell (p:=⟨R,4,none⟩) rfl _).setCell (p:=⟨R,5,none⟩) rfl _
 have HR:qes (RS B R tv toks at_ op ps (at_:Int) 60 ((w.setCell ⟨R,4,none⟩ (.int .i64 (at_:Int))).setCell ⟨R,5,none⟩ (.int .i64 60))):=
  h.turn HK.o h.here ⟨pv,LA (Lz hrow _) _,bC (bC hown (a:=⟨R,4,none⟩) h.hB _) (a:=⟨R,5,none⟩) h.hB _⟩
 clear h hrow hown;go_enter Tryz.func237,Tryz.ntmps237;go_wp2;go_ret;exact⟨rfl,HR.o,HK.o⟩
theorem AU(h:RS B R tv toks at_ op ps fa fc w)(h2:op=200):Calls ah 226 #[.pointer (some ⟨R,0,none⟩)] w fun e w'=>e=.returned (.bool false)/\RS B R tv toks at_ op ps (at_:Int) 2 w'/\Keep B R w w':=by
 obtain⟨pv,hrow,hown⟩:=h.row;have d1:w.cell? ⟨R,1,none⟩=some (.int .i64 (at_:Int)):=by rw[af hrow];rfl
 have d2:w.cell? ⟨R,2,none⟩=some (.int .i64 (op:Int)):=by rw[af hrow];rfl
 have d4:w.cell? ⟨R,4,none⟩=some (.int .i64 fa):=by rw[af hrow];rfl
 have d5:w.cell? ⟨R,5,none⟩=some (.int .i64 fc):=by rw[af hrow];rfl
 have e4:∀j,w.frozen? ⟨R,j,none⟩=false:=fun j=>aC hrow j
 have HK:qes (Keep B R w ((w.setCell ⟨R,4,none⟩ (.int .i64 (at_:Int))).setCell ⟨R,5,none⟩ (.int .i64 2))):=((Keep.refl B R w).setCell (p:=⟨R,4,none⟩) rfl _).setCell (p:=⟨R,5,none⟩) rfl _
 have HR:qes (RS B R tv toks at_ op ps (at_:Int) 2 ((w.setCell ⟨R,4,none⟩ (.int .i64 (at_:Int))).setCell ⟨R,5,none⟩ (.int .i64 2))):=
  h.turn HK.o h.here ⟨pv,LA (Lz hrow _) _,bC (bC hown (a:=⟨R,4,none⟩) h.hB _) (a:=⟨R,5,none⟩) h.hB _⟩
 have i1:((op:Int)==200)=true:=by rw[beq_iff_eq];omega
 clear h hrow hown h2;go_enter Tryz.func226,Tryz.ntmps226;go_wp2;go_ret;exact⟨rfl,HR.o,HK.o⟩
theorem AV(h:RS B R tv toks at_ op ps fa fc w)(hl:toks.length<=4398046510976)(h2:op<200)(hlt:at_<toks.length):Calls ah 226 #[.pointer (some ⟨R,0,none⟩)] w fun e w'=>e=.returned (.bool true)/\RS B R tv toks (at_+1) (op+1) ps fa fc w'/\Keep B R w w':=by
 obtain⟨pv,hrow,hown⟩:=h.row;have d1:w.cell? ⟨R,1,none⟩=some (.int .i64 (at_:Int)):=by rw[af hrow];rfl
 have d2:w.cell? ⟨R,2,none⟩=some (.int .i64 (op:Int)):=by rw[af hrow];rfl
 have d4:w.cell? ⟨R,4,none⟩=some (.int .i64 fa):=by rw[af hrow];rfl
 have d5:w.cell? ⟨R,5,none⟩=some (.int .i64 fc):=by rw[af hrow];rfl
 have e4:∀j,w.frozen? ⟨R,j,none⟩=false:=fun j=>aC hrow j
 have HK:qes (Keep B R w ((w.setCell ⟨R,2,none⟩ (.int .i64 ((op:Int)+1))).setCell ⟨R,1,none⟩ (.int .i64 ((at_:Int)+1)))):=((Keep.refl B R w).setCell (p:=⟨R,2,none⟩) rfl _).setCell (p:=⟨R,1,none⟩) rfl _
 have HR:qes (RS B R tv toks (at_+1) (op+1) ps fa fc ((w.setCell ⟨R,2,none⟩ (.int .i64 ((op:Int)+1))).setCell ⟨R,1,none⟩ (.int .i64 ((at_:Int)+1)))):=
  h.turn HK.o hlt ⟨pv,Lx (Ly hrow _) _,bC (bC hown (a:=⟨R,2,none⟩) h.hB _) (a:=⟨R,1,none⟩) h.hB _⟩
 have i1:((op:Int)==200)=false:=by rw[beq_eq_false_iff_ne];omega
 have i2:(op:Int)<=200:=by omega
 have i3:(at_:Int)<=4398046510976:=by omega
 have i4:(0:Int)<=(op:Int):=by omega
 have i5:(0:Int)<=(at_:Int):=by omega
 clear h hrow hown h2 hl hlt;go_enter Tryz.func226,Tryz.ntmps226;go_wp2;go_ret;exact⟨rfl,HR.o,HK.o⟩
theorem qI(w:World){o:Oper}{a:Act}{K:Act->World->Prop}{E:Prop}(hgd:o.guard=none)(s x:Operand)(t:TypeId)
  (ho:o.op=.call {callee:=.builtin .append,args:=#[s,x],argTypes:=#[t,t]})
  (base:Nat) (e:TypeId) (i:TypeInfo) (z:Value) (size bytes:Nat) (ht:ah.underlying t=some (.slice e)) (hi:ah.info? e=some i) (hz:i.zero=some z)
  (hsize:i.size=size) (hby:i.bytes=bytes) (hzs:z.cells.size=size) (hsz:0<size)
  (v:Value) (n:Nat) (xs:List Value) (hs:a.eval s=v) (hown:w.ownsRow base e size v n xs)
  (ad:Addr) (m c:Nat) (news:List Value) (hx:a.eval x=.slice (some ad) m c) (hl:news.length=m*size) (hnews:∀j u,news[j]? =some u->w.cell? (ad.add j)=some u) (h1:∀u∈news,u.oneCell'=true)
  (hm:0<m) (h63:n+m<=ff) (hbytes:((n+m)+(n+m) / 4+192)*bytes<=281474976710656) (hbase:base<=w.heap.size)
  (h:∀g cap w',w'.ownsRow base e size (.slice (some ⟨g,0,none⟩) (n+m) cap) (n+m) (xs++news)->w.grownBy w' v.ownBlock->K (a.put o.dst (.slice (some ⟨g,0,none⟩) (n+m) cap)) w'):
  if cM o (yielded ops a.tmps)=true then Oper.wp ah o a w K Q else E:=by
 have hw:cM o (yielded ops a.tmps)=true:=by simp[cM,hgd]
 rw[if_pos hw];obtain⟨v',w',hr,h2,h3,_⟩:=run_append_own_wide (P:=ah) w base t o.type e i z size bytes ht hi hz hsize hby hzs hsz v n xs hown ad m c news hl hnews h1 h63 hbytes hbase;unfold Oper.wp execOp;simp only[ho,resolve,invoke,builtin,Sem.run_bind,Sem.run_pure,cS,List.map_toArray,bL,List.map_nil,hs,hx,hr]
 rcases h2.2 with⟨_,h0⟩|⟨g,cap,cur,rfl,_⟩
 ·omega
 ·exact h g cap w' h2 h3
theorem Yy:(ah.info? 42).map (fun i=>(i.zero,i.size,i.bytes))=some (some (.agg #[.int .i64 0,.int .i64 0,.int .i64 0,.string ⟨#[]⟩,.string ⟨#[]⟩]),5,56):=by kernel_rfl
theorem add_any(h:RS B R tv toks at_ op ps fa fc w)(hl:ps.length<=3000000000000)(p:Pv):Calls ah 214 #[.pointer (some ⟨R,0,none⟩),.agg #[.int .i64 p.k,.int .i64 p.n,.int .i64 p.t,.string p.s,.string p.f]] w fun e w'=>e=.returned (.bool true)/\RS B R tv toks at_ op (ps++[p]) fa fc w'/\Keep B R w w':=by
 have HH:=qet h;obtain⟨pv,hrow,hown⟩:=h.row;obtain⟨i0,hi,hz0,hz1,hz2⟩:=info_parts Yy;have hR:=lt_of_heap hrow;have Px:=h.hB;have hBw:=h.le;have a3:∀o,(w.alloc o).cell? ⟨R,3,none⟩=some pv:=fun o=>(World.cell?_alloc_lt _ _ _ hR).trans (by rw[af hrow];rfl)
 have a3':∀o o',((w.alloc o).alloc o').cell? ⟨R,3,none⟩=some pv:=fun o o'=>(World.cell?_alloc_lt _ _ _ (by rw[aB];show R<_;omega)).trans (a3 o)
 have sB:=qet hrow;have HOWN:=qet hown;have hne:pv.ownBlock≠some R:=fun e=>by have:=(hown.lt R e).1;omega
 have qD:=qet hne;obtain⟨pk,pn,pt,pS,pF⟩:=p;simp only[];clear h hrow hown hne;go_enter Tryz.func214,Tryz.ntmps214;go_wp2
 go_region_law ((refine qI _ (by rfl) _ _ _ (by rfl) B 42 i0 _ 5 56 Tryz.underlying43 hi hz0 hz1 hz2 rfl (by omega) pv ps.length _ (by rfl) (by exact(HOWN.o.alloc _).alloc _) ⟨w.heap.size+1,0,none⟩ 1 1 [.int .i64 pk,.int .i64 pn,.int .i64 pt,.string pS,.string pF] (by rfl) (by rfl) (bf (cs:=#[.int .i64 pk,.int .i64 pn,.int .i64 pt,.string pS,.string pF]) (t:=42) (fr:=(0,0)) (by exact np w _ _)) (by simp[aY]) (by omega) (by unfold ff;omega) (by omega) (by simp;omega) ?_;intro gg cap' w1 hown1 hgrow;have e1:=BT sB.o hgrow qD.o;have q3:=(af e1 3);have FI:=aC e1 3;simp only[List.getElem?_toArray,List.getElem?_cons_succ,List.getElem?_cons_zero]at q3;have HK:=qet (LB (R:=R) hBw hgrow (fun r hr=>(HOWN.o.lt r hr).1) (Pu HOWN.o));have Py:=qet e1;have mh:=qet hown1;clear hgrow e1 hown1))
 all_goals
  go_wp2;go_ret;have K2:=HK.o.setCell (p:=⟨R,3,none⟩) rfl (.slice (some ⟨gg,0,none⟩) (ps.length+1) cap');refine⟨rfl,HH.o.turn K2 HH.o.here ⟨_,SQ Py.o _,?_⟩,K2⟩;have ho:=mh.o;rw[ao,DI];exact bC ho (a:=⟨R,3,none⟩) Px _
end Go.Proofs.YtekanffohkeoeaaGreatDoor
