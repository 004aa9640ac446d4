import Derived.Test.YtekanffohkeoeaaGreatDoorLex
import Derived.Test.YtekanffohkeoeaaGreatDoorFrame
import Derived.Test.YtekanffohkeoeaaGreatDoorShelf
import Derived.ArgAppend
import Derived.OwnWalk
import Derived.Deep.AppendLies
import Derived.Laws.IdiomStrings
import Derived.Deep.CutRange
import Derived.Deep.RegionHeld3
import Derived.ScopeJumps
import Derived.WalkMore
import Derived.Test.YtekanffohkeoeaaGreatDoorVvW
import Derived.Test.YtekanffohkeoeaaGreatDoorYiW
import Derived.Test.YtekanffohkeoeaaGreatDoorBkP
import Derived.Deep.DeepAppendWide
import Derived.OneCell
namespace Go.Proofs.YtekanffohkeoeaaGreatDoor
open Go.RowKit
open List renaming mem_cons_self → aT, mem_cons_of_mem → aK, mem_cons → aI, drop_eq_getElem_cons → eW, length → fp, length_take → bU, length_drop → bz, length_map → aQ, set_cons_zero → aD, map_append → bB, append_assoc → aO, append_nil → bm, takeWhile_cons → eV, mem_of_mem_take → bW, drop_left → fT, length_append → ao, mem_of_mem_drop → cL, length_cons → aG, isPrefixOf → cG, tail_cons → fI, suffix_refl → cO, suffix_cons → dM, all_eq_true → eZ, mem_map → fB, length_singleton → bY, take_succ_cons → bF, eq_nil_of_length_eq_zero → cu, mem_singleton → aL, length_nil → eY, take_of_length_le → aX
open Go.Proofs.Tryz renaming prog → ah, strings_HasPrefix → fO, underlying9 → ck, underlying216 → dW, strings_CutPrefix → fV, func68 → eT, ntmps68 → eQ, results68 → eC, strings_IndexByte → fW, func67 → eu, ntmps67 → ed, results45 → ee, underlying22 → cJ, results10 → eg
open Go.Instr renaming index → bR, slice → fN
open Go.Value renaming agg → fv, tuple → eU, slice → aZ, oneCell' → aY, ownBlock → bw
open Go renaming bodyPost_ret → aU, results → aV, maxLen → ff, grownCap → et, heap_alloc_new → aE, wpList_append_own_wide → dC
open Go.RowKit.Below renaming refl → aw
open Nat renaming le_refl → aj, not_lt_zero → fF, le_succ → dr, le_trans → aP, le_of_eq → dc, lt_of_lt_of_le → aJ
open Option renaming map_some → cm
open Option.some renaming injEq → bp, inj → an
open Prod.mk renaming injEq → bD
open Int renaming toNat_natCast → cP
open Bool renaming eq_iff_iff → bh, and_eq_false_iff → fA, false_eq_true → eX, and_eq_true → aH
open Go.Lib renaming trimPrefix → dg, hasPrefix → dy, indexByte → bE, index → bN, cell_of_heap → af, frozen_of_heap → aC
open Go.World renaming size_alloc → aB, setCell → cW, ownsRow_nil → bS, news_of_block → bf, size_setCell → bO
open Go.Exit renaming jump → eB, noGoto_ret → dU
set_option maxRecDepth 100000
set_option maxHeartbeats 6400000
def l7:List Bs:=[[58,61],[60,61],[62,61],[60,62],[42,42],[46,46],[40],[41],[91],[93],[44],[59],[58],[46],[43],[45],[42],[47],[61],[60],[62],[38]]
theorem xW(g l:Bs):g.isPrefixOf l=true↔g=l.take g.length:=by
 rw[List.isPrefixOf_iff_prefix,List.prefix_iff_eq_take]
theorem zO{n:Nat}(l:Bs):∀L:List Bs,(∀g∈L,g.length=n)->L.find? (fun g=>g.isPrefixOf l)=if l.take n∈L then some (l.take n)else none
 |[],_=>by simp
 |g::L,h=>by
  have hg:=h g aT;have ih:=zO l L fun x hx=>h x (aK _ hx)
  rw[List.find?_cons]
  by_cases e:g=l.take n
  ·have:g.isPrefixOf l=true:=(xW g l).2 (by rw[hg];exact e);rw[this];simp only[];rw[if_pos (by rw[<-e];exact aT),e]
  ·have:g.isPrefixOf l=false:=by
    cases hq:g.isPrefixOf l with
    |false=>rfl
    |true=>exact absurd ((xW g l).1 hq) (by rw[hg];exact e)
   rw[this];simp only[];rw[ih]
   by_cases hm:l.take n∈L
   ·rw[if_pos hm,if_pos (aK _ hm)]
   ·rw[if_neg hm,if_neg];intro hc
    rcases aI.1 hc with hc|hc
    ·exact e hc.symm
    ·exact hm hc
theorem Fk:l7=yf++yg.map (fun c=>[c]):=by decide
theorem J7(l:Bs):uy l=(l7.find? fun g=>g.isPrefixOf l).map fun g=>(gP g,l.drop g.length):=by
 rw[Fk,List.find?_append,zO (n:=2) l yf (by decide),zO (n:=1) l (yg.map fun c=>[c]) (by decide)];unfold uy
 by_cases h:l.take 2∈yf
 ·rw[if_pos h,if_pos h];have:(l.take 2).length=2:=(show ∀g∈yf,g.length=2 by decide) _ h;simp[this]
 ·rw[if_neg h,if_neg h]
  match l with
  |[]=>simp[yg]
  |c::r=>
   simp only[Option.none_or]
   by_cases hc:c∈yg
   ·rw[if_pos hc,if_pos (by simpa using hc)];simp
   ·rw[if_neg hc,if_neg (by simpa using hc)];rfl
theorem NO(k:Nat)(h:k<22):oC[k]? =some (.string ⟨(l7[k]'h).toArray⟩):=by
 have:∀k:Fin 22,oC[k.val]? =some (.string ⟨(l7[k.val]'k.isLt).toArray⟩):=by
  intro k;obtain⟨k,h⟩:=k;have:k=0\/k=1\/k=2\/k=3\/k=4\/k=5\/k=6\/k=7\/k=8\/k=9\/k=10\/k=11\/k=12\/k=13\/k=14\/k=15\/k=16\/k=17\/k=18\/k=19\/k=20\/k=21:=by omega
  rcases this with rfl|rfl|rfl|rfl|rfl|rfl|rfl|rfl|rfl|rfl|rfl|rfl|rfl|rfl|rfl|rfl|rfl|rfl|rfl|rfl|rfl|rfl <;> rfl
 exact this ⟨k,h⟩
theorem NP:(ah.info? 195).map (·.size)=some 22:=by kernel_rfl
theorem QB:(ah.info? 195).map (·.size)=some oC.length:=NP
theorem NQ(l:Bs)(w:World)(hg:kZ w):Calls ah 128 #[.string ⟨l.toArray⟩] w fun e w'=>(∃v,e=.returned v/\vW (uy l) l.length v)/\Below w.heap.size w w':=by
 have ht:∀o,TabAt (w.alloc o) 7 oC:=hg.sign.alloc (by have:=hg.lt;omega);have ix:qes (∀(k:Nat)(h:k<22) W,(bR 195 (.agg oC.toArray) (.int .i64 (k:Int))).run ah W=.ok (.string ⟨(l7[k]'h).toArray⟩) W):=fun k h W=>yw Tryz.underlying195 (fun _=>Tryz.isAgg9 _) (fun _=>Tryz.sizeOf9 _) _ k h _ (by rw[List.getElem?_toArray];exact NO k h) W
 have hp:=fun(p:Bs) W=>fO ⟨l.toArray⟩ ⟨p.toArray⟩ W
 have E:=qet (J7 l);obtain⟨T,hT⟩:∃T,fv oC.toArray=T:=⟨_,rfl⟩
 rw[hT]at ix;clear hg;go_enter Tryz.func128,Tryz.ntmps128;go_wp2_with((with_reducible refine oD (ty:=195) ?_);go_must (refine mP (b:=7) (t:=oC) (T:=T) rfl (ht _) hT Tryz.underlying195 rfl QB ?_));clear ht hT
 go_loop [8] (fun i=>∃k:Nat,k<=22/\i=.int .i64 (k:Int)/\(l7.drop k).find? (fun g=>g.isPrefixOf l)=l7.find? fun g=>g.isPrefixOf l) (fun i=>22-(intOf i).toNat)
 case atStart=>exact⟨0,by omega,rfl,rfl⟩
 case round=>
  obtain⟨k,hk,rfl,hf⟩:=hrel
  by_cases hlt:k<22
  ·have x0:=ix.o k hlt;have i1:(k:Int)<22:=by omega
   have h1:=hp (l7[k]'hlt);rw[eW (show k<l7.length from hlt),List.find?_cons]at hf;have hlen:=list_size (l7[k]'hlt);have h1':∀W,Calls ah 121 #[.string ⟨l.toArray⟩,.string ⟨(l7[k]'hlt).toArray⟩] W fun e w'=>e=.returned (.bool ((l7[k]'hlt).isPrefixOf l))/\w'=W:=h1
   clear h1 ix hp;generalize(l7[k]'hlt)=g at *;have hfe:=hf;clear hf;obtain⟨u,HU⟩:∃u:ByteArray,qes ((⟨g.toArray⟩:ByteArray)=u):=⟨_,rfl⟩
   rw[HU.o]at x0 hlen h1';replace hlen:=qet hlen
   cases hq:g.isPrefixOf l with
   |true=>
    rw[hq]at h1' hfe;replace hfe:=qet hfe
    have HS:qes ((u.size:Int)=((l.length-(l.drop g.length).length:Nat):Int)):=by
     show _=_;have h2:=(xW g l).1 hq;have h3:=congrArg fp h2;rw[bU]at h3;rw[hlen.o,bz];omega
    clear hq;go_wp2_with fail;refine(h1' _).mono ?_;rintro e w1 ⟨rfl,rfl⟩;go_wp2;refine aU (v:=.tuple #[vV (gP g) 0,.int .i64 (u.size:Int),.bool true]) ?_ rfl ⟨⟨_,rfl,?_⟩,?_⟩
    ·simp[aV,Tryz.results128,go_sem,vV,gP,HU.o]
    ·rw[E.o,<-hfe.o];show _=_;rw[HS.o]
    ·exact(aw _ _).alloc (aj _) _
   |false=>
    rw[hq]at h1' hfe;replace hfe:=qet hfe;clear hq;go_wp2_with fail;refine(h1' _).mono ?_;rintro e w1 ⟨rfl,hw1⟩;subst hw1;go_wp2
    go_round
    case rel=>exact⟨k+1,by omega,by go_num,hfe.o⟩
    case measure=>simp only[intOf];omega
  ·obtain rfl:k=22:=by omega
   have HN:=qet (show uy l=none by
    rw[E.o,<-hf];rfl)
   clear hf;go_wp2;refine aU (v:=.tuple #[vV ⟨0,[],0,0⟩ 0,.int .i64 0,.bool false]) ?_ rfl ⟨⟨_,rfl,?_⟩,?_⟩
   ·simp[aV,Tryz.results128,go_sem,vV]
   ·rw[HN.o];exact⟨_,_,rfl⟩
   ·exact(aw _ _).alloc (aj _) _
def pE(b:UInt8):Value:=.int .u8 (b.toNat:Int)
theorem J8(g j:Nat):(⟨g,0,none⟩:Addr).add j=⟨g,j,none⟩:=by unfold Addr.add;split <;> simp_all
theorem info_parts{t:TypeId}{z:Value}{a b:Nat}(h:(ah.info? t).map (fun i=>(i.zero,i.size,i.bytes))=some (some z,a,b)):∃i,ah.info? t=some i/\i.zero=some z/\i.size=a/\i.bytes=b:=by
 cases hi:ah.info? t with
 |none=>rw[hi]at h;cases h
 |some i=>
  rw[hi]at h;simp only[cm,bp,bD]at h;exact⟨i,rfl,h.1,h.2.1,h.2.2⟩
theorem wH(w:World)(g i:Nat)(cs:Array Value)(t:TypeId)(fz:Nat×Nat)(v:Value)(hg:w.heap[g]? =some (.cells cs t fz)):
  (w.setCell ⟨g,i,none⟩ v).heap[g]? =some (.cells (cs.setIfInBounds i v) t fz):=by
 rw[setCell_eq_setRow w g i cs t fz v hg];exact setRow_heap w g cs _ t _ hg
def sR(w:World)(base:Nat)(v:Value)(n:Nat)(xs:List Value):Prop:=
 xs.length=n/\∃g cap cur fz,v=.slice (some ⟨g,0,none⟩) n cap/\base<=g/\w.heap[g]? =some (.cells cur 5 fz)/\(fz.2=0\/cur.size<=fz.1)/\n<=cap/\cap<=ff/\cur.size=cap/\cur.toList.take n=xs
variable {xs:List Value}{n:Nat}{base:Nat}{g:Nat}{cap:Nat}{w:World}
theorem sR.cell(h:sR w base (.slice (some ⟨g,0,none⟩) n cap) n xs)(j:Nat)(hj:j<n):w.cell? ⟨g,j,none⟩=xs[j]? :=by
 obtain⟨_,g',cap',cur,fz,hv,hb,hg,_,hn,_,_,ht⟩:=h;injection hv with h1 h2 h3
 injection h1 with h1
 injection h1 with h1
 subst h1;rw[cell_of_row _ _ _ _ _ _ hg,<-ht,List.getElem?_take_of_lt hj];simp
theorem xD{j:Nat}{cur:Array Value}{t:TypeId}{fz:Nat×Nat}(hg:w.heap[g]? =some (.cells cur t fz))(hf:fz.2=0\/cur.size<=fz.1)(hj:j<cur.size):w.frozen? ⟨g,j,none⟩=false:=by
 unfold World.frozen?;simp only[hg]
 rcases hf with h|h <;> simp <;> omega
theorem sR.setCell(h:sR w base (.slice (some ⟨g,0,none⟩) n cap) n xs)(j:Nat)(v:Value):sR (w.setCell ⟨g,j,none⟩ v) base (.slice (some ⟨g,0,none⟩) n cap) n (xs.set j v):=by
 obtain⟨hxl,g',cap',cur,fz,hv,hb,hg,hf,hn,hm,hs,ht⟩:=h;injection hv with h1 h2 h3
 injection h1 with h1
 injection h1 with h1
 subst h1 h3;refine⟨by rw[List.length_set];exact hxl,g,cap,_,fz,rfl,hb,wH w g j cur 5 fz v hg,?_,hn,hm,by rw[Array.size_setIfInBounds];exact hs,?_⟩
 ·rw[Array.size_setIfInBounds];exact hf
 ·rw[Array.toList_setIfInBounds,<-ht,List.take_set]
theorem sR.free(h:sR w base (.slice (some ⟨g,0,none⟩) n cap) n xs)(j:Nat)(hj:j<n):w.frozen? ⟨g,j,none⟩=false:=by
 obtain⟨hxl,g',cap',cur,fz,hv,hb,hg,hf,hn,hm,hs,ht⟩:=h;injection hv with h1 h2 h3
 injection h1 with h1
 injection h1 with h1
 subst h1 h3;exact xD hg hf (by omega)
theorem NR(w:World)(s:ByteArray)(hn:s.size<=140737488355000):∃cap W1,(convert 9 216 (.string s)).run ah w=.ok (.slice (some ⟨w.heap.size,0,none⟩) s.size cap) W1/\
  sR W1 w.heap.size (.slice (some ⟨w.heap.size,0,none⟩) s.size cap) s.size (s.data.toList.map pE)/\Below w.heap.size w W1:=by
 have h:=run_bytes_of_string (P:=ah) w 9 216 5 s ck dW Tryz.underlying5;have hge:=grownCap_ge w s.size 0 5;have hcm:=grownCap_le_maxLen w s.size 0 5 (by unfold ff;omega)
 have hsz:(bytesRow s (et w s.size 0 5)).size=et w s.size 0 5:=by
  unfold bytesRow;simp only[Array.size_append,Array.size_map,Array.size_replicate];show s.size+(et w s.size 0 5-s.size)=_;omega
 refine⟨_,_,h,⟨by rw[aQ,Array.length_toList];rfl,w.heap.size,_,_,_,rfl,aj _,aE w.drew _,.inr (aj _),hge,hcm,hsz,?_⟩,((aw _ _).drew).alloc (aj _) _⟩;unfold bytesRow;rw[Array.toList_append,List.take_left' (by simp)];simp[pE]
theorem QC(c:UInt8):((Ag c).toNat:Int)=if(97:Int)<=(c.toNat:Int)/\(c.toNat:Int)<=122 then(c.toNat:Int)-97+65 else(c.toNat:Int):=
 KQ (P:=fun c=>((Ag c).toNat:Int)=if(97:Int)<=(c.toNat:Int)/\(c.toNat:Int)<=122 then(c.toNat:Int)-97+65 else(c.toNat:Int)) (by decide+kernel) c
theorem Ur(l:Bs)(k:Nat)(h:k<l.length):((rZ (l.take k)++l.drop k).map pE).set k (pE (Ag l[k]))=(rZ (l.take (k+1))++l.drop (k+1)).map pE:=by
 rw[<-List.map_set]
 congr 1
 have hk:(rZ (l.take k)).length=k:=by rw[oO,bU];omega
 rw[List.set_append_right _ _ (by omega),hk,Nat.sub_self,drop_at h,aD,<-List.take_append_getElem h];unfold rZ;rw[bB,aO];rfl
theorem QD(l:Bs)(k:Nat)(h:k<l.length)(hc:Ag l[k]=l[k]):(rZ (l.take k)++l.drop k).map pE=(rZ (l.take (k+1))++l.drop (k+1)).map pE:=by
 congr 1
 rw[drop_at h,<-List.take_append_getElem h];unfold rZ;rw[bB,aO];show _=_++(Ag l[k]::_);rw[hc];rfl
theorem Us(l:Bs)(k:Nat)(h:k<l.length):((rZ (l.take k)++l.drop k).map pE)[k]? =some (pE l[k]):=by
 have hk:(rZ (l.take k)).length=k:=by rw[oO,bU];omega
 rw[List.getElem?_map,List.getElem?_append_right (by omega),hk,Nat.sub_self,drop_at h];rfl
theorem Bw(l:Bs)(hl:l.length<=140737488355000)(w:World):Calls ah 162 #[.string ⟨l.toArray⟩] w fun e w'=>e=.returned (.string ⟨(rZ l).toArray⟩)/\Below w.heap.size w w':=by
 obtain⟨cap,W1,hcv,hown,hbel⟩:=NR w ⟨l.toArray⟩ (by rw[list_size];exact hl);rw[list_size]at hcv hown;have hown:qes (sR W1 w.heap.size (.slice (some ⟨w.heap.size,0,none⟩) l.length cap) l.length (l.map pE)):=hown;have hbel:=qet hbel
 have hback:qes (∀W2,sR W2 w.heap.size (.slice (some ⟨w.heap.size,0,none⟩) l.length cap) l.length ((rZ l).map pE)->(convert 216 9 (.slice (some ⟨w.heap.size,0,none⟩) l.length cap)).run ah W2=.ok (.string ⟨(rZ l).toArray⟩) W2):=fun W2 ho=>by
  have h:=run_convert_bytes_back (P:=ah) W2 216 9 5 ⟨w.heap.size,0,none⟩ cap (rZ l) dW Tryz.underlying5 ck (fun j hj=>by
   rw[oO]at hj
   rw[J8,ho.cell j hj,List.getElem?_map,List.getElem?_eq_getElem (by rw[oO];exact hj)];rfl)
  rw[oO]at h;exact h
 have hnl:(l.length:Int)<=140737488355000:=by omega
 clear hl;obtain⟨B,hB⟩:∃B,qes (B=w.heap.size):=⟨_,rfl⟩
 go_enter Tryz.func162,Tryz.ntmps162;go_wp2_with fail
 go_loopw [10] (fun i wr=>∃k:Nat,k<=l.length/\i=.int .i64 (k:Int)/\qes (sR wr w.heap.size (.slice (some ⟨w.heap.size,0,none⟩) l.length cap) l.length ((rZ (l.take k)++l.drop k).map pE)/\Below w.heap.size w wr)) (fun i _=>l.length-(intOf i).toNat)
 case atStart=>exact⟨0,by omega,rfl,hown.o,hbel.o⟩
 case round=>
  obtain⟨k,hk,rfl,ho⟩:=hrel
  by_cases hlt:k<l.length
  ·have i1:(k:Int)<(l.length:Int):=by omega
   have i0:(0:Int)<=(k:Int):=by omega
   have g0:=(ho.o.1.cell k hlt).trans (Us l k hlt);have f0:=ho.o.1.free k hlt;have E:=qet (QC l[k]);have hx:=Hp l[k];have hx0:(0:Int)<=(l[k].toNat:Int):=by omega
   unfold pE at g0
   by_cases hc:(97:Int)<=(l[k].toNat:Int)/\(l[k].toNat:Int)<=122
   ·have e:=qet E.o;rw[if_pos hc]at e;have HS:=qet (Ur l k hlt);unfold pE at HS;rw[e.o]at HS;obtain⟨c1,c2⟩:=hc;generalize(l[k].toNat:Int)=x at *;clear E hcv hback hown hbel;go_wp2
    go_roundw
    case rel=>
     refine⟨k+1,by omega,by go_num,?_⟩;have hs:=ho.o.1.setCell k (.int .u8 (x-97+65));have h2:=HS.o;unfold pE at hs;rw[h2]at hs;exact⟨hs,ho.o.2.setCell (aj _) _⟩
    case measure=>simp only[intOf];omega
   ·have hu:Ag l[k]=l[k]:=by
     have e:=E.o;rw[if_neg hc]at e;exact AP.2 e
    have HS:=qet (QD l k hlt hu);clear E hu;generalize(l[k].toNat:Int)=x at *;clear hcv hback hown hbel
    by_cases h97:97<=x
    ·have h122:¬x<=122:=fun h=>hc ⟨h97,h⟩
     clear hc;go_wp2
     go_roundw
     case rel=>exact⟨k+1,by omega,by go_num,HS.o ▸ ho.o⟩
     case measure=>simp only[intOf];omega
    ·clear hc;go_wp2
     go_roundw
     case rel=>exact⟨k+1,by omega,by go_num,HS.o ▸ ho.o⟩
     case measure=>simp only[intOf];omega
  ·obtain rfl:k=l.length:=by omega
   have i1:¬ (l.length:Int)<(l.length:Int):=by omega
   have ho':=ho.o.1;rw[List.take_length,List.drop_length,bm]at ho';have hb:=hback.o wr ho';clear ho' hback hcv hown hbel;go_wp2;go_ret;exact⟨rfl,ho.o.2⟩
theorem Fl(s:ByteArray)(n:Nat)(h:n<=s.size)(W:World):(fN 9 (.string s) none (some (.int .i64 (n:Int))) none).run ah W=.ok (.string ⟨(s.data.toList.take n).toArray⟩) W:=by
 rw[run_slice_string_to_if _ _ _ _ _ ck,if_pos ⟨by omega,by omega⟩,cP,xF _ _ (DB s 0 n)];rfl

variable {k:Nat}{l:Bs}
theorem Ka(h:k<l.length)(hw:isWord l[k]=true):(jv (l.drop k)).length=(jv (l.drop (k+1))).length+1:=by
 rw[drop_at h];show((l[k]::l.drop (k+1)).takeWhile isWord).length=_;rw[eV,if_pos hw];rfl
theorem Bz(h:¬∃hk:k<l.length,isWord (l[k]'hk)=true):(jv (l.drop k)).length=0:=by
 by_cases hk:k<l.length
 ·rw[drop_at hk];show((l[k]::l.drop (k+1)).takeWhile isWord).length=_;rw[eV,if_neg (fun e=>h ⟨hk,e⟩)];rfl
 ·rw[List.drop_eq_nil_of_le (by omega)];rfl
theorem zP(l:Bs)(hl:l.length<=140737488355000)(w:World):Calls ah 161 #[.string ⟨l.toArray⟩] w fun e w'=>e=.returned (.int .i64 ((jv l).length:Int))/\w'=w:=by
 have hsz:=qet (list_size l);have hidx:qes (∀k (h:k<l.length) W,(bR 9 (.string ⟨l.toArray⟩) (.int .i64 (k:Int))).run ah W=.ok (.int .u8 (l[k].toNat:Int)) W):=fun k h W=>re ⟨l.toArray⟩ k l[k] (List.getElem?_eq_getElem h) W
 have hd:=fun(c:UInt8) W=>nK c W
 have he:=fun(c:UInt8) W=>uF c W
 generalize(⟨l.toArray⟩:ByteArray)=s at *;have HL:=qet hl;clear hl;go_enter Tryz.func161,Tryz.ntmps161;go_wp2_with fail
 go_loop [3] (fun i=>∃k:Nat,k<=l.length/\i=.int .i64 (k:Int)/\qes ((jv l).length=k+(jv (l.drop k)).length)) (fun i=>l.length-(intOf i).toNat)
 case atStart=>exact⟨0,by omega,rfl,by show _=_;simp⟩
 case round=>
  obtain⟨k,hk,rfl,hh⟩:=hrel
  by_cases hlt:k<l.length
  ·have i1:(k:Int)<(s.size:Int):=by have:=hsz.o;omega
   have j1:(k:Int)<=140737488355000:=by have:=HL.o;omega
   have x0:=hidx.o k hlt;have c0:=hd l[k];have c1:=he l[k];have hw:isWord l[k]=(isLet l[k]||iY l[k]):=rfl;have hs:=qet (fun h=>Ka (l:=l) (k:=k) hlt h);have ht:=qet (fun h:¬isWord l[k]=true=>Bz (l:=l) (k:=k) (fun⟨_,e⟩=>h e));generalize(l[k].toNat:Int)=x at *;generalize isWord l[k]=b at *;generalize isLet l[k]=b1 at *;generalize iY l[k]=b2 at *
   cases b1 with
   |true=>
    have hb:b=true:=by rw[hw];rfl
    clear hw c0;go_wp2_with fail;refine(c1 _).mono ?_;rintro e w1 ⟨rfl,rfl⟩;go_wp2
    go_round
    case rel=>exact⟨k+1,by omega,by go_num,by show _=_;have:=hs.o hb;have:=hh.o;omega⟩
    case measure=>simp only[intOf];omega
   |false=>
    cases b2 with
    |true=>
     have hb:b=true:=by rw[hw];rfl
     clear hw;go_wp2_with fail;refine(c1 _).mono ?_;rintro e w1 ⟨rfl,rfl⟩;go_wp2_with fail;refine(c0 _).mono ?_;rintro e w1 ⟨rfl,rfl⟩;go_wp2
     go_round
     case rel=>exact⟨k+1,by omega,by go_num,by show _=_;have:=hs.o hb;have:=hh.o;omega⟩
     case measure=>simp only[intOf];omega
    |false=>
     have hb:¬b=true:=by rw[hw];decide
     clear hw;go_wp2_with fail;refine(c1 _).mono ?_;rintro e w1 ⟨rfl,rfl⟩;go_wp2_with fail;refine(c0 _).mono ?_;rintro e w1 ⟨rfl,rfl⟩;go_wp2;go_ret;exact⟨qZ (by have:=ht.o hb;have:=hh.o;omega),rfl⟩
  ·have i1:¬ (k:Int)<(s.size:Int):=by have:=hsz.o;omega
   have ht:=Bz (l:=l) (k:=k) (fun⟨h,_⟩=>hlt h);have HT:=qet ht;clear ht;go_wp2;go_ret;exact⟨qZ (by have:=HT.o;have:=hh.o;omega),rfl⟩



def baseNames:List Bs:=[[50,35],[56,35],[49,54,35]]
def rL:List Nat:=[2,8,16]
theorem NU(k:Nat)(h:k<3):rf.toArray.extract (k*2) (k*2+2)=#[.string ⟨(baseNames[k]'h).toArray⟩,.int .i64 ((rL[k]'h:Nat):Int)]:=by
 have:k=0\/k=1\/k=2:=by omega
 rcases this with rfl|rfl|rfl <;> rfl
theorem QG(k:Nat)(h:k<3):2<=rL[k]'h/\rL[k]'h<=16:=by
 have:k=0\/k=1\/k=2:=by omega
 rcases this with rfl|rfl|rfl <;> simp[rL]
theorem NV(k:Nat)(h:k<3):2<=(baseNames[k]'h).length/\(baseNames[k]'h).length<=3:=by
 have:k=0\/k=1\/k=2:=by omega
 rcases this with rfl|rfl|rfl <;> simp[baseNames]
def GQ(base:Nat)(l:Bs):Option (Int×Bs):=if FR base l=true/\(pd base false 0 l).1<=4294967295 then some (sm (pd base false 0 l).1,(pd base false 0 l).2)else none
theorem qP(g l:Bs):g.isPrefixOf l=decide (l.take g.length=g):=by
 rw[bh,List.isPrefixOf_iff_prefix,List.prefix_iff_eq_take,decide_eq_true_eq];exact eq_comm
theorem um(h2:2<=base)(h16:base<=16)(l:Bs):((oT base 4294967295 false 0 l).map fun x=>(sm x.1,x.2))=GQ base l:=by
 rw[uD (by omega) (by omega) (by omega) (by omega)];unfold GQ
 split <;> rfl
theorem NW(k:Nat)(h:k<3)(l:Bs)(hp:(baseNames[k]'h).isPrefixOf l=true):based l=GQ (rL[k]'h) (l.drop (baseNames[k]'h).length):=by
 have:k=0\/k=1\/k=2:=by omega
 rcases this with rfl|rfl|rfl
 ·rw[qP]at hp;have hp:l.take 2=[50,35]:=of_decide_eq_true hp;unfold based;rw[if_pos hp,um (by omega) (by omega)];rfl
 ·rw[qP]at hp;have hp:l.take 2=[56,35]:=of_decide_eq_true hp;unfold based;rw[if_neg (by rw[hp];decide),if_pos hp,um (by omega) (by omega)];rfl
 ·rw[qP]at hp;have hp:l.take 3=[49,54,35]:=of_decide_eq_true hp
  have h2:l.take 2=[49,54]:=by
   have:=congrArg (List.take 2) hp
   rwa [List.take_take]at this
  unfold based;rw[if_neg (by rw[h2];decide),if_neg (by rw[h2];decide),if_pos hp,um (by omega) (by omega)];rfl
theorem GR(l:Bs)(h:∀k (hk:k<3),(baseNames[k]'hk).isPrefixOf l=false):based l=if FR 10 l=true/\(pd 10 false 0 l).1<=2147483648 then some (((pd 10 false 0 l).1:Int),(pd 10 false 0 l).2)else none:=by
 have h0:¬l.take 2=[50,35]:=fun e=>by have:=h 0 (by omega);rw[qP]at this;exact absurd e (of_decide_eq_false this)
 have h1:¬l.take 2=[56,35]:=fun e=>by have:=h 1 (by omega);rw[qP]at this;exact absurd e (of_decide_eq_false this)
 have h2:¬l.take 3=[49,54,35]:=fun e=>by have:=h 2 (by omega);rw[qP]at this;exact absurd e (of_decide_eq_false this)
 unfold based;rw[if_neg h0,if_neg h1,if_neg h2,uD (by omega) (by omega) (by omega) (by omega)]
 split <;> rfl
abbrev Y5:Obj:=.cells #[.int .i64 0,.string ⟨#[]⟩,.int .i64 0,.int .i64 0,.int .i64 0] 54
variable {W:World}
theorem NX(h:Below (w.heap.size+1) (w.alloc Y5) W):
  (W.cell? ⟨w.heap.size,0,none⟩=some (.int .i64 0)/\W.cell? ⟨w.heap.size,1,none⟩=some (.string ⟨#[]⟩)/\W.cell? ⟨w.heap.size,2,none⟩=some (.int .i64 0)/\W.cell? ⟨w.heap.size,3,none⟩=some (.int .i64 0)/\W.cell? ⟨w.heap.size,4,none⟩=some (.int .i64 0))/\
  (W.frozen? ⟨w.heap.size,0,none⟩=false/\W.frozen? ⟨w.heap.size,1,none⟩=false/\W.frozen? ⟨w.heap.size,2,none⟩=false/\W.frozen? ⟨w.heap.size,3,none⟩=false/\W.frozen? ⟨w.heap.size,4,none⟩=false):=by
 refine⟨⟨?_,?_,?_,?_,?_⟩,?_,?_,?_,?_,?_⟩
 ·exact(h.cell (p:=⟨w.heap.size,0,none⟩) (by simp)).trans (by simp)
 ·exact(h.cell (p:=⟨w.heap.size,1,none⟩) (by simp)).trans (by simp)
 ·exact(h.cell (p:=⟨w.heap.size,2,none⟩) (by simp)).trans (by simp)
 ·exact(h.cell (p:=⟨w.heap.size,3,none⟩) (by simp)).trans (by simp)
 ·exact(h.cell (p:=⟨w.heap.size,4,none⟩) (by simp)).trans (by simp)
 ·exact(h.frozen (p:=⟨w.heap.size,0,none⟩) (by simp)).trans (by simp)
 ·exact(h.frozen (p:=⟨w.heap.size,1,none⟩) (by simp)).trans (by simp)
 ·exact(h.frozen (p:=⟨w.heap.size,2,none⟩) (by simp)).trans (by simp)
 ·exact(h.frozen (p:=⟨w.heap.size,3,none⟩) (by simp)).trans (by simp)
 ·exact(h.frozen (p:=⟨w.heap.size,4,none⟩) (by simp)).trans (by simp)
variable {B:Nat}
theorem Kb(h:Below B w W)(hg:B<=g)(a b c d e:Value):Below B w (((((W.setCell ⟨g,0,none⟩ a).setCell ⟨g,1,none⟩ b).setCell ⟨g,2,none⟩ c).setCell ⟨g,3,none⟩ d).setCell ⟨g,4,none⟩ e):=
 ((((h.setCell hg a).setCell hg b).setCell hg c).setCell hg d).setCell hg e
theorem QH:(ah.info? 191).map (·.size)=some 6:=by kernel_rfl
theorem Vf(k:Nat)(h:k<3)(l:Bs)(h35:∀c∈l,c≠35)(hp:(baseNames[k]'h).isPrefixOf l=true):False:=by
 rw[qP]at hp
 have h1:(35:UInt8)∈baseNames[k]'h:=by
  match k,h with
  |0,_=>show(35:UInt8)∈[50,35];decide
  |1,_=>show(35:UInt8)∈[56,35];decide
  |2,_=>show(35:UInt8)∈[49,54,35];decide
 rw[<-of_decide_eq_true hp]at h1;exact h35 35 (bW h1) rfl
theorem Fo(l:Bs)(hl:l.length<=140737488355000)(h35:∀c∈l,c≠35)(w:World)(hg:kZ w):Calls ah 127 #[.string ⟨l.toArray⟩] w fun e w'=>(∃v,e=.returned v/\vW ((based l).map fun x=>(mY x.1 0,x.2)) l.length v)/\Below w.heap.size w w':=by
 have ht:∀o,TabAt (w.alloc o) 6 rf:=hg.base.alloc (by have:=hg.lt;omega);have ix:qes (∀(k:Nat)(h:k<3) W,(bR 191 (.agg rf.toArray) (.int .i64 (k:Int))).run ah W=.ok (.agg #[.string ⟨(baseNames[k]'h).toArray⟩,.int .i64 ((rL[k]'h:Nat):Int)]) W):=fun k h W=>qG Tryz.underlying191 (fun _=>Tryz.isAgg190 _) (fun _=>Tryz.sizeOf190 _) _ k h _ (NU k h) W
 obtain⟨T,hT⟩:∃T,fv rf.toArray=T:=⟨_,rfl⟩
 rw[hT]at ix;have HL:=qet hl;have CC:qes (∀(p:Bs) W,Calls ah 163 #[.string ⟨l.toArray⟩,.string ⟨p.toArray⟩] W fun e w'=>e=.returned (.tuple #[.string ⟨(dg l p).toArray⟩,.bool (p.isPrefixOf l)])/\w'=W):=fun p W=>fV ⟨l.toArray⟩ ⟨p.toArray⟩ W
 have CN:=qet fun(b:Bs)(hb:b.length<=140737488355000)(base:Nat)(h2:2<=base/\base<=16) W=>uk b (by omega) base h2.1 h2.2 W
 generalize hs:(⟨l.toArray⟩:ByteArray)=s at *;replace hs:=qet hs;clear hg hl;go_enter Tryz.func127,Tryz.ntmps127;go_wp2_with((with_reducible refine oD (ty:=191) ?_);go_must (refine mP (b:=6) (t:=rf) (T:=T) rfl (ht _) hT Tryz.underlying191 rfl QH ?_));clear ht hT
 go_loopw [16] (fun i wr=>∃k:Nat,k<=3/\i=.int .i64 (k:Int)/\qes ((∀j (hj:j<3),j<k->(baseNames[j]'hj).isPrefixOf l=false)/\Below (w.heap.size+1) (w.alloc Y5) wr)) (fun i _=>3-(intOf i).toNat)
 case atStart=>exact⟨0,by omega,rfl,fun j _ h=>absurd h (fF _),aw _ _⟩
 case round=>
  obtain⟨k,hk,rfl,hh⟩:=hrel
  by_cases hlt:k<3
  ·have x0:=ix.o k hlt;have i1:(k:Int)<3:=by omega
   have HT:=qet fun h=>NW k hlt l h
   have HNo:=qet (QG k hlt);have HLn:=qet (NV k hlt)
   have Si:=qet (fun(h:(baseNames[k]'hlt).isPrefixOf l=false) j (hj:j<3)(hjk:j<k+1)=>show(baseNames[j]'hj).isPrefixOf l=false by
    by_cases e:j=k
    ·subst e;exact h
    ·exact hh.o.1 j hj (by omega))
   have HNP:=qet (Vf k hlt l h35);have cc:=CC.o (baseNames[k]'hlt);generalize(baseNames[k]'hlt)=U at *;generalize(rL[k]'hlt)=ty at *;have hlen:=qet (list_size U);obtain⟨u,HU⟩:∃u:ByteArray,qes ((⟨U.toArray⟩:ByteArray)=u):=⟨_,rfl⟩
   rw[HU.o]at x0 cc hlen;have zr:=hh.o.2.size;rw[aB]at zr;have B1:=hh.o.2.alloc (by omega) (.cells #[.string u,.int .i64 (ty:Int)] 190)
   cases hp:U.isPrefixOf l with
   |false=>
    rw[hp]at cc;have HP:=qet (Si.o hp);have B1':=qet B1;clear B1 Si HT ix CC CN hp HU;generalize(⟨(dg l U).toArray⟩:ByteArray)=q at *;go_wp2_with fail;refine(cc _).mono ?_;rintro e w1 ⟨rfl,hw1⟩;subst hw1;go_wp2
    go_roundw
    case rel=>exact⟨k+1,by omega,by go_num,HP.o,B1'.o⟩
    case measure=>simp only[intOf];omega
   |true=>exact(HNP.o hp).elim
  ·obtain rfl:k=3:=by omega
   have HN:=qet (GR l (fun j hj=>hh.o.1 j hj (by omega)));have cn:=CN.o l HL.o 10 (by omega);unfold qz at cn;obtain⟨m,HM⟩:∃m,qes ((pd 10 false 0 l).1=m):=⟨_,rfl⟩
   obtain⟨b,ZJ⟩:∃b,qes (FR 10 l=b):=⟨_,rfl⟩
   rw[HM.o,ZJ.o,hs.o]at cn;rw[ZJ.o,HM.o]at HN;obtain⟨⟨k0,k1,k2,k3,k4⟩,f0,f1,f2,f3,f4⟩:=NX hh.o.2;have HB2:=qet (((aw w.heap.size w).alloc (aj _) Y5).trans (hh.o.2.mono (dr _)));clear ix CC CN HM ZJ;generalize hzz:((l.length-(pd 10 false 0 l).2.length:Nat):Int)=z at *;have HZ:=qet hzz;clear hzz
   cases b with
   |false=>
    go_wp2_with fail;refine(cn _).mono ?_;rintro e w1 ⟨rfl,hw1⟩;subst hw1;go_wp2;refine aU (v:=.tuple #[vV (mY (m:Int) 0) 0,.int .i64 z,.bool false]) ?_ rfl ⟨⟨_,rfl,?_⟩,?_⟩
    ·simp[aV,Tryz.results127,go_sem,vV,mY,k0,k1,k2,k3,k4]
    ·rw[HN.o,if_neg (by rintro⟨h,_⟩;cases h)];exact⟨_,_,rfl⟩
    ·exact Kb HB2.o (aj _) _ _ _ _ _
   |true=>
    go_wp2_with fail;refine(cn _).mono ?_;rintro e w1 ⟨rfl,hw1⟩;subst hw1;go_wp2;refine aU (v:=.tuple #[vV (mY (m:Int) 0) 0,.int .i64 z,.bool (decide ((m:Int)<=2147483648))]) ?_ rfl ⟨⟨_,rfl,?_⟩,?_⟩
    ·simp[aV,Tryz.results127,go_sem,vV,mY,k0,k1,k2,k3,k4]
    ·rw[HN.o]
     by_cases hm:m<=2147483648
     ·rw[if_pos ⟨trivial,hm⟩,decide_eq_true (by omega)];show _=_;rw[HZ.o]
     ·rw[if_neg (fun h=>hm h.2),decide_eq_false (by omega)];exact⟨_,_,rfl⟩
    ·exact Kb HB2.o (aj _) _ _ _ _ _
theorem Kc(l:Bs):l.take (jv l).length=jv l:=by
 unfold jv;exact(List.prefix_iff_eq_take.1 (List.takeWhile_prefix isWord)).symm
theorem BA(l:Bs):l.drop (jv l).length=lG l:=by
 have h:jv l++lG l=l:=List.takeWhile_append_dropWhile;have:=congrArg (List.drop (jv l).length) h;rw[fT]at this;exact this.symm
theorem QI(l:Bs):(jv l).length<=l.length:=by
 have h:jv l++lG l=l:=List.takeWhile_append_dropWhile;have:=congrArg fp h;rw[ao]at this;omega
def BC(l:Bs):Option (Tk×Bs):=if(lG l).head?=some 35 then qj (rZ (jv l)) (lG l).tail else if(jv l).length<=24 then some (gO (rZ (jv l)),lG l)else none
theorem Ke(h35:∀c∈l,c≠35):(lG l).head?≠some 35:=fun hm=>by
 match hr:lG l,hm with
 |c::q,hm=>
  injection hm with hm
  exact h35 c (cL (by rw[BA,hr];exact aT)) hm
theorem Kd(h35:∀c∈l,c≠35)(h:24<(jv l).length):BC l=none:=by
 unfold BC;rw[if_neg (Ke h35),if_neg (by omega)]
variable {v:Value}
theorem vW.form{o:Option (Tk×Bs)}{L:Nat}(h:vW o L v):∃t k b,v=.tuple #[vV t 0,.int .i64 k,.bool b]:=by
 match o,h with
 |some (t,r),h=>exact⟨_,_,_,h⟩
 |none,⟨t,n,h⟩=>exact⟨_,_,_,h⟩
theorem Kf(l:Bs)(hl:l.length<=140737488355000)(h35:∀c∈l,c≠35)(w:World)(hg:kZ w):Calls ah 125 #[.string ⟨l.toArray⟩] w fun e w'=>(∃v,e=.returned v/\vW (BC l) l.length v)/\Below w.heap.size w w':=by
 have c0:=fun W=>zP l hl W
 have hle:=QI l;have hsz:=list_size l
 by_cases hlong:24<(jv l).length
 ·have HN:=qet (Kd h35 hlong);have i1:(24:Int)<((jv l).length:Int):=by omega
  generalize((jv l).length:Int)=n at *;generalize(⟨l.toArray⟩:ByteArray)=s at *;clear hlong hle hl hsz hg h35;go_enter Tryz.func125,Tryz.ntmps125;go_wp2_with fail;refine(c0 _).mono ?_;rintro e w1 ⟨rfl,hw1⟩;subst hw1;go_wp2;refine aU (v:=.tuple #[vV ⟨0,[],0,0⟩ 0,.int .i64 0,.bool false]) ?_ rfl ⟨⟨_,rfl,?_⟩,?_⟩
  ·simp[aV,Tryz.results125,go_sem,vV]
  ·rw[HN.o];exact⟨_,_,rfl⟩
  ·exact(aw _ _).alloc (aj _) _
 ·have x1:∀W,(fN 9 (.string ⟨l.toArray⟩) none (some (.int .i64 ((jv l).length:Int))) none).run ah W=.ok (.string ⟨(jv l).toArray⟩) W:=fun W=>by
   have:=Fl ⟨l.toArray⟩ (jv l).length (by omega) W;rw[show(⟨l.toArray⟩:ByteArray).data.toList=l from rfl,Kc]at this;exact this
  have x2:∀W,(fN 9 (.string ⟨l.toArray⟩) (some (.int .i64 ((jv l).length:Int))) none none).run ah W=.ok (.string ⟨(lG l).toArray⟩) W:=fun W=>by
   have:=oX ⟨l.toArray⟩ (jv l).length (by omega) W;rw[show(⟨l.toArray⟩:ByteArray).data.toList=l from rfl,BA]at this;exact this
  have c1:=fun W=>Bw (jv l) (by omega) W
  have c2:∀W,Calls ah 163 #[.string ⟨(lG l).toArray⟩,.string ⟨#[35]⟩] W fun e w'=>e=.returned (.tuple #[.string ⟨(dg (lG l) [35]).toArray⟩,.bool (dy (lG l) [35])])/\w'=W:=fun W=>fV ⟨(lG l).toArray⟩ ⟨#[35]⟩ W
  have i1:¬ (24:Int)<((jv l).length:Int):=by omega
  have i2:((jv l).length:Int)<=24:=by omega
  have i3:(0:Int)<=((jv l).length:Int):=by omega
  have HG:=qet hg;have hrl:(lG l).length=l.length-(jv l).length:=by rw[<-BA,bz]
  by_cases hm:(lG l).head?=some 35
  ·exact(Ke h35 hm).elim
  ·have HO:=qet (show BC l=some (gO (rZ (jv l)),lG l) by unfold BC;rw[if_neg hm,if_pos (by omega)])
   have hp:dy (lG l) [35]=false:=by
    match lG l,hm with
    |[],_=>rfl
    |c::q,hm=>
     show((35:UInt8)==c&&_)=false;rw[fA]
     left
     rw[beq_eq_false_iff_ne];intro h;exact hm (by rw[<-h];rfl)
   rw[hp]at c2
   have HK:qes (((jv l).length:Int)=((l.length-(lG l).length:Nat):Int)):=by
    show _=_;omega
   have HT:qes (vV (gO (rZ (jv l))) 0=.agg #[.int .i64 1,.string ⟨(rZ (jv l)).toArray⟩,.int .i64 0,.int .i64 0,.int .i64 0]):=rfl;generalize((jv l).length:Int)=n at *;generalize(⟨(rZ (jv l)).toArray⟩:ByteArray)=nm at *;generalize(⟨(jv l).toArray⟩:ByteArray)=wd at *;generalize(⟨(dg (lG l) [35]).toArray⟩:ByteArray)=qs at *;generalize(⟨(lG l).toArray⟩:ByteArray)=rs at *;generalize(⟨l.toArray⟩:ByteArray)=s at *;clear hlong hle hl hsz hg hm hrl hp h35;go_enter Tryz.func125,Tryz.ntmps125;go_wp2_with fail;refine(c0 _).mono ?_;rintro e w1 ⟨rfl,hw1⟩;subst hw1;go_wp2_with fail;refine(c1 _).mono ?_;rintro e w1 ⟨rfl,hb1⟩;have B3:=(aw (w.heap.size+1) (w.alloc Y5)).trans (hb1.mono (by simp));obtain⟨⟨k0,k1,k2,k3,k4⟩,f0,f1,f2,f3,f4⟩:=NX B3;have HB3:=qet (((aw w.heap.size w).alloc (aj _) Y5).trans (B3.mono (dr _)));clear hb1 B3;go_wp2_with fail;refine(c2 _).mono ?_;rintro e w2 ⟨rfl,hw2⟩;subst hw2;clear c0 c1 c2;go_wp2;refine aU (v:=.tuple #[.agg #[.int .i64 1,.string nm,.int .i64 0,.int .i64 0,.int .i64 0],.int .i64 n,.bool true]) ?_ rfl ⟨⟨_,rfl,?_⟩,?_⟩
   ·simp[aV,Tryz.results125,go_sem,k0,k1,k2,k3,k4]
   ·rw[HO.o];show _=_;rw[HT.o,HK.o]
   ·exact Kb HB3.o (aj _) _ _ _ _ _
def Db(l:Bs):Option (Tk×Bs):=if l=[]then some (vO,[])else nV l
theorem GS(l:Bs)(hl:l.length<=140737488355000)(h35:∀c∈l,c≠35)(w:World)(hg:kZ w):Calls ah 68 #[.string ⟨l.toArray⟩] w fun e w'=>(∃v,e=.returned v/\vW (Db l) l.length v)/\Below w.heap.size w w':=by
 match l with
 |[]=>
  clear hg hl h35;go_enter eT,eQ;go_wp2;refine aU (v:=.tuple #[vV vO 0,.int .i64 0,.bool true]) ?_ rfl ⟨⟨_,rfl,rfl⟩,?_⟩
  ·simp[aV,eC,go_sem,vV,vO]
  ·exact(aw _ _).alloc (aj _) _
 |c::r=>
  have hne:=yt c r;have x0:∀W,(bR 9 (.string ⟨(c::r).toArray⟩) (.int .i64 0)).run ah W=.ok (.int .u8 (c.toNat:Int)) W:=re ⟨(c::r).toArray⟩ 0 c rfl;have d1:=fun W=>uF c W
  have d2:=fun W=>nK c W
  have B0:=(aw w.heap.size w).alloc (aj _) Y5;have G0:=hg.below B0 hg.lt
  have E:qes (Db (c::r)=if isLet c=true then BC (c::r)else if iY c=true then(based (c::r)).map fun x=>(mY x.1 0,x.2)else uy (c::r)):=by
   show(if c::r=[]then _ else nV (c::r))=_;rw[if_neg (by simp)];rfl
  cases hL:isLet c with
  |true=>
   have e:=E.o;rw[hL,if_pos rfl]at e;have c3:=Kf (c::r) hl h35 (w.alloc Y5) G0;rw[<-e]at c3;rw[hL]at d1;generalize Db (c::r)=O at *;generalize(c::r).length=L at *;generalize(⟨(c::r).toArray⟩:ByteArray)=s at *;generalize(c.toNat:Int)=x at *;clear hg G0 E e hL hl d2 B0 h35;go_enter eT,eQ;go_wp2_with fail;refine(d1 _).mono ?_;rintro e w1 ⟨rfl,hw1⟩;subst hw1;go_wp2_with fail;refine c3.mono ?_;rintro e w3 ⟨⟨v,rfl,hv⟩,hb3⟩;obtain⟨t,k,b,rfl⟩:=hv.form;have HV:=qet hv;have B3:Below (w.heap.size+1) (w.alloc Y5) w3:=by rw[aB]at hb3;exact hb3
   obtain⟨⟨k0,k1,k2,k3,k4⟩,f0,f1,f2,f3,f4⟩:=NX B3;have HB3:=qet (((aw w.heap.size w).alloc (aj _) Y5).trans (B3.mono (dr _)));clear hv hb3 B3 c3 d1;unfold vV at HV ⊢;go_wp2;refine aU (v:=.tuple #[vV t 0,.int .i64 k,.bool b]) ?_ rfl ⟨⟨_,rfl,HV.o⟩,?_⟩
   ·simp[aV,eC,go_sem,vV,k0,k1,k2,k3,k4]
   ·exact Kb HB3.o (aj _) _ _ _ _ _
  |false=>
   cases hD:iY c with
   |true=>
    have e:=E.o;rw[hL,if_neg (by decide),hD,if_pos rfl]at e;have c3:=Fo (c::r) hl h35 (w.alloc Y5) G0;rw[<-e]at c3;rw[hL]at d1;rw[hD]at d2;generalize Db (c::r)=O at *;generalize(c::r).length=L at *;generalize(⟨(c::r).toArray⟩:ByteArray)=s at *;generalize(c.toNat:Int)=x at *;clear hg G0 E e hL hD hl B0 h35;go_enter eT,eQ;go_wp2_with fail;refine(d1 _).mono ?_;rintro e w1 ⟨rfl,hw1⟩;subst hw1;go_wp2_with fail;refine(d2 _).mono ?_;rintro e w1 ⟨rfl,hw1⟩;subst hw1;go_wp2_with fail;refine c3.mono ?_;rintro e w3 ⟨⟨v,rfl,hv⟩,hb3⟩;obtain⟨t,k,b,rfl⟩:=hv.form;have HV:=qet hv;have B3:Below (w.heap.size+1) (w.alloc Y5) w3:=by rw[aB]at hb3;exact hb3
    obtain⟨⟨k0,k1,k2,k3,k4⟩,f0,f1,f2,f3,f4⟩:=NX B3;have HB3:=qet (((aw w.heap.size w).alloc (aj _) Y5).trans (B3.mono (dr _)));clear hv hb3 B3 c3 d1 d2;unfold vV at HV ⊢;go_wp2;refine aU (v:=.tuple #[vV t 0,.int .i64 k,.bool b]) ?_ rfl ⟨⟨_,rfl,HV.o⟩,?_⟩
    ·simp[aV,eC,go_sem,vV,k0,k1,k2,k3,k4]
    ·exact Kb HB3.o (aj _) _ _ _ _ _
   |false=>
    have e:=E.o;rw[hL,if_neg (by decide),hD,if_neg (by decide)]at e;have c3:=NQ (c::r) (w.alloc Y5) G0;rw[<-e]at c3;rw[hL]at d1;rw[hD]at d2;generalize Db (c::r)=O at *;generalize(c::r).length=L at *;generalize(⟨(c::r).toArray⟩:ByteArray)=s at *;generalize(c.toNat:Int)=x at *;clear hg G0 E e hL hD hl B0 h35;go_enter eT,eQ;go_wp2_with fail;refine(d1 _).mono ?_;rintro e w1 ⟨rfl,hw1⟩;subst hw1;go_wp2_with fail;refine(d2 _).mono ?_;rintro e w1 ⟨rfl,hw1⟩;subst hw1;go_wp2_with fail;refine c3.mono ?_;rintro e w3 ⟨⟨v,rfl,hv⟩,hb3⟩;obtain⟨t,k,b,rfl⟩:=hv.form;have HV:=qet hv;have B3:Below (w.heap.size+1) (w.alloc Y5) w3:=by rw[aB]at hb3;exact hb3
    obtain⟨⟨k0,k1,k2,k3,k4⟩,f0,f1,f2,f3,f4⟩:=NX B3;have HB3:=qet (((aw w.heap.size w).alloc (aj _) Y5).trans (B3.mono (dr _)));clear hv hb3 B3 c3 d1 d2;unfold vV at HV ⊢;go_wp2;refine aU (v:=.tuple #[vV t 0,.int .i64 k,.bool b]) ?_ rfl ⟨⟨_,rfl,HV.o⟩,?_⟩
    ·simp[aV,eC,go_sem,vV,k0,k1,k2,k3,k4]
    ·exact Kb HB3.o (aj _) _ _ _ _ _
theorem Fp:∀l:Bs,(0<=bE l 10->bE l 10=((l.length-(lz l).length:Nat):Int))/\(¬0<=bE l 10->lz l=[])
 |[]=>⟨fun h=>by simp[bE]at h,fun _=>rfl⟩
 |c::r=>by
  have ih:=Fp r;have hge:=Lib.indexByte_ge r 10;have hl:=oS r;unfold bE lz
  by_cases hc:c=10
  ·simp[hc]
  ·have hb:(c==(10:UInt8))=false:=by rw[beq_eq_false_iff_ne];exact hc
   rw[if_neg hc];simp only[hb,eX,if_false]
   by_cases h0:0<=bE r 10
   ·have e:=ih.1 h0;have h1:¬ (bE r 10== -1)=true:=by rw[beq_iff_eq];omega
    rw[if_neg h1];refine⟨fun _=>?_,fun h=>absurd (by omega) h⟩;rw[aG];omega
   ·have h1:(bE r 10== -1)=true:=by rw[beq_iff_eq];omega
    rw[if_pos h1];exact⟨fun h=>by omega,fun _=>ih.2 h0⟩
theorem Fq:∀l:Bs,(0<=bN l [42,41]->bN l [42,41]+2<=(l.length:Int)/\ld l=some (l.drop (bN l [42,41]+2).toNat))/\(¬0<=bN l [42,41]->ld l=none)
 |[]=>⟨fun h=>by simp[bN]at h,fun _=>rfl⟩
 |c::r=>by
  have ih:=Fq r;have hge:=Lib.index_ge r [42,41];unfold bN ld
  by_cases hc:c=42/\r.head?=some 41
  ·obtain⟨q,rfl⟩:∃q,r=41::q:=by
    match r,hc.2 with
    |d::q,h=>injection h with h;exact⟨q,by rw[h]⟩
   obtain⟨rfl,_⟩:=hc;simp[cG];omega
  ·have hp:cG [42,41] (c::r)=false:=by
    cases hq:cG [42,41] (c::r)with
    |false=>rfl
    |true=>
     exfalso;have:=(xW [42,41] (c::r)).1 hq
     match r,this with
     |[],h=>simp at h
     |d::q,h=>
      simp at h;exact hc ⟨h.1.symm,by rw[<-h.2];rfl⟩
   rw[hp,if_neg hc];simp only[eX,if_false]
   by_cases h0:0<=bN r [42,41]
   ·obtain⟨e1,e2⟩:=ih.1 h0;have h1:¬ (bN r [42,41]== -1)=true:=by rw[beq_iff_eq];omega
    rw[if_neg h1];refine⟨fun _=>⟨by rw[aG];omega,?_⟩,fun h=>absurd (by omega) h⟩;rw[e2,show(bN r [42,41]+1+2).toNat=(bN r [42,41]+2).toNat+1 by omega,List.drop_succ_cons]
   ·have h1:(bN r [42,41]== -1)=true:=by rw[beq_iff_eq];omega
    rw[if_pos h1];exact⟨fun h=>by omega,fun _=>ih.2 h0⟩
theorem BD:∀l:Bs,(0<=bN l [125]->bN l [125]+1<=(l.length:Int)/\ko l=some (l.drop (bN l [125]+1).toNat))/\(¬0<=bN l [125]->ko l=none)
 |[]=>⟨fun h=>by simp[bN]at h,fun _=>rfl⟩
 |c::r=>by
  have ih:=BD r;have hge:=Lib.index_ge r [125];unfold bN ko
  by_cases hc:c=125
  ·subst hc;simp[cG];omega
  ·have hp:cG [125] (c::r)=false:=by
    show((125:UInt8)==c&&_)=false;rw[fA]
    left
    rw[beq_eq_false_iff_ne];exact fun e=>hc e.symm
   rw[hp,if_neg hc];simp only[eX,if_false]
   by_cases h0:0<=bN r [125]
   ·obtain⟨e1,e2⟩:=ih.1 h0;have h1:¬ (bN r [125]== -1)=true:=by rw[beq_iff_eq];omega
    rw[if_neg h1];refine⟨fun _=>⟨by rw[aG];omega,?_⟩,fun h=>absurd (by omega) h⟩;rw[e2,show(bN r [125]+1+1).toNat=(bN r [125]+1).toNat+1 by omega,List.drop_succ_cons]
   ·have h1:(bN r [125]== -1)=true:=by rw[beq_iff_eq];omega
    rw[if_pos h1];exact⟨fun h=>by omega,fun _=>ih.2 h0⟩
theorem index_le:∀l sub:Bs,bN l sub<=(l.length:Int)
 |[],sub=>by unfold bN;split <;> simp
 |c::r,sub=>by
  have ih:=index_le r sub;unfold bN;rw[aG]
  split
  ·omega
  ·split <;> omega
theorem QJ(c:UInt8):decide (0<=bE [32,9,10,13] c)=yb c:=KQ (P:=fun c=>decide (0<=bE [32,9,10,13] c)=yb c) (by decide+kernel) c
def vF:Bs->Option Bs
 |[]=>some []
 |c::r=>if yb c then some r else if c=47/\r.head?=some 47 then some (lz (c::r))else if c=40/\r.head?=some 42 then ld r.tail else if c=123 then ko r else some (c::r)
def kY(l:Bs):Value:=match vF l with
 |none=>.tuple #[.int .i64 0,.bool false]
 |some r=>.tuple #[.int .i64 ((l.length-r.length:Nat):Int),.bool true]
theorem NY(l:Bs)(w:World):Calls ah 122 #[.string ⟨l.toArray⟩] w fun e w'=>e=.returned (.int .i64 ((l.length-(lz l).length:Nat):Int))/\w'=w:=by
 have c0:∀W,Calls ah 120 #[.string ⟨l.toArray⟩,.int .u8 10] W fun e w'=>e=.returned (.int .i64 (bE l 10))/\w'=W:=fun W=>fW ⟨l.toArray⟩ 10 W
 obtain⟨h1,h2⟩:=Fp l;have hsz:=list_size l
 by_cases h0:0<=bE l 10
 ·have H1:=qet (h1 h0);generalize bE l 10=i at *;generalize(⟨l.toArray⟩:ByteArray)=s at *;clear h1 h2 hsz;go_enter Tryz.func122,Tryz.ntmps122;go_wp2_with fail;refine(c0 _).mono ?_;rintro e w1 ⟨rfl,hw1⟩;subst hw1;go_wp2;go_ret;exact⟨qZ H1.o,rfl⟩
 ·have H1:=qet (h2 h0);generalize bE l 10=i at *;have HS:=qet hsz;generalize(⟨l.toArray⟩:ByteArray)=s at *;clear h1 h2 hsz;go_enter Tryz.func122,Tryz.ntmps122;go_wp2_with fail;refine(c0 _).mono ?_;rintro e w1 ⟨rfl,hw1⟩;subst hw1;go_wp2;go_ret;exact⟨qZ (by rw[H1.o,HS.o];rfl),rfl⟩
theorem vG(l op cl:Bs)(hl:l.length<=65536)(ho:op.length<=l.length)(hc:cl.length<=2)(w:World)(hg:kZ w):Calls ah 123 #[.string ⟨l.toArray⟩,.string ⟨op.toArray⟩,.string ⟨cl.toArray⟩] w fun e w'=>e=.returned (if 0<=bN (l.drop op.length) cl then .tuple #[.int .i64 ((op.length:Int)+bN (l.drop op.length) cl+(cl.length:Int)),.bool true]else .tuple #[.int .i64 0,.bool false])/\w'=w:=by
 obtain⟨mm,hm⟩:=hg.most;have x0:∀W,(fN 9 (.string ⟨l.toArray⟩) (some (.int .i64 (op.length:Int))) none none).run ah W=.ok (.string ⟨(l.drop op.length).toArray⟩) W:=fun W=>oX ⟨l.toArray⟩ op.length (by rw[list_size];exact ho) W
 have c0:Calls ah 160 #[.string ⟨(l.drop op.length).toArray⟩,.string ⟨cl.toArray⟩] w fun e w'=>e=.returned (.int .i64 (bN (l.drop op.length) cl))/\w'=w:=Tryz.strings_Index ⟨(l.drop op.length).toArray⟩ ⟨cl.toArray⟩ mm w (by rw[list_size,bz];omega) hm
 have s1:((⟨op.toArray⟩:ByteArray).size:Int)=(op.length:Int):=by rw[list_size]
 have s2:((⟨cl.toArray⟩:ByteArray).size:Int)=(cl.length:Int):=by rw[list_size]
 have hle:bN (l.drop op.length) cl<=65536:=by
  have:=index_le (l.drop op.length) cl;rw[bz]at this;omega
 have hge:=Lib.index_ge (l.drop op.length) cl;have i1:(op.length:Int)<=65536:=by omega
 have i2:(cl.length:Int)<=2:=by omega
 have i3:(0:Int)<=(op.length:Int):=by omega
 have i4:(0:Int)<=(cl.length:Int):=by omega
 generalize bN (l.drop op.length) cl=i at *;generalize(op.length:Int)=a at *;generalize(cl.length:Int)=b at *;generalize(⟨(l.drop op.length).toArray⟩:ByteArray)=q at *;generalize(⟨op.toArray⟩:ByteArray)=oo at *;generalize(⟨cl.toArray⟩:ByteArray)=cc at *;generalize(⟨l.toArray⟩:ByteArray)=s at *;clear hg hm hl ho hc
 by_cases h0:0<=i
 ·rw[if_pos h0];have h1:¬i<0:=by omega
  go_enter Tryz.func123,Tryz.ntmps123;go_wp2_with fail;refine c0.mono ?_;rintro e w1 ⟨rfl,hw1⟩;subst hw1;go_wp2;go_ret2;exact⟨rfl,rfl⟩
 ·rw[if_neg h0];have h1:i<0:=by omega
  go_enter Tryz.func123,Tryz.ntmps123;go_wp2_with fail;refine c0.mono ?_;rintro e w1 ⟨rfl,hw1⟩;subst hw1;go_wp2;go_ret2;exact⟨rfl,rfl⟩
theorem zQ(l:Bs):skip l=(match vF l with|none=>.error l|some r=>if r.length=l.length then .ok l else skip r):=by
 match l with
 |[]=>rfl
 |c::r=>
  rw[IX,vF]
  by_cases h1:yb c=true
  ·rw[if_pos h1,if_pos h1];simp
  ·rw[if_neg h1,if_neg h1]
   by_cases h2:c=47/\r.head?=some 47
   ·have h40:¬ (c=40/\r.head?=some 42):=fun h=>by rw[h2.1]at h;exact absurd h.1 (by decide)
    have hl:lz (c::r)=lz r:=by rw[lz,if_neg (by rw[h2.1];decide)]
    rw[if_neg h40,if_pos h2,if_pos h2,hl];have:=oS r;simp only[aG];rw[if_neg (by omega)]
   ·rw[if_neg h2,if_neg h2]
    by_cases h3:c=40/\r.head?=some 42
    ·rw[if_pos h3,if_pos h3]
     cases hn:ld r.tail with
     |none=>rfl
     |some q=>
      have h4:=oz hn;have h5:=yd r;simp only[aG];rw[if_neg (by omega)]
    ·rw[if_neg h3,if_neg h3]
     by_cases h4:c=123
     ·rw[if_pos h4,if_pos h4]
      cases hn:ko r with
      |none=>rfl
      |some q=>
       have h5:=nB hn;simp only[aG];rw[if_neg (by omega)]
     ·rw[if_neg h4,if_neg h4];simp
theorem IN(a b c:UInt8)(r:Bs):cG [a,b] (c::r)=decide (c=a/\r.head?=some b):=by
 match r with
 |[]=>simp[cG]
 |d::q=>
  rw[bh];simp[cG]
  constructor
  ·rintro⟨rfl,rfl⟩;exact⟨rfl,rfl⟩
  ·rintro⟨rfl,rfl⟩;exact⟨rfl,rfl⟩
theorem QK(l:Bs)(hl:l.length<=65536)(w:World)(hg:kZ w):Calls ah 67 #[.string ⟨l.toArray⟩] w fun e w'=>e=.returned (kY l)/\w'=w:=by
 match l with
 |[]=>
  clear hg hl;go_enter eu,ed;go_wp2;go_ret2;exact⟨rfl,rfl⟩
 |c::r=>
  have hne:=yt c r;have x0:∀W,(bR 9 (.string ⟨(c::r).toArray⟩) (.int .i64 0)).run ah W=.ok (.int .u8 (c.toNat:Int)) W:=re ⟨(c::r).toArray⟩ 0 c rfl
  have c1:∀W,Calls ah 120 #[.string ⟨#[32,9,10,13]⟩,.int .u8 (c.toNat:Int)] W fun e w'=>e=.returned (.int .i64 (bE [32,9,10,13] c))/\w'=W:=fun W=>by
   have:=fW ⟨#[32,9,10,13]⟩ (c.toNat:Int) W;rw[cP,show c.toNat.toUInt8=c from UInt8.ofNat_toNat]at this;exact this
  have hb:=QJ c
  by_cases h1:yb c=true
  ·have i1:0<=bE [32,9,10,13] c:=of_decide_eq_true (hb.trans h1)
   have HO:=qet (show kY (c::r)=.tuple #[.int .i64 1,.bool true] by
    unfold kY;rw[vF,if_pos h1];simp only[aG];rw[show r.length+1-r.length=1 by omega]
    rfl)
   generalize bE [32,9,10,13] c=i at *;generalize kY (c::r)=O at *;generalize(⟨(c::r).toArray⟩:ByteArray)=s at *;generalize(c.toNat:Int)=x at *;clear hb hl hg h1;go_enter eu,ed;go_wp2_with fail;refine(c1 _).mono ?_;rintro e w1 ⟨rfl,hw1⟩;subst hw1;go_wp2;go_ret2;exact⟨by rw[HO.o];rfl,rfl⟩
  ·have i1:¬0<=bE [32,9,10,13] c:=fun h=>h1 (hb ▸ decide_eq_true h)
   have c2:∀W,Calls ah 121 #[.string ⟨(c::r).toArray⟩,.string ⟨#[47,47]⟩] W fun e w'=>e=.returned (.bool (cG [47,47] (c::r)))/\w'=W:=fun W=>fO ⟨(c::r).toArray⟩ ⟨#[47,47]⟩ W
   rw[IN]at c2
   by_cases h2:c=47/\r.head?=some 47
   ·rw[decide_eq_true h2]at c2;have c3:=fun W=>NY (c::r) W
    have HO:=qet (show kY (c::r)=.tuple #[.int .i64 (((c::r).length-(lz (c::r)).length:Nat):Int),.bool true] by
     unfold kY
     rw[vF,if_neg h1,if_pos h2])
    generalize(((c::r).length-(lz (c::r)).length:Nat):Int)=z at *;generalize bE [32,9,10,13] c=i at *;generalize kY (c::r)=O at *;generalize(⟨(c::r).toArray⟩:ByteArray)=s at *;generalize(c.toNat:Int)=x at *;clear hb hl hg h1 h2;go_enter eu,ed;go_wp2_with fail;refine(c1 _).mono ?_;rintro e w1 ⟨rfl,hw1⟩;subst hw1;go_wp2_with fail;refine(c2 _).mono ?_;rintro e w1 ⟨rfl,hw1⟩;subst hw1;go_wp2_with fail;refine(c3 _).mono ?_;rintro e w1 ⟨rfl,hw1⟩;subst hw1;go_wp2;go_ret2;exact⟨by rw[HO.o];rfl,rfl⟩
   ·rw[decide_eq_false h2]at c2;have c4:∀W,Calls ah 121 #[.string ⟨(c::r).toArray⟩,.string ⟨#[40,42]⟩] W fun e w'=>e=.returned (.bool (cG [40,42] (c::r)))/\w'=W:=fun W=>fO ⟨(c::r).toArray⟩ ⟨#[40,42]⟩ W
    rw[IN]at c4
    by_cases h3:c=40/\r.head?=some 42
    ·rw[decide_eq_true h3]at c4
     obtain⟨q,rfl⟩:∃q,r=42::q:=by
      match r,h3.2 with
      |d::q,h=>injection h with h;exact⟨q,by rw[h]⟩
     have c5:Calls ah 123 #[.string ⟨(c::42::q).toArray⟩,.string ⟨#[40,42]⟩,.string ⟨#[42,41]⟩] w fun e w'=>e=.returned (kY (c::42::q))/\w'=w:=by
      have h:=vG (c::42::q) [40,42] [42,41] hl (by simp) (by simp) w hg;refine h.mono fun e w' ⟨e1,e2⟩=>⟨?_,e2⟩
      rw[e1]
      congr 1
      have hn:=Fq q;unfold kY;rw[vF,if_neg h1,if_neg h2,if_pos h3];simp only[fI];show(if 0<=bN q [42,41]then _ else _)=_
      by_cases h0:0<=bN q [42,41]
      ·obtain⟨n1,n2⟩:=hn.1 h0;rw[if_pos h0,n2];show eU #[.int .i64 ((2:Int)+bN q [42,41]+2),.bool true]=eU #[.int .i64 (((c::42::q).length-(q.drop (bN q [42,41]+2).toNat).length:Nat):Int),.bool true]
       rw[show(((c::42::q).length-(q.drop (bN q [42,41]+2).toNat).length:Nat):Int)=(2:Int)+bN q [42,41]+2 by
        rw[bz,aG,aG]
        omega]
      ·rw[if_neg h0,hn.2 h0]
     obtain⟨n,b,hgo⟩:∃n b,kY (c::42::q)=.tuple #[.int .i64 n,.bool b]:=by
      unfold kY
      split
      ·exact⟨_,_,rfl⟩
      ·exact⟨_,_,rfl⟩
     rw[hgo]at c5 ⊢;generalize bE [32,9,10,13] c=i at *;generalize(⟨(c::42::q).toArray⟩:ByteArray)=s at *;generalize(c.toNat:Int)=x at *;clear hb hl hg h1 h2 h3 hgo;go_enter eu,ed;go_wp2_with fail;refine(c1 _).mono ?_;rintro e w1 ⟨rfl,hw1⟩;subst hw1;go_wp2_with fail;refine(c2 _).mono ?_;rintro e w1 ⟨rfl,hw1⟩;subst hw1;go_wp2_with fail;refine(c4 _).mono ?_;rintro e w1 ⟨rfl,hw1⟩;subst hw1;go_wp2_with fail;refine c5.mono ?_;rintro e w1 ⟨rfl,hw1⟩;subst hw1;go_wp2;go_ret2;exact⟨rfl,rfl⟩
    ·rw[decide_eq_false h3]at c4
     by_cases h4:c=123
     ·have c5:Calls ah 123 #[.string ⟨(c::r).toArray⟩,.string ⟨#[123]⟩,.string ⟨#[125]⟩] w fun e w'=>e=.returned (kY (c::r))/\w'=w:=by
       have h:=vG (c::r) [123] [125] hl (by simp) (by simp) w hg;refine h.mono fun e w' ⟨e1,e2⟩=>⟨?_,e2⟩
       rw[e1]
       congr 1
       have hn:=BD r;unfold kY;rw[vF,if_neg h1,if_neg h2,if_neg h3,if_pos h4];show(if 0<=bN r [125]then _ else _)=_
       by_cases h0:0<=bN r [125]
       ·obtain⟨n1,n2⟩:=hn.1 h0;rw[if_pos h0,n2];show eU #[.int .i64 ((1:Int)+bN r [125]+1),.bool true]=eU #[.int .i64 (((c::r).length-(r.drop (bN r [125]+1).toNat).length:Nat):Int),.bool true]
        rw[show(((c::r).length-(r.drop (bN r [125]+1).toNat).length:Nat):Int)=(1:Int)+bN r [125]+1 by
         rw[bz,aG]
         omega]
       ·rw[if_neg h0,hn.2 h0]
      obtain⟨n,b,hgo⟩:∃n b,kY (c::r)=.tuple #[.int .i64 n,.bool b]:=by
       unfold kY
       split
       ·exact⟨_,_,rfl⟩
       ·exact⟨_,_,rfl⟩
      rw[hgo]at c5 ⊢;have hx:(c.toNat:Int)=123:=by rw[h4];rfl
      rw[hx]at x0 c1;generalize bE [32,9,10,13] c=i at *;generalize(⟨(c::r).toArray⟩:ByteArray)=s at *;clear hb hl hg h1 h2 h3 hgo h4 hx;go_enter eu,ed;go_wp2_with fail;refine(c1 _).mono ?_;rintro e w1 ⟨rfl,hw1⟩;subst hw1;go_wp2_with fail;refine(c2 _).mono ?_;rintro e w1 ⟨rfl,hw1⟩;subst hw1;go_wp2_with fail;refine(c4 _).mono ?_;rintro e w1 ⟨rfl,hw1⟩;subst hw1;go_wp2_with fail;refine c5.mono ?_;rintro e w1 ⟨rfl,hw1⟩;subst hw1;go_wp2;go_ret2;exact⟨rfl,rfl⟩
     ·have HO:=qet (show kY (c::r)=.tuple #[.int .i64 0,.bool true] by
       unfold kY;rw[vF,if_neg h1,if_neg h2,if_neg h3,if_neg h4]
       simp)
      have hx:((c.toNat:Int)==123)=false:=by rw[beq_eq_false_iff_ne];exact fun h=>h4 (AP.2 h)
      generalize bE [32,9,10,13] c=i at *;generalize kY (c::r)=O at *;generalize(⟨(c::r).toArray⟩:ByteArray)=s at *;generalize(c.toNat:Int)=x at *;clear hb hl hg h1 h2 h3 h4;go_enter eu,ed;go_wp2_with fail;refine(c1 _).mono ?_;rintro e w1 ⟨rfl,hw1⟩;subst hw1;go_wp2_with fail;refine(c2 _).mono ?_;rintro e w1 ⟨rfl,hw1⟩;subst hw1;go_wp2_with fail;refine(c4 _).mono ?_;rintro e w1 ⟨rfl,hw1⟩;subst hw1;go_wp2;go_ret2;exact⟨by rw[HO.o];rfl,rfl⟩
theorem AE{P:Program}{a:Act}{Q:Exit->Act->World->Prop}{c rest:Code}(l:Nat)(J:Act->World->Prop)(μ:Act->World->Nat)(hf:findLabel c l=some (.seq .skip rest))
  (first:(∀a w,J a w->rest.wp P (eB l J Q) a w)->c.wp P (eB l J Q) a w)
  (pass:∀a w,J a w->rest.wp P (eB l (fun a' w'=>J a' w'/\μ a' w'< μ a w) Q) a w):(Code.scope c).wp P Q a w:=
 wp_scope_jumps l J μ hf (first fun a w h=>Code.wp_mono (fun e a' w' q=>by
  cases e with
  |goto l'=>exact⟨q.1,q.2.1⟩
  |_=>exact q) (pass a w h)) (fun a w h=>wp_seq (wp_skip (pass a w h)))
def zR(ts:List (Tk×Nat)):Except (Nat×Int) (List (Tk×Nat))->Except (Nat×Int) (List (Tk×Nat))
 | .error e=>.error e
 | .ok us=>.ok (ts++us)
def X8(L:Nat)(x:Tk×Nat):List Value:=[.int .i64 x.1.kind,.string ⟨x.1.s.toArray⟩,.int .i64 x.1.n,.int .i64 x.1.ty,.int .i64 ((L-x.2:Nat):Int)]
def AF(L:Nat)(ts:List (Tk×Nat)):List Value:=ts.flatMap (X8 L)
theorem Kg(L:Nat)(ts:List (Tk×Nat))(x:Tk×Nat):AF L (ts++[x])=AF L ts++X8 L x:=by
 unfold AF;rw[List.flatMap_append];simp
variable {r:Bs}
theorem QL(h:vF l=some r):r<:+l:=by
 match l,h with
 |[],h=>injection h with h;subst h;exact cO _
 |c::q,h=>
  rw[vF]at h
  split at h
  ·injection h with h;subst h;exact dM _ _
  ·split at h
   ·injection h with h;subst h;exact Dx _
   ·split at h
    ·exact lh c ((Dw h).trans (so q))
    ·split at h
     ·exact lh c (AJ h)
     ·injection h with h;subst h;exact cO _
theorem Fs{q:Bs}(h:r<:+q):r=q.drop (q.length-r.length):=by
 obtain⟨t,rfl⟩:=h;rw[ao,Nat.add_sub_cancel,fT]
variable {f:Nat}{cnt:Nat}
theorem GU(h:skip l=skip r):lO (f+1) cnt l=lO (f+1) cnt r:=by
 rw[lO,lO,h]
theorem Kh(h:vF l=none):lO (f+1) cnt l=.error (l.length,50):=by
 rw[lO,zQ,h]
theorem Ki(h:vF l=some r)(hr:r.length≠l.length):lO (f+1) cnt l=lO (f+1) cnt r:=by
 apply GU;rw[zQ,h];simp only[];rw[if_neg hr]
theorem Kj(h:vF l=some r)(hr:r.length=l.length):skip l=.ok l:=by
 rw[zQ,h];simp only[];rw[if_pos hr]
theorem GV(hs:skip l=.ok l)(h:4096<=cnt):lO (f+1) cnt l=.error (l.length,2):=by
 rw[lO,hs];simp only[if_pos h]
theorem Kk(h:¬4096<=cnt):lO (f+1) cnt []=.ok [(vO,0)]:=by
 rw[lO,KP];simp only[if_neg h]
theorem GX(hs:skip l=.ok l)(h:¬4096<=cnt)(hl:l≠[])(ho:nV l=none):lO (f+1) cnt l=.error (l.length,50):=by
 match l,hl with
 |c::q,_=>
  rw[lO,hs];simp only[if_neg h,ho,aG]
theorem GY{t:Tk}(hs:skip l=.ok l)(h:¬4096<=cnt)(ho:nV l=some (t,r)):lO (f+1) cnt l=(match lO f (cnt+1) r with| .error e=>.error e| .ok ts=>.ok ((t,l.length)::ts)):=by
 match l,ho with
 |c::q,ho=>
  rw[lO,hs];simp only[if_neg h,ho,aG];rfl
theorem NZ(e:Except (Nat×Int) (List (Tk×Nat))):zR [] e=e:=by cases e <;> rfl
variable {e:Nat}{size:Nat}{w':World}
theorem GZ(h:w.ownsRow base e size v n xs)(hb:Below w.heap.size w w'):w'.ownsRow base e size v n xs:=by
 refine⟨h.1,?_⟩
 rcases h.2 with h1|⟨g,cap,cur,h1,h2,h3,h4⟩
 ·exact .inl h1
 ·exact .inr ⟨g,cap,cur,h1,h2,(hb.block g (Array.getElem?_eq_some_iff.1 h3).1).trans h3,h4⟩
theorem rX(W:World)(p:Addr)(v:Value)(h:g≠p.block):(W.setCell p v).heap[g]? =W.heap[g]? :=by
 simp only[cW]
 split <;> simp[Array.getElem?_modify,Ne.symm h]
theorem Kl(h:W.ownsRow (B+1) e size v n xs)(x y:Value):((W.setCell ⟨B,0,none⟩ x).setCell ⟨B,1,none⟩ y).ownsRow B e size v n xs:=by
 refine⟨h.1,?_⟩
 rcases h.2 with h1|⟨g,cap,cur,h1,h2,h3,h4⟩
 ·exact .inl h1
 ·exact .inr ⟨g,cap,cur,h1,by omega,by
   rw[rX _ _ _ (by show g≠B;omega),rX _ _ _ (by show g≠B;omega)]
   exact h3,h4⟩
theorem Km(ts:List (Tk×Nat))(x:Tk×Nat)(e:Except (Nat×Int) (List (Tk×Nat))):zR ts (match e with| .error e=>.error e| .ok us=>.ok (x::us))=zR (ts++[x]) e:=by
 cases e with
 |error e=>rfl
 |ok us=>simp[zR]
theorem N0{t:Tk}(h:nV l=some (t,r)):t.kind≠4:=by
 have hN:∀ {ty:Int}{l r:Bs}{t:Tk},oU ty l=some (t,r)->t.kind=2:=by
  intro ty l r t h;unfold oU at h
  split at h
  all_goals
   split at h
   ·cases h
   ·split at h
    ·injection h with h;injection h with h1 h2;subst h1;rfl
    ·cases h
 have hT:∀ {w l r:Bs}{t:Tk},qj w l=some (t,r)->t.kind=2:=by
  intro w l r t h;unfold qj at h
  split at h
  ·cases ht:tE 6 0 0 l with
   |none=>rw[ht]at h;cases h
   |some x=>rw[ht]at h;injection h with h;injection h with h1 h2;subst h1;rfl
  ·split at h
   ·exact hN h
   ·split at h
    ·exact hN h
    ·split at h
     ·exact hN h
     ·cases h
 match l,h with
 |c::q,h=>
  unfold nV at h;simp only[]at h
  split at h
  ·split at h
   ·rw[hT h];decide
   ·split at h
    ·injection h with h;injection h with h1 h2;subst h1;exact(show(1:Int)≠4 by decide)
    ·cases h
  ·split at h
   ·cases hb:based (c::q)with
    |none=>rw[hb]at h;cases h
    |some x=>rw[hb]at h;injection h with h;injection h with h1 h2;subst h1;exact(show(2:Int)≠4 by decide)
   ·unfold uy at h
    split at h
    ·injection h with h;injection h with h1 h2;subst h1;exact(show(3:Int)≠4 by decide)
    ·split at h
     ·cases h
     ·split at h
      ·injection h with h;injection h with h1 h2;subst h1;exact(show(3:Int)≠4 by decide)
      ·cases h
theorem N1(h:w.ownsRow base e size v n xs):∃a cap,v=.slice a n cap:=by
 rcases h.2 with⟨h1,h2⟩|⟨g,cap,cur,h1,_⟩
 ·exact⟨none,0,by rw[h1,h2]⟩
 ·exact⟨_,_,h1⟩
abbrev F2:Obj:=.cells #[.int .i64 0,.int .i64 0] 27
theorem Ux(h:Below (w.heap.size+1) (w.alloc F2) W):
  (W.cell? ⟨w.heap.size,0,none⟩=some (.int .i64 0)/\W.cell? ⟨w.heap.size,1,none⟩=some (.int .i64 0))/\(W.frozen? ⟨w.heap.size,0,none⟩=false/\W.frozen? ⟨w.heap.size,1,none⟩=false):=by
 refine⟨⟨?_,?_⟩,?_,?_⟩
 ·exact(h.cell (p:=⟨w.heap.size,0,none⟩) (by simp)).trans (by simp)
 ·exact(h.cell (p:=⟨w.heap.size,1,none⟩) (by simp)).trans (by simp)
 ·exact(h.frozen (p:=⟨w.heap.size,0,none⟩) (by simp)).trans (by simp)
 ·exact(h.frozen (p:=⟨w.heap.size,1,none⟩) (by simp)).trans (by simp)
theorem WC:(ah.info? 54).map (fun i=>(i.zero,i.size,i.bytes))=some (some (.agg #[.int .i64 0,.string ⟨#[]⟩,.int .i64 0,.int .i64 0,.int .i64 0]),5,48):=by kernel_rfl
def uo(base:Nat)(l:Bs)(e:Ending)(w':World):Prop:=match toks l with
 | .error (n,c)=>e=.returned (.tuple #[.slice none 0 0,.agg #[.int .i64 ((l.length-n:Nat):Int),.int .i64 c]])
 | .ok ts=>∃v,e=.returned (.tuple #[v,.agg #[.int .i64 0,.int .i64 0]])/\w'.ownsRow base 54 5 v ts.length (AF l.length ts)
def TJ(l:Bs)(s:ByteArray)(w:World)(a':Act)(W:World):Prop:=∃(k f:Nat)(ts:List (Tk×Nat))(lv u1 u6 u7 u8 u9 u10 u11 u12 u13 u14 u15 u16 u17 u18 u19 u20 u21 u22 u23 u24 u25 u26 u27 u28 u29 u30 u31 u32 u33 u34 u35 u36 u37 u38 u39 u40 u41 u42 u43 u44 u45 u46 u47 u48 u49 u50 u51 u52 u53 u54 u55 u56 u57 u58 u59 u60 u61:Value),a'={tmps:=#[.string s,u1,.slice none 0 0,.pointer (some ⟨w.heap.size,0,none⟩),lv,.int .i64 (k:Int),u6,u7,u8,u9,u10,u11,u12,u13,u14,u15,u16,u17,u18,u19,u20,u21,u22,u23,u24,u25,u26,u27,u28,u29,u30,u31,u32,u33,u34,u35,u36,u37,u38,u39,u40,u41,u42,u43,u44,u45,u46,u47,u48,u49,u50,u51,u52,u53,u54,u55,u56,u57,u58,u59,u60,u61],defers:=[]}/\
 qes (k<=l.length/\l.length-k<=f/\zR ts (lO (f+1) ts.length (l.drop k))=toks l/\ts.length<=4096/\W.ownsRow (w.heap.size+1) 54 5 lv ts.length (AF l.length ts)/\Below (w.heap.size+1) (w.alloc F2) W)
def Uy(a:Act):Nat:=(intOf (a.tmps.getD 5 undef)).toNat
theorem G1(l:Bs)(h35:∀c∈l,c≠35)(w:World)(hg:kZ w):Calls ah 45 #[.string ⟨l.toArray⟩] w fun e w'=>uo w.heap.size l e w'/\Below w.heap.size w w':=by
 have hsz:=qet (list_size l);have HG:=qet hg
 by_cases hlong:65536<l.length
 ·have HT:=qet (show toks l=.error (l.length,2) by unfold toks;rw[if_pos hlong]);have i1:(65536:Int)<((⟨l.toArray⟩:ByteArray).size:Int):=by have:=hsz.o;omega
  generalize(⟨l.toArray⟩:ByteArray)=s at *;clear hlong hg;go_enter Tryz.func45,Tryz.ntmps45;go_wp2;go_step3;go_wp2
  first|rw[dU]|skip
  refine aU (v:=.tuple #[.slice none 0 0,.agg #[.int .i64 0,.int .i64 2]]) ?_ rfl ⟨?_,?_⟩
  ·simp[aV,ee,go_sem]
  ·unfold uo;rw[HT.o];simp
  ·exact(aw _ _).alloc (aj _) _
 ·have HT:=qet (show toks l=lO (l.length+1) 0 l by unfold toks;rw[if_neg hlong]);have i1:¬ (65536:Int)<((⟨l.toArray⟩:ByteArray).size:Int):=by have:=hsz.o;omega
  have HL:=qet (show l.length<=65536 by omega);have HX:qes (∀(n:Nat),n<=l.length->∀W:World,(fN 9 (.string ⟨l.toArray⟩) (some (.int .i64 (n:Int))) none none).run ah W=.ok (.string ⟨(l.drop n).toArray⟩) W):=fun n h W=>oX ⟨l.toArray⟩ n (by rw[list_size];exact h) W
  have WD:=qet fun(k:Nat)(W:World)(h:kZ W)=>QK (l.drop k) (by have:=HL.o;rw[bz];omega) W h
  have WE:=qet fun(k:Nat)(W:World)(h:kZ W)=>GS (l.drop k) (by have:=HL.o;rw[bz];omega) (fun c hc=>h35 c (cL hc)) W h
  generalize(⟨l.toArray⟩:ByteArray)=s at *;clear hlong hg;go_enter Tryz.func45,Tryz.ntmps45;go_wp2;refine AE 0 (TJ l s w) (fun a' _=>l.length-Uy a') rfl ?_ ?_
  ·intro key;go_wp2;go_step3
   rename_i hK
   apply hK;refine key _ _ ⟨0,l.length,[],_,_,_,_,_,_,_,_,_,_,_,_,_,_,_,_,_,_,_,_,_,_,_,_,_,_,_,_,_,_,_,_,_,_,_,_,_,_,_,_,_,_,_,_,_,_,_,_,_,_,_,_,_,_,_,_,_,_,rfl,?_⟩;exact⟨by omega,by omega,by rw[HT.o,NZ];rfl,by simp,bS _ _ _ _,aw _ _⟩
  ·rintro a' W ⟨k,f,ts,lv,u1,u6,u7,u8,u9,u10,u11,u12,u13,u14,u15,u16,u17,u18,u19,u20,u21,u22,u23,u24,u25,u26,u27,u28,u29,u30,u31,u32,u33,u34,u35,u36,u37,u38,u39,u40,u41,u42,u43,u44,u45,u46,u47,u48,u49,u50,u51,u52,u53,u54,u55,u56,u57,u58,u59,u60,u61,rfl,hh⟩;have hk:=hh.o.1;have GW:=HG.o.below (((aw w.heap.size w).alloc (aj _) F2).trans (hh.o.2.2.2.2.2.mono (dr _))) HG.o.lt;have x0:=HX.o k hk;have cg:=WD.o k W GW;have PX:(l.drop k).length=l.length-k:=bz;obtain⟨⟨k0,k1⟩,f0,f1⟩:=Ux hh.o.2.2.2.2.2;have HBW:=qet (((aw w.heap.size w).alloc (aj _) F2).trans (hh.o.2.2.2.2.2.mono (dr _)));have j1:(k:Int)<=65536:=by have:=HL.o;omega
   have hcont:=qet hh.o.2.2.1;unfold kY at cg
   cases OQ:vF (l.drop k)with
   |none=>
    rw[OQ]at cg;have HR:=qet (show toks l=.error ((l.drop k).length,50) by rw[<-hcont.o,Kh OQ];rfl);have HK:qes (((l.length-(l.drop k).length:Nat):Int)=(k:Int)):=by show _=_;omega
    generalize(⟨(l.drop k).toArray⟩:ByteArray)=q at *;clear OQ hcont PX HX WD WE GW HG hk hh;go_wp2_with fail;refine cg.mono ?_;rintro e w1 ⟨rfl,hw1⟩;subst hw1;go_wp2;simp only[eB]
    first|rw[dU]|skip
    refine aU (v:=.tuple #[.slice none 0 0,.agg #[.int .i64 (k:Int),.int .i64 50]]) ?_ rfl ⟨?_,?_⟩
    ·simp[aV,ee,go_sem,k0,k1]
    ·unfold uo;rw[HR.o];simp only[HK.o]
    ·exact(HBW.o.setCell (aj _) _).setCell (aj _) _
   |some r=>
    rw[OQ]at cg;have B6:=QL OQ;have hrl:=B6.length_le
    by_cases hne:r.length=(l.drop k).length
    ·have hs:=Kj OQ hne;have hz:(((l.drop k).length-r.length:Nat):Int)=0:=by omega
     simp only[hz]at cg;obtain⟨a0,cap0,hlv⟩:=N1 hh.o.2.2.2.2.1;subst hlv;have HF:=qet hh.o.2.2.2.1
     by_cases hfull:4096<=ts.length
     ·have i2:(ts.length:Int)=4096:=by have:=HF.o;omega
      have HR:=qet (show toks l=.error ((l.drop k).length,2) by rw[<-hcont.o,GV hs hfull];rfl);have HK:qes (((l.length-(l.drop k).length:Nat):Int)=(k:Int)):=by show _=_;omega
      generalize(⟨(l.drop k).toArray⟩:ByteArray)=q at *;clear OQ hcont PX HX WD WE GW HG hk hh hs hne B6 hrl hz HF hfull;go_wp2_with fail;refine cg.mono ?_;rintro e w1 ⟨rfl,hw1⟩;subst hw1;go_wp2;simp only[eB]
      first|rw[dU]|skip
      refine aU (v:=.tuple #[.slice none 0 0,.agg #[.int .i64 (k:Int),.int .i64 2]]) ?_ rfl ⟨?_,?_⟩
      ·simp[aV,ee,go_sem,k0,k1]
      ·unfold uo;rw[HR.o];simp only[HK.o]
      ·exact(HBW.o.setCell (aj _) _).setCell (aj _) _
     ·have i2:¬ (ts.length:Int)=4096:=by omega
      have ct:=WE.o k W GW;have HO:=qet hh.o.2.2.2.2.1;have HW:=qet hh.o.2.2.2.2.2;have HF2:=qet (show ts.length<4096 by omega);have HF3:=qet hh.o.2.1;have ZK:=qet hs;have X9:=qet hfull;obtain⟨i0,hi,hz0,hz1,hz2⟩:=info_parts WC;generalize(⟨(l.drop k).toArray⟩:ByteArray)=q at *;clear OQ HX WD WE GW HG hh hs hne B6 hrl hz HF hfull;go_wp2_with fail;refine cg.mono ?_;rintro e w1 ⟨rfl,hw1⟩;subst hw1;clear k0 k1 f0 f1 cg;go_wp2_with fail;refine ct.mono ?_;rintro e w1 ⟨⟨v,rfl,hv⟩,hb1⟩;clear ct;have zW:=HW.o.size;rw[aB]at zW;have B1:=HW.o.trans (hb1.mono zW);have o1:=GZ HO.o hb1;have zl:=hb1.size;have hlt:=HO.o.lt
      cases hto:Db (l.drop k)with
      |none=>
       rw[hto]at hv;obtain⟨t,n,rfl⟩:=hv;have hne0:l.drop k≠[]:=fun e=>by rw[e]at hto;cases hto
       have HR:=qet (show toks l=.error ((l.drop k).length,50) by
        rw[<-hcont.o,GX ZK.o X9.o hne0 (by unfold Db at hto;rw[if_neg hne0]at hto;exact hto)];rfl)
       have HK:qes (((l.length-(l.drop k).length:Nat):Int)=(k:Int)):=by show _=_;omega
       have R:=fun o=>Ux (B1.alloc (by omega) o)
       have k0:=fun o=>(R o).1.1
       have k1:=fun o=>(R o).1.2
       have f0:=fun o=>(R o).2.1
       have f1:=fun o=>(R o).2.2
       have HB1:=qet (((aw w.heap.size w).alloc (aj _) F2).trans (B1.mono (dr _)));have z1:w.heap.size<=w1.heap.size:=by omega
       clear hto hb1 B1 o1 HO HW HF2 HF3 ZK X9 hcont R hlt hi hz0 hz1 hz2 hne0;unfold vV;go_wp2;simp only[eB]
       first|rw[dU]|skip
       refine aU (v:=.tuple #[.slice none 0 0,.agg #[.int .i64 (k:Int),.int .i64 50]]) ?_ rfl ⟨?_,?_⟩
       ·simp[aV,ee,go_sem,k0,k1]
       ·unfold uo;rw[HR.o];simp only[HK.o]
       ·exact((HB1.o.alloc z1 _).setCell (aj _) _).setCell (aj _) _
      |some x=>
       obtain⟨t,r'⟩:=x;rw[hto]at hv;obtain rfl:v=_:=hv;have j5:(((l.drop k).length-r'.length:Nat):Int)<=65536:=by have:=HL.o;omega
       have j6:(0:Int)<=(((l.drop k).length-r'.length:Nat):Int):=by omega
       have n48:(ts.length:Int)<=4096:=by have:=HF2.o;omega
       obtain⟨z,HZ⟩:∃z,qes ((l.drop k).length-r'.length=z):=⟨_,rfl⟩
       rw[HZ.o]at j5 j6;rw[HZ.o]
       have HTC:qes (AF l.length ts++[.int .i64 t.kind,.string ⟨t.s.toArray⟩,.int .i64 t.n,.int .i64 t.ty,.int .i64 (k:Int)]=AF l.length (ts++[(t,(l.drop k).length)])):=by
        show _=_;rw[Kg];unfold X8;simp only[];rw[show((l.length-(l.drop k).length:Nat):Int)=(k:Int) by omega]
       have Jf:=qet hto;clear hto;unfold vV;generalize(⟨t.s.toArray⟩:ByteArray)=tS at *;have WG:some w1.heap.size≠(aZ a0 ts.length cap0).ownBlock:=fun e=>by have:=hlt _ e.symm;omega
       go_wp2_with(at_builtin;go_must (refine wpList_append_lies _ (by rfl) _ _ _ (by rfl) (w.heap.size+1) 54 i0 _ 5 48 cJ hi hz0 hz1 hz2 rfl (by omega) _ ts.length _ (by rfl) ((o1.alloc _).alloc _) ⟨w1.heap.size+1,0,none⟩ 1 1 [.int .i64 t.kind,.string tS,.int .i64 t.n,.int .i64 t.ty,.int .i64 (k:Int)] (by rfl) (by rfl) (by rw[show w1.heap.size+1=(w1.alloc (.cells #[.int .i64 t.kind,.string tS,.int .i64 t.n,.int .i64 t.ty,.int .i64 (k:Int)] 54)).heap.size by simp];exact bf (cs:=#[.int .i64 t.kind,.string tS,.int .i64 t.n,.int .i64 t.ty,.int .i64 (k:Int)]) (t:=54) (fr:=(0,0)) (aE _ _)) (by simp[aY]) (by omega) (by unfold ff;omega) (by omega) (by simp;omega) (w1.heap.size+2) (by simp) ?_;intro gg cap' w3 hown3 hgrow ZL hlt3;have kd:=(hgrow.cell_far ⟨w1.heap.size,0,none⟩ (by simp;omega) WG).trans (show _=some (Value.int .i64 t.kind) by simp);have B3:=((B1.alloc (by omega) _).alloc (by simp;omega) _).grown hgrow (by simp;omega) (fun r hr=>(hlt r hr).1);obtain⟨⟨k0,k1⟩,f0,f1⟩:=Ux B3;rw[HTC.o]at hown3;replace hown3:=qet hown3;replace B3:=qet B3;clear hgrow ZL hlt3 WG o1 B1))
       ·have hkind:¬t.kind=4:=by
         have h:(t.kind !=4)=true:=by assumption
         simpa using h
        have hne0:l.drop k≠[]:=fun e=>by
         have h:=Jf.o;rw[e]at h;injection h with h
         injection h with h1 h2
         exact hkind (by rw[<-h1];rfl)
        have ho:nV (l.drop k)=some (t,r'):=by
         have h:=Jf.o;unfold Db at h;rw[if_neg hne0]at h;exact h
        obtain⟨WH,hlen2⟩:=OW ho;have hr2:=Fs WH;rw[HZ.o,List.drop_drop]at hr2;have hz1':=HZ.o;have hf3:=HF3.o;obtain⟨f',rfl⟩:∃f',f=f'+1:=⟨f-1,by omega⟩
        have hC:zR (ts++[(t,(l.drop k).length)]) (lO (f'+1) (ts++[(t,(l.drop k).length)]).length (l.drop (k+z)))=toks l:=by
         rw[<-hcont.o,GY ZK.o X9.o ho,Km,ao,<-hr2];rfl
        go_step3;refine⟨rfl,⟨k+z,f',ts++[(t,(l.drop k).length)],_,_,_,_,_,_,_,_,_,_,_,_,_,_,_,_,_,_,_,_,_,_,_,_,_,_,_,_,_,_,_,_,_,_,_,_,_,_,_,_,_,_,_,_,_,_,_,_,_,_,_,_,_,_,_,_,_,_,rfl,by omega,by omega,hC,by rw[ao];have:=HF2.o;simp;omega,by rw[ao];exact hown3.o,B3.o⟩,?_⟩;simp[Uy,intOf];omega
       ·have hkind:t.kind=4:=by
         have h:(t.kind !=4)=false:=by assumption
         simpa using h
        have hq0:l.drop k=[]:=by
         by_cases e:l.drop k=[]
         ·exact e
         ·have h:=Jf.o;unfold Db at h;rw[if_neg e]at h;exact absurd hkind (N0 h)
        have ht:t=vO:=by
         have h:=Jf.o;rw[hq0]at h;injection h with h
         injection h with h1 h2
         exact h1.symm
        have HR:=qet (show toks l=.ok (ts++[(vO,0)]) by
         rw[<-hcont.o,hq0,Kk X9.o]
         rfl)
        have HO3:=hown3.o;rw[ht,hq0]at HO3;simp only[eB]
        first|rw[dU]|skip
        refine aU (v:=.tuple #[.slice (some ⟨gg,0,none⟩) (ts.length+1) cap',.agg #[.int .i64 0,.int .i64 0]]) ?_ rfl ⟨?_,?_⟩
        ·simp[aV,ee,go_sem,k0,k1]
        ·unfold uo;rw[HR.o];refine⟨_,rfl,?_⟩;rw[ao];exact Kl HO3 _ _
        ·exact(((aw w.heap.size w).alloc (aj _) F2).trans (B3.o.mono (dr _))).setCell (aj _) _ |>.setCell (aj _) _
    ·have hr2:=Fs B6;rw[List.drop_drop]at hr2;have j2:(0:Int)<(((l.drop k).length-r.length:Nat):Int):=by omega
     have j3:(((l.drop k).length-r.length:Nat):Int)<=65536:=by have:=HL.o;omega
     have HC2:=qet (show zR ts (lO (f+1) ts.length (l.drop (k+((l.drop k).length-r.length))))=toks l by rw[<-hcont.o,Ki OQ hne,<-hr2]);obtain⟨z,HZ⟩:∃z,qes ((l.drop k).length-r.length=z):=⟨_,rfl⟩
     rw[HZ.o]at j2 j3 HC2;simp only[HZ.o]at cg;have hkz:k+z<=l.length:=by have:=HZ.o;omega
     generalize(⟨(l.drop k).toArray⟩:ByteArray)=q at *;clear OQ hcont PX HX WD WE GW HG B6 hrl hr2 hne HZ;go_wp2_with fail;refine cg.mono ?_;rintro e w1 ⟨rfl,hw1⟩;subst hw1;go_wp2;go_step3;refine⟨rfl,⟨k+z,f,ts,lv,_,_,_,_,_,_,_,_,_,_,_,_,_,_,_,_,_,_,_,_,_,_,_,_,_,_,_,_,_,_,_,_,_,_,_,_,_,_,_,_,_,_,_,_,_,_,_,_,_,_,_,_,_,_,_,_,_,rfl,hkz,by have:=hh.o.2.1;omega,HC2.o,hh.o.2.2.2.1,hh.o.2.2.2.2.1,hh.o.2.2.2.2.2⟩,?_⟩;simp[Uy,intOf];omega
def sS(toks:List Tv)(at_:Nat)(w:World)(v:Value)(w':World):Prop:=Below w.heap.size w w'/\match lC (lst toks at_)with
 | .ok (l,q)=>∃bv,v=.tuple #[bv,.int .i64 ((toks.length-q.length:Nat):Int),.agg #[.int .i64 0,.int .i64 0]]/\iw l<=400/\lk w' Tt l bv
 | .error (k,cd)=>v=.tuple #[.slice none 0 0,.int .i64 0,.agg #[.int .i64 ((toks.length-k:Nat):Int),.int .i64 cd]]
theorem Ft{F:Nat}(h:w.heap[F]? =some KJ)(b:Nat):(((w.setCell ⟨F,0,none⟩ (.int .i64 0)).setCell ⟨F,1,none⟩ (.int .i64 0)).drew).heap[b]? =w.heap[b]? :=by
 show((w.setCell ⟨F,0,none⟩ (.int .i64 0)).setCell ⟨F,1,none⟩ (.int .i64 0)).heap[b]? =w.heap[b]?
 by_cases hb:b=F
 ·subst hb;rw[pP (pP h _),h];rfl
 ·have k:=((gR.refl [F] w).setCell (p:=⟨F,0,none⟩) (.inl (by simp)) (.int .i64 0)).setCell (p:=⟨F,1,none⟩) (.inl (by simp)) (.int .i64 0)
  by_cases hl:b<w.heap.size
  ·exact k.block b hl (by simp[hb])
  ·rw[Array.getElem?_eq_none (by rw[bO,bO];omega),Array.getElem?_eq_none (by omega)]
theorem uq{tv:Value}{toks:List Tv}{at_:Nat}{t0 t1 t2 t3:Addr}(hl:ku w tv toks)(htk:JE toks)(hat:at_<=toks.length)(qJ:kZ w)(hS:Sc t0 t1 t2 t3 w):Calls ah 10 #[tv,.int .i64 (at_:Int)] w fun e w'=>∃v,e=.returned v/\sS toks at_ w v w':=by
 have CA:qes (Calls ah 24 #[.pointer (some ⟨w.heap.size+2,0,none⟩)] (w7 w tv at_) fun e w'=>∃v,e=.returned v/\Below w.heap.size w w'/\w'.heap[w.heap.size]? =some KJ/\Sc t0 t1 t2 t3 w'/\Ul (w.heap.size+2) t0 t1 t2 t3 toks at_ v w'):=by
  have hb:=Fb w tv at_;have hS':=hS.below hb;have hle:(lst toks at_).length<=toks.length:=by rw[iM];exact Nat.sub_le _ _
  obtain⟨q1,q2⟩:=Wr toks.length (lst toks at_) hle;refine(Qs (Uk hl htk hat qJ hS) q1 q2 hS'.e2 hS'.e3).mono ?_;rintro e w' ⟨v,rfl,hq,hr⟩;have ho:=Zw (c:=cx7 w t0 t1 tv toks) rfl hat hq hr;obtain⟨O',z,hz,hG,_⟩:=hq;have hsz:=IK w tv at_;have hbl:Below w.heap.size w w':=⟨hG.keep.os.trans hb.os,hG.keep.tape.trans hb.tape,hG.keep.output.trans hb.output,aP hb.size hG.keep.size,fun b hlt=>(hG.keep.block b (by omega) (by simp;omega)).trans (hb.block b hlt)⟩
  exact⟨v,rfl,hbl,(hG.keep.block w.heap.size (by omega) (by simp)).trans (Zt w tv at_),hS.below hbl,ho⟩
 obtain⟨a,b,off,cap,rfl,_,_⟩:=hl;have i0:¬ (at_:Int)<0:=by omega
 have i1:¬ (toks.length:Int)<(at_:Int):=by omega
 have HAT:=qet hat;clear htk qJ hS hat;unfold w7 mb at CA;go_enter Tryz.func10,Tryz.ntmps10;go_wp2_with fail;have t24:=CA.o;clear CA;refine t24.mono ?_;rintro e w4 ⟨v,rfl,hb4,hf4,hS4,ho⟩;have HB4:=qet hb4;clear t24 hb4;have f0:w4.cell? ⟨w.heap.size,0,none⟩=some (.int .i64 0):=by rw[af hf4];rfl
 have f1:w4.cell? ⟨w.heap.size,1,none⟩=some (.int .i64 0):=by rw[af hf4];rfl
 have z0:=aC hf4 0;have z1:=aC hf4 1;have HF4:=qet hf4;clear hf4;obtain⟨F,hF⟩:∃F,F=w.heap.size:=⟨_,rfl⟩
 obtain⟨R,hR⟩:∃R,R=w.heap.size+2:=⟨_,rfl⟩
 have nFR:F≠R:=by omega
 have nRF:R≠F:=by omega
 rw[<-hR]at ho ⊢;rw[<-hF]at f0 f1 z0 z1 HF4 ⊢;have HF:=qet hF;clear hF hR
 rcases ho with ho|ho|ho|ho|ho
 ·
  obtain⟨rfl,k,hp,c1⟩:=ho;have HP:=qet hp;clear hp;have s0:=is_same t0 w4;have e0:=hS4.e0;have e1:=hS4.e1;have e2:=hS4.e2;have e3:=hS4.e3;clear hS4
  have HQ:qes (∀W,Below w.heap.size w W->sS toks at_ w (.tuple #[.slice none 0 0,.int .i64 0,.agg #[.int .i64 ((toks.length-k:Nat):Int),.int .i64 70]]) W):=fun W hW=>by
   refine⟨hW,?_⟩;rw[HP.o]
  generalize((toks.length-k:Nat):Int)=kk at *;go_wp2_with fail;refine s0.mono ?_;rintro e w5 ⟨rfl,rfl⟩;clear s0;go_wp2
  go_region_with (fail)
  all_goals
   go_wp2;refine aU (v:=.tuple #[.slice none 0 0,.int .i64 0,.agg #[.int .i64 kk,.int .i64 70]]) ?_ rfl ⟨_,rfl,HQ.o _ ?_⟩
   ·simp[aV,eg,go_sem,f0,f1]
   ·exact((HB4.o.setCell (p:=⟨F,0,none⟩) (dc HF.o.symm) _).setCell (p:=⟨F,1,none⟩) (dc HF.o.symm) _).drew
 ·
  obtain⟨rfl,k,cd,hp,c5,c6⟩:=ho;have HP:=qet hp;clear hp;have s0:=qN hS4.n10 hS4.b1 hS4.b0;have s1:=is_same t1 w4;have e0:=hS4.e0;have e1:=hS4.e1;have e2:=hS4.e2;have e3:=hS4.e3;clear hS4
  have HQ:qes (∀W,Below w.heap.size w W->sS toks at_ w (.tuple #[.slice none 0 0,.int .i64 0,.agg #[.int .i64 ((toks.length-k:Nat):Int),.int .i64 cd]]) W):=fun W hW=>by
   refine⟨hW,?_⟩;rw[HP.o]
  generalize((toks.length-k:Nat):Int)=kk at *;go_wp2_with fail;refine s0.mono ?_;rintro e w5 ⟨rfl,rfl⟩;clear s0;go_wp2_with fail;refine s1.mono ?_;rintro e w5 ⟨rfl,rfl⟩;clear s1;go_wp2
  go_region_with (fail)
  all_goals
   go_wp2;refine aU (v:=.tuple #[.slice none 0 0,.int .i64 0,.agg #[.int .i64 kk,.int .i64 cd]]) ?_ rfl ⟨_,rfl,HQ.o _ ?_⟩
   ·simp[aV,eg,go_sem,f0,f1]
   ·exact((HB4.o.setCell (p:=⟨F,0,none⟩) (dc HF.o.symm) _).setCell (p:=⟨F,1,none⟩) (dc HF.o.symm) _).drew
 ·
  obtain⟨rfl,k,hp,c7⟩:=ho;have HP:=qet hp;clear hp;have s0:=qN hS4.n20 hS4.b2 hS4.b0;have s1:=qN hS4.n21 hS4.b2 hS4.b1;have s2:=is_same t2 w4;have e0:=hS4.e0;have e1:=hS4.e1;have e2:=hS4.e2;have e3:=hS4.e3;clear hS4
  have HQ:qes (∀W,Below w.heap.size w W->sS toks at_ w (.tuple #[.slice none 0 0,.int .i64 0,.agg #[.int .i64 ((toks.length-k:Nat):Int),.int .i64 2]]) W):=fun W hW=>by
   refine⟨hW,?_⟩;rw[HP.o]
  generalize((toks.length-k:Nat):Int)=kk at *;go_wp2_with fail;refine s0.mono ?_;rintro e w5 ⟨rfl,rfl⟩;clear s0;go_wp2_with fail;refine s1.mono ?_;rintro e w5 ⟨rfl,rfl⟩;clear s1;go_wp2_with fail;refine s2.mono ?_;rintro e w5 ⟨rfl,rfl⟩;clear s2;go_wp2
  go_region_with (fail)
  all_goals
   go_wp2;refine aU (v:=.tuple #[.slice none 0 0,.int .i64 0,.agg #[.int .i64 kk,.int .i64 2]]) ?_ rfl ⟨_,rfl,HQ.o _ ?_⟩
   ·simp[aV,eg,go_sem,f0,f1]
   ·exact((HB4.o.setCell (p:=⟨F,0,none⟩) (dc HF.o.symm) _).setCell (p:=⟨F,1,none⟩) (dc HF.o.symm) _).drew
 ·
  obtain⟨rfl,k,hp,hk⟩:=ho;have HP:=qet hp;clear hp;have s0:=qN hS4.n30 hS4.b3 hS4.b0;have s1:=qN hS4.n31 hS4.b3 hS4.b1;have s2:=qN hS4.n32 hS4.b3 hS4.b2;have s3:=is_same t3 w4;have e0:=hS4.e0;have e1:=hS4.e1;have e2:=hS4.e2;have e3:=hS4.e3;clear hS4;have HK:=qet hk;clear hk
  have HQ:qes (∀W,Below w.heap.size w W->sS toks at_ w (.tuple #[.slice none 0 0,.int .i64 0,.agg #[.int .i64 (at_:Int),.int .i64 2]]) W):=fun W hW=>by
   refine⟨hW,?_⟩;rw[HP.o];simp only;rw[HK.o]
  go_wp2_with fail;refine s0.mono ?_;rintro e w5 ⟨rfl,rfl⟩;clear s0;go_wp2_with fail;refine s1.mono ?_;rintro e w5 ⟨rfl,rfl⟩;clear s1;go_wp2_with fail;refine s2.mono ?_;rintro e w5 ⟨rfl,rfl⟩;clear s2;go_wp2_with fail;refine s3.mono ?_;rintro e w5 ⟨rfl,rfl⟩;clear s3;go_wp2;refine aU (v:=.tuple #[.slice none 0 0,.int .i64 0,.agg #[.int .i64 (at_:Int),.int .i64 2]]) ?_ rfl ⟨_,rfl,HQ.o _ ?_⟩
  ·simp[aV,eg,go_sem,f0,f1]
  ·exact((HB4.o.setCell (p:=⟨F,0,none⟩) (dc HF.o.symm) _).setCell (p:=⟨F,1,none⟩) (dc HF.o.symm) _)
 ·
  obtain⟨rfl,l,q,g2,cap2,bv,hp,hcn,c1,c2,c3,hsl⟩:=ho;have HP:=qet hp;clear hp;have s0:=is_nil t0 w4;have s1:=is_nil t1 w4;have s2:=is_nil t2 w4;have s3:=is_nil t3 w4;have e0:=hS4.e0;have e1:=hS4.e1;have e2:=hS4.e2;have e3:=hS4.e3;clear hS4;have ZM:=qet hcn;have HSL:=qet hsl;clear hcn hsl
  have HQ:qes (∀W,Below w.heap.size w W->(∀b:Nat,W.heap[b]? =w4.heap[b]?)->sS toks at_ w (.tuple #[bv,.int .i64 ((toks.length-q.length:Nat):Int),.agg #[.int .i64 0,.int .i64 0]]) W):=fun W hW hW4=>by
   refine⟨hW,?_⟩;rw[HP.o];exact⟨bv,rfl,ZM.o,HSL.o.on (fun b _ _=>⟨trivial,hW4 b⟩)⟩
  generalize((toks.length-q.length:Nat):Int)=kk at *;go_wp2_with fail;refine s0.mono ?_;rintro e w5 ⟨rfl,rfl⟩;clear s0;go_wp2_with fail;refine s1.mono ?_;rintro e w5 ⟨rfl,rfl⟩;clear s1;go_wp2_with fail;refine s2.mono ?_;rintro e w5 ⟨rfl,rfl⟩;clear s2;go_wp2_with fail;refine s3.mono ?_;rintro e w5 ⟨rfl,rfl⟩;clear s3;obtain⟨ab,nb,pb,rfl⟩:=HSL.o.shape;go_wp2
  go_region_with (fail)
  all_goals
   go_wp2;refine aU (v:=.tuple #[.slice ab nb pb,.int .i64 kk,.agg #[.int .i64 0,.int .i64 0]]) ?_ rfl ⟨_,rfl,HQ.o _ ?_ ?_⟩
   ·simp[aV,eg,go_sem,f0,f1]
   ·exact((HB4.o.setCell (p:=⟨F,0,none⟩) (dc HF.o.symm) _).setCell (p:=⟨F,1,none⟩) (dc HF.o.symm) _).drew
   ·exact Ft HF4.o
theorem Dc{l:List St}(h:mL l=true)(q:List Tk)(hq:∀r:Rs,r.rest=q->qk r=false):lC (iV l++q)=.ok (l,q):=by
 unfold mL at h;rw[aH,decide_eq_true_eq]at h;obtain⟨r,g,e1,e2,e3,e4⟩:=mW l (fun s hs=>(Cc s).1) 1 (AM (iV l++q)) q _ [] h.2 rfl rfl (by simp[st0]);rw[pz _ _ rfl (by simp[st0])]at e2
 have ht:turn r=none:=by
  unfold turn;rw[hq r e1,if_neg (by decide),if_neg (by rw[e2];simp)]
 have hrun:=Eu g ht ((iV l++q).length+1) (by show(iV l++q).length<_;omega);unfold lC;rw[hrun];simp only[]
 have hd:mZ r.gY []=none:=by
  apply wj;rw[e4];exact Bc l 1 0 (-1) false [] h.2 rfl rfl (.inl rfl)
 rw[hd];simp only[]
 have hlen:r.gY.length=iw l:=by
  have:=congrArg fp e4;rw[ao,aQ,rz]at this
  simpa[AM]using this
 rw[if_neg (by
  intro hc
  rcases hc with hc|hc
  ·rw[e3]at hc;cases hc
  ·omega),e1,e2]
 rfl
def Sj:Bs:=[105,102,32,97,32,116,104,101,110,32,120,32,58,61,32,49,59,32,101,108,115,105,102,32,98,32,116,104,101,110,32,101,120,105,116,59,32,101,110,100,95,105,102,59]
def exB:St:={st0 with kind:=1,name:=[88],x:=[uz 1 0]}
def exE:St:={st0 with kind:=8}
def ZN:St:={st0 with kind:=2,x:=[FP [66]],body:=[exE]}
def exS:St:={st0 with kind:=2,x:=[FP [65]],body:=[exB],els:=[ZN]}
def ZO(p q:Tk):Bool:=decide (p.kind=q.kind)&&decide (p.s=q.s)&&decide (p.n=q.n)&&decide (p.ty=q.ty)
theorem Uz{p q:Tk}(h:ZO p q=true):p=q:=by
 obtain⟨a,b,c,d⟩:=p;obtain⟨a',b',c',d'⟩:=q;unfold ZO at h;simp only[aH,decide_eq_true_eq]at h;obtain⟨⟨⟨h1,h2⟩,h3⟩,h4⟩:=h;subst h1 h2 h3 h4;rfl
def Kn:List Tk->List Tk->Bool
 |[],[]=>true
 |p::x,q::y=>ZO p q&&Kn x y
 |_,_=>false
theorem IQ:∀ {x y:List Tk},Kn x y=true->x=y
 |[],[],_=>rfl
 |[],q::y,h=>by simp[Kn]at h
 |p::x,[],h=>by simp[Kn]at h
 |p::x,q::y,h=>by
  unfold Kn at h;rw[aH]at h;rw[Uz h.1,IQ h.2]
def Sk:Bool:=match toks Sj with
 | .ok ts=>Kn (ts.map (·.1)) (iV [exS]++[vO])&&decide (ts.length<=1000)&&ts.all (fun t=>decide (t.1.s.length<=1000)&&decide (-1000<=t.1.n)&&decide (t.1.n<=1000))
 | .error _=>false
theorem UA:Sk=true:=by kernel_rfl
theorem Sn:mL [exS]=true:=by kernel_rfl
theorem QM:∃ts,toks Sj=.ok ts/\ts.map (·.1)=iV [exS]++[vO]/\ts.length<=1000/\∀t∈ts,t.1.s.length<=1000/\ -1000<=t.1.n/\t.1.n<=1000:=by
 have h:=UA;unfold Sk at h
 split at h
 ·next ts hts=>
  rw[aH,aH,decide_eq_true_eq]at h;refine⟨ts,hts,IQ h.1.1,h.1.2,fun t ht=>?_⟩;have:=eZ.1 h.2 t ht;rw[aH,aH,decide_eq_true_eq,decide_eq_true_eq,decide_eq_true_eq]at this;exact⟨this.1.1,this.1.2,this.2⟩
 ·cases h
theorem N2:lC (iV [exS]++[vO])=.ok ([exS],[vO]):=Dc Sn [vO] (fun r hr=>by unfold qk;rw[hr];rfl)
theorem IS(L:Nat):∀ts:List (Tk×Nat),AF L ts=kJ (ts.map (DK L))
 |[]=>rfl
 |x::ts=>by
  show X8 L x++AF L ts=RA (DK L x)++kJ (ts.map (DK L));rw[IS L ts];rfl
theorem QN(L:Nat)(ts:List (Tk×Nat)):lst (ts.map (DK L)) 0=ts.map (·.1):=by
 unfold lst;rw[List.drop_zero,List.map_map];refine List.map_congr_left fun x _=>?_
 obtain⟨⟨a,b,c,d⟩,n⟩:=x;simp[DK,kU]
theorem G2{l:List Tv}(hl:l.length<=900000000)(h:∀x∈l,x.s.size<=140737488355000/\ -9223372036854775808<=x.n/\x.n<=9223372036854775807):JE l:=by
 have key:∀i,(gQ l i).s.size<=140737488355000/\ -9223372036854775808<=(gQ l i).n/\(gQ l i).n<=9223372036854775807:=fun i=>by
  unfold gQ;rw[List.getD_eq_getElem?_getD]
  cases hq:l[i]? with
  |none=>decide
  |some y=>exact h y (List.mem_of_getElem? hq)
 exact⟨hl,fun i=>(key i).1,fun i=>(key i).2⟩
theorem Ko{F:Nat}(h:w.heap[F]? =some KJ)(b:Nat):((w.setCell ⟨F,0,none⟩ (.int .i64 0)).setCell ⟨F,1,none⟩ (.int .i64 0)).heap[b]? =w.heap[b]? :=Ft h b
theorem N3(w:World)(hv:Vs w):Calls ah 29 #[.string ⟨#[105,102,32,97,32,116,104,101,110,32,120,32,58,61,32,49,59,32,101,108,115,105,102,32,98,32,116,104,101,110,32,101,120,105,116,59,32,101,110,100,95,105,102,59]⟩] w fun e w'=>∃v,e=.returned (.tuple #[v,.bool true])/\lk w' Tt [exS] v/\Below w.heap.size w w':=by
 have t1:=G1 Sj (by decide) w hv.tG;rw[show(⟨Sj.toArray⟩:ByteArray)=⟨#[105,102,32,97,32,116,104,101,110,32,120,32,58,61,32,49,59,32,101,108,115,105,102,32,98,32,116,104,101,110,32,101,120,105,116,59,32,101,110,100,95,105,102,59]⟩from rfl]at t1;obtain⟨ts,hts,N4,hlen,hall⟩:=QM;have HV:=qet hv;obtain⟨S,hS⟩:∃S:ByteArray,S=⟨#[105,102,32,97,32,116,104,101,110,32,120,32,58,61,32,49,59,32,101,108,115,105,102,32,98,32,116,104,101,110,32,101,120,105,116,59,32,101,110,100,95,105,102,59]⟩:=⟨_,rfl⟩
 rw[<-hS]at t1 ⊢
 have CP:qes (∀v W1,W1.ownsRow w.heap.size 54 5 v ts.length (AF Sj.length ts)->Below w.heap.size w W1->∃(a:Option Addr)(M cap:Nat),v=.slice a M cap/\1<=M/\M<=1000/\Calls ah 10 #[v,.int .i64 0] (W1.alloc KJ) fun e w'=>∃bv,e=.returned (.tuple #[bv,.int .i64 ((M:Int)-1),.agg #[.int .i64 0,.int .i64 0]])/\lk w' Tt [exS] bv/\Below W1.heap.size W1 w'/\w'.heap[W1.heap.size]? =some KJ):=fun v W1 hown hb=>by
  have hown2:W1.ownsRow w.heap.size 54 5 v (ts.map (DK Sj.length)).length (kJ (ts.map (DK Sj.length))):=by
   rw[aQ,<-IS];exact hown
  obtain⟨a,cap,hvv,_⟩:=ll hown;have hb1:Below W1.heap.size W1 (W1.alloc KJ):=(aw _ _).alloc (aj _) _;have hL:=(ku.oF hown2).below hb1 (aj _);have hvs:=(HV.o.below hb).below hb1;obtain⟨t0,t1,t2,t3,hs⟩:=hvs.X6
  have htk:JE (ts.map (DK Sj.length)):=G2 (by rw[aQ];omega) (fun x hx=>by
   obtain⟨t,ht,rfl⟩:=fB.1 hx;obtain⟨q1,q2,q3⟩:=hall t ht;have e:(⟨t.1.s.toArray⟩:ByteArray).size=t.1.s.length:=by simp[ByteArray.size]
   exact⟨by show(⟨t.1.s.toArray⟩:ByteArray).size<=_;omega,by show _<=t.1.n;omega,by show t.1.n<=_;omega⟩)
  have hsh:=congrArg fp N4;rw[aQ,ao,bY]at hsh;refine⟨a,ts.length,cap,hvv,by omega,hlen,(uq hL htk (Nat.zero_le _) hvs.tG hs).mono ?_⟩;rintro e w' ⟨bv,rfl,hq1,hq2⟩;rw[QN,N4,N2]at hq2;obtain⟨UB,rfl,_,hsl⟩:=hq2;refine⟨UB,?_,hsl,hb1.trans (hq1.mono hb1.size),(hq1.block _ (by rw[aB];omega)).trans (aE W1 _)⟩;rw[aQ,bY,show((ts.length-1:Nat):Int)=(ts.length:Int)-1 by omega]
 clear hv N4 hlen hall;have HTS:=qet hts;clear hts hS;go_enter Tryz.func29,Tryz.ntmps29;go_wp2_with fail;refine t1.mono ?_;rintro e w1 ⟨ho,hb1⟩;unfold uo at ho;rw[HTS.o]at ho;obtain⟨v,rfl,hown⟩:=ho;obtain⟨a,M,cap,rfl,m0,m1,t2⟩:=CP.o v w1 hown hb1;have HB1:=qet hb1;have i0:(1:Int)<=(M:Int):=by omega
 have i1:(M:Int)<=1000:=by omega
 clear t1 hown hb1 CP HTS;go_wp2_with fail;refine t2.mono ?_;rintro e w2 ⟨bv,rfl,hsl,hb2,hf2⟩;have f0:w2.cell? ⟨w1.heap.size,0,none⟩=some (.int .i64 0):=by rw[af hf2];rfl
 have f1:w2.cell? ⟨w1.heap.size,1,none⟩=some (.int .i64 0):=by rw[af hf2];rfl
 have z0:∀j,w2.frozen? ⟨w1.heap.size,j,none⟩=false:=fun j=>aC hf2 j
 obtain⟨ab,nb,pb,rfl⟩:=hsl.shape;have HSL:=qet hsl;have HF2:=qet hf2;have HB2:=qet hb2;clear t2 hsl hb2 hf2;go_wp2;go_ret2;refine⟨_,rfl,HSL.o.on (fun b _ _=>⟨trivial,Ko HF2.o b⟩),?_⟩;have h1:=HB1.o.trans (HB2.o.mono HB1.o.size);exact(h1.setCell (p:=⟨w1.heap.size,0,none⟩) HB1.o.size _).setCell (p:=⟨w1.heap.size,1,none⟩) HB1.o.size _
def Wt(B:Nat)(w:World)(v:Value)(ls:List (List St)):Prop:=∃cs,w.ownsRow B 24 1 v ls.length cs/\∀(i:Nat)(l:List St)(u:Value),ls[i]? =some l->cs[i]? =some u->lk w (fun b=>b<B) l u
def zS(l:List St):List (List St):=if l.isEmpty then []else [l]
def jz:List (List Int×List St)->List (List St)
 |[]=>[]
 |a::l=>zS a.2++jz l
def pH(s:St):List (List St):=zS s.body++(zS s.els++jz s.arms)
theorem On.lt(h:Below B w w'):On (fun b=>b<B) (fun b=>b<B) w w':=fun b hb _=>⟨hb,h.block b hb⟩
variable {ls:List (List St)}
theorem Wt.add{v':Value}{cs:List Value}{l:List St}{u:Value}(hr:∀(i:Nat)(l:List St)(u:Value),ls[i]? =some l->cs[i]? =some u->lk w (fun b=>b<B) l u)(hcs:cs.length=ls.length*1)(hu:lk w (fun b=>b<B) l u)(hb:Below B w w')(ho:w'.ownsRow B 24 1 v' (ls.length+1) (cs++[u])):Wt B w' v' (ls++[l]):=by
 refine⟨cs++[u],by rw[ao];exact ho,fun i l' u' h1 h2=>?_⟩
 by_cases hi:i<ls.length
 ·rw[List.getElem?_append_left hi]at h1;rw[List.getElem?_append_left (by omega)]at h2;exact(hr i l' u' h1 h2).on (On.lt hb)
 ·rw[List.getElem?_append_right (by omega)]at h1;rw[List.getElem?_append_right (by omega),hcs,Nat.mul_one]at h2
  cases hj:i-ls.length with
  |zero=>
   rw[hj]at h1 h2;obtain rfl:l=l':=an h1;obtain rfl:u=u':=an h2;exact hu.on (On.lt hb)
  |succ j=>rw[hj]at h1;cases h1
theorem in24:(ah.info? 24).map (fun i=>(i.zero,i.size,i.bytes))=some (some (.slice none 0 0),1,24):=by kernel_rfl
theorem N5(h:w.ownsRow base e size v n xs)(hb:Below w.heap.size w w'):w'.ownsRow base e size v n xs:=by
 refine⟨h.1,h.2.imp id fun⟨g,cap,cur,r1,r2,r3,r⟩=>⟨g,cap,cur,r1,r2,?_,r⟩⟩;rw[hb.block g (lt_of_heap r3)];exact r3
theorem len1{α:Type}(l:List α)(a:α):(l++[a]).length=l.length+1:=by simp
theorem nS(w:World)(A C:Obj):((w.alloc A).alloc C).heap[w.heap.size+1]? =some C:=by
 have:=aE (w.alloc A) C;rw[aB]at this;exact this
theorem Wt.below(h:Wt B w v ls)(hb:Below w.heap.size w w')(hB:B<=w.heap.size):Wt B w' v ls:=by
 obtain⟨cs,h1,h2⟩:=h;exact⟨cs,N5 h1 hb,fun i l u e1 e2=>(h2 i l u e1 e2).on (On.lt (hb.mono hB))⟩
theorem vH(ar:List (List Int×List St)){a:List Int×List St}(h:ar[k]? =some a):jz (ar.take (k+1))=jz (ar.take k)++zS a.2:=by
 induction ar generalizing k with
 |nil=>cases h
 |cons x ar ih=>
  cases k with
  |zero=>
   obtain rfl:x=a:=an h;simp[jz]
  |succ k=>
   rw[bF,bF,jz,jz,ih h,aO]
theorem rM{l:List St}(h:l.length=0):zS l=[]:=by
 obtain rfl:l=[]:=cu h;rfl
theorem pI{l:List St}(h:0<l.length):zS l=[l]:=by
 cases l with
 |nil=>exact absurd h (Nat.lt_irrefl _)
 |cons a l=>rfl
theorem one_le(l:List St):(zS l).length<=iw l:=by
 cases l with
 |nil=>exact aj _
 |cons a l=>show 1<=_;rw[iw,j9];omega
theorem zT:∀l:List (List Int×List St),(jz l).length<=kM l
 |[]=>aj _
 |(ls,b)::l=>by
  have:=zT l;have:=one_le b;show(zS b++jz l).length<=_;rw[ao,kM,sd];omega
theorem QO(ar:List (List Int×List St))(k:Nat):(jz (ar.take k)).length<=kM ar:=by
 have:∀(l:List (List Int×List St))(k:Nat),(jz (l.take k)).length<=(jz l).length:=fun l=>by
  induction l with
  |nil=>intro k;simp[jz]
  |cons a l ih=>intro k;cases k with
   |zero=>simp[jz]
   |succ k=>rw[bF,jz,jz,ao,ao];have:=ih k;omega
 exact aP (this _ k) (zT ar)
theorem grown_below{row:Option Nat}(hg:w.grownBy w' row)(hB:B<=w.heap.size)(hr:∀k,row=some k->B<=k):Below B w w':=(aw B w).grown hg hB hr
theorem jx{ops:Array Oper}{rest:List Oper}{o:Oper}{a:Act}{Q:Exit->Act->World->Prop}(hgd:o.guard=none)(s x:Operand)
  (ho:o.op=.call {callee:=.builtin .append,args:=#[s,x],argTypes:=#[97,97]}) (B:Nat) (v:Value) (ls:List (List St)) (hs:a.eval s=v) (hW:Wt B w v ls) (g:Nat) (u:Value) (l:List St) (hx:a.eval x=.slice (some ⟨g,0,none⟩) 1 1) (hg:w.heap[g]? =some (.cells #[u] 24)) (hu:lk w (fun b=>b<B) l u) (hl:ls.length<=2000000000) (hB:B<=w.heap.size)
  (h:∀v' w',Wt B w' v' (ls++[l])->w.grownBy w' v.ownBlock->Below B w w'->wpList ah ops Q rest (a.put o.dst v') w'):wpList ah ops Q (o::rest) a w:=by
 obtain⟨i0,hi,hz0,hz1,hz2⟩:=info_parts in24;obtain⟨cs,ho1,hr⟩:=hW
 have h1:u.oneCell'=true:=by
  obtain⟨a2,n2,c2,rfl⟩:=hu.shape;rfl
 refine dC w hgd s x 97 ho B 24 i0 (.slice none 0 0) 1 24 Tryz.underlying97 hi hz0 hz1 hz2 rfl (by decide) v ls.length cs hs ho1 ⟨g,0,none⟩ 1 1 [u] hx rfl (bf (cs:=#[u]) (t:=24) (fr:=(0,0)) hg) (by intro y hy;rw[aL.1 hy];exact h1) (by unfold ff;omega) (by omega) hB (fun v3 w3 hown3 hgrow3 _=>?_);have hb:=grown_below hgrow3 hB (fun k hk=>(ho1.lt k hk).1);exact h v3 w3 (Wt.add hr ho1.1 hu hb hown3) hgrow3 hb
theorem Wt.hold{X:Nat}{c:Array Value}(h:Wt B w v ls)(hX:w.heap[X]? =some (.cells c 48)):v.ownBlock≠some X:=by
 obtain⟨cs,h1,_⟩:=h
 rcases h1.2 with⟨rfl,_⟩|⟨g,cap,cur,rfl,_,hg,_⟩
 ·intro e;cases e
 ·intro e;simp[bw]at e;subst e;rw[hg]at hX;injection hX with hX
  injection hX with _ h2
  cases h2
theorem wI(B:Nat)(s:St)(nv:ByteArray)(iv xv yv bv ev av gv v:Value)(ls:List (List St))(w:World)(hB:B<=w.heap.size)(hW:Wt B w v ls)(hlen:ls.length+jY s<=2000000000)(hb:lk w (fun b=>b<B) s.body bv)(he:lk w (fun b=>b<B) s.els ev)(ha:DL w (fun b=>b<B) s.arms av):
  Calls ah 50 #[v,.agg #[.int .i64 s.kind,.string nv,iv,xv,yv,.int .i64 s.gT,bv,ev,av,gv]] w fun e w'=>∃v',e=.returned v'/\Wt B w' v' (ls++pH s)/\Below B w w':=by
 have hcs:=j9 s;have l1:=one_le s.body;have l2:=one_le s.els;have l3:=zT s.arms;have HU:qes (∀k,(jz (s.arms.take k)).length<=kM s.arms):=QO s.arms;have Wb:=qet hb;have ZP:=qet he;have hBx:=(aw w.heap.size w).alloc (aj _) (.cells #[.int .i64 s.kind,.string nv,iv,xv,yv,.int .i64 s.gT,bv,ev,av,gv] 48);have hW0:=hW.below hBx hB;obtain⟨csb,slb,_⟩:=hb;obtain⟨cse,sle,_⟩:=he;obtain⟨Ya,sla,har⟩:=ha;obtain⟨ab,bb,ob,pb,rfl,hnb,hab,hcb⟩:=slb.shape;obtain⟨ae,be,oe,pe,rfl,hne,hae,hce⟩:=sle.shape;obtain⟨aa,ba,oa,pa,rfl,hna,QP,hca⟩:=sla.shape;have HC:=qet hca;have HR:=qet har
 have za:qes (0<s.arms.length->ba<B):=fun h=>by
  obtain⟨a,b,off,cap,e1,_,_,e4,_⟩:=sla;have e2:=QP h;have e3:=(e4 h).2;injection e1 with ET
  rw[e2]at ET;rw[e3]at ET;injection ET with UC
  injection UC with UD
  rw[UD];exact(e4 h).1
 have hK:=aE w (.cells #[.int .i64 s.kind,.string nv,iv,xv,yv,.int .i64 s.gT,.slice ab s.body.length pb,.slice ae s.els.length pe,.slice aa s.arms.length pa,gv] 48);obtain⟨X,hX⟩:∃X,X=w.heap.size:=⟨_,rfl⟩
 obtain⟨w0,hw0⟩:∃w0,w0=w.alloc (.cells #[.int .i64 s.kind,.string nv,iv,xv,yv,.int .i64 s.gT,.slice ab s.body.length pb,.slice ae s.els.length pe,.slice aa s.arms.length pa,gv] 48):=⟨_,rfl⟩
 rw[<-hw0,<-hX]at hK;rw[<-hw0]at hW0 hBx;have ZQ:w0.heap.size=X+1:=by rw[hw0,hX];simp
 have HB0:=qet (hBx.mono hB);rw[<-hX]at hB;obtain⟨nb,UE⟩:∃nb,nb=s.body.length:=⟨_,rfl⟩
 obtain⟨ne,UF⟩:∃ne,ne=s.els.length:=⟨_,rfl⟩
 obtain⟨na,UG⟩:∃na,na=s.arms.length:=⟨_,rfl⟩
 rw[<-UE]at hnb hab hK Wb hw0 ⊢;rw[<-UF]at hne hae hK ZP hw0 ⊢;rw[<-UG]at hna QP hK za hw0 ⊢;have Bj:=qet UE;have qD:=qet UF;have Nf:=qet UG;have HW0:=qet hW0;have HK:=qet hK;subst hw0;subst hX;clear hab hae UE UF UG hcb hce hca har slb sle sla hW hW0 hK hBx;have f6:(w.alloc (.cells #[.int .i64 s.kind,.string nv,iv,xv,yv,.int .i64 s.gT,.slice ab nb pb,.slice ae ne pe,.slice aa na pa,gv] 48)).cell? ⟨w.heap.size,6,none⟩=some (.slice ab nb pb):=by rw[af HK.o];rfl
 have f7:(w.alloc (.cells #[.int .i64 s.kind,.string nv,iv,xv,yv,.int .i64 s.gT,.slice ab nb pb,.slice ae ne pe,.slice aa na pa,gv] 48)).cell? ⟨w.heap.size,7,none⟩=some (.slice ae ne pe):=by rw[af HK.o];rfl
 have f8:(w.alloc (.cells #[.int .i64 s.kind,.string nv,iv,xv,yv,.int .i64 s.gT,.slice ab nb pb,.slice ae ne pe,.slice aa na pa,gv] 48)).cell? ⟨w.heap.size,8,none⟩=some (.slice aa na pa):=by rw[af HK.o];rfl
 have tu:=qet hlen;have J4:=qet hcs;have L1:=qet l1;have L2:=qet l2;clear l1 l2 l3 hlen hcs hnb hne;go_enter Tryz.func50,Tryz.ntmps50;have G3:=HW0;have N6:=HB0;have wJ:=HK;have tD:qes (B<=(w.alloc (.cells #[.int .i64 s.kind,.string nv,iv,xv,yv,.int .i64 s.gT,.slice ab nb pb,.slice ae ne pe,.slice aa na pa,gv] 48)).heap.size):=by show _<=_;omega
 clear ZQ
 by_cases hb0:0<nb <;> by_cases he0:0<ne
 focus
  have i1:(0:Int)<(nb:Int):=by omega
  have pC:=pI (l:=s.body) (by rw[<-Bj.o];exact hb0);have i2:(0:Int)<(ne:Int):=by omega
  have hO2:=pI (l:=s.els) (by rw[<-qD.o];exact he0);have C1:qes (1<=iw s.body):=by show _<=_;have:=L1.o;rw[pC]at this;exact this
  have C2:qes (1<=iw s.els):=by show _<=_;have:=L2.o;rw[hO2]at this;exact this
  have ur:∀W:World,Below W.heap.size W (W.alloc (.cells #[.slice ab nb pb] 24)):=fun W=>(aw W.heap.size W).alloc (aj _) _
  have uu:∀W:World,Below W.heap.size W (W.alloc (.cells #[.slice ae ne pe] 24)):=fun W=>(aw W.heap.size W).alloc (aj _) _
  have G4:qes (ls++pH s=ls++[s.body]++[s.els]++jz s.arms):=by show _=_;unfold pH;rw[pC,hO2];simp
  clear pC hO2;go_wp2_with(at_builtin;go_must (first|(refine jx (by rfl) _ _ (by rfl) B v (ls) (by rfl) (G3.o.below (ur (w.alloc (.cells #[.int .i64 s.kind,.string nv,iv,xv,yv,.int .i64 s.gT,.slice ab nb pb,.slice ae ne pe,.slice aa na pa,gv] 48))) tD.o) _ (.slice ab nb pb) s.body (by rfl) (by first|exact aE _ _|exact nS _ _ _) ((Wb.o.on (On.lt HB0.o)).on (On.lt ((ur (w.alloc (.cells #[.int .i64 s.kind,.string nv,iv,xv,yv,.int .i64 s.gT,.slice ab nb pb,.slice ae ne pe,.slice aa na pa,gv] 48))).mono tD.o))) (by have:=tu.o;omega) (aP tD.o (ur (w.alloc (.cells #[.int .i64 s.kind,.string nv,iv,xv,yv,.int .i64 s.gT,.slice ab nb pb,.slice ae ne pe,.slice aa na pa,gv] 48))).size) ?_;intro v1 w1 hW1 hg1 hb1;have QQ:=qet hW1;have QR:=qet (N6.o.trans (((ur (w.alloc (.cells #[.int .i64 s.kind,.string nv,iv,xv,yv,.int .i64 s.gT,.slice ab nb pb,.slice ae ne pe,.slice aa na pa,gv] 48))).mono tD.o).trans hb1));have AG:qes (w1.heap[w.heap.size]? =some (.cells #[.int .i64 s.kind,.string nv,iv,xv,yv,.int .i64 s.gT,.slice ab nb pb,.slice ae ne pe,.slice aa na pa,gv] 48)):=(by show _=_;rw[hg1.block w.heap.size (aJ (lt_of_heap wJ.o) (ur (w.alloc (.cells #[.int .i64 s.kind,.string nv,iv,xv,yv,.int .i64 s.gT,.slice ab nb pb,.slice ae ne pe,.slice aa na pa,gv] 48))).size) (fun e=>G3.o.hold wJ.o e.symm)];exact((ur (w.alloc (.cells #[.int .i64 s.kind,.string nv,iv,xv,yv,.int .i64 s.gT,.slice ab nb pb,.slice ae ne pe,.slice aa na pa,gv] 48))).block w.heap.size (lt_of_heap wJ.o)).trans wJ.o);have G5:qes (B<=w1.heap.size):=aP tD.o (aP (ur (w.alloc (.cells #[.int .i64 s.kind,.string nv,iv,xv,yv,.int .i64 s.gT,.slice ab nb pb,.slice ae ne pe,.slice aa na pa,gv] 48))).size hg1.size);have ZR:w1.cell? ⟨w.heap.size,7,none⟩=some (.slice ae ne pe):=(by rw[af AG.o];rfl);have ZS:w1.cell? ⟨w.heap.size,8,none⟩=some (.slice aa na pa):=(by rw[af AG.o];rfl);clear hW1 hg1 hb1)|(refine jx (by rfl) _ _ (by rfl) B v1 (ls++[s.body]) (by rfl) (QQ.o.below (uu w1) G5.o) _ (.slice ae ne pe) s.els (by rfl) (by first|exact aE _ _|exact nS _ _ _) ((ZP.o.on (On.lt QR.o)).on (On.lt ((uu w1).mono G5.o))) (by have:=tu.o;have:=J4.o;have:=C1.o;rw[len1];omega) (aP G5.o (uu w1).size) ?_;intro v2 w2 hW2 hg2 hb2;have UH:=qet hW2;have UI:=qet (QR.o.trans (((uu w1).mono G5.o).trans hb2));have HKw2:qes (w2.heap[w.heap.size]? =some (.cells #[.int .i64 s.kind,.string nv,iv,xv,yv,.int .i64 s.gT,.slice ab nb pb,.slice ae ne pe,.slice aa na pa,gv] 48)):=(by show _=_;rw[hg2.block w.heap.size (aJ (lt_of_heap AG.o) (uu w1).size) (fun e=>QQ.o.hold AG.o e.symm)];exact((uu w1).block w.heap.size (lt_of_heap AG.o)).trans AG.o);have UJ:qes (B<=w2.heap.size):=aP G5.o (aP (uu w1).size hg2.size);have ZT:w2.cell? ⟨w.heap.size,8,none⟩=some (.slice aa na pa):=(by rw[af HKw2.o];rfl);clear hW2 hg2 hb2)));obtain⟨LS,gL⟩:∃LS,LS=ls++[s.body]++[s.els]:=⟨_,rfl⟩
  have KK:qes (LS.length<=ls.length+(iw s.body+iw s.els)):=by show _<=_;have:=C1.o;have:=C2.o;rw[gL];(try simp only[ao,aG,eY]);omega
  have gM:=UH;rw[<-gL]at gM;have Yo:qes (ls++pH s=LS++jz s.arms):=by show _=_;rw[gL];exact G4.o
  have hU:=UI;have ib:=HKw2;have hzz:=UJ;clear gL G4
 rotate_left
 focus
  have i1:(0:Int)<(nb:Int):=by omega
  have pC:=pI (l:=s.body) (by rw[<-Bj.o];exact hb0);have i2:¬ (0:Int)<(ne:Int):=by omega
  have hO2:=rM (l:=s.els) (by rw[<-qD.o];omega);have C1:qes (1<=iw s.body):=by show _<=_;have:=L1.o;rw[pC]at this;exact this
  have C2:qes (0<=iw s.els):=by show _<=_;have:=L2.o;rw[hO2]at this;exact this
  have ur:∀W:World,Below W.heap.size W (W.alloc (.cells #[.slice ab nb pb] 24)):=fun W=>(aw W.heap.size W).alloc (aj _) _
  have G4:qes (ls++pH s=ls++[s.body]++jz s.arms):=by show _=_;unfold pH;rw[pC,hO2];simp
  clear pC hO2;go_wp2_with(at_builtin;go_must (first|(refine jx (by rfl) _ _ (by rfl) B v (ls) (by rfl) (G3.o.below (ur (w.alloc (.cells #[.int .i64 s.kind,.string nv,iv,xv,yv,.int .i64 s.gT,.slice ab nb pb,.slice ae ne pe,.slice aa na pa,gv] 48))) tD.o) _ (.slice ab nb pb) s.body (by rfl) (by first|exact aE _ _|exact nS _ _ _) ((Wb.o.on (On.lt HB0.o)).on (On.lt ((ur (w.alloc (.cells #[.int .i64 s.kind,.string nv,iv,xv,yv,.int .i64 s.gT,.slice ab nb pb,.slice ae ne pe,.slice aa na pa,gv] 48))).mono tD.o))) (by have:=tu.o;omega) (aP tD.o (ur (w.alloc (.cells #[.int .i64 s.kind,.string nv,iv,xv,yv,.int .i64 s.gT,.slice ab nb pb,.slice ae ne pe,.slice aa na pa,gv] 48))).size) ?_;intro v1 w1 hW1 hg1 hb1;have QQ:=qet hW1;have QR:=qet (N6.o.trans (((ur (w.alloc (.cells #[.int .i64 s.kind,.string nv,iv,xv,yv,.int .i64 s.gT,.slice ab nb pb,.slice ae ne pe,.slice aa na pa,gv] 48))).mono tD.o).trans hb1));have AG:qes (w1.heap[w.heap.size]? =some (.cells #[.int .i64 s.kind,.string nv,iv,xv,yv,.int .i64 s.gT,.slice ab nb pb,.slice ae ne pe,.slice aa na pa,gv] 48)):=(by show _=_;rw[hg1.block w.heap.size (aJ (lt_of_heap wJ.o) (ur (w.alloc (.cells #[.int .i64 s.kind,.string nv,iv,xv,yv,.int .i64 s.gT,.slice ab nb pb,.slice ae ne pe,.slice aa na pa,gv] 48))).size) (fun e=>G3.o.hold wJ.o e.symm)];exact((ur (w.alloc (.cells #[.int .i64 s.kind,.string nv,iv,xv,yv,.int .i64 s.gT,.slice ab nb pb,.slice ae ne pe,.slice aa na pa,gv] 48))).block w.heap.size (lt_of_heap wJ.o)).trans wJ.o);have G5:qes (B<=w1.heap.size):=aP tD.o (aP (ur (w.alloc (.cells #[.int .i64 s.kind,.string nv,iv,xv,yv,.int .i64 s.gT,.slice ab nb pb,.slice ae ne pe,.slice aa na pa,gv] 48))).size hg1.size);have ZR:w1.cell? ⟨w.heap.size,7,none⟩=some (.slice ae ne pe):=(by rw[af AG.o];rfl);have ZS:w1.cell? ⟨w.heap.size,8,none⟩=some (.slice aa na pa):=(by rw[af AG.o];rfl);clear hW1 hg1 hb1)));obtain⟨LS,gL⟩:∃LS,LS=ls++[s.body]:=⟨_,rfl⟩
  have KK:qes (LS.length<=ls.length+(iw s.body+iw s.els)):=by show _<=_;have:=C1.o;have:=C2.o;rw[gL];(try simp only[ao,aG,eY]);omega
  have gM:=QQ;rw[<-gL]at gM;have Yo:qes (ls++pH s=LS++jz s.arms):=by show _=_;rw[gL];exact G4.o
  have hU:=QR;have ib:=AG;have hzz:=G5;clear gL G4
 rotate_left
 focus
  have i1:¬ (0:Int)<(nb:Int):=by omega
  have pC:=rM (l:=s.body) (by rw[<-Bj.o];omega);have i2:(0:Int)<(ne:Int):=by omega
  have hO2:=pI (l:=s.els) (by rw[<-qD.o];exact he0);have C1:qes (0<=iw s.body):=by show _<=_;have:=L1.o;rw[pC]at this;exact this
  have C2:qes (1<=iw s.els):=by show _<=_;have:=L2.o;rw[hO2]at this;exact this
  have uu:∀W:World,Below W.heap.size W (W.alloc (.cells #[.slice ae ne pe] 24)):=fun W=>(aw W.heap.size W).alloc (aj _) _
  have G4:qes (ls++pH s=ls++[s.els]++jz s.arms):=by show _=_;unfold pH;rw[pC,hO2];simp
  clear pC hO2;go_wp2_with(at_builtin;go_must (first|(refine jx (by rfl) _ _ (by rfl) B v (ls) (by rfl) (G3.o.below (uu (w.alloc (.cells #[.int .i64 s.kind,.string nv,iv,xv,yv,.int .i64 s.gT,.slice ab nb pb,.slice ae ne pe,.slice aa na pa,gv] 48))) tD.o) _ (.slice ae ne pe) s.els (by rfl) (by first|exact aE _ _|exact nS _ _ _) ((ZP.o.on (On.lt N6.o)).on (On.lt ((uu (w.alloc (.cells #[.int .i64 s.kind,.string nv,iv,xv,yv,.int .i64 s.gT,.slice ab nb pb,.slice ae ne pe,.slice aa na pa,gv] 48))).mono tD.o))) (by have:=tu.o;have:=J4.o;have:=C1.o;omega) (aP tD.o (uu (w.alloc (.cells #[.int .i64 s.kind,.string nv,iv,xv,yv,.int .i64 s.gT,.slice ab nb pb,.slice ae ne pe,.slice aa na pa,gv] 48))).size) ?_;intro v2 w2 hW2 hg2 hb2;have UH:=qet hW2;have UI:=qet (N6.o.trans (((uu (w.alloc (.cells #[.int .i64 s.kind,.string nv,iv,xv,yv,.int .i64 s.gT,.slice ab nb pb,.slice ae ne pe,.slice aa na pa,gv] 48))).mono tD.o).trans hb2));have HKw2:qes (w2.heap[w.heap.size]? =some (.cells #[.int .i64 s.kind,.string nv,iv,xv,yv,.int .i64 s.gT,.slice ab nb pb,.slice ae ne pe,.slice aa na pa,gv] 48)):=(by show _=_;rw[hg2.block w.heap.size (aJ (lt_of_heap wJ.o) (uu (w.alloc (.cells #[.int .i64 s.kind,.string nv,iv,xv,yv,.int .i64 s.gT,.slice ab nb pb,.slice ae ne pe,.slice aa na pa,gv] 48))).size) (fun e=>G3.o.hold wJ.o e.symm)];exact((uu (w.alloc (.cells #[.int .i64 s.kind,.string nv,iv,xv,yv,.int .i64 s.gT,.slice ab nb pb,.slice ae ne pe,.slice aa na pa,gv] 48))).block w.heap.size (lt_of_heap wJ.o)).trans wJ.o);have UJ:qes (B<=w2.heap.size):=aP tD.o (aP (uu (w.alloc (.cells #[.int .i64 s.kind,.string nv,iv,xv,yv,.int .i64 s.gT,.slice ab nb pb,.slice ae ne pe,.slice aa na pa,gv] 48))).size hg2.size);have ZT:w2.cell? ⟨w.heap.size,8,none⟩=some (.slice aa na pa):=(by rw[af HKw2.o];rfl);clear hW2 hg2 hb2)));obtain⟨LS,gL⟩:∃LS,LS=ls++[s.els]:=⟨_,rfl⟩
  have KK:qes (LS.length<=ls.length+(iw s.body+iw s.els)):=by show _<=_;have:=C1.o;have:=C2.o;rw[gL];(try simp only[ao,aG,eY]);omega
  have gM:=UH;rw[<-gL]at gM;have Yo:qes (ls++pH s=LS++jz s.arms):=by show _=_;rw[gL];exact G4.o
  have hU:=UI;have ib:=HKw2;have hzz:=UJ;clear gL G4
 rotate_left
 focus
  have i1:¬ (0:Int)<(nb:Int):=by omega
  have pC:=rM (l:=s.body) (by rw[<-Bj.o];omega);have i2:¬ (0:Int)<(ne:Int):=by omega
  have hO2:=rM (l:=s.els) (by rw[<-qD.o];omega);have C1:qes (0<=iw s.body):=by show _<=_;have:=L1.o;rw[pC]at this;exact this
  have C2:qes (0<=iw s.els):=by show _<=_;have:=L2.o;rw[hO2]at this;exact this
  have G4:qes (ls++pH s=ls++jz s.arms):=by show _=_;unfold pH;rw[pC,hO2];simp
  clear pC hO2;go_wp2_with fail;obtain⟨LS,gL⟩:∃LS,LS=ls:=⟨_,rfl⟩
  have KK:qes (LS.length<=ls.length+(iw s.body+iw s.els)):=by show _<=_;have:=C1.o;have:=C2.o;rw[gL];(try simp only[ao,aG,eY]);omega
  have gM:=G3;rw[<-gL]at gM;have Yo:qes (ls++pH s=LS++jz s.arms):=by show _=_;rw[gL];exact G4.o
  have hU:=N6;have ib:=wJ;have hzz:=tD;clear gL G4
 rotate_left
 all_goals
  go_loopw [0,28] (fun lw i wr=>∃(k:Nat)(y:Value),k<=na/\y=lw/\i=.int .i64 (k:Int)/\qes (Wt B wr y (LS++jz (s.arms.take k))/\Below B w wr/\wr.heap[w.heap.size]? =some (.cells #[.int .i64 s.kind,.string nv,iv,xv,yv,.int .i64 s.gT,.slice ab nb pb,.slice ae ne pe,.slice aa na pa,gv] 48)/\B<=wr.heap.size)) (fun _ i _=>na-(intOf i).toNat)
  case atStart=>exact⟨0,_,by omega,rfl,rfl,by simpa[jz]using gM.o,hU.o,ib.o,hzz.o⟩
  case round=>
   obtain⟨k,y,hk,hy,rfl,hh⟩:=hrel;subst hy;have zU:=qet hh.o.1;have rN:=qet hh.o.2.1;have zV:=qet hh.o.2.2.1;have uw:=qet hh.o.2.2.2;clear hh
   by_cases hlt:k<na
   ·have j1:(k:Int)<(na:Int):=by omega
    have j0:(0:Int)<=(k:Int):=by omega
    obtain⟨x,hx⟩:∃x,s.arms[k]? =some x:=⟨_,List.getElem?_eq_getElem (by rw[<-Nf.o];exact hlt)⟩
    obtain⟨lv,Vg,q0,q1,q2,q3⟩:=oI w (fun b=>b<B) s.arms Ya k x HR.o hx;obtain⟨a2,n2,p2,rfl⟩:=q2.shape;have A6:=qet q3;obtain⟨VR,s3,_⟩:=q3;obtain⟨a3,b3,o3,p3,rfl,_,_,_⟩:=s3.shape;have hbB:=za.o (by omega);have c0:wr.cell? ⟨ba,oa+k*2,none⟩=some (.slice a2 n2 p2):=(rN.o.cell (p:=⟨ba,oa+k*2,none⟩) hbB).trans (HC.o k 0 _ q0);have c1:wr.cell? ⟨ba,oa+k*2+1,none⟩=some (.slice a3 x.2.length p3):=(rN.o.cell (p:=⟨ba,oa+k*2+1,none⟩) hbB).trans (HC.o k 1 _ q1);have ha':=QP (by omega);subst ha';have HT:=qet (vH s.arms hx);have HX:=qet hx;obtain⟨m,hm⟩:∃m,m=x.2.length:=⟨_,rfl⟩
    rw[<-hm]at c1 A6;have mQ:=qet hm;have rO:=qet (rN.o.alloc uw.o (.cells #[.slice a2 n2 p2,.slice a3 m p3] 51));have rP:=qet ((aw wr.heap.size wr).alloc (aj _) (.cells #[.slice a2 n2 p2,.slice a3 m p3] 51));have rQ:=qet (zU.o.below rP.o uw.o);have nz:=qet ((rP.o.block w.heap.size (lt_of_heap zV.o)).trans zV.o);have HAB:=qet (aE wr (.cells #[.slice a2 n2 p2,.slice a3 m p3] 51));obtain⟨w5,hw5⟩:∃w5,w5=wr.alloc (.cells #[.slice a2 n2 p2,.slice a3 m p3] 51):=⟨_,rfl⟩
    rw[<-hw5]at rO rQ nz HAB rP;have nA:qes (B<=w5.heap.size):=aP uw.o rP.o.size;clear hm hx q0 q1 q2 s3
    by_cases hm0:0<m
    ·have i1:(0:Int)<(m:Int):=by omega
     have g1:w5.cell? ⟨wr.heap.size,1,none⟩=some (.slice a3 m p3):=by rw[af HAB.o];rfl
     subst hw5;have mB:∀W:World,Below W.heap.size W (W.alloc (.cells #[.slice a3 m p3] 24)):=fun W=>(aw W.heap.size W).alloc (aj _) _
     go_wp2_with(at_builtin;go_must (refine jx (by rfl) _ _ (by rfl) B y (LS++jz (s.arms.take k)) (by rfl) (rQ.o.below (mB (wr.alloc (.cells #[.slice a2 n2 p2,.slice a3 m p3] 51))) nA.o) _ (.slice a3 m p3) x.2 (by rfl) (by first|exact aE _ _|exact nS _ _ _) ((A6.o.on (On.lt rO.o)).on (On.lt ((mB (wr.alloc (.cells #[.slice a2 n2 p2,.slice a3 m p3] 51))).mono nA.o))) (by have:=HU.o k;have:=tu.o;have:=J4.o;have:=KK.o;rw[ao];omega) (aP nA.o (mB (wr.alloc (.cells #[.slice a2 n2 p2,.slice a3 m p3] 51))).size) ?_;intro v6 w6 N7 G6 hb6;have G8:=qet N7;have G9:=qet (rO.o.trans (((mB (wr.alloc (.cells #[.slice a2 n2 p2,.slice a3 m p3] 51))).mono nA.o).trans hb6));have Ha:qes (w6.heap[w.heap.size]? =some (.cells #[.int .i64 s.kind,.string nv,iv,xv,yv,.int .i64 s.gT,.slice ab nb pb,.slice ae ne pe,.slice (some ⟨ba,oa,none⟩) na pa,gv] 48)):=(by show _=_;rw[G6.block w.heap.size (aJ (lt_of_heap nz.o) (mB (wr.alloc (.cells #[.slice a2 n2 p2,.slice a3 m p3] 51))).size) (fun e=>rQ.o.hold nz.o e.symm)];exact((mB (wr.alloc (.cells #[.slice a2 n2 p2,.slice a3 m p3] 51))).block w.heap.size (lt_of_heap nz.o)).trans nz.o);have Hb:qes (B<=w6.heap.size):=aP nA.o (aP (mB (wr.alloc (.cells #[.slice a2 n2 p2,.slice a3 m p3] 51))).size G6.size);clear N7 G6 hb6));have HO:=qet (pI (l:=x.2) (by rw[<-mQ.o];exact hm0));go_wp2
     go_roundw
     case rel=>exact⟨k+1,_,by omega,rfl,by go_num,by rw[HT.o,HO.o,<-aO];exact G8.o,G9.o,Ha.o,Hb.o⟩
     case measure=>simp[intOf];omega
    ·have i1:¬ (0:Int)<(m:Int):=by omega
     have g1:w5.cell? ⟨wr.heap.size,1,none⟩=some (.slice a3 m p3):=by rw[af HAB.o];rfl
     have HO:=qet (rM (l:=x.2) (by have:=mQ.o;omega));subst hw5;go_wp2
     go_roundw
     case rel=>exact⟨k+1,_,by omega,rfl,by go_num,by rw[HT.o,HO.o,bm];exact rQ.o,rO.o,nz.o,nA.o⟩
     case measure=>simp[intOf];omega
   ·obtain rfl:k=na:=by omega
    have HF:qes (Wt B wr y (LS++jz s.arms)):=by
     show Wt _ _ _ _;have:=zU.o
     rwa [aX (by rw[Nf.o];exact aj _)]at this
    have j1:¬ (k:Int)<(k:Int):=by omega
    go_wp2;go_ret;exact⟨_,rfl,by have h:=HF.o;rw[Yo.o];exact h,rN.o⟩
end Go.Proofs.YtekanffohkeoeaaGreatDoor
