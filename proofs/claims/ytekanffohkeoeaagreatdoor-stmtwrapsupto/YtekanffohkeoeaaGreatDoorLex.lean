import Derived.WalkKit
import Derived.Test.YtekanffohkeoeaaGreatDoorProg
import Derived.Deep.QuietTactic
import Derived.BigQuiet
import Derived.Deep.MidRow
import Derived.Deep.DeepMust
import Derived.Deep.WholeRow
import Derived.Great.BuildSlice
import Derived.Lib.Builder
namespace Go.Proofs.YtekanffohkeoeaaGreatDoor
open Go.RowKit
open List renaming length_cons → aG, length_map → aQ, suffix_cons → dM, suffix_refl → cO, drop_suffix → eh, length_pos_iff → fK, contains_iff_mem → dh, length_nil → eY, append_assoc → aO, cons_append → bM, append_nil → bm, mem_cons_self → aT, mem_cons_of_mem → aK, mem_cons → aI, all_eq_true → eZ, length_drop → bz, take_of_length_le → aX, take_add_one → cr, mem_append → aN, mem_singleton → aL, drop_eq_getElem_cons → eW
open Nat renaming le_refl → aj, zero_mul → fy, zero_add → fg
open Option.some renaming injEq → bp, inj → an
open Prod.mk renaming injEq → bD
open Option renaming map_some → cm
open Except.ok renaming injEq → cD
open Except renaming ok → fR
open Bool renaming and_eq_true → aH, or_eq_true → fM, true_and → fu, eq_iff_iff → bh, false_eq_true → eX, and_eq_false_iff → fA
open Go.Proofs.Tryz renaming prog → ah, func124 → ez, ntmps124 → ek, underlying9 → ck, func136 → eK, ntmps136 → eF, func222 → dX, ntmps222 → dP, func168 → dY, ntmps168 → dQ
open Go.Instr renaming index → bR, slice → fN
open Go.Result renaming andThen_ok → cS
open Int renaming toNat_natCast → cP
open Go.ByteArray renaming toList_eq → cB
open Go.RowKit.Below renaming refl → aw
open Go.Value renaming agg → fv
open Go renaming heap_alloc_new → aE, bodyPost_ret → aU, results → aV
open Go.Lib renaming alloc_old → bj, frozen_of_heap → aC, cell_of_heap → af
open And renaming intro → fw
set_option maxRecDepth 100000
set_option maxHeartbeats 1600000
abbrev Bs:=List UInt8
def isLet(c:UInt8):Bool:=(decide (97<=c)&&decide (c<=122))||((decide (65<=c)&&decide (c<=90))||decide (c=95))
def iY(c:UInt8):Bool:=decide (48<=c)&&decide (c<=57)
def yb(c:UInt8):Bool:=decide (c=32)||(decide (c=9)||(decide (c=10)||decide (c=13)))
def Ag(c:UInt8):UInt8:=if 97<=c/\c<=122 then c-32 else c
def rZ(l:Bs):Bs:=l.map Ag
def ld:Bs->Option Bs
 |[]=>none
 |a::r=>if a=42/\r.head?=some 41 then some r.tail else ld r
def ko:Bs->Option Bs
 |[]=>none
 |a::r=>if a=125 then some r else ko r
def lz:Bs->Bs
 |[]=>[]
 |a::r=>if a=10 then a::r else lz r
def oq:Nat->Bs->Except Bs Bs
 |0,l=>.ok l
 |n+1,l=>
  match l with
  |[]=>.ok []
  |c::r=>
   if yb c then oq n r
   else if c=40/\r.head?=some 42 then
    match ld r.tail with
    |none=>.error l
    |some r'=>oq n r'
   else if c=47/\r.head?=some 47 then oq n (lz r)
   else if c=123 then
    match ko r with
    |none=>.error l
    |some r'=>oq n r'
   else .ok l
def skip(l:Bs):Except Bs Bs:=oq l.length l
theorem oz:∀ {l r:Bs},ld l=some r->r.length+2<=l.length
 |[],r,h=>by cases h
 |a::t,r,h=>by
  unfold ld at h
  split at h
  ·next hc=>
   injection h with h
   subst h
   cases t with
   |nil=>cases hc.2
   |cons x y=>simp
  ·have:=oz h;simp;omega
theorem nB:∀ {l r:Bs},ko l=some r->r.length+1<=l.length
 |[],r,h=>by cases h
 |a::t,r,h=>by
  unfold ko at h
  split at h
  ·injection h with h
   subst h;simp
  ·have:=nB h;simp;omega
theorem oS:∀l:Bs,(lz l).length<=l.length
 |[]=>by simp[lz]
 |a::t=>by
  unfold lz
  split
  ·simp
  ·have:=oS t;simp;omega
theorem yd(l:Bs):l.tail.length<=l.length:=by cases l <;> simp
theorem ye:∀(n m:Nat)(l:Bs),l.length<=n->l.length<=m->oq n l=oq m l
 |0,0,l,_,_=>rfl
 |0,m+1,[],_,_=>by simp[oq]
 |n+1,0,[],_,_=>by simp[oq]
 |0,m+1,c::r,h,_=>by simp at h
 |n+1,0,c::r,_,h=>by simp at h
 |n+1,m+1,[],_,_=>by simp[oq]
 |n+1,m+1,c::r,hn,hm=>by
  simp only[aG]at hn hm;have key:∀r':Bs,r'.length<=r.length->oq n r'=oq m r':=fun r' h=>ye n m r' (by omega) (by omega)
  unfold oq;simp only[]
  split
  ·exact key r (aj _)
  ·split
   ·split
    ·rfl
    ·next r' hr=>exact key r' (by have:=oz hr;have:=yd r;omega)
   ·split
    ·exact key _ (oS r)
    ·split
     ·split
      ·rfl
      ·next r' hr=>exact key r' (by have:=nB hr;omega)
     ·rfl
theorem KP:skip []=.ok []:=rfl
theorem IX(c:UInt8)(r:Bs):skip (c::r)=
  if yb c then skip r
  else if c=40/\r.head?=some 42 then
   match ld r.tail with
   |none=>.error (c::r)
   |some r'=>skip r'
  else if c=47/\r.head?=some 47 then skip (lz r)
  else if c=123 then
   match ko r with
   |none=>.error (c::r)
   |some r'=>skip r'
  else .ok (c::r):=by
 have key:∀r':Bs,r'.length<=r.length->oq r.length r'=skip r':=fun r' h=>ye _ _ r' h (aj _)
 show oq (r.length+1) (c::r)=_;unfold oq;simp only[]
 split
 ·exact key r (aj _)
 ·split
  ·split
   ·rfl
   ·next r' hr=>exact key r' (by have:=oz hr;have:=yd r;omega)
  ·split
   ·exact key _ (oS r)
   ·split
    ·split
     ·rfl
     ·next r' hr=>exact key r' (by have:=nB hr;omega)
    ·rfl
def worth(c:UInt8):Nat:=if iY c then c.toNat-48 else if 97<=c/\c<=102 then c.toNat-87 else if 65<=c/\c<=70 then c.toNat-55 else 99
def headW(base:Nat)(r:Bs):Bool:=match r with
 |[]=>false
 |d::_=>decide (worth d<base)
def oT(base most:Nat):Bool->Nat->Bs->Option (Nat×Bs)
 |p,n,[]=>if p then some (n,[])else none
 |p,n,c::r=>
  if worth c<base then(if most<n*base+worth c then none else oT base most true (n*base+worth c) r)
  else if c=95/\p=true/\headW base r=true then oT base most false n r
  else if p then(if c=95\/iY c=true then none else some (n,c::r))else none
def sm(n:Nat):Int:=if 2147483648<=n then(n:Int)-4294967296 else n
def based(l:Bs):Option (Int×Bs):=
 if l.take 2=[50,35]then(oT 2 4294967295 false 0 (l.drop 2)).map fun x=>(sm x.1,x.2)
 else if l.take 2=[56,35]then(oT 8 4294967295 false 0 (l.drop 2)).map fun x=>(sm x.1,x.2)
 else if l.take 3=[49,54,35]then(oT 16 4294967295 false 0 (l.drop 3)).map fun x=>(sm x.1,x.2)
 else(oT 10 2147483648 false 0 l).map fun x=>((x.1:Int),x.2)
def wN:Nat->Bs->Option (Nat×Bs)
 |x,[]=>some (x,[])
 |x,c::r=>if iY c then(if 2147483648<x*10+(c.toNat-48)then none else wN (x*10+(c.toNat-48)) r)else some (x,c::r)
def pU:Bs->Option (Nat×Bs)
 |[]=>none
 |c::r=>
  if Ag c=68 then some (0,r)else if Ag c=72 then some (1,r)else if Ag c=83 then some (3,r)
  else if Ag c=77 then(if r.head?.map Ag=some 83 then some (4,r.tail)else some (2,r))else none
def mc(u:Nat):Nat:=if u=0 then 86400000 else if u=1 then 3600000 else if u=2 then 60000 else if u=3 then 1000 else 1
def tE:Nat->Nat->Nat->Bs->Option (Nat×Bs)
 |0,_,_,_=>none
 |f+1,lo,n,l=>
  match l with
  |[]=>if lo=0 then none else some (n,[])
  |c::r=>
   if iY c then
    match wN 0 (c::r)with
    |none=>none
    |some (x,r1)=>
     match pU r1 with
     |none=>none
     |some (u,r2)=>if u<lo\/2147483648<=n+x*mc u then none else tE f (u+1) (n+x*mc u) r2
   else if lo=0\/c=95 then none else some (n,c::r)
structure Tk where
 kind:Int
 s:Bs
 n:Int
 ty:Int
def vO:Tk:=⟨4,[],0,0⟩
def gO(s:Bs):Tk:=⟨1,s,0,0⟩
def mY(n ty:Int):Tk:=⟨2,[],n,ty⟩
def gP(s:Bs):Tk:=⟨3,s,0,0⟩
def FN(t n:Int):Bool:=if t=1 then decide (n=0)||decide (n=1)else if t=2 then decide (-32768<=n)&&decide (n<=32767)else decide (-2147483648<=n)&&decide (n<=2147483647)
def oU(ty:Int)(l:Bs):Option (Tk×Bs):=
 if l.head?=some 45 then
  match oT 10 2147483648 false 0 l.tail with
  |none=>none
  |some (n,r)=>if FN ty (-(n:Int))then some (mY (-(n:Int)) ty,r)else none
 else
  match oT 10 2147483648 false 0 l with
  |none=>none
  |some (n,r)=>if FN ty (n:Int)then some (mY n ty,r)else none
def qj(word l:Bs):Option (Tk×Bs):=
 if word=[84]\/word=[84,73,77,69]then(tE 6 0 0 l).map fun x=>(mY x.1 4,x.2)
 else if word=[66,79,79,76]then oU 1 l
 else if word=[73,78,84]then oU 2 l
 else if word=[68,73,78,84]then oU 3 l
 else none
def isWord(c:UInt8):Bool:=isLet c||iY c
def jv(l:Bs):Bs:=l.takeWhile isWord
def lG(l:Bs):Bs:=l.dropWhile isWord
def yf:List Bs:=[[58,61],[60,61],[62,61],[60,62],[42,42],[46,46]]
def yg:Bs:=[40,41,91,93,44,59,58,46,43,45,42,47,61,60,62,38]
def uy(l:Bs):Option (Tk×Bs):=
 if l.take 2∈yf then some (gP (l.take 2),l.drop 2)
 else match l with
  |[]=>none
  |c::r=>if c∈yg then some (gP [c],r)else none
def nV(l:Bs):Option (Tk×Bs):=
 match l with
 |[]=>none
 |c::r=>
  if isLet c then
   (if(lG (c::r)).head?=some 35 then qj (rZ (jv (c::r))) (lG (c::r)).tail
    else if(jv (c::r)).length<=24 then some (gO (rZ (jv (c::r))),lG (c::r))else none)
  else if iY c then(based (c::r)).map fun x=>(mY x.1 0,x.2)
  else uy (c::r)
def lO:Nat->Nat->Bs->Except (Nat×Int) (List (Tk×Nat))
 |0,_,l=>.error (l.length,50)
 |f+1,cnt,l=>
  match skip l with
  | .error b=>.error (b.length,50)
  | .ok l'=>
   if 4096<=cnt then .error (l'.length,2)
   else match l' with
    |[]=>.ok [(vO,0)]
    |c::r=>
     match nV (c::r)with
     |none=>.error (r.length+1,50)
     |some (t,r')=>
      match lO f (cnt+1) r' with
      | .error e=>.error e
      | .ok ts=>.ok ((t,r.length+1)::ts)
def toks(l:Bs):Except (Nat×Int) (List (Tk×Nat)):=if 65536<l.length then .error (l.length,2)else lO (l.length+1) 0 l
theorem KQ{P:UInt8->Prop}(h:∀n:Fin 256,P (UInt8.ofNat n.val))(c:UInt8):P c:=by
 have:=h ⟨c.toNat,c.toNat_lt⟩
 simpa using this
theorem oO(l:Bs):(rZ l).length=l.length:=aQ _
variable {r:Bs}{l:Bs}
theorem lh(a:UInt8)(h:r<:+l):r<:+a::l:=h.trans (dM a l)
theorem so(l:Bs):l.tail<:+l:=List.tail_suffix l
theorem Dw:∀ {l r:Bs},ld l=some r->r<:+l
 |[],r,h=>by cases h
 |a::t,r,h=>by
  unfold ld at h
  split at h
  ·injection h with h
   subst h;exact lh a (so t)
  ·exact lh a (Dw h)
theorem AJ:∀ {l r:Bs},ko l=some r->r<:+l
 |[],r,h=>by cases h
 |a::t,r,h=>by
  unfold ko at h
  split at h
  ·injection h with h
   subst h;exact dM a t
  ·exact lh a (AJ h)
theorem Dx:∀l:Bs,lz l<:+l
 |[]=>cO _
 |a::t=>by
  unfold lz
  split
  ·exact cO _
  ·exact lh a (Dx t)
theorem mJ(base most:Nat):∀ {p:Bool}{n m:Nat}{l r:Bs},oT base most p n l=some (m,r)->r<:+l
 |p,n,m,[],r,h=>by
  unfold oT at h
  split at h
  ·simp only[bp,bD]at h;rw[<-h.2];exact cO _
  ·cases h
 |p,n,m,c::t,r,h=>by
  unfold oT at h
  split at h
  ·split at h
   ·cases h
   ·exact lh c (mJ base most h)
  ·split at h
   ·exact lh c (mJ base most h)
   ·split at h
    ·split at h
     ·cases h
     ·simp only[bp,bD]at h;rw[<-h.2];exact cO _
    ·cases h
theorem map_fst{α β:Type}{g:α->β}{x:Option (α×Bs)}{y:β}(h:x.map (fun z=>(g z.1,z.2))=some (y,r)):∃a,x=some (a,r)/\y=g a:=by
 cases x with
 |none=>cases h
 |some z=>
  simp only[cm,bp,bD]at h;exact⟨z.1,by rw[<-h.2],h.1.symm⟩
variable {n:Int}
theorem IY(h:based l=some (n,r)):r<:+l:=by
 unfold based at h
 split at h
 ·obtain⟨a,h1,_⟩:=map_fst h;exact(mJ _ _ h1).trans (eh _ _)
 ·split at h
  ·obtain⟨a,h1,_⟩:=map_fst h;exact(mJ _ _ h1).trans (eh _ _)
  ·split at h
   ·obtain⟨a,h1,_⟩:=map_fst h;exact(mJ _ _ h1).trans (eh _ _)
   ·obtain⟨a,h1,_⟩:=map_fst (g:=fun n:Nat=>(n:Int)) h;exact mJ _ _ h1
theorem AK:∀ {x m:Nat}{l r:Bs},wN x l=some (m,r)->r<:+l
 |x,m,[],r,h=>by
  unfold wN at h;simp only[bp,bD]at h;rw[<-h.2];exact cO _
 |x,m,c::t,r,h=>by
  unfold wN at h
  split at h
  ·split at h
   ·cases h
   ·exact lh c (AK h)
  ·simp only[bp,bD]at h;rw[<-h.2];exact cO _
theorem KR{u:Nat}(h:pU l=some (u,r)):r<:+l:=by
 cases l with
 |nil=>cases h
 |cons c t=>
  unfold pU at h;simp only[]at h
  repeat' split at h
  all_goals first
   |(cases h;done)
   |(simp only[bp,bD]at h;rw[<-h.2];exact dM c t)
   |(simp only[bp,bD]at h;rw[<-h.2];exact lh c (so t))
theorem Dy:∀ {f lo n m:Nat}{l r:Bs},tE f lo n l=some (m,r)->r<:+l
 |0,lo,n,m,l,r,h=>by cases h
 |f+1,lo,n,m,[],r,h=>by
  unfold tE at h;simp only[]at h
  split at h
  ·cases h
  ·simp only[bp,bD]at h;rw[<-h.2];exact cO _
 |f+1,lo,n,m,c::t,r,h=>by
  unfold tE at h;simp only[]at h
  split at h
  ·split at h
   ·cases h
   ·next x r1 h1=>
    split at h
    ·cases h
    ·next u r2 h2=>
     split at h
     ·cases h
     ·exact(Dy h).trans ((KR h2).trans (AK h1))
  ·split at h
   ·cases h
   ·simp only[bp,bD]at h;rw[<-h.2];exact cO _
variable {t:Tk}
theorem FO{ty:Int}(h:oU ty l=some (t,r)):r<:+l:=by
 unfold oU at h
 split at h
 ·split at h
  ·cases h
  ·next n r' h1=>
   split at h
   ·simp only[bp,bD]at h;rw[<-h.2];exact(mJ _ _ h1).trans (so l)
   ·cases h
 ·split at h
  ·cases h
  ·next n r' h1=>
   split at h
   ·simp only[bp,bD]at h;rw[<-h.2];exact mJ _ _ h1
   ·cases h
theorem IZ{w:Bs}(h:qj w l=some (t,r)):r<:+l:=by
 unfold qj at h
 split at h
 ·obtain⟨a,h1,_⟩:=map_fst (g:=fun n:Nat=>mY (n:Int) 4) h;exact Dy h1
 ·repeat' split at h
  all_goals first
   |exact FO h
   |cases h
variable {c:UInt8}
theorem KS(h:isLet c=true):lG (c::r)<:+r:=by
 unfold lG;rw[List.dropWhile_cons,if_pos (by unfold isWord;rw[h];rfl)];exact List.dropWhile_suffix _
theorem KU{r':Bs}(h:based (c::r)=some (n,r')):r'.length<(c::r).length:=by
 have key:∀ {base most:Nat}{l:Bs}{m:Nat}{q:Bs},oT base most false 0 l=some (m,q)->q.length<l.length:=fun {base most l m q} h=>by
  cases l with
  |nil=>cases h
  |cons a t=>
   unfold oT at h
   split at h
   ·split at h
    ·cases h
    ·have:=(mJ _ _ h).length_le;simp;omega
   ·split at h
    ·next hc=>cases hc.2.1
    ·cases h
 unfold based at h
 split at h
 ·obtain⟨a,h1,_⟩:=map_fst h;have:=key h1;simp at this ⊢;omega
 ·split at h
  ·obtain⟨a,h1,_⟩:=map_fst h;have:=key h1;simp at this ⊢;omega
  ·split at h
   ·obtain⟨a,h1,_⟩:=map_fst h;have:=key h1;simp at this ⊢;omega
   ·obtain⟨a,h1,_⟩:=map_fst (g:=fun n:Nat=>(n:Int)) h;exact key h1
theorem OV(h:uy l=some (t,r)):r<:+l/\r.length<l.length:=by
 unfold uy at h
 split at h
 ·next hs=>
  simp only[bp,bD]at h;rw[<-h.2];refine⟨eh _ _,?_⟩;have:l.take 2≠[]:=fun e=>by rw[e]at hs;exact absurd hs (by decide)
  have:l≠[]:=fun e=>this (by rw[e];rfl)
  have:=fK.2 this;simp;omega
 ·cases l with
  |nil=>cases h
  |cons c q=>
   simp only[]at h
   split at h
   ·simp only[bp,bD]at h;rw[<-h.2];exact⟨dM c q,by simp⟩
   ·cases h
theorem OW(h:nV l=some (t,r)):r<:+l/\r.length<l.length:=by
 cases l with
 |nil=>cases h
 |cons c q=>
  unfold nV at h;simp only[]at h
  split at h
  ·next hl=>
   have hr:=KS (r:=q) hl
   split at h
   ·have:=(IZ h).trans ((so _).trans hr);exact⟨lh c this,by have:=this.length_le;simp;omega⟩
   ·split at h
    ·simp only[bp,bD]at h;rw[<-h.2];exact⟨lh c hr,by have:=hr.length_le;simp;omega⟩
    ·cases h
  ·split at h
   ·obtain⟨a,h1,_⟩:=map_fst (g:=fun n:Int=>mY n 0) h;exact⟨IY h1,KU h1⟩
   ·exact OV h
inductive KV:Bs->List (Tk×Nat)->Prop
 |fin {l:Bs} (h:skip l=.ok []):KV l [(vO,0)]
 |step {l r r':Bs} {c:UInt8} {t:Tk} {ts:List (Tk×Nat)} (h:skip l=.ok (c::r)) (h1:nV (c::r)=some (t,r')) (h2:KV r' ts):KV l ((t,r.length+1)::ts)



inductive Each:List Bs->List Tk->Prop
 |nil:Each [] []
 |cons {s:Bs} {t:Tk} {ss:List Bs} {ts:List Tk} (h:nV s=some (t,[])) (r:Each ss ts):Each (s::ss) (t::ts)
structure Pt where
 kind:Int
 s:Bs
 f:Bs
 n:Int
 t:Int
def uz(n t:Int):Pt:=⟨1,[],[],n,t⟩
def FP(s:Bs):Pt:=⟨2,s,[],0,0⟩
def I0(s:Bs):Pt:=⟨3,s,[],0,0⟩
def Ah(s f:Bs):Pt:=⟨4,s,f,0,0⟩
def KY(n:Int):Pt:=⟨5,[],[],n,0⟩
def toP(t:Int):Pt:=⟨6,[],[],0,t⟩
def Dq:List Bs:=[[80,82,79,71,82,65,77],[69,78,68,95,80,82,79,71,82,65,77],[86,65,82],[86,65,82,95,73,78,80,85,84],[86,65,82,95,79,85,84,80,85,84],[69,78,68,95,86,65,82],[65,82,82,65,89],[79,70],[66,79,79,76],[73,78,84],[68,73,78,84],[84,73,77,69],[84,79,78],[84,79,70],[84,80],[67,84,85],[67,84,68],[82,95,84,82,73,71],[70,95,84,82,73,71],[83,82],[82,83],[81,85,65,68],[73,70],[84,72,69,78],[69,76,83,73,70],[69,76,83,69],[69,78,68,95,73,70],[67,65,83,69],[69,78,68,95,67,65,83,69],[87,72,73,76,69],[68,79],[69,78,68,95,87,72,73,76,69],[70,79,82],[84,79],[66,89],[69,78,68,95,70,79,82],[82,69,80,69,65,84],[85,78,84,73,76],[69,78,68,95,82,69,80,69,65,84],[69,88,73,84],[82,69,84,85,82,78],[65,78,68],[79,82],[88,79,82],[78,79,84],[77,79,68],[84,82,85,69],[70,65,76,83,69],[84,79,95,73,78,84],[84,79,95,68,73,78,84],[84,79,95,84,73,77,69]]
def yi(c:UInt8):Bool:=(decide (65<=c)&&decide (c<=90))||(iY c||decide (c=95))
def kC(s:Bs):Bool:=match s with
 |[]=>false
 |c::r=>decide (r.length+1<=24)&&(!iY c&&(c::r).all yi)
def nameB(s:Bs):Bool:= !(Dq.contains s)&&kC s
def nh(n:Nat):List (Int×Bs×Int):=match n with
 |0=>[(1,[79,82],7)]
 |1=>[(1,[88,79,82],8)]
 |2=>[(1,[65,78,68],6),(3,[38],6)]
 |3=>[(3,[61],9),(3,[60,62],10)]
 |4=>[(3,[60],11),(3,[60,61],12),(3,[62],13),(3,[62,61],14)]
 |5=>[(3,[43],1),(3,[45],2)]
 |6=>[(3,[42],3),(3,[47],4),(1,[77,79,68],5)]
 |_=>[]
def r9(n:Nat)(t:Tk):Option Int:=((nh n).find? fun x=>decide (x.1=t.kind)&&(x.2.1==t.s)).map (·.2.2)
def iX(s:Bs)(t:Tk):Bool:=decide (t.kind=3)&&(t.s==s)
def unOp(t:Tk):Option Int:=if t.kind=3/\t.s=[45]then some 15 else if t.kind=1/\t.s=[78,79,84]then some 16 else none
def xE(s:Bs):Int:=if s=[84,79,95,73,78,84]then 2 else if s=[84,79,95,68,73,78,84]then 3 else if s=[84,79,95,84,73,77,69]then 4 else 0
def qS:Bs:=[84,82,85,69]
def qT:Bs:=[70,65,76,83,69]
abbrev qC:=Except (Nat×Int) (List Pt×List Tk)
def within(a b:Bs)(d:Nat)(l:List Tk)(go:List Tk->Option qC):Option qC:=
 match l with
 |[]=>some (.error (0,60))
 |t::q=>
  if iX a t then
   (if 200<=d then some (.error (q.length+1,2))
    else match go q with
    |none=>none
    |some (.error e)=>some (.error e)
    |some (.ok (x,r))=>
     match r with
     |[]=>some (.error (0,60))
     |u::r'=>if iX b u then some (.ok (x,r'))else some (.error (r'.length+1,60)))
  else some (.error (q.length+1,60))
def vP(p:Pt):Option qC->Option qC
 |some (.ok (x,r))=>some (.ok (x++[p],r))
 |y=>y
def named(s:Bs)(q:List Tk)(br:Option qC):Option qC:=
 match q with
 |[]=>some (.ok ([FP s],[]))
 |u::r=>
  if iX [91] u then vP (I0 s) br
  else if iX [46] u then
   (match r with
    |[]=>some (.error (0,60))
    |v::r'=>if v.kind=1 then some (.ok ([Ah s v.s],r'))else some (.error (r'.length+1,60)))
  else some (.ok ([FP s],u::r))
inductive Md
 |row (n:Nat)
 |loop (n:Nat)
 |uA
 |pri
def rd:Nat->Md->Nat->List Tk->Option qC
 |0,_,_,_=>none
 |f+1,.row n,d,l=>
  if 7<=n then rd f .uA d l
  else match rd f (.row (n+1)) d l with
   |some (.ok (x,r))=>
    match rd f (.loop n) d r with
    |some (.ok (y,r'))=>some (.ok (x++y,r'))
    |z=>z
   |z=>z
 |f+1,.loop n,d,l=>
  match l with
  |[]=>some (.ok ([],[]))
  |t::q=>
   match r9 n t with
   |none=>some (.ok ([],t::q))
   |some k=>
    match rd f (.row (n+1)) d q with
    |some (.ok (x,r))=>
     match rd f (.loop n) d r with
     |some (.ok (y,r'))=>some (.ok (x++KY k::y,r'))
     |z=>z
    |z=>z
 |f+1,.uA,d,l=>
  match l with
  |[]=>rd f .pri d []
  |t::q=>
   match unOp t with
   |none=>rd f .pri d (t::q)
   |some k=>if 200<=d then some (.error (q.length+1,2))else vP (KY k) (rd f .uA (d+1) q)
 |f+1,.pri,d,l=>
  match l with
  |[]=>some (.error (0,60))
  |t::q=>
   if t.kind=2 then some (.ok ([uz t.n t.ty],q))
   else if t.kind=1/\t.s=qS then some (.ok ([uz 1 1],q))
   else if t.kind=1/\t.s=qT then some (.ok ([uz 0 1],q))
   else if t.kind=1/\xE t.s≠0 then vP (toP (xE t.s)) (within [40] [41] d q (rd f (.row 0) (d+1)))
   else if t.kind=1/\nameB t.s=true then named t.s q (within [91] [93] d q (rd f (.row 0) (d+1)))
   else within [40] [41] d (t::q) (rd f (.row 0) (d+1))
def takes(p:Pt):Nat:=if p.kind=3\/p.kind=6 then 1 else if p.kind=5/\(p.n=15\/p.n=16)then 1 else if p.kind=5 then 2 else 0
def depths:List Pt->List Nat->Option (List Nat)
 |[],st=>some st
 |p::x,st=>
  if takes p=0 then depths x (1::st)
  else if takes p=1 then(match st with
   |a::r=>depths x ((a+1)::r)
   |[]=>none)
  else(match st with
   |a::b::r=>depths x ((max a b+1)::r)
   |_=>none)
def depth(x:List Pt):Nat:=match depths x []with
 |some [d]=>d
 |_=>0
def fuel(l:List Tk):Nat:=12*l.length+12
def parse(l:List Tk):Except (Nat×Int) (List Pt×List Tk):=match rd (fuel l) (.row 0) 0 l with
 |none=>.error (0,-1)
 |some (.error e)=>.error e
 |some (.ok (x,r))=>if 500<x.length\/24<depth x then .error (l.length,2)else .ok (x,r)
inductive Reads:Md->Nat->List Tk->List Pt->List Tk->Prop
 |top {n d:Nat} {l r:List Tk} {x:List Pt} (h:7<=n) (h1:Reads .uA d l x r):Reads (.row n) d l x r
 |row {n d:Nat} {l r r':List Tk} {x y:List Pt} (h:n<7) (h1:Reads (.row (n+1)) d l x r) (h2:Reads (.loop n) d r y r'):Reads (.row n) d l (x++y) r'
 |stop {n d:Nat} {l:List Tk} (h:∀t q,l=t::q->r9 n t=none):Reads (.loop n) d l [] l
 |more {n d:Nat} {t:Tk} {k:Int} {q r r':List Tk} {x y:List Pt} (h:r9 n t=some k) (h1:Reads (.row (n+1)) d q x r) (h2:Reads (.loop n) d r y r'):Reads (.loop n) d (t::q) (x++KY k::y) r'
 |bare {d:Nat} {t:Tk} {q r:List Tk} {x:List Pt} (h:unOp t=none) (h1:Reads .pri d (t::q) x r):Reads .uA d (t::q) x r
 |sign {d:Nat} {t:Tk} {k:Int} {q r:List Tk} {x:List Pt} (h:unOp t=some k) (hd:d<200) (h1:Reads .uA (d+1) q x r):Reads .uA d (t::q) (x++[KY k]) r
 |num {d:Nat} {t:Tk} {q:List Tk} (h:t.kind=2):Reads .pri d (t::q) [uz t.n t.ty] q
 |Sw {d:Nat} {t:Tk} {q:List Tk} (h:t.kind=1) (hs:t.s=qS):Reads .pri d (t::q) [uz 1 1] q
 |Sy {d:Nat} {t:Tk} {q:List Tk} (h:t.kind=1) (hs:t.s=qT):Reads .pri d (t::q) [uz 0 1] q
 |conv {d:Nat} {t u v:Tk} {q r:List Tk} {x:List Pt} (h:t.kind=1) (hs:xE t.s≠0) (hu:iX [40] u=true) (hd:d<200) (h1:Reads (.row 0) (d+1) q x (v::r)) (hv:iX [41] v=true):Reads .pri d (t::u::q) (x++[toP (xE t.s)]) r
 |idx {d:Nat} {t u v:Tk} {q r:List Tk} {x:List Pt} (h:t.kind=1) (hs:nameB t.s=true) (hu:iX [91] u=true) (hd:d<200) (h1:Reads (.row 0) (d+1) q x (v::r)) (hv:iX [93] v=true):Reads .pri d (t::u::q) (x++[I0 t.s]) r
 |Sz {d:Nat} {t u v:Tk} {r:List Tk} (h:t.kind=1) (hs:nameB t.s=true) (hu:iX [46] u=true) (hv:v.kind=1):Reads .pri d (t::u::v::r) [Ah t.s v.s] r
 |var {d:Nat} {t:Tk} {r:List Tk} (h:t.kind=1) (hs:nameB t.s=true) (hr:∀u q,r=u::q->iX [91] u=false/\iX [46] u=false):Reads .pri d (t::r) [FP t.s] r
 |par {d:Nat} {t v:Tk} {q r:List Tk} {x:List Pt} (ht:iX [40] t=true) (hd:d<200) (h1:Reads (.row 0) (d+1) q x (v::r)) (hv:iX [41] v=true):Reads .pri d (t::q) x r
variable {x:List Pt}{d:Nat}
theorem sT{a b:Bs}{l r:List Tk}{go:List Tk->Option qC}(h:within a b d l go=some (.ok (x,r))):
  ∃t q v,l=t::q/\iX a t=true/\d<200/\go q=some (.ok (x,v::r))/\iX b v=true:=by
 unfold within at h
 split at h
 ·cases h
 ·next t q=>
  split at h
  ·next ha=>
   split at h
   ·cases h
   ·next hd=>
    split at h
    ·cases h
    ·cases h
    ·next y r1 hg=>
     split at h
     ·cases h
     ·next u r2=>
      split at h
      ·next hb=>
       simp only[bp,cD,bD]at h;obtain⟨rfl,rfl⟩:=h;exact⟨t,q,u,rfl,ha,by omega,hg,hb⟩
      ·cases h
  ·cases h
variable {p:Pt}
theorem BL{y:Option qC}{r:List Tk}(h:vP p y=some (.ok (x,r))):∃x',y=some (.ok (x',r))/\x=x'++[p]:=by
 unfold vP at h
 split at h
 ·simp only[bp,cD,bD]at h;obtain⟨rfl,rfl⟩:=h;exact⟨_,rfl,rfl⟩
 ·next hn=>exact absurd h (hn x r)
theorem jA:∀ {f:Nat}{m:Md}{d:Nat}{l r:List Tk}{x:List Pt},rd f m d l=some (.ok (x,r))->Reads m d l x r
 |0,_,_,_,_,_,h=>by cases h
 |f+1,.row n,d,l,r,x,h=>by
  unfold rd at h
  split at h
  ·next hn=>exact .top hn (jA h)
  ·next hn=>
   split at h
   ·next x1 r1 h1=>
    split at h
    ·next y r2 h2=>
     simp only[bp,cD,bD]at h;obtain⟨rfl,rfl⟩:=h;exact .row (by omega) (jA h1) (jA h2)
    ·next z hz=>exact absurd h (hz x r)
   ·next z hz=>exact absurd h (hz x r)
 |f+1,.loop n,d,[],r,x,h=>by
  have h':some (fR (ε:=Nat×Int) (([]:List Pt),([]:List Tk)))=some (.ok (x,r)):=h;simp only[bp,cD,bD]at h';obtain⟨rfl,rfl⟩:=h';exact .stop (fun t q e=>by cases e)
 |f+1,.loop n,d,t::q,r,x,h=>by
  unfold rd at h;simp only[]at h
  split at h
  ·next ho=>
   simp only[bp,cD,bD]at h;obtain⟨rfl,rfl⟩:=h;exact .stop (fun t' q' e=>by injection e with e1 _;rw[<-e1];exact ho)
  ·next k ho=>
   split at h
   ·next x1 r1 h1=>
    split at h
    ·next y r2 h2=>
     simp only[bp,cD,bD]at h;obtain⟨rfl,rfl⟩:=h;exact .more ho (jA h1) (jA h2)
    ·next z hz=>exact absurd h (hz x r)
   ·next z hz=>exact absurd h (hz x r)
 |f+1,.uA,d,[],r,x,h=>by
  have h':rd f .pri d []=some (.ok (x,r)):=h
  cases f with
  |zero=>cases h'
  |succ f=>cases h'
 |f+1,.uA,d,t::q,r,x,h=>by
  unfold rd at h;simp only[]at h
  split at h
  ·next ho=>exact .bare ho (jA h)
  ·next k ho=>
   split at h
   ·cases h
   ·next hd=>
    obtain⟨x',h1,rfl⟩:=BL h;exact .sign ho (by omega) (jA h1)
 |f+1,.pri,d,[],r,x,h=>by cases h
 |f+1,.pri,d,t::q,r,x,h=>by
  unfold rd at h;simp only[]at h
  split at h
  ·next hk=>
   simp only[bp,cD,bD]at h;obtain⟨rfl,rfl⟩:=h;exact .num hk
  ·split at h
   ·next hk=>
    simp only[bp,cD,bD]at h;obtain⟨rfl,rfl⟩:=h;exact .Sw hk.1 hk.2
   ·split at h
    ·next hk=>
     simp only[bp,cD,bD]at h;obtain⟨rfl,rfl⟩:=h;exact .Sy hk.1 hk.2
    ·split at h
     ·next hk=>
      obtain⟨x',h1,rfl⟩:=BL h;obtain⟨u,q',v,rfl,hu,hd,hg,hv⟩:=sT h1;exact .conv hk.1 hk.2 hu hd (jA hg) hv
     ·split at h
      ·next hk=>
       unfold named at h
       split at h
       ·simp only[bp,cD,bD]at h;obtain⟨rfl,rfl⟩:=h;exact .var hk.1 hk.2 (fun u q' e=>by cases e)
       ·next u r1=>
        split at h
        ·next hu=>
         obtain⟨x',h1,rfl⟩:=BL h;obtain⟨u',q',v,e,hu',hd,hg,hv⟩:=sT h1;injection e with e1 e2
         subst e1 e2;exact .idx hk.1 hk.2 hu' hd (jA hg) hv
        ·next hu=>
         split at h
         ·next hp=>
          split at h
          ·cases h
          ·next v r2=>
           split at h
           ·next hv=>
            simp only[bp,cD,bD]at h;obtain⟨rfl,rfl⟩:=h;exact .Sz hk.1 hk.2 hp hv
           ·cases h
         ·next hp=>
          simp only[bp,cD,bD]at h;obtain⟨rfl,rfl⟩:=h;refine .var hk.1 hk.2 (fun u' q' e=>?_);injection e with e1 _
          rw[<-e1];exact⟨by simpa using hu,by simpa using hp⟩
      ·obtain⟨t',q',v,e,hu,hd,hg,hv⟩:=sT h;injection e with e1 e2
       subst e1 e2;exact .par hu hd (jA hg) hv
def strict:Md->Nat
 | .loop _=>0
 |_=>1
variable {m:Md}
theorem Reads.len{l r:List Tk}(h:Reads m d l x r):r.length+strict m<=l.length:=by
 induction h with
 |top _ _ ih=>exact ih
 |row _ _ _ ih1 ih2=>simp only[strict]at *;omega
 |stop _=>simp[strict]
 |more _ _ _ ih1 ih2=>simp only[strict,aG]at *;omega
 |bare _ _ ih=>exact ih
 |sign _ _ _ ih=>simp only[strict,aG]at *;omega
 |num _=>simp[strict]
 |Sw _ _=>simp[strict]
 |Sy _ _=>simp[strict]
 |conv _ _ _ _ _ _ ih=>simp only[strict,aG]at *;omega
 |idx _ _ _ _ _ _ ih=>simp only[strict,aG]at *;omega
 |Sz _ _ _ _=>simp[strict]
 |var _ _ _=>simp[strict]
 |par _ _ _ _ ih=>simp only[strict,aG]at *;omega
def rank:Md->Nat
 | .pri=>0
 | .uA=>1
 | .loop _=>2
 | .row n=>3+(7-n)
theorem yj(hs:nameB t.s=true):t.s≠qS/\t.s≠qT/\xE t.s=0:=by
 have hk:Dq.contains t.s=false:=by
  unfold nameB at hs;rw[aH]at hs
  simpa using hs.1
 have no:∀s,s∈Dq->t.s≠s:=fun s hm e=>by
  rw[e]at hk;rw[dh.2 hm]at hk;cases hk
 refine⟨no _ (by decide),no _ (by decide),?_⟩;unfold xE;rw[if_neg (no _ (by decide)),if_neg (no _ (by decide)),if_neg (no _ (by decide))]
theorem Vn(hs:xE t.s≠0):t.s≠qS/\t.s≠qT:=by
 refine⟨fun e=>hs ?_,fun e=>hs ?_⟩ <;> rw[e] <;> decide
theorem vQ{s:Bs}(h:iX s t=true):t.kind=3/\t.s=s:=by
 unfold iX at h;rw[aH]at h;exact⟨of_decide_eq_true h.1,by simpa using h.2⟩
theorem vR{a b:Bs}{v:Tk}{q r:List Tk}{go:List Tk->Option qC}(ha:iX a t=true)(hd:d<200)(hg:go q=some (.ok (x,v::r)))(hb:iX b v=true):within a b d (t::q) go=some (.ok (x,r)):=by
 unfold within;simp only[];rw[if_pos ha,if_neg (by omega),hg];simp only[];rw[if_pos hb]
theorem KZ{l r:List Tk}(h:Reads m d l x r):∀f,12*l.length+rank m<f->rd f m d l=some (.ok (x,r)):=by
 induction h with
 |top hn _ ih=>
  intro f hf;obtain⟨f,rfl⟩:∃g,f=g+1:=⟨f-1,by omega⟩
  unfold rd;rw[if_pos hn];exact ih f (by simp only[rank]at *;omega)
 |row hn h1 h2 ih1 ih2=>
  intro f hf;obtain⟨f,rfl⟩:∃g,f=g+1:=⟨f-1,by omega⟩
  have l1:=h1.len;unfold rd;rw[if_neg (by omega),ih1 f (by simp only[rank]at *;omega)];simp only[];rw[ih2 f (by simp only[rank,strict]at *;omega)]
 | @stop n d l h=>
  intro f hf;obtain⟨f,rfl⟩:∃g,f=g+1:=⟨f-1,by omega⟩
  cases l with
  |nil=>rfl
  |cons t q=>
   unfold rd;simp only[];rw[h t q rfl]
 |more ho h1 h2 ih1 ih2=>
  intro f hf;obtain⟨f,rfl⟩:∃g,f=g+1:=⟨f-1,by omega⟩
  have l1:=h1.len;simp only[aG,rank,strict]at *;unfold rd;simp only[];rw[ho];simp only[];rw[ih1 f (by omega)];simp only[];rw[ih2 f (by omega)]
 |bare ho _ ih=>
  intro f hf;obtain⟨f,rfl⟩:∃g,f=g+1:=⟨f-1,by omega⟩
  unfold rd;simp only[];rw[ho];exact ih f (by simp only[rank]at *;omega)
 |sign ho hd _ ih=>
  intro f hf;obtain⟨f,rfl⟩:∃g,f=g+1:=⟨f-1,by omega⟩
  simp only[aG,rank]at *;unfold rd;simp only[];rw[ho];simp only[];rw[if_neg (by omega),ih f (by omega)];rfl
 |num hk=>
  intro f hf;obtain⟨f,rfl⟩:∃g,f=g+1:=⟨f-1,by omega⟩
  unfold rd;simp only[];rw[if_pos hk]
 |Sw hk hs=>
  intro f hf;obtain⟨f,rfl⟩:∃g,f=g+1:=⟨f-1,by omega⟩
  unfold rd;simp only[];rw[if_neg (by omega),if_pos ⟨hk,hs⟩]
 |Sy hk hs=>
  intro f hf;obtain⟨f,rfl⟩:∃g,f=g+1:=⟨f-1,by omega⟩
  unfold rd;simp only[];rw[if_neg (by omega),if_neg (fun e=>by rw[hs]at e;exact absurd e.2 (by decide)),if_pos ⟨hk,hs⟩]
 |conv hk hs hu hd h1 hv ih=>
  intro f hf;obtain⟨f,rfl⟩:∃g,f=g+1:=⟨f-1,by omega⟩
  obtain⟨n1,n2⟩:=Vn hs;simp only[aG,rank]at *;unfold rd;simp only[];rw[if_neg (by omega),if_neg (fun e=>n1 e.2),if_neg (fun e=>n2 e.2),if_pos ⟨hk,hs⟩,vR hu hd (ih f (by omega)) hv];rfl
 |idx hk hs hu hd h1 hv ih=>
  intro f hf;obtain⟨f,rfl⟩:∃g,f=g+1:=⟨f-1,by omega⟩
  obtain⟨n1,n2,n3⟩:=yj hs;simp only[aG,rank]at *;unfold rd;simp only[];rw[if_neg (by omega),if_neg (fun e=>n1 e.2),if_neg (fun e=>n2 e.2),if_neg (fun e=>e.2 n3),if_pos ⟨hk,hs⟩,vR hu hd (ih f (by omega)) hv];unfold named;simp only[];rw[if_pos hu];rfl
 |Sz hk hs hu hv=>
  intro f hf;obtain⟨f,rfl⟩:∃g,f=g+1:=⟨f-1,by omega⟩
  obtain⟨n1,n2,n3⟩:=yj hs;have hn:¬iX [91] _=true:=fun e=>by have:=(vQ e).2;rw[(vQ hu).2]at this;exact absurd this (by decide)
  unfold rd;simp only[];rw[if_neg (by omega),if_neg (fun e=>n1 e.2),if_neg (fun e=>n2 e.2),if_neg (fun e=>e.2 n3),if_pos ⟨hk,hs⟩];unfold named;simp only[];rw[if_neg hn,if_pos hu,if_pos hv]
 | @var d t r hk hs hr=>
  intro f hf;obtain⟨f,rfl⟩:∃g,f=g+1:=⟨f-1,by omega⟩
  obtain⟨n1,n2,n3⟩:=yj hs;unfold rd;simp only[];rw[if_neg (by omega),if_neg (fun e=>n1 e.2),if_neg (fun e=>n2 e.2),if_neg (fun e=>e.2 n3),if_pos ⟨hk,hs⟩];unfold named
  cases r with
  |nil=>rfl
  |cons u q=>
   obtain⟨a,b⟩:=hr u q rfl;simp only[];rw[a,b];rfl
 |par ht hd h1 hv ih=>
  intro f hf;obtain⟨f,rfl⟩:∃g,f=g+1:=⟨f-1,by omega⟩
  have hk:=(vQ ht).1;simp only[aG,rank]at *;unfold rd;simp only[];rw[if_neg (by omega),if_neg (fun e=>by omega),if_neg (fun e=>by omega),if_neg (fun e=>by omega),if_neg (fun e=>by omega)];exact vR ht hd (ih f (by omega)) hv
theorem nC:∀(f:Nat)(m:Md)(d:Nat)(l:List Tk),12*l.length+rank m<f->rd f m d l≠none
 |0,_,_,_,h=>absurd h (by omega)
 |f+1,.row n,d,l,h=>by
  simp only[rank]at h;unfold rd
  split
  ·exact nC f .uA d l (by simp only[rank];omega)
  ·next hn=>
   have e1:=nC f (.row (n+1)) d l (by simp only[rank];omega)
   split
   ·next x r h1=>
    have l1:=(jA h1).len;simp only[strict]at l1;have e2:=nC f (.loop n) d r (by simp only[rank];omega)
    split
    ·exact fun e=>by cases e
    ·exact e2
   ·exact e1
 |f+1,.loop n,d,[],h=>fun e=>by cases e
 |f+1,.loop n,d,t::q,h=>by
  simp only[rank,aG]at h;unfold rd;simp only[]
  split
  ·exact fun e=>by cases e
  ·have e1:=nC f (.row (n+1)) d q (by simp only[rank];omega)
   split
   ·next x r h1=>
    have l1:=(jA h1).len;simp only[strict]at l1;have e2:=nC f (.loop n) d r (by simp only[rank];omega)
    split
    ·exact fun e=>by cases e
    ·exact e2
   ·exact e1
 |f+1,.uA,d,[],h=>nC f .pri d [] (by simp only[rank,eY]at *;omega)
 |f+1,.uA,d,t::q,h=>by
  simp only[rank,aG]at h;unfold rd;simp only[]
  split
  ·exact nC f .pri d (t::q) (by simp only[rank,aG];omega)
  ·split
   ·exact fun e=>by cases e
   ·have e1:=nC f .uA (d+1) q (by simp only[rank];omega);unfold vP
    split
    ·exact fun e=>by cases e
    ·exact e1
 |f+1,.pri,d,[],h=>fun e=>by cases e
 |f+1,.pri,d,t::q,h=>by
  simp only[rank,aG]at h
  have wi:∀(a b:Bs)(l:List Tk),l.length<=q.length+1->within a b d l (rd f (.row 0) (d+1))≠none:=fun a b l hl=>by
   unfold within
   split
   ·exact fun e=>by cases e
   ·next u l'=>
    simp only[aG]at hl;have e1:=nC f (.row 0) (d+1) l' (by simp only[rank];omega)
    split
    ·split
     ·exact fun e=>by cases e
     ·split
      ·next hn=>exact absurd hn e1
      ·exact fun e=>by cases e
      ·split
       ·exact fun e=>by cases e
       ·split <;> exact fun e=>by cases e
    ·exact fun e=>by cases e
  have ad:∀(p:Pt)(y:Option qC),y≠none->vP p y≠none:=fun p y hy=>by
   unfold vP
   split
   ·exact fun e=>by cases e
   ·exact hy
  unfold rd;simp only[]
  split
  ·exact fun e=>by cases e
  ·split
   ·exact fun e=>by cases e
   ·split
    ·exact fun e=>by cases e
    ·split
     ·exact ad _ _ (wi _ _ q (by omega))
     ·split
      ·unfold named
       split
       ·exact fun e=>by cases e
       ·split
        ·exact ad _ _ (wi _ _ _ (by simp))
        ·split
         ·split
          ·exact fun e=>by cases e
          ·split <;> exact fun e=>by cases e
         ·exact fun e=>by cases e
      ·exact wi _ _ (t::q) (by simp)
def stops(r:List Tk):Prop:=∀t q,r=t::q->(∀n,r9 n t=none)/\iX [91] t=false/\iX [46] t=false
theorem Reads.swap{l r:List Tk}(h:Reads m d l x r):∃p,l=p++r/\∀s,(s.head?=r.head?\/stops s)->Reads m d (p++s) x s:=by
 induction h with
 |top hn _ ih=>
  obtain⟨p,e,k⟩:=ih;exact⟨p,e,fun s hs=>.top hn (k s hs)⟩
 | @row n d l r r' x y hn h1 h2 ih1 ih2=>
  obtain⟨p,e1,k1⟩:=ih1;obtain⟨q,e2,k2⟩:=ih2;refine⟨p++q,by rw[e1,e2,aO],fun s hs=>?_⟩;rw[aO];refine .row hn (k1 (q++s) ?_) (k2 s hs)
  cases q with
  |nil=>
   have er:r=r':=e2;rw[er];exact hs
  |cons a q'=>left;rw[e2];rfl
 | @stop n d l h=>
  refine⟨[],rfl,fun s hs=>.stop (fun t q e=>?_)⟩;have e:s=t::q:=e
  rcases hs with hs|hs
  ·rw[e]at hs
   cases l with
   |nil=>cases hs
   |cons t' q'=>
    have:t=t':=an hs;rw[this];exact h t' q' rfl
  ·exact(hs t q e).1 n
 | @more n d t k q r r' x y ho h1 h2 ih1 ih2=>
  obtain⟨p,e1,k1⟩:=ih1;obtain⟨p2,e2,k2⟩:=ih2;refine⟨t::(p++p2),by rw[e1,e2,bM,aO],fun s hs=>?_⟩;rw[bM,aO];refine .more ho (k1 (p2++s) ?_) (k2 s hs)
  cases p2 with
  |nil=>
   have er:r=r':=e2;rw[er];exact hs
  |cons a q'=>left;rw[e2];rfl
 | @bare d t q r x ho h1 ih=>
  obtain⟨p,e,k⟩:=ih
  cases p with
  |nil=>
   have l1:=h1.len;have:t::q=r:=e;rw[this]at l1;simp only[strict]at l1;omega
  |cons a p'=>
   have e':t::q=a::(p'++r):=e;injection e' with e1 e2
   subst e1;exact⟨t::p',by rw[e2];rfl,fun s hs=>.bare ho (k s hs)⟩
 | @sign d t k q r x ho hd h1 ih=>
  obtain⟨p,e,g⟩:=ih;exact⟨t::p,by rw[e];rfl,fun s hs=>.sign ho hd (g s hs)⟩
 | @num d t q hk=>exact⟨[t],rfl,fun s _=>.num hk⟩
 | @Sw d t q hk hs=>exact⟨[t],rfl,fun s _=>.Sw hk hs⟩
 | @Sy d t q hk hs=>exact⟨[t],rfl,fun s _=>.Sy hk hs⟩
 | @conv d t u v q r x hk hs hu hd h1 hv ih=>
  obtain⟨p,e,k⟩:=ih;refine⟨t::u::(p++[v]),by rw[e];simp,fun s _=>?_⟩;have:=k (v::s) (.inl rfl);have e2:(t::u::(p++[v]))++s=t::u::(p++v::s):=by simp
  rw[e2];exact .conv hk hs hu hd this hv
 | @idx d t u v q r x hk hs hu hd h1 hv ih=>
  obtain⟨p,e,k⟩:=ih;refine⟨t::u::(p++[v]),by rw[e];simp,fun s _=>?_⟩;have:=k (v::s) (.inl rfl);have e2:(t::u::(p++[v]))++s=t::u::(p++v::s):=by simp
  rw[e2];exact .idx hk hs hu hd this hv
 | @Sz d t u v r hk hs hu hv=>exact⟨[t,u,v],rfl,fun s _=>.Sz hk hs hu hv⟩
 | @var d t r hk hs hr=>
  refine⟨[t],rfl,fun s h=>.var hk hs (fun u q e=>?_)⟩;have e:s=u::q:=e
  rcases h with h|h
  ·rw[e]at h
   cases r with
   |nil=>cases h
   |cons u' q'=>
    have:u=u':=an h;rw[this];exact hr u' q' rfl
  ·exact(h u q e).2
 | @par d t v q r x ht hd h1 hv ih=>
  obtain⟨p,e,k⟩:=ih;refine⟨t::(p++[v]),by rw[e];simp,fun s _=>?_⟩;have:=k (v::s) (.inl rfl);have e2:(t::(p++[v]))++s=t::(p++v::s):=by simp
  rw[e2];exact .par ht hd this hv
inductive Ex
 |leaf (p:Pt)
 |one (p:Pt) (e:Ex)
 |two (p:Pt) (a b:Ex)
def flat:Ex->List Pt
 | .leaf p=>[p]
 | .one p e=>flat e++[p]
 | .two p a b=>flat a++(flat b++[p])
def dep:Ex->Nat
 | .leaf _=>1
 | .one _ e=>dep e+1
 | .two _ a b=>max (dep b) (dep a)+1
def xm(t n:Int):Bool:=if t=1 then decide (n=0)||decide (n=1)else if t=2 then decide (-32768<=n)&&decide (n<=32767)else if t=3\/t=4 then decide (-2147483648<=n)&&decide (n<=2147483647)else false
def jX(p:Pt):Bool:=
 if p.kind=1 then decide (p.s=[])&&(decide (p.f=[])&&(if p.t=0 then decide (-2147483648<=p.n)&&decide (p.n<=2147483648)else xm p.t p.n))
 else if p.kind=2\/p.kind=3 then decide (p.f=[])&&(decide (p.n=0)&&(decide (p.t=0)&&nameB p.s))
 else if p.kind=4 then decide (p.n=0)&&(decide (p.t=0)&&(nameB p.s&&kC p.f))
 else if p.kind=5 then decide (p.s=[])&&(decide (p.f=[])&&(decide (p.t=0)&&(decide (1<=p.n)&&decide (p.n<=16))))
 else if p.kind=6 then decide (p.s=[])&&(decide (p.f=[])&&(decide (p.n=0)&&(decide (2<=p.t)&&decide (p.t<=4))))
 else false
def well:Ex->Prop
 | .leaf p=>takes p=0/\jX p=true
 | .one p e=>takes p=1/\jX p=true/\well e
 | .two p a b=>takes p=2/\jX p=true/\well a/\well b
def jn(n:Int):Tk:=
 if n=1 then gP [43]else
 if n=2 then gP [45]else
 if n=3 then gP [42]else
 if n=4 then gP [47]else
 if n=5 then gO [77,79,68]else
 if n=6 then gO [65,78,68]else
 if n=7 then gO [79,82]else
 if n=8 then gO [88,79,82]else
 if n=9 then gP [61]else
 if n=10 then gP [60,62]else
 if n=11 then gP [60]else
 if n=12 then gP [60,61]else
 if n=13 then gP [62]else
 if n=14 then gP [62,61]else
 if n=15 then gP [45]else
 gO [78,79,84]
def toW(t:Int):Bs:=if t=2 then [84,79,95,73,78,84]else if t=3 then [84,79,95,68,73,78,84]else [84,79,95,84,73,77,69]
def brk(inner:Bool)(l:List Tk):List Tk:=if inner then gP [40]::(l++[gP [41]])else l
def iC:Ex->Bool->List Tk
 | .leaf p,_=>if p.kind=1 then(if p.t=1 then [gO (if p.n=1 then qS else qT)]else [mY p.n p.t])else if p.kind=2 then [gO p.s]else [gO p.s,gP [46],gO p.f]
 | .one p e,inner=>
  if p.kind=3 then gO p.s::gP [91]::(iC e false++[gP [93]])
  else if p.kind=6 then gO (toW p.t)::gP [40]::(iC e false++[gP [41]])
  else brk inner (jn p.n::iC e true)
 | .two p a b,inner=>brk inner (iC a true++jn p.n::iC b true)
theorem OY(hk:p.kind=5)(h:jX p=true):p=KY p.n/\1<=p.n/\p.n<=16:=by
 obtain⟨k,s,f,n,t⟩:=p;simp only[]at hk;subst hk;unfold jX at h;simp only[]at h;rw[if_neg (by decide),if_neg (by decide),if_neg (by decide),if_pos (by decide)]at h;simp only[aH,decide_eq_true_eq]at h;obtain⟨rfl,rfl,rfl,h1,h2⟩:=h;exact⟨rfl,h1,h2⟩
theorem Vo(hk:p.kind=6)(h:jX p=true):p=toP p.t/\(p.t=2\/p.t=3\/p.t=4):=by
 obtain⟨k,s,f,n,t⟩:=p;simp only[]at hk;subst hk;unfold jX at h;simp only[]at h;rw[if_neg (by decide),if_neg (by decide),if_neg (by decide),if_neg (by decide),if_pos (by decide)]at h;simp only[aH,decide_eq_true_eq]at h;obtain⟨rfl,rfl,rfl,h1,h2⟩:=h;exact⟨rfl,by show t=2\/t=3\/t=4;omega⟩
theorem Yn(hk:p.kind=3)(h:jX p=true):p=I0 p.s/\nameB p.s=true:=by
 obtain⟨k,s,f,n,t⟩:=p;simp only[]at hk;subst hk;unfold jX at h;simp only[]at h;rw[if_neg (by decide),if_pos (by decide)]at h;simp only[aH,decide_eq_true_eq]at h;obtain⟨rfl,rfl,rfl,h1⟩:=h;exact⟨rfl,h1⟩
theorem uB(ht:takes p=0)(h:jX p=true):(∃n t,p=uz n t/\(t=1->n=0\/n=1))\/(∃s,p=FP s/\nameB s=true)\/(∃s f,p=Ah s f/\nameB s=true):=by
 obtain⟨k,s,f,n,t⟩:=p;unfold takes at ht;unfold jX at h;simp only[]at h ht
 by_cases h1:k=1
 ·subst h1;rw[if_pos rfl]at h;simp only[aH,decide_eq_true_eq]at h;obtain⟨rfl,rfl,h3⟩:=h;refine .inl ⟨n,t,rfl,fun e=>?_⟩;subst e;rw[if_neg (by decide)]at h3;unfold xm at h3;rw[if_pos rfl,fM]at h3;exact h3.imp of_decide_eq_true of_decide_eq_true
 ·rw[if_neg h1]at h
  by_cases h2:k=2
  ·subst h2;rw[if_pos (.inl rfl)]at h;simp only[aH,decide_eq_true_eq]at h;obtain⟨rfl,rfl,rfl,h3⟩:=h;exact .inr (.inl ⟨s,rfl,h3⟩)
  ·by_cases h3:k=3
   ·rw[if_pos (.inl h3)]at ht;cases ht
   ·rw[if_neg (by omega)]at h
    by_cases h4:k=4
    ·subst h4;rw[if_pos rfl]at h;simp only[aH,decide_eq_true_eq]at h;obtain⟨rfl,rfl,h5,_⟩:=h;exact .inr (.inr ⟨s,f,rfl,h5⟩)
    ·rw[if_neg h4]at h
     by_cases h5:k=5
     ·rw[if_neg (by omega)]at ht
      split at ht
      ·cases ht
      ·first
       |(cases ht;done)
       |(rw[if_pos h5]at ht;cases ht)
     ·rw[if_neg h5]at h
      by_cases h6:k=6
      ·rw[if_pos (.inr h6)]at ht;cases ht
      ·rw[if_neg h6]at h;cases h
theorem BM(ht:takes p=1):p.kind=3\/p.kind=6\/(p.kind=5/\(p.n=15\/p.n=16)):=by
 unfold takes at ht
 split at ht
 ·next h=>exact h.imp id .inl
 ·split at ht
  ·next h=>exact .inr (.inr h)
  ·split at ht <;> cases ht
theorem BN(ht:takes p=2):p.kind=5/\¬ (p.n=15\/p.n=16):=by
 unfold takes at ht
 split at ht
 ·cases ht
 ·split at ht
  ·cases ht
  ·next h=>
   split at ht
   ·next h5=>exact⟨h5,fun e=>h ⟨h5,e⟩⟩
   ·cases ht
def rowOf(n:Int):Nat:=if n=7 then 0 else if n=8 then 1 else if n=6 then 2 else if n=9\/n=10 then 3 else if 11<=n then 4 else if n=1\/n=2 then 5 else 6
theorem SA(h:1<=n/\n<=14):rowOf n<7/\r9 (rowOf n) (jn n)=some n/\(∀m,rowOf n<m->r9 m (jn n)=none)/\iX [91] (jn n)=false/\iX [46] (jn n)=false:=by
 have hn:n=1\/n=2\/n=3\/n=4\/n=5\/n=6\/n=7\/n=8\/n=9\/n=10\/n=11\/n=12\/n=13\/n=14:=by omega
 have big:∀(m:Nat)(t:Tk),7<=m->r9 m t=none:=fun m t hm=>by
  unfold r9
  have:nh m=[]:=by
   unfold nh
   match m,hm with
   |m+7,_=>rfl
  rw[this];rfl
 have fin:∀n:Int,(rowOf n<7/\r9 (rowOf n) (jn n)=some n/\(∀m:Fin 7,rowOf n<m.val->r9 m.val (jn n)=none)/\iX [91] (jn n)=false/\iX [46] (jn n)=false)->
   rowOf n<7/\r9 (rowOf n) (jn n)=some n/\(∀m,rowOf n<m->r9 m (jn n)=none)/\iX [91] (jn n)=false/\iX [46] (jn n)=false:=fun n ⟨a,b,c,d⟩=>
  ⟨a,b,fun m hm=>if h:m<7 then c ⟨m,h⟩ hm else big m _ (by omega),d⟩
 rcases hn with rfl|rfl|rfl|rfl|rfl|rfl|rfl|rfl|rfl|rfl|rfl|rfl|rfl|rfl <;> exact fin _ (by decide+kernel)
theorem SB(h:n=15\/n=16):unOp (jn n)=some n:=by rcases h with rfl|rfl <;> decide
def qE(n:Nat)(r:List Tk):Prop:=∀t q,r=t::q->∀m,n<=m->r9 m t=none
theorem tN{n m:Nat}{r:List Tk}(h:qE n r)(hm:n<=m):qE m r:=fun t q e k hk=>h t q e k (by omega)
theorem sq{d:Nat}{l r:List Tk}{x:List Pt}(h:Reads .uA d l x r):∀(j n:Nat),n+j=7->qE n r->Reads (.row n) d l x r
 |0,n,e,_=>.top (by omega) h
 |j+1,n,e,hq=>by
  have:=Reads.row (n:=n) (by omega) (sq h j (n+1) (by omega) (tN hq (by omega))) (.stop (d:=d) (fun t q er=>hq t q er n (aj _)))
  rwa [bm]at this
theorem AL{d m:Nat}{l r:List Tk}{x:List Pt}(h:Reads (.row m) d l x r)(hm:m<=7):∀(j n:Nat),n+j=m->qE n r->Reads (.row n) d l x r
 |0,n,e,_=>by rw[Nat.add_zero]at e;rw[e];exact h
 |j+1,n,e,hq=>by
  have:=Reads.row (n:=n) (by omega) (AL h hm j (n+1) (by omega) (tN hq (by omega))) (.stop (d:=d) (fun t q er=>hq t q er n (aj _)))
  rwa [bm]at this
def soft(r:List Tk):Prop:=∀u q,r=u::q->iX [91] u=false/\iX [46] u=false
theorem tO{r:List Tk}(h:stops r):soft r:=fun u q e=>(h u q e).2
theorem pV{r:List Tk}(h:stops r):qE 0 r:=fun t q e m _=>(h t q e).1 m
theorem pW(r:List Tk):stops (gP [41]::r)/\stops (gP [93]::r):=by
 have big:∀(s:Bs)(m:Nat),(s=[41]\/s=[93])->r9 m (gP s)=none:=fun s m hs=>by
  match m with
  |0=>rcases hs with rfl|rfl <;> rfl
  |1=>rcases hs with rfl|rfl <;> rfl
  |2=>rcases hs with rfl|rfl <;> rfl
  |3=>rcases hs with rfl|rfl <;> rfl
  |4=>rcases hs with rfl|rfl <;> rfl
  |5=>rcases hs with rfl|rfl <;> rfl
  |6=>rcases hs with rfl|rfl <;> rfl
  |m+7=>rcases hs with rfl|rfl <;> rfl
 constructor
 ·intro t q e;injection e with e1 _
  rw[<-e1];exact⟨fun n=>big _ n (.inl rfl),by decide,by decide⟩
 ·intro t q e;injection e with e1 _
  rw[<-e1];exact⟨fun n=>big _ n (.inr rfl),by decide,by decide⟩
theorem OZ{t:Int}(h:t=2\/t=3\/t=4):xE (toW t)=t/\unOp (gO (toW t))=none:=by rcases h with rfl|rfl|rfl <;> decide
theorem yk{s:Bs}(h:nameB s=true):unOp (gO s)=none:=by
 unfold unOp;rw[if_neg (fun e=>absurd (show(1:Int)=3 from e.1) (by decide)),if_neg (fun e=>?_)];have:s=[78,79,84]:=e.2;rw[this]at h;exact absurd h (by decide)
def Atom(e:Ex):Prop:=∀d r,soft r->d+2*dep e<=190->Reads .uA d (iC e true++r) (flat e) r/\Reads .pri d (iC e true++r) (flat e) r
def Full(e:Ex):Prop:=∀d r,stops r->d+2*dep e<=191->Reads (.row 0) d (iC e false++r) (flat e) r
theorem oA{q r:List Tk}(h:unOp t=none)(h1:Reads .pri d (t::q) x r):Reads .uA d (t::q) x r/\Reads .pri d (t::q) x r:=⟨.bare h h1,h1⟩
theorem qU{e:Ex}(hs:iC e true=iC e false)(ha:∀d r,soft r->d+2*dep e<=191->Reads .uA d (iC e true++r) (flat e) r):Full e:=fun d r hr hd=>by
 have:=ha d r (tO hr) hd;rw[hs]at this;exact sq this 7 0 rfl (pV hr)
theorem shown:∀ {e:Ex},well e->Atom e/\Full e
 | .leaf p,h=>by
  have key:∀d r,soft r->Reads .uA d (iC (.leaf p) true++r) (flat (.leaf p)) r/\Reads .pri d (iC (.leaf p) true++r) (flat (.leaf p)) r:=fun d r hr=>by
   rcases uB h.1 h.2 with⟨n,t,rfl,hb⟩|⟨s,rfl,hn⟩|⟨s,f,rfl,hn⟩
   ·by_cases h1:t=1
    ·subst h1
     rcases hb rfl with rfl|rfl
     ·exact oA (t:=gO qT) (by decide) (.Sy rfl rfl)
     ·exact oA (t:=gO qS) (by decide) (.Sw rfl rfl)
    ·have e:iC (.leaf (uz n t)) true=[mY n t]:=by
      show(if(1:Int)=1 then(if t=1 then _ else _)else _)=_;rw[if_pos rfl,if_neg h1];rfl
     rw[e];exact oA (t:=mY n t) (by unfold unOp;rw[if_neg (fun e=>absurd (show(2:Int)=3 from e.1) (by decide)),if_neg (fun e=>absurd (show(2:Int)=1 from e.1) (by decide))]) (.num rfl)
   ·exact oA (t:=gO s) (yk hn) (.var rfl hn hr)
   ·exact oA (t:=gO s) (yk hn) (.Sz (u:=gP [46]) (v:=gO f) rfl hn (by decide) rfl)
  exact⟨fun d r hr _=>key d r hr,qU rfl (fun d r hr _=>(key d r hr).1)⟩
 | .one p e,h=>by
  obtain⟨ht,hm,hw⟩:=h;obtain⟨iA,iF⟩:=shown hw
  rcases BM ht with hk|hk|⟨hk,hn⟩
  ·obtain⟨hp,hname⟩:=Yn hk hm
   have es:∀i,iC (.one p e) i=gO p.s::gP [91]::(iC e false++[gP [93]]):=fun i=>by
    show(if p.kind=3 then _ else _)=_;rw[if_pos hk]
   have ef:flat (.one p e)=flat e++[I0 p.s]:=by show flat e++[p]=_;rw[<-hp]
   have key:∀d r,d+2*dep (.one p e)<=191->Reads .uA d (iC (.one p e) true++r) (flat (.one p e)) r/\Reads .pri d (iC (.one p e) true++r) (flat (.one p e)) r:=fun d r hd=>by
    have hd':d+2*(dep e+1)<=191:=hd;have:=iF (d+1) (gP [93]::r) (pW r).2 (by omega);rw[es,ef];have e2:(gO p.s::gP [91]::(iC e false++[gP [93]]))++r=gO p.s::gP [91]::(iC e false++gP [93]::r):=by simp
    rw[e2];exact oA (yk hname) (.idx (t:=gO p.s) (u:=gP [91]) rfl hname (by decide) (by omega) this (by decide))
   exact⟨fun d r _ hd=>key d r (by omega),qU (by rw[es,es]) (fun d r _ hd=>(key d r hd).1)⟩
  ·obtain⟨hp,htt⟩:=Vo hk hm;obtain⟨w1,w2⟩:=OZ htt
   have es:∀i,iC (.one p e) i=gO (toW p.t)::gP [40]::(iC e false++[gP [41]]):=fun i=>by
    show(if p.kind=3 then _ else _)=_;rw[if_neg (by omega),if_pos hk]
   have ef:flat (.one p e)=flat e++[toP (xE (gO (toW p.t)).s)]:=by
    show flat e++[p]=flat e++[toP (xE (toW p.t))];rw[w1,<-hp]
   have key:∀d r,d+2*dep (.one p e)<=191->Reads .uA d (iC (.one p e) true++r) (flat (.one p e)) r/\Reads .pri d (iC (.one p e) true++r) (flat (.one p e)) r:=fun d r hd=>by
    have hd':d+2*(dep e+1)<=191:=hd;have:=iF (d+1) (gP [41]::r) (pW r).1 (by omega);rw[es,ef];have e2:(gO (toW p.t)::gP [40]::(iC e false++[gP [41]]))++r=gO (toW p.t)::gP [40]::(iC e false++gP [41]::r):=by simp
    rw[e2];exact oA w2 (.conv (t:=gO (toW p.t)) (u:=gP [40]) rfl (by show xE (toW p.t)≠0;rw[w1];omega) (by decide) (by omega) this (by decide))
   exact⟨fun d r _ hd=>key d r (by omega),qU (by rw[es,es]) (fun d r _ hd=>(key d r hd).1)⟩
  ·obtain⟨hp,_⟩:=OY hk hm
   have es:∀i,iC (.one p e) i=brk i (jn p.n::iC e true):=fun i=>by
    show(if p.kind=3 then _ else _)=_;rw[if_neg (by omega),if_neg (by omega)]
   have ef:flat (.one p e)=flat e++[KY p.n]:=by show flat e++[p]=_;rw[<-hp]
   have full:Full (.one p e):=fun d r hr hd=>by
    have hd':d+2*(dep e+1)<=191:=hd;rw[es,ef];have:=(iA (d+1) r (tO hr) (by omega)).1;exact sq (.sign (t:=jn p.n) (SB hn) (by omega) this) 7 0 rfl (pV hr)
   refine⟨fun d r hr hd=>?_,full⟩;have hf:=full (d+1) (gP [41]::r) (pW r).1 (by omega);have e1:=es true;have e0:=es false;have e2:iC (.one p e) true++r=gP [40]::(iC (.one p e) false++gP [41]::r):=by rw[e1,e0];simp[brk]
   rw[e2];exact oA (by decide) (.par (t:=gP [40]) (by decide) (by omega) hf (by decide))
 | .two p a b,h=>by
  obtain⟨ht,hm,XH,hwb⟩:=h;obtain⟨aA,_⟩:=shown XH;obtain⟨bA,_⟩:=shown hwb;obtain⟨hk,hn⟩:=BN ht;obtain⟨hp,h1,h16⟩:=OY hk hm;obtain⟨o1,o2,o3,o4,o5⟩:=SA (n:=p.n) ⟨h1,by omega⟩;have ef:flat (.two p a b)=flat a++(flat b++KY p.n::[]):=by show flat a++(flat b++[p])=_;rw[<-hp]
  have full:Full (.two p a b):=fun d r hr hd=>by
   have hd':d+2*(max (dep b) (dep a)+1)<=191:=hd
   have e2:iC (.two p a b) false++r=iC a true++jn p.n::(iC b true++r):=by
    show(iC a true++jn p.n::iC b true)++r=_;simp
   rw[e2,ef];have ra:=(aA d (jn p.n::(iC b true++r)) (fun u q e=>by injection e with e1 _;rw[<-e1];exact⟨o4,o5⟩) (by omega)).1;have rb:=(bA d r (tO hr) (by omega)).1;have la:=sq ra (7-(rowOf p.n+1)) (rowOf p.n+1) (by omega) (fun t q e m hm=>by injection e with e1 _;rw[<-e1];exact o3 m (by omega));have lb:=sq rb (7-(rowOf p.n+1)) (rowOf p.n+1) (by omega) (tN (pV hr) (by omega));have lo:=Reads.more (n:=rowOf p.n) o2 lb (.stop (d:=d) (fun t q e=>(hr t q e).1 _));exact AL (.row o1 la lo) (by omega) (rowOf p.n) 0 (by omega) (pV hr)
  refine⟨fun d r hr hd=>?_,full⟩;have hf:=full (d+1) (gP [41]::r) (pW r).1 (by omega)
  have e2:iC (.two p a b) true++r=gP [40]::(iC (.two p a b) false++gP [41]::r):=by
   show(brk true (iC a true++jn p.n::iC b true))++r=gP [40]::((brk false (iC a true++jn p.n::iC b true))++gP [41]::r);simp[brk]
  rw[e2];exact oA (by decide) (.par (t:=gP [40]) (by decide) (by omega) hf (by decide))
def build:List Pt->List Ex->Option (List Ex)
 |[],st=>some st
 |p::x,st=>
  if takes p=0 then build x (.leaf p::st)
  else if takes p=1 then(match st with
   |a::r=>build x (.one p a::r)
   |[]=>none)
  else(match st with
   |b::a::r=>build x (.two p a b::r)
   |_=>none)
theorem oB:∀(x:List Pt)(st:List Ex),depths x (st.map dep)=(build x st).map (·.map dep)
 |[],st=>rfl
 |p::x,st=>by
  unfold depths build
  split
  ·exact oB x (.leaf p::st)
  ·split
   ·cases st with
    |nil=>rfl
    |cons a r=>exact oB x (.one p a::r)
   ·match st with
    |[]=>rfl
    |[a]=>rfl
    |b::a::r=>exact oB x (.two p a b::r)
def uC:List Ex->List Pt
 |[]=>[]
 |e::r=>uC r++flat e
theorem ym(p:Pt):takes p<=2:=by
 unfold takes
 repeat' split
 all_goals omega
theorem qV:∀ {x:List Pt}{st st':List Ex},build x st=some st'->uC st'=uC st++x
 |[],st,st',h=>by
  have h':some st=some st':=h;injection h' with h
  rw[h,bm]
 |p::x,st,st',h=>by
  unfold build at h
  split at h
  ·rw[qV h];show(uC st++[p])++x=_;simp
  ·split at h
   ·split at h
    ·next a r=>
     rw[qV h];show(uC r++(flat a++[p]))++x=(uC r++flat a)++p::x;simp
    ·cases h
   ·split at h
    ·next b a r=>
     rw[qV h];show(uC r++(flat a++(flat b++[p])))++x=((uC r++flat a)++flat b)++p::x;simp
    ·cases h
theorem qW:∀ {x:List Pt}{st st':List Ex},build x st=some st'->(∀p∈x,jX p=true)->(∀e∈st,well e)->∀e∈st',well e
 |[],st,st',h,_,hw=>by
  have h':some st=some st':=h;injection h' with h
  rw[<-h];exact hw
 |p::x,st,st',h,hm,hw=>by
  have hp:=hm p aT;have hx:∀q∈x,jX q=true:=fun q hq=>hm q (aK p hq)
  unfold build at h
  split at h
  ·next h0=>
   exact qW h hx (fun e he=>by
    rcases aI.1 he with rfl|he
    ·exact⟨h0,hp⟩
    ·exact hw e he)
  ·next h0=>
   split at h
   ·next h1=>
    split at h
    ·next a r=>
     exact qW h hx (fun e he=>by
      rcases aI.1 he with rfl|he
      ·exact⟨h1,hp,hw a aT⟩
      ·exact hw e (aK a he))
    ·cases h
   ·next h1=>
    split at h
    ·next b a r=>
     have h2:takes p=2:=by have:=ym p;omega
     exact qW h hx (fun e he=>by
      rcases aI.1 he with rfl|he
      ·exact⟨h2,hp,hw a (aK b aT),hw b aT⟩
      ·exact hw e (aK b (aK a he)))
    ·cases h
def kL(x:List Pt):Int:=if 500<x.length then 2 else if x.all jX=false then 60 else if depth x=0\/24<depth x then 60 else 0
theorem tP(h:kL x=0):∃e,well e/\flat e=x/\dep e=depth x/\dep e<=24/\x.length<=500:=by
 unfold kL at h
 split at h
 ·cases h
 ·next hl=>
  split at h
  ·cases h
  ·next ha=>
   split at h
   ·cases h
   ·next hd=>
    have hd':depth x≠0/\depth x<=24:=by omega
    have hb:=oB x []
    have hm:∀p∈x,jX p=true:=fun p hp=>by
     have:=(eZ.1 (by simpa using ha)) p hp;exact this
    have he:depth x=match depths x []with
     |some [d]=>d
     |_=>0:=rfl
    have hb':depths x []=(build x []).map (·.map dep):=hb;rw[hb']at he
    cases hbu:build x []with
    |none=>rw[hbu]at he;exact absurd he hd'.1
    |some st=>
     rw[hbu]at he
     match st,hbu,he with
     |[],hbu,he=>exact absurd he hd'.1
     |[e],hbu,he=>
      have hf:=qV hbu;have hw:=qW hbu hm (fun e he=>by cases he) e aT;have hf':flat e=x:=by simpa[uC]using hf
      have hde:depth x=dep e:=he;exact⟨e,hw,hf',hde.symm,by omega,by omega⟩
     |a::b::r,hbu,he=>exact absurd he hd'.1
abbrev sr:Bs:=[73,70]
abbrev jK:Bs:=[84,72,69,78]
abbrev jM:Bs:=[69,76,83,73,70]
abbrev lH:Bs:=[69,76,83,69]
abbrev jN:Bs:=[69,78,68,95,73,70]
abbrev jj:Bs:=[87,72,73,76,69]
abbrev qX:Bs:=[68,79]
abbrev kp:Bs:=[69,78,68,95,87,72,73,76,69]
abbrev iT:Bs:=[82,69,80,69,65,84]
abbrev mK:Bs:=[85,78,84,73,76]
abbrev iI:Bs:=[69,78,68,95,82,69,80,69,65,84]
abbrev j7:Bs:=[70,79,82]
abbrev vS:Bs:=[84,79]
abbrev vL:Bs:=[66,89]
abbrev km:Bs:=[69,78,68,95,70,79,82]
abbrev jE:Bs:=[67,65,83,69]
abbrev Dr:Bs:=[79,70]
abbrev jo:Bs:=[69,78,68,95,67,65,83,69]
abbrev kQ:Bs:=[69,88,73,84]
abbrev js:Bs:=[82,69,84,85,82,78]
abbrev ik:Bs:=[59]
abbrev jB:Bs:=[58]
abbrev ja:Bs:=[44]
abbrev iZ:Bs:=[58,61]
abbrev vT:Bs:=[91]
abbrev yn:Bs:=[93]
abbrev tr:Bs:=[40]
abbrev grp:Bs:=[41]
abbrev jV:Bs:=[45]
structure St where
 kind:Int
 name:Bs
 idx:List Pt
 x:List Pt
 y:List Pt
 gT:Int
 body:List St
 els:List St
 arms:List (List Int×List St)
 args:List (Bs×List Pt)
def st0:St:=⟨0,[],[],[],[],0,[],[],[],[]⟩
mutual
def jY:St->Nat
 |⟨_,_,_,_,_,_,b,e,a,_⟩=>1+iw b+iw e+kM a
def iw:List St->Nat
 |[]=>0
 |s::l=>jY s+iw l
def kM:List (List Int×List St)->Nat
 |[]=>0
 |a::l=>sd a+kM l
def sd:List Int×List St->Nat
 |(_,b)=>iw b
end
structure Nm where
 name:Bool
 idx:Bool
 x:Bool
 y:Bool
 gT:Bool
 body:Bool
 els:Bool
 arms:Bool
 args:Bool
def qF(k:Int):Option Nm:=
 if k=1 then some ⟨true,true,true,false,false,false,false,false,false⟩
 else if k=2 then some ⟨false,false,true,false,false,true,true,false,false⟩
 else if k=3 then some ⟨false,false,true,false,false,true,false,false,false⟩
 else if k=4 then some ⟨false,false,true,false,false,true,false,false,false⟩
 else if k=5 then some ⟨true,false,true,true,true,true,false,false,false⟩
 else if k=6 then some ⟨false,false,true,false,false,false,true,true,false⟩
 else if k=7 then some ⟨true,false,false,false,false,false,false,false,true⟩
 else if k=8 then some ⟨false,false,false,false,false,false,false,false,false⟩
 else if k=9 then some ⟨false,false,false,false,false,false,false,false,false⟩
 else none
def kg(n z r:Bool):Bool:=if n then r else z
def jk(n:Int):Bool:=decide (-2147483648<=n)&&decide (n<=2147483647)
def lP(x:List Pt):Bool:=decide (kL x=0)
def ot(a:List Int×List St):Bool:= !(decide (a.1.length=0)||decide (16<a.1.length))&&a.1.all jk
def lQ(l:List (List Int×List St)):Bool:=decide (l.length<=32)&&l.all ot
def rU(a:Bs×List Pt):Bool:=kC a.1&&lP a.2
def l9(l:List (Bs×List Pt)):Bool:=decide (l.length<=8)&&l.all rU
def l4(s:St):Bool:=match qF s.kind with
 |none=>false
 |some n=>kg n.name s.name.isEmpty (nameB s.name)&&(kg n.idx s.idx.isEmpty (s.idx.isEmpty||lP s.idx)&&(kg n.x s.x.isEmpty (lP s.x)&&(kg n.y s.y.isEmpty (lP s.y)&&(kg n.gT (decide (s.gT=0)) (!decide (s.gT=0)&&jk s.gT)&&(kg n.body s.body.isEmpty true&&(kg n.els s.els.isEmpty true&&(kg n.arms s.arms.isEmpty (lQ s.arms)&&kg n.args s.args.isEmpty (l9 s.args))))))))
def jb(k:Int)(el:List St):Bool:=decide (k=2)&&match el with
 |[e]=>decide (e.kind=2)
 |_=>false
mutual
def me(d:Nat):St->Bool
 |⟨k,nm,i,x,y,b_,bd,el,ar,ag⟩=>decide (d<=20)&&(l4 ⟨k,nm,i,x,y,b_,bd,el,ar,ag⟩&&(vU (d+1) ar&&(jO (d+1) bd&&jO (if jb k el then d else d+1) el)))
def jO(d:Nat):List St->Bool
 |[]=>true
 |s::l=>me d s&&jO d l
def vU(d:Nat):List (List Int×List St)->Bool
 |[]=>true
 |a::l=>FQ d a&&vU d l
def FQ(d:Nat):List Int×List St->Bool
 |(_,b)=>jO d b
end
def mL(l:List St):Bool:=decide (iw l<=400)&&jO 1 l
def jm(x:List Pt):List Tk:=match build x []with
 |some [e]=>iC e false
 |_=>[]
def vM(n:Int):List Tk:=if n<0 then [gP jV,mY (-n) 0]else [mY n 0]
def kS:List Int->List Tk
 |[]=>[]
 |[n]=>vM n
 |n::m::l=>vM n++gP ja::kS (m::l)
def ou:List (Bs×List Pt)->List Tk
 |[]=>[]
 |[a]=>gO a.1::gP iZ::jm a.2
 |a::b::l=>gO a.1::gP iZ::(jm a.2++gP ja::ou (b::l))
mutual
def kH:St->List Tk
 |⟨k,nm,i,x,y,b_,bd,el,ar,ag⟩=>
  if k=1 then gO nm::((if i.isEmpty then []else gP vT::(jm i++[gP yn]))++gP iZ::jm x)
  else if k=2 then gO sr::(jm x++gO jK::(iV bd++((if jb k el then Ry el else if el.isEmpty then []else gO lH::iV el)++[gO jN])))
  else if k=3 then gO jj::(jm x++gO qX::(iV bd++[gO kp]))
  else if k=4 then gO iT::(iV bd++gO mK::(jm x++[gO iI]))
  else if k=5 then gO j7::gO nm::gP iZ::(jm x++gO vS::(jm y++((if b_=1 then []else gO vL::vM b_)++gO qX::(iV bd++[gO km]))))
  else if k=6 then gO jE::(jm x++gO Dr::(pM ar++((if el.isEmpty then []else gO lH::iV el)++[gO jo])))
  else if k=7 then gO nm::gP tr::(ou ag++[gP grp])
  else if k=8 then [gO kQ]
  else if k=9 then [gO js]
  else []
def I1:St->List Tk
 |⟨k,_,_,x,_,_,bd,el,_,_⟩=>jm x++gO jK::(iV bd++(if jb k el then Ry el else if el.isEmpty then []else gO lH::iV el))
def Ry:List St->List Tk
 |[]=>[]
 |e::_=>gO jM::I1 e
def iV:List St->List Tk
 |[]=>[]
 |s::l=>kH s++gP ik::iV l
def pM:List (List Int×List St)->List Tk
 |[]=>[]
 |a::l=>ON a++pM l
def ON:List Int×List St->List Tk
 |(ls,b)=>kS ls++gP jB::iV b
end
structure Hd where
 s:St
 num:Int
 iU:Bool
 gX:Bool
 first:Nat
structure Sr where
 left:Nat
 within:Int
 iU:Bool
structure Rs where
 rest:List Tk
 hs:List Hd
 gY:List Sr
 many:Bool
 fault:Nat×Int
inductive Er
 |tok
 |exp
abbrev M(α:Type):=Rs->Rs×Except Er α
def ret{α:Type}(a:α):M α:=fun r=>(r,.ok a)
def bnd{α β:Type}(m:M α)(f:α->M β):M β:=fun r=>match m r with
 |(r',.ok a)=>f a r'
 |(r',.error e)=>(r',.error e)
def thn{α:Type}(m:M Unit)(n:M α):M α:=bnd m (fun _=>n)
def jW:List Tk->Tk
 |[]=>⟨0,[],0,0⟩
 |t::_=>t
def jI(k:Int)(s:Bs)(r:Rs):Bool:=decide ((jW r.rest).kind=k)&&((jW r.rest).s==s)
def jF(r:Rs):Rs:={r with rest:=r.rest.tail}
def I2:M Unit:=fun r=>(jF r,.ok ())
def lB(k:Int)(s:Bs):M Unit:=fun r=>if jI k s r then(jF r,.ok ())else(r,.error .tok)
abbrev gU(s:Bs):M Unit:=lB 1 s
abbrev iO(s:Bs):M Unit:=lB 3 s
def anyM:M Bs:=fun r=>if(jW r.rest).kind=1 then(jF r,.ok (jW r.rest).s)else(r,.error .tok)
def kN:M Bs:=fun r=>if nameB (jW r.rest).s then anyM r else(r,.error .tok)
def ir:M (List Pt):=fun r=>match parse r.rest with
 | .ok (x,q)=>({r with rest:=q},.ok x)
 | .error z=>({r with fault:=z},.error .exp)
def j8(step:Bool):M Int:=fun r=>
 let m:=jI 3 jV r
 let r1:=if m then jF r else r
 let t:=jW r1.rest
 if t.kind≠2\/t.ty≠0\/(step=true/\t.n=0)then(r1,.error .tok)
 else
  let n:=if m then -t.n else t.n
  if jk n then(jF r1,.ok n)else(r1,.error .tok)
def jZ(n most:Nat):M Unit:=fun r=>({r with many:=r.many||decide (most<n)},.ok ())
def jc(h:Hd)(s:St):Hd:=
 if h.gX then {h with s:={h.s with els:=h.s.els++[s]}}
 else if h.s.kind=6 then {h with s:={h.s with arms:=h.s.arms.dropLast++(match h.s.arms.getLast? with
  |some a=>[(a.1,a.2++[s])]
  |none=>[])}}
 else {h with s:={h.s with body:=h.s.body++[s]}}
def O4:Hd:=⟨st0,0,false,false,0⟩
def top(r:Rs):Hd:=r.hs.headD O4
def iS(h:Hd)(r:Rs):Rs:={r with hs:=h::r.hs.tail}
def K7(s:St):M Unit:=fun r=>(iS (jc (top r) s) r,.ok ())
def kI(s:St):M Unit:=thn (iO ik) (K7 s)
def iG(s:St):M Unit:=fun r=>({r with hs:=⟨s,(r.gY.length:Int)-1,false,false,0⟩::r.hs},.ok ())
def lM:List Hd->List Hd
 |h::g::l=>if h.iU then lM (jc g h.s::l)else jc g h.s::l
 |l=>l
 termination_by l=>l.length
def iQ:M Unit:=thn (iO ik) (fun r=>({r with hs:=lM r.hs},.ok ()))
def Dz(l:List Sr)(i:Nat):List Sr:=match l[i]? with
 |some s=>l.set i {s with iU:=false}
 |none=>l
def gZ:M Unit:=fun r=>
 let h:=top r
 if h.s.kind=2/\h.gX=true then
  (if h.s.els.isEmpty then
   let e:=jI 1 jM r||jI 1 sr r
   (iS {h with first:=r.gY.length} {r with gY:=r.gY++[⟨r.rest.length,h.num,e⟩]},.ok ())
  else({r with gY:=Dz r.gY h.first++[⟨r.rest.length,h.num,false⟩]},.ok ()))
 else({r with gY:=r.gY++[⟨r.rest.length,h.num,false⟩]},.ok ())
def tt(e:Bool):M Unit:=fun r=>(iS {top r with iU:=e} r,.ok ())
def mM(e:Bool):M Unit:=thn (I2) (bnd ir fun x=>thn (gU jK) (thn (iG {st0 with kind:=2,x:=x}) (tt e)))
def xo:M (List Pt):=fun r=>if jI 3 vT r then(thn (iO vT) (bnd ir fun x=>bnd (iO yn) fun _=>ret x)) r else(r,.ok [])
def lI:Nat->List (Bs×List Pt)->M (List (Bs×List Pt))
 |0,l=>ret l
 |f+1,l=>bnd anyM fun nm=>thn (iO iZ) (bnd ir fun x=>thn (jZ (l.length+1) 8) (fun r=>if jI 3 ja r then lI f (l++[(nm,x)]) (jF r)else(r,.ok (l++[(nm,x)]))))
def kD:M (List (Bs×List Pt)):=fun r=>if jI 3 grp r then(r,.ok [])else lI (r.rest.length+1) [] r
def iP(nm:Bs):M Unit:=fun r=>
 if jI 3 tr r then(thn (iO tr) (bnd kD fun a=>thn (iO grp) (kI {st0 with kind:=7,name:=nm,args:=a}))) r
 else(bnd xo fun i=>thn (iO iZ) (bnd ir fun x=>kI {st0 with kind:=1,name:=nm,idx:=i,x:=x})) r
def K8:M Int:=fun r=>if jI 1 vL r then(thn (gU vL) (j8 true)) r else(r,.ok 1)
def jT:M Bool:=fun r=>if(top r).gX=true\/jI 1 lH r=false then(r,.ok false)else(jF (iS {top r with gX:=true} r),.ok true)
def pO:Nat->List Int->M (List Int)
 |0,l=>ret l
 |f+1,l=>bnd (j8 false) fun n=>thn (jZ (l.length+1) 16) (fun r=>if jI 3 ja r then pO f (l++[n]) (jF r)else(r,.ok (l++[n])))
def qY:M Unit:=fun r=>(bnd (pO (r.rest.length+1) []) fun ls r1=>
 (thn (jZ ((top r1).s.arms.length+1) 32) (iO jB)) (iS {top r1 with s:={(top r1).s with arms:=(top r1).s.arms++[(ls,[])]}} r1)) r
def jd:M Unit:=fun r=>
 if(top r).gX=false/\jI 1 jM r=true then(thn (gZ) (mM true)) (iS {top r with gX:=true} r)
 else(bnd jT fun b=>if b then ret ()else thn (gU jN) (iQ)) r
def iN:M Unit:=fun r=>
 if(top r).gX=false/\((jW r.rest).kind=2\/jI 3 jV r=true)then qY r
 else(bnd jT fun b=>if b then ret ()else thn (gU jo) (iQ)) r
def mN:M Unit:=bnd ir fun x r=>(iS {top r with s:={(top r).s with x:=x}} r,.ok ())
def iq:M Unit:=fun r=>
 if(top r).s.kind=2 then jd r
 else if(top r).s.kind=6 then iN r
 else if(top r).s.kind=3 then(thn (gU kp) (iQ)) r
 else if(top r).s.kind=4 then(thn (gU mK) (thn (mN) (thn (gU iI) (iQ)))) r
 else(thn (gU km) (iQ)) r
def jq(w:Bs):M Unit:=
  if w=sr then mM false
  else if w=jj then thn (gU jj) (bnd ir fun x=>thn (gU qX) (iG {st0 with kind:=3,x:=x}))
  else if w=iT then thn (gU iT) (iG {st0 with kind:=4})
  else if w=j7 then thn (gU j7) (bnd kN fun nm=>thn (iO iZ) (bnd ir fun x=>thn (gU vS) (bnd ir fun y=>bnd K8 fun b=>thn (gU qX) (iG {st0 with kind:=5,name:=nm,x:=x,y:=y,gT:=b}))))
  else if w=jE then thn (gU jE) (bnd ir fun x=>thn (gU Dr) (thn (iG {st0 with kind:=6,x:=x}) (iq)))
  else if w=kQ then thn (gU kQ) (kI {st0 with kind:=8})
  else if w=js then thn (gU js) (kI {st0 with kind:=9})
  else bnd kN iP
def jr:M Unit:=fun r=>thn gZ (jq (jW r.rest).s) r
def qk(r:Rs):Bool:=decide ((jW r.rest).kind=1)&&(decide ((jW r.rest).s∈[sr,jj,iT,j7,jE,kQ,js])||nameB (jW r.rest).s)
def turn(r:Rs):Option (Rs×Except Er Unit):=if qk r then some (jr r)else if 1<r.hs.length then some (iq r)else none
def oV:Nat->M Unit
 |0,r=>(r,.ok ())
 |f+1,r=>match turn r with
  |none=>(r,.ok ())
  |some (r',.ok _)=>oV f r'
  |some (r',.error e)=>(r',.error e)
def mZ:List Sr->List Nat->Option Nat
 |[],_=>none
 |s::l,ds=>
  let d:=(if s.within= -1 then 0 else ds.getD s.within.toNat 0)+(if s.iU then 0 else 1)
  if 20<d then some s.left else mZ l (ds++[d])
def AM(l:List Tk):Rs:=⟨l,[⟨st0,-1,false,false,0⟩],[],false,(0,0)⟩
def lC(l:List Tk):Except (Nat×Int) (List St×List Tk):=
 match oV (l.length+1) (AM l)with
 |(r,e)=>match mZ r.gY []with
  |some k=>.error (k,2)
  |none=>match e with
   | .error .tok=>.error (r.rest.length,70)
   | .error .exp=>.error r.fault
   | .ok _=>if r.many=true\/400<r.gY.length then .error (l.length,2)else .ok (((r.hs.headD O4).s).body,r.rest)
def pd(base:Nat):Bool->Nat->Bs->Nat×Bs
 |_,n,[]=>(n,[])
 |p,n,c::r=>
  if worth c<base then pd base true (min (n*base+worth c) 4294967296) r
  else if p=true/\c=95/\headW base r=true then pd base true n r
  else(n,c::r)
def kh:Bs->Bool
 |[]=>false
 |c::_=>iY c||decide (c=95)
theorem yo{base:Nat}(hb:1<=base):∀(l:Bs)(p:Bool)(n:Nat),n<=4294967296->n<=(pd base p n l).1/\(pd base p n l).1<=4294967296
 |[],p,n,h=>⟨aj _,h⟩
 |c::r,p,n,h=>by
  unfold pd
  split
  ·have h1:n<=n*base:=Nat.le_mul_of_pos_right n hb;have:=yo hb r true (min (n*base+worth c) 4294967296) (by omega);omega
  ·split
   ·exact yo hb r true n h
   ·exact⟨aj _,h⟩
theorem yp(base:Nat):∀(l:Bs)(p:Bool)(n:Nat),∃k,k<=l.length/\(pd base p n l).2=l.drop k
 |[],p,n=>⟨0,aj _,rfl⟩
 |c::r,p,n=>by
  unfold pd
  split
  ·obtain⟨k,hk,e⟩:=yp base r true (min (n*base+worth c) 4294967296);exact⟨k+1,by simp;omega,e⟩
  ·split
   ·obtain⟨k,hk,e⟩:=yp base r true n;exact⟨k+1,by simp;omega,e⟩
   ·exact⟨0,Nat.zero_le _,rfl⟩
theorem yq(base:Nat)(l:Bs)(p:Bool)(n:Nat):(pd base p n l).2.length<=l.length:=by
 obtain⟨k,hk,e⟩:=yp base l p n;rw[e,bz];omega
variable {base:Nat}
theorem O6{most:Nat}(hb:1<=base)(hm:most<4294967296):∀(f:Nat)(l:Bs)(n:Nat),l.length<=f->n<=most->
  oT base most true n l=if(pd base true n l).1<=most/\kh (pd base true n l).2=false then some (pd base true n l)else none:=by
 intro f
 induction f with
 |zero=>
  intro l n hl hn
  match l,hl with
  |[],_=>simp[oT,pd,kh,hn]
 |succ f ih=>
  intro l n hl hn
  match l,hl with
  |[],_=>simp[oT,pd,kh,hn]
  |c::r,hl=>
   have hr:r.length<=f:=by simp at hl;omega
   have step:∀(c:UInt8)(r:Bs),r.length<=f->worth c<base->(if most<n*base+worth c then none else oT base most true (n*base+worth c) r)=if(pd base true n (c::r)).1<=most/\kh (pd base true n (c::r)).2=false then some (pd base true n (c::r))else none:=by
    intro c r hr hc;have e:pd base true n (c::r)=pd base true (min (n*base+worth c) 4294967296) r:=by rw[pd,if_pos hc]
    rw[e]
    by_cases h:most<n*base+worth c
    ·rw[if_pos h];have:=(yo hb r true (min (n*base+worth c) 4294967296) (by omega)).1;rw[if_neg (by omega)]
    ·rw[if_neg h,Nat.min_eq_left (by omega)];exact ih r _ hr (by omega)
   rw[oT]
   by_cases hc:worth c<base
   ·rw[if_pos hc];exact step c r hr hc
   ·rw[if_neg hc]
    by_cases hu:c=95/\headW base r=true
    ·rw[if_pos ⟨hu.1,rfl,hu.2⟩]
     match r,hr,hu with
     |d::q,hr,hu=>
      have hd:worth d<base:=by simpa[headW]using hu.2
      have e2:pd base true n (c::d::q)=pd base true n (d::q):=by
       rw[pd,if_neg hc,if_pos ⟨rfl,hu.1,hu.2⟩]
      rw[e2,oT,if_pos hd];exact step d q (by simp at hr;omega) hd
    ·rw[if_neg (fun h=>hu ⟨h.1,h.2.2⟩)]
     have e2:pd base true n (c::r)=(n,c::r):=by
      rw[pd,if_neg hc,if_neg (fun h=>hu ⟨h.2.1,h.2.2⟩)]
     rw[e2]
     by_cases hg:c=95\/iY c=true
     ·rw[if_pos rfl,if_pos hg,if_neg];rintro⟨_,h⟩
      rcases hg with rfl|hg
      ·simp[kh]at h
      ·simp[kh,hg]at h
     ·rw[if_pos rfl,if_neg hg,if_pos];refine⟨hn,?_⟩;simp only[kh];rw[Bool.or_eq_false_iff];exact⟨by simpa using fun h=>hg (Or.inr h),decide_eq_false fun h=>hg (Or.inl h)⟩
def FR(base:Nat)(l:Bs):Bool:=decide ((pd base false 0 l).2.length<l.length)&& !(kh (pd base false 0 l).2)
theorem uD{most:Nat}(hb:1<=base)(hb16:base<=16)(hm:most<4294967296)(h15:15<=most)(l:Bs):
  oT base most false 0 l=if FR base l=true/\(pd base false 0 l).1<=most then some (pd base false 0 l)else none:=by
 unfold FR
 match l with
 |[]=>simp[oT,pd]
 |c::r=>
  rw[oT]
  by_cases hc:worth c<base
  ·have e:pd base false 0 (c::r)=pd base true (worth c) r:=by
    rw[pd,if_pos hc,fy,fg,Nat.min_eq_left (by omega)]
   have hlen:(pd base true (worth c) r).2.length<(c::r).length:=by
    have:=yq base r true (worth c);simp;omega
   rw[if_pos hc,fy,fg,if_neg (by omega),e,O6 hb hm r.length r (worth c) (aj _) (by omega),decide_eq_true hlen,fu]
   by_cases h1:(pd base true (worth c) r).1<=most
   ·by_cases h2:kh (pd base true (worth c) r).2=false
    ·rw[if_pos ⟨h1,h2⟩,if_pos ⟨by rw[h2];rfl,h1⟩]
    ·rw[if_neg (fun h=>h2 h.2),if_neg];rintro⟨h,_⟩;simp only[Bool.not_eq_true']at h;exact h2 h
   ·rw[if_neg (fun h=>h1 h.1),if_neg (fun h=>h1 h.2)]
  ·have e:pd base false 0 (c::r)=(0,c::r):=by
    rw[pd,if_neg hc,if_neg (by rintro⟨h,_⟩;cases h)]
   rw[if_neg hc,if_neg (by rintro⟨_,h,_⟩;cases h),if_neg (by decide),e,if_neg];rintro⟨h,_⟩;simp at h
def qes(p:Prop):Prop:=p
theorem qes.o{p:Prop}(h:qes p):p:=h
theorem qet{p:Prop}(h:p):qes p:=h
theorem hZ{a b:Bool}(h:a=b):Ending.returned (.bool a)=.returned (.bool b):=by rw[h]
theorem qZ{k:IntKind}{a b:Int}(h:a=b):Ending.returned (.int k a)=.returned (.int k b):=by rw[h]
theorem mO(s:ByteArray):s.data.toList.length=s.size:=by rw[Array.length_toList];rfl
theorem oW{a b:ByteArray}(h:a.data.toList=b.data.toList):a=b:=ByteArray.ext (Array.toList_inj.1 h)
theorem list_size(l:List UInt8):(⟨l.toArray⟩:ByteArray).size=l.length:=by show l.toArray.size=_;simp
theorem xF(t:ByteArray)(l:List UInt8)(h:t.data.toList=l):t=⟨l.toArray⟩:=oW (by rw[h])
theorem Ho{a b:UInt8}:a<=b↔(a.toNat:Int)<=(b.toNat:Int):=by rw[UInt8.le_iff_toNat_le];omega
theorem AP{a b:UInt8}:a=b↔(a.toNat:Int)=(b.toNat:Int):=by rw[<-UInt8.toNat_inj];omega
theorem BO(c:UInt8):iY c=(decide ((48:Int)<=(c.toNat:Int))&&decide ((c.toNat:Int)<=57)):=by
 unfold iY;rw[bh];simp only[aH,decide_eq_true_eq,Ho];exact Iff.rfl
theorem O8(c:UInt8):isLet c=(decide ((97:Int)<=(c.toNat:Int))&&decide ((c.toNat:Int)<=122)||(decide ((65:Int)<=(c.toNat:Int))&&decide ((c.toNat:Int)<=90)||decide ((c.toNat:Int)=95))):=by
 unfold isLet;rw[bh];simp only[aH,fM,decide_eq_true_eq,Ho,AP];exact Iff.rfl
theorem Hp(c:UInt8):(c.toNat:Int)<256:=by have:=c.toNat_lt;omega
theorem nK(c:UInt8)(w:World):Calls ah 126 #[.int .u8 (c.toNat:Int)] w fun e w'=>e=.returned (.bool (iY c))/\w'=w:=by
 have E:=qet (BO c);generalize iY c=b at *;generalize(c.toNat:Int)=x at *
 by_cases h1:48<=x
 ·by_cases h2:x<=57
  ·go_enter Tryz.func126,Tryz.ntmps126;go_wp2;go_ret;exact⟨hZ (by rw[E.o];simp[h1,h2]),rfl⟩
  ·go_enter Tryz.func126,Tryz.ntmps126;go_wp2;go_ret;exact⟨hZ (by rw[E.o];simp[h1,h2]),rfl⟩
 ·go_enter Tryz.func126,Tryz.ntmps126;go_wp2;go_ret;exact⟨hZ (by rw[E.o];simp;omega),rfl⟩
theorem uF(c:UInt8)(w:World):Calls ah 124 #[.int .u8 (c.toNat:Int)] w fun e w'=>e=.returned (.bool (isLet c))/\w'=w:=by
 have E:=qet (O8 c);generalize isLet c=b at *;generalize(c.toNat:Int)=x at *
 by_cases h1:97<=x
 ·by_cases h2:x<=122
  ·have E2:=qet (show b=true by rw[E.o];simp[h1,h2]);clear E;go_enter ez,ek;go_wp2
   all_goals
    go_ret;exact⟨hZ (by rw[E2.o]),rfl⟩
  ·have E2:=qet (show b=false by rw[E.o];simp;omega);have h3:¬x<=90:=by omega
   have h4:65<=x:=by omega
   have h5:(x==95)=false:=by rw[beq_eq_false_iff_ne];omega
   clear E;go_enter ez,ek;go_wp2;go_ret;exact⟨hZ (by rw[E2.o]),rfl⟩
 ·by_cases h3:65<=x
  ·by_cases h4:x<=90
   ·have E2:=qet (show b=true by rw[E.o];simp;omega);clear E;go_enter ez,ek;go_wp2
    all_goals
     go_ret;exact⟨hZ (by rw[E2.o]),rfl⟩
   ·have E2:=qet (show b=(x==95) by rw[E.o,bh];simp;omega);clear E;go_enter ez,ek;go_wp2;go_ret;exact⟨hZ (by rw[E2.o]),rfl⟩
  ·have E2:=qet (show b=(x==95) by rw[E.o,bh];simp;omega);clear E;go_enter ez,ek;go_wp2;go_ret;exact⟨hZ (by rw[E2.o]),rfl⟩
theorem re(s:ByteArray)(k:Nat)(c:UInt8)(h:s.data.toList[k]? =some c)(W:World):(bR 9 (.string s) (.int .i64 (k:Int))).run ah W=.ok (.int .u8 (c.toNat:Int)) W:=by
 have e:s[k]? =some c:=by
  have hk:k<s.size:=by rw[<-mO];exact(List.getElem?_eq_some_iff.1 h).1
  rw[Array.getElem?_toList]at h;have h':=(Array.getElem?_eq_some_iff.1 h).2;simp[hk];exact h'
 have hk:k<s.size:=by rw[<-mO];exact(List.getElem?_eq_some_iff.1 h).1
 simp only[bR,asIntOf,Sem.run_bind,Sem.run_pure,cS,run_underlying ck];rw[if_pos (by omega),cP];simp[e]
variable {w:World}{B:Nat}
theorem kr{a:World}(h:Below B a w)(n:Nat):Below B a (w.drewN n):=h.trans ⟨rfl,rfl,rfl,aj _,fun _ _=>rfl⟩
theorem I3(t:ByteArray)(n:Nat):(t.extract n t.size).data.toList=t.data.toList.drop n:=by
 rw[ByteArray.data_extract,Array.toList_extract,List.extract_eq_take_drop];apply aX;rw[bz,mO];exact aj _
theorem DB(t:ByteArray)(a b:Nat):(t.extract a b).data.toList=(t.data.toList.drop a).take (b-a):=by
 rw[ByteArray.data_extract,Array.toList_extract,List.extract_eq_take_drop]
theorem oX(s:ByteArray)(n:Nat)(h:n<=s.size)(W:World):(fN 9 (.string s) (some (.int .i64 (n:Int))) none none).run ah W=.ok (.string ⟨(s.data.toList.drop n).toArray⟩) W:=by
 rw[run_slice_string_from_if _ _ _ _ _ ck,if_pos ⟨by omega,by omega⟩,cP,xF _ _ (I3 s n)]
theorem I4(c:UInt8):((worth c:Nat):Int)=if iY c=true then(c.toNat:Int)-48 else if(97:Int)<=(c.toNat:Int)/\(c.toNat:Int)<=102 then(c.toNat:Int)-87 else if(65:Int)<=(c.toNat:Int)/\(c.toNat:Int)<=70 then(c.toNat:Int)-55 else 99:=
 KQ (P:=fun c=>((worth c:Nat):Int)=if iY c=true then(c.toNat:Int)-48 else if(97:Int)<=(c.toNat:Int)/\(c.toNat:Int)<=102 then(c.toNat:Int)-87 else if(65:Int)<=(c.toNat:Int)/\(c.toNat:Int)<=70 then(c.toNat:Int)-55 else 99) (by decide+kernel) c
def DC(base:Nat)(c:UInt8):Int:=if worth c<base then(worth c:Int)else -1
theorem DD(h:worth c<base):DC base c=(worth c:Int):=by unfold DC;rw[if_pos h]
theorem DE(h:¬worth c<base):DC base c= -1:=by unfold DC;rw[if_neg h]
theorem DF(c:UInt8)(base:Nat)(h2:2<=base)(h16:base<=16)(w:World):Calls ah 223 #[.int .u8 (c.toNat:Int),.int .i64 (base:Int)] w fun e w'=>e=.returned (.int .i64 (DC base c))/\w'=w:=by
 have d:=fun W=>nK c W
 have E:=qet (I4 c);have hdi:=BO c;have hx:=Hp c
 have E2:=qet (show DC base c=if((worth c:Nat):Int)<(base:Int)then((worth c:Nat):Int)else -1 by
  unfold DC
  by_cases h:worth c<base
  ·rw[if_pos h,if_pos (by omega)]
  ·rw[if_neg h,if_neg (by omega)])
 generalize DC base c=r at *;generalize((worth c:Nat):Int)=v at *;generalize iY c=b at *;have hx0:(0:Int)<=(c.toNat:Int):=by omega
 generalize(c.toNat:Int)=x at *;have hb2:(2:Int)<=(base:Int):=by omega
 have hb16:(base:Int)<=16:=by omega
 generalize(base:Int)=y at *;clear h2 h16
 have E1:=qet (show if b=true then(48<=x/\x<=57)/\v=x-48 else if 97<=x/\x<=102 then v=x-87 else if 65<=x/\x<=70 then v=x-55 else v=99 by
  have e:=E.o
  split at e
  ·rename_i hb
   rw[if_pos hb];subst hb;have h:=hdi.symm;rw[aH]at h;exact⟨⟨of_decide_eq_true h.1,of_decide_eq_true h.2⟩,e⟩
  ·rename_i hb
   rw[if_neg hb]
   split at e
   ·rename_i h;rw[if_pos h];exact e
   ·rename_i h
    rw[if_neg h]
    split at e
    ·rename_i h;rw[if_pos h];exact e
    ·rename_i h;rw[if_neg h];exact e)
 clear E hdi
 cases b with
 |true=>
  have e1:=E1.o;rw[if_pos rfl]at e1;obtain⟨⟨r1,r2⟩,e1⟩:=e1;have e1:=qet e1;clear E1;go_enter Tryz.func223,Tryz.ntmps223;go_wp2_with fail;refine(d _).mono ?_;rintro e w1 ⟨rfl,rfl⟩;go_wp2
  all_goals
   go_ret;refine⟨qZ ?_,rfl⟩;rw[E2.o];have e:=e1.o
   split <;> omega
 |false=>
  have e1:=qet E1.o;rw[if_neg (by decide)]at e1;clear E1;go_enter Tryz.func223,Tryz.ntmps223;go_wp2_with fail;refine(d _).mono ?_;rintro e w1 ⟨rfl,rfl⟩;go_wp2
  all_goals
   go_ret;refine⟨qZ ?_,rfl⟩;rw[E2.o];have e:=e1.o;clear E2 e1 d
   split at e
   ·split <;> omega
   ·split at e
    ·split <;> omega
    ·split <;> omega
theorem yt(c:UInt8)(r:List UInt8):(⟨(c::r).toArray⟩:ByteArray).toList.isEmpty=false:=by
 rw[cB];rfl
theorem yu(l:List UInt8)(w:World):Calls ah 196 #[.string ⟨l.toArray⟩] w fun e w'=>e=.returned (.bool (kh l))/\w'=w:=by
 match l with
 |[]=>
  go_enter Tryz.func196,Tryz.ntmps196;go_wp2;go_ret;exact⟨rfl,rfl⟩
 |c::r=>
  have d:=fun W=>nK c W
  have x0:∀W,(bR 9 (.string ⟨(c::r).toArray⟩) (.int .i64 0)).run ah W=.ok (.int .u8 (c.toNat:Int)) W:=re ⟨(c::r).toArray⟩ 0 c rfl
  have E:=qet (show kh (c::r)=(iY c||decide ((c.toNat:Int)=95)) by
   show(iY c||decide (c=95))=_
   congr 1
   rw[bh];simp only[decide_eq_true_eq,AP]
   exact Iff.rfl)
  have hne:=yt c r;generalize kh (c::r)=b at *;generalize(⟨(c::r).toArray⟩:ByteArray)=s at *;generalize iY c=q at *;generalize(c.toNat:Int)=x at *
  cases q
  all_goals
   go_enter Tryz.func196,Tryz.ntmps196;go_wp2_with fail;refine(d _).mono ?_;rintro e w1 ⟨rfl,rfl⟩;go_wp2;go_ret;exact⟨hZ (by rw[E.o,bh];simp),rfl⟩
def La:List Value:=[.string ⟨#[66,79,79,76]⟩,.int .i64 1,.string ⟨#[73,78,84]⟩,.int .i64 2,.string ⟨#[68,73,78,84]⟩,.int .i64 3,.string ⟨#[84]⟩,.int .i64 4,.string ⟨#[84,73,77,69]⟩,.int .i64 4]
def rf:List Value:=[.string ⟨#[50,35]⟩,.int .i64 2,.string ⟨#[56,35]⟩,.int .i64 8,.string ⟨#[49,54,35]⟩,.int .i64 16]
def oC:List Value:=[.string ⟨#[58,61]⟩,.string ⟨#[60,61]⟩,.string ⟨#[62,61]⟩,.string ⟨#[60,62]⟩,.string ⟨#[42,42]⟩,.string ⟨#[46,46]⟩,.string ⟨#[40]⟩,.string ⟨#[41]⟩,.string ⟨#[91]⟩,.string ⟨#[93]⟩,.string ⟨#[44]⟩,.string ⟨#[59]⟩,.string ⟨#[58]⟩,.string ⟨#[46]⟩,.string ⟨#[43]⟩,.string ⟨#[45]⟩,.string ⟨#[42]⟩,.string ⟨#[47]⟩,.string ⟨#[61]⟩,.string ⟨#[60]⟩,.string ⟨#[62]⟩,.string ⟨#[38]⟩]
def sU:List Value:=[.string ⟨#[68]⟩,.int .i64 86400000,.string ⟨#[72]⟩,.int .i64 3600000,.string ⟨#[77]⟩,.int .i64 60000,.string ⟨#[83]⟩,.int .i64 1000,.string ⟨#[77,83]⟩,.int .i64 1]
def uG:List Value:=[.int .i64 0,.int .i64 0,.int .i64 0,.int .i64 1,.int .i64 (-32768),.int .i64 32767,.int .i64 (-2147483648),.int .i64 2147483647,.int .i64 (-2147483648),.int .i64 2147483647]
def TabAt(w:World)(b:Nat)(t:List Value):Prop:=∀k v,t[k]? =some v->w.cell? ⟨b,k,none⟩=some v
def su:List Value:=Dq.map fun s=>.string ⟨s.toArray⟩
def iK:List (Int×Int×Bs×Int):=[(0,1,[79,82],7),(1,1,[88,79,82],8),(2,1,[65,78,68],6),(2,3,[38],6),(3,3,[61],9),(3,3,[60,62],10),(4,3,[60],11),(4,3,[60,61],12),(4,3,[62],13),(4,3,[62,61],14),(5,3,[43],1),(5,3,[45],2),(6,3,[42],3),(6,3,[47],4),(6,1,[77,79,68],5),(7,1,[78,79,84],16),(7,3,[45],15)]
def nc:List Value:=iK.flatMap fun r=>[.int .i64 r.1,.int .i64 r.2.1,.string ⟨r.2.2.1.toArray⟩,.int .i64 r.2.2.2]
def ki:List (Bs×Int):=[([84,79,95,73,78,84],2),([84,79,95,68,73,78,84],3),([84,79,95,84,73,77,69],4)]
def ov:List Value:=ki.flatMap fun r=>[.string ⟨r.1.toArray⟩,.int .i64 r.2]
structure kZ(w:World):Prop where
 conv:TabAt w 12 ov
 ops:TabAt w 13 nc
 kw:TabAt w 5 su
 base:TabAt w 6 rf
 sign:TabAt w 7 oC
 span:TabAt w 11 uG
 ty:TabAt w 8 La
 most:∃m,w.cell? ⟨9,0,none⟩=some (.int .i64 m)
 unit:TabAt w 10 sU
variable {w':World}{b:Nat}
theorem TabAt.below{t:List Value}(h:TabAt w b t)(hb:Below B w w')(hB:b<B):TabAt w' b t:=fun k v e=>(hb.cell (p:=⟨b,k,none⟩) hB).trans (h k v e)
theorem kZ.lt(h:kZ w):13<w.heap.size:=World.block_lt_of_cell? w _ (h.ops 0 _ rfl)
theorem kZ.below(h:kZ w)(hb:Below B w w')(hB:13<B):kZ w':=
 ⟨h.conv.below hb (by omega),h.ops.below hb (by omega),h.kw.below hb (by omega),h.base.below hb (by omega),h.sign.below hb (by omega),h.span.below hb (by omega),h.ty.below hb (by omega),h.most.imp fun _ e=>(hb.cell (p:=⟨9,0,none⟩) (by show 9<B;omega)).trans e,h.unit.below hb (by omega)⟩
theorem kZ.on(h:kZ w)(hb:Below w.heap.size w w'):kZ w':=h.below hb h.lt
def vV(t:Tk)(at':Int):Value:=.agg #[.int .i64 t.kind,.string ⟨t.s.toArray⟩,.int .i64 t.n,.int .i64 t.ty,.int .i64 at']
def vW(o:Option (Tk×Bs))(L:Nat)(v:Value):Prop:=
 match o with
 |some (t,r)=>v=.tuple #[vV t 0,.int .i64 ((L-r.length:Nat):Int),.bool true]
 |none=>∃t n,v=.tuple #[vV t 0,.int .i64 n,.bool false]
theorem TabAt.alloc{t:List Value}(h:TabAt w b t)(hb:b<w.heap.size)(o:Obj):TabAt (w.alloc o) b t:=h.below ((aw w.heap.size w).alloc (aj _) o) hb
variable {ty:TypeId}
theorem oD{P:Program}{ops:Array Oper}{rest:List Oper}{a:Act}{Q:Exit->Act->World->Prop}{pos:String}{after:Array Edge}{dst:Option Tmp}{ty':TypeId}{x:Operand}{g:Option (Nat×Bool)}
  (h:wpList P ops Q ({dst:=dst,op:=.load ty x,type:=ty',pos:=pos,after:=after,guard:=g}::rest) a w):wpList P ops Q ({dst:=dst,op:=.load ty x,type:=ty',pos:=pos,after:=after,guard:=g}::rest) a w:=h
theorem mP{ops:Array Oper}{rest:List Oper}{a:Act}{Q:Exit->Act->World->Prop}{pos:String}{after:Array Edge}{dst:Option Tmp}{ty':TypeId}{x:Operand}{t:List Value}{T:Value}{d:TypeDesc}
  (hx:a.eval x=.pointer (some ⟨b,0,none⟩)) (h:TabAt w b t) (hT:fv t.toArray=T) (hu:ah.underlying ty=some d) (hd:d.isRow=true) (hi:(ah.info? ty).map (·.size)=some t.length)
  (k:wpList ah ops Q rest (a.put dst T) w):wpList ah ops Q ({dst:=dst,op:=.load ty x,type:=ty',pos:=pos,after:=after,guard:=none}::rest) a w:=
 wpList_load_mid rfl ty x rfl b 0 hx t d (fun j v e=>by rw[fg];exact h j v e) hu hd hi (by rw[hT];exact k)
theorem yw{e:TypeId}{n:Nat}(hu:ah.underlying ty=some (.array n e))(ha:∀W,(isAgg e).run ah W=.ok false W)(hz:∀W,(sizeOf e).run ah W=.ok 1 W)(cs:Array Value)(k:Nat)(hk:k<n)(v:Value)(hv:cs[k]? =some v)(W:World):
  (bR ty (.agg cs) (.int .i64 (k:Int))).run ah W=.ok v W:=by
 simp only[bR,asIntOf,Sem.run_bind,Sem.run_pure,cS,run_underlying hu];rw[if_pos ⟨by omega,by omega⟩];simp only[Sem.run_bind,hz,cS,part,ha,eX,if_false,cP,Nat.mul_one,hv,Sem.run_pure]
theorem qG{e:TypeId}{n m:Nat}(hu:ah.underlying ty=some (.array n e))(ha:∀W,(isAgg e).run ah W=.ok true W)(hz:∀W,(sizeOf e).run ah W=.ok m W)(cs:Array Value)(k:Nat)(hk:k<n)(vs:Array Value)(hv:cs.extract (k*m) (k*m+m)=vs)(W:World):
  (bR ty (.agg cs) (.int .i64 (k:Int))).run ah W=.ok (.agg vs) W:=by
 simp only[bR,asIntOf,Sem.run_bind,Sem.run_pure,cS,run_underlying hu];rw[if_pos ⟨by omega,by omega⟩];simp only[Sem.run_bind,hz,cS,part,ha,if_true,cP,hv,Sem.run_pure]
theorem yx(c:UInt8)(w:World):Calls ah 171 #[.int .u8 (c.toNat:Int)] w fun e w'=>e=.returned (.bool (iY c))/\w'=w:=by
 have E:=qet (BO c);generalize(c.toNat:Int)=x at *
 by_cases h1:(48:Int)<=x
 ·go_enter Tryz.func171,Tryz.ntmps171;go_wp2;go_ret;exact⟨hZ (by rw[E.o,bh];simp;try omega),rfl⟩
 ·go_enter Tryz.func171,Tryz.ntmps171;go_wp2;go_ret;exact⟨hZ (by rw[E.o,bh];simp;try omega),rfl⟩
def I5(c:UInt8):Bool:=(decide (65<=c)&&decide (c<=90))||decide (c=95)
theorem O9(c:UInt8):I5 c=((decide ((65:Int)<=(c.toNat:Int))&&decide ((c.toNat:Int)<=90))||decide ((c.toNat:Int)=95)):=by
 unfold I5;have e1:decide ((65:UInt8)<=c)=decide ((65:Int)<=(c.toNat:Int)):=by rw[decide_eq_decide,Ho];rfl
 have e2:decide (c<=(90:UInt8))=decide ((c.toNat:Int)<=90):=by rw[decide_eq_decide,Ho];rfl
 have e3:decide (c=(95:UInt8))=decide ((c.toNat:Int)=95):=by rw[decide_eq_decide,AP];rfl
 rw[e1,e2,e3]
theorem Pa(c:UInt8):yi c=(I5 c||iY c):=by
 unfold yi I5
 cases iY c <;> cases(decide (65<=c)&&decide (c<=90)) <;> simp
theorem Lb(c:UInt8)(w:World):Calls ah 172 #[.int .u8 (c.toNat:Int)] w fun e w'=>e=.returned (.bool (I5 c))/\w'=w:=by
 have E:=qet (O9 c);generalize(c.toNat:Int)=x at *
 by_cases h1:(65:Int)<=x
 ·by_cases h2:x<=90
  ·go_enter Tryz.func172,Tryz.ntmps172;go_wp2;go_ret;exact⟨hZ (by rw[E.o,bh];simp;try omega),rfl⟩
  ·go_enter Tryz.func172,Tryz.ntmps172;go_wp2;go_ret;exact⟨hZ (by rw[E.o,bh];simp;try omega),rfl⟩
 ·go_enter Tryz.func172,Tryz.ntmps172;go_wp2;go_ret;exact⟨hZ (by rw[E.o,bh];simp;try omega),rfl⟩
theorem kj(a b:ByteArray):(a.toList==b.toList)=decide (a=b):=by
 rw[cB,cB]
 by_cases h:a=b
 ·rw[h,decide_eq_true rfl];exact beq_self_eq_true _
 ·rw[decide_eq_false h,beq_eq_false_iff_ne];exact fun e=>h (oW e)
theorem nil_text(s:Bs):(⟨s.toArray⟩:ByteArray).toList.isEmpty=decide (s=[]):=by
 rw[cB]
 cases s <;> rfl
theorem AQ(s:Bs)(w:World):Calls ah 136 #[.string ⟨s.toArray⟩] w fun e w'=>e=.returned (.bool (kC s))/\w'=w:=by
 match s with
 |[]=>
  go_enter eK,eF;go_wp2;go_ret;exact⟨rfl,rfl⟩
 |c::r=>
  have e2:(⟨(c::r).toArray⟩:ByteArray).toList.isEmpty=false:=by rw[nil_text];rfl
  have hsz:=list_size (c::r);have HW:qes (kC (c::r)=(decide (r.length+1<=24)&&(!iY c&&(c::r).all yi))):=rfl;have HX:qes (∀(i:Nat)(h:i<(c::r).length),∀W:World,(bR 9 (.string ⟨(c::r).toArray⟩) (.int .i64 (i:Int))).run ah W=.ok (.int .u8 ((c::r)[i].toNat:Int)) W):=fun i h W=>re ⟨(c::r).toArray⟩ i (c::r)[i] (List.getElem?_eq_getElem h) W
  have x0:=HX.o 0 (by simp);simp only[List.getElem_cons_zero]at x0;have Bx:∀W:World,(bR 9 (.string ⟨(c::r).toArray⟩) (.int .i64 0)).run ah W=.ok (.int .u8 (c.toNat:Int)) W:=x0;have d0:=yx c w;clear x0
  by_cases hl:24<(c::r).length
  ·have i1:(24:Int)<((⟨(c::r).toArray⟩:ByteArray).size:Int):=by omega
   have HE:qes (kC (c::r)=false):=by
    show _=_;rw[HW.o,decide_eq_false (by simp at hl;omega)];rfl
   generalize(⟨(c::r).toArray⟩:ByteArray)=S at *;clear hsz HX d0 Bx hl;go_enter eK,eF;go_wp2;go_ret;exact⟨hZ HE.o.symm,rfl⟩
  ·have i1:¬ (24:Int)<((⟨(c::r).toArray⟩:ByteArray).size:Int):=by omega
   have HT:qes (decide (r.length+1<=24)=true):=decide_eq_true (by simp at hl;omega);obtain⟨N,hN⟩:∃N,N=(c::r).length:=⟨_,rfl⟩
   have HN:=qet hN;rw[<-hN]at hsz hl;have n1:(N:Int)<=24:=by omega
   generalize(⟨(c::r).toArray⟩:ByteArray)=S at *;have Yo:=qet hsz
   cases hd:iY c with
   |true=>
    rw[hd]at d0
    have HE:qes (kC (c::r)=false):=by
     show _=_;rw[HW.o,hd];simp
    clear hsz HX hl hN;go_enter eK,eF;go_wp2_with fail;refine d0.mono ?_;rintro e w1 ⟨rfl,hw1⟩;subst hw1;go_wp2;go_ret;exact⟨hZ HE.o.symm,rfl⟩
   |false=>
    rw[hd]at d0
    have HE:qes (kC (c::r)=(c::r).all yi):=by
     show _=_;rw[HW.o,HT.o,hd];simp
    have hsz2:(S.size:Int)=(N:Int):=by omega
    clear hl hN hsz HW HT;go_enter eK,eF;go_wp2_with fail;refine d0.mono ?_;rintro e w1 ⟨rfl,hw1⟩;subst hw1;clear d0 Bx;go_wp2_with fail
    go_loopw [18] (fun i wr=>∃k:Nat,k<=N/\i=.int .i64 (k:Int)/\qes (((c::r).take k).all yi=true/\wr=w1)) (fun i _=>N-(intOf i).toNat)
    case atStart=>exact⟨0,by omega,rfl,rfl,rfl⟩
    case round=>
     obtain⟨k,hk,rfl,hh⟩:=hrel;obtain⟨ha,hw⟩:=hh.o;subst hw;have HA:=qet ha
     by_cases hlt:k<N
     ·have j1:(k:Int)<(N:Int):=by omega
      have hki:k<(c::r).length:=by rw[<-HN.o];exact hlt
      have xi:=HX.o k hki;obtain⟨b,hb⟩:∃b,b=(c::r)[k]:=⟨_,rfl⟩
      rw[<-hb]at xi;have c1:=fun W=>Lb b W
      have c2:=fun W=>yx b W
      have HS:qes (yi b=true->((c::r).take (k+1)).all yi=true):=fun h=>by
       rw[cr,List.all_append,HA.o,List.getElem?_eq_getElem hki,<-hb];simp[h]
      have HF:qes (yi b=false->(c::r).all yi=false):=fun h=>by
       rw[List.all_eq_false];exact⟨b,by rw[hb];exact List.getElem_mem hki,by rw[h];decide⟩
      have HC:=qet (Pa b);clear hb hki ha hh;go_wp2_with fail;refine(c1 _).mono ?_;rintro e w2 ⟨rfl,hw2⟩;subst hw2
      cases hcb:I5 b with
      |true=>
       have HR:=qet (HS.o (by rw[HC.o,hcb];rfl));clear c1 c2 HS HF;go_wp2
       go_roundw
       case rel=>exact⟨k+1,by omega,by go_num,HR.o,by trivial⟩
       case measure=>simp[intOf];omega
      |false=>
       go_wp2_with fail;refine(c2 _).mono ?_;rintro e w3 ⟨rfl,hw3⟩;subst hw3
       cases hdb:iY b with
       |true=>
        have HR:=qet (HS.o (by rw[HC.o,hcb,hdb];rfl));clear c1 c2 HS HF;go_wp2
        go_roundw
        case rel=>exact⟨k+1,by omega,by go_num,HR.o,by trivial⟩
        case measure=>simp[intOf];omega
       |false=>
        have HR:=qet (HF.o (by rw[HC.o,hcb,hdb];rfl));clear c1 c2 HS HF;go_wp2;go_ret;exact⟨hZ (by rw[HE.o,HR.o]),rfl⟩
     ·obtain rfl:k=N:=by omega
      have HT2:qes ((c::r).all yi=true):=by
       have h:=HA.o;rw[aX (by rw[<-HN.o];exact aj _)]at h;exact h
      clear hh ha HA;go_wp2;go_ret;exact⟨hZ (by rw[HE.o,HT2.o]),rfl⟩
theorem Lc:(ah.info? 171).map (·.size)=some 51:=by kernel_rfl
theorem Pb:(ah.info? 171).map (·.size)=some su.length:=Lc
theorem SD(k:Nat)(h:k<51)(W:World):(bR 171 (.agg su.toArray) (.int .i64 (k:Int))).run ah W=.ok (.string ⟨(Dq[k]'h).toArray⟩) W:=
 yw Tryz.underlying171 (fun _=>Tryz.isAgg9 _) (fun _=>Tryz.sizeOf9 _) _ k h _ (by
  rw[List.getElem?_toArray,su,List.getElem?_map,List.getElem?_eq_getElem (show k<Dq.length from h)];rfl) W
theorem oP(s:Bs)(w:World)(hg:TabAt w 5 su):Calls ah 86 #[.string ⟨s.toArray⟩] w fun e w'=>e=.returned (.bool (nameB s))/\w'=w:=by
 have HN:qes (nameB s=(!(Dq.contains s)&&kC s)):=rfl;have c1:=fun W=>AQ s W
 have ix:qes (∀(k:Nat)(h:k<51)(W:World),(bR 171 (.agg su.toArray) (.int .i64 (k:Int))).run ah W=.ok (.string ⟨(Dq[k]'h).toArray⟩) W):=SD;obtain⟨S,hS⟩:∃S:ByteArray,S=⟨s.toArray⟩:=⟨_,rfl⟩
 rw[<-hS]at c1 ⊢;have HS:=qet hS;clear hS;obtain⟨KT,hT⟩:∃KT,fv su.toArray=KT:=⟨_,rfl⟩
 rw[hT]at ix;go_enter Tryz.func86,Tryz.ntmps86;go_wp2_with((with_reducible refine oD (ty:=171) ?_);go_must (refine mP (b:=5) (t:=su) (T:=KT) rfl hg hT Tryz.underlying171 rfl Pb ?_));clear hg hT
 go_loop [6] (fun i=>∃k:Nat,k<=51/\i=.int .i64 (k:Int)/\qes ((Dq.take k).contains s=false)) (fun i=>51-(intOf i).toNat)
 case atStart=>exact⟨0,by omega,rfl,rfl⟩
 case round=>
  obtain⟨k,hk,rfl,hf⟩:=hrel
  by_cases hlt:k<51
  ·have x0:=ix.o k hlt;have i1:(k:Int)<51:=by omega
   obtain⟨g,hgk⟩:∃g,g=Dq[k]'hlt:=⟨_,rfl⟩
   rw[<-hgk]at x0;have bt:=kj ⟨g.toArray⟩ S;have HM:qes (g∈Dq):=by rw[hgk];exact List.getElem_mem _
   have Vp:qes (Dq.take (k+1)=Dq.take k++[g]):=by
    show _=_;rw[cr,List.getElem?_eq_getElem (show k<Dq.length from hlt),hgk];rfl
   obtain⟨u,HU⟩:∃u:ByteArray,qes ((⟨g.toArray⟩:ByteArray)=u):=⟨_,rfl⟩
   rw[HU.o]at x0 bt;clear hgk ix
   by_cases he:u=S
   ·have hb:(u.toList==S.toList)=true:=by rw[bt];exact decide_eq_true he
    have HE:qes (nameB s=false):=by
     show _=_
     have hgs:g=s:=by
      have e:(⟨g.toArray⟩:ByteArray)=⟨s.toArray⟩:=by rw[HU.o,<-HS.o];exact he
      simpa using congrArg (fun x:ByteArray=>x.data.toList) e
     rw[HN.o,show Dq.contains s=true from by rw[dh,<-hgs];exact HM.o];rfl
    clear bt he c1 hf;go_wp2;go_ret;exact⟨hZ HE.o.symm,rfl⟩
   ·have hb:(u.toList==S.toList)=false:=by rw[bt];exact decide_eq_false he
    have HR:qes ((Dq.take (k+1)).contains s=false):=by
     show _=_;rw[Vp.o];have h1:=hf.o;rw[Bool.eq_false_iff,Ne,dh]at h1 ⊢;intro h
     rcases aN.1 h with h|h
     ·exact h1 h
     ·exact he (by rw[<-HU.o,HS.o,aL.1 h])
    clear bt he c1 hf;go_wp2
    go_round
    case rel=>exact⟨k+1,by omega,by go_num,HR.o⟩
    case measure=>simp[intOf];omega
  ·obtain rfl:k=51:=by omega
   have HE:qes (nameB s=kC s):=by
    show _=_;have h:=hf.o;rw[aX (show Dq.length<=51 from aj _)]at h;rw[HN.o,h];rfl
   clear hf ix;go_wp2_with fail;refine(c1 _).mono ?_;rintro e w1 ⟨rfl,hw1⟩;subst hw1;go_wp2;go_ret;exact⟨hZ HE.o.symm,rfl⟩
def XI(t:Int):Bool:=decide (1<=t)&&decide (t<=4)
theorem FU(t:Int)(w:World):Calls ah 222 #[.int .i64 t] w fun e w'=>e=.returned (.bool (XI t))/\w'=w:=by
 have E:=qet (show XI t=(decide (1<=t)&&decide (t<=4))from rfl)
 by_cases h1:1<=t
 ·by_cases h2:t<=4
  ·rw[E.o,decide_eq_true h1,decide_eq_true h2];clear E;go_enter dX,dP;go_wp2;go_ret;exact⟨rfl,rfl⟩
  ·rw[E.o,decide_eq_true h1,decide_eq_false h2];clear E;go_enter dX,dP;go_wp2;go_ret;exact⟨rfl,rfl⟩
 ·rw[E.o,decide_eq_false h1];clear E;go_enter dX,dP;go_wp2;go_ret;exact⟨rfl,rfl⟩
theorem fits_all(t n:Int)(w:World)(hg:TabAt w 11 uG):Calls ah 194 #[.int .i64 t,.int .i64 n] w fun e w'=>e=.returned (.bool (xm t n))/\w'=w:=by
 have g0:=hg 2 _ rfl;have g1:=hg 3 _ rfl;have g2:=hg 4 _ rfl;have g3:=hg 5 _ rfl;have g4:=hg 6 _ rfl;have g5:=hg 7 _ rfl;have g6:=hg 8 _ rfl;have g7:=hg 9 _ rfl;clear hg;have c:=FU t
 by_cases ht:t=1\/t=2\/t=3\/t=4
 ·have E1:=qet (show xm 1 n=(decide (0<=n)&&decide (n<=1)) by
   show(decide (n=0)||decide (n=1))=_
   rw[bh];simp;omega)
  have E2:=qet (show xm 2 n=(decide (-32768<=n)&&decide (n<=32767))from rfl);have E3:=qet (show xm 3 n=(decide (-2147483648<=n)&&decide (n<=2147483647))from rfl);have E4:=qet (show xm 4 n=(decide (-2147483648<=n)&&decide (n<=2147483647))from rfl)
  rcases ht with rfl|rfl|rfl|rfl
  all_goals
   go_enter Tryz.func194,Tryz.ntmps194;go_wp2_with fail;refine(c _).mono ?_;rintro e w1 ⟨rfl,rfl⟩;go_wp2
  all_goals
   go_ret;refine⟨hZ ?_,rfl⟩
   first
    |(rw[E1.o,bh];simp;omega)
    |(rw[E2.o,bh];simp;omega)
    |(rw[E3.o,bh];simp;omega)
    |(rw[E4.o,bh];simp;omega)
 ·have E:qes (xm t n=false):=by
   show _=_;unfold xm;rw[if_neg (by omega),if_neg (by omega),if_neg (by omega)]
  rw[show XI t=false from by unfold XI;rw[fA];simp;omega]at c;go_enter Tryz.func194,Tryz.ntmps194;go_wp2_with fail;refine(c _).mono ?_;rintro e w1 ⟨rfl,rfl⟩;go_wp2;go_ret;exact⟨hZ E.o.symm,rfl⟩
def FW(t n:Int):Bool:=if t=0 then decide (-2147483648<=n)&&decide (n<=2147483648)else xm t n
theorem BP(t n:Int)(w:World)(hg:TabAt w 11 uG):Calls ah 208 #[.int .i64 t,.int .i64 n] w fun e w'=>e=.returned (.bool (FW t n))/\w'=w:=by
 by_cases ht:t=0
 ·subst ht;have E:qes (FW 0 n=(decide (-2147483648<=n)&&decide (n<=2147483648))):=rfl;clear hg
  by_cases h1:(-2147483648:Int)<=n
  ·go_enter Tryz.func208,Tryz.ntmps208;go_wp2;go_ret;exact⟨hZ (by rw[E.o,bh];simp;try omega),rfl⟩
  ·go_enter Tryz.func208,Tryz.ntmps208;go_wp2;go_ret;exact⟨hZ (by rw[E.o,bh];simp;try omega),rfl⟩
 ·have E:qes (FW t n=xm t n):=by show _=_;rw[FW,if_neg ht]
  have c:=fits_all t n w hg;clear hg;go_enter Tryz.func208,Tryz.ntmps208;go_wp2_with fail;refine c.mono ?_;rintro e w1 ⟨rfl,rfl⟩;go_wp2;go_ret;exact⟨hZ E.o.symm,rfl⟩
def opA(r:Int×Int×Bs×Int):Value:=.agg #[.int .i64 r.1,.int .i64 r.2.1,.string ⟨r.2.2.1.toArray⟩,.int .i64 r.2.2.2]
def Yp:Value:=.agg #[.int .i64 0,.int .i64 0,.string ⟨#[]⟩,.int .i64 0]
def qm(n:Int):Option (Int×Int×Bs×Int):=iK.find? fun r=>decide (r.2.2.2=n)
def wO(n:Int):Value:=match qm n with
 |some r=>.tuple #[opA r,.bool true]
 |none=>.tuple #[Yp,.bool false]
theorem Ld:(ah.info? 252).map (·.size)=some 68:=by kernel_rfl
theorem Hq:(ah.info? 252).map (·.size)=some nc.length:=Ld
theorem Le(k:Nat)(h:k<17):nc.toArray.extract (k*4) (k*4+4)=#[.int .i64 (iK[k]'h).1,.int .i64 (iK[k]'h).2.1,.string ⟨(iK[k]'h).2.2.1.toArray⟩,.int .i64 (iK[k]'h).2.2.2]:=by
 have hk:k=0\/k=1\/k=2\/k=3\/k=4\/k=5\/k=6\/k=7\/k=8\/k=9\/k=10\/k=11\/k=12\/k=13\/k=14\/k=15\/k=16:=by omega
 rcases hk with rfl|rfl|rfl|rfl|rfl|rfl|rfl|rfl|rfl|rfl|rfl|rfl|rfl|rfl|rfl|rfl|rfl <;> rfl
theorem Lf(k:Nat)(h:k<17)(W:World):(bR 252 (.agg nc.toArray) (.int .i64 (k:Int))).run ah W=.ok (.agg #[.int .i64 (iK[k]'h).1,.int .i64 (iK[k]'h).2.1,.string ⟨(iK[k]'h).2.2.1.toArray⟩,.int .i64 (iK[k]'h).2.2.2]) W:=
 qG Tryz.underlying252 (fun _=>Tryz.isAgg231 _) (fun _=>Tryz.sizeOf231 _) _ k h _ (Le k h) W
theorem yy(n:Int)(w:World)(hg:TabAt w 13 nc)(h1:13<w.heap.size):Calls ah 202 #[.int .i64 n] w fun e w'=>e=.returned (wO n)/\Below w.heap.size w w':=by
 have ix:qes (∀(k:Nat)(h:k<17)(W:World),(bR 252 (.agg nc.toArray) (.int .i64 (k:Int))).run ah W=.ok (.agg #[.int .i64 (iK[k]'h).1,.int .i64 (iK[k]'h).2.1,.string ⟨(iK[k]'h).2.2.1.toArray⟩,.int .i64 (iK[k]'h).2.2.2]) W):=Lf;obtain⟨KT,hT⟩:∃KT,fv nc.toArray=KT:=⟨_,rfl⟩
 rw[hT]at ix;have ht:∀o,TabAt (w.alloc o) 13 nc:=hg.alloc h1;have B0:=qet ((aw w.heap.size w).alloc (aj _) (.cells #[.int .i64 0,.int .i64 0,.string ⟨#[]⟩,.int .i64 0] 231));clear hg h1;go_enter Tryz.func202,Tryz.ntmps202;go_wp2_with((with_reducible refine oD (ty:=252) ?_);go_must (refine mP (b:=13) (t:=nc) (T:=KT) rfl (ht _) hT Tryz.underlying252 rfl Hq ?_));clear ht hT
 go_loopw [7] (fun i wr=>∃k:Nat,k<=17/\i=.int .i64 (k:Int)/\qes (wr.heap[w.heap.size]? =some (.cells #[.int .i64 0,.int .i64 0,.string ⟨#[]⟩,.int .i64 0] 231)/\Below w.heap.size w wr/\(iK.drop k).find? (fun r=>decide (r.2.2.2=n))=qm n)) (fun i _=>17-(intOf i).toNat)
 case atStart=>exact⟨0,by omega,rfl,aE w _,B0.o,rfl⟩
 case round=>
  clear B0;obtain⟨k,hk,rfl,hh⟩:=hrel;have hblk:=hh.o.1;have HB:=qet hh.o.2.1;have hf:=hh.o.2.2;have z0:w.heap.size<wr.heap.size:=(Array.getElem?_eq_some_iff.1 hblk).1;clear hh
  by_cases hlt:k<17
  ·have x0:=ix.o k hlt;have i1:(k:Int)<17:=by omega
   rw[eW (show k<iK.length from hlt),List.find?_cons]at hf;generalize(iK[k]'hlt)=r at *;obtain⟨r0,r1,r2,r3⟩:=r;simp only[]at x0 hf;obtain⟨u,hu⟩:∃u:ByteArray,u=⟨r2.toArray⟩:=⟨_,rfl⟩
   rw[<-hu]at x0;have HU:=qet hu;have zr:=HB.o.size;have B1:=HB.o.alloc zr (.cells #[.int .i64 r0,.int .i64 r1,.string u,.int .i64 r3] 231)
   have hblk1:(wr.alloc (.cells #[.int .i64 r0,.int .i64 r1,.string u,.int .i64 r3] 231)).heap[w.heap.size]? =some (.cells #[.int .i64 0,.int .i64 0,.string ⟨#[]⟩,.int .i64 0] 231):=by
    rw[bj wr _ w.heap.size z0];exact hblk
   clear ix hu
   by_cases he:r3=n
   ·rw[decide_eq_true he]at hf;have HF:=qet hf;subst he;have e0:∀j,wr.frozen? ⟨w.heap.size,j,none⟩=false:=fun j=>aC hblk j
    have d0:wr.cell? ⟨w.heap.size,0,none⟩=some (.int .i64 0):=by rw[af hblk];rfl
    have d1:wr.cell? ⟨w.heap.size,1,none⟩=some (.int .i64 0):=by rw[af hblk];rfl
    have d2:wr.cell? ⟨w.heap.size,2,none⟩=some (.string ⟨#[]⟩):=by rw[af hblk];rfl
    have d3:wr.cell? ⟨w.heap.size,3,none⟩=some (.int .i64 0):=by rw[af hblk];rfl
    have BB:=qet B1;clear hf hblk hblk1 B1;go_wp2;refine aU (v:=.tuple #[.agg #[.int .i64 r0,.int .i64 r1,.string u,.int .i64 r3],.bool true]) ?_ rfl ⟨?_,?_⟩
    ·simp[aV,Tryz.results202,go_sem, *]
    ·rw[wO,<-HF.o,HU.o];rfl
    ·exact((((HB.o.setCell (p:=⟨w.heap.size,0,none⟩) (aj _) _).setCell (p:=⟨w.heap.size,1,none⟩) (aj _) _).setCell (p:=⟨w.heap.size,2,none⟩) (aj _) _).setCell (p:=⟨w.heap.size,3,none⟩) (aj _) _).alloc (by simp;omega) _
   ·rw[decide_eq_false he]at hf;have HF:=qet hf;have hen:(r3==n)=false:=by rw[beq_eq_false_iff_ne];exact he
    have BB:=qet (fw hblk1 B1);clear hf hblk hblk1 B1 he;go_wp2
    go_roundw
    case rel=>exact⟨k+1,by omega,by go_num,BB.o.1,BB.o.2,HF.o⟩
    case measure=>simp[intOf];omega
  ·obtain rfl:k=17:=by omega
   have HF:qes (qm n=none):=hf.symm;have e0:∀j,wr.frozen? ⟨w.heap.size,j,none⟩=false:=fun j=>aC hblk j
   have d0:wr.cell? ⟨w.heap.size,0,none⟩=some (.int .i64 0):=by rw[af hblk];rfl
   have d1:wr.cell? ⟨w.heap.size,1,none⟩=some (.int .i64 0):=by rw[af hblk];rfl
   have d2:wr.cell? ⟨w.heap.size,2,none⟩=some (.string ⟨#[]⟩):=by rw[af hblk];rfl
   have d3:wr.cell? ⟨w.heap.size,3,none⟩=some (.int .i64 0):=by rw[af hblk];rfl
   clear hf hblk ix;go_wp2;refine aU (v:=.tuple #[Yp,.bool false]) ?_ rfl ⟨?_,?_⟩
   ·simp[aV,Tryz.results202,go_sem,Yp, *]
   ·rw[wO,HF.o]
   ·exact(((HB.o.setCell (p:=⟨w.heap.size,0,none⟩) (aj _) _).setCell (p:=⟨w.heap.size,1,none⟩) (aj _) _).setCell (p:=⟨w.heap.size,2,none⟩) (aj _) _).setCell (p:=⟨w.heap.size,3,none⟩) (aj _) _
def cvA(r:Bs×Int):Value:=.agg #[.string ⟨r.1.toArray⟩,.int .i64 r.2]
def Yq:Value:=.agg #[.string ⟨#[]⟩,.int .i64 0]
def qo(n:Int):Option (Bs×Int):=ki.find? fun r=>decide (r.2=n)
def yz(n:Int):Value:=match qo n with
 |some r=>.tuple #[cvA r,.bool true]
 |none=>.tuple #[Yq,.bool false]
theorem Lg:(ah.info? 251).map (·.size)=some 6:=by kernel_rfl
theorem Hr:(ah.info? 251).map (·.size)=some ov.length:=Lg
theorem Lh(k:Nat)(h:k<3):ov.toArray.extract (k*2) (k*2+2)=#[.string ⟨(ki[k]'h).1.toArray⟩,.int .i64 (ki[k]'h).2]:=by
 have hk:k=0\/k=1\/k=2:=by omega
 rcases hk with rfl|rfl|rfl <;> rfl
theorem Li(k:Nat)(h:k<3)(W:World):(bR 251 (.agg ov.toArray) (.int .i64 (k:Int))).run ah W=.ok (.agg #[.string ⟨(ki[k]'h).1.toArray⟩,.int .i64 (ki[k]'h).2]) W:=
 qG Tryz.underlying251 (fun _=>Tryz.isAgg227 _) (fun _=>Tryz.sizeOf227 _) _ k h _ (Lh k h) W
theorem DH(n:Int)(w:World)(hg:TabAt w 12 ov)(h1:12<w.heap.size):Calls ah 201 #[.int .i64 n] w fun e w'=>e=.returned (yz n)/\Below w.heap.size w w':=by
 have ix:qes (∀(k:Nat)(h:k<3)(W:World),(bR 251 (.agg ov.toArray) (.int .i64 (k:Int))).run ah W=.ok (.agg #[.string ⟨(ki[k]'h).1.toArray⟩,.int .i64 (ki[k]'h).2]) W):=Li;obtain⟨KT,hT⟩:∃KT,fv ov.toArray=KT:=⟨_,rfl⟩
 rw[hT]at ix;have ht:∀o,TabAt (w.alloc o) 12 ov:=hg.alloc h1;have B0:=qet ((aw w.heap.size w).alloc (aj _) (.cells #[.string ⟨#[]⟩,.int .i64 0] 227));clear hg h1;go_enter Tryz.func201,Tryz.ntmps201;go_wp2_with((with_reducible refine oD (ty:=251) ?_);go_must (refine mP (b:=12) (t:=ov) (T:=KT) rfl (ht _) hT Tryz.underlying251 rfl Hr ?_));clear ht hT
 go_loopw [7] (fun i wr=>∃k:Nat,k<=3/\i=.int .i64 (k:Int)/\qes (wr.heap[w.heap.size]? =some (.cells #[.string ⟨#[]⟩,.int .i64 0] 227)/\Below w.heap.size w wr/\(ki.drop k).find? (fun r=>decide (r.2=n))=qo n)) (fun i _=>3-(intOf i).toNat)
 case atStart=>exact⟨0,by omega,rfl,aE w _,B0.o,rfl⟩
 case round=>
  clear B0;obtain⟨k,hk,rfl,hh⟩:=hrel;have hblk:=hh.o.1;have HB:=qet hh.o.2.1;have hf:=hh.o.2.2;have z0:w.heap.size<wr.heap.size:=(Array.getElem?_eq_some_iff.1 hblk).1;have e0:∀j,wr.frozen? ⟨w.heap.size,j,none⟩=false:=fun j=>aC hblk j
  have d0:wr.cell? ⟨w.heap.size,0,none⟩=some (.string ⟨#[]⟩):=by rw[af hblk];rfl
  have d1:wr.cell? ⟨w.heap.size,1,none⟩=some (.int .i64 0):=by rw[af hblk];rfl
  clear hh
  by_cases hlt:k<3
  ·have x0:=ix.o k hlt;have i1:(k:Int)<3:=by omega
   rw[eW (show k<ki.length from hlt),List.find?_cons]at hf;generalize(ki[k]'hlt)=r at *;obtain⟨r0,r1⟩:=r;simp only[]at x0 hf;obtain⟨u,hu⟩:∃u:ByteArray,u=⟨r0.toArray⟩:=⟨_,rfl⟩
   rw[<-hu]at x0;have HU:=qet hu;have zr:=HB.o.size;have B1:=HB.o.alloc zr (.cells #[.string u,.int .i64 r1] 227)
   have hblk1:(wr.alloc (.cells #[.string u,.int .i64 r1] 227)).heap[w.heap.size]? =some (.cells #[.string ⟨#[]⟩,.int .i64 0] 227):=by
    rw[bj wr _ w.heap.size z0];exact hblk
   clear ix hu
   by_cases he:r1=n
   ·rw[decide_eq_true he]at hf;have HF:=qet hf;subst he;clear hf hblk hblk1 B1;go_wp2;refine aU (v:=.tuple #[.agg #[.string u,.int .i64 r1],.bool true]) ?_ rfl ⟨?_,?_⟩
    ·simp[aV,Tryz.results201,go_sem, *]
    ·rw[yz,<-HF.o,HU.o];rfl
    ·exact((HB.o.setCell (p:=⟨w.heap.size,0,none⟩) (aj _) _).setCell (p:=⟨w.heap.size,1,none⟩) (aj _) _).alloc (by simp;omega) _
   ·rw[decide_eq_false he]at hf;have HF:=qet hf;have hen:(r1==n)=false:=by rw[beq_eq_false_iff_ne];exact he
    have BB:=qet (fw hblk1 B1);clear hf hblk hblk1 B1 he d0 d1 e0;go_wp2
    go_roundw
    case rel=>exact⟨k+1,by omega,by go_num,BB.o.1,BB.o.2,HF.o⟩
    case measure=>simp[intOf];omega
  ·obtain rfl:k=3:=by omega
   have HF:qes (qo n=none):=hf.symm;clear hf hblk ix;go_wp2;refine aU (v:=.tuple #[Yq,.bool false]) ?_ rfl ⟨?_,?_⟩
   ·simp[aV,Tryz.results201,go_sem,Yq, *]
   ·rw[yz,HF.o]
   ·exact(HB.o.setCell (p:=⟨w.heap.size,0,none⟩) (aj _) _).setCell (p:=⟨w.heap.size,1,none⟩) (aj _) _
theorem BQ(k n t:Int)(s f:ByteArray)(w:World):Calls ah 168 #[.agg #[.int .i64 k,.int .i64 n,.int .i64 t,.string s,.string f]] w fun e w'=>e=.returned (.int .i64 ((takes ⟨k,[],[],n,t⟩:Nat):Int))/\Below w.heap.size w w':=by
 have B0:=qet ((aw w.heap.size w).alloc (aj _) (.cells #[.int .i64 k,.int .i64 n,.int .i64 t,.string s,.string f] 42));have HT:qes (takes ⟨k,[],[],n,t⟩=if k=3\/k=6 then 1 else if k=5/\(n=15\/n=16)then 1 else if k=5 then 2 else 0):=rfl
 by_cases h3:k=3
 ·subst h3;rw[if_pos (.inl rfl)]at HT;go_enter dY,dQ;go_wp2;go_ret;exact⟨by rw[HT.o];rfl,B0.o⟩
 by_cases h6:k=6
 ·subst h6;rw[if_pos (.inr rfl)]at HT;go_enter dY,dQ;go_wp2;go_ret;exact⟨by rw[HT.o];rfl,B0.o⟩
 rw[if_neg (by omega)]at HT
 by_cases h5:k=5
 ·subst h5
  by_cases h15:n=15
  ·subst h15;rw[if_pos (by omega)]at HT;go_enter dY,dQ;go_wp2;go_ret;exact⟨by rw[HT.o];rfl,B0.o⟩
  by_cases h16:n=16
  ·subst h16;rw[if_pos (by omega)]at HT;go_enter dY,dQ;go_wp2;go_ret;exact⟨by rw[HT.o];rfl,B0.o⟩
  rw[if_neg (by omega),if_pos rfl]at HT;have q1:(n==15)=false:=by rw[beq_eq_false_iff_ne];exact h15
  have q2:(n==16)=false:=by rw[beq_eq_false_iff_ne];exact h16
  go_enter dY,dQ;go_wp2;go_ret;exact⟨by rw[HT.o];rfl,B0.o⟩
 ·rw[if_neg (by omega),if_neg h5]at HT;have q1:(k==3)=false:=by rw[beq_eq_false_iff_ne];exact h3
  have q2:(k==6)=false:=by rw[beq_eq_false_iff_ne];exact h6
  have q3:(k==5)=false:=by rw[beq_eq_false_iff_ne];exact h5
  go_enter dY,dQ;go_wp2;go_ret;exact⟨by rw[HT.o];rfl,B0.o⟩
end Go.Proofs.YtekanffohkeoeaaGreatDoor
