/- Statements (at most 1048576 values in all) that are shown are read as just these; what was read from tokens is shown, and read again as the same. -/
import Derived.Test.YtekanffohkeoeaaGreatDoorFrame
import Derived.Test.YtekanffohkeoeaaGreatDoorUiW
namespace Go.Proofs.YtekanffohkeoeaaGreatDoor.stmtBack
open Go.ChangeShapes Go.WideShapes Go.ChangeAt Go.RowKit
open Go.ChangeMaps (open_string shut_string)
set_option maxRecDepth 100000 in
theorem contract(H:Type)(enc:TypeId×Value->H)(W:World)(base:Nat)(args:Array Value)(ds gs:List (DataW H))(before:List MemPlace)
  (hval:∀(j:Nat) t v,Tryz.f5.params[j]? =some t->args[j]? =some v->Value.okWide Tryz.prog W .any base t v)
  (hW:DataW.Whole enc Tryz.prog Tryz.f5.params.toList Rows.stmtBackSpec.vars false W args.toList ds gs before) (hsz:(DataW.weightsEach Tryz.prog (Tryz.f5.params.toList++(OpenSpec.ofChange Rows.stmtBackSpec).bare.plain.varTypes Tryz.prog) (ds++gs)).all (· <=reachBytes)=true) (hk:Rows.uptoSmall H (ds++gs)=true) (hL:laidMetH Tryz.prog Rows.stmtBackUptoRow.laid W) (hsh:W.ShapedOpen Tryz.prog):
  Calls Tryz.prog 5 args W fun e W'=>∃v,e=.returned v/\Rows.stmtBackSpec.post enc Tryz.prog Tryz.f5 false true false false W args v W':=by
 have hW':=hW;obtain⟨p,q,hA0,hV,rfl,hfz,hnd⟩:=hW;have hA:DataW.TrodAll enc Tryz.prog W 0 (fun _=>true) true Tryz.f5.params.toList args.toList ds p:=hA0;rw[Tryz.params5]at hA hval;obtain⟨v0,vs0,d0,ds0,p0,q0,hargs,rfl,rfl,h0,r0⟩:=trodAll_cons hA;obtain⟨v1,vs1,d1,ds1,p1,q1,rfl,rfl,rfl,h1,r1⟩:=trodAll_cons r0;obtain⟨rfl,rfl,rfl⟩:=trodAll_nil r1;obtain rfl:args=#[v0,v1]:=by cases args;simp_all
 obtain⟨rfl,rfl⟩:=trodVars_none hV;obtain⟨a0,len0,cap0,rfl⟩:=okWide_slice Tryz.underlying24 (hval 0 24 v0 rfl rfl);have h0k:=h0;obtain⟨fuel0,hf0⟩:=h0;obtain⟨a1,len1,cap1,rfl⟩:=okWide_slice Tryz.underlying22 (hval 1 22 v1 rfl rfl);have h1k:=h1;obtain⟨fuel1,hf1⟩:=h1;obtain⟨l1,hl1,hcp1,hL1,qae,qad⟩:=Se (a:=a1) (len:=len1) (cap:=cap1) hf1 (by simp[Value.cells]);clear hA0;simp only[List.append_nil]at hW' hk
 have ho1:ZB l1:=by
  rcases qad with⟨_,h0⟩|⟨el,sp,hd,he⟩
  ·obtain rfl:l1=[]:=List.eq_nil_of_length_eq_zero (hl1.trans h0);exact⟨by simp,fun x hx=>by cases hx⟩
  ·exact ZE hsz (j:=1) (by rw[Tryz.params5];rfl) (congrArg some hd) he qae
 have hkb:Rows.uptoBulkAll (H:=H) [d0,d1]<=1048576:=of_decide_eq_true hk;have hkb2:=hkb;simp only[Rows.uptoBulkAll]at hkb2;obtain⟨l0,hS0,hC0⟩:=uj (enc:=enc) (W:=W) 1048576 (v:=.slice a0 len0 cap0) (d:=d0) ⟨fuel0,p0,by simpa[Value.cells]using hf0⟩ (by omega) (Nat.le_refl _)
 have hN1:l1.length<=1048576:=by
  have:=Uq (d:=d1) (len:=l1.length) (by
   rcases qad with⟨e1,e2⟩|⟨el,sp,e1,e2⟩
   ·exact .inl ⟨e1,hl1.trans e2⟩
   ·exact .inr ⟨el,sp,e1,by rw[e2,List.length_map]⟩)
  omega
 have hT:Vs W:=Um hL hsh;have hlt:∀x∈(p0++p1),x.block<W.heap.size:=fun x hx=>by simpa using hW'.lt x (by simpa using hx)
 have har:∀W',Below W.heap.size W W'->DataW.TrodAll enc Tryz.prog W' 0 (fun b=>decide (b<W.heap.size)) true [24,22] [.slice a0 len0 cap0,.slice a1 len1 cap1] [d0,d1] (p0++p1):=fun W' hg=>by
  have h:DataW.TrodAll enc Tryz.prog W' 0 (fun b=>decide (b<W.heap.size)) true [24,22] [.slice a0 len0 cap0,.slice a1 len1 cap1] [d0,d1] _:=trodAll_cons_mk (Below.trod laidOut (by kernel_rfl) (of_decide_eq_true (by kernel_rfl)) h0k hg (fun x hx=>hlt x (by simp[hx]))) (trodAll_cons_mk (Below.trod laidOut (by kernel_rfl) (of_decide_eq_true (by kernel_rfl)) h1k hg (fun x hx=>hlt x (by simp[hx]))) trodAll_mk0)
  simpa using h
 refine(XG (.slice a0 len0 cap0) l0 (.slice a1 len1 cap1) l1 hS0 (by omega) hL1 (qaB hN1 ho1) W hT).mono fun e W' ⟨he,hg⟩=>?_
 subst he;exact⟨_,rfl,_,_,_,[],p0++p1,[],hW',trodAll_cons_mk (shut_bool Tryz.underlying4 _) trodAll_mk0,har W' hg,rfl,hg.frame _,fun h=>by cases h⟩
theorem laid_met(os:Os):laidMet Tryz.prog Rows.stmtBackUptoRow.laid ((layGlo (World.holding Tryz.prog os ⟨#[],#[],[]⟩)).forCall (fun _ _=>0) ⟨#[],#[.slice none 0 0,.slice none 0 0],[]⟩).memory:=
 laidMet_of_run' 8 (by kernel_rfl) (by kernel_rfl)
theorem reads(os:Os){H:Type}(enc:TypeId×Value->H):∃places,DataW.whole enc Tryz.prog ((layGlo (World.holding Tryz.prog os ⟨#[],#[],[]⟩)).forCall (fun _ _=>0) ⟨#[],#[.slice none 0 0,.slice none 0 0],[]⟩).memory Tryz.f5.params.toList Rows.stmtBackSpec.vars false #[Value.slice none 0 0,Value.slice none 0 0].toList 8=some ([.nil,.nil],[],places):=
 ⟨[],by kernel_rfl⟩
set_option maxRecDepth 100000 in
theorem lifted(os:Os)(started:os.Started)(H:Type)(enc:TypeId×Value->H)(F:Stop.Interp):
  ReturnsInHanded {} Tryz.checked os 5 .any ((Rows.OpenSpec.upto Rows.stmtBackSpec).preRow enc Tryz.prog Tryz.f5 Rows.stmtBackUptoRow.domain false Rows.stmtBackUptoRow.laid) (((Rows.OpenSpec.upto Rows.stmtBackSpec).at F).post enc Tryz.prog Tryz.f5 false true false false):=by
 obtain⟨places,hx⟩:=reads os enc
 refine returnsInHanded_of_row (C:=Tryz.checked) (s:=Rows.OpenSpec.upto Rows.stmtBackSpec) own started (by kernel_rfl) Tryz.func5
  (witness_row_at (enc:=enc) (C:=Tryz.checked) false (layGlo (World.holding Tryz.prog os ⟨#[],#[],[]⟩)) #[.slice none 0 0,.slice none 0 0] rfl (by kernel_rfl) (by kernel_rfl) (by kernel_rfl)
   (OpenSpec.preRow_of_cond 8 hx (by kernel_rfl) (fun k hk=>by cases hk;kernel_rfl) (by kernel_rfl) (laid_met os))) ?_
 intro W base args ds gs before hval hW _ hcond hsz hL hsh _;exact contract H enc W base args ds gs before hval hW hsz (hcond _ rfl) hL hsh
theorem said:Rows.StmtBackUptoSaid:=
 OpenClaim.holds_of_cond 5 Tryz.f5 rfl rfl rfl rfl rfl rfl rfl ⟨rfl,rfl,rfl,rfl,rfl⟩ rfl rfl rfl rfl rfl (by kernel_rfl) Tryz.func5 (by kernel_rfl)
  (of_decide_eq_true (by kernel_rfl)) (by unfold Func.isWrapper;first|(rw[if_pos (by decide+kernel)];kernel_rfl)|(rw[if_neg (by decide+kernel)];exact⟨rfl,rfl⟩))
  (fun os started H enc _ F=>by rw[OpenClaim.pre_eq_preRow];exact lifted os started H enc F)
theorem plain(f:FuncId)(fn:Func)(hf:Tryz.pinned.checked.prog.funcNamed "capstan/capstanlaw07.StmtBack"=some f)(hfn:Tryz.pinned.checked.prog.funcs[f]? =some fn):
  true=Tryz.pinned.checked.prog.looks []/\∀(j:Nat) t,fn.params[j]? =some t->Tryz.pinned.checked.prog.wantsStandIn t=false:=by
 obtain rfl:f=5:=Option.some.inj ((show Tryz.prog.funcNamed "capstan/capstanlaw07.StmtBack"=some 5 by kernel_rfl).symm.trans hf) |>.symm
 obtain rfl:fn=Tryz.f5:=(Option.some.inj (Tryz.func5.symm.trans hfn)).symm;refine⟨by kernel_rfl,fun j t ht=>?_⟩;rw[Tryz.params5]at ht;have ht':t=24\/t=22:=by simpa using Array.mem_of_getElem? ht
 rcases ht' with rfl|rfl
 ·exact(show Tryz.prog.wantsStandIn 24=false by kernel_rfl)
 ·exact(show Tryz.prog.wantsStandIn 22=false by kernel_rfl)
end Go.Proofs.YtekanffohkeoeaaGreatDoor.stmtBack
namespace Go.Proofs.YtekanffohkeoeaaGreatDoor
theorem stmtBack_card:Rows.StmtBackUptoCardSaid:=
 Claim7.holds_tied_plain_at .later [] _ _ _ _ stmtBack.said (fun _ h=>by cases h) (by kernel_rfl) (fun _ h=>by cases h) stmtBackUpto_row_tie rfl ⟨rfl,rfl⟩ (by kernel_rfl) rfl stmtBack.plain (by kernel_rfl)
end Go.Proofs.YtekanffohkeoeaaGreatDoor
#print axioms Go.Proofs.YtekanffohkeoeaaGreatDoor.stmtBack_card
