/- Two lists of statements (at most 1048576 values in all), one behind the other, are read as both, and count together. -/
import Derived.Test.YtekanffohkeoeaaGreatDoorTdW
namespace Go.Proofs.YtekanffohkeoeaaGreatDoor.stmtJoins
open Go.ChangeShapes Go.WideShapes Go.ChangeAt Go.RowKit
open Go.ChangeMaps (open_string shut_string)
set_option maxRecDepth 100000 in
theorem contract(H:Type)(enc:TypeId×Value->H)(W:World)(base:Nat)(args:Array Value)(ds gs:List (DataW H))(bf:List MemPlace)
  (hval:∀(j:Nat) t v,Tryz.f6.params[j]? =some t->args[j]? =some v->Value.okWide Tryz.prog W .any base t v)
  (hW:DataW.Whole enc Tryz.prog Tryz.f6.params.toList Rows.stmtJoinsSpec.vars false W args.toList ds gs bf) (hsz:(DataW.weightsEach Tryz.prog (Tryz.f6.params.toList++(OpenSpec.ofChange Rows.stmtJoinsSpec).bare.plain.varTypes Tryz.prog) (ds++gs)).all (· <=reachBytes)=true) (hk:Rows.uptoSmall H (ds++gs)=true) (hL:laidMetH Tryz.prog Rows.stmtJoinsUptoRow.laid W) (hsh:W.ShapedOpen Tryz.prog):
  Calls Tryz.prog 6 args W fun e W'=>∃v,e=.returned v/\Rows.stmtJoinsSpec.post enc Tryz.prog Tryz.f6 false true false false W args v W':=by
 have hW':=hW;obtain⟨p,q,hA0,hV,rfl,hfz,hnd⟩:=hW;have hA:DataW.TrodAll enc Tryz.prog W 0 (fun _=>true) true Tryz.f6.params.toList args.toList ds p:=hA0;rw[Tryz.params6]at hA hval;obtain⟨v0,vs0,d0,ds0,p0,q0,hargs,rfl,rfl,h0,r0⟩:=trodAll_cons hA;obtain⟨v1,vs1,d1,ds1,p1,q1,rfl,rfl,rfl,h1,r1⟩:=trodAll_cons r0;obtain⟨rfl,rfl,rfl⟩:=trodAll_nil r1;obtain rfl:args=#[v0,v1]:=by cases args;simp_all
 obtain⟨rfl,rfl⟩:=trodVars_none hV;obtain⟨a0,m0,k0,rfl⟩:=okWide_slice Tryz.underlying24 (hval 0 24 v0 rfl rfl);have h0k:=h0;obtain⟨f0,hf0⟩:=h0;obtain⟨a1,m1,k1,rfl⟩:=okWide_slice Tryz.underlying24 (hval 1 24 v1 rfl rfl);have h1k:=h1;obtain⟨f1,hf1⟩:=h1;clear hA0;simp only[List.append_nil]at hW' hk;have hkb:Rows.uptoBulkAll (H:=H) [d0,d1]<=1048576:=of_decide_eq_true hk;have hkb2:=hkb;simp only[Rows.uptoBulkAll]at hkb2;obtain⟨l0,hS0,hC0⟩:=uj (enc:=enc) (W:=W) 1048576 (v:=.slice a0 m0 k0) (d:=d0) ⟨f0,p0,by simpa[Value.cells]using hf0⟩ (by omega) (Nat.le_refl _);obtain⟨l1,hS1,hC1⟩:=uj (enc:=enc) (W:=W) 1048576 (v:=.slice a1 m1 k1) (d:=d1) ⟨f1,p1,by simpa[Value.cells]using hf1⟩ (by omega) (Nat.le_refl _);have hT:Vs W:=Um hL hsh;have hlt:∀x∈(p0++p1),x.block<W.heap.size:=fun x hx=>by simpa using hW'.lt x (by simpa using hx)
 have har:∀W',Below W.heap.size W W'->DataW.TrodAll enc Tryz.prog W' 0 (fun b=>decide (b<W.heap.size)) true [24,24] [.slice a0 m0 k0,.slice a1 m1 k1] [d0,d1] (p0++p1):=fun W' hg=>by
  have h:DataW.TrodAll enc Tryz.prog W' 0 (fun b=>decide (b<W.heap.size)) true [24,24] [.slice a0 m0 k0,.slice a1 m1 k1] [d0,d1] _:=trodAll_cons_mk (Below.trod laidOut (by kernel_rfl) (of_decide_eq_true (by kernel_rfl)) h0k hg (fun x hx=>hlt x (by simp[hx]))) (trodAll_cons_mk (Below.trod laidOut (by kernel_rfl) (of_decide_eq_true (by kernel_rfl)) h1k hg (fun x hx=>hlt x (by simp[hx]))) trodAll_mk0)
  simpa using h
 refine(qax (.slice a0 m0 k0) l0 (.slice a1 m1 k1) l1 hS0 (by omega) hS1 (by omega) W hT).mono fun e W' ⟨he,hg⟩=>?_
 subst he;exact⟨_,rfl,_,_,_,[],p0++p1,[],hW',trodAll_cons_mk (shut_bool Tryz.underlying4 _) trodAll_mk0,har W' hg,rfl,hg.frame _,fun h=>by cases h⟩
theorem laid_met(os:Os):laidMet Tryz.prog Rows.stmtJoinsUptoRow.laid ((layGlo (World.holding Tryz.prog os ⟨#[],#[],[]⟩)).forCall (fun _ _=>0) ⟨#[],#[.slice none 0 0,.slice none 0 0],[]⟩).memory:=
 laidMet_of_run' 8 (by kernel_rfl) (by kernel_rfl)
theorem reads(os:Os){H:Type}(enc:TypeId×Value->H):∃ps,DataW.whole enc Tryz.prog ((layGlo (World.holding Tryz.prog os ⟨#[],#[],[]⟩)).forCall (fun _ _=>0) ⟨#[],#[.slice none 0 0,.slice none 0 0],[]⟩).memory Tryz.f6.params.toList Rows.stmtJoinsSpec.vars false #[Value.slice none 0 0,Value.slice none 0 0].toList 8=some ([.nil,.nil],[],ps):=
 ⟨[],by kernel_rfl⟩
set_option maxRecDepth 100000 in
theorem lifted(os:Os)(st:os.Started)(H:Type)(enc:TypeId×Value->H)(F:Stop.Interp):
  ReturnsInHanded {} Tryz.checked os 6 .any ((Rows.OpenSpec.upto Rows.stmtJoinsSpec).preRow enc Tryz.prog Tryz.f6 Rows.stmtJoinsUptoRow.domain false Rows.stmtJoinsUptoRow.laid) (((Rows.OpenSpec.upto Rows.stmtJoinsSpec).at F).post enc Tryz.prog Tryz.f6 false true false false):=by
 obtain⟨ps,hx⟩:=reads os enc
 refine returnsInHanded_of_row (C:=Tryz.checked) (s:=Rows.OpenSpec.upto Rows.stmtJoinsSpec) own st (by kernel_rfl) Tryz.func6
  (witness_row_at (enc:=enc) (C:=Tryz.checked) false (layGlo (World.holding Tryz.prog os ⟨#[],#[],[]⟩)) #[.slice none 0 0,.slice none 0 0] rfl (by kernel_rfl) (by kernel_rfl) (by kernel_rfl)
   (OpenSpec.preRow_of_cond 8 hx (by kernel_rfl) (fun k hk=>by cases hk;kernel_rfl) (by kernel_rfl) (laid_met os))) ?_
 intro W base args ds gs bf hval hW _ hcond hsz hL hsh _;exact contract H enc W base args ds gs bf hval hW hsz (hcond _ rfl) hL hsh
theorem said:Rows.StmtJoinsUptoSaid:=
 OpenClaim.holds_of_cond 6 Tryz.f6 rfl rfl rfl rfl rfl rfl rfl ⟨rfl,rfl,rfl,rfl,rfl⟩ rfl rfl rfl rfl rfl (by kernel_rfl) Tryz.func6 (by kernel_rfl)
  (of_decide_eq_true (by kernel_rfl)) (by unfold Func.isWrapper;first|(rw[if_pos (by decide+kernel)];kernel_rfl)|(rw[if_neg (by decide+kernel)];exact⟨rfl,rfl⟩))
  (fun os st H enc _ F=>by rw[OpenClaim.pre_eq_preRow];exact lifted os st H enc F)
theorem plain(f:FuncId)(fn:Func)(hf:Tryz.pinned.checked.prog.funcNamed "capstan/capstanlaw07.StmtJoins"=some f)(hfn:Tryz.pinned.checked.prog.funcs[f]? =some fn):
  true=Tryz.pinned.checked.prog.looks []/\∀(j:Nat) t,fn.params[j]? =some t->Tryz.pinned.checked.prog.wantsStandIn t=false:=by
 obtain rfl:f=6:=Option.some.inj ((show Tryz.prog.funcNamed "capstan/capstanlaw07.StmtJoins"=some 6 by kernel_rfl).symm.trans hf) |>.symm
 obtain rfl:fn=Tryz.f6:=(Option.some.inj (Tryz.func6.symm.trans hfn)).symm;refine⟨by kernel_rfl,fun j t ht=>?_⟩;rw[Tryz.params6]at ht;obtain rfl:t=24:=by simpa using Array.mem_of_getElem? ht
 exact(show Tryz.prog.wantsStandIn 24=false by kernel_rfl)
end Go.Proofs.YtekanffohkeoeaaGreatDoor.stmtJoins
namespace Go.Proofs.YtekanffohkeoeaaGreatDoor
theorem stmtJoins_card:Rows.StmtJoinsUptoCardSaid:=
 Claim7.holds_tied_plain_at .later [] _ _ _ _ stmtJoins.said (fun _ h=>by cases h) (by kernel_rfl) (fun _ h=>by cases h) stmtJoinsUpto_row_tie rfl ⟨rfl,rfl⟩ (by kernel_rfl) rfl stmtJoins.plain (by kernel_rfl)
end Go.Proofs.YtekanffohkeoeaaGreatDoor
