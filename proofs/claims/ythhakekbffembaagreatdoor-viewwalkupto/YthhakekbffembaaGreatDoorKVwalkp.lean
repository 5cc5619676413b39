/-
  ViewWalk, for every slice of operations and every list of names that are together of bulk at most 1,048,576, whatever the memory and the order that Go leaves open, returns true and leaves its arguments and all memory that was there as it was. The library's variables start as the program's text lays them (the card ties them).
-/
import Derived.Test.YthhakekbffembaaGreatDoorKEwf

namespace Go.Proofs.YthhakekbffembaaGreatDoor
open Go.ChangeShapes Go.WideShapes Go.ChangeAt Go.RowKit Go.Deep

set_option maxRecDepth 100000 in
theorem f0z (H:Type) (enc:TypeId×Value→H) (W:World) (base:Nat) (args:Array Value) (ds gs:List (DataW H)) (before:List MemPlace) (hval:∀(j:Nat) t v,Tryz.f4.params[j]? =some t→args[j]? =some v→Value.okWide Tryz.prog W .any base t v) (hW:DataW.Whole enc Tryz.prog Tryz.f4.params.toList Rows.viewWalkSpec.vars false W args.toList ds gs before) (hk:Rows.uptoSmall H (ds++gs)=true) (hL:laidMetH Tryz.prog Rows.viewNoneRow.laid W) (hsh:W.ShapedOpen Tryz.prog):
  Calls Tryz.prog 4 args W λe W'=>∃v,e=.returned v∧Rows.viewWalkSpec.post enc Tryz.prog Tryz.f4 false true false false W args v W':=by
 have hW':=hW
 obtain⟨p,q,hA0,hV,rfl,hfz,hnd⟩:=hW
 have hA:DataW.TrodAll enc Tryz.prog W 0 (λ_=>true) true Tryz.f4.params.toList args.toList ds p:=hA0
 rw[Tryz.params4]at hA hval
 obtain⟨v0,vs0,d0,ds0,p0,q0,hargs,rfl,rfl,h0,r0⟩:=trodAll_cons hA
 obtain⟨v1,vs1,d1,ds1,p1,q1,rfl,rfl,rfl,h1,r1⟩:=trodAll_cons r0
 obtain⟨rfl,rfl,rfl⟩:=trodAll_nil r1
 obtain rfl:args= #[v0,v1]:=by cases args;simp_all
 obtain⟨rfl,rfl⟩:=trodVars_none hV
 obtain⟨a0,n0,c0,hs0⟩:∃a n c,v0=.slice a n c:=okWide_slice Tryz.underlying22 (hval 0 22 v0 rfl rfl)
 subst hs0
 obtain⟨a1,n1,c1,hs1⟩:∃a n c,v1=.slice a n c:=okWide_slice Tryz.underlying53 (hval 1 53 v1 rfl rfl)
 subst hs1
 have k0:=h0
 have lt0:∀x∈p0,x.block<W.heap.size:=by obtain⟨m,hm⟩:=k0;exact DataW.trod_lt m _ _ _ hm
 have k1:=h1
 have lt1:∀x∈p1,x.block<W.heap.size:=by obtain⟨m,hm⟩:=k1;exact DataW.trod_lt m _ _ _ hm
 have hsum:Rows.uptoBulkAll ([d0,d1]++[])≤1048576:=of_decide_eq_true hk
 simp only[List.append_nil,Rows.uptoBulkAll]at hsum
 obtain⟨L,rfl,hOp,hmax⟩:∃L:List Ck.Y.OG,L.length=n0∧Ck.Y.L.OpsL W a0 L∧L.length≤maxLen:=by
  obtain⟨fuel,hf⟩:=h0
  exact Ck.Y.L.ops_in (by simpa[Value.cells]using hf)
 obtain⟨names,rfl,hN,hNl,hnc,hn1⟩:∃names:List (List UInt8),names.length=n1∧Ck.Sh.Nms W a1 names∧(∀x∈names,x.length≤1048576)∧n1≤c1∧n1≤1048576:=by
  obtain⟨fuel,hf⟩:=h1
  exact jYz hf (by show Rows.uptoBulk d1≤_;omega)
 clear hA0
 refine(Ck.Y.W.vwalk_law a0 L c0 a1 names c1 W hOp hmax hN (λx hx=>by have:=hNl x hx;omega) hnc (iyz hL hsh)).mono λe W' ⟨he,bel⟩=> ?_
 subst he
 exact⟨_,rfl,_,_,_,[],_,[],hW',trodAll_mk1 (shut_bool Tryz.underlying4 _),
  (trodAll_cons_mk (Below.trod laidOut (by kernel_rfl) (of_decide_eq_true (by kernel_rfl)) k0 bel lt0) (trodAll_cons_mk (Below.trod laidOut (by kernel_rfl) (of_decide_eq_true (by kernel_rfl)) k1 bel lt1) trodAll_mk0)),rfl,bel.frame _,λh=>by cases h⟩

theorem f9z (os:Os):laidMet Tryz.prog Rows.viewWalkUptoRow.laid ((World.doorLaid Tryz.prog 400 os).forCall (λ_ _=>0) ⟨#[], #[.slice none 0 0,.slice none 0 0],[]⟩).memory:=
 laidMet_of_run' 70 (by kernel_rfl) (by kernel_rfl)
theorem hHz (os:Os) {H:Type} (enc:TypeId×Value→H):∃places,DataW.whole enc Tryz.prog ((World.doorLaid Tryz.prog 400 os).forCall (λ_ _=>0) ⟨#[], #[.slice none 0 0,.slice none 0 0],[]⟩).memory Tryz.f4.params.toList Rows.viewWalkSpec.vars false (#[.slice none 0 0,.slice none 0 0]:Array Value).toList 8=some ([.nil,.nil],[],places):=
 ⟨[],by kernel_rfl⟩

set_option maxRecDepth 100000 in
theorem gmz (os:Os) (started:os.Started) (H:Type) (enc:TypeId×Value→H) (F:Stop.Interp):
  ReturnsInHanded {} Tryz.checked os 4 .any ((Rows.OpenSpec.upto Rows.viewWalkSpec).preRow enc Tryz.prog Tryz.f4 Rows.viewWalkUptoRow.domain false Rows.viewWalkUptoRow.laid) (((Rows.OpenSpec.upto Rows.viewWalkSpec).at F).post enc Tryz.prog Tryz.f4 false true false false):=by
 obtain⟨places,hx⟩:=hHz os enc
 refine returnsInHanded_of_row (C:=Tryz.checked) (s:=Rows.OpenSpec.upto Rows.viewWalkSpec) own started (by kernel_rfl) Tryz.func4
  (witness_row_at (enc:=enc) (C:=Tryz.checked) false (World.doorLaid Tryz.prog 400 os) #[.slice none 0 0,.slice none 0 0] rfl (by kernel_rfl) (by kernel_rfl) (by kernel_rfl)
   (OpenSpec.preRow_of_cond 8 hx (by kernel_rfl) (λk hk=>by cases hk;kernel_rfl) (by kernel_rfl) (f9z os))) ?_
 intro W base args ds gs before hval hW _ hcond _ hL hsh _
 exact f0z H enc W base args ds gs before hval hW (hcond _ rfl) hL hsh

theorem i9z:Rows.ViewWalkUptoSaid:=
 OpenClaim.holds_of_cond 4 Tryz.f4 rfl rfl rfl rfl rfl rfl rfl ⟨rfl,rfl,rfl,rfl,rfl⟩ rfl rfl rfl rfl rfl (by kernel_rfl) Tryz.func4 (by kernel_rfl)
  (of_decide_eq_true (by kernel_rfl)) (by unfold Func.isWrapper;first|(rw[if_pos (by decide+kernel)];kernel_rfl)|(rw[if_neg (by decide+kernel)];exact⟨rfl,rfl⟩))
  (λos started H enc _ F=>by rw[OpenClaim.pre_eq_preRow];exact gmz os started H enc F)

theorem h1z (f:FuncId) (fn:Func) (hf:Tryz.pinned.checked.prog.funcNamed "lagoon/lagoonlaw18.ViewWalk" =some f) (hfn:Tryz.pinned.checked.prog.funcs[f]? =some fn):
  true=Tryz.pinned.checked.prog.looks []∧∀(j:Nat) t,fn.params[j]? =some t→Tryz.pinned.checked.prog.wantsStandIn t=false:=by
 obtain rfl:f=4:=Option.some.inj ((show Tryz.prog.funcNamed "lagoon/lagoonlaw18.ViewWalk" =some 4 by kernel_rfl).symm.trans hf)|>.symm
 obtain rfl:fn=Tryz.f4:=(Option.some.inj (Tryz.func4.symm.trans hfn)).symm
 refine⟨by kernel_rfl,λj t ht=> ?_⟩
 rw[Tryz.params4]at ht
 have hm:t∈[22,53]:=by simpa using Array.mem_of_getElem? ht
 have hall:([22,53].all λu=> !Tryz.prog.wantsStandIn u)=true:=by kernel_rfl
 exact(show Tryz.prog.wantsStandIn t=false by simpa using List.all_eq_true.1 hall t hm)

theorem viewWalk_holds:Rows.ViewWalkUptoCardSaid:=
 Claim7.holds_tied_plain_at .later [] _ _ _ _ i9z (λ_ h=>by cases h) (by kernel_rfl) (λ_ h=>by cases h) viewWalkUpto_row_tie rfl ⟨rfl,rfl⟩ (by kernel_rfl) rfl h1z (by kernel_rfl)

#print axioms viewWalk_holds
end Go.Proofs.YthhakekbffembaaGreatDoor
