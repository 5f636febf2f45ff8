/-
  For every script of steps (every call that the document names, Write and Read among them, on several meshes beside one another) the statement answers true, and the script reads behind the call as it read before it, where what comes in is of bulk at most 1048576 (the second form). The variables that strconv reads start as the program's text lays them (the card ties them). No other condition.
-/
import Derived.Test.YtgpapegpdfonpaaGreatDoorRtTV
import Derived.Test.YtgpapegpdfonpaaGreatDoorPtsWX
import Derived.Test.YtgpapegpdfonpaaGreatDoorLaid
import Derived.Stop.LaidErr
set_option linter.unusedVariables false
set_option linter.unusedSimpArgs false
set_option maxHeartbeats 16000000
set_option maxRecDepth 100000
namespace Go.Proofs.YtgpapegpdfonpaaGreatDoor
open Go.ChangeShapes Go.WideShapes Go.ChangeAt Go.RowKit Go.Joins
theorem Zt5: "*" ++ "errors.errorString" = "*errors.errorString" :=by decide
theorem Zt6 (u:TypeId) (h:Tryz.prog.typeName? 3 u=some "*errors.errorString"):u=272:=
 typeName_ptr_named (nm:= "errors.errorString") (by rw[Zt5];kernel_rfl) (by kernel_rfl) (by decide) u (by rw[Zt5];exact h)
set_option maxRecDepth 100000 in
theorem Z70 {W:World}(h:laidMetH Tryz.prog Rows.allUptoRow.laid W):Vars W:=by
 have h0:laidMet Tryz.prog [("math/bits.deBruijn32tab",Rows.laid_math_bits_deBruijn32tab),("math/bits.deBruijn64tab",Rows.laid_math_bits_deBruijn64tab),("internal/strconv.uint64pow10",Lib.tabData .u64 Lib.pow10Tab),("strconv.ErrRange",Rows.laid_strconv_ErrRange),("strconv.ErrSyntax",Rows.laid_strconv_ErrSyntax)] W:=h;have h1:=h0.tail.tail;obtain⟨a5,s5,hv5,_⟩:=laid_sentinel h1.tail (g:=5) (by kernel_rfl) (show (Tryz.prog.globals[5]?).map (·.type)=some 242 by kernel_rfl) Tryz.underlying242 Zt6 Tryz.underlying272 Tryz.underlying274 rfl rfl Tryz.underlying9 (by kernel_rfl) (by kernel_rfl);obtain⟨a4,s4,hv4,_⟩:=laid_sentinel h1.tail.tail (g:=4) (by kernel_rfl) (show (Tryz.prog.globals[4]?).map (·.type)=some 242 by kernel_rfl) Tryz.underlying242 Zt6 Tryz.underlying272 Tryz.underlying274 rfl rfl Tryz.underlying9 (by kernel_rfl) (by kernel_rfl);refine⟨Lib.tabIs_of_head (g:=0) (by kernel_rfl) (show (Tryz.prog.globals[0]?).map (·.type)=some 251 by kernel_rfl) Tryz.underlying251 Tryz.underlying203 (by kernel_rfl) (by kernel_rfl) h1,?_,?_⟩
 ·exact⟨_,World.var?_cell (show Tryz.prog.globalNamed "strconv.ErrSyntax" =some 4 by kernel_rfl) hv4 0,.inr ⟨_,_,rfl⟩⟩
 ·exact⟨_,World.var?_cell (show Tryz.prog.globalNamed "strconv.ErrRange" =some 5 by kernel_rfl) hv5 0,.inr ⟨_,_,rfl⟩⟩
theorem Z71 {H:Type}{d:DataW H}(hk:Rows.uptoSmall H ([d] ++ [])=true):Rows.uptoBulk d<=1048576:=by
 have h:Rows.uptoBulkAll ([d] ++ [])<=1048576:=of_decide_eq_true hk;simp only[List.append_nil,Rows.uptoBulkAll] at h;omega
set_option maxRecDepth 100000 in
theorem Z72 (os:Os){H:Type}(enc:TypeId×Value->H):∃ places,DataW.whole enc Tryz.prog ((Zn9 os).forCall (fun _ _=>0) ⟨#[],#[.slice none 0 0],[]⟩).memory Tryz.f7.params.toList Rows.allSpec.vars false #[Value.slice none 0 0].toList 8=some ([.nil],[],places):=
 ⟨[],by kernel_rfl⟩
set_option maxRecDepth 100000 in
theorem Z73 (os:Os)(started:os.Started)(H:Type)(enc:TypeId×Value->H)(F:Stop.Interp) :
  ReturnsInHanded {} Tryz.checked os 7 .any ((Rows.OpenSpec.upto Rows.allSpec).preRow enc Tryz.prog Tryz.f7 Rows.allUptoRow.domain false Rows.allUptoRow.laid) (((Rows.OpenSpec.upto Rows.allSpec).at F).post enc Tryz.prog Tryz.f7 false true false false):=by
 obtain⟨places,hx0⟩:=Z72 os enc;refine returnsInHanded_of_row (C:=Tryz.checked) (s:=Rows.OpenSpec.upto Rows.allSpec) own started (by kernel_rfl) Tryz.func7
  (witness_row_atRef (enc := enc) (C := Tryz.checked) false (Zn9 os) #[.slice none 0 0] rfl (by kernel_rfl) (by kernel_rfl) (by kernel_rfl)
    (OpenSpec.preRow_of_cond 8 hx0 (by kernel_rfl) (fun k hk => by cases hk; kernel_rfl) (by kernel_rfl) (Z7z os _))) ?_
 intro W base args ds gs before hval0 hW hcnd hcond hsz0 hL _ _;have hval:∀ (j:Nat) t v,Tryz.f7.params[j]? =some t->args[j]? =some v->Value.okWide Tryz.prog W .any base t v:=hval0;have hsz:(DataW.weightsEach Tryz.prog (Tryz.f7.params.toList ++ Rows.allSpec.plain.varTypes Tryz.prog) (ds ++ gs)).all (· <=reachBytes)=true:=hsz0;have hW':=hW;obtain⟨p,q,hA0,hV,rfl,hfz,hnd⟩:=hW;have hA:DataW.TrodAll enc Tryz.prog W 0 (fun _=>true) true Tryz.f7.params.toList args.toList ds p:=hA0;rw[Tryz.params7] at hA hval hsz;obtain⟨v0,vs0,d0,ds0,p0,q0,hargs,rfl,rfl,h0,r0⟩:=trodAll_cons hA;obtain⟨rfl,rfl,rfl⟩:=trodAll_nil r0;obtain rfl:args= #[v0]:=by cases args;simp at hargs;rw[hargs]
 obtain⟨rfl,rfl⟩:=trodVars_none hV;obtain⟨a0,len0,cap0,rfl⟩:=okWide_slice Tryz.underlying22 (hval 0 22 v0 rfl rfl);have k0:=h0;have lt0:∀ x∈p0,x.block<W.heap.size:=by obtain⟨m,hm⟩:=k0;exact DataW.trod_lt m _ _ _ hm
 have hwi:Zih 22 d0:=fun n hn=>by
  have:=List.all_eq_true.1 hsz n (DataW.weights_mem_each (j:=0) (t:=22) (d:=d0) rfl rfl n hn);exact of_decide_eq_true this
 obtain⟨os,hos,hs,hg,hl,hx⟩:∃ os:List OpD,os.length=len0/\Zdy W.heap.size W a0 os/\Zgy os/\os.length<=925904528626/\XAt W.heap.size W os:=by
  obtain⟨fuel,hf⟩:=h0;obtain⟨a,os,cap,e,h1,h3,h2⟩:=Z40 hf hwi;have e2:Value.slice a0 len0 cap0= .slice a os.length cap:=by simpa [Value.cells] using e
  cases e2;exact⟨os,rfl,h1,h3,h2,Z45 hf h1 (Z71 (hcond _ rfl))⟩
 subst hos;clear hA0 hval0 hsz0;refine (Z56 Z7t a0 cap0 os W (Z70 hL) hs hx hg hl).mono fun e W' ⟨he,bel⟩=>?_
 subst he;exact⟨_,rfl,_,_,_,[],_,[],hW',trodAll_mk1 (shut_bool Tryz.underlying4 _),(trodAll_cons_mk (Below.trod Z4t (by kernel_rfl) (of_decide_eq_true (by kernel_rfl)) k0 bel lt0) trodAll_mk0),rfl,bel.frame _,fun h=>by cases h⟩
theorem Z74:Rows.AllUptoSaid:=
 OpenClaim.holds_of_cond 7 Tryz.f7 rfl rfl rfl rfl rfl rfl rfl ⟨rfl,rfl,rfl,rfl,rfl⟩ rfl rfl rfl rfl rfl (by kernel_rfl) Tryz.func7 (by kernel_rfl)
  (of_decide_eq_true (by kernel_rfl)) (by unfold Func.isWrapper;first|(rw[if_pos (by decide +kernel)];kernel_rfl)|(rw[if_neg (by decide +kernel)];exact⟨rfl,rfl⟩))
  (fun os started H enc _ F=>by rw[OpenClaim.pre_eq_preRow];exact Z73 os started H enc F)
theorem Z75 (f:FuncId) (fn:Func) (hf:Tryz.pinned.checked.prog.funcNamed "trigon/trigonlaw.All" =some f) (hfn:Tryz.pinned.checked.prog.funcs[f]? =some fn) :
  true=Tryz.pinned.checked.prog.looks []/\∀ (j:Nat) t,fn.params[j]? =some t->Tryz.pinned.checked.prog.wantsStandIn t=false:=by
 obtain rfl:f=7:=Option.some.inj ((show Tryz.prog.funcNamed "trigon/trigonlaw.All" =some 7 by kernel_rfl).symm.trans hf) |>.symm
 obtain rfl:fn=Tryz.f7:=(Option.some.inj (Tryz.func7.symm.trans hfn)).symm;refine⟨by kernel_rfl,fun j t ht=>?_⟩;rw[Tryz.params7] at ht;obtain rfl:t=22:=by simpa using Array.mem_of_getElem? ht
 exact (show Tryz.prog.wantsStandIn 22=false by kernel_rfl)
theorem all_holds:Rows.AllUptoCardSaid:=
 Claim7.holds_tied_plain_at .later [] _ _ _ _ Z74 (fun _ h=>by cases h) (by kernel_rfl) (fun _ h=>by cases h) allUpto_row_tie rfl ⟨rfl,rfl⟩ (by kernel_rfl) rfl Z75 (by kernel_rfl)
#print axioms all_holds
end Go.Proofs.YtgpapegpdfonpaaGreatDoor
