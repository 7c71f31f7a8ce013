/- A drawn template without names that were got is itself, and what is filled is right: laws.FnFilled returns true at every code, and the code reads as before. Condition (the card ties it to the program's text): the listed error of the program reads as its text lays it. -/
import Derived.Test.YtjmlfacbcfbhdaaGreatDoorYA
import Derived.Test.YtjmlfacbcfbhdaaGreatDoorTie
import Derived.Test.YtjmlfacbcfbhdaaGreatDoorCards
import Derived.Test.YtjmlfacbcfbhdaaGreatDoorY0
import Derived.Test.YtjmlfacbcfbhdaaGreatDoorY49
import Derived.OpenVars
import Derived.ProofKit
import Derived.Stop.LaidErr
import Derived.WalkKit
import Derived.LaidMore
import Derived.OpenShut
import Derived.ChangeOld
import Derived.Stop.Joined
import Derived.SevenTiedAt
set_option maxRecDepth 100000
set_option maxHeartbeats 8000000
namespace Go.Proofs.YtjmlfacbcfbhdaaGreatDoor.fnFilled
open Go.ChangeShapes Go.WideShapes Go.ChangeAt Go.RowKit
theorem joy (a:Option Addr) (len cap:Nat) (w:World) (hl:¬ len≤1048576) :
  Calls Tryz.prog 3 #[.slice a len cap] w fun e w'=>e=.returned (.bool true)∧Below w.heap.size w w':=by
 have hb0:(1048576:Int)<len:=by omega
 go_enter Tryz.func3,Tryz.ntmps3
 go_wp2_with (go_at_call 4;go_in)
 go_ret
 exact ⟨rfl,brf _ _⟩
theorem own:ownKnob Tryz.prog.godebug=none:=by kernel_rfl
theorem jmm:laidOutB Tryz.prog=true:=by kernel_rfl
def lst:List (String×DataW Unit):=Rows.fnFilledRow.laid
theorem jnJ (os:Os) (args:Array Value):laidMetH Tryz.prog lst ((World.doorLaid Tryz.prog 4000 os).forCall (fun _ _=>0) ⟨#[],args,[]⟩).memory :=
 laidMetH_of_parts3 (fuel:=8) (laidMet_of_run' 8 (by kernel_rfl) (by kernel_rfl)) (by kernel_rfl) (by kernel_rfl)
theorem star : "*" ++ "errors.errorString" = "*errors.errorString" := by decide
theorem jpi (u:TypeId) (h:Tryz.prog.typeName? 3 u = some "*errors.errorString"):u=194 :=
 typeName_ptr_named (nm := "errors.errorString") (by rw [star];kernel_rfl) (by kernel_rfl) (by decide) u (by rw [star];exact h)
theorem gErr : Tryz.prog.globalNamed "loop.example/g00396/impl.errUnfilled" = some 0:=by kernel_rfl
theorem jpc {W:World} (h:laidMetH Tryz.prog lst W):∃ ad,ErrAt W ad:=by
 rw [MakeChecks.laidMetH_plain _ _ _ (by kernel_rfl)] at h
 obtain ⟨a0,s0,hv0,-,-,-⟩:=laid_sentinel (ti:=44) h gErr (by kernel_rfl) Tryz.underlying44 jpi Tryz.underlying194 Tryz.underlying219 rfl rfl Tryz.underlying9 (by kernel_rfl) (by kernel_rfl)
 have h2:=World.var?_cell gErr hv0 0
 exact ⟨_,by unfold ErrAt;simpa using h2⟩
theorem lifted (os:Os) (started:os.Started) (H:Type) (enc:TypeId×Value→H) :
  ReturnsInHanded {} Tryz.checked os 3 .any (fun w args=>(Rows.fnFilledSpec.pre enc Tryz.prog Tryz.f3 [] false w args∧laidMetH Tryz.prog lst w)∧sizedMet enc Tryz.prog Tryz.f3 (OpenSpec.ofChange Rows.fnFilledSpec) false w args)
   (Rows.fnFilledSpec.post enc Tryz.prog Tryz.f3 false true false false):=by
 refine returnsInHanded_of_change_and (C:=Tryz.checked) (X:=fun w _=>laidMetH Tryz.prog lst w) (fun _ _ _ hh h=>h.of_heap hh) own started (by kernel_rfl) Tryz.func3
  (ChangeSpec.witness_shaped (enc:=enc) (C:=Tryz.checked) (os:=os) (X:=fun w _=>laidMetH Tryz.prog lst w) false (World.doorLaid Tryz.prog 4000 os) #[.slice none 0 0] 8 rfl (World.shaped_of_RefB (by kernel_rfl) (by kernel_rfl)) (by kernel_rfl) (by kernel_rfl) (by kernel_rfl) (jnJ os _)) ?_
 intro W base args ds gs before hval0 hW _ _ hL _
 have hval:∀ (j:Nat) t v,Tryz.f3.params[j]? = some t→args[j]? = some v→Value.okWide Tryz.prog W .any base t v:=hval0
 have hW':=hW
 obtain ⟨p,q,hA0,hV,rfl,hfz,hnd⟩:=hW
 have hA:DataW.TrodAll enc Tryz.prog W 0 (fun _=>true) true Tryz.f3.params.toList args.toList ds p:=hA0
 rw [Tryz.params3] at hA hval
 obtain ⟨v0,d0,rfl,rfl,h0⟩:=trodAll_one hA
 have hV1:=hV
 obtain ⟨_,_,_,_,dg,_,rfl,-⟩:=trodVars_one hV
 obtain ⟨a0,len0,cap0,rfl⟩:=okWide_slice Tryz.underlying22 (hval 0 22 v0 rfl rfl)
 have k0:=h0
 have lt0:∀ x∈p,x.block<W.heap.size:=by obtain ⟨m,hm⟩:=k0;exact DataW.trod_lt m _ _ _ hm
 have row0:jlC W a0 len0 cap0:=by
  obtain ⟨fuel,hf⟩:=h0
  rcases open_ints Tryz.underlying22 Tryz.underlying5 (by kernel_rfl) hf with ⟨hcs,_⟩|⟨x,l,c,zs,hcs,_,hl,hm,hz,_,hcell,hwz⟩
  ·simp [Value.cells] at hcs
   obtain ⟨rfl,rfl,rfl⟩:=hcs
   exact .inl ⟨rfl,rfl,rfl⟩
  ·simp [Value.cells] at hcs
   obtain ⟨rfl,rfl,rfl⟩:=hcs
   exact .inr ⟨_,zs,rfl,hl,hm,by simpa using hz,hcell,hwz⟩
 obtain ⟨ad,ht⟩:=jpc hL
 clear hA0 hval0
 have hwalk:Calls Tryz.prog 3 #[.slice a0 len0 cap0] W fun e w'=>e=.returned (.bool true)∧Below W.heap.size W w':=by
  by_cases hl:len0≤1048576
  ·exact walk a0 len0 cap0 W ad hl (jgP row0 hl) ht
  ·exact joy a0 len0 cap0 W hl
 refine hwalk.mono fun e W' ⟨he,bel⟩=>?_
 subst he
 have hv1:=Below.trodVars jmm bel (by kernel_rfl) hV1
 exact ⟨_,rfl,_,_,_,[],_,q,hW',trodAll_mk1 (shut_bool Tryz.underlying4 _),trodAll_mk1 (Below.trod jmm (by kernel_rfl) (of_decide_eq_true (by kernel_rfl)) k0 bel lt0),hv1,bel.frame _,fun h=>by cases h⟩
theorem over:Rows.FnFilledSaid :=
 OpenClaim.holds_of_wide 3 Tryz.f3 rfl rfl rfl rfl rfl rfl rfl ⟨rfl,rfl,rfl,rfl,rfl⟩ rfl rfl rfl rfl rfl (by kernel_rfl) Tryz.func3 (by kernel_rfl)
  (of_decide_eq_true (by kernel_rfl)) (by unfold Func.isWrapper;first|(rw [if_pos (by decide +kernel)];kernel_rfl)|(rw [if_neg (by decide +kernel)];exact ⟨rfl,rfl⟩))
  (fun os started H enc _=>lifted os started H enc)
theorem proved:Rows.FnFilledCardSaid :=
 Claim7.holds_tied_plain_at .later [] [.sentinel] true (true, "39f71c481580313fab739685cca1989742bdaf60632a779a72a33a4c301547d6") true
  over (fun _ h=>by cases h) (by kernel_rfl) (fun _ h=>by cases h) fnFilled_row_tie rfl ⟨rfl,rfl⟩ (by kernel_rfl) rfl
  (fun f fn hf hfn=>by
   obtain rfl:f=3:=Option.some.inj ((show Tryz.prog.funcNamed "loop.example/g00396/laws.FnFilled" = some 3 by kernel_rfl).symm.trans hf) |>.symm
   obtain rfl:fn=Tryz.f3:=(Option.some.inj (Tryz.func3.symm.trans hfn)).symm
   exact ⟨by kernel_rfl,fun j t ht=>by
    rw [Tryz.params3] at ht
    have hm:t∈[22]:=by simpa using Array.mem_of_getElem? ht
    have hall:([22].all fun u=>!Tryz.prog.wantsStandIn u)=true:=by kernel_rfl
    exact (show Tryz.prog.wantsStandIn t=false by simpa using List.all_eq_true.1 hall t hm)⟩)
  (by kernel_rfl)
#print axioms proved
end Go.Proofs.YtjmlfacbcfbhdaaGreatDoor.fnFilled
