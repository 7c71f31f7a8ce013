/- The names of a pattern with how deep each stands, as plain lists; a list of parts that are left. No conditions. -/
import Derived.Test.YtjmlfacbcfbhdaaGreatDoorYA
import Derived.Test.YtjmlfacbcfbhdaaGreatDoorY16
import Derived.Test.YtjmlfacbcfbhdaaGreatDoorY19
import Derived.Test.YtjmlfacbcfbhdaaGreatDoorY0
import Derived.Test.YtjmlfacbcfbhdaaGreatDoorRows
import Derived.RangeFuncNested
import Derived.RangeFuncBound
import Derived.RangeFuncCalls
import Derived.RangeFuncLeaves
import Derived.Shelf.Abstract
import Derived.Shelf.RegionOpen
import Derived.WalkKit
import Derived.OwnWalkIn
import Derived.TacticsInMore
import Derived.LoopNIn
import Derived.LoopIn
import Derived.Below
import Derived.Laws.AppendOwn
import Derived.Laws.OwnMore
set_option maxRecDepth 100000
set_option maxHeartbeats 8000000
namespace Go.Proofs.YtjmlfacbcfbhdaaGreatDoor
open Go.ChangeShapes Go.WideShapes Go.ChangeAt Go.RowKit
theorem jiE (t:X) (sv v:Value) (w:World) :
  Calls Tryz.prog 89 #[.agg #[.int .i64 t.op,.int .i64 t.at_,.int .i64 t.n,.string t.s,sv,v]] w fun e w'=>e=.returned (.bool (jan t))∧Below w.heap.size w w':=by
 have HD:Hid (jan t=((t.op==2)&&(t.s.toList == [46,46,46]))):=rfl
 generalize t.op=op at *
 generalize t.at_=a at *
 generalize t.n=n at *
 generalize t.s=s at *
 have HDC:Hid (decide (op=2)=(op==2)):=by show _=_;rw [Bool.eq_iff_iff];simp
 have N0:Hid (Six (w.alloc (.cells #[.int .i64 op,.int .i64 a,.int .i64 n,.string s,sv,v] 27)) w.heap.size op a n s sv v 27∧Below w.heap.size w (w.alloc (.cells #[.int .i64 op,.int .i64 a,.int .i64 n,.string s,sv,v] 27))):=⟨han w _,newx w _⟩
 go_enter Tryz.func89,Tryz.ntmps89
 go_wp2_with fail
 refine (jmk op a n s sv v (op==2) HDC.out _).mono ?_
 rintro e w1 ⟨rfl,hb1⟩
 have N1:Hid (Six w1 w.heap.size op a n s sv v 27∧Below w.heap.size w w1):=⟨N0.out.1.below hb1,N0.out.2.trans (hb1.mono N0.out.2.size)⟩
 obtain ⟨c0,c1,c2,c3,c4,c5⟩:=N1.out.1.cells
 clear hb1 N0 HDC
 cases h1:(op==2)
 ·have HR:Hid (jan t=false):=by show _=_;rw [HD.out,h1];rfl
  go_wp2_with fail
  go_ret
  exact ⟨by rw [HR.out];rfl,N1.out.2⟩
 ·cases h2:(s.toList == [46,46,46])
  all_goals
   have HR:Hid (jan t=(s.toList == [46,46,46])):=by show _=_;rw [HD.out,h1];rfl
   go_wp2_with fail
   go_ret
   exact ⟨by rw [HR.out,h2];rfl,N1.out.2⟩
theorem jnU (t:X) (sv v:Value) (w:World) :
  Calls Tryz.prog 118 #[.agg #[.int .i64 t.op,.int .i64 t.at_,.int .i64 t.n,.string t.s,sv,v]] w fun e w'=>e=.returned (.bool (jbl t.op t.s))∧Below w.heap.size w w':=by
 generalize t.op=op at *
 generalize t.at_=a at *
 generalize t.n=n at *
 generalize t.s=s at *
 have HD:Hid (jbl op s=((op==2)&&(!(s.toList == [95]) && !(s.toList == [46,46,46])))):=rfl
 have HDC:Hid (decide (op=2)=(op==2)):=by show _=_;rw [Bool.eq_iff_iff];simp
 have N0:Hid (Six (w.alloc (.cells #[.int .i64 op,.int .i64 a,.int .i64 n,.string s,sv,v] 27)) w.heap.size op a n s sv v 27∧Below w.heap.size w (w.alloc (.cells #[.int .i64 op,.int .i64 a,.int .i64 n,.string s,sv,v] 27))):=⟨han w _,newx w _⟩
 generalize jbl op s=r at *
 go_enter Tryz.func118,Tryz.ntmps118
 go_wp2_with fail
 refine (jmk op a n s sv v (op==2) HDC.out _).mono ?_
 rintro e w1 ⟨rfl,hb1⟩
 have N1:Hid (Six w1 w.heap.size op a n s sv v 27∧Below w.heap.size w w1):=⟨N0.out.1.below hb1,N0.out.2.trans (hb1.mono N0.out.2.size)⟩
 obtain ⟨c0,c1,c2,c3,c4,c5⟩:=N1.out.1.cells
 clear hb1 N0 HDC
 cases h1:(op==2)
 ·have HR:Hid (r=false):=by show _=_;rw [HD.out,h1];rfl
  go_wp2_with fail
  go_ret
  exact ⟨by rw [HR.out];rfl,N1.out.2⟩
 ·cases h3:(s.toList == [95])
  ·cases h2:(s.toList == [46,46,46])
   all_goals
    have HR:Hid (r = !(s.toList == [46,46,46])):=by show _=_;rw [HD.out,h1,h3];rfl
    have h4:(s.toList != [95])=true:=by rw [bne,h3];rfl
    have h5:(s.toList != [46,46,46]) = !(s.toList == [46,46,46]):=rfl
    rw [h2] at h5
    go_wp2_with fail
    go_ret
    exact ⟨by rw [HR.out,h2];rfl,N1.out.2⟩
  ·have HR:Hid (r=false):=by show _=_;rw [HD.out,h1,h3];rfl
   have h4:(s.toList != [95])=false:=by rw [bne,h3];rfl
   go_wp2_with fail
   go_ret
   exact ⟨by rw [HR.out];rfl,N1.out.2⟩
def jaJ (len:Nat) (kid:Nat→X):Int:=if 2≤len∧jan (kid (len-1))=true then (len:Int)-2 else -1
theorem ji0 (len:Nat) (kid:Nat→X) (w:World) (v:Value) (hv:XsAt 0 w len kid v) :
  Calls Tryz.prog 121 #[v] w fun e w'=>e=.returned (.int .i64 (jaJ len kid))∧Below w.heap.size w w':=by
 obtain ⟨p,cap,rfl,hlen,hat⟩:=hv.at
 unfold maxLen at hlen
 by_cases h2:len<2
 ·have HR:Hid (jaJ len kid = -1):=by show _=_;unfold jaJ;rw [if_neg (by omega)]
  have hd:decide ((len:Int)<2)=true:=dqt (by omega)
  go_enter Tryz.func121,Tryz.ntmps121
  go_wp2_with fail
  go_ret
  exact ⟨by rw [HR.out];rfl,brf _ _⟩
 ·have hd:decide ((len:Int)<2)=false:=dqf (by omega)
  obtain ⟨b,o,su,u,hp,hd6,-⟩:=hat (len-1) (by omega)
  subst hp
  obtain ⟨c0,c1,c2,c3,c4,c5⟩:=hd6
  have HR:Hid (jaJ len kid=if jan (kid (len-1))=true then (len:Int)-2 else -1):=by
   show _=_;unfold jaJ;by_cases h:jan (kid (len-1))=true
   ·rw [if_pos ⟨by omega,h⟩,if_pos h]
   ·rw [if_neg (fun x=>h x.2),if_neg h]
  obtain ⟨j,hj⟩:∃ j,len=j+1:=⟨len-1,by omega⟩
  subst hj
  rw [Nat.add_sub_cancel] at c0 c1 c2 c3 c4 c5 HR
  clear hat hv
  go_enter Tryz.func121,Tryz.ntmps121
  go_wp2_with fail
  refine (jiE (kid j) su u _).mono ?_
  rintro e w1 ⟨rfl,hb1⟩
  have HB:Hid (Below w.heap.size w w1):=hb1
  clear hb1 c0 c1 c2 c3 c4 c5
  cases h:jan (kid j)
  ·rw [h] at HR
   go_wp2_with fail
   go_ret
   exact ⟨by rw [HR.out];rfl,HB.out⟩
  ·rw [h] at HR
   go_wp2_with fail
   go_ret
   exact ⟨by rw [HR.out];simp,HB.out⟩
end Go.Proofs.YtjmlfacbcfbhdaaGreatDoor
namespace Go.Proofs.YtjmlfacbcfbhdaaGreatDoor
open Go.RowKit Go.Shelf
def jmO (fn:FuncId) (tmps:Array Value) (ps:Array Tmp) (assign body:Code) (d:Nat) (st:LoopState) (pe:Option Code):Loop:={state:=st,pending:=pe,fn,tmps,params:=ps,assign,body,defers:=d}
def joj (l:Nat) (rec:LoopState→Option Code→Loop) (R:Ending→World→Prop):Exit→Act→World→Prop
 | .normal,_,W=>W.heap[l]? = some (.loop (rec .busy none))∧R (.returned (.bool true)) (W.putObj l (.loop (rec .ready none)))
 | .ret,_,W=>W.heap[l]? = some (.loop (rec .busy none))∧R (.returned (.bool false)) (W.putObj l (.loop (rec .done (some .ret))))
 | .exit id,_,W=>W.heap[l]? = some (.loop (rec .busy none))∧R (.returned (.bool false)) (W.putObj l (.loop (rec .done (some (.exit id)))))
 | .goto t,_,W=>W.heap[l]? = some (.loop (rec .busy none))∧R (.returned (.bool false)) (W.putObj l (.loop (rec .done (some (.goto t)))))
 | .panic _,_,_=>False
 | .outgrown,_,_=>False
variable {P : Program} {m : Nat}
theorem jeH {l:Nat} {fn:FuncId} {tmps:Array Value} {ps:Array Tmp} {assign body:Code} {d:Nat} {rec:LoopState→Option Code→Loop} (hrec:rec=jmO fn tmps ps assign body d)
  {args:Array Value} {W:World} {R:Ending→World→Prop} (hl:W.heap[l]? = some (.loop (rec .ready none))) (hs:args.size=ps.size)
  (h:assign.wpIn (Fence.wide.inRound l) m P (Exit.then (fun a₁ w₁=>w₁.heap[l]? = some (.loop (rec .ready none))∧body.wpIn (Fence.wide.inRound l) m P (joj l rec R) a₁ (w₁.putObj l (.loop (rec .busy none)))) (fun _ _ _=>False))
   {tmps:=(ps.zip args).foldl (fun t (p,v)=>t.setIfInBounds p v) tmps,defers:=[]} W) :
  YieldAt Fence.wide m P l args W R:=by
 have hy:=run_yield (P:=P) (args:=args) hl (by rw [hrec];exact hs)
 rw [hrec] at hy
 refine ⟨fn,_,assign,body,hy,roundIn_of_wpIn trivial (wpIn_mono h ?_)⟩
 clear hy h
 rintro e a₁ w₁ he
 cases e with
 | normal =>
  obtain ⟨hl1,hb⟩:=he
  refine ⟨_,run_beginRound hl1 (by rw [hrec];rfl),?_⟩
  have e1:({rec .ready none with state:=.busy}:Loop)=rec .busy none:=by rw [hrec];rfl
  rw [e1]
  refine wpIn_mono hb ?_
  have fin:∀ (jump:Option Code) (W3:World),W3.heap[l]? = some (.loop (rec .busy none)) →
    (Instr.endRound l jump).run P W3=.ok (.bool jump.isNone) (W3.putObj l (.loop (rec (if jump.isNone then .ready else .done) jump))):=fun jump W3 h3=>by
   have:=run_endRound (P:=P) jump h3
   rw [hrec] at this ⊢
   exact this
  rintro e2 a3 W3 hp
  cases e2 with
  | normal=>exact ⟨_,_,fin none W3 hp.1,hp.2⟩
  | ret=>exact ⟨_,_,fin (some .ret) W3 hp.1,hp.2⟩
  | exit id=>exact ⟨_,_,fin (some (.exit id)) W3 hp.1,hp.2⟩
  | goto t=>exact ⟨_,_,fin (some (.goto t)) W3 hp.1,hp.2⟩
  | panic ch=>exact hp.elim
  | outgrown=>exact hp.elim
 | ret=>exact he.elim
 | exit id=>exact he.elim
 | goto t=>exact he.elim
 | panic ch=>exact he.elim
 | outgrown=>exact he.elim
abbrev jpD (a:Act) (d:Nat):Act:={a with defers:={target:=.collected d,args:=#[]}::a.defers}
def jpN (n:Nat) (P:Program) (Q:Exit→Act→World→Prop) (a:Act) (d:Nat) (rec:LoopState→Option Code→Loop):Ending→World→Prop:=fun e W =>
 (∃ v,e=.returned v) ∧
  ((W.heap[d+1]? = some (.loop (rec .ready none))∧Q .normal (jpD a d) (W.putObj (d+1) (.loop (rec .exhausted none)))) ∨
   (∃ c,W.heap[d+1]? = some (.loop (rec .done (some c)))∧c.wpIn Fence.wide n P Q (jpD a d) (W.putObj (d+1) (.loop (rec .exhausted (some c))))))
theorem jjl {g:Operand} {ps:Array Tmp} {assign body:Code} {Q:Exit→Act→World→Prop} {a:Act} {w:World} {n gf:Nat} {lb:Array Value}
  (hg:a.eval g=.func (.func gf) #[] lb) (eg:∀ args w,(callFunc gf args).run P w=.ok (.enter gf args) w)
  (h:∀ fn rec,rec=jmO fn a.tmps ps assign body w.heap.size →
   Calls P gf (#[.func (.yield (w.heap.size+1)) #[] #[]]++lb) ((w.alloc (.deferred (some []))).alloc (.loop (rec .ready none))) (jpN n P Q a w.heap.size rec)) :
  (Code.rangeFunc g ps assign body).wpIn Fence.wide n P Q a w:=by
 refine wpIn_rangeFunc ?_
 intro fn hfn
 obtain ⟨rec,hrec⟩:∃ rec,rec=jmO fn a.tmps ps assign body w.heap.size:=⟨_,rfl⟩
 obtain ⟨W1,hW1⟩:∃ W1,(w.alloc (.deferred (some []))).alloc (.loop (rec .ready none))=W1:=⟨_,rfl⟩
 have hh:=h fn rec hrec
 rw [hW1] at hh
 refine ⟨w.heap.size+1,[{target:=.collected w.heap.size,args:=#[]}],W1,{target:=.fn (.func gf) lb,args:=#[.func (.yield (w.heap.size+1)) #[] #[]]},W1,gf,
  #[.func (.yield (w.heap.size+1)) #[] #[]]++lb,W1,?_,?_,?_,?_,fun h=>(by simp [Fence.wide] at h),?_⟩
 ·rw [←hW1,hrec];exact run_enterLoop_outer _ _ _ _ _
 ·simp only [resolve,hg]
  simp [go_sem]
 ·intro f' _;trivial
 ·simp [invoke,go_sem,eg]
 ·refine (callsIn_wide.2 hh).mono ?_
  rintro e W2 ⟨⟨v,rfl⟩,(⟨hl,hq⟩|⟨c,hl,hq⟩)⟩
  ·exact ⟨none,_,by have:=run_endLoop (P:=P) hl (by rw [hrec];simp [jmO]);rw [hrec] at this ⊢;exact this,hq⟩
  ·exact ⟨some c,_,by have:=run_endLoop (P:=P) hl (by rw [hrec];simp [jmO]);rw [hrec] at this ⊢;exact this,hq⟩
end Go.Proofs.YtjmlfacbcfbhdaaGreatDoor
namespace Go.Proofs.YtjmlfacbcfbhdaaGreatDoor
open Go.RowKit Go.Shelf
attribute [local go_sem] Oper.semAt_some
abbrev aggX (t:X) (su u:Value):Value:=.agg #[.int .i64 t.op,.int .i64 t.at_,.int .i64 t.n,.string t.s,su,u]
theorem jnD (p:Option Addr) (len cap:Nat) (w:World):Calls Tryz.prog 122 #[.slice p len cap] w fun e w'=>e=.returned (.func (.func 124) #[] #[.pointer (some ⟨w.heap.size,0,none⟩)])∧w'=w.alloc (.cells #[.slice p len cap] 25):=by
 go_enter Tryz.func122,Tryz.ntmps122
 go_wp2_with fail
 go_ret
 exact ⟨rfl,rfl⟩
theorem XsB.uv {R:World→Value→List Int→Prop} {B:Nat} {w:World} {len:Nat} {kid:Nat→X} {v:Value} (h:XsB R B w len kid v):∃ (p:Option Addr) (cap:Nat) (U V:Nat→Value),v=.slice p len cap∧len≤maxLen ∧
  ∀ i,i<len→(∃ b o,p=some ⟨b,o,none⟩∧Head6 w b (o+i*6) (kid i) (U i) (V i))∧(kid i).InB R B w (U i) (V i):=by
 rcases h with ⟨rfl,p,cap,rfl⟩|⟨b,o,cap,U,V,rfl,hB,h1,h2,h3⟩
 ·exact ⟨p,cap,fun _=>.bool false,fun _=>.bool false,rfl,nzl _,fun i hi=>absurd hi (Nat.not_lt_zero _)⟩
 ·exact ⟨_,cap,U,V,rfl,Nat.le_trans h1 h2,fun i hi=>⟨⟨b,o,rfl,(h3 i hi).1⟩,(h3 i hi).2⟩⟩
theorem jlO (l Bs cap len:Nat) (p:Option Addr) (kid:Nat→X) (U V:Nat→Value) (J:Nat→World→Prop) (hl:len≤maxLen)
  (hJ:∀ k W,J k W→W.cell? ⟨Bs,0,none⟩=some (.slice p len cap)∧∀ i,i<len→∃ b o,p=some ⟨b,o,none⟩∧Head6 W b (o+i*6) (kid i) (U i) (V i))
  (hY:∀ k i W,J k W→k+i+1=len→YieldAt Fence.wide 0 Tryz.prog l #[.int .i64 i,aggX (kid i) (U i) (V i)] W fun e W'=>e=.returned (.bool true)∧J (k+1) W')
  (W:World) (h0:J 0 W) :
  Calls Tryz.prog 124 #[.func (.yield l) #[] #[],.pointer (some ⟨Bs,0,none⟩)] W fun e W'=>(∃ v,e=.returned v)∧J len W':=by
 have HJ:Hid (∀ k W,J k W→W.cell? ⟨Bs,0,none⟩=some (.slice p len cap)∧∀ i,i<len→∃ b o,p=some ⟨b,o,none⟩∧Head6 W b (o+i*6) (kid i) (U i) (V i)):=hJ
 have HY:Hid (∀ k i W,J k W→k+i+1=len→YieldAt Fence.wide 0 Tryz.prog l #[.int .i64 i,aggX (kid i) (U i) (V i)] W fun e W'=>e=.returned (.bool true)∧J (k+1) W'):=hY
 clear hJ hY
 unfold maxLen at hl
 have hbx:=(HJ.out 0 W h0).1
 refine callsIn_wide (n:=0).1 ?_
 refine callsIn_of_wp Tryz.func124 rfl trivial ?_ rfl
 simp only [Tryz.ntmps124,List.size_toArray,List.length_cons,List.length_nil,Nat.reduceAdd,Nat.reduceSub,Array.replicate_succ,Array.replicate_zero,List.push_toArray,List.append_toArray,List.nil_append,List.cons_append]
 gi_wp2
 clear hbx
 gi_loopw [3] (fun i wr=>∃ (k:Nat),i=.int .i64 ((len:Int)-k-1)∧k≤len∧J k wr) (fun i _=>(intOf i+1).toNat)
 case atStart=>exact ⟨0,by go_num,nzl _,h0⟩
 case round =>
  obtain ⟨k,rfl,hk,hj⟩:=hrel
  by_cases hlt:k=len
  ·subst hlt
   gi_wp2
   go_end0
   exact ⟨⟨_,rfl⟩,hj⟩
  ·obtain ⟨i,hi⟩:∃ i,k+i+1=len:=⟨len-k-1,by omega⟩
   have hii:(len:Int)-k-1=i:=by omega
   rw [hii]
   obtain ⟨hbx,hd⟩:=HJ.out k wr hj
   obtain ⟨b,o,hp,hd6⟩:=hd i (by omega)
   subst hp
   obtain ⟨c0,c1,c2,c3,c4,c5⟩:=hd6
   obtain ⟨fn,tmps,assign,body,hy,hR⟩:=HY.out k i wr hj hi
   gi_wp2
   refine ⟨rfl,hR.mono ?_⟩
   rintro e W3 ⟨rfl,hj3⟩
   gi_wp2
   go_roundw
   case rel=>exact ⟨k+1,by go_num,by omega,hj3⟩
   case measure=>simp [intOf]
end Go.Proofs.YtjmlfacbcfbhdaaGreatDoor
namespace Go.Proofs.YtjmlfacbcfbhdaaGreatDoor
open Go.ChangeShapes Go.WideShapes Go.ChangeAt Go.RowKit
structure DR where
 t:X
 su:Value
 u:Value
 d:Int
def jbG (q:DR):List Value:=[.int .i64 q.t.op,.int .i64 q.t.at_,.int .i64 q.t.n,.string q.t.s,q.su,q.u,.int .i64 q.d]
def jdE (l:List DR):List Value:=l.flatMap jbG
theorem jc7 (a b:List DR):jdE (a++b)=jdE a++jdE b:=by simp [jdE]
theorem jk6 (l:List DR) (q:DR):jdE (l++[q])=jdE l++jbG q:=by rw [jc7];simp [jdE]
theorem jc8 (l:List DR):(jdE l).length=l.length*7:=by
 induction l with
 | nil=>rfl
 | cons t r ih=>simp only [jdE,List.flatMap_cons,List.length_append,List.length_cons] at ih ⊢;rw [ih];simp [jbG];omega
theorem jk5 (q:DR) (h1:q.su.oneCell'=true) (h2:q.u.oneCell'=true):∀ x∈jbG q,x.oneCell'=true:=by
 intro x hx
 simp only [jbG,List.mem_cons,List.not_mem_nil,or_false] at hx
 rcases hx with rfl|rfl|rfl|rfl|rfl|rfl|rfl
 ·rfl
 ·rfl
 ·rfl
 ·rfl
 ·exact h1
 ·exact h2
 ·rfl
def OwnD (w:World) (base:Nat) (v:Value) (l:List DR):Prop:=w.ownsRow base 186 7 v l.length (jdE l)
theorem OwnD.below {w w':World} {base:Nat} {v:Value} {l:List DR} (h:OwnD w base v l) (hb:Below w.heap.size w w'):OwnD w' base v l:=jaY h hb
theorem jiC:(Tryz.prog.info? 186).map (fun i=>(i.zero,i.size,i.bytes))=some (some (.agg #[.int .i64 0,.int .i64 0,.int .i64 0,.string ⟨#[]⟩,.slice none 0 0,.slice none 0 0,.int .i64 0]),7,96):=by kernel_rfl
theorem qnew (w:World) (q:DR) (t:TypeId):∀ ad,some (⟨w.heap.size,0,none⟩:Addr)=some ad→∀ j x,(jbG q)[j]? = some x→(w.alloc (.cells #[.int .i64 q.t.op,.int .i64 q.t.at_,.int .i64 q.t.n,.string q.t.s,q.su,q.u,.int .i64 q.d] t)).cell? (ad.add j)=some x:=by
 intro ad h j x hu
 obtain rfl:=Option.some.inj h
 rw [Addr.add_lit,Nat.zero_add,crw _ _ _ _ _ _ (han w (.cells #[.int .i64 q.t.op,.int .i64 q.t.at_,.int .i64 q.t.n,.string q.t.s,q.su,q.u,.int .i64 q.d] t))]
 match j,hu with
 | 0,hu=>simpa [jbG] using hu
 | 1,hu=>simpa [jbG] using hu
 | 2,hu=>simpa [jbG] using hu
 | 3,hu=>simpa [jbG] using hu
 | 4,hu=>simpa [jbG] using hu
 | 5,hu=>simpa [jbG] using hu
 | 6,hu=>simpa [jbG] using hu
 | (j+7),hu=>simp [jbG] at hu
end Go.Proofs.YtjmlfacbcfbhdaaGreatDoor
namespace Go.Proofs.YtjmlfacbcfbhdaaGreatDoor
open Go.RowKit
structure But (X:Nat→Prop) (w w':World):Prop where
 os:w'.os=w.os
 tape:w'.tape=w.tape
 output:w'.output=w.output
 size:w.heap.size≤w'.heap.size
 block:∀ k,k<w.heap.size→¬ X k→w'.heap[k]? = w.heap[k]?
variable {X Y : Nat → Prop} {a b c w w' : World}
theorem But.refl (X:Nat→Prop) (w:World):But X w w:=⟨rfl,rfl,rfl,nlr _,fun _ _ _=>rfl⟩
theorem But.trans (h:But X a b) (k:But X b c):But X a c :=
 ⟨k.os.trans h.os,k.tape.trans h.tape,k.output.trans h.output,Nat.le_trans h.size k.size,fun i hi hx=>(k.block i (nll hi h.size) hx).trans (h.block i hi hx)⟩
theorem But.mono (h:But X a b) (hx:∀ k,k<a.heap.size→X k→Y k):But Y a b:=⟨h.os,h.tape,h.output,h.size,fun k hk hy=>h.block k hk (fun x=>hy (hx k hk x))⟩
theorem But.of_below {B:Nat} (h:Below B a b) (hx:∀ k,k<a.heap.size→B≤k→X k):But X a b:=⟨h.os,h.tape,h.output,h.size,fun k hk hn=>h.block k (by rcases Nat.lt_or_ge k B with h1|h1;exact h1;exact absurd (hx k hk h1) hn)⟩
theorem But.of_all (h:Below a.heap.size a b):But X a b:=But.of_below h (fun k hk hB=>absurd hk (by omega))
theorem But.below (h:But X a b) {B:Nat} (hB:B≤a.heap.size) (hx:∀ k,X k→B≤k):Below B a b:=⟨h.os,h.tape,h.output,h.size,fun k hk=>h.block k (by omega) (fun x=>by have:=hx k x;omega)⟩
theorem But.alloc (h:But X a b) (o:Obj):But X a (b.alloc o) :=
 h.trans ⟨rfl,rfl,rfl,by simp,fun k hk _=>bha _ _ _ hk⟩
theorem But.setCell (h:But X a b) {p:Addr} (hp:a.heap.size≤p.block∨X p.block) (u:Value):But X a (b.setCell p u) :=
 ⟨h.os,h.tape,h.output,by have:=h.size;simpa [World.setCell] using this,fun k hk hx=>(Below.heap_setCell _ _ _ _ (by rintro rfl;rcases hp with h1|h1;omega;exact hx h1)).trans (h.block k hk hx)⟩
theorem But.putObj (h:But X a b) {r:Nat} (hp:a.heap.size≤r∨X r) (o:Obj):But X a (b.putObj r o) :=
 ⟨h.os,h.tape,h.output,by have:=h.size;simpa using this,fun k hk hx=>(World.putObj_heap_other (by rintro rfl;rcases hp with h1|h1;omega;exact hx h1)).trans (h.block k hk hx)⟩
theorem But.grown {row:Option Nat} (h:But X a b) (hg:b.grownBy c row) (hr:∀ k,row=some k→a.heap.size≤k∨X k):But X a c :=
 ⟨hg.os.trans h.os,hg.tape.trans h.tape,hg.output.trans h.output,Nat.le_trans h.size hg.size,fun k hk hx=>(hg.block k (nll hk h.size) (by intro e;rcases hr k e.symm with h1|h1;omega;exact hx h1)).trans (h.block k hk hx)⟩
theorem But.drew (h:But X a b):But X a b.drew:=⟨h.os,h.tape,h.output,h.size,h.block⟩
theorem But.cell (h:But X a b) {p:Addr} (hp:p.block<a.heap.size) (hx:¬ X p.block):b.cell? p=a.cell? p:=wcb (w:=a) (h.block p.block hp hx)
theorem But.at (h:But X a b) {k:Nat} {o:Obj} (hk:a.heap[k]? = some o) (hx:¬ X k):b.heap[k]? = some o:=(h.block k (aes.1 hk).1 hx).trans hk
theorem But.step (h:But X a b) (k:But Y b c) (hy:∀ j,j<a.heap.size→Y j→X j):But X a c :=
 ⟨k.os.trans h.os,k.tape.trans h.tape,k.output.trans h.output,Nat.le_trans h.size k.size,fun i hi hx=>(k.block i (nll hi h.size) (fun y=>hx (hy i hi y))).trans (h.block i hi hx)⟩
theorem But.owns (h:But X a b) {base e size n:Nat} {v:Value} {xs:List Value} (ho:a.ownsRow base e size v n xs) (hx:∀ g,v.ownBlock=some g→¬ X g):b.ownsRow base e size v n xs:=by
 refine ⟨ho.1,?_⟩
 rcases ho.2 with hn|⟨g,cap,cur,rfl,hbg,hgg,rest⟩
 ·exact .inl hn
 ·exact .inr ⟨g,cap,cur,rfl,hbg,h.at hgg (hx g rfl),rest⟩
end Go.Proofs.YtjmlfacbcfbhdaaGreatDoor
namespace Go.Proofs.YtjmlfacbcfbhdaaGreatDoor
open Go.RowKit
theorem jcU {P:Program} (w:World) (base:Nat) (t ty e:TypeId) (i:TypeInfo) (z:Value) (size bytes:Nat) (ht:P.underlying t=some (.slice e)) (hi:P.info? e=some i) (hz:i.zero=some z)
  (hsize:i.size=size) (hby:i.bytes=bytes)
  (v:Value) (n:Nat) (xs:List Value) (hown:w.ownsRow base e size v n xs)
  (a:Addr) (m c:Nat) (news:List Value) (hl:news.length=m*size) (hnews:∀ j u,news[j]? = some u→w.cell? (a.add j)=some u) (h1:∀ u∈news,u.oneCell'=true)
  (h63:n+m≤maxLen) (hbytes:(n+m)*bytes≤140737488355328) (h0:0<m) (v':Value) (w':World) (hrun:(Builtin.append_ #[t,t] ty #[v,.slice (some a) m c]).run P w=.ok v' w') :
  v'.ownBlock=v.ownBlock∨v'.ownBlock=some w.heap.size:=by
 subst hsize hby
 have hsmall:n+m≤9223372036854775807:=by simp only [maxLen] at h63;omega
 rcases hown.2 with ⟨rfl,rfl⟩|⟨g,cap,cur,rfl,hbg,hg,hnc,hcm,hcs,htake⟩
 ·have hr:=run_append_nil (P:=P) w t ty e i z ht hi hz a m c news hl hnews h0 (by omega) (by rw [Nat.zero_add] at hbytes;omega)
  rw [hr] at hrun
  injection hrun with e1 _
  exact .inr (by rw [←e1];rfl)
 ·by_cases hroom:n+m≤cap
  ·have hr:=run_append_room (P:=P) w t ty e i ht hi g n cap cur hg a m c news hl hnews h1 hroom (by rw [hl,hcs,←Nat.add_mul];exact Nat.mul_le_mul_right _ hroom)
   rw [hr] at hrun
   injection hrun with e1 _
   exact .inl (by rw [←e1];rfl)
  ·have hr:=run_append_grow (P:=P) w t ty e i z ht hi hz ⟨g,0,none⟩ n cap xs hown.1 (hown.cells (g:=g) rfl) a m c news hl hnews (by omega) (by omega) (growslice_fits (by omega) hbytes)
   rw [hr] at hrun
   injection hrun with e1 _
   exact .inr (by rw [←e1];rfl)
theorem jea {F:Fence} {n:Nat} {P:Program} (w:World) {ops:Array Oper} {rest:List Oper} {o:Oper} {a:Act} {Q:Exit→Act→World→Prop}
  (hg:o.guard=none) (s x:Operand) (t:TypeId) (hop:o.op=Op.call {callee:=Callee.builtin Builtin.append,args:=#[s,x],argTypes:=#[t,t]})
  (base:Nat) (e:TypeId) (i:TypeInfo) (z:Value) (size bytes:Nat) (h1:P.underlying t=some (.slice e)) (h2:P.info? e=some i) (h3:i.zero=some z) (h4:i.size=size) (h5:i.bytes=bytes) (h6:z.cells.size=size) (h7:0<size)
  (v:Value) (k:Nat) (xs:List Value) (hs:a.eval s=v) (hown:w.ownsRow base e size v k xs) (ad:Addr) (m c:Nat) (news:List Value) (hx:a.eval x=.slice (some ad) m c) (hn:news.length=m*size)
  (hc:∀ j u,news[j]? = some u→w.cell? (ad.add j)=some u) (h1c:∀ u∈news,u.oneCell'=true) (b1:k+m≤maxLen) (b2:(k+m)*bytes≤140737488355328) (b3:base≤w.heap.size) (hm:0<m)
  (hK:∀ v' w',Hid (w'.ownsRow base e size v' (k+m) (xs++news))→Hid (w.grownBy w' v.ownBlock)→Hid (v'.ownBlock=v.ownBlock∨v'.ownBlock=some w.heap.size)→wpListIn F n P ops Q rest (a.put o.dst v') w') :
  wpListIn F n P ops Q (o::rest) a w:=by
 refine wpListIn_plain hg fun K hK'=>?_
 obtain ⟨v',w',hrun,r1,r2,r3⟩:=run_append_own (P:=P) w base t o.type e i z size bytes h1 h2 h3 h4 h5 h6 h7 v k xs hown ad m c news hn hc h1c b1 b2 b3
 have r4:=jcU (P:=P) w base t o.type e i z size bytes h1 h2 h3 h4 h5 v k xs hown ad m c news hn hc h1c b1 b2 hm v' w' hrun
 unfold Oper.wpIn
 refine ⟨?_,?_⟩
 ·simp [Oper.about,hop,resolve,Target.leads,Sem.run_pure]
 ·rw [Oper.semAt_plain F _ _ (by rw [hop];intro c hc';cases hc')]
  simp [execOp,hop,resolve,invoke,builtin,hs,hx,hrun,Result.andThen]
  exact hK' _ _ (hK v' w' r1 r2 r4)
theorem jch {P:Program} {w:World} {ops:Array Oper} {o:Oper} {a:Act} {K:Act→World→Prop} {Q:Exit→Act→World→Prop} {E:Prop} (hgd:o.guard=none) (s x:Operand) (t:TypeId)
  (ho:o.op=.call {callee:=.builtin .append,args:=#[s,x],argTypes:=#[t,t]})
  (base:Nat) (e:TypeId) (i:TypeInfo) (z:Value) (size bytes:Nat) (ht:P.underlying t=some (.slice e)) (hi:P.info? e=some i) (hz:i.zero=some z)
  (hsize:i.size=size) (hby:i.bytes=bytes) (hzs:z.cells.size=size) (hsz:0<size)
  (v:Value) (n:Nat) (xs:List Value) (hs:a.eval s=v) (hown:w.ownsRow base e size v n xs)
  (ad:Addr) (m c:Nat) (news:List Value) (hx:a.eval x=.slice (some ad) m c) (hl:news.length=m*size) (hnews:∀ j u,news[j]? = some u→w.cell? (ad.add j)=some u) (h1:∀ u∈news,u.oneCell'=true)
  (h63:n+m≤maxLen) (hbytes:(n+m)*bytes≤140737488355328) (hbase:base≤w.heap.size) (hm:0<m)
  (h:∀ v' w',Hid (w'.ownsRow base e size v' (n+m) (xs++news))→Hid (w.grownBy w' v.ownBlock)→Hid (v'.ownBlock=v.ownBlock∨v'.ownBlock=some w.heap.size)→K (a.put o.dst v') w') :
  if Region.wanted o (yielded ops a.tmps)=true then Oper.wp P o a w K Q else E:=by
 have hw:Region.wanted o (yielded ops a.tmps)=true:=by simp [Region.wanted,hgd]
 rw [if_pos hw]
 obtain ⟨v',w',hr,h2,h3,_⟩:=run_append_own (P:=P) w base t o.type e i z size bytes ht hi hz hsize hby hzs hsz v n xs hown ad m c news hl hnews h1 h63 hbytes hbase
 have r4:=jcU (P:=P) w base t o.type e i z size bytes ht hi hz hsize hby v n xs hown ad m c news hl hnews h1 h63 hbytes hm v' w' hr
 unfold Oper.wp execOp
 simp only [ho,resolve,invoke,builtin,Sem.run_bind,Sem.run_pure,Result.andThen_ok,List.map_toArray,List.map_cons,List.map_nil,hs,hx,hr]
 exact h v' w' h2 h3 r4
end Go.Proofs.YtjmlfacbcfbhdaaGreatDoor
namespace Go.Proofs.YtjmlfacbcfbhdaaGreatDoor
open Go.ChangeShapes Go.WideShapes Go.ChangeAt Go.RowKit Go.Shelf
attribute [local go_sem] Oper.semAt_some
def jal (len:Nat) (kid:Nat→X) (d:Int) (i:Nat):Int:=if (i:Int)=jaJ len kid then d+1 else d
def jap (len:Nat) (kid:Nat→X) (U V:Nat→Value) (d:Int):Nat→List DR
 | 0=>[]
 | k+1=>jap len kid U V d k++[⟨kid (len-1-k),U (len-1-k),V (len-1-k),jal len kid d (len-1-k)⟩]
theorem jfz (len:Nat) (kid:Nat→X) (U V:Nat→Value) (d:Int) (k:Nat):(jap len kid U V d k).length=k:=by
 induction k with
 | zero=>rfl
 | succ k ih=>simp [jap,ih]
def Seven (w:World) (g:Nat) (q:DR) (ty:TypeId):Prop:=w.heap[g]? = some (.cells #[.int .i64 q.t.op,.int .i64 q.t.at_,.int .i64 q.t.n,.string q.t.s,q.su,q.u,.int .i64 q.d] ty (0,0))
theorem Seven.cells {w:World} {g:Nat} {q:DR} {ty:TypeId} (h:Seven w g q ty) :
  w.cell? ⟨g,0,none⟩=some (.int .i64 q.t.op)∧w.cell? ⟨g,1,none⟩=some (.int .i64 q.t.at_)∧w.cell? ⟨g,2,none⟩=some (.int .i64 q.t.n)∧w.cell? ⟨g,3,none⟩=some (.string q.t.s)∧w.cell? ⟨g,4,none⟩=some q.su∧w.cell? ⟨g,5,none⟩=some q.u∧w.cell? ⟨g,6,none⟩=some (.int .i64 q.d) :=
 ⟨crw w g 0 _ _ _ h,crw w g 1 _ _ _ h,crw w g 2 _ _ _ h,crw w g 3 _ _ _ h,crw w g 4 _ _ _ h,crw w g 5 _ _ _ h,crw w g 6 _ _ _ h⟩
theorem Seven.lt {w:World} {g:Nat} {q:DR} {ty:TypeId} (h:Seven w g q ty):g<w.heap.size:=(aes.1 h).1
theorem jhJ (len:Nat) (kid:Nat→X) (U V:Nat→Value) (d:Int) (k i:Nat) (h:k+i+1=len):jap len kid U V d (k+1)=jap len kid U V d k++[⟨kid i,U i,V i,jal len kid d i⟩]:=by
 have:len-1-k=i:=by omega
 simp [jap,this]
theorem jc5 {w:World} {base e size n:Nat} {v:Value} {xs:List Value} (h:w.ownsRow base e size v n xs):∃ p c,v=.slice p n c:=by
 rcases h.2 with ⟨rfl,rfl⟩|⟨g1,cap,cur,rfl,_⟩
 ·exact ⟨_,_,rfl⟩
 ·exact ⟨_,_,rfl⟩
theorem jno (w0 w:World) (q:DR) (v:Value) (l:List DR) (hin:q.t.At 0 w0 q.su q.u) (hb0:Below w0.heap.size w0 w) (hown:OwnD w w0.heap.size v l) (hlen:l.length+q.t.len≤4194304) (hd:-4194304≤q.d∧q.d≤4194304) :
  Calls Tryz.prog 119 #[v,.agg #[.int .i64 q.t.op,.int .i64 q.t.at_,.int .i64 q.t.n,.string q.t.s,q.su,q.u,.int .i64 q.d]] w fun e w'=>∃ v' U V,e=.returned v'∧But (fun k=>v.ownBlock=some k) w w'∧OwnD w' w0.heap.size v' (l++jap q.t.len q.t.kid U V q.d q.t.len) ∧
   (v'.ownBlock=v.ownBlock∨∀ g,v'.ownBlock=some g→w.heap.size≤g)∧∀ i,i<q.t.len→(q.t.kid i).At 0 w0 (U i) (V i):=by
 obtain ⟨t,su,u,d⟩:=q
 simp only at hin hlen hd ⊢
 obtain ⟨p,cap,U,V,eu,hl,hat⟩:=hin.xs.uv
 obtain ⟨ps,cs,es⟩:=hin.sets.shape
 have HAT:Hid (∀ i,i<t.len→(∃ b o,p=some ⟨b,o,none⟩∧Head6 w0 b (o+i*6) (t.kid i) (U i) (V i))∧(t.kid i).At 0 w0 (U i) (V i)):=hat
 have HXS:Hid (XsAt 0 w0 t.len t.kid u):=hin.xs
 obtain ⟨pv,cv,ev⟩:=jc5 hown
 have HO:Hid (OwnD w w0.heap.size v l):=hown
 have HB0:Hid (Below w0.heap.size w0 w):=hb0
 clear hin hat hown hb0
 subst eu es ev
 have HB1:Hid (∀ o1 o2,Below w0.heap.size w0 ((w.alloc o1).alloc o2)):=fun o1 o2=>(HB0.out.alloc HB0.out.size _).alloc (by have:=HB0.out.size;simp;omega) _
 refine callsIn_wide (n:=0).1 ?_
 refine callsIn_of_wp_marks Tryz.func119 rfl trivial ?_ rfl
 simp only [Tryz.ntmps119,List.size_toArray,List.length_cons,List.length_nil,Nat.reduceAdd,Nat.reduceSub,Array.replicate_succ,Array.replicate_zero,List.push_toArray,List.append_toArray,List.nil_append,List.cons_append]
 gi_wp2
 refine ⟨trivial,rfl,(callsIn_wide.2 (ji0 t.len t.kid _ _ (HXS.out.below (HB1.out _ _)))).mono ?_⟩
 rintro e w1 ⟨rfl,hb1⟩
 obtain ⟨h1,h2,h3,h4⟩:=twoX hb1
 have B1:Hid (Below w0.heap.size w0 w1∧Below w.heap.size w w1):=⟨HB0.out.trans (h4.mono HB0.out.size),h4⟩
 have S1:Hid (w1.heap[w.heap.size]? = some (.cells #[.slice pv l.length cv] 187)∧w1.heap[w.heap.size+1]? = some (.cells #[.int .i64 t.op,.int .i64 t.at_,.int .i64 t.n,.string t.s,.slice ps t.set.length cs,.slice p t.len cap,.int .i64 d] 186)∧w.heap.size+2≤w1.heap.size):=⟨h1,h2,h3⟩
 clear hb1 h1 h2 h3 h4 HB1
 gi_wp2
 refine ⟨trivial,rfl,(callsIn_wide.2 (jnD p t.len cap _)).mono ?_⟩
 rintro e w2 ⟨rfl,rfl⟩
 gi_wp2
 obtain ⟨oft,hoft⟩:∃ o,o=jaJ t.len t.kid:=⟨_,rfl⟩
 have HOFT:Hid (oft=jaJ t.len t.kid):=hoft
 rw [←hoft]
 clear hoft
 obtain ⟨W2,hW2⟩:∃ W2,(w1.alloc (.cells #[.int .i64 oft] 3)).alloc (.cells #[.slice p t.len cap] 25)=W2:=⟨_,rfl⟩
 have hb2:Below w1.heap.size w1 W2:=by rw [←hW2];exact (newx _ _).trans ((newx _ _).mono (by simp))
 have n1:W2.heap[w1.heap.size]? = some (.cells #[.int .i64 oft] 3):=by rw [←hW2,bha _ _ _ (by simp)];exact han _ _
 have n2:W2.heap[w1.heap.size+1]? = some (.cells #[.slice p t.len cap] 25):=by rw [←hW2];have:=han (w1.alloc (.cells #[.int .i64 oft] 3)) (.cells #[.slice p t.len cap] 25);rwa [World.size_alloc] at this
 have hsz2:W2.heap.size=w1.heap.size+2:=by rw [←hW2];simp
 rw [hW2]
 clear hW2
 have a0:=(hb2.block w.heap.size (by have:=S1.out.2.2;omega)).trans S1.out.1
 have a1:=(hb2.block (w.heap.size+1) (by have:=S1.out.2.2;omega)).trans S1.out.2.1
 have hW2:Below w.heap.size w W2:=B1.out.2.trans (hb2.mono B1.out.2.size)
 have hg0:∀ g,(Value.slice pv l.length cv).ownBlock=some g→g<w.heap.size:=fun g hg=>(HO.out.lt g hg).2
 have S2:Hid (W2.heap[w.heap.size]? = some (.cells #[.slice pv l.length cv] 187)∧W2.heap[w.heap.size+1]? = some (.cells #[.int .i64 t.op,.int .i64 t.at_,.int .i64 t.n,.string t.s,.slice ps t.set.length cs,.slice p t.len cap,.int .i64 d] 186) ∧
   W2.heap[w1.heap.size]? = some (.cells #[.int .i64 oft] 3)∧W2.heap[w1.heap.size+1]? = some (.cells #[.slice p t.len cap] 25)∧W2.heap.size=w1.heap.size+2∧w.heap.size+2≤w1.heap.size∧Below w.heap.size w W2∧Below w0.heap.size w0 W2∧OwnD W2 w0.heap.size (.slice pv l.length cv) l) :=
  ⟨a0,a1,n1,n2,hsz2,S1.out.2.2,hW2,HB0.out.trans (hW2.mono HB0.out.size),HO.out.below hW2⟩
 have HG0:Hid (∀ g,(Value.slice pv l.length cv).ownBlock=some g→g<w.heap.size):=hg0
 clear a0 a1 n1 n2 hsz2 hb2 S1 B1 hW2 hg0
 obtain ⟨A0,hA0⟩:∃ x,x=w.heap.size:=⟨_,rfl⟩
 obtain ⟨N,hN⟩:∃ x,x=w1.heap.size:=⟨_,rfl⟩
 have HA0:Hid (A0=w.heap.size):=hA0
 rw [←hA0,←hN] at S2 ⊢
 rw [←hA0] at HG0
 clear hA0 hN w1
 refine jjl (gf:=124) (lb:=#[.pointer (some ⟨N+1,0,none⟩)]) rfl (enters_of Tryz.func124 (by kernel_rfl) rfl) ?_
 intro fn rec hrec
 obtain ⟨M,hM⟩:∃ x,x=W2.heap.size:=⟨_,rfl⟩
 have HM:Hid (M=W2.heap.size):=hM
 rw [←hM] at S2 hrec ⊢
 obtain ⟨W3,hW3⟩:∃ W3,(W2.alloc (.deferred (some []))).alloc (.loop (rec .ready none))=W3:=⟨_,rfl⟩
 have b3:Below W2.heap.size W2 W3:=by rw [←hW3];exact (newx _ _).trans ((newx _ _).mono (by simp))
 have d3:W3.heap[M]? = some (.deferred (some [])):=by rw [←hW3,hM,bha _ _ _ (by simp)];exact han _ _
 have l3:W3.heap[M+1]? = some (.loop (rec .ready none)):=by rw [←hW3,hM];have:=han (W2.alloc (.deferred (some []))) (.loop (rec .ready none));rwa [World.size_alloc] at this
 have s3:W3.heap.size=M+2:=by rw [←hW3,hM];simp
 rw [hW3]
 obtain ⟨z0,z1,z2,z3,z4,z5,z6,z7,z8⟩:=S2.out
 have e0:=(b3.block A0 (by omega)).trans z0
 have e1:=(b3.block (A0+1) (by omega)).trans z1
 have e2:=(b3.block N (by omega)).trans z2
 have e3:=(b3.block (N+1) (by omega)).trans z3
 obtain ⟨J,hJd⟩:∃ J:Nat→World→Prop,J=fun k W=>∃ pk ck,W.heap[A0]? = some (.cells #[.slice pk (l.length+k) ck] 187)∧OwnD W w0.heap.size (.slice pk (l.length+k) ck) (l++jap t.len t.kid U V d k) ∧
   ((Value.slice pk (l.length+k) ck).ownBlock=(Value.slice pv l.length cv).ownBlock∨∀ g,(Value.slice pk (l.length+k) ck).ownBlock=some g→M+2≤g)∧W.heap[M+1]? = some (.loop (rec .ready none)) ∧
   But (fun j=>j=A0∨j=M+1∨(Value.slice pv l.length cv).ownBlock=some j) W3 W:=⟨_,rfl⟩
 have hbx:∀ k W,J k W→W.heap[A0+1]? = some (.cells #[.int .i64 t.op,.int .i64 t.at_,.int .i64 t.n,.string t.s,.slice ps t.set.length cs,.slice p t.len cap,.int .i64 d] 186)∧W.heap[N]? = some (.cells #[.int .i64 oft] 3)∧W.heap[N+1]? = some (.cells #[.slice p t.len cap] 25)∧W.heap[M]? = some (.deferred (some []))∧Below w0.heap.size w0 W:=by
  intro k W hk
  rw [hJd] at hk
  obtain ⟨pk,ck,-,-,-,-,hbut⟩:=hk
  have ng:∀ j,A0≤j→¬ (Value.slice pv l.length cv).ownBlock=some j:=fun j hj e=>by have:=HG0.out j e;omega
  refine ⟨hbut.at e1 ?_,hbut.at e2 ?_,hbut.at e3 ?_,hbut.at d3 ?_,z7.trans ((b3.mono (by have:=z7.size;omega)).trans (hbut.below (by have:=z7.size;omega) ?_))⟩
  ·rintro (h|h|h)
   ·omega
   ·omega
   ·exact ng _ (by omega) h
  ·rintro (h|h|h)
   ·omega
   ·omega
   ·exact ng _ (by omega) h
  ·rintro (h|h|h)
   ·omega
   ·omega
   ·exact ng _ (by omega) h
  ·rintro (h|h|h)
   ·omega
   ·omega
   ·exact ng _ (by omega) h
  ·rintro j (h|h|h)
   ·have:=HB0.out.size;have:=HA0.out;omega
   ·have:=z7.size;omega
   ·exact (z8.lt j h).1
 refine (jlO (M+1) (N+1) cap t.len p t.kid U V J hl ?hJ ?hY W3 ?h0).mono ?_
 case hJ =>
  intro k W hk
  obtain ⟨-,-,h3,-,h5⟩:=hbx k W hk
  refine ⟨crw W _ 0 _ _ _ h3,fun i hi=>?_⟩
  obtain ⟨⟨b,o,hp,h6⟩,-⟩:=HAT.out i hi
  exact ⟨b,o,hp,h6.below h5⟩
 case h0 =>
  rw [hJd]
  exact ⟨pv,cv,e0,by simpa [jap] using z8.below b3,.inl rfl,l3,But.refl _ _⟩
 case hY =>
  intro k i W hk hki
  obtain ⟨q1,q2,q3,q4,q5⟩:=hbx k W hk
  obtain ⟨-,hAi⟩:=HAT.out i (by omega)
  obtain ⟨pu,cu,eU⟩:=hAi.sets.shape
  obtain ⟨pw,cw,eV⟩:=hAi.xs.shape
  rw [hJd] at hk ⊢
  obtain ⟨pk,ck,hbox,hownk,hwh,hrl,hbut⟩:=hk
  have HK:Hid (jap t.len t.kid U V d (k+1)=jap t.len t.kid U V d k++[⟨t.kid i,U i,V i,jal t.len t.kid d i⟩]):=jhJ t.len t.kid U V d k i hki
  have HKD:Hid (jal t.len t.kid d i=if (i:Int)=oft then d+1 else d):=by show _=_;unfold jal;rw [HOFT.out]
  have HLN:Hid ((l++jap t.len t.kid U V d k).length=l.length+k):=by show _=_;rw [lla,jfz]
  rw [eU,eV] at HK ⊢
  obtain ⟨KR,hKR⟩:∃ x,x=jap t.len t.kid U V d k:=⟨_,rfl⟩
  rw [←hKR] at HK HLN hownk
  clear hKR
  generalize jal t.len t.kid d i=dd at *
  have HW:Hid (W.heap[A0]? = some (.cells #[.slice pk (l.length+k) ck] 187)∧OwnD W w0.heap.size (.slice pk (l.length+k) ck) (l++KR) ∧
   ((Value.slice pk (l.length+k) ck).ownBlock=(Value.slice pv l.length cv).ownBlock∨∀ g,(Value.slice pk (l.length+k) ck).ownBlock=some g→M+2≤g)∧W.heap[M+1]? = some (.loop (rec .ready none)) ∧
   But (fun j=>j=A0∨j=M+1∨(Value.slice pv l.length cv).ownBlock=some j) W3 W):=⟨hbox,hownk,hwh,hrl,hbut⟩
  have HQ:Hid (W.heap[A0+1]? = some (.cells #[.int .i64 t.op,.int .i64 t.at_,.int .i64 t.n,.string t.s,.slice ps t.set.length cs,.slice p t.len cap,.int .i64 d] 186)∧W.heap[N]? = some (.cells #[.int .i64 oft] 3)∧Below w0.heap.size w0 W):=⟨q1,q2,q5⟩
  have HS:Hid (M=N+2∧A0+2≤N∧W3.heap.size=M+2∧w0.heap.size≤A0):=⟨z4,z5,s3,by have:=HB0.out.size;have:=HA0.out;omega⟩
  refine jeH hrec hrl rfl ?_
  clear hrec hM hW3 b3 d3 l3 s3 z0 z1 z2 z3 z4 z5 z6 z7 z8 e0 e1 e2 e3 hJd hbx q1 q2 q3 q4 q5 hbox hownk hwh hrl hbut hAi eU eV S2 HAT HXS HO HB0 J HM
  gi_wp2
  obtain ⟨o6,ho6⟩:∃ o6:Obj,.cells #[.int .i64 (t.kid i).op,.int .i64 (t.kid i).at_,.int .i64 (t.kid i).n,.string (t.kid i).s,.slice pu (t.kid i).set.length cu,.slice pw (t.kid i).len cw] 27=o6:=⟨_,rfl⟩
  rw [ho6]
  have hrA:(W.alloc o6).heap[M+1]? = some (.loop (rec .ready none)):=(bha _ _ _ (aes.1 HW.out.2.2.2.1).1).trans HW.out.2.2.2.1
  refine ⟨hrA,?_⟩
  obtain ⟨Wb,hWb⟩:∃ Wb,(W.alloc o6).putObj (M+1) (.loop (rec .busy none))=Wb:=⟨_,rfl⟩
  rw [hWb]
  have hMl:M+1<(W.alloc o6).heap.size:=(aes.1 hrA).1
  have oth:∀ j,j<W.heap.size→j≠M+1→Wb.heap[j]? = W.heap[j]? := fun j hj hne=>by
   rw [←hWb,World.putObj_heap_other hne];exact bha _ _ _ hj
  have c6:Wb.heap[W.heap.size]? = some o6:=by
   rw [←hWb,World.putObj_heap_other (by have:=(aes.1 HW.out.2.2.2.1).1;omega)];exact han _ _
  have hlW:=(aes.1 HW.out.2.2.2.1).1
  have hwn:∀ g,(Value.slice pk (l.length+k) ck).ownBlock=some g→g≠M+1∧g≠A0∧g≠A0+1∧g≠N:=fun g hg=>by
   have h1:=HS.out.1
   have h2:=HS.out.2.1
   rcases HW.out.2.2.1 with h|h
   ·rw [h] at hg
    have:=HG0.out g hg
    omega
   ·have:=h g hg
    omega
  have HB:Hid (Wb.heap[A0]? = some (.cells #[.slice pk (l.length+k) ck] 187)∧Wb.heap[A0+1]? = some (.cells #[.int .i64 t.op,.int .i64 t.at_,.int .i64 t.n,.string t.s,.slice ps t.set.length cs,.slice p t.len cap,.int .i64 d] 186)∧Wb.heap[N]? = some (.cells #[.int .i64 oft] 3) ∧
    Wb.heap[W.heap.size]? = some (.cells #[.int .i64 (t.kid i).op,.int .i64 (t.kid i).at_,.int .i64 (t.kid i).n,.string (t.kid i).s,.slice pu (t.kid i).set.length cu,.slice pw (t.kid i).len cw] 27)∧OwnD Wb w0.heap.size (.slice pk (l.length+k) ck) (l++KR)∧Wb.heap[M+1]? = some (.loop (rec .busy none))∧Wb.heap.size=W.heap.size+1 ∧
    But (fun j=>j=A0∨j=M+1∨(Value.slice pv l.length cv).ownBlock=some j) W3 Wb):=by
   have h1:=HS.out.1
   have h2:=HS.out.2.1
   refine ⟨(oth A0 (by omega) (by omega)).trans HW.out.1,(oth (A0+1) (by omega) (by omega)).trans HQ.out.1,(oth N (by omega) (by omega)).trans HQ.out.2.1,by rw [ho6];exact c6,?_,by rw [←hWb];exact World.putObj_heap_same hMl,by rw [←hWb];simp,by rw [←hWb];exact (HW.out.2.2.2.2.alloc _).putObj (.inr (.inr (.inl rfl))) _⟩
   refine ⟨HW.out.2.1.1,?_⟩
   rcases HW.out.2.1.2 with hn|⟨g,cap,cur,hv,hbg,hgg,rest⟩
   ·exact .inl hn
   ·exact .inr ⟨g,cap,cur,hv,hbg,(oth g (aes.1 hgg).1 (hwn g (by rw [hv];rfl)).1).trans hgg,rest⟩
  have HWN:Hid (∀ g,(Value.slice pk (l.length+k) ck).ownBlock=some g→g≠M+1∧g≠A0∧g≠A0+1∧g≠N):=hwn
  have HLT:Hid (M+1<W.heap.size):=hlW
  clear hrA hWb hMl oth c6 hlW hwn ho6 HQ
  obtain ⟨K0,hK0⟩:∃ x,x=W.heap.size:=⟨_,rfl⟩
  rw [←hK0] at HB HLT ⊢
  clear hK0
  have x0:Wb.cell? ⟨A0,0,none⟩=some (.slice pk (l.length+k) ck):=crw Wb _ 0 _ _ _ HB.out.1
  have x1:Wb.cell? ⟨A0+1,6,none⟩=some (.int .i64 d):=crw Wb _ 6 _ _ _ HB.out.2.1
  have x2:Wb.cell? ⟨N,0,none⟩=some (.int .i64 oft):=crw Wb _ 0 _ _ _ HB.out.2.2.1
  have y0:Wb.cell? ⟨K0,0,none⟩=some (.int .i64 (t.kid i).op):=crw Wb _ 0 _ _ _ HB.out.2.2.2.1
  have y1:Wb.cell? ⟨K0,1,none⟩=some (.int .i64 (t.kid i).at_):=crw Wb _ 1 _ _ _ HB.out.2.2.2.1
  have y2:Wb.cell? ⟨K0,2,none⟩=some (.int .i64 (t.kid i).n):=crw Wb _ 2 _ _ _ HB.out.2.2.2.1
  have y3:Wb.cell? ⟨K0,3,none⟩=some (.string (t.kid i).s):=crw Wb _ 3 _ _ _ HB.out.2.2.2.1
  have y4:Wb.cell? ⟨K0,4,none⟩=some (.slice pu (t.kid i).set.length cu):=crw Wb _ 4 _ _ _ HB.out.2.2.2.1
  have y5:Wb.cell? ⟨K0,5,none⟩=some (.slice pw (t.kid i).len cw):=crw Wb _ 5 _ _ _ HB.out.2.2.2.1
  obtain ⟨i0,hi,hz0,hz1,hz2⟩:=info_parts jiC
  have HBD:Hid (l.length+k+1≤4194304):=by show _≤_;omega
  have hcase:(((i:Int)==oft)=true∧dd=d+1)∨(((i:Int)==oft)=false∧dd=d):=by
   by_cases hoi:(i:Int)=oft
   ·exact .inl ⟨by simpa using hoi,by rw [HKD.out,if_pos hoi]⟩
   ·exact .inr ⟨by simpa using hoi,by rw [HKD.out,if_neg hoi]⟩
  clear HKD HOFT
  rcases hcase with ⟨ei,hdd⟩|⟨ei,hdd⟩
  all_goals
   subst hdd
   gi_wp2_with (gi_at_builtin;refine jea _ rfl (.tmp 26) (.tmp 30) 187 rfl w0.heap.size 186 i0 (.agg #[.int .i64 0,.int .i64 0,.int .i64 0,.string ⟨#[]⟩,.slice none 0 0,.slice none 0 0,.int .i64 0]) 7 96 Tryz.underlying187 hi hz0 hz1 hz2 rfl (by decide) (.slice pk (l.length+k) ck) (l++KR).length (jdE (l++KR)) rfl (World.ownsRow.alloc HB.out.2.2.2.2.1 _) ⟨Wb.heap.size,0,none⟩ 1 1 (jbG ⟨t.kid i,.slice pu (t.kid i).set.length cu,.slice pw (t.kid i).len cw,_⟩) rfl rfl (qnew Wb ⟨t.kid i,.slice pu (t.kid i).set.length cu,.slice pw (t.kid i).len cw,_⟩ _ _ rfl) (jk5 _ rfl rfl) (by have h1:=HLN.out;have h2:=HBD.out;unfold maxLen;omega) (by have h1:=HLN.out;have h2:=HBD.out;omega) (by have h1:=HB.out.2.2.2.2.2.2.1;have h2:=HLT.out;have h3:=HS.out;simp;omega) (by decide) ?_;intro v' w3 hown3 hg3 hwh3;have hown4:=hown3.out;rw [HLN.out] at hown4;have HO4:Hid (w3.ownsRow w0.heap.size 186 7 v' (l.length+k+1) (jdE (l++KR)++jbG ⟨t.kid i,.slice pu (t.kid i).set.length cu,.slice pw (t.kid i).len cw,_⟩)):=hown4;clear hown4 hown3;obtain ⟨p',c',hv'⟩:=jc5 HO4.out;have ha0:w3.heap[A0]? = some (.cells #[.slice pk (l.length+k) ck] 187):=(hg3.out.block A0 (by have h1:=(aes.1 HB.out.1).1;simp;omega) (fun h=>(HWN.out A0 h.symm).2.1 rfl)).trans ((bha _ _ _ (aes.1 HB.out.1).1).trans HB.out.1);subst hv';have hx:=crw w3 _ 0 _ _ _ ha0;have hfz:=fzr w3 A0 0 _ _ ha0)
   have hs1:=HS.out.1
   have hs2:=HS.out.2.1
   have hs3:=HS.out.2.2.1
   have hlt:=HLT.out
   have hbs:=HB.out.2.2.2.2.2.2.1
   have hrb:w3.heap[M+1]? = some (.loop (rec .busy none)):=(hg3.out.block (M+1) (by simp;omega) (fun h=>(HWN.out _ h.symm).1 rfl)).trans ((bha _ _ _ (by omega)).trans HB.out.2.2.2.2.2.1)
   have hnw:∀ g,(Value.slice p' (l.length+k+1) c').ownBlock=some g→g≠A0∧g≠M+1:=fun g hg=>by
    rcases hwh3.out with h|h
    ·rw [h] at hg
     exact ⟨(HWN.out g hg).2.1,(HWN.out g hg).1⟩
    ·rw [h] at hg
     injection hg with hg
     rw [←hg]
     simp
     omega
   refine ⟨(bhs _ _ _ _ (by simp;omega)).trans hrb,rfl,p',c',?_,?_,?_,?_,?_⟩
   ·rw [World.putObj_heap_other (by omega)]
    exact heap_setCell_same w3 A0 0 _ _ _ ha0
   ·unfold OwnD
    rw [HK.out,←List.append_assoc,jk6,lla,HLN.out]
    exact But.owns (((But.refl (fun j=>j=A0∨j=M+1) w3).setCell (.inr (.inl rfl)) _).putObj (.inr (.inr rfl)) _) HO4.out (fun g hg h=>by have:=hnw g hg;omega)
   ·rcases hwh3.out with h|h
    ·rcases HW.out.2.2.1 with h'|h'
     ·exact .inl (h.trans h')
     ·exact .inr (fun g hg=>h' g (h.symm.trans hg))
    ·refine .inr (fun g hg=>?_)
     have hg':=h.symm.trans hg
     injection hg' with hg'
     rw [←hg']
     simp
     omega
   ·exact World.putObj_heap_same (by have:=(aes.1 hrb).1;simpa [World.setCell] using this)
   ·refine ((((HB.out.2.2.2.2.2.2.2.alloc _).grown hg3.out (fun j hj=>?_)).setCell (.inr (.inl rfl)) _)).putObj (.inr (.inr (.inl rfl))) _
    rcases HW.out.2.2.1 with h'|h'
    ·exact .inr (.inr (.inr (h'.symm.trans hj)))
    ·exact .inl (by have:=h' j hj;omega)
 rintro e W4 ⟨he,hj4⟩
 obtain ⟨-,-,-,q4,-⟩:=hbx _ _ hj4
 rw [hJd] at hj4
 obtain ⟨pk,ck,hbox,hownk,hwh,hrl,hbut⟩:=hj4
 refine ⟨he,.inl ⟨hrl,?_⟩⟩
 obtain ⟨W5,hW5⟩:∃ W5,W4.putObj (M+1) (.loop (rec .exhausted none))=W5:=⟨_,rfl⟩
 rw [hW5]
 have x0:W5.cell? ⟨A0,0,none⟩=some (.slice pk (l.length+t.len) ck):=by
  have hbox5:W5.heap[A0]? = some (.cells #[.slice pk (l.length+t.len) ck] 187):=by
   rw [←hW5,World.putObj_heap_other (by omega)]
   exact hbox
  exact crw W5 _ 0 _ _ _ hbox5
 have hK5:W5.heap[M]? = some (.deferred (some [])):=by rw [←hW5,World.putObj_heap_other (by omega)];exact q4
 have HF:Hid (OwnD W4 w0.heap.size (.slice pk (l.length+t.len) ck) (l++jap t.len t.kid U V d t.len)∧((Value.slice pk (l.length+t.len) ck).ownBlock=(Value.slice pv l.length cv).ownBlock∨∀ g,(Value.slice pk (l.length+t.len) ck).ownBlock=some g→M+2≤g)∧But (fun j=>j=A0∨j=M+1∨(Value.slice pv l.length cv).ownBlock=some j) W3 W4∧W5.heap[M]? = some (.deferred (some []))∧W4.putObj (M+1) (.loop (rec .exhausted none))=W5∧Below W2.heap.size W2 W3∧M=W2.heap.size∧W3.heap.size=M+2∧A0+2≤N∧M=N+2∧Below A0 w W2):=⟨hownk,hwh,hbut,hK5,hW5,b3,hM,s3,z5,z4,z6⟩
 clear hrec hM hW3 b3 d3 l3 s3 z0 z1 z2 z3 z4 z5 z6 z7 z8 e0 e1 e2 e3 hJd hbx hbox hownk hwh hrl hbut S2 HXS HM he q4 hK5 hW5 J
 gi_wp2
 obtain ⟨f1,f2,f3,f4,f5,f6,f7,f8,f9,f10,f11⟩:=HF.out
 have fa:=HA0.out
 refine ⟨by simp,.inl ⟨_,_,rfl,run_takeDeferred f4,?_⟩⟩
 have hbf:But (fun j=>j=A0∨j=M+1∨j=M) W4 (W5.putObj M (.deferred none)):=by
  rw [←f5]
  exact ((But.refl _ W4).putObj (.inr (.inr (.inl rfl))) _).putObj (.inr (.inr (.inr rfl))) _
 have hg0:=HG0.out
 refine ⟨_,results_tmp rfl _ _ _,.slice pk (l.length+t.len) ck,U,V,rfl,?_,?_,?_,fun i hi=>(HAT.out i hi).2⟩
 ·have b2:But (fun k=>(Value.slice pv l.length cv).ownBlock=some k) w W2:=But.of_below f11 (fun k hk hA=>by omega)
  have b3:But (fun k=>(Value.slice pv l.length cv).ownBlock=some k) w W3:=b2.step (But.of_all (X:=fun _=>False) f6) (fun _ _ h=>h.elim)
  have b4:But (fun k=>(Value.slice pv l.length cv).ownBlock=some k) w W4:=b3.step f3 (fun j hj h=>by
   rcases h with h|h|h
   ·omega
   ·omega
   ·exact h)
  exact b4.step hbf (fun j hj h=>by omega)
 ·refine hbf.owns f1 (fun g hg h=>?_)
  rcases f2 with h2|h2
  ·rw [h2] at hg
   have:=hg0 g hg
   omega
  ·have:=h2 g hg
   omega
 ·rcases f2 with h2|h2
  ·exact .inl h2
  ·exact .inr (fun g hg=>by have:=h2 g hg;omega)
end Go.Proofs.YtjmlfacbcfbhdaaGreatDoor
namespace Go.Proofs.YtjmlfacbcfbhdaaGreatDoor
open Go.ChangeShapes Go.WideShapes Go.ChangeAt Go.RowKit
def jaB {α:Type} (f:Nat→List α):Nat→List α
 | 0=>[]
 | k+1=>jaB f k++f k
def jab:X→Int→List (ByteArray×Int)
 | .no,_=>[]
 | .mk op _ _ s _ len kid,d=>(if jbl op s=true then [(s,d)] else [])++jaB (fun i=>jab (kid i) (jal len kid d i)) len
theorem jfH (t:X) (d:Int):jab t d=(if jbl t.op t.s=true then [(t.s,d)] else [])++jaB (fun i=>jab (t.kid i) (jal t.len t.kid d i)) t.len:=by
 cases t <;> rfl
def jcR (L:List DR):List (ByteArray×Int):=L.reverse.flatMap (fun q=>jab q.t q.d)
theorem jc2 (L M:List DR):jcR (L++M)=jcR M++jcR L:=by simp [jcR]
theorem jfB (q:DR):jcR [q]=jab q.t q.d:=by simp [jcR]
theorem jg5 (len:Nat) (kid:Nat→X) (U V:Nat→Value) (d:Int) (k:Nat) (hk:k≤len):jaB (fun i=>jab (kid i) (jal len kid d i)) (len-k)++jcR (jap len kid U V d k)=jaB (fun i=>jab (kid i) (jal len kid d i)) len:=by
 induction k with
 | zero=>simp [jap,jcR]
 | succ k ih =>
  have h1:=ih (by omega)
  obtain ⟨j,hj⟩:∃ j,len-k=j+1:=⟨len-k-1,by omega⟩
  have e1:len-(k+1)=j:=by omega
  have e2:len-1-k=j:=by omega
  rw [hj] at h1
  rw [e1,jap,jc2,jfB,e2,←List.append_assoc]
  exact h1
theorem jkK (len:Nat) (kid:Nat→X) (U V:Nat→Value) (d:Int):jcR (jap len kid U V d len)=jaB (fun i=>jab (kid i) (jal len kid d i)) len:=by
 have:=jg5 len kid U V d len (nlr _)
 rw [Nat.sub_self] at this
 simpa [jaB] using this
theorem jkL (L:List DR) (q:DR) (U V:Nat→Value):jcR (L++[q])=(if jbl q.t.op q.t.s=true then [(q.t.s,q.d)] else [])++jcR (L++jap q.t.len q.t.kid U V q.d q.t.len):=by
 rw [jc2,jc2,jfB,jfH,jkK,List.append_assoc]
theorem X.count_pos (t:X):1≤t.count:=by cases t <;> simp [X.count]
def jbA (L:List DR):Nat:=(L.map fun q=>q.t.count).sum
theorem jcK (L M:List DR):jbA (L++M)=jbA L+jbA M:=by simp [jbA]
theorem jeC (q:DR):jbA [q]=q.t.count:=by simp [jbA]
theorem jgB (L:List DR):L.length≤jbA L:=by
 induction L with
 | nil=>simp [jbA]
 | cons q L ih =>
  have h:jbA (q::L)=q.t.count+jbA L:=by simp [jbA]
  rw [h,List.length_cons]
  have:=q.t.count_pos
  omega
theorem jgd (len:Nat) (kid:Nat→X) (U V:Nat→Value) (d:Int) (k:Nat) (hk:k≤len):sumX (fun i=>(kid i).count) (len-k)+jbA (jap len kid U V d k)=sumX (fun i=>(kid i).count) len:=by
 induction k with
 | zero=>simp [jap,jbA]
 | succ k ih =>
  have h1:=ih (by omega)
  obtain ⟨j,hj⟩:∃ j,len-k=j+1:=⟨len-k-1,by omega⟩
  have e1:len-(k+1)=j:=by omega
  have e2:len-1-k=j:=by omega
  rw [hj] at h1
  simp only [sumX] at h1
  rw [e1,jap,jcK,jeC,e2]
  simp only
  omega
theorem jjh (len:Nat) (kid:Nat→X) (U V:Nat→Value) (d:Int):jbA (jap len kid U V d len)=sumX (fun i=>(kid i).count) len:=by
 have:=jgd len kid U V d len (nlr _)
 rw [Nat.sub_self] at this
 simpa [sumX] using this
theorem jdK (L:List DR) (q:DR) (U V:Nat→Value):jbA (L++[q])=jbA (L++jap q.t.len q.t.kid U V q.d q.t.len)+1:=by
 rw [jcK,jcK,jeC,jjh,X.count_eq]
 omega
theorem jiG (len:Nat) (kid:Nat→X) (U V:Nat→Value) (d:Int) (k:Nat) (hk:k≤len):∀ q∈jap len kid U V d k,∃ i,i<len∧q=⟨kid i,U i,V i,jal len kid d i⟩:=by
 induction k with
 | zero=>intro q hq;simp [jap] at hq
 | succ k ih =>
  intro q hq
  rw [jap] at hq
  rcases lma.1 hq with h|h
  ·exact ih (by omega) q h
  ·simp only [List.mem_singleton] at h
   exact ⟨len-1-k,by omega,h⟩
def GoodD (w:World) (C:Int) (L:List DR):Prop:=∀ q∈L,q.t.At 0 w q.su q.u∧0≤q.d∧q.d+q.t.count≤C
theorem GoodD.turn {w:World} {C:Int} {L:List DR} {q:DR} {U V:Nat→Value} (h:GoodD w C (L++[q])) (hk:∀ i,i<q.t.len→(q.t.kid i).At 0 w (U i) (V i)):GoodD w C (L++jap q.t.len q.t.kid U V q.d q.t.len):=by
 intro x hx
 rcases lma.1 hx with hx|hx
 ·exact h x (List.mem_append_left _ hx)
 ·obtain ⟨i,hi,rfl⟩:=jiG _ _ _ _ _ _ (nlr _) x hx
  obtain ⟨-,h1,h2⟩:=h q (by simp)
  have h3:=jbo (fun i=>(q.t.kid i).count) i q.t.len hi
  have h4:=q.t.count_eq
  simp only at h3 ⊢
  refine ⟨hk i hi,?_,?_⟩
  ·unfold jal;split <;> omega
  ·unfold jal;split <;> omega
end Go.Proofs.YtjmlfacbcfbhdaaGreatDoor
