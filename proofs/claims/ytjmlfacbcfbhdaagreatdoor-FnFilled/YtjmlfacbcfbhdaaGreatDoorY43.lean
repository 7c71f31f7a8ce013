/- impl.Fill. Conditions: the template and what is put in are nice; the error is a variable of the program. -/
import Derived.Test.YtjmlfacbcfbhdaaGreatDoorYA
import Derived.Test.YtjmlfacbcfbhdaaGreatDoorY41
import Derived.Test.YtjmlfacbcfbhdaaGreatDoorY42
import Derived.Test.YtjmlfacbcfbhdaaGreatDoorY34
import Derived.Test.YtjmlfacbcfbhdaaGreatDoorRows
import Derived.Test.YtjmlfacbcfbhdaaGreatDoorY25
import Derived.Deep.RegionHeld3
import Derived.WalkKit
import Derived.ProofKit
import Derived.LaidEql
import Derived.Stop.Asserts
import Derived.RowKitTokens
import Derived.Below
set_option maxRecDepth 100000
set_option maxHeartbeats 8000000
namespace Go.Proofs.YtjmlfacbcfbhdaaGreatDoor
open Go.ChangeShapes Go.WideShapes Go.ChangeAt Go.RowKit
theorem jfp (vs:Array Value) (w:World):(callFunc 36 vs).run Tryz.prog w=.ok (.enter 36 vs) w:=by kernel_rfl
def ansF (t:X) (L:List G):Option X:=if jax t=true then (jaX t L).bind fun r=>r.1.head?.bind fun x=>if jax x=true then some x else none else none
def je8 (a:Addr) (o:Option X) (w':World) (e:Ending):Prop:=(∃ x su u,o=some x∧x.At 0 w' su u∧x.Nice∧jax x=true∧e=.returned (.tuple #[aggX x su u,.nilIface])) ∨
 (o=none∧∃ (y:X) (p q:Option Addr) (n1 n2 n3 n4:Nat),e=.returned (.tuple #[aggX y (.slice p n1 n2) (.slice q n3 n4),errV a]))
theorem jb2 {x:X} (h:jax x=true):x.count≤1500:=by
 rw [jdp,jjD] at h
 split at h
 ·rw [jmp] at h
  split at h
  ·rename_i hc
   have h1:=hc.2
   simp only [jao] at h1
   rw [jgj] at h1
   omega
  ·cases h
 ·cases h
theorem joW {t:X} {L:List G} (h:∀ r,jaX t L=some r→4000<0+r.2.1):ansF t L=none:=by
 unfold ansF
 split
 ·cases hf:jaX t L with
  | none=>rfl
  | some r =>
   have h1:=h r hf
   have h2:jaI t L=some r:=by
    unfold jaX at hf
    split at hf
    ·cases hf
    ·exact hf
   obtain ⟨⟨h3,_⟩,h4⟩:=jiu t L r h2
   show (r.1.head?.bind fun x=>if jax x=true then some x else none)=none
   match hr:r.1,h4 with
   | [x],_ =>
    show (if jax x=true then some x else none)=none
    rw [if_neg]
    intro hx
    have h5:=jb2 hx
    have h6:jaR r.1=x.count:=by rw [hr];simp [jaR]
    omega
 ·rfl
theorem jjp {t x:X} {L:List G} {r:FX} (hs:jax t=true) (hf:jaX t L=some r) (h1:r.1=[x]):ansF t L=if jax x=true then some x else none:=by
 unfold ansF
 rw [if_pos hs,hf]
 show (r.1.head?.bind fun x=>if jax x=true then some x else none)=_
 rw [h1];rfl
theorem joJ {t:X} {L:List G} (hs:jax t=false):ansF t L=none:=by
 unfold ansF
 rw [if_neg (by rw [hs];simp)]
theorem jiz {a:Addr} (t:X) (L:List G) (W:World) (su u lv:Value) (ht:t.At 0 W su u) (hg:GsAt W L.length (fun i=>L.getD i .no) lv) (hn:t.Nice) (hct:t.count≤2097152) (hL:NiceL L) (he:ErrAt W a) :
  Calls Tryz.prog 17 #[aggX t su u,lv] W fun e w'=>je8 a (ansF t L) w' e∧Below W.heap.size W w':=by
 obtain ⟨pu,cu,e1⟩:=ht.xs.shape
 obtain ⟨ps,cs,e2⟩:=ht.sets.shape
 obtain ⟨pl,cl,e3⟩:=hg.shape
 subst e1 e2 e3
 obtain ⟨A,hA⟩:∃ A,A=W.heap.size:=⟨_,rfl⟩
 obtain ⟨W1,hW1⟩:∃ W1,W1=(W.alloc (.cells #[.int .i64 t.op,.int .i64 t.at_,.int .i64 t.n,.string t.s,.slice ps t.set.length cs,.slice pu t.len cu] 27)).alloc (.cells #[.int .i64 0,.int .i64 0,.int .i64 0,.string ⟨#[]⟩,.slice none 0 0,.slice none 0 0] 27):=⟨_,rfl⟩
 have nb:Below W.heap.size W W1:=by rw [hW1];exact (newx W _).trans ((newx _ _).mono (by simp))
 have hs1:W1.heap.size=A+2:=by rw [hW1,hA];simp
 have hbx:SixO W1 A t (.slice ps t.set.length cs) (.slice pu t.len cu):=by rw [hW1,hA];exact (bha _ _ _ (by simp)).trans (han W _)
 have hrs:W1.heap[A+1]? = some (.cells #[.int .i64 0,.int .i64 0,.int .i64 0,.string ⟨#[]⟩,.slice none 0 0,.slice none 0 0] 27 (0,0)):=by
  have:=han (W.alloc (.cells #[.int .i64 t.op,.int .i64 t.at_,.int .i64 t.n,.string t.s,.slice ps t.set.length cs,.slice pu t.len cu] 27)) (.cells #[.int .i64 0,.int .i64 0,.int .i64 0,.string ⟨#[]⟩,.slice none 0 0,.slice none 0 0] 27)
  rw [World.size_alloc] at this
  rw [hW1,hA];exact this
 have H1:Hid (Below W.heap.size W W1∧SixO W1 A t (.slice ps t.set.length cs) (.slice pu t.len cu)∧W1.heap[A+1]? = some (.cells #[.int .i64 0,.int .i64 0,.int .i64 0,.string ⟨#[]⟩,.slice none 0 0,.slice none 0 0] 27 (0,0))∧W1.heap.size=A+2∧A=W.heap.size):=⟨nb,hbx,hrs,hs1,hA⟩
 have HWW:Hid (W1=(W.alloc (.cells #[.int .i64 t.op,.int .i64 t.at_,.int .i64 t.n,.string t.s,.slice ps t.set.length cs,.slice pu t.len cu] 27)).alloc (.cells #[.int .i64 0,.int .i64 0,.int .i64 0,.string ⟨#[]⟩,.slice none 0 0,.slice none 0 0] 27)∧A=W.heap.size):=⟨hW1,hA⟩
 have HX:=jad (And.intro ht (And.intro hg (And.intro hn (And.intro hct (And.intro hL he)))))
 obtain ⟨q0,q1,q2,q3,q4,q5⟩:=hbx.cells
 have HOK:Hid (Calls Tryz.prog 9 #[.agg #[.int .i64 t.op,.int .i64 t.at_,.int .i64 t.n,.string t.s,.slice ps t.set.length cs,.slice pu t.len cu]] W1 fun e w'=>e=.returned (.bool (jax t))∧Below W1.heap.size W1 w'):=jcZ t W1 _ _ (X.At.below nb ht) hn
 clear ht hg hn hct hL he hA hW1 nb hs1 hbx hrs
 go_enter Tryz.func17,Tryz.ntmps17
 go_upto_region 1 with fail
 rw [←HWW.out.1,←HWW.out.2]
 go_wp2_with fail
 refine HOK.out.mono ?_
 rintro e w2 ⟨rfl,hb2⟩
 have HB2:Hid (Below W1.heap.size W1 w2∧Below W.heap.size W w2):=⟨hb2,H1.out.1.trans (hb2.mono H1.out.1.size)⟩
 clear hb2 q0 q1 q2 q3 q4 q5
 have HER:Hid (∀ wx,Below W.heap.size W wx→wx.cell? ⟨0,0,none⟩=some (.iface 194 (.pointer (some a)))):=fun wx h=>HX.out.2.2.2.2.2.below h
 cases hsb:jax t with
 | false =>
  have HAN:Hid (ansF t L=none):=joJ hsb
  have z:=(HB2.out.1.block _ (aes.1 H1.out.2.2.1).1).trans H1.out.2.2.1
  have HGA:Hid (W.heap.size≤A+1):=by have:=H1.out.2.2.2.2;show _≤_;omega
  have HZ:=jad z
  clear z hsb
  go_upto_region 2 with fail
  have HGE:Hid (∀ wq,But (fun j=>j=A+1) w2 wq→wq.cell? ⟨0,0,none⟩=some (.iface 194 (.pointer (some a)))):=fun wq hq=>HER.out wq (HB2.out.2.trans (hq.below HB2.out.2.size (fun j hj=>by have:=HGA.out;omega)))
  have z:w2.heap[A+1]? = _:=HZ.out
  have z0:=crw w2 _ 0 _ _ _ z
  have z1:=crw w2 _ 1 _ _ _ z
  have z2:=crw w2 _ 2 _ _ _ z
  have z3:=crw w2 _ 3 _ _ _ z
  have z4:=crw w2 _ 4 _ _ _ z
  have z5:=crw w2 _ 5 _ _ _ z
  have zf:∀ j,(w2).frozen? ⟨A+1,j,none⟩=false:=fun j=>fzr (w2) _ j _ _ z
  have HS0:But (fun j=>j=A+1) w2 w2.drew:=(But.refl _ _).drew
  refine wp_region_held_drew (S:=fun wq=>But (fun j=>j=A+1) w2 wq) (by kernel_rfl) HS0 (fun _=>?_)
  refine wpAnyH_take (i:=0) (oi:={dst:=some 12,op:=Op.build 27 #[],type:=27,pos := "l08_fill.go:134",after:=#[],guard:=none}) (v:=.agg #[.int .i64 0,.int .i64 0,.int .i64 0,.string ⟨#[]⟩,.slice none 0 0,.slice none 0 0]) rfl (by kernel_rfl) (by kernel_rfl) (by kernel_rfl) (fun _ _ _ h=>h) (Or.inl ⟨by rfl,?_⟩) HS0 ?_
  ·intro wq hSq
   clear hSq
   go_simp
  try simp only [pLq]
  refine wpAnyH_take (i:=1) (oi:={dst:=some 13,op:=Op.load 44 (Operand.global 0),type:=44,pos := "l08_fill.go:134",after:=#[{on:=2,ground:=Ground.gcOnly Departure.lateStores}],guard:=none}) (v:=.iface 194 (.pointer (some a))) rfl (by kernel_rfl) (by kernel_rfl) (by kernel_rfl) (fun _ _ _ h=>h) (Or.inl ⟨by rfl,?_⟩) HS0 ?_
  ·intro wq hSq
   have ge:=HGE.out wq hSq
   clear hSq
   go_simp
  try simp only [pLq]
  refine wpAnyH_ready (rs:=[2]) (by kernel_rfl) (by simp) ?_
  refine (AllReadyH.cons (o:={dst:=none,op:=Op.store 27 (Operand.tmp 4) (Operand.tmp 12),type:=0,pos := "l08_fill.go:134",after:=#[{on:=0,ground:=Ground.data},{on:=0,ground:=Ground.phase},{on:=1,ground:=Ground.textOnly Departure.lateStores}],guard:=none}) rfl (fun KK hK=>?_) AllReadyH.nil)
  go_simp
  have HS3:=(((((((But.refl (fun j=>j=A+1) w2).setCell (p:=⟨A+1,0,none⟩) (.inr rfl) (.int .i64 0)).setCell (p:=⟨A+1,1,none⟩) (.inr rfl) (.int .i64 0)).setCell (p:=⟨A+1,2,none⟩) (.inr rfl) (.int .i64 0)).setCell (p:=⟨A+1,3,none⟩) (.inr rfl) (.string ⟨#[]⟩)).setCell (p:=⟨A+1,4,none⟩) (.inr rfl) (.slice none 0 0)).setCell (p:=⟨A+1,5,none⟩) (.inr rfl) (.slice none 0 0)).drew
  refine hK.out _ _ HS3 (fun _=>?_)
  clear hK KK
  try simp only [pLq]
  refine wpAnyH_take (i:=3) (oi:={dst:=some 5,op:=Op.assign (Operand.tmp 13),type:=44,pos := "l08_fill.go:134",after:=#[{on:=1,ground:=Ground.data},{on:=2,ground:=Ground.chain},{on:=0,ground:=Ground.phase},{on:=1,ground:=Ground.phase},{on:=2,ground:=Ground.phase}],guard:=none}) (v:=.iface 194 (.pointer (some a))) rfl (by kernel_rfl) (by kernel_rfl) (by kernel_rfl) (fun _ _ _ h=>h) (Or.inl ⟨by rfl,?_⟩) HS3 ?_
  ·intro wq hSq
   clear hSq
   go_simp
  try simp only [pLq]
  refine wpAnyH_done (by kernel_rfl) ?_ _
  go_wp2_with fail
  refine bpr (v:=.tuple #[noXV,errV a]) (by rw [jac (p:=4) (q:=5) (ty:=27) (by kernel_rfl)];simp [go_sem,noXV,errV,z0,z1,z2,z3,z4,z5]) rfl ?_
  exact ⟨.inr ⟨HAN.out,.mk 0 0 0 ⟨#[]⟩ [] 0 (fun _=>.no),none,none,0,0,0,0,rfl⟩,HB2.out.2.trans (HS3.below HB2.out.2.size (fun j hj=>by have:=HGA.out;omega))⟩
 | true =>
  have HSB:=jad hsb
  clear hsb
  have hpl:PlainX t:=jdJ HSB.out
  obtain ⟨K,hK⟩:∃ K,K=w2.heap.size:=⟨_,rfl⟩
  obtain ⟨B,hB⟩:∃ B,B=w2.heap.size+1:=⟨_,rfl⟩
  have HNF:Hid (Calls Tryz.prog 35 #[] w2 fun e w'=>e=.returned (.func (.func 63) #[] #[.pointer (some ⟨K,0,none⟩),.pointer (some ⟨B,0,none⟩)])∧CountAt K w' 0∧w'.heap[B]? = some (.cells #[jcX K B] 75 (0,0))∧Below w2.heap.size w2 w'):=by rw [hB,hK];exact jkV w2
  have HKB:Hid (K≠B∧A+2≤K∧A+2≤B):=⟨by omega,by have:=HB2.out.1.size;have:=H1.out.2.2.2.1;omega,by have:=HB2.out.1.size;have:=H1.out.2.2.2.1;omega⟩
  clear hK hB
  go_wp2_with fail
  refine HNF.out.mono ?_
  rintro e w3 ⟨rfl,hcnt,hself,hb3⟩
  have HB3:Hid (Below w2.heap.size w2 w3∧Below W.heap.size W w3):=⟨hb3,HB2.out.2.trans (hb3.mono HB2.out.2.size)⟩
  have HFA:Hid (FillerAt K B W w3 a 0):=⟨hcnt,hself,HX.out.2.2.2.2.2,HB3.out.2,nzl _,HKB.out.1,by have:=HKB.out.2.1;have:=H1.out.2.2.2.2;omega,by have:=HKB.out.2.2;have:=H1.out.2.2.2.2;omega⟩
  have HSZ:Hid (K<w3.heap.size∧W.heap.size≤w3.heap.size∧CountAt K w3 0):=⟨(aes.1 hcnt).1,HB3.out.2.size,hcnt⟩
  clear hb3 hcnt hself
  have HXB:Hid (∀ wq,But (fun j=>j=K) w3 wq→SixO wq A t (.slice ps t.set.length cs) (.slice pu t.len cu)):=fun wq hq=>by
   have h1:SixO w2 A t (.slice ps t.set.length cs) (.slice pu t.len cu):=(HB2.out.1.block _ (aes.1 H1.out.2.1).1).trans H1.out.2.1
   have h2:SixO w3 A t (.slice ps t.set.length cs) (.slice pu t.len cu):=(HB3.out.1.block _ (aes.1 h1).1).trans h1
   exact hq.at h2 (fun e=>by have:=HKB.out.2.1;omega)
  have HTU:Hid (∀ wq,But (fun j=>j=K) w3 wq→Calls Tryz.prog 36 #[.slice pl L.length cl] wq fun e w'=>∃ P4 B4,e=.returned (.func (.func 68) #[] #[.pointer (some ⟨P4,0,none⟩),.pointer (some ⟨B4,0,none⟩)])∧Below wq.heap.size wq w'∧Finds K W w' (.func (.func 68) #[] #[.pointer (some ⟨P4,0,none⟩),.pointer (some ⟨B4,0,none⟩)]) L):=fun wq hq=>by
   have hWq:Below W.heap.size W wq:=HB3.out.2.trans (hq.below HB3.out.2.size (fun j hj=>by have:=HFA.out.ne.2.1;omega))
   refine (jgW L wq _ (HX.out.2.1.below hWq)).mono ?_
   rintro e w' ⟨P4,B4,M4,rfl,h1,h2,h3,h4,h5⟩
   have hKq:K<wq.heap.size:=nll HSZ.out.1 hq.size
   exact ⟨P4,B4,rfl,h5,jiw (M:=M4) ⟨h1.boxP,h1.boxB,h1.map,HX.out.2.1,hWq.trans (h5.mono hWq.size)⟩ ⟨by omega,by omega,by omega,HFA.out.ne.2.1⟩⟩
  have HFU:Hid (FullL L):=HX.out.2.1.fullL
  have HFI:Hid (∀ wq g,But (fun j=>j=K) w3 wq→CountAt K wq 0→Finds K W wq g L→Calls Tryz.prog 63 #[.agg #[.int .i64 t.op,.int .i64 t.at_,.int .i64 t.n,.string t.s,.slice ps t.set.length cs,.slice pu t.len cu],g,.pointer (some ⟨K,0,none⟩),.pointer (some ⟨B,0,none⟩)] wq fun e w'=>jeI W.heap.size K a (jaX t L) 0 wq w' e):=fun wq g hq hct hg =>
   jpT t hpl HX.out.2.2.2.1 _ g wq _ _ _ (HFA.out.but hq hct (nzl _)) hg HFU.out HX.out.1
  go_upto_region 4 with fail
  go_cut [7,8] from 15 to 22 (fun z ev wx=>jgJ W.heap.size K a (jaX t L) 0 w3 z ev wx)
  case first =>
   have HS0:But (fun j=>j=K) w3 w3.drew:=(But.refl _ _).drew
   refine wp_region_held_drew (S:=fun wq=>But (fun j=>j=K) w3 wq) (by kernel_rfl) HS0 (fun _=>?_)
   refine wpAnyH_take (i:=0) (oi:={dst:=some 16,op:=Op.move (Operand.tmp 6),type:=75,pos := "l08_fill.go:137",after:=#[],guard:=none}) (v:=.func (.func 63) #[] #[.pointer (some ⟨K,0,none⟩),.pointer (some ⟨B,0,none⟩)]) rfl (by kernel_rfl) (by kernel_rfl) (by kernel_rfl) (fun _ _ _ h=>h) (Or.inl ⟨by rfl,?_⟩) HS0 ?_
   ·intro wq hSq
    clear hSq
    go_simp
   try simp only [pLq]
   refine wpAnyH_take (i:=1) (oi:={dst:=some 17,op:=Op.load 27 (Operand.tmp 2),type:=27,pos := "l08_fill.go:137",after:=#[],guard:=none}) (v:=.agg #[.int .i64 t.op,.int .i64 t.at_,.int .i64 t.n,.string t.s,.slice ps t.set.length cs,.slice pu t.len cu]) rfl (by kernel_rfl) (by kernel_rfl) (by kernel_rfl) (fun _ _ _ h=>h) (Or.inl ⟨by rfl,?_⟩) HS0 ?_
   ·intro wq hSq
    obtain ⟨f0,f1,f2,f3,f4,f5⟩:=(HXB.out wq hSq).cells
    clear hSq
    go_simp
   try simp only [pLq]
   refine wpAnyH_take (i:=2) (oi:={dst:=some 18,op:=Op.move (Operand.tmp 1),type:=28,pos := "l08_fill.go:137",after:=#[],guard:=none}) (v:=.slice pl L.length cl) rfl (by kernel_rfl) (by kernel_rfl) (by kernel_rfl) (fun _ _ _ h=>h) (Or.inl ⟨by rfl,?_⟩) HS0 ?_
   ·intro wq hSq
    clear hSq
    go_simp
   try simp only [pLq]
   refine wpAnyH_ready (rs:=[3,8]) (by kernel_rfl) (by simp) ?_
   refine (AllReadyH.cons (o:={dst:=some 19,op:=Op.call {callee:=Callee.value (Operand.func 36),args:=#[Operand.tmp 18],argTypes:=#[28]},type:=78,pos := "l08_fill.go:137",after:=#[{on:=2,ground:=Ground.data}],guard:=none}) rfl (fun KK hK=>?_) (AllReadyH.cons (o:={dst:=some 7,op:=Op.alloc 27,type:=0,pos := "l08_fill.go:137",after:=#[],guard:=none}) rfl (fun KK hK=>?_) AllReadyH.nil))
   ·refine jcx rfl 36 (.tmp 18) 28 rfl jfp (.slice pl L.length cl) rfl _ (HTU.out _ (HS0)) ?_
    rintro e w4 ⟨P4,B4,rfl,hb4,hg4⟩
    refine ⟨_,rfl,?_⟩
    have HS1:But (fun j=>j=K) w3 w4:=(HS0).trans (But.of_all hb4)
    have HG4:=jad hg4
    have HC4:Hid (CountAt K w4 0):=CountAt.below (show CountAt K w3.drew _ from HSZ.out.2.2) hb4
    clear hg4
    refine hK.out _ _ HS1 (fun _=>?_)
    clear hK KK
    try simp only [pLq]
    refine wpAnyH_ready (rs:=[4,8]) (by kernel_rfl) (by simp) ?_
    refine (AllReadyH.cons (o:={dst:=some 20,op:=Op.call {callee:=Callee.value (Operand.tmp 16),args:=#[Operand.tmp 17,Operand.tmp 19],argTypes:=#[27,78]},type:=45,pos := "l08_fill.go:137",after:=#[{on:=0,ground:=Ground.data},{on:=1,ground:=Ground.data},{on:=3,ground:=Ground.data},{on:=3,ground:=Ground.chain}],guard:=none}) rfl (fun KK hK=>?_) (AllReadyH.cons (o:={dst:=some 7,op:=Op.alloc 27,type:=0,pos := "l08_fill.go:137",after:=#[],guard:=none}) rfl (fun KK hK=>?_) AllReadyH.nil))
    ·refine jbJ rfl 63 (.tmp 16) (.tmp 17) (.tmp 19) 27 78 (.pointer (some ⟨K,0,none⟩)) (.pointer (some ⟨B,0,none⟩)) rfl rfl jbp (.agg #[.int .i64 t.op,.int .i64 t.at_,.int .i64 t.n,.string t.s,.slice ps t.set.length cs,.slice pu t.len cu]) (_) rfl rfl _ (HFI.out _ _ HS1 HC4.out HG4.out) ?_
     rintro e w5 hpart
     obtain ⟨x,p3,q3,n1,n2,n3,n4,ev,rfl,hb5,hcase⟩:=jbI hpart
     refine ⟨_,rfl,?_⟩
     have HS2:But (fun j=>j=K) w3 w5:=HS1.trans hb5
     have HC5:=jad hcase
     have HB5:=jad hb5
     clear hcase hb5 hpart
     refine hK.out _ _ HS2 (fun _=>?_)
     clear hK KK
     try simp only [pLq]
     refine wpAnyH_take (i:=5) (oi:={dst:=some 15,op:=Op.move (Operand.tmp 20),type:=45,pos := "l08_fill.go:137",after:=#[{on:=4,ground:=Ground.data}],guard:=none}) (v:=.tuple #[.agg #[.int .i64 x.op,.int .i64 x.at_,.int .i64 x.n,.string x.s,.slice p3 n1 n2,.slice q3 n3 n4],ev]) rfl (by kernel_rfl) (by kernel_rfl) (by kernel_rfl) (fun _ _ _ h=>h) (Or.inl ⟨by rfl,?_⟩) HS2 ?_
     ·intro wq hSq
      clear hSq
      go_simp
     try simp only [pLq]
     refine wpAnyH_take (i:=6) (oi:={dst:=some 21,op:=Op.extract (Operand.tmp 15) 0,type:=27,pos := "l08_fill.go:137",after:=#[{on:=5,ground:=Ground.data}],guard:=none}) (v:=.agg #[.int .i64 x.op,.int .i64 x.at_,.int .i64 x.n,.string x.s,.slice p3 n1 n2,.slice q3 n3 n4]) rfl (by kernel_rfl) (by kernel_rfl) (by kernel_rfl) (fun _ _ _ h=>h) (Or.inl ⟨by rfl,?_⟩) HS2 ?_
     ·intro wq hSq
      clear hSq
      go_simp
     try simp only [pLq]
     refine wpAnyH_take (i:=7) (oi:={dst:=some 22,op:=Op.extract (Operand.tmp 15) 1,type:=44,pos := "l08_fill.go:137",after:=#[{on:=5,ground:=Ground.data},{on:=9,ground:=Ground.gcOnly Departure.lateStores}],guard:=none}) (v:=ev) rfl (by kernel_rfl) (by kernel_rfl) (by kernel_rfl) (fun _ _ _ h=>h) (Or.inl ⟨by rfl,?_⟩) HS2 ?_
     ·intro wq hSq
      clear hSq
      go_simp
     try simp only [pLq]
     refine wpAnyH_ready (rs:=[8]) (by kernel_rfl) (by simp) ?_
     refine (AllReadyH.cons (o:={dst:=some 7,op:=Op.alloc 27,type:=0,pos := "l08_fill.go:137",after:=#[],guard:=none}) rfl (fun KK hK=>?_) AllReadyH.nil)
     go_simp
     refine hK.out _ _ (HS2.alloc _) (fun _=>?_)
     clear hK KK
     try simp only [pLq]
     have hz:(w5.alloc (.cells #[.int .i64 0,.int .i64 0,.int .i64 0,.string ⟨#[]⟩,.slice none 0 0,.slice none 0 0] 27)).heap[w5.heap.size]? = some (.cells #[.int .i64 0,.int .i64 0,.int .i64 0,.string ⟨#[]⟩,.slice none 0 0,.slice none 0 0] 27):=han w5 _
     have y0:=crw (w5.alloc (.cells #[.int .i64 0,.int .i64 0,.int .i64 0,.string ⟨#[]⟩,.slice none 0 0,.slice none 0 0] 27)) _ 0 _ _ _ hz
     have y1:=crw (w5.alloc (.cells #[.int .i64 0,.int .i64 0,.int .i64 0,.string ⟨#[]⟩,.slice none 0 0,.slice none 0 0] 27)) _ 1 _ _ _ hz
     have y2:=crw (w5.alloc (.cells #[.int .i64 0,.int .i64 0,.int .i64 0,.string ⟨#[]⟩,.slice none 0 0,.slice none 0 0] 27)) _ 2 _ _ _ hz
     have y3:=crw (w5.alloc (.cells #[.int .i64 0,.int .i64 0,.int .i64 0,.string ⟨#[]⟩,.slice none 0 0,.slice none 0 0] 27)) _ 3 _ _ _ hz
     have y4:=crw (w5.alloc (.cells #[.int .i64 0,.int .i64 0,.int .i64 0,.string ⟨#[]⟩,.slice none 0 0,.slice none 0 0] 27)) _ 4 _ _ _ hz
     have y5:=crw (w5.alloc (.cells #[.int .i64 0,.int .i64 0,.int .i64 0,.string ⟨#[]⟩,.slice none 0 0,.slice none 0 0] 27)) _ 5 _ _ _ hz
     have yf:∀ j,(w5.alloc (.cells #[.int .i64 0,.int .i64 0,.int .i64 0,.string ⟨#[]⟩,.slice none 0 0,.slice none 0 0] 27)).frozen? ⟨w5.heap.size,j,none⟩=false:=fun j=>fzr (w5.alloc (.cells #[.int .i64 0,.int .i64 0,.int .i64 0,.string ⟨#[]⟩,.slice none 0 0,.slice none 0 0] 27)) _ j _ _ hz
     refine wpAnyH_ready (rs:=[9]) (by kernel_rfl) (by simp) ?_
     refine (AllReadyH.cons (o:={dst:=none,op:=Op.store 27 (Operand.tmp 7) (Operand.tmp 21),type:=0,pos := "l08_fill.go:137",after:=#[{on:=8,ground:=Ground.data},{on:=6,ground:=Ground.data},{on:=4,ground:=Ground.chain},{on:=0,ground:=Ground.phase},{on:=1,ground:=Ground.phase},{on:=2,ground:=Ground.phase},{on:=3,ground:=Ground.phase},{on:=4,ground:=Ground.phase},{on:=5,ground:=Ground.phase},{on:=6,ground:=Ground.phase},{on:=7,ground:=Ground.textOnly Departure.lateStores},{on:=8,ground:=Ground.phase}],guard:=none}) rfl (fun KK hK=>?_) AllReadyH.nil)
     go_simp
     refine hK.out _ _ (HS2.alloc _) (fun _=>?_)
     clear hK KK
     try simp only [pLq]
     refine wpAnyH_take (i:=10) (oi:={dst:=some 8,op:=Op.assign (Operand.tmp 22),type:=44,pos := "l08_fill.go:137",after:=#[{on:=7,ground:=Ground.data},{on:=9,ground:=Ground.chain},{on:=0,ground:=Ground.phase},{on:=1,ground:=Ground.phase},{on:=2,ground:=Ground.phase},{on:=3,ground:=Ground.phase},{on:=4,ground:=Ground.phase},{on:=5,ground:=Ground.phase},{on:=6,ground:=Ground.phase},{on:=7,ground:=Ground.phase},{on:=8,ground:=Ground.phase},{on:=9,ground:=Ground.phase}],guard:=none}) (v:=ev) rfl (by kernel_rfl) (by kernel_rfl) (by kernel_rfl) (fun _ _ _ h=>h) (Or.inl ⟨by rfl,?_⟩) (HS2.alloc _) ?_
     ·intro wq hSq
      clear hSq
      go_simp
     try simp only [pLq]
     refine wpAnyH_done (by kernel_rfl) ?_ _
     go_wp2_with fail
     go_meet
     exact jhQ HS1 HB5.out HC5.out
    ·go_simp
     refine hK.out _ _ (HS1.alloc _) (fun _=>?_)
     clear hK KK
     try simp only [pLq]
     refine wpAnyH_ready (rs:=[4]) (by kernel_rfl) (by simp) ?_
     refine (AllReadyH.cons (o:={dst:=some 20,op:=Op.call {callee:=Callee.value (Operand.tmp 16),args:=#[Operand.tmp 17,Operand.tmp 19],argTypes:=#[27,78]},type:=45,pos := "l08_fill.go:137",after:=#[{on:=0,ground:=Ground.data},{on:=1,ground:=Ground.data},{on:=3,ground:=Ground.data},{on:=3,ground:=Ground.chain}],guard:=none}) rfl (fun KK hK=>?_) AllReadyH.nil)
     refine jbJ rfl 63 (.tmp 16) (.tmp 17) (.tmp 19) 27 78 (.pointer (some ⟨K,0,none⟩)) (.pointer (some ⟨B,0,none⟩)) rfl rfl jbp (.agg #[.int .i64 t.op,.int .i64 t.at_,.int .i64 t.n,.string t.s,.slice ps t.set.length cs,.slice pu t.len cu]) (_) rfl rfl _ (HFI.out _ _ (HS1.alloc _) (HC4.out.below (newx w4 _)) (HG4.out.but (But.of_all (newx w4 _)))) ?_
     rintro e w5 hpart
     obtain ⟨x,p3,q3,n1,n2,n3,n4,ev,rfl,hb5,hcase⟩:=jbI hpart
     refine ⟨_,rfl,?_⟩
     have HS2:But (fun j=>j=K) w3 w5:=(HS1.alloc _).trans hb5
     have HC5:=jad hcase
     have HB5:=jad hb5
     clear hcase hb5 hpart
     refine hK.out _ _ HS2 (fun _=>?_)
     clear hK KK
     try simp only [pLq]
     refine wpAnyH_take (i:=5) (oi:={dst:=some 15,op:=Op.move (Operand.tmp 20),type:=45,pos := "l08_fill.go:137",after:=#[{on:=4,ground:=Ground.data}],guard:=none}) (v:=.tuple #[.agg #[.int .i64 x.op,.int .i64 x.at_,.int .i64 x.n,.string x.s,.slice p3 n1 n2,.slice q3 n3 n4],ev]) rfl (by kernel_rfl) (by kernel_rfl) (by kernel_rfl) (fun _ _ _ h=>h) (Or.inl ⟨by rfl,?_⟩) HS2 ?_
     ·intro wq hSq
      clear hSq
      go_simp
     try simp only [pLq]
     refine wpAnyH_take (i:=6) (oi:={dst:=some 21,op:=Op.extract (Operand.tmp 15) 0,type:=27,pos := "l08_fill.go:137",after:=#[{on:=5,ground:=Ground.data}],guard:=none}) (v:=.agg #[.int .i64 x.op,.int .i64 x.at_,.int .i64 x.n,.string x.s,.slice p3 n1 n2,.slice q3 n3 n4]) rfl (by kernel_rfl) (by kernel_rfl) (by kernel_rfl) (fun _ _ _ h=>h) (Or.inl ⟨by rfl,?_⟩) HS2 ?_
     ·intro wq hSq
      clear hSq
      go_simp
     try simp only [pLq]
     refine wpAnyH_take (i:=7) (oi:={dst:=some 22,op:=Op.extract (Operand.tmp 15) 1,type:=44,pos := "l08_fill.go:137",after:=#[{on:=5,ground:=Ground.data},{on:=9,ground:=Ground.gcOnly Departure.lateStores}],guard:=none}) (v:=ev) rfl (by kernel_rfl) (by kernel_rfl) (by kernel_rfl) (fun _ _ _ h=>h) (Or.inl ⟨by rfl,?_⟩) HS2 ?_
     ·intro wq hSq
      clear hSq
      go_simp
     try simp only [pLq]
     have hz:(w5).heap[w4.heap.size]? = some (.cells #[.int .i64 0,.int .i64 0,.int .i64 0,.string ⟨#[]⟩,.slice none 0 0,.slice none 0 0] 27):=HB5.out.at (han w4 _) (fun e=>by have e2:w4.heap.size=K:=e;have h1:=HS1.size;have h2:=HSZ.out.1;omega)
     have y0:=crw (w5) _ 0 _ _ _ hz
     have y1:=crw (w5) _ 1 _ _ _ hz
     have y2:=crw (w5) _ 2 _ _ _ hz
     have y3:=crw (w5) _ 3 _ _ _ hz
     have y4:=crw (w5) _ 4 _ _ _ hz
     have y5:=crw (w5) _ 5 _ _ _ hz
     have yf:∀ j,(w5).frozen? ⟨w4.heap.size,j,none⟩=false:=fun j=>fzr (w5) _ j _ _ hz
     refine wpAnyH_ready (rs:=[9]) (by kernel_rfl) (by simp) ?_
     refine (AllReadyH.cons (o:={dst:=none,op:=Op.store 27 (Operand.tmp 7) (Operand.tmp 21),type:=0,pos := "l08_fill.go:137",after:=#[{on:=8,ground:=Ground.data},{on:=6,ground:=Ground.data},{on:=4,ground:=Ground.chain},{on:=0,ground:=Ground.phase},{on:=1,ground:=Ground.phase},{on:=2,ground:=Ground.phase},{on:=3,ground:=Ground.phase},{on:=4,ground:=Ground.phase},{on:=5,ground:=Ground.phase},{on:=6,ground:=Ground.phase},{on:=7,ground:=Ground.textOnly Departure.lateStores},{on:=8,ground:=Ground.phase}],guard:=none}) rfl (fun KK hK=>?_) AllReadyH.nil)
     go_simp
     have HS3:=But.sixO (G:=w4.heap.size) HS2 HS1.size (.int .i64 x.op) (.int .i64 x.at_) (.int .i64 x.n) (.string x.s) (.slice p3 n1 n2) (.slice q3 n3 n4)
     refine hK.out _ _ HS3 (fun _=>?_)
     clear hK KK
     try simp only [pLq]
     refine wpAnyH_take (i:=10) (oi:={dst:=some 8,op:=Op.assign (Operand.tmp 22),type:=44,pos := "l08_fill.go:137",after:=#[{on:=7,ground:=Ground.data},{on:=9,ground:=Ground.chain},{on:=0,ground:=Ground.phase},{on:=1,ground:=Ground.phase},{on:=2,ground:=Ground.phase},{on:=3,ground:=Ground.phase},{on:=4,ground:=Ground.phase},{on:=5,ground:=Ground.phase},{on:=6,ground:=Ground.phase},{on:=7,ground:=Ground.phase},{on:=8,ground:=Ground.phase},{on:=9,ground:=Ground.phase}],guard:=none}) (v:=ev) rfl (by kernel_rfl) (by kernel_rfl) (by kernel_rfl) (fun _ _ _ h=>h) (Or.inl ⟨by rfl,?_⟩) HS3 ?_
     ·intro wq hSq
      clear hSq
      go_simp
     try simp only [pLq]
     refine wpAnyH_done (by kernel_rfl) ?_ _
     go_wp2_with fail
     go_meet
     exact je0 (HS1.alloc _) HB5.out HSZ.out.2.1 HSZ.out.1 HS1.size (by simp) hz HC5.out
   ·go_simp
    refine hK.out _ _ (HS0.alloc _) (fun _=>?_)
    clear hK KK
    try simp only [pLq]
    refine wpAnyH_ready (rs:=[3]) (by kernel_rfl) (by simp) ?_
    refine (AllReadyH.cons (o:={dst:=some 19,op:=Op.call {callee:=Callee.value (Operand.func 36),args:=#[Operand.tmp 18],argTypes:=#[28]},type:=78,pos := "l08_fill.go:137",after:=#[{on:=2,ground:=Ground.data}],guard:=none}) rfl (fun KK hK=>?_) AllReadyH.nil)
    refine jcx rfl 36 (.tmp 18) 28 rfl jfp (.slice pl L.length cl) rfl _ (HTU.out _ (((But.refl (fun j=>j=K) w3).drew.alloc (.cells #[.int .i64 0,.int .i64 0,.int .i64 0,.string ⟨#[]⟩,.slice none 0 0,.slice none 0 0] 27)))) ?_
    rintro e w4 ⟨P4,B4,rfl,hb4,hg4⟩
    refine ⟨_,rfl,?_⟩
    have HS1:But (fun j=>j=K) w3 w4:=(((But.refl (fun j=>j=K) w3).drew.alloc (.cells #[.int .i64 0,.int .i64 0,.int .i64 0,.string ⟨#[]⟩,.slice none 0 0,.slice none 0 0] 27))).trans (But.of_all hb4)
    have HG4:=jad hg4
    have HC4:Hid (CountAt K w4 0):=CountAt.below (show CountAt K (w3.alloc (.cells #[.int .i64 0,.int .i64 0,.int .i64 0,.string ⟨#[]⟩,.slice none 0 0,.slice none 0 0] 27)).drew _ from (show CountAt K (w3.alloc (.cells #[.int .i64 0,.int .i64 0,.int .i64 0,.string ⟨#[]⟩,.slice none 0 0,.slice none 0 0] 27)) _ from CountAt.below HSZ.out.2.2 (newx w3 _))) hb4
    clear hg4
    refine hK.out _ _ HS1 (fun _=>?_)
    clear hK KK
    try simp only [pLq]
    refine wpAnyH_ready (rs:=[4]) (by kernel_rfl) (by simp) ?_
    refine (AllReadyH.cons (o:={dst:=some 20,op:=Op.call {callee:=Callee.value (Operand.tmp 16),args:=#[Operand.tmp 17,Operand.tmp 19],argTypes:=#[27,78]},type:=45,pos := "l08_fill.go:137",after:=#[{on:=0,ground:=Ground.data},{on:=1,ground:=Ground.data},{on:=3,ground:=Ground.data},{on:=3,ground:=Ground.chain}],guard:=none}) rfl (fun KK hK=>?_) AllReadyH.nil)
    refine jbJ rfl 63 (.tmp 16) (.tmp 17) (.tmp 19) 27 78 (.pointer (some ⟨K,0,none⟩)) (.pointer (some ⟨B,0,none⟩)) rfl rfl jbp (.agg #[.int .i64 t.op,.int .i64 t.at_,.int .i64 t.n,.string t.s,.slice ps t.set.length cs,.slice pu t.len cu]) (_) rfl rfl _ (HFI.out _ _ HS1 HC4.out HG4.out) ?_
    rintro e w5 hpart
    obtain ⟨x,p3,q3,n1,n2,n3,n4,ev,rfl,hb5,hcase⟩:=jbI hpart
    refine ⟨_,rfl,?_⟩
    have HS2:But (fun j=>j=K) w3 w5:=HS1.trans hb5
    have HC5:=jad hcase
    have HB5:=jad hb5
    clear hcase hb5 hpart
    refine hK.out _ _ HS2 (fun _=>?_)
    clear hK KK
    try simp only [pLq]
    refine wpAnyH_take (i:=5) (oi:={dst:=some 15,op:=Op.move (Operand.tmp 20),type:=45,pos := "l08_fill.go:137",after:=#[{on:=4,ground:=Ground.data}],guard:=none}) (v:=.tuple #[.agg #[.int .i64 x.op,.int .i64 x.at_,.int .i64 x.n,.string x.s,.slice p3 n1 n2,.slice q3 n3 n4],ev]) rfl (by kernel_rfl) (by kernel_rfl) (by kernel_rfl) (fun _ _ _ h=>h) (Or.inl ⟨by rfl,?_⟩) HS2 ?_
    ·intro wq hSq
     clear hSq
     go_simp
    try simp only [pLq]
    refine wpAnyH_take (i:=6) (oi:={dst:=some 21,op:=Op.extract (Operand.tmp 15) 0,type:=27,pos := "l08_fill.go:137",after:=#[{on:=5,ground:=Ground.data}],guard:=none}) (v:=.agg #[.int .i64 x.op,.int .i64 x.at_,.int .i64 x.n,.string x.s,.slice p3 n1 n2,.slice q3 n3 n4]) rfl (by kernel_rfl) (by kernel_rfl) (by kernel_rfl) (fun _ _ _ h=>h) (Or.inl ⟨by rfl,?_⟩) HS2 ?_
    ·intro wq hSq
     clear hSq
     go_simp
    try simp only [pLq]
    refine wpAnyH_take (i:=7) (oi:={dst:=some 22,op:=Op.extract (Operand.tmp 15) 1,type:=44,pos := "l08_fill.go:137",after:=#[{on:=5,ground:=Ground.data},{on:=9,ground:=Ground.gcOnly Departure.lateStores}],guard:=none}) (v:=ev) rfl (by kernel_rfl) (by kernel_rfl) (by kernel_rfl) (fun _ _ _ h=>h) (Or.inl ⟨by rfl,?_⟩) HS2 ?_
    ·intro wq hSq
     clear hSq
     go_simp
    try simp only [pLq]
    have hz:(w5).heap[w3.heap.size]? = some (.cells #[.int .i64 0,.int .i64 0,.int .i64 0,.string ⟨#[]⟩,.slice none 0 0,.slice none 0 0] 27):=HB5.out.at ((hb4.block _ (by show w3.heap.size<(w3.drew.alloc (.cells #[.int .i64 0,.int .i64 0,.int .i64 0,.string ⟨#[]⟩,.slice none 0 0,.slice none 0 0] 27)).heap.size;simp)).trans (han w3.drew _)) (fun e=>by have e2:w3.heap.size=K:=e;have h2:=HSZ.out.1;omega)
    have y0:=crw (w5) _ 0 _ _ _ hz
    have y1:=crw (w5) _ 1 _ _ _ hz
    have y2:=crw (w5) _ 2 _ _ _ hz
    have y3:=crw (w5) _ 3 _ _ _ hz
    have y4:=crw (w5) _ 4 _ _ _ hz
    have y5:=crw (w5) _ 5 _ _ _ hz
    have yf:∀ j,(w5).frozen? ⟨w3.heap.size,j,none⟩=false:=fun j=>fzr (w5) _ j _ _ hz
    refine wpAnyH_ready (rs:=[9]) (by kernel_rfl) (by simp) ?_
    refine (AllReadyH.cons (o:={dst:=none,op:=Op.store 27 (Operand.tmp 7) (Operand.tmp 21),type:=0,pos := "l08_fill.go:137",after:=#[{on:=8,ground:=Ground.data},{on:=6,ground:=Ground.data},{on:=4,ground:=Ground.chain},{on:=0,ground:=Ground.phase},{on:=1,ground:=Ground.phase},{on:=2,ground:=Ground.phase},{on:=3,ground:=Ground.phase},{on:=4,ground:=Ground.phase},{on:=5,ground:=Ground.phase},{on:=6,ground:=Ground.phase},{on:=7,ground:=Ground.textOnly Departure.lateStores},{on:=8,ground:=Ground.phase}],guard:=none}) rfl (fun KK hK=>?_) AllReadyH.nil)
    go_simp
    have HS3:=But.sixO (G:=w3.heap.size) HS2 (nlr _) (.int .i64 x.op) (.int .i64 x.at_) (.int .i64 x.n) (.string x.s) (.slice p3 n1 n2) (.slice q3 n3 n4)
    refine hK.out _ _ HS3 (fun _=>?_)
    clear hK KK
    try simp only [pLq]
    refine wpAnyH_take (i:=10) (oi:={dst:=some 8,op:=Op.assign (Operand.tmp 22),type:=44,pos := "l08_fill.go:137",after:=#[{on:=7,ground:=Ground.data},{on:=9,ground:=Ground.chain},{on:=0,ground:=Ground.phase},{on:=1,ground:=Ground.phase},{on:=2,ground:=Ground.phase},{on:=3,ground:=Ground.phase},{on:=4,ground:=Ground.phase},{on:=5,ground:=Ground.phase},{on:=6,ground:=Ground.phase},{on:=7,ground:=Ground.phase},{on:=8,ground:=Ground.phase},{on:=9,ground:=Ground.phase}],guard:=none}) (v:=ev) rfl (by kernel_rfl) (by kernel_rfl) (by kernel_rfl) (fun _ _ _ h=>h) (Or.inl ⟨by rfl,?_⟩) HS3 ?_
    ·intro wq hSq
     clear hSq
     go_simp
    try simp only [pLq]
    refine wpAnyH_done (by kernel_rfl) ?_ _
    go_wp2_with fail
    go_meet
    exact je0 HS1 HB5.out HSZ.out.2.1 HSZ.out.1 (nlr _) (by have h1:(w3.alloc (.cells #[.int .i64 0,.int .i64 0,.int .i64 0,.string ⟨#[]⟩,.slice none 0 0,.slice none 0 0] 27)).heap.size≤w4.heap.size:=hb4.size;rw [World.size_alloc] at h1;omega) hz HC5.out
  case rest =>
   obtain ⟨G,x,p3,q3,n1,n2,n3,n4,rfl,hbx,h6,hcase⟩:=hcut
   obtain ⟨y0,y1,y2,y3,y4,y5⟩:=h6.cells
   have HBX:Hid (But (fun j=>j=K) w3 wc∧Below W.heap.size W wc):=⟨hbx,HB3.out.2.trans (hbx.below HB3.out.2.size (fun j hj=>by have:=HFA.out.ne.2.1;omega))⟩
   have H6:=jad h6
   have HGA:Hid (W.heap.size≤A+1):=by have:=H1.out.2.2.2.2;show _≤_;omega
   have HZC:Hid (wc.heap[A+1]? = some (.cells #[.int .i64 0,.int .i64 0,.int .i64 0,.string ⟨#[]⟩,.slice none 0 0,.slice none 0 0] 27 (0,0))):=by
    have h1:=(HB2.out.1.block _ (aes.1 H1.out.2.2.1).1).trans H1.out.2.2.1
    have h2:=(HB3.out.1.block _ (aes.1 h1).1).trans h1
    exact hbx.at h2 (fun e=>by have:=HKB.out.2.1;omega)
   have HA3:Hid (A+2≤w3.heap.size):=by have:=HKB.out.2.1;have:=HSZ.out.1;show _≤_;omega
   clear hbx h6 HTU HFI HXB HSZ HNF HKB
   rcases hcase with ⟨r,F,h1,h2,h3,h4,rfl,h5,h7⟩|⟨h1,rfl⟩
   ·have HNI:=jad (jgl hpl HX.out.2.2.1 HX.out.2.2.2.2.1 h1 (by omega))
    have hxn:x.Nice:=HNI.out.1 x (by rw [h2];simp)
    have HAN0:=jad (jjp HSB.out h1 h2)
    have HFT:=jad h5
    have HF7:=jad h7
    have HXN:=jad hxn
    have HSX:Hid (Calls Tryz.prog 9 #[.agg #[.int .i64 x.op,.int .i64 x.at_,.int .i64 x.n,.string x.s,.slice p3 n1 n2,.slice q3 n3 n4]] wc fun e w'=>e=.returned (.bool (jax x))∧Below wc.heap.size wc w'):=jcZ x wc _ _ h5.now hxn
    clear h1 h2 h3 h4 h5 h7 hxn HNI hpl
    go_wp2_with fail
    refine HSX.out.mono ?_
    rintro e w6 ⟨rfl,hb6⟩
    have HB6:Hid (Below W.heap.size W w6):=HBX.out.2.trans (hb6.mono HBX.out.2.size)
    have HZ6:Hid (w6.heap[A+1]? = some (.cells #[.int .i64 0,.int .i64 0,.int .i64 0,.string ⟨#[]⟩,.slice none 0 0,.slice none 0 0] 27 (0,0))):=(hb6.block _ (aes.1 HZC.out).1).trans HZC.out
    have HF6:=jad (HFT.out.below hb6)
    obtain ⟨g0,g1,g2,g3,g4,g5⟩:=SixO.cells ((hb6.block _ (aes.1 H6.out).1).trans H6.out)
    clear hb6 y0 y1 y2 y3 y4 y5
    cases hxb:jax x with
    | false =>
     have HAN:Hid (ansF t L=none):=by have:=HAN0.out;rw [hxb] at this;exact this
     clear hxb
     go_upto_region 6 with fail
     have HGE:Hid (∀ wq,But (fun j=>j=A+1) w6 wq→wq.cell? ⟨0,0,none⟩=some (.iface 194 (.pointer (some a)))):=fun wq hq=>HER.out wq (HB6.out.trans (hq.below HB6.out.size (fun j hj=>by have:=HGA.out;omega)))
     have z:w6.heap[A+1]? = _:=HZ6.out
     have z0:=crw w6 _ 0 _ _ _ z
     have z1:=crw w6 _ 1 _ _ _ z
     have z2:=crw w6 _ 2 _ _ _ z
     have z3:=crw w6 _ 3 _ _ _ z
     have z4:=crw w6 _ 4 _ _ _ z
     have z5:=crw w6 _ 5 _ _ _ z
     have zf:∀ j,(w6).frozen? ⟨A+1,j,none⟩=false:=fun j=>fzr (w6) _ j _ _ z
     have HS0:But (fun j=>j=A+1) w6 w6.drew:=(But.refl _ _).drew
     refine wp_region_held_drew (S:=fun wq=>But (fun j=>j=A+1) w6 wq) (by kernel_rfl) HS0 (fun _=>?_)
     refine wpAnyH_take (i:=0) (oi:={dst:=some 30,op:=Op.build 27 #[],type:=27,pos := "l08_fill.go:139",after:=#[],guard:=none}) (v:=.agg #[.int .i64 0,.int .i64 0,.int .i64 0,.string ⟨#[]⟩,.slice none 0 0,.slice none 0 0]) rfl (by kernel_rfl) (by kernel_rfl) (by kernel_rfl) (fun _ _ _ h=>h) (Or.inl ⟨by rfl,?_⟩) HS0 ?_
     ·intro wq hSq
      clear hSq
      go_simp
     try simp only [pLq]
     refine wpAnyH_take (i:=1) (oi:={dst:=some 31,op:=Op.load 44 (Operand.global 0),type:=44,pos := "l08_fill.go:139",after:=#[{on:=2,ground:=Ground.gcOnly Departure.lateStores}],guard:=none}) (v:=.iface 194 (.pointer (some a))) rfl (by kernel_rfl) (by kernel_rfl) (by kernel_rfl) (fun _ _ _ h=>h) (Or.inl ⟨by rfl,?_⟩) HS0 ?_
     ·intro wq hSq
      have ge:=HGE.out wq hSq
      clear hSq
      go_simp
     try simp only [pLq]
     refine wpAnyH_ready (rs:=[2]) (by kernel_rfl) (by simp) ?_
     refine (AllReadyH.cons (o:={dst:=none,op:=Op.store 27 (Operand.tmp 4) (Operand.tmp 30),type:=0,pos := "l08_fill.go:139",after:=#[{on:=0,ground:=Ground.data},{on:=0,ground:=Ground.phase},{on:=1,ground:=Ground.textOnly Departure.lateStores}],guard:=none}) rfl (fun KK hK=>?_) AllReadyH.nil)
     go_simp
     have HS3:=(((((((But.refl (fun j=>j=A+1) w6).setCell (p:=⟨A+1,0,none⟩) (.inr rfl) (.int .i64 0)).setCell (p:=⟨A+1,1,none⟩) (.inr rfl) (.int .i64 0)).setCell (p:=⟨A+1,2,none⟩) (.inr rfl) (.int .i64 0)).setCell (p:=⟨A+1,3,none⟩) (.inr rfl) (.string ⟨#[]⟩)).setCell (p:=⟨A+1,4,none⟩) (.inr rfl) (.slice none 0 0)).setCell (p:=⟨A+1,5,none⟩) (.inr rfl) (.slice none 0 0)).drew
     refine hK.out _ _ HS3 (fun _=>?_)
     clear hK KK
     try simp only [pLq]
     refine wpAnyH_take (i:=3) (oi:={dst:=some 5,op:=Op.assign (Operand.tmp 31),type:=44,pos := "l08_fill.go:139",after:=#[{on:=1,ground:=Ground.data},{on:=2,ground:=Ground.chain},{on:=0,ground:=Ground.phase},{on:=1,ground:=Ground.phase},{on:=2,ground:=Ground.phase}],guard:=none}) (v:=.iface 194 (.pointer (some a))) rfl (by kernel_rfl) (by kernel_rfl) (by kernel_rfl) (fun _ _ _ h=>h) (Or.inl ⟨by rfl,?_⟩) HS3 ?_
     ·intro wq hSq
      clear hSq
      go_simp
     try simp only [pLq]
     refine wpAnyH_done (by kernel_rfl) ?_ _
     go_wp2_with fail
     refine bpr (v:=.tuple #[noXV,errV a]) (by rw [jac (p:=4) (q:=5) (ty:=27) (by kernel_rfl)];simp [go_sem,noXV,errV,z0,z1,z2,z3,z4,z5]) rfl ?_
     exact ⟨.inr ⟨HAN.out,.mk 0 0 0 ⟨#[]⟩ [] 0 (fun _=>.no),none,none,0,0,0,0,rfl⟩,HB6.out.trans (HS3.below HB6.out.size (fun j hj=>by have:=HGA.out;omega))⟩
    | true =>
     have HAN:Hid (ansF t L=some x):=by have:=HAN0.out;rw [hxb] at this;exact this
     have HXB2:=jad hxb
     clear hxb
     have HFIN:Hid (je8 a (ansF t L) (finW w6 (A+1) x (.slice p3 n1 n2) (.slice q3 n3 n4)) (.returned (.tuple #[aggX x (.slice p3 n1 n2) (.slice q3 n3 n4),.nilIface]))∧Below W.heap.size W (finW w6 (A+1) x (.slice p3 n1 n2) (.slice q3 n3 n4))):=by
      have hft:=HF6.out.keep (w2:=finW w6 (A+1) x (.slice p3 n1 n2) (.slice q3 n3 n4)) (fun j hj=>jdg w6 (A+1) x _ _ (fun e=>by have a1:=HF7.out j hj;have a2:=HA3.out;have a3:=HGA.out;omega)) (by rw [jju];exact nlr _)
      refine ⟨.inl ⟨x,_,_,HAN.out,hft.now,HXN.out,HXB2.out,rfl⟩,?_⟩
      exact (((((HB6.out.setCell (p:=⟨A+1,0,none⟩) HGA.out _).setCell (p:=⟨A+1,1,none⟩) HGA.out _).setCell (p:=⟨A+1,2,none⟩) HGA.out _).setCell (p:=⟨A+1,3,none⟩) HGA.out _).setCell (p:=⟨A+1,4,none⟩) HGA.out _).setCell (p:=⟨A+1,5,none⟩) HGA.out _
     have z:=HZ6.out
     have z0:=crw w6 _ 0 _ _ _ z
     have z1:=crw w6 _ 1 _ _ _ z
     have z2:=crw w6 _ 2 _ _ _ z
     have z3:=crw w6 _ 3 _ _ _ z
     have z4:=crw w6 _ 4 _ _ _ z
     have z5:=crw w6 _ 5 _ _ _ z
     have zf:∀ j,w6.frozen? ⟨A+1,j,none⟩=false:=fun j=>fzr w6 _ j _ _ z
     clear z
     go_wp2_with fail
     refine bpr (v:=.tuple #[aggX x (.slice p3 n1 n2) (.slice q3 n3 n4),.nilIface]) (by rw [jac (p:=4) (q:=5) (ty:=27) (by kernel_rfl)];simp [go_sem,z0,z1,z2,z3,z4,z5]) rfl ?_
     exact HFIN.out
   ·have HAN:Hid (ansF t L=none):=joW h1
    have z:=HZC.out
    have z0:=crw wc _ 0 _ _ _ z
    have z1:=crw wc _ 1 _ _ _ z
    have z2:=crw wc _ 2 _ _ _ z
    have z3:=crw wc _ 3 _ _ _ z
    have z4:=crw wc _ 4 _ _ _ z
    have z5:=crw wc _ 5 _ _ _ z
    have zf:∀ j,wc.frozen? ⟨A+1,j,none⟩=false:=fun j=>fzr wc _ j _ _ z
    clear z h1
    unfold errV
    go_wp2_with fail
    refine bpr (v:=.tuple #[aggX x (.slice p3 n1 n2) (.slice q3 n3 n4),errV a]) (by rw [jac (p:=4) (q:=5) (ty:=27) (by kernel_rfl)];simp [go_sem,errV,z0,z1,z2,z3,z4,z5]) rfl ?_
    exact ⟨.inr ⟨HAN.out,x,p3,q3,n1,n2,n3,n4,rfl⟩,(((((HBX.out.2.setCell (p:=⟨A+1,0,none⟩) HGA.out _).setCell (p:=⟨A+1,1,none⟩) HGA.out _).setCell (p:=⟨A+1,2,none⟩) HGA.out _).setCell (p:=⟨A+1,3,none⟩) HGA.out _).setCell (p:=⟨A+1,4,none⟩) HGA.out _).setCell (p:=⟨A+1,5,none⟩) HGA.out _⟩
end Go.Proofs.YtjmlfacbcfbhdaaGreatDoor
namespace Go.Proofs.YtjmlfacbcfbhdaaGreatDoor
open Go.RowKit Go.Extern.Stop Go.Stop Go.Extern
theorem jpw (v:Value) (w:World):(Extern.ReflectliteType.typeOf #[.iface 194 v]).run Tryz.prog w=.ok (.iface 122 (.agg #[.pointer (some ⟨2,194,none⟩)])) w:=by kernel_rfl
theorem jgQ (w:World):(callFunc 147 #[.agg #[.pointer (some ⟨2,194,none⟩)]]).run Tryz.prog w=.ok (.value (.bool true)) w:=by kernel_rfl
theorem jmt (v:Value) (w:World):(Go.method 331 122 v "Comparable").run Tryz.prog w=.ok (147,v) w:=by kernel_rfl
theorem jnO:(Tryz.prog.info? 194).map (·.comparable)=some true:=by kernel_rfl
theorem jnP:(Tryz.prog.info? 219).map (·.size)=some 1:=by kernel_rfl
theorem jpJ (a:Addr) (w:World):Calls Tryz.prog 18 #[.nilIface,.iface 194 (.pointer (some a))] w fun e w'=>e=.returned (.bool false)∧w'=w:=by
 have hn:=run_eql_iface_nil_left (P:=Tryz.prog) w 194 (.pointer (some a)) Tryz.underlying44
 go_enter Tryz.func18,Tryz.ntmps18
 go_wp2
 go_ret
 exact ⟨rfl,rfl⟩
theorem jo6 (a:Addr) (w:World):Calls Tryz.prog 18 #[.iface 194 (.pointer (some a)),.iface 194 (.pointer (some a))] w fun e w'=>e=.returned (.bool true)∧w'=w:=by
 obtain ⟨i,hi,hcmp⟩:=Option.map_eq_some_iff.1 jnO
 obtain ⟨j,hj,hjs⟩:=Option.map_eq_some_iff.1 jnP
 have h8:=@run_callFunc_extern Tryz.prog 37 _ Extern.ReflectliteType.typeOf Tryz.func37 (by kernel_rfl) (by kernel_rfl) (by kernel_rfl) (by kernel_rfl)
 have tT:=jpw
 have cT:=jgQ
 have mR:=jmt
 have heq:=run_eql_iface_ptr_same (P:=Tryz.prog) w a Tryz.underlying44 Tryz.underlying194 hi hcmp hj
 go_enter Tryz.func18,Tryz.ntmps18
 go_wp2
 refine wp_loop_rounds 1 ?_
 rw [rounds_succ]
 go_wp2
 go_ret
 exact ⟨rfl,rfl⟩
end Go.Proofs.YtjmlfacbcfbhdaaGreatDoor
namespace Go.Proofs.YtjmlfacbcfbhdaaGreatDoor
open Go.ChangeShapes Go.WideShapes Go.ChangeAt Go.RowKit
theorem jcr (t:X):t.Nice→t.Small:=by
 induction t with
 | no=>intro _;exact trivial
 | mk op a n s set len kid ih=>intro h;exact ⟨by have:=h.1.2;omega,fun i hi=>ih i (h.2.2 i hi)⟩
def jeb (o:Option X) (w':World) (e:Ending):Prop:=(∃ (x:X) (p q:Option Addr) (n1 n2 n3 n4:Nat),o=some x∧x.Nice∧jax x=true∧x.At 0 w' (.slice p n1 n2) (.slice q n3 n4)∧e=.returned (.tuple #[aggX x (.slice p n1 n2) (.slice q n3 n4),.bool true]))∨(o=none∧e=.returned (.tuple #[noXV,.bool false]))
theorem jmh {a:Addr} (t:X) (L:List G) (W:World) (su u lv:Value) (ht:t.At 0 W su u) (hg:GsAt W L.length (fun i=>L.getD i .no) lv) (hn:t.Nice) (hct:t.count≤2097152) (hL:NiceL L) (he:ErrAt W a) :
  Calls Tryz.prog 6 #[aggX t su u,lv] W fun e w'=>jeb (ansF t L) w' e∧Below W.heap.size W w':=by
 obtain ⟨pu,cu,e1⟩:=ht.xs.shape
 obtain ⟨ps,cs,e2⟩:=ht.sets.shape
 obtain ⟨pl,cl,e3⟩:=hg.shape
 subst e1 e2 e3
 obtain ⟨A,hA⟩:∃ A,A=W.heap.size:=⟨_,rfl⟩
 obtain ⟨W1,hW1⟩:∃ W1,W1=(W.alloc (.cells #[.int .i64 t.op,.int .i64 t.at_,.int .i64 t.n,.string t.s,.slice ps t.set.length cs,.slice pu t.len cu] 27)).alloc (.cells #[.int .i64 0,.int .i64 0,.int .i64 0,.string ⟨#[]⟩,.slice none 0 0,.slice none 0 0] 27):=⟨_,rfl⟩
 have nb:Below W.heap.size W W1:=by rw [hW1];exact (newx W _).trans ((newx _ _).mono (by simp))
 have hs1:W1.heap.size=A+2:=by rw [hW1,hA];simp
 have hbx:SixO W1 A t (.slice ps t.set.length cs) (.slice pu t.len cu):=by rw [hW1,hA];exact (bha _ _ _ (by simp)).trans (han W _)
 have hrs:W1.heap[A+1]? = some (.cells #[.int .i64 0,.int .i64 0,.int .i64 0,.string ⟨#[]⟩,.slice none 0 0,.slice none 0 0] 27 (0,0)):=by
  have:=han (W.alloc (.cells #[.int .i64 t.op,.int .i64 t.at_,.int .i64 t.n,.string t.s,.slice ps t.set.length cs,.slice pu t.len cu] 27)) (.cells #[.int .i64 0,.int .i64 0,.int .i64 0,.string ⟨#[]⟩,.slice none 0 0,.slice none 0 0] 27)
  rw [World.size_alloc] at this
  rw [hW1,hA];exact this
 have H1:Hid (Below W.heap.size W W1∧W1.heap[A+1]? = some (.cells #[.int .i64 0,.int .i64 0,.int .i64 0,.string ⟨#[]⟩,.slice none 0 0,.slice none 0 0] 27 (0,0))∧W.heap.size≤A+1):=⟨nb,hrs,by omega⟩
 have HWW:Hid (W1=(W.alloc (.cells #[.int .i64 t.op,.int .i64 t.at_,.int .i64 t.n,.string t.s,.slice ps t.set.length cs,.slice pu t.len cu] 27)).alloc (.cells #[.int .i64 0,.int .i64 0,.int .i64 0,.string ⟨#[]⟩,.slice none 0 0,.slice none 0 0] 27)∧A=W.heap.size):=⟨hW1,hA⟩
 have HE:=jad he
 obtain ⟨q0,q1,q2,q3,q4,q5⟩:=hbx.cells
 have HFI:Hid (Calls Tryz.prog 17 #[.agg #[.int .i64 t.op,.int .i64 t.at_,.int .i64 t.n,.string t.s,.slice ps t.set.length cs,.slice pu t.len cu],.slice pl L.length cl] W1 fun e w'=>je8 a (ansF t L) w' e∧Below W1.heap.size W1 w'):=jiz t L W1 _ _ _ (X.At.below nb ht) (hg.below nb) hn hct hL (he.below nb)
 clear ht hg hn hct hL he hA hW1 nb hs1 hbx hrs
 go_enter Tryz.func6,Tryz.ntmps6
 go_upto_region 1 with fail
 rw [←HWW.out.1,←HWW.out.2]
 go_wp2_with fail
 refine HFI.out.mono ?_
 rintro e w2 ⟨hret,hb2⟩
 have HB2:Hid (Below W.heap.size W w2∧w2.heap[A+1]? = some (.cells #[.int .i64 0,.int .i64 0,.int .i64 0,.string ⟨#[]⟩,.slice none 0 0,.slice none 0 0] 27 (0,0))):=⟨H1.out.1.trans (hb2.mono H1.out.1.size),(hb2.block _ (aes.1 H1.out.2.1).1).trans H1.out.2.1⟩
 clear hb2 q0 q1 q2 q3 q4 q5
 rcases hret with ⟨x,sx,ux,hs,hx,hxn,hxo,rfl⟩|⟨hs,y,p,q,n1,n2,n3,n4,rfl⟩
 ·obtain ⟨p3,c3,e3⟩:=hx.sets.shape
  obtain ⟨q3,d3,e4⟩:=hx.xs.shape
  subst e3 e4
  obtain ⟨W3,hW3⟩:∃ W3,W3=w2.alloc (.cells #[.int .i64 x.op,.int .i64 x.at_,.int .i64 x.n,.string x.s,.slice p3 x.set.length c3,.slice q3 x.len d3] 27):=⟨_,rfl⟩
  have nb3:Below w2.heap.size w2 W3:=by rw [hW3];exact newx w2 _
  have HB3:Hid (Below W.heap.size W W3):=HB2.out.1.trans (nb3.mono HB2.out.1.size)
  have ger:W3.cell? ⟨0,0,none⟩=some (.iface 194 (.pointer (some a))):=HE.out.below HB3.out
  have h6:SixO W3 w2.heap.size x (.slice p3 x.set.length c3) (.slice q3 x.len d3):=by rw [hW3];exact han w2 _
  obtain ⟨G,hG⟩:∃ G,G=w2.heap.size:=⟨_,rfl⟩
  rw [←hG] at h6
  obtain ⟨y0,y1,y2,y3,y4,y5⟩:=h6.cells
  have HCP:Hid (Calls Tryz.prog 19 #[.agg #[.int .i64 x.op,.int .i64 x.at_,.int .i64 x.n,.string x.s,.slice p3 x.set.length c3,.slice q3 x.len d3]] W3 fun e w'=>∃ su' u' S,e=.returned (.agg #[.int .i64 x.op,.int .i64 x.at_,.int .i64 x.n,.string x.s,su',u'])∧Below W3.heap.size W3 w'∧XOwn w' x su' u' S∧S.Nodup∧∀ k∈S,W3.heap.size≤k):=jfv x _ _ W3 (X.At.below nb3 hx) (jcr x hxn) (by have:=jb2 hxo;omega)
  have HW3:Hid (W3=w2.alloc (.cells #[.int .i64 x.op,.int .i64 x.at_,.int .i64 x.n,.string x.s,.slice p3 x.set.length c3,.slice q3 x.len d3] 27)∧G=w2.heap.size):=⟨hW3,hG⟩
  have HZ3:Hid (W3.heap[A+1]? = some (.cells #[.int .i64 0,.int .i64 0,.int .i64 0,.string ⟨#[]⟩,.slice none 0 0,.slice none 0 0] 27 (0,0))):=(nb3.block _ (aes.1 HB2.out.2).1).trans HB2.out.2
  have HAX:=jad (And.intro hs (And.intro hxn hxo))
  clear hs hx hxn hxo nb3 hW3 h6 hG
  go_upto_region 2 with fail
  rw [←HW3.out.1,←HW3.out.2]
  go_wp2_with fail
  refine (jpJ a W3).mono ?_
  rintro e w4 ⟨rfl,rfl⟩
  go_wp2_with fail
  refine HCP.out.mono ?_
  rintro e w5 ⟨su',u',S,rfl,hb5,ho,hsn,hSg⟩
  obtain ⟨p5,c5,e5⟩:=ho.at0.sets.shape
  obtain ⟨q5,d5,e6⟩:=ho.at0.xs.shape
  subst e5 e6
  have HFIN:Hid (jeb (ansF t L) (finW w5 (A+1) x (.slice p5 x.set.length c5) (.slice q5 x.len d5)) (.returned (.tuple #[aggX x (.slice p5 x.set.length c5) (.slice q5 x.len d5),.bool true]))∧Below W.heap.size W (finW w5 (A+1) x (.slice p5 x.set.length c5) (.slice q5 x.len d5))):=by
   have hb:Below W.heap.size W w5:=HB3.out.trans (hb5.mono HB3.out.size)
   have hA1:A+1<w4.heap.size:=(aes.1 HZ3.out).1
   refine ⟨.inl ⟨x,_,_,_,_,_,_,HAX.out.1,HAX.out.2.1,HAX.out.2.2,?_,rfl⟩,?_⟩
   ·exact (XOwn.same x ho (fun k hk=>jdg w5 (A+1) x _ _ (fun e=>by have:=hSg k hk;omega))).at0
   ·exact (((((hb.setCell (p:=⟨A+1,0,none⟩) H1.out.2.2 _).setCell (p:=⟨A+1,1,none⟩) H1.out.2.2 _).setCell (p:=⟨A+1,2,none⟩) H1.out.2.2 _).setCell (p:=⟨A+1,3,none⟩) H1.out.2.2 _).setCell (p:=⟨A+1,4,none⟩) H1.out.2.2 _).setCell (p:=⟨A+1,5,none⟩) H1.out.2.2 _
  have z:=(hb5.block _ (aes.1 HZ3.out).1).trans HZ3.out
  have z0:=crw w5 _ 0 _ _ _ z
  have z1:=crw w5 _ 1 _ _ _ z
  have z2:=crw w5 _ 2 _ _ _ z
  have z3:=crw w5 _ 3 _ _ _ z
  have z4:=crw w5 _ 4 _ _ _ z
  have z5:=crw w5 _ 5 _ _ _ z
  have zf:∀ j,w5.frozen? ⟨A+1,j,none⟩=false:=fun j=>fzr w5 _ j _ _ z
  clear z hb5 ho hsn hSg y0 y1 y2 y3 y4 y5
  go_wp2_with fail
  refine bpr (v:=.tuple #[aggX x (.slice p5 x.set.length c5) (.slice q5 x.len d5),.bool true]) (by rw [jac (p:=4) (q:=5) (ty:=27) (by kernel_rfl)];simp [go_sem,z0,z1,z2,z3,z4,z5]) rfl ?_
  exact HFIN.out
 ·obtain ⟨W3,hW3⟩:∃ W3,W3=w2.alloc (.cells #[.int .i64 y.op,.int .i64 y.at_,.int .i64 y.n,.string y.s,.slice p n1 n2,.slice q n3 n4] 27):=⟨_,rfl⟩
  have nb3:Below w2.heap.size w2 W3:=by rw [hW3];exact newx w2 _
  have HB3:Hid (Below W.heap.size W W3):=HB2.out.1.trans (nb3.mono HB2.out.1.size)
  have ger:W3.cell? ⟨0,0,none⟩=some (.iface 194 (.pointer (some a))):=HE.out.below HB3.out
  have HW3:Hid (W3=w2.alloc (.cells #[.int .i64 y.op,.int .i64 y.at_,.int .i64 y.n,.string y.s,.slice p n1 n2,.slice q n3 n4] 27)):=hW3
  have z:=(nb3.block _ (aes.1 HB2.out.2).1).trans HB2.out.2
  have z0:=crw W3 _ 0 _ _ _ z
  have z1:=crw W3 _ 1 _ _ _ z
  have z2:=crw W3 _ 2 _ _ _ z
  have z3:=crw W3 _ 3 _ _ _ z
  have z4:=crw W3 _ 4 _ _ _ z
  have z5:=crw W3 _ 5 _ _ _ z
  have zf:∀ j,W3.frozen? ⟨A+1,j,none⟩=false:=fun j=>fzr W3 _ j _ _ z
  have HAN:=jad hs
  clear z nb3 hW3 hs
  unfold errV
  go_upto_region 2 with fail
  rw [←HW3.out]
  go_wp2_with fail
  refine (jo6 a W3).mono ?_
  rintro e w4 ⟨rfl,rfl⟩
  go_wp2_with fail
  refine bpr (v:=.tuple #[noXV,.bool false]) (by rw [jac (p:=4) (q:=5) (ty:=27) (by kernel_rfl)];simp [go_sem,noXV,z0,z1,z2,z3,z4,z5]) rfl ?_
  exact ⟨.inr ⟨HAN.out,rfl⟩,(((((HB3.out.setCell (p:=⟨A+1,0,none⟩) H1.out.2.2 _).setCell (p:=⟨A+1,1,none⟩) H1.out.2.2 _).setCell (p:=⟨A+1,2,none⟩) H1.out.2.2 _).setCell (p:=⟨A+1,3,none⟩) H1.out.2.2 _).setCell (p:=⟨A+1,4,none⟩) H1.out.2.2 _).setCell (p:=⟨A+1,5,none⟩) H1.out.2.2 _⟩
end Go.Proofs.YtjmlfacbcfbhdaaGreatDoor
