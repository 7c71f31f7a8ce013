/- impl.treeLook.listOk, of what is written. Condition: at most 2^20 in all. -/
import Derived.Test.YtjmlfacbcfbhdaaGreatDoorYA
import Derived.Test.YtjmlfacbcfbhdaaGreatDoorRows
import Derived.Test.YtjmlfacbcfbhdaaGreatDoorY17
import Derived.Test.YtjmlfacbcfbhdaaGreatDoorY32
import Derived.Test.YtjmlfacbcfbhdaaGreatDoorY0
import Derived.WalkKit
import Derived.ProofKit
import Derived.Below
import Derived.Deep.QuietTactic
import Derived.BigQuiet
import Derived.Deep.RegionWith
import Derived.Deep.RegionHeld3
import Derived.OwnWalk
import Derived.Deep.Cut
import Derived.Deep.CutRange
set_option maxRecDepth 100000
set_option maxHeartbeats 8000000
namespace Go.Proofs.YtjmlfacbcfbhdaaGreatDoor
open Go.ChangeShapes Go.WideShapes Go.ChangeAt Go.RowKit
structure Later (W:World) where
 w:World
 le:Below W.heap.size W w
theorem Later.one (W:World):Nonempty (Later W):=⟨⟨W,brf _ _⟩⟩
theorem Later.cell {W:World} (x:Later W) {a:Addr} {v:Value} (h:W.cell? a=some v):x.w.cell? a=some v :=
 (x.le.cell (wbl W _ h)).trans h
theorem jin {P:Program} {f:FuncId} {args:Array Value} {W:World} {x:Later W} {v:Value}
  (h:Calls P f args x.w fun e w'=>e=.returned v∧Below x.w.heap.size x.w w'):Calls P f args x.w fun e w'=>e=.returned v∧∃ y:Later W,w'=y.w :=
 h.mono fun _ w' ⟨he,hb⟩=>⟨he,⟨w',x.le.trans (hb.mono x.le.size)⟩,rfl⟩
theorem jf5 {P:Program} {id:Nat} {Q:Exit→Act→World→Prop} {a:Act} {w:World} {l:List Oper} (hm:P.follows .mixedOrders=true) (hB:Region.lexB .any l.toArray=true)
  (h:wpQuiet P l.toArray (fun w'=>∃ x:Later w,w'=x.w) (fun a'=>∀ w',(∃ x:Later w,w'=x.w)→Q .normal a' w') l a):(Code.region id l.toArray true).wp P Q a w :=
 wp_region_quiet (C:=fun w'=>∃ x:Later w,w'=x.w) hm hB ⟨⟨{w with drawn:=w.drawn+1},⟨rfl,rfl,rfl,nlr _,fun _ _=>rfl⟩⟩,rfl⟩ (by simpa using h)
def CntX (w:World) (K left:Nat):Prop:=w.heap[K]? = some (.cells #[.int .i64 left,.func (.func 23) #[] #[],.func (.func 24) #[] #[]] 59 (0,0))
theorem CntX.below {w w':World} {K left:Nat} (h:CntX w K left) (hb:Below w.heap.size w w'):CntX w' K left:=(hb.block _ (aes.1 h).1).trans h
theorem CntX.cell {w:World} {K left:Nat} (h:CntX w K left):w.cell? ⟨K,0,none⟩=some (.int .i64 left):=crw w K 0 _ _ _ h
theorem CntX.fr {w:World} {K left:Nat} (h:CntX w K left):w.frozen? ⟨K,0,none⟩=false:=fzr w K 0 _ _ h
theorem CntX.lt {w:World} {K left:Nat} (h:CntX w K left):K<w.heap.size:=(aes.1 h).1
theorem CntX.set {w:World} {K left:Nat} (h:CntX w K left) (l:Nat):CntX (w.setCell ⟨K,0,none⟩ (.int .i64 l)) K l:=heap_setCell_same w K 0 _ _ (.int .i64 l) h
structure Gd (w0:World) (TB:Nat) (oT:Option Obj) (W:World):Prop where
 bel:Below w0.heap.size w0 W
 top:W.heap[TB]? = oT∧(oT.isSome=true→TB<W.heap.size)
theorem Gd.fr {w0 W W':World} {TB K:Nat} {oT:Option Obj} (h:Gd w0 TB oT W) (ho:oT.isSome=true) (hf:Fr [K] W W') (hK:w0.heap.size≤K) (hne:TB≠K):Gd w0 TB oT W':=by
 have hl:=h.top.2 ho
 have hs:=hf.size
 have hw:=h.bel.size
 exact ⟨⟨hf.os.trans h.bel.os,hf.tape.trans h.bel.tape,hf.output.trans h.bel.output,by omega,fun x hx=>(hf.block x (by omega) (by simp;omega)).trans (h.bel.block x hx)⟩,(hf.block TB hl (by simpa using hne)).trans h.top.1,fun _=>by omega⟩
def SrcL (w0:World) (TB:Nat) (oT:Option Obj) (len:Nat) (kid:Nat→X) (v:Value):Prop:=∃ p cap,v=.slice p len cap∧len≤maxLen∧∀ W,Gd w0 TB oT W→∀ i,i<len→∃ b o su u,p=some ⟨b,o,none⟩∧Head6 W b (o+i*6) (kid i) su u∧(kid i).At 0 w0 su u
theorem SrcL.of {w0:World} {TB:Nat} {oT:Option Obj} {len:Nat} {kid:Nat→X} {v:Value} (h:XsAt 0 w0 len kid v):SrcL w0 TB oT len kid v:=by
 obtain ⟨p,cap,e,hl,hat⟩:=h.at
 exact ⟨p,cap,e,hl,fun W hW i hi=>by obtain ⟨b,o,su,u,hp,hd,hin⟩:=hat i hi;exact ⟨b,o,su,u,hp,hd.below hW.bel,hin⟩⟩
def jfa (w:World) (K nest left len:Nat) (kid:Nat→X) (e:Ending) (w':World):Prop :=
 e=.returned (.bool (jbb nest left len kid).isSome)∧Fr [K] w w'∧∃ l,l≤1500∧CntX w' K l∧∀ l',jbb nest left len kid=some l'→l=l'
theorem joL (w:World) (K:Nat) (v:Value):Fr [K] w (w.setCell ⟨K,0,none⟩ v) :=
 ⟨rfl,rfl,rfl,by simp,fun x _ hx=>bhs w ⟨K,0,none⟩ v x (by simpa using hx)⟩
theorem jdj {W:World} {K OB l:Nat} {a b c:Int} {s:ByteArray} {u v:Value} (h:CntX W K l) (h6:Six W OB a b c s u v 27) :
  W.cell? ⟨K,1,none⟩=some (.func (.func 23) #[] #[])∧W.cell? ⟨K,2,none⟩=some (.func (.func 24) #[] #[])∧W.cell? ⟨OB,0,none⟩=some (.int .i64 a)∧W.cell? ⟨OB,1,none⟩=some (.int .i64 b)∧W.cell? ⟨OB,2,none⟩=some (.int .i64 c)∧W.cell? ⟨OB,3,none⟩=some (.string s)∧W.cell? ⟨OB,4,none⟩=some u∧W.cell? ⟨OB,5,none⟩=some v :=
 ⟨crw W K 1 _ _ _ h,crw W K 2 _ _ _ h,h6.cells⟩
theorem jiK {W:World} {K OB:Nat} {Q:Nat→Prop} {a b c:Int} {s:ByteArray} {u v:Value} (h:∃ l2,l2≤1500∧CntX W K l2∧Q l2) (h6:Six W OB a b c s u v 27) :
  W.cell? ⟨K,1,none⟩=some (.func (.func 23) #[] #[])∧W.cell? ⟨K,2,none⟩=some (.func (.func 24) #[] #[])∧W.cell? ⟨OB,0,none⟩=some (.int .i64 a)∧W.cell? ⟨OB,1,none⟩=some (.int .i64 b)∧W.cell? ⟨OB,2,none⟩=some (.int .i64 c)∧W.cell? ⟨OB,3,none⟩=some (.string s)∧W.cell? ⟨OB,4,none⟩=some u∧W.cell? ⟨OB,5,none⟩=some v:=by
 obtain ⟨l2,_,hc,_⟩:=h
 exact jdj hc h6
theorem jpO {W W':World} {K OB:Nat} {a b c:Int} {s:ByteArray} {u v:Value} {ty:TypeId} (h:Six W OB a b c s u v ty) (hf:Fr [K] W W') (hne:OB≠K):Six W' OB a b c s u v ty:=(hf.block OB h.lt (by simpa using hne)).trans h
def jbK (nest:Nat) (d:X) (l:Nat):Option Nat:=if ja2 d=true then jbb nest l d.len d.kid else none
theorem jgs (nest left len:Nat) (kid:Nat→X) (h:¬ left<len):jbb (nest+1) left len kid=jcQ (jbK nest) kid (left-len) len:=by
 show (if left<len then none else _)=_
 rw [if_neg h];rfl
theorem jiJ (nest left:Nat) (kid:Nat→X):jbb nest left 0 kid=some left:=by
 cases nest with
 | zero=>rfl
 | succ n=>rw [jgs n left 0 kid (by omega)];rfl
theorem jfC (K:Nat) (nest left:Nat) (kid:Nat→X) (p:Option Addr) (cap:Nat) (w:World) (hcnt:CntX w K left) (hleft:left≤1500) :
  Calls Tryz.prog 25 #[.pointer (some ⟨K,0,none⟩),.slice p 0 cap,.int .i64 nest] w (jfa w K nest left 0 kid):=by
 have k0:=hcnt.cell
 have kf:=hcnt.fr
 have HCN:Hid (CntX w K left):=hcnt
 have HL:Hid (jbb nest left 0 kid=some left):=jiJ nest left kid
 clear hcnt
 go_enter Tryz.func25,Tryz.ntmps25
 go_wp2_with fail
 go_loop [36] (fun i=>i=.int .i64 0) (fun _=>0)
 case atStart=>rfl
 case round =>
  obtain rfl:=hrel
  go_wp2_with fail
  go_ret
  refine ⟨by rw [HL.out];rfl,?_,left,hleft,?_,fun l' h=>by rw [HL.out] at h;exact Option.some.inj h⟩
  ·exact joL w K _
  ·have:=HCN.out.set left
   simpa using this
theorem jn1 (w0:World) (TB:Nat) (oT:Option Obj) (hoT:oT.isSome=true) (K:Nat) (hK:w0.heap.size≤K) (hTK:TB≠K) (nest:Nat):∀ (left len:Nat) (kid:Nat→X) (v:Value) (w:World),SrcL w0 TB oT len kid v→Gd w0 TB oT w→CntX w K left→left≤1500→nest≤20→jlH len kid →
  Calls Tryz.prog 25 #[.pointer (some ⟨K,0,none⟩),v,.int .i64 nest] w (jfa w K nest left len kid):=by
 induction nest with
 | zero =>
  intro left len kid v w hv hbel hcnt hleft _ _
  obtain ⟨p,cap,rfl,hlen,-⟩:=hv
  by_cases h0:len=0
  ·subst h0
   exact jfC K 0 left kid p cap w hcnt hleft
  ·have k0:=hcnt.cell
   have HCN:Hid (CntX w K left):=hcnt
   clear hbel hcnt
   unfold maxLen at hlen
   have HL:Hid (jbb 0 left len kid=none):=by show _=_;unfold jbb;rw [if_neg h0]
   have hpos:0<len:=by omega
   go_enter Tryz.func25,Tryz.ntmps25
   go_wp2_with fail
   go_ret
   exact ⟨by rw [HL.out];rfl,Fr.refl _ _,left,hleft,HCN.out,fun l' h=>by rw [HL.out] at h;cases h⟩
 | succ nest ih =>
  intro left len kid v w hv hbel hcnt hleft hnest hwt
  obtain ⟨p,cap,rfl,hlen,hat⟩:=hv
  by_cases hz:len=0
  ·subst hz
   exact jfC K (nest+1) left kid p cap w hcnt hleft
  have k0:=hcnt.cell
  have kf:=hcnt.fr
  have HB:Hid (Gd w0 TB oT w):=hbel
  have HCN:Hid (CntX w K left):=hcnt
  have HC:Hid (∀ W,Gd w0 TB oT W→∀ i,i<len→∃ b o su u,p=some ⟨b,o,none⟩∧Head6 W b (o+i*6) (kid i) su u∧(kid i).At 0 w0 su u):=hat
  have IH:Hid (∀ (left len:Nat) (kid:Nat→X) (v:Value) (w:World),SrcL w0 TB oT len kid v→Gd w0 TB oT w→CntX w K left→left≤1500→nest≤20→jlH len kid →
   Calls Tryz.prog 25 #[.pointer (some ⟨K,0,none⟩),v,.int .i64 nest] w (jfa w K nest left len kid)):=ih
  have HWT:Hid (∀ i,i<len→(kid i).s.size≤1048576∧jlH (kid i).len (kid i).kid∧(kid i).set.length≤1048576):=fun i hi=>(hwt i hi).parts
  clear hbel hcnt hat ih hwt
  unfold maxLen at hlen
  have hpos:0<len:=by omega
  have hn0:(((nest:Int)+1)==0)=false:=by rw [beq_eq_false_iff_ne];omega
  by_cases h0:(left:Int)<len
  ·have HL:Hid (jbb (nest+1) left len kid=none):=by
    show (if left<len then none else _)=_
    rw [if_pos (by omega)]
   go_enter Tryz.func25,Tryz.ntmps25
   go_wp2_with fail
   go_ret
   exact ⟨by rw [HL.out];rfl,Fr.refl _ _,left,hleft,HCN.out,fun l' h=>by rw [HL.out] at h;cases h⟩
  ·have HL:Hid (jbb (nest+1) left len kid=jcQ (jbK nest) kid (left-len) len):=jgs nest left len kid (by omega)
   have hx:(left:Int)-len=((left-len:Nat):Int):=by omega
   have hx1:left-len≤1500:=by omega
   have HCS:Hid (CntX (w.setCell ⟨K,0,none⟩ (.int .i64 ((left-len:Nat):Int))) K (left-len)):=HCN.out.set (left-len)
   generalize left-len=lf at *
   go_enter Tryz.func25,Tryz.ntmps25
   go_wp2_with fail
   go_loopw [36] (fun i wr=>∃ k l:Nat,i=.int .i64 k∧k≤len∧jcQ (jbK nest) kid lf k=some l∧l≤1500∧CntX wr K l∧Fr [K] w wr) (fun i _=>len-(intOf i).toNat)
   case atStart=>exact ⟨0,lf,rfl,nzl _,rfl,hx1,HCS.out,joL w K _⟩
   case round =>
    obtain ⟨k,l,rfl,hk,hfold,hl,hcnt,hbel⟩:=hrel
    have HBL:Hid (Fr [K] w wr∧Gd w0 TB oT wr):=⟨hbel,HB.out.fr hoT hbel hK hTK⟩
    have HCT:Hid (CntX wr K l):=hcnt
    have HF:Hid (jcQ (jbK nest) kid lf k=some l):=hfold
    clear hbel hcnt hfold HCS HCN k0 kf
    by_cases hlt:(k:Int)<len
    ·have hlt':k<len:=by omega
     obtain ⟨b,o,su,u,hp,hd,hin⟩:=HC.out wr HBL.out.2 k hlt'
     subst hp
     obtain ⟨pu,cu,eu⟩:=hin.xs.shape
     obtain ⟨ps,cs,es⟩:=hin.sets.shape
     subst eu es
     obtain ⟨c0,c1,c2,c3,c4,c5⟩:=hd
     have HI:Hid (SrcL w0 TB oT (kid k).len (kid k).kid (.slice pu (kid k).len cu)∧SetB 0 w0 (.slice ps (kid k).set.length cs) (kid k).set):=⟨SrcL.of hin.xs,hin.sets⟩
     have HNX:Hid (jcQ (jbK nest) kid lf (k+1)=jbK nest (kid k) l):=by
      show (jcQ (jbK nest) kid lf k).bind _=_
      rw [HF.out];rfl
     have hK1:wr.cell? ⟨K,1,none⟩=some (.func (.func 23) #[] #[]):=crw wr K 1 _ _ _ HCT.out
     have hnb:=newx wr (.cells #[.int .i64 (kid k).op,.int .i64 (kid k).at_,.int .i64 (kid k).n,.string (kid k).s,.slice ps (kid k).set.length cs,.slice pu (kid k).len cu] 27)
     have hCn:CntX (wr.alloc (.cells #[.int .i64 (kid k).op,.int .i64 (kid k).at_,.int .i64 (kid k).n,.string (kid k).s,.slice ps (kid k).set.length cs,.slice pu (kid k).len cu] 27)) K l:=HCT.out.below hnb
     have HBn:Hid (Fr [K] w (wr.alloc (.cells #[.int .i64 (kid k).op,.int .i64 (kid k).at_,.int .i64 (kid k).n,.string (kid k).s,.slice ps (kid k).set.length cs,.slice pu (kid k).len cu] 27))∧Gd w0 TB oT (wr.alloc (.cells #[.int .i64 (kid k).op,.int .i64 (kid k).at_,.int .i64 (kid k).n,.string (kid k).s,.slice ps (kid k).set.length cs,.slice pu (kid k).len cu] 27))):=⟨HBL.out.1.trans (Fr.below hnb _),HBL.out.2.fr hoT (Fr.below hnb _) hK hTK⟩
     have kn0:(wr.alloc (.cells #[.int .i64 (kid k).op,.int .i64 (kid k).at_,.int .i64 (kid k).n,.string (kid k).s,.slice ps (kid k).set.length cs,.slice pu (kid k).len cu] 27)).cell? ⟨K,1,none⟩=some (.func (.func 23) #[] #[]):=crw _ K 1 _ _ _ hCn
     have HCn:Hid (CntX (wr.alloc (.cells #[.int .i64 (kid k).op,.int .i64 (kid k).at_,.int .i64 (kid k).n,.string (kid k).s,.slice ps (kid k).set.length cs,.slice pu (kid k).len cu] 27)) K l):=hCn
     have HKB:Hid (K<wr.heap.size):=HCT.out.lt
     have hKne:K≠wr.heap.size:=by have:=HKB.out;omega
     have HOn:Hid (Six (wr.alloc (.cells #[.int .i64 (kid k).op,.int .i64 (kid k).at_,.int .i64 (kid k).n,.string (kid k).s,.slice ps (kid k).set.length cs,.slice pu (kid k).len cu] 27)) wr.heap.size (kid k).op (kid k).at_ (kid k).n (kid k).s (.slice ps (kid k).set.length cs) (.slice pu (kid k).len cu) 27):=han wr _
     clear hin hCn hnb hK1 kn0 hKne HKB
     cases hfb:ja2 (kid k) with
     | false =>
      have HN:Hid (jbb (nest+1) left len kid=none):=HL.out.trans (jgm (HNX.out.trans (by unfold jbK;rw [hfb];rfl)) (by omega))
      have HFB:Hid (ja2 (kid k)=false):=hfb
      clear hfb
      go_upto_region 7 with fail
      generalize wr.alloc (.cells #[.int .i64 (kid k).op,.int .i64 (kid k).at_,.int .i64 (kid k).n,.string (kid k).s,.slice ps (kid k).set.length cs,.slice pu (kid k).len cu] 27)=W at *
      clear c0 c1 c2 c3 c4 c5
      generalize wr.heap.size=OB at *
      obtain ⟨q0,q1,q2,q3,q4,q5⟩:=HOn.out.cells
      have hone:=Later.one W
      have y0:=fun x:Later W=>x.cell q0
      have y1:=fun x:Later W=>x.cell q1
      have y2:=fun x:Later W=>x.cell q2
      have y3:=fun x:Later W=>x.cell q3
      have y4:=fun x:Later W=>x.cell q4
      have y5:=fun x:Later W=>x.cell q5
      have yk:=fun x:Later W=>x.cell (crw W K 1 _ _ _ HCn.out:W.cell? ⟨K,1,none⟩=some (.func (.func 23) #[] #[]))
      have HFX:Hid (∀ x:Later W,Calls Tryz.prog 23 #[.agg #[.int .i64 (kid k).op,.int .i64 (kid k).at_,.int .i64 (kid k).n,.string (kid k).s,.slice ps (kid k).set.length cs,.slice pu (kid k).len cu]] x.w fun e w'=>e=.returned (.bool false)∧Below x.w.heap.size x.w w'):=by
       intro x
       have h:=jgk (kid k) x.w ps pu cs cu (HWT.out k hlt').1 ((HI.out.2.rd.below HBn.out.2.bel).below x.le) (by have:=(HWT.out k hlt').2.2;omega)
       rw [HFB.out] at h
       exact h
      clear q0 q1 q2 q3 q4 q5
      refine jf5 (by kernel_rfl) (by kernel_rfl) ?_
      repeat (go_big_quiet_step ((go_at_call 23;refine jin (HFX.out _))))
      refine wpQuiet_nil ?_
      rintro _ ⟨x,rfl⟩
      have HX:Hid (Fr [K] w x.w∧CntX x.w K l):=⟨HBn.out.1.trans (Fr.below x.le _),HCn.out.below x.le⟩
      clear y0 y1 y2 y3 y4 y5 yk
      go_wp2_with fail
      go_ret
      exact ⟨by rw [HN.out];rfl,HX.out.1,l,hl,HX.out.2,fun l' h=>by rw [HN.out] at h;cases h⟩
     | true =>
      have HFB:Hid (ja2 (kid k)=true):=hfb
      have HON:Hid (jbK nest (kid k) l=jbb nest l (kid k).len (kid k).kid):=by show (if _ then _ else _)=_;rw [if_pos hfb]
      clear hfb
      go_upto_region 7 with fail
      generalize wr.alloc (.cells #[.int .i64 (kid k).op,.int .i64 (kid k).at_,.int .i64 (kid k).n,.string (kid k).s,.slice ps (kid k).set.length cs,.slice pu (kid k).len cu] 27)=W at *
      clear c0 c1 c2 c3 c4 c5
      generalize wr.heap.size=OB at *
      have hS0:=jdj HCn.out HOn.out
      have HFX:Hid (Calls Tryz.prog 23 #[.agg #[.int .i64 (kid k).op,.int .i64 (kid k).at_,.int .i64 (kid k).n,.string (kid k).s,.slice ps (kid k).set.length cs,.slice pu (kid k).len cu]] W.drew fun e w'=>e=.returned (.bool true)∧Below W.heap.size W w'):=by
       have h:=jgk (kid k) W.drew ps pu cs cu (HWT.out k hlt').1 ((HI.out.2.rd.below HBn.out.2.bel).below (brf _ _).drew) (by have:=(HWT.out k hlt').2.2;omega)
       rw [HFB.out] at h
       exact h.mono (fun _ _ h=>⟨h.1,⟨h.2.os,h.2.tape,h.2.output,h.2.size,h.2.block⟩⟩)
      generalize hRR:(jbb nest l (kid k).len (kid k).kid).isSome=RR at *
      have HIH:Hid (∀ (w2:World) (z:Int),z=(nest:Int)→Gd w0 TB oT w2→CntX w2 K l→Calls Tryz.prog 25 #[.pointer (some ⟨K,0,none⟩),.slice pu (kid k).len cu,.int .i64 z] w2 fun e w'=>e=.returned (.bool RR)∧Fr [K] w2 w'∧∃ l2,l2≤1500∧CntX w' K l2∧∀ l',jbb nest l (kid k).len (kid k).kid=some l'→l2=l'):=by
       intro w2 z hz h2 h3
       rw [←hRR,hz]
       exact IH.out l (kid k).len (kid k).kid _ w2 HI.out.1 h2 h3 hl (by omega) (HWT.out k hlt').2.1
      have HRR:Hid ((jbb nest l (kid k).len (kid k).kid).isSome=RR):=hRR
      have HOB:Hid (OB≠K):=by show OB≠K;intro e;have h1:=HOn.out;rw [e] at h1;have h2:W.heap[K]? = _:=h1;rw [HCn.out] at h2;injection h2 with h2;injection h2 with _ h2;exact absurd h2 (by decide)
      clear hRR
      go_cut [59] from 40 to 60 (fun z wx=>z=.bool (!RR)∧Fr [K] w wx∧∃ l2,l2≤1500∧CntX wx K l2∧∀ l',jbb nest l (kid k).len (kid k).kid=some l'→l2=l')
      case first =>
       go_region_held3 (fun w'=>w'.cell? ⟨K,1,none⟩=some (.func (.func 23) #[] #[])∧w'.cell? ⟨K,2,none⟩=some (.func (.func 24) #[] #[])∧w'.cell? ⟨OB,0,none⟩=some (.int .i64 (kid k).op)∧w'.cell? ⟨OB,1,none⟩=some (.int .i64 (kid k).at_)∧w'.cell? ⟨OB,2,none⟩=some (.int .i64 (kid k).n)∧w'.cell? ⟨OB,3,none⟩=some (.string (kid k).s)∧w'.cell? ⟨OB,4,none⟩=some (.slice ps (kid k).set.length cs)∧w'.cell? ⟨OB,5,none⟩=some (.slice pu (kid k).len cu))
        (first|go_keep|(with_reducible exact hS0)|(with_reducible exact hS1)|(with_reducible exact hS2)|(with_reducible exact hS3)) (first
        | (go_at_call 23;refine HFX.out.mono ?_;rintro e w1 ⟨rfl,hb1⟩;have HC1:Hid (CntX w1 K l):=HCn.out.below hb1;have HB1:Hid (Fr [K] w w1∧Gd w0 TB oT w1):=⟨HBn.out.1.trans (Fr.below hb1 _),HBn.out.2.fr hoT (Fr.below hb1 _) hK hTK⟩;have HO1:Hid (Six w1 OB (kid k).op (kid k).at_ (kid k).n (kid k).s (.slice ps (kid k).set.length cs) (.slice pu (kid k).len cu) 27):=HOn.out.below hb1;have hS1:=jdj HC1.out HO1.out;clear hb1)
        | (go_at_call 24;refine (jjT (kid k).op (kid k).at_ (kid k).n (kid k).s (.slice ps (kid k).set.length cs) (.slice pu (kid k).len cu) _).mono ?_;rintro e w2 ⟨rfl,hb2⟩;have HC2:Hid (CntX w2 K l):=HC1.out.below hb2;have HB2:Hid (Fr [K] w w2∧Gd w0 TB oT w2):=⟨HB1.out.1.trans (Fr.below hb2 _),HB1.out.2.fr hoT (Fr.below hb2 _) hK hTK⟩;have HO2:Hid (Six w2 OB (kid k).op (kid k).at_ (kid k).n (kid k).s (.slice ps (kid k).set.length cs) (.slice pu (kid k).len cu) 27):=HO1.out.below hb2;have hS2:=jdj HC2.out HO2.out;clear hb2)
        | (go_at_call 25;refine (HIH.out w2 _ ?_ HB2.out.2 HC2.out).mono ?_;(first|omega|(simp [IntKind.wrap_i64];done)|(simp only [IntKind.wrap_i64];omega));rintro e w3 ⟨rfl,hf3,hE⟩;have hS3:=jiK hE (jpO HO2.out hf3 HOB.out);have HE:Hid (Fr [K] w w3∧∃ l2,l2≤1500∧CntX w3 K l2∧∀ l',jbb nest l (kid k).len (kid k).kid=some l'→l2=l'):=And.intro (HB2.out.1.trans hf3) hE;clear hf3 hE))
       all_goals
        go_wp2_with fail
        go_meet
        exact ⟨rfl,HE.out.1,HE.out.2⟩
      case rest =>
      obtain ⟨rfl,hb2,l2,hl2,hc2,hlk⟩:=hcut
      cases hres:jbb nest l (kid k).len (kid k).kid with
      | none =>
       have hR0:RR=false:=by rw [←HRR.out,hres];rfl
       subst hR0
       have HN:Hid (jbb (nest+1) left len kid=none):=HL.out.trans (jgm (HNX.out.trans (HON.out.trans hres)) (by omega))
       have HB2:Hid (Fr [K] w wc):=hb2
       have HC2:Hid (CntX wc K l2):=hc2
       clear hb2 hc2 hlk hres
       simp only [Bool.not_false]
       go_wp2_with fail
       go_ret
       exact ⟨by rw [HN.out];rfl,HB2.out,l2,hl2,HC2.out,fun l' h=>by rw [HN.out] at h;cases h⟩
      | some l3 =>
       have hl3:=hlk l3 hres
       subst hl3
       have hR0:RR=true:=by rw [←HRR.out,hres];rfl
       subst hR0
       have HN:Hid (jcQ (jbK nest) kid lf (k+1)=some l2):=HNX.out.trans (HON.out.trans hres)
       have HB2:Hid (Fr [K] w wc):=hb2
       have HC2:Hid (CntX wc K l2):=hc2
       clear hb2 hc2 hlk hres
       simp only [Bool.not_true]
       go_wp2_with fail
       go_roundw
       case rel=>exact ⟨k+1,l2,by go_num,by omega,HN.out,hl2,HC2.out,HB2.out⟩
       case measure=>simp [intOf];omega
    ·have hke:k=len:=by omega
     have HN:Hid (jbb (nest+1) left len kid=some l):=HL.out.trans (by rw [←hke];exact HF.out)
     go_wp2_with fail
     go_ret
     exact ⟨by rw [HN.out];rfl,HBL.out.1,l,hl,HCT.out,fun l' h=>by rw [HN.out] at h;exact Option.some.inj h⟩
end Go.Proofs.YtjmlfacbcfbhdaaGreatDoor
