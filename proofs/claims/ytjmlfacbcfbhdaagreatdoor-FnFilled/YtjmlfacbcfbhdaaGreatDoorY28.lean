/- spec.l7Deep at every node. Condition: at most 2^20 of it. -/
import Derived.Test.YtjmlfacbcfbhdaaGreatDoorYA
import Derived.Test.YtjmlfacbcfbhdaaGreatDoorY26
import Derived.Test.YtjmlfacbcfbhdaaGreatDoorY27
import Derived.Test.YtjmlfacbcfbhdaaGreatDoorY10
import Derived.Test.YtjmlfacbcfbhdaaGreatDoorY21
set_option maxRecDepth 100000
set_option maxHeartbeats 8000000
namespace Go.Proofs.YtjmlfacbcfbhdaaGreatDoor
open Go.ChangeShapes Go.WideShapes Go.ChangeAt Go.RowKit
def Ask (w:World) (Q:Nat) (ok:Bool) (fuel room:Int):Prop:=w.heap[Q]? = some (.cells #[.bool ok,.int .i64 fuel,.int .i64 room] 51)
def IsSl (v:Value):Prop:=∃ p n c,v=.slice p n c
def jcz (w:World) (Q:Nat) (fuel room:Int) (m:Option FX) (e:Ending) (w':World):Prop:=But (fun k=>k=Q) w w'∧∃ x su u,e=.returned (.agg #[.int .i64 x.op,.int .i64 x.at_,.int .i64 x.n,.string x.s,su,u])∧IsSl su∧IsSl u ∧
 ((∃ r S,m=some r∧r.1=[x]∧Ask w' Q true (fuel-r.2.1) (room-r.2.2)∧(r.2.1:Int)≤fuel∧(r.2.2:Int)≤room∧XOwn w' x su u S∧S.Nodup∧∀ k∈S,w.heap.size≤k) ∨
  ((∃ f' m',Ask w' Q false f' m')∧∀ r,m=some r→fuel<r.2.1∨room<r.2.2))
def GW:G→Prop
 | .no=>True
 | .mk _ _ one len sm=>one.weight≤1048576∧∀ i,i<len→GW (sm i)
theorem GW.one {g:G} (h:GW g) (hn:g≠.no):g.one.weight≤1048576:=by
 cases g with
 | no=>exact absurd rfl hn
 | mk name deep one len sm=>unfold GW at h;exact h.1
theorem GW.some {g:G} (h:GW g) (hn:g≠.no):∀ i,i<g.len→GW (g.sm i):=by
 cases g with
 | no=>exact absurd rfl hn
 | mk name deep one len sm=>unfold GW at h;exact h.2
structure From (w0 w:World) (t:X) (su u:Value) (Q:Nat) (L:List G) (v:Value):Prop where
 at_:t.At 0 w0 su u
 bel:Below w0.heap.size w0 w
 lo:w0.heap.size≤Q
 gs:GsV w0 w Q L v
 wt:t.weight≤1048576
 ok:∀ g∈L,GW g
 few:L.length+t.count*2000000≤50000000000
theorem From.but {w0 w wx:World} {t:X} {su u v:Value} {Q:Nat} {L:List G} (h:From w0 w t su u Q L v) (hb:But (fun k=>k=Q) w wx):From w0 wx t su u Q L v :=
 ⟨h.at_,h.bel.trans (hb.below h.bel.size (fun k hk=>by have:=h.lo;omega)),h.lo,h.gs.but hb,h.wt,h.ok,h.few⟩
theorem From.st {w0 w:World} {t:X} {su u v:Value} {Q:Nat} {L:List G} (h:From w0 w t su u Q L v):∀ wx,But (fun k=>k=Q) w wx→t.At 0 wx su u∧GsAt wx L.length (fun i=>L.getD i .no) v:=fun _ hb =>
 ⟨X.At.below (h.but hb).bel h.at_,(h.but hb).gs.at (h.but hb).bel⟩
def jig (t:X):Prop:=∀ (w0:World) (L:List G) (w:World) (su u v:Value) (Q:Nat) (fuel room:Int),From w0 w t su u Q L v→Ask w Q true fuel room→0≤fuel→fuel≤4000→0≤room→room≤1500 →
 Calls Tryz.prog 21 #[.pointer (some ⟨Q,0,none⟩),.agg #[.int .i64 t.op,.int .i64 t.at_,.int .i64 t.n,.string t.s,su,u],v] w fun e w'=>jcz w Q fuel room (jaI t L) e w'
theorem jns {n:Int} (h0:-9223372036854775808≤n) (h1:n≤9223372036854775807):IntKind.i64.wrap n=n:=by rw [IntKind.wrap_i64];omega
theorem jiH (vs:Array Value) (w:World):(callFunc 48 vs).run Tryz.prog w=.ok (.enter 48 vs) w:=by kernel_rfl
theorem jdA (vs:Array Value) (w:World):(callFunc 21 vs).run Tryz.prog w=.ok (.enter 21 vs) w:=by kernel_rfl
theorem jfY (vs:Array Value) (w:World):(callFunc 77 vs).run Tryz.prog w=.ok (.enter 77 vs) w:=by kernel_rfl
theorem jdG (vs:Array Value) (w:World):(callFunc 47 vs).run Tryz.prog w=.ok (.enter 47 vs) w:=by kernel_rfl
theorem jei (t:X) (L:List G) (r:FX) (h:jaI t L=some r):1≤r.2.1:=by
 cases t with
 | no=>cases h
 | mk op a n s set len kid =>
  rw [jaI] at h
  split at h
  ·split at h
   ·split at h
    ·cases h
    ·injection h with h;subst h;exact nlr _
   ·split at h
    ·injection h with h;subst h;exact nlr _
    ·cases h
  ·split at h
   ·injection h with h;subst h;exact nlr _
   ·obtain ⟨ks,_,rfl⟩:=jar h
    simp only
    omega
theorem Ask.cells {w:World} {Q:Nat} {ok:Bool} {fuel room:Int} (h:Ask w Q ok fuel room):w.cell? ⟨Q,0,none⟩=some (.bool ok)∧w.cell? ⟨Q,1,none⟩=some (.int .i64 fuel)∧w.cell? ⟨Q,2,none⟩=some (.int .i64 room)∧∀ j,w.frozen? ⟨Q,j,none⟩=false:=⟨crw w _ 0 _ _ _ h,crw w _ 1 _ _ _ h,crw w _ 2 _ _ _ h,fun j=>fzr w _ j _ _ h⟩
theorem Ask.fuel {w:World} {Q:Nat} {ok:Bool} {fuel room:Int} (h:Ask w Q ok fuel room) (f:Int):Ask (w.setCell ⟨Q,1,none⟩ (.int .i64 f)) Q ok f room:=heap_setCell_same w Q 1 _ _ _ h
theorem Ask.stop {w:World} {Q:Nat} {ok:Bool} {fuel room:Int} (h:Ask w Q ok fuel room) (b:Bool):Ask (w.setCell ⟨Q,0,none⟩ (.bool b)) Q b fuel room:=heap_setCell_same w Q 0 _ _ _ h
theorem Ask.room {w:World} {Q:Nat} {ok:Bool} {fuel room:Int} (h:Ask w Q ok fuel room) (r:Int):Ask (w.setCell ⟨Q,2,none⟩ (.int .i64 r)) Q ok fuel r:=heap_setCell_same w Q 2 _ _ _ h
def jgI (w:World) (Q:Nat) (fuel room:Int) (m:Option FX) (e:Ending) (w':World):Prop:=But (fun k=>k=Q) w w'∧∃ kv,e=.returned kv∧IsSl kv ∧
 ((∃ r S,m=some r∧Ask w' Q true (fuel-r.2.1) (room-r.2.2)∧(r.2.1:Int)≤fuel∧(r.2.2:Int)≤room∧XsOwn w' r.1.length (fun i=>r.1.getD i .no) kv S∧S.Nodup∧(∀ k∈S,w.heap.size≤k)∧r.1.length≤4000) ∨
  ((∃ f' m',Ask w' Q false f' m')∧∀ r,m=some r→fuel<r.2.1∨room<r.2.2))
def jlF (t:X):Prop:=∀ (w0:World) (L:List G) (w:World) (su u v:Value) (Q:Nat) (fuel room:Int),From w0 w t su u Q L v→Ask w Q true fuel room→0≤fuel→fuel≤4000→0≤room→room≤1500 →
 Calls Tryz.prog 48 #[.pointer (some ⟨Q,0,none⟩),.agg #[.int .i64 t.op,.int .i64 t.at_,.int .i64 t.n,.string t.s,su,u],v] w fun e w'=>jgI w Q fuel room (jcC t.kid (fun i L=>jaI (t.kid i) L) L t.len t.len 0) e w'
theorem FX.assoc (a b c:FX):(a.join b).join c=a.join (b.join c):=by simp [FX.join,Nat.add_assoc]
theorem FX.join_nil (a:FX):a.join ([],0,0)=a:=by simp [FX.join]
def remF (t:X) (L:List G) (i:Nat):Option FX:=jcC t.kid (fun i L=>jaI (t.kid i) L) L t.len (t.len-i) i
theorem jdn (t:X) (L:List G) {i:Nat} (h:t.len≤i):remF t L i=some ([],0,0):=by
 unfold remF;rw [show t.len-i=0 from by omega];rfl
theorem jc9 {t:X} {L:List G} {i:Nat} (h:i<t.len) (hd:jan (t.kid i)=true):remF t L i=none:=by
 obtain ⟨k,hk⟩:∃ k,t.len-i=k+1:=⟨t.len-i-1,by omega⟩
 unfold remF
 rw [hk]
 cases k with
 | zero=>simp only [jcC];rw [if_pos hd]
 | succ k=>simp only [jcC];rw [if_pos hd]
theorem je4 {t:X} {L:List G} {i:Nat} (h:i<t.len) (hd:jan (t.kid i)=false) (hn:¬ (i+1<t.len∧jan (t.kid (i+1))=true)):remF t L i=(jaI (t.kid i) L).bind fun a=>(remF t L (i+1)).map fun b=>a.join b:=by
 obtain ⟨k,hk⟩:∃ k,t.len-i=k+1:=⟨t.len-i-1,by omega⟩
 unfold remF
 rw [hk,show t.len-(i+1)=k from by omega]
 cases k with
 | zero=>simp only [jcC];rw [if_neg (by simp [hd]),if_neg hn]
 | succ k=>simp only [jcC];rw [if_neg (by simp [hd]),if_neg hn]
def jcO (t:X) (L:List G) (i:Nat):Option FX:=if jaq L (jam (t.kid i)) (-1)<0 then none else jaV (fun k=>jaI (t.kid i) (jaA L k (jam (t.kid i))++L)) (jaq L (jam (t.kid i)) (-1)).toNat
theorem jdo {t:X} {L:List G} {i:Nat} (hd:jan (t.kid i)=false) (hn:i+1<t.len) (hd2:jan (t.kid (i+1))=true):remF t L i=(jcO t L i).bind fun a=>(remF t L (i+2)).map fun b=>a.join b:=by
 obtain ⟨k,hk⟩:∃ k,t.len-i=k+1+1:=⟨t.len-i-2,by omega⟩
 unfold remF jcO
 rw [hk,show t.len-(i+2)=k from by omega]
 simp only [jcC]
 rw [if_neg (by simp [hd]),if_pos ⟨hn,hd2⟩]
theorem jji {f:Nat→Option FX} {n k:Nat} {r:FX} (h:jaV f n=some r) (hk:k<n):∃ a b c,jaV f k=some a∧f k=some b∧r=(a.join b).join c:=by
 induction n generalizing r with
 | zero=>omega
 | succ n ih =>
  simp only [jaV] at h
  obtain ⟨a,ha,h⟩:=bind_some h
  obtain ⟨b,hb,rfl⟩:=jar h
  rcases Nat.lt_or_ge k n with h1|h1
  ·obtain ⟨a',b',c',e1,e2,rfl⟩:=ih ha h1
   exact ⟨a',b',c'.join b,e1,e2,by rw [FX.assoc]⟩
  ·obtain rfl:k=n:=by omega
   exact ⟨a,b,([],0,0),ha,hb,by rw [FX.join_nil]⟩
theorem jjj {f:Nat→Option FX} {k:Nat} {a b:FX} (ha:jaV f k=some a) (hb:f k=some b):jaV f (k+1)=some (a.join b):=by
 simp only [jaV,ha,hb,Option.bind_some,Option.map_some]
theorem jbt {P:Program} {ops:Array Oper} {o:Oper} {a:Act} {w:World} {K:Act→World→Prop} {Q:Exit→Act→World→Prop} {E:Prop} (hgd:o.guard=none) (f:FuncId) (x y z:Operand) (t u s:TypeId)
  (ho:o.op=.call {callee:=.value (.func f),args:=#[x,y,z],argTypes:=#[t,u,s]}) (hcf:∀ (vs:Array Value) (w:World),(callFunc f vs).run P w=.ok (.enter f vs) w) (vx vy vz:Value) (hx:a.eval x=vx) (hy:a.eval y=vy) (hz:a.eval z=vz) (R:Ending→World→Prop) (hc:Calls P f #[vx,vy,vz] w R)
  (h:∀ e w',R e w'→∃ v,e=.returned v∧K (a.put o.dst v) w'):if Region.wanted o (yielded ops a.tmps)=true then Oper.wp P o a w K Q else E:=by
 have hw:Region.wanted o (yielded ops a.tmps)=true:=by simp [Region.wanted,hgd]
 rw [if_pos hw]
 have hrun:(execOp a.eval o).run P w=.ok (.enter f #[vx,vy,vz]) w:=by
  have e:execOp a.eval o=callFunc f (#[]++#[x,y,z].map a.eval++#[]):=by
   obtain ⟨dst,op,ty,pos,after,guard⟩:=o
   simp only at ho
   subst ho
   rfl
  rw [e,hcf]
  simp [hx,hy,hz]
 unfold Oper.wp
 rw [hrun,Oper.upon_enter]
 refine hc.mono fun e w' hr=>?_
 obtain ⟨v,rfl,hk⟩:=h e w' hr
 exact hk
theorem jjR (b:Bool) (w:World):Calls Tryz.prog 98 #[.bool b] w fun e w'=>e=.returned (.int .i64 (if b=true then 1 else 0))∧w'=w:=by
 go_enter Tryz.func98,Tryz.ntmps98
 cases b
 ·go_wp2
  go_ret
  exact ⟨rfl,rfl⟩
 ·go_wp2
  go_ret
  exact ⟨rfl,rfl⟩
def joQ (t:X):Prop:=∀ (w:World) (su u:Value) (nm:ByteArray),t.At 0 w su u→t.weight≤1048576→Calls Tryz.prog 84 #[.agg #[.int .i64 t.op,.int .i64 t.at_,.int .i64 t.n,.string t.s,su,u],.string nm] w fun e w'=>e=.returned (.int .i64 (ja9 t nm))∧Below w.heap.size w w'
theorem jlc (t:X):joQ t:=by
 induction t with
 | no=>intro w su u nm h;exact h.elim
 | mk op a n s set len kid ih =>
  intro w su u nm hin hwt
  obtain ⟨p,cap,e1,hl2,hat⟩:=hin.xs.at
  obtain ⟨qs,cs,e2⟩:=hin.sets.shape
  simp only [X.op,X.at_,X.n,X.s,X.len,X.set,X.kid] at e1 e2 hat hl2 ⊢
  have hwe:(X.mk op a n s set len kid).weight=s.size+(set.length+(len+sumX (fun i=>(kid i).weight) len)):=rfl
  have hlen:len≤1048576:=by omega
  have HAT:Hid (∀ i,i<len→∃ b o sv u,p=some ⟨b,o,none⟩∧Head6 w b (o+i*6) (kid i) sv u∧(kid i).At 0 w sv u):=hat
  have hkw:∀ i,i<len→(kid i).weight≤1048576:=fun i hi=>by
   have h1:=jbo (fun i=>(kid i).weight) i len hi
   omega
  have IH:Hid (∀ i,i<len→∀ (w:World) (su u:Value),(kid i).At 0 w su u→Calls Tryz.prog 84 #[.agg #[.int .i64 (kid i).op,.int .i64 (kid i).at_,.int .i64 (kid i).n,.string (kid i).s,su,u],.string nm] w fun e w'=>e=.returned (.int .i64 (ja9 (kid i) nm))∧Below w.heap.size w w'):=fun i hi w su u h=>ih i w su u nm h (hkw i hi)
  have HLE:Hid (∀ i,i<len→ja9 (kid i) nm≤1048576∧-1≤ja9 (kid i) nm):=fun i hi=>by
   have h1:=jjr (kid i) nm
   have h2:=(kid i).count_weight
   have h3:=hkw i hi
   exact ⟨by omega,jnH _ _⟩
  subst e1 e2
  obtain ⟨res,hres⟩:∃ r,r=ja9 (.mk op a n s set len kid) nm:=⟨_,rfl⟩
  rw [←hres]
  have HRES:Hid (res=if ((op==2)&&(s.toList==nm.toList))=true then 0 else jb8 (fun i=>if 0≤ja9 (kid i) nm then jal len kid (ja9 (kid i) nm) i else -1) len):=by show _=_;rw [hres,ja9]
  obtain ⟨W,hW⟩:∃ W,W=w.alloc (.cells #[.int .i64 op,.int .i64 a,.int .i64 n,.string s,.slice qs set.length cs,.slice p len cap] 27):=⟨_,rfl⟩
  obtain ⟨C,hC⟩:∃ C,C=w.heap.size:=⟨_,rfl⟩
  have KW:Hid (∀ wx,Below W.heap.size W wx→Below w.heap.size w wx∧Six wx C op a n s (.slice qs set.length cs) (.slice p len cap) 27):=by
   have nb:Below w.heap.size w W:=by rw [hW];exact newx w _
   have h6:Six W C op a n s (.slice qs set.length cs) (.slice p len cap) 27:=by rw [hW,hC];exact han w _
   exact fun wx hx=>⟨nb.trans (hx.mono nb.size),h6.below hx⟩
  clear hin ih hat hres hwt hwe hkw
  generalize set.length=sl at *
  obtain ⟨x0,x1,x2,x3,x4,x5⟩:=(KW.out W (brf _ _)).2.cells
  rw [hW,hC] at x0 x1 x2 x3 x4 x5
  have HSY:∀ y,((op==2)&&(s.toList==nm.toList))=y→Hid (((op==2)&&(s.toList==nm.toList))=y):=fun _ h=>h
  go_enter Tryz.func84,Tryz.ntmps84
  by_cases hsym:((op==2)&&(s.toList==nm.toList))=true
  ·have HE:Hid (res=0):=by show _=_;rw [HRES.out,if_pos hsym]
   rw [Bool.and_eq_true] at hsym
   have t1:(op==2)=true:=hsym.1
   have t2:(s.toList==nm.toList)=true:=hsym.2
   clear hsym HSY
   go_wp2_with fail
   rw [←hW]
   go_ret
   exact ⟨by rw [HE.out];rfl,(KW.out W (brf _ _)).1⟩
  ·have HE:Hid (res=jb8 (fun i=>if 0≤ja9 (kid i) nm then jal len kid (ja9 (kid i) nm) i else -1) len):=by show _=_;rw [HRES.out,if_neg hsym]
   have hor:(op==2)=false∨((op==2)=true∧(s.toList==nm.toList)=false):=by
    cases h1:(op==2)
    ·exact .inl rfl
    ·cases h2:(s.toList==nm.toList)
     ·exact .inr ⟨rfl,rfl⟩
     ·rw [h1,h2] at hsym;exact absurd rfl hsym
   clear hsym HSY
   rcases hor with t1|⟨t1,t2⟩
   all_goals
    go_wp2_with fail
    rw [←hW,←hC]
    clear hW hC x0 x1 x2 x3 x4 x5
    go_loopw [6] (fun i wr=>∃ k:Nat,i=.int .i64 k∧k≤len∧(∀ j,j<k→ja9 (kid j) nm = -1)∧Below W.heap.size W wr) (fun i _=>len-(intOf i).toNat)
    case atStart=>exact ⟨0,rfl,nzl _,fun j hj=>absurd hj (Nat.not_lt_zero _),brf _ _⟩
    case round =>
     obtain ⟨k,rfl,hk,hall,hbel⟩:=hrel
     have HB:Hid (Below W.heap.size W wr):=hbel
     have HALL:Hid (∀ j,j<k→ja9 (kid j) nm = -1):=hall
     clear hbel hall
     obtain ⟨x0,x1,x2,x3,x4,x5⟩:=(KW.out wr HB.out).2.cells
     by_cases hlt:(k:Int)<len
     ·have hk':k<len:=by omega
      obtain ⟨b,o,sk,uk,hp,hd,hink⟩:=HAT.out k hk'
      subst hp
      have HKID:Hid (∀ wx,Below W.heap.size W wx→Head6 wx b (o+k*6) (kid k) sk uk∧(kid k).At 0 wx sk uk):=fun wx hx=>⟨hd.below (KW.out wx hx).1,hink.below (KW.out wx hx).1⟩
      have HAT2:Hid (∀ i,i<len→∃ sv u,∀ wx,Below W.heap.size W wx→Head6 wx b (o+i*6) (kid i) sv u):=fun i hi=>by
       obtain ⟨b',o',sj,uj,hp',hdj,hinj⟩:=HAT.out i hi
       simp only [Option.some.injEq,Addr.mk.injEq,and_true] at hp'
       obtain ⟨rfl,rfl⟩:=hp'
       exact ⟨sj,uj,fun wx hx=>hdj.below (KW.out wx hx).1⟩
      obtain ⟨c0,c1,c2,c3,c4,c5⟩:=(HKID.out wr HB.out).1
      clear hd hink
      go_wp2_with fail
      refine (IH.out k hk' _ sk uk (HKID.out _ HB.out).2).mono ?_
      rintro e w1 ⟨rfl,hb1⟩
      have HB1:Hid (Below W.heap.size W w1):=HB.out.trans (hb1.mono HB.out.size)
      clear hb1 c0 c1 c2 c3 c4 c5 x0 x1 x2 x3 x4 x5 HB
      obtain ⟨x0,x1,x2,x3,x4,x5⟩:=(KW.out w1 HB1.out).2.cells
      obtain ⟨hd1,hd2⟩:=HLE.out k hk'
      obtain ⟨d,hd⟩:∃ d,d=ja9 (kid k) nm:=⟨_,rfl⟩
      have HD:Hid (d=ja9 (kid k) nm):=hd
      rw [←hd] at hd1 hd2 ⊢
      clear hd
      by_cases hd0:0≤d
      ·have HF:Hid (res=jal len kid d k):=by
        show _=_
        rw [HE.out,jhC (j:=k) hk' (fun j hj=>by rw [HALL.out j hj];simp) (fun j hj=>by rw [HALL.out j hj];simp)]
        ·rw [←HD.out,if_pos hd0]
        ·rw [←HD.out,if_pos hd0]
         have:=jdi len kid d k
         omega
       by_cases he:k+2=len
       ·have t3:((k:Int)==(len:Int)-2)=true:=by rw [beq_iff_eq];omega
        obtain ⟨sj,uj,hdj⟩:=HAT2.out (k+1) (by omega)
        obtain ⟨f0,f1,f2,f3,f4,f5⟩:=hdj w1 HB1.out
        have HFK:Hid (jal len kid d k=if jan (kid (k+1))=true then d+1 else d):=by
         show _=_
         unfold jal jaJ
         rw [show len-1=k+1 by omega]
         cases jan (kid (k+1))
         ·rw [if_neg (by simp)];rfl
         ·rw [if_pos (show (k:Int)=if 2≤len∧true=true then (len:Int)-2 else -1 by rw [if_pos ⟨by omega,rfl⟩];omega)];rfl
        clear hdj
        subst he
        go_wp2_with fail
        refine (jbz (kid (k+1)) sj uj w1).mono ?_
        rintro e w2 ⟨rfl,hb2⟩
        have HBV:Hid (Below W.heap.size W w2):=HB1.out.trans (hb2.mono HB1.out.size)
        clear hb2 x0 x1 x2 x3 x4 x5 f0 f1 f2 f3 f4 f5
        cases hdt:jan (kid (k+1))
        all_goals
         have HFL:=HF.out
         rw [HFK.out,hdt] at HFL
         have HFM:=jaa HFL
         clear HFL
         go_wp2_with fail
         refine (jjR _ w2).mono ?_
         rintro e w3 ⟨rfl,rfl⟩
         go_wp2_with fail
         go_ret
         exact ⟨by rw [HFM.out];simp,(KW.out _ HBV.out).1⟩
       ·have t3:((k:Int)==(len:Int)-2)=false:=by rw [beq_eq_false_iff_ne];omega
        have HFK:Hid (jal len kid d k=d):=by
         show _=_
         unfold jal jaJ
         rw [if_neg]
         split
         ·omega
         ·omega
        go_wp2_with fail
        refine (jjR _ w1).mono ?_
        rintro e w3 ⟨rfl,rfl⟩
        go_wp2_with fail
        go_ret
        exact ⟨by rw [HF.out,HFK.out];simp,(KW.out _ HB1.out).1⟩
      ·have hdm:d = -1:=by omega
       have HG:Hid (∀ j,j<k+1→ja9 (kid j) nm = -1):=fun j hj=>by
        by_cases hjk:j=k
        ·subst hjk;rw [←HD.out];exact hdm
        ·exact HALL.out j (by omega)
       go_wp2_with fail
       go_roundw
       case rel=>first|exact ⟨k+1,by go_num,by omega,HG.out,HB1.out⟩|((repeat apply Exists.intro);exact ⟨⟨k+1,by go_num,by omega,HG.out,HB1.out⟩,rfl⟩)
       case measure=>simp [intOf];omega
     ·have hke:k=len:=by omega
      subst hke
      have HE2:Hid (res = -1):=by show _=_;rw [HE.out];exact jdB (fun j hj=>by rw [HALL.out j hj];simp) (fun j hj=>by rw [HALL.out j hj];simp)
      go_wp2_with fail
      go_ret
      exact ⟨by rw [HE2.out];rfl,(KW.out wr HB.out).1⟩
end Go.Proofs.YtjmlfacbcfbhdaaGreatDoor
