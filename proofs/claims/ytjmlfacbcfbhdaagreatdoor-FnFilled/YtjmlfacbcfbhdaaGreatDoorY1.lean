/- Data whose rows are a call's own, each in a block of its own. No conditions. -/
import Derived.Test.YtjmlfacbcfbhdaaGreatDoorYA
import Derived.Test.YtjmlfacbcfbhdaaGreatDoorY0
import Derived.Test.YtjmlfacbcfbhdaaGreatDoorRows
import Derived.Deep.QuietTactic
import Derived.BigQuiet
import Derived.WalkSpells
import Derived.WalkSmall
import Derived.OwnWalk
import Derived.Laws.OwnMore
import Derived.Laws.ResultCell
set_option maxRecDepth 100000
set_option maxHeartbeats 8000000
namespace Go.Proofs.YtjmlfacbcfbhdaaGreatDoor
open Go.ChangeShapes Go.WideShapes Go.ChangeAt Go.RowKit
theorem jaK (c:Nat) (a:Option Addr) (len cap:Nat) (n:Int) (hn:n≤9223372036854775807) (w:World) (hc:CurAt c a len cap w) :
  Calls Tryz.prog 15 #[.pointer (some ⟨c,0,none⟩),.int .i64 n] w fun e w'=>(∃ x:Int,0≤x∧(n≤0→x=0)∧(0<n→x<n)∧e=.returned (.int .i64 x))∧Ext c w w'∧CurAt c a len cap w':=by
 by_cases h0:n≤0
 ·go_enter Tryz.func15,Tryz.ntmps15
  go_wp2
  go_ret
  exact ⟨⟨0,by omega,fun _=>rfl,fun h=>by omega,rfl⟩,Ext.refl _ _,hc⟩
 by_cases h1:n≤256
 ·go_enter Tryz.func15,Tryz.ntmps15
  go_wp2_with fail
  refine (jcn c a len cap _ hc).mono ?_
  rintro e w1 ⟨⟨x,x0,x1,rfl⟩,hx,hcur⟩
  have hz:¬ n=0:=by omega
  have hz2:(n==0)=false:=by simp;omega
  go_wp2
  go_ret
  exact ⟨⟨_,Int.emod_nonneg _ (by omega),fun h=>by omega,fun h=>Int.emod_lt_of_pos _ h,rfl⟩,hx,hcur⟩
 ·go_enter Tryz.func15,Tryz.ntmps15
  go_wp2_with fail
  refine (jcn c a len cap _ hc).mono ?_
  rintro e w1 ⟨⟨x,x0,x1,rfl⟩,hx,hcur⟩
  go_wp2_with fail
  refine (jcn c a len cap _ hcur).mono ?_
  rintro e w2 ⟨⟨y,y0,y1,rfl⟩,hy,hcur2⟩
  go_wp2_with fail
  refine (jcn c a len cap _ hcur2).mono ?_
  rintro e w3 ⟨⟨z,z0,z1,rfl⟩,hz,hcur3⟩
  go_wp2_with fail
  refine (jcn c a len cap _ hcur3).mono ?_
  rintro e w4 ⟨⟨u,u0,u1,rfl⟩,hu,hcur4⟩
  have hz2:(n==0)=false:=by simp;omega
  go_wp2
  go_ret
  exact ⟨⟨_,Int.emod_nonneg _ (by omega),fun h=>by omega,fun h=>Int.emod_lt_of_pos _ h,rfl⟩,((hx.trans hy).trans hz).trans hu,hcur4⟩
theorem jgY {α:Type} {l:List α} {k:Nat} (h:k<l.length) (d:α):l.getD k d∈l:=by
 rw [lgd,lgg h,Option.getD_some]
 exact List.getElem_mem _
def jlE (b:Nat) (zs:List Int) (w:World):Prop:=∀ j,j<zs.length→w.cell? ⟨b,j,none⟩=some (.int .i64 (zs.getD j 0))
def jik (b:Nat) (ss:List ByteArray) (w:World):Prop:=∀ j,j<ss.length→w.cell? ⟨b,j,none⟩=some (.string (ss.getD j ⟨#[]⟩))
theorem jdS (c:Nat) (a:Option Addr) (len cap:Nat) (b:Nat) (zs:List Int) (w:World) (hc:CurAt c a len cap w) (hbc:b≠c) (m:Nat) (hm:zs.length=m) (h1:0<m) (h2:m≤256) (hz:jlE b zs w) :
  Calls Tryz.prog 61 #[.pointer (some ⟨c,0,none⟩),.slice (some ⟨b,0,none⟩) m m] w fun e w'=>(∃ z∈zs,e=.returned (.int .i64 z))∧Ext c w w'∧CurAt c a len cap w':=by
 have HL:Hid (zs.length=m):=hm
 clear hm
 go_enter Tryz.func61,Tryz.ntmps61
 go_wp2_with fail
 refine (jaK c a len cap (m:Int) (by omega) _ hc).mono ?_
 rintro e w1 ⟨⟨x,x0,_,x1,rfl⟩,hx,hcur⟩
 have hxm:=x1 (by omega)
 have hcell:w1.cell? ⟨b,x.toNat,none⟩=some (.int .i64 (zs.getD x.toNat 0)):=by
  have:=hz x.toNat (by rw [HL.out];omega)
  rw [ja6 (hx.block b (jgO this) hbc)]
  exact this
 clear x1
 go_wp2
 go_ret
 refine ⟨⟨zs.getD x.toNat 0,?_,rfl⟩,hx,hcur⟩
 have hlt:x.toNat<zs.length:=by rw [HL.out];omega
 exact jgY hlt _
theorem jco (c:Nat) (a:Option Addr) (len cap:Nat) (b:Nat) (ss:List ByteArray) (w:World) (hc:CurAt c a len cap w) (hbc:b≠c) (m:Nat) (hm:ss.length=m) (h1:0<m) (h2:m≤256) (hz:jik b ss w) :
  Calls Tryz.prog 28 #[.pointer (some ⟨c,0,none⟩),.slice (some ⟨b,0,none⟩) m m] w fun e w'=>(∃ s∈ss,e=.returned (.string s))∧Ext c w w'∧CurAt c a len cap w':=by
 have HL:Hid (ss.length=m):=hm
 clear hm
 go_enter Tryz.func28,Tryz.ntmps28
 go_wp2_with fail
 refine (jaK c a len cap (m:Int) (by omega) _ hc).mono ?_
 rintro e w1 ⟨⟨x,x0,_,x1,rfl⟩,hx,hcur⟩
 have hxm:=x1 (by omega)
 have hcell:w1.cell? ⟨b,x.toNat,none⟩=some (.string (ss.getD x.toNat ⟨#[]⟩)):=by
  have:=hz x.toNat (by rw [HL.out];omega)
  rw [ja6 (hx.block b (jgO this) hbc)]
  exact this
 clear x1
 go_wp2
 go_ret
 refine ⟨⟨ss.getD x.toNat ⟨#[]⟩,?_,rfl⟩,hx,hcur⟩
 have hlt:x.toNat<ss.length:=by rw [HL.out];omega
 exact jgY hlt _
theorem jml (a:Option Addr) (len cap:Nat) (w:World) (hc:CodeOk a len w.heap.size w) :
  Calls Tryz.prog 10 #[.slice a len cap] w fun e w'=>e=.returned (.pointer (some ⟨w.heap.size,0,none⟩))∧Below w.heap.size w w'∧CurAt w.heap.size a len cap w'∧w'.heap.size=w.heap.size+1:=by
 have HC:Hid (CodeOk a len w.heap.size w):=hc
 obtain ⟨hl,hk⟩:=hc
 go_enter Tryz.func10,Tryz.ntmps10
 go_wp2
 go_loop [3,4] (fun h i=>∃ (k:Nat) (x:Int),k≤len∧i=.int .i64 k∧h=.int .i64 x) (fun _ i=>len-(intOf i).toNat)
 case atStart=>exact ⟨0,_,nzl _,rfl,rfl⟩
 case round =>
  obtain ⟨k,x,hkl,rfl,rfl⟩:=hrel
  by_cases hlt:(k:Int)<len
  ·by_cases h4:(k:Int)<4000
   ·rcases hk with h|⟨b,off,rfl,hb,hz⟩
    ·omega
    obtain ⟨z,z0,z1,hcz⟩:=hz k (by omega)
    clear hz
    go_wp2
    exact ⟨⟨k+1,_,by omega,by go_num,rfl⟩,by simp [intOf];omega⟩
   ·have h5:decide ((k:Int)<4000)=false:=by simpa using h4
    go_wp2
    go_ret
    have hB:=(brf w.heap.size w).alloc (nlr _) (.cells #[.slice a len cap,.int .i64 0,.int .i64 x] 62)
    exact ⟨rfl,hB,⟨HC.out.keep fun k hk _=>hB.block k hk,0,x,by omega,(MapKept.heap_alloc w _).1⟩,by simp⟩
  ·go_wp2
   go_ret
   have hB:=(brf w.heap.size w).alloc (nlr _) (.cells #[.slice a len cap,.int .i64 0,.int .i64 x] 62)
   exact ⟨rfl,hB,⟨HC.out.keep fun k hk _=>hB.block k hk,0,x,by omega,(MapKept.heap_alloc w _).1⟩,by simp⟩
theorem jiA (xs:List Int) (v:Value) (w:World) (hv:Rd w v xs) (hl:xs.length≤4194304) :
  Calls Tryz.prog 82 #[v,.int .i64 0] w fun e w'=>e=.returned (.bool (setB xs))∧w'=w:=by
 obtain ⟨a,cap,rfl,hc⟩:=hv.shape
 have HC:Hid (∀ j,j<xs.length→∃ b off,a=some ⟨b,off,none⟩∧w.cell? ⟨b,off+j,none⟩=some (.int .i64 (xs.getD j 0))):=hc
 clear hc hv
 obtain ⟨m,hm⟩:∃ m,m=xs.length:=⟨_,rfl⟩
 rw [←hm] at HC hl ⊢
 have HM:Hid (m=xs.length):=hm
 clear hm
 go_enter Tryz.func82,Tryz.ntmps82
 go_wp2
 go_loop [9] (fun i=>∃ k:Nat,k≤m∧i=.int .i64 k∧(∀ j,j<k→jay xs j=true)) (fun i=>m-(intOf i).toNat)
 case atStart=>exact ⟨0,by omega,rfl,fun j hj=>by omega⟩
 case round =>
  obtain ⟨k,hk,rfl,hno⟩:=hrel
  have HNO:Hid (∀ j,j<k→jay xs j=true):=hno
  clear hno
  have hup:∀ (b:Bool),jay xs k=b→b=true→∀ j,j<k+1→jay xs j=true:=by
   intro b h1 h2 j hj
   by_cases hjk:j=k
   ·subst hjk;rw [h1,h2]
   ·exact HNO.out j (by omega)
  have HUP:Hid (∀ (b:Bool),jay xs k=b→b=true→∀ j,j<k+1→jay xs j=true):=hup
  clear hup
  by_cases hlt:(k:Int)<m
  ·have HK:Hid (k<xs.length):=by show k<_;rw [←HM.out];omega
   obtain ⟨b,off,rfl,hcell⟩:=HC.out k (by omega)
   generalize hx:xs.getD k 0=x at hcell
   have HX:Hid (xs.getD k 0=x):=hx
   clear hx
   by_cases h0:x<0
   ·have d0:decide (x<0)=true:=by simpa using h0
    go_wp2
    go_ret
    have hs:jay xs k=false:=by unfold jay;rw [HX.out];simp;omega
    rw [jjP k HK.out hs]
    exact ⟨rfl,rfl⟩
   ·have d0:decide (x<0)=false:=by simpa using h0
    by_cases hk0:0<k
    ·have dk:decide (0<k)=true:=by simpa using hk0
     obtain ⟨b',off',hbb,hcell2⟩:=HC.out (k-1) (by omega)
     simp only [Option.some.injEq,Addr.mk.injEq,and_true] at hbb
     obtain ⟨rfl,rfl⟩:=hbb
     generalize hy:xs.getD (k-1) 0=y at hcell2
     have HY:Hid (xs.getD (k-1) 0=y):=hy
     clear hy
     have hs:jay xs k=decide (y<x):=by
      unfold jay;rw [HX.out,HY.out,dqt (by omega:0≤x),dqf (by omega:¬ k=0)];simp
     have HS:Hid (jay xs k=decide (y<x)):=hs
     clear hs
     have e1:(((k:Int)-1).toNat)=k-1:=by omega
     by_cases hyx:x≤y
     ·go_wp2
      go_ret
      rw [jjP k HK.out (by rw [HS.out];simp;omega)]
      exact ⟨rfl,rfl⟩
     ·have d1:decide (x≤y)=false:=by simpa using hyx
      go_wp2
      go_round
      case rel=>exact ⟨k+1,by omega,by go_num,HUP.out _ HS.out (by simp;omega)⟩
      case measure=>simp [intOf];omega
    ·have dk:decide (0<k)=false:=by simpa using hk0
     have hs:jay xs k=true:=by
      unfold jay;rw [HX.out,dqt (by omega:0≤x),dqt (by omega:k=0)];rfl
     have HS:Hid (jay xs k=true):=hs
     clear hs
     go_wp2
     go_round
     case rel=>exact ⟨k+1,by omega,by go_num,HUP.out _ HS.out rfl⟩
     case measure=>simp [intOf];omega
  ·go_wp2
   go_ret
   have hke:k=m:=by omega
   subst hke
   rw [jm0 (fun i hi=>HNO.out i (by rw [HM.out];exact hi))]
   exact ⟨rfl,rfl⟩
theorem jkv (xs:List Int) (v:Value) (w:World) (hv:Rd w v xs) (hl:xs.length≤4194304) :
  Calls Tryz.prog 53 #[v] w fun e w'=>e=.returned (.bool (setB xs))∧w'=w:=by
 go_enter Tryz.func53,Tryz.ntmps53
 go_wp2_with fail
 refine (jiA xs v w hv hl).mono ?_
 rintro e w1 ⟨rfl,hw1⟩
 subst hw1
 go_wp2
 go_ret
 exact ⟨rfl,rfl⟩
theorem jcB (xs:List Int) (v:Value) (w:World) (hv:Rd w v xs) (hl:xs.length≤4194304) :
  Calls Tryz.prog 41 #[v] w fun e w'=>∃ u,e=.returned u∧Below w.heap.size w w'∧Own w' w.heap.size u xs:=by
 obtain ⟨a,cap,rfl,hc⟩:=hv.shape
 have HC:Hid (∀ j,j<xs.length→∃ b off,a=some ⟨b,off,none⟩∧w.cell? ⟨b,off+j,none⟩=some (.int .i64 (xs.getD j 0))):=hc
 clear hc hv
 obtain ⟨m,hm⟩:∃ m,m=xs.length:=⟨_,rfl⟩
 rw [←hm] at HC hl ⊢
 have HM:Hid (m=xs.length):=hm
 clear hm
 obtain ⟨Z,hZ,hZl⟩:=jmq m
 have hrun:=run_make_row' (P:=Tryz.prog) 85 3 (.int .i64 0) 8 Tryz.underlying85 jca rfl .i64 .i64 m (by omega) (by omega) w
 rw [hZ] at hrun
 obtain ⟨X,hX⟩:∃ X,X=xs.map (Value.int .i64):=⟨_,rfl⟩
 have HX:Hid (X=xs.map (Value.int .i64)):=hX
 have HZ:Hid (Z.length=m∧X.length=m):=⟨hZl,by rw [hX,List.length_map,HM.out]⟩
 have HXC:Hid (∀ v∈X,v.oneCell'=true):=by show ∀ v∈X,_;rw [hX];exact jaN xs
 have HP:Hid (∀ w2:World,Below w.heap.size w w2→0<X.length→∃ ad,a=some ad∧∀ j v,X[j]? = some v→w2.cell? (ad.add j)=some v):=by
  intro w2 hb h0
  rw [HZ.out.2] at h0
  obtain ⟨b,off,rfl,_⟩:=HC.out 0 h0
  refine ⟨_,rfl,fun j u hu=>?_⟩
  have hj:j<m:=by rw [←HZ.out.2];exact (List.getElem?_eq_some_iff.1 hu).1
  obtain ⟨b',off',he,hcell⟩:=HC.out j hj
  simp only [Option.some.injEq,Addr.mk.injEq,and_true] at he
  obtain ⟨rfl,rfl⟩:=he
  rw [Addr.add_lit,cell_later hb hcell]
  rw [hX] at hu
  rw [HM.out] at hj
  rw [jgX xs j hj]
  simpa [List.getElem?_eq_getElem hj] using hu
 clear hZ hZl hX
 go_enter Tryz.func41,Tryz.ntmps41
 go_wp2_with (refine wpList_copy_splice rfl (.tmp 7) (.tmp 8) 85 85 rfl 3 Tryz.underlying85 (by kernel_rfl) (some ⟨w.heap.size,0,none⟩) a m m m cap rfl rfl w.heap.size 0 Z 3 (han w _) X (by rw [HZ.out.2];simp) (fun h0=>⟨rfl,HP.out _ (jbx w _) h0⟩) (by rw [HZ.out.1,HZ.out.2];omega) HXC.out w.heap.size w (jbx w _) (nlr _) ?_;intro w2 hg2 hb2)
 go_ret
 refine ⟨_,rfl,hb2,?_⟩
 have h:=hg2.out
 rw [jli (by rw [HZ.out.1,HZ.out.2]),HX.out] at h
 have:=job (base:=w.heap.size) h (nlr _) (by rw [←HM.out];unfold maxLen;omega)
 rw [←HM.out] at this
 exact this
theorem jfK (w:World) (x:Value) (t:TypeId):∀ ad,some (⟨w.heap.size,0,none⟩:Addr)=some ad→∀ j u,[x][j]? = some u→(w.alloc (.cells #[x] t)).cell? (ad.add j)=some u:=by
 intro ad h j u hu
 obtain rfl:=Option.some.inj h
 match j,hu with
 | 0,hu =>
  simp at hu
  subst hu
  rw [Addr.add_lit,crw _ _ _ _ _ _ (han w (.cells #[x] t))]
  rfl
theorem je2 {B:Nat} {w wr w1:World} {r0 v':Value} {L:List Int} {x:Int} {t:TypeId} (h:Own wr B r0 L) (hb:Below B w wr) (hB:B≤wr.heap.size)
  (h1:w1.ownsRow B 3 1 v' (L.length+1) (L.map (Value.int .i64)++[.int .i64 x])) (hg:(wr.alloc (.cells #[.int .i64 x] t)).grownBy w1 r0.ownBlock):Own w1 B v' (L++[x])∧Below B w w1:=by
 refine ⟨?_,?_⟩
 ·unfold Own
  rw [lla,List.length_singleton,List.map_append]
  exact h1
 ·exact (hb.alloc hB _).grown hg (by simp;omega) (fun k hk=>(h.lt k hk).1)
theorem jhj (xs:List Int) (v:Value) (n:Int) (w:World) (hv:Rd w v xs) (hl:xs.length≤4194304) :
  Calls Tryz.prog 87 #[v,.int .i64 n] w fun e w'=>e=.returned (.bool (hasB xs n))∧w'=w:=by
 obtain ⟨a,cap,rfl,hc⟩:=hv.shape
 have HC:Hid (∀ j,j<xs.length→∃ b off,a=some ⟨b,off,none⟩∧w.cell? ⟨b,off+j,none⟩=some (.int .i64 (xs.getD j 0))):=hc
 clear hc hv
 obtain ⟨m,hm⟩:∃ m,m=xs.length:=⟨_,rfl⟩
 rw [←hm] at HC hl ⊢
 have HM:Hid (m=xs.length):=hm
 clear hm
 go_enter Tryz.func87,Tryz.ntmps87
 go_wp2
 go_loop [5] (fun i=>∃ k:Nat,k≤m∧i=.int .i64 k∧∀ j,j<k→(xs.getD j 0==n)=false) (fun i=>m-(intOf i).toNat)
 case atStart=>exact ⟨0,by omega,rfl,fun j hj=>by omega⟩
 case round =>
  obtain ⟨k,hk,rfl,hno⟩:=hrel
  have HNO:Hid (∀ j,j<k→(xs.getD j 0==n)=false):=hno
  clear hno
  by_cases hlt:(k:Int)<m
  ·obtain ⟨b,off,rfl,hcell⟩:=HC.out k (by omega)
   generalize hx:xs.getD k 0=x at hcell
   have HX:Hid (xs.getD k 0=x):=hx
   clear hx
   cases he:(x==n)
   ·go_wp2
    go_round
    case rel =>
     refine ⟨k+1,by omega,by go_num,fun j hj=>?_⟩
     by_cases hjk:j=k
     ·subst hjk;rw [HX.out];exact he
     ·exact HNO.out j (by omega)
    case measure=>simp [intOf];omega
   ·go_wp2
    go_ret
    have hh:k<xs.length:=by rw [←HM.out];omega
    rw [jo2 k hh (by rw [HX.out];exact he)]
    exact ⟨rfl,rfl⟩
  ·go_wp2
   go_ret
   have hke:k=m:=by omega
   subst hke
   rw [jpH (fun i hi=>HNO.out i (by rw [HM.out];exact hi))]
   exact ⟨rfl,rfl⟩
theorem jle (xs:List Int) (v:Value) (w:World) (hv:Rd w v xs) (hl:xs.length≤4194304) :
  Calls Tryz.prog 72 #[v] w fun e w'=>e=.returned (.bool (setB xs))∧Below w.heap.size w w':=by
 obtain ⟨a,cap,rfl,hc⟩:=hv.shape
 have HC:Hid (∀ j,j<xs.length→∃ b off,a=some ⟨b,off,none⟩∧w.cell? ⟨b,off+j,none⟩=some (.int .i64 (xs.getD j 0))):=hc
 clear hc hv
 obtain ⟨m,hm⟩:∃ m,m=xs.length:=⟨_,rfl⟩
 rw [←hm] at HC hl ⊢
 have HM:Hid (m=xs.length):=hm
 clear hm
 go_enter Tryz.func72,Tryz.ntmps72
 go_wp2
 go_loopw [3] (fun i wr=>∃ k:Nat,k≤m∧i=.int .i64 k∧(∀ j,j<k→jay xs j=true)∧Below w.heap.size w wr) (fun i _=>m-(intOf i).toNat)
 case atStart=>exact ⟨0,by omega,rfl,fun j hj=>by omega,brf _ _⟩
 case round =>
  obtain ⟨k,hk,rfl,hno,hb⟩:=hrel
  have HNO:Hid (∀ j,j<k→jay xs j=true):=hno
  have HB:Hid (Below w.heap.size w wr):=hb
  clear hno hb
  have hup:∀ (b:Bool),jay xs k=b→b=true→∀ j,j<k+1→jay xs j=true:=by
   intro b h1 h2 j hj
   by_cases hjk:j=k
   ·subst hjk;rw [h1,h2]
   ·exact HNO.out j (by omega)
  have HUP:Hid (∀ (b:Bool),jay xs k=b→b=true→∀ j,j<k+1→jay xs j=true):=hup
  clear hup
  by_cases hlt:(k:Int)<m
  ·have HK:Hid (k<xs.length):=by show k<_;rw [←HM.out];omega
   obtain ⟨b,off,rfl,hcell⟩:=HC.out k (by omega)
   generalize hx:xs.getD k 0=x at hcell
   have HX:Hid (xs.getD k 0=x):=hx
   clear hx
   have hcell1:=cell_later HB.out hcell
   clear hcell
   by_cases h0:x<0
   ·have d0:decide (x<0)=true:=by simpa using h0
    go_wp2_with fail
    go_quiet (fail)
    go_wp2
    go_ret
    have hs:jay xs k=false:=by unfold jay;rw [HX.out];simp;omega
    rw [jjP k HK.out hs]
    exact ⟨rfl,below_drewN HB.out _⟩
   ·have d0:decide (x<0)=false:=by simpa using h0
    by_cases hk0:0<k
    ·have dk:decide (0<k)=true:=by simpa using hk0
     obtain ⟨b',off',hbb,hcell⟩:=HC.out (k-1) (by omega)
     simp only [Option.some.injEq,Addr.mk.injEq,and_true] at hbb
     obtain ⟨rfl,rfl⟩:=hbb
     generalize hy:xs.getD (k-1) 0=y at hcell
     have HY:Hid (xs.getD (k-1) 0=y):=hy
     clear hy
     have hcell2:=cell_later HB.out hcell
     clear hcell
     have hs:jay xs k=decide (y<x):=by
      unfold jay;rw [HX.out,HY.out,dqt (by omega:0≤x),dqf (by omega:¬ k=0)];simp
     have HS:Hid (jay xs k=decide (y<x)):=hs
     clear hs
     have e1:(((k:Int)-1).toNat)=k-1:=by omega
     by_cases hyx:x≤y
     ·go_wp2_with fail
      go_quiet (fail)
      go_wp2
      go_ret
      rw [jjP k HK.out (by rw [HS.out];simp;omega)]
      exact ⟨rfl,below_drewN HB.out _⟩
     ·have d1:decide (x≤y)=false:=by simpa using hyx
      go_wp2_with fail
      go_quiet (fail)
      go_wp2
      go_roundw
      case rel=>exact ⟨k+1,by omega,by go_num,HUP.out _ HS.out (by simp;omega),below_drewN HB.out _⟩
      case measure=>simp [intOf];omega
    ·have dk:decide (0<k)=false:=by simpa using hk0
     have hs:jay xs k=true:=by
      unfold jay;rw [HX.out,dqt (by omega:0≤x),dqt (by omega:k=0)];rfl
     have HS:Hid (jay xs k=true):=hs
     clear hs
     go_wp2_with fail
     go_quiet (fail)
     go_wp2
     go_roundw
     case rel=>exact ⟨k+1,by omega,by go_num,HUP.out _ HS.out rfl,below_drewN HB.out _⟩
     case measure=>simp [intOf];omega
  ·go_wp2
   go_ret
   have hke:k=m:=by omega
   subst hke
   rw [jm0 (fun i hi=>HNO.out i (by rw [HM.out];exact hi))]
   exact ⟨rfl,HB.out⟩
theorem jeu (w:World) (B:Nat) (hB:B≤w.heap.size):Own (w.alloc (.cells #[] 3)) B (.slice (some ⟨w.heap.size,0,none⟩) 0 0) [] :=
 World.ownsRow_lit w #[] 0 hB (nzl _) rfl
theorem jcE {B:Nat} {w wr w1:World} {r0 v':Value} {L M:List Int} (h:Own wr B r0 L) (hb:Below B w wr) (hB:B≤wr.heap.size)
  (h1:w1.ownsRow B 3 1 v' (L.length+M.length) (L.map (Value.int .i64)++M.map (Value.int .i64))) (hg:wr.grownBy w1 r0.ownBlock):Own w1 B v' (L++M)∧Below B w w1:=by
 refine ⟨?_,?_⟩
 ·unfold Own
  rw [lla,List.map_append]
  exact h1
 ·exact hb.grown hg hB (fun k hk=>(h.lt k hk).1)
theorem Rd.src {w:World} {a:Option Addr} {m cap:Nat} {xs:List Int} (h:Rd w (.slice a m cap) xs):(a=none→m=0∧cap=0)∧∀ ad,a=some ad→∀ j u,(xs.map (Value.int .i64))[j]? = some u→w.cell? (ad.add j)=some u:=by
 rcases h with ⟨h,rfl⟩|⟨b,off,cap',h,_,hc⟩
 ·simp only [Value.slice.injEq] at h
  obtain ⟨rfl,rfl,rfl⟩:=h
  exact ⟨fun _=>⟨rfl,rfl⟩,fun ad h=>by cases h⟩
 ·simp only [Value.slice.injEq] at h
  obtain ⟨rfl,rfl,rfl⟩:=h
  refine ⟨fun h=>(by cases h),fun ad h j u hu=>?_⟩
  obtain rfl:=Option.some.inj h
  have hj:j<xs.length:=by
   have:=(List.getElem?_eq_some_iff.1 hu).1
   simpa using this
  rw [Addr.add_lit,hc j hj,jgX xs j hj]
  simpa [List.getElem?_eq_getElem hj] using hu
theorem jhl (xs:List Int) (n:Int) (v:Value) (w:World) (hv:Rd w v xs) (hl:xs.length≤4194304) (hh:hasB xs n=true) :
  Calls Tryz.prog 59 #[v,.int .i64 n] w fun e w'=>∃ u,e=.returned u∧Below w.heap.size w w'∧Own w' w.heap.size u (jeF xs n):=by
 have HH:=jhj xs v n w hv hl
 rw [hh] at HH
 obtain ⟨a,cap,rfl,-⟩:=hv.shape
 have hs:=(hv.below (jbx w (.cells #[] 3))).src
 have HS:Hid ((a=none→xs.length=0∧cap=0)∧∀ ad,a=some ad→∀ j u,(xs.map (Value.int .i64))[j]? = some u→(w.alloc (.cells #[] 3)).cell? (ad.add j)=some u):=hs
 have HW:Hid (jeF xs n=xs):=joA hh
 clear hs hh hv
 obtain ⟨i0,hi,hz0,hz1,hz2⟩:=info_parts jca
 go_enter Tryz.func59,Tryz.ntmps59
 go_wp2_with fail
 refine HH.mono ?_
 rintro e w1 ⟨rfl,hw1⟩
 subst w1
 go_wp2_with (at_builtin;refine jaj _ rfl (.tmp 10) (.tmp 11) 24 rfl w.heap.size 3 i0 (.int .i64 0) 1 8 Tryz.underlying24 hi hz0 hz1 hz2 rfl (by decide) (.slice (some ⟨w.heap.size,0,none⟩) 0 0) 0 [] rfl (jeu w w.heap.size (nlr _)) a xs.length cap (xs.map (Value.int .i64)) rfl (by simp) HS.out.1 HS.out.2 (jaN xs) (by unfold maxLen;omega) (by omega) (by simp) ?_;intro v' w2 hown2 hg2)
 have R:=jcE (M:=xs) (jeu w w.heap.size (nlr _)) (jbx w _) (by simp) hown2.out hg2.out
 have HR:Hid (Own w2 w.heap.size v' ([]++xs)∧Below w.heap.size w w2):=R
 clear R hown2 hg2
 go_ret
 exact ⟨_,rfl,HR.out.2,by rw [HW.out];exact HR.out.1⟩
theorem jhk (n:Int) (w:World) :
  Calls Tryz.prog 59 #[.slice none 0 0,.int .i64 n] w fun e w'=>∃ u,e=.returned u∧Below w.heap.size w w'∧Own w' w.heap.size u [n]:=by
 have HH:=jhj [] (.slice none 0 0) n w (.inl ⟨rfl,rfl⟩) (by simp)
 rw [show hasB [] n=false from rfl] at HH
 obtain ⟨i0,hi,hz0,hz1,hz2⟩:=info_parts jca
 have HO1:Hid (Own (w.alloc (.cells #[] 3)) w.heap.size (.slice (some ⟨w.heap.size,0,none⟩) 0 0) []):=jeu w w.heap.size (nlr _)
 go_enter Tryz.func59,Tryz.ntmps59
 go_wp2_with fail
 refine HH.mono ?_
 rintro e w1 ⟨rfl,hw1⟩
 subst w1
 go_wp2_with fail
 go_loop [5] (fun i=>i=.int .i64 0) (fun _=>0)
 case atStart=>rfl
 case round =>
  obtain rfl:=hrel
  go_wp2_with (first|(at_builtin;refine jaj _ rfl (.tmp 27) (.tmp 30) 24 rfl w.heap.size 3 i0 (.int .i64 0) 1 8 Tryz.underlying24 hi hz0 hz1 hz2 rfl (by decide) (.slice (some ⟨w.heap.size,0,none⟩) 0 0) 0 [] rfl HO1.out none 0 0 [] rfl rfl (by simp) (fun ad h=>by cases h) (by simp) (by unfold maxLen;omega) (by omega) (by simp) ?_;intro v2 w2 hown2 hg2;have R:=jcE (M:=[]) HO1.out (jbx w _) (by simp) hown2.out hg2.out;have HR:Hid (Own w2 w.heap.size v2 []∧Below w.heap.size w w2):=R;clear R hown2 hg2)|(at_builtin;refine jaj _ rfl (.tmp 32) (.tmp 34) 24 rfl w.heap.size 3 i0 (.int .i64 0) 1 8 Tryz.underlying24 hi hz0 hz1 hz2 rfl (by decide) v2 0 [] rfl (World.ownsRow.alloc HR.out.1 _) (some ⟨w2.heap.size,0,none⟩) 1 1 [.int .i64 n] rfl rfl (by simp) (jfK w2 _ _) (by simp [Value.oneCell']) (by unfold maxLen;omega) (by omega) (by have:=HR.out.2.size;simp;omega) ?_;intro v3 w3 hown3 hg3;have R3:=je2 HR.out.1 HR.out.2 HR.out.2.size hown3.out hg3.out;have HR3:Hid (Own w3 w.heap.size v3 [n]∧Below w.heap.size w w3):=R3;clear R3 hown3 hg3)|(at_builtin;refine jaj _ rfl (.tmp 36) (.tmp 39) 24 rfl w.heap.size 3 i0 (.int .i64 0) 1 8 Tryz.underlying24 hi hz0 hz1 hz2 rfl (by decide) v3 1 [.int .i64 n] rfl HR3.out.1 none 0 0 [] rfl rfl (by simp) (fun ad h=>by cases h) (by simp) (by unfold maxLen;omega) (by omega) HR3.out.2.size ?_;intro v4 w4 hown4 hg4;have R4:=jcE (M:=[]) HR3.out.1 HR3.out.2 HR3.out.2.size hown4.out hg4.out;have HR4:Hid (Own w4 w.heap.size v4 [n]∧Below w.heap.size w w4):=R4;clear R4 hown4 hg4))
  go_ret
  exact ⟨_,rfl,HR4.out.2,HR4.out.1⟩
theorem jnL {w:World} {b off cap p:Nat} {xs:List Int} (hl:xs.length≤cap) (hc:∀ j,j<xs.length→w.cell? ⟨b,off+j,none⟩=some (.int .i64 (xs.getD j 0))) {ao:Option Addr} (hao:¬ cap=p→ao=some ⟨b,off+p,none⟩) :
  ∀ ad,ao=some ad→∀ j u,((xs.drop p).map (Value.int .i64))[j]? = some u→w.cell? (ad.add j)=some u :=
 cells_from rfl hl hc hao
theorem jh5 (xs:List Int) (n:Int) (b off cap:Nat) (w:World) (hv:Rd w (.slice (some ⟨b,off,none⟩) xs.length cap) xs) (hl:xs.length≤4194304) (hh:hasB xs n=false) :
  Calls Tryz.prog 59 #[.slice (some ⟨b,off,none⟩) xs.length cap,.int .i64 n] w fun e w'=>∃ u,e=.returned u∧Below w.heap.size w w'∧Own w' w.heap.size u (jeF xs n):=by
 have HH:=jhj xs _ n w hv hl
 rw [hh] at HH
 have hcap:xs.length≤cap:=by
  rcases hv with ⟨h,_⟩|⟨b',off',cap',h,hl,_⟩
  ·simp at h
  ·simp only [Value.slice.injEq,true_and] at h;rw [h.2];exact hl
 have hc:∀ j,j<xs.length→w.cell? ⟨b,off+j,none⟩=some (.int .i64 (xs.getD j 0)):=by
  rcases hv with ⟨h,_⟩|⟨b',off',cap',h,_,hc⟩
  ·simp at h
  ·simp only [Value.slice.injEq,Option.some.injEq,Addr.mk.injEq,and_true,true_and] at h
   obtain ⟨⟨rfl,rfl⟩,_⟩:=h
   exact hc
 have HC:Hid (∀ j,j<xs.length→w.cell? ⟨b,off+j,none⟩=some (.int .i64 (xs.getD j 0))):=hc
 have HW:Hid (jeF xs n=xs.take (jce xs n)++n::xs.drop (jce xs n)):=jpy hh
 clear hc hv hh
 obtain ⟨m,hm⟩:∃ m,m=xs.length:=⟨_,rfl⟩
 rw [←hm] at hl hcap HH ⊢
 have HM:Hid (m=xs.length):=hm
 clear hm
 obtain ⟨i0,hi,hz0,hz1,hz2⟩:=info_parts jca
 go_enter Tryz.func59,Tryz.ntmps59
 go_wp2_with fail
 refine HH.mono ?_
 rintro e w1 ⟨rfl,hw1⟩
 subst w1
 go_wp2_with fail
 go_loop [5] (fun i=>∃ k:Nat,k≤m∧i=.int .i64 k∧∀ j,j<k→xs.getD j 0<n) (fun i=>m-(intOf i).toNat)
 case atStart=>exact ⟨0,by omega,rfl,fun j hj=>by omega⟩
 case round =>
  obtain ⟨k,hk,rfl,hno⟩:=hrel
  have HNO:Hid (∀ j,j<k→xs.getD j 0<n):=hno
  clear hno
  by_cases hgo:∃ h:k<m,xs.getD k 0<n
  ·obtain ⟨hlt,hx⟩:=hgo
   have hcell:=HC.out k (by rw [←HM.out];exact hlt)
   have HX:Hid (xs.getD k 0<n):=hx
   generalize xs.getD k 0=x at hcell hx
   have d1:decide (k<m)=true:=by simpa using hlt
   go_wp2
   go_round
   case rel =>
    refine ⟨k+1,by omega,by go_num,fun j hj=>?_⟩
    by_cases hjk:j=k
    ·subst hjk;exact HX.out
    ·exact HNO.out j (by omega)
   case measure=>simp [intOf];omega
  ·have HP:Hid (jce xs n=k):=jod xs n k (by rw [←HM.out];exact hk) HNO.out (fun h hx=>hgo ⟨by rw [HM.out];exact h,hx⟩)
   have HO1:Hid (Own (w.alloc (.cells #[] 3)) w.heap.size (.slice (some ⟨w.heap.size,0,none⟩) 0 0) []):=jeu w w.heap.size (nlr _)
   have HCB:Hid (∀ w2:World,Below w.heap.size w w2→∀ j,j<xs.length→w2.cell? ⟨b,off+j,none⟩=some (.int .i64 (xs.getD j 0))):=fun w2 hb j hj=>cell_later hb (HC.out j hj)
   have HS1:Hid (∀ w2:World,Below w.heap.size w w2→∀ ad,some (⟨b,off,none⟩:Addr)=some ad→∀ j u,((xs.take k).map (Value.int .i64))[j]? = some u→w2.cell? (ad.add j)=some u):=by
    intro w2 hb ad h j u hu
    obtain rfl:=Option.some.inj h
    have hj:j<k∧j<xs.length:=by
     have:=(List.getElem?_eq_some_iff.1 hu).1
     simpa [Nat.lt_min] using this
    rw [Addr.add_lit,HCB.out w2 hb j hj.2,jgX xs j hj.2]
    simpa [List.getElem?_take,hj.1,List.getElem?_eq_getElem hj.2] using hu
   have HL:Hid ((xs.take k).length=k∧(xs.drop k).length=m-k):=by
    have:=HM.out
    exact ⟨by rw [List.length_take];omega,by rw [List.length_drop];omega⟩
   have HT:Hid (jeF xs n=(xs.take k++[n])++xs.drop k):=by show _=_;rw [HW.out,HP.out];simp
   have HS2:Hid (∀ w2:World,Below w.heap.size w w2→∀ ao:Option Addr,(¬ cap=k→ao=some ⟨b,off+k,none⟩)→∀ ad,ao=some ad→∀ j u,((xs.drop k).map (Value.int .i64))[j]? = some u→w2.cell? (ad.add j)=some u):=fun w2 hb ao hao=>jnL (by rw [←HM.out];exact hcap) (HCB.out w2 hb) hao
   obtain ⟨T,hT⟩:∃ T,T=xs.take k:=⟨_,rfl⟩
   obtain ⟨D,hD⟩:∃ D,D=xs.drop k:=⟨_,rfl⟩
   rw [←hT] at HS1 HL HT
   rw [←hD] at HS2 HL HT
   clear hT hD HCB HW
   have d0:∀ x:Int,xs.getD k 0=x→k<m→decide (x<n)=false:=by
    intro x hx hkm
    rw [decide_eq_false_iff_not]
    intro h
    exact hgo ⟨hkm,by rw [hx];exact h⟩
   by_cases hkm:k<m
   ·have hcell:=HC.out k (by rw [←HM.out];exact hkm)
    generalize hx:xs.getD k 0=x at hcell
    have d2:=d0 x hx hkm
    have d1:decide (k<m)=true:=by simpa using hkm
    clear d0 hx hgo
    go_wp2_with (first|(at_builtin;(refine jaj _ rfl (.tmp 27) (.tmp 30) 24 rfl w.heap.size 3 i0 (.int .i64 0) 1 8 Tryz.underlying24 hi hz0 hz1 hz2 rfl (by decide) (.slice (some ⟨w.heap.size,0,none⟩) 0 0) 0 [] rfl HO1.out (some ⟨b,off,none⟩) k cap (T.map (Value.int .i64)) rfl (by rw [List.length_map,HL.out.1,Nat.mul_one]) (fun h=>by cases h) (HS1.out _ (jbx w _)) (jaN T) (by unfold maxLen;omega) (by omega) (by simp) ?_);intro v2 w2 hown2 hg2;rw [←HL.out.1] at hown2;have R:=jcE (M:=T) HO1.out (jbx w _) (by simp) hown2.out hg2.out;have HR:Hid (Own w2 w.heap.size v2 T∧Below w.heap.size w w2):=R;clear R hown2 hg2)|(at_builtin;(refine jaj _ rfl (.tmp 32) (.tmp 34) 24 rfl w.heap.size 3 i0 (.int .i64 0) 1 8 Tryz.underlying24 hi hz0 hz1 hz2 rfl (by decide) v2 T.length (T.map (Value.int .i64)) rfl (World.ownsRow.alloc HR.out.1 _) (some ⟨w2.heap.size,0,none⟩) 1 1 [.int .i64 n] rfl rfl (by simp) (jfK w2 _ _) (by simp [Value.oneCell']) (by rw [HL.out.1];unfold maxLen;omega) (by rw [HL.out.1];omega) (by have:=HR.out.2.size;simp;omega) ?_);intro v3 w3 hown3 hg3;have R3:=je2 HR.out.1 HR.out.2 HR.out.2.size hown3.out hg3.out;have HR3:Hid (Own w3 w.heap.size v3 (T++[n])∧Below w.heap.size w w3):=R3;clear R3 hown3 hg3)|(at_builtin;(refine jaj _ rfl (.tmp 36) (.tmp 39) 24 rfl w.heap.size 3 i0 (.int .i64 0) 1 8 Tryz.underlying24 hi hz0 hz1 hz2 rfl (by decide) v3 (T++[n]).length ((T++[n]).map (Value.int .i64)) rfl HR3.out.1 _ (m-k) (cap-k) (D.map (Value.int .i64)) rfl (by rw [List.length_map,HL.out.2,Nat.mul_one]) (by intro h;first|cases h|(split at h <;> cases h)) (HS2.out _ HR3.out.2 _ (by intro h;first|rfl|simp [h])) (jaN D) (by rw [List.length_append,HL.out.1];unfold maxLen;simp;omega) (by rw [List.length_append,HL.out.1];simp;omega) HR3.out.2.size ?_);intro v4 w4 hown4 hg4;rw [←HL.out.2] at hown4;have R4:=jcE (M:=D) HR3.out.1 HR3.out.2 HR3.out.2.size hown4.out hg4.out;have HR4:Hid (Own w4 w.heap.size v4 ((T++[n])++D)∧Below w.heap.size w w4):=R4;clear R4 hown4 hg4))
    go_ret
    exact ⟨_,rfl,HR4.out.2,by rw [HT.out];exact HR4.out.1⟩
   ·have hke:k=m:=by omega
    subst hke
    have d1:decide (k<k)=false:=by simp
    have HD:Hid (D.length=k-k):=HL.out.2
    clear d0 hgo
    go_wp2_with (first|(at_builtin;(refine jaj _ rfl (.tmp 27) (.tmp 30) 24 rfl w.heap.size 3 i0 (.int .i64 0) 1 8 Tryz.underlying24 hi hz0 hz1 hz2 rfl (by decide) (.slice (some ⟨w.heap.size,0,none⟩) 0 0) 0 [] rfl HO1.out (some ⟨b,off,none⟩) k cap (T.map (Value.int .i64)) rfl (by rw [List.length_map,HL.out.1,Nat.mul_one]) (fun h=>by cases h) (HS1.out _ (jbx w _)) (jaN T) (by unfold maxLen;omega) (by omega) (by simp) ?_);intro v2 w2 hown2 hg2;rw [←HL.out.1] at hown2;have R:=jcE (M:=T) HO1.out (jbx w _) (by simp) hown2.out hg2.out;have HR:Hid (Own w2 w.heap.size v2 T∧Below w.heap.size w w2):=R;clear R hown2 hg2)|(at_builtin;(refine jaj _ rfl (.tmp 32) (.tmp 34) 24 rfl w.heap.size 3 i0 (.int .i64 0) 1 8 Tryz.underlying24 hi hz0 hz1 hz2 rfl (by decide) v2 T.length (T.map (Value.int .i64)) rfl (World.ownsRow.alloc HR.out.1 _) (some ⟨w2.heap.size,0,none⟩) 1 1 [.int .i64 n] rfl rfl (by simp) (jfK w2 _ _) (by simp [Value.oneCell']) (by rw [HL.out.1];unfold maxLen;omega) (by rw [HL.out.1];omega) (by have:=HR.out.2.size;simp;omega) ?_);intro v3 w3 hown3 hg3;have R3:=je2 HR.out.1 HR.out.2 HR.out.2.size hown3.out hg3.out;have HR3:Hid (Own w3 w.heap.size v3 (T++[n])∧Below w.heap.size w w3):=R3;clear R3 hown3 hg3)|(at_builtin;(refine jaj _ rfl (.tmp 36) (.tmp 39) 24 rfl w.heap.size 3 i0 (.int .i64 0) 1 8 Tryz.underlying24 hi hz0 hz1 hz2 rfl (by decide) v3 (T++[n]).length ((T++[n]).map (Value.int .i64)) rfl HR3.out.1 _ 0 (cap-k) (D.map (Value.int .i64)) rfl (by rw [List.length_map,HL.out.2];simp) (by intro h;first|cases h|(split at h <;> cases h)) (HS2.out _ HR3.out.2 _ (by intro h;first|rfl|simp [h])) (jaN D) (by rw [List.length_append,HL.out.1];unfold maxLen;simp;omega) (by rw [List.length_append,HL.out.1];simp;omega) HR3.out.2.size ?_);intro v4 w4 hown4 hg4;rw [show 0=D.length from by rw [HD.out];omega] at hown4;have R4:=jcE (M:=D) HR3.out.1 HR3.out.2 HR3.out.2.size hown4.out hg4.out;have HR4:Hid (Own w4 w.heap.size v4 ((T++[n])++D)∧Below w.heap.size w w4):=R4;clear R4 hown4 hg4))
    all_goals
     go_ret
     exact ⟨_,rfl,HR4.out.2,by rw [HT.out];exact HR4.out.1⟩
theorem jm8 (xs:List Int) (n:Int) (v:Value) (w:World) (hv:Rd w v xs) (hl:xs.length≤4194304) :
  Calls Tryz.prog 59 #[v,.int .i64 n] w fun e w'=>∃ u,e=.returned u∧Below w.heap.size w w'∧Own w' w.heap.size u (jeF xs n):=by
 cases hh:hasB xs n with
 | true=>exact jhl xs n v w hv hl hh
 | false =>
  have hv':=hv
  rcases hv with ⟨rfl,rfl⟩|⟨b,off,cap,rfl,_⟩
  ·exact jhk n w
  ·exact jh5 xs n b off cap w hv' hl hh
theorem CurAt.alloc' {c:Nat} {a:Option Addr} {len cap:Nat} {w:World} (h:CurAt c a len cap w) (o:Obj):CurAt c a len cap (w.alloc o) :=
 h.keep (d:=w.heap.size) ((Ext.refl _ w).alloc o) h.lt
theorem CurAt.below' {c:Nat} {a:Option Addr} {len cap:Nat} {w w':World} (h:CurAt c a len cap w) (hb:Below w.heap.size w w'):CurAt c a len cap w' :=
 h.keep (d:=w.heap.size) (Ext.of_below hb (nlr _)) h.lt
theorem CurAt.keepB {c:Nat} {a:Option Addr} {len cap:Nat} {w w':World} (h:CurAt c a len cap w) (hb:∀ k,k≤c→w'.heap[k]? = w.heap[k]?):CurAt c a len cap w':=by
 obtain ⟨hc,i,hh,h0,hk⟩:=h
 exact ⟨hc.keep fun k hk _=>hb k (by omega),i,hh,h0,by rw [hb c (nlr _)];exact hk⟩
theorem Own.ext {w w':World} {base c:Nat} {v:Value} {xs:List Int} (h:Own w base v xs) (he:Ext c w w') (hc:c<base):Own w' base v xs:=by
 refine ⟨h.1,?_⟩
 have hlt:=h.lt
 rcases h.2 with hn|⟨g,cap,cur,rfl,hbg,hgg,rest⟩
 ·exact .inl hn
 ·have hg:=hlt g rfl
  exact .inr ⟨g,cap,cur,rfl,hbg,(he.block g hg.2 (by omega)).trans hgg,rest⟩
theorem Ext.trans' {c:Nat} {w w1 w2:World} (h:Ext c w w1) (g:Below w.heap.size w1 w2):Ext c w w2 :=
 ⟨g.os.trans h.os,g.tape.trans h.tape,g.output.trans h.output,Nat.le_trans h.size g.size,fun k hk hc=>(g.block k hk).trans (h.block k hk hc)⟩
theorem jkA (w:World) (zs:List Int) (cs:Array Value) (t:TypeId) (h:cs=(zs.map (Value.int .i64)).toArray):jlE w.heap.size zs (w.alloc (.cells cs t)):=by
 rw [h]
 intro j hj
 rw [World.cell?_alloc_mark]
 simp [List.getElem?_map,List.getElem?_eq_getElem hj,List.getD_eq_getElem?_getD]
theorem jkF (c:Nat) (a:Option Addr) (len cap:Nat) (n:Int) (hn:n≤9223372036854775807) (w:World) (hc:CurAt c a len cap w) :
  Calls Tryz.prog 60 #[.pointer (some ⟨c,0,none⟩),.int .i64 n] w fun e w'=>(∃ b:Bool,e=.returned (.bool b))∧Ext c w w'∧CurAt c a len cap w':=by
 go_enter Tryz.func60,Tryz.ntmps60
 go_wp2_with fail
 refine (jaK c a len cap n hn _ hc).mono ?_
 rintro e w1 ⟨⟨x,x0,_,x1,rfl⟩,hx,hcur⟩
 clear x1
 go_wp2
 go_ret
 exact ⟨⟨_,rfl⟩,hx,hcur⟩
theorem jbY (c:Nat) (a:Option Addr) (len cap:Nat) (w:World) (hc:CurAt c a len cap w) :
  Calls Tryz.prog 30 #[.pointer (some ⟨c,0,none⟩)] w fun e w'=>∃ (u:Value) (xs:List Int),e=.returned u∧xs.length≤8∧Own w' w.heap.size u xs∧Ext c w w'∧CurAt c a len cap w':=by
 have HCW:Hid (c<w.heap.size):=hc.lt
 have H0:Hid (Own (w.alloc (.cells #[] 3)) w.heap.size (.slice (some ⟨w.heap.size,0,none⟩) 0 0) []∧Ext c w (w.alloc (.cells #[] 3))∧CurAt c a len cap (w.alloc (.cells #[] 3))):=⟨jeu w w.heap.size (nlr _),(Ext.refl _ w).alloc _,hc.alloc' _⟩
 clear hc
 obtain ⟨i0,hi,hz0,hz1,hz2⟩:=info_parts jca
 go_enter Tryz.func30,Tryz.ntmps30
 go_wp2_with fail
 go_loopw [3,4] (fun r i wr=>∃ (k:Nat) (r0:Value) (xs:List Int),r0=r∧i=.int .i64 k∧k≤4∧xs.length≤k∧Own wr w.heap.size r0 xs∧Ext c w wr∧CurAt c a len cap wr) (fun _ i _=>5-(intOf i).toNat)
 case atStart=>exact ⟨0,_,[],rfl,rfl,by omega,by simp,H0.out⟩
 case round =>
  obtain ⟨k,r0,xs,rfl,rfl,hk,hxl,hown,hext,hcur⟩:=hrel
  have HW:Hid (Own wr w.heap.size r0 xs∧Ext c w wr):=⟨hown,hext⟩
  clear hown hext H0
  go_wp2_with fail
  refine (jaK c a len cap 5 (by omega) _ hcur).mono ?_
  rintro e w1 ⟨⟨x,x0,_,x1,rfl⟩,hx,hcur1⟩
  have hx5:=x1 (by omega)
  have HW1:Hid (Own w1 w.heap.size r0 xs∧Ext c w w1):=⟨HW.out.1.ext hx HCW.out,HW.out.2.trans hx⟩
  clear hcur hx x1 HW
  by_cases hlt:(k:Int)<x
  ·go_wp2_with fail
   refine (jaK c a len cap 6 (by omega) _ hcur1).mono ?_
   rintro e w2 ⟨⟨y,y0,_,y1,rfl⟩,hy,hcur2⟩
   have HW2:Hid (Own w2 w.heap.size r0 xs∧Ext c w w2∧w.heap.size≤w2.heap.size):=⟨HW1.out.1.ext hy HCW.out,HW1.out.2.trans hy,(HW1.out.2.trans hy).size⟩
   clear hcur1 hy y1 HW1
   go_wp2_with fail
   refine (jm8 xs y r0 w2 HW2.out.1.rd (by omega)).mono ?_
   rintro e w3 ⟨u,rfl,hb3,ho3⟩
   have HW3:Hid (Own w3 w.heap.size u (jeF xs y)∧Ext c w w3∧CurAt c a len cap w3):=⟨ho3.mono HW2.out.2.2,HW2.out.2.1.trans (Ext.of_below hb3 (nlr _)),hcur2.below' hb3⟩
   have hwl:=joz xs y
   clear hb3 ho3 hcur2 HW2
   go_wp2
   go_roundw
   case rel=>exact ⟨k+1,_,_,rfl,by go_num,by omega,by omega,HW3.out⟩
   case measure=>simp [intOf];omega
  ·go_wp2_with fail
   refine (jkF c a len cap 10 (by omega) _ hcur1).mono ?_
   rintro e w2 ⟨⟨bb,rfl⟩,hy,hcur2⟩
   have HW2:Hid (Own w2 w.heap.size r0 xs∧Ext c w w2∧w.heap.size≤w2.heap.size):=⟨HW1.out.1.ext hy HCW.out,HW1.out.2.trans hy,(HW1.out.2.trans hy).size⟩
   clear hcur1 hy HW1
   cases bb
   ·go_wp2
    go_ret
    exact ⟨_,xs,rfl,by omega,HW2.out.1,HW2.out.2.1,hcur2⟩
   ·go_wp2_with fail
    refine (jdS c a len cap w2.heap.size [-1,0,3,9223372036854775807] _ (hcur2.alloc' _) (by have:=HCW.out;have:=HW2.out.2.2;omega) 4 rfl (by omega) (by omega) (jkA w2 _ _ _ rfl)).mono ?_
    rintro e w3 ⟨⟨z,_,rfl⟩,hz,hcur3⟩
    have HW3:Hid (Own w3 w.heap.size r0 xs∧Ext c w w3∧w.heap.size≤w3.heap.size):=by
     have hx:=(Ext.refl c w2).alloc (.cells #[.int .i64 (-1),.int .i64 0,.int .i64 3,.int .i64 9223372036854775807] 3)
     exact ⟨(HW2.out.1.ext hx HCW.out).ext hz HCW.out,(HW2.out.2.1.trans hx).trans hz,((HW2.out.2.1.trans hx).trans hz).size⟩
    clear hz hcur2 HW2
    go_wp2_with (at_builtin;refine jaj _ rfl (.tmp 18) (.tmp 22) 24 rfl w.heap.size 3 i0 (.int .i64 0) 1 8 Tryz.underlying24 hi hz0 hz1 hz2 rfl (by decide) r0 xs.length (xs.map (Value.int .i64)) rfl (World.ownsRow.alloc HW3.out.1 _) (some ⟨w3.heap.size,0,none⟩) 1 1 [.int .i64 z] rfl rfl (by simp) (jfK w3 _ _) (by simp [Value.oneCell']) (by unfold maxLen;omega) (by omega) (by have:=HW3.out.2.2;simp;omega) ?_;intro v' w4 hown4 hg4)
    have R:=je2 (w:=w3) HW3.out.1 (brf w.heap.size w3) HW3.out.2.2 hown4.out hg4.out
    have HR:Hid (Own w4 w.heap.size v' (xs++[z])∧Ext c w w4∧CurAt c a len cap w4):=by
     have hs:=HW3.out.2.2
     have hcw:=HCW.out
     refine ⟨R.1,HW3.out.2.1.trans' R.2 ,hcur3.keepB fun k hk=>R.2.block k (by omega)⟩
    clear R hown4 hg4
    go_ret
    exact ⟨_,xs++[z],rfl,by simp;omega,HR.out⟩
theorem jip {a:Option Addr} {len:Nat} {w w':World} (h:CodeOk a len w.heap.size w) (hb:Below w.heap.size w w'):CodeOk a len w'.heap.size w':=by
 have:=h.keep (w':=w') fun k hk _=>hb.block k hk
 obtain ⟨h1,h2|⟨b,off,e,hlt,hz⟩⟩:=this
 ·exact ⟨h1,.inl h2⟩
 ·exact ⟨h1,.inr ⟨b,off,e,nll hlt hb.size,hz⟩⟩
abbrev jfc (w:World) (g:Nat):Prop:=Six w g 0 0 0 ⟨#[]⟩ (.slice none 0 0) (.slice none 0 0) 27
theorem X.SetsLe.mono {m m':Nat} (h:m≤m') (t:X):t.SetsLe m→t.SetsLe m':=by
 induction t with
 | no=>intro _;trivial
 | mk op a n s set len kid ih=>intro g;exact ⟨Nat.le_trans g.1 h,fun i hi=>ih i (g.2 i hi)⟩
theorem Ext.belowX {c:Nat} {w w1 w2:World} (h:Ext c w1 w2) (hb:Below w.heap.size w w1) (hc:w.heap.size≤c):Below w.heap.size w w2 :=
 ⟨h.os.trans hb.os,h.tape.trans hb.tape,h.output.trans hb.output,Nat.le_trans hb.size h.size,fun k hk=>(h.block k (by have:=hb.size;omega) (by omega)).trans (hb.block k hk)⟩
theorem Ext.put6 {c:Nat} {w w4:World} (h:Ext c w w4) {R:Nat} (hR:w.heap.size≤R) (a b e:Int) (s:ByteArray) (u v:Value):Ext c w (put6 w4 R a b e s u v) :=
 have k:=jbs (brf 0 w4) R (nzl _) a b e s u v
 ⟨k.os.trans h.os,k.tape.trans h.tape,k.output.trans h.output,Nat.le_trans h.size k.size,fun g hg hne=>(jaZ w4 R a b e s u v g (by omega)).trans (h.block g hg hne)⟩
theorem CurAt.put6 {c:Nat} {a:Option Addr} {len cap:Nat} {w4:World} (h:CurAt c a len cap w4) {R:Nat} (hR:c<R) (x b e:Int) (s:ByteArray) (u v:Value):CurAt c a len cap (put6 w4 R x b e s u v) :=
 h.keepB (fun g hg=>jaZ w4 R x b e s u v g (by omega))
theorem XOwn.put6 {w4:World} {t:X} {su p:Value} {S:List Nat} (h:XOwn w4 t su p S) {R:Nat} (hR:∀ x∈S,x≠R) (x b e:Int) (s:ByteArray) (u v:Value):XOwn (put6 w4 R x b e s u v) t su p S :=
 h.same _ (fun g hg=>jaZ w4 R x b e s u v g (hR g hg))
def jaW (q:D×Value):List Value:=[.int .i64 q.1.op,.int .i64 q.1.at_,.int .i64 q.1.n,.string q.1.s,q.2]
def jaF (l:List (D×Value)):List Value:=l.flatMap jaW
theorem jb6 (a b:List (D×Value)):jaF (a++b)=jaF a++jaF b:=by simp [jaF]
theorem jhy (l:List (D×Value)):(jaF l).length=l.length*5:=by
 induction l with
 | nil=>rfl
 | cons t r ih=>simp only [jaF,List.flatMap_cons,List.length_append,List.length_cons] at ih ⊢;rw [ih];simp [jaW];omega
def Ks (kid:Nat→D) (l:List (D×Value)):Prop:=∀ i q,l[i]? = some q→q.1=kid i
theorem Ks.nil (kid:Nat→D):Ks kid []:=fun i q h=>by simp at h
theorem Ks.snoc {kid:Nat→D} {l:List (D×Value)} (h:Ks kid l) (v:Value):Ks kid (l++[(kid l.length,v)]):=by
 intro i q hq
 rcases Nat.lt_trichotomy i l.length with hi|hi|hi
 ·rw [List.getElem?_append_left hi] at hq;exact h i q hq
 ·subst hi;simp at hq;subst hq;rfl
 ·rw [lgn (by simp;omega)] at hq;cases hq
theorem jjt (l:List (D×Value)) (junk:List Value):∀ (i:Nat) (q:D×Value),l[i]? = some q→∀ j,j<5→(jaF l++junk)[i*5+j]? = (jaW q)[j]? := by
 induction l with
 | nil=>intro i q h;simp at h
 | cons x r ih =>
  intro i q h j hj
  have e:jaF (x::r)++junk=jaW x++(jaF r++junk):=by simp [jaF]
  have hl:(jaW x).length=5:=rfl
  rw [e]
  cases i with
  | zero =>
   simp at h;subst h
   rw [List.getElem?_append_left (by omega)];congr 1;omega
  | succ i =>
   simp at h
   rw [List.getElem?_append_right (by omega),hl]
   have:=ih i q h j hj
   rw [←this];congr 1;omega
theorem set5 (l:List (D×Value)) (junk:List Value) (hj:5≤junk.length) (t:D) (v:Value) :
  (((((jaF l++junk).set (l.length*5) (.int .i64 t.op)).set (l.length*5+1) (.int .i64 t.at_)).set (l.length*5+2) (.int .i64 t.n)).set (l.length*5+3) (.string t.s)).set (l.length*5+4) v=jaF (l++[(t,v)])++junk.drop 5:=by
 have hl:=jhy l
 have s:∀ (c:List Value) (j:Nat) (x:Value),(jaF l++c).set (l.length*5+j) x=jaF l++c.set j x:=by
  intro c j x
  rw [List.set_append_right _ _ (by omega),hl]
  congr 2;omega
 have s0:=s junk 0 (.int .i64 t.op)
 rw [Nat.add_zero] at s0
 rw [s0,s,s,s,s,jb6]
 match junk,hj with
 | a::b::c::d::e::r,_=>simp [jaF,jaW]
theorem SlB.of_own {w:World} {base e B n:Nat} {v:Value} {kid:Nat→D} {l:List (D×Value)} (h:w.ownsRow base e 5 v n (jaF l)) (hl:l.length=n) (hB:B≤base) (hk:Ks kid l) (hin:∀ q∈l,q.1.InB B w q.2):SlB B w n kid v:=by
 rcases h.2 with ⟨rfl,rfl⟩|⟨g,cap,cur,rfl,hbg,hgg,hc,hm,hs,ht⟩
 ·exact .inl ⟨rfl,_,_,rfl⟩
 ·refine .inr ⟨g,0,cap,fun i=>((l[i]?).getD (.no,.bool false)).2,rfl,by omega,hc,hm,fun i hi=>?_⟩
  have hi':i<l.length:=by omega
  have hq:l[i]? = some l[i]:=lgg hi'
  have hkid:=hk i _ hq
  have cell:∀ j,j<5→w.cell? ⟨g,0+i*5+j,none⟩=(jaW l[i])[j]? := by
   intro j hj
   have:=h.cellAt (i*5+j) (by omega)
   rw [Nat.zero_add,this]
   have:=jjt l [] i _ hq j hj
   simpa using this
  simp only [hq,Option.getD_some]
  rw [←hkid]
  exact ⟨⟨cell 0 (by omega),cell 1 (by omega),cell 2 (by omega),cell 3 (by omega),cell 4 (by omega)⟩,hin _ (List.getElem_mem hi')⟩
theorem jjy {w w1 w2:World} {row:Option Nat} (h:w.grownBy w1 row) (g:w1.grownBy w2 row):w.grownBy w2 row :=
 ⟨g.os.trans h.os,g.tape.trans h.tape,g.output.trans h.output,Nat.le_trans h.size g.size,fun k hk hr=>(g.block k (nll hk h.size) hr).trans (h.block k hk hr)⟩
abbrev st5 (w:World) (g p:Nat) (t:D) (v:Value):World :=
 ((((w.setCell ⟨g,p,none⟩ (.int .i64 t.op)).setCell ⟨g,p+1,none⟩ (.int .i64 t.at_)).setCell ⟨g,p+2,none⟩ (.int .i64 t.n)).setCell ⟨g,p+3,none⟩ (.string t.s)).setCell ⟨g,p+4,none⟩ v
theorem jpo {w:World} {base e g cap n:Nat} {l:List (D×Value)} {junk:List Value} (h:w.ownsRow base e 5 (.slice (some ⟨g,0,none⟩) n cap) n (jaF l++junk)) (hj:5≤junk.length) (t:D) (v:Value) :
  (st5 w g (l.length*5) t v).ownsRow base e 5 (.slice (some ⟨g,0,none⟩) n cap) n (jaF (l++[(t,v)])++junk.drop 5)∧w.grownBy (st5 w g (l.length*5) t v) (some g):=by
 obtain ⟨q1,g1⟩:=h.stored (l.length*5) (.int .i64 t.op)
 obtain ⟨q2,g2⟩:=q1.stored (l.length*5+1) (.int .i64 t.at_)
 obtain ⟨q3,g3⟩:=q2.stored (l.length*5+2) (.int .i64 t.n)
 obtain ⟨q4,g4⟩:=q3.stored (l.length*5+3) (.string t.s)
 obtain ⟨q5,g5⟩:=q4.stored (l.length*5+4) v
 rw [set5 l junk hj t v] at q5
 exact ⟨q5,jjy (jjy (jjy (jjy g1 g2) g3) g4) g5⟩
theorem three {w w1:World} {o1 o2 o3:Obj} (hb:Below (((w.alloc o1).alloc o2).alloc o3).heap.size (((w.alloc o1).alloc o2).alloc o3) w1) :
  w1.heap[w.heap.size]? = some o1∧w1.heap[w.heap.size+1]? = some o2∧w1.heap[w.heap.size+1+1]? = some o3∧w.heap.size+3≤w1.heap.size∧Below w.heap.size w w1:=by
 have e1:(w.alloc o1).heap.size=w.heap.size+1:=by simp
 have e2:((w.alloc o1).alloc o2).heap.size=w.heap.size+1+1:=by simp
 have e3:(((w.alloc o1).alloc o2).alloc o3).heap.size=w.heap.size+1+1+1:=by simp
 have n3:=han ((w.alloc o1).alloc o2) o3
 have n2:=han (w.alloc o1) o2
 have n1:=han w o1
 rw [e2] at n3
 rw [e1] at n2
 refine ⟨?_,?_,?_,by have:=hb.size;omega,((newb w o1).trans (((newb _ o2).mono (by omega)).trans ((newb _ o3).mono (by omega)))).trans (hb.mono (by omega))⟩
 ·rw [hb.block _ (by omega),bha _ _ _ (by omega),bha _ _ _ (by omega)];exact n1
 ·rw [hb.block _ (by omega),bha _ _ _ (by omega)];exact n2
 ·rw [hb.block _ (by omega)];exact n3
theorem jaT {fn:Func} {p:Tmp} {ty:TypeId} (h:fn.results=#[.cell p ty]) (tmps:Array Value) (P:Program) (w:World) :
  (results fn tmps).run P w=((asAddr (tmps.getD p undef)).run P w).andThen fun a w₁=>(loadVar ty a).run P w₁:=by
 simp only [results,h]
 simp [Sem.run_bind,Result.andThen]
def DOwn (w:World):D→Value→List Nat→Prop
 | .no,_,_=>False
 | .mk _ _ n s len kid,v,S=>(s.size≤maxLen∧-9223372036854775808≤n∧n≤9223372036854775807) ∧
  ((len=0∧v=.slice none 0 0∧S=[]) ∨
   ∃ (g cap:Nat) (l:List (D×Value)) (SS:List (List Nat)),v=.slice (some ⟨g,0,none⟩) len cap∧w.ownsRow 0 72 5 (.slice (some ⟨g,0,none⟩) len cap) len (jaF l)∧l.length=len∧SS.length=len∧Ks kid l∧S=g::SS.flatten ∧
    ∀ i,i<len→∃ u T,l[i]? = some (kid i,u)∧SS[i]? = some T∧DOwn w (kid i) u T)
def SOwn (w:World) (len:Nat) (kid:Nat→D) (v:Value) (S:List Nat):Prop :=
  (len=0∧v=.slice none 0 0∧S=[]) ∨
   ∃ (g cap:Nat) (l:List (D×Value)) (SS:List (List Nat)),v=.slice (some ⟨g,0,none⟩) len cap∧w.ownsRow 0 72 5 (.slice (some ⟨g,0,none⟩) len cap) len (jaF l)∧l.length=len∧SS.length=len∧Ks kid l∧S=g::SS.flatten ∧
    ∀ i,i<len→∃ u T,l[i]? = some (kid i,u)∧SS[i]? = some T∧DOwn w (kid i) u T
theorem DOwn.sown {w:World} {t:D} {v:Value} {S:List Nat} (h:DOwn w t v S):SOwn w t.len t.kid v S:=by
 cases t <;> unfold DOwn at h <;> first|exact h.elim|exact h.2
theorem DOwn.plain {w:World} {t:D} {v:Value} {S:List Nat} (h:DOwn w t v S):t.s.size≤maxLen∧-9223372036854775808≤t.n∧t.n≤9223372036854775807:=by
 cases t <;> unfold DOwn at h <;> first|exact h.elim|exact h.1
theorem jdl {w w':World} {base e size n:Nat} {v:Value} {xs:List Value} (h:w.ownsRow base e size v n xs) (hb:∀ g,v.ownBlock=some g→w'.heap[g]? = w.heap[g]?):w'.ownsRow base e size v n xs:=by
 refine ⟨h.1,?_⟩
 rcases h.2 with hn|⟨g,cap,cur,rfl,hbg,hgg,rest⟩
 ·exact .inl hn
 ·exact .inr ⟨g,cap,cur,rfl,hbg,(hb g rfl).trans hgg,rest⟩
theorem jaQ {SS:List (List Nat)} {i:Nat} {T:List Nat} (h:SS[i]? = some T) {g:Nat} (hg:g∈T):g∈SS.flatten:=List.mem_flatten.2 ⟨T,List.mem_of_getElem? h,hg⟩
theorem DOwn.same {w w':World} (t:D):∀ {v:Value} {S:List Nat},DOwn w t v S→(∀ g∈S,w'.heap[g]? = w.heap[g]?)→DOwn w' t v S:=by
 induction t with
 | no=>intro v S h;exact h.elim
 | mk op a n s len kid ih =>
  intro v S h hs
  unfold DOwn at h ⊢
  refine ⟨h.1,?_⟩
  rcases h.2 with h0|⟨g,cap,l,SS,h1,h2,h3,h4,h5,h6,h7⟩
  ·exact .inl h0
  ·refine .inr ⟨g,cap,l,SS,h1,jdl h2 (fun g' hg'=>?_),h3,h4,h5,h6,fun i hi=>?_⟩
   ·simp only [Value.ownBlock,Option.some.injEq] at hg'
    subst hg'
    exact hs g (by rw [h6];simp)
   ·obtain ⟨u,T,k1,k2,k3⟩:=h7 i hi
    exact ⟨u,T,k1,k2,ih i k3 (fun g' hg'=>hs g' (by rw [h6];exact List.mem_cons_of_mem _ (jaQ k2 hg')))⟩
theorem SOwn.same {w w':World} {len:Nat} {kid:Nat→D} {v:Value} {S:List Nat} (h:SOwn w len kid v S) (hs:∀ g∈S,w'.heap[g]? = w.heap[g]?):SOwn w' len kid v S:=by
 rcases h with h0|⟨g,cap,l,SS,h1,h2,h3,h4,h5,h6,h7⟩
 ·exact .inl h0
 ·refine .inr ⟨g,cap,l,SS,h1,jdl h2 (fun g' hg'=>?_),h3,h4,h5,h6,fun i hi=>?_⟩
  ·simp only [Value.ownBlock,Option.some.injEq] at hg'
   subst hg'
   exact hs g (by rw [h6];simp)
  ·obtain ⟨u,T,k1,k2,k3⟩:=h7 i hi
   exact ⟨u,T,k1,k2,k3.same _ (fun g' hg'=>hs g' (by rw [h6];exact List.mem_cons_of_mem _ (jaQ k2 hg')))⟩
theorem DOwn.in' {w:World} (t:D):∀ {v:Value} {S:List Nat},DOwn w t v S→t.In w v:=by
 induction t with
 | no=>intro v S h;exact h.elim
 | mk op a n s len kid ih =>
  intro v S h
  unfold DOwn at h
  refine D.InB.mk' h.1.1 h.1.2 ?_
  rcases h.2 with ⟨rfl,rfl,_⟩|⟨g,cap,l,SS,rfl,h2,h3,h4,h5,h6,h7⟩
  ·exact .inl ⟨rfl,_,_,rfl⟩
  ·refine SlB.of_own h2 h3 (nlr _) h5 (fun q hq=>?_)
   obtain ⟨i,hi,rfl⟩:=List.mem_iff_getElem.1 hq
   obtain ⟨u,T,k1,k2,k3⟩:=h7 i (by omega)
   rw [lgg hi] at k1
   injection k1 with k1
   rw [k1]
   exact ih i k3
theorem SOwn.sl {w:World} {len:Nat} {kid:Nat→D} {v:Value} {S:List Nat} (h:SOwn w len kid v S):Sl w len kid v:=by
 rcases h with ⟨rfl,rfl,_⟩|⟨g,cap,l,SS,rfl,h2,h3,h4,h5,h6,h7⟩
 ·exact .inl ⟨rfl,_,_,rfl⟩
 ·refine SlB.of_own h2 h3 (nlr _) h5 (fun q hq=>?_)
  obtain ⟨i,hi,rfl⟩:=List.mem_iff_getElem.1 hq
  obtain ⟨u,T,k1,k2,k3⟩:=h7 i (by omega)
  rw [lgg hi] at k1
  injection k1 with k1
  rw [k1]
  exact k3.in'
theorem SOwn.there {w:World} {len:Nat} {kid:Nat→D} {v:Value} {S:List Nat} (h:SOwn w len kid v S) (hd:∀ i,i<len→∀ u T,DOwn w (kid i) u T→∀ g∈T,g<w.heap.size):∀ g∈S,g<w.heap.size:=by
 rcases h with ⟨_,_,rfl⟩|⟨g,cap,l,SS,rfl,h2,h3,h4,h5,rfl,h7⟩
 ·intro g hg;simp at hg
 ·intro g' hg'
  rcases List.mem_cons.1 hg' with rfl|hg'
  ·exact (h2.lt _ rfl).2
  ·obtain ⟨T,hT,hgT⟩:=List.mem_flatten.1 hg'
   obtain ⟨i,hi,rfl⟩:=List.mem_iff_getElem.1 hT
   obtain ⟨u,T',k1,k2,k3⟩:=h7 i (by omega)
   rw [lgg hi] at k2
   injection k2 with k2
   exact hd i (by omega) u T' k3 g' (by rw [←k2];exact hgT)
theorem DOwn.there {w:World} (t:D):∀ {v:Value} {S:List Nat},DOwn w t v S→∀ g∈S,g<w.heap.size:=by
 induction t with
 | no=>intro v S h;exact h.elim
 | mk op a n s len kid ih =>
  intro v S h
  exact (show SOwn w len kid v S from h.sown).there (fun i _ u T k=>ih i k)
theorem SOwn.lt {w:World} {len:Nat} {kid:Nat→D} {v:Value} {S:List Nat} (h:SOwn w len kid v S):∀ g∈S,g<w.heap.size:=h.there (fun _ _ _ _ k=>k.there)
end Go.Proofs.YtjmlfacbcfbhdaaGreatDoor
