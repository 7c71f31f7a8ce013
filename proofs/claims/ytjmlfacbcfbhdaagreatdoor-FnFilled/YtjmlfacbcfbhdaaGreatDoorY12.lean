/- spec.l3Draw: some data in memory of the call's own. Condition: the code's bytes can be read. -/
import Derived.Test.YtjmlfacbcfbhdaaGreatDoorYA
import Derived.Test.YtjmlfacbcfbhdaaGreatDoorY1
import Derived.Test.YtjmlfacbcfbhdaaGreatDoorY11
import Derived.Test.YtjmlfacbcfbhdaaGreatDoorY10
import Derived.RegionTactic
import Derived.BigRegion
import Derived.Deep.RegionWith
import Derived.BigQuiet
import Derived.Deep.QuietTactic
import Derived.Deep.RegionHeld3
import Derived.Deep.AppendLies
set_option maxRecDepth 100000
set_option maxHeartbeats 8000000
namespace Go.Proofs.YtjmlfacbcfbhdaaGreatDoor
open Go.ChangeShapes Go.WideShapes Go.ChangeAt Go.RowKit
theorem jd6 (w:World) (ss:List ByteArray) (t:TypeId):jik w.heap.size ss (w.alloc (.cells (ss.map Value.string).toArray t)):=by
 intro j hj
 rw [World.cell?_alloc_mark]
 simp [List.getElem?_map,List.getElem?_eq_getElem hj,List.getD_eq_getElem?_getD]
theorem jcJ (w:World) (ss:List ByteArray) (cs:Array Value) (t:TypeId) (h:cs=(ss.map Value.string).toArray):jik w.heap.size ss (w.alloc (.cells cs t)):=by
 rw [h];exact jd6 w ss t
theorem CurAt.alloc {c:Nat} {a:Option Addr} {len cap:Nat} {w:World} (h:CurAt c a len cap w) (o:Obj):CurAt c a len cap (w.alloc o) :=
 h.keep (d:=w.heap.size) ((Ext.refl _ w).alloc o) h.lt
theorem CurAt.below {c:Nat} {a:Option Addr} {len cap:Nat} {w w':World} (h:CurAt c a len cap w) (hb:Below w.heap.size w w'):CurAt c a len cap w' :=
 h.keep (d:=w.heap.size) (Ext.of_below hb (nlr _)) h.lt
theorem jgr (c:Nat) (a:Option Addr) (len cap:Nat) (n:Int) (hn:n≤9223372036854775807) (w:World) (hc:CurAt c a len cap w) :
  Calls Tryz.prog 60 #[.pointer (some ⟨c,0,none⟩),.int .i64 n] w fun e w'=>(∃ b:Bool,e=.returned (.bool b))∧Ext c w w'∧CurAt c a len cap w':=by
 go_enter Tryz.func60,Tryz.ntmps60
 go_wp2_with fail
 refine (jaK c a len cap n hn _ hc).mono ?_
 rintro e w1 ⟨⟨x,x0,_,x1,rfl⟩,hx,hcur⟩
 clear x1
 go_wp2
 go_ret
 exact ⟨⟨_,rfl⟩,hx,hcur⟩
theorem jfA (w:World) :
  Calls Tryz.prog 101 #[] w fun e w'=>∃ ss:List ByteArray,e=.returned (.slice (some ⟨w.heap.size,0,none⟩) 15 15)∧ss.length=15∧(∀ s∈ss,s.size≤300)∧w'=w.alloc (.cells (ss.map Value.string).toArray 9):=by
 go_enter Tryz.func101,Tryz.ntmps101
 go_wp2
 go_ret
 refine ⟨[_,_,_,_,_,_,_,_,_,_,_,_,_,_,_],rfl,rfl,?_,rfl⟩
 decide
theorem jem (c:Nat) (a:Option Addr) (len cap:Nat) (w:World) (hc:CurAt c a len cap w) :
  Calls Tryz.prog 88 #[.pointer (some ⟨c,0,none⟩)] w fun e w'=>(∃ s:ByteArray,s.size≤300∧e=.returned (.string s))∧Ext c w w'∧CurAt c a len cap w':=by
 have hlt:=hc.lt
 go_enter Tryz.func88,Tryz.ntmps88
 go_wp2_with fail
 refine (jfA _).mono ?_
 rintro e w1 ⟨ss,rfl,hl,hss,rfl⟩
 have HS:Hid (∀ s∈ss,s.size≤300):=hss
 have HL:Hid (ss.length=15):=hl
 clear hss hl
 go_wp2_with fail
 refine (jco c a len cap w.heap.size ss _ (hc.alloc _) (by omega) 15 HL.out (by omega) (by omega) (jd6 w ss _)).mono ?_
 rintro e w2 ⟨⟨z,hz,rfl⟩,hx,hcur⟩
 have hz1:=HS.out z hz
 clear hz
 go_wp2
 go_ret
 exact ⟨⟨z,hz1,rfl⟩,((Ext.refl c w).alloc _).trans hx,hcur⟩
theorem jeN (s:ByteArray) (ds:List D) (r:List Tok) (h:jeR s=.ok ds r):jah ds.length (jav ds)≤52000:=by
 unfold jeR at h
 split at h
 ·rename_i hb
  have h4:s.size≤4000:=by
   by_cases h4:s.size≤4000
   ·exact h4
   ·rw [jic s h4] at hb;simp at hb
  cases hr:jew s.size (toks s).1 with
  | bad p=>rw [hr] at h;simp at h
  | ok ds' r' =>
   rw [hr] at h
   simp only at h
   split at h
   ·injection h with h1 _
    subst h1
    exact jmN _ _ _ _ (joO s) (jda s).2.1 hr
   ·simp at h
 ·simp at h
theorem NodeAt.apart {w:World} {t:D} {v:Value} {S:List Nat} {g j:Nat} {x:D} {u:Value} {T:List Nat} (h:NodeAt w t v S g j x u T) (hn:S.Nodup):T.Nodup∧g ∉ T:=by
 induction h with
 | here hp hr hj h1 h2 =>
  rw [hr.eq,List.nodup_cons] at hn
  exact ⟨(List.pairwise_flatten.1 hn.2).1 _ (List.mem_of_getElem? h2),fun hg=>hn.1 (jaQ h2 hg)⟩
 | there hp hr hi h1 h2 _ ih =>
  rw [hr.eq,List.nodup_cons] at hn
  exact ih ((List.pairwise_flatten.1 hn.2).1 _ (List.mem_of_getElem? h2))
theorem jey {w:World} {t:D} {v:Value} {S:List Nat} {g j:Nat} {x:D} {u:Value} {T:List Nat} (h:NodeAt w t v S g j x u T):∀ b∈S,b<w.heap.size:=by
 cases h with
 | here hp hr hj h1 h2=>exact fun b hb=>DOwn.there (.mk t.op t.at_ t.n t.s t.len t.kid) (v:=v) (S:=S) ⟨hp,hr.sown⟩ b hb
 | there hp hr hi h1 h2 _=>exact fun b hb=>DOwn.there (.mk t.op t.at_ t.n t.s t.len t.kid) (v:=v) (S:=S) ⟨hp,hr.sown⟩ b hb
theorem jfV {n:Nat} {kid kid':Nat→D} {x x':D} {q:Nat} (h:(jcG n kid').weight+x.weight=(jcG n kid).weight+x'.weight) (hw:jah n kid≤52000) (hx:x'.weight≤x.weight+q) (hq:q≤8000):jah n kid'≤60000:=by
 have e1:(jcG n kid').weight=jah n kid':=by rw [D.weight_eq];exact Nat.zero_add _
 have e2:(jcG n kid).weight=jah n kid:=by rw [D.weight_eq];exact Nat.zero_add _
 omega
theorem jof {w0 wr:World} {c B n:Nat} {kid:Nat→D} {v:Value} {S:List Nat} {g j:Nat} {x:D} {u:Value} {T:List Nat} (hN:NodeAt w0 (jcG n kid) v S g j x u T) (hn:S.Nodup) (hS:∀ b∈S,B≤b) (hcB:c<B) (hw:jah n kid≤52000) (he:Ext c w0 wr)
  (f:Nat) (y:Value) (x':D) (hf:f<5) (hx:jaW (x',u)=(jaW (x,u)).set f y) (hl:x'.len=x.len) (hk:x'.kid=x.kid) (hm:∃ op a n s k kd,x'=.mk op a n s k kd) (hp:x'.s.size≤maxLen∧-9223372036854775808≤x'.n∧x'.n≤9223372036854775807) (hwt:x'.s.size≤100+x.s.size) :
  ∃ kid',SlB B (wr.setCell ⟨g,j*5+f,none⟩ y) n kid' v∧jah n kid'≤60000:=by
 obtain ⟨h1,h2,h3,-⟩:=hN.facts
 obtain ⟨hTn,hgT⟩:=hN.apart hn
 have hlt:∀ b∈T,b<w0.heap.size:=fun b hb=>DOwn.there _ h1 b hb
 have hgl:g<w0.heap.size:=by
  have:=(hN.cells).1.c0
  exact wbl w0 _ this
 have same:∀ b,b<w0.heap.size→b≠g→B≤b→(wr.setCell ⟨g,j*5+f,none⟩ y).heap[b]? = w0.heap[b]? := fun b hb hbg hB =>
  (bhs wr ⟨g,j*5+f,none⟩ y b hbg).trans (he.block b hb (by omega))
 have hd:DOwn (wr.setCell ⟨g,j*5+f,none⟩ y) x' u T:=by
  obtain ⟨op,a,nn,s,k,kd,rfl⟩:=hm
  refine ⟨hp,?_⟩
  have:=h1.sown.same (w':=wr.setCell ⟨g,j*5+f,none⟩ y) (fun b hb=>same b (hlt b hb) (fun e=>hgT (e ▸ hb)) (hS b (h3 b hb)))
  simp only [D.len,D.kid] at hl hk
  rw [hl,hk]
  exact this
 obtain ⟨kid',S',k1,k2,k3,k4,k5⟩:=hN.swap hn (w':=wr.setCell ⟨g,j*5+f,none⟩ y) (x':=x') (u':=u) (T':=T)
  (fun len cap l ho hl hj=>jmT (x',u) y (he.block g hgl (by have:=hS g h2;omega)) hf hx ho hj) hd hTn (fun b hb=>.inl hb)
  (fun b hb hbg _=>same b (by
   have:=(jey hN b hb)
   exact this) hbg (hS b hb))
 refine ⟨kid',k1.sown.slB (fun b hb=>?_),jfV k5 hw (q:=100) ?_ (by omega)⟩
 ·rcases k3 b hb with h|h
  ·exact hS b h
  ·exact hS b (h3 b h)
 ·rw [D.weight_eq x',D.weight_eq x,hl,hk]
  omega
theorem Ext.transB {c:Nat} {w w1 w2:World} (h:Ext c w w1) (g:Below w.heap.size w1 w2):Ext c w w2 :=
 ⟨g.os.trans h.os,g.tape.trans h.tape,g.output.trans h.output,Nat.le_trans h.size g.size,fun k hk hc=>(g.block k hk).trans (h.block k hk hc)⟩
theorem CurAt.keepC {c:Nat} {a:Option Addr} {len cap:Nat} {w w':World} (h:CurAt c a len cap w) (hb:∀ k,k≤c→w'.heap[k]? = w.heap[k]?):CurAt c a len cap w':=by
 obtain ⟨hc,i,hh,h0,hk⟩:=h
 exact ⟨hc.keep fun k hk _=>hb k (by omega),i,hh,h0,by rw [hb c (nlr _)];exact hk⟩
structure Drawn3 (w w':World) (c:Nat) (a:Option Addr) (len cap:Nat) (v:Value):Prop where
 ex:∃ n kid,SlB w.heap.size w' n kid v∧jah n kid≤60000
 ext:Ext c w w'
 cur:CurAt c a len cap w'
structure Base3 (w w2:World) (c n:Nat) (kid:Nat→D) (v:Value) (S:List Nat):Prop where
 nd:S.Nodup
 up:∀ b∈S,w.heap.size≤b
 cw:c<w.heap.size
 wt:jah n kid≤52000
 ext:Ext c w w2
theorem jdm {w w2 wr:World} {c n:Nat} {kid:Nat→D} {v:Value} {S:List Nat} {a:Option Addr} {len cap:Nat} (hb:Base3 w w2 c n kid v S) {g j:Nat} {x:D} {u:Value} {T:List Nat} (hN:NodeAt w2 (jcG n kid) v S g j x u T) (he:Ext c w2 wr) (hc:CurAt c a len cap wr)
  (f:Nat) (y:Value) (x':D) (hf:f<5) (hx:jaW (x',u)=(jaW (x,u)).set f y) (hl:x'.len=x.len) (hk:x'.kid=x.kid) (hm:∃ op a n s k kd,x'=.mk op a n s k kd) (hp:x'.s.size≤maxLen∧-9223372036854775808≤x'.n∧x'.n≤9223372036854775807) (hwt:x'.s.size≤100+x.s.size) :
  Drawn3 w (wr.setCell ⟨g,j*5+f,none⟩ y) c a len cap v:=by
 have hg:w.heap.size≤g:=hb.up g hN.facts.2.1
 obtain ⟨kid',h1,h2⟩:=jof hN hb.nd hb.up hb.cw hb.wt he f y x' hf hx hl hk hm hp hwt
 refine ⟨⟨n,kid',h1,h2⟩,(hb.ext.trans he).transB ((brf _ wr).setCell (by exact hg) y),hc.keepC fun k hk=>?_⟩
 exact bhs wr ⟨g,j*5+f,none⟩ y k (by have:=hb.cw;simp only;omega)
theorem ji4 {w w2 wr:World} {c n:Nat} {kid:Nat→D} {v:Value} {S:List Nat} {a:Option Addr} {len cap:Nat} (hb:Base3 w w2 c n kid v S) (hs:SOwn w2 n kid v S) (he:Ext c w2 wr) (hc:CurAt c a len cap wr) (hlt:∀ b∈S,b<w2.heap.size):Drawn3 w wr c a len cap v :=
 ⟨⟨n,kid,(hs.same (fun b h=>he.block b (hlt b h) (by have:=hb.up b h;have:=hb.cw;omega))).slB hb.up,by have:=hb.wt;omega⟩,hb.ext.trans he,hc⟩
end Go.Proofs.YtjmlfacbcfbhdaaGreatDoor
