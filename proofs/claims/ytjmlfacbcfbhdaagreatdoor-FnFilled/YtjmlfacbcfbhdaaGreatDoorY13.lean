/- spec.l5Mix: the node, its sets drawn anew now and then. Condition: at most 2^20 of it, no set of more than 8. -/
import Derived.Test.YtjmlfacbcfbhdaaGreatDoorYA
import Derived.Test.YtjmlfacbcfbhdaaGreatDoorY0
import Derived.Test.YtjmlfacbcfbhdaaGreatDoorY10
import Derived.Test.YtjmlfacbcfbhdaaGreatDoorY1
import Derived.Test.YtjmlfacbcfbhdaaGreatDoorY12
import Derived.Deep.AppendLies
import Derived.Deep.Cut
import Derived.Deep.RegionHeld3
set_option maxRecDepth 100000
set_option maxHeartbeats 8000000
namespace Go.Proofs.YtjmlfacbcfbhdaaGreatDoor
open Go.ChangeShapes Go.WideShapes Go.ChangeAt Go.RowKit
def jpR (c:Nat) (ca:Option Addr) (cl cc:Nat) (t:X):Prop:=∀ (w:World) (sv v:Value),CurAt c ca cl cc w→t.At (c+1) w sv v→t.weight≤1048576→t.SetsLe 8→Calls Tryz.prog 32 #[.pointer (some ⟨c,0,none⟩),.agg #[.int .i64 t.op,.int .i64 t.at_,.int .i64 t.n,.string t.s,sv,v]] w fun e w' =>
 ∃ (t':X) (su u:Value) (S:List Nat),e=.returned (.agg #[.int .i64 t.op,.int .i64 t.at_,.int .i64 t.n,.string t.s,su,u])∧(Ext c w w'∧CurAt c ca cl cc w')∧XOwn w' t' su u S∧S.Nodup∧(∀ x∈S,w.heap.size≤x)∧datX t'=datX t∧t'.SetsLe 8
theorem jmw (vs:Array Value) (w:World):(callFunc 32 vs).run Tryz.prog w=.ok (.enter 32 vs) w:=by kernel_rfl
theorem jpb (c:Nat) (ca:Option Addr) (cl cc:Nat) (t:X):jpR c ca cl cc t:=by
 induction t with
 | no=>intro w sv v _ h;exact h.elim
 | mk op a n s set len kid ih =>
  intro w sv v hcur hin hwt hsle
  have HCU:Hid (CurAt c ca cl cc w):=hcur
  have HCW:Hid (c<w.heap.size):=hcur.lt
  have HLE:Hid (set.length≤8∧∀ i,i<len→(kid i).SetsLe 8):=hsle
  clear hcur hsle
  obtain ⟨i0,hi0,hz0,hz1,hz2⟩:=info_parts jcI
  obtain ⟨iI,hiI,hzI0,hzI1,hzI2⟩:=info_parts jca
  have hsl:XsAt (c+1) w len kid v:=hin.xs
  have hss:SetB (c+1) w sv set:=hin.sets
  have HPL:Hid (s.size≤maxLen∧-9223372036854775808≤n∧n≤9223372036854775807):=⟨hin.size,hin.num⟩
  obtain ⟨p,cap,rfl,-,hat⟩:=XsB.atB hsl
  obtain ⟨ps,cps,hsv⟩:=hss.shape
  subst hsv
  have hwe:(X.mk op a n s set len kid).weight=s.size+(set.length+(len+sumX (fun i=>(kid i).weight) len)):=rfl
  have hlen:len≤1048576:=by omega
  have hsl2:set.length≤1048576:=by omega
  have HRD:Hid (Rd w (.slice ps set.length cps) set):=hss.rd
  have IH:Hid (∀ i,i<len→∀ (w:World) (sv v:Value),CurAt c ca cl cc w→(kid i).At (c+1) w sv v→Calls Tryz.prog 32 #[.pointer (some ⟨c,0,none⟩),.agg #[.int .i64 (kid i).op,.int .i64 (kid i).at_,.int .i64 (kid i).n,.string (kid i).s,sv,v]] w fun e w' =>
   ∃ (t':X) (su u:Value) (S:List Nat),e=.returned (.agg #[.int .i64 (kid i).op,.int .i64 (kid i).at_,.int .i64 (kid i).n,.string (kid i).s,su,u])∧(Ext c w w'∧CurAt c ca cl cc w')∧XOwn w' t' su u S∧S.Nodup∧(∀ x∈S,w.heap.size≤x)∧datX t'=datX (kid i)∧t'.SetsLe 8):=fun i hi w sv v hc h=>ih i w sv v hc h (by
    have h1:=jbo (fun i=>(kid i).weight) i len hi
    omega) (HLE.out.2 i hi)
  have HAT:Hid (∀ i,i<len→∃ b o su u,p=some ⟨b,o,none⟩∧c+1≤b∧Head6 w b (o+i*6) (kid i) su u∧(kid i).At (c+1) w su u):=hat
  simp only [X.op,X.at_,X.n,X.s]
  clear hin hsl ih hat hwe hwt hss
  have e0:((w.alloc (.cells #[.int .i64 op,.int .i64 a,.int .i64 n,.string s,.slice ps set.length cps,.slice p len cap] 27)).alloc (.cells #[.int .i64 0,.int .i64 0,.int .i64 0,.string ⟨#[]⟩,.slice none 0 0,.slice none 0 0] 27)).heap.size=w.heap.size+2:=by simp
  have e1:∀ ob,(((w.alloc (.cells #[.int .i64 op,.int .i64 a,.int .i64 n,.string s,.slice ps set.length cps,.slice p len cap] 27)).alloc (.cells #[.int .i64 0,.int .i64 0,.int .i64 0,.string ⟨#[]⟩,.slice none 0 0,.slice none 0 0] 27)).alloc ob).heap.size=w.heap.size+1+1+1:=fun ob=>by simp
  have hb0:Below w.heap.size w ((w.alloc (.cells #[.int .i64 op,.int .i64 a,.int .i64 n,.string s,.slice ps set.length cps,.slice p len cap] 27)).alloc (.cells #[.int .i64 0,.int .i64 0,.int .i64 0,.string ⟨#[]⟩,.slice none 0 0,.slice none 0 0] 27)):=(newx w _).trans ((newx _ _).mono (by simp))
  have hbA:Below ((w.alloc (.cells #[.int .i64 op,.int .i64 a,.int .i64 n,.string s,.slice ps set.length cps,.slice p len cap] 27)).alloc (.cells #[.int .i64 0,.int .i64 0,.int .i64 0,.string ⟨#[]⟩,.slice none 0 0,.slice none 0 0] 27)).heap.size ((w.alloc (.cells #[.int .i64 op,.int .i64 a,.int .i64 n,.string s,.slice ps set.length cps,.slice p len cap] 27)).alloc (.cells #[.int .i64 0,.int .i64 0,.int .i64 0,.string ⟨#[]⟩,.slice none 0 0,.slice none 0 0] 27)) ((((w.alloc (.cells #[.int .i64 op,.int .i64 a,.int .i64 n,.string s,.slice ps set.length cps,.slice p len cap] 27)).alloc (.cells #[.int .i64 0,.int .i64 0,.int .i64 0,.string ⟨#[]⟩,.slice none 0 0,.slice none 0 0] 27)).alloc (.cells #[] 3)).drew):=(newx _ _).drew
  have HOA:Hid (((((w.alloc (.cells #[.int .i64 op,.int .i64 a,.int .i64 n,.string s,.slice ps set.length cps,.slice p len cap] 27)).alloc (.cells #[.int .i64 0,.int .i64 0,.int .i64 0,.string ⟨#[]⟩,.slice none 0 0,.slice none 0 0] 27)).alloc (.cells #[] 3)).drew).ownsRow (w.heap.size+2) 3 1 (.slice (some ⟨w.heap.size+1+1,0,none⟩) 0 0) 0 []∧(ps=none→set.length=0∧cps=0)∧∀ ad,ps=some ad→∀ j u,(set.map (Value.int .i64))[j]? = some u→((((w.alloc (.cells #[.int .i64 op,.int .i64 a,.int .i64 n,.string s,.slice ps set.length cps,.slice p len cap] 27)).alloc (.cells #[.int .i64 0,.int .i64 0,.int .i64 0,.string ⟨#[]⟩,.slice none 0 0,.slice none 0 0] 27)).alloc (.cells #[] 3)).drew).cell? (ad.add j)=some u):=by
   have h1:((((w.alloc (.cells #[.int .i64 op,.int .i64 a,.int .i64 n,.string s,.slice ps set.length cps,.slice p len cap] 27)).alloc (.cells #[.int .i64 0,.int .i64 0,.int .i64 0,.string ⟨#[]⟩,.slice none 0 0,.slice none 0 0] 27)).alloc (.cells #[] 3)).drew).heap[w.heap.size+1+1]? = some (.cells #[] 3 (0,0)):=by
    have h2:=han ((w.alloc (.cells #[.int .i64 op,.int .i64 a,.int .i64 n,.string s,.slice ps set.length cps,.slice p len cap] 27)).alloc (.cells #[.int .i64 0,.int .i64 0,.int .i64 0,.string ⟨#[]⟩,.slice none 0 0,.slice none 0 0] 27)) (.cells #[] 3)
    rw [e0] at h2
    exact h2
   exact ⟨jcu h1 (by omega),(HRD.out.below (hb0.trans (hbA.mono (by omega)))).src⟩
  have HBA:Hid (Below ((w.alloc (.cells #[.int .i64 op,.int .i64 a,.int .i64 n,.string s,.slice ps set.length cps,.slice p len cap] 27)).alloc (.cells #[.int .i64 0,.int .i64 0,.int .i64 0,.string ⟨#[]⟩,.slice none 0 0,.slice none 0 0] 27)).heap.size ((w.alloc (.cells #[.int .i64 op,.int .i64 a,.int .i64 n,.string s,.slice ps set.length cps,.slice p len cap] 27)).alloc (.cells #[.int .i64 0,.int .i64 0,.int .i64 0,.string ⟨#[]⟩,.slice none 0 0,.slice none 0 0] 27)) ((((w.alloc (.cells #[.int .i64 op,.int .i64 a,.int .i64 n,.string s,.slice ps set.length cps,.slice p len cap] 27)).alloc (.cells #[.int .i64 0,.int .i64 0,.int .i64 0,.string ⟨#[]⟩,.slice none 0 0,.slice none 0 0] 27)).alloc (.cells #[] 3)).drew)∧((w.alloc (.cells #[.int .i64 op,.int .i64 a,.int .i64 n,.string s,.slice ps set.length cps,.slice p len cap] 27)).alloc (.cells #[.int .i64 0,.int .i64 0,.int .i64 0,.string ⟨#[]⟩,.slice none 0 0,.slice none 0 0] 27)).heap.size≤w.heap.size+1+1):=⟨hbA,by rw [e0];omega⟩
  have hbB:Below ((w.alloc (.cells #[.int .i64 op,.int .i64 a,.int .i64 n,.string s,.slice ps set.length cps,.slice p len cap] 27)).alloc (.cells #[.int .i64 0,.int .i64 0,.int .i64 0,.string ⟨#[]⟩,.slice none 0 0,.slice none 0 0] 27)).heap.size ((w.alloc (.cells #[.int .i64 op,.int .i64 a,.int .i64 n,.string s,.slice ps set.length cps,.slice p len cap] 27)).alloc (.cells #[.int .i64 0,.int .i64 0,.int .i64 0,.string ⟨#[]⟩,.slice none 0 0,.slice none 0 0] 27)) (((((w.alloc (.cells #[.int .i64 op,.int .i64 a,.int .i64 n,.string s,.slice ps set.length cps,.slice p len cap] 27)).alloc (.cells #[.int .i64 0,.int .i64 0,.int .i64 0,.string ⟨#[]⟩,.slice none 0 0,.slice none 0 0] 27)).alloc (.cells #[.int .i64 0,.int .i64 0,.int .i64 0,.string ⟨#[]⟩,.slice none 0 0,.slice none 0 0] 27)).alloc (.cells #[] 3)).drew):=((newx _ _).trans ((newx _ _).mono (by rw [e1];omega))).drew
  have HOB:Hid ((((((w.alloc (.cells #[.int .i64 op,.int .i64 a,.int .i64 n,.string s,.slice ps set.length cps,.slice p len cap] 27)).alloc (.cells #[.int .i64 0,.int .i64 0,.int .i64 0,.string ⟨#[]⟩,.slice none 0 0,.slice none 0 0] 27)).alloc (.cells #[.int .i64 0,.int .i64 0,.int .i64 0,.string ⟨#[]⟩,.slice none 0 0,.slice none 0 0] 27)).alloc (.cells #[] 3)).drew).ownsRow (w.heap.size+2) 3 1 (.slice (some ⟨w.heap.size+1+1+1,0,none⟩) 0 0) 0 []∧(ps=none→set.length=0∧cps=0)∧∀ ad,ps=some ad→∀ j u,(set.map (Value.int .i64))[j]? = some u→(((((w.alloc (.cells #[.int .i64 op,.int .i64 a,.int .i64 n,.string s,.slice ps set.length cps,.slice p len cap] 27)).alloc (.cells #[.int .i64 0,.int .i64 0,.int .i64 0,.string ⟨#[]⟩,.slice none 0 0,.slice none 0 0] 27)).alloc (.cells #[.int .i64 0,.int .i64 0,.int .i64 0,.string ⟨#[]⟩,.slice none 0 0,.slice none 0 0] 27)).alloc (.cells #[] 3)).drew).cell? (ad.add j)=some u):=by
   have h1:(((((w.alloc (.cells #[.int .i64 op,.int .i64 a,.int .i64 n,.string s,.slice ps set.length cps,.slice p len cap] 27)).alloc (.cells #[.int .i64 0,.int .i64 0,.int .i64 0,.string ⟨#[]⟩,.slice none 0 0,.slice none 0 0] 27)).alloc (.cells #[.int .i64 0,.int .i64 0,.int .i64 0,.string ⟨#[]⟩,.slice none 0 0,.slice none 0 0] 27)).alloc (.cells #[] 3)).drew).heap[w.heap.size+1+1+1]? = some (.cells #[] 3 (0,0)):=by
    have h2:=han (((w.alloc (.cells #[.int .i64 op,.int .i64 a,.int .i64 n,.string s,.slice ps set.length cps,.slice p len cap] 27)).alloc (.cells #[.int .i64 0,.int .i64 0,.int .i64 0,.string ⟨#[]⟩,.slice none 0 0,.slice none 0 0] 27)).alloc (.cells #[.int .i64 0,.int .i64 0,.int .i64 0,.string ⟨#[]⟩,.slice none 0 0,.slice none 0 0] 27)) (.cells #[] 3)
    rw [e1] at h2
    exact h2
   exact ⟨jcu h1 (by omega),(HRD.out.below (hb0.trans (hbB.mono (by omega)))).src⟩
  have HBB:Hid (Below ((w.alloc (.cells #[.int .i64 op,.int .i64 a,.int .i64 n,.string s,.slice ps set.length cps,.slice p len cap] 27)).alloc (.cells #[.int .i64 0,.int .i64 0,.int .i64 0,.string ⟨#[]⟩,.slice none 0 0,.slice none 0 0] 27)).heap.size ((w.alloc (.cells #[.int .i64 op,.int .i64 a,.int .i64 n,.string s,.slice ps set.length cps,.slice p len cap] 27)).alloc (.cells #[.int .i64 0,.int .i64 0,.int .i64 0,.string ⟨#[]⟩,.slice none 0 0,.slice none 0 0] 27)) (((((w.alloc (.cells #[.int .i64 op,.int .i64 a,.int .i64 n,.string s,.slice ps set.length cps,.slice p len cap] 27)).alloc (.cells #[.int .i64 0,.int .i64 0,.int .i64 0,.string ⟨#[]⟩,.slice none 0 0,.slice none 0 0] 27)).alloc (.cells #[.int .i64 0,.int .i64 0,.int .i64 0,.string ⟨#[]⟩,.slice none 0 0,.slice none 0 0] 27)).alloc (.cells #[] 3)).drew)∧((w.alloc (.cells #[.int .i64 op,.int .i64 a,.int .i64 n,.string s,.slice ps set.length cps,.slice p len cap] 27)).alloc (.cells #[.int .i64 0,.int .i64 0,.int .i64 0,.string ⟨#[]⟩,.slice none 0 0,.slice none 0 0] 27)).heap.size≤w.heap.size+1+1+1):=⟨hbB,by rw [e0];omega⟩
  have hbC:Below ((w.alloc (.cells #[.int .i64 op,.int .i64 a,.int .i64 n,.string s,.slice ps set.length cps,.slice p len cap] 27)).alloc (.cells #[.int .i64 0,.int .i64 0,.int .i64 0,.string ⟨#[]⟩,.slice none 0 0,.slice none 0 0] 27)).heap.size ((w.alloc (.cells #[.int .i64 op,.int .i64 a,.int .i64 n,.string s,.slice ps set.length cps,.slice p len cap] 27)).alloc (.cells #[.int .i64 0,.int .i64 0,.int .i64 0,.string ⟨#[]⟩,.slice none 0 0,.slice none 0 0] 27)) (((((w.alloc (.cells #[.int .i64 op,.int .i64 a,.int .i64 n,.string s,.slice ps set.length cps,.slice p len cap] 27)).alloc (.cells #[.int .i64 0,.int .i64 0,.int .i64 0,.string ⟨#[]⟩,.slice none 0 0,.slice none 0 0] 27)).alloc (.cells #[] 3)).alloc (.cells #[.int .i64 0,.int .i64 0,.int .i64 0,.string ⟨#[]⟩,.slice none 0 0,.slice none 0 0] 27)).drew):=((newx _ _).trans ((newx _ _).mono (by rw [e1];omega))).drew
  have HOC:Hid ((((((w.alloc (.cells #[.int .i64 op,.int .i64 a,.int .i64 n,.string s,.slice ps set.length cps,.slice p len cap] 27)).alloc (.cells #[.int .i64 0,.int .i64 0,.int .i64 0,.string ⟨#[]⟩,.slice none 0 0,.slice none 0 0] 27)).alloc (.cells #[] 3)).alloc (.cells #[.int .i64 0,.int .i64 0,.int .i64 0,.string ⟨#[]⟩,.slice none 0 0,.slice none 0 0] 27)).drew).ownsRow (w.heap.size+2) 3 1 (.slice (some ⟨w.heap.size+1+1,0,none⟩) 0 0) 0 []∧(ps=none→set.length=0∧cps=0)∧∀ ad,ps=some ad→∀ j u,(set.map (Value.int .i64))[j]? = some u→(((((w.alloc (.cells #[.int .i64 op,.int .i64 a,.int .i64 n,.string s,.slice ps set.length cps,.slice p len cap] 27)).alloc (.cells #[.int .i64 0,.int .i64 0,.int .i64 0,.string ⟨#[]⟩,.slice none 0 0,.slice none 0 0] 27)).alloc (.cells #[] 3)).alloc (.cells #[.int .i64 0,.int .i64 0,.int .i64 0,.string ⟨#[]⟩,.slice none 0 0,.slice none 0 0] 27)).drew).cell? (ad.add j)=some u):=by
   have h1:(((((w.alloc (.cells #[.int .i64 op,.int .i64 a,.int .i64 n,.string s,.slice ps set.length cps,.slice p len cap] 27)).alloc (.cells #[.int .i64 0,.int .i64 0,.int .i64 0,.string ⟨#[]⟩,.slice none 0 0,.slice none 0 0] 27)).alloc (.cells #[] 3)).alloc (.cells #[.int .i64 0,.int .i64 0,.int .i64 0,.string ⟨#[]⟩,.slice none 0 0,.slice none 0 0] 27)).drew).heap[w.heap.size+1+1]? = some (.cells #[] 3 (0,0)):=by
    have h2:=han ((w.alloc (.cells #[.int .i64 op,.int .i64 a,.int .i64 n,.string s,.slice ps set.length cps,.slice p len cap] 27)).alloc (.cells #[.int .i64 0,.int .i64 0,.int .i64 0,.string ⟨#[]⟩,.slice none 0 0,.slice none 0 0] 27)) (.cells #[] 3)
    rw [e0] at h2
    exact (bha _ _ _ (by rw [e1];omega)).trans h2
   exact ⟨jcu h1 (by omega),(HRD.out.below (hb0.trans (hbC.mono (by omega)))).src⟩
  have HBC:Hid (Below ((w.alloc (.cells #[.int .i64 op,.int .i64 a,.int .i64 n,.string s,.slice ps set.length cps,.slice p len cap] 27)).alloc (.cells #[.int .i64 0,.int .i64 0,.int .i64 0,.string ⟨#[]⟩,.slice none 0 0,.slice none 0 0] 27)).heap.size ((w.alloc (.cells #[.int .i64 op,.int .i64 a,.int .i64 n,.string s,.slice ps set.length cps,.slice p len cap] 27)).alloc (.cells #[.int .i64 0,.int .i64 0,.int .i64 0,.string ⟨#[]⟩,.slice none 0 0,.slice none 0 0] 27)) (((((w.alloc (.cells #[.int .i64 op,.int .i64 a,.int .i64 n,.string s,.slice ps set.length cps,.slice p len cap] 27)).alloc (.cells #[.int .i64 0,.int .i64 0,.int .i64 0,.string ⟨#[]⟩,.slice none 0 0,.slice none 0 0] 27)).alloc (.cells #[] 3)).alloc (.cells #[.int .i64 0,.int .i64 0,.int .i64 0,.string ⟨#[]⟩,.slice none 0 0,.slice none 0 0] 27)).drew)∧((w.alloc (.cells #[.int .i64 op,.int .i64 a,.int .i64 n,.string s,.slice ps set.length cps,.slice p len cap] 27)).alloc (.cells #[.int .i64 0,.int .i64 0,.int .i64 0,.string ⟨#[]⟩,.slice none 0 0,.slice none 0 0] 27)).heap.size≤w.heap.size+1+1):=⟨hbC,by rw [e0];omega⟩
  have H6B:Hid (Six (((((w.alloc (.cells #[.int .i64 op,.int .i64 a,.int .i64 n,.string s,.slice ps set.length cps,.slice p len cap] 27)).alloc (.cells #[.int .i64 0,.int .i64 0,.int .i64 0,.string ⟨#[]⟩,.slice none 0 0,.slice none 0 0] 27)).alloc (.cells #[.int .i64 0,.int .i64 0,.int .i64 0,.string ⟨#[]⟩,.slice none 0 0,.slice none 0 0] 27)).alloc (.cells #[] 3)).drew) (w.heap.size+1+1) 0 0 0 ⟨#[]⟩ (.slice none 0 0) (.slice none 0 0) 27):=by
   have h2:=han ((w.alloc (.cells #[.int .i64 op,.int .i64 a,.int .i64 n,.string s,.slice ps set.length cps,.slice p len cap] 27)).alloc (.cells #[.int .i64 0,.int .i64 0,.int .i64 0,.string ⟨#[]⟩,.slice none 0 0,.slice none 0 0] 27)) (.cells #[.int .i64 0,.int .i64 0,.int .i64 0,.string ⟨#[]⟩,.slice none 0 0,.slice none 0 0] 27)
   rw [e0] at h2
   exact (bha _ _ _ (by rw [e1];omega)).trans h2
  have H6C:Hid (Six (((((w.alloc (.cells #[.int .i64 op,.int .i64 a,.int .i64 n,.string s,.slice ps set.length cps,.slice p len cap] 27)).alloc (.cells #[.int .i64 0,.int .i64 0,.int .i64 0,.string ⟨#[]⟩,.slice none 0 0,.slice none 0 0] 27)).alloc (.cells #[] 3)).alloc (.cells #[.int .i64 0,.int .i64 0,.int .i64 0,.string ⟨#[]⟩,.slice none 0 0,.slice none 0 0] 27)).drew) (w.heap.size+1+1+1) 0 0 0 ⟨#[]⟩ (.slice none 0 0) (.slice none 0 0) 27):=by
   have h2:=han (((w.alloc (.cells #[.int .i64 op,.int .i64 a,.int .i64 n,.string s,.slice ps set.length cps,.slice p len cap] 27)).alloc (.cells #[.int .i64 0,.int .i64 0,.int .i64 0,.string ⟨#[]⟩,.slice none 0 0,.slice none 0 0] 27)).alloc (.cells #[] 3)) (.cells #[.int .i64 0,.int .i64 0,.int .i64 0,.string ⟨#[]⟩,.slice none 0 0,.slice none 0 0] 27)
   rw [e1] at h2
   exact h2
  have HA6:Hid (Six ((w.alloc (.cells #[.int .i64 op,.int .i64 a,.int .i64 n,.string s,.slice ps set.length cps,.slice p len cap] 27)).alloc (.cells #[.int .i64 0,.int .i64 0,.int .i64 0,.string ⟨#[]⟩,.slice none 0 0,.slice none 0 0] 27)) w.heap.size op a n s (.slice ps set.length cps) (.slice p len cap) 27):=(bha _ _ _ (by simp)).trans (han w _)
  have HLM:Hid ((set.map (Value.int .i64)).length=set.length*1):=by show _=_;simp
  have HL1:Hid (0+set.length≤maxLen):=by show _≤_;unfold maxLen;omega
  have HL2:Hid ((0+set.length)*8≤140737488355328):=by show _≤_;omega
  have HSZA:Hid (w.heap.size+2≤((((w.alloc (.cells #[.int .i64 op,.int .i64 a,.int .i64 n,.string s,.slice ps set.length cps,.slice p len cap] 27)).alloc (.cells #[.int .i64 0,.int .i64 0,.int .i64 0,.string ⟨#[]⟩,.slice none 0 0,.slice none 0 0] 27)).alloc (.cells #[] 3)).drew).heap.size):=by show _≤_;simp
  have HSZB:Hid (w.heap.size+2≤(((((w.alloc (.cells #[.int .i64 op,.int .i64 a,.int .i64 n,.string s,.slice ps set.length cps,.slice p len cap] 27)).alloc (.cells #[.int .i64 0,.int .i64 0,.int .i64 0,.string ⟨#[]⟩,.slice none 0 0,.slice none 0 0] 27)).alloc (.cells #[.int .i64 0,.int .i64 0,.int .i64 0,.string ⟨#[]⟩,.slice none 0 0,.slice none 0 0] 27)).alloc (.cells #[] 3)).drew).heap.size):=by show _≤_;simp
  have HSZC:Hid (w.heap.size+2≤(((((w.alloc (.cells #[.int .i64 op,.int .i64 a,.int .i64 n,.string s,.slice ps set.length cps,.slice p len cap] 27)).alloc (.cells #[.int .i64 0,.int .i64 0,.int .i64 0,.string ⟨#[]⟩,.slice none 0 0,.slice none 0 0] 27)).alloc (.cells #[] 3)).alloc (.cells #[.int .i64 0,.int .i64 0,.int .i64 0,.string ⟨#[]⟩,.slice none 0 0,.slice none 0 0] 27)).drew).heap.size):=by show _≤_;simp
  clear hbA hbB hbC hb0 e0 e1
  go_enter Tryz.func32,Tryz.ntmps32
  go_upto_region 1 with fail
  go_cut [5] from 7 (fun v5 wx=>∃ (O B:Nat) (sv:Value),v5=.pointer (some ⟨O,0,none⟩)∧XLoop [] w wx B w.heap.size (w.heap.size+1) O (.cells #[.int .i64 op,.int .i64 a,.int .i64 n,.string s,.slice ps set.length cps,.slice p len cap] 27) op a n s set sv kid 0 (.slice none 0 0) [] [])
  case first =>
   go_region_held3 (fun w'=>w'.cell? ⟨w.heap.size,0,none⟩=some (.int .i64 op)∧w'.cell? ⟨w.heap.size,1,none⟩=some (.int .i64 a)∧w'.cell? ⟨w.heap.size,2,none⟩=some (.int .i64 n)∧w'.cell? ⟨w.heap.size,3,none⟩=some (.string s)∧w'.cell? ⟨w.heap.size,4,none⟩=some (.slice ps set.length cps)) (first|go_keep|(with_reducible exact hS4)|(with_reducible exact hSP)) (first
    | (refine ja0 rfl (.tmp 15) (.tmp 17) 24 rfl (w.heap.size+2) 3 iI (.int .i64 0) 1 8 Tryz.underlying24 hiI hzI0 hzI1 hzI2 rfl Nat.one_pos (.slice (some ⟨w.heap.size+1+1,0,none⟩) 0 0) 0 [] rfl ?_ ps set.length cps (set.map (Value.int .i64)) rfl HLM.out HOA.out.2.1 ?_ (jaN set) HL1.out HL2.out ?_ ?_;(with_reducible exact HOA.out.1);(with_reducible exact HOA.out.2.2);exact HSZA.out;intro v' w4 hown4 hg4;have hR:=jcv HBA.out.1 HBA.out.2 hown4.out hg4.out;obtain ⟨pv,cv,hv⟩:=jbM hR.1;subst hv;have hA4:=HA6.out.below hR.2;have hS4:=jcf hA4;clear hA4;have HEND:Hid (∃ (O B:Nat) (sv:Value),Value.pointer (some ⟨w4.heap.size,0,none⟩)=.pointer (some ⟨O,0,none⟩)∧XLoop [] w (w4.alloc (.cells #[.int .i64 op,.int .i64 a,.int .i64 n,.string s,.slice pv set.length cv,.slice none 0 0] 27)) B w.heap.size (w.heap.size+1) O (.cells #[.int .i64 op,.int .i64 a,.int .i64 n,.string s,.slice ps set.length cps,.slice p len cap] 27) op a n s set sv kid 0 (.slice none 0 0) [] []):=jk2 (jfT _ hR.2 hR.1);clear hown4 hg4 hR)
    | (refine ja0 rfl (.tmp 15) (.tmp 17) 24 rfl (w.heap.size+2) 3 iI (.int .i64 0) 1 8 Tryz.underlying24 hiI hzI0 hzI1 hzI2 rfl Nat.one_pos (.slice (some ⟨w.heap.size+1+1+1,0,none⟩) 0 0) 0 [] rfl ?_ ps set.length cps (set.map (Value.int .i64)) rfl HLM.out HOA.out.2.1 ?_ (jaN set) HL1.out HL2.out ?_ ?_;(with_reducible exact HOB.out.1);(with_reducible exact HOB.out.2.2);exact HSZB.out;intro v' w4 hown4 hg4;have hR:=jcv HBB.out.1 HBB.out.2 hown4.out hg4.out;obtain ⟨pv,cv,hv⟩:=jbM hR.1;subst hv;have hA4:=HA6.out.below hR.2;have hS4:=jcf hA4;have hSP:=jcf (jhf (g:=w.heap.size+1+1) hA4 op a n s (.slice pv set.length cv) (.slice none 0 0) (by omega));clear hA4;have h6:=H6B.out.grown hg4.out (by omega);obtain ⟨q0,q1,q2,q3,q4,q5⟩:=h6.cells;have qf:=h6.fr;have HEND:Hid (∃ (O B:Nat) (sv:Value),Value.pointer (some ⟨w.heap.size+1+1,0,none⟩)=.pointer (some ⟨O,0,none⟩)∧XLoop [] w (put6 w4 (w.heap.size+1+1) op a n s (.slice pv set.length cv) (.slice none 0 0)) B w.heap.size (w.heap.size+1) O (.cells #[.int .i64 op,.int .i64 a,.int .i64 n,.string s,.slice ps set.length cps,.slice p len cap] 27) op a n s set sv kid 0 (.slice none 0 0) [] []):=jk2 (jd4 _ hR.2 hR.1 (by omega) h6 (jhc hR.1 h6));clear h6;clear hown4 hg4 hR)
    | (refine ja0 rfl (.tmp 15) (.tmp 17) 24 rfl (w.heap.size+2) 3 iI (.int .i64 0) 1 8 Tryz.underlying24 hiI hzI0 hzI1 hzI2 rfl Nat.one_pos (.slice (some ⟨w.heap.size+1+1,0,none⟩) 0 0) 0 [] rfl ?_ ps set.length cps (set.map (Value.int .i64)) rfl HLM.out HOA.out.2.1 ?_ (jaN set) HL1.out HL2.out ?_ ?_;(with_reducible exact HOC.out.1);(with_reducible exact HOC.out.2.2);exact HSZC.out;intro v' w4 hown4 hg4;have hR:=jcv HBC.out.1 HBC.out.2 hown4.out hg4.out;obtain ⟨pv,cv,hv⟩:=jbM hR.1;subst hv;have hA4:=HA6.out.below hR.2;have hS4:=jcf hA4;have hSP:=jcf (jhf (g:=w.heap.size+1+1+1) hA4 op a n s (.slice pv set.length cv) (.slice none 0 0) (by omega));clear hA4;have h6:=H6C.out.grown hg4.out (by omega);obtain ⟨q0,q1,q2,q3,q4,q5⟩:=h6.cells;have qf:=h6.fr;have HEND:Hid (∃ (O B:Nat) (sv:Value),Value.pointer (some ⟨w.heap.size+1+1+1,0,none⟩)=.pointer (some ⟨O,0,none⟩)∧XLoop [] w (put6 w4 (w.heap.size+1+1+1) op a n s (.slice pv set.length cv) (.slice none 0 0)) B w.heap.size (w.heap.size+1) O (.cells #[.int .i64 op,.int .i64 a,.int .i64 n,.string s,.slice ps set.length cps,.slice p len cap] 27) op a n s set sv kid 0 (.slice none 0 0) [] []):=jk2 (jd4 _ hR.2 hR.1 (by omega) h6 (jhc hR.1 h6));clear h6;clear hown4 hg4 hR))
   all_goals
    go_wp2_with fail
    go_meet
    exact HEND.out
  case rest =>
   obtain ⟨O,B0,sv0,rfl,hL0⟩:=hcut
   have H00:Hid (XLoop [] w wc B0 w.heap.size (w.heap.size+1) O (.cells #[.int .i64 op,.int .i64 a,.int .i64 n,.string s,.slice ps set.length cps,.slice p len cap] 27) op a n s set sv0 kid 0 (.slice none 0 0) [] []):=hL0
   clear hL0 HOA HOB HOC HBA HBB HBC H6B H6C HA6 HSZA HSZB HSZC HLM HL1 HL2
   obtain ⟨C,hC⟩:∃ C,C=w.heap.size:=⟨_,rfl⟩
   obtain ⟨R,hR⟩:∃ R,R=w.heap.size+1:=⟨_,rfl⟩
   have HH0:Hid (XLoop [] w wc B0 C R O (.cells #[.int .i64 op,.int .i64 a,.int .i64 n,.string s,.slice ps set.length cps,.slice p len cap] 27) op a n s set sv0 kid 0 (.slice none 0 0) [] []):=by
    show XLoop _ _ _ _ _ _ _ _ _ _ _ _ _ _ _ _ _ _ _
    rw [hR,hC];exact H00.out
   clear H00
   rw [←hR,←hC]
   have hCO:C≠O:=HH0.out.ord.2.2.2.2.2.2.2.1
   have hRO:R≠O:=HH0.out.ord.2.2.2.2.2.2.2.2
   clear hC hR
   have hA0:Six wc C op a n s (.slice ps set.length cps) (.slice p len cap) 27:=HH0.out.arg
   obtain ⟨z0,z1,z2,z3,z4,z5⟩:=hA0.cells
   clear hA0
   have HCC:Hid (CurAt c ca cl cc wc):=HCU.out.below' HH0.out.bel.toBelow
   by_cases h2:op=2
   case' pos =>
    have d2:(op==2)=true:=by simpa using h2
    clear h2
    go_wp2_with fail
    refine (jgr c ca cl cc 2 (by omega) _ HCC.out).mono ?_
    rintro e w1 ⟨⟨q,rfl⟩,hx1,hc1⟩
    have HL1:=(HH0.out.beside HCW.out).fr (Fr.ext hx1)
    have HH1:Hid (XLoop [c] w w1 B0 C R O (.cells #[.int .i64 op,.int .i64 a,.int .i64 n,.string s,.slice ps set.length cps,.slice p len cap] 27) op a n s set sv0 kid 0 (.slice none 0 0) [] []∧CurAt c ca cl cc w1):=⟨HL1,hc1⟩
    clear HL1 hx1 hc1 HCC HH0
    go_upto_if 26 with fail
    go_cut [] from 7 (fun wx=>∃ (B:Nat) (sv:Value) (Y:List Int),Y.length≤8∧(XLoop [c] w wx B C R O (.cells #[.int .i64 op,.int .i64 a,.int .i64 n,.string s,.slice ps set.length cps,.slice p len cap] 27) op a n s Y sv kid 0 (.slice none 0 0) [] []∧CurAt c ca cl cc wx))
    case' first =>
     cases q
     ·go_wp2_with fail
      go_meet
      exact ⟨_,_,_,HLE.out.1,HH1.out⟩
     ·go_wp2_with fail
      refine (jbY c ca cl cc _ HH1.out.2).mono ?_
      rintro e w2 ⟨u,xs,rfl,hxs,hown2,hx2,hc2⟩
      obtain ⟨pv,cv,hv⟩:=jbM hown2
      subst hv
      obtain ⟨hO2,HX2⟩:=HH1.out.1.turnC (Fr.ext hx2) hown2
      have x4:=hO2.cells.2.2.2.2.1
      have xf:=hO2.fr 4
      have HXX:Hid (XLoop [c] w (w2.setCell ⟨O,4,none⟩ (.slice pv xs.length cv)) w2.heap.size C R O (.cells #[.int .i64 op,.int .i64 a,.int .i64 n,.string s,.slice ps set.length cps,.slice p len cap] 27) op a n s xs (.slice pv xs.length cv) kid 0 (.slice none 0 0) [] []∧CurAt c ca cl cc (w2.setCell ⟨O,4,none⟩ (.slice pv xs.length cv))):=⟨HX2,hc2.keepB (fun g hg=>bhs w2 ⟨O,4,none⟩ _ g (by show g≠O;have:=HH1.out.1.ord.2.2.2.1;have:=HCW.out;omega))⟩
      have HXS:Hid (xs.length≤8):=hxs
      clear HX2 hO2 hown2 hx2 hc2 hxs
      go_wp2_with fail
      go_meet
      exact ⟨_,_,_,HXS.out,HXX.out⟩
   case' neg =>
    have HH1:Hid (XLoop [c] w wc B0 C R O (.cells #[.int .i64 op,.int .i64 a,.int .i64 n,.string s,.slice ps set.length cps,.slice p len cap] 27) op a n s set sv0 kid 0 (.slice none 0 0) [] []∧CurAt c ca cl cc wc):=⟨HH0.out.beside HCW.out,HCC.out⟩
    have d2:(op==2)=false:=by simpa using h2
    clear h2 HCC HH0
    go_upto_if 26 with fail
    go_cut [] from 7 (fun wx=>∃ (B:Nat) (sv:Value) (Y:List Int),Y.length≤8∧(XLoop [c] w wx B C R O (.cells #[.int .i64 op,.int .i64 a,.int .i64 n,.string s,.slice ps set.length cps,.slice p len cap] 27) op a n s Y sv kid 0 (.slice none 0 0) [] []∧CurAt c ca cl cc wx))
    case' first =>
     go_wp2_with fail
     go_meet
     exact ⟨_,_,_,HLE.out.1,HH1.out⟩
   all_goals
    clear HH1
    obtain ⟨B,sv,Y,hYL,hL0,hC0⟩:=hcut
    have HYL:Hid (Y.length≤8):=hYL
    have HH0:Hid (XLoop [c] w wc B C R O (.cells #[.int .i64 op,.int .i64 a,.int .i64 n,.string s,.slice ps set.length cps,.slice p len cap] 27) op a n s Y sv kid 0 (.slice none 0 0) [] []∧CurAt c ca cl cc wc):=⟨hL0,hC0⟩
    clear hL0 hC0 hYL z0 z1 z2 z3 z4 z5 d2
    go_wp2_with fail
    go_loopw [6] (fun v4 wr=>∃ (k:Nat) (lv:Value) (la:List XR) (SS:List (List Nat)) (kd:Nat→X),v4=.int .i64 k∧k≤len∧XLoop [c] w wr B C R O (.cells #[.int .i64 op,.int .i64 a,.int .i64 n,.string s,.slice ps set.length cps,.slice p len cap] 27) op a n s Y sv kd k lv la SS∧CurAt c ca cl cc wr∧KidsLike kid kd k) (fun v4 _=>len-(intOf v4).toNat)
    case atStart=>exact ⟨0,_,_,_,_,rfl,nzl _,HH0.out.1,HH0.out.2,KidsLike.nil _⟩
    case round =>
     obtain ⟨k,lv,la,SS,kd,rfl,hk,hL,hcr,hkl0⟩:=hrel
     have HL:Hid (XLoop [c] w wr B C R O (.cells #[.int .i64 op,.int .i64 a,.int .i64 n,.string s,.slice ps set.length cps,.slice p len cap] 27) op a n s Y sv kd k lv la SS):=hL
     have HCR:Hid (CurAt c ca cl cc wr∧KidsLike kid kd k):=⟨hcr,hkl0⟩
     clear hcr hkl0
     have hA:Six wr C op a n s (.slice ps set.length cps) (.slice p len cap) 27:=hL.arg
     have a4:=hA.cells.2.2.2.2.2
     obtain ⟨o0,o1,o2,o3,o4,o5⟩:=hL.out.cells
     clear hL HH0
     by_cases hkl:(k:Int)<len
     ·obtain ⟨b,o,ux,u,hp,hcb,hd,hinu⟩:=HAT.out k (by omega)
      subst hp
      obtain ⟨c0,c1,c2,c3,c4,c5⟩:=hd.ext HL.out.bel.toExt (by omega)
      have HIN:Hid ((kid k).At (c+1) wr.drew ux u):=X.At.below (brf _ wr).drew (X.At.ext HL.out.bel.toExt (by omega) hinu)
      have HCD:Hid (CurAt c ca cl cc wr.drew):=HCR.out.1.below' (brf _ wr).drew
      have HKL:Hid (k<len):=by show k<len;omega
      have HOWN:Hid (wr.ownsRow 0 27 6 lv k (jau la)):=HL.out.rows.own
      have hOl:O<wr.heap.size:=HL.out.out.lt
      have hCl:C<wr.heap.size:=hA.lt
      have hbl:b<wr.heap.size:=wbl wr _ c0
      clear hd hinu hA hcb
      have hki0:(0:Int)≤(k:Int):=by omega
      have HCF:Hid (∀ (vs:Array Value) (w:World),(callFunc 32 vs).run Tryz.prog w=.ok (.enter 32 vs) w):=fun vs w=>jmw vs w
      go_wp2_with fail
      go_region_law
       (first
        | (refine ja8 rfl 32 (.tmp 39) (.tmp 44) 35 27 rfl HCF.out (.pointer (some ⟨c,0,none⟩)) (.agg #[.int .i64 (kid k).op,.int .i64 (kid k).at_,.int .i64 (kid k).n,.string (kid k).s,ux,u]) rfl rfl _ (IH.out k HKL.out wr.drew ux u HCD.out HIN.out) ?_;rintro e w1 ⟨t',su',v',T,rfl,⟨hb1,hc1⟩,hd1,hn1,hT1,hdx1,hsl1⟩;refine ⟨_,rfl,?_⟩;have HC1:Hid (Ext c wr w1∧XOwn w1 t' su' v' T∧T.Nodup∧(∀ x∈T,wr.heap.size≤x)∧CurAt c ca cl cc w1∧datX t'=datX (kid k)∧t'.SetsLe 8):=⟨⟨hb1.os,hb1.tape,hb1.output,hb1.size,hb1.block⟩,hd1,hn1,hT1,hc1,hdx1,hsl1⟩;obtain ⟨pv,cv,hv'⟩:=hd1.at0.xs.shape;obtain ⟨pw,cw,hw'⟩:=hd1.at0.sets.shape;subst hv' hw';have hf1:=HL.out.fr (Fr.ext HC1.out.1);have z4:w1.cell? ⟨O,5,none⟩=some lv:=hf1.out.cells.2.2.2.2.2;have z5:∀ ob,(w1.alloc ob).cell? ⟨O,5,none⟩=some lv:=fun ob=>((newx w1 ob).cell (by exact nll hOl HC1.out.1.size)).trans z4;have hy1:Six w1 C op a n s (.slice ps set.length cps) (.slice (some ⟨b,o,none⟩) len cap) 27:=hf1.arg;have y4:w1.cell? ⟨C,5,none⟩=some (.slice (some ⟨b,o,none⟩) len cap):=hy1.cells.2.2.2.2.2;have HO1:Hid (w1.ownsRow 0 27 6 lv k (jau la)):=hf1.rows.own;clear hb1 hc1 hd1 hn1 hT1 hdx1 hsl1 hf1 hy1)
        | (refine step_append_lies _ (by rfl) _ _ _ (by rfl) 0 27 i0 _ 6 88 Tryz.underlying25 hi0 hz0 hz1 hz2 rfl (by omega) lv k (jau la) (by rfl) (HO1.out.alloc _) ⟨w1.heap.size,0,none⟩ 1 1 [.int .i64 (kid k).op,.int .i64 (kid k).at_,.int .i64 (kid k).n,.string (kid k).s,.slice pw t'.set.length cw,.slice pv t'.len cv] (by rfl) (by rfl) (World.news_of_block (cs:=#[.int .i64 (kid k).op,.int .i64 (kid k).at_,.int .i64 (kid k).n,.string (kid k).s,.slice pw t'.set.length cw,.slice pv t'.len cv]) (t:=27) (fr:=(0,0)) (han w1 _)) (by simp [Value.oneCell']) (by omega) (by unfold maxLen;omega) (by omega) (Nat.zero_le _) (w1.heap.size+1) (by simp) ?_;intro gg cap3 w3 hown3 hgrow hat hlt3;obtain ⟨hO3,hnx,hlow⟩:=HL.out.nextAny (Fr.ext HC1.out.1) HC1.out.2.1 HC1.out.2.2.1 HC1.out.2.2.2.1 (by rw [jmv HC1.out.2.2.2.2.2.1];exact hown3) hgrow hat;have HCN:Hid (CurAt c ca cl cc (w3.setCell ⟨O,5,none⟩ (.slice (some ⟨gg,0,none⟩) (k+1) cap3))):=HC1.out.2.2.2.2.1.keepB (fun x hx=>hlow x (Nat.lt_of_le_of_lt hx HCW.out));have HNX:Hid (XLoop [c] w (w3.setCell ⟨O,5,none⟩ (.slice (some ⟨gg,0,none⟩) (k+1) cap3)) B C R O (.cells #[.int .i64 op,.int .i64 a,.int .i64 n,.string s,.slice ps set.length cps,.slice (some ⟨b,o,none⟩) len cap] 27) op a n s Y sv (jeL kd k t') (k+1) (.slice (some ⟨gg,0,none⟩) (k+1) cap3) (la++[(t',.slice pw t'.set.length cw,.slice pv t'.len cv)]) (SS++[T])):=hnx;have x4:w3.cell? ⟨O,5,none⟩=some lv:=(World.cell?_of_block (a:=⟨O,5,none⟩) hO3).trans o5;have xf:w3.frozen? ⟨O,5,none⟩=false:=(World.frozen?_of_block (a:=⟨O,5,none⟩) hO3).trans (HL.out.out.fr 5);clear hO3 hnx hlow hown3 hgrow hat hlt3))
      all_goals
       go_wp2_with fail
       go_roundw
       case rel=>exact ⟨k+1,_,_,_,_,by go_num,by omega,HNX.out,HCN.out,HCR.out.2.put HC1.out.2.2.2.2.2.1 HC1.out.2.2.2.2.2.2⟩
       case measure=>simp [intOf];omega
     ·obtain rfl:k=len:=by omega
      obtain ⟨r0,r1,r2,r3,r4,r5⟩:=HL.out.res.cells
      have rf:=HL.out.res.fr
      obtain ⟨hfr,S,hX,hSn,hSg⟩:=HL.out.done ⟨HPL.out.1,HPL.out.2,by have:=HYL.out;unfold maxLen;omega⟩
      obtain ⟨pv,cv,hlv⟩:=hX.at0.xs.shape
      obtain ⟨pw,cw,hsv⟩:=hX.at0.sets.shape
      simp only [X.len,X.set] at hlv hsv
      subst hlv hsv
      have HS:Hid ((Ext c w (put6 wr R op a n s (.slice pw Y.length cw) (.slice pv k cv))∧CurAt c ca cl cc (put6 wr R op a n s (.slice pw Y.length cw) (.slice pv k cv)))∧XOwn (put6 wr R op a n s (.slice pw Y.length cw) (.slice pv k cv)) (.mk op a n s Y k kd) (.slice pw Y.length cw) (.slice pv k cv) S∧S.Nodup∧(∀ x∈S,w.heap.size≤x)∧datX (.mk op a n s Y k kd)=datX (.mk op a n s set k kid)∧(X.mk op a n s Y k kd).SetsLe 8):=⟨⟨hfr.toExt,HCR.out.1.keepB (fun x hx=>jaZ wr R op a n s _ _ x (by have:=HL.out.ord.2.2.1;have:=HCW.out;omega))⟩,hX,hSn,hSg,HCR.out.2.mk op a n s set HYL.out⟩
      obtain ⟨TT,hTT⟩:∃ TT,TT=X.mk op a n s Y k kd:=⟨_,rfl⟩
      rw [←hTT] at HS
      clear hfr hX hSn hSg HL HAT IH hTT HYL HCR
      generalize Y.length=yl at *
      go_wp2_with fail
      refine bpr (v:=.agg #[.int .i64 op,.int .i64 a,.int .i64 n,.string s,.slice pw yl cw,.slice pv k cv]) (by rw [jae (p:=4) (ty:=27) (by kernel_rfl)];simp [go_sem,r0,r1,r2,r3,r4,r5]) rfl ⟨TT,_,_,rfl,HS.out.1,S,HS.out.2⟩
end Go.Proofs.YtjmlfacbcfbhdaaGreatDoor
