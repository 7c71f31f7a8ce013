/- spec.l5Copy. Condition: at most 2^20 of it. -/
import Derived.Test.YtjmlfacbcfbhdaaGreatDoorYA
import Derived.Test.YtjmlfacbcfbhdaaGreatDoorY0
import Derived.Test.YtjmlfacbcfbhdaaGreatDoorY10
import Derived.Test.YtjmlfacbcfbhdaaGreatDoorY1
import Derived.Deep.AppendLies
import Derived.Deep.Cut
import Derived.Deep.RegionHeld3
set_option maxRecDepth 100000
set_option maxHeartbeats 8000000
namespace Go.Proofs.YtjmlfacbcfbhdaaGreatDoor
open Go.ChangeShapes Go.WideShapes Go.ChangeAt Go.RowKit
def jij (t:X):Prop:=∀ (w:World) (sv v:Value),t.At 0 w sv v→t.weight≤1048576→Calls Tryz.prog 46 #[.agg #[.int .i64 t.op,.int .i64 t.at_,.int .i64 t.n,.string t.s,sv,v]] w fun e w' =>
 ∃ su u S,e=.returned (.agg #[.int .i64 t.op,.int .i64 t.at_,.int .i64 t.n,.string t.s,su,u])∧Below w.heap.size w w'∧XOwn w' t su u S∧S.Nodup∧∀ x∈S,w.heap.size≤x
theorem jfg (vs:Array Value) (w:World):(callFunc 46 vs).run Tryz.prog w=.ok (.enter 46 vs) w:=by kernel_rfl
theorem jiq (d:X) (su v:Value):jbP (d,su,v)=[.int .i64 d.op,.int .i64 d.at_,.int .i64 d.n,.string d.s,su,v]:=by cases d <;> rfl
theorem jcV (t:X):jij t:=by
 induction t with
 | no=>intro w sv v h;exact h.elim
 | mk op a n s set len kid ih =>
  intro w sv v hin hwt
  obtain ⟨i0,hi0,hz0,hz1,hz2⟩:=info_parts jcI
  obtain ⟨iI,hiI,hzI0,hzI1,hzI2⟩:=info_parts jca
  have hsl:XsAt 0 w len kid v:=hin.xs
  have hss:SetB 0 w sv set:=hin.sets
  have HPL:Hid (s.size≤maxLen∧-9223372036854775808≤n∧n≤9223372036854775807):=⟨hin.size,hin.num⟩
  obtain ⟨p,cap,rfl,-,hat⟩:=hsl.at
  obtain ⟨ps,cps,hsv⟩:=hss.shape
  subst hsv
  have hwe:(X.mk op a n s set len kid).weight=s.size+(set.length+(len+sumX (fun i=>(kid i).weight) len)):=rfl
  have hlen:len≤1048576:=by omega
  have hsl2:set.length≤1048576:=by omega
  have HRD:Hid (Rd w (.slice ps set.length cps) set):=hss.rd
  have IH:Hid (∀ i,i<len→∀ (w:World) (sv v:Value),(kid i).At 0 w sv v→Calls Tryz.prog 46 #[.agg #[.int .i64 (kid i).op,.int .i64 (kid i).at_,.int .i64 (kid i).n,.string (kid i).s,sv,v]] w fun e w' =>
   ∃ su u S,e=.returned (.agg #[.int .i64 (kid i).op,.int .i64 (kid i).at_,.int .i64 (kid i).n,.string (kid i).s,su,u])∧Below w.heap.size w w'∧XOwn w' (kid i) su u S∧S.Nodup∧∀ x∈S,w.heap.size≤x):=fun i hi w sv v h=>ih i w sv v h (by
    have h1:=jbo (fun i=>(kid i).weight) i len hi
    omega)
  have HAT:Hid (∀ i,i<len→∃ b o su u,p=some ⟨b,o,none⟩∧Head6 w b (o+i*6) (kid i) su u∧(kid i).At 0 w su u):=hat
  have HYL:Hid (set.length≤maxLen):=by show _≤_;unfold maxLen;omega
  simp only [X.op,X.at_,X.n,X.s]
  clear hin hsl ih hat hwe hwt hss
  have e0:((w.alloc (.cells #[.int .i64 op,.int .i64 a,.int .i64 n,.string s,.slice ps set.length cps,.slice p len cap] 27)).alloc (.cells #[.int .i64 0,.int .i64 0,.int .i64 0,.string ⟨#[]⟩,.slice none 0 0,.slice none 0 0] 27)).heap.size=w.heap.size+2:=by simp
  have e1:∀ ob,(((w.alloc (.cells #[.int .i64 op,.int .i64 a,.int .i64 n,.string s,.slice ps set.length cps,.slice p len cap] 27)).alloc (.cells #[.int .i64 0,.int .i64 0,.int .i64 0,.string ⟨#[]⟩,.slice none 0 0,.slice none 0 0] 27)).alloc ob).heap.size=w.heap.size+1+1+1:=fun ob=>by simp
  have hb0:Below w.heap.size w ((w.alloc (.cells #[.int .i64 op,.int .i64 a,.int .i64 n,.string s,.slice ps set.length cps,.slice p len cap] 27)).alloc (.cells #[.int .i64 0,.int .i64 0,.int .i64 0,.string ⟨#[]⟩,.slice none 0 0,.slice none 0 0] 27)):=(newx w _).trans ((newx _ _).mono (by simp))
  have hbA:Below ((w.alloc (.cells #[.int .i64 op,.int .i64 a,.int .i64 n,.string s,.slice ps set.length cps,.slice p len cap] 27)).alloc (.cells #[.int .i64 0,.int .i64 0,.int .i64 0,.string ⟨#[]⟩,.slice none 0 0,.slice none 0 0] 27)).heap.size ((w.alloc (.cells #[.int .i64 op,.int .i64 a,.int .i64 n,.string s,.slice ps set.length cps,.slice p len cap] 27)).alloc (.cells #[.int .i64 0,.int .i64 0,.int .i64 0,.string ⟨#[]⟩,.slice none 0 0,.slice none 0 0] 27)) ((((w.alloc (.cells #[.int .i64 op,.int .i64 a,.int .i64 n,.string s,.slice ps set.length cps,.slice p len cap] 27)).alloc (.cells #[.int .i64 0,.int .i64 0,.int .i64 0,.string ⟨#[]⟩,.slice none 0 0,.slice none 0 0] 27)).alloc (.cells #[] 3)).drew):=(newx _ _).drew
  have HOA:Hid (((((w.alloc (.cells #[.int .i64 op,.int .i64 a,.int .i64 n,.string s,.slice ps set.length cps,.slice p len cap] 27)).alloc (.cells #[.int .i64 0,.int .i64 0,.int .i64 0,.string ⟨#[]⟩,.slice none 0 0,.slice none 0 0] 27)).alloc (.cells #[] 3)).drew).ownsRow (w.heap.size+2) 3 1 (.slice (some ⟨w.heap.size+1+1,0,none⟩) 0 0) 0 []∧(ps=none→set.length=0∧cps=0)∧∀ ad,ps=some ad→∀ j u,(set.map (Value.int .i64))[j]? = some u→((((w.alloc (.cells #[.int .i64 op,.int .i64 a,.int .i64 n,.string s,.slice ps set.length cps,.slice p len cap] 27)).alloc (.cells #[.int .i64 0,.int .i64 0,.int .i64 0,.string ⟨#[]⟩,.slice none 0 0,.slice none 0 0] 27)).alloc (.cells #[] 3)).drew).cell? (ad.add j)=some u):=by
   have h1:((((w.alloc (.cells #[.int .i64 op,.int .i64 a,.int .i64 n,.string s,.slice ps set.length cps,.slice p len cap] 27)).alloc (.cells #[.int .i64 0,.int .i64 0,.int .i64 0,.string ⟨#[]⟩,.slice none 0 0,.slice none 0 0] 27)).alloc (.cells #[] 3)).drew).heap[w.heap.size+1+1]? = some (.cells #[] 3 (0,0)):=by
    have h2:=han ((w.alloc (.cells #[.int .i64 op,.int .i64 a,.int .i64 n,.string s,.slice ps set.length cps,.slice p len cap] 27)).alloc (.cells #[.int .i64 0,.int .i64 0,.int .i64 0,.string ⟨#[]⟩,.slice none 0 0,.slice none 0 0] 27)) (.cells #[] 3)
    rw [e0] at h2
    exact h2
   exact ⟨jcu h1 (by omega),(HRD.out.below (hb0.trans (hbA.mono (by omega)))).src⟩
  have HBA:Hid (Below ((w.alloc (.cells #[.int .i64 op,.int .i64 a,.int .i64 n,.string s,.slice ps set.length cps,.slice p len cap] 27)).alloc (.cells #[.int .i64 0,.int .i64 0,.int .i64 0,.string ⟨#[]⟩,.slice none 0 0,.slice none 0 0] 27)).heap.size ((w.alloc (.cells #[.int .i64 op,.int .i64 a,.int .i64 n,.string s,.slice ps set.length cps,.slice p len cap] 27)).alloc (.cells #[.int .i64 0,.int .i64 0,.int .i64 0,.string ⟨#[]⟩,.slice none 0 0,.slice none 0 0] 27)) ((((w.alloc (.cells #[.int .i64 op,.int .i64 a,.int .i64 n,.string s,.slice ps set.length cps,.slice p len cap] 27)).alloc (.cells #[.int .i64 0,.int .i64 0,.int .i64 0,.string ⟨#[]⟩,.slice none 0 0,.slice none 0 0] 27)).alloc (.cells #[] 3)).drew)∧((w.alloc (.cells #[.int .i64 op,.int .i64 a,.int .i64 n,.string s,.slice ps set.length cps,.slice p len cap] 27)).alloc (.cells #[.int .i64 0,.int .i64 0,.int .i64 0,.string ⟨#[]⟩,.slice none 0 0,.slice none 0 0] 27)).heap.size≤w.heap.size+1+1):=⟨hbA,by rw [e0];omega⟩
  have hbB:Below ((w.alloc (.cells #[.int .i64 op,.int .i64 a,.int .i64 n,.string s,.slice ps set.length cps,.slice p len cap] 27)).alloc (.cells #[.int .i64 0,.int .i64 0,.int .i64 0,.string ⟨#[]⟩,.slice none 0 0,.slice none 0 0] 27)).heap.size ((w.alloc (.cells #[.int .i64 op,.int .i64 a,.int .i64 n,.string s,.slice ps set.length cps,.slice p len cap] 27)).alloc (.cells #[.int .i64 0,.int .i64 0,.int .i64 0,.string ⟨#[]⟩,.slice none 0 0,.slice none 0 0] 27)) (((((w.alloc (.cells #[.int .i64 op,.int .i64 a,.int .i64 n,.string s,.slice ps set.length cps,.slice p len cap] 27)).alloc (.cells #[.int .i64 0,.int .i64 0,.int .i64 0,.string ⟨#[]⟩,.slice none 0 0,.slice none 0 0] 27)).alloc (.cells #[.int .i64 0,.int .i64 0,.int .i64 0,.string ⟨#[]⟩,.slice none 0 0,.slice none 0 0] 27)).alloc (.cells #[] 3)).drew):=((newx _ _).trans ((newx _ _).mono (by rw [e1];omega))).drew
  have HOB:Hid ((((((w.alloc (.cells #[.int .i64 op,.int .i64 a,.int .i64 n,.string s,.slice ps set.length cps,.slice p len cap] 27)).alloc (.cells #[.int .i64 0,.int .i64 0,.int .i64 0,.string ⟨#[]⟩,.slice none 0 0,.slice none 0 0] 27)).alloc (.cells #[.int .i64 0,.int .i64 0,.int .i64 0,.string ⟨#[]⟩,.slice none 0 0,.slice none 0 0] 27)).alloc (.cells #[] 3)).drew).ownsRow (w.heap.size+2) 3 1 (.slice (some ⟨w.heap.size+1+1+1,0,none⟩) 0 0) 0 []∧(ps=none→set.length=0∧cps=0)∧∀ ad,ps=some ad→∀ j u,(set.map (Value.int .i64))[j]? = some u→(((((w.alloc (.cells #[.int .i64 op,.int .i64 a,.int .i64 n,.string s,.slice ps set.length cps,.slice p len cap] 27)).alloc (.cells #[.int .i64 0,.int .i64 0,.int .i64 0,.string ⟨#[]⟩,.slice none 0 0,.slice none 0 0] 27)).alloc (.cells #[.int .i64 0,.int .i64 0,.int .i64 0,.string ⟨#[]⟩,.slice none 0 0,.slice none 0 0] 27)).alloc (.cells #[] 3)).drew).cell? (ad.add j)=some u):=by
   have h1:(((((w.alloc (.cells #[.int .i64 op,.int .i64 a,.int .i64 n,.string s,.slice ps set.length cps,.slice p len cap] 27)).alloc (.cells #[.int .i64 0,.int .i64 0,.int .i64 0,.string ⟨#[]⟩,.slice none 0 0,.slice none 0 0] 27)).alloc (.cells #[.int .i64 0,.int .i64 0,.int .i64 0,.string ⟨#[]⟩,.slice none 0 0,.slice none 0 0] 27)).alloc (.cells #[] 3)).drew).heap[w.heap.size+1+1+1]? = some (.cells #[] 3 (0,0)):=by
    have h2:=han (((w.alloc (.cells #[.int .i64 op,.int .i64 a,.int .i64 n,.string s,.slice ps set.length cps,.slice p len cap] 27)).alloc (.cells #[.int .i64 0,.int .i64 0,.int .i64 0,.string ⟨#[]⟩,.slice none 0 0,.slice none 0 0] 27)).alloc (.cells #[.int .i64 0,.int .i64 0,.int .i64 0,.string ⟨#[]⟩,.slice none 0 0,.slice none 0 0] 27)) (.cells #[] 3)
    rw [e1] at h2
    exact h2
   exact ⟨jcu h1 (by omega),(HRD.out.below (hb0.trans (hbB.mono (by omega)))).src⟩
  have HBB:Hid (Below ((w.alloc (.cells #[.int .i64 op,.int .i64 a,.int .i64 n,.string s,.slice ps set.length cps,.slice p len cap] 27)).alloc (.cells #[.int .i64 0,.int .i64 0,.int .i64 0,.string ⟨#[]⟩,.slice none 0 0,.slice none 0 0] 27)).heap.size ((w.alloc (.cells #[.int .i64 op,.int .i64 a,.int .i64 n,.string s,.slice ps set.length cps,.slice p len cap] 27)).alloc (.cells #[.int .i64 0,.int .i64 0,.int .i64 0,.string ⟨#[]⟩,.slice none 0 0,.slice none 0 0] 27)) (((((w.alloc (.cells #[.int .i64 op,.int .i64 a,.int .i64 n,.string s,.slice ps set.length cps,.slice p len cap] 27)).alloc (.cells #[.int .i64 0,.int .i64 0,.int .i64 0,.string ⟨#[]⟩,.slice none 0 0,.slice none 0 0] 27)).alloc (.cells #[.int .i64 0,.int .i64 0,.int .i64 0,.string ⟨#[]⟩,.slice none 0 0,.slice none 0 0] 27)).alloc (.cells #[] 3)).drew)∧((w.alloc (.cells #[.int .i64 op,.int .i64 a,.int .i64 n,.string s,.slice ps set.length cps,.slice p len cap] 27)).alloc (.cells #[.int .i64 0,.int .i64 0,.int .i64 0,.string ⟨#[]⟩,.slice none 0 0,.slice none 0 0] 27)).heap.size≤w.heap.size+1+1+1):=⟨hbB,by rw [e0];omega⟩
  have hbC:Below ((w.alloc (.cells #[.int .i64 op,.int .i64 a,.int .i64 n,.string s,.slice ps set.length cps,.slice p len cap] 27)).alloc (.cells #[.int .i64 0,.int .i64 0,.int .i64 0,.string ⟨#[]⟩,.slice none 0 0,.slice none 0 0] 27)).heap.size ((w.alloc (.cells #[.int .i64 op,.int .i64 a,.int .i64 n,.string s,.slice ps set.length cps,.slice p len cap] 27)).alloc (.cells #[.int .i64 0,.int .i64 0,.int .i64 0,.string ⟨#[]⟩,.slice none 0 0,.slice none 0 0] 27)) (((((w.alloc (.cells #[.int .i64 op,.int .i64 a,.int .i64 n,.string s,.slice ps set.length cps,.slice p len cap] 27)).alloc (.cells #[.int .i64 0,.int .i64 0,.int .i64 0,.string ⟨#[]⟩,.slice none 0 0,.slice none 0 0] 27)).alloc (.cells #[] 3)).alloc (.cells #[.int .i64 0,.int .i64 0,.int .i64 0,.string ⟨#[]⟩,.slice none 0 0,.slice none 0 0] 27)).drew):=((newx _ _).trans ((newx _ _).mono (by rw [e1];omega))).drew
  have HOC:Hid ((((((w.alloc (.cells #[.int .i64 op,.int .i64 a,.int .i64 n,.string s,.slice ps set.length cps,.slice p len cap] 27)).alloc (.cells #[.int .i64 0,.int .i64 0,.int .i64 0,.string ⟨#[]⟩,.slice none 0 0,.slice none 0 0] 27)).alloc (.cells #[] 3)).alloc (.cells #[.int .i64 0,.int .i64 0,.int .i64 0,.string ⟨#[]⟩,.slice none 0 0,.slice none 0 0] 27)).drew).ownsRow (w.heap.size+2) 3 1 (.slice (some ⟨w.heap.size+1+1,0,none⟩) 0 0) 0 []∧(ps=none→set.length=0∧cps=0)∧∀ ad,ps=some ad→∀ j u,(set.map (Value.int .i64))[j]? = some u→(((((w.alloc (.cells #[.int .i64 op,.int .i64 a,.int .i64 n,.string s,.slice ps set.length cps,.slice p len cap] 27)).alloc (.cells #[.int .i64 0,.int .i64 0,.int .i64 0,.string ⟨#[]⟩,.slice none 0 0,.slice none 0 0] 27)).alloc (.cells #[] 3)).alloc (.cells #[.int .i64 0,.int .i64 0,.int .i64 0,.string ⟨#[]⟩,.slice none 0 0,.slice none 0 0] 27)).drew).cell? (ad.add j)=some u):=by
   have h1:(((((w.alloc (.cells #[.int .i64 op,.int .i64 a,.int .i64 n,.string s,.slice ps set.length cps,.slice p len cap] 27)).alloc (.cells #[.int .i64 0,.int .i64 0,.int .i64 0,.string ⟨#[]⟩,.slice none 0 0,.slice none 0 0] 27)).alloc (.cells #[] 3)).alloc (.cells #[.int .i64 0,.int .i64 0,.int .i64 0,.string ⟨#[]⟩,.slice none 0 0,.slice none 0 0] 27)).drew).heap[w.heap.size+1+1]? = some (.cells #[] 3 (0,0)):=by
    have h2:=han ((w.alloc (.cells #[.int .i64 op,.int .i64 a,.int .i64 n,.string s,.slice ps set.length cps,.slice p len cap] 27)).alloc (.cells #[.int .i64 0,.int .i64 0,.int .i64 0,.string ⟨#[]⟩,.slice none 0 0,.slice none 0 0] 27)) (.cells #[] 3)
    rw [e0] at h2
    exact (bha _ _ _ (by rw [e1];omega)).trans h2
   exact ⟨jcu h1 (by omega),(HRD.out.below (hb0.trans (hbC.mono (by omega)))).src⟩
  have HBC:Hid (Below ((w.alloc (.cells #[.int .i64 op,.int .i64 a,.int .i64 n,.string s,.slice ps set.length cps,.slice p len cap] 27)).alloc (.cells #[.int .i64 0,.int .i64 0,.int .i64 0,.string ⟨#[]⟩,.slice none 0 0,.slice none 0 0] 27)).heap.size ((w.alloc (.cells #[.int .i64 op,.int .i64 a,.int .i64 n,.string s,.slice ps set.length cps,.slice p len cap] 27)).alloc (.cells #[.int .i64 0,.int .i64 0,.int .i64 0,.string ⟨#[]⟩,.slice none 0 0,.slice none 0 0] 27)) (((((w.alloc (.cells #[.int .i64 op,.int .i64 a,.int .i64 n,.string s,.slice ps set.length cps,.slice p len cap] 27)).alloc (.cells #[.int .i64 0,.int .i64 0,.int .i64 0,.string ⟨#[]⟩,.slice none 0 0,.slice none 0 0] 27)).alloc (.cells #[] 3)).alloc (.cells #[.int .i64 0,.int .i64 0,.int .i64 0,.string ⟨#[]⟩,.slice none 0 0,.slice none 0 0] 27)).drew)∧((w.alloc (.cells #[.int .i64 op,.int .i64 a,.int .i64 n,.string s,.slice ps set.length cps,.slice p len cap] 27)).alloc (.cells #[.int .i64 0,.int .i64 0,.int .i64 0,.string ⟨#[]⟩,.slice none 0 0,.slice none 0 0] 27)).heap.size≤w.heap.size+1+1):=⟨hbC,by rw [e0];omega⟩
  have H6B:Hid (Six (((((w.alloc (.cells #[.int .i64 op,.int .i64 a,.int .i64 n,.string s,.slice ps set.length cps,.slice p len cap] 27)).alloc (.cells #[.int .i64 0,.int .i64 0,.int .i64 0,.string ⟨#[]⟩,.slice none 0 0,.slice none 0 0] 27)).alloc (.cells #[.int .i64 0,.int .i64 0,.int .i64 0,.string ⟨#[]⟩,.slice none 0 0,.slice none 0 0] 27)).alloc (.cells #[] 3)).drew) (w.heap.size+1+1) 0 0 0 ⟨#[]⟩ (.slice none 0 0) (.slice none 0 0) 27):=by
   have h2:=han ((w.alloc (.cells #[.int .i64 op,.int .i64 a,.int .i64 n,.string s,.slice ps set.length cps,.slice p len cap] 27)).alloc (.cells #[.int .i64 0,.int .i64 0,.int .i64 0,.string ⟨#[]⟩,.slice none 0 0,.slice none 0 0] 27)) (.cells #[.int .i64 0,.int .i64 0,.int .i64 0,.string ⟨#[]⟩,.slice none 0 0,.slice none 0 0] 27)
   rw [e0] at h2
   exact (bha _ _ _ (by rw [e1];omega)).trans h2
  have H6C:Hid (Six (((((w.alloc (.cells #[.int .i64 op,.int .i64 a,.int .i64 n,.string s,.slice ps set.length cps,.slice p len cap] 27)).alloc (.cells #[.int .i64 0,.int .i64 0,.int .i64 0,.string ⟨#[]⟩,.slice none 0 0,.slice none 0 0] 27)).alloc (.cells #[] 3)).alloc (.cells #[.int .i64 0,.int .i64 0,.int .i64 0,.string ⟨#[]⟩,.slice none 0 0,.slice none 0 0] 27)).drew) (w.heap.size+1+1+1) 0 0 0 ⟨#[]⟩ (.slice none 0 0) (.slice none 0 0) 27):=by
   have h2:=han (((w.alloc (.cells #[.int .i64 op,.int .i64 a,.int .i64 n,.string s,.slice ps set.length cps,.slice p len cap] 27)).alloc (.cells #[.int .i64 0,.int .i64 0,.int .i64 0,.string ⟨#[]⟩,.slice none 0 0,.slice none 0 0] 27)).alloc (.cells #[] 3)) (.cells #[.int .i64 0,.int .i64 0,.int .i64 0,.string ⟨#[]⟩,.slice none 0 0,.slice none 0 0] 27)
   rw [e1] at h2
   exact h2
  have HA6:Hid (Six ((w.alloc (.cells #[.int .i64 op,.int .i64 a,.int .i64 n,.string s,.slice ps set.length cps,.slice p len cap] 27)).alloc (.cells #[.int .i64 0,.int .i64 0,.int .i64 0,.string ⟨#[]⟩,.slice none 0 0,.slice none 0 0] 27)) w.heap.size op a n s (.slice ps set.length cps) (.slice p len cap) 27):=(bha _ _ _ (by simp)).trans (han w _)
  have HLM:Hid ((set.map (Value.int .i64)).length=set.length*1):=by show _=_;simp
  have HL1:Hid (0+set.length≤maxLen):=by show _≤_;unfold maxLen;omega
  have HL2:Hid ((0+set.length)*8≤140737488355328):=by show _≤_;omega
  have HSZA:Hid (w.heap.size+2≤((((w.alloc (.cells #[.int .i64 op,.int .i64 a,.int .i64 n,.string s,.slice ps set.length cps,.slice p len cap] 27)).alloc (.cells #[.int .i64 0,.int .i64 0,.int .i64 0,.string ⟨#[]⟩,.slice none 0 0,.slice none 0 0] 27)).alloc (.cells #[] 3)).drew).heap.size):=by show _≤_;simp
  have HSZB:Hid (w.heap.size+2≤(((((w.alloc (.cells #[.int .i64 op,.int .i64 a,.int .i64 n,.string s,.slice ps set.length cps,.slice p len cap] 27)).alloc (.cells #[.int .i64 0,.int .i64 0,.int .i64 0,.string ⟨#[]⟩,.slice none 0 0,.slice none 0 0] 27)).alloc (.cells #[.int .i64 0,.int .i64 0,.int .i64 0,.string ⟨#[]⟩,.slice none 0 0,.slice none 0 0] 27)).alloc (.cells #[] 3)).drew).heap.size):=by show _≤_;simp
  have HSZC:Hid (w.heap.size+2≤(((((w.alloc (.cells #[.int .i64 op,.int .i64 a,.int .i64 n,.string s,.slice ps set.length cps,.slice p len cap] 27)).alloc (.cells #[.int .i64 0,.int .i64 0,.int .i64 0,.string ⟨#[]⟩,.slice none 0 0,.slice none 0 0] 27)).alloc (.cells #[] 3)).alloc (.cells #[.int .i64 0,.int .i64 0,.int .i64 0,.string ⟨#[]⟩,.slice none 0 0,.slice none 0 0] 27)).drew).heap.size):=by show _≤_;simp
  clear hbA hbB hbC hb0 e0 e1
  go_enter Tryz.func46,Tryz.ntmps46
  go_upto_region 1 with fail
  go_cut [3] from 5 (fun v5 wx=>∃ (O B:Nat) (sv:Value),v5=.pointer (some ⟨O,0,none⟩)∧XLoop [] w wx B w.heap.size (w.heap.size+1) O (.cells #[.int .i64 op,.int .i64 a,.int .i64 n,.string s,.slice ps set.length cps,.slice p len cap] 27) op a n s set sv kid 0 (.slice none 0 0) [] [])
  case first =>
   go_region_held3 (fun w'=>w'.cell? ⟨w.heap.size,0,none⟩=some (.int .i64 op)∧w'.cell? ⟨w.heap.size,1,none⟩=some (.int .i64 a)∧w'.cell? ⟨w.heap.size,2,none⟩=some (.int .i64 n)∧w'.cell? ⟨w.heap.size,3,none⟩=some (.string s)∧w'.cell? ⟨w.heap.size,4,none⟩=some (.slice ps set.length cps)) (first|go_keep|(with_reducible exact hS4)|(with_reducible exact hSP)) (first
    | (refine ja0 rfl (.tmp 13) (.tmp 15) 24 rfl (w.heap.size+2) 3 iI (.int .i64 0) 1 8 Tryz.underlying24 hiI hzI0 hzI1 hzI2 rfl Nat.one_pos (.slice (some ⟨w.heap.size+1+1,0,none⟩) 0 0) 0 [] rfl ?_ ps set.length cps (set.map (Value.int .i64)) rfl HLM.out HOA.out.2.1 ?_ (jaN set) HL1.out HL2.out ?_ ?_;(with_reducible exact HOA.out.1);(with_reducible exact HOA.out.2.2);exact HSZA.out;intro v' w4 hown4 hg4;have hR:=jcv HBA.out.1 HBA.out.2 hown4.out hg4.out;obtain ⟨pv,cv,hv⟩:=jbM hR.1;subst hv;have hA4:=HA6.out.below hR.2;have hS4:=jcf hA4;clear hA4;have HEND:Hid (∃ (O B:Nat) (sv:Value),Value.pointer (some ⟨w4.heap.size,0,none⟩)=.pointer (some ⟨O,0,none⟩)∧XLoop [] w (w4.alloc (.cells #[.int .i64 op,.int .i64 a,.int .i64 n,.string s,.slice pv set.length cv,.slice none 0 0] 27)) B w.heap.size (w.heap.size+1) O (.cells #[.int .i64 op,.int .i64 a,.int .i64 n,.string s,.slice ps set.length cps,.slice p len cap] 27) op a n s set sv kid 0 (.slice none 0 0) [] []):=jk2 (jfT _ hR.2 hR.1);clear hown4 hg4 hR)
    | (refine ja0 rfl (.tmp 13) (.tmp 15) 24 rfl (w.heap.size+2) 3 iI (.int .i64 0) 1 8 Tryz.underlying24 hiI hzI0 hzI1 hzI2 rfl Nat.one_pos (.slice (some ⟨w.heap.size+1+1+1,0,none⟩) 0 0) 0 [] rfl ?_ ps set.length cps (set.map (Value.int .i64)) rfl HLM.out HOA.out.2.1 ?_ (jaN set) HL1.out HL2.out ?_ ?_;(with_reducible exact HOB.out.1);(with_reducible exact HOB.out.2.2);exact HSZB.out;intro v' w4 hown4 hg4;have hR:=jcv HBB.out.1 HBB.out.2 hown4.out hg4.out;obtain ⟨pv,cv,hv⟩:=jbM hR.1;subst hv;have hA4:=HA6.out.below hR.2;have hS4:=jcf hA4;have hSP:=jcf (jhf (g:=w.heap.size+1+1) hA4 op a n s (.slice pv set.length cv) (.slice none 0 0) (by omega));clear hA4;have h6:=H6B.out.grown hg4.out (by omega);obtain ⟨q0,q1,q2,q3,q4,q5⟩:=h6.cells;have qf:=h6.fr;have HEND:Hid (∃ (O B:Nat) (sv:Value),Value.pointer (some ⟨w.heap.size+1+1,0,none⟩)=.pointer (some ⟨O,0,none⟩)∧XLoop [] w (put6 w4 (w.heap.size+1+1) op a n s (.slice pv set.length cv) (.slice none 0 0)) B w.heap.size (w.heap.size+1) O (.cells #[.int .i64 op,.int .i64 a,.int .i64 n,.string s,.slice ps set.length cps,.slice p len cap] 27) op a n s set sv kid 0 (.slice none 0 0) [] []):=jk2 (jd4 _ hR.2 hR.1 (by omega) h6 (jhc hR.1 h6));clear h6;clear hown4 hg4 hR)
    | (refine ja0 rfl (.tmp 13) (.tmp 15) 24 rfl (w.heap.size+2) 3 iI (.int .i64 0) 1 8 Tryz.underlying24 hiI hzI0 hzI1 hzI2 rfl Nat.one_pos (.slice (some ⟨w.heap.size+1+1,0,none⟩) 0 0) 0 [] rfl ?_ ps set.length cps (set.map (Value.int .i64)) rfl HLM.out HOA.out.2.1 ?_ (jaN set) HL1.out HL2.out ?_ ?_;(with_reducible exact HOC.out.1);(with_reducible exact HOC.out.2.2);exact HSZC.out;intro v' w4 hown4 hg4;have hR:=jcv HBC.out.1 HBC.out.2 hown4.out hg4.out;obtain ⟨pv,cv,hv⟩:=jbM hR.1;subst hv;have hA4:=HA6.out.below hR.2;have hS4:=jcf hA4;have hSP:=jcf (jhf (g:=w.heap.size+1+1+1) hA4 op a n s (.slice pv set.length cv) (.slice none 0 0) (by omega));clear hA4;have h6:=H6C.out.grown hg4.out (by omega);obtain ⟨q0,q1,q2,q3,q4,q5⟩:=h6.cells;have qf:=h6.fr;have HEND:Hid (∃ (O B:Nat) (sv:Value),Value.pointer (some ⟨w.heap.size+1+1+1,0,none⟩)=.pointer (some ⟨O,0,none⟩)∧XLoop [] w (put6 w4 (w.heap.size+1+1+1) op a n s (.slice pv set.length cv) (.slice none 0 0)) B w.heap.size (w.heap.size+1) O (.cells #[.int .i64 op,.int .i64 a,.int .i64 n,.string s,.slice ps set.length cps,.slice p len cap] 27) op a n s set sv kid 0 (.slice none 0 0) [] []):=jk2 (jd4 _ hR.2 hR.1 (by omega) h6 (jhc hR.1 h6));clear h6;clear hown4 hg4 hR))
   all_goals
    go_wp2_with fail
    go_meet
    exact HEND.out
  case rest =>
   obtain ⟨O,B0,sv0,rfl,hL0⟩:=hcut
   have H00:Hid (XLoop [] w wc B0 w.heap.size (w.heap.size+1) O (.cells #[.int .i64 op,.int .i64 a,.int .i64 n,.string s,.slice ps set.length cps,.slice p len cap] 27) op a n s set sv0 kid 0 (.slice none 0 0) [] []):=hL0
   clear hL0 HOA HOB HOC HBA HBB HBC H6B H6C HA6 HSZA HSZB HSZC HLM HL1 HL2
   obtain ⟨C,hC⟩:∃ C,C=w.heap.size:=⟨_,rfl⟩
   obtain ⟨R,hR⟩:∃ R,R=w.heap.size+1:=⟨_,rfl⟩
   have HH0:Hid (XLoop [] w wc B0 C R O (.cells #[.int .i64 op,.int .i64 a,.int .i64 n,.string s,.slice ps set.length cps,.slice p len cap] 27) op a n s set sv0 kid 0 (.slice none 0 0) [] []):=by
    show XLoop _ _ _ _ _ _ _ _ _ _ _ _ _ _ _ _ _ _ _
    rw [hR,hC];exact H00.out
   clear H00
   rw [←hR,←hC]
   have hCO:C≠O:=HH0.out.ord.2.2.2.2.2.2.2.1
   have hRO:R≠O:=HH0.out.ord.2.2.2.2.2.2.2.2
   clear hC hR
   go_wp2_with fail
   go_loopw [4] (fun v4 wr=>∃ (k:Nat) (lv:Value) (la:List XR) (SS:List (List Nat)),v4=.int .i64 k∧k≤len∧XLoop [] w wr B0 C R O (.cells #[.int .i64 op,.int .i64 a,.int .i64 n,.string s,.slice ps set.length cps,.slice p len cap] 27) op a n s set sv0 kid k lv la SS) (fun v4 _=>len-(intOf v4).toNat)
   case atStart=>exact ⟨0,_,_,_,rfl,nzl _,HH0.out⟩
   case round =>
    obtain ⟨k,lv,la,SS,rfl,hk,hL⟩:=hrel
    have HL:Hid (XLoop [] w wr B0 C R O (.cells #[.int .i64 op,.int .i64 a,.int .i64 n,.string s,.slice ps set.length cps,.slice p len cap] 27) op a n s set sv0 kid k lv la SS):=hL
    have hA:Six wr C op a n s (.slice ps set.length cps) (.slice p len cap) 27:=hL.arg
    have a4:=hA.cells.2.2.2.2.2
    obtain ⟨o0,o1,o2,o3,o4,o5⟩:=hL.out.cells
    clear hL HH0
    by_cases hkl:(k:Int)<len
    ·obtain ⟨b,o,ux,u,hp,hd,hinu⟩:=HAT.out k (by omega)
     subst hp
     obtain ⟨c0,c1,c2,c3,c4,c5⟩:=hd.below HL.out.bel.toBelow
     have HIN:Hid ((kid k).At 0 wr.drew ux u):=X.At.below (brf _ wr).drew (X.At.below HL.out.bel.toBelow hinu)
     have HKL:Hid (k<len):=by show k<len;omega
     have HOWN:Hid (wr.ownsRow 0 27 6 lv k (jau la)):=HL.out.rows.own
     have hOl:O<wr.heap.size:=HL.out.out.lt
     have hCl:C<wr.heap.size:=hA.lt
     have hbl:b<wr.heap.size:=wbl wr _ c0
     clear hd hinu hA
     have hki0:(0:Int)≤(k:Int):=by omega
     have HCF:Hid (∀ (vs:Array Value) (w:World),(callFunc 46 vs).run Tryz.prog w=.ok (.enter 46 vs) w):=fun vs w=>jfg vs w
     go_wp2_with fail
     go_region_law
      (first
       | (refine jcx rfl 46 (.tmp 31) 27 rfl HCF.out (.agg #[.int .i64 (kid k).op,.int .i64 (kid k).at_,.int .i64 (kid k).n,.string (kid k).s,ux,u]) rfl _ (IH.out k HKL.out wr.drew ux u HIN.out) ?_;rintro e w1 ⟨su',v',T,rfl,hb1,hd1,hn1,hT1⟩;refine ⟨_,rfl,?_⟩;have HC1:Hid (Below wr.heap.size wr w1∧XOwn w1 (kid k) su' v' T∧T.Nodup∧∀ x∈T,wr.heap.size≤x):=⟨⟨hb1.os,hb1.tape,hb1.output,hb1.size,hb1.block⟩,hd1,hn1,hT1⟩;obtain ⟨pv,cv,hv'⟩:=hd1.at0.xs.shape;obtain ⟨pw,cw,hw'⟩:=hd1.at0.sets.shape;subst hv' hw';have z4:w1.cell? ⟨O,5,none⟩=some lv:=(HC1.out.1.cell (by exact hOl)).trans o5;have z5:∀ ob,(w1.alloc ob).cell? ⟨O,5,none⟩=some lv:=fun ob=>((newx w1 ob).cell (by exact nll hOl HC1.out.1.size)).trans z4;have y4:w1.cell? ⟨C,5,none⟩=some (.slice (some ⟨b,o,none⟩) len cap):=(HC1.out.1.cell (by exact hCl)).trans a4;have HO1:Hid (w1.ownsRow 0 27 6 lv k (jau la)):=jaY HOWN.out HC1.out.1;clear hb1 hd1 hn1 hT1)
       | (refine step_append_lies _ (by rfl) _ _ _ (by rfl) 0 27 i0 _ 6 88 Tryz.underlying25 hi0 hz0 hz1 hz2 rfl (by omega) lv k (jau la) (by rfl) (HO1.out.alloc _) ⟨w1.heap.size,0,none⟩ 1 1 [.int .i64 (kid k).op,.int .i64 (kid k).at_,.int .i64 (kid k).n,.string (kid k).s,.slice pw (kid k).set.length cw,.slice pv (kid k).len cv] (by rfl) (by rfl) (World.news_of_block (cs:=#[.int .i64 (kid k).op,.int .i64 (kid k).at_,.int .i64 (kid k).n,.string (kid k).s,.slice pw (kid k).set.length cw,.slice pv (kid k).len cv]) (t:=27) (fr:=(0,0)) (han w1 _)) (by simp [Value.oneCell']) (by omega) (by unfold maxLen;omega) (by omega) (Nat.zero_le _) (w1.heap.size+1) (by simp) ?_;intro gg cap3 w3 hown3 hgrow hat hlt3;obtain ⟨hO3,hnx⟩:=HL.out.next (Fr.below HC1.out.1 []) HC1.out.2.1 HC1.out.2.2.1 HC1.out.2.2.2 (by rw [jiq];exact hown3) hgrow hat;have HNX:Hid (XLoop [] w (w3.setCell ⟨O,5,none⟩ (.slice (some ⟨gg,0,none⟩) (k+1) cap3)) B0 C R O (.cells #[.int .i64 op,.int .i64 a,.int .i64 n,.string s,.slice ps set.length cps,.slice (some ⟨b,o,none⟩) len cap] 27) op a n s set sv0 kid (k+1) (.slice (some ⟨gg,0,none⟩) (k+1) cap3) (la++[(kid k,.slice pw (kid k).set.length cw,.slice pv (kid k).len cv)]) (SS++[T])):=hnx;have x4:w3.cell? ⟨O,5,none⟩=some lv:=(World.cell?_of_block (a:=⟨O,5,none⟩) hO3).trans o5;have xf:w3.frozen? ⟨O,5,none⟩=false:=(World.frozen?_of_block (a:=⟨O,5,none⟩) hO3).trans (HL.out.out.fr 5);clear hO3 hnx hown3 hgrow hat hlt3))
     all_goals
      go_wp2_with fail
      go_roundw
      case rel=>exact ⟨k+1,_,_,_,by go_num,by omega,HNX.out⟩
      case measure=>simp [intOf];omega
    ·obtain rfl:k=len:=by omega
     obtain ⟨r0,r1,r2,r3,r4,r5⟩:=HL.out.res.cells
     have rf:=HL.out.res.fr
     obtain ⟨hfr,S,hX,hSn,hSg⟩:=HL.out.done ⟨HPL.out.1,HPL.out.2,HYL.out⟩
     obtain ⟨pv,cv,hlv⟩:=hX.at0.xs.shape
     obtain ⟨pw,cw,hsv⟩:=hX.at0.sets.shape
     simp only [X.len,X.set] at hlv hsv
     subst hlv hsv
     have HS:Hid (Fr [] w (put6 wr R op a n s (.slice pw set.length cw) (.slice pv k cv))∧XOwn (put6 wr R op a n s (.slice pw set.length cw) (.slice pv k cv)) (.mk op a n s set k kid) (.slice pw set.length cw) (.slice pv k cv) S∧S.Nodup∧∀ x∈S,w.heap.size≤x):=⟨hfr,hX,hSn,hSg⟩
     clear hfr hX hSn hSg HL HAT IH
     go_wp2_with fail
     refine bpr (v:=.agg #[.int .i64 op,.int .i64 a,.int .i64 n,.string s,.slice pw set.length cw,.slice pv k cv]) (by rw [jae (p:=2) (ty:=27) (by kernel_rfl)];simp [go_sem,r0,r1,r2,r3,r4,r5]) rfl ⟨_,_,rfl,HS.out.1.toBelow,S,HS.out.2.1,HS.out.2.2.1,HS.out.2.2.2⟩
end Go.Proofs.YtjmlfacbcfbhdaaGreatDoor
