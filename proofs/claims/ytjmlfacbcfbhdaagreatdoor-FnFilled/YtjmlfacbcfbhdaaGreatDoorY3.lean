/- spec.l3One, but for lists. Conditions: the tokens lie in memory ahead of the cursor; at most 4000. -/
import Derived.Test.YtjmlfacbcfbhdaaGreatDoorYA
import Derived.Test.YtjmlfacbcfbhdaaGreatDoorY2
set_option maxRecDepth 100000
set_option maxHeartbeats 8000000
namespace Go.Proofs.YtjmlfacbcfbhdaaGreatDoor
open Go.ChangeShapes Go.WideShapes Go.ChangeAt Go.RowKit
def CuAt (w:World) (C:Nat) (tv:Value) (z:Int) (E:Nat) (b:Int):Prop:=w.heap[C]? = some (.cells #[tv,.int .i64 z,.int .i64 E,.int .i64 b] 149 (0,0))
theorem CuAt.c0 {w:World} {C:Nat} {tv:Value} {z b:Int} {E:Nat} (h:CuAt w C tv z E b):w.cell? ⟨C,0,none⟩=some tv:=crw w C 0 _ _ _ h
theorem CuAt.c1 {w:World} {C:Nat} {tv:Value} {z b:Int} {E:Nat} (h:CuAt w C tv z E b):w.cell? ⟨C,1,none⟩=some (.int .i64 z):=crw w C 1 _ _ _ h
theorem CuAt.c2 {w:World} {C:Nat} {tv:Value} {z b:Int} {E:Nat} (h:CuAt w C tv z E b):w.cell? ⟨C,2,none⟩=some (.int .i64 E):=crw w C 2 _ _ _ h
theorem CuAt.c3 {w:World} {C:Nat} {tv:Value} {z b:Int} {E:Nat} (h:CuAt w C tv z E b):w.cell? ⟨C,3,none⟩=some (.int .i64 b):=crw w C 3 _ _ _ h
theorem CuAt.fr {w:World} {C:Nat} {tv:Value} {z b:Int} {E:Nat} (h:CuAt w C tv z E b) (j:Nat):w.frozen? ⟨C,j,none⟩=false:=fzr w C j _ _ h
theorem CuAt.lt {w:World} {C:Nat} {tv:Value} {z b:Int} {E:Nat} (h:CuAt w C tv z E b):C<w.heap.size:=(aes.1 h).1
theorem CuAt.below {w w':World} {C:Nat} {tv:Value} {z b:Int} {E:Nat} (h:CuAt w C tv z E b) (hb:Below w.heap.size w w'):CuAt w' C tv z E b:=(hb.block _ h.lt).trans h
theorem CuAt.at' {w:World} {C:Nat} {tv:Value} {z b:Int} {E:Nat} (h:CuAt w C tv z E b) (y:Int):CuAt (w.setCell ⟨C,1,none⟩ (.int .i64 y)) C tv y E b:=heap_setCell_same w C 1 _ _ (.int .i64 y) h
theorem CuAt.bad' {w:World} {C:Nat} {tv:Value} {z b:Int} {E:Nat} (h:CuAt w C tv z E b) (y:Int):CuAt (w.setCell ⟨C,3,none⟩ (.int .i64 y)) C tv z E y:=heap_setCell_same w C 3 _ _ (.int .i64 y) h
def jlK (v:Value):Prop:=∃ (a b c:Int) (s:ByteArray) (p:Option Addr) (l k:Nat),v=.agg #[.int .i64 a,.int .i64 b,.int .i64 c,.string s,.slice p l k]
def jfb (w:World) (C:Nat) (tv:Value) (ts:List Tok) (E:Nat) (res:Rdr D) (e:Ending) (w':World):Prop :=
 FrS w w' [C]∧match res with
  | .bad p=>(∃ v,e=.returned v∧jlK v)∧0≤p∧∃ z,CuAt w' C tv z E p
  | .ok d r=>∃ (v:Value) (T:List Nat) (i':Nat),e=.returned (.agg #[.int .i64 d.op,.int .i64 d.at_,.int .i64 d.n,.string d.s,v])∧DOwn w' d v T∧T.Nodup∧(∀ x∈T,w.heap.size≤x)∧r=ts.drop i'∧i'≤ts.length∧CuAt w' C tv i' E (-1)
def jjn (w0:World) (C:Nat) (tv:Value) (ts:List Tok) (E f:Nat):Prop:=∀ (w:World) (i:Nat),Below w0.heap.size w0 w→CuAt w C tv i E (-1)→i≤ts.length→ts.length-i≤f →
 Calls Tryz.prog 86 #[.pointer (some ⟨C,0,none⟩)] w (jfb w C tv ts E (one E (f+1) (ts.drop i)))
theorem jmY {w w':World} {C:Nat} (hos:w'.os=w.os) (ht:w'.tape=w.tape) (ho:w'.output=w.output) (hs:w.heap.size≤w'.heap.size) (hb:∀ x,x<w.heap.size→x≠C→w'.heap[x]? = w.heap[x]?):FrS w w' [C] :=
 ⟨hos,ht,ho,hs,fun x hx hn=>hb x hx (by simpa using hn)⟩
theorem joq (w:World) (C:Nat) (p:Option Addr) (n cap E:Nat) (h:CuAt w C (.slice p n cap) n E (-1)) :
  Calls Tryz.prog 86 #[.pointer (some ⟨C,0,none⟩)] w fun e w'=>(∃ v,e=.returned v∧jlK v)∧FrS w w' [C]∧CuAt w' C (.slice p n cap) n E E:=by
 have c0:=h.c0;have c1:=h.c1;have c2:=h.c2;have c3:=h.c3
 have hf:=h.fr 3
 have hC:=h.lt
 have d0:=fun x=>jaG (newb w x) _ _ c0;have d1:=fun x=>jaG (newb w x) _ _ c1;have d2:=fun x=>jaG (newb w x) _ _ c2;have d3:=fun x=>jaG (newb w x) _ _ c3
 have H:Hid (CuAt w C (.slice p n cap) n E (-1)):=h
 clear h
 go_enter Tryz.func86,Tryz.ntmps86
 go_wp2_with fail
 go_region
 all_goals
  go_wp2_with fail
  refine bpr (v:=.agg #[.int .i64 0,.int .i64 0,.int .i64 0,.string ⟨#[]⟩,.slice none 0 0]) (by rw [jaT (p:=2) (ty:=72) (by kernel_rfl)];simp [go_sem]) rfl ?_
  refine ⟨⟨_,rfl,_,_,_,_,_,_,_,rfl⟩,jmY rfl rfl rfl (by simp [World.setCell,World.drew]) (fun x hx hne=>?_),?_⟩
  ·exact (bha _ _ x (by simpa [World.setCell] using hx)).trans (Below.heap_setCell w ⟨C,3,none⟩ _ x hne)
  ·exact (H.out.bad' E).below ((newb _ _).drew)
abbrev jd9 (w:World) (C i:Nat) (o1 o2:Obj):World:=(((w.setCell ⟨C,1,none⟩ (.int .i64 ((i:Int)+1))).alloc o1).alloc o2).drew.drew
theorem jgA {w:World} {C:Nat} {tv:Value} {i E:Nat} (h:CuAt w C tv i E (-1)) (o1 o2:Obj) :
  FrS w (jd9 w C i o1 o2) [C]∧CuAt (jd9 w C i o1 o2) C tv ((i:Int)+1) E (-1)∧(jd9 w C i o1 o2).heap.size=w.heap.size+2∧(jd9 w C i o1 o2).heap[w.heap.size]? = some o1∧(jd9 w C i o1 o2).heap[w.heap.size+1]? = some o2:=by
 have hs:(w.setCell ⟨C,1,none⟩ (.int .i64 ((i:Int)+1))).heap.size=w.heap.size:=by simp [World.setCell]
 have b:Below (w.setCell ⟨C,1,none⟩ (.int .i64 ((i:Int)+1))).heap.size (w.setCell ⟨C,1,none⟩ (.int .i64 ((i:Int)+1))) (jd9 w C i o1 o2):=((newb _ o1).trans ((newb _ o2).mono (by simp))).drew.drew
 have n1:=han (w.setCell ⟨C,1,none⟩ (.int .i64 ((i:Int)+1))) o1
 have n2:=han ((w.setCell ⟨C,1,none⟩ (.int .i64 ((i:Int)+1))).alloc o1) o2
 have e1:((w.setCell ⟨C,1,none⟩ (.int .i64 ((i:Int)+1))).alloc o1).heap.size=w.heap.size+1:=by simp [World.setCell]
 rw [e1] at n2
 rw [hs] at n1
 refine ⟨⟨b.os,b.tape,b.output,by have:=b.size;omega,fun x hx hn=>(b.block x (by omega)).trans (bhs w ⟨C,1,none⟩ _ x (by simpa using hn))⟩,(h.at' _).below b,by simp [jd9,World.setCell,World.drew],?_,n2⟩
 exact (bha _ o2 w.heap.size (by omega)).trans n1
theorem jm2 (w:World) (C:Nat) (ts:List Tok) (g cap E i:Nat) (t:Tok) (h:CuAt w C (.slice (some ⟨g,0,none⟩) ts.length cap) i E (-1)) (hts:ts.length≤4000) (hi:i<ts.length) (htk:(-1073741824≤t.n∧t.n≤1073741823)∧t.text.size≤4000)
  (t0:w.cell? ⟨g,i*4,none⟩=some (.int .i64 t.kind)) (t1:w.cell? ⟨g,i*4+1,none⟩=some (.int .i64 t.at_)) (t2:w.cell? ⟨g,i*4+2,none⟩=some (.int .i64 t.n)) (t3:w.cell? ⟨g,i*4+3,none⟩=some (.string t.text)) (hk:t.kind=2∨t.kind=3∨t.kind=4) (res:Rdr D)
  (hres:res=if t.kind=3 then .ok (dNum t) (ts.drop (i+1)) else if t.kind=4 then .ok (dSym t) (ts.drop (i+1)) else .bad t.at_) :
  Calls Tryz.prog 86 #[.pointer (some ⟨C,0,none⟩)] w (jfb w C (.slice (some ⟨g,0,none⟩) ts.length cap) ts E res):=by
 have c0:=h.c0;have c1:=h.c1;have c2:=h.c2;have c3:=h.c3
 have hf:=h.fr 1;have hf3:=h.fr 3
 have hC:=h.lt
 have HTS:Hid (∀ o1 o2,FrS w (jd9 w C i o1 o2) [C]∧CuAt (jd9 w C i o1 o2) C (.slice (some ⟨g,0,none⟩) ts.length cap) ((i:Int)+1) E (-1)∧(jd9 w C i o1 o2).heap.size=w.heap.size+2∧(jd9 w C i o1 o2).heap[w.heap.size]? = some o1∧(jd9 w C i o1 o2).heap[w.heap.size+1]? = some o2):=fun o1 o2=>jgA h o1 o2
 have HRES:Hid (res=if t.kind=3 then .ok (dNum t) (ts.drop (i+1)) else if t.kind=4 then .ok (dSym t) (ts.drop (i+1)) else .bad t.at_):=hres
 have H:Hid (CuAt w C (.slice (some ⟨g,0,none⟩) ts.length cap) i E (-1)):=h
 clear h hres
 obtain ⟨tk,ta,tn,tx⟩:=t
 simp only at t0 t1 t2 t3 htk hk HRES
 have a0:=fun x y=>jaG ((newb w x).trans ((newb _ y).mono (by simp))) _ _ c0;have a1:=fun x y=>jaG ((newb w x).trans ((newb _ y).mono (by simp))) _ _ c1;have a3:=fun x y=>jaG ((newb w x).trans ((newb _ y).mono (by simp))) _ _ c3
 have d0:=fun x=>jaG (newb w x) _ _ c0;have d1:=fun x=>jaG (newb w x) _ _ c1;have d2:=fun x=>jaG (newb w x) _ _ c2;have d3:=fun x=>jaG (newb w x) _ _ c3
 have hil:¬ ((ts.length:Int)≤(i:Int)):=by omega
 rcases hk with rfl|rfl|rfl
 ·have HX:Hid (res=.bad ta):=HRES.out.trans (by rw [if_neg (by omega),if_neg (by omega)])
  have b0:=fun x y=>jaG ((newb w x).trans ((newb _ y).mono (by simp))) _ _ t0;have b1:=fun x y=>jaG ((newb w x).trans ((newb _ y).mono (by simp))) _ _ t1;have b2:=fun x y=>jaG ((newb w x).trans ((newb _ y).mono (by simp))) _ _ t2;have b3:=fun x y=>jaG ((newb w x).trans ((newb _ y).mono (by simp))) _ _ t3
  have e0:=fun x=>jaG (newb w x) _ _ t0;have e1:=fun x=>jaG (newb w x) _ _ t1;have e2:=fun x=>jaG (newb w x) _ _ t2;have e3:=fun x=>jaG (newb w x) _ _ t3
  clear HRES
  go_enter Tryz.func86,Tryz.ntmps86
  go_wp2_with fail
  go_region
  all_goals
   go_wp2_with fail
   go_region
   all_goals
    go_wp2_with fail
    refine bpr (v:=.agg #[.int .i64 0,.int .i64 0,.int .i64 0,.string ⟨#[]⟩,.slice none 0 0]) (by rw [jaT (p:=2) (ty:=72) (by kernel_rfl)];simp [go_sem]) rfl ?_
    rw [HX.out]
    refine ⟨jmY rfl rfl rfl (by simp [World.setCell,World.drew];omega) (fun x hx hne=>?_),⟨_,rfl,_,_,_,_,_,_,_,rfl⟩,by omega,_,((H.out.at' _).bad' _).below (((newb _ _).trans ((newb _ _).mono (by simp))).drew.drew)⟩
    exact (Below.heap_alloc _ _ x (by simp [World.setCell];omega)).trans ((Below.heap_alloc _ _ x (by simpa [World.setCell] using hx)).trans ((Below.heap_setCell _ ⟨C,3,none⟩ _ x hne).trans (Below.heap_setCell w ⟨C,1,none⟩ _ x hne)))
 ·have HX:Hid (res=.ok (dNum ⟨3,ta,tn,tx⟩) (ts.drop (i+1))):=HRES.out.trans (by rw [if_pos rfl])
  have b0:=fun x y=>jaG ((newb w x).trans ((newb _ y).mono (by simp))) _ _ t0;have b1:=fun x y=>jaG ((newb w x).trans ((newb _ y).mono (by simp))) _ _ t1;have b2:=fun x y=>jaG ((newb w x).trans ((newb _ y).mono (by simp))) _ _ t2;have b3:=fun x y=>jaG ((newb w x).trans ((newb _ y).mono (by simp))) _ _ t3
  have e0:=fun x=>jaG (newb w x) _ _ t0;have e1:=fun x=>jaG (newb w x) _ _ t1;have e2:=fun x=>jaG (newb w x) _ _ t2;have e3:=fun x=>jaG (newb w x) _ _ t3
  clear HRES
  go_enter Tryz.func86,Tryz.ntmps86
  go_wp2_with fail
  go_region
  all_goals
   go_wp2_with fail
   go_region
   all_goals
    go_wp2_with fail
    refine bpr (v:=.agg #[.int .i64 1,.int .i64 ta,.int .i64 tn,.string ⟨#[]⟩,.slice none 0 0]) (by rw [jaT (p:=2) (ty:=72) (by kernel_rfl)];simp [go_sem]) rfl ?_
    obtain ⟨q1,q2,-⟩:=HTS.out (.cells #[.int .i64 1,.int .i64 ta,.int .i64 tn,.string ⟨#[]⟩,.slice none 0 0] 72) (.cells #[.int .i64 3,.int .i64 ta,.int .i64 tn,.string tx] 166)
    rw [HX.out]
    exact ⟨q1,.slice none 0 0,[],i+1,rfl,jnI _ _ htk.1,by simp,by simp,rfl,by omega,q2⟩
 ·have HX:Hid (res=.ok (dSym ⟨4,ta,tn,tx⟩) (ts.drop (i+1))):=HRES.out.trans (by rw [if_neg (by omega),if_pos rfl])
  have b0:=fun x y=>jaG ((newb w x).trans ((newb _ y).mono (by simp))) _ _ t0;have b1:=fun x y=>jaG ((newb w x).trans ((newb _ y).mono (by simp))) _ _ t1;have b2:=fun x y=>jaG ((newb w x).trans ((newb _ y).mono (by simp))) _ _ t2;have b3:=fun x y=>jaG ((newb w x).trans ((newb _ y).mono (by simp))) _ _ t3
  have e0:=fun x=>jaG (newb w x) _ _ t0;have e1:=fun x=>jaG (newb w x) _ _ t1;have e2:=fun x=>jaG (newb w x) _ _ t2;have e3:=fun x=>jaG (newb w x) _ _ t3
  clear HRES
  go_enter Tryz.func86,Tryz.ntmps86
  go_wp2_with fail
  go_region
  all_goals
   go_wp2_with fail
   go_region
   all_goals
    go_wp2_with fail
    refine bpr (v:=.agg #[.int .i64 2,.int .i64 ta,.int .i64 0,.string tx,.slice none 0 0]) (by rw [jaT (p:=2) (ty:=72) (by kernel_rfl)];simp [go_sem]) rfl ?_
    obtain ⟨q1,q2,-⟩:=HTS.out (.cells #[.int .i64 2,.int .i64 ta,.int .i64 0,.string tx,.slice none 0 0] 72) (.cells #[.int .i64 4,.int .i64 ta,.int .i64 tn,.string tx] 166)
    rw [HX.out]
    exact ⟨q1,.slice none 0 0,[],i+1,rfl,jnM _ _ htk.2,by simp,by simp,rfl,by omega,q2⟩
end Go.Proofs.YtjmlfacbcfbhdaaGreatDoor
