/- spec.Tokens at every text: its tokens and -1, or none and the place of the first word that is none. Condition: the text is no longer than a text can be. -/
import Derived.Test.YtjmlfacbcfbhdaaGreatDoorYA
import Derived.Test.YtjmlfacbcfbhdaaGreatDoorY5
import Derived.Test.YtjmlfacbcfbhdaaGreatDoorY6
import Derived.Test.YtjmlfacbcfbhdaaGreatDoorY2
import Derived.OwnWalk
import Derived.Deep.AppendLies
set_option maxRecDepth 100000
set_option maxHeartbeats 8000000
namespace Go.Proofs.YtjmlfacbcfbhdaaGreatDoor
open Go.ChangeShapes Go.WideShapes Go.ChangeAt Go.RowKit
theorem jni:(Tryz.prog.info? 166).map (fun i=>(i.zero,i.size,i.bytes))=some (some (.agg #[.int .i64 0,.int .i64 0,.int .i64 0,.string ⟨#[]⟩]),4,40):=by kernel_rfl
theorem jd2 (c:UInt8) (w:World):Calls Tryz.prog 99 #[.int .u8 c.toNat] w fun e w'=>e=.returned (.bool (jbD c))∧w'=w:=by
 have H:Hid (jbD c=((c.toNat:Int)==32||(c.toNat:Int)==10||(c.toNat:Int)==40||(c.toNat:Int)==41)):=show jbD c=_ by
  unfold jbD
  rw [jgE c 32,jgE c 10,jgE c 40,jgE c 41];rfl
 cases h1:((c.toNat:Int)==32)
 ·cases h2:((c.toNat:Int)==10)
  ·cases h3:((c.toNat:Int)==40)
   ·cases h4:((c.toNat:Int)==41)
    all_goals
     have HN:=H.out
     rw [h1,h2,h3,h4] at HN
     have HM:Hid (jbD c=_):=HN
     clear HN
     go_enter Tryz.func99,Tryz.ntmps99
     go_wp2
     go_ret
     exact ⟨by rw [HM.out];rfl,rfl⟩
   ·have HN:=H.out
    rw [h1,h2,h3] at HN
    have HM:Hid (jbD c=true):=HN.trans (by simp)
    clear HN
    go_enter Tryz.func99,Tryz.ntmps99
    go_wp2
    go_ret
    exact ⟨by rw [HM.out];rfl,rfl⟩
  ·have HN:=H.out
   rw [h1,h2] at HN
   have HM:Hid (jbD c=true):=HN.trans (by simp)
   clear HN
   go_enter Tryz.func99,Tryz.ntmps99
   go_wp2
   go_ret
   exact ⟨by rw [HM.out];rfl,rfl⟩
 ·have HN:=H.out
  rw [h1] at HN
  have HM:Hid (jbD c=true):=HN.trans (by simp)
  clear HN
  go_enter Tryz.func99,Tryz.ntmps99
  go_wp2
  go_ret
  exact ⟨by rw [HM.out];rfl,rfl⟩
theorem jbj (w:World) (o:Obj):Below w.heap.size w (w.alloc o) :=
 ⟨rfl,rfl,rfl,by simp,fun k hk=>(World.grownBy_alloc w o none).block k hk (by simp)⟩
theorem jex {w W X w4:World} {B:Nat} {acc:List Tok} {v v':Value} {t:Tok} {cells:Obj} (hB:W.heap[B]? = some cells) (hbel:Below B w W) (hX:Below W.heap.size W X)
  (hown:W.ownsRow (B+1) 166 4 v acc.length (rows acc))
  (ho:w4.ownsRow (B+1) 166 4 v' (acc.length+1) (rows acc++[.int .i64 t.kind,.int .i64 t.at_,.int .i64 t.n,.string t.text])) (hg:X.grownBy w4 v.ownBlock) :
  w4.heap[B]? = some cells∧Below B w w4∧w4.ownsRow (B+1) 166 4 v' (acc++[t]).length (rows (acc++[t])):=by
 have hBs:B<W.heap.size:=(aes.1 hB).1
 have hrow:∀ k,k<B+1→some k≠v.ownBlock:=by intro k hk e;have:=(hown.lt k e.symm).1;omega
 have hold:∀ k,k<B+1→w4.heap[k]? = W.heap[k]? := by
  intro k hk
  rw [hg.block k (nll (by omega:k<W.heap.size) hX.size) (hrow k hk)]
  exact hX.block k (by omega)
 refine ⟨(hold B (by omega)).trans hB,⟨(hg.os.trans hX.os).trans hbel.os,(hg.tape.trans hX.tape).trans hbel.tape,(hg.output.trans hX.output).trans hbel.output,?_,fun k hk=>(hold k (by omega)).trans (hbel.block k hk)⟩,?_⟩
 ·have h1:=hg.size
  have h2:=hX.size
  have h3:=hbel.size
  omega
 ·have hl:(acc++[t]).length=acc.length+1:=by simp
  have hr:rows (acc++[t])=rows acc++[.int .i64 t.kind,.int .i64 t.at_,.int .i64 t.n,.string t.text]:=by rw [ji2];rfl
  rw [hl,hr];exact ho
theorem jct {w w':World} {base e size n:Nat} {v:Value} {xs:List Value} (h:w.ownsRow base e size v n xs) (hb:Below w.heap.size w w'):w'.ownsRow base e size v n xs:=by
 refine ⟨h.1,?_⟩
 rcases h.2 with hn|⟨g,cap,cur,rfl,hbg,hgg,rest⟩
 ·exact .inl hn
 ·exact .inr ⟨g,cap,cur,rfl,hbg,(hb.block g (aes.1 hgg).1).trans hgg,rest⟩
theorem jmF {w:World} {base base' e size n:Nat} {v:Value} {xs:List Value} (h:w.ownsRow base e size v n xs) (hb:base'≤base):w.ownsRow base' e size v n xs:=by
 refine ⟨h.1,?_⟩
 rcases h.2 with hn|⟨g,cap,cur,rfl,hbg,rest⟩
 ·exact .inl hn
 ·exact .inr ⟨g,cap,cur,rfl,by omega,rest⟩
theorem jdX {w:World} {B:Nat} {e:TypeId} (hB:w.heap[B]? = some (.cells #[] e (0,0))):w.ownsRow B e 4 (.slice (some ⟨B,0,none⟩) 0 0) 0 [] :=
 ⟨rfl,.inr ⟨B,0,#[],rfl,nlr _,hB,nlr _,nzl _,rfl,rfl⟩⟩
theorem jhU {s:ByteArray} {acc:List Tok} {p q:Nat} (hpq:p<q) (hq:q≤s.size) (hno:∀ j (hj:j<q-p),jbD (s[p+j]'(by omega))=false) (hend:∀ h:q<s.size,jbD (s[q]'h)=true) :
  rest s acc p p=match jcS (s.extract p q) p with|none=>([],(p:Int))|some t=>rest s (acc++[t]) q q:=by
 have h1:=ji1 s acc p p (q-p) (by omega) hno
 have e:p+(q-p)=q:=by omega
 rw [e] at h1
 rw [h1]
 exact joh s acc p q hpq hend
theorem jdx (x:ByteArray) (hx:x.size≤maxLen) (v:Int) (h:jbf x.data.toList=some v) (w:World) :
  Calls Tryz.prog 100 #[.string x] w fun e w'=>e=.returned (.tuple #[.int .i64 v,.bool true])∧Below w.heap.size w w':=by
 refine (jh6 x w hx).mono ?_
 rintro e w' ⟨⟨n,rfl,hn⟩,hb⟩
 rw [h,hn v h]
 exact ⟨rfl,hb⟩
theorem jdw (x:ByteArray) (hx:x.size≤maxLen) (h:jbf x.data.toList=none) (w:World) :
  Calls Tryz.prog 100 #[.string x] w fun e w'=>(∃ n,e=.returned (.tuple #[.int .i64 n,.bool false]))∧Below w.heap.size w w':=by
 refine (jh6 x w hx).mono ?_
 rintro e w' ⟨⟨n,rfl,hn⟩,hb⟩
 rw [h]
 exact ⟨⟨n,rfl⟩,hb⟩
theorem jja (s:ByteArray) (hm:s.size≤maxLen) (w:World) :
  Calls Tryz.prog 85 #[.string s] w fun e w'=>∃ lv,e=.returned (.tuple #[lv,.int .i64 (toks s).2])∧Below w.heap.size w w'∧w'.ownsRow w.heap.size 166 4 lv (toks s).1.length (rows (toks s).1):=by
 have HM:=hm
 unfold maxLen at hm
 obtain ⟨i0,hi,hz0,hz1,hz2⟩:=info_parts jni
 by_cases hs:(4000:Int)<s.size
 ·have H:Hid (toks s=([],0)):=show toks s=([],0) by unfold toks;rw [if_neg (by omega)]
  go_enter Tryz.func85,Tryz.ntmps85
  go_wp2
  go_ret2
  rw [H.out]
  refine ⟨_,rfl,(jbj w _).trans ((jbj _ _).mono (by simp)),jdX ?_⟩
  exact ((jbj _ _).block _ (by simp)).trans (han w _)
 have HS:Hid (toks s=rest s [] 0 0):=jk8 s (by omega)
 have hs4:s.size≤4000:=by omega
 go_enter Tryz.func85,Tryz.ntmps85
 go_wp2
 generalize hBw:w.heap.size=B
 go_loopw [5,6] (fun v5 v6 wr=>∃ (pos:Nat) (acc:List Tok),v6=.int .i64 pos∧pos≤s.size∧wr.ownsRow (B+1) 166 4 v5 acc.length (rows acc)∧wr.heap[B]? = some (.cells #[] 166 (0,0))∧Below B w wr∧rest s acc pos pos=toks s∧acc.length≤pos)
  (fun _ v6 _=>s.size-(intOf v6).toNat)
 case atStart =>
  subst hBw
  refine ⟨0,[],rfl,nzl _,?_,?_,?_,HS.out.symm,nlr _⟩
  ·have hq:=World.ownsRow_lit (base:=w.heap.size+1) (e:=166) (size:=4) (w.alloc (.cells #[] 166)) #[] 0 (by simp) (by unfold maxLen;omega) (by simp)
   rw [World.size_alloc] at hq
   exact hq
  ·exact ((jbj _ _).block _ (by simp)).trans (han w _)
  ·exact (jbj w _).trans ((jbj _ _).mono (by simp))
 case round =>
  obtain ⟨pos,acc,rfl,hpos,hown,hB,hbel,hrest,hlen⟩:=hrel
  have HO:Hid (wr.ownsRow (B+1) 166 4 u5 acc.length (rows acc)):=hown
  have HB:Hid (wr.heap[B]? = some (.cells #[] 166 (0,0))∧Below B w wr):=⟨hB,hbel⟩
  have HR:Hid (rest s acc pos pos=toks s):=hrest
  clear hown hB hbel hrest
  by_cases hp:(pos:Int)<s.size
  ·have hp':pos<s.size:=by omega
   cases hpart:jbD s[pos] with
   | true =>
    rcases jk0 hpart with h|h|h|h
    ·have t32:((s[pos].toNat:Int)==32)=true:=by rw [h];rfl
     have HQ:Hid (rest s acc (pos+1) (pos+1)=toks s):=show rest s acc (pos+1) (pos+1)=toks s by
      rw [←HR.out,jdY s acc pos hp' hpart,jfe (.inl h),lan]
     clear h
     go_wp2
     go_roundw
     case rel=>exact ⟨pos+1,acc,by go_num,by omega,HO.out,HB.out.1,HB.out.2,HQ.out,by omega⟩
     case measure=>simp [intOf];omega
    ·have t32:((s[pos].toNat:Int)==32)=false:=by rw [h];rfl
     have t10:((s[pos].toNat:Int)==10)=true:=by rw [h];rfl
     have HQ:Hid (rest s acc (pos+1) (pos+1)=toks s):=show rest s acc (pos+1) (pos+1)=toks s by
      rw [←HR.out,jdY s acc pos hp' hpart,jfe (.inr h),lan]
     clear h
     go_wp2
     go_roundw
     case rel=>exact ⟨pos+1,acc,by go_num,by omega,HO.out,HB.out.1,HB.out.2,HQ.out,by omega⟩
     case measure=>simp [intOf];omega
    ·have t32:((s[pos].toNat:Int)==32)=false:=by rw [h];rfl
     have t10:((s[pos].toNat:Int)==10)=false:=by rw [h];rfl
     have t40:((s[pos].toNat:Int)==40)=true:=by rw [h];rfl
     have HQ:Hid (rest s (acc++[⟨1,pos,0,⟨#[40]⟩⟩]) (pos+1) (pos+1)=toks s):=show rest s (acc++[⟨1,pos,0,⟨#[40]⟩⟩]) (pos+1) (pos+1)=toks s by
      rw [←HR.out,jdY s acc pos hp' hpart,h];rfl
     clear h
     go_wp2_with (first|(at_builtin;refine wpList_append_own _ rfl _ _ 144 rfl (B+1) 166 i0 _ 4 40 Tryz.underlying144 hi hz0 hz1 hz2 rfl (by decide) _ acc.length (rows acc) rfl (HO.out.alloc _) ⟨wr.heap.size,0,none⟩ 1 1 [.int .i64 1,.int .i64 pos,.int .i64 0,.string ⟨#[40]⟩] rfl rfl ?c1 ?c2 ?c3 ?c4 ?c5 ?_))
     case c1=>exact World.news_of_block (cs:=#[.int .i64 1,.int .i64 pos,.int .i64 0,.string ⟨#[40]⟩]) (t:=166) (fr:=(0,0)) (han wr _)
     case c2=>simp [Value.oneCell']
     case c3=>unfold maxLen;omega
     case c4=>omega
     case c5=>have:=(aes.1 HB.out.1).1;simp;omega
     intro v' w4 hown4 hgrow4 _
     have R:=jex (t:=⟨1,pos,0,⟨#[40]⟩⟩) HB.out.1 HB.out.2 (jbj wr _) HO.out hown4 hgrow4
     have HRR:Hid _:=R
     clear hown4 hgrow4 R
     go_wp2
     go_roundw
     case rel=>first|exact ⟨pos+1,acc++[⟨1,pos,0,⟨#[40]⟩⟩],by go_num,by omega,HRR.out.2.2,HRR.out.1,HRR.out.2.1,HQ.out,by simp;omega⟩|((repeat apply Exists.intro);exact ⟨⟨pos+1,acc++[⟨1,pos,0,⟨#[40]⟩⟩],by go_num,by omega,HRR.out.2.2,HRR.out.1,HRR.out.2.1,HQ.out,by simp;omega⟩,rfl⟩)
     case measure=>simp [intOf];omega
    ·have t32:((s[pos].toNat:Int)==32)=false:=by rw [h];rfl
     have t10:((s[pos].toNat:Int)==10)=false:=by rw [h];rfl
     have t40:((s[pos].toNat:Int)==40)=false:=by rw [h];rfl
     have t41:((s[pos].toNat:Int)==41)=true:=by rw [h];rfl
     have HQ:Hid (rest s (acc++[⟨2,pos,0,⟨#[41]⟩⟩]) (pos+1) (pos+1)=toks s):=show rest s (acc++[⟨2,pos,0,⟨#[41]⟩⟩]) (pos+1) (pos+1)=toks s by
      rw [←HR.out,jdY s acc pos hp' hpart,h];rfl
     clear h
     go_wp2_with (first|(at_builtin;refine wpList_append_own _ rfl _ _ 144 rfl (B+1) 166 i0 _ 4 40 Tryz.underlying144 hi hz0 hz1 hz2 rfl (by decide) _ acc.length (rows acc) rfl (HO.out.alloc _) ⟨wr.heap.size,0,none⟩ 1 1 [.int .i64 2,.int .i64 pos,.int .i64 0,.string ⟨#[41]⟩] rfl rfl ?c1 ?c2 ?c3 ?c4 ?c5 ?_))
     case c1=>exact World.news_of_block (cs:=#[.int .i64 2,.int .i64 pos,.int .i64 0,.string ⟨#[41]⟩]) (t:=166) (fr:=(0,0)) (han wr _)
     case c2=>simp [Value.oneCell']
     case c3=>unfold maxLen;omega
     case c4=>omega
     case c5=>have:=(aes.1 HB.out.1).1;simp;omega
     intro v' w4 hown4 hgrow4 _
     have R:=jex (t:=⟨2,pos,0,⟨#[41]⟩⟩) HB.out.1 HB.out.2 (jbj wr _) HO.out hown4 hgrow4
     have HRR:Hid _:=R
     clear hown4 hgrow4 R
     go_wp2
     go_roundw
     case rel=>first|exact ⟨pos+1,acc++[⟨2,pos,0,⟨#[41]⟩⟩],by go_num,by omega,HRR.out.2.2,HRR.out.1,HRR.out.2.1,HQ.out,by simp;omega⟩|((repeat apply Exists.intro);exact ⟨⟨pos+1,acc++[⟨2,pos,0,⟨#[41]⟩⟩],by go_num,by omega,HRR.out.2.2,HRR.out.1,HRR.out.2.1,HQ.out,by simp;omega⟩,rfl⟩)
     case measure=>simp [intOf];omega
   | false =>
    obtain ⟨n32,n10,n40,n41⟩:=jpd hpart
    have t32:((s[pos].toNat:Int)==32)=false:=by rw [beq_eq_false_iff_ne];omega
    have t10:((s[pos].toNat:Int)==10)=false:=by rw [beq_eq_false_iff_ne];omega
    have t40:((s[pos].toNat:Int)==40)=false:=by rw [beq_eq_false_iff_ne];omega
    have t41:((s[pos].toNat:Int)==41)=false:=by rw [beq_eq_false_iff_ne];omega
    clear n32 n10 n40 n41
    go_wp2
    go_loop [7] (fun v7=>∃ to:Nat,v7=.int .i64 to∧pos≤to∧to≤s.size∧∀ k,pos≤k→∀ h:k<s.size,k<to→jbD (s[k]'h)=false) (fun v7=>s.size-(intOf v7).toNat)
    case atStart=>exact ⟨pos,rfl,nlr _,by omega,by intro k h1 h h2;omega⟩
    case round =>
     obtain ⟨to,rfl,h1,h2,h3⟩:=hrel
     have HNP:Hid (∀ k,pos≤k→∀ h:k<s.size,k<to→jbD (s[k]'h)=false):=h3
     clear h3
     by_cases hto:(to:Int)<s.size
     ·have hto':to<s.size:=by omega
      cases hpt:jbD s[to] with
      | false =>
       have HPT:Hid (jbD s[to]=false):=hpt
       go_wp2_with fail
       refine (jd2 _ _).mono ?_
       rintro e w1 ⟨rfl,hw1⟩
       subst hw1
       go_wp2
       go_round
       case rel =>
        refine ⟨to+1,by go_num,by omega,by omega,?_⟩
        intro k hk1 hk2 hk3
        rcases Nat.lt_or_ge k to with hh|hh
        ·exact HNP.out k hk1 hk2 hh
        ·have e:k=to:=by omega
         subst e;exact HPT.out
       case measure=>simp [intOf];omega
      | true =>
       have HEND:Hid (∀ h:to<s.size,jbD (s[to]'h)=true):=fun _=>hpt
       have hgt:pos<to:=by
        rcases Nat.lt_or_ge pos to with hh|hh
        ·exact hh
        ·exfalso
         have e:to=pos:=by omega
         have:=HEND.out (by omega)
         simp only [e,hpart] at this
         cases this
       have HX:Hid (rest s acc pos pos=match jcS (s.extract pos to) pos with|none=>([],(pos:Int))|some t=>rest s (acc++[t]) to to) :=
        jhU hgt h2 (fun j hj=>HNP.out (pos+j) (by omega) (by omega) (by omega)) HEND.out
       have hx:(s.extract pos to).size≤maxLen:=by rw [jcH s pos to (by omega) h2];unfold maxLen;omega
       have hi1:(pos:Int)≤(to:Int):=by omega
       have hi2:(to:Int)≤(s.size:Int):=by omega
       cases hw:jbf (s.extract pos to).data.toList with
       | some v =>
        have HQ:Hid (rest s (acc++[⟨3,pos,v,s.extract pos to⟩]) to to=toks s):=show _=toks s by
         rw [←HR.out,HX.out];unfold jcS;rw [hw]
        have HC:Hid (∀ w,Calls Tryz.prog 100 #[.string (s.extract pos to)] w fun e w'=>e=.returned (.tuple #[.int .i64 v,.bool true])∧Below w.heap.size w w'):=fun w=>jdx _ hx v hw w
        clear hw hpart
        go_wp2_with fail
        refine (jd2 _ _).mono ?_
        rintro e w1 ⟨rfl,hw1⟩
        subst hw1
        go_wp2_with fail
        refine (HC.out _).mono ?_
        rintro e w2 ⟨rfl,hb2⟩
        have HO2:Hid (w2.ownsRow (B+1) 166 4 u5 acc.length (rows acc)):=jct HO.out hb2
        have HB2:Hid (w2.heap[B]? = some (.cells #[] 166 (0,0))∧Below B w w2):=⟨(hb2.block _ (aes.1 HB.out.1).1).trans HB.out.1,HB.out.2.trans (hb2.mono (by have:=(aes.1 HB.out.1).1;omega))⟩
        clear hb2
        go_wp2_with (first|(at_builtin;refine wpList_append_own _ rfl _ _ 144 rfl (B+1) 166 i0 _ 4 40 Tryz.underlying144 hi hz0 hz1 hz2 rfl (by decide) _ acc.length (rows acc) rfl (HO2.out.alloc _) ⟨w2.heap.size,0,none⟩ 1 1 [.int .i64 3,.int .i64 pos,.int .i64 v,.string (s.extract pos to)] rfl rfl ?c1 ?c2 ?c3 ?c4 ?c5 ?_))
        case c1=>exact World.news_of_block (cs:=#[.int .i64 3,.int .i64 pos,.int .i64 v,.string (s.extract pos to)]) (t:=166) (fr:=(0,0)) (han w2 _)
        case c2=>simp [Value.oneCell']
        case c3=>unfold maxLen;omega
        case c4=>omega
        case c5=>have:=(aes.1 HB2.out.1).1;simp;omega
        intro v' w4 hown4 hgrow4 _
        have R:=jex (t:=⟨3,pos,v,s.extract pos to⟩) HB2.out.1 HB2.out.2 (jbj w2 _) HO2.out hown4 hgrow4
        have HRR:Hid _:=R
        clear hown4 hgrow4 R
        go_wp2
        go_roundw
        case rel=>first|exact ⟨to,acc++[⟨3,pos,v,s.extract pos to⟩],by go_num,by omega,HRR.out.2.2,HRR.out.1,HRR.out.2.1,HQ.out,by simp;omega⟩|((repeat apply Exists.intro);exact ⟨⟨to,acc++[⟨3,pos,v,s.extract pos to⟩],by go_num,by omega,HRR.out.2.2,HRR.out.1,HRR.out.2.1,HQ.out,by simp;omega⟩,rfl⟩)
        case measure=>simp [intOf];omega
       | none =>
        have HC:Hid (∀ w,Calls Tryz.prog 100 #[.string (s.extract pos to)] w fun e w'=>(∃ n,e=.returned (.tuple #[.int .i64 n,.bool false]))∧Below w.heap.size w w'):=fun w=>jdw _ hx hw w
        cases hsy:symB (s.extract pos to).data.toList with
        | true =>
         have HQ:Hid (rest s (acc++[⟨4,pos,0,s.extract pos to⟩]) to to=toks s):=show _=toks s by
          rw [←HR.out,HX.out];unfold jcS;rw [hw,hsy];rfl
         have HSY:Hid (∀ w,Calls Tryz.prog 94 #[.string (s.extract pos to)] w fun e w'=>e=.returned (.bool true)∧w'=w):=fun w=>by
          have:=jd3 (s.extract pos to) w hx
          rw [hsy] at this
          exact this
         clear hw hsy hpart
         go_wp2_with fail
         refine (jd2 _ _).mono ?_
         rintro e w1 ⟨rfl,hw1⟩
         subst hw1
         go_wp2_with fail
         refine (HC.out _).mono ?_
         rintro e w2 ⟨⟨n,rfl⟩,hb2⟩
         have HO2:Hid (w2.ownsRow (B+1) 166 4 u5 acc.length (rows acc)):=jct HO.out hb2
         have HB2:Hid (w2.heap[B]? = some (.cells #[] 166 (0,0))∧Below B w w2):=⟨(hb2.block _ (aes.1 HB.out.1).1).trans HB.out.1,HB.out.2.trans (hb2.mono (by have:=(aes.1 HB.out.1).1;omega))⟩
         clear hb2
         go_wp2_with fail
         refine (HSY.out _).mono ?_
         rintro e w3 ⟨rfl,hw3⟩
         subst hw3
         go_wp2_with (first|(at_builtin;refine wpList_append_own _ rfl _ _ 144 rfl (B+1) 166 i0 _ 4 40 Tryz.underlying144 hi hz0 hz1 hz2 rfl (by decide) _ acc.length (rows acc) rfl (HO2.out.alloc _) ⟨w3.heap.size,0,none⟩ 1 1 [.int .i64 4,.int .i64 pos,.int .i64 0,.string (s.extract pos to)] rfl rfl ?c1 ?c2 ?c3 ?c4 ?c5 ?_))
         case c1=>exact World.news_of_block (cs:=#[.int .i64 4,.int .i64 pos,.int .i64 0,.string (s.extract pos to)]) (t:=166) (fr:=(0,0)) (han w3 _)
         case c2=>simp [Value.oneCell']
         case c3=>unfold maxLen;omega
         case c4=>omega
         case c5=>have:=(aes.1 HB2.out.1).1;simp;omega
         intro v' w4 hown4 hgrow4 _
         have R:=jex (t:=⟨4,pos,0,s.extract pos to⟩) HB2.out.1 HB2.out.2 (jbj w3 _) HO2.out hown4 hgrow4
         have HRR:Hid _:=R
         clear hown4 hgrow4 R
         go_wp2
         go_roundw
         case rel=>first|exact ⟨to,acc++[⟨4,pos,0,s.extract pos to⟩],by go_num,by omega,HRR.out.2.2,HRR.out.1,HRR.out.2.1,HQ.out,by simp;omega⟩|((repeat apply Exists.intro);exact ⟨⟨to,acc++[⟨4,pos,0,s.extract pos to⟩],by go_num,by omega,HRR.out.2.2,HRR.out.1,HRR.out.2.1,HQ.out,by simp;omega⟩,rfl⟩)
         case measure=>simp [intOf];omega
        | false =>
         have HQ:Hid (toks s=([],(pos:Int))):=show toks s=_ by
          rw [←HR.out,HX.out];unfold jcS;rw [hw,hsy];rfl
         have HSY:Hid (∀ w,Calls Tryz.prog 94 #[.string (s.extract pos to)] w fun e w'=>e=.returned (.bool false)∧w'=w):=fun w=>by
          have:=jd3 (s.extract pos to) w hx
          rw [hsy] at this
          exact this
         clear hw hsy hpart
         go_wp2_with fail
         refine (jd2 _ _).mono ?_
         rintro e w1 ⟨rfl,hw1⟩
         subst hw1
         go_wp2_with fail
         refine (HC.out _).mono ?_
         rintro e w2 ⟨⟨n,rfl⟩,hb2⟩
         have HO2:Hid (w2.ownsRow (B+1) 166 4 u5 acc.length (rows acc)):=jct HO.out hb2
         have HB2:Hid (w2.heap[B]? = some (.cells #[] 166 (0,0))∧Below B w w2):=⟨(hb2.block _ (aes.1 HB.out.1).1).trans HB.out.1,HB.out.2.trans (hb2.mono (by have:=(aes.1 HB.out.1).1;omega))⟩
         clear hb2
         go_wp2_with fail
         refine (HSY.out _).mono ?_
         rintro e w3 ⟨rfl,hw3⟩
         subst hw3
         go_wp2
         go_ret2
         rw [HQ.out]
         exact ⟨_,rfl,by first|exact HB2.out.2|(rw [hBw];exact HB2.out.2),by first|exact jdX HB2.out.1|(rw [hBw];exact jdX HB2.out.1)⟩
     ·have HEND:Hid (∀ h:to<s.size,jbD (s[to]'h)=true):=fun h=>absurd h (by omega)
      have hgt:pos<to:=by
       rcases Nat.lt_or_ge pos to with hh|hh
       ·exact hh
       ·exfalso
        have e:to=pos:=by omega
        have:=HEND.out (by omega)
        simp only [e,hpart] at this
        cases this
      have HX:Hid (rest s acc pos pos=match jcS (s.extract pos to) pos with|none=>([],(pos:Int))|some t=>rest s (acc++[t]) to to) :=
       jhU hgt h2 (fun j hj=>HNP.out (pos+j) (by omega) (by omega) (by omega)) HEND.out
      have hx:(s.extract pos to).size≤maxLen:=by rw [jcH s pos to (by omega) h2];unfold maxLen;omega
      have hi1:(pos:Int)≤(to:Int):=by omega
      have hi2:(to:Int)≤(s.size:Int):=by omega
      cases hw:jbf (s.extract pos to).data.toList with
      | some v =>
       have HQ:Hid (rest s (acc++[⟨3,pos,v,s.extract pos to⟩]) to to=toks s):=show _=toks s by
        rw [←HR.out,HX.out];unfold jcS;rw [hw]
       have HC:Hid (∀ w,Calls Tryz.prog 100 #[.string (s.extract pos to)] w fun e w'=>e=.returned (.tuple #[.int .i64 v,.bool true])∧Below w.heap.size w w'):=fun w=>jdx _ hx v hw w
       clear hw hpart
       go_wp2_with fail
       refine (HC.out _).mono ?_
       rintro e w2 ⟨rfl,hb2⟩
       have HO2:Hid (w2.ownsRow (B+1) 166 4 u5 acc.length (rows acc)):=jct HO.out hb2
       have HB2:Hid (w2.heap[B]? = some (.cells #[] 166 (0,0))∧Below B w w2):=⟨(hb2.block _ (aes.1 HB.out.1).1).trans HB.out.1,HB.out.2.trans (hb2.mono (by have:=(aes.1 HB.out.1).1;omega))⟩
       clear hb2
       go_wp2_with (first|(at_builtin;refine wpList_append_own _ rfl _ _ 144 rfl (B+1) 166 i0 _ 4 40 Tryz.underlying144 hi hz0 hz1 hz2 rfl (by decide) _ acc.length (rows acc) rfl (HO2.out.alloc _) ⟨w2.heap.size,0,none⟩ 1 1 [.int .i64 3,.int .i64 pos,.int .i64 v,.string (s.extract pos to)] rfl rfl ?c1 ?c2 ?c3 ?c4 ?c5 ?_))
       case c1=>exact World.news_of_block (cs:=#[.int .i64 3,.int .i64 pos,.int .i64 v,.string (s.extract pos to)]) (t:=166) (fr:=(0,0)) (han w2 _)
       case c2=>simp [Value.oneCell']
       case c3=>unfold maxLen;omega
       case c4=>omega
       case c5=>have:=(aes.1 HB2.out.1).1;simp;omega
       intro v' w4 hown4 hgrow4 _
       have R:=jex (t:=⟨3,pos,v,s.extract pos to⟩) HB2.out.1 HB2.out.2 (jbj w2 _) HO2.out hown4 hgrow4
       have HRR:Hid _:=R
       clear hown4 hgrow4 R
       go_wp2
       go_roundw
       case rel=>first|exact ⟨to,acc++[⟨3,pos,v,s.extract pos to⟩],by go_num,by omega,HRR.out.2.2,HRR.out.1,HRR.out.2.1,HQ.out,by simp;omega⟩|((repeat apply Exists.intro);exact ⟨⟨to,acc++[⟨3,pos,v,s.extract pos to⟩],by go_num,by omega,HRR.out.2.2,HRR.out.1,HRR.out.2.1,HQ.out,by simp;omega⟩,rfl⟩)
       case measure=>simp [intOf];omega
      | none =>
       have HC:Hid (∀ w,Calls Tryz.prog 100 #[.string (s.extract pos to)] w fun e w'=>(∃ n,e=.returned (.tuple #[.int .i64 n,.bool false]))∧Below w.heap.size w w'):=fun w=>jdw _ hx hw w
       cases hsy:symB (s.extract pos to).data.toList with
       | true =>
        have HQ:Hid (rest s (acc++[⟨4,pos,0,s.extract pos to⟩]) to to=toks s):=show _=toks s by
         rw [←HR.out,HX.out];unfold jcS;rw [hw,hsy];rfl
        have HSY:Hid (∀ w,Calls Tryz.prog 94 #[.string (s.extract pos to)] w fun e w'=>e=.returned (.bool true)∧w'=w):=fun w=>by
         have:=jd3 (s.extract pos to) w hx
         rw [hsy] at this
         exact this
        clear hw hsy hpart
        go_wp2_with fail
        refine (HC.out _).mono ?_
        rintro e w2 ⟨⟨n,rfl⟩,hb2⟩
        have HO2:Hid (w2.ownsRow (B+1) 166 4 u5 acc.length (rows acc)):=jct HO.out hb2
        have HB2:Hid (w2.heap[B]? = some (.cells #[] 166 (0,0))∧Below B w w2):=⟨(hb2.block _ (aes.1 HB.out.1).1).trans HB.out.1,HB.out.2.trans (hb2.mono (by have:=(aes.1 HB.out.1).1;omega))⟩
        clear hb2
        go_wp2_with fail
        refine (HSY.out _).mono ?_
        rintro e w3 ⟨rfl,hw3⟩
        subst hw3
        go_wp2_with (first|(at_builtin;refine wpList_append_own _ rfl _ _ 144 rfl (B+1) 166 i0 _ 4 40 Tryz.underlying144 hi hz0 hz1 hz2 rfl (by decide) _ acc.length (rows acc) rfl (HO2.out.alloc _) ⟨w3.heap.size,0,none⟩ 1 1 [.int .i64 4,.int .i64 pos,.int .i64 0,.string (s.extract pos to)] rfl rfl ?c1 ?c2 ?c3 ?c4 ?c5 ?_))
        case c1=>exact World.news_of_block (cs:=#[.int .i64 4,.int .i64 pos,.int .i64 0,.string (s.extract pos to)]) (t:=166) (fr:=(0,0)) (han w3 _)
        case c2=>simp [Value.oneCell']
        case c3=>unfold maxLen;omega
        case c4=>omega
        case c5=>have:=(aes.1 HB2.out.1).1;simp;omega
        intro v' w4 hown4 hgrow4 _
        have R:=jex (t:=⟨4,pos,0,s.extract pos to⟩) HB2.out.1 HB2.out.2 (jbj w3 _) HO2.out hown4 hgrow4
        have HRR:Hid _:=R
        clear hown4 hgrow4 R
        go_wp2
        go_roundw
        case rel=>first|exact ⟨to,acc++[⟨4,pos,0,s.extract pos to⟩],by go_num,by omega,HRR.out.2.2,HRR.out.1,HRR.out.2.1,HQ.out,by simp;omega⟩|((repeat apply Exists.intro);exact ⟨⟨to,acc++[⟨4,pos,0,s.extract pos to⟩],by go_num,by omega,HRR.out.2.2,HRR.out.1,HRR.out.2.1,HQ.out,by simp;omega⟩,rfl⟩)
        case measure=>simp [intOf];omega
       | false =>
        have HQ:Hid (toks s=([],(pos:Int))):=show toks s=_ by
         rw [←HR.out,HX.out];unfold jcS;rw [hw,hsy];rfl
        have HSY:Hid (∀ w,Calls Tryz.prog 94 #[.string (s.extract pos to)] w fun e w'=>e=.returned (.bool false)∧w'=w):=fun w=>by
         have:=jd3 (s.extract pos to) w hx
         rw [hsy] at this
         exact this
        clear hw hsy hpart
        go_wp2_with fail
        refine (HC.out _).mono ?_
        rintro e w2 ⟨⟨n,rfl⟩,hb2⟩
        have HO2:Hid (w2.ownsRow (B+1) 166 4 u5 acc.length (rows acc)):=jct HO.out hb2
        have HB2:Hid (w2.heap[B]? = some (.cells #[] 166 (0,0))∧Below B w w2):=⟨(hb2.block _ (aes.1 HB.out.1).1).trans HB.out.1,HB.out.2.trans (hb2.mono (by have:=(aes.1 HB.out.1).1;omega))⟩
        clear hb2
        go_wp2_with fail
        refine (HSY.out _).mono ?_
        rintro e w3 ⟨rfl,hw3⟩
        subst hw3
        go_wp2
        go_ret2
        rw [HQ.out]
        exact ⟨_,rfl,by first|exact HB2.out.2|(rw [hBw];exact HB2.out.2),by first|exact jdX HB2.out.1|(rw [hBw];exact jdX HB2.out.1)⟩
  ·have hpe:pos=s.size:=by omega
   have HQ:Hid (toks s=(acc,-1)):=show toks s=_ by rw [←HR.out,hpe,jmR]
   clear hpe
   go_wp2
   go_ret2
   rw [HQ.out]
   exact ⟨_,rfl,HB.out.2,jmF HO.out (by omega)⟩
end Go.Proofs.YtjmlfacbcfbhdaaGreatDoor
