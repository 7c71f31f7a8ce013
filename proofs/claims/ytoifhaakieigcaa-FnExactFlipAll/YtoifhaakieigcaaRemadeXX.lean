/- impl.remade, of what is written to what is written. Condition: at most 2^20 nodes, each set of at most 2^22. -/
import Derived.Test.YtoifhaakieigcaaRemX
import Derived.Test.YtoifhaakieigcaaMadeFlip
import Derived.Test.YtoifhaakieigcaaToStx
import Derived.Test.YtoifhaakieigcaaStxP
import Derived.Deep.RegionLaw
import Derived.Deep.RegionWith
import Derived.Deep.AppendLies
import Derived.Deep.LoopGhost
namespace Go.Proofs.Ytoifhaakieigcaa
open Go.ChangeShapes Go.WideShapes Go.ChangeAt Go.RowKit

/-- What is made of a node: the same, but for its set. -/
structure TurnXX (fT : X → X) (fS : X → List Int) : Prop where
  ne : ∀ x, x ≠ .no → fT x ≠ .no
  op : ∀ x, (fT x).op = x.op
  at_ : ∀ x, (fT x).at_ = x.at_
  n : ∀ x, (fT x).n = x.n
  s : ∀ x, (fT x).s = x.s
  set : ∀ x, (fT x).set = fS x
  len : ∀ x, (fT x).len = x.len
  kid : ∀ x i, (fT x).kid i = fT (x.kid i)
  small : ∀ x, x.Small → (fS x).length ≤ maxLen

/-- Where a row's nodes lie. -/
def SrcXX (w : World) (Kp : World → Prop) (e : Job X) : Prop := ∃ p cap, e.fv = .slice p e.len cap ∧ e.len ≤ maxLen ∧ ∀ W, Kp W → ∀ i, i < e.len → ∃ b o sv u, p = some ⟨b, o, none⟩ ∧ Head6 W b (o + i * 6) (e.kid i) sv u ∧ (e.kid i).At 0 w sv u ∧ (e.kid i).Small

theorem small_set {t : X} (h : t.Small) : t.set.length ≤ 4194304 := by
  cases t with
  | no => simp [X.set]
  | mk op a n s set len kid => exact h.1
theorem small_kid {t : X} (h : t.Small) (i : Nat) (hi : i < t.len) : (t.kid i).Small := by
  cases t with
  | no => simp [X.len] at hi
  | mk op a n s set len kid => exact h.2 i hi
theorem at_ne {B : Nat} {w : World} {t : X} {sv v : Value} (h : t.At B w sv v) : t ≠ .no := by
  rintro rfl; exact h.elim

theorem src_kid {w : World} {Kp : World → Prop} (hb : ∀ W, Kp W → Below w.heap.size w W) {x : X} {sx : Value} {p : Option Addr} {n cap g : Nat} (h : x.At 0 w sx (.slice p n cap)) (hs : x.Small) (hn : n = x.len) : SrcXX w Kp ⟨n, x.kid, .slice p n cap, g⟩ := by
  subst hn
  obtain ⟨p', cap', he, hl, hat⟩ := h.xs.at
  injection he with h1 _ h2
  subst h1 h2
  refine ⟨p, cap, rfl, hl, fun W hW i hi => ?_⟩
  obtain ⟨b, o, sv, u, hp, hd, hin⟩ := hat i hi
  exact ⟨b, o, sv, u, hp, hd.below (hb W hW), hin, small_kid hs i hi⟩

theorem xlist_info : (Try.prog.info? 111).map (fun i => (i.zero, i.size, i.bytes)) = some (some (.agg #[.slice none 0 0, .slice none 0 0]), 2, 48) := by kernel_rfl

theorem sumX_J (f : Nat → Nat) (k : Nat) : sumX f k = sumJ f k := by
  induction k with
  | zero => rfl
  | succ k ih => simp only [sumX, sumJ, ih]
theorem sumX_len (f : Nat → Nat) (hf : ∀ i, 1 ≤ f i) (k : Nat) : k ≤ sumX f k := by
  rw [sumX_J]; exact sumJ_len f hf k
theorem count_posX (t : X) : 1 ≤ t.count := by rw [X.count_eq]; omega

/-- What impl's closure must do at a node. -/
def MadeXX (w : World) (PS : Nat) (fS : X → List Int) : Prop := ∀ (x : X) (sx : Value) (vp : Option Addr) (vc : Nat) (kp : Option Addr) (kn kc : Nat) (W : World), Below w.heap.size w W → x.At 0 w sx (.slice vp x.len vc) → x.Small →
  Calls Try.prog 79 #[.agg #[.int .i64 x.op, .int .i64 x.at_, .int .i64 x.n, .string x.s, sx, .slice vp x.len vc], .slice kp kn kc, .pointer (some ⟨PS, 0, none⟩)] W fun e W' => ∃ sv, e = .returned (.agg #[.int .i64 x.op, .int .i64 x.at_, .int .i64 x.n, .string x.s, sv, .slice kp kn kc]) ∧ Below W.heap.size W W' ∧ Own W' W.heap.size sv (fS x)

/-- The world when the loop begins: the row of one, and the list of one. -/
theorem rem_startXX {w w1 : World} {fT : X → X} {t : X} {su : Value} {p : Option Addr} {cap : Nat} {oA : Obj} (hin : t.At 0 w su (.slice p t.len cap)) (hsm : t.Small)
    (hg : ((w.alloc oA).alloc (.cells #[.int .i64 0, .int .i64 0, .int .i64 0, .string ⟨#[]⟩, .slice none 0 0, .slice none 0 0] 29)).grownBy w1 none) {zs : List Value} (hz : zs.length = 6)
    (hown : w1.ownsRow 0 29 6 (.slice (some ⟨w.heap.size + 1 + 1, 0, none⟩) 1 1) 1 zs) :
    RemX fT 111 (SrcXX w (Kept w (w.heap.size + 1) w1.heap.size (.cells #[.int .i64 0, .int .i64 0, .int .i64 0, .string ⟨#[]⟩, .slice none 0 0, .slice none 0 0] 29) (.cells #[.int .i64 t.op, .int .i64 t.at_, .int .i64 t.n, .string t.s, su, .slice p t.len cap] 29)))
      (Kept w (w.heap.size + 1) w1.heap.size (.cells #[.int .i64 0, .int .i64 0, .int .i64 0, .string ⟨#[]⟩, .slice none 0 0, .slice none 0 0] 29) (.cells #[.int .i64 t.op, .int .i64 t.at_, .int .i64 t.n, .string t.s, su, .slice p t.len cap] 29)) (NewB w (w.heap.size + 1) w1.heap.size)
      (fun w' S => XsOwn w' 1 (fun _ => fT t) (.slice (some ⟨w.heap.size + 1 + 1, 0, none⟩) 1 1) S)
      ((w1.alloc (.cells #[.int .i64 t.op, .int .i64 t.at_, .int .i64 t.n, .string t.s, su, .slice p t.len cap] 29)).alloc (.cells #[.slice (some ⟨w1.heap.size, 0, none⟩) 1 1, .slice (some ⟨w.heap.size + 1 + 1, 0, none⟩) 1 1] 111)) [] [⟨1, fun _ => t, .slice (some ⟨w1.heap.size, 0, none⟩) 1 1, w.heap.size + 1 + 1⟩] (w1.heap.size + 1) 1 := by
  have e1 : (w.alloc oA).heap.size = w.heap.size + 1 := by simp
  have e2 : ((w.alloc oA).alloc (.cells #[.int .i64 0, .int .i64 0, .int .i64 0, .string ⟨#[]⟩, .slice none 0 0, .slice none 0 0] 29)).heap.size = w.heap.size + 1 + 1 := by simp
  have hs1 : w.heap.size + 1 + 1 < w1.heap.size := (hown.lt _ rfl).2
  have b1 : Below w.heap.size w w1 := ((newx w oA).trans ((newx _ _).mono (by omega))).trans ⟨hg.os, hg.tape, hg.output, hg.size, fun x hx => hg.block x (by omega) (by simp)⟩
  have hR : w1.heap[w.heap.size + 1]? = some (.cells #[.int .i64 0, .int .i64 0, .int .i64 0, .string ⟨#[]⟩, .slice none 0 0, .slice none 0 0] 29 (0, 0)) := by
    have n2 := heap_alloc_new (w.alloc oA) (.cells #[.int .i64 0, .int .i64 0, .int .i64 0, .string ⟨#[]⟩, .slice none 0 0, .slice none 0 0] 29)
    rw [e1] at n2
    exact (hg.block _ (by omega) (by simp)).trans n2
  obtain ⟨oT, hoT⟩ : ∃ oT : Obj, oT = .cells #[.int .i64 t.op, .int .i64 t.at_, .int .i64 t.n, .string t.s, su, .slice p t.len cap] 29 := ⟨_, rfl⟩
  obtain ⟨oL, hoL⟩ : ∃ oL : Obj, oL = .cells #[.slice (some ⟨w1.heap.size, 0, none⟩) 1 1, .slice (some ⟨w.heap.size + 1 + 1, 0, none⟩) 1 1] 111 := ⟨_, rfl⟩
  rw [← hoT, ← hoL]
  have e3 : (w1.alloc oT).heap.size = w1.heap.size + 1 := by simp
  have bL : Below w1.heap.size w1 ((w1.alloc oT).alloc oL) := (newx w1 oT).trans ((newx _ oL).mono (by omega))
  have hTB : ((w1.alloc oT).alloc oL).heap[w1.heap.size]? = some oT := (Below.heap_alloc _ _ _ (by omega)).trans (heap_alloc_new w1 oT)
  have hLB : ((w1.alloc oT).alloc oL).heap[w1.heap.size + 1]? = some oL := by
    have := heap_alloc_new (w1.alloc oT) oL
    rwa [e3] at this
  have e4 : ((w1.alloc oT).alloc oL).heap.size = w1.heap.size + 1 + 1 := by simp
  refine RemX.start (e := ⟨1, fun _ => t, .slice (some ⟨w1.heap.size, 0, none⟩) 1 1, w.heap.size + 1 + 1⟩) ⟨b1.trans (bL.mono (by omega)), (bL.block _ (by omega)).trans hR, hTB⟩ ⟨⟨?_, ?_, ?_⟩, ?_, ?_⟩ ⟨?_, ?_, ?_⟩ ⟨zs, ?_, ?_⟩ ⟨?_, ?_⟩ ?_
  · show w.heap.size ≤ w.heap.size + 1 + 1; omega
  · show w.heap.size + 1 + 1 ≠ w.heap.size + 1; omega
  · show w.heap.size + 1 + 1 ≠ w1.heap.size; omega
  · show w.heap.size + 1 + 1 ≠ w1.heap.size + 1; omega
  · show w.heap.size + 1 + 1 < _; omega
  · omega
  · omega
  · omega
  · simpa using hz
  · exact own_sameG hown (bL.block _ (by omega))
  · refine ⟨_, 1, rfl, by show 1 ≤ maxLen; unfold maxLen; omega, fun W hW i hi => ⟨w1.heap.size, 0, su, .slice p t.len cap, rfl, ?_, hin, hsm⟩⟩
    have hi0 : i = 0 := by have : i < 1 := hi; omega
    subst hi0
    have h := hW.top
    rw [hoT] at h
    exact ⟨cell_of_row W _ 0 _ _ _ h, cell_of_row W _ 1 _ _ _ h, cell_of_row W _ 2 _ _ _ h, cell_of_row W _ 3 _ _ _ h, cell_of_row W _ 4 _ _ _ h, cell_of_row W _ 5 _ _ _ h⟩
  · show 0 < 1; omega
  · refine ⟨rfl, .inr ⟨w1.heap.size + 1, 1, #[.slice (some ⟨w1.heap.size, 0, none⟩) 1 1, .slice (some ⟨w.heap.size + 1 + 1, 0, none⟩) 1 1], rfl, Nat.zero_le _, ?_, Nat.le_refl _, by unfold maxLen; omega, rfl, rfl⟩⟩
    rw [hLB, hoL]

/-- .. with what is wanted of it, by name. -/
theorem rem_beginXX {w w1 : World} {fT : X → X} {t : X} {su : Value} {p : Option Addr} {cap : Nat} {oA : Obj} (hin : t.At 0 w su (.slice p t.len cap)) (hsm : t.Small)
    (hg : ((w.alloc oA).alloc (.cells #[.int .i64 0, .int .i64 0, .int .i64 0, .string ⟨#[]⟩, .slice none 0 0, .slice none 0 0] 29)).grownBy w1 none) {zs : List Value} (hz : zs.length = 6)
    (hown : w1.ownsRow 0 29 6 (.slice (some ⟨w.heap.size + 1 + 1, 0, none⟩) 1 1) 1 zs) :
    ∃ (Kp : World → Prop) (New : Nat → Prop) (P : World → List Nat → Prop), Env Kp New ∧ (∀ W, Kp W → Below w.heap.size w W ∧ Six W (w.heap.size + 1) 0 0 0 ⟨#[]⟩ (.slice none 0 0) (.slice none 0 0) 29) ∧ (∀ x, New x → w.heap.size ≤ x ∧ x ≠ w.heap.size + 1) ∧ (∀ W S, P W S → XsOwn W 1 (fun _ => fT t) (.slice (some ⟨w.heap.size + 1 + 1, 0, none⟩) 1 1) S) ∧
      RemX fT 111 (SrcXX w Kp) Kp New P ((w1.alloc (.cells #[.int .i64 t.op, .int .i64 t.at_, .int .i64 t.n, .string t.s, su, .slice p t.len cap] 29)).alloc (.cells #[.slice (some ⟨w1.heap.size, 0, none⟩) 1 1, .slice (some ⟨w.heap.size + 1 + 1, 0, none⟩) 1 1] 111)) [] [⟨1, fun _ => t, .slice (some ⟨w1.heap.size, 0, none⟩) 1 1, w.heap.size + 1 + 1⟩] (w1.heap.size + 1) 1 :=
  ⟨_, _, _, Kept.env _ _ _ _ _, fun _ h => ⟨h.bel, h.res⟩, fun _ h => ⟨h.1, h.2.1⟩, fun _ _ h => h, rem_startXX (fT := fT) hin hsm hg hz hown⟩

section
variable {fT : X → X} {fS : X → List Int} {tL tJ : TypeId} {Src : Job X → Prop} {Kp : World → Prop} {New : Nat → Prop} {P : World → List Nat → Prop}
theorem st6_turn (hF : TurnXX fT fS) (W : World) (g q : Nat) (x : X) (sv v : Value) : st6 W g q (fT x) sv v = st6 W g q x sv v := by
  unfold st6; rw [hF.op, hF.at_, hF.n, hF.s]
theorem plainXX (hF : TurnXX fT fS) {B : Nat} {w : World} {x : X} {sx ux : Value} (h : x.At B w sx ux) (hs : x.Small) : (fT x).s.size ≤ maxLen ∧ (-9223372036854775808 ≤ (fT x).n ∧ (fT x).n ≤ 9223372036854775807) ∧ (fT x).set.length ≤ maxLen := by
  rw [hF.s, hF.n, hF.set]
  exact ⟨h.size, h.num, hF.small x hs⟩
/-- A node without kids is stored. -/
theorem innXX_leaf {Wm W : World} {R Ri : List Nat} {rest en : List (Job X)} {n g k : Nat} {kid : Nat → X} {fv : Value} {l : List XR} {junk : List Value} {gL cap NB : Nat} {sv sx ux : Value} {w : World} (hE : Env Kp New) (hF : TurnXX fT fS) (h : InnX fT X.count tL tJ Src Kp New P Wm R Ri rest en [] ⟨n, kid, fv, g⟩ l junk gL cap NB) (hb : Below Wm.heap.size Wm W) (hk : l.length = k) (hlt : k < n)
    (hx : (kid k).At 0 w sx ux) (hsm : (kid k).Small) (hs : Own W Wm.heap.size sv (fS (kid k))) (h0 : (kid k).len = 0) :
    InnX fT X.count tL tJ Src Kp New P (st6 W g (k * 6) (kid k) sv (.slice none 0 0)) R (Ri ++ sv.ownBlock.toList) rest en [] ⟨n, kid, fv, g⟩ (l ++ [(fT (kid k), sv, .slice none 0 0)]) (junk.drop 6) gL cap NB := by
  subst hk
  have h1 := WandX.leaf (sv := sv) (h.below hE hb).wandi (hF.ne _ (at_ne hx)) (plainXX hF hx hsm) (by rw [hF.set]; exact hs.mono (Nat.zero_le _)) (by rw [hF.len]; exact h0)
  have h2 := InnX.store (v := .slice none 0 0) hE h hb hs hlt (by simpa using h1) (by simp only [totalJ, List.map_nil, List.sum_nil]; rw [X.count_eq, h0]; rfl)
  simp only [List.append_nil] at h2
  rw [← st6_turn hF]
  exact h2
/-- A node with kids is stored; their row is left. -/
theorem innXX_node {Wm W : World} {R Ri : List Nat} {rest en : List (Job X)} {n g k g1 : Nat} {kid : Nat → X} {fv fv1 : Value} {l : List XR} {junk : List Value} {gL cap NB : Nat} {sv sx ux : Value} {w : World} (hE : Env Kp New) (hF : TurnXX fT fS) (h : InnX fT X.count tL tJ Src Kp New P Wm R Ri rest en [⟨(kid k).len, (kid k).kid, fv1, g1⟩] ⟨n, kid, fv, g⟩ l junk gL cap NB) (hb : Below Wm.heap.size Wm W) (hk : l.length = k) (hlt : k < n)
    (hx : (kid k).At 0 w sx ux) (hsm : (kid k).Small) (hs : Own W Wm.heap.size sv (fS (kid k))) :
    InnX fT X.count tL tJ Src Kp New P (st6 W g (k * 6) (kid k) sv (.slice (some ⟨g1, 0, none⟩) (kid k).len (kid k).len)) R (Ri ++ sv.ownBlock.toList) rest (en ++ [⟨(kid k).len, (kid k).kid, fv1, g1⟩]) [] ⟨n, kid, fv, g⟩ (l ++ [(fT (kid k), sv, .slice (some ⟨g1, 0, none⟩) (kid k).len (kid k).len)]) (junk.drop 6) gL cap NB := by
  subst hk
  have h1 := WandX.node (sv := sv) (v := .slice (some ⟨g1, 0, none⟩) (kid l.length).len (kid l.length).len) (h.below hE hb).wandi (hF.ne _ (at_ne hx)) (plainXX hF hx hsm) (by rw [hF.set]; exact hs.mono (Nat.zero_le _))
  have e1 : (⟨(fT (kid l.length)).len, (fT (kid l.length)).kid, .slice (some ⟨g1, 0, none⟩) (kid l.length).len (kid l.length).len⟩ : Ent X) = Job.ent fT ⟨(kid l.length).len, (kid l.length).kid, fv1, g1⟩ := by
    unfold Job.ent Job.tv
    rw [hF.len]
    congr 1
    funext i
    exact hF.kid _ i
  have h2 := InnX.store (v := .slice (some ⟨g1, 0, none⟩) (kid l.length).len (kid l.length).len) hE h hb hs hlt (by rw [List.map_append]; simp only [List.map_cons, List.map_nil]; rw [← e1]; exact h1) (by rw [totalJ_one]; unfold Job.total; rw [X.count_eq, sumX_J]; simp only; omega)
  rw [← st6_turn hF]
  exact h2
end
end Go.Proofs.Ytoifhaakieigcaa
