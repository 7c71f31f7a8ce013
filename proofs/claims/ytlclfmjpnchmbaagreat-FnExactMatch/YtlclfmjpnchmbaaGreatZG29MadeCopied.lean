/- impl.remade, of what is written to what is written. Condition: at most 2^20 nodes, each set of at most 2^22. -/
import Derived.Test.YtlclfmjpnchmbaaGreatZG28MadeFlip
import Derived.Test.YtlclfmjpnchmbaaGreatZG7EqStx
import Derived.Test.YtlclfmjpnchmbaaGreatZG2StxP
import Derived.Test.YtlclfmjpnchmbaaGreatZG11ImplDots
import Derived.Test.YtlclfmjpnchmbaaGreatZG6SzStx
import Derived.Test.YtlclfmjpnchmbaaGreatZG19PatSpec
import Derived.Deep.RegionLaw
import Derived.Deep.RegionWith
import Derived.Deep.AppendLies
import Derived.Deep.LoopGhost
namespace Go.Proofs.YtlclfmjpnchmbaaGreat
open Go.ChangeShapes Go.WideShapes Go.ChangeAt Go.RowKit

/-- What is made of a node: the same, but for its set. -/
structure TurnXX (fT : X → X) (fS : X → List Int) : Prop where
  ne : ∀ x, x ≠ .no → fT x ≠ .no
  op : ∀ x, (fT x).op = x.op
  at_ : ∀ x, (fT x).at_ = x.at_
  n : ∀ x, (fT x).n = x.n
  s : ∀ x, (fT x).s = x.s
  set : ∀ x, (fT x).set = fS x
  len : ∀ x, (fT x).len = x.len
  kid : ∀ x i, (fT x).kid i = fT (x.kid i)
  small : ∀ x, x.Small → (fS x).length ≤ maxLen

/-- Where a row's nodes lie. -/
def SrcXX (w : World) (Kp : World → Prop) (e : Job X) : Prop := ∃ p cap, e.fv = .slice p e.len cap ∧ e.len ≤ maxLen ∧ ∀ W, Kp W → ∀ i, i < e.len → ∃ b o sv u, p = some ⟨b, o, none⟩ ∧ Head6 W b (o + i * 6) (e.kid i) sv u ∧ (e.kid i).At 0 w sv u ∧ (e.kid i).Small

theorem small_set {t : X} (h : t.Small) : t.set.length ≤ 4194304 := by
  cases t with
  | no => simp [X.set]
  | mk op a n s set len kid => exact h.1
theorem small_kid {t : X} (h : t.Small) (i : Nat) (hi : i < t.len) : (t.kid i).Small := by
  cases t with
  | no => simp [X.len] at hi
  | mk op a n s set len kid => exact h.2 i hi
theorem at_ne {B : Nat} {w : World} {t : X} {sv v : Value} (h : t.At B w sv v) : t ≠ .no := by
  rintro rfl; exact h.elim

theorem src_kid {w : World} {Kp : World → Prop} (hb : ∀ W, Kp W → Below w.heap.size w W) {x : X} {sx : Value} {p : Option Addr} {n cap g : Nat} (h : x.At 0 w sx (.slice p n cap)) (hs : x.Small) (hn : n = x.len) : SrcXX w Kp ⟨n, x.kid, .slice p n cap, g⟩ := by
  subst hn
  obtain ⟨p', cap', he, hl, hat⟩ := h.xs.at
  injection he with h1 _ h2
  subst h1 h2
  refine ⟨p, cap, rfl, hl, fun W hW i hi => ?_⟩
  obtain ⟨b, o, sv, u, hp, hd, hin⟩ := hat i hi
  exact ⟨b, o, sv, u, hp, hd.below (hb W hW), hin, small_kid hs i hi⟩

theorem xlist_info : (Tryz.prog.info? 124).map (fun i => (i.zero, i.size, i.bytes)) = some (some (.agg #[.slice none 0 0, .slice none 0 0]), 2, 48) := by kernel_rfl

theorem sumX_J (f : Nat → Nat) (k : Nat) : sumX f k = sumJ f k := by
  induction k with
  | zero => rfl
  | succ k ih => simp only [sumX, sumJ, ih]
theorem sumX_len (f : Nat → Nat) (hf : ∀ i, 1 ≤ f i) (k : Nat) : k ≤ sumX f k := by
  rw [sumX_J]; exact sumJ_len f hf k
theorem count_posX (t : X) : 1 ≤ t.count := by rw [X.count_eq]; omega

/-- What impl's closure must do at a node. -/
def MadeXX (w : World) (PS : Nat) (fS : X → List Int) : Prop := ∀ (x : X) (sx : Value) (vp : Option Addr) (vc : Nat) (kp : Option Addr) (kn kc : Nat) (W : World), Below w.heap.size w W → x.At 0 w sx (.slice vp x.len vc) → x.Small →
  Calls Tryz.prog 87 #[.agg #[.int .i64 x.op, .int .i64 x.at_, .int .i64 x.n, .string x.s, sx, .slice vp x.len vc], .slice kp kn kc, .pointer (some ⟨PS, 0, none⟩)] W fun e W' => ∃ sv, e = .returned (.agg #[.int .i64 x.op, .int .i64 x.at_, .int .i64 x.n, .string x.s, sv, .slice kp kn kc]) ∧ Below W.heap.size W W' ∧ Own W' W.heap.size sv (fS x)

/-- The world when the loop begins: the row of one, and the list of one. -/
theorem rem_startXX {w w1 : World} {fT : X → X} {t : X} {su : Value} {p : Option Addr} {cap : Nat} {oA : Obj} (hin : t.At 0 w su (.slice p t.len cap)) (hsm : t.Small)
    (hg : ((w.alloc oA).alloc (.cells #[.int .i64 0, .int .i64 0, .int .i64 0, .string ⟨#[]⟩, .slice none 0 0, .slice none 0 0] 32)).grownBy w1 none) {zs : List Value} (hz : zs.length = 6)
    (hown : w1.ownsRow 0 32 6 (.slice (some ⟨w.heap.size + 1 + 1, 0, none⟩) 1 1) 1 zs) :
    RemX fT 124 (SrcXX w (Kept w (w.heap.size + 1) w1.heap.size (.cells #[.int .i64 0, .int .i64 0, .int .i64 0, .string ⟨#[]⟩, .slice none 0 0, .slice none 0 0] 32) (.cells #[.int .i64 t.op, .int .i64 t.at_, .int .i64 t.n, .string t.s, su, .slice p t.len cap] 32)))
      (Kept w (w.heap.size + 1) w1.heap.size (.cells #[.int .i64 0, .int .i64 0, .int .i64 0, .string ⟨#[]⟩, .slice none 0 0, .slice none 0 0] 32) (.cells #[.int .i64 t.op, .int .i64 t.at_, .int .i64 t.n, .string t.s, su, .slice p t.len cap] 32)) (NewB w (w.heap.size + 1) w1.heap.size)
      (fun w' S => XsOwn w' 1 (fun _ => fT t) (.slice (some ⟨w.heap.size + 1 + 1, 0, none⟩) 1 1) S)
      ((w1.alloc (.cells #[.int .i64 t.op, .int .i64 t.at_, .int .i64 t.n, .string t.s, su, .slice p t.len cap] 32)).alloc (.cells #[.slice (some ⟨w1.heap.size, 0, none⟩) 1 1, .slice (some ⟨w.heap.size + 1 + 1, 0, none⟩) 1 1] 124)) [] [⟨1, fun _ => t, .slice (some ⟨w1.heap.size, 0, none⟩) 1 1, w.heap.size + 1 + 1⟩] (w1.heap.size + 1) 1 := by
  have e1 : (w.alloc oA).heap.size = w.heap.size + 1 := by simp
  have e2 : ((w.alloc oA).alloc (.cells #[.int .i64 0, .int .i64 0, .int .i64 0, .string ⟨#[]⟩, .slice none 0 0, .slice none 0 0] 32)).heap.size = w.heap.size + 1 + 1 := by simp
  have hs1 : w.heap.size + 1 + 1 < w1.heap.size := (hown.lt _ rfl).2
  have b1 : Below w.heap.size w w1 := ((newx w oA).trans ((newx _ _).mono (by omega))).trans ⟨hg.os, hg.tape, hg.output, hg.size, fun x hx => hg.block x (by omega) (by simp)⟩
  have hR : w1.heap[w.heap.size + 1]? = some (.cells #[.int .i64 0, .int .i64 0, .int .i64 0, .string ⟨#[]⟩, .slice none 0 0, .slice none 0 0] 32 (0, 0)) := by
    have n2 := heap_alloc_new (w.alloc oA) (.cells #[.int .i64 0, .int .i64 0, .int .i64 0, .string ⟨#[]⟩, .slice none 0 0, .slice none 0 0] 32)
    rw [e1] at n2
    exact (hg.block _ (by omega) (by simp)).trans n2
  obtain ⟨oT, hoT⟩ : ∃ oT : Obj, oT = .cells #[.int .i64 t.op, .int .i64 t.at_, .int .i64 t.n, .string t.s, su, .slice p t.len cap] 32 := ⟨_, rfl⟩
  obtain ⟨oL, hoL⟩ : ∃ oL : Obj, oL = .cells #[.slice (some ⟨w1.heap.size, 0, none⟩) 1 1, .slice (some ⟨w.heap.size + 1 + 1, 0, none⟩) 1 1] 124 := ⟨_, rfl⟩
  rw [← hoT, ← hoL]
  have e3 : (w1.alloc oT).heap.size = w1.heap.size + 1 := by simp
  have bL : Below w1.heap.size w1 ((w1.alloc oT).alloc oL) := (newx w1 oT).trans ((newx _ oL).mono (by omega))
  have hTB : ((w1.alloc oT).alloc oL).heap[w1.heap.size]? = some oT := (Below.heap_alloc _ _ _ (by omega)).trans (heap_alloc_new w1 oT)
  have hLB : ((w1.alloc oT).alloc oL).heap[w1.heap.size + 1]? = some oL := by
    have := heap_alloc_new (w1.alloc oT) oL
    rwa [e3] at this
  have e4 : ((w1.alloc oT).alloc oL).heap.size = w1.heap.size + 1 + 1 := by simp
  refine RemX.start (e := ⟨1, fun _ => t, .slice (some ⟨w1.heap.size, 0, none⟩) 1 1, w.heap.size + 1 + 1⟩) ⟨b1.trans (bL.mono (by omega)), (bL.block _ (by omega)).trans hR, hTB⟩ ⟨⟨?_, ?_, ?_⟩, ?_, ?_⟩ ⟨?_, ?_, ?_⟩ ⟨zs, ?_, ?_⟩ ⟨?_, ?_⟩ ?_
  · show w.heap.size ≤ w.heap.size + 1 + 1; omega
  · show w.heap.size + 1 + 1 ≠ w.heap.size + 1; omega
  · show w.heap.size + 1 + 1 ≠ w1.heap.size; omega
  · show w.heap.size + 1 + 1 ≠ w1.heap.size + 1; omega
  · show w.heap.size + 1 + 1 < _; omega
  · omega
  · omega
  · omega
  · simpa using hz
  · exact own_sameG hown (bL.block _ (by omega))
  · refine ⟨_, 1, rfl, by show 1 ≤ maxLen; unfold maxLen; omega, fun W hW i hi => ⟨w1.heap.size, 0, su, .slice p t.len cap, rfl, ?_, hin, hsm⟩⟩
    have hi0 : i = 0 := by have : i < 1 := hi; omega
    subst hi0
    have h := hW.top
    rw [hoT] at h
    exact ⟨cell_of_row W _ 0 _ _ _ h, cell_of_row W _ 1 _ _ _ h, cell_of_row W _ 2 _ _ _ h, cell_of_row W _ 3 _ _ _ h, cell_of_row W _ 4 _ _ _ h, cell_of_row W _ 5 _ _ _ h⟩
  · show 0 < 1; omega
  · refine ⟨rfl, .inr ⟨w1.heap.size + 1, 1, #[.slice (some ⟨w1.heap.size, 0, none⟩) 1 1, .slice (some ⟨w.heap.size + 1 + 1, 0, none⟩) 1 1], rfl, Nat.zero_le _, ?_, Nat.le_refl _, by unfold maxLen; omega, rfl, rfl⟩⟩
    rw [hLB, hoL]

/-- .. with what is wanted of it, by name. -/
theorem rem_beginXX {w w1 : World} {fT : X → X} {t : X} {su : Value} {p : Option Addr} {cap : Nat} {oA : Obj} (hin : t.At 0 w su (.slice p t.len cap)) (hsm : t.Small)
    (hg : ((w.alloc oA).alloc (.cells #[.int .i64 0, .int .i64 0, .int .i64 0, .string ⟨#[]⟩, .slice none 0 0, .slice none 0 0] 32)).grownBy w1 none) {zs : List Value} (hz : zs.length = 6)
    (hown : w1.ownsRow 0 32 6 (.slice (some ⟨w.heap.size + 1 + 1, 0, none⟩) 1 1) 1 zs) :
    ∃ (Kp : World → Prop) (New : Nat → Prop) (P : World → List Nat → Prop), Env Kp New ∧ (∀ W, Kp W → Below w.heap.size w W ∧ Six W (w.heap.size + 1) 0 0 0 ⟨#[]⟩ (.slice none 0 0) (.slice none 0 0) 32) ∧ (∀ x, New x → w.heap.size ≤ x ∧ x ≠ w.heap.size + 1) ∧ (∀ W S, P W S → XsOwn W 1 (fun _ => fT t) (.slice (some ⟨w.heap.size + 1 + 1, 0, none⟩) 1 1) S) ∧
      RemX fT 124 (SrcXX w Kp) Kp New P ((w1.alloc (.cells #[.int .i64 t.op, .int .i64 t.at_, .int .i64 t.n, .string t.s, su, .slice p t.len cap] 32)).alloc (.cells #[.slice (some ⟨w1.heap.size, 0, none⟩) 1 1, .slice (some ⟨w.heap.size + 1 + 1, 0, none⟩) 1 1] 124)) [] [⟨1, fun _ => t, .slice (some ⟨w1.heap.size, 0, none⟩) 1 1, w.heap.size + 1 + 1⟩] (w1.heap.size + 1) 1 :=
  ⟨_, _, _, Kept.env _ _ _ _ _, fun _ h => ⟨h.bel, h.res⟩, fun _ h => ⟨h.1, h.2.1⟩, fun _ _ h => h, rem_startXX (fT := fT) hin hsm hg hz hown⟩

section
variable {fT : X → X} {fS : X → List Int} {tL tJ : TypeId} {Src : Job X → Prop} {Kp : World → Prop} {New : Nat → Prop} {P : World → List Nat → Prop}
theorem st6_turn (hF : TurnXX fT fS) (W : World) (g q : Nat) (x : X) (sv v : Value) : st6 W g q (fT x) sv v = st6 W g q x sv v := by
  unfold st6; rw [hF.op, hF.at_, hF.n, hF.s]
theorem plainXX (hF : TurnXX fT fS) {B : Nat} {w : World} {x : X} {sx ux : Value} (h : x.At B w sx ux) (hs : x.Small) : (fT x).s.size ≤ maxLen ∧ (-9223372036854775808 ≤ (fT x).n ∧ (fT x).n ≤ 9223372036854775807) ∧ (fT x).set.length ≤ maxLen := by
  rw [hF.s, hF.n, hF.set]
  exact ⟨h.size, h.num, hF.small x hs⟩
/-- A node without kids is stored. -/
theorem innXX_leaf {Wm W : World} {R Ri : List Nat} {rest en : List (Job X)} {n g k : Nat} {kid : Nat → X} {fv : Value} {l : List XR} {junk : List Value} {gL cap NB : Nat} {sv sx ux : Value} {w : World} (hE : Env Kp New) (hF : TurnXX fT fS) (h : InnX fT X.count tL tJ Src Kp New P Wm R Ri rest en [] ⟨n, kid, fv, g⟩ l junk gL cap NB) (hb : Below Wm.heap.size Wm W) (hk : l.length = k) (hlt : k < n)
    (hx : (kid k).At 0 w sx ux) (hsm : (kid k).Small) (hs : Own W Wm.heap.size sv (fS (kid k))) (h0 : (kid k).len = 0) :
    InnX fT X.count tL tJ Src Kp New P (st6 W g (k * 6) (kid k) sv (.slice none 0 0)) R (Ri ++ sv.ownBlock.toList) rest en [] ⟨n, kid, fv, g⟩ (l ++ [(fT (kid k), sv, .slice none 0 0)]) (junk.drop 6) gL cap NB := by
  subst hk
  have h1 := WandX.leaf (sv := sv) (h.below hE hb).wandi (hF.ne _ (at_ne hx)) (plainXX hF hx hsm) (by rw [hF.set]; exact hs.mono (Nat.zero_le _)) (by rw [hF.len]; exact h0)
  have h2 := InnX.store (v := .slice none 0 0) hE h hb hs hlt (by simpa using h1) (by simp only [totalJ, List.map_nil, List.sum_nil]; rw [X.count_eq, h0]; rfl)
  simp only [List.append_nil] at h2
  rw [← st6_turn hF]
  exact h2
/-- A node with kids is stored; their row is left. -/
theorem innXX_node {Wm W : World} {R Ri : List Nat} {rest en : List (Job X)} {n g k g1 : Nat} {kid : Nat → X} {fv fv1 : Value} {l : List XR} {junk : List Value} {gL cap NB : Nat} {sv sx ux : Value} {w : World} (hE : Env Kp New) (hF : TurnXX fT fS) (h : InnX fT X.count tL tJ Src Kp New P Wm R Ri rest en [⟨(kid k).len, (kid k).kid, fv1, g1⟩] ⟨n, kid, fv, g⟩ l junk gL cap NB) (hb : Below Wm.heap.size Wm W) (hk : l.length = k) (hlt : k < n)
    (hx : (kid k).At 0 w sx ux) (hsm : (kid k).Small) (hs : Own W Wm.heap.size sv (fS (kid k))) :
    InnX fT X.count tL tJ Src Kp New P (st6 W g (k * 6) (kid k) sv (.slice (some ⟨g1, 0, none⟩) (kid k).len (kid k).len)) R (Ri ++ sv.ownBlock.toList) rest (en ++ [⟨(kid k).len, (kid k).kid, fv1, g1⟩]) [] ⟨n, kid, fv, g⟩ (l ++ [(fT (kid k), sv, .slice (some ⟨g1, 0, none⟩) (kid k).len (kid k).len)]) (junk.drop 6) gL cap NB := by
  subst hk
  have h1 := WandX.node (sv := sv) (v := .slice (some ⟨g1, 0, none⟩) (kid l.length).len (kid l.length).len) (h.below hE hb).wandi (hF.ne _ (at_ne hx)) (plainXX hF hx hsm) (by rw [hF.set]; exact hs.mono (Nat.zero_le _))
  have e1 : (⟨(fT (kid l.length)).len, (fT (kid l.length)).kid, .slice (some ⟨g1, 0, none⟩) (kid l.length).len (kid l.length).len⟩ : Ent X) = Job.ent fT ⟨(kid l.length).len, (kid l.length).kid, fv1, g1⟩ := by
    unfold Job.ent Job.tv
    rw [hF.len]
    congr 1
    funext i
    exact hF.kid _ i
  have h2 := InnX.store (v := .slice (some ⟨g1, 0, none⟩) (kid l.length).len (kid l.length).len) hE h hb hs hlt (by rw [List.map_append]; simp only [List.map_cons, List.map_nil]; rw [← e1]; exact h1) (by rw [totalJ_one]; unfold Job.total; rw [X.count_eq, sumX_J]; simp only; omega)
  rw [← st6_turn hF]
  exact h2
end
end Go.Proofs.YtlclfmjpnchmbaaGreat

/- impl.remade, of what is written to what is written: the walk. Condition: at most 2^20 nodes, each set of at most 2^22. -/
namespace Go.Proofs.YtlclfmjpnchmbaaGreat
open Go.ChangeShapes Go.WideShapes Go.ChangeAt Go.RowKit

set_option maxRecDepth 100000 in
set_option maxHeartbeats 8000000 in
theorem remade_xx (fT : X → X) (fS : X → List Int) (hF : TurnXX fT fS) (PS : Nat) (t : X) (su u : Value) (w : World) (hin : t.At 0 w su u) (hsm : t.Small) (hc : t.count ≤ 1048577) (hM : MadeXX w PS fS) :
    Calls Tryz.prog 86 #[.agg #[.int .i64 t.op, .int .i64 t.at_, .int .i64 t.n, .string t.s, su, u], .func (.func 42) #[] #[], .func (.func 87) #[] #[.pointer (some ⟨PS, 0, none⟩)]] w fun e w' =>
      ∃ su' u' S, e = .returned (.agg #[.int .i64 t.op, .int .i64 t.at_, .int .i64 t.n, .string t.s, su', u']) ∧ Below w.heap.size w w' ∧ XOwn w' (fT t) su' u' S ∧ S.Nodup ∧ ∀ x ∈ S, w.heap.size ≤ x := by
  obtain ⟨iS, hiS, hzS0, hzS1, hzS2⟩ := info_parts stx_info
  obtain ⟨iL, hiL, hzL0, hzL1, hzL2⟩ := info_parts xlist_info
  obtain ⟨p, cap, hu⟩ := hin.xs.shape
  obtain ⟨ps, cps, hsu⟩ := hin.sets.shape
  subst hu hsu
  have HF : Hid (TurnXX fT fS) := hF
  have HM : Hid (MadeXX w PS fS) := hM
  have HC : Hid (t.count ≤ 1048577) := hc
  obtain ⟨w1, hrun, hown, hg⟩ := run_make_full (P := Tryz.prog) ((w.alloc (.cells #[.int .i64 t.op, .int .i64 t.at_, .int .i64 t.n, .string t.s, .slice ps t.set.length cps, .slice p t.len cap] 32)).alloc (.cells #[.int .i64 0, .int .i64 0, .int .i64 0, .string ⟨#[]⟩, .slice none 0 0, .slice none 0 0] 32)) 0 30 32 iS _ 6 Tryz.underlying30 hiS hzS0 hzS1 .i64 .i64 1 (by rw [hzS2]; omega) (by unfold maxLen; omega) (Nat.zero_le _)
  simp only [World.size_alloc] at hrun hown
  obtain ⟨Kp, New, P, hE, hK, hN, hP, hRM⟩ := rem_beginXX (fT := fT) hin hsm hg (by simp [size_madeCells]) hown
  have HE : Hid (Env Kp New) := hE
  have HKP : Hid (∀ W, Kp W → Below w.heap.size w W ∧ Six W (w.heap.size + 1) 0 0 0 ⟨#[]⟩ (.slice none 0 0) (.slice none 0 0) 32) := hK
  have HNW : Hid (∀ x, New x → w.heap.size ≤ x ∧ x ≠ w.heap.size + 1) := hN
  have HPP : Hid (∀ W S, P W S → XsOwn W 1 (fun _ => fT t) (.slice (some ⟨w.heap.size + 1 + 1, 0, none⟩) 1 1) S) := hP
  have HRM : Hid (RemX fT 124 (SrcXX w Kp) Kp New P ((w1.alloc (.cells #[.int .i64 t.op, .int .i64 t.at_, .int .i64 t.n, .string t.s, .slice ps t.set.length cps, .slice p t.len cap] 32)).alloc (.cells #[.slice (some ⟨w1.heap.size, 0, none⟩) 1 1, .slice (some ⟨w.heap.size + 1 + 1, 0, none⟩) 1 1] 124)) [] [⟨1, fun _ => t, .slice (some ⟨w1.heap.size, 0, none⟩) 1 1, w.heap.size + 1 + 1⟩] (w1.heap.size + 1) 1) := hRM
  have hT0 : Six w1 w.heap.size t.op t.at_ t.n t.s (.slice ps t.set.length cps) (.slice p t.len cap) 32 := (hg.block _ (by simp; omega) (by simp)).trans ((Below.heap_alloc _ _ _ (by simp)).trans (heap_alloc_new w _))
  obtain ⟨a0, a1, a2, a3, a4, a5⟩ := hT0.cells
  have hlt1 : w.heap.size + 1 + 1 < w1.heap.size := (hown.lt _ rfl).2
  have hrun' : (Instr.makeSlice 30 (.int .i64 1) (.int .i64 1)).run Tryz.prog ((w.alloc (.cells #[.int .i64 t.op, .int .i64 t.at_, .int .i64 t.n, .string t.s, .slice ps t.set.length cps, .slice p t.len cap] 32)).alloc (.cells #[.int .i64 0, .int .i64 0, .int .i64 0, .string ⟨#[]⟩, .slice none 0 0, .slice none 0 0] 32)) = .ok (.slice (some ⟨w.heap.size + 1 + 1, 0, none⟩) 1 1) w1 := hrun
  clear hrun hown hg hT0 hin hsm hF hM hc hE hK hN hP hRM
  go_enter Tryz.func86, Tryz.ntmps86
  go_wp2_with fail
  clear hrun' a0 a1 a2 a3 a4 a5
  go_loopg [8] t.count (fun k lv wr => ∃ (st : List (Job X)) (gL cap : Nat) (R : List Nat), totalJ X.count st = k ∧ k ≤ 1048577 ∧ lv = .slice (some ⟨gL, 0, none⟩) st.length cap ∧ RemX fT 124 (SrcXX w Kp) Kp New P wr R st gL cap)
  case atStart => exact ⟨_, _, _, _, by simp [totalJ, Job.total, sumJ], HC.out, rfl, HRM.out⟩
  case round =>
    obtain ⟨st, gL, gc, R, hst, hk, rfl, hL⟩ := hrel
    have HST : Hid (totalJ X.count st = gk) := hst
    have HL : Hid (RemX fT 124 (SrcXX w Kp) Kp New P wr R st gL gc) := hL
    clear hst hL HRM
    rcases List.eq_nil_or_concat st with hnil | ⟨r, e, hst⟩
    · subst hnil
      obtain ⟨S, hS1, hS2, hS3⟩ := HL.out.end
      obtain ⟨su', u', T, ⟨c0, c1, c2, c3, c4, c5⟩, hT, hTn, hTS⟩ := row_oneX (HPP.out wr S hS1) hS2
      obtain ⟨hbw, hR6⟩ := HKP.out wr HL.out.keep
      obtain ⟨r0, r1, r2, r3, r4, r5⟩ := hR6.cells
      have rf := hR6.fr
      rw [HF.out.op] at c0
      rw [HF.out.at_] at c1
      rw [HF.out.n] at c2
      rw [HF.out.s] at c3
      obtain ⟨pu, cu, hu⟩ := hT.at0.xs.shape
      obtain ⟨pv, cv, hv⟩ := hT.at0.sets.shape
      subst hu hv
      have HT : Hid (XOwn wr (fT t) (.slice pv (fT t).set.length cv) (.slice pu (fT t).len cu) T ∧ T.Nodup ∧ ∀ x ∈ T, w.heap.size ≤ x ∧ x ≠ w.heap.size + 1) := ⟨hT, hTn, fun x hx => HNW.out x (hS3 x (hTS x hx))⟩
      have HB : Hid (Below w.heap.size w wr) := hbw
      clear hS1 hS2 hS3 hT hTn hTS hbw hR6 HL HST
      go_wp2_with fail
      refine bodyPost_ret (v := .agg #[.int .i64 t.op, .int .i64 t.at_, .int .i64 t.n, .string t.s, .slice pv (fT t).set.length cv, .slice pu (fT t).len cu]) (by rw [results_cellX (p := 6) (ty := 32) (by kernel_rfl)]; simp [go_sem, r0, r1, r2, r3, r4, r5]) rfl ⟨_, _, T, rfl, ?_, ?_, HT.out.2.1, fun x hx => (HT.out.2.2 x hx).1⟩
      · exact put6_below HB.out (w.heap.size + 1) (by omega) _ _ _ _ _ _
      · exact HT.out.1.same _ (fun x hx => put6_other wr (w.heap.size + 1) t.op t.at_ t.n t.s (.slice pv (fT t).set.length cv) (.slice pu (fT t).len cu) x (HT.out.2.2 x hx).2)
    · rw [List.concat_eq_append] at hst
      subst hst
      obtain ⟨n, kid, fv, g⟩ := e
      obtain ⟨⟨pf, cf, hfv, hnl, hat⟩, hn0⟩ := HL.out.src ⟨n, kid, fv, g⟩ (by simp)
      simp only at hfv hnl hat hn0
      subst hfv
      have HAT : Hid (∀ W, Kp W → ∀ i, i < n → ∃ b o sv u, pf = some ⟨b, o, none⟩ ∧ Head6 W b (o + i * 6) (kid i) sv u ∧ (kid i).At 0 w sv u ∧ (kid i).Small) := hat
      obtain ⟨l0, l1⟩ := left_cells HL.out.own
      simp only [Job.tv] at l0 l1
      obtain ⟨hr1, hr2, -, hr4⟩ := own_room HL.out.own
      have hlen : (r ++ [(⟨n, kid, .slice pf n cf, g⟩ : Job X)]).length = r.length + 1 := by simp
      have hrl : r.length + 1 ≤ gk := by
        have := totalJ_len X.count count_posX (r ++ [(⟨n, kid, .slice pf n cf, g⟩ : Job X)]) (fun e he => (HL.out.src e he).2)
        rw [HST.out, hlen] at this; exact this
      obtain ⟨junk0, hI0⟩ := RemX.pop (count := X.count) (tJ := 124) HE.out HL.out
      simp only [Job.tv] at hI0
      rw [hlen] at hr1 ⊢
      unfold maxLen at hr2 hnl
      have HTT : Hid (totalJ X.count (r ++ [(⟨n, kid, .slice pf n cf, g⟩ : Job X)]) = gk) := HST.out
      clear hlen hat HL HST
      obtain ⟨NB, hNB⟩ : ∃ NB, NB = wr.heap.size := ⟨_, rfl⟩
      obtain ⟨rn, hrn⟩ : ∃ rn, rn = r.length := ⟨_, rfl⟩
      rw [← hrn] at hr1 hrl l0 l1 ⊢
      rw [← hNB] at hI0
      have HI0 : Hid (InnX fT X.count 124 124 (SrcXX w Kp) Kp New P (wr.alloc (.cells #[.slice pf n cf, .slice (some ⟨g, 0, none⟩) n n] 124)) R [] r [] [] ⟨n, kid, .slice pf n cf, g⟩ [] junk0 gL gc NB) := hI0
      have HRN : Hid (rn = r.length) := hrn
      have HNB : Hid (NB = wr.heap.size) := hNB
      clear hI0 hrn
      go_wp2_with fail
      rw [← hNB]
      clear hNB l0 l1 hr4
      go_loopw [8, 37] (fun lv i wi => ∃ (k m gL' c' : Nat) (Ri : List Nat) (en : List (Job X)) (l : List XR) (junk : List Value), i = .int .i64 k ∧ k ≤ n ∧ l.length = k ∧ (r ++ (en ++ [])).length = m ∧ lv = .slice (some ⟨gL', 0, none⟩) m c' ∧ InnX fT X.count 124 124 (SrcXX w Kp) Kp New P wi R Ri r en [] ⟨n, kid, .slice pf n cf, g⟩ l junk gL' c' NB) (fun _ i _ => n - (intOf i).toNat)
      case atStart => exact ⟨0, rn, gL, gc, [], [], [], junk0, rfl, Nat.zero_le _, rfl, by simp [HRN.out], rfl, HI0.out⟩
      case round =>
        obtain ⟨k, m, gL', c', Ri, en, l, junk, rfl, hkn, hlk, hm, rfl, hI⟩ := hrel
        have HI : Hid (InnX fT X.count 124 124 (SrcXX w Kp) Kp New P wr R Ri r en [] ⟨n, kid, .slice pf n cf, g⟩ l junk gL' c' NB) := hI
        have HLK : Hid (l.length = k) := hlk
        have HMM : Hid ((r ++ (en ++ [])).length = m) := hm
        have hm1 : m ≤ 1048577 := by
          have h1 := totalJ_len X.count count_posX (r ++ (en ++ [])) (fun e he => (hI.src e he).2)
          have h2 := HTT.out
          have h3 := hI.tot
          have h4 := sumJ_le (fun i => X.count (kid i)) k n hkn
          rw [totalJ_append, totalJ_one] at h2
          simp only [List.append_nil] at h1 hm
          rw [totalJ_append] at h1
          unfold Job.total at h2
          simp only at h2 h3
          rw [hlk] at h3
          omega
        clear hI hm HI0
        by_cases hlt : (k : Int) < n
        · have hlt' : k < n := by omega
          obtain ⟨b, o, sx, ux, hpf, hd, hxa, hxs⟩ := HAT.out wr HI.out.keep k hlt'
          subst hpf
          obtain ⟨pu, cu, hux⟩ := hxa.xs.shape
          obtain ⟨pv, cv, hsx⟩ := hxa.sets.shape
          subst hux hsx
          obtain ⟨c0, c1, c2, c3, c4, c5⟩ := hd
          have HXA : Hid ((kid k).At 0 w (.slice pv (kid k).set.length cv) (.slice pu (kid k).len cu) ∧ (kid k).Small) := ⟨hxa, hxs⟩
          have hkc : (kid k).len ≤ 1048577 := by
            have h1 := HTT.out
            rw [totalJ_append, totalJ_one] at h1
            unfold Job.total at h1
            have h2 := sumJ_at (fun i => X.count (kid i)) k n hlt'
            have h3 := X.count_eq (kid k)
            have h4 := sumX_len (fun i => ((kid k).kid i).count) (fun i => count_posX _) (kid k).len
            simp only at h1 h2
            omega
          clear hxa hxs
          go_wp2_with fail
          refine (stx_kids (kid k).op (kid k).at_ (kid k).n (kid k).s (.slice pv (kid k).set.length cv) (.slice pu (kid k).len cu) _).mono ?_
          rintro e w2 ⟨rfl, hb2⟩
          have hnb := newx wr (.cells #[.int .i64 (kid k).op, .int .i64 (kid k).at_, .int .i64 (kid k).n, .string (kid k).s, .slice pv (kid k).set.length cv, .slice pu (kid k).len cu] 32)
          have hO : Six w2 wr.heap.size (kid k).op (kid k).at_ (kid k).n (kid k).s (.slice pv (kid k).set.length cv) (.slice pu (kid k).len cu) 32 := (hb2.block _ (by simp)).trans (heap_alloc_new wr _)
          have HI2 : Hid (InnX fT X.count 124 124 (SrcXX w Kp) Kp New P w2 R Ri r en [] ⟨n, kid, .slice (some ⟨b, o, none⟩) n cf, g⟩ l junk gL' c' NB) := (HI.out.below HE.out hnb).below HE.out hb2
          have HB2 : Hid (Below w.heap.size w w2) := (HKP.out w2 HI2.out.keep).1
          have nb1 : w2.cell? ⟨NB, 1, none⟩ = some (.slice (some ⟨g, 0, none⟩) n n) := cell_of_row w2 NB 1 _ _ _ HI2.out.nb
          obtain ⟨o0, o1, o2, o3, o4, o5⟩ := hO.cells
          have HO6 : Hid (Six w2 wr.heap.size (kid k).op (kid k).at_ (kid k).n (kid k).s (.slice pv (kid k).set.length cv) (.slice pu (kid k).len cu) 32) := hO
          have HGW : Hid (gL' < wr.heap.size) := HI.out.lt.1
          have hki0 : (0 : Int) ≤ (k : Int) := by omega
          clear hb2 hnb hO c0 c1 c2 c3 c4 c5 HI
          by_cases hz : (0 : Int) < (kid k).len
          · obtain ⟨w3, hrun3, hown3, hg3⟩ := run_make_full (P := Tryz.prog) w2 0 30 32 iS _ 6 Tryz.underlying30 hiS hzS0 hzS1 .i64 .i64 (kid k).len (by rw [hzS2]; omega) (by unfold maxLen; omega) (Nat.zero_le _)
            have HO3 : Hid (w3.ownsRow 0 124 2 (.slice (some ⟨gL', 0, none⟩) m c') m (jrows (r ++ (en ++ [])))) := by
              have h1 := own_sameG HI2.out.own (hg3.block gL' HI2.out.lt.1 (by simp))
              rw [HMM.out] at h1
              exact h1
            have HMK : Hid (w2.grownBy w3 none ∧ w3.ownsRow 0 32 6 (.slice (some ⟨w2.heap.size, 0, none⟩) (kid k).len (kid k).len) (kid k).len (madeCells (Value.agg #[.int .i64 0, .int .i64 0, .int .i64 0, .string ⟨#[]⟩, .slice none 0 0, .slice none 0 0]).cells ((kid k).len * 6)).toList) := ⟨hg3, hown3⟩
            clear hown3 hg3
            go_wp2_with (at_builtin; refine wpList_append_lies _ rfl (.tmp 51) (.tmp 55) 125 rfl 0 124 iL _ 2 48 Tryz.underlying125 hiL hzL0 hzL1 hzL2 rfl (by decide) (.slice (some ⟨gL', 0, none⟩) m c') m (jrows (r ++ (en ++ []))) rfl (HO3.out.alloc _) ⟨w3.heap.size, 0, none⟩ 1 1 [.slice pu (kid k).len cu, .slice (some ⟨w2.heap.size, 0, none⟩) (kid k).len (kid k).len] rfl rfl (World.news_of_block (cs := #[.slice pu (kid k).len cu, .slice (some ⟨w2.heap.size, 0, none⟩) (kid k).len (kid k).len]) (t := 124) (fr := (0, 0)) (heap_alloc_new w3 _)) (by simp [Value.oneCell']) (by omega) (by unfold maxLen; omega) (by omega) (Nat.zero_le _) (w3.heap.size + 1) (by simp) ?_; intro gg cap4 w4 hown4 hgrow hat4 hlt4)
            have hgr : (w3.alloc (.cells #[.slice pu (kid k).len cu, .slice (some ⟨w2.heap.size, 0, none⟩) (kid k).len (kid k).len] 124)).grownBy w4 (some gL') := hgrow
            have HI4 : Hid (InnX fT X.count 124 124 (SrcXX w Kp) Kp New P w4 R Ri r en [⟨(kid k).len, (kid k).kid, .slice pu (kid k).len cu, w2.heap.size⟩] ⟨n, kid, .slice (some ⟨b, o, none⟩) n cf, g⟩ l junk gg cap4 NB) :=
              InnX.push HE.out HI2.out HMK.out.1 HMK.out.2 (by simp [size_madeCells]) hgr (hat4.elim (fun h => .inl (by simpa [Value.ownBlock] using h)) (fun h => .inr h)) (by rw [HMM.out]; exact hown4) (src_kid (fun W hW => (HKP.out W hW).1) HXA.out.1 HXA.out.2 rfl) (by omega)
            have hO4 : Six w4 wr.heap.size (kid k).op (kid k).at_ (kid k).n (kid k).s (.slice pv (kid k).set.length cv) (.slice pu (kid k).len cu) 32 := by
              have h1 := HO6.out.lt
              have h2 := HMK.out.1.size
              have h3 := HGW.out
              exact (hgr.block _ (by simp; omega) (by intro e; injection e with e; omega)).trans ((Below.heap_alloc w3 _ _ (by omega)).trans ((HMK.out.1.block _ h1 (by simp)).trans HO6.out))
            have HB4 : Hid (Below w.heap.size w w4) := (HKP.out w4 HI4.out.keep).1
            clear hrun3 hown4 hgrow hat4 hlt4 hgr o0 o1 o2 o3 o4 o5 nb1
            have nb1 : w4.cell? ⟨NB, 1, none⟩ = some (.slice (some ⟨g, 0, none⟩) n n) := cell_of_row w4 NB 1 _ _ _ HI4.out.nb
            obtain ⟨o0, o1, o2, o3, o4, o5⟩ := hO4.cells
            clear hO4
            go_region_with ((go_at_call 87; refine (HM.out (kid k) _ pu cu (some ⟨w2.heap.size, 0, none⟩) (kid k).len (kid k).len _ ?_ HXA.out.1 HXA.out.2).mono ?_; exact HB4.out.drew; rintro e w5 ⟨sv, rfl, hb5, ho5⟩; have hb5' : Below w4.heap.size w4 w5 := ⟨hb5.os, hb5.tape, hb5.output, hb5.size, hb5.block⟩; obtain ⟨px, cx, hvx⟩ := (ho5.setB (Nat.zero_le _)).shape; subst hvx; have nb5 := keepsX hb5' _ _ nb1; obtain ⟨hf5, ⟨u0, hu0⟩, ⟨u1, hu1⟩, ⟨u2, hu2⟩, ⟨u3, hu3⟩, ⟨u4, hu4⟩, ⟨u5, hu5⟩⟩ := (HI4.out.below HE.out hb5').room HLK.out hlt'; have HN : Hid (InnX fT X.count 124 124 (SrcXX w Kp) Kp New P (st6 w5 g (k * 6) (kid k) (.slice px (fS (kid k)).length cx) (.slice (some ⟨w2.heap.size, 0, none⟩) (kid k).len (kid k).len)) R (Ri ++ (Value.slice px (fS (kid k)).length cx).ownBlock.toList) r (en ++ [⟨(kid k).len, (kid k).kid, .slice pu (kid k).len cu, w2.heap.size⟩]) [] ⟨n, kid, .slice (some ⟨b, o, none⟩) n cf, g⟩ (l ++ [(fT (kid k), .slice px (fS (kid k)).length cx, .slice (some ⟨w2.heap.size, 0, none⟩) (kid k).len (kid k).len)]) (junk.drop 6) gg cap4 NB) := innXX_node HE.out HF.out HI4.out hb5' HLK.out hlt' HXA.out.1 HXA.out.2 ho5; clear hb5 ho5 hb5'))
            all_goals
              go_wp2_with fail
              go_roundw
              case rel => exact ⟨k + 1, m + 1, gg, cap4, _, _, _, _, by go_num, by omega, by rw [List.length_append, HLK.out]; rfl, by have := HMM.out; simp at this ⊢; omega, rfl, HN.out⟩
              case measure => simp [intOf]; omega
          · have HZ : Hid ((kid k).len = 0) := by
              show _ = _
              omega
            go_wp2_with fail
            go_region_with ((go_at_call 87; refine (HM.out (kid k) _ pu cu none 0 0 _ ?_ HXA.out.1 HXA.out.2).mono ?_; exact HB2.out.drew; rintro e w5 ⟨sv, rfl, hb5, ho5⟩; have hb5' : Below w2.heap.size w2 w5 := ⟨hb5.os, hb5.tape, hb5.output, hb5.size, hb5.block⟩; obtain ⟨px, cx, hvx⟩ := (ho5.setB (Nat.zero_le _)).shape; subst hvx; have nb5 := keepsX hb5' _ _ nb1; obtain ⟨hf5, ⟨u0, hu0⟩, ⟨u1, hu1⟩, ⟨u2, hu2⟩, ⟨u3, hu3⟩, ⟨u4, hu4⟩, ⟨u5, hu5⟩⟩ := (HI2.out.below HE.out hb5').room HLK.out hlt'; have HN : Hid (InnX fT X.count 124 124 (SrcXX w Kp) Kp New P (st6 w5 g (k * 6) (kid k) (.slice px (fS (kid k)).length cx) (.slice none 0 0)) R (Ri ++ (Value.slice px (fS (kid k)).length cx).ownBlock.toList) r en [] ⟨n, kid, .slice (some ⟨b, o, none⟩) n cf, g⟩ (l ++ [(fT (kid k), .slice px (fS (kid k)).length cx, .slice none 0 0)]) (junk.drop 6) gL' c' NB) := innXX_leaf HE.out HF.out HI2.out hb5' HLK.out hlt' HXA.out.1 HXA.out.2 ho5 HZ.out; clear hb5 ho5 hb5'))
            all_goals
              go_wp2_with fail
              go_roundw
              case rel => exact ⟨k + 1, m, gL', c', _, _, _, _, by go_num, by omega, by rw [List.length_append, HLK.out]; rfl, HMM.out, rfl, HN.out⟩
              case measure => simp [intOf]; omega
        · have hke : k = n := by omega
          have HD := HI.out.done (by rw [HLK.out]; exact hke)
          have HDD : Hid (RemX fT 124 (SrcXX w Kp) Kp New P wr (R ++ g :: Ri) (r ++ en) gL' c' ∧ totalJ X.count (r ++ en) + n = gk ∧ (r ++ en).length = m) := ⟨HD.1, HD.2.trans HTT.out, by have := HMM.out; simpa using this⟩
          clear HD HI
          go_wp2_with fail
          go_roundg (totalJ X.count (r ++ en))
          case measure => have := HDD.out.2.1; omega
          case rel => exact ⟨r ++ en, gL', c', _, rfl, by have := HDD.out.2.1; omega, by rw [HDD.out.2.2], HDD.out.1⟩
end Go.Proofs.YtlclfmjpnchmbaaGreat

/- impl.setTurned, and the closure of impl.turnAll: one node, its set copied. Condition: a set of at most 2^22. -/
namespace Go.Proofs.YtlclfmjpnchmbaaGreat
open Go.ChangeShapes Go.WideShapes Go.ChangeAt Go.RowKit

set_option maxRecDepth 100000 in
theorem copied_one (xs : List Int) (v : Value) (w : World) (hv : Rd w v xs) (hl : xs.length ≤ 4194304) :
    Calls Tryz.prog 74 #[v] w fun e w' => ∃ u, e = .returned u ∧ Below w.heap.size w w' ∧ Own w' w.heap.size u xs := by
  go_enter Tryz.func74, Tryz.ntmps74
  go_wp2_with fail
  refine (impl_copied xs v w hv hl).mono ?_
  rintro e w1 ⟨u, rfl, hb, ho⟩
  have H : Hid (Below w.heap.size w w1 ∧ Own w1 w.heap.size u xs) := ⟨hb, ho⟩
  clear hb ho
  go_wp2_with fail
  go_ret
  exact ⟨_, rfl, H.out.1, H.out.2⟩

set_option maxRecDepth 100000 in
set_option maxHeartbeats 2000000 in
theorem turned_copied (op a n : Int) (s : ByteArray) (set : List Int) (sp : Option Addr) (sc : Nat) (vp : Option Addr) (vn vc : Nat) (w : World) (hs : Rd w (.slice sp set.length sc) set) (hl : set.length ≤ 4194304) :
    Calls Tryz.prog 88 #[.agg #[.int .i64 op, .int .i64 a, .int .i64 n, .string s, .slice sp set.length sc, .slice vp vn vc], .func (.func 74) #[] #[]] w fun e w' => ∃ u, e = .returned u ∧ Below w.heap.size w w' ∧ Own w' w.heap.size u (if op = 2 then set else set) := by
  have HRD : Hid (Rd w (.slice sp set.length sc) set) := hs
  have HL : Hid (set.length ≤ 4194304) := hl
  obtain ⟨Y, hY⟩ : ∃ Y, Y = (if op = 2 then set else set) := ⟨_, rfl⟩
  have HY : Hid (Y = (if op = 2 then set else set)) := hY
  rw [← hY]
  clear hs hl hY
  go_enter Tryz.func88, Tryz.ntmps88
  go_wp2_with fail
  refine (part_of op a n s (.slice sp set.length sc) (.slice vp vn vc) _).mono ?_
  rintro e w1 ⟨T, rfl, hb1, hT⟩
  have hx1 : Six w1 w.heap.size op a n s (.slice sp set.length sc) (.slice vp vn vc) 32 := (hb1.block _ (by simp)).trans (heap_alloc_new w _)
  obtain ⟨x0, x1, x2, x3, x4, x5⟩ := hx1.cells
  have HB1 : Hid (Below w.heap.size w w1) := (newx w _).trans (hb1.mono (by simp))
  clear hb1 hx1
  rcases hT with ⟨h, rfl⟩ | ⟨h, rfl⟩ | ⟨h, rfl⟩ | ⟨⟨h1, h2, h3⟩, rfl⟩
  · have HR : Hid (Y = set) := HY.out.trans (if_neg (by omega))
    have hta := no_symPart (ty := 84) (by decide) (.agg #[.int .i64 op, .int .i64 a, .int .i64 n, .string s, .slice sp set.length sc, .slice vp vn vc]) w1
    clear h
    go_wp2_with fail
    refine (impl_copied set _ w1 (HRD.out.below HB1.out) HL.out).mono ?_
    rintro e w2 ⟨u, rfl, hb2, ho⟩
    have H : Hid (Below w.heap.size w w2 ∧ Own w2 w.heap.size u set) := ⟨HB1.out.trans (hb2.mono HB1.out.size), ho.mono HB1.out.size⟩
    clear hb2 ho
    go_wp2_with fail
    go_ret
    exact ⟨_, rfl, H.out.1, by rw [HR.out]; exact H.out.2⟩
  · have HR : Hid (Y = set) := HY.out.trans (if_pos h)
    have hta := is_symPart (.agg #[.int .i64 op, .int .i64 a, .int .i64 n, .string s, .slice sp set.length sc, .slice vp vn vc]) w1
    clear h
    go_wp2_with fail
    have hnb := newx w1 (.cells #[.int .i64 op, .int .i64 a, .int .i64 n, .string s, .slice sp set.length sc, .slice vp vn vc] 86)
    have hbb : Below w.heap.size w (w1.alloc (.cells #[.int .i64 op, .int .i64 a, .int .i64 n, .string s, .slice sp set.length sc, .slice vp vn vc] 86)) := HB1.out.trans (hnb.mono HB1.out.size)
    refine (copied_one set _ _ (HRD.out.below hbb) HL.out).mono ?_
    rintro e w2 ⟨u, rfl, hb2, ho⟩
    have H : Hid (Below w.heap.size w w2 ∧ Own w2 w.heap.size u (set)) := ⟨hbb.trans (hb2.mono hbb.size), ho.mono hbb.size⟩
    clear hb2 ho hbb hnb
    go_wp2_with fail
    go_ret
    exact ⟨_, rfl, H.out.1, by rw [HR.out]; exact H.out.2⟩
  · have HR : Hid (Y = set) := HY.out.trans (if_neg (by omega))
    have hta := no_symPart (ty := 88) (by decide) (.agg #[.int .i64 op, .int .i64 a, .int .i64 n, .string s, .slice sp set.length sc, .slice vp vn vc]) w1
    clear h
    go_wp2_with fail
    refine (impl_copied set _ w1 (HRD.out.below HB1.out) HL.out).mono ?_
    rintro e w2 ⟨u, rfl, hb2, ho⟩
    have H : Hid (Below w.heap.size w w2 ∧ Own w2 w.heap.size u set) := ⟨HB1.out.trans (hb2.mono HB1.out.size), ho.mono HB1.out.size⟩
    clear hb2 ho
    go_wp2_with fail
    go_ret
    exact ⟨_, rfl, H.out.1, by rw [HR.out]; exact H.out.2⟩
  · have HR : Hid (Y = set) := HY.out.trans (if_neg h2)
    have hta := no_symPart (ty := 100) (by decide) (.agg #[.int .i64 op, .int .i64 a, .int .i64 n, .string s, .slice sp set.length sc, .slice vp vn vc]) w1
    clear h1 h2 h3
    go_wp2_with fail
    refine (impl_copied set _ w1 (HRD.out.below HB1.out) HL.out).mono ?_
    rintro e w2 ⟨u, rfl, hb2, ho⟩
    have H : Hid (Below w.heap.size w w2 ∧ Own w2 w.heap.size u set) := ⟨HB1.out.trans (hb2.mono HB1.out.size), ho.mono HB1.out.size⟩
    clear hb2 ho
    go_wp2_with fail
    go_ret
    exact ⟨_, rfl, H.out.1, by rw [HR.out]; exact H.out.2⟩

set_option maxRecDepth 100000 in
set_option maxHeartbeats 2000000 in
theorem made_copied (PS : Nat) (op a n : Int) (s : ByteArray) (set : List Int) (sp : Option Addr) (sc : Nat) (vp : Option Addr) (vn vc : Nat) (kp : Option Addr) (kn kc : Nat) (w : World) (hS : w.cell? ⟨PS, 0, none⟩ = some (.func (.func 74) #[] #[])) (hs : Rd w (.slice sp set.length sc) set) (hl : set.length ≤ 4194304) :
    Calls Tryz.prog 87 #[.agg #[.int .i64 op, .int .i64 a, .int .i64 n, .string s, .slice sp set.length sc, .slice vp vn vc], .slice kp kn kc, .pointer (some ⟨PS, 0, none⟩)] w fun e w' => ∃ sv, e = .returned (.agg #[.int .i64 op, .int .i64 a, .int .i64 n, .string s, sv, .slice kp kn kc]) ∧ Below w.heap.size w w' ∧ Own w' w.heap.size sv (if op = 2 then set else set) := by
  have HRD : Hid (Rd w (.slice sp set.length sc) set) := hs
  have HL : Hid (set.length ≤ 4194304) := hl
  have hbb : ∀ o1 o2, Below w.heap.size w ((w.alloc o1).alloc o2) := fun o1 o2 => (newx w _).trans ((newx _ _).mono (by simp))
  have hS2 : ∀ o1 o2, ((w.alloc o1).alloc o2).cell? ⟨PS, 0, none⟩ = some (.func (.func 74) #[] #[]) := fun o1 o2 => keepsX (hbb o1 o2) _ _ hS
  have HBB : Hid (∀ o1 o2, Below w.heap.size w ((w.alloc o1).alloc o2)) := hbb
  obtain ⟨Y, hY⟩ : ∃ Y, Y = (if op = 2 then set else set) := ⟨_, rfl⟩
  have HY : Hid (Y = (if op = 2 then set else set)) := hY
  rw [← hY]
  clear hs hl hbb hY
  go_enter Tryz.func87, Tryz.ntmps87
  go_wp2_with fail
  refine (turned_copied op a n s set sp sc vp vn vc _ (HRD.out.below (HBB.out _ _)) HL.out).mono ?_
  rintro e w1 ⟨u, rfl, hb1, ho⟩
  rw [← HY.out] at ho
  obtain ⟨pv, cv, hv⟩ := (ho.setB (Nat.zero_le _)).shape
  subst hv
  obtain ⟨h1, h2, h4, h5⟩ := twoX hb1
  have hA : Six w1 w.heap.size op a n s (.slice sp set.length sc) (.slice vp vn vc) 32 := h1
  have hR : Six w1 (w.heap.size + 1) 0 0 0 ⟨#[]⟩ (.slice none 0 0) (.slice none 0 0) 32 := h2
  have HOW : Hid (Own w1 (w.heap.size + 2) (.slice pv Y.length cv) Y) := ho.mono (by simp)
  have HB1 : Hid (Below w.heap.size w w1 ∧ w.heap.size + 2 ≤ w1.heap.size) := ⟨h5, h4⟩
  clear hb1 ho h1 h2 h4 h5
  obtain ⟨x0, x1, x2, x3, x4, x5⟩ := hA.cells
  have xf := hA.fr
  obtain ⟨r0, r1, r2, r3, r4, r5⟩ := hR.cells
  have rf := hR.fr
  clear hA hR hS hS2
  generalize Y.length = yl at *
  go_wp2_with fail
  refine bodyPost_ret (v := .agg #[.int .i64 op, .int .i64 a, .int .i64 n, .string s, .slice pv yl cv, .slice kp kn kc]) (by rw [results_cellX (p := 5) (ty := 32) (by kernel_rfl)]; simp [go_sem, r0, r1, r2, r3, r4, r5]) rfl ⟨_, rfl, ?_, ?_⟩
  · exact put6_below ((HB1.out.1.setCell (Nat.le_refl w.heap.size) _).setCell (Nat.le_refl w.heap.size) _) (w.heap.size + 1) (by omega) _ _ _ _ _ _
  · refine Own.mono (base := w.heap.size + 2) (HOW.out.sameX (fun g hg => ?_)) (by omega)
    have := (World.ownsRow.lt HOW.out g hg).1
    exact (put6_other ((w1.setCell ⟨w.heap.size, 4, none⟩ (.slice pv yl cv)).setCell ⟨w.heap.size, 5, none⟩ (.slice kp kn kc)) (w.heap.size + 1) op a n s (.slice pv yl cv) (.slice kp kn kc) g (by omega)).trans ((Below.heap_setCell _ _ _ _ (by simp only; omega)).trans (Below.heap_setCell _ _ _ _ (by simp only; omega)))
end Go.Proofs.YtlclfmjpnchmbaaGreat
