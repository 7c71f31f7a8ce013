/- laws.eqFun and laws.eqFunS: of what is laid twice the answer is true. No conditions. -/
import Derived.Test.YthnhdmanmmdoiaaDoorRows
import Derived.Test.YthnhdmanmmdoiaaDoorZG8Fun
import Derived.Test.YthnhdmanmmdoiaaDoorZG0Dat
import Derived.WalkKit
import Derived.ProofKit
import Derived.Deep.RegionWith
import Derived.OpenShut
namespace Go.Proofs.YthnhdmanmmdoiaaDoor
open Go.ChangeShapes Go.WideShapes Go.ChangeAt Go.RowKit

set_option maxRecDepth 100000 in
set_option maxHeartbeats 2000000 in
theorem eq_op (t : O3) (w : World) : Calls Tryd.prog 54 #[.agg #[.int .i64 t.c, .int .i64 t.n, .int .i64 t.m], .agg #[.int .i64 t.c, .int .i64 t.n, .int .i64 t.m]] w fun e w' => e = .returned (.bool true) ∧ Below w.heap.size w w' := by
  have HB : Hid (∀ o1 o2, Below w.heap.size w ((w.alloc o1).alloc o2)) := fun o1 o2 => (newb w _).trans ((newb _ _).mono (by simp))
  go_enter Tryd.func54, Tryd.ntmps54
  go_wp2_with fail
  go_ret
  exact ⟨rfl, HB.out _ _⟩

set_option maxRecDepth 100000 in
set_option maxHeartbeats 2000000 in
theorem eq_ops (len : Nat) (op : Nat → O3) (w : World) (u v : Value) (hu : Ol w len op u) (hv : Ol w len op v) :
    Calls Tryd.prog 39 #[u, v] w fun e w' => e = .returned (.bool true) ∧ Below w.heap.size w w' := by
  obtain ⟨p, cap, rfl, hlen, hat⟩ := hu.at
  obtain ⟨q, cap2, rfl, -, hat2⟩ := hv.at
  have HC : Hid (∀ i, i < len → ∃ b o, p = some ⟨b, o, none⟩ ∧ HeadO w b (o + i * 3) (op i) ∧ (op i).Ok) := hat
  have HD : Hid (∀ i, i < len → ∃ b o, q = some ⟨b, o, none⟩ ∧ HeadO w b (o + i * 3) (op i) ∧ (op i).Ok) := hat2
  clear hat hat2 hu hv
  unfold maxLen at hlen
  go_enter Tryd.func39, Tryd.ntmps39
  go_wp2_with fail
  go_loopw [5] (fun i wr => ∃ k : Nat, i = .int .i64 k ∧ k ≤ len ∧ Below w.heap.size w wr) (fun i _ => len - (intOf i).toNat)
  case atStart => exact ⟨0, rfl, Nat.zero_le _, Below.refl _ _⟩
  case round =>
    obtain ⟨k, rfl, hk, hbel⟩ := hrel
    have HBL : Hid (Below w.heap.size w wr) := hbel
    clear hbel
    by_cases hlt : (k : Int) < len
    · have hlt' : k < len := by omega
      obtain ⟨b, o, hp, hd, -⟩ := HC.out k hlt'
      obtain ⟨b2, o2, hq, hd2, -⟩ := HD.out k hlt'
      subst hp hq
      obtain ⟨c0, c1, c2⟩ := hd.below HBL.out
      obtain ⟨d0, d1, d2⟩ := hd2.below HBL.out
      clear hd hd2
      have HCL : Hid (∀ w1 : World, Calls Tryd.prog 54 #[.agg #[.int .i64 (op k).c, .int .i64 (op k).n, .int .i64 (op k).m], .agg #[.int .i64 (op k).c, .int .i64 (op k).n, .int .i64 (op k).m]] w1 fun e w' => e = .returned (.bool true) ∧ Below w1.heap.size w1 w') :=
        fun w1 => eq_op (op k) w1
      go_wp2_with fail
      go_region_with ((go_at_call 54; refine (HCL.out _).mono ?_; rintro e w1 ⟨rfl, hb1⟩))
      all_goals
        have HB1 : Hid (Below w.heap.size w w1) := HBL.out.trans ⟨hb1.os, hb1.tape, hb1.output, hb1.size, fun j hj => hb1.block j (Nat.lt_of_lt_of_le hj HBL.out.size)⟩
        clear hb1
        go_wp2_with fail
        go_roundw
        case rel => first | exact ⟨k + 1, by go_num, by omega, HB1.out⟩ | ((repeat apply Exists.intro); exact ⟨⟨k + 1, by go_num, by omega, HB1.out⟩, rfl⟩)
        case measure => simp [intOf]; omega
    · go_wp2_with fail
      go_ret
      exact ⟨rfl, HBL.out⟩

def EqFAt (t : Fu) : Prop := ∀ (w : World) (u v : Value), t.In w u → t.In w v →
  Calls Tryd.prog 22 #[.agg #[.int .i64 t.fr, u], .agg #[.int .i64 t.fr, v]] w fun e w' => e = .returned (.bool true) ∧ Below w.heap.size w w'

set_option maxRecDepth 100000 in
set_option maxHeartbeats 2000000 in
theorem eq_fun (t : Fu) : EqFAt t := by
  intro w u v hu hv
  obtain ⟨p, cap, e1⟩ := hu.sl.shape
  obtain ⟨q, cap2, e2⟩ := hv.sl.shape
  have hb0 : ∀ o1 o2, Below w.heap.size w ((w.alloc o1).alloc o2) := fun o1 o2 => (newb w _).trans ((newb _ _).mono (by simp))
  have HS : Hid (∀ o1 o2, Calls Tryd.prog 39 #[u, v] ((w.alloc o1).alloc o2) fun e w' => e = .returned (.bool true) ∧ Below w.heap.size w w') :=
    fun o1 o2 => (eq_ops t.len t.op _ u v (hu.2.below (hb0 o1 o2)) (hv.2.below (hb0 o1 o2))).mono fun e w' h => ⟨h.1, (hb0 o1 o2).trans (h.2.mono (hb0 o1 o2).size)⟩
  clear hu hv hb0
  subst e1 e2
  go_enter Tryd.func22, Tryd.ntmps22
  go_wp2_with fail
  refine (HS.out _ _).mono ?_
  rintro e w1 ⟨rfl, hb1⟩
  have HB1 : Hid (Below w.heap.size w w1) := hb1
  clear hb1
  go_wp2_with fail
  go_ret
  exact ⟨rfl, HB1.out⟩

set_option maxRecDepth 100000 in
set_option maxHeartbeats 2000000 in
theorem eq_funsOf (len : Nat) (kid : Nat → Fu) (ih : ∀ i, i < len → EqFAt (kid i)) (w : World) (u v : Value) (hu : Fl w len kid u) (hv : Fl w len kid v) :
    Calls Tryd.prog 8 #[u, v] w fun e w' => e = .returned (.bool true) ∧ Below w.heap.size w w' := by
  obtain ⟨p, cap, rfl, hlen, hat⟩ := hu.at
  obtain ⟨q, cap2, rfl, -, hat2⟩ := hv.at
  have HC : Hid (∀ i, i < len → ∃ b o u, p = some ⟨b, o, none⟩ ∧ HeadF w b (o + i * 2) (kid i) u ∧ (kid i).In w u) := hat
  have HD : Hid (∀ i, i < len → ∃ b o u, q = some ⟨b, o, none⟩ ∧ HeadF w b (o + i * 2) (kid i) u ∧ (kid i).In w u) := hat2
  have IH : Hid (∀ i, i < len → EqFAt (kid i)) := ih
  clear hat hat2 ih hu hv
  unfold maxLen at hlen
  go_enter Tryd.func8, Tryd.ntmps8
  go_wp2_with fail
  go_loopw [5] (fun i wr => ∃ k : Nat, i = .int .i64 k ∧ k ≤ len ∧ Below w.heap.size w wr) (fun i _ => len - (intOf i).toNat)
  case atStart => exact ⟨0, rfl, Nat.zero_le _, Below.refl _ _⟩
  case round =>
    obtain ⟨k, rfl, hk, hbel⟩ := hrel
    have HBL : Hid (Below w.heap.size w wr) := hbel
    clear hbel
    by_cases hlt : (k : Int) < len
    · have hlt' : k < len := by omega
      obtain ⟨b, o, x, hp, hd, hin⟩ := HC.out k hlt'
      obtain ⟨b2, o2, y, hq, hd2, hin2⟩ := HD.out k hlt'
      subst hp hq
      obtain ⟨c0, c1⟩ := hd.below HBL.out
      obtain ⟨d0, d1⟩ := hd2.below HBL.out
      have HI : Hid ((kid k).In wr x ∧ (kid k).In wr y) := ⟨hin.below HBL.out, hin2.below HBL.out⟩
      clear hd hin hd2 hin2
      have HCL : Hid (∀ w1 : World, Below wr.heap.size wr w1 → Calls Tryd.prog 22 #[.agg #[.int .i64 (kid k).fr, x], .agg #[.int .i64 (kid k).fr, y]] w1 fun e w' => e = .returned (.bool true) ∧ Below w1.heap.size w1 w') :=
        fun w1 h1 => IH.out k hlt' w1 x y (HI.out.1.below h1) (HI.out.2.below h1)
      go_wp2_with fail
      go_region_with ((go_at_call 22; refine (HCL.out _ ?_).mono ?_; exact (Below.refl _ _).drew; rintro e w1 ⟨rfl, hb1⟩))
      all_goals
        have HB1 : Hid (Below w.heap.size w w1) := HBL.out.trans ⟨hb1.os, hb1.tape, hb1.output, hb1.size, fun j hj => hb1.block j (Nat.lt_of_lt_of_le hj HBL.out.size)⟩
        clear hb1
        go_wp2_with fail
        go_roundw
        case rel => first | exact ⟨k + 1, by go_num, by omega, HB1.out⟩ | ((repeat apply Exists.intro); exact ⟨⟨k + 1, by go_num, by omega, HB1.out⟩, rfl⟩)
        case measure => simp [intOf]; omega
    · go_wp2_with fail
      go_ret
      exact ⟨rfl, HBL.out⟩

theorem eq_funs (len : Nat) (kid : Nat → Fu) (w : World) (u v : Value) (hu : Fl w len kid u) (hv : Fl w len kid v) :
    Calls Tryd.prog 8 #[u, v] w fun e w' => e = .returned (.bool true) ∧ Below w.heap.size w w' := eq_funsOf len kid (fun i _ => eq_fun (kid i)) w u v hu hv
end Go.Proofs.YthnhdmanmmdoiaaDoor

/- A datum that came in lies in memory as a tree. No conditions. -/
namespace Go.Proofs.YthnhdmanmmdoiaaDoor
open Go.ChangeShapes Go.WideShapes Go.ChangeAt Go.RowKit

/-- The types of a datum. -/
structure DatT (P : Program) (tD tI tS tK : TypeId) : Prop where
  ex : ∃ fs : Array Field, P.underlying tD = some (.struct fs) ∧ fs.size = 5 ∧ (∀ i, i < 3 → ∃ f, fs[i]? = some f ∧ f.type = tI ∧ f.offset = i) ∧
    (∃ f, fs[3]? = some f ∧ f.type = tS ∧ f.offset = 3) ∧ (∃ f, fs[4]? = some f ∧ f.type = tK ∧ f.offset = 4)
  i : P.underlying tI = some (.int .i64)
  s : P.underlying tS = some .string
  k : P.underlying tK = some (.slice tD)
  ci : P.cellsOf tI = 1
  cs : P.cellsOf tS = 1
  ck : P.cellsOf tK = 1
  cd : P.cellsOf tD = 5

section
variable {H : Type} {enc : TypeId × Value → H} {P : Program} {w : World} {base : Nat} {spare : Nat → Bool} {held : Bool} {tD tI tS tK : TypeId}

theorem i64_bounds {n : Int} (h : (Lit.int .i64 n).wf = true) : -9223372036854775808 ≤ n ∧ n ≤ 9223372036854775807 := by
  have := bounds_i64 h
  omega

theorem sl_of (T : DatT P tD tI tS tK) (m : Nat) (ih : ∀ cs x, DataW.trod enc P w base spare held m tD cs = some x → ∃ (t : D) (v : Value), cs = [.int .i64 t.op, .int .i64 t.at_, .int .i64 t.n, .string t.s, v] ∧ t.In w v)
    {c4 : Value} {y : DataW H × List MemPlace} (h : DataW.trod enc P w base spare held (m + 1) tK [c4] = some y) : ∃ len kid, Sl w len kid c4 := by
  rcases DataW.trod_slice T.k h with ⟨h0, _⟩ | ⟨a, len, cap, elems, rest, n, hn, h1, _, hb, hl, hm, hlen, hel, _, _⟩
  · simp at h0
    exact ⟨0, fun _ => .no, .inl ⟨rfl, _, _, h0⟩⟩
  · simp at h1
    obtain rfl : m = n := by omega
    subst h1
    by_cases hz : len = 0
    · subst hz; exact ⟨0, fun _ => .no, .inl ⟨rfl, _, _, rfl⟩⟩
    rw [T.cd] at hel
    have each : ∀ i, i < len → ∃ q : D × Value, (∀ j, j < 5 → w.cell? ((a.add (i * 5)).add j) = [Value.int .i64 q.1.op, .int .i64 q.1.at_, .int .i64 q.1.n, .string q.1.s, q.2][j]?) ∧ q.1.In w q.2 := by
      intro i hi
      have h2 := hel i hi
      rw [List.getElem?_eq_getElem (by omega)] at h2
      obtain ⟨cs', hc, ht⟩ := Option.bind_eq_some_iff.1 h2
      obtain ⟨t, v, rfl, hin⟩ := ih _ _ ht
      obtain ⟨_, _, hcell⟩ := World.cells?_some hc
      exact ⟨(t, v), hcell, hin⟩
    obtain ⟨F, hF⟩ := Go.Deep.choose_lt each
    obtain ⟨b, off, spot⟩ := a
    have hsp : spot = none := by
      have := (hF 0 (by omega)).1 0 (by omega)
      have := World.cell?_spot (this.trans rfl)
      simpa [Addr.add] using this
    subst hsp
    refine ⟨len, fun i => (F i).1, .inr ⟨b, off, cap, fun i => (F i).2, rfl, Nat.zero_le _, hl, hm, fun i hi => ⟨?_, (hF i hi).2⟩⟩⟩
    have h0 := (hF i hi).1 0 (by omega)
    have h1 := (hF i hi).1 1 (by omega)
    have h2 := (hF i hi).1 2 (by omega)
    have h3 := (hF i hi).1 3 (by omega)
    have h4 := (hF i hi).1 4 (by omega)
    simp only [add_plain, Nat.add_zero] at h0 h1 h2 h3 h4
    exact ⟨h0, h1, h2, h3, h4⟩

theorem open_dat (T : DatT P tD tI tS tK) : ∀ (fuel : Nat) (cs : List Value) (x : DataW H × List MemPlace), DataW.trod enc P w base spare held fuel tD cs = some x →
    ∃ (t : D) (v : Value), cs = [.int .i64 t.op, .int .i64 t.at_, .int .i64 t.n, .string t.s, v] ∧ t.In w v := by
  intro fuel
  induction fuel using Nat.strongRecOn with
  | ind fuel ih =>
    intro cs x h
    obtain ⟨fs, hu, hfs, hi, ⟨f3, h3, ht3, ho3⟩, ⟨f4, h4, ht4, ho4⟩⟩ := T.ex
    obtain ⟨xs, n, rfl, _, hlen, hxl, hf⟩ := DataW.trod_struct hu h
    rw [T.cd] at hlen
    obtain ⟨f0, h0, ht0, ho0⟩ := hi 0 (by omega)
    obtain ⟨f1, h1, ht1, ho1⟩ := hi 1 (by omega)
    obtain ⟨f2, h2, ht2, ho2⟩ := hi 2 (by omega)
    have g0 := hf 0 f0 h0
    have g1 := hf 1 f1 h1
    have g2 := hf 2 f2 h2
    have g3 := hf 3 f3 h3
    have g4 := hf 4 f4 h4
    rw [hfs] at hxl
    rw [ht0, ho0, T.ci, List.getElem?_eq_getElem (by omega)] at g0
    rw [ht1, ho1, T.ci, List.getElem?_eq_getElem (by omega)] at g1
    rw [ht2, ho2, T.ci, List.getElem?_eq_getElem (by omega)] at g2
    rw [ht3, ho3, T.cs, List.getElem?_eq_getElem (by omega)] at g3
    rw [ht4, ho4, T.ck, List.getElem?_eq_getElem (by omega)] at g4
    match cs, hlen with
    | [c0, c1, c2, c3, c4], _ =>
      simp only [List.drop_zero, List.drop_succ_cons, List.take_succ_cons, List.take_zero] at g0 g1 g2 g3 g4
      obtain ⟨z0, e0, -, -⟩ := DataW.trod_int T.i g0
      obtain ⟨z1, e1, -, -⟩ := DataW.trod_int T.i g1
      obtain ⟨z2, e2, -, w2⟩ := DataW.trod_int T.i g2
      obtain ⟨s, e3, -, ws⟩ := DataW.trod_string T.s g3
      simp only [List.cons.injEq, and_true] at e0 e1 e2 e3
      subst e0 e1 e2 e3
      cases n with
      | zero => simp [DataW.trod] at g4
      | succ m =>
        obtain ⟨len, kid, hs⟩ := sl_of T m (ih m (by omega)) g4
        exact ⟨.mk z0 z1 z2 s len kid, c4, rfl, D.InB.mk' ws (i64_bounds w2) hs⟩

theorem open_dats (T : DatT P tD tI tS tK) {fuel : Nat} {v : Value} {x : DataW H × List MemPlace} (h : DataW.trod enc P w base spare held fuel tK [v] = some x) : ∃ len kid, Sl w len kid v := by
  cases fuel with
  | zero => simp [DataW.trod] at h
  | succ m => exact sl_of T m (fun cs x => open_dat T m cs x) h
end
end Go.Proofs.YthnhdmanmmdoiaaDoor
