/- At every op impl.OpText answers as spec.OpText: laws.FnExactOpText returns true, and the argument reads as before. Condition (the card ties it to the program's text): the listed tables read as their text lays them. -/
import Derived.Test.YtcmgbplnhapgbaaDoorRows
import Derived.Test.YtcmgbplnhapgbaaDoorTie
import Derived.Test.YtcmgbplnhapgbaaDoorCards
import Derived.Test.YtcmgbplnhapgbaaDoorLaid
import Derived.Test.YtcmgbplnhapgbaaDoorToOp
import Derived.Test.YtcmgbplnhapgbaaDoorDatOpen
import Derived.Test.YtcmgbplnhapgbaaDoorImplOpText
import Derived.WalkKit
import Derived.ProofKit
import Derived.LaidMore
import Derived.Lay
import Derived.OpenShut
import Derived.OpenVars
import Derived.ChangeVars
import Derived.WideKeyArgs
import Derived.Stop.Joined
import Derived.SevenTiedAt
import Derived.Deep.Cut
namespace Go.Proofs.YtcmgbplnhapgbaaDoor.fnExactOpText
open Go.ChangeShapes Go.WideShapes Go.ChangeAt Go.RowKit

/-- The tables lie as their text has them. -/
def Tabs (w : World) : Prop := PowTab w ∧ NameTab w
theorem Tabs.below {w w' : World} (h : Tabs w) (hb : Below w.heap.size w w') : Tabs w' := ⟨h.1.below hb, h.2.below hb⟩

set_option maxRecDepth 100000 in
set_option maxHeartbeats 4000000 in
theorem walk (c n m : Int) (w : World) (hn : -9223372036854775808 ≤ n ∧ n ≤ 9223372036854775807) (hm : -9223372036854775808 ≤ m ∧ m ≤ 9223372036854775807) (ht : Tabs w) :
    Calls Tryd.prog 4 #[.agg #[.int .i64 c, .int .i64 n, .int .i64 m]] w fun e w' => e = .returned (.bool true) ∧ Below w.heap.size w w' := by
  obtain ⟨W, hW⟩ : ∃ W, W = w.alloc (.cells #[.int .i64 c, .int .i64 n, .int .i64 m] 30) := ⟨_, rfl⟩
  obtain ⟨K, hK⟩ : ∃ K, K = w.heap.size := ⟨_, rfl⟩
  have bW : Below w.heap.size w W := by rw [hW]; exact newb w _
  have hk : W.heap[K]? = some (.cells #[.int .i64 c, .int .i64 n, .int .i64 m] 30 (0, 0)) := by rw [hW, hK]; exact heap_alloc_new w _
  have HC : Hid (∀ wq, Below W.heap.size W wq → wq.cell? ⟨K, 0, none⟩ = some (.int .i64 c) ∧ wq.cell? ⟨K, 1, none⟩ = some (.int .i64 n) ∧ wq.cell? ⟨K, 2, none⟩ = some (.int .i64 m)) := fun wq h => ⟨keeps h _ _ (cell_of_row W K 0 _ _ _ hk), keeps h _ _ (cell_of_row W K 1 _ _ _ hk), keeps h _ _ (cell_of_row W K 2 _ _ _ hk)⟩
  have HWW : Hid (W = w.alloc (.cells #[.int .i64 c, .int .i64 n, .int .i64 m] 30)) := hW
  have HK : Hid (K = w.heap.size) := hK
  have HB : Hid (Below w.heap.size w W) := bW
  have HT : Hid (∀ wq, Below W.heap.size W wq → Tabs wq) := fun wq h => (ht.below bW).below h
  have HS : Hid (∀ wq, Calls Tryd.prog 10 #[.agg #[.int .i64 c, .int .i64 n, .int .i64 m]] wq fun e w' => e = .returned (.string (opTextB c n m)) ∧ Below wq.heap.size wq w') := fun wq => spec_optext c n m hn.1 hn.2 hm.1 hm.2 wq
  have HI : Hid (∀ wq, Tabs wq → Calls Tryd.prog 12 #[.agg #[.int .i64 c, .int .i64 n, .int .i64 m]] wq fun e w' => e = .returned (.string (opTextB c n m)) ∧ Below wq.heap.size wq w') := fun wq h => impl_optext c n m hn.1 hn.2 hm.1 hm.2 wq h.2 h.1
  clear hk hW hK bW hn hm ht
  generalize opTextB c n m = T at *
  obtain ⟨k0, k1, k2⟩ := HC.out W (Below.refl _ _)
  go_enter Tryd.func4, Tryd.ntmps4
  go_upto_region 1 with fail
  rw [← HWW.out, ← HK.out]
  go_wp2_with fail
  refine (to_op c n m W).mono ?_
  rintro e w1 ⟨rfl, hb1⟩
  have B1 : Hid (Below W.heap.size W w1) := hb1
  clear hb1 k0 k1 k2
  go_wp2_with fail
  refine (HS.out w1).mono ?_
  rintro e w2 ⟨rfl, hb2⟩
  have B2 : Hid (Below W.heap.size W w2) := B1.out.trans (hb2.mono B1.out.size)
  clear hb2 B1
  obtain ⟨k0, k1, k2⟩ := HC.out w2 B2.out
  go_wp2_with fail
  refine (to_op c n m w2).mono ?_
  rintro e w3 ⟨rfl, hb3⟩
  have B3 : Hid (Below W.heap.size W w3) := B2.out.trans (hb3.mono B2.out.size)
  clear hb3 B2 k0 k1 k2
  go_wp2_with fail
  refine (HI.out w3 (HT.out w3 B3.out)).mono ?_
  rintro e w4 ⟨rfl, hb4⟩
  have B4 : Hid (Below w.heap.size w w4) := HB.out.trans ((B3.out.trans (hb4.mono B3.out.size)).mono HB.out.size)
  clear hb4 B3
  go_wp2_with fail
  go_ret
  exact ⟨rfl, B4.out⟩

theorem own : ownKnob Tryd.prog.godebug = none := by kernel_rfl
theorem laidOut : laidOutB Tryd.prog = true := by kernel_rfl

theorem okAgg {P : Program} {W : World} {r : Reach} {base : Nat} {t : TypeId} {v : Value} {fs : Array Field} (hu : P.underlying t = some (.struct fs)) (h : Value.okWide P W r base t v) : ∃ cs, v = .agg cs := by
  unfold Value.okWide at h
  rw [hu] at h
  obtain ⟨cs, h, _⟩ := h
  exact ⟨cs, h⟩

theorem cells_op : Tryd.prog.cellsOf 30 = 3 := by kernel_rfl
theorem cells_i : Tryd.prog.cellsOf 3 = 1 := by kernel_rfl
theorem op_fields : ∃ fs : Array Field, Tryd.prog.underlying 30 = some (.struct fs) ∧ fs.size = 3 ∧ (∃ f, fs[0]? = some f ∧ f.type = 3 ∧ f.offset = 0) ∧ (∃ f, fs[1]? = some f ∧ f.type = 3 ∧ f.offset = 1) ∧ (∃ f, fs[2]? = some f ∧ f.type = 3 ∧ f.offset = 2) :=
  ⟨_, Tryd.underlying30, rfl, ⟨_, rfl, rfl, rfl⟩, ⟨_, rfl, rfl, rfl⟩, ⟨_, rfl, rfl, rfl⟩⟩

set_option maxRecDepth 100000 in
theorem opened {H : Type} {enc : TypeId × Value → H} {W : World} {r : Reach} {base : Nat} {v : Value} {d : DataW H} {ps : List MemPlace} (hv : Value.okWide Tryd.prog W r base 30 v) (h : DataW.Trod enc Tryd.prog W 0 (fun _ => true) true 30 v d ps) :
    ∃ (c n m : Int), v = .agg #[.int .i64 c, .int .i64 n, .int .i64 m] ∧ (-9223372036854775808 ≤ n ∧ n ≤ 9223372036854775807) ∧ (-9223372036854775808 ≤ m ∧ m ≤ 9223372036854775807) := by
  obtain ⟨cs, rfl⟩ := okAgg Tryd.underlying30 hv
  obtain ⟨fuel, h⟩ := h
  obtain ⟨fs, hu, hfs, ⟨f0, h0, t0, o0⟩, ⟨f1, h1, t1, o1⟩, ⟨f2, h2, t2, o2⟩⟩ := op_fields
  obtain ⟨xs, n, rfl, hx, hlen, hxl, hf⟩ := DataW.trod_struct hu h
  have g0 := hf 0 f0 h0
  have g1 := hf 1 f1 h1
  have g2 := hf 2 f2 h2
  rw [hfs] at hxl
  rw [cells_op] at hlen
  rw [t0, o0, cells_i, List.getElem?_eq_getElem (by omega)] at g0
  rw [t1, o1, cells_i, List.getElem?_eq_getElem (by omega)] at g1
  rw [t2, o2, cells_i, List.getElem?_eq_getElem (by omega)] at g2
  obtain ⟨cl⟩ := cs
  have hlen' : cl.length = 3 := hlen
  match cl, hlen' with
  | [c0, c1, c2], _ =>
    have g0' : DataW.trod enc Tryd.prog W 0 (fun _ => true) true n 3 [c0] = _ := g0
    have g1' : DataW.trod enc Tryd.prog W 0 (fun _ => true) true n 3 [c1] = _ := g1
    have g2' : DataW.trod enc Tryd.prog W 0 (fun _ => true) true n 3 [c2] = _ := g2
    obtain ⟨z0, e0, -, q0⟩ := DataW.trod_int Tryd.underlying3 g0'
    obtain ⟨z1, e1, -, q1⟩ := DataW.trod_int Tryd.underlying3 g1'
    obtain ⟨z2, e2, -, q2⟩ := DataW.trod_int Tryd.underlying3 g2'
    simp only [List.cons.injEq, and_true] at e0 e1 e2
    subst e0 e1 e2
    exact ⟨z0, z1, z2, rfl, i64_bounds q1, i64_bounds q2⟩

/-- What the row lists. -/
def lst : List (String × DataW Unit) := Rows.fnExactOpTextRow.laid

theorem of_laid {W : World} (h : laidMetH Tryd.prog lst W) : Tabs W := by
  rw [MakeChecks.laidMetH_plain _ _ _ (by kernel_rfl)] at h
  have h3 := laidMet_tail (laidMet_tail h)
  exact ⟨Lib.tabIs_of_head (zs := Lib.pow10Tab) gPow (t := 92) (e := 80) (n := 20) (by kernel_rfl) (by kernel_rfl) (by kernel_rfl) (by kernel_rfl) (by kernel_rfl) h3, names_of_head (laidMet_tail (laidMet_tail h3))⟩

set_option maxRecDepth 100000 in
theorem lifted (os : Os) (started : os.Started) (H : Type) (enc : TypeId × Value → H) :
    ReturnsInHanded {} Tryd.checked os 4 .any (fun w args => (Rows.fnExactOpTextSpec.pre enc Tryd.prog Tryd.f4 [] false w args ∧ laidMetH Tryd.prog lst w) ∧ sizedMet enc Tryd.prog Tryd.f4 (OpenSpec.ofChange Rows.fnExactOpTextSpec) false w args)
      (Rows.fnExactOpTextSpec.post enc Tryd.prog Tryd.f4 false true false false) := by
  refine returnsInHanded_of_change_and (C := Tryd.checked) (X := fun w _ => laidMetH Tryd.prog lst w) (fun _ _ _ hh h => h.of_heap hh) own started (by kernel_rfl) Tryd.func4
    (ChangeSpec.witness_shaped (enc := enc) (C := Tryd.checked) (os := os) (X := fun w _ => laidMetH Tryd.prog lst w) false (World.laidAll Tryd.prog os lst) #[.agg #[.int .i64 0, .int .i64 0, .int .i64 0]] 8 (World.laidAll_os _ _ _)
      (World.shaped_of_ZipB (by kernel_rfl) (by kernel_rfl)) (by kernel_rfl) (by kernel_rfl) (by kernel_rfl)
      (by rw [MakeChecks.laidMetH_plain _ _ _ (by kernel_rfl)]; exact laidMet_laidAll _ (by kernel_rfl) (by kernel_rfl))) ?_
  intro W base args ds gs before hval0 hW _ _ hL _
  have hval : ∀ (j : Nat) t v, Tryd.f4.params[j]? = some t → args[j]? = some v → Value.okWide Tryd.prog W .any base t v := hval0
  have hW' := hW
  have hlt := fun x hx => DataW.Whole.lt hW x hx
  obtain ⟨p, q, hA0, hV, rfl, hfz, hnd⟩ := hW
  have hA : DataW.TrodAll enc Tryd.prog W 0 (fun _ => true) true Tryd.f4.params.toList args.toList ds p := hA0
  rw [Tryd.params4] at hA hval
  obtain ⟨v0, d0, rfl, rfl, h0⟩ := trodAll_one hA
  have hV1 := hV
  obtain ⟨_, _, _, _, dg, _, rfl, -⟩ := trodVars_one hV
  obtain ⟨c, n, m, rfl, hn, hm⟩ := opened (hval 0 30 v0 rfl rfl) h0
  have ht := of_laid hL
  clear hA0 hval0
  refine (walk c n m W hn hm ht).mono fun e W' ⟨he, bel⟩ => ?_
  subst he
  have k0 := fun (sp' : Nat → Bool) (hsp : ∀ x ∈ p, sp' x.block = true) => Go.WideElems.Trod_stays laidOut (by kernel_rfl) (of_decide_eq_true (by kernel_rfl)) h0 (fun x hx => bel.same (hlt x (List.mem_append_left _ hx))) hsp
  have hv1 := Below.trodVars laidOut bel (by kernel_rfl) hV1
  refine ⟨_, rfl, _, _, _, [], p, q, hW', trodAll_mk1 (shut_bool Tryd.underlying4 _), trodAll_mk1 (k0 _ ?_), hv1, bel.frame _, fun h => by cases h⟩
  exact fun x hx => decide_eq_true (hlt x (List.mem_append_left _ hx))

theorem over : Rows.FnExactOpTextSaid :=
  OpenClaim.holds_of_wide 4 Tryd.f4 rfl rfl rfl rfl rfl rfl rfl ⟨rfl, rfl, rfl, rfl, rfl⟩ rfl rfl rfl rfl rfl (by kernel_rfl) Tryd.func4 (by kernel_rfl)
    (of_decide_eq_true (by kernel_rfl)) (by unfold Func.isWrapper; first | (rw [if_pos (by decide +kernel)]; kernel_rfl) | (rw [if_neg (by decide +kernel)]; exact ⟨rfl, rfl⟩))
    (fun os started H enc _ => lifted os started H enc)

/-- The tied card. -/
theorem proved : Rows.FnExactOpTextCardSaid :=
  Claim7.holds_tied_plain_at .later [] [.data, .data, .data, .data, .data, .pinned] true (true, "9839c3d47579b997c4ec88bba4651fde0b41d7c3fc21953cbfd15153ccc1e8fb") false
    over (fun _ h => by cases h) (by kernel_rfl) (fun _ h => by cases h) fnExactOpText_row_tie rfl ⟨rfl, rfl⟩ (by kernel_rfl) rfl
    (fun f fn hf hfn => by
      obtain rfl : f = 4 := Option.some.inj ((show Tryd.prog.funcNamed "loop.example/g00396/laws.FnExactOpText" = some 4 by kernel_rfl).symm.trans hf) |>.symm
      obtain rfl : fn = Tryd.f4 := (Option.some.inj (Tryd.func4.symm.trans hfn)).symm
      exact ⟨by kernel_rfl, fun j t ht => by
        rw [Tryd.params4] at ht
        have hm : t ∈ [30] := by simpa using Array.mem_of_getElem? ht
        have hall : ([30].all fun u => !Tryd.prog.wantsStandIn u) = true := by kernel_rfl
        exact (show Tryd.prog.wantsStandIn t = false by simpa using List.all_eq_true.1 hall t hm)⟩)
    (by kernel_rfl)
#print axioms proved
end Go.Proofs.YtcmgbplnhapgbaaDoor.fnExactOpText
