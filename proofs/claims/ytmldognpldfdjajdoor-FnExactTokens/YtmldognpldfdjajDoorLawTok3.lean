/- At every text impl.Tokens answers as spec.Tokens, and its answer owns its memory: laws.FnExactTokens returns true, and the argument reads as before. Condition (the card ties it to the program's text): the listed tables and errors of the library read as their text lays them. -/
import Derived.Test.YtmldognpldfdjajDoorRows
import Derived.Test.YtmldognpldfdjajDoorTie
import Derived.Test.YtmldognpldfdjajDoorCards
import Derived.Test.YtmldognpldfdjajDoorLaid
import Derived.Test.YtmldognpldfdjajDoorLawTok2
import Derived.Test.YtmldognpldfdjajDoorImplTokens
import Derived.WalkKit
import Derived.ProofKit
import Derived.LaidMore
import Derived.OpenShut
import Derived.Stop.Joined
import Derived.Stop.LaidErr
import Derived.SevenTiedAt
namespace Go.Proofs.YtmldognpldfdjajDoor.fnExactTokens
open Go.ChangeShapes Go.WideShapes Go.ChangeAt Go.RowKit
open Go.ChangeMaps (open_string shut_string)

theorem below_grown {w w1 w2 : World} {v : Value} {base e size n : Nat} {xs : List Value} (hb : Below w.heap.size w w1) (ho : w1.ownsRow base e size v n xs) (hbase : w.heap.size ≤ base) (hg : w1.grownBy w2 v.ownBlock) : Below w.heap.size w w2 := by
  refine hb.trans ⟨hg.os, hg.tape, hg.output, hg.size, fun k hk => hg.block k (Nat.lt_of_lt_of_le hk hb.size) ?_⟩
  intro e
  have := (ho.lt k e.symm).1
  omega

theorem cells_grown {w1 w2 : World} {v u : Value} {base e size n : Nat} {xs : List Value} {ts : List Tok} (ho : w1.ownsRow base e size v n xs) (hg : w1.grownBy w2 v.ownBlock) (hc : TokCells w1 u ts) (hu : ∀ g, u.ownBlock = some g → g < base) : TokCells w2 u ts := by
  rcases hc with h | ⟨g, cap, h1, h2, h3⟩
  · exact .inl h
  · refine .inr ⟨g, cap, h1, h2, fun j x hx => ?_⟩
    have hgb := hu g (by rw [h1]; rfl)
    refine hg.cell (h3 j x hx) ?_
    intro e
    have := (ho.lt g e.symm).1
    omega

set_option maxRecDepth 100000 in
set_option maxHeartbeats 4000000 in
theorem walk (s : ByteArray) (hs : s.size ≤ maxLen) (w : World) (ht : PowTab w) (hv : ErrVars w) :
    Calls Tryd.prog 3 #[.string s] w fun e w' => e = .returned (.bool true) ∧ Below w.heap.size w w' := by
  have HS : Hid (s.size ≤ maxLen) := hs
  unfold maxLen at hs
  have HT : Hid (PowTab w) := ht
  have HV : Hid (ErrVars w) := hv
  clear ht hv
  by_cases hb : (1048576 : Int) < s.size
  · go_enter Tryd.func3, Tryd.ntmps3
    go_wp2
    go_ret
    exact ⟨rfl, Below.refl _ _⟩
  have hlen := (toks_good s).2.1
  go_enter Tryd.func3, Tryd.ntmps3
  go_wp2_with fail
  refine (spec_tokens s HS.out _).mono ?_
  rintro e w1 ⟨v1, rfl, b1, o1⟩
  go_wp2_with fail
  refine (impl_tokens s (by omega) _ (HT.out.below b1) (HV.out.below b1)).mono ?_
  rintro e w2 ⟨v2, rfl, b2, o2⟩
  have H2 : ∀ w0, Below w.heap.size w w0 → Calls Tryd.prog 5 #[.string s] w0 fun e w' => ∃ lv, e = .returned (.tuple #[lv, .int .i64 (toks s).2]) ∧ Below w0.heap.size w0 w' ∧ w'.ownsRow w0.heap.size 29 4 lv (toks s).1.length (rows (toks s).1) :=
    fun w0 h0 => impl_tokens s (by omega) w0 (HT.out.below h0) (HV.out.below h0)
  have HI : Hid (∀ w0, Below w.heap.size w w0 → Calls Tryd.prog 5 #[.string s] w0 fun e w' => ∃ lv, e = .returned (.tuple #[lv, .int .i64 (toks s).2]) ∧ Below w0.heap.size w0 w' ∧ w'.ownsRow w0.heap.size 29 4 lv (toks s).1.length (rows (toks s).1)) := H2
  clear H2
  generalize (toks s).1 = ts at *
  generalize (toks s).2 = z at *
  have hv1 : ∀ g, v1.ownBlock = some g → g < w1.heap.size := fun g hg => (o1.lt g hg).2
  have B2 : Below w.heap.size w w2 := b1.trans (b2.mono b1.size)
  have c1 : TokCells w2 v1 ts := (TokCells.of_own o1).below b2
  go_wp2_with fail
  refine (eq_tokens v2 v1 ts _ (TokCells.of_own o2) c1 hlen).mono ?_
  rintro e w3 ⟨rfl, b3⟩
  have o3 := own_below o2 b3
  have c3 := c1.below b3
  have B3 : Below w.heap.size w w3 := B2.trans (b3.mono B2.size)
  clear o2 c1 B2
  go_wp2_with fail
  refine (mark_tokens v2 w1.heap.size ts _ o3 hlen).mono ?_
  rintro e w4 ⟨rfl, o4, g4⟩
  have B4 : Below w.heap.size w w4 := below_grown B3 o3 b1.size g4
  have c4 : TokCells w4 v1 ts := cells_grown o3 g4 c3 hv1
  have d4 : TokCells w4 v2 (marks ts.length) := TokCells.of_own (by rw [marks_len]; exact o4)
  clear b2 b3 o1 o3 c3 g4 B3
  go_wp2_with fail
  refine (held_tokens v2 ts.length _ d4 hlen).mono ?_
  rintro e w5 ⟨rfl, b5⟩
  have B5 : Below w.heap.size w w5 := B4.trans (b5.mono B4.size)
  have c5 := c4.below b5
  have d5 := d4.below b5
  clear b5 B4 c4 d4 o4
  have HQ : Hid (Calls Tryd.prog 5 #[.string s] w5 _) := HI.out w5 B5
  go_wp2_with fail
  refine (HI.out w5 B5).mono ?_
  rintro e w6 ⟨v6, rfl, b6, o6⟩
  have B6 : Below w.heap.size w w6 := B5.trans (b6.mono B5.size)
  have c6 := c5.below b6
  have d6 := d5.below b6
  clear HQ b6 B5 c5 d5
  go_wp2_with fail
  refine (eq_tokens v6 v1 ts _ (TokCells.of_own o6) c6 hlen).mono ?_
  rintro e w7 ⟨rfl, b7⟩
  have B7 : Below w.heap.size w w7 := B6.trans (b7.mono B6.size)
  have d7 := d6.below b7
  clear b7 B6 c6 d6 o6
  go_wp2_with fail
  refine (held_tokens v2 ts.length _ d7 hlen).mono ?_
  rintro e w8 ⟨rfl, b8⟩
  have B8 : Below w.heap.size w w8 := B7.trans (b8.mono B7.size)
  clear b8 B7 d7
  go_wp2
  go_ret
  exact ⟨rfl, B8⟩

theorem own : ownKnob Tryd.prog.godebug = none := by kernel_rfl

/-- What the row lists. -/
def lst : List (String × DataW Unit) := Rows.fnExactTokensRow.laid

theorem door_met (os : Os) (args : Array Value) : laidMetH Tryd.prog lst ((World.doorLaid Tryd.prog 4000 os).forCall (fun _ _ => 0) ⟨#[], args, []⟩).memory :=
  laidMetH_of_parts3 (fuel := 8) (laidMet_of_run' 8 (by kernel_rfl) (by kernel_rfl)) (by kernel_rfl) (by kernel_rfl)

theorem star : "*" ++ "errors.errorString" = "*errors.errorString" := by decide
theorem row_err (u : TypeId) (h : Tryd.prog.typeName? 3 u = some "*errors.errorString") : u = 80 :=
  typeName_ptr_named (nm := "errors.errorString") (by rw [star]; kernel_rfl) (by kernel_rfl) (by decide) u (by rw [star]; exact h)

theorem of_laid {W : World} (h : laidMetH Tryd.prog lst W) : PowTab W ∧ ErrVars W := by
  rw [MakeChecks.laidMetH_plain _ _ _ (by kernel_rfl)] at h
  have h3 := laidMet_tail (laidMet_tail h)
  have h4 := laidMet_tail h3
  have h5 := laidMet_tail h4
  refine ⟨Lib.tabIs_of_head (zs := Lib.pow10Tab) gPow (t := 89) (e := 71) (n := 20) (by kernel_rfl) (by kernel_rfl) (by kernel_rfl) (by kernel_rfl) (by kernel_rfl) h3, ?_, ?_⟩
  · obtain ⟨a0, s0, hv0, -, -, -⟩ := laid_sentinel (ti := 57) h5 gSyn (by kernel_rfl) Tryd.underlying57 row_err Tryd.underlying80 Tryd.underlying82 rfl rfl Tryd.underlying9 (by kernel_rfl) (by kernel_rfl)
    exact ⟨_, _, hv0⟩
  · obtain ⟨a0, s0, hv0, -, -, -⟩ := laid_sentinel (ti := 57) h4 gRng (by kernel_rfl) Tryd.underlying57 row_err Tryd.underlying80 Tryd.underlying82 rfl rfl Tryd.underlying9 (by kernel_rfl) (by kernel_rfl)
    exact ⟨_, _, hv0⟩

set_option maxRecDepth 100000 in
theorem lifted (os : Os) (started : os.Started) (H : Type) (enc : TypeId × Value → H) :
    ReturnsInHanded {} Tryd.checked os 3 .any (fun w args => (Rows.fnExactTokensSpec.pre enc Tryd.prog Tryd.f3 [] false w args ∧ laidMetH Tryd.prog lst w) ∧ sizedMet enc Tryd.prog Tryd.f3 (OpenSpec.ofChange Rows.fnExactTokensSpec) false w args)
      (Rows.fnExactTokensSpec.post enc Tryd.prog Tryd.f3 false true false false) := by
  refine returnsInHanded_of_change_and (C := Tryd.checked) (X := fun w _ => laidMetH Tryd.prog lst w) (fun _ _ _ hh h => h.of_heap hh) own started (by kernel_rfl) Tryd.func3
    (ChangeSpec.witness_shaped (enc := enc) (C := Tryd.checked) (os := os) (X := fun w _ => laidMetH Tryd.prog lst w) false (World.doorLaid Tryd.prog 4000 os) #[.string ⟨#[]⟩] 8 rfl (World.shaped_of_RefB (by kernel_rfl) (by kernel_rfl)) (by kernel_rfl) (by kernel_rfl) (by kernel_rfl) (door_met os _)) ?_
  intro W base args ds gs before hval0 hW _ _ hL _
  have hval : ∀ (j : Nat) t v, Tryd.f3.params[j]? = some t → args[j]? = some v → Value.okWide Tryd.prog W .any base t v := hval0
  have hW' := hW
  obtain ⟨p, q, hA0, hV, rfl, hfz, hnd⟩ := hW
  have hA : DataW.TrodAll enc Tryd.prog W 0 (fun _ => true) true Tryd.f3.params.toList args.toList ds p := hA0
  rw [Tryd.params3] at hA hval
  obtain ⟨v0, d0, rfl, rfl, h0⟩ := trodAll_one hA
  obtain ⟨rfl, rfl⟩ := trodVars_none hV
  obtain ⟨s, rfl, rfl, rfl, ws⟩ := open_string Tryd.underlying9 (hval 0 9 v0 rfl rfl) h0
  have ht := of_laid hL
  clear hA0 hval0
  simp only [List.append_nil] at hW'
  refine (walk s ws W ht.1 ht.2).mono fun e W' ⟨he, bel⟩ => ?_
  subst he
  exact ⟨_, rfl, _, _, _, [], [], [], hW', trodAll_mk1 (shut_bool Tryd.underlying4 _), trodAll_mk1 (shut_string Tryd.underlying9 ws), rfl, bel.frame _, fun h => by cases h⟩

theorem over : Rows.FnExactTokensSaid :=
  OpenClaim.holds_of_wide 3 Tryd.f3 rfl rfl rfl rfl rfl rfl rfl ⟨rfl, rfl, rfl, rfl, rfl⟩ rfl rfl rfl rfl rfl (by kernel_rfl) Tryd.func3 (by kernel_rfl)
    (of_decide_eq_true (by kernel_rfl)) (by unfold Func.isWrapper; first | (rw [if_pos (by decide +kernel)]; kernel_rfl) | (rw [if_neg (by decide +kernel)]; exact ⟨rfl, rfl⟩))
    (fun os started H enc _ => lifted os started H enc)

/-- The tied card. -/
theorem proved : Rows.FnExactTokensCardSaid :=
  Claim7.holds_tied_plain_at .later [] [.data, .data, .data, .sentinel, .sentinel] true (true, "c081c8cc2b5de3f17c9aa2b80472e80a1695c6300709a63fcc7da04b622ef6b0") true
    over (fun _ h => by cases h) (by kernel_rfl) (fun _ h => by cases h) fnExactTokens_row_tie rfl ⟨rfl, rfl⟩ (by kernel_rfl) rfl
    (fun f fn hf hfn => by
      obtain rfl : f = 3 := Option.some.inj ((show Tryd.prog.funcNamed "loop.example/g00396/laws.FnExactTokens" = some 3 by kernel_rfl).symm.trans hf) |>.symm
      obtain rfl : fn = Tryd.f3 := (Option.some.inj (Tryd.func3.symm.trans hfn)).symm
      exact ⟨by kernel_rfl, fun j t ht => by
        rw [Tryd.params3] at ht
        have hm : t ∈ [9] := by simpa using Array.mem_of_getElem? ht
        have hall : ([9].all fun u => !Tryd.prog.wantsStandIn u) = true := by kernel_rfl
        exact (show Tryd.prog.wantsStandIn t = false by simpa using List.all_eq_true.1 hall t hm)⟩)
    (by kernel_rfl)
#print axioms proved
end Go.Proofs.YtmldognpldfdjajDoor.fnExactTokens
