/- At every text impl.ReadAll answers as spec.ReadAll, and its answer owns its memory: laws.FnExactReadAll returns true, and the argument reads as before. Condition (the card ties it to the program's text): the listed tables and errors of the library read as their text lays them. -/
import Derived.Test.YtafpbcdgcgffeajDoorRows
import Derived.Test.YtafpbcdgcgffeajDoorTie
import Derived.Test.YtafpbcdgcgffeajDoorCards
import Derived.Test.YtafpbcdgcgffeajDoorLaid
import Derived.Test.YtafpbcdgcgffeajDoorEndAll
import Derived.WalkKit
import Derived.ProofKit
import Derived.LaidMore
import Derived.OpenShut
import Derived.Stop.Joined
import Derived.Stop.LaidErr
import Derived.SevenTiedAt
namespace Go.Proofs.YtafpbcdgcgffeajDoor.fnExactReadAll
open Go.ChangeShapes Go.WideShapes Go.ChangeAt Go.RowKit
open Go.ChangeMaps (open_string shut_string)

def dsOf : Rdr (List D) → List D
  | .bad _ => []
  | .ok ds _ => ds
def zOf : Rdr (List D) → Int
  | .bad p => p
  | .ok _ _ => -1

theorem readP_w (s : ByteArray) : kidsWeight (dsOf (readP s)).length (kidsOf (dsOf (readP s))) ≤ 52000 := by
  cases h : readP s with
  | bad p => simp [dsOf, kidsWeight, sumTo]
  | ok ds r =>
    show kidsWeight ds.length (kidsOf ds) ≤ 52000
    unfold readP at h
    split at h
    · cases hr : readL s.size (toks s).1 with
      | bad p => rw [hr] at h; simp at h
      | ok ds' r' =>
        rw [hr] at h
        simp only at h
        split at h
        · injection h with h1 h2
          subst h1
          exact readL_w _ _ _ _ (toks_w s) (toks_good s).2.1 hr
        · simp at h
    · simp at h

theorem spec_says (s : ByteArray) (hs : s.size ≤ 1048576) (w : World) : Calls Tryd.prog 11 #[.string s] w fun e w' => ∃ v, e = .returned (.tuple #[v, .int .i64 (zOf (readP s))]) ∧ Below w.heap.size w w' ∧ Sl w' (dsOf (readP s)).length (kidsOf (dsOf (readP s))) v := by
  refine (spec_all s hs w).mono ?_
  rintro e w' ⟨hb, hm⟩
  cases h : readP s with
  | bad p =>
    rw [h] at hm
    obtain ⟨q, c, rfl⟩ := hm
    exact ⟨_, rfl, hb, .inl ⟨rfl, q, c, rfl⟩⟩
  | ok ds r =>
    rw [h] at hm
    obtain ⟨v, rfl, hv, -⟩ := hm
    exact ⟨v, rfl, hb, hv⟩

def Says (s : ByteArray) (w : World) (e : Ending) (w' : World) : Prop :=
  ∃ v T, e = .returned (.tuple #[v, .int .i64 (zOf (readP s))]) ∧ Below w.heap.size w w' ∧ SOwn w' (dsOf (readP s)).length (kidsOf (dsOf (readP s))) v T ∧ T.Nodup ∧ ∀ x ∈ T, w.heap.size ≤ x

theorem impl_says (s : ByteArray) (hs : s.size ≤ 1048576) (w : World) (ht : PowTab w) (hv : ErrVars w) : Calls Tryd.prog 12 #[.string s] w (Says s w) := by
  refine (read_all s hs w ht hv).mono ?_
  rintro e w' ⟨hb, hm⟩
  unfold Says
  cases h : readP s with
  | bad p =>
    rw [h] at hm
    simp only at hm
    subst hm
    exact ⟨_, [], rfl, hb, .inl ⟨rfl, rfl, rfl⟩, by simp, fun x hx => by simp at hx⟩
  | ok ds r =>
    rw [h] at hm
    obtain ⟨v, T, rfl, h1, h2, h3⟩ := hm
    exact ⟨v, T, rfl, hb, h1, h2, h3⟩

theorem frs_below {n : Nat} {w w3 w4 : World} {T : List Nat} (hb : Below n w w3) (hf : FrS w3 w4 T) (hn : n ≤ w3.heap.size) (hT : ∀ x ∈ T, n ≤ x) : Below n w w4 :=
  hb.trans ⟨hf.os, hf.tape, hf.output, hf.size, fun x hx => hf.block x (by omega) (fun h => by have := hT x h; omega)⟩

set_option maxRecDepth 100000 in
set_option maxHeartbeats 4000000 in
theorem walk (s : ByteArray) (hs : s.size ≤ maxLen) (w : World) (ht : PowTab w) (hv : ErrVars w) :
    Calls Tryd.prog 4 #[.string s] w fun e w' => e = .returned (.bool true) ∧ Below w.heap.size w w' := by
  unfold maxLen at hs
  by_cases hb : (1048576 : Int) < s.size
  · clear ht hv
    go_enter Tryd.func4, Tryd.ntmps4
    go_wp2
    go_ret
    exact ⟨rfl, Below.refl _ _⟩
  have HSP : Hid (∀ w, Calls Tryd.prog 11 #[.string s] w fun e w' => ∃ v, e = .returned (.tuple #[v, .int .i64 (zOf (readP s))]) ∧ Below w.heap.size w w' ∧ Sl w' (dsOf (readP s)).length (kidsOf (dsOf (readP s))) v) := fun w => spec_says s (by omega) w
  have HIM : Hid (∀ w0, Below w.heap.size w w0 → Calls Tryd.prog 12 #[.string s] w0 fun e w' => ∃ v T, e = .returned (.tuple #[v, .int .i64 (zOf (readP s))]) ∧ Below w0.heap.size w0 w' ∧ SOwn w' (dsOf (readP s)).length (kidsOf (dsOf (readP s))) v T ∧ T.Nodup ∧ ∀ x ∈ T, w0.heap.size ≤ x) := fun w0 h => impl_says s (by omega) w0 (ht.below h) (hv.below h)
  have hwt := readP_w s
  have hcn := counts_le (dsOf (readP s)).length (kidsOf (dsOf (readP s)))
  clear ht hv
  generalize (dsOf (readP s)) = ds at *
  generalize (zOf (readP s)) = z at *
  have HC : Hid (sumTo (fun i => (kidsOf ds i).count) ds.length ≤ 52000) := by show _ ≤ _; omega
  clear hwt hcn
  generalize hln : ds.length = len at *
  generalize kidsOf ds = kid at *
  clear hln
  have HEQ : Hid (∀ (w : World) (u v : Value), Sl w len kid u → Sl w len kid v → Calls Tryd.prog 13 #[u, v] w fun e w' => e = .returned (.bool true) ∧ Below w.heap.size w w') := fun w u v hu hv => eq_dats len kid (fun i _ => eq_dat (kid i)) w u v hu hv
  have HMK : Hid (∀ (w : World) (v : Value) (S : List Nat), SOwn w len kid v S → S.Nodup → Calls Tryd.prog 14 #[v, .int .i64 1] w fun e w' => e = .returned (.int .i64 ((1 + 4 * sumTo (fun j => (kid j).count) len : Nat) : Int)) ∧ SOwn w' len (markK kid 1) v S ∧ FrS w w' S) := fun w v S h1 h2 => mark_dats len kid (fun i _ => mark_all (kid i)) w v S 1 h1 h2 (by omega) (by have := HC.out; omega)
  have HHE : Hid (∀ (w : World) (v : Value), Sl w len (markK kid 1) v → Calls Tryd.prog 15 #[v, .int .i64 1] w fun e w' => e = .returned (.int .i64 ((1 + 4 * sumTo (fun j => (kid j).count) len : Nat) : Int)) ∧ Below w.heap.size w w') := fun w v h1 => held_dats len kid (mark_no h1) (fun i _ => held_all (kid i)) w v 1 h1 (by omega) (by have := HC.out; omega)
  generalize hcc : 1 + 4 * sumTo (fun j => (kid j).count) len = cc at *
  have hc0 : 0 < cc := by omega
  have hc1 : cc < 900000 := by have := HC.out; omega
  clear hcc HC
  go_enter Tryd.func4, Tryd.ntmps4
  go_wp2_with fail
  refine (HSP.out _).mono ?_
  rintro e w1 ⟨v1, rfl, b1, s1⟩
  go_wp2_with fail
  refine (HIM.out w1 b1).mono ?_
  rintro e w2 ⟨v2, T, rfl, b2, o2, hn, hT⟩
  have B2 : Below w.heap.size w w2 := b1.trans (b2.mono b1.size)
  go_wp2_with fail
  refine (HEQ.out w2 v2 v1 o2.sl (s1.below b2)).mono ?_
  rintro e w3 ⟨rfl, b3⟩
  have o3 : SOwn w3 len kid v2 T := o2.same (fun x hx => b3.block x (o2.lt x hx))
  have B13 : Below w1.heap.size w1 w3 := b2.trans (b3.mono b2.size)
  have B3 : Below w.heap.size w w3 := b1.trans (B13.mono b1.size)
  clear o2 B2
  go_wp2_with fail
  refine (HMK.out w3 v2 T o3 hn).mono ?_
  rintro e w4 ⟨rfl, o4, f4⟩
  have B14 : Below w1.heap.size w1 w4 := frs_below B13 f4 B13.size hT
  have B4 : Below w.heap.size w w4 := b1.trans (B14.mono b1.size)
  have s4 : Sl w4 len kid v1 := s1.below B14
  have d4 : Sl w4 len (markK kid 1) v2 := o4.sl
  clear b2 b3 o3 f4 B13 B3 B14 o4 hn hT s1 b1
  go_wp2_with fail
  refine (HHE.out w4 v2 d4).mono ?_
  rintro e w5 ⟨rfl, b5⟩
  have B5 : Below w.heap.size w w5 := B4.trans (b5.mono B4.size)
  have s5 := s4.below b5
  have d5 := d4.below b5
  clear b5 B4 s4 d4
  go_wp2_with fail
  refine (HIM.out w5 B5).mono ?_
  rintro e w6 ⟨v6, T6, rfl, b6, o6, -, -⟩
  have B6 : Below w.heap.size w w6 := B5.trans (b6.mono B5.size)
  have s6 := s5.below b6
  have d6 := d5.below b6
  clear b6 B5 s5 d5
  go_wp2_with fail
  refine (HEQ.out w6 v6 v1 o6.sl s6).mono ?_
  rintro e w7 ⟨rfl, b7⟩
  have B7 : Below w.heap.size w w7 := B6.trans (b7.mono B6.size)
  have d7 := d6.below b7
  clear b7 B6 s6 d6 o6
  go_wp2_with fail
  refine (HHE.out w7 v2 d7).mono ?_
  rintro e w8 ⟨rfl, b8⟩
  have B8 : Below w.heap.size w w8 := B7.trans (b8.mono B7.size)
  clear b8 B7 d7
  go_wp2
  go_ret
  exact ⟨rfl, B8⟩

theorem own : ownKnob Tryd.prog.godebug = none := by kernel_rfl

/-- What the row lists. -/
def lst : List (String × DataW Unit) := Rows.fnExactReadAllRow.laid

theorem door_met (os : Os) (args : Array Value) : laidMetH Tryd.prog lst ((World.doorLaid Tryd.prog 4000 os).forCall (fun _ _ => 0) ⟨#[], args, []⟩).memory :=
  laidMetH_of_parts3 (fuel := 8) (laidMet_of_run' 8 (by kernel_rfl) (by kernel_rfl)) (by kernel_rfl) (by kernel_rfl)

theorem star : "*" ++ "errors.errorString" = "*errors.errorString" := by decide
theorem row_err (u : TypeId) (h : Tryd.prog.typeName? 3 u = some "*errors.errorString") : u = 137 :=
  typeName_ptr_named (nm := "errors.errorString") (by rw [star]; kernel_rfl) (by kernel_rfl) (by decide) u (by rw [star]; exact h)

theorem of_laid {W : World} (h : laidMetH Tryd.prog lst W) : PowTab W ∧ ErrVars W := by
  rw [MakeChecks.laidMetH_plain _ _ _ (by kernel_rfl)] at h
  have h3 := laidMet_tail (laidMet_tail h)
  have h4 := laidMet_tail h3
  have h5 := laidMet_tail h4
  refine ⟨Lib.tabIs_of_head (zs := Lib.pow10Tab) gPow (t := 141) (e := 124) (n := 20) (by kernel_rfl) (by kernel_rfl) (by kernel_rfl) (by kernel_rfl) (by kernel_rfl) h3, ?_, ?_⟩
  · obtain ⟨a0, s0, hv0, -, -, -⟩ := laid_sentinel (ti := 86) h5 gSyn (by kernel_rfl) Tryd.underlying86 row_err Tryd.underlying137 Tryd.underlying139 rfl rfl Tryd.underlying9 (by kernel_rfl) (by kernel_rfl)
    exact ⟨_, _, hv0⟩
  · obtain ⟨a0, s0, hv0, -, -, -⟩ := laid_sentinel (ti := 86) h4 gRng (by kernel_rfl) Tryd.underlying86 row_err Tryd.underlying137 Tryd.underlying139 rfl rfl Tryd.underlying9 (by kernel_rfl) (by kernel_rfl)
    exact ⟨_, _, hv0⟩

set_option maxRecDepth 100000 in
theorem lifted (os : Os) (started : os.Started) (H : Type) (enc : TypeId × Value → H) :
    ReturnsInHanded {} Tryd.checked os 4 .any (fun w args => (Rows.fnExactReadAllSpec.pre enc Tryd.prog Tryd.f4 [] false w args ∧ laidMetH Tryd.prog lst w) ∧ sizedMet enc Tryd.prog Tryd.f4 (OpenSpec.ofChange Rows.fnExactReadAllSpec) false w args)
      (Rows.fnExactReadAllSpec.post enc Tryd.prog Tryd.f4 false true false false) := by
  refine returnsInHanded_of_change_and (C := Tryd.checked) (X := fun w _ => laidMetH Tryd.prog lst w) (fun _ _ _ hh h => h.of_heap hh) own started (by kernel_rfl) Tryd.func4
    (ChangeSpec.witness_shaped (enc := enc) (C := Tryd.checked) (os := os) (X := fun w _ => laidMetH Tryd.prog lst w) false (World.doorLaid Tryd.prog 4000 os) #[.string ⟨#[]⟩] 8 rfl (World.shaped_of_RefB (by kernel_rfl) (by kernel_rfl)) (by kernel_rfl) (by kernel_rfl) (by kernel_rfl) (door_met os _)) ?_
  intro W base args ds gs before hval0 hW _ _ hL _
  have hval : ∀ (j : Nat) t v, Tryd.f4.params[j]? = some t → args[j]? = some v → Value.okWide Tryd.prog W .any base t v := hval0
  have hW' := hW
  obtain ⟨p, q, hA0, hV, rfl, hfz, hnd⟩ := hW
  have hA : DataW.TrodAll enc Tryd.prog W 0 (fun _ => true) true Tryd.f4.params.toList args.toList ds p := hA0
  rw [Tryd.params4] at hA hval
  obtain ⟨v0, d0, rfl, rfl, h0⟩ := trodAll_one hA
  obtain ⟨rfl, rfl⟩ := trodVars_none hV
  obtain ⟨s, rfl, rfl, rfl, ws⟩ := open_string Tryd.underlying9 (hval 0 9 v0 rfl rfl) h0
  have ht := of_laid hL
  clear hA0 hval0
  simp only [List.append_nil] at hW'
  refine (walk s ws W ht.1 ht.2).mono fun e W' ⟨he, bel⟩ => ?_
  subst he
  exact ⟨_, rfl, _, _, _, [], [], [], hW', trodAll_mk1 (shut_bool Tryd.underlying4 _), trodAll_mk1 (shut_string Tryd.underlying9 ws), rfl, bel.frame _, fun h => by cases h⟩

theorem over : Rows.FnExactReadAllSaid :=
  OpenClaim.holds_of_wide 4 Tryd.f4 rfl rfl rfl rfl rfl rfl rfl ⟨rfl, rfl, rfl, rfl, rfl⟩ rfl rfl rfl rfl rfl (by kernel_rfl) Tryd.func4 (by kernel_rfl)
    (of_decide_eq_true (by kernel_rfl)) (by unfold Func.isWrapper; first | (rw [if_pos (by decide +kernel)]; kernel_rfl) | (rw [if_neg (by decide +kernel)]; exact ⟨rfl, rfl⟩))
    (fun os started H enc _ => lifted os started H enc)

/-- The tied card. -/
theorem proved : Rows.FnExactReadAllCardSaid :=
  Claim7.holds_tied_plain_at .later [] [.data, .data, .data, .sentinel, .sentinel] true (true, "b4af8df5c754d6e38c185d803aaca2a211374408fd3dab13bc36fce12b8b14ab") true
    over (fun _ h => by cases h) (by kernel_rfl) (fun _ h => by cases h) fnExactReadAll_row_tie rfl ⟨rfl, rfl⟩ (by kernel_rfl) rfl
    (fun f fn hf hfn => by
      obtain rfl : f = 4 := Option.some.inj ((show Tryd.prog.funcNamed "loop.example/g00396/laws.FnExactReadAll" = some 4 by kernel_rfl).symm.trans hf) |>.symm
      obtain rfl : fn = Tryd.f4 := (Option.some.inj (Tryd.func4.symm.trans hfn)).symm
      exact ⟨by kernel_rfl, fun j t ht => by
        rw [Tryd.params4] at ht
        have hm : t ∈ [9] := by simpa using Array.mem_of_getElem? ht
        have hall : ([9].all fun u => !Tryd.prog.wantsStandIn u) = true := by kernel_rfl
        exact (show Tryd.prog.wantsStandIn t = false by simpa using List.all_eq_true.1 hall t hm)⟩)
    (by kernel_rfl)
#print axioms proved
end Go.Proofs.YtafpbcdgcgffeajDoor.fnExactReadAll
