/- Patterns, as plain trees: their names, and where dots stand. No conditions. -/
import Derived.Test.YtlclfmjpnchmbaaGreatZG10StxOkP
import Derived.Test.YtlclfmjpnchmbaaGreatZG1StxOwn
import Derived.Test.YtlclfmjpnchmbaaGreatZG6SzStx
import Derived.WalkKit
import Derived.ProofKit
namespace Go.Proofs.YtlclfmjpnchmbaaGreat

/-- The steps 0 .. k - 1, one behind the other. -/
def stepsTo {α : Type} (f : Nat → α → α) : Nat → α → α
  | 0, a => a
  | k + 1, a => f k (stepsTo f k a)

def dotsL : List UInt8 := [46, 46, 46]
def lineL : List UInt8 := [95]
/-- A symbol that is a name. -/
def nameX (op : Int) (s : ByteArray) : Bool := (op == 2) && (!(s.toList == lineL) && !(s.toList == dotsL))
/-- The symbol '...'. -/
def dotsX (t : X) : Bool := (t.op == 2) && (t.s.toList == dotsL)
/-- It stands in the list. -/
def inS (l : List ByteArray) (s : ByteArray) : Bool := l.any fun x => x.toList == s.toList
/-- One more name. -/
def addN (s : ByteArray) (a : List ByteArray × Bool) : List ByteArray × Bool := if inS a.1 s then (a.1, true) else (a.1 ++ [s], a.2)
/-- The names, behind others; whether one stood already. -/
def namesX : X → List ByteArray × Bool → List ByteArray × Bool
  | .no, a => a
  | .mk op _ _ s _ len kid, a => if nameX op s then addN s a else stepsTo (fun i a => namesX (kid i) a) len a
theorem namesX_mk (op a n : Int) (s : ByteArray) (set : List Int) (len : Nat) (kid : Nat → X) (x : List ByteArray × Bool) : namesX (.mk op a n s set len kid) x = if nameX op s then addN s x else stepsTo (fun i a => namesX (kid i) a) len x := rfl

theorem addN_len (s : ByteArray) (a : List ByteArray × Bool) : (addN s a).1.length ≤ a.1.length + 1 := by
  unfold addN
  split <;> simp
theorem namesX_len (t : X) : ∀ a, (namesX t a).1.length ≤ a.1.length + t.count := by
  induction t with
  | no => intro a; exact Nat.le_add_right _ _
  | mk op b n s set len kid ih =>
    intro a
    rw [namesX_mk]
    have hc : (X.mk op b n s set len kid).count = 1 + sumX (fun i => (kid i).count) len := rfl
    split
    · have := addN_len s a; omega
    · have h : ∀ k, (stepsTo (fun i a => namesX (kid i) a) k a).1.length ≤ a.1.length + sumX (fun i => (kid i).count) k := by
        intro k
        induction k with
        | zero => exact Nat.le_add_right _ _
        | succ k ihk =>
          simp only [stepsTo, sumX]
          have := ih k (stepsTo (fun i a => namesX (kid i) a) k a)
          omega
      have := h len
      omega
theorem inS_no {l : List ByteArray} {s : ByteArray} (h : ∀ i, i < l.length → ((l.getD i ⟨#[]⟩).toList == s.toList) = false) : inS l s = false := by
  unfold inS
  rw [List.any_eq_false]
  intro x hx
  obtain ⟨i, hi, rfl⟩ := List.mem_iff_getElem.1 hx
  have := h i hi
  rw [List.getD_eq_getElem?_getD, List.getElem?_eq_getElem hi, Option.getD_some] at this
  simp [this]
theorem inS_yes {l : List ByteArray} {s : ByteArray} (i : Nat) (hi : i < l.length) (h : ((l.getD i ⟨#[]⟩).toList == s.toList) = true) : inS l s = true := by
  unfold inS
  rw [List.any_eq_true]
  rw [List.getD_eq_getElem?_getD, List.getElem?_eq_getElem hi, Option.getD_some] at h
  exact ⟨_, List.getElem_mem hi, h⟩

/-- The i-th kid stands where it may. -/
def kidPlace (len : Nat) (kid : Nat → X) (i : Nat) : Bool := !(dotsX (kid i) && (!(decide (i + 1 = len)) || (decide (i = 0) || dotsX (kid (i - 1)))))
/-- Dots stand only where they may. -/
def placesX : X → Bool
  | .no => true
  | .mk _ _ _ _ _ len kid => allX (fun i => kidPlace len kid i && placesX (kid i)) len
theorem placesX_mk (op a n : Int) (s : ByteArray) (set : List Int) (len : Nat) (kid : Nat → X) : placesX (.mk op a n s set len kid) = allX (fun i => kidPlace len kid i && placesX (kid i)) len := rfl
/-- A pattern. -/
def patternB (t : X) : Bool := stxOkB t && (!(namesX t ([], false)).2 && (!dotsX t && placesX t))
end Go.Proofs.YtlclfmjpnchmbaaGreat

/- impl.partOf, impl.isSym, impl.datKids, impl.stxKids. No conditions. -/
namespace Go.Proofs.YtlclfmjpnchmbaaGreat
open Go.ChangeShapes Go.WideShapes Go.ChangeAt Go.RowKit

/-- The type of a kind's part. -/
def PartT (op : Int) (T : TypeId) : Prop := (op = 1 ∧ T = 84) ∨ (op = 2 ∧ T = 86) ∨ (op = 3 ∧ T = 88) ∨ ((op ≠ 1 ∧ op ≠ 2 ∧ op ≠ 3) ∧ T = 100)

set_option maxRecDepth 100000 in
set_option maxHeartbeats 1000000 in
theorem part_of (op a n : Int) (s : ByteArray) (sv v : Value) (w : World) :
    Calls Tryz.prog 54 #[.agg #[.int .i64 op, .int .i64 a, .int .i64 n, .string s, sv, v]] w fun e w' => ∃ T, e = .returned (.iface T (.agg #[.int .i64 op, .int .i64 a, .int .i64 n, .string s, sv, v])) ∧ Below w.heap.size w w' ∧ PartT op T := by
  have HB : Hid (∀ o1, Below w.heap.size w (w.alloc o1)) := fun o1 => newx w _
  by_cases h1 : op = 1
  · subst h1
    go_enter Tryz.func54, Tryz.ntmps54
    go_wp2_with fail
    go_ret
    exact ⟨_, rfl, HB.out _, .inl ⟨rfl, rfl⟩⟩
  by_cases h2 : op = 2
  · subst h2
    go_enter Tryz.func54, Tryz.ntmps54
    go_wp2_with fail
    go_ret
    exact ⟨_, rfl, HB.out _, .inr (.inl ⟨rfl, rfl⟩)⟩
  by_cases h3 : op = 3
  · subst h3
    go_enter Tryz.func54, Tryz.ntmps54
    go_wp2_with fail
    go_ret
    exact ⟨_, rfl, HB.out _, .inr (.inr (.inl ⟨rfl, rfl⟩))⟩
  · have d1 : (op == 1) = false := by simpa using h1
    have d2 : (op == 2) = false := by simpa using h2
    have d3 : (op == 3) = false := by simpa using h3
    have HO : Hid (op ≠ 1 ∧ op ≠ 2 ∧ op ≠ 3) := ⟨h1, h2, h3⟩
    clear h1 h2 h3
    go_enter Tryz.func54, Tryz.ntmps54
    go_wp2_with fail
    go_ret
    exact ⟨_, rfl, HB.out _, .inr (.inr (.inr ⟨HO.out, rfl⟩))⟩

/-- A part is of the type asked for. -/
theorem assert_yes {P : Program} {t : TypeId} {fs : Array Field} (hu : P.underlying t = some (.struct fs)) (v : Value) (xT : TypeId) (w : World) : (Instr.typeAssert (.iface t v) xT t true).run P w = .ok (.tuple #[v, .bool true]) w := by
  simp [Instr.typeAssert, run_underlying hu, go_sem, Result.andThen]
/-- .. or of another. -/
theorem assert_no {P : Program} {t ty : TypeId} {fs : Array Field} {z : Value} (hu : P.underlying t = some (.struct fs)) (hz : (P.info? t).map (·.zero) = some (some z)) (hne : ty ≠ t) (v : Value) (xT : TypeId) (w : World) : (Instr.typeAssert (.iface ty v) xT t true).run P w = .ok (.tuple #[z, .bool false]) w := by
  obtain ⟨j, hj, hz'⟩ := Option.map_eq_some_iff.1 hz
  simp [Instr.typeAssert, run_underlying hu, hne, zeroValue, typeInfo, hj, hz']
/-- A part's zero. -/
abbrev zero6 : Value := .agg #[.int .i64 0, .int .i64 0, .int .i64 0, .string ⟨#[]⟩, .slice none 0 0, .slice none 0 0]
theorem is_numPart (v : Value) (w : World) : (Instr.typeAssert (.iface 84 v) 82 84 true).run Tryz.prog w = .ok (.tuple #[v, .bool true]) w := assert_yes Tryz.underlying84 v _ w
theorem no_numPart {ty : TypeId} (hne : ty ≠ 84) (v : Value) (w : World) : (Instr.typeAssert (.iface ty v) 82 84 true).run Tryz.prog w = .ok (.tuple #[zero6, .bool false]) w := assert_no Tryz.underlying84 (by kernel_rfl) hne v _ w
theorem is_symPart (v : Value) (w : World) : (Instr.typeAssert (.iface 86 v) 82 86 true).run Tryz.prog w = .ok (.tuple #[v, .bool true]) w := assert_yes Tryz.underlying86 v _ w
theorem no_symPart {ty : TypeId} (hne : ty ≠ 86) (v : Value) (w : World) : (Instr.typeAssert (.iface ty v) 82 86 true).run Tryz.prog w = .ok (.tuple #[zero6, .bool false]) w := assert_no Tryz.underlying86 (by kernel_rfl) hne v _ w
theorem is_listPart (v : Value) (w : World) : (Instr.typeAssert (.iface 88 v) 82 88 true).run Tryz.prog w = .ok (.tuple #[v, .bool true]) w := assert_yes Tryz.underlying88 v _ w
theorem no_listPart {ty : TypeId} (hne : ty ≠ 88) (v : Value) (w : World) : (Instr.typeAssert (.iface ty v) 82 88 true).run Tryz.prog w = .ok (.tuple #[zero6, .bool false]) w := assert_no Tryz.underlying88 (by kernel_rfl) hne v _ w

set_option maxRecDepth 100000 in
theorem kind_numPart (op a n : Int) (s : ByteArray) (sv v : Value) (w : World) :
    Calls Tryz.prog 115 #[.agg #[.int .i64 op, .int .i64 a, .int .i64 n, .string s, sv, v]] w fun e w' => e = .returned (.int .i64 1) ∧ Below w.heap.size w w' := by
  go_enter Tryz.func115, Tryz.ntmps115
  go_wp2_with fail
  go_ret
  exact ⟨rfl, newx _ _⟩
set_option maxRecDepth 100000 in
theorem kind_symPart (op a n : Int) (s : ByteArray) (sv v : Value) (w : World) :
    Calls Tryz.prog 116 #[.agg #[.int .i64 op, .int .i64 a, .int .i64 n, .string s, sv, v]] w fun e w' => e = .returned (.int .i64 2) ∧ Below w.heap.size w w' := by
  go_enter Tryz.func116, Tryz.ntmps116
  go_wp2_with fail
  go_ret
  exact ⟨rfl, newx _ _⟩
set_option maxRecDepth 100000 in
theorem kind_listPart (op a n : Int) (s : ByteArray) (sv v : Value) (w : World) :
    Calls Tryz.prog 117 #[.agg #[.int .i64 op, .int .i64 a, .int .i64 n, .string s, sv, v]] w fun e w' => e = .returned (.int .i64 3) ∧ Below w.heap.size w w' := by
  go_enter Tryz.func117, Tryz.ntmps117
  go_wp2_with fail
  go_ret
  exact ⟨rfl, newx _ _⟩
set_option maxRecDepth 100000 in
theorem kind_nonePart (op a n : Int) (s : ByteArray) (sv v : Value) (w : World) :
    Calls Tryz.prog 118 #[.agg #[.int .i64 op, .int .i64 a, .int .i64 n, .string s, sv, v]] w fun e w' => e = .returned (.int .i64 0) ∧ Below w.heap.size w w' := by
  go_enter Tryz.func118, Tryz.ntmps118
  go_wp2_with fail
  go_ret
  exact ⟨rfl, newx _ _⟩
set_option maxRecDepth 100000 in
set_option maxHeartbeats 1000000 in
theorem is_sym (op a n : Int) (s : ByteArray) (sv v : Value) (w : World) :
    Calls Tryz.prog 60 #[.agg #[.int .i64 op, .int .i64 a, .int .i64 n, .string s, sv, v]] w fun e w' => e = .returned (.bool (decide (op = 2))) ∧ Below w.heap.size w w' := by
  go_enter Tryz.func60, Tryz.ntmps60
  go_wp2_with fail
  refine (part_of op a n s sv v _).mono ?_
  rintro e w1 ⟨T, rfl, hb1, hT⟩
  have HB1 : Hid (Below w.heap.size w w1) := (newx w _).trans (hb1.mono (by simp))
  clear hb1
  rcases hT with ⟨h, rfl⟩ | ⟨h, rfl⟩ | ⟨h, rfl⟩ | ⟨⟨h1, h2, h3⟩, rfl⟩
  · have HR : Hid (decide (op = 2) = false) := decide_eq_false (by omega)
    clear h
    go_wp2_with fail
    refine (kind_numPart op a n s sv v _).mono ?_
    rintro e w2 ⟨rfl, hb2⟩
    have HB2 : Hid (Below w.heap.size w w2) := HB1.out.trans (hb2.mono HB1.out.size)
    clear hb2
    go_wp2_with fail
    go_ret
    exact ⟨by rw [HR.out]; rfl, HB2.out⟩
  · have HR : Hid (decide (op = 2) = true) := decide_eq_true h
    clear h
    go_wp2_with fail
    refine (kind_symPart op a n s sv v _).mono ?_
    rintro e w2 ⟨rfl, hb2⟩
    have HB2 : Hid (Below w.heap.size w w2) := HB1.out.trans (hb2.mono HB1.out.size)
    clear hb2
    go_wp2_with fail
    go_ret
    exact ⟨by rw [HR.out]; rfl, HB2.out⟩
  · have HR : Hid (decide (op = 2) = false) := decide_eq_false (by omega)
    clear h
    go_wp2_with fail
    refine (kind_listPart op a n s sv v _).mono ?_
    rintro e w2 ⟨rfl, hb2⟩
    have HB2 : Hid (Below w.heap.size w w2) := HB1.out.trans (hb2.mono HB1.out.size)
    clear hb2
    go_wp2_with fail
    go_ret
    exact ⟨by rw [HR.out]; rfl, HB2.out⟩
  · have HR : Hid (decide (op = 2) = false) := decide_eq_false h2
    clear h1 h2 h3
    go_wp2_with fail
    refine (kind_nonePart op a n s sv v _).mono ?_
    rintro e w2 ⟨rfl, hb2⟩
    have HB2 : Hid (Below w.heap.size w w2) := HB1.out.trans (hb2.mono HB1.out.size)
    clear hb2
    go_wp2_with fail
    go_ret
    exact ⟨by rw [HR.out]; rfl, HB2.out⟩
theorem is_symB (op a n : Int) (s : ByteArray) (sv v : Value) (b : Bool) (hb : decide (op = 2) = b) (w : World) :
    Calls Tryz.prog 60 #[.agg #[.int .i64 op, .int .i64 a, .int .i64 n, .string s, sv, v]] w fun e w' => e = .returned (.bool b) ∧ Below w.heap.size w w' := by
  subst hb
  exact is_sym op a n s sv v w

set_option maxRecDepth 100000 in
theorem stx_kids (op a n : Int) (s : ByteArray) (sv v : Value) (w : World) :
    Calls Tryz.prog 42 #[.agg #[.int .i64 op, .int .i64 a, .int .i64 n, .string s, sv, v]] w fun e w' => e = .returned v ∧ Below w.heap.size w w' := by
  go_enter Tryz.func42, Tryz.ntmps42
  go_wp2_with fail
  go_ret
  exact ⟨rfl, newx _ _⟩

end Go.Proofs.YtlclfmjpnchmbaaGreat

/- impl.isDots, impl.getsOne, impl.repeated, impl.dotsOk. No conditions. -/
namespace Go.Proofs.YtlclfmjpnchmbaaGreat
open Go.ChangeShapes Go.WideShapes Go.ChangeAt Go.RowKit

set_option maxRecDepth 100000 in
set_option maxHeartbeats 2000000 in
theorem is_dots (t : X) (sv v : Value) (w : World) :
    Calls Tryz.prog 52 #[.agg #[.int .i64 t.op, .int .i64 t.at_, .int .i64 t.n, .string t.s, sv, v]] w fun e w' => e = .returned (.bool (dotsX t)) ∧ Below w.heap.size w w' := by
  have HD : Hid (dotsX t = ((t.op == 2) && (t.s.toList == [46, 46, 46]))) := rfl
  generalize t.op = op at *
  generalize t.at_ = a at *
  generalize t.n = n at *
  generalize t.s = s at *
  have HDC : Hid (decide (op = 2) = (op == 2)) := by show _ = _; rw [Bool.eq_iff_iff]; simp
  have N0 : Hid (Six (w.alloc (.cells #[.int .i64 op, .int .i64 a, .int .i64 n, .string s, sv, v] 32)) w.heap.size op a n s sv v 32 ∧ Below w.heap.size w (w.alloc (.cells #[.int .i64 op, .int .i64 a, .int .i64 n, .string s, sv, v] 32))) := ⟨heap_alloc_new w _, newx w _⟩
  go_enter Tryz.func52, Tryz.ntmps52
  go_wp2_with fail
  refine (is_symB op a n s sv v (op == 2) HDC.out _).mono ?_
  rintro e w1 ⟨rfl, hb1⟩
  have N1 : Hid (Six w1 w.heap.size op a n s sv v 32 ∧ Below w.heap.size w w1) := ⟨N0.out.1.below hb1, N0.out.2.trans (hb1.mono N0.out.2.size)⟩
  obtain ⟨c0, c1, c2, c3, c4, c5⟩ := N1.out.1.cells
  clear hb1 N0 HDC
  cases h1 : (op == 2)
  · have HR : Hid (dotsX t = false) := by show _ = _; rw [HD.out, h1]; rfl
    go_wp2_with fail
    go_ret
    exact ⟨by rw [HR.out]; rfl, N1.out.2⟩
  · cases h2 : (s.toList == [46, 46, 46])
    all_goals
      have HR : Hid (dotsX t = (s.toList == [46, 46, 46])) := by show _ = _; rw [HD.out, h1]; rfl
      go_wp2_with fail
      go_ret
      exact ⟨by rw [HR.out, h2]; rfl, N1.out.2⟩

set_option maxRecDepth 100000 in
set_option maxHeartbeats 2000000 in
theorem gets_one (t : X) (sv v : Value) (w : World) :
    Calls Tryz.prog 58 #[.agg #[.int .i64 t.op, .int .i64 t.at_, .int .i64 t.n, .string t.s, sv, v]] w fun e w' => e = .returned (.bool (nameX t.op t.s)) ∧ Below w.heap.size w w' := by
  generalize t.op = op at *
  generalize t.at_ = a at *
  generalize t.n = n at *
  generalize t.s = s at *
  have HD : Hid (nameX op s = ((op == 2) && (!(s.toList == [95]) && !(s.toList == [46, 46, 46])))) := rfl
  have HDC : Hid (decide (op = 2) = (op == 2)) := by show _ = _; rw [Bool.eq_iff_iff]; simp
  have N0 : Hid (Six (w.alloc (.cells #[.int .i64 op, .int .i64 a, .int .i64 n, .string s, sv, v] 32)) w.heap.size op a n s sv v 32 ∧ Below w.heap.size w (w.alloc (.cells #[.int .i64 op, .int .i64 a, .int .i64 n, .string s, sv, v] 32))) := ⟨heap_alloc_new w _, newx w _⟩
  generalize nameX op s = r at *
  go_enter Tryz.func58, Tryz.ntmps58
  go_wp2_with fail
  refine (is_symB op a n s sv v (op == 2) HDC.out _).mono ?_
  rintro e w1 ⟨rfl, hb1⟩
  have N1 : Hid (Six w1 w.heap.size op a n s sv v 32 ∧ Below w.heap.size w w1) := ⟨N0.out.1.below hb1, N0.out.2.trans (hb1.mono N0.out.2.size)⟩
  obtain ⟨c0, c1, c2, c3, c4, c5⟩ := N1.out.1.cells
  clear hb1 N0 HDC
  cases h1 : (op == 2)
  · have HR : Hid (r = false) := by show _ = _; rw [HD.out, h1]; rfl
    go_wp2_with fail
    go_ret
    exact ⟨by rw [HR.out]; rfl, N1.out.2⟩
  · cases h3 : (s.toList == [95])
    · cases h2 : (s.toList == [46, 46, 46])
      all_goals
        have HR : Hid (r = !(s.toList == [46, 46, 46])) := by show _ = _; rw [HD.out, h1, h3]; rfl
        have h4 : (s.toList != [95]) = true := by rw [bne, h3]; rfl
        have h5 : (s.toList != [46, 46, 46]) = !(s.toList == [46, 46, 46]) := rfl
        rw [h2] at h5
        go_wp2_with fail
        go_ret
        exact ⟨by rw [HR.out, h2]; rfl, N1.out.2⟩
    · have HR : Hid (r = false) := by show _ = _; rw [HD.out, h1, h3]; rfl
      have h4 : (s.toList != [95]) = false := by rw [bne, h3]; rfl
      go_wp2_with fail
      go_ret
      exact ⟨by rw [HR.out]; rfl, N1.out.2⟩

/-- The place of the kid that dots stand behind; -1: none. -/
def oftenX (len : Nat) (kid : Nat → X) : Int := if 2 ≤ len ∧ dotsX (kid (len - 1)) = true then (len : Int) - 2 else -1

set_option maxRecDepth 100000 in
set_option maxHeartbeats 2000000 in
theorem repeated_ok (len : Nat) (kid : Nat → X) (w : World) (v : Value) (hv : XsAt 0 w len kid v) :
    Calls Tryz.prog 76 #[v] w fun e w' => e = .returned (.int .i64 (oftenX len kid)) ∧ Below w.heap.size w w' := by
  obtain ⟨p, cap, rfl, hlen, hat⟩ := hv.at
  unfold maxLen at hlen
  by_cases h2 : len < 2
  · have HR : Hid (oftenX len kid = -1) := by show _ = _; unfold oftenX; rw [if_neg (by omega)]
    have hd : decide ((len : Int) < 2) = true := decide_eq_true (by omega)
    go_enter Tryz.func76, Tryz.ntmps76
    go_wp2_with fail
    go_ret
    exact ⟨by rw [HR.out]; rfl, Below.refl _ _⟩
  · have hd : decide ((len : Int) < 2) = false := decide_eq_false (by omega)
    obtain ⟨b, o, su, u, hp, hd6, -⟩ := hat (len - 1) (by omega)
    subst hp
    obtain ⟨c0, c1, c2, c3, c4, c5⟩ := hd6
    have HR : Hid (oftenX len kid = if dotsX (kid (len - 1)) = true then (len : Int) - 2 else -1) := by
      show _ = _; unfold oftenX; by_cases h : dotsX (kid (len - 1)) = true
      · rw [if_pos ⟨by omega, h⟩, if_pos h]
      · rw [if_neg (fun x => h x.2), if_neg h]
    obtain ⟨j, hj⟩ : ∃ j, len = j + 1 := ⟨len - 1, by omega⟩
    subst hj
    rw [Nat.add_sub_cancel] at c0 c1 c2 c3 c4 c5 HR
    clear hat hv
    go_enter Tryz.func76, Tryz.ntmps76
    go_wp2_with fail
    refine (is_dots (kid j) su u _).mono ?_
    rintro e w1 ⟨rfl, hb1⟩
    have HB : Hid (Below w.heap.size w w1) := hb1
    clear hb1 c0 c1 c2 c3 c4 c5
    cases h : dotsX (kid j)
    · rw [h] at HR
      go_wp2_with fail
      go_ret
      exact ⟨by rw [HR.out]; rfl, HB.out⟩
    · rw [h] at HR
      go_wp2_with fail
      go_ret
      exact ⟨by rw [HR.out]; simp, HB.out⟩

/-- Dots stand only where they may, as the program asks it. -/
def dotsB : X → Bool
  | .no => true
  | .mk _ _ _ _ _ len kid => allX (fun i => !((dotsX (kid i) && (decide ((i : Int) = 0) || !decide ((i : Int) = (len : Int) - 1))) || !dotsB (kid i))) len
def DotsAt (t : X) : Prop := ∀ (w : World) (v : Value), XsAt 0 w t.len t.kid v → Calls Tryz.prog 39 #[v] w fun e w' => e = .returned (.bool (dotsB t)) ∧ Below w.heap.size w w'

set_option maxRecDepth 100000 in
set_option maxHeartbeats 4000000 in
theorem dots_ok (t : X) : DotsAt t := by
  induction t with
  | no =>
    intro w v h
    obtain ⟨p, cap, rfl, -, -⟩ := h.at
    go_enter Tryz.func39, Tryz.ntmps39
    go_wp2_with fail
    go_loop [11] (fun i => i = .int .i64 0) (fun _ => 0)
    case atStart => rfl
    case round =>
      subst hrel
      go_wp2_with fail
      go_ret
      exact ⟨rfl, Below.refl _ _⟩
  | mk op a n s set len kid ih =>
    intro w v h
    simp only [X.len, X.kid] at h
    obtain ⟨p, cap, rfl, hlen, hat⟩ := h.at
    unfold maxLen at hlen
    have HAT : Hid (∀ i, i < len → ∃ b o sv u, p = some ⟨b, o, none⟩ ∧ Head6 w b (o + i * 6) (kid i) sv u ∧ (kid i).At 0 w sv u) := hat
    have IH : Hid (∀ i, DotsAt (kid i)) := ih
    obtain ⟨f, hf⟩ : ∃ f : Nat → Bool, f = fun i => !((dotsX (kid i) && (decide ((i : Int) = 0) || !decide ((i : Int) = (len : Int) - 1))) || !dotsB (kid i)) := ⟨_, rfl⟩
    have HE : Hid (dotsB (.mk op a n s set len kid) = allX f len) := by show _ = _; rw [hf]; rfl
    have HF : Hid (∀ i, f i = !((dotsX (kid i) && (decide ((i : Int) = 0) || !decide ((i : Int) = (len : Int) - 1))) || !dotsB (kid i))) := fun i => by rw [hf]
    generalize dotsB (.mk op a n s set len kid) = r at *
    clear h hat ih hf
    go_enter Tryz.func39, Tryz.ntmps39
    go_wp2_with fail
    go_loopw [11] (fun i wr => ∃ (k : Nat), i = .int .i64 k ∧ k ≤ len ∧ (∀ j, j < k → f j = true) ∧ Below w.heap.size w wr) (fun i _ => len - (intOf i).toNat)
    case atStart => exact ⟨0, rfl, Nat.zero_le _, fun j hj => absurd hj (Nat.not_lt_zero _), Below.refl _ _⟩
    case round =>
      obtain ⟨k, rfl, hk, hall, hbel⟩ := hrel
      have HALL : Hid (∀ j, j < k → f j = true) := hall
      have HB : Hid (Below w.heap.size w wr) := hbel
      clear hall hbel
      by_cases hlt : (k : Int) < len
      · obtain ⟨b, o, su, u, hp, hd, hin⟩ := HAT.out k (by omega)
        subst hp
        obtain ⟨c0, c1, c2, c3, c4, c5⟩ := hd.below HB.out
        obtain ⟨pu, cu, eu⟩ := hin.xs.shape
        obtain ⟨ps, cs, es⟩ := hin.sets.shape
        subst eu es
        have N0 : Hid (Six (wr.alloc (.cells #[.int .i64 (kid k).op, .int .i64 (kid k).at_, .int .i64 (kid k).n, .string (kid k).s, .slice ps (kid k).set.length cs, .slice pu (kid k).len cu] 32)) wr.heap.size (kid k).op (kid k).at_ (kid k).n (kid k).s (.slice ps (kid k).set.length cs) (.slice pu (kid k).len cu) 32 ∧ Below w.heap.size w (wr.alloc (.cells #[.int .i64 (kid k).op, .int .i64 (kid k).at_, .int .i64 (kid k).n, .string (kid k).s, .slice ps (kid k).set.length cs, .slice pu (kid k).len cu] 32))) :=
          ⟨heap_alloc_new wr _, HB.out.trans ((newx wr _).mono HB.out.size)⟩
        have HIN : Hid (XsAt 0 w (kid k).len (kid k).kid (.slice pu (kid k).len cu)) := hin.xs
        clear hd hin
        go_wp2_with fail
        refine (is_dots (kid k) _ _ _).mono ?_
        rintro e w1 ⟨rfl, hb1⟩
        have N1 : Hid (Six w1 wr.heap.size (kid k).op (kid k).at_ (kid k).n (kid k).s (.slice ps (kid k).set.length cs) (.slice pu (kid k).len cu) 32 ∧ Below w.heap.size w w1) := ⟨N0.out.1.below hb1, N0.out.2.trans (hb1.mono N0.out.2.size)⟩
        clear hb1 N0 c0 c1 c2 c3 c4 c5
        generalize wr.heap.size = gN at *
        obtain ⟨c0, c1, c2, c3, c4, c5⟩ := N1.out.1.cells
        have HFK : Hid (f k = !((dotsX (kid k) && (decide ((k : Int) = 0) || !decide ((k : Int) = (len : Int) - 1))) || !dotsB (kid k))) := HF.out k
        have HNO : Hid (f k = false → r = false) := fun h => by rw [HE.out]; exact allX_false (by omega) h
        clear HF HE HAT
        by_cases hbad : (dotsX (kid k) && (decide ((k : Int) = 0) || !decide ((k : Int) = (len : Int) - 1))) = true
        · have HR : Hid (r = false) := HNO.out (by rw [HFK.out, hbad]; rfl)
          rw [Bool.and_eq_true, Bool.or_eq_true] at hbad
          obtain ⟨hb1, hb2⟩ := hbad
          rw [hb1]
          by_cases h0 : (k : Int) = 0
          · have e0 : ((k : Int) == 0) = true := by simpa using h0
            clear hb2 h0 hb1
            go_wp2_with fail
            go_ret
            exact ⟨by rw [HR.out]; rfl, N1.out.2⟩
          · have e0 : ((k : Int) == 0) = false := by simpa using h0
            have h1 : ¬ (k : Int) = (len : Int) - 1 := by
              rcases hb2 with h | h
              · exact absurd (of_decide_eq_true h) h0
              · simpa using h
            have e1 : ((k : Int) != (len : Int) - 1) = true := by simpa using h1
            clear hb2 h0 hb1 h1
            go_wp2_with fail
            go_ret
            exact ⟨by rw [HR.out]; rfl, N1.out.2⟩
        · have HFK2 : Hid (f k = dotsB (kid k)) := by show _ = _; rw [HFK.out, Bool.eq_false_iff.2 hbad]; cases dotsB (kid k) <;> rfl
          clear HFK
          have hcase : dotsX (kid k) = false ∨ (dotsX (kid k) = true ∧ ((k : Int) == 0) = false ∧ ((k : Int) != (len : Int) - 1) = false) := by
            cases hdd : dotsX (kid k)
            · exact .inl rfl
            · refine .inr ⟨rfl, ?_, ?_⟩
              · rw [hdd] at hbad
                simp at hbad
                simpa using hbad.1
              · rw [hdd] at hbad
                simp at hbad
                simpa using hbad.2
          clear hbad
          rcases hcase with hdd | ⟨hdd, e0, e1⟩
          all_goals
            rw [hdd]
            go_wp2_with fail
            refine (IH.out k w1 _ (HIN.out.below N1.out.2)).mono ?_
            rintro e w2 ⟨rfl, hb2⟩
            have HB2 : Hid (Below w.heap.size w w2) := N1.out.2.trans (hb2.mono N1.out.2.size)
            clear hb2
            cases hq : dotsB (kid k)
            · have HR : Hid (r = false) := HNO.out (by rw [HFK2.out, hq])
              go_wp2_with fail
              go_ret
              exact ⟨by rw [HR.out]; rfl, HB2.out⟩
            · have HA2 : Hid (∀ j, j < k + 1 → f j = true) := fun j hj => by
                rcases Nat.lt_or_ge j k with h | h
                · exact HALL.out j h
                · have : j = k := by omega
                  rw [this, HFK2.out, hq]
              go_wp2_with fail
              go_roundw
              case rel => exact ⟨k + 1, by go_num, by omega, HA2.out, HB2.out⟩
              case measure => simp [intOf]; omega
      · have hke : k = len := by omega
        subst hke
        have HR : Hid (r = true) := by show _ = _; rw [HE.out, allX_true]; exact HALL.out
        go_wp2_with fail
        go_ret
        exact ⟨by rw [HR.out]; rfl, HB.out⟩
end Go.Proofs.YtlclfmjpnchmbaaGreat
