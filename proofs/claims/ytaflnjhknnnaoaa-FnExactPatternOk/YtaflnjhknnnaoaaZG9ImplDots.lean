/- Blocks of six cells: what they hold, and stored whole. No conditions. -/
import Derived.Test.YtaflnjhknnnaoaaZG8StxOwn
import Derived.Test.YtaflnjhknnnaoaaZG6PatP
import Derived.Test.YtaflnjhknnnaoaaZG7StxParts
namespace Go.Proofs.Ytaflnjhknnnaoaa
open Go.ChangeShapes Go.WideShapes Go.ChangeAt Go.RowKit

def Six (w : World) (g : Nat) (a b c : Int) (s : ByteArray) (u v : Value) (ty : TypeId) : Prop := w.heap[g]? = some (.cells #[.int .i64 a, .int .i64 b, .int .i64 c, .string s, u, v] ty (0, 0))
theorem Six.lt {w : World} {g : Nat} {a b c : Int} {s : ByteArray} {u v : Value} {ty : TypeId} (h : Six w g a b c s u v ty) : g < w.heap.size := (Array.getElem?_eq_some_iff.1 h).1
theorem Six.below {w w' : World} {g : Nat} {a b c : Int} {s : ByteArray} {u v : Value} {ty : TypeId} (h : Six w g a b c s u v ty) (hb : Below w.heap.size w w') : Six w' g a b c s u v ty := (hb.block _ h.lt).trans h
theorem Six.cells {w : World} {g : Nat} {a b c : Int} {s : ByteArray} {u v : Value} {ty : TypeId} (h : Six w g a b c s u v ty) :
    w.cell? ⟨g, 0, none⟩ = some (.int .i64 a) ∧ w.cell? ⟨g, 1, none⟩ = some (.int .i64 b) ∧ w.cell? ⟨g, 2, none⟩ = some (.int .i64 c) ∧ w.cell? ⟨g, 3, none⟩ = some (.string s) ∧ w.cell? ⟨g, 4, none⟩ = some u ∧ w.cell? ⟨g, 5, none⟩ = some v :=
  ⟨cell_of_row w g 0 _ _ _ h, cell_of_row w g 1 _ _ _ h, cell_of_row w g 2 _ _ _ h, cell_of_row w g 3 _ _ _ h, cell_of_row w g 4 _ _ _ h, cell_of_row w g 5 _ _ _ h⟩
theorem Six.fr {w : World} {g : Nat} {a b c : Int} {s : ByteArray} {u v : Value} {ty : TypeId} (h : Six w g a b c s u v ty) (j : Nat) : w.frozen? ⟨g, j, none⟩ = false := frozen_of_row w g j _ _ h
theorem Six.set4 {w : World} {g : Nat} {a b c : Int} {s : ByteArray} {u v : Value} {ty : TypeId} (h : Six w g a b c s u v ty) (u' : Value) : Six (w.setCell ⟨g, 4, none⟩ u') g a b c s u' v ty := heap_setCell_same w g 4 _ _ u' h
theorem Six.set5 {w : World} {g : Nat} {a b c : Int} {s : ByteArray} {u v : Value} {ty : TypeId} (h : Six w g a b c s u v ty) (v' : Value) : Six (w.setCell ⟨g, 5, none⟩ v') g a b c s u v' ty := heap_setCell_same w g 5 _ _ v' h

/-- Six stores into a block. -/
abbrev put6 (w : World) (g : Nat) (a b c : Int) (s : ByteArray) (u v : Value) : World :=
  (((((w.setCell ⟨g, 0, none⟩ (.int .i64 a)).setCell ⟨g, 1, none⟩ (.int .i64 b)).setCell ⟨g, 2, none⟩ (.int .i64 c)).setCell ⟨g, 3, none⟩ (.string s)).setCell ⟨g, 4, none⟩ u).setCell ⟨g, 5, none⟩ v
theorem put6_other (w : World) (g : Nat) (a b c : Int) (s : ByteArray) (u v : Value) (x : Nat) (hx : x ≠ g) : (put6 w g a b c s u v).heap[x]? = w.heap[x]? := by
  unfold put6
  rw [Below.heap_setCell _ _ _ _ (by exact hx), Below.heap_setCell _ _ _ _ (by exact hx), Below.heap_setCell _ _ _ _ (by exact hx), Below.heap_setCell _ _ _ _ (by exact hx), Below.heap_setCell _ _ _ _ (by exact hx), Below.heap_setCell _ _ _ _ (by exact hx)]
theorem put6_below {B : Nat} {w0 w : World} (hb : Below B w0 w) (g : Nat) (hg : B ≤ g) (a b c : Int) (s : ByteArray) (u v : Value) : Below B w0 (put6 w g a b c s u v) :=
  (((((hb.setCell hg _).setCell hg _).setCell hg _).setCell hg _).setCell hg _).setCell hg _

def Five (w : World) (g : Nat) (a b c : Int) (s : ByteArray) (v : Value) (ty : TypeId) : Prop := w.heap[g]? = some (.cells #[.int .i64 a, .int .i64 b, .int .i64 c, .string s, v] ty (0, 0))
theorem Five.lt {w : World} {g : Nat} {a b c : Int} {s : ByteArray} {v : Value} {ty : TypeId} (h : Five w g a b c s v ty) : g < w.heap.size := (Array.getElem?_eq_some_iff.1 h).1
theorem Five.below {w w' : World} {g : Nat} {a b c : Int} {s : ByteArray} {v : Value} {ty : TypeId} (h : Five w g a b c s v ty) (hb : Below w.heap.size w w') : Five w' g a b c s v ty := (hb.block _ h.lt).trans h
theorem Five.cells {w : World} {g : Nat} {a b c : Int} {s : ByteArray} {v : Value} {ty : TypeId} (h : Five w g a b c s v ty) :
    w.cell? ⟨g, 0, none⟩ = some (.int .i64 a) ∧ w.cell? ⟨g, 1, none⟩ = some (.int .i64 b) ∧ w.cell? ⟨g, 2, none⟩ = some (.int .i64 c) ∧ w.cell? ⟨g, 3, none⟩ = some (.string s) ∧ w.cell? ⟨g, 4, none⟩ = some v :=
  ⟨cell_of_row w g 0 _ _ _ h, cell_of_row w g 1 _ _ _ h, cell_of_row w g 2 _ _ _ h, cell_of_row w g 3 _ _ _ h, cell_of_row w g 4 _ _ _ h⟩
theorem Five.fr {w : World} {g : Nat} {a b c : Int} {s : ByteArray} {v : Value} {ty : TypeId} (h : Five w g a b c s v ty) (j : Nat) : w.frozen? ⟨g, j, none⟩ = false := frozen_of_row w g j _ _ h
abbrev put5 (w : World) (g : Nat) (a b c : Int) (s : ByteArray) (v : Value) : World :=
  ((((w.setCell ⟨g, 0, none⟩ (.int .i64 a)).setCell ⟨g, 1, none⟩ (.int .i64 b)).setCell ⟨g, 2, none⟩ (.int .i64 c)).setCell ⟨g, 3, none⟩ (.string s)).setCell ⟨g, 4, none⟩ v
theorem put5_other (w : World) (g : Nat) (a b c : Int) (s : ByteArray) (v : Value) (x : Nat) (hx : x ≠ g) : (put5 w g a b c s v).heap[x]? = w.heap[x]? := by
  unfold put5
  rw [Below.heap_setCell _ _ _ _ (by exact hx), Below.heap_setCell _ _ _ _ (by exact hx), Below.heap_setCell _ _ _ _ (by exact hx), Below.heap_setCell _ _ _ _ (by exact hx), Below.heap_setCell _ _ _ _ (by exact hx)]
theorem put5_below {B : Nat} {w0 w : World} (hb : Below B w0 w) (g : Nat) (hg : B ≤ g) (a b c : Int) (s : ByteArray) (v : Value) : Below B w0 (put5 w g a b c s v) :=
  ((((hb.setCell hg _).setCell hg _).setCell hg _).setCell hg _).setCell hg _
/-- Two new blocks, behind a call. -/
theorem twoX {w w1 : World} {o1 o2 : Obj} (hb : Below ((w.alloc o1).alloc o2).heap.size ((w.alloc o1).alloc o2) w1) :
    w1.heap[w.heap.size]? = some o1 ∧ w1.heap[w.heap.size + 1]? = some o2 ∧ w.heap.size + 2 ≤ w1.heap.size ∧ Below w.heap.size w w1 := by
  have e1 : (w.alloc o1).heap.size = w.heap.size + 1 := by simp
  have e2 : ((w.alloc o1).alloc o2).heap.size = w.heap.size + 1 + 1 := by simp
  have n2 := heap_alloc_new (w.alloc o1) o2
  have n1 := heap_alloc_new w o1
  rw [e1] at n2
  refine ⟨?_, ?_, by have := hb.size; omega, ((newx w o1).trans ((newx _ o2).mono (by omega))).trans (hb.mono (by omega))⟩
  · rw [hb.block _ (by omega), Below.heap_alloc _ _ _ (by omega)]; exact n1
  · rw [hb.block _ (by omega)]; exact n2
end Go.Proofs.Ytaflnjhknnnaoaa

/- impl.isDots, impl.getsOne, impl.repeated, impl.dotsOk. No conditions. -/
namespace Go.Proofs.Ytaflnjhknnnaoaa
open Go.ChangeShapes Go.WideShapes Go.ChangeAt Go.RowKit

set_option maxRecDepth 100000 in
set_option maxHeartbeats 2000000 in
theorem is_dots (t : X) (sv v : Value) (w : World) :
    Calls Try.prog 40 #[.agg #[.int .i64 t.op, .int .i64 t.at_, .int .i64 t.n, .string t.s, sv, v]] w fun e w' => e = .returned (.bool (dotsX t)) ∧ Below w.heap.size w w' := by
  have HD : Hid (dotsX t = ((t.op == 2) && (t.s.toList == [46, 46, 46]))) := rfl
  generalize t.op = op at *
  generalize t.at_ = a at *
  generalize t.n = n at *
  generalize t.s = s at *
  have HDC : Hid (decide (op = 2) = (op == 2)) := by show _ = _; rw [Bool.eq_iff_iff]; simp
  have N0 : Hid (Six (w.alloc (.cells #[.int .i64 op, .int .i64 a, .int .i64 n, .string s, sv, v] 35)) w.heap.size op a n s sv v 35 ∧ Below w.heap.size w (w.alloc (.cells #[.int .i64 op, .int .i64 a, .int .i64 n, .string s, sv, v] 35))) := ⟨heap_alloc_new w _, newx w _⟩
  go_enter Try.func40, Try.ntmps40
  go_wp2_with fail
  refine (is_symB op a n s sv v (op == 2) HDC.out _).mono ?_
  rintro e w1 ⟨rfl, hb1⟩
  have N1 : Hid (Six w1 w.heap.size op a n s sv v 35 ∧ Below w.heap.size w w1) := ⟨N0.out.1.below hb1, N0.out.2.trans (hb1.mono N0.out.2.size)⟩
  obtain ⟨c0, c1, c2, c3, c4, c5⟩ := N1.out.1.cells
  clear hb1 N0 HDC
  cases h1 : (op == 2)
  · have HR : Hid (dotsX t = false) := by show _ = _; rw [HD.out, h1]; rfl
    go_wp2_with fail
    go_ret
    exact ⟨by rw [HR.out]; rfl, N1.out.2⟩
  · cases h2 : (s.toList == [46, 46, 46])
    all_goals
      have HR : Hid (dotsX t = (s.toList == [46, 46, 46])) := by show _ = _; rw [HD.out, h1]; rfl
      go_wp2_with fail
      go_ret
      exact ⟨by rw [HR.out, h2]; rfl, N1.out.2⟩

set_option maxRecDepth 100000 in
set_option maxHeartbeats 2000000 in
theorem gets_one (t : X) (sv v : Value) (w : World) :
    Calls Try.prog 52 #[.agg #[.int .i64 t.op, .int .i64 t.at_, .int .i64 t.n, .string t.s, sv, v]] w fun e w' => e = .returned (.bool (nameX t.op t.s)) ∧ Below w.heap.size w w' := by
  generalize t.op = op at *
  generalize t.at_ = a at *
  generalize t.n = n at *
  generalize t.s = s at *
  have HD : Hid (nameX op s = ((op == 2) && (!(s.toList == [95]) && !(s.toList == [46, 46, 46])))) := rfl
  have HDC : Hid (decide (op = 2) = (op == 2)) := by show _ = _; rw [Bool.eq_iff_iff]; simp
  have N0 : Hid (Six (w.alloc (.cells #[.int .i64 op, .int .i64 a, .int .i64 n, .string s, sv, v] 35)) w.heap.size op a n s sv v 35 ∧ Below w.heap.size w (w.alloc (.cells #[.int .i64 op, .int .i64 a, .int .i64 n, .string s, sv, v] 35))) := ⟨heap_alloc_new w _, newx w _⟩
  generalize nameX op s = r at *
  go_enter Try.func52, Try.ntmps52
  go_wp2_with fail
  refine (is_symB op a n s sv v (op == 2) HDC.out _).mono ?_
  rintro e w1 ⟨rfl, hb1⟩
  have N1 : Hid (Six w1 w.heap.size op a n s sv v 35 ∧ Below w.heap.size w w1) := ⟨N0.out.1.below hb1, N0.out.2.trans (hb1.mono N0.out.2.size)⟩
  obtain ⟨c0, c1, c2, c3, c4, c5⟩ := N1.out.1.cells
  clear hb1 N0 HDC
  cases h1 : (op == 2)
  · have HR : Hid (r = false) := by show _ = _; rw [HD.out, h1]; rfl
    go_wp2_with fail
    go_ret
    exact ⟨by rw [HR.out]; rfl, N1.out.2⟩
  · cases h3 : (s.toList == [95])
    · cases h2 : (s.toList == [46, 46, 46])
      all_goals
        have HR : Hid (r = !(s.toList == [46, 46, 46])) := by show _ = _; rw [HD.out, h1, h3]; rfl
        have h4 : (s.toList != [95]) = true := by rw [bne, h3]; rfl
        have h5 : (s.toList != [46, 46, 46]) = !(s.toList == [46, 46, 46]) := rfl
        rw [h2] at h5
        go_wp2_with fail
        go_ret
        exact ⟨by rw [HR.out, h2]; rfl, N1.out.2⟩
    · have HR : Hid (r = false) := by show _ = _; rw [HD.out, h1, h3]; rfl
      have h4 : (s.toList != [95]) = false := by rw [bne, h3]; rfl
      go_wp2_with fail
      go_ret
      exact ⟨by rw [HR.out]; rfl, N1.out.2⟩

/-- The place of the kid that dots stand behind; -1: none. -/
def oftenX (len : Nat) (kid : Nat → X) : Int := if 2 ≤ len ∧ dotsX (kid (len - 1)) = true then (len : Int) - 2 else -1

set_option maxRecDepth 100000 in
set_option maxHeartbeats 2000000 in
theorem repeated_ok (len : Nat) (kid : Nat → X) (w : World) (v : Value) (hv : XsAt 0 w len kid v) :
    Calls Try.prog 61 #[v] w fun e w' => e = .returned (.int .i64 (oftenX len kid)) ∧ Below w.heap.size w w' := by
  obtain ⟨p, cap, rfl, hlen, hat⟩ := hv.at
  unfold maxLen at hlen
  by_cases h2 : len < 2
  · have HR : Hid (oftenX len kid = -1) := by show _ = _; unfold oftenX; rw [if_neg (by omega)]
    have hd : decide ((len : Int) < 2) = true := decide_eq_true (by omega)
    go_enter Try.func61, Try.ntmps61
    go_wp2_with fail
    go_ret
    exact ⟨by rw [HR.out]; rfl, Below.refl _ _⟩
  · have hd : decide ((len : Int) < 2) = false := decide_eq_false (by omega)
    obtain ⟨b, o, su, u, hp, hd6, -⟩ := hat (len - 1) (by omega)
    subst hp
    obtain ⟨c0, c1, c2, c3, c4, c5⟩ := hd6
    have HR : Hid (oftenX len kid = if dotsX (kid (len - 1)) = true then (len : Int) - 2 else -1) := by
      show _ = _; unfold oftenX; by_cases h : dotsX (kid (len - 1)) = true
      · rw [if_pos ⟨by omega, h⟩, if_pos h]
      · rw [if_neg (fun x => h x.2), if_neg h]
    obtain ⟨j, hj⟩ : ∃ j, len = j + 1 := ⟨len - 1, by omega⟩
    subst hj
    rw [Nat.add_sub_cancel] at c0 c1 c2 c3 c4 c5 HR
    clear hat hv
    go_enter Try.func61, Try.ntmps61
    go_wp2_with fail
    refine (is_dots (kid j) su u _).mono ?_
    rintro e w1 ⟨rfl, hb1⟩
    have HB : Hid (Below w.heap.size w w1) := hb1
    clear hb1 c0 c1 c2 c3 c4 c5
    cases h : dotsX (kid j)
    · rw [h] at HR
      go_wp2_with fail
      go_ret
      exact ⟨by rw [HR.out]; rfl, HB.out⟩
    · rw [h] at HR
      go_wp2_with fail
      go_ret
      exact ⟨by rw [HR.out]; simp, HB.out⟩

/-- Dots stand only where they may, as the program asks it. -/
def dotsB : X → Bool
  | .no => true
  | .mk _ _ _ _ _ len kid => allX (fun i => !((dotsX (kid i) && (decide ((i : Int) = 0) || !decide ((i : Int) = (len : Int) - 1))) || !dotsB (kid i))) len
def DotsAt (t : X) : Prop := ∀ (w : World) (v : Value), XsAt 0 w t.len t.kid v → Calls Try.prog 30 #[v] w fun e w' => e = .returned (.bool (dotsB t)) ∧ Below w.heap.size w w'

set_option maxRecDepth 100000 in
set_option maxHeartbeats 4000000 in
theorem dots_ok (t : X) : DotsAt t := by
  induction t with
  | no =>
    intro w v h
    obtain ⟨p, cap, rfl, -, -⟩ := h.at
    go_enter Try.func30, Try.ntmps30
    go_wp2_with fail
    go_loop [11] (fun i => i = .int .i64 0) (fun _ => 0)
    case atStart => rfl
    case round =>
      subst hrel
      go_wp2_with fail
      go_ret
      exact ⟨rfl, Below.refl _ _⟩
  | mk op a n s set len kid ih =>
    intro w v h
    simp only [X.len, X.kid] at h
    obtain ⟨p, cap, rfl, hlen, hat⟩ := h.at
    unfold maxLen at hlen
    have HAT : Hid (∀ i, i < len → ∃ b o sv u, p = some ⟨b, o, none⟩ ∧ Head6 w b (o + i * 6) (kid i) sv u ∧ (kid i).At 0 w sv u) := hat
    have IH : Hid (∀ i, DotsAt (kid i)) := ih
    obtain ⟨f, hf⟩ : ∃ f : Nat → Bool, f = fun i => !((dotsX (kid i) && (decide ((i : Int) = 0) || !decide ((i : Int) = (len : Int) - 1))) || !dotsB (kid i)) := ⟨_, rfl⟩
    have HE : Hid (dotsB (.mk op a n s set len kid) = allX f len) := by show _ = _; rw [hf]; rfl
    have HF : Hid (∀ i, f i = !((dotsX (kid i) && (decide ((i : Int) = 0) || !decide ((i : Int) = (len : Int) - 1))) || !dotsB (kid i))) := fun i => by rw [hf]
    generalize dotsB (.mk op a n s set len kid) = r at *
    clear h hat ih hf
    go_enter Try.func30, Try.ntmps30
    go_wp2_with fail
    go_loopw [11] (fun i wr => ∃ (k : Nat), i = .int .i64 k ∧ k ≤ len ∧ (∀ j, j < k → f j = true) ∧ Below w.heap.size w wr) (fun i _ => len - (intOf i).toNat)
    case atStart => exact ⟨0, rfl, Nat.zero_le _, fun j hj => absurd hj (Nat.not_lt_zero _), Below.refl _ _⟩
    case round =>
      obtain ⟨k, rfl, hk, hall, hbel⟩ := hrel
      have HALL : Hid (∀ j, j < k → f j = true) := hall
      have HB : Hid (Below w.heap.size w wr) := hbel
      clear hall hbel
      by_cases hlt : (k : Int) < len
      · obtain ⟨b, o, su, u, hp, hd, hin⟩ := HAT.out k (by omega)
        subst hp
        obtain ⟨c0, c1, c2, c3, c4, c5⟩ := hd.below HB.out
        obtain ⟨pu, cu, eu⟩ := hin.xs.shape
        obtain ⟨ps, cs, es⟩ := hin.sets.shape
        subst eu es
        have N0 : Hid (Six (wr.alloc (.cells #[.int .i64 (kid k).op, .int .i64 (kid k).at_, .int .i64 (kid k).n, .string (kid k).s, .slice ps (kid k).set.length cs, .slice pu (kid k).len cu] 35)) wr.heap.size (kid k).op (kid k).at_ (kid k).n (kid k).s (.slice ps (kid k).set.length cs) (.slice pu (kid k).len cu) 35 ∧ Below w.heap.size w (wr.alloc (.cells #[.int .i64 (kid k).op, .int .i64 (kid k).at_, .int .i64 (kid k).n, .string (kid k).s, .slice ps (kid k).set.length cs, .slice pu (kid k).len cu] 35))) :=
          ⟨heap_alloc_new wr _, HB.out.trans ((newx wr _).mono HB.out.size)⟩
        have HIN : Hid (XsAt 0 w (kid k).len (kid k).kid (.slice pu (kid k).len cu)) := hin.xs
        clear hd hin
        go_wp2_with fail
        refine (is_dots (kid k) _ _ _).mono ?_
        rintro e w1 ⟨rfl, hb1⟩
        have N1 : Hid (Six w1 wr.heap.size (kid k).op (kid k).at_ (kid k).n (kid k).s (.slice ps (kid k).set.length cs) (.slice pu (kid k).len cu) 35 ∧ Below w.heap.size w w1) := ⟨N0.out.1.below hb1, N0.out.2.trans (hb1.mono N0.out.2.size)⟩
        clear hb1 N0 c0 c1 c2 c3 c4 c5
        generalize wr.heap.size = gN at *
        obtain ⟨c0, c1, c2, c3, c4, c5⟩ := N1.out.1.cells
        have HFK : Hid (f k = !((dotsX (kid k) && (decide ((k : Int) = 0) || !decide ((k : Int) = (len : Int) - 1))) || !dotsB (kid k))) := HF.out k
        have HNO : Hid (f k = false → r = false) := fun h => by rw [HE.out]; exact allX_false (by omega) h
        clear HF HE HAT
        by_cases hbad : (dotsX (kid k) && (decide ((k : Int) = 0) || !decide ((k : Int) = (len : Int) - 1))) = true
        · have HR : Hid (r = false) := HNO.out (by rw [HFK.out, hbad]; rfl)
          rw [Bool.and_eq_true, Bool.or_eq_true] at hbad
          obtain ⟨hb1, hb2⟩ := hbad
          rw [hb1]
          by_cases h0 : (k : Int) = 0
          · have e0 : ((k : Int) == 0) = true := by simpa using h0
            clear hb2 h0 hb1
            go_wp2_with fail
            go_ret
            exact ⟨by rw [HR.out]; rfl, N1.out.2⟩
          · have e0 : ((k : Int) == 0) = false := by simpa using h0
            have h1 : ¬ (k : Int) = (len : Int) - 1 := by
              rcases hb2 with h | h
              · exact absurd (of_decide_eq_true h) h0
              · simpa using h
            have e1 : ((k : Int) != (len : Int) - 1) = true := by simpa using h1
            clear hb2 h0 hb1 h1
            go_wp2_with fail
            go_ret
            exact ⟨by rw [HR.out]; rfl, N1.out.2⟩
        · have HFK2 : Hid (f k = dotsB (kid k)) := by show _ = _; rw [HFK.out, Bool.eq_false_iff.2 hbad]; cases dotsB (kid k) <;> rfl
          clear HFK
          have hcase : dotsX (kid k) = false ∨ (dotsX (kid k) = true ∧ ((k : Int) == 0) = false ∧ ((k : Int) != (len : Int) - 1) = false) := by
            cases hdd : dotsX (kid k)
            · exact .inl rfl
            · refine .inr ⟨rfl, ?_, ?_⟩
              · rw [hdd] at hbad
                simp at hbad
                simpa using hbad.1
              · rw [hdd] at hbad
                simp at hbad
                simpa using hbad.2
          clear hbad
          rcases hcase with hdd | ⟨hdd, e0, e1⟩
          all_goals
            rw [hdd]
            go_wp2_with fail
            refine (IH.out k w1 _ (HIN.out.below N1.out.2)).mono ?_
            rintro e w2 ⟨rfl, hb2⟩
            have HB2 : Hid (Below w.heap.size w w2) := N1.out.2.trans (hb2.mono N1.out.2.size)
            clear hb2
            cases hq : dotsB (kid k)
            · have HR : Hid (r = false) := HNO.out (by rw [HFK2.out, hq])
              go_wp2_with fail
              go_ret
              exact ⟨by rw [HR.out]; rfl, HB2.out⟩
            · have HA2 : Hid (∀ j, j < k + 1 → f j = true) := fun j hj => by
                rcases Nat.lt_or_ge j k with h | h
                · exact HALL.out j h
                · have : j = k := by omega
                  rw [this, HFK2.out, hq]
              go_wp2_with fail
              go_roundw
              case rel => exact ⟨k + 1, by go_num, by omega, HA2.out, HB2.out⟩
              case measure => simp [intOf]; omega
      · have hke : k = len := by omega
        subst hke
        have HR : Hid (r = true) := by show _ = _; rw [HE.out, allX_true]; exact HALL.out
        go_wp2_with fail
        go_ret
        exact ⟨by rw [HR.out]; rfl, HB.out⟩
end Go.Proofs.Ytaflnjhknnnaoaa
