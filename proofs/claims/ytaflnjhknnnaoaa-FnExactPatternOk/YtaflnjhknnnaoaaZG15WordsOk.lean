/- What the program asks of a pattern is what the specification asks. No conditions. -/
import Derived.Test.YtaflnjhknnnaoaaZG14ImplOnce
import Derived.Test.YtaflnjhknnnaoaaRows
import Derived.WalkKit
import Derived.ProofKit
import Derived.Below
namespace Go.Proofs.Ytaflnjhknnnaoaa
open Go.ChangeShapes Go.WideShapes Go.ChangeAt Go.RowKit

/-- Symbols have no kids. -/
def leafS : X → Prop
  | .no => True
  | .mk op _ _ _ _ len kid => (op = 2 → len = 0) ∧ ∀ i, i < len → leafS (kid i)
/-- Names behind others. -/
def addAll (l : List (ByteArray × Int)) (a : List ByteArray × Bool) : List ByteArray × Bool := l.foldl (fun a x => addN x.1 a) a
theorem addAll_append (l m : List (ByteArray × Int)) (a : List ByteArray × Bool) : addAll (l ++ m) a = addAll m (addAll l a) := by simp [addAll]

theorem namesX_eq (t : X) : ∀ (d : Int) (a : List ByteArray × Bool), leafS t → namesX t a = addAll (namesD t d) a := by
  induction t with
  | no => intro d a _; rfl
  | mk op b n s set len kid ih =>
    intro d a hl
    obtain ⟨h1, h2⟩ := hl
    rw [namesX_mk, namesD]
    have hk : ∀ k, k ≤ len → stepsTo (fun i a => namesX (kid i) a) k a = addAll (flatTo (fun i => namesD (kid i) (kidDeep len kid d i)) k) a := by
      intro k
      induction k with
      | zero => intro _; rfl
      | succ k ihk =>
        intro hle
        simp only [stepsTo, flatTo]
        rw [addAll_append, ihk (by omega)]
        exact ih k _ _ (h2 k (by omega))
    cases hn : nameX op s
    · simp only [Bool.false_eq_true, if_false, List.nil_append]
      exact hk len (Nat.le_refl _)
    · have hop : op = 2 := by
        unfold nameX at hn
        rw [Bool.and_eq_true] at hn
        simpa using hn.1
      have hz := h1 hop
      subst hz
      simp [flatTo, addAll]

theorem inS_mem (l : List ByteArray) (s : ByteArray) : inS l s = decide (s.data.toList ∈ l.map fun x => x.data.toList) := by
  unfold inS
  rw [Bool.eq_iff_iff, List.any_eq_true, decide_eq_true_eq, List.mem_map]
  constructor
  · rintro ⟨x, hx, h⟩
    refine ⟨x, hx, ?_⟩
    have h' := eq_of_beq h
    rwa [ByteArray.toList_eq, ByteArray.toList_eq] at h'
  · rintro ⟨x, hx, h⟩
    refine ⟨x, hx, ?_⟩
    rw [ByteArray.toList_eq, ByteArray.toList_eq]
    simp [h]
theorem addAll_two (l : List (ByteArray × Int)) : ∀ (out : List ByteArray) (tw : Bool), (out.map fun x => x.data.toList).Nodup → (addAll l (out, tw)).2 = (tw || !decide ((out.map fun x => x.data.toList) ++ keysD l).Nodup) := by
  induction l with
  | nil =>
    intro out tw h
    simp [addAll, keysD, h]
  | cons x l ih =>
    intro out tw h
    have e : addAll (x :: l) (out, tw) = addAll l (addN x.1 (out, tw)) := rfl
    have ek : keysD (x :: l) = x.1.data.toList :: keysD l := rfl
    rw [e, ek]
    unfold addN
    rw [inS_mem]
    by_cases hm : x.1.data.toList ∈ out.map fun x => x.data.toList
    · have hn : ¬ ((out.map fun x => x.data.toList) ++ x.1.data.toList :: keysD l).Nodup := by
        intro h2
        rw [List.nodup_append] at h2
        exact h2.2.2 _ hm _ (by simp) rfl
      rw [decide_eq_true hm, decide_eq_false hn]
      simp only [if_true]
      rw [ih out true h]
      simp
    · rw [decide_eq_false hm]
      simp only [Bool.false_eq_true, if_false]
      have h1 : ((out ++ [x.1]).map fun x => x.data.toList).Nodup := by
        rw [List.map_append, List.nodup_append]
        refine ⟨h, by simp, fun a ha b hb e => hm ?_⟩
        simp only [List.map_cons, List.map_nil, List.mem_singleton] at hb
        rw [← hb, ← e]
        exact ha
      rw [ih _ tw h1]
      simp
theorem names_two (t : X) (hl : leafS t) : (namesX t ([], false)).2 = !decide (keysD (namesD t 0)).Nodup := by
  rw [namesX_eq t 0 _ hl, addAll_two _ [] false (by simp)]
  simp

theorem foldX_all {g : X → Nat → Option Nat} {kid : Nat → X} {left : Nat} (n : Nat) (h : (foldX g kid left n).isSome = true) : ∀ i, i < n → ∃ l, (g (kid i) l).isSome = true := by
  induction n with
  | zero => intro i hi; omega
  | succ n ih =>
    intro i hi
    rw [foldX] at h
    cases e : foldX g kid left n with
    | none => rw [e] at h; simp at h
    | some l =>
      rw [e] at h
      rcases Nat.lt_or_ge i n with h1 | h1
      · exact ih (by rw [e]; rfl) i h1
      · have : i = n := by omega
        rw [this]
        exact ⟨l, h⟩
theorem leaf_fields {t : X} (h : fieldsXB t = true) : t.op = 2 → t.len = 0 := by
  intro ho
  rw [fieldsXB_eq] at h
  unfold gB at h
  rw [if_neg (by omega), if_pos ho] at h
  simp only [Bool.and_eq_true] at h
  have := h.2.2.2.2
  simp at this
  exact this
theorem look_leaf (nest : Nat) : ∀ left len kid, (lookX nest left len kid).isSome = true → ∀ i, i < len → leafS (kid i) := by
  induction nest with
  | zero =>
    intro left len kid h i hi
    unfold lookX at h
    split at h
    · omega
    · simp at h
  | succ nest ih =>
    intro left len kid h i hi
    rw [lookX] at h
    split at h
    · simp at h
    · obtain ⟨l, hl⟩ := foldX_all len h i hi
      split at hl
      · rename_i hf
        have h1 := leaf_fields hf
        have h2 := ih l _ _ hl
        cases hk : kid i with
        | no => trivial
        | mk op a n s set len' kid' =>
          rw [hk] at h1 h2
          exact ⟨h1, h2⟩
      · simp at hl
theorem stxOk_leaf {t : X} (h : stxOkB t = true) : leafS t := by
  rw [stxOk_look] at h
  exact look_leaf 20 1500 1 (fun _ => t) h 0 (by omega)

theorem places_eq (t : X) : placesX t = dotsB t := by
  induction t with
  | no => rfl
  | mk op a n s set len kid ih =>
    rw [placesX_mk]
    show _ = allX (fun i => !((dotsX (kid i) && (decide ((i : Int) = 0) || !decide ((i : Int) = (len : Int) - 1))) || !dotsB (kid i))) len
    rw [Bool.eq_iff_iff, allX_true, allX_true]
    have hd : ∀ i, i < len → (decide ((i : Int) = 0) = decide (i = 0)) ∧ (decide ((i : Int) = (len : Int) - 1) = decide (i + 1 = len)) := fun i hi => by
      constructor <;> (rw [Bool.eq_iff_iff, decide_eq_true_eq, decide_eq_true_eq]; omega)
    constructor
    · intro h i hi
      have := h i hi
      rw [ih i] at this
      rw [(hd i hi).1, (hd i hi).2]
      unfold kidPlace at this
      cases hx : dotsX (kid i) <;> cases hy : dotsB (kid i) <;> simp_all
    · intro h i hi
      have := h i hi
      rw [ih i]
      rw [(hd i hi).1, (hd i hi).2] at this
      unfold kidPlace
      have hp : dotsX (kid i) = true → i ≠ 0 → dotsX (kid (i - 1)) = false := by
        intro hx h0
        rw [hx] at this
        have h2 := h (i - 1) (by omega)
        rw [(hd (i - 1) (by omega)).1, (hd (i - 1) (by omega)).2] at h2
        cases hy : dotsX (kid (i - 1))
        · rfl
        · rw [hy] at h2
          have : ¬ (i - 1 + 1 = len) := by omega
          simp [this] at h2
      cases hx : dotsX (kid i)
      · rw [hx] at this
        simpa using this
      · rw [hx] at this
        simp at this
        have := hp hx this.1.1
        simp_all
/-- What the program asks, in its order. -/
theorem pattern_eq (t : X) : patternB t = (stxOkB t && (dotsB (.mk 3 0 0 ⟨#[]⟩ [] 1 (fun _ => t)) && decide (keysD (namesD t 0)).Nodup)) := by
  unfold patternB
  cases h : stxOkB t
  · rfl
  · have h1 : dotsB (.mk 3 0 0 ⟨#[]⟩ [] 1 (fun _ => t)) = (!dotsX t && dotsB t) := by
      show allX (fun i => !((dotsX t && (decide ((i : Int) = 0) || !decide ((i : Int) = ((1 : Nat) : Int) - 1))) || !dotsB t)) 1 = _
      simp [allX]
    rw [names_two t (stxOk_leaf h), h1, places_eq]
    cases decide (keysD (namesD t 0)).Nodup <;> cases dotsX t <;> cases dotsB t <;> rfl
end Go.Proofs.Ytaflnjhknnnaoaa

/- WordOk of both packages at every int: the same answers, the world as it was. No conditions. -/
namespace Go.Proofs.Ytaflnjhknnnaoaa
open Go.ChangeShapes Go.WideShapes Go.ChangeAt Go.RowKit

def wokB (n : Int) : Bool := decide (-1073741824 ≤ n ∧ n ≤ 1073741823)

theorem wokB_yes {n : Int} (h0 : -1073741824 ≤ n) (h1 : n ≤ 1073741823) : wokB n = true := by simp [wokB, h0, h1]
theorem wokB_lo {n : Int} (h : ¬ -1073741824 ≤ n) : wokB n = false := by unfold wokB; rw [decide_eq_false_iff_not]; omega
theorem wokB_hi {n : Int} (h : ¬ n ≤ 1073741823) : wokB n = false := by unfold wokB; rw [decide_eq_false_iff_not]; omega
theorem ret_int {k : IntKind} {a b : Int} (h : a = b) : Ending.returned (.int k a) = .returned (.int k b) := by rw [h]
theorem ret_bool {a b : Bool} (h : a = b) : Ending.returned (.bool a) = .returned (.bool b) := by rw [h]

theorem spec_wordOk (n : Int) (w : World) : Calls Try.prog 55 #[.int .i64 n] w fun e w' => e = .returned (.bool (wokB n)) ∧ w' = w := by
  by_cases c1 : -1073741824 ≤ n
  · by_cases c2 : n ≤ 1073741823
    · have H : Hid (wokB n = true) := wokB_yes c1 c2
      go_enter Try.func55, Try.ntmps55
      go_wp2
      go_ret
      exact ⟨ret_bool (by rw [H.out]), rfl⟩
    · have H : Hid (wokB n = false) := wokB_hi c2
      go_enter Try.func55, Try.ntmps55
      go_wp2
      go_ret
      exact ⟨ret_bool (by rw [H.out]), rfl⟩
  · have H : Hid (wokB n = false) := wokB_lo c1
    go_enter Try.func55, Try.ntmps55
    go_wp2
    go_ret
    exact ⟨ret_bool (by rw [H.out]), rfl⟩

theorem impl_wordOk (n : Int) (w : World) : Calls Try.prog 47 #[.int .i64 n] w fun e w' => e = .returned (.bool (wokB n)) ∧ w' = w := by
  by_cases c1 : -1073741824 ≤ n
  · by_cases c2 : n ≤ 1073741823
    · have H : Hid (wokB n = true) := wokB_yes c1 c2
      go_enter Try.func47, Try.ntmps47
      go_wp2
      go_ret
      exact ⟨ret_bool (by rw [H.out]), rfl⟩
    · have H : Hid (wokB n = false) := wokB_hi c2
      go_enter Try.func47, Try.ntmps47
      go_wp2
      go_ret
      exact ⟨ret_bool (by rw [H.out]), rfl⟩
  · have H : Hid (wokB n = false) := wokB_lo c1
    go_enter Try.func47, Try.ntmps47
    go_wp2
    go_ret
    exact ⟨ret_bool (by rw [H.out]), rfl⟩

end Go.Proofs.Ytaflnjhknnnaoaa
