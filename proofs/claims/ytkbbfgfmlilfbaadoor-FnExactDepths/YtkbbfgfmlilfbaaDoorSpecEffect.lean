/- spec.Effect at every op: how many values it takes, and how many it puts. No conditions. Written by wip/tools/mkeffect.py. -/
import Derived.Test.YtkbbfgfmlilfbaaDoorRows
import Derived.Test.YtkbbfgfmlilfbaaDoorVerP
import Derived.WalkKit
import Derived.ProofKit
namespace Go.Proofs.YtkbbfgfmlilfbaaDoor
open Go.ChangeShapes Go.WideShapes Go.ChangeAt Go.RowKit

set_option maxRecDepth 100000 in
set_option maxHeartbeats 8000000 in
theorem spec_effect (q : O3) (w : World) : Calls Tryd.prog 6 #[.agg #[.int .i64 q.c, .int .i64 q.n, .int .i64 q.m]] w fun e w' => e = .returned (.tuple #[.int .i64 (takesO q), .int .i64 (putsO q)]) ∧ Below w.heap.size w w' := by
  obtain ⟨c, n, m⟩ := q
  simp only
  obtain ⟨ta, hta⟩ : ∃ ta, ta = takesO ⟨c, n, m⟩ := ⟨_, rfl⟩
  obtain ⟨pu, hpu⟩ : ∃ pu, pu = putsO ⟨c, n, m⟩ := ⟨_, rfl⟩
  rw [← hta, ← hpu]
  have nb1 := newb w (.cells #[.int .i64 c, .int .i64 n, .int .i64 m] 26)
  have HB : Hid (Below w.heap.size w (w.alloc (.cells #[.int .i64 c, .int .i64 n, .int .i64 m] 26))) := nb1
  clear nb1
  by_cases h1 : c = 1
  · subst h1
    have HT : Hid (ta = takesO ⟨1, n, m⟩ ∧ pu = putsO ⟨1, n, m⟩) := ⟨hta, hpu⟩
    clear hta hpu
    go_enter Tryd.func6, Tryd.ntmps6
    go_wp2_with fail
    go_ret2
    exact ⟨by rw [HT.out.1, HT.out.2]; rfl, HB.out⟩
  by_cases h2 : c = 2
  · subst h2
    have HT : Hid (ta = takesO ⟨2, n, m⟩ ∧ pu = putsO ⟨2, n, m⟩) := ⟨hta, hpu⟩
    clear hta hpu h1
    go_enter Tryd.func6, Tryd.ntmps6
    go_wp2_with fail
    go_ret2
    exact ⟨by rw [HT.out.1, HT.out.2]; rfl, HB.out⟩
  by_cases h3 : c = 3
  · subst h3
    have HT : Hid (ta = takesO ⟨3, n, m⟩ ∧ pu = putsO ⟨3, n, m⟩) := ⟨hta, hpu⟩
    clear hta hpu h1 h2
    go_enter Tryd.func6, Tryd.ntmps6
    go_wp2_with fail
    go_ret2
    exact ⟨by rw [HT.out.1, HT.out.2]; rfl, HB.out⟩
  by_cases h4 : c = 4
  · subst h4
    have HT : Hid (ta = takesO ⟨4, n, m⟩ ∧ pu = putsO ⟨4, n, m⟩) := ⟨hta, hpu⟩
    clear hta hpu h1 h2 h3
    go_enter Tryd.func6, Tryd.ntmps6
    go_wp2_with fail
    go_ret2
    exact ⟨by rw [HT.out.1, HT.out.2]; rfl, HB.out⟩
  by_cases h5 : c = 5
  · subst h5
    have HT : Hid (ta = takesO ⟨5, n, m⟩ ∧ pu = putsO ⟨5, n, m⟩) := ⟨hta, hpu⟩
    clear hta hpu h1 h2 h3 h4
    go_enter Tryd.func6, Tryd.ntmps6
    go_wp2_with fail
    go_ret2
    exact ⟨by rw [HT.out.1, HT.out.2]; rfl, HB.out⟩
  by_cases h6 : c = 6
  · subst h6
    have HT : Hid (ta = takesO ⟨6, n, m⟩ ∧ pu = putsO ⟨6, n, m⟩) := ⟨hta, hpu⟩
    clear hta hpu h1 h2 h3 h4 h5
    go_enter Tryd.func6, Tryd.ntmps6
    go_wp2_with fail
    go_ret2
    exact ⟨by rw [HT.out.1, HT.out.2]; rfl, HB.out⟩
  by_cases h7 : c = 7
  · subst h7
    have HT : Hid (ta = takesO ⟨7, n, m⟩ ∧ pu = putsO ⟨7, n, m⟩) := ⟨hta, hpu⟩
    clear hta hpu h1 h2 h3 h4 h5 h6
    go_enter Tryd.func6, Tryd.ntmps6
    go_wp2_with fail
    go_ret2
    exact ⟨by rw [HT.out.1, HT.out.2]; rfl, HB.out⟩
  by_cases h8 : c = 8
  · subst h8
    have HT : Hid (ta = takesO ⟨8, n, m⟩ ∧ pu = putsO ⟨8, n, m⟩) := ⟨hta, hpu⟩
    clear hta hpu h1 h2 h3 h4 h5 h6 h7
    go_enter Tryd.func6, Tryd.ntmps6
    go_wp2_with fail
    go_ret2
    exact ⟨by rw [HT.out.1, HT.out.2]; rfl, HB.out⟩
  by_cases h9 : c = 9
  · subst h9
    have HT : Hid (ta = takesO ⟨9, n, m⟩ ∧ pu = putsO ⟨9, n, m⟩) := ⟨hta, hpu⟩
    clear hta hpu h1 h2 h3 h4 h5 h6 h7 h8
    go_enter Tryd.func6, Tryd.ntmps6
    go_wp2_with fail
    go_ret2
    exact ⟨by rw [HT.out.1, HT.out.2]; rfl, HB.out⟩
  by_cases h10 : c = 10
  · subst h10
    have HT : Hid (ta = takesO ⟨10, n, m⟩ ∧ pu = putsO ⟨10, n, m⟩) := ⟨hta, hpu⟩
    clear hta hpu h1 h2 h3 h4 h5 h6 h7 h8 h9
    go_enter Tryd.func6, Tryd.ntmps6
    go_wp2_with fail
    go_ret2
    exact ⟨by rw [HT.out.1, HT.out.2]; rfl, HB.out⟩
  by_cases h11 : c = 11
  · subst h11
    have HT : Hid (ta = takesO ⟨11, n, m⟩ ∧ pu = putsO ⟨11, n, m⟩) := ⟨hta, hpu⟩
    clear hta hpu h1 h2 h3 h4 h5 h6 h7 h8 h9 h10
    go_enter Tryd.func6, Tryd.ntmps6
    go_wp2_with fail
    go_ret2
    exact ⟨by rw [HT.out.1, HT.out.2]; rfl, HB.out⟩
  by_cases h12 : c = 12
  · subst h12
    have HT : Hid (ta = takesO ⟨12, n, m⟩ ∧ pu = putsO ⟨12, n, m⟩) := ⟨hta, hpu⟩
    clear hta hpu h1 h2 h3 h4 h5 h6 h7 h8 h9 h10 h11
    go_enter Tryd.func6, Tryd.ntmps6
    go_wp2_with fail
    go_ret2
    exact ⟨by rw [HT.out.1, HT.out.2]; rfl, HB.out⟩
  by_cases h13 : c = 13
  · subst h13
    have HT : Hid (ta = takesO ⟨13, n, m⟩ ∧ pu = putsO ⟨13, n, m⟩) := ⟨hta, hpu⟩
    clear hta hpu h1 h2 h3 h4 h5 h6 h7 h8 h9 h10 h11 h12
    go_enter Tryd.func6, Tryd.ntmps6
    go_wp2_with fail
    go_ret2
    exact ⟨by rw [HT.out.1, HT.out.2]; rfl, HB.out⟩
  by_cases h14 : c = 14
  · subst h14
    have HT : Hid (ta = takesO ⟨14, n, m⟩ ∧ pu = putsO ⟨14, n, m⟩) := ⟨hta, hpu⟩
    clear hta hpu h1 h2 h3 h4 h5 h6 h7 h8 h9 h10 h11 h12 h13
    go_enter Tryd.func6, Tryd.ntmps6
    go_wp2_with fail
    go_ret2
    exact ⟨by rw [HT.out.1, HT.out.2]; rfl, HB.out⟩
  by_cases h15 : c = 15
  · subst h15
    have HT : Hid (ta = takesO ⟨15, n, m⟩ ∧ pu = putsO ⟨15, n, m⟩) := ⟨hta, hpu⟩
    clear hta hpu h1 h2 h3 h4 h5 h6 h7 h8 h9 h10 h11 h12 h13 h14
    go_enter Tryd.func6, Tryd.ntmps6
    go_wp2_with fail
    go_ret2
    exact ⟨by rw [HT.out.1, HT.out.2]; rfl, HB.out⟩
  by_cases h16 : c = 16
  · subst h16
    have HT : Hid (ta = takesO ⟨16, n, m⟩ ∧ pu = putsO ⟨16, n, m⟩) := ⟨hta, hpu⟩
    clear hta hpu h1 h2 h3 h4 h5 h6 h7 h8 h9 h10 h11 h12 h13 h14 h15
    go_enter Tryd.func6, Tryd.ntmps6
    go_wp2_with fail
    go_ret2
    exact ⟨by rw [HT.out.1, HT.out.2]; rfl, HB.out⟩
  by_cases h17 : c = 17
  · subst h17
    have HT : Hid (ta = takesO ⟨17, n, m⟩ ∧ pu = putsO ⟨17, n, m⟩) := ⟨hta, hpu⟩
    clear hta hpu h1 h2 h3 h4 h5 h6 h7 h8 h9 h10 h11 h12 h13 h14 h15 h16
    go_enter Tryd.func6, Tryd.ntmps6
    go_wp2_with fail
    go_ret2
    exact ⟨by rw [HT.out.1, HT.out.2]; rfl, HB.out⟩
  by_cases h18 : c = 18
  · subst h18
    have HT : Hid (ta = takesO ⟨18, n, m⟩ ∧ pu = putsO ⟨18, n, m⟩) := ⟨hta, hpu⟩
    clear hta hpu h1 h2 h3 h4 h5 h6 h7 h8 h9 h10 h11 h12 h13 h14 h15 h16 h17
    go_enter Tryd.func6, Tryd.ntmps6
    go_wp2_with fail
    go_ret2
    exact ⟨by rw [HT.out.1, HT.out.2]; rfl, HB.out⟩
  by_cases h19 : c = 19
  · subst h19
    have HT : Hid (ta = takesO ⟨19, n, m⟩ ∧ pu = putsO ⟨19, n, m⟩) := ⟨hta, hpu⟩
    clear hta hpu h1 h2 h3 h4 h5 h6 h7 h8 h9 h10 h11 h12 h13 h14 h15 h16 h17 h18
    go_enter Tryd.func6, Tryd.ntmps6
    go_wp2_with fail
    go_ret2
    exact ⟨by rw [HT.out.1, HT.out.2]; rfl, HB.out⟩
  by_cases h20 : c = 20
  · subst h20
    have HT : Hid (ta = takesO ⟨20, n, m⟩ ∧ pu = putsO ⟨20, n, m⟩) := ⟨hta, hpu⟩
    clear hta hpu h1 h2 h3 h4 h5 h6 h7 h8 h9 h10 h11 h12 h13 h14 h15 h16 h17 h18 h19
    go_enter Tryd.func6, Tryd.ntmps6
    go_wp2_with fail
    go_ret2
    exact ⟨by rw [HT.out.1, HT.out.2]; rfl, HB.out⟩
  by_cases h21 : c = 21
  · subst h21
    have HT : Hid (ta = takesO ⟨21, n, m⟩ ∧ pu = putsO ⟨21, n, m⟩) := ⟨hta, hpu⟩
    clear hta hpu h1 h2 h3 h4 h5 h6 h7 h8 h9 h10 h11 h12 h13 h14 h15 h16 h17 h18 h19 h20
    go_enter Tryd.func6, Tryd.ntmps6
    go_wp2_with fail
    go_ret2
    exact ⟨by rw [HT.out.1, HT.out.2]; rfl, HB.out⟩
  have HT : Hid (ta = 0 ∧ pu = 0) := by
    rw [hta, hpu]
    unfold takesO putsO
    refine ⟨?_, ?_⟩
    · simp only
      rw [if_neg (by omega), if_neg (by omega), if_neg (by omega)]
    · simp only
      rw [if_neg (by omega)]
  have e1 : (c == 1) = false := by simpa using h1
  have e2 : (c == 2) = false := by simpa using h2
  have e3 : (c == 3) = false := by simpa using h3
  have e4 : (c == 4) = false := by simpa using h4
  have e5 : (c == 5) = false := by simpa using h5
  have e6 : (c == 6) = false := by simpa using h6
  have e7 : (c == 7) = false := by simpa using h7
  have e8 : (c == 8) = false := by simpa using h8
  have e9 : (c == 9) = false := by simpa using h9
  have e10 : (c == 10) = false := by simpa using h10
  have e11 : (c == 11) = false := by simpa using h11
  have e12 : (c == 12) = false := by simpa using h12
  have e13 : (c == 13) = false := by simpa using h13
  have e14 : (c == 14) = false := by simpa using h14
  have e15 : (c == 15) = false := by simpa using h15
  have e16 : (c == 16) = false := by simpa using h16
  have e17 : (c == 17) = false := by simpa using h17
  have e18 : (c == 18) = false := by simpa using h18
  have e19 : (c == 19) = false := by simpa using h19
  have e20 : (c == 20) = false := by simpa using h20
  have e21 : (c == 21) = false := by simpa using h21
  clear hta hpu h1 h2 h3 h4 h5 h6 h7 h8 h9 h10 h11 h12 h13 h14 h15 h16 h17 h18 h19 h20 h21
  go_enter Tryd.func6, Tryd.ntmps6
  go_wp2_with fail
  go_ret2
  exact ⟨by rw [HT.out.1, HT.out.2]; rfl, HB.out⟩
end Go.Proofs.YtkbbfgfmlilfbaaDoor
