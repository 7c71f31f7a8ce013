/- impl.beginsNumber and impl.SymOk at every text. Condition: the text has at most 2^20 bytes. -/
import Derived.Test.YtlclfmjpnchmbaaGreatZG35ImplSym
import Derived.Test.YtlclfmjpnchmbaaGreatZG10StxOkP
import Derived.Test.YtlclfmjpnchmbaaGreatZG11ImplDots
import Derived.Test.YtlclfmjpnchmbaaGreatZG6SzStx
import Derived.Test.YtlclfmjpnchmbaaGreatZG20SpecDig
import Derived.Test.YtlclfmjpnchmbaaGreatZG18IntsImpl
import Derived.Test.YtlclfmjpnchmbaaGreatRows
import Derived.WalkKit
import Derived.ProofKit
import Derived.Below
import Derived.Deep.QuietTactic
import Derived.BigQuiet
namespace Go.Proofs.YtlclfmjpnchmbaaGreat
open Go.ChangeShapes Go.WideShapes Go.ChangeAt Go.RowKit

set_option maxHeartbeats 1000000 in
theorem impl_begins (s : ByteArray) (w : World) : Calls Tryz.prog 70 #[.string s] w fun e w' => e = .returned (.bool (begNum s.data.toList)) ∧ w' = w := by
  have HC : Hid (Calls Tryz.prog 83 #[.string s, .string ⟨#[45]⟩] w fun e w' => e = .returned (.string ⟨(Lib.trimPrefix s.data.toList [45]).toArray⟩) ∧ w' = w) := Tryz.strings_TrimPrefix s ⟨#[45]⟩ w
  have HB : Hid (begNum s.data.toList = match Lib.trimPrefix s.data.toList [45] with | [] => false | c :: _ => digB c) := begNum_rest s
  generalize Lib.trimPrefix s.data.toList [45] = l at HC HB
  cases l with
  | nil =>
    have HN : Hid (begNum s.data.toList = false) := HB
    clear HB
    go_enter Tryz.func70, Tryz.ntmps70
    go_wp2_with (go_at_call 83; refine HC.out.mono ?_; rintro e w1 ⟨rfl, rfl⟩)
    go_ret
    exact ⟨by rw [HN.out]; rfl, rfl⟩
  | cons c r =>
    have HN : Hid (begNum s.data.toList = digB c) := HB
    clear HB
    generalize hq : (⟨(c :: r).toArray⟩ : ByteArray) = q at HC
    have hq0 : 0 < q.size := by subst hq; show 0 < (c :: r).toArray.size; simp
    have hqc : q[0]'hq0 = c := by subst hq; rfl
    have hne : (q.toList == ([] : List UInt8)) = false := by rw [ByteArray.toList_eq q, ← hq]; rfl
    have hq1 : (0 : Int) < q.size := by omega
    have hcb : c.toNat < 256 := c.toNat_lt
    clear hq
    go_enter Tryz.func70, Tryz.ntmps70
    go_wp2_with (first | (go_at_call 83; refine HC.out.mono ?_; rintro e w1 ⟨rfl, rfl⟩) | (go_at_call 84; refine (impl_digit c.toNat c.toNat_lt _).mono ?_; rintro e w1 ⟨rfl, rfl⟩))
    go_ret
    exact ⟨by rw [HN.out]; simp, rfl⟩

theorem ofNat_toNat (c : UInt8) : UInt8.ofNat c.toNat = c := by simp

set_option maxHeartbeats 1000000 in
theorem impl_sym (s : ByteArray) (hs : s.size ≤ 1048576) (w : World) : Calls Tryz.prog 56 #[.string s] w fun e w' => e = .returned (.bool (symB s.data.toList)) ∧ Below w.heap.size w w' := by
  have hl : s.data.toList.length = s.size := by simp
  by_cases h0 : s.size = 0
  · have HN : Hid (symB s.data.toList = false) := symB_len (by omega)
    have hn : s.data.toList = [] := List.eq_nil_of_length_eq_zero (by omega)
    have hne : (s.toList == ([] : List UInt8)) = true := by rw [ByteArray.toList_eq s, hn]; rfl
    clear hl hn h0
    go_enter Tryz.func56, Tryz.ntmps56
    go_wp2
    go_ret
    exact ⟨by rw [HN.out]; rfl, Below.refl _ _⟩
  have hne : (s.toList == ([] : List UInt8)) = false := by
    rw [ByteArray.toList_eq s, beq_eq_false_iff_ne]
    intro e; rw [e] at hl; simp at hl; omega
  by_cases h12 : (12 : Int) < s.size
  · have HN : Hid (symB s.data.toList = false) := symB_len (by omega)
    clear hl
    go_enter Tryz.func56, Tryz.ntmps56
    go_wp2
    go_ret
    exact ⟨by rw [HN.out]; rfl, Below.refl _ _⟩
  cases hb : begNum s.data.toList with
  | true =>
    have HN : Hid (symB s.data.toList = false) := symB_beg hb
    clear hl
    go_enter Tryz.func56, Tryz.ntmps56
    go_wp2_with (go_at_call 70; refine (impl_begins s _).mono ?_; rintro e w1 ⟨rfl, rfl⟩)
    go_ret
    exact ⟨by rw [HN.out]; rfl, Below.refl _ _⟩
  | false =>
    have HB : Hid (begNum s.data.toList = false) := hb
    clear hl
    go_enter Tryz.func56, Tryz.ntmps56
    go_wp2_with (go_at_call 70; refine (impl_begins s _).mono ?_; rintro e w1 ⟨rfl, rfl⟩)
    clear hb hne
    go_loopw [4] (fun _ w' => ∃ pos : Nat, pos ≤ s.size ∧ w' = w1.iter s pos ∧ ∀ c ∈ s.data.toList.take pos, nameB c = true) (fun _ w' => s.size - w'.iterPos w1.heap.size)
    case atStart => exact ⟨0, Nat.zero_le _, rfl, by simp⟩
    case round =>
      obtain ⟨pos, hpos, rfl, hd⟩ := hrel
      have HD : Hid (∀ c ∈ s.data.toList.take pos, nameB c = true) := hd
      clear hd
      by_cases hp : pos < s.size
      · have HT : Hid (s.data.toList.take (pos + 1) = s.data.toList.take pos ++ [s[pos]]) := take_snoc s pos hp
        have HM : Hid (s[pos] ∈ s.data.toList) := byte_mem s pos hp
        by_cases ha : (s[pos]).toNat < 128
        · have hnx : ∀ ty, (Instr.next (.pointer (some ⟨w1.heap.size, 0, none⟩)) true ty).run Tryz.prog (w1.iter s pos) = _ := fun ty => run_next_ascii w1 s pos ty hp ha
          cases hn : nameB s[pos] with
          | true =>
            have HN : Hid (nameB s[pos] = true) := hn
            have HC : Hid (∀ w : World, Calls Tryz.prog 71 #[.int .i32 (s[pos]).toNat] w fun e w' => e = .returned (.bool true) ∧ w' = w) := fun w => by
              have := name_low (s[pos]).toNat ha w
              rw [ofNat_toNat, hn] at this
              exact this
            clear hn
            go_wp2_with (go_at_call 71; refine (HC.out _).mono ?_; rintro e w2 ⟨rfl, rfl⟩)
            go_roundw
            case rel =>
              refine ⟨pos + 1, by omega, rfl, ?_⟩
              rw [HT.out]
              intro c hc
              rcases List.mem_append.1 hc with hc | hc
              · exact HD.out c hc
              · simp only [List.mem_singleton] at hc
                subst hc
                exact HN.out
            case measure => simp; omega
          | false =>
            have HN : Hid (symB s.data.toList = false) := symB_bad s[pos] HM.out hn
            have HC : Hid (∀ w : World, Calls Tryz.prog 71 #[.int .i32 (s[pos]).toNat] w fun e w' => e = .returned (.bool false) ∧ w' = w) := fun w => by
              have := name_low (s[pos]).toNat ha w
              rw [ofNat_toNat, hn] at this
              exact this
            clear hn
            go_wp2_with (go_at_call 71; refine (HC.out _).mono ?_; rintro e w2 ⟨rfl, rfl⟩)
            go_ret
            exact ⟨by rw [HN.out]; rfl, below_iter _ _ _⟩
        · have hnx : ∀ ty, (Instr.next (.pointer (some ⟨w1.heap.size, 0, none⟩)) true ty).run Tryz.prog (w1.iter s pos) = _ := fun ty => run_next_any w1 s pos ty hp
          have HN : Hid (symB s.data.toList = false) := symB_bad s[pos] HM.out (name_high _ (by omega))
          have HV : Hid ((Utf8.decode s pos).1 ≤ 1114111 ∧ Utf8.valid ((Utf8.decode s pos).1 : Int) = true ∧ 128 ≤ (Utf8.decode s pos).1) := by
            obtain ⟨h1, h2⟩ := decode_valid s pos hp (by omega)
            exact ⟨h1, h2, (decode_high s pos hp (by omega)).1⟩
          go_wp2_with (go_at_call 71; refine (name_high_call (Utf8.decode s pos).1 HV.out.2.2 HV.out.1 HV.out.2.1 _).mono ?_; rintro e w2 ⟨rfl, hb2⟩)
          go_ret
          exact ⟨by rw [HN.out]; rfl, (below_iter _ _ _).trans (hb2.mono (by simp [World.iter]))⟩
      · have hnx : ∀ ty, (Instr.next (.pointer (some ⟨w1.heap.size, 0, none⟩)) true ty).run Tryz.prog (w1.iter s pos) = _ := fun ty => run_next_end w1 s pos ty hp
        have hpe : pos = s.size := by omega
        have HN : Hid (symB s.data.toList = true) := by
          have hl : s.data.toList.length = s.size := by simp
          refine symB_yes (by omega) (by omega) HB.out ?_
          have := HD.out
          rw [hpe, List.take_of_length_le (by simp)] at this
          exact this
        clear hpe
        go_wp2
        go_ret
        exact ⟨by rw [HN.out]; rfl, below_iter _ _ _⟩
end Go.Proofs.YtlclfmjpnchmbaaGreat

/- impl.stxFieldsOk. Condition: the text has at most 2^20 bytes, the set at most 2^22 numbers. -/
namespace Go.Proofs.YtlclfmjpnchmbaaGreat
open Go.ChangeShapes Go.WideShapes Go.ChangeAt Go.RowKit

set_option maxRecDepth 100000 in
set_option maxHeartbeats 8000000 in
theorem fields_okX (t : X) (w : World) (sp p : Option Addr) (sc cap : Nat) (hs : t.s.size ≤ 1048576) (hset : Rd w (.slice sp t.set.length sc) t.set) (hsl : t.set.length ≤ 4194304) :
    Calls Tryz.prog 41 #[.agg #[.int .i64 t.op, .int .i64 t.at_, .int .i64 t.n, .string t.s, .slice sp t.set.length sc, .slice p t.len cap]] w fun e w' => e = .returned (.bool (fieldsXB t)) ∧ Below w.heap.size w w' := by
  have HW : Hid (∀ w, Calls Tryz.prog 55 #[.int .i64 t.n] w fun e w' => e = .returned (.bool (wokB t.n)) ∧ w' = w) := fun w => impl_wordOk t.n w
  have HS : Hid (∀ w, Calls Tryz.prog 56 #[.string t.s] w fun e w' => e = .returned (.bool (symB t.s.data.toList)) ∧ Below w.heap.size w w') := fun w => impl_sym t.s hs w
  have HT : Hid (∀ w1, Below w.heap.size w w1 → Calls Tryz.prog 57 #[.slice sp t.set.length sc] w1 fun e w' => e = .returned (.bool (setB t.set)) ∧ Below w1.heap.size w1 w') := fun w1 hb => (impl_setok t.set _ w1 (hset.below hb) hsl).mono (fun _ _ h => ⟨h.1, by rw [h.2]; exact Below.refl _ _⟩)
  have HR : Hid (fieldsXB t = gB t.at_ t.op (wokB t.n) (symB t.s.data.toList) (t.s.toList == []) (t.n == 0) ((t.len : Int) == 0) ((t.set.length : Int) == 0) (setB t.set)) := fieldsXB_eq t
  clear hset hsl hs
  generalize fieldsXB t = R at *
  generalize symB t.s.data.toList = sb at *
  generalize wokB t.n = wb at *
  generalize setB t.set = st at *
  generalize t.set.length = sl at *
  generalize t.op = op at *
  generalize t.at_ = a at *
  generalize t.n = n at *
  generalize t.s = s at *
  generalize t.len = len at *
  rcases Int.lt_or_le a 0 with ha | ha
  · have HR2 : Hid (R = false) := HR.out.trans (by unfold gB; rw [decide_eq_false (by omega)]; rfl)
    have HB : Hid (∀ o1, Below w.heap.size w (w.alloc o1)) := fun o1 => newx w _
    clear HR
    go_enter Tryz.func41, Tryz.ntmps41
    go_wp2_with fail
    go_ret
    exact ⟨ret_bool HR2.out.symm, HB.out _⟩
  · have HRA : Hid (R = (if op = 1 then wb && ((s.toList == []) && (((sl : Int) == 0) && ((len : Int) == 0))) else if op = 2 then sb && ((n == 0) && (st && ((len : Int) == 0))) else if op = 3 then (n == 0) && ((s.toList == []) && ((sl : Int) == 0)) else false)) := HR.out.trans (by unfold gB; rw [decide_eq_true ha, Bool.true_and])
    clear HR
    go_enter Tryz.func41, Tryz.ntmps41
    go_wp2_with fail
    refine (part_of op a n s (.slice sp sl sc) (.slice p len cap) _).mono ?_
    rintro e w1 ⟨T, rfl, hb1, hT⟩
    have HB1 : Hid (Below w.heap.size w w1) := (newx w _).trans (hb1.mono (by simp))
    clear hb1
    rcases hT with ⟨h, rfl⟩ | ⟨h, rfl⟩ | ⟨h, rfl⟩ | ⟨⟨h1, h2, h3⟩, rfl⟩
    · have HR2 : Hid (R = (wb && ((s.toList == []) && (((sl : Int) == 0) && ((len : Int) == 0))))) := HRA.out.trans (if_pos h)
      have hta := is_numPart (.agg #[.int .i64 op, .int .i64 a, .int .i64 n, .string s, .slice sp sl sc, .slice p len cap]) w1
      have HB2 : Hid (∀ o, Below w.heap.size w (w1.alloc o)) := fun o => HB1.out.trans ((newx _ _).mono HB1.out.size)
      clear h HRA
      cases he : (s.toList == ([] : List UInt8)) <;> cases hz : ((sl : Int) == 0) <;> cases hl : ((len : Int) == 0)
      all_goals
        rw [he, hz, hl] at HR2
        cases wb
        all_goals
          go_wp2_with ((go_at_call 55; refine (HW.out _).mono ?_; rintro e w2 ⟨rfl, rfl⟩))
          go_ret
          exact ⟨ret_bool HR2.out.symm, HB2.out _⟩
    · have HR2 : Hid (R = (sb && ((n == 0) && (st && ((len : Int) == 0))))) := HRA.out.trans ((if_neg (by omega)).trans (if_pos h))
      have hta := no_numPart (ty := 86) (by decide) (.agg #[.int .i64 op, .int .i64 a, .int .i64 n, .string s, .slice sp sl sc, .slice p len cap]) w1
      have htb := is_symPart (.agg #[.int .i64 op, .int .i64 a, .int .i64 n, .string s, .slice sp sl sc, .slice p len cap]) w1
      have hnb := newx w1 (.cells #[.int .i64 op, .int .i64 a, .int .i64 n, .string s, .slice sp sl sc, .slice p len cap] 86)
      have HB2 : Hid (Below w.heap.size w (w1.alloc (.cells #[.int .i64 op, .int .i64 a, .int .i64 n, .string s, .slice sp sl sc, .slice p len cap] 86))) := HB1.out.trans (hnb.mono HB1.out.size)
      clear h HRA hnb
      go_wp2_with fail
      refine (HS.out _).mono ?_
      rintro e w2 ⟨rfl, hb2⟩
      have hX2 : Six w2 w1.heap.size op a n s (.slice sp sl sc) (.slice p len cap) 86 := (hb2.block _ (by simp)).trans (heap_alloc_new w1 _)
      obtain ⟨q0, q1, q2, q3, q4, q5⟩ := hX2.cells
      have HX2 : Hid (Six w2 w1.heap.size op a n s (.slice sp sl sc) (.slice p len cap) 86) := hX2
      have HB3 : Hid (Below w.heap.size w w2) := HB2.out.trans (hb2.mono HB2.out.size)
      clear hb2 hX2 hta htb
      cases sb with
      | false =>
        go_wp2_with fail
        go_ret
        exact ⟨ret_bool (HR2.out.trans (by simp)).symm, HB3.out⟩
      | true =>
        cases hn : (n == 0) with
        | false =>
          rw [hn] at HR2
          go_wp2_with fail
          go_ret
          exact ⟨ret_bool (HR2.out.trans (by simp)).symm, HB3.out⟩
        | true =>
          rw [hn] at HR2
          go_wp2_with fail
          refine (HT.out _ HB3.out).mono ?_
          rintro e w3 ⟨rfl, hb3⟩
          obtain ⟨y0, y1, y2, y3, y4, y5⟩ := (HX2.out.below hb3).cells
          have HB4 : Hid (Below w.heap.size w w3) := HB3.out.trans (hb3.mono HB3.out.size)
          clear hb3 q0 q1 q2 q3 q4 q5
          cases st <;> cases hl : ((len : Int) == 0)
          all_goals
            rw [hl] at HR2
            go_wp2_with fail
            go_ret
            exact ⟨ret_bool (HR2.out.trans (by simp)).symm, HB4.out⟩
    · have HR2 : Hid (R = ((n == 0) && ((s.toList == []) && ((sl : Int) == 0)))) := HRA.out.trans ((if_neg (by omega)).trans ((if_neg (by omega)).trans (if_pos h)))
      have hta := no_numPart (ty := 88) (by decide) (.agg #[.int .i64 op, .int .i64 a, .int .i64 n, .string s, .slice sp sl sc, .slice p len cap]) w1
      have htb := no_symPart (ty := 88) (by decide) (.agg #[.int .i64 op, .int .i64 a, .int .i64 n, .string s, .slice sp sl sc, .slice p len cap]) w1
      have htc := is_listPart (.agg #[.int .i64 op, .int .i64 a, .int .i64 n, .string s, .slice sp sl sc, .slice p len cap]) w1
      have HB2 : Hid (∀ o, Below w.heap.size w (w1.alloc o)) := fun o => HB1.out.trans ((newx _ _).mono HB1.out.size)
      clear h HRA
      cases he : (s.toList == ([] : List UInt8)) <;> cases hz : ((sl : Int) == 0) <;> cases hn : (n == 0)
      all_goals
        rw [he, hz, hn] at HR2
        go_wp2_with fail
        go_ret
        exact ⟨ret_bool (HR2.out.trans (by simp)).symm, HB2.out _⟩
    · have HR2 : Hid (R = false) := HRA.out.trans ((if_neg h1).trans ((if_neg h2).trans (if_neg h3)))
      have hta := no_numPart (ty := 100) (by decide) (.agg #[.int .i64 op, .int .i64 a, .int .i64 n, .string s, .slice sp sl sc, .slice p len cap]) w1
      have htb := no_symPart (ty := 100) (by decide) (.agg #[.int .i64 op, .int .i64 a, .int .i64 n, .string s, .slice sp sl sc, .slice p len cap]) w1
      have htc := no_listPart (ty := 100) (by decide) (.agg #[.int .i64 op, .int .i64 a, .int .i64 n, .string s, .slice sp sl sc, .slice p len cap]) w1
      clear h1 h2 h3 HRA
      go_wp2_with fail
      go_ret
      exact ⟨ret_bool HR2.out.symm, HB1.out⟩
end Go.Proofs.YtlclfmjpnchmbaaGreat

/- A region that draws its order, whose operations only read and whose callees only make new memory: one walk in the text's order. No conditions of our own. -/
namespace Go.Proofs.YtlclfmjpnchmbaaGreat
open Go.ChangeShapes Go.WideShapes Go.ChangeAt Go.RowKit

/-- A world that is W but for new memory. -/
structure Later (W : World) where
  w : World
  le : Below W.heap.size W w

theorem Later.one (W : World) : Nonempty (Later W) := ⟨⟨W, Below.refl _ _⟩⟩

theorem Later.cell {W : World} (x : Later W) {a : Addr} {v : Value} (h : W.cell? a = some v) : x.w.cell? a = some v :=
  (x.le.cell (World.block_lt_of_cell? W _ h)).trans h

theorem calls_later {P : Program} {f : FuncId} {args : Array Value} {W : World} {x : Later W} {v : Value}
    (h : Calls P f args x.w fun e w' => e = .returned v ∧ Below x.w.heap.size x.w w') : Calls P f args x.w fun e w' => e = .returned v ∧ ∃ y : Later W, w' = y.w :=
  h.mono fun _ w' ⟨he, hb⟩ => ⟨he, ⟨w', x.le.trans (hb.mono x.le.size)⟩, rfl⟩

theorem calls_later_same {P : Program} {f : FuncId} {args : Array Value} {W : World} {x : Later W} {v : Value}
    (h : Calls P f args x.w fun e w' => e = .returned v ∧ w' = x.w) : Calls P f args x.w fun e w' => e = .returned v ∧ ∃ y : Later W, w' = y.w :=
  h.mono fun _ _ ⟨he, hb⟩ => ⟨he, x, hb⟩

theorem wp_region_later {P : Program} {id : Nat} {Q : Exit → Act → World → Prop} {a : Act} {w : World} {l : List Oper} (hm : P.follows .mixedOrders = true) (hB : Region.lexB .any l.toArray = true)
    (h : wpQuiet P l.toArray (fun w' => ∃ x : Later w, w' = x.w) (fun a' => ∀ w', (∃ x : Later w, w' = x.w) → Q .normal a' w') l a) : (Code.region id l.toArray true).wp P Q a w :=
  wp_region_quiet (C := fun w' => ∃ x : Later w, w' = x.w) hm hB ⟨⟨{ w with drawn := w.drawn + 1 }, ⟨rfl, rfl, rfl, Nat.le_refl _, fun _ _ => rfl⟩⟩, rfl⟩ (by simpa using h)
end Go.Proofs.YtlclfmjpnchmbaaGreat
