/- laws.markText, laws.markTokenS and laws.heldTokenS. Conditions: the list of tokens that is marked is a row of the call's own. -/
import Derived.Test.YtmldognpldfdjajDoorLawTok1
import Derived.Test.YtmldognpldfdjajDoorSpecTokens
import Derived.Laws.OwnMore
namespace Go.Proofs.YtmldognpldfdjajDoor
open Go.ChangeShapes Go.WideShapes Go.ChangeAt Go.RowKit

theorem join_mark (l : List UInt8) : ((⟨#[109]⟩ : ByteArray) ++ ⟨l.toArray⟩) = ⟨(109 :: l).toArray⟩ := join_one 109 l

set_option maxHeartbeats 1000000 in
theorem mark_text (n : Nat) (h0 : 0 < n) (h1 : n ≤ 1000000) (w : World) :
    Calls Tryd.prog 15 #[.int .i64 n] w fun e w' => e = .returned (.string (markB n)) ∧ Below w.heap.size w w' := by
  have t0 : ¬ ((n : Int) ≤ 0) := by omega
  go_enter Tryd.func15, Tryd.ntmps15
  go_wp2
  go_loopw [0, 3] (fun x o w1 => ∃ (k : Nat) (l : List UInt8), k ≤ n ∧ x = .int .i64 k ∧ o = .string ⟨l.toArray⟩ ∧ decD k ++ l = Lib.decDigits n ∧ Below w.heap.size w w1) (fun x _ _ => (intOf x).toNat)
  case atStart => exact ⟨n, [], Nat.le_refl _, rfl, rfl, by rw [decD_pos n h0]; simp, Below.refl _ _⟩
  case round =>
    obtain ⟨k, l, hk, rfl, rfl, hl, hg⟩ := hrel
    have hlen := acc_len k n l (by omega) hl
    have HL : Hid (decD k ++ l = Lib.decDigits n) := hl
    clear hl
    by_cases hz : (k : Int) > 0
    · have hr := one_byte wr (48 + (k : Int) % 10) _ (digit_byte k)
      go_wp2
      refine ⟨⟨k / 10, (48 + UInt8.ofNat (k % 10)) :: l, by omega, by simp, by rw [join_one], acc_step k n (by omega) l HL.out, hg.alloc hg.size _⟩, ?_⟩
      simp [intOf]; omega
    · have hk0 : k = 0 := by omega
      subst hk0
      go_wp2
      go_ret
      have e := HL.out
      rw [decD_zero, List.nil_append] at e
      subst e
      exact ⟨by rw [← join_mark]; rfl, hg⟩

/-- The token that is marked from k on. -/
def mk (k : Nat) : Tok := ⟨k, k + 1, ((k + 2 : Nat) : Int), markB (k + 3)⟩
def marks (n : Nat) : List Tok := (List.range n).map fun i => mk (1 + 4 * i)

theorem marks_len (n : Nat) : (marks n).length = n := by simp [marks]
theorem marks_succ (n : Nat) : marks (n + 1) = marks n ++ [mk (1 + 4 * n)] := by simp [marks, List.range_succ]
theorem marks_get (n k : Nat) (h : k < n) : (marks n)[k]? = some (mk (1 + 4 * k)) := by simp [marks, h]

/-- What stands in the row behind k rounds. -/
def part (ts : List Tok) (k : Nat) : List Tok := marks k ++ ts.drop k

theorem part_zero (ts : List Tok) : part ts 0 = ts := by simp [part, marks]
theorem part_end (ts : List Tok) : part ts ts.length = marks ts.length := by simp [part]
theorem part_len (ts : List Tok) (k : Nat) (h : k ≤ ts.length) : (part ts k).length = ts.length := by
  simp [part, marks_len]; omega

theorem rows_set4 (a b : List Tok) (t u : Tok) : ((((rows (a ++ t :: b)).set (a.length * 4) (.int .i64 u.kind)).set (a.length * 4 + 1) (.int .i64 u.at_)).set (a.length * 4 + 2) (.int .i64 u.n)).set (a.length * 4 + 3) (.string u.text) = rows (a ++ u :: b) := by
  have e : ∀ x : Tok, rows (a ++ x :: b) = rows a ++ (x.cells ++ rows b) := by intro x; rw [rows_append]; rfl
  rw [e, e]
  have hl := rows_length a
  have s : ∀ (c : List Value) (j : Nat) (v : Value), (rows a ++ c).set (a.length * 4 + j) v = rows a ++ c.set j v := by
    intro c j v
    rw [List.set_append_right _ _ (by omega), hl]
    congr 2; omega
  have s0 := s (t.cells ++ rows b) 0 (.int .i64 u.kind)
  rw [Nat.add_zero] at s0
  rw [s0, s, s, s]
  rfl

theorem part_step (ts : List Tok) (k : Nat) (h : k < ts.length) : ((((rows (part ts k)).set (k * 4) (.int .i64 ((1 + 4 * k : Nat) : Int))).set (k * 4 + 1) (.int .i64 ((1 + 4 * k + 1 : Nat) : Int))).set (k * 4 + 2) (.int .i64 ((1 + 4 * k + 2 : Nat) : Int))).set (k * 4 + 3) (.string (markB (1 + 4 * k + 3))) = rows (part ts (k + 1)) := by
  have e1 : part ts k = marks k ++ ts[k] :: ts.drop (k + 1) := by unfold part; rw [List.drop_eq_getElem_cons h]
  have e2 : part ts (k + 1) = marks k ++ mk (1 + 4 * k) :: ts.drop (k + 1) := by unfold part; rw [marks_succ]; simp
  rw [e1, e2]
  have := rows_set4 (marks k) (ts.drop (k + 1)) ts[k] (mk (1 + 4 * k))
  rw [marks_len] at this
  exact this

theorem mark_text_int (z : Int) (h0 : 0 < z) (h1 : z ≤ 1000000) (w : World) :
    Calls Tryd.prog 15 #[.int .i64 z] w fun e w' => e = .returned (.string (markB z.toNat)) ∧ Below w.heap.size w w' := by
  have := mark_text z.toNat (by omega) (by omega) w
  rwa [show ((z.toNat : Nat) : Int) = z from by omega] at this

theorem part_step' (ts : List Tok) (k : Nat) (h : k < ts.length) (c0 c1 c2 c3 : Int) (h0 : c0 = 1 + 4 * (k : Int)) (h1 : c1 = c0 + 1) (h2 : c2 = c0 + 2) (h3 : c3 = c0 + 3) :
    ((((rows (part ts k)).set (k * 4) (.int .i64 c0)).set (k * 4 + 1) (.int .i64 c1)).set (k * 4 + 2) (.int .i64 c2)).set (k * 4 + 3) (.string (markB c3.toNat)) = rows (part ts (k + 1)) := by
  rw [← part_step ts k h]
  have e0 : c0 = ((1 + 4 * k : Nat) : Int) := by omega
  have e1 : c1 = ((1 + 4 * k + 1 : Nat) : Int) := by omega
  have e2 : c2 = ((1 + 4 * k + 2 : Nat) : Int) := by omega
  have e3 : c3.toNat = 1 + 4 * k + 3 := by omega
  rw [e3, e1, e2, e0]

theorem grown_trans {w w1 w2 : World} {row : Option Nat} (h : w.grownBy w1 row) (g : w1.grownBy w2 row) : w.grownBy w2 row :=
  ⟨g.os.trans h.os, g.tape.trans h.tape, g.output.trans h.output, Nat.le_trans h.size g.size, fun k hk hr => (g.block k (Nat.lt_of_lt_of_le hk h.size) hr).trans (h.block k hk hr)⟩
theorem grown_refl (w : World) (row : Option Nat) : w.grownBy w row := ⟨rfl, rfl, rfl, Nat.le_refl _, fun _ _ _ => rfl⟩
theorem grown_below {w w1 : World} (h : Below w.heap.size w w1) (row : Option Nat) : w.grownBy w1 row := ⟨h.os, h.tape, h.output, h.size, fun k hk _ => h.block k hk⟩

set_option maxRecDepth 100000 in
set_option maxHeartbeats 4000000 in
theorem mark_tokens_some (g cap base : Nat) (ts : List Tok) (w : World) (hown : w.ownsRow base 29 4 (.slice (some ⟨g, 0, none⟩) ts.length cap) ts.length (rows ts)) (hlen : ts.length ≤ 4000) :
    Calls Tryd.prog 7 #[.slice (some ⟨g, 0, none⟩) ts.length cap, .int .i64 1] w fun e w' => e = .returned (.int .i64 ((1 + 4 * ts.length : Nat) : Int)) ∧ w'.ownsRow base 29 4 (.slice (some ⟨g, 0, none⟩) ts.length cap) ts.length (rows (marks ts.length)) ∧ w.grownBy w' (some g) := by
  have HO : Hid (w.ownsRow base 29 4 (.slice (some ⟨g, 0, none⟩) ts.length cap) ts.length (rows ts)) := hown
  clear hown
  go_enter Tryd.func7, Tryd.ntmps7
  go_wp2
  go_loopw [1, 5] (fun x i wr => ∃ k : Nat, i = .int .i64 k ∧ x = .int .i64 (1 + 4 * (k : Int)) ∧ k ≤ ts.length ∧ wr.ownsRow base 29 4 (.slice (some ⟨g, 0, none⟩) ts.length cap) ts.length (rows (part ts k)) ∧ w.grownBy wr (some g)) (fun _ i _ => ts.length - (intOf i).toNat)
  case atStart => exact ⟨0, rfl, rfl, Nat.zero_le _, by rw [part_zero]; exact HO.out, grown_refl _ _⟩
  case round =>
    obtain ⟨k, rfl, rfl, hk, hown, hg⟩ := hrel
    have HOW : Hid (wr.ownsRow base 29 4 (.slice (some ⟨g, 0, none⟩) ts.length cap) ts.length (rows (part ts k))) := hown
    have HG : Hid (w.grownBy wr (some g)) := hg
    have hf : ∀ j, wr.frozen? ⟨g, j, none⟩ = false := fun j => hown.frozenAt j
    clear hown hg
    by_cases hlt : (k : Int) < ts.length
    · have hlt' : k < ts.length := by omega
      have hcl : ∀ j, j < 4 → ∃ u, wr.cell? ⟨g, k * 4 + j, none⟩ = some u := by
        intro j hj
        have hl : k * 4 + j < (rows (part ts k)).length := by rw [rows_length, part_len ts k hk]; omega
        exact ⟨_, (HOW.out.cellAt (k * 4 + j) (by omega)).trans (List.getElem?_eq_getElem hl)⟩
      obtain ⟨u0, hu0⟩ := hcl 0 (by omega)
      obtain ⟨u1, hu1⟩ := hcl 1 (by omega)
      obtain ⟨u2, hu2⟩ := hcl 2 (by omega)
      obtain ⟨u3, hu3⟩ := hcl 3 (by omega)
      rw [Nat.add_zero] at hu0
      clear hcl
      go_wp2_with fail
      refine (mark_text_int (1 + 4 * (k : Int) + 1 + 1 + 1) (by omega) (by omega) _).mono ?_
      rintro e w1 ⟨rfl, hb1⟩
      obtain ⟨q1, g1⟩ := HOW.out.stored (k * 4) (.int .i64 (1 + 4 * (k : Int)))
      obtain ⟨q2, g2⟩ := q1.stored (k * 4 + 1) (.int .i64 (1 + 4 * (k : Int) + 1))
      obtain ⟨q3, g3⟩ := q2.stored (k * 4 + 2) (.int .i64 (1 + 4 * (k : Int) + 1 + 1))
      have q4 := own_below q3 hb1
      have hf1 : ∀ j, w1.frozen? ⟨g, j, none⟩ = false := fun j => q4.frozenAt j
      have hc1 : ∃ u, w1.cell? ⟨g, k * 4 + 3, none⟩ = some u := by
        have hl : k * 4 + 3 < (rows (part ts k)).length := by rw [rows_length, part_len ts k hk]; omega
        exact ⟨_, (q4.cellAt (k * 4 + 3) (by omega)).trans (List.getElem?_eq_getElem (by simp only [List.length_set]; exact hl))⟩
      obtain ⟨u4, hu4⟩ := hc1
      have G1 := grown_trans (grown_trans (grown_trans (grown_trans HG.out g1) g2) g3) (grown_below hb1 (some g))
      obtain ⟨q5, g5⟩ := q4.stored (k * 4 + 3) (.string (markB (1 + 4 * (k : Int) + 1 + 1 + 1).toNat))
      rw [part_step' ts k hlt' (1 + 4 * (k : Int)) (1 + 4 * (k : Int) + 1) (1 + 4 * (k : Int) + 1 + 1) (1 + 4 * (k : Int) + 1 + 1 + 1) rfl rfl (by omega) (by omega)] at q5
      have Q5 : Hid ((w1.setCell ⟨g, k * 4 + 3, none⟩ (.string (markB (1 + 4 * (k : Int) + 1 + 1 + 1).toNat))).ownsRow base 29 4 (.slice (some ⟨g, 0, none⟩) ts.length cap) ts.length (rows (part ts (k + 1)))) := q5
      have G5 : Hid (w.grownBy (w1.setCell ⟨g, k * 4 + 3, none⟩ (.string (markB (1 + 4 * (k : Int) + 1 + 1 + 1).toNat))) (some g)) := grown_trans G1 g5
      clear q1 q2 q3 q4 q5 g1 g2 g3 g5 G1 hb1 hu0 hu1 hu2 hu3 hf HOW HG HO
      go_wp2
      go_roundw
      case rel => exact ⟨k + 1, by go_num, by go_num, by omega, Q5.out, G5.out⟩
      case measure => simp [intOf]; omega
    · have hke : k = ts.length := by omega
      subst hke
      go_wp2
      go_ret
      refine ⟨by simp, ?_, HG.out⟩
      have := HOW.out
      rw [part_end] at this
      exact this

theorem mark_tokens (v : Value) (base : Nat) (ts : List Tok) (w : World) (hown : w.ownsRow base 29 4 v ts.length (rows ts)) (hlen : ts.length ≤ 4000) :
    Calls Tryd.prog 7 #[v, .int .i64 1] w fun e w' => e = .returned (.int .i64 ((1 + 4 * ts.length : Nat) : Int)) ∧ w'.ownsRow base 29 4 v ts.length (rows (marks ts.length)) ∧ w.grownBy w' v.ownBlock := by
  rcases hown.2 with ⟨rfl, hn⟩ | ⟨g, cap, cur, rfl, rest⟩
  · have hts : ts = [] := List.eq_nil_of_length_eq_zero hn
    subst hts
    clear hown hn hlen
    go_enter Tryd.func7, Tryd.ntmps7
    go_wp2
    go_loop [1, 5] (fun x i => i = .int .i64 0 ∧ x = .int .i64 1) (fun _ _ => 0)
    case atStart => exact ⟨rfl, rfl⟩
    case round =>
      obtain ⟨rfl, rfl⟩ := hrel
      go_wp2
      go_ret
      exact ⟨rfl, World.ownsRow_nil _ _ _ _, grown_refl _ _⟩
  · exact mark_tokens_some g cap base ts w hown hlen

set_option maxRecDepth 100000 in
set_option maxHeartbeats 4000000 in
theorem held_tokens_some (g cap n : Nat) (w : World) (hcell : ∀ j u, (rows (marks n))[j]? = some u → w.cell? ⟨g, j, none⟩ = some u) (hlen : n ≤ 4000) (hcap : n ≤ cap) :
    Calls Tryd.prog 8 #[.slice (some ⟨g, 0, none⟩) n cap, .int .i64 1] w fun e w' => e = .returned (.int .i64 ((1 + 4 * n : Nat) : Int)) ∧ Below w.heap.size w w' := by
  have HC : Hid (∀ j u, (rows (marks n))[j]? = some u → w.cell? ⟨g, j, none⟩ = some u) := hcell
  clear hcell
  go_enter Tryd.func8, Tryd.ntmps8
  go_wp2
  go_loopw [1, 5] (fun x i wr => ∃ k : Nat, i = .int .i64 k ∧ x = .int .i64 (1 + 4 * (k : Int)) ∧ k ≤ n ∧ Below w.heap.size w wr) (fun _ i _ => n - (intOf i).toNat)
  case atStart => exact ⟨0, rfl, rfl, Nat.zero_le _, Below.refl _ _⟩
  case round =>
    obtain ⟨k, rfl, rfl, hk, hbel⟩ := hrel
    have HBL : Hid (Below w.heap.size w wr) := hbel
    clear hbel
    by_cases hlt : (k : Int) < n
    · have hlt' : k < n := by omega
      obtain ⟨r0, r1, r2, r3⟩ := rows_at (marks n) k (by rw [marks_len]; exact hlt')
      have hgk : (marks n)[k]'(by rw [marks_len]; exact hlt') = mk (1 + 4 * k) := by
        have := marks_get n k hlt'
        rw [List.getElem?_eq_getElem (by rw [marks_len]; exact hlt')] at this
        exact Option.some.inj this
      rw [hgk] at r0 r1 r2 r3
      have kp : ∀ {x : Addr} {u : Value}, w.cell? x = some u → wr.cell? x = some u := fun h => (HBL.out.cell (World.block_lt_of_cell? w _ h)).trans h
      have a0 : wr.cell? ⟨g, k * 4, none⟩ = some (.int .i64 (1 + 4 * (k : Int))) := by rw [kp (HC.out _ _ r0)]; simp [mk]
      have a1 : wr.cell? ⟨g, k * 4 + 1, none⟩ = some (.int .i64 (1 + 4 * (k : Int) + 1)) := by rw [kp (HC.out _ _ r1)]; simp [mk]
      have a2 : wr.cell? ⟨g, k * 4 + 2, none⟩ = some (.int .i64 (1 + 4 * (k : Int) + 1 + 1)) := by rw [kp (HC.out _ _ r2)]; simp [mk]; omega
      have a3 : wr.cell? ⟨g, k * 4 + 3, none⟩ = some (.string (markB (1 + 4 * (k : Int) + 1 + 1 + 1).toNat)) := by
        rw [kp (HC.out _ _ r3)]; simp only [mk]; congr 3
      have hgl : g < wr.heap.size := World.block_lt_of_cell? wr _ a0
      clear kp r0 r1 r2 r3 hgk
      have hst : ∀ s : ByteArray, (s.toList == s.toList) = true := fun s => by simp
      go_wp2_with fail
      go_region_held3 (fun w' => w'.cell? ⟨g, k * 4 + 3, none⟩ = some (.string (markB (1 + 4 * (k : Int) + 1 + 1 + 1).toNat)))
        (first | go_keep | exact hs3)
        ((go_at_call 15; refine (mark_text_int (1 + 4 * (k : Int) + 1 + 1 + 1) (by omega) (by omega) _).mono ?_; rintro e w1 ⟨rfl, hb1⟩; have hbw : Below wr.heap.size wr w1 := ⟨hb1.os, hb1.tape, hb1.output, hb1.size, hb1.block⟩; have hs3 : w1.cell? ⟨g, k * 4 + 3, none⟩ = some (.string (markB (1 + 4 * (k : Int) + 1 + 1 + 1).toNat)) := (hbw.cell (by exact hgl)).trans a3))
      all_goals
        have HB1 : Hid (Below w.heap.size w w1) := HBL.out.trans (hbw.mono HBL.out.size)
        clear hbw hb1
        go_wp2
        go_roundw
        case rel => exact ⟨k + 1, by go_num, by go_num, by omega, HB1.out⟩
        case measure => simp [intOf]; omega
    · have hke : k = n := by omega
      subst hke
      go_wp2
      go_ret
      exact ⟨by simp, HBL.out⟩

theorem held_tokens (v : Value) (n : Nat) (w : World) (hc : TokCells w v (marks n)) (hlen : n ≤ 4000) :
    Calls Tryd.prog 8 #[v, .int .i64 1] w fun e w' => e = .returned (.int .i64 ((1 + 4 * n : Nat) : Int)) ∧ Below w.heap.size w w' := by
  rcases hc with ⟨rfl, hn⟩ | ⟨g, cap, rfl, h2, h3⟩
  · have hn0 : n = 0 := by have := marks_len n; rw [hn] at this; simpa using this.symm
    subst hn0
    clear hn hlen
    go_enter Tryd.func8, Tryd.ntmps8
    go_wp2
    go_loop [1, 5] (fun x i => i = .int .i64 0 ∧ x = .int .i64 1) (fun _ _ => 0)
    case atStart => exact ⟨rfl, rfl⟩
    case round =>
      obtain ⟨rfl, rfl⟩ := hrel
      go_wp2
      go_ret
      exact ⟨rfl, Below.refl _ _⟩
  · rw [marks_len] at h2 ⊢
    exact held_tokens_some g cap n w h3 hlen h2
end Go.Proofs.YtmldognpldfdjajDoor
