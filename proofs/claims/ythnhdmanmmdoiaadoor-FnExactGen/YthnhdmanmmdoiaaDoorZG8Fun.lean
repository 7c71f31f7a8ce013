/- laws.eqBlock and laws.eqBlockS: of blocks laid twice the answer is true. No conditions. -/
import Derived.Test.YthnhdmanmmdoiaaDoorZG7EqIr
import Derived.Test.YthnhdmanmmdoiaaDoorZG2SzBlk
import Derived.Test.YthnhdmanmmdoiaaDoorZG0Dat
namespace Go.Proofs.YthnhdmanmmdoiaaDoor
open Go.ChangeShapes Go.WideShapes Go.ChangeAt Go.RowKit

def EqKAt (t : Kb) : Prop := ∀ (w : World) (u v : Value), t.In w u → t.In w v →
  Calls Tryd.prog 23 #[.agg #[.int .i64 t.fr, .int .i64 t.bd.op, .int .i64 t.bd.n, u], .agg #[.int .i64 t.fr, .int .i64 t.bd.op, .int .i64 t.bd.n, v]] w fun e w' => e = .returned (.bool true) ∧ Below w.heap.size w w'

set_option maxRecDepth 100000 in
set_option maxHeartbeats 2000000 in
theorem eq_blk (t : Kb) : EqKAt t := by
  intro w u v hu hv
  obtain ⟨p, cap, e1⟩ := hu.sl.shape
  obtain ⟨q, cap2, e2⟩ := hv.sl.shape
  have hb0 : ∀ o1 o2, Below w.heap.size w ((w.alloc o1).alloc o2) := fun o1 o2 => (newb w _).trans ((newb _ _).mono (by simp))
  have HS : Hid (∀ o1 o2, Calls Tryd.prog 40 #[.agg #[.int .i64 t.bd.op, .int .i64 t.bd.n, u], .agg #[.int .i64 t.bd.op, .int .i64 t.bd.n, v]] ((w.alloc o1).alloc o2) fun e w' => e = .returned (.bool true) ∧ Below w.heap.size w w') :=
    fun o1 o2 => (eq_ir t.bd _ u v (hu.2.below (hb0 o1 o2)) (hv.2.below (hb0 o1 o2))).mono fun e w' h => ⟨h.1, (hb0 o1 o2).trans (h.2.mono (hb0 o1 o2).size)⟩
  clear hu hv hb0
  subst e1 e2
  go_enter Tryd.func23, Tryd.ntmps23
  go_wp2_with fail
  refine (HS.out _ _).mono ?_
  rintro e w1 ⟨rfl, hb1⟩
  have HB1 : Hid (Below w.heap.size w w1) := hb1
  clear hb1
  go_wp2_with fail
  go_ret
  exact ⟨rfl, HB1.out⟩

set_option maxRecDepth 100000 in
set_option maxHeartbeats 2000000 in
theorem eq_blksOf (len : Nat) (kid : Nat → Kb) (ih : ∀ i, i < len → EqKAt (kid i)) (w : World) (u v : Value) (hu : Kl w len kid u) (hv : Kl w len kid v) :
    Calls Tryd.prog 9 #[u, v] w fun e w' => e = .returned (.bool true) ∧ Below w.heap.size w w' := by
  obtain ⟨p, cap, rfl, hlen, hat⟩ := hu.at
  obtain ⟨q, cap2, rfl, -, hat2⟩ := hv.at
  have HC : Hid (∀ i, i < len → ∃ b o u, p = some ⟨b, o, none⟩ ∧ HeadK w b (o + i * 4) (kid i) u ∧ (kid i).In w u) := hat
  have HD : Hid (∀ i, i < len → ∃ b o u, q = some ⟨b, o, none⟩ ∧ HeadK w b (o + i * 4) (kid i) u ∧ (kid i).In w u) := hat2
  have IH : Hid (∀ i, i < len → EqKAt (kid i)) := ih
  clear hat hat2 ih hu hv
  unfold maxLen at hlen
  go_enter Tryd.func9, Tryd.ntmps9
  go_wp2_with fail
  go_loopw [5] (fun i wr => ∃ k : Nat, i = .int .i64 k ∧ k ≤ len ∧ Below w.heap.size w wr) (fun i _ => len - (intOf i).toNat)
  case atStart => exact ⟨0, rfl, Nat.zero_le _, Below.refl _ _⟩
  case round =>
    obtain ⟨k, rfl, hk, hbel⟩ := hrel
    have HBL : Hid (Below w.heap.size w wr) := hbel
    clear hbel
    by_cases hlt : (k : Int) < len
    · have hlt' : k < len := by omega
      obtain ⟨b, o, x, hp, hd, hin⟩ := HC.out k hlt'
      obtain ⟨b2, o2, y, hq, hd2, hin2⟩ := HD.out k hlt'
      subst hp hq
      obtain ⟨c0, c1, c2, c3⟩ := hd.below HBL.out
      obtain ⟨d0, d1, d2, d3⟩ := hd2.below HBL.out
      have HI : Hid ((kid k).In wr x ∧ (kid k).In wr y) := ⟨hin.below HBL.out, hin2.below HBL.out⟩
      clear hd hin hd2 hin2
      have HCL : Hid (∀ w1 : World, Below wr.heap.size wr w1 → Calls Tryd.prog 23 #[.agg #[.int .i64 (kid k).fr, .int .i64 (kid k).bd.op, .int .i64 (kid k).bd.n, x], .agg #[.int .i64 (kid k).fr, .int .i64 (kid k).bd.op, .int .i64 (kid k).bd.n, y]] w1 fun e w' => e = .returned (.bool true) ∧ Below w1.heap.size w1 w') :=
        fun w1 h1 => IH.out k hlt' w1 x y (HI.out.1.below h1) (HI.out.2.below h1)
      go_wp2_with fail
      go_region_with ((go_at_call 23; refine (HCL.out _ ?_).mono ?_; exact (Below.refl _ _).drew; rintro e w1 ⟨rfl, hb1⟩))
      all_goals
        have HB1 : Hid (Below w.heap.size w w1) := HBL.out.trans ⟨hb1.os, hb1.tape, hb1.output, hb1.size, fun j hj => hb1.block j (Nat.lt_of_lt_of_le hj HBL.out.size)⟩
        clear hb1
        go_wp2_with fail
        go_roundw
        case rel => first | exact ⟨k + 1, by go_num, by omega, HB1.out⟩ | ((repeat apply Exists.intro); exact ⟨⟨k + 1, by go_num, by omega, HB1.out⟩, rfl⟩)
        case measure => simp [intOf]; omega
    · go_wp2_with fail
      go_ret
      exact ⟨rfl, HBL.out⟩

theorem eq_blks (len : Nat) (kid : Nat → Kb) (w : World) (u v : Value) (hu : Kl w len kid u) (hv : Kl w len kid v) :
    Calls Tryd.prog 9 #[u, v] w fun e w' => e = .returned (.bool true) ∧ Below w.heap.size w w' := eq_blksOf len kid (fun i _ => eq_blk (kid i)) w u v hu hv
end Go.Proofs.YthnhdmanmmdoiaaDoor

/- Ops and functions, and how rows of them lie in memory. No conditions. -/
namespace Go.Proofs.YthnhdmanmmdoiaaDoor
open Go.ChangeShapes Go.WideShapes Go.ChangeAt Go.RowKit

/-- An op. -/
structure O3 where
  c : Int
  n : Int
  m : Int
instance : Inhabited O3 := ⟨⟨0, 0, 0⟩⟩
/-- Its numbers are ints. -/
def I64 (z : Int) : Prop := -9223372036854775808 ≤ z ∧ z ≤ 9223372036854775807
def O3.Ok (t : O3) : Prop := I64 t.c ∧ I64 t.n ∧ I64 t.m

/-- Three cells from p on. -/
structure HeadO (w : World) (b p : Nat) (t : O3) : Prop where
  c0 : w.cell? ⟨b, p, none⟩ = some (.int .i64 t.c)
  c1 : w.cell? ⟨b, p + 1, none⟩ = some (.int .i64 t.n)
  c2 : w.cell? ⟨b, p + 2, none⟩ = some (.int .i64 t.m)

/-- A slice of ops that lie in w, from block B on. -/
def OlB (B : Nat) (w : World) (len : Nat) (op : Nat → O3) (v : Value) : Prop :=
  (len = 0 ∧ ∃ p cap, v = .slice p 0 cap) ∨
   ∃ (b o cap : Nat), v = .slice (some ⟨b, o, none⟩) len cap ∧ B ≤ b ∧ len ≤ cap ∧ cap ≤ maxLen ∧ ∀ i, i < len → HeadO w b (o + i * 3) (op i) ∧ (op i).Ok
abbrev Ol (w : World) (len : Nat) (op : Nat → O3) (v : Value) : Prop := OlB 0 w len op v

theorem OlB.shape {B : Nat} {w : World} {len : Nat} {op : Nat → O3} {v : Value} (h : OlB B w len op v) : ∃ p cap, v = .slice p len cap := by
  rcases h with ⟨rfl, p, cap, rfl⟩ | ⟨b, o, cap, rfl, _⟩
  · exact ⟨_, _, rfl⟩
  · exact ⟨_, _, rfl⟩
theorem HeadO.kept {w w' : World} {b p : Nat} {t : O3} (h : HeadO w b p t) (hk : ∀ a u, a.block = b → w.cell? a = some u → w'.cell? a = some u) : HeadO w' b p t :=
  ⟨hk _ _ rfl h.c0, hk _ _ rfl h.c1, hk _ _ rfl h.c2⟩
theorem HeadO.below {w w' : World} (hb : Below w.heap.size w w') {b p : Nat} {t : O3} (h : HeadO w b p t) : HeadO w' b p t := h.kept (fun a u _ => keeps hb a u)
theorem OlB.kept {B : Nat} {w w' : World} (hk : ∀ a u, B ≤ a.block → w.cell? a = some u → w'.cell? a = some u) {len : Nat} {op : Nat → O3} {v : Value} (h : OlB B w len op v) : OlB B w' len op v := by
  rcases h with h0 | ⟨b, o, cap, h1, hB, h2, h3, h4⟩
  · exact .inl h0
  · exact .inr ⟨b, o, cap, h1, hB, h2, h3, fun i hi => ⟨(h4 i hi).1.kept (fun a u ha => hk a u (by omega)), (h4 i hi).2⟩⟩
theorem OlB.mono {B B' : Nat} (hB : B' ≤ B) {w : World} {len : Nat} {op : Nat → O3} {v : Value} (h : OlB B w len op v) : OlB B' w len op v := by
  rcases h with h0 | ⟨b, o, cap, h1, hb, h2, h3, h4⟩
  · exact .inl h0
  · exact .inr ⟨b, o, cap, h1, by omega, h2, h3, h4⟩
theorem OlB.all {B : Nat} {w : World} {len : Nat} {op : Nat → O3} {v : Value} (h : OlB B w len op v) : Ol w len op v := h.mono (Nat.zero_le _)
theorem OlB.below {B : Nat} {w w' : World} (hb : Below w.heap.size w w') {len : Nat} {op : Nat → O3} {v : Value} (h : OlB B w len op v) : OlB B w' len op v := OlB.kept (fun a u _ => keeps hb a u) h
theorem OlB.at {B : Nat} {w : World} {len : Nat} {op : Nat → O3} {v : Value} (h : OlB B w len op v) : ∃ p cap, v = .slice p len cap ∧ len ≤ maxLen ∧
    ∀ i, i < len → ∃ b o, p = some ⟨b, o, none⟩ ∧ HeadO w b (o + i * 3) (op i) ∧ (op i).Ok := by
  rcases h with ⟨rfl, p, cap, rfl⟩ | ⟨b, o, cap, rfl, hB, h1, h2, h3⟩
  · exact ⟨p, cap, rfl, Nat.zero_le _, fun i hi => by omega⟩
  · exact ⟨_, cap, rfl, Nat.le_trans h1 h2, fun i hi => ⟨b, o, rfl, h3 i hi⟩⟩

/-- A function: how many are kept, and its places. -/
structure Fu where
  fr : Int
  len : Nat
  op : Nat → O3
instance : Inhabited Fu := ⟨⟨0, 0, fun _ => default⟩⟩

def Fu.weight (t : Fu) : Nat := t.len
def sumF (f : Nat → Nat) : Nat → Nat
  | 0 => 0
  | k + 1 => sumF f k + f k
theorem sumF_at (f : Nat → Nat) (i : Nat) : ∀ n, i < n → f i + sumF f i ≤ sumF f n
  | 0, h => absurd h (Nat.not_lt_zero _)
  | n + 1, h => by
    rcases Nat.lt_or_ge i n with h1 | h1
    · have := sumF_at f i n h1; simp only [sumF]; omega
    · have : i = n := by omega
      subst this; simp only [sumF]; omega
def funsWeight (len : Nat) (kid : Nat → Fu) : Nat := len + sumF (fun i => (kid i).weight) len

/-- Two cells from p on. -/
structure HeadF (w : World) (b p : Nat) (t : Fu) (v : Value) : Prop where
  c0 : w.cell? ⟨b, p, none⟩ = some (.int .i64 t.fr)
  c1 : w.cell? ⟨b, p + 1, none⟩ = some v

/-- v is the slice of its places. -/
def Fu.InB (B : Nat) (w : World) (t : Fu) (v : Value) : Prop := I64 t.fr ∧ OlB B w t.len t.op v
abbrev Fu.In (w : World) (t : Fu) (v : Value) : Prop := t.InB 0 w v

/-- A slice of functions that lie in w, from block B on. -/
def FlB (B : Nat) (w : World) (len : Nat) (kid : Nat → Fu) (v : Value) : Prop :=
  (len = 0 ∧ ∃ p cap, v = .slice p 0 cap) ∨
   ∃ (b o cap : Nat) (V : Nat → Value), v = .slice (some ⟨b, o, none⟩) len cap ∧ B ≤ b ∧ len ≤ cap ∧ cap ≤ maxLen ∧
     ∀ i, i < len → HeadF w b (o + i * 2) (kid i) (V i) ∧ (kid i).InB B w (V i)
abbrev Fl (w : World) (len : Nat) (kid : Nat → Fu) (v : Value) : Prop := FlB 0 w len kid v

theorem FlB.shape {B : Nat} {w : World} {len : Nat} {kid : Nat → Fu} {v : Value} (h : FlB B w len kid v) : ∃ p cap, v = .slice p len cap := by
  rcases h with ⟨rfl, p, cap, rfl⟩ | ⟨b, o, cap, V, rfl, _⟩
  · exact ⟨_, _, rfl⟩
  · exact ⟨_, _, rfl⟩
theorem HeadF.kept {w w' : World} {b p : Nat} {t : Fu} {v : Value} (h : HeadF w b p t v) (hk : ∀ a u, a.block = b → w.cell? a = some u → w'.cell? a = some u) : HeadF w' b p t v :=
  ⟨hk _ _ rfl h.c0, hk _ _ rfl h.c1⟩
theorem Fu.InB.kept {B : Nat} {w w' : World} (hk : ∀ a u, B ≤ a.block → w.cell? a = some u → w'.cell? a = some u) (t : Fu) {v : Value} (h : t.InB B w v) : t.InB B w' v := ⟨h.1, OlB.kept hk h.2⟩
theorem Fu.InB.mono {B B' : Nat} (hB : B' ≤ B) {w : World} (t : Fu) {v : Value} (h : t.InB B w v) : t.InB B' w v := ⟨h.1, OlB.mono hB h.2⟩
theorem Fu.InB.all {B : Nat} {w : World} {t : Fu} {v : Value} (h : t.InB B w v) : t.In w v := h.mono (Nat.zero_le _)
theorem Fu.InB.below {B : Nat} {w w' : World} (hb : Below w.heap.size w w') {t : Fu} {v : Value} (h : t.InB B w v) : t.InB B w' v := Fu.InB.kept (fun a u _ => keeps hb a u) t h
theorem Fu.InB.sl {B : Nat} {w : World} {t : Fu} {v : Value} (h : t.InB B w v) : OlB B w t.len t.op v := h.2
theorem FlB.kept {B : Nat} {w w' : World} (hk : ∀ a u, B ≤ a.block → w.cell? a = some u → w'.cell? a = some u) {len : Nat} {kid : Nat → Fu} {v : Value} (h : FlB B w len kid v) : FlB B w' len kid v := by
  rcases h with h0 | ⟨b, o, cap, V, h1, hB, h2, h3, h4⟩
  · exact .inl h0
  · exact .inr ⟨b, o, cap, V, h1, hB, h2, h3, fun i hi => ⟨(h4 i hi).1.kept (fun a u ha => hk a u (by omega)), Fu.InB.kept hk _ (h4 i hi).2⟩⟩
theorem FlB.mono {B B' : Nat} (hB : B' ≤ B) {w : World} {len : Nat} {kid : Nat → Fu} {v : Value} (h : FlB B w len kid v) : FlB B' w len kid v := by
  rcases h with h0 | ⟨b, o, cap, V, h1, hb, h2, h3, h4⟩
  · exact .inl h0
  · exact .inr ⟨b, o, cap, V, h1, by omega, h2, h3, fun i hi => ⟨(h4 i hi).1, (h4 i hi).2.mono hB⟩⟩
theorem FlB.all {B : Nat} {w : World} {len : Nat} {kid : Nat → Fu} {v : Value} (h : FlB B w len kid v) : Fl w len kid v := h.mono (Nat.zero_le _)
theorem FlB.below {B : Nat} {w w' : World} (hb : Below w.heap.size w w') {len : Nat} {kid : Nat → Fu} {v : Value} (h : FlB B w len kid v) : FlB B w' len kid v := FlB.kept (fun a u _ => keeps hb a u) h
theorem HeadF.below {w w' : World} (hb : Below w.heap.size w w') {b p : Nat} {t : Fu} {v : Value} (h : HeadF w b p t v) : HeadF w' b p t v := h.kept (fun a u _ => keeps hb a u)
theorem FlB.at {B : Nat} {w : World} {len : Nat} {kid : Nat → Fu} {v : Value} (h : FlB B w len kid v) : ∃ p cap, v = .slice p len cap ∧ len ≤ maxLen ∧
    ∀ i, i < len → ∃ b o u, p = some ⟨b, o, none⟩ ∧ HeadF w b (o + i * 2) (kid i) u ∧ (kid i).InB B w u := by
  rcases h with ⟨rfl, p, cap, rfl⟩ | ⟨b, o, cap, V, rfl, hB, h1, h2, h3⟩
  · exact ⟨p, cap, rfl, Nat.zero_le _, fun i hi => by omega⟩
  · exact ⟨_, cap, rfl, Nat.le_trans h1 h2, fun i hi => ⟨b, o, V i, rfl, h3 i hi⟩⟩
end Go.Proofs.YthnhdmanmmdoiaaDoor
