/- Blocks, and how a row of them lies in memory. No conditions. -/
import Derived.Test.YthnhdmanmmdoiaaDoorZG1SzIr
namespace Go.Proofs.YthnhdmanmmdoiaaDoor
open Go.ChangeShapes Go.WideShapes Go.ChangeAt Go.RowKit

/-- A block: how many are kept, and its body. -/
structure Kb where
  fr : Int
  bd : It
instance : Inhabited Kb := ⟨⟨0, .no⟩⟩

def Kb.weight (t : Kb) : Nat := t.bd.weight
def kidsWeightK (len : Nat) (kid : Nat → Kb) : Nat := len + sumTo (fun i => (kid i).weight) len

/-- Four cells from p on. -/
structure HeadK (w : World) (b p : Nat) (t : Kb) (v : Value) : Prop where
  c0 : w.cell? ⟨b, p, none⟩ = some (.int .i64 t.fr)
  c1 : w.cell? ⟨b, p + 1, none⟩ = some (.int .i64 t.bd.op)
  c2 : w.cell? ⟨b, p + 2, none⟩ = some (.int .i64 t.bd.n)
  c3 : w.cell? ⟨b, p + 3, none⟩ = some v

/-- v is the slice of its body's kids. -/
def Kb.InB (B : Nat) (w : World) (t : Kb) (v : Value) : Prop := (-9223372036854775808 ≤ t.fr ∧ t.fr ≤ 9223372036854775807) ∧ t.bd.InB B w v
abbrev Kb.In (w : World) (t : Kb) (v : Value) : Prop := t.InB 0 w v

/-- A slice of blocks that lie in w, from block B on. -/
def KlB (B : Nat) (w : World) (len : Nat) (kid : Nat → Kb) (v : Value) : Prop :=
  (len = 0 ∧ ∃ p cap, v = .slice p 0 cap) ∨
   ∃ (b o cap : Nat) (V : Nat → Value), v = .slice (some ⟨b, o, none⟩) len cap ∧ B ≤ b ∧ len ≤ cap ∧ cap ≤ maxLen ∧
     ∀ i, i < len → HeadK w b (o + i * 4) (kid i) (V i) ∧ (kid i).InB B w (V i)
abbrev Kl (w : World) (len : Nat) (kid : Nat → Kb) (v : Value) : Prop := KlB 0 w len kid v

theorem KlB.shape {B : Nat} {w : World} {len : Nat} {kid : Nat → Kb} {v : Value} (h : KlB B w len kid v) : ∃ p cap, v = .slice p len cap := by
  rcases h with ⟨rfl, p, cap, rfl⟩ | ⟨b, o, cap, V, rfl, _⟩
  · exact ⟨_, _, rfl⟩
  · exact ⟨_, _, rfl⟩
theorem HeadK.kept {w w' : World} {b p : Nat} {t : Kb} {v : Value} (h : HeadK w b p t v) (hk : ∀ a u, a.block = b → w.cell? a = some u → w'.cell? a = some u) : HeadK w' b p t v :=
  ⟨hk _ _ rfl h.c0, hk _ _ rfl h.c1, hk _ _ rfl h.c2, hk _ _ rfl h.c3⟩
theorem Kb.InB.kept {B : Nat} {w w' : World} (hk : ∀ a u, B ≤ a.block → w.cell? a = some u → w'.cell? a = some u) (t : Kb) {v : Value} (h : t.InB B w v) : t.InB B w' v := ⟨h.1, It.InB.kept hk _ h.2⟩
theorem Kb.InB.mono {B B' : Nat} (hB : B' ≤ B) {w : World} (t : Kb) {v : Value} (h : t.InB B w v) : t.InB B' w v := ⟨h.1, It.InB.mono hB _ h.2⟩
theorem Kb.InB.all {B : Nat} {w : World} {t : Kb} {v : Value} (h : t.InB B w v) : t.In w v := h.mono (Nat.zero_le _)
theorem Kb.InB.below {B : Nat} {w w' : World} (hb : Below w.heap.size w w') {t : Kb} {v : Value} (h : t.InB B w v) : t.InB B w' v := Kb.InB.kept (fun a u _ => keeps hb a u) t h
theorem Kb.InB.sl {B : Nat} {w : World} {t : Kb} {v : Value} (h : t.InB B w v) : IlB B w t.bd.len t.bd.kid v := h.2.sl
theorem KlB.kept {B : Nat} {w w' : World} (hk : ∀ a u, B ≤ a.block → w.cell? a = some u → w'.cell? a = some u) {len : Nat} {kid : Nat → Kb} {v : Value} (h : KlB B w len kid v) : KlB B w' len kid v := by
  rcases h with h0 | ⟨b, o, cap, V, h1, hB, h2, h3, h4⟩
  · exact .inl h0
  · exact .inr ⟨b, o, cap, V, h1, hB, h2, h3, fun i hi => ⟨(h4 i hi).1.kept (fun a u ha => hk a u (by omega)), Kb.InB.kept hk _ (h4 i hi).2⟩⟩
theorem KlB.mono {B B' : Nat} (hB : B' ≤ B) {w : World} {len : Nat} {kid : Nat → Kb} {v : Value} (h : KlB B w len kid v) : KlB B' w len kid v := by
  rcases h with h0 | ⟨b, o, cap, V, h1, hb, h2, h3, h4⟩
  · exact .inl h0
  · exact .inr ⟨b, o, cap, V, h1, by omega, h2, h3, fun i hi => ⟨(h4 i hi).1, (h4 i hi).2.mono hB⟩⟩
theorem KlB.all {B : Nat} {w : World} {len : Nat} {kid : Nat → Kb} {v : Value} (h : KlB B w len kid v) : Kl w len kid v := h.mono (Nat.zero_le _)
theorem KlB.below {B : Nat} {w w' : World} (hb : Below w.heap.size w w') {len : Nat} {kid : Nat → Kb} {v : Value} (h : KlB B w len kid v) : KlB B w' len kid v := KlB.kept (fun a u _ => keeps hb a u) h
theorem HeadK.below {w w' : World} (hb : Below w.heap.size w w') {b p : Nat} {t : Kb} {v : Value} (h : HeadK w b p t v) : HeadK w' b p t v := h.kept (fun a u _ => keeps hb a u)
theorem KlB.at {B : Nat} {w : World} {len : Nat} {kid : Nat → Kb} {v : Value} (h : KlB B w len kid v) : ∃ p cap, v = .slice p len cap ∧ len ≤ maxLen ∧
    ∀ i, i < len → ∃ b o u, p = some ⟨b, o, none⟩ ∧ HeadK w b (o + i * 4) (kid i) u ∧ (kid i).InB B w u := by
  rcases h with ⟨rfl, p, cap, rfl⟩ | ⟨b, o, cap, V, rfl, hB, h1, h2, h3⟩
  · exact ⟨p, cap, rfl, Nat.zero_le _, fun i hi => by omega⟩
  · exact ⟨_, cap, rfl, Nat.le_trans h1 h2, fun i hi => ⟨b, o, V i, rfl, h3 i hi⟩⟩
end Go.Proofs.YthnhdmanmmdoiaaDoor

/- laws.szBlock and laws.szBlockS. Condition: at most 2^20 may come. -/
namespace Go.Proofs.YthnhdmanmmdoiaaDoor
open Go.ChangeShapes Go.WideShapes Go.ChangeAt Go.RowKit

def SzKAt (t : Kb) : Prop := ∀ (w : World) (v : Value) (left : Nat), t.In w v → left ≤ 1048576 →
  Calls Tryd.prog 13 #[.agg #[.int .i64 t.fr, .int .i64 t.bd.op, .int .i64 t.bd.n, v], .int .i64 left] w fun e w' => e = .returned (.int .i64 (szI left t.weight)) ∧ Below w.heap.size w w'

set_option maxRecDepth 100000 in
set_option maxHeartbeats 2000000 in
theorem sz_blk (t : Kb) : SzKAt t := by
  intro w v left hin hl
  have HW : Hid (t.weight = t.bd.weight) := rfl
  have HI : Hid (∀ o, t.bd.In (w.alloc o) v) := fun o => hin.2.below (newb w o)
  obtain ⟨p, cap, e⟩ := hin.sl.shape
  clear hin
  subst e
  rw [HW.out]
  by_cases hw : t.bd.weight ≤ left
  · have E1 : Hid (szI left t.bd.weight = ((left - t.bd.weight : Nat) : Int)) := szI_yes hw
    clear hw
    generalize left - t.bd.weight = y at *
    have HS : Hid (∀ o, Calls Tryd.prog 27 #[.agg #[.int .i64 t.bd.op, .int .i64 t.bd.n, .slice p t.bd.len cap], .int .i64 left] (w.alloc o) fun e w' => e = .returned (.int .i64 (y : Int)) ∧ Below (w.alloc o).heap.size (w.alloc o) w') := fun o => by have := sz_ir t.bd (w.alloc o) _ left (HI.out o) hl; rw [E1.out] at this; exact this
    rw [E1.out]
    go_enter Tryd.func13, Tryd.ntmps13
    go_wp2_with fail
    refine (HS.out _).mono ?_
    rintro e w1 ⟨rfl, hb1⟩
    have HB1 : Hid (Below w.heap.size w w1) := (newb w _).trans (hb1.mono (newb w _).size)
    clear hb1
    go_wp2_with fail
    go_ret
    exact ⟨rfl, HB1.out⟩
  · have E1 : Hid (szI left t.bd.weight = -1) := szI_no (by omega)
    clear hw
    have HS : Hid (∀ o, Calls Tryd.prog 27 #[.agg #[.int .i64 t.bd.op, .int .i64 t.bd.n, .slice p t.bd.len cap], .int .i64 left] (w.alloc o) fun e w' => e = .returned (.int .i64 (-1)) ∧ Below (w.alloc o).heap.size (w.alloc o) w') := fun o => by have := sz_ir t.bd (w.alloc o) _ left (HI.out o) hl; rw [E1.out] at this; exact this
    rw [E1.out]
    go_enter Tryd.func13, Tryd.ntmps13
    go_wp2_with fail
    refine (HS.out _).mono ?_
    rintro e w1 ⟨rfl, hb1⟩
    have HB1 : Hid (Below w.heap.size w w1) := (newb w _).trans (hb1.mono (newb w _).size)
    clear hb1
    go_wp2_with fail
    go_ret
    exact ⟨rfl, HB1.out⟩

set_option maxRecDepth 100000 in
set_option maxHeartbeats 2000000 in
theorem sz_blksOf (len : Nat) (kid : Nat → Kb) (ih : ∀ i, i < len → SzKAt (kid i)) (w : World) (v : Value) (left : Nat) (hv : Kl w len kid v) (hl : left ≤ 1048576) :
    Calls Tryd.prog 4 #[v, .int .i64 left] w fun e w' => e = .returned (.int .i64 (szI left (kidsWeightK len kid))) ∧ Below w.heap.size w w' := by
  obtain ⟨p, cap, rfl, hlen, hat⟩ := hv.at
  have HC : Hid (∀ i, i < len → ∃ b o u, p = some ⟨b, o, none⟩ ∧ HeadK w b (o + i * 4) (kid i) u ∧ (kid i).In w u) := hat
  have IH : Hid (∀ i, i < len → SzKAt (kid i)) := ih
  clear hat ih hv
  unfold maxLen at hlen
  by_cases h0 : (left : Int) - len < 0
  · have HR : Hid (szI left (kidsWeightK len kid) = -1) := szI_no (by unfold kidsWeightK; omega)
    go_enter Tryd.func4, Tryd.ntmps4
    go_wp2_with fail
    go_ret
    exact ⟨by rw [HR.out]; rfl, Below.refl _ _⟩
  · go_enter Tryd.func4, Tryd.ntmps4
    go_wp2_with fail
    go_loopw [1, 5] (fun x i wr => ∃ k r : Nat, i = .int .i64 k ∧ x = .int .i64 r ∧ k ≤ len ∧ r + len + sumTo (fun i => (kid i).weight) k = left ∧ Below w.heap.size w wr) (fun _ i _ => len - (intOf i).toNat)
    case atStart => exact ⟨0, left - len, rfl, by congr 1; omega, Nat.zero_le _, by simp [sumTo]; omega, Below.refl _ _⟩
    case round =>
      obtain ⟨k, r, rfl, rfl, hk, hsum, hbel⟩ := hrel
      have HBL : Hid (Below w.heap.size w wr) := hbel
      have HS : Hid (r + len + sumTo (fun i => (kid i).weight) k = left) := hsum
      have hr : r ≤ 1048576 := by omega
      clear hbel hsum
      by_cases hlt : (k : Int) < len
      · have hlt' : k < len := by omega
        obtain ⟨b, o, u, hp, hd, hin⟩ := HC.out k hlt'
        subst hp
        have hd1 := hd.below HBL.out
        have hin1 := hin.below HBL.out
        obtain ⟨c0, c1, c2, c3⟩ := hd1
        clear hd hin
        have HI : Hid ((kid k).In wr u) := hin1
        clear hin1
        by_cases hw : (kid k).weight ≤ r
        · have HN : Hid ((r - (kid k).weight) + len + sumTo (fun i => (kid i).weight) (k + 1) = left) := by
            have := HS.out
            show _ = _
            simp only [sumTo]; omega
          have e1 := szI_yes hw
          generalize hx : r - (kid k).weight = x at *
          have hx0 : (0 : Int) ≤ (x : Int) := by omega
          clear hx hw
          have E1 : Hid (szI r (kid k).weight = (x : Int)) := e1
          clear e1
          go_wp2_with fail
          refine (IH.out k hlt' wr u r HI.out hr).mono ?_
          rintro e w1 ⟨rfl, hb1⟩
          rw [E1.out]
          have HB1 : Hid (Below w.heap.size w w1) := HBL.out.trans (hb1.mono HBL.out.size)
          clear hb1 c0 c1 c2 c3
          go_wp2_with fail
          go_roundw
          case rel => exact ⟨k + 1, x, by go_num, rfl, by omega, HN.out, HB1.out⟩
          case measure => simp [intOf]; omega
        · have HR : Hid (szI left (kidsWeightK len kid) = -1) := by
            refine szI_no ?_
            have h1 := HS.out
            have h2 := sumTo_at (fun i => (kid i).weight) k len hlt'
            unfold kidsWeightK; omega
          have E1 : Hid (szI r (kid k).weight = -1) := szI_no (by omega)
          clear hw
          go_wp2_with fail
          refine (IH.out k hlt' wr u r HI.out hr).mono ?_
          rintro e w1 ⟨rfl, hb1⟩
          rw [E1.out]
          have HB1 : Hid (Below w.heap.size w w1) := HBL.out.trans (hb1.mono HBL.out.size)
          clear hb1 c0 c1 c2 c3
          go_wp2_with fail
          go_ret
          exact ⟨by rw [HR.out]; rfl, HB1.out⟩
      · have hke : k = len := by omega
        subst hke
        go_wp2
        go_ret
        refine ⟨?_, HBL.out⟩
        have h1 := HS.out
        have e : szI left (kidsWeightK k kid) = (r : Int) := by
          rw [szI_yes (by unfold kidsWeightK; omega)]
          congr 1; unfold kidsWeightK; omega
        rw [e]; rfl

theorem sz_blks (len : Nat) (kid : Nat → Kb) (w : World) (v : Value) (left : Nat) (hv : Kl w len kid v) (hl : left ≤ 1048576) :
    Calls Tryd.prog 4 #[v, .int .i64 left] w fun e w' => e = .returned (.int .i64 (szI left (kidsWeightK len kid))) ∧ Below w.heap.size w w' := sz_blksOf len kid (fun i _ => sz_blk (kid i)) w v left hv hl
end Go.Proofs.YthnhdmanmmdoiaaDoor
