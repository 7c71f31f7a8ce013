/- What stands while spec.FunsOf reads: the function at work, the op at work. No conditions of our own. -/
import Derived.Test.YtocdpgogoadfnaaDoorSpecNum16
import Derived.Test.YtocdpgogoadfnaaDoorImplTakeFuns
namespace Go.Proofs.YtocdpgogoadfnaaDoor
open Go.ChangeShapes Go.WideShapes Go.ChangeAt Go.RowKit

/-- l16Num's answer in one form. -/
def NumR (xs : List Nat) (p : Nat) (ok : Bool) (z : Int) (q : Nat) (ok' : Bool) : Prop :=
  (ok' = true ∧ ok = true ∧ ∃ n : Nat, z = n ∧ getN xs p = some (n, q)) ∨ (ok' = false ∧ z = 0 ∧ (ok = true → getN xs p = none))
theorem NumR.bounds {xs : List Nat} {p q : Nat} {ok ok' : Bool} {z : Int} (h : NumR xs p ok z q ok') : 0 ≤ z ∧ z ≤ 2147483647 := by
  rcases h with ⟨_, _, n, rfl, h⟩ | ⟨_, rfl, _⟩
  · have := (getN_bound h).1; omega
  · omega
theorem spec_num (xs : List Nat) (hx : ∀ x ∈ xs, x < 256) (p : Nat) (ok : Bool) (K : Nat) (v : Value) (w : World) (hv : RdO K w v xs) (hc : CurY w K v p ok) (hl : xs.length ≤ 4194304) :
    Calls Tryd.prog 27 #[.pointer (some ⟨K, 0, none⟩)] w fun e w' => ∃ z q ok', e = .returned (.int .i64 z) ∧ w.grownBy w' (some K) ∧ CurY w' K v (q : Nat) ok' ∧ NumR xs p ok z q ok' := by
  refine (spec_num16 xs hx p ok K v w hv hc hl).mono ?_
  rintro e w' ⟨hg, hn⟩
  cases ok with
  | false => exact ⟨0, p, false, hn.1, hg, hn.2, .inr ⟨rfl, rfl, fun h => by cases h⟩⟩
  | true =>
    cases h : getN xs p with
    | none =>
      rw [if_pos rfl, h] at hn
      exact ⟨0, p, false, hn.1, hg, hn.2, .inr ⟨rfl, rfl, fun _ => h⟩⟩
    | some r =>
      obtain ⟨n, q⟩ := r
      rw [if_pos rfl, h] at hn
      exact ⟨n, q, true, hn.1, hg, hn.2, .inl ⟨rfl, rfl, n, rfl, h⟩⟩
/-- Three numbers are an op, or none is there. -/
theorem NumR.op {xs : List Nat} {p q1 q2 q3 : Nat} {o1 o2 o3 : Bool} {z1 z2 z3 : Int} (h1 : NumR xs p true z1 q1 o1) (h2 : NumR xs q1 o1 z2 q2 o2) (h3 : NumR xs q2 o2 z3 q3 o3) :
    (o3 = true ∧ getO xs p = some (⟨z1, z2 - 1073741824, z3⟩, q3)) ∨ (o3 = false ∧ getO xs p = none) := by
  rcases h3 with ⟨rfl, e2, n3, rfl, g3⟩ | ⟨rfl, rfl, g3⟩
  · rcases h2 with ⟨f2, e1, n2, rfl, g2⟩ | ⟨f2, rfl, g2⟩
    · rcases h1 with ⟨f1, _, n1, rfl, g1⟩ | ⟨f1, rfl, g1⟩
      · exact .inl ⟨rfl, getO_some g1 g2 g3⟩
      · rw [f1] at e1; cases e1
    · rw [f2] at e2; cases e2
  · refine .inr ⟨rfl, ?_⟩
    rcases h2 with ⟨f2, e1, n2, rfl, g2⟩ | ⟨f2, rfl, g2⟩
    · rcases h1 with ⟨f1, _, n1, rfl, g1⟩ | ⟨f1, rfl, g1⟩
      · exact getO_none3 g1 g2 (g3 f2)
      · rw [f1] at e1; cases e1
    · rcases h1 with ⟨f1, _, n1, rfl, g1⟩ | ⟨f1, rfl, g1⟩
      · exact getO_none2 g1 (g2 f1)
      · exact getO_none1 (g1 rfl)

/-- The function at work lies in block F: its Free, the row of its ops; K: the cursor's block; wr: the world in which it was begun. -/
structure FSt (wr : World) (K F : Nat) (v : Value) (fr : Int) (u : Value) (ol : List O3) (q : Nat) (ok : Bool) (w : World) : Prop where
  box : w.heap[F]? = some (.cells #[.int .i64 fr, u] 45 (0, 0))
  own : w.ownsRow (F + 1) 47 3 u ol.length (orows ol)
  cur : CurY w K v q ok
  gr : wr.grownBy w (some K)
  kf : K < F
  fw : wr.heap.size ≤ F

theorem FSt.lt {wr : World} {K F : Nat} {v : Value} {fr : Int} {u : Value} {ol : List O3} {q : Nat} {ok : Bool} {w : World} (h : FSt wr K F v fr u ol q ok w) : F < w.heap.size := (Array.getElem?_eq_some_iff.1 h.box).1
theorem own_keepK {w w' : World} {B e k n K : Nat} {v : Value} {xs : List Value} (h : w.ownsRow B e k v n xs) (hg : w.grownBy w' (some K)) (hK : K < B) : w'.ownsRow B e k v n xs :=
  own_grown h hg (fun g e1 e2 => by injection e2 with e2; have := (own_betweenZ h e1).1; omega)
/-- A number is read. -/
theorem FSt.num {wr : World} {K F : Nat} {v : Value} {fr : Int} {u : Value} {ol : List O3} {q q' : Nat} {ok ok' : Bool} {w w' : World} (h : FSt wr K F v fr u ol q ok w) (hg : w.grownBy w' (some K)) (hc : CurY w' K v q' ok') : FSt wr K F v fr u ol q' ok' w' :=
  ⟨(hg.block F h.lt (by intro e; injection e with e; have := h.kf; omega)).trans h.box, own_keepK h.own hg (by have := h.kf; omega), hc, grown_trans h.gr hg, h.kf, h.fw⟩
/-- Memory is made. -/
theorem FSt.new {wr : World} {K F : Nat} {v : Value} {fr : Int} {u : Value} {ol : List O3} {q : Nat} {ok : Bool} {w : World} (h : FSt wr K F v fr u ol q ok w) (o : Obj) : FSt wr K F v fr u ol q ok (w.alloc o) :=
  ⟨(Below.heap_alloc w o F h.lt).trans h.box, World.ownsRow.alloc h.own _, h.cur.kept (Below.heap_alloc w o K h.cur.lt), grown_new2 h.gr o, h.kf, h.fw⟩
/-- A store into another block that is none of the row's. -/
theorem FSt.off {wr : World} {K F : Nat} {v : Value} {fr : Int} {u : Value} {ol : List O3} {q : Nat} {ok : Bool} {w : World} (h : FSt wr K F v fr u ol q ok w) {X : Nat} (hX : F < X) (hu : u.ownBlock ≠ some X) (j : Nat) (y : Value) : FSt wr K F v fr u ol q ok (w.setCell ⟨X, j, none⟩ y) :=
  ⟨(Below.heap_setCell w ⟨X, j, none⟩ y F (by show F ≠ X; omega)).trans h.box, own_keepZ h.own (fun g e => Below.heap_setCell w ⟨X, j, none⟩ y g (by show g ≠ X; intro e2; exact hu (by rw [e, e2]))), h.cur.kept (Below.heap_setCell w ⟨X, j, none⟩ y K (by have := h.kf; show K ≠ X; omega)), grown_set2 h.gr (by have := h.fw; omega) j y, h.kf, h.fw⟩
/-- Its Free is stored. -/
theorem FSt.free {wr : World} {K F : Nat} {v : Value} {fr : Int} {u : Value} {ol : List O3} {q : Nat} {ok : Bool} {w : World} (h : FSt wr K F v fr u ol q ok w) (z : Int) : FSt wr K F v z u ol q ok (w.setCell ⟨F, 0, none⟩ (.int .i64 z)) :=
  ⟨heap_setCell_same w F 0 _ _ _ h.box, own_keepZ h.own (fun g e => Below.heap_setCell w ⟨F, 0, none⟩ _ g (by have := (own_betweenZ h.own e).1; show g ≠ F; omega)), h.cur.kept (Below.heap_setCell w ⟨F, 0, none⟩ _ K (by have := h.kf; show K ≠ F; omega)), grown_set2 h.gr h.fw 0 _, h.kf, h.fw⟩
/-- The row grew by an op, and is stored. -/
theorem FSt.push {wr : World} {K F : Nat} {v : Value} {fr : Int} {u u' : Value} {ol : List O3} {o : O3} {q : Nat} {ok : Bool} {w w' : World} (h : FSt wr K F v fr u ol q ok w) (hown : w'.ownsRow (F + 1) 47 3 u' (ol.length + 1) (orows ol ++ [.int .i64 o.c, .int .i64 o.n, .int .i64 o.m])) (hg : w.grownBy w' u.ownBlock) :
    FSt wr K F v fr u' (ol ++ [o]) q ok (w'.setCell ⟨F, 1, none⟩ u') := by
  have hb : ∀ k, k ≤ F → w'.heap[k]? = w.heap[k]? := fun k hk => hg.block k (by have := h.lt; omega) (fun e => by have := (own_betweenZ h.own e.symm).1; omega)
  have hbox : w'.heap[F]? = some (.cells #[.int .i64 fr, u] 45 (0, 0)) := (hb F (Nat.le_refl _)).trans h.box
  have ho := own_snocO hown
  refine ⟨heap_setCell_same w' F 1 _ _ u' hbox, own_keepZ ho (fun g e => Below.heap_setCell w' ⟨F, 1, none⟩ _ g (by have := (own_betweenZ ho e).1; show g ≠ F; omega)), ?_, ?_, h.kf, h.fw⟩
  · exact (h.cur.kept (hb K (by have := h.kf; omega))).kept (Below.heap_setCell w' ⟨F, 1, none⟩ _ K (by have := h.kf; show K ≠ F; omega))
  · refine grown_set2 ⟨hg.os.trans h.gr.os, hg.tape.trans h.gr.tape, hg.output.trans h.gr.output, Nat.le_trans h.gr.size hg.size, fun k hk hn => ?_⟩ h.fw 1 u'
    have := h.fw
    exact (hb k (by omega)).trans (h.gr.block k hk hn)
theorem FSt.begin {wr : World} {K : Nat} {v : Value} {q : Nat} {ok : Bool} (hc : CurY wr K v q ok) : FSt wr K wr.heap.size v 0 (.slice none 0 0) [] q ok (wr.alloc (.cells #[.int .i64 0, .slice none 0 0] 45)) :=
  ⟨heap_alloc_new wr _, own_nilO _ _, hc.kept (Below.heap_alloc wr _ K hc.lt), grown_new2 (World.grownBy.refl _ _) _, hc.lt, Nat.le_refl _⟩

/-- The op at work lies in block O. -/
def OSt (O : Nat) (z0 z1 z2 : Int) (w : World) : Prop := w.heap[O]? = some (.cells #[.int .i64 z0, .int .i64 z1, .int .i64 z2] 47 (0, 0))
theorem OSt.lt {O : Nat} {z0 z1 z2 : Int} {w : World} (h : OSt O z0 z1 z2 w) : O < w.heap.size := (Array.getElem?_eq_some_iff.1 h).1
theorem OSt.num {O K : Nat} {z0 z1 z2 : Int} {w w' : World} (h : OSt O z0 z1 z2 w) (hg : w.grownBy w' (some K)) (hk : O ≠ K) : OSt O z0 z1 z2 w' := (hg.block O h.lt (by intro e; injection e with e; omega)).trans h
theorem OSt.cells {O : Nat} {z0 z1 z2 : Int} {w : World} (h : OSt O z0 z1 z2 w) : (w.cell? ⟨O, 0, none⟩ = some (.int .i64 z0) ∧ w.cell? ⟨O, 1, none⟩ = some (.int .i64 z1) ∧ w.cell? ⟨O, 2, none⟩ = some (.int .i64 z2)) ∧ ∀ j, w.frozen? ⟨O, j, none⟩ = false :=
  ⟨⟨cell_of_row _ _ 0 _ _ _ h, cell_of_row _ _ 1 _ _ _ h, cell_of_row _ _ 2 _ _ _ h⟩, fun j => frozen_of_row w O j _ _ h⟩
theorem OSt.set0 {O : Nat} {z0 z1 z2 : Int} {w : World} (h : OSt O z0 z1 z2 w) (y : Int) : OSt O y z1 z2 (w.setCell ⟨O, 0, none⟩ (.int .i64 y)) := heap_setCell_same w O 0 _ _ _ h
theorem OSt.set1 {O : Nat} {z0 z1 z2 : Int} {w : World} (h : OSt O z0 z1 z2 w) (y : Int) : OSt O z0 y z2 (w.setCell ⟨O, 1, none⟩ (.int .i64 y)) := heap_setCell_same w O 1 _ _ _ h
theorem OSt.set2 {O : Nat} {z0 z1 z2 : Int} {w : World} (h : OSt O z0 z1 z2 w) (y : Int) : OSt O z0 z1 y (w.setCell ⟨O, 2, none⟩ (.int .i64 y)) := heap_setCell_same w O 2 _ _ _ h

/-- The bytes are no functions, if one is not there. -/
theorem no_parse {xs : List Nat} {n p : Nat} (h : getN xs 0 = some (n, p)) (h2 : getFs 2147483647 xs p n = none) : ¬ ∃ L, Parsed xs L := fun ⟨L, n', p', h3, h4, _⟩ => by
  rw [h] at h3
  injection h3 with h3
  injection h3 with h5 h6
  subst h5 h6
  rw [h2] at h4
  cases h4
theorem no_parse0 {xs : List Nat} (h : getN xs 0 = none) : ¬ ∃ L, Parsed xs L := fun ⟨L, n', p', h3, _, _⟩ => by rw [h] at h3; cases h3
theorem no_parse2 {xs : List Nat} {n p q : Nat} {L : List FO} (h : getN xs 0 = some (n, p)) (h2 : getFs 2147483647 xs p n = some (L, q)) (h3 : ¬ (q = xs.length ∧ FunsP L.length (kidL L))) : ¬ ∃ L, Parsed xs L := fun ⟨L', n', p', k1, k2, k3⟩ => by
  rw [h] at k1
  injection k1 with k1
  injection k1 with h5 h6
  subst h5 h6
  rw [h2] at k2
  injection k2 with k2
  injection k2 with h7 h8
  subst h7
  exact h3 ⟨h8, k3⟩
theorem below_grownK {K : Nat} {w wr w' : World} (hb : Below K w wr) (hg : wr.grownBy w' (some K)) (hKr : K ≤ wr.heap.size) : Below K w w' :=
  ⟨hg.os.trans hb.os, hg.tape.trans hb.tape, hg.output.trans hb.output, Nat.le_trans hb.size hg.size, fun k hk => (hg.block k (by omega) (by intro e; injection e with e; omega)).trans (hb.block k hk)⟩
theorem fown_lit (w : World) (B : Nat) (hB : B ≤ w.heap.size) : FOwn B (w.alloc (.cells #[] 45)) (.slice (some ⟨w.heap.size, 0, none⟩) 0 0) [] :=
  ⟨⟨rfl, .inr ⟨w.heap.size, 0, #[], rfl, hB, heap_alloc_new w _, Nat.le_refl _, Nat.zero_le _, rfl, rfl⟩⟩, (fun i e h => by simp at h), (fun i j ei ej h => by simp at h), (fun i e h => by simp at h)⟩
theorem FSt.pushed {wr : World} {K F : Nat} {v : Value} {fr : Int} {u : Value} {ol : List O3} {q : Nat} {ok : Bool} {w w' : World} (h : FSt wr K F v fr u ol q ok w) (hg : w.grownBy w' u.ownBlock) : w'.cell? ⟨F, 1, none⟩ = some u ∧ ∀ j, w'.frozen? ⟨F, j, none⟩ = false := by
  have hbox : w'.heap[F]? = some (.cells #[.int .i64 fr, u] 45 (0, 0)) := (hg.block F h.lt (fun e => by have := (own_betweenZ h.own e.symm).1; omega)).trans h.box
  exact ⟨cell_of_row _ _ 1 _ _ _ hbox, fun j => frozen_of_row w' F j _ _ hbox⟩
theorem FSt.cells {wr : World} {K F : Nat} {v : Value} {fr : Int} {u : Value} {ol : List O3} {q : Nat} {ok : Bool} {w : World} (h : FSt wr K F v fr u ol q ok w) : w.cell? ⟨F, 0, none⟩ = some (.int .i64 fr) ∧ w.cell? ⟨F, 1, none⟩ = some u ∧ ∀ j, w.frozen? ⟨F, j, none⟩ = false :=
  ⟨cell_of_row _ _ 0 _ _ _ h.box, cell_of_row _ _ 1 _ _ _ h.box, fun j => frozen_of_row w F j _ _ h.box⟩
theorem FSt.ushape {wr : World} {K F : Nat} {v : Value} {fr : Int} {u : Value} {ol : List O3} {q : Nat} {ok : Bool} {w : World} (h : FSt wr K F v fr u ol q ok w) : ∃ p c, u = .slice p ol.length c := by
  rcases h.own.2 with ⟨e, h0⟩ | ⟨g', cap', cur, e, _⟩
  · exact ⟨none, 0, by rw [e, h0]⟩
  · exact ⟨_, cap', e⟩

/-- How far functions were read: so many as n asks, or none are there. -/
def OutGB (xs : List Nat) (z : Int) (le : List Fe) (q : Nat) (ok : Bool) : Prop :=
  (ok = true ∧ ∃ n p : Nat, z = n ∧ getN xs 0 = some (n, p) ∧ getFs 2147483647 xs p le.length = some (strip le, q)) ∨ (ok = false ∧ ¬ ∃ L, Parsed xs L)
/-- How far ops were read. -/
def InGB (xs : List Nat) (q0 : Nat) (zf zm : Int) (ol : List O3) (q : Nat) (ok : Bool) : Prop :=
  (ok = true ∧ ∃ c p1 m p2 : Nat, zf = c ∧ zm = m ∧ getN xs q0 = some (c, p1) ∧ getN xs p1 = some (m, p2) ∧ getOs xs p2 ol.length = some (ol, q)) ∨ (ok = false ∧ getF 2147483647 xs q0 = none)
theorem OutGB.begin {xs : List Nat} {z : Int} {q : Nat} {ok : Bool} (h : NumR xs 0 true z q ok) : OutGB xs z [] q ok := by
  rcases h with ⟨rfl, _, n, rfl, h⟩ | ⟨rfl, rfl, h⟩
  · exact .inl ⟨rfl, n, q, rfl, h, rfl⟩
  · exact .inr ⟨rfl, no_parse0 (h rfl)⟩
theorem InGB.begin {xs : List Nat} {q0 q1 q2 : Nat} {zf zm : Int} {o1 o2 : Bool} (h1 : NumR xs q0 true zf q1 o1) (h2 : NumR xs q1 o1 zm q2 o2) : InGB xs q0 zf zm [] q2 o2 := by
  rcases h2 with ⟨rfl, e1, m, rfl, g2⟩ | ⟨rfl, rfl, g2⟩
  · rcases h1 with ⟨f1, _, c, rfl, g1⟩ | ⟨f1, rfl, g1⟩
    · exact .inl ⟨rfl, c, q1, m, q2, rfl, rfl, g1, g2, rfl⟩
    · rw [f1] at e1; cases e1
  · refine .inr ⟨rfl, ?_⟩
    rcases h1 with ⟨f1, _, c, rfl, g1⟩ | ⟨f1, rfl, g1⟩
    · exact getF_none2 g1 (g2 f1)
    · exact getF_none1 (g1 rfl)
theorem InGB.step {xs : List Nat} {q0 q q3 : Nat} {zf zm : Int} {ol : List O3} {o : O3} {o3 : Bool} (h : InGB xs q0 zf zm ol q true) (hl : (ol.length : Int) < zm) (ho : (o3 = true ∧ getO xs q = some (o, q3)) ∨ (o3 = false ∧ getO xs q = none)) : InGB xs q0 zf zm (ol ++ [o]) q3 o3 := by
  rcases h with ⟨_, c, p1, m, p2, rfl, rfl, g1, g2, g3⟩ | ⟨h, _⟩
  · rcases ho with ⟨rfl, g4⟩ | ⟨rfl, g4⟩
    · exact .inl ⟨rfl, c, p1, m, p2, rfl, rfl, g1, g2, by rw [List.length_append]; exact getOs_more g3 g4⟩
    · exact .inr ⟨rfl, getF_none4 g1 g2 (getOs_stop g3 g4 m (by omega))⟩
  · cases h
theorem InGB.done {xs : List Nat} {q0 q : Nat} {zf zm : Int} {ol : List O3} {ok : Bool} (h : InGB xs q0 zf zm ol q ok) (hl : ok = true → (ol.length : Int) = zm) : (ok = true ∧ getF 2147483647 xs q0 = some ((zf, ol), q)) ∨ (ok = false ∧ getF 2147483647 xs q0 = none) := by
  rcases h with ⟨rfl, c, p1, m, p2, rfl, rfl, g1, g2, g3⟩ | h
  · have e : ol.length = m := by have := hl rfl; omega
    rw [e] at g3
    exact .inl ⟨rfl, getF_some g1 g2 (by have := (getN_bound g2).1; omega) g3⟩
  · exact .inr h
theorem OutGB.step {xs : List Nat} {z : Int} {le : List Fe} {q q' : Nat} {zf : Int} {ol : List O3} {u : Value} {ok : Bool} (h : OutGB xs z le q true) (hl : (le.length : Int) < z) (ho : (ok = true ∧ getF 2147483647 xs q = some ((zf, ol), q')) ∨ (ok = false ∧ getF 2147483647 xs q = none)) : OutGB xs z (le ++ [⟨zf, ol, u⟩]) q' ok := by
  rcases h with ⟨_, n, p, rfl, g1, g2⟩ | ⟨h, _⟩
  · rcases ho with ⟨rfl, g4⟩ | ⟨rfl, g4⟩
    · exact .inl ⟨rfl, n, p, rfl, g1, by rw [List.length_append, strip_snoc]; exact getFs_more g2 g4⟩
    · exact .inr ⟨rfl, no_parse g1 (getFs_stop g2 g4 n (by omega))⟩
  · cases h
end Go.Proofs.YtocdpgogoadfnaaDoor
