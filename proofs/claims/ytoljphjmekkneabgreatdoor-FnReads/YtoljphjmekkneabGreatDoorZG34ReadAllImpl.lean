/- impl.ReadAll's deferred closure: with a misfit it lays the place, else nothing. No conditions. -/
import Derived.Test.YtoljphjmekkneabGreatDoorZG5ReadAcc
import Derived.Test.YtoljphjmekkneabGreatDoorZG33ReadDats
import Derived.Tactics
import Derived.Tactics2
import Derived.Defers
import Derived.Recover
import Derived.Laws.Pointers
namespace Go.Proofs.YtoljphjmekkneabGreatDoor
open Go.ChangeShapes Go.WideShapes Go.ChangeAt Go.RowKit

theorem assert_yes (W : World) (v : Value) : (Instr.typeAssert (.iface 41 v) 20 41 true).run Tryz.prog W = .ok (.tuple #[v, .bool true]) W := by kernel_rfl
theorem assert_no (W : World) : (Instr.typeAssert .nilIface 20 41 true).run Tryz.prog W = .ok (.tuple #[.int .i64 0, .bool false]) W := by kernel_rfl

set_option maxRecDepth 100000 in
set_option maxHeartbeats 2000000 in
theorem door_panics (a b : Nat) (x y : Value) (p : Int) (older : List PanicEntry) (w : World) (ha : w.cell? ⟨a, 0, none⟩ = some x) (hb : w.cell? ⟨b, 0, none⟩ = some y) (hab : a ≠ b) (hfa : w.frozen? ⟨a, 0, none⟩ = false) (hfb : w.frozen? ⟨b, 0, none⟩ = false) :
    CallsD Tryz.prog 20 #[.pointer (some ⟨a, 0, none⟩), .pointer (some ⟨b, 0, none⟩)] (.panicking ({ v := .iface 41 (.int .i64 p), recovered := false } :: older)) w fun e u' w' =>
      e = .returned (.tuple #[]) ∧ u' = .panicking ({ v := .iface 41 (.int .i64 p), recovered := true } :: older) ∧ w' = (w.setCell ⟨a, 0, none⟩ (.slice none 0 0)).setCell ⟨b, 0, none⟩ (.int .i64 p) := by
  refine callsD_of_wpS Tryz.func20 rfl fun c₀ cs hu => ?_
  apply wpS_seq
  apply wpS_region
  simp [wpOpsS, go_sem, recoverD, hu, Tryz.ntmps20, Exit.thenS, assert_yes, Array.replicate]
  apply wpS_seq
  apply wpS_region
  simp [wpOpsS, go_sem, Exit.thenS]
  refine wpS_cond (t := true) (by simp [Act.eval]) ?_
  simp only [if_true]
  apply wpS_region
  have hba : (⟨b, 0, none⟩ : Addr) ≠ ⟨a, 0, none⟩ := by intro e; injection e with e; exact hab e.symm
  have hb2 : (w.setCell ⟨a, 0, none⟩ (.slice none 0 0)).cell? ⟨b, 0, none⟩ = some y := (World.cell?_of_block (w := w) (Below.heap_setCell w ⟨a, 0, none⟩ _ b (fun e => hab e.symm))).trans hb
  have hf2 : (w.setCell ⟨a, 0, none⟩ (.slice none 0 0)).frozen? ⟨b, 0, none⟩ = false := (World.frozen?_of_block (w := w) (Below.heap_setCell w ⟨a, 0, none⟩ _ b (fun e => hab e.symm))).trans hfb
  simp [wpOpsS, go_sem, ha, hfa, hb2, hf2, bodyPostS, results, Tryz.results20]

set_option maxRecDepth 100000 in
set_option maxHeartbeats 2000000 in
theorem door_idle (a b : Nat) (w : World) :
    CallsD Tryz.prog 20 #[.pointer (some ⟨a, 0, none⟩), .pointer (some ⟨b, 0, none⟩)] .returning w fun e u' w' => e = .returned (.tuple #[]) ∧ u' = .returning ∧ w' = w := by
  refine callsD_of_wpS Tryz.func20 rfl fun c₀ cs hu => ?_
  apply wpS_seq
  apply wpS_region
  simp [wpOpsS, go_sem, recoverD, hu, Tryz.ntmps20, Exit.thenS, assert_no, Array.replicate]
  apply wpS_seq
  apply wpS_region
  simp [wpOpsS, go_sem, Exit.thenS]
  refine wpS_cond (t := false) (by simp [Act.eval]) ?_
  simp only [Bool.false_eq_true, if_false]
  refine wpS_of_wp (wp_skip ?_)
  cases c₀
  simp_all [bodyPostS, results, Tryz.results20]
end Go.Proofs.YtoljphjmekkneabGreatDoor

/- impl.ReadAll. Conditions: those of impl.Tokens. -/
namespace Go.Proofs.YtoljphjmekkneabGreatDoor
open Go.ChangeShapes Go.WideShapes Go.ChangeAt Go.RowKit

theorem results_cells2 {fn : Func} {p q : Tmp} {ty tz : TypeId} (h : fn.results = #[.cell p ty, .cell q tz]) (tmps : Array Value) (P : Program) (w : World) :
    (results fn tmps).run P w = ((asAddr (tmps.getD p undef)).run P w).andThen fun a w₁ => ((loadVar ty a).run P w₁).andThen fun v w₂ => ((asAddr (tmps.getD q undef)).run P w₂).andThen fun b w₃ => ((loadVar tz b).run P w₃).andThen fun u w₄ => .ok (.tuple #[v, u]) w₄ := by
  simp only [results, h]
  simp [Sem.run_bind, Result.andThen]

def AllSay (w : World) (res : Rdr (List D)) (e : Ending) (w' : World) : Prop :=
  Below w.heap.size w w' ∧ match res with
    | .bad p => e = .returned (.tuple #[.slice none 0 0, .int .i64 p])
    | .ok ds _ => ∃ v T, e = .returned (.tuple #[v, .int .i64 (-1)]) ∧ SOwn w' ds.length (kidsOf ds) v T ∧ T.Nodup ∧ (∀ x ∈ T, w.heap.size ≤ x)

set_option maxRecDepth 100000 in
set_option maxHeartbeats 4000000 in
theorem read_all (s : ByteArray) (hs : s.size ≤ 1048576) (w : World) (ht : PowTab w) (hv : ErrVars w) :
    Calls Tryz.prog 6 #[.string s] w (AllSay w (readP s)) := by
  have hmf : ∀ (fn : Fn) (first cap : Array Value) (w : World), (Instr.makeFunc fn first cap).run Tryz.prog w = .ok (.func fn first cap) w := fun _ _ _ _ => rfl
  have HBB : Hid (∀ o1 o2, Below w.heap.size w ((w.alloc o1).alloc o2)) := fun o1 o2 => (newb w o1).trans ((newb _ o2).mono (by simp))
  have HRD : Hid (∀ w1, Below w.heap.size w w1 → Calls Tryz.prog 21 #[.string s] w1 (DatsSay w1 (readP s))) := fun w1 h => read_dats s hs w1 (ht.below h) (hv.below h)
  clear ht hv
  generalize readP s = res at *
  have hN0 : ((w.alloc (.cells #[.slice none 0 0] 25)).alloc (.cells #[.int .i64 0] 3)).heap[w.heap.size]? = some (.cells #[.slice none 0 0] 25 (0, 0)) := (Below.heap_alloc _ _ _ (by simp)).trans (heap_alloc_new w _)
  have hN1 : ((w.alloc (.cells #[.slice none 0 0] 25)).alloc (.cells #[.int .i64 0] 3)).heap[w.heap.size + 1]? = some (.cells #[.int .i64 0] 3 (0, 0)) := by
    have := heap_alloc_new (w.alloc (.cells #[.slice none 0 0] 25)) (.cells #[.int .i64 0] 3)
    simpa using this
  have HN : Hid (((w.alloc (.cells #[.slice none 0 0] 25)).alloc (.cells #[.int .i64 0] 3)).heap[w.heap.size]? = some (.cells #[.slice none 0 0] 25 (0, 0)) ∧ ((w.alloc (.cells #[.slice none 0 0] 25)).alloc (.cells #[.int .i64 0] 3)).heap[w.heap.size + 1]? = some (.cells #[.int .i64 0] 3 (0, 0))) := ⟨hN0, hN1⟩
  clear hN0 hN1
  go_enter_defers Tryz.func6, Tryz.ntmps6
  go_wp2_with fail
  refine (HRD.out _ (HBB.out _ _)).mono ?_
  rintro e w1 ⟨hb1, hm⟩
  have hz0 : w1.heap[w.heap.size]? = some (.cells #[.slice none 0 0] 25 (0, 0)) := (hb1.block _ (by simp; omega)).trans HN.out.1
  have hz1 : w1.heap[w.heap.size + 1]? = some (.cells #[.int .i64 0] 3 (0, 0)) := (hb1.block _ (by simp)).trans HN.out.2
  have c0 : w1.cell? ⟨w.heap.size, 0, none⟩ = some (.slice none 0 0) := cell_of_row w1 _ 0 _ _ _ hz0
  have c1 : w1.cell? ⟨w.heap.size + 1, 0, none⟩ = some (.int .i64 0) := cell_of_row w1 _ 0 _ _ _ hz1
  have f0 : w1.frozen? ⟨w.heap.size, 0, none⟩ = false := frozen_of_row w1 _ 0 _ _ hz0
  have f1 : w1.frozen? ⟨w.heap.size + 1, 0, none⟩ = false := frozen_of_row w1 _ 0 _ _ hz1
  have HB1 : Hid (Below w.heap.size w w1) := (HBB.out _ _).trans (hb1.mono (HBB.out _ _).size)
  have hsz : w.heap.size + 2 ≤ w1.heap.size := by have := hb1.size; simp at this; omega
  clear hb1 hz0 hz1 HN
  cases res with
  | bad p =>
    simp only at hm
    subst hm
    go_wp2_with fail
    refine leaves_cons (f := 20) (args := #[.pointer (some ⟨w.heap.size, 0, none⟩), .pointer (some ⟨w.heap.size + 1, 0, none⟩)]) (by simp) (by simp [go_sem]) ?_
    refine (door_panics w.heap.size (w.heap.size + 1) _ _ p [] w1 c0 c1 (by omega) f0 f1).mono ?_
    rintro e u' w'' ⟨rfl, rfl, rfl⟩
    simp only [settle]
    refine ⟨.tuple #[.slice none 0 0, .int .i64 p], ?_, ?_⟩
    · rw [results_cells2 (p := 2) (q := 3) (ty := 25) (tz := 3) (by kernel_rfl)]
      simp [go_sem, c0, c1]
    · exact ⟨(HB1.out.setCell (p := ⟨w.heap.size, 0, none⟩) (Nat.le_refl _) _).setCell (p := ⟨w.heap.size + 1, 0, none⟩) (by show _ ≤ _ + 1; omega) _, rfl⟩
  | ok ds r =>
    simp only at hm
    obtain ⟨v, T, rfl, hso, hTn, hTB⟩ := hm
    obtain ⟨pv, cv, ev⟩ := hso.sl.shape
    have HS : Hid (SOwn w1 ds.length (kidsOf ds) v T ∧ T.Nodup ∧ (∀ x ∈ T, w.heap.size + 2 ≤ x)) := ⟨hso, hTn, fun x hx => by have := hTB x hx; simp at this; omega⟩
    clear hso hTn hTB
    subst ev
    go_wp2_with fail
    refine leaves_cons (f := 20) (args := #[.pointer (some ⟨w.heap.size, 0, none⟩), .pointer (some ⟨w.heap.size + 1, 0, none⟩)]) (by simp) (by simp [go_sem]) ?_
    refine (door_idle w.heap.size (w.heap.size + 1) _).mono ?_
    rintro e u' w'' ⟨rfl, rfl, rfl⟩
    simp only [settle, Leaves]
    refine ⟨.tuple #[.slice pv ds.length cv, .int .i64 (-1)], ?_, ?_⟩
    · rw [results_cells2 (p := 2) (q := 3) (ty := 25) (tz := 3) (by kernel_rfl)]
      simp [go_sem, c0, c1]
    · refine ⟨(HB1.out.setCell (p := ⟨w.heap.size, 0, none⟩) (Nat.le_refl _) _).setCell (p := ⟨w.heap.size + 1, 0, none⟩) (by show _ ≤ _ + 1; omega) _, _, T, rfl, HS.out.1.same (fun x hx => ?_), HS.out.2.1, fun x hx => by have := HS.out.2.2 x hx; omega⟩
      have h2 := HS.out.2.2 x hx
      rw [Below.heap_setCell _ _ _ _ (by show x ≠ w.heap.size + 1; omega), Below.heap_setCell _ _ _ _ (by show x ≠ w.heap.size; omega)]
end Go.Proofs.YtoljphjmekkneabGreatDoor
