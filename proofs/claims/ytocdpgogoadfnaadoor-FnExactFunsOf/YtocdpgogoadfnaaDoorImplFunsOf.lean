/- impl.FunsOf at any bytes. Conditions: at most 2^22 of them; the table of names reads as its text lays it. -/
import Derived.Test.YtocdpgogoadfnaaDoorImplTakeFuns
import Derived.Test.YtocdpgogoadfnaaDoorImplFunsOk2
import Derived.Deep.Cut
namespace Go.Proofs.YtocdpgogoadfnaaDoor
open Go.ChangeShapes Go.WideShapes Go.ChangeAt Go.RowKit

theorem parsed_fl {xs : List Nat} {L : List FO} (h : Parsed xs L) : getFL 60 xs 0 = some (L, xs.length) ∧ FunsP L.length (kidL L) := by
  obtain ⟨n, p, h1, h2, h3, h4⟩ := parsed_less h
  exact ⟨(getFL_some h1 (by omega)).trans h3, h4⟩
theorem fl_parsed {xs : List Nat} {L : List FO} (h : getFL 60 xs 0 = some (L, xs.length)) (hf : FunsP L.length (kidL L)) : Parsed xs L := by
  cases hn : getN xs 0 with
  | none => rw [getFL_none1 hn] at h; cases h
  | some r =>
    obtain ⟨n, p⟩ := r
    by_cases h1 : 60 < n
    · rw [getFL_none2 hn h1] at h; cases h
    · rw [getFL_some hn h1] at h
      exact less_parsed hn h hf
theorem fl_ok {xs : List Nat} {L : List FO} {q : Nat} (h : getFL 60 xs 0 = some (L, q)) : ∀ e ∈ L, FOk e := by
  cases hn : getN xs 0 with
  | none => rw [getFL_none1 hn] at h; cases h
  | some r =>
    obtain ⟨n, p⟩ := r
    by_cases h1 : 60 < n
    · rw [getFL_none2 hn h1] at h; cases h
    · rw [getFL_some hn h1] at h
      exact getFs_ok h

/-- What FunsOf answers, in memory of its own. -/
def OfPost (xs : List Nat) (w : World) (e : Ending) (w' : World) : Prop := ∃ L ok u le, e = .returned (.tuple #[u, .bool ok]) ∧ AnsF xs L ok ∧ FOwn w.heap.size w' u le ∧ strip le = L ∧ Below w.heap.size w w'

set_option maxRecDepth 100000 in
set_option maxHeartbeats 4000000 in
theorem impl_funs_of (xs : List Nat) (hx : ∀ x ∈ xs, x < 256) (v : Value) (w : World) (hv : RdY w v xs) (hl : xs.length ≤ 4194304) (ht : NameTab w) :
    Calls Tryd.prog 16 #[v] w (OfPost xs w) := by
  obtain ⟨b0, cap, ev, -⟩ := hv.shape
  obtain ⟨W, hW⟩ : ∃ W, W = w.alloc (.cells #[.int .i64 0] 3) := ⟨_, rfl⟩
  obtain ⟨K, hK⟩ : ∃ K, K = w.heap.size := ⟨_, rfl⟩
  have hbw : Below w.heap.size w W := by rw [hW]; exact new_belowY w _
  have HB : Hid (Below K w W) := by rw [hK]; exact hbw
  have hk : W.heap[K]? = some (.cells #[.int .i64 0] 3 (0, 0)) := by rw [hW, hK]; exact heap_alloc_new w _
  have hat : AtP W K ((0 : Nat) : Int) := ⟨cell_of_row W K 0 _ _ _ hk, frozen_of_row W K 0 _ _ hk⟩
  have HGB : Hid (∀ w', W.grownBy w' (some K) → Below K w w') := fun w' hg => by
    have h1 := HB.out
    have hsz : K < W.heap.size := hat.lt
    exact ⟨hg.os.trans h1.os, hg.tape.trans h1.tape, hg.output.trans h1.output, Nat.le_trans h1.size hg.size, fun k hk2 => (hg.block k (by omega) (by intro e; injection e with e; omega)).trans (h1.block k hk2)⟩
  have hro : RdO K W v xs := fun w' hg => hv.below (by rw [← hK]; exact HGB.out w' hg)
  have HT0 := take_funs xs hx 0 K v W hro hat hl
  have hKW : K < W.heap.size := hat.lt
  have HWW : Hid (w.alloc (.cells #[.int .i64 0] 3) = W) := hW.symm
  have HKK : Hid (w.heap.size = K) := hK.symm
  have HNT : Hid (∀ w', Below K w w' → NameTab w') := fun w' h => ht.below (by rw [← hK]; exact h)
  obtain ⟨POST, hPOST⟩ : ∃ POST, POST = OfPost xs w := ⟨_, rfl⟩
  rw [← hPOST]
  have HNO : Hid ((¬ ∃ L, Parsed xs L) → ∀ w', Below K w w' → POST (.returned (.tuple #[.slice none 0 0, .bool false])) w') := fun h w' hb => by
    rw [hPOST]; exact ⟨[], false, _, [], rfl, .inr ⟨rfl, rfl, h⟩, fown_nil _ _, rfl, by rw [← hK]; exact hb⟩
  have HYES : Hid (∀ (le : List Fe) (u : Value) (w' : World), Parsed xs (strip le) → FOwn K w' u le → Below K w w' → POST (.returned (.tuple #[u, .bool true])) w') := fun le u w' h ho hb => by
    rw [hPOST]; exact ⟨_, true, u, le, rfl, .inl ⟨rfl, h⟩, by rw [← hK]; exact ho, rfl, by rw [← hK]; exact hb⟩
  clear hPOST
  subst ev
  clear hW hbw hk hat hro hv hx hK ht
  cases hn : getFL 60 xs 0 with
  | none =>
    have HN : Hid (¬ ∃ L, Parsed xs L) := fun ⟨L, h⟩ => by rw [(parsed_fl h).1] at hn; cases hn
    rw [hn] at HT0
    clear hn
    go_enter Tryd.func16, Tryd.ntmps16
    go_wp2_with fail
    rw [HWW.out, HKK.out]
    refine HT0.mono ?_
    rintro e w2 ⟨hg2, c0, rfl, hat2⟩
    have H2 : Hid (Below K w w2) := HGB.out _ hg2
    clear hg2 hat2 HT0
    go_wp2_with fail
    exact HNO.out HN.out _ H2.out
  | some r =>
    obtain ⟨L, q⟩ := r
    have HFL : Hid (getFL 60 xs 0 = some (L, q)) := hn
    rw [hn] at HT0
    clear hn
    by_cases hq : q = xs.length
    · obtain ⟨R, hR⟩ : ∃ R : Bool, R = true ↔ FunsP L.length (kidL L) := by
        by_cases h : FunsP L.length (kidL L)
        · exact ⟨true, by simp [h]⟩
        · exact ⟨false, by simp [h]⟩
      have HR : Hid (R = true ↔ FunsP L.length (kidL L)) := hR
      have HQ : Hid (getFL 60 xs 0 = some (L, xs.length)) := by show _ = _; rw [← hq]; exact HFL.out
      have hq2 : ((q : Int) != xs.length) = false := by simp; omega
      clear hR hq
      go_enter Tryd.func16, Tryd.ntmps16
      go_wp2_with fail
      rw [HWW.out, HKK.out]
      refine HT0.mono ?_
      rintro e w2 ⟨hg2, u, le, rfl, hown2, hs2, hat2⟩
      subst hs2
      have H2 : Hid (Below K w w2) := HGB.out _ hg2
      have HO2 : Hid (FOwn W.heap.size w2 u le) := hown2
      obtain ⟨k0, f0⟩ := hat2
      have hK2 : K < w2.heap.size := World.block_lt_of_cell? w2 _ k0
      have HK2 : Hid (Calls Tryd.prog 22 #[u] w2 fun e w' => e = .returned (.bool R) ∧ Below w2.heap.size w2 w') :=
        impl_funs_ok le.length (kidL (strip le)) w2 u (hown2.flZ (fl_ok HFL.out)).all (HNT.out _ H2.out) R (by rw [← strip_len]; exact HR.out)
      clear hg2 hown2 HT0
      cases R with
      | false =>
        have HN : Hid (¬ ∃ L, Parsed xs L) := fun ⟨L', h⟩ => by
          have h2 := parsed_fl h
          rw [HQ.out] at h2
          obtain ⟨h3, h4⟩ := h2
          injection h3 with h3
          injection h3 with h3 _
          subst h3
          have := HR.out.2 h4
          cases this
        go_wp2_with (go_at_call 22; refine (HK2.out).mono ?_; rintro e w3 ⟨rfl, hb3⟩; have H3 : Hid (Below K w w3) := H2.out.trans (hb3.mono (by omega)))
        exact HNO.out HN.out _ H3.out
      | true =>
        have HP : Hid (Parsed xs (strip le)) := fl_parsed HQ.out (HR.out.1 rfl)
        go_wp2_with (go_at_call 22; refine (HK2.out).mono ?_; rintro e w3 ⟨rfl, hb3⟩; have H3 : Hid (Below K w w3 ∧ FOwn K w3 u le) := ⟨H2.out.trans (hb3.mono (by omega)), FOwn.stay HO2.out (by omega) hb3⟩)
        exact HYES.out le _ _ HP.out H3.out.2 H3.out.1
    · have HN : Hid (¬ ∃ L, Parsed xs L) := fun ⟨L', h⟩ => by
        have h2 := (parsed_fl h).1
        rw [HFL.out] at h2
        injection h2 with h2
        injection h2 with _ h2
        exact hq h2
      have hq2 : ((q : Int) != xs.length) = true := by simp; omega
      go_enter Tryd.func16, Tryd.ntmps16
      go_wp2_with fail
      rw [HWW.out, HKK.out]
      refine HT0.mono ?_
      rintro e w2 ⟨hg2, u, le, rfl, hown2, hs2, hat2⟩
      have H2 : Hid (Below K w w2) := HGB.out _ hg2
      obtain ⟨k0, f0⟩ := hat2
      clear hg2 hown2 HT0 hs2
      go_wp2_with fail
      exact HNO.out HN.out _ H2.out
end Go.Proofs.YtocdpgogoadfnaaDoor
