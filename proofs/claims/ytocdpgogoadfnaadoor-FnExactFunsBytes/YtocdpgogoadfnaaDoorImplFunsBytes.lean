/- impl.FunsBytes at every list of functions. Condition: they lie in memory. -/
import Derived.Test.YtocdpgogoadfnaaDoorImplBytes16
namespace Go.Proofs.YtocdpgogoadfnaaDoor
open Go.ChangeShapes Go.WideShapes Go.ChangeAt Go.RowKit

/-- What FunsBytes answers. -/
def FunsY (nf : Nat) (kid : Nat → Fu) (L : List Nat) : Prop := (FunsP nf kid ∧ L = bytesF nf kid) ∨ (¬ FunsP nf kid ∧ L = [])
def BytesPost (nf : Nat) (kid : Nat → Fu) (w : World) (e : Ending) (w' : World) : Prop := ∃ u L, e = .returned u ∧ FunsY nf kid L ∧ OwnY w' w.heap.size u L ∧ Below w.heap.size w w'
theorem funsY_same {nf : Nat} {kid : Nat → Fu} {L L' : List Nat} (h : FunsY nf kid L) (h' : FunsY nf kid L') : L' = L := by
  rcases h with ⟨h1, rfl⟩ | ⟨h1, rfl⟩ <;> rcases h' with ⟨k1, rfl⟩ | ⟨k1, rfl⟩
  · rfl
  · exact absurd h1 k1
  · exact absurd k1 h1
  · rfl
theorem funsY_most {nf : Nat} {kid : Nat → Fu} {L : List Nat} (h : FunsY nf kid L) : L.length ≤ 2760010 := by
  rcases h with ⟨h1, rfl⟩ | ⟨_, rfl⟩
  · exact bytesF_len h1
  · exact Nat.zero_le _
theorem pre_len {nf : Nat} {kid : Nat → Fu} (h : FunsP nf kid) {k : Nat} (hk : k ≤ nf) : (putN nf ++ funsY kid k).length ≤ 2760005 := by
  obtain ⟨h1, h2, h3⟩ := nums_fun h
  have := funsY_len h3 k hk
  have := putN_len5 (n := nf) (by omega)
  rw [List.length_append]
  omega

set_option maxRecDepth 100000 in
set_option maxHeartbeats 2000000 in
theorem impl_funs_bytes (nf : Nat) (kid : Nat → Fu) (w : World) (v : Value) (hv : Fl w nf kid v) (ht : NameTab w) :
    Calls Tryd.prog 8 #[v] w (BytesPost nf kid w) := by
  obtain ⟨R, hR⟩ : ∃ R : Bool, R = true ↔ FunsP nf kid := by
    by_cases h : FunsP nf kid
    · exact ⟨true, by simp [h]⟩
    · exact ⟨false, by simp [h]⟩
  have HK : Hid (Calls Tryd.prog 22 #[v] w fun e w' => e = .returned (.bool R) ∧ Below w.heap.size w w') := impl_funs_ok nf kid w v hv ht R hR
  obtain ⟨p, cap, ev⟩ := hv.shape
  obtain ⟨POST, hPOST⟩ : ∃ POST, POST = BytesPost nf kid w := ⟨_, rfl⟩
  rw [← hPOST]
  have HPOST : Hid (∀ u L w', FunsY nf kid L → OwnY w' w.heap.size u L → Below w.heap.size w w' → POST (.returned u) w') := fun u L w' h1 h2 h3 => by rw [hPOST]; exact ⟨u, L, rfl, h1, h2, h3⟩
  clear hPOST
  cases R with
  | false =>
    have hno : ¬ FunsP nf kid := fun h => by have := hR.2 h; cases this
    have HN : Hid (FunsY nf kid []) := .inr ⟨hno, rfl⟩
    subst ev
    clear hv ht hR hno
    go_enter Tryd.func8, Tryd.ntmps8
    go_wp2_with fail
    refine HK.out.mono ?_
    rintro e w1 ⟨rfl, hb⟩
    have HB : Hid (Below w.heap.size w w1) := hb
    clear hb
    go_wp2_with fail
    exact HPOST.out _ [] _ HN.out (World.ownsRow_nil _ _ _ _) HB.out
  | true =>
    have hok : FunsP nf kid := hR.1 rfl
    obtain ⟨h60, h1, hnums⟩ := nums_fun hok
    have HNU : Hid (∀ i, i < nf → NumsF (kid i)) := hnums
    have HPRE : Hid (∀ k, k ≤ nf → (putN nf ++ funsY kid k).length ≤ 2760005) := fun k hk => pre_len hok hk
    have HDONE : Hid (FunsY nf kid (putN nf ++ funsY kid nf)) := .inl ⟨hok, rfl⟩
    have HC : Hid (∀ w1, Below w.heap.size w w1 → ∀ i, i < nf → ∃ b o u, p = some ⟨b, o, none⟩ ∧ HeadF w1 b (o + i * 2) (kid i) u ∧ (kid i).In w1 u) := fun w1 hb => by
      obtain ⟨p1, c1, e1, _, h⟩ := (hv.below hb).at
      rw [ev] at e1
      injection e1 with e1 _ _
      subst e1
      exact h
    have HIN : Hid (∀ (i : Nat) (w1 w2 : World) (u : Value), (kid i).In w1 u → Below w1.heap.size w1 w2 → Ol w2 (kid i).len (kid i).op u) := fun i w1 w2 u h hb => (h.below hb).sl
    have HT0 : Hid (funsY kid 0 = []) := rfl
    have HTS : Hid (∀ k, funsY kid (k + 1) = funsY kid k ++ (putN (kid k).fr.toNat ++ (putN (kid k).len ++ opsY (kid k).op (kid k).len))) := fun k => rfl
    have HA0 : Hid (∀ w1, Calls Tryd.prog 23 #[.slice none 0 0, .int .i64 (nf : Int)] w1 fun e w' => ∃ u, e = .returned u ∧ OwnY w' w1.heap.size u (putN nf) ∧ Below w1.heap.size w1 w') := fun w1 => append_num nf w1.heap.size (.slice none 0 0) [] w1 (World.ownsRow_nil _ _ _ _) (Nat.le_refl _) (by simp) (by omega)
    obtain ⟨B, hB⟩ : ∃ B, B = w.heap.size := ⟨_, rfl⟩
    rw [← hB] at HK HPOST HC
    have HBW : Hid (B = w.heap.size) := hB
    subst ev
    clear hv ht hR hok hnums hB
    go_enter Tryd.func8, Tryd.ntmps8
    go_wp2_with fail
    refine HK.out.mono ?_
    rintro e w1 ⟨rfl, hb⟩
    have HB : Hid (Below B w w1 ∧ B ≤ w1.heap.size) := ⟨hb, by rw [HBW.out]; exact hb.size⟩
    clear hb HK
    go_wp2_with fail
    refine (HA0.out w1).mono ?_
    rintro e w2 ⟨u, rfl, ho, hb⟩
    have HB2 : Hid (Below B w w2 ∧ OwnY w2 B u (putN nf)) := ⟨HB.out.1.trans (hb.mono HB.out.2), ho.mono HB.out.2⟩
    clear ho hb HA0 HB
    go_wp2_with fail
    go_loopw [3, 14] (fun r i wr => ∃ (k : Nat) (r0 : Value), r0 = r ∧ i = .int .i64 k ∧ k ≤ nf ∧ OwnY wr B r0 (putN nf ++ funsY kid k) ∧ Below B w wr) (fun _ i _ => nf - (intOf i).toNat)
    case atStart => exact ⟨0, _, rfl, rfl, Nat.zero_le _, by rw [HT0.out, List.append_nil]; exact HB2.out.2, HB2.out.1⟩
    case round =>
      obtain ⟨k, r0, rfl, rfl, hk, hown, hbel⟩ := hrel
      have HOW : Hid (OwnY wr B r0 (putN nf ++ funsY kid k)) := hown
      have HB : Hid (Below B w wr) := hbel
      have HSZ : Hid (B ≤ wr.heap.size) := by have := hbel.size; rw [HBW.out]; exact this
      clear hown hbel HB2
      by_cases hlt : (k : Int) < nf
      · have hlt' : k < nf := by omega
        obtain ⟨b, o, u, rfl, ⟨c0, c1⟩, hin⟩ := HC.out wr HB.out k hlt'
        obtain ⟨pu, cu, eu⟩ := hin.sl.shape
        subst eu
        have HNF : Hid (NumsF (kid k)) := HNU.out k hlt'
        have hfr := HNF.out.1
        have hML := HPRE.out k (by omega)
        have HES : Hid (putN nf ++ funsY kid (k + 1) = putN nf ++ funsY kid k ++ putN (kid k).fr.toNat ++ (putN (kid k).len ++ opsY (kid k).op (kid k).len)) := by
          show _ = _
          rw [HTS.out]
          simp only [List.append_assoc]
        have HOL : Hid (∀ w2, Below wr.heap.size wr w2 → Ol w2 (kid k).len (kid k).op (.slice pu (kid k).len cu)) := fun w2 hb => HIN.out k wr w2 _ hin hb
        have HPL : Hid (∀ (B2 : Nat) (v : Value) (L : List Nat) (w : World), OwnY w B2 v L → B2 ≤ w.heap.size → L.length ≤ 3000000 → (∀ w1, Below B2 w w1 → Ol w1 (kid k).len (kid k).op (.slice pu (kid k).len cu)) → Calls Tryd.prog 24 #[v, .slice pu (kid k).len cu] w fun e w' => ∃ u, e = .returned u ∧ OwnY w' B2 u (L ++ (putN (kid k).len ++ opsY (kid k).op (kid k).len)) ∧ Below B2 w w') := fun B2 v L w h1 h2 h3 h4 => impl_places16 (kid k) HNF.out B2 v _ L w h1 h2 h3 h4
        have HOLB : Hid (∀ w2, Below B wr w2 → Ol w2 (kid k).len (kid k).op (.slice pu (kid k).len cu)) := fun w2 hb => by
          obtain ⟨b2, o2, u2, e2, hd2, hin2⟩ := HC.out w2 (HB.out.trans hb) k hlt'
          injection e2 with e2
          injection e2 with e3 e4 _
          subst e3 e4
          obtain ⟨b3, o3, u3, e3, hd3, hin3⟩ := HC.out w (Below.refl _ _) k hlt'
          injection e3 with e3
          injection e3 with e5 e6 _
          subst e5 e6
          have hbw : Below w.heap.size w wr := by rw [← HBW.out]; exact HB.out
          have hbw2 : Below w.heap.size w w2 := by rw [← HBW.out]; exact HB.out.trans hb
          have q1 := (hd3.below hbw).c1
          have q2 := (hd3.below hbw2).c1
          rw [c1] at q1
          rw [hd2.c1] at q2
          injection q1 with q1
          injection q2 with q2
          subst q1
          rw [← q2]
          exact hin2.sl
        clear hin HOL
        generalize (kid k).fr = F at *
        generalize putN (kid k).len ++ opsY (kid k).op (kid k).len = T at *
        generalize hLen : (kid k).len = N at *
        obtain ⟨M, hM⟩ : ∃ M, M = putN nf ++ funsY kid k := ⟨_, rfl⟩
        rw [← hM] at HOW HES hML
        clear hM
        obtain ⟨K, hK⟩ : ∃ K, K = wr.heap.size := ⟨_, rfl⟩
        obtain ⟨W, hW⟩ : ∃ W, W = wr.alloc (.cells #[.int .i64 F, .slice pu N cu] 45) := ⟨_, rfl⟩
        have HWW : Hid (wr.alloc (.cells #[.int .i64 F, .slice pu N cu] 45) = W) := hW.symm
        have HKK : Hid (wr.heap.size = K) := hK.symm
        have hrow : W.heap[K]? = some (.cells #[.int .i64 F, .slice pu N cu] 45 (0, 0)) := by rw [hW, hK]; exact heap_alloc_new wr _
        have k0 : W.cell? ⟨K, 0, none⟩ = some (.int .i64 F) := cell_of_row _ _ 0 _ _ _ hrow
        have HK1 : Hid (W.cell? ⟨K, 1, none⟩ = some (.slice pu N cu)) := cell_of_row _ _ 1 _ _ _ hrow
        have HAY : Hid (AY K B W r0 M) := by rw [hW, hK]; exact AY.new HOW.out HSZ.out _
        have HBA : Hid (Below B wr W) := by rw [hW]; exact (newb wr _).mono HSZ.out
        clear hW hK hrow HOW HSZ
        go_wp2_with (rw [HWW.out, HKK.out])
        refine (app_at F (by omega) (by omega) B r0 M W HAY.out.own HAY.out.le (by omega)).mono ?_
        rintro e w2 ⟨r1, rfl, ho, hg, hw⟩
        have A2 := HAY.out.app ho hg hw
        have HA2 : Hid (AY K B w2 r1 (M ++ putN F.toNat)) := A2.1
        have HS2 : Hid (Below B wr w2) := HBA.out.trans A2.2.below
        have k1 := A2.2.cell HK1.out
        have hM2 : (M ++ putN F.toNat).length ≤ 2760010 := by have := put_num_len F (by omega); rw [List.length_append]; omega
        clear ho hg hw A2 HAY k0 HBA
        go_wp2_with fail
        refine (HPL.out B r1 _ w2 HA2.out.own HA2.out.le (by omega) (fun w3 hb => HOLB.out w3 (HS2.out.trans hb))).mono ?_
        rintro e w3 ⟨r2, rfl, ho, hb⟩
        have HO3 : Hid (OwnY w3 B r2 (M ++ putN F.toNat ++ T)) := ho
        have HB3 : Hid (Below B w w3) := HB.out.trans (HS2.out.trans hb)
        clear ho hb
        go_wp2_with fail
        go_roundw
        case rel => exact ⟨k + 1, _, rfl, by go_num, by omega, by rw [HES.out]; exact HO3.out, HB3.out⟩
        case measure => simp [intOf]; omega
      · have hke : k = nf := by omega
        subst hke
        go_wp2_with fail
        exact HPOST.out _ _ _ HDONE.out HOW.out HB.out
end Go.Proofs.YtocdpgogoadfnaaDoor
