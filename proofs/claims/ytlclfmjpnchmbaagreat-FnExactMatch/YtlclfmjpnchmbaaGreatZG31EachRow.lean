/- impl.tellOneByOne. Condition: at most 2^20 of each. -/
import Derived.Test.YtlclfmjpnchmbaaGreatZG30TellGots
import Derived.Test.YtlclfmjpnchmbaaGreatZG27ImplEmpty
import Derived.Deep.RegionWith
import Derived.Deep.Cut
namespace Go.Proofs.YtlclfmjpnchmbaaGreat
open Go.ChangeShapes Go.WideShapes Go.ChangeAt Go.RowKit

theorem TellPost.val {m : Option (List G)} {J : Inv G} {Jx : World → (Nat → Prop) → Prop} {pre : List G} {Y : Nat → Prop} {e : Ending} {W : World} (h : TellPost m J Jx pre Y e W) : e = .returned (.bool m.isSome) := by
  rcases h with ⟨lst, rfl, h, _⟩ | ⟨rfl, h, _⟩
  · exact h
  · exact h
/-- The names of the first ones. -/
def namesTo (kid : Nat → X) (k : Nat) : Nat := (flatTo (fun i => namesD (kid i) 0) k).length
theorem namesTo_succ (kid : Nat → X) (k : Nat) : namesTo kid (k + 1) = namesTo kid k + (namesD (kid k) 0).length := by simp [namesTo, flatTo]
theorem namesTo_le (kid : Nat → X) {j k : Nat} (h : j ≤ k) : namesTo kid j ≤ namesTo kid k := by
  induction k with
  | zero => simp at h; subst h; exact Nat.le_refl _
  | succ k ih =>
    rcases Nat.lt_or_ge j (k + 1) with h1 | h1
    · have := ih (by omega); rw [namesTo_succ]; omega
    · have : j = k + 1 := by omega
      subst this; exact Nat.le_refl _
theorem matchTo_len {kid xk : Nat → X} (k : Nat) : ∀ lst, (∀ i, i < k → okG (kid i)) → matchTo (fun i => matchG (kid i) (xk i)) k = some lst → lst.length = namesTo kid k := by
  induction k with
  | zero => intro lst _ h; simp only [matchTo] at h; injection h with h; subst h; rfl
  | succ k ih =>
    intro lst hok h
    simp only [matchTo] at h
    cases hA : matchTo (fun i => matchG (kid i) (xk i)) k with
    | none => rw [hA] at h; cases h
    | some A =>
      rw [hA] at h
      cases hB : matchG (kid k) (xk k) with
      | none => rw [hB] at h; cases h
      | some B =>
        rw [hB] at h
        injection h with h
        subst h
        rw [List.length_append, ih A (fun i hi => hok i (by omega)) hA, matchG_len _ _ _ (hok k (by omega)) hB, namesTo_succ]
theorem matchTo_none {f : Nat → Option (List G)} {j k : Nat} (h : matchTo f j = none) (hk : j ≤ k) : matchTo f k = none := by
  induction k with
  | zero => have : j = 0 := by omega
            subst this; exact h
  | succ k ih =>
    rcases Nat.lt_or_ge k j with h1 | h1
    · have : j = k + 1 := by omega
      subst this; exact h
    · simp only [matchTo, ih h1]; rfl

set_option maxRecDepth 100000 in
set_option maxHeartbeats 4000000 in
theorem tell_one_by_one {l N : Nat} {w0 : World} {J : Inv G} {Jx : World → (Nat → Prop) → Prop} (T : Teller l N w0 J Jx) (k kx : Nat) (kid xk : Nat → X) (ih : ∀ i, i < k → TellAt (kid i)) (u ux : Value) (hu : XsAt 0 w0 k kid u) (hux : XsAt 0 w0 kx xk ux) (hk : k ≤ kx)
    (hgood : ∀ i, i < k → okG (kid i) ∧ (kid i).count ≤ 1048577 ∧ (xk i).Small ∧ (xk i).count ≤ 1048577) (pre : List G) (W : World) (Y : Nat → Prop) (hj : J pre W Y) (hN : pre.length + namesTo kid k ≤ N) :
    Calls Tryz.prog 77 #[u, ux, .func (.yield l) #[] #[]] W fun e W' => TellPost (matchTo (fun i => matchG (kid i) (xk i)) k) J Jx pre Y e W' := by
  obtain ⟨pu, cu, rfl, hlen, hat⟩ := hu.at
  obtain ⟨px, cx, rfl, hlenx, hatx⟩ := hux.at
  unfold maxLen at hlen hlenx
  have HT : Hid (Teller l N w0 J Jx) := T
  have IH : Hid (∀ i, i < k → TellAt (kid i)) := ih
  have HAT : Hid (∀ i, i < k → ∃ b o sv u, pu = some ⟨b, o, none⟩ ∧ Head6 w0 b (o + i * 6) (kid i) sv u ∧ (kid i).At 0 w0 sv u) := hat
  have HAX : Hid (∀ i, i < kx → ∃ b o sv u, px = some ⟨b, o, none⟩ ∧ Head6 w0 b (o + i * 6) (xk i) sv u ∧ (xk i).At 0 w0 sv u) := hatx
  have HG : Hid (∀ i, i < k → okG (kid i) ∧ (kid i).count ≤ 1048577 ∧ (xk i).Small ∧ (xk i).count ≤ 1048577) := hgood
  have HN : Hid (pre.length + namesTo kid k ≤ N) := hN
  have HJ : Hid (J pre W Y) := hj
  obtain ⟨f, hf⟩ : ∃ f : Nat → Option (List G), f = fun i => matchG (kid i) (xk i) := ⟨_, rfl⟩
  have HF : Hid (f = fun i => matchG (kid i) (xk i)) := hf
  rw [← hf]
  clear T ih hat hatx hgood hN hj hu hux hf
  go_enter Tryz.func77, Tryz.ntmps77
  go_wp2_with fail
  go_loopw [11] (fun i wr => ∃ (j : Nat) (lst : List G), i = .int .i64 j ∧ j ≤ k ∧ matchTo f j = some lst ∧ J (pre ++ lst) wr Y) (fun i _ => k - (intOf i).toNat)
  case atStart => exact ⟨0, [], rfl, Nat.zero_le _, rfl, by rw [List.append_nil]; exact HJ.out⟩
  case round =>
    obtain ⟨j, lst, rfl, hjk, hm, hjr⟩ := hrel
    have HM : Hid (matchTo f j = some lst) := hm
    have HJR : Hid (J (pre ++ lst) wr Y) := hjr
    clear hm hjr HJ
    by_cases hlt : (j : Int) < k
    · have hb := HT.out.base _ _ _ HJR.out
      obtain ⟨b, o, su, u, hp, hd, hin⟩ := HAT.out j (by omega)
      obtain ⟨b2, o2, sx, ux, hp2, hd2, hin2⟩ := HAX.out j (by omega)
      subst hp hp2
      obtain ⟨c0, c1, c2, c3, c4, c5⟩ := hd.below hb
      obtain ⟨z0, z1, z2, z3, z4, z5⟩ := hd2.below hb
      obtain ⟨q1, r1, e1⟩ := hin.xs.shape
      obtain ⟨q2, r2, e2⟩ := hin.sets.shape
      subst e1 e2
      have HIN : Hid ((kid j).At 0 w0 (.slice q2 (kid j).set.length r2) (.slice q1 (kid j).len r1) ∧ (xk j).At 0 w0 sx ux) := ⟨hin, hin2⟩
      have hnb := newx wr (.cells #[.int .i64 (kid j).op, .int .i64 (kid j).at_, .int .i64 (kid j).n, .string (kid j).s, .slice q2 (kid j).set.length r2, .slice q1 (kid j).len r1] 32)
      have hz : ∀ (a : Addr) (v : Value), wr.cell? a = some v → (wr.alloc (.cells #[.int .i64 (kid j).op, .int .i64 (kid j).at_, .int .i64 (kid j).n, .string (kid j).s, .slice q2 (kid j).set.length r2, .slice q1 (kid j).len r1] 32)).cell? a = some v := fun a v h => keepsX hnb a v h
      have y0 := hz _ _ z0; have y1 := hz _ _ z1; have y2 := hz _ _ z2; have y3 := hz _ _ z3; have y4 := hz _ _ z4; have y5 := hz _ _ z5
      have HJA : Hid (J (pre ++ lst) (wr.alloc (.cells #[.int .i64 (kid j).op, .int .i64 (kid j).at_, .int .i64 (kid j).n, .string (kid j).s, .slice q2 (kid j).set.length r2, .slice q1 (kid j).len r1] 32)).drew Y) := HT.out.keep HJR.out hnb.drew
      have HB : Hid ((pre ++ lst).length + (namesD (kid j) 0).length ≤ N) := by
        have h1 := matchTo_len (kid := kid) (xk := xk) j lst (fun i hi => (HG.out i (by omega)).1) (by rw [← HF.out]; exact HM.out)
        have h2 := namesTo_le kid (show j + 1 ≤ k by omega)
        rw [namesTo_succ] at h2
        have h3 := HN.out
        show _ ≤ _
        rw [List.length_append]
        omega
      obtain ⟨m, hmm⟩ : ∃ m, m = matchG (kid j) (xk j) := ⟨_, rfl⟩
      have HMM : Hid (m = matchG (kid j) (xk j)) := hmm
      clear hd hd2 hin hin2 hb hz hnb hmm
      go_upto_region 4 with fail
      go_region_with (go_at_call 45; refine (IH.out j (by omega) l N w0 J Jx HT.out (xk j) _ _ _ _ (pre ++ lst) _ Y HIN.out.1 HIN.out.2 (HG.out j (by omega)).2.2.1 (HG.out j (by omega)).2.2.2 (HG.out j (by omega)).2.1 (HG.out j (by omega)).1 HJA.out HB.out).mono ?_; rintro e w2 hpost; rw [← HMM.out] at hpost; have he := hpost.val; subst he; have HPO : Hid (TellPost m J Jx (pre ++ lst) Y (.returned (.bool m.isSome)) w2) := hpost; clear hpost)
      all_goals
        rcases HPO.out with ⟨lst2, hms, _, hj2⟩ | ⟨hms, _, hj2⟩
        · have HJ2 : Hid (J (pre ++ lst ++ lst2) w2 Y) := hj2
          have HS : Hid (matchTo f (j + 1) = some (lst ++ lst2)) := by
            have h1 : f j = some lst2 := by rw [HF.out, ← hms]; exact HMM.out.symm
            show matchTo f (j + 1) = some (lst ++ lst2)
            simp only [matchTo, HM.out, h1]
            rfl
          clear hj2 HPO HMM
          subst hms
          clear y0 y1 y2 y3 y4 y5
          go_wp2_with fail
          constructor
          · exact ⟨j + 1, _, rfl, by omega, HS.out, by rw [← List.append_assoc]; exact HJ2.out⟩
          · simp [intOf]; omega
        · have HJ2 : Hid (Jx w2 Y) := hj2
          have HS : Hid (matchTo f k = none) := by
            have h1 : f j = none := by rw [HF.out, ← hms]; exact HMM.out.symm
            refine matchTo_none (j := j + 1) ?_ (by omega)
            simp only [matchTo, HM.out, h1]
            rfl
          clear hj2 HPO HMM
          subst hms
          clear y0 y1 y2 y3 y4 y5
          go_wp2_with fail
          go_ret
          exact .inr ⟨HS.out, rfl, HJ2.out⟩
    · have hje : j = k := by omega
      subst hje
      go_wp2_with fail
      go_ret
      exact .inl ⟨lst, HM.out, rfl, HJR.out⟩
end Go.Proofs.YtlclfmjpnchmbaaGreat

/- impl.tellOfKids, out of impl.tellGots for the kids and impl.tellOfEach. Written by wip/tools/mktellkids.py. -/
namespace Go.Proofs.YtlclfmjpnchmbaaGreat
open Go.ChangeShapes Go.WideShapes Go.ChangeAt Go.RowKit

def EachAt (p : X) : Prop := ∀ (l N : Nat) (w0 : World) (J : Inv G) (Jx : World → (Nat → Prop) → Prop), Teller l N w0 J Jx → ∀ (n : Nat) (kid : Nat → X) (su u v : Value) (pre : List G) (W : World) (Y : Nat → Prop),
  p.At 0 w0 su u → XsAt 0 w0 n kid v → (∀ i, i < n → (kid i).Small ∧ (kid i).count ≤ 1048577) → n ≤ 1048577 → p.count ≤ 1048577 → okG p → J pre W Y → pre.length + (namesD p 0).length ≤ N →
  Calls Tryz.prog 78 #[aggX p su u, v, .func (.yield l) #[] #[]] W fun e W' => TellPost (eachG (namesD p 0) (fun j => matchG p (kid j)) n) J Jx pre Y e W'

theorem XsAt.cap {B : Nat} {w : World} {len : Nat} {kid : Nat → X} {p : Option Addr} {cap : Nat} (h : XsAt B w len kid (.slice p len cap)) : len ≤ cap := by
  rcases h with ⟨rfl, p, c, e⟩ | ⟨b, o, c, U, V, e, _, h, _⟩
  · exact Nat.zero_le _
  · injection e with _ _ e
    rw [e]; exact h
/-- The first ones. -/
theorem XsAt.front {B : Nat} {w : World} {len : Nat} {kid : Nat → X} {p : Option Addr} {cap : Nat} (h : XsAt B w len kid (.slice p len cap)) (j : Nat) (hj : j ≤ len) : XsAt B w j kid (sliced p 0 j cap 6) := by
  rcases h with ⟨rfl, p', c, e⟩ | ⟨b, o, c, U, V, e, h1, h2, h3, h4⟩
  · have : j = 0 := by omega
    subst this
    exact .inl ⟨rfl, _, _, rfl⟩
  · injection e with e1 e2 e3
    subst e1 e3
    refine .inr ⟨b, o, cap, U, V, ?_, h1, by omega, h3, fun i hi => h4 i (by omega)⟩
    simp [sliced, Addr.add]
/-- The rest. -/
theorem XsAt.rest {B : Nat} {w : World} {len : Nat} {kid : Nat → X} {p : Option Addr} {cap : Nat} (h : XsAt B w len kid (.slice p len cap)) (j : Nat) (hj : j ≤ len) : XsAt B w (len - j) (fun i => kid (j + i)) (sliced p j len cap 6) := by
  rcases h with ⟨rfl, p', c, e⟩ | ⟨b, o, c, U, V, e, h1, h2, h3, h4⟩
  · have : j = 0 := by omega
    subst this
    exact .inl ⟨rfl, _, _, rfl⟩
  · injection e with e1 e2 e3
    subst e1 e3
    by_cases hl : cap = j
    · exact .inl ⟨by omega, _, _, by simp only [sliced]; rw [show len - j = 0 by omega]⟩
    · refine .inr ⟨b, o + j * 6, cap - j, fun i => U (j + i), fun i => V (j + i), ?_, h1, by omega, by omega, fun i hi => ?_⟩
      · simp [sliced, Addr.add, hl]
      · have := h4 (j + i) (by omega)
        rw [show o + (j + i) * 6 = o + j * 6 + i * 6 by rw [Nat.add_mul, Nat.add_assoc]] at this
        exact this

theorem names_len_any (t : X) (d : Int) : (namesD t d).length = (namesD t 0).length := by
  have := namesD_deeper t 0 d
  rw [Int.zero_add] at this
  rw [this]
  simp [deeper]
theorem namesTo_in (p : X) {k : Nat} (hk : k ≤ p.len) : namesTo p.kid k ≤ (namesD p 0).length := by
  rw [namesD_eq, List.length_append]
  have h : ∀ k, (flatTo (fun i => namesD (p.kid i) (kidDeep p.len p.kid 0 i)) k).length = namesTo p.kid k := by
    intro k
    induction k with
    | zero => rfl
    | succ k ih => rw [namesTo_succ, flatTo, List.length_append, ih, names_len_any]
  have := namesTo_le p.kid hk
  rw [h]
  omega
theorem kids_ok {p : X} (hok : okG p) {i : Nat} (hi : i < p.len) (h : oftenX p.len p.kid = -1 ∨ i + 1 < p.len) : okG (p.kid i) := by
  cases p with
  | no => exact hok.elim
  | mk op a n s set len kid =>
    rcases hok.2.2.2 i hi with ⟨hd, hl, h0, _⟩ | h'
    · exfalso
      rcases h with h | h
      · have h : oftenX len kid = -1 := h
        unfold oftenX at h
        have e : len - 1 = i := by omega
        rw [e, if_pos ⟨by omega, hd⟩] at h
        omega
      · have h : i + 1 < len := h
        omega
    · exact h'
theorem often_two {len : Nat} {kid : Nat → X} (h : oftenX len kid ≠ -1) : 2 ≤ len ∧ oftenX len kid = ((len - 2 : Nat) : Int) := by
  unfold oftenX at h ⊢
  split at h
  · rename_i h2
    rw [if_pos h2]
    exact ⟨h2.1, by omega⟩
  · exact absurd rfl h
theorem kids_all {p x : X} (h3 : p.op = 3) (hx : x.op = 3) (ho : oftenX p.len p.kid = -1) (hl : x.len = p.len) : matchG p x = matchTo (fun i => matchG (p.kid i) (x.kid i)) p.len := by
  cases p with
  | no => simp [X.op] at h3
  | mk op a n s set len kid =>
    have h3' : op = 3 := h3
    rw [matchG, if_neg (by omega), if_neg (by omega), if_pos ⟨h3', hx⟩, if_pos (show oftenX len kid = -1 from ho), if_pos (show x.len = len from hl)]
    rfl
theorem kids_no {p x : X} (h3 : p.op = 3) (hx : x.op = 3) (ho : oftenX p.len p.kid = -1) (hl : x.len ≠ p.len) : matchG p x = none := by
  cases p with
  | no => rfl
  | mk op a n s set len kid =>
    have h3' : op = 3 := h3
    rw [matchG, if_neg (by omega), if_neg (by omega), if_pos ⟨h3', hx⟩, if_pos (show oftenX len kid = -1 from ho), if_neg (show ¬ x.len = len from hl)]
theorem kids_few {p x : X} (h3 : p.op = 3) (hx : x.op = 3) (ho : oftenX p.len p.kid ≠ -1) (hl : x.len < p.len - 2) : matchG p x = none := by
  cases p with
  | no => rfl
  | mk op a n s set len kid =>
    have h3' : op = 3 := h3
    rw [matchG, if_neg (by omega), if_neg (by omega), if_pos ⟨h3', hx⟩, if_neg (show ¬ oftenX len kid = -1 from ho), if_pos (show x.len < len - 2 from hl)]
theorem kids_more {p x : X} (h3 : p.op = 3) (hx : x.op = 3) (ho : oftenX p.len p.kid ≠ -1) (hl : ¬ x.len < p.len - 2) : matchG p x = (matchTo (fun i => matchG (p.kid i) (x.kid i)) (p.len - 2)).bind fun a => (eachG (namesD (p.kid (p.len - 2)) 0) (fun j => matchG (p.kid (p.len - 2)) (x.kid (p.len - 2 + j))) (x.len - (p.len - 2))).map fun b => a ++ b := by
  cases p with
  | no => simp [X.op] at h3
  | mk op a n s set len kid =>
    have h3' : op = 3 := h3
    rw [matchG, if_neg (by omega), if_neg (by omega), if_pos ⟨h3', hx⟩, if_neg (show ¬ oftenX len kid = -1 from ho), if_neg (show ¬ x.len < len - 2 from hl)]
    rfl
theorem kids_post {mm m1 m2 : Option (List G)} {J : Inv G} {Jx : World → (Nat → Prop) → Prop} {pre lst : List G} {Y : Nat → Prop} {W : World} (hm : mm = m1.bind fun a => m2.map fun b => a ++ b) (h1 : m1 = some lst) (h : TellPost m2 J Jx (pre ++ lst) Y (.returned (.bool m2.isSome)) W) : TellPost mm J Jx pre Y (.returned (.bool m2.isSome)) W := by
  subst hm h1
  rcases h with ⟨l2, rfl, h, hj⟩ | ⟨rfl, h, hj⟩
  · exact .inl ⟨lst ++ l2, rfl, rfl, by rw [← List.append_assoc]; exact hj⟩
  · exact .inr ⟨rfl, rfl, hj⟩
theorem kid_count {t : X} {i : Nat} (hi : i < t.len) : (t.kid i).count ≤ t.count := by
  cases t with
  | no => simp [X.len] at hi
  | mk op a n s set len kid =>
    have hc : (X.mk op a n s set len kid).count = 1 + sumX (fun i => (kid i).count) len := rfl
    have h2 := sumX_at (fun i => (kid i).count) i len hi
    have : ((X.mk op a n s set len kid).kid i).count = (kid i).count := rfl
    omega
theorem len_count (t : X) : t.len ≤ t.count := by
  cases t with
  | no => simp [X.len]
  | mk op a n s set len kid =>
    have hc : (X.mk op a n s set len kid).count = 1 + sumX (fun i => (kid i).count) len := rfl
    have h2 := sumX_len (fun i => (kid i).count) (fun i => X.count_pos _) len
    have : (X.mk op a n s set len kid).len = len := rfl
    omega

set_option maxRecDepth 100000 in
set_option maxHeartbeats 4000000 in
theorem tell_kids (p : X) (ih : ∀ i, i < p.len → TellAt (p.kid i)) (ihe : ∀ i, i < p.len → EachAt (p.kid i)) : KidsAt p := by
  intro l N w0 J Jx T x u ux pre W Y hu hux hsm hxc hpc hok h3 hx3 hj hN
  obtain ⟨pu, cu, rfl⟩ := hu.shape
  obtain ⟨px, cx, rfl⟩ := hux.shape
  have HT : Hid (Teller l N w0 J Jx) := T
  have HU : Hid (XsAt 0 w0 p.len p.kid (.slice pu p.len cu) ∧ XsAt 0 w0 x.len x.kid (.slice px x.len cx)) := ⟨hu, hux⟩
  have HP : Hid (x.Small ∧ x.count ≤ 1048577 ∧ p.count ≤ 1048577 ∧ okG p ∧ p.op = 3 ∧ x.op = 3 ∧ pre.length + (namesD p 0).length ≤ N) := ⟨hsm, hxc, hpc, hok, h3, hx3, hN⟩
  have HJ : Hid (J pre W Y) := hj
  have IH0 : Hid ((∀ i, i < p.len → TellAt (p.kid i)) ∧ ∀ i, i < p.len → EachAt (p.kid i)) := ⟨ih, ihe⟩
  have hcu := hu.cap
  have hcx := hux.cap
  obtain ⟨mm, hmm⟩ : ∃ m, m = matchG p x := ⟨_, rfl⟩
  have HMP : Hid (mm = matchG p x) := hmm
  rw [← hmm]
  have hl1 := Nat.le_trans (len_count p) hpc
  have hl2 := Nat.le_trans (len_count x) hxc
  clear ih ihe T hu hux hsm hxc hpc hok hj hN hmm h3 hx3
  go_enter Tryz.func61, Tryz.ntmps61
  go_wp2_with fail
  refine (repeated_ok p.len p.kid W _ (XsAt.below (HT.out.base _ _ _ HJ.out) HU.out.1)).mono ?_
  rintro e w1 ⟨rfl, hb1⟩
  have HJ1 : Hid (J pre w1 Y) := HT.out.keep HJ.out hb1
  clear hb1 HJ
  by_cases ho : oftenX p.len p.kid = -1
  · rw [ho]
    have HO : Hid (oftenX p.len p.kid = -1) := ho
    clear ho
    by_cases hxl : x.len = p.len
    · have HXL : Hid (x.len = p.len) := hxl
      have e1 : ((x.len : Int) == (p.len : Int)) = true := by rw [beq_iff_eq]; omega
      have e1' : (x.len == p.len) = true := by simpa using hxl
      clear hxl
      go_wp2_with fail
      refine (tell_one_by_one HT.out p.len x.len p.kid x.kid IH0.out.1 _ _ HU.out.1 HU.out.2 (by rw [HXL.out]; exact Nat.le_refl _) (fun i hi => ⟨kids_ok HP.out.2.2.2.1 hi (.inl HO.out), Nat.le_trans (kid_count hi) HP.out.2.2.1, small_kid HP.out.1 i (by rw [HXL.out]; exact hi), Nat.le_trans (kid_count (by rw [HXL.out]; exact hi)) HP.out.2.1⟩) pre _ Y HJ1.out (by have := namesTo_in p (Nat.le_refl _); have := HP.out.2.2.2.2.2.2; omega)).mono ?_
      rintro e w2 hpost
      rw [← kids_all HP.out.2.2.2.2.1 HP.out.2.2.2.2.2.1 HO.out HXL.out, ← HMP.out] at hpost
      have he := hpost.val
      subst he
      have HPO : Hid (TellPost mm J Jx pre Y (.returned (.bool mm.isSome)) w2) := hpost
      clear hpost
      go_wp2_with fail
      go_ret
      exact HPO.out
    · have HM : Hid (mm = none) := HMP.out.trans (kids_no HP.out.2.2.2.2.1 HP.out.2.2.2.2.2.1 HO.out hxl)
      have e1 : ((x.len : Int) == (p.len : Int)) = false := by rw [beq_eq_false_iff_ne]; omega
      have e1' : (x.len == p.len) = false := by rw [beq_eq_false_iff_ne]; omega
      clear hxl
      go_wp2_with fail
      refine (tell_misfit HT.out pre _ Y HJ1.out).mono ?_
      rintro e w3 ⟨rfl, hj3, -⟩
      have HJ3 : Hid (Jx w3 Y) := hj3
      clear hj3
      go_wp2_with fail
      go_ret
      exact .inr ⟨HM.out, rfl, HJ3.out⟩
  · obtain ⟨hp2, hoe⟩ := often_two ho
    rw [hoe]
    have HO : Hid (oftenX p.len p.kid ≠ -1) := ho
    have hne : (((p.len - 2 : Nat) : Int) == -1) = false := by rw [beq_eq_false_iff_ne]; omega
    clear ho hoe
    by_cases hxl : x.len < p.len - 2
    · have HM : Hid (mm = none) := HMP.out.trans (kids_few HP.out.2.2.2.2.1 HP.out.2.2.2.2.2.1 HO.out hxl)
      have e1 : decide (x.len < p.len - 2) = true := decide_eq_true hxl
      have e1' : decide ((x.len : Int) < ((p.len - 2 : Nat) : Int)) = true := decide_eq_true (by omega)
      go_wp2_with fail
      refine (tell_misfit HT.out pre _ Y HJ1.out).mono ?_
      rintro e w3 ⟨rfl, hj3, -⟩
      have HJ3 : Hid (Jx w3 Y) := hj3
      clear hj3
      go_wp2_with fail
      go_ret
      exact .inr ⟨HM.out, rfl, HJ3.out⟩
    · obtain ⟨m1, hf⟩ : ∃ m, m = matchTo (fun i => matchG (p.kid i) (x.kid i)) (p.len - 2) := ⟨_, rfl⟩
      obtain ⟨m2, hf2⟩ : ∃ m, m = eachG (namesD (p.kid (p.len - 2)) 0) (fun j => matchG (p.kid (p.len - 2)) (x.kid (p.len - 2 + j))) (x.len - (p.len - 2)) := ⟨_, rfl⟩
      have HF : Hid (m1 = matchTo (fun i => matchG (p.kid i) (x.kid i)) (p.len - 2)) := hf
      have HF2 : Hid (m2 = eachG (namesD (p.kid (p.len - 2)) 0) (fun j => matchG (p.kid (p.len - 2)) (x.kid (p.len - 2 + j))) (x.len - (p.len - 2))) := hf2
      have HMM : Hid (mm = m1.bind fun a => m2.map fun b => a ++ b) := by
        show mm = _
        rw [hf, hf2]
        exact HMP.out.trans (kids_more HP.out.2.2.2.2.1 HP.out.2.2.2.2.2.1 HO.out hxl)
      clear hf hf2
      have hnt := namesTo_in p (k := p.len - 2 + 1) (by omega)
      rw [namesTo_succ] at hnt
      have hNN := HP.out.2.2.2.2.2.2
      obtain ⟨q, cq, e, _, hat⟩ := HU.out.1.at
      injection e with e1 _ e2
      subst e1 e2
      obtain ⟨b, o, sv, uv, rfl, hhd, hin⟩ := hat (p.len - 2) (by omega)
      obtain ⟨pk, ck, rfl⟩ := hin.xs.shape
      obtain ⟨ps, cs, rfl⟩ := hin.sets.shape
      have HHD : Hid (Head6 w0 b (o + (p.len - 2) * 6) (p.kid (p.len - 2)) (.slice ps (p.kid (p.len - 2)).set.length cs) (.slice pk (p.kid (p.len - 2)).len ck)) := hhd
      have HIN : Hid ((p.kid (p.len - 2)).At 0 w0 (.slice ps (p.kid (p.len - 2)).set.length cs) (.slice pk (p.kid (p.len - 2)).len ck)) := hin
      obtain ⟨qx, hqx⟩ : ∃ qx, qx = (if cx = 0 then px else px.map (·.add (0 * 6))) := ⟨_, rfl⟩
      obtain ⟨rx, hrx⟩ : ∃ rx, rx = (if cx = p.len - 2 then px else px.map (·.add ((p.len - 2) * 6))) := ⟨_, rfl⟩
      have s1 := HU.out.1.front (p.len - 2) (by omega)
      have s2 := HU.out.2.front (p.len - 2) (by omega)
      have s3 := HU.out.2.rest (p.len - 2) (by omega)
      simp only [sliced] at s1 s2 s3
      rw [← hqx] at s2
      rw [← hrx] at s3
      have HSL : Hid (XsAt 0 w0 (p.len - 2) p.kid (.slice (some ⟨b, o, none⟩) (p.len - 2) cu) ∧ XsAt 0 w0 (p.len - 2) x.kid (.slice qx (p.len - 2) cx) ∧ pre.length + namesTo p.kid (p.len - 2) ≤ N ∧ ∀ i, i < p.len - 2 → okG (p.kid i) ∧ (p.kid i).count ≤ 1048577 ∧ (x.kid i).Small ∧ (x.kid i).count ≤ 1048577) :=
        ⟨by simpa [Addr.add] using s1, by simpa using s2, by omega, fun i hi => ⟨kids_ok HP.out.2.2.2.1 (by omega) (.inr (by omega)), Nat.le_trans (kid_count (by omega)) HP.out.2.2.1, small_kid HP.out.1 i (by omega), Nat.le_trans (kid_count (by omega)) HP.out.2.1⟩⟩
      have HEA : Hid (XsAt 0 w0 (x.len - (p.len - 2)) (fun i => x.kid (p.len - 2 + i)) (.slice rx (x.len - (p.len - 2)) (cx - (p.len - 2))) ∧ (∀ i, i < x.len - (p.len - 2) → (x.kid (p.len - 2 + i)).Small ∧ (x.kid (p.len - 2 + i)).count ≤ 1048577) ∧ x.len - (p.len - 2) ≤ 1048577 ∧ (p.kid (p.len - 2)).count ≤ 1048577 ∧ okG (p.kid (p.len - 2)) ∧ ∀ lst, m1 = some lst → (pre ++ lst).length + (namesD (p.kid (p.len - 2)) 0).length ≤ N) :=
        ⟨s3, fun i hi => ⟨small_kid HP.out.1 _ (by omega), Nat.le_trans (kid_count (by omega)) HP.out.2.1⟩, by omega, Nat.le_trans (kid_count (by omega)) HP.out.2.2.1, kids_ok HP.out.2.2.2.1 (by omega) (.inr (by omega)), fun lst hl => by
          have := matchTo_len (p.len - 2) lst (fun i hi => (HSL.out.2.2.2 i hi).1) (HF.out ▸ hl)
          rw [List.length_append]
          omega⟩
      have HQX : Hid (px = qx) := by
        show px = qx
        rw [hqx]
        cases px <;> simp [Addr.add]
      have HRX : Hid ((if cx = p.len - 2 then px else px.map (·.add ((p.len - 2) * 6))) = rx) := hrx.symm
      have IH : Hid ((∀ i, i < p.len - 2 → TellAt (p.kid i)) ∧ EachAt (p.kid (p.len - 2))) := ⟨fun i hi => IH0.out.1 i (by omega), IH0.out.2 _ (by omega)⟩
      have HJD : Hid (J pre w1.drew Y) := HT.out.keep HJ1.out (Below.refl _ _).drew
      have e1 : decide (x.len < p.len - 2) = false := decide_eq_false hxl
      have e1' : decide ((x.len : Int) < ((p.len - 2 : Nat) : Int)) = false := decide_eq_false (by omega)
      have g1 : ((p.len - 2 : Nat) : Int) ≤ (cu : Int) := by omega
      have g2 : ((p.len - 2 : Nat) : Int) ≤ (cx : Int) := by omega
      have g3 : ((p.len - 2 : Nat) : Int) ≤ (x.len : Int) := by omega
      have g4 : ((p.len - 2 : Nat) : Int) < (p.len : Int) := by omega
      clear hhd hin hat s1 s2 s3 hqx hrx hNN hnt IH0 HJ1 HMP hxl
      go_upto_region 6 with fail
      refine wp_held (S := fun _ => True) (sz := 20) (by kernel_rfl) rfl (fun _ => ?_)
      refine wpAnyH_take (i := 0) (oi := { dst := some 35, op := Op.move (Operand.tmp 0), type := 30, pos := "l07_match.go:150", after := #[], guard := none }) (v := .slice (some ⟨b, o, none⟩) p.len cu) rfl (by kernel_rfl) (by kernel_rfl) (by kernel_rfl) (fun _ _ _ h => h) (Or.inl ⟨by rfl, ?_⟩) trivial ?_
      · intro wq _
        go_simp
      try simp only [Act.put, List.setIfInBounds_toArray, List.set_cons_zero, List.set_cons_succ]
      refine wpAnyH_take (i := 1) (oi := { dst := some 36, op := Op.move (Operand.tmp 7), type := 3, pos := "l07_match.go:150", after := #[], guard := none }) (v := .int .i64 ((p.len - 2 : Nat) : Int)) rfl (by kernel_rfl) (by kernel_rfl) (by kernel_rfl) (fun _ _ _ h => h) (Or.inl ⟨by rfl, ?_⟩) trivial ?_
      · intro wq _
        go_simp
      try simp only [Act.put, List.setIfInBounds_toArray, List.set_cons_zero, List.set_cons_succ]
      refine wpAnyH_take (i := 2) (oi := { dst := some 37, op := Op.slice 30 (Operand.tmp 35) none (some (Operand.tmp 36)) none, type := 30, pos := "l07_match.go:150", after := #[{ on := 0, ground := Ground.data }, { on := 1, ground := Ground.data }], guard := none }) (v := .slice (some ⟨b, o, none⟩) (p.len - 2) cu) rfl (by kernel_rfl) (by kernel_rfl) (by kernel_rfl) (fun _ _ _ h => h) (Or.inl ⟨by rfl, ?_⟩) trivial ?_
      · intro wq _
        go_simp
      try simp only [Act.put, List.setIfInBounds_toArray, List.set_cons_zero, List.set_cons_succ]
      refine wpAnyH_take (i := 3) (oi := { dst := some 38, op := Op.move (Operand.tmp 1), type := 30, pos := "l07_match.go:150", after := #[], guard := none }) (v := .slice px x.len cx) rfl (by kernel_rfl) (by kernel_rfl) (by kernel_rfl) (fun _ _ _ h => h) (Or.inl ⟨by rfl, ?_⟩) trivial ?_
      · intro wq _
        go_simp
      try simp only [Act.put, List.setIfInBounds_toArray, List.set_cons_zero, List.set_cons_succ]
      refine wpAnyH_take (i := 4) (oi := { dst := some 39, op := Op.move (Operand.tmp 7), type := 3, pos := "l07_match.go:150", after := #[], guard := none }) (v := .int .i64 ((p.len - 2 : Nat) : Int)) rfl (by kernel_rfl) (by kernel_rfl) (by kernel_rfl) (fun _ _ _ h => h) (Or.inl ⟨by rfl, ?_⟩) trivial ?_
      · intro wq _
        go_simp
      try simp only [Act.put, List.setIfInBounds_toArray, List.set_cons_zero, List.set_cons_succ]
      refine wpAnyH_take (i := 5) (oi := { dst := some 40, op := Op.slice 30 (Operand.tmp 38) none (some (Operand.tmp 39)) none, type := 30, pos := "l07_match.go:150", after := #[{ on := 3, ground := Ground.data }, { on := 4, ground := Ground.data }], guard := none }) (v := .slice qx (p.len - 2) cx) rfl (by kernel_rfl) (by kernel_rfl) (by kernel_rfl) (fun _ _ _ h => h) (Or.inl ⟨by rfl, ?_⟩) trivial ?_
      · intro wq _
        go_simp; exact HQX.out
      try simp only [Act.put, List.setIfInBounds_toArray, List.set_cons_zero, List.set_cons_succ]
      refine wpAnyH_take (i := 6) (oi := { dst := some 41, op := Op.move (Operand.tmp 2), type := 90, pos := "l07_match.go:150", after := #[], guard := none }) (v := .func (.yield l) #[] #[]) rfl (by kernel_rfl) (by kernel_rfl) (by kernel_rfl) (fun _ _ _ h => h) (Or.inl ⟨by rfl, ?_⟩) trivial ?_
      · intro wq _
        go_simp
      try simp only [Act.put, List.setIfInBounds_toArray, List.set_cons_zero, List.set_cons_succ]
      refine wpAnyH_ready (rs := [7]) (by kernel_rfl) (by simp) ?_
      refine AllReadyH.cons (o := { dst := some 42, op := Op.call { callee := Callee.value (Operand.func 77), args := #[Operand.tmp 37, Operand.tmp 40, Operand.tmp 41], argTypes := #[30, 30, 90] }, type := 4, pos := "l07_match.go:150", after := #[{ on := 2, ground := Ground.data }, { on := 5, ground := Ground.data }, { on := 6, ground := Ground.data }], guard := none }) rfl (fun K hK => ?_) AllReadyH.nil
      go_simp
      refine (tell_one_by_one HT.out (p.len - 2) (p.len - 2) p.kid x.kid IH.out.1 _ _ HSL.out.1 HSL.out.2.1 (Nat.le_refl _) HSL.out.2.2.2 pre _ Y HJD.out HSL.out.2.2.1).mono ?_
      rintro e w2 hpost
      rw [← HF.out] at hpost
      have he := hpost.val
      subst he
      have HPO : Hid (TellPost m1 J Jx pre Y (.returned (.bool m1.isSome)) w2) := hpost
      clear hpost HJD
      refine hK.out _ _ trivial (fun _ => ?_)
      clear hK K
      rcases HPO.out with ⟨lst, hms, _, hj2⟩ | ⟨hms, _, hj2⟩
      · have HJ2 : Hid (J (pre ++ lst) w2 Y) := hj2
        have HM1 : Hid (m1 = some lst) := hms
        rw [hms]
        clear hj2 hms HPO
        try simp only [Act.put, List.setIfInBounds_toArray, List.set_cons_zero, List.set_cons_succ]
        simp only [Option.isSome_some]
        obtain ⟨c0, c1, c2, c3, c4, c5⟩ := HHD.out.below (HT.out.base _ _ _ HJ2.out)
        refine wpAnyH_take (i := 8) (oi := { dst := some 43, op := Op.move (Operand.tmp 42), type := 4, pos := "l07_match.go:150", after := #[{ on := 7, ground := Ground.data }, { on := 7, ground := Ground.chain }], guard := none }) (v := .bool true) rfl (by kernel_rfl) (by kernel_rfl) (by kernel_rfl) (fun _ _ _ h => h) (Or.inl ⟨by rfl, ?_⟩) trivial ?_
        · intro wq _
          go_simp
        try simp only [Act.put, List.setIfInBounds_toArray, List.set_cons_zero, List.set_cons_succ]
        refine wpAnyH_take (i := 9) (oi := { dst := some 44, op := Op.move (Operand.tmp 0), type := 30, pos := "l07_match.go:150", after := #[{ on := 8, ground := Ground.guard }], guard := some (8, true) }) (v := .slice (some ⟨b, o, none⟩) p.len cu) rfl (by kernel_rfl) (by kernel_rfl) (by kernel_rfl) (fun _ _ _ h => h) (Or.inl ⟨by rfl, ?_⟩) trivial ?_
        · intro wq _
          go_simp
        try simp only [Act.put, List.setIfInBounds_toArray, List.set_cons_zero, List.set_cons_succ]
        refine wpAnyH_take (i := 10) (oi := { dst := some 45, op := Op.move (Operand.tmp 7), type := 3, pos := "l07_match.go:150", after := #[{ on := 8, ground := Ground.guard }], guard := some (8, true) }) (v := .int .i64 ((p.len - 2 : Nat) : Int)) rfl (by kernel_rfl) (by kernel_rfl) (by kernel_rfl) (fun _ _ _ h => h) (Or.inl ⟨by rfl, ?_⟩) trivial ?_
        · intro wq _
          go_simp
        try simp only [Act.put, List.setIfInBounds_toArray, List.set_cons_zero, List.set_cons_succ]
        refine wpAnyH_take (i := 11) (oi := { dst := some 46, op := Op.indexAddr 30 (Operand.tmp 44) (Operand.tmp 45), type := 0, pos := "l07_match.go:150", after := #[{ on := 9, ground := Ground.data }, { on := 10, ground := Ground.data }, { on := 8, ground := Ground.guard }], guard := some (8, true) }) (v := .pointer (some ⟨b, o + (p.len - 2) * 6, none⟩)) rfl (by kernel_rfl) (by kernel_rfl) (by kernel_rfl) (fun _ _ _ h => h) (Or.inl ⟨by rfl, ?_⟩) trivial ?_
        · intro wq _
          go_simp
        try simp only [Act.put, List.setIfInBounds_toArray, List.set_cons_zero, List.set_cons_succ]
        refine wpAnyH_take (i := 13) (oi := { dst := some 48, op := Op.move (Operand.tmp 1), type := 30, pos := "l07_match.go:150", after := #[{ on := 8, ground := Ground.guard }], guard := some (8, true) }) (v := .slice px x.len cx) rfl (by kernel_rfl) (by kernel_rfl) (by kernel_rfl) (fun _ _ _ h => h) (Or.inl ⟨by rfl, ?_⟩) trivial ?_
        · intro wq _
          go_simp
        try simp only [Act.put, List.setIfInBounds_toArray, List.set_cons_zero, List.set_cons_succ]
        refine wpAnyH_take (i := 14) (oi := { dst := some 49, op := Op.move (Operand.tmp 7), type := 3, pos := "l07_match.go:150", after := #[{ on := 8, ground := Ground.guard }], guard := some (8, true) }) (v := .int .i64 ((p.len - 2 : Nat) : Int)) rfl (by kernel_rfl) (by kernel_rfl) (by kernel_rfl) (fun _ _ _ h => h) (Or.inl ⟨by rfl, ?_⟩) trivial ?_
        · intro wq _
          go_simp
        try simp only [Act.put, List.setIfInBounds_toArray, List.set_cons_zero, List.set_cons_succ]
        refine wpAnyH_take (i := 15) (oi := { dst := some 50, op := Op.slice 30 (Operand.tmp 48) (some (Operand.tmp 49)) none none, type := 30, pos := "l07_match.go:150", after := #[{ on := 13, ground := Ground.data }, { on := 14, ground := Ground.data }, { on := 8, ground := Ground.guard }], guard := some (8, true) }) (v := .slice rx (x.len - (p.len - 2)) (cx - (p.len - 2))) rfl (by kernel_rfl) (by kernel_rfl) (by kernel_rfl) (fun _ _ _ h => h) (Or.inl ⟨by rfl, ?_⟩) trivial ?_
        · intro wq _
          go_simp; exact HRX.out
        try simp only [Act.put, List.setIfInBounds_toArray, List.set_cons_zero, List.set_cons_succ]
        refine wpAnyH_take (i := 16) (oi := { dst := some 51, op := Op.move (Operand.tmp 2), type := 90, pos := "l07_match.go:150", after := #[{ on := 8, ground := Ground.guard }], guard := some (8, true) }) (v := .func (.yield l) #[] #[]) rfl (by kernel_rfl) (by kernel_rfl) (by kernel_rfl) (fun _ _ _ h => h) (Or.inl ⟨by rfl, ?_⟩) trivial ?_
        · intro wq _
          go_simp
        try simp only [Act.put, List.setIfInBounds_toArray, List.set_cons_zero, List.set_cons_succ]
        refine wpAnyH_ready (rs := [12]) (by kernel_rfl) (by simp) ?_
        refine AllReadyH.cons (o := { dst := some 47, op := Op.load 32 (Operand.tmp 46), type := 32, pos := "l07_match.go:150", after := #[{ on := 11, ground := Ground.data }, { on := 8, ground := Ground.guard }], guard := some (8, true) }) rfl (fun K hK => ?_) AllReadyH.nil
        go_simp
        refine hK.out _ _ trivial (fun _ => ?_)
        clear hK K
        try simp only [Act.put, List.setIfInBounds_toArray, List.set_cons_zero, List.set_cons_succ]
        refine wpAnyH_ready (rs := [17]) (by kernel_rfl) (by simp) ?_
        refine AllReadyH.cons (o := { dst := some 52, op := Op.call { callee := Callee.value (Operand.func 78), args := #[Operand.tmp 47, Operand.tmp 50, Operand.tmp 51], argTypes := #[32, 30, 90] }, type := 4, pos := "l07_match.go:150", after := #[{ on := 12, ground := Ground.data }, { on := 15, ground := Ground.data }, { on := 16, ground := Ground.data }, { on := 8, ground := Ground.chain }, { on := 8, ground := Ground.guard }], guard := some (8, true) }) rfl (fun K hK => ?_) AllReadyH.nil
        go_simp
        refine (IH.out.2 l N w0 J Jx HT.out (x.len - (p.len - 2)) (fun i => x.kid (p.len - 2 + i)) _ _ _ (pre ++ lst) _ Y HIN.out HEA.out.1 HEA.out.2.1 HEA.out.2.2.1 HEA.out.2.2.2.1 HEA.out.2.2.2.2.1 HJ2.out (HEA.out.2.2.2.2.2 lst HM1.out)).mono ?_
        rintro e w3 hpost
        rw [← HF2.out] at hpost
        have he := hpost.val
        subst he
        have HPO : Hid (TellPost m2 J Jx (pre ++ lst) Y (.returned (.bool m2.isSome)) w3) := hpost
        clear hpost
        refine hK.out _ _ trivial (fun _ => ?_)
        clear hK K
        try simp only [Act.put, List.setIfInBounds_toArray, List.set_cons_zero, List.set_cons_succ]
        refine wpAnyH_take (i := 18) (oi := { dst := some 53, op := Op.pick (Operand.tmp 43) (Operand.tmp 52) (Operand.const (Value.bool false)), type := 4, pos := "l07_match.go:150", after := #[{ on := 8, ground := Ground.data }, { on := 17, ground := Ground.data }], guard := none }) (v := .bool m2.isSome) rfl (by kernel_rfl) (by kernel_rfl) (by kernel_rfl) (fun _ _ _ h => h) (Or.inl ⟨by rfl, ?_⟩) trivial ?_
        · intro wq _
          go_simp
        try simp only [Act.put, List.setIfInBounds_toArray, List.set_cons_zero, List.set_cons_succ]
        refine wpAnyH_take (i := 19) (oi := { dst := some 6, op := Op.assign (Operand.tmp 53), type := 4, pos := "l07_match.go:150", after := #[{ on := 18, ground := Ground.data }, { on := 17, ground := Ground.chain }, { on := 0, ground := Ground.phase }, { on := 1, ground := Ground.phase }, { on := 2, ground := Ground.phase }, { on := 3, ground := Ground.phase }, { on := 4, ground := Ground.phase }, { on := 5, ground := Ground.phase }, { on := 6, ground := Ground.phase }, { on := 7, ground := Ground.phase }, { on := 8, ground := Ground.phase }, { on := 9, ground := Ground.phase }, { on := 10, ground := Ground.phase }, { on := 11, ground := Ground.phase }, { on := 12, ground := Ground.phase }, { on := 13, ground := Ground.phase }, { on := 14, ground := Ground.phase }, { on := 15, ground := Ground.phase }, { on := 16, ground := Ground.phase }, { on := 17, ground := Ground.phase }, { on := 18, ground := Ground.phase }], guard := none }) (v := .bool m2.isSome) rfl (by kernel_rfl) (by kernel_rfl) (by kernel_rfl) (fun _ _ _ h => h) (Or.inl ⟨by rfl, ?_⟩) trivial ?_
        · intro wq _
          go_simp
        try simp only [Act.put, List.setIfInBounds_toArray, List.set_cons_zero, List.set_cons_succ]
        refine wpAnyH_done (by kernel_rfl) ?_ _
        go_wp2_with fail
        go_ret
        exact kids_post HMM.out HM1.out HPO.out
      · have HJ2 : Hid (Jx w2 Y) := hj2
        have HM1 : Hid (m1 = none) := hms
        rw [hms]
        clear hj2 hms HPO
        try simp only [Act.put, List.setIfInBounds_toArray, List.set_cons_zero, List.set_cons_succ]
        simp only [Option.isSome_none]
        refine wpAnyH_take (i := 8) (oi := { dst := some 43, op := Op.move (Operand.tmp 42), type := 4, pos := "l07_match.go:150", after := #[{ on := 7, ground := Ground.data }, { on := 7, ground := Ground.chain }], guard := none }) (v := .bool false) rfl (by kernel_rfl) (by kernel_rfl) (by kernel_rfl) (fun _ _ _ h => h) (Or.inl ⟨by rfl, ?_⟩) trivial ?_
        · intro wq _
          go_simp
        try simp only [Act.put, List.setIfInBounds_toArray, List.set_cons_zero, List.set_cons_succ]
        refine wpAnyH_take (i := 9) (oi := { dst := some 44, op := Op.move (Operand.tmp 0), type := 30, pos := "l07_match.go:150", after := #[{ on := 8, ground := Ground.guard }], guard := some (8, true) }) (v := undef) rfl (by kernel_rfl) (by kernel_rfl) (by kernel_rfl) (fun _ _ _ h => h) (Or.inr ⟨by rfl, rfl⟩) trivial ?_
        try simp only [Act.put, List.setIfInBounds_toArray, List.set_cons_zero, List.set_cons_succ]
        refine wpAnyH_take (i := 10) (oi := { dst := some 45, op := Op.move (Operand.tmp 7), type := 3, pos := "l07_match.go:150", after := #[{ on := 8, ground := Ground.guard }], guard := some (8, true) }) (v := undef) rfl (by kernel_rfl) (by kernel_rfl) (by kernel_rfl) (fun _ _ _ h => h) (Or.inr ⟨by rfl, rfl⟩) trivial ?_
        try simp only [Act.put, List.setIfInBounds_toArray, List.set_cons_zero, List.set_cons_succ]
        refine wpAnyH_take (i := 11) (oi := { dst := some 46, op := Op.indexAddr 30 (Operand.tmp 44) (Operand.tmp 45), type := 0, pos := "l07_match.go:150", after := #[{ on := 9, ground := Ground.data }, { on := 10, ground := Ground.data }, { on := 8, ground := Ground.guard }], guard := some (8, true) }) (v := undef) rfl (by kernel_rfl) (by kernel_rfl) (by kernel_rfl) (fun _ _ _ h => h) (Or.inr ⟨by rfl, rfl⟩) trivial ?_
        try simp only [Act.put, List.setIfInBounds_toArray, List.set_cons_zero, List.set_cons_succ]
        refine wpAnyH_take (i := 12) (oi := { dst := some 47, op := Op.load 32 (Operand.tmp 46), type := 32, pos := "l07_match.go:150", after := #[{ on := 11, ground := Ground.data }, { on := 8, ground := Ground.guard }], guard := some (8, true) }) (v := undef) rfl (by kernel_rfl) (by kernel_rfl) (by kernel_rfl) (fun _ _ _ h => h) (Or.inr ⟨by rfl, rfl⟩) trivial ?_
        try simp only [Act.put, List.setIfInBounds_toArray, List.set_cons_zero, List.set_cons_succ]
        refine wpAnyH_take (i := 13) (oi := { dst := some 48, op := Op.move (Operand.tmp 1), type := 30, pos := "l07_match.go:150", after := #[{ on := 8, ground := Ground.guard }], guard := some (8, true) }) (v := undef) rfl (by kernel_rfl) (by kernel_rfl) (by kernel_rfl) (fun _ _ _ h => h) (Or.inr ⟨by rfl, rfl⟩) trivial ?_
        try simp only [Act.put, List.setIfInBounds_toArray, List.set_cons_zero, List.set_cons_succ]
        refine wpAnyH_take (i := 14) (oi := { dst := some 49, op := Op.move (Operand.tmp 7), type := 3, pos := "l07_match.go:150", after := #[{ on := 8, ground := Ground.guard }], guard := some (8, true) }) (v := undef) rfl (by kernel_rfl) (by kernel_rfl) (by kernel_rfl) (fun _ _ _ h => h) (Or.inr ⟨by rfl, rfl⟩) trivial ?_
        try simp only [Act.put, List.setIfInBounds_toArray, List.set_cons_zero, List.set_cons_succ]
        refine wpAnyH_take (i := 15) (oi := { dst := some 50, op := Op.slice 30 (Operand.tmp 48) (some (Operand.tmp 49)) none none, type := 30, pos := "l07_match.go:150", after := #[{ on := 13, ground := Ground.data }, { on := 14, ground := Ground.data }, { on := 8, ground := Ground.guard }], guard := some (8, true) }) (v := undef) rfl (by kernel_rfl) (by kernel_rfl) (by kernel_rfl) (fun _ _ _ h => h) (Or.inr ⟨by rfl, rfl⟩) trivial ?_
        try simp only [Act.put, List.setIfInBounds_toArray, List.set_cons_zero, List.set_cons_succ]
        refine wpAnyH_take (i := 16) (oi := { dst := some 51, op := Op.move (Operand.tmp 2), type := 90, pos := "l07_match.go:150", after := #[{ on := 8, ground := Ground.guard }], guard := some (8, true) }) (v := undef) rfl (by kernel_rfl) (by kernel_rfl) (by kernel_rfl) (fun _ _ _ h => h) (Or.inr ⟨by rfl, rfl⟩) trivial ?_
        try simp only [Act.put, List.setIfInBounds_toArray, List.set_cons_zero, List.set_cons_succ]
        refine wpAnyH_take (i := 17) (oi := { dst := some 52, op := Op.call { callee := Callee.value (Operand.func 78), args := #[Operand.tmp 47, Operand.tmp 50, Operand.tmp 51], argTypes := #[32, 30, 90] }, type := 4, pos := "l07_match.go:150", after := #[{ on := 12, ground := Ground.data }, { on := 15, ground := Ground.data }, { on := 16, ground := Ground.data }, { on := 8, ground := Ground.chain }, { on := 8, ground := Ground.guard }], guard := some (8, true) }) (v := undef) rfl (by kernel_rfl) (by kernel_rfl) (by kernel_rfl) (fun _ _ _ h => h) (Or.inr ⟨by rfl, rfl⟩) trivial ?_
        try simp only [Act.put, List.setIfInBounds_toArray, List.set_cons_zero, List.set_cons_succ]
        refine wpAnyH_take (i := 18) (oi := { dst := some 53, op := Op.pick (Operand.tmp 43) (Operand.tmp 52) (Operand.const (Value.bool false)), type := 4, pos := "l07_match.go:150", after := #[{ on := 8, ground := Ground.data }, { on := 17, ground := Ground.data }], guard := none }) (v := .bool false) rfl (by kernel_rfl) (by kernel_rfl) (by kernel_rfl) (fun _ _ _ h => h) (Or.inl ⟨by rfl, ?_⟩) trivial ?_
        · intro wq _
          go_simp
        try simp only [Act.put, List.setIfInBounds_toArray, List.set_cons_zero, List.set_cons_succ]
        refine wpAnyH_take (i := 19) (oi := { dst := some 6, op := Op.assign (Operand.tmp 53), type := 4, pos := "l07_match.go:150", after := #[{ on := 18, ground := Ground.data }, { on := 17, ground := Ground.chain }, { on := 0, ground := Ground.phase }, { on := 1, ground := Ground.phase }, { on := 2, ground := Ground.phase }, { on := 3, ground := Ground.phase }, { on := 4, ground := Ground.phase }, { on := 5, ground := Ground.phase }, { on := 6, ground := Ground.phase }, { on := 7, ground := Ground.phase }, { on := 8, ground := Ground.phase }, { on := 9, ground := Ground.phase }, { on := 10, ground := Ground.phase }, { on := 11, ground := Ground.phase }, { on := 12, ground := Ground.phase }, { on := 13, ground := Ground.phase }, { on := 14, ground := Ground.phase }, { on := 15, ground := Ground.phase }, { on := 16, ground := Ground.phase }, { on := 17, ground := Ground.phase }, { on := 18, ground := Ground.phase }], guard := none }) (v := .bool false) rfl (by kernel_rfl) (by kernel_rfl) (by kernel_rfl) (fun _ _ _ h => h) (Or.inl ⟨by rfl, ?_⟩) trivial ?_
        · intro wq _
          go_simp
        try simp only [Act.put, List.setIfInBounds_toArray, List.set_cons_zero, List.set_cons_succ]
        refine wpAnyH_done (by kernel_rfl) ?_ _
        go_wp2_with fail
        go_ret
        exact .inr ⟨by rw [HMM.out, HM1.out]; rfl, rfl, HJ2.out⟩
end Go.Proofs.YtlclfmjpnchmbaaGreat

/- The rows of impl.tellOfEach: each name with what each of the further ones got, growing. No conditions. -/
namespace Go.Proofs.YtlclfmjpnchmbaaGreat
open Go.ChangeShapes Go.WideShapes Go.ChangeAt Go.RowKit Go.Shelf

def upd {α : Type} (f : Nat → α) (j : Nat) (x : α) : Nat → α := fun i => if i = j then x else f i
theorem upd_same {α : Type} (f : Nat → α) (j : Nat) (x : α) : upd f j x j = x := if_pos rfl
theorem upd_other {α : Type} (f : Nat → α) {i j : Nat} (x : α) (h : i ≠ j) : upd f j x i = f i := if_neg h
/-- The blocks of a row. -/
def blG (v : Value) (SS : List (List Nat)) : List Nat := v.ownBlock.toList ++ SS.flatten
/-- The row of a name. -/
def erow (ns : List (ByteArray × Int)) (Ls : Nat → List G) (gv : Nat → Value) (j : Nat) : GR := ⟨.mk (ns.getD j (⟨#[]⟩, 0)).1 ((ns.getD j (⟨#[]⟩, 0)).2 + 1) zeroX (Ls j).length (fun t => (Ls j).getD t .no), .slice none 0 0, .slice none 0 0, gv j⟩
def erows (ns : List (ByteArray × Int)) (Ls : Nat → List G) (gv : Nat → Value) : List GR := (List.range ns.length).map (erow ns Ls gv)
theorem erows_len (ns : List (ByteArray × Int)) (Ls : Nat → List G) (gv : Nat → Value) : (erows ns Ls gv).length = ns.length := by simp [erows]
theorem erows_at (ns : List (ByteArray × Int)) (Ls : Nat → List G) (gv : Nat → Value) {j : Nat} (hj : j < ns.length) : (erows ns Ls gv)[j]? = some (erow ns Ls gv j) := by
  simp [erows, hj]
theorem grows_get (l : List GR) {i : Nat} {q : GR} (h : l[i]? = some q) {j : Nat} (hj : j < 9) : (grows l)[i * 9 + j]? = (gcells q)[j]? := by
  have := grows_at l [] i q h j hj
  rwa [List.append_nil] at this
/-- One more in a row: its slice alone turns. -/
theorem erows_set (ns : List (ByteArray × Int)) (Ls : Nat → List G) (gv : Nat → Value) {j : Nat} (hj : j < ns.length) (L' : List G) (v' : Value) : (grows (erows ns Ls gv)).set (j * 9 + 8) v' = grows (erows ns (upd Ls j L') (upd gv j v')) := by
  apply List.ext_getElem?
  intro k
  have hlen := grows_length (erows ns Ls gv)
  have hlen' := grows_length (erows ns (upd Ls j L') (upd gv j v'))
  rw [erows_len] at hlen hlen'
  rcases Nat.lt_or_ge k (ns.length * 9) with hk | hk
  · obtain ⟨i, q, hq, rfl⟩ : ∃ i q, q < 9 ∧ k = i * 9 + q := ⟨k / 9, k % 9, Nat.mod_lt _ (by omega), by omega⟩
    have hi : i < ns.length := by omega
    rw [grows_get _ (erows_at ns _ _ hi) hq, List.getElem?_set]
    by_cases he : j * 9 + 8 = i * 9 + q
    · have e1 : i = j := by omega
      have e2 : q = 8 := by omega
      subst e1 e2
      rw [if_pos rfl, if_pos (by rw [hlen]; omega)]
      simp [gcells, erow, upd_same]
    · rw [if_neg he, grows_get _ (erows_at ns _ _ hi) hq]
      by_cases hij : i = j
      · subst hij
        have hq8 : q < 8 := by omega
        rcases q with _ | _ | _ | _ | _ | _ | _ | _ | q
        all_goals try rfl
        omega
      · simp only [erow, upd_other _ _ hij]
  · rw [List.getElem?_eq_none (by rw [List.length_set]; omega), List.getElem?_eq_none (by omega)]
theorem erows_nil (ns : List (ByteArray × Int)) : erows ns (fun _ => []) (fun _ => .slice none 0 0) = ns.map emptyR := by
  apply List.ext_getElem
  · simp [erows]
  · intro i h1 h2
    have hi : i < ns.length := by simpa [erows] using h1
    simp only [erows, List.getElem_map, List.getElem_range, erow, emptyR, emptyG]
    rw [List.getD_eq_getElem?_getD, List.getElem?_eq_getElem hi, Option.getD_some]
    simp

structure ER (w : World) (B : Nat) (v : Value) (ns : List (ByteArray × Int)) (Ls : Nat → List G) (gv : Nat → Value) (ll : Nat → List GR) (SSs : Nat → List (List Nat)) : Prop where
  row : w.ownsRow B 48 9 v ns.length (grows (erows ns Ls gv))
  each : ∀ j, j < ns.length → GRow w B (gv j) (Ls j) (ll j) (SSs j)
  dis : ∀ i j, i < ns.length → j < ns.length → i ≠ j → ∀ k, k ∈ blG (gv i) (SSs i) → k ∉ blG (gv j) (SSs j)
  off : ∀ j, j < ns.length → ∀ k, k ∈ blG (gv j) (SSs j) → v.ownBlock ≠ some k
  ge : ∀ j, j < ns.length → ∀ k, k ∈ blG (gv j) (SSs j) → B ≤ k
theorem ER.start {w : World} {B : Nat} {v : Value} {ns : List (ByteArray × Int)} (h : w.ownsRow B 48 9 v ns.length (grows (ns.map emptyR))) : ER w B v ns (fun _ => []) (fun _ => .slice none 0 0) (fun _ => []) (fun _ => []) := by
  rw [← erows_nil] at h
  exact ⟨h, fun j _ => GRow.nil w B, fun i j _ _ _ k hk => by simp [blG, Value.ownBlock] at hk, fun j _ k hk => by simp [blG, Value.ownBlock] at hk, fun j _ k hk => by simp [blG, Value.ownBlock] at hk⟩
theorem ER.same {w w' : World} {B : Nat} {v : Value} {ns : List (ByteArray × Int)} {Ls : Nat → List G} {gv : Nat → Value} {ll : Nat → List GR} {SSs : Nat → List (List Nat)} (h : ER w B v ns Ls gv ll SSs)
    (hs : ∀ k, (v.ownBlock = some k ∨ ∃ j, j < ns.length ∧ k ∈ blG (gv j) (SSs j)) → w'.heap[k]? = w.heap[k]?) : ER w' B v ns Ls gv ll SSs :=
  ⟨own_sameX h.row (fun g hg => hs g (.inl hg)), fun j hj => (h.each j hj).same (fun k hk => hs k (.inr ⟨j, hj, hk⟩)), h.dis, h.off, h.ge⟩
theorem ER.lt {w : World} {B : Nat} {v : Value} {ns : List (ByteArray × Int)} {Ls : Nat → List G} {gv : Nat → Value} {ll : Nat → List GR} {SSs : Nat → List (List Nat)} (h : ER w B v ns Ls gv ll SSs) {k : Nat} (hk : v.ownBlock = some k ∨ ∃ j, j < ns.length ∧ k ∈ blG (gv j) (SSs j)) : B ≤ k ∧ k < w.heap.size := by
  rcases hk with hk | ⟨j, hj, hk⟩
  · exact h.row.lt k hk
  · exact ⟨h.ge j hj k hk, (h.each j hj).lt k hk⟩

/-- One more for the name at j. -/
theorem ER.grow {w F : World} {B : Nat} {v : Value} {ns : List (ByteArray × Int)} {Ls : Nat → List G} {gv : Nat → Value} {ll : Nat → List GR} {SSs : Nat → List (List Nat)} (h : ER w B v ns Ls gv ll SSs) {j : Nat} (hj : j < ns.length) {g : G} {a b c : Value} {Z : List Nat} {g' c' : Nat}
    (hg : GOwn w g a b c Z) (hZ : Z.Nodup) (hZd : ∀ k ∈ Z, (∀ i, i < ns.length → k ∉ blG (gv i) (SSs i)) ∧ v.ownBlock ≠ some k ∧ B ≤ k)
    (k2 : F.ownsRow B 48 9 (.slice (some ⟨g', 0, none⟩) ((Ls j).length + 1) c') ((Ls j).length + 1) (grows (ll j ++ [⟨g, a, b, c⟩]))) (k4 : (gv j).ownBlock = some g' ∨ w.heap.size ≤ g')
    (k3 : ∀ k, (k ∈ Z ∨ ∃ i, i < ns.length ∧ k ∈ blG (gv i) (SSs i)) → ¬ (v.ownBlock = some k ∨ (gv j).ownBlock = some k) → F.heap[k]? = w.heap[k]?)
    (krow : F.ownsRow B 48 9 v ns.length (grows (erows ns (upd Ls j (Ls j ++ [g])) (upd gv j (.slice (some ⟨g', 0, none⟩) ((Ls j).length + 1) c'))))) :
    ER F B v ns (upd Ls j (Ls j ++ [g])) (upd gv j (.slice (some ⟨g', 0, none⟩) ((Ls j).length + 1) c')) (upd ll j (ll j ++ [⟨g, a, b, c⟩])) (upd SSs j (SSs j ++ [Z])) := by
  have hr := h.each j hj
  have hnd := hr.own
  rw [List.nodup_append] at hnd
  obtain ⟨n1, n2, n3⟩ := hnd
  have hown : ∀ k, (gv j).ownBlock = some k → k ∈ blG (gv j) (SSs j) := fun k hk => List.mem_append_left _ (by rw [hk]; simp)
  have hin : ∀ k, k ∈ (SSs j).flatten → k ∈ blG (gv j) (SSs j) := fun k hk => List.mem_append_right _ hk
  have hnew : ∀ k, k ∈ blG (.slice (some ⟨g', 0, none⟩) ((Ls j).length + 1) c') (SSs j ++ [Z]) → k = g' ∨ k ∈ (SSs j).flatten ∨ k ∈ Z := fun k hk => by
    simp only [blG, Value.ownBlock, Option.toList_some, List.flatten_append, List.flatten_singleton, List.mem_append, List.mem_singleton] at hk
    exact hk
  have hgo : ∀ i, i < ns.length → i ≠ j → g' ∉ blG (gv i) (SSs i) := fun i hi hij hk => by
    rcases k4 with h4 | h4
    · exact h.dis j i hj hi (Ne.symm hij) g' (hown _ h4) hk
    · have := (h.each i hi).lt g' hk; omega
  have hgv : v.ownBlock ≠ some g' := fun e => by
    rcases k4 with h4 | h4
    · exact h.off j hj g' (hown _ h4) e
    · have := h.row.lt g' e; omega
  have hgB : B ≤ g' := by
    rcases k4 with h4 | h4
    · exact h.ge j hj g' (hown _ h4)
    · exact (k2.lt g' rfl).1
  have hgs : g' ∉ (SSs j).flatten := fun hk => by
    rcases k4 with h4 | h4
    · exact n3 g' (by rw [h4]; simp) g' hk rfl
    · have := hr.lt g' (hin _ hk); omega
  have hgz : g' ∉ Z := fun hk => by
    rcases k4 with h4 | h4
    · exact (hZd g' hk).1 j hj (hown _ h4)
    · have := hg.there _ g' hk; omega
  refine ⟨krow, fun i hi => ?_, fun i i' hi hi' hne k hk hk' => ?_, fun i hi k hk => ?_, fun i hi k hk => ?_⟩
  · by_cases hij : i = j
    · subst hij
      rw [upd_same, upd_same, upd_same, upd_same]
      refine hr.push (by rw [← grows_snoc]; exact k2) (hg.same _ (fun k hk => k3 k (.inl hk) (fun h1 => ?_))) (fun k hk => k3 k (.inr ⟨i, hi, hin k hk⟩) (fun h1 => ?_)) ?_
      · rcases h1 with h1 | h1
        · exact (hZd k hk).2.1 h1
        · exact (hZd k hk).1 i hi (hown _ h1)
      · rcases h1 with h1 | h1
        · exact h.off i hi k (hin k hk) h1
        · exact n3 k (by rw [h1]; simp) k hk rfl
      · simp only [Value.ownBlock, Option.toList_some, List.flatten_append, List.flatten_singleton, List.singleton_append, List.nodup_cons, List.mem_append, List.nodup_append]
        exact ⟨fun h => h.elim hgs hgz, n2, hZ, fun a' ha b' hb e => (hZd b' hb).1 i hi (hin _ (e ▸ ha))⟩
    · rw [upd_other _ _ hij, upd_other _ _ hij, upd_other _ _ hij, upd_other _ _ hij]
      refine (h.each i hi).same (fun k hk => k3 k (.inr ⟨i, hi, hk⟩) (fun h1 => ?_))
      rcases h1 with h1 | h1
      · exact h.off i hi k hk h1
      · exact h.dis i j hi hj hij k hk (hown _ h1)
  · by_cases hij : i = j
    · subst hij
      rw [upd_same, upd_same] at hk
      rw [upd_other _ _ (Ne.symm hne), upd_other _ _ (Ne.symm hne)] at hk'
      rcases hnew k hk with rfl | h1 | h1
      · exact hgo i' hi' (Ne.symm hne) hk'
      · exact h.dis i i' hi hi' hne k (hin k h1) hk'
      · exact (hZd k h1).1 i' hi' hk'
    · rw [upd_other _ _ hij, upd_other _ _ hij] at hk
      by_cases hij' : i' = j
      · subst hij'
        rw [upd_same, upd_same] at hk'
        rcases hnew k hk' with rfl | h1 | h1
        · exact hgo i hi hij hk
        · exact h.dis i i' hi hi' hne k hk (hin k h1)
        · exact (hZd k h1).1 i hi hk
      · rw [upd_other _ _ hij', upd_other _ _ hij'] at hk'
        exact h.dis i i' hi hi' hne k hk hk'
  · by_cases hij : i = j
    · subst hij
      rw [upd_same, upd_same] at hk
      rcases hnew k hk with rfl | h1 | h1
      · exact hgv
      · exact h.off i hi k (hin k h1)
      · exact (hZd k h1).2.1
    · rw [upd_other _ _ hij, upd_other _ _ hij] at hk
      exact h.off i hi k hk
  · by_cases hij : i = j
    · subst hij
      rw [upd_same, upd_same] at hk
      rcases hnew k hk with rfl | h1 | h1
      · exact hgB
      · exact h.ge i hi k (hin k h1)
      · exact (hZd k h1).2.2
    · rw [upd_other _ _ hij, upd_other _ _ hij] at hk
      exact h.ge i hi k hk
theorem GOwn.congr {w : World} {name : ByteArray} {deep : Int} {one : X} {len : Nat} {sm sm' : Nat → G} {a b c : Value} {T : List Nat} (h : GOwn w (.mk name deep one len sm) a b c T) (he : ∀ i, i < len → sm i = sm' i) : GOwn w (.mk name deep one len sm') a b c T := by
  obtain ⟨hn, S1, S2, rfl, h1, h2⟩ := h.parts
  exact GOwn.mk' hn h1 ((show GsOwn w len sm c S2 from h2).congr he)
/-- What is told of a name. -/
theorem ER.got {w : World} {B : Nat} {v : Value} {ns : List (ByteArray × Int)} {Ls : Nat → List G} {gv : Nat → Value} {ll : Nat → List GR} {SSs : Nat → List (List Nat)} (h : ER w B v ns Ls gv ll SSs) {j : Nat} (hj : j < ns.length) (hn : (ns.getD j (⟨#[]⟩, 0)).1.size ≤ maxLen) (sm : Nat → G) (hs : ∀ t, t < (Ls j).length → (Ls j).getD t .no = sm t) :
    ∃ S, GOwn w (.mk (ns.getD j (⟨#[]⟩, 0)).1 ((ns.getD j (⟨#[]⟩, 0)).2 + 1) zeroX (Ls j).length sm) (.slice none 0 0) (.slice none 0 0) (gv j) S ∧ S.Nodup ∧ ∀ k ∈ S, k ∈ blG (gv j) (SSs j) := by
  obtain ⟨S, h1, h2, h3⟩ := (h.each j hj).gs
  have := GOwn.mk' (deep := (ns.getD j (⟨#[]⟩, 0)).2 + 1) hn (zero_own w) h1
  rw [List.nil_append] at this
  exact ⟨S, this.congr hs, h2, h3⟩
end Go.Proofs.YtlclfmjpnchmbaaGreat
